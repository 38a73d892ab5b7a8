/- A part. -/
import Derived.Test.YteikmbkljkkjiaaSart21
namespace Go.Proofs.Yteikmbkljkkjiaa
open Go Go.RowKit
set_option maxRecDepth 100000
set_option maxHeartbeats 12800000
theorem res6 {fn:Func} {p:Tmp} (h:fn.results=#[.cell p 124]) (tmps:Array Value) (w:World) (g:Nat) (v0 v1 v2 v3 v4 v5:Value) (hp:tmps.getD p undef=.pointer (some ⟨g,0,none⟩)) (hc:w.rowIs g 124 6 (r6a v0 v1 v2 v3 v4 v5)):(results fn tmps).run Try.prog w=.ok (.agg #[v0,v1,v2,v3,v4,v5]) w:=by
 have hp':tmps[p]?.getD undef=.pointer (some ⟨g,0,none⟩):=by simpa using hp
 obtain ⟨dd,hdu,hdr⟩:=rowAcO
 have hl:(loadVar 124 ⟨g,0,none⟩).run Try.prog w=.ok (.agg #[v0,v1,v2,v3,v4,v5]) w:=run_loadVar_mid w g 0 124 [v0,v1,v2,v3,v4,v5] dd (fun j v hv=>by
  have h0:=hc.cell (i:=0) (by omega);have h1:=hc.cell (i:=1) (by omega);have h2:=hc.cell (i:=2) (by omega);have h3:=hc.cell (i:=3) (by omega);have h4:=hc.cell (i:=4) (by omega);have h5:=hc.cell (i:=5) (by omega)
  match j,hv with
  | 0,hv=>simp only [List.getElem?_cons_zero,Option.some.injEq] at hv;subst hv;exact h0
  | 1,hv=>simp only [List.getElem?_cons_succ,List.getElem?_cons_zero,Option.some.injEq] at hv;subst hv;exact h1
  | 2,hv=>simp only [List.getElem?_cons_succ,List.getElem?_cons_zero,Option.some.injEq] at hv;subst hv;exact h2
  | 3,hv=>simp only [List.getElem?_cons_succ,List.getElem?_cons_zero,Option.some.injEq] at hv;subst hv;exact h3
  | 4,hv=>simp only [List.getElem?_cons_succ,List.getElem?_cons_zero,Option.some.injEq] at hv;subst hv;exact h4
  | 5,hv=>simp only [List.getElem?_cons_succ,List.getElem?_cons_zero,Option.some.injEq] at hv;subst hv;exact h5
  | j+6,hv=>simp at hv) hdu hdr info6A
 simp [results,h,hp',asAddr,hl]
theorem l45Act_any (R:Nat) (w:World) (v:Value) (b:List UInt8) (p:Nat) (i cu:Int) (h:DR R w v b p) (hp:p≤1000000) (h0:0≤i) (h1:i≤999999) :
 Calls Try.prog 83 #[.pointer (some ⟨R,0,none⟩),.int .i64 i,.int .i64 cu] w fun e w'=>AcEnd R w w' v b p e:=by
 have HPK:=xH (fun (W:World) (q n:Nat) (hD:DR R W v b q) (hn:1≤n∧n≤1000000) (hq:q≤100000000)=>pick_any R W v b q n hD hn (by omega))
 have hR:=h.cells.lt
 have HDA:=xH (l45Data_any R (w.alloc (.cells #[.int .i64 0,.string ⟨#[]⟩,.bool false,.int .i64 0,.int .i64 0,.slice none 0 0] 124)) v b p i (h.on ((Below.refl _ _).alloc (Nat.le_refl _) _)) (by omega) h0 h1)
 have HB0:=xH (But.alloc R w (.cells #[.int .i64 0,.string ⟨#[]⟩,.bool false,.int .i64 0,.int .i64 0,.slice none 0 0] 124))
 have H60:=xH (r6a_alloc w (.int .i64 0) (.string ⟨#[]⟩) (.bool false) (.int .i64 0) (.int .i64 0) (.slice none 0 0) 124)
 clear h
 go_enter Try.func83,Try.ntmps83
 go_wp2_with fail
 refine HDA.out.mono ?_
 rintro e w1 ⟨d,p1,rfl,hd,hp1,HD1,HB1⟩
 have H61:=xH (H60.out.of_block (HB1.out.at (by simp) (by omega)))
 have HB2:=xH (HB0.out.trans HB1.out)
 have hs1:=HB1.out.size
 rw [World.size_alloc] at hs1
 clear HDA HB0 H60 HB1
 go_upto_region 2 with fail
 have HA1:=xH (show AcT R w (w1.alloc (.cells #[.int .i64 1,.string d,.bool false,.int .i64 0,.int .i64 0,.slice none 0 0] 124)) w1.heap.size v b p1 1 d false 0 0 none 0 [] from
  ⟨by omega,hR,r6a_alloc w1 _ _ _ _ _ _ 124,H61.out.alloc _,World.ownsRow_nil _ _ _ _,fun z hz=>(by cases hz),HD1.out.on ((Below.refl _ _).alloc (Nat.le_refl _) _),HB2.out.trans (But.alloc R w1 _)⟩)
 clear H61 HB2 HD1 hs1
 generalize w1.alloc (.cells #[.int .i64 1,.string d,.bool false,.int .i64 0,.int .i64 0,.slice none 0 0] 124)=W1 at HA1 ⊢
 generalize w1.heap.size=B at HA1 ⊢
 have HP1:=xH (HPK.out W1 p1 10 HA1.out.dr (by omega) (by omega))
 go_wp2_with fail
 refine HP1.out.mono ?_
 rintro e w2 ⟨r,rfl,hr,HD2,HB2⟩
 have HA2:=xH (HA1.out.draw HB2.out HD2.out)
 clear HP1 HA1 HD2 HB2
 have m0:=HA2.out.row.cell (i:=0) (by omega);have m1:=HA2.out.row.cell (i:=1) (by omega);have m2:=HA2.out.row.cell (i:=2) (by omega);have m3:=HA2.out.row.cell (i:=3) (by omega);have m4:=HA2.out.row.cell (i:=4) (by omega);have m5:=HA2.out.row.cell (i:=5) (by omega)
 have z:=HA2.out.row.frozen
 simp only [r6a] at m0 m1 m2 m3 m4 m5
 by_cases r0:(r:Int)=0
 · as_aux_lemma =>
    go_upto_region 10 with fail
    have HA3:=xH (HA2.out.anew 2)
    generalize (((((w2.setCell ⟨B,0,none⟩ (.int .i64 2)).setCell ⟨B,1,none⟩ (.string ⟨#[]⟩)).setCell ⟨B,2,none⟩ (.bool false)).setCell ⟨B,3,none⟩ (.int .i64 0)).setCell ⟨B,4,none⟩ (.int .i64 0)).setCell ⟨B,5,none⟩ (.slice none 0 0)=W3 at HA3 ⊢
    obtain ⟨k3,d3,hd3,HA4⟩:∃ (k3:Int) (d3:ByteArray),d3.size≤2000∧Hid (AcT R w W3 B v b (p1+1) k3 d3 false 0 0 none 0 []):=⟨2,⟨#[]⟩,by show 0≤2000;omega,HA3⟩
    clear HA2 HA3 m0 m1 m2 m3 m4 m5 z
    have HPx:=xH (HPK.out W3 (p1+1) 10 HA4.out.dr (by omega) (by omega))
    go_wp2_with fail
    refine HPx.out.mono ?_
    rintro e w4 ⟨r2,rfl,hrr2,HDx,HBx⟩
    have HA5:=xH (HA4.out.draw HBx.out HDx.out)
    clear HPx HA4 HDx HBx
    by_cases hcu:(r2:Int) < cu
    rotate_left
    · have hcd:decide ((r2:Int) < cu)=false:=decide_eq_false hcu
      have m0:=HA5.out.row.cell (i:=0) (by omega);have m1:=HA5.out.row.cell (i:=1) (by omega);have m2:=HA5.out.row.cell (i:=2) (by omega);have m3:=HA5.out.row.cell (i:=3) (by omega);have m4:=HA5.out.row.cell (i:=4) (by omega);have m5:=HA5.out.row.cell (i:=5) (by omega)
      have y0:=HA5.out.b6.cell (i:=0) (by omega);have y1:=HA5.out.b6.cell (i:=1) (by omega);have y2:=HA5.out.b6.cell (i:=2) (by omega);have y3:=HA5.out.b6.cell (i:=3) (by omega);have y4:=HA5.out.b6.cell (i:=4) (by omega);have y5:=HA5.out.b6.cell (i:=5) (by omega)
      have z6:=HA5.out.b6.frozen
      simp only [r6a] at m0 m1 m2 m3 m4 m5 y0 y1 y2 y3 y4 y5
      have HF:=xH (fun W9 (hW9:W9=(((((w4.setCell ⟨w.heap.size,0,none⟩ (.int .i64 k3)).setCell ⟨w.heap.size,1,none⟩ (.string d3)).setCell ⟨w.heap.size,2,none⟩ (.bool false)).setCell ⟨w.heap.size,3,none⟩ (.int .i64 0)).setCell ⟨w.heap.size,4,none⟩ (.int .i64 0)).setCell ⟨w.heap.size,5,none⟩ (.slice none 0 0))=>And.intro (hW9 ▸ HA5.out.done hd3 (p:=p) (by omega):AcEnd R w W9 v b p (.returned (.agg #[.int .i64 k3,.string d3,.bool false,.int .i64 0,.int .i64 0,.slice none 0 0]))) (hW9 ▸ (set6 w4 w.heap.size (.int .i64 k3) (.string d3) (.bool false) (.int .i64 0) (.int .i64 0) (.slice none 0 0)).2.2 _ _ HA5.out.b6:W9.rowIs w.heap.size 124 6 (r6a (.int .i64 k3) (.string d3) (.bool false) (.int .i64 0) (.int .i64 0) (.slice none 0 0))))
      clear HA5 HPK
      go_wp2_with fail
      try simp only [Exit.inBlock,Exit.then]
      generalize hW9:(((((w4.setCell ⟨w.heap.size,0,none⟩ (.int .i64 k3)).setCell ⟨w.heap.size,1,none⟩ (.string d3)).setCell ⟨w.heap.size,2,none⟩ (.bool false)).setCell ⟨w.heap.size,3,none⟩ (.int .i64 0)).setCell ⟨w.heap.size,4,none⟩ (.int .i64 0)).setCell ⟨w.heap.size,5,none⟩ (.slice none 0 0)=W9
      have HG:=HF.out W9 hW9.symm
      clear m0 m1 m2 m3 m4 m5 y0 y1 y2 y3 y4 y5 z6 hW9 HF
      refine bodyPost_ret (res6 (by rfl) _ W9 w.heap.size _ _ _ _ _ _ (by rfl) HG.2) rfl ?_
      exact HG.1
    · have hcd:decide ((r2:Int) < cu)=true:=decide_eq_true hcu
      have m2:=HA5.out.row.cell (i:=2) (by omega);have z:=HA5.out.row.frozen
      simp only [r6a] at m2
      have HA6:=xH (HA5.out.s2 true)
      clear HA5
      have HPx:=xH (HPK.out _ (p1+1+1) 10 HA6.out.dr (by omega) (by omega))
      go_wp2_with fail
      refine HPx.out.mono ?_
      rintro e w5 ⟨r3,rfl,hrr3,HDx,HBx⟩
      have HA7:=xH (HA6.out.draw HBx.out HDx.out)
      clear HPx HA6 HDx HBx
      clear m2 z
      have m3:=HA7.out.row.cell (i:=3) (by omega);have z:=HA7.out.row.frozen
      simp only [r6a] at m3
      have HA8:=xH (HA7.out.s3 (r3:Int))
      clear HA7
      have HPx:=xH (HPK.out _ (p1+1+1+1) 5 HA8.out.dr (by omega) (by omega))
      go_wp2_with fail
      refine HPx.out.mono ?_
      rintro e w6 ⟨r4,rfl,hrr4,HDx,HBx⟩
      have HA9:=xH (HA8.out.draw HBx.out HDx.out)
      clear HPx HA8 HDx HBx
      clear m3 z
      have m4:=HA9.out.row.cell (i:=4) (by omega);have z:=HA9.out.row.frozen
      simp only [r6a] at m4
      have HB1:=xH (HA9.out.s4 (r4:Int))
      clear HA9
      have HPx:=xH (HPK.out _ (p1+1+1+1+1) 6 HB1.out.dr (by omega) (by omega))
      go_wp2_with fail
      refine HPx.out.mono ?_
      rintro e w7 ⟨r5,rfl,hrr5,HDx,HBx⟩
      have HB2:=xH (HB1.out.draw HBx.out HDx.out)
      clear HPx HB1 HDx HBx
      clear m4 z
      go_wp2_with fail
      go_loopw [8] (fun nn wr=>∃ (k m q:Nat) (ca:Option Addr) (cc:Nat) (zs:List Int),k+m≤6∧nn=.int .i64 m∧q≤p+9+k∧Hid (k=zs.length)∧Hid (AcT R w wr B v b q k3 d3 true r3 r4 ca cc zs)) (fun nn _=>(intOf nn).toNat)
      case atStart=>exact ⟨0,r5,_,none,0,[],by omega,rfl,by omega,rfl,HB2⟩
      case round =>
       clear HB2
       obtain ⟨k,m,q,ca,cc,zs,hkm,rfl,hq,HL,HA⟩:=hrel
       by_cases hm0:m=0
       · subst hm0
         have hkz:=HL.out
         have m0:=HA.out.row.cell (i:=0) (by omega);have m1:=HA.out.row.cell (i:=1) (by omega);have m2:=HA.out.row.cell (i:=2) (by omega);have m3:=HA.out.row.cell (i:=3) (by omega);have m4:=HA.out.row.cell (i:=4) (by omega);have m5:=HA.out.row.cell (i:=5) (by omega)
         have y0:=HA.out.b6.cell (i:=0) (by omega);have y1:=HA.out.b6.cell (i:=1) (by omega);have y2:=HA.out.b6.cell (i:=2) (by omega);have y3:=HA.out.b6.cell (i:=3) (by omega);have y4:=HA.out.b6.cell (i:=4) (by omega);have y5:=HA.out.b6.cell (i:=5) (by omega)
         have z6:=HA.out.b6.frozen
         simp only [r6a] at m0 m1 m2 m3 m4 m5 y0 y1 y2 y3 y4 y5
         have HF:=xH (fun W9 (hW9:W9=(((((wr.setCell ⟨w.heap.size,0,none⟩ (.int .i64 k3)).setCell ⟨w.heap.size,1,none⟩ (.string d3)).setCell ⟨w.heap.size,2,none⟩ (.bool true)).setCell ⟨w.heap.size,3,none⟩ (.int .i64 r3)).setCell ⟨w.heap.size,4,none⟩ (.int .i64 r4)).setCell ⟨w.heap.size,5,none⟩ (.slice ca zs.length cc))=>And.intro (hW9 ▸ HA.out.done hd3 (p:=p) (by omega):AcEnd R w W9 v b p (.returned (.agg #[.int .i64 k3,.string d3,.bool true,.int .i64 r3,.int .i64 r4,.slice ca zs.length cc]))) (hW9 ▸ (set6 wr w.heap.size (.int .i64 k3) (.string d3) (.bool true) (.int .i64 r3) (.int .i64 r4) (.slice ca zs.length cc)).2.2 _ _ HA.out.b6:W9.rowIs w.heap.size 124 6 (r6a (.int .i64 k3) (.string d3) (.bool true) (.int .i64 r3) (.int .i64 r4) (.slice ca zs.length cc))))
         clear HA HPK
         go_wp2_with fail
         try simp only [Exit.inBlock,Exit.then]
         generalize hW9:(((((wr.setCell ⟨w.heap.size,0,none⟩ (.int .i64 k3)).setCell ⟨w.heap.size,1,none⟩ (.string d3)).setCell ⟨w.heap.size,2,none⟩ (.bool true)).setCell ⟨w.heap.size,3,none⟩ (.int .i64 r3)).setCell ⟨w.heap.size,4,none⟩ (.int .i64 r4)).setCell ⟨w.heap.size,5,none⟩ (.slice ca zs.length cc)=W9
         have HG:=HF.out W9 hW9.symm
         clear m0 m1 m2 m3 m4 m5 y0 y1 y2 y3 y4 y5 z6 hW9 HF
         refine bodyPost_ret (res6 (by rfl) _ W9 w.heap.size _ _ _ _ _ _ (by rfl) HG.2) rfl ?_
         exact HG.1
       · have hdm:decide ((0:Int) < (m:Int))=true:=decide_eq_true (by omega)
         have hkz:=HL.out
         go_upto_region 17 with fail
         refine wp_swap (c':=Code.region 17 la17Ops true) (by kernel_rfl) ?_
         refine wp_region_noPanic ?_
         refine la17 R B q w v b k3 d3 true r3 r4 ca cc zs wr _ (fun _ _ _ _ _ h=>h) (HA.out.on (Below.refl _ _).drew) (by omega) (fun W hD=>HPK.out W q 6 hD (by omega) (by omega)) (by kernel_rfl) (fun u _ _ _=>by kernel_rfl) ?_
         intro u zz ga gc W hnx
         refine NoPanic.normal ?_
         simp only [List.take_succ_cons,List.take_zero,List.drop_succ_cons,List.drop_zero,List.cons_append,List.nil_append]
         have HNX:=xH hnx
         clear hnx HA
         go_wp2_with fail
         go_roundw
         case rel=>exact ⟨k+1,m - 1,q+1,ga,gc,zs++[zz],by omega,by go_num,by omega,xH (by rw [List.length_append,← hkz];rfl),HNX⟩
         case measure=>simp [intOf];omega
 by_cases r1:(r:Int)=1
 · as_aux_lemma =>
    go_upto_region 10 with fail
    have HA3:=xH (HA2.out.anew 2)
    generalize (((((w2.setCell ⟨B,0,none⟩ (.int .i64 2)).setCell ⟨B,1,none⟩ (.string ⟨#[]⟩)).setCell ⟨B,2,none⟩ (.bool false)).setCell ⟨B,3,none⟩ (.int .i64 0)).setCell ⟨B,4,none⟩ (.int .i64 0)).setCell ⟨B,5,none⟩ (.slice none 0 0)=W3 at HA3 ⊢
    obtain ⟨k3,d3,hd3,HA4⟩:∃ (k3:Int) (d3:ByteArray),d3.size≤2000∧Hid (AcT R w W3 B v b (p1+1) k3 d3 false 0 0 none 0 []):=⟨2,⟨#[]⟩,by show 0≤2000;omega,HA3⟩
    clear HA2 HA3 m0 m1 m2 m3 m4 m5 z
    have HPx:=xH (HPK.out W3 (p1+1) 10 HA4.out.dr (by omega) (by omega))
    go_wp2_with fail
    refine HPx.out.mono ?_
    rintro e w4 ⟨r2,rfl,hrr2,HDx,HBx⟩
    have HA5:=xH (HA4.out.draw HBx.out HDx.out)
    clear HPx HA4 HDx HBx
    by_cases hcu:(r2:Int) < cu
    rotate_left
    · have hcd:decide ((r2:Int) < cu)=false:=decide_eq_false hcu
      have m0:=HA5.out.row.cell (i:=0) (by omega);have m1:=HA5.out.row.cell (i:=1) (by omega);have m2:=HA5.out.row.cell (i:=2) (by omega);have m3:=HA5.out.row.cell (i:=3) (by omega);have m4:=HA5.out.row.cell (i:=4) (by omega);have m5:=HA5.out.row.cell (i:=5) (by omega)
      have y0:=HA5.out.b6.cell (i:=0) (by omega);have y1:=HA5.out.b6.cell (i:=1) (by omega);have y2:=HA5.out.b6.cell (i:=2) (by omega);have y3:=HA5.out.b6.cell (i:=3) (by omega);have y4:=HA5.out.b6.cell (i:=4) (by omega);have y5:=HA5.out.b6.cell (i:=5) (by omega)
      have z6:=HA5.out.b6.frozen
      simp only [r6a] at m0 m1 m2 m3 m4 m5 y0 y1 y2 y3 y4 y5
      have HF:=xH (fun W9 (hW9:W9=(((((w4.setCell ⟨w.heap.size,0,none⟩ (.int .i64 k3)).setCell ⟨w.heap.size,1,none⟩ (.string d3)).setCell ⟨w.heap.size,2,none⟩ (.bool false)).setCell ⟨w.heap.size,3,none⟩ (.int .i64 0)).setCell ⟨w.heap.size,4,none⟩ (.int .i64 0)).setCell ⟨w.heap.size,5,none⟩ (.slice none 0 0))=>And.intro (hW9 ▸ HA5.out.done hd3 (p:=p) (by omega):AcEnd R w W9 v b p (.returned (.agg #[.int .i64 k3,.string d3,.bool false,.int .i64 0,.int .i64 0,.slice none 0 0]))) (hW9 ▸ (set6 w4 w.heap.size (.int .i64 k3) (.string d3) (.bool false) (.int .i64 0) (.int .i64 0) (.slice none 0 0)).2.2 _ _ HA5.out.b6:W9.rowIs w.heap.size 124 6 (r6a (.int .i64 k3) (.string d3) (.bool false) (.int .i64 0) (.int .i64 0) (.slice none 0 0))))
      clear HA5 HPK
      go_wp2_with fail
      try simp only [Exit.inBlock,Exit.then]
      generalize hW9:(((((w4.setCell ⟨w.heap.size,0,none⟩ (.int .i64 k3)).setCell ⟨w.heap.size,1,none⟩ (.string d3)).setCell ⟨w.heap.size,2,none⟩ (.bool false)).setCell ⟨w.heap.size,3,none⟩ (.int .i64 0)).setCell ⟨w.heap.size,4,none⟩ (.int .i64 0)).setCell ⟨w.heap.size,5,none⟩ (.slice none 0 0)=W9
      have HG:=HF.out W9 hW9.symm
      clear m0 m1 m2 m3 m4 m5 y0 y1 y2 y3 y4 y5 z6 hW9 HF
      refine bodyPost_ret (res6 (by rfl) _ W9 w.heap.size _ _ _ _ _ _ (by rfl) HG.2) rfl ?_
      exact HG.1
    · have hcd:decide ((r2:Int) < cu)=true:=decide_eq_true hcu
      have m2:=HA5.out.row.cell (i:=2) (by omega);have z:=HA5.out.row.frozen
      simp only [r6a] at m2
      have HA6:=xH (HA5.out.s2 true)
      clear HA5
      have HPx:=xH (HPK.out _ (p1+1+1) 10 HA6.out.dr (by omega) (by omega))
      go_wp2_with fail
      refine HPx.out.mono ?_
      rintro e w5 ⟨r3,rfl,hrr3,HDx,HBx⟩
      have HA7:=xH (HA6.out.draw HBx.out HDx.out)
      clear HPx HA6 HDx HBx
      clear m2 z
      have m3:=HA7.out.row.cell (i:=3) (by omega);have z:=HA7.out.row.frozen
      simp only [r6a] at m3
      have HA8:=xH (HA7.out.s3 (r3:Int))
      clear HA7
      have HPx:=xH (HPK.out _ (p1+1+1+1) 5 HA8.out.dr (by omega) (by omega))
      go_wp2_with fail
      refine HPx.out.mono ?_
      rintro e w6 ⟨r4,rfl,hrr4,HDx,HBx⟩
      have HA9:=xH (HA8.out.draw HBx.out HDx.out)
      clear HPx HA8 HDx HBx
      clear m3 z
      have m4:=HA9.out.row.cell (i:=4) (by omega);have z:=HA9.out.row.frozen
      simp only [r6a] at m4
      have HB1:=xH (HA9.out.s4 (r4:Int))
      clear HA9
      have HPx:=xH (HPK.out _ (p1+1+1+1+1) 6 HB1.out.dr (by omega) (by omega))
      go_wp2_with fail
      refine HPx.out.mono ?_
      rintro e w7 ⟨r5,rfl,hrr5,HDx,HBx⟩
      have HB2:=xH (HB1.out.draw HBx.out HDx.out)
      clear HPx HB1 HDx HBx
      clear m4 z
      go_wp2_with fail
      go_loopw [8] (fun nn wr=>∃ (k m q:Nat) (ca:Option Addr) (cc:Nat) (zs:List Int),k+m≤6∧nn=.int .i64 m∧q≤p+9+k∧Hid (k=zs.length)∧Hid (AcT R w wr B v b q k3 d3 true r3 r4 ca cc zs)) (fun nn _=>(intOf nn).toNat)
      case atStart=>exact ⟨0,r5,_,none,0,[],by omega,rfl,by omega,rfl,HB2⟩
      case round =>
       clear HB2
       obtain ⟨k,m,q,ca,cc,zs,hkm,rfl,hq,HL,HA⟩:=hrel
       by_cases hm0:m=0
       · subst hm0
         have hkz:=HL.out
         have m0:=HA.out.row.cell (i:=0) (by omega);have m1:=HA.out.row.cell (i:=1) (by omega);have m2:=HA.out.row.cell (i:=2) (by omega);have m3:=HA.out.row.cell (i:=3) (by omega);have m4:=HA.out.row.cell (i:=4) (by omega);have m5:=HA.out.row.cell (i:=5) (by omega)
         have y0:=HA.out.b6.cell (i:=0) (by omega);have y1:=HA.out.b6.cell (i:=1) (by omega);have y2:=HA.out.b6.cell (i:=2) (by omega);have y3:=HA.out.b6.cell (i:=3) (by omega);have y4:=HA.out.b6.cell (i:=4) (by omega);have y5:=HA.out.b6.cell (i:=5) (by omega)
         have z6:=HA.out.b6.frozen
         simp only [r6a] at m0 m1 m2 m3 m4 m5 y0 y1 y2 y3 y4 y5
         have HF:=xH (fun W9 (hW9:W9=(((((wr.setCell ⟨w.heap.size,0,none⟩ (.int .i64 k3)).setCell ⟨w.heap.size,1,none⟩ (.string d3)).setCell ⟨w.heap.size,2,none⟩ (.bool true)).setCell ⟨w.heap.size,3,none⟩ (.int .i64 r3)).setCell ⟨w.heap.size,4,none⟩ (.int .i64 r4)).setCell ⟨w.heap.size,5,none⟩ (.slice ca zs.length cc))=>And.intro (hW9 ▸ HA.out.done hd3 (p:=p) (by omega):AcEnd R w W9 v b p (.returned (.agg #[.int .i64 k3,.string d3,.bool true,.int .i64 r3,.int .i64 r4,.slice ca zs.length cc]))) (hW9 ▸ (set6 wr w.heap.size (.int .i64 k3) (.string d3) (.bool true) (.int .i64 r3) (.int .i64 r4) (.slice ca zs.length cc)).2.2 _ _ HA.out.b6:W9.rowIs w.heap.size 124 6 (r6a (.int .i64 k3) (.string d3) (.bool true) (.int .i64 r3) (.int .i64 r4) (.slice ca zs.length cc))))
         clear HA HPK
         go_wp2_with fail
         try simp only [Exit.inBlock,Exit.then]
         generalize hW9:(((((wr.setCell ⟨w.heap.size,0,none⟩ (.int .i64 k3)).setCell ⟨w.heap.size,1,none⟩ (.string d3)).setCell ⟨w.heap.size,2,none⟩ (.bool true)).setCell ⟨w.heap.size,3,none⟩ (.int .i64 r3)).setCell ⟨w.heap.size,4,none⟩ (.int .i64 r4)).setCell ⟨w.heap.size,5,none⟩ (.slice ca zs.length cc)=W9
         have HG:=HF.out W9 hW9.symm
         clear m0 m1 m2 m3 m4 m5 y0 y1 y2 y3 y4 y5 z6 hW9 HF
         refine bodyPost_ret (res6 (by rfl) _ W9 w.heap.size _ _ _ _ _ _ (by rfl) HG.2) rfl ?_
         exact HG.1
       · have hdm:decide ((0:Int) < (m:Int))=true:=decide_eq_true (by omega)
         have hkz:=HL.out
         go_upto_region 17 with fail
         refine wp_swap (c':=Code.region 17 la17Ops true) (by kernel_rfl) ?_
         refine wp_region_noPanic ?_
         refine la17 R B q w v b k3 d3 true r3 r4 ca cc zs wr _ (fun _ _ _ _ _ h=>h) (HA.out.on (Below.refl _ _).drew) (by omega) (fun W hD=>HPK.out W q 6 hD (by omega) (by omega)) (by kernel_rfl) (fun u _ _ _=>by kernel_rfl) ?_
         intro u zz ga gc W hnx
         refine NoPanic.normal ?_
         simp only [List.take_succ_cons,List.take_zero,List.drop_succ_cons,List.drop_zero,List.cons_append,List.nil_append]
         have HNX:=xH hnx
         clear hnx HA
         go_wp2_with fail
         go_roundw
         case rel=>exact ⟨k+1,m - 1,q+1,ga,gc,zs++[zz],by omega,by go_num,by omega,xH (by rw [List.length_append,← hkz];rfl),HNX⟩
         case measure=>simp [intOf];omega
 by_cases r2':(r:Int)=2
 · as_aux_lemma =>
    go_upto_region 10 with fail
    have HA3:=xH (HA2.out.anew 3)
    generalize (((((w2.setCell ⟨B,0,none⟩ (.int .i64 3)).setCell ⟨B,1,none⟩ (.string ⟨#[]⟩)).setCell ⟨B,2,none⟩ (.bool false)).setCell ⟨B,3,none⟩ (.int .i64 0)).setCell ⟨B,4,none⟩ (.int .i64 0)).setCell ⟨B,5,none⟩ (.slice none 0 0)=W3 at HA3 ⊢
    obtain ⟨k3,d3,hd3,HA4⟩:∃ (k3:Int) (d3:ByteArray),d3.size≤2000∧Hid (AcT R w W3 B v b (p1+1) k3 d3 false 0 0 none 0 []):=⟨3,⟨#[]⟩,by show 0≤2000;omega,HA3⟩
    clear HA2 HA3 m0 m1 m2 m3 m4 m5 z
    have HPx:=xH (HPK.out W3 (p1+1) 10 HA4.out.dr (by omega) (by omega))
    go_wp2_with fail
    refine HPx.out.mono ?_
    rintro e w4 ⟨r2,rfl,hrr2,HDx,HBx⟩
    have HA5:=xH (HA4.out.draw HBx.out HDx.out)
    clear HPx HA4 HDx HBx
    by_cases hcu:(r2:Int) < cu
    rotate_left
    · have hcd:decide ((r2:Int) < cu)=false:=decide_eq_false hcu
      have m0:=HA5.out.row.cell (i:=0) (by omega);have m1:=HA5.out.row.cell (i:=1) (by omega);have m2:=HA5.out.row.cell (i:=2) (by omega);have m3:=HA5.out.row.cell (i:=3) (by omega);have m4:=HA5.out.row.cell (i:=4) (by omega);have m5:=HA5.out.row.cell (i:=5) (by omega)
      have y0:=HA5.out.b6.cell (i:=0) (by omega);have y1:=HA5.out.b6.cell (i:=1) (by omega);have y2:=HA5.out.b6.cell (i:=2) (by omega);have y3:=HA5.out.b6.cell (i:=3) (by omega);have y4:=HA5.out.b6.cell (i:=4) (by omega);have y5:=HA5.out.b6.cell (i:=5) (by omega)
      have z6:=HA5.out.b6.frozen
      simp only [r6a] at m0 m1 m2 m3 m4 m5 y0 y1 y2 y3 y4 y5
      have HF:=xH (fun W9 (hW9:W9=(((((w4.setCell ⟨w.heap.size,0,none⟩ (.int .i64 k3)).setCell ⟨w.heap.size,1,none⟩ (.string d3)).setCell ⟨w.heap.size,2,none⟩ (.bool false)).setCell ⟨w.heap.size,3,none⟩ (.int .i64 0)).setCell ⟨w.heap.size,4,none⟩ (.int .i64 0)).setCell ⟨w.heap.size,5,none⟩ (.slice none 0 0))=>And.intro (hW9 ▸ HA5.out.done hd3 (p:=p) (by omega):AcEnd R w W9 v b p (.returned (.agg #[.int .i64 k3,.string d3,.bool false,.int .i64 0,.int .i64 0,.slice none 0 0]))) (hW9 ▸ (set6 w4 w.heap.size (.int .i64 k3) (.string d3) (.bool false) (.int .i64 0) (.int .i64 0) (.slice none 0 0)).2.2 _ _ HA5.out.b6:W9.rowIs w.heap.size 124 6 (r6a (.int .i64 k3) (.string d3) (.bool false) (.int .i64 0) (.int .i64 0) (.slice none 0 0))))
      clear HA5 HPK
      go_wp2_with fail
      try simp only [Exit.inBlock,Exit.then]
      generalize hW9:(((((w4.setCell ⟨w.heap.size,0,none⟩ (.int .i64 k3)).setCell ⟨w.heap.size,1,none⟩ (.string d3)).setCell ⟨w.heap.size,2,none⟩ (.bool false)).setCell ⟨w.heap.size,3,none⟩ (.int .i64 0)).setCell ⟨w.heap.size,4,none⟩ (.int .i64 0)).setCell ⟨w.heap.size,5,none⟩ (.slice none 0 0)=W9
      have HG:=HF.out W9 hW9.symm
      clear m0 m1 m2 m3 m4 m5 y0 y1 y2 y3 y4 y5 z6 hW9 HF
      refine bodyPost_ret (res6 (by rfl) _ W9 w.heap.size _ _ _ _ _ _ (by rfl) HG.2) rfl ?_
      exact HG.1
    · have hcd:decide ((r2:Int) < cu)=true:=decide_eq_true hcu
      have m2:=HA5.out.row.cell (i:=2) (by omega);have z:=HA5.out.row.frozen
      simp only [r6a] at m2
      have HA6:=xH (HA5.out.s2 true)
      clear HA5
      have HPx:=xH (HPK.out _ (p1+1+1) 10 HA6.out.dr (by omega) (by omega))
      go_wp2_with fail
      refine HPx.out.mono ?_
      rintro e w5 ⟨r3,rfl,hrr3,HDx,HBx⟩
      have HA7:=xH (HA6.out.draw HBx.out HDx.out)
      clear HPx HA6 HDx HBx
      clear m2 z
      have m3:=HA7.out.row.cell (i:=3) (by omega);have z:=HA7.out.row.frozen
      simp only [r6a] at m3
      have HA8:=xH (HA7.out.s3 (r3:Int))
      clear HA7
      have HPx:=xH (HPK.out _ (p1+1+1+1) 5 HA8.out.dr (by omega) (by omega))
      go_wp2_with fail
      refine HPx.out.mono ?_
      rintro e w6 ⟨r4,rfl,hrr4,HDx,HBx⟩
      have HA9:=xH (HA8.out.draw HBx.out HDx.out)
      clear HPx HA8 HDx HBx
      clear m3 z
      have m4:=HA9.out.row.cell (i:=4) (by omega);have z:=HA9.out.row.frozen
      simp only [r6a] at m4
      have HB1:=xH (HA9.out.s4 (r4:Int))
      clear HA9
      have HPx:=xH (HPK.out _ (p1+1+1+1+1) 6 HB1.out.dr (by omega) (by omega))
      go_wp2_with fail
      refine HPx.out.mono ?_
      rintro e w7 ⟨r5,rfl,hrr5,HDx,HBx⟩
      have HB2:=xH (HB1.out.draw HBx.out HDx.out)
      clear HPx HB1 HDx HBx
      clear m4 z
      go_wp2_with fail
      go_loopw [8] (fun nn wr=>∃ (k m q:Nat) (ca:Option Addr) (cc:Nat) (zs:List Int),k+m≤6∧nn=.int .i64 m∧q≤p+9+k∧Hid (k=zs.length)∧Hid (AcT R w wr B v b q k3 d3 true r3 r4 ca cc zs)) (fun nn _=>(intOf nn).toNat)
      case atStart=>exact ⟨0,r5,_,none,0,[],by omega,rfl,by omega,rfl,HB2⟩
      case round =>
       clear HB2
       obtain ⟨k,m,q,ca,cc,zs,hkm,rfl,hq,HL,HA⟩:=hrel
       by_cases hm0:m=0
       · subst hm0
         have hkz:=HL.out
         have m0:=HA.out.row.cell (i:=0) (by omega);have m1:=HA.out.row.cell (i:=1) (by omega);have m2:=HA.out.row.cell (i:=2) (by omega);have m3:=HA.out.row.cell (i:=3) (by omega);have m4:=HA.out.row.cell (i:=4) (by omega);have m5:=HA.out.row.cell (i:=5) (by omega)
         have y0:=HA.out.b6.cell (i:=0) (by omega);have y1:=HA.out.b6.cell (i:=1) (by omega);have y2:=HA.out.b6.cell (i:=2) (by omega);have y3:=HA.out.b6.cell (i:=3) (by omega);have y4:=HA.out.b6.cell (i:=4) (by omega);have y5:=HA.out.b6.cell (i:=5) (by omega)
         have z6:=HA.out.b6.frozen
         simp only [r6a] at m0 m1 m2 m3 m4 m5 y0 y1 y2 y3 y4 y5
         have HF:=xH (fun W9 (hW9:W9=(((((wr.setCell ⟨w.heap.size,0,none⟩ (.int .i64 k3)).setCell ⟨w.heap.size,1,none⟩ (.string d3)).setCell ⟨w.heap.size,2,none⟩ (.bool true)).setCell ⟨w.heap.size,3,none⟩ (.int .i64 r3)).setCell ⟨w.heap.size,4,none⟩ (.int .i64 r4)).setCell ⟨w.heap.size,5,none⟩ (.slice ca zs.length cc))=>And.intro (hW9 ▸ HA.out.done hd3 (p:=p) (by omega):AcEnd R w W9 v b p (.returned (.agg #[.int .i64 k3,.string d3,.bool true,.int .i64 r3,.int .i64 r4,.slice ca zs.length cc]))) (hW9 ▸ (set6 wr w.heap.size (.int .i64 k3) (.string d3) (.bool true) (.int .i64 r3) (.int .i64 r4) (.slice ca zs.length cc)).2.2 _ _ HA.out.b6:W9.rowIs w.heap.size 124 6 (r6a (.int .i64 k3) (.string d3) (.bool true) (.int .i64 r3) (.int .i64 r4) (.slice ca zs.length cc))))
         clear HA HPK
         go_wp2_with fail
         try simp only [Exit.inBlock,Exit.then]
         generalize hW9:(((((wr.setCell ⟨w.heap.size,0,none⟩ (.int .i64 k3)).setCell ⟨w.heap.size,1,none⟩ (.string d3)).setCell ⟨w.heap.size,2,none⟩ (.bool true)).setCell ⟨w.heap.size,3,none⟩ (.int .i64 r3)).setCell ⟨w.heap.size,4,none⟩ (.int .i64 r4)).setCell ⟨w.heap.size,5,none⟩ (.slice ca zs.length cc)=W9
         have HG:=HF.out W9 hW9.symm
         clear m0 m1 m2 m3 m4 m5 y0 y1 y2 y3 y4 y5 z6 hW9 HF
         refine bodyPost_ret (res6 (by rfl) _ W9 w.heap.size _ _ _ _ _ _ (by rfl) HG.2) rfl ?_
         exact HG.1
       · have hdm:decide ((0:Int) < (m:Int))=true:=decide_eq_true (by omega)
         have hkz:=HL.out
         go_upto_region 17 with fail
         refine wp_swap (c':=Code.region 17 la17Ops true) (by kernel_rfl) ?_
         refine wp_region_noPanic ?_
         refine la17 R B q w v b k3 d3 true r3 r4 ca cc zs wr _ (fun _ _ _ _ _ h=>h) (HA.out.on (Below.refl _ _).drew) (by omega) (fun W hD=>HPK.out W q 6 hD (by omega) (by omega)) (by kernel_rfl) (fun u _ _ _=>by kernel_rfl) ?_
         intro u zz ga gc W hnx
         refine NoPanic.normal ?_
         simp only [List.take_succ_cons,List.take_zero,List.drop_succ_cons,List.drop_zero,List.cons_append,List.nil_append]
         have HNX:=xH hnx
         clear hnx HA
         go_wp2_with fail
         go_roundw
         case rel=>exact ⟨k+1,m - 1,q+1,ga,gc,zs++[zz],by omega,by go_num,by omega,xH (by rw [List.length_append,← hkz];rfl),HNX⟩
         case measure=>simp [intOf];omega
 by_cases r3':(r:Int)=3
 · as_aux_lemma =>
    go_upto_region 10 with fail
    have HA3:=xH (HA2.out.anew 4)
    generalize (((((w2.setCell ⟨B,0,none⟩ (.int .i64 4)).setCell ⟨B,1,none⟩ (.string ⟨#[]⟩)).setCell ⟨B,2,none⟩ (.bool false)).setCell ⟨B,3,none⟩ (.int .i64 0)).setCell ⟨B,4,none⟩ (.int .i64 0)).setCell ⟨B,5,none⟩ (.slice none 0 0)=W3 at HA3 ⊢
    obtain ⟨k3,d3,hd3,HA4⟩:∃ (k3:Int) (d3:ByteArray),d3.size≤2000∧Hid (AcT R w W3 B v b (p1+1) k3 d3 false 0 0 none 0 []):=⟨4,⟨#[]⟩,by show 0≤2000;omega,HA3⟩
    clear HA2 HA3 m0 m1 m2 m3 m4 m5 z
    have HPx:=xH (HPK.out W3 (p1+1) 10 HA4.out.dr (by omega) (by omega))
    go_wp2_with fail
    refine HPx.out.mono ?_
    rintro e w4 ⟨r2,rfl,hrr2,HDx,HBx⟩
    have HA5:=xH (HA4.out.draw HBx.out HDx.out)
    clear HPx HA4 HDx HBx
    by_cases hcu:(r2:Int) < cu
    rotate_left
    · have hcd:decide ((r2:Int) < cu)=false:=decide_eq_false hcu
      have m0:=HA5.out.row.cell (i:=0) (by omega);have m1:=HA5.out.row.cell (i:=1) (by omega);have m2:=HA5.out.row.cell (i:=2) (by omega);have m3:=HA5.out.row.cell (i:=3) (by omega);have m4:=HA5.out.row.cell (i:=4) (by omega);have m5:=HA5.out.row.cell (i:=5) (by omega)
      have y0:=HA5.out.b6.cell (i:=0) (by omega);have y1:=HA5.out.b6.cell (i:=1) (by omega);have y2:=HA5.out.b6.cell (i:=2) (by omega);have y3:=HA5.out.b6.cell (i:=3) (by omega);have y4:=HA5.out.b6.cell (i:=4) (by omega);have y5:=HA5.out.b6.cell (i:=5) (by omega)
      have z6:=HA5.out.b6.frozen
      simp only [r6a] at m0 m1 m2 m3 m4 m5 y0 y1 y2 y3 y4 y5
      have HF:=xH (fun W9 (hW9:W9=(((((w4.setCell ⟨w.heap.size,0,none⟩ (.int .i64 k3)).setCell ⟨w.heap.size,1,none⟩ (.string d3)).setCell ⟨w.heap.size,2,none⟩ (.bool false)).setCell ⟨w.heap.size,3,none⟩ (.int .i64 0)).setCell ⟨w.heap.size,4,none⟩ (.int .i64 0)).setCell ⟨w.heap.size,5,none⟩ (.slice none 0 0))=>And.intro (hW9 ▸ HA5.out.done hd3 (p:=p) (by omega):AcEnd R w W9 v b p (.returned (.agg #[.int .i64 k3,.string d3,.bool false,.int .i64 0,.int .i64 0,.slice none 0 0]))) (hW9 ▸ (set6 w4 w.heap.size (.int .i64 k3) (.string d3) (.bool false) (.int .i64 0) (.int .i64 0) (.slice none 0 0)).2.2 _ _ HA5.out.b6:W9.rowIs w.heap.size 124 6 (r6a (.int .i64 k3) (.string d3) (.bool false) (.int .i64 0) (.int .i64 0) (.slice none 0 0))))
      clear HA5 HPK
      go_wp2_with fail
      try simp only [Exit.inBlock,Exit.then]
      generalize hW9:(((((w4.setCell ⟨w.heap.size,0,none⟩ (.int .i64 k3)).setCell ⟨w.heap.size,1,none⟩ (.string d3)).setCell ⟨w.heap.size,2,none⟩ (.bool false)).setCell ⟨w.heap.size,3,none⟩ (.int .i64 0)).setCell ⟨w.heap.size,4,none⟩ (.int .i64 0)).setCell ⟨w.heap.size,5,none⟩ (.slice none 0 0)=W9
      have HG:=HF.out W9 hW9.symm
      clear m0 m1 m2 m3 m4 m5 y0 y1 y2 y3 y4 y5 z6 hW9 HF
      refine bodyPost_ret (res6 (by rfl) _ W9 w.heap.size _ _ _ _ _ _ (by rfl) HG.2) rfl ?_
      exact HG.1
    · have hcd:decide ((r2:Int) < cu)=true:=decide_eq_true hcu
      have m2:=HA5.out.row.cell (i:=2) (by omega);have z:=HA5.out.row.frozen
      simp only [r6a] at m2
      have HA6:=xH (HA5.out.s2 true)
      clear HA5
      have HPx:=xH (HPK.out _ (p1+1+1) 10 HA6.out.dr (by omega) (by omega))
      go_wp2_with fail
      refine HPx.out.mono ?_
      rintro e w5 ⟨r3,rfl,hrr3,HDx,HBx⟩
      have HA7:=xH (HA6.out.draw HBx.out HDx.out)
      clear HPx HA6 HDx HBx
      clear m2 z
      have m3:=HA7.out.row.cell (i:=3) (by omega);have z:=HA7.out.row.frozen
      simp only [r6a] at m3
      have HA8:=xH (HA7.out.s3 (r3:Int))
      clear HA7
      have HPx:=xH (HPK.out _ (p1+1+1+1) 5 HA8.out.dr (by omega) (by omega))
      go_wp2_with fail
      refine HPx.out.mono ?_
      rintro e w6 ⟨r4,rfl,hrr4,HDx,HBx⟩
      have HA9:=xH (HA8.out.draw HBx.out HDx.out)
      clear HPx HA8 HDx HBx
      clear m3 z
      have m4:=HA9.out.row.cell (i:=4) (by omega);have z:=HA9.out.row.frozen
      simp only [r6a] at m4
      have HB1:=xH (HA9.out.s4 (r4:Int))
      clear HA9
      have HPx:=xH (HPK.out _ (p1+1+1+1+1) 6 HB1.out.dr (by omega) (by omega))
      go_wp2_with fail
      refine HPx.out.mono ?_
      rintro e w7 ⟨r5,rfl,hrr5,HDx,HBx⟩
      have HB2:=xH (HB1.out.draw HBx.out HDx.out)
      clear HPx HB1 HDx HBx
      clear m4 z
      go_wp2_with fail
      go_loopw [8] (fun nn wr=>∃ (k m q:Nat) (ca:Option Addr) (cc:Nat) (zs:List Int),k+m≤6∧nn=.int .i64 m∧q≤p+9+k∧Hid (k=zs.length)∧Hid (AcT R w wr B v b q k3 d3 true r3 r4 ca cc zs)) (fun nn _=>(intOf nn).toNat)
      case atStart=>exact ⟨0,r5,_,none,0,[],by omega,rfl,by omega,rfl,HB2⟩
      case round =>
       clear HB2
       obtain ⟨k,m,q,ca,cc,zs,hkm,rfl,hq,HL,HA⟩:=hrel
       by_cases hm0:m=0
       · subst hm0
         have hkz:=HL.out
         have m0:=HA.out.row.cell (i:=0) (by omega);have m1:=HA.out.row.cell (i:=1) (by omega);have m2:=HA.out.row.cell (i:=2) (by omega);have m3:=HA.out.row.cell (i:=3) (by omega);have m4:=HA.out.row.cell (i:=4) (by omega);have m5:=HA.out.row.cell (i:=5) (by omega)
         have y0:=HA.out.b6.cell (i:=0) (by omega);have y1:=HA.out.b6.cell (i:=1) (by omega);have y2:=HA.out.b6.cell (i:=2) (by omega);have y3:=HA.out.b6.cell (i:=3) (by omega);have y4:=HA.out.b6.cell (i:=4) (by omega);have y5:=HA.out.b6.cell (i:=5) (by omega)
         have z6:=HA.out.b6.frozen
         simp only [r6a] at m0 m1 m2 m3 m4 m5 y0 y1 y2 y3 y4 y5
         have HF:=xH (fun W9 (hW9:W9=(((((wr.setCell ⟨w.heap.size,0,none⟩ (.int .i64 k3)).setCell ⟨w.heap.size,1,none⟩ (.string d3)).setCell ⟨w.heap.size,2,none⟩ (.bool true)).setCell ⟨w.heap.size,3,none⟩ (.int .i64 r3)).setCell ⟨w.heap.size,4,none⟩ (.int .i64 r4)).setCell ⟨w.heap.size,5,none⟩ (.slice ca zs.length cc))=>And.intro (hW9 ▸ HA.out.done hd3 (p:=p) (by omega):AcEnd R w W9 v b p (.returned (.agg #[.int .i64 k3,.string d3,.bool true,.int .i64 r3,.int .i64 r4,.slice ca zs.length cc]))) (hW9 ▸ (set6 wr w.heap.size (.int .i64 k3) (.string d3) (.bool true) (.int .i64 r3) (.int .i64 r4) (.slice ca zs.length cc)).2.2 _ _ HA.out.b6:W9.rowIs w.heap.size 124 6 (r6a (.int .i64 k3) (.string d3) (.bool true) (.int .i64 r3) (.int .i64 r4) (.slice ca zs.length cc))))
         clear HA HPK
         go_wp2_with fail
         try simp only [Exit.inBlock,Exit.then]
         generalize hW9:(((((wr.setCell ⟨w.heap.size,0,none⟩ (.int .i64 k3)).setCell ⟨w.heap.size,1,none⟩ (.string d3)).setCell ⟨w.heap.size,2,none⟩ (.bool true)).setCell ⟨w.heap.size,3,none⟩ (.int .i64 r3)).setCell ⟨w.heap.size,4,none⟩ (.int .i64 r4)).setCell ⟨w.heap.size,5,none⟩ (.slice ca zs.length cc)=W9
         have HG:=HF.out W9 hW9.symm
         clear m0 m1 m2 m3 m4 m5 y0 y1 y2 y3 y4 y5 z6 hW9 HF
         refine bodyPost_ret (res6 (by rfl) _ W9 w.heap.size _ _ _ _ _ _ (by rfl) HG.2) rfl ?_
         exact HG.1
       · have hdm:decide ((0:Int) < (m:Int))=true:=decide_eq_true (by omega)
         have hkz:=HL.out
         go_upto_region 17 with fail
         refine wp_swap (c':=Code.region 17 la17Ops true) (by kernel_rfl) ?_
         refine wp_region_noPanic ?_
         refine la17 R B q w v b k3 d3 true r3 r4 ca cc zs wr _ (fun _ _ _ _ _ h=>h) (HA.out.on (Below.refl _ _).drew) (by omega) (fun W hD=>HPK.out W q 6 hD (by omega) (by omega)) (by kernel_rfl) (fun u _ _ _=>by kernel_rfl) ?_
         intro u zz ga gc W hnx
         refine NoPanic.normal ?_
         simp only [List.take_succ_cons,List.take_zero,List.drop_succ_cons,List.drop_zero,List.cons_append,List.nil_append]
         have HNX:=xH hnx
         clear hnx HA
         go_wp2_with fail
         go_roundw
         case rel=>exact ⟨k+1,m - 1,q+1,ga,gc,zs++[zz],by omega,by go_num,by omega,xH (by rw [List.length_append,← hkz];rfl),HNX⟩
         case measure=>simp [intOf];omega
 have f0:((r:Int)==0)=false:=beq_eq_false_iff_ne.2 r0
 have f1:((r:Int)==1)=false:=beq_eq_false_iff_ne.2 r1
 have f2:((r:Int)==2)=false:=beq_eq_false_iff_ne.2 r2'
 have f3:((r:Int)==3)=false:=beq_eq_false_iff_ne.2 r3'
 go_upto_region 10 with fail
 obtain ⟨W3,hW3⟩:∃ W3,W3=w2:=⟨_,rfl⟩
 rw [← hW3] at HA2 ⊢
 obtain ⟨k3,d3,hd3,HA4⟩:∃ (k3:Int) (d3:ByteArray),d3.size≤2000∧Hid (AcT R w W3 B v b (p1+1) k3 d3 false 0 0 none 0 []):=⟨1,d,hd,HA2⟩
 clear HA2 m0 m1 m2 m3 m4 m5 z hW3
 have HPx:=xH (HPK.out W3 (p1+1) 10 HA4.out.dr (by omega) (by omega))
 go_wp2_with fail
 refine HPx.out.mono ?_
 rintro e w4 ⟨r2,rfl,hrr2,HDx,HBx⟩
 have HA5:=xH (HA4.out.draw HBx.out HDx.out)
 clear HPx HA4 HDx HBx
 by_cases hcu:(r2:Int) < cu
 rotate_left
 · have hcd:decide ((r2:Int) < cu)=false:=decide_eq_false hcu
   have m0:=HA5.out.row.cell (i:=0) (by omega);have m1:=HA5.out.row.cell (i:=1) (by omega);have m2:=HA5.out.row.cell (i:=2) (by omega);have m3:=HA5.out.row.cell (i:=3) (by omega);have m4:=HA5.out.row.cell (i:=4) (by omega);have m5:=HA5.out.row.cell (i:=5) (by omega)
   have y0:=HA5.out.b6.cell (i:=0) (by omega);have y1:=HA5.out.b6.cell (i:=1) (by omega);have y2:=HA5.out.b6.cell (i:=2) (by omega);have y3:=HA5.out.b6.cell (i:=3) (by omega);have y4:=HA5.out.b6.cell (i:=4) (by omega);have y5:=HA5.out.b6.cell (i:=5) (by omega)
   have z6:=HA5.out.b6.frozen
   simp only [r6a] at m0 m1 m2 m3 m4 m5 y0 y1 y2 y3 y4 y5
   have HF:=xH (fun W9 (hW9:W9=(((((w4.setCell ⟨w.heap.size,0,none⟩ (.int .i64 k3)).setCell ⟨w.heap.size,1,none⟩ (.string d3)).setCell ⟨w.heap.size,2,none⟩ (.bool false)).setCell ⟨w.heap.size,3,none⟩ (.int .i64 0)).setCell ⟨w.heap.size,4,none⟩ (.int .i64 0)).setCell ⟨w.heap.size,5,none⟩ (.slice none 0 0))=>And.intro (hW9 ▸ HA5.out.done hd3 (p:=p) (by omega):AcEnd R w W9 v b p (.returned (.agg #[.int .i64 k3,.string d3,.bool false,.int .i64 0,.int .i64 0,.slice none 0 0]))) (hW9 ▸ (set6 w4 w.heap.size (.int .i64 k3) (.string d3) (.bool false) (.int .i64 0) (.int .i64 0) (.slice none 0 0)).2.2 _ _ HA5.out.b6:W9.rowIs w.heap.size 124 6 (r6a (.int .i64 k3) (.string d3) (.bool false) (.int .i64 0) (.int .i64 0) (.slice none 0 0))))
   clear HA5 HPK
   go_wp2_with fail
   try simp only [Exit.inBlock,Exit.then]
   generalize hW9:(((((w4.setCell ⟨w.heap.size,0,none⟩ (.int .i64 k3)).setCell ⟨w.heap.size,1,none⟩ (.string d3)).setCell ⟨w.heap.size,2,none⟩ (.bool false)).setCell ⟨w.heap.size,3,none⟩ (.int .i64 0)).setCell ⟨w.heap.size,4,none⟩ (.int .i64 0)).setCell ⟨w.heap.size,5,none⟩ (.slice none 0 0)=W9
   have HG:=HF.out W9 hW9.symm
   clear m0 m1 m2 m3 m4 m5 y0 y1 y2 y3 y4 y5 z6 hW9 HF
   refine bodyPost_ret (res6 (by rfl) _ W9 w.heap.size _ _ _ _ _ _ (by rfl) HG.2) rfl ?_
   exact HG.1
 · have hcd:decide ((r2:Int) < cu)=true:=decide_eq_true hcu
   have m2:=HA5.out.row.cell (i:=2) (by omega);have z:=HA5.out.row.frozen
   simp only [r6a] at m2
   have HA6:=xH (HA5.out.s2 true)
   clear HA5
   have HPx:=xH (HPK.out _ (p1+1+1) 10 HA6.out.dr (by omega) (by omega))
   go_wp2_with fail
   refine HPx.out.mono ?_
   rintro e w5 ⟨r3,rfl,hrr3,HDx,HBx⟩
   have HA7:=xH (HA6.out.draw HBx.out HDx.out)
   clear HPx HA6 HDx HBx
   clear m2 z
   have m3:=HA7.out.row.cell (i:=3) (by omega);have z:=HA7.out.row.frozen
   simp only [r6a] at m3
   have HA8:=xH (HA7.out.s3 (r3:Int))
   clear HA7
   have HPx:=xH (HPK.out _ (p1+1+1+1) 5 HA8.out.dr (by omega) (by omega))
   go_wp2_with fail
   refine HPx.out.mono ?_
   rintro e w6 ⟨r4,rfl,hrr4,HDx,HBx⟩
   have HA9:=xH (HA8.out.draw HBx.out HDx.out)
   clear HPx HA8 HDx HBx
   clear m3 z
   have m4:=HA9.out.row.cell (i:=4) (by omega);have z:=HA9.out.row.frozen
   simp only [r6a] at m4
   have HB1:=xH (HA9.out.s4 (r4:Int))
   clear HA9
   have HPx:=xH (HPK.out _ (p1+1+1+1+1) 6 HB1.out.dr (by omega) (by omega))
   go_wp2_with fail
   refine HPx.out.mono ?_
   rintro e w7 ⟨r5,rfl,hrr5,HDx,HBx⟩
   have HB2:=xH (HB1.out.draw HBx.out HDx.out)
   clear HPx HB1 HDx HBx
   clear m4 z
   go_wp2_with fail
   go_loopw [8] (fun nn wr=>∃ (k m q:Nat) (ca:Option Addr) (cc:Nat) (zs:List Int),k+m≤6∧nn=.int .i64 m∧q≤p+9+k∧Hid (k=zs.length)∧Hid (AcT R w wr B v b q k3 d3 true r3 r4 ca cc zs)) (fun nn _=>(intOf nn).toNat)
   case atStart=>exact ⟨0,r5,_,none,0,[],by omega,rfl,by omega,rfl,HB2⟩
   case round =>
    clear HB2
    obtain ⟨k,m,q,ca,cc,zs,hkm,rfl,hq,HL,HA⟩:=hrel
    by_cases hm0:m=0
    · subst hm0
      have hkz:=HL.out
      have m0:=HA.out.row.cell (i:=0) (by omega);have m1:=HA.out.row.cell (i:=1) (by omega);have m2:=HA.out.row.cell (i:=2) (by omega);have m3:=HA.out.row.cell (i:=3) (by omega);have m4:=HA.out.row.cell (i:=4) (by omega);have m5:=HA.out.row.cell (i:=5) (by omega)
      have y0:=HA.out.b6.cell (i:=0) (by omega);have y1:=HA.out.b6.cell (i:=1) (by omega);have y2:=HA.out.b6.cell (i:=2) (by omega);have y3:=HA.out.b6.cell (i:=3) (by omega);have y4:=HA.out.b6.cell (i:=4) (by omega);have y5:=HA.out.b6.cell (i:=5) (by omega)
      have z6:=HA.out.b6.frozen
      simp only [r6a] at m0 m1 m2 m3 m4 m5 y0 y1 y2 y3 y4 y5
      have HF:=xH (fun W9 (hW9:W9=(((((wr.setCell ⟨w.heap.size,0,none⟩ (.int .i64 k3)).setCell ⟨w.heap.size,1,none⟩ (.string d3)).setCell ⟨w.heap.size,2,none⟩ (.bool true)).setCell ⟨w.heap.size,3,none⟩ (.int .i64 r3)).setCell ⟨w.heap.size,4,none⟩ (.int .i64 r4)).setCell ⟨w.heap.size,5,none⟩ (.slice ca zs.length cc))=>And.intro (hW9 ▸ HA.out.done hd3 (p:=p) (by omega):AcEnd R w W9 v b p (.returned (.agg #[.int .i64 k3,.string d3,.bool true,.int .i64 r3,.int .i64 r4,.slice ca zs.length cc]))) (hW9 ▸ (set6 wr w.heap.size (.int .i64 k3) (.string d3) (.bool true) (.int .i64 r3) (.int .i64 r4) (.slice ca zs.length cc)).2.2 _ _ HA.out.b6:W9.rowIs w.heap.size 124 6 (r6a (.int .i64 k3) (.string d3) (.bool true) (.int .i64 r3) (.int .i64 r4) (.slice ca zs.length cc))))
      clear HA HPK
      go_wp2_with fail
      try simp only [Exit.inBlock,Exit.then]
      generalize hW9:(((((wr.setCell ⟨w.heap.size,0,none⟩ (.int .i64 k3)).setCell ⟨w.heap.size,1,none⟩ (.string d3)).setCell ⟨w.heap.size,2,none⟩ (.bool true)).setCell ⟨w.heap.size,3,none⟩ (.int .i64 r3)).setCell ⟨w.heap.size,4,none⟩ (.int .i64 r4)).setCell ⟨w.heap.size,5,none⟩ (.slice ca zs.length cc)=W9
      have HG:=HF.out W9 hW9.symm
      clear m0 m1 m2 m3 m4 m5 y0 y1 y2 y3 y4 y5 z6 hW9 HF
      refine bodyPost_ret (res6 (by rfl) _ W9 w.heap.size _ _ _ _ _ _ (by rfl) HG.2) rfl ?_
      exact HG.1
    · have hdm:decide ((0:Int) < (m:Int))=true:=decide_eq_true (by omega)
      have hkz:=HL.out
      go_upto_region 17 with fail
      refine wp_swap (c':=Code.region 17 la17Ops true) (by kernel_rfl) ?_
      refine wp_region_noPanic ?_
      refine la17 R B q w v b k3 d3 true r3 r4 ca cc zs wr _ (fun _ _ _ _ _ h=>h) (HA.out.on (Below.refl _ _).drew) (by omega) (fun W hD=>HPK.out W q 6 hD (by omega) (by omega)) (by kernel_rfl) (fun u _ _ _=>by kernel_rfl) ?_
      intro u zz ga gc W hnx
      refine NoPanic.normal ?_
      simp only [List.take_succ_cons,List.take_zero,List.drop_succ_cons,List.drop_zero,List.cons_append,List.nil_append]
      have HNX:=xH hnx
      clear hnx HA
      go_wp2_with fail
      go_roundw
      case rel=>exact ⟨k+1,m - 1,q+1,ga,gc,zs++[zz],by omega,by go_num,by omega,xH (by rw [List.length_append,← hkz];rfl),HNX⟩
      case measure=>simp [intOf];omega
end Go.Proofs.Yteikmbkljkkjiaa
