/- A part. -/
import Derived.Test.YteikmbkljkkjiaaSart26
namespace Go.Proofs.Yteikmbkljkkjiaa
open Go Go.RowKit
set_option maxRecDepth 100000
set_option maxHeartbeats 12800000
structure AsS (R:Nat) (w W:World) (v:Value) (b:List UInt8) (q:Nat) (ov:Value) (n:Nat) (xs:List Ar):Prop where
 hR:R < w.heap.size
 own:W.ownsRow w.heap.size 124 6 ov n (xs.map Ar.cs).flatten
 len:n=xs.length
 oks:∀ x,x∈xs→x.data.size≤2000∧∃ zs,ZsAt (fun g=>w.heap.size≤g∧g < W.heap.size∧ov.ownBlock≠some g) W x.vk zs
 dr:DR R W v b q
 but:But R w W
theorem AsS.on {{R:Nat}} {{w W:World}} {{v:Value}} {{b:List UInt8}} {{q:Nat}} {{ov:Value}} {{n:Nat}} {{xs:List Ar}} {W':World} (h:AsS R w W v b q ov n xs) (hb:Below W.heap.size W W'):AsS R w W' v b q ov n xs :=
 ⟨h.hR,own_on h.own hb,h.len,fun x hx=>⟨(h.oks x hx).1,(h.oks x hx).2.imp fun _ hz=>hz.carry (fun _ hg=>hb.block _ hg.2.1) (fun _ hg=>⟨hg.1,Nat.lt_of_lt_of_le hg.2.1 hb.size,hg.2.2⟩)⟩,h.dr.on hb,h.but.trans (But.of_below hb)⟩
theorem AsS.draw {{R:Nat}} {{w W:World}} {{v:Value}} {{b:List UInt8}} {{q:Nat}} {{ov:Value}} {{n:Nat}} {{xs:List Ar}} {W':World} {q':Nat} (h:AsS R w W v b q ov n xs) (hb:But R W W') (hd:DR R W' v b q'):AsS R w W' v b q' ov n xs :=
 ⟨h.hR,own_but h.own hb h.hR,h.len,fun x hx=>⟨(h.oks x hx).1,(h.oks x hx).2.imp fun _ hz=>hz.carry (fun g hg=>hb.at hg.2.1 (by have:=h.hR;have:=hg.1;omega)) (fun g hg=>⟨hg.1,Nat.lt_of_lt_of_le hg.2.1 hb.size,hg.2.2⟩)⟩,hd,h.but.trans hb⟩
theorem AsS.app {{R:Nat}} {{w W:World}} {{v:Value}} {{b:List UInt8}} {{q:Nat}} {{ov:Value}} {{n:Nat}} {{xs:List Ar}} {W':World} {ov':Value} {x:Ar} (h:AsS R w W v b q ov n xs) (hx:x.data.size≤2000∧∃ zs,ZsAt (fun g=>w.heap.size≤g∧g < W.heap.size∧ov.ownBlock≠some g) W x.vk zs) (ho:W'.ownsRow w.heap.size 124 6 ov' (n+1) ((xs++[x]).map Ar.cs).flatten) (hg:W.grownBy W' ov.ownBlock) (hn:ov'.ownBlock=ov.ownBlock∨∃ g,ov'.ownBlock=some g∧W.heap.size≤g):AsS R w W' v b q ov' (n+1) (xs++[x]):=by
 have hge:∀ g,ov.ownBlock=some g→w.heap.size≤g:=fun g e=>(own_ge h.own e).1
 refine ⟨h.hR,ho,by rw [List.length_append,← h.len];rfl,fun y hy=>?_,h.dr.grown hg (fun g e=>by have:=hge g e;have:=h.hR;omega),But.grown8 h.but hg hge⟩
 have hy2:y.data.size≤2000∧∃ zs,ZsAt (fun g=>w.heap.size≤g∧g < W.heap.size∧ov.ownBlock≠some g) W y.vk zs:=by
  rcases List.mem_append.1 hy with h' | h'
  · exact h.oks y h'
  · rw [List.mem_singleton.1 h'];exact hx
 refine ⟨hy2.1,hy2.2.imp fun _ hz=>hz.carry (fun g hg'=>hg.block g hg'.2.1 (fun e=>hg'.2.2 e.symm)) (fun g hg'=>⟨hg'.1,Nat.lt_of_lt_of_le hg'.2.1 hg.size,?_⟩)⟩
 rcases hn with e | ⟨k,e,hk⟩
 · rw [e];exact hg'.2.2
 · rw [e];intro e2;have:=Option.some.inj e2;have:=hg'.2.1;omega
theorem AsS.acs {{R:Nat}} {{w W:World}} {{v:Value}} {{b:List UInt8}} {{q:Nat}} {{ov:Value}} {{n:Nat}} {{xs:List Ar}} (h:AsS R w W v b q ov n xs):AcsAt (New w W) W ov xs:=by
 obtain ⟨F,h1,-,h3,-⟩:=FlatOwn.of_row (rs:=xs.map Ar.cs) (n:=6) (by rw [List.length_map,← h.len];exact h.own) (fun r hr=>by obtain ⟨x,-,rfl⟩:=List.mem_map.1 hr;rfl)
 exact ⟨h1.at.carry (fun _ _=>rfl) (fun g hg=>h3 g hg),fun x hx=>⟨Nat.le_trans (h.oks x hx).1 (by decide),(h.oks x hx).2.imp fun _ hz=>hz.carry (fun _ _=>rfl) (fun g hg=>⟨hg.1,hg.2.1⟩)⟩⟩
theorem infoAc9:∃ i,Try.prog.info? 124=some i∧i.zero=some (.agg #[.int .i64 0,.string ByteArray.empty,.bool false,.int .i64 0,.int .i64 0,.slice none 0 0])∧i.size=6∧i.bytes=72:=by
 have:(Try.prog.info? 124).map (fun i=>(i.zero,i.size,i.bytes))=some (some (.agg #[.int .i64 0,.string ByteArray.empty,.bool false,.int .i64 0,.int .i64 0,.slice none 0 0]),6,72):=by kernel_rfl
 cases h:Try.prog.info? 124 with
 | none=>rw [h] at this;simp at this
 | some i=>rw [h] at this;exact ⟨i,rfl,by simpa using this⟩
theorem append_ac (W:World) {ops:Array Oper} {rest:List Oper} {o:Oper} {a:Act} {Q:Exit→Act→World→Prop} (hg:o.guard=none) (s x:Operand) (hop:o.op=Op.call { callee:=Callee.builtin Builtin.append,args:=#[s,x],argTypes:=#[110,110] })
 (base:Nat) (a0:Option Addr) (c0 n:Nat) (xs:List Ar) (hs:a.eval s=.slice a0 n c0) (hown:Hid (W.ownsRow base 124 6 (.slice a0 n c0) n (xs.map Ar.cs).flatten)) (g:Nat) (y:Ar) (hx:a.eval x=.slice (some ⟨g,0,none⟩) 1 1) (hc:Hid (Lies W g y.cs)) (hv:y.vk.oneCell'=true) (hl:n≤2000) (hN:base≤W.heap.size)
 (hK:∀ a' c' W',Hid (W'.ownsRow base 124 6 (.slice a' (n+1) c') (n+1) ((xs++[y]).map Ar.cs).flatten)→Hid (W.grownBy W' (Value.slice a0 n c0).ownBlock)→Hid ((Value.slice a' (n+1) c').ownBlock=(Value.slice a0 n c0).ownBlock∨∃ g,(Value.slice a' (n+1) c').ownBlock=some g∧W.heap.size≤g)→wpList Try.prog ops Q rest (a.put o.dst (.slice a' (n+1) c')) W') :
 wpList Try.prog ops Q (o::rest) a W:=by
 obtain ⟨i,h2,h3,h4,h5⟩:=infoAc9
 refine append_list9 W hg s x 110 hop base 124 i _ 6 72 Try.underlying110 h2 h3 h4 h5 rfl (by decide) a0 n c0 (xs.map Ar.cs).flatten hs hown (some ⟨g,0,none⟩) 1 1 y.cs hx rfl (fun _=>⟨_,rfl,hc.out.2⟩) (fun u hu=>by
  simp only [Ar.cs,List.mem_cons,List.not_mem_nil,or_false] at hu
  rcases hu with rfl | rfl | rfl | rfl | rfl | rfl
  · rfl
  · rfl
  · rfl
  · rfl
  · rfl
  · exact hv) (by unfold maxLen;omega) (by omega) hN (n+1) rfl ?_
 intro a' c' W' h6 h7 h9
 exact hK a' c' W' (by rw [List.map_append,List.flatten_append];simpa using h6) h7 h9
def AsEnd (R:Nat) (w w':World) (v:Value) (b:List UInt8) (p most:Nat) (e:Ending):Prop :=
 ∃ (xs:List Ar) (ov:Value) (p':Nat),e=.returned ov∧AcsAt (New w w') w' ov xs∧p'≤p+30 * most∧Hid (DR R w' v b p')∧Hid (But R w w')
theorem l45Acts_any (R:Nat) (w:World) (v:Value) (b:List UInt8) (p most:Nat) (cu:Int) (h:DR R w v b p) (hp:p≤100000) (hm:1≤most∧most≤100) :
 Calls Try.prog 67 #[.pointer (some ⟨R,0,none⟩),.int .i64 (most:Int),.int .i64 cu] w fun e w'=>AsEnd R w w' v b p most e:=by
 have HPK:=xH (fun (W:World) (q n:Nat) (hD:DR R W v b q) (hn:1≤n∧n≤1000000) (hq:q≤100000000)=>pick_any R W v b q n hD hn (by omega))
 have hR:=h.cells.lt
 have HS0:Hid (AsS R w (w.alloc (.cells #[.int .i64 4,.string ⟨#[]⟩,.bool false,.int .i64 0,.int .i64 0,.slice none 0 0] 124)) v b p (.slice (some ⟨w.heap.size,0,none⟩) 1 1) 1 [⟨4,⟨#[]⟩,false,0,0,.slice none 0 0⟩]) :=
  xH ⟨hR,own_lit w w.heap.size 124 6 1 [.int .i64 4,.string ⟨#[]⟩,.bool false,.int .i64 0,.int .i64 0,.slice none 0 0] (Nat.le_refl _) rfl (by decide),rfl,fun x hx=>by
   rw [List.mem_singleton.1 hx]
   exact ⟨by show 0≤2000;omega,[],none,0,rfl,by decide,fun i hi=>absurd hi (Nat.not_lt_zero i)⟩,h.on ((Below.refl _ _).alloc (Nat.le_refl _) _),But.alloc R w _⟩
 clear h
 go_enter Try.func67,Try.ntmps67
 have HPx:=xH (HPK.out _ p most HS0.out.dr (by omega) (by omega))
 go_wp2_with fail
 refine HPx.out.mono ?_
 rintro e w1 ⟨r1,rfl,hrr1,HDx,HBx⟩
 have HS1:=xH (HS0.out.draw HBx.out HDx.out)
 clear HPx HS0 HDx HBx
 go_wp2_with fail
 go_loopw [7,8] (fun vo mm wr=>∃ (k n m q:Nat) (oa:Option Addr) (oc:Nat) (xs:List Ar),vo=.slice oa n oc∧mm=.int .i64 m∧k+m≤most∧n≤1+2 * k∧q≤p+1+28 * k∧Hid (AsS R w wr v b q (.slice oa n oc) n xs)) (fun _ mm _=>(intOf mm).toNat)
 case atStart=>exact ⟨0,1,r1,p+1,_,_,_,rfl,rfl,by omega,by omega,by omega,HS1⟩
 case round =>
  clear HS1
  obtain ⟨k,n,m,q,oa,oc,xs,rfl,rfl,hkm,hn,hq,HS⟩:=hrel
  by_cases hm0:m=0
  · subst hm0
    go_wp2_with fail
    go_returns
    exact ⟨xs,_,q,rfl,HS.out.acs,by omega,HS.out.dr,HS.out.but⟩
  · have hdm:decide ((0:Int) < (m:Int))=true:=decide_eq_true (by omega)
    have HAC:=xH (l45Act_any R wr v b q n cu HS.out.dr (by omega) (by omega) (by omega))
    go_wp2_with fail
    refine HAC.out.mono ?_
    rintro e w3 ⟨⟨xk,xd,xc,xa,xm,xv⟩,q3,rfl,hd,⟨zs,hz⟩,hq3,HD3,HB3⟩
    have HS3:=xH (HS.out.draw HB3.out HD3.out)
    have hwr:=HS.out.but.size
    have hsz:=HB3.out.size
    have hown:∀ g,(Value.slice oa n oc).ownBlock=some g→g < wr.heap.size:=fun g e=>(own_ge HS.out.own e).2
    obtain ⟨ka,kc,ek,-,-⟩:=id hz
    simp only at ek
    subst ek
    have HXO:Hid (xd.size≤2000∧∃ zs',ZsAt (fun g=>wr.heap.size≤g∧g < w3.heap.size) w3 (.slice ka zs.length kc) zs'):=xH ⟨hd,zs,hz⟩
    generalize zs.length=kl at HXO ⊢
    clear HAC HS HD3 HB3 hz hd
    go_upto_region 6 with fail
    have HS4:=xH (HS3.out.on ((Below.refl _ _).alloc (Nat.le_refl _) (.cells #[.int .i64 xk,.string xd,.bool xc,.int .i64 xa,.int .i64 xm,.slice ka kl kc] 124)))
    have HBX:=xH (lies_alloc w3 [.int .i64 xk,.string xd,.bool xc,.int .i64 xa,.int .i64 xm,.slice ka kl kc] 124)
    have HXP:Hid (∀ z,z∈[(.cells #[.int .i64 xk,.string xd,.bool xc,.int .i64 xa,.int .i64 xm,.slice ka kl kc] 124:Obj)]→True):=xH (fun _ _=>trivial)
    have hX4:Below w3.heap.size w3 (w3.alloc (.cells #[.int .i64 xk,.string xd,.bool xc,.int .i64 xa,.int .i64 xm,.slice ka kl kc] 124)):=(Below.refl _ _).alloc (Nat.le_refl _) _
    have HX4:=xH (And.intro HXO.out.1 (HXO.out.2.imp fun zs hz=>hz.carry (Q:=fun g=>wr.heap.size≤g∧g < (w3.alloc (.cells #[.int .i64 xk,.string xd,.bool xc,.int .i64 xa,.int .i64 xm,.slice ka kl kc] 124)).heap.size) (fun g hg=>hX4.block g hg.2) (fun g hg=>⟨hg.1,Nat.lt_of_lt_of_le hg.2 hX4.size⟩)))
    have hB9:w3.heap.size < (w3.alloc (.cells #[.int .i64 xk,.string xd,.bool xc,.int .i64 xa,.int .i64 xm,.slice ka kl kc] 124)).heap.size:=by simp
    clear HXP hX4 HXO HS3
    generalize w3.alloc (.cells #[.int .i64 xk,.string xd,.bool xc,.int .i64 xa,.int .i64 xm,.slice ka kl kc] 124)=W4 at HS4 HBX HX4 hB9 ⊢
    generalize w3.heap.size=B9 at HBX hsz hB9 ⊢
    have m0:=lies_cell (j:=0) HBX.out rfl;have m1:=lies_cell (j:=1) HBX.out rfl;have m2:=lies_cell (j:=2) HBX.out rfl;have m3:=lies_cell (j:=3) HBX.out rfl;have m4:=lies_cell (j:=4) HBX.out rfl;have m5:=lies_cell (j:=5) HBX.out rfl
    have HS5:=xH (HS4.out.on ((Below.refl _ _).alloc (Nat.le_refl _) (.cells #[.int .i64 xk,.string xd,.bool xc,.int .i64 xa,.int .i64 xm,.slice ka kl kc] 124)))
    have HB5:=xH (HBX.out.on ((Below.refl _ _).alloc (Nat.le_refl _) (.cells #[.int .i64 xk,.string xd,.bool xc,.int .i64 xa,.int .i64 xm,.slice ka kl kc] 124)))
    have HL5:Hid (Lies (W4.alloc (.cells #[.int .i64 xk,.string xd,.bool xc,.int .i64 xa,.int .i64 xm,.slice ka kl kc] 124)) W4.heap.size (Ar.cs ⟨xk,xd,xc,xa,xm,.slice ka kl kc⟩)):=xH (lies_alloc W4 [.int .i64 xk,.string xd,.bool xc,.int .i64 xa,.int .i64 xm,.slice ka kl kc] 124)
    have hX5:Below W4.heap.size W4 (W4.alloc (.cells #[.int .i64 xk,.string xd,.bool xc,.int .i64 xa,.int .i64 xm,.slice ka kl kc] 124)):=(Below.refl _ _).alloc (Nat.le_refl _) _
    have HX5:=xH (And.intro HX4.out.1 (HX4.out.2.imp fun zs hz=>hz.carry (Q:=fun g=>w.heap.size≤g∧g < (W4.alloc (.cells #[.int .i64 xk,.string xd,.bool xc,.int .i64 xa,.int .i64 xm,.slice ka kl kc] 124)).heap.size∧(Value.slice oa n oc).ownBlock≠some g) (fun g hg=>hX5.block g hg.2) (fun g hg=>⟨by omega,Nat.lt_of_lt_of_le hg.2 hX5.size,fun e=>by have:=hown g e;omega⟩)))
    have hOW:=xH HS5.out.own
    have hs5:=hX5.size
    clear hX5 HS4 HX4
    go_upto_region 7 with (at_builtin;refine append_ac _ rfl _ _ rfl w.heap.size oa oc n xs rfl hOW W4.heap.size ⟨xk,xd,xc,xa,xm,.slice ka kl kc⟩ rfl HL5 rfl (by omega) (by omega) ?_;intro ga gc W7 ho7 hg7 hn7)
    have HS7:=xH (HS5.out.app HX5.out ho7.out hg7.out hn7.out)
    have c2:=lies_cell (j:=2) (HB5.out.of_block (hg7.out.block B9 (by omega) (fun e=>by have:=hown B9 e.symm;omega))) rfl
    clear m0 m1 m2 m3 m4 m5 HS5 HB5 HL5 HX5 hOW ho7 hg7 hn7 HBX hown
    cases xc with
    | false =>
      go_wp2_with fail
      go_roundw
      case rel=>exact ⟨k+1,n+1,m - 1,q3,ga,gc,xs++[⟨xk,xd,false,xa,xm,.slice ka kl kc⟩],rfl,by go_num,by omega,by omega,by omega,HS7⟩
      case measure=>simp [intOf];omega
    | true =>
      have HPx:=xH (HPK.out W7 q3 3 HS7.out.dr (by omega) (by omega))
      go_wp2_with fail
      refine HPx.out.mono ?_
      rintro e w8 ⟨r2,rfl,hrr2,HDx,HBx⟩
      have HS8:=xH (HS7.out.draw HBx.out HDx.out)
      clear HPx HS7 HDx HBx
      by_cases hr0:r2=0
      · subst hr0
        go_wp2_with fail
        go_roundw
        case rel=>exact ⟨k+1,n+1,m - 1,q3+1,ga,gc,xs++[⟨xk,xd,true,xa,xm,.slice ka kl kc⟩],rfl,by go_num,by omega,by omega,by omega,HS8⟩
        case measure=>simp [intOf];omega
      · have hd0:decide ((0:Int) < (r2:Int))=true:=decide_eq_true (by omega)
        have hd1:decide (0 < r2)=true:=decide_eq_true (by omega)
        have HPx:=xH (HPK.out w8 (q3+1) 3 HS8.out.dr (by omega) (by omega))
        go_wp2_with fail
        refine HPx.out.mono ?_
        rintro e w9 ⟨r3,rfl,hrr3,HDx,HBx⟩
        have HS9:=xH (HS8.out.draw HBx.out HDx.out)
        clear HPx HS8 HDx HBx
        have HPx:=xH (HPK.out w9 (q3+1+1) 9 HS9.out.dr (by omega) (by omega))
        go_wp2_with fail
        refine HPx.out.mono ?_
        rintro e w10 ⟨r4,rfl,hrr4,HDx,HBx⟩
        have HS10:=xH (HS9.out.draw HBx.out HDx.out)
        clear HPx HS9 HDx HBx
        have HPx:=xH (HPK.out w10 (q3+1+1+1) 4 HS10.out.dr (by omega) (by omega))
        go_wp2_with fail
        refine HPx.out.mono ?_
        rintro e w11 ⟨r5,rfl,hrr5,HDx,HBx⟩
        have HS11:=xH (HS10.out.draw HBx.out HDx.out)
        clear HPx HS10 HDx HBx
        have HPx:=xH (HPK.out w11 (q3+1+1+1+1) 2 HS11.out.dr (by omega) (by omega))
        go_wp2_with fail
        refine HPx.out.mono ?_
        rintro e w12 ⟨r6,rfl,hrr6,HDx,HBx⟩
        have HS12:=xH (HS11.out.draw HBx.out HDx.out)
        clear HPx HS11 HDx HBx
        have HPx:=xH (HPK.out w12 (q3+1+1+1+1+1) 2 HS12.out.dr (by omega) (by omega))
        go_wp2_with fail
        refine HPx.out.mono ?_
        rintro e w13 ⟨r7,rfl,hrr7,HDx,HBx⟩
        have HS13:=xH (HS12.out.draw HBx.out HDx.out)
        clear HPx HS12 HDx HBx
        have HPx:=xH (HPK.out w13 (q3+1+1+1+1+1+1) 3 HS13.out.dr (by omega) (by omega))
        go_wp2_with fail
        refine HPx.out.mono ?_
        rintro e w14 ⟨r8,rfl,hrr8,HDx,HBx⟩
        have HS14:=xH (HS13.out.draw HBx.out HDx.out)
        clear HPx HS13 HDx HBx
        have HPx:=xH (HPK.out w14 (q3+1+1+1+1+1+1+1) 2 HS14.out.dr (by omega) (by omega))
        go_wp2_with fail
        refine HPx.out.mono ?_
        rintro e w15 ⟨r9,rfl,hrr9,HDx,HBx⟩
        have HS15:=xH (HS14.out.draw HBx.out HDx.out)
        clear HPx HS14 HDx HBx
        have hrs:(r6:Int) * 9999≤9999∧0≤(r6:Int) * 9999∧(r7:Int) * 9999≤9999∧0≤(r7:Int) * 9999∧(r9:Int) * 9999≤9999∧0≤(r9:Int) * 9999:=by omega
        have HZ:Hid (ZsAt (fun g=>w15.heap.size≤g∧g < (w15.alloc (.cells #[.int .i64 ((r6:Int) * 9999),.int .i64 ((r7:Int) * 9999),.int .i64 (r8:Int),.int .i64 ((r9:Int) * 9999)] 3)).heap.size) (w15.alloc (.cells #[.int .i64 ((r6:Int) * 9999),.int .i64 ((r7:Int) * 9999),.int .i64 (r8:Int),.int .i64 ((r9:Int) * 9999)] 3)) (.slice (some ⟨w15.heap.size,0,none⟩) 4 4) [(r6:Int) * 9999,(r7:Int) * 9999,(r8:Int),(r9:Int) * 9999]):=xH (zs_own (own_lit w15 w15.heap.size 3 1 4 [.int .i64 ((r6:Int) * 9999),.int .i64 ((r7:Int) * 9999),.int .i64 (r8:Int),.int .i64 ((r9:Int) * 9999)] (Nat.le_refl _) rfl (by decide)) (fun z hz=>by
         simp only [List.mem_cons,List.not_mem_nil,or_false] at hz
         simp only [I64]
         rcases hz with rfl | rfl | rfl | rfl <;> omega))
        have hb16:Below w15.heap.size w15 (w15.alloc (.cells #[.int .i64 ((r6:Int) * 9999),.int .i64 ((r7:Int) * 9999),.int .i64 (r8:Int),.int .i64 ((r9:Int) * 9999)] 3)):=(Below.refl _ _).alloc (Nat.le_refl _) _
        have hb17:Below (w15.alloc (.cells #[.int .i64 ((r6:Int) * 9999),.int .i64 ((r7:Int) * 9999),.int .i64 (r8:Int),.int .i64 ((r9:Int) * 9999)] 3)).heap.size (w15.alloc (.cells #[.int .i64 ((r6:Int) * 9999),.int .i64 ((r7:Int) * 9999),.int .i64 (r8:Int),.int .i64 ((r9:Int) * 9999)] 3)) ((w15.alloc (.cells #[.int .i64 ((r6:Int) * 9999),.int .i64 ((r7:Int) * 9999),.int .i64 (r8:Int),.int .i64 ((r9:Int) * 9999)] 3)).alloc (.cells #[.int .i64 4,.string ⟨#[]⟩,.bool ((r3:Int)==0),.int .i64 (r4:Int),.int .i64 (r5:Int),.slice (some ⟨w15.heap.size,0,none⟩) 4 4] 124)):=(Below.refl _ _).alloc (Nat.le_refl _) _
        have hs17:=hb17.size
        have hs16:=hb16.size
        have hsw:=HS15.out.but.size
        have HS17:=xH ((HS15.out.on hb16).on hb17)
        have hown:∀ g,(Value.slice ga (n+1) gc).ownBlock=some g→g < w15.heap.size:=fun g e=>(own_ge HS15.out.own e).2
        have HX:=xH (show (⟨4,⟨#[]⟩,((r3:Int)==0),(r4:Int),(r5:Int),.slice (some ⟨w15.heap.size,0,none⟩) 4 4⟩:Ar).data.size≤2000∧∃ zs,ZsAt (fun g=>w.heap.size≤g∧g < ((w15.alloc (.cells #[.int .i64 ((r6:Int) * 9999),.int .i64 ((r7:Int) * 9999),.int .i64 (r8:Int),.int .i64 ((r9:Int) * 9999)] 3)).alloc (.cells #[.int .i64 4,.string ⟨#[]⟩,.bool ((r3:Int)==0),.int .i64 (r4:Int),.int .i64 (r5:Int),.slice (some ⟨w15.heap.size,0,none⟩) 4 4] 124)).heap.size∧(Value.slice ga (n+1) gc).ownBlock≠some g) ((w15.alloc (.cells #[.int .i64 ((r6:Int) * 9999),.int .i64 ((r7:Int) * 9999),.int .i64 (r8:Int),.int .i64 ((r9:Int) * 9999)] 3)).alloc (.cells #[.int .i64 4,.string ⟨#[]⟩,.bool ((r3:Int)==0),.int .i64 (r4:Int),.int .i64 (r5:Int),.slice (some ⟨w15.heap.size,0,none⟩) 4 4] 124)) (⟨4,⟨#[]⟩,((r3:Int)==0),(r4:Int),(r5:Int),.slice (some ⟨w15.heap.size,0,none⟩) 4 4⟩:Ar).vk zs from ⟨by show 0≤2000;omega,_,HZ.out.carry (fun g hg=>hb17.block g hg.2) (fun g hg=>⟨by omega,Nat.lt_of_lt_of_le hg.2 hs17,fun e=>by have:=hown g e;omega⟩)⟩)
        have HLI:Hid (Lies ((w15.alloc (.cells #[.int .i64 ((r6:Int) * 9999),.int .i64 ((r7:Int) * 9999),.int .i64 (r8:Int),.int .i64 ((r9:Int) * 9999)] 3)).alloc (.cells #[.int .i64 4,.string ⟨#[]⟩,.bool ((r3:Int)==0),.int .i64 (r4:Int),.int .i64 (r5:Int),.slice (some ⟨w15.heap.size,0,none⟩) 4 4] 124)) (w15.heap.size+1) (Ar.cs ⟨4,⟨#[]⟩,((r3:Int)==0),(r4:Int),(r5:Int),.slice (some ⟨w15.heap.size,0,none⟩) 4 4⟩)):=xH (by
         have:=lies_alloc (w15.alloc (.cells #[.int .i64 ((r6:Int) * 9999),.int .i64 ((r7:Int) * 9999),.int .i64 (r8:Int),.int .i64 ((r9:Int) * 9999)] 3)) [.int .i64 4,.string ⟨#[]⟩,.bool ((r3:Int)==0),.int .i64 (r4:Int),.int .i64 (r5:Int),.slice (some ⟨w15.heap.size,0,none⟩) 4 4] 124
         rw [World.size_alloc] at this
         exact this)
        have hOW:=xH HS17.out.own
        clear HS15 HZ hb16 hb17
        go_wp2_with (at_builtin;refine append_ac _ rfl _ _ rfl w.heap.size ga gc (n+1) _ rfl hOW (w15.heap.size+1) ⟨4,⟨#[]⟩,((r3:Int)==0),(r4:Int),(r5:Int),.slice (some ⟨w15.heap.size,0,none⟩) 4 4⟩ rfl HLI rfl (by omega) (by omega) ?_;intro ea ec W18 ho8 hg8 hn8)
        have HS18:=xH (HS17.out.app HX.out ho8.out hg8.out hn8.out)
        clear HS17 HX HLI hOW ho8 hg8 hn8
        go_roundw
        case rel=>exact ⟨k+1,n+1+1,m - 1,q3+1+1+1+1+1+1+1+1,ea,ec,_,rfl,by go_num,by omega,by omega,by omega,HS18⟩
        case measure=>simp [intOf];omega

theorem good_do {d:Dk} {k:Int} {x y:ByteArray} (h:GoodD d):GoodD (doD d k x y).1:=by
 by_cases hok:DkOkS d
 · by_cases h0:(doD d k x y).2=0
   · exact Or.inl (doD_ok hok h0)
   · rw [doD_same hok h0];exact h
 · have:doD d k x y=(⟨[],[],[]⟩,1):=by unfold doD;rw [if_pos hok]
   rw [this]
   exact Or.inr (Or.inl rfl)
theorem good_len {d:Dk} (h:GoodD d):d.files.length≤1000∧d.names.length≤1000∧d.moves.length≤1000:=by
 rcases h with h | rfl | ⟨d0,m,zs,h,rfl⟩
 · have:=h.l1;have:=h.l2;have:=h.l3;omega
 · exact ⟨by decide,by decide,by decide⟩
 · rw [cutD_ok h]
   have:=(cutN_facts h m).2.1
   simp only [List.length_map,List.length_nil]
   omega
theorem ok_files {d:Dk} (h:DkOkS d):∀ f,f∈d.files→f.name.size≤1000∧f.data.size≤20000:=fun f hf=>by
 obtain ⟨i,hi,rfl⟩:=List.getElem_of_mem hf
 have:=h.file i hi (by rw [h.len];exact hi)
 exact ⟨Nat.le_trans (name_size this.name) (by decide),this.data⟩
theorem good_files {d:Dk} (h:GoodD d):∀ f,f∈d.files→f.name.size≤1000∧f.data.size≤40000:=fun f hf=>by
 rcases h with h | rfl | ⟨d0,m,zs,h,rfl⟩
 · have:=ok_files h f hf;omega
 · cases hf
 · rw [cutD_ok h] at hf
   obtain ⟨x,-,rfl⟩:=List.mem_map.1 hf
   have hx:(fileD d0 x).name.size≤1000∧(fileD d0 x).data.size≤20000:=by
    unfold fileD
    rw [List.getD_eq_getElem?_getD]
    cases hg:d0.files[(findF d0.files x).toNat]? with
    | none=>exact ⟨by decide,by decide⟩
    | some g=>exact ok_files h g (List.mem_of_getElem? hg)
   refine ⟨hx.1,?_⟩
   show (cutB _ _).size≤40000
   unfold cutB
   rw [ByteArray.size_append,ByteArray.size_extract,ByteArray.size_extract,ByteArray.size_extract]
   omega

def Kept2 (R B:Nat) (V W:World):Prop:=V.heap.size≤W.heap.size∧∀ g,g < V.heap.size→g≠R→g≠B→W.heap[g]? = V.heap[g]?
theorem Kept2.of_but {R B:Nat} {V W:World} (h:But R V W):Kept2 R B V W:=⟨h.size,fun _ hg hne _=>h.at hg hne⟩
theorem Kept2.cell {R B:Nat} {V W:World} (h:Kept2 R B V W) {g o:Nat} {u:Value} (hg:g < V.heap.size) (h1:g≠R) (h2:g≠B) (hc:V.cell? ⟨g,o,none⟩=some u):W.cell? ⟨g,o,none⟩=some u:=by
 rw [World.cell?_of_block (w:=V) (h.2 g hg h1 h2)];exact hc
theorem of4 (R:Nat) (w:World) (v:Value) (b:List UInt8) (p:Nat) (h:DR R w v b p) (hp:p≤10000000) (g:Nat) (more:ByteArray) (hm:more.size≤1000000) (hrow:w.rowIs g 9 4 (fun i=>.string ([⟨#[]⟩,⟨#[97,98,99]⟩,more,⟨#[0,1,0,0,1,97]⟩].getD i ByteArray.empty))) (hg:R < g) :
 Calls Try.prog 51 #[.pointer (some ⟨R,0,none⟩),.slice (some ⟨g,0,none⟩) 4 4] w fun e w'=>∃ y,e=.returned (.string y)∧y.size≤1000000∧Hid (DR R w' v b (p+1))∧Hid (But R w w'):=by
 refine (of_any R w v b p h (by omega) g 4 (fun i=>[⟨#[]⟩,⟨#[97,98,99]⟩,more,⟨#[0,1,0,0,1,97]⟩].getD i ByteArray.empty) (by omega) hrow hg).mono ?_
 rintro e w' ⟨r,rfl,hr,HD,HB⟩
 refine ⟨_,rfl,?_,HD,HB⟩
 rcases (show r=0∨r=1∨r=2∨r=3 by omega) with rfl | rfl | rfl | rfl
 · show 0≤1000000;omega
 · show 3≤1000000;omega
 · exact hm
 · show 6≤1000000;omega
theorem row_four (W:World) (more:ByteArray):(W.alloc (.cells #[.string ⟨#[]⟩,.string ⟨#[97,98,99]⟩,.string more,.string ⟨#[0,1,0,0,1,97]⟩] 9)).rowIs W.heap.size 9 4 (fun i=>.string ([⟨#[]⟩,⟨#[97,98,99]⟩,more,⟨#[0,1,0,0,1,97]⟩].getD i ByteArray.empty)) :=
 World.rowIs_alloc W #[.string ⟨#[]⟩,.string ⟨#[97,98,99]⟩,.string more,.string ⟨#[0,1,0,0,1,97]⟩] 9 _ (fun i hi=>by
  have hi':i < 4:=by simpa using hi
  rcases (show i=0∨i=1∨i=2∨i=3 by omega) with rfl | rfl | rfl | rfl <;> rfl)
noncomputable def lr2Ops:Array Oper:=fops Try.f22 2
theorem lr2_neat:Region.noSelect lr2Ops=true∧neat lr2Ops=true:=⟨by kernel_rfl,by kernel_rfl⟩
theorem lr2 (R B6 gn nn cn q:Nat) (v:Value) (b:List UInt8) (more:ByteArray) (W0:World) {l:List Value} (Q:Exit→Act→World→Prop) (hQ:∀ c a d v w,Q (.panic c) (Act.put a d v) w→Q (.panic c) a w) (hD0:DR R W0.drew v b q) (hp:q≤100000) (hmo:more.size≤1000000) (hn1:1≤nn∧nn≤2000) (hgn:gn < W0.drew.heap.size) (hgnR:gn≠R) (hgn6:gn≠B6) (h6R:B6≠R) (hR:R < W0.drew.heap.size) (h6row:W0.drew.rowIs B6 29 3 (row3 (.int .i64 0) (.string ⟨#[]⟩) (.string ⟨#[]⟩))) (hns:∀ i,i < nn→∃ nm:ByteArray,W0.drew.cell? ⟨gn,0+i,none⟩=some (.string nm)∧nm.size≤1000) (HPK:∀ (W:World) (q' n':Nat),DR R W v b q'→1≤n'∧n'≤1000000→q'≤100000000→Calls Try.prog 24 #[.pointer (some ⟨R,0,none⟩),.int .i64 (n':Int)] W fun e w'=>PickEnd R W w' v b q' n' e)
 (hl:lookL [(0,.pointer (some ⟨R,0,none⟩)),(2,.string more),(6,.pointer (some ⟨B6,0,none⟩)),(7,.slice (some ⟨gn,0,none⟩) nn cn)] l=(26,([(0,.pointer (some ⟨R,0,none⟩)),(2,.string more),(6,.pointer (some ⟨B6,0,none⟩)),(7,.slice (some ⟨gn,0,none⟩) nn cn)]:List (Nat × Value)).map (·.2)))
 (hend:∀ (u:Nat→Value) (w1:World) (k:Nat) (nm y:ByteArray),nm.size≤1000→y.size≤1000000→DR R w1 v b (q+1+1+1)→But R W0.drew w1→Q .normal ⟨(frL u 26 [(0,.pointer (some ⟨R,0,none⟩)),(2,.string more),(6,.pointer (some ⟨B6,0,none⟩)),(7,.slice (some ⟨gn,0,none⟩) nn cn)]).toArray,[]⟩ (((w1.setCell ⟨B6,0,none⟩ (.int .i64 (k:Nat))).setCell ⟨B6,1,none⟩ (.string nm)).setCell ⟨B6,2,none⟩ (.string y))):(Code.region 2 lr2Ops true).wp Try.prog Q ⟨l.toArray,[]⟩ W0:=by
 obtain ⟨v0,rfl⟩:=look_fr hl
 have hq:NtQ lr2Ops Q:=⟨lr2_neat,hQ⟩
 refine T_start (S:=fun W=>Kept2 R B6 W0.drew W) (by kernel_rfl) (Kept2.of_but (But.refl _ _)) ?_
 clear hl hQ
 generalize W0.drew=V at hD0 hgn hR h6row hns hend ⊢
 have N1_6_11:∀ (u:Nat→Value) (W:World) (g:Nat) (hg:W.rowIs g 9 4 (fun i=>.string ([⟨#[]⟩,⟨#[97,98,99]⟩,more,⟨#[0,1,0,0,1,97]⟩].getD i ByteArray.empty))) (hgR:R < g) (k:Nat) (nm:ByteArray) (hnm:nm.size≤1000) (hD:DR R W v b (q+1+1)) (hB:But R V W),wpS Try.prog lr2Ops Q (fun W=>Kept2 R B6 V W) (unl 15 [12,13,14],frL u 26 [(0,.pointer (some ⟨R,0,none⟩)),(2,.string more),(6,.pointer (some ⟨B6,0,none⟩)),(7,.slice (some ⟨gn,0,none⟩) nn cn),(13,.int .i64 (k:Nat)),(20,.string nm),(21,.pointer (some ⟨R,0,none⟩)),(23,.slice (some ⟨g,0,none⟩) 4 4)]) [] W:=by
  intro u W g hg hgR k nm hnm hD hB
  refine T_one 12 (by kernel_rfl) fun _=>O_go (of4 R W v b _ hD (by omega) g more hmo hg hgR) (by kernel_rfl) ?_
  rintro e w1 ⟨y,rfl,hy,HD,HB⟩
  refine ⟨_,rfl,Kept2.of_but (hB.trans HB.out),?_⟩
  have h6:=h6row.of_block ((hB.trans HB.out).at h6row.lt h6R)
  refine T_z hq [13] (by kernel_rfl) ?_
  refine T_fr 15 26 [14] [(0,.pointer (some ⟨R,0,none⟩)),(2,.string more),(6,.pointer (some ⟨B6,0,none⟩)),(7,.slice (some ⟨gn,0,none⟩) nn cn),(25,.agg #[.int .i64 (k:Nat),.string nm,.string y])] (by kernel_rfl) fun u=>?_
  obtain ⟨s1,s2,s3,s4⟩:=set3 w1 B6 (.int .i64 (k:Nat)) (.string nm) (.string y)
  refine T_one 14 (by kernel_rfl) fun _=>O_store_mid none 29 (.tmp 6) (.tmp 25) B6 0 #[.int .i64 (k:Nat),.string nm,.string y] (by kernel_rfl) (by kernel_rfl) (by kernel_rfl) (there3 h6) info3W (by rw [← Array.all_toList];rfl) ⟨by rw [show _=w1.heap.size from s2];exact (hB.trans HB.out).size,fun g2 hg2 hn1 hn2=>(s1 g2 hn2).trans ((hB.trans HB.out).at hg2 hn1)⟩ ?_
  exact T_end 26 [(0,.pointer (some ⟨R,0,none⟩)),(2,.string more),(6,.pointer (some ⟨B6,0,none⟩)),(7,.slice (some ⟨gn,0,none⟩) nn cn)] (by kernel_rfl) (by kernel_rfl) fun _ u=>hend u w1 k nm y hnm hy HD.out (hB.trans HB.out)
 have N1_6:∀ (u:Nat→Value) (W:World) (k:Nat) (nm:ByteArray) (hnm:nm.size≤1000) (hD:DR R W v b (q+1+1)) (hB:But R V W),wpS Try.prog lr2Ops Q (fun W=>Kept2 R B6 V W) (unl 15 [11,12,13,14],frL u 26 [(0,.pointer (some ⟨R,0,none⟩)),(2,.string more),(6,.pointer (some ⟨B6,0,none⟩)),(7,.slice (some ⟨gn,0,none⟩) nn cn),(13,.int .i64 (k:Nat)),(20,.string nm),(21,.pointer (some ⟨R,0,none⟩)),(22,.string more)]) [] W:=by
  intro u W k nm hnm hD hB
  refine T_one 11 (by kernel_rfl) fun _=>?_
  exact O_val (w':=W.alloc (.cells #[.string ⟨#[]⟩,.string ⟨#[97,98,99]⟩,.string more,.string ⟨#[0,1,0,0,1,97]⟩] 9)) (some 23) (.slice (some ⟨W.heap.size,0,none⟩) 4 4) (by kernel_rfl) (by kernel_rfl) (Kept2.of_but (hB.trans (But.alloc R W _))) (T_fr 15 26 [12,13,14] [(0,.pointer (some ⟨R,0,none⟩)),(2,.string more),(6,.pointer (some ⟨B6,0,none⟩)),(7,.slice (some ⟨gn,0,none⟩) nn cn),(13,.int .i64 (k:Nat)),(20,.string nm),(21,.pointer (some ⟨R,0,none⟩)),(23,.slice (some ⟨W.heap.size,0,none⟩) 4 4)] (by kernel_rfl) fun u=>N1_6_11 u _ _ (row_four W more) (by have:=hB.size;omega) k nm hnm (hD.on ((Below.refl _ _).alloc (Nat.le_refl _) _)) (hB.trans (But.alloc R W _)))
 have N1_11:∀ (u:Nat→Value) (W:World) (g:Nat) (hg:W.rowIs g 9 4 (fun i=>.string ([⟨#[]⟩,⟨#[97,98,99]⟩,more,⟨#[0,1,0,0,1,97]⟩].getD i ByteArray.empty))) (hgR:R < g) (k:Nat) (hD:DR R W v b (q+1)) (hB:But R V W),wpS Try.prog lr2Ops Q (fun W=>Kept2 R B6 V W) (unl 15 [6,7,8,12,13,14],frL u 26 [(0,.pointer (some ⟨R,0,none⟩)),(2,.string more),(6,.pointer (some ⟨B6,0,none⟩)),(7,.slice (some ⟨gn,0,none⟩) nn cn),(13,.int .i64 (k:Nat)),(14,.slice (some ⟨gn,0,none⟩) nn cn),(15,.pointer (some ⟨R,0,none⟩)),(17,.int .i64 (nn:Nat)),(21,.pointer (some ⟨R,0,none⟩)),(23,.slice (some ⟨g,0,none⟩) 4 4)]) [] W:=by
  intro u W g hg hgR k hD hB
  refine T_one 6 (by kernel_rfl) fun _=>?_
  refine O_go (HPK W _ nn hD (by omega) (by omega)) (by kernel_rfl) ?_
  rintro e w1 ⟨j,rfl,hj,HD,HB⟩
  obtain ⟨nm,hc,hnm⟩:=hns j hj
  refine ⟨_,rfl,Kept2.of_but (hB.trans HB.out),?_⟩
  refine T_yld hq 7 (some 19) (.pointer (some ⟨gn,0+j,none⟩)) (by kernel_rfl) (by kernel_rfl) (fun w _=>ixRunN (X:=.tmp 14) (I:=.tmp 18) (n:=nn) (cap:=cn) (i:=j) (by kernel_rfl) (by kernel_rfl) (by kernel_rfl) hj w) ?_
  refine T_a hq [8] (fun w h=>.cons (ldStr _ _ _ (Kept2.cell h hgn hgnR hgn6 hc)) (Lds.nil)) (by kernel_rfl) ?_
  exact T_fr 15 26 [12,13,14] [(0,.pointer (some ⟨R,0,none⟩)),(2,.string more),(6,.pointer (some ⟨B6,0,none⟩)),(7,.slice (some ⟨gn,0,none⟩) nn cn),(13,.int .i64 (k:Nat)),(20,.string nm),(21,.pointer (some ⟨R,0,none⟩)),(23,.slice (some ⟨g,0,none⟩) 4 4)] (by kernel_rfl) fun u=>N1_6_11 u w1 g (hg.of_block (HB.out.at hg.lt (by omega))) hgR k nm hnm HD.out (hB.trans HB.out)
 have N1:∀ (u:Nat→Value) (W:World) (k:Nat) (hD:DR R W v b (q+1)) (hB:But R V W),wpS Try.prog lr2Ops Q (fun W=>Kept2 R B6 V W) (unl 15 [6,7,8,11,12,13,14],frL u 26 [(0,.pointer (some ⟨R,0,none⟩)),(2,.string more),(6,.pointer (some ⟨B6,0,none⟩)),(7,.slice (some ⟨gn,0,none⟩) nn cn),(13,.int .i64 (k:Nat)),(14,.slice (some ⟨gn,0,none⟩) nn cn),(15,.pointer (some ⟨R,0,none⟩)),(17,.int .i64 (nn:Nat)),(21,.pointer (some ⟨R,0,none⟩)),(22,.string more)]) [] W:=by
  intro u W k hD hB
  refine T_two 6 11 (by kernel_rfl) (fun _=>?_) fun _=>?_
  · refine O_go (HPK W _ nn hD (by omega) (by omega)) (by kernel_rfl) ?_
    rintro e w1 ⟨j,rfl,hj,HD,HB⟩
    obtain ⟨nm,hc,hnm⟩:=hns j hj
    refine ⟨_,rfl,Kept2.of_but (hB.trans HB.out),?_⟩
    refine T_yld hq 7 (some 19) (.pointer (some ⟨gn,0+j,none⟩)) (by kernel_rfl) (by kernel_rfl) (fun w _=>ixRunN (X:=.tmp 14) (I:=.tmp 18) (n:=nn) (cap:=cn) (i:=j) (by kernel_rfl) (by kernel_rfl) (by kernel_rfl) hj w) ?_
    refine T_a hq [8] (fun w h=>.cons (ldStr _ _ _ (Kept2.cell h hgn hgnR hgn6 hc)) (Lds.nil)) (by kernel_rfl) ?_
    exact T_fr 15 26 [11,12,13,14] [(0,.pointer (some ⟨R,0,none⟩)),(2,.string more),(6,.pointer (some ⟨B6,0,none⟩)),(7,.slice (some ⟨gn,0,none⟩) nn cn),(13,.int .i64 (k:Nat)),(20,.string nm),(21,.pointer (some ⟨R,0,none⟩)),(22,.string more)] (by kernel_rfl) fun u=>N1_6 u w1 k nm hnm HD.out (hB.trans HB.out)
  · exact O_val (w':=W.alloc (.cells #[.string ⟨#[]⟩,.string ⟨#[97,98,99]⟩,.string more,.string ⟨#[0,1,0,0,1,97]⟩] 9)) (some 23) (.slice (some ⟨W.heap.size,0,none⟩) 4 4) (by kernel_rfl) (by kernel_rfl) (Kept2.of_but (hB.trans (But.alloc R W _))) (T_fr 15 26 [6,7,8,12,13,14] [(0,.pointer (some ⟨R,0,none⟩)),(2,.string more),(6,.pointer (some ⟨B6,0,none⟩)),(7,.slice (some ⟨gn,0,none⟩) nn cn),(13,.int .i64 (k:Nat)),(14,.slice (some ⟨gn,0,none⟩) nn cn),(15,.pointer (some ⟨R,0,none⟩)),(17,.int .i64 (nn:Nat)),(21,.pointer (some ⟨R,0,none⟩)),(23,.slice (some ⟨W.heap.size,0,none⟩) 4 4)] (by kernel_rfl) fun u=>N1_11 u _ _ (row_four W more) (by have:=hB.size;omega) k (hD.on ((Below.refl _ _).alloc (Nat.le_refl _) _)) (hB.trans (But.alloc R W _)))
 have N11:∀ (u:Nat→Value) (W:World) (g:Nat) (hg:W.rowIs g 9 4 (fun i=>.string ([⟨#[]⟩,⟨#[97,98,99]⟩,more,⟨#[0,1,0,0,1,97]⟩].getD i ByteArray.empty))) (hgR:R < g) (hD:DR R W v b (q)) (hB:But R V W),wpS Try.prog lr2Ops Q (fun W=>Kept2 R B6 V W) (unl 15 [1,6,7,8,12,13,14],frL u 26 [(0,.pointer (some ⟨R,0,none⟩)),(2,.string more),(6,.pointer (some ⟨B6,0,none⟩)),(7,.slice (some ⟨gn,0,none⟩) nn cn),(12,.pointer (some ⟨R,0,none⟩)),(14,.slice (some ⟨gn,0,none⟩) nn cn),(15,.pointer (some ⟨R,0,none⟩)),(17,.int .i64 (nn:Nat)),(21,.pointer (some ⟨R,0,none⟩)),(23,.slice (some ⟨g,0,none⟩) 4 4)]) [] W:=by
  intro u W g hg hgR hD hB
  refine T_one 1 (by kernel_rfl) fun _=>?_
  refine O_go (HPK W _ 8 hD (by omega) (by omega)) (by kernel_rfl) ?_
  rintro e w1 ⟨k,rfl,hk,HD,HB⟩
  exact ⟨_,rfl,Kept2.of_but (hB.trans HB.out),T_fr 15 26 [6,7,8,12,13,14] [(0,.pointer (some ⟨R,0,none⟩)),(2,.string more),(6,.pointer (some ⟨B6,0,none⟩)),(7,.slice (some ⟨gn,0,none⟩) nn cn),(13,.int .i64 (k:Nat)),(14,.slice (some ⟨gn,0,none⟩) nn cn),(15,.pointer (some ⟨R,0,none⟩)),(17,.int .i64 (nn:Nat)),(21,.pointer (some ⟨R,0,none⟩)),(23,.slice (some ⟨g,0,none⟩) 4 4)] (by kernel_rfl) fun u=>N1_11 u w1 g (hg.of_block (HB.out.at hg.lt (by omega))) hgR k HD.out (hB.trans HB.out)⟩
 have N:∀ (u:Nat→Value) (W:World) (hD:DR R W v b (q)) (hB:But R V W),wpS Try.prog lr2Ops Q (fun W=>Kept2 R B6 V W) (unl 15 [1,6,7,8,11,12,13,14],frL u 26 [(0,.pointer (some ⟨R,0,none⟩)),(2,.string more),(6,.pointer (some ⟨B6,0,none⟩)),(7,.slice (some ⟨gn,0,none⟩) nn cn),(12,.pointer (some ⟨R,0,none⟩)),(14,.slice (some ⟨gn,0,none⟩) nn cn),(15,.pointer (some ⟨R,0,none⟩)),(17,.int .i64 (nn:Nat)),(21,.pointer (some ⟨R,0,none⟩)),(22,.string more)]) [] W:=by
  intro u W hD hB
  refine T_two 1 11 (by kernel_rfl) (fun _=>?_) fun _=>?_
  · refine O_go (HPK W _ 8 hD (by omega) (by omega)) (by kernel_rfl) ?_
    rintro e w1 ⟨k,rfl,hk,HD,HB⟩
    exact ⟨_,rfl,Kept2.of_but (hB.trans HB.out),T_fr 15 26 [6,7,8,11,12,13,14] [(0,.pointer (some ⟨R,0,none⟩)),(2,.string more),(6,.pointer (some ⟨B6,0,none⟩)),(7,.slice (some ⟨gn,0,none⟩) nn cn),(13,.int .i64 (k:Nat)),(14,.slice (some ⟨gn,0,none⟩) nn cn),(15,.pointer (some ⟨R,0,none⟩)),(17,.int .i64 (nn:Nat)),(21,.pointer (some ⟨R,0,none⟩)),(22,.string more)] (by kernel_rfl) fun u=>N1 u w1 k HD.out (hB.trans HB.out)⟩
  · exact O_val (w':=W.alloc (.cells #[.string ⟨#[]⟩,.string ⟨#[97,98,99]⟩,.string more,.string ⟨#[0,1,0,0,1,97]⟩] 9)) (some 23) (.slice (some ⟨W.heap.size,0,none⟩) 4 4) (by kernel_rfl) (by kernel_rfl) (Kept2.of_but (hB.trans (But.alloc R W _))) (T_fr 15 26 [1,6,7,8,12,13,14] [(0,.pointer (some ⟨R,0,none⟩)),(2,.string more),(6,.pointer (some ⟨B6,0,none⟩)),(7,.slice (some ⟨gn,0,none⟩) nn cn),(12,.pointer (some ⟨R,0,none⟩)),(14,.slice (some ⟨gn,0,none⟩) nn cn),(15,.pointer (some ⟨R,0,none⟩)),(17,.int .i64 (nn:Nat)),(21,.pointer (some ⟨R,0,none⟩)),(23,.slice (some ⟨W.heap.size,0,none⟩) 4 4)] (by kernel_rfl) fun u=>N11 u _ _ (row_four W more) (by have:=hB.size;omega) (hD.on ((Below.refl _ _).alloc (Nat.le_refl _) _)) (hB.trans (But.alloc R W _)))
 refine T_z hq [0,2,3,4,5,9,10] (by kernel_rfl) ?_
 exact T_fr 15 26 [1,6,7,8,11,12,13,14] [(0,.pointer (some ⟨R,0,none⟩)),(2,.string more),(6,.pointer (some ⟨B6,0,none⟩)),(7,.slice (some ⟨gn,0,none⟩) nn cn),(12,.pointer (some ⟨R,0,none⟩)),(14,.slice (some ⟨gn,0,none⟩) nn cn),(15,.pointer (some ⟨R,0,none⟩)),(17,.int .i64 (nn:Nat)),(21,.pointer (some ⟨R,0,none⟩)),(22,.string more)] (by kernel_rfl) fun u=>N u V hD0 (But.refl _ _)
def WdEnd (R:Nat) (w w':World) (v:Value) (b:List UInt8) (p:Nat) (e:Ending):Prop :=
 ∃ x:Wr,e=.returned (.agg #[.int .i64 x.k,.string x.x,.string x.y])∧x.x.size≤1000∧x.y.size≤1000000∧Hid (DR R w' v b (p+1+1+1))∧Hid (But R w w')
theorem own_at8 {W:World} {base:Nat} {v:Value} {n:Nat} {ns:List ByteArray} (h:W.ownsRow base 9 1 v n (ns.map Value.string)) (hn:n=ns.length) (h0:0 < n) (hs:∀ x,x∈ns→x.size≤1000):∃ g cap,v=.slice (some ⟨g,0,none⟩) n cap∧base≤g∧g < W.heap.size∧∀ i,i < n→∃ nm:ByteArray,W.cell? ⟨g,0+i,none⟩=some (.string nm)∧nm.size≤1000:=by
 subst hn
 obtain ⟨F,h1,h2,h3,-⟩:=strsOwn_of_row h (fun x hx=>Nat.le_trans (hs x hx) (by decide))
 obtain ⟨a,cap,e,hl,hc⟩:=h1.at
 obtain ⟨g0,o0,ea,hg0,-,-⟩:=hc 0 h0
 rcases h.2 with ⟨hv,h00⟩ | ⟨g,c,u,hv,hge,hh,-⟩
 · omega
 · rw [e] at hv
   refine ⟨g,c,by rw [e];exact hv,hge,?_,fun i hi=>?_⟩
   · exact (own_ge h (by rw [e,hv];rfl)).2
   · obtain ⟨g1,o1,ea1,-,hcell,-⟩:=hc i hi
     have hva:a=some ⟨g,0,none⟩:=by injection hv
     rw [hva] at ea1
     cases ea1
     exact ⟨ns[i],hcell,hs _ (List.getElem_mem hi)⟩
theorem l45Write_any (R:Nat) (w:World) (v:Value) (b:List UInt8) (p:Nat) (d:Dk) (c:C3) (more:ByteArray) (P:Nat→Prop) (h:DR R w v b p) (hp:p≤100000) (hP:∀ b,P b→b < w.heap.size) (hd:DkAt P w d c) (hmo:more.size≤1000000) :
 Calls Try.prog 22 #[.pointer (some ⟨R,0,none⟩),.agg #[c.c0,c.c1,c.c2],.string more] w fun e w'=>WdEnd R w w' v b p e:=by
 have HPK:=xH (fun (W:World) (q n:Nat) (hD:DR R W v b q) (hn:1≤n∧n≤1000000) (hq:q≤100000000)=>pick_any R W v b q n hD hn (by omega))
 have hR:=h.cells.lt
 have HNM:=xH (fun W (hW:Below w.heap.size w W)=>specDiskNames_any d P c W (fun b hb=>Nat.lt_of_lt_of_le (hP b hb) hW.size) (hd.carry (fun b hb=>hW.block b (hP b hb)) (fun _ h=>h)))
 obtain ⟨c0,c1,c2⟩:=c
 obtain ⟨a0,p0,g0,-,-⟩:=hd.fs.open
 obtain ⟨a1,p1,g1,-,-⟩:=id hd.ns
 obtain ⟨a2,p2,g2,-,-⟩:=hd.ms.open
 simp only at g0 g1 g2
 subst g0 g1 g2
 have HB0:Hid (Below w.heap.size w ((w.alloc (.cells #[.slice a0 d.files.length p0,.slice a1 d.names.length p1,.slice a2 d.moves.length p2] 27)).alloc (.cells #[.int .i64 0,.string ⟨#[]⟩,.string ⟨#[]⟩] 29))):=xH (((Below.refl _ _).alloc (Nat.le_refl _) _).alloc (by simp) _)
 have HR1:=xH ((row3_alloc w (.slice a0 d.files.length p0) (.slice a1 d.names.length p1) (.slice a2 d.moves.length p2) 27).alloc (.cells #[.int .i64 0,.string ⟨#[]⟩,.string ⟨#[]⟩] 29))
 have HR2:Hid (((w.alloc (.cells #[.slice a0 d.files.length p0,.slice a1 d.names.length p1,.slice a2 d.moves.length p2] 27)).alloc (.cells #[.int .i64 0,.string ⟨#[]⟩,.string ⟨#[]⟩] 29)).rowIs (w.heap.size+1) 29 3 (row3 (.int .i64 0) (.string ⟨#[]⟩) (.string ⟨#[]⟩))):=xH (by
  have:=row3_alloc (w.alloc (.cells #[.slice a0 d.files.length p0,.slice a1 d.names.length p1,.slice a2 d.moves.length p2] 27)) (.int .i64 0) (.string ⟨#[]⟩) (.string ⟨#[]⟩) 29
  rw [World.size_alloc] at this
  exact this)
 have HD:=xH h
 clear hP hd h
 go_enter Try.func22,Try.ntmps22
 go_upto_region 1 with fail
 generalize ((w.alloc (.cells #[.slice a0 d.files.length p0,.slice a1 d.names.length p1,.slice a2 d.moves.length p2] 27)).alloc (.cells #[.int .i64 0,.string ⟨#[]⟩,.string ⟨#[]⟩] 29))=W0 at HB0 HR1 HR2 ⊢
 obtain ⟨k0,k1,k2⟩:=cs3 HR1.out (by omega)
 simp only [row3] at k0 k1 k2
 go_wp2_with fail
 refine (HNM.out W0 HB0.out).mono ?_
 rintro e w1 ⟨nv,rfl,hnm⟩
 have hnl:=namesD_len8 d
 obtain ⟨na,nc,ena,-,-⟩:=hnm.strs
 subst ena
 have HB1:=xH (HB0.out.trans (hnm.below.mono HB0.out.size))
 have hs2:=HR2.out.lt
 have hs1:=hnm.below.size
 have HR3:=xH ((HR2.out.of_block (hnm.below.block _ HR2.out.lt)).alloc (.cells #[.string ⟨#[115,49]⟩,.string ⟨#[109,57]⟩,.string ⟨#[120]⟩,.string ⟨#[116,111,111,108,111,110,103,97,97]⟩,.string ⟨#[115,48,49]⟩] 9))
 have HOW:=xH (hnm.own.alloc (.cells #[.string ⟨#[115,49]⟩,.string ⟨#[109,57]⟩,.string ⟨#[120]⟩,.string ⟨#[116,111,111,108,111,110,103,97,97]⟩,.string ⟨#[115,48,49]⟩] 9))
 have HLI:=xH (lies_alloc w1 [.string ⟨#[115,49]⟩,.string ⟨#[109,57]⟩,.string ⟨#[120]⟩,.string ⟨#[116,111,111,108,111,110,103,97,97]⟩,.string ⟨#[115,48,49]⟩] 9)
 have HB2:=xH (HB1.out.alloc HB1.out.size (.cells #[.string ⟨#[115,49]⟩,.string ⟨#[109,57]⟩,.string ⟨#[120]⟩,.string ⟨#[116,111,111,108,111,110,103,97,97]⟩,.string ⟨#[115,48,49]⟩] 9))
 have hal:w1.heap.size≤(w1.alloc (.cells #[.string ⟨#[115,49]⟩,.string ⟨#[109,57]⟩,.string ⟨#[120]⟩,.string ⟨#[116,111,111,108,111,110,103,97,97]⟩,.string ⟨#[115,48,49]⟩] 9)).heap.size:=by simp
 obtain ⟨ii,f2,f3,f4,f5⟩:=infoStrD
 clear HNM HR1 HR2 HB1 HB0 k0 k1 k2
 generalize hnn:(namesD d).length=nn at HOW hnl hnm ⊢
 go_upto_region 2 with (at_builtin;refine append_list9 _ rfl _ _ 24 rfl W0.heap.size 9 ii (.string ByteArray.empty) 1 16 Try.underlying24 f2 f3 f4 f5 rfl (by decide) na nn nc _ rfl HOW (some ⟨w1.heap.size,0,none⟩) 5 5 [.string ⟨#[115,49]⟩,.string ⟨#[109,57]⟩,.string ⟨#[120]⟩,.string ⟨#[116,111,111,108,111,110,103,97,97]⟩,.string ⟨#[115,48,49]⟩] rfl rfl (fun _=>⟨_,rfl,HLI.out.2⟩) (fun u hu=>by
  simp only [List.mem_cons,List.not_mem_nil,or_false] at hu
  rcases hu with rfl | rfl | rfl | rfl | rfl <;> rfl) (by unfold maxLen;omega) (by omega) (by omega) (nn+5) rfl ?_;intro ga gc W7 ho7 hg7 hn7)
 have hge:∀ g,(Value.slice na nn nc).ownBlock=some g→W0.heap.size≤g:=fun g e=>(own_ge HOW.out e).1
 have HB7:=xH (HB2.out.grown hg7.out (by omega) (fun g e=>by have:=hge g e;have:=HB2.out.size;omega))
 have HR7:=xH (HR3.out.of_block (hg7.out.block _ (by omega) (fun e=>by have:=hge _ e.symm;omega)))
 have ho:=ho7.out
 have hxs:(namesD d).map Value.string++[.string ⟨#[115,49]⟩,.string ⟨#[109,57]⟩,.string ⟨#[120]⟩,.string ⟨#[116,111,111,108,111,110,103,97,97]⟩,.string ⟨#[115,48,49]⟩]=(namesD d++([⟨#[115,49]⟩,⟨#[109,57]⟩,⟨#[120]⟩,⟨#[116,111,111,108,111,110,103,97,97]⟩,⟨#[115,48,49]⟩]:List ByteArray)).map Value.string:=by rw [List.map_append];rfl
 rw [hxs] at ho
 obtain ⟨gn,cn,e7,hgn0,hgn1,hns⟩:=own_at8 ho (by rw [List.length_append,hnn];rfl) (by omega) (fun x hx=>by
  rcases List.mem_append.1 hx with h' | h'
  · exact Nat.le_trans (names_small h') (by decide)
  · simp only [List.mem_cons,List.not_mem_nil,or_false] at h'
    rcases h' with rfl | rfl | rfl | rfl | rfl <;> decide)
 have HD7:=xH (HD.out.on HB7.out)
 have hsB:=HB7.out.size
 have hR2l:=HR7.out.lt
 have HNS:=xH hns
 injection e7 with e71 e72 e73
 subst e71 e73
 clear ho7 hg7 hn7 HOW HLI HB2 HR3 hge ho hxs hns e72 hnm
 refine wp_swap (c':=Code.region 2 lr2Ops true) (by kernel_rfl) ?_
 refine wp_region_noPanic ?_
 refine lr2 R (w.heap.size+1) gn (nn+5) gc p v b more W7 _ (fun _ _ _ _ _ h=>h) (HD7.out.on (Below.refl _ _).drew) (by omega) hmo (by omega) hgn1 (by omega) (by omega) (by omega) (by show R < W7.heap.size;omega) (HR7.out.of_block rfl) HNS.out (fun W q n hD hn hq=>HPK.out W q n hD hn hq) (by kernel_rfl) ?_
 intro u w1' k nm y hnm hy hD hB
 refine NoPanic.normal ?_
 simp only [frL_eq,frG,List.lookup,Nat.reduceBEq,Nat.reduceAdd,Option.getD_some,Option.getD_none]
 have hbb:But R w w1':=(But.of_below (HB7.out.trans ((Below.refl _ _).drew.mono hsB))).trans hB
 have hrow:w1'.rowIs (w.heap.size+1) 29 3 (row3 (.int .i64 0) (.string ⟨#[]⟩) (.string ⟨#[]⟩)):=(HR7.out.of_block rfl:W7.drew.rowIs _ _ _ _).of_block (hB.at (by show w.heap.size+1 < W7.heap.size;omega) (by omega))
 obtain ⟨s1,s2,s3,s4⟩:=set3 w1' (w.heap.size+1) (.int .i64 (k:Nat)) (.string nm) (.string y)
 have HG:=xH (And.intro (show WdEnd R w (((w1'.setCell ⟨w.heap.size+1,0,none⟩ (.int .i64 (k:Nat))).setCell ⟨w.heap.size+1,1,none⟩ (.string nm)).setCell ⟨w.heap.size+1,2,none⟩ (.string y)) v b p (.returned (.agg #[.int .i64 (k:Nat),.string nm,.string y])) from ⟨⟨k,nm,y⟩,rfl,hnm,hy,xH (((hD.set (by omega) _ _).set (by omega) _ _).set (by omega) _ _),xH (But.setNew8 (But.setNew8 (But.setNew8 hbb (by omega) _) (by omega) _) (by omega) _)⟩) (show (((w1'.setCell ⟨w.heap.size+1,0,none⟩ (.int .i64 (k:Nat))).setCell ⟨w.heap.size+1,1,none⟩ (.string nm)).setCell ⟨w.heap.size+1,2,none⟩ (.string y)).rowIs (w.heap.size+1) 29 3 (row3 (.int .i64 (k:Nat)) (.string nm) (.string y)) from s3 _ _ hrow))
 obtain ⟨W9,hW9⟩:∃ W9,(((w1'.setCell ⟨w.heap.size+1,0,none⟩ (.int .i64 (k:Nat))).setCell ⟨w.heap.size+1,1,none⟩ (.string nm)).setCell ⟨w.heap.size+1,2,none⟩ (.string y))=W9:=⟨_,rfl⟩
 rw [hW9] at HG ⊢
 obtain ⟨y0,y1,y2⟩:=cs3 HG.out.2 (by omega)
 simp only [row3] at y0 y1 y2
 clear hD hB hbb hrow s1 s2 s3 s4 HD7 HR7 HB7 HNS
 go_wp2_with fail
 refine bodyPost_ret (v:=.agg #[.int .i64 (k:Nat),.string nm,.string y]) (by simp [results,Try.results22,go_sem,y0,y1,y2]) rfl ?_
 exact HG.out.1
end Go.Proofs.Yteikmbkljkkjiaa
