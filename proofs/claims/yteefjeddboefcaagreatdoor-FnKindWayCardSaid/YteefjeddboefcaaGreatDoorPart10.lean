/- A part. -/
import Derived.Test.YteefjeddboefcaaGreatDoorPart09
namespace Go.Proofs.YteefjeddboefcaaGreatDoor
open Go Go.RowKit
set_option maxRecDepth 100000
set_option maxHeartbeats 12800000
theorem len_lsz:∀ ks:List Tr,ks.length≤lsz ks
 | []=>by simp
 | t::r=>by
   have:=len_lsz r
   have h1:1≤tsz t:=by obtain ⟨s,n,x,ns,ks⟩:=t;rw [tsz];omega
   rw [lsz,List.length_cons];omega
theorem tsz_eq (t:Tr):tsz t=1+lsz t.kids:=by obtain ⟨s,n,x,ns,ks⟩:=t;rw [tsz];rfl
theorem kids_src {P:Nat→Prop} {W:World} {aK:Option Addr} {nK capK:Nat} {ks:List Tr} (h:KA P W (.slice aK nK capK) ks) (hn:nK=ks.length) (o:Obj):∃ xs,TL5 P W ks xs∧xs.length=nK * 5∧(∀ u∈xs,u.oneCell'=true)∧(0 < nK→∃ ad,aK=some ad∧∀ j u,xs[j]? = some u→(W.alloc o).cell? (ad.add j)=some u):=by
 obtain ⟨a,cap,e,-,h3⟩:=h
 simp only [Value.slice.injEq] at e
 obtain ⟨rfl,-,-⟩:=e
 by_cases h0:ks=[]
 · subst h0
   exact ⟨[],TL5.nil _ _,by simp [hn],(fun u hu=>by cases hu),(fun h=>by simp at hn;omega)⟩
 · obtain ⟨b,o',rfl,-,hr⟩:=h3 h0
   obtain ⟨xs,h1,h2,h4⟩:=TL5.of ks o' hr
   refine ⟨xs,h1,by rw [h1.1,hn],h4,fun _=>⟨_,rfl,fun j u hj=>?_⟩⟩
   have hc:=h2 j u hj
   rw [Addr.add_lit,World.cell?_of_block (w:=W) (Below.heap_alloc _ _ _ (World.block_lt_of_cell? W _ hc))]
   exact hc
theorem names_src {P:Nat→Prop} {W:World} {aN:Option Addr} {nN capN:Nat} {ns:List ByteArray} (h:StrsAt P W (.slice aN nN capN) ns) (o:Obj):0 < nN→∃ ad,aN=some ad∧∀ j u,(ns.map Value.string)[j]? = some u→(W.alloc o).cell? (ad.add j)=some u:=by
 obtain ⟨a,cap,e,-,h3⟩:=h
 simp only [Value.slice.injEq] at e
 obtain ⟨rfl,e2,-⟩:=e
 intro h0
 obtain ⟨b,o',rfl,-,-,-⟩:=h3 0 (by omega)
 refine ⟨_,rfl,fun j u hj=>?_⟩
 rw [List.getElem?_map] at hj
 obtain ⟨x,hx,rfl⟩:=Option.map_eq_some_iff.1 hj
 obtain ⟨hlt,rfl⟩:=List.getElem?_eq_some_iff.1 hx
 obtain ⟨b',o'',e3,-,hcell,-⟩:=h3 j hlt
 simp only [Option.some.injEq,Addr.mk.injEq,and_true] at e3
 obtain ⟨rfl,rfl⟩:=e3
 rw [Addr.add_lit,World.cell?_of_block (w:=W) (Below.heap_alloc _ _ _ (World.block_lt_of_cell? W _ hcell))]
 exact hcell
theorem ST.setg {R:Nat} {w W:World} {c:C5} {v:Value} {b:List UInt8} {p g:Nat} (h:ST R w c v b p W) (hg:w.heap.size+2≤g) (o:Nat) (u:Value):ST R w c v b p (W.setCell ⟨g,o,none⟩ u):=by
 have hR:=h.hR
 exact ⟨h.dr.set (by omega) _ _,but_setx h.but (by omega) _ _,h.bT.setOther (by simp;omega) _,h.bX.setOther (by simp;omega) _,hR⟩
theorem RtEnd.alloc {P:Nat→Prop} {N R:Nat} {w W:World} {v:Value} {b:List UInt8} {p:Nat} {e:Ending} (h:RtEnd P N R w W v b p e) (hP:∀ x,P x→x < w.heap.size) (o:Obj):RtEnd P N R w (W.alloc o) v b p e:=by
 obtain ⟨t,c,p',h1,h2,h3,h4,h5⟩:=h
 have hs:=h5.size
 refine ⟨t,c,p',h1,Rep.carry (fun x hx=>Below.heap_alloc _ _ _ ?_) (fun x hx=>?_) _ _ h2,h3.on ((Below.refl _ _).alloc (Nat.le_refl _) _),h4,h5.trans (But.alloc R _ _)⟩
 · rcases hx with h | h
   · have:=hP x h;omega
   · exact h.2
 · rcases hx with h | h
   · exact Or.inl h
   · exact Or.inr ⟨h.1,by rw [World.size_alloc];omega⟩
theorem strs_rowT {P:Nat→Prop} {W:World} {base g n cap:Nat} {ns:List ByteArray} (hO:W.ownsRow base 9 1 (.slice (some ⟨g,0,none⟩) n cap) ns.length (ns.map Value.string)) (hns:∀ x,x∈ns→x.size≤9223372036854775807):StrsAt (fun x=>P x∨(base≤x∧x < W.heap.size)) W (.slice (some ⟨g,0,none⟩) n cap) ns:=by
 obtain ⟨F,hst,-,hF,-⟩:=strsOwn_of_row hO hns
 exact hst.at.carry (fun _ _=>rfl) (fun x hx=>Or.inr (hF x hx))
def SqSaid (n:Nat):Prop:=∀ (t:Tr),tsz t < n→∀ (P:Nat→Prop) (R:Nat) (w:World) (v:Value) (b:List UInt8) (p:Nat) (c:C5),DR R w v b p→(∀ x,P x→R < x∧x < w.heap.size)→Rep P w t c→p+3 * tsz t≤1000000→tsz t≤1000000→nmT t →
 Calls Tryz.prog 20 #[.pointer (some ⟨R,0,none⟩),.agg #[c.c0,c.c1,c.c2,c.c3,c.c4]] w fun e w'=>RtEnd P (3 * tsz t+100) R w w' v b p e
theorem l5SpoilT_step (n:Nat) (IH:SqSaid n):SqSaid (n+1):=by
 intro t ht P R w v b p c h hP hrep hp htz hnm
 have hrep0:=hrep
 obtain ⟨c0,c1,c2,c3,c4⟩:=c
 obtain ⟨e0,e1,e2,hi0,hi1,hx2,hns,aK,capK,e4,hkl,hks⟩:=hrep.open
 simp only at e0 e1 e2 e4 hns
 obtain ⟨aN,capN,e3,hnl,hnc⟩:=hns
 subst e0 e1 e2 e3 e4
 have hlz:=len_lsz t.kids
 have hte:=tsz_eq t
 rw [nmT_eq] at hnm
 have hnm1:=hnm.1
 have hns8:∀ x,x∈t.names→x.size≤9223372036854775807:=fun x hx=>by
  obtain ⟨i,hi,rfl⟩:=List.getElem_of_mem hx
  obtain ⟨_,_,_,_,_,hh⟩:=hnc i hi
  exact hh
 have hcar:∀ W,But R w W→StrsAt P W (.slice aN t.names.length capN) t.names∧KA P W (.slice aK t.kids.length capK) t.kids:=fun W hW=>rep_un (Rep.carry (w':=W) (fun x hx=>hW.at (hP x hx).2 (by have:=(hP x hx).1;omega)) (fun _ h=>h) _ _ hrep0)
 have hkid:∀ i,(hi:i < t.kids.length)→tsz t.kids[i] < tsz t∧nmT t.kids[i]:=fun i hi=>⟨tsz_kid (List.getElem_mem hi),nmK_get hnm.2 i hi⟩
 obtain ⟨nK,hnK⟩:∃ nK,nK=t.kids.length:=⟨_,rfl⟩
 obtain ⟨nN,hnN⟩:∃ nN,nN=t.names.length:=⟨_,rfl⟩
 rw [← hnK] at hcar hlz ⊢
 rw [← hnN] at hcar hnm1 ⊢
 have hnk1:nK≤1000000:=by omega
 have hsp:=ST.start (c0:=.int .i64 t.sort) (c1:=.int .i64 t.num) (c2:=.string t.text) (c3:=.slice aN nN capN) (c4:=.slice aK nK capK) h
 have hR:=h.cells.lt
 have HSP:=xH hsp;have HNK:=xH hnK;have HNN:=xH hnN;have HP:=xH hP;have HI:=xH IH;have HCAR:=xH hcar;have HNS8:=xH hns8;have HKID:=xH hkid
 obtain ⟨i0,hi,hz0,hz1,hz2⟩:=info_parts infoTreeD
 obtain ⟨j0,hj,hy0,hy1,hy2⟩:=info_parts infoStr1
 have HII:=xH hi;have HZ0:=xH hz0;have HZ1:=xH hz1;have HZ2:=xH hz2
 have HJJ:=xH hj;have HY0:=xH hy0;have HY1:=xH hy1;have HY2:=xH hy2
 have hkx:w.heap.size≠w.heap.size+1:=by omega
 have hkx2:w.heap.size+1≠w.heap.size:=by omega
 clear hsp hrep hrep0 IH h hP hnc hks hcar hnK hnN hkl hnl hi hz0 hz1 hz2 hj hy0 hy1 hy2 hns8 hkid hnm hlz hte
 generalize tsz t=Z at *
 go_enter Tryz.func20,Tryz.ntmps20
 go_upto_region 1 with fail
 go_cut [16] from 8 (fun s wx=>∃ (bv:Bool) (q:Nat),s=.bool bv∧(bv=true→0 < nK)∧q≤p+1∧Hid (ST R w ⟨.int .i64 t.sort,.int .i64 t.num,.string t.text,.slice aN nN capN,.slice aK nK capK⟩ v b q wx))
 case first =>
  have k4:=(xU HSP).bT.cell (i:=4) (by omega)
  simp only [row5] at k4
  by_cases hk0:nK=0
  · have hq:decide ((0:Int) < (nK:Int))=false:=by simp;omega
    have hqn:decide (0 < nK)=false:=by simp;omega
    clear hk0
    go_wp2_with fail
    go_meet
    case rel=>exact ⟨false,p,rfl,(fun h=>by cases h),by omega,HSP⟩
  · have hq:decide ((0:Int) < (nK:Int))=true:=by simp;omega
    have HPK:=xH (pick_any R _ v b p 3 (xU HSP).dr (by omega) (by omega))
    go_wp2_with fail
    refine (xU HPK).mono ?_
    rintro e w2 ⟨r3,rfl,hr3,HD2,HB2⟩
    have HS2:=xH ((xU HSP).next HD2.out HB2.out)
    clear HPK HD2 HB2 k4
    by_cases h0:r3=0
    · have hq3:decide ((0:Int) < (r3:Int))=false:=by simp;omega
      go_wp2_with fail
      go_meet
      case rel=>exact ⟨false,p+1,by first | rfl | (simp;done) | (simp;omega),(fun h=>by cases h),by omega,HS2⟩
    · have hq3:decide ((0:Int) < (r3:Int))=true:=by simp;omega
      go_wp2_with fail
      go_meet
      case rel=>exact ⟨true,p+1,by first | rfl | (simp;done) | (simp;omega),(fun _=>by omega),by omega,HS2⟩
 case rest =>
  clear HSP
  obtain ⟨bv,q,rfl,hbv,hq,HS⟩:=hcut
  cases bv with
  | true =>
    have hn0:=hbv rfl
    clear hbv
    have k4:=HS.out.bT.cell (i:=4) (by omega)
    simp only [row5] at k4
    have k4a:∀ ob,(wc.alloc ob).cell? ⟨w.heap.size,4,none⟩=some (.slice aK nK capK):=fun ob=>(HS.out.bT.alloc ob).cell (i:=4) (by omega)
    have hszk:=HS.out.size
    have HEMK:=xH (empty_row (base:=w.heap.size+2) (size:=5) (World.rowIs_alloc wc #[] 29 (fun _=>.bool false) (fun i hi=>by simp at hi)) hszk)
    obtain ⟨xs,hl3,hxl,h1x,hsrc⟩:=kids_src (xU HCAR wc HS.out.but).2 (xU HNK) (.cells #[] 29)
    have HL3:=xH hl3;have HXL:=xH hxl;have H1X:=xH h1x;have HSRC:=xH hsrc
    clear hl3 hxl h1x hsrc
    go_wp2_with (at_builtin; refine append_copy _ rfl _ _ 27 rfl (w.heap.size + 2) 29 i0 _ 5 80 Tryz.underlying27 (unhide HII) (unhide HZ0) (unhide HZ1) (unhide HZ2) rfl (by decide) wc.heap.size rfl (unhide HEMK) aK nK capK xs rfl (unhide HXL) (unhide HSRC) (unhide H1X) (by unfold maxLen; omega) (by omega) (by rw [World.size_alloc]; omega) ?_
                 intro g cap w3 HO3 HG3
                 have hs3:=(HS.out.on ((Below.refl _ _).alloc (Nat.le_refl _) (.cells #[] 29))).touch HG3.out (fun b e=>by simp only [Option.some.injEq] at e;omega)
                 have HS3:=xH hs3
                 have HL33:=xH ((xU HL3).carry (w':=w3) (Q:=P) (fun x hx=>by
                  have hp:=xU HP x hx
                  exact (hs3.but.at hp.2 (by omega)).trans (HS.out.but.at hp.2 (by omega)).symm) (fun _ h=>h))
                 have HPK:=xH (pick_any R w3 v b q nK hs3.dr (by omega) (by omega))
                 clear hs3 HG3)
    clear HEMK HSRC HXL H1X HL3 HS k4 k4a
    refine (xU HPK).mono ?_
    rintro e w4 ⟨i,rfl,hi4,HD4,HB4⟩
    have hsz3:=(xU HS3).size
    have hg3:=HO3.out.lt g rfl
    have HS4:=xH ((xU HS3).next HD4.out HB4.out)
    have hsz4:w3.heap.size≤w4.heap.size:=HB4.out.size
    have HO4:=xH (HO3.out.kept HB4.out (Or.inr (fun e=>by simp [Value.ownBlock] at e;omega)))
    have HL4:=xH ((xU HL33).carry (w':=w4) (Q:=P) (fun x hx=>HB4.out.at (by have:=xU HP x hx;omega) (by have:=xU HP x hx;omega)) (fun _ h=>h))
    clear HPK HD4 HB4 HO3 HL33 HS3
    have hik:i < t.kids.length:=by rw [← xU HNK];exact hi4
    obtain ⟨⟨y0,y1,y2,y3,y4⟩,x0,x1,x2,x3,x4,hkr⟩:=(xU HL4).2 i hik
    have hkid:=xU HKID i hik
    have HC:=xH (xU HI t.kids[i] (by omega) P R w4 v b (q+1) ⟨y0,y1,y2,y3,y4⟩ (xU HS4).dr (fun x hx=>⟨(xU HP x hx).1,by have:=(xU HP x hx).2;omega⟩) hkr (by omega) (by omega) hkid.2)
    obtain ⟨z0,z1,z2,-,-,-,⟨a5,cap5,z3,-⟩,a6,cap6,z4,-⟩:=hkr.open
    simp only at z0 z1 z2 z3 z4
    subst z0 z1 z2 z3 z4
    have f0:=(xU HO4).cells (g:=g) rfl _ _ x0
    have f1:=(xU HO4).cells (g:=g) rfl _ _ x1
    have f2:=(xU HO4).cells (g:=g) rfl _ _ x2
    have f3:=(xU HO4).cells (g:=g) rfl _ _ x3
    have f4:=(xU HO4).cells (g:=g) rfl _ _ x4
    simp only [Addr.add_lit,Nat.zero_add] at f0 f1 f2 f3 f4
    have hix:(i:Int) < (nK:Int):=by omega
    have HKI:=xH hik
    have hzk:=hkid.1
    generalize t.kids[i]=kk at *
    clear hkr x0 x1 x2 x3 x4 hik hkid
    go_wp2_with fail
    refine (xU HC).mono ?_
    rintro e w5 ⟨k',⟨t0,t1,t2,t3,t4⟩,p',rfl,hr5,hd5,hp5,hb5⟩
    have hs5:=(xU HS4).next hd5 hb5
    have ho5:=(xU HO4).kept hb5 (Or.inr (fun e=>by simp [Value.ownBlock] at e;omega))
    have hz5:=hb5.size
    have hl5:TL5 (fun x=>P x∨(w4.heap.size≤x∧x < w5.heap.size)) w5 t.kids xs:=(xU HL4).carry (fun x hx=>hb5.at (by have:=xU HP x hx;omega) (by have:=xU HP x hx;omega)) (fun _ h=>Or.inl h)
    have hput:=hl5.put (xU HKI) hr5
    obtain ⟨g0,g1',g2',-,-,-,⟨a7,cap7,g3',-⟩,a8,cap8,g4',-⟩:=hr5.open
    simp only at g0 g1' g2' g3' g4' hput
    subst g0 g1' g2' g3' g4'
    have hxb:xs.length=t.kids.length * 5:=hl5.1
    have hki:=xU HKI
    obtain ⟨uf0,huf0⟩:∃ u,xs[i * 5]? = some u:=⟨_,List.getElem?_eq_getElem (by omega)⟩
    obtain ⟨uf1,huf1⟩:∃ u,xs[i * 5+1]? = some u:=⟨_,List.getElem?_eq_getElem (by omega)⟩
    obtain ⟨uf2,huf2⟩:∃ u,xs[i * 5+2]? = some u:=⟨_,List.getElem?_eq_getElem (by omega)⟩
    obtain ⟨uf3,huf3⟩:∃ u,xs[i * 5+3]? = some u:=⟨_,List.getElem?_eq_getElem (by omega)⟩
    obtain ⟨uf4,huf4⟩:∃ u,xs[i * 5+4]? = some u:=⟨_,List.getElem?_eq_getElem (by omega)⟩
    have f0:=ho5.cells (g:=g) rfl _ _ huf0
    have f1:=ho5.cells (g:=g) rfl _ _ huf1
    have f2:=ho5.cells (g:=g) rfl _ _ huf2
    have f3:=ho5.cells (g:=g) rfl _ _ huf3
    have f4:=ho5.cells (g:=g) rfl _ _ huf4
    simp only [Addr.add_lit,Nat.zero_add] at f0 f1 f2 f3 f4
    have fz:=ownsRow_free ho5
    obtain ⟨m0,m1,m2,m3,m4⟩:=cs5 hs5.bT (by omega);have mf:=hs5.bT.frozen
    obtain ⟨n0,n1,n2,n3,n4⟩:=cs5 hs5.bX (by omega);have nf:=hs5.bX.frozen
    simp only [row5] at m0 m1 m2 m3 m4 n0 n1 n2 n3 n4
    have hgK:g≠w.heap.size:=by omega
    have hgK2:w.heap.size≠g:=by omega
    have hgX:g≠w.heap.size+1:=by omega
    have hgX2:w.heap.size+1≠g:=by omega
    have hrow:=ownsRow_put (ownsRow_put (ownsRow_put (ownsRow_put (ownsRow_put ho5 (i * 5) (.int .i64 k'.sort)) (i * 5+1) (.int .i64 k'.num)) (i * 5+2) (.string k'.text)) (i * 5+3) (.slice a7 k'.names.length cap7)) (i * 5+4) (.slice a8 k'.kids.length cap8)
    have hsg:=((((hs5.setg (g:=g) (by omega) (i * 5) (.int .i64 k'.sort)).setg (g:=g) (by omega) (i * 5+1) (.int .i64 k'.num)).setg (g:=g) (by omega) (i * 5+2) (.string k'.text)).setg (g:=g) (by omega) (i * 5+3) (.slice a7 k'.names.length cap7)).setg (g:=g) (by omega) (i * 5+4) (.slice a8 k'.kids.length cap8)
    have hS':=hsg.set4 (.slice (some ⟨g,0,none⟩) nK cap)
    have hc':=xU HCAR _ hS'.but
    have hka0:=KA.of_row hrow (hput.carry (fun x hx=>by
     have hne:x≠g:=by
      rcases hx with h | h
      · have:=xU HP x h;omega
      · omega
     repeat rw [Below.heap_setCell _ _ _ _ (by simpa using hne)]) (fun _ h=>h)) (by rw [List.length_set];exact xU HNK) (by omega)
    have hka:=hka0.carry (w':=(((((w5.setCell ⟨g,i * 5,none⟩ (.int .i64 k'.sort)).setCell ⟨g,i * 5+1,none⟩ (.int .i64 k'.num)).setCell ⟨g,i * 5+2,none⟩ (.string k'.text)).setCell ⟨g,i * 5+3,none⟩ (.slice a7 k'.names.length cap7)).setCell ⟨g,i * 5+4,none⟩ (.slice a8 k'.kids.length cap8)).setCell ⟨w.heap.size,4,none⟩ (.slice (some ⟨g,0,none⟩) nK cap)) (Q:=fun x=>P x∨(w.heap.size+2≤x∧x < ((((((w5.setCell ⟨g,i * 5,none⟩ (.int .i64 k'.sort)).setCell ⟨g,i * 5+1,none⟩ (.int .i64 k'.num)).setCell ⟨g,i * 5+2,none⟩ (.string k'.text)).setCell ⟨g,i * 5+3,none⟩ (.slice a7 k'.names.length cap7)).setCell ⟨g,i * 5+4,none⟩ (.slice a8 k'.kids.length cap8)).setCell ⟨w.heap.size,4,none⟩ (.slice (some ⟨g,0,none⟩) nK cap)).heap.size)) (fun x hx=>Below.heap_setCell _ _ _ _ (by
     rcases hx with (h | h) | h
     · have:=xU HP x h;simp;omega
     · simp;omega
     · simp;omega)) (fun x hx=>by
     simp only [size_setCell] at hx ⊢
     rcases hx with (h | h) | h
     · exact Or.inl h
     · exact Or.inr ⟨by omega,h.2⟩
     · exact Or.inr h)
    have HEND:=xH (fun d0 d1 d2 d3 d4=>rt_end (N:=3 * Z+100) (p:=p) (xU HP) hS' (by omega) (rep_of hi0 hi1 hx2 (hc'.1.carry (fun _ _=>rfl) (fun _ h=>Or.inl h)) hka) d0 d1 d2 d3 d4)
    clear hS' hc' hka hka0 hrow hsg hput hl5 hs5 ho5 hd5 hb5 hr5 HC HS4 HO4 HL4 huf0 huf1 huf2 huf3 huf4
    go_wp2_with fail
    refine bodyPost_ret (v:=.agg #[.int .i64 t.sort,.int .i64 t.num,.string t.text,.slice aN nN capN,.slice (some ⟨g,0,none⟩) nK cap]) (by simp [results,Tryz.results20,go_sem,n0,n1,n2,n3,n4]) rfl ?_
    exact xU HEND _ _ _ _ _
  | false =>
    clear hbv
    have HPK:=xH (pick_any R wc v b q 8 HS.out.dr (by omega) (by omega))
    go_wp2_with fail
    refine (xU HPK).mono ?_
    rintro e w2 ⟨r,rfl,hr,HD2,HB2⟩
    have HS2:=xH (HS.out.next HD2.out HB2.out)
    clear HPK HD2 HB2 HS
    have hsz2:=(xU HS2).size
    rcases (show r=0∨r=1∨r=2∨r=3∨r=4∨r=5∨r=6∨r=7 by omega) with rfl | rfl | rfl | rfl | rfl | rfl | rfl | rfl
    · have HPK:=xH (pick_any R w2 v b (q+1) 8 (xU HS2).dr (by omega) (by omega))
      go_wp2_with fail
      refine (xU HPK).mono ?_
      rintro e w3 ⟨s8,rfl,hs8,HD3,HB3⟩
      have hs3:=(xU HS2).next HD3.out HB3.out
      obtain ⟨m0,m1,m2,m3,m4⟩:=cs5 hs3.bT (by omega);have mf:=hs3.bT.frozen
      obtain ⟨n0,n1,n2,n3,n4⟩:=cs5 hs3.bX (by omega);have nf:=hs3.bX.frozen
      simp only [row5] at m0 m1 m2 m3 m4 n0 n1 n2 n3 n4
      have hS':=hs3.set0 (.int .i64 (s8:Int))
      have hc':=xU HCAR _ hS'.but
      have HEND:=xH (fun d0 d1 d2 d3 d4=>rt_end (N:=3 * Z+100) (p:=p) (xU HP) hS' (by omega) (rep_of ⟨by omega,by omega⟩ hi1 hx2 (hc'.1.carry (fun _ _=>rfl) (fun _ h=>Or.inl h)) (hc'.2.carry (fun _ _=>rfl) (fun _ h=>Or.inl h))) d0 d1 d2 d3 d4)
      clear hs3 hS' hc' HD3 HB3 HPK HS2
      go_wp2_with fail
      refine bodyPost_ret (v:=.agg #[.int .i64 (s8:Int),.int .i64 t.num,.string t.text,.slice aN nN capN,.slice aK nK capK]) (by simp [results,Tryz.results20,go_sem,n0,n1,n2,n3,n4]) rfl ?_
      exact xU HEND _ _ _ _ _
    · have hd2:=(xU HS2).dr.on ((Below.refl _ w2).alloc (Nat.le_refl _) (.cells #[.int .i64 1,.int .i64 2,.int .i64 (-1),.int .i64 1000000000,.int .i64 (-1000000000)] 3))
      have HPK:=xH (pick_any R _ v b (q+1) 5 hd2 (by omega) (by omega))
      clear hd2
      go_wp2_with fail
      refine (xU HPK).mono ?_
      rintro e w3 ⟨r5,rfl,hr5,HD3,HB3⟩
      have hs3:=((xU HS2).on ((Below.refl _ w2).alloc (Nat.le_refl _) (.cells #[.int .i64 1,.int .i64 2,.int .i64 (-1),.int .i64 1000000000,.int .i64 (-1000000000)] 3))).next HD3.out HB3.out
      have hrw:w3.rowIs w2.heap.size 3 5 (fun i=>(#[.int .i64 1,.int .i64 2,.int .i64 (-1),.int .i64 1000000000,.int .i64 (-1000000000)]:Array Value).getD i undef):=World.rowIs.of_block (rowIs_get w2 #[.int .i64 1,.int .i64 2,.int .i64 (-1),.int .i64 1000000000,.int .i64 (-1000000000)] 3) (HB3.out.at (by simp) (by omega))
      obtain ⟨z,hz,e1⟩:∃ z,I64 z∧w3.cell? ⟨w2.heap.size,r5,none⟩=some (.int .i64 z):=by
       have:=hrw.cell (i:=r5) hr5
       rcases (show r5=0∨r5=1∨r5=2∨r5=3∨r5=4 by omega) with rfl | rfl | rfl | rfl | rfl
       all_goals exact ⟨_,⟨by decide,by decide⟩,this⟩
      have hix:(r5:Int) < 5:=by omega
      obtain ⟨m0,m1,m2,m3,m4⟩:=cs5 hs3.bT (by omega);have mf:=hs3.bT.frozen
      obtain ⟨n0,n1,n2,n3,n4⟩:=cs5 hs3.bX (by omega);have nf:=hs3.bX.frozen
      simp only [row5] at m0 m1 m2 m3 m4 n0 n1 n2 n3 n4
      have hS':=hs3.set1 (.int .i64 z)
      have hc':=xU HCAR _ hS'.but
      have HEND:=xH (fun d0 d1 d2 d3 d4=>rt_end (N:=3 * Z+100) (p:=p) (xU HP) hS' (by omega) (rep_of hi0 hz hx2 (hc'.1.carry (fun _ _=>rfl) (fun _ h=>Or.inl h)) (hc'.2.carry (fun _ _=>rfl) (fun _ h=>Or.inl h))) d0 d1 d2 d3 d4)
      clear hs3 hS' hc' HD3 HB3 HPK HS2 hrw
      go_wp2_with fail
      refine bodyPost_ret (v:=.agg #[.int .i64 t.sort,.int .i64 z,.string t.text,.slice aN nN capN,.slice aK nK capK]) (by simp [results,Tryz.results20,go_sem,n0,n1,n2,n3,n4]) rfl ?_
      exact xU HEND _ _ _ _ _
    · have HMY:=xH (l6Many_any w2 ⟨#[120]⟩ 61 (by decide) (by omega))
      go_wp2_with fail
      refine (xU HMY).mono ?_
      rintro e w2' ⟨out,rfl,ho,rfl⟩
      have HOF:=xH (of_row R w2' v b (q+1) (xU HS2).dr (by omega) [⟨#[120]⟩,⟨#[34]⟩,⟨#[10]⟩,out,⟨#[127]⟩] (by simp) (by simp) (fun i hi=>by
       rcases (show i=0∨i=1∨i=2∨i=3∨i=4 by simp at hi;omega) with rfl | rfl | rfl | rfl | rfl
       · exact (show (1:Nat)≤2000 from by decide)
       · exact (show (1:Nat)≤2000 from by decide)
       · exact (show (1:Nat)≤2000 from by decide)
       · exact ho
       · exact (show (1:Nat)≤2000 from by decide)))
      go_wp2_with fail
      refine (xU HOF).mono ?_
      rintro e w3 ⟨x,rfl,hx,HD3,HB3⟩
      have hs3:=(xU HS2).next HD3.out HB3.out
      obtain ⟨m0,m1,m2,m3,m4⟩:=cs5 hs3.bT (by omega);have mf:=hs3.bT.frozen
      obtain ⟨n0,n1,n2,n3,n4⟩:=cs5 hs3.bX (by omega);have nf:=hs3.bX.frozen
      simp only [row5] at m0 m1 m2 m3 m4 n0 n1 n2 n3 n4
      have hS':=hs3.set2 (.string x)
      have hc':=xU HCAR _ hS'.but
      have HEND:=xH (fun d0 d1 d2 d3 d4=>rt_end (N:=3 * Z+100) (p:=p) (xU HP) hS' (by omega) (rep_of hi0 hi1 (by omega) (hc'.1.carry (fun _ _=>rfl) (fun _ h=>Or.inl h)) (hc'.2.carry (fun _ _=>rfl) (fun _ h=>Or.inl h))) d0 d1 d2 d3 d4)
      clear hs3 hS' hc' HD3 HB3 HOF HMY HS2
      go_wp2_with fail
      refine bodyPost_ret (v:=.agg #[.int .i64 t.sort,.int .i64 t.num,.string x,.slice aN nN capN,.slice aK nK capK]) (by simp [results,Tryz.results20,go_sem,n0,n1,n2,n3,n4]) rfl ?_
      exact xU HEND _ _ _ _ _
    · skip
      have m3:=(xU HS2).bT.cell (i:=3) (by omega)
      simp only [row5] at m3
      have m3a:∀ ob,(w2.alloc ob).cell? ⟨w.heap.size,3,none⟩=some (.slice aN nN capN):=fun ob=>((xU HS2).bT.alloc ob).cell (i:=3) (by omega)
      have HEMP:=xH (empty_row (base:=w.heap.size+2) (size:=1) (World.rowIs_alloc w2 #[] 9 (fun _=>.bool false) (fun i hi=>by simp at hi)) hsz2)
      have HSRC:=xH (names_src (xU HCAR w2 (xU HS2).but).1 (.cells #[] 9))
      go_wp2_with (at_builtin; refine append_copy _ rfl _ _ 23 rfl (w.heap.size + 2) 9 j0 (.string ByteArray.empty) 1 16 Tryz.underlying23 (unhide HJJ) (unhide HY0) (unhide HY1) (unhide HY2) rfl (by decide) w2.heap.size rfl (unhide HEMP) aN nN capN (t.names.map Value.string) rfl (by rw [List.length_map, ← unhide HNN, Nat.mul_one]) (unhide HSRC) (fun u hu => by obtain ⟨x, -, rfl⟩ := List.mem_map.1 hu; rfl) (by unfold maxLen; omega) (by omega) (by simp; omega) ?_
                   intro g cap w3 HO HG
                   have HS3:=xH (((xU HS2).on ((Below.refl _ _).alloc (Nat.le_refl _) (.cells #[] 9))).touch HG.out (fun b e=>by simp only [Option.some.injEq] at e;omega))
                   clear HG)
      have hsz3:=(xU HS3).size
      have HOF:=xH (of_row R w3 v b (q+1) (xU HS3).dr (by omega) [⟨#[97]⟩,⟨#[122]⟩,⟨#[65]⟩,⟨#[]⟩,⟨#[116,111,111,108,111,110,103,97,97]⟩] (by simp) (by simp) (fun i hi=>by
       rcases (show i=0∨i=1∨i=2∨i=3∨i=4 by simp at hi;omega) with rfl | rfl | rfl | rfl | rfl <;> decide))
      clear HEMP HSRC m3 m3a
      refine (xU HOF).mono ?_
      rintro e w4 ⟨nm,rfl,hnm,HD4,HB4⟩
      have HS4:=xH ((xU HS3).next HD4.out HB4.out)
      have HO4:=xH (World.ownsRow.kept HO.out HB4.out (Or.inr (fun e=>by have:=(HO.out.lt g rfl).1;simp [Value.ownBlock] at e;omega)))
      have hsz4:=(xU HS4).size
      clear HOF HD4 HB4 HS3 HO
      go_wp2_with (at_builtin; refine append_row _ rfl _ _ 23 rfl (w.heap.size + 2) 9 j0 (.string ByteArray.empty) 1 16 Tryz.underlying23 (unhide HJJ) (unhide HY0) (unhide HY1) (unhide HY2) rfl (by decide) (.slice (some ⟨g, 0, none⟩) nN cap) nN (t.names.map Value.string) rfl (World.ownsRow.alloc (unhide HO4) _) ⟨w4.heap.size, 0, none⟩ 1 1 [.string nm] rfl rfl (cell_one w4 _ _) (fun u hu => by simp at hu; subst hu; rfl) (by decide) (by unfold maxLen; omega) (by omega) (by simp; omega) ?_
                   intro v' w5 hown5 hgrow5 hat5
                   obtain ⟨g5,cap5,rfl,hg51,hg52⟩:=hown5.form (by omega)
                   have HO5:=xH hown5
                   have hs5:=((xU HS4).touch (World.grownBy_alloc w4 (.cells #[.string nm] 9) none) (fun b e=>by cases e)).touch hgrow5 (fun b e=>((xU HO4).lt b e).1)
                   obtain ⟨m0,m1,m2,m3,m4⟩:=cs5 hs5.bT (by omega);have mf:=hs5.bT.frozen
                   obtain ⟨n0,n1,n2,n3,n4⟩:=cs5 hs5.bX (by omega);have nf:=hs5.bX.frozen
                   simp only [row5] at m0 m1 m2 m3 m4 n0 n1 n2 n3 n4
                   have HS5:=xH hs5
                   clear hs5 hown5 hgrow5 hat5)
      have hS':=(xU HS5).set3 (.slice (some ⟨g5,0,none⟩) (nN+1) cap5)
      have hc':=xU HCAR _ hS'.but
      have hnr:StrsAt (fun x=>P x∨(w.heap.size+2≤x∧x < w5.heap.size)) w5 (.slice (some ⟨g5,0,none⟩) (nN+1) cap5) (t.names++[nm]):=strs_rowT (by rw [List.map_append,List.length_append,← xU HNN];exact xU HO5) (fun x hx=>by
       rcases List.mem_append.1 hx with hx | hx
       · exact xU HNS8 x hx
       · simp at hx;rw [hx];omega)
      have HEND:=xH (fun d0 d1 d2 d3 d4=>rt_end (N:=3 * Z+100) (p:=p) (xU HP) hS' (by omega) (rep_of hi0 hi1 hx2 (hnr.carry (fun x hx=>Below.heap_setCell _ _ _ _ (by
       rcases hx with h | h
       · have:=xU HP x h;simp;omega
       · simp;omega)) (fun x hx=>by simp only [size_setCell];exact hx)) (hc'.2.carry (fun _ _=>rfl) (fun _ h=>Or.inl h))) d0 d1 d2 d3 d4)
      clear hS' hc' hnr HS5 HO5 HS4 HO4 HS2
      refine bodyPost_ret (v:=.agg #[.int .i64 t.sort,.int .i64 t.num,.string t.text,.slice (some ⟨g5,0,none⟩) (nN+1) cap5,.slice aK nK capK]) (by simp [results,Tryz.results20,go_sem,n0,n1,n2,n3,n4]) rfl ?_
      exact xU HEND _ _ _ _ _
    · skip
      have m4:=(xU HS2).bT.cell (i:=4) (by omega)
      simp only [row5] at m4
      have m4a:∀ ob,(w2.alloc ob).cell? ⟨w.heap.size,4,none⟩=some (.slice aK nK capK):=fun ob=>((xU HS2).bT.alloc ob).cell (i:=4) (by omega)
      have hszk:=(xU HS2).size
      have HEMK:=xH (empty_row (base:=w2.heap.size) (size:=5) (World.rowIs_alloc w2 #[] 29 (fun _=>.bool false) (fun i hi=>by simp at hi)) (Nat.le_refl _))
      obtain ⟨xs,hl3,hxl,h1x,hsrc⟩:=kids_src (xU HCAR w2 (xU HS2).but).2 (xU HNK) (.cells #[] 29)
      have HL3:=xH hl3;have HXL:=xH hxl;have H1X:=xH h1x;have HSRC:=xH hsrc
      have HBW:=xH (xU HS2).but
      clear hl3 hxl h1x hsrc
      go_wp2_with (first
       | (at_builtin;refine append_copy _ rfl _ _ 27 rfl w2.heap.size 29 i0 _ 5 80 Tryz.underlying27 (xU HII) (xU HZ0) (xU HZ1) (xU HZ2) rfl (by decide) w2.heap.size rfl (xU HEMK) aK nK capK xs rfl (xU HXL) (xU HSRC) (xU H1X) (by unfold maxLen;omega) (by omega) (by rw [World.size_alloc];omega) ?_
          intro gk capk w6 HO6 HG6
          have HS6:=xH (((xU HS2).on ((Below.refl _ _).alloc (Nat.le_refl _) (.cells #[] 29))).touch HG6.out (fun b e=>by simp only [Option.some.injEq] at e;omega))
          have hsz6:=(xU HS6).size
          have hsw6:w2.heap.size+1≤w6.heap.size:=by have:=HG6.out.size;rw [World.size_alloc] at this;exact this
          have HK6:Hid (∀ x,x < w2.heap.size→w6.heap[x]? = w2.heap[x]?):=fun x hx=>(HG6.out.block x (by rw [World.size_alloc];omega) (by simp;omega)).trans (Below.heap_alloc _ _ _ hx)
          clear HG6)
       | (at_builtin;refine append_row _ rfl _ _ 27 rfl w2.heap.size 29 i0 _ 5 80 Tryz.underlying27 (xU HII) (xU HZ0) (xU HZ1) (xU HZ2) rfl (by decide) (.slice (some ⟨gk,0,none⟩) nK capk) nK xs rfl (World.ownsRow.alloc HO6.out _) ⟨w6.heap.size,0,none⟩ 1 1 (c5l ⟨.int .i64 1,.int .i64 0,.string ⟨#[]⟩,.slice none 0 0,.slice none 0 0⟩) rfl rfl (cell_five w6 _ _) (fun u hu=>by
           simp only [c5l,List.mem_cons,List.not_mem_nil,or_false] at hu
           rcases hu with rfl | rfl | rfl | rfl | rfl <;> rfl) (by decide) (by unfold maxLen;omega) (by omega) (by rw [World.size_alloc];omega) ?_
          intro v' w7 hown7 hgrow7 hat7
          obtain ⟨g7,cap7,rfl,hg71,hg72⟩:=hown7.form (by omega)
          have HO7:=xH hown7
          have hs7:=((xU HS6).touch (World.grownBy_alloc w6 (.cells #[.int .i64 1,.int .i64 0,.string ⟨#[]⟩,.slice none 0 0,.slice none 0 0] 29) none) (fun b e=>by cases e)).touch hgrow7 (fun b e=>by have:=(HO6.out.lt b e).1;omega)
          have hsw7:w2.heap.size≤w7.heap.size:=by have:=hgrow7.size;rw [World.size_alloc] at this;omega
          have HK7:Hid (∀ x,x < w2.heap.size→w7.heap[x]? = w2.heap[x]?):=fun x hx=>(hgrow7.block x (by rw [World.size_alloc];omega) (fun e=>by have:=(HO6.out.lt x e.symm).1;omega)).trans ((Below.heap_alloc _ _ _ (by omega)).trans (HK6.out x hx))
          obtain ⟨m0,m1,m2,m3,m4⟩:=cs5 hs7.bT (by omega);have mf:=hs7.bT.frozen
          obtain ⟨n0,n1,n2,n3,n4⟩:=cs5 hs7.bX (by omega);have nf:=hs7.bX.frozen
          simp only [row5] at m0 m1 m2 m3 m4 n0 n1 n2 n3 n4
          have HS7:=xH hs7
          clear hs7 hown7 hgrow7 hat7))
      have hS':=(xU HS7).set4 (.slice (some ⟨g7,0,none⟩) (nK+1) cap7)
      have hc':=xU HCAR _ hS'.but
      have hl7:TL5 P w7 t.kids xs:=(xU HL3).carry (fun x hx=>by
       have hp:=xU HP x hx
       exact ((xU HS7).but.at hp.2 (by omega)).trans ((xU HBW).at hp.2 (by omega)).symm) (fun _ h=>h)
      have hka0:=KA.of_row (xU HO7) (hl7.snoc (rep_leafD 1 0 ⟨#[]⟩ ⟨by decide,by decide⟩ ⟨by decide,by decide⟩ (by decide))) (by rw [List.length_append,← xU HNK];rfl) (by omega)
      have hka:=hka0.carry (Q:=fun x=>P x∨(w.heap.size+2≤x∧x < w7.heap.size)) (fun _ _=>rfl) (fun x hx=>by
       rcases hx with h | h
       · exact Or.inl h
       · exact Or.inr ⟨by omega,h.2⟩)
      have HEND:=xH (fun d0 d1 d2 d3 d4=>rt_end (N:=3 * Z+100) (p:=p) (xU HP) hS' (by omega) (rep_of hi0 hi1 hx2 (hc'.1.carry (fun _ _=>rfl) (fun _ h=>Or.inl h)) (hka.carry (fun x hx=>Below.heap_setCell _ _ _ _ (by
       rcases hx with h | h
       · have:=xU HP x h;simp;omega
       · simp;omega)) (fun x hx=>by simp only [size_setCell];exact hx))) d0 d1 d2 d3 d4)
      clear hS' hc' hl7 hka hka0 HK6 HK7 HS7 HO7 HS6 HO6 HS2
      refine bodyPost_ret (v:=.agg #[.int .i64 t.sort,.int .i64 t.num,.string t.text,.slice aN nN capN,.slice (some ⟨g7,0,none⟩) (nK+1) cap7]) (by simp [results,Tryz.results20,go_sem,n0,n1,n2,n3,n4]) rfl ?_
      exact xU HEND _ _ _ _ _
    · skip
      have m3:=(xU HS2).bT.cell (i:=3) (by omega)
      simp only [row5] at m3
      have m3a:∀ ob,(w2.alloc ob).cell? ⟨w.heap.size,3,none⟩=some (.slice aN nN capN):=fun ob=>((xU HS2).bT.alloc ob).cell (i:=3) (by omega)
      have HEMP:=xH (empty_row (base:=w.heap.size+2) (size:=1) (World.rowIs_alloc w2 #[] 9 (fun _=>.bool false) (fun i hi=>by simp at hi)) hsz2)
      have HSRC:=xH (names_src (xU HCAR w2 (xU HS2).but).1 (.cells #[] 9))
      go_wp2_with (at_builtin; refine append_copy _ rfl _ _ 23 rfl (w.heap.size + 2) 9 j0 (.string ByteArray.empty) 1 16 Tryz.underlying23 (unhide HJJ) (unhide HY0) (unhide HY1) (unhide HY2) rfl (by decide) w2.heap.size rfl (unhide HEMP) aN nN capN (t.names.map Value.string) rfl (by rw [List.length_map, ← unhide HNN, Nat.mul_one]) (unhide HSRC) (fun u hu => by obtain ⟨x, -, rfl⟩ := List.mem_map.1 hu; rfl) (by unfold maxLen; omega) (by omega) (by simp; omega) ?_
                   intro g cap w3 HO HG
                   have HS3:=xH (((xU HS2).on ((Below.refl _ _).alloc (Nat.le_refl _) (.cells #[] 9))).touch HG.out (fun b e=>by simp only [Option.some.injEq] at e;omega))
                   clear HG)
      have hsz3:=(xU HS3).size
      have HOF:=xH (of_row R w3 v b (q+1) (xU HS3).dr (by omega) [⟨#[122]⟩,⟨#[122,122]⟩,⟨#[90]⟩] (by simp) (by simp) (fun i hi=>by
       rcases (show i=0∨i=1∨i=2 by simp at hi;omega) with rfl | rfl | rfl <;> decide))
      clear HEMP HSRC m3 m3a
      refine (xU HOF).mono ?_
      rintro e w4 ⟨nm,rfl,hnm,HD4,HB4⟩
      have HS4:=xH ((xU HS3).next HD4.out HB4.out)
      have HO4:=xH (World.ownsRow.kept HO.out HB4.out (Or.inr (fun e=>by have:=(HO.out.lt g rfl).1;simp [Value.ownBlock] at e;omega)))
      have hsz4:=(xU HS4).size
      clear HOF HD4 HB4 HS3 HO
      go_upto_region 21 with (at_builtin; refine append_row _ rfl _ _ 23 rfl (w.heap.size + 2) 9 j0 (.string ByteArray.empty) 1 16 Tryz.underlying23 (unhide HJJ) (unhide HY0) (unhide HY1) (unhide HY2) rfl (by decide) (.slice (some ⟨g, 0, none⟩) nN cap) nN (t.names.map Value.string) rfl (World.ownsRow.alloc (unhide HO4) _) ⟨w4.heap.size, 0, none⟩ 1 1 [.string nm] rfl rfl (cell_one w4 _ _) (fun u hu => by simp at hu; subst hu; rfl) (by decide) (by unfold maxLen; omega) (by omega) (by simp; omega) ?_
                              intro v' w5 hown5 hgrow5 hat5
                              obtain ⟨g5,cap5,rfl,hg51,hg52⟩:=hown5.form (by omega)
                              have HO5:=xH hown5
                              have hs5:=((xU HS4).touch (World.grownBy_alloc w4 (.cells #[.string nm] 9) none) (fun b e=>by cases e)).touch hgrow5 (fun b e=>((xU HO4).lt b e).1)
                              obtain ⟨m0,m1,m2,m3,m4⟩:=cs5 hs5.bT (by omega);have mf:=hs5.bT.frozen
                              obtain ⟨n0,n1,n2,n3,n4⟩:=cs5 hs5.bX (by omega);have nf:=hs5.bX.frozen
                              simp only [row5] at m0 m1 m2 m3 m4 n0 n1 n2 n3 n4
                              have HS5:=xH hs5
                              clear hs5 hown5 hgrow5 hat5)
      have hS5:=(xU HS5).set3 (.slice (some ⟨g5,0,none⟩) (nN+1) cap5)
      have hnr0:StrsAt (fun x=>P x∨(w.heap.size+2≤x∧x < w5.heap.size)) w5 (.slice (some ⟨g5,0,none⟩) (nN+1) cap5) (t.names++[nm]):=strs_rowT (by rw [List.map_append,List.length_append,← xU HNN];exact xU HO5) (fun x hx=>by
       rcases List.mem_append.1 hx with hx | hx
       · exact xU HNS8 x hx
       · simp at hx;rw [hx];omega)
      have hnr:StrsAt (fun x=>P x∨(w.heap.size+2≤x∧x < (w5.setCell ⟨w.heap.size,3,none⟩ (.slice (some ⟨g5,0,none⟩) (nN+1) cap5)).heap.size)) (w5.setCell ⟨w.heap.size,3,none⟩ (.slice (some ⟨g5,0,none⟩) (nN+1) cap5)) (.slice (some ⟨g5,0,none⟩) (nN+1) cap5) (t.names++[nm]):=hnr0.carry (fun x hx=>Below.heap_setCell _ _ _ _ (by
       rcases hx with h | h
       · have:=xU HP x h;simp;omega
       · simp;omega)) (fun x hx=>by simp only [size_setCell];exact hx)
      have HS5B:=xH hS5;have HNR:=xH hnr
      clear hS5 hnr0 hnr HS5 HO5 HS4 HO4 HS2 m0 m1 m2 m3 m4 mf n0 n1 n2 n3 n4 nf hsz4
      generalize w5.setCell ⟨w.heap.size,3,none⟩ (.slice (some ⟨g5,0,none⟩) (nN+1) cap5)=W5 at *
      have m4:=(xU HS5B).bT.cell (i:=4) (by omega)
      simp only [row5] at m4
      have m4a:∀ ob,(W5.alloc ob).cell? ⟨w.heap.size,4,none⟩=some (.slice aK nK capK):=fun ob=>((xU HS5B).bT.alloc ob).cell (i:=4) (by omega)
      have hszk:=(xU HS5B).size
      have HEMK:=xH (empty_row (base:=W5.heap.size) (size:=5) (World.rowIs_alloc W5 #[] 29 (fun _=>.bool false) (fun i hi=>by simp at hi)) (Nat.le_refl _))
      obtain ⟨xs,hl3,hxl,h1x,hsrc⟩:=kids_src (xU HCAR W5 (xU HS5B).but).2 (xU HNK) (.cells #[] 29)
      have HL3:=xH hl3;have HXL:=xH hxl;have H1X:=xH h1x;have HSRC:=xH hsrc
      have HBW:=xH (xU HS5B).but
      clear hl3 hxl h1x hsrc
      go_wp2_with (first
       | (at_builtin;refine append_copy _ rfl _ _ 27 rfl W5.heap.size 29 i0 _ 5 80 Tryz.underlying27 (xU HII) (xU HZ0) (xU HZ1) (xU HZ2) rfl (by decide) W5.heap.size rfl (xU HEMK) aK nK capK xs rfl (xU HXL) (xU HSRC) (xU H1X) (by unfold maxLen;omega) (by omega) (by rw [World.size_alloc];omega) ?_
          intro gk capk w6 HO6 HG6
          have HS6:=xH (((xU HS5B).on ((Below.refl _ _).alloc (Nat.le_refl _) (.cells #[] 29))).touch HG6.out (fun b e=>by simp only [Option.some.injEq] at e;omega))
          have hsz6:=(xU HS6).size
          have hsw6:W5.heap.size+1≤w6.heap.size:=by have:=HG6.out.size;rw [World.size_alloc] at this;exact this
          have HK6:Hid (∀ x,x < W5.heap.size→w6.heap[x]? = W5.heap[x]?):=fun x hx=>(HG6.out.block x (by rw [World.size_alloc];omega) (by simp;omega)).trans (Below.heap_alloc _ _ _ hx)
          clear HG6)
       | (at_builtin;refine append_row _ rfl _ _ 27 rfl W5.heap.size 29 i0 _ 5 80 Tryz.underlying27 (xU HII) (xU HZ0) (xU HZ1) (xU HZ2) rfl (by decide) (.slice (some ⟨gk,0,none⟩) nK capk) nK xs rfl (World.ownsRow.alloc HO6.out _) ⟨w6.heap.size,0,none⟩ 1 1 (c5l ⟨.int .i64 1,.int .i64 0,.string ⟨#[]⟩,.slice none 0 0,.slice none 0 0⟩) rfl rfl (cell_five w6 _ _) (fun u hu=>by
           simp only [c5l,List.mem_cons,List.not_mem_nil,or_false] at hu
           rcases hu with rfl | rfl | rfl | rfl | rfl <;> rfl) (by decide) (by unfold maxLen;omega) (by omega) (by rw [World.size_alloc];omega) ?_
          intro v' w7 hown7 hgrow7 hat7
          obtain ⟨g7,cap7,rfl,hg71,hg72⟩:=hown7.form (by omega)
          have HO7:=xH hown7
          have hs7:=((xU HS6).touch (World.grownBy_alloc w6 (.cells #[.int .i64 1,.int .i64 0,.string ⟨#[]⟩,.slice none 0 0,.slice none 0 0] 29) none) (fun b e=>by cases e)).touch hgrow7 (fun b e=>by have:=(HO6.out.lt b e).1;omega)
          have hsw7:W5.heap.size≤w7.heap.size:=by have:=hgrow7.size;rw [World.size_alloc] at this;omega
          have HK7:Hid (∀ x,x < W5.heap.size→w7.heap[x]? = W5.heap[x]?):=fun x hx=>(hgrow7.block x (by rw [World.size_alloc];omega) (fun e=>by have:=(HO6.out.lt x e.symm).1;omega)).trans ((Below.heap_alloc _ _ _ (by omega)).trans (HK6.out x hx))
          obtain ⟨m0,m1,m2,m3,m4⟩:=cs5 hs7.bT (by omega);have mf:=hs7.bT.frozen
          obtain ⟨n0,n1,n2,n3,n4⟩:=cs5 hs7.bX (by omega);have nf:=hs7.bX.frozen
          simp only [row5] at m0 m1 m2 m3 m4 n0 n1 n2 n3 n4
          have HS7:=xH hs7
          clear hs7 hown7 hgrow7 hat7))
      have hS':=(xU HS7).set4 (.slice (some ⟨g7,0,none⟩) (nK+1) cap7)
      have hc':=xU HCAR _ hS'.but
      have hl7:TL5 P w7 t.kids xs:=(xU HL3).carry (fun x hx=>by
       have hp:=xU HP x hx
       exact ((xU HS7).but.at hp.2 (by omega)).trans ((xU HBW).at hp.2 (by omega)).symm) (fun _ h=>h)
      have hka0:=KA.of_row (xU HO7) (hl7.snoc (rep_leafD 1 0 ⟨#[]⟩ ⟨by decide,by decide⟩ ⟨by decide,by decide⟩ (by decide))) (by rw [List.length_append,← xU HNK];rfl) (by omega)
      have hka:=hka0.carry (Q:=fun x=>P x∨(w.heap.size+2≤x∧x < w7.heap.size)) (fun _ _=>rfl) (fun x hx=>by
       rcases hx with h | h
       · exact Or.inl h
       · exact Or.inr ⟨by omega,h.2⟩)
      have hnr7:=(xU HNR).carry (w':=w7.setCell ⟨w.heap.size,4,none⟩ (.slice (some ⟨g7,0,none⟩) (nK+1) cap7)) (Q:=fun x=>P x∨(w.heap.size+2≤x∧x < (w7.setCell ⟨w.heap.size,4,none⟩ (.slice (some ⟨g7,0,none⟩) (nK+1) cap7)).heap.size)) (fun x hx=>by
       have hx':x < W5.heap.size∧x≠w.heap.size:=by
        rcases hx with h | h
        · have:=xU HP x h;omega
        · omega
       rw [Below.heap_setCell _ _ _ _ (by simpa using hx'.2)]
       exact xU HK7 x hx'.1) (fun x hx=>by
       simp only [size_setCell]
       rcases hx with h | h
       · exact Or.inl h
       · exact Or.inr ⟨h.1,by omega⟩)
      have HEND:=xH (fun d0 d1 d2 d3 d4=>rt_end (N:=3 * Z+100) (p:=p) (xU HP) hS' (by omega) (rep_of hi0 hi1 hx2 hnr7 (hka.carry (fun x hx=>Below.heap_setCell _ _ _ _ (by
       rcases hx with h | h
       · have:=xU HP x h;simp;omega
       · simp;omega)) (fun x hx=>by simp only [size_setCell];exact hx))) d0 d1 d2 d3 d4)
      clear hS' hc' hl7 hka hka0 HK6 HK7 HS7 HO7 HS6 HO6 hnr7 HNR
      refine bodyPost_ret (v:=.agg #[.int .i64 t.sort,.int .i64 t.num,.string t.text,.slice (some ⟨g5,0,none⟩) (nN+1) cap5,.slice (some ⟨g7,0,none⟩) (nK+1) cap7]) (by simp [results,Tryz.results20,go_sem,n0,n1,n2,n3,n4]) rfl ?_
      exact xU HEND _ _ _ _ _
    · have hs2:=xU HS2
      obtain ⟨m0,m1,m2,m3,m4⟩:=cs5 hs2.bT (by omega);have mf:=hs2.bT.frozen
      obtain ⟨n0,n1,n2,n3,n4⟩:=cs5 hs2.bX (by omega);have nf:=hs2.bX.frozen
      simp only [row5] at m0 m1 m2 m3 m4 n0 n1 n2 n3 n4
      have hlt0:w.heap.size < w2.heap.size:=by omega
      clear hs2
      go_upto_region 24 with fail
      have hS6:=((xU HS2).set4 (.slice (some ⟨w2.heap.size,0,none⟩) 0 0)).on ((Below.refl _ _).alloc (Nat.le_refl _) (.cells #[] 29))
      have hem:=empty_row (base:=w.heap.size+2) (size:=5) (World.rowIs_alloc (w2.setCell ⟨w.heap.size,4,none⟩ (.slice (some ⟨w2.heap.size,0,none⟩) 0 0)) #[] 29 (fun _=>.bool false) (fun i hi=>by simp at hi)) (by rw [size_setCell];exact hsz2)
      rw [size_setCell] at hem
      generalize (w2.setCell ⟨w.heap.size,4,none⟩ (.slice (some ⟨w2.heap.size,0,none⟩) 0 0)).alloc (.cells #[] 29)=W6 at *
      have hsz6:=hS6.size
      have HG0:Hid (G5 (w.heap.size+2) w.heap.size (fun _=>False) W6 W6 (.int .i64 t.sort) (.int .i64 t.num) (.string t.text) (.slice aN nN capN) (some ⟨w2.heap.size,0,none⟩) 0 0 [] []):=⟨hS6.bT,hem,TL5.nil _ _,rfl,⟨by omega,by omega⟩,fun x hx=>hx.elim,BB.refl _ _ _⟩
      have HS6:=xH hS6
      clear hS6 hem HS2 m0 m1 m2 m3 m4 mf n0 n1 n2 n3 n4 nf
      go_wp2_with fail
      go_loopw [7] (fun nn wr=>∃ (j:Nat) (a6:Option Addr) (cap6:Nat) (ts:List Tr) (xs:List Value),j≤21∧nn=.int .i64 j∧Hid (G5 (w.heap.size+2) w.heap.size (fun _=>False) W6 wr (.int .i64 t.sort) (.int .i64 t.num) (.string t.text) (.slice aN nN capN) a6 j cap6 ts xs)) (fun nn _=>21 - (intOf nn).toNat)
      case atStart=>exact ⟨0,some ⟨w2.heap.size,0,none⟩,0,[],[],by omega,rfl,HG0⟩
      case round =>
       clear HG0
       obtain ⟨j,a6,cap6,ts,xs,hj,rfl,HG⟩:=hrel
       have hlt:=HG.out.lt
       have t4:=HG.out.box.cell (i:=4) (by omega)
       simp only [row5] at t4
       by_cases hj20:j≤20
       · have hqq:decide ((j:Int)≤20)=true:=by simp;omega
         have hqn:decide (j≤20)=true:=by simp;omega
         go_wp2_with (at_builtin; refine append_row _ rfl _ _ 27 rfl (w.heap.size + 2) 29 i0 _ 5 80 Tryz.underlying27 (unhide HII) (unhide HZ0) (unhide HZ1) (unhide HZ2) rfl (by decide) (.slice a6 j cap6) j xs rfl (World.ownsRow.alloc HG.out.own _) ⟨wr.heap.size, 0, none⟩ 1 1 (c5l ⟨.int .i64 1, .int .i64 0, .string ⟨#[]⟩, .slice none 0 0, .slice none 0 0⟩) rfl rfl (cell_five wr _ _) (fun u hu => by
          simp only [c5l,List.mem_cons,List.not_mem_nil,or_false] at hu
          rcases hu with rfl | rfl | rfl | rfl | rfl <;> rfl) (by decide) (by unfold maxLen;omega) (by omega) (by rw [World.size_alloc];omega) ?_
                      intro v' w8 hown8 hgrow8 hat8
                      obtain ⟨g,cap,rfl,-,-⟩:=hown8.form (by omega)
                      have u4:=(G5.at HG.out hgrow8).cell (i:=4) (by omega);have uz:=(G5.at HG.out hgrow8).frozen 4
                      simp only [row5] at u4
                      have HG8:=xH (G5.push HG.out (rep_leafD 1 0 ⟨#[]⟩ ⟨by decide,by decide⟩ ⟨by decide,by decide⟩ (by decide)) hown8 hgrow8)
                      clear hown8 hgrow8 hat8)
         clear HG t4
         go_roundw
         case rel=>exact ⟨j+1,some ⟨g,0,none⟩,cap,_,_,by omega,by go_num,HG8⟩
         case measure=>simp [intOf];omega
       · have hqq:decide ((j:Int)≤20)=false:=by simp;omega
         have hqn:decide (j≤20)=false:=by simp;omega
         have hob:=HG.out.old
         have hS':ST R w ⟨.int .i64 t.sort,.int .i64 t.num,.string t.text,.slice aN nN capN,.slice a6 j cap6⟩ v b (q+1) wr:=⟨(xU HS6).dr.block (fun g hg=>hob.block g (by omega) (by omega)) ((xU HS6).dr.cells.of_block (hob.block R (by omega) (by omega))),⟨hob.os.trans (xU HS6).but.os,hob.tape.trans (xU HS6).but.tape,hob.output.trans (xU HS6).but.output,Nat.le_trans (xU HS6).but.size hob.size,fun i hi hne=>(hob.block i (by omega) (by omega)).trans ((xU HS6).but.block i hi hne)⟩,HG.out.box,(xU HS6).bX.of_block (hob.block _ (by omega) (by omega)),hR⟩
         have hc':=xU HCAR _ hS'.but
         have hka:KA (fun x=>P x∨(w.heap.size+2≤x∧x < wr.heap.size)) wr (.slice a6 j cap6) ts:=KA.carry (P:=fun x=>False∨(w.heap.size+2≤x∧x < wr.heap.size)) ⟨a6,cap6,by rw [HG.out.len],by rw [HG.out.len];omega,HG.out.kids⟩ (fun _ _=>rfl) (fun x hx=>hx.elim (fun h=>h.elim) Or.inr)
         obtain ⟨m0,m1,m2,m3,m4⟩:=cs5 (hS'.bT) (by omega);have mf:=hS'.bT.frozen
         obtain ⟨n0,n1,n2,n3,n4⟩:=cs5 (hS'.bX) (by omega);have nf:=hS'.bX.frozen
         simp only [row5] at m0 m1 m2 m3 m4 n0 n1 n2 n3 n4
         have HEND:=xH (fun d0 d1 d2 d3 d4=>rt_end (N:=3 * Z+100) (p:=p) (xU HP) hS' (by omega) (rep_of hi0 hi1 hx2 (hc'.1.carry (fun _ _=>rfl) (fun _ h=>Or.inl h)) hka) d0 d1 d2 d3 d4)
         clear hS' hc' hka hob HG HS6 t4
         go_wp2_with fail
         refine bodyPost_ret (v:=.agg #[.int .i64 t.sort,.int .i64 t.num,.string t.text,.slice aN nN capN,.slice a6 j cap6]) (by simp [results,Tryz.results20,go_sem,n0,n1,n2,n3,n4]) rfl ?_
         exact xU HEND _ _ _ _ _
    · have hs2:=xU HS2
      obtain ⟨m0,m1,m2,m3,m4⟩:=cs5 hs2.bT (by omega);have mf:=hs2.bT.frozen
      obtain ⟨n0,n1,n2,n3,n4⟩:=cs5 hs2.bX (by omega);have nf:=hs2.bX.frozen
      simp only [row5] at m0 m1 m2 m3 m4 n0 n1 n2 n3 n4
      have hS':=hs2.set3 (.slice (some ⟨w2.heap.size,0,none⟩) 0 0)
      have hc':=xU HCAR _ hS'.but
      have HEND:=xH (fun d0 d1 d2 d3 d4=>(rt_end (N:=3 * Z+100) (p:=p) (xU HP) hS' (by omega) (rep_of (ns:=[]) hi0 hi1 hx2 ⟨some ⟨w2.heap.size,0,none⟩,0,rfl,by simp,fun i hi=>by simp at hi⟩ (hc'.2.carry (fun _ _=>rfl) (fun _ h=>Or.inl h))) d0 d1 d2 d3 d4).alloc (fun x hx=>(xU HP x hx).2) (.cells #[] 9))
      have hlt1:w.heap.size+1 < w2.heap.size:=by omega
      have hlt0:w.heap.size < w2.heap.size:=by omega
      clear hs2 hS' hc' HS2
      go_wp2_with fail
      refine bodyPost_ret (v:=.agg #[.int .i64 t.sort,.int .i64 t.num,.string t.text,.slice (some ⟨w2.heap.size,0,none⟩) 0 0,.slice aK nK capK]) (by simp [results,Tryz.results20,go_sem,n0,n1,n2,n3,n4,hlt1]) rfl ?_
      exact xU HEND _ _ _ _ _

theorem spoilT_all:∀ n,SqSaid n
 | 0=>fun t h=>by omega
 | n+1=>l5SpoilT_step n (spoilT_all n)
theorem someTree_any (R:Nat) (w:World) (v:Value) (b:List UInt8) (p:Nat) (k:Kd) (c:C3) (lo:Nat) (hlo:R < lo) (hr:KRep (fun x=>lo≤x∧x < w.heap.size) w k c) (hq:0 < qT k 1) (hd:DR R w v b p) (hp:p≤800000) :
 Calls Tryz.prog 18 #[.pointer (some ⟨R,0,none⟩),.agg #[c.c0,c.c1,c.c2]] w fun e w'=>TsEnd 100000 R w w' v b p e:=by
 have hn:=nd_ok hq
 refine (lt_all (ksz k+1) k (by omega) _ c w R v b p (fun x hx=>⟨hx.2,by omega⟩) hr (ok_of_qT hq).1 hd (by omega)).mono ?_
 rintro e w' ⟨t,c,F,p',h1,h2,h3,h4,h5,h6,h7,h8,h9⟩
 exact ⟨t,c,F,p',h1,h2,h3,h4,h5,by omega,h7,by omega,h9⟩

def BytesAt (w:World) (v:Value) (l:List UInt8):Prop :=
 ∃ a cap,v=.slice a l.length cap∧l.length≤9223372036854775807∧∀ i,(h:i < l.length)→∃ b o,a=some ⟨b,o,none⟩∧b < w.heap.size∧w.cell? ⟨b,o+i,none⟩=some (.int .u8 l[i].toNat)
theorem BytesAt.on {w w':World} {v:Value} {l:List UInt8} (h:BytesAt w v l) (hb:Below w.heap.size w w'):BytesAt w' v l:=by
 obtain ⟨a,cap,h1,h2,h3⟩:=h
 refine ⟨a,cap,h1,h2,fun i hi=>?_⟩
 obtain ⟨b,o,e,hlt,hc⟩:=h3 i hi
 exact ⟨b,o,e,Nat.lt_of_lt_of_le hlt hb.size,by rw [hb.cell hlt];exact hc⟩

theorem l6Open_any (w:World) (a:Option Addr) (cap:Nat) (l:List UInt8) (hv:BytesAt w (.slice a l.length cap) l) (hcap:l.length≤cap) :
 Calls Tryz.prog 16 #[.slice a l.length cap] w fun e w'=>∃ (v':Value) (b':List UInt8),e=.returned (.pointer (some ⟨w.heap.size,0,none⟩))∧DR w.heap.size w' v' b' 0∧Below w.heap.size w w':=by
 obtain ⟨a',cap',e,hlen,hc⟩:=hv
 simp only [Value.slice.injEq,true_and] at e
 obtain ⟨rfl,rfl⟩:=e
 by_cases h2:l.length≤2000
 · have hq:decide ((2000:Int) < (l.length:Int))=false:=by simp;omega
   have HC:=xH hc
   clear hc
   go_enter Tryz.func16,Tryz.ntmps16
   go_wp2_with fail
   go_ret
   refine ⟨.slice a l.length cap,l,rfl,⟨?_,⟨a,cap,rfl,fun i hi=>?_⟩,h2⟩,(Below.refl _ _).alloc (Nat.le_refl _) _⟩
   · exact World.rowIs_alloc w #[.slice a l.length cap,.int .i64 0] 86 _ (fun i hi=>by
      have hi':i < 2:=by simpa using hi
      rcases (show i=0∨i=1 by omega) with rfl | rfl <;> rfl)
   · obtain ⟨g,o,e,hlt,hcell⟩:=xU HC i hi
     exact ⟨g,o,e,hlt,by rw [World.cell?_of_block (w:=w) (Below.heap_alloc _ _ _ hlt)];exact hcell⟩
 · have hq:decide ((2000:Int) < (l.length:Int))=true:=by simp;omega
   obtain ⟨g,o,rfl,-,-⟩:=hc 0 (by omega)
   have HC:=xH hc
   clear hc
   have hc2:2000≤cap:=by omega
   have hc3:(2000:Int)≤(cap:Int):=by omega
   go_enter Tryz.func16,Tryz.ntmps16
   go_wp2_with fail
   go_ret
   have hl2:(l.take 2000).length=2000:=by rw [List.length_take];omega
   refine ⟨.slice (some ⟨g,o,none⟩) 2000 cap,l.take 2000,rfl,⟨?_,⟨_,cap,by rw [hl2],fun i hi=>?_⟩,by omega⟩,(Below.refl _ _).alloc (Nat.le_refl _) _⟩
   · exact World.rowIs_alloc w #[.slice (some ⟨g,o,none⟩) 2000 cap,.int .i64 0] 86 _ (fun i hi=>by
      have hi':i < 2:=by simpa using hi
      rcases (show i=0∨i=1 by omega) with rfl | rfl <;> rfl)
   · obtain ⟨g',o',e,hlt,hcell⟩:=xU HC i (by omega)
     exact ⟨g',o',e,hlt,by rw [World.cell?_of_block (w:=w) (Below.heap_alloc _ _ _ hlt),List.getElem_take];exact hcell⟩
end Go.Proofs.YteefjeddboefcaaGreatDoor
