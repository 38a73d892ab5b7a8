/- A part. -/
import Derived.Test.YteefjeddboefcaaGreatDoorPart23
import Derived.MakeChecks
import Derived.Deep.Fields
set_option maxRecDepth 100000
set_option maxHeartbeats 6400000
namespace Go.Proofs.YteefjeddboefcaaGreatDoor
open Go Go.RowKit
structure L7 (w W:World) (k:Kd) (c:C3) (K:Nat) (m:Kd) (d:C3) (M:Nat) (t:Tr) (x:C5) (T:Nat) (n:Kd) (y:C3) (N:Nat):Prop where
 l:L6 w W k c K m d M t x T
 nb:KT6 w W n y N
theorem L7.on {w W W':World} {k:Kd} {c:C3} {K:Nat} {m:Kd} {d:C3} {M:Nat} {t:Tr} {x:C5} {T:Nat} {n:Kd} {y:C3} {N:Nat} (h:L7 w W k c K m d M t x T n y N) (hb:Below W.heap.size W W'):L7 w W' k c K m d M t x T n y N:=⟨h.l.on hb,h.nb.on hb⟩
theorem krep_form3 {P:Nat→Prop} {w:World} {k:Kd} {c:C3} (h:KRep P w k c):∃ (a1:Option Addr) (p1:Nat) (a2:Option Addr) (p2:Nat),c=⟨.int .i64 k.sort,.slice a1 k.names.length p1,.slice a2 k.kids.length p2⟩:=by
 obtain ⟨c0,c1,c2⟩:=c
 obtain ⟨g0,-,⟨a1,cap1,g1,-⟩,a2,cap2,g2,-⟩:=h.open
 simp only at g0 g1 g2
 exact ⟨a1,cap1,a2,cap2,by rw [g0,g1,g2]⟩
theorem p7_cases (k m n:Kd) (t:Tr) :
 fitsD k m=false∨(fitsD k m=true∧fitsD m n=false) ∨
 (fitsD k m=true∧fitsD m n=true∧fitsD k n=true∧((∃ u v,widA k n t=some u∧widA k m t=some v∧widA m n v=some u)∨(∃ v,widA k n t=none∧widA k m t=some v∧widA m n v=none)∨(widA k n t=none∧widA k m t=none∧widA m n tr0=none))):=by
 cases h1:fitsD k m
 · exact Or.inl rfl
 · cases h2:fitsD m n
   · exact Or.inr (Or.inl ⟨rfl,rfl⟩)
   · refine Or.inr (Or.inr ⟨rfl,rfl,fitsD_trans h1 h2,?_⟩)
     obtain ⟨h3,h4⟩:=wid_two (t:=t) h1 h2
     cases h5:widA k n t with
     | some u =>
       rw [h5] at h3 h4
       obtain ⟨v,hv⟩:=Option.isSome_iff_exists.1 (h4 rfl)
       rw [hv] at h3
       exact Or.inl ⟨u,v,rfl,hv,h3⟩
     | none =>
       rw [h5] at h3
       cases h6:widA k m t with
       | some v=>rw [h6] at h3;exact Or.inr (Or.inl ⟨v,rfl,rfl,h3⟩)
       | none=>rw [h6] at h3;exact Or.inr (Or.inr ⟨rfl,rfl,h3⟩)
theorem lawKindWay_any (w:World) (a:Option Addr) (cap:Nat) (l:List UInt8) (hv:BytesAt w (.slice a l.length cap) l) (hcap:l.length≤cap) (b:Option Addr) (bap:Nat) (r:List UInt8) (hvr:BytesAt w (.slice b r.length bap) r) (hbap:r.length≤bap) (hE:ErrT w) (hT:Tab w) :
 Calls Tryz.prog 4 #[.slice a l.length cap,.slice b r.length bap] w fun e w'=>e=.returned (.bool true)∧Below w.heap.size w w':=by
 have hlen:l.length≤9223372036854775807:=by obtain ⟨_,_,_,h,_⟩:=hv;exact h
 have hlenr:r.length≤9223372036854775807:=by obtain ⟨_,_,_,h,_⟩:=hvr;exact h
 by_cases hs:l.length≤1048576
 · have hd:decide ((1048576:Int) < (l.length:Int))=false:=by simp;omega
   by_cases hsr:r.length≤1048576
   · have hdr:decide ((1048576:Int) < (r.length:Int))=false:=by simp;omega
     have HDW:=xH (drawKindWiden_any w a cap l hv hcap)
     have HVR:=xH (fun W (hW:Below w.heap.size w W)=>hvr.on hW)
     have HBP:=xH hbap
     have HT:=xH (fun W (hW:Below w.heap.size w W)=>hT.on hW)
     have HE:=xH (fun W (hW:Below w.heap.size w W)=>hE.on hW)
     clear hv hT hE hvr hbap
     go_enter Tryz.func4,Tryz.ntmps4
     go_wp2_with fail
     refine (xU HDW).mono ?_
     rintro e w1 ⟨k,m,⟨c0,c1,c2⟩,⟨d0,d1,d2⟩,t,⟨x0,x1,x2,x3,x4⟩,rfl,hk1,hm1,ht1,hwk,hwm,hb1⟩
     obtain ⟨a1,cap1,a2,cap2,g0⟩:=krep_form3 hk1
     simp only [C3.mk.injEq] at g0
     obtain ⟨rfl,rfl,rfl⟩:=g0
     obtain ⟨b1,bap1,b2,bap2,g0⟩:=krep_form3 hm1
     simp only [C3.mk.injEq] at g0
     obtain ⟨rfl,rfl,rfl⟩:=g0
     obtain ⟨t1,tap1,t2,tap2,g0⟩:=rep_form5 ht1
     simp only [C5.mk.injEq] at g0
     obtain ⟨rfl,rfl,rfl,rfl,rfl⟩:=g0
     have hst:=L6.start hb1 hk1 hm1 ht1
     simp only at hst
     obtain ⟨W1,hW1⟩:∃ W1,((w1.alloc (.cells #[.int .i64 k.sort,.slice a1 k.names.length cap1,.slice a2 k.kids.length cap2] 26)).alloc (.cells #[.int .i64 m.sort,.slice b1 m.names.length bap1,.slice b2 m.kids.length bap2] 26)).alloc (.cells #[.int .i64 t.sort,.int .i64 t.num,.string t.text,.slice t1 t.names.length tap1,.slice t2 t.kids.length tap2] 29)=W1:=⟨_,rfl⟩
     rw [hW1] at hst
     have HL:=xH hst;have HW1:=xH hW1
     obtain ⟨m0,m1,m2⟩:=hst.mb.cells
     simp only at m0 m1 m2
     have hdw:=drawKindWay_any W1 _ m _ (fun x hx=>Nat.lt_trans hx hst.mb.box.lt) hst.mb.rep b bap r (xU HVR W1 hst.kb.below) (xU HBP)
     have HDY:=xH hdw
     clear HDW hk1 hm1 ht1 hb1 hst hW1 hdw HVR HBP
     go_wp2_with fail
     rw [xU HW1]
     refine (xU HDY).mono ?_
     rintro e w2 ⟨n,⟨y0,y1,y2⟩,rfl,hn,hwn,hb2⟩
     have hsz:=(xU HL).mb.box.lt
     have hn2:KRep (fun x=>x < w2.heap.size) w2 n ⟨y0,y1,y2⟩:=KRep.carry (fun _ _=>rfl) (fun x hx=>by
      have:=hb2.size
      rcases hx with hx | hx
      · omega
      · exact hx.2) _ _ hn
     have hwn2:wKd n≤1048576:=by
      rcases hwn with h | h
      · rw [h];omega
      · omega
     obtain ⟨n1,nap1,n2,nap2,g0⟩:=krep_form3 hn2
     simp only [C3.mk.injEq] at g0
     obtain ⟨rfl,rfl,rfl⟩:=g0
     have hL2:=(xU HL).on hb2
     have hnx:=KT6.start hL2.kb.below hn2
     have hl7:=hL2.on ((Below.refl w2.heap.size w2).alloc (Nat.le_refl _) (.cells #[.int .i64 n.sort,.slice n1 n.names.length nap1,.slice n2 n.kids.length nap2] 26))
     obtain ⟨W2,hW2⟩:∃ W2,w2.alloc (.cells #[.int .i64 n.sort,.slice n1 n.names.length nap1,.slice n2 n.kids.length nap2] 26)=W2:=⟨_,rfl⟩
     rw [hW2] at hnx hl7
     have hL7:L7 w W2 k ⟨.int .i64 k.sort,.slice a1 k.names.length cap1,.slice a2 k.kids.length cap2⟩ w1.heap.size m ⟨.int .i64 m.sort,.slice b1 m.names.length bap1,.slice b2 m.kids.length bap2⟩ (w1.heap.size+1) t ⟨.int .i64 t.sort,.int .i64 t.num,.string t.text,.slice t1 t.names.length tap1,.slice t2 t.kids.length tap2⟩ (w1.heap.size+2) n ⟨.int .i64 n.sort,.slice n1 n.names.length nap1,.slice n2 n.kids.length nap2⟩ w2.heap.size:=⟨hl7,hnx⟩
     have HL7:=xH hL7;have HW2:=xH hW2
     have lk:=hL2.kb.box.lt;have lm:=hL2.mb.box.lt
     obtain ⟨k0,k1,k2⟩:=hL2.kb.cells
     obtain ⟨m0,m1,m2⟩:=hL2.mb.cells
     simp only at k0 k1 k2 m0 m1 m2
     clear hn hn2 hwn hb2 hL2 hnx hl7 hW2 hL7 hsz HL HDY HW1
     have hsf:=fun W (hW:L7 w W k ⟨.int .i64 k.sort,.slice a1 k.names.length cap1,.slice a2 k.kids.length cap2⟩ w1.heap.size m ⟨.int .i64 m.sort,.slice b1 m.names.length bap1,.slice b2 m.kids.length bap2⟩ (w1.heap.size+1) t ⟨.int .i64 t.sort,.int .i64 t.num,.string t.text,.slice t1 t.names.length tap1,.slice t2 t.kids.length tap2⟩ (w1.heap.size+2) n ⟨.int .i64 n.sort,.slice n1 n.names.length nap1,.slice n2 n.kids.length nap2⟩ w2.heap.size)=>specKindFits_any k m _ _ _ _ W (fun x hx=>Nat.lt_trans hx hW.l.kb.box.lt) (fun x hx=>Nat.lt_trans hx hW.l.mb.box.lt) hW.l.kb.rep hW.l.mb.rep
     have hsg:=fun W (hW:L7 w W k ⟨.int .i64 k.sort,.slice a1 k.names.length cap1,.slice a2 k.kids.length cap2⟩ w1.heap.size m ⟨.int .i64 m.sort,.slice b1 m.names.length bap1,.slice b2 m.kids.length bap2⟩ (w1.heap.size+1) t ⟨.int .i64 t.sort,.int .i64 t.num,.string t.text,.slice t1 t.names.length tap1,.slice t2 t.kids.length tap2⟩ (w1.heap.size+2) n ⟨.int .i64 n.sort,.slice n1 n.names.length nap1,.slice n2 n.kids.length nap2⟩ w2.heap.size)=>specKindFits_any m n _ _ _ _ W (fun x hx=>Nat.lt_trans hx hW.l.mb.box.lt) (fun x hx=>Nat.lt_trans hx hW.nb.box.lt) hW.l.mb.rep hW.nb.rep
     have hif:=fun W (hW:L7 w W k ⟨.int .i64 k.sort,.slice a1 k.names.length cap1,.slice a2 k.kids.length cap2⟩ w1.heap.size m ⟨.int .i64 m.sort,.slice b1 m.names.length bap1,.slice b2 m.kids.length bap2⟩ (w1.heap.size+1) t ⟨.int .i64 t.sort,.int .i64 t.num,.string t.text,.slice t1 t.names.length tap1,.slice t2 t.kids.length tap2⟩ (w1.heap.size+2) n ⟨.int .i64 n.sort,.slice n1 n.names.length nap1,.slice n2 n.kids.length nap2⟩ w2.heap.size)=>implKindFits_any k m _ _ _ _ W (xU HE W hW.l.kb.below) (fun x hx=>Nat.lt_trans hx hW.l.kb.box.lt) (fun x hx=>Nat.lt_trans hx hW.l.mb.box.lt) hW.l.kb.rep hW.l.mb.rep (by omega) (by omega)
     have hig:=fun W (hW:L7 w W k ⟨.int .i64 k.sort,.slice a1 k.names.length cap1,.slice a2 k.kids.length cap2⟩ w1.heap.size m ⟨.int .i64 m.sort,.slice b1 m.names.length bap1,.slice b2 m.kids.length bap2⟩ (w1.heap.size+1) t ⟨.int .i64 t.sort,.int .i64 t.num,.string t.text,.slice t1 t.names.length tap1,.slice t2 t.kids.length tap2⟩ (w1.heap.size+2) n ⟨.int .i64 n.sort,.slice n1 n.names.length nap1,.slice n2 n.kids.length nap2⟩ w2.heap.size)=>implKindFits_any m n _ _ _ _ W (xU HE W hW.l.kb.below) (fun x hx=>Nat.lt_trans hx hW.l.mb.box.lt) (fun x hx=>Nat.lt_trans hx hW.nb.box.lt) hW.l.mb.rep hW.nb.rep (by omega) (by omega)
     have hih:=fun W (hW:L7 w W k ⟨.int .i64 k.sort,.slice a1 k.names.length cap1,.slice a2 k.kids.length cap2⟩ w1.heap.size m ⟨.int .i64 m.sort,.slice b1 m.names.length bap1,.slice b2 m.kids.length bap2⟩ (w1.heap.size+1) t ⟨.int .i64 t.sort,.int .i64 t.num,.string t.text,.slice t1 t.names.length tap1,.slice t2 t.kids.length tap2⟩ (w1.heap.size+2) n ⟨.int .i64 n.sort,.slice n1 n.names.length nap1,.slice n2 n.kids.length nap2⟩ w2.heap.size)=>implKindFits_any k n _ _ _ _ W (xU HE W hW.l.kb.below) (fun x hx=>Nat.lt_trans hx hW.l.kb.box.lt) (fun x hx=>Nat.lt_trans hx hW.nb.box.lt) hW.l.kb.rep hW.nb.rep (by omega) (by omega)
     have hw1:=fun W (hW:L7 w W k ⟨.int .i64 k.sort,.slice a1 k.names.length cap1,.slice a2 k.kids.length cap2⟩ w1.heap.size m ⟨.int .i64 m.sort,.slice b1 m.names.length bap1,.slice b2 m.kids.length bap2⟩ (w1.heap.size+1) t ⟨.int .i64 t.sort,.int .i64 t.num,.string t.text,.slice t1 t.names.length tap1,.slice t2 t.kids.length tap2⟩ (w1.heap.size+2) n ⟨.int .i64 n.sort,.slice n1 n.names.length nap1,.slice n2 n.kids.length nap2⟩ w2.heap.size)=>implKindWiden_any k n t _ _ _ _ _ _ W (xU HE W hW.l.kb.below) (xU HT W hW.l.kb.below) (fun x hx=>Nat.lt_trans hx hW.l.kb.box.lt) (fun x hx=>Nat.lt_trans hx hW.nb.box.lt) (fun x hx=>Nat.lt_trans hx hW.l.tb.box.lt) hW.l.kb.rep hW.nb.rep hW.l.tb.rep (by omega) (by omega)
     have hw2:=fun W (hW:L7 w W k ⟨.int .i64 k.sort,.slice a1 k.names.length cap1,.slice a2 k.kids.length cap2⟩ w1.heap.size m ⟨.int .i64 m.sort,.slice b1 m.names.length bap1,.slice b2 m.kids.length bap2⟩ (w1.heap.size+1) t ⟨.int .i64 t.sort,.int .i64 t.num,.string t.text,.slice t1 t.names.length tap1,.slice t2 t.kids.length tap2⟩ (w1.heap.size+2) n ⟨.int .i64 n.sort,.slice n1 n.names.length nap1,.slice n2 n.kids.length nap2⟩ w2.heap.size)=>implKindWiden_any k m t _ _ _ _ _ _ W (xU HE W hW.l.kb.below) (xU HT W hW.l.kb.below) (fun x hx=>Nat.lt_trans hx hW.l.kb.box.lt) (fun x hx=>Nat.lt_trans hx hW.l.mb.box.lt) (fun x hx=>Nat.lt_trans hx hW.l.tb.box.lt) hW.l.kb.rep hW.l.mb.rep hW.l.tb.rep (by omega) (by omega)
     have hw3:=fun (v:Tr) (B:Nat) (z:C5) W (hW:L7 w W k ⟨.int .i64 k.sort,.slice a1 k.names.length cap1,.slice a2 k.kids.length cap2⟩ w1.heap.size m ⟨.int .i64 m.sort,.slice b1 m.names.length bap1,.slice b2 m.kids.length bap2⟩ (w1.heap.size+1) t ⟨.int .i64 t.sort,.int .i64 t.num,.string t.text,.slice t1 t.names.length tap1,.slice t2 t.kids.length tap2⟩ (w1.heap.size+2) n ⟨.int .i64 n.sort,.slice n1 n.names.length nap1,.slice n2 n.kids.length nap2⟩ w2.heap.size) (hV:TB6 w W v z B)=>implKindWiden_any m n v _ _ _ _ _ _ W (xU HE W hW.l.kb.below) (xU HT W hW.l.kb.below) (fun x hx=>Nat.lt_trans hx hW.l.mb.box.lt) (fun x hx=>Nat.lt_trans hx hW.nb.box.lt) (fun x hx=>Nat.lt_trans hx hV.box.lt) hW.l.mb.rep hW.nb.rep hV.rep (by omega) (by omega)
     have HTT:=xH (fun (t:Tr) (B1 B2:Nat) (c d:C5) (W:World) (h1:TB6 w W t c B1) (h2:TB6 w W t d B2)=>ttTree_any t _ _ c d W (fun x hx=>Nat.lt_trans hx h1.box.lt) (fun x hx=>Nat.lt_trans hx h2.box.lt) h1.rep h2.rep)
     rcases p7_cases k m n t with f1 | ⟨f1,f2⟩ | ⟨f1,f2,f3,⟨u,v,o1,o2,o3⟩ | ⟨v,o1,o2,o3⟩ | ⟨o1,o2,o3⟩⟩
     · simp only [f1] at hsf hif
       have HSF:=xH hsf;have HSG:=xH hsg;have HIF:=xH hif;have HIG:=xH hig;have HIH:=xH hih;have HW1:=xH hw1;have HWX:=xH hw2;have HW3:=xH hw3
       clear hsf hsg hif hig hih hw1 hw2 hw3 hwk hwm hwn2 hd hs hlen hlenr hdr hsr f1
       have HL1:=HL7
       clear HL7
       go_wp2_with fail
       rw [xU HW2]
       clear HW2 lk lm k0 k1 k2 m0 m1 m2
       refine (xU HSF W2 (xU HL1)).mono ?_
       rintro e w3 ⟨rfl,hb2⟩
       have HL2:=xH ((xU HL1).on hb2)
       obtain ⟨k0,k1,k2⟩:=(xU HL2).l.kb.cells
       obtain ⟨m0,m1,m2⟩:=(xU HL2).l.mb.cells
       obtain ⟨e0,e1,e2⟩:=(xU HL2).nb.cells
       obtain ⟨z0,z1,z2,z3,z4⟩:=(xU HL2).l.tb.cells
       simp only at k0 k1 k2 m0 m1 m2 e0 e1 e2 z0 z1 z2 z3 z4
       clear hb2 HL1
       go_wp2_with fail
       clear k0 k1 k2 m0 m1 m2 e0 e1 e2 z0 z1 z2 z3 z4
       refine (xU HIF w3 (xU HL2)).mono ?_
       rintro e w4 ⟨rfl,hb2⟩
       have HB:=xH ((xU HL2).on hb2).l.kb.below
       clear hb2 HL2
       go_wp2_with fail
       go_ret
       exact ⟨rfl,xU HB⟩
     · simp only [f1] at hsf hif
       simp only [f2] at hsg hig
       have HSF:=xH hsf;have HSG:=xH hsg;have HIF:=xH hif;have HIG:=xH hig;have HIH:=xH hih;have HW1:=xH hw1;have HWX:=xH hw2;have HW3:=xH hw3
       clear hsf hsg hif hig hih hw1 hw2 hw3 hwk hwm hwn2 hd hs hlen hlenr hdr hsr f1
       clear f2
       have HL1:=HL7
       clear HL7
       go_wp2_with fail
       rw [xU HW2]
       clear HW2 lk lm k0 k1 k2 m0 m1 m2
       refine (xU HSF W2 (xU HL1)).mono ?_
       rintro e w3 ⟨rfl,hb2⟩
       have HL2:=xH ((xU HL1).on hb2)
       obtain ⟨k0,k1,k2⟩:=(xU HL2).l.kb.cells
       obtain ⟨m0,m1,m2⟩:=(xU HL2).l.mb.cells
       obtain ⟨e0,e1,e2⟩:=(xU HL2).nb.cells
       obtain ⟨z0,z1,z2,z3,z4⟩:=(xU HL2).l.tb.cells
       simp only at k0 k1 k2 m0 m1 m2 e0 e1 e2 z0 z1 z2 z3 z4
       clear hb2 HL1
       go_wp2_with fail
       clear k0 k1 k2 m0 m1 m2 e0 e1 e2 z0 z1 z2 z3 z4
       refine (xU HSG w3 (xU HL2)).mono ?_
       rintro e w4 ⟨rfl,hb2⟩
       have HL3:=xH ((xU HL2).on hb2)
       obtain ⟨k0,k1,k2⟩:=(xU HL3).l.kb.cells
       obtain ⟨m0,m1,m2⟩:=(xU HL3).l.mb.cells
       obtain ⟨e0,e1,e2⟩:=(xU HL3).nb.cells
       obtain ⟨z0,z1,z2,z3,z4⟩:=(xU HL3).l.tb.cells
       simp only at k0 k1 k2 m0 m1 m2 e0 e1 e2 z0 z1 z2 z3 z4
       clear hb2 HL2
       go_wp2_with fail
       clear k0 k1 k2 m0 m1 m2 e0 e1 e2 z0 z1 z2 z3 z4
       refine (xU HIF w4 (xU HL3)).mono ?_
       rintro e w5 ⟨rfl,hb2⟩
       have HL4:=xH ((xU HL3).on hb2)
       obtain ⟨k0,k1,k2⟩:=(xU HL4).l.kb.cells
       obtain ⟨m0,m1,m2⟩:=(xU HL4).l.mb.cells
       obtain ⟨e0,e1,e2⟩:=(xU HL4).nb.cells
       obtain ⟨z0,z1,z2,z3,z4⟩:=(xU HL4).l.tb.cells
       simp only at k0 k1 k2 m0 m1 m2 e0 e1 e2 z0 z1 z2 z3 z4
       clear hb2 HL3
       go_wp2_with fail
       clear k0 k1 k2 m0 m1 m2 e0 e1 e2 z0 z1 z2 z3 z4
       refine (xU HIG w5 (xU HL4)).mono ?_
       rintro e w6 ⟨rfl,hb2⟩
       have HB:=xH ((xU HL4).on hb2).l.kb.below
       clear hb2 HL4
       go_wp2_with fail
       go_ret
       exact ⟨rfl,xU HB⟩
     · simp only [f1] at hsf hif
       simp only [f2] at hsg hig
       simp only [f3] at hih
       simp only [o1] at hw1
       simp only [o2] at hw2
       have hw3:=hw3 v
       simp only [o3] at hw3
       have HSF:=xH hsf;have HSG:=xH hsg;have HIF:=xH hif;have HIG:=xH hig;have HIH:=xH hih;have HW1:=xH hw1;have HWX:=xH hw2;have HW3:=xH hw3
       clear hsf hsg hif hig hih hw1 hw2 hw3 hwk hwm hwn2 hd hs hlen hlenr hdr hsr f1
       clear f2
       clear f3 o1 o2 o3
       have HL1:=HL7
       clear HL7
       go_wp2_with fail
       rw [xU HW2]
       clear HW2 lk lm k0 k1 k2 m0 m1 m2
       refine (xU HSF W2 (xU HL1)).mono ?_
       rintro e w3 ⟨rfl,hb2⟩
       have HL2:=xH ((xU HL1).on hb2)
       obtain ⟨k0,k1,k2⟩:=(xU HL2).l.kb.cells
       obtain ⟨m0,m1,m2⟩:=(xU HL2).l.mb.cells
       obtain ⟨e0,e1,e2⟩:=(xU HL2).nb.cells
       obtain ⟨z0,z1,z2,z3,z4⟩:=(xU HL2).l.tb.cells
       simp only at k0 k1 k2 m0 m1 m2 e0 e1 e2 z0 z1 z2 z3 z4
       clear hb2 HL1
       go_wp2_with fail
       clear k0 k1 k2 m0 m1 m2 e0 e1 e2 z0 z1 z2 z3 z4
       refine (xU HSG w3 (xU HL2)).mono ?_
       rintro e w4 ⟨rfl,hb2⟩
       have HL3:=xH ((xU HL2).on hb2)
       obtain ⟨k0,k1,k2⟩:=(xU HL3).l.kb.cells
       obtain ⟨m0,m1,m2⟩:=(xU HL3).l.mb.cells
       obtain ⟨e0,e1,e2⟩:=(xU HL3).nb.cells
       obtain ⟨z0,z1,z2,z3,z4⟩:=(xU HL3).l.tb.cells
       simp only at k0 k1 k2 m0 m1 m2 e0 e1 e2 z0 z1 z2 z3 z4
       clear hb2 HL2
       go_wp2_with fail
       clear k0 k1 k2 m0 m1 m2 e0 e1 e2 z0 z1 z2 z3 z4
       refine (xU HIF w4 (xU HL3)).mono ?_
       rintro e w5 ⟨rfl,hb2⟩
       have HL4:=xH ((xU HL3).on hb2)
       obtain ⟨k0,k1,k2⟩:=(xU HL4).l.kb.cells
       obtain ⟨m0,m1,m2⟩:=(xU HL4).l.mb.cells
       obtain ⟨e0,e1,e2⟩:=(xU HL4).nb.cells
       obtain ⟨z0,z1,z2,z3,z4⟩:=(xU HL4).l.tb.cells
       simp only at k0 k1 k2 m0 m1 m2 e0 e1 e2 z0 z1 z2 z3 z4
       clear hb2 HL3
       go_wp2_with fail
       clear k0 k1 k2 m0 m1 m2 e0 e1 e2 z0 z1 z2 z3 z4
       refine (xU HIG w5 (xU HL4)).mono ?_
       rintro e w6 ⟨rfl,hb2⟩
       have HL5:=xH ((xU HL4).on hb2)
       obtain ⟨k0,k1,k2⟩:=(xU HL5).l.kb.cells
       obtain ⟨m0,m1,m2⟩:=(xU HL5).l.mb.cells
       obtain ⟨e0,e1,e2⟩:=(xU HL5).nb.cells
       obtain ⟨z0,z1,z2,z3,z4⟩:=(xU HL5).l.tb.cells
       simp only at k0 k1 k2 m0 m1 m2 e0 e1 e2 z0 z1 z2 z3 z4
       clear hb2 HL4
       go_wp2_with fail
       clear k0 k1 k2 m0 m1 m2 e0 e1 e2 z0 z1 z2 z3 z4
       refine (xU HIH w6 (xU HL5)).mono ?_
       rintro e w7 ⟨rfl,hb2⟩
       have HL6:=xH ((xU HL5).on hb2)
       obtain ⟨k0,k1,k2⟩:=(xU HL6).l.kb.cells
       obtain ⟨m0,m1,m2⟩:=(xU HL6).l.mb.cells
       obtain ⟨e0,e1,e2⟩:=(xU HL6).nb.cells
       obtain ⟨z0,z1,z2,z3,z4⟩:=(xU HL6).l.tb.cells
       simp only at k0 k1 k2 m0 m1 m2 e0 e1 e2 z0 z1 z2 z3 z4
       clear hb2 HL5
       go_wp2_with fail
       clear k0 k1 k2 m0 m1 m2 e0 e1 e2 z0 z1 z2 z3 z4
       refine (xU HW1 w7 (xU HL6)).mono ?_
       intro e w8 hc
       obtain ⟨dw,rfl,hr2,hb2⟩:=hc.rep
       simp only [wAn,Option.getD_some,Option.isSome_some] at hr2 ⊢
       have HL7:=xH ((xU HL6).on hb2)
       have hr3:=Rep.carry (w:=w8) (w':=w8) (Q:=fun y=>y < w8.heap.size) (fun _ _=>rfl) (fun y hy=>hy.2) _ _ hr2
       obtain ⟨s1,sap1,s2,sap2,rfl⟩:=rep_form5 hr3
       have hbx:=TB6.start (xU HL7).l.kb.below hr3
       have hba:=(Below.refl w8.heap.size w8).alloc (Nat.le_refl _) (.cells #[.int .i64 u.sort,.int .i64 u.num,.string u.text,.slice s1 u.names.length sap1,.slice s2 u.kids.length sap2] 29)
       obtain ⟨W8,hWq⟩:∃ W8,w8.alloc (.cells #[.int .i64 u.sort,.int .i64 u.num,.string u.text,.slice s1 u.names.length sap1,.slice s2 u.kids.length sap2] 29)=W8:=⟨_,rfl⟩
       rw [hWq] at hbx hba
       have HL8:=xH ((xU HL7).on hba)
       have lk:=(xU HL7).l.kb.box.lt;have lm:=(xU HL7).l.mb.box.lt;have lt:=(xU HL7).l.tb.box.lt;have ln:=(xU HL7).nb.box.lt
       obtain ⟨k0,k1,k2⟩:=(xU HL7).l.kb.cells
       obtain ⟨m0,m1,m2⟩:=(xU HL7).l.mb.cells
       obtain ⟨e0,e1,e2⟩:=(xU HL7).nb.cells
       obtain ⟨z0,z1,z2,z3,z4⟩:=(xU HL7).l.tb.cells
       simp only at k0 k1 k2 m0 m1 m2 e0 e1 e2 z0 z1 z2 z3 z4
       have HBX:=xH hbx;have HWQ:=xH hWq
       obtain ⟨k0',k1',k2'⟩:=(xU HL8).l.kb.cells
       obtain ⟨m0',m1',m2'⟩:=(xU HL8).l.mb.cells
       obtain ⟨e0',e1',e2'⟩:=(xU HL8).nb.cells
       obtain ⟨z0',z1',z2',z3',z4'⟩:=(xU HL8).l.tb.cells
       simp only at k0' k1' k2' m0' m1' m2' e0' e1' e2' z0' z1' z2' z3' z4'
       clear hc hr2 hr3 hb2 hbx hba hWq HL7 HW1
       go_wp2_with fail
       rw [xU HWQ]
       clear HWQ lk lm lt ln
       clear k0 k1 k2 m0 m1 m2 e0 e1 e2 z0 z1 z2 z3 z4
       clear k0' k1' k2' m0' m1' m2' e0' e1' e2' z0' z1' z2' z3' z4'
       refine (xU HWX W8 (xU HL8)).mono ?_
       intro e w9 hc
       obtain ⟨dw,rfl,hr2,hb2⟩:=hc.rep
       simp only [wAn,Option.getD_some,Option.isSome_some] at hr2 ⊢
       have HL9:=xH ((xU HL8).on hb2)
       replace HBX:=xH ((xU HBX).on hb2)
       have hr3:=Rep.carry (w:=w9) (w':=w9) (Q:=fun y=>y < w9.heap.size) (fun _ _=>rfl) (fun y hy=>hy.2) _ _ hr2
       obtain ⟨p1,pap1,p2,pap2,rfl⟩:=rep_form5 hr3
       have hbx:=TB6.start (xU HL9).l.kb.below hr3
       have hba:=(Below.refl w9.heap.size w9).alloc (Nat.le_refl _) (.cells #[.int .i64 v.sort,.int .i64 v.num,.string v.text,.slice p1 v.names.length pap1,.slice p2 v.kids.length pap2] 29)
       obtain ⟨W9,hWq⟩:∃ W9,w9.alloc (.cells #[.int .i64 v.sort,.int .i64 v.num,.string v.text,.slice p1 v.names.length pap1,.slice p2 v.kids.length pap2] 29)=W9:=⟨_,rfl⟩
       rw [hWq] at hbx hba
       have HL10:=xH ((xU HL9).on hba)
       have lk:=(xU HL9).l.kb.box.lt;have lm:=(xU HL9).l.mb.box.lt;have lt:=(xU HL9).l.tb.box.lt;have ln:=(xU HL9).nb.box.lt
       obtain ⟨k0,k1,k2⟩:=(xU HL9).l.kb.cells
       obtain ⟨m0,m1,m2⟩:=(xU HL9).l.mb.cells
       obtain ⟨e0,e1,e2⟩:=(xU HL9).nb.cells
       obtain ⟨z0,z1,z2,z3,z4⟩:=(xU HL9).l.tb.cells
       simp only at k0 k1 k2 m0 m1 m2 e0 e1 e2 z0 z1 z2 z3 z4
       have HBY:=xH hbx;have HWQ:=xH hWq
       replace HBX:=xH ((xU HBX).on hba)
       obtain ⟨k0',k1',k2'⟩:=(xU HL10).l.kb.cells
       obtain ⟨m0',m1',m2'⟩:=(xU HL10).l.mb.cells
       obtain ⟨e0',e1',e2'⟩:=(xU HL10).nb.cells
       obtain ⟨z0',z1',z2',z3',z4'⟩:=(xU HL10).l.tb.cells
       simp only at k0' k1' k2' m0' m1' m2' e0' e1' e2' z0' z1' z2' z3' z4'
       obtain ⟨y0,y1,y2,y3,y4⟩:=(xU HBY).cells
       simp only at y0 y1 y2 y3 y4
       clear hc hr2 hr3 hb2 hbx hba hWq HL9 HWX
       go_wp2_with fail
       rw [xU HWQ]
       clear HWQ lk lm lt ln
       clear k0 k1 k2 m0 m1 m2 e0 e1 e2 z0 z1 z2 z3 z4
       clear k0' k1' k2' m0' m1' m2' e0' e1' e2' z0' z1' z2' z3' z4'
       clear y0 y1 y2 y3 y4
       refine (xU HW3 _ ⟨.int .i64 v.sort,.int .i64 v.num,.string v.text,.slice p1 v.names.length pap1,.slice p2 v.kids.length pap2⟩ W9 (xU HL10) (xU HBY)).mono ?_
       intro e wa hc
       obtain ⟨dw,rfl,hr2,hb2⟩:=hc.rep
       simp only [wAn,Option.getD_some,Option.isSome_some] at hr2 ⊢
       have HL11:=xH ((xU HL10).on hb2)
       replace HBX:=xH ((xU HBX).on hb2)
       replace HBY:=xH ((xU HBY).on hb2)
       have hr3:=Rep.carry (w:=wa) (w':=wa) (Q:=fun y=>y < wa.heap.size) (fun _ _=>rfl) (fun y hy=>hy.2) _ _ hr2
       obtain ⟨h1,hap1,h2,hap2,rfl⟩:=rep_form5 hr3
       have hbx:=TB6.start (xU HL11).l.kb.below hr3
       have hba:=(Below.refl wa.heap.size wa).alloc (Nat.le_refl _) (.cells #[.int .i64 u.sort,.int .i64 u.num,.string u.text,.slice h1 u.names.length hap1,.slice h2 u.kids.length hap2] 29)
       obtain ⟨WA,hWq⟩:∃ WA,wa.alloc (.cells #[.int .i64 u.sort,.int .i64 u.num,.string u.text,.slice h1 u.names.length hap1,.slice h2 u.kids.length hap2] 29)=WA:=⟨_,rfl⟩
       rw [hWq] at hbx hba
       have HL12:=xH ((xU HL11).on hba)
       have lk:=(xU HL11).l.kb.box.lt;have lm:=(xU HL11).l.mb.box.lt;have lt:=(xU HL11).l.tb.box.lt;have ln:=(xU HL11).nb.box.lt
       obtain ⟨k0,k1,k2⟩:=(xU HL11).l.kb.cells
       obtain ⟨m0,m1,m2⟩:=(xU HL11).l.mb.cells
       obtain ⟨e0,e1,e2⟩:=(xU HL11).nb.cells
       obtain ⟨z0,z1,z2,z3,z4⟩:=(xU HL11).l.tb.cells
       simp only at k0 k1 k2 m0 m1 m2 e0 e1 e2 z0 z1 z2 z3 z4
       have HBZ:=xH hbx;have HWQ:=xH hWq
       obtain ⟨j0,j1,j2,j3,j4⟩:=(xU HBX).cells
       simp only at j0 j1 j2 j3 j4
       have lx:=(xU HBX).box.lt
       replace HBX:=xH ((xU HBX).on hba)
       replace HBY:=xH ((xU HBY).on hba)
       clear hc hr2 hr3 hb2 hbx hba hWq HL11 HW3
       go_wp2_with fail
       rw [xU HWQ]
       clear HWQ lk lm lt ln
       clear k0 k1 k2 m0 m1 m2 e0 e1 e2 z0 z1 z2 z3 z4
       clear lx
       refine (xU HTT u _ _ ⟨.int .i64 u.sort,.int .i64 u.num,.string u.text,.slice s1 u.names.length sap1,.slice s2 u.kids.length sap2⟩ ⟨.int .i64 u.sort,.int .i64 u.num,.string u.text,.slice h1 u.names.length hap1,.slice h2 u.kids.length hap2⟩ WA (xU HBX) (xU HBZ)).mono ?_
       rintro e wb ⟨rfl,hb2⟩
       have HB:=xH ((xU HL12).on hb2).l.kb.below
       clear hb2 HL12
       clear j0 j1 j2 j3 j4
       go_wp2_with fail
       go_ret
       exact ⟨rfl,xU HB⟩
     · simp only [f1] at hsf hif
       simp only [f2] at hsg hig
       simp only [f3] at hih
       simp only [o1] at hw1
       simp only [o2] at hw2
       obtain ⟨q,hq⟩:∃ q,tr0=q:=⟨_,rfl⟩
       have hwq:wAn none=q:=hq
       have hw3:=hw3 v
       simp only [o3] at hw3
       have HSF:=xH hsf;have HSG:=xH hsg;have HIF:=xH hif;have HIG:=xH hig;have HIH:=xH hih;have HW1:=xH hw1;have HWX:=xH hw2;have HW3:=xH hw3
       have HWQ0:=xH hwq
       clear hq hwq
       clear hsf hsg hif hig hih hw1 hw2 hw3 hwk hwm hwn2 hd hs hlen hlenr hdr hsr f1
       clear f2
       clear f3 o1 o2 o3
       have HL1:=HL7
       clear HL7
       go_wp2_with fail
       rw [xU HW2]
       clear HW2 lk lm k0 k1 k2 m0 m1 m2
       refine (xU HSF W2 (xU HL1)).mono ?_
       rintro e w3 ⟨rfl,hb2⟩
       have HL2:=xH ((xU HL1).on hb2)
       obtain ⟨k0,k1,k2⟩:=(xU HL2).l.kb.cells
       obtain ⟨m0,m1,m2⟩:=(xU HL2).l.mb.cells
       obtain ⟨e0,e1,e2⟩:=(xU HL2).nb.cells
       obtain ⟨z0,z1,z2,z3,z4⟩:=(xU HL2).l.tb.cells
       simp only at k0 k1 k2 m0 m1 m2 e0 e1 e2 z0 z1 z2 z3 z4
       clear hb2 HL1
       go_wp2_with fail
       clear k0 k1 k2 m0 m1 m2 e0 e1 e2 z0 z1 z2 z3 z4
       refine (xU HSG w3 (xU HL2)).mono ?_
       rintro e w4 ⟨rfl,hb2⟩
       have HL3:=xH ((xU HL2).on hb2)
       obtain ⟨k0,k1,k2⟩:=(xU HL3).l.kb.cells
       obtain ⟨m0,m1,m2⟩:=(xU HL3).l.mb.cells
       obtain ⟨e0,e1,e2⟩:=(xU HL3).nb.cells
       obtain ⟨z0,z1,z2,z3,z4⟩:=(xU HL3).l.tb.cells
       simp only at k0 k1 k2 m0 m1 m2 e0 e1 e2 z0 z1 z2 z3 z4
       clear hb2 HL2
       go_wp2_with fail
       clear k0 k1 k2 m0 m1 m2 e0 e1 e2 z0 z1 z2 z3 z4
       refine (xU HIF w4 (xU HL3)).mono ?_
       rintro e w5 ⟨rfl,hb2⟩
       have HL4:=xH ((xU HL3).on hb2)
       obtain ⟨k0,k1,k2⟩:=(xU HL4).l.kb.cells
       obtain ⟨m0,m1,m2⟩:=(xU HL4).l.mb.cells
       obtain ⟨e0,e1,e2⟩:=(xU HL4).nb.cells
       obtain ⟨z0,z1,z2,z3,z4⟩:=(xU HL4).l.tb.cells
       simp only at k0 k1 k2 m0 m1 m2 e0 e1 e2 z0 z1 z2 z3 z4
       clear hb2 HL3
       go_wp2_with fail
       clear k0 k1 k2 m0 m1 m2 e0 e1 e2 z0 z1 z2 z3 z4
       refine (xU HIG w5 (xU HL4)).mono ?_
       rintro e w6 ⟨rfl,hb2⟩
       have HL5:=xH ((xU HL4).on hb2)
       obtain ⟨k0,k1,k2⟩:=(xU HL5).l.kb.cells
       obtain ⟨m0,m1,m2⟩:=(xU HL5).l.mb.cells
       obtain ⟨e0,e1,e2⟩:=(xU HL5).nb.cells
       obtain ⟨z0,z1,z2,z3,z4⟩:=(xU HL5).l.tb.cells
       simp only at k0 k1 k2 m0 m1 m2 e0 e1 e2 z0 z1 z2 z3 z4
       clear hb2 HL4
       go_wp2_with fail
       clear k0 k1 k2 m0 m1 m2 e0 e1 e2 z0 z1 z2 z3 z4
       refine (xU HIH w6 (xU HL5)).mono ?_
       rintro e w7 ⟨rfl,hb2⟩
       have HL6:=xH ((xU HL5).on hb2)
       obtain ⟨k0,k1,k2⟩:=(xU HL6).l.kb.cells
       obtain ⟨m0,m1,m2⟩:=(xU HL6).l.mb.cells
       obtain ⟨e0,e1,e2⟩:=(xU HL6).nb.cells
       obtain ⟨z0,z1,z2,z3,z4⟩:=(xU HL6).l.tb.cells
       simp only at k0 k1 k2 m0 m1 m2 e0 e1 e2 z0 z1 z2 z3 z4
       clear hb2 HL5
       go_wp2_with fail
       clear k0 k1 k2 m0 m1 m2 e0 e1 e2 z0 z1 z2 z3 z4
       refine (xU HW1 w7 (xU HL6)).mono ?_
       intro e w8 hc
       obtain ⟨dw,rfl,hr2,hb2⟩:=hc.rep
       rw [xU HWQ0] at hr2
       simp only [Option.isSome_none]
       have HL7:=xH ((xU HL6).on hb2)
       have hr3:=Rep.carry (w:=w8) (w':=w8) (Q:=fun y=>y < w8.heap.size) (fun _ _=>rfl) (fun y hy=>hy.2) _ _ hr2
       obtain ⟨s1,sap1,s2,sap2,rfl⟩:=rep_form5 hr3
       have hbx:=TB6.start (xU HL7).l.kb.below hr3
       have hba:=(Below.refl w8.heap.size w8).alloc (Nat.le_refl _) (.cells #[.int .i64 q.sort,.int .i64 q.num,.string q.text,.slice s1 q.names.length sap1,.slice s2 q.kids.length sap2] 29)
       obtain ⟨W8,hWq⟩:∃ W8,w8.alloc (.cells #[.int .i64 q.sort,.int .i64 q.num,.string q.text,.slice s1 q.names.length sap1,.slice s2 q.kids.length sap2] 29)=W8:=⟨_,rfl⟩
       rw [hWq] at hbx hba
       have HL8:=xH ((xU HL7).on hba)
       have lk:=(xU HL7).l.kb.box.lt;have lm:=(xU HL7).l.mb.box.lt;have lt:=(xU HL7).l.tb.box.lt;have ln:=(xU HL7).nb.box.lt
       obtain ⟨k0,k1,k2⟩:=(xU HL7).l.kb.cells
       obtain ⟨m0,m1,m2⟩:=(xU HL7).l.mb.cells
       obtain ⟨e0,e1,e2⟩:=(xU HL7).nb.cells
       obtain ⟨z0,z1,z2,z3,z4⟩:=(xU HL7).l.tb.cells
       simp only at k0 k1 k2 m0 m1 m2 e0 e1 e2 z0 z1 z2 z3 z4
       have HBX:=xH hbx;have HWQ:=xH hWq
       obtain ⟨k0',k1',k2'⟩:=(xU HL8).l.kb.cells
       obtain ⟨m0',m1',m2'⟩:=(xU HL8).l.mb.cells
       obtain ⟨e0',e1',e2'⟩:=(xU HL8).nb.cells
       obtain ⟨z0',z1',z2',z3',z4'⟩:=(xU HL8).l.tb.cells
       simp only at k0' k1' k2' m0' m1' m2' e0' e1' e2' z0' z1' z2' z3' z4'
       clear hc hr2 hr3 hb2 hbx hba hWq HL7 HW1
       go_wp2_with fail
       rw [xU HWQ]
       clear HWQ lk lm lt ln
       clear k0 k1 k2 m0 m1 m2 e0 e1 e2 z0 z1 z2 z3 z4
       clear k0' k1' k2' m0' m1' m2' e0' e1' e2' z0' z1' z2' z3' z4'
       refine (xU HWX W8 (xU HL8)).mono ?_
       intro e w9 hc
       obtain ⟨dw,rfl,hr2,hb2⟩:=hc.rep
       simp only [wAn,Option.getD_some,Option.isSome_some] at hr2 ⊢
       have HL9:=xH ((xU HL8).on hb2)
       replace HBX:=xH ((xU HBX).on hb2)
       have hr3:=Rep.carry (w:=w9) (w':=w9) (Q:=fun y=>y < w9.heap.size) (fun _ _=>rfl) (fun y hy=>hy.2) _ _ hr2
       obtain ⟨p1,pap1,p2,pap2,rfl⟩:=rep_form5 hr3
       have hbx:=TB6.start (xU HL9).l.kb.below hr3
       have hba:=(Below.refl w9.heap.size w9).alloc (Nat.le_refl _) (.cells #[.int .i64 v.sort,.int .i64 v.num,.string v.text,.slice p1 v.names.length pap1,.slice p2 v.kids.length pap2] 29)
       obtain ⟨W9,hWq⟩:∃ W9,w9.alloc (.cells #[.int .i64 v.sort,.int .i64 v.num,.string v.text,.slice p1 v.names.length pap1,.slice p2 v.kids.length pap2] 29)=W9:=⟨_,rfl⟩
       rw [hWq] at hbx hba
       have HL10:=xH ((xU HL9).on hba)
       have lk:=(xU HL9).l.kb.box.lt;have lm:=(xU HL9).l.mb.box.lt;have lt:=(xU HL9).l.tb.box.lt;have ln:=(xU HL9).nb.box.lt
       obtain ⟨k0,k1,k2⟩:=(xU HL9).l.kb.cells
       obtain ⟨m0,m1,m2⟩:=(xU HL9).l.mb.cells
       obtain ⟨e0,e1,e2⟩:=(xU HL9).nb.cells
       obtain ⟨z0,z1,z2,z3,z4⟩:=(xU HL9).l.tb.cells
       simp only at k0 k1 k2 m0 m1 m2 e0 e1 e2 z0 z1 z2 z3 z4
       have HBY:=xH hbx;have HWQ:=xH hWq
       replace HBX:=xH ((xU HBX).on hba)
       obtain ⟨k0',k1',k2'⟩:=(xU HL10).l.kb.cells
       obtain ⟨m0',m1',m2'⟩:=(xU HL10).l.mb.cells
       obtain ⟨e0',e1',e2'⟩:=(xU HL10).nb.cells
       obtain ⟨z0',z1',z2',z3',z4'⟩:=(xU HL10).l.tb.cells
       simp only at k0' k1' k2' m0' m1' m2' e0' e1' e2' z0' z1' z2' z3' z4'
       obtain ⟨y0,y1,y2,y3,y4⟩:=(xU HBY).cells
       simp only at y0 y1 y2 y3 y4
       clear hc hr2 hr3 hb2 hbx hba hWq HL9 HWX
       go_wp2_with fail
       rw [xU HWQ]
       clear HWQ lk lm lt ln
       clear k0 k1 k2 m0 m1 m2 e0 e1 e2 z0 z1 z2 z3 z4
       clear k0' k1' k2' m0' m1' m2' e0' e1' e2' z0' z1' z2' z3' z4'
       clear y0 y1 y2 y3 y4
       refine (xU HW3 _ ⟨.int .i64 v.sort,.int .i64 v.num,.string v.text,.slice p1 v.names.length pap1,.slice p2 v.kids.length pap2⟩ W9 (xU HL10) (xU HBY)).mono ?_
       intro e wa hc
       obtain ⟨dw,rfl,hr2,hb2⟩:=hc.rep
       rw [xU HWQ0] at hr2
       simp only [Option.isSome_none]
       have HL11:=xH ((xU HL10).on hb2)
       replace HBX:=xH ((xU HBX).on hb2)
       replace HBY:=xH ((xU HBY).on hb2)
       have hr3:=Rep.carry (w:=wa) (w':=wa) (Q:=fun y=>y < wa.heap.size) (fun _ _=>rfl) (fun y hy=>hy.2) _ _ hr2
       obtain ⟨h1,hap1,h2,hap2,rfl⟩:=rep_form5 hr3
       have hbx:=TB6.start (xU HL11).l.kb.below hr3
       have hba:=(Below.refl wa.heap.size wa).alloc (Nat.le_refl _) (.cells #[.int .i64 q.sort,.int .i64 q.num,.string q.text,.slice h1 q.names.length hap1,.slice h2 q.kids.length hap2] 29)
       obtain ⟨WA,hWq⟩:∃ WA,wa.alloc (.cells #[.int .i64 q.sort,.int .i64 q.num,.string q.text,.slice h1 q.names.length hap1,.slice h2 q.kids.length hap2] 29)=WA:=⟨_,rfl⟩
       rw [hWq] at hbx hba
       have HL12:=xH ((xU HL11).on hba)
       have lk:=(xU HL11).l.kb.box.lt;have lm:=(xU HL11).l.mb.box.lt;have lt:=(xU HL11).l.tb.box.lt;have ln:=(xU HL11).nb.box.lt
       obtain ⟨k0,k1,k2⟩:=(xU HL11).l.kb.cells
       obtain ⟨m0,m1,m2⟩:=(xU HL11).l.mb.cells
       obtain ⟨e0,e1,e2⟩:=(xU HL11).nb.cells
       obtain ⟨z0,z1,z2,z3,z4⟩:=(xU HL11).l.tb.cells
       simp only at k0 k1 k2 m0 m1 m2 e0 e1 e2 z0 z1 z2 z3 z4
       have HBZ:=xH hbx;have HWQ:=xH hWq
       obtain ⟨j0,j1,j2,j3,j4⟩:=(xU HBX).cells
       simp only at j0 j1 j2 j3 j4
       have lx:=(xU HBX).box.lt
       replace HBX:=xH ((xU HBX).on hba)
       replace HBY:=xH ((xU HBY).on hba)
       clear hc hr2 hr3 hb2 hbx hba hWq HL11 HW3
       go_wp2_with fail
       rw [xU HWQ]
       clear HWQ lk lm lt ln
       clear k0 k1 k2 m0 m1 m2 e0 e1 e2 z0 z1 z2 z3 z4
       clear lx
       refine (xU HTT q _ _ ⟨.int .i64 q.sort,.int .i64 q.num,.string q.text,.slice s1 q.names.length sap1,.slice s2 q.kids.length sap2⟩ ⟨.int .i64 q.sort,.int .i64 q.num,.string q.text,.slice h1 q.names.length hap1,.slice h2 q.kids.length hap2⟩ WA (xU HBX) (xU HBZ)).mono ?_
       rintro e wb ⟨rfl,hb2⟩
       have HB:=xH ((xU HL12).on hb2).l.kb.below
       clear hb2 HL12
       clear j0 j1 j2 j3 j4
       go_wp2_with fail
       go_ret
       exact ⟨rfl,xU HB⟩
     · simp only [f1] at hsf hif
       simp only [f2] at hsg hig
       simp only [f3] at hih
       simp only [o1] at hw1
       simp only [o2] at hw2
       obtain ⟨q,hq⟩:∃ q,tr0=q:=⟨_,rfl⟩
       have hwq:wAn none=q:=hq
       rw [hq] at o3
       have hw3:=hw3 q
       simp only [o3] at hw3
       have HSF:=xH hsf;have HSG:=xH hsg;have HIF:=xH hif;have HIG:=xH hig;have HIH:=xH hih;have HW1:=xH hw1;have HWX:=xH hw2;have HW3:=xH hw3
       have HWQ0:=xH hwq
       clear hq hwq
       clear hsf hsg hif hig hih hw1 hw2 hw3 hwk hwm hwn2 hd hs hlen hlenr hdr hsr f1
       clear f2
       clear f3 o1 o2 o3
       have HL1:=HL7
       clear HL7
       go_wp2_with fail
       rw [xU HW2]
       clear HW2 lk lm k0 k1 k2 m0 m1 m2
       refine (xU HSF W2 (xU HL1)).mono ?_
       rintro e w3 ⟨rfl,hb2⟩
       have HL2:=xH ((xU HL1).on hb2)
       obtain ⟨k0,k1,k2⟩:=(xU HL2).l.kb.cells
       obtain ⟨m0,m1,m2⟩:=(xU HL2).l.mb.cells
       obtain ⟨e0,e1,e2⟩:=(xU HL2).nb.cells
       obtain ⟨z0,z1,z2,z3,z4⟩:=(xU HL2).l.tb.cells
       simp only at k0 k1 k2 m0 m1 m2 e0 e1 e2 z0 z1 z2 z3 z4
       clear hb2 HL1
       go_wp2_with fail
       clear k0 k1 k2 m0 m1 m2 e0 e1 e2 z0 z1 z2 z3 z4
       refine (xU HSG w3 (xU HL2)).mono ?_
       rintro e w4 ⟨rfl,hb2⟩
       have HL3:=xH ((xU HL2).on hb2)
       obtain ⟨k0,k1,k2⟩:=(xU HL3).l.kb.cells
       obtain ⟨m0,m1,m2⟩:=(xU HL3).l.mb.cells
       obtain ⟨e0,e1,e2⟩:=(xU HL3).nb.cells
       obtain ⟨z0,z1,z2,z3,z4⟩:=(xU HL3).l.tb.cells
       simp only at k0 k1 k2 m0 m1 m2 e0 e1 e2 z0 z1 z2 z3 z4
       clear hb2 HL2
       go_wp2_with fail
       clear k0 k1 k2 m0 m1 m2 e0 e1 e2 z0 z1 z2 z3 z4
       refine (xU HIF w4 (xU HL3)).mono ?_
       rintro e w5 ⟨rfl,hb2⟩
       have HL4:=xH ((xU HL3).on hb2)
       obtain ⟨k0,k1,k2⟩:=(xU HL4).l.kb.cells
       obtain ⟨m0,m1,m2⟩:=(xU HL4).l.mb.cells
       obtain ⟨e0,e1,e2⟩:=(xU HL4).nb.cells
       obtain ⟨z0,z1,z2,z3,z4⟩:=(xU HL4).l.tb.cells
       simp only at k0 k1 k2 m0 m1 m2 e0 e1 e2 z0 z1 z2 z3 z4
       clear hb2 HL3
       go_wp2_with fail
       clear k0 k1 k2 m0 m1 m2 e0 e1 e2 z0 z1 z2 z3 z4
       refine (xU HIG w5 (xU HL4)).mono ?_
       rintro e w6 ⟨rfl,hb2⟩
       have HL5:=xH ((xU HL4).on hb2)
       obtain ⟨k0,k1,k2⟩:=(xU HL5).l.kb.cells
       obtain ⟨m0,m1,m2⟩:=(xU HL5).l.mb.cells
       obtain ⟨e0,e1,e2⟩:=(xU HL5).nb.cells
       obtain ⟨z0,z1,z2,z3,z4⟩:=(xU HL5).l.tb.cells
       simp only at k0 k1 k2 m0 m1 m2 e0 e1 e2 z0 z1 z2 z3 z4
       clear hb2 HL4
       go_wp2_with fail
       clear k0 k1 k2 m0 m1 m2 e0 e1 e2 z0 z1 z2 z3 z4
       refine (xU HIH w6 (xU HL5)).mono ?_
       rintro e w7 ⟨rfl,hb2⟩
       have HL6:=xH ((xU HL5).on hb2)
       obtain ⟨k0,k1,k2⟩:=(xU HL6).l.kb.cells
       obtain ⟨m0,m1,m2⟩:=(xU HL6).l.mb.cells
       obtain ⟨e0,e1,e2⟩:=(xU HL6).nb.cells
       obtain ⟨z0,z1,z2,z3,z4⟩:=(xU HL6).l.tb.cells
       simp only at k0 k1 k2 m0 m1 m2 e0 e1 e2 z0 z1 z2 z3 z4
       clear hb2 HL5
       go_wp2_with fail
       clear k0 k1 k2 m0 m1 m2 e0 e1 e2 z0 z1 z2 z3 z4
       refine (xU HW1 w7 (xU HL6)).mono ?_
       intro e w8 hc
       obtain ⟨dw,rfl,hr2,hb2⟩:=hc.rep
       rw [xU HWQ0] at hr2
       simp only [Option.isSome_none]
       have HL7:=xH ((xU HL6).on hb2)
       have hr3:=Rep.carry (w:=w8) (w':=w8) (Q:=fun y=>y < w8.heap.size) (fun _ _=>rfl) (fun y hy=>hy.2) _ _ hr2
       obtain ⟨s1,sap1,s2,sap2,rfl⟩:=rep_form5 hr3
       have hbx:=TB6.start (xU HL7).l.kb.below hr3
       have hba:=(Below.refl w8.heap.size w8).alloc (Nat.le_refl _) (.cells #[.int .i64 q.sort,.int .i64 q.num,.string q.text,.slice s1 q.names.length sap1,.slice s2 q.kids.length sap2] 29)
       obtain ⟨W8,hWq⟩:∃ W8,w8.alloc (.cells #[.int .i64 q.sort,.int .i64 q.num,.string q.text,.slice s1 q.names.length sap1,.slice s2 q.kids.length sap2] 29)=W8:=⟨_,rfl⟩
       rw [hWq] at hbx hba
       have HL8:=xH ((xU HL7).on hba)
       have lk:=(xU HL7).l.kb.box.lt;have lm:=(xU HL7).l.mb.box.lt;have lt:=(xU HL7).l.tb.box.lt;have ln:=(xU HL7).nb.box.lt
       obtain ⟨k0,k1,k2⟩:=(xU HL7).l.kb.cells
       obtain ⟨m0,m1,m2⟩:=(xU HL7).l.mb.cells
       obtain ⟨e0,e1,e2⟩:=(xU HL7).nb.cells
       obtain ⟨z0,z1,z2,z3,z4⟩:=(xU HL7).l.tb.cells
       simp only at k0 k1 k2 m0 m1 m2 e0 e1 e2 z0 z1 z2 z3 z4
       have HBX:=xH hbx;have HWQ:=xH hWq
       obtain ⟨k0',k1',k2'⟩:=(xU HL8).l.kb.cells
       obtain ⟨m0',m1',m2'⟩:=(xU HL8).l.mb.cells
       obtain ⟨e0',e1',e2'⟩:=(xU HL8).nb.cells
       obtain ⟨z0',z1',z2',z3',z4'⟩:=(xU HL8).l.tb.cells
       simp only at k0' k1' k2' m0' m1' m2' e0' e1' e2' z0' z1' z2' z3' z4'
       clear hc hr2 hr3 hb2 hbx hba hWq HL7 HW1
       go_wp2_with fail
       rw [xU HWQ]
       clear HWQ lk lm lt ln
       clear k0 k1 k2 m0 m1 m2 e0 e1 e2 z0 z1 z2 z3 z4
       clear k0' k1' k2' m0' m1' m2' e0' e1' e2' z0' z1' z2' z3' z4'
       refine (xU HWX W8 (xU HL8)).mono ?_
       intro e w9 hc
       obtain ⟨dw,rfl,hr2,hb2⟩:=hc.rep
       rw [xU HWQ0] at hr2
       simp only [Option.isSome_none]
       have HL9:=xH ((xU HL8).on hb2)
       replace HBX:=xH ((xU HBX).on hb2)
       have hr3:=Rep.carry (w:=w9) (w':=w9) (Q:=fun y=>y < w9.heap.size) (fun _ _=>rfl) (fun y hy=>hy.2) _ _ hr2
       obtain ⟨p1,pap1,p2,pap2,rfl⟩:=rep_form5 hr3
       have hbx:=TB6.start (xU HL9).l.kb.below hr3
       have hba:=(Below.refl w9.heap.size w9).alloc (Nat.le_refl _) (.cells #[.int .i64 q.sort,.int .i64 q.num,.string q.text,.slice p1 q.names.length pap1,.slice p2 q.kids.length pap2] 29)
       obtain ⟨W9,hWq⟩:∃ W9,w9.alloc (.cells #[.int .i64 q.sort,.int .i64 q.num,.string q.text,.slice p1 q.names.length pap1,.slice p2 q.kids.length pap2] 29)=W9:=⟨_,rfl⟩
       rw [hWq] at hbx hba
       have HL10:=xH ((xU HL9).on hba)
       have lk:=(xU HL9).l.kb.box.lt;have lm:=(xU HL9).l.mb.box.lt;have lt:=(xU HL9).l.tb.box.lt;have ln:=(xU HL9).nb.box.lt
       obtain ⟨k0,k1,k2⟩:=(xU HL9).l.kb.cells
       obtain ⟨m0,m1,m2⟩:=(xU HL9).l.mb.cells
       obtain ⟨e0,e1,e2⟩:=(xU HL9).nb.cells
       obtain ⟨z0,z1,z2,z3,z4⟩:=(xU HL9).l.tb.cells
       simp only at k0 k1 k2 m0 m1 m2 e0 e1 e2 z0 z1 z2 z3 z4
       have HBY:=xH hbx;have HWQ:=xH hWq
       replace HBX:=xH ((xU HBX).on hba)
       obtain ⟨k0',k1',k2'⟩:=(xU HL10).l.kb.cells
       obtain ⟨m0',m1',m2'⟩:=(xU HL10).l.mb.cells
       obtain ⟨e0',e1',e2'⟩:=(xU HL10).nb.cells
       obtain ⟨z0',z1',z2',z3',z4'⟩:=(xU HL10).l.tb.cells
       simp only at k0' k1' k2' m0' m1' m2' e0' e1' e2' z0' z1' z2' z3' z4'
       obtain ⟨y0,y1,y2,y3,y4⟩:=(xU HBY).cells
       simp only at y0 y1 y2 y3 y4
       clear hc hr2 hr3 hb2 hbx hba hWq HL9 HWX
       go_wp2_with fail
       rw [xU HWQ]
       clear HWQ lk lm lt ln
       clear k0 k1 k2 m0 m1 m2 e0 e1 e2 z0 z1 z2 z3 z4
       clear k0' k1' k2' m0' m1' m2' e0' e1' e2' z0' z1' z2' z3' z4'
       clear y0 y1 y2 y3 y4
       refine (xU HW3 _ ⟨.int .i64 q.sort,.int .i64 q.num,.string q.text,.slice p1 q.names.length pap1,.slice p2 q.kids.length pap2⟩ W9 (xU HL10) (xU HBY)).mono ?_
       intro e wa hc
       obtain ⟨dw,rfl,hr2,hb2⟩:=hc.rep
       rw [xU HWQ0] at hr2
       simp only [Option.isSome_none]
       have HL11:=xH ((xU HL10).on hb2)
       replace HBX:=xH ((xU HBX).on hb2)
       replace HBY:=xH ((xU HBY).on hb2)
       have hr3:=Rep.carry (w:=wa) (w':=wa) (Q:=fun y=>y < wa.heap.size) (fun _ _=>rfl) (fun y hy=>hy.2) _ _ hr2
       obtain ⟨h1,hap1,h2,hap2,rfl⟩:=rep_form5 hr3
       have hbx:=TB6.start (xU HL11).l.kb.below hr3
       have hba:=(Below.refl wa.heap.size wa).alloc (Nat.le_refl _) (.cells #[.int .i64 q.sort,.int .i64 q.num,.string q.text,.slice h1 q.names.length hap1,.slice h2 q.kids.length hap2] 29)
       obtain ⟨WA,hWq⟩:∃ WA,wa.alloc (.cells #[.int .i64 q.sort,.int .i64 q.num,.string q.text,.slice h1 q.names.length hap1,.slice h2 q.kids.length hap2] 29)=WA:=⟨_,rfl⟩
       rw [hWq] at hbx hba
       have HL12:=xH ((xU HL11).on hba)
       have lk:=(xU HL11).l.kb.box.lt;have lm:=(xU HL11).l.mb.box.lt;have lt:=(xU HL11).l.tb.box.lt;have ln:=(xU HL11).nb.box.lt
       obtain ⟨k0,k1,k2⟩:=(xU HL11).l.kb.cells
       obtain ⟨m0,m1,m2⟩:=(xU HL11).l.mb.cells
       obtain ⟨e0,e1,e2⟩:=(xU HL11).nb.cells
       obtain ⟨z0,z1,z2,z3,z4⟩:=(xU HL11).l.tb.cells
       simp only at k0 k1 k2 m0 m1 m2 e0 e1 e2 z0 z1 z2 z3 z4
       have HBZ:=xH hbx;have HWQ:=xH hWq
       obtain ⟨j0,j1,j2,j3,j4⟩:=(xU HBX).cells
       simp only at j0 j1 j2 j3 j4
       have lx:=(xU HBX).box.lt
       replace HBX:=xH ((xU HBX).on hba)
       replace HBY:=xH ((xU HBY).on hba)
       clear hc hr2 hr3 hb2 hbx hba hWq HL11 HW3
       go_wp2_with fail
       rw [xU HWQ]
       clear HWQ lk lm lt ln
       clear k0 k1 k2 m0 m1 m2 e0 e1 e2 z0 z1 z2 z3 z4
       clear lx
       refine (xU HTT q _ _ ⟨.int .i64 q.sort,.int .i64 q.num,.string q.text,.slice s1 q.names.length sap1,.slice s2 q.kids.length sap2⟩ ⟨.int .i64 q.sort,.int .i64 q.num,.string q.text,.slice h1 q.names.length hap1,.slice h2 q.kids.length hap2⟩ WA (xU HBX) (xU HBZ)).mono ?_
       rintro e wb ⟨rfl,hb2⟩
       have HB:=xH ((xU HL12).on hb2).l.kb.below
       clear hb2 HL12
       clear j0 j1 j2 j3 j4
       go_wp2_with fail
       go_ret
       exact ⟨rfl,xU HB⟩
   · have hdr:decide ((1048576:Int) < (r.length:Int))=true:=by simp;omega
     go_enter Tryz.func4,Tryz.ntmps4
     go_wp2_with fail
     go_ret
     exact ⟨rfl,Below.refl _ _⟩
 · have hd:decide ((1048576:Int) < (l.length:Int))=true:=by simp;omega
   go_enter Tryz.func4,Tryz.ntmps4
   go_wp2_with fail
   go_ret
   exact ⟨rfl,Below.refl _ _⟩
end Go.Proofs.YteefjeddboefcaaGreatDoor

namespace Go.Proofs.YteefjeddboefcaaGreatDoor
open Go Go.RowKit Go.ChangeShapes Go.WideShapes Go.ChangeAt
theorem cellsU8:Tryz.prog.cellsOf 5=1:=by kernel_rfl
section
variable {H:Type} {enc:TypeId × Value→H} {W:World} {spare:Nat→Bool} {held:Bool}
theorem bytes_cap {fuel:Nat} {a:Option Addr} {len cap:Nat} {x:DataW H × List MemPlace} (h:DataW.trod enc Tryz.prog W 0 spare held fuel 22 [.slice a len cap]=some x):len≤cap:=by
 rcases open_ints Tryz.underlying22 Tryz.underlying5 cellsU8 h with ⟨hcs,-⟩ | ⟨a',len',cap',zs,hcs,-,hl,-⟩
 · simp only [List.cons.injEq,Value.slice.injEq,and_true] at hcs
   omega
 · simp only [List.cons.injEq,Value.slice.injEq,and_true] at hcs
   omega
theorem bytes_of_trod {fuel:Nat} {v:Value} {x:DataW H × List MemPlace} (h:DataW.trod enc Tryz.prog W 0 spare held fuel 22 [v]=some x) :
 ∃ l,BytesAt W v l:=by
 rcases open_ints Tryz.underlying22 Tryz.underlying5 cellsU8 h with ⟨hcs,-⟩ | ⟨a,len,cap,zs,hcs,-,hl,hm,hz,-,hcell,hws⟩
 · simp only [List.cons.injEq,and_true] at hcs
   exact ⟨[],none,0,hcs,by simp,fun i hi=>by simp at hi⟩
 · simp only [List.cons.injEq,and_true] at hcs
   have hle:len≤zs.length:=by rw [hz];split <;> omega
   unfold maxLen at hm
   have hlen:((zs.take len).map (fun z=>UInt8.ofNat z.toNat)).length=len:=by simp;omega
   refine ⟨(zs.take len).map (fun z=>UInt8.ofNat z.toNat),some a,cap,by rw [hcs,hlen],by rw [hlen];omega,fun i hi=>?_⟩
   have hi':i < len:=by rw [hlen] at hi;exact hi
   obtain ⟨b,off,spot⟩:=a
   have hspot:spot=none:=by simpa [Addr.add] using World.cell?_spot (hcell 0 (by omega))
   subst hspot
   have hc:=hcell i (by omega)
   rw [Addr.add_lit] at hc
   refine ⟨b,off,rfl,World.block_lt_of_cell? W _ hc,?_⟩
   have hb:=bounds_u8 (hws (zs[i]'(by omega)) (List.getElem_mem (by omega)))
   rw [hc]
   have e1:zs.getD i 0=zs[i]'(by omega):=by simp [show i < zs.length by omega]
   have e2:(((zs.take len).map (fun z=>UInt8.ofNat z.toNat))[i]'hi)=UInt8.ofNat (zs[i]'(by omega)).toNat:=by simp
   rw [e1,e2,show (UInt8.ofNat (zs[i]'(by omega)).toNat).toNat=(zs[i]'(by omega)).toNat from by simp;omega,show (((zs[i]'(by omega)).toNat:Nat):Int)=zs[i]'(by omega) from by omega]
end
end Go.Proofs.YteefjeddboefcaaGreatDoor

namespace Go.Proofs.YteefjeddboefcaaGreatDoor
open Go Go.RowKit Go.ChangeShapes Go.WideShapes Go.ChangeAt Go.Deep
theorem gTab:Tryz.prog.globalNamed "loop.example/teagle/impl.treeFields" = some 1:=by kernel_rfl
theorem gTabType:(Tryz.prog.globals[1]?).map (·.type)=some 172:=by kernel_rfl
theorem cellsHas:Tryz.prog.cellsOf 171=4:=by kernel_rfl
theorem cellsTab:Tryz.prog.cellsOf 172=28:=by kernel_rfl
theorem oneHas:∃ fs:Array Field,Tryz.prog.underlying 171=some (.struct fs)∧oneCellFields Tryz.prog fs=true∧fs.map (·.type)=#[4,4,4,4]:=⟨_,Tryz.underlying171,by kernel_rfl,by kernel_rfl⟩
section
variable {H:Type} {enc:TypeId × Value→H} {W:World} {spare:Nat→Bool} {held:Bool}
theorem has_of_trod {fuel:Nat} {cs:List Value} {x:DataW H × List MemPlace} (h:DataW.trod enc Tryz.prog W 0 spare held fuel 171 cs=some x) :
 ∃ b0 b1 b2 b3:Bool,cs=[.bool b0,.bool b1,.bool b2,.bool b3]∧x.1=.agg [.lit (.bool b0),.lit (.bool b1),.lit (.bool b2),.lit (.bool b3)]:=by
 obtain ⟨fs,hu,hone,hty⟩:=oneHas
 obtain ⟨xs,n,hn,hx,hlen,hxl,hf⟩:=DataW.trod_struct hu h
 rw [cellsHas] at hlen
 match cs,hlen with
 | [c0,c1,c2,c3],_ =>
   have hsz:fs.size=4:=by have:=congrArg Array.size hty;simpa using this
   have hfield:∀ (i:Nat),(hi:i < 4)→DataW.trod enc Tryz.prog W 0 spare held n 4 (([c0,c1,c2,c3].drop i).take 1)=some (xs[i]'(by omega)):=by
    intro i hi
    have hfi:fs[i]? = some (fs[i]'(by omega)):=Array.getElem?_eq_getElem (by omega)
    obtain ⟨ho,hc⟩:=hone_of hone i _ hfi
    have:=hf i _ hfi
    rw [ho,hc] at this
    have hTT:(fs[i]'(by omega)).type=4:=by
     have e:(fs.map (·.type))[i]? = some ((fs[i]'(by omega)).type):=by simp [hsz,hi]
     rw [hty] at e
     rcases (show i=0∨i=1∨i=2∨i=3 by omega) with rfl | rfl | rfl | rfl <;> simpa using e.symm
    rw [hTT] at this
    rw [this];exact List.getElem?_eq_getElem (by omega)
   obtain ⟨b0,e0,f0⟩:=DataW.trod_bool Tryz.underlying4 (hfield 0 (by omega))
   obtain ⟨b1,e1,f1⟩:=DataW.trod_bool Tryz.underlying4 (hfield 1 (by omega))
   obtain ⟨b2,e2,f2⟩:=DataW.trod_bool Tryz.underlying4 (hfield 2 (by omega))
   obtain ⟨b3,e3,f3⟩:=DataW.trod_bool Tryz.underlying4 (hfield 3 (by omega))
   simp only [List.drop_succ_cons,List.drop_zero,List.take_succ_cons,List.take_zero,List.cons.injEq,and_true] at e0 e1 e2 e3
   refine ⟨b0,b1,b2,b3,by rw [e0,e1,e2,e3],?_⟩
   obtain ⟨x0,x1,x2,x3,hxs⟩:∃ x0 x1 x2 x3,xs=[x0,x1,x2,x3]:=by
    match xs,hxl.trans hsz with
    | [x0,x1,x2,x3],_=>exact ⟨x0,x1,x2,x3,rfl⟩
   subst hxs
   simp only [List.getElem_cons_zero,List.getElem_cons_succ] at f0 f1 f2 f3
   rw [hx,f0,f1,f2,f3]
   rfl
end
theorem tab_of_laid {W:World} (h:laidMetH Tryz.prog [("loop.example/teagle/impl.treeFields", Rows.laid_loop_example_teagle_impl_treeFields)] W):Tab W:=by
 rw [MakeChecks.laidMetH_plain _ _ _ (by kernel_rfl)] at h
 obtain ⟨ps,⟨g0,t0,cs0,f0,p0,q0,hg0,ht0,hv0,hd0,_,_⟩,_,_⟩:=h
 obtain rfl:=Option.some.inj (gTab.symm.trans hg0)
 obtain rfl:=Option.some.inj (gTabType.symm.trans ht0)
 obtain ⟨xs,m,-,hx,hlen,hxl,hel⟩:=DataW.trod_array Tryz.underlying172 hd0
 rw [cellsHas] at hel
 rw [cellsTab] at hlen
 have hcell:=World.var?_cell hg0 hv0
 have key:∀ i,(hi:i < 7)→∃ b0 b1 b2 b3:Bool,(cs0.toList.drop (i * 4)).take 4=[.bool b0,.bool b1,.bool b2,.bool b3]∧(xs[i]'(by omega)).1=.agg [.lit (.bool b0),.lit (.bool b1),.lit (.bool b2),.lit (.bool b3)]:=fun i hi=>by
  have:=hel i hi
  rw [List.getElem?_eq_getElem (by omega)] at this
  exact has_of_trod this
 obtain ⟨x0,x1,x2,x3,x4,x5,x6,hxs⟩:∃ x0 x1 x2 x3 x4 x5 x6,xs=[x0,x1,x2,x3,x4,x5,x6]:=by
  match xs,hxl with
  | [x0,x1,x2,x3,x4,x5,x6],_=>exact ⟨x0,x1,x2,x3,x4,x5,x6,rfl⟩
 subst hxs
 simp only [Prod.mk.injEq,Rows.laid_loop_example_teagle_impl_treeFields,DataW.agg.injEq,List.map_cons,List.map_nil,List.cons.injEq,and_true] at hx
 obtain ⟨⟨g0,g1,g2,g3,g4,g5,g6⟩,-⟩:=hx
 obtain ⟨l⟩:=cs0
 simp only at hlen hcell key
 have cellk:∀ i j,j < 4→l[i * 4+j]? = ((l.drop (i * 4)).take 4)[j]? := fun i j hj=>by
  rw [List.getElem?_take_of_lt hj,List.getElem?_drop]
 obtain ⟨a0,a1,a2,a3,l0,d0⟩:=key 0 (by omega)
 simp only [List.getElem_cons_zero] at d0
 rw [d0] at g0
 simp only [DataW.agg.injEq,List.cons.injEq,DataW.lit.injEq,Lit.bool.injEq,and_true] at g0
 obtain ⟨rfl,rfl,rfl,rfl⟩:=g0
 obtain ⟨a0,a1,a2,a3,l1,d1⟩:=key 1 (by omega)
 simp only [List.getElem_cons_zero,List.getElem_cons_succ] at d1
 rw [d1] at g1
 simp only [DataW.agg.injEq,List.cons.injEq,DataW.lit.injEq,Lit.bool.injEq,and_true] at g1
 obtain ⟨rfl,rfl,rfl,rfl⟩:=g1
 obtain ⟨a0,a1,a2,a3,l2,d2⟩:=key 2 (by omega)
 simp only [List.getElem_cons_zero,List.getElem_cons_succ] at d2
 rw [d2] at g2
 simp only [DataW.agg.injEq,List.cons.injEq,DataW.lit.injEq,Lit.bool.injEq,and_true] at g2
 obtain ⟨rfl,rfl,rfl,rfl⟩:=g2
 obtain ⟨a0,a1,a2,a3,l3,d3⟩:=key 3 (by omega)
 simp only [List.getElem_cons_zero,List.getElem_cons_succ] at d3
 rw [d3] at g3
 simp only [DataW.agg.injEq,List.cons.injEq,DataW.lit.injEq,Lit.bool.injEq,and_true] at g3
 obtain ⟨rfl,rfl,rfl,rfl⟩:=g3
 obtain ⟨a0,a1,a2,a3,l4,d4⟩:=key 4 (by omega)
 simp only [List.getElem_cons_zero,List.getElem_cons_succ] at d4
 rw [d4] at g4
 simp only [DataW.agg.injEq,List.cons.injEq,DataW.lit.injEq,Lit.bool.injEq,and_true] at g4
 obtain ⟨rfl,rfl,rfl,rfl⟩:=g4
 obtain ⟨a0,a1,a2,a3,l5,d5⟩:=key 5 (by omega)
 simp only [List.getElem_cons_zero,List.getElem_cons_succ] at d5
 rw [d5] at g5
 simp only [DataW.agg.injEq,List.cons.injEq,DataW.lit.injEq,Lit.bool.injEq,and_true] at g5
 obtain ⟨rfl,rfl,rfl,rfl⟩:=g5
 obtain ⟨a0,a1,a2,a3,l6,d6⟩:=key 6 (by omega)
 simp only [List.getElem_cons_zero,List.getElem_cons_succ] at d6
 rw [d6] at g6
 simp only [DataW.agg.injEq,List.cons.injEq,DataW.lit.injEq,Lit.bool.injEq,and_true] at g6
 obtain ⟨rfl,rfl,rfl,rfl⟩:=g6
 have hc':∀ k,W.cell? ⟨1,k,none⟩=l[k]? := fun k=>(hcell k).trans (by simp)
 intro k hk
 rw [hc' k]
 have hcase:k=0∨k=1∨k=2∨k=3∨k=4∨k=5∨k=6∨k=7∨k=8∨k=9∨k=10∨k=11∨k=12∨k=13∨k=14∨k=15∨k=16∨k=17∨k=18∨k=19∨k=20∨k=21∨k=22∨k=23∨k=24∨k=25∨k=26∨k=27:=by omega
 rcases hcase with rfl | rfl | rfl | rfl | rfl | rfl | rfl | rfl | rfl | rfl | rfl | rfl | rfl | rfl | rfl | rfl | rfl | rfl | rfl | rfl | rfl | rfl | rfl | rfl | rfl | rfl | rfl | rfl
 · exact (cellk 0 0 (by omega)).trans (congrArg (fun q=>q[0]?) l0)
 · exact (cellk 0 1 (by omega)).trans (congrArg (fun q=>q[1]?) l0)
 · exact (cellk 0 2 (by omega)).trans (congrArg (fun q=>q[2]?) l0)
 · exact (cellk 0 3 (by omega)).trans (congrArg (fun q=>q[3]?) l0)
 · exact (cellk 1 0 (by omega)).trans (congrArg (fun q=>q[0]?) l1)
 · exact (cellk 1 1 (by omega)).trans (congrArg (fun q=>q[1]?) l1)
 · exact (cellk 1 2 (by omega)).trans (congrArg (fun q=>q[2]?) l1)
 · exact (cellk 1 3 (by omega)).trans (congrArg (fun q=>q[3]?) l1)
 · exact (cellk 2 0 (by omega)).trans (congrArg (fun q=>q[0]?) l2)
 · exact (cellk 2 1 (by omega)).trans (congrArg (fun q=>q[1]?) l2)
 · exact (cellk 2 2 (by omega)).trans (congrArg (fun q=>q[2]?) l2)
 · exact (cellk 2 3 (by omega)).trans (congrArg (fun q=>q[3]?) l2)
 · exact (cellk 3 0 (by omega)).trans (congrArg (fun q=>q[0]?) l3)
 · exact (cellk 3 1 (by omega)).trans (congrArg (fun q=>q[1]?) l3)
 · exact (cellk 3 2 (by omega)).trans (congrArg (fun q=>q[2]?) l3)
 · exact (cellk 3 3 (by omega)).trans (congrArg (fun q=>q[3]?) l3)
 · exact (cellk 4 0 (by omega)).trans (congrArg (fun q=>q[0]?) l4)
 · exact (cellk 4 1 (by omega)).trans (congrArg (fun q=>q[1]?) l4)
 · exact (cellk 4 2 (by omega)).trans (congrArg (fun q=>q[2]?) l4)
 · exact (cellk 4 3 (by omega)).trans (congrArg (fun q=>q[3]?) l4)
 · exact (cellk 5 0 (by omega)).trans (congrArg (fun q=>q[0]?) l5)
 · exact (cellk 5 1 (by omega)).trans (congrArg (fun q=>q[1]?) l5)
 · exact (cellk 5 2 (by omega)).trans (congrArg (fun q=>q[2]?) l5)
 · exact (cellk 5 3 (by omega)).trans (congrArg (fun q=>q[3]?) l5)
 · exact (cellk 6 0 (by omega)).trans (congrArg (fun q=>q[0]?) l6)
 · exact (cellk 6 1 (by omega)).trans (congrArg (fun q=>q[1]?) l6)
 · exact (cellk 6 2 (by omega)).trans (congrArg (fun q=>q[2]?) l6)
 · exact (cellk 6 3 (by omega)).trans (congrArg (fun q=>q[3]?) l6)
end Go.Proofs.YteefjeddboefcaaGreatDoor
