/- A part. -/
import Derived.Test.YteefjeddboefcaaGreatDoorPart27
import Derived.MakeChecks
import Derived.Deep.Fields
set_option maxRecDepth 100000
set_option maxHeartbeats 6400000
namespace Go.Proofs.YteefjeddboefcaaGreatDoor
open Go Go.RowKit
theorem lawKindWiden_any (w:World) (a:Option Addr) (cap:Nat) (l:List UInt8) (hv:BytesAt w (.slice a l.length cap) l) (hcap:l.length≤cap) (hE:ErrT w) (hT:Tab w) :
 Calls Tryz.prog 3 #[.slice a l.length cap] w fun e w'=>e=.returned (.bool true)∧Below w.heap.size w w':=by
 have hlen:l.length≤9223372036854775807:=by obtain ⟨_,_,_,h,_⟩:=hv;exact h
 by_cases hs:l.length≤1048576
 · have hd:decide ((1048576:Int) < (l.length:Int))=false:=by simp;omega
   have HDW:=xH (drawKindWiden_any w a cap l hv hcap)
   have HT:=xH (fun W (hW:Below w.heap.size w W)=>hT.on hW)
   have HE:=xH (fun W (hW:Below w.heap.size w W)=>hE.on hW)
   clear hv hT hE
   go_enter Tryz.func3,Tryz.ntmps3
   go_wp2_with fail
   refine (xU HDW).mono ?_
   rintro e w1 ⟨k,m,⟨c0,c1,c2⟩,⟨d0,d1,d2⟩,t,⟨x0,x1,x2,x3,x4⟩,rfl,hk1,hm1,ht1,hwk,hwm,hb1⟩
   obtain ⟨g0,-,⟨a1,cap1,g1,-⟩,a2,cap2,g2,-⟩:=hk1.open
   simp only at g0 g1 g2
   subst g0 g1 g2
   obtain ⟨g0,-,⟨b1,bap1,g1,-⟩,b2,bap2,g2,-⟩:=hm1.open
   simp only at g0 g1 g2
   subst g0 g1 g2
   obtain ⟨g0,g1,g2,-,-,-,⟨t1,tap1,g3,-⟩,t2,tap2,g4,-⟩:=ht1.open
   simp only at g0 g1 g2 g3 g4
   subst g0 g1 g2 g3 g4
   have hst:=L6.start hb1 hk1 hm1 ht1
   simp only at hst
   obtain ⟨W1,hW1⟩:∃ W1,((w1.alloc (.cells #[.int .i64 k.sort,.slice a1 k.names.length cap1,.slice a2 k.kids.length cap2] 26)).alloc (.cells #[.int .i64 m.sort,.slice b1 m.names.length bap1,.slice b2 m.kids.length bap2] 26)).alloc (.cells #[.int .i64 t.sort,.int .i64 t.num,.string t.text,.slice t1 t.names.length tap1,.slice t2 t.kids.length tap2] 29)=W1:=⟨_,rfl⟩
   rw [hW1] at hst
   have HL:=xH hst;have HW1:=xH hW1
   clear HDW hk1 hm1 ht1 hb1 hst hW1
   have hsw:=fun W (hW:L6 w W k ⟨.int .i64 k.sort,.slice a1 k.names.length cap1,.slice a2 k.kids.length cap2⟩ w1.heap.size m ⟨.int .i64 m.sort,.slice b1 m.names.length bap1,.slice b2 m.kids.length bap2⟩ (w1.heap.size+1) t ⟨.int .i64 t.sort,.int .i64 t.num,.string t.text,.slice t1 t.names.length tap1,.slice t2 t.kids.length tap2⟩ (w1.heap.size+2))=>specKindWiden_any k m t _ _ _ _ _ _ W (fun x hx=>Nat.lt_trans hx hW.kb.box.lt) (fun x hx=>Nat.lt_trans hx hW.mb.box.lt) (fun x hx=>Nat.lt_trans hx hW.tb.box.lt) hW.kb.rep hW.mb.rep hW.tb.rep
   have hhs:=fun W (hW:L6 w W k ⟨.int .i64 k.sort,.slice a1 k.names.length cap1,.slice a2 k.kids.length cap2⟩ w1.heap.size m ⟨.int .i64 m.sort,.slice b1 m.names.length bap1,.slice b2 m.kids.length bap2⟩ (w1.heap.size+1) t ⟨.int .i64 t.sort,.int .i64 t.num,.string t.text,.slice t1 t.names.length tap1,.slice t2 t.kids.length tap2⟩ (w1.heap.size+2))=>specKindHas_any k t _ _ _ _ W (fun x hx=>Nat.lt_trans hx hW.kb.box.lt) (fun x hx=>Nat.lt_trans hx hW.tb.box.lt) hW.kb.rep hW.tb.rep
   have hok:=fun W (hW:L6 w W k ⟨.int .i64 k.sort,.slice a1 k.names.length cap1,.slice a2 k.kids.length cap2⟩ w1.heap.size m ⟨.int .i64 m.sort,.slice b1 m.names.length bap1,.slice b2 m.kids.length bap2⟩ (w1.heap.size+1) t ⟨.int .i64 t.sort,.int .i64 t.num,.string t.text,.slice t1 t.names.length tap1,.slice t2 t.kids.length tap2⟩ (w1.heap.size+2))=>specKindOk_any k _ _ W (fun x hx=>Nat.lt_trans hx hW.kb.box.lt) hW.kb.rep
   have hiw:=fun W (hW:L6 w W k ⟨.int .i64 k.sort,.slice a1 k.names.length cap1,.slice a2 k.kids.length cap2⟩ w1.heap.size m ⟨.int .i64 m.sort,.slice b1 m.names.length bap1,.slice b2 m.kids.length bap2⟩ (w1.heap.size+1) t ⟨.int .i64 t.sort,.int .i64 t.num,.string t.text,.slice t1 t.names.length tap1,.slice t2 t.kids.length tap2⟩ (w1.heap.size+2))=>implKindWiden_any k m t _ _ _ _ _ _ W (xU HE W hW.kb.below) (xU HT W hW.kb.below) (fun x hx=>Nat.lt_trans hx hW.kb.box.lt) (fun x hx=>Nat.lt_trans hx hW.mb.box.lt) (fun x hx=>Nat.lt_trans hx hW.tb.box.lt) hW.kb.rep hW.mb.rep hW.tb.rep (by omega) (by omega)
   have hfs:=fun W (hW:L6 w W k ⟨.int .i64 k.sort,.slice a1 k.names.length cap1,.slice a2 k.kids.length cap2⟩ w1.heap.size m ⟨.int .i64 m.sort,.slice b1 m.names.length bap1,.slice b2 m.kids.length bap2⟩ (w1.heap.size+1) t ⟨.int .i64 t.sort,.int .i64 t.num,.string t.text,.slice t1 t.names.length tap1,.slice t2 t.kids.length tap2⟩ (w1.heap.size+2))=>implKindFits_any k k _ _ _ _ W (xU HE W hW.kb.below) (fun x hx=>Nat.lt_trans hx hW.kb.box.lt) (fun x hx=>Nat.lt_trans hx hW.kb.box.lt) hW.kb.rep hW.kb.rep (by omega) (by omega)
   simp only [fitsD_self] at hfs
   have his:=fun W (hW:L6 w W k ⟨.int .i64 k.sort,.slice a1 k.names.length cap1,.slice a2 k.kids.length cap2⟩ w1.heap.size m ⟨.int .i64 m.sort,.slice b1 m.names.length bap1,.slice b2 m.kids.length bap2⟩ (w1.heap.size+1) t ⟨.int .i64 t.sort,.int .i64 t.num,.string t.text,.slice t1 t.names.length tap1,.slice t2 t.kids.length tap2⟩ (w1.heap.size+2))=>implKindWiden_any k k t _ _ _ _ _ _ W (xU HE W hW.kb.below) (xU HT W hW.kb.below) (fun x hx=>Nat.lt_trans hx hW.kb.box.lt) (fun x hx=>Nat.lt_trans hx hW.kb.box.lt) (fun x hx=>Nat.lt_trans hx hW.tb.box.lt) hW.kb.rep hW.kb.rep hW.tb.rep (by omega) (by omega)
   have hfi:=fun W (hW:L6 w W k ⟨.int .i64 k.sort,.slice a1 k.names.length cap1,.slice a2 k.kids.length cap2⟩ w1.heap.size m ⟨.int .i64 m.sort,.slice b1 m.names.length bap1,.slice b2 m.kids.length bap2⟩ (w1.heap.size+1) t ⟨.int .i64 t.sort,.int .i64 t.num,.string t.text,.slice t1 t.names.length tap1,.slice t2 t.kids.length tap2⟩ (w1.heap.size+2))=>implKindFits_any k m _ _ _ _ W (xU HE W hW.kb.below) (fun x hx=>Nat.lt_trans hx hW.kb.box.lt) (fun x hx=>Nat.lt_trans hx hW.mb.box.lt) hW.kb.rep hW.mb.rep (by omega) (by omega)
   have hpt:=fun W (hW:L6 w W k ⟨.int .i64 k.sort,.slice a1 k.names.length cap1,.slice a2 k.kids.length cap2⟩ w1.heap.size m ⟨.int .i64 m.sort,.slice b1 m.names.length bap1,.slice b2 m.kids.length bap2⟩ (w1.heap.size+1) t ⟨.int .i64 t.sort,.int .i64 t.num,.string t.text,.slice t1 t.names.length tap1,.slice t2 t.kids.length tap2⟩ (w1.heap.size+2))=>implTreeParts_any t _ _ W (fun x hx=>Nat.lt_trans hx hW.tb.box.lt) hW.tb.rep (xU HT W hW.kb.below)
   have hwm2:wKd m≤1048576:=by omega
   have HTT:=xH (fun (t:Tr) (B1 B2:Nat) (c d:C5) (W:World) (h1:TB6 w W t c B1) (h2:TB6 w W t d B2)=>ttTree_any t _ _ c d W (fun x hx=>Nat.lt_trans hx h1.box.lt) (fun x hx=>Nat.lt_trans hx h2.box.lt) h1.rep h2.rep)
   rcases p6_cases k m t with ⟨u,ho,hh,hq,h1,h2,h3,h4,h5⟩ | ⟨ho,hh,hq⟩ | ⟨ho,hh,hq⟩ | ⟨ho,hh,hq⟩
   · simp only [ho] at hsw hiw
     simp only [hh] at hhs
     simp only [hq] at hok hfs
     simp only [widA_self hh] at his
     simp only [h1] at hfi
     have HSW:=xH hsw
     have HHS:=xH hhs
     have HOK:=xH hok
     have HIW:=xH hiw
     have HFS:=xH hfs
     have HIS:=xH his
     have HFI:=xH hfi
     have HPT:=xH hpt
     have HWM:=xH hwm2
     clear hsw hhs hok hiw hfs his hfi hpt ho hh hq hwm2 hwk hwm hd hs hlen
     have HF:=xH (show hasA m u=true∧0 < pT t 1∧0 < pT u 1∧pT t 1≤pT u 1 from ⟨h2,h3,h4,h5⟩)
     clear h1 h2 h3 h4 h5
     have HL1:=HL
     clear HL
     go_wp2_with fail
     rw [xU HW1]
     clear HW1
     refine (xU HSW W1 (xU HL1)).mono ?_
     intro e w2 hc
     obtain ⟨dw,rfl,hr2,hb2⟩:=hc.rep
     simp only [wAn,Option.getD_some,Option.isSome_some] at hr2 ⊢
     have HL2:=xH ((xU HL1).on hb2)
     have hr3:=Rep.carry (w:=w2) (w':=w2) (Q:=fun y=>y < w2.heap.size) (fun _ _=>rfl) (fun y hy=>hy.2) _ _ hr2
     obtain ⟨s1,sap1,s2,sap2,rfl⟩:=rep_form5 hr3
     have hbx:=TB6.start (xU HL2).kb.below hr3
     have hba:=(Below.refl w2.heap.size w2).alloc (Nat.le_refl _) (.cells #[.int .i64 u.sort,.int .i64 u.num,.string u.text,.slice s1 u.names.length sap1,.slice s2 u.kids.length sap2] 29)
     obtain ⟨W2,hWq⟩:∃ W2,w2.alloc (.cells #[.int .i64 u.sort,.int .i64 u.num,.string u.text,.slice s1 u.names.length sap1,.slice s2 u.kids.length sap2] 29)=W2:=⟨_,rfl⟩
     rw [hWq] at hbx hba
     have HL3:=xH ((xU HL2).on hba)
     have HBW:=xH hbx;have HWQ:=xH hWq
     have lk:=(xU HL2).kb.box.lt;have lm:=(xU HL2).mb.box.lt;have lt:=(xU HL2).tb.box.lt
     obtain ⟨k0,k1,k2⟩:=(xU HL2).kb.cells
     obtain ⟨m0,m1,m2⟩:=(xU HL2).mb.cells
     obtain ⟨z0,z1,z2,z3,z4⟩:=(xU HL2).tb.cells
     simp only at k0 k1 k2 m0 m1 m2 z0 z1 z2 z3 z4
     obtain ⟨k0',k1',k2'⟩:=(xU HL3).kb.cells
     obtain ⟨m0',m1',m2'⟩:=(xU HL3).mb.cells
     obtain ⟨z0',z1',z2',z3',z4'⟩:=(xU HL3).tb.cells
     simp only at k0' k1' k2' m0' m1' m2' z0' z1' z2' z3' z4'
     clear hc hr2 hr3 hb2 hbx hba hWq HL2 HSW
     go_wp2_with fail
     rw [xU HWQ]
     clear HWQ lk lm lt
     clear k0 k1 k2 m0 m1 m2 z0 z1 z2 z3 z4
     clear k0' k1' k2' m0' m1' m2' z0' z1' z2' z3' z4'
     refine (xU HHS W2 (xU HL3)).mono ?_
     rintro e w3 ⟨rfl,hb2⟩
     have HL4:=xH ((xU HL3).on hb2)
     replace HBW:=xH ((xU HBW).on hb2)
     obtain ⟨k0,k1,k2⟩:=(xU HL4).kb.cells
     obtain ⟨m0,m1,m2⟩:=(xU HL4).mb.cells
     obtain ⟨z0,z1,z2,z3,z4⟩:=(xU HL4).tb.cells
     simp only at k0 k1 k2 m0 m1 m2 z0 z1 z2 z3 z4
     clear hb2 HL3 HHS
     go_wp2_with fail
     clear k0 k1 k2 m0 m1 m2 z0 z1 z2 z3 z4
     refine (xU HOK w3 (xU HL4)).mono ?_
     rintro e w4 ⟨rfl,hb2⟩
     have HL5:=xH ((xU HL4).on hb2)
     replace HBW:=xH ((xU HBW).on hb2)
     obtain ⟨k0,k1,k2⟩:=(xU HL5).kb.cells
     obtain ⟨m0,m1,m2⟩:=(xU HL5).mb.cells
     obtain ⟨z0,z1,z2,z3,z4⟩:=(xU HL5).tb.cells
     simp only at k0 k1 k2 m0 m1 m2 z0 z1 z2 z3 z4
     clear hb2 HL4 HOK
     go_wp2_with fail
     clear k0 k1 k2 m0 m1 m2 z0 z1 z2 z3 z4
     refine (xU HIW w4 (xU HL5)).mono ?_
     intro e w5 hc
     obtain ⟨dw,rfl,hr2,hb2⟩:=hc.rep
     simp only [wAn,Option.getD_some,Option.isSome_some] at hr2 ⊢
     have HL6:=xH ((xU HL5).on hb2)
     replace HBW:=xH ((xU HBW).on hb2)
     have hr3:=Rep.carry (w:=w5) (w':=w5) (Q:=fun y=>y < w5.heap.size) (fun _ _=>rfl) (fun y hy=>hy.2) _ _ hr2
     obtain ⟨v1,vap1,v2,vap2,rfl⟩:=rep_form5 hr3
     have hbx:=TB6.start (xU HL6).kb.below hr3
     have hba:=(Below.refl w5.heap.size w5).alloc (Nat.le_refl _) (.cells #[.int .i64 u.sort,.int .i64 u.num,.string u.text,.slice v1 u.names.length vap1,.slice v2 u.kids.length vap2] 29)
     obtain ⟨W5,hWq⟩:∃ W5,w5.alloc (.cells #[.int .i64 u.sort,.int .i64 u.num,.string u.text,.slice v1 u.names.length vap1,.slice v2 u.kids.length vap2] 29)=W5:=⟨_,rfl⟩
     rw [hWq] at hbx hba
     have HL7:=xH ((xU HL6).on hba)
     replace HBW:=xH ((xU HBW).on hba)
     have HBU:=xH hbx;have HWQ:=xH hWq
     have lk:=(xU HL6).kb.box.lt;have lm:=(xU HL6).mb.box.lt;have lt:=(xU HL6).tb.box.lt
     obtain ⟨k0,k1,k2⟩:=(xU HL6).kb.cells
     obtain ⟨m0,m1,m2⟩:=(xU HL6).mb.cells
     obtain ⟨z0,z1,z2,z3,z4⟩:=(xU HL6).tb.cells
     simp only at k0 k1 k2 m0 m1 m2 z0 z1 z2 z3 z4
     obtain ⟨k0',k1',k2'⟩:=(xU HL7).kb.cells
     obtain ⟨m0',m1',m2'⟩:=(xU HL7).mb.cells
     obtain ⟨z0',z1',z2',z3',z4'⟩:=(xU HL7).tb.cells
     simp only at k0' k1' k2' m0' m1' m2' z0' z1' z2' z3' z4'
     clear hc hr2 hr3 hb2 hbx hba hWq HL6 HIW
     go_wp2_with fail
     rw [xU HWQ]
     clear HWQ lk lm lt
     clear k0 k1 k2 m0 m1 m2 z0 z1 z2 z3 z4
     clear k0' k1' k2' m0' m1' m2' z0' z1' z2' z3' z4'
     refine (xU HFS W5 (xU HL7)).mono ?_
     rintro e w6 ⟨rfl,hb2⟩
     have HL8:=xH ((xU HL7).on hb2)
     replace HBW:=xH ((xU HBW).on hb2)
     replace HBU:=xH ((xU HBU).on hb2)
     obtain ⟨k0,k1,k2⟩:=(xU HL8).kb.cells
     obtain ⟨m0,m1,m2⟩:=(xU HL8).mb.cells
     obtain ⟨z0,z1,z2,z3,z4⟩:=(xU HL8).tb.cells
     simp only at k0 k1 k2 m0 m1 m2 z0 z1 z2 z3 z4
     clear hb2 HL7 HFS
     obtain ⟨r0,r1,r2,r3,r4⟩:=(xU HBW).cells
     simp only at r0 r1 r2 r3 r4
     obtain ⟨y0,y1,y2,y3,y4⟩:=(xU HBU).cells
     simp only at y0 y1 y2 y3 y4
     go_wp2_with fail
     clear k0 k1 k2 m0 m1 m2 z0 z1 z2 z3 z4
     clear r0 r1 r2 r3 r4
     clear y0 y1 y2 y3 y4
     refine (xU HTT u _ _ ⟨.int .i64 u.sort,.int .i64 u.num,.string u.text,.slice v1 u.names.length vap1,.slice v2 u.kids.length vap2⟩ ⟨.int .i64 u.sort,.int .i64 u.num,.string u.text,.slice s1 u.names.length sap1,.slice s2 u.kids.length sap2⟩ w6 (xU HBU) (xU HBW)).mono ?_
     rintro e w7 ⟨rfl,hb2⟩
     have HL9:=xH ((xU HL8).on hb2)
     replace HBW:=xH ((xU HBW).on hb2)
     replace HBU:=xH ((xU HBU).on hb2)
     obtain ⟨k0,k1,k2⟩:=(xU HL9).kb.cells
     obtain ⟨m0,m1,m2⟩:=(xU HL9).mb.cells
     obtain ⟨z0,z1,z2,z3,z4⟩:=(xU HL9).tb.cells
     simp only at k0 k1 k2 m0 m1 m2 z0 z1 z2 z3 z4
     obtain ⟨y0,y1,y2,y3,y4⟩:=(xU HBU).cells
     simp only at y0 y1 y2 y3 y4
     clear hb2 HL8
     go_wp2_with fail
     clear k0 k1 k2 m0 m1 m2 z0 z1 z2 z3 z4
     clear y0 y1 y2 y3 y4
     refine (xU HIS w7 (xU HL9)).mono ?_
     intro e w8 hc
     obtain ⟨dw,rfl,hr2,hb2⟩:=hc.rep
     simp only [wAn,Option.getD_some,Option.isSome_some] at hr2 ⊢
     have HL10:=xH ((xU HL9).on hb2)
     replace HBW:=xH ((xU HBW).on hb2)
     replace HBU:=xH ((xU HBU).on hb2)
     have hr3:=Rep.carry (w:=w8) (w':=w8) (Q:=fun y=>y < w8.heap.size) (fun _ _=>rfl) (fun y hy=>hy.2) _ _ hr2
     obtain ⟨n1,nap1,n2,nap2,rfl⟩:=rep_form5 hr3
     have hbx:=TB6.start (xU HL10).kb.below hr3
     have hba:=(Below.refl w8.heap.size w8).alloc (Nat.le_refl _) (.cells #[.int .i64 t.sort,.int .i64 t.num,.string t.text,.slice n1 t.names.length nap1,.slice n2 t.kids.length nap2] 29)
     obtain ⟨W8,hWq⟩:∃ W8,w8.alloc (.cells #[.int .i64 t.sort,.int .i64 t.num,.string t.text,.slice n1 t.names.length nap1,.slice n2 t.kids.length nap2] 29)=W8:=⟨_,rfl⟩
     rw [hWq] at hbx hba
     have HL11:=xH ((xU HL10).on hba)
     replace HBW:=xH ((xU HBW).on hba)
     replace HBU:=xH ((xU HBU).on hba)
     have HBS:=xH hbx;have HWQ:=xH hWq
     have lk:=(xU HL10).kb.box.lt;have lm:=(xU HL10).mb.box.lt;have lt:=(xU HL10).tb.box.lt
     obtain ⟨k0,k1,k2⟩:=(xU HL10).kb.cells
     obtain ⟨m0,m1,m2⟩:=(xU HL10).mb.cells
     obtain ⟨z0,z1,z2,z3,z4⟩:=(xU HL10).tb.cells
     simp only at k0 k1 k2 m0 m1 m2 z0 z1 z2 z3 z4
     obtain ⟨k0',k1',k2'⟩:=(xU HL11).kb.cells
     obtain ⟨m0',m1',m2'⟩:=(xU HL11).mb.cells
     obtain ⟨z0',z1',z2',z3',z4'⟩:=(xU HL11).tb.cells
     simp only at k0' k1' k2' m0' m1' m2' z0' z1' z2' z3' z4'
     clear hc hr2 hr3 hb2 hbx hba hWq HL10 HIS
     go_wp2_with fail
     rw [xU HWQ]
     clear HWQ lk lm lt
     clear k0 k1 k2 m0 m1 m2 z0 z1 z2 z3 z4
     clear k0' k1' k2' m0' m1' m2' z0' z1' z2' z3' z4'
     refine (xU HTT t _ _ ⟨.int .i64 t.sort,.int .i64 t.num,.string t.text,.slice n1 t.names.length nap1,.slice n2 t.kids.length nap2⟩ ⟨.int .i64 t.sort,.int .i64 t.num,.string t.text,.slice t1 t.names.length tap1,.slice t2 t.kids.length tap2⟩ W8 (xU HBS) (xU HL11).tb).mono ?_
     rintro e w9 ⟨rfl,hb2⟩
     have HL12:=xH ((xU HL11).on hb2)
     replace HBU:=xH ((xU HBU).on hb2)
     obtain ⟨y0,y1,y2,y3,y4⟩:=(xU HBU).cells
     simp only at y0 y1 y2 y3 y4
     clear hb2 HL11 HBS HBW
     obtain ⟨h2,h3,h4,h5⟩:=xU HF
     have hlu:LU w w9 k ⟨.int .i64 k.sort,.slice a1 k.names.length cap1,.slice a2 k.kids.length cap2⟩ w1.heap.size m ⟨.int .i64 m.sort,.slice b1 m.names.length bap1,.slice b2 m.kids.length bap2⟩ (w1.heap.size+1) t ⟨.int .i64 t.sort,.int .i64 t.num,.string t.text,.slice t1 t.names.length tap1,.slice t2 t.kids.length tap2⟩ (w1.heap.size+2) u ⟨.int .i64 u.sort,.int .i64 u.num,.string u.text,.slice v1 u.names.length vap1,.slice v2 u.kids.length vap2⟩ w5.heap.size:=⟨xU HL12,xU HBU⟩
     have hhm:=fun W (hW:LU w W k ⟨.int .i64 k.sort,.slice a1 k.names.length cap1,.slice a2 k.kids.length cap2⟩ w1.heap.size m ⟨.int .i64 m.sort,.slice b1 m.names.length bap1,.slice b2 m.kids.length bap2⟩ (w1.heap.size+1) t ⟨.int .i64 t.sort,.int .i64 t.num,.string t.text,.slice t1 t.names.length tap1,.slice t2 t.kids.length tap2⟩ (w1.heap.size+2) u ⟨.int .i64 u.sort,.int .i64 u.num,.string u.text,.slice v1 u.names.length vap1,.slice v2 u.kids.length vap2⟩ w5.heap.size)=>implKindHas_any m u _ _ _ _ W (fun x hx=>Nat.lt_trans hx hW.l.mb.box.lt) (fun x hx=>Nat.lt_trans hx hW.ub.box.lt) hW.l.mb.rep hW.ub.rep (xU HT W hW.l.kb.below) (xU HWM)
     have hpu:=fun W (hW:LU w W k ⟨.int .i64 k.sort,.slice a1 k.names.length cap1,.slice a2 k.kids.length cap2⟩ w1.heap.size m ⟨.int .i64 m.sort,.slice b1 m.names.length bap1,.slice b2 m.kids.length bap2⟩ (w1.heap.size+1) t ⟨.int .i64 t.sort,.int .i64 t.num,.string t.text,.slice t1 t.names.length tap1,.slice t2 t.kids.length tap2⟩ (w1.heap.size+2) u ⟨.int .i64 u.sort,.int .i64 u.num,.string u.text,.slice v1 u.names.length vap1,.slice v2 u.kids.length vap2⟩ w5.heap.size)=>implTreeParts_any u _ _ W (fun x hx=>Nat.lt_trans hx hW.ub.box.lt) hW.ub.rep (xU HT W hW.l.kb.below)
     have hpt:=fun W (hW:LU w W k ⟨.int .i64 k.sort,.slice a1 k.names.length cap1,.slice a2 k.kids.length cap2⟩ w1.heap.size m ⟨.int .i64 m.sort,.slice b1 m.names.length bap1,.slice b2 m.kids.length bap2⟩ (w1.heap.size+1) t ⟨.int .i64 t.sort,.int .i64 t.num,.string t.text,.slice t1 t.names.length tap1,.slice t2 t.kids.length tap2⟩ (w1.heap.size+2) u ⟨.int .i64 u.sort,.int .i64 u.num,.string u.text,.slice v1 u.names.length vap1,.slice v2 u.kids.length vap2⟩ w5.heap.size)=>xU HPT W hW.l
     have hfi:=fun W (hW:LU w W k ⟨.int .i64 k.sort,.slice a1 k.names.length cap1,.slice a2 k.kids.length cap2⟩ w1.heap.size m ⟨.int .i64 m.sort,.slice b1 m.names.length bap1,.slice b2 m.kids.length bap2⟩ (w1.heap.size+1) t ⟨.int .i64 t.sort,.int .i64 t.num,.string t.text,.slice t1 t.names.length tap1,.slice t2 t.kids.length tap2⟩ (w1.heap.size+2) u ⟨.int .i64 u.sort,.int .i64 u.num,.string u.text,.slice v1 u.names.length vap1,.slice v2 u.kids.length vap2⟩ w5.heap.size)=>xU HFI W hW.l
     simp only [h2] at hhm
     simp only [if_neg (show ¬ pT u 1 < 0 by omega)] at hpu
     simp only [if_neg (show ¬ pT t 1 < 0 by omega)] at hpt
     have HLU:=xH hlu;have HHM:=xH hhm;have HPU:=xH hpu;have HPT2:=xH hpt;have HFI2:=xH hfi;have HLE:=xH h5
     clear hlu hhm hpu hpt hfi h2 h3 h4 h5 HF HPT HFI HL12 HBU
     clear y0 y1 y2 y3 y4
     go_upto_region 18 with fail
     refine wp_swap (c':=Code.region 18 lp18Ops true) (by kernel_rfl) ?_
     refine wp_region_noPanic ?_
     refine lp18 (pu:=pT u 1) (pt:=pT t 1) w9 ((xU HLU).on (Below.refl _ w9).drew) (xU HFI2) (xU HHM) (xU HPU) (xU HPT2) (xU HLE) _ (fun _ _ _ _ _ h=>h) (by kernel_rfl) ?_
     intro u18 w18 hS18
     refine NoPanic.normal ?_
     simp only [frL_eq,frG,List.lookup,Nat.reduceBEq,Nat.reduceAdd,Option.getD_some,Option.getD_none]
     have HB:=xH hS18.l.kb.below
     clear hS18 HLU HFI2 HHM HPU HPT2
     go_wp2_with fail
     go_ret
     exact ⟨rfl,xU HB⟩
   · simp only [ho] at hsw hiw
     simp only [hh] at hhs
     simp only [hq] at hok hfs
     simp only [widA_self hh] at his
     obtain ⟨u,hu⟩:∃ u,tr0=u:=⟨_,rfl⟩
     have hu0:u.sort=0:=by rw [← hu];rfl
     have hwu:wAn none=u:=hu
     have HSW:=xH hsw
     have HHS:=xH hhs
     have HOK:=xH hok
     have HIW:=xH hiw
     have HFS:=xH hfs
     have HIS:=xH his
     have HFI:=xH hfi
     have HPT:=xH hpt
     have HWM:=xH hwm2
     clear hsw hhs hok hiw hfs his hfi hpt ho hh hq hwm2 hwk hwm hd hs hlen
     have HU0:=xH hu0;have HWU:=xH hwu
     clear hu hu0 hwu
     have HL1:=HL
     clear HL
     go_wp2_with fail
     rw [xU HW1]
     clear HW1
     refine (xU HSW W1 (xU HL1)).mono ?_
     intro e w2 hc
     obtain ⟨dw,rfl,hr2,hb2⟩:=hc.rep
     rw [xU HWU] at hr2
     simp only [Option.isSome_none]
     have HL2:=xH ((xU HL1).on hb2)
     have hr3:=Rep.carry (w:=w2) (w':=w2) (Q:=fun y=>y < w2.heap.size) (fun _ _=>rfl) (fun y hy=>hy.2) _ _ hr2
     obtain ⟨s1,sap1,s2,sap2,rfl⟩:=rep_form5 hr3
     have hbx:=TB6.start (xU HL2).kb.below hr3
     have hba:=(Below.refl w2.heap.size w2).alloc (Nat.le_refl _) (.cells #[.int .i64 u.sort,.int .i64 u.num,.string u.text,.slice s1 u.names.length sap1,.slice s2 u.kids.length sap2] 29)
     obtain ⟨W2,hWq⟩:∃ W2,w2.alloc (.cells #[.int .i64 u.sort,.int .i64 u.num,.string u.text,.slice s1 u.names.length sap1,.slice s2 u.kids.length sap2] 29)=W2:=⟨_,rfl⟩
     rw [hWq] at hbx hba
     have HL3:=xH ((xU HL2).on hba)
     have HBW:=xH hbx;have HWQ:=xH hWq
     have lk:=(xU HL2).kb.box.lt;have lm:=(xU HL2).mb.box.lt;have lt:=(xU HL2).tb.box.lt
     obtain ⟨k0,k1,k2⟩:=(xU HL2).kb.cells
     obtain ⟨m0,m1,m2⟩:=(xU HL2).mb.cells
     obtain ⟨z0,z1,z2,z3,z4⟩:=(xU HL2).tb.cells
     simp only at k0 k1 k2 m0 m1 m2 z0 z1 z2 z3 z4
     obtain ⟨k0',k1',k2'⟩:=(xU HL3).kb.cells
     obtain ⟨m0',m1',m2'⟩:=(xU HL3).mb.cells
     obtain ⟨z0',z1',z2',z3',z4'⟩:=(xU HL3).tb.cells
     simp only at k0' k1' k2' m0' m1' m2' z0' z1' z2' z3' z4'
     clear hc hr2 hr3 hb2 hbx hba hWq HL2 HSW
     go_wp2_with fail
     rw [xU HWQ]
     clear HWQ lk lm lt
     clear k0 k1 k2 m0 m1 m2 z0 z1 z2 z3 z4
     clear k0' k1' k2' m0' m1' m2' z0' z1' z2' z3' z4'
     refine (xU HHS W2 (xU HL3)).mono ?_
     rintro e w3 ⟨rfl,hb2⟩
     have HL4:=xH ((xU HL3).on hb2)
     replace HBW:=xH ((xU HBW).on hb2)
     obtain ⟨k0,k1,k2⟩:=(xU HL4).kb.cells
     obtain ⟨m0,m1,m2⟩:=(xU HL4).mb.cells
     obtain ⟨z0,z1,z2,z3,z4⟩:=(xU HL4).tb.cells
     simp only at k0 k1 k2 m0 m1 m2 z0 z1 z2 z3 z4
     clear hb2 HL3 HHS
     go_wp2_with fail
     clear k0 k1 k2 m0 m1 m2 z0 z1 z2 z3 z4
     refine (xU HOK w3 (xU HL4)).mono ?_
     rintro e w4 ⟨rfl,hb2⟩
     have HL5:=xH ((xU HL4).on hb2)
     replace HBW:=xH ((xU HBW).on hb2)
     obtain ⟨k0,k1,k2⟩:=(xU HL5).kb.cells
     obtain ⟨m0,m1,m2⟩:=(xU HL5).mb.cells
     obtain ⟨z0,z1,z2,z3,z4⟩:=(xU HL5).tb.cells
     simp only at k0 k1 k2 m0 m1 m2 z0 z1 z2 z3 z4
     clear hb2 HL4 HOK
     go_wp2_with fail
     clear k0 k1 k2 m0 m1 m2 z0 z1 z2 z3 z4
     refine (xU HIW w4 (xU HL5)).mono ?_
     intro e w5 hc
     obtain ⟨dw,rfl,hr2,hb2⟩:=hc.rep
     rw [xU HWU] at hr2
     simp only [Option.isSome_none]
     have HL6:=xH ((xU HL5).on hb2)
     replace HBW:=xH ((xU HBW).on hb2)
     have hr3:=Rep.carry (w:=w5) (w':=w5) (Q:=fun y=>y < w5.heap.size) (fun _ _=>rfl) (fun y hy=>hy.2) _ _ hr2
     obtain ⟨v1,vap1,v2,vap2,rfl⟩:=rep_form5 hr3
     have hbx:=TB6.start (xU HL6).kb.below hr3
     have hba:=(Below.refl w5.heap.size w5).alloc (Nat.le_refl _) (.cells #[.int .i64 u.sort,.int .i64 u.num,.string u.text,.slice v1 u.names.length vap1,.slice v2 u.kids.length vap2] 29)
     obtain ⟨W5,hWq⟩:∃ W5,w5.alloc (.cells #[.int .i64 u.sort,.int .i64 u.num,.string u.text,.slice v1 u.names.length vap1,.slice v2 u.kids.length vap2] 29)=W5:=⟨_,rfl⟩
     rw [hWq] at hbx hba
     have HL7:=xH ((xU HL6).on hba)
     replace HBW:=xH ((xU HBW).on hba)
     have HBU:=xH hbx;have HWQ:=xH hWq
     have lk:=(xU HL6).kb.box.lt;have lm:=(xU HL6).mb.box.lt;have lt:=(xU HL6).tb.box.lt
     obtain ⟨k0,k1,k2⟩:=(xU HL6).kb.cells
     obtain ⟨m0,m1,m2⟩:=(xU HL6).mb.cells
     obtain ⟨z0,z1,z2,z3,z4⟩:=(xU HL6).tb.cells
     simp only at k0 k1 k2 m0 m1 m2 z0 z1 z2 z3 z4
     obtain ⟨k0',k1',k2'⟩:=(xU HL7).kb.cells
     obtain ⟨m0',m1',m2'⟩:=(xU HL7).mb.cells
     obtain ⟨z0',z1',z2',z3',z4'⟩:=(xU HL7).tb.cells
     simp only at k0' k1' k2' m0' m1' m2' z0' z1' z2' z3' z4'
     clear hc hr2 hr3 hb2 hbx hba hWq HL6 HIW
     go_wp2_with fail
     rw [xU HWQ]
     clear HWQ lk lm lt
     clear k0 k1 k2 m0 m1 m2 z0 z1 z2 z3 z4
     clear k0' k1' k2' m0' m1' m2' z0' z1' z2' z3' z4'
     refine (xU HFS W5 (xU HL7)).mono ?_
     rintro e w6 ⟨rfl,hb2⟩
     have HL8:=xH ((xU HL7).on hb2)
     replace HBW:=xH ((xU HBW).on hb2)
     replace HBU:=xH ((xU HBU).on hb2)
     obtain ⟨k0,k1,k2⟩:=(xU HL8).kb.cells
     obtain ⟨m0,m1,m2⟩:=(xU HL8).mb.cells
     obtain ⟨z0,z1,z2,z3,z4⟩:=(xU HL8).tb.cells
     simp only at k0 k1 k2 m0 m1 m2 z0 z1 z2 z3 z4
     clear hb2 HL7 HFS
     obtain ⟨r0,r1,r2,r3,r4⟩:=(xU HBW).cells
     simp only at r0 r1 r2 r3 r4
     obtain ⟨y0,y1,y2,y3,y4⟩:=(xU HBU).cells
     simp only at y0 y1 y2 y3 y4
     go_wp2_with fail
     clear k0 k1 k2 m0 m1 m2 z0 z1 z2 z3 z4
     clear r0 r1 r2 r3 r4
     clear y0 y1 y2 y3 y4
     refine (xU HTT u _ _ ⟨.int .i64 u.sort,.int .i64 u.num,.string u.text,.slice v1 u.names.length vap1,.slice v2 u.kids.length vap2⟩ ⟨.int .i64 u.sort,.int .i64 u.num,.string u.text,.slice s1 u.names.length sap1,.slice s2 u.kids.length sap2⟩ w6 (xU HBU) (xU HBW)).mono ?_
     rintro e w7 ⟨rfl,hb2⟩
     have HL9:=xH ((xU HL8).on hb2)
     replace HBW:=xH ((xU HBW).on hb2)
     replace HBU:=xH ((xU HBU).on hb2)
     obtain ⟨k0,k1,k2⟩:=(xU HL9).kb.cells
     obtain ⟨m0,m1,m2⟩:=(xU HL9).mb.cells
     obtain ⟨z0,z1,z2,z3,z4⟩:=(xU HL9).tb.cells
     simp only at k0 k1 k2 m0 m1 m2 z0 z1 z2 z3 z4
     obtain ⟨y0,y1,y2,y3,y4⟩:=(xU HBU).cells
     simp only at y0 y1 y2 y3 y4
     clear hb2 HL8
     go_wp2_with fail
     clear k0 k1 k2 m0 m1 m2 z0 z1 z2 z3 z4
     clear y0 y1 y2 y3 y4
     refine (xU HIS w7 (xU HL9)).mono ?_
     intro e w8 hc
     obtain ⟨dw,rfl,hr2,hb2⟩:=hc.rep
     simp only [wAn,Option.getD_some,Option.isSome_some] at hr2 ⊢
     have HL10:=xH ((xU HL9).on hb2)
     replace HBW:=xH ((xU HBW).on hb2)
     replace HBU:=xH ((xU HBU).on hb2)
     have hr3:=Rep.carry (w:=w8) (w':=w8) (Q:=fun y=>y < w8.heap.size) (fun _ _=>rfl) (fun y hy=>hy.2) _ _ hr2
     obtain ⟨n1,nap1,n2,nap2,rfl⟩:=rep_form5 hr3
     have hbx:=TB6.start (xU HL10).kb.below hr3
     have hba:=(Below.refl w8.heap.size w8).alloc (Nat.le_refl _) (.cells #[.int .i64 t.sort,.int .i64 t.num,.string t.text,.slice n1 t.names.length nap1,.slice n2 t.kids.length nap2] 29)
     obtain ⟨W8,hWq⟩:∃ W8,w8.alloc (.cells #[.int .i64 t.sort,.int .i64 t.num,.string t.text,.slice n1 t.names.length nap1,.slice n2 t.kids.length nap2] 29)=W8:=⟨_,rfl⟩
     rw [hWq] at hbx hba
     have HL11:=xH ((xU HL10).on hba)
     replace HBW:=xH ((xU HBW).on hba)
     replace HBU:=xH ((xU HBU).on hba)
     have HBS:=xH hbx;have HWQ:=xH hWq
     have lk:=(xU HL10).kb.box.lt;have lm:=(xU HL10).mb.box.lt;have lt:=(xU HL10).tb.box.lt
     obtain ⟨k0,k1,k2⟩:=(xU HL10).kb.cells
     obtain ⟨m0,m1,m2⟩:=(xU HL10).mb.cells
     obtain ⟨z0,z1,z2,z3,z4⟩:=(xU HL10).tb.cells
     simp only at k0 k1 k2 m0 m1 m2 z0 z1 z2 z3 z4
     obtain ⟨k0',k1',k2'⟩:=(xU HL11).kb.cells
     obtain ⟨m0',m1',m2'⟩:=(xU HL11).mb.cells
     obtain ⟨z0',z1',z2',z3',z4'⟩:=(xU HL11).tb.cells
     simp only at k0' k1' k2' m0' m1' m2' z0' z1' z2' z3' z4'
     clear hc hr2 hr3 hb2 hbx hba hWq HL10 HIS
     go_wp2_with fail
     rw [xU HWQ]
     clear HWQ lk lm lt
     clear k0 k1 k2 m0 m1 m2 z0 z1 z2 z3 z4
     clear k0' k1' k2' m0' m1' m2' z0' z1' z2' z3' z4'
     refine (xU HTT t _ _ ⟨.int .i64 t.sort,.int .i64 t.num,.string t.text,.slice n1 t.names.length nap1,.slice n2 t.kids.length nap2⟩ ⟨.int .i64 t.sort,.int .i64 t.num,.string t.text,.slice t1 t.names.length tap1,.slice t2 t.kids.length tap2⟩ W8 (xU HBS) (xU HL11).tb).mono ?_
     rintro e w9 ⟨rfl,hb2⟩
     have HL12:=xH ((xU HL11).on hb2)
     replace HBU:=xH ((xU HBU).on hb2)
     obtain ⟨y0,y1,y2,y3,y4⟩:=(xU HBU).cells
     simp only at y0 y1 y2 y3 y4
     clear hb2 HL11 HBS HBW
     have hu1:=xU HU0
     have hu2:(u.sort==0)=true:=by rw [hu1];rfl
     clear hu1
     go_wp2_with fail
     go_ret
     exact ⟨rfl,(xU HL12).kb.below⟩
   · simp only [ho] at hsw hiw
     simp only [hh] at hhs
     simp only [hq] at hok hfs
     obtain ⟨u,hu⟩:∃ u,tr0=u:=⟨_,rfl⟩
     have hu0:u.sort=0:=by rw [← hu];rfl
     have hwu:wAn none=u:=hu
     have HSW:=xH hsw
     have HHS:=xH hhs
     have HOK:=xH hok
     have HIW:=xH hiw
     have HFS:=xH hfs
     have HIS:=xH his
     have HFI:=xH hfi
     have HPT:=xH hpt
     have HWM:=xH hwm2
     clear hsw hhs hok hiw hfs his hfi hpt ho hh hq hwm2 hwk hwm hd hs hlen
     have HU0:=xH hu0;have HWU:=xH hwu
     clear hu hu0 hwu
     have HL1:=HL
     clear HL
     go_wp2_with fail
     rw [xU HW1]
     clear HW1
     refine (xU HSW W1 (xU HL1)).mono ?_
     intro e w2 hc
     obtain ⟨dw,rfl,hr2,hb2⟩:=hc.rep
     rw [xU HWU] at hr2
     simp only [Option.isSome_none]
     have HL2:=xH ((xU HL1).on hb2)
     have hr3:=Rep.carry (w:=w2) (w':=w2) (Q:=fun y=>y < w2.heap.size) (fun _ _=>rfl) (fun y hy=>hy.2) _ _ hr2
     obtain ⟨s1,sap1,s2,sap2,rfl⟩:=rep_form5 hr3
     have hbx:=TB6.start (xU HL2).kb.below hr3
     have hba:=(Below.refl w2.heap.size w2).alloc (Nat.le_refl _) (.cells #[.int .i64 u.sort,.int .i64 u.num,.string u.text,.slice s1 u.names.length sap1,.slice s2 u.kids.length sap2] 29)
     obtain ⟨W2,hWq⟩:∃ W2,w2.alloc (.cells #[.int .i64 u.sort,.int .i64 u.num,.string u.text,.slice s1 u.names.length sap1,.slice s2 u.kids.length sap2] 29)=W2:=⟨_,rfl⟩
     rw [hWq] at hbx hba
     have HL3:=xH ((xU HL2).on hba)
     have HBW:=xH hbx;have HWQ:=xH hWq
     have lk:=(xU HL2).kb.box.lt;have lm:=(xU HL2).mb.box.lt;have lt:=(xU HL2).tb.box.lt
     obtain ⟨k0,k1,k2⟩:=(xU HL2).kb.cells
     obtain ⟨m0,m1,m2⟩:=(xU HL2).mb.cells
     obtain ⟨z0,z1,z2,z3,z4⟩:=(xU HL2).tb.cells
     simp only at k0 k1 k2 m0 m1 m2 z0 z1 z2 z3 z4
     obtain ⟨k0',k1',k2'⟩:=(xU HL3).kb.cells
     obtain ⟨m0',m1',m2'⟩:=(xU HL3).mb.cells
     obtain ⟨z0',z1',z2',z3',z4'⟩:=(xU HL3).tb.cells
     simp only at k0' k1' k2' m0' m1' m2' z0' z1' z2' z3' z4'
     clear hc hr2 hr3 hb2 hbx hba hWq HL2 HSW
     go_wp2_with fail
     rw [xU HWQ]
     clear HWQ lk lm lt
     clear k0 k1 k2 m0 m1 m2 z0 z1 z2 z3 z4
     clear k0' k1' k2' m0' m1' m2' z0' z1' z2' z3' z4'
     refine (xU HHS W2 (xU HL3)).mono ?_
     rintro e w3 ⟨rfl,hb2⟩
     have HL4:=xH ((xU HL3).on hb2)
     replace HBW:=xH ((xU HBW).on hb2)
     obtain ⟨k0,k1,k2⟩:=(xU HL4).kb.cells
     obtain ⟨m0,m1,m2⟩:=(xU HL4).mb.cells
     obtain ⟨z0,z1,z2,z3,z4⟩:=(xU HL4).tb.cells
     simp only at k0 k1 k2 m0 m1 m2 z0 z1 z2 z3 z4
     clear hb2 HL3 HHS
     go_wp2_with fail
     clear k0 k1 k2 m0 m1 m2 z0 z1 z2 z3 z4
     refine (xU HOK w3 (xU HL4)).mono ?_
     rintro e w4 ⟨rfl,hb2⟩
     have HL5:=xH ((xU HL4).on hb2)
     replace HBW:=xH ((xU HBW).on hb2)
     obtain ⟨k0,k1,k2⟩:=(xU HL5).kb.cells
     obtain ⟨m0,m1,m2⟩:=(xU HL5).mb.cells
     obtain ⟨z0,z1,z2,z3,z4⟩:=(xU HL5).tb.cells
     simp only at k0 k1 k2 m0 m1 m2 z0 z1 z2 z3 z4
     clear hb2 HL4 HOK
     go_wp2_with fail
     clear k0 k1 k2 m0 m1 m2 z0 z1 z2 z3 z4
     refine (xU HIW w4 (xU HL5)).mono ?_
     intro e w5 hc
     obtain ⟨dw,rfl,hr2,hb2⟩:=hc.rep
     rw [xU HWU] at hr2
     simp only [Option.isSome_none]
     have HL6:=xH ((xU HL5).on hb2)
     replace HBW:=xH ((xU HBW).on hb2)
     have hr3:=Rep.carry (w:=w5) (w':=w5) (Q:=fun y=>y < w5.heap.size) (fun _ _=>rfl) (fun y hy=>hy.2) _ _ hr2
     obtain ⟨v1,vap1,v2,vap2,rfl⟩:=rep_form5 hr3
     have hbx:=TB6.start (xU HL6).kb.below hr3
     have hba:=(Below.refl w5.heap.size w5).alloc (Nat.le_refl _) (.cells #[.int .i64 u.sort,.int .i64 u.num,.string u.text,.slice v1 u.names.length vap1,.slice v2 u.kids.length vap2] 29)
     obtain ⟨W5,hWq⟩:∃ W5,w5.alloc (.cells #[.int .i64 u.sort,.int .i64 u.num,.string u.text,.slice v1 u.names.length vap1,.slice v2 u.kids.length vap2] 29)=W5:=⟨_,rfl⟩
     rw [hWq] at hbx hba
     have HL7:=xH ((xU HL6).on hba)
     replace HBW:=xH ((xU HBW).on hba)
     have HBU:=xH hbx;have HWQ:=xH hWq
     have lk:=(xU HL6).kb.box.lt;have lm:=(xU HL6).mb.box.lt;have lt:=(xU HL6).tb.box.lt
     obtain ⟨k0,k1,k2⟩:=(xU HL6).kb.cells
     obtain ⟨m0,m1,m2⟩:=(xU HL6).mb.cells
     obtain ⟨z0,z1,z2,z3,z4⟩:=(xU HL6).tb.cells
     simp only at k0 k1 k2 m0 m1 m2 z0 z1 z2 z3 z4
     obtain ⟨k0',k1',k2'⟩:=(xU HL7).kb.cells
     obtain ⟨m0',m1',m2'⟩:=(xU HL7).mb.cells
     obtain ⟨z0',z1',z2',z3',z4'⟩:=(xU HL7).tb.cells
     simp only at k0' k1' k2' m0' m1' m2' z0' z1' z2' z3' z4'
     clear hc hr2 hr3 hb2 hbx hba hWq HL6 HIW
     go_wp2_with fail
     rw [xU HWQ]
     clear HWQ lk lm lt
     clear k0 k1 k2 m0 m1 m2 z0 z1 z2 z3 z4
     clear k0' k1' k2' m0' m1' m2' z0' z1' z2' z3' z4'
     refine (xU HFS W5 (xU HL7)).mono ?_
     rintro e w6 ⟨rfl,hb2⟩
     have HL8:=xH ((xU HL7).on hb2)
     replace HBW:=xH ((xU HBW).on hb2)
     replace HBU:=xH ((xU HBU).on hb2)
     obtain ⟨k0,k1,k2⟩:=(xU HL8).kb.cells
     obtain ⟨m0,m1,m2⟩:=(xU HL8).mb.cells
     obtain ⟨z0,z1,z2,z3,z4⟩:=(xU HL8).tb.cells
     simp only at k0 k1 k2 m0 m1 m2 z0 z1 z2 z3 z4
     clear hb2 HL7 HFS
     obtain ⟨r0,r1,r2,r3,r4⟩:=(xU HBW).cells
     simp only at r0 r1 r2 r3 r4
     obtain ⟨y0,y1,y2,y3,y4⟩:=(xU HBU).cells
     simp only at y0 y1 y2 y3 y4
     go_wp2_with fail
     clear k0 k1 k2 m0 m1 m2 z0 z1 z2 z3 z4
     clear r0 r1 r2 r3 r4
     clear y0 y1 y2 y3 y4
     refine (xU HTT u _ _ ⟨.int .i64 u.sort,.int .i64 u.num,.string u.text,.slice v1 u.names.length vap1,.slice v2 u.kids.length vap2⟩ ⟨.int .i64 u.sort,.int .i64 u.num,.string u.text,.slice s1 u.names.length sap1,.slice s2 u.kids.length sap2⟩ w6 (xU HBU) (xU HBW)).mono ?_
     rintro e w7 ⟨rfl,hb2⟩
     have HL9:=xH ((xU HL8).on hb2)
     replace HBW:=xH ((xU HBW).on hb2)
     replace HBU:=xH ((xU HBU).on hb2)
     obtain ⟨k0,k1,k2⟩:=(xU HL9).kb.cells
     obtain ⟨m0,m1,m2⟩:=(xU HL9).mb.cells
     obtain ⟨z0,z1,z2,z3,z4⟩:=(xU HL9).tb.cells
     simp only at k0 k1 k2 m0 m1 m2 z0 z1 z2 z3 z4
     obtain ⟨y0,y1,y2,y3,y4⟩:=(xU HBU).cells
     simp only at y0 y1 y2 y3 y4
     clear hb2 HL8
     have hu1:=xU HU0
     have hu2:(u.sort==0)=true:=by rw [hu1];rfl
     clear hu1
     go_wp2_with fail
     go_ret
     exact ⟨rfl,(xU HL9).kb.below⟩
   · simp only [ho] at hsw hiw
     simp only [hh] at hhs
     simp only [hq] at hok hfs
     obtain ⟨u,hu⟩:∃ u,tr0=u:=⟨_,rfl⟩
     have hu0:u.sort=0:=by rw [← hu];rfl
     have hwu:wAn none=u:=hu
     have HSW:=xH hsw
     have HHS:=xH hhs
     have HOK:=xH hok
     have HIW:=xH hiw
     have HFS:=xH hfs
     have HIS:=xH his
     have HFI:=xH hfi
     have HPT:=xH hpt
     have HWM:=xH hwm2
     clear hsw hhs hok hiw hfs his hfi hpt ho hh hq hwm2 hwk hwm hd hs hlen
     have HU0:=xH hu0;have HWU:=xH hwu
     clear hu hu0 hwu
     have HL1:=HL
     clear HL
     go_wp2_with fail
     rw [xU HW1]
     clear HW1
     refine (xU HSW W1 (xU HL1)).mono ?_
     intro e w2 hc
     obtain ⟨dw,rfl,hr2,hb2⟩:=hc.rep
     rw [xU HWU] at hr2
     simp only [Option.isSome_none]
     have HL2:=xH ((xU HL1).on hb2)
     have hr3:=Rep.carry (w:=w2) (w':=w2) (Q:=fun y=>y < w2.heap.size) (fun _ _=>rfl) (fun y hy=>hy.2) _ _ hr2
     obtain ⟨s1,sap1,s2,sap2,rfl⟩:=rep_form5 hr3
     have hbx:=TB6.start (xU HL2).kb.below hr3
     have hba:=(Below.refl w2.heap.size w2).alloc (Nat.le_refl _) (.cells #[.int .i64 u.sort,.int .i64 u.num,.string u.text,.slice s1 u.names.length sap1,.slice s2 u.kids.length sap2] 29)
     obtain ⟨W2,hWq⟩:∃ W2,w2.alloc (.cells #[.int .i64 u.sort,.int .i64 u.num,.string u.text,.slice s1 u.names.length sap1,.slice s2 u.kids.length sap2] 29)=W2:=⟨_,rfl⟩
     rw [hWq] at hbx hba
     have HL3:=xH ((xU HL2).on hba)
     have HBW:=xH hbx;have HWQ:=xH hWq
     have lk:=(xU HL2).kb.box.lt;have lm:=(xU HL2).mb.box.lt;have lt:=(xU HL2).tb.box.lt
     obtain ⟨k0,k1,k2⟩:=(xU HL2).kb.cells
     obtain ⟨m0,m1,m2⟩:=(xU HL2).mb.cells
     obtain ⟨z0,z1,z2,z3,z4⟩:=(xU HL2).tb.cells
     simp only at k0 k1 k2 m0 m1 m2 z0 z1 z2 z3 z4
     obtain ⟨k0',k1',k2'⟩:=(xU HL3).kb.cells
     obtain ⟨m0',m1',m2'⟩:=(xU HL3).mb.cells
     obtain ⟨z0',z1',z2',z3',z4'⟩:=(xU HL3).tb.cells
     simp only at k0' k1' k2' m0' m1' m2' z0' z1' z2' z3' z4'
     clear hc hr2 hr3 hb2 hbx hba hWq HL2 HSW
     go_wp2_with fail
     rw [xU HWQ]
     clear HWQ lk lm lt
     clear k0 k1 k2 m0 m1 m2 z0 z1 z2 z3 z4
     clear k0' k1' k2' m0' m1' m2' z0' z1' z2' z3' z4'
     refine (xU HHS W2 (xU HL3)).mono ?_
     rintro e w3 ⟨rfl,hb2⟩
     have HL4:=xH ((xU HL3).on hb2)
     replace HBW:=xH ((xU HBW).on hb2)
     obtain ⟨k0,k1,k2⟩:=(xU HL4).kb.cells
     obtain ⟨m0,m1,m2⟩:=(xU HL4).mb.cells
     obtain ⟨z0,z1,z2,z3,z4⟩:=(xU HL4).tb.cells
     simp only at k0 k1 k2 m0 m1 m2 z0 z1 z2 z3 z4
     clear hb2 HL3 HHS
     go_wp2_with fail
     clear k0 k1 k2 m0 m1 m2 z0 z1 z2 z3 z4
     refine (xU HOK w3 (xU HL4)).mono ?_
     rintro e w4 ⟨rfl,hb2⟩
     have HL5:=xH ((xU HL4).on hb2)
     replace HBW:=xH ((xU HBW).on hb2)
     obtain ⟨k0,k1,k2⟩:=(xU HL5).kb.cells
     obtain ⟨m0,m1,m2⟩:=(xU HL5).mb.cells
     obtain ⟨z0,z1,z2,z3,z4⟩:=(xU HL5).tb.cells
     simp only at k0 k1 k2 m0 m1 m2 z0 z1 z2 z3 z4
     clear hb2 HL4 HOK
     go_wp2_with fail
     clear k0 k1 k2 m0 m1 m2 z0 z1 z2 z3 z4
     refine (xU HIW w4 (xU HL5)).mono ?_
     intro e w5 hc
     obtain ⟨dw,rfl,hr2,hb2⟩:=hc.rep
     rw [xU HWU] at hr2
     simp only [Option.isSome_none]
     have HL6:=xH ((xU HL5).on hb2)
     replace HBW:=xH ((xU HBW).on hb2)
     have hr3:=Rep.carry (w:=w5) (w':=w5) (Q:=fun y=>y < w5.heap.size) (fun _ _=>rfl) (fun y hy=>hy.2) _ _ hr2
     obtain ⟨v1,vap1,v2,vap2,rfl⟩:=rep_form5 hr3
     have hbx:=TB6.start (xU HL6).kb.below hr3
     have hba:=(Below.refl w5.heap.size w5).alloc (Nat.le_refl _) (.cells #[.int .i64 u.sort,.int .i64 u.num,.string u.text,.slice v1 u.names.length vap1,.slice v2 u.kids.length vap2] 29)
     obtain ⟨W5,hWq⟩:∃ W5,w5.alloc (.cells #[.int .i64 u.sort,.int .i64 u.num,.string u.text,.slice v1 u.names.length vap1,.slice v2 u.kids.length vap2] 29)=W5:=⟨_,rfl⟩
     rw [hWq] at hbx hba
     have HL7:=xH ((xU HL6).on hba)
     replace HBW:=xH ((xU HBW).on hba)
     have HBU:=xH hbx;have HWQ:=xH hWq
     have lk:=(xU HL6).kb.box.lt;have lm:=(xU HL6).mb.box.lt;have lt:=(xU HL6).tb.box.lt
     obtain ⟨k0,k1,k2⟩:=(xU HL6).kb.cells
     obtain ⟨m0,m1,m2⟩:=(xU HL6).mb.cells
     obtain ⟨z0,z1,z2,z3,z4⟩:=(xU HL6).tb.cells
     simp only at k0 k1 k2 m0 m1 m2 z0 z1 z2 z3 z4
     obtain ⟨k0',k1',k2'⟩:=(xU HL7).kb.cells
     obtain ⟨m0',m1',m2'⟩:=(xU HL7).mb.cells
     obtain ⟨z0',z1',z2',z3',z4'⟩:=(xU HL7).tb.cells
     simp only at k0' k1' k2' m0' m1' m2' z0' z1' z2' z3' z4'
     clear hc hr2 hr3 hb2 hbx hba hWq HL6 HIW
     go_wp2_with fail
     rw [xU HWQ]
     clear HWQ lk lm lt
     clear k0 k1 k2 m0 m1 m2 z0 z1 z2 z3 z4
     clear k0' k1' k2' m0' m1' m2' z0' z1' z2' z3' z4'
     refine (xU HFS W5 (xU HL7)).mono ?_
     rintro e w6 ⟨rfl,hb2⟩
     have HL8:=xH ((xU HL7).on hb2)
     replace HBW:=xH ((xU HBW).on hb2)
     replace HBU:=xH ((xU HBU).on hb2)
     obtain ⟨k0,k1,k2⟩:=(xU HL8).kb.cells
     obtain ⟨m0,m1,m2⟩:=(xU HL8).mb.cells
     obtain ⟨z0,z1,z2,z3,z4⟩:=(xU HL8).tb.cells
     simp only at k0 k1 k2 m0 m1 m2 z0 z1 z2 z3 z4
     clear hb2 HL7 HFS
     obtain ⟨r0,r1,r2,r3,r4⟩:=(xU HBW).cells
     simp only at r0 r1 r2 r3 r4
     obtain ⟨y0,y1,y2,y3,y4⟩:=(xU HBU).cells
     simp only at y0 y1 y2 y3 y4
     go_wp2_with fail
     clear k0 k1 k2 m0 m1 m2 z0 z1 z2 z3 z4
     clear r0 r1 r2 r3 r4
     clear y0 y1 y2 y3 y4
     refine (xU HTT u _ _ ⟨.int .i64 u.sort,.int .i64 u.num,.string u.text,.slice v1 u.names.length vap1,.slice v2 u.kids.length vap2⟩ ⟨.int .i64 u.sort,.int .i64 u.num,.string u.text,.slice s1 u.names.length sap1,.slice s2 u.kids.length sap2⟩ w6 (xU HBU) (xU HBW)).mono ?_
     rintro e w7 ⟨rfl,hb2⟩
     have HL9:=xH ((xU HL8).on hb2)
     replace HBW:=xH ((xU HBW).on hb2)
     replace HBU:=xH ((xU HBU).on hb2)
     obtain ⟨k0,k1,k2⟩:=(xU HL9).kb.cells
     obtain ⟨m0,m1,m2⟩:=(xU HL9).mb.cells
     obtain ⟨z0,z1,z2,z3,z4⟩:=(xU HL9).tb.cells
     simp only at k0 k1 k2 m0 m1 m2 z0 z1 z2 z3 z4
     obtain ⟨y0,y1,y2,y3,y4⟩:=(xU HBU).cells
     simp only at y0 y1 y2 y3 y4
     clear hb2 HL8
     have hu1:=xU HU0
     have hu2:(u.sort==0)=true:=by rw [hu1];rfl
     clear hu1
     go_wp2_with fail
     go_ret
     exact ⟨rfl,(xU HL9).kb.below⟩
 · have hd:decide ((1048576:Int) < (l.length:Int))=true:=by simp;omega
   go_enter Tryz.func3,Tryz.ntmps3
   go_wp2_with fail
   go_ret
   exact ⟨rfl,Below.refl _ _⟩
end Go.Proofs.YteefjeddboefcaaGreatDoor

namespace Go.Proofs.YteefjeddboefcaaGreatDoor
open Go Go.RowKit Go.ChangeShapes Go.WideShapes Go.ChangeAt
theorem cellsU8:Tryz.prog.cellsOf 5=1:=by kernel_rfl
section
variable {H:Type} {enc:TypeId × Value→H} {W:World} {spare:Nat→Bool} {held:Bool}
theorem bytes_cap {fuel:Nat} {a:Option Addr} {len cap:Nat} {x:DataW H × List MemPlace} (h:DataW.trod enc Tryz.prog W 0 spare held fuel 22 [.slice a len cap]=some x):len≤cap:=by
 rcases open_ints Tryz.underlying22 Tryz.underlying5 cellsU8 h with ⟨hcs,-⟩ | ⟨a',len',cap',zs,hcs,-,hl,-⟩
 · simp only [List.cons.injEq,Value.slice.injEq,and_true] at hcs
   omega
 · simp only [List.cons.injEq,Value.slice.injEq,and_true] at hcs
   omega
theorem bytes_of_trod {fuel:Nat} {v:Value} {x:DataW H × List MemPlace} (h:DataW.trod enc Tryz.prog W 0 spare held fuel 22 [v]=some x) :
 ∃ l,BytesAt W v l:=by
 rcases open_ints Tryz.underlying22 Tryz.underlying5 cellsU8 h with ⟨hcs,-⟩ | ⟨a,len,cap,zs,hcs,-,hl,hm,hz,-,hcell,hws⟩
 · simp only [List.cons.injEq,and_true] at hcs
   exact ⟨[],none,0,hcs,by simp,fun i hi=>by simp at hi⟩
 · simp only [List.cons.injEq,and_true] at hcs
   have hle:len≤zs.length:=by rw [hz];split <;> omega
   unfold maxLen at hm
   have hlen:((zs.take len).map (fun z=>UInt8.ofNat z.toNat)).length=len:=by simp;omega
   refine ⟨(zs.take len).map (fun z=>UInt8.ofNat z.toNat),some a,cap,by rw [hcs,hlen],by rw [hlen];omega,fun i hi=>?_⟩
   have hi':i < len:=by rw [hlen] at hi;exact hi
   obtain ⟨b,off,spot⟩:=a
   have hspot:spot=none:=by simpa [Addr.add] using World.cell?_spot (hcell 0 (by omega))
   subst hspot
   have hc:=hcell i (by omega)
   rw [Addr.add_lit] at hc
   refine ⟨b,off,rfl,World.block_lt_of_cell? W _ hc,?_⟩
   have hb:=bounds_u8 (hws (zs[i]'(by omega)) (List.getElem_mem (by omega)))
   rw [hc]
   have e1:zs.getD i 0=zs[i]'(by omega):=by simp [show i < zs.length by omega]
   have e2:(((zs.take len).map (fun z=>UInt8.ofNat z.toNat))[i]'hi)=UInt8.ofNat (zs[i]'(by omega)).toNat:=by simp
   rw [e1,e2,show (UInt8.ofNat (zs[i]'(by omega)).toNat).toNat=(zs[i]'(by omega)).toNat from by simp;omega,show (((zs[i]'(by omega)).toNat:Nat):Int)=zs[i]'(by omega) from by omega]
end
end Go.Proofs.YteefjeddboefcaaGreatDoor

namespace Go.Proofs.YteefjeddboefcaaGreatDoor
open Go Go.RowKit Go.ChangeShapes Go.WideShapes Go.ChangeAt Go.Deep
theorem gTab:Tryz.prog.globalNamed "loop.example/teagle/impl.treeFields" = some 1:=by kernel_rfl
theorem gTabType:(Tryz.prog.globals[1]?).map (·.type)=some 172:=by kernel_rfl
theorem cellsHas:Tryz.prog.cellsOf 171=4:=by kernel_rfl
theorem cellsTab:Tryz.prog.cellsOf 172=28:=by kernel_rfl
theorem oneHas:∃ fs:Array Field,Tryz.prog.underlying 171=some (.struct fs)∧oneCellFields Tryz.prog fs=true∧fs.map (·.type)=#[4,4,4,4]:=⟨_,Tryz.underlying171,by kernel_rfl,by kernel_rfl⟩
section
variable {H:Type} {enc:TypeId × Value→H} {W:World} {spare:Nat→Bool} {held:Bool}
theorem has_of_trod {fuel:Nat} {cs:List Value} {x:DataW H × List MemPlace} (h:DataW.trod enc Tryz.prog W 0 spare held fuel 171 cs=some x) :
 ∃ b0 b1 b2 b3:Bool,cs=[.bool b0,.bool b1,.bool b2,.bool b3]∧x.1=.agg [.lit (.bool b0),.lit (.bool b1),.lit (.bool b2),.lit (.bool b3)]:=by
 obtain ⟨fs,hu,hone,hty⟩:=oneHas
 obtain ⟨xs,n,hn,hx,hlen,hxl,hf⟩:=DataW.trod_struct hu h
 rw [cellsHas] at hlen
 match cs,hlen with
 | [c0,c1,c2,c3],_ =>
   have hsz:fs.size=4:=by have:=congrArg Array.size hty;simpa using this
   have hfield:∀ (i:Nat),(hi:i < 4)→DataW.trod enc Tryz.prog W 0 spare held n 4 (([c0,c1,c2,c3].drop i).take 1)=some (xs[i]'(by omega)):=by
    intro i hi
    have hfi:fs[i]? = some (fs[i]'(by omega)):=Array.getElem?_eq_getElem (by omega)
    obtain ⟨ho,hc⟩:=hone_of hone i _ hfi
    have:=hf i _ hfi
    rw [ho,hc] at this
    have hTT:(fs[i]'(by omega)).type=4:=by
     have e:(fs.map (·.type))[i]? = some ((fs[i]'(by omega)).type):=by simp [hsz,hi]
     rw [hty] at e
     rcases (show i=0∨i=1∨i=2∨i=3 by omega) with rfl | rfl | rfl | rfl <;> simpa using e.symm
    rw [hTT] at this
    rw [this];exact List.getElem?_eq_getElem (by omega)
   obtain ⟨b0,e0,f0⟩:=DataW.trod_bool Tryz.underlying4 (hfield 0 (by omega))
   obtain ⟨b1,e1,f1⟩:=DataW.trod_bool Tryz.underlying4 (hfield 1 (by omega))
   obtain ⟨b2,e2,f2⟩:=DataW.trod_bool Tryz.underlying4 (hfield 2 (by omega))
   obtain ⟨b3,e3,f3⟩:=DataW.trod_bool Tryz.underlying4 (hfield 3 (by omega))
   simp only [List.drop_succ_cons,List.drop_zero,List.take_succ_cons,List.take_zero,List.cons.injEq,and_true] at e0 e1 e2 e3
   refine ⟨b0,b1,b2,b3,by rw [e0,e1,e2,e3],?_⟩
   obtain ⟨x0,x1,x2,x3,hxs⟩:∃ x0 x1 x2 x3,xs=[x0,x1,x2,x3]:=by
    match xs,hxl.trans hsz with
    | [x0,x1,x2,x3],_=>exact ⟨x0,x1,x2,x3,rfl⟩
   subst hxs
   simp only [List.getElem_cons_zero,List.getElem_cons_succ] at f0 f1 f2 f3
   rw [hx,f0,f1,f2,f3]
   rfl
end
theorem tab_of_laid {W:World} (h:laidMetH Tryz.prog [("loop.example/teagle/impl.treeFields", Rows.laid_loop_example_teagle_impl_treeFields)] W):Tab W:=by
 rw [MakeChecks.laidMetH_plain _ _ _ (by kernel_rfl)] at h
 obtain ⟨ps,⟨g0,t0,cs0,f0,p0,q0,hg0,ht0,hv0,hd0,_,_⟩,_,_⟩:=h
 obtain rfl:=Option.some.inj (gTab.symm.trans hg0)
 obtain rfl:=Option.some.inj (gTabType.symm.trans ht0)
 obtain ⟨xs,m,-,hx,hlen,hxl,hel⟩:=DataW.trod_array Tryz.underlying172 hd0
 rw [cellsHas] at hel
 rw [cellsTab] at hlen
 have hcell:=World.var?_cell hg0 hv0
 have key:∀ i,(hi:i < 7)→∃ b0 b1 b2 b3:Bool,(cs0.toList.drop (i * 4)).take 4=[.bool b0,.bool b1,.bool b2,.bool b3]∧(xs[i]'(by omega)).1=.agg [.lit (.bool b0),.lit (.bool b1),.lit (.bool b2),.lit (.bool b3)]:=fun i hi=>by
  have:=hel i hi
  rw [List.getElem?_eq_getElem (by omega)] at this
  exact has_of_trod this
 obtain ⟨x0,x1,x2,x3,x4,x5,x6,hxs⟩:∃ x0 x1 x2 x3 x4 x5 x6,xs=[x0,x1,x2,x3,x4,x5,x6]:=by
  match xs,hxl with
  | [x0,x1,x2,x3,x4,x5,x6],_=>exact ⟨x0,x1,x2,x3,x4,x5,x6,rfl⟩
 subst hxs
 simp only [Prod.mk.injEq,Rows.laid_loop_example_teagle_impl_treeFields,DataW.agg.injEq,List.map_cons,List.map_nil,List.cons.injEq,and_true] at hx
 obtain ⟨⟨g0,g1,g2,g3,g4,g5,g6⟩,-⟩:=hx
 obtain ⟨l⟩:=cs0
 simp only at hlen hcell key
 have cellk:∀ i j,j < 4→l[i * 4+j]? = ((l.drop (i * 4)).take 4)[j]? := fun i j hj=>by
  rw [List.getElem?_take_of_lt hj,List.getElem?_drop]
 obtain ⟨a0,a1,a2,a3,l0,d0⟩:=key 0 (by omega)
 simp only [List.getElem_cons_zero] at d0
 rw [d0] at g0
 simp only [DataW.agg.injEq,List.cons.injEq,DataW.lit.injEq,Lit.bool.injEq,and_true] at g0
 obtain ⟨rfl,rfl,rfl,rfl⟩:=g0
 obtain ⟨a0,a1,a2,a3,l1,d1⟩:=key 1 (by omega)
 simp only [List.getElem_cons_zero,List.getElem_cons_succ] at d1
 rw [d1] at g1
 simp only [DataW.agg.injEq,List.cons.injEq,DataW.lit.injEq,Lit.bool.injEq,and_true] at g1
 obtain ⟨rfl,rfl,rfl,rfl⟩:=g1
 obtain ⟨a0,a1,a2,a3,l2,d2⟩:=key 2 (by omega)
 simp only [List.getElem_cons_zero,List.getElem_cons_succ] at d2
 rw [d2] at g2
 simp only [DataW.agg.injEq,List.cons.injEq,DataW.lit.injEq,Lit.bool.injEq,and_true] at g2
 obtain ⟨rfl,rfl,rfl,rfl⟩:=g2
 obtain ⟨a0,a1,a2,a3,l3,d3⟩:=key 3 (by omega)
 simp only [List.getElem_cons_zero,List.getElem_cons_succ] at d3
 rw [d3] at g3
 simp only [DataW.agg.injEq,List.cons.injEq,DataW.lit.injEq,Lit.bool.injEq,and_true] at g3
 obtain ⟨rfl,rfl,rfl,rfl⟩:=g3
 obtain ⟨a0,a1,a2,a3,l4,d4⟩:=key 4 (by omega)
 simp only [List.getElem_cons_zero,List.getElem_cons_succ] at d4
 rw [d4] at g4
 simp only [DataW.agg.injEq,List.cons.injEq,DataW.lit.injEq,Lit.bool.injEq,and_true] at g4
 obtain ⟨rfl,rfl,rfl,rfl⟩:=g4
 obtain ⟨a0,a1,a2,a3,l5,d5⟩:=key 5 (by omega)
 simp only [List.getElem_cons_zero,List.getElem_cons_succ] at d5
 rw [d5] at g5
 simp only [DataW.agg.injEq,List.cons.injEq,DataW.lit.injEq,Lit.bool.injEq,and_true] at g5
 obtain ⟨rfl,rfl,rfl,rfl⟩:=g5
 obtain ⟨a0,a1,a2,a3,l6,d6⟩:=key 6 (by omega)
 simp only [List.getElem_cons_zero,List.getElem_cons_succ] at d6
 rw [d6] at g6
 simp only [DataW.agg.injEq,List.cons.injEq,DataW.lit.injEq,Lit.bool.injEq,and_true] at g6
 obtain ⟨rfl,rfl,rfl,rfl⟩:=g6
 have hc':∀ k,W.cell? ⟨1,k,none⟩=l[k]? := fun k=>(hcell k).trans (by simp)
 intro k hk
 rw [hc' k]
 have hcase:k=0∨k=1∨k=2∨k=3∨k=4∨k=5∨k=6∨k=7∨k=8∨k=9∨k=10∨k=11∨k=12∨k=13∨k=14∨k=15∨k=16∨k=17∨k=18∨k=19∨k=20∨k=21∨k=22∨k=23∨k=24∨k=25∨k=26∨k=27:=by omega
 rcases hcase with rfl | rfl | rfl | rfl | rfl | rfl | rfl | rfl | rfl | rfl | rfl | rfl | rfl | rfl | rfl | rfl | rfl | rfl | rfl | rfl | rfl | rfl | rfl | rfl | rfl | rfl | rfl | rfl
 · exact (cellk 0 0 (by omega)).trans (congrArg (fun q=>q[0]?) l0)
 · exact (cellk 0 1 (by omega)).trans (congrArg (fun q=>q[1]?) l0)
 · exact (cellk 0 2 (by omega)).trans (congrArg (fun q=>q[2]?) l0)
 · exact (cellk 0 3 (by omega)).trans (congrArg (fun q=>q[3]?) l0)
 · exact (cellk 1 0 (by omega)).trans (congrArg (fun q=>q[0]?) l1)
 · exact (cellk 1 1 (by omega)).trans (congrArg (fun q=>q[1]?) l1)
 · exact (cellk 1 2 (by omega)).trans (congrArg (fun q=>q[2]?) l1)
 · exact (cellk 1 3 (by omega)).trans (congrArg (fun q=>q[3]?) l1)
 · exact (cellk 2 0 (by omega)).trans (congrArg (fun q=>q[0]?) l2)
 · exact (cellk 2 1 (by omega)).trans (congrArg (fun q=>q[1]?) l2)
 · exact (cellk 2 2 (by omega)).trans (congrArg (fun q=>q[2]?) l2)
 · exact (cellk 2 3 (by omega)).trans (congrArg (fun q=>q[3]?) l2)
 · exact (cellk 3 0 (by omega)).trans (congrArg (fun q=>q[0]?) l3)
 · exact (cellk 3 1 (by omega)).trans (congrArg (fun q=>q[1]?) l3)
 · exact (cellk 3 2 (by omega)).trans (congrArg (fun q=>q[2]?) l3)
 · exact (cellk 3 3 (by omega)).trans (congrArg (fun q=>q[3]?) l3)
 · exact (cellk 4 0 (by omega)).trans (congrArg (fun q=>q[0]?) l4)
 · exact (cellk 4 1 (by omega)).trans (congrArg (fun q=>q[1]?) l4)
 · exact (cellk 4 2 (by omega)).trans (congrArg (fun q=>q[2]?) l4)
 · exact (cellk 4 3 (by omega)).trans (congrArg (fun q=>q[3]?) l4)
 · exact (cellk 5 0 (by omega)).trans (congrArg (fun q=>q[0]?) l5)
 · exact (cellk 5 1 (by omega)).trans (congrArg (fun q=>q[1]?) l5)
 · exact (cellk 5 2 (by omega)).trans (congrArg (fun q=>q[2]?) l5)
 · exact (cellk 5 3 (by omega)).trans (congrArg (fun q=>q[3]?) l5)
 · exact (cellk 6 0 (by omega)).trans (congrArg (fun q=>q[0]?) l6)
 · exact (cellk 6 1 (by omega)).trans (congrArg (fun q=>q[1]?) l6)
 · exact (cellk 6 2 (by omega)).trans (congrArg (fun q=>q[2]?) l6)
 · exact (cellk 6 3 (by omega)).trans (congrArg (fun q=>q[3]?) l6)
end Go.Proofs.YteefjeddboefcaaGreatDoor
