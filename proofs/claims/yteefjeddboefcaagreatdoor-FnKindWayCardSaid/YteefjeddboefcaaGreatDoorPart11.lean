/- A part. -/
import Derived.Test.YteefjeddboefcaaGreatDoorPart10
import Derived.Deep.RegionHeld3
set_option maxRecDepth 100000
set_option maxHeartbeats 12800000
namespace Go.Proofs.YteefjeddboefcaaGreatDoor
open Go Go.RowKit
def DwEnd (w w':World) (e:Ending):Prop :=
 ∃ (k m:Kd) (c d:C3) (t:Tr) (x:C5),e=.returned (.tuple #[.agg #[c.c0,c.c1,c.c2],.agg #[d.c0,d.c1,d.c2],.agg #[x.c0,x.c1,x.c2,x.c3,x.c4]])∧KRep (fun y=>y < w'.heap.size) w' k c∧KRep (fun y=>y < w'.heap.size) w' m d∧Rep (fun y=>y < w'.heap.size) w' t x∧wKd k≤200000∧wKd m≤200000∧Below w.heap.size w w'
structure H0 (w W:World) (v:Value) (b:List UInt8) (p:Nat):Prop where
 below:Below w.heap.size w W
 bX:W.rowIs w.heap.size 26 3 (row3 (.int .i64 0) (.slice none 0 0) (.slice none 0 0))
 bY:W.rowIs (w.heap.size+1) 26 3 (row3 (.int .i64 0) (.slice none 0 0) (.slice none 0 0))
 bZ:W.rowIs (w.heap.size+2) 29 5 (row5 (.int .i64 0) (.int .i64 0) (.string ⟨#[]⟩) (.slice none 0 0) (.slice none 0 0))
 dr:DR (w.heap.size+3) W v b p
theorem H0.size {w W:World} {v:Value} {b:List UInt8} {p:Nat} (h:H0 w W v b p):w.heap.size+3 < W.heap.size:=h.dr.cells.lt
theorem H0.next {w W W':World} {v:Value} {b:List UInt8} {p p':Nat} (h:H0 w W v b p) (hd:DR (w.heap.size+3) W' v b p') (hb:But (w.heap.size+3) W W'):H0 w W' v b p':=by
 have hs:=h.size
 exact ⟨h.below.trans ⟨hb.os,hb.tape,hb.output,hb.size,fun i hi=>hb.at (by omega) (by omega)⟩,h.bX.of_block (hb.at h.bX.lt (by omega)),h.bY.of_block (hb.at h.bY.lt (by omega)),h.bZ.of_block (hb.at h.bZ.lt (by omega)),hd⟩
theorem H0.on {w W W':World} {v:Value} {b:List UInt8} {p:Nat} (h:H0 w W v b p) (hb:Below W.heap.size W W'):H0 w W' v b p:=h.next (h.dr.on hb) (But.of_below hb)
structure H3 (w W:World) (v:Value) (b:List UInt8) (p:Nat) (k:Kd) (c:C3) (A:Nat) (m:Kd) (d:C3) (B:Nat) (t:Tr) (x:C5) (C:Nat):Prop where
 h0:H0 w W v b p
 bA:W.rowIs A 26 3 (row3 c.c0 c.c1 c.c2)
 bB:W.rowIs B 26 3 (row3 d.c0 d.c1 d.c2)
 bC:W.rowIs C 29 5 (row5 x.c0 x.c1 x.c2 x.c3 x.c4)
 ka:KRep (fun y=>w.heap.size+3 < y∧y < C) W k c
 mb:KRep (fun y=>w.heap.size+3 < y∧y < C) W m d
 tc:Rep (fun y=>w.heap.size+3 < y∧y < C) W t x
 hA:w.heap.size+3 < A
 hB:w.heap.size+3 < B
 hC:w.heap.size+3 < C
theorem H3.next {w W W':World} {v:Value} {b:List UInt8} {p p':Nat} {k:Kd} {c:C3} {A:Nat} {m:Kd} {d:C3} {B:Nat} {t:Tr} {x:C5} {C:Nat} (h:H3 w W v b p k c A m d B t x C) (hd:DR (w.heap.size+3) W' v b p') (hb:But (w.heap.size+3) W W'):H3 w W' v b p' k c A m d B t x C:=by
 have h1:=h.hA;have h2:=h.hB;have h3:=h.hC;have h4:=h.bC.lt
 exact ⟨h.h0.next hd hb,h.bA.of_block (hb.at h.bA.lt (by omega)),h.bB.of_block (hb.at h.bB.lt (by omega)),h.bC.of_block (hb.at h4 (by omega)),KRep.carry (fun y hy=>hb.at (by omega) (by omega)) (fun _ h=>h) _ _ h.ka,KRep.carry (fun y hy=>hb.at (by omega) (by omega)) (fun _ h=>h) _ _ h.mb,Rep.carry (fun y hy=>hb.at (by omega) (by omega)) (fun _ h=>h) _ _ h.tc,h1,h2,h3⟩
theorem H3.drew {w W:World} {v:Value} {b:List UInt8} {p:Nat} {k:Kd} {c:C3} {A:Nat} {m:Kd} {d:C3} {B:Nat} {t:Tr} {x:C5} {C:Nat} (h:H3 w W v b p k c A m d B t x C):H3 w W.drew v b p k c A m d B t x C:=h.next (h.h0.dr.on (Below.refl _ W).drew) (But.of_below (Below.refl _ W).drew)
structure Fin3 (w W:World) (k:Kd) (c:C3) (m:Kd) (d:C3) (t:Tr) (x:C5):Prop where
 below:Below w.heap.size w W
 bX:W.rowIs w.heap.size 26 3 (row3 (.int .i64 0) (.slice none 0 0) (.slice none 0 0))
 bY:W.rowIs (w.heap.size+1) 26 3 (row3 (.int .i64 0) (.slice none 0 0) (.slice none 0 0))
 bZ:W.rowIs (w.heap.size+2) 29 5 (row5 (.int .i64 0) (.int .i64 0) (.string ⟨#[]⟩) (.slice none 0 0) (.slice none 0 0))
 kr:KRep (fun y=>w.heap.size+3 < y∧y < W.heap.size) W k c
 mr:KRep (fun y=>w.heap.size+3 < y∧y < W.heap.size) W m d
 tr:Rep (fun y=>w.heap.size+3 < y∧y < W.heap.size) W t x
 wk:wKd k≤200000
 wm:wKd m≤200000
theorem Fin3.put {w W:World} {k:Kd} {c:C3} {m:Kd} {d:C3} {t:Tr} {x:C5} (h:Fin3 w W k c m d t x) (X':World) (hX':X'=pt3 W w.heap.size (w.heap.size+1) (w.heap.size+2) c.c0 c.c1 c.c2 d.c0 d.c1 d.c2 x.c0 x.c1 x.c2 x.c3 x.c4) :
 X'.rowIs w.heap.size 26 3 (row3 c.c0 c.c1 c.c2)∧X'.rowIs (w.heap.size+1) 26 3 (row3 d.c0 d.c1 d.c2)∧X'.rowIs (w.heap.size+2) 29 5 (row5 x.c0 x.c1 x.c2 x.c3 x.c4)∧DwEnd w X' (.returned (.tuple #[.agg #[c.c0,c.c1,c.c2],.agg #[d.c0,d.c1,d.c2],.agg #[x.c0,x.c1,x.c2,x.c3,x.c4]])):=by
 obtain ⟨r1,r2,r3,hk,hs,ho,ht,hu⟩:=pt3_facts h.bX h.bY h.bZ (by omega) (by omega) (by omega) c.c0 c.c1 c.c2 d.c0 d.c1 d.c2 x.c0 x.c1 x.c2 x.c3 x.c4
 rw [← hX'] at r1 r2 r3 hk hs ho ht hu
 have hk2:∀ y,w.heap.size+3 < y∧y < W.heap.size→X'.heap[y]? = W.heap[y]? := fun y hy=>hk y hy.2 (by omega) (by omega) (by omega)
 refine ⟨r1,r2,r3,k,m,c,d,t,x,rfl,KRep.carry hk2 (fun y hy=>Nat.lt_of_lt_of_le hy.2 hs) _ _ h.kr,KRep.carry hk2 (fun y hy=>Nat.lt_of_lt_of_le hy.2 hs) _ _ h.mr,Rep.carry hk2 (fun y hy=>Nat.lt_of_lt_of_le hy.2 hs) _ _ h.tr,h.wk,h.wm,h.below.trans ⟨ho,ht,hu,hs,fun i hi=>hk i (Nat.lt_of_lt_of_le hi h.below.size) (by omega) (by omega) (by omega)⟩⟩
theorem wm_up {a b:Nat} (h:a≤b+1000) (h2:b≤80000):a≤200000:=Nat.le_trans h (Nat.le_trans (Nat.add_le_add_right h2 1000) (by decide))
theorem one3 {P:Nat→Prop} {w:World} {k:Kd} {c:C3} (h:KRep P w k c):(#[c.c0,c.c1,c.c2]:Array Value).all (·.oneCell')=true:=by
 obtain ⟨c0,c1,c2⟩:=c
 obtain ⟨e0,-,⟨a3,cap3,e1,-⟩,a4,cap4,e2,-⟩:=h.open
 simp only at e0 e1 e2
 subst e0 e1 e2
 rw [← Array.all_toList];rfl
theorem one5 {P:Nat→Prop} {w:World} {t:Tr} {x:C5} (h:Rep P w t x):(#[x.c0,x.c1,x.c2,x.c3,x.c4]:Array Value).all (·.oneCell')=true:=by
 obtain ⟨a5,p5,a6,p6,rfl⟩:=rep_form5 h
 rw [← Array.all_toList];rfl
theorem drawKindWiden_any (w:World) (a:Option Addr) (cap:Nat) (l:List UInt8) (hv:BytesAt w (.slice a l.length cap) l) (hcap:l.length≤cap) :
 Calls Tryz.prog 5 #[.slice a l.length cap] w fun e w'=>DwEnd w w' e:=by
 have hb0:Below w.heap.size w (((w.alloc (.cells #[.int .i64 0,.slice none 0 0,.slice none 0 0] 26)).alloc (.cells #[.int .i64 0,.slice none 0 0,.slice none 0 0] 26)).alloc (.cells #[.int .i64 0,.int .i64 0,.string ⟨#[]⟩,.slice none 0 0,.slice none 0 0] 29)):=(((Below.refl _ _).alloc (Nat.le_refl _) _).alloc (by simp) _).alloc (by simp;omega) _
 have hs0:(((w.alloc (.cells #[.int .i64 0,.slice none 0 0,.slice none 0 0] 26)).alloc (.cells #[.int .i64 0,.slice none 0 0,.slice none 0 0] 26)).alloc (.cells #[.int .i64 0,.int .i64 0,.string ⟨#[]⟩,.slice none 0 0,.slice none 0 0] 29)).heap.size=w.heap.size+3:=by simp
 have hop:=l6Open_any (((w.alloc (.cells #[.int .i64 0,.slice none 0 0,.slice none 0 0] 26)).alloc (.cells #[.int .i64 0,.slice none 0 0,.slice none 0 0] 26)).alloc (.cells #[.int .i64 0,.int .i64 0,.string ⟨#[]⟩,.slice none 0 0,.slice none 0 0] 29)) a cap l (hv.on hb0) hcap
 rw [hs0] at hop
 have hX:=((row3_alloc w (.int .i64 0) (.slice none 0 0) (.slice none 0 0) 26).alloc (.cells #[.int .i64 0,.slice none 0 0,.slice none 0 0] 26)).alloc (.cells #[.int .i64 0,.int .i64 0,.string ⟨#[]⟩,.slice none 0 0,.slice none 0 0] 29)
 have hY:=(row3_alloc (w.alloc (.cells #[.int .i64 0,.slice none 0 0,.slice none 0 0] 26)) (.int .i64 0) (.slice none 0 0) (.slice none 0 0) 26).alloc (.cells #[.int .i64 0,.int .i64 0,.string ⟨#[]⟩,.slice none 0 0,.slice none 0 0] 29)
 rw [World.size_alloc] at hY
 have hZ:=row5_alloc ((w.alloc (.cells #[.int .i64 0,.slice none 0 0,.slice none 0 0] 26)).alloc (.cells #[.int .i64 0,.slice none 0 0,.slice none 0 0] 26)) (.int .i64 0) (.int .i64 0) (.string ⟨#[]⟩) (.slice none 0 0) (.slice none 0 0) 29
 rw [World.size_alloc,World.size_alloc] at hZ
 have HOP:=xH hop;have HX:=xH hX;have HY:=xH hY;have HZ:=xH hZ;have HB0:=xH hb0;have HS0:=xH hs0
 clear hv hb0 hop hX hY hZ hs0 hcap
 go_enter Tryz.func5,Tryz.ntmps5
 go_wp2_with fail
 generalize (((w.alloc (.cells #[.int .i64 0,.slice none 0 0,.slice none 0 0] 26)).alloc (.cells #[.int .i64 0,.slice none 0 0,.slice none 0 0] 26)).alloc (.cells #[.int .i64 0,.int .i64 0,.string ⟨#[]⟩,.slice none 0 0,.slice none 0 0] 29))=W0 at HOP HX HY HZ HB0 HS0 ⊢
 refine (xU HOP).mono ?_
 rintro e w1 ⟨v',b',rfl,hdr,hb1⟩
 have hs0:=xU HS0
 have hh1:H0 w w1 v' b' 0:=⟨(xU HB0).trans ⟨hb1.os,hb1.tape,hb1.output,hb1.size,fun i hi=>hb1.block i (by omega)⟩,(xU HX).of_block (hb1.block _ (by omega)),(xU HY).of_block (hb1.block _ (by omega)),(xU HZ).of_block (hb1.block _ (by omega)),hdr⟩
 have HH1:=xH hh1
 have HPR:=xH (l5Pair_any (w.heap.size+3) w1 v' b' 0 hdr (by omega))
 clear HOP HX HY HZ HB0 HS0 hdr hb1 hh1 hs0
 go_wp2_with fail
 refine (xU HPR).mono ?_
 rintro e w2 ⟨k,m,⟨k0,k1,k2⟩,⟨m0,m1,m2⟩,p2,rfl,hk,hm,hd2,hp2,hqk,hqm,hwk,hwm,hb2⟩
 obtain ⟨g0,-,⟨a1,cap1,g1,-⟩,a2,cap2,g2,-⟩:=hk.open
 simp only at g0 g1 g2
 subst g0 g1 g2
 obtain ⟨g0,-,⟨b1,bap1,g1,-⟩,b2,bap2,g2,-⟩:=hm.open
 simp only at g0 g1 g2
 subst g0 g1 g2
 have hs1:=(xU HH1).size
 have hs12:=hb2.size
 have hh2:=(xU HH1).next hd2 hb2
 have hbA:Below w2.heap.size w2 ((w2.alloc (.cells #[.int .i64 k.sort,.slice a1 k.names.length cap1,.slice a2 k.kids.length cap2] 26)).alloc (.cells #[.int .i64 m.sort,.slice b1 m.names.length bap1,.slice b2 m.kids.length bap2] 26)):=((Below.refl _ _).alloc (Nat.le_refl _) _).alloc (by simp) _
 have hsA:((w2.alloc (.cells #[.int .i64 k.sort,.slice a1 k.names.length cap1,.slice a2 k.kids.length cap2] 26)).alloc (.cells #[.int .i64 m.sort,.slice b1 m.names.length bap1,.slice b2 m.kids.length bap2] 26)).heap.size=w2.heap.size+2:=by simp
 have hA2:=(row3_alloc w2 (.int .i64 k.sort) (.slice a1 k.names.length cap1) (.slice a2 k.kids.length cap2) 26).alloc (.cells #[.int .i64 m.sort,.slice b1 m.names.length bap1,.slice b2 m.kids.length bap2] 26)
 have hB2:=row3_alloc (w2.alloc (.cells #[.int .i64 k.sort,.slice a1 k.names.length cap1,.slice a2 k.kids.length cap2] 26)) (.int .i64 m.sort) (.slice b1 m.names.length bap1) (.slice b2 m.kids.length bap2) 26
 rw [World.size_alloc] at hB2
 have hkA:=KRep.carry (w':=(w2.alloc (.cells #[.int .i64 k.sort,.slice a1 k.names.length cap1,.slice a2 k.kids.length cap2] 26)).alloc (.cells #[.int .i64 m.sort,.slice b1 m.names.length bap1,.slice b2 m.kids.length bap2] 26)) (Q:=fun y=>w.heap.size+4≤y∧y < w2.heap.size) (fun y hy=>hbA.block y hy.2) (fun y hy=>⟨by omega,hy.2⟩) _ _ hk
 have hmA:=KRep.carry (w':=(w2.alloc (.cells #[.int .i64 k.sort,.slice a1 k.names.length cap1,.slice a2 k.kids.length cap2] 26)).alloc (.cells #[.int .i64 m.sort,.slice b1 m.names.length bap1,.slice b2 m.kids.length bap2] 26)) (Q:=fun y=>w.heap.size+4≤y∧y < w2.heap.size) (fun y hy=>hbA.block y hy.2) (fun y hy=>⟨by omega,hy.2⟩) _ _ hm
 have hh2A:=hh2.on hbA
 have hst:=someTree_any (w.heap.size+3) ((w2.alloc (.cells #[.int .i64 k.sort,.slice a1 k.names.length cap1,.slice a2 k.kids.length cap2] 26)).alloc (.cells #[.int .i64 m.sort,.slice b1 m.names.length bap1,.slice b2 m.kids.length bap2] 26)) v' b' p2 k ⟨.int .i64 k.sort,.slice a1 k.names.length cap1,.slice a2 k.kids.length cap2⟩ (w.heap.size+4) (by omega) (KRep.carry (fun _ _=>rfl) (fun y hy=>⟨hy.1,by rw [hsA];have:=hy.2;omega⟩) _ _ hkA) hqk hh2A.dr (by omega)
 have HA2:=xH hA2;have HB2:=xH hB2;have HKA:=xH hkA;have HMA:=xH hmA;have HH2:=xH hh2A;have HST:=xH hst;have HSA:=xH hsA
 have HQK:=xH hqk;have HQM:=xH hqm;have HWK:=xH hwk;have HWM:=xH hwm;have HP2:=xH hp2
 have h2l:w.heap.size+3 < w2.heap.size:=by omega
 obtain ⟨j0,j1,j2⟩:=cs3 hA2 (by omega)
 simp only [row3] at j0 j1 j2
 clear hk hm hd2 hb2 hh2 hbA hA2 hB2 hkA hmA hh2A hst hsA HPR HH1 hs1 hs12 hqk hqm hwk hwm hp2
 go_wp2_with fail
 generalize hW2:(w2.alloc (.cells #[.int .i64 k.sort,.slice a1 k.names.length cap1,.slice a2 k.kids.length cap2] 26)).alloc (.cells #[.int .i64 m.sort,.slice b1 m.names.length bap1,.slice b2 m.kids.length bap2] 26)=W2 at HA2 HB2 HKA HMA HH2 HST HSA j0 j1 j2 ⊢
 clear hW2
 refine (xU HST).mono ?_
 rintro e w3 ⟨t,⟨x0,x1,x2,x3,x4⟩,F,p3,rfl,ho,hnd,hF,hd3,hp3,hb3,hz3,hnm3⟩
 have hsA:=xU HSA
 have hs3:=hb3.size
 have ht3:=Own.rep (P:=fun y=>w.heap.size+3 < y∧y < w3.heap.size) _ _ F (fun y hy=>by have:=hF y hy;omega) ho
 obtain ⟨t1,tap1,t2,tap2,q9⟩:=rep_form5 ht3
 simp only [C5.mk.injEq] at q9
 obtain ⟨rfl,rfl,rfl,rfl,rfl⟩:=q9
 have hbC:Below w3.heap.size w3 (w3.alloc (.cells #[.int .i64 t.sort,.int .i64 t.num,.string t.text,.slice t1 t.names.length tap1,.slice t2 t.kids.length tap2] 29)):=(Below.refl _ _).alloc (Nat.le_refl _) _
 have hkeep:∀ y,y≠w.heap.size+3→y < W2.heap.size→(w3.alloc (.cells #[.int .i64 t.sort,.int .i64 t.num,.string t.text,.slice t1 t.names.length tap1,.slice t2 t.kids.length tap2] 29)).heap[y]? = W2.heap[y]? := fun y h1 h2=>(hbC.block y (by omega)).trans (hb3.at h2 h1)
 have hh3:H3 w (w3.alloc (.cells #[.int .i64 t.sort,.int .i64 t.num,.string t.text,.slice t1 t.names.length tap1,.slice t2 t.kids.length tap2] 29)) v' b' p3 k ⟨.int .i64 k.sort,.slice a1 k.names.length cap1,.slice a2 k.kids.length cap2⟩ w2.heap.size m ⟨.int .i64 m.sort,.slice b1 m.names.length bap1,.slice b2 m.kids.length bap2⟩ (w2.heap.size+1) t ⟨.int .i64 t.sort,.int .i64 t.num,.string t.text,.slice t1 t.names.length tap1,.slice t2 t.kids.length tap2⟩ w3.heap.size :=
  ⟨((xU HH2).next hd3 hb3).on hbC,(xU HA2).of_block (hkeep _ (by omega) (by omega)),(xU HB2).of_block (hkeep _ (by omega) (by omega)),row5_alloc w3 _ _ _ _ _ _,KRep.carry (fun y hy=>hkeep y (by omega) (by omega)) (fun y hy=>⟨by omega,by omega⟩) _ _ (xU HKA),KRep.carry (fun y hy=>hkeep y (by omega) (by omega)) (fun y hy=>⟨by omega,by omega⟩) _ _ (xU HMA),Rep.carry (fun y hy=>hbC.block y hy.2) (fun _ h=>h) _ _ ht3,by omega,by omega,by omega⟩
 have HPK:=xH (pick_any (w.heap.size+3) (w3.alloc (.cells #[.int .i64 t.sort,.int .i64 t.num,.string t.text,.slice t1 t.names.length tap1,.slice t2 t.kids.length tap2] 29)) v' b' p3 16 hh3.h0.dr (by omega) (by have:=xU HP2;omega))
 have HH3:=xH hh3;have HZ3:=xH hz3;have HNM:=xH hnm3;have HP3:=xH hp3
 have h3l:w2.heap.size+1 < w3.heap.size:=by omega
 clear ho hnd hF hd3 hb3 ht3 hbC hkeep hh3 hz3 hnm3 hp3 HST HA2 HB2 HKA HMA HH2 HSA hsA hs3 j0 j1 j2
 go_wp2_with fail
 generalize hW3:w3.alloc (.cells #[.int .i64 t.sort,.int .i64 t.num,.string t.text,.slice t1 t.names.length tap1,.slice t2 t.kids.length tap2] 29)=W3 at HPK HH3 ⊢
 clear hW3
 refine (xU HPK).mono ?_
 rintro e w7 ⟨r,rfl,hr,HD7,HB7⟩
 have hh7:=(xU HH3).next HD7.out HB7.out
 have hl7:w3.heap.size < w7.heap.size:=hh7.bC.lt
 have hk7:=hh7.ka;have hm7:=hh7.mb;have ht7:=hh7.tc
 have HH7:=xH hh7
 have HO1:=xH (one3 hk7);have HO2:=xH (one3 hm7);have HO3:=xH (one5 ht7)
 have HF7:Hid (Fin3 w w7.drew k ⟨.int .i64 k.sort,.slice a1 k.names.length cap1,.slice a2 k.kids.length cap2⟩ m ⟨.int .i64 m.sort,.slice b1 m.names.length bap1,.slice b2 m.kids.length bap2⟩ t ⟨.int .i64 t.sort,.int .i64 t.num,.string t.text,.slice t1 t.names.length tap1,.slice t2 t.kids.length tap2⟩):=⟨hh7.drew.h0.below,hh7.h0.bX.of_block rfl,hh7.h0.bY.of_block rfl,hh7.h0.bZ.of_block rfl,KRep.carry (w:=w7) (w':=w7.drew) (P:=fun y=>w.heap.size+3 < y∧y < w3.heap.size) (fun _ _=>rfl) (fun y hy=>⟨hy.1,Nat.lt_trans hy.2 hl7⟩) _ _ hk7,KRep.carry (w:=w7) (w':=w7.drew) (P:=fun y=>w.heap.size+3 < y∧y < w3.heap.size) (fun _ _=>rfl) (fun y hy=>⟨hy.1,Nat.lt_trans hy.2 hl7⟩) _ _ hm7,Rep.carry (w:=w7) (w':=w7.drew) (P:=fun y=>w.heap.size+3 < y∧y < w3.heap.size) (fun _ _=>rfl) (fun y hy=>⟨hy.1,Nat.lt_trans hy.2 hl7⟩) _ _ ht7,Nat.le_trans (xU HWK) (by decide),Nat.le_trans (xU HWM) (by decide)⟩
 clear HPK HH3 HD7 HB7 hh7 hk7 hm7 ht7
 rcases (show r=0∨r=1∨r=2∨r=3∨4≤r by omega) with rfl | rfl | rfl | rfl | hr4
 · go_upto_region 6 with fail
   refine wp_swap (c':=Code.region 6 dw6Ops true) (by kernel_rfl) ?_
   refine wp_region_noPanic ?_
   have hw:=(xU HH7).drew
   refine dw6 w.heap.size (w.heap.size+1) (w.heap.size+2) (w.heap.size+3) w2.heap.size (w2.heap.size+1) w3.heap.size ⟨.int .i64 k.sort,.slice a1 k.names.length cap1,.slice a2 k.kids.length cap2⟩ ⟨.int .i64 m.sort,.slice b1 m.names.length bap1,.slice b2 m.kids.length bap2⟩ ⟨.int .i64 t.sort,.int .i64 t.num,.string t.text,.slice t1 t.names.length tap1,.slice t2 t.kids.length tap2⟩ w7 _ (fun _ _ _ _ _ h=>h) hw.bA hw.bB hw.bC (xU HO1) (xU HO2) (by omega) (by omega) (by omega) (by omega) (by omega) (by omega)
    (fun y0 y1 y2 y3 y4 WW=>∃ t':Tr,Fin3 w WW k ⟨.int .i64 k.sort,.slice a1 k.names.length cap1,.slice a2 k.kids.length cap2⟩ m ⟨.int .i64 m.sort,.slice b1 m.names.length bap1,.slice b2 m.kids.length bap2⟩ t' ⟨y0,y1,y2,y3,y4⟩∧(∀ y,y≠w.heap.size+3→y < w7.heap.size→WW.heap[y]? = w7.drew.heap[y]?)) ?_ ?_ (by kernel_rfl) ?_
   · rintro y0 y1 y2 y3 y4 WW ⟨t',hf,hk⟩
     exact ⟨⟨hf.bX,hf.bY,hf.bZ⟩,one5 hf.tr,hk _ (by omega) (by omega),hk _ (by omega) (by omega),hk _ (by omega) hl7⟩
   · refine (spoilT_all (tsz t+1) t (by omega) _ (w.heap.size+3) w7.drew v' b' (p3+1) ⟨.int .i64 t.sort,.int .i64 t.num,.string t.text,.slice t1 t.names.length tap1,.slice t2 t.kids.length tap2⟩ hw.h0.dr (fun y hy=>⟨hy.1,Nat.lt_trans hy.2 hl7⟩) hw.tc (by have:=xU HP2;have:=xU HP3;have:=xU HZ3;omega) (by have:=xU HZ3;omega) (xU HNM)).mono ?_
     rintro e w8 ⟨t',⟨y0,y1,y2,y3,y4⟩,p8,rfl,hr8,hd8,-,hb8⟩
     have h8:=hw.next hd8 hb8
     have hs8:w7.heap.size≤w8.heap.size:=hb8.size
     refine ⟨y0,y1,y2,y3,y4,rfl,t',⟨h8.h0.below,h8.h0.bX,h8.h0.bY,h8.h0.bZ,KRep.carry (fun _ _=>rfl) (fun y hy=>⟨hy.1,by have:=hy.2;omega⟩) _ _ h8.ka,KRep.carry (fun _ _=>rfl) (fun y hy=>⟨hy.1,by have:=hy.2;omega⟩) _ _ h8.mb,Rep.carry (fun _ _=>rfl) (fun y hy=>?_) _ _ hr8,(xU HF7).wk,(xU HF7).wm⟩,fun y h1 h2=>hb8.at h2 h1⟩
     rcases hy with h | h
     · exact ⟨h.1,by have:=h.2;omega⟩
     · have h1:w7.heap.size≤y:=h.1
       exact ⟨by omega,h.2⟩
   intro u y0 y1 y2 y3 y4 w8 hG
   obtain ⟨t',hf8,-⟩:=hG
   refine NoPanic.normal ?_
   simp only [frL_eq,frG,List.lookup,Nat.reduceBEq,Nat.reduceAdd,Option.getD_some,Option.getD_none]
   have hput:=hf8.put _ rfl
   simp only at hput
   generalize pt3 _ _ _ _ _ _ _ _ _ _ _ _ _ _ _=X9 at hput ⊢
   obtain ⟨r1,r2,r3,hE⟩:=hput
   obtain ⟨qy0,qy1,qy2⟩:=cs3 r1 (by omega)
   have qz0:=r2.cell (i:=0) (by omega);have qz1:=r2.cell (i:=1) (by omega);have qz2:=r2.cell (i:=2) (by omega)
   have qu0:=r3.cell (i:=0) (by omega);have qu1:=r3.cell (i:=1) (by omega);have qu2:=r3.cell (i:=2) (by omega);have qu3:=r3.cell (i:=3) (by omega);have qu4:=r3.cell (i:=4) (by omega)
   simp only [row3,row5] at qy0 qy1 qy2 qz0 qz1 qz2 qu0 qu1 qu2 qu3 qu4
   have HE:=xH hE
   clear r1 r2 r3 hE
   go_wp2_with fail
   exact bodyPost_ret (v:=.tuple #[.agg #[.int .i64 k.sort,.slice a1 k.names.length cap1,.slice a2 k.kids.length cap2],.agg #[.int .i64 m.sort,.slice b1 m.names.length bap1,.slice b2 m.kids.length bap2],.agg #[y0,y1,y2,y3,y4]]) (by simp [results,Tryz.results5,go_sem,qy0,qy1,qy2,qz0,qz1,qz2,qu0,qu1,qu2,qu3,qu4]) rfl (xU HE)
 · go_upto_region 8 with fail
   refine wp_swap (c':=Code.region 8 dw8Ops true) (by kernel_rfl) ?_
   refine wp_region_noPanic ?_
   have hw:=(xU HH7).drew
   refine dw8 w.heap.size (w.heap.size+1) (w.heap.size+2) (w.heap.size+3) w2.heap.size (w2.heap.size+1) w3.heap.size ⟨.int .i64 k.sort,.slice a1 k.names.length cap1,.slice a2 k.kids.length cap2⟩ ⟨.int .i64 m.sort,.slice b1 m.names.length bap1,.slice b2 m.kids.length bap2⟩ ⟨.int .i64 t.sort,.int .i64 t.num,.string t.text,.slice t1 t.names.length tap1,.slice t2 t.kids.length tap2⟩ w7 _ (fun _ _ _ _ _ h=>h) hw.bA hw.bB hw.bC (xU HO1) (xU HO2) (xU HO3) (by omega) (by omega) (by omega) (by omega) (by omega) (by omega) hw.h0.bX hw.h0.bY hw.h0.bZ (by kernel_rfl) ?_
   intro u
   have hf8:Fin3 w w7.drew m ⟨.int .i64 m.sort,.slice b1 m.names.length bap1,.slice b2 m.kids.length bap2⟩ k ⟨.int .i64 k.sort,.slice a1 k.names.length cap1,.slice a2 k.kids.length cap2⟩ t ⟨.int .i64 t.sort,.int .i64 t.num,.string t.text,.slice t1 t.names.length tap1,.slice t2 t.kids.length tap2⟩:=⟨(xU HF7).below,(xU HF7).bX,(xU HF7).bY,(xU HF7).bZ,(xU HF7).mr,(xU HF7).kr,(xU HF7).tr,(xU HF7).wm,(xU HF7).wk⟩
   refine NoPanic.normal ?_
   simp only [frL_eq,frG,List.lookup,Nat.reduceBEq,Nat.reduceAdd,Option.getD_some,Option.getD_none]
   have hput:=hf8.put _ rfl
   simp only at hput
   generalize pt3 _ _ _ _ _ _ _ _ _ _ _ _ _ _ _=X9 at hput ⊢
   obtain ⟨r1,r2,r3,hE⟩:=hput
   obtain ⟨qy0,qy1,qy2⟩:=cs3 r1 (by omega)
   have qz0:=r2.cell (i:=0) (by omega);have qz1:=r2.cell (i:=1) (by omega);have qz2:=r2.cell (i:=2) (by omega)
   have qu0:=r3.cell (i:=0) (by omega);have qu1:=r3.cell (i:=1) (by omega);have qu2:=r3.cell (i:=2) (by omega);have qu3:=r3.cell (i:=3) (by omega);have qu4:=r3.cell (i:=4) (by omega)
   simp only [row3,row5] at qy0 qy1 qy2 qz0 qz1 qz2 qu0 qu1 qu2 qu3 qu4
   have HE:=xH hE
   clear r1 r2 r3 hE
   go_wp2_with fail
   exact bodyPost_ret (v:=.tuple #[.agg #[.int .i64 m.sort,.slice b1 m.names.length bap1,.slice b2 m.kids.length bap2],.agg #[.int .i64 k.sort,.slice a1 k.names.length cap1,.slice a2 k.kids.length cap2],.agg #[.int .i64 t.sort,.int .i64 t.num,.string t.text,.slice t1 t.names.length tap1,.slice t2 t.kids.length tap2]]) (by simp [results,Tryz.results5,go_sem,qy0,qy1,qy2,qz0,qz1,qz2,qu0,qu1,qu2,qu3,qu4]) rfl (xU HE)
 · go_upto_region 10 with fail
   refine wp_swap (c':=Code.region 10 dw10Ops true) (by kernel_rfl) ?_
   refine wp_region_noPanic ?_
   have hw:=(xU HH7).drew
   refine dw10 w.heap.size (w.heap.size+1) (w.heap.size+2) (w.heap.size+3) w2.heap.size (w2.heap.size+1) w3.heap.size ⟨.int .i64 k.sort,.slice a1 k.names.length cap1,.slice a2 k.kids.length cap2⟩ ⟨.int .i64 m.sort,.slice b1 m.names.length bap1,.slice b2 m.kids.length bap2⟩ ⟨.int .i64 t.sort,.int .i64 t.num,.string t.text,.slice t1 t.names.length tap1,.slice t2 t.kids.length tap2⟩ w7 _ (fun _ _ _ _ _ h=>h) hw.bA hw.bB hw.bC (xU HO1) (xU HO3) (by omega) (by omega) (by omega) (by omega) (by omega) (by omega)
    (fun y0 y1 y2 WW=>∃ m':Kd,Fin3 w WW k ⟨.int .i64 k.sort,.slice a1 k.names.length cap1,.slice a2 k.kids.length cap2⟩ m' ⟨y0,y1,y2⟩ t ⟨.int .i64 t.sort,.int .i64 t.num,.string t.text,.slice t1 t.names.length tap1,.slice t2 t.kids.length tap2⟩∧(∀ y,y≠w.heap.size+3→y < w7.heap.size→WW.heap[y]? = w7.drew.heap[y]?)) ?_ ?_ (by kernel_rfl) ?_
   · rintro y0 y1 y2 WW ⟨m',hf,hk⟩
     exact ⟨⟨hf.bX,hf.bY,hf.bZ⟩,one3 hf.mr,hk _ (by omega) (by omega),hk _ (by omega) (by omega),hk _ (by omega) hl7⟩
   · have hko:=ok_of_qT (xU HQM)
     refine (l5Spoil_all (ksz m+1) m (by omega) _ (w.heap.size+3) w7.drew v' b' (p3+1) ⟨.int .i64 m.sort,.slice b1 m.names.length bap1,.slice b2 m.kids.length bap2⟩ hw.h0.dr (fun y hy=>⟨hy.1,Nat.lt_trans hy.2 hl7⟩) hw.mb (by have:=xU HP2;have:=xU HP3;have:=hko.2;omega) (Nat.le_trans (xU HWM) (by decide))).mono ?_
     rintro e w8 ⟨m',⟨y0,y1,y2⟩,p8,rfl,hr8,hd8,-,hw8,hb8⟩
     have h8:=hw.next hd8 hb8
     have hs8:w7.heap.size≤w8.heap.size:=hb8.size
     refine ⟨y0,y1,y2,rfl,m',⟨h8.h0.below,h8.h0.bX,h8.h0.bY,h8.h0.bZ,KRep.carry (fun _ _=>rfl) (fun y hy=>⟨hy.1,by have:=hy.2;omega⟩) _ _ h8.ka,KRep.carry (fun _ _=>rfl) (fun y hy=>?_) _ _ hr8,Rep.carry (fun _ _=>rfl) (fun y hy=>⟨hy.1,by have:=hy.2;omega⟩) _ _ h8.tc,(xU HF7).wk,wm_up hw8 (xU HWM)⟩,fun y h1 h2=>hb8.at h2 h1⟩
     rcases hy with h | h
     · exact ⟨h.1,by have:=h.2;omega⟩
     · have h1:w7.heap.size≤y:=h.1
       exact ⟨by omega,h.2⟩
   intro u y0 y1 y2 w8 hG
   obtain ⟨m',hf8,-⟩:=hG
   refine NoPanic.normal ?_
   simp only [frL_eq,frG,List.lookup,Nat.reduceBEq,Nat.reduceAdd,Option.getD_some,Option.getD_none]
   have hput:=hf8.put _ rfl
   simp only at hput
   generalize pt3 _ _ _ _ _ _ _ _ _ _ _ _ _ _ _=X9 at hput ⊢
   obtain ⟨r1,r2,r3,hE⟩:=hput
   obtain ⟨qy0,qy1,qy2⟩:=cs3 r1 (by omega)
   have qz0:=r2.cell (i:=0) (by omega);have qz1:=r2.cell (i:=1) (by omega);have qz2:=r2.cell (i:=2) (by omega)
   have qu0:=r3.cell (i:=0) (by omega);have qu1:=r3.cell (i:=1) (by omega);have qu2:=r3.cell (i:=2) (by omega);have qu3:=r3.cell (i:=3) (by omega);have qu4:=r3.cell (i:=4) (by omega)
   simp only [row3,row5] at qy0 qy1 qy2 qz0 qz1 qz2 qu0 qu1 qu2 qu3 qu4
   have HE:=xH hE
   clear r1 r2 r3 hE
   go_wp2_with fail
   exact bodyPost_ret (v:=.tuple #[.agg #[.int .i64 k.sort,.slice a1 k.names.length cap1,.slice a2 k.kids.length cap2],.agg #[y0,y1,y2],.agg #[.int .i64 t.sort,.int .i64 t.num,.string t.text,.slice t1 t.names.length tap1,.slice t2 t.kids.length tap2]]) (by simp [results,Tryz.results5,go_sem,qy0,qy1,qy2,qz0,qz1,qz2,qu0,qu1,qu2,qu3,qu4]) rfl (xU HE)
 · go_upto_region 15 with fail
   refine wp_swap (c':=Code.region 15 dw15Ops true) (by kernel_rfl) ?_
   refine wp_region_noPanic ?_
   have hw:=xU HH7
   obtain ⟨L1,L2,L3,L4⟩:=lit15 w7
   have hb15:Below w7.heap.size w7 (w15 w7).drew:=L3.drew
   have hd15:DR (w.heap.size+3) (w15 w7).drew v' b' (p3+1):=hw.h0.dr.on hb15
   have s15:(w15 w7).drew.heap.size=w7.heap.size+7:=L4
   have hPP:p3+1≤1000000000:=by have:=xU HP2;have:=xU HP3;have:=(ok_of_qT (xU HQK)).2;omega
   refine dw15 w.heap.size (w.heap.size+1) (w.heap.size+2) (w.heap.size+3) (w7.heap.size+1+1+1+1+1+1) (c15 w7.heap.size) (w15 w7) _ (fun _ _ _ _ _ h=>h) (L2.of_block rfl) (one3 L1) (by omega) (by omega) (by omega) ⟨by omega,by omega,by omega,by omega⟩ ⟨by omega,by omega,by omega⟩ ⟨by omega,by omega,by omega,by omega⟩
    (fun WW=>DR (w.heap.size+3) WW v' b' (p3+1)) hd15 (fun WW o h=>h.on ((Below.refl _ _).alloc (Nat.le_refl _) o)) (Zr.below (W:=w7) ⟨⟨_,hw.h0.bX⟩,⟨_,hw.h0.bY⟩,_,hw.h0.bZ⟩ hb15) ?_ (fun WW n hn=>l5Full_any WW n hn) (by kernel_rfl) ?_
   · intro WW hW
     refine (pick_any (w.heap.size+3) WW v' b' (p3+1) 2 hW (by omega) hPP).mono ?_
     rintro e w' ⟨r,he,hr,-,hb⟩
     exact ⟨r,he,hr,hb.out⟩
   intro u t' ⟨q0,q1,q2,q3,q4⟩ g w' hb4 hrt hrg hgb hrx hry hrz
   refine NoPanic.normal ?_
   simp only [frL_eq,frG,List.lookup,Nat.reduceBEq,Nat.reduceAdd,Option.getD_some,Option.getD_none]
   have h5:=hb4.size
   have hkk:KRep (fun y=>w7.heap.size≤y∧y < w7.heap.size+7) w' k15 (c15 w7.heap.size):=KRep.carry (w:=w15 w7) (fun y hy=>(hb4.block y (by omega) (by omega) (by omega) (by omega) (by omega))) (fun _ h=>h) _ _ L1
   have hmm:KRep (fun y=>y < w'.heap.size) w' (.mk 6 [] [k15]) ⟨.int .i64 6,.slice none 0 0,.slice (some ⟨g,0,none⟩) 1 1⟩:=krep_one ⟨by decide,by decide⟩ hrg.lt hrg (KRep.carry (fun _ _=>rfl) (fun y hy=>by have:=hy.2;omega) _ _ hkk)
   have hE:DwEnd w w' (.returned (.tuple #[.agg #[(c15 w7.heap.size).c0,(c15 w7.heap.size).c1,(c15 w7.heap.size).c2],.agg #[.int .i64 6,.slice none 0 0,.slice (some ⟨g,0,none⟩) 1 1],.agg #[q0,q1,q2,q3,q4]])):=by
    refine ⟨k15,.mk 6 [] [k15],_,⟨_,_,_⟩,t',⟨q0,q1,q2,q3,q4⟩,rfl,KRep.carry (fun _ _=>rfl) (fun y hy=>by have:=hy.2;omega) _ _ hkk,hmm,Rep.carry (fun _ _=>rfl) (fun y hy=>hy.2) _ _ hrt,k15_small.1,k15_small.2,?_⟩
    refine (hw.h0.below.trans (hb15.mono (by omega))).trans ⟨hb4.os,hb4.tape,hb4.output,hb4.size,fun i hi=>hb4.block i (by omega) (by omega) (by omega) (by omega) (by omega)⟩
   obtain ⟨qy0,qy1,qy2⟩:=cs3 hrx (by omega)
   have qz0:=hry.cell (i:=0) (by omega);have qz1:=hry.cell (i:=1) (by omega);have qz2:=hry.cell (i:=2) (by omega)
   have qu0:=hrz.cell (i:=0) (by omega);have qu1:=hrz.cell (i:=1) (by omega);have qu2:=hrz.cell (i:=2) (by omega);have qu3:=hrz.cell (i:=3) (by omega);have qu4:=hrz.cell (i:=4) (by omega)
   simp only [row3,row5] at qy0 qy1 qy2 qz0 qz1 qz2 qu0 qu1 qu2 qu3 qu4
   have HE:=xH hE
   clear hE hmm hkk hrt hrg hrx hry hrz hb4 L1 L2 L3 L4 hb15 hd15
   go_wp2_with fail
   exact bodyPost_ret (v:=.tuple #[.agg #[(c15 w7.heap.size).c0,(c15 w7.heap.size).c1,(c15 w7.heap.size).c2],.agg #[.int .i64 6,.slice none 0 0,.slice (some ⟨g,0,none⟩) 1 1],.agg #[q0,q1,q2,q3,q4]]) (by simp [results,Tryz.results5,go_sem,qy0,qy1,qy2,qz0,qz1,qz2,qu0,qu1,qu2,qu3,qu4]) rfl (xU HE)
 · have z0':((r:Int)==0)=false:=beq_eq_false_iff_ne.2 (by omega)
   have z1':((r:Int)==1)=false:=beq_eq_false_iff_ne.2 (by omega)
   have z2':((r:Int)==2)=false:=beq_eq_false_iff_ne.2 (by omega)
   have z3':((r:Int)==3)=false:=beq_eq_false_iff_ne.2 (by omega)
   go_upto_region 16 with fail
   refine wp_swap (c':=Code.region 16 dw16Ops true) (by kernel_rfl) ?_
   refine wp_region_noPanic ?_
   have hw:=(xU HH7).drew
   refine dw16 w.heap.size (w.heap.size+1) (w.heap.size+2) (w.heap.size+3) w2.heap.size (w2.heap.size+1) w3.heap.size ⟨.int .i64 k.sort,.slice a1 k.names.length cap1,.slice a2 k.kids.length cap2⟩ ⟨.int .i64 m.sort,.slice b1 m.names.length bap1,.slice b2 m.kids.length bap2⟩ ⟨.int .i64 t.sort,.int .i64 t.num,.string t.text,.slice t1 t.names.length tap1,.slice t2 t.kids.length tap2⟩ w7 _ (fun _ _ _ _ _ h=>h) hw.bA hw.bB hw.bC (xU HO1) (xU HO2) (xU HO3) (by omega) (by omega) (by omega) (by omega) (by omega) (by omega) hw.h0.bX hw.h0.bY hw.h0.bZ (by kernel_rfl) ?_
   intro u
   have hf8:=xU HF7
   refine NoPanic.normal ?_
   simp only [frL_eq,frG,List.lookup,Nat.reduceBEq,Nat.reduceAdd,Option.getD_some,Option.getD_none]
   have hput:=hf8.put _ rfl
   simp only at hput
   generalize pt3 _ _ _ _ _ _ _ _ _ _ _ _ _ _ _=X9 at hput ⊢
   obtain ⟨r1,r2,r3,hE⟩:=hput
   obtain ⟨qy0,qy1,qy2⟩:=cs3 r1 (by omega)
   have qz0:=r2.cell (i:=0) (by omega);have qz1:=r2.cell (i:=1) (by omega);have qz2:=r2.cell (i:=2) (by omega)
   have qu0:=r3.cell (i:=0) (by omega);have qu1:=r3.cell (i:=1) (by omega);have qu2:=r3.cell (i:=2) (by omega);have qu3:=r3.cell (i:=3) (by omega);have qu4:=r3.cell (i:=4) (by omega)
   simp only [row3,row5] at qy0 qy1 qy2 qz0 qz1 qz2 qu0 qu1 qu2 qu3 qu4
   have HE:=xH hE
   clear r1 r2 r3 hE
   go_wp2_with fail
   exact bodyPost_ret (v:=.tuple #[.agg #[.int .i64 k.sort,.slice a1 k.names.length cap1,.slice a2 k.kids.length cap2],.agg #[.int .i64 m.sort,.slice b1 m.names.length bap1,.slice b2 m.kids.length bap2],.agg #[.int .i64 t.sort,.int .i64 t.num,.string t.text,.slice t1 t.names.length tap1,.slice t2 t.kids.length tap2]]) (by simp [results,Tryz.results5,go_sem,qy0,qy1,qy2,qz0,qz1,qz2,qu0,qu1,qu2,qu3,qu4]) rfl (xU HE)
end Go.Proofs.YteefjeddboefcaaGreatDoor

namespace Go.Proofs.YteefjeddboefcaaGreatDoor
open Go Go.RowKit
def WyEnd (P:Nat→Prop) (k:Kd) (w w':World) (e:Ending):Prop :=
 ∃ (m:Kd) (d:C3),e=.returned (.agg #[d.c0,d.c1,d.c2])∧KRep (fun x=>P x∨(w.heap.size≤x∧x < w'.heap.size)) w' m d∧(m=k∨wKd m≤80000)∧Below w.heap.size w w'
structure Y7 (P:Nat→Prop) (w W:World) (v:Value) (b:List UInt8) (q:Nat) (k:Kd) (c:C3):Prop where
 dr:DR (w.heap.size+2) W v b q
 below:Below w.heap.size w W
 bA:W.rowIs w.heap.size 26 3 (row3 c.c0 c.c1 c.c2)
 bX:W.rowIs (w.heap.size+1) 26 3 (row3 (.int .i64 0) (.slice none 0 0) (.slice none 0 0))
 kr:KRep P W k c
 hP:∀ x,P x→x < w.heap.size
theorem Y7.next {P:Nat→Prop} {w W W':World} {v:Value} {b:List UInt8} {q q':Nat} {k:Kd} {c:C3} (h:Y7 P w W v b q k c) (hd:DR (w.heap.size+2) W' v b q') (hb:But (w.heap.size+2) W W'):Y7 P w W' v b q' k c:=by
 have hs:=h.dr.cells.lt
 exact ⟨hd,h.below.trans ⟨hb.os,hb.tape,hb.output,hb.size,fun i hi=>hb.at (by omega) (by omega)⟩,h.bA.of_block (hb.at (by omega) (by omega)),h.bX.of_block (hb.at (by omega) (by omega)),KRep.carry (fun x hx=>by have:=h.hP x hx;exact hb.at (by omega) (by omega)) (fun _ h=>h) _ _ h.kr,h.hP⟩
theorem Y7.on {P:Nat→Prop} {w W W':World} {v:Value} {b:List UInt8} {q:Nat} {k:Kd} {c:C3} (h:Y7 P w W v b q k c) (hb:Below W.heap.size W W'):Y7 P w W' v b q k c:=h.next (h.dr.on hb) (But.of_below hb)
theorem wy_put {P:Nat→Prop} {w W:World} {v:Value} {b:List UInt8} {q:Nat} {k m:Kd} {c d:C3} (h:Y7 P w W v b q k c) (hm:KRep (fun x=>P x∨(w.heap.size+2≤x∧x < W.heap.size)) W m d) (hw:m=k∨wKd m≤80000) (va vb vc:Value) :
 WyEnd P k w (((W.setCell ⟨w.heap.size+1,0,none⟩ va).setCell ⟨w.heap.size+1,1,none⟩ vb).setCell ⟨w.heap.size+1,2,none⟩ vc) (.returned (.agg #[d.c0,d.c1,d.c2])):=by
 refine ⟨m,d,rfl,KRep.carry (fun x hx=>?_) (fun x hx=>?_) _ _ hm,hw,?_⟩
 · have hne:x≠w.heap.size+1:=by
    rcases hx with hx | hx
    · have:=h.hP x hx;omega
    · omega
   repeat rw [Below.heap_setCell _ _ _ _ (by simp;omega)]
 · rcases hx with hx | hx
   · exact Or.inl hx
   · exact Or.inr ⟨by omega,by simp only [size_setCell];exact hx.2⟩
 · refine Below.trans h.below ⟨rfl,rfl,rfl,by simp only [size_setCell];exact Nat.le_refl _,fun i hi=>?_⟩
   repeat rw [Below.heap_setCell _ _ _ _ (by simp;omega)]
theorem drawKindWay_any (w:World) (P:Nat→Prop) (k:Kd) (c:C3) (hP:∀ x,P x→x < w.heap.size) (hk:KRep P w k c) (a:Option Addr) (cap:Nat) (l:List UInt8) (hv:BytesAt w (.slice a l.length cap) l) (hcap:l.length≤cap) :
 Calls Tryz.prog 14 #[.agg #[c.c0,c.c1,c.c2],.slice a l.length cap] w fun e w'=>WyEnd P k w w' e:=by
 obtain ⟨c0,c1,c2⟩:=c
 obtain ⟨g0,-,⟨a1,cap1,g1,-⟩,a2,cap2,g2,-⟩:=hk.open
 simp only at g0 g1 g2
 subst g0 g1 g2
 have hb0:Below w.heap.size w ((w.alloc (.cells #[.int .i64 k.sort,.slice a1 k.names.length cap1,.slice a2 k.kids.length cap2] 26)).alloc (.cells #[.int .i64 0,.slice none 0 0,.slice none 0 0] 26)):=((Below.refl _ _).alloc (Nat.le_refl _) _).alloc (by simp) _
 have hs0:((w.alloc (.cells #[.int .i64 k.sort,.slice a1 k.names.length cap1,.slice a2 k.kids.length cap2] 26)).alloc (.cells #[.int .i64 0,.slice none 0 0,.slice none 0 0] 26)).heap.size=w.heap.size+2:=by simp
 have hop:=l6Open_any ((w.alloc (.cells #[.int .i64 k.sort,.slice a1 k.names.length cap1,.slice a2 k.kids.length cap2] 26)).alloc (.cells #[.int .i64 0,.slice none 0 0,.slice none 0 0] 26)) a cap l (hv.on hb0) hcap
 rw [hs0] at hop
 have hA:=(row3_alloc w (.int .i64 k.sort) (.slice a1 k.names.length cap1) (.slice a2 k.kids.length cap2) 26).alloc (.cells #[.int .i64 0,.slice none 0 0,.slice none 0 0] 26)
 have hX:=row3_alloc (w.alloc (.cells #[.int .i64 k.sort,.slice a1 k.names.length cap1,.slice a2 k.kids.length cap2] 26)) (.int .i64 0) (.slice none 0 0) (.slice none 0 0) 26
 rw [World.size_alloc] at hX
 have HOP:=xH hop;have HA:=xH hA;have HX:=xH hX;have HB0:=xH hb0;have HS0:=xH hs0;have HPP:=xH hP
 have HK:=xH (KRep.carry (w':=((w.alloc (.cells #[.int .i64 k.sort,.slice a1 k.names.length cap1,.slice a2 k.kids.length cap2] 26)).alloc (.cells #[.int .i64 0,.slice none 0 0,.slice none 0 0] 26))) (fun x hx=>hb0.block x (hP x hx)) (fun _ h=>h) _ _ hk)
 clear hv hb0 hop hA hX hs0 hcap hk hP
 go_enter Tryz.func14,Tryz.ntmps14
 go_wp2_with fail
 generalize ((w.alloc (.cells #[.int .i64 k.sort,.slice a1 k.names.length cap1,.slice a2 k.kids.length cap2] 26)).alloc (.cells #[.int .i64 0,.slice none 0 0,.slice none 0 0] 26))=W0 at HOP HA HX HB0 HS0 HK ⊢
 refine (xU HOP).mono ?_
 rintro e w1 ⟨v',b',rfl,hdr,hb1⟩
 have hs0:=xU HS0
 have hy1:Y7 P w w1 v' b' 0 k ⟨.int .i64 k.sort,.slice a1 k.names.length cap1,.slice a2 k.kids.length cap2⟩:=⟨hdr,(xU HB0).trans ⟨hb1.os,hb1.tape,hb1.output,hb1.size,fun i hi=>hb1.block i (by omega)⟩,(xU HA).of_block (hb1.block _ (by omega)),(xU HX).of_block (hb1.block _ (by omega)),KRep.carry (fun x hx=>hb1.block x (by have:=xU HPP x hx;omega)) (fun _ h=>h) _ _ (xU HK),xU HPP⟩
 have HKO:=xH (specKindOk_any k P ⟨.int .i64 k.sort,.slice a1 k.names.length cap1,.slice a2 k.kids.length cap2⟩ w1 (fun x hx=>by have:=xU HPP x hx;have:=hy1.dr.cells.lt;omega) hy1.kr)
 obtain ⟨k0,k1,k2⟩:=cs3 hy1.bA (by omega)
 simp only [row3] at k0 k1 k2
 have HY1:=xH hy1
 clear HOP HA HX HB0 HS0 HK hdr hb1 hs0 hy1
 go_wp2_with fail
 refine (xU HKO).mono ?_
 rintro e w2 ⟨rfl,hb2⟩
 have hy2:=(xU HY1).on hb2
 have HY2:=xH hy2
 clear hb2 HKO HY1 k0 k1 k2
 obtain ⟨k0,k1,k2⟩:=cs3 hy2.bA (by omega)
 have x0:=hy2.bX.cell (i:=0) (by omega);have x1:=hy2.bX.cell (i:=1) (by omega);have x2:=hy2.bX.cell (i:=2) (by omega);have xf:=hy2.bX.frozen
 simp only [row3] at k0 k1 k2 x0 x1 x2
 by_cases hq:0 < qT k 1
 · rw [decide_eq_true hq]
   have HQ:=xH hq
   clear hq hy2 k0 k1 k2 x0 x1 x2 xf
   go_wp2_with fail
   go_loopw [6] (fun vi wr=>∃ (i q:Nat),i≤3∧vi=.int .i64 i∧q≤80000 * i∧Hid (Y7 P w wr v' b' q k ⟨.int .i64 k.sort,.slice a1 k.names.length cap1,.slice a2 k.kids.length cap2⟩)) (fun vi _=>3 - (intOf vi).toNat)
   case atStart=>exact ⟨0,0,by omega,rfl,by omega,xU HY2⟩
   case round =>
    obtain ⟨i,q,hi,rfl,hq,HS⟩:=hrel
    have hRl:=HS.out.dr.cells.lt
    obtain ⟨k0,k1,k2⟩:=cs3 HS.out.bA (by omega)
    simp only [row3] at k0 k1 k2
    by_cases hlt:i < 3
    · have hok:=ok_of_qT (xU HQ)
      have hcall:=wd_all (ksz k+1) k (by omega) P (w.heap.size+2) wr v' b' q ⟨.int .i64 k.sort,.slice a1 k.names.length cap1,.slice a2 k.kids.length cap2⟩ HS.out.dr (fun x hx=>by have:=xU HPP x hx;omega) HS.out.kr hok.1 (by omega)
      have HCALL:=xH hcall;have HOK:=xH hok.2
      clear hcall hok
      have hd3:decide ((i:Int) < 3)=true:=by simp;omega
      go_wp2_with fail
      refine (xU HCALL).mono ?_
      rintro e w4 ⟨m,⟨m0,m1,m2⟩,p4,rfl,hm,hd4,hp4,hw4,hb4⟩
      obtain ⟨g0,-,⟨a3,cap3,g1,-⟩,a4,cap4,g2,-⟩:=hm.open
      simp only at g0 g1 g2
      subst g0 g1 g2
      have hbA:Below w4.heap.size w4 (w4.alloc (.cells #[.int .i64 m.sort,.slice a3 m.names.length cap3,.slice a4 m.kids.length cap4] 26)):=(Below.refl _ _).alloc (Nat.le_refl _) _
      have hs5:=(HS.out.next hd4 hb4).on hbA
      have hm5:KRep (fun x=>wr.heap.size≤x∧x < w4.heap.size) (w4.alloc (.cells #[.int .i64 m.sort,.slice a3 m.names.length cap3,.slice a4 m.kids.length cap4] 26)) m ⟨.int .i64 m.sort,.slice a3 m.names.length cap3,.slice a4 m.kids.length cap4⟩:=KRep.carry (fun x hx=>hbA.block x hx.2) (fun _ h=>h) _ _ hm
      have hr5:=row3_alloc w4 (.int .i64 m.sort) (.slice a3 m.names.length cap3) (.slice a4 m.kids.length cap4) 26
      have hkok:=specKindOk_any m _ ⟨.int .i64 m.sort,.slice a3 m.names.length cap3,.slice a4 m.kids.length cap4⟩ (w4.alloc (.cells #[.int .i64 m.sort,.slice a3 m.names.length cap3,.slice a4 m.kids.length cap4] 26)) (fun x hx=>by rw [World.size_alloc];omega) hm5
      have hwm:wKd m≤80000:=by have:=xU HOK;omega
      have hpp:p4≤80000 * (i+1):=by have:=xU HOK;omega
      have hs45:wr.heap.size≤w4.heap.size:=hb4.size
      have HS5:=xH hs5;have HM5:=xH hm5;have HR5:=xH hr5;have HKOK:=xH hkok;have HWM:=xH hwm;have HP4:=xH hpp
      clear hm hd4 hp4 hw4 hb4 hbA hs5 hm5 hr5 hkok hwm hpp k0 k1 k2 HS HCALL
      go_wp2_with fail
      generalize w4.alloc (.cells #[.int .i64 m.sort,.slice a3 m.names.length cap3,.slice a4 m.kids.length cap4] 26)=W4 at HS5 HM5 HR5 HKOK ⊢
      refine (xU HKOK).mono ?_
      rintro e w6 ⟨rfl,hb6⟩
      have hs6:=(xU HS5).on hb6
      have hl5:=(xU HR5).lt
      have hm6:=KRep.carry (w':=w6) (fun x (hx:wr.heap.size≤x∧x < w4.heap.size)=>hb6.block x (by omega)) (fun _ h=>h) _ _ (xU HM5)
      have hr6:=(xU HR5).of_block (hb6.block _ hl5)
      by_cases hqm:0 < qT m 1
      · rw [decide_eq_true hqm]
        obtain ⟨j0,j1,j2⟩:=cs3 hr6 (by omega)
        have x0:=hs6.bX.cell (i:=0) (by omega);have x1:=hs6.bX.cell (i:=1) (by omega);have x2:=hs6.bX.cell (i:=2) (by omega);have xf:=hs6.bX.frozen
        simp only [row3] at j0 j1 j2 x0 x1 x2
        have hwl:=hr6.lt
        have HFIN:=xH (wy_put hs6 (KRep.carry (fun _ _=>rfl) (fun x hx=>Or.inr ⟨by have:=hx.1;omega,by have:=hx.2;omega⟩) _ _ hm6) (Or.inr (xU HWM)) (.int .i64 m.sort) (.slice a3 m.names.length cap3) (.slice a4 m.kids.length cap4))
        have hne1:w4.heap.size≠w.heap.size+1:=by omega
        clear hs6 hm6 hr6 hb6 hqm HS5 HM5 HR5 HKOK HP4 HWM
        go_wp2_with fail
        try go_region
        all_goals
         go_wp2_with fail
         refine bodyPost_ret (v:=.agg #[.int .i64 m.sort,.slice a3 m.names.length cap3,.slice a4 m.kids.length cap4]) (by simp [results,Tryz.results14,go_sem,x0,x1,x2]) rfl ?_
         have hfin:=xU HFIN
         try simp only at hfin
         with_reducible exact hfin
      · rw [decide_eq_false hqm]
        have HS6:=xH hs6
        have hp6:=xU HP4
        clear hs6 hm6 hr6 hb6 hqm HS5 HM5 HR5 HKOK
        go_wp2_with fail
        go_roundw
        case rel=>exact ⟨i+1,p4,hlt,by go_num,hp6,xU HS6⟩
        case measure=>simp [intOf];omega
    · obtain rfl:i=3:=by omega
      obtain ⟨x0,x1,x2⟩:=cs3 HS.out.bX (by omega);have xf:=HS.out.bX.frozen
      simp only [row3] at x0 x1 x2
      have HFIN:=xH (wy_put HS.out (KRep.carry (fun _ _=>rfl) (fun x hx=>Or.inl hx) _ _ HS.out.kr) (Or.inl rfl) (.int .i64 k.sort) (.slice a1 k.names.length cap1) (.slice a2 k.kids.length cap2))
      clear HS
      go_wp2_with fail
      try go_region
      all_goals
       go_wp2_with fail
       refine bodyPost_ret (v:=.agg #[.int .i64 k.sort,.slice a1 k.names.length cap1,.slice a2 k.kids.length cap2]) (by simp [results,Tryz.results14,go_sem,x0,x1,x2]) rfl ?_
       have hfin:=xU HFIN
       try simp only at hfin
       with_reducible exact hfin
 · rw [decide_eq_false hq]
   have HFIN:=xH (wy_put hy2 (KRep.carry (fun _ _=>rfl) (fun x hx=>Or.inl hx) _ _ hy2.kr) (Or.inl rfl) (.int .i64 k.sort) (.slice a1 k.names.length cap1) (.slice a2 k.kids.length cap2))
   have hl2:=hy2.dr.cells.lt
   clear hq hy2 HY2
   go_wp2_with fail
   try go_region
   all_goals
    go_wp2_with fail
    refine bodyPost_ret (v:=.agg #[.int .i64 k.sort,.slice a1 k.names.length cap1,.slice a2 k.kids.length cap2]) (by simp [results,Tryz.results14,go_sem,x0,x1,x2]) rfl ?_
    have hfin:=xU HFIN
    try simp only at hfin
    with_reducible exact hfin
end Go.Proofs.YteefjeddboefcaaGreatDoor

namespace Go.Proofs.YteefjeddboefcaaGreatDoor
open Go Go.RowKit Go.WideMaps Go.Maps
def nkey (s:ByteArray):Lit:=.string s.data.toList
def nmap (ns:List ByteArray):Nat→DataW Unit
 | 0=>.map []
 | k+1=>(nmap ns k).put (nkey (ns.getD k ByteArray.empty)) (.lit (.int .i64 k))
theorem nmap_map (ns:List ByteArray):∀ k,IsMap (nmap ns k)
 | 0=>⟨[],rfl⟩
 | k+1=>(nmap_map ns k).put _ _
theorem nkey_inj {a b:ByteArray} (h:nkey a=nkey b):a=b:=by
 simp only [nkey,Lit.string.injEq] at h
 exact ByteArray.ext (Array.toList_inj.1 h)
theorem nkey_ok (s:ByteArray):WideAt.IsKeyLit (nkey s):=trivial
theorem has_nmap (ns:List ByteArray) (x:ByteArray):∀ k,k≤ns.length→(Maps.has (nmap ns k) (nkey x)=true↔x∈ns.take k)
 | 0,_=>by simp [nmap,Maps.has]
 | k+1,h=>by
   have hg:ns.getD k ByteArray.empty=ns[k]:=by simp [List.getD,show k < ns.length by omega]
   rw [nmap,hg,List.take_succ_eq_append_getElem (by omega),List.mem_append]
   by_cases e:x=ns[k]
   · rw [e,has_put_same (nmap_map ns k) (nkey_ok _)]
     simp
   · rw [has_put_other (fun h=>e (nkey_inj h)),has_nmap ns x k (by omega)]
     simp [e]
theorem at_nmap (ns:List ByteArray) (hnd:ns.Nodup) (i:Nat) (hi:i < ns.length):∀ k,k≤ns.length→i < k→(nmap ns k).atKey (nkey ns[i]) (.lit (.int .i64 0))=.lit (.int .i64 i)
 | 0,_,h=>by omega
 | k+1,h,hk=>by
   have hg:ns.getD k ByteArray.empty=ns[k]:=by simp [List.getD,show k < ns.length by omega]
   rw [nmap,hg]
   by_cases e:i=k
   · subst e
     exact atKey_put_same (nmap_map ns i) (nkey_ok _) _ _
   · rw [atKey_put_other (fun hh=>e ((List.getElem_inj hnd).1 (nkey_inj hh)))]
     exact at_nmap ns hnd i hi k (by omega) (by omega)
theorem keyLaw:Keyed Tryz.prog 9:=string_keyed Tryz.underlying9
theorem zeroInt (w:World):(zeroValue 3).run Tryz.prog w=.ok (.int .i64 0) w:=by kernel_rfl
theorem runMake (n:Int) (w:World):(Instr.makeMap 70 (some (.int .i64 n))).run Tryz.prog w=.ok (.map (some w.heap.size)) (w.alloc (.map #[] 0)):=by rfl
def NMap (w:World) (B:Nat) (ns:List ByteArray):Prop:=w.ownsMap Tryz.prog 9 (plainElem (H:=Unit) Tryz.prog 3) B ns.length (nmap ns ns.length)
def rowO (c0 c1:Value):Nat→Value
 | 0=>c0
 | _=>c1
theorem rowO_alloc (w:World) (c0 c1:Value) (t:TypeId):(w.alloc (.cells #[c0,c1] t)).rowIs w.heap.size t 2 (rowO c0 c1) :=
 World.rowIs_alloc w #[c0,c1] t _ (fun i hi=>by
  have hi':i < 2:=hi
  match i,hi' with
  | 0,_=>rfl
  | 1,_=>rfl)
end Go.Proofs.YteefjeddboefcaaGreatDoor

namespace Go.Proofs.YteefjeddboefcaaGreatDoor
open Go Go.RowKit Go.WideMaps Go.Maps
theorem newNameOrder_any (v:Value) (ns:List ByteArray) (w:World) {P:Nat→Prop} (hP:∀ b,P b→b < w.heap.size) (hv:StrsAt P w v ns) (hn:ns.length≤1048576) :
 Calls Tryz.prog 59 #[v] w fun e w'=>∃ B,e=.returned (.agg #[v,.map (some B)])∧NMap w' B ns∧w.heap.size≤B∧Below w.heap.size w w':=by
 obtain ⟨a,cap,rfl,hlen,hc⟩:=hv
 have HC:=xH hc;have HP:=xH hP
 clear hc hP
 have hmm:=runMake
 go_enter Tryz.func59,Tryz.ntmps59
 go_wp2_with fail
 have hb1:Below w.heap.size w (w.alloc (.cells #[.slice none 0 0,.map none] 72)):=(Below.refl _ _).alloc (Nat.le_refl _) _
 have hown0:=World.ownsMap_made (w.alloc (.cells #[.slice none 0 0,.map none] 72)) Tryz.prog 9 (plainElem (H:=Unit) Tryz.prog 3)
 rw [World.size_alloc] at hown0
 have hr0:=(rowO_alloc w (.slice none 0 0) (.map none) 72).alloc (.map #[] 0)
 have hb2:=hb1.alloc (by simp) (.map #[] 0)
 have hs2:((w.alloc (.cells #[.slice none 0 0,.map none] 72)).alloc (.map #[] 0)).heap.size=w.heap.size+2:=by simp
 generalize ((w.alloc (.cells #[.slice none 0 0,.map none] 72)).alloc (.map #[] 0))=W0 at *
 have HR0:=xH hr0;have HB2:=xH hb2;have HO0:=xH hown0
 clear hr0 hb2 hown0 hb1 hmm
 go_loopw [11] (fun i wr=>∃ (k:Nat),k≤ns.length∧i=.int .i64 k∧Hid (wr.ownsMap Tryz.prog 9 (plainElem (H:=Unit) Tryz.prog 3) (w.heap.size+1) k (nmap ns k))∧Hid (Below (w.heap.size+1) W0 wr)) (fun i _=>ns.length - (intOf i).toNat)
 case atStart=>exact ⟨0,Nat.zero_le _,rfl,xU HO0,Below.refl _ _⟩
 case round =>
  obtain ⟨k,hk,rfl,HOWN,HB⟩:=hrel
  have hbw:=(xU HB2).trans (HB.out.mono (by omega))
  by_cases hlt:k < ns.length
  · obtain ⟨b,o,rfl,hpb,hcell,hsz⟩:=xU HC k hlt
    have e1:wr.cell? ⟨b,o+k,none⟩=some (.string ns[k]):=by rw [hbw.cell (xU HP b hpb)];exact hcell
    have hkey:keyOf Tryz.prog 9 (.string ns[k])=some (nkey ns[k]):=keyOf_string_mk Tryz.underlying9 (by unfold maxLen;omega)
    have hst:nmap ns (k+1)=(nmap ns k).put (nkey ns[k]) (.lit (.int .i64 k)):=by
     rw [nmap];congr 2;simp [List.getD,hlt]
    generalize ns[k]=nm at *
    have HST:=xH hst
    clear hcell hpb hst
    go_wp2_with (at_mapUpdate;refine wpList_mapUpdate_own _ rfl _ _ _ 70 rfl 9 3 keyLaw Tryz.underlying70 _ (w.heap.size+1) k _ rfl (xU HOWN) (by unfold maxLen;omega) _ _ _ rfl rfl hkey _ [] (plainElem_int Tryz.underlying3 (WalkArith.wf_i64 (by omega))) ?_;intro w1 hown1 hgrow1)
    have hb4:=HB.out.grown hgrow1 (by have:=HB.out.size;omega) (fun j hj=>by cases hj;exact Nat.le_refl _)
    rw [← xU HST] at hown1
    have HO1:=xH hown1;have HB4:=xH hb4
    clear hown1 hb4 hgrow1
    go_wp2_with fail
    go_roundw
    case rel=>exact ⟨k+1,by omega,by go_num,xU HO1,xU HB4⟩
    case measure=>simp [intOf];omega
  · obtain rfl:k=ns.length:=by omega
    have q0:=(xU HR0).of_block (HB.out.block w.heap.size (by omega))
    have z:=q0.frozen
    obtain ⟨y0,y1⟩:=cs2 q0 (by omega)
    simp only [rowO] at y0 y1
    have HBW:=xH hbw
    clear q0 hbw
    go_wp2_with fail
    have hset:wr.grownBy ((wr.setCell ⟨w.heap.size,0,none⟩ (.slice a ns.length cap)).setCell ⟨w.heap.size,1,none⟩ (.map (some (w.heap.size+1)))) (some w.heap.size) :=
     ⟨rfl,rfl,rfl,by simp [World.setCell],fun x _ hx=>by rw [Below.heap_setCell _ _ _ _ (fun e=>hx (by rw [e])),Below.heap_setCell _ _ _ _ (fun e=>hx (by rw [e]))]⟩
    refine bodyPost_ret (v:=.agg #[.slice a ns.length cap,.map (some (w.heap.size+1))]) (by simp [results,Tryz.results59,go_sem,y0,y1]) rfl ⟨w.heap.size+1,rfl,?_,by omega,?_⟩
    · exact HOWN.out.kept hset (by simp)
    · exact ((xU HBW).setCell (Nat.le_refl _) _).setCell (Nat.le_refl _) _
def justB (ns names:List ByteArray):Bool:=names.all (fun x=>Maps.has (nmap ns ns.length) (nkey x)) && decide (names.length=ns.length)
theorem all_take {f:ByteArray→Bool} {l:List ByteArray} {k:Nat} (h:k < l.length):(l.take (k+1)).all f=((l.take k).all f && f l[k]):=by
 rw [List.take_succ_eq_append_getElem h,List.all_append];simp
theorem all_false {f:ByteArray→Bool} {l:List ByteArray} {k:Nat} (h:k < l.length) (hf:f l[k]=false):l.all f=false:=by
 rw [List.all_eq_false];exact ⟨l[k],List.getElem_mem h,by simp [hf]⟩
theorem hasJust_any (a:Option Addr) (cap B:Nat) (ns:List ByteArray) (v2:Value) (names:List ByteArray) (w:World) {P:Nat→Prop} (hP:∀ b,P b→b < w.heap.size) (hv:StrsAt P w v2 names) (hm:NMap w B ns) :
 Calls Tryz.prog 60 #[.agg #[.slice a ns.length cap,.map (some B)],v2] w fun e w'=>e=.returned (.bool (justB ns names))∧Below w.heap.size w w':=by
 obtain ⟨a2,cap2,rfl,hlen,hc⟩:=hv
 have hB:=hm.lt
 have HC:=xH hc;have HP:=xH hP;have HM:=xH hm
 clear hc hP hm
 go_enter Tryz.func60,Tryz.ntmps60
 go_wp2_with fail
 have hr0:=rowO_alloc w (.slice a ns.length cap) (.map (some B)) 72
 have hb0:Below w.heap.size w (w.alloc (.cells #[.slice a ns.length cap,.map (some B)] 72)):=(Below.refl _ _).alloc (Nat.le_refl _) _
 have hs0:(w.alloc (.cells #[.slice a ns.length cap,.map (some B)] 72)).heap.size=w.heap.size+1:=by simp
 have hm0:NMap (w.alloc (.cells #[.slice a ns.length cap,.map (some B)] 72)) B ns:=(xU HM).alloc _
 generalize (w.alloc (.cells #[.slice a ns.length cap,.map (some B)] 72))=W0 at *
 have HR0:=xH hr0;have HB0:=xH hb0;have HM0:=xH hm0
 clear hr0 hb0 hm0
 go_loopw [11] (fun i wr=>∃ (k:Nat),k≤names.length∧i=.int .i64 k∧Hid ((names.take k).all (fun x=>Maps.has (nmap ns ns.length) (nkey x))=true)∧Hid (Below W0.heap.size W0 wr)) (fun i _=>names.length - (intOf i).toNat)
 case atStart=>exact ⟨0,Nat.zero_le _,rfl,by simp [Hid],Below.refl _ _⟩
 case round =>
  obtain ⟨k,hk,rfl,HA,HB⟩:=hrel
  have hbw:=(xU HB0).trans (HB.out.mono (by omega))
  have q0:=(xU HR0).of_block (HB.out.block w.heap.size (by omega))
  obtain ⟨y0,y1⟩:=cs2 q0 (by omega)
  simp only [rowO] at y0 y1
  have hmw:NMap wr B ns:=(xU HM0).kept (row:=none) ⟨HB.out.os,HB.out.tape,HB.out.output,HB.out.size,fun x hx _=>HB.out.block x hx⟩ (by simp)
  have HMW:=xH hmw;have HBW:=xH hbw
  by_cases hlt:k < names.length
  · obtain ⟨b,o,rfl,hpb,hcell,hsz⟩:=xU HC k hlt
    have e1:wr.cell? ⟨b,o+k,none⟩=some (.string names[k]):=by rw [hbw.cell (xU HP b hpb)];exact hcell
    have hkey:keyOf Tryz.prog 9 (.string names[k])=some (nkey names[k]):=keyOf_string_mk Tryz.underlying9 (by unfold maxLen;omega)
    have hat:=all_take (f:=fun x=>Maps.has (nmap ns ns.length) (nkey x)) hlt
    have haf:=all_false (f:=fun x=>Maps.has (nmap ns ns.length) (nkey x)) hlt
    rw [xU HA,Bool.true_and] at hat
    cases hv:Maps.has (nmap ns ns.length) (nkey names[k])
    · have hj:justB ns names=false:=by rw [justB,haf hv];rfl
      have HJ:=xH hj
      generalize names[k]=nm at *
      clear hcell hpb hbw q0 hat haf hj hmw
      go_wp2_with (at_lookup;refine wpList_lookup_own_ok_int _ rfl _ _ 70 rfl 9 3 .i64 keyLaw Tryz.underlying70 Tryz.underlying3 (zeroInt _) B ns.length _ rfl (xU HMW) _ _ rfl hkey ?_;intro c hat hwc)
      go_ret
      exact ⟨by rw [xU HJ];rfl,xU HBW⟩
    · have ha2:(names.take (k+1)).all (fun x=>Maps.has (nmap ns ns.length) (nkey x))=true:=by rw [hat];exact hv
      have HA2:=xH ha2
      generalize names[k]=nm at *
      clear hcell hpb hbw q0 hat haf ha2 hmw
      go_wp2_with (at_lookup;refine wpList_lookup_own_ok_int _ rfl _ _ 70 rfl 9 3 .i64 keyLaw Tryz.underlying70 Tryz.underlying3 (zeroInt _) B ns.length _ rfl (xU HMW) _ _ rfl hkey ?_;intro c hat hwc)
      go_roundw
      case rel=>exact ⟨k+1,by omega,by go_num,xU HA2,HB.out⟩
      case measure=>simp [intOf];omega
  · obtain rfl:k=names.length:=by omega
    have hj:justB ns names=decide (names.length=ns.length):=by
     have:=xU HA
     rw [List.take_length] at this
     rw [justB,this,Bool.true_and]
    have HJ:=xH hj
    clear q0 hbw hmw hj
    go_wp2_with fail
    go_ret
    refine ⟨?_,xU HBW⟩
    have e:((names.length:Int)==(ns.length:Int))=decide (names.length=ns.length):=by
     rw [Bool.eq_iff_iff];simp only [beq_iff_eq,decide_eq_true_eq];constructor <;> intro h <;> omega
    rw [xU HJ,← e]
    rfl
end Go.Proofs.YteefjeddboefcaaGreatDoor

namespace Go.Proofs.YteefjeddboefcaaGreatDoor
open Go Go.RowKit Go.Maps
theorem NMap.carry {w w':World} {B:Nat} {ns:List ByteArray} (h:NMap w B ns) (e:w'.heap[B]? = w.heap[B]?):NMap w' B ns:=by
 obtain ⟨es,clock,hb,r⟩:=h
 exact ⟨es,clock,e.trans hb,r⟩
structure C4 where
 (c0 c1 c2 c3:Value)
def c4l (c:C4):List Value:=[c.c0,c.c1,c.c2,c.c3]
def C4.at (w:World) (b o:Nat) (c:C4):Prop :=
 w.cell? ⟨b,o,none⟩=some c.c0∧w.cell? ⟨b,o+1,none⟩=some c.c1∧w.cell? ⟨b,o+2,none⟩=some c.c2∧w.cell? ⟨b,o+3,none⟩=some c.c3
theorem C4.at.carry {w w':World} {b o:Nat} {c:C4} (h:C4.at w b o c) (hb:w'.heap[b]? = w.heap[b]?):C4.at w' b o c:=by
 have e:∀ o',w'.cell? ⟨b,o',none⟩=w.cell? ⟨b,o',none⟩:=fun o'=>World.cell?_of_block (w:=w) hb
 obtain ⟨h0,h1,h2,h3⟩:=h
 exact ⟨by rw [e];exact h0,by rw [e];exact h1,by rw [e];exact h2,by rw [e];exact h3⟩
mutual
def NRep (P:Nat→Prop) (w:World):Kd→C4→Prop
 | .mk s ns ks,c=>c.c0=.int .i64 s∧I64 s∧StrsAt P w c.c1 ns∧(∃ B,c.c2=.map (some B)∧P B∧NMap w B ns) ∧
   ∃ a cap,c.c3=.slice a ks.length cap∧ks.length≤9223372036854775807∧(ks≠[]→∃ b o,a=some ⟨b,o,none⟩∧P b∧NRepK P w b o ks)
def NRepK (P:Nat→Prop) (w:World) (b:Nat) (o:Nat):List Kd→Prop
 | []=>True
 | t::r=>(∃ c,C4.at w b o c∧NRep P w t c)∧NRepK P w b (o+4) r
end
theorem NRepK.get {P:Nat→Prop} {w:World} {b o:Nat} {ks:List Kd} (h:NRepK P w b o ks) (i:Nat) (hi:i < ks.length) :
 ∃ c,C4.at w b (o+i * 4) c∧NRep P w ks[i] c:=by
 induction ks generalizing o i with
 | nil=>simp at hi
 | cons t r ih =>
   rw [NRepK] at h
   cases i with
   | zero=>exact h.1
   | succ i =>
     obtain ⟨c,h1,h2⟩:=ih h.2 i (by simpa using hi)
     exact ⟨c,by rw [show o+(i+1) * 4=o+4+i * 4 from by omega];exact h1,h2⟩
mutual
theorem NRep.carry {P Q:Nat→Prop} {w w':World} (hP:∀ b,P b→w'.heap[b]? = w.heap[b]?) (hQ:∀ b,P b→Q b):∀ (t:Kd) (c:C4),NRep P w t c→NRep Q w' t c
 | .mk s ns ks,c=>by
   intro h
   rw [NRep] at h ⊢
   obtain ⟨h0,h3,h6,⟨B,hB1,hB2,hB3⟩,a,cap,h7,h8,h9⟩:=h
   refine ⟨h0,h3,h6.carry hP hQ,⟨B,hB1,hQ B hB2,hB3.carry (hP B hB2)⟩,a,cap,h7,h8,fun hk=>?_⟩
   obtain ⟨b,o,e,p,hr⟩:=h9 hk
   exact ⟨b,o,e,hQ b p,NRepK.carry hP hQ b o (hP b p) ks hr⟩
theorem NRepK.carry {P Q:Nat→Prop} {w w':World} (hP:∀ b,P b→w'.heap[b]? = w.heap[b]?) (hQ:∀ b,P b→Q b) (b:Nat) (o:Nat) (hb:w'.heap[b]? = w.heap[b]?):∀ (ks:List Kd),NRepK P w b o ks→NRepK Q w' b o ks
 | []=>by intro _;rw [NRepK];trivial
 | t::r=>by
   intro h
   rw [NRepK] at h ⊢
   obtain ⟨⟨c,h1,h2⟩,h3⟩:=h
   exact ⟨⟨c,h1.carry hb,NRep.carry hP hQ t c h2⟩,NRepK.carry hP hQ b (o+4) hb r h3⟩
end
theorem NRep.open {P:Nat→Prop} {w:World} {t:Kd} {c:C4} (h:NRep P w t c) :
 c.c0=.int .i64 t.sort∧I64 t.sort∧StrsAt P w c.c1 t.names∧(∃ B,c.c2=.map (some B)∧P B∧NMap w B t.names) ∧
 ∃ a cap,c.c3=.slice a t.kids.length cap∧t.kids.length≤9223372036854775807 ∧
   ∀ i,(hi:i < t.kids.length)→∃ b o c,a=some ⟨b,o,none⟩∧P b∧C4.at w b (o+i * 4) c∧NRep P w t.kids[i] c:=by
 obtain ⟨s,ns,ks⟩:=t
 rw [NRep] at h
 obtain ⟨h0,h3,h6,hB,a,cap,h7,h8,h9⟩:=h
 refine ⟨h0,h3,h6,hB,a,cap,h7,h8,fun i hi=>?_⟩
 obtain ⟨b,o,e,p,hr⟩:=h9 (fun hh=>by subst hh;simp [Kd.kids] at hi)
 obtain ⟨c',h1',h2'⟩:=hr.get i hi
 exact ⟨b,o,c',e,p,h1',h2'⟩
def NRepL (P:Nat→Prop) (w:World):List Kd→List Value→Prop
 | [],xs=>xs=[]
 | t::r,xs=>∃ c xs',xs=c4l c++xs'∧NRep P w t c∧NRepL P w r xs'
theorem NRepL.snoc {P:Nat→Prop} {w:World} {ks:List Kd} {xs:List Value} {t:Kd} {c:C4} (h:NRepL P w ks xs) (ht:NRep P w t c):NRepL P w (ks++[t]) (xs++c4l c):=by
 induction ks generalizing xs with
 | nil =>
   have h':xs=[]:=h
   subst h'
   exact ⟨c,[],by simp,ht,rfl⟩
 | cons a r ih =>
   obtain ⟨d,xs',rfl,h1,h2⟩:=h
   exact ⟨d,xs'++c4l c,by simp,h1,ih h2⟩
theorem NRepL.carry {P Q:Nat→Prop} {w w':World} {ks:List Kd} {xs:List Value} (h:NRepL P w ks xs) (hP:∀ b,P b→w'.heap[b]? = w.heap[b]?) (hQ:∀ b,P b→Q b):NRepL Q w' ks xs:=by
 induction ks generalizing xs with
 | nil=>exact h
 | cons a r ih =>
   obtain ⟨d,xs',rfl,h1,h2⟩:=h
   exact ⟨d,xs',rfl,NRep.carry hP hQ a d h1,ih h2⟩
theorem NRepL.repK {P:Nat→Prop} {w:World} {g:Nat} {ks:List Kd} {xs:List Value} {o:Nat} (h:NRepL P w ks xs) (hc:∀ j u,xs[j]? = some u→w.cell? ⟨g,o+j,none⟩=some u):NRepK P w g o ks:=by
 induction ks generalizing xs o with
 | nil=>rw [NRepK];trivial
 | cons a r ih =>
   obtain ⟨d,xs',rfl,h1,h2⟩:=h
   rw [NRepK]
   refine ⟨⟨d,⟨hc 0 _ rfl,hc 1 _ rfl,hc 2 _ rfl,hc 3 _ rfl⟩,h1⟩,ih h2 (fun j u hj=>?_)⟩
   have:=hc (4+j) u (by
    rw [List.getElem?_append_right (by simp [c4l]),show 4+j - (c4l d).length=j from by simp [c4l]];exact hj)
   rw [show o+4+j=o+(4+j) from by omega];exact this
def NKids (P:Nat→Prop) (w:World) (v:Value) (ks:List Kd):Prop:=∃ a cap,v=.slice a ks.length cap∧ks.length≤9223372036854775807∧(ks≠[]→∃ b o,a=some ⟨b,o,none⟩∧P b∧NRepK P w b o ks)
theorem NKids.of_row {P:Nat→Prop} {base:Nat} {w:World} {v:Value} {ks:List Kd} {xs:List Value} (h:w.ownsRow base 75 4 v ks.length xs) (hl:NRepL P w ks xs) (hP:∀ g,base≤g→g < w.heap.size→P g):NKids P w v ks:=by
 rcases h.2 with ⟨hv,hn0⟩ | ⟨g,cap,cur,hv,hgb,hh,hle,hm2,hsz,htk⟩
 · have hks:ks=[]:=List.eq_nil_of_length_eq_zero hn0
   subst hks
   exact ⟨none,0,hv,by simp,fun h=>absurd rfl h⟩
 · refine ⟨some ⟨g,0,none⟩,cap,hv,by unfold maxLen at hm2;omega,fun _=>⟨g,0,rfl,hP g hgb (Array.getElem?_eq_some_iff.1 hh).1,hl.repK (fun j u hj=>?_)⟩⟩
   have hj':cur.toList[j]? = some u:=by
    rw [← htk] at hj
    rw [List.getElem?_take] at hj
    split at hj
    · exact hj
    · cases hj
   simp only [Nat.zero_add,World.cell?, hh]
   simpa using hj'
theorem NRep.make {P:Nat→Prop} {w:World} {t:Kd} {v1 v3:Value} {B:Nat} (h0:I64 t.sort) (h1:StrsAt P w v1 t.names) (h2:P B) (h3:NMap w B t.names) (h4:NKids P w v3 t.kids):NRep P w t ⟨.int .i64 t.sort,v1,.map (some B),v3⟩:=by
 obtain ⟨s,ns,ks⟩:=t
 rw [NRep]
 exact ⟨rfl,h0,h1,⟨B,rfl,h2,h3⟩,h4⟩
theorem NKids.carry {P Q:Nat→Prop} {w w':World} {v:Value} {ks:List Kd} (h:NKids P w v ks) (hP:∀ b,P b→w'.heap[b]? = w.heap[b]?) (hQ:∀ b,P b→Q b):NKids Q w' v ks:=by
 obtain ⟨a,cap,h1,h2,h3⟩:=h
 refine ⟨a,cap,h1,h2,fun hk=>?_⟩
 obtain ⟨b,o,e,p,hr⟩:=h3 hk
 exact ⟨b,o,e,hQ b p,NRepK.carry hP hQ b o (hP b p) ks hr⟩
end Go.Proofs.YteefjeddboefcaaGreatDoor
