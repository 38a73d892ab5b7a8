/- A part. -/
import Derived.Test.YteefjeddboefcaaGreatDoorPart26
namespace Go.Proofs.YteefjeddboefcaaGreatDoor
open Go Go.RowKit
set_option maxRecDepth 100000
set_option maxHeartbeats 3200000
theorem specKindHas_any (k:Kd) (t:Tr) (P Q:Nat→Prop) (c:C3) (d:C5) (w:World) (hP:∀ b,P b→b < w.heap.size) (hQ:∀ b,Q b→b < w.heap.size) (hrep:KRep P w k c) (hrep2:Rep Q w t d) :
 Calls Tryz.prog 7 #[.agg #[c.c0,c.c1,c.c2],.agg #[d.c0,d.c1,d.c2,d.c3,d.c4]] w fun e w'=>e=.returned (.bool (hasA k t))∧Below w.heap.size w w':=by
 obtain ⟨c0,c1,c2⟩:=c
 obtain ⟨d0,d1,d2,d3,d4⟩:=d
 obtain ⟨W0,hW0⟩:∃ W0,((w.alloc (.cells #[c0,c1,c2] 26)).alloc (.cells #[d0,d1,d2,d3,d4] 29))=W0:=⟨_,rfl⟩
 have hb0:Below w.heap.size w W0:=by rw [← hW0];exact ((Below.refl _ _).alloc (Nat.le_refl _) _).alloc (by simp) _
 have hs0:W0.heap.size=w.heap.size+2:=by rw [← hW0];simp
 have hrk:W0.rowIs w.heap.size 26 3 (row3 c0 c1 c2):=by rw [← hW0];exact (row3_alloc w c0 c1 c2 _).alloc _
 have hrt:W0.rowIs (w.heap.size+1) 29 5 (row5 d0 d1 d2 d3 d4):=by
  rw [← hW0]
  have q:=row5_alloc (w.alloc (.cells #[c0,c1,c2] 26)) d0 d1 d2 d3 d4 29
  rw [World.size_alloc] at q
  exact q
 have hok:=specKindOk_any k P ⟨c0,c1,c2⟩ W0 (fun b hb=>Nat.lt_of_lt_of_le (hP b hb) hb0.size) (KRep.carry (fun b hb=>hb0.block b (hP b hb)) (fun _ h=>h) _ _ hrep)
 have hot:=fun W (hW:Below w.heap.size w W)=>specTreeOk_any t Q ⟨d0,d1,d2,d3,d4⟩ W (fun b hb=>Nat.lt_of_lt_of_le (hQ b hb) hW.size) (Rep.carry (fun b hb=>hW.block b (hQ b hb)) (fun _ h=>h) _ _ hrep2)
 have hht:=fun W (hW:Below w.heap.size w W) (h1:okD k=true) (h2:okH t=true)=>l2Has_all (tsz t+1) t (by omega) k P Q ⟨c0,c1,c2⟩ ⟨d0,d1,d2,d3,d4⟩ W (fun b hb=>Nat.lt_of_lt_of_le (hP b hb) hW.size) (fun b hb=>Nat.lt_of_lt_of_le (hQ b hb) hW.size) (KRep.carry (fun b hb=>hW.block b (hP b hb)) (fun _ h=>h) _ _ hrep) (Rep.carry (fun b hb=>hW.block b (hQ b hb)) (fun _ h=>h) _ _ hrep2) h1 h2
 obtain ⟨e0,-,⟨a3,cap3,e1,-,-⟩,a,cap,e2,-,-⟩:=hrep.open
 obtain ⟨g0,g1,g2,-,-,-,⟨a5,cap5,g3,-,-⟩,a6,cap6,g4,-,-⟩:=hrep2.open
 simp only at e0 e1 e2 g0 g1 g2 g3 g4
 subst e0 e1 e2 g0 g1 g2 g3 g4
 have hA:hasA k t=(decide (0 < qT k 1) && decide (0 < pT t 1) && hT t k):=rfl
 have h1:0 < qT k 1→okD k=true:=fun h=>(ok_of_qT h).1
 have h2:0 < pT t 1→okH t=true:=fun h=>okH_of_pT t 1 (by omega)
 obtain ⟨k0,k1,k2⟩:=cs3 hrk (by omega)
 simp only [row3] at k0 k1 k2
 have HRK:=xH hrk;have HRT:=xH hrt;have HB0:=xH hb0;have HOK:=xH hok;have HOT:=xH hot;have HHT:=xH hht
 clear hrk hrt hb0 hok hot hht hrep hrep2 hP hQ
 by_cases hq:0 < qT k 1
 · have hd:decide (0 < qT k 1)=true:=decide_eq_true hq
   by_cases hp:0 < pT t 1
   · have hd2:decide (0 < pT t 1)=true:=decide_eq_true hp
     rw [hd,hd2,Bool.true_and,Bool.true_and] at hA
     have HOK2:=xU HOK;rw [hd] at HOK2
     have HOT2:=xU HOT;rw [hd2] at HOT2
     have H1:=xH (h1 hq);have H2:=xH (h2 hp)
     rw [hA]
     have HO:=xH HOK2;have HT:=xH HOT2
     clear HOK2 HOT2 h1 h2 hd hd2 hq hp hA HOK HOT
     generalize hT t k=r at *
     go_enter Tryz.func7,Tryz.ntmps7
     go_upto_region 1 with fail
     go_wp2_with (first
      | (go_at_call 8
         refine (xU HO).mono ?_
         rintro e w1 ⟨rfl,hb1⟩
         have HB1:=xH ((xU HB0).trans (hb1.mono (xU HB0).size))
         have q1:=(xU HRT).of_block (hb1.block _ (by omega))
         have q0:=(xU HRK).of_block (hb1.block _ (by omega))
         have hs1:=hb1.size
         have Q1:=xH q1
         have Q0:=xH q0
         obtain ⟨t0,t1,t2,t3,t4⟩:=cs5 q1 (by omega)
         simp only [row5] at t0 t1 t2 t3 t4
         clear hb1 q1 q0)
      | (go_at_call 24
         refine (xU HT _ (xU HB1)).mono ?_
         rintro e w2 ⟨rfl,hb2⟩
         have HB2:=xH ((xU HB1).trans (hb2.mono (xU HB1).size))
         have q1:=(xU Q1).of_block (hb2.block _ (by omega))
         have q0:=(xU Q0).of_block (hb2.block _ (by omega))
         obtain ⟨p0,p1,p2,p3,p4⟩:=cs5 q1 (by omega)
         have o0:=q0.cell (i:=0) (by omega)
         have o1:=q0.cell (i:=1) (by omega)
         have o2:=q0.cell (i:=2) (by omega)
         simp only [row5,row3] at p0 p1 p2 p3 p4 o0 o1 o2
         clear hb2 q1 q0)
      | (go_at_call 25
         refine (xU HHT _ (xU HB2) (xU H1) (xU H2)).mono ?_
         rintro e w3 ⟨rfl,hb3⟩
         have HB3:=xH ((xU HB2).trans (hb3.mono (xU HB2).size))
         clear hb3))
     all_goals
      go_ret
      exact ⟨rfl,xU HB3⟩
   · have hd2:decide (0 < pT t 1)=false:=decide_eq_false hp
     rw [hd,hd2,Bool.true_and,Bool.false_and] at hA
     have HOK2:=xU HOK;rw [hd] at HOK2
     have HOT2:=xU HOT;rw [hd2] at HOT2
     rw [hA]
     have HO:=xH HOK2;have HT:=xH HOT2
     clear HOK2 HOT2 h1 h2 hd hd2 hq hp hA HOK HOT HHT
     go_enter Tryz.func7,Tryz.ntmps7
     go_upto_region 1 with fail
     go_wp2_with (first
      | (go_at_call 8
         refine (xU HO).mono ?_
         rintro e w1 ⟨rfl,hb1⟩
         have HB1:=xH ((xU HB0).trans (hb1.mono (xU HB0).size))
         have q1:=(xU HRT).of_block (hb1.block _ (by omega))
         obtain ⟨t0,t1,t2,t3,t4⟩:=cs5 q1 (by omega)
         simp only [row5] at t0 t1 t2 t3 t4
         clear hb1 q1)
      | (go_at_call 24
         refine (xU HT _ (xU HB1)).mono ?_
         rintro e w2 ⟨rfl,hb2⟩
         have HB2:=xH ((xU HB1).trans (hb2.mono (xU HB1).size))
         clear hb2))
     all_goals
      go_ret
      exact ⟨rfl,xU HB2⟩
 · have hd:decide (0 < qT k 1)=false:=decide_eq_false hq
   rw [hd,Bool.false_and,Bool.false_and] at hA
   have HOK2:=xU HOK;rw [hd] at HOK2
   rw [hA]
   have HO:=xH HOK2
   clear HOK2 h1 h2 hd hq hA HOK HOT HHT
   go_enter Tryz.func7,Tryz.ntmps7
   go_upto_region 1 with fail
   go_wp2_with (go_at_call 8
                refine (xU HO).mono ?_
                rintro e w1 ⟨rfl,hb1⟩
                have HB1:=xH ((xU HB0).trans (hb1.mono (xU HB0).size))
                clear hb1)
   all_goals
    go_ret
    exact ⟨rfl,xU HB1⟩

theorem specKindWiden_of (HS:WSaid 40) (a b:Kd) (t:Tr) (P Q R:Nat→Prop) (c d:C3) (x:C5) (w:World) (hP:∀ x,P x→x < w.heap.size) (hQ:∀ x,Q x→x < w.heap.size) (hR:∀ x,R x→x < w.heap.size) (ha:KRep P w a c) (hb:KRep Q w b d) (ht:Rep R w t x) :
 Calls Tryz.prog 6 #[.agg #[c.c0,c.c1,c.c2],.agg #[d.c0,d.c1,d.c2],.agg #[x.c0,x.c1,x.c2,x.c3,x.c4]] w (WdE (widA a b t) w):=by
 have ha':KRep (fun x=>x < w.heap.size) w a c:=KRep.carry (fun _ _=>rfl) hP _ _ ha
 have hb':KRep (fun x=>x < w.heap.size) w b d:=KRep.carry (fun _ _=>rfl) hQ _ _ hb
 have ht':Rep (fun x=>x < w.heap.size) w t x:=Rep.carry (fun _ _=>rfl) hR _ _ ht
 have hca:∀ W,Below w.heap.size w W→KRep (fun x=>x < W.heap.size) W a c:=fun W hW=>KRep.carry (fun x hx=>hW.block x hx) (fun _ hx=>Nat.lt_of_lt_of_le hx hW.size) _ _ ha'
 have hcb:∀ W,Below w.heap.size w W→KRep (fun x=>x < W.heap.size) W b d:=fun W hW=>KRep.carry (fun x hx=>hW.block x hx) (fun _ hx=>Nat.lt_of_lt_of_le hx hW.size) _ _ hb'
 have hct:∀ W,Below w.heap.size w W→Rep (fun x=>x < W.heap.size) W t x:=fun W hW=>Rep.carry (fun x hx=>hW.block x hx) (fun _ hx=>Nat.lt_of_lt_of_le hx hW.size) _ _ ht'
 have HFIT:Hid (∀ W,Below w.heap.size w W→Calls Tryz.prog 15 #[.agg #[c.c0,c.c1,c.c2],.agg #[d.c0,d.c1,d.c2]] W fun e w'=>e=.returned (.bool (fitsD a b))∧Below W.heap.size W w'):=fun W hW =>
  specKindFits_any a b _ _ c d W (fun _ h=>h) (fun _ h=>h) (hca W hW) (hcb W hW)
 have HHAS:Hid (∀ W,Below w.heap.size w W→Calls Tryz.prog 7 #[.agg #[c.c0,c.c1,c.c2],.agg #[x.c0,x.c1,x.c2,x.c3,x.c4]] W fun e w'=>e=.returned (.bool (hasA a t))∧Below W.heap.size W w'):=fun W hW =>
  specKindHas_any a t _ _ c x W (fun _ h=>h) (fun _ h=>h) (hca W hW) (hct W hW)
 have HWID:Hid (fitsD a b=true→hasA a t=true→∀ W,Below w.heap.size w W→Calls Tryz.prog 23 #[.agg #[c.c0,c.c1,c.c2],.agg #[d.c0,d.c1,d.c2],.agg #[x.c0,x.c1,x.c2,x.c3,x.c4]] W (TE (widF 40 a b t) W)):=fun h1 h2 W hW=>by
  obtain ⟨f1,f2,f3,f4,f5⟩:=fitsD_open h1
  obtain ⟨q1,q2⟩:=hasA_open h2
  exact HS a b t f4 (Nat.le_refl _) f5 q1 q2 c d x W ⟨hca W hW,f1⟩ ⟨hcb W hW,f2⟩ (hct W hW)
 obtain ⟨c0,c1,c2⟩:=c
 obtain ⟨d0,d1,d2⟩:=d
 obtain ⟨x0,x1,x2,x3,x4⟩:=x
 obtain ⟨e0,-,⟨a3,cap3,e1,-⟩,a4,cap4,e2,-⟩:=ha.open
 obtain ⟨g0,-,⟨b3,bap3,g1,-⟩,b4,bap4,g2,-⟩:=hb.open
 obtain ⟨q0,q1,q2,-,-,-,⟨t3,tap3,q3,-⟩,t4,tap4,q4,-⟩:=ht.open
 simp only at e0 e1 e2 g0 g1 g2 q0 q1 q2 q3 q4
 subst e0 e1 e2 g0 g1 g2 q0 q1 q2 q3 q4
 have HBX:=xH (Bx4.start w (.int .i64 a.sort) (.slice a3 a.names.length cap3) (.slice a4 a.kids.length cap4) (.int .i64 b.sort) (.slice b3 b.names.length bap3) (.slice b4 b.kids.length bap4) (.int .i64 t.sort) (.int .i64 t.num) (.string t.text) (.slice t3 t.names.length tap3) (.slice t4 t.kids.length tap4))
 clear ha hb ht ha' hb' ht' hP hQ hR hca hcb hct HS
 go_enter Tryz.func6,Tryz.ntmps6
 go_wp2_with fail
 generalize ((((w.alloc (.cells #[.int .i64 a.sort,.slice a3 a.names.length cap3,.slice a4 a.kids.length cap4] 26)).alloc (.cells #[.int .i64 b.sort,.slice b3 b.names.length bap3,.slice b4 b.kids.length bap4] 26)).alloc (.cells #[.int .i64 t.sort,.int .i64 t.num,.string t.text,.slice t3 t.names.length tap3,.slice t4 t.kids.length tap4] 29)).alloc (.cells #[.int .i64 0,.int .i64 0,.string ⟨#[]⟩,.slice none 0 0,.slice none 0 0] 29))=W0 at HBX ⊢
 refine (xU HFIT W0 (xU HBX).below).mono ?_
 rintro e W2 ⟨rfl,hb2⟩
 have HBX2:=xH ((xU HBX).on hb2)
 clear hb2 HFIT HBX
 obtain ⟨x0,x1,x2⟩:=cs3 ((xU HBX2).bA) (by omega)
 have v0:=(xU HBX2).bB.cell (i:=0) (by omega);have v1:=(xU HBX2).bB.cell (i:=1) (by omega);have v2:=(xU HBX2).bB.cell (i:=2) (by omega)
 have y0:=(xU HBX2).bT.cell (i:=0) (by omega);have y1:=(xU HBX2).bT.cell (i:=1) (by omega);have y2:=(xU HBX2).bT.cell (i:=2) (by omega);have y3:=(xU HBX2).bT.cell (i:=3) (by omega);have y4:=(xU HBX2).bT.cell (i:=4) (by omega)
 have m0:=(xU HBX2).bR.cell (i:=0) (by omega);have m1:=(xU HBX2).bR.cell (i:=1) (by omega);have m2:=(xU HBX2).bR.cell (i:=2) (by omega);have m3:=(xU HBX2).bR.cell (i:=3) (by omega);have m4:=(xU HBX2).bR.cell (i:=4) (by omega);have mf:=(xU HBX2).bR.frozen
 simp only [row3,row5] at x0 x1 x2 v0 v1 v2 y0 y1 y2 y3 y4 m0 m1 m2 m3 m4
 by_cases hfit:fitsD a b=true
 · have HF:=xH hfit
   rw [hfit]
   clear hfit
   go_wp2_with fail
   refine (xU HHAS _ (xU HBX2).below).mono ?_
   rintro e W3 ⟨rfl,hb3⟩
   have HBX3:=xH ((xU HBX2).on hb3)
   clear hb3 x0 x1 x2 v0 v1 v2 y0 y1 y2 y3 y4 m0 m1 m2 m3 m4 mf HBX2
   obtain ⟨x0,x1,x2⟩:=cs3 ((xU HBX3).bA) (by omega)
   have v0:=(xU HBX3).bB.cell (i:=0) (by omega);have v1:=(xU HBX3).bB.cell (i:=1) (by omega);have v2:=(xU HBX3).bB.cell (i:=2) (by omega)
   have y0:=(xU HBX3).bT.cell (i:=0) (by omega);have y1:=(xU HBX3).bT.cell (i:=1) (by omega);have y2:=(xU HBX3).bT.cell (i:=2) (by omega);have y3:=(xU HBX3).bT.cell (i:=3) (by omega);have y4:=(xU HBX3).bT.cell (i:=4) (by omega)
   have m0:=(xU HBX3).bR.cell (i:=0) (by omega);have m1:=(xU HBX3).bR.cell (i:=1) (by omega);have m2:=(xU HBX3).bR.cell (i:=2) (by omega);have m3:=(xU HBX3).bR.cell (i:=3) (by omega);have m4:=(xU HBX3).bR.cell (i:=4) (by omega);have mf:=(xU HBX3).bR.frozen
   simp only [row3,row5] at x0 x1 x2 v0 v1 v2 y0 y1 y2 y3 y4 m0 m1 m2 m3 m4
   by_cases hhas:hasA a t=true
   · have HH:=xH hhas
     have HC:=xH (xU HWID (xU HF) hhas W3 (xU HBX3).below)
     rw [hhas]
     clear hhas HHAS HWID
     generalize hT:widF 40 a b t=T at *
     have HT:=xH hT
     clear hT
     go_wp2_with fail
     refine (xU HC).mono ?_
     rintro e W4 ⟨d,F,rfl,ho,hnd,hF,hb4⟩
     obtain ⟨a7,cap7,a8,cap8,rfl⟩:=ho.forms
     have hbx5:=((xU HBX3).on hb4).on ((Below.refl W4.heap.size W4).alloc (Nat.le_refl _) (.cells #[.int .i64 T.sort,.int .i64 T.num,.string T.text,.slice a7 T.names.length cap7,.slice a8 T.kids.length cap8] 29))
     have hr5:=row5_alloc W4 (.int .i64 T.sort) (.int .i64 T.num) (.string T.text) (.slice a7 T.names.length cap7) (.slice a8 T.kids.length cap8) 29
     have ho5:=Own.carry T _ F (fun b hb=>Below.heap_alloc W4 (.cells #[.int .i64 T.sort,.int .i64 T.num,.string T.text,.slice a7 T.names.length cap7,.slice a8 T.kids.length cap8] 29) _ (hF b hb).2) ho
     have hlF:∀ b,b∈F→w.heap.size+4≤b∧b < (W4.alloc (.cells #[.int .i64 T.sort,.int .i64 T.num,.string T.text,.slice a7 T.names.length cap7,.slice a8 T.kids.length cap8] 29)).heap.size:=fun b hb=>by
      have h1:=hF b hb;have h2:=(xU HBX3).size
      rw [World.size_alloc];omega
     have htk:=specTreeOk_any T (·∈F) _ _ (fun b hb=>(hlF b hb).2) (Own.rep T _ F (fun _ h=>h) ho5)
     have HTK:=xH htk;have HBX5:=xH hbx5;have HR5:=xH hr5;have HO5:=xH ho5;have HLF:=xH hlF;have HND:=xH hnd
     clear ho hnd hF hb4 hbx5 hr5 ho5 hlF htk HC m0 m1 m2 m3 m4 mf y0 y1 y2 y3 y4 x0 x1 x2 v0 v1 v2
     go_wp2_with fail
     generalize W4.alloc (.cells #[.int .i64 T.sort,.int .i64 T.num,.string T.text,.slice a7 T.names.length cap7,.slice a8 T.kids.length cap8] 29)=W5 at HTK HBX5 HR5 HO5 HLF ⊢
     refine (xU HTK).mono ?_
     rintro e W6 ⟨rfl,hb6⟩
     have hbx6:=(xU HBX5).on hb6
     have hr6:=(xU HR5).of_block (hb6.block _ (xU HR5).lt)
     have ho6:=Own.carry T _ F (fun b hb=>hb6.block b (xU HLF b hb).2) (xU HO5)
     have hb6s:=hb6.size
     obtain ⟨y0,y1,y2,y3,y4⟩:=cs5 hr6 (by omega)
     have m0:=hbx6.bR.cell (i:=0) (by omega);have m1:=hbx6.bR.cell (i:=1) (by omega);have m2:=hbx6.bR.cell (i:=2) (by omega);have m3:=hbx6.bR.cell (i:=3) (by omega);have m4:=hbx6.bR.cell (i:=4) (by omega);have mf:=hbx6.bR.frozen
     simp only [row5] at y0 y1 y2 y3 y4 m0 m1 m2 m3 m4
     have HBX6:=xH hbx6;have HO6:=xH ho6;have HB6S:=xH hb6s
     clear hbx6 hr6 ho6 hb6 hb6s HTK HBX5 HR5 HO5
     by_cases hp:0 < pT T 1
     · rw [decide_eq_true hp]
       have HP:=xH hp
       clear hp
       go_wp2_with fail
       refine bodyPost_ret (v:=.tuple #[.agg #[.int .i64 T.sort,.int .i64 T.num,.string T.text,.slice a7 T.names.length cap7,.slice a8 T.kids.length cap8],.bool true]) (by simp [results,Tryz.results6,go_sem,m0,m1,m2,m3,m4]) rfl ?_
       have hA:widA a b t=some T:=by
        rw [← xU HT]
        exact widA_yes (xU HF) (xU HH) (by rw [xU HT];exact xU HP)
       rw [hA]
       refine ⟨⟨_,_,_,_,_⟩,F,rfl,Own.carry T _ F (fun b hb=>heap_set5s _ _ _ _ _ _ _ _ (by have:=(xU HLF b hb).1;omega)) (xU HO6),xU HND,fun b hb=>?_,below_set5s (xU HBX6).below _ _ _ _ _ _ (by omega)⟩
       rw [size_set5s]
       have:=xU HLF b hb;have:=xU HB6S;omega
     · rw [decide_eq_false hp]
       have HN:=xH (show widA a b t=none from widA_no3 (by rw [xU HT];exact hp))
       clear hp
       go_wp2_with fail
       exact bodyPost_ret (v:=.tuple #[.agg #[.int .i64 0,.int .i64 0,.string ⟨#[]⟩,.slice none 0 0,.slice none 0 0],.bool false]) (by simp [results,Tryz.results6,go_sem,m0,m1,m2,m3,m4]) rfl (WdE.none (xU HN) (below_set5s (xU HBX6).below _ _ _ _ _ _ (by omega)))
   · have HN:=xH (widA_no2 (b:=b) (Bool.eq_false_iff.2 hhas))
     rw [Bool.eq_false_iff.2 hhas]
     clear hhas HHAS HF HWID
     go_wp2_with fail
     exact bodyPost_ret (v:=.tuple #[.agg #[.int .i64 0,.int .i64 0,.string ⟨#[]⟩,.slice none 0 0,.slice none 0 0],.bool false]) (by simp [results,Tryz.results6,go_sem,m0,m1,m2,m3,m4]) rfl (WdE.none (xU HN) (below_set5s (xU HBX3).below _ _ _ _ _ _ (by omega)))
 · have HN:=xH (widA_no1 (t:=t) (Bool.eq_false_iff.2 hfit))
   rw [Bool.eq_false_iff.2 hfit]
   clear hfit HHAS HWID
   go_wp2_with fail
   exact bodyPost_ret (v:=.tuple #[.agg #[.int .i64 0,.int .i64 0,.string ⟨#[]⟩,.slice none 0 0,.slice none 0 0],.bool false]) (by simp [results,Tryz.results6,go_sem,m0,m1,m2,m3,m4]) rfl (WdE.none (xU HN) (below_set5s (xU HBX2).below _ _ _ _ _ _ (by omega)))

theorem KRep.form3 {P:Nat→Prop} {w:World} {k:Kd} {c:C3} (h:KRep P w k c):∃ (a3:Option Addr) (p3:Nat) (a4:Option Addr) (p4:Nat),c=⟨.int .i64 k.sort,.slice a3 k.names.length p3,.slice a4 k.kids.length p4⟩:=by
 obtain ⟨c0,c1,c2⟩:=c
 obtain ⟨e0,-,⟨a3,cap3,e1,-⟩,a4,cap4,e2,-⟩:=h.open
 simp only at e0 e1 e2
 exact ⟨a3,cap3,a4,cap4,by rw [e0,e1,e2]⟩
theorem l3Widen_step (n:Nat) (IH:WSaid n):WSaid (n+1):=by
 intro a b t hn hn40 hf hT hO c d x w ha hb ht
 obtain ⟨a1,p1,a2,p2,rfl⟩:=ha.rep.form3
 obtain ⟨b1,q1,b2,q2,rfl⟩:=hb.rep.form3
 obtain ⟨t1,r1,t2,r2,rfl⟩:=ht.form
 have sb:=okD_sh hb.ok
 by_cases h6:b.sort=6
 · by_cases g6:a.sort=6
   · exact spEach6 n IH a b t g6 h6 hn hn40 hf hT hO a1 a2 b1 b2 t1 t2 p1 p2 q1 q2 r1 r2 w ha hb ht
   · exact spInto n IH a b t g6 h6 hn hn40 hf hT hO a1 a2 b1 b2 t1 t2 p1 p2 q1 q2 r1 r2 w ha hb ht
 have hab:a.sort=b.sort:=Classical.byContradiction fun h'=>by rw [fit_ne h6 h'] at hf;cases hf
 by_cases h4:b.sort=4
 · exact spEach4 n IH a b t (by omega) h4 hn hn40 hf hT hO a1 a2 b1 b2 t1 t2 p1 p2 q1 q2 r1 r2 w ha hb ht
 by_cases h5:b.sort=5
 · exact spForm n IH a b t (by omega) h5 hn hn40 hf hT hO a1 a2 b1 b2 t1 t2 p1 p2 q1 q2 r1 r2 w ha hb ht
 by_cases h1:b.sort=1
 · exact spLeaf1 n a b t h1 hab hT a1 a2 b1 b2 t1 t2 p1 p2 q1 q2 r1 r2 w ht
 by_cases h2:b.sort=2
 · exact spLeaf2 n a b t h2 hab hT a1 a2 b1 b2 t1 t2 p1 p2 q1 q2 r1 r2 w ht
 · exact spLeaf3 n a b t (by omega) hab hT a1 a2 b1 b2 t1 t2 p1 p2 q1 q2 r1 r2 w ht
theorem l3Widen_all:∀ n,WSaid n
 | 0=>fun a b t hn _ _ _ _=>by have:=ksz_pos b;omega
 | n+1=>l3Widen_step n (l3Widen_all n)
theorem specKindWiden_any (a b:Kd) (t:Tr) (P Q R:Nat→Prop) (c d:C3) (x:C5) (w:World) (hP:∀ x,P x→x < w.heap.size) (hQ:∀ x,Q x→x < w.heap.size) (hR:∀ x,R x→x < w.heap.size) (ha:KRep P w a c) (hb:KRep Q w b d) (ht:Rep R w t x) :
 Calls Tryz.prog 6 #[.agg #[c.c0,c.c1,c.c2],.agg #[d.c0,d.c1,d.c2],.agg #[x.c0,x.c1,x.c2,x.c3,x.c4]] w (WdE (widA a b t) w) :=
 specKindWiden_of (l3Widen_all 40) a b t P Q R c d x w hP hQ hR ha hb ht

def TtSaid (n:Nat):Prop:=∀ (t:Tr),tsz t < n→∀ (P Q:Nat→Prop) (c d:C5) (w:World),(∀ b,P b→b < w.heap.size)→(∀ b,Q b→b < w.heap.size)→Rep P w t c→Rep Q w t d →
    Calls Tryz.prog 11 #[.agg #[c.c0,c.c1,c.c2,c.c3,c.c4],.agg #[d.c0,d.c1,d.c2,d.c3,d.c4]] w fun e w'=>e=.returned (.bool true)∧Below w.heap.size w w'
structure TT (w:World) (c d:C5) (wr:World):Prop where
 below:Below w.heap.size w wr
 a:wr.rowIs w.heap.size 29 5 (row5 c.c0 c.c1 c.c2 c.c3 c.c4)
 b:wr.rowIs (w.heap.size+1) 29 5 (row5 d.c0 d.c1 d.c2 d.c3 d.c4)
theorem TT.on {w:World} {c d:C5} {wr w':World} (h:TT w c d wr) (hb:Below wr.heap.size wr w'):TT w c d w' :=
 ⟨h.below.trans (hb.mono h.below.size),h.a.of_block (hb.block _ h.a.lt),h.b.of_block (hb.block _ h.b.lt)⟩
theorem TT.start (w:World) (c0 c1 c2 c3 c4 d0 d1 d2 d3 d4:Value):TT w ⟨c0,c1,c2,c3,c4⟩ ⟨d0,d1,d2,d3,d4⟩ ((w.alloc (.cells #[c0,c1,c2,c3,c4] 29)).alloc (.cells #[d0,d1,d2,d3,d4] 29)):=by
 refine ⟨((Below.refl _ _).alloc (Nat.le_refl _) _).alloc (by simp) _,(row5_alloc w c0 c1 c2 c3 c4 29).alloc _,?_⟩
 have:=row5_alloc (w.alloc (.cells #[c0,c1,c2,c3,c4] 29)) d0 d1 d2 d3 d4 29
 rw [World.size_alloc] at this
 exact this
theorem ttTree_step (n:Nat) (IH:TtSaid n):TtSaid (n+1):=by
 intro t hn P Q c d w hP hQ hrep hrep2
 obtain ⟨c0,c1,c2,c3,c4⟩:=c
 obtain ⟨d0,d1,d2,d3,d4⟩:=d
 obtain ⟨e0,e1,e2,-,-,-,hns,a4,cap4,e4,hlen,hks⟩:=hrep.open
 obtain ⟨g0,g1,g2,-,-,-,hns2,b4,dap4,g4,-,hks2⟩:=hrep2.open
 simp only at e0 e1 e2 e4 hns g0 g1 g2 g4 hns2
 obtain ⟨a3,cap3,e3,hnl,hnc⟩:=hns
 obtain ⟨b3,dap3,g3,-,hnc2⟩:=hns2
 subst e0 e1 e2 e3 e4 g0 g1 g2 g3 g4
 have htt:=TT.start w (.int .i64 t.sort) (.int .i64 t.num) (.string t.text) (.slice a3 t.names.length cap3) (.slice a4 t.kids.length cap4) (.int .i64 t.sort) (.int .i64 t.num) (.string t.text) (.slice b3 t.names.length dap3) (.slice b4 t.kids.length dap4)
 have HN:=xH hnc;have HN2:=xH hnc2;have HK:=xH hks;have HK2:=xH hks2;have HP:=xH hP;have HQ:=xH hQ;have HI:=xH IH
 have hkid:∀ i,(hi:i < t.kids.length)→tsz t.kids[i] < n:=fun i hi=>by have:=tsz_kid (List.getElem_mem hi);omega
 have HKS:=xH hkid
 clear hnc hnc2 hks hks2 hP hQ IH hrep hrep2 hkid hn
 generalize t.names=ns at *
 generalize t.kids=ks at *
 generalize t.sort=s0 at *
 generalize t.num=s1 at *
 generalize t.text=s2 at *
 obtain ⟨q0,q1,q2,q3,q4⟩:=cs5 htt.a (by omega)
 have r0:=htt.b.cell (i:=0) (by omega);have r1:=htt.b.cell (i:=1) (by omega);have r2:=htt.b.cell (i:=2) (by omega);have r3:=htt.b.cell (i:=3) (by omega);have r4:=htt.b.cell (i:=4) (by omega)
 simp only [row5] at q0 q1 q2 q3 q4 r0 r1 r2 r3 r4
 have HT:=xH htt
 clear htt
 go_enter Tryz.func11,Tryz.ntmps11
 go_wp2_with fail
 clear q0 q1 q2 q3 q4 r0 r1 r2 r3 r4
 go_loopw [5] (fun i wr=>∃ (k:Nat),k≤ns.length∧i=.int .i64 k∧Hid (TT w ⟨.int .i64 s0,.int .i64 s1,.string s2,.slice a3 ns.length cap3,.slice a4 ks.length cap4⟩ ⟨.int .i64 s0,.int .i64 s1,.string s2,.slice b3 ns.length dap3,.slice b4 ks.length dap4⟩ wr)) (fun i _=>ns.length - (intOf i).toNat)
 case atStart=>exact ⟨0,Nat.zero_le _,rfl,HT⟩
 case round =>
  clear HT
  obtain ⟨k,hk,rfl,HT⟩:=hrel
  have q3:=HT.out.a.cell (i:=3) (by omega);have r3:=HT.out.b.cell (i:=3) (by omega)
  simp only [row5] at q3 r3
  by_cases hlt:k < ns.length
  · obtain ⟨x,o,rfl,hpb,hcell,-⟩:=xU HN k hlt
    obtain ⟨x2,o2,rfl,hpb2,hcell2,-⟩:=xU HN2 k hlt
    have e1:wr.cell? ⟨x,o+k,none⟩=some (.string ns[k]):=by rw [HT.out.below.cell (xU HP x hpb)];exact hcell
    have e2:wr.cell? ⟨x2,o2+k,none⟩=some (.string ns[k]):=by rw [HT.out.below.cell (xU HQ x2 hpb2)];exact hcell2
    have HT2:=xH (HT.out.on (Below.refl _ wr).drew)
    have HTN:=xH (fun m=>HT.out.on (show Below wr.heap.size wr (wr.drewN m) from ⟨rfl,rfl,rfl,Nat.le_refl _,fun _ _=>rfl⟩))
    have hix:(k:Int) < (ns.length:Int):=by omega
    clear hcell hcell2 hpb hpb2 HT
    go_wp2_with fail
    go_quiet (fail)
    go_wp2_with fail
    go_roundw
    case rel=>exact ⟨k+1,by omega,by go_num,xU HTN _⟩
    case measure=>simp [intOf];omega
  · go_wp2_with fail
    go_loopw [6] (fun i wr=>∃ (k:Nat),k≤ks.length∧i=.int .i64 k∧Hid (TT w ⟨.int .i64 s0,.int .i64 s1,.string s2,.slice a3 ns.length cap3,.slice a4 ks.length cap4⟩ ⟨.int .i64 s0,.int .i64 s1,.string s2,.slice b3 ns.length dap3,.slice b4 ks.length dap4⟩ wr)) (fun i _=>ks.length - (intOf i).toNat)
    case atStart=>exact ⟨0,Nat.zero_le _,rfl,HT⟩
    case round =>
     clear HT q3 r3
     obtain ⟨k,hk,rfl,HT⟩:=hrel
     have q4:=HT.out.a.cell (i:=4) (by omega);have r4:=HT.out.b.cell (i:=4) (by omega)
     simp only [row5] at q4 r4
     by_cases hlt:k < ks.length
     · obtain ⟨x,o,c,rfl,hpb,hcell,hrep⟩:=xU HK k hlt
       obtain ⟨x2,o2,d,rfl,hpb2,hcell2,hrep2⟩:=xU HK2 k hlt
       have hcell':=hcell.carry (HT.out.below.block x (xU HP x hpb))
       have hcell2':=hcell2.carry (HT.out.below.block x2 (xU HQ x2 hpb2))
       obtain ⟨c0,c1,c2,c3,c4⟩:=c
       obtain ⟨d0,d1,d2,d3,d4⟩:=d
       obtain ⟨e0,e1,e2,e3,e4⟩:=hcell'
       obtain ⟨g0,g1,g2,g3,g4⟩:=hcell2'
       simp only at e0 e1 e2 e3 e4 g0 g1 g2 g3 g4
       have hbd:=HT.out.below.drew
       have hcall:=xU HI ks[k] (xU HKS k hlt) P Q ⟨c0,c1,c2,c3,c4⟩ ⟨d0,d1,d2,d3,d4⟩ wr.drew (fun b hb'=>Nat.lt_of_lt_of_le (xU HP b hb') hbd.size) (fun b hb'=>Nat.lt_of_lt_of_le (xU HQ b hb') hbd.size) (Rep.carry (w':=wr.drew) (fun b hb'=>hbd.block b (xU HP b hb')) (fun _ h=>h) _ _ hrep) (Rep.carry (w':=wr.drew) (fun b hb'=>hbd.block b (xU HQ b hb')) (fun _ h=>h) _ _ hrep2)
       have HCALL:=xH hcall
       have hix:(k:Int) < (ks.length:Int):=by omega
       clear hrep hcell hpb hrep2 hcell2 hpb2 hcall hbd
       go_wp2_with fail
       go_region_with (go_at_call 11;refine (xU HCALL).mono ?_;rintro e w' ⟨rfl,hb'⟩)
       all_goals
        have HT2:=xH (HT.out.on ((Below.refl _ wr).drew.trans hb'))
        go_wp2_with fail
        go_roundw
        case rel=>exact ⟨k+1,by omega,by go_num,HT2⟩
        case measure=>simp [intOf];omega
     · go_wp2_with fail
       go_ret
       exact ⟨rfl,HT.out.below⟩
theorem ttTree_all:∀ n,TtSaid n
 | 0=>fun t h=>by omega
 | n+1=>ttTree_step n (ttTree_all n)
theorem ttTree_any (t:Tr) (P Q:Nat→Prop) (c d:C5) (w:World) (hP:∀ b,P b→b < w.heap.size) (hQ:∀ b,Q b→b < w.heap.size) (h1:Rep P w t c) (h2:Rep Q w t d) :
 Calls Tryz.prog 11 #[.agg #[c.c0,c.c1,c.c2,c.c3,c.c4],.agg #[d.c0,d.c1,d.c2,d.c3,d.c4]] w fun e w'=>e=.returned (.bool true)∧Below w.heap.size w w' :=
 ttTree_all (tsz t+1) t (by omega) P Q c d w hP hQ h1 h2






def alike (v v':Value):Prop:=(∃ n m,v=.int .i64 n∧v'=.int .i64 m)∨(∃ s s',v=.string s∧v'=.string s')∨v'=v∨(∃ x y,v=.bool x∧v'=.bool y)













theorem WdE.rep {o:Option Tr} {w w':World} {e:Ending} (h:WdE o w e w'):∃ dW:C5,e=.returned (.tuple #[.agg #[dW.c0,dW.c1,dW.c2,dW.c3,dW.c4],.bool o.isSome])∧Rep (New w w') w' (wAn o) dW∧Below w.heap.size w w':=by
 obtain ⟨d,F,he,ho,-,hF,hb⟩:=h
 exact ⟨d,he,Own.rep _ _ _ hF ho,hb⟩

theorem implTreeParts_any (t:Tr) (P:Nat→Prop) (c:C5) (w:World) (hP:∀ b,P b→b < w.heap.size) (hrep:Rep P w t c) (hT:Tab w) :
 Calls Tryz.prog 13 #[.agg #[c.c0,c.c1,c.c2,c.c3,c.c4]] w fun e w'=>e=.returned (.int .i64 (if pT t 1 < 0 then 0 else pT t 1))∧Below w.heap.size w w':=by
 have hbx:∀ o,Below w.heap.size w (w.alloc o):=fun o=>(Below.refl _ _).alloc (Nat.le_refl _) o
 have hcall:∀ o,Calls Tryz.prog 35 #[.agg #[c.c0,c.c1,c.c2,c.c3,c.c4]] (w.alloc o) fun e w'=>∃ v,e=.returned (.tuple #[v,.int .i64 (if pT t 1 < 0 then 0 else pT t 1)])∧Below w.heap.size w w':=fun o =>
  (sortTree_parts P (w.alloc o) t c (Rep.carry (fun b hb=>(hbx o).block b (hP b hb)) (fun _ h=>h) _ _ hrep) (fun b hb=>Nat.lt_of_lt_of_le (hP b hb) (hbx o).size) (hT.of_block ((hbx o).block 1 hT.lt))).mono
    fun e w' ⟨v,h1,h2⟩=>⟨v,h1,(hbx o).trans (h2.mono (hbx o).size)⟩
 generalize (if pT t 1 < 0 then 0 else pT t 1)=r at *
 have HCALL:=xH hcall
 clear hbx hcall hP hrep hT
 go_enter Tryz.func13,Tryz.ntmps13
 go_wp2_with (go_at_call 35;refine (xU HCALL _).mono ?_;rintro e w2 ⟨v,rfl,hb2⟩)
 go_ret
 exact ⟨rfl,hb2⟩
end Go.Proofs.YteefjeddboefcaaGreatDoor
