/- The walk of the specification's KindHas: it answers whether both are ok and the tree is of the schema. Of what was there nothing has turned. No conditions. -/
import Derived.Test.YtcpfelaffclalaaGreatDoorPart37
import Derived.Test.YtcpfelaffclalaaGreatDoorPart07
import Derived.Deep.CutRange
import Derived.Test.YtcpfelaffclalaaGreatDoorPart32
import Derived.Test.YtcpfelaffclalaaGreatDoorPart36
import Derived.Test.YtcpfelaffclalaaGreatDoorRows
import Derived.Test.YtcpfelaffclalaaGreatDoorPart00
import Derived.ProofKit
import Derived.OpenShut
import Derived.Deep.Fields
import Derived.Deep.Slices
namespace Go.Proofs.YtcpfelaffclalaaGreatDoor
open Go Go.RowKit

set_option maxHeartbeats 800000 in
theorem specKindHas_any (k : Kd) (t : Tr) (P Q : Nat → Prop) (c : C3) (d : C5) (w : World) (hP : ∀ b, P b → b < w.heap.size) (hQ : ∀ b, Q b → b < w.heap.size) (hrep : KRep P w k c) (hrep2 : Rep Q w t d) :
    Calls Tryz.prog 33 #[.agg #[c.c0, c.c1, c.c2], .agg #[d.c0, d.c1, d.c2, d.c3, d.c4]] w fun e w' => e = .returned (.bool (hasA k t)) ∧ Below w.heap.size w w' := by
  obtain ⟨c0, c1, c2⟩ := c
  obtain ⟨d0, d1, d2, d3, d4⟩ := d
  obtain ⟨W0, hW0⟩ : ∃ W0, ((w.alloc (.cells #[c0, c1, c2] 30)).alloc (.cells #[d0, d1, d2, d3, d4] 39)) = W0 := ⟨_, rfl⟩
  have hb0 : Below w.heap.size w W0 := by rw [← hW0]; exact ((Below.refl _ _).alloc (Nat.le_refl _) _).alloc (by simp) _
  have hs0 : W0.heap.size = w.heap.size + 2 := by rw [← hW0]; simp
  have hrk : W0.rowIs w.heap.size 30 3 (row3 c0 c1 c2) := by rw [← hW0]; exact (row3_alloc w c0 c1 c2 _).alloc _
  have hrt : W0.rowIs (w.heap.size + 1) 39 5 (row5 d0 d1 d2 d3 d4) := by
    rw [← hW0]
    have q := row5_alloc (w.alloc (.cells #[c0, c1, c2] 30)) d0 d1 d2 d3 d4 39
    rw [World.size_alloc] at q
    exact q
  have hok := specKindOk_any k P ⟨c0, c1, c2⟩ W0 (fun b hb => Nat.lt_of_lt_of_le (hP b hb) hb0.size) (KRep.carry (fun b hb => hb0.block b (hP b hb)) (fun _ h => h) _ _ hrep)
  have hot := fun W (hW : Below w.heap.size w W) => specTreeOk_any t Q ⟨d0, d1, d2, d3, d4⟩ W (fun b hb => Nat.lt_of_lt_of_le (hQ b hb) hW.size) (Rep.carry (fun b hb => hW.block b (hQ b hb)) (fun _ h => h) _ _ hrep2)
  have hht := fun W (hW : Below w.heap.size w W) (h1 : okD k = true) (h2 : okH t = true) => l2Has_all (tsz t + 1) t (by omega) k P Q ⟨c0, c1, c2⟩ ⟨d0, d1, d2, d3, d4⟩ W (fun b hb => Nat.lt_of_lt_of_le (hP b hb) hW.size) (fun b hb => Nat.lt_of_lt_of_le (hQ b hb) hW.size) (KRep.carry (fun b hb => hW.block b (hP b hb)) (fun _ h => h) _ _ hrep) (Rep.carry (fun b hb => hW.block b (hQ b hb)) (fun _ h => h) _ _ hrep2) h1 h2
  obtain ⟨e0, -, ⟨a3, cap3, e1, -, -⟩, a, cap, e2, -, -⟩ := hrep.open
  obtain ⟨g0, g1, g2, -, -, -, ⟨a5, cap5, g3, -, -⟩, a6, cap6, g4, -, -⟩ := hrep2.open
  simp only at e0 e1 e2 g0 g1 g2 g3 g4
  subst e0 e1 e2 g0 g1 g2 g3 g4
  have hA : hasA k t = (decide (0 < qT k 1) && decide (0 < pT t 1) && hT t k) := rfl
  have h1 : 0 < qT k 1 → okD k = true := fun h => (ok_of_qT h).1
  have h2 : 0 < pT t 1 → okH t = true := fun h => okH_of_pT t 1 (by omega)
  have k0 := hrk.cell (i := 0) (by omega); have k1 := hrk.cell (i := 1) (by omega); have k2 := hrk.cell (i := 2) (by omega)
  simp only [row3] at k0 k1 k2
  have HRK := hide hrk; have HRT := hide hrt; have HB0 := hide hb0; have HOK := hide hok; have HOT := hide hot; have HHT := hide hht
  clear hrk hrt hb0 hok hot hht hrep hrep2 hP hQ
  by_cases hq : 0 < qT k 1
  · have hd : decide (0 < qT k 1) = true := decide_eq_true hq
    by_cases hp : 0 < pT t 1
    · have hd2 : decide (0 < pT t 1) = true := decide_eq_true hp
      rw [hd, hd2, Bool.true_and, Bool.true_and] at hA
      have HOK2 := unhide HOK; rw [hd] at HOK2
      have HOT2 := unhide HOT; rw [hd2] at HOT2
      have H1 := hide (h1 hq); have H2 := hide (h2 hp)
      rw [hA]
      have HO := hide HOK2; have HT := hide HOT2
      clear HOK2 HOT2 h1 h2 hd hd2 hq hp hA HOK HOT
      generalize hT t k = r at *
      go_enter Tryz.func33, Tryz.ntmps33
      go_upto_region 1 with fail
      go_wp2_with (first
        | (go_at_call 24
           refine (unhide HO).mono ?_
           rintro e w1 ⟨rfl, hb1⟩
           have HB1 := hide ((unhide HB0).trans (hb1.mono (unhide HB0).size))
           have q1 := (unhide HRT).of_block (hb1.block _ (by omega))
           have q0 := (unhide HRK).of_block (hb1.block _ (by omega))
           have hs1 := hb1.size
           have Q1 := hide q1
           have Q0 := hide q0
           have t0 := q1.cell (i := 0) (by omega)
           have t1 := q1.cell (i := 1) (by omega)
           have t2 := q1.cell (i := 2) (by omega)
           have t3 := q1.cell (i := 3) (by omega)
           have t4 := q1.cell (i := 4) (by omega)
           simp only [row5] at t0 t1 t2 t3 t4
           clear hb1 q1 q0)
        | (go_at_call 35
           refine (unhide HT _ (unhide HB1)).mono ?_
           rintro e w2 ⟨rfl, hb2⟩
           have HB2 := hide ((unhide HB1).trans (hb2.mono (unhide HB1).size))
           have q1 := (unhide Q1).of_block (hb2.block _ (by omega))
           have q0 := (unhide Q0).of_block (hb2.block _ (by omega))
           have p0 := q1.cell (i := 0) (by omega)
           have p1 := q1.cell (i := 1) (by omega)
           have p2 := q1.cell (i := 2) (by omega)
           have p3 := q1.cell (i := 3) (by omega)
           have p4 := q1.cell (i := 4) (by omega)
           have o0 := q0.cell (i := 0) (by omega)
           have o1 := q0.cell (i := 1) (by omega)
           have o2 := q0.cell (i := 2) (by omega)
           simp only [row5, row3] at p0 p1 p2 p3 p4 o0 o1 o2
           clear hb2 q1 q0)
        | (go_at_call 60
           refine (unhide HHT _ (unhide HB2) (unhide H1) (unhide H2)).mono ?_
           rintro e w3 ⟨rfl, hb3⟩
           have HB3 := hide ((unhide HB2).trans (hb3.mono (unhide HB2).size))
           clear hb3))
      all_goals
        go_ret
        exact ⟨rfl, unhide HB3⟩
    · have hd2 : decide (0 < pT t 1) = false := decide_eq_false hp
      rw [hd, hd2, Bool.true_and, Bool.false_and] at hA
      have HOK2 := unhide HOK; rw [hd] at HOK2
      have HOT2 := unhide HOT; rw [hd2] at HOT2
      rw [hA]
      have HO := hide HOK2; have HT := hide HOT2
      clear HOK2 HOT2 h1 h2 hd hd2 hq hp hA HOK HOT HHT
      go_enter Tryz.func33, Tryz.ntmps33
      go_upto_region 1 with fail
      go_wp2_with (first
        | (go_at_call 24
           refine (unhide HO).mono ?_
           rintro e w1 ⟨rfl, hb1⟩
           have HB1 := hide ((unhide HB0).trans (hb1.mono (unhide HB0).size))
           have q1 := (unhide HRT).of_block (hb1.block _ (by omega))
           have t0 := q1.cell (i := 0) (by omega)
           have t1 := q1.cell (i := 1) (by omega)
           have t2 := q1.cell (i := 2) (by omega)
           have t3 := q1.cell (i := 3) (by omega)
           have t4 := q1.cell (i := 4) (by omega)
           simp only [row5] at t0 t1 t2 t3 t4
           clear hb1 q1)
        | (go_at_call 35
           refine (unhide HT _ (unhide HB1)).mono ?_
           rintro e w2 ⟨rfl, hb2⟩
           have HB2 := hide ((unhide HB1).trans (hb2.mono (unhide HB1).size))
           clear hb2))
      all_goals
        go_ret
        exact ⟨rfl, unhide HB2⟩
  · have hd : decide (0 < qT k 1) = false := decide_eq_false hq
    rw [hd, Bool.false_and, Bool.false_and] at hA
    have HOK2 := unhide HOK; rw [hd] at HOK2
    rw [hA]
    have HO := hide HOK2
    clear HOK2 h1 h2 hd hq hA HOK HOT HHT
    go_enter Tryz.func33, Tryz.ntmps33
    go_upto_region 1 with fail
    go_wp2_with (go_at_call 24
                 refine (unhide HO).mono ?_
                 rintro e w1 ⟨rfl, hb1⟩
                 have HB1 := hide ((unhide HB0).trans (hb1.mono (unhide HB0).size))
                 clear hb1)
    all_goals
      go_ret
      exact ⟨rfl, unhide HB1⟩
end Go.Proofs.YtcpfelaffclalaaGreatDoor

/- The specification's KindWiden. Conditions: l3Widen is as said (a hypothesis, met in WspA). -/

namespace Go.Proofs.YtcpfelaffclalaaGreatDoor
open Go Go.RowKit

set_option maxRecDepth 100000 in
set_option maxHeartbeats 3200000 in
theorem specKindWiden_of (HS : WSaid 40) (a b : Kd) (t : Tr) (P Q R : Nat → Prop) (c d : C3) (x : C5) (w : World) (hP : ∀ x, P x → x < w.heap.size) (hQ : ∀ x, Q x → x < w.heap.size) (hR : ∀ x, R x → x < w.heap.size) (ha : KRep P w a c) (hb : KRep Q w b d) (ht : Rep R w t x) :
    Calls Tryz.prog 12 #[.agg #[c.c0, c.c1, c.c2], .agg #[d.c0, d.c1, d.c2], .agg #[x.c0, x.c1, x.c2, x.c3, x.c4]] w (WdE (widA a b t) w) := by
  have ha' : KRep (fun x => x < w.heap.size) w a c := KRep.carry (fun _ _ => rfl) hP _ _ ha
  have hb' : KRep (fun x => x < w.heap.size) w b d := KRep.carry (fun _ _ => rfl) hQ _ _ hb
  have ht' : Rep (fun x => x < w.heap.size) w t x := Rep.carry (fun _ _ => rfl) hR _ _ ht
  have hca : ∀ W, Below w.heap.size w W → KRep (fun x => x < W.heap.size) W a c := fun W hW => KRep.carry (fun x hx => hW.block x hx) (fun _ hx => Nat.lt_of_lt_of_le hx hW.size) _ _ ha'
  have hcb : ∀ W, Below w.heap.size w W → KRep (fun x => x < W.heap.size) W b d := fun W hW => KRep.carry (fun x hx => hW.block x hx) (fun _ hx => Nat.lt_of_lt_of_le hx hW.size) _ _ hb'
  have hct : ∀ W, Below w.heap.size w W → Rep (fun x => x < W.heap.size) W t x := fun W hW => Rep.carry (fun x hx => hW.block x hx) (fun _ hx => Nat.lt_of_lt_of_le hx hW.size) _ _ ht'
  have HFIT : Hid (∀ W, Below w.heap.size w W → Calls Tryz.prog 7 #[.agg #[c.c0, c.c1, c.c2], .agg #[d.c0, d.c1, d.c2]] W fun e w' => e = .returned (.bool (fitsD a b)) ∧ Below W.heap.size W w') := fun W hW =>
    specKindFits_any a b _ _ c d W (fun _ h => h) (fun _ h => h) (hca W hW) (hcb W hW)
  have HHAS : Hid (∀ W, Below w.heap.size w W → Calls Tryz.prog 33 #[.agg #[c.c0, c.c1, c.c2], .agg #[x.c0, x.c1, x.c2, x.c3, x.c4]] W fun e w' => e = .returned (.bool (hasA a t)) ∧ Below W.heap.size W w') := fun W hW =>
    specKindHas_any a t _ _ c x W (fun _ h => h) (fun _ h => h) (hca W hW) (hct W hW)
  have HWID : Hid (fitsD a b = true → hasA a t = true → ∀ W, Below w.heap.size w W → Calls Tryz.prog 34 #[.agg #[c.c0, c.c1, c.c2], .agg #[d.c0, d.c1, d.c2], .agg #[x.c0, x.c1, x.c2, x.c3, x.c4]] W (TE (widF 40 a b t) W)) := fun h1 h2 W hW => by
    obtain ⟨f1, f2, f3, f4, f5⟩ := fitsD_open h1
    obtain ⟨q1, q2⟩ := hasA_open h2
    exact HS a b t f4 (Nat.le_refl _) f5 q1 q2 c d x W ⟨hca W hW, f1⟩ ⟨hcb W hW, f2⟩ (hct W hW)
  obtain ⟨c0, c1, c2⟩ := c
  obtain ⟨d0, d1, d2⟩ := d
  obtain ⟨x0, x1, x2, x3, x4⟩ := x
  obtain ⟨e0, -, ⟨a3, cap3, e1, -⟩, a4, cap4, e2, -⟩ := ha.open
  obtain ⟨g0, -, ⟨b3, bap3, g1, -⟩, b4, bap4, g2, -⟩ := hb.open
  obtain ⟨q0, q1, q2, -, -, -, ⟨t3, tap3, q3, -⟩, t4, tap4, q4, -⟩ := ht.open
  simp only at e0 e1 e2 g0 g1 g2 q0 q1 q2 q3 q4
  subst e0 e1 e2 g0 g1 g2 q0 q1 q2 q3 q4
  have HBX := hide (Bx4.start w (.int .i64 a.sort) (.slice a3 a.names.length cap3) (.slice a4 a.kids.length cap4) (.int .i64 b.sort) (.slice b3 b.names.length bap3) (.slice b4 b.kids.length bap4) (.int .i64 t.sort) (.int .i64 t.num) (.string t.text) (.slice t3 t.names.length tap3) (.slice t4 t.kids.length tap4))
  clear ha hb ht ha' hb' ht' hP hQ hR hca hcb hct HS
  go_enter Tryz.func12, Tryz.ntmps12
  go_wp2_with fail
  generalize ((((w.alloc (.cells #[.int .i64 a.sort, .slice a3 a.names.length cap3, .slice a4 a.kids.length cap4] 30)).alloc (.cells #[.int .i64 b.sort, .slice b3 b.names.length bap3, .slice b4 b.kids.length bap4] 30)).alloc (.cells #[.int .i64 t.sort, .int .i64 t.num, .string t.text, .slice t3 t.names.length tap3, .slice t4 t.kids.length tap4] 39)).alloc (.cells #[.int .i64 0, .int .i64 0, .string ⟨#[]⟩, .slice none 0 0, .slice none 0 0] 39)) = W0 at HBX ⊢
  refine (unhide HFIT W0 (unhide HBX).below).mono ?_
  rintro e W2 ⟨rfl, hb2⟩
  have HBX2 := hide ((unhide HBX).on hb2)
  clear hb2 HFIT HBX
  have x0 := (unhide HBX2).bA.cell (i := 0) (by omega); have x1 := (unhide HBX2).bA.cell (i := 1) (by omega); have x2 := (unhide HBX2).bA.cell (i := 2) (by omega)
  have v0 := (unhide HBX2).bB.cell (i := 0) (by omega); have v1 := (unhide HBX2).bB.cell (i := 1) (by omega); have v2 := (unhide HBX2).bB.cell (i := 2) (by omega)
  have y0 := (unhide HBX2).bT.cell (i := 0) (by omega); have y1 := (unhide HBX2).bT.cell (i := 1) (by omega); have y2 := (unhide HBX2).bT.cell (i := 2) (by omega); have y3 := (unhide HBX2).bT.cell (i := 3) (by omega); have y4 := (unhide HBX2).bT.cell (i := 4) (by omega)
  have m0 := (unhide HBX2).bR.cell (i := 0) (by omega); have m1 := (unhide HBX2).bR.cell (i := 1) (by omega); have m2 := (unhide HBX2).bR.cell (i := 2) (by omega); have m3 := (unhide HBX2).bR.cell (i := 3) (by omega); have m4 := (unhide HBX2).bR.cell (i := 4) (by omega); have mf := (unhide HBX2).bR.frozen
  simp only [row3, row5] at x0 x1 x2 v0 v1 v2 y0 y1 y2 y3 y4 m0 m1 m2 m3 m4
  by_cases hfit : fitsD a b = true
  · have HF := hide hfit
    rw [hfit]
    clear hfit
    go_wp2_with fail
    refine (unhide HHAS _ (unhide HBX2).below).mono ?_
    rintro e W3 ⟨rfl, hb3⟩
    have HBX3 := hide ((unhide HBX2).on hb3)
    clear hb3 x0 x1 x2 v0 v1 v2 y0 y1 y2 y3 y4 m0 m1 m2 m3 m4 mf HBX2
    have x0 := (unhide HBX3).bA.cell (i := 0) (by omega); have x1 := (unhide HBX3).bA.cell (i := 1) (by omega); have x2 := (unhide HBX3).bA.cell (i := 2) (by omega)
    have v0 := (unhide HBX3).bB.cell (i := 0) (by omega); have v1 := (unhide HBX3).bB.cell (i := 1) (by omega); have v2 := (unhide HBX3).bB.cell (i := 2) (by omega)
    have y0 := (unhide HBX3).bT.cell (i := 0) (by omega); have y1 := (unhide HBX3).bT.cell (i := 1) (by omega); have y2 := (unhide HBX3).bT.cell (i := 2) (by omega); have y3 := (unhide HBX3).bT.cell (i := 3) (by omega); have y4 := (unhide HBX3).bT.cell (i := 4) (by omega)
    have m0 := (unhide HBX3).bR.cell (i := 0) (by omega); have m1 := (unhide HBX3).bR.cell (i := 1) (by omega); have m2 := (unhide HBX3).bR.cell (i := 2) (by omega); have m3 := (unhide HBX3).bR.cell (i := 3) (by omega); have m4 := (unhide HBX3).bR.cell (i := 4) (by omega); have mf := (unhide HBX3).bR.frozen
    simp only [row3, row5] at x0 x1 x2 v0 v1 v2 y0 y1 y2 y3 y4 m0 m1 m2 m3 m4
    by_cases hhas : hasA a t = true
    · have HH := hide hhas
      have HC := hide (unhide HWID (unhide HF) hhas W3 (unhide HBX3).below)
      rw [hhas]
      clear hhas HHAS HWID
      generalize hT : widF 40 a b t = T at *
      have HT := hide hT
      clear hT
      go_wp2_with fail
      refine (unhide HC).mono ?_
      rintro e W4 ⟨d, F, rfl, ho, hnd, hF, hb4⟩
      obtain ⟨a7, cap7, a8, cap8, rfl⟩ := ho.forms
      have hbx5 := ((unhide HBX3).on hb4).on ((Below.refl W4.heap.size W4).alloc (Nat.le_refl _) (.cells #[.int .i64 T.sort, .int .i64 T.num, .string T.text, .slice a7 T.names.length cap7, .slice a8 T.kids.length cap8] 39))
      have hr5 := row5_alloc W4 (.int .i64 T.sort) (.int .i64 T.num) (.string T.text) (.slice a7 T.names.length cap7) (.slice a8 T.kids.length cap8) 39
      have ho5 := Own.carry T _ F (fun b hb => Below.heap_alloc W4 (.cells #[.int .i64 T.sort, .int .i64 T.num, .string T.text, .slice a7 T.names.length cap7, .slice a8 T.kids.length cap8] 39) _ (hF b hb).2) ho
      have hlF : ∀ b, b ∈ F → w.heap.size + 4 ≤ b ∧ b < (W4.alloc (.cells #[.int .i64 T.sort, .int .i64 T.num, .string T.text, .slice a7 T.names.length cap7, .slice a8 T.kids.length cap8] 39)).heap.size := fun b hb => by
        have h1 := hF b hb; have h2 := (unhide HBX3).size
        rw [World.size_alloc]; omega
      have htk := specTreeOk_any T (· ∈ F) _ _ (fun b hb => (hlF b hb).2) (Own.rep T _ F (fun _ h => h) ho5)
      have HTK := hide htk; have HBX5 := hide hbx5; have HR5 := hide hr5; have HO5 := hide ho5; have HLF := hide hlF; have HND := hide hnd
      clear ho hnd hF hb4 hbx5 hr5 ho5 hlF htk HC m0 m1 m2 m3 m4 mf y0 y1 y2 y3 y4 x0 x1 x2 v0 v1 v2
      go_wp2_with fail
      generalize W4.alloc (.cells #[.int .i64 T.sort, .int .i64 T.num, .string T.text, .slice a7 T.names.length cap7, .slice a8 T.kids.length cap8] 39) = W5 at HTK HBX5 HR5 HO5 HLF ⊢
      refine (unhide HTK).mono ?_
      rintro e W6 ⟨rfl, hb6⟩
      have hbx6 := (unhide HBX5).on hb6
      have hr6 := (unhide HR5).of_block (hb6.block _ (unhide HR5).lt)
      have ho6 := Own.carry T _ F (fun b hb => hb6.block b (unhide HLF b hb).2) (unhide HO5)
      have hb6s := hb6.size
      have y0 := hr6.cell (i := 0) (by omega); have y1 := hr6.cell (i := 1) (by omega); have y2 := hr6.cell (i := 2) (by omega); have y3 := hr6.cell (i := 3) (by omega); have y4 := hr6.cell (i := 4) (by omega)
      have m0 := hbx6.bR.cell (i := 0) (by omega); have m1 := hbx6.bR.cell (i := 1) (by omega); have m2 := hbx6.bR.cell (i := 2) (by omega); have m3 := hbx6.bR.cell (i := 3) (by omega); have m4 := hbx6.bR.cell (i := 4) (by omega); have mf := hbx6.bR.frozen
      simp only [row5] at y0 y1 y2 y3 y4 m0 m1 m2 m3 m4
      have HBX6 := hide hbx6; have HO6 := hide ho6; have HB6S := hide hb6s
      clear hbx6 hr6 ho6 hb6 hb6s HTK HBX5 HR5 HO5
      by_cases hp : 0 < pT T 1
      · rw [decide_eq_true hp]
        have HP := hide hp
        clear hp
        go_wp2_with fail
        refine bodyPost_ret (v := .tuple #[.agg #[.int .i64 T.sort, .int .i64 T.num, .string T.text, .slice a7 T.names.length cap7, .slice a8 T.kids.length cap8], .bool true]) (by simp [results, Tryz.results12, go_sem, m0, m1, m2, m3, m4]) rfl ?_
        have hA : widA a b t = some T := by
          rw [← unhide HT]
          exact widA_yes (unhide HF) (unhide HH) (by rw [unhide HT]; exact unhide HP)
        rw [hA]
        refine ⟨⟨_, _, _, _, _⟩, F, rfl, Own.carry T _ F (fun b hb => heap_set5s _ _ _ _ _ _ _ _ (by have := (unhide HLF b hb).1; omega)) (unhide HO6), unhide HND, fun b hb => ?_, below_set5s (unhide HBX6).below _ _ _ _ _ _ (by omega)⟩
        rw [size_set5s]
        have := unhide HLF b hb; have := unhide HB6S; omega
      · rw [decide_eq_false hp]
        have HN := hide (show widA a b t = none from widA_no3 (by rw [unhide HT]; exact hp))
        clear hp
        go_wp2_with fail
        exact bodyPost_ret (v := .tuple #[.agg #[.int .i64 0, .int .i64 0, .string ⟨#[]⟩, .slice none 0 0, .slice none 0 0], .bool false]) (by simp [results, Tryz.results12, go_sem, m0, m1, m2, m3, m4]) rfl (WdE.none (unhide HN) (below_set5s (unhide HBX6).below _ _ _ _ _ _ (by omega)))
    · have HN := hide (widA_no2 (b := b) (Bool.eq_false_iff.2 hhas))
      rw [Bool.eq_false_iff.2 hhas]
      clear hhas HHAS HF HWID
      go_wp2_with fail
      exact bodyPost_ret (v := .tuple #[.agg #[.int .i64 0, .int .i64 0, .string ⟨#[]⟩, .slice none 0 0, .slice none 0 0], .bool false]) (by simp [results, Tryz.results12, go_sem, m0, m1, m2, m3, m4]) rfl (WdE.none (unhide HN) (below_set5s (unhide HBX3).below _ _ _ _ _ _ (by omega)))
  · have HN := hide (widA_no1 (t := t) (Bool.eq_false_iff.2 hfit))
    rw [Bool.eq_false_iff.2 hfit]
    clear hfit HHAS HWID
    go_wp2_with fail
    exact bodyPost_ret (v := .tuple #[.agg #[.int .i64 0, .int .i64 0, .string ⟨#[]⟩, .slice none 0 0, .slice none 0 0], .bool false]) (by simp [results, Tryz.results12, go_sem, m0, m1, m2, m3, m4]) rfl (WdE.none (unhide HN) (below_set5s (unhide HBX2).below _ _ _ _ _ _ (by omega)))
end Go.Proofs.YtcpfelaffclalaaGreatDoor

/- The specification's l3Widen whole; its KindWiden. No conditions. -/

namespace Go.Proofs.YtcpfelaffclalaaGreatDoor
open Go Go.RowKit

theorem KRep.form3 {P : Nat → Prop} {w : World} {k : Kd} {c : C3} (h : KRep P w k c) : ∃ (a3 : Option Addr) (p3 : Nat) (a4 : Option Addr) (p4 : Nat), c = ⟨.int .i64 k.sort, .slice a3 k.names.length p3, .slice a4 k.kids.length p4⟩ := by
  obtain ⟨c0, c1, c2⟩ := c
  obtain ⟨e0, -, ⟨a3, cap3, e1, -⟩, a4, cap4, e2, -⟩ := h.open
  simp only at e0 e1 e2
  exact ⟨a3, cap3, a4, cap4, by rw [e0, e1, e2]⟩
theorem l3Widen_step (n : Nat) (IH : WSaid n) : WSaid (n + 1) := by
  intro a b t hn hn40 hf hT hO c d x w ha hb ht
  obtain ⟨a1, p1, a2, p2, rfl⟩ := ha.rep.form3
  obtain ⟨b1, q1, b2, q2, rfl⟩ := hb.rep.form3
  obtain ⟨t1, r1, t2, r2, rfl⟩ := ht.form
  have sb := okD_sh hb.ok
  by_cases h6 : b.sort = 6
  · by_cases g6 : a.sort = 6
    · exact spEach6 n IH a b t g6 h6 hn hn40 hf hT hO a1 a2 b1 b2 t1 t2 p1 p2 q1 q2 r1 r2 w ha hb ht
    · exact spInto n IH a b t g6 h6 hn hn40 hf hT hO a1 a2 b1 b2 t1 t2 p1 p2 q1 q2 r1 r2 w ha hb ht
  have hab : a.sort = b.sort := Classical.byContradiction fun h' => by rw [fit_ne h6 h'] at hf; cases hf
  by_cases h4 : b.sort = 4
  · exact spEach4 n IH a b t (by omega) h4 hn hn40 hf hT hO a1 a2 b1 b2 t1 t2 p1 p2 q1 q2 r1 r2 w ha hb ht
  by_cases h5 : b.sort = 5
  · exact spForm n IH a b t (by omega) h5 hn hn40 hf hT hO a1 a2 b1 b2 t1 t2 p1 p2 q1 q2 r1 r2 w ha hb ht
  by_cases h1 : b.sort = 1
  · exact spLeaf1 n a b t h1 hab hT a1 a2 b1 b2 t1 t2 p1 p2 q1 q2 r1 r2 w ht
  by_cases h2 : b.sort = 2
  · exact spLeaf2 n a b t h2 hab hT a1 a2 b1 b2 t1 t2 p1 p2 q1 q2 r1 r2 w ht
  · exact spLeaf3 n a b t (by omega) hab hT a1 a2 b1 b2 t1 t2 p1 p2 q1 q2 r1 r2 w ht
theorem l3Widen_all : ∀ n, WSaid n
  | 0 => fun a b t hn _ _ _ _ => by have := ksz_pos b; omega
  | n + 1 => l3Widen_step n (l3Widen_all n)
theorem specKindWiden_any (a b : Kd) (t : Tr) (P Q R : Nat → Prop) (c d : C3) (x : C5) (w : World) (hP : ∀ x, P x → x < w.heap.size) (hQ : ∀ x, Q x → x < w.heap.size) (hR : ∀ x, R x → x < w.heap.size) (ha : KRep P w a c) (hb : KRep Q w b d) (ht : Rep R w t x) :
    Calls Tryz.prog 12 #[.agg #[c.c0, c.c1, c.c2], .agg #[d.c0, d.c1, d.c2], .agg #[x.c0, x.c1, x.c2, x.c3, x.c4]] w (WdE (widA a b t) w) :=
  specKindWiden_of (l3Widen_all 40) a b t P Q R c d x w hP hQ hR ha hb ht
end Go.Proofs.YtcpfelaffclalaaGreatDoor

/- What is read of a list of strings that comes in is one that lies in memory. No conditions. -/

namespace Go.Proofs.YtcpfelaffclalaaGreatDoor
open Go Go.RowKit Go.ChangeShapes Go.WideShapes Go.ChangeAt Go.Deep

theorem cellsStr : Tryz.prog.cellsOf 9 = 1 := by kernel_rfl

section
variable {H : Type} {enc : TypeId × Value → H} {W : World} {spare : Nat → Bool} {held : Bool}

theorem strs_of_trod {fuel : Nat} {v : Value} {x : DataW H × List MemPlace} (h : DataW.trod enc Tryz.prog W 0 spare held fuel 22 [v] = some x) :
    ∃ ss, StrsAt (fun b => b < W.heap.size) W v ss := by
  rcases open_strings Tryz.underlying22 Tryz.underlying9 cellsStr h with ⟨hcs, -⟩ | ⟨a, len, cap, ss, hcs, -, hl, hm, hz, -, hcell, hws⟩
  · simp only [List.cons.injEq, and_true] at hcs
    exact ⟨[], none, 0, hcs, by simp, fun i hi => by simp at hi⟩
  · simp only [List.cons.injEq, and_true] at hcs
    have hle : len ≤ ss.length := by rw [hz]; split <;> omega
    unfold maxLen at hm
    refine ⟨ss.take len, some a, cap, by rw [hcs]; simp; omega, by simp; omega, fun i hi => ?_⟩
    have hi' : i < len := by simp at hi; omega
    obtain ⟨b, off, spot⟩ := a
    have hspot : spot = none := by simpa [Addr.add] using World.cell?_spot (hcell 0 (by omega))
    subst hspot
    have hc := hcell i (by omega)
    rw [Addr.add_lit] at hc
    refine ⟨b, off, rfl, World.block_lt_of_cell? W _ hc, ?_, ?_⟩
    · rw [hc]; simp [show i < ss.length by omega]
    · have := hws ss[i] (List.getElem_mem (by omega)); unfold maxLen at this; simpa using this
end
end Go.Proofs.YtcpfelaffclalaaGreatDoor

/- What is read of a tree that comes in is a tree that lies in memory. No conditions. -/

namespace Go.Proofs.YtcpfelaffclalaaGreatDoor
open Go Go.RowKit Go.ChangeShapes Go.WideShapes Go.ChangeAt Go.Deep

theorem cellsTree : Tryz.prog.cellsOf 35 = 5 := by kernel_rfl
theorem oneTree : ∃ fs : Array Field, Tryz.prog.underlying 35 = some (.struct fs) ∧ oneCellFields Tryz.prog fs = true ∧ fs.map (·.type) = #[3, 3, 9, 22, 33] := ⟨_, Tryz.underlying35, by kernel_rfl, by kernel_rfl⟩

section
variable {H : Type} {enc : TypeId × Value → H} {W : World} {spare : Nat → Bool} {held : Bool}

set_option maxRecDepth 100000 in
theorem rep_of_trod : ∀ (fuel : Nat) (cs : List Value) (x : DataW H × List MemPlace), DataW.trod enc Tryz.prog W 0 spare held fuel 35 cs = some x →
    ∃ (t : Tr) (c : C5), cs = [c.c0, c.c1, c.c2, c.c3, c.c4] ∧ Rep (fun b => b < W.heap.size) W t c := by
  intro fuel
  induction fuel using Nat.strongRecOn with
  | ind fuel ih =>
    intro cs x h
    obtain ⟨fs, hu, hone, hty⟩ := oneTree
    obtain ⟨xs, n, hn, -, hlen, hxl, hf⟩ := DataW.trod_struct hu h
    rw [cellsTree] at hlen
    match cs, hlen with
    | [c0, c1, c2, c3, c4], _ =>
      have hsz : fs.size = 5 := by have := congrArg Array.size hty; simpa using this
      have hfield : ∀ (i : Nat) (T : TypeId), i < 5 → (#[3, 3, 9, 22, 33] : Array TypeId)[i]? = some T → ∃ y, DataW.trod enc Tryz.prog W 0 spare held n T (([c0, c1, c2, c3, c4].drop i).take 1) = some y := by
        intro i T hi hT
        have hfi : fs[i]? = some (fs[i]'(by omega)) := Array.getElem?_eq_getElem (by omega)
        obtain ⟨ho, hc⟩ := hone_of hone i _ hfi
        have := hf i _ hfi
        rw [ho, hc] at this
        have hTT : (fs[i]'(by omega)).type = T := by
          rw [← hty] at hT
          simpa [hsz, hi] using hT
        rw [hTT] at this
        exact ⟨xs[i]'(by omega), by rw [this]; exact List.getElem?_eq_getElem (by omega)⟩
      obtain ⟨y0, h0⟩ := hfield 0 _ (by omega) rfl
      obtain ⟨y1, h1⟩ := hfield 1 _ (by omega) rfl
      obtain ⟨y2, h2⟩ := hfield 2 _ (by omega) rfl
      obtain ⟨y3, h3⟩ := hfield 3 _ (by omega) rfl
      obtain ⟨y4, h4⟩ := hfield 4 _ (by omega) rfl
      simp only [List.drop_succ_cons, List.drop_zero, List.take_succ_cons, List.take_zero] at h0 h1 h2 h3 h4
      obtain ⟨s, e0, -, w0⟩ := DataW.trod_int Tryz.underlying3 h0
      obtain ⟨m, e1, -, w1⟩ := DataW.trod_int Tryz.underlying3 h1
      obtain ⟨tx, e2, -, w2⟩ := DataW.trod_string Tryz.underlying9 h2
      obtain ⟨ss, h3'⟩ := strs_of_trod h3
      simp only [List.cons.injEq, and_true] at e0 e1 e2
      have hw0 : I64 s := by have := bounds_i64 w0; exact ⟨by omega, by omega⟩
      have hw1 : I64 m := by have := bounds_i64 w1; exact ⟨by omega, by omega⟩
      unfold maxLen at w2
      rcases DataW.trod_slice Tryz.underlying33 h4 with ⟨hcs, -⟩ | ⟨a, len, cap, elems, rest, n', hn', hcs, -, -, hl, hm, hel, hget, -⟩
      · simp only [List.cons.injEq, and_true] at hcs
        refine ⟨.mk s m tx ss [], ⟨c0, c1, c2, c3, c4⟩, rfl, ?_⟩
        rw [Rep]
        exact ⟨e0, e1, e2, hw0, hw1, by simpa using w2, h3', none, 0, hcs, by simp, fun h => absurd rfl h⟩
      · simp only [List.cons.injEq, and_true] at hcs
        unfold maxLen at hm
        rw [cellsTree] at hget
        have hspot : 0 < len → a.spot = none := fun h0 => by
          have hgi := hget 0 h0
          rw [List.getElem?_eq_getElem (by omega)] at hgi
          obtain ⟨cs', hcs', htr⟩ := Option.bind_eq_some_iff.1 hgi
          obtain ⟨-, hl5, hcell⟩ := World.cells?_some hcs'
          have hc0 := hcell 0 (by omega)
          rw [List.getElem?_eq_getElem (by omega)] at hc0
          simpa [Addr.add] using World.cell?_spot hc0
        have hkid : ∀ i, i < len → ∃ (t : Tr) (c : C5), (∃ b o, a = ⟨b, o, none⟩ ∧ b < W.heap.size ∧ C5.at W b (o + i * 5) c) ∧ Rep (fun b => b < W.heap.size) W t c := by
          intro i hi
          have hgi := hget i hi
          rw [List.getElem?_eq_getElem (by omega)] at hgi
          obtain ⟨cs', hcs', htr⟩ := Option.bind_eq_some_iff.1 hgi
          obtain ⟨t, c, rfl, hrep⟩ := ih n' (by omega) cs' _ htr
          obtain ⟨-, -, hcell⟩ := World.cells?_some hcs'
          obtain ⟨b, off, spot⟩ := a
          have hsp : spot = none := hspot (by omega)
          subst hsp
          have hc0 := hcell 0 (by omega)
          have hc1 := hcell 1 (by omega); have hc2 := hcell 2 (by omega); have hc3 := hcell 3 (by omega); have hc4 := hcell 4 (by omega)
          simp only [Addr.add_lit, List.getElem?_cons_zero, List.getElem?_cons_succ, Nat.add_zero] at hc0 hc1 hc2 hc3 hc4
          exact ⟨t, c, ⟨b, off, rfl, World.block_lt_of_cell? W _ hc0, hc0, hc1, hc2, hc3, hc4⟩, hrep⟩
        obtain ⟨K, hK⟩ : ∃ K : Nat → Tr, ∀ i, i < len → ∃ c : C5, (∃ b o, a = ⟨b, o, none⟩ ∧ b < W.heap.size ∧ C5.at W b (o + i * 5) c) ∧ Rep (fun b => b < W.heap.size) W (K i) c :=
          ⟨fun i => if h : i < len then (hkid i h).choose else .mk 0 0 tx [] [], fun i hi => by simp only [hi, dif_pos]; exact (hkid i hi).choose_spec⟩
        refine ⟨.mk s m tx ss ((List.range len).map K), ⟨c0, c1, c2, c3, c4⟩, rfl, ?_⟩
        rw [Rep]
        refine ⟨e0, e1, e2, hw0, hw1, by simpa using w2, h3', some a, cap, by simpa using hcs, by simp; omega, fun hne => ?_⟩
        have h0len : 0 < len := by
          rcases Nat.eq_zero_or_pos len with h | h
          · subst h; exact absurd rfl hne
          · exact h
        obtain ⟨_, ⟨b, o, ha, hb, -⟩, -⟩ := hK 0 h0len
        subst ha
        refine ⟨b, o, rfl, hb, RepK.mk fun i hi => ?_⟩
        have hi' : i < len := by simpa using hi
        obtain ⟨c, ⟨b', o', ha', -, hat⟩, hr⟩ := hK i hi'
        simp only [Addr.mk.injEq, and_true] at ha'
        obtain ⟨rfl, rfl⟩ := ha'
        exact ⟨c, hat, by simpa using hr⟩
end
end Go.Proofs.YtcpfelaffclalaaGreatDoor

/- What is read of a schema that comes in is a schema that lies in memory. No conditions. -/

namespace Go.Proofs.YtcpfelaffclalaaGreatDoor
open Go Go.RowKit Go.ChangeShapes Go.WideShapes Go.ChangeAt Go.Deep

theorem cellsKind : Tryz.prog.cellsOf 25 = 3 := by kernel_rfl
theorem oneKind : ∃ fs : Array Field, Tryz.prog.underlying 25 = some (.struct fs) ∧ oneCellFields Tryz.prog fs = true ∧ fs.map (·.type) = #[3, 22, 23] := ⟨_, Tryz.underlying25, by kernel_rfl, by kernel_rfl⟩

section
variable {H : Type} {enc : TypeId × Value → H} {W : World} {spare : Nat → Bool} {held : Bool}

set_option maxRecDepth 100000 in
theorem krep_of_trod : ∀ (fuel : Nat) (cs : List Value) (x : DataW H × List MemPlace), DataW.trod enc Tryz.prog W 0 spare held fuel 25 cs = some x →
    ∃ (t : Kd) (c : C3), cs = [c.c0, c.c1, c.c2] ∧ KRep (fun b => b < W.heap.size) W t c := by
  intro fuel
  induction fuel using Nat.strongRecOn with
  | ind fuel ih =>
    intro cs x h
    obtain ⟨fs, hu, hone, hty⟩ := oneKind
    obtain ⟨xs, n, hn, -, hlen, hxl, hf⟩ := DataW.trod_struct hu h
    rw [cellsKind] at hlen
    match cs, hlen with
    | [c0, c1, c2], _ =>
      have hsz : fs.size = 3 := by have := congrArg Array.size hty; simpa using this
      have hfield : ∀ (i : Nat) (T : TypeId), i < 3 → (#[3, 22, 23] : Array TypeId)[i]? = some T → ∃ y, DataW.trod enc Tryz.prog W 0 spare held n T (([c0, c1, c2].drop i).take 1) = some y := by
        intro i T hi hT
        have hfi : fs[i]? = some (fs[i]'(by omega)) := Array.getElem?_eq_getElem (by omega)
        obtain ⟨ho, hc⟩ := hone_of hone i _ hfi
        have := hf i _ hfi
        rw [ho, hc] at this
        have hTT : (fs[i]'(by omega)).type = T := by
          rw [← hty] at hT
          simpa [hsz, hi] using hT
        rw [hTT] at this
        exact ⟨xs[i]'(by omega), by rw [this]; exact List.getElem?_eq_getElem (by omega)⟩
      obtain ⟨y0, h0⟩ := hfield 0 _ (by omega) rfl
      obtain ⟨y1, h1⟩ := hfield 1 _ (by omega) rfl
      obtain ⟨y2, h2⟩ := hfield 2 _ (by omega) rfl
      simp only [List.drop_succ_cons, List.drop_zero, List.take_succ_cons, List.take_zero] at h0 h1 h2
      obtain ⟨s, e0, -, w0⟩ := DataW.trod_int Tryz.underlying3 h0
      obtain ⟨ss, h3'⟩ := strs_of_trod h1
      simp only [List.cons.injEq, and_true] at e0
      have hw0 : I64 s := by have := bounds_i64 w0; exact ⟨by omega, by omega⟩
      rcases DataW.trod_slice Tryz.underlying23 h2 with ⟨hcs, -⟩ | ⟨a, len, cap, elems, rest, n', hn', hcs, -, -, hl, hm, hel, hget, -⟩
      · simp only [List.cons.injEq, and_true] at hcs
        refine ⟨.mk s ss [], ⟨c0, c1, c2⟩, rfl, ?_⟩
        rw [KRep]
        exact ⟨e0, hw0, h3', none, 0, hcs, by simp, fun h => absurd rfl h⟩
      · simp only [List.cons.injEq, and_true] at hcs
        unfold maxLen at hm
        rw [cellsKind] at hget
        have hspot : 0 < len → a.spot = none := fun h0 => by
          have hgi := hget 0 h0
          rw [List.getElem?_eq_getElem (by omega)] at hgi
          obtain ⟨cs', hcs', htr⟩ := Option.bind_eq_some_iff.1 hgi
          obtain ⟨-, hl5, hcell⟩ := World.cells?_some hcs'
          have hc0 := hcell 0 (by omega)
          rw [List.getElem?_eq_getElem (by omega)] at hc0
          simpa [Addr.add] using World.cell?_spot hc0
        have hkid : ∀ i, i < len → ∃ (t : Kd) (c : C3), (∃ b o, a = ⟨b, o, none⟩ ∧ b < W.heap.size ∧ C3.at W b (o + i * 3) c) ∧ KRep (fun b => b < W.heap.size) W t c := by
          intro i hi
          have hgi := hget i hi
          rw [List.getElem?_eq_getElem (by omega)] at hgi
          obtain ⟨cs', hcs', htr⟩ := Option.bind_eq_some_iff.1 hgi
          obtain ⟨t, c, rfl, hrep⟩ := ih n' (by omega) cs' _ htr
          obtain ⟨-, -, hcell⟩ := World.cells?_some hcs'
          obtain ⟨b, off, spot⟩ := a
          have hsp : spot = none := hspot (by omega)
          subst hsp
          have hc0 := hcell 0 (by omega)
          have hc1 := hcell 1 (by omega); have hc2 := hcell 2 (by omega)
          simp only [Addr.add_lit, List.getElem?_cons_zero, List.getElem?_cons_succ, Nat.add_zero] at hc0 hc1 hc2
          exact ⟨t, c, ⟨b, off, rfl, World.block_lt_of_cell? W _ hc0, hc0, hc1, hc2⟩, hrep⟩
        obtain ⟨K, hK⟩ : ∃ K : Nat → Kd, ∀ i, i < len → ∃ c : C3, (∃ b o, a = ⟨b, o, none⟩ ∧ b < W.heap.size ∧ C3.at W b (o + i * 3) c) ∧ KRep (fun b => b < W.heap.size) W (K i) c :=
          ⟨fun i => if h : i < len then (hkid i h).choose else .mk 0 [] [], fun i hi => by simp only [hi, dif_pos]; exact (hkid i hi).choose_spec⟩
        refine ⟨.mk s ss ((List.range len).map K), ⟨c0, c1, c2⟩, rfl, ?_⟩
        rw [KRep]
        refine ⟨e0, hw0, h3', some a, cap, by simpa using hcs, by simp; omega, fun hne => ?_⟩
        have h0len : 0 < len := by
          rcases Nat.eq_zero_or_pos len with h | h
          · subst h; exact absurd rfl hne
          · exact h
        obtain ⟨_, ⟨b, o, ha, hb, -⟩, -⟩ := hK 0 h0len
        subst ha
        refine ⟨b, o, rfl, hb, KRepK.mk fun i hi => ?_⟩
        have hi' : i < len := by simpa using hi
        obtain ⟨c, ⟨b', o', ha', -, hat⟩, hr⟩ := hK i hi'
        simp only [Addr.mk.injEq, and_true] at ha'
        obtain ⟨rfl, rfl⟩ := ha'
        exact ⟨c, hat, by simpa using hr⟩
end
end Go.Proofs.YtcpfelaffclalaaGreatDoor
