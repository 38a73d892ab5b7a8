/- The walk of the specification's KindHas: it answers whether both are ok and the tree is of the schema. Of what was there nothing has turned. No conditions. -/
import Derived.Test.YtfjiannabnonjaaDoorWHasS
import Derived.Test.YtfjiannabnonjaaDoorWParts
import Derived.Test.YtfjiannabnonjaaDoorWKSpec
import Derived.Deep.CutRange
namespace Go.Proofs.YtfjiannabnonjaaDoor
open Go Go.RowKit

/-- What KindHas answers. -/
def hasA (k : Kd) (t : Tr) : Bool := decide (0 < qT k 1) && decide (0 < pT t 1) && hT t k

set_option maxHeartbeats 800000 in
theorem specKindHas_any (k : Kd) (t : Tr) (P Q : Nat → Prop) (c : C3) (d : C5) (w : World) (hP : ∀ b, P b → b < w.heap.size) (hQ : ∀ b, Q b → b < w.heap.size) (hrep : KRep P w k c) (hrep2 : Rep Q w t d) :
    Calls Tryd.prog 20 #[.agg #[c.c0, c.c1, c.c2], .agg #[d.c0, d.c1, d.c2, d.c3, d.c4]] w fun e w' => e = .returned (.bool (hasA k t)) ∧ Below w.heap.size w w' := by
  obtain ⟨c0, c1, c2⟩ := c
  obtain ⟨d0, d1, d2, d3, d4⟩ := d
  obtain ⟨W0, hW0⟩ : ∃ W0, ((w.alloc (.cells #[c0, c1, c2] 26)).alloc (.cells #[d0, d1, d2, d3, d4] 30)) = W0 := ⟨_, rfl⟩
  have hb0 : Below w.heap.size w W0 := by rw [← hW0]; exact ((Below.refl _ _).alloc (Nat.le_refl _) _).alloc (by simp) _
  have hs0 : W0.heap.size = w.heap.size + 2 := by rw [← hW0]; simp
  have hrk : W0.rowIs w.heap.size 26 3 (row3 c0 c1 c2) := by rw [← hW0]; exact (row3_alloc w c0 c1 c2 _).alloc _
  have hrt : W0.rowIs (w.heap.size + 1) 30 5 (row5 d0 d1 d2 d3 d4) := by
    rw [← hW0]
    have q := row5_alloc (w.alloc (.cells #[c0, c1, c2] 26)) d0 d1 d2 d3 d4 30
    rw [World.size_alloc] at q
    exact q
  have hok := specKindOk_any k P ⟨c0, c1, c2⟩ W0 (fun b hb => Nat.lt_of_lt_of_le (hP b hb) hb0.size) (KRep.carry (fun b hb => hb0.block b (hP b hb)) (fun _ h => h) _ _ hrep)
  have hot := fun W (hW : Below w.heap.size w W) => specTreeOk_any t Q ⟨d0, d1, d2, d3, d4⟩ W (fun b hb => Nat.lt_of_lt_of_le (hQ b hb) hW.size) (Rep.carry (fun b hb => hW.block b (hQ b hb)) (fun _ h => h) _ _ hrep2)
  have hht := fun W (hW : Below w.heap.size w W) (h1 : okD k = true) (h2 : okT t = true) => l2Has_all (tsz t + 1) t (by omega) k P Q ⟨c0, c1, c2⟩ ⟨d0, d1, d2, d3, d4⟩ W (fun b hb => Nat.lt_of_lt_of_le (hP b hb) hW.size) (fun b hb => Nat.lt_of_lt_of_le (hQ b hb) hW.size) (KRep.carry (fun b hb => hW.block b (hP b hb)) (fun _ h => h) _ _ hrep) (Rep.carry (fun b hb => hW.block b (hQ b hb)) (fun _ h => h) _ _ hrep2) h1 h2
  obtain ⟨e0, -, ⟨a3, cap3, e1, -, -⟩, a, cap, e2, -, -⟩ := hrep.open
  obtain ⟨g0, g1, g2, -, -, -, ⟨a5, cap5, g3, -, -⟩, a6, cap6, g4, -, -⟩ := hrep2.open
  simp only at e0 e1 e2 g0 g1 g2 g3 g4
  subst e0 e1 e2 g0 g1 g2 g3 g4
  have hA : hasA k t = (decide (0 < qT k 1) && decide (0 < pT t 1) && hT t k) := rfl
  have h1 : 0 < qT k 1 → okD k = true := fun h => (ok_of_qT h).1
  have h2 : 0 < pT t 1 → okT t = true := fun h => okT_of_pT t 1 (by omega)
  have k0 := hrk.cell (i := 0) (by omega); have k1 := hrk.cell (i := 1) (by omega); have k2 := hrk.cell (i := 2) (by omega)
  simp only [row3] at k0 k1 k2
  have HRK := hide hrk; have HRT := hide hrt; have HB0 := hide hb0; have HOK := hide hok; have HOT := hide hot; have HHT := hide hht
  clear hrk hrt hb0 hok hot hht hrep hrep2 hP hQ
  by_cases hq : 0 < qT k 1
  · have hd : decide (0 < qT k 1) = true := decide_eq_true hq
    by_cases hp : 0 < pT t 1
    · have hd2 : decide (0 < pT t 1) = true := decide_eq_true hp
      rw [hd, hd2, Bool.true_and, Bool.true_and] at hA
      have HOK2 := unhide HOK; rw [hd] at HOK2
      have HOT2 := unhide HOT; rw [hd2] at HOT2
      have H1 := hide (h1 hq); have H2 := hide (h2 hp)
      rw [hA]
      have HO := hide HOK2; have HT := hide HOT2
      clear HOK2 HOT2 h1 h2 hd hd2 hq hp hA HOK HOT
      generalize hT t k = r at *
      go_enter Tryd.func20, Tryd.ntmps20
      go_upto_region 1 with fail
      go_wp2_with (first
        | (go_at_call 8
           refine (unhide HO).mono ?_
           rintro e w1 ⟨rfl, hb1⟩
           have HB1 := hide ((unhide HB0).trans (hb1.mono (unhide HB0).size))
           have q1 := (unhide HRT).of_block (hb1.block _ (by omega))
           have q0 := (unhide HRK).of_block (hb1.block _ (by omega))
           have hs1 := hb1.size
           have Q1 := hide q1
           have Q0 := hide q0
           have t0 := q1.cell (i := 0) (by omega)
           have t1 := q1.cell (i := 1) (by omega)
           have t2 := q1.cell (i := 2) (by omega)
           have t3 := q1.cell (i := 3) (by omega)
           have t4 := q1.cell (i := 4) (by omega)
           simp only [row5] at t0 t1 t2 t3 t4
           clear hb1 q1 q0)
        | (go_at_call 52
           refine (unhide HT _ (unhide HB1)).mono ?_
           rintro e w2 ⟨rfl, hb2⟩
           have HB2 := hide ((unhide HB1).trans (hb2.mono (unhide HB1).size))
           have q1 := (unhide Q1).of_block (hb2.block _ (by omega))
           have q0 := (unhide Q0).of_block (hb2.block _ (by omega))
           have p0 := q1.cell (i := 0) (by omega)
           have p1 := q1.cell (i := 1) (by omega)
           have p2 := q1.cell (i := 2) (by omega)
           have p3 := q1.cell (i := 3) (by omega)
           have p4 := q1.cell (i := 4) (by omega)
           have o0 := q0.cell (i := 0) (by omega)
           have o1 := q0.cell (i := 1) (by omega)
           have o2 := q0.cell (i := 2) (by omega)
           simp only [row5, row3] at p0 p1 p2 p3 p4 o0 o1 o2
           clear hb2 q1 q0)
        | (go_at_call 53
           refine (unhide HHT _ (unhide HB2) (unhide H1) (unhide H2)).mono ?_
           rintro e w3 ⟨rfl, hb3⟩
           have HB3 := hide ((unhide HB2).trans (hb3.mono (unhide HB2).size))
           clear hb3))
      all_goals
        go_ret
        exact ⟨rfl, unhide HB3⟩
    · have hd2 : decide (0 < pT t 1) = false := decide_eq_false hp
      rw [hd, hd2, Bool.true_and, Bool.false_and] at hA
      have HOK2 := unhide HOK; rw [hd] at HOK2
      have HOT2 := unhide HOT; rw [hd2] at HOT2
      rw [hA]
      have HO := hide HOK2; have HT := hide HOT2
      clear HOK2 HOT2 h1 h2 hd hd2 hq hp hA HOK HOT HHT
      go_enter Tryd.func20, Tryd.ntmps20
      go_upto_region 1 with fail
      go_wp2_with (first
        | (go_at_call 8
           refine (unhide HO).mono ?_
           rintro e w1 ⟨rfl, hb1⟩
           have HB1 := hide ((unhide HB0).trans (hb1.mono (unhide HB0).size))
           have q1 := (unhide HRT).of_block (hb1.block _ (by omega))
           have t0 := q1.cell (i := 0) (by omega)
           have t1 := q1.cell (i := 1) (by omega)
           have t2 := q1.cell (i := 2) (by omega)
           have t3 := q1.cell (i := 3) (by omega)
           have t4 := q1.cell (i := 4) (by omega)
           simp only [row5] at t0 t1 t2 t3 t4
           clear hb1 q1)
        | (go_at_call 52
           refine (unhide HT _ (unhide HB1)).mono ?_
           rintro e w2 ⟨rfl, hb2⟩
           have HB2 := hide ((unhide HB1).trans (hb2.mono (unhide HB1).size))
           clear hb2))
      all_goals
        go_ret
        exact ⟨rfl, unhide HB2⟩
  · have hd : decide (0 < qT k 1) = false := decide_eq_false hq
    rw [hd, Bool.false_and, Bool.false_and] at hA
    have HOK2 := unhide HOK; rw [hd] at HOK2
    rw [hA]
    have HO := hide HOK2
    clear HOK2 h1 h2 hd hq hA HOK HOT HHT
    go_enter Tryd.func20, Tryd.ntmps20
    go_upto_region 1 with fail
    go_wp2_with (go_at_call 8
                 refine (unhide HO).mono ?_
                 rintro e w1 ⟨rfl, hb1⟩
                 have HB1 := hide ((unhide HB0).trans (hb1.mono (unhide HB0).size))
                 clear hb1)
    all_goals
      go_ret
      exact ⟨rfl, unhide HB1⟩
end Go.Proofs.YtfjiannabnonjaaDoor
