/- The walk of the program's kindShaped: what it answers. No conditions. -/
import Derived.Test.YtfjiannabnonjaaDoorWAsc
import Derived.Test.YtfjiannabnonjaaDoorKMath
namespace Go.Proofs.YtfjiannabnonjaaDoor
open Go Go.RowKit

set_option maxHeartbeats 800000 in
theorem kindShaped_any (t : Kd) (P : Nat → Prop) (c : C3) (w : World) (hP : ∀ b, P b → b < w.heap.size) (hrep : KRep P w t c) :
    Calls Tryd.prog 64 #[.agg #[c.c0, c.c1, c.c2]] w fun e w' => e = .returned (.bool (shB t)) ∧ ∃ o, w' = w.alloc o := by
  obtain ⟨c0, c1, c2⟩ := c
  obtain ⟨e0, -, hns, a, cap, e2, hlen, -⟩ := hrep.open
  simp only at e0 e2 hns
  have HN := hide hns
  obtain ⟨a3, cap3, e1, hl3, -⟩ := hns
  subst e0 e1 e2
  clear hrep
  have hbx : ∀ o, Below w.heap.size w (w.alloc o) := fun o => (Below.refl _ _).alloc (Nat.le_refl _) o
  have hcall : ∀ o, Calls Tryd.prog 87 #[.slice a3 t.names.length cap3] (w.alloc o) fun e w' => e = .returned (.bool (riseB t.names)) ∧ w' = w.alloc o := fun o =>
    namesAscend_any _ t.names (w.alloc o) (P := P) (fun b hb => Nat.lt_of_lt_of_le (hP b hb) (hbx o).size) ((unhide HN).carry (fun b hb => (hbx o).block b (hP b hb)) (fun _ h => h))
  have HC := hide hcall
  clear hcall hbx hP HN
  by_cases h1 : t.sort = 1
  · have d1 : (t.sort == 1) = true := by simp [h1]
    have d2 : (t.sort == 2) = false := by simp [h1]
    have d3 : (t.sort == 3) = false := by simp [h1]
    have d4 : (t.sort == 4) = false := by simp [h1]
    have d6 : (t.sort == 6) = false := by simp [h1]
    have d5 : (t.sort == 5) = false := by simp [h1]
    have hsh : shB t = (decide (t.kids.length = 0) && decide (t.names.length = 0)) := by simp [shB, h1]
    have HSH := hide hsh; clear hsh h1
    go_enter Tryd.func64, Tryd.ntmps64
    go_wp2_with (go_at_call 87; refine (unhide HC _).mono ?_; rintro e w' ⟨rfl, rfl⟩)
    all_goals
      go_ret
      refine ⟨ret_bool ?_, _, rfl⟩
      rw [unhide HSH]
      clear HSH HC d1 d2 d3 d4 d5 d6
      rw [Bool.eq_iff_iff]
      simp_all <;> omega
  by_cases h2 : t.sort = 2
  · have d1 : (t.sort == 1) = false := by simp [h2]
    have d2 : (t.sort == 2) = true := by simp [h2]
    have d3 : (t.sort == 3) = false := by simp [h2]
    have d4 : (t.sort == 4) = false := by simp [h2]
    have d6 : (t.sort == 6) = false := by simp [h2]
    have d5 : (t.sort == 5) = false := by simp [h2]
    have hsh : shB t = (decide (t.kids.length = 0) && decide (t.names.length = 0)) := by simp [shB, h2]
    have HSH := hide hsh; clear hsh h1 h2
    go_enter Tryd.func64, Tryd.ntmps64
    go_wp2_with (go_at_call 87; refine (unhide HC _).mono ?_; rintro e w' ⟨rfl, rfl⟩)
    all_goals
      go_ret
      refine ⟨ret_bool ?_, _, rfl⟩
      rw [unhide HSH]
      clear HSH HC d1 d2 d3 d4 d5 d6
      rw [Bool.eq_iff_iff]
      simp_all <;> omega
  by_cases h3 : t.sort = 3
  · have d1 : (t.sort == 1) = false := by simp [h3]
    have d2 : (t.sort == 2) = false := by simp [h3]
    have d3 : (t.sort == 3) = true := by simp [h3]
    have d4 : (t.sort == 4) = false := by simp [h3]
    have d6 : (t.sort == 6) = false := by simp [h3]
    have d5 : (t.sort == 5) = false := by simp [h3]
    have hsh : shB t = (decide (t.kids.length = 0) && decide (t.names.length = 0)) := by simp [shB, h3]
    have HSH := hide hsh; clear hsh h1 h2 h3
    go_enter Tryd.func64, Tryd.ntmps64
    go_wp2_with (go_at_call 87; refine (unhide HC _).mono ?_; rintro e w' ⟨rfl, rfl⟩)
    all_goals
      go_ret
      refine ⟨ret_bool ?_, _, rfl⟩
      rw [unhide HSH]
      clear HSH HC d1 d2 d3 d4 d5 d6
      rw [Bool.eq_iff_iff]
      simp_all <;> omega
  by_cases h4 : t.sort = 4
  · have d1 : (t.sort == 1) = false := by simp [h4]
    have d2 : (t.sort == 2) = false := by simp [h4]
    have d3 : (t.sort == 3) = false := by simp [h4]
    have d4 : (t.sort == 4) = true := by simp [h4]
    have d6 : (t.sort == 6) = false := by simp [h4]
    have d5 : (t.sort == 5) = false := by simp [h4]
    have hsh : shB t = (decide (t.kids.length = 1) && decide (t.names.length = 0)) := by simp [shB, h4]
    have HSH := hide hsh; clear hsh h1 h2 h3 h4
    go_enter Tryd.func64, Tryd.ntmps64
    go_wp2_with (go_at_call 87; refine (unhide HC _).mono ?_; rintro e w' ⟨rfl, rfl⟩)
    all_goals
      go_ret
      refine ⟨ret_bool ?_, _, rfl⟩
      rw [unhide HSH]
      clear HSH HC d1 d2 d3 d4 d5 d6
      rw [Bool.eq_iff_iff]
      simp_all <;> omega
  by_cases h6 : t.sort = 6
  · have d1 : (t.sort == 1) = false := by simp [h6]
    have d2 : (t.sort == 2) = false := by simp [h6]
    have d3 : (t.sort == 3) = false := by simp [h6]
    have d4 : (t.sort == 4) = false := by simp [h6]
    have d6 : (t.sort == 6) = true := by simp [h6]
    have d5 : (t.sort == 5) = false := by simp [h6]
    have hsh : shB t = (decide (t.kids.length = 1) && decide (t.names.length = 0)) := by simp [shB, h6]
    have HSH := hide hsh; clear hsh h1 h2 h3 h4 h6
    go_enter Tryd.func64, Tryd.ntmps64
    go_wp2_with (go_at_call 87; refine (unhide HC _).mono ?_; rintro e w' ⟨rfl, rfl⟩)
    all_goals
      go_ret
      refine ⟨ret_bool ?_, _, rfl⟩
      rw [unhide HSH]
      clear HSH HC d1 d2 d3 d4 d5 d6
      rw [Bool.eq_iff_iff]
      simp_all <;> omega
  by_cases h5 : t.sort = 5
  · have d1 : (t.sort == 1) = false := by simp [h5]
    have d2 : (t.sort == 2) = false := by simp [h5]
    have d3 : (t.sort == 3) = false := by simp [h5]
    have d4 : (t.sort == 4) = false := by simp [h5]
    have d6 : (t.sort == 6) = false := by simp [h5]
    have d5 : (t.sort == 5) = true := by simp [h5]
    have hsh : shB t = (decide (t.kids.length = t.names.length) && riseB t.names) := by simp [shB, h5]
    have HSH := hide hsh; clear hsh h1 h2 h3 h4 h6 h5
    go_enter Tryd.func64, Tryd.ntmps64
    go_wp2_with (go_at_call 87; refine (unhide HC _).mono ?_; rintro e w' ⟨rfl, rfl⟩)
    all_goals
      go_ret
      refine ⟨ret_bool ?_, _, rfl⟩
      rw [unhide HSH]
      clear HSH HC d1 d2 d3 d4 d5 d6
      rw [Bool.eq_iff_iff]
      simp_all <;> omega
  have d1 : (t.sort == 1) = false := by simp [h1]
  have d2 : (t.sort == 2) = false := by simp [h2]
  have d3 : (t.sort == 3) = false := by simp [h3]
  have d4 : (t.sort == 4) = false := by simp [h4]
  have d6 : (t.sort == 6) = false := by simp [h6]
  have d5 : (t.sort == 5) = false := by simp [h5]
  have hsh : shB t = false := by simp [shB, h1, h2, h3, h4, h5, h6]
  have HSH := hide hsh; clear hsh h1 h2 h3 h4 h5 h6
  go_enter Tryd.func64, Tryd.ntmps64
  go_wp2_with fail
  go_ret
  exact ⟨ret_bool (unhide HSH).symm, _, rfl⟩
end Go.Proofs.YtfjiannabnonjaaDoor
