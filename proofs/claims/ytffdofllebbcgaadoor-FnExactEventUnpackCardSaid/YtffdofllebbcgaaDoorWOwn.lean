/- The walk of the program's hasJustItsOwn: whether a tree has just what its sort has. The table treeFields is as the program lays it. -/
import Derived.Test.YtffdofllebbcgaaDoorMerged28
namespace Go.Proofs.YtffdofllebbcgaaDoor
open Go Go.RowKit

/-- The cells of the table treeFields. -/
def tbl : List Bool := [false, false, false, false, true, false, false, false, false, true, false, false, true, false, false, false, false, false, false, true, false, false, true, true, false, false, false, true]
def Tab (w : World) : Prop := ∀ i, i < 28 → w.cell? ⟨0, i, none⟩ = some (.bool (tbl.getD i false))

set_option maxHeartbeats 800000 in
theorem own_1 (t : Tr) (P : Nat → Prop) (c : C5) (w : World) (hrep : Rep P w t c) (hT : Tab w) (hw : 0 < w.heap.size) (hs : t.sort = 1) :
    Calls Tryd.prog 80 #[.agg #[c.c0, c.c1, c.c2, c.c3, c.c4]] w fun e w' => e = .returned (.bool (ownB t)) ∧ Below w.heap.size w w' := by
  obtain ⟨c0, c1, c2, c3, c4⟩ := c
  obtain ⟨e0, e1, e2, -, -, htx, ⟨a3, cap3, e3, hl3, -⟩, a, cap, e4, hlen, -⟩ := hrep.open
  simp only at e0 e1 e2 e3 e4
  subst e0 e1 e2 e3 e4
  clear hrep
  have hbx : ∀ o, Below w.heap.size w (w.alloc o) := fun o => (Below.refl _ _).alloc (Nat.le_refl _) o
  have hbx2 : ∀ o o2, Below w.heap.size w ((w.alloc o).alloc o2) := fun o o2 => ((Below.refl _ _).alloc (Nat.le_refl _) o).alloc (by simp) o2
  have HBX := hide hbx; have HBX2 := hide hbx2; clear hbx hbx2
  have g0 := hT 4 (by omega); have g1 := hT 5 (by omega); have g2 := hT 6 (by omega); have g3 := hT 7 (by omega)
  simp only [tbl, List.getD_cons_succ, List.getD_cons_zero] at g0 g1 g2 g3
  clear hT
  go_enter Tryd.func80, Tryd.ntmps80
  go_wp2_with fail
  all_goals
    go_ret
    refine ⟨ret_bool ?_, by first | exact unhide HBX2 _ _ | exact unhide HBX _⟩
    try simp_all [ownB]
  all_goals first | (rw [Bool.eq_iff_iff]; simp; done) | (intros; omega)

set_option maxHeartbeats 800000 in
theorem own_2 (t : Tr) (P : Nat → Prop) (c : C5) (w : World) (hrep : Rep P w t c) (hT : Tab w) (hw : 0 < w.heap.size) (hs : t.sort = 2) :
    Calls Tryd.prog 80 #[.agg #[c.c0, c.c1, c.c2, c.c3, c.c4]] w fun e w' => e = .returned (.bool (ownB t)) ∧ Below w.heap.size w w' := by
  obtain ⟨c0, c1, c2, c3, c4⟩ := c
  obtain ⟨e0, e1, e2, -, -, htx, ⟨a3, cap3, e3, hl3, -⟩, a, cap, e4, hlen, -⟩ := hrep.open
  simp only at e0 e1 e2 e3 e4
  subst e0 e1 e2 e3 e4
  clear hrep
  have hbx : ∀ o, Below w.heap.size w (w.alloc o) := fun o => (Below.refl _ _).alloc (Nat.le_refl _) o
  have hbx2 : ∀ o o2, Below w.heap.size w ((w.alloc o).alloc o2) := fun o o2 => ((Below.refl _ _).alloc (Nat.le_refl _) o).alloc (by simp) o2
  have HBX := hide hbx; have HBX2 := hide hbx2; clear hbx hbx2
  have g0 := hT 8 (by omega); have g1 := hT 9 (by omega); have g2 := hT 10 (by omega); have g3 := hT 11 (by omega)
  simp only [tbl, List.getD_cons_succ, List.getD_cons_zero] at g0 g1 g2 g3
  clear hT
  go_enter Tryd.func80, Tryd.ntmps80
  go_wp2_with fail
  all_goals
    go_ret
    refine ⟨ret_bool ?_, by first | exact unhide HBX2 _ _ | exact unhide HBX _⟩
    try simp_all [ownB]
  all_goals first | (rw [Bool.eq_iff_iff]; simp; done) | (intros; omega)

set_option maxHeartbeats 800000 in
theorem own_3 (t : Tr) (P : Nat → Prop) (c : C5) (w : World) (hrep : Rep P w t c) (hT : Tab w) (hw : 0 < w.heap.size) (hs : t.sort = 3) :
    Calls Tryd.prog 80 #[.agg #[c.c0, c.c1, c.c2, c.c3, c.c4]] w fun e w' => e = .returned (.bool (ownB t)) ∧ Below w.heap.size w w' := by
  obtain ⟨c0, c1, c2, c3, c4⟩ := c
  obtain ⟨e0, e1, e2, -, -, htx, ⟨a3, cap3, e3, hl3, -⟩, a, cap, e4, hlen, -⟩ := hrep.open
  simp only at e0 e1 e2 e3 e4
  subst e0 e1 e2 e3 e4
  clear hrep
  have hbx : ∀ o, Below w.heap.size w (w.alloc o) := fun o => (Below.refl _ _).alloc (Nat.le_refl _) o
  have hbx2 : ∀ o o2, Below w.heap.size w ((w.alloc o).alloc o2) := fun o o2 => ((Below.refl _ _).alloc (Nat.le_refl _) o).alloc (by simp) o2
  have HBX := hide hbx; have HBX2 := hide hbx2; clear hbx hbx2
  have g0 := hT 12 (by omega); have g1 := hT 13 (by omega); have g2 := hT 14 (by omega); have g3 := hT 15 (by omega)
  simp only [tbl, List.getD_cons_succ, List.getD_cons_zero] at g0 g1 g2 g3
  clear hT
  go_enter Tryd.func80, Tryd.ntmps80
  go_wp2_with fail
  all_goals
    go_ret
    refine ⟨ret_bool ?_, by first | exact unhide HBX2 _ _ | exact unhide HBX _⟩
    try simp_all [ownB]
  all_goals first | (rw [Bool.eq_iff_iff]; simp; done) | (intros; omega)

set_option maxHeartbeats 800000 in
theorem own_4 (t : Tr) (P : Nat → Prop) (c : C5) (w : World) (hrep : Rep P w t c) (hT : Tab w) (hw : 0 < w.heap.size) (hs : t.sort = 4) :
    Calls Tryd.prog 80 #[.agg #[c.c0, c.c1, c.c2, c.c3, c.c4]] w fun e w' => e = .returned (.bool (ownB t)) ∧ Below w.heap.size w w' := by
  obtain ⟨c0, c1, c2, c3, c4⟩ := c
  obtain ⟨e0, e1, e2, -, -, htx, ⟨a3, cap3, e3, hl3, -⟩, a, cap, e4, hlen, -⟩ := hrep.open
  simp only at e0 e1 e2 e3 e4
  subst e0 e1 e2 e3 e4
  clear hrep
  have hbx : ∀ o, Below w.heap.size w (w.alloc o) := fun o => (Below.refl _ _).alloc (Nat.le_refl _) o
  have hbx2 : ∀ o o2, Below w.heap.size w ((w.alloc o).alloc o2) := fun o o2 => ((Below.refl _ _).alloc (Nat.le_refl _) o).alloc (by simp) o2
  have HBX := hide hbx; have HBX2 := hide hbx2; clear hbx hbx2
  have g0 := hT 16 (by omega); have g1 := hT 17 (by omega); have g2 := hT 18 (by omega); have g3 := hT 19 (by omega)
  simp only [tbl, List.getD_cons_succ, List.getD_cons_zero] at g0 g1 g2 g3
  clear hT
  go_enter Tryd.func80, Tryd.ntmps80
  go_wp2_with fail
  all_goals
    go_ret
    refine ⟨ret_bool ?_, by first | exact unhide HBX2 _ _ | exact unhide HBX _⟩
    try simp_all [ownB]
  all_goals first | (rw [Bool.eq_iff_iff]; simp; done) | (intros; omega)

set_option maxHeartbeats 800000 in
theorem own_5 (t : Tr) (P : Nat → Prop) (c : C5) (w : World) (hrep : Rep P w t c) (hT : Tab w) (hw : 0 < w.heap.size) (hs : t.sort = 5) :
    Calls Tryd.prog 80 #[.agg #[c.c0, c.c1, c.c2, c.c3, c.c4]] w fun e w' => e = .returned (.bool (ownB t)) ∧ Below w.heap.size w w' := by
  obtain ⟨c0, c1, c2, c3, c4⟩ := c
  obtain ⟨e0, e1, e2, -, -, htx, ⟨a3, cap3, e3, hl3, -⟩, a, cap, e4, hlen, -⟩ := hrep.open
  simp only at e0 e1 e2 e3 e4
  subst e0 e1 e2 e3 e4
  clear hrep
  have hbx : ∀ o, Below w.heap.size w (w.alloc o) := fun o => (Below.refl _ _).alloc (Nat.le_refl _) o
  have hbx2 : ∀ o o2, Below w.heap.size w ((w.alloc o).alloc o2) := fun o o2 => ((Below.refl _ _).alloc (Nat.le_refl _) o).alloc (by simp) o2
  have HBX := hide hbx; have HBX2 := hide hbx2; clear hbx hbx2
  have g0 := hT 20 (by omega); have g1 := hT 21 (by omega); have g2 := hT 22 (by omega); have g3 := hT 23 (by omega)
  simp only [tbl, List.getD_cons_succ, List.getD_cons_zero] at g0 g1 g2 g3
  clear hT
  go_enter Tryd.func80, Tryd.ntmps80
  go_wp2_with fail
  all_goals
    go_ret
    refine ⟨ret_bool ?_, by first | exact unhide HBX2 _ _ | exact unhide HBX _⟩
    try simp_all [ownB]
  all_goals first | (rw [Bool.eq_iff_iff]; simp; done) | (intros; omega)

set_option maxHeartbeats 800000 in
theorem own_6 (t : Tr) (P : Nat → Prop) (c : C5) (w : World) (hrep : Rep P w t c) (hT : Tab w) (hw : 0 < w.heap.size) (hs : t.sort = 6) :
    Calls Tryd.prog 80 #[.agg #[c.c0, c.c1, c.c2, c.c3, c.c4]] w fun e w' => e = .returned (.bool (ownB t)) ∧ Below w.heap.size w w' := by
  obtain ⟨c0, c1, c2, c3, c4⟩ := c
  obtain ⟨e0, e1, e2, -, -, htx, ⟨a3, cap3, e3, hl3, -⟩, a, cap, e4, hlen, -⟩ := hrep.open
  simp only at e0 e1 e2 e3 e4
  subst e0 e1 e2 e3 e4
  clear hrep
  have hbx : ∀ o, Below w.heap.size w (w.alloc o) := fun o => (Below.refl _ _).alloc (Nat.le_refl _) o
  have hbx2 : ∀ o o2, Below w.heap.size w ((w.alloc o).alloc o2) := fun o o2 => ((Below.refl _ _).alloc (Nat.le_refl _) o).alloc (by simp) o2
  have HBX := hide hbx; have HBX2 := hide hbx2; clear hbx hbx2
  have g0 := hT 24 (by omega); have g1 := hT 25 (by omega); have g2 := hT 26 (by omega); have g3 := hT 27 (by omega)
  simp only [tbl, List.getD_cons_succ, List.getD_cons_zero] at g0 g1 g2 g3
  clear hT
  go_enter Tryd.func80, Tryd.ntmps80
  go_wp2_with fail
  all_goals
    go_ret
    refine ⟨ret_bool ?_, by first | exact unhide HBX2 _ _ | exact unhide HBX _⟩
    try simp_all [ownB]
  all_goals first | (rw [Bool.eq_iff_iff]; simp; done) | (intros; omega)

theorem own_out {t : Tr} (h : t.sort < 1 ∨ 6 < t.sort) : ownB t = false := by
  unfold ownB
  rw [if_neg (by omega), if_neg (by omega), if_neg (by omega), if_neg (by omega), if_neg (by omega), if_neg (by omega)]

set_option maxHeartbeats 800000 in
theorem own_lo (t : Tr) (P : Nat → Prop) (c : C5) (w : World) (hrep : Rep P w t c) (hs : t.sort < 1) :
    Calls Tryd.prog 80 #[.agg #[c.c0, c.c1, c.c2, c.c3, c.c4]] w fun e w' => e = .returned (.bool (ownB t)) ∧ Below w.heap.size w w' := by
  obtain ⟨c0, c1, c2, c3, c4⟩ := c
  obtain ⟨e0, e1, e2, -, -, htx, ⟨a3, cap3, e3, hl3, -⟩, a, cap, e4, hlen, -⟩ := hrep.open
  simp only at e0 e1 e2 e3 e4
  subst e0 e1 e2 e3 e4
  clear hrep
  have hbx : ∀ o, Below w.heap.size w (w.alloc o) := fun o => (Below.refl _ _).alloc (Nat.le_refl _) o
  have HBX := hide hbx; clear hbx
  have HO := hide (own_out (Or.inl hs))
  go_enter Tryd.func80, Tryd.ntmps80
  go_wp2_with fail
  all_goals
    go_ret
    exact ⟨ret_bool (unhide HO).symm, unhide HBX _⟩

set_option maxHeartbeats 800000 in
theorem own_hi (t : Tr) (P : Nat → Prop) (c : C5) (w : World) (hrep : Rep P w t c) (hs : 6 < t.sort) :
    Calls Tryd.prog 80 #[.agg #[c.c0, c.c1, c.c2, c.c3, c.c4]] w fun e w' => e = .returned (.bool (ownB t)) ∧ Below w.heap.size w w' := by
  obtain ⟨c0, c1, c2, c3, c4⟩ := c
  obtain ⟨e0, e1, e2, -, -, htx, ⟨a3, cap3, e3, hl3, -⟩, a, cap, e4, hlen, -⟩ := hrep.open
  simp only at e0 e1 e2 e3 e4
  subst e0 e1 e2 e3 e4
  clear hrep
  have hbx : ∀ o, Below w.heap.size w (w.alloc o) := fun o => (Below.refl _ _).alloc (Nat.le_refl _) o
  have HBX := hide hbx; clear hbx
  have HO := hide (own_out (Or.inr hs))
  go_enter Tryd.func80, Tryd.ntmps80
  go_wp2_with fail
  all_goals
    go_ret
    exact ⟨ret_bool (unhide HO).symm, unhide HBX _⟩

theorem own_any (t : Tr) (P : Nat → Prop) (c : C5) (w : World) (hrep : Rep P w t c) (hT : Tab w) (hw : 0 < w.heap.size) :
    Calls Tryd.prog 80 #[.agg #[c.c0, c.c1, c.c2, c.c3, c.c4]] w fun e w' => e = .returned (.bool (ownB t)) ∧ Below w.heap.size w w' := by
  have h : t.sort < 1 ∨ 6 < t.sort ∨ t.sort = 1 ∨ t.sort = 2 ∨ t.sort = 3 ∨ t.sort = 4 ∨ t.sort = 5 ∨ t.sort = 6 := by omega
  rcases h with h | h | h | h | h | h | h | h
  · exact own_lo t P c w hrep h
  · exact own_hi t P c w hrep h
  · exact own_1 t P c w hrep hT hw h
  · exact own_2 t P c w hrep hT hw h
  · exact own_3 t P c w hrep hT hw h
  · exact own_4 t P c w hrep hT hw h
  · exact own_5 t P c w hrep hT hw h
  · exact own_6 t P c w hrep hT hw h
end Go.Proofs.YtffdofllebbcgaaDoor
