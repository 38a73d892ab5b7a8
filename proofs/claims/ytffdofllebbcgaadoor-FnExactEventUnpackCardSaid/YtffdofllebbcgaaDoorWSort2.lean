/- The walks of the program's tree, sortTree, treeTry, TreeOk and TreeParts. The table treeFields is as the program lays it. -/
import Derived.Test.YtffdofllebbcgaaDoorWSort
import Derived.Defers
import Derived.Recover
namespace Go.Proofs.YtffdofllebbcgaaDoor
open Go Go.RowKit

theorem ofIts_any (n : Nat) (IH : TreeSaid n) (t : Tr) (hn : tsz t ≤ n) (P : Nat → Prop) (c : C5) (w : World) (B : Nat) (p l : Int) (hP : ∀ b, P b → b < w.heap.size ∧ b ≠ B) (hrep : Rep P w t c) (hB : Bnd w B p l) (hT : Tab w) (hB0 : 0 < B) (hp0 : 0 ≤ p) (hp1 : p ≤ 120) (hl0 : 0 ≤ l) (hl1 : l ≤ 6) (ho : ownB t = true) :
    Calls Tryd.prog 81 #[.pointer (some ⟨B, 0, none⟩), .agg #[c.c0, c.c1, c.c2, c.c3, c.c4]] w (OfPost P t B p l w) := by
  have h : (t.sort < 1 ∨ 6 < t.sort) ∨ t.sort = 1 ∨ t.sort = 2 ∨ t.sort = 3 ∨ t.sort = 4 ∨ t.sort = 5 ∨ t.sort = 6 := by omega
  rcases h with h | h | h | h | h | h | h
  · rw [own_out h] at ho; cases ho
  · exact ofIts_1 t P c w B p l hrep hB ho h
  · exact ofIts_2 t P c w B p l hrep hB ho h
  · exact ofIts_3 t P c w B p l hrep hB ho h
  · exact ofIts_4 n IH t hn P c w B p l hP hrep hB hT hB0 hp0 hp1 hl0 hl1 h
  · exact ofIts_5 n IH t hn P c w B p l hP hrep hB hT hB0 hp0 hp1 hl0 hl1 h
  · exact ofIts_6 n IH t hn P c w B p l hP hrep hB hT hB0 hp0 hp1 hl0 hl1 h

set_option maxHeartbeats 800000 in
theorem tree_step (n : Nat) (IH : TreeSaid n) : TreeSaid (n + 1) := by
  intro t hn P c w B p l hP hrep hB hT hB0 hp0 hp1 hl0 hl1
  have hBw := hB.lt
  have hBne : ¬ w.heap.size = B := by omega
  by_cases hin : p + 1 ≤ 120 ∧ l + 1 ≤ 6
  · have hen : ∀ x0 x1 x2 x3 x4 : Value, Calls Tryd.prog 79 #[.pointer (some ⟨B, 0, none⟩)] (w.alloc (.cells #[x0, x1, x2, x3, x4] 32)) fun e w' => e = .returned (.tuple #[]) ∧ w'.rowIs w.heap.size 32 5 (row5 x0 x1 x2 x3 x4) ∧ Bnd w' B (p + 1) (l + 1) ∧ But B w w' ∧ w.heap.size < w'.heap.size := fun x0 x1 x2 x3 x4 =>
      (enter_yes B p l _ (hB.alloc _) hp0 hl0 hin.1 hin.2).mono fun e w' ⟨h1, h2⟩ => by
        have hb := ((But.set (B := B) (w.alloc (.cells #[x0, x1, x2, x3, x4] 32)) 0 (.int .i64 (p + 1))).trans (But.set _ 1 (.int .i64 (l + 1))))
        rw [h2]
        refine ⟨h1, (row5_alloc w x0 x1 x2 x3 x4 _).of_block (hb.at (by simp) hBne), (hB.alloc _).set2 _ _, (But.alloc B w _).trans hb, ?_⟩
        have := hb.size
        simp at this ⊢
    have hwo : ownB t = true → wlk t p l = ofS t (p + 1) (l + 1) := wlk_of t p l hin
    have hwn : ownB t = false → wlk t p l = none := fun h => by rw [wlk_eq, if_pos hin, if_neg (by rw [h]; simp)]
    have HEN := hide hen; have HREP := hide hrep; have HP := hide hP; have HT := hide hT; have HI := hide IH; have HWO := hide hwo; have HWN := hide hwn
    obtain ⟨h120, h6⟩ := hin
    obtain ⟨c0, c1, c2, c3, c4⟩ := c
    clear hen hP hrep hB hT IH hwo hwn
    go_enter Tryd.func68, Tryd.ntmps68
    go_wp2_with fail
    refine (unhide HEN _ _ _ _ _).mono ?_
    rintro e w1 ⟨rfl, q1, hb1, hbt1, hs1⟩
    have hrep1 : Rep P w1 t ⟨c0, c1, c2, c3, c4⟩ := Rep.carry (fun b hb => hbt1.at (unhide HP b hb).1 (unhide HP b hb).2) (fun _ h => h) _ _ (unhide HREP)
    have hT1 := (unhide HT).but hbt1 hB0
    have hown := own_any t P ⟨c0, c1, c2, c3, c4⟩ w1 hrep1 hT1 hT1.lt
    have HOWN := hide hown; have HREP1 := hide hrep1; have HT1 := hide hT1; have Q1 := hide q1; have HB1 := hide hb1; have HBT1 := hide hbt1
    have k0 := q1.cell (i := 0) (by omega); have k1 := q1.cell (i := 1) (by omega); have k2 := q1.cell (i := 2) (by omega); have k3 := q1.cell (i := 3) (by omega); have k4 := q1.cell (i := 4) (by omega)
    simp only [row5] at k0 k1 k2 k3 k4
    clear hown hrep1 hT1 q1 hb1 hbt1
    go_wp2_with fail
    refine (unhide HOWN).mono ?_
    rintro e w2 ⟨rfl, hb2⟩
    clear k0 k1 k2 k3 k4
    have hs2 := hb2.size
    by_cases ho : ownB t = true
    · have q2 := (unhide Q1).of_block (hb2.block _ hs1)
      have hbt2 := (unhide HBT1).trans (But.of_below hb2)
      have hb2' := (unhide HB1).below hb2
      have hrep2 : Rep P w2 t ⟨c0, c1, c2, c3, c4⟩ := Rep.carry (fun b hb => hbt2.at (unhide HP b hb).1 (unhide HP b hb).2) (fun _ h => h) _ _ (unhide HREP)
      have hT2 := (unhide HT).but hbt2 hB0
      have hof := ofIts_any n (unhide HI) t (by omega) P ⟨c0, c1, c2, c3, c4⟩ w2 B (p + 1) (l + 1) (fun b hb => ⟨by have := (unhide HP b hb).1; omega, (unhide HP b hb).2⟩) hrep2 hb2' hT2 hB0 (by omega) h120 (by omega) h6 ho
      have HOF := hide hof; have HBT2 := hide hbt2
      have HW := hide (unhide HWO ho)
      have k0 := q2.cell (i := 0) (by omega); have k1 := q2.cell (i := 1) (by omega); have k2 := q2.cell (i := 2) (by omega); have k3 := q2.cell (i := 3) (by omega); have k4 := q2.cell (i := 4) (by omega)
      simp only [row5] at k0 k1 k2 k3 k4
      clear hof hrep2 hT2 q2 hb2' hbt2 hb2 HOWN HREP1 HT1 Q1 HB1 HBT1 HEN
      go_wp2_with (go_at_call 62; refine (treeWant_yes _).mono ?_; rintro e w' ⟨rfl, hw'⟩; subst hw')
      refine (unhide HOF).mono ?_
      rintro e w3 ⟨hbt3, ⟨q, v, hof, rfl, hsr, hb3⟩ | ⟨hof, rfl⟩⟩
      · have hlv := leave_any B q (l + 1) w3 hb3 (by omega) (by omega)
        rw [show l + 1 - 1 = l from by omega] at hlv
        have hbt4 := ((unhide HBT2).trans hbt3).trans (But.set (B := B) w3 1 (.int .i64 l))
        have hsr4 : SRep (fun b => P b ∨ (w.heap.size ≤ b ∧ b < (w3.setCell ⟨B, 1, none⟩ (.int .i64 l)).heap.size)) (w3.setCell ⟨B, 1, none⟩ (.int .i64 l)) t v := by
          refine SRep.carry (fun b hb => Below.heap_setCell _ _ _ _ ?_) (fun b hb => ?_) _ _ hsr
          · rcases hb with hb | hb
            · exact (unhide HP b hb).2
            · have := hb.1; show b ≠ B; omega
          · rcases hb with hb | hb
            · exact Or.inl hb
            · exact Or.inr ⟨by have := hb.1; omega, by simpa [World.setCell] using hb.2⟩
        have HLV := hide hlv; have HBT4 := hide hbt4; have HSR := hide hsr4; have HB4 := hide (hb3.set1 l)
        have HQ : Hid (wlk t p l = some q) := by show _ = _; rw [unhide HW, hof]
        clear hlv hbt4 hsr4 hsr hb3 hbt3 hof k0 k1 k2 k3 k4
        go_wp2_with (go_at_call 82; refine (unhide HLV).mono ?_; rintro e w4 ⟨rfl, rfl⟩)
        go_ret
        exact ⟨unhide HBT4, Or.inl ⟨q, v, unhide HQ, rfl, unhide HSR, unhide HB4⟩⟩
      · have HBT4 := hide ((unhide HBT2).trans hbt3)
        have HQ : Hid (wlk t p l = none) := by show _ = _; rw [unhide HW, hof]
        clear hbt3 hof
        go_wp2_with fail
        exact ⟨rfl, unhide HBT4, Or.inr ⟨unhide HQ, rfl⟩⟩
    · have ho' : ownB t = false := by simpa using ho
      have HW := hide (unhide HWN ho')
      have hbt2 := (unhide HBT1).trans (But.of_below hb2)
      have HBT2 := hide hbt2
      clear ho hb2 hbt2
      go_wp2_with (go_at_call 62; refine (treeWant_no _).mono ?_; rintro e w' ⟨rfl, rfl⟩)
      exact ⟨rfl, unhide HBT2, Or.inr ⟨unhide HW, rfl⟩⟩
  · have HW : Hid (wlk t p l = none) := by show _ = _; rw [wlk_eq, if_neg hin]
    have hen : ∀ o, Calls Tryd.prog 79 #[.pointer (some ⟨B, 0, none⟩)] (w.alloc o) fun e w' => e = fltE ∧ But B w w' := fun o =>
      (enter_no B p l (w.alloc o) (hB.alloc o) hp0 hl0 hp1 hl1 hin).mono fun e w' ⟨h1, h2⟩ => ⟨h1, by rw [h2]; exact ((But.alloc B w o).trans (But.set _ _ _)).trans (But.set _ _ _)⟩
    have HEN := hide hen
    clear hen hP hrep hB hT IH hin
    go_enter Tryd.func68, Tryd.ntmps68
    go_wp2_with (go_at_call 79; refine (unhide HEN _).mono ?_; rintro e w1 ⟨rfl, hbt⟩)
    exact ⟨rfl, hbt, Or.inr ⟨unhide HW, rfl⟩⟩

theorem tree_all : ∀ n, TreeSaid n
  | 0 => fun t h => by omega
  | n + 1 => tree_step n (tree_all n)
end Go.Proofs.YtffdofllebbcgaaDoor
