/- The walks of the specification's KindFirst and of the program's: both give the first tree of a schema that is ok, and else the zero tree, in blocks of its own. Of what was there nothing has turned. -/
import Derived.Test.YthkjhmcbmakkdaaDoorPart15
import Derived.Test.YthkjhmcbmakkdaaDoorPart17
import Derived.Test.YthkjhmcbmakkdaaDoorPart19
import Derived.Test.YthkjhmcbmakkdaaDoorPart08
namespace Go.Proofs.YthkjhmcbmakkdaaDoor
open Go Go.RowKit

/-- What KindFirst answers. -/
def fA (t : Kd) : Tr := if 0 < qT t 1 then fT t else .mk 0 0 ByteArray.empty [] []

theorem Own.zero (w : World) : Own w (.mk 0 0 ByteArray.empty [] []) ⟨.int .i64 0, .int .i64 0, .string ByteArray.empty, .slice none 0 0, .slice none 0 0⟩ [] :=
  Own.make (t := .mk 0 0 ByteArray.empty [] []) (F1 := []) (F2 := []) rfl rfl rfl (show I64 0 from ⟨by decide, by decide⟩) (show I64 0 from ⟨by decide, by decide⟩) (by simp [Tr.text]) ⟨none, 0, rfl, by simp [Tr.names], Or.inl ⟨rfl, rfl⟩⟩ ⟨none, 0, rfl, by simp [Tr.kids], Or.inl ⟨rfl, rfl⟩⟩

theorem boxes {w w1 : World} {a b : Obj} (h : Below ((w.alloc a).alloc b).heap.size ((w.alloc a).alloc b) w1) : Below w.heap.size w w1 ∧ w.heap.size + 2 ≤ w1.heap.size := by
  have h1 := h.size
  refine ⟨(((Below.refl w.heap.size w).alloc (Nat.le_refl _) a).alloc (by simp) b).trans (h.mono (by simp; omega)), by simp at h1; omega⟩

set_option maxHeartbeats 800000 in
theorem specKindFirst_any (t : Kd) (P : Nat → Prop) (c : C3) (w : World) (hP : ∀ b, P b → b < w.heap.size) (hrep : KRep P w t c) :
    Calls Tryd.prog 14 #[.agg #[c.c0, c.c1, c.c2]] w fun e w' => ∃ d F, e = .returned (.agg #[d.c0, d.c1, d.c2, d.c3, d.c4]) ∧ Own w' (fA t) d F ∧ F.Nodup ∧ (∀ b, b ∈ F → w.heap.size ≤ b ∧ b < w'.heap.size) ∧ Below w.heap.size w w' := by
  obtain ⟨c0, c1, c2⟩ := c
  have hbx : ∀ o o2, Below w.heap.size w ((w.alloc o).alloc o2) := fun o o2 => ((Below.refl _ _).alloc (Nat.le_refl _) o).alloc (by simp) o2
  have hok : ∀ o o2, Calls Tryd.prog 15 #[.agg #[c0, c1, c2]] ((w.alloc o).alloc o2) fun e w' => e = .returned (.bool (decide (0 < qT t 1))) ∧ Below ((w.alloc o).alloc o2).heap.size ((w.alloc o).alloc o2) w' := fun o o2 =>
    specKindOk_any t P ⟨c0, c1, c2⟩ _ (fun b hb => Nat.lt_of_lt_of_le (hP b hb) (hbx o o2).size) (KRep.carry (fun b hb => (hbx o o2).block b (hP b hb)) (fun _ h => h) _ _ hrep)
  have hr := fun W (hW : Below w.heap.size w W) => KRep.carry (Q := P) (w' := W) (fun b hb => hW.block b (hP b hb)) (fun _ h => h) _ _ hrep
  obtain ⟨e0, -, ⟨a3, cap3, e1, -, -⟩, a, cap, e2, -, -⟩ := hrep.open
  simp only at e0 e1 e2
  subst e0 e1 e2
  by_cases hq : 0 < qT t 1
  · have hd : decide (0 < qT t 1) = true := decide_eq_true hq
    rw [hd] at hok
    have htx := fun W (hW : Below w.heap.size w W) => l2First_all (ksz t + 1) t (by omega) P ⟨.int .i64 t.sort, .slice a3 t.names.length cap3, .slice a t.kids.length cap⟩ W (fun b hb => Nat.lt_of_lt_of_le (hP b hb) hW.size) (hr W hW) (ok_of_qT hq).1 (by have := (ok_of_qT hq).2; omega)
    have hk : fA t = fT t := if_pos hq
    rw [hk]
    generalize fT t = tx at *
    have HOK := hide hok; have HTX := hide htx
    clear hok htx hbx hr hrep hP hd hq hk
    go_enter Tryd.func14, Tryd.ntmps14
    go_wp2_with fail
    refine (unhide HOK _ _).mono ?_
    rintro e w1 ⟨rfl, hb1⟩
    obtain ⟨hb01, hs1⟩ := boxes hb1
    have q0 := (((row3_alloc w (.int .i64 t.sort) (.slice a3 t.names.length cap3) (.slice a t.kids.length cap) 26).alloc (.cells #[.int .i64 0, .int .i64 0, .string ⟨#[]⟩, .slice none 0 0, .slice none 0 0] 37))).of_block (hb1.block _ (by simp <;> omega))
    have q1 := row5_alloc (w.alloc (.cells #[.int .i64 t.sort, .slice a3 t.names.length cap3, .slice a t.kids.length cap] 26)) (.int .i64 0) (.int .i64 0) (.string ⟨#[]⟩) (.slice none 0 0) (.slice none 0 0) 37
    rw [World.size_alloc] at q1
    have q1 := q1.of_block (hb1.block _ (by simp <;> omega))
    have k0 := q0.cell (i := 0) (by omega); have k1 := q0.cell (i := 1) (by omega); have k2 := q0.cell (i := 2) (by omega)
    simp only [row3] at k0 k1 k2
    have HB := hide hb01; have Q1 := hide q1
    clear hb1 q0 q1 hb01
    go_wp2_with fail
    refine (unhide HTX _ (unhide HB)).mono ?_
    rintro e w2 ⟨⟨d0, d1, d2, d3, d4⟩, F, rfl, hown, hFn, hFl, hb2⟩
    have hs2 := hb2.size
    have q2 := (unhide Q1).of_block (hb2.block _ (by omega))
    have z := q2.frozen
    have y0 := q2.cell (i := 0) (by omega); have y1 := q2.cell (i := 1) (by omega); have y2 := q2.cell (i := 2) (by omega); have y3 := q2.cell (i := 3) (by omega); have y4 := q2.cell (i := 4) (by omega)
    simp only [row5] at y0 y1 y2 y3 y4
    obtain ⟨x0, x1, x2, -, -, -, F1, F2, -, ⟨a7, cap7, x3, -⟩, a8, cap8, x4, -⟩ := hown.open
    simp only at x0 x1 x2 x3 x4
    subst x0 x1 x2 x3 x4
    have HOWN := hide hown; have HFL := hide hFl; have HB2 := hide ((unhide HB).trans (hb2.mono (unhide HB).size))
    clear hown hFl hb2 q2
    go_wp2_with fail
    refine bodyPost_ret (v := .agg #[.int .i64 tx.sort, .int .i64 tx.num, .string tx.text, .slice a7 tx.names.length cap7, .slice a8 tx.kids.length cap8]) (by simp [results, Tryd.results14, go_sem, y0, y1, y2, y3, y4]) rfl ⟨⟨_, _, _, _, _⟩, F, rfl, ?_, hFn, ?_, ?_⟩
    · exact Own.carry tx _ F (fun b hb => heap_set5f _ _ _ _ _ _ _ _ (by have := (unhide HFL b hb).1; omega)) (unhide HOWN)
    · intro b hb
      rw [size_set5f]
      have := unhide HFL b hb; have := (unhide HB).size; omega
    · exact below_set5f (unhide HB2) _ _ _ _ _ _ (by omega)
  · have hd : decide (0 < qT t 1) = false := decide_eq_false hq
    rw [hd] at hok
    have hk : fA t = .mk 0 0 ByteArray.empty [] [] := if_neg hq
    rw [hk]
    have HOK := hide hok
    clear hok hbx hr hrep hP hd hq hk
    go_enter Tryd.func14, Tryd.ntmps14
    go_wp2_with fail
    refine (unhide HOK _ _).mono ?_
    rintro e w1 ⟨rfl, hb1⟩
    obtain ⟨hb01, hs1⟩ := boxes hb1
    have q1 := row5_alloc (w.alloc (.cells #[.int .i64 t.sort, .slice a3 t.names.length cap3, .slice a t.kids.length cap] 26)) (.int .i64 0) (.int .i64 0) (.string ⟨#[]⟩) (.slice none 0 0) (.slice none 0 0) 37
    rw [World.size_alloc] at q1
    have q1 := q1.of_block (hb1.block _ (by simp <;> omega))
    have z := q1.frozen
    have y0 := q1.cell (i := 0) (by omega); have y1 := q1.cell (i := 1) (by omega); have y2 := q1.cell (i := 2) (by omega); have y3 := q1.cell (i := 3) (by omega); have y4 := q1.cell (i := 4) (by omega)
    simp only [row5] at y0 y1 y2 y3 y4
    have HB := hide hb01
    clear hb1 q1 hb01
    go_wp2_with fail
    refine bodyPost_ret (v := .agg #[.int .i64 0, .int .i64 0, .string ⟨#[]⟩, .slice none 0 0, .slice none 0 0]) (by simp [results, Tryd.results14, go_sem, y0, y1, y2, y3, y4]) rfl ⟨⟨_, _, _, _, _⟩, [], rfl, Own.zero _, List.nodup_nil, fun b hb => by simp at hb, ?_⟩
    first | exact unhide HB | exact below_set5f (unhide HB) _ _ _ _ _ _ (by omega)

set_option maxHeartbeats 800000 in
theorem implKindFirst_any (t : Kd) (P : Nat → Prop) (c : C3) (w : World) (hP : ∀ b, P b → b < w.heap.size) (hrep : KRep P w t c) (hwt : wKd t ≤ 1048576) :
    Calls Tryd.prog 16 #[.agg #[c.c0, c.c1, c.c2]] w fun e w' => ∃ d F, e = .returned (.agg #[d.c0, d.c1, d.c2, d.c3, d.c4]) ∧ Own w' (fA t) d F ∧ F.Nodup ∧ (∀ b, b ∈ F → w.heap.size ≤ b ∧ b < w'.heap.size) ∧ Below w.heap.size w w' := by
  obtain ⟨c0, c1, c2⟩ := c
  have hbx : ∀ o o2, Below w.heap.size w ((w.alloc o).alloc o2) := fun o o2 => ((Below.refl _ _).alloc (Nat.le_refl _) o).alloc (by simp) o2
  have hok : ∀ o o2, Calls Tryd.prog 8 #[.agg #[c0, c1, c2]] ((w.alloc o).alloc o2) fun e w' => e = .returned (.bool (decide (0 < qT t 1))) ∧ Below ((w.alloc o).alloc o2).heap.size ((w.alloc o).alloc o2) w' := fun o o2 =>
    implKindOk_any t P ⟨c0, c1, c2⟩ _ (fun b hb => Nat.lt_of_lt_of_le (hP b hb) (hbx o o2).size) (KRep.carry (fun b hb => (hbx o o2).block b (hP b hb)) (fun _ h => h) _ _ hrep) hwt
  have hr := fun W (hW : Below w.heap.size w W) => KRep.carry (Q := P) (w' := W) (fun b hb => hW.block b (hP b hb)) (fun _ h => h) _ _ hrep
  obtain ⟨e0, -, ⟨a3, cap3, e1, -, -⟩, a, cap, e2, -, -⟩ := hrep.open
  simp only at e0 e1 e2
  subst e0 e1 e2
  by_cases hq : 0 < qT t 1
  · have hd : decide (0 < qT t 1) = true := decide_eq_true hq
    rw [hd] at hok
    have htx := fun W (hW : Below w.heap.size w W) => gatherF_all (ksz t + 1) t (by omega) P ⟨.int .i64 t.sort, .slice a3 t.names.length cap3, .slice a t.kids.length cap⟩ W (fun b hb => Nat.lt_of_lt_of_le (hP b hb) hW.size) (hr W hW) (ok_of_qT hq).1 (by have := (ok_of_qT hq).2; omega) hwt
    have hk : fA t = fT t := if_pos hq
    rw [hk]
    generalize fT t = tx at *
    have HOK := hide hok; have HTX := hide htx
    clear hok htx hbx hr hrep hP hd hq hk
    go_enter Tryd.func16, Tryd.ntmps16
    go_wp2_with fail
    refine (unhide HOK _ _).mono ?_
    rintro e w1 ⟨rfl, hb1⟩
    obtain ⟨hb01, hs1⟩ := boxes hb1
    have q0 := (((row3_alloc w (.int .i64 t.sort) (.slice a3 t.names.length cap3) (.slice a t.kids.length cap) 26).alloc (.cells #[.int .i64 0, .int .i64 0, .string ⟨#[]⟩, .slice none 0 0, .slice none 0 0] 37))).of_block (hb1.block _ (by simp <;> omega))
    have q1 := row5_alloc (w.alloc (.cells #[.int .i64 t.sort, .slice a3 t.names.length cap3, .slice a t.kids.length cap] 26)) (.int .i64 0) (.int .i64 0) (.string ⟨#[]⟩) (.slice none 0 0) (.slice none 0 0) 37
    rw [World.size_alloc] at q1
    have q1 := q1.of_block (hb1.block _ (by simp <;> omega))
    have k0 := q0.cell (i := 0) (by omega); have k1 := q0.cell (i := 1) (by omega); have k2 := q0.cell (i := 2) (by omega)
    simp only [row3] at k0 k1 k2
    have HB := hide hb01; have Q1 := hide q1
    clear hb1 q0 q1 hb01
    go_wp2_with fail
    refine (unhide HTX _ (unhide HB)).mono ?_
    rintro e w2 ⟨⟨d0, d1, d2, d3, d4⟩, F, rfl, hown, hFn, hFl, hb2⟩
    have hs2 := hb2.size
    have q2 := (unhide Q1).of_block (hb2.block _ (by omega))
    have z := q2.frozen
    have y0 := q2.cell (i := 0) (by omega); have y1 := q2.cell (i := 1) (by omega); have y2 := q2.cell (i := 2) (by omega); have y3 := q2.cell (i := 3) (by omega); have y4 := q2.cell (i := 4) (by omega)
    simp only [row5] at y0 y1 y2 y3 y4
    obtain ⟨x0, x1, x2, -, -, -, F1, F2, -, ⟨a7, cap7, x3, -⟩, a8, cap8, x4, -⟩ := hown.open
    simp only at x0 x1 x2 x3 x4
    subst x0 x1 x2 x3 x4
    have HOWN := hide hown; have HFL := hide hFl; have HB2 := hide ((unhide HB).trans (hb2.mono (unhide HB).size))
    clear hown hFl hb2 q2
    go_wp2_with fail
    refine bodyPost_ret (v := .agg #[.int .i64 tx.sort, .int .i64 tx.num, .string tx.text, .slice a7 tx.names.length cap7, .slice a8 tx.kids.length cap8]) (by simp [results, Tryd.results16, go_sem, y0, y1, y2, y3, y4]) rfl ⟨⟨_, _, _, _, _⟩, F, rfl, ?_, hFn, ?_, ?_⟩
    · exact Own.carry tx _ F (fun b hb => heap_set5f _ _ _ _ _ _ _ _ (by have := (unhide HFL b hb).1; omega)) (unhide HOWN)
    · intro b hb
      rw [size_set5f]
      have := unhide HFL b hb; have := (unhide HB).size; omega
    · exact below_set5f (unhide HB2) _ _ _ _ _ _ (by omega)
  · have hd : decide (0 < qT t 1) = false := decide_eq_false hq
    rw [hd] at hok
    have hk : fA t = .mk 0 0 ByteArray.empty [] [] := if_neg hq
    rw [hk]
    have HOK := hide hok
    clear hok hbx hr hrep hP hd hq hk
    go_enter Tryd.func16, Tryd.ntmps16
    go_wp2_with fail
    refine (unhide HOK _ _).mono ?_
    rintro e w1 ⟨rfl, hb1⟩
    obtain ⟨hb01, hs1⟩ := boxes hb1
    have q1 := row5_alloc (w.alloc (.cells #[.int .i64 t.sort, .slice a3 t.names.length cap3, .slice a t.kids.length cap] 26)) (.int .i64 0) (.int .i64 0) (.string ⟨#[]⟩) (.slice none 0 0) (.slice none 0 0) 37
    rw [World.size_alloc] at q1
    have q1 := q1.of_block (hb1.block _ (by simp <;> omega))
    have z := q1.frozen
    have y0 := q1.cell (i := 0) (by omega); have y1 := q1.cell (i := 1) (by omega); have y2 := q1.cell (i := 2) (by omega); have y3 := q1.cell (i := 3) (by omega); have y4 := q1.cell (i := 4) (by omega)
    simp only [row5] at y0 y1 y2 y3 y4
    have HB := hide hb01
    clear hb1 q1 hb01
    go_wp2_with fail
    refine bodyPost_ret (v := .agg #[.int .i64 0, .int .i64 0, .string ⟨#[]⟩, .slice none 0 0, .slice none 0 0]) (by simp [results, Tryd.results16, go_sem, y0, y1, y2, y3, y4]) rfl ⟨⟨_, _, _, _, _⟩, [], rfl, Own.zero _, List.nodup_nil, fun b hb => by simp at hb, ?_⟩
    first | exact unhide HB | exact below_set5f (unhide HB) _ _ _ _ _ _ (by omega)
end Go.Proofs.YthkjhmcbmakkdaaDoor
