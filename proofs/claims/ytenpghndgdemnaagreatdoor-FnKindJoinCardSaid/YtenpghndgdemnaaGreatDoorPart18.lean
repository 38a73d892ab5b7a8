/- The walk of the program's intoMaybe. Conditions: the pair that it asks for is taken by its contract (a hypothesis). -/
import Derived.Test.YtenpghndgdemnaaGreatDoorPart17
import Derived.Test.YtenpghndgdemnaaGreatDoorPart16
import Derived.Deep.CutRange
namespace Go.Proofs.YtenpghndgdemnaaGreatDoor
open Go Go.RowKit

theorem box_onP (W : World) (v : Value) (t : TypeId) {W' : World} (hb : Below (W.alloc (.cells #[v] t)).heap.size (W.alloc (.cells #[v] t)) W') : W'.cell? ⟨W.heap.size, 0, none⟩ = some v ∧ W'.frozen? ⟨W.heap.size, 0, none⟩ = false := by
  have h := World.rowIs_alloc W #[v] t (fun _ => v) (fun i hi => by
    have hi' : i < 1 := hi
    obtain rfl : i = 0 := by omega
    rfl)
  have h2 := h.of_block (hb.block _ h.lt)
  exact ⟨h2.cell (i := 0) (by simp), h2.frozen 0⟩
theorem cell_setP {W0 W1 : World} (hb : Below W0.drew.heap.size W0.drew W1) {a : Addr} {v x : Value} (h : W0.cell? a = some x) : (W1.setCell ⟨W0.heap.size, 0, none⟩ v).cell? a = some x := by
  have hl := World.block_lt_of_cell? W0 _ h
  rw [World.cell?_of_block (w := W1) (Below.heap_setCell _ _ _ _ (by
    intro e
    have e2 : a.block = W0.heap.size := by simpa using e
    omega))]
  exact cell_onP hb h
theorem heap_setP {W : World} {g b : Nat} {v : Value} (h : g < b) : (W.setCell ⟨g, 0, none⟩ v).heap[b]? = W.heap[b]? := by
  refine Below.heap_setCell _ _ _ _ ?_
  intro e
  have e2 : b = g := by simpa using e
  omega
theorem set_sameP {W : World} {b : Nat} {v x : Value} (h : W.cell? ⟨b, 0, none⟩ = some x) : (W.setCell ⟨b, 0, none⟩ v).cell? ⟨b, 0, none⟩ = some v := World.cell?_setCell_same _ _ _ h
set_option maxRecDepth 100000 in
set_option maxHeartbeats 3200000 in
theorem intoMaybe_walkN (T : Nat) (sa sb : Int) (a1 a2 b1 : Option Addr) (n1 n2 p1 p2 m1 q1 q2 yb yo : Nat) (t : Int) (y1 y2 : Option Addr) (k1 k2 l1 l2 : Nat) (path : ByteArray) (w : World) (R : (Nat → Prop) → World → Value → Value → Prop)
    (hy0 : w.cell? ⟨yb, yo, none⟩ = some (.int .i64 t)) (hy1 : w.cell? ⟨yb, yo + 1, none⟩ = some (.slice y1 k1 l1)) (hy2 : w.cell? ⟨yb, yo + 2, none⟩ = some (.slice y2 k2 l2)) (hyl : yb < w.heap.size) (hps : path.size ≤ 1000000)
    (hcall : ∀ W, Below w.heap.size w W → Calls Tryz.prog 66 #[.pointer (some ⟨T, 0, none⟩), .agg #[.int .i64 sa, .slice a1 n1 p1, .slice a2 n2 p2], .agg #[.int .i64 t, .slice y1 k1 l1, .slice y2 k2 l2], .string (path ++ ⟨#[63]⟩)] W fun e w' => Below W.heap.size W w' ∧ ∃ er, e = .returned (.tuple #[.nilFunc, er]) ∧ R (New W w') w' (.nilFunc) er)
    (hon : ∀ P Q W W' fv er, R P W fv er → (∀ b, P b → Q b) → (∀ b, P b → W'.heap[b]? = W.heap[b]?) → R Q W' fv er) :
    Calls Tryz.prog 62 #[.pointer (some ⟨T, 0, none⟩), .agg #[.int .i64 sa, .slice a1 n1 p1, .slice a2 n2 p2], .agg #[.int .i64 sb, .slice b1 m1 q1, .slice (some ⟨yb, yo, none⟩) 1 q2], .string path] w fun e w' => Below w.heap.size w w' ∧ InBox 85 R w w' e := by
  obtain ⟨hrx, hry, hbw⟩ := pr_boxes w sa sb a1 a2 b1 (some ⟨yb, yo, none⟩) n1 n2 p1 p2 m1 1 q1 q2
  have x0' := hrx.cell (i := 0) (by omega)
  have x1' := hrx.cell (i := 1) (by omega)
  have x2' := hrx.cell (i := 2) (by omega)
  have y2' := hry.cell (i := 2) (by omega)
  simp only [row3] at x0' x1' x2' y2'
  have g1 : ¬ (9223372036854775807 < path.size + 1) := by omega
  rw [← hbw.cell hyl] at hy0 hy1 hy2
  have HB := hide hbw
  have HC := hide hcall
  have HON := hide hon
  clear hrx hry hcall hyl hps hon
  go_enter Tryz.func62, Tryz.ntmps62
  go_upto_region 1 with fail
  generalize ((w.alloc (.cells #[.int .i64 sa, .slice a1 n1 p1, .slice a2 n2 p2] 26)).alloc (.cells #[.int .i64 sb, .slice b1 m1 q1, .slice (some ⟨yb, yo, none⟩) 1 q2] 26)) = W0 at hy0 hy1 hy2 x0' x1' x2' y2' hbw HB ⊢
  clear hbw
  go_region_held3 (fun W => W.cell? ⟨w.heap.size, 0, none⟩ = some (.int .i64 sa) ∧ W.cell? ⟨w.heap.size, 1, none⟩ = some (.slice a1 n1 p1) ∧ W.cell? ⟨w.heap.size, 2, none⟩ = some (.slice a2 n2 p2) ∧ W.cell? ⟨w.heap.size + 1, 2, none⟩ = some (.slice (some ⟨yb, yo, none⟩) 1 q2) ∧ W.cell? ⟨yb, yo, none⟩ = some (.int .i64 t) ∧ W.cell? ⟨yb, yo + 1, none⟩ = some (.slice y1 k1 l1) ∧ W.cell? ⟨yb, yo + 2, none⟩ = some (.slice y2 k2 l2)) (first | exact ⟨x0', x1', x2', y2', hy0, hy1, hy2⟩ | exact HK2 | exact HK3 | go_keep)
    (first
      | (go_at_call 66
         first
         | (refine (unhide HC W0.drew (unhide HB).drew).mono ?_
            rintro e W1 ⟨hb1, er, rfl, hr⟩
            have HB1 := hide ((unhide HB).drew.trans (hb1.mono (unhide HB).size))
            have HK2 : W1.cell? ⟨w.heap.size, 0, none⟩ = some (.int .i64 sa) ∧ W1.cell? ⟨w.heap.size, 1, none⟩ = some (.slice a1 n1 p1) ∧ W1.cell? ⟨w.heap.size, 2, none⟩ = some (.slice a2 n2 p2) ∧ W1.cell? ⟨w.heap.size + 1, 2, none⟩ = some (.slice (some ⟨yb, yo, none⟩) 1 q2) ∧ W1.cell? ⟨yb, yo, none⟩ = some (.int .i64 t) ∧ W1.cell? ⟨yb, yo + 1, none⟩ = some (.slice y1 k1 l1) ∧ W1.cell? ⟨yb, yo + 2, none⟩ = some (.slice y2 k2 l2) :=
              ⟨cell_onP hb1 x0', cell_onP hb1 x1', cell_onP hb1 x2', cell_onP hb1 y2', cell_onP hb1 hy0, cell_onP hb1 hy1, cell_onP hb1 hy2⟩
            have HRR := hide hr
            have HSZ := hide (unhide HB).size
            clear hb1 hr)
         | (refine (unhide HC (W0.drew.alloc (.cells #[.nilFunc] 57)) ((unhide HB).drew.alloc (unhide HB).size _)).mono ?_
            rintro e W1 ⟨hb1, er, rfl, hr⟩
            have hb0 := (Below.refl W0.drew.heap.size W0.drew).alloc (Nat.le_refl _) (.cells #[.nilFunc] 57)
            have hb2 := hb0.trans (hb1.mono hb0.size)
            have HB1 := hide ((unhide HB).drew.trans (hb2.mono (unhide HB).size))
            have HK2 : W1.cell? ⟨w.heap.size, 0, none⟩ = some (.int .i64 sa) ∧ W1.cell? ⟨w.heap.size, 1, none⟩ = some (.slice a1 n1 p1) ∧ W1.cell? ⟨w.heap.size, 2, none⟩ = some (.slice a2 n2 p2) ∧ W1.cell? ⟨w.heap.size + 1, 2, none⟩ = some (.slice (some ⟨yb, yo, none⟩) 1 q2) ∧ W1.cell? ⟨yb, yo, none⟩ = some (.int .i64 t) ∧ W1.cell? ⟨yb, yo + 1, none⟩ = some (.slice y1 k1 l1) ∧ W1.cell? ⟨yb, yo + 2, none⟩ = some (.slice y2 k2 l2) :=
              ⟨cell_onP hb2 x0', cell_onP hb2 x1', cell_onP hb2 x2', cell_onP hb2 y2', cell_onP hb2 hy0, cell_onP hb2 hy1, cell_onP hb2 hy2⟩
            have HLT := hide (show W0.heap.size < (W0.drew.alloc (.cells #[.nilFunc] 57)).heap.size by rw [World.size_alloc]; exact Nat.lt_succ_self _)
            have HSY := hide (show w.heap.size ≤ (W0.drew.alloc (.cells #[.nilFunc] 57)).heap.size by rw [World.size_alloc]; exact Nat.le_succ_of_le (unhide HB).size)
            have HK3 : (W1.setCell ⟨W0.heap.size, 0, none⟩ (.nilFunc)).cell? ⟨w.heap.size, 0, none⟩ = some (.int .i64 sa) ∧ (W1.setCell ⟨W0.heap.size, 0, none⟩ (.nilFunc)).cell? ⟨w.heap.size, 1, none⟩ = some (.slice a1 n1 p1) ∧ (W1.setCell ⟨W0.heap.size, 0, none⟩ (.nilFunc)).cell? ⟨w.heap.size, 2, none⟩ = some (.slice a2 n2 p2) ∧ (W1.setCell ⟨W0.heap.size, 0, none⟩ (.nilFunc)).cell? ⟨w.heap.size + 1, 2, none⟩ = some (.slice (some ⟨yb, yo, none⟩) 1 q2) ∧ (W1.setCell ⟨W0.heap.size, 0, none⟩ (.nilFunc)).cell? ⟨yb, yo, none⟩ = some (.int .i64 t) ∧ (W1.setCell ⟨W0.heap.size, 0, none⟩ (.nilFunc)).cell? ⟨yb, yo + 1, none⟩ = some (.slice y1 k1 l1) ∧ (W1.setCell ⟨W0.heap.size, 0, none⟩ (.nilFunc)).cell? ⟨yb, yo + 2, none⟩ = some (.slice y2 k2 l2) :=
              ⟨cell_setP hb2 x0', cell_setP hb2 x1', cell_setP hb2 x2', cell_setP hb2 y2', cell_setP hb2 hy0, cell_setP hb2 hy1, cell_setP hb2 hy2⟩
            have hbx := box_onP W0.drew .nilFunc 57 hb1
            have hbc : W1.cell? ⟨W0.heap.size, 0, none⟩ = some .nilFunc := hbx.1
            have hbf : W1.frozen? ⟨W0.heap.size, 0, none⟩ = false := hbx.2
            have HRR := hide hr
            have HSZ := hide (unhide HB).size
            clear hb1 hr hb0 hb2 hbx)))
  all_goals
    clear HK2 hy0 hy1 hy2 x0' x1' x2' y2' g1 HC HB
  · have hbe := (unhide HB1).alloc (unhide HB1).size (.cells #[.nilFunc] 57)
    have HE : Hid (Below w.heap.size w (W1.alloc (.cells #[.nilFunc] 57)) ∧ R (New w (W1.alloc (.cells #[.nilFunc] 57))) (W1.alloc (.cells #[.nilFunc] 57)) (.nilFunc) er ∧ (W1.alloc (.cells #[.nilFunc] 57)).cell? ⟨W1.heap.size, 0, none⟩ = some (.nilFunc) ∧ w.heap.size ≤ W1.heap.size ∧ W1.heap.size < (W1.alloc (.cells #[.nilFunc] 57)).heap.size) := ⟨hbe, unhide HON _ _ _ _ _ _ (unhide HRR) (fun b hb => ⟨Nat.le_trans (unhide HSZ) hb.1, by have := hb.2; simp; omega⟩) (fun b hb => Below.heap_alloc _ _ _ hb.2), by simp, (unhide HB1).size, by simp⟩
    clear hbe HB1 HRR HON HSZ
    go_wp2_with fail
    go_ret2
    exact ⟨(unhide HE).1, .nilFunc, er, _, rfl, (unhide HE).2⟩
  · have HE : Hid (Below w.heap.size w (W1.setCell ⟨W0.heap.size, 0, none⟩ (.nilFunc)) ∧ R (New w (W1.setCell ⟨W0.heap.size, 0, none⟩ (.nilFunc))) (W1.setCell ⟨W0.heap.size, 0, none⟩ (.nilFunc)) (.nilFunc) er ∧ (W1.setCell ⟨W0.heap.size, 0, none⟩ (.nilFunc)).cell? ⟨W0.heap.size, 0, none⟩ = some (.nilFunc) ∧ w.heap.size ≤ W0.heap.size ∧ W0.heap.size < (W1.setCell ⟨W0.heap.size, 0, none⟩ (.nilFunc)).heap.size) := ⟨(unhide HB1).setCell (unhide HSZ) _, unhide HON _ _ _ _ _ _ (unhide HRR) (fun b hb => ⟨Nat.le_trans (unhide HSY) hb.1, by have := hb.2; simpa [World.setCell] using this⟩) (fun b hb => heap_setP (Nat.lt_of_lt_of_le (unhide HLT) hb.1)), set_sameP hbc, unhide HSZ, by have := World.block_lt_of_cell? W1 _ hbc; simpa [World.setCell] using this⟩
    clear HB1 HRR HON HSZ HSY HLT hbc hbf HK3
    go_wp2_with fail
    go_ret2
    exact ⟨(unhide HE).1, .nilFunc, er, _, rfl, (unhide HE).2⟩
set_option maxRecDepth 100000 in
set_option maxHeartbeats 3200000 in
theorem intoMaybe_walkF (T : Nat) (sa sb : Int) (a1 a2 b1 : Option Addr) (n1 n2 p1 p2 m1 q1 q2 yb yo : Nat) (t : Int) (y1 y2 : Option Addr) (k1 k2 l1 l2 : Nat) (path : ByteArray) (w : World) (R : (Nat → Prop) → World → Value → Value → Prop)
    (hy0 : w.cell? ⟨yb, yo, none⟩ = some (.int .i64 t)) (hy1 : w.cell? ⟨yb, yo + 1, none⟩ = some (.slice y1 k1 l1)) (hy2 : w.cell? ⟨yb, yo + 2, none⟩ = some (.slice y2 k2 l2)) (hyl : yb < w.heap.size) (hps : path.size ≤ 1000000)
    (hcall : ∀ W, Below w.heap.size w W → Calls Tryz.prog 66 #[.pointer (some ⟨T, 0, none⟩), .agg #[.int .i64 sa, .slice a1 n1 p1, .slice a2 n2 p2], .agg #[.int .i64 t, .slice y1 k1 l1, .slice y2 k2 l2], .string (path ++ ⟨#[63]⟩)] W fun e w' => Below W.heap.size W w' ∧ ∃ fn bs cs er, e = .returned (.tuple #[.func fn bs cs, er]) ∧ R (New W w') w' (.func fn bs cs) er)
    (hon : ∀ P Q W W' fv er, R P W fv er → (∀ b, P b → Q b) → (∀ b, P b → W'.heap[b]? = W.heap[b]?) → R Q W' fv er) :
    Calls Tryz.prog 62 #[.pointer (some ⟨T, 0, none⟩), .agg #[.int .i64 sa, .slice a1 n1 p1, .slice a2 n2 p2], .agg #[.int .i64 sb, .slice b1 m1 q1, .slice (some ⟨yb, yo, none⟩) 1 q2], .string path] w fun e w' => Below w.heap.size w w' ∧ InBox 85 R w w' e := by
  obtain ⟨hrx, hry, hbw⟩ := pr_boxes w sa sb a1 a2 b1 (some ⟨yb, yo, none⟩) n1 n2 p1 p2 m1 1 q1 q2
  have x0' := hrx.cell (i := 0) (by omega)
  have x1' := hrx.cell (i := 1) (by omega)
  have x2' := hrx.cell (i := 2) (by omega)
  have y2' := hry.cell (i := 2) (by omega)
  simp only [row3] at x0' x1' x2' y2'
  have g1 : ¬ (9223372036854775807 < path.size + 1) := by omega
  rw [← hbw.cell hyl] at hy0 hy1 hy2
  have HB := hide hbw
  have HC := hide hcall
  have HON := hide hon
  clear hrx hry hcall hyl hps hon
  go_enter Tryz.func62, Tryz.ntmps62
  go_upto_region 1 with fail
  generalize ((w.alloc (.cells #[.int .i64 sa, .slice a1 n1 p1, .slice a2 n2 p2] 26)).alloc (.cells #[.int .i64 sb, .slice b1 m1 q1, .slice (some ⟨yb, yo, none⟩) 1 q2] 26)) = W0 at hy0 hy1 hy2 x0' x1' x2' y2' hbw HB ⊢
  clear hbw
  go_region_held3 (fun W => W.cell? ⟨w.heap.size, 0, none⟩ = some (.int .i64 sa) ∧ W.cell? ⟨w.heap.size, 1, none⟩ = some (.slice a1 n1 p1) ∧ W.cell? ⟨w.heap.size, 2, none⟩ = some (.slice a2 n2 p2) ∧ W.cell? ⟨w.heap.size + 1, 2, none⟩ = some (.slice (some ⟨yb, yo, none⟩) 1 q2) ∧ W.cell? ⟨yb, yo, none⟩ = some (.int .i64 t) ∧ W.cell? ⟨yb, yo + 1, none⟩ = some (.slice y1 k1 l1) ∧ W.cell? ⟨yb, yo + 2, none⟩ = some (.slice y2 k2 l2)) (first | exact ⟨x0', x1', x2', y2', hy0, hy1, hy2⟩ | exact HK2 | exact HK3 | go_keep)
    (first
      | (go_at_call 66
         first
         | (refine (unhide HC W0.drew (unhide HB).drew).mono ?_
            rintro e W1 ⟨hb1, fn, bs, cs, er, rfl, hr⟩
            have HB1 := hide ((unhide HB).drew.trans (hb1.mono (unhide HB).size))
            have HK2 : W1.cell? ⟨w.heap.size, 0, none⟩ = some (.int .i64 sa) ∧ W1.cell? ⟨w.heap.size, 1, none⟩ = some (.slice a1 n1 p1) ∧ W1.cell? ⟨w.heap.size, 2, none⟩ = some (.slice a2 n2 p2) ∧ W1.cell? ⟨w.heap.size + 1, 2, none⟩ = some (.slice (some ⟨yb, yo, none⟩) 1 q2) ∧ W1.cell? ⟨yb, yo, none⟩ = some (.int .i64 t) ∧ W1.cell? ⟨yb, yo + 1, none⟩ = some (.slice y1 k1 l1) ∧ W1.cell? ⟨yb, yo + 2, none⟩ = some (.slice y2 k2 l2) :=
              ⟨cell_onP hb1 x0', cell_onP hb1 x1', cell_onP hb1 x2', cell_onP hb1 y2', cell_onP hb1 hy0, cell_onP hb1 hy1, cell_onP hb1 hy2⟩
            have HRR := hide hr
            have HSZ := hide (unhide HB).size
            clear hb1 hr)
         | (refine (unhide HC (W0.drew.alloc (.cells #[.nilFunc] 57)) ((unhide HB).drew.alloc (unhide HB).size _)).mono ?_
            rintro e W1 ⟨hb1, fn, bs, cs, er, rfl, hr⟩
            have hb0 := (Below.refl W0.drew.heap.size W0.drew).alloc (Nat.le_refl _) (.cells #[.nilFunc] 57)
            have hb2 := hb0.trans (hb1.mono hb0.size)
            have HB1 := hide ((unhide HB).drew.trans (hb2.mono (unhide HB).size))
            have HK2 : W1.cell? ⟨w.heap.size, 0, none⟩ = some (.int .i64 sa) ∧ W1.cell? ⟨w.heap.size, 1, none⟩ = some (.slice a1 n1 p1) ∧ W1.cell? ⟨w.heap.size, 2, none⟩ = some (.slice a2 n2 p2) ∧ W1.cell? ⟨w.heap.size + 1, 2, none⟩ = some (.slice (some ⟨yb, yo, none⟩) 1 q2) ∧ W1.cell? ⟨yb, yo, none⟩ = some (.int .i64 t) ∧ W1.cell? ⟨yb, yo + 1, none⟩ = some (.slice y1 k1 l1) ∧ W1.cell? ⟨yb, yo + 2, none⟩ = some (.slice y2 k2 l2) :=
              ⟨cell_onP hb2 x0', cell_onP hb2 x1', cell_onP hb2 x2', cell_onP hb2 y2', cell_onP hb2 hy0, cell_onP hb2 hy1, cell_onP hb2 hy2⟩
            have HLT := hide (show W0.heap.size < (W0.drew.alloc (.cells #[.nilFunc] 57)).heap.size by rw [World.size_alloc]; exact Nat.lt_succ_self _)
            have HSY := hide (show w.heap.size ≤ (W0.drew.alloc (.cells #[.nilFunc] 57)).heap.size by rw [World.size_alloc]; exact Nat.le_succ_of_le (unhide HB).size)
            have HK3 : (W1.setCell ⟨W0.heap.size, 0, none⟩ (.func fn bs cs)).cell? ⟨w.heap.size, 0, none⟩ = some (.int .i64 sa) ∧ (W1.setCell ⟨W0.heap.size, 0, none⟩ (.func fn bs cs)).cell? ⟨w.heap.size, 1, none⟩ = some (.slice a1 n1 p1) ∧ (W1.setCell ⟨W0.heap.size, 0, none⟩ (.func fn bs cs)).cell? ⟨w.heap.size, 2, none⟩ = some (.slice a2 n2 p2) ∧ (W1.setCell ⟨W0.heap.size, 0, none⟩ (.func fn bs cs)).cell? ⟨w.heap.size + 1, 2, none⟩ = some (.slice (some ⟨yb, yo, none⟩) 1 q2) ∧ (W1.setCell ⟨W0.heap.size, 0, none⟩ (.func fn bs cs)).cell? ⟨yb, yo, none⟩ = some (.int .i64 t) ∧ (W1.setCell ⟨W0.heap.size, 0, none⟩ (.func fn bs cs)).cell? ⟨yb, yo + 1, none⟩ = some (.slice y1 k1 l1) ∧ (W1.setCell ⟨W0.heap.size, 0, none⟩ (.func fn bs cs)).cell? ⟨yb, yo + 2, none⟩ = some (.slice y2 k2 l2) :=
              ⟨cell_setP hb2 x0', cell_setP hb2 x1', cell_setP hb2 x2', cell_setP hb2 y2', cell_setP hb2 hy0, cell_setP hb2 hy1, cell_setP hb2 hy2⟩
            have hbx := box_onP W0.drew .nilFunc 57 hb1
            have hbc : W1.cell? ⟨W0.heap.size, 0, none⟩ = some .nilFunc := hbx.1
            have hbf : W1.frozen? ⟨W0.heap.size, 0, none⟩ = false := hbx.2
            have HRR := hide hr
            have HSZ := hide (unhide HB).size
            clear hb1 hr hb0 hb2 hbx)))
  all_goals
    clear HK2 hy0 hy1 hy2 x0' x1' x2' y2' g1 HC HB
  · have hbe := (unhide HB1).alloc (unhide HB1).size (.cells #[.func fn bs cs] 57)
    have HE : Hid (Below w.heap.size w (W1.alloc (.cells #[.func fn bs cs] 57)) ∧ R (New w (W1.alloc (.cells #[.func fn bs cs] 57))) (W1.alloc (.cells #[.func fn bs cs] 57)) (.func fn bs cs) er ∧ (W1.alloc (.cells #[.func fn bs cs] 57)).cell? ⟨W1.heap.size, 0, none⟩ = some (.func fn bs cs) ∧ w.heap.size ≤ W1.heap.size ∧ W1.heap.size < (W1.alloc (.cells #[.func fn bs cs] 57)).heap.size) := ⟨hbe, unhide HON _ _ _ _ _ _ (unhide HRR) (fun b hb => ⟨Nat.le_trans (unhide HSZ) hb.1, by have := hb.2; simp; omega⟩) (fun b hb => Below.heap_alloc _ _ _ hb.2), by simp, (unhide HB1).size, by simp⟩
    clear hbe HB1 HRR HON HSZ
    go_wp2_with fail
    go_ret2
    exact ⟨(unhide HE).1, .func fn bs cs, er, _, rfl, (unhide HE).2⟩
  · have HE : Hid (Below w.heap.size w (W1.setCell ⟨W0.heap.size, 0, none⟩ (.func fn bs cs)) ∧ R (New w (W1.setCell ⟨W0.heap.size, 0, none⟩ (.func fn bs cs))) (W1.setCell ⟨W0.heap.size, 0, none⟩ (.func fn bs cs)) (.func fn bs cs) er ∧ (W1.setCell ⟨W0.heap.size, 0, none⟩ (.func fn bs cs)).cell? ⟨W0.heap.size, 0, none⟩ = some (.func fn bs cs) ∧ w.heap.size ≤ W0.heap.size ∧ W0.heap.size < (W1.setCell ⟨W0.heap.size, 0, none⟩ (.func fn bs cs)).heap.size) := ⟨(unhide HB1).setCell (unhide HSZ) _, unhide HON _ _ _ _ _ _ (unhide HRR) (fun b hb => ⟨Nat.le_trans (unhide HSY) hb.1, by have := hb.2; simpa [World.setCell] using this⟩) (fun b hb => heap_setP (Nat.lt_of_lt_of_le (unhide HLT) hb.1)), set_sameP hbc, unhide HSZ, by have := World.block_lt_of_cell? W1 _ hbc; simpa [World.setCell] using this⟩
    clear HB1 HRR HON HSZ HSY HLT hbc hbf HK3
    go_wp2_with fail
    go_ret2
    exact ⟨(unhide HE).1, .func fn bs cs, er, _, rfl, (unhide HE).2⟩
end Go.Proofs.YtenpghndgdemnaaGreatDoor

/- The walk of the program's ofFields at the table of widenings: of two forms the widening of each name that one of them has, or the first misfit. Conditions: the pairs that it asks for are taken by their contracts (a hypothesis). -/

namespace Go.Proofs.YtenpghndgdemnaaGreatDoor
open Go Go.RowKit

theorem addP (t : TypeId) (a b : ByteArray) (h : a.size + b.size ≤ 9223372036854775807) : binOp .add t (.string a) (.string b) = pure (.string (a ++ b)) := by
  simp [binOp, Op.stringOp]
  omega
theorem infoW0 : (Tryz.prog.info? 57).map (fun i => (i.zero, i.size, i.bytes)) = some (some .nilFunc, 1, 8) := by kernel_rfl
theorem infoWV : ∃ i, Tryz.prog.info? 57 = some i ∧ i.zero = some .nilFunc ∧ i.size = 1 ∧ i.bytes = 8 := by
  have := infoW0
  cases h : Tryz.prog.info? 57 with
  | none => rw [h] at this; simp at this
  | some i => rw [h] at this; exact ⟨i, rfl, by simpa using this⟩
/-- What comes of the pair of a name: a widening, or a misfit. -/
def PR (g : Bool) (G : (Nat → Prop) → World → Value → Prop) (P : Nat → Prop) (W : World) (fv er : Value) : Prop :=
  (g = true ∧ er = .nilIface ∧ (∃ f b c, fv = .func f b c) ∧ G P W fv) ∨ (g = false ∧ FnV fv ∧ ∃ (x y : Int) (p : ByteArray), er = .iface 91 (.agg #[.int .i64 x, .int .i64 y, .string p]))
theorem PR.fn {g : Bool} {G : (Nat → Prop) → World → Value → Prop} {P : Nat → Prop} {W : World} {fv er : Value} (h : PR g G P W fv er) : FnV fv := by
  rcases h with ⟨-, -, h, -⟩ | ⟨-, h, -⟩
  · exact Or.inr h
  · exact h
theorem PR.on {g : Bool} {G : (Nat → Prop) → World → Value → Prop} (hG : ∀ P Q W W' fv, G P W fv → (∀ b, P b → Q b) → (∀ b, P b → W'.heap[b]? = W.heap[b]?) → G Q W' fv) (P Q : Nat → Prop) (W W' : World) (fv er : Value) (h : PR g G P W fv er) (h1 : ∀ b, P b → Q b) (h2 : ∀ b, P b → W'.heap[b]? = W.heap[b]?) : PR g G Q W' fv er := by
  rcases h with ⟨h, k, l, m⟩ | h
  · exact Or.inl ⟨h, k, l, hG _ _ _ _ _ m h1 h2⟩
  · exact Or.inr h
/-- The fields while they are gathered: both boxes, the names, the widenings of the first k names. -/
structure FlS (c d : C3) (U : List ByteArray) (N : Nat) (na : Option Addr) (nc : Nat) (G : ByteArray → (Nat → Prop) → World → Value → Prop) (w W : World) (fa : Option Addr) (k fc : Nat) (fvs : List Value) : Prop where
  bel : Below w.heap.size w W
  n0 : w.heap.size + 2 ≤ N
  n1 : N ≤ W.heap.size
  bx : W.rowIs w.heap.size 26 3 (row3 c.c0 c.c1 c.c2)
  by' : W.rowIs (w.heap.size + 1) 26 3 (row3 d.c0 d.c1 d.c2)
  st : StrsAt (fun b => w.heap.size + 2 ≤ b ∧ b < N) W (.slice na U.length nc) U
  own : W.ownsRow N 57 1 (.slice fa k fc) k fvs
  kl : k ≤ U.length
  gs : ∀ i, (hi : i < fvs.length) → (hu : i < U.length) → G U[i] (fun b => N ≤ b ∧ b < W.heap.size ∧ (Value.slice fa k fc).ownBlock ≠ some b) W fvs[i] ∧ ∃ f b c, fvs[i] = .func f b c
section
variable {c d : C3} {U : List ByteArray} {N : Nat} {na : Option Addr} {nc : Nat} {G : ByteArray → (Nat → Prop) → World → Value → Prop} {w W : World} {fa : Option Addr} {k fc : Nat} {fvs : List Value}
theorem FlS.len (h : FlS c d U N na nc G w W fa k fc fvs) : fvs.length = k := by have := h.own.1; omega
theorem FlS.on (hG : ∀ nm P Q W W' fv, G nm P W fv → (∀ b, P b → Q b) → (∀ b, P b → W'.heap[b]? = W.heap[b]?) → G nm Q W' fv) (h : FlS c d U N na nc G w W fa k fc fvs) {W' : World} (hb : Below W.heap.size W W') : FlS c d U N na nc G w W' fa k fc fvs := by
  have hs := hb.size
  have h1 := h.n1
  have h0 := h.n0
  refine ⟨h.bel.trans (hb.mono h.bel.size), h.n0, by omega, h.bx.of_block (hb.block _ h.bx.lt), h.by'.of_block (hb.block _ h.by'.lt), h.st.carry (fun b hb' => hb.block b (by have := hb'.2; omega)) (fun _ h => h), h.own.kept (row := none) ⟨hb.os, hb.tape, hb.output, hb.size, fun i hi _ => hb.block i hi⟩ ?_, h.kl, fun i hi hu => ?_⟩
  · cases hv : (Value.slice fa k fc).ownBlock with
    | none => exact Or.inl rfl
    | some g => exact Or.inr (by simp)
  · obtain ⟨h2, h3⟩ := h.gs i hi hu
    exact ⟨hG _ _ _ _ _ _ h2 (fun b hb' => ⟨hb'.1, by have := hb'.2.1; omega, hb'.2.2⟩) (fun b hb' => hb.block b hb'.2.1), h3⟩
/-- One more field. -/
theorem FlS.add (hG : ∀ nm P Q W W' fv, G nm P W fv → (∀ b, P b → Q b) → (∀ b, P b → W'.heap[b]? = W.heap[b]?) → G nm Q W' fv) (h : FlS c d U N na nc G w W fa k fc fvs) {fv : Value} {P : Nat → Prop} (hk : k < U.length) (hfv : G U[k] P W fv ∧ ∃ f b c, fv = .func f b c) (hP : ∀ b, P b → N ≤ b ∧ b < W.heap.size ∧ (Value.slice fa k fc).ownBlock ≠ some b)
    {W' : World} {fa' : Option Addr} {fc' : Nat} (ho : W'.ownsRow N 57 1 (.slice fa' (k + 1) fc') (k + 1) (fvs ++ [fv])) (hg : W.grownBy W' (Value.slice fa k fc).ownBlock) (hn : (Value.slice fa' (k + 1) fc').ownBlock = (Value.slice fa k fc).ownBlock ∨ ∃ g, (Value.slice fa' (k + 1) fc').ownBlock = some g ∧ W.heap.size ≤ g) : FlS c d U N na nc G w W' fa' (k + 1) fc' (fvs ++ [fv]) := by
  have hs := hg.size
  have h1 := h.n1
  have h0 := h.n0
  have hown : ∀ g, (Value.slice fa k fc).ownBlock = some g → N ≤ g := fun g e => (h.own.lt g e).1
  have hkeep : ∀ b, b < W.heap.size → (Value.slice fa k fc).ownBlock ≠ some b → W'.heap[b]? = W.heap[b]? := fun b hb hne => hg.block b hb (fun e => hne e.symm)
  have hlow : ∀ b, b < N → W'.heap[b]? = W.heap[b]? := fun b hb => hkeep b (by omega) (fun e => by have := hown b e; omega)
  refine ⟨h.bel.grown hg h.bel.size (fun g e => by have := hown g e; omega), h.n0, by omega, h.bx.of_block (hlow _ (by omega)), h.by'.of_block (hlow _ (by omega)), h.st.carry (fun b hb' => hlow b hb'.2) (fun _ h => h), ho, hk, fun i hi hu => ?_⟩
  have hlen := h.len
  have hsub : ∀ b, b < W.heap.size → (Value.slice fa k fc).ownBlock ≠ some b → (Value.slice fa' (k + 1) fc').ownBlock ≠ some b := fun b hb hne e => by
    rcases hn with hn | ⟨g, hn, hg2⟩
    · rw [hn] at e; exact hne e
    · rw [hn] at e
      have : g = b := by simpa using e
      omega
  by_cases hik : i < fvs.length
  · obtain ⟨h2, h3⟩ := h.gs i hik hu
    rw [List.getElem_append_left hik]
    exact ⟨hG _ _ _ _ _ _ h2 (fun b hb' => ⟨hb'.1, by have := hb'.2.1; omega, hsub b hb'.2.1 hb'.2.2⟩) (fun b hb' => hkeep b hb'.2.1 hb'.2.2), h3⟩
  · have hik2 : i = k := by
      rw [List.length_append, List.length_singleton] at hi
      omega
    subst hik2
    have e2 : (fvs ++ [fv])[i] = fv := by rw [List.getElem_append_right (by omega)]; simp [hlen]
    rw [e2]
    refine ⟨hG _ _ _ _ _ _ hfv.1 (fun b hb' => ?_) (fun b hb' => ?_), hfv.2⟩
    · obtain ⟨x1, x2, x3⟩ := hP b hb'
      exact ⟨x1, by omega, hsub b x2 x3⟩
    · obtain ⟨x1, x2, x3⟩ := hP b hb'
      exact hkeep b x2 x3
end
end Go.Proofs.YtenpghndgdemnaaGreatDoor
