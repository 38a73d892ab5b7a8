/- The walk of nameKind: of a schema and its kids with named kids it makes the schema with named kids. No conditions but the number of names, at most 2^20. -/
import Derived.Test.YtfjiannabnonjaaDoorNData
namespace Go.Proofs.YtfjiannabnonjaaDoor
open Go Go.RowKit Go.Maps

def row4 (c0 c1 c2 c3 : Value) : Nat → Value
  | 0 => c0
  | 1 => c1
  | 2 => c2
  | _ => c3
theorem row4_alloc (w : World) (c0 c1 c2 c3 : Value) (t : TypeId) : (w.alloc (.cells #[c0, c1, c2, c3] t)).rowIs w.heap.size t 4 (row4 c0 c1 c2 c3) :=
  World.rowIs_alloc w #[c0, c1, c2, c3] t _ (fun i hi => by
    have hi' : i < 4 := hi
    match i, hi' with
    | 0, _ => rfl
    | 1, _ => rfl
    | 2, _ => rfl
    | 3, _ => rfl)
theorem heap_set4n (w : World) (b : Nat) (c0 c1 c2 c3 : Value) (k : Nat) (h : k ≠ b) :
    ((((w.setCell ⟨b, 0, none⟩ c0).setCell ⟨b, 1, none⟩ c1).setCell ⟨b, 2, none⟩ c2).setCell ⟨b, 3, none⟩ c3).heap[k]? = w.heap[k]? := by
  rw [Below.heap_setCell _ _ _ _ h, Below.heap_setCell _ _ _ _ h, Below.heap_setCell _ _ _ _ h, Below.heap_setCell _ _ _ _ h]
theorem size_set4 (w : World) (b : Nat) (c0 c1 c2 c3 : Value) :
    ((((w.setCell ⟨b, 0, none⟩ c0).setCell ⟨b, 1, none⟩ c1).setCell ⟨b, 2, none⟩ c2).setCell ⟨b, 3, none⟩ c3).heap.size = w.heap.size := by simp [World.setCell]
theorem below_set4 {B : Nat} {a w : World} (h : Below B a w) (b : Nat) (c0 c1 c2 c3 : Value) (hb : B ≤ b) :
    Below B a ((((w.setCell ⟨b, 0, none⟩ c0).setCell ⟨b, 1, none⟩ c1).setCell ⟨b, 2, none⟩ c2).setCell ⟨b, 3, none⟩ c3) :=
  (((h.setCell hb _).setCell hb _).setCell hb _).setCell hb _

/-- Of old blocks those of which P holds, and all new ones. -/
def OrNew (P : Nat → Prop) (n : Nat) (w' : World) : Nat → Prop := fun b => P b ∨ (n ≤ b ∧ b < w'.heap.size)

set_option maxRecDepth 100000 in
set_option maxHeartbeats 800000 in
theorem nameKind_any (t : Kd) (P : Nat → Prop) (c : C3) (vK : Value) (w : World) (hP : ∀ b, P b → b < w.heap.size) (hrep : KRep P w t c) (hK : NKids P w vK t.kids) (hn : t.names.length ≤ 1048576) :
    Calls Tryd.prog 34 #[.agg #[c.c0, c.c1, c.c2], vK] w fun e w' => ∃ B, e = .returned (.agg #[c.c0, c.c1, .map (some B), vK]) ∧ NRep (OrNew P w.heap.size w') w' t ⟨c.c0, c.c1, .map (some B), vK⟩ ∧ Below w.heap.size w w' := by
  obtain ⟨c0, c1, c2⟩ := c
  obtain ⟨e0, hi0, hns, a, cap, e2, -, -⟩ := hrep.open
  simp only at e0 e2 hns
  have HNS := hide hns; have HK := hide hK
  obtain ⟨a3, cap3, e1, -, -⟩ := hns
  obtain ⟨a4, cap4, e4, -, -⟩ := hK
  subst e0 e1 e2 e4
  obtain ⟨W0, hW0⟩ : ∃ W0, ((w.alloc (.cells #[.int .i64 t.sort, .slice a3 t.names.length cap3, .slice a t.kids.length cap] 26)).alloc (.cells #[.int .i64 0, .slice none 0 0, .map none, .slice none 0 0] 67)) = W0 := ⟨_, rfl⟩
  have hb0 : Below w.heap.size w W0 := by rw [← hW0]; exact ((Below.refl _ _).alloc (Nat.le_refl _) _).alloc (by simp) _
  have hs0 : W0.heap.size = w.heap.size + 2 := by rw [← hW0]; simp
  have hrk : W0.rowIs w.heap.size 26 3 (row3 (.int .i64 t.sort) (.slice a3 t.names.length cap3) (.slice a t.kids.length cap)) := by rw [← hW0]; exact (row3_alloc w _ _ _ _).alloc _
  have hrn : W0.rowIs (w.heap.size + 1) 67 4 (row4 (.int .i64 0) (.slice none 0 0) (.map none) (.slice none 0 0)) := by
    rw [← hW0]
    have q := row4_alloc (w.alloc (.cells #[.int .i64 t.sort, .slice a3 t.names.length cap3, .slice a t.kids.length cap] 26)) (.int .i64 0) (.slice none 0 0) (.map none) (.slice none 0 0) 67
    rw [World.size_alloc] at q
    exact q
  have hcall := newNameOrder_any (.slice a3 t.names.length cap3) t.names W0.drew (P := P) (fun b hb => Nat.lt_of_lt_of_le (hP b hb) hb0.drew.size) ((unhide HNS).carry (w' := W0.drew) (fun b hb => hb0.drew.block b (hP b hb)) (fun _ h => h)) hn
  have k0 := hrk.cell (i := 0) (by omega); have k1 := hrk.cell (i := 1) (by omega)
  simp only [row3] at k0 k1
  have HCALL := hide hcall; have HRK := hide hrk; have HRN := hide hrn; have HB0 := hide hb0; have HP := hide hP; have HI0 := hide hi0
  clear hcall hrk hrn hb0 hP hi0 hrep
  go_enter Tryd.func34, Tryd.ntmps34
  go_wp2_with fail
  go_region_with (go_at_call 68; refine (unhide HCALL).mono ?_; rintro e w2 ⟨B, rfl, hm, hBl, hb2⟩; have hs2 : W0.heap.size ≤ w2.heap.size := hb2.size; have q0 := (unhide HRK).of_block (hb2.block w.heap.size (by show w.heap.size < W0.heap.size; omega)); have q1 := (unhide HRN).of_block (hb2.block (w.heap.size + 1) (by show _ < W0.heap.size; omega)); have k0' := q0.cell (i := 0) (by omega); have k1' := q0.cell (i := 1) (by omega); have z := q1.frozen; have y0 := q1.cell (i := 0) (by omega); have y1 := q1.cell (i := 1) (by omega); have y2 := q1.cell (i := 2) (by omega); have y3 := q1.cell (i := 3) (by omega); simp only [row3, row4] at k0' k1' y0 y1 y2 y3; have HM := hide hm; have HB2 := hide ((unhide HB0).drew.trans (hb2.mono (unhide HB0).size)); clear q0 q1 hm hb2)
  all_goals
    go_wp2_with fail
    have hBl' : w.heap.size + 2 ≤ B := by have h : W0.heap.size ≤ B := hBl; omega
    have hBlt := (unhide HM).lt
    have hbk : ∀ b, P b → ((((w2.setCell ⟨w.heap.size + 1, 0, none⟩ (.int .i64 t.sort)).setCell ⟨w.heap.size + 1, 1, none⟩ (.slice a3 t.names.length cap3)).setCell ⟨w.heap.size + 1, 2, none⟩ (.map (some B))).setCell ⟨w.heap.size + 1, 3, none⟩ (.slice a4 t.kids.length cap4)).heap[b]? = w.heap[b]? := fun b hb => by
      have := unhide HP b hb
      rw [heap_set4n _ _ _ _ _ _ _ (by omega)]; exact (unhide HB2).block b this
    refine bodyPost_ret (v := .agg #[.int .i64 t.sort, .slice a3 t.names.length cap3, .map (some B), .slice a4 t.kids.length cap4]) (by simp [results, Tryd.results34, go_sem, y0, y1, y2, y3]) rfl ⟨B, rfl, ?_, ?_⟩
    · refine NRep.make (unhide HI0) ((unhide HNS).carry hbk (fun b hb => Or.inl hb)) (Or.inr ⟨by omega, by rw [size_set4]; exact hBlt⟩) ((unhide HM).carry (heap_set4n _ _ _ _ _ _ _ (by omega))) ((unhide HK).carry hbk (fun b hb => Or.inl hb))
    · exact below_set4 (unhide HB2) _ _ _ _ _ (by omega)
end Go.Proofs.YtfjiannabnonjaaDoor
