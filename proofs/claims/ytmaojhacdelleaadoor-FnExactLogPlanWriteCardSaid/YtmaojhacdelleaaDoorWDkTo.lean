/- The walks of the law's toDiskFile, toDiskFileS, toDiskMove, toDiskMoveS, toDisk: they make a new copy of a disk, and turn nothing that was there. No conditions but the disk's weight, at most 2^20. -/
import Derived.Test.YtmaojhacdelleaaDoorWStr
import Derived.Test.YtmaojhacdelleaaDoorWToK
import Derived.Test.YtmaojhacdelleaaDoorWToS
import Derived.Test.YtmaojhacdelleaaDoorDkDat
namespace Go.Proofs.YtmaojhacdelleaaDoor
open Go Go.RowKit

def zF : Array Value := #[.string ByteArray.empty, .string ByteArray.empty, .int .i64 0]
def zM : Array Value := #[.bool false, .string ByteArray.empty]
/-- What a loop has laid after k rounds: a row whose first k elements are as told. -/
def FLaid (w wr : World) (t n : Nat) (rs : List (List Value)) (k : Nat) : Prop :=
  ∃ f, wr.rowIs w.heap.size t (rs.length * n) f ∧ ∀ i, i < k → (h : i < rs.length) → ∀ j, j < n → f (i * n + j) = rs[i].getD j undef
theorem FLaid.start (w : World) (t n : Nat) (z : Array Value) (rs : List (List Value)) : FLaid w (w.alloc (.cells (madeCells z (rs.length * n)) t)) t n rs 0 := by
  have hrow := World.rowIs_alloc w (madeCells z (rs.length * n)) t (fun i => (madeCells z (rs.length * n))[i]?.getD undef) (fun i hi => by simp [hi])
  rw [size_madeCells] at hrow
  exact ⟨_, hrow, fun i hi => by omega⟩
theorem FLaid.step3 {w wr w' : World} {t : Nat} {rs : List (List Value)} {k : Nat} (hlt : k < rs.length) (hL : FLaid w wr t 3 rs k) (hb' : Below wr.heap.size wr w') (c0 c1 c2 : Value) (hr : rs[k] = [c0, c1, c2]) :
    FLaid w (((w'.setCell ⟨w.heap.size, k * 3, none⟩ c0).setCell ⟨w.heap.size, k * 3 + 1, none⟩ c1).setCell ⟨w.heap.size, k * 3 + 2, none⟩ c2) t 3 rs (k + 1) := by
  obtain ⟨f, hrow, hf⟩ := hL
  have hrow' := hrow.of_block (hb'.block _ hrow.lt)
  refine ⟨_, ((hrow'.set (k * 3) c0).set (k * 3 + 1) c1).set (k * 3 + 2) c2, fun i hi hil j hj => ?_⟩
  by_cases e : i = k
  · subst e
    rw [hr]
    rcases (show j = 0 ∨ j = 1 ∨ j = 2 by omega) with rfl | rfl | rfl <;> simp
  · rw [if_neg (by omega), if_neg (by omega), if_neg (by omega)]
    exact hf i (by omega) hil j hj
theorem FLaid.step2 {w wr w' : World} {t : Nat} {rs : List (List Value)} {k : Nat} (hlt : k < rs.length) (hL : FLaid w wr t 2 rs k) (hb' : Below wr.heap.size wr w') (c0 c1 : Value) (hr : rs[k] = [c0, c1]) :
    FLaid w ((w'.setCell ⟨w.heap.size, k * 2, none⟩ c0).setCell ⟨w.heap.size, k * 2 + 1, none⟩ c1) t 2 rs (k + 1) := by
  obtain ⟨f, hrow, hf⟩ := hL
  have hrow' := hrow.of_block (hb'.block _ hrow.lt)
  refine ⟨_, (hrow'.set (k * 2) c0).set (k * 2 + 1) c1, fun i hi hil j hj => ?_⟩
  by_cases e : i = k
  · subst e
    rw [hr]
    rcases (show j = 0 ∨ j = 1 by omega) with rfl | rfl <;> simp
  · rw [if_neg (by omega), if_neg (by omega)]
    exact hf i (by omega) hil j hj
theorem FLaid.done {w wr : World} {t n : Nat} {rs : List (List Value)} (hL : FLaid w wr t n rs rs.length) (hl : rs.length ≤ 1048576) : FlatAt (NewF w wr) wr (.slice (some ⟨w.heap.size, 0, none⟩) rs.length rs.length) n rs := by
  obtain ⟨f, hrow, hf⟩ := hL
  exact FlatAt.of_row hrow rfl (by omega) ⟨⟨Nat.le_refl _, hrow.lt⟩, hrow.frozen⟩ (fun i hi => hf i hi hi)

theorem drow_set0 {W : World} {g t : Nat} {x0 x1 x2 : Value} (h : W.rowIs g t 3 (row3 x0 x1 x2)) (u : Value) : (W.setCell ⟨g, 0, none⟩ u).rowIs g t 3 (row3 u x1 x2) :=
  (World.rowIs.set h 0 u).congr fun i hi => by
    match i, hi with
    | 0, _ => rfl
    | 1, _ => rfl
    | 2, _ => rfl
theorem drow_set1 {W : World} {g t : Nat} {x0 x1 x2 : Value} (h : W.rowIs g t 3 (row3 x0 x1 x2)) (u : Value) : (W.setCell ⟨g, 1, none⟩ u).rowIs g t 3 (row3 x0 u x2) :=
  (World.rowIs.set h 1 u).congr fun i hi => by
    match i, hi with
    | 0, _ => rfl
    | 1, _ => rfl
    | 2, _ => rfl
theorem drow_set2 {W : World} {g t : Nat} {x0 x1 x2 : Value} (h : W.rowIs g t 3 (row3 x0 x1 x2)) (u : Value) : (W.setCell ⟨g, 2, none⟩ u).rowIs g t 3 (row3 x0 x1 u) :=
  (World.rowIs.set h 2 u).congr fun i hi => by
    match i, hi with
    | 0, _ => rfl
    | 1, _ => rfl
    | 2, _ => rfl
end Go.Proofs.YtmaojhacdelleaaDoor
