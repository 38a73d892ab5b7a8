/- The walks of the specification's l41Without, l41Made, l41After: names in new memory. Conditions: at most 3000 names. -/
import Derived.Test.YtmaojhacdelleaaDoorWDkS1
import Derived.Test.YtmaojhacdelleaaDoorRow
import Derived.Test.YtmaojhacdelleaaDoorKL3
import Derived.Test.YtmaojhacdelleaaDoorFirst
import Derived.Deep.AppendLies
namespace Go.Proofs.YtmaojhacdelleaaDoor
open Go Go.RowKit

theorem infoStrM : (Tryd.prog.info? 9).map (fun i => (i.zero, i.size, i.bytes)) = some (some (.string ByteArray.empty), 1, 16) := by kernel_rfl
theorem infoStrD : ∃ i, Tryd.prog.info? 9 = some i ∧ i.zero = some (.string ByteArray.empty) ∧ i.size = 1 ∧ i.bytes = 16 := by
  have := infoStrM
  cases h : Tryd.prog.info? 9 with
  | none => rw [h] at this; simp at this
  | some i => rw [h] at this; exact ⟨i, rfl, by simpa using this⟩
theorem below_grown {n : Nat} {w a b : World} {row : Option Nat} (hn : n ≤ a.heap.size) (h : Below n w a) (hg : a.grownBy b row) (hr : ∀ x, row = some x → n ≤ x) : Below n w b :=
  h.trans ⟨hg.os, hg.tape, hg.output, hg.size, fun k hk => hg.block k (Nat.lt_of_lt_of_le hk hn) (fun e => by have := hr k e.symm; omega)⟩
theorem strsAt_own {base : Nat} {w : World} {v : Value} {ss : List ByteArray} (h : w.ownsRow base 9 1 v ss.length (ss.map Value.string)) (hs : ∀ x, x ∈ ss → x.size ≤ 9223372036854775807) : StrsAt (fun b => base ≤ b ∧ b < w.heap.size) w v ss := by
  obtain ⟨F, hst, -, hF, -⟩ := strsOwn_of_row h hs
  exact hst.at.carry (fun _ _ => rfl) (fun x hx => hF x hx)

/-- Names without one. -/
def withoutB (ss : List ByteArray) (x : ByteArray) : List ByteArray := ss.filter fun y => !sameB y x
theorem without_take {ss : List ByteArray} {x : ByteArray} {k : Nat} (hk : k < ss.length) : withoutB (ss.take (k + 1)) x = withoutB (ss.take k) x ++ (if sameB ss[k] x then [] else [ss[k]]) := by
  unfold withoutB
  rw [List.take_succ_eq_append_getElem hk, List.filter_append]
  congr 1
  cases h : sameB ss[k] x <;> simp [h]

end Go.Proofs.YtmaojhacdelleaaDoor
