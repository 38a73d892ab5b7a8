/- The walks of the specification's l6Has, l41Find: what they answer; they turn nothing. No conditions. -/
import Derived.Test.YtmaojhacdelleaaDoorWStr
import Derived.Test.YtmaojhacdelleaaDoorDkDat
import Derived.BigQuiet
namespace Go.Proofs.YtmaojhacdelleaaDoor
open Go Go.RowKit

/-- Two texts are the same. -/
def sameB (y x : ByteArray) : Bool := y.toList == x.toList
def hasB (ss : List ByteArray) (x : ByteArray) : Bool := ss.any fun y => sameB y x
theorem hasB_yes {ss : List ByteArray} {x : ByteArray} (k : Nat) (hk : k < ss.length) (h : sameB ss[k] x = true) : hasB ss x = true := by
  unfold hasB; rw [List.any_eq_true]; exact ⟨ss[k], List.getElem_mem hk, h⟩
theorem hasB_no {ss : List ByteArray} {x : ByteArray} (h : ∀ j, (hj : j < ss.length) → sameB ss[j] x = false) : hasB ss x = false := by
  unfold hasB
  rw [List.any_eq_false]
  intro y hy
  obtain ⟨j, hj, rfl⟩ := List.getElem_of_mem hy
  rw [h j hj]; decide

/-- The place of a file. -/
def findF (fs : List Df) (x : ByteArray) : Int := match fs.findIdx? (fun f => sameB f.name x) with | some i => i | none => -1
theorem findF_yes {fs : List Df} {x : ByteArray} (k : Nat) (hk : k < fs.length) (h : sameB fs[k].name x = true) (hno : ∀ j, j < k → (hj : j < fs.length) → sameB fs[j].name x = false) : findF fs x = k := by
  unfold findF
  have : fs.findIdx? (fun f => sameB f.name x) = some k := by
    rw [List.findIdx?_eq_some_iff_getElem]
    exact ⟨hk, h, fun j hj => by rw [hno j hj (by omega)]; decide⟩
  rw [this]
theorem findF_no {fs : List Df} {x : ByteArray} (hno : ∀ j, (hj : j < fs.length) → sameB fs[j].name x = false) : findF fs x = -1 := by
  unfold findF
  have : fs.findIdx? (fun f => sameB f.name x) = none := by
    rw [List.findIdx?_eq_none_iff]
    intro f hf
    obtain ⟨j, hj, rfl⟩ := List.getElem_of_mem hf
    exact hno j hj
  rw [this]

end Go.Proofs.YtmaojhacdelleaaDoor
