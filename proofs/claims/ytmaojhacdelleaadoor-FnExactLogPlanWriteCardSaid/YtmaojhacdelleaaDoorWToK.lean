/- The walks of toKind, toKindS: they make a new copy of a schema, and turn nothing that was there. No conditions but the schema's weight, at most 2^20. -/
import Derived.Test.YtmaojhacdelleaaDoorWStr
import Derived.Test.YtmaojhacdelleaaDoorKData
namespace Go.Proofs.YtmaojhacdelleaaDoor
open Go Go.RowKit

/-- The three zero cells of a schema. -/
def z3 : Array Value := #[.int .i64 0, .slice none 0 0, .slice none 0 0]

theorem heap_set3 (w : World) (b o : Nat) (c0 c1 c2 : Value) (k : Nat) (h : k ≠ b) :
    (((w.setCell ⟨b, o, none⟩ c0).setCell ⟨b, o + 1, none⟩ c1).setCell ⟨b, o + 2, none⟩ c2).heap[k]? = w.heap[k]? := by
  rw [Below.heap_setCell _ _ _ _ h, Below.heap_setCell _ _ _ _ h, Below.heap_setCell _ _ _ _ h]

theorem heap_set4 (w : World) (b b2 : Nat) (v c0 c1 c2 : Value) (k : Nat) (h : k ≠ b) (h2 : k ≠ b2) :
    ((((w.setCell ⟨b2, 2, none⟩ v).setCell ⟨b, 0, none⟩ c0).setCell ⟨b, 1, none⟩ c1).setCell ⟨b, 2, none⟩ c2).heap[k]? = w.heap[k]? := by
  rw [Below.heap_setCell _ _ _ _ h, Below.heap_setCell _ _ _ _ h, Below.heap_setCell _ _ _ _ h, Below.heap_setCell _ _ _ _ h2]

end Go.Proofs.YtmaojhacdelleaaDoor
