/- The table kindWords, as it lies in memory. Definitions and small laws; no program walked, no conditions. -/
import Derived.Test.YtfjiannabnonjaaDoorData
import Derived.WalkKit
namespace Go.Proofs.YtfjiannabnonjaaDoor
open Go Go.RowKit

/-- The table holds its words. -/
def KTab (w : World) : Prop := w.cell? ⟨0, 1, none⟩ = some (.string ⟨#[110, 117, 109]⟩) ∧ w.cell? ⟨0, 2, none⟩ = some (.string ⟨#[116, 101, 120, 116]⟩) ∧ w.cell? ⟨0, 3, none⟩ = some (.string ⟨#[102, 108, 97, 103]⟩)
theorem KTab.lt {w : World} (h : KTab w) : 0 < w.heap.size := World.block_lt_of_cell? w _ h.1
theorem KTab.of_block {w w' : World} (h : KTab w) (e : w'.heap[0]? = w.heap[0]?) : KTab w' := by
  have c : ∀ i, w'.cell? ⟨0, i, none⟩ = w.cell? ⟨0, i, none⟩ := fun i => World.cell?_of_block (w := w) e
  exact ⟨by rw [c]; exact h.1, by rw [c]; exact h.2.1, by rw [c]; exact h.2.2⟩
theorem KTab.below {w w' : World} (h : KTab w) (hb : Below w.heap.size w w') : KTab w' := h.of_block (hb.block _ h.lt)
end Go.Proofs.YtfjiannabnonjaaDoor
