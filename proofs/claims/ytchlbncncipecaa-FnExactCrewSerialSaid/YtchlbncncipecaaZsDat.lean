/- Numbers in memory. No program, no conditions. -/
import Derived.Test.YtchlbncncipecaaData
namespace Go.Proofs.Ytchlbncncipecaa
open Go Go.RowKit

/-- Numbers lie in memory. -/
def ZsAt (P : Nat → Prop) (w : World) (v : Value) (zs : List Int) : Prop :=
  ∃ a cap, v = .slice a zs.length cap ∧ zs.length ≤ 9223372036854775807 ∧ ∀ i, (h : i < zs.length) → ∃ b o, a = some ⟨b, o, none⟩ ∧ P b ∧ w.cell? ⟨b, o + i, none⟩ = some (.int .i64 zs[i]) ∧ I64 zs[i]
theorem ZsAt.carry {P Q : Nat → Prop} {w w' : World} {v : Value} {zs : List Int} (h : ZsAt P w v zs) (hP : ∀ b, P b → w'.heap[b]? = w.heap[b]?) (hQ : ∀ b, P b → Q b) : ZsAt Q w' v zs := by
  obtain ⟨a, cap, h1, h2, h3⟩ := h
  refine ⟨a, cap, h1, h2, fun i hi => ?_⟩
  obtain ⟨b, o, e, hb, hc, hz⟩ := h3 i hi
  exact ⟨b, o, e, hQ b hb, by rw [World.cell?_of_block (w := w) (hP b hb)]; exact hc, hz⟩
end Go.Proofs.Ytchlbncncipecaa
