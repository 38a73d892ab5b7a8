/- The walks of the law's heldDiskFileS, heldDiskMoveS, heldDisk: of what was marked they tell the next mark, and turn nothing that was there. For marks up to 2^40. -/
import Derived.Test.YtkmjhcidafkflaaWMarkDo
import Derived.Test.YtkmjhcidafkflaaWHeldS
import Derived.Deep.RegionWith
namespace Go.Proofs.Ytkmjhcidafkflaa
open Go Go.RowKit

theorem markText_at (m : Nat) (w : World) (hm0 : 0 < m) (hm : m ≤ 1099511627776) (b o : Nat) (v : Value) (hc : w.cell? ⟨b, o, none⟩ = some v) :
    Calls Try.prog 27 #[.int .i64 (m : Int)] w.drew fun e w' => e = .returned (.string (mtx m)) ∧ Below w.heap.size w w' ∧ w'.cell? ⟨b, o, none⟩ = some v :=
  (markText_any m w.drew hm0 hm).mono fun e w' ⟨h1, h2⟩ => ⟨h1, (Below.refl _ w).drew.trans h2, by rw [h2.cell (p := ⟨b, o, none⟩) (World.block_lt_of_cell? w _ hc)]; exact hc⟩

end Go.Proofs.Ytkmjhcidafkflaa
