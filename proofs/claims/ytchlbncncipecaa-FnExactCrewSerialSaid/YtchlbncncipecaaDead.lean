/- A law for a callee that raises a fault in a region that draws its order. No program, no conditions. -/
import Derived.Test.YtchlbncncipecaaData
import Derived.Deep.RegionLaw
namespace Go.Proofs.Ytchlbncncipecaa
open Go Go.RowKit

/-- Where a call raises a fault, what follows it is never met. -/
theorem dead_end {G : Prop} {S K : Act → World → Prop} (_ : ∀ a w, S a w → K a w) (a : Act) (w : World) (h : G) (_ : Hid False → K a w) : G := h

end Go.Proofs.Ytchlbncncipecaa
