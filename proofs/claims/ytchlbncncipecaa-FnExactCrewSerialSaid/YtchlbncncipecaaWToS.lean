/- The walk of toStringS once more: the copy lies in new blocks of which nothing is frozen. No conditions but the number of strings, at most 2^20. -/
import Derived.Test.YtchlbncncipecaaWStr
import Derived.Test.YtchlbncncipecaaOwn
namespace Go.Proofs.Ytchlbncncipecaa
open Go Go.RowKit

/-- In blocks that are new between two worlds, and of which nothing is frozen. -/
def NewF (w w' : World) : Nat → Prop := fun b => New w w' b ∧ FreeB w' b

end Go.Proofs.Ytchlbncncipecaa
