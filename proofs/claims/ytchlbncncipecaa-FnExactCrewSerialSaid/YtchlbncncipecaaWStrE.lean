/- The walk of the law's own eqStringS: two slices of the same strings are the same. No conditions. -/
import Derived.Test.YtchlbncncipecaaStrD
import Derived.Test.YtchlbncncipecaaRows
import Derived.Test.YtchlbncncipecaaData
import Derived.Deep.OwnRows
import Derived.Deep.RegionWith
namespace Go.Proofs.Ytchlbncncipecaa
open Go Go.RowKit

end Go.Proofs.Ytchlbncncipecaa
