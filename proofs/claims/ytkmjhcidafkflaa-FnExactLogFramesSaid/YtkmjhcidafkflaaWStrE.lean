/- The walk of the law's own eqStringS: two slices of the same strings are the same. No conditions. -/
import Derived.Test.YtkmjhcidafkflaaStrD
import Derived.Test.YtkmjhcidafkflaaRows
import Derived.Test.YtkmjhcidafkflaaData
import Derived.Deep.OwnRows
import Derived.Deep.RegionWith
namespace Go.Proofs.Ytkmjhcidafkflaa
open Go Go.RowKit

end Go.Proofs.Ytkmjhcidafkflaa
