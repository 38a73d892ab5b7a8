/- The walk of the law's own eqStringS: two slices of the same strings are the same. No conditions. -/
import Derived.Test.YtmaojhacdelleaaDoorStrD
import Derived.Test.YtmaojhacdelleaaDoorRows
import Derived.Test.YtmaojhacdelleaaDoorData
import Derived.Deep.OwnRows
import Derived.Deep.RegionWith
namespace Go.Proofs.YtmaojhacdelleaaDoor
open Go Go.RowKit

end Go.Proofs.YtmaojhacdelleaaDoor
