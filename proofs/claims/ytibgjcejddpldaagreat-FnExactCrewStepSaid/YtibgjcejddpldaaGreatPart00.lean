/- What a tree is as plain data, its weight, and how it lies in memory: definitions and small laws, no program. No conditions. -/
import Derived.WalkKit
import Derived.Deep.OwnRows
import Derived.Test.YtibgjcejddpldaaGreatRows
import Derived.Lib.ItoaNum
import Derived.Lib.ItoaLen
import Derived.Lib.ItoaMem
import Derived.Deep.RegionWith
import Derived.WalkSmall
import Derived.Handy
import Derived.BigRegion
import Derived.Deep.CutRange
import Derived.Deep.MidRow
import Derived.Maps.OwnSet
import Derived.Maps.OwnOps
import Derived.Maps.Views
import Derived.Deep.Draws
import Derived.Deep.RegionLaw
import Derived.Deep.AppendLies
namespace Go.Proofs.YtibgjcejddpldaaGreat
open Go Go.RowKit

/-- A tree as plain data. -/
inductive Tr where
  | mk (sort num : Int) (text : ByteArray) (names : List ByteArray) (kids : List Tr)

namespace Tr
end Tr




end Go.Proofs.YtibgjcejddpldaaGreat

/- Digits as bytes and strings; small laws. No program walked, no conditions. -/

namespace Go.Proofs.YtibgjcejddpldaaGreat
open Go Go.RowKit

end Go.Proofs.YtibgjcejddpldaaGreat

/- Worlds of which but one block is as it was; append onto a row of the call's own. No program walked, no conditions. -/

namespace Go.Proofs.YtibgjcejddpldaaGreat
open Go Go.RowKit

end Go.Proofs.YtibgjcejddpldaaGreat

/- Records as bytes: what LogFrame gives, and the walks of both sides' functions. No conditions but that a string's length is one. -/

namespace Go.Proofs.YtibgjcejddpldaaGreat
open Go Go.RowKit

end Go.Proofs.YtibgjcejddpldaaGreat

/- Numbers in memory. No program, no conditions. -/

namespace Go.Proofs.YtibgjcejddpldaaGreat
open Go Go.RowKit

end Go.Proofs.YtibgjcejddpldaaGreat

/- Small laws of lists of strings, of a cell that is set. No program walked but one fact of its types; no conditions. -/

namespace Go.Proofs.YtibgjcejddpldaaGreat
open Go Go.RowKit

end Go.Proofs.YtibgjcejddpldaaGreat

/- What a schema is as plain data, its weight, and how it lies in memory: definitions and small laws, no program. No conditions. -/

namespace Go.Proofs.YtibgjcejddpldaaGreat
open Go Go.RowKit

/-- A schema as plain data. -/
inductive Kd where
  | mk (sort : Int) (names : List ByteArray) (kids : List Kd)

namespace Kd
end Kd




end Go.Proofs.YtibgjcejddpldaaGreat

/- Trees that own their memory: what blocks they lie in, each named once; what marking them makes of them. Definitions and small laws, no program. No conditions. -/

namespace Go.Proofs.YtibgjcejddpldaaGreat
open Go Go.RowKit




end Go.Proofs.YtibgjcejddpldaaGreat

/- The shape of a schema in memory: of what kind its cells are, whatever they hold; worlds whose cells are of the same kinds. Definitions and small laws, no program. No conditions. -/

namespace Go.Proofs.YtibgjcejddpldaaGreat
open Go Go.RowKit




end Go.Proofs.YtibgjcejddpldaaGreat

/- The walks of the law's own toIntS, eqIntS, markIntS. No conditions but toIntS's on how many, and that the marks count to at most 2^40. -/

namespace Go.Proofs.YtibgjcejddpldaaGreat
open Go Go.RowKit

end Go.Proofs.YtibgjcejddpldaaGreat

/- What a disk is as plain data, its weight, and how it lies in memory: definitions and small laws, no program. No conditions. -/

namespace Go.Proofs.YtibgjcejddpldaaGreat
open Go Go.RowKit

end Go.Proofs.YtibgjcejddpldaaGreat

/- The first tree of a schema, as plain data; trees gathered in a row of the call's own. Definitions and small laws; no program walked, no conditions. -/

namespace Go.Proofs.YtibgjcejddpldaaGreat
open Go Go.RowKit

end Go.Proofs.YtibgjcejddpldaaGreat

/- Disks that own their memory: definitions and small laws, no program. No conditions. -/

namespace Go.Proofs.YtibgjcejddpldaaGreat
open Go Go.RowKit

end Go.Proofs.YtibgjcejddpldaaGreat

/- A crew's world as plain data, and how it lies in memory. No program, no conditions. -/

namespace Go.Proofs.YtibgjcejddpldaaGreat
open Go Go.RowKit

structure Hd where
  (state job : Int)
instance : Inhabited Hd := ⟨⟨0, 0⟩⟩
/-- A world. -/
structure Cw where
  (jobs workers window next reader : Int) (queue : List Int) (hands : List Hd) (closer : Int) (results : List Int) (keeper : Int) (ring : List Int) (due : Int) (out : List Int) (user : Int) (got : List Int) (room : Int) (shut : List Int) (ops : Int)
end Go.Proofs.YtibgjcejddpldaaGreat

/- The walks of markText and markStringS: the text of a mark; strings that own their memory are marked in place, and nothing else turns. For marks up to 2^40. -/

namespace Go.Proofs.YtibgjcejddpldaaGreat
open Go Go.RowKit

end Go.Proofs.YtibgjcejddpldaaGreat

/- The walk of markStringS over a shape: it ends, and turns cells of the shape's own blocks alone, each into one of its kind. The marks count to at most 2^40. -/

namespace Go.Proofs.YtibgjcejddpldaaGreat
open Go Go.RowKit

end Go.Proofs.YtibgjcejddpldaaGreat

/- The walks of the law's markDiskFileS, markDiskMoveS, markDisk over a shape: they end, and turn cells of the shape's own blocks alone, each into one of its kind. The marks count to at most 2^40. -/

namespace Go.Proofs.YtibgjcejddpldaaGreat
open Go Go.RowKit

end Go.Proofs.YtibgjcejddpldaaGreat

/- The walks of the law's markDiskFileS, markDiskMoveS, markDisk over a disk that owns its memory: what is marked then, and that nothing else turns. The marks count to at most 2^40. -/

namespace Go.Proofs.YtibgjcejddpldaaGreat
open Go Go.RowKit

end Go.Proofs.YtibgjcejddpldaaGreat

/- The walks of the law's own eqIntS, eqCrewHandS, markIntS, markCrewHandS, heldIntS, heldCrewHandS. The marks count to at most 2^40. -/

namespace Go.Proofs.YtibgjcejddpldaaGreat
open Go Go.RowKit

end Go.Proofs.YtibgjcejddpldaaGreat

/- The walks of the law's own heldIntS, markCrewHandS, heldCrewHandS, eqCrewWorld, markCrewWorld, heldCrewWorld. The marks count to at most 2^40. -/

namespace Go.Proofs.YtibgjcejddpldaaGreat
open Go Go.RowKit

end Go.Proofs.YtibgjcejddpldaaGreat

/- The walks of the law's own eqCrewWorld, markCrewWorld, heldCrewWorld. The marks count to at most 2^40. -/

namespace Go.Proofs.YtibgjcejddpldaaGreat
open Go Go.RowKit

end Go.Proofs.YtibgjcejddpldaaGreat

/- The walks of the law's own markCrewWorld, heldCrewWorld over a world that owns its memory. The marks count to at most 2^40. -/

namespace Go.Proofs.YtibgjcejddpldaaGreat
open Go Go.RowKit

end Go.Proofs.YtibgjcejddpldaaGreat

/- The walks of the program's sizesOk, newCrewRing, and all of an empty ring. No conditions. -/

namespace Go.Proofs.YtibgjcejddpldaaGreat
open Go Go.RowKit

end Go.Proofs.YtibgjcejddpldaaGreat

/- The walks of the program's newCrewRing, put, fill at places. No conditions. -/

namespace Go.Proofs.YtibgjcejddpldaaGreat
open Go Go.RowKit

end Go.Proofs.YtibgjcejddpldaaGreat

/- The walks of the program's put, fill at places. No conditions. -/

namespace Go.Proofs.YtibgjcejddpldaaGreat
open Go Go.RowKit

end Go.Proofs.YtibgjcejddpldaaGreat

/- The walk of the specification's CrewStart: a world of its own. No conditions. -/

namespace Go.Proofs.YtibgjcejddpldaaGreat
open Go Go.RowKit

/-- Whether a crew may begin so, and the world then. -/
def stOk (j k n : Int) : Prop := (0 ≤ j ∧ j ≤ 60) ∧ (1 ≤ k ∧ k ≤ 8) ∧ (1 ≤ n ∧ n ≤ 16)
instance (j k n : Int) : Decidable (stOk j k n) := by unfold stOk; infer_instance
end Go.Proofs.YtibgjcejddpldaaGreat

/- The walk of the law's own eqStringS: two slices of the same strings are the same. No conditions. -/

namespace Go.Proofs.YtibgjcejddpldaaGreat
open Go Go.RowKit

end Go.Proofs.YtibgjcejddpldaaGreat

/- The walks of szStringS, toStringS, eqStringS: what they answer, and that they turn nothing that was there. No conditions but toStringS's on the number of strings. -/

namespace Go.Proofs.YtibgjcejddpldaaGreat
open Go Go.RowKit

end Go.Proofs.YtibgjcejddpldaaGreat

/- The walk of toStringS once more: the copy lies in new blocks of which nothing is frozen. No conditions but the number of strings, at most 2^20. -/

namespace Go.Proofs.YtibgjcejddpldaaGreat
open Go Go.RowKit

end Go.Proofs.YtibgjcejddpldaaGreat

/- Jobs as plain data, how they lie in memory, and what they tell. No program, no conditions. -/

namespace Go.Proofs.YtibgjcejddpldaaGreat
open Go Go.RowKit

end Go.Proofs.YtibgjcejddpldaaGreat

/- Names with the places at which they stand, in a map of the call's own. No conditions. -/

namespace Go.Proofs.YtibgjcejddpldaaGreat
open Go Go.RowKit Go.WideMaps Go.Maps

end Go.Proofs.YtibgjcejddpldaaGreat

/- The walks of the law's own functions on jobs: szCrewJobS, toCrewJobS, eqCrewJobS. No conditions but the weight, at most 2^20. -/

namespace Go.Proofs.YtibgjcejddpldaaGreat
open Go Go.RowKit

end Go.Proofs.YtibgjcejddpldaaGreat

/- The walks of the law's own functions on jobs that are bad: eqCrewDeadS, heldCrewDeadS, markCrewDeadS. The marks count to at most 2^40. -/

namespace Go.Proofs.YtibgjcejddpldaaGreat
open Go Go.RowKit

end Go.Proofs.YtibgjcejddpldaaGreat

/- The walks of the law's own functions on jobs: toCrewJobS, eqCrewJobS, markCrewJobS; on what is told: eqCrewTold, markCrewTold, heldCrewTold. No conditions but the weight, at most 2^20; the marks count to at most 2^40. -/

namespace Go.Proofs.YtibgjcejddpldaaGreat
open Go Go.RowKit

end Go.Proofs.YtibgjcejddpldaaGreat

/- The walks of the law's own functions on what is told: eqCrewTold, markCrewTold, heldCrewTold. The marks count to at most 2^40. -/

namespace Go.Proofs.YtibgjcejddpldaaGreat
open Go Go.RowKit

end Go.Proofs.YtibgjcejddpldaaGreat

/- What is told while it grows: its box and its two lists. Definitions and small laws. No conditions. -/

namespace Go.Proofs.YtibgjcejddpldaaGreat
open Go Go.RowKit

end Go.Proofs.YtibgjcejddpldaaGreat

/- The walk of the specification's CrewStart, where a crew may begin. No conditions. -/

namespace Go.Proofs.YtibgjcejddpldaaGreat
open Go Go.RowKit

end Go.Proofs.YtibgjcejddpldaaGreat

/- A crew under way as it lies in memory: its box, its hands, its ring, its channels. Definitions and small laws. No conditions. -/

namespace Go.Proofs.YtibgjcejddpldaaGreat
open Go Go.RowKit

end Go.Proofs.YtibgjcejddpldaaGreat

/- The walks of the program's all, put, fill at numbers. No conditions. -/

namespace Go.Proofs.YtibgjcejddpldaaGreat
open Go Go.RowKit

end Go.Proofs.YtibgjcejddpldaaGreat

/- Schemas that own their memory: what blocks they lie in, each named once; schemas gathered in a row of the call's own. Definitions and small laws; no program walked, no conditions. -/

namespace Go.Proofs.YtibgjcejddpldaaGreat
open Go Go.RowKit




end Go.Proofs.YtibgjcejddpldaaGreat

/- Rows of schemas that share their memory: what is read of kids, laid in a new row, one kid put in another's place. No program walked; no conditions. -/

namespace Go.Proofs.YtibgjcejddpldaaGreat
open Go Go.RowKit

end Go.Proofs.YtibgjcejddpldaaGreat

/- append of a whole list onto an empty one; the cells of a list of names, to be copied. No program, no conditions. -/

namespace Go.Proofs.YtibgjcejddpldaaGreat
open Go Go.RowKit

end Go.Proofs.YtibgjcejddpldaaGreat
