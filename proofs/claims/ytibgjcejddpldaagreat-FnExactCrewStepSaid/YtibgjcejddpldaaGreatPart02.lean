/- The walks of the library's slices.Clone at numbers and at hands. Conditions: at most 2^20 elements. -/
import Derived.Test.YtibgjcejddpldaaGreatPart00
import Derived.Test.YtibgjcejddpldaaGreatPart01
import Derived.Handy
import Derived.Deep.MidRow
import Derived.Deep.CutRange
import Derived.Deep.RegionWith
import Derived.BigQuiet
import Derived.BigRegion
import Derived.Test.YtibgjcejddpldaaGreatRows
import Derived.OrdersHeld
import Derived.WalkKit
import Derived.Laws.CopyOwn
import Derived.Deep.RegionHeld3
import Derived.RangeFuncNested
import Derived.RangeFuncBound
import Derived.RangeFuncCalls
import Derived.RangeFuncLeaves
import Derived.RangeFuncFrom
import Derived.Shelf.Abstract
import Derived.Shelf.RegionOpen
import Derived.OwnWalkIn
import Derived.TacticsInMore
import Derived.LoopNIn
import Derived.LoopIn
import Derived.Sort.CutIn
import Derived.Laws.EntriesVeiled
import Derived.Laws.StructEq
import Derived.Scope
import Derived.ProofKit
import Derived.OpenShut
import Derived.Deep.Fields
import Derived.Deep.Slices
namespace Go.Proofs.YtibgjcejddpldaaGreat
open Go Go.RowKit

end Go.Proofs.YtibgjcejddpldaaGreat

/- The walk of the program's newCrew, where a crew may begin. No conditions. -/

namespace Go.Proofs.YtibgjcejddpldaaGreat
open Go Go.RowKit

end Go.Proofs.YtibgjcejddpldaaGreat

/- A crew while it is shown: the lists that have been copied already. Definitions and small laws; the calls by which they are copied. No conditions. -/

namespace Go.Proofs.YtibgjcejddpldaaGreat
open Go Go.RowKit

end Go.Proofs.YtibgjcejddpldaaGreat

/- A world in memory of its own, and the box that it lies in; the law's own functions on it. No conditions. -/

namespace Go.Proofs.YtibgjcejddpldaaGreat
open Go Go.RowKit

end Go.Proofs.YtibgjcejddpldaaGreat

/- A world that is handed to a function: its box, its lists in whatever memory. Definitions and small laws. No conditions. -/

namespace Go.Proofs.YtibgjcejddpldaaGreat
open Go Go.RowKit

end Go.Proofs.YtibgjcejddpldaaGreat

/- The walks of toKind, toKindS: they make a new copy of a schema, and turn nothing that was there. No conditions but the schema's weight, at most 2^20. -/

namespace Go.Proofs.YtibgjcejddpldaaGreat
open Go Go.RowKit

end Go.Proofs.YtibgjcejddpldaaGreat

/- The walks of the law's toDiskFile, toDiskFileS, toDiskMove, toDiskMoveS, toDisk: they make a new copy of a disk, and turn nothing that was there. No conditions but the disk's weight, at most 2^20. -/

namespace Go.Proofs.YtibgjcejddpldaaGreat
open Go Go.RowKit

end Go.Proofs.YtibgjcejddpldaaGreat

/- When a crew's world is ok, as plain data: the specification's way. Definitions. No program, no conditions. -/

namespace Go.Proofs.YtibgjcejddpldaaGreat
open Go Go.RowKit

def allE (hs : List Hd) : Bool := hs.all (fun h => h.state == 3)
def busyH (h : Hd) : Bool := h.state == 1 || h.state == 2
def handOk (h : Hd) : Prop := (0 ≤ h.state ∧ h.state ≤ 3) ∧ (busyH h = false → h.job = 0)
end Go.Proofs.YtibgjcejddpldaaGreat

/- append of a whole list, which may be empty, onto a row of the call's own; a world that is handed in while such a row grows. No program walked, no conditions. -/

namespace Go.Proofs.YtibgjcejddpldaaGreat
open Go Go.RowKit

end Go.Proofs.YtibgjcejddpldaaGreat

/- The walk of the specification's l51Places. Condition: the world's parts are within their bounds. -/

namespace Go.Proofs.YtibgjcejddpldaaGreat
open Go Go.RowKit

end Go.Proofs.YtibgjcejddpldaaGreat

/- The walk of the specification's l51Jobs. Condition: the world's parts are within their bounds. -/

namespace Go.Proofs.YtibgjcejddpldaaGreat
open Go Go.RowKit

def jN (c : Cw) (l : List Int) : Prop := c.shut.getD 3 0 = 0 → (l.length : Int) = c.next - c.due
instance (c : Cw) (l : List Int) : Decidable (jN c l) := by unfold jN; infer_instance
end Go.Proofs.YtibgjcejddpldaaGreat

/- The walks of the specification's l51All, l51Any, l51Due. No conditions. -/

namespace Go.Proofs.YtibgjcejddpldaaGreat
open Go Go.RowKit

end Go.Proofs.YtibgjcejddpldaaGreat

/- The walk of the specification's l51Ends. Condition: the world's parts are within their bounds. -/

namespace Go.Proofs.YtibgjcejddpldaaGreat
open Go Go.RowKit

def shZ (c : Cw) (i : Nat) : Int := c.shut.getD i 0
def stpB (c : Cw) : Bool := decide (shZ c 3 = 1)
end Go.Proofs.YtibgjcejddpldaaGreat

/- The walk of the specification's l51Form. No conditions. -/

namespace Go.Proofs.YtibgjcejddpldaaGreat
open Go Go.RowKit

def f2 (c : Cw) : Prop := stOk c.jobs c.workers c.window ∧ (0 ≤ c.next ∧ c.next ≤ c.jobs) ∧ (0 ≤ c.due ∧ c.due ≤ c.next) ∧ (0 ≤ c.room ∧ c.room ≤ c.window) ∧ (0 ≤ c.ops ∧ c.ops ≤ 10000)
instance (c : Cw) : Decidable (f2 c) := by unfold f2; infer_instance
def f4 (c : Cw) : Prop := (c.hands.length : Int) = c.workers ∧ (c.ring.length : Int) = c.window ∧ c.shut.length = 4 ∧ (c.queue.length : Int) ≤ c.workers ∧ (c.results.length : Int) ≤ c.workers ∧ c.out.length ≤ 1 ∧ (c.got.length : Int) ≤ c.jobs
instance (c : Cw) : Decidable (f4 c) := by unfold f4; infer_instance
def fE (c : Cw) : Prop := (0 ≤ c.reader ∧ c.reader ≤ 3) ∧ (0 ≤ c.closer ∧ c.closer ≤ 1) ∧ (0 ≤ c.keeper ∧ c.keeper ≤ 5) ∧ (0 ≤ c.user ∧ c.user ≤ 1)
instance (c : Cw) : Decidable (fE c) := by unfold fE; infer_instance
instance (h : Hd) : Decidable (handOk h) := by unfold handOk; infer_instance
/-- The specification's form: the bounds, and no more given than there are jobs. -/
def formS (c : Cw) : Prop := f2 c ∧ f4 c ∧ (∀ z ∈ c.shut, 0 ≤ z ∧ z ≤ 1) ∧ (∀ h ∈ c.hands, handOk h) ∧ fE c
instance (c : Cw) : Decidable (formS c) := by unfold formS; infer_instance
end Go.Proofs.YtibgjcejddpldaaGreat

/- When a crew is ok, as plain data: the program's way, and that it is the specification's. No program, no conditions. -/

namespace Go.Proofs.YtibgjcejddpldaaGreat
open Go Go.RowKit

end Go.Proofs.YtibgjcejddpldaaGreat

/- Great regions that draw their order, operation by operation, each side condition by one look of the kernel's: no program. No conditions. -/

namespace Go.Proofs.YtibgjcejddpldaaGreat
open Go Go.RowKit

end Go.Proofs.YtibgjcejddpldaaGreat

/- A crew's cells, one by one; loads of one cell. No conditions. -/

namespace Go.Proofs.YtibgjcejddpldaaGreat
open Go Go.RowKit

end Go.Proofs.YtibgjcejddpldaaGreat

/- The walks of the program's small functions on crews: hasJob, leftOf.., isShut, isEmpty, isStopped, allHold, workersEnded, aWorkerEnded, dueInRing, keeperOk. No conditions but that the crew is there. -/

namespace Go.Proofs.YtibgjcejddpldaaGreat
open Go Go.RowKit

end Go.Proofs.YtibgjcejddpldaaGreat

/- A crew that is still as it was, while other memory grows. No program. No conditions. -/

namespace Go.Proofs.YtibgjcejddpldaaGreat
open Go Go.RowKit

end Go.Proofs.YtibgjcejddpldaaGreat

/- An operation of a region that draws its order, by a law that was made for plain regions: no program. No conditions. -/

namespace Go.Proofs.YtibgjcejddpldaaGreat
open Go Go.RowKit

end Go.Proofs.YtibgjcejddpldaaGreat

/- copy onto a whole row of the call's own, the elements being of several cells. No program walked, no conditions. -/

namespace Go.Proofs.YtibgjcejddpldaaGreat
open Go Go.RowKit

end Go.Proofs.YtibgjcejddpldaaGreat

/- A crew that is made to be as a world says: its parts set one by one. No program walked. No conditions. -/

namespace Go.Proofs.YtibgjcejddpldaaGreat
open Go Go.RowKit

end Go.Proofs.YtibgjcejddpldaaGreat

/- A crew while it is made of a world: what stands ahead of each region of crewOf; loads, stores, copies. Conditions: none. -/

namespace Go.Proofs.YtibgjcejddpldaaGreat
open Go Go.RowKit

end Go.Proofs.YtibgjcejddpldaaGreat

/- The walks of the law's own functions on a world that comes in: szCrewWorld, toCrewWorld. Conditions: the weight, at most 2^20. -/

namespace Go.Proofs.YtibgjcejddpldaaGreat
open Go Go.RowKit

end Go.Proofs.YtibgjcejddpldaaGreat

/- The walk of the law's own toCrewWorld. Conditions: the weight, at most 2^20. -/

namespace Go.Proofs.YtibgjcejddpldaaGreat
open Go Go.RowKit

end Go.Proofs.YtibgjcejddpldaaGreat

/- A world in a box, whoever laid it. No program walked. No conditions. -/

namespace Go.Proofs.YtibgjcejddpldaaGreat
open Go Go.RowKit

end Go.Proofs.YtibgjcejddpldaaGreat

/- A world at the moment at which the user stops: data. No program. No conditions. -/

namespace Go.Proofs.YtibgjcejddpldaaGreat
open Go Go.RowKit

end Go.Proofs.YtibgjcejddpldaaGreat

/- The regions of the program's crewOf that draw their order. Conditions: the crew is there, and of the world's sizes. -/

namespace Go.Proofs.YtibgjcejddpldaaGreat
open Go Go.RowKit

end Go.Proofs.YtibgjcejddpldaaGreat

/- The walks of the program's statesOk and of allHold at numbers. No conditions. -/

namespace Go.Proofs.YtibgjcejddpldaaGreat
open Go Go.RowKit

end Go.Proofs.YtibgjcejddpldaaGreat

/- Great plain regions, operation by operation, each side condition by one look of the kernel's: no program. No conditions. -/

namespace Go.Proofs.YtibgjcejddpldaaGreat
open Go Go.RowKit

end Go.Proofs.YtibgjcejddpldaaGreat

/- The walk of the program's worldInBounds. No conditions. -/

namespace Go.Proofs.YtibgjcejddpldaaGreat
open Go Go.RowKit

end Go.Proofs.YtibgjcejddpldaaGreat

/- The walks of the program's dueInRing, keeperOk, closedOk, endsOk. Conditions: the crew is there, its numbers are within their bounds. -/

namespace Go.Proofs.YtibgjcejddpldaaGreat
open Go Go.RowKit

end Go.Proofs.YtibgjcejddpldaaGreat

/- The walk of the program's endsOk. Conditions: the crew is there. -/

namespace Go.Proofs.YtibgjcejddpldaaGreat
open Go Go.RowKit

end Go.Proofs.YtibgjcejddpldaaGreat

/- The walk of the program's left. Conditions: the crew is there, its numbers are within their bounds. -/

namespace Go.Proofs.YtibgjcejddpldaaGreat
open Go Go.RowKit

end Go.Proofs.YtibgjcejddpldaaGreat

/- The walk of the program's underWay. Conditions: the crew is there, its numbers are within their bounds. -/

namespace Go.Proofs.YtibgjcejddpldaaGreat
open Go Go.RowKit

end Go.Proofs.YtibgjcejddpldaaGreat

/- The walk of the program's jobsOk. Conditions: the crew is there, its numbers are within their bounds. -/

namespace Go.Proofs.YtibgjcejddpldaaGreat
open Go Go.RowKit

end Go.Proofs.YtibgjcejddpldaaGreat

/- The walk of the program's givenOk. Conditions: the crew is there, its numbers are within their bounds. -/

namespace Go.Proofs.YtibgjcejddpldaaGreat
open Go Go.RowKit

end Go.Proofs.YtibgjcejddpldaaGreat

/- The walk of the program's ok. Conditions: the crew is there, its numbers are within their bounds. -/

namespace Go.Proofs.YtibgjcejddpldaaGreat
open Go Go.RowKit

end Go.Proofs.YtibgjcejddpldaaGreat

/- The walk of the program's crewOf. No conditions. -/

namespace Go.Proofs.YtibgjcejddpldaaGreat
open Go Go.RowKit

end Go.Proofs.YtibgjcejddpldaaGreat

/- The walk of the program's world: its one great region. No conditions. -/

namespace Go.Proofs.YtibgjcejddpldaaGreat
open Go Go.RowKit

end Go.Proofs.YtibgjcejddpldaaGreat

/- The walks of the program's world and CrewStart. No conditions. -/

namespace Go.Proofs.YtibgjcejddpldaaGreat
open Go Go.RowKit

end Go.Proofs.YtibgjcejddpldaaGreat

/- The walk of the program's CrewCancel. No conditions. -/

namespace Go.Proofs.YtibgjcejddpldaaGreat
open Go Go.RowKit

end Go.Proofs.YtibgjcejddpldaaGreat

/- Two boxes; small worlds. No conditions. -/

namespace Go.Proofs.YtibgjcejddpldaaGreat
open Go Go.RowKit

end Go.Proofs.YtibgjcejddpldaaGreat

/- The walk of the program's CrewCancel, whole. No conditions. -/

namespace Go.Proofs.YtibgjcejddpldaaGreat
open Go Go.RowKit

end Go.Proofs.YtibgjcejddpldaaGreat

/- The walk of the specification's l51Left. Condition: the world's parts are within their bounds. -/

namespace Go.Proofs.YtibgjcejddpldaaGreat
open Go Go.RowKit

end Go.Proofs.YtibgjcejddpldaaGreat

/- The walks of the specification's CrewOk, CrewLeft, CrewEnded. No conditions. -/

namespace Go.Proofs.YtibgjcejddpldaaGreat
open Go Go.RowKit

end Go.Proofs.YtibgjcejddpldaaGreat

/- The walk of the specification's l52Copy: a world anew, its lists in blocks of their own. Conditions: the weight, at most 2^20. -/

namespace Go.Proofs.YtibgjcejddpldaaGreat
open Go Go.RowKit

end Go.Proofs.YtibgjcejddpldaaGreat

/- The walk of the specification's CrewCancel. No conditions. -/

namespace Go.Proofs.YtibgjcejddpldaaGreat
open Go Go.RowKit

end Go.Proofs.YtibgjcejddpldaaGreat

/- Worlds in boxes, for the law on CrewCancel. No program walked but the law's own. No conditions. -/

namespace Go.Proofs.YtibgjcejddpldaaGreat
open Go Go.RowKit

end Go.Proofs.YtibgjcejddpldaaGreat

/- The ways that are open to each of a crew, and its moves: data, and lists of truths in memory. No program. No conditions. -/

namespace Go.Proofs.YtibgjcejddpldaaGreat
open Go Go.RowKit

/-- The ways of the reader, of a worker, of the closer, of the keeper, of the user. -/
def wayR (c : Cw) : List Bool := if c.reader = 0 then (if c.next = c.jobs then [false, false, true] else [decide (0 < c.room), stpB c, false]) else if c.reader = 1 then [decide ((c.queue.length : Int) < c.workers), stpB c] else if c.reader = 2 then [true] else []
def wayW (c : Cw) (h : Hd) : List Bool := if h.state = 0 then [decide (0 < c.queue.length), stpB c, decide (c.queue.length = 0) && decide (shZ c 0 = 1)] else if h.state = 1 then [true] else if h.state = 2 then [decide ((c.results.length : Int) < c.workers), stpB c] else []
def wayC (c : Cw) : List Bool := [decide (c.closer = 0) && allE c.hands]
def wayK (c : Cw) : List Bool := if c.keeper = 0 then [decide (0 < c.results.length), stpB c, decide (c.results.length = 0) && decide (shZ c 1 = 1)] else if c.keeper = 2 then [decide (c.out.length = 0), stpB c] else if c.keeper = 5 then [] else [true]
def wayU (c : Cw) : List Bool := if c.user = 1 then [] else [decide (0 < c.out.length), decide (c.out.length = 0) && decide (shZ c 2 = 1)]
def ways (c : Cw) (who : Nat) : List Bool := if who = 0 then wayR c else if who ≤ c.hands.length then wayW c (c.hands.getD (who - 1) ⟨0, 0⟩) else if who = c.hands.length + 1 then wayC c else if who = c.hands.length + 2 then wayK c else wayU c
end Go.Proofs.YtibgjcejddpldaaGreat

/- The walks of the specification's l52Reader, l52Keeper. No conditions. -/

namespace Go.Proofs.YtibgjcejddpldaaGreat
open Go Go.RowKit

end Go.Proofs.YtibgjcejddpldaaGreat

/- The drawn regions of the specification's l52Keeper, l52Worker, l52Ways. No conditions. -/

namespace Go.Proofs.YtibgjcejddpldaaGreat
open Go Go.RowKit

end Go.Proofs.YtibgjcejddpldaaGreat

/- The walks of the specification's l52Keeper, l52Worker. No conditions. -/

namespace Go.Proofs.YtibgjcejddpldaaGreat
open Go Go.RowKit

end Go.Proofs.YtibgjcejddpldaaGreat

/- The walk of the specification's l52Ways. No conditions. -/

namespace Go.Proofs.YtibgjcejddpldaaGreat
open Go Go.RowKit

end Go.Proofs.YtibgjcejddpldaaGreat

/- The moves that the specification's CrewMoves gathers: data, and the list while it grows. No program walked. No conditions. -/

namespace Go.Proofs.YtibgjcejddpldaaGreat
open Go Go.RowKit

end Go.Proofs.YtibgjcejddpldaaGreat

/- The ways that the program tells of each of a crew: data, and lists of ways in memory. No program walked. No conditions. -/

namespace Go.Proofs.YtibgjcejddpldaaGreat
open Go Go.RowKit

end Go.Proofs.YtibgjcejddpldaaGreat

/- The walks of the program's isFull, isEmpty (of places), isStopped, readerWays, closerWays. Conditions: the crew is there, its world is formed. -/

namespace Go.Proofs.YtibgjcejddpldaaGreat
open Go Go.RowKit

end Go.Proofs.YtibgjcejddpldaaGreat

/- The walks of the program's take (at numbers, at places), put (at places, at any first place), close, ringPlace. No conditions but that the ring is there. -/

namespace Go.Proofs.YtibgjcejddpldaaGreat
open Go Go.RowKit

end Go.Proofs.YtibgjcejddpldaaGreat

/- What a move does to a world: data. No program. No conditions. -/

namespace Go.Proofs.YtibgjcejddpldaaGreat
open Go Go.RowKit

end Go.Proofs.YtibgjcejddpldaaGreat

/- The walks of what the program's crew does, way by way: the reader, the closer, the keeper, the user. Conditions: the crew is there, its numbers are within their bounds, the way is open. -/

namespace Go.Proofs.YtibgjcejddpldaaGreat
open Go Go.RowKit

end Go.Proofs.YtibgjcejddpldaaGreat

/- The drawn regions of the program's keeperWays, userWays and of a worker's ways. Conditions: the crew is there, its world is formed. -/

namespace Go.Proofs.YtibgjcejddpldaaGreat
open Go Go.RowKit

end Go.Proofs.YtibgjcejddpldaaGreat

/- The drawn regions of what the program's crew does: a number is put into a channel, a job is taken. Conditions: the crew is there, the way is open. -/

namespace Go.Proofs.YtibgjcejddpldaaGreat
open Go Go.RowKit

end Go.Proofs.YtibgjcejddpldaaGreat

/- The walks of what the program's crew does, way by way: the rest of the reader's, the keeper's, the user's ways, and a worker's. Conditions: the crew is there, its numbers are within their bounds, the way is open. -/

namespace Go.Proofs.YtibgjcejddpldaaGreat
open Go Go.RowKit

end Go.Proofs.YtibgjcejddpldaaGreat

/- The walks of the program's keeperWays, userWays and of a worker's ways. Conditions: the crew is there, its world is formed. -/

namespace Go.Proofs.YtibgjcejddpldaaGreat
open Go Go.RowKit

end Go.Proofs.YtibgjcejddpldaaGreat

/- The walk of the program's all: the ways of each of a crew, as bound methods. Condition: the crew is there. -/

namespace Go.Proofs.YtibgjcejddpldaaGreat
open Go Go.RowKit

end Go.Proofs.YtibgjcejddpldaaGreat

/- The walk of the program's takeOut, and of what a worker does. Conditions: the crew is there, its numbers are within their bounds, the way is open. -/

namespace Go.Proofs.YtibgjcejddpldaaGreat
open Go Go.RowKit

end Go.Proofs.YtibgjcejddpldaaGreat

/- What a round of a range over ready's function may turn, and what the ways of one of the crew are, whoever it is. No program walked. Condition: the crew is there, its world is formed. -/

namespace Go.Proofs.YtibgjcejddpldaaGreat
open Go Go.RowKit Go.Shelf

end Go.Proofs.YtibgjcejddpldaaGreat

/- The walk of the program's ready and of its function: the moves that are ready are told one behind the other, as long as one listens. Conditions: the crew is there, its world is formed. -/

namespace Go.Proofs.YtibgjcejddpldaaGreat
open Go Go.RowKit Go.Shelf

attribute [local go_sem] Oper.semAt_some

end Go.Proofs.YtibgjcejddpldaaGreat

/- append onto a row of one's own, inside a fence: where the row stands afterwards. No program. No conditions. -/

namespace Go.Proofs.YtibgjcejddpldaaGreat
open Go Go.RowKit

end Go.Proofs.YtibgjcejddpldaaGreat

/- The walk of the specification's CrewMoves. No conditions. -/

namespace Go.Proofs.YtibgjcejddpldaaGreat
open Go Go.RowKit

end Go.Proofs.YtibgjcejddpldaaGreat

/- The walk of the program's CrewMoves, whole. No conditions. -/

namespace Go.Proofs.YtibgjcejddpldaaGreat
open Go Go.RowKit Go.Shelf

attribute [local go_sem] Oper.semAt_some

end Go.Proofs.YtibgjcejddpldaaGreat

/- The walk of the program's doingOf: what a move does, if it is ready. Conditions: the crew is there, its world is formed. -/

namespace Go.Proofs.YtibgjcejddpldaaGreat
open Go Go.RowKit Go.Shelf

attribute [local go_sem] Oper.semAt_some

end Go.Proofs.YtibgjcejddpldaaGreat

/- A move that is ready is one that does what a move does. Conditions: the crew is there, its world is ok. -/

namespace Go.Proofs.YtibgjcejddpldaaGreat
open Go Go.RowKit Go.Shelf

end Go.Proofs.YtibgjcejddpldaaGreat

/- The walk of the program's CrewStep, whole. No conditions. -/

namespace Go.Proofs.YtibgjcejddpldaaGreat
open Go Go.RowKit

end Go.Proofs.YtibgjcejddpldaaGreat

/- The walk of the specification's l52Copy, told finer: a world anew, its lists in rows of their own that may grow. Conditions: the weight, at most 2^20. -/

namespace Go.Proofs.YtibgjcejddpldaaGreat
open Go Go.RowKit

end Go.Proofs.YtibgjcejddpldaaGreat

/- A world in a box of the specification's, while it is turned: its numbers, its lists, where they lie. No program walked. No conditions. -/

namespace Go.Proofs.YtibgjcejddpldaaGreat
open Go Go.RowKit

end Go.Proofs.YtibgjcejddpldaaGreat

/- The walk of the specification's l52DoReader, way by way. Conditions: the world's lists lie in rows of their own, its numbers are within their bounds. -/

namespace Go.Proofs.YtibgjcejddpldaaGreat
open Go Go.RowKit

end Go.Proofs.YtibgjcejddpldaaGreat

/- The walk of the specification's l52DoWorker, way by way. Conditions: the world's lists lie in rows of their own, its numbers are within their bounds. -/

namespace Go.Proofs.YtibgjcejddpldaaGreat
open Go Go.RowKit

end Go.Proofs.YtibgjcejddpldaaGreat

/- The walk of the specification's l52DoKeeper, way by way. Conditions: the world's lists lie in rows of their own, its numbers are within their bounds. -/

namespace Go.Proofs.YtibgjcejddpldaaGreat
open Go Go.RowKit

end Go.Proofs.YtibgjcejddpldaaGreat

/- The walk of the specification's CrewStep where one of the crew moves. Conditions: the world is right, the way is open, and the step of that one is walked. -/

namespace Go.Proofs.YtibgjcejddpldaaGreat
open Go Go.RowKit

end Go.Proofs.YtibgjcejddpldaaGreat

/- The drawn region of the specification's CrewStep: a number is handed to the user. Conditions: the world lies in its box, its lists in rows of their own. -/

namespace Go.Proofs.YtibgjcejddpldaaGreat
open Go Go.RowKit

end Go.Proofs.YtibgjcejddpldaaGreat

/- The walk of the specification's CrewStep where it is the closer's or the user's move, and where it is none. No conditions but that the world is right. -/

namespace Go.Proofs.YtibgjcejddpldaaGreat
open Go Go.RowKit

end Go.Proofs.YtibgjcejddpldaaGreat

/- The walk of the specification's CrewStep, whole. No conditions. -/

namespace Go.Proofs.YtibgjcejddpldaaGreat
open Go Go.RowKit

end Go.Proofs.YtibgjcejddpldaaGreat

/- What both CrewStep give, for the law on CrewStep. No program walked but the law's own. No conditions. -/

namespace Go.Proofs.YtibgjcejddpldaaGreat
open Go Go.RowKit

end Go.Proofs.YtibgjcejddpldaaGreat

/- The drawn regions of the law on CrewStep that make a box, and worlds in such boxes. No program walked but the law's own. No conditions. -/

namespace Go.Proofs.YtibgjcejddpldaaGreat
open Go Go.RowKit

end Go.Proofs.YtibgjcejddpldaaGreat

/- The walk of the law on CrewStep: whatever world and move come in, it answers true, and turns nothing that was there. No conditions. -/

namespace Go.Proofs.YtibgjcejddpldaaGreat
open Go Go.RowKit

end Go.Proofs.YtibgjcejddpldaaGreat

/- What is read of a list of strings that comes in is one that lies in memory. No conditions. -/

namespace Go.Proofs.YtibgjcejddpldaaGreat
open Go Go.RowKit Go.ChangeShapes Go.WideShapes Go.ChangeAt Go.Deep

section
variable {H : Type} {enc : TypeId × Value → H} {W : World} {spare : Nat → Bool} {held : Bool}

end
end Go.Proofs.YtibgjcejddpldaaGreat

/- What is read of a disk that comes in is a disk that lies in memory. No conditions. -/

namespace Go.Proofs.YtibgjcejddpldaaGreat
open Go Go.RowKit Go.ChangeShapes Go.WideShapes Go.ChangeAt Go.Deep

end Go.Proofs.YtibgjcejddpldaaGreat

/- What is read of a crew's world that comes in is one that lies in memory. No conditions. -/

namespace Go.Proofs.YtibgjcejddpldaaGreat
open Go Go.RowKit Go.ChangeShapes Go.WideShapes Go.ChangeAt Go.Deep

end Go.Proofs.YtibgjcejddpldaaGreat
