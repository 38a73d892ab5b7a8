/- For every crew's world and every move that come in, CrewStep answers as the specification's CrewStep does, leaves its arguments as they were, and its answer owns its memory: the law FnExactCrewStep returns true, and its arguments read behind the call as they read before.
   Conditions: those of the given row alone. -/
import Derived.Test.YtibgjcejddpldaaGreatPart02
import Derived.Deep.DeepHandedRow
namespace Go.Proofs.YtibgjcejddpldaaGreat
open Go.ChangeShapes Go.WideShapes Go.ChangeAt Go.RowKit Go.Deep

theorem own : ownKnob Tryz.prog.godebug = none := by kernel_rfl
theorem laidOut : laidOutB Tryz.prog = true := by kernel_rfl
theorem readWorld : Tryz.prog.readableRec 45 = true := by kernel_rfl
theorem rowWorldT : 45 < Tryz.prog.types.size := of_decide_eq_true (by kernel_rfl)
theorem readMove : Tryz.prog.readableRec 54 = true := by kernel_rfl
theorem rowMoveT : 54 < Tryz.prog.types.size := of_decide_eq_true (by kernel_rfl)
def zeroMove : Value := .agg #[.int .i64 0, .int .i64 0]
theorem cellsMoveC : Tryz.prog.cellsOf 54 = 2 := by kernel_rfl
theorem oneMoveC : ∃ fs : Array Field, Tryz.prog.underlying 54 = some (.struct fs) ∧ oneCellFields Tryz.prog fs = true ∧ fs.map (·.type) = #[3, 3] := ⟨_, Tryz.underlying54, by kernel_rfl, by kernel_rfl⟩
def zeroWorld : Value := .agg #[.int .i64 0, .int .i64 0, .int .i64 0, .int .i64 0, .int .i64 0, .slice none 0 0, .slice none 0 0, .int .i64 0, .slice none 0 0, .int .i64 0, .slice none 0 0, .int .i64 0, .slice none 0 0, .int .i64 0, .slice none 0 0, .int .i64 0, .slice none 0 0, .int .i64 0]

end Go.Proofs.YtibgjcejddpldaaGreat
