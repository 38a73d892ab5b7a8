/- The walks of the program's treeWant: what it answers, and that it raises a fault. No conditions. -/
import Derived.Test.YtgamonfmgngilaaGreatDoorPart02
namespace Go.Proofs.YtgamonfmgngilaaGreatDoor
open Go Go.RowKit

/-- A fault is raised. -/
abbrev fltE : Ending := .panicked [{ v := .iface 128 (.agg #[]), recovered := false }]

set_option maxHeartbeats 400000 in
theorem treeWant_yes (w : World) : Calls Tryz.prog 65 #[.bool true] w fun e w' => e = .returned (.tuple #[]) ∧ w' = w := by
  go_enter Tryz.func65, Tryz.ntmps65
  go_wp2_with fail
  go_end0
  exact ⟨rfl, rfl⟩

set_option maxHeartbeats 400000 in
theorem treeWant_no (w : World) : Calls Tryz.prog 65 #[.bool false] w fun e w' => e = fltE ∧ w' = w := by
  go_enter Tryz.func65, Tryz.ntmps65
  go_wp2_with fail
  exact ⟨rfl, rfl, rfl⟩
end Go.Proofs.YtgamonfmgngilaaGreatDoor
