/-
  DERIVED. GIVEN WITH THE SEED: THE CARDS: each row of YteefjeddboefcaaGreatDoorRows.lean that lists a variable, with what it lists TIED to the program's text (the seventh form; the later family's looks); each row that meets fmt, with fmt's text TOLD by the authors' own Lean function (tested against real Go, not proved from fmt's source: count such statements apart). THE CARD IS WHAT COUNTS. Prove the row's statement (the work); the ties are given (YteefjeddboefcaaGreatDoorTie.lean); close each card by the builder's one call (the guide's Derived/Test/ToyasCard.lean, 'card_holds'). Laid BY PROGRAM, IN A SANDBOX (cutbox-door.mjs). By AI agents, Wed Nov 11 2026. No macro, syntax, notation, axiom, sorry.
-/
import Derived.Test.YteefjeddboefcaaGreatDoorRows
import GoSem.ClaimSeven
namespace Go.Proofs.YteefjeddboefcaaGreatDoor
namespace Rows

/-- THE TIED CARD OF 'laws.FnKindWiden'. -/
def fnKindWidenCard : Claim7 := { stood := { row := fnKindWidenRow, standIns := [], harness := (true, "6e7a23764123b3ae13da3c199c6e3ff6a2f5b6e70e89b28ab1f1b5fb47cfef2e"), looks := true }, kinds := [], alts := [], laidByText := true, laidKinds := [.handle, .data], laidTests := true, laidLooks := .later }
def FnKindWidenCardSaid : Prop := Claim7.holds Tryz.pinned (.plain (OpenSpec.ofChange fnKindWidenSpec)) fnKindWidenCard

/-- THE TIED CARD OF 'laws.FnKindWay'. -/
def fnKindWayCard : Claim7 := { stood := { row := fnKindWayRow, standIns := [], harness := (true, "6e7a23764123b3ae13da3c199c6e3ff6a2f5b6e70e89b28ab1f1b5fb47cfef2e"), looks := true }, kinds := [], alts := [], laidByText := true, laidKinds := [.handle, .data], laidTests := true, laidLooks := .later }
def FnKindWayCardSaid : Prop := Claim7.holds Tryz.pinned (.plain (OpenSpec.ofChange fnKindWaySpec)) fnKindWayCard

/-- THE SECOND FORM's CARD OF 'laws.FnKindWiden'. -/
def fnKindWidenUptoCard : Claim7 := { stood := { row := fnKindWidenUptoRow, standIns := [], harness := (true, "6e7a23764123b3ae13da3c199c6e3ff6a2f5b6e70e89b28ab1f1b5fb47cfef2e"), looks := true }, kinds := [], alts := [], laidByText := true, laidKinds := [.handle, .data], laidTests := true, laidLooks := .later }
def FnKindWidenUptoCardSaid : Prop := Claim7.holds Tryz.pinned (.plain (OpenSpec.upto fnKindWidenSpec)) fnKindWidenUptoCard

/-- THE SECOND FORM's CARD OF 'laws.FnKindWay'. -/
def fnKindWayUptoCard : Claim7 := { stood := { row := fnKindWayUptoRow, standIns := [], harness := (true, "6e7a23764123b3ae13da3c199c6e3ff6a2f5b6e70e89b28ab1f1b5fb47cfef2e"), looks := true }, kinds := [], alts := [], laidByText := true, laidKinds := [.handle, .data], laidTests := true, laidLooks := .later }
def FnKindWayUptoCardSaid : Prop := Claim7.holds Tryz.pinned (.plain (OpenSpec.upto fnKindWaySpec)) fnKindWayUptoCard
end Rows
end Go.Proofs.YteefjeddboefcaaGreatDoor
