/-
  DERIVED. GIVEN WITH THE SEED: THE CARDS: each row of YtmaojhacdelleaaDoorRows.lean that lists a variable, with what it lists TIED to the program's text (the seventh form; the later family's looks); each row that meets fmt, with fmt's text TOLD by the authors' own Lean function (tested against real Go, not proved from fmt's source: count such statements apart). THE CARD IS WHAT COUNTS. Prove the row's statement (the work); the ties are given (YtmaojhacdelleaaDoorTie.lean); close each card by the builder's one call (the guide's Derived/Test/ToyasCard.lean, 'card_holds'). Laid BY PROGRAM, IN A SANDBOX (cutbox-door.mjs). By AI agents, Wed Nov 11 2026. No macro, syntax, notation, axiom, sorry.
-/
import Derived.Test.YtmaojhacdelleaaDoorRows
import GoSem.ClaimSeven
namespace Go.Proofs.YtmaojhacdelleaaDoor
namespace Rows

/-- THE TIED CARD OF 'laws.FnExactLogPlanWrite'. -/
def fnExactLogPlanWriteCard : Claim7 := { stood := { row := fnExactLogPlanWriteRow, standIns := [], harness := (true, "7d206d7888bf277b3121764aec9ca0e2090c170d02ac87c28ce0bf3a650d9a47"), looks := false }, kinds := [], alts := [], laidByText := true, laidKinds := [.data, .data, .data], laidTests := true, laidLooks := .later }
def FnExactLogPlanWriteCardSaid : Prop := Claim7.holds Tryd.pinned (.plain (OpenSpec.ofChange fnExactLogPlanWriteSpec)) fnExactLogPlanWriteCard

/-- THE SECOND FORM's CARD OF 'laws.FnExactLogPlanWrite'. -/
def fnExactLogPlanWriteUptoCard : Claim7 := { stood := { row := fnExactLogPlanWriteUptoRow, standIns := [], harness := (true, "7d206d7888bf277b3121764aec9ca0e2090c170d02ac87c28ce0bf3a650d9a47"), looks := false }, kinds := [], alts := [], laidByText := true, laidKinds := [.data, .data, .data], laidTests := true, laidLooks := .later }
def FnExactLogPlanWriteUptoCardSaid : Prop := Claim7.holds Tryd.pinned (.plain (OpenSpec.upto fnExactLogPlanWriteSpec)) fnExactLogPlanWriteUptoCard
end Rows
end Go.Proofs.YtmaojhacdelleaaDoor
