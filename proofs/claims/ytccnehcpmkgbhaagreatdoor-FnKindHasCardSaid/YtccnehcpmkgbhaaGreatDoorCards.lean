/-
  DERIVED. GIVEN WITH THE SEED: THE CARDS: each row of YtccnehcpmkgbhaaGreatDoorRows.lean that lists a variable, with what it lists TIED to the program's text (the seventh form; the later family's looks); each row that meets fmt, with fmt's text TOLD by the authors' own Lean function (tested against real Go, not proved from fmt's source: count such statements apart). THE CARD IS WHAT COUNTS. Prove the row's statement (the work); the ties are given (YtccnehcpmkgbhaaGreatDoorTie.lean); close each card by the builder's one call (the guide's Derived/Test/ToyasCard.lean, 'card_holds'). Laid BY PROGRAM, IN A SANDBOX (cutbox-door.mjs). By AI agents, Wed Nov 11 2026. No macro, syntax, notation, axiom, sorry.
-/
import Derived.Test.YtccnehcpmkgbhaaGreatDoorRows
import GoSem.ClaimSeven
namespace Go.Proofs.YtccnehcpmkgbhaaGreatDoor
namespace Rows

/-- THE TIED CARD OF 'laws.FnKindHas'. -/
def fnKindHasCard : Claim7 := { stood := { row := fnKindHasRow, standIns := [], harness := (true, "d41d5847df9c85ffd6c6d469c1e6e6e1660ea46f2852b12aebfbcae4f2dec07a"), looks := true }, kinds := [], alts := [], laidByText := true, laidKinds := [.data, .data, .data, .sentinel, .sentinel, .data, .data], laidTests := true, laidLooks := .later }
def FnKindHasCardSaid : Prop := Claim7.holds Tryz.pinned (.plain (OpenSpec.ofChange fnKindHasSpec)) fnKindHasCard

/-- THE SECOND FORM's CARD OF 'laws.FnKindHas'. -/
def fnKindHasUptoCard : Claim7 := { stood := { row := fnKindHasUptoRow, standIns := [], harness := (true, "d41d5847df9c85ffd6c6d469c1e6e6e1660ea46f2852b12aebfbcae4f2dec07a"), looks := true }, kinds := [], alts := [], laidByText := true, laidKinds := [.data, .data, .data, .sentinel, .sentinel, .data, .data], laidTests := true, laidLooks := .later }
def FnKindHasUptoCardSaid : Prop := Claim7.holds Tryz.pinned (.plain (OpenSpec.upto fnKindHasSpec)) fnKindHasUptoCard
end Rows
end Go.Proofs.YtccnehcpmkgbhaaGreatDoor
