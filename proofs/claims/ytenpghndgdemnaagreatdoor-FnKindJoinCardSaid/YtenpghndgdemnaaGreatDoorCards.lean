/-
  DERIVED. GIVEN WITH THE SEED: THE CARDS: each row of YtenpghndgdemnaaGreatDoorRows.lean that lists a variable, with what it lists TIED to the program's text (the seventh form; the later family's looks); each row that meets fmt, with fmt's text TOLD by the authors' own Lean function (tested against real Go, not proved from fmt's source: count such statements apart). THE CARD IS WHAT COUNTS. Prove the row's statement (the work); the ties are given (YtenpghndgdemnaaGreatDoorTie.lean); close each card by the builder's one call (the guide's Derived/Test/ToyasCard.lean, 'card_holds'). Laid BY PROGRAM, IN A SANDBOX (cutbox-door.mjs). By AI agents, Wed Nov 11 2026. No macro, syntax, notation, axiom, sorry.
-/
import Derived.Test.YtenpghndgdemnaaGreatDoorRows
import GoSem.ClaimSeven
namespace Go.Proofs.YtenpghndgdemnaaGreatDoor
namespace Rows

/-- THE TIED CARD OF 'laws.FnKindJoin'. -/
def fnKindJoinCard : Claim7 := { stood := { row := fnKindJoinRow, standIns := [], harness := (true, "92fa067c9d1586bebf299d4c2f03e91d8dc127050f06a8309ea1cddbc93d29f1"), looks := true }, kinds := [], alts := [], laidByText := true, laidKinds := [.handle], laidTests := true, laidLooks := .later }
def FnKindJoinCardSaid : Prop := Claim7.holds Tryz.pinned (.plain (OpenSpec.ofChange fnKindJoinSpec)) fnKindJoinCard

/-- THE TIED CARD OF 'laws.FnExactKindJoin'. -/
def fnExactKindJoinCard : Claim7 := { stood := { row := fnExactKindJoinRow, standIns := [], harness := (true, "92fa067c9d1586bebf299d4c2f03e91d8dc127050f06a8309ea1cddbc93d29f1"), looks := true }, kinds := [], alts := [], laidByText := true, laidKinds := [.handle], laidTests := true, laidLooks := .later }
def FnExactKindJoinCardSaid : Prop := Claim7.holds Tryz.pinned (.plain (OpenSpec.ofChange fnExactKindJoinSpec)) fnExactKindJoinCard

/-- THE SECOND FORM's CARD OF 'laws.FnKindJoin'. -/
def fnKindJoinUptoCard : Claim7 := { stood := { row := fnKindJoinUptoRow, standIns := [], harness := (true, "92fa067c9d1586bebf299d4c2f03e91d8dc127050f06a8309ea1cddbc93d29f1"), looks := true }, kinds := [], alts := [], laidByText := true, laidKinds := [.handle], laidTests := true, laidLooks := .later }
def FnKindJoinUptoCardSaid : Prop := Claim7.holds Tryz.pinned (.plain (OpenSpec.upto fnKindJoinSpec)) fnKindJoinUptoCard

/-- THE SECOND FORM's CARD OF 'laws.FnExactKindJoin'. -/
def fnExactKindJoinUptoCard : Claim7 := { stood := { row := fnExactKindJoinUptoRow, standIns := [], harness := (true, "92fa067c9d1586bebf299d4c2f03e91d8dc127050f06a8309ea1cddbc93d29f1"), looks := true }, kinds := [], alts := [], laidByText := true, laidKinds := [.handle], laidTests := true, laidLooks := .later }
def FnExactKindJoinUptoCardSaid : Prop := Claim7.holds Tryz.pinned (.plain (OpenSpec.upto fnExactKindJoinSpec)) fnExactKindJoinUptoCard
end Rows
end Go.Proofs.YtenpghndgdemnaaGreatDoor
