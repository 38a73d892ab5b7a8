/-
  DERIVED. GIVEN WITH THE SEED: THE CARDS: each row of YtiflfcjocngiiaaGreatDoorRows.lean that lists a variable, with what it lists TIED to the program's text (the seventh form; the later family's looks); each row that meets fmt, with fmt's text TOLD by the authors' own Lean function (tested against real Go, not proved from fmt's source: count such statements apart). THE CARD IS WHAT COUNTS. Prove the row's statement (the work); the ties are given (YtiflfcjocngiiaaGreatDoorTie.lean); close each card by the builder's one call (the guide's Derived/Test/ToyasCard.lean, 'card_holds'). Laid BY PROGRAM, IN A SANDBOX (cutbox-door.mjs). By AI agents, Wed Nov 11 2026. No macro, syntax, notation, axiom, sorry.
-/
import Derived.Test.YtiflfcjocngiiaaGreatDoorRows
import GoSem.ClaimSeven
namespace Go.Proofs.YtiflfcjocngiiaaGreatDoor
namespace Rows

/-- THE TIED CARD OF 'laws.FnExactRecUnpack'. -/
def fnExactRecUnpackCard : Claim7 := { stood := { row := fnExactRecUnpackRow, standIns := [], harness := (true, "7587cbd13ccf097aac066c55f57fff483f44e67e89c5c4979208d025cb948b2a"), looks := true }, kinds := [], alts := [], laidByText := true, laidKinds := [.data], laidTests := true, laidLooks := .later }
def FnExactRecUnpackCardSaid : Prop := Claim7.holds Tryz.pinned (.plain (OpenSpec.ofChange fnExactRecUnpackSpec)) fnExactRecUnpackCard

/-- THE SECOND FORM's CARD OF 'laws.FnExactRecUnpack'. -/
def fnExactRecUnpackUptoCard : Claim7 := { stood := { row := fnExactRecUnpackUptoRow, standIns := [], harness := (true, "7587cbd13ccf097aac066c55f57fff483f44e67e89c5c4979208d025cb948b2a"), looks := true }, kinds := [], alts := [], laidByText := true, laidKinds := [.data], laidTests := true, laidLooks := .later }
def FnExactRecUnpackUptoCardSaid : Prop := Claim7.holds Tryz.pinned (.plain (OpenSpec.upto fnExactRecUnpackSpec)) fnExactRecUnpackUptoCard
end Rows
end Go.Proofs.YtiflfcjocngiiaaGreatDoor
