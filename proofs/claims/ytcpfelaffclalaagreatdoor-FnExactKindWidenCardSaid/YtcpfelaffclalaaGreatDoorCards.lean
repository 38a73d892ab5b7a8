/-
  DERIVED. GIVEN WITH THE SEED: THE CARDS: each row of YtcpfelaffclalaaGreatDoorRows.lean that lists a variable, with what it lists TIED to the program's text (the seventh form; the later family's looks); each row that meets fmt, with fmt's text TOLD by the authors' own Lean function (tested against real Go, not proved from fmt's source: count such statements apart). THE CARD IS WHAT COUNTS. Prove the row's statement (the work); the ties are given (YtcpfelaffclalaaGreatDoorTie.lean); close each card by the builder's one call (the guide's Derived/Test/ToyasCard.lean, 'card_holds'). Laid BY PROGRAM, IN A SANDBOX (cutbox-door.mjs). By AI agents, Wed Nov 11 2026. No macro, syntax, notation, axiom, sorry.
-/
import Derived.Test.YtcpfelaffclalaaGreatDoorRows
import GoSem.ClaimSeven
namespace Go.Proofs.YtcpfelaffclalaaGreatDoor
namespace Rows

/-- THE TIED CARD OF 'laws.FnExactKindFits'. -/
def fnExactKindFitsCard : Claim7 := { stood := { row := fnExactKindFitsRow, standIns := [], harness := (true, "8ec6306555109cc166081daaf3f25614df65bfd56ade2a4466247b5293bfa7c9"), looks := true }, kinds := [], alts := [], laidByText := true, laidKinds := [.handle], laidTests := true, laidLooks := .later }
def FnExactKindFitsCardSaid : Prop := Claim7.holds Tryz.pinned (.plain (OpenSpec.ofChange fnExactKindFitsSpec)) fnExactKindFitsCard

/-- THE TIED CARD OF 'laws.FnExactKindWiden'. -/
def fnExactKindWidenCard : Claim7 := { stood := { row := fnExactKindWidenRow, standIns := [], harness := (true, "8ec6306555109cc166081daaf3f25614df65bfd56ade2a4466247b5293bfa7c9"), looks := true }, kinds := [], alts := [], laidByText := true, laidKinds := [.handle, .data], laidTests := true, laidLooks := .later }
def FnExactKindWidenCardSaid : Prop := Claim7.holds Tryz.pinned (.plain (OpenSpec.ofChange fnExactKindWidenSpec)) fnExactKindWidenCard

/-- THE TIED CARD OF 'laws.FnExactKindJoin'. -/
def fnExactKindJoinCard : Claim7 := { stood := { row := fnExactKindJoinRow, standIns := [], harness := (true, "8ec6306555109cc166081daaf3f25614df65bfd56ade2a4466247b5293bfa7c9"), looks := true }, kinds := [], alts := [], laidByText := true, laidKinds := [.handle], laidTests := true, laidLooks := .later }
def FnExactKindJoinCardSaid : Prop := Claim7.holds Tryz.pinned (.plain (OpenSpec.ofChange fnExactKindJoinSpec)) fnExactKindJoinCard

/-- THE SECOND FORM's CARD OF 'laws.FnExactKindFits'. -/
def fnExactKindFitsUptoCard : Claim7 := { stood := { row := fnExactKindFitsUptoRow, standIns := [], harness := (true, "8ec6306555109cc166081daaf3f25614df65bfd56ade2a4466247b5293bfa7c9"), looks := true }, kinds := [], alts := [], laidByText := true, laidKinds := [.handle], laidTests := true, laidLooks := .later }
def FnExactKindFitsUptoCardSaid : Prop := Claim7.holds Tryz.pinned (.plain (OpenSpec.upto fnExactKindFitsSpec)) fnExactKindFitsUptoCard

/-- THE SECOND FORM's CARD OF 'laws.FnExactKindWiden'. -/
def fnExactKindWidenUptoCard : Claim7 := { stood := { row := fnExactKindWidenUptoRow, standIns := [], harness := (true, "8ec6306555109cc166081daaf3f25614df65bfd56ade2a4466247b5293bfa7c9"), looks := true }, kinds := [], alts := [], laidByText := true, laidKinds := [.handle, .data], laidTests := true, laidLooks := .later }
def FnExactKindWidenUptoCardSaid : Prop := Claim7.holds Tryz.pinned (.plain (OpenSpec.upto fnExactKindWidenSpec)) fnExactKindWidenUptoCard

/-- THE SECOND FORM's CARD OF 'laws.FnExactKindJoin'. -/
def fnExactKindJoinUptoCard : Claim7 := { stood := { row := fnExactKindJoinUptoRow, standIns := [], harness := (true, "8ec6306555109cc166081daaf3f25614df65bfd56ade2a4466247b5293bfa7c9"), looks := true }, kinds := [], alts := [], laidByText := true, laidKinds := [.handle], laidTests := true, laidLooks := .later }
def FnExactKindJoinUptoCardSaid : Prop := Claim7.holds Tryz.pinned (.plain (OpenSpec.upto fnExactKindJoinSpec)) fnExactKindJoinUptoCard
end Rows
end Go.Proofs.YtcpfelaffclalaaGreatDoor
