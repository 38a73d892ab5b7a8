/-
  DERIVED. GIVEN WITH THE SEED: THE CARDS: each row of YtmpfhkjipdhhlaaDoorRows.lean that lists a variable, with what it lists TIED to the program's text (the seventh form; the later family's looks); each row that meets fmt, with fmt's text TOLD by the authors' own Lean function (tested against real Go, not proved from fmt's source: count such statements apart). THE CARD IS WHAT COUNTS. Prove the row's statement (the work); the ties are given (YtmpfhkjipdhhlaaDoorTie.lean); close each card by the builder's one call (the guide's Derived/Test/ToyasCard.lean, 'card_holds'). Laid BY PROGRAM, IN A SANDBOX (cutbox-door.mjs). By AI agents, Wed Nov 11 2026. No macro, syntax, notation, axiom, sorry.
-/
import Derived.Test.YtmpfhkjipdhhlaaDoorRows
import GoSem.ClaimSeven
namespace Go.Proofs.YtmpfhkjipdhhlaaDoor
namespace Rows

/-- THE TIED CARD OF 'laws.FnExactEventOk'. -/
def fnExactEventOkCard : Claim7 := { stood := { row := fnExactEventOkRow, standIns := [], harness := (true, "9af961cfa7c58dc39a8db2cbfc121b9358c20b9acab7c537b5a0072a4489181f"), looks := false }, kinds := [], alts := [], laidByText := true, laidKinds := [.data], laidTests := true, laidLooks := .later }
def FnExactEventOkCardSaid : Prop := Claim7.holds Tryd.pinned (.plain (OpenSpec.ofChange fnExactEventOkSpec)) fnExactEventOkCard

/-- THE TIED CARD OF 'laws.FnExactEventPack'. -/
def fnExactEventPackCard : Claim7 := { stood := { row := fnExactEventPackRow, standIns := [], harness := (true, "9af961cfa7c58dc39a8db2cbfc121b9358c20b9acab7c537b5a0072a4489181f"), looks := false }, kinds := [], alts := [], laidByText := true, laidKinds := [.data], laidTests := true, laidLooks := .later }
def FnExactEventPackCardSaid : Prop := Claim7.holds Tryd.pinned (.plain (OpenSpec.ofChange fnExactEventPackSpec)) fnExactEventPackCard

/-- THE TIED CARD OF 'laws.FnExactEventUnpack'. -/
def fnExactEventUnpackCard : Claim7 := { stood := { row := fnExactEventUnpackRow, standIns := [], harness := (true, "9af961cfa7c58dc39a8db2cbfc121b9358c20b9acab7c537b5a0072a4489181f"), looks := false }, kinds := [], alts := [], laidByText := true, laidKinds := [.data], laidTests := true, laidLooks := .later }
def FnExactEventUnpackCardSaid : Prop := Claim7.holds Tryd.pinned (.plain (OpenSpec.ofChange fnExactEventUnpackSpec)) fnExactEventUnpackCard

/-- THE TIED CARD OF 'laws.FnExactEventWrite'. -/
def fnExactEventWriteCard : Claim7 := { stood := { row := fnExactEventWriteRow, standIns := [], harness := (true, "9af961cfa7c58dc39a8db2cbfc121b9358c20b9acab7c537b5a0072a4489181f"), looks := false }, kinds := [], alts := [], laidByText := true, laidKinds := [.data, .data, .data, .data], laidTests := true, laidLooks := .later }
def FnExactEventWriteCardSaid : Prop := Claim7.holds Tryd.pinned (.plain (OpenSpec.ofChange fnExactEventWriteSpec)) fnExactEventWriteCard

/-- THE SECOND FORM's CARD OF 'laws.FnExactEventOk'. -/
def fnExactEventOkUptoCard : Claim7 := { stood := { row := fnExactEventOkUptoRow, standIns := [], harness := (true, "9af961cfa7c58dc39a8db2cbfc121b9358c20b9acab7c537b5a0072a4489181f"), looks := false }, kinds := [], alts := [], laidByText := true, laidKinds := [.data], laidTests := true, laidLooks := .later }
def FnExactEventOkUptoCardSaid : Prop := Claim7.holds Tryd.pinned (.plain (OpenSpec.upto fnExactEventOkSpec)) fnExactEventOkUptoCard

/-- THE SECOND FORM's CARD OF 'laws.FnExactEventPack'. -/
def fnExactEventPackUptoCard : Claim7 := { stood := { row := fnExactEventPackUptoRow, standIns := [], harness := (true, "9af961cfa7c58dc39a8db2cbfc121b9358c20b9acab7c537b5a0072a4489181f"), looks := false }, kinds := [], alts := [], laidByText := true, laidKinds := [.data], laidTests := true, laidLooks := .later }
def FnExactEventPackUptoCardSaid : Prop := Claim7.holds Tryd.pinned (.plain (OpenSpec.upto fnExactEventPackSpec)) fnExactEventPackUptoCard

/-- THE SECOND FORM's CARD OF 'laws.FnExactEventUnpack'. -/
def fnExactEventUnpackUptoCard : Claim7 := { stood := { row := fnExactEventUnpackUptoRow, standIns := [], harness := (true, "9af961cfa7c58dc39a8db2cbfc121b9358c20b9acab7c537b5a0072a4489181f"), looks := false }, kinds := [], alts := [], laidByText := true, laidKinds := [.data], laidTests := true, laidLooks := .later }
def FnExactEventUnpackUptoCardSaid : Prop := Claim7.holds Tryd.pinned (.plain (OpenSpec.upto fnExactEventUnpackSpec)) fnExactEventUnpackUptoCard

/-- THE SECOND FORM's CARD OF 'laws.FnExactEventWrite'. -/
def fnExactEventWriteUptoCard : Claim7 := { stood := { row := fnExactEventWriteUptoRow, standIns := [], harness := (true, "9af961cfa7c58dc39a8db2cbfc121b9358c20b9acab7c537b5a0072a4489181f"), looks := false }, kinds := [], alts := [], laidByText := true, laidKinds := [.data, .data, .data, .data], laidTests := true, laidLooks := .later }
def FnExactEventWriteUptoCardSaid : Prop := Claim7.holds Tryd.pinned (.plain (OpenSpec.upto fnExactEventWriteSpec)) fnExactEventWriteUptoCard
end Rows
end Go.Proofs.YtmpfhkjipdhhlaaDoor
