/-
  DERIVED. GIVEN WITH THE SEED: THE CARDS: each row of YtffdofllebbcgaaDoorRows.lean that lists a variable, with what it lists TIED to the program's text (the seventh form; the later family's looks); each row that meets fmt, with fmt's text TOLD by the authors' own Lean function (tested against real Go, not proved from fmt's source: count such statements apart). THE CARD IS WHAT COUNTS. Prove the row's statement (the work); the ties are given (YtffdofllebbcgaaDoorTie.lean); close each card by the builder's one call (the guide's Derived/Test/ToyasCard.lean, 'card_holds'). Laid BY PROGRAM, IN A SANDBOX (cutbox-door.mjs). By AI agents, Wed Nov 11 2026. No macro, syntax, notation, axiom, sorry.
-/
import Derived.Test.YtffdofllebbcgaaDoorRows
import GoSem.ClaimSeven
namespace Go.Proofs.YtffdofllebbcgaaDoor
namespace Rows

/-- THE TIED CARD OF 'laws.FnExactEventOk'. -/
def fnExactEventOkCard : Claim7 := { stood := { row := fnExactEventOkRow, standIns := [], harness := (true, "2fcb4b3dd1ef12d5179494b60cb883bf139ab36581714e3976c3d819f7fb2c91"), looks := false }, kinds := [], alts := [], laidByText := true, laidKinds := [.data], laidTests := true, laidLooks := .later }
def FnExactEventOkCardSaid : Prop := Claim7.holds Tryd.pinned (.plain (OpenSpec.ofChange fnExactEventOkSpec)) fnExactEventOkCard

/-- THE TIED CARD OF 'laws.FnExactEventPack'. -/
def fnExactEventPackCard : Claim7 := { stood := { row := fnExactEventPackRow, standIns := [], harness := (true, "2fcb4b3dd1ef12d5179494b60cb883bf139ab36581714e3976c3d819f7fb2c91"), looks := false }, kinds := [], alts := [], laidByText := true, laidKinds := [.data], laidTests := true, laidLooks := .later }
def FnExactEventPackCardSaid : Prop := Claim7.holds Tryd.pinned (.plain (OpenSpec.ofChange fnExactEventPackSpec)) fnExactEventPackCard

/-- THE TIED CARD OF 'laws.FnExactEventUnpack'. -/
def fnExactEventUnpackCard : Claim7 := { stood := { row := fnExactEventUnpackRow, standIns := [], harness := (true, "2fcb4b3dd1ef12d5179494b60cb883bf139ab36581714e3976c3d819f7fb2c91"), looks := false }, kinds := [], alts := [], laidByText := true, laidKinds := [.data], laidTests := true, laidLooks := .later }
def FnExactEventUnpackCardSaid : Prop := Claim7.holds Tryd.pinned (.plain (OpenSpec.ofChange fnExactEventUnpackSpec)) fnExactEventUnpackCard

/-- THE SECOND FORM's CARD OF 'laws.FnExactEventOk'. -/
def fnExactEventOkUptoCard : Claim7 := { stood := { row := fnExactEventOkUptoRow, standIns := [], harness := (true, "2fcb4b3dd1ef12d5179494b60cb883bf139ab36581714e3976c3d819f7fb2c91"), looks := false }, kinds := [], alts := [], laidByText := true, laidKinds := [.data], laidTests := true, laidLooks := .later }
def FnExactEventOkUptoCardSaid : Prop := Claim7.holds Tryd.pinned (.plain (OpenSpec.upto fnExactEventOkSpec)) fnExactEventOkUptoCard

/-- THE SECOND FORM's CARD OF 'laws.FnExactEventPack'. -/
def fnExactEventPackUptoCard : Claim7 := { stood := { row := fnExactEventPackUptoRow, standIns := [], harness := (true, "2fcb4b3dd1ef12d5179494b60cb883bf139ab36581714e3976c3d819f7fb2c91"), looks := false }, kinds := [], alts := [], laidByText := true, laidKinds := [.data], laidTests := true, laidLooks := .later }
def FnExactEventPackUptoCardSaid : Prop := Claim7.holds Tryd.pinned (.plain (OpenSpec.upto fnExactEventPackSpec)) fnExactEventPackUptoCard

/-- THE SECOND FORM's CARD OF 'laws.FnExactEventUnpack'. -/
def fnExactEventUnpackUptoCard : Claim7 := { stood := { row := fnExactEventUnpackUptoRow, standIns := [], harness := (true, "2fcb4b3dd1ef12d5179494b60cb883bf139ab36581714e3976c3d819f7fb2c91"), looks := false }, kinds := [], alts := [], laidByText := true, laidKinds := [.data], laidTests := true, laidLooks := .later }
def FnExactEventUnpackUptoCardSaid : Prop := Claim7.holds Tryd.pinned (.plain (OpenSpec.upto fnExactEventUnpackSpec)) fnExactEventUnpackUptoCard
end Rows
end Go.Proofs.YtffdofllebbcgaaDoor
