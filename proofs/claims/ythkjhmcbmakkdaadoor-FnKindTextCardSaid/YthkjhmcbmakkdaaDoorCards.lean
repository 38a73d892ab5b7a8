/-
  DERIVED. GIVEN WITH THE SEED: THE CARDS: each row of YthkjhmcbmakkdaaDoorRows.lean that lists a variable, with what it lists TIED to the program's text (the seventh form; the later family's looks); each row that meets fmt, with fmt's text TOLD by the authors' own Lean function (tested against real Go, not proved from fmt's source: count such statements apart). THE CARD IS WHAT COUNTS. Prove the row's statement (the work); the ties are given (YthkjhmcbmakkdaaDoorTie.lean); close each card by the builder's one call (the guide's Derived/Test/ToyasCard.lean, 'card_holds'). Laid BY PROGRAM, IN A SANDBOX (cutbox-door.mjs). By AI agents, Wed Nov 11 2026. No macro, syntax, notation, axiom, sorry.
-/
import Derived.Test.YthkjhmcbmakkdaaDoorRows
import GoSem.ClaimSeven
namespace Go.Proofs.YthkjhmcbmakkdaaDoor
namespace Rows

/-- THE TIED CARD OF 'laws.FnKindText'. -/
def fnKindTextCard : Claim7 := { stood := { row := fnKindTextRow, standIns := [], harness := (true, "b8455d93af40854f239985fc17366d23e7fd6b5f50a61577a8ef9012dd1edd2c"), looks := false }, kinds := [], alts := [], laidByText := true, laidKinds := [.data], laidTests := true, laidLooks := .later }
def FnKindTextCardSaid : Prop := Claim7.holds Tryd.pinned (.plain (OpenSpec.ofChange fnKindTextSpec)) fnKindTextCard

/-- THE TIED CARD OF 'laws.FnKindFirst'. -/
def fnKindFirstCard : Claim7 := { stood := { row := fnKindFirstRow, standIns := [], harness := (true, "b8455d93af40854f239985fc17366d23e7fd6b5f50a61577a8ef9012dd1edd2c"), looks := false }, kinds := [], alts := [], laidByText := true, laidKinds := [.data], laidTests := true, laidLooks := .later }
def FnKindFirstCardSaid : Prop := Claim7.holds Tryd.pinned (.plain (OpenSpec.ofChange fnKindFirstSpec)) fnKindFirstCard

/-- THE SECOND FORM's CARD OF 'laws.FnKindText'. -/
def fnKindTextUptoCard : Claim7 := { stood := { row := fnKindTextUptoRow, standIns := [], harness := (true, "b8455d93af40854f239985fc17366d23e7fd6b5f50a61577a8ef9012dd1edd2c"), looks := false }, kinds := [], alts := [], laidByText := true, laidKinds := [.data], laidTests := true, laidLooks := .later }
def FnKindTextUptoCardSaid : Prop := Claim7.holds Tryd.pinned (.plain (OpenSpec.upto fnKindTextSpec)) fnKindTextUptoCard

/-- THE SECOND FORM's CARD OF 'laws.FnKindFirst'. -/
def fnKindFirstUptoCard : Claim7 := { stood := { row := fnKindFirstUptoRow, standIns := [], harness := (true, "b8455d93af40854f239985fc17366d23e7fd6b5f50a61577a8ef9012dd1edd2c"), looks := false }, kinds := [], alts := [], laidByText := true, laidKinds := [.data], laidTests := true, laidLooks := .later }
def FnKindFirstUptoCardSaid : Prop := Claim7.holds Tryd.pinned (.plain (OpenSpec.upto fnKindFirstSpec)) fnKindFirstUptoCard
end Rows
end Go.Proofs.YthkjhmcbmakkdaaDoor
