/-
  DERIVED. GIVEN WITH THE SEED: THE CARDS: each row of YtbghmemhgmlokaaDoorRows.lean that lists a variable, with what it lists TIED to the program's text (the seventh form; the later family's looks); each row that meets fmt, with fmt's text TOLD by the authors' own Lean function (tested against real Go, not proved from fmt's source: count such statements apart). THE CARD IS WHAT COUNTS. Prove the row's statement (the work); the ties are given (YtbghmemhgmlokaaDoorTie.lean); close each card by the builder's one call (the guide's Derived/Test/ToyasCard.lean, 'card_holds'). Laid BY PROGRAM, IN A SANDBOX (cutbox-door.mjs). By AI agents, Wed Nov 11 2026. No macro, syntax, notation, axiom, sorry.
-/
import Derived.Test.YtbghmemhgmlokaaDoorRows
import GoSem.ClaimSeven
namespace Go.Proofs.YtbghmemhgmlokaaDoor
namespace Rows

/-- THE TIED CARD OF 'laws.FnExactTreeOk'. -/
def fnExactTreeOkCard : Claim7 := { stood := { row := fnExactTreeOkRow, standIns := [], harness := (true, "7944cbf54c5a22d5ce6639c0471dbf0449825a0984b4cb48db18ad58ffab6778"), looks := true }, kinds := [], alts := [], laidByText := true, laidKinds := [.data], laidTests := true, laidLooks := .later }
def FnExactTreeOkCardSaid : Prop := Claim7.holds Tryd.pinned (.plain (OpenSpec.ofChange fnExactTreeOkSpec)) fnExactTreeOkCard

/-- THE TIED CARD OF 'laws.FnExactTreeParts'. -/
def fnExactTreePartsCard : Claim7 := { stood := { row := fnExactTreePartsRow, standIns := [], harness := (true, "7944cbf54c5a22d5ce6639c0471dbf0449825a0984b4cb48db18ad58ffab6778"), looks := true }, kinds := [], alts := [], laidByText := true, laidKinds := [.data], laidTests := true, laidLooks := .later }
def FnExactTreePartsCardSaid : Prop := Claim7.holds Tryd.pinned (.plain (OpenSpec.ofChange fnExactTreePartsSpec)) fnExactTreePartsCard

/-- THE TIED CARD OF 'laws.FnExactTreeWrite'. -/
def fnExactTreeWriteCard : Claim7 := { stood := { row := fnExactTreeWriteRow, standIns := [], harness := (true, "7944cbf54c5a22d5ce6639c0471dbf0449825a0984b4cb48db18ad58ffab6778"), looks := true }, kinds := [], alts := [], laidByText := true, laidKinds := [.data], laidTests := true, laidLooks := .later }
def FnExactTreeWriteCardSaid : Prop := Claim7.holds Tryd.pinned (.plain (OpenSpec.ofChange fnExactTreeWriteSpec)) fnExactTreeWriteCard

/-- THE TIED CARD OF 'laws.FnExactTreeRead'. -/
def fnExactTreeReadCard : Claim7 := { stood := { row := fnExactTreeReadRow, standIns := [], harness := (true, "7944cbf54c5a22d5ce6639c0471dbf0449825a0984b4cb48db18ad58ffab6778"), looks := true }, kinds := [], alts := [], laidByText := true, laidKinds := [.data, .data, .data, .sentinel, .sentinel], laidTests := true, laidLooks := .later }
def FnExactTreeReadCardSaid : Prop := Claim7.holds Tryd.pinned (.plain (OpenSpec.ofChange fnExactTreeReadSpec)) fnExactTreeReadCard

/-- THE SECOND FORM's CARD OF 'laws.FnExactTreeOk'. -/
def fnExactTreeOkUptoCard : Claim7 := { stood := { row := fnExactTreeOkUptoRow, standIns := [], harness := (true, "7944cbf54c5a22d5ce6639c0471dbf0449825a0984b4cb48db18ad58ffab6778"), looks := true }, kinds := [], alts := [], laidByText := true, laidKinds := [.data], laidTests := true, laidLooks := .later }
def FnExactTreeOkUptoCardSaid : Prop := Claim7.holds Tryd.pinned (.plain (OpenSpec.upto fnExactTreeOkSpec)) fnExactTreeOkUptoCard

/-- THE SECOND FORM's CARD OF 'laws.FnExactTreeParts'. -/
def fnExactTreePartsUptoCard : Claim7 := { stood := { row := fnExactTreePartsUptoRow, standIns := [], harness := (true, "7944cbf54c5a22d5ce6639c0471dbf0449825a0984b4cb48db18ad58ffab6778"), looks := true }, kinds := [], alts := [], laidByText := true, laidKinds := [.data], laidTests := true, laidLooks := .later }
def FnExactTreePartsUptoCardSaid : Prop := Claim7.holds Tryd.pinned (.plain (OpenSpec.upto fnExactTreePartsSpec)) fnExactTreePartsUptoCard

/-- THE SECOND FORM's CARD OF 'laws.FnExactTreeWrite'. -/
def fnExactTreeWriteUptoCard : Claim7 := { stood := { row := fnExactTreeWriteUptoRow, standIns := [], harness := (true, "7944cbf54c5a22d5ce6639c0471dbf0449825a0984b4cb48db18ad58ffab6778"), looks := true }, kinds := [], alts := [], laidByText := true, laidKinds := [.data], laidTests := true, laidLooks := .later }
def FnExactTreeWriteUptoCardSaid : Prop := Claim7.holds Tryd.pinned (.plain (OpenSpec.upto fnExactTreeWriteSpec)) fnExactTreeWriteUptoCard

/-- THE SECOND FORM's CARD OF 'laws.FnExactTreeRead'. -/
def fnExactTreeReadUptoCard : Claim7 := { stood := { row := fnExactTreeReadUptoRow, standIns := [], harness := (true, "7944cbf54c5a22d5ce6639c0471dbf0449825a0984b4cb48db18ad58ffab6778"), looks := true }, kinds := [], alts := [], laidByText := true, laidKinds := [.data, .data, .data, .sentinel, .sentinel], laidTests := true, laidLooks := .later }
def FnExactTreeReadUptoCardSaid : Prop := Claim7.holds Tryd.pinned (.plain (OpenSpec.upto fnExactTreeReadSpec)) fnExactTreeReadUptoCard
end Rows
end Go.Proofs.YtbghmemhgmlokaaDoor
