/-
  DERIVED. GIVEN WITH THE SEED: THE CARDS: each row of YtjlllkigeandeaaDoorRows.lean that lists a variable, with what it lists TIED to the program's text (the seventh form; the later family's looks); each row that meets fmt, with fmt's text TOLD by the authors' own Lean function (tested against real Go, not proved from fmt's source: count such statements apart). THE CARD IS WHAT COUNTS. Prove the row's statement (the work); the ties are given (YtjlllkigeandeaaDoorTie.lean); close each card by the builder's one call (the guide's Derived/Test/ToyasCard.lean, 'card_holds'). Laid BY PROGRAM, IN A SANDBOX (cutbox-door.mjs). By AI agents, Wed Nov 11 2026. No macro, syntax, notation, axiom, sorry.
-/
import Derived.Test.YtjlllkigeandeaaDoorRows
import GoSem.ClaimSeven
namespace Go.Proofs.YtjlllkigeandeaaDoor
namespace Rows

/-- THE TIED CARD OF 'laws.FnExactTreeOk'. -/
def fnExactTreeOkCard : Claim7 := { stood := { row := fnExactTreeOkRow, standIns := [], harness := (true, "3c4f433db56725dce3542f8fcfb3e7c6710f807df72c299fd614511edcbe6262"), looks := false }, kinds := [], alts := [], laidByText := true, laidKinds := [.data], laidTests := true, laidLooks := .later }
def FnExactTreeOkCardSaid : Prop := Claim7.holds Tryd.pinned (.plain (OpenSpec.ofChange fnExactTreeOkSpec)) fnExactTreeOkCard

/-- THE TIED CARD OF 'laws.FnExactTreeParts'. -/
def fnExactTreePartsCard : Claim7 := { stood := { row := fnExactTreePartsRow, standIns := [], harness := (true, "3c4f433db56725dce3542f8fcfb3e7c6710f807df72c299fd614511edcbe6262"), looks := false }, kinds := [], alts := [], laidByText := true, laidKinds := [.data], laidTests := true, laidLooks := .later }
def FnExactTreePartsCardSaid : Prop := Claim7.holds Tryd.pinned (.plain (OpenSpec.ofChange fnExactTreePartsSpec)) fnExactTreePartsCard

/-- THE TIED CARD OF 'laws.FnExactKindWrite'. -/
def fnExactKindWriteCard : Claim7 := { stood := { row := fnExactKindWriteRow, standIns := [], harness := (true, "3c4f433db56725dce3542f8fcfb3e7c6710f807df72c299fd614511edcbe6262"), looks := false }, kinds := [], alts := [], laidByText := true, laidKinds := [.data], laidTests := true, laidLooks := .later }
def FnExactKindWriteCardSaid : Prop := Claim7.holds Tryd.pinned (.plain (OpenSpec.ofChange fnExactKindWriteSpec)) fnExactKindWriteCard

/-- THE TIED CARD OF 'laws.FnExactKindRead'. -/
def fnExactKindReadCard : Claim7 := { stood := { row := fnExactKindReadRow, standIns := [], harness := (true, "3c4f433db56725dce3542f8fcfb3e7c6710f807df72c299fd614511edcbe6262"), looks := false }, kinds := [], alts := [], laidByText := true, laidKinds := [.data], laidTests := true, laidLooks := .later }
def FnExactKindReadCardSaid : Prop := Claim7.holds Tryd.pinned (.plain (OpenSpec.ofChange fnExactKindReadSpec)) fnExactKindReadCard

/-- THE SECOND FORM's CARD OF 'laws.FnExactTreeOk'. -/
def fnExactTreeOkUptoCard : Claim7 := { stood := { row := fnExactTreeOkUptoRow, standIns := [], harness := (true, "3c4f433db56725dce3542f8fcfb3e7c6710f807df72c299fd614511edcbe6262"), looks := false }, kinds := [], alts := [], laidByText := true, laidKinds := [.data], laidTests := true, laidLooks := .later }
def FnExactTreeOkUptoCardSaid : Prop := Claim7.holds Tryd.pinned (.plain (OpenSpec.upto fnExactTreeOkSpec)) fnExactTreeOkUptoCard

/-- THE SECOND FORM's CARD OF 'laws.FnExactTreeParts'. -/
def fnExactTreePartsUptoCard : Claim7 := { stood := { row := fnExactTreePartsUptoRow, standIns := [], harness := (true, "3c4f433db56725dce3542f8fcfb3e7c6710f807df72c299fd614511edcbe6262"), looks := false }, kinds := [], alts := [], laidByText := true, laidKinds := [.data], laidTests := true, laidLooks := .later }
def FnExactTreePartsUptoCardSaid : Prop := Claim7.holds Tryd.pinned (.plain (OpenSpec.upto fnExactTreePartsSpec)) fnExactTreePartsUptoCard

/-- THE SECOND FORM's CARD OF 'laws.FnExactKindWrite'. -/
def fnExactKindWriteUptoCard : Claim7 := { stood := { row := fnExactKindWriteUptoRow, standIns := [], harness := (true, "3c4f433db56725dce3542f8fcfb3e7c6710f807df72c299fd614511edcbe6262"), looks := false }, kinds := [], alts := [], laidByText := true, laidKinds := [.data], laidTests := true, laidLooks := .later }
def FnExactKindWriteUptoCardSaid : Prop := Claim7.holds Tryd.pinned (.plain (OpenSpec.upto fnExactKindWriteSpec)) fnExactKindWriteUptoCard

/-- THE SECOND FORM's CARD OF 'laws.FnExactKindRead'. -/
def fnExactKindReadUptoCard : Claim7 := { stood := { row := fnExactKindReadUptoRow, standIns := [], harness := (true, "3c4f433db56725dce3542f8fcfb3e7c6710f807df72c299fd614511edcbe6262"), looks := false }, kinds := [], alts := [], laidByText := true, laidKinds := [.data], laidTests := true, laidLooks := .later }
def FnExactKindReadUptoCardSaid : Prop := Claim7.holds Tryd.pinned (.plain (OpenSpec.upto fnExactKindReadSpec)) fnExactKindReadUptoCard
end Rows
end Go.Proofs.YtjlllkigeandeaaDoor
