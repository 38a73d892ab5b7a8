/-
  DERIVED. GIVEN WITH THE SEED: THE CARDS: each row of YtfjiannabnonjaaDoorRows.lean that lists a variable, with what it lists TIED to the program's text (the seventh form; the later family's looks); each row that meets fmt, with fmt's text TOLD by the authors' own Lean function (tested against real Go, not proved from fmt's source: count such statements apart). THE CARD IS WHAT COUNTS. Prove the row's statement (the work); the ties are given (YtfjiannabnonjaaDoorTie.lean); close each card by the builder's one call (the guide's Derived/Test/ToyasCard.lean, 'card_holds'). Laid BY PROGRAM, IN A SANDBOX (cutbox-door.mjs). By AI agents, Wed Nov 11 2026. No macro, syntax, notation, axiom, sorry.
-/
import Derived.Test.YtfjiannabnonjaaDoorRows
import GoSem.ClaimSeven
namespace Go.Proofs.YtfjiannabnonjaaDoor
namespace Rows

/-- THE TIED CARD OF 'laws.FnKindFirst'. -/
def fnKindFirstCard : Claim7 := { stood := { row := fnKindFirstRow, standIns := [], harness := (true, "d52ad68443a4deb6c085f247d416e196cdf1feeb042639682a8729559eaa98dc"), looks := false }, kinds := [], alts := [], laidByText := true, laidKinds := [.data], laidTests := true, laidLooks := .later }
def FnKindFirstCardSaid : Prop := Claim7.holds Tryd.pinned (.plain (OpenSpec.ofChange fnKindFirstSpec)) fnKindFirstCard

/-- THE TIED CARD OF 'laws.FnExactKindRead'. -/
def fnExactKindReadCard : Claim7 := { stood := { row := fnExactKindReadRow, standIns := [], harness := (true, "d52ad68443a4deb6c085f247d416e196cdf1feeb042639682a8729559eaa98dc"), looks := false }, kinds := [], alts := [], laidByText := true, laidKinds := [.data], laidTests := true, laidLooks := .later }
def FnExactKindReadCardSaid : Prop := Claim7.holds Tryd.pinned (.plain (OpenSpec.ofChange fnExactKindReadSpec)) fnExactKindReadCard

/-- THE TIED CARD OF 'laws.FnExactKindHas'. -/
def fnExactKindHasCard : Claim7 := { stood := { row := fnExactKindHasRow, standIns := [], harness := (true, "d52ad68443a4deb6c085f247d416e196cdf1feeb042639682a8729559eaa98dc"), looks := false }, kinds := [], alts := [], laidByText := true, laidKinds := [.data], laidTests := true, laidLooks := .later }
def FnExactKindHasCardSaid : Prop := Claim7.holds Tryd.pinned (.plain (OpenSpec.ofChange fnExactKindHasSpec)) fnExactKindHasCard

/-- THE SECOND FORM's CARD OF 'laws.FnKindFirst'. -/
def fnKindFirstUptoCard : Claim7 := { stood := { row := fnKindFirstUptoRow, standIns := [], harness := (true, "d52ad68443a4deb6c085f247d416e196cdf1feeb042639682a8729559eaa98dc"), looks := false }, kinds := [], alts := [], laidByText := true, laidKinds := [.data], laidTests := true, laidLooks := .later }
def FnKindFirstUptoCardSaid : Prop := Claim7.holds Tryd.pinned (.plain (OpenSpec.upto fnKindFirstSpec)) fnKindFirstUptoCard

/-- THE SECOND FORM's CARD OF 'laws.FnExactKindRead'. -/
def fnExactKindReadUptoCard : Claim7 := { stood := { row := fnExactKindReadUptoRow, standIns := [], harness := (true, "d52ad68443a4deb6c085f247d416e196cdf1feeb042639682a8729559eaa98dc"), looks := false }, kinds := [], alts := [], laidByText := true, laidKinds := [.data], laidTests := true, laidLooks := .later }
def FnExactKindReadUptoCardSaid : Prop := Claim7.holds Tryd.pinned (.plain (OpenSpec.upto fnExactKindReadSpec)) fnExactKindReadUptoCard

/-- THE SECOND FORM's CARD OF 'laws.FnExactKindHas'. -/
def fnExactKindHasUptoCard : Claim7 := { stood := { row := fnExactKindHasUptoRow, standIns := [], harness := (true, "d52ad68443a4deb6c085f247d416e196cdf1feeb042639682a8729559eaa98dc"), looks := false }, kinds := [], alts := [], laidByText := true, laidKinds := [.data], laidTests := true, laidLooks := .later }
def FnExactKindHasUptoCardSaid : Prop := Claim7.holds Tryd.pinned (.plain (OpenSpec.upto fnExactKindHasSpec)) fnExactKindHasUptoCard
end Rows
end Go.Proofs.YtfjiannabnonjaaDoor
