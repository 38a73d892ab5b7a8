/-
  DERIVED. GIVEN WITH THE SEED: THE CARDS: each row of YtbigchdhpdgicaaDoorRows.lean that lists a variable, with what it lists TIED to the program's text (the seventh form; the later family's looks); each row that meets fmt, with fmt's text TOLD by the authors' own Lean function (tested against real Go, not proved from fmt's source: count such statements apart). THE CARD IS WHAT COUNTS. Prove the row's statement (the work); the ties are given (YtbigchdhpdgicaaDoorTie.lean); close each card by the builder's one call (the guide's Derived/Test/ToyasCard.lean, 'card_holds'). Laid BY PROGRAM, IN A SANDBOX (cutbox-door.mjs). By AI agents, Wed Nov 11 2026. No macro, syntax, notation, axiom, sorry.
-/
import Derived.Test.YtbigchdhpdgicaaDoorRows
import GoSem.ClaimSeven
namespace Go.Proofs.YtbigchdhpdgicaaDoor
namespace Rows

/-- THE TIED CARD OF 'laws.FnExactRecOk'. -/
def fnExactRecOkCard : Claim7 := { stood := { row := fnExactRecOkRow, standIns := [], harness := (true, "c654c25b204d4d395b124e6446d8bedc358a050ec5856c83f876c7149e14651a"), looks := true }, kinds := [], alts := [], laidByText := true, laidKinds := [.data], laidTests := true, laidLooks := .later }
def FnExactRecOkCardSaid : Prop := Claim7.holds Tryd.pinned (.plain (OpenSpec.ofChange fnExactRecOkSpec)) fnExactRecOkCard

/-- THE TIED CARD OF 'laws.FnExactRecPack'. -/
def fnExactRecPackCard : Claim7 := { stood := { row := fnExactRecPackRow, standIns := [], harness := (true, "c654c25b204d4d395b124e6446d8bedc358a050ec5856c83f876c7149e14651a"), looks := true }, kinds := [], alts := [], laidByText := true, laidKinds := [.data], laidTests := true, laidLooks := .later }
def FnExactRecPackCardSaid : Prop := Claim7.holds Tryd.pinned (.plain (OpenSpec.ofChange fnExactRecPackSpec)) fnExactRecPackCard

/-- THE SECOND FORM's CARD OF 'laws.FnExactRecOk'. -/
def fnExactRecOkUptoCard : Claim7 := { stood := { row := fnExactRecOkUptoRow, standIns := [], harness := (true, "c654c25b204d4d395b124e6446d8bedc358a050ec5856c83f876c7149e14651a"), looks := true }, kinds := [], alts := [], laidByText := true, laidKinds := [.data], laidTests := true, laidLooks := .later }
def FnExactRecOkUptoCardSaid : Prop := Claim7.holds Tryd.pinned (.plain (OpenSpec.upto fnExactRecOkSpec)) fnExactRecOkUptoCard

/-- THE SECOND FORM's CARD OF 'laws.FnExactRecPack'. -/
def fnExactRecPackUptoCard : Claim7 := { stood := { row := fnExactRecPackUptoRow, standIns := [], harness := (true, "c654c25b204d4d395b124e6446d8bedc358a050ec5856c83f876c7149e14651a"), looks := true }, kinds := [], alts := [], laidByText := true, laidKinds := [.data], laidTests := true, laidLooks := .later }
def FnExactRecPackUptoCardSaid : Prop := Claim7.holds Tryd.pinned (.plain (OpenSpec.upto fnExactRecPackSpec)) fnExactRecPackUptoCard
end Rows
end Go.Proofs.YtbigchdhpdgicaaDoor
