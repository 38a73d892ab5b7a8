/-
  DERIVED. GIVEN WITH THE SEED: THE CARDS: each row of YtgamonfmgngilaaGreatDoorRows.lean that lists a variable, with what it lists TIED to the program's text (the seventh form; the later family's looks); each row that meets fmt, with fmt's text TOLD by the authors' own Lean function (tested against real Go, not proved from fmt's source: count such statements apart). THE CARD IS WHAT COUNTS. Prove the row's statement (the work); the ties are given (YtgamonfmgngilaaGreatDoorTie.lean); close each card by the builder's one call (the guide's Derived/Test/ToyasCard.lean, 'card_holds'). Laid BY PROGRAM, IN A SANDBOX (cutbox-door.mjs). By AI agents, Wed Nov 11 2026. No macro, syntax, notation, axiom, sorry.
-/
import Derived.Test.YtgamonfmgngilaaGreatDoorRows
import GoSem.ClaimSeven
namespace Go.Proofs.YtgamonfmgngilaaGreatDoor
namespace Rows

/-- THE TIED CARD OF 'laws.FnTreeTop'. -/
def fnTreeTopCard : Claim7 := { stood := { row := fnTreeTopRow, standIns := [], harness := (true, "646ed7fd4cbb99db4f1399a5b940b75c107b182dec390d2aed1b20088a1a3fcf"), looks := true }, kinds := [], alts := [], laidByText := true, laidKinds := [.data, .data, .data, .sentinel, .sentinel, .data], laidTests := true, laidLooks := .later }
def FnTreeTopCardSaid : Prop := Claim7.holds Tryz.pinned (.plain (OpenSpec.ofChange fnTreeTopSpec)) fnTreeTopCard

/-- THE TIED CARD OF 'laws.FnTreeStrict'. -/
def fnTreeStrictCard : Claim7 := { stood := { row := fnTreeStrictRow, standIns := [], harness := (true, "646ed7fd4cbb99db4f1399a5b940b75c107b182dec390d2aed1b20088a1a3fcf"), looks := true }, kinds := [], alts := [], laidByText := true, laidKinds := [.data, .data, .data, .sentinel, .sentinel, .data], laidTests := true, laidLooks := .later }
def FnTreeStrictCardSaid : Prop := Claim7.holds Tryz.pinned (.plain (OpenSpec.ofChange fnTreeStrictSpec)) fnTreeStrictCard

/-- THE TIED CARD OF 'laws.FnExactEventRead'. -/
def fnExactEventReadCard : Claim7 := { stood := { row := fnExactEventReadRow, standIns := [], harness := (true, "646ed7fd4cbb99db4f1399a5b940b75c107b182dec390d2aed1b20088a1a3fcf"), looks := true }, kinds := [], alts := [], laidByText := true, laidKinds := [.data, .data, .data, .sentinel, .sentinel, .data], laidTests := true, laidLooks := .later }
def FnExactEventReadCardSaid : Prop := Claim7.holds Tryz.pinned (.plain (OpenSpec.ofChange fnExactEventReadSpec)) fnExactEventReadCard

/-- THE SECOND FORM's CARD OF 'laws.FnTreeTop'. -/
def fnTreeTopUptoCard : Claim7 := { stood := { row := fnTreeTopUptoRow, standIns := [], harness := (true, "646ed7fd4cbb99db4f1399a5b940b75c107b182dec390d2aed1b20088a1a3fcf"), looks := true }, kinds := [], alts := [], laidByText := true, laidKinds := [.data, .data, .data, .sentinel, .sentinel, .data], laidTests := true, laidLooks := .later }
def FnTreeTopUptoCardSaid : Prop := Claim7.holds Tryz.pinned (.plain (OpenSpec.upto fnTreeTopSpec)) fnTreeTopUptoCard

/-- THE SECOND FORM's CARD OF 'laws.FnTreeStrict'. -/
def fnTreeStrictUptoCard : Claim7 := { stood := { row := fnTreeStrictUptoRow, standIns := [], harness := (true, "646ed7fd4cbb99db4f1399a5b940b75c107b182dec390d2aed1b20088a1a3fcf"), looks := true }, kinds := [], alts := [], laidByText := true, laidKinds := [.data, .data, .data, .sentinel, .sentinel, .data], laidTests := true, laidLooks := .later }
def FnTreeStrictUptoCardSaid : Prop := Claim7.holds Tryz.pinned (.plain (OpenSpec.upto fnTreeStrictSpec)) fnTreeStrictUptoCard

/-- THE SECOND FORM's CARD OF 'laws.FnExactEventRead'. -/
def fnExactEventReadUptoCard : Claim7 := { stood := { row := fnExactEventReadUptoRow, standIns := [], harness := (true, "646ed7fd4cbb99db4f1399a5b940b75c107b182dec390d2aed1b20088a1a3fcf"), looks := true }, kinds := [], alts := [], laidByText := true, laidKinds := [.data, .data, .data, .sentinel, .sentinel, .data], laidTests := true, laidLooks := .later }
def FnExactEventReadUptoCardSaid : Prop := Claim7.holds Tryz.pinned (.plain (OpenSpec.upto fnExactEventReadSpec)) fnExactEventReadUptoCard
end Rows
end Go.Proofs.YtgamonfmgngilaaGreatDoor
