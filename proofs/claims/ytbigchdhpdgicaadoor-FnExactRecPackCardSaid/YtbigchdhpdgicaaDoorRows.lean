/-
  NARROWER THAN 'FOR EVERY INPUT', by the rows' own cells (each row's printed sentence says how): FnExactRecOk: loops, laid · FnExactRecPack: loops, laid.
  DERIVED. THE GIVEN ROWS OF THIS SEAT. 2 by the template 'for every input the law returns true; each argument reads behind the call as it read before'; 0 by the template 'total and deterministic' (their statements: YtbigchdhpdgicaaDoorTotals.lean).
  GIVEN WITH THE SEED: the statements are not yours to turn. If you find one false, say at which input.
  Laid BY PROGRAM, IN A SANDBOX (cutbox-rows.mjs): the forced cells as the released guide's own fill.sh prints them over the translation 1e0a404f682816d0… (all of the seat's roots in one cut). By AI agents, Wed Nov 11 2026. No macro, syntax, notation, axiom, sorry.
-/
import Derived.Test.YtbigchdhpdgicaaDoorChecked
import GoSem.Claim
import GoSem.ClaimJoined
import GoSem.ClaimMapViews
import Derived.JoinedTies
import Derived.KernelRfl
namespace Go.Proofs.YtbigchdhpdgicaaDoor
/- THE CELL 'sum', in the pinned program and in every row, IS THE sha256 OF THE DUMP (.gsa) THAT YtbigchdhpdgicaaDoorProg.lean LOADS. Nothing in Lean hashes anything: it is a label: what it is worth is what the hold of that sum in a sandbox is worth. -/
noncomputable def Tryd.pinned : Pinned := { name := "ytbigchdhpdgicaadoor", sum := "1e0a404f682816d056019232c7db9c69c08e9fbba5decbf3e5f5e8483f14bf92", checked := Tryd.checked }
namespace Rows
def none {H : Type} : Left H := { results := [], args := [] }

/- WHAT THE LISTED PACKAGE-LEVEL VARIABLES READ AS WHEN THE CALL BEGINS. Each datum BY PROGRAM (the guide's laid-datum.mjs) off the statement by which the dump's own 'gosem.cut.vars' lays the variable. In a bare row this is a premise. The card (YtbigchdhpdgicaaDoorCards.lean) ties it to the program's text. -/
def laid_loop_example_teagle_impl_treeFields {H : Type} : DataW H := .agg [.agg [.lit (.bool false), .lit (.bool false), .lit (.bool false), .lit (.bool false)], .agg [.lit (.bool true), .lit (.bool false), .lit (.bool false), .lit (.bool false)], .agg [.lit (.bool false), .lit (.bool true), .lit (.bool false), .lit (.bool false)], .agg [.lit (.bool true), .lit (.bool false), .lit (.bool false), .lit (.bool false)], .agg [.lit (.bool false), .lit (.bool false), .lit (.bool false), .lit (.bool true)], .agg [.lit (.bool false), .lit (.bool false), .lit (.bool true), .lit (.bool true)], .agg [.lit (.bool false), .lit (.bool false), .lit (.bool false), .lit (.bool true)]]

/-- 'laws.FnExactRecOk': WHATEVER THE INPUT: true; the input reads as it did. -/
def fnExactRecOkSpec : ChangeSpec := { name := "fnExactRecOk", vars := ["loop.example/teagle/impl.treeFields"], fn := fun _ => fun
  | [d, g1] => { results := [.lit (.bool true)], args := [d], vars := [g1] }
  | _ => none }
def fnExactRecOkRow : OpenClaim := { program := "ytbigchdhpdgicaadoor", sum := "1e0a404f682816d056019232c7db9c69c08e9fbba5decbf3e5f5e8483f14bf92", func := "loop.example/teagle/laws.FnExactRecOk", spec := "fnExactRecOk", unfollowed := true, recurses := true, named := ["loop.example/teagle/impl.treeFields"], loops := true, apart := false, laid := [("loop.example/teagle/impl.treeFields", laid_loop_example_teagle_impl_treeFields)] }
def FnExactRecOkSaid : Prop := fnExactRecOkRow.holds Tryd.pinned (OpenSpec.ofChange fnExactRecOkSpec)

/-- ITS FALSE NEIGHBOUR: 'it returns false'. Refute it at one input. -/
def fnExactRecOkWrong : ChangeSpec := { name := "fnExactRecOk", vars := ["loop.example/teagle/impl.treeFields"], fn := fun _ => fun
  | [d, g1] => { results := [.lit (.bool false)], args := [d], vars := [g1] }
  | _ => none }
def FnExactRecOkWrongFalsely : Prop := fnExactRecOkRow.holds Tryd.pinned (OpenSpec.ofChange fnExactRecOkWrong)

/-- 'laws.FnExactRecPack': WHATEVER THE INPUT: true; the input reads as it did. -/
def fnExactRecPackSpec : ChangeSpec := { name := "fnExactRecPack", vars := ["loop.example/teagle/impl.treeFields"], fn := fun _ => fun
  | [d, g1] => { results := [.lit (.bool true)], args := [d], vars := [g1] }
  | _ => none }
def fnExactRecPackRow : OpenClaim := { program := "ytbigchdhpdgicaadoor", sum := "1e0a404f682816d056019232c7db9c69c08e9fbba5decbf3e5f5e8483f14bf92", func := "loop.example/teagle/laws.FnExactRecPack", spec := "fnExactRecPack", unfollowed := true, recurses := true, named := ["loop.example/teagle/impl.treeFields"], loops := true, apart := false, laid := [("loop.example/teagle/impl.treeFields", laid_loop_example_teagle_impl_treeFields)] }
def FnExactRecPackSaid : Prop := fnExactRecPackRow.holds Tryd.pinned (OpenSpec.ofChange fnExactRecPackSpec)

/-- ITS FALSE NEIGHBOUR: 'it returns false'. Refute it at one input. -/
def fnExactRecPackWrong : ChangeSpec := { name := "fnExactRecPack", vars := ["loop.example/teagle/impl.treeFields"], fn := fun _ => fun
  | [d, g1] => { results := [.lit (.bool false)], args := [d], vars := [g1] }
  | _ => none }
def FnExactRecPackWrongFalsely : Prop := fnExactRecPackRow.holds Tryd.pinned (OpenSpec.ofChange fnExactRecPackWrong)

/- THE SECOND FORM. 'bulk': how many values and letters a reading holds, each counted each time it is reached (what is shared counts as often as it is met; a slice's spare places count too). A statement '..UptoSaid' is the law's where the arguments, and the package variables that the reading takes, are together of bulk at most 1048576: NARROWER than '..Said'. Prove '..Said' where nothing that the law and all that it calls make is longer than what came in: it says more and counts as full. Else prove '..UptoSaid'. A law counts once. -/
mutual
def uptoBulk {H : Type} : DataW H → Nat
  | .lit (.string bytes) => bytes.length + 1
  | .lit _ => 1
  | .nil => 1
  | .ptr d => uptoBulk d + 1
  | .slice elems spare => uptoBulkAll elems + uptoBulkAll spare + 1
  | .agg parts => uptoBulkAll parts + 1
  | .iface _ d => uptoBulk d + 1
  | .map entries => uptoBulkEntries entries + 1
  | .held _ => 1
def uptoBulkAll {H : Type} : List (DataW H) → Nat
  | [] => 0
  | d :: r => uptoBulk d + uptoBulkAll r
def uptoBulkEntries {H : Type} : List (Lit × DataW H) → Nat
  | [] => 0
  | x :: r => uptoBulkEntry x + uptoBulkEntries r
def uptoBulkEntry {H : Type} : Lit × DataW H → Nat
  | (.string bytes, d) => bytes.length + uptoBulk d + 1
  | (_, d) => uptoBulk d + 1
 end
def uptoSmall : (H : Type) → List (DataW H) → Bool := fun _ ds => decide (uptoBulkAll ds ≤ 1048576)
def OpenSpec.upto (s : _root_.Go.ChangeSpec) : _root_.Go.OpenSpec := { _root_.Go.OpenSpec.ofChange s with cond := some uptoSmall }

/-- 'laws.FnExactRecOk', WHERE WHAT IT READS IS OF BULK AT MOST 1048576: true; the input reads as it did. -/
def fnExactRecOkUptoRow : OpenClaim := { program := "ytbigchdhpdgicaadoor", sum := "1e0a404f682816d056019232c7db9c69c08e9fbba5decbf3e5f5e8483f14bf92", func := "loop.example/teagle/laws.FnExactRecOk", spec := "fnExactRecOk", unfollowed := true, recurses := true, named := ["loop.example/teagle/impl.treeFields"], loops := true, apart := false, laid := [("loop.example/teagle/impl.treeFields", laid_loop_example_teagle_impl_treeFields)], narrowed := true }
def FnExactRecOkUptoSaid : Prop := fnExactRecOkUptoRow.holds Tryd.pinned (OpenSpec.upto fnExactRecOkSpec)

/-- 'laws.FnExactRecPack', WHERE WHAT IT READS IS OF BULK AT MOST 1048576: true; the input reads as it did. -/
def fnExactRecPackUptoRow : OpenClaim := { program := "ytbigchdhpdgicaadoor", sum := "1e0a404f682816d056019232c7db9c69c08e9fbba5decbf3e5f5e8483f14bf92", func := "loop.example/teagle/laws.FnExactRecPack", spec := "fnExactRecPack", unfollowed := true, recurses := true, named := ["loop.example/teagle/impl.treeFields"], loops := true, apart := false, laid := [("loop.example/teagle/impl.treeFields", laid_loop_example_teagle_impl_treeFields)], narrowed := true }
def FnExactRecPackUptoSaid : Prop := fnExactRecPackUptoRow.holds Tryd.pinned (OpenSpec.upto fnExactRecPackSpec)

end Rows
end Go.Proofs.YtbigchdhpdgicaaDoor
