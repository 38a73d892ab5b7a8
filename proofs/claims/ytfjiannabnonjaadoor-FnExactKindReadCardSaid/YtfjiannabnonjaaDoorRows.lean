/-
  NARROWER THAN 'FOR EVERY INPUT', by the rows' own cells (each row's printed sentence says how): FnKindFirst: laid · FnExactKindRead: laid · FnExactKindHas: loops, laid.
  DERIVED. THE GIVEN ROWS OF THIS SEAT. 3 by the template 'for every input the law returns true; each argument reads behind the call as it read before'; 0 by the template 'total and deterministic' (their statements: YtfjiannabnonjaaDoorTotals.lean).
  GIVEN WITH THE SEED: the statements are not yours to turn. If you find one false, say at which input.
  Laid BY PROGRAM, IN A SANDBOX (cutbox-rows.mjs): the forced cells as the released guide's own fill.sh prints them over the translation 98016458a2e5dc74… (all of the seat's roots in one cut). By AI agents, Wed Nov 11 2026. No macro, syntax, notation, axiom, sorry.
-/
import Derived.Test.YtfjiannabnonjaaDoorChecked
import GoSem.Claim
import GoSem.ClaimJoined
import GoSem.ClaimMapViews
import Derived.JoinedTies
import Derived.KernelRfl
namespace Go.Proofs.YtfjiannabnonjaaDoor
/- THE CELL 'sum', in the pinned program and in every row, IS THE sha256 OF THE DUMP (.gsa) THAT YtfjiannabnonjaaDoorProg.lean LOADS. Nothing in Lean hashes anything: it is a label: what it is worth is what the hold of that sum in a sandbox is worth. -/
noncomputable def Tryd.pinned : Pinned := { name := "ytfjiannabnonjaadoor", sum := "98016458a2e5dc74c9d3c70e3cd6ad69e95d228b8e8a1a2831e85289290117c9", checked := Tryd.checked }
namespace Rows
def none {H : Type} : Left H := { results := [], args := [] }

/- WHAT THE LISTED PACKAGE-LEVEL VARIABLES READ AS WHEN THE CALL BEGINS. Each datum BY PROGRAM (the guide's laid-datum.mjs) off the statement by which the dump's own 'gosem.cut.vars' lays the variable. In a bare row this is a premise. The card (YtfjiannabnonjaaDoorCards.lean) ties it to the program's text. -/
def laid_loop_example_teagle_impl_treeFields {H : Type} : DataW H := .agg [.agg [.lit (.bool false), .lit (.bool false), .lit (.bool false), .lit (.bool false)], .agg [.lit (.bool true), .lit (.bool false), .lit (.bool false), .lit (.bool false)], .agg [.lit (.bool false), .lit (.bool true), .lit (.bool false), .lit (.bool false)], .agg [.lit (.bool true), .lit (.bool false), .lit (.bool false), .lit (.bool false)], .agg [.lit (.bool false), .lit (.bool false), .lit (.bool false), .lit (.bool true)], .agg [.lit (.bool false), .lit (.bool false), .lit (.bool true), .lit (.bool true)], .agg [.lit (.bool false), .lit (.bool false), .lit (.bool false), .lit (.bool true)]]
def laid_loop_example_teagle_impl_kindWords {H : Type} : DataW H := .agg [.lit (.string []), .lit (.string [110, 117, 109]), .lit (.string [116, 101, 120, 116]), .lit (.string [102, 108, 97, 103])]

/-- 'laws.FnKindFirst': WHATEVER THE INPUT: true; the input reads as it did. -/
def fnKindFirstSpec : ChangeSpec := { name := "fnKindFirst", vars := ["loop.example/teagle/impl.treeFields"], fn := fun _ => fun
  | [d, g1] => { results := [.lit (.bool true)], args := [d], vars := [g1] }
  | _ => none }
def fnKindFirstRow : OpenClaim := { program := "ytfjiannabnonjaadoor", sum := "98016458a2e5dc74c9d3c70e3cd6ad69e95d228b8e8a1a2831e85289290117c9", func := "loop.example/teagle/laws.FnKindFirst", spec := "fnKindFirst", unfollowed := true, recurses := true, named := ["loop.example/teagle/impl.treeFields"], apart := false, laid := [("loop.example/teagle/impl.treeFields", laid_loop_example_teagle_impl_treeFields)] }
def FnKindFirstSaid : Prop := fnKindFirstRow.holds Tryd.pinned (OpenSpec.ofChange fnKindFirstSpec)

/-- ITS FALSE NEIGHBOUR: 'it returns false'. Refute it at one input. -/
def fnKindFirstWrong : ChangeSpec := { name := "fnKindFirst", vars := ["loop.example/teagle/impl.treeFields"], fn := fun _ => fun
  | [d, g1] => { results := [.lit (.bool false)], args := [d], vars := [g1] }
  | _ => none }
def FnKindFirstWrongFalsely : Prop := fnKindFirstRow.holds Tryd.pinned (OpenSpec.ofChange fnKindFirstWrong)

/-- 'laws.FnExactKindRead': WHATEVER THE INPUT: true; the input reads as it did. -/
def fnExactKindReadSpec : ChangeSpec := { name := "fnExactKindRead", vars := ["loop.example/teagle/impl.kindWords"], fn := fun _ => fun
  | [d, g1] => { results := [.lit (.bool true)], args := [d], vars := [g1] }
  | _ => none }
def fnExactKindReadRow : OpenClaim := { program := "ytfjiannabnonjaadoor", sum := "98016458a2e5dc74c9d3c70e3cd6ad69e95d228b8e8a1a2831e85289290117c9", func := "loop.example/teagle/laws.FnExactKindRead", spec := "fnExactKindRead", unfollowed := true, recurses := true, named := ["loop.example/teagle/impl.kindWords"], apart := false, laid := [("loop.example/teagle/impl.kindWords", laid_loop_example_teagle_impl_kindWords)] }
def FnExactKindReadSaid : Prop := fnExactKindReadRow.holds Tryd.pinned (OpenSpec.ofChange fnExactKindReadSpec)

/-- ITS FALSE NEIGHBOUR: 'it returns false'. Refute it at one input. -/
def fnExactKindReadWrong : ChangeSpec := { name := "fnExactKindRead", vars := ["loop.example/teagle/impl.kindWords"], fn := fun _ => fun
  | [d, g1] => { results := [.lit (.bool false)], args := [d], vars := [g1] }
  | _ => none }
def FnExactKindReadWrongFalsely : Prop := fnExactKindReadRow.holds Tryd.pinned (OpenSpec.ofChange fnExactKindReadWrong)

/-- 'laws.FnExactKindHas': WHATEVER THE INPUT: true; the input reads as it did. -/
def fnExactKindHasSpec : ChangeSpec := { name := "fnExactKindHas", vars := ["loop.example/teagle/impl.treeFields"], fn := fun _ => fun
  | [d1, d2, g1] => { results := [.lit (.bool true)], args := [d1, d2], vars := [g1] }
  | _ => none }
def fnExactKindHasRow : OpenClaim := { program := "ytfjiannabnonjaadoor", sum := "98016458a2e5dc74c9d3c70e3cd6ad69e95d228b8e8a1a2831e85289290117c9", func := "loop.example/teagle/laws.FnExactKindHas", spec := "fnExactKindHas", unfollowed := true, recurses := true, named := ["loop.example/teagle/impl.treeFields"], loops := true, apart := false, laid := [("loop.example/teagle/impl.treeFields", laid_loop_example_teagle_impl_treeFields)] }
def FnExactKindHasSaid : Prop := fnExactKindHasRow.holds Tryd.pinned (OpenSpec.ofChange fnExactKindHasSpec)

/-- ITS FALSE NEIGHBOUR: 'it returns false'. Refute it at one input. -/
def fnExactKindHasWrong : ChangeSpec := { name := "fnExactKindHas", vars := ["loop.example/teagle/impl.treeFields"], fn := fun _ => fun
  | [d1, d2, g1] => { results := [.lit (.bool false)], args := [d1, d2], vars := [g1] }
  | _ => none }
def FnExactKindHasWrongFalsely : Prop := fnExactKindHasRow.holds Tryd.pinned (OpenSpec.ofChange fnExactKindHasWrong)

/- THE SECOND FORM. 'bulk': how many values and letters a reading holds, each counted each time it is reached (what is shared counts as often as it is met; a slice's spare places count too). A statement '..UptoSaid' is the law's where the arguments, and the package variables that the reading takes, are together of bulk at most 1048576: NARROWER than '..Said'. Prove '..Said' where nothing that the law and all that it calls make is longer than what came in: it says more and counts as full. Else prove '..UptoSaid'. A law counts once. -/
mutual
def uptoBulk {H : Type} : DataW H → Nat
  | .lit (.string bytes) => bytes.length + 1
  | .lit _ => 1
  | .nil => 1
  | .ptr d => uptoBulk d + 1
  | .slice elems spare => uptoBulkAll elems + uptoBulkAll spare + 1
  | .agg parts => uptoBulkAll parts + 1
  | .iface _ d => uptoBulk d + 1
  | .map entries => uptoBulkEntries entries + 1
  | .held _ => 1
def uptoBulkAll {H : Type} : List (DataW H) → Nat
  | [] => 0
  | d :: r => uptoBulk d + uptoBulkAll r
def uptoBulkEntries {H : Type} : List (Lit × DataW H) → Nat
  | [] => 0
  | x :: r => uptoBulkEntry x + uptoBulkEntries r
def uptoBulkEntry {H : Type} : Lit × DataW H → Nat
  | (.string bytes, d) => bytes.length + uptoBulk d + 1
  | (_, d) => uptoBulk d + 1
 end
def uptoSmall : (H : Type) → List (DataW H) → Bool := fun _ ds => decide (uptoBulkAll ds ≤ 1048576)
def OpenSpec.upto (s : _root_.Go.ChangeSpec) : _root_.Go.OpenSpec := { _root_.Go.OpenSpec.ofChange s with cond := some uptoSmall }

/-- 'laws.FnKindFirst', WHERE WHAT IT READS IS OF BULK AT MOST 1048576: true; the input reads as it did. -/
def fnKindFirstUptoRow : OpenClaim := { program := "ytfjiannabnonjaadoor", sum := "98016458a2e5dc74c9d3c70e3cd6ad69e95d228b8e8a1a2831e85289290117c9", func := "loop.example/teagle/laws.FnKindFirst", spec := "fnKindFirst", unfollowed := true, recurses := true, named := ["loop.example/teagle/impl.treeFields"], apart := false, laid := [("loop.example/teagle/impl.treeFields", laid_loop_example_teagle_impl_treeFields)], narrowed := true }
def FnKindFirstUptoSaid : Prop := fnKindFirstUptoRow.holds Tryd.pinned (OpenSpec.upto fnKindFirstSpec)

/-- 'laws.FnExactKindRead', WHERE WHAT IT READS IS OF BULK AT MOST 1048576: true; the input reads as it did. -/
def fnExactKindReadUptoRow : OpenClaim := { program := "ytfjiannabnonjaadoor", sum := "98016458a2e5dc74c9d3c70e3cd6ad69e95d228b8e8a1a2831e85289290117c9", func := "loop.example/teagle/laws.FnExactKindRead", spec := "fnExactKindRead", unfollowed := true, recurses := true, named := ["loop.example/teagle/impl.kindWords"], apart := false, laid := [("loop.example/teagle/impl.kindWords", laid_loop_example_teagle_impl_kindWords)], narrowed := true }
def FnExactKindReadUptoSaid : Prop := fnExactKindReadUptoRow.holds Tryd.pinned (OpenSpec.upto fnExactKindReadSpec)

/-- 'laws.FnExactKindHas', WHERE WHAT IT READS IS OF BULK AT MOST 1048576: true; the input reads as it did. -/
def fnExactKindHasUptoRow : OpenClaim := { program := "ytfjiannabnonjaadoor", sum := "98016458a2e5dc74c9d3c70e3cd6ad69e95d228b8e8a1a2831e85289290117c9", func := "loop.example/teagle/laws.FnExactKindHas", spec := "fnExactKindHas", unfollowed := true, recurses := true, named := ["loop.example/teagle/impl.treeFields"], loops := true, apart := false, laid := [("loop.example/teagle/impl.treeFields", laid_loop_example_teagle_impl_treeFields)], narrowed := true }
def FnExactKindHasUptoSaid : Prop := fnExactKindHasUptoRow.holds Tryd.pinned (OpenSpec.upto fnExactKindHasSpec)

end Rows
end Go.Proofs.YtfjiannabnonjaaDoor
