/-
  NARROWER THAN 'FOR EVERY INPUT', by the rows' own cells (each row's printed sentence says how): FnExactTreeOk: loops, laid · FnExactTreeParts: loops, laid · FnExactKindWrite: loops, laid · FnExactKindRead: laid.
  DERIVED. THE GIVEN ROWS OF THIS SEAT. 4 by the template 'for every input the law returns true; each argument reads behind the call as it read before'; 0 by the template 'total and deterministic' (their statements: YtjlllkigeandeaaDoorTotals.lean).
  GIVEN WITH THE SEED: the statements are not yours to turn. If you find one false, say at which input.
  Laid BY PROGRAM, IN A SANDBOX (cutbox-rows.mjs): the forced cells as the released guide's own fill.sh prints them over the translation 4dfb29a8d3f849ab… (all of the seat's roots in one cut). By AI agents, Wed Nov 11 2026. No macro, syntax, notation, axiom, sorry.
-/
import Derived.Test.YtjlllkigeandeaaDoorChecked
import GoSem.Claim
import GoSem.ClaimJoined
import GoSem.ClaimMapViews
import Derived.JoinedTies
import Derived.KernelRfl
namespace Go.Proofs.YtjlllkigeandeaaDoor
/- THE CELL 'sum', in the pinned program and in every row, IS THE sha256 OF THE DUMP (.gsa) THAT YtjlllkigeandeaaDoorProg.lean LOADS. Nothing in Lean hashes anything: it is a label: what it is worth is what the hold of that sum in a sandbox is worth. -/
noncomputable def Tryd.pinned : Pinned := { name := "ytjlllkigeandeaadoor", sum := "4dfb29a8d3f849ab7e177a95decf4f920e49383c6a5d2ac1a6be2f4ff7ef218f", checked := Tryd.checked }
namespace Rows
def none {H : Type} : Left H := { results := [], args := [] }

/- WHAT THE LISTED PACKAGE-LEVEL VARIABLES READ AS WHEN THE CALL BEGINS. Each datum BY PROGRAM (the guide's laid-datum.mjs) off the statement by which the dump's own 'gosem.cut.vars' lays the variable. In a bare row this is a premise. The card (YtjlllkigeandeaaDoorCards.lean) ties it to the program's text. -/
def laid_loop_example_teagle_impl_treeFields {H : Type} : DataW H := .agg [.agg [.lit (.bool false), .lit (.bool false), .lit (.bool false), .lit (.bool false)], .agg [.lit (.bool true), .lit (.bool false), .lit (.bool false), .lit (.bool false)], .agg [.lit (.bool false), .lit (.bool true), .lit (.bool false), .lit (.bool false)], .agg [.lit (.bool true), .lit (.bool false), .lit (.bool false), .lit (.bool false)], .agg [.lit (.bool false), .lit (.bool false), .lit (.bool false), .lit (.bool true)], .agg [.lit (.bool false), .lit (.bool false), .lit (.bool true), .lit (.bool true)], .agg [.lit (.bool false), .lit (.bool false), .lit (.bool false), .lit (.bool true)]]
def laid_loop_example_teagle_impl_kindWords {H : Type} : DataW H := .agg [.lit (.string []), .lit (.string [110, 117, 109]), .lit (.string [116, 101, 120, 116]), .lit (.string [102, 108, 97, 103])]

/-- 'laws.FnExactTreeOk': WHATEVER THE INPUT: true; the input reads as it did. -/
def fnExactTreeOkSpec : ChangeSpec := { name := "fnExactTreeOk", vars := ["loop.example/teagle/impl.treeFields"], fn := fun _ => fun
  | [d, g1] => { results := [.lit (.bool true)], args := [d], vars := [g1] }
  | _ => none }
def fnExactTreeOkRow : OpenClaim := { program := "ytjlllkigeandeaadoor", sum := "4dfb29a8d3f849ab7e177a95decf4f920e49383c6a5d2ac1a6be2f4ff7ef218f", func := "loop.example/teagle/laws.FnExactTreeOk", spec := "fnExactTreeOk", unfollowed := true, recurses := true, named := ["loop.example/teagle/impl.treeFields"], loops := true, apart := false, laid := [("loop.example/teagle/impl.treeFields", laid_loop_example_teagle_impl_treeFields)] }
def FnExactTreeOkSaid : Prop := fnExactTreeOkRow.holds Tryd.pinned (OpenSpec.ofChange fnExactTreeOkSpec)

/-- ITS FALSE NEIGHBOUR: 'it returns false'. Refute it at one input. -/
def fnExactTreeOkWrong : ChangeSpec := { name := "fnExactTreeOk", vars := ["loop.example/teagle/impl.treeFields"], fn := fun _ => fun
  | [d, g1] => { results := [.lit (.bool false)], args := [d], vars := [g1] }
  | _ => none }
def FnExactTreeOkWrongFalsely : Prop := fnExactTreeOkRow.holds Tryd.pinned (OpenSpec.ofChange fnExactTreeOkWrong)

/-- 'laws.FnExactTreeParts': WHATEVER THE INPUT: true; the input reads as it did. -/
def fnExactTreePartsSpec : ChangeSpec := { name := "fnExactTreeParts", vars := ["loop.example/teagle/impl.treeFields"], fn := fun _ => fun
  | [d, g1] => { results := [.lit (.bool true)], args := [d], vars := [g1] }
  | _ => none }
def fnExactTreePartsRow : OpenClaim := { program := "ytjlllkigeandeaadoor", sum := "4dfb29a8d3f849ab7e177a95decf4f920e49383c6a5d2ac1a6be2f4ff7ef218f", func := "loop.example/teagle/laws.FnExactTreeParts", spec := "fnExactTreeParts", unfollowed := true, recurses := true, named := ["loop.example/teagle/impl.treeFields"], loops := true, apart := false, laid := [("loop.example/teagle/impl.treeFields", laid_loop_example_teagle_impl_treeFields)] }
def FnExactTreePartsSaid : Prop := fnExactTreePartsRow.holds Tryd.pinned (OpenSpec.ofChange fnExactTreePartsSpec)

/-- ITS FALSE NEIGHBOUR: 'it returns false'. Refute it at one input. -/
def fnExactTreePartsWrong : ChangeSpec := { name := "fnExactTreeParts", vars := ["loop.example/teagle/impl.treeFields"], fn := fun _ => fun
  | [d, g1] => { results := [.lit (.bool false)], args := [d], vars := [g1] }
  | _ => none }
def FnExactTreePartsWrongFalsely : Prop := fnExactTreePartsRow.holds Tryd.pinned (OpenSpec.ofChange fnExactTreePartsWrong)

/-- 'laws.FnExactKindWrite': WHATEVER THE INPUT: true; the input reads as it did. -/
def fnExactKindWriteSpec : ChangeSpec := { name := "fnExactKindWrite", vars := ["loop.example/teagle/impl.kindWords"], fn := fun _ => fun
  | [d, g1] => { results := [.lit (.bool true)], args := [d], vars := [g1] }
  | _ => none }
def fnExactKindWriteRow : OpenClaim := { program := "ytjlllkigeandeaadoor", sum := "4dfb29a8d3f849ab7e177a95decf4f920e49383c6a5d2ac1a6be2f4ff7ef218f", func := "loop.example/teagle/laws.FnExactKindWrite", spec := "fnExactKindWrite", unfollowed := true, recurses := true, named := ["loop.example/teagle/impl.kindWords"], loops := true, apart := false, laid := [("loop.example/teagle/impl.kindWords", laid_loop_example_teagle_impl_kindWords)] }
def FnExactKindWriteSaid : Prop := fnExactKindWriteRow.holds Tryd.pinned (OpenSpec.ofChange fnExactKindWriteSpec)

/-- ITS FALSE NEIGHBOUR: 'it returns false'. Refute it at one input. -/
def fnExactKindWriteWrong : ChangeSpec := { name := "fnExactKindWrite", vars := ["loop.example/teagle/impl.kindWords"], fn := fun _ => fun
  | [d, g1] => { results := [.lit (.bool false)], args := [d], vars := [g1] }
  | _ => none }
def FnExactKindWriteWrongFalsely : Prop := fnExactKindWriteRow.holds Tryd.pinned (OpenSpec.ofChange fnExactKindWriteWrong)

/-- 'laws.FnExactKindRead': WHATEVER THE INPUT: true; the input reads as it did. -/
def fnExactKindReadSpec : ChangeSpec := { name := "fnExactKindRead", vars := ["loop.example/teagle/impl.kindWords"], fn := fun _ => fun
  | [d, g1] => { results := [.lit (.bool true)], args := [d], vars := [g1] }
  | _ => none }
def fnExactKindReadRow : OpenClaim := { program := "ytjlllkigeandeaadoor", sum := "4dfb29a8d3f849ab7e177a95decf4f920e49383c6a5d2ac1a6be2f4ff7ef218f", func := "loop.example/teagle/laws.FnExactKindRead", spec := "fnExactKindRead", unfollowed := true, recurses := true, named := ["loop.example/teagle/impl.kindWords"], apart := false, laid := [("loop.example/teagle/impl.kindWords", laid_loop_example_teagle_impl_kindWords)] }
def FnExactKindReadSaid : Prop := fnExactKindReadRow.holds Tryd.pinned (OpenSpec.ofChange fnExactKindReadSpec)

/-- ITS FALSE NEIGHBOUR: 'it returns false'. Refute it at one input. -/
def fnExactKindReadWrong : ChangeSpec := { name := "fnExactKindRead", vars := ["loop.example/teagle/impl.kindWords"], fn := fun _ => fun
  | [d, g1] => { results := [.lit (.bool false)], args := [d], vars := [g1] }
  | _ => none }
def FnExactKindReadWrongFalsely : Prop := fnExactKindReadRow.holds Tryd.pinned (OpenSpec.ofChange fnExactKindReadWrong)

/- THE SECOND FORM. 'bulk': how many values and letters a reading holds, each counted each time it is reached (what is shared counts as often as it is met; a slice's spare places count too). A statement '..UptoSaid' is the law's where the arguments, and the package variables that the reading takes, are together of bulk at most 1048576: NARROWER than '..Said'. Prove '..Said' where nothing that the law and all that it calls make is longer than what came in: it says more and counts as full. Else prove '..UptoSaid'. A law counts once. -/
mutual
def uptoBulk {H : Type} : DataW H → Nat
  | .lit (.string bytes) => bytes.length + 1
  | .lit _ => 1
  | .nil => 1
  | .ptr d => uptoBulk d + 1
  | .slice elems spare => uptoBulkAll elems + uptoBulkAll spare + 1
  | .agg parts => uptoBulkAll parts + 1
  | .iface _ d => uptoBulk d + 1
  | .map entries => uptoBulkEntries entries + 1
  | .held _ => 1
def uptoBulkAll {H : Type} : List (DataW H) → Nat
  | [] => 0
  | d :: r => uptoBulk d + uptoBulkAll r
def uptoBulkEntries {H : Type} : List (Lit × DataW H) → Nat
  | [] => 0
  | x :: r => uptoBulkEntry x + uptoBulkEntries r
def uptoBulkEntry {H : Type} : Lit × DataW H → Nat
  | (.string bytes, d) => bytes.length + uptoBulk d + 1
  | (_, d) => uptoBulk d + 1
 end
def uptoSmall : (H : Type) → List (DataW H) → Bool := fun _ ds => decide (uptoBulkAll ds ≤ 1048576)
def OpenSpec.upto (s : _root_.Go.ChangeSpec) : _root_.Go.OpenSpec := { _root_.Go.OpenSpec.ofChange s with cond := some uptoSmall }

/-- 'laws.FnExactTreeOk', WHERE WHAT IT READS IS OF BULK AT MOST 1048576: true; the input reads as it did. -/
def fnExactTreeOkUptoRow : OpenClaim := { program := "ytjlllkigeandeaadoor", sum := "4dfb29a8d3f849ab7e177a95decf4f920e49383c6a5d2ac1a6be2f4ff7ef218f", func := "loop.example/teagle/laws.FnExactTreeOk", spec := "fnExactTreeOk", unfollowed := true, recurses := true, named := ["loop.example/teagle/impl.treeFields"], loops := true, apart := false, laid := [("loop.example/teagle/impl.treeFields", laid_loop_example_teagle_impl_treeFields)], narrowed := true }
def FnExactTreeOkUptoSaid : Prop := fnExactTreeOkUptoRow.holds Tryd.pinned (OpenSpec.upto fnExactTreeOkSpec)

/-- 'laws.FnExactTreeParts', WHERE WHAT IT READS IS OF BULK AT MOST 1048576: true; the input reads as it did. -/
def fnExactTreePartsUptoRow : OpenClaim := { program := "ytjlllkigeandeaadoor", sum := "4dfb29a8d3f849ab7e177a95decf4f920e49383c6a5d2ac1a6be2f4ff7ef218f", func := "loop.example/teagle/laws.FnExactTreeParts", spec := "fnExactTreeParts", unfollowed := true, recurses := true, named := ["loop.example/teagle/impl.treeFields"], loops := true, apart := false, laid := [("loop.example/teagle/impl.treeFields", laid_loop_example_teagle_impl_treeFields)], narrowed := true }
def FnExactTreePartsUptoSaid : Prop := fnExactTreePartsUptoRow.holds Tryd.pinned (OpenSpec.upto fnExactTreePartsSpec)

/-- 'laws.FnExactKindWrite', WHERE WHAT IT READS IS OF BULK AT MOST 1048576: true; the input reads as it did. -/
def fnExactKindWriteUptoRow : OpenClaim := { program := "ytjlllkigeandeaadoor", sum := "4dfb29a8d3f849ab7e177a95decf4f920e49383c6a5d2ac1a6be2f4ff7ef218f", func := "loop.example/teagle/laws.FnExactKindWrite", spec := "fnExactKindWrite", unfollowed := true, recurses := true, named := ["loop.example/teagle/impl.kindWords"], loops := true, apart := false, laid := [("loop.example/teagle/impl.kindWords", laid_loop_example_teagle_impl_kindWords)], narrowed := true }
def FnExactKindWriteUptoSaid : Prop := fnExactKindWriteUptoRow.holds Tryd.pinned (OpenSpec.upto fnExactKindWriteSpec)

/-- 'laws.FnExactKindRead', WHERE WHAT IT READS IS OF BULK AT MOST 1048576: true; the input reads as it did. -/
def fnExactKindReadUptoRow : OpenClaim := { program := "ytjlllkigeandeaadoor", sum := "4dfb29a8d3f849ab7e177a95decf4f920e49383c6a5d2ac1a6be2f4ff7ef218f", func := "loop.example/teagle/laws.FnExactKindRead", spec := "fnExactKindRead", unfollowed := true, recurses := true, named := ["loop.example/teagle/impl.kindWords"], apart := false, laid := [("loop.example/teagle/impl.kindWords", laid_loop_example_teagle_impl_kindWords)], narrowed := true }
def FnExactKindReadUptoSaid : Prop := fnExactKindReadUptoRow.holds Tryd.pinned (OpenSpec.upto fnExactKindReadSpec)

end Rows
end Go.Proofs.YtjlllkigeandeaaDoor
