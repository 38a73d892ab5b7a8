/-
  NARROWER THAN 'FOR EVERY INPUT', by the rows' own cells (each row's printed sentence says how): FnKindText: laid · FnKindFirst: laid.
  DERIVED. THE GIVEN ROWS OF THIS SEAT. 2 by the template 'for every input the law returns true; each argument reads behind the call as it read before'; 0 by the template 'total and deterministic' (their statements: YthkjhmcbmakkdaaDoorTotals.lean).
  GIVEN WITH THE SEED: the statements are not yours to turn. If you find one false, say at which input.
  Laid BY PROGRAM, IN A SANDBOX (cutbox-rows.mjs): the forced cells as the released guide's own fill.sh prints them over the translation 07310ed60b2b3d8a… (all of the seat's roots in one cut). By AI agents, Wed Nov 11 2026. No macro, syntax, notation, axiom, sorry.
-/
import Derived.Test.YthkjhmcbmakkdaaDoorChecked
import GoSem.Claim
import GoSem.ClaimJoined
import GoSem.ClaimMapViews
import Derived.JoinedTies
import Derived.KernelRfl
namespace Go.Proofs.YthkjhmcbmakkdaaDoor
/- THE CELL 'sum', in the pinned program and in every row, IS THE sha256 OF THE DUMP (.gsa) THAT YthkjhmcbmakkdaaDoorProg.lean LOADS. Nothing in Lean hashes anything: it is a label: what it is worth is what the hold of that sum in a sandbox is worth. -/
noncomputable def Tryd.pinned : Pinned := { name := "ythkjhmcbmakkdaadoor", sum := "07310ed60b2b3d8adde5bf2302e309cf3e5ba72d31eeb0c2bd3a748edfafe975", checked := Tryd.checked }
namespace Rows
def none {H : Type} : Left H := { results := [], args := [] }

/- WHAT THE LISTED PACKAGE-LEVEL VARIABLES READ AS WHEN THE CALL BEGINS. Each datum BY PROGRAM (the guide's laid-datum.mjs) off the statement by which the dump's own 'gosem.cut.vars' lays the variable. In a bare row this is a premise. The card (YthkjhmcbmakkdaaDoorCards.lean) ties it to the program's text. -/
def laid_loop_example_teagle_impl_kindWords {H : Type} : DataW H := .agg [.lit (.string []), .lit (.string [110, 117, 109]), .lit (.string [116, 101, 120, 116]), .lit (.string [102, 108, 97, 103])]
def laid_loop_example_teagle_impl_treeFields {H : Type} : DataW H := .agg [.agg [.lit (.bool false), .lit (.bool false), .lit (.bool false), .lit (.bool false)], .agg [.lit (.bool true), .lit (.bool false), .lit (.bool false), .lit (.bool false)], .agg [.lit (.bool false), .lit (.bool true), .lit (.bool false), .lit (.bool false)], .agg [.lit (.bool true), .lit (.bool false), .lit (.bool false), .lit (.bool false)], .agg [.lit (.bool false), .lit (.bool false), .lit (.bool false), .lit (.bool true)], .agg [.lit (.bool false), .lit (.bool false), .lit (.bool true), .lit (.bool true)], .agg [.lit (.bool false), .lit (.bool false), .lit (.bool false), .lit (.bool true)]]

/-- 'laws.FnKindText': WHATEVER THE INPUT: true; the input reads as it did. -/
def fnKindTextSpec : ChangeSpec := { name := "fnKindText", vars := ["loop.example/teagle/impl.kindWords"], fn := fun _ => fun
  | [d, g1] => { results := [.lit (.bool true)], args := [d], vars := [g1] }
  | _ => none }
def fnKindTextRow : OpenClaim := { program := "ythkjhmcbmakkdaadoor", sum := "07310ed60b2b3d8adde5bf2302e309cf3e5ba72d31eeb0c2bd3a748edfafe975", func := "loop.example/teagle/laws.FnKindText", spec := "fnKindText", unfollowed := true, recurses := true, named := ["loop.example/teagle/impl.kindWords"], apart := false, laid := [("loop.example/teagle/impl.kindWords", laid_loop_example_teagle_impl_kindWords)] }
def FnKindTextSaid : Prop := fnKindTextRow.holds Tryd.pinned (OpenSpec.ofChange fnKindTextSpec)

/-- ITS FALSE NEIGHBOUR: 'it returns false'. Refute it at one input. -/
def fnKindTextWrong : ChangeSpec := { name := "fnKindText", vars := ["loop.example/teagle/impl.kindWords"], fn := fun _ => fun
  | [d, g1] => { results := [.lit (.bool false)], args := [d], vars := [g1] }
  | _ => none }
def FnKindTextWrongFalsely : Prop := fnKindTextRow.holds Tryd.pinned (OpenSpec.ofChange fnKindTextWrong)

/-- 'laws.FnKindFirst': WHATEVER THE INPUT: true; the input reads as it did. -/
def fnKindFirstSpec : ChangeSpec := { name := "fnKindFirst", vars := ["loop.example/teagle/impl.treeFields"], fn := fun _ => fun
  | [d, g1] => { results := [.lit (.bool true)], args := [d], vars := [g1] }
  | _ => none }
def fnKindFirstRow : OpenClaim := { program := "ythkjhmcbmakkdaadoor", sum := "07310ed60b2b3d8adde5bf2302e309cf3e5ba72d31eeb0c2bd3a748edfafe975", func := "loop.example/teagle/laws.FnKindFirst", spec := "fnKindFirst", unfollowed := true, recurses := true, named := ["loop.example/teagle/impl.treeFields"], apart := false, laid := [("loop.example/teagle/impl.treeFields", laid_loop_example_teagle_impl_treeFields)] }
def FnKindFirstSaid : Prop := fnKindFirstRow.holds Tryd.pinned (OpenSpec.ofChange fnKindFirstSpec)

/-- ITS FALSE NEIGHBOUR: 'it returns false'. Refute it at one input. -/
def fnKindFirstWrong : ChangeSpec := { name := "fnKindFirst", vars := ["loop.example/teagle/impl.treeFields"], fn := fun _ => fun
  | [d, g1] => { results := [.lit (.bool false)], args := [d], vars := [g1] }
  | _ => none }
def FnKindFirstWrongFalsely : Prop := fnKindFirstRow.holds Tryd.pinned (OpenSpec.ofChange fnKindFirstWrong)

/- THE SECOND FORM. 'bulk': how many values and letters a reading holds, each counted each time it is reached (what is shared counts as often as it is met; a slice's spare places count too). A statement '..UptoSaid' is the law's where the arguments, and the package variables that the reading takes, are together of bulk at most 1048576: NARROWER than '..Said'. Prove '..Said' where nothing that the law and all that it calls make is longer than what came in: it says more and counts as full. Else prove '..UptoSaid'. A law counts once. -/
mutual
def uptoBulk {H : Type} : DataW H → Nat
  | .lit (.string bytes) => bytes.length + 1
  | .lit _ => 1
  | .nil => 1
  | .ptr d => uptoBulk d + 1
  | .slice elems spare => uptoBulkAll elems + uptoBulkAll spare + 1
  | .agg parts => uptoBulkAll parts + 1
  | .iface _ d => uptoBulk d + 1
  | .map entries => uptoBulkEntries entries + 1
  | .held _ => 1
def uptoBulkAll {H : Type} : List (DataW H) → Nat
  | [] => 0
  | d :: r => uptoBulk d + uptoBulkAll r
def uptoBulkEntries {H : Type} : List (Lit × DataW H) → Nat
  | [] => 0
  | x :: r => uptoBulkEntry x + uptoBulkEntries r
def uptoBulkEntry {H : Type} : Lit × DataW H → Nat
  | (.string bytes, d) => bytes.length + uptoBulk d + 1
  | (_, d) => uptoBulk d + 1
 end
def uptoSmall : (H : Type) → List (DataW H) → Bool := fun _ ds => decide (uptoBulkAll ds ≤ 1048576)
def OpenSpec.upto (s : _root_.Go.ChangeSpec) : _root_.Go.OpenSpec := { _root_.Go.OpenSpec.ofChange s with cond := some uptoSmall }

/-- 'laws.FnKindText', WHERE WHAT IT READS IS OF BULK AT MOST 1048576: true; the input reads as it did. -/
def fnKindTextUptoRow : OpenClaim := { program := "ythkjhmcbmakkdaadoor", sum := "07310ed60b2b3d8adde5bf2302e309cf3e5ba72d31eeb0c2bd3a748edfafe975", func := "loop.example/teagle/laws.FnKindText", spec := "fnKindText", unfollowed := true, recurses := true, named := ["loop.example/teagle/impl.kindWords"], apart := false, laid := [("loop.example/teagle/impl.kindWords", laid_loop_example_teagle_impl_kindWords)], narrowed := true }
def FnKindTextUptoSaid : Prop := fnKindTextUptoRow.holds Tryd.pinned (OpenSpec.upto fnKindTextSpec)

/-- 'laws.FnKindFirst', WHERE WHAT IT READS IS OF BULK AT MOST 1048576: true; the input reads as it did. -/
def fnKindFirstUptoRow : OpenClaim := { program := "ythkjhmcbmakkdaadoor", sum := "07310ed60b2b3d8adde5bf2302e309cf3e5ba72d31eeb0c2bd3a748edfafe975", func := "loop.example/teagle/laws.FnKindFirst", spec := "fnKindFirst", unfollowed := true, recurses := true, named := ["loop.example/teagle/impl.treeFields"], apart := false, laid := [("loop.example/teagle/impl.treeFields", laid_loop_example_teagle_impl_treeFields)], narrowed := true }
def FnKindFirstUptoSaid : Prop := fnKindFirstUptoRow.holds Tryd.pinned (OpenSpec.upto fnKindFirstSpec)

end Rows
end Go.Proofs.YthkjhmcbmakkdaaDoor
