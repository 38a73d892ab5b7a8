/-
  NARROWER THAN 'FOR EVERY INPUT', by the rows' own cells (each row's printed sentence says how): FnKindWiden: laid · FnKindWay: laid.
  DERIVED. THE GIVEN ROWS OF THIS SEAT. 2 by the template 'for every input the law returns true; each argument reads behind the call as it read before'; 0 by the template 'total and deterministic' (their statements: YteefjeddboefcaaGreatDoorTotals.lean).
  GIVEN WITH THE SEED: the statements are not yours to turn. If you find one false, say at which input.
  Laid BY PROGRAM, IN A SANDBOX (cutbox-rows.mjs): the forced cells as the released guide's own fill.sh prints them over the translation 87bc70dce7669326… (all of the seat's roots in one cut). By AI agents, Wed Nov 11 2026. No macro, syntax, notation, axiom, sorry.
-/
import Derived.Test.YteefjeddboefcaaGreatDoorChecked
import GoSem.Claim
import GoSem.ClaimJoined
import GoSem.ClaimMapViews
import Derived.JoinedTies
import Derived.KernelRfl
namespace Go.Proofs.YteefjeddboefcaaGreatDoor
/- THE CELL 'sum', in the pinned program and in every row, IS THE sha256 OF THE DUMP (.gsa) THAT YteefjeddboefcaaGreatDoorProg.lean LOADS. Nothing in Lean hashes anything: it is a label: what it is worth is what the hold of that sum in a sandbox is worth. -/
noncomputable def Tryz.pinned : Pinned := { name := "yteefjeddboefcaagreatdoor", sum := "87bc70dce76693269f428b15953f8b02c21667abb2c50a69eaa2d7994f98c538", checked := Tryz.checked }
namespace Rows
def none {H : Type} : Left H := { results := [], args := [] }

/- WHAT THE LISTED PACKAGE-LEVEL VARIABLES READ AS WHEN THE CALL BEGINS. Each datum BY PROGRAM (the guide's laid-datum.mjs) off the statement by which the dump's own 'gosem.cut.vars' lays the variable. In a bare row this is a premise. The card (YteefjeddboefcaaGreatDoorCards.lean) ties it to the program's text. -/
def laid_errors_errorType {H : Type} : DataW H := .iface "internal/reflectlite.rtype" (.agg [.ptr (.lit (.string [101, 114, 114, 111, 114]))])
def laid_loop_example_teagle_impl_treeFields {H : Type} : DataW H := .agg [.agg [.lit (.bool false), .lit (.bool false), .lit (.bool false), .lit (.bool false)], .agg [.lit (.bool true), .lit (.bool false), .lit (.bool false), .lit (.bool false)], .agg [.lit (.bool false), .lit (.bool true), .lit (.bool false), .lit (.bool false)], .agg [.lit (.bool true), .lit (.bool false), .lit (.bool false), .lit (.bool false)], .agg [.lit (.bool false), .lit (.bool false), .lit (.bool false), .lit (.bool true)], .agg [.lit (.bool false), .lit (.bool false), .lit (.bool true), .lit (.bool true)], .agg [.lit (.bool false), .lit (.bool false), .lit (.bool false), .lit (.bool true)]]

/-- 'laws.FnKindWiden': WHATEVER THE INPUT: true; the input reads as it did. -/
def fnKindWidenSpec : ChangeSpec := { name := "fnKindWiden", vars := ["loop.example/teagle/impl.treeFields"], fn := fun _ => fun
  | [d, g1] => { results := [.lit (.bool true)], args := [d], vars := [g1] }
  | _ => none }
def fnKindWidenRow : OpenClaim := { program := "yteefjeddboefcaagreatdoor", sum := "87bc70dce76693269f428b15953f8b02c21667abb2c50a69eaa2d7994f98c538", func := "loop.example/teagle/laws.FnKindWiden", spec := "fnKindWiden", inPlace := ["internal/reflectlite.ValueOf", "(internal/reflectlite.Value).Type", "(internal/reflectlite.Value).IsNil", "internal/reflectlite.TypeOf", "(internal/reflectlite.Value).Elem", "(internal/reflectlite.Value).Set"], unfollowed := true, recurses := true, named := ["errors.errorType", "loop.example/teagle/impl.treeFields"], apart := false, laid := [("errors.errorType", laid_errors_errorType), ("loop.example/teagle/impl.treeFields", laid_loop_example_teagle_impl_treeFields)] }
def FnKindWidenSaid : Prop := fnKindWidenRow.holds Tryz.pinned (OpenSpec.ofChange fnKindWidenSpec)

/-- ITS FALSE NEIGHBOUR: 'it returns false'. Refute it at one input. -/
def fnKindWidenWrong : ChangeSpec := { name := "fnKindWiden", vars := ["loop.example/teagle/impl.treeFields"], fn := fun _ => fun
  | [d, g1] => { results := [.lit (.bool false)], args := [d], vars := [g1] }
  | _ => none }
def FnKindWidenWrongFalsely : Prop := fnKindWidenRow.holds Tryz.pinned (OpenSpec.ofChange fnKindWidenWrong)

/-- 'laws.FnKindWay': WHATEVER THE INPUT: true; the input reads as it did. -/
def fnKindWaySpec : ChangeSpec := { name := "fnKindWay", vars := ["loop.example/teagle/impl.treeFields"], fn := fun _ => fun
  | [d1, d2, g1] => { results := [.lit (.bool true)], args := [d1, d2], vars := [g1] }
  | _ => none }
def fnKindWayRow : OpenClaim := { program := "yteefjeddboefcaagreatdoor", sum := "87bc70dce76693269f428b15953f8b02c21667abb2c50a69eaa2d7994f98c538", func := "loop.example/teagle/laws.FnKindWay", spec := "fnKindWay", inPlace := ["internal/reflectlite.ValueOf", "(internal/reflectlite.Value).Type", "(internal/reflectlite.Value).IsNil", "internal/reflectlite.TypeOf", "(internal/reflectlite.Value).Elem", "(internal/reflectlite.Value).Set"], unfollowed := true, recurses := true, named := ["errors.errorType", "loop.example/teagle/impl.treeFields"], apart := false, laid := [("errors.errorType", laid_errors_errorType), ("loop.example/teagle/impl.treeFields", laid_loop_example_teagle_impl_treeFields)] }
def FnKindWaySaid : Prop := fnKindWayRow.holds Tryz.pinned (OpenSpec.ofChange fnKindWaySpec)

/-- ITS FALSE NEIGHBOUR: 'it returns false'. Refute it at one input. -/
def fnKindWayWrong : ChangeSpec := { name := "fnKindWay", vars := ["loop.example/teagle/impl.treeFields"], fn := fun _ => fun
  | [d1, d2, g1] => { results := [.lit (.bool false)], args := [d1, d2], vars := [g1] }
  | _ => none }
def FnKindWayWrongFalsely : Prop := fnKindWayRow.holds Tryz.pinned (OpenSpec.ofChange fnKindWayWrong)

/- THE SECOND FORM. 'bulk': how many values and letters a reading holds, each counted each time it is reached (what is shared counts as often as it is met; a slice's spare places count too). A statement '..UptoSaid' is the law's where the arguments, and the package variables that the reading takes, are together of bulk at most 1048576: NARROWER than '..Said'. Prove '..Said' where nothing that the law and all that it calls make is longer than what came in: it says more and counts as full. Else prove '..UptoSaid'. A law counts once. -/
mutual
def uptoBulk {H : Type} : DataW H → Nat
  | .lit (.string bytes) => bytes.length + 1
  | .lit _ => 1
  | .nil => 1
  | .ptr d => uptoBulk d + 1
  | .slice elems spare => uptoBulkAll elems + uptoBulkAll spare + 1
  | .agg parts => uptoBulkAll parts + 1
  | .iface _ d => uptoBulk d + 1
  | .map entries => uptoBulkEntries entries + 1
  | .held _ => 1
def uptoBulkAll {H : Type} : List (DataW H) → Nat
  | [] => 0
  | d :: r => uptoBulk d + uptoBulkAll r
def uptoBulkEntries {H : Type} : List (Lit × DataW H) → Nat
  | [] => 0
  | x :: r => uptoBulkEntry x + uptoBulkEntries r
def uptoBulkEntry {H : Type} : Lit × DataW H → Nat
  | (.string bytes, d) => bytes.length + uptoBulk d + 1
  | (_, d) => uptoBulk d + 1
 end
def uptoSmall : (H : Type) → List (DataW H) → Bool := fun _ ds => decide (uptoBulkAll ds ≤ 1048576)
def OpenSpec.upto (s : _root_.Go.ChangeSpec) : _root_.Go.OpenSpec := { _root_.Go.OpenSpec.ofChange s with cond := some uptoSmall }

/-- 'laws.FnKindWiden', WHERE WHAT IT READS IS OF BULK AT MOST 1048576: true; the input reads as it did. -/
def fnKindWidenUptoRow : OpenClaim := { program := "yteefjeddboefcaagreatdoor", sum := "87bc70dce76693269f428b15953f8b02c21667abb2c50a69eaa2d7994f98c538", func := "loop.example/teagle/laws.FnKindWiden", spec := "fnKindWiden", inPlace := ["internal/reflectlite.ValueOf", "(internal/reflectlite.Value).Type", "(internal/reflectlite.Value).IsNil", "internal/reflectlite.TypeOf", "(internal/reflectlite.Value).Elem", "(internal/reflectlite.Value).Set"], unfollowed := true, recurses := true, named := ["errors.errorType", "loop.example/teagle/impl.treeFields"], apart := false, laid := [("errors.errorType", laid_errors_errorType), ("loop.example/teagle/impl.treeFields", laid_loop_example_teagle_impl_treeFields)], narrowed := true }
def FnKindWidenUptoSaid : Prop := fnKindWidenUptoRow.holds Tryz.pinned (OpenSpec.upto fnKindWidenSpec)

/-- 'laws.FnKindWay', WHERE WHAT IT READS IS OF BULK AT MOST 1048576: true; the input reads as it did. -/
def fnKindWayUptoRow : OpenClaim := { program := "yteefjeddboefcaagreatdoor", sum := "87bc70dce76693269f428b15953f8b02c21667abb2c50a69eaa2d7994f98c538", func := "loop.example/teagle/laws.FnKindWay", spec := "fnKindWay", inPlace := ["internal/reflectlite.ValueOf", "(internal/reflectlite.Value).Type", "(internal/reflectlite.Value).IsNil", "internal/reflectlite.TypeOf", "(internal/reflectlite.Value).Elem", "(internal/reflectlite.Value).Set"], unfollowed := true, recurses := true, named := ["errors.errorType", "loop.example/teagle/impl.treeFields"], apart := false, laid := [("errors.errorType", laid_errors_errorType), ("loop.example/teagle/impl.treeFields", laid_loop_example_teagle_impl_treeFields)], narrowed := true }
def FnKindWayUptoSaid : Prop := fnKindWayUptoRow.holds Tryz.pinned (OpenSpec.upto fnKindWaySpec)

end Rows
end Go.Proofs.YteefjeddboefcaaGreatDoor
