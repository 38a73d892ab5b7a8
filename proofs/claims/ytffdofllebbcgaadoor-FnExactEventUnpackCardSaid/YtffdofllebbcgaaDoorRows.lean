/-
  NARROWER THAN 'FOR EVERY INPUT', by the rows' own cells (each row's printed sentence says how): FnExactEventOk: loops, laid · FnExactEventPack: loops, laid · FnExactEventUnpack: laid.
  DERIVED. THE GIVEN ROWS OF THIS SEAT. 3 by the template 'for every input the law returns true; each argument reads behind the call as it read before'; 0 by the template 'total and deterministic' (their statements: YtffdofllebbcgaaDoorTotals.lean).
  GIVEN WITH THE SEED: the statements are not yours to turn. If you find one false, say at which input.
  Laid BY PROGRAM, IN A SANDBOX (cutbox-rows.mjs): the forced cells as the released guide's own fill.sh prints them over the translation c555b343b072857a… (all of the seat's roots in one cut). By AI agents, Wed Nov 11 2026. No macro, syntax, notation, axiom, sorry.
-/
import Derived.Test.YtffdofllebbcgaaDoorChecked
import GoSem.Claim
import GoSem.ClaimJoined
import GoSem.ClaimMapViews
import Derived.JoinedTies
import Derived.KernelRfl
namespace Go.Proofs.YtffdofllebbcgaaDoor
/- THE CELL 'sum', in the pinned program and in every row, IS THE sha256 OF THE DUMP (.gsa) THAT YtffdofllebbcgaaDoorProg.lean LOADS. Nothing in Lean hashes anything: it is a label: what it is worth is what the hold of that sum in a sandbox is worth. -/
noncomputable def Tryd.pinned : Pinned := { name := "ytffdofllebbcgaadoor", sum := "c555b343b072857a3dbc41572f2e9b392c6f875de9784c096523ca1f8c358b7a", checked := Tryd.checked }
namespace Rows
def none {H : Type} : Left H := { results := [], args := [] }

/- WHAT THE LISTED PACKAGE-LEVEL VARIABLES READ AS WHEN THE CALL BEGINS. Each datum BY PROGRAM (the guide's laid-datum.mjs) off the statement by which the dump's own 'gosem.cut.vars' lays the variable. In a bare row this is a premise. The card (YtffdofllebbcgaaDoorCards.lean) ties it to the program's text. -/
def laid_loop_example_teagle_impl_treeFields {H : Type} : DataW H := .agg [.agg [.lit (.bool false), .lit (.bool false), .lit (.bool false), .lit (.bool false)], .agg [.lit (.bool true), .lit (.bool false), .lit (.bool false), .lit (.bool false)], .agg [.lit (.bool false), .lit (.bool true), .lit (.bool false), .lit (.bool false)], .agg [.lit (.bool true), .lit (.bool false), .lit (.bool false), .lit (.bool false)], .agg [.lit (.bool false), .lit (.bool false), .lit (.bool false), .lit (.bool true)], .agg [.lit (.bool false), .lit (.bool false), .lit (.bool true), .lit (.bool true)], .agg [.lit (.bool false), .lit (.bool false), .lit (.bool false), .lit (.bool true)]]

/-- 'laws.FnExactEventOk': WHATEVER THE INPUT: true; the input reads as it did. -/
def fnExactEventOkSpec : ChangeSpec := { name := "fnExactEventOk", vars := ["loop.example/teagle/impl.treeFields"], fn := fun _ => fun
  | [d, g1] => { results := [.lit (.bool true)], args := [d], vars := [g1] }
  | _ => none }
def fnExactEventOkRow : OpenClaim := { program := "ytffdofllebbcgaadoor", sum := "c555b343b072857a3dbc41572f2e9b392c6f875de9784c096523ca1f8c358b7a", func := "loop.example/teagle/laws.FnExactEventOk", spec := "fnExactEventOk", unfollowed := true, recurses := true, named := ["loop.example/teagle/impl.treeFields"], loops := true, apart := false, laid := [("loop.example/teagle/impl.treeFields", laid_loop_example_teagle_impl_treeFields)] }
def FnExactEventOkSaid : Prop := fnExactEventOkRow.holds Tryd.pinned (OpenSpec.ofChange fnExactEventOkSpec)

/-- ITS FALSE NEIGHBOUR: 'it returns false'. Refute it at one input. -/
def fnExactEventOkWrong : ChangeSpec := { name := "fnExactEventOk", vars := ["loop.example/teagle/impl.treeFields"], fn := fun _ => fun
  | [d, g1] => { results := [.lit (.bool false)], args := [d], vars := [g1] }
  | _ => none }
def FnExactEventOkWrongFalsely : Prop := fnExactEventOkRow.holds Tryd.pinned (OpenSpec.ofChange fnExactEventOkWrong)

/-- 'laws.FnExactEventPack': WHATEVER THE INPUT: true; the input reads as it did. -/
def fnExactEventPackSpec : ChangeSpec := { name := "fnExactEventPack", vars := ["loop.example/teagle/impl.treeFields"], fn := fun _ => fun
  | [d, g1] => { results := [.lit (.bool true)], args := [d], vars := [g1] }
  | _ => none }
def fnExactEventPackRow : OpenClaim := { program := "ytffdofllebbcgaadoor", sum := "c555b343b072857a3dbc41572f2e9b392c6f875de9784c096523ca1f8c358b7a", func := "loop.example/teagle/laws.FnExactEventPack", spec := "fnExactEventPack", unfollowed := true, recurses := true, named := ["loop.example/teagle/impl.treeFields"], loops := true, apart := false, laid := [("loop.example/teagle/impl.treeFields", laid_loop_example_teagle_impl_treeFields)] }
def FnExactEventPackSaid : Prop := fnExactEventPackRow.holds Tryd.pinned (OpenSpec.ofChange fnExactEventPackSpec)

/-- ITS FALSE NEIGHBOUR: 'it returns false'. Refute it at one input. -/
def fnExactEventPackWrong : ChangeSpec := { name := "fnExactEventPack", vars := ["loop.example/teagle/impl.treeFields"], fn := fun _ => fun
  | [d, g1] => { results := [.lit (.bool false)], args := [d], vars := [g1] }
  | _ => none }
def FnExactEventPackWrongFalsely : Prop := fnExactEventPackRow.holds Tryd.pinned (OpenSpec.ofChange fnExactEventPackWrong)

/-- 'laws.FnExactEventUnpack': WHATEVER THE INPUT: true; the input reads as it did. -/
def fnExactEventUnpackSpec : ChangeSpec := { name := "fnExactEventUnpack", vars := ["loop.example/teagle/impl.treeFields"], fn := fun _ => fun
  | [d, g1] => { results := [.lit (.bool true)], args := [d], vars := [g1] }
  | _ => none }
def fnExactEventUnpackRow : OpenClaim := { program := "ytffdofllebbcgaadoor", sum := "c555b343b072857a3dbc41572f2e9b392c6f875de9784c096523ca1f8c358b7a", func := "loop.example/teagle/laws.FnExactEventUnpack", spec := "fnExactEventUnpack", unfollowed := true, recurses := true, named := ["loop.example/teagle/impl.treeFields"], apart := false, laid := [("loop.example/teagle/impl.treeFields", laid_loop_example_teagle_impl_treeFields)] }
def FnExactEventUnpackSaid : Prop := fnExactEventUnpackRow.holds Tryd.pinned (OpenSpec.ofChange fnExactEventUnpackSpec)

/-- ITS FALSE NEIGHBOUR: 'it returns false'. Refute it at one input. -/
def fnExactEventUnpackWrong : ChangeSpec := { name := "fnExactEventUnpack", vars := ["loop.example/teagle/impl.treeFields"], fn := fun _ => fun
  | [d, g1] => { results := [.lit (.bool false)], args := [d], vars := [g1] }
  | _ => none }
def FnExactEventUnpackWrongFalsely : Prop := fnExactEventUnpackRow.holds Tryd.pinned (OpenSpec.ofChange fnExactEventUnpackWrong)

/- THE SECOND FORM. 'bulk': how many values and letters a reading holds, each counted each time it is reached (what is shared counts as often as it is met; a slice's spare places count too). A statement '..UptoSaid' is the law's where the arguments, and the package variables that the reading takes, are together of bulk at most 1048576: NARROWER than '..Said'. Prove '..Said' where nothing that the law and all that it calls make is longer than what came in: it says more and counts as full. Else prove '..UptoSaid'. A law counts once. -/
mutual
def uptoBulk {H : Type} : DataW H → Nat
  | .lit (.string bytes) => bytes.length + 1
  | .lit _ => 1
  | .nil => 1
  | .ptr d => uptoBulk d + 1
  | .slice elems spare => uptoBulkAll elems + uptoBulkAll spare + 1
  | .agg parts => uptoBulkAll parts + 1
  | .iface _ d => uptoBulk d + 1
  | .map entries => uptoBulkEntries entries + 1
  | .held _ => 1
def uptoBulkAll {H : Type} : List (DataW H) → Nat
  | [] => 0
  | d :: r => uptoBulk d + uptoBulkAll r
def uptoBulkEntries {H : Type} : List (Lit × DataW H) → Nat
  | [] => 0
  | x :: r => uptoBulkEntry x + uptoBulkEntries r
def uptoBulkEntry {H : Type} : Lit × DataW H → Nat
  | (.string bytes, d) => bytes.length + uptoBulk d + 1
  | (_, d) => uptoBulk d + 1
 end
def uptoSmall : (H : Type) → List (DataW H) → Bool := fun _ ds => decide (uptoBulkAll ds ≤ 1048576)
def OpenSpec.upto (s : _root_.Go.ChangeSpec) : _root_.Go.OpenSpec := { _root_.Go.OpenSpec.ofChange s with cond := some uptoSmall }

/-- 'laws.FnExactEventOk', WHERE WHAT IT READS IS OF BULK AT MOST 1048576: true; the input reads as it did. -/
def fnExactEventOkUptoRow : OpenClaim := { program := "ytffdofllebbcgaadoor", sum := "c555b343b072857a3dbc41572f2e9b392c6f875de9784c096523ca1f8c358b7a", func := "loop.example/teagle/laws.FnExactEventOk", spec := "fnExactEventOk", unfollowed := true, recurses := true, named := ["loop.example/teagle/impl.treeFields"], loops := true, apart := false, laid := [("loop.example/teagle/impl.treeFields", laid_loop_example_teagle_impl_treeFields)], narrowed := true }
def FnExactEventOkUptoSaid : Prop := fnExactEventOkUptoRow.holds Tryd.pinned (OpenSpec.upto fnExactEventOkSpec)

/-- 'laws.FnExactEventPack', WHERE WHAT IT READS IS OF BULK AT MOST 1048576: true; the input reads as it did. -/
def fnExactEventPackUptoRow : OpenClaim := { program := "ytffdofllebbcgaadoor", sum := "c555b343b072857a3dbc41572f2e9b392c6f875de9784c096523ca1f8c358b7a", func := "loop.example/teagle/laws.FnExactEventPack", spec := "fnExactEventPack", unfollowed := true, recurses := true, named := ["loop.example/teagle/impl.treeFields"], loops := true, apart := false, laid := [("loop.example/teagle/impl.treeFields", laid_loop_example_teagle_impl_treeFields)], narrowed := true }
def FnExactEventPackUptoSaid : Prop := fnExactEventPackUptoRow.holds Tryd.pinned (OpenSpec.upto fnExactEventPackSpec)

/-- 'laws.FnExactEventUnpack', WHERE WHAT IT READS IS OF BULK AT MOST 1048576: true; the input reads as it did. -/
def fnExactEventUnpackUptoRow : OpenClaim := { program := "ytffdofllebbcgaadoor", sum := "c555b343b072857a3dbc41572f2e9b392c6f875de9784c096523ca1f8c358b7a", func := "loop.example/teagle/laws.FnExactEventUnpack", spec := "fnExactEventUnpack", unfollowed := true, recurses := true, named := ["loop.example/teagle/impl.treeFields"], apart := false, laid := [("loop.example/teagle/impl.treeFields", laid_loop_example_teagle_impl_treeFields)], narrowed := true }
def FnExactEventUnpackUptoSaid : Prop := fnExactEventUnpackUptoRow.holds Tryd.pinned (OpenSpec.upto fnExactEventUnpackSpec)

end Rows
end Go.Proofs.YtffdofllebbcgaaDoor
