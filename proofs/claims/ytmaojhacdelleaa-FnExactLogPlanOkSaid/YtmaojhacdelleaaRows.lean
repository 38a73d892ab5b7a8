/-
  No cell of these rows narrows 'for every input' (looked for: loops, veiled, ifaces, maps, wideKeys, modest, calm, conditions, laid).
  DERIVED. THE GIVEN ROWS OF THIS SEAT. 4 by the template 'for every input the law returns true; each argument reads behind the call as it read before'; 0 by the template 'total and deterministic' (their statements: YtmaojhacdelleaaTotals.lean).
  GIVEN WITH THE SEED: the statements are not yours to turn. If you find one false, say at which input.
  Laid BY PROGRAM, IN A SANDBOX (cutbox-rows.mjs): the forced cells as the released guide's own fill.sh prints them over the translation 995d47c1bd23a7dc… (all of the seat's roots in one cut). By AI agents, Wed Nov 11 2026. No macro, syntax, notation, axiom, sorry.
-/
import Derived.Test.YtmaojhacdelleaaChecked
import GoSem.Claim
import GoSem.ClaimJoined
import GoSem.ClaimMapViews
import Derived.JoinedTies
import Derived.KernelRfl
namespace Go.Proofs.Ytmaojhacdelleaa
/- THE CELL 'sum', in the pinned program and in every row, IS THE sha256 OF THE DUMP (.gsa) THAT YtmaojhacdelleaaProg.lean LOADS. Nothing in Lean hashes anything: it is a label: what it is worth is what the hold of that sum in a sandbox is worth. -/
noncomputable def Try.pinned : Pinned := { name := "ytmaojhacdelleaa", sum := "995d47c1bd23a7dcb46d9da7f2972c3346199296183fcbabdc443e34f338f2ba", checked := Try.checked }
namespace Rows
def none {H : Type} : Left H := { results := [], args := [] }

/-- 'laws.FnExactDiskDo': WHATEVER THE INPUT: true; the input reads as it did. -/
def fnExactDiskDoSpec : ChangeSpec := { name := "fnExactDiskDo", fn := fun _ => fun
  | [d1, d2] => { results := [.lit (.bool true)], args := [d1, d2] }
  | _ => none }
def fnExactDiskDoRow : OpenClaim := { program := "ytmaojhacdelleaa", sum := "995d47c1bd23a7dcb46d9da7f2972c3346199296183fcbabdc443e34f338f2ba", func := "loop.example/teagle/laws.FnExactDiskDo", spec := "fnExactDiskDo", unfollowed := true, recurses := true, apart := false }
def FnExactDiskDoSaid : Prop := fnExactDiskDoRow.holds Try.pinned (OpenSpec.ofChange fnExactDiskDoSpec)

/-- ITS FALSE NEIGHBOUR: 'it returns false'. Refute it at one input. -/
def fnExactDiskDoWrong : ChangeSpec := { name := "fnExactDiskDo", fn := fun _ => fun
  | [d1, d2] => { results := [.lit (.bool false)], args := [d1, d2] }
  | _ => none }
def FnExactDiskDoWrongFalsely : Prop := fnExactDiskDoRow.holds Try.pinned (OpenSpec.ofChange fnExactDiskDoWrong)

/-- 'laws.FnExactDiskCut': WHATEVER THE INPUT: true; the input reads as it did. -/
def fnExactDiskCutSpec : ChangeSpec := { name := "fnExactDiskCut", fn := fun _ => fun
  | [d1, d2, d3] => { results := [.lit (.bool true)], args := [d1, d2, d3] }
  | _ => none }
def fnExactDiskCutRow : OpenClaim := { program := "ytmaojhacdelleaa", sum := "995d47c1bd23a7dcb46d9da7f2972c3346199296183fcbabdc443e34f338f2ba", func := "loop.example/teagle/laws.FnExactDiskCut", spec := "fnExactDiskCut", unfollowed := true, recurses := true, apart := false }
def FnExactDiskCutSaid : Prop := fnExactDiskCutRow.holds Try.pinned (OpenSpec.ofChange fnExactDiskCutSpec)

/-- ITS FALSE NEIGHBOUR: 'it returns false'. Refute it at one input. -/
def fnExactDiskCutWrong : ChangeSpec := { name := "fnExactDiskCut", fn := fun _ => fun
  | [d1, d2, d3] => { results := [.lit (.bool false)], args := [d1, d2, d3] }
  | _ => none }
def FnExactDiskCutWrongFalsely : Prop := fnExactDiskCutRow.holds Try.pinned (OpenSpec.ofChange fnExactDiskCutWrong)

/-- 'laws.FnExactLogFrame': WHATEVER THE INPUT: true; the input reads as it did. -/
def fnExactLogFrameSpec : ChangeSpec := { name := "fnExactLogFrame", fn := fun _ => fun
  | [d] => { results := [.lit (.bool true)], args := [d] }
  | _ => none }
def fnExactLogFrameRow : OpenClaim := { program := "ytmaojhacdelleaa", sum := "995d47c1bd23a7dcb46d9da7f2972c3346199296183fcbabdc443e34f338f2ba", func := "loop.example/teagle/laws.FnExactLogFrame", spec := "fnExactLogFrame", unfollowed := true, recurses := true, apart := false }
def FnExactLogFrameSaid : Prop := fnExactLogFrameRow.holds Try.pinned (OpenSpec.ofChange fnExactLogFrameSpec)

/-- ITS FALSE NEIGHBOUR: 'it returns false'. Refute it at one input. -/
def fnExactLogFrameWrong : ChangeSpec := { name := "fnExactLogFrame", fn := fun _ => fun
  | [d] => { results := [.lit (.bool false)], args := [d] }
  | _ => none }
def FnExactLogFrameWrongFalsely : Prop := fnExactLogFrameRow.holds Try.pinned (OpenSpec.ofChange fnExactLogFrameWrong)

/-- 'laws.FnExactLogPlanOk': WHATEVER THE INPUT: true; the input reads as it did. -/
def fnExactLogPlanOkSpec : ChangeSpec := { name := "fnExactLogPlanOk", fn := fun _ => fun
  | [d] => { results := [.lit (.bool true)], args := [d] }
  | _ => none }
def fnExactLogPlanOkRow : OpenClaim := { program := "ytmaojhacdelleaa", sum := "995d47c1bd23a7dcb46d9da7f2972c3346199296183fcbabdc443e34f338f2ba", func := "loop.example/teagle/laws.FnExactLogPlanOk", spec := "fnExactLogPlanOk", recurses := true, apart := false }
def FnExactLogPlanOkSaid : Prop := fnExactLogPlanOkRow.holds Try.pinned (OpenSpec.ofChange fnExactLogPlanOkSpec)

/-- ITS FALSE NEIGHBOUR: 'it returns false'. Refute it at one input. -/
def fnExactLogPlanOkWrong : ChangeSpec := { name := "fnExactLogPlanOk", fn := fun _ => fun
  | [d] => { results := [.lit (.bool false)], args := [d] }
  | _ => none }
def FnExactLogPlanOkWrongFalsely : Prop := fnExactLogPlanOkRow.holds Try.pinned (OpenSpec.ofChange fnExactLogPlanOkWrong)

/- THE SECOND FORM. 'bulk': how many values and letters a reading holds, each counted each time it is reached (what is shared counts as often as it is met; a slice's spare places count too). A statement '..UptoSaid' is the law's where the arguments, and the package variables that the reading takes, are together of bulk at most 1048576: NARROWER than '..Said'. Prove '..Said' where nothing that the law and all that it calls make is longer than what came in: it says more and counts as full. Else prove '..UptoSaid'. A law counts once. -/
mutual
def uptoBulk {H : Type} : DataW H → Nat
  | .lit (.string bytes) => bytes.length + 1
  | .lit _ => 1
  | .nil => 1
  | .ptr d => uptoBulk d + 1
  | .slice elems spare => uptoBulkAll elems + uptoBulkAll spare + 1
  | .agg parts => uptoBulkAll parts + 1
  | .iface _ d => uptoBulk d + 1
  | .map entries => uptoBulkEntries entries + 1
  | .held _ => 1
def uptoBulkAll {H : Type} : List (DataW H) → Nat
  | [] => 0
  | d :: r => uptoBulk d + uptoBulkAll r
def uptoBulkEntries {H : Type} : List (Lit × DataW H) → Nat
  | [] => 0
  | x :: r => uptoBulkEntry x + uptoBulkEntries r
def uptoBulkEntry {H : Type} : Lit × DataW H → Nat
  | (.string bytes, d) => bytes.length + uptoBulk d + 1
  | (_, d) => uptoBulk d + 1
 end
def uptoSmall : (H : Type) → List (DataW H) → Bool := fun _ ds => decide (uptoBulkAll ds ≤ 1048576)
def OpenSpec.upto (s : _root_.Go.ChangeSpec) : _root_.Go.OpenSpec := { _root_.Go.OpenSpec.ofChange s with cond := some uptoSmall }

/-- 'laws.FnExactDiskDo', WHERE WHAT IT READS IS OF BULK AT MOST 1048576: true; the input reads as it did. -/
def fnExactDiskDoUptoRow : OpenClaim := { program := "ytmaojhacdelleaa", sum := "995d47c1bd23a7dcb46d9da7f2972c3346199296183fcbabdc443e34f338f2ba", func := "loop.example/teagle/laws.FnExactDiskDo", spec := "fnExactDiskDo", unfollowed := true, recurses := true, apart := false, narrowed := true }
def FnExactDiskDoUptoSaid : Prop := fnExactDiskDoUptoRow.holds Try.pinned (OpenSpec.upto fnExactDiskDoSpec)

/-- 'laws.FnExactDiskCut', WHERE WHAT IT READS IS OF BULK AT MOST 1048576: true; the input reads as it did. -/
def fnExactDiskCutUptoRow : OpenClaim := { program := "ytmaojhacdelleaa", sum := "995d47c1bd23a7dcb46d9da7f2972c3346199296183fcbabdc443e34f338f2ba", func := "loop.example/teagle/laws.FnExactDiskCut", spec := "fnExactDiskCut", unfollowed := true, recurses := true, apart := false, narrowed := true }
def FnExactDiskCutUptoSaid : Prop := fnExactDiskCutUptoRow.holds Try.pinned (OpenSpec.upto fnExactDiskCutSpec)

/-- 'laws.FnExactLogFrame', WHERE WHAT IT READS IS OF BULK AT MOST 1048576: true; the input reads as it did. -/
def fnExactLogFrameUptoRow : OpenClaim := { program := "ytmaojhacdelleaa", sum := "995d47c1bd23a7dcb46d9da7f2972c3346199296183fcbabdc443e34f338f2ba", func := "loop.example/teagle/laws.FnExactLogFrame", spec := "fnExactLogFrame", unfollowed := true, recurses := true, apart := false, narrowed := true }
def FnExactLogFrameUptoSaid : Prop := fnExactLogFrameUptoRow.holds Try.pinned (OpenSpec.upto fnExactLogFrameSpec)

/-- 'laws.FnExactLogPlanOk', WHERE WHAT IT READS IS OF BULK AT MOST 1048576: true; the input reads as it did. -/
def fnExactLogPlanOkUptoRow : OpenClaim := { program := "ytmaojhacdelleaa", sum := "995d47c1bd23a7dcb46d9da7f2972c3346199296183fcbabdc443e34f338f2ba", func := "loop.example/teagle/laws.FnExactLogPlanOk", spec := "fnExactLogPlanOk", recurses := true, apart := false, narrowed := true }
def FnExactLogPlanOkUptoSaid : Prop := fnExactLogPlanOkUptoRow.holds Try.pinned (OpenSpec.upto fnExactLogPlanOkSpec)

end Rows
end Go.Proofs.Ytmaojhacdelleaa
