/-
  No cell of these rows narrows 'for every input' (looked for: loops, veiled, ifaces, maps, wideKeys, modest, calm, conditions, laid).
  DERIVED. THE GIVEN ROWS OF THIS SEAT. 6 by the template 'for every input the law returns true; each argument reads behind the call as it read before'; 0 by the template 'total and deterministic' (their statements: YtchbialjgcejgaaTotals.lean).
  GIVEN WITH THE SEED: the statements are not yours to turn. If you find one false, say at which input.
  Laid BY PROGRAM, IN A SANDBOX (cutbox-rows.mjs): the forced cells as the released guide's own fill.sh prints them over the translation 39b29cb1248daa18… (all of the seat's roots in one cut). By AI agents, Wed Nov 11 2026. No macro, syntax, notation, axiom, sorry.
-/
import Derived.Test.YtchbialjgcejgaaChecked
import GoSem.Claim
import GoSem.ClaimJoined
import GoSem.ClaimMapViews
import Derived.JoinedTies
import Derived.KernelRfl
namespace Go.Proofs.Ytchbialjgcejgaa
/- THE CELL 'sum', in the pinned program and in every row, IS THE sha256 OF THE DUMP (.gsa) THAT YtchbialjgcejgaaProg.lean LOADS. Nothing in Lean hashes anything: it is a label: what it is worth is what the hold of that sum in a sandbox is worth. -/
noncomputable def Try.pinned : Pinned := { name := "ytchbialjgcejgaa", sum := "39b29cb1248daa18a1aef236cfaa6e668f560d05a4194a6e35148b9e22edc8c9", checked := Try.checked }
namespace Rows
def none {H : Type} : Left H := { results := [], args := [] }

/-- 'laws.FnCrewStart': WHATEVER THE INPUT: true; the input reads as it did. -/
def fnCrewStartSpec : ChangeSpec := { name := "fnCrewStart", fn := fun _ => fun
  | [d] => { results := [.lit (.bool true)], args := [d] }
  | _ => none }
def fnCrewStartRow : OpenClaim := { program := "ytchbialjgcejgaa", sum := "39b29cb1248daa18a1aef236cfaa6e668f560d05a4194a6e35148b9e22edc8c9", func := "loop.example/teagle/laws.FnCrewStart", spec := "fnCrewStart", unfollowed := true, recurses := true, apart := false }
def FnCrewStartSaid : Prop := fnCrewStartRow.holds Try.pinned (OpenSpec.ofChange fnCrewStartSpec)

/-- ITS FALSE NEIGHBOUR: 'it returns false'. Refute it at one input. -/
def fnCrewStartWrong : ChangeSpec := { name := "fnCrewStart", fn := fun _ => fun
  | [d] => { results := [.lit (.bool false)], args := [d] }
  | _ => none }
def FnCrewStartWrongFalsely : Prop := fnCrewStartRow.holds Try.pinned (OpenSpec.ofChange fnCrewStartWrong)

/-- 'laws.FnExactCrewStart': WHATEVER THE INPUT: true; the input reads as it did. -/
def fnExactCrewStartSpec : ChangeSpec := { name := "fnExactCrewStart", fn := fun _ => fun
  | [d1, d2, d3] => { results := [.lit (.bool true)], args := [d1, d2, d3] }
  | _ => none }
def fnExactCrewStartRow : OpenClaim := { program := "ytchbialjgcejgaa", sum := "39b29cb1248daa18a1aef236cfaa6e668f560d05a4194a6e35148b9e22edc8c9", func := "loop.example/teagle/laws.FnExactCrewStart", spec := "fnExactCrewStart", apart := false }
def FnExactCrewStartSaid : Prop := fnExactCrewStartRow.holds Try.pinned (OpenSpec.ofChange fnExactCrewStartSpec)

/-- ITS FALSE NEIGHBOUR: 'it returns false'. Refute it at one input. -/
def fnExactCrewStartWrong : ChangeSpec := { name := "fnExactCrewStart", fn := fun _ => fun
  | [d1, d2, d3] => { results := [.lit (.bool false)], args := [d1, d2, d3] }
  | _ => none }
def FnExactCrewStartWrongFalsely : Prop := fnExactCrewStartRow.holds Try.pinned (OpenSpec.ofChange fnExactCrewStartWrong)

/-- 'laws.FnExactCrewLeft': WHATEVER THE INPUT: true; the input reads as it did. -/
def fnExactCrewLeftSpec : ChangeSpec := { name := "fnExactCrewLeft", fn := fun _ => fun
  | [d] => { results := [.lit (.bool true)], args := [d] }
  | _ => none }
def fnExactCrewLeftRow : OpenClaim := { program := "ytchbialjgcejgaa", sum := "39b29cb1248daa18a1aef236cfaa6e668f560d05a4194a6e35148b9e22edc8c9", func := "loop.example/teagle/laws.FnExactCrewLeft", spec := "fnExactCrewLeft", unfollowed := true, recurses := true, apart := false }
def FnExactCrewLeftSaid : Prop := fnExactCrewLeftRow.holds Try.pinned (OpenSpec.ofChange fnExactCrewLeftSpec)

/-- ITS FALSE NEIGHBOUR: 'it returns false'. Refute it at one input. -/
def fnExactCrewLeftWrong : ChangeSpec := { name := "fnExactCrewLeft", fn := fun _ => fun
  | [d] => { results := [.lit (.bool false)], args := [d] }
  | _ => none }
def FnExactCrewLeftWrongFalsely : Prop := fnExactCrewLeftRow.holds Try.pinned (OpenSpec.ofChange fnExactCrewLeftWrong)

/-- 'laws.FnExactCrewOk': WHATEVER THE INPUT: true; the input reads as it did. -/
def fnExactCrewOkSpec : ChangeSpec := { name := "fnExactCrewOk", fn := fun _ => fun
  | [d] => { results := [.lit (.bool true)], args := [d] }
  | _ => none }
def fnExactCrewOkRow : OpenClaim := { program := "ytchbialjgcejgaa", sum := "39b29cb1248daa18a1aef236cfaa6e668f560d05a4194a6e35148b9e22edc8c9", func := "loop.example/teagle/laws.FnExactCrewOk", spec := "fnExactCrewOk", unfollowed := true, recurses := true, apart := false }
def FnExactCrewOkSaid : Prop := fnExactCrewOkRow.holds Try.pinned (OpenSpec.ofChange fnExactCrewOkSpec)

/-- ITS FALSE NEIGHBOUR: 'it returns false'. Refute it at one input. -/
def fnExactCrewOkWrong : ChangeSpec := { name := "fnExactCrewOk", fn := fun _ => fun
  | [d] => { results := [.lit (.bool false)], args := [d] }
  | _ => none }
def FnExactCrewOkWrongFalsely : Prop := fnExactCrewOkRow.holds Try.pinned (OpenSpec.ofChange fnExactCrewOkWrong)

/-- 'laws.FnExactCrewEnded': WHATEVER THE INPUT: true; the input reads as it did. -/
def fnExactCrewEndedSpec : ChangeSpec := { name := "fnExactCrewEnded", fn := fun _ => fun
  | [d] => { results := [.lit (.bool true)], args := [d] }
  | _ => none }
def fnExactCrewEndedRow : OpenClaim := { program := "ytchbialjgcejgaa", sum := "39b29cb1248daa18a1aef236cfaa6e668f560d05a4194a6e35148b9e22edc8c9", func := "loop.example/teagle/laws.FnExactCrewEnded", spec := "fnExactCrewEnded", unfollowed := true, recurses := true, apart := false }
def FnExactCrewEndedSaid : Prop := fnExactCrewEndedRow.holds Try.pinned (OpenSpec.ofChange fnExactCrewEndedSpec)

/-- ITS FALSE NEIGHBOUR: 'it returns false'. Refute it at one input. -/
def fnExactCrewEndedWrong : ChangeSpec := { name := "fnExactCrewEnded", fn := fun _ => fun
  | [d] => { results := [.lit (.bool false)], args := [d] }
  | _ => none }
def FnExactCrewEndedWrongFalsely : Prop := fnExactCrewEndedRow.holds Try.pinned (OpenSpec.ofChange fnExactCrewEndedWrong)

/-- 'laws.FnExactCrewSerial': WHATEVER THE INPUT: true; the input reads as it did. -/
def fnExactCrewSerialSpec : ChangeSpec := { name := "fnExactCrewSerial", fn := fun _ => fun
  | [d] => { results := [.lit (.bool true)], args := [d] }
  | _ => none }
def fnExactCrewSerialRow : OpenClaim := { program := "ytchbialjgcejgaa", sum := "39b29cb1248daa18a1aef236cfaa6e668f560d05a4194a6e35148b9e22edc8c9", func := "loop.example/teagle/laws.FnExactCrewSerial", spec := "fnExactCrewSerial", unfollowed := true, recurses := true, apart := false }
def FnExactCrewSerialSaid : Prop := fnExactCrewSerialRow.holds Try.pinned (OpenSpec.ofChange fnExactCrewSerialSpec)

/-- ITS FALSE NEIGHBOUR: 'it returns false'. Refute it at one input. -/
def fnExactCrewSerialWrong : ChangeSpec := { name := "fnExactCrewSerial", fn := fun _ => fun
  | [d] => { results := [.lit (.bool false)], args := [d] }
  | _ => none }
def FnExactCrewSerialWrongFalsely : Prop := fnExactCrewSerialRow.holds Try.pinned (OpenSpec.ofChange fnExactCrewSerialWrong)

/- THE SECOND FORM. 'bulk': how many values and letters a reading holds, each counted each time it is reached (what is shared counts as often as it is met; a slice's spare places count too). A statement '..UptoSaid' is the law's where the arguments, and the package variables that the reading takes, are together of bulk at most 1048576: NARROWER than '..Said'. Prove '..Said' where nothing that the law and all that it calls make is longer than what came in: it says more and counts as full. Else prove '..UptoSaid'. A law counts once. -/
mutual
def uptoBulk {H : Type} : DataW H → Nat
  | .lit (.string bytes) => bytes.length + 1
  | .lit _ => 1
  | .nil => 1
  | .ptr d => uptoBulk d + 1
  | .slice elems spare => uptoBulkAll elems + uptoBulkAll spare + 1
  | .agg parts => uptoBulkAll parts + 1
  | .iface _ d => uptoBulk d + 1
  | .map entries => uptoBulkEntries entries + 1
  | .held _ => 1
def uptoBulkAll {H : Type} : List (DataW H) → Nat
  | [] => 0
  | d :: r => uptoBulk d + uptoBulkAll r
def uptoBulkEntries {H : Type} : List (Lit × DataW H) → Nat
  | [] => 0
  | x :: r => uptoBulkEntry x + uptoBulkEntries r
def uptoBulkEntry {H : Type} : Lit × DataW H → Nat
  | (.string bytes, d) => bytes.length + uptoBulk d + 1
  | (_, d) => uptoBulk d + 1
 end
def uptoSmall : (H : Type) → List (DataW H) → Bool := fun _ ds => decide (uptoBulkAll ds ≤ 1048576)
def OpenSpec.upto (s : _root_.Go.ChangeSpec) : _root_.Go.OpenSpec := { _root_.Go.OpenSpec.ofChange s with cond := some uptoSmall }

/-- 'laws.FnCrewStart', WHERE WHAT IT READS IS OF BULK AT MOST 1048576: true; the input reads as it did. -/
def fnCrewStartUptoRow : OpenClaim := { program := "ytchbialjgcejgaa", sum := "39b29cb1248daa18a1aef236cfaa6e668f560d05a4194a6e35148b9e22edc8c9", func := "loop.example/teagle/laws.FnCrewStart", spec := "fnCrewStart", unfollowed := true, recurses := true, apart := false, narrowed := true }
def FnCrewStartUptoSaid : Prop := fnCrewStartUptoRow.holds Try.pinned (OpenSpec.upto fnCrewStartSpec)

/-- 'laws.FnExactCrewStart', WHERE WHAT IT READS IS OF BULK AT MOST 1048576: true; the input reads as it did. -/
def fnExactCrewStartUptoRow : OpenClaim := { program := "ytchbialjgcejgaa", sum := "39b29cb1248daa18a1aef236cfaa6e668f560d05a4194a6e35148b9e22edc8c9", func := "loop.example/teagle/laws.FnExactCrewStart", spec := "fnExactCrewStart", apart := false, narrowed := true }
def FnExactCrewStartUptoSaid : Prop := fnExactCrewStartUptoRow.holds Try.pinned (OpenSpec.upto fnExactCrewStartSpec)

/-- 'laws.FnExactCrewLeft', WHERE WHAT IT READS IS OF BULK AT MOST 1048576: true; the input reads as it did. -/
def fnExactCrewLeftUptoRow : OpenClaim := { program := "ytchbialjgcejgaa", sum := "39b29cb1248daa18a1aef236cfaa6e668f560d05a4194a6e35148b9e22edc8c9", func := "loop.example/teagle/laws.FnExactCrewLeft", spec := "fnExactCrewLeft", unfollowed := true, recurses := true, apart := false, narrowed := true }
def FnExactCrewLeftUptoSaid : Prop := fnExactCrewLeftUptoRow.holds Try.pinned (OpenSpec.upto fnExactCrewLeftSpec)

/-- 'laws.FnExactCrewOk', WHERE WHAT IT READS IS OF BULK AT MOST 1048576: true; the input reads as it did. -/
def fnExactCrewOkUptoRow : OpenClaim := { program := "ytchbialjgcejgaa", sum := "39b29cb1248daa18a1aef236cfaa6e668f560d05a4194a6e35148b9e22edc8c9", func := "loop.example/teagle/laws.FnExactCrewOk", spec := "fnExactCrewOk", unfollowed := true, recurses := true, apart := false, narrowed := true }
def FnExactCrewOkUptoSaid : Prop := fnExactCrewOkUptoRow.holds Try.pinned (OpenSpec.upto fnExactCrewOkSpec)

/-- 'laws.FnExactCrewEnded', WHERE WHAT IT READS IS OF BULK AT MOST 1048576: true; the input reads as it did. -/
def fnExactCrewEndedUptoRow : OpenClaim := { program := "ytchbialjgcejgaa", sum := "39b29cb1248daa18a1aef236cfaa6e668f560d05a4194a6e35148b9e22edc8c9", func := "loop.example/teagle/laws.FnExactCrewEnded", spec := "fnExactCrewEnded", unfollowed := true, recurses := true, apart := false, narrowed := true }
def FnExactCrewEndedUptoSaid : Prop := fnExactCrewEndedUptoRow.holds Try.pinned (OpenSpec.upto fnExactCrewEndedSpec)

/-- 'laws.FnExactCrewSerial', WHERE WHAT IT READS IS OF BULK AT MOST 1048576: true; the input reads as it did. -/
def fnExactCrewSerialUptoRow : OpenClaim := { program := "ytchbialjgcejgaa", sum := "39b29cb1248daa18a1aef236cfaa6e668f560d05a4194a6e35148b9e22edc8c9", func := "loop.example/teagle/laws.FnExactCrewSerial", spec := "fnExactCrewSerial", unfollowed := true, recurses := true, apart := false, narrowed := true }
def FnExactCrewSerialUptoSaid : Prop := fnExactCrewSerialUptoRow.holds Try.pinned (OpenSpec.upto fnExactCrewSerialSpec)

end Rows
end Go.Proofs.Ytchbialjgcejgaa
