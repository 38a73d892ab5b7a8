/- For every row of bytes that comes in, and so for every plan that is drawn of it: a plan that is ok is written as the specification writes it, its text is read back as that plan, and no shorter beginning of that text that the law tries is read: the law FnLogPlan returns true, and its argument reads behind the call as it read before.
   Conditions: those of the given card alone (the tables and errors of strconv start as their texts lay them; the card ties that). -/
import Derived.Test.YtcnkkegpckibbaaDoorCards
import Derived.Test.YtcnkkegpckibbaaDoorTie
import Derived.Test.YtcnkkegpckibbaaDoorPart13
import Derived.Deep.DeepHandedRow
import Derived.Deep.DeepLaidRun
namespace Go.Proofs.YtcnkkegpckibbaaDoor
open Go.ChangeShapes Go.WideShapes Go.ChangeAt Go.RowKit

theorem own : ownKnob Tryd.prog.godebug = none := by kernel_rfl
theorem laidOut : laidOutB Tryd.prog = true := by kernel_rfl
theorem readBy : Tryd.prog.readableRec 22 = true := by kernel_rfl
theorem rowBy : 22 < Tryd.prog.types.size := of_decide_eq_true (by kernel_rfl)

set_option maxRecDepth 100000 in
/-- What the walk gives, for every argument and every world that holds the tables. -/
theorem logPlanP_contract (H : Type) (enc : TypeId × Value → H) (W : World) (base : Nat) (args : Array Value) (ds gs : List (DataW H)) (before : List MemPlace)
    (hval : ∀ (j : Nat) t v, Tryd.f3.params[j]? = some t → args[j]? = some v → Value.okWide Tryd.prog W .any base t v)
    (hW : DataW.Whole enc Tryd.prog Tryd.f3.params.toList Rows.fnLogPlanSpec.vars false W args.toList ds gs before) (hL : laidMetH Tryd.prog Rows.fnLogPlanRow.laid W) (hsh : W.ShapedOpen Tryd.prog) :
    Calls Tryd.prog 3 args W fun e W' => ∃ v, e = .returned v ∧ Rows.fnLogPlanSpec.post enc Tryd.prog Tryd.f3 false true false false W args v W' := by
  have hW' := hW
  have hlt := hW.lt
  obtain ⟨p, q, hA0, hV, hpq, hfz, hnd⟩ := hW
  have hA : DataW.TrodAll enc Tryd.prog W 0 (fun _ => true) true Tryd.f3.params.toList args.toList ds p := hA0
  rw [Tryd.params3] at hA hval
  obtain ⟨v0, vs0, d0, ds0, p0, q0, hargs, hds, hp, h0, r0⟩ := trodAll_cons hA
  obtain ⟨hvs, hds0, hq0⟩ := trodAll_nil r0
  subst hvs hds0 hq0
  obtain rfl : args = #[v0] := by cases args; simp_all
  subst hds
  obtain ⟨hgs, hq⟩ := trodVars_none hV
  subst hgs hq
  have h0k := h0
  obtain ⟨fl, hf⟩ := h0
  obtain ⟨sa, sl, sc, hv0⟩ := okWide_slice Tryd.underlying22 (hval 0 22 v0 rfl rfl)
  subst hv0
  obtain ⟨l, hl⟩ := bytes_of_trod hf
  have hcap := bytes_cap hf
  have hll := hl
  obtain ⟨a', c', e', hlen, -⟩ := hll
  simp only [Value.slice.injEq] at e'
  obtain ⟨rfl, rfl, rfl⟩ := e'
  obtain ⟨e1, e2, e3, e4⟩ := envP_of_laid hL hsh
  refine (lawLogPlan_any W _ _ l hl hcap hlen e1 e2 e3 e4).mono fun e W' ⟨he, hb⟩ => ?_
  subst he
  have hltp : ∀ x ∈ p0, x.block < W.heap.size := fun x hx => hlt x (by rw [hpq, hp]; simp [hx])
  refine ⟨_, rfl, _, _, before, [], p0, [], hW', ?_, ?_, ?_, hb.frame _, fun h => by cases h⟩
  · exact trodAll_mk1 (shut_bool Tryd.underlying4 true)
  · exact trodAll_mk1 (hb.trod laidOut readBy rowBy h0k hltp)
  · rfl

/-- A block of a variable, holding these cells. -/
def putCells (cs : Array Value) : Obj → Obj
  | .cells _ t frozen => .cells cs t frozen
  | o => o
def u8s (l : List Int) : Array Value := (l.map fun z => Value.int .u8 z).toArray
def u64s (l : List Int) : Array Value := (l.map fun z => Value.int .u64 z).toArray
def bits32 : List Int := [0, 1, 28, 2, 29, 14, 24, 3, 30, 22, 20, 15, 25, 17, 4, 8, 31, 27, 13, 23, 21, 19, 16, 7, 26, 12, 18, 6, 11, 5, 10, 9]
def bits64 : List Int := [0, 1, 56, 2, 57, 49, 28, 3, 61, 58, 42, 50, 38, 29, 17, 4, 62, 47, 59, 36, 45, 43, 51, 22, 53, 39, 33, 30, 24, 18, 12, 5, 63, 55, 48, 27, 60, 41, 37, 16, 46, 35, 44, 21, 52, 32, 23, 11, 54, 26, 40, 15, 34, 20, 31, 10, 25, 14, 19, 9, 13, 8, 7, 6]
def rangeText : ByteArray := ⟨#[118, 97, 108, 117, 101, 32, 111, 117, 116, 32, 111, 102, 32, 114, 97, 110, 103, 101]⟩
def syntaxText : ByteArray := ⟨#[105, 110, 118, 97, 108, 105, 100, 32, 115, 121, 110, 116, 97, 120]⟩
/-- A world for the witness: the settled one, the variables holding what their texts lay. -/
noncomputable def laidWorld (os : Os) : World :=
  { World.holding Tryd.prog os ⟨#[], #[], []⟩ with heap := (((((((World.holding Tryd.prog os ⟨#[], #[], []⟩).heap.modify 4 (putCells (u8s bits32))).modify 5 (putCells (u8s bits64))).modify 3 (putCells (u64s Lib.pow10Tab))).modify 2 (putCells #[.iface 123 (.pointer (some ⟨(World.holding Tryd.prog os ⟨#[], #[], []⟩).heap.size, 0, none⟩))])).modify 1 (putCells #[.iface 123 (.pointer (some ⟨(World.holding Tryd.prog os ⟨#[], #[], []⟩).heap.size + 1, 0, none⟩))])).push (.cells #[.string rangeText] 125 (0, 0))).push (.cells #[.string syntaxText] 125 (0, 0)) }
def zeroText : Value := .slice none 0 0
theorem laid_met (os : Os) : laidMet Tryd.prog Rows.fnLogPlanRow.laid ((laidWorld os).forCall (fun _ _ => 0) ⟨#[], #[zeroText], []⟩).memory :=
  laidMet_of_run3 8 (by kernel_rfl) (by kernel_rfl) (by kernel_rfl)
theorem reads (os : Os) {H : Type} (enc : TypeId × Value → H) : ∃ places, DataW.whole enc Tryd.prog ((laidWorld os).forCall (fun _ _ => 0) ⟨#[], #[zeroText], []⟩).memory Tryd.f3.params.toList Rows.fnLogPlanSpec.vars false #[zeroText].toList 8 =
    some ([.nil], [], places) :=
  ⟨[], by kernel_rfl⟩

set_option maxRecDepth 100000 in
theorem logPlanP_lifted (os : Os) (started : os.Started) (H : Type) (enc : TypeId × Value → H) (F : Stop.Interp) :
    ReturnsInHanded {} Tryd.checked os 3 .any ((OpenSpec.ofChange Rows.fnLogPlanSpec).preRow enc Tryd.prog Tryd.f3 Rows.fnLogPlanRow.domain false Rows.fnLogPlanRow.laid) (((OpenSpec.ofChange Rows.fnLogPlanSpec).at F).post enc Tryd.prog Tryd.f3 false true false false) := by
  obtain ⟨places, hx⟩ := reads os enc
  refine returnsInHanded_of_row (C := Tryd.checked) (s := OpenSpec.ofChange Rows.fnLogPlanSpec) own started (by kernel_rfl) Tryd.func3
    (witness_row_at (enc := enc) (C := Tryd.checked) false (laidWorld os) #[zeroText] rfl (by kernel_rfl) (by kernel_rfl) (by kernel_rfl)
      (OpenSpec.preRow_of_cond 8 hx (by kernel_rfl) (fun k hk => by cases hk) (by kernel_rfl) (laid_met os))) ?_
  intro W base args ds gs before hval hW _ _ _ hL hsh _
  exact logPlanP_contract H enc W base args ds gs before hval hW hL hsh

theorem logPlanP_said : Rows.FnLogPlanSaid :=
  OpenClaim.holds_of_cond 3 Tryd.f3 rfl rfl rfl rfl rfl rfl rfl ⟨rfl, rfl, rfl, rfl, rfl⟩ rfl rfl rfl rfl rfl (by kernel_rfl) Tryd.func3 (by kernel_rfl)
    (of_decide_eq_true (by kernel_rfl)) (by unfold Func.isWrapper; first | (rw [if_pos (by decide +kernel)]; kernel_rfl) | (rw [if_neg (by decide +kernel)]; exact ⟨rfl, rfl⟩))
    (fun os started H enc _ F => by rw [OpenClaim.pre_eq_preRow]; exact logPlanP_lifted os started H enc F)

theorem logPlanP_plain (f : FuncId) (fn : Func) (hf : Tryd.pinned.checked.prog.funcNamed "loop.example/teagle/laws.FnLogPlan" = some f) (hfn : Tryd.pinned.checked.prog.funcs[f]? = some fn) :
    true = Tryd.pinned.checked.prog.looks [] ∧ ∀ (j : Nat) t, fn.params[j]? = some t → Tryd.pinned.checked.prog.wantsStandIn t = false := by
  obtain rfl : f = 3 := Option.some.inj ((show Tryd.prog.funcNamed "loop.example/teagle/laws.FnLogPlan" = some 3 by kernel_rfl).symm.trans hf) |>.symm
  obtain rfl : fn = Tryd.f3 := (Option.some.inj (Tryd.func3.symm.trans hfn)).symm
  refine ⟨by kernel_rfl, fun j t ht => ?_⟩
  rw [Tryd.params3] at ht
  obtain rfl : t = 22 := by simpa using Array.mem_of_getElem? ht
  exact (show Tryd.prog.wantsStandIn 22 = false by kernel_rfl)

/-- The card. -/
theorem logPlanP_card : Rows.FnLogPlanCardSaid :=
  Claim7.holds_tied_plain_at .later [] _ _ _ _ logPlanP_said (fun _ h => by cases h) (by kernel_rfl) (fun _ h => by cases h) fnLogPlan_row_tie rfl ⟨rfl, rfl⟩ (by kernel_rfl) rfl logPlanP_plain (by kernel_rfl)
end Go.Proofs.YtcnkkegpckibbaaDoor
