/- For every plan that comes in, LogPlanWrite answers as the specification's LogPlanWrite does, and leaves its argument as it was: the law FnExactLogPlanWrite returns true, and its argument reads behind the call as it read before.
   Conditions: those of the given card alone (the tables of strconv and math/bits start as their texts lay them; the card ties that). -/
import Derived.Test.YtmaojhacdelleaaDoorCards
import Derived.Test.YtmaojhacdelleaaDoorTie
import Derived.Test.YtmaojhacdelleaaDoorWLawPW
import Derived.Test.YtmaojhacdelleaaDoorOpenDk
import Derived.Deep.DeepHandedRow
import Derived.Deep.DeepLaidRun
import Derived.MakeChecks
import Derived.Lib.LaidTab
import Derived.LaidLaws
namespace Go.Proofs.YtmaojhacdelleaaDoor
open Go.ChangeShapes Go.WideShapes Go.ChangeAt Go.RowKit Go.Deep

theorem own : ownKnob Tryd.prog.godebug = none := by kernel_rfl
theorem laidOut : laidOutB Tryd.prog = true := by kernel_rfl
theorem readPlan : Tryd.prog.readableRec 24 = true := by kernel_rfl
theorem rowPlan : 24 < Tryd.prog.types.size := of_decide_eq_true (by kernel_rfl)
def zeroPlan : Value := .agg #[.slice none 0 0, .int .i64 0, .int .i64 0]
theorem cellsPlan : Tryd.prog.cellsOf 24 = 3 := by kernel_rfl
theorem cellsPart : Tryd.prog.cellsOf 46 = 4 := by kernel_rfl
theorem onePlan : ∃ fs : Array Field, Tryd.prog.underlying 24 = some (.struct fs) ∧ oneCellFields Tryd.prog fs = true ∧ fs.map (·.type) = #[22, 3, 3] := ⟨_, Tryd.underlying24, by kernel_rfl, by kernel_rfl⟩
theorem onePart : ∃ fs : Array Field, Tryd.prog.underlying 46 = some (.struct fs) ∧ oneCellFields Tryd.prog fs = true ∧ fs.map (·.type) = #[3, 3, 3, 3] := ⟨_, Tryd.underlying46, by kernel_rfl, by kernel_rfl⟩
section
variable {H : Type} {enc : TypeId × Value → H} {W : World} {spare : Nat → Bool} {held : Bool}
theorem part_of_trod (fuel : Nat) (l : List Value) (x : DataW H × List MemPlace) (h : DataW.trod enc Tryd.prog W 0 spare held fuel 46 l = some x) : ∃ e : Pt, l = e.cs ∧ True := by
  obtain ⟨hl, n, hf⟩ := fields_of (k := 4) rfl onePart h
  rw [cellsPart] at hl
  match l, hl with
  | [c0, c1, c2, c3], _ =>
    obtain ⟨y0, h0⟩ := hf 0 _ (by omega) rfl
    obtain ⟨y1, h1⟩ := hf 1 _ (by omega) rfl
    obtain ⟨y2, h2⟩ := hf 2 _ (by omega) rfl
    obtain ⟨y3, h3⟩ := hf 3 _ (by omega) rfl
    simp only [List.drop_succ_cons, List.drop_zero, List.take_succ_cons, List.take_zero] at h0 h1 h2 h3
    obtain ⟨k0, e0, -, -⟩ := DataW.trod_int Tryd.underlying3 h0
    obtain ⟨k1, e1, -, -⟩ := DataW.trod_int Tryd.underlying3 h1
    obtain ⟨k2, e2, -, -⟩ := DataW.trod_int Tryd.underlying3 h2
    obtain ⟨k3, e3, -, -⟩ := DataW.trod_int Tryd.underlying3 h3
    simp only [List.cons.injEq, and_true] at e0 e1 e2 e3
    subst e0 e1 e2 e3
    exact ⟨⟨k0, k1, k2, k3⟩, rfl, trivial⟩
theorem pl_of_trod (fuel : Nat) (cs : List Value) (x : DataW H × List MemPlace) (h : DataW.trod enc Tryd.prog W 0 spare held fuel 24 cs = some x) : ∃ (l : Pl) (v : Value), cs = [v, .int .i64 l.op, .int .i64 l.fi] ∧ PtsAt (fun b => b < W.heap.size) W v l.parts := by
  obtain ⟨hl, n, hf⟩ := fields_of (k := 3) rfl onePlan h
  rw [cellsPlan] at hl
  match cs, hl with
  | [c0, c1, c2], _ =>
    obtain ⟨y0, h0⟩ := hf 0 _ (by omega) rfl
    obtain ⟨y1, h1⟩ := hf 1 _ (by omega) rfl
    obtain ⟨y2, h2⟩ := hf 2 _ (by omega) rfl
    simp only [List.drop_succ_cons, List.drop_zero, List.take_succ_cons, List.take_zero] at h0 h1 h2
    obtain ⟨ps, hps, -⟩ := flat_of_trod Pt.cs (fun _ => True) 46 22 4 (by omega) (fun _ => rfl) Tryd.underlying22 cellsPart part_of_trod h0
    obtain ⟨k1, e1, -, -⟩ := DataW.trod_int Tryd.underlying3 h1
    obtain ⟨k2, e2, -, -⟩ := DataW.trod_int Tryd.underlying3 h2
    simp only [List.cons.injEq, and_true] at e1 e2
    subst e1 e2
    exact ⟨⟨ps, k1, k2⟩, c0, rfl, hps⟩
end

theorem gPowTypeW : (Tryd.prog.globals[0]?).map (·.type) = some 86 := by kernel_rfl
theorem cellsU64W : Tryd.prog.cellsOf 68 = 1 := by kernel_rfl
theorem cellsPowW : Tryd.prog.cellsOf 86 = 20 := by kernel_rfl
theorem powDataW : (Rows.laid_internal_strconv_uint64pow10 : DataW Unit) = Lib.tabData .u64 Lib.pow10Tab := by rfl

set_option maxRecDepth 100000 in
/-- The table of powers, off what the row lists. -/
theorem tab_of_laid {W : World} (h : laidMetH Tryd.prog [("math/bits.deBruijn32tab", Rows.laid_math_bits_deBruijn32tab), ("math/bits.deBruijn64tab", Rows.laid_math_bits_deBruijn64tab), ("internal/strconv.uint64pow10", Rows.laid_internal_strconv_uint64pow10)] W) : Lib.TabIs Tryd.prog W "internal/strconv.uint64pow10" .u64 Lib.pow10Tab ∧ 0 < W.heap.size := by
  rw [MakeChecks.laidMetH_plain _ _ _ (by kernel_rfl)] at h
  obtain ⟨ps, ⟨g0, t0, cs0, f0, p0, q0, -, -, -, -, ⟨g1, t1, cs1, f1, p1, q1, -, -, -, -, ⟨g2, t2, cs2, f2, p2, q2, hg2, ht2, hv2, hd2, _, _⟩, _⟩, _⟩, _, _⟩ := h
  obtain rfl := Option.some.inj (gPowL.symm.trans hg2)
  obtain rfl := Option.some.inj (gPowTypeW.symm.trans ht2)
  have ht : Lib.TabIs Tryd.prog W "internal/strconv.uint64pow10" .u64 Lib.pow10Tab := by
    rw [powDataW] at hd2
    unfold Lib.TabIs
    rw [hv2, ← Lib.cells_of_tab Tryd.underlying86 Tryd.underlying68 cellsU64W cellsPowW hd2]
  refine ⟨ht, ?_⟩
  have hp := ht
  unfold Lib.TabIs World.var? at hp
  rw [gPowL] at hp
  simp only [Option.bind_some] at hp
  rcases Nat.lt_or_ge 0 W.heap.size with h' | h'
  · exact h'
  · rw [Array.getElem?_eq_none h'] at hp; cases hp

set_option maxRecDepth 100000 in
/-- What the walk gives, for every argument and every world that holds the tables. -/
theorem logPlanWrite_contract (H : Type) (enc : TypeId × Value → H) (W : World) (base : Nat) (args : Array Value) (ds gs : List (DataW H)) (before : List MemPlace)
    (hval : ∀ (j : Nat) t v, Tryd.f3.params[j]? = some t → args[j]? = some v → Value.okWide Tryd.prog W .any base t v)
    (hW : DataW.Whole enc Tryd.prog Tryd.f3.params.toList Rows.fnExactLogPlanWriteSpec.vars false W args.toList ds gs before) (hL : laidMetH Tryd.prog Rows.fnExactLogPlanWriteRow.laid W) :
    Calls Tryd.prog 3 args W fun e W' => ∃ v, e = .returned v ∧ Rows.fnExactLogPlanWriteSpec.post enc Tryd.prog Tryd.f3 false true false false W args v W' := by
  have hW' := hW
  have hlt := hW.lt
  obtain ⟨p, q, hA0, hV, hpq, hfz, hnd⟩ := hW
  have hA : DataW.TrodAll enc Tryd.prog W 0 (fun _ => true) true Tryd.f3.params.toList args.toList ds p := hA0
  rw [Tryd.params3] at hA hval
  obtain ⟨v0, vs0, d0, ds0, p0, q0, hargs, hds, hp, h0, r0⟩ := trodAll_cons hA
  obtain ⟨hvs, hds0, hq0⟩ := trodAll_nil r0
  subst hvs hds0 hq0
  obtain rfl : args = #[v0] := by cases args; simp_all
  subst hds
  obtain ⟨hgs, hq⟩ := trodVars_none hV
  subst hgs hq
  obtain ⟨acs, hv0, hsz⟩ := okWide_struct Tryd.underlying24 (hval 0 24 v0 rfl rfl)
  have h0k := h0
  obtain ⟨fl, hf⟩ := h0
  subst hv0
  obtain ⟨l, v, hcs, hrep⟩ := pl_of_trod fl _ _ hf
  have hacs : acs = #[v, .int .i64 l.op, .int .i64 l.fi] := by
    have : acs.toList = [v, .int .i64 l.op, .int .i64 l.fi] := by simpa [Value.cells] using hcs
    exact Array.toList_inj.1 (by simpa using this)
  subst hacs
  refine (lawLogPlanWrite_any l (fun b => b < W.heap.size) v W (fun b hb => hb) hrep (tab_of_laid hL).1 (tab_of_laid hL).2).mono fun e W' ⟨he, hb⟩ => ?_
  subst he
  have hltp : ∀ x ∈ p0, x.block < W.heap.size := fun x hx => hlt x (by rw [hpq, hp]; simp [hx])
  refine ⟨_, rfl, _, _, before, [], p0, [], hW', ?_, ?_, ?_, hb.frame _, fun h => by cases h⟩
  · exact trodAll_mk1 (shut_bool Tryd.underlying4 true)
  · exact trodAll_mk1 (hb.trod laidOut readPlan rowPlan h0k hltp)
  · rfl

/-- A block of a variable, holding these cells. -/
def putCells (cs : Array Value) : Obj → Obj
  | .cells _ t frozen => .cells cs t frozen
  | o => o
def u8s (l : List Int) : Array Value := (l.map fun z => Value.int .u8 z).toArray
def u64s (l : List Int) : Array Value := (l.map fun z => Value.int .u64 z).toArray
def bits32 : List Int := [0, 1, 28, 2, 29, 14, 24, 3, 30, 22, 20, 15, 25, 17, 4, 8, 31, 27, 13, 23, 21, 19, 16, 7, 26, 12, 18, 6, 11, 5, 10, 9]
def bits64 : List Int := [0, 1, 56, 2, 57, 49, 28, 3, 61, 58, 42, 50, 38, 29, 17, 4, 62, 47, 59, 36, 45, 43, 51, 22, 53, 39, 33, 30, 24, 18, 12, 5, 63, 55, 48, 27, 60, 41, 37, 16, 46, 35, 44, 21, 52, 32, 23, 11, 54, 26, 40, 15, 34, 20, 31, 10, 25, 14, 19, 9, 13, 8, 7, 6]
/-- A world for the witness: the settled one, the variables holding what their texts lay. -/
noncomputable def laidWorld (os : Os) : World :=
  { World.holding Tryd.prog os ⟨#[], #[], []⟩ with heap := (((World.holding Tryd.prog os ⟨#[], #[], []⟩).heap.modify 1 (putCells (u8s bits32))).modify 2 (putCells (u8s bits64))).modify 0 (putCells (u64s Lib.pow10Tab)) }
theorem laid_met (os : Os) : laidMet Tryd.prog Rows.fnExactLogPlanWriteRow.laid ((laidWorld os).forCall (fun _ _ => 0) ⟨#[], #[zeroPlan], []⟩).memory :=
  laidMet_of_run3 8 (by kernel_rfl) (by kernel_rfl) (by kernel_rfl)
theorem reads (os : Os) {H : Type} (enc : TypeId × Value → H) : ∃ places, DataW.whole enc Tryd.prog ((laidWorld os).forCall (fun _ _ => 0) ⟨#[], #[zeroPlan], []⟩).memory Tryd.f3.params.toList Rows.fnExactLogPlanWriteSpec.vars false #[zeroPlan].toList 8 =
    some ([.agg [.nil, .lit (.int .i64 0), .lit (.int .i64 0)]], [], places) :=
  ⟨[], by kernel_rfl⟩

set_option maxRecDepth 100000 in
theorem logPlanWrite_lifted (os : Os) (started : os.Started) (H : Type) (enc : TypeId × Value → H) (F : Stop.Interp) :
    ReturnsInHanded {} Tryd.checked os 3 .any ((OpenSpec.ofChange Rows.fnExactLogPlanWriteSpec).preRow enc Tryd.prog Tryd.f3 Rows.fnExactLogPlanWriteRow.domain false Rows.fnExactLogPlanWriteRow.laid) (((OpenSpec.ofChange Rows.fnExactLogPlanWriteSpec).at F).post enc Tryd.prog Tryd.f3 false true false false) := by
  obtain ⟨places, hx⟩ := reads os enc
  refine returnsInHanded_of_row (C := Tryd.checked) (s := OpenSpec.ofChange Rows.fnExactLogPlanWriteSpec) own started (by kernel_rfl) Tryd.func3
    (witness_row_at (enc := enc) (C := Tryd.checked) false (laidWorld os) #[zeroPlan] rfl (by kernel_rfl) (by kernel_rfl) (by kernel_rfl)
      (OpenSpec.preRow_of_cond 8 hx (by kernel_rfl) (fun k hk => by cases hk) (by kernel_rfl) (laid_met os))) ?_
  intro W base args ds gs before hval hW _ _ _ hL _ _
  exact logPlanWrite_contract H enc W base args ds gs before hval hW hL

theorem logPlanWrite_said : Rows.FnExactLogPlanWriteSaid :=
  OpenClaim.holds_of_cond 3 Tryd.f3 rfl rfl rfl rfl rfl rfl rfl ⟨rfl, rfl, rfl, rfl, rfl⟩ rfl rfl rfl rfl rfl (by kernel_rfl) Tryd.func3 (by kernel_rfl)
    (of_decide_eq_true (by kernel_rfl)) (by unfold Func.isWrapper; first | (rw [if_pos (by decide +kernel)]; kernel_rfl) | (rw [if_neg (by decide +kernel)]; exact ⟨rfl, rfl⟩))
    (fun os started H enc _ F => by rw [OpenClaim.pre_eq_preRow]; exact logPlanWrite_lifted os started H enc F)

theorem logPlanWrite_plain (f : FuncId) (fn : Func) (hf : Tryd.pinned.checked.prog.funcNamed "loop.example/teagle/laws.FnExactLogPlanWrite" = some f) (hfn : Tryd.pinned.checked.prog.funcs[f]? = some fn) :
    false = Tryd.pinned.checked.prog.looks [] ∧ ∀ (j : Nat) t, fn.params[j]? = some t → Tryd.pinned.checked.prog.wantsStandIn t = false := by
  obtain rfl : f = 3 := Option.some.inj ((show Tryd.prog.funcNamed "loop.example/teagle/laws.FnExactLogPlanWrite" = some 3 by kernel_rfl).symm.trans hf) |>.symm
  obtain rfl : fn = Tryd.f3 := (Option.some.inj (Tryd.func3.symm.trans hfn)).symm
  refine ⟨by kernel_rfl, fun j t ht => ?_⟩
  rw [Tryd.params3] at ht
  obtain rfl : t = 24 := by simpa using Array.mem_of_getElem? ht
  exact (show Tryd.prog.wantsStandIn 24 = false by kernel_rfl)

/-- The card. -/
theorem logPlanWrite_card : Rows.FnExactLogPlanWriteCardSaid :=
  Claim7.holds_tied_plain_at .later [] _ _ _ _ logPlanWrite_said (fun _ h => by cases h) (by kernel_rfl) (fun _ h => by cases h) fnExactLogPlanWrite_row_tie rfl ⟨rfl, rfl⟩ (by kernel_rfl) rfl logPlanWrite_plain (by kernel_rfl)
end Go.Proofs.YtmaojhacdelleaaDoor
