/- For every plan that comes in, LogPlanOk answers as the specification's LogPlanOk does, and leaves its argument as it was: the law FnExactLogPlanOk returns true, and its argument reads behind the call as it read before.
   Conditions: those of the given row alone. -/
import Derived.Test.YtmaojhacdelleaaWLawPO
import Derived.Test.YtmaojhacdelleaaOpenDk
import Derived.Deep.DeepHandedRow
namespace Go.Proofs.Ytmaojhacdelleaa
open Go.ChangeShapes Go.WideShapes Go.ChangeAt Go.RowKit Go.Deep

theorem own : ownKnob Try.prog.godebug = none := by kernel_rfl
theorem laidOut : laidOutB Try.prog = true := by kernel_rfl
theorem readPlan : Try.prog.readableRec 58 = true := by kernel_rfl
theorem rowPlan : 58 < Try.prog.types.size := of_decide_eq_true (by kernel_rfl)
def zeroPlan : Value := .agg #[.slice none 0 0, .int .i64 0, .int .i64 0]
theorem cellsPlan : Try.prog.cellsOf 58 = 3 := by kernel_rfl
theorem cellsPart : Try.prog.cellsOf 148 = 4 := by kernel_rfl
theorem onePlan : ∃ fs : Array Field, Try.prog.underlying 58 = some (.struct fs) ∧ oneCellFields Try.prog fs = true ∧ fs.map (·.type) = #[56, 3, 3] := ⟨_, Try.underlying58, by kernel_rfl, by kernel_rfl⟩
theorem onePart : ∃ fs : Array Field, Try.prog.underlying 148 = some (.struct fs) ∧ oneCellFields Try.prog fs = true ∧ fs.map (·.type) = #[3, 3, 3, 3] := ⟨_, Try.underlying148, by kernel_rfl, by kernel_rfl⟩
section
variable {H : Type} {enc : TypeId × Value → H} {W : World} {spare : Nat → Bool} {held : Bool}
theorem part_of_trod (fuel : Nat) (l : List Value) (x : DataW H × List MemPlace) (h : DataW.trod enc Try.prog W 0 spare held fuel 148 l = some x) : ∃ e : Pt, l = e.cs ∧ True := by
  obtain ⟨hl, n, hf⟩ := fields_of (k := 4) rfl onePart h
  rw [cellsPart] at hl
  match l, hl with
  | [c0, c1, c2, c3], _ =>
    obtain ⟨y0, h0⟩ := hf 0 _ (by omega) rfl
    obtain ⟨y1, h1⟩ := hf 1 _ (by omega) rfl
    obtain ⟨y2, h2⟩ := hf 2 _ (by omega) rfl
    obtain ⟨y3, h3⟩ := hf 3 _ (by omega) rfl
    simp only [List.drop_succ_cons, List.drop_zero, List.take_succ_cons, List.take_zero] at h0 h1 h2 h3
    obtain ⟨k0, e0, -, -⟩ := DataW.trod_int Try.underlying3 h0
    obtain ⟨k1, e1, -, -⟩ := DataW.trod_int Try.underlying3 h1
    obtain ⟨k2, e2, -, -⟩ := DataW.trod_int Try.underlying3 h2
    obtain ⟨k3, e3, -, -⟩ := DataW.trod_int Try.underlying3 h3
    simp only [List.cons.injEq, and_true] at e0 e1 e2 e3
    subst e0 e1 e2 e3
    exact ⟨⟨k0, k1, k2, k3⟩, rfl, trivial⟩
theorem pl_of_trod (fuel : Nat) (cs : List Value) (x : DataW H × List MemPlace) (h : DataW.trod enc Try.prog W 0 spare held fuel 58 cs = some x) : ∃ (l : Pl) (v : Value), cs = [v, .int .i64 l.op, .int .i64 l.fi] ∧ PtsAt (fun b => b < W.heap.size) W v l.parts := by
  obtain ⟨hl, n, hf⟩ := fields_of (k := 3) rfl onePlan h
  rw [cellsPlan] at hl
  match cs, hl with
  | [c0, c1, c2], _ =>
    obtain ⟨y0, h0⟩ := hf 0 _ (by omega) rfl
    obtain ⟨y1, h1⟩ := hf 1 _ (by omega) rfl
    obtain ⟨y2, h2⟩ := hf 2 _ (by omega) rfl
    simp only [List.drop_succ_cons, List.drop_zero, List.take_succ_cons, List.take_zero] at h0 h1 h2
    obtain ⟨ps, hps, -⟩ := flat_of_trod Pt.cs (fun _ => True) 148 56 4 (by omega) (fun _ => rfl) Try.underlying56 cellsPart part_of_trod h0
    obtain ⟨k1, e1, -, -⟩ := DataW.trod_int Try.underlying3 h1
    obtain ⟨k2, e2, -, -⟩ := DataW.trod_int Try.underlying3 h2
    simp only [List.cons.injEq, and_true] at e1 e2
    subst e1 e2
    exact ⟨⟨ps, k1, k2⟩, c0, rfl, hps⟩
end

set_option maxRecDepth 100000 in
theorem logPlanOk_lifted (os : Os) (started : os.Started) (H : Type) (enc : TypeId × Value → H) :
    ReturnsInHanded {} Try.checked os 6 .any (Rows.fnExactLogPlanOkSpec.pre6 enc Try.prog Try.f6 Rows.fnExactLogPlanOkRow.domain false) (Rows.fnExactLogPlanOkSpec.post enc Try.prog Try.f6 false true false false) := by
  refine returnsInHanded_of_change (C := Try.checked) own started (by kernel_rfl) Try.func6
    (ChangeSpec.witness6 (enc := enc) (C := Try.checked) false ⟨#[], #[zeroPlan], []⟩ 8 (by kernel_rfl) (by kernel_rfl) (by kernel_rfl) (by kernel_rfl)) ?_
  intro W base args ds gs before hval0 hW hcnd _
  have hval : ∀ (j : Nat) t v, Try.f6.params[j]? = some t → args[j]? = some v → Value.okWide Try.prog W .any base t v := hval0
  have hW' := hW
  have hlt := hW.lt
  obtain ⟨p, q, hA0, hV, hpq, hfz, hnd⟩ := hW
  have hA : DataW.TrodAll enc Try.prog W 0 (fun _ => true) true Try.f6.params.toList args.toList ds p := hA0
  rw [Try.params6] at hA hval
  obtain ⟨v0, vs0, d0, ds0, p0, q0, hargs, hds, hp, h0, r0⟩ := trodAll_cons hA
  obtain ⟨hvs, hds0, hq0⟩ := trodAll_nil r0
  subst hvs hds0 hq0
  obtain rfl : args = #[v0] := by cases args; simp_all
  subst hds
  obtain ⟨hgs, hq⟩ := trodVars_none hV
  subst hgs hq
  obtain ⟨acs, hv0, hsz⟩ := okWide_struct Try.underlying58 (hval 0 58 v0 rfl rfl)
  have h0k := h0
  obtain ⟨fl, hf⟩ := h0
  subst hv0
  obtain ⟨l, v, hcs, hrep⟩ := pl_of_trod fl _ _ hf
  have hacs : acs = #[v, .int .i64 l.op, .int .i64 l.fi] := by
    have : acs.toList = [v, .int .i64 l.op, .int .i64 l.fi] := by simpa [Value.cells] using hcs
    exact Array.toList_inj.1 (by simpa using this)
  subst hacs
  refine (lawLogPlanOk_any l (fun b => b < W.heap.size) v W (fun b hb => hb) hrep).mono fun e W' ⟨he, hb⟩ => ?_
  subst he
  have hltp : ∀ x ∈ p0, x.block < W.heap.size := fun x hx => hlt x (by rw [hpq, hp]; simp [hx])
  refine ⟨_, rfl, _, _, before, [], p0, [], hW', ?_, ?_, ?_, hb.frame _, fun h => by cases h⟩
  · exact trodAll_mk1 (shut_bool Try.underlying4 true)
  · exact trodAll_mk1 (hb.trod laidOut readPlan rowPlan h0k hltp)
  · rfl

theorem logPlanOk_said : Rows.FnExactLogPlanOkSaid :=
  OpenClaim.holds_of_wide 6 Try.f6 rfl rfl rfl rfl rfl rfl rfl ⟨rfl, rfl, rfl, rfl, rfl⟩ rfl rfl rfl rfl rfl (by kernel_rfl) Try.func6 (by kernel_rfl)
    (of_decide_eq_true (by kernel_rfl)) (by unfold Func.isWrapper; first | (rw [if_pos (by decide +kernel)]; kernel_rfl) | (rw [if_neg (by decide +kernel)]; exact ⟨rfl, rfl⟩))
    (fun os started H enc _ => logPlanOk_lifted os started H enc)
end Go.Proofs.Ytmaojhacdelleaa
