/- For every record that comes in, LogFrame answers as the specification's LogFrame does: the law FnExactLogFrame returns true, and its argument reads behind the call as it read before.
   Conditions: those of the given row alone. -/
import Derived.Test.YtmaojhacdelleaaWLawLF
import Derived.Test.YtmaojhacdelleaaOpenDk
import Derived.Deep.DeepHandedRow
namespace Go.Proofs.Ytmaojhacdelleaa
open Go.ChangeShapes Go.WideShapes Go.ChangeAt Go.RowKit Go.Deep

theorem own : ownKnob Try.prog.godebug = none := by kernel_rfl
theorem laidOut : laidOutB Try.prog = true := by kernel_rfl
theorem readRec : Try.prog.readableRec 50 = true := by kernel_rfl
theorem rowRec : 50 < Try.prog.types.size := of_decide_eq_true (by kernel_rfl)
def zeroRec : Value := .agg #[.int .i64 0, .string ByteArray.empty]
theorem cellsRec : Try.prog.cellsOf 50 = 2 := by kernel_rfl
theorem oneRec : ∃ fs : Array Field, Try.prog.underlying 50 = some (.struct fs) ∧ oneCellFields Try.prog fs = true ∧ fs.map (·.type) = #[3, 9] := ⟨_, Try.underlying50, by kernel_rfl, by kernel_rfl⟩
theorem rec_of_trod {H : Type} {enc : TypeId × Value → H} {W : World} {spare : Nat → Bool} {held : Bool} (fuel : Nat) (l : List Value) (x : DataW H × List MemPlace) (h : DataW.trod enc Try.prog W 0 spare held fuel 50 l = some x) : ∃ (p : Int) (s : ByteArray), l = [.int .i64 p, .string s] ∧ s.size ≤ 9223372036854775807 := by
  obtain ⟨hl, n, hf⟩ := fields_of (k := 2) rfl oneRec h
  rw [cellsRec] at hl
  match l, hl with
  | [c0, c1], _ =>
    obtain ⟨y0, h0⟩ := hf 0 _ (by omega) rfl
    obtain ⟨y1, h1⟩ := hf 1 _ (by omega) rfl
    simp only [List.drop_succ_cons, List.drop_zero, List.take_succ_cons, List.take_zero] at h0 h1
    obtain ⟨k, e0, -, w0⟩ := DataW.trod_int Try.underlying3 h0
    obtain ⟨s1, e1, -, w1⟩ := DataW.trod_string Try.underlying9 h1
    simp only [List.cons.injEq, and_true] at e0 e1
    subst e0 e1
    unfold maxLen at w1
    exact ⟨k, s1, rfl, by omega⟩

set_option maxRecDepth 100000 in
theorem logFrame_lifted (os : Os) (started : os.Started) (H : Type) (enc : TypeId × Value → H) :
    ReturnsInHanded {} Try.checked os 5 .any (Rows.fnExactLogFrameSpec.pre6 enc Try.prog Try.f5 Rows.fnExactLogFrameRow.domain false) (Rows.fnExactLogFrameSpec.post enc Try.prog Try.f5 false true false false) := by
  refine returnsInHanded_of_change (C := Try.checked) own started (by kernel_rfl) Try.func5
    (ChangeSpec.witness6 (enc := enc) (C := Try.checked) false ⟨#[], #[zeroRec], []⟩ 8 (by kernel_rfl) (by kernel_rfl) (by kernel_rfl) (by kernel_rfl)) ?_
  intro W base args ds gs before hval0 hW hcnd _
  have hval : ∀ (j : Nat) t v, Try.f5.params[j]? = some t → args[j]? = some v → Value.okWide Try.prog W .any base t v := hval0
  have hW' := hW
  have hlt := hW.lt
  obtain ⟨p, q, hA0, hV, hpq, hfz, hnd⟩ := hW
  have hA : DataW.TrodAll enc Try.prog W 0 (fun _ => true) true Try.f5.params.toList args.toList ds p := hA0
  rw [Try.params5] at hA hval
  obtain ⟨v0, vs0, d0, ds0, p0, q0, hargs, hds, hp, h0, r0⟩ := trodAll_cons hA
  obtain ⟨hvs, hds0, hq0⟩ := trodAll_nil r0
  subst hvs hds0 hq0
  obtain rfl : args = #[v0] := by cases args; simp_all
  subst hds
  obtain ⟨hgs, hq⟩ := trodVars_none hV
  subst hgs hq
  obtain ⟨acs, hv0, hsz⟩ := okWide_struct Try.underlying50 (hval 0 50 v0 rfl rfl)
  have h0k := h0
  obtain ⟨fl, hf⟩ := h0
  subst hv0
  obtain ⟨rp, rs, hcs, hrs⟩ := rec_of_trod fl _ _ hf
  have hacs : acs = #[.int .i64 rp, .string rs] := by
    have : acs.toList = [.int .i64 rp, .string rs] := by simpa [Value.cells] using hcs
    exact Array.toList_inj.1 (by simpa using this)
  subst hacs
  refine (lawLogFrame_any rp rs hrs W).mono fun e W' ⟨he, hb⟩ => ?_
  subst he
  have hltp : ∀ x ∈ p0, x.block < W.heap.size := fun x hx => hlt x (by rw [hpq, hp]; simp [hx])
  refine ⟨_, rfl, _, _, before, [], p0, [], hW', ?_, ?_, ?_, hb.frame _, fun h => by cases h⟩
  · exact trodAll_mk1 (shut_bool Try.underlying4 true)
  · exact trodAll_mk1 (hb.trod laidOut readRec rowRec h0k hltp)
  · rfl

theorem logFrame_said : Rows.FnExactLogFrameSaid :=
  OpenClaim.holds_of_wide 5 Try.f5 rfl rfl rfl rfl rfl rfl rfl ⟨rfl, rfl, rfl, rfl, rfl⟩ rfl rfl rfl rfl rfl (by kernel_rfl) Try.func5 (by kernel_rfl)
    (of_decide_eq_true (by kernel_rfl)) (by unfold Func.isWrapper; first | (rw [if_pos (by decide +kernel)]; kernel_rfl) | (rw [if_neg (by decide +kernel)]; exact ⟨rfl, rfl⟩))
    (fun os started H enc _ => logFrame_lifted os started H enc)
end Go.Proofs.Ytmaojhacdelleaa
