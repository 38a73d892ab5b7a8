/- For every list of jobs that comes in, CrewSerial answers as the specification's CrewSerial does, in memory of its own, and leaves its argument as it was: the law FnExactCrewSerial returns true, and its argument reads behind the call as it read before.
   Conditions: those of the given row alone. -/
import Derived.Test.YtchlbncncipecaaWLawCS
import Derived.Test.YtchlbncncipecaaOpenJ
import Derived.Deep.DeepHandedRow
namespace Go.Proofs.Ytchlbncncipecaa
open Go.ChangeShapes Go.WideShapes Go.ChangeAt Go.RowKit

theorem own : ownKnob Try.prog.godebug = none := by kernel_rfl
theorem laidOut : laidOutB Try.prog = true := by kernel_rfl
theorem readJobs : Try.prog.readableRec 43 = true := by kernel_rfl
theorem rowJobs : 43 < Try.prog.types.size := of_decide_eq_true (by kernel_rfl)

set_option maxRecDepth 100000 in
theorem crewSerial_lifted (os : Os) (started : os.Started) (H : Type) (enc : TypeId × Value → H) :
    ReturnsInHanded {} Try.checked os 8 .any (Rows.fnExactCrewSerialSpec.pre6 enc Try.prog Try.f8 Rows.fnExactCrewSerialRow.domain false) (Rows.fnExactCrewSerialSpec.post enc Try.prog Try.f8 false true false false) := by
  refine returnsInHanded_of_change (C := Try.checked) own started (by kernel_rfl) Try.func8
    (ChangeSpec.witness6 (enc := enc) (C := Try.checked) false ⟨#[], #[.slice none 0 0], []⟩ 8 (by kernel_rfl) (by kernel_rfl) (by kernel_rfl) (by kernel_rfl)) ?_
  intro W base args ds gs before hval0 hW hcnd _
  have hval : ∀ (j : Nat) t v, Try.f8.params[j]? = some t → args[j]? = some v → Value.okWide Try.prog W .any base t v := hval0
  have hW' := hW
  have hlt := hW.lt
  obtain ⟨p, q, hA0, hV, hpq, hfz, hnd⟩ := hW
  have hA : DataW.TrodAll enc Try.prog W 0 (fun _ => true) true Try.f8.params.toList args.toList ds p := hA0
  rw [Try.params8] at hA hval
  obtain ⟨v0, vs0, d0, ds0, p0, q0, hargs, hds, hp, h0, r0⟩ := trodAll_cons hA
  obtain ⟨hvs, hds0, hq0⟩ := trodAll_nil r0
  subst hvs hds0 hq0
  obtain rfl : args = #[v0] := by cases args; simp_all
  subst hds
  obtain ⟨hgs, hq⟩ := trodVars_none hV
  subst hgs hq
  have h0k := h0
  obtain ⟨fl, hf⟩ := h0
  obtain ⟨sa, sl, sc, hv0⟩ := okWide_slice Try.underlying43 (hval 0 43 v0 rfl rfl)
  subst hv0
  obtain ⟨js, hjs⟩ := jobs_of_trod hf
  refine (lawCrewSerial_any js (fun b => b < W.heap.size) _ W (fun b hb => hb) hjs).mono fun e W' ⟨he, hb⟩ => ?_
  subst he
  have hltp : ∀ x ∈ p0, x.block < W.heap.size := fun x hx => hlt x (by rw [hpq, hp]; simp [hx])
  refine ⟨_, rfl, _, _, before, [], p0, [], hW', ?_, ?_, ?_, hb.frame _, fun h => by cases h⟩
  · exact trodAll_mk1 (shut_bool Try.underlying4 true)
  · exact trodAll_mk1 (hb.trod laidOut readJobs rowJobs h0k hltp)
  · rfl

theorem crewSerial_said : Rows.FnExactCrewSerialSaid :=
  OpenClaim.holds_of_wide 8 Try.f8 rfl rfl rfl rfl rfl rfl rfl ⟨rfl, rfl, rfl, rfl, rfl⟩ rfl rfl rfl rfl rfl (by kernel_rfl) Try.func8 (by kernel_rfl)
    (of_decide_eq_true (by kernel_rfl)) (by unfold Func.isWrapper; first | (rw [if_pos (by decide +kernel)]; kernel_rfl) | (rw [if_neg (by decide +kernel)]; exact ⟨rfl, rfl⟩))
    (fun os started H enc _ => crewSerial_lifted os started H enc)
end Go.Proofs.Ytchlbncncipecaa
