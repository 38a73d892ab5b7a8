/- For all three numbers that come in, CrewStart answers as the specification's CrewStart does, in memory of its own: the law FnExactCrewStart returns true, and its arguments read behind the call as they read before.
   Conditions: those of the given row alone. -/
import Derived.Test.YtchbialjgcejgaaPart14
import Derived.Deep.DeepHandedRow
namespace Go.Proofs.Ytchbialjgcejgaa
open Go.ChangeShapes Go.WideShapes Go.ChangeAt Go.RowKit Go.Deep

theorem own : ownKnob Try.prog.godebug = none := by kernel_rfl
theorem laidOut : laidOutB Try.prog = true := by kernel_rfl
theorem readInt : Try.prog.readableRec 3 = true := by kernel_rfl
theorem rowInt : 3 < Try.prog.types.size := of_decide_eq_true (by kernel_rfl)

set_option maxRecDepth 100000 in
theorem crewStart_lifted (os : Os) (started : os.Started) (H : Type) (enc : TypeId × Value → H) :
    ReturnsInHanded {} Try.checked os 4 .any (Rows.fnExactCrewStartSpec.pre6 enc Try.prog Try.f4 Rows.fnExactCrewStartRow.domain false) (Rows.fnExactCrewStartSpec.post enc Try.prog Try.f4 false true false false) := by
  refine returnsInHanded_of_change (C := Try.checked) own started (by kernel_rfl) Try.func4
    (ChangeSpec.witness6 (enc := enc) (C := Try.checked) false ⟨#[], #[.int .i64 0, .int .i64 0, .int .i64 0], []⟩ 8 (by kernel_rfl) (by kernel_rfl) (by kernel_rfl) (by kernel_rfl)) ?_
  intro W base args ds gs before hval0 hW hcnd _
  have hval : ∀ (j : Nat) t v, Try.f4.params[j]? = some t → args[j]? = some v → Value.okWide Try.prog W .any base t v := hval0
  have hW' := hW
  have hlt := hW.lt
  obtain ⟨p, q, hA0, hV, hpq, hfz, hnd⟩ := hW
  have hA : DataW.TrodAll enc Try.prog W 0 (fun _ => true) true Try.f4.params.toList args.toList ds p := hA0
  rw [Try.params4] at hA hval
  obtain ⟨v0, vs0, d0, ds0, p0, q0, hargs, hds, hp, h0, r0⟩ := trodAll_cons hA
  obtain ⟨v1, vs1, d1, ds1, p1, q1, hargs1, hds1, hp1, h1, r1⟩ := trodAll_cons r0
  obtain ⟨v2, vs2, d2, ds2, p2, q2, hargs2, hds2, hp2, h2, r2⟩ := trodAll_cons r1
  obtain ⟨hvs, hds0, hq0⟩ := trodAll_nil r2
  subst hvs hds0 hq0 hargs2 hds2 hargs1 hds1
  obtain rfl : args = #[v0, v1, v2] := by cases args; simp_all
  subst hds
  obtain ⟨hgs, hq⟩ := trodVars_none hV
  subst hgs hq
  obtain ⟨m0, hv0⟩ := okWide_int Try.underlying3 (hval 0 3 v0 rfl rfl)
  obtain ⟨m1, hv1⟩ := okWide_int Try.underlying3 (hval 1 3 v1 rfl rfl)
  obtain ⟨m2, hv2⟩ := okWide_int Try.underlying3 (hval 2 3 v2 rfl rfl)
  subst hv0 hv1 hv2
  refine (lawCrewStart_any m0 m1 m2 W).mono fun e W' ⟨he, hb⟩ => ?_
  subst he
  have hltp : ∀ x ∈ p0, x.block < W.heap.size := fun x hx => hlt x (by rw [hpq, hp]; simp [hx])
  have hltp1 : ∀ x ∈ p1, x.block < W.heap.size := fun x hx => hlt x (by rw [hpq, hp, hp1]; simp [hx])
  have hltp2 : ∀ x ∈ p2, x.block < W.heap.size := fun x hx => hlt x (by rw [hpq, hp, hp1, hp2]; simp [hx])
  refine ⟨_, rfl, _, _, before, [], p0 ++ (p1 ++ p2), [], hW', ?_, ?_, ?_, hb.frame _, fun h => by cases h⟩
  · exact trodAll_mk1 (shut_bool Try.underlying4 true)
  · exact trodAll_mk3 (hb.trod laidOut readInt rowInt h0 hltp) (hb.trod laidOut readInt rowInt h1 hltp1) (hb.trod laidOut readInt rowInt h2 hltp2)
  · rfl

theorem crewStart_said : Rows.FnExactCrewStartSaid :=
  OpenClaim.holds_of_wide 4 Try.f4 rfl rfl rfl rfl rfl rfl rfl ⟨rfl, rfl, rfl, rfl, rfl⟩ rfl rfl rfl rfl rfl (by kernel_rfl) Try.func4 (by kernel_rfl)
    (of_decide_eq_true (by kernel_rfl)) (by unfold Func.isWrapper; first | (rw [if_pos (by decide +kernel)]; kernel_rfl) | (rw [if_neg (by decide +kernel)]; exact ⟨rfl, rfl⟩))
    (fun os started H enc _ => crewStart_lifted os started H enc)
end Go.Proofs.Ytchbialjgcejgaa
