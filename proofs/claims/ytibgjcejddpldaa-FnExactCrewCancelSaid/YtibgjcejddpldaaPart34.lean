/- For every crew's world that comes in, CrewCancel answers as the specification's CrewCancel does, leaves its argument as it was, and its answer owns its memory: the law FnExactCrewCancel returns true, and its argument reads behind the call as it read before.
   Conditions: those of the given row alone. -/
import Derived.Test.YtibgjcejddpldaaPart32
import Derived.Test.YtibgjcejddpldaaPart33
import Derived.Deep.DeepHandedRow
namespace Go.Proofs.Ytibgjcejddpldaa
open Go.ChangeShapes Go.WideShapes Go.ChangeAt Go.RowKit

theorem own : ownKnob Try.prog.godebug = none := by kernel_rfl
theorem laidOut : laidOutB Try.prog = true := by kernel_rfl
theorem readWorld : Try.prog.readableRec 25 = true := by kernel_rfl
theorem rowWorldT : 25 < Try.prog.types.size := of_decide_eq_true (by kernel_rfl)
def zeroWorld : Value := .agg #[.int .i64 0, .int .i64 0, .int .i64 0, .int .i64 0, .int .i64 0, .slice none 0 0, .slice none 0 0, .int .i64 0, .slice none 0 0, .int .i64 0, .slice none 0 0, .int .i64 0, .slice none 0 0, .int .i64 0, .slice none 0 0, .int .i64 0, .slice none 0 0, .int .i64 0]

set_option maxRecDepth 100000 in
theorem crewCancel_lifted (os : Os) (started : os.Started) (H : Type) (enc : TypeId × Value → H) :
    ReturnsInHanded {} Try.checked os 3 .any (Rows.fnExactCrewCancelSpec.pre6 enc Try.prog Try.f3 Rows.fnExactCrewCancelRow.domain false) (Rows.fnExactCrewCancelSpec.post enc Try.prog Try.f3 false true false false) := by
  refine returnsInHanded_of_change (C := Try.checked) own started (by kernel_rfl) Try.func3
    (ChangeSpec.witness6 (enc := enc) (C := Try.checked) false ⟨#[], #[zeroWorld], []⟩ 8 (by kernel_rfl) (by kernel_rfl) (by kernel_rfl) (by kernel_rfl)) ?_
  intro W base args ds gs before hval0 hW hcnd _
  have hval : ∀ (j : Nat) t v, Try.f3.params[j]? = some t → args[j]? = some v → Value.okWide Try.prog W .any base t v := hval0
  have hW' := hW
  have hlt := hW.lt
  obtain ⟨p, q, hA0, hV, hpq, hfz, hnd⟩ := hW
  have hA : DataW.TrodAll enc Try.prog W 0 (fun _ => true) true Try.f3.params.toList args.toList ds p := hA0
  rw [Try.params3] at hA hval
  obtain ⟨v0, vs0, d0, ds0, p0, q0, hargs, hds, hp, h0, r0⟩ := trodAll_cons hA
  obtain ⟨hvs, hds0, hq0⟩ := trodAll_nil r0
  subst hvs hds0 hq0
  obtain rfl : args = #[v0] := by cases args; simp_all
  subst hds
  obtain ⟨hgs, hq⟩ := trodVars_none hV
  subst hgs hq
  obtain ⟨acs, hv0, hsz⟩ := okWide_struct Try.underlying25 (hval 0 25 v0 rfl rfl)
  have h0k := h0
  obtain ⟨fl, hf⟩ := h0
  subst hv0
  obtain ⟨t, A, hcs, hrep⟩ := cw_of_trod fl _ _ hf
  have hacs : acs = #[.int .i64 t.jobs, .int .i64 t.workers, .int .i64 t.window, .int .i64 t.next, .int .i64 t.reader, .slice A.q t.queue.length A.pq, .slice A.h t.hands.length A.ph, .int .i64 t.closer, .slice A.r t.results.length A.pr, .int .i64 t.keeper, .slice A.g t.ring.length A.pg, .int .i64 t.due, .slice A.o t.out.length A.po, .int .i64 t.user, .slice A.t t.got.length A.pt, .int .i64 t.room, .slice A.s t.shut.length A.ps, .int .i64 t.ops] := by
    have : acs.toList = [.int .i64 t.jobs, .int .i64 t.workers, .int .i64 t.window, .int .i64 t.next, .int .i64 t.reader, .slice A.q t.queue.length A.pq, .slice A.h t.hands.length A.ph, .int .i64 t.closer, .slice A.r t.results.length A.pr, .int .i64 t.keeper, .slice A.g t.ring.length A.pg, .int .i64 t.due, .slice A.o t.out.length A.po, .int .i64 t.user, .slice A.t t.got.length A.pt, .int .i64 t.room, .slice A.s t.shut.length A.ps, .int .i64 t.ops] := by simpa [Value.cells] using hcs
    exact Array.toList_inj.1 (by simpa using this)
  subst hacs
  refine (lawCrewCancel_any t A (fun b => b < W.heap.size) W hrep (fun b hb => hb)).mono fun e W' ⟨he, hb⟩ => ?_
  subst he
  have hltp : ∀ x ∈ p0, x.block < W.heap.size := fun x hx => hlt x (by rw [hpq, hp]; simp [hx])
  refine ⟨_, rfl, _, _, before, [], p0, [], hW', ?_, ?_, ?_, hb.frame _, fun h => by cases h⟩
  · exact trodAll_mk1 (shut_bool Try.underlying4 true)
  · exact trodAll_mk1 (hb.trod laidOut readWorld rowWorldT h0k hltp)
  · rfl

theorem crewCancel_said : Rows.FnExactCrewCancelSaid :=
  OpenClaim.holds_of_wide 3 Try.f3 rfl rfl rfl rfl rfl rfl rfl ⟨rfl, rfl, rfl, rfl, rfl⟩ rfl rfl rfl rfl rfl (by kernel_rfl) Try.func3 (by kernel_rfl)
    (of_decide_eq_true (by kernel_rfl)) (by unfold Func.isWrapper; first | (rw [if_pos (by decide +kernel)]; kernel_rfl) | (rw [if_neg (by decide +kernel)]; exact ⟨rfl, rfl⟩))
    (fun os started H enc _ => crewCancel_lifted os started H enc)
end Go.Proofs.Ytibgjcejddpldaa
