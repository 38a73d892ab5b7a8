/- For every crew's world that comes in, CrewMoves answers as the specification's CrewMoves does, leaves its argument as it was, and its answer owns its memory: the law FnExactCrewMoves returns true, and its argument reads behind the call as it read before.
   Conditions: those of the given row alone. -/
import Derived.Test.YtibgjcejddpldaaGreatPart34
import Derived.Test.YtibgjcejddpldaaGreatPart35
import Derived.Deep.DeepHandedRow
namespace Go.Proofs.YtibgjcejddpldaaGreat
open Go.ChangeShapes Go.WideShapes Go.ChangeAt Go.RowKit

theorem own : ownKnob Tryz.prog.godebug = none := by kernel_rfl
theorem laidOut : laidOutB Tryz.prog = true := by kernel_rfl
theorem readWorld : Tryz.prog.readableRec 45 = true := by kernel_rfl
theorem rowWorldT : 45 < Tryz.prog.types.size := of_decide_eq_true (by kernel_rfl)
def zeroWorld : Value := .agg #[.int .i64 0, .int .i64 0, .int .i64 0, .int .i64 0, .int .i64 0, .slice none 0 0, .slice none 0 0, .int .i64 0, .slice none 0 0, .int .i64 0, .slice none 0 0, .int .i64 0, .slice none 0 0, .int .i64 0, .slice none 0 0, .int .i64 0, .slice none 0 0, .int .i64 0]

set_option maxRecDepth 100000 in
theorem crewMoves_lifted (os : Os) (started : os.Started) (H : Type) (enc : TypeId × Value → H) :
    ReturnsInHanded {} Tryz.checked os 5 .any (Rows.fnExactCrewMovesSpec.pre6 enc Tryz.prog Tryz.f5 Rows.fnExactCrewMovesRow.domain false) (Rows.fnExactCrewMovesSpec.post enc Tryz.prog Tryz.f5 false true false false) := by
  refine returnsInHanded_of_change (C := Tryz.checked) own started (by kernel_rfl) Tryz.func5
    (ChangeSpec.witness6 (enc := enc) (C := Tryz.checked) false ⟨#[], #[zeroWorld], []⟩ 8 (by kernel_rfl) (by kernel_rfl) (by kernel_rfl) (by kernel_rfl)) ?_
  intro W base args ds gs before hval0 hW hcnd _
  have hval : ∀ (j : Nat) t v, Tryz.f5.params[j]? = some t → args[j]? = some v → Value.okWide Tryz.prog W .any base t v := hval0
  have hW' := hW
  have hlt := hW.lt
  obtain ⟨p, q, hA0, hV, hpq, hfz, hnd⟩ := hW
  have hA : DataW.TrodAll enc Tryz.prog W 0 (fun _ => true) true Tryz.f5.params.toList args.toList ds p := hA0
  rw [Tryz.params5] at hA hval
  obtain ⟨v0, vs0, d0, ds0, p0, q0, hargs, hds, hp, h0, r0⟩ := trodAll_cons hA
  obtain ⟨hvs, hds0, hq0⟩ := trodAll_nil r0
  subst hvs hds0 hq0
  obtain rfl : args = #[v0] := by cases args; simp_all
  subst hds
  obtain ⟨hgs, hq⟩ := trodVars_none hV
  subst hgs hq
  obtain ⟨acs, hv0, hsz⟩ := okWide_struct Tryz.underlying45 (hval 0 45 v0 rfl rfl)
  have h0k := h0
  obtain ⟨fl, hf⟩ := h0
  subst hv0
  obtain ⟨t, A, hcs, hrep⟩ := cw_of_trod fl _ _ hf
  have hacs : acs = #[.int .i64 t.jobs, .int .i64 t.workers, .int .i64 t.window, .int .i64 t.next, .int .i64 t.reader, .slice A.q t.queue.length A.pq, .slice A.h t.hands.length A.ph, .int .i64 t.closer, .slice A.r t.results.length A.pr, .int .i64 t.keeper, .slice A.g t.ring.length A.pg, .int .i64 t.due, .slice A.o t.out.length A.po, .int .i64 t.user, .slice A.t t.got.length A.pt, .int .i64 t.room, .slice A.s t.shut.length A.ps, .int .i64 t.ops] := by
    have : acs.toList = [.int .i64 t.jobs, .int .i64 t.workers, .int .i64 t.window, .int .i64 t.next, .int .i64 t.reader, .slice A.q t.queue.length A.pq, .slice A.h t.hands.length A.ph, .int .i64 t.closer, .slice A.r t.results.length A.pr, .int .i64 t.keeper, .slice A.g t.ring.length A.pg, .int .i64 t.due, .slice A.o t.out.length A.po, .int .i64 t.user, .slice A.t t.got.length A.pt, .int .i64 t.room, .slice A.s t.shut.length A.ps, .int .i64 t.ops] := by simpa [Value.cells] using hcs
    exact Array.toList_inj.1 (by simpa using this)
  subst hacs
  refine (lawCrewMoves_any t A (fun b => b < W.heap.size) W hrep (fun b hb => hb)).mono fun e W' ⟨he, hb⟩ => ?_
  subst he
  have hltp : ∀ x ∈ p0, x.block < W.heap.size := fun x hx => hlt x (by rw [hpq, hp]; simp [hx])
  refine ⟨_, rfl, _, _, before, [], p0, [], hW', ?_, ?_, ?_, hb.frame _, fun h => by cases h⟩
  · exact trodAll_mk1 (shut_bool Tryz.underlying4 true)
  · exact trodAll_mk1 (hb.trod laidOut readWorld rowWorldT h0k hltp)
  · rfl

theorem crewMoves_said : Rows.FnExactCrewMovesSaid :=
  OpenClaim.holds_of_wide 5 Tryz.f5 rfl rfl rfl rfl rfl rfl rfl ⟨rfl, rfl, rfl, rfl, rfl⟩ rfl rfl rfl rfl rfl (by kernel_rfl) Tryz.func5 (by kernel_rfl)
    (of_decide_eq_true (by kernel_rfl)) (by unfold Func.isWrapper; first | (rw [if_pos (by decide +kernel)]; kernel_rfl) | (rw [if_neg (by decide +kernel)]; exact ⟨rfl, rfl⟩))
    (fun os started H enc _ => crewMoves_lifted os started H enc)
end Go.Proofs.YtibgjcejddpldaaGreat
