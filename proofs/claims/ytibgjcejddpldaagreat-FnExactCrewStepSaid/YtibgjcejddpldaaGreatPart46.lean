/- For every crew's world and every move that come in, CrewStep answers as the specification's CrewStep does, leaves its arguments as they were, and its answer owns its memory: the law FnExactCrewStep returns true, and its arguments read behind the call as they read before.
   Conditions: those of the given row alone. -/
import Derived.Test.YtibgjcejddpldaaGreatPart45
import Derived.Deep.DeepHandedRow
namespace Go.Proofs.YtibgjcejddpldaaGreat
open Go.ChangeShapes Go.WideShapes Go.ChangeAt Go.RowKit Go.Deep
theorem own : ownKnob Tryz.prog.godebug = none := by kernel_rfl
theorem laidOut : laidOutB Tryz.prog = true := by kernel_rfl
theorem readWorld : Tryz.prog.readableRec 45 = true := by kernel_rfl
theorem rowWorldT : 45 < Tryz.prog.types.size := of_decide_eq_true (by kernel_rfl)
theorem readMove : Tryz.prog.readableRec 54 = true := by kernel_rfl
theorem rowMoveT : 54 < Tryz.prog.types.size := of_decide_eq_true (by kernel_rfl)
def zeroMove : Value := .agg #[.int .i64 0, .int .i64 0]
theorem cellsMoveC : Tryz.prog.cellsOf 54 = 2 := by kernel_rfl
theorem oneMoveC : ∃ fs : Array Field, Tryz.prog.underlying 54 = some (.struct fs) ∧ oneCellFields Tryz.prog fs = true ∧ fs.map (·.type) = #[3, 3] := ⟨_, Tryz.underlying54, by kernel_rfl, by kernel_rfl⟩
theorem crewMove_of_trod {H : Type} {enc : TypeId × Value → H} {W : World} {spare : Nat → Bool} {held : Bool} (fuel : Nat) (l : List Value) (x : DataW H × List MemPlace) (h : DataW.trod enc Tryz.prog W 0 spare held fuel 54 l = some x) : ∃ s j : Int, l = [.int .i64 s, .int .i64 j] := by
 obtain ⟨hl, n, hf⟩ := fields_of (k := 2) rfl oneMoveC h
 rw [cellsMoveC] at hl
 match l, hl with
 | [c0, c1], _ =>
   obtain ⟨y0, h0⟩ := hf 0 _ (by omega) rfl
   obtain ⟨y1, h1⟩ := hf 1 _ (by omega) rfl
   simp only [List.drop_succ_cons, List.drop_zero, List.take_succ_cons, List.take_zero] at h0 h1
   obtain ⟨s, e0, -, -⟩ := DataW.trod_int Tryz.underlying3 h0
   obtain ⟨j, e1, -, -⟩ := DataW.trod_int Tryz.underlying3 h1
   simp only [List.cons.injEq, and_true] at e0 e1
   subst e0 e1
   exact ⟨s, j, rfl⟩
def zeroWorld : Value := .agg #[.int .i64 0, .int .i64 0, .int .i64 0, .int .i64 0, .int .i64 0, .slice none 0 0, .slice none 0 0, .int .i64 0, .slice none 0 0, .int .i64 0, .slice none 0 0, .int .i64 0, .slice none 0 0, .int .i64 0, .slice none 0 0, .int .i64 0, .slice none 0 0, .int .i64 0]
set_option maxRecDepth 100000 in
theorem crewStep_lifted (os : Os) (started : os.Started) (H : Type) (enc : TypeId × Value → H) :
 ReturnsInHanded {} Tryz.checked os 6 .any (Rows.fnExactCrewStepSpec.pre6 enc Tryz.prog Tryz.f6 Rows.fnExactCrewStepRow.domain false) (Rows.fnExactCrewStepSpec.post enc Tryz.prog Tryz.f6 false true false false) := by
 refine returnsInHanded_of_change (C := Tryz.checked) own started (by kernel_rfl) Tryz.func6
  (ChangeSpec.witness6 (enc := enc) (C := Tryz.checked) false ⟨#[], #[zeroWorld, zeroMove], []⟩ 8 (by kernel_rfl) (by kernel_rfl) (by kernel_rfl) (by kernel_rfl)) ?_
 intro W base args ds gs before hval0 hW hcnd _
 have hval : ∀ (j : Nat) t v, Tryz.f6.params[j]? = some t → args[j]? = some v → Value.okWide Tryz.prog W .any base t v := hval0
 have hW' := hW
 have hlt := hW.lt
 obtain ⟨p, q, hA0, hV, hpq, hfz, hnd⟩ := hW
 have hA : DataW.TrodAll enc Tryz.prog W 0 (fun _ => true) true Tryz.f6.params.toList args.toList ds p := hA0
 rw [Tryz.params6] at hA hval
 obtain ⟨v0, vs0, d0, ds0, p0, q0, hargs, hds, hp, h0, r0⟩ := trodAll_cons hA
 obtain ⟨v1, vs1, d1, ds1, p1, q1, hargs1, hds1, hp1, h1, r1⟩ := trodAll_cons r0
 obtain ⟨hvs, hds0, hq0⟩ := trodAll_nil r1
 subst hvs hds0 hq0 hargs1 hds1
 obtain rfl : args = #[v0, v1] := by cases args; simp_all
 subst hds
 obtain ⟨hgs, hq⟩ := trodVars_none hV
 subst hgs hq
 obtain ⟨acs, hv0, hsz⟩ := okWide_struct Tryz.underlying45 (hval 0 45 v0 rfl rfl)
 obtain ⟨bcs, hv1, hsz1⟩ := okWide_struct Tryz.underlying54 (hval 1 54 v1 rfl rfl)
 have h0k := h0
 have h1k := h1
 obtain ⟨fl, hf⟩ := h0
 obtain ⟨fl1, hf1⟩ := h1
 subst hv0 hv1
 obtain ⟨mw, mk, hms⟩ := crewMove_of_trod fl1 _ _ hf1
 have hbcs : bcs = #[.int .i64 mw, .int .i64 mk] := by
  have : bcs.toList = [.int .i64 mw, .int .i64 mk] := by simpa [Value.cells] using hms
  exact Array.toList_inj.1 (by simpa using this)
 subst hbcs
 obtain ⟨t, A, hcs, hrep⟩ := cw_of_trod fl _ _ hf
 have hacs : acs = #[.int .i64 t.jobs, .int .i64 t.workers, .int .i64 t.window, .int .i64 t.next, .int .i64 t.reader, .slice A.q t.queue.length A.pq, .slice A.h t.hands.length A.ph, .int .i64 t.closer, .slice A.r t.results.length A.pr, .int .i64 t.keeper, .slice A.g t.ring.length A.pg, .int .i64 t.due, .slice A.o t.out.length A.po, .int .i64 t.user, .slice A.t t.got.length A.pt, .int .i64 t.room, .slice A.s t.shut.length A.ps, .int .i64 t.ops] := by
  have : acs.toList = [.int .i64 t.jobs, .int .i64 t.workers, .int .i64 t.window, .int .i64 t.next, .int .i64 t.reader, .slice A.q t.queue.length A.pq, .slice A.h t.hands.length A.ph, .int .i64 t.closer, .slice A.r t.results.length A.pr, .int .i64 t.keeper, .slice A.g t.ring.length A.pg, .int .i64 t.due, .slice A.o t.out.length A.po, .int .i64 t.user, .slice A.t t.got.length A.pt, .int .i64 t.room, .slice A.s t.shut.length A.ps, .int .i64 t.ops] := by simpa [Value.cells] using hcs
  exact Array.toList_inj.1 (by simpa using this)
 subst hacs
 refine (lawCrewStep_any t A (fun b => b < W.heap.size) mw mk W hrep (fun b hb => hb)).mono fun e W' ⟨he, hb⟩ => ?_
 subst he
 have hltp : ∀ x ∈ p0, x.block < W.heap.size := fun x hx => hlt x (by rw [hpq, hp]; simp [hx])
 have hltp1 : ∀ x ∈ p1, x.block < W.heap.size := fun x hx => hlt x (by rw [hpq, hp, hp1]; simp [hx])
 refine ⟨_, rfl, _, _, before, [], p0 ++ p1, [], hW', ?_, ?_, ?_, hb.frame _, fun h => by cases h⟩
 · exact trodAll_mk1 (shut_bool Tryz.underlying4 true)
 · exact trodAll_mk2 (hb.trod laidOut readWorld rowWorldT h0k hltp) (hb.trod laidOut readMove rowMoveT h1k hltp1)
 · rfl
theorem crewStep_said : Rows.FnExactCrewStepSaid :=
 OpenClaim.holds_of_wide 6 Tryz.f6 rfl rfl rfl rfl rfl rfl rfl ⟨rfl, rfl, rfl, rfl, rfl⟩ rfl rfl rfl rfl rfl (by kernel_rfl) Tryz.func6 (by kernel_rfl)
  (of_decide_eq_true (by kernel_rfl)) (by unfold Func.isWrapper; first | (rw [if_pos (by decide +kernel)]; kernel_rfl) | (rw [if_neg (by decide +kernel)]; exact ⟨rfl, rfl⟩))
  (fun os started H enc _ => crewStep_lifted os started H enc)
end Go.Proofs.YtibgjcejddpldaaGreat
