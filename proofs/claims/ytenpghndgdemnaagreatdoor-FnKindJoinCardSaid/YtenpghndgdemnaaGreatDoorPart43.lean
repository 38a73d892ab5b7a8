/- Two schemas that fit into any common one have a least common one: whatever bytes come in, of the schemas that are drawn from them KindJoin and KindFits answer so, in the other order too: the law FnKindJoin returns true, and its arguments read behind the call as they read before.
   Conditions: those of the given card alone (the library's errors.errorType starts as its text lays it; the card ties that). -/
import Derived.Test.YtenpghndgdemnaaGreatDoorCards
import Derived.Test.YtenpghndgdemnaaGreatDoorTie
import Derived.Test.YtenpghndgdemnaaGreatDoorPart41
import Derived.Test.YtenpghndgdemnaaGreatDoorPart42
import Derived.Deep.DeepHandedRow
import Derived.LaidLaws
import Derived.LaidHandle
import Derived.Stop.Joined
namespace Go.Proofs.YtenpghndgdemnaaGreatDoor
open Go.ChangeShapes Go.WideShapes Go.ChangeAt Go.RowKit

theorem own : ownKnob Tryz.prog.godebug = none := by kernel_rfl
theorem laidOut : laidOutB Tryz.prog = true := by kernel_rfl
theorem readBytes : Tryz.prog.readableRec 22 = true := by kernel_rfl
theorem rowBytes : 22 < Tryz.prog.types.size := of_decide_eq_true (by kernel_rfl)

theorem etG : Tryz.prog.globalNamed "errors.errorType" = some 0 := by kernel_rfl
theorem rtG : (Tryz.prog.cutTypes.find? (·.1 == "internal/reflectlite.rtype")).map (·.2) = some 134 := by kernel_rfl
theorem oneRow : ((List.range Tryz.prog.types.size).filter fun t => Tryz.prog.rowNamed t [101, 114, 114, 111, 114]) = [87] := by kernel_rfl
/-- What the card's condition gives: the variable's one cell. -/
theorem handle_of_laid {W : World} (h : laidMetH Tryz.prog Rows.fnKindJoinRow.laid W) : ErrT W := by
  have h' : laidMet Tryz.prog [] W ∧ handlesMet Tryz.prog Rows.fnKindJoinRow.laid W := h
  obtain ⟨name, u, ty, e1, e2, e3, e4, e5⟩ := h'.2 _ (List.mem_singleton.2 rfl)
  have en : name = [101, 114, 114, 111, 114] := (Option.some.inj e1).symm
  subst en
  obtain rfl := Option.some.inj (rtG.symm.trans e2)
  have hm : ty ∈ (List.range Tryz.prog.types.size).filter fun t => Tryz.prog.rowNamed t [101, 114, 114, 111, 114] := List.mem_filter.2 ⟨List.mem_range.2 e3, e4⟩
  rw [oneRow] at hm
  obtain rfl := List.mem_singleton.1 hm
  have hh : typeHandle Tryz.prog 87 = .pointer (some ⟨1, 87, none⟩) := by kernel_rfl
  rw [hh] at e5
  have h9 := World.var?_cell etG e5 0
  unfold ErrT
  simpa using h9

set_option maxRecDepth 100000 in
/-- What the walk gives, for every argument and every world that holds the table. -/
theorem kindJoinP_contract (H : Type) (enc : TypeId × Value → H) (W : World) (base : Nat) (args : Array Value) (ds gs : List (DataW H)) (before : List MemPlace)
    (hval : ∀ (j : Nat) t v, Tryz.f3.params[j]? = some t → args[j]? = some v → Value.okWide Tryz.prog W .any base t v)
    (hW : DataW.Whole enc Tryz.prog Tryz.f3.params.toList Rows.fnKindJoinSpec.vars false W args.toList ds gs before) (hL : laidMetH Tryz.prog Rows.fnKindJoinRow.laid W) :
    Calls Tryz.prog 3 args W fun e W' => ∃ v, e = .returned v ∧ Rows.fnKindJoinSpec.post enc Tryz.prog Tryz.f3 false true false false W args v W' := by
  have hW' := hW
  have hlt := hW.lt
  obtain ⟨p, q, hA0, hV, hpq, hfz, hnd⟩ := hW
  have hA : DataW.TrodAll enc Tryz.prog W 0 (fun _ => true) true Tryz.f3.params.toList args.toList ds p := hA0
  rw [Tryz.params3] at hA hval
  obtain ⟨v0, vs0, d0, ds0, p0, q0, hargs, hds, hp, h0, r0⟩ := trodAll_cons hA
  obtain ⟨v1, vs1, d1, ds1, p1, q1, hargs1, hds1, hp1, h1, r1⟩ := trodAll_cons r0
  obtain ⟨hvs, hds0, hq0⟩ := trodAll_nil r1
  subst hvs hds0 hq0 hargs1 hds1
  obtain rfl : args = #[v0, v1] := by cases args; simp_all
  subst hds
  obtain ⟨hgs, hq⟩ := trodVars_none hV
  subst hgs hq
  obtain ⟨a0, len0, cap0, hv0⟩ := okWide_slice Tryz.underlying22 (hval 0 22 v0 rfl rfl)
  have h0k := h0
  obtain ⟨fl0, hf0⟩ := h0
  subst hv0
  have hcap0 := bytes_cap hf0
  obtain ⟨l0, hby0⟩ := bytes_of_trod hf0
  obtain rfl : len0 = l0.length := by obtain ⟨_, _, e, -⟩ := hby0; simp only [Value.slice.injEq] at e; exact e.2.1
  obtain ⟨a1, len1, cap1, hv1⟩ := okWide_slice Tryz.underlying22 (hval 1 22 v1 rfl rfl)
  have h1k := h1
  obtain ⟨fl1, hf1⟩ := h1
  subst hv1
  have hcap1 := bytes_cap hf1
  obtain ⟨l1, hby1⟩ := bytes_of_trod hf1
  obtain rfl : len1 = l1.length := by obtain ⟨_, _, e, -⟩ := hby1; simp only [Value.slice.injEq] at e; exact e.2.1
  have hT : ErrT W := handle_of_laid hL
  refine (lawKindJoinP_any W a0 cap0 l0 hby0 hcap0 a1 cap1 l1 hby1 hcap1 hT).mono fun e W' ⟨he, hb⟩ => ?_
  subst he
  have hltp : ∀ x ∈ p0, x.block < W.heap.size := fun x hx => hlt x (by rw [hpq, hp]; simp [hx])
  have hltp1 : ∀ x ∈ p1, x.block < W.heap.size := fun x hx => hlt x (by rw [hpq, hp, hp1]; simp [hx])
  refine ⟨_, rfl, _, _, before, [], p0 ++ p1, [], hW', ?_, ?_, ?_, hb.frame _, fun h => by cases h⟩
  · exact trodAll_mk1 (shut_bool Tryz.underlying4 true)
  · exact trodAll_mk2 (hb.trod laidOut readBytes rowBytes h0k hltp) (hb.trod laidOut readBytes rowBytes h1k hltp1)
  · rfl

/-- A world for the witness: the settled one, the library's variable laid. -/
noncomputable def laidWorld (os : Os) : World :=
  { World.holding Tryz.prog os ⟨#[], #[], []⟩ with heap := (World.holding Tryz.prog os ⟨#[], #[], []⟩).heap.modify 0 fun
      | .cells _ t frozen => .cells #[.iface 134 (.agg #[.pointer (some ⟨1, 87, none⟩)])] t frozen
      | o => o }
def zeroBytes : Value := .slice none 0 0
theorem laid_met (os : Os) : laidMetH Tryz.prog Rows.fnKindJoinRow.laid ((laidWorld os).forCall (fun _ _ => 0) ⟨#[], #[zeroBytes, zeroBytes], []⟩).memory :=
  laidMetH_of_parts (laidMet_nil _ _) (by kernel_rfl)
theorem reads (os : Os) {H : Type} (enc : TypeId × Value → H) : ∃ places, DataW.whole enc Tryz.prog ((laidWorld os).forCall (fun _ _ => 0) ⟨#[], #[zeroBytes, zeroBytes], []⟩).memory Tryz.f3.params.toList Rows.fnKindJoinSpec.vars false #[zeroBytes, zeroBytes].toList 8 =
    some ([.nil, .nil], [], places) :=
  ⟨[], by kernel_rfl⟩

set_option maxRecDepth 100000 in
theorem kindJoinP_lifted (os : Os) (started : os.Started) (H : Type) (enc : TypeId × Value → H) (F : Stop.Interp) :
    ReturnsInHanded {} Tryz.checked os 3 .any ((OpenSpec.ofChange Rows.fnKindJoinSpec).preRow enc Tryz.prog Tryz.f3 Rows.fnKindJoinRow.domain false Rows.fnKindJoinRow.laid) (((OpenSpec.ofChange Rows.fnKindJoinSpec).at F).post enc Tryz.prog Tryz.f3 false true false false) := by
  obtain ⟨places, hx⟩ := reads os enc
  refine returnsInHanded_of_row (C := Tryz.checked) (s := OpenSpec.ofChange Rows.fnKindJoinSpec) own started (by kernel_rfl) Tryz.func3
    (witness_row_at (enc := enc) (C := Tryz.checked) false (laidWorld os) #[zeroBytes, zeroBytes] rfl (by kernel_rfl) (by kernel_rfl) (by kernel_rfl)
      (OpenSpec.preRow_of_cond 8 hx (by kernel_rfl) (fun k hk => by cases hk) (by kernel_rfl) (laid_met os))) ?_
  intro W base args ds gs before hval hW _ _ _ hL _ _
  exact kindJoinP_contract H enc W base args ds gs before hval hW hL

theorem kindJoinP_said : Rows.FnKindJoinSaid :=
  OpenClaim.holds_of_cond 3 Tryz.f3 rfl rfl rfl rfl rfl rfl rfl ⟨rfl, rfl, rfl, rfl, rfl⟩ rfl rfl rfl rfl rfl (by kernel_rfl) Tryz.func3 (by kernel_rfl)
    (of_decide_eq_true (by kernel_rfl)) (by unfold Func.isWrapper; first | (rw [if_pos (by decide +kernel)]; kernel_rfl) | (rw [if_neg (by decide +kernel)]; exact ⟨rfl, rfl⟩))
    (fun os started H enc _ F => by rw [OpenClaim.pre_eq_preRow]; exact kindJoinP_lifted os started H enc F)

theorem kindJoinP_plain (f : FuncId) (fn : Func) (hf : Tryz.pinned.checked.prog.funcNamed "loop.example/teagle/laws.FnKindJoin" = some f) (hfn : Tryz.pinned.checked.prog.funcs[f]? = some fn) :
    true = Tryz.pinned.checked.prog.looks [] ∧ ∀ (j : Nat) t, fn.params[j]? = some t → Tryz.pinned.checked.prog.wantsStandIn t = false := by
  obtain rfl : f = 3 := Option.some.inj ((show Tryz.prog.funcNamed "loop.example/teagle/laws.FnKindJoin" = some 3 by kernel_rfl).symm.trans hf) |>.symm
  obtain rfl : fn = Tryz.f3 := (Option.some.inj (Tryz.func3.symm.trans hfn)).symm
  refine ⟨by kernel_rfl, fun j t ht => ?_⟩
  rw [Tryz.params3] at ht
  have hm := Array.mem_of_getElem? ht
  simp only [List.mem_toArray, List.mem_cons, List.not_mem_nil, or_false, or_self] at hm
  subst hm
  exact (show Tryz.prog.wantsStandIn 22 = false by kernel_rfl)

/-- The card. -/
theorem kindJoinP_card : Rows.FnKindJoinCardSaid :=
  Claim7.holds_tied_plain_at .later [] _ _ _ _ kindJoinP_said (fun _ h => by cases h) (by kernel_rfl) (fun _ h => by cases h) fnKindJoin_row_tie rfl ⟨rfl, rfl⟩ (by kernel_rfl) rfl kindJoinP_plain (by kernel_rfl)
end Go.Proofs.YtenpghndgdemnaaGreatDoor
