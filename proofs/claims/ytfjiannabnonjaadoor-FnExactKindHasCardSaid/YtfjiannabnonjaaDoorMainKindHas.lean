/- For every schema and every tree that come in, KindHas answers as the specification's KindHas does and leaves its arguments as they were: the law FnExactKindHas returns true, and its arguments read behind the call as they read before.
   Conditions: those of the given card alone (the table treeFields starts as the program's text lays it; the card ties that). -/
import Derived.Test.YtfjiannabnonjaaDoorCards
import Derived.Test.YtfjiannabnonjaaDoorTie
import Derived.Test.YtfjiannabnonjaaDoorWLawH
import Derived.Test.YtfjiannabnonjaaDoorWKHas
import Derived.Test.YtfjiannabnonjaaDoorOpen
import Derived.Test.YtfjiannabnonjaaDoorOpenK
import Derived.Test.YtfjiannabnonjaaDoorLaid
import Derived.Deep.DeepHandedRow
import Derived.Lib.LaidTab
namespace Go.Proofs.YtfjiannabnonjaaDoor
open Go.ChangeShapes Go.WideShapes Go.ChangeAt Go.RowKit

theorem own : ownKnob Tryd.prog.godebug = none := by kernel_rfl
theorem laidOut : laidOutB Tryd.prog = true := by kernel_rfl
theorem readTree : Tryd.prog.readableRec 47 = true := by kernel_rfl
theorem rowTree : 47 < Tryd.prog.types.size := of_decide_eq_true (by kernel_rfl)
theorem readKind : Tryd.prog.readableRec 44 = true := by kernel_rfl
theorem rowKind : 44 < Tryd.prog.types.size := of_decide_eq_true (by kernel_rfl)
theorem readTab : Tryd.prog.readableRec 143 = true := by kernel_rfl
theorem rowTab : 143 < Tryd.prog.types.size := of_decide_eq_true (by kernel_rfl)

set_option maxRecDepth 100000 in
/-- What the walk gives, for every argument and every world that holds the table. -/
theorem kindHas_contract (H : Type) (enc : TypeId × Value → H) (W : World) (base : Nat) (args : Array Value) (ds gs : List (DataW H)) (before : List MemPlace)
    (hval : ∀ (j : Nat) t v, Tryd.f5.params[j]? = some t → args[j]? = some v → Value.okWide Tryd.prog W .any base t v)
    (hW : DataW.Whole enc Tryd.prog Tryd.f5.params.toList Rows.fnExactKindHasSpec.vars false W args.toList ds gs before) (hL : laidMetH Tryd.prog Rows.fnExactKindHasRow.laid W) :
    Calls Tryd.prog 5 args W fun e W' => ∃ v, e = .returned v ∧ Rows.fnExactKindHasSpec.post enc Tryd.prog Tryd.f5 false true false false W args v W' := by
  have hW' := hW
  have hlt := hW.lt
  obtain ⟨p, q, hA0, hV, hpq, hfz, hnd⟩ := hW
  have hA : DataW.TrodAll enc Tryd.prog W 0 (fun _ => true) true Tryd.f5.params.toList args.toList ds p := hA0
  rw [Tryd.params5] at hA hval
  obtain ⟨v0, vs0, d0, ds0, p0, q0, hargs, hds, hp, h0, r0⟩ := trodAll_cons hA
  obtain ⟨v1, vs1, d1, ds1, p1, q1, hargs1, hds1, hp1, h1, r1⟩ := trodAll_cons r0
  obtain ⟨hvs, hds0, hq0⟩ := trodAll_nil r1
  subst hvs hds0 hq0 hargs1 hds1
  obtain rfl : args = #[v0, v1] := by cases args; simp_all
  subst hds
  obtain ⟨g, tg, cs, fuel, dg, pg, rfl, hg, htg, hv, hdg, hqg⟩ := trodVars_one hV
  obtain rfl := Option.some.inj (gTab.symm.trans hg)
  obtain rfl := Option.some.inj (gTabType.symm.trans htg)
  obtain ⟨acs, hv0, hsz⟩ := okWide_struct Tryd.underlying44 (hval 0 44 v0 rfl rfl)
  obtain ⟨acs1, hv1, hsz1⟩ := okWide_struct Tryd.underlying47 (hval 1 47 v1 rfl rfl)
  have h0k := h0
  have h1k := h1
  obtain ⟨fl, hf⟩ := h0
  obtain ⟨fl1, hf1⟩ := h1
  subst hv0 hv1
  obtain ⟨k, c, hcs, hrep⟩ := krep_of_trod fl _ _ hf
  obtain ⟨t, d, hcs1, hrep1⟩ := rep_of_trod fl1 _ _ hf1
  have hacs : acs = #[c.c0, c.c1, c.c2] := by
    have : acs.toList = [c.c0, c.c1, c.c2] := by simpa [Value.cells] using hcs
    exact Array.toList_inj.1 (by simpa using this)
  have hacs1 : acs1 = #[d.c0, d.c1, d.c2, d.c3, d.c4] := by
    have : acs1.toList = [d.c0, d.c1, d.c2, d.c3, d.c4] := by simpa [Value.cells] using hcs1
    exact Array.toList_inj.1 (by simpa using this)
  subst hacs hacs1
  have hT := tab_of_laid hL
  refine (lawKindHas_of k t (fun b => b < W.heap.size) c d W (fun b hb => hb) hrep hrep1 (fun P Q c d V hV hP hQ hr hr2 hwt => implKindHas_any k t P Q c d V hP hQ hr hr2 (hT.of_block (hV.block _ hT.lt)) hwt)).mono fun e W' ⟨he, hb⟩ => ?_
  subst he
  have hltp : ∀ x ∈ p0, x.block < W.heap.size := fun x hx => hlt x (by rw [hpq, hp]; simp [hx])
  have hltp1 : ∀ x ∈ p1, x.block < W.heap.size := fun x hx => hlt x (by rw [hpq, hp, hp1]; simp [hx])
  have hltq : ∀ x ∈ q, x.block < W.heap.size := fun x hx => hlt x (by rw [hpq]; simp [hx])
  refine ⟨_, rfl, _, _, before, [], p0 ++ p1, q, hW', ?_, ?_, ?_, hb.frame _, fun h => by cases h⟩
  · exact trodAll_mk1 (shut_bool Tryd.underlying4 true)
  · exact trodAll_mk2 (hb.trod laidOut readKind rowKind h0k hltp) (hb.trod laidOut readTree rowTree h1k hltp1)
  · have hsi : W.Since W.heap.size W' := ⟨hb.os, hb.tape, hb.output, hb.size, hb.block⟩
    rw [hqg]
    refine trodVars_mk1 hg htg ((hsi.var hg hT.lt).trans hv) (DataW.trod_stays (kids_book laidOut readTab) (book_sized readTab) (fun h => by cases h) ⟨rowTab, book_self _⟩ hdg (fun x hx => hb.same ?_) (fun x hx => ?_))
    · exact hltq x (by rw [hqg]; simp [hx])
    · simpa using hltq x (by rw [hqg]; simp [hx])

/-- A world for the witness: the settled one, the table (block 0) holding what its initialiser lays. -/
noncomputable def laidWorld (os : Os) : World :=
  { World.holding Tryd.prog os ⟨#[], #[], []⟩ with heap := (World.holding Tryd.prog os ⟨#[], #[], []⟩).heap.modify 1 fun
      | .cells _ t frozen => .cells (tbl.map Value.bool).toArray t frozen
      | o => o }
def zeroTree : Value := .agg #[.int .i64 0, .int .i64 0, .string ByteArray.empty, .slice none 0 0, .slice none 0 0]
def zeroKind : Value := .agg #[.int .i64 0, .slice none 0 0, .slice none 0 0]
theorem laid_met (os : Os) : laidMet Tryd.prog Rows.fnExactKindHasRow.laid ((laidWorld os).forCall (fun _ _ => 0) ⟨#[], #[zeroKind, zeroTree], []⟩).memory :=
  laidMet_of_run' 8 (by kernel_rfl) (by kernel_rfl)
theorem reads (os : Os) {H : Type} (enc : TypeId × Value → H) : ∃ places, DataW.whole enc Tryd.prog ((laidWorld os).forCall (fun _ _ => 0) ⟨#[], #[zeroKind, zeroTree], []⟩).memory Tryd.f5.params.toList Rows.fnExactKindHasSpec.vars false #[zeroKind, zeroTree].toList 8 =
    some ([.agg [.lit (.int .i64 0), .nil, .nil], .agg [.lit (.int .i64 0), .lit (.int .i64 0), .lit (.string []), .nil, .nil]], [Rows.laid_loop_example_teagle_impl_treeFields], places) :=
  ⟨MemPlace.row ⟨1, 0, none⟩ 28, by kernel_rfl⟩

set_option maxRecDepth 100000 in
theorem kindHas_lifted (os : Os) (started : os.Started) (H : Type) (enc : TypeId × Value → H) (F : Stop.Interp) :
    ReturnsInHanded {} Tryd.checked os 5 .any ((OpenSpec.ofChange Rows.fnExactKindHasSpec).preRow enc Tryd.prog Tryd.f5 Rows.fnExactKindHasRow.domain false Rows.fnExactKindHasRow.laid) (((OpenSpec.ofChange Rows.fnExactKindHasSpec).at F).post enc Tryd.prog Tryd.f5 false true false false) := by
  obtain ⟨places, hx⟩ := reads os enc
  refine returnsInHanded_of_row (C := Tryd.checked) (s := OpenSpec.ofChange Rows.fnExactKindHasSpec) own started (by kernel_rfl) Tryd.func5
    (witness_row_at (enc := enc) (C := Tryd.checked) false (laidWorld os) #[zeroKind, zeroTree] rfl (by kernel_rfl) (by kernel_rfl) (by kernel_rfl)
      (OpenSpec.preRow_of_cond 8 hx (by kernel_rfl) (fun k hk => by cases hk) (by kernel_rfl) (laid_met os))) ?_
  intro W base args ds gs before hval hW _ _ _ hL _ _
  exact kindHas_contract H enc W base args ds gs before hval hW hL

theorem kindHas_said : Rows.FnExactKindHasSaid :=
  OpenClaim.holds_of_cond 5 Tryd.f5 rfl rfl rfl rfl rfl rfl rfl ⟨rfl, rfl, rfl, rfl, rfl⟩ rfl rfl rfl rfl rfl (by kernel_rfl) Tryd.func5 (by kernel_rfl)
    (of_decide_eq_true (by kernel_rfl)) (by unfold Func.isWrapper; first | (rw [if_pos (by decide +kernel)]; kernel_rfl) | (rw [if_neg (by decide +kernel)]; exact ⟨rfl, rfl⟩))
    (fun os started H enc _ F => by rw [OpenClaim.pre_eq_preRow]; exact kindHas_lifted os started H enc F)

theorem kindHas_plain (f : FuncId) (fn : Func) (hf : Tryd.pinned.checked.prog.funcNamed "loop.example/teagle/laws.FnExactKindHas" = some f) (hfn : Tryd.pinned.checked.prog.funcs[f]? = some fn) :
    false = Tryd.pinned.checked.prog.looks [] ∧ ∀ (j : Nat) t, fn.params[j]? = some t → Tryd.pinned.checked.prog.wantsStandIn t = false := by
  obtain rfl : f = 5 := Option.some.inj ((show Tryd.prog.funcNamed "loop.example/teagle/laws.FnExactKindHas" = some 5 by kernel_rfl).symm.trans hf) |>.symm
  obtain rfl : fn = Tryd.f5 := (Option.some.inj (Tryd.func5.symm.trans hfn)).symm
  refine ⟨by kernel_rfl, fun j t ht => ?_⟩
  rw [Tryd.params5] at ht
  have hm := Array.mem_of_getElem? ht
  simp only [List.mem_toArray, List.mem_cons, List.not_mem_nil, or_false] at hm
  rcases hm with rfl | rfl
  · exact (show Tryd.prog.wantsStandIn 44 = false by kernel_rfl)
  · exact (show Tryd.prog.wantsStandIn 47 = false by kernel_rfl)

/-- The card. -/
theorem kindHas_card : Rows.FnExactKindHasCardSaid :=
  Claim7.holds_tied_plain_at .later [] _ _ _ _ kindHas_said (fun _ h => by cases h) (by kernel_rfl) (fun _ h => by cases h) fnExactKindHas_row_tie rfl ⟨rfl, rfl⟩ (by kernel_rfl) rfl kindHas_plain (by kernel_rfl)
end Go.Proofs.YtfjiannabnonjaaDoor
