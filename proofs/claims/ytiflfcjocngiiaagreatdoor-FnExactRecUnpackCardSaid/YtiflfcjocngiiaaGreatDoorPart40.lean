/- For every position and every text that come in, RecUnpack gives the record that the specification's RecUnpack gives, and whether there is one, in memory of its own, also behind a further call: the law FnExactRecUnpack returns true, and its arguments read behind the call as they read before.
   Conditions: those of the given card alone (the table treeFields starts as the program's text lays it; the card ties that). -/
import Derived.Test.YtiflfcjocngiiaaGreatDoorCards
import Derived.Test.YtiflfcjocngiiaaGreatDoorTie
import Derived.Test.YtiflfcjocngiiaaGreatDoorPart39
import Derived.Deep.DeepHandedRow
import Derived.Lib.LaidTab
namespace Go.Proofs.YtiflfcjocngiiaaGreatDoor
open Go.ChangeShapes Go.WideShapes Go.ChangeAt Go.RowKit

theorem own : ownKnob Tryz.prog.godebug = none := by kernel_rfl
theorem laidOut : laidOutB Tryz.prog = true := by kernel_rfl
theorem readInt : Tryz.prog.readableRec 3 = true := by kernel_rfl
theorem rowInt : 3 < Tryz.prog.types.size := of_decide_eq_true (by kernel_rfl)
theorem readStr : Tryz.prog.readableRec 9 = true := by kernel_rfl
theorem rowStr : 9 < Tryz.prog.types.size := of_decide_eq_true (by kernel_rfl)
theorem readTab : Tryz.prog.readableRec 119 = true := by kernel_rfl
theorem rowTab : 119 < Tryz.prog.types.size := of_decide_eq_true (by kernel_rfl)

set_option maxRecDepth 100000 in
/-- What the walk gives, for every argument and every world that holds the table. -/
theorem recUnpack_contract (H : Type) (enc : TypeId × Value → H) (W : World) (base : Nat) (args : Array Value) (ds gs : List (DataW H)) (before : List MemPlace)
    (hval : ∀ (j : Nat) t v, Tryz.f3.params[j]? = some t → args[j]? = some v → Value.okWide Tryz.prog W .any base t v)
    (hW : DataW.Whole enc Tryz.prog Tryz.f3.params.toList Rows.fnExactRecUnpackSpec.vars false W args.toList ds gs before) (hL : laidMetH Tryz.prog Rows.fnExactRecUnpackRow.laid W) :
    Calls Tryz.prog 3 args W fun e W' => ∃ v, e = .returned v ∧ Rows.fnExactRecUnpackSpec.post enc Tryz.prog Tryz.f3 false true false false W args v W' := by
  have hW' := hW
  have hlt := hW.lt
  obtain ⟨p, q, hA0, hV, hpq, hfz, hnd⟩ := hW
  have hA : DataW.TrodAll enc Tryz.prog W 0 (fun _ => true) true Tryz.f3.params.toList args.toList ds p := hA0
  rw [Tryz.params3] at hA hval
  obtain ⟨v0, vs0, d0, ds0, p0, q0, hargs, hds, hp, h0, r0⟩ := trodAll_cons hA
  obtain ⟨v1, vs1, d1, ds1, p1, q1, hargs1, hds1, hp1, h1, r1⟩ := trodAll_cons r0
  obtain ⟨hvs, hds0, hq0⟩ := trodAll_nil r1
  subst hvs hds0 hq0 hargs1 hds1
  obtain rfl : args = #[v0, v1] := by cases args; simp_all
  subst hds
  obtain ⟨g, tg, cs, fuel, dg, pg, rfl, hg, htg, hv, hdg, hqg⟩ := trodVars_one hV
  obtain rfl := Option.some.inj (gTab.symm.trans hg)
  obtain rfl := Option.some.inj (gTabType.symm.trans htg)
  have h0k := h0
  have h1k := h1
  obtain ⟨fl1, hf1⟩ := h1
  obtain ⟨pos, hv0⟩ := okWide_int Tryz.underlying3 (hval 0 3 v0 rfl rfl)
  obtain ⟨x, hx1, -, hxl⟩ := DataW.trod_string Tryz.underlying9 hf1
  obtain ⟨x', hv1⟩ := okWide_string Tryz.underlying9 (hval 1 9 v1 rfl rfl)
  subst hv0 hv1
  have hxx : x' = x := by simpa [Value.cells] using hx1
  subst hxx
  unfold maxLen at hxl
  refine (lawRecUnpack_any pos x' (by omega) W (tab_of_laid hL)).mono fun e W' ⟨he, hb⟩ => ?_
  subst he
  have hltp : ∀ x ∈ p0, x.block < W.heap.size := fun x hx => hlt x (by rw [hpq, hp]; simp [hx])
  have hltp1 : ∀ x ∈ p1, x.block < W.heap.size := fun x hx => hlt x (by rw [hpq, hp, hp1]; simp [hx])
  have hltq : ∀ x ∈ q, x.block < W.heap.size := fun x hx => hlt x (by rw [hpq]; simp [hx])
  refine ⟨_, rfl, _, _, before, [], p0 ++ p1, q, hW', ?_, ?_, ?_, hb.frame _, fun h => by cases h⟩
  · exact trodAll_mk1 (shut_bool Tryz.underlying4 true)
  · exact trodAll_mk2 (hb.trod laidOut readInt rowInt h0k hltp) (hb.trod laidOut readStr rowStr h1k hltp1)
  · have hT := tab_of_laid hL
    have hsi : W.Since W.heap.size W' := ⟨hb.os, hb.tape, hb.output, hb.size, hb.block⟩
    rw [hqg]
    refine trodVars_mk1 hg htg ((hsi.var hg hT.lt).trans hv) (DataW.trod_stays (kids_book laidOut readTab) (book_sized readTab) (fun h => by cases h) ⟨rowTab, book_self _⟩ hdg (fun x hx => hb.same ?_) (fun x hx => ?_))
    · exact hltq x (by rw [hqg]; simp [hx])
    · simpa using hltq x (by rw [hqg]; simp [hx])

/-- A world for the witness: the settled one, the table (block 0) holding what its initialiser lays. -/
noncomputable def laidWorld (os : Os) : World :=
  { World.holding Tryz.prog os ⟨#[], #[], []⟩ with heap := (World.holding Tryz.prog os ⟨#[], #[], []⟩).heap.modify 0 fun
      | .cells _ t frozen => .cells (tbl.map Value.bool).toArray t frozen
      | o => o }
def noughtPos : Value := .int .i64 0
def noughtText : Value := .string ByteArray.empty
theorem laid_met (os : Os) : laidMet Tryz.prog Rows.fnExactRecUnpackRow.laid ((laidWorld os).forCall (fun _ _ => 0) ⟨#[], #[noughtPos, noughtText], []⟩).memory :=
  laidMet_of_run' 8 (by kernel_rfl) (by kernel_rfl)
theorem reads (os : Os) {H : Type} (enc : TypeId × Value → H) : ∃ places, DataW.whole enc Tryz.prog ((laidWorld os).forCall (fun _ _ => 0) ⟨#[], #[noughtPos, noughtText], []⟩).memory Tryz.f3.params.toList Rows.fnExactRecUnpackSpec.vars false #[noughtPos, noughtText].toList 8 =
    some ([.lit (.int .i64 0), .lit (.string [])], [Rows.laid_loop_example_teagle_impl_treeFields], places) :=
  ⟨MemPlace.row ⟨0, 0, none⟩ 28, by kernel_rfl⟩

set_option maxRecDepth 100000 in
theorem recUnpack_lifted (os : Os) (started : os.Started) (H : Type) (enc : TypeId × Value → H) (F : Stop.Interp) :
    ReturnsInHanded {} Tryz.checked os 3 .any ((OpenSpec.ofChange Rows.fnExactRecUnpackSpec).preRow enc Tryz.prog Tryz.f3 Rows.fnExactRecUnpackRow.domain false Rows.fnExactRecUnpackRow.laid) (((OpenSpec.ofChange Rows.fnExactRecUnpackSpec).at F).post enc Tryz.prog Tryz.f3 false true false false) := by
  obtain ⟨places, hx⟩ := reads os enc
  refine returnsInHanded_of_row (C := Tryz.checked) (s := OpenSpec.ofChange Rows.fnExactRecUnpackSpec) own started (by kernel_rfl) Tryz.func3
    (witness_row_at (enc := enc) (C := Tryz.checked) false (laidWorld os) #[noughtPos, noughtText] rfl (by kernel_rfl) (by kernel_rfl) (by kernel_rfl)
      (OpenSpec.preRow_of_cond 8 hx (by kernel_rfl) (fun k hk => by cases hk) (by kernel_rfl) (laid_met os))) ?_
  intro W base args ds gs before hval hW _ _ _ hL _ _
  exact recUnpack_contract H enc W base args ds gs before hval hW hL

theorem recUnpack_said : Rows.FnExactRecUnpackSaid :=
  OpenClaim.holds_of_cond 3 Tryz.f3 rfl rfl rfl rfl rfl rfl rfl ⟨rfl, rfl, rfl, rfl, rfl⟩ rfl rfl rfl rfl rfl (by kernel_rfl) Tryz.func3 (by kernel_rfl)
    (of_decide_eq_true (by kernel_rfl)) (by unfold Func.isWrapper; first | (rw [if_pos (by decide +kernel)]; kernel_rfl) | (rw [if_neg (by decide +kernel)]; exact ⟨rfl, rfl⟩))
    (fun os started H enc _ F => by rw [OpenClaim.pre_eq_preRow]; exact recUnpack_lifted os started H enc F)

theorem recUnpack_plain (f : FuncId) (fn : Func) (hf : Tryz.pinned.checked.prog.funcNamed "loop.example/teagle/laws.FnExactRecUnpack" = some f) (hfn : Tryz.pinned.checked.prog.funcs[f]? = some fn) :
    true = Tryz.pinned.checked.prog.looks [] ∧ ∀ (j : Nat) t, fn.params[j]? = some t → Tryz.pinned.checked.prog.wantsStandIn t = false := by
  obtain rfl : f = 3 := Option.some.inj ((show Tryz.prog.funcNamed "loop.example/teagle/laws.FnExactRecUnpack" = some 3 by kernel_rfl).symm.trans hf) |>.symm
  obtain rfl : fn = Tryz.f3 := (Option.some.inj (Tryz.func3.symm.trans hfn)).symm
  refine ⟨by kernel_rfl, fun j t ht => ?_⟩
  rw [Tryz.params3] at ht
  have hm := Array.mem_of_getElem? ht
  simp only [List.mem_toArray, List.mem_cons, List.not_mem_nil, or_false] at hm
  rcases hm with rfl | rfl
  · exact (show Tryz.prog.wantsStandIn 3 = false by kernel_rfl)
  · exact (show Tryz.prog.wantsStandIn 9 = false by kernel_rfl)

/-- The card. -/
theorem recUnpack_card : Rows.FnExactRecUnpackCardSaid :=
  Claim7.holds_tied_plain_at .later [] _ _ _ _ recUnpack_said (fun _ h => by cases h) (by kernel_rfl) (fun _ h => by cases h) fnExactRecUnpack_row_tie rfl ⟨rfl, rfl⟩ (by kernel_rfl) rfl recUnpack_plain (by kernel_rfl)
end Go.Proofs.YtiflfcjocngiiaaGreatDoor
