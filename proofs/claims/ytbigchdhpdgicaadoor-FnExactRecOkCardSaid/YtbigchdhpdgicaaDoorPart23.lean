/- For every record that comes in, RecOk says what the specification's RecOk says, and leaves its argument as it was: the law FnExactRecOk returns true, and its argument reads behind the call as it read before.
   Conditions: those of the given card alone (the table treeFields starts as the program's text lays it; the card ties that). -/
import Derived.Test.YtbigchdhpdgicaaDoorCards
import Derived.Test.YtbigchdhpdgicaaDoorTie
import Derived.Test.YtbigchdhpdgicaaDoorPart21
import Derived.Test.YtbigchdhpdgicaaDoorPart22
import Derived.Deep.DeepHandedRow
import Derived.Lib.LaidTab
namespace Go.Proofs.YtbigchdhpdgicaaDoor
open Go.ChangeShapes Go.WideShapes Go.ChangeAt Go.RowKit

theorem own : ownKnob Tryd.prog.godebug = none := by kernel_rfl
theorem laidOut : laidOutB Tryd.prog = true := by kernel_rfl
theorem readRecord : Tryd.prog.readableRec 24 = true := by kernel_rfl
theorem rowRecord : 24 < Tryd.prog.types.size := of_decide_eq_true (by kernel_rfl)
theorem readTab : Tryd.prog.readableRec 116 = true := by kernel_rfl
theorem rowTab : 116 < Tryd.prog.types.size := of_decide_eq_true (by kernel_rfl)

set_option maxRecDepth 100000 in
/-- What the walk gives, for every argument and every world that holds the table. -/
theorem recOk_contract (H : Type) (enc : TypeId × Value → H) (W : World) (base : Nat) (args : Array Value) (ds gs : List (DataW H)) (before : List MemPlace)
    (hval : ∀ (j : Nat) t v, Tryd.f3.params[j]? = some t → args[j]? = some v → Value.okWide Tryd.prog W .any base t v)
    (hW : DataW.Whole enc Tryd.prog Tryd.f3.params.toList Rows.fnExactRecOkSpec.vars false W args.toList ds gs before) (hL : laidMetH Tryd.prog Rows.fnExactRecOkRow.laid W) :
    Calls Tryd.prog 3 args W fun e W' => ∃ v, e = .returned v ∧ Rows.fnExactRecOkSpec.post enc Tryd.prog Tryd.f3 false true false false W args v W' := by
  have hW' := hW
  have hlt := hW.lt
  obtain ⟨p, q, hA0, hV, hpq, hfz, hnd⟩ := hW
  have hA : DataW.TrodAll enc Tryd.prog W 0 (fun _ => true) true Tryd.f3.params.toList args.toList ds p := hA0
  rw [Tryd.params3] at hA hval
  obtain ⟨v0, vs0, d0, ds0, p0, q0, hargs, hds, hp, h0, r0⟩ := trodAll_cons hA
  obtain ⟨hvs, hds0, hq0⟩ := trodAll_nil r0
  subst hvs hds0 hq0
  obtain rfl : args = #[v0] := by cases args; simp_all
  subst hds
  obtain ⟨g, tg, cs, fuel, dg, pg, rfl, hg, htg, hv, hdg, hqg⟩ := trodVars_one hV
  obtain rfl := Option.some.inj (gTab.symm.trans hg)
  obtain rfl := Option.some.inj (gTabType.symm.trans htg)
  obtain ⟨acs, hv0, hsz⟩ := okWide_struct Tryd.underlying24 (hval 0 24 v0 rfl rfl)
  have h0k := h0
  obtain ⟨fl, hf⟩ := h0
  subst hv0
  obtain ⟨pos, key, v, es, hcs, hkey, -, hes⟩ := record_of_trod hf
  have hacs : acs = #[.int .i64 pos, .string key, v] := by
    have : acs.toList = [.int .i64 pos, .string key, v] := by simpa [Value.cells] using hcs
    exact Array.toList_inj.1 (by simpa using this)
  subst hacs
  refine (lawRecOk_any pos key es (fun b => b < W.heap.size) v W (fun b hb => hb) hes hkey (tab_of_laid hL)).mono fun e W' ⟨he, hb⟩ => ?_
  subst he
  have hltp : ∀ x ∈ p0, x.block < W.heap.size := fun x hx => hlt x (by rw [hpq, hp]; simp [hx])
  have hltq : ∀ x ∈ q, x.block < W.heap.size := fun x hx => hlt x (by rw [hpq]; simp [hx])
  refine ⟨_, rfl, _, _, before, [], p0, q, hW', ?_, ?_, ?_, hb.frame _, fun h => by cases h⟩
  · exact trodAll_mk1 (shut_bool Tryd.underlying4 true)
  · exact trodAll_mk1 (hb.trod laidOut readRecord rowRecord h0k hltp)
  · have hT := tab_of_laid hL
    have hsi : W.Since W.heap.size W' := ⟨hb.os, hb.tape, hb.output, hb.size, hb.block⟩
    rw [hqg]
    refine trodVars_mk1 hg htg ((hsi.var hg hT.lt).trans hv) (DataW.trod_stays (kids_book laidOut readTab) (book_sized readTab) (fun h => by cases h) ⟨rowTab, book_self _⟩ hdg (fun x hx => hb.same ?_) (fun x hx => ?_))
    · exact hltq x (by rw [hqg]; simp [hx])
    · simpa using hltq x (by rw [hqg]; simp [hx])

/-- A world for the witness: the settled one, the table (block 0) holding what its initialiser lays. -/
noncomputable def laidWorld (os : Os) : World :=
  { World.holding Tryd.prog os ⟨#[], #[], []⟩ with heap := (World.holding Tryd.prog os ⟨#[], #[], []⟩).heap.modify 0 fun
      | .cells _ t frozen => .cells (tbl.map Value.bool).toArray t frozen
      | o => o }
def zeroRecord : Value := .agg #[.int .i64 0, .string ByteArray.empty, .slice none 0 0]
theorem laid_met (os : Os) : laidMet Tryd.prog Rows.fnExactRecOkRow.laid ((laidWorld os).forCall (fun _ _ => 0) ⟨#[], #[zeroRecord], []⟩).memory :=
  laidMet_of_run' 8 (by kernel_rfl) (by kernel_rfl)
theorem reads (os : Os) {H : Type} (enc : TypeId × Value → H) : ∃ places, DataW.whole enc Tryd.prog ((laidWorld os).forCall (fun _ _ => 0) ⟨#[], #[zeroRecord], []⟩).memory Tryd.f3.params.toList Rows.fnExactRecOkSpec.vars false #[zeroRecord].toList 8 =
    some ([.agg [.lit (.int .i64 0), .lit (.string []), .nil]], [Rows.laid_loop_example_teagle_impl_treeFields], places) :=
  ⟨MemPlace.row ⟨0, 0, none⟩ 28, by kernel_rfl⟩

set_option maxRecDepth 100000 in
theorem recOk_lifted (os : Os) (started : os.Started) (H : Type) (enc : TypeId × Value → H) (F : Stop.Interp) :
    ReturnsInHanded {} Tryd.checked os 3 .any ((OpenSpec.ofChange Rows.fnExactRecOkSpec).preRow enc Tryd.prog Tryd.f3 Rows.fnExactRecOkRow.domain false Rows.fnExactRecOkRow.laid) (((OpenSpec.ofChange Rows.fnExactRecOkSpec).at F).post enc Tryd.prog Tryd.f3 false true false false) := by
  obtain ⟨places, hx⟩ := reads os enc
  refine returnsInHanded_of_row (C := Tryd.checked) (s := OpenSpec.ofChange Rows.fnExactRecOkSpec) own started (by kernel_rfl) Tryd.func3
    (witness_row_at (enc := enc) (C := Tryd.checked) false (laidWorld os) #[zeroRecord] rfl (by kernel_rfl) (by kernel_rfl) (by kernel_rfl)
      (OpenSpec.preRow_of_cond 8 hx (by kernel_rfl) (fun k hk => by cases hk) (by kernel_rfl) (laid_met os))) ?_
  intro W base args ds gs before hval hW _ _ _ hL _ _
  exact recOk_contract H enc W base args ds gs before hval hW hL

theorem recOk_said : Rows.FnExactRecOkSaid :=
  OpenClaim.holds_of_cond 3 Tryd.f3 rfl rfl rfl rfl rfl rfl rfl ⟨rfl, rfl, rfl, rfl, rfl⟩ rfl rfl rfl rfl rfl (by kernel_rfl) Tryd.func3 (by kernel_rfl)
    (of_decide_eq_true (by kernel_rfl)) (by unfold Func.isWrapper; first | (rw [if_pos (by decide +kernel)]; kernel_rfl) | (rw [if_neg (by decide +kernel)]; exact ⟨rfl, rfl⟩))
    (fun os started H enc _ F => by rw [OpenClaim.pre_eq_preRow]; exact recOk_lifted os started H enc F)

theorem recOk_plain (f : FuncId) (fn : Func) (hf : Tryd.pinned.checked.prog.funcNamed "loop.example/teagle/laws.FnExactRecOk" = some f) (hfn : Tryd.pinned.checked.prog.funcs[f]? = some fn) :
    true = Tryd.pinned.checked.prog.looks [] ∧ ∀ (j : Nat) t, fn.params[j]? = some t → Tryd.pinned.checked.prog.wantsStandIn t = false := by
  obtain rfl : f = 3 := Option.some.inj ((show Tryd.prog.funcNamed "loop.example/teagle/laws.FnExactRecOk" = some 3 by kernel_rfl).symm.trans hf) |>.symm
  obtain rfl : fn = Tryd.f3 := (Option.some.inj (Tryd.func3.symm.trans hfn)).symm
  refine ⟨by kernel_rfl, fun j t ht => ?_⟩
  rw [Tryd.params3] at ht
  obtain rfl : t = 24 := by simpa using Array.mem_of_getElem? ht
  exact (show Tryd.prog.wantsStandIn 24 = false by kernel_rfl)

/-- The card. -/
theorem recOk_card : Rows.FnExactRecOkCardSaid :=
  Claim7.holds_tied_plain_at .later [] _ _ _ _ recOk_said (fun _ h => by cases h) (by kernel_rfl) (fun _ h => by cases h) fnExactRecOk_row_tie rfl ⟨rfl, rfl⟩ (by kernel_rfl) rfl recOk_plain (by kernel_rfl)
end Go.Proofs.YtbigchdhpdgicaaDoor
