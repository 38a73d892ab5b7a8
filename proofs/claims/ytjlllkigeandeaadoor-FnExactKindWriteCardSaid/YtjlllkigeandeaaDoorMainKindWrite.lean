/- For every schema that comes in, KindWrite answers as the specification's KindWrite does and leaves its argument as it was: the law FnExactKindWrite returns true, and its argument reads behind the call as it read before.
   Conditions: those of the given card alone (the table kindWords starts as the program's text lays it; the card ties that). -/
import Derived.Test.YtjlllkigeandeaaDoorCards
import Derived.Test.YtjlllkigeandeaaDoorTie
import Derived.Test.YtjlllkigeandeaaDoorWLawW
import Derived.Test.YtjlllkigeandeaaDoorOpenK
import Derived.Test.YtjlllkigeandeaaDoorLaidW
import Derived.Deep.DeepHandedRow
import Derived.Lib.LaidTab
namespace Go.Proofs.YtjlllkigeandeaaDoor
open Go.ChangeShapes Go.WideShapes Go.ChangeAt Go.RowKit

theorem own : ownKnob Tryd.prog.godebug = none := by kernel_rfl
theorem laidOut : laidOutB Tryd.prog = true := by kernel_rfl
theorem readKind : Tryd.prog.readableRec 37 = true := by kernel_rfl
theorem rowKind : 37 < Tryd.prog.types.size := of_decide_eq_true (by kernel_rfl)
theorem readWords : Tryd.prog.readableRec 86 = true := by kernel_rfl
theorem rowWords : 86 < Tryd.prog.types.size := of_decide_eq_true (by kernel_rfl)

set_option maxRecDepth 100000 in
/-- What the walk gives, for every argument and every world that holds the table. -/
theorem kindWrite_contract (H : Type) (enc : TypeId × Value → H) (W : World) (base : Nat) (args : Array Value) (ds gs : List (DataW H)) (before : List MemPlace)
    (hval : ∀ (j : Nat) t v, Tryd.f5.params[j]? = some t → args[j]? = some v → Value.okWide Tryd.prog W .any base t v)
    (hW : DataW.Whole enc Tryd.prog Tryd.f5.params.toList Rows.fnExactKindWriteSpec.vars false W args.toList ds gs before) (hL : laidMetH Tryd.prog Rows.fnExactKindWriteRow.laid W) :
    Calls Tryd.prog 5 args W fun e W' => ∃ v, e = .returned v ∧ Rows.fnExactKindWriteSpec.post enc Tryd.prog Tryd.f5 false true false false W args v W' := by
  have hW' := hW
  have hlt := hW.lt
  obtain ⟨p, q, hA0, hV, hpq, hfz, hnd⟩ := hW
  have hA : DataW.TrodAll enc Tryd.prog W 0 (fun _ => true) true Tryd.f5.params.toList args.toList ds p := hA0
  rw [Tryd.params5] at hA hval
  obtain ⟨v0, vs0, d0, ds0, p0, q0, hargs, hds, hp, h0, r0⟩ := trodAll_cons hA
  obtain ⟨hvs, hds0, hq0⟩ := trodAll_nil r0
  subst hvs hds0 hq0
  obtain rfl : args = #[v0] := by cases args; simp_all
  subst hds
  obtain ⟨g, tg, cs, fuel, dg, pg, rfl, hg, htg, hv, hdg, hqg⟩ := trodVars_one hV
  obtain rfl := Option.some.inj (gWords.symm.trans hg)
  obtain rfl := Option.some.inj (gWordsType.symm.trans htg)
  obtain ⟨acs, hv0, hsz⟩ := okWide_struct Tryd.underlying37 (hval 0 37 v0 rfl rfl)
  have h0k := h0
  obtain ⟨fl, hf⟩ := h0
  subst hv0
  obtain ⟨t, c, hcs, hrep⟩ := krep_of_trod fl _ _ hf
  have hacs : acs = #[c.c0, c.c1, c.c2] := by
    have : acs.toList = [c.c0, c.c1, c.c2] := by simpa [Value.cells] using hcs
    exact Array.toList_inj.1 (by simpa using this)
  subst hacs
  refine (lawKindWrite_any t (fun b => b < W.heap.size) c W (fun b hb => hb) hrep (ktab_of_laid hL)).mono fun e W' ⟨he, hb⟩ => ?_
  subst he
  have hltp : ∀ x ∈ p0, x.block < W.heap.size := fun x hx => hlt x (by rw [hpq, hp]; simp [hx])
  have hltq : ∀ x ∈ q, x.block < W.heap.size := fun x hx => hlt x (by rw [hpq]; simp [hx])
  refine ⟨_, rfl, _, _, before, [], p0, q, hW', ?_, ?_, ?_, hb.frame _, fun h => by cases h⟩
  · exact trodAll_mk1 (shut_bool Tryd.underlying4 true)
  · exact trodAll_mk1 (hb.trod laidOut readKind rowKind h0k hltp)
  · have hT := ktab_of_laid hL
    have hsi : W.Since W.heap.size W' := ⟨hb.os, hb.tape, hb.output, hb.size, hb.block⟩
    rw [hqg]
    refine trodVars_mk1 hg htg ((hsi.var hg hT.lt).trans hv) (DataW.trod_stays (kids_book laidOut readWords) (book_sized readWords) (fun h => by cases h) ⟨rowWords, book_self _⟩ hdg (fun x hx => hb.same ?_) (fun x hx => ?_))
    · exact hltq x (by rw [hqg]; simp [hx])
    · simpa using hltq x (by rw [hqg]; simp [hx])

/-- A world for the witness: the settled one, the table (block 0) holding what its initialiser lays. -/
noncomputable def laidWorld (os : Os) : World :=
  { World.holding Tryd.prog os ⟨#[], #[], []⟩ with heap := (World.holding Tryd.prog os ⟨#[], #[], []⟩).heap.modify 0 fun
      | .cells _ t frozen => .cells #[.string ByteArray.empty, .string ⟨#[110, 117, 109]⟩, .string ⟨#[116, 101, 120, 116]⟩, .string ⟨#[102, 108, 97, 103]⟩] t frozen
      | o => o }
def zeroKind : Value := .agg #[.int .i64 0, .slice none 0 0, .slice none 0 0]
theorem laid_met (os : Os) : laidMet Tryd.prog Rows.fnExactKindWriteRow.laid ((laidWorld os).forCall (fun _ _ => 0) ⟨#[], #[zeroKind], []⟩).memory :=
  laidMet_of_run' 8 (by kernel_rfl) (by kernel_rfl)
theorem reads (os : Os) {H : Type} (enc : TypeId × Value → H) : ∃ places, DataW.whole enc Tryd.prog ((laidWorld os).forCall (fun _ _ => 0) ⟨#[], #[zeroKind], []⟩).memory Tryd.f5.params.toList Rows.fnExactKindWriteSpec.vars false #[zeroKind].toList 8 =
    some ([.agg [.lit (.int .i64 0), .nil, .nil]], [Rows.laid_loop_example_teagle_impl_kindWords], places) :=
  ⟨MemPlace.row ⟨0, 0, none⟩ 4, by kernel_rfl⟩

set_option maxRecDepth 100000 in
theorem kindWrite_lifted (os : Os) (started : os.Started) (H : Type) (enc : TypeId × Value → H) (F : Stop.Interp) :
    ReturnsInHanded {} Tryd.checked os 5 .any ((OpenSpec.ofChange Rows.fnExactKindWriteSpec).preRow enc Tryd.prog Tryd.f5 Rows.fnExactKindWriteRow.domain false Rows.fnExactKindWriteRow.laid) (((OpenSpec.ofChange Rows.fnExactKindWriteSpec).at F).post enc Tryd.prog Tryd.f5 false true false false) := by
  obtain ⟨places, hx⟩ := reads os enc
  refine returnsInHanded_of_row (C := Tryd.checked) (s := OpenSpec.ofChange Rows.fnExactKindWriteSpec) own started (by kernel_rfl) Tryd.func5
    (witness_row_at (enc := enc) (C := Tryd.checked) false (laidWorld os) #[zeroKind] rfl (by kernel_rfl) (by kernel_rfl) (by kernel_rfl)
      (OpenSpec.preRow_of_cond 8 hx (by kernel_rfl) (fun k hk => by cases hk) (by kernel_rfl) (laid_met os))) ?_
  intro W base args ds gs before hval hW _ _ _ hL _ _
  exact kindWrite_contract H enc W base args ds gs before hval hW hL

theorem kindWrite_said : Rows.FnExactKindWriteSaid :=
  OpenClaim.holds_of_cond 5 Tryd.f5 rfl rfl rfl rfl rfl rfl rfl ⟨rfl, rfl, rfl, rfl, rfl⟩ rfl rfl rfl rfl rfl (by kernel_rfl) Tryd.func5 (by kernel_rfl)
    (of_decide_eq_true (by kernel_rfl)) (by unfold Func.isWrapper; first | (rw [if_pos (by decide +kernel)]; kernel_rfl) | (rw [if_neg (by decide +kernel)]; exact ⟨rfl, rfl⟩))
    (fun os started H enc _ F => by rw [OpenClaim.pre_eq_preRow]; exact kindWrite_lifted os started H enc F)

theorem kindWrite_plain (f : FuncId) (fn : Func) (hf : Tryd.pinned.checked.prog.funcNamed "loop.example/teagle/laws.FnExactKindWrite" = some f) (hfn : Tryd.pinned.checked.prog.funcs[f]? = some fn) :
    false = Tryd.pinned.checked.prog.looks [] ∧ ∀ (j : Nat) t, fn.params[j]? = some t → Tryd.pinned.checked.prog.wantsStandIn t = false := by
  obtain rfl : f = 5 := Option.some.inj ((show Tryd.prog.funcNamed "loop.example/teagle/laws.FnExactKindWrite" = some 5 by kernel_rfl).symm.trans hf) |>.symm
  obtain rfl : fn = Tryd.f5 := (Option.some.inj (Tryd.func5.symm.trans hfn)).symm
  refine ⟨by kernel_rfl, fun j t ht => ?_⟩
  rw [Tryd.params5] at ht
  obtain rfl : t = 37 := by simpa using Array.mem_of_getElem? ht
  exact (show Tryd.prog.wantsStandIn 37 = false by kernel_rfl)

/-- The card. -/
theorem kindWrite_card : Rows.FnExactKindWriteCardSaid :=
  Claim7.holds_tied_plain_at .later [] _ _ _ _ kindWrite_said (fun _ h => by cases h) (by kernel_rfl) (fun _ h => by cases h) fnExactKindWrite_row_tie rfl ⟨rfl, rfl⟩ (by kernel_rfl) rfl kindWrite_plain (by kernel_rfl)
end Go.Proofs.YtjlllkigeandeaaDoor
