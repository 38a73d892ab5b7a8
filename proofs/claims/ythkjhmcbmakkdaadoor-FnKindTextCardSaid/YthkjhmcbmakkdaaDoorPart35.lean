/- The text of a schema: whatever bytes come in, of the schema that is drawn from them the program's text is the specification's, it is empty just if the schema is not ok, else it has at most 800 bytes and reads back as that schema; and the text that is drawn reads as the specification reads it, and what is read is ok and is written back as that text: the law FnKindText returns true, and its argument reads behind the call as it read before.
   Conditions: those of the given card alone (the table kindWords starts as the program's text lays it; the card ties that). -/
import Derived.Test.YthkjhmcbmakkdaaDoorCards
import Derived.Test.YthkjhmcbmakkdaaDoorTie
import Derived.Test.YthkjhmcbmakkdaaDoorPart33
import Derived.Test.YthkjhmcbmakkdaaDoorPart34
import Derived.Deep.DeepHandedRow
import Derived.Lib.LaidTab
namespace Go.Proofs.YthkjhmcbmakkdaaDoor
open Go.ChangeShapes Go.WideShapes Go.ChangeAt Go.RowKit

theorem own : ownKnob Tryd.prog.godebug = none := by kernel_rfl
theorem laidOut : laidOutB Tryd.prog = true := by kernel_rfl
theorem readBytes : Tryd.prog.readableRec 22 = true := by kernel_rfl
theorem rowBytes : 22 < Tryd.prog.types.size := of_decide_eq_true (by kernel_rfl)
theorem readWords : Tryd.prog.readableRec 90 = true := by kernel_rfl
theorem rowWords : 90 < Tryd.prog.types.size := of_decide_eq_true (by kernel_rfl)

set_option maxRecDepth 100000 in
/-- What the walk gives, for every argument and every world that holds the table. -/
theorem kindTextP_contract (H : Type) (enc : TypeId × Value → H) (W : World) (base : Nat) (args : Array Value) (ds gs : List (DataW H)) (before : List MemPlace)
    (hval : ∀ (j : Nat) t v, Tryd.f3.params[j]? = some t → args[j]? = some v → Value.okWide Tryd.prog W .any base t v)
    (hW : DataW.Whole enc Tryd.prog Tryd.f3.params.toList Rows.fnKindTextSpec.vars false W args.toList ds gs before) (hL : laidMetH Tryd.prog Rows.fnKindTextRow.laid W) :
    Calls Tryd.prog 3 args W fun e W' => ∃ v, e = .returned v ∧ Rows.fnKindTextSpec.post enc Tryd.prog Tryd.f3 false true false false W args v W' := by
  have hW' := hW
  have hlt := hW.lt
  obtain ⟨p, q, hA0, hV, hpq, hfz, hnd⟩ := hW
  have hA : DataW.TrodAll enc Tryd.prog W 0 (fun _ => true) true Tryd.f3.params.toList args.toList ds p := hA0
  rw [Tryd.params3] at hA hval
  obtain ⟨v0, vs0, d0, ds0, p0, q0, hargs, hds, hp, h0, r0⟩ := trodAll_cons hA
  obtain ⟨hvs, hds0, hq0⟩ := trodAll_nil r0
  subst hvs hds0 hq0
  obtain rfl : args = #[v0] := by cases args; simp_all
  subst hds
  obtain ⟨g, tg, cs, fuel, dg, pg, rfl, hg, htg, hv, hdg, hqg⟩ := trodVars_one hV
  obtain rfl := Option.some.inj (gWords.symm.trans hg)
  obtain rfl := Option.some.inj (gWordsType.symm.trans htg)
  obtain ⟨a0, len0, cap0, hv0⟩ := okWide_slice Tryd.underlying22 (hval 0 22 v0 rfl rfl)
  have h0k := h0
  obtain ⟨fl, hf⟩ := h0
  subst hv0
  have hcap := bytes_cap hf
  obtain ⟨l, hby⟩ := bytes_of_trod hf
  obtain rfl : len0 = l.length := by obtain ⟨_, _, e, -⟩ := hby; simp only [Value.slice.injEq] at e; exact e.2.1
  refine (lawText_any W a0 cap0 l hby hcap (ktab_of_laid hL)).mono fun e W' ⟨he, hb⟩ => ?_
  subst he
  have hltp : ∀ x ∈ p0, x.block < W.heap.size := fun x hx => hlt x (by rw [hpq, hp]; simp [hx])
  have hltq : ∀ x ∈ q, x.block < W.heap.size := fun x hx => hlt x (by rw [hpq]; simp [hx])
  refine ⟨_, rfl, _, _, before, [], p0, q, hW', ?_, ?_, ?_, hb.frame _, fun h => by cases h⟩
  · exact trodAll_mk1 (shut_bool Tryd.underlying4 true)
  · exact trodAll_mk1 (hb.trod laidOut readBytes rowBytes h0k hltp)
  · have hT := ktab_of_laid hL
    have hsi : W.Since W.heap.size W' := ⟨hb.os, hb.tape, hb.output, hb.size, hb.block⟩
    rw [hqg]
    refine trodVars_mk1 hg htg ((hsi.var hg hT.lt).trans hv) (DataW.trod_stays (kids_book laidOut readWords) (book_sized readWords) (fun h => by cases h) ⟨rowWords, book_self _⟩ hdg (fun x hx => hb.same ?_) (fun x hx => ?_))
    · exact hltq x (by rw [hqg]; simp [hx])
    · simpa using hltq x (by rw [hqg]; simp [hx])

/-- A world for the witness: the settled one, the table (block 0) holding what its initialiser lays. -/
noncomputable def laidWorld (os : Os) : World :=
  { World.holding Tryd.prog os ⟨#[], #[], []⟩ with heap := (World.holding Tryd.prog os ⟨#[], #[], []⟩).heap.modify 0 fun
      | .cells _ t frozen => .cells #[.string ByteArray.empty, .string ⟨#[110, 117, 109]⟩, .string ⟨#[116, 101, 120, 116]⟩, .string ⟨#[102, 108, 97, 103]⟩] t frozen
      | o => o }
def zeroBytes : Value := .slice none 0 0
theorem laid_met (os : Os) : laidMet Tryd.prog Rows.fnKindTextRow.laid ((laidWorld os).forCall (fun _ _ => 0) ⟨#[], #[zeroBytes], []⟩).memory :=
  laidMet_of_run' 8 (by kernel_rfl) (by kernel_rfl)
theorem reads (os : Os) {H : Type} (enc : TypeId × Value → H) : ∃ places, DataW.whole enc Tryd.prog ((laidWorld os).forCall (fun _ _ => 0) ⟨#[], #[zeroBytes], []⟩).memory Tryd.f3.params.toList Rows.fnKindTextSpec.vars false #[zeroBytes].toList 8 =
    some ([.nil], [Rows.laid_loop_example_teagle_impl_kindWords], places) :=
  ⟨MemPlace.row ⟨0, 0, none⟩ 4, by kernel_rfl⟩

set_option maxRecDepth 100000 in
theorem kindTextP_lifted (os : Os) (started : os.Started) (H : Type) (enc : TypeId × Value → H) (F : Stop.Interp) :
    ReturnsInHanded {} Tryd.checked os 3 .any ((OpenSpec.ofChange Rows.fnKindTextSpec).preRow enc Tryd.prog Tryd.f3 Rows.fnKindTextRow.domain false Rows.fnKindTextRow.laid) (((OpenSpec.ofChange Rows.fnKindTextSpec).at F).post enc Tryd.prog Tryd.f3 false true false false) := by
  obtain ⟨places, hx⟩ := reads os enc
  refine returnsInHanded_of_row (C := Tryd.checked) (s := OpenSpec.ofChange Rows.fnKindTextSpec) own started (by kernel_rfl) Tryd.func3
    (witness_row_at (enc := enc) (C := Tryd.checked) false (laidWorld os) #[zeroBytes] rfl (by kernel_rfl) (by kernel_rfl) (by kernel_rfl)
      (OpenSpec.preRow_of_cond 8 hx (by kernel_rfl) (fun k hk => by cases hk) (by kernel_rfl) (laid_met os))) ?_
  intro W base args ds gs before hval hW _ _ _ hL _ _
  exact kindTextP_contract H enc W base args ds gs before hval hW hL

theorem kindTextP_said : Rows.FnKindTextSaid :=
  OpenClaim.holds_of_cond 3 Tryd.f3 rfl rfl rfl rfl rfl rfl rfl ⟨rfl, rfl, rfl, rfl, rfl⟩ rfl rfl rfl rfl rfl (by kernel_rfl) Tryd.func3 (by kernel_rfl)
    (of_decide_eq_true (by kernel_rfl)) (by unfold Func.isWrapper; first | (rw [if_pos (by decide +kernel)]; kernel_rfl) | (rw [if_neg (by decide +kernel)]; exact ⟨rfl, rfl⟩))
    (fun os started H enc _ F => by rw [OpenClaim.pre_eq_preRow]; exact kindTextP_lifted os started H enc F)

theorem kindTextP_plain (f : FuncId) (fn : Func) (hf : Tryd.pinned.checked.prog.funcNamed "loop.example/teagle/laws.FnKindText" = some f) (hfn : Tryd.pinned.checked.prog.funcs[f]? = some fn) :
    false = Tryd.pinned.checked.prog.looks [] ∧ ∀ (j : Nat) t, fn.params[j]? = some t → Tryd.pinned.checked.prog.wantsStandIn t = false := by
  obtain rfl : f = 3 := Option.some.inj ((show Tryd.prog.funcNamed "loop.example/teagle/laws.FnKindText" = some 3 by kernel_rfl).symm.trans hf) |>.symm
  obtain rfl : fn = Tryd.f3 := (Option.some.inj (Tryd.func3.symm.trans hfn)).symm
  refine ⟨by kernel_rfl, fun j t ht => ?_⟩
  rw [Tryd.params3] at ht
  obtain rfl : t = 22 := by simpa using Array.mem_of_getElem? ht
  exact (show Tryd.prog.wantsStandIn 22 = false by kernel_rfl)

/-- The card. -/
theorem kindTextP_card : Rows.FnKindTextCardSaid :=
  Claim7.holds_tied_plain_at .later [] _ _ _ _ kindTextP_said (fun _ h => by cases h) (by kernel_rfl) (fun _ h => by cases h) fnKindText_row_tie rfl ⟨rfl, rfl⟩ (by kernel_rfl) rfl kindTextP_plain (by kernel_rfl)
end Go.Proofs.YthkjhmcbmakkdaaDoor
