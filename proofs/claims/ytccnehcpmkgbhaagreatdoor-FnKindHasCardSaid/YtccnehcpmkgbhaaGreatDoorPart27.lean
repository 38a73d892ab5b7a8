/- Writing and reading do not change of what schema a tree is: whatever bytes come in, of the schema and the tree that are drawn from them KindHas answers as the specification does; and where it says yes the tree and the schema, written and read back, are read, and KindHas says yes of them too: the law FnKindHas returns true, and its argument reads behind the call as it read before.
   Conditions: those of the given card alone (the tables and errors of strconv, and the tables treeFields and kindWords, start as their texts lay them; the card ties that). -/
import Derived.Test.YtccnehcpmkgbhaaGreatDoorCards
import Derived.Test.YtccnehcpmkgbhaaGreatDoorTie
import Derived.Test.YtccnehcpmkgbhaaGreatDoorPart26
import Derived.Deep.DeepHandedRow
import Derived.Deep.DeepLaidRun
namespace Go.Proofs.YtccnehcpmkgbhaaGreatDoor
open Go.ChangeShapes Go.WideShapes Go.ChangeAt Go.RowKit
theorem own : ownKnob Tryz.prog.godebug = none := by kernel_rfl
theorem laidOut : laidOutB Tryz.prog = true := by kernel_rfl
theorem readBytes : Tryz.prog.readableRec 22 = true := by kernel_rfl
theorem readTab : Tryz.prog.readableRec 156 = true := by kernel_rfl
theorem rowTab : 156 < Tryz.prog.types.size := of_decide_eq_true (by kernel_rfl)
theorem readWords : Tryz.prog.readableRec 123 = true := by kernel_rfl
theorem rowWords : 123 < Tryz.prog.types.size := of_decide_eq_true (by kernel_rfl)
theorem rowBytes : 22 < Tryz.prog.types.size := of_decide_eq_true (by kernel_rfl)
set_option maxRecDepth 100000 in
theorem kindHasP_contract (H : Type) (enc : TypeId × Value → H) (W : World) (base : Nat) (args : Array Value) (ds gs : List (DataW H)) (before : List MemPlace)
 (hval : ∀ (j : Nat) t v, Tryz.f3.params[j]? = some t → args[j]? = some v → Value.okWide Tryz.prog W .any base t v)
 (hW : DataW.Whole enc Tryz.prog Tryz.f3.params.toList Rows.fnKindHasSpec.vars false W args.toList ds gs before) (hL : laidMetH Tryz.prog Rows.fnKindHasRow.laid W) :
 Calls Tryz.prog 3 args W fun e W' => ∃ v, e = .returned v ∧ Rows.fnKindHasSpec.post enc Tryz.prog Tryz.f3 false true false false W args v W' := by
 have hW' := hW
 have hlt := hW.lt
 obtain ⟨p, q, hA0, hV, hpq, hfz, hnd⟩ := hW
 have hA : DataW.TrodAll enc Tryz.prog W 0 (fun _ => true) true Tryz.f3.params.toList args.toList ds p := hA0
 rw [Tryz.params3] at hA hval
 obtain ⟨v0, vs0, d0, ds0, p0, q0, hargs, hds, hp, h0, r0⟩ := trodAll_cons hA
 obtain ⟨hvs, hds0, hq0⟩ := trodAll_nil r0
 subst hvs hds0 hq0
 obtain rfl : args = #[v0] := by cases args; simp_all
 subst hds
 obtain ⟨g, tg, cs, fuel, dg, pg, g2, tg2, cs2, fuel2, dg2, pg2, rfl, hg, htg, hv, hdg, hg2, htg2, hv2, hdg2, hqg⟩ := trodVars_two hV
 obtain rfl := Option.some.inj (gTab.symm.trans hg)
 obtain rfl := Option.some.inj (gTabType.symm.trans htg)
 obtain rfl := Option.some.inj (gWords.symm.trans hg2)
 obtain rfl := Option.some.inj (gWordsType.symm.trans htg2)
 obtain ⟨a0, len0, cap0, hv0⟩ := okWide_slice Tryz.underlying22 (hval 0 22 v0 rfl rfl)
 have h0k := h0
 obtain ⟨fl, hf⟩ := h0
 subst hv0
 have hcap := bytes_cap hf
 obtain ⟨l, hby⟩ := bytes_of_trod hf
 obtain rfl : len0 = l.length := by obtain ⟨_, _, e, -⟩ := hby; simp only [Value.slice.injEq] at e; exact e.2.1
 have hEnv : Env W := env_of_laid (hL.filter (fun x => x.1 != "loop.example/teagle/impl.treeFields" && x.1 != "loop.example/teagle/impl.kindWords"))
 have hTab : Tab W := tab_of_laid (hL.filter (fun x => x.1 == "loop.example/teagle/impl.treeFields"))
 have hKT : KTab W := ktab_of_laid (hL.filter (fun x => x.1 == "loop.example/teagle/impl.kindWords"))
 refine (lawKindHasP_any W a0 cap0 l hby hcap hEnv hTab hKT).mono fun e W' ⟨he, hb⟩ => ?_
 subst he
 have hltp : ∀ x ∈ p0, x.block < W.heap.size := fun x hx => hlt x (by rw [hpq, hp]; simp [hx])
 have hltq : ∀ x ∈ q, x.block < W.heap.size := fun x hx => hlt x (by rw [hpq]; simp [hx])
 refine ⟨_, rfl, _, _, before, [], p0, q, hW', ?_, ?_, ?_, hb.frame _, fun h => by cases h⟩
 · exact trodAll_mk1 (shut_bool Tryz.underlying4 true)
 · exact trodAll_mk1 (hb.trod laidOut readBytes rowBytes h0k hltp)
 · have hsi : W.Since W.heap.size W' := ⟨hb.os, hb.tape, hb.output, hb.size, hb.block⟩
   rw [hqg]
   refine ⟨_, _, _, _, _, _, hg, htg, (hsi.var hg hTab.lt).trans hv, DataW.trod_stays (kids_book laidOut readTab) (book_sized readTab) (fun h => by cases h) ⟨rowTab, book_self _⟩ hdg (fun x hx => hb.same ?_) (fun x hx => ?_), trodVars_mk1 hg2 htg2 ((hsi.var hg2 hKT.lt).trans hv2) (DataW.trod_stays (kids_book laidOut readWords) (book_sized readWords) (fun h => by cases h) ⟨rowWords, book_self _⟩ hdg2 (fun x hx => hb.same ?_) (fun x hx => ?_)), rfl⟩
   · exact hltq x (by rw [hqg]; simp [hx])
   · simpa using hltq x (by rw [hqg]; simp [hx])
   · exact hltq x (by rw [hqg]; simp [hx])
   · simpa using hltq x (by rw [hqg]; simp [hx])
def putCells (cs : Array Value) : Obj → Obj
 | .cells _ t frozen => .cells cs t frozen
 | o => o
def u8s (l : List Int) : Array Value := (l.map fun z => Value.int .u8 z).toArray
def u64s (l : List Int) : Array Value := (l.map fun z => Value.int .u64 z).toArray
def bits32 : List Int := [0, 1, 28, 2, 29, 14, 24, 3, 30, 22, 20, 15, 25, 17, 4, 8, 31, 27, 13, 23, 21, 19, 16, 7, 26, 12, 18, 6, 11, 5, 10, 9]
def bits64 : List Int := [0, 1, 56, 2, 57, 49, 28, 3, 61, 58, 42, 50, 38, 29, 17, 4, 62, 47, 59, 36, 45, 43, 51, 22, 53, 39, 33, 30, 24, 18, 12, 5, 63, 55, 48, 27, 60, 41, 37, 16, 46, 35, 44, 21, 52, 32, 23, 11, 54, 26, 40, 15, 34, 20, 31, 10, 25, 14, 19, 9, 13, 8, 7, 6]
def rangeText : ByteArray := ⟨#[118, 97, 108, 117, 101, 32, 111, 117, 116, 32, 111, 102, 32, 114, 97, 110, 103, 101]⟩
def syntaxText : ByteArray := ⟨#[105, 110, 118, 97, 108, 105, 100, 32, 115, 121, 110, 116, 97, 120]⟩
noncomputable def laidWorld (os : Os) : World :=
 { World.holding Tryz.prog os ⟨#[], #[], []⟩ with heap := (((((((((World.holding Tryz.prog os ⟨#[], #[], []⟩).heap.modify 1 (putCells (tbl.map Value.bool).toArray)).modify 0 (putCells #[.string ⟨#[]⟩, .string ⟨#[110, 117, 109]⟩, .string ⟨#[116, 101, 120, 116]⟩, .string ⟨#[102, 108, 97, 103]⟩])).modify 5 (putCells (u8s bits32))).modify 6 (putCells (u8s bits64))).modify 4 (putCells (u64s Lib.pow10Tab))).modify 3 (putCells #[.iface 180 (.pointer (some ⟨(World.holding Tryz.prog os ⟨#[], #[], []⟩).heap.size, 0, none⟩))])).modify 2 (putCells #[.iface 180 (.pointer (some ⟨(World.holding Tryz.prog os ⟨#[], #[], []⟩).heap.size + 1, 0, none⟩))])).push (.cells #[.string rangeText] 182 (0, 0))).push (.cells #[.string syntaxText] 182 (0, 0)) }
def zeroBytes : Value := .slice none 0 0
theorem laid_met (os : Os) : laidMet Tryz.prog Rows.fnKindHasRow.laid ((laidWorld os).forCall (fun _ _ => 0) ⟨#[], #[zeroBytes], []⟩).memory :=
 laidMet_of_run3 8 (by kernel_rfl) (by kernel_rfl) (by kernel_rfl)
theorem reads (os : Os) {H : Type} (enc : TypeId × Value → H) : ∃ places, DataW.whole enc Tryz.prog ((laidWorld os).forCall (fun _ _ => 0) ⟨#[], #[zeroBytes], []⟩).memory Tryz.f3.params.toList Rows.fnKindHasSpec.vars false #[zeroBytes].toList 8 =
 some ([.nil], [Rows.laid_loop_example_teagle_impl_treeFields, Rows.laid_loop_example_teagle_impl_kindWords], places) :=
 ⟨MemPlace.row ⟨1, 0, none⟩ 28 ++ MemPlace.row ⟨0, 0, none⟩ 4, by kernel_rfl⟩
set_option maxRecDepth 100000 in
theorem kindHasP_lifted (os : Os) (started : os.Started) (H : Type) (enc : TypeId × Value → H) (F : Stop.Interp) :
 ReturnsInHanded {} Tryz.checked os 3 .any ((OpenSpec.ofChange Rows.fnKindHasSpec).preRow enc Tryz.prog Tryz.f3 Rows.fnKindHasRow.domain false Rows.fnKindHasRow.laid) (((OpenSpec.ofChange Rows.fnKindHasSpec).at F).post enc Tryz.prog Tryz.f3 false true false false) := by
 obtain ⟨places, hx⟩ := reads os enc
 refine returnsInHanded_of_row (C := Tryz.checked) (s := OpenSpec.ofChange Rows.fnKindHasSpec) own started (by kernel_rfl) Tryz.func3
  (witness_row_at (enc := enc) (C := Tryz.checked) false (laidWorld os) #[zeroBytes] rfl (by kernel_rfl) (by kernel_rfl) (by kernel_rfl)
    (OpenSpec.preRow_of_cond 8 hx (by kernel_rfl) (fun k hk => by cases hk) (by kernel_rfl) (laid_met os))) ?_
 intro W base args ds gs before hval hW _ _ _ hL _ _
 exact kindHasP_contract H enc W base args ds gs before hval hW hL
theorem kindHasP_said : Rows.FnKindHasSaid :=
 OpenClaim.holds_of_cond 3 Tryz.f3 rfl rfl rfl rfl rfl rfl rfl ⟨rfl, rfl, rfl, rfl, rfl⟩ rfl rfl rfl rfl rfl (by kernel_rfl) Tryz.func3 (by kernel_rfl)
  (of_decide_eq_true (by kernel_rfl)) (by unfold Func.isWrapper; first | (rw [if_pos (by decide +kernel)]; kernel_rfl) | (rw [if_neg (by decide +kernel)]; exact ⟨rfl, rfl⟩))
  (fun os started H enc _ F => by rw [OpenClaim.pre_eq_preRow]; exact kindHasP_lifted os started H enc F)
theorem kindHasP_plain (f : FuncId) (fn : Func) (hf : Tryz.pinned.checked.prog.funcNamed "loop.example/teagle/laws.FnKindHas" = some f) (hfn : Tryz.pinned.checked.prog.funcs[f]? = some fn) :
 true = Tryz.pinned.checked.prog.looks [] ∧ ∀ (j : Nat) t, fn.params[j]? = some t → Tryz.pinned.checked.prog.wantsStandIn t = false := by
 obtain rfl : f = 3 := Option.some.inj ((show Tryz.prog.funcNamed "loop.example/teagle/laws.FnKindHas" = some 3 by kernel_rfl).symm.trans hf) |>.symm
 obtain rfl : fn = Tryz.f3 := (Option.some.inj (Tryz.func3.symm.trans hfn)).symm
 refine ⟨by kernel_rfl, fun j t ht => ?_⟩
 rw [Tryz.params3] at ht
 obtain rfl : t = 22 := by simpa using Array.mem_of_getElem? ht
 exact (show Tryz.prog.wantsStandIn 22 = false by kernel_rfl)
theorem kindHasP_card : Rows.FnKindHasCardSaid :=
 Claim7.holds_tied_plain_at .later [] _ _ _ _ kindHasP_said (fun _ h => by cases h) (by kernel_rfl) (fun _ h => by cases h) fnKindHas_row_tie rfl ⟨rfl, rfl⟩ (by kernel_rfl) rfl kindHasP_plain (by kernel_rfl)
end Go.Proofs.YtccnehcpmkgbhaaGreatDoor
