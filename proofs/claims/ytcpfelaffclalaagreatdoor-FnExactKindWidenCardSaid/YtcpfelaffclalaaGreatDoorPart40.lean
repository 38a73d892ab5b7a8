/- For every two schemas and every tree that come in, KindWiden answers as the specification's KindWiden does, in memory of its own, and leaves its arguments as they were: the law FnExactKindWiden returns true, and its arguments read behind the call as they read before.
   Conditions: those of the given card alone (the library's errors.errorType and the table treeFields start as their texts lay them; the card ties that). -/
import Derived.Test.YtcpfelaffclalaaGreatDoorCards
import Derived.Test.YtcpfelaffclalaaGreatDoorTie
import Derived.Test.YtcpfelaffclalaaGreatDoorPart24
import Derived.Test.YtcpfelaffclalaaGreatDoorPart32
import Derived.Test.YtcpfelaffclalaaGreatDoorPart38
import Derived.Test.YtcpfelaffclalaaGreatDoorPart39
import Derived.Deep.DeepHandedRow
import Derived.LaidLaws
import Derived.LaidHandle
import Derived.Lib.LaidTab
import Derived.Stop.Joined
namespace Go.Proofs.YtcpfelaffclalaaGreatDoor
open Go.ChangeShapes Go.WideShapes Go.ChangeAt Go.RowKit

theorem own : ownKnob Tryz.prog.godebug = none := by kernel_rfl
theorem laidOut : laidOutB Tryz.prog = true := by kernel_rfl
theorem readKind : Tryz.prog.readableRec 25 = true := by kernel_rfl
theorem rowKind : 25 < Tryz.prog.types.size := of_decide_eq_true (by kernel_rfl)
theorem readTree : Tryz.prog.readableRec 35 = true := by kernel_rfl
theorem rowTree : 35 < Tryz.prog.types.size := of_decide_eq_true (by kernel_rfl)
theorem readTab : Tryz.prog.readableRec 192 = true := by kernel_rfl
theorem rowTab : 192 < Tryz.prog.types.size := of_decide_eq_true (by kernel_rfl)

theorem etG : Tryz.prog.globalNamed "errors.errorType" = some 0 := by kernel_rfl
theorem rtG : (Tryz.prog.cutTypes.find? (·.1 == "internal/reflectlite.rtype")).map (·.2) = some 163 := by kernel_rfl
theorem oneRow : ((List.range Tryz.prog.types.size).filter fun t => Tryz.prog.rowNamed t [101, 114, 114, 111, 114]) = [89] := by kernel_rfl
/-- What the card's condition gives: the variable's one cell. -/
theorem handle_of_laid {W : World} (h : laidMetH Tryz.prog [("errors.errorType", Rows.laid_errors_errorType)] W) : ErrT W := by
  have h' : laidMet Tryz.prog [] W ∧ handlesMet Tryz.prog [("errors.errorType", Rows.laid_errors_errorType)] W := h
  obtain ⟨name, u, ty, e1, e2, e3, e4, e5⟩ := h'.2 _ (List.mem_singleton.2 rfl)
  have en : name = [101, 114, 114, 111, 114] := (Option.some.inj e1).symm
  subst en
  obtain rfl := Option.some.inj (rtG.symm.trans e2)
  have hm : ty ∈ (List.range Tryz.prog.types.size).filter fun t => Tryz.prog.rowNamed t [101, 114, 114, 111, 114] := List.mem_filter.2 ⟨List.mem_range.2 e3, e4⟩
  rw [oneRow] at hm
  obtain rfl := List.mem_singleton.1 hm
  have hh : typeHandle Tryz.prog 89 = .pointer (some ⟨2, 89, none⟩) := by kernel_rfl
  rw [hh] at e5
  have h9 := World.var?_cell etG e5 0
  unfold ErrT
  simpa using h9

set_option maxRecDepth 100000 in
/-- What the walk gives, for every argument and every world that holds the table. -/
theorem kindWiden_contract (H : Type) (enc : TypeId × Value → H) (W : World) (base : Nat) (args : Array Value) (ds gs : List (DataW H)) (before : List MemPlace)
    (hval : ∀ (j : Nat) t v, Tryz.f4.params[j]? = some t → args[j]? = some v → Value.okWide Tryz.prog W .any base t v)
    (hW : DataW.Whole enc Tryz.prog Tryz.f4.params.toList Rows.fnExactKindWidenSpec.vars false W args.toList ds gs before) (hL : laidMetH Tryz.prog Rows.fnExactKindWidenRow.laid W) :
    Calls Tryz.prog 4 args W fun e W' => ∃ v, e = .returned v ∧ Rows.fnExactKindWidenSpec.post enc Tryz.prog Tryz.f4 false true false false W args v W' := by
  have hW' := hW
  have hlt := hW.lt
  obtain ⟨p, q, hA0, hV, hpq, hfz, hnd⟩ := hW
  have hA : DataW.TrodAll enc Tryz.prog W 0 (fun _ => true) true Tryz.f4.params.toList args.toList ds p := hA0
  rw [Tryz.params4] at hA hval
  obtain ⟨v0, vs0, d0, ds0, p0, q0, hargs, hds, hp, h0, r0⟩ := trodAll_cons hA
  obtain ⟨v1, vs1, d1, ds1, p1, q1, hargs1, hds1, hp1, h1, r1⟩ := trodAll_cons r0
  obtain ⟨v2, vs2, d2, ds2, p2, q2, hargs2, hds2, hp2, h2, r2⟩ := trodAll_cons r1
  obtain ⟨hvs, hds0, hq0⟩ := trodAll_nil r2
  subst hvs hds0 hq0 hargs2 hds2 hargs1 hds1
  obtain rfl : args = #[v0, v1, v2] := by cases args; simp_all
  subst hds
  obtain ⟨g, tg, cs, fuel, dg, pg, rfl, hg, htg, hv, hdg, hqg⟩ := trodVars_one hV
  obtain rfl := Option.some.inj (gTab.symm.trans hg)
  obtain rfl := Option.some.inj (gTabType.symm.trans htg)
  obtain ⟨acs, hv0, hsz⟩ := okWide_struct Tryz.underlying25 (hval 0 25 v0 rfl rfl)
  obtain ⟨acs1, hv1, hsz1⟩ := okWide_struct Tryz.underlying25 (hval 1 25 v1 rfl rfl)
  obtain ⟨acs2, hv2, hsz2⟩ := okWide_struct Tryz.underlying35 (hval 2 35 v2 rfl rfl)
  have h0k := h0
  have h1k := h1
  have h2k := h2
  obtain ⟨fl, hf⟩ := h0
  obtain ⟨fl1, hf1⟩ := h1
  obtain ⟨fl2, hf2⟩ := h2
  subst hv0 hv1 hv2
  obtain ⟨k, c, hcs, hrep⟩ := krep_of_trod fl _ _ hf
  obtain ⟨m, d, hcs1, hrep1⟩ := krep_of_trod fl1 _ _ hf1
  obtain ⟨t, x, hcs2, hrep2⟩ := rep_of_trod fl2 _ _ hf2
  have hacs : acs = #[c.c0, c.c1, c.c2] := by
    have : acs.toList = [c.c0, c.c1, c.c2] := by simpa [Value.cells] using hcs
    exact Array.toList_inj.1 (by simpa using this)
  have hacs1 : acs1 = #[d.c0, d.c1, d.c2] := by
    have : acs1.toList = [d.c0, d.c1, d.c2] := by simpa [Value.cells] using hcs1
    exact Array.toList_inj.1 (by simpa using this)
  have hacs2 : acs2 = #[x.c0, x.c1, x.c2, x.c3, x.c4] := by
    have : acs2.toList = [x.c0, x.c1, x.c2, x.c3, x.c4] := by simpa [Value.cells] using hcs2
    exact Array.toList_inj.1 (by simpa using this)
  subst hacs hacs1 hacs2
  have hE : ErrT W := handle_of_laid (hL.filter (fun x => x.1 == "errors.errorType"))
  have hT : Tab W := tab_of_laid (hL.filter (fun x => x.1 == "loop.example/teagle/impl.treeFields"))
  refine (lawKindWiden_of k m t (fun b => b < W.heap.size) c d x W (fun b hb => hb) hrep hrep1 hrep2
    (fun c d x V hV hr hr2 hr3 hwt hwt2 => implKindWiden_any k m t _ _ _ c d x V (hE.on hV) (hT.on hV) (fun _ h => h) (fun _ h => h) (fun _ h => h) hr hr2 hr3 hwt hwt2)
    (fun c d x V hr hr2 hr3 => specKindWiden_any k m t _ _ _ c d x V (fun _ h => h) (fun _ h => h) (fun _ h => h) hr hr2 hr3)).mono fun e W' ⟨he, hb⟩ => ?_
  subst he
  have hltp : ∀ x ∈ p0, x.block < W.heap.size := fun x hx => hlt x (by rw [hpq, hp]; simp [hx])
  have hltp1 : ∀ x ∈ p1, x.block < W.heap.size := fun x hx => hlt x (by rw [hpq, hp, hp1]; simp [hx])
  have hltp2 : ∀ x ∈ p2, x.block < W.heap.size := fun x hx => hlt x (by rw [hpq, hp, hp1, hp2]; simp [hx])
  have hltq : ∀ x ∈ q, x.block < W.heap.size := fun x hx => hlt x (by rw [hpq]; simp [hx])
  refine ⟨_, rfl, _, _, before, [], p0 ++ (p1 ++ p2), q, hW', ?_, ?_, ?_, hb.frame _, fun h => by cases h⟩
  · exact trodAll_mk1 (shut_bool Tryz.underlying4 true)
  · exact trodAll_mk3 (hb.trod laidOut readKind rowKind h0k hltp) (hb.trod laidOut readKind rowKind h1k hltp1) (hb.trod laidOut readTree rowTree h2k hltp2)
  · have hsi : W.Since W.heap.size W' := ⟨hb.os, hb.tape, hb.output, hb.size, hb.block⟩
    rw [hqg]
    refine trodVars_mk1 hg htg ((hsi.var hg hT.lt).trans hv) (DataW.trod_stays (kids_book laidOut readTab) (book_sized readTab) (fun h => by cases h) ⟨rowTab, book_self _⟩ hdg (fun x hx => hb.same ?_) (fun x hx => ?_))
    · exact hltq x (by rw [hqg]; simp [hx])
    · simpa using hltq x (by rw [hqg]; simp [hx])

/-- A world for the witness: the settled one, the library's variable laid. -/
def errCell : Obj → Obj
  | .cells _ t frozen => .cells #[.iface 163 (.agg #[.pointer (some ⟨2, 89, none⟩)])] t frozen
  | o => o
def tabCell : Obj → Obj
  | .cells _ t frozen => .cells (tbl.map Value.bool).toArray t frozen
  | o => o
noncomputable def laidWorld (os : Os) : World :=
  { World.holding Tryz.prog os ⟨#[], #[], []⟩ with heap := ((World.holding Tryz.prog os ⟨#[], #[], []⟩).heap.modify 0 errCell).modify 1 tabCell }
def zeroTree : Value := .agg #[.int .i64 0, .int .i64 0, .string ByteArray.empty, .slice none 0 0, .slice none 0 0]
def zeroKind : Value := .agg #[.int .i64 0, .slice none 0 0, .slice none 0 0]
theorem laid_met (os : Os) : laidMetH Tryz.prog Rows.fnExactKindWidenRow.laid ((laidWorld os).forCall (fun _ _ => 0) ⟨#[], #[zeroKind, zeroKind, zeroTree], []⟩).memory :=
  laidMetH_of_parts (laidMet_of_run' 8 (by kernel_rfl) (by kernel_rfl)) (by kernel_rfl)
theorem reads (os : Os) {H : Type} (enc : TypeId × Value → H) : ∃ places, DataW.whole enc Tryz.prog ((laidWorld os).forCall (fun _ _ => 0) ⟨#[], #[zeroKind, zeroKind, zeroTree], []⟩).memory Tryz.f4.params.toList Rows.fnExactKindWidenSpec.vars false #[zeroKind, zeroKind, zeroTree].toList 8 =
    some ([.agg [.lit (.int .i64 0), .nil, .nil], .agg [.lit (.int .i64 0), .nil, .nil], .agg [.lit (.int .i64 0), .lit (.int .i64 0), .lit (.string []), .nil, .nil]], [Rows.laid_loop_example_teagle_impl_treeFields], places) :=
  ⟨MemPlace.row ⟨1, 0, none⟩ 28, by kernel_rfl⟩

set_option maxRecDepth 100000 in
theorem kindWiden_lifted (os : Os) (started : os.Started) (H : Type) (enc : TypeId × Value → H) (F : Stop.Interp) :
    ReturnsInHanded {} Tryz.checked os 4 .any ((OpenSpec.ofChange Rows.fnExactKindWidenSpec).preRow enc Tryz.prog Tryz.f4 Rows.fnExactKindWidenRow.domain false Rows.fnExactKindWidenRow.laid) (((OpenSpec.ofChange Rows.fnExactKindWidenSpec).at F).post enc Tryz.prog Tryz.f4 false true false false) := by
  obtain ⟨places, hx⟩ := reads os enc
  refine returnsInHanded_of_row (C := Tryz.checked) (s := OpenSpec.ofChange Rows.fnExactKindWidenSpec) own started (by kernel_rfl) Tryz.func4
    (witness_row_at (enc := enc) (C := Tryz.checked) false (laidWorld os) #[zeroKind, zeroKind, zeroTree] rfl (by kernel_rfl) (by kernel_rfl) (by kernel_rfl)
      (OpenSpec.preRow_of_cond 8 hx (by kernel_rfl) (fun k hk => by cases hk) (by kernel_rfl) (laid_met os))) ?_
  intro W base args ds gs before hval hW _ _ _ hL _ _
  exact kindWiden_contract H enc W base args ds gs before hval hW hL

theorem kindWiden_said : Rows.FnExactKindWidenSaid :=
  OpenClaim.holds_of_cond 4 Tryz.f4 rfl rfl rfl rfl rfl rfl rfl ⟨rfl, rfl, rfl, rfl, rfl⟩ rfl rfl rfl rfl rfl (by kernel_rfl) Tryz.func4 (by kernel_rfl)
    (of_decide_eq_true (by kernel_rfl)) (by unfold Func.isWrapper; first | (rw [if_pos (by decide +kernel)]; kernel_rfl) | (rw [if_neg (by decide +kernel)]; exact ⟨rfl, rfl⟩))
    (fun os started H enc _ F => by rw [OpenClaim.pre_eq_preRow]; exact kindWiden_lifted os started H enc F)

theorem kindWiden_plain (f : FuncId) (fn : Func) (hf : Tryz.pinned.checked.prog.funcNamed "loop.example/teagle/laws.FnExactKindWiden" = some f) (hfn : Tryz.pinned.checked.prog.funcs[f]? = some fn) :
    true = Tryz.pinned.checked.prog.looks [] ∧ ∀ (j : Nat) t, fn.params[j]? = some t → Tryz.pinned.checked.prog.wantsStandIn t = false := by
  obtain rfl : f = 4 := Option.some.inj ((show Tryz.prog.funcNamed "loop.example/teagle/laws.FnExactKindWiden" = some 4 by kernel_rfl).symm.trans hf) |>.symm
  obtain rfl : fn = Tryz.f4 := (Option.some.inj (Tryz.func4.symm.trans hfn)).symm
  refine ⟨by kernel_rfl, fun j t ht => ?_⟩
  rw [Tryz.params4] at ht
  have hm := Array.mem_of_getElem? ht
  simp only [List.mem_toArray, List.mem_cons, List.not_mem_nil, or_false] at hm
  rcases hm with rfl | rfl | rfl
  · exact (show Tryz.prog.wantsStandIn 25 = false by kernel_rfl)
  · exact (show Tryz.prog.wantsStandIn 25 = false by kernel_rfl)
  · exact (show Tryz.prog.wantsStandIn 35 = false by kernel_rfl)

/-- The card. -/
theorem kindWiden_card : Rows.FnExactKindWidenCardSaid :=
  Claim7.holds_tied_plain_at .later [] _ _ _ _ kindWiden_said (fun _ h => by cases h) (by kernel_rfl) (fun _ h => by cases h) fnExactKindWiden_row_tie rfl ⟨rfl, rfl⟩ (by kernel_rfl) rfl kindWiden_plain (by kernel_rfl)
end Go.Proofs.YtcpfelaffclalaaGreatDoor
