/- For every disk, list of raw writes and act that come in, StoreDo answers as the specification's StoreDo does, in memory of its own, and leaves its arguments as they were: the law FnExactStoreDo returns true, and its arguments read behind the call as they read before.
   Conditions: those of the given row alone. -/
import Derived.Test.YtgdiankfnemjjaaGreatPart35
import Derived.Test.YtgdiankfnemjjaaGreatPart36
import Derived.Deep.DeepHandedRow
namespace Go.Proofs.YtgdiankfnemjjaaGreat
open Go.ChangeShapes Go.WideShapes Go.ChangeAt Go.RowKit Go.Deep

theorem own : ownKnob Tryz.prog.godebug = none := by kernel_rfl
theorem laidOut : laidOutB Tryz.prog = true := by kernel_rfl
theorem readDisk : Tryz.prog.readableRec 26 = true := by kernel_rfl
theorem rowDisk : 26 < Tryz.prog.types.size := of_decide_eq_true (by kernel_rfl)
def zeroDisk : Value := .agg #[.slice none 0 0, .slice none 0 0, .slice none 0 0]

theorem readWrites : Tryz.prog.readableRec 27 = true := by kernel_rfl
theorem rowWrites : 27 < Tryz.prog.types.size := of_decide_eq_true (by kernel_rfl)
theorem readAct : Tryz.prog.readableRec 30 = true := by kernel_rfl
theorem rowAct : 30 < Tryz.prog.types.size := of_decide_eq_true (by kernel_rfl)
theorem cellsWrite : Tryz.prog.cellsOf 57 = 3 := by kernel_rfl
theorem cellsAct : Tryz.prog.cellsOf 30 = 6 := by kernel_rfl
theorem oneWrite : ∃ fs : Array Field, Tryz.prog.underlying 57 = some (.struct fs) ∧ oneCellFields Tryz.prog fs = true ∧ fs.map (·.type) = #[3, 9, 9] := ⟨_, Tryz.underlying57, by kernel_rfl, by kernel_rfl⟩
theorem oneAct : ∃ fs : Array Field, Tryz.prog.underlying 30 = some (.struct fs) ∧ oneCellFields Tryz.prog fs = true ∧ fs.map (·.type) = #[3, 9, 4, 3, 3, 28] := ⟨_, Tryz.underlying30, by kernel_rfl, by kernel_rfl⟩
section
variable {H : Type} {enc : TypeId × Value → H} {W : World} {spare : Nat → Bool} {held : Bool}
theorem wr_of_trod (fuel : Nat) (l : List Value) (x : DataW H × List MemPlace) (h : DataW.trod enc Tryz.prog W 0 spare held fuel 57 l = some x) : ∃ e : Wr, l = e.cs ∧ e.okM := by
  obtain ⟨hl, n, hf⟩ := fields_of (k := 3) rfl oneWrite h
  rw [cellsWrite] at hl
  match l, hl with
  | [c0, c1, c2], _ =>
    obtain ⟨y0, h0⟩ := hf 0 _ (by omega) rfl
    obtain ⟨y1, h1⟩ := hf 1 _ (by omega) rfl
    obtain ⟨y2, h2⟩ := hf 2 _ (by omega) rfl
    simp only [List.drop_succ_cons, List.drop_zero, List.take_succ_cons, List.take_zero] at h0 h1 h2
    obtain ⟨k, e0, -, w0⟩ := DataW.trod_int Tryz.underlying3 h0
    obtain ⟨s1, e1, -, w1⟩ := DataW.trod_string Tryz.underlying9 h1
    obtain ⟨s2, e2, -, w2⟩ := DataW.trod_string Tryz.underlying9 h2
    simp only [List.cons.injEq, and_true] at e0 e1 e2
    subst e0 e1 e2
    unfold maxLen at w1 w2
    exact ⟨⟨k, s1, s2⟩, rfl, by simp only; omega, by simp only; omega⟩
theorem act_of_trod (fuel : Nat) (l : List Value) (x : DataW H × List MemPlace) (h : DataW.trod enc Tryz.prog W 0 spare held fuel 30 l = some x) : ∃ (a : Ac) (v : Value), l = [.int .i64 a.kind, .string a.data, .bool a.cuts, .int .i64 a.after, .int .i64 a.moves, v] ∧ ZsAt (fun b => b < W.heap.size) W v a.keep ∧ a.data.size ≤ 9223372036854775807 := by
  obtain ⟨hl, n, hf⟩ := fields_of (k := 6) rfl oneAct h
  rw [cellsAct] at hl
  match l, hl with
  | [c0, c1, c2, c3, c4, c5], _ =>
    obtain ⟨y0, h0⟩ := hf 0 _ (by omega) rfl
    obtain ⟨y1, h1⟩ := hf 1 _ (by omega) rfl
    obtain ⟨y2, h2⟩ := hf 2 _ (by omega) rfl
    obtain ⟨y3, h3⟩ := hf 3 _ (by omega) rfl
    obtain ⟨y4, h4⟩ := hf 4 _ (by omega) rfl
    obtain ⟨y5, h5⟩ := hf 5 _ (by omega) rfl
    simp only [List.drop_succ_cons, List.drop_zero, List.take_succ_cons, List.take_zero] at h0 h1 h2 h3 h4 h5
    obtain ⟨k0, e0, -, w0⟩ := DataW.trod_int Tryz.underlying3 h0
    obtain ⟨s1, e1, -, w1⟩ := DataW.trod_string Tryz.underlying9 h1
    obtain ⟨g, e2, -⟩ := DataW.trod_bool Tryz.underlying4 h2
    obtain ⟨k3, e3, -, w3⟩ := DataW.trod_int Tryz.underlying3 h3
    obtain ⟨k4, e4, -, w4⟩ := DataW.trod_int Tryz.underlying3 h4
    obtain ⟨zs, hzs⟩ := ints_of_trod h5
    simp only [List.cons.injEq, and_true] at e0 e1 e2 e3 e4
    subst e0 e1 e2 e3 e4
    unfold maxLen at w1
    exact ⟨⟨k0, s1, g, k3, k4, zs⟩, c5, rfl, hzs, by simp only; omega⟩
end
def zeroAct : Value := .agg #[.int .i64 0, .string ByteArray.empty, .bool false, .int .i64 0, .int .i64 0, .slice none 0 0]

set_option maxRecDepth 100000 in
theorem storeDo_lifted (os : Os) (started : os.Started) (H : Type) (enc : TypeId × Value → H) :
    ReturnsInHanded {} Tryz.checked os 3 .any (Rows.fnExactStoreDoSpec.pre6 enc Tryz.prog Tryz.f3 Rows.fnExactStoreDoRow.domain false) (Rows.fnExactStoreDoSpec.post enc Tryz.prog Tryz.f3 false true false false) := by
  refine returnsInHanded_of_change (C := Tryz.checked) own started (by kernel_rfl) Tryz.func3
    (ChangeSpec.witness6 (enc := enc) (C := Tryz.checked) false ⟨#[], #[zeroDisk, .slice none 0 0, zeroAct], []⟩ 8 (by kernel_rfl) (by kernel_rfl) (by kernel_rfl) (by kernel_rfl)) ?_
  intro W base args ds gs before hval0 hW hcnd _
  have hval : ∀ (j : Nat) t v, Tryz.f3.params[j]? = some t → args[j]? = some v → Value.okWide Tryz.prog W .any base t v := hval0
  have hW' := hW
  have hlt := hW.lt
  obtain ⟨p, q, hA0, hV, hpq, hfz, hnd⟩ := hW
  have hA : DataW.TrodAll enc Tryz.prog W 0 (fun _ => true) true Tryz.f3.params.toList args.toList ds p := hA0
  rw [Tryz.params3] at hA hval
  obtain ⟨v0, vs0, d0, ds0, p0, q0, hargs, hds, hp, h0, r0⟩ := trodAll_cons hA
  obtain ⟨v1, vs1, d1, ds1, p1, q1, hargs1, hds1, hp1, h1, r1⟩ := trodAll_cons r0
  obtain ⟨v2, vs2, d2, ds2, p2, q2, hargs2, hds2, hp2, h2, r2⟩ := trodAll_cons r1
  obtain ⟨hvs, hds0, hq0⟩ := trodAll_nil r2
  subst hvs hds0 hq0 hargs2 hds2 hargs1 hds1
  obtain rfl : args = #[v0, v1, v2] := by cases args; simp_all
  subst hds
  obtain ⟨hgs, hq⟩ := trodVars_none hV
  subst hgs hq
  obtain ⟨acs, hv0, hsz⟩ := okWide_struct Tryz.underlying26 (hval 0 26 v0 rfl rfl)
  have h0k := h0
  have h1k := h1
  have h2k := h2
  obtain ⟨fl, hf⟩ := h0
  obtain ⟨fl1, hf1⟩ := h1
  obtain ⟨fl2, hf2⟩ := h2
  obtain ⟨sa, sl, sc, hv1⟩ := okWide_slice Tryz.underlying27 (hval 1 27 v1 rfl rfl)
  obtain ⟨bcs, hv2, hsz2⟩ := okWide_struct Tryz.underlying30 (hval 2 30 v2 rfl rfl)
  subst hv0 hv1 hv2
  obtain ⟨ws, hws⟩ := flat_of_trod Wr.cs Wr.okM 57 27 3 (by omega) (fun _ => rfl) Tryz.underlying27 cellsWrite wr_of_trod hf1
  obtain ⟨ac, kv, hca, hkz, hds'⟩ := act_of_trod fl2 _ _ hf2
  obtain ⟨t, c, hcs, hrep⟩ := dk_of_trod fl _ _ hf
  have hacs : acs = #[c.c0, c.c1, c.c2] := by
    have : acs.toList = [c.c0, c.c1, c.c2] := by simpa [Value.cells] using hcs
    exact Array.toList_inj.1 (by simpa using this)
  subst hacs
  have hbcs : bcs = #[.int .i64 ac.kind, .string ac.data, .bool ac.cuts, .int .i64 ac.after, .int .i64 ac.moves, kv] := by
    have : bcs.toList = [.int .i64 ac.kind, .string ac.data, .bool ac.cuts, .int .i64 ac.after, .int .i64 ac.moves, kv] := by simpa [Value.cells] using hca
    exact Array.toList_inj.1 (by simpa using this)
  subst hbcs
  refine (lawStoreDo_any t ws ac (fun b => b < W.heap.size) c _ kv W (fun b hb => hb) hrep hws hkz hds').mono fun e W' ⟨he, hb⟩ => ?_
  subst he
  have hltp : ∀ x ∈ p0, x.block < W.heap.size := fun x hx => hlt x (by rw [hpq, hp]; simp [hx])
  have hltp1 : ∀ x ∈ p1, x.block < W.heap.size := fun x hx => hlt x (by rw [hpq, hp, hp1]; simp [hx])
  have hltp2 : ∀ x ∈ p2, x.block < W.heap.size := fun x hx => hlt x (by rw [hpq, hp, hp1, hp2]; simp [hx])
  refine ⟨_, rfl, _, _, before, [], p0 ++ (p1 ++ p2), [], hW', ?_, ?_, ?_, hb.frame _, fun h => by cases h⟩
  · exact trodAll_mk1 (shut_bool Tryz.underlying4 true)
  · exact trodAll_mk3 (hb.trod laidOut readDisk rowDisk h0k hltp) (hb.trod laidOut readWrites rowWrites h1k hltp1) (hb.trod laidOut readAct rowAct h2k hltp2)
  · rfl

theorem storeDo_said : Rows.FnExactStoreDoSaid :=
  OpenClaim.holds_of_wide 3 Tryz.f3 rfl rfl rfl rfl rfl rfl rfl ⟨rfl, rfl, rfl, rfl, rfl⟩ rfl rfl rfl rfl rfl (by kernel_rfl) Tryz.func3 (by kernel_rfl)
    (of_decide_eq_true (by kernel_rfl)) (by unfold Func.isWrapper; first | (rw [if_pos (by decide +kernel)]; kernel_rfl) | (rw [if_neg (by decide +kernel)]; exact ⟨rfl, rfl⟩))
    (fun os started H enc _ => storeDo_lifted os started H enc)
end Go.Proofs.YtgdiankfnemjjaaGreat
