/- For every disk and raw write that come in, DiskDo answers as the specification's DiskDo does, in memory of its own, and leaves its arguments as they were: the law FnExactDiskDo returns true, and its arguments read behind the call as they read before.
   Conditions: those of the given row alone. -/
import Derived.Test.YtekchajnellcdaaPart27
import Derived.Deep.DeepHandedRow
namespace Go.Proofs.Ytekchajnellcdaa
open Go.ChangeShapes Go.WideShapes Go.ChangeAt Go.RowKit Go.Deep

theorem own : ownKnob Try.prog.godebug = none := by kernel_rfl
theorem laidOut : laidOutB Try.prog = true := by kernel_rfl
theorem readDisk : Try.prog.readableRec 26 = true := by kernel_rfl
theorem rowDisk : 26 < Try.prog.types.size := of_decide_eq_true (by kernel_rfl)
def zeroDisk : Value := .agg #[.slice none 0 0, .slice none 0 0, .slice none 0 0]

theorem readWrite : Try.prog.readableRec 28 = true := by kernel_rfl
theorem rowWrite : 28 < Try.prog.types.size := of_decide_eq_true (by kernel_rfl)
theorem cellsWrite : Try.prog.cellsOf 28 = 3 := by kernel_rfl
theorem oneWrite : ∃ fs : Array Field, Try.prog.underlying 28 = some (.struct fs) ∧ oneCellFields Try.prog fs = true ∧ fs.map (·.type) = #[3, 9, 9] := ⟨_, Try.underlying28, by kernel_rfl, by kernel_rfl⟩
theorem write_of_trod {H : Type} {enc : TypeId × Value → H} {W : World} {spare : Nat → Bool} {held : Bool} (fuel : Nat) (l : List Value) (x : DataW H × List MemPlace) (h : DataW.trod enc Try.prog W 0 spare held fuel 28 l = some x) : ∃ (k : Int) (s t : ByteArray), l = [.int .i64 k, .string s, .string t] ∧ s.size ≤ 9223372036854775807 ∧ t.size ≤ 9223372036854775807 := by
  obtain ⟨hl, n, hf⟩ := fields_of (k := 3) rfl oneWrite h
  rw [cellsWrite] at hl
  match l, hl with
  | [c0, c1, c2], _ =>
    obtain ⟨y0, h0⟩ := hf 0 _ (by omega) rfl
    obtain ⟨y1, h1⟩ := hf 1 _ (by omega) rfl
    obtain ⟨y2, h2⟩ := hf 2 _ (by omega) rfl
    simp only [List.drop_succ_cons, List.drop_zero, List.take_succ_cons, List.take_zero] at h0 h1 h2
    obtain ⟨k, e0, -, w0⟩ := DataW.trod_int Try.underlying3 h0
    obtain ⟨s1, e1, -, w1⟩ := DataW.trod_string Try.underlying9 h1
    obtain ⟨s2, e2, -, w2⟩ := DataW.trod_string Try.underlying9 h2
    simp only [List.cons.injEq, and_true] at e0 e1 e2
    subst e0 e1 e2
    unfold maxLen at w1 w2
    exact ⟨k, s1, s2, rfl, by omega, by omega⟩
def zeroWrite : Value := .agg #[.int .i64 0, .string ByteArray.empty, .string ByteArray.empty]

set_option maxRecDepth 100000 in
theorem diskDo_lifted (os : Os) (started : os.Started) (H : Type) (enc : TypeId × Value → H) :
    ReturnsInHanded {} Try.checked os 3 .any (Rows.fnExactDiskDoSpec.pre6 enc Try.prog Try.f3 Rows.fnExactDiskDoRow.domain false) (Rows.fnExactDiskDoSpec.post enc Try.prog Try.f3 false true false false) := by
  refine returnsInHanded_of_change (C := Try.checked) own started (by kernel_rfl) Try.func3
    (ChangeSpec.witness6 (enc := enc) (C := Try.checked) false ⟨#[], #[zeroDisk, zeroWrite], []⟩ 8 (by kernel_rfl) (by kernel_rfl) (by kernel_rfl) (by kernel_rfl)) ?_
  intro W base args ds gs before hval0 hW hcnd _
  have hval : ∀ (j : Nat) t v, Try.f3.params[j]? = some t → args[j]? = some v → Value.okWide Try.prog W .any base t v := hval0
  have hW' := hW
  have hlt := hW.lt
  obtain ⟨p, q, hA0, hV, hpq, hfz, hnd⟩ := hW
  have hA : DataW.TrodAll enc Try.prog W 0 (fun _ => true) true Try.f3.params.toList args.toList ds p := hA0
  rw [Try.params3] at hA hval
  obtain ⟨v0, vs0, d0, ds0, p0, q0, hargs, hds, hp, h0, r0⟩ := trodAll_cons hA
  obtain ⟨v1, vs1, d1, ds1, p1, q1, hargs1, hds1, hp1, h1, r1⟩ := trodAll_cons r0
  obtain ⟨hvs, hds0, hq0⟩ := trodAll_nil r1
  subst hvs hds0 hq0 hargs1 hds1
  obtain rfl : args = #[v0, v1] := by cases args; simp_all
  subst hds
  obtain ⟨hgs, hq⟩ := trodVars_none hV
  subst hgs hq
  obtain ⟨acs, hv0, hsz⟩ := okWide_struct Try.underlying26 (hval 0 26 v0 rfl rfl)
  have h0k := h0
  have h1k := h1
  obtain ⟨fl, hf⟩ := h0
  obtain ⟨fl1, hf1⟩ := h1
  obtain ⟨bcs, hv1, hsz1⟩ := okWide_struct Try.underlying28 (hval 1 28 v1 rfl rfl)
  subst hv0 hv1
  obtain ⟨k, x, y, hcw, hxs, hys⟩ := write_of_trod fl1 _ _ hf1
  obtain ⟨t, c, hcs, hrep⟩ := dk_of_trod fl _ _ hf
  have hacs : acs = #[c.c0, c.c1, c.c2] := by
    have : acs.toList = [c.c0, c.c1, c.c2] := by simpa [Value.cells] using hcs
    exact Array.toList_inj.1 (by simpa using this)
  subst hacs
  have hbcs : bcs = #[.int .i64 k, .string x, .string y] := by
    have : bcs.toList = [.int .i64 k, .string x, .string y] := by simpa [Value.cells] using hcw
    exact Array.toList_inj.1 (by simpa using this)
  subst hbcs
  refine (lawDiskDo_any t k x y (fun b => b < W.heap.size) c W (fun b hb => hb) hrep hxs hys).mono fun e W' ⟨he, hb⟩ => ?_
  subst he
  have hltp : ∀ x ∈ p0, x.block < W.heap.size := fun x hx => hlt x (by rw [hpq, hp]; simp [hx])
  have hltp1 : ∀ x ∈ p1, x.block < W.heap.size := fun x hx => hlt x (by rw [hpq, hp, hp1]; simp [hx])
  refine ⟨_, rfl, _, _, before, [], p0 ++ p1, [], hW', ?_, ?_, ?_, hb.frame _, fun h => by cases h⟩
  · exact trodAll_mk1 (shut_bool Try.underlying4 true)
  · exact trodAll_mk2 (hb.trod laidOut readDisk rowDisk h0k hltp) (hb.trod laidOut readWrite rowWrite h1k hltp1)
  · rfl

theorem diskDo_said : Rows.FnExactDiskDoSaid :=
  OpenClaim.holds_of_wide 3 Try.f3 rfl rfl rfl rfl rfl rfl rfl ⟨rfl, rfl, rfl, rfl, rfl⟩ rfl rfl rfl rfl rfl (by kernel_rfl) Try.func3 (by kernel_rfl)
    (of_decide_eq_true (by kernel_rfl)) (by unfold Func.isWrapper; first | (rw [if_pos (by decide +kernel)]; kernel_rfl) | (rw [if_neg (by decide +kernel)]; exact ⟨rfl, rfl⟩))
    (fun os started H enc _ => diskDo_lifted os started H enc)
end Go.Proofs.Ytekchajnellcdaa
