/- For every disk, number of moves and list of numbers that come in, DiskCut answers as the specification's DiskCut does, in memory of its own, and leaves its arguments as they were: the law FnExactDiskCut returns true, and its arguments read behind the call as they read before.
   Conditions: those of the given row alone. -/
import Derived.Test.YtmaojhacdelleaaPart32
import Derived.Test.YtmaojhacdelleaaPart33
import Derived.Deep.DeepHandedRow
namespace Go.Proofs.Ytmaojhacdelleaa
open Go.ChangeShapes Go.WideShapes Go.ChangeAt Go.RowKit

theorem own : ownKnob Try.prog.godebug = none := by kernel_rfl
theorem laidOut : laidOutB Try.prog = true := by kernel_rfl
theorem readDisk : Try.prog.readableRec 26 = true := by kernel_rfl
theorem rowDisk : 26 < Try.prog.types.size := of_decide_eq_true (by kernel_rfl)
def zeroDisk : Value := .agg #[.slice none 0 0, .slice none 0 0, .slice none 0 0]

theorem readInt : Try.prog.readableRec 3 = true := by kernel_rfl
theorem rowInt : 3 < Try.prog.types.size := of_decide_eq_true (by kernel_rfl)
theorem readInts : Try.prog.readableRec 43 = true := by kernel_rfl
theorem rowInts : 43 < Try.prog.types.size := of_decide_eq_true (by kernel_rfl)

set_option maxRecDepth 100000 in
theorem diskCut_lifted (os : Os) (started : os.Started) (H : Type) (enc : TypeId × Value → H) :
    ReturnsInHanded {} Try.checked os 4 .any (Rows.fnExactDiskCutSpec.pre6 enc Try.prog Try.f4 Rows.fnExactDiskCutRow.domain false) (Rows.fnExactDiskCutSpec.post enc Try.prog Try.f4 false true false false) := by
  refine returnsInHanded_of_change (C := Try.checked) own started (by kernel_rfl) Try.func4
    (ChangeSpec.witness6 (enc := enc) (C := Try.checked) false ⟨#[], #[zeroDisk, .int .i64 0, .slice none 0 0], []⟩ 8 (by kernel_rfl) (by kernel_rfl) (by kernel_rfl) (by kernel_rfl)) ?_
  intro W base args ds gs before hval0 hW hcnd _
  have hval : ∀ (j : Nat) t v, Try.f4.params[j]? = some t → args[j]? = some v → Value.okWide Try.prog W .any base t v := hval0
  have hW' := hW
  have hlt := hW.lt
  obtain ⟨p, q, hA0, hV, hpq, hfz, hnd⟩ := hW
  have hA : DataW.TrodAll enc Try.prog W 0 (fun _ => true) true Try.f4.params.toList args.toList ds p := hA0
  rw [Try.params4] at hA hval
  obtain ⟨v0, vs0, d0, ds0, p0, q0, hargs, hds, hp, h0, r0⟩ := trodAll_cons hA
  obtain ⟨v1, vs1, d1, ds1, p1, q1, hargs1, hds1, hp1, h1, r1⟩ := trodAll_cons r0
  obtain ⟨v2, vs2, d2, ds2, p2, q2, hargs2, hds2, hp2, h2, r2⟩ := trodAll_cons r1
  obtain ⟨hvs, hds0, hq0⟩ := trodAll_nil r2
  subst hvs hds0 hq0 hargs2 hds2 hargs1 hds1
  obtain rfl : args = #[v0, v1, v2] := by cases args; simp_all
  subst hds
  obtain ⟨hgs, hq⟩ := trodVars_none hV
  subst hgs hq
  obtain ⟨acs, hv0, hsz⟩ := okWide_struct Try.underlying26 (hval 0 26 v0 rfl rfl)
  have h0k := h0
  have h1k := h1
  have h2k := h2
  obtain ⟨fl, hf⟩ := h0
  obtain ⟨fl1, hf1⟩ := h1
  obtain ⟨fl2, hf2⟩ := h2
  obtain ⟨m, hm1, -, hml⟩ := DataW.trod_int Try.underlying3 hf1
  obtain ⟨m', hv1⟩ := okWide_int Try.underlying3 (hval 1 3 v1 rfl rfl)
  obtain ⟨sa, sl, sc, hv2⟩ := okWide_slice Try.underlying43 (hval 2 43 v2 rfl rfl)
  subst hv0 hv1 hv2
  have hmm : m' = m := by simpa [Value.cells] using hm1
  subst hmm
  obtain ⟨zs, hzs⟩ := ints_of_trod hf2
  obtain ⟨t, c, hcs, hrep⟩ := dk_of_trod fl _ _ hf
  have hacs : acs = #[c.c0, c.c1, c.c2] := by
    have : acs.toList = [c.c0, c.c1, c.c2] := by simpa [Value.cells] using hcs
    exact Array.toList_inj.1 (by simpa using this)
  subst hacs
  refine (lawDiskCut_any t m' zs (fun b => b < W.heap.size) c _ W (fun b hb => hb) hrep hzs).mono fun e W' ⟨he, hb⟩ => ?_
  subst he
  have hltp : ∀ x ∈ p0, x.block < W.heap.size := fun x hx => hlt x (by rw [hpq, hp]; simp [hx])
  have hltp1 : ∀ x ∈ p1, x.block < W.heap.size := fun x hx => hlt x (by rw [hpq, hp, hp1]; simp [hx])
  have hltp2 : ∀ x ∈ p2, x.block < W.heap.size := fun x hx => hlt x (by rw [hpq, hp, hp1, hp2]; simp [hx])
  refine ⟨_, rfl, _, _, before, [], p0 ++ (p1 ++ p2), [], hW', ?_, ?_, ?_, hb.frame _, fun h => by cases h⟩
  · exact trodAll_mk1 (shut_bool Try.underlying4 true)
  · exact trodAll_mk3 (hb.trod laidOut readDisk rowDisk h0k hltp) (hb.trod laidOut readInt rowInt h1k hltp1) (hb.trod laidOut readInts rowInts h2k hltp2)
  · rfl

theorem diskCut_said : Rows.FnExactDiskCutSaid :=
  OpenClaim.holds_of_wide 4 Try.f4 rfl rfl rfl rfl rfl rfl rfl ⟨rfl, rfl, rfl, rfl, rfl⟩ rfl rfl rfl rfl rfl (by kernel_rfl) Try.func4 (by kernel_rfl)
    (of_decide_eq_true (by kernel_rfl)) (by unfold Func.isWrapper; first | (rw [if_pos (by decide +kernel)]; kernel_rfl) | (rw [if_neg (by decide +kernel)]; exact ⟨rfl, rfl⟩))
    (fun os started H enc _ => diskCut_lifted os started H enc)
end Go.Proofs.Ytmaojhacdelleaa
