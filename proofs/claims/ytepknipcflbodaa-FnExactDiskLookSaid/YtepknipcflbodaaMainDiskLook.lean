/- For every disk and every name that come in, DiskLook answers as the specification's DiskLook does and leaves its arguments as they were: the law FnExactDiskLook returns true, and its arguments read behind the call as they read before.
   Conditions: those of the given row alone. -/
import Derived.Test.YtepknipcflbodaaWLawDL
import Derived.Test.YtepknipcflbodaaOpenDk
import Derived.Test.YtepknipcflbodaaWDkLk
import Derived.Deep.DeepHandedRow
namespace Go.Proofs.Ytepknipcflbodaa
open Go.ChangeShapes Go.WideShapes Go.ChangeAt Go.RowKit

theorem own : ownKnob Try.prog.godebug = none := by kernel_rfl
theorem laidOut : laidOutB Try.prog = true := by kernel_rfl
theorem readDisk : Try.prog.readableRec 26 = true := by kernel_rfl
theorem rowDisk : 26 < Try.prog.types.size := of_decide_eq_true (by kernel_rfl)
def zeroDisk : Value := .agg #[.slice none 0 0, .slice none 0 0, .slice none 0 0]

theorem readStr : Try.prog.readableRec 9 = true := by kernel_rfl
theorem rowStr : 9 < Try.prog.types.size := of_decide_eq_true (by kernel_rfl)
def zeroText : Value := .string ByteArray.empty

theorem lawDiskLook_any (d : Dk) (x : ByteArray) (P : Nat → Prop) (c : C3) (w : World) (hP : ∀ b, P b → b < w.heap.size) (hrep : DkAt P w d c) (hx : x.size ≤ 9223372036854775807) :
    Calls Try.prog 5 #[.agg #[c.c0, c.c1, c.c2], .string x] w fun e w' => e = .returned (.bool true) ∧ Below w.heap.size w w' :=
  lawDiskLook_of d x (lookD d x).1 (lookD d x).2 P c w hP hrep hx (fun Q d' W _ hQ hd _ => specDiskLook_any d x Q d' W hQ hd) (fun Q d' W _ hQ hd _ => implDiskLook_any d x Q d' W hQ hd)

set_option maxRecDepth 100000 in
theorem diskLook_lifted (os : Os) (started : os.Started) (H : Type) (enc : TypeId × Value → H) :
    ReturnsInHanded {} Try.checked os 5 .any (Rows.fnExactDiskLookSpec.pre6 enc Try.prog Try.f5 Rows.fnExactDiskLookRow.domain false) (Rows.fnExactDiskLookSpec.post enc Try.prog Try.f5 false true false false) := by
  refine returnsInHanded_of_change (C := Try.checked) own started (by kernel_rfl) Try.func5
    (ChangeSpec.witness6 (enc := enc) (C := Try.checked) false ⟨#[], #[zeroDisk, zeroText], []⟩ 8 (by kernel_rfl) (by kernel_rfl) (by kernel_rfl) (by kernel_rfl)) ?_
  intro W base args ds gs before hval0 hW hcnd _
  have hval : ∀ (j : Nat) t v, Try.f5.params[j]? = some t → args[j]? = some v → Value.okWide Try.prog W .any base t v := hval0
  have hW' := hW
  have hlt := hW.lt
  obtain ⟨p, q, hA0, hV, hpq, hfz, hnd⟩ := hW
  have hA : DataW.TrodAll enc Try.prog W 0 (fun _ => true) true Try.f5.params.toList args.toList ds p := hA0
  rw [Try.params5] at hA hval
  obtain ⟨v0, vs0, d0, ds0, p0, q0, hargs, hds, hp, h0, r0⟩ := trodAll_cons hA
  obtain ⟨v1, vs1, d1, ds1, p1, q1, hargs1, hds1, hp1, h1, r1⟩ := trodAll_cons r0
  obtain ⟨hvs, hds0, hq0⟩ := trodAll_nil r1
  subst hvs hds0 hq0 hargs1 hds1
  obtain rfl : args = #[v0, v1] := by cases args; simp_all
  subst hds
  obtain ⟨hgs, hq⟩ := trodVars_none hV
  subst hgs hq
  obtain ⟨acs, hv0, hsz⟩ := okWide_struct Try.underlying26 (hval 0 26 v0 rfl rfl)
  have h0k := h0
  have h1k := h1
  obtain ⟨fl, hf⟩ := h0
  obtain ⟨fl1, hf1⟩ := h1
  obtain ⟨x, hx1, -, hxl⟩ := DataW.trod_string Try.underlying9 hf1
  obtain ⟨x', hv1⟩ := okWide_string Try.underlying9 (hval 1 9 v1 rfl rfl)
  subst hv0 hv1
  have hxx : x' = x := by simpa [Value.cells] using hx1
  subst hxx
  unfold maxLen at hxl
  obtain ⟨t, c, hcs, hrep⟩ := dk_of_trod fl _ _ hf
  have hacs : acs = #[c.c0, c.c1, c.c2] := by
    have : acs.toList = [c.c0, c.c1, c.c2] := by simpa [Value.cells] using hcs
    exact Array.toList_inj.1 (by simpa using this)
  subst hacs
  refine (lawDiskLook_any t x' (fun b => b < W.heap.size) c W (fun b hb => hb) hrep (by omega)).mono fun e W' ⟨he, hb⟩ => ?_
  subst he
  have hltp : ∀ x ∈ p0, x.block < W.heap.size := fun x hx => hlt x (by rw [hpq, hp]; simp [hx])
  have hltp1 : ∀ x ∈ p1, x.block < W.heap.size := fun x hx => hlt x (by rw [hpq, hp, hp1]; simp [hx])
  refine ⟨_, rfl, _, _, before, [], p0 ++ p1, [], hW', ?_, ?_, ?_, hb.frame _, fun h => by cases h⟩
  · exact trodAll_mk1 (shut_bool Try.underlying4 true)
  · exact trodAll_mk2 (hb.trod laidOut readDisk rowDisk h0k hltp) (hb.trod laidOut readStr rowStr h1k hltp1)
  · rfl

theorem diskLook_said : Rows.FnExactDiskLookSaid :=
  OpenClaim.holds_of_wide 5 Try.f5 rfl rfl rfl rfl rfl rfl rfl ⟨rfl, rfl, rfl, rfl, rfl⟩ rfl rfl rfl rfl rfl (by kernel_rfl) Try.func5 (by kernel_rfl)
    (of_decide_eq_true (by kernel_rfl)) (by unfold Func.isWrapper; first | (rw [if_pos (by decide +kernel)]; kernel_rfl) | (rw [if_neg (by decide +kernel)]; exact ⟨rfl, rfl⟩))
    (fun os started H enc _ => diskLook_lifted os started H enc)
end Go.Proofs.Ytepknipcflbodaa
