/- For every disk that comes in, DiskNames answers as the specification's DiskNames does, in memory of its own, and leaves its argument as it was: the law FnExactDiskNames returns true, and its argument reads behind the call as it read before.
   Conditions: those of the given row alone. -/
import Derived.Test.YtepknipcflbodaaWLawDN
import Derived.Test.YtepknipcflbodaaOpenDk
import Derived.Deep.DeepHandedRow
namespace Go.Proofs.Ytepknipcflbodaa
open Go.ChangeShapes Go.WideShapes Go.ChangeAt Go.RowKit

theorem own : ownKnob Try.prog.godebug = none := by kernel_rfl
theorem laidOut : laidOutB Try.prog = true := by kernel_rfl
theorem readDisk : Try.prog.readableRec 26 = true := by kernel_rfl
theorem rowDisk : 26 < Try.prog.types.size := of_decide_eq_true (by kernel_rfl)
def zeroDisk : Value := .agg #[.slice none 0 0, .slice none 0 0, .slice none 0 0]

set_option maxRecDepth 100000 in
theorem diskNames_lifted (os : Os) (started : os.Started) (H : Type) (enc : TypeId × Value → H) :
    ReturnsInHanded {} Try.checked os 4 .any (Rows.fnExactDiskNamesSpec.pre6 enc Try.prog Try.f4 Rows.fnExactDiskNamesRow.domain false) (Rows.fnExactDiskNamesSpec.post enc Try.prog Try.f4 false true false false) := by
  refine returnsInHanded_of_change (C := Try.checked) own started (by kernel_rfl) Try.func4
    (ChangeSpec.witness6 (enc := enc) (C := Try.checked) false ⟨#[], #[zeroDisk], []⟩ 8 (by kernel_rfl) (by kernel_rfl) (by kernel_rfl) (by kernel_rfl)) ?_
  intro W base args ds gs before hval0 hW hcnd _
  have hval : ∀ (j : Nat) t v, Try.f4.params[j]? = some t → args[j]? = some v → Value.okWide Try.prog W .any base t v := hval0
  have hW' := hW
  have hlt := hW.lt
  obtain ⟨p, q, hA0, hV, hpq, hfz, hnd⟩ := hW
  have hA : DataW.TrodAll enc Try.prog W 0 (fun _ => true) true Try.f4.params.toList args.toList ds p := hA0
  rw [Try.params4] at hA hval
  obtain ⟨v0, vs0, d0, ds0, p0, q0, hargs, hds, hp, h0, r0⟩ := trodAll_cons hA
  obtain ⟨hvs, hds0, hq0⟩ := trodAll_nil r0
  subst hvs hds0 hq0
  obtain rfl : args = #[v0] := by cases args; simp_all
  subst hds
  obtain ⟨hgs, hq⟩ := trodVars_none hV
  subst hgs hq
  obtain ⟨acs, hv0, hsz⟩ := okWide_struct Try.underlying26 (hval 0 26 v0 rfl rfl)
  have h0k := h0
  obtain ⟨fl, hf⟩ := h0
  subst hv0
  obtain ⟨t, c, hcs, hrep⟩ := dk_of_trod fl _ _ hf
  have hacs : acs = #[c.c0, c.c1, c.c2] := by
    have : acs.toList = [c.c0, c.c1, c.c2] := by simpa [Value.cells] using hcs
    exact Array.toList_inj.1 (by simpa using this)
  subst hacs
  refine (lawDiskNames_any t (fun b => b < W.heap.size) c W (fun b hb => hb) hrep).mono fun e W' ⟨he, hb⟩ => ?_
  subst he
  have hltp : ∀ x ∈ p0, x.block < W.heap.size := fun x hx => hlt x (by rw [hpq, hp]; simp [hx])
  refine ⟨_, rfl, _, _, before, [], p0, [], hW', ?_, ?_, ?_, hb.frame _, fun h => by cases h⟩
  · exact trodAll_mk1 (shut_bool Try.underlying4 true)
  · exact trodAll_mk1 (hb.trod laidOut readDisk rowDisk h0k hltp)
  · rfl

theorem diskNames_said : Rows.FnExactDiskNamesSaid :=
  OpenClaim.holds_of_wide 4 Try.f4 rfl rfl rfl rfl rfl rfl rfl ⟨rfl, rfl, rfl, rfl, rfl⟩ rfl rfl rfl rfl rfl (by kernel_rfl) Try.func4 (by kernel_rfl)
    (of_decide_eq_true (by kernel_rfl)) (by unfold Func.isWrapper; first | (rw [if_pos (by decide +kernel)]; kernel_rfl) | (rw [if_neg (by decide +kernel)]; exact ⟨rfl, rfl⟩))
    (fun os started H enc _ => diskNames_lifted os started H enc)
end Go.Proofs.Ytepknipcflbodaa
