/- What the specification asks of a disk is what the program asks of it. No program, no conditions. -/
import Derived.Test.YtepknipcflbodaaPkD5
import Derived.Test.YtepknipcflbodaaHas
namespace Go.Proofs.Ytepknipcflbodaa
open Go Go.RowKit

theorem sameB_dec (y x : ByteArray) : sameB y x = decide (y = x) := lst_beq y x
theorem hasB_iff {ns : List ByteArray} {x : ByteArray} : hasB ns x = true ↔ x ∈ ns := by
  unfold hasB
  rw [List.any_eq_true]
  constructor
  · rintro ⟨y, hy, h⟩
    rw [sameB_dec, decide_eq_true_eq] at h
    rw [← h]; exact hy
  · intro h
    exact ⟨x, h, by rw [sameB_dec]; simp⟩
theorem without_filter (ns : List ByteArray) (x : ByteArray) : withoutB ns x = ns.filter fun y => !decide (y = x) := by
  unfold withoutB
  congr 1
  funext y
  rw [sameB_dec]
theorem findIdx_some {ns : List ByteArray} {x : ByteArray} (h : x ∈ ns) : ∃ i, ns.findIdx? (fun y => sameB y x) = some i := by
  cases e : ns.findIdx? (fun y => sameB y x) with
  | some i => exact ⟨i, rfl⟩
  | none =>
    rw [List.findIdx?_eq_none_iff] at e
    have := e x h
    rw [sameB_dec] at this
    simp at this
theorem findIdx_none {ns : List ByteArray} {x : ByteArray} (h : x ∉ ns) : ns.findIdx? (fun y => sameB y x) = none := by
  rw [List.findIdx?_eq_none_iff]
  intro y hy
  rw [sameB_dec]
  simp only [decide_eq_false_iff_not]
  rintro rfl
  exact h hy
theorem without_idx {ns : List ByteArray} {x : ByteArray} {i : Nat} (hnd : ns.Nodup) (h : ns.findIdx? (fun y => sameB y x) = some i) : ns.take i ++ ns.drop (i + 1) = withoutB ns x := by
  obtain ⟨hi, hx, -⟩ := List.findIdx?_eq_some_iff_getElem.1 h
  rw [sameB_dec, decide_eq_true_eq] at hx
  have hns : ns = ns.take i ++ x :: ns.drop (i + 1) := by
    rw [← hx, ← List.drop_eq_getElem_cons hi, List.take_append_drop]
  rw [without_filter]
  have hnd2 := hnd
  rw [hns] at hnd2
  obtain ⟨-, h2, h3⟩ := List.nodup_append.1 hnd2
  have h4 : x ∉ ns.drop (i + 1) := (List.nodup_cons.1 h2).1
  have h5 : x ∉ ns.take i := fun hm => h3 x hm x List.mem_cons_self rfl
  conv => rhs; rw [hns]
  rw [List.filter_append, List.filter_cons]
  simp only [decide_true, Bool.not_true, Bool.false_eq_true, if_false]
  rw [List.filter_eq_self.2 (fun y hy => by simp; rintro rfl; exact h5 hy), List.filter_eq_self.2 (fun y hy => by simp; rintro rfl; exact h4 hy)]
theorem mstep_mem {l : List ByteArray} {m : Dm} (hnd : l.Nodup) (h : m.gone = true → m.name ∈ l) : mstep l m = some (stepD l m) := by
  unfold mstep stepD
  cases e : m.gone with
  | false => simp
  | true =>
    obtain ⟨i, hi⟩ := findIdx_some (h e)
    simp only [if_true, hi, without_idx hnd hi]
theorem mstep_not {l : List ByteArray} {m : Dm} (hg : m.gone = true) (h : m.name ∉ l) : mstep l m = none := by
  unfold mstep
  simp only [hg, if_true, findIdx_none h]

theorem made_sub (ns : List ByteArray) (ms : List Dm) (k : Nat) : (madeD ns (ms.take k)).Sublist (madeD ns ms) := by
  unfold madeD
  exact List.Sublist.append (List.Sublist.refl _) (((List.take_sublist k ms).filter _).map _)
theorem after_nodup {ns : List ByteArray} {ms : List Dm} (hnd : (madeD ns ms).Nodup) : ∀ k, k ≤ ms.length → (afterD ns (ms.take k)).Nodup ∧ ∀ x, x ∈ afterD ns (ms.take k) → x ∈ madeD ns (ms.take k)
  | 0, _ => by
    have h0 : madeD ns (ms.take 0) = ns := by simp [madeD]
    have := hnd.sublist (made_sub ns ms 0)
    rw [h0] at this ⊢
    exact ⟨this, fun x hx => hx⟩
  | k + 1, hk => by
    obtain ⟨h1, h2⟩ := after_nodup hnd k (by omega)
    have hm := made_take (ns := ns) (ms := ms) (k := k) (by omega)
    have hn := hnd.sublist (made_sub ns ms (k + 1))
    rw [after_take (by omega)]
    unfold stepD
    cases e : ms[k].gone with
    | true =>
      rw [e] at hm
      simp only [if_true] at hm ⊢
      rw [hm]
      unfold withoutB
      exact ⟨h1.sublist List.filter_sublist, fun x hx => h2 x (List.mem_filter.1 hx).1⟩
    | false =>
      rw [e] at hm
      simp only [Bool.false_eq_true, if_false] at hm ⊢
      rw [hm] at hn ⊢
      obtain ⟨-, -, h5⟩ := List.nodup_append.1 hn
      refine ⟨List.nodup_append.2 ⟨h1, by simp, fun a ha b hb => ?_⟩, fun x hx => ?_⟩
      · exact h5 a (h2 a ha) b hb
      · rcases List.mem_append.1 hx with h | h
        · exact List.mem_append.2 (Or.inl (h2 x h))
        · exact List.mem_append.2 (Or.inr h)
theorem mfold_after {ns : List ByteArray} {ms : List Dm} (hnd : (madeD ns ms).Nodup) (hmv : ∀ i (h : i < ms.length), ms[i].gone = true → ms[i].name ∈ afterD ns (ms.take i)) : ∀ k, k ≤ ms.length → mfold ns (ms.take k) = some (afterD ns (ms.take k))
  | 0, _ => rfl
  | k + 1, hk => by
    rw [mfold_take (by omega), mfold_after hnd hmv k (by omega), after_take (by omega)]
    exact mstep_mem (after_nodup hnd k (by omega)).1 (hmv k (by omega))
theorem mfold_conv {ns : List ByteArray} {ms : List Dm} (hnd : (madeD ns ms).Nodup) : ∀ k, k ≤ ms.length → (mfold ns (ms.take k)).isSome = true → ∀ i (h : i < ms.length), i < k → ms[i].gone = true → ms[i].name ∈ afterD ns (ms.take i)
  | 0, _, _ => fun i _ hi => by omega
  | k + 1, hk, hs => by
    have hsk : (mfold ns (ms.take k)).isSome = true := by
      rw [mfold_take (by omega)] at hs
      cases e : mfold ns (ms.take k) with
      | none => rw [e] at hs; cases hs
      | some l => rfl
    have ih := mfold_conv hnd k (by omega) hsk
    have hex : mfold ns (ms.take k) = some (afterD ns (ms.take k)) := by
      have := mfold_after (ns := ns) (ms := ms.take k) (hnd.sublist (made_sub ns ms k)) (fun i h hg => by
        have hi : i < k := by rw [List.length_take] at h; omega
        rw [List.getElem_take] at hg ⊢
        rw [List.take_take, Nat.min_eq_left (by omega)]
        exact ih i (by omega) hi hg) k (by rw [List.length_take]; omega)
      rwa [List.take_take, Nat.min_self] at this
    intro i h hi hg
    by_cases e : i = k
    · subst e
      refine Classical.byContradiction fun hno => ?_
      rw [mfold_take (by omega), hex] at hs
      simp only [Option.bind_some, mstep_not hg hno] at hs
      cases hs
    · exact ih i h (by omega) hg

theorem nodup_take {l : List ByteArray} (h : ∀ i (hi : i < l.length), l[i] ∉ l.take i) : l.Nodup := by
  unfold List.Nodup
  rw [List.pairwise_iff_getElem]
  intro i j hi hj hij e
  refine h j hj ?_
  rw [← e]
  exact List.mem_take_iff_getElem.2 ⟨i, by omega, rfl⟩
theorem take_nodup {l : List ByteArray} (h : l.Nodup) : ∀ i (hi : i < l.length), l[i] ∉ l.take i := by
  intro i hi hm
  obtain ⟨j, hj, e⟩ := List.mem_take_iff_getElem.1 hm
  have := (List.getElem_inj h).1 e
  omega
theorem named_eq {fs : List Df} {ns : List ByteArray} (h : FNamed fs ns) : fs.map Df.name = ns := by
  apply List.ext_getElem
  · rw [List.length_map]; exact h.len
  · intro i h1 h2
    rw [List.length_map] at h1
    have := h.same i h1 h2
    rw [sameB_dec, decide_eq_true_eq] at this
    rw [List.getElem_map]; exact this

theorem dkOk_iff (d : Dk) : DkOkS d ↔ DkOkP d := by
  constructor
  · intro h
    have hnamed : FNamed d.files (madeD d.names d.moves) := ⟨h.len.symm, fun i h1 h2 => (h.file i h1 h2).same⟩
    have heq := named_eq hnamed
    have hno : ∀ i (hi : i < d.files.length), d.files[i].name ∉ (d.files.map Df.name).take i := fun i hi hm => by
      have hf := (h.file i hi (by rw [h.len]; exact hi)).find
      obtain ⟨j, hj, e⟩ := List.mem_take_iff_getElem.1 hm
      rw [List.length_map] at hj
      rw [List.getElem_map] at e
      unfold findF at hf
      cases e2 : d.files.findIdx? (fun f => sameB f.name d.files[i].name) with
      | none => rw [e2] at hf; simp only at hf; omega
      | some q =>
        rw [e2] at hf
        simp only at hf
        obtain ⟨hq, -, hlt⟩ := List.findIdx?_eq_some_iff_getElem.1 e2
        have := hlt j (by omega)
        rw [sameB_dec, e] at this
        simp at this
    have hnd : (madeD d.names d.moves).Nodup := by
      rw [← heq]
      refine nodup_take fun i hi => ?_
      rw [List.length_map] at hi
      rw [List.getElem_map]
      exact hno i hi
    refine ⟨h.l1, h.l3, ⟨?_, hnamed⟩, fun i hi => ⟨hno i hi, ?_⟩, ?_⟩
    · rw [← h.len]; unfold madeD; rw [List.length_append]; omega
    · have hf := h.file i hi (by rw [h.len]; exact hi)
      unfold fOkB
      rw [hf.name, decide_eq_true hf.data, decide_eq_true hf.kept]; rfl
    · have := mfold_after hnd (fun i hi hg => hasB_iff.1 (h.move i hi hg)) d.moves.length (Nat.le_refl _)
      rw [List.take_of_length_le (Nat.le_refl _)] at this
      rw [this]; rfl
  · intro h
    have heq := named_eq h.made.named
    have hnd : (madeD d.names d.moves).Nodup := by
      rw [← heq]
      refine nodup_take fun i hi => ?_
      rw [List.length_map] at hi
      rw [List.getElem_map]
      exact (h.file i hi).1
    refine ⟨h.l1, by have := h.made.le; have := h.l1; omega, h.l3, h.made.named.len.symm, fun i hi h2 => ?_, fun i hi hg => hasB_iff.2 ?_⟩
    · have hf := (h.file i hi).2
      unfold fOkB at hf
      simp only [Bool.and_eq_true, decide_eq_true_eq] at hf
      refine ⟨hf.1.1, h.made.named.same i hi h2, hf.1.2, hf.2, ?_⟩
      refine findF_yes i hi (by rw [sameB_dec]; simp) (fun j hj hjl => ?_)
      rw [sameB_dec, decide_eq_false_iff_not]
      intro e
      refine (h.file i hi).1 (List.mem_take_iff_getElem.2 ⟨j, by rw [List.length_map]; omega, ?_⟩)
      rw [List.getElem_map]; exact e
    · exact mfold_conv hnd d.moves.length (Nat.le_refl _) (by rw [List.take_of_length_le (Nat.le_refl _)]; exact h.move) i hi hi hg
end Go.Proofs.Ytepknipcflbodaa
