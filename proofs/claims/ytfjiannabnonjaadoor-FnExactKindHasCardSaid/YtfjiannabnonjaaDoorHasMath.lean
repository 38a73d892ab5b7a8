/- Of names that rise: they are just the kept ones, if and only if they are the same. No program, no conditions. -/
import Derived.Test.YtfjiannabnonjaaDoorWClaim
import Derived.Sort.Walk0
namespace Go.Proofs.YtfjiannabnonjaaDoor
open Go Go.RowKit Go.Maps

def nlt (a b : ByteArray) : Prop := Op.bytesLess a.toList b.toList = true
theorem nlt_iff (a b : ByteArray) : nlt a b ↔ a.toList < b.toList := by unfold nlt; rw [bytesLess_eq, decide_eq_true_eq]
theorem nlt_irrefl (a : ByteArray) : ¬ nlt a a := by rw [nlt_iff]; exact List.lt_irrefl _
theorem nlt_trans {a b c : ByteArray} (h : nlt a b) (k : nlt b c) : nlt a c := by
  rw [nlt_iff] at *; exact List.lt_trans h k

theorem rise_step {ns : List ByteArray} (h : riseB ns = true) (i : Nat) (hi : i + 1 < ns.length) : nlt ns[i] ns[i + 1] := by
  unfold riseB at h
  rw [List.all_eq_true] at h
  have hg := h (i + 1) (List.mem_range.2 hi)
  unfold good at hg
  rw [Bool.and_eq_true, getD_lt _ _ hi, getD_lt _ _ (show i + 1 - 1 < ns.length by omega)] at hg
  have := hg.2
  rw [decide_eq_false (by omega), Bool.false_or] at this
  exact this
theorem rise_lt {ns : List ByteArray} (h : riseB ns = true) (i : Nat) : ∀ (d : Nat) (hd : i + d + 1 < ns.length), nlt (ns[i]'(by omega)) ns[i + d + 1]
  | 0, hd => rise_step h i hd
  | d + 1, hd => nlt_trans (rise_lt h i d (by omega)) (rise_step h (i + d + 1) hd)
theorem rise_pairs {ns : List ByteArray} (h : riseB ns = true) : ns.Pairwise nlt := by
  rw [List.pairwise_iff_getElem]
  intro i j hi hj hij
  obtain ⟨d, rfl⟩ : ∃ d, j = i + d + 1 := ⟨j - i - 1, by omega⟩
  exact rise_lt h i d hj
theorem rise_nodup {ns : List ByteArray} (h : riseB ns = true) : ns.Nodup :=
  (rise_pairs h).imp (fun {a b} hab e => by subst e; exact nlt_irrefl _ hab)
theorem rise_sub : ∀ (ns ms : List ByteArray), ns.Pairwise nlt → ms.Pairwise nlt → (∀ x, x ∈ ms → x ∈ ns) → ms.Sublist ns
  | [], [], _, _, _ => List.Sublist.slnil
  | [], b :: s, _, _, h => by have := h b (by simp); simp at this
  | a :: r, [], _, _, _ => List.nil_sublist _
  | a :: r, b :: s, h1, h2, h => by
    rw [List.pairwise_cons] at h1
    have h2' := h2
    rw [List.pairwise_cons] at h2'
    by_cases e : b = a
    · subst e
      refine List.Sublist.cons_cons _ (rise_sub r s h1.2 h2'.2 (fun x hx => ?_))
      rcases List.mem_cons.1 (h x (List.mem_cons_of_mem _ hx)) with rfl | hr
      · exact absurd (h2'.1 x hx) (nlt_irrefl _)
      · exact hr
    · have hb : b ∈ r := (List.mem_cons.1 (h b (by simp))).resolve_left e
      refine List.Sublist.cons _ (rise_sub r (b :: s) h1.2 h2 (fun x hx => ?_))
      rcases List.mem_cons.1 (h x hx) with rfl | hr
      · rcases List.mem_cons.1 hx with rfl | hs
        · exact absurd rfl e
        · exact absurd (nlt_trans (h1.1 b hb) (h2'.1 x hs)) (nlt_irrefl _)
      · exact hr
theorem just_iff {ns ms : List ByteArray} (h1 : riseB ns = true) (h2 : riseB ms = true) : justB ns ms = decide (ns = ms) := by
  rw [Bool.eq_iff_iff, justB, Bool.and_eq_true, List.all_eq_true, decide_eq_true_eq, decide_eq_true_eq]
  constructor
  · rintro ⟨ha, hl⟩
    refine ((rise_sub ns ms (rise_pairs h1) (rise_pairs h2) (fun x hx => ?_)).eq_of_length hl).symm
    have := (has_nmap ns x ns.length (Nat.le_refl _)).1 (ha x hx)
    rwa [List.take_length] at this
  · rintro rfl
    exact ⟨fun x hx => (has_nmap ns x ns.length (Nat.le_refl _)).2 (by rw [List.take_length]; exact hx), rfl⟩

theorem hold_eq {k : Kd} {t : Tr} (hk : shB k = true) (ht : aloneB t = true) : holdB k t = (decide (k.sort = t.sort) && decide (k.names = t.names)) := by
  by_cases hs : k.sort = t.sort
  · rw [holdB]
    congr 1
    by_cases h5 : k.sort = 5
    · have h1 : riseB k.names = true := by
        rcases shB_cases hk with ⟨h, -⟩ | ⟨h, -⟩ | ⟨-, -, h⟩
        · omega
        · omega
        · exact h
      have h2 : riseB t.names = true := by
        have ht5 : t.sort = 5 := by omega
        unfold aloneB at ht
        simp [ht5] at ht
        exact ht.2
      exact just_iff h1 h2
    · have h1 : k.names = [] := by
        rcases shB_cases hk with ⟨-, -, h⟩ | ⟨-, -, h⟩ | ⟨h, -⟩
        · exact List.eq_nil_of_length_eq_zero h
        · exact List.eq_nil_of_length_eq_zero h
        · exact absurd h h5
      have h2 : t.names = [] := by
        have ht5 : t.sort ≠ 5 := by omega
        unfold aloneB at ht
        apply List.eq_nil_of_length_eq_zero
        by_cases e1 : t.sort = 1
        · simp [e1] at ht; simp [ht]
        by_cases e2 : t.sort = 2
        · simp [e2] at ht; simp [ht]
        by_cases e3 : t.sort = 3
        · simp [e3] at ht; simp [ht]
        by_cases e4 : t.sort = 4
        · simp [e4] at ht; simp [ht]
        by_cases e6 : t.sort = 6
        · simp [e6] at ht; simp [ht]
        · rw [if_neg e1, if_neg e2, if_neg e3, if_neg e4, if_neg ht5, if_neg e6] at ht; cases ht
      rw [h1, h2]
      simp [justB]
  · rw [holdB, decide_eq_false hs]; rfl
end Go.Proofs.YtfjiannabnonjaaDoor
