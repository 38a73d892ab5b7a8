/- Whether a tree is of a schema, as a function on data; trees all of whose parts are ok. Definitions and small laws; no program, no conditions. -/
import Derived.Test.YtepknipcflbodaaKText
namespace Go.Proofs.Ytepknipcflbodaa
open Go Go.RowKit

mutual
/-- All parts of a tree are ok, the bounds aside. -/
def okH : Tr → Bool
  | .mk s n tx ns ks => aloneB (.mk s n tx ns ks) && okHs ks
def okHs : List Tr → Bool
  | [] => true
  | t :: r => okH t && okHs r
end
theorem okH_eq (t : Tr) : okH t = (aloneB t && okHs t.kids) := by obtain ⟨s, n, tx, ns, ks⟩ := t; rw [okH]; rfl
theorem okHs_get {ks : List Tr} (h : okHs ks = true) (i : Nat) (hi : i < ks.length) : okH ks[i] = true := by
  induction ks generalizing i with
  | nil => simp at hi
  | cons a r ih =>
    rw [okHs, Bool.and_eq_true] at h
    match i with
    | 0 => exact h.1
    | i + 1 => exact ih h.2 i (by simp at hi; omega)
mutual
theorem okH_of_pT : ∀ (t : Tr) (d : Int), 0 ≤ pT t d → okH t = true
  | .mk s n tx ns ks, d => by
    intro h
    rw [pT] at h
    rw [okH]
    split at h
    · omega
    · rename_i hn
      have ha : aloneB (.mk s n tx ns ks) = true := by
        cases e : aloneB (.mk s n tx ns ks)
        · exact absurd (Or.inr e) hn
        · rfl
      rw [ha, okHs_of_pK ks d 1 h]; rfl
theorem okHs_of_pK : ∀ (ks : List Tr) (d n : Int), 0 ≤ pK ks d n → okHs ks = true
  | [], d, n => by intro _; rw [okHs]
  | t :: r, d, n => by
    intro h
    rw [pK] at h
    rw [okHs]
    split at h
    · omega
    · rename_i hn
      rw [okH_of_pT t (d + 1) (by omega), okHs_of_pK r d _ h]; rfl
end

/-- The schema of a tree's kid. -/
def kidOf (k : Kd) (i : Nat) : Kd := if k.sort = 5 then k.kids.getD i (.mk 0 [] []) else k.kids.getD 0 (.mk 0 [] [])
mutual
/-- A tree that is ok is of a schema that is ok. -/
def hT : Tr → Kd → Bool
  | .mk s _ _ ns ks, k => decide (k.sort = s) && decide (k.names = ns) && hK ks k 0
def hK : List Tr → Kd → Nat → Bool
  | [], _, _ => true
  | t :: r, k, i => hT t (kidOf k i) && hK r k (i + 1)
end
theorem hT_eq (t : Tr) (k : Kd) : hT t k = (decide (k.sort = t.sort) && decide (k.names = t.names) && hK t.kids k 0) := by obtain ⟨s, n, tx, ns, ks⟩ := t; rw [hT]; rfl
theorem hK_step {ks : List Tr} {i : Nat} (hi : i < ks.length) (k : Kd) : hK (ks.drop i) k i = (hT ks[i] (kidOf k i) && hK (ks.drop (i + 1)) k (i + 1)) := by
  rw [List.drop_eq_getElem_cons hi, hK]
theorem hK_done (ks : List Tr) (k : Kd) : hK (ks.drop ks.length) k ks.length = true := by rw [List.drop_length, hK]

/-- Where the schema of a kid stands. -/
theorem kid_at {k : Kd} {t : Tr} (hk : shB k = true) (ht : aloneB t = true) (hs : k.sort = t.sort) (hn : k.names = t.names) {i : Nat} (hi : i < t.kids.length) :
    0 < k.kids.length ∧ (k.sort = 5 → i < k.kids.length) := by
  unfold shB at hk
  unfold aloneB at ht
  rw [← hs] at ht
  rw [← hn] at ht
  by_cases h5 : k.sort = 5
  · simp [h5] at hk ht
    have := hk.1; have := ht.1
    exact ⟨by omega, fun _ => by omega⟩
  · refine ⟨?_, fun h => absurd h h5⟩
    by_cases h46 : k.sort = 4 ∨ k.sort = 6
    · have hn123 : ¬ (k.sort = 1 ∨ k.sort = 2 ∨ k.sort = 3) := by omega
      rw [if_neg hn123, if_pos h46] at hk
      have := of_decide_eq_true hk
      omega
    · exfalso
      have ht' : t.kids.length = 0 := by
        by_cases h1 : k.sort = 1
        · simp [h1] at ht; simp [ht]
        by_cases h2 : k.sort = 2
        · simp [h2] at ht; simp [ht]
        by_cases h3 : k.sort = 3
        · simp [h3] at ht; simp [ht]
        · rw [if_neg h1, if_neg h2, if_neg h3, if_neg (by omega), if_neg h5, if_neg (by omega)] at ht
          cases ht
      omega
theorem kidOf_form {k : Kd} (h : k.sort = 5) {i : Nat} (hi : i < k.kids.length) : kidOf k i = k.kids[i] := by
  rw [kidOf, if_pos h]; simp [List.getD, hi]
theorem kidOf_else {k : Kd} (h : k.sort ≠ 5) (i : Nat) (hi : 0 < k.kids.length) : kidOf k i = k.kids[0] := by
  rw [kidOf, if_neg h]; simp [List.getD, hi]
theorem names_ne {a b : List ByteArray} {i : Nat} (h1 : i < a.length) (h2 : i < b.length) (h : a[i] ≠ b[i]) : a ≠ b := by
  intro e; subst e; exact h rfl
theorem names_eq {a b : List ByteArray} (hl : a.length = b.length) (h : ∀ j, (h1 : j < a.length) → (h2 : j < b.length) → a[j] = b[j]) : a = b := List.ext_getElem hl h
theorem lst_loop (s : ByteArray) (n : Nat) : ∀ (i : Nat) (r : List UInt8), s.size - i = n → ByteArray.toList.loop s i r = r.reverse ++ s.data.toList.drop i := by
  induction n with
  | zero =>
    intro i r h
    unfold ByteArray.toList.loop
    rw [if_neg (by omega), List.drop_eq_nil_of_le (by simp only [Array.length_toList]; show s.size ≤ i; omega), List.append_nil]
  | succ n ih =>
    intro i r h
    unfold ByteArray.toList.loop
    have hi : i < s.size := by omega
    have e : s.get! i = s.data.toList[i]'(by simpa using hi) := by
      obtain ⟨d⟩ := s
      exact getElem!_pos d i hi
    have hdrop : s.data.toList.drop i = s.data.toList[i]'(by simpa using hi) :: s.data.toList.drop (i + 1) := List.drop_eq_getElem_cons (by simpa using hi)
    rw [if_pos hi, ih (i + 1) _ (by omega), hdrop, e, List.reverse_cons, List.append_assoc]
    rfl
theorem lst_data (s : ByteArray) : s.toList = s.data.toList := by
  have := lst_loop s s.size 0 [] (by omega)
  rw [List.drop_zero] at this
  exact this
theorem lst_beq (a b : ByteArray) : (a.toList == b.toList) = decide (a = b) := by
  rw [lst_data, lst_data, Bool.eq_iff_iff]
  simp only [beq_iff_eq, decide_eq_true_eq]
  constructor
  · intro h; exact ByteArray.ext (Array.toList_inj.1 h)
  · intro h; rw [h]
/-- What KindHas answers. -/
def hasA (k : Kd) (t : Tr) : Bool := decide (0 < qT k 1) && decide (0 < pT t 1) && hT t k

end Go.Proofs.Ytepknipcflbodaa
