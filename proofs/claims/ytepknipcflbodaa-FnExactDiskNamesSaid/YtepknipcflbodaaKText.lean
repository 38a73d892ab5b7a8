/- The text of a schema, as a plain function on data, and its length. No program, no conditions. -/
import Derived.Test.YtepknipcflbodaaKMath
namespace Go.Proofs.Ytepknipcflbodaa
open Go Go.RowKit

/-- What stands ahead of kid i of a form. -/
def kAhead (ns : List ByteArray) (i : Nat) : List UInt8 := (if 0 < i then [44] else []) ++ ((ns.getD i ByteArray.empty).data.toList ++ [58])

mutual
def kxT : Kd → List UInt8
  | .mk s ns ks =>
    if s = 1 then [110, 117, 109]
    else if s = 2 then [116, 101, 120, 116]
    else if s = 3 then [102, 108, 97, 103]
    else if s = 4 then [91] ++ kxM ks ++ [93]
    else if s = 6 then [63] ++ kxM ks
    else [123] ++ kxK ns 0 ks ++ [125]
def kxM : List Kd → List UInt8
  | [] => []
  | t :: _ => kxT t
def kxK (ns : List ByteArray) (i : Nat) : List Kd → List UInt8
  | [] => []
  | t :: r => kAhead ns i ++ kxT t ++ kxK ns (i + 1) r
end

mutual
/-- All of its parts are ok, but for their count and levels. -/
def okD : Kd → Bool
  | .mk s ns ks => shB (.mk s ns ks) && okDs ks
def okDs : List Kd → Bool
  | [] => true
  | t :: r => okD t && okDs r
end

theorem okD_eq (t : Kd) : okD t = (shB t && okDs t.kids) := by
  obtain ⟨s, ns, ks⟩ := t; rw [okD]; rfl
theorem okDs_get {ks : List Kd} (h : okDs ks = true) (i : Nat) (hi : i < ks.length) : okD ks[i] = true := by
  induction ks generalizing i with
  | nil => simp at hi
  | cons t r ih =>
    rw [okDs, Bool.and_eq_true] at h
    cases i with
    | zero => exact h.1
    | succ i => exact ih h.2 i (by simpa using hi)

theorem kxT_eq (t : Kd) : kxT t = if t.sort = 1 then [110, 117, 109]
    else if t.sort = 2 then [116, 101, 120, 116]
    else if t.sort = 3 then [102, 108, 97, 103]
    else if t.sort = 4 then [91] ++ kxM t.kids ++ [93]
    else if t.sort = 6 then [63] ++ kxM t.kids
    else [123] ++ kxK t.names 0 t.kids ++ [125] := by
  obtain ⟨s, ns, ks⟩ := t; rw [kxT]; rfl

theorem kxM_get {ks : List Kd} (h : 0 < ks.length) : kxM ks = kxT ks[0] := by
  cases ks with
  | nil => simp at h
  | cons t r => rw [kxM]; rfl

/-- The text of the first k kids. -/
def kxTo (ns : List ByteArray) (ks : List Kd) (k : Nat) : List UInt8 := kxK ns 0 (ks.take k)

theorem kxK_snoc (ns : List ByteArray) (i : Nat) (l : List Kd) (t : Kd) : kxK ns i (l ++ [t]) = kxK ns i l ++ (kAhead ns (i + l.length) ++ kxT t) := by
  induction l generalizing i with
  | nil => simp [kxK]
  | cons a r ih =>
    simp only [List.cons_append, kxK, List.length_cons]
    rw [ih (i + 1), show i + 1 + r.length = i + (r.length + 1) from by omega]
    simp only [List.append_assoc]

theorem kxTo_succ (ns : List ByteArray) (ks : List Kd) (k : Nat) (hk : k < ks.length) : kxTo ns ks (k + 1) = kxTo ns ks k ++ (kAhead ns k ++ kxT ks[k]) := by
  unfold kxTo
  rw [List.take_succ_eq_append_getElem hk, kxK_snoc]
  simp [Nat.min_eq_left (Nat.le_of_lt hk)]

theorem kxTo_all (ns : List ByteArray) (ks : List Kd) : kxTo ns ks ks.length = kxK ns 0 ks := by
  unfold kxTo; rw [List.take_length]

theorem kxTo_le (ns : List ByteArray) (ks : List Kd) (k : Nat) (hk : k ≤ ks.length) : (kxTo ns ks k).length ≤ (kxK ns 0 ks).length := by
  rw [← kxTo_all]
  have : ∀ m, k + m ≤ ks.length → (kxTo ns ks k).length ≤ (kxTo ns ks (k + m)).length := by
    intro m
    induction m with
    | zero => intro _; exact Nat.le_refl _
    | succ m ih =>
      intro h
      rw [show k + (m + 1) = k + m + 1 from by omega, kxTo_succ _ _ _ (by omega), List.length_append]
      have := ih (by omega); omega
  have := this (ks.length - k) (by omega)
  rwa [show k + (ks.length - k) = ks.length from by omega] at this

theorem shB_cases {t : Kd} (h : shB t = true) : ((t.sort = 1 ∨ t.sort = 2 ∨ t.sort = 3) ∧ t.kids.length = 0 ∧ t.names.length = 0) ∨ ((t.sort = 4 ∨ t.sort = 6) ∧ t.kids.length = 1 ∧ t.names.length = 0) ∨ (t.sort = 5 ∧ t.kids.length = t.names.length ∧ riseB t.names = true) := by
  unfold shB at h
  by_cases h1 : t.sort = 1 ∨ t.sort = 2 ∨ t.sort = 3
  · rw [if_pos h1] at h; exact Or.inl ⟨h1, of_decide_eq_true h⟩
  · rw [if_neg h1] at h
    by_cases h2 : t.sort = 4 ∨ t.sort = 6
    · rw [if_pos h2] at h; exact Or.inr (Or.inl ⟨h2, of_decide_eq_true h⟩)
    · rw [if_neg h2] at h
      by_cases h3 : t.sort = 5
      · rw [if_pos h3, Bool.and_eq_true] at h; exact Or.inr (Or.inr ⟨h3, of_decide_eq_true h.1, h.2⟩)
      · rw [if_neg h3] at h; cases h

mutual
theorem pord_len : ∀ (t : Kd) (l : Int), (pord t l).length = ksz t
  | .mk s ns ks, l => by rw [pord, ksz, List.length_cons, pordK_len ks (l + 1)]; omega
theorem pordK_len : ∀ (ks : List Kd) (l : Int), (pordK ks l).length = klsz ks
  | [], l => by rw [pordK, klsz]; rfl
  | t :: r, l => by rw [pordK, klsz, List.length_append, pord_len t l, pordK_len r l]
end
mutual
theorem okD_pord : ∀ (t : Kd) (l : Int), (pord t l).all gdB = true → okD t = true
  | .mk s ns ks, l => by
    intro h
    rw [pord, List.all_cons, Bool.and_eq_true] at h
    rw [okD, Bool.and_eq_true]
    refine ⟨?_, okDs_pord ks (l + 1) h.2⟩
    have := h.1
    simp only [gdB, Bool.and_eq_true] at this
    exact this.2
theorem okDs_pord : ∀ (ks : List Kd) (l : Int), (pordK ks l).all gdB = true → okDs ks = true
  | [], l => by intro _; rw [okDs]
  | t :: r, l => by
    intro h
    rw [pordK, List.all_append, Bool.and_eq_true] at h
    rw [okDs, Bool.and_eq_true]
    exact ⟨okD_pord t l h.1, okDs_pord r l h.2⟩
end

theorem ok_of_qT {t : Kd} (h : 0 < qT t 1) : okD t = true ∧ ksz t ≤ 40 := by
  have h' : decide (0 < qT t 1) = true := decide_eq_true h
  rw [qT_start, Bool.and_eq_true] at h'
  refine ⟨okD_pord t 1 h'.1, ?_⟩
  rw [← pord_len t 1]; exact of_decide_eq_true h'.2

theorem name_size {s : ByteArray} (h : nameOkB s = true) : s.size ≤ 8 := by
  unfold nameOkB at h
  simp only [Bool.and_eq_true, decide_eq_true_eq] at h
  omega

theorem rise_size {ss : List ByteArray} (h : riseB ss = true) (i : Nat) (hi : i < ss.length) : ss[i].size ≤ 8 := by
  have hg : good ss i = true := by
    cases hh : good ss i
    · exact absurd (rise_no hi hh) (by rw [h]; simp)
    · rfl
  apply name_size
  cases hn : nameOkB ss[i]
  · rw [good_name hi hn] at hg; cases hg
  · rfl

theorem kAhead_len {ns : List ByteArray} (h : riseB ns = true) (i : Nat) (hi : i < ns.length) : (kAhead ns i).length ≤ 10 := by
  have h1 := rise_size h i hi
  have e : (ns.getD i ByteArray.empty) = ns[i] := by simp [List.getD, hi]
  unfold kAhead
  rw [e]
  have e2 : ns[i].data.toList.length = ns[i].size := rfl
  simp only [List.length_append, List.length_cons, List.length_nil, e2]
  split <;> simp <;> omega

mutual
theorem kxT_len : ∀ (t : Kd), okD t = true → (kxT t).length + 10 ≤ 14 * ksz t
  | .mk s ns ks => by
    intro h
    rw [okD, Bool.and_eq_true] at h
    rw [ksz]
    rcases shB_cases h.1 with ⟨h1, h2, h3⟩ | ⟨h1, h2, h3⟩ | ⟨h1, h2, h3⟩
    · rw [kxT_eq]
      rcases h1 with h1 | h1 | h1
      · rw [if_pos h1]; simp; omega
      · rw [if_neg (by omega), if_pos h1]; simp; omega
      · rw [if_neg (by omega), if_neg (by omega), if_pos h1]; simp; omega
    · have hm := kxM_len ks h.2
      have h2' : ks.length = 1 := h2
      rw [kxT_eq, if_neg (by omega), if_neg (by omega), if_neg (by omega)]
      by_cases h4 : (Kd.mk s ns ks).sort = 4
      · rw [if_pos h4]
        simp only [List.length_append, List.length_cons, List.length_nil]
        show 1 + (kxM ks).length + 1 + 10 ≤ _
        have := hm (by omega)
        omega
      · rw [if_neg h4, if_pos (by omega)]
        simp only [List.length_append, List.length_cons, List.length_nil]
        show 1 + (kxM ks).length + 10 ≤ _
        have := hm (by omega)
        omega
    · have hk := kxK_len ns h3 ks 0 (by have : ks.length = ns.length := h2; omega) h.2
      rw [kxT_eq, if_neg (by omega), if_neg (by omega), if_neg (by omega), if_neg (by omega), if_neg (by omega)]
      simp only [List.length_append, List.length_cons, List.length_nil]
      show 1 + (kxK ns 0 ks).length + 1 + 10 ≤ _
      omega
theorem kxM_len : ∀ (ks : List Kd), okDs ks = true → 0 < ks.length → (kxM ks).length + 10 ≤ 14 * klsz ks
  | [] => by intro _ h; simp at h
  | t :: r => by
    intro h _
    rw [okDs, Bool.and_eq_true] at h
    rw [kxM, klsz]
    have := kxT_len t h.1
    omega
theorem kxK_len (ns : List ByteArray) (hr : riseB ns = true) : ∀ (ks : List Kd) (i : Nat), i + ks.length ≤ ns.length → okDs ks = true → (kxK ns i ks).length ≤ 14 * klsz ks
  | [], i => by intro _ _; rw [kxK]; simp
  | t :: r, i => by
    intro hi h
    rw [okDs, Bool.and_eq_true] at h
    rw [kxK, klsz]
    simp only [List.length_cons] at hi
    have h1 := kxT_len t h.1
    have h2 := kxK_len ns hr r (i + 1) (by omega) h.2
    have h3 := kAhead_len hr i (by omega)
    simp only [List.length_append]
    omega
end

/-- The text of a schema that is ok is short. -/
theorem kxT_short {t : Kd} (h : 0 < qT t 1) : (kxT t).length ≤ 560 := by
  obtain ⟨h1, h2⟩ := ok_of_qT h
  have := kxT_len t h1
  omega

end Go.Proofs.Ytepknipcflbodaa
