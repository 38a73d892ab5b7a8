/- What a schema's parts are by the specification, and by the program's walk: they count alike. Plain functions on data; no program, no conditions. -/
import Derived.Test.YtmaojhacdelleaaPart07
import Derived.Test.YtmaojhacdelleaaPart01
namespace Go.Proofs.Ytmaojhacdelleaa
open Go Go.RowKit

/-- A schema is ok, but for its kids and the bounds. -/
def shB (k : Kd) : Bool :=
  if k.sort = 1 ∨ k.sort = 2 ∨ k.sort = 3 then decide (k.kids.length = 0 ∧ k.names.length = 0)
  else if k.sort = 4 ∨ k.sort = 6 then decide (k.kids.length = 1 ∧ k.names.length = 0)
  else if k.sort = 5 then decide (k.kids.length = k.names.length) && riseB k.names
  else false

mutual
/-- The parts of a schema at a level, -1 if it is not ok: by the specification. -/
def qT : Kd → Int → Int
  | .mk s ns ks, d => if 6 < d ∨ shB (.mk s ns ks) = false then -1 else qK ks d 1
def qK : List Kd → Int → Int → Int
  | [], _, n => n
  | t :: r, d, n => if qT t (d + 1) < 0 ∨ 40 < n + qT t (d + 1) then -1 else qK r d (n + qT t (d + 1))
end

theorem qT_eq (t : Kd) (d : Int) : qT t d = if 6 < d ∨ shB t = false then -1 else qK t.kids d 1 := by
  obtain ⟨s, ns, ks⟩ := t
  rw [qT]; rfl

theorem qK_bd (ks : List Kd) (d n : Int) (h0 : 1 ≤ n) (h1 : n ≤ 40) : qK ks d n = -1 ∨ (1 ≤ qK ks d n ∧ qK ks d n ≤ 40) := by
  induction ks generalizing n with
  | nil => rw [qK]; omega
  | cons t r ih =>
    rw [qK]
    split
    · exact Or.inl rfl
    · exact ih _ (by omega) (by omega)

theorem qT_bd (t : Kd) (d : Int) : qT t d = -1 ∨ (1 ≤ qT t d ∧ qT t d ≤ 40) := by
  rw [qT_eq]
  split
  · exact Or.inl rfl
  · exact qK_bd _ _ _ (by omega) (by omega)

theorem qK_step {ks : List Kd} {k : Nat} (hk : k < ks.length) (d n : Int) : qK (ks.drop k) d n = if qT ks[k] (d + 1) < 0 ∨ 40 < n + qT ks[k] (d + 1) then -1 else qK (ks.drop (k + 1)) d (n + qT ks[k] (d + 1)) := by
  rw [List.drop_eq_getElem_cons hk, qK]

mutual
/-- A schema and all below it, with their levels, a node ahead of its kids. -/
def pord : Kd → Int → List (Int × Kd)
  | .mk s ns ks, l => (l, .mk s ns ks) :: pordK ks (l + 1)
def pordK : List Kd → Int → List (Int × Kd)
  | [], _ => []
  | t :: r, l => pord t l ++ pordK r l
end

theorem pord_eq (t : Kd) (l : Int) : pord t l = (l, t) :: pordK t.kids (l + 1) := by
  obtain ⟨s, ns, ks⟩ := t
  rw [pord]; rfl

/-- What is asked of a node. -/
def gdB (x : Int × Kd) : Bool := decide (x.1 ≤ 6) && shB x.2

mutual
theorem qT_pord : ∀ (t : Kd) (d : Int), qT t d = if (pord t d).all gdB = true ∧ (pord t d).length ≤ 40 then ((pord t d).length : Int) else -1
  | .mk s ns ks, d => by
    rw [qT, pord]
    by_cases h : 6 < d ∨ shB (.mk s ns ks) = false
    · rw [if_pos h, if_neg]
      rintro ⟨h1, -⟩
      simp only [List.all_cons, Bool.and_eq_true, gdB, decide_eq_true_eq] at h1
      rcases h with h | h
      · omega
      · rw [h] at h1; simp at h1
    · have h1 : d ≤ 6 := by omega
      have h2 : shB (.mk s ns ks) = true := by
        cases hh : shB (.mk s ns ks)
        · exact absurd (Or.inr hh) h
        · rfl
      have hg : gdB (d, .mk s ns ks) = true := by simp [gdB, h1, h2]
      rw [if_neg h, qK_pord ks d 1 (by omega) (by omega)]
      simp only [List.all_cons, hg, Bool.true_and, List.length_cons]
      by_cases hx : (pordK ks (d + 1)).all gdB = true ∧ (1 : Int) + (pordK ks (d + 1)).length ≤ 40
      · rw [if_pos hx, if_pos ⟨hx.1, by omega⟩]; omega
      · rw [if_neg hx, if_neg (fun hy => hx ⟨hy.1, by omega⟩)]
theorem qK_pord : ∀ (ks : List Kd) (d n : Int), 1 ≤ n → n ≤ 40 → qK ks d n = if (pordK ks (d + 1)).all gdB = true ∧ n + (pordK ks (d + 1)).length ≤ 40 then n + ((pordK ks (d + 1)).length : Int) else -1
  | [], d, n => by
    intro h1 h2
    rw [qK, pordK]
    simp [h2]
  | t :: r, d, n => by
    intro h1 h2
    rw [qK, pordK, qT_pord t (d + 1)]
    simp only [List.all_append, List.length_append, Bool.and_eq_true]
    by_cases ha : (pord t (d + 1)).all gdB = true ∧ (pord t (d + 1)).length ≤ 40
    · rw [if_pos ha]
      by_cases hb : n + ((pord t (d + 1)).length : Int) ≤ 40
      · rw [if_neg (by omega), qK_pord r d _ (by omega) hb]
        by_cases hx : (pordK r (d + 1)).all gdB = true ∧ n + ((pord t (d + 1)).length : Int) + (pordK r (d + 1)).length ≤ 40
        · rw [if_pos hx, if_pos ⟨⟨ha.1, hx.1⟩, by omega⟩]; omega
        · rw [if_neg hx, if_neg (fun hy => hx ⟨hy.1.2, by omega⟩)]
      · rw [if_pos (by omega), if_neg (fun hy => by omega)]
    · rw [if_neg ha, if_pos (by omega), if_neg (fun hy => ha ⟨hy.1.1, by omega⟩)]
end

/-- The walk ends just if the schema is ok. -/
theorem qT_start (t : Kd) : decide (0 < qT t 1) = ((pord t 1).all gdB && decide ((pord t 1).length ≤ 40)) := by
  have hl : 0 < (pord t 1).length := by rw [pord_eq]; simp
  rw [qT_pord]
  by_cases h : (pord t 1).all gdB = true ∧ (pord t 1).length ≤ 40
  · rw [if_pos h]; simp only [h.1, h.2, decide_true, Bool.and_self]; simp; omega
  · rw [if_neg h]
    symm
    rw [show decide ((0 : Int) < -1) = false from rfl]
    cases hh : (pord t 1).all gdB
    · rfl
    · simp only [Bool.true_and, decide_eq_false_iff_not]; exact fun hy => h ⟨hh, hy⟩

theorem ksz_w (t : Kd) : ksz t ≤ wKd t + 1 := by
  have key : ∀ n, ∀ t : Kd, ksz t ≤ n → ksz t ≤ wKd t + 1 := by
    intro n
    induction n with
    | zero => intro t h; obtain ⟨s, ns, ks⟩ := t; rw [ksz] at h; omega
    | succ n ih =>
      intro t h
      obtain ⟨s, ns, ks⟩ := t
      rw [ksz] at h ⊢
      rw [wKd]
      have : ∀ l : List Kd, klsz l ≤ n → klsz l ≤ wKs l := by
        intro l
        induction l with
        | nil => intro _; simp [klsz]
        | cons a r ihl =>
          intro hl
          rw [klsz] at hl ⊢
          rw [wKs]
          have h1 := ih a (by omega)
          have h2 := ihl (by omega)
          omega
      have := this ks (by omega)
      omega
  exact key _ t (Nat.le_refl _)

end Go.Proofs.Ytmaojhacdelleaa

/- The text of a schema, as a plain function on data, and its length. No program, no conditions. -/

namespace Go.Proofs.Ytmaojhacdelleaa
open Go Go.RowKit

/-- What stands ahead of kid i of a form. -/
def kAhead (ns : List ByteArray) (i : Nat) : List UInt8 := (if 0 < i then [44] else []) ++ ((ns.getD i ByteArray.empty).data.toList ++ [58])

mutual
def kxT : Kd → List UInt8
  | .mk s ns ks =>
    if s = 1 then [110, 117, 109]
    else if s = 2 then [116, 101, 120, 116]
    else if s = 3 then [102, 108, 97, 103]
    else if s = 4 then [91] ++ kxM ks ++ [93]
    else if s = 6 then [63] ++ kxM ks
    else [123] ++ kxK ns 0 ks ++ [125]
def kxM : List Kd → List UInt8
  | [] => []
  | t :: _ => kxT t
def kxK (ns : List ByteArray) (i : Nat) : List Kd → List UInt8
  | [] => []
  | t :: r => kAhead ns i ++ kxT t ++ kxK ns (i + 1) r
end

mutual
/-- All of its parts are ok, but for their count and levels. -/
def okD : Kd → Bool
  | .mk s ns ks => shB (.mk s ns ks) && okDs ks
def okDs : List Kd → Bool
  | [] => true
  | t :: r => okD t && okDs r
end

theorem okD_eq (t : Kd) : okD t = (shB t && okDs t.kids) := by
  obtain ⟨s, ns, ks⟩ := t; rw [okD]; rfl
theorem okDs_get {ks : List Kd} (h : okDs ks = true) (i : Nat) (hi : i < ks.length) : okD ks[i] = true := by
  induction ks generalizing i with
  | nil => simp at hi
  | cons t r ih =>
    rw [okDs, Bool.and_eq_true] at h
    cases i with
    | zero => exact h.1
    | succ i => exact ih h.2 i (by simpa using hi)

theorem kxT_eq (t : Kd) : kxT t = if t.sort = 1 then [110, 117, 109]
    else if t.sort = 2 then [116, 101, 120, 116]
    else if t.sort = 3 then [102, 108, 97, 103]
    else if t.sort = 4 then [91] ++ kxM t.kids ++ [93]
    else if t.sort = 6 then [63] ++ kxM t.kids
    else [123] ++ kxK t.names 0 t.kids ++ [125] := by
  obtain ⟨s, ns, ks⟩ := t; rw [kxT]; rfl

theorem kxM_get {ks : List Kd} (h : 0 < ks.length) : kxM ks = kxT ks[0] := by
  cases ks with
  | nil => simp at h
  | cons t r => rw [kxM]; rfl

/-- The text of the first k kids. -/
def kxTo (ns : List ByteArray) (ks : List Kd) (k : Nat) : List UInt8 := kxK ns 0 (ks.take k)

theorem kxK_snoc (ns : List ByteArray) (i : Nat) (l : List Kd) (t : Kd) : kxK ns i (l ++ [t]) = kxK ns i l ++ (kAhead ns (i + l.length) ++ kxT t) := by
  induction l generalizing i with
  | nil => simp [kxK]
  | cons a r ih =>
    simp only [List.cons_append, kxK, List.length_cons]
    rw [ih (i + 1), show i + 1 + r.length = i + (r.length + 1) from by omega]
    simp only [List.append_assoc]

theorem kxTo_succ (ns : List ByteArray) (ks : List Kd) (k : Nat) (hk : k < ks.length) : kxTo ns ks (k + 1) = kxTo ns ks k ++ (kAhead ns k ++ kxT ks[k]) := by
  unfold kxTo
  rw [List.take_succ_eq_append_getElem hk, kxK_snoc]
  simp [Nat.min_eq_left (Nat.le_of_lt hk)]

theorem kxTo_all (ns : List ByteArray) (ks : List Kd) : kxTo ns ks ks.length = kxK ns 0 ks := by
  unfold kxTo; rw [List.take_length]

theorem kxTo_le (ns : List ByteArray) (ks : List Kd) (k : Nat) (hk : k ≤ ks.length) : (kxTo ns ks k).length ≤ (kxK ns 0 ks).length := by
  rw [← kxTo_all]
  have : ∀ m, k + m ≤ ks.length → (kxTo ns ks k).length ≤ (kxTo ns ks (k + m)).length := by
    intro m
    induction m with
    | zero => intro _; exact Nat.le_refl _
    | succ m ih =>
      intro h
      rw [show k + (m + 1) = k + m + 1 from by omega, kxTo_succ _ _ _ (by omega), List.length_append]
      have := ih (by omega); omega
  have := this (ks.length - k) (by omega)
  rwa [show k + (ks.length - k) = ks.length from by omega] at this

theorem shB_cases {t : Kd} (h : shB t = true) : ((t.sort = 1 ∨ t.sort = 2 ∨ t.sort = 3) ∧ t.kids.length = 0 ∧ t.names.length = 0) ∨ ((t.sort = 4 ∨ t.sort = 6) ∧ t.kids.length = 1 ∧ t.names.length = 0) ∨ (t.sort = 5 ∧ t.kids.length = t.names.length ∧ riseB t.names = true) := by
  unfold shB at h
  by_cases h1 : t.sort = 1 ∨ t.sort = 2 ∨ t.sort = 3
  · rw [if_pos h1] at h; exact Or.inl ⟨h1, of_decide_eq_true h⟩
  · rw [if_neg h1] at h
    by_cases h2 : t.sort = 4 ∨ t.sort = 6
    · rw [if_pos h2] at h; exact Or.inr (Or.inl ⟨h2, of_decide_eq_true h⟩)
    · rw [if_neg h2] at h
      by_cases h3 : t.sort = 5
      · rw [if_pos h3, Bool.and_eq_true] at h; exact Or.inr (Or.inr ⟨h3, of_decide_eq_true h.1, h.2⟩)
      · rw [if_neg h3] at h; cases h

mutual
theorem pord_len : ∀ (t : Kd) (l : Int), (pord t l).length = ksz t
  | .mk s ns ks, l => by rw [pord, ksz, List.length_cons, pordK_len ks (l + 1)]; omega
theorem pordK_len : ∀ (ks : List Kd) (l : Int), (pordK ks l).length = klsz ks
  | [], l => by rw [pordK, klsz]; rfl
  | t :: r, l => by rw [pordK, klsz, List.length_append, pord_len t l, pordK_len r l]
end
mutual
theorem okD_pord : ∀ (t : Kd) (l : Int), (pord t l).all gdB = true → okD t = true
  | .mk s ns ks, l => by
    intro h
    rw [pord, List.all_cons, Bool.and_eq_true] at h
    rw [okD, Bool.and_eq_true]
    refine ⟨?_, okDs_pord ks (l + 1) h.2⟩
    have := h.1
    simp only [gdB, Bool.and_eq_true] at this
    exact this.2
theorem okDs_pord : ∀ (ks : List Kd) (l : Int), (pordK ks l).all gdB = true → okDs ks = true
  | [], l => by intro _; rw [okDs]
  | t :: r, l => by
    intro h
    rw [pordK, List.all_append, Bool.and_eq_true] at h
    rw [okDs, Bool.and_eq_true]
    exact ⟨okD_pord t l h.1, okDs_pord r l h.2⟩
end

theorem ok_of_qT {t : Kd} (h : 0 < qT t 1) : okD t = true ∧ ksz t ≤ 40 := by
  have h' : decide (0 < qT t 1) = true := decide_eq_true h
  rw [qT_start, Bool.and_eq_true] at h'
  refine ⟨okD_pord t 1 h'.1, ?_⟩
  rw [← pord_len t 1]; exact of_decide_eq_true h'.2

theorem name_size {s : ByteArray} (h : nameOkB s = true) : s.size ≤ 8 := by
  unfold nameOkB at h
  simp only [Bool.and_eq_true, decide_eq_true_eq] at h
  omega

theorem rise_size {ss : List ByteArray} (h : riseB ss = true) (i : Nat) (hi : i < ss.length) : ss[i].size ≤ 8 := by
  have hg : good ss i = true := by
    cases hh : good ss i
    · exact absurd (rise_no hi hh) (by rw [h]; simp)
    · rfl
  apply name_size
  cases hn : nameOkB ss[i]
  · rw [good_name hi hn] at hg; cases hg
  · rfl

theorem kAhead_len {ns : List ByteArray} (h : riseB ns = true) (i : Nat) (hi : i < ns.length) : (kAhead ns i).length ≤ 10 := by
  have h1 := rise_size h i hi
  have e : (ns.getD i ByteArray.empty) = ns[i] := by simp [List.getD, hi]
  unfold kAhead
  rw [e]
  have e2 : ns[i].data.toList.length = ns[i].size := rfl
  simp only [List.length_append, List.length_cons, List.length_nil, e2]
  split <;> simp <;> omega

mutual
theorem kxT_len : ∀ (t : Kd), okD t = true → (kxT t).length + 10 ≤ 14 * ksz t
  | .mk s ns ks => by
    intro h
    rw [okD, Bool.and_eq_true] at h
    rw [ksz]
    rcases shB_cases h.1 with ⟨h1, h2, h3⟩ | ⟨h1, h2, h3⟩ | ⟨h1, h2, h3⟩
    · rw [kxT_eq]
      rcases h1 with h1 | h1 | h1
      · rw [if_pos h1]; simp; omega
      · rw [if_neg (by omega), if_pos h1]; simp; omega
      · rw [if_neg (by omega), if_neg (by omega), if_pos h1]; simp; omega
    · have hm := kxM_len ks h.2
      have h2' : ks.length = 1 := h2
      rw [kxT_eq, if_neg (by omega), if_neg (by omega), if_neg (by omega)]
      by_cases h4 : (Kd.mk s ns ks).sort = 4
      · rw [if_pos h4]
        simp only [List.length_append, List.length_cons, List.length_nil]
        show 1 + (kxM ks).length + 1 + 10 ≤ _
        have := hm (by omega)
        omega
      · rw [if_neg h4, if_pos (by omega)]
        simp only [List.length_append, List.length_cons, List.length_nil]
        show 1 + (kxM ks).length + 10 ≤ _
        have := hm (by omega)
        omega
    · have hk := kxK_len ns h3 ks 0 (by have : ks.length = ns.length := h2; omega) h.2
      rw [kxT_eq, if_neg (by omega), if_neg (by omega), if_neg (by omega), if_neg (by omega), if_neg (by omega)]
      simp only [List.length_append, List.length_cons, List.length_nil]
      show 1 + (kxK ns 0 ks).length + 1 + 10 ≤ _
      omega
theorem kxM_len : ∀ (ks : List Kd), okDs ks = true → 0 < ks.length → (kxM ks).length + 10 ≤ 14 * klsz ks
  | [] => by intro _ h; simp at h
  | t :: r => by
    intro h _
    rw [okDs, Bool.and_eq_true] at h
    rw [kxM, klsz]
    have := kxT_len t h.1
    omega
theorem kxK_len (ns : List ByteArray) (hr : riseB ns = true) : ∀ (ks : List Kd) (i : Nat), i + ks.length ≤ ns.length → okDs ks = true → (kxK ns i ks).length ≤ 14 * klsz ks
  | [], i => by intro _ _; rw [kxK]; simp
  | t :: r, i => by
    intro hi h
    rw [okDs, Bool.and_eq_true] at h
    rw [kxK, klsz]
    simp only [List.length_cons] at hi
    have h1 := kxT_len t h.1
    have h2 := kxK_len ns hr r (i + 1) (by omega) h.2
    have h3 := kAhead_len hr i (by omega)
    simp only [List.length_append]
    omega
end

/-- The text of a schema that is ok is short. -/
theorem kxT_short {t : Kd} (h : 0 < qT t 1) : (kxT t).length ≤ 560 := by
  obtain ⟨h1, h2⟩ := ok_of_qT h
  have := kxT_len t h1
  omega

end Go.Proofs.Ytmaojhacdelleaa

/- Whether a tree is of a schema, as a function on data; trees all of whose parts are ok. Definitions and small laws; no program, no conditions. -/

namespace Go.Proofs.Ytmaojhacdelleaa
open Go Go.RowKit

mutual
/-- All parts of a tree are ok, the bounds aside. -/
def okH : Tr → Bool
  | .mk s n tx ns ks => aloneB (.mk s n tx ns ks) && okHs ks
def okHs : List Tr → Bool
  | [] => true
  | t :: r => okH t && okHs r
end
theorem okH_eq (t : Tr) : okH t = (aloneB t && okHs t.kids) := by obtain ⟨s, n, tx, ns, ks⟩ := t; rw [okH]; rfl
theorem okHs_get {ks : List Tr} (h : okHs ks = true) (i : Nat) (hi : i < ks.length) : okH ks[i] = true := by
  induction ks generalizing i with
  | nil => simp at hi
  | cons a r ih =>
    rw [okHs, Bool.and_eq_true] at h
    match i with
    | 0 => exact h.1
    | i + 1 => exact ih h.2 i (by simp at hi; omega)
mutual
theorem okH_of_pT : ∀ (t : Tr) (d : Int), 0 ≤ pT t d → okH t = true
  | .mk s n tx ns ks, d => by
    intro h
    rw [pT] at h
    rw [okH]
    split at h
    · omega
    · rename_i hn
      have ha : aloneB (.mk s n tx ns ks) = true := by
        cases e : aloneB (.mk s n tx ns ks)
        · exact absurd (Or.inr e) hn
        · rfl
      rw [ha, okHs_of_pK ks d 1 h]; rfl
theorem okHs_of_pK : ∀ (ks : List Tr) (d n : Int), 0 ≤ pK ks d n → okHs ks = true
  | [], d, n => by intro _; rw [okHs]
  | t :: r, d, n => by
    intro h
    rw [pK] at h
    rw [okHs]
    split at h
    · omega
    · rename_i hn
      rw [okH_of_pT t (d + 1) (by omega), okHs_of_pK r d _ h]; rfl
end

/-- The schema of a tree's kid. -/
def kidOf (k : Kd) (i : Nat) : Kd := if k.sort = 5 then k.kids.getD i (.mk 0 [] []) else k.kids.getD 0 (.mk 0 [] [])
mutual
/-- A tree that is ok is of a schema that is ok. -/
def hT : Tr → Kd → Bool
  | .mk s _ _ ns ks, k => decide (k.sort = s) && decide (k.names = ns) && hK ks k 0
def hK : List Tr → Kd → Nat → Bool
  | [], _, _ => true
  | t :: r, k, i => hT t (kidOf k i) && hK r k (i + 1)
end
theorem hT_eq (t : Tr) (k : Kd) : hT t k = (decide (k.sort = t.sort) && decide (k.names = t.names) && hK t.kids k 0) := by obtain ⟨s, n, tx, ns, ks⟩ := t; rw [hT]; rfl
theorem hK_step {ks : List Tr} {i : Nat} (hi : i < ks.length) (k : Kd) : hK (ks.drop i) k i = (hT ks[i] (kidOf k i) && hK (ks.drop (i + 1)) k (i + 1)) := by
  rw [List.drop_eq_getElem_cons hi, hK]
theorem hK_done (ks : List Tr) (k : Kd) : hK (ks.drop ks.length) k ks.length = true := by rw [List.drop_length, hK]

/-- Where the schema of a kid stands. -/
theorem kid_at {k : Kd} {t : Tr} (hk : shB k = true) (ht : aloneB t = true) (hs : k.sort = t.sort) (hn : k.names = t.names) {i : Nat} (hi : i < t.kids.length) :
    0 < k.kids.length ∧ (k.sort = 5 → i < k.kids.length) := by
  unfold shB at hk
  unfold aloneB at ht
  rw [← hs] at ht
  rw [← hn] at ht
  by_cases h5 : k.sort = 5
  · simp [h5] at hk ht
    have := hk.1; have := ht.1
    exact ⟨by omega, fun _ => by omega⟩
  · refine ⟨?_, fun h => absurd h h5⟩
    by_cases h46 : k.sort = 4 ∨ k.sort = 6
    · have hn123 : ¬ (k.sort = 1 ∨ k.sort = 2 ∨ k.sort = 3) := by omega
      rw [if_neg hn123, if_pos h46] at hk
      have := of_decide_eq_true hk
      omega
    · exfalso
      have ht' : t.kids.length = 0 := by
        by_cases h1 : k.sort = 1
        · simp [h1] at ht; simp [ht]
        by_cases h2 : k.sort = 2
        · simp [h2] at ht; simp [ht]
        by_cases h3 : k.sort = 3
        · simp [h3] at ht; simp [ht]
        · rw [if_neg h1, if_neg h2, if_neg h3, if_neg (by omega), if_neg h5, if_neg (by omega)] at ht
          cases ht
      omega
theorem kidOf_form {k : Kd} (h : k.sort = 5) {i : Nat} (hi : i < k.kids.length) : kidOf k i = k.kids[i] := by
  rw [kidOf, if_pos h]; simp [List.getD, hi]
theorem kidOf_else {k : Kd} (h : k.sort ≠ 5) (i : Nat) (hi : 0 < k.kids.length) : kidOf k i = k.kids[0] := by
  rw [kidOf, if_neg h]; simp [List.getD, hi]
theorem names_ne {a b : List ByteArray} {i : Nat} (h1 : i < a.length) (h2 : i < b.length) (h : a[i] ≠ b[i]) : a ≠ b := by
  intro e; subst e; exact h rfl
theorem names_eq {a b : List ByteArray} (hl : a.length = b.length) (h : ∀ j, (h1 : j < a.length) → (h2 : j < b.length) → a[j] = b[j]) : a = b := List.ext_getElem hl h
theorem lst_loop (s : ByteArray) (n : Nat) : ∀ (i : Nat) (r : List UInt8), s.size - i = n → ByteArray.toList.loop s i r = r.reverse ++ s.data.toList.drop i := by
  induction n with
  | zero =>
    intro i r h
    unfold ByteArray.toList.loop
    rw [if_neg (by omega), List.drop_eq_nil_of_le (by simp only [Array.length_toList]; show s.size ≤ i; omega), List.append_nil]
  | succ n ih =>
    intro i r h
    unfold ByteArray.toList.loop
    have hi : i < s.size := by omega
    have e : s.get! i = s.data.toList[i]'(by simpa using hi) := by
      obtain ⟨d⟩ := s
      exact getElem!_pos d i hi
    have hdrop : s.data.toList.drop i = s.data.toList[i]'(by simpa using hi) :: s.data.toList.drop (i + 1) := List.drop_eq_getElem_cons (by simpa using hi)
    rw [if_pos hi, ih (i + 1) _ (by omega), hdrop, e, List.reverse_cons, List.append_assoc]
    rfl
theorem lst_data (s : ByteArray) : s.toList = s.data.toList := by
  have := lst_loop s s.size 0 [] (by omega)
  rw [List.drop_zero] at this
  exact this
theorem lst_beq (a b : ByteArray) : (a.toList == b.toList) = decide (a = b) := by
  rw [lst_data, lst_data, Bool.eq_iff_iff]
  simp only [beq_iff_eq, decide_eq_true_eq]
  constructor
  · intro h; exact ByteArray.ext (Array.toList_inj.1 h)
  · intro h; rw [h]
/-- What KindHas answers. -/
def hasA (k : Kd) (t : Tr) : Bool := decide (0 < qT k 1) && decide (0 < pT t 1) && hT t k

end Go.Proofs.Ytmaojhacdelleaa
