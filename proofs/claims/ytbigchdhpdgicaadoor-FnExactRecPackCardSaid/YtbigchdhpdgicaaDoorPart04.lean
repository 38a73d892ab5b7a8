/- When a tree is ok, as plain functions on data: names, texts, a tree without its kids, its parts. Definitions and small laws, no program. No conditions. -/
import Derived.Test.YtbigchdhpdgicaaDoorPart00
import Derived.WalkKit
import Derived.Deep.OwnRows
namespace Go.Proofs.YtbigchdhpdgicaaDoor
open Go Go.RowKit

def nameByte (c : UInt8) : Bool := (97 ≤ c.toNat && c.toNat ≤ 122) || (48 ≤ c.toNat && c.toNat ≤ 57)
def nameFirst (c : UInt8) : Bool := 97 ≤ c.toNat && c.toNat ≤ 122
def textByte (c : UInt8) : Bool := 32 ≤ c.toNat && c.toNat ≤ 126 && c.toNat != 34

/-- The first k bytes are such. -/
def allTo (p : UInt8 → Bool) (s : ByteArray) (k : Nat) : Prop := ∀ j, j < k → (h : j < s.size) → p s[j] = true

def nameOkB (s : ByteArray) : Bool := 1 ≤ s.size && s.size ≤ 8 && nameFirst s[0]! && s.data.toList.all nameByte
def textOkB (s : ByteArray) : Bool := s.size ≤ 60 && s.data.toList.all textByte

theorem all_of {p : UInt8 → Bool} {s : ByteArray} (h : allTo p s s.size) : s.data.toList.all p = true := by
  rw [List.all_eq_true]
  intro x hx
  obtain ⟨i, hi, rfl⟩ := List.getElem_of_mem hx
  have hi' : i < s.size := by simpa using hi
  exact h i hi' hi'

theorem all_not {p : UInt8 → Bool} {s : ByteArray} {k : Nat} (hk : k < s.size) (h : p s[k] = false) : s.data.toList.all p = false := by
  rw [Bool.eq_false_iff]
  intro ha
  rw [List.all_eq_true] at ha
  have := ha s[k] (by have : s[k] = s.data.toList[k]'(by simpa using hk) := rfl; rw [this]; exact List.getElem_mem _)
  rw [h] at this
  cases this

theorem ret_bool {b c : Bool} (h : b = c) : Ending.returned (.bool b) = .returned (.bool c) := by rw [h]

theorem textOk_not {s : ByteArray} {k : Nat} (hk : k < s.size) (h : textByte s[k] = false) : textOkB s = false := by
  simp [textOkB, all_not hk h]
theorem textOk_yes {s : ByteArray} (h : s.size ≤ 60) (ha : allTo textByte s s.size) : textOkB s = true := by
  simp [textOkB, h]; simpa using all_of ha
theorem textByte_no {c : UInt8} (h : c.toNat < 32 ∨ 126 < c.toNat ∨ c.toNat = 34) : textByte c = false := by
  unfold textByte; rcases h with h | h | h
  · rw [show decide (32 ≤ c.toNat) = false from by simp; omega]; rfl
  · rw [show decide (c.toNat ≤ 126) = false from by simp; omega]; simp
  · rw [h]; rfl
theorem textByte_yes {c : UInt8} (h : 32 ≤ c.toNat ∧ c.toNat ≤ 126 ∧ c.toNat ≠ 34) : textByte c = true := by
  unfold textByte; simp [h.1, h.2.1, h.2.2]
theorem allTo_succ {p : UInt8 → Bool} {s : ByteArray} {k : Nat} (h : allTo p s k) (hk : k < s.size) (hp : p s[k] = true) : allTo p s (k + 1) := by
  intro j hj hs
  by_cases e : j = k
  · subst e; exact hp
  · exact h j (by omega) hs

theorem nameByte_yes {c : UInt8} (h : (97 ≤ c.toNat ∧ c.toNat ≤ 122) ∨ (48 ≤ c.toNat ∧ c.toNat ≤ 57)) : nameByte c = true := by
  unfold nameByte; rcases h with h | h <;> simp [h.1, h.2]
theorem nameByte_no {c : UInt8} (h : c.toNat < 48 ∨ (57 < c.toNat ∧ c.toNat < 97) ∨ 122 < c.toNat) : nameByte c = false := by
  unfold nameByte
  simp only [Bool.or_eq_false_iff, Bool.and_eq_false_iff, decide_eq_false_iff_not]
  omega
theorem nameOk_len {s : ByteArray} (h : s.size < 1 ∨ 8 < s.size) : nameOkB s = false := by
  unfold nameOkB
  rcases h with h | h
  · rw [show decide (1 ≤ s.size) = false from decide_eq_false (by omega)]; rfl
  · rw [show decide (s.size ≤ 8) = false from decide_eq_false (by omega)]; simp
theorem nameOk_first {s : ByteArray} (h0 : 0 < s.size) (h : s[0].toNat < 97 ∨ 122 < s[0].toNat) : nameOkB s = false := by
  unfold nameOkB
  rw [getElem!_pos s 0 h0, show nameFirst s[0] = false from by unfold nameFirst; simp only [Bool.and_eq_false_iff, decide_eq_false_iff_not]; omega]
  simp
theorem nameOk_not {s : ByteArray} {k : Nat} (hk : k < s.size) (h : nameByte s[k] = false) : nameOkB s = false := by
  simp [nameOkB, all_not hk h]
theorem nameOk_yes {s : ByteArray} (h1 : 0 < s.size) (h2 : s.size ≤ 8) (hf : 97 ≤ s[0].toNat ∧ s[0].toNat ≤ 122) (ha : allTo nameByte s s.size) : nameOkB s = true := by
  unfold nameOkB
  rw [all_of ha, getElem!_pos s 0 h1, show nameFirst s[0] = true from by unfold nameFirst; simp [hf.1, hf.2]]
  simp; omega

theorem getD_lt (l : List ByteArray) (i : Nat) (h : i < l.length) : l.getD i ByteArray.empty = l[i] := by simp [h]

/-- Name i of a list is a name, and comes behind the one ahead of it. -/
def good (ns : List ByteArray) (i : Nat) : Bool := nameOkB (ns.getD i ByteArray.empty) && (decide (i = 0) || Op.bytesLess (ns.getD (i - 1) ByteArray.empty).toList (ns.getD i ByteArray.empty).toList)
def riseB (ns : List ByteArray) : Bool := (List.range ns.length).all (good ns)
theorem rise_yes {ns : List ByteArray} (h : ∀ i, i < ns.length → good ns i = true) : riseB ns = true := by
  unfold riseB; rw [List.all_eq_true]; intro i hi; exact h i (List.mem_range.1 hi)
theorem rise_no {ns : List ByteArray} {i : Nat} (hi : i < ns.length) (h : good ns i = false) : riseB ns = false := by
  unfold riseB; rw [Bool.eq_false_iff]; intro ha; rw [List.all_eq_true] at ha
  have := ha i (List.mem_range.2 hi); rw [h] at this; cases this
theorem good_name {ns : List ByteArray} {i : Nat} (hi : i < ns.length) (h : nameOkB ns[i] = false) : good ns i = false := by
  unfold good; rw [getD_lt _ _ hi, h]; rfl
theorem good_zero {ns : List ByteArray} (hi : 0 < ns.length) (h : nameOkB ns[0] = true) : good ns 0 = true := by
  unfold good; rw [getD_lt _ _ hi, h]; rfl
theorem good_pos {ns : List ByteArray} {i : Nat} (hi : i < ns.length) (h0 : 0 < i) (h : nameOkB ns[i] = true) : good ns i = Op.bytesLess (ns[i - 1]'(by omega)).toList ns[i].toList := by
  unfold good; rw [getD_lt _ _ hi, getD_lt _ _ (show i - 1 < ns.length by omega), h, decide_eq_false (by omega)]; simp

/-- A tree is ok, but for its kids. -/
def aloneB (t : Tr) : Bool :=
  if t.sort = 1 then decide (-999999999 ≤ t.num ∧ t.num ≤ 999999999) && decide (t.text.toList = []) && decide (t.names.length = 0) && decide (t.kids.length = 0)
  else if t.sort = 2 then decide (t.num = 0) && textOkB t.text && decide (t.names.length = 0) && decide (t.kids.length = 0)
  else if t.sort = 3 then decide (0 ≤ t.num ∧ t.num ≤ 1) && decide (t.text.toList = []) && decide (t.names.length = 0) && decide (t.kids.length = 0)
  else if t.sort = 4 then decide (t.num = 0) && decide (t.text.toList = []) && decide (t.names.length = 0) && decide (t.kids.length ≤ 20)
  else if t.sort = 5 then decide (t.num = 0) && decide (t.text.toList = []) && decide (t.names.length = t.kids.length) && riseB t.names
  else if t.sort = 6 then decide (t.num = 0) && decide (t.text.toList = []) && decide (t.names.length = 0) && decide (t.kids.length ≤ 1)
  else false

mutual
/-- The parts of a tree that is so deep, as the specification counts them; -1, if it is not ok. -/
def pT : Tr → Int → Int
  | .mk s n tx ns ks, d => if 6 < d ∨ aloneB (.mk s n tx ns ks) = false then -1 else pK ks d 1
def pK : List Tr → Int → Int → Int
  | [], _, n => n
  | t :: r, d, n => if pT t (d + 1) < 0 ∨ 120 < n + pT t (d + 1) then -1 else pK r d (n + pT t (d + 1))
end

theorem pT_eq (t : Tr) (d : Int) : pT t d = if 6 < d ∨ aloneB t = false then -1 else pK t.kids d 1 := by
  obtain ⟨s, n, tx, ns, ks⟩ := t
  rw [pT]; rfl

theorem pK_bd (ks : List Tr) (d n : Int) (h0 : 1 ≤ n) (h1 : n ≤ 120) : pK ks d n = -1 ∨ (1 ≤ pK ks d n ∧ pK ks d n ≤ 120) := by
  induction ks generalizing n with
  | nil => rw [pK]; omega
  | cons t r ih =>
    rw [pK]
    split
    · exact Or.inl rfl
    · exact ih _ (by omega) (by omega)

theorem pT_bd (t : Tr) (d : Int) : pT t d = -1 ∨ (1 ≤ pT t d ∧ pT t d ≤ 120) := by
  rw [pT_eq]
  split
  · exact Or.inl rfl
  · exact pK_bd _ _ _ (by omega) (by omega)

theorem pK_step {ks : List Tr} {k : Nat} (hk : k < ks.length) (d n : Int) : pK (ks.drop k) d n = if pT ks[k] (d + 1) < 0 ∨ 120 < n + pT ks[k] (d + 1) then -1 else pK (ks.drop (k + 1)) d (n + pT ks[k] (d + 1)) := by
  rw [List.drop_eq_getElem_cons hk, pK]

/-- A tree has just what its sort has. -/
def ownB (t : Tr) : Bool :=
  if t.sort = 1 then decide (t.text.toList = []) && decide (t.names = []) && decide (t.kids.length = 0)
  else if t.sort = 2 then decide (t.num = 0) && decide (t.names = []) && decide (t.kids.length = 0)
  else if t.sort = 3 then decide (t.text.toList = []) && decide (t.names = []) && decide (t.kids.length = 0)
  else if t.sort = 4 then decide (t.num = 0) && decide (t.text.toList = []) && decide (t.names = [])
  else if t.sort = 5 then decide (t.num = 0) && decide (t.text.toList = [])
  else if t.sort = 6 then decide (t.num = 0) && decide (t.text.toList = []) && decide (t.names = [])
  else false

/-- What a tree has is as its sort wants it. -/
def newB (t : Tr) : Bool :=
  if t.sort = 1 then decide (-999999999 ≤ t.num ∧ t.num ≤ 999999999)
  else if t.sort = 2 then textOkB t.text
  else if t.sort = 3 then decide (0 ≤ t.num ∧ t.num ≤ 1)
  else if t.sort = 4 then decide (t.kids.length ≤ 20)
  else if t.sort = 5 then decide (t.names.length = t.kids.length) && riseB t.names
  else if t.sort = 6 then decide (t.kids.length ≤ 1)
  else false

theorem alone_eq (t : Tr) : aloneB t = (ownB t && newB t) := by
  unfold aloneB ownB newB
  split
  · rw [Bool.eq_iff_iff]; simp; grind
  split
  · rw [Bool.eq_iff_iff]; simp; grind
  split
  · rw [Bool.eq_iff_iff]; simp; grind
  split
  · rw [Bool.eq_iff_iff]; simp
  split
  · rw [Bool.eq_iff_iff]; simp; grind
  split
  · rw [Bool.eq_iff_iff]; simp
  rfl

end Go.Proofs.YtbigchdhpdgicaaDoor

/- The bytes of texts, numbers, trees and events, and how many they are. No program, no conditions. -/

namespace Go.Proofs.YtbigchdhpdgicaaDoor
open Go Go.RowKit

def shortB (s : ByteArray) : List UInt8 := UInt8.ofNat s.size :: s.data.toList
theorem shortB_len (s : ByteArray) : (shortB s).length = s.size + 1 := by
  simp [shortB]

/-- Seven bits a byte, the lowest first. -/
def sevB (n : Nat) : List UInt8 := if 127 < n then UInt8.ofNat (128 + n % 128) :: sevB (n / 128) else [UInt8.ofNat n]
termination_by n
decreasing_by omega
theorem sevB_more {n : Nat} (h : 127 < n) : sevB n = UInt8.ofNat (128 + n % 128) :: sevB (n / 128) := by rw [sevB, if_pos h]
theorem sevB_last {n : Nat} (h : ¬ 127 < n) : sevB n = [UInt8.ofNat n] := by rw [sevB, if_neg h]
theorem sevB_len {n : Nat} (h : n ≤ 999999999) : (sevB n).length ≤ 5 := by
  by_cases h1 : 127 < n
  · rw [sevB_more h1]
    by_cases h2 : 127 < n / 128
    · rw [sevB_more h2]
      by_cases h3 : 127 < n / 128 / 128
      · rw [sevB_more h3]
        by_cases h4 : 127 < n / 128 / 128 / 128
        · rw [sevB_more h4, sevB_last (by omega)]; simp
        · rw [sevB_last h4]; simp
      · rw [sevB_last h3]; simp
    · rw [sevB_last h2]; simp
  · rw [sevB_last h1]; simp

def numB (n : Int) : List UInt8 := (if n < 0 then 1 else 0) :: sevB n.natAbs

mutual
def treeB : Tr → List UInt8
  | .mk s n tx ns ks => UInt8.ofNat s.toNat :: (if s = 1 then numB n else if s = 2 then shortB tx else if s = 3 then [UInt8.ofNat n.toNat] else UInt8.ofNat ks.length :: kidsB (decide (s = 5)) ns ks)
def kidsB (form : Bool) : List ByteArray → List Tr → List UInt8
  | _, [] => []
  | ns, k :: r => (if form then shortB (ns.headD ByteArray.empty) else []) ++ (treeB k ++ kidsB form ns.tail r)
end

theorem treeB_eq (t : Tr) : treeB t = UInt8.ofNat t.sort.toNat :: (if t.sort = 1 then numB t.num else if t.sort = 2 then shortB t.text else if t.sort = 3 then [UInt8.ofNat t.num.toNat] else UInt8.ofNat t.kids.length :: kidsB (decide (t.sort = 5)) t.names t.kids) := by
  obtain ⟨s, n, tx, ns, ks⟩ := t
  rw [treeB]; rfl

theorem kidsB_take (form : Bool) : ∀ (ns : List ByteArray) (ks : List Tr) (k : Nat) (hk : k < ks.length), kidsB form ns (ks.take (k + 1)) = kidsB form ns (ks.take k) ++ ((if form then shortB (ns.getD k ByteArray.empty) else []) ++ treeB ks[k])
  | _, [], k, hk => by simp at hk
  | ns, a :: r, 0, _ => by
    simp only [List.take_succ_cons, List.take_zero, kidsB, List.nil_append, List.append_nil, List.getElem_cons_zero]
    cases ns <;> rfl
  | ns, a :: r, k + 1, hk => by
    have ih := kidsB_take form ns.tail r k (by simpa using hk)
    simp only [List.take_succ_cons, kidsB, List.getElem_cons_succ]
    rw [ih]
    have : ns.tail.getD k ByteArray.empty = ns.getD (k + 1) ByteArray.empty := by cases ns <;> simp
    rw [this]
    simp [List.append_assoc]

theorem kidsB_le (form : Bool) : ∀ (ns : List ByteArray) (ks : List Tr) (k : Nat), (kidsB form ns (ks.take k)).length ≤ (kidsB form ns ks).length
  | _, [], k => by simp
  | ns, a :: r, 0 => by simp [kidsB]
  | ns, a :: r, k + 1 => by
    have := kidsB_le form ns.tail r k
    simp only [List.take_succ_cons, kidsB, List.length_append]
    omega

/-- What is known of a tree that is ok, by its sort. -/
theorem ok_sort {t : Tr} {d : Int} (h : 0 < pT t d) : t.sort = 1 ∨ t.sort = 2 ∨ t.sort = 3 ∨ t.sort = 4 ∨ t.sort = 5 ∨ t.sort = 6 := by
  rw [pT_eq] at h
  split at h
  · omega
  · rename_i hn
    have ha : aloneB t = true := by simpa using (not_or.1 hn).2
    unfold aloneB at ha
    by_cases h1 : t.sort = 1; · omega
    by_cases h2 : t.sort = 2; · omega
    by_cases h3 : t.sort = 3; · omega
    by_cases h4 : t.sort = 4; · omega
    by_cases h5 : t.sort = 5; · omega
    by_cases h6 : t.sort = 6; · omega
    simp [h1, h2, h3, h4, h5, h6] at ha

theorem ok_alone {t : Tr} {d : Int} (h : 0 < pT t d) : aloneB t = true ∧ d ≤ 6 ∧ pT t d = pK t.kids d 1 := by
  rw [pT_eq] at h ⊢
  split at h
  · omega
  · rename_i hn
    have hn' := not_or.1 hn
    rw [if_neg hn]
    exact ⟨by simpa using hn'.2, by omega, rfl⟩

theorem ok_num {t : Tr} {d : Int} (h : 0 < pT t d) (h1 : t.sort = 1) : -999999999 ≤ t.num ∧ t.num ≤ 999999999 := by
  have ha := (ok_alone h).1
  unfold aloneB at ha
  simp [h1] at ha
  omega
theorem ok_text {t : Tr} {d : Int} (h : 0 < pT t d) (h1 : t.sort = 2) : t.text.size ≤ 60 := by
  have ha := (ok_alone h).1
  unfold aloneB at ha
  simp [h1, textOkB] at ha
  omega
theorem ok_flag {t : Tr} {d : Int} (h : 0 < pT t d) (h1 : t.sort = 3) : 0 ≤ t.num ∧ t.num ≤ 1 := by
  have ha := (ok_alone h).1
  unfold aloneB at ha
  simp [h1] at ha
  omega
theorem ok_names {t : Tr} {d : Int} (h : 0 < pT t d) (h1 : t.sort = 5) : t.names.length = t.kids.length ∧ ∀ s ∈ t.names, s.size ≤ 8 := by
  have ha := (ok_alone h).1
  unfold aloneB at ha
  simp [h1] at ha
  refine ⟨ha.1.2, fun s hs => ?_⟩
  obtain ⟨i, hi, rfl⟩ := List.getElem_of_mem hs
  have hg := ha.2
  unfold riseB at hg
  rw [List.all_eq_true] at hg
  have := hg i (List.mem_range.2 hi)
  unfold good nameOkB at this
  rw [getD_lt _ _ hi] at this
  simp at this
  omega

theorem pK_pos : ∀ (ks : List Tr) (d n : Int), 0 < pK ks d n → ∀ k, (hk : k < ks.length) → 0 < pT ks[k] (d + 1)
  | [], _, _, _, k, hk => by simp at hk
  | t :: r, d, n, h, k, hk => by
    rw [pK] at h
    split at h
    · omega
    · rename_i hn
      have hn' := not_or.1 hn
      cases k with
      | zero =>
        have := pT_bd t (d + 1)
        simp only [List.getElem_cons_zero]
        omega
      | succ k => exact pK_pos r d _ h k (by simpa using hk)
theorem pK_count : ∀ (ks : List Tr) (d n : Int), 0 < pK ks d n → n + ks.length ≤ pK ks d n
  | [], _, n, _ => by rw [pK]; simp
  | t :: r, d, n, h => by
    rw [pK] at h ⊢
    split at h
    · omega
    · rename_i hn
      rw [if_neg hn]
      have hn' := not_or.1 hn
      have := pK_count r d _ h
      have := pT_bd t (d + 1)
      simp
      omega
theorem ok_kid {t : Tr} {d : Int} (h : 0 < pT t d) (k : Nat) (hk : k < t.kids.length) : 0 < pT t.kids[k] (d + 1) := by
  rw [(ok_alone h).2.2] at h
  exact pK_pos _ _ _ h k hk
theorem ok_many {t : Tr} {d : Int} (h : 0 < pT t d) : t.kids.length ≤ 119 := by
  have hb := pT_bd t d
  have he := (ok_alone h).2.2
  rw [he] at h hb
  have := pK_count _ _ _ h
  omega

mutual
theorem treeB_len : ∀ (t : Tr) (d : Int), 0 < pT t d → ((treeB t).length : Int) + 9 ≤ 71 * pT t d
  | .mk s n tx ns ks, d => by
    intro h
    have hs := ok_sort h
    have hnum := ok_num h
    have htext := ok_text h
    have hnames := ok_names h
    have he := (ok_alone h).2.2
    have h' := h
    rw [he] at h' ⊢
    have hbase : (1 : Int) ≤ pK ks d 1 := h'
    simp only [Tr.sort, Tr.num, Tr.text, Tr.names, Tr.kids] at *
    rw [treeB]
    by_cases h1 : s = 1
    · subst h1
      have hl := sevB_len (n := n.natAbs) (by have := hnum rfl; omega)
      simp [numB]
      omega
    by_cases h2 : s = 2
    · subst h2
      have := htext rfl
      have := shortB_len tx
      simp [this]
      omega
    by_cases h3 : s = 3
    · subst h3
      simp
      omega
    rw [if_neg h1, if_neg h2, if_neg h3]
    have hk := kidsB_len (decide (s = 5)) ns ks d 1 (fun hf x hx => (hnames (by simpa using hf)).2 x hx) h'
    simp
    omega
theorem kidsB_len (form : Bool) : ∀ (ns : List ByteArray) (ks : List Tr) (d n : Int), (form = true → ∀ s ∈ ns, s.size ≤ 8) → 0 < pK ks d n → ((kidsB form ns ks).length : Int) + 71 * n ≤ 71 * pK ks d n
  | ns, [], d, n, _, h => by rw [kidsB, pK]; simp
  | ns, t :: r, d, n, hn, h => by
    rw [pK] at h ⊢
    split at h
    · omega
    · rename_i hh
      rw [if_neg hh]
      have hh' := not_or.1 hh
      have hp : 0 < pT t (d + 1) := by have := pT_bd t (d + 1); omega
      have i1 := treeB_len t (d + 1) hp
      have i2 := kidsB_len form ns.tail r d _ (fun hf s hs => hn hf s (List.mem_of_mem_tail hs)) h
      rw [kidsB]
      have i3 : (if form then shortB (ns.headD ByteArray.empty) else []).length ≤ 9 := by
        split
        · rename_i hf
          rw [shortB_len]
          cases ns with
          | nil => simp
          | cons a _ => have := hn hf a (by simp); simp; omega
        · simp
      simp only [List.length_append]
      omega
end

def eventB (ty : ByteArray) (ver : Int) (t : Tr) : List UInt8 := (shortB ty ++ [UInt8.ofNat ver.toNat]) ++ treeB t
theorem eventB_len {ty : ByteArray} {ver : Int} {t : Tr} {d : Int} (h1 : ty.size ≤ 8) (h : 0 < pT t d) : (eventB ty ver t).length ≤ 9000 := by
  have a := treeB_len t d h
  have b := pT_bd t d
  have c := shortB_len ty
  simp only [eventB, List.length_append, List.length_cons, List.length_nil, c]
  omega
end Go.Proofs.YtbigchdhpdgicaaDoor

/- Worlds of which but one block is as it was; append onto a row of the call's own. No program walked, no conditions. -/

namespace Go.Proofs.YtbigchdhpdgicaaDoor
open Go Go.RowKit

/-- All blocks but B that were there are as they were. -/
abbrev But (B : Nat) (w w' : World) : Prop := w.grownBy w' (some B)

theorem But.refl (B : Nat) (w : World) : But B w w := World.grownBy.refl w _
theorem But.trans {B : Nat} {a b c : World} (h : But B a b) (k : But B b c) : But B a c :=
  ⟨k.os.trans h.os, k.tape.trans h.tape, k.output.trans h.output, Nat.le_trans h.size k.size, fun i hi hne => (k.block i (Nat.lt_of_lt_of_le hi h.size) hne).trans (h.block i hi hne)⟩
theorem But.of_below {B : Nat} {w w' : World} (h : Below w.heap.size w w') : But B w w' :=
  ⟨h.os, h.tape, h.output, h.size, fun i hi _ => h.block i hi⟩
theorem But.alloc (B : Nat) (w : World) (o : Obj) : But B w (w.alloc o) := But.of_below ((Below.refl _ _).alloc (Nat.le_refl _) o)
theorem But.set {B : Nat} (w : World) (o : Nat) (v : Value) : But B w (w.setCell ⟨B, o, none⟩ v) :=
  ⟨rfl, rfl, rfl, by simp [World.setCell], fun i _ hne => Below.heap_setCell _ _ _ _ (fun e => hne (by rw [e]))⟩
theorem But.at {B : Nat} {w w' : World} (h : But B w w') {b : Nat} (hb : b < w.heap.size) (hne : b ≠ B) : w'.heap[b]? = w.heap[b]? :=
  h.block b hb (fun e => hne (by simpa using e))

theorem ownsRow_base {w : World} {base base' : Nat} {e : TypeId} {size : Nat} {v : Value} {n : Nat} {xs : List Value} (h : w.ownsRow base e size v n xs) (hb : base' ≤ base) : w.ownsRow base' e size v n xs := by
  refine ⟨h.1, ?_⟩
  rcases h.2 with h | ⟨g, cap, cur, h1, h2, h3⟩
  · exact Or.inl h
  · exact Or.inr ⟨g, cap, cur, h1, Nat.le_trans hb h2, h3⟩

/-- append onto a row of the call's own: behind it the value lies in the same block, or in a new one. -/
theorem append_row {P : Program} (w : World) {ops : Array Oper} {rest : List Oper} {o : Oper} {a : Act} {Q : Exit → Act → World → Prop}
    (hg : o.guard = none) (s x : Operand) (t : TypeId) (hop : o.op = Op.call { callee := Callee.builtin Builtin.append, args := #[s, x], argTypes := #[t, t] })
    (base : Nat) (e : TypeId) (i : TypeInfo) (z : Value) (size bytes : Nat) (h1 : P.underlying t = some (.slice e)) (h2 : P.info? e = some i) (h3 : i.zero = some z) (h4 : i.size = size) (h5 : i.bytes = bytes) (h6 : z.cells.size = size) (h7 : 0 < size)
    (v : Value) (n : Nat) (xs : List Value) (hs : a.eval s = v) (hown : w.ownsRow base e size v n xs)
    (ad : Addr) (m c : Nat) (news : List Value) (hx : a.eval x = .slice (some ad) m c) (hn : news.length = m * size) (hc : ∀ j u, news[j]? = some u → w.cell? (ad.add j) = some u) (h1c : ∀ u ∈ news, u.oneCell' = true)
    (hm : 0 < m) (b1 : n + m ≤ maxLen) (b2 : (n + m) * bytes ≤ 140737488355328) (hbase : base ≤ w.heap.size)
    (hK : ∀ v' w', w'.ownsRow base e size v' (n + m) (xs ++ news) → w.grownBy w' v.ownBlock → (v'.ownBlock = v.ownBlock ∨ ∃ g, v'.ownBlock = some g ∧ w.heap.size ≤ g) → wpList P ops Q rest (a.put o.dst v') w') :
    wpList P ops Q (o :: rest) a w := by
  have hgrow : ∀ v' w', w'.ownsRow w.heap.size e size v' (n + m) (xs ++ news) → w.grownBy w' none → wpList P ops Q rest (a.put o.dst v') w' := fun v' w' r1 r2 => by
    refine hK v' w' (ownsRow_base r1 hbase) ⟨r2.os, r2.tape, r2.output, r2.size, fun k hk _ => r2.block k hk (by simp)⟩ (Or.inr ?_)
    rcases r1.2 with ⟨_, h⟩ | ⟨g, cap, cur, hv, hgg, _⟩
    · omega
    · exact ⟨g, by rw [hv]; rfl, hgg⟩
  rcases hown.2 with ⟨hv, hn0⟩ | ⟨g, cap, cur, hv, hgb, hh, hle, hm2, hsz, htk⟩
  · subst hv; subst hn0
    have hxs : xs = [] := List.eq_nil_of_length_eq_zero (by have := hown.1; simpa using this)
    subst hxs
    exact wpList_append_grows w hg s x t hop e i z size bytes h1 h2 h3 h4 h5 h6 h7 none 0 0 [] hs (fun _ => ⟨rfl, rfl⟩) (by simp) (fun b hb => by cases hb) ad m c news hx hn hc h1c (by omega) b1 b2 hgrow
  · by_cases hr : n + m ≤ cap
    · subst hv
      exact wpList_append_fits w hg s x t hop base e i size h1 h2 h4 g n cap xs hs hown ad m c news hx hn hc h1c hr fun w' r1 r2 => hK _ w' r1 r2 (Or.inl rfl)
    · refine wpList_append_grows w hg s x t hop e i z size bytes h1 h2 h3 h4 h5 h6 h7 (some ⟨g, 0, none⟩) n cap xs (by rw [hs, hv]) (fun hb => by cases hb) hown.1 (fun b hb j u hj => ?_) ad m c news hx hn hc h1c (by omega) b1 b2 hgrow
      simp only [Option.some.injEq] at hb
      subst hb
      have hj' : cur.toList[j]? = some u := by
        rw [← htk] at hj
        rw [List.getElem?_take] at hj
        split at hj
        · exact hj
        · cases hj
      rw [Addr.add_lit]
      simp only [Nat.zero_add, World.cell?, hh]
      simpa using hj'

theorem cell_one (w : World) (x : Value) (t : TypeId) : ∀ j u, [x][j]? = some u → (w.alloc (.cells #[x] t)).cell? ((⟨w.heap.size, 0, none⟩ : Addr).add j) = some u := by
  intro j u hj
  match j with
  | 0 => simp only [List.getElem?_cons_zero, Option.some.injEq] at hj; subst hj; rw [Addr.add_lit]; simp [go_sem]
  | j + 1 => simp at hj
end Go.Proofs.YtbigchdhpdgicaaDoor
