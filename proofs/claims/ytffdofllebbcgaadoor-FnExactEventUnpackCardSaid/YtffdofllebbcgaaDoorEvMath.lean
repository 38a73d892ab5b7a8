/- The bytes of texts, numbers, trees and events, and how many they are. No program, no conditions. -/
import Derived.Test.YtffdofllebbcgaaDoorMerged00
namespace Go.Proofs.YtffdofllebbcgaaDoor
open Go Go.RowKit

def shortB (s : ByteArray) : List UInt8 := UInt8.ofNat s.size :: s.data.toList
theorem shortB_len (s : ByteArray) : (shortB s).length = s.size + 1 := by
  simp [shortB]

/-- Seven bits a byte, the lowest first. -/
def sevB (n : Nat) : List UInt8 := if 127 < n then UInt8.ofNat (128 + n % 128) :: sevB (n / 128) else [UInt8.ofNat n]
termination_by n
decreasing_by omega
theorem sevB_more {n : Nat} (h : 127 < n) : sevB n = UInt8.ofNat (128 + n % 128) :: sevB (n / 128) := by rw [sevB, if_pos h]
theorem sevB_last {n : Nat} (h : ¬ 127 < n) : sevB n = [UInt8.ofNat n] := by rw [sevB, if_neg h]
theorem sevB_len {n : Nat} (h : n ≤ 999999999) : (sevB n).length ≤ 5 := by
  by_cases h1 : 127 < n
  · rw [sevB_more h1]
    by_cases h2 : 127 < n / 128
    · rw [sevB_more h2]
      by_cases h3 : 127 < n / 128 / 128
      · rw [sevB_more h3]
        by_cases h4 : 127 < n / 128 / 128 / 128
        · rw [sevB_more h4, sevB_last (by omega)]; simp
        · rw [sevB_last h4]; simp
      · rw [sevB_last h3]; simp
    · rw [sevB_last h2]; simp
  · rw [sevB_last h1]; simp

def numB (n : Int) : List UInt8 := (if n < 0 then 1 else 0) :: sevB n.natAbs

mutual
def treeB : Tr → List UInt8
  | .mk s n tx ns ks => UInt8.ofNat s.toNat :: (if s = 1 then numB n else if s = 2 then shortB tx else if s = 3 then [UInt8.ofNat n.toNat] else UInt8.ofNat ks.length :: kidsB (decide (s = 5)) ns ks)
def kidsB (form : Bool) : List ByteArray → List Tr → List UInt8
  | _, [] => []
  | ns, k :: r => (if form then shortB (ns.headD ByteArray.empty) else []) ++ (treeB k ++ kidsB form ns.tail r)
end

theorem treeB_eq (t : Tr) : treeB t = UInt8.ofNat t.sort.toNat :: (if t.sort = 1 then numB t.num else if t.sort = 2 then shortB t.text else if t.sort = 3 then [UInt8.ofNat t.num.toNat] else UInt8.ofNat t.kids.length :: kidsB (decide (t.sort = 5)) t.names t.kids) := by
  obtain ⟨s, n, tx, ns, ks⟩ := t
  rw [treeB]; rfl

theorem kidsB_take (form : Bool) : ∀ (ns : List ByteArray) (ks : List Tr) (k : Nat) (hk : k < ks.length), kidsB form ns (ks.take (k + 1)) = kidsB form ns (ks.take k) ++ ((if form then shortB (ns.getD k ByteArray.empty) else []) ++ treeB ks[k])
  | _, [], k, hk => by simp at hk
  | ns, a :: r, 0, _ => by
    simp only [List.take_succ_cons, List.take_zero, kidsB, List.nil_append, List.append_nil, List.getElem_cons_zero]
    cases ns <;> rfl
  | ns, a :: r, k + 1, hk => by
    have ih := kidsB_take form ns.tail r k (by simpa using hk)
    simp only [List.take_succ_cons, kidsB, List.getElem_cons_succ]
    rw [ih]
    have : ns.tail.getD k ByteArray.empty = ns.getD (k + 1) ByteArray.empty := by cases ns <;> simp
    rw [this]
    simp [List.append_assoc]

theorem kidsB_le (form : Bool) : ∀ (ns : List ByteArray) (ks : List Tr) (k : Nat), (kidsB form ns (ks.take k)).length ≤ (kidsB form ns ks).length
  | _, [], k => by simp
  | ns, a :: r, 0 => by simp [kidsB]
  | ns, a :: r, k + 1 => by
    have := kidsB_le form ns.tail r k
    simp only [List.take_succ_cons, kidsB, List.length_append]
    omega

/-- What is known of a tree that is ok, by its sort. -/
theorem ok_sort {t : Tr} {d : Int} (h : 0 < pT t d) : t.sort = 1 ∨ t.sort = 2 ∨ t.sort = 3 ∨ t.sort = 4 ∨ t.sort = 5 ∨ t.sort = 6 := by
  rw [pT_eq] at h
  split at h
  · omega
  · rename_i hn
    have ha : aloneB t = true := by simpa using (not_or.1 hn).2
    unfold aloneB at ha
    by_cases h1 : t.sort = 1; · omega
    by_cases h2 : t.sort = 2; · omega
    by_cases h3 : t.sort = 3; · omega
    by_cases h4 : t.sort = 4; · omega
    by_cases h5 : t.sort = 5; · omega
    by_cases h6 : t.sort = 6; · omega
    simp [h1, h2, h3, h4, h5, h6] at ha

theorem ok_alone {t : Tr} {d : Int} (h : 0 < pT t d) : aloneB t = true ∧ d ≤ 6 ∧ pT t d = pK t.kids d 1 := by
  rw [pT_eq] at h ⊢
  split at h
  · omega
  · rename_i hn
    have hn' := not_or.1 hn
    rw [if_neg hn]
    exact ⟨by simpa using hn'.2, by omega, rfl⟩

theorem ok_num {t : Tr} {d : Int} (h : 0 < pT t d) (h1 : t.sort = 1) : -999999999 ≤ t.num ∧ t.num ≤ 999999999 := by
  have ha := (ok_alone h).1
  unfold aloneB at ha
  simp [h1] at ha
  omega
theorem ok_text {t : Tr} {d : Int} (h : 0 < pT t d) (h1 : t.sort = 2) : t.text.size ≤ 60 := by
  have ha := (ok_alone h).1
  unfold aloneB at ha
  simp [h1, textOkB] at ha
  omega
theorem ok_flag {t : Tr} {d : Int} (h : 0 < pT t d) (h1 : t.sort = 3) : 0 ≤ t.num ∧ t.num ≤ 1 := by
  have ha := (ok_alone h).1
  unfold aloneB at ha
  simp [h1] at ha
  omega
theorem ok_names {t : Tr} {d : Int} (h : 0 < pT t d) (h1 : t.sort = 5) : t.names.length = t.kids.length ∧ ∀ s ∈ t.names, s.size ≤ 8 := by
  have ha := (ok_alone h).1
  unfold aloneB at ha
  simp [h1] at ha
  refine ⟨ha.1.2, fun s hs => ?_⟩
  obtain ⟨i, hi, rfl⟩ := List.getElem_of_mem hs
  have hg := ha.2
  unfold riseB at hg
  rw [List.all_eq_true] at hg
  have := hg i (List.mem_range.2 hi)
  unfold good nameOkB at this
  rw [getD_lt _ _ hi] at this
  simp at this
  omega

theorem pK_pos : ∀ (ks : List Tr) (d n : Int), 0 < pK ks d n → ∀ k, (hk : k < ks.length) → 0 < pT ks[k] (d + 1)
  | [], _, _, _, k, hk => by simp at hk
  | t :: r, d, n, h, k, hk => by
    rw [pK] at h
    split at h
    · omega
    · rename_i hn
      have hn' := not_or.1 hn
      cases k with
      | zero =>
        have := pT_bd t (d + 1)
        simp only [List.getElem_cons_zero]
        omega
      | succ k => exact pK_pos r d _ h k (by simpa using hk)
theorem pK_count : ∀ (ks : List Tr) (d n : Int), 0 < pK ks d n → n + ks.length ≤ pK ks d n
  | [], _, n, _ => by rw [pK]; simp
  | t :: r, d, n, h => by
    rw [pK] at h ⊢
    split at h
    · omega
    · rename_i hn
      rw [if_neg hn]
      have hn' := not_or.1 hn
      have := pK_count r d _ h
      have := pT_bd t (d + 1)
      simp
      omega
theorem ok_kid {t : Tr} {d : Int} (h : 0 < pT t d) (k : Nat) (hk : k < t.kids.length) : 0 < pT t.kids[k] (d + 1) := by
  rw [(ok_alone h).2.2] at h
  exact pK_pos _ _ _ h k hk
theorem ok_many {t : Tr} {d : Int} (h : 0 < pT t d) : t.kids.length ≤ 119 := by
  have hb := pT_bd t d
  have he := (ok_alone h).2.2
  rw [he] at h hb
  have := pK_count _ _ _ h
  omega

mutual
theorem treeB_len : ∀ (t : Tr) (d : Int), 0 < pT t d → ((treeB t).length : Int) + 9 ≤ 71 * pT t d
  | .mk s n tx ns ks, d => by
    intro h
    have hs := ok_sort h
    have hnum := ok_num h
    have htext := ok_text h
    have hnames := ok_names h
    have he := (ok_alone h).2.2
    have h' := h
    rw [he] at h' ⊢
    have hbase : (1 : Int) ≤ pK ks d 1 := h'
    simp only [Tr.sort, Tr.num, Tr.text, Tr.names, Tr.kids] at *
    rw [treeB]
    by_cases h1 : s = 1
    · subst h1
      have hl := sevB_len (n := n.natAbs) (by have := hnum rfl; omega)
      simp [numB]
      omega
    by_cases h2 : s = 2
    · subst h2
      have := htext rfl
      have := shortB_len tx
      simp [this]
      omega
    by_cases h3 : s = 3
    · subst h3
      simp
      omega
    rw [if_neg h1, if_neg h2, if_neg h3]
    have hk := kidsB_len (decide (s = 5)) ns ks d 1 (fun hf x hx => (hnames (by simpa using hf)).2 x hx) h'
    simp
    omega
theorem kidsB_len (form : Bool) : ∀ (ns : List ByteArray) (ks : List Tr) (d n : Int), (form = true → ∀ s ∈ ns, s.size ≤ 8) → 0 < pK ks d n → ((kidsB form ns ks).length : Int) + 71 * n ≤ 71 * pK ks d n
  | ns, [], d, n, _, h => by rw [kidsB, pK]; simp
  | ns, t :: r, d, n, hn, h => by
    rw [pK] at h ⊢
    split at h
    · omega
    · rename_i hh
      rw [if_neg hh]
      have hh' := not_or.1 hh
      have hp : 0 < pT t (d + 1) := by have := pT_bd t (d + 1); omega
      have i1 := treeB_len t (d + 1) hp
      have i2 := kidsB_len form ns.tail r d _ (fun hf s hs => hn hf s (List.mem_of_mem_tail hs)) h
      rw [kidsB]
      have i3 : (if form then shortB (ns.headD ByteArray.empty) else []).length ≤ 9 := by
        split
        · rename_i hf
          rw [shortB_len]
          cases ns with
          | nil => simp
          | cons a _ => have := hn hf a (by simp); simp; omega
        · simp
      simp only [List.length_append]
      omega
end

def eventB (ty : ByteArray) (ver : Int) (t : Tr) : List UInt8 := (shortB ty ++ [UInt8.ofNat ver.toNat]) ++ treeB t
theorem eventB_len {ty : ByteArray} {ver : Int} {t : Tr} {d : Int} (h1 : ty.size ≤ 8) (h : 0 < pT t d) : (eventB ty ver t).length ≤ 9000 := by
  have a := treeB_len t d h
  have b := pT_bd t d
  have c := shortB_len ty
  simp only [eventB, List.length_append, List.length_cons, List.length_nil, c]
  omega
end Go.Proofs.YtffdofllebbcgaaDoor
