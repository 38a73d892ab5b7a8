/- The walk of the specification's DrawEventPack: whatever bytes come in, some event in memory that the call made. No conditions. -/
import Derived.Test.YtbkagahmiibclaaGreatDoorPart12
import Derived.Test.YtbkagahmiibclaaGreatDoorPart03
import Derived.Laws.Strings
namespace Go.Proofs.YtbkagahmiibclaaGreatDoor
open Go Go.RowKit

set_option maxRecDepth 100000 in
set_option maxHeartbeats 1600000 in
theorem drawEventPack_any (w : World) (a : Option Addr) (cap : Nat) (l : List UInt8) (hv : BytesAt w (.slice a l.length cap) l) (hcap : l.length ≤ cap) :
    Calls Tryz.prog 5 #[.slice a l.length cap] w fun e w' => ∃ (ty : ByteArray) (ver : Int) (t : Tr) (c : C5), e = .returned (.agg #[.string ty, .int .i64 ver, c.c0, c.c1, c.c2, c.c3, c.c4]) ∧ ty.size ≤ 2000 ∧ I64 ver ∧ Rep (fun x => w.heap.size ≤ x ∧ x < w'.heap.size) w' t c ∧ Below w.heap.size w w' := by
  have hb0 : ∀ o, Below w.heap.size w (w.alloc o) := fun o => (Below.refl _ _).alloc (Nat.le_refl _) o
  have HOP := hide (fun o => l6Open_any (w.alloc o) a cap l (hv.on (hb0 o)) hcap)
  have HX0 := hide (row7_alloc w (.string ⟨#[]⟩) (.int .i64 0) (.int .i64 0) (.int .i64 0) (.string ⟨#[]⟩) (.slice none 0 0) (.slice none 0 0) 28)
  have HB0 := hide hb0
  clear hv hb0
  go_enter Tryz.func5, Tryz.ntmps5
  go_wp2_with fail
  refine (unhide HOP _).mono ?_
  rintro e w1 ⟨v', b', rfl, hdr, hb1⟩
  have hb1' := hb1
  rw [World.size_alloc] at hdr hb1' ⊢
  have HC := hide (l5Event_any (w.heap.size + 1) w1 v' b' 0 hdr (by omega))
  have HX1 := hide ((unhide HX0).of_block (hb1.block _ (by simp)))
  have HB1 := hide ((unhide HB0 (.cells #[.string ⟨#[]⟩, .int .i64 0, .int .i64 0, .int .i64 0, .string ⟨#[]⟩, .slice none 0 0, .slice none 0 0] 28)).trans (hb1.mono (by simp)))
  have hs1 := hb1'.size
  have hR1 := hdr.cells.lt
  clear HOP HX0 hdr hb1 hb1' HB0
  go_wp2_with fail
  refine (unhide HC).mono ?_
  rintro e w2 ⟨ty, ver, k, ⟨c0, c1, c2, c3, c4⟩, p2, rfl, hty, hver, hr2, hd2, hp2, hb2⟩
  obtain ⟨g0, g1, g2, -, -, -, ⟨a3, cap3, g3, -⟩, a4, cap4, g4, -⟩ := hr2.open
  simp only at g0 g1 g2 g3 g4
  subst g0 g1 g2 g3 g4
  have hX2 := (unhide HX1).of_block (hb2.at (unhide HX1).lt (by omega))
  have y0 := hX2.cell (i := 0) (by omega); have y1 := hX2.cell (i := 1) (by omega); have y2 := hX2.cell (i := 2) (by omega); have y3 := hX2.cell (i := 3) (by omega); have y4 := hX2.cell (i := 4) (by omega); have y5 := hX2.cell (i := 5) (by omega); have y6 := hX2.cell (i := 6) (by omega); have yf := hX2.frozen
  simp only [row7] at y0 y1 y2 y3 y4 y5 y6
  have hbW : Below w.heap.size w w2 := (unhide HB1).trans ⟨hb2.os, hb2.tape, hb2.output, hb2.size, fun i hi => hb2.at (by omega) (by omega)⟩
  have HBW := hide hbW; have HR2 := hide hr2
  clear hX2 hbW hr2 hb2 hd2 HX1 HB1 HC
  go_wp2_with fail
  refine bodyPost_ret (v := .agg #[.string ty, .int .i64 ver, .int .i64 k.sort, .int .i64 k.num, .string k.text, .slice a3 k.names.length cap3, .slice a4 k.kids.length cap4]) (by simp [results, Tryz.results5, go_sem, y0, y1, y2, y3, y4, y5, y6]) rfl ?_
  refine ⟨ty, ver, k, ⟨_, _, _, _, _⟩, rfl, hty, hver, Rep.carry (fun x hx => by repeat rw [Below.heap_setCell _ _ _ _ (by simp; omega)]) (fun x hx => ⟨by omega, by simp only [size_setCell]; exact hx.2⟩) k _ (unhide HR2), ?_⟩
  repeat refine Below.setCell ?_ (by simp) _
  exact unhide HBW
end Go.Proofs.YtbkagahmiibclaaGreatDoor

/- The bytes of texts, numbers, trees and events, and how many they are. No program, no conditions. -/

namespace Go.Proofs.YtbkagahmiibclaaGreatDoor
open Go Go.RowKit

def shortB (s : ByteArray) : List UInt8 := UInt8.ofNat s.size :: s.data.toList
theorem shortB_len (s : ByteArray) : (shortB s).length = s.size + 1 := by
  simp [shortB]

/-- Seven bits a byte, the lowest first. -/
def sevB (n : Nat) : List UInt8 := if 127 < n then UInt8.ofNat (128 + n % 128) :: sevB (n / 128) else [UInt8.ofNat n]
termination_by n
decreasing_by omega
theorem sevB_more {n : Nat} (h : 127 < n) : sevB n = UInt8.ofNat (128 + n % 128) :: sevB (n / 128) := by rw [sevB, if_pos h]
theorem sevB_last {n : Nat} (h : ¬ 127 < n) : sevB n = [UInt8.ofNat n] := by rw [sevB, if_neg h]
theorem sevB_len {n : Nat} (h : n ≤ 999999999) : (sevB n).length ≤ 5 := by
  by_cases h1 : 127 < n
  · rw [sevB_more h1]
    by_cases h2 : 127 < n / 128
    · rw [sevB_more h2]
      by_cases h3 : 127 < n / 128 / 128
      · rw [sevB_more h3]
        by_cases h4 : 127 < n / 128 / 128 / 128
        · rw [sevB_more h4, sevB_last (by omega)]; simp
        · rw [sevB_last h4]; simp
      · rw [sevB_last h3]; simp
    · rw [sevB_last h2]; simp
  · rw [sevB_last h1]; simp

def numB (n : Int) : List UInt8 := (if n < 0 then 1 else 0) :: sevB n.natAbs

mutual
def treeB : Tr → List UInt8
  | .mk s n tx ns ks => UInt8.ofNat s.toNat :: (if s = 1 then numB n else if s = 2 then shortB tx else if s = 3 then [UInt8.ofNat n.toNat] else UInt8.ofNat ks.length :: kidsB (decide (s = 5)) ns ks)
def kidsB (form : Bool) : List ByteArray → List Tr → List UInt8
  | _, [] => []
  | ns, k :: r => (if form then shortB (ns.headD ByteArray.empty) else []) ++ (treeB k ++ kidsB form ns.tail r)
end

theorem treeB_eq (t : Tr) : treeB t = UInt8.ofNat t.sort.toNat :: (if t.sort = 1 then numB t.num else if t.sort = 2 then shortB t.text else if t.sort = 3 then [UInt8.ofNat t.num.toNat] else UInt8.ofNat t.kids.length :: kidsB (decide (t.sort = 5)) t.names t.kids) := by
  obtain ⟨s, n, tx, ns, ks⟩ := t
  rw [treeB]; rfl

theorem kidsB_take (form : Bool) : ∀ (ns : List ByteArray) (ks : List Tr) (k : Nat) (hk : k < ks.length), kidsB form ns (ks.take (k + 1)) = kidsB form ns (ks.take k) ++ ((if form then shortB (ns.getD k ByteArray.empty) else []) ++ treeB ks[k])
  | _, [], k, hk => by simp at hk
  | ns, a :: r, 0, _ => by
    simp only [List.take_succ_cons, List.take_zero, kidsB, List.nil_append, List.append_nil, List.getElem_cons_zero]
    cases ns <;> rfl
  | ns, a :: r, k + 1, hk => by
    have ih := kidsB_take form ns.tail r k (by simpa using hk)
    simp only [List.take_succ_cons, kidsB, List.getElem_cons_succ]
    rw [ih]
    have : ns.tail.getD k ByteArray.empty = ns.getD (k + 1) ByteArray.empty := by cases ns <;> simp
    rw [this]
    simp [List.append_assoc]

theorem kidsB_le (form : Bool) : ∀ (ns : List ByteArray) (ks : List Tr) (k : Nat), (kidsB form ns (ks.take k)).length ≤ (kidsB form ns ks).length
  | _, [], k => by simp
  | ns, a :: r, 0 => by simp [kidsB]
  | ns, a :: r, k + 1 => by
    have := kidsB_le form ns.tail r k
    simp only [List.take_succ_cons, kidsB, List.length_append]
    omega

/-- What is known of a tree that is ok, by its sort. -/
theorem ok_sort {t : Tr} {d : Int} (h : 0 < pT t d) : t.sort = 1 ∨ t.sort = 2 ∨ t.sort = 3 ∨ t.sort = 4 ∨ t.sort = 5 ∨ t.sort = 6 := by
  rw [pT_eq] at h
  split at h
  · omega
  · rename_i hn
    have ha : aloneB t = true := by simpa using (not_or.1 hn).2
    unfold aloneB at ha
    by_cases h1 : t.sort = 1; · omega
    by_cases h2 : t.sort = 2; · omega
    by_cases h3 : t.sort = 3; · omega
    by_cases h4 : t.sort = 4; · omega
    by_cases h5 : t.sort = 5; · omega
    by_cases h6 : t.sort = 6; · omega
    simp [h1, h2, h3, h4, h5, h6] at ha

theorem ok_alone {t : Tr} {d : Int} (h : 0 < pT t d) : aloneB t = true ∧ d ≤ 6 ∧ pT t d = pK t.kids d 1 := by
  rw [pT_eq] at h ⊢
  split at h
  · omega
  · rename_i hn
    have hn' := not_or.1 hn
    rw [if_neg hn]
    exact ⟨by simpa using hn'.2, by omega, rfl⟩

theorem ok_num {t : Tr} {d : Int} (h : 0 < pT t d) (h1 : t.sort = 1) : -999999999 ≤ t.num ∧ t.num ≤ 999999999 := by
  have ha := (ok_alone h).1
  unfold aloneB at ha
  simp [h1] at ha
  omega
theorem ok_text {t : Tr} {d : Int} (h : 0 < pT t d) (h1 : t.sort = 2) : t.text.size ≤ 60 := by
  have ha := (ok_alone h).1
  unfold aloneB at ha
  simp [h1, textOkB] at ha
  omega
theorem ok_flag {t : Tr} {d : Int} (h : 0 < pT t d) (h1 : t.sort = 3) : 0 ≤ t.num ∧ t.num ≤ 1 := by
  have ha := (ok_alone h).1
  unfold aloneB at ha
  simp [h1] at ha
  omega
theorem ok_names {t : Tr} {d : Int} (h : 0 < pT t d) (h1 : t.sort = 5) : t.names.length = t.kids.length ∧ ∀ s ∈ t.names, s.size ≤ 8 := by
  have ha := (ok_alone h).1
  unfold aloneB at ha
  simp [h1] at ha
  refine ⟨ha.1.2, fun s hs => ?_⟩
  obtain ⟨i, hi, rfl⟩ := List.getElem_of_mem hs
  have hg := ha.2
  unfold riseB at hg
  rw [List.all_eq_true] at hg
  have := hg i (List.mem_range.2 hi)
  unfold good nameOkB at this
  rw [getD_lt _ _ hi] at this
  simp at this
  omega

theorem pK_pos : ∀ (ks : List Tr) (d n : Int), 0 < pK ks d n → ∀ k, (hk : k < ks.length) → 0 < pT ks[k] (d + 1)
  | [], _, _, _, k, hk => by simp at hk
  | t :: r, d, n, h, k, hk => by
    rw [pK] at h
    split at h
    · omega
    · rename_i hn
      have hn' := not_or.1 hn
      cases k with
      | zero =>
        have := pT_bd t (d + 1)
        simp only [List.getElem_cons_zero]
        omega
      | succ k => exact pK_pos r d _ h k (by simpa using hk)
theorem pK_count : ∀ (ks : List Tr) (d n : Int), 0 < pK ks d n → n + ks.length ≤ pK ks d n
  | [], _, n, _ => by rw [pK]; simp
  | t :: r, d, n, h => by
    rw [pK] at h ⊢
    split at h
    · omega
    · rename_i hn
      rw [if_neg hn]
      have hn' := not_or.1 hn
      have := pK_count r d _ h
      have := pT_bd t (d + 1)
      simp
      omega
theorem ok_kid {t : Tr} {d : Int} (h : 0 < pT t d) (k : Nat) (hk : k < t.kids.length) : 0 < pT t.kids[k] (d + 1) := by
  rw [(ok_alone h).2.2] at h
  exact pK_pos _ _ _ h k hk
theorem ok_many {t : Tr} {d : Int} (h : 0 < pT t d) : t.kids.length ≤ 119 := by
  have hb := pT_bd t d
  have he := (ok_alone h).2.2
  rw [he] at h hb
  have := pK_count _ _ _ h
  omega

mutual
theorem treeB_len : ∀ (t : Tr) (d : Int), 0 < pT t d → ((treeB t).length : Int) + 9 ≤ 71 * pT t d
  | .mk s n tx ns ks, d => by
    intro h
    have hs := ok_sort h
    have hnum := ok_num h
    have htext := ok_text h
    have hnames := ok_names h
    have he := (ok_alone h).2.2
    have h' := h
    rw [he] at h' ⊢
    have hbase : (1 : Int) ≤ pK ks d 1 := h'
    simp only [Tr.sort, Tr.num, Tr.text, Tr.names, Tr.kids] at *
    rw [treeB]
    by_cases h1 : s = 1
    · subst h1
      have hl := sevB_len (n := n.natAbs) (by have := hnum rfl; omega)
      simp [numB]
      omega
    by_cases h2 : s = 2
    · subst h2
      have := htext rfl
      have := shortB_len tx
      simp [this]
      omega
    by_cases h3 : s = 3
    · subst h3
      simp
      omega
    rw [if_neg h1, if_neg h2, if_neg h3]
    have hk := kidsB_len (decide (s = 5)) ns ks d 1 (fun hf x hx => (hnames (by simpa using hf)).2 x hx) h'
    simp
    omega
theorem kidsB_len (form : Bool) : ∀ (ns : List ByteArray) (ks : List Tr) (d n : Int), (form = true → ∀ s ∈ ns, s.size ≤ 8) → 0 < pK ks d n → ((kidsB form ns ks).length : Int) + 71 * n ≤ 71 * pK ks d n
  | ns, [], d, n, _, h => by rw [kidsB, pK]; simp
  | ns, t :: r, d, n, hn, h => by
    rw [pK] at h ⊢
    split at h
    · omega
    · rename_i hh
      rw [if_neg hh]
      have hh' := not_or.1 hh
      have hp : 0 < pT t (d + 1) := by have := pT_bd t (d + 1); omega
      have i1 := treeB_len t (d + 1) hp
      have i2 := kidsB_len form ns.tail r d _ (fun hf s hs => hn hf s (List.mem_of_mem_tail hs)) h
      rw [kidsB]
      have i3 : (if form then shortB (ns.headD ByteArray.empty) else []).length ≤ 9 := by
        split
        · rename_i hf
          rw [shortB_len]
          cases ns with
          | nil => simp
          | cons a _ => have := hn hf a (by simp); simp; omega
        · simp
      simp only [List.length_append]
      omega
end

def eventB (ty : ByteArray) (ver : Int) (t : Tr) : List UInt8 := (shortB ty ++ [UInt8.ofNat ver.toNat]) ++ treeB t
theorem eventB_len {ty : ByteArray} {ver : Int} {t : Tr} {d : Int} (h1 : ty.size ≤ 8) (h : 0 < pT t d) : (eventB ty ver t).length ≤ 9000 := by
  have a := treeB_len t d h
  have b := pT_bd t d
  have c := shortB_len ty
  simp only [eventB, List.length_append, List.length_cons, List.length_nil, c]
  omega
end Go.Proofs.YtbkagahmiibclaaGreatDoor

/- The program's reader of bytes as functions on lists of bytes; what it reads it would write, and what is written it reads. No program, no conditions. -/

namespace Go.Proofs.YtbkagahmiibclaaGreatDoor
open Go Go.RowKit

/-- Seven bits a byte, so many bytes at most. -/
def psz : Nat → Nat → Nat → List UInt8 → Option (Nat × List UInt8)
  | 0, _, _, _ => none
  | _ + 1, _, _, [] => none
  | r + 1, p, a, x :: l =>
    if x.toNat < 128 then (if a + x.toNat % 128 * p ≤ 999999999 ∧ (0 < x.toNat ∨ p = 1) then some (a + x.toNat % 128 * p, l) else none)
    else psz r (p * 128) (a + x.toNat % 128 * p) l

theorem u8_back (x : UInt8) : UInt8.ofNat x.toNat = x := by simp

theorem psz_sound : ∀ (r p a : Nat) (l : List UInt8) (s : Nat) (rest : List UInt8), 0 < p → psz r p a l = some (s, rest) → ∃ m, l = sevB m ++ rest ∧ s = a + m * p ∧ (m = 0 → p = 1) ∧ s ≤ 999999999
  | 0, _, _, _, _, _, _, h => by simp [psz] at h
  | _ + 1, _, _, [], _, _, _, h => by simp [psz] at h
  | r + 1, p, a, x :: l, s, rest, hp, h => by
    rw [psz] at h
    split at h
    · rename_i hx
      split at h
      · rename_i hc
        simp only [Option.some.injEq, Prod.mk.injEq] at h
        obtain ⟨rfl, rfl⟩ := h
        refine ⟨x.toNat, ?_, ?_, fun e => ?_, hc.1⟩
        · rw [sevB_last (by omega), u8_back]; rfl
        · rw [Nat.mod_eq_of_lt hx]
        · rcases hc.2 with h1 | h1
          · omega
          · exact h1
      · cases h
    · rename_i hx
      obtain ⟨m, h1, h2, h3, h4⟩ := psz_sound r (p * 128) _ l s rest (by omega) h
      have hlt := x.toNat_lt
      have hm : 0 < m := by
        rcases Nat.eq_zero_or_pos m with e | e
        · have := h3 e; omega
        · exact e
      refine ⟨x.toNat % 128 + m * 128, ?_, ?_, fun e => by omega, h4⟩
      · rw [sevB_more (by omega), show (x.toNat % 128 + m * 128) / 128 = m from by omega, show 128 + (x.toNat % 128 + m * 128) % 128 = x.toNat from by omega, u8_back, h1]; rfl
      · rw [h2, Nat.add_mul, Nat.add_assoc, Nat.mul_assoc m 128 p, Nat.mul_comm 128 p]

theorem psz_done : ∀ (r p a m : Nat) (rest : List UInt8), m < 128 ^ (r + 1) → a + m * p ≤ 999999999 → (m = 0 → p = 1) → psz (r + 1) p a (sevB m ++ rest) = some (a + m * p, rest)
  | r, p, a, m, rest, h, hs, h0 => by
    by_cases hm : 127 < m
    · match r, h with
      | 0, h => simp at h; omega
      | r + 1, h =>
        rw [sevB_more hm]
        have hx : (UInt8.ofNat (128 + m % 128)).toNat = 128 + m % 128 := by simp; omega
        rw [List.cons_append, psz, hx, if_neg (by omega)]
        have hmul : m * p = m % 128 * p + m / 128 * (p * 128) := by
          have : m = m % 128 + m / 128 * 128 := by omega
          rw [Nat.mul_comm p 128, ← Nat.mul_assoc, ← Nat.add_mul, ← this]
        rw [show (128 + m % 128) % 128 = m % 128 from by omega]
        rw [psz_done r (p * 128) (a + m % 128 * p) (m / 128) rest (by rw [Nat.pow_succ] at h; omega) (by omega) (by omega)]
        rw [hmul]; simp [Nat.add_assoc]
    · rw [sevB_last hm]
      have hx : (UInt8.ofNat m).toNat = m := by simp; omega
      rw [List.cons_append, psz, hx, if_pos (by omega), Nat.mod_eq_of_lt (by omega), if_pos ⟨hs, by
        rcases Nat.eq_zero_or_pos m with e | e
        · exact Or.inr (h0 e)
        · exact Or.inl e⟩]
      rfl

def pnum : List UInt8 → Option (Int × List UInt8)
  | [] => none
  | b :: l => match psz 5 1 0 l with
    | none => none
    | some (s, r) => if b.toNat = 0 ∨ (b.toNat = 1 ∧ 0 < s) then some (if b.toNat = 1 then -(s : Int) else s, r) else none

theorem pnum_sound {l : List UInt8} {v : Int} {rest : List UInt8} (h : pnum l = some (v, rest)) : l = numB v ++ rest := by
  match l, h with
  | [], h => simp [pnum] at h
  | b :: l, h =>
    rw [pnum] at h
    match hs : psz 5 1 0 l, h with
    | none, h => simp at h
    | some (s, r), h =>
      obtain ⟨m, h1, h2, -, -⟩ := psz_sound 5 1 0 l s r (by decide) hs
      simp only at h
      split at h
      · rename_i hc
        simp only [Option.some.injEq, Prod.mk.injEq] at h
        obtain ⟨rfl, rfl⟩ := h
        have hm : m = s := by omega
        subst hm
        rcases hc with hb | ⟨hb, hpos⟩
        · have e : b = 0 := by rw [← u8_back b, hb]; rfl
          subst e
          rw [if_neg (by decide), h1]
          simp [numB]
        · have e : b = 1 := by rw [← u8_back b, hb]; rfl
          subst e
          rw [if_pos (by decide), h1]
          simp [numB]; omega
      · cases h

theorem pnum_done (v : Int) (rest : List UInt8) (h : v.natAbs ≤ 999999999) : pnum (numB v ++ rest) = some (v, rest) := by
  rw [numB, List.cons_append, pnum]
  have := psz_done 4 1 0 v.natAbs rest (by have : (128 : Nat) ^ 5 = 34359738368 := by decide
                                           omega) (by omega) (fun _ => rfl)
  rw [this]
  by_cases hn : v < 0
  · simp [hn]; omega
  · simp [hn]; omega

def ptx : List UInt8 → Option (ByteArray × List UInt8)
  | [] => none
  | n :: l => if n.toNat ≤ l.length then some (⟨(l.take n.toNat).toArray⟩, l.drop n.toNat) else none

theorem ptx_sound {l : List UInt8} {s : ByteArray} {rest : List UInt8} (h : ptx l = some (s, rest)) : l = shortB s ++ rest ∧ s.size < 256 := by
  match l, h with
  | [], h => simp [ptx] at h
  | n :: l, h =>
    rw [ptx] at h
    split at h
    · rename_i hn
      simp only [Option.some.injEq, Prod.mk.injEq] at h
      obtain ⟨rfl, rfl⟩ := h
      have hlt := n.toNat_lt
      have hsz : (⟨(l.take n.toNat).toArray⟩ : ByteArray).size = n.toNat := by
        show (l.take n.toNat).toArray.size = _
        simp; omega
      refine ⟨?_, by omega⟩
      rw [shortB, hsz, u8_back]
      simp
    · cases h

theorem ptx_done (s : ByteArray) (rest : List UInt8) (h : s.size < 256) : ptx (shortB s ++ rest) = some (s, rest) := by
  have hx : (UInt8.ofNat s.size).toNat = s.size := by simp; omega
  have hl : s.data.toList.length = s.size := by simp
  rw [shortB, List.cons_append, ptx, hx, if_pos (by simp)]
  have h1 : (s.data.toList ++ rest).take s.size = s.data.toList := by rw [← hl]; exact List.take_left ..
  have h2 : (s.data.toList ++ rest).drop s.size = rest := by rw [← hl]; exact List.drop_left ..
  rw [h1, h2]

/-- The kids, a reader of trees being given. -/
def pkids (P : List UInt8 → Option (Tr × List UInt8)) (form : Bool) : Nat → List UInt8 → Option (List ByteArray × List Tr × List UInt8)
  | 0, l => some ([], [], l)
  | n + 1, l =>
    if form then
      match ptx l with
      | none => none
      | some (s, l1) => match P l1 with
        | none => none
        | some (t, l2) => match pkids P form n l2 with
          | none => none
          | some (ns, ks, l3) => some (s :: ns, t :: ks, l3)
    else
      match P l with
      | none => none
      | some (t, l2) => match pkids P form n l2 with
        | none => none
        | some (ns, ks, l3) => some (ns, t :: ks, l3)

def ptree : Nat → List UInt8 → Option (Tr × List UInt8)
  | 0, _ => none
  | _ + 1, [] => none
  | f + 1, x :: l =>
    if x.toNat = 1 then (match pnum l with | none => none | some (v, r) => some (.mk 1 v ByteArray.empty [] [], r))
    else if x.toNat = 2 then (match ptx l with | none => none | some (s, r) => some (.mk 2 0 s [] [], r))
    else if x.toNat = 3 then (match l with | [] => none | y :: r => some (.mk 3 y.toNat ByteArray.empty [] [], r))
    else match l with
      | [] => none
      | c :: r => match pkids (ptree f) (decide (x.toNat = 5)) c.toNat r with
        | none => none
        | some (ns, ks, r') => some (.mk x.toNat 0 ByteArray.empty ns ks, r')

theorem pkids_sound {P : List UInt8 → Option (Tr × List UInt8)} {form : Bool} (hP : ∀ l t r, P l = some (t, r) → l = treeB t ++ r) : ∀ (n : Nat) (l : List UInt8) (ns : List ByteArray) (ks : List Tr) (rest : List UInt8), pkids P form n l = some (ns, ks, rest) → l = kidsB form ns ks ++ rest ∧ ks.length = n ∧ (form = false → ns = [])
  | 0, l, ns, ks, rest, h => by
    simp only [pkids, Option.some.injEq, Prod.mk.injEq] at h
    obtain ⟨rfl, rfl, rfl⟩ := h
    exact ⟨by rw [kidsB]; rfl, rfl, fun _ => rfl⟩
  | n + 1, l, ns, ks, rest, h => by
    rw [pkids] at h
    cases form with
    | true =>
      simp only [if_true] at h
      match h1 : ptx l, h with
      | none, h => simp at h
      | some (s, l1), h =>
        simp only at h
        match h2 : P l1, h with
        | none, h => simp at h
        | some (t, l2), h =>
          simp only at h
          match h3 : pkids P true n l2, h with
          | none, h => simp at h
          | some (ns', ks', l3), h =>
            simp only [Option.some.injEq, Prod.mk.injEq] at h
            obtain ⟨rfl, rfl, rfl⟩ := h
            obtain ⟨e1, e2, -⟩ := pkids_sound hP n l2 ns' ks' l3 h3
            refine ⟨?_, by simp [e2], fun e => by cases e⟩
            rw [(ptx_sound h1).1, hP _ _ _ h2, e1, kidsB]
            simp
    | false =>
      simp only [Bool.false_eq_true, if_false] at h
      match h2 : P l, h with
      | none, h => simp at h
      | some (t, l2), h =>
        simp only at h
        match h3 : pkids P false n l2, h with
        | none, h => simp at h
        | some (ns', ks', l3), h =>
          simp only [Option.some.injEq, Prod.mk.injEq] at h
          obtain ⟨rfl, rfl, rfl⟩ := h
          obtain ⟨e1, e2, e3⟩ := pkids_sound hP n l2 ns' ks' l3 h3
          have e4 := e3 rfl
          subst e4
          refine ⟨?_, by simp [e2], fun _ => rfl⟩
          rw [hP _ _ _ h2, e1, kidsB]
          simp

theorem ptree_sound : ∀ (f : Nat) (l : List UInt8) (t : Tr) (rest : List UInt8), ptree f l = some (t, rest) → l = treeB t ++ rest
  | 0, _, _, _, h => by simp [ptree] at h
  | _ + 1, [], _, _, h => by simp [ptree] at h
  | f + 1, x :: l, t, rest, h => by
    unfold ptree at h
    have hx := x.toNat_lt
    split at h
    · rename_i h1
      match h2 : pnum l, h with
      | none, h => simp at h
      | some (v, r), h =>
        simp only [Option.some.injEq, Prod.mk.injEq] at h
        obtain ⟨rfl, rfl⟩ := h
        have e : x = 1 := by rw [← u8_back x, h1]; rfl
        rw [pnum_sound h2, treeB, e]
        simp
    split at h
    · rename_i h1
      match h2 : ptx l, h with
      | none, h => simp at h
      | some (v, r), h =>
        simp only [Option.some.injEq, Prod.mk.injEq] at h
        obtain ⟨rfl, rfl⟩ := h
        have e : x = 2 := by rw [← u8_back x, h1]; rfl
        rw [(ptx_sound h2).1, treeB, e]
        simp
    split at h
    · rename_i h1
      match l, h with
      | [], h => simp at h
      | y :: r, h =>
        simp only [Option.some.injEq, Prod.mk.injEq] at h
        obtain ⟨rfl, rfl⟩ := h
        have e : x = 3 := by rw [← u8_back x, h1]; rfl
        rw [treeB, e]
        simp
    · rename_i h1 h2 h3
      match l, h with
      | [], h => simp at h
      | c :: r, h =>
        simp only at h
        match h4 : pkids (ptree f) (decide (x.toNat = 5)) c.toNat r, h with
        | none, h => simp at h
        | some (ns, ks, r'), h =>
          simp only [Option.some.injEq, Prod.mk.injEq] at h
          obtain ⟨rfl, rfl⟩ := h
          obtain ⟨e1, e2, -⟩ := pkids_sound (fun l t r h => ptree_sound f l t r h) _ _ _ _ _ h4
          rw [e1, treeB, if_neg (by omega), if_neg (by omega), if_neg (by omega), e2]
          have e5 : decide ((x.toNat : Int) = 5) = decide (x.toNat = 5) := by
            by_cases h5 : x.toNat = 5 <;> simp [h5]; omega
          rw [e5]
          simp

theorem text_none {s : ByteArray} (h : s.toList = []) : s = ByteArray.empty := by
  rw [ByteArray.toList_eq] at h
  obtain ⟨a⟩ := s
  simp only [Array.toList_eq_nil_iff] at h
  subst h; rfl

theorem ok_bare {t : Tr} {d : Int} (h : 0 < pT t d) : (t.sort ≠ 2 → t.text = ByteArray.empty) ∧ (t.sort ≠ 1 → t.sort ≠ 3 → t.num = 0) ∧ (t.sort ≠ 5 → t.names = []) ∧ (t.sort < 4 → t.kids = []) := by
  have ha := (ok_alone h).1
  rcases ok_sort h with hs | hs | hs | hs | hs | hs
  all_goals
    unfold aloneB at ha
    simp [hs] at ha
  · exact ⟨fun _ => text_none ha.1.1.2, fun e => absurd hs e, fun _ => ha.1.2, fun _ => ha.2⟩
  · exact ⟨fun e => absurd hs e, fun _ _ => ha.1.1.1, fun _ => ha.1.2, fun _ => ha.2⟩
  · exact ⟨fun _ => text_none ha.1.1.2, fun _ e => absurd hs e, fun _ => ha.1.2, fun _ => ha.2⟩
  · exact ⟨fun _ => text_none ha.1.1.2, fun _ _ => ha.1.1.1, fun _ => ha.1.2, fun e => by omega⟩
  · exact ⟨fun _ => text_none ha.1.1.2, fun _ _ => ha.1.1.1, fun e => absurd hs e, fun e => by omega⟩
  · exact ⟨fun _ => text_none ha.1.1.2, fun _ _ => ha.1.1.1, fun _ => ha.1.2, fun e => by omega⟩

mutual
theorem ptree_done : ∀ (t : Tr) (d : Int), 0 < pT t d → ∀ (f : Nat) (rest : List UInt8), (treeB t).length ≤ f → ptree f (treeB t ++ rest) = some (t, rest)
  | .mk s n tx ns ks, d => by
    intro h f rest hf
    have hs := ok_sort h
    have hb := ok_bare h
    have hnum := ok_num h
    have htext := ok_text h
    have hflag := ok_flag h
    have hnames := ok_names h
    have hmany := ok_many h
    have he := (ok_alone h).2.2
    rw [he] at h
    simp only [Tr.sort, Tr.num, Tr.text, Tr.names, Tr.kids] at *
    obtain ⟨b1, b2, b3, b4⟩ := hb
    rw [treeB] at hf ⊢
    match f, hf with
    | 0, hf => simp at hf
    | f + 1, hf =>
      have hx : (UInt8.ofNat s.toNat).toNat = s.toNat := by simp; omega
      rw [List.cons_append]
      unfold ptree
      rw [hx]
      by_cases h1 : s = 1
      · subst h1
        obtain ⟨e1, e2, e3, e4⟩ : tx = ByteArray.empty ∧ ns = [] ∧ ks = [] ∧ True := ⟨b1 (by decide), b3 (by decide), b4 (by decide), trivial⟩
        subst e1 e2 e3
        have := hnum rfl
        simp [pnum_done n rest (by omega)]
      by_cases h2 : s = 2
      · subst h2
        obtain ⟨e1, e2, e3, e4⟩ : n = 0 ∧ ns = [] ∧ ks = [] ∧ True := ⟨b2 (by decide) (by decide), b3 (by decide), b4 (by decide), trivial⟩
        subst e1 e2 e3
        have := htext rfl
        simp [ptx_done tx rest (by omega)]
      by_cases h3 : s = 3
      · subst h3
        obtain ⟨e1, e2, e3, e4⟩ : tx = ByteArray.empty ∧ ns = [] ∧ ks = [] ∧ True := ⟨b1 (by decide), b3 (by decide), b4 (by decide), trivial⟩
        subst e1 e2 e3
        have := hflag rfl
        simp
        omega
      rw [if_neg h1, if_neg h2, if_neg h3, if_neg (by omega), if_neg (by omega), if_neg (by omega)]
      obtain ⟨e1, e2⟩ : tx = ByteArray.empty ∧ n = 0 := ⟨b1 h2, b2 h1 h3⟩
      subst e1 e2
      have hc : (UInt8.ofNat ks.length).toNat = ks.length := by simp; omega
      have e5 : decide (s.toNat = 5) = decide (s = 5) := by
        by_cases h5 : s = 5 <;> simp [h5]; omega
      simp only [List.cons_append]
      rw [hc, e5]
      rw [if_neg h1, if_neg h2, if_neg h3] at hf
      have hk := pkids_done ks ns d 1 (decide (s = 5)) f rest h (fun e => hnames (by simpa using e)) (fun e => b3 (by simpa using e)) (by simp at hf; omega)
      rw [hk]
      simp
      omega
theorem pkids_done : ∀ (ks : List Tr) (ns : List ByteArray) (d n : Int) (form : Bool) (f : Nat) (rest : List UInt8), 0 < pK ks d n → (form = true → ns.length = ks.length ∧ ∀ s ∈ ns, s.size ≤ 8) → (form = false → ns = []) → (kidsB form ns ks).length ≤ f → pkids (ptree f) form ks.length (kidsB form ns ks ++ rest) = some (ns, ks, rest)
  | [], ns, d, n, form, f, rest, _, h1, h2, _ => by
    have : ns = [] := by
      cases form with
      | true => exact List.eq_nil_of_length_eq_zero (h1 rfl).1
      | false => exact h2 rfl
    subst this
    rw [kidsB]; rfl
  | t :: r, ns, d, n, form, f, rest, h, h1, h2, hf => by
    rw [pK] at h
    split at h
    · omega
    rename_i hh
    have hh' := not_or.1 hh
    have hp : 0 < pT t (d + 1) := by have := pT_bd t (d + 1); omega
    rw [kidsB] at hf ⊢
    cases form with
    | true =>
      obtain ⟨hl, h8⟩ := h1 rfl
      match ns, hl, h8 with
      | nm :: ns', hl, h8 =>
        simp only [if_true, List.headD_cons, List.tail_cons, List.length_append] at hf ⊢
        have i1 := ptree_done t (d + 1) hp f (kidsB true ns' r ++ rest) (by omega)
        have i2 := pkids_done r ns' d _ true f rest h (fun _ => ⟨by simpa using hl, fun s hs => h8 s (by simp [hs])⟩) (fun e => by cases e) (by omega)
        have i3 := ptx_done nm (treeB t ++ (kidsB true ns' r ++ rest)) (by have := h8 nm (by simp); omega)
        rw [List.length_cons, pkids]
        simp only [if_true, List.append_assoc]
        rw [i3]
        simp only
        rw [i1]
        simp only
        rw [i2]
    | false =>
      have e := h2 rfl
      subst e
      simp only [Bool.false_eq_true, if_false, List.nil_append, List.tail_nil, List.length_append] at hf ⊢
      have i1 := ptree_done t (d + 1) hp f (kidsB false [] r ++ rest) (by omega)
      have i2 := pkids_done r [] d _ false f rest h (fun e => by cases e) (fun _ => rfl) (by omega)
      rw [List.length_cons, pkids]
      simp only [Bool.false_eq_true, if_false, List.append_assoc]
      rw [i1]
      simp only
      rw [i2]
end
end Go.Proofs.YtbkagahmiibclaaGreatDoor
