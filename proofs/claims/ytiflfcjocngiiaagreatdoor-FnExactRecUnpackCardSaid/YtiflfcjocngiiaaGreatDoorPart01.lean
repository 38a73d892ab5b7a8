/- The program's reader of bytes as functions on lists of bytes; what it reads it would write, and what is written it reads. No program, no conditions. -/
import Derived.Test.YtiflfcjocngiiaaGreatDoorPart00
import Derived.Laws.Strings
import Derived.WalkKit
import Derived.Deep.OwnRows
namespace Go.Proofs.YtiflfcjocngiiaaGreatDoor
open Go Go.RowKit

/-- Seven bits a byte, so many bytes at most. -/
def psz : Nat → Nat → Nat → List UInt8 → Option (Nat × List UInt8)
  | 0, _, _, _ => none
  | _ + 1, _, _, [] => none
  | r + 1, p, a, x :: l =>
    if x.toNat < 128 then (if a + x.toNat % 128 * p ≤ 999999999 ∧ (0 < x.toNat ∨ p = 1) then some (a + x.toNat % 128 * p, l) else none)
    else psz r (p * 128) (a + x.toNat % 128 * p) l

theorem u8_back (x : UInt8) : UInt8.ofNat x.toNat = x := by simp

theorem psz_sound : ∀ (r p a : Nat) (l : List UInt8) (s : Nat) (rest : List UInt8), 0 < p → psz r p a l = some (s, rest) → ∃ m, l = sevB m ++ rest ∧ s = a + m * p ∧ (m = 0 → p = 1) ∧ s ≤ 999999999
  | 0, _, _, _, _, _, _, h => by simp [psz] at h
  | _ + 1, _, _, [], _, _, _, h => by simp [psz] at h
  | r + 1, p, a, x :: l, s, rest, hp, h => by
    rw [psz] at h
    split at h
    · rename_i hx
      split at h
      · rename_i hc
        simp only [Option.some.injEq, Prod.mk.injEq] at h
        obtain ⟨rfl, rfl⟩ := h
        refine ⟨x.toNat, ?_, ?_, fun e => ?_, hc.1⟩
        · rw [sevB_last (by omega), u8_back]; rfl
        · rw [Nat.mod_eq_of_lt hx]
        · rcases hc.2 with h1 | h1
          · omega
          · exact h1
      · cases h
    · rename_i hx
      obtain ⟨m, h1, h2, h3, h4⟩ := psz_sound r (p * 128) _ l s rest (by omega) h
      have hlt := x.toNat_lt
      have hm : 0 < m := by
        rcases Nat.eq_zero_or_pos m with e | e
        · have := h3 e; omega
        · exact e
      refine ⟨x.toNat % 128 + m * 128, ?_, ?_, fun e => by omega, h4⟩
      · rw [sevB_more (by omega), show (x.toNat % 128 + m * 128) / 128 = m from by omega, show 128 + (x.toNat % 128 + m * 128) % 128 = x.toNat from by omega, u8_back, h1]; rfl
      · rw [h2, Nat.add_mul, Nat.add_assoc, Nat.mul_assoc m 128 p, Nat.mul_comm 128 p]

theorem psz_done : ∀ (r p a m : Nat) (rest : List UInt8), m < 128 ^ (r + 1) → a + m * p ≤ 999999999 → (m = 0 → p = 1) → psz (r + 1) p a (sevB m ++ rest) = some (a + m * p, rest)
  | r, p, a, m, rest, h, hs, h0 => by
    by_cases hm : 127 < m
    · match r, h with
      | 0, h => simp at h; omega
      | r + 1, h =>
        rw [sevB_more hm]
        have hx : (UInt8.ofNat (128 + m % 128)).toNat = 128 + m % 128 := by simp; omega
        rw [List.cons_append, psz, hx, if_neg (by omega)]
        have hmul : m * p = m % 128 * p + m / 128 * (p * 128) := by
          have : m = m % 128 + m / 128 * 128 := by omega
          rw [Nat.mul_comm p 128, ← Nat.mul_assoc, ← Nat.add_mul, ← this]
        rw [show (128 + m % 128) % 128 = m % 128 from by omega]
        rw [psz_done r (p * 128) (a + m % 128 * p) (m / 128) rest (by rw [Nat.pow_succ] at h; omega) (by omega) (by omega)]
        rw [hmul]; simp [Nat.add_assoc]
    · rw [sevB_last hm]
      have hx : (UInt8.ofNat m).toNat = m := by simp; omega
      rw [List.cons_append, psz, hx, if_pos (by omega), Nat.mod_eq_of_lt (by omega), if_pos ⟨hs, by
        rcases Nat.eq_zero_or_pos m with e | e
        · exact Or.inr (h0 e)
        · exact Or.inl e⟩]
      rfl

def pnum : List UInt8 → Option (Int × List UInt8)
  | [] => none
  | b :: l => match psz 5 1 0 l with
    | none => none
    | some (s, r) => if b.toNat = 0 ∨ (b.toNat = 1 ∧ 0 < s) then some (if b.toNat = 1 then -(s : Int) else s, r) else none

theorem pnum_sound {l : List UInt8} {v : Int} {rest : List UInt8} (h : pnum l = some (v, rest)) : l = numB v ++ rest := by
  match l, h with
  | [], h => simp [pnum] at h
  | b :: l, h =>
    rw [pnum] at h
    match hs : psz 5 1 0 l, h with
    | none, h => simp at h
    | some (s, r), h =>
      obtain ⟨m, h1, h2, -, -⟩ := psz_sound 5 1 0 l s r (by decide) hs
      simp only at h
      split at h
      · rename_i hc
        simp only [Option.some.injEq, Prod.mk.injEq] at h
        obtain ⟨rfl, rfl⟩ := h
        have hm : m = s := by omega
        subst hm
        rcases hc with hb | ⟨hb, hpos⟩
        · have e : b = 0 := by rw [← u8_back b, hb]; rfl
          subst e
          rw [if_neg (by decide), h1]
          simp [numB]
        · have e : b = 1 := by rw [← u8_back b, hb]; rfl
          subst e
          rw [if_pos (by decide), h1]
          simp [numB]; omega
      · cases h

theorem pnum_done (v : Int) (rest : List UInt8) (h : v.natAbs ≤ 999999999) : pnum (numB v ++ rest) = some (v, rest) := by
  rw [numB, List.cons_append, pnum]
  have := psz_done 4 1 0 v.natAbs rest (by have : (128 : Nat) ^ 5 = 34359738368 := by decide
                                           omega) (by omega) (fun _ => rfl)
  rw [this]
  by_cases hn : v < 0
  · simp [hn]; omega
  · simp [hn]; omega

def ptx : List UInt8 → Option (ByteArray × List UInt8)
  | [] => none
  | n :: l => if n.toNat ≤ l.length then some (⟨(l.take n.toNat).toArray⟩, l.drop n.toNat) else none

theorem ptx_sound {l : List UInt8} {s : ByteArray} {rest : List UInt8} (h : ptx l = some (s, rest)) : l = shortB s ++ rest ∧ s.size < 256 := by
  match l, h with
  | [], h => simp [ptx] at h
  | n :: l, h =>
    rw [ptx] at h
    split at h
    · rename_i hn
      simp only [Option.some.injEq, Prod.mk.injEq] at h
      obtain ⟨rfl, rfl⟩ := h
      have hlt := n.toNat_lt
      have hsz : (⟨(l.take n.toNat).toArray⟩ : ByteArray).size = n.toNat := by
        show (l.take n.toNat).toArray.size = _
        simp; omega
      refine ⟨?_, by omega⟩
      rw [shortB, hsz, u8_back]
      simp
    · cases h

theorem ptx_done (s : ByteArray) (rest : List UInt8) (h : s.size < 256) : ptx (shortB s ++ rest) = some (s, rest) := by
  have hx : (UInt8.ofNat s.size).toNat = s.size := by simp; omega
  have hl : s.data.toList.length = s.size := by simp
  rw [shortB, List.cons_append, ptx, hx, if_pos (by simp)]
  have h1 : (s.data.toList ++ rest).take s.size = s.data.toList := by rw [← hl]; exact List.take_left ..
  have h2 : (s.data.toList ++ rest).drop s.size = rest := by rw [← hl]; exact List.drop_left ..
  rw [h1, h2]

/-- The kids, a reader of trees being given. -/
def pkids (P : List UInt8 → Option (Tr × List UInt8)) (form : Bool) : Nat → List UInt8 → Option (List ByteArray × List Tr × List UInt8)
  | 0, l => some ([], [], l)
  | n + 1, l =>
    if form then
      match ptx l with
      | none => none
      | some (s, l1) => match P l1 with
        | none => none
        | some (t, l2) => match pkids P form n l2 with
          | none => none
          | some (ns, ks, l3) => some (s :: ns, t :: ks, l3)
    else
      match P l with
      | none => none
      | some (t, l2) => match pkids P form n l2 with
        | none => none
        | some (ns, ks, l3) => some (ns, t :: ks, l3)

def ptree : Nat → List UInt8 → Option (Tr × List UInt8)
  | 0, _ => none
  | _ + 1, [] => none
  | f + 1, x :: l =>
    if x.toNat = 1 then (match pnum l with | none => none | some (v, r) => some (.mk 1 v ByteArray.empty [] [], r))
    else if x.toNat = 2 then (match ptx l with | none => none | some (s, r) => some (.mk 2 0 s [] [], r))
    else if x.toNat = 3 then (match l with | [] => none | y :: r => some (.mk 3 y.toNat ByteArray.empty [] [], r))
    else match l with
      | [] => none
      | c :: r => match pkids (ptree f) (decide (x.toNat = 5)) c.toNat r with
        | none => none
        | some (ns, ks, r') => some (.mk x.toNat 0 ByteArray.empty ns ks, r')

theorem pkids_sound {P : List UInt8 → Option (Tr × List UInt8)} {form : Bool} (hP : ∀ l t r, P l = some (t, r) → l = treeB t ++ r) : ∀ (n : Nat) (l : List UInt8) (ns : List ByteArray) (ks : List Tr) (rest : List UInt8), pkids P form n l = some (ns, ks, rest) → l = kidsB form ns ks ++ rest ∧ ks.length = n ∧ (form = false → ns = [])
  | 0, l, ns, ks, rest, h => by
    simp only [pkids, Option.some.injEq, Prod.mk.injEq] at h
    obtain ⟨rfl, rfl, rfl⟩ := h
    exact ⟨by rw [kidsB]; rfl, rfl, fun _ => rfl⟩
  | n + 1, l, ns, ks, rest, h => by
    rw [pkids] at h
    cases form with
    | true =>
      simp only [if_true] at h
      match h1 : ptx l, h with
      | none, h => simp at h
      | some (s, l1), h =>
        simp only at h
        match h2 : P l1, h with
        | none, h => simp at h
        | some (t, l2), h =>
          simp only at h
          match h3 : pkids P true n l2, h with
          | none, h => simp at h
          | some (ns', ks', l3), h =>
            simp only [Option.some.injEq, Prod.mk.injEq] at h
            obtain ⟨rfl, rfl, rfl⟩ := h
            obtain ⟨e1, e2, -⟩ := pkids_sound hP n l2 ns' ks' l3 h3
            refine ⟨?_, by simp [e2], fun e => by cases e⟩
            rw [(ptx_sound h1).1, hP _ _ _ h2, e1, kidsB]
            simp
    | false =>
      simp only [Bool.false_eq_true, if_false] at h
      match h2 : P l, h with
      | none, h => simp at h
      | some (t, l2), h =>
        simp only at h
        match h3 : pkids P false n l2, h with
        | none, h => simp at h
        | some (ns', ks', l3), h =>
          simp only [Option.some.injEq, Prod.mk.injEq] at h
          obtain ⟨rfl, rfl, rfl⟩ := h
          obtain ⟨e1, e2, e3⟩ := pkids_sound hP n l2 ns' ks' l3 h3
          have e4 := e3 rfl
          subst e4
          refine ⟨?_, by simp [e2], fun _ => rfl⟩
          rw [hP _ _ _ h2, e1, kidsB]
          simp

theorem ptree_sound : ∀ (f : Nat) (l : List UInt8) (t : Tr) (rest : List UInt8), ptree f l = some (t, rest) → l = treeB t ++ rest
  | 0, _, _, _, h => by simp [ptree] at h
  | _ + 1, [], _, _, h => by simp [ptree] at h
  | f + 1, x :: l, t, rest, h => by
    unfold ptree at h
    have hx := x.toNat_lt
    split at h
    · rename_i h1
      match h2 : pnum l, h with
      | none, h => simp at h
      | some (v, r), h =>
        simp only [Option.some.injEq, Prod.mk.injEq] at h
        obtain ⟨rfl, rfl⟩ := h
        have e : x = 1 := by rw [← u8_back x, h1]; rfl
        rw [pnum_sound h2, treeB, e]
        simp
    split at h
    · rename_i h1
      match h2 : ptx l, h with
      | none, h => simp at h
      | some (v, r), h =>
        simp only [Option.some.injEq, Prod.mk.injEq] at h
        obtain ⟨rfl, rfl⟩ := h
        have e : x = 2 := by rw [← u8_back x, h1]; rfl
        rw [(ptx_sound h2).1, treeB, e]
        simp
    split at h
    · rename_i h1
      match l, h with
      | [], h => simp at h
      | y :: r, h =>
        simp only [Option.some.injEq, Prod.mk.injEq] at h
        obtain ⟨rfl, rfl⟩ := h
        have e : x = 3 := by rw [← u8_back x, h1]; rfl
        rw [treeB, e]
        simp
    · rename_i h1 h2 h3
      match l, h with
      | [], h => simp at h
      | c :: r, h =>
        simp only at h
        match h4 : pkids (ptree f) (decide (x.toNat = 5)) c.toNat r, h with
        | none, h => simp at h
        | some (ns, ks, r'), h =>
          simp only [Option.some.injEq, Prod.mk.injEq] at h
          obtain ⟨rfl, rfl⟩ := h
          obtain ⟨e1, e2, -⟩ := pkids_sound (fun l t r h => ptree_sound f l t r h) _ _ _ _ _ h4
          rw [e1, treeB, if_neg (by omega), if_neg (by omega), if_neg (by omega), e2]
          have e5 : decide ((x.toNat : Int) = 5) = decide (x.toNat = 5) := by
            by_cases h5 : x.toNat = 5 <;> simp [h5]; omega
          rw [e5]
          simp

theorem text_none {s : ByteArray} (h : s.toList = []) : s = ByteArray.empty := by
  rw [ByteArray.toList_eq] at h
  obtain ⟨a⟩ := s
  simp only [Array.toList_eq_nil_iff] at h
  subst h; rfl

theorem ok_bare {t : Tr} {d : Int} (h : 0 < pT t d) : (t.sort ≠ 2 → t.text = ByteArray.empty) ∧ (t.sort ≠ 1 → t.sort ≠ 3 → t.num = 0) ∧ (t.sort ≠ 5 → t.names = []) ∧ (t.sort < 4 → t.kids = []) := by
  have ha := (ok_alone h).1
  rcases ok_sort h with hs | hs | hs | hs | hs | hs
  all_goals
    unfold aloneB at ha
    simp [hs] at ha
  · exact ⟨fun _ => text_none ha.1.1.2, fun e => absurd hs e, fun _ => ha.1.2, fun _ => ha.2⟩
  · exact ⟨fun e => absurd hs e, fun _ _ => ha.1.1.1, fun _ => ha.1.2, fun _ => ha.2⟩
  · exact ⟨fun _ => text_none ha.1.1.2, fun _ e => absurd hs e, fun _ => ha.1.2, fun _ => ha.2⟩
  · exact ⟨fun _ => text_none ha.1.1.2, fun _ _ => ha.1.1.1, fun _ => ha.1.2, fun e => by omega⟩
  · exact ⟨fun _ => text_none ha.1.1.2, fun _ _ => ha.1.1.1, fun e => absurd hs e, fun e => by omega⟩
  · exact ⟨fun _ => text_none ha.1.1.2, fun _ _ => ha.1.1.1, fun _ => ha.1.2, fun e => by omega⟩

mutual
theorem ptree_done : ∀ (t : Tr) (d : Int), 0 < pT t d → ∀ (f : Nat) (rest : List UInt8), (treeB t).length ≤ f → ptree f (treeB t ++ rest) = some (t, rest)
  | .mk s n tx ns ks, d => by
    intro h f rest hf
    have hs := ok_sort h
    have hb := ok_bare h
    have hnum := ok_num h
    have htext := ok_text h
    have hflag := ok_flag h
    have hnames := ok_names h
    have hmany := ok_many h
    have he := (ok_alone h).2.2
    rw [he] at h
    simp only [Tr.sort, Tr.num, Tr.text, Tr.names, Tr.kids] at *
    obtain ⟨b1, b2, b3, b4⟩ := hb
    rw [treeB] at hf ⊢
    match f, hf with
    | 0, hf => simp at hf
    | f + 1, hf =>
      have hx : (UInt8.ofNat s.toNat).toNat = s.toNat := by simp; omega
      rw [List.cons_append]
      unfold ptree
      rw [hx]
      by_cases h1 : s = 1
      · subst h1
        obtain ⟨e1, e2, e3, e4⟩ : tx = ByteArray.empty ∧ ns = [] ∧ ks = [] ∧ True := ⟨b1 (by decide), b3 (by decide), b4 (by decide), trivial⟩
        subst e1 e2 e3
        have := hnum rfl
        simp [pnum_done n rest (by omega)]
      by_cases h2 : s = 2
      · subst h2
        obtain ⟨e1, e2, e3, e4⟩ : n = 0 ∧ ns = [] ∧ ks = [] ∧ True := ⟨b2 (by decide) (by decide), b3 (by decide), b4 (by decide), trivial⟩
        subst e1 e2 e3
        have := htext rfl
        simp [ptx_done tx rest (by omega)]
      by_cases h3 : s = 3
      · subst h3
        obtain ⟨e1, e2, e3, e4⟩ : tx = ByteArray.empty ∧ ns = [] ∧ ks = [] ∧ True := ⟨b1 (by decide), b3 (by decide), b4 (by decide), trivial⟩
        subst e1 e2 e3
        have := hflag rfl
        simp
        omega
      rw [if_neg h1, if_neg h2, if_neg h3, if_neg (by omega), if_neg (by omega), if_neg (by omega)]
      obtain ⟨e1, e2⟩ : tx = ByteArray.empty ∧ n = 0 := ⟨b1 h2, b2 h1 h3⟩
      subst e1 e2
      have hc : (UInt8.ofNat ks.length).toNat = ks.length := by simp; omega
      have e5 : decide (s.toNat = 5) = decide (s = 5) := by
        by_cases h5 : s = 5 <;> simp [h5]; omega
      simp only [List.cons_append]
      rw [hc, e5]
      rw [if_neg h1, if_neg h2, if_neg h3] at hf
      have hk := pkids_done ks ns d 1 (decide (s = 5)) f rest h (fun e => hnames (by simpa using e)) (fun e => b3 (by simpa using e)) (by simp at hf; omega)
      rw [hk]
      simp
      omega
theorem pkids_done : ∀ (ks : List Tr) (ns : List ByteArray) (d n : Int) (form : Bool) (f : Nat) (rest : List UInt8), 0 < pK ks d n → (form = true → ns.length = ks.length ∧ ∀ s ∈ ns, s.size ≤ 8) → (form = false → ns = []) → (kidsB form ns ks).length ≤ f → pkids (ptree f) form ks.length (kidsB form ns ks ++ rest) = some (ns, ks, rest)
  | [], ns, d, n, form, f, rest, _, h1, h2, _ => by
    have : ns = [] := by
      cases form with
      | true => exact List.eq_nil_of_length_eq_zero (h1 rfl).1
      | false => exact h2 rfl
    subst this
    rw [kidsB]; rfl
  | t :: r, ns, d, n, form, f, rest, h, h1, h2, hf => by
    rw [pK] at h
    split at h
    · omega
    rename_i hh
    have hh' := not_or.1 hh
    have hp : 0 < pT t (d + 1) := by have := pT_bd t (d + 1); omega
    rw [kidsB] at hf ⊢
    cases form with
    | true =>
      obtain ⟨hl, h8⟩ := h1 rfl
      match ns, hl, h8 with
      | nm :: ns', hl, h8 =>
        simp only [if_true, List.headD_cons, List.tail_cons, List.length_append] at hf ⊢
        have i1 := ptree_done t (d + 1) hp f (kidsB true ns' r ++ rest) (by omega)
        have i2 := pkids_done r ns' d _ true f rest h (fun _ => ⟨by simpa using hl, fun s hs => h8 s (by simp [hs])⟩) (fun e => by cases e) (by omega)
        have i3 := ptx_done nm (treeB t ++ (kidsB true ns' r ++ rest)) (by have := h8 nm (by simp); omega)
        rw [List.length_cons, pkids]
        simp only [if_true, List.append_assoc]
        rw [i3]
        simp only
        rw [i1]
        simp only
        rw [i2]
    | false =>
      have e := h2 rfl
      subst e
      simp only [Bool.false_eq_true, if_false, List.nil_append, List.tail_nil, List.length_append] at hf ⊢
      have i1 := ptree_done t (d + 1) hp f (kidsB false [] r ++ rest) (by omega)
      have i2 := pkids_done r [] d _ false f rest h (fun e => by cases e) (fun _ => rfl) (by omega)
      rw [List.length_cons, pkids]
      simp only [Bool.false_eq_true, if_false, List.append_assoc]
      rw [i1]
      simp only
      rw [i2]
end
end Go.Proofs.YtiflfcjocngiiaaGreatDoor

/- Worlds of which but one block is as it was; append onto a row of the call's own. No program walked, no conditions. -/

namespace Go.Proofs.YtiflfcjocngiiaaGreatDoor
open Go Go.RowKit

/-- All blocks but B that were there are as they were. -/
abbrev But (B : Nat) (w w' : World) : Prop := w.grownBy w' (some B)

theorem But.refl (B : Nat) (w : World) : But B w w := World.grownBy.refl w _
theorem But.trans {B : Nat} {a b c : World} (h : But B a b) (k : But B b c) : But B a c :=
  ⟨k.os.trans h.os, k.tape.trans h.tape, k.output.trans h.output, Nat.le_trans h.size k.size, fun i hi hne => (k.block i (Nat.lt_of_lt_of_le hi h.size) hne).trans (h.block i hi hne)⟩
theorem But.of_below {B : Nat} {w w' : World} (h : Below w.heap.size w w') : But B w w' :=
  ⟨h.os, h.tape, h.output, h.size, fun i hi _ => h.block i hi⟩
theorem But.alloc (B : Nat) (w : World) (o : Obj) : But B w (w.alloc o) := But.of_below ((Below.refl _ _).alloc (Nat.le_refl _) o)
theorem But.set {B : Nat} (w : World) (o : Nat) (v : Value) : But B w (w.setCell ⟨B, o, none⟩ v) :=
  ⟨rfl, rfl, rfl, by simp [World.setCell], fun i _ hne => Below.heap_setCell _ _ _ _ (fun e => hne (by rw [e]))⟩
theorem But.at {B : Nat} {w w' : World} (h : But B w w') {b : Nat} (hb : b < w.heap.size) (hne : b ≠ B) : w'.heap[b]? = w.heap[b]? :=
  h.block b hb (fun e => hne (by simpa using e))

theorem ownsRow_base {w : World} {base base' : Nat} {e : TypeId} {size : Nat} {v : Value} {n : Nat} {xs : List Value} (h : w.ownsRow base e size v n xs) (hb : base' ≤ base) : w.ownsRow base' e size v n xs := by
  refine ⟨h.1, ?_⟩
  rcases h.2 with h | ⟨g, cap, cur, h1, h2, h3⟩
  · exact Or.inl h
  · exact Or.inr ⟨g, cap, cur, h1, Nat.le_trans hb h2, h3⟩

/-- append onto a row of the call's own: behind it the value lies in the same block, or in a new one. -/
theorem append_row {P : Program} (w : World) {ops : Array Oper} {rest : List Oper} {o : Oper} {a : Act} {Q : Exit → Act → World → Prop}
    (hg : o.guard = none) (s x : Operand) (t : TypeId) (hop : o.op = Op.call { callee := Callee.builtin Builtin.append, args := #[s, x], argTypes := #[t, t] })
    (base : Nat) (e : TypeId) (i : TypeInfo) (z : Value) (size bytes : Nat) (h1 : P.underlying t = some (.slice e)) (h2 : P.info? e = some i) (h3 : i.zero = some z) (h4 : i.size = size) (h5 : i.bytes = bytes) (h6 : z.cells.size = size) (h7 : 0 < size)
    (v : Value) (n : Nat) (xs : List Value) (hs : a.eval s = v) (hown : w.ownsRow base e size v n xs)
    (ad : Addr) (m c : Nat) (news : List Value) (hx : a.eval x = .slice (some ad) m c) (hn : news.length = m * size) (hc : ∀ j u, news[j]? = some u → w.cell? (ad.add j) = some u) (h1c : ∀ u ∈ news, u.oneCell' = true)
    (hm : 0 < m) (b1 : n + m ≤ maxLen) (b2 : (n + m) * bytes ≤ 140737488355328) (hbase : base ≤ w.heap.size)
    (hK : ∀ v' w', w'.ownsRow base e size v' (n + m) (xs ++ news) → w.grownBy w' v.ownBlock → (v'.ownBlock = v.ownBlock ∨ ∃ g, v'.ownBlock = some g ∧ w.heap.size ≤ g) → wpList P ops Q rest (a.put o.dst v') w') :
    wpList P ops Q (o :: rest) a w := by
  have hgrow : ∀ v' w', w'.ownsRow w.heap.size e size v' (n + m) (xs ++ news) → w.grownBy w' none → wpList P ops Q rest (a.put o.dst v') w' := fun v' w' r1 r2 => by
    refine hK v' w' (ownsRow_base r1 hbase) ⟨r2.os, r2.tape, r2.output, r2.size, fun k hk _ => r2.block k hk (by simp)⟩ (Or.inr ?_)
    rcases r1.2 with ⟨_, h⟩ | ⟨g, cap, cur, hv, hgg, _⟩
    · omega
    · exact ⟨g, by rw [hv]; rfl, hgg⟩
  rcases hown.2 with ⟨hv, hn0⟩ | ⟨g, cap, cur, hv, hgb, hh, hle, hm2, hsz, htk⟩
  · subst hv; subst hn0
    have hxs : xs = [] := List.eq_nil_of_length_eq_zero (by have := hown.1; simpa using this)
    subst hxs
    exact wpList_append_grows w hg s x t hop e i z size bytes h1 h2 h3 h4 h5 h6 h7 none 0 0 [] hs (fun _ => ⟨rfl, rfl⟩) (by simp) (fun b hb => by cases hb) ad m c news hx hn hc h1c (by omega) b1 b2 hgrow
  · by_cases hr : n + m ≤ cap
    · subst hv
      exact wpList_append_fits w hg s x t hop base e i size h1 h2 h4 g n cap xs hs hown ad m c news hx hn hc h1c hr fun w' r1 r2 => hK _ w' r1 r2 (Or.inl rfl)
    · refine wpList_append_grows w hg s x t hop e i z size bytes h1 h2 h3 h4 h5 h6 h7 (some ⟨g, 0, none⟩) n cap xs (by rw [hs, hv]) (fun hb => by cases hb) hown.1 (fun b hb j u hj => ?_) ad m c news hx hn hc h1c (by omega) b1 b2 hgrow
      simp only [Option.some.injEq] at hb
      subst hb
      have hj' : cur.toList[j]? = some u := by
        rw [← htk] at hj
        rw [List.getElem?_take] at hj
        split at hj
        · exact hj
        · cases hj
      rw [Addr.add_lit]
      simp only [Nat.zero_add, World.cell?, hh]
      simpa using hj'

theorem cell_one (w : World) (x : Value) (t : TypeId) : ∀ j u, [x][j]? = some u → (w.alloc (.cells #[x] t)).cell? ((⟨w.heap.size, 0, none⟩ : Addr).add j) = some u := by
  intro j u hj
  match j with
  | 0 => simp only [List.getElem?_cons_zero, Option.some.injEq] at hj; subst hj; rw [Addr.add_lit]; simp [go_sem]
  | j + 1 => simp at hj
end Go.Proofs.YtiflfcjocngiiaaGreatDoor
