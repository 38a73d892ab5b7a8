/- A part. -/
import Derived.Test.YtbkagahmiibclaaGreatDoorPart10
import Derived.Lib.AtoiAllCases
import Derived.Lib.ItoaMem
namespace Go.Proofs.YtbkagahmiibclaaGreatDoor
set_option maxRecDepth 100000
set_option maxHeartbeats 1600000
open Go Go.RowKit
def psz : Nat → Nat → Nat → List UInt8 → Option (Nat × List UInt8)
 | 0, _, _, _ => none
 | _ + 1, _, _, [] => none
 | r + 1, p, a, x :: l =>
   if x.toNat < 128 then (if a + x.toNat % 128 * p ≤ 999999999 ∧ (0 < x.toNat ∨ p = 1) then some (a + x.toNat % 128 * p, l) else none)
   else psz r (p * 128) (a + x.toNat % 128 * p) l
theorem u8_back (x : UInt8) : UInt8.ofNat x.toNat = x := by simp
theorem psz_sound : ∀ (r p a : Nat) (l : List UInt8) (s : Nat) (rest : List UInt8), 0 < p → psz r p a l = some (s, rest) → ∃ m, l = sevB m ++ rest ∧ s = a + m * p ∧ (m = 0 → p = 1) ∧ s ≤ 999999999
 | 0, _, _, _, _, _, _, h => by simp [psz] at h
 | _ + 1, _, _, [], _, _, _, h => by simp [psz] at h
 | r + 1, p, a, x :: l, s, rest, hp, h => by
   rw [psz] at h
   split at h
   · rename_i hx
     split at h
     · rename_i hc
       simp only [Option.some.injEq, Prod.mk.injEq] at h
       obtain ⟨rfl, rfl⟩ := h
       refine ⟨x.toNat, ?_, ?_, fun e => ?_, hc.1⟩
       · rw [sevB_last (by omega), u8_back]; rfl
       · rw [Nat.mod_eq_of_lt hx]
       · rcases hc.2 with h1 | h1
         · omega
         · exact h1
     · cases h
   · rename_i hx
     obtain ⟨m, h1, h2, h3, h4⟩ := psz_sound r (p * 128) _ l s rest (by omega) h
     have hlt := x.toNat_lt
     have hm : 0 < m := by
      rcases Nat.eq_zero_or_pos m with e | e
      · have := h3 e; omega
      · exact e
     refine ⟨x.toNat % 128 + m * 128, ?_, ?_, fun e => by omega, h4⟩
     · rw [sevB_more (by omega), show (x.toNat % 128 + m * 128) / 128 = m from by omega, show 128 + (x.toNat % 128 + m * 128) % 128 = x.toNat from by omega, u8_back, h1]; rfl
     · rw [h2, Nat.add_mul, Nat.add_assoc, Nat.mul_assoc m 128 p, Nat.mul_comm 128 p]
theorem psz_done : ∀ (r p a m : Nat) (rest : List UInt8), m < 128 ^ (r + 1) → a + m * p ≤ 999999999 → (m = 0 → p = 1) → psz (r + 1) p a (sevB m ++ rest) = some (a + m * p, rest)
 | r, p, a, m, rest, h, hs, h0 => by
   by_cases hm : 127 < m
   · match r, h with
     | 0, h => simp at h; omega
     | r + 1, h =>
       rw [sevB_more hm]
       have hx : (UInt8.ofNat (128 + m % 128)).toNat = 128 + m % 128 := by simp; omega
       rw [List.cons_append, psz, hx, if_neg (by omega)]
       have hmul : m * p = m % 128 * p + m / 128 * (p * 128) := by
        have : m = m % 128 + m / 128 * 128 := by omega
        rw [Nat.mul_comm p 128, ← Nat.mul_assoc, ← Nat.add_mul, ← this]
       rw [show (128 + m % 128) % 128 = m % 128 from by omega]
       rw [psz_done r (p * 128) (a + m % 128 * p) (m / 128) rest (by rw [Nat.pow_succ] at h; omega) (by omega) (by omega)]
       rw [hmul]; simp [Nat.add_assoc]
   · rw [sevB_last hm]
     have hx : (UInt8.ofNat m).toNat = m := by simp; omega
     rw [List.cons_append, psz, hx, if_pos (by omega), Nat.mod_eq_of_lt (by omega), if_pos ⟨hs, by
      rcases Nat.eq_zero_or_pos m with e | e
      · exact Or.inr (h0 e)
      · exact Or.inl e⟩]
     rfl
def pnum : List UInt8 → Option (Int × List UInt8)
 | [] => none
 | b :: l => match psz 5 1 0 l with
   | none => none
   | some (s, r) => if b.toNat = 0 ∨ (b.toNat = 1 ∧ 0 < s) then some (if b.toNat = 1 then -(s : Int) else s, r) else none
theorem pnum_sound {l : List UInt8} {v : Int} {rest : List UInt8} (h : pnum l = some (v, rest)) : l = numB v ++ rest := by
 match l, h with
 | [], h => simp [pnum] at h
 | b :: l, h =>
   rw [pnum] at h
   match hs : psz 5 1 0 l, h with
   | none, h => simp at h
   | some (s, r), h =>
     obtain ⟨m, h1, h2, -, -⟩ := psz_sound 5 1 0 l s r (by decide) hs
     simp only at h
     split at h
     · rename_i hc
       simp only [Option.some.injEq, Prod.mk.injEq] at h
       obtain ⟨rfl, rfl⟩ := h
       have hm : m = s := by omega
       subst hm
       rcases hc with hb | ⟨hb, hpos⟩
       · have e : b = 0 := by rw [← u8_back b, hb]; rfl
         subst e
         rw [if_neg (by decide), h1]
         simp [numB]
       · have e : b = 1 := by rw [← u8_back b, hb]; rfl
         subst e
         rw [if_pos (by decide), h1]
         simp [numB]; omega
     · cases h
theorem pnum_done (v : Int) (rest : List UInt8) (h : v.natAbs ≤ 999999999) : pnum (numB v ++ rest) = some (v, rest) := by
 rw [numB, List.cons_append, pnum]
 have := psz_done 4 1 0 v.natAbs rest (by have : (128 : Nat) ^ 5 = 34359738368 := by decide
                                          omega) (by omega) (fun _ => rfl)
 rw [this]
 by_cases hn : v < 0
 · simp [hn]; omega
 · simp [hn]; omega
def ptx : List UInt8 → Option (ByteArray × List UInt8)
 | [] => none
 | n :: l => if n.toNat ≤ l.length then some (⟨(l.take n.toNat).toArray⟩, l.drop n.toNat) else none
theorem ptx_sound {l : List UInt8} {s : ByteArray} {rest : List UInt8} (h : ptx l = some (s, rest)) : l = shortB s ++ rest ∧ s.size < 256 := by
 match l, h with
 | [], h => simp [ptx] at h
 | n :: l, h =>
   rw [ptx] at h
   split at h
   · rename_i hn
     simp only [Option.some.injEq, Prod.mk.injEq] at h
     obtain ⟨rfl, rfl⟩ := h
     have hlt := n.toNat_lt
     have hsz : (⟨(l.take n.toNat).toArray⟩ : ByteArray).size = n.toNat := by
      show (l.take n.toNat).toArray.size = _
      simp; omega
     refine ⟨?_, by omega⟩
     rw [shortB, hsz, u8_back]
     simp
   · cases h
theorem ptx_done (s : ByteArray) (rest : List UInt8) (h : s.size < 256) : ptx (shortB s ++ rest) = some (s, rest) := by
 have hx : (UInt8.ofNat s.size).toNat = s.size := by simp; omega
 have hl : s.data.toList.length = s.size := by simp
 rw [shortB, List.cons_append, ptx, hx, if_pos (by simp)]
 have h1 : (s.data.toList ++ rest).take s.size = s.data.toList := by rw [← hl]; exact List.take_left ..
 have h2 : (s.data.toList ++ rest).drop s.size = rest := by rw [← hl]; exact List.drop_left ..
 rw [h1, h2]
def pkids (P : List UInt8 → Option (Tr × List UInt8)) (form : Bool) : Nat → List UInt8 → Option (List ByteArray × List Tr × List UInt8)
 | 0, l => some ([], [], l)
 | n + 1, l =>
   if form then
    match ptx l with
    | none => none
    | some (s, l1) => match P l1 with
      | none => none
      | some (t, l2) => match pkids P form n l2 with
        | none => none
        | some (ns, ks, l3) => some (s :: ns, t :: ks, l3)
   else
    match P l with
    | none => none
    | some (t, l2) => match pkids P form n l2 with
      | none => none
      | some (ns, ks, l3) => some (ns, t :: ks, l3)
def ptree : Nat → List UInt8 → Option (Tr × List UInt8)
 | 0, _ => none
 | _ + 1, [] => none
 | f + 1, x :: l =>
   if x.toNat = 1 then (match pnum l with | none => none | some (v, r) => some (.mk 1 v ByteArray.empty [] [], r))
   else if x.toNat = 2 then (match ptx l with | none => none | some (s, r) => some (.mk 2 0 s [] [], r))
   else if x.toNat = 3 then (match l with | [] => none | y :: r => some (.mk 3 y.toNat ByteArray.empty [] [], r))
   else match l with
    | [] => none
    | c :: r => match pkids (ptree f) (decide (x.toNat = 5)) c.toNat r with
      | none => none
      | some (ns, ks, r') => some (.mk x.toNat 0 ByteArray.empty ns ks, r')
theorem pkids_sound {P : List UInt8 → Option (Tr × List UInt8)} {form : Bool} (hP : ∀ l t r, P l = some (t, r) → l = treeB t ++ r) : ∀ (n : Nat) (l : List UInt8) (ns : List ByteArray) (ks : List Tr) (rest : List UInt8), pkids P form n l = some (ns, ks, rest) → l = kidsB form ns ks ++ rest ∧ ks.length = n ∧ (form = false → ns = [])
 | 0, l, ns, ks, rest, h => by
   simp only [pkids, Option.some.injEq, Prod.mk.injEq] at h
   obtain ⟨rfl, rfl, rfl⟩ := h
   exact ⟨by rw [kidsB]; rfl, rfl, fun _ => rfl⟩
 | n + 1, l, ns, ks, rest, h => by
   rw [pkids] at h
   cases form with
   | true =>
     simp only [if_true] at h
     match h1 : ptx l, h with
     | none, h => simp at h
     | some (s, l1), h =>
       simp only at h
       match h2 : P l1, h with
       | none, h => simp at h
       | some (t, l2), h =>
         simp only at h
         match h3 : pkids P true n l2, h with
         | none, h => simp at h
         | some (ns', ks', l3), h =>
           simp only [Option.some.injEq, Prod.mk.injEq] at h
           obtain ⟨rfl, rfl, rfl⟩ := h
           obtain ⟨e1, e2, -⟩ := pkids_sound hP n l2 ns' ks' l3 h3
           refine ⟨?_, by simp [e2], fun e => by cases e⟩
           rw [(ptx_sound h1).1, hP _ _ _ h2, e1, kidsB]
           simp
   | false =>
     simp only [Bool.false_eq_true, if_false] at h
     match h2 : P l, h with
     | none, h => simp at h
     | some (t, l2), h =>
       simp only at h
       match h3 : pkids P false n l2, h with
       | none, h => simp at h
       | some (ns', ks', l3), h =>
         simp only [Option.some.injEq, Prod.mk.injEq] at h
         obtain ⟨rfl, rfl, rfl⟩ := h
         obtain ⟨e1, e2, e3⟩ := pkids_sound hP n l2 ns' ks' l3 h3
         have e4 := e3 rfl
         subst e4
         refine ⟨?_, by simp [e2], fun _ => rfl⟩
         rw [hP _ _ _ h2, e1, kidsB]
         simp
theorem ptree_sound : ∀ (f : Nat) (l : List UInt8) (t : Tr) (rest : List UInt8), ptree f l = some (t, rest) → l = treeB t ++ rest
 | 0, _, _, _, h => by simp [ptree] at h
 | _ + 1, [], _, _, h => by simp [ptree] at h
 | f + 1, x :: l, t, rest, h => by
   unfold ptree at h
   have hx := x.toNat_lt
   split at h
   · rename_i h1
     match h2 : pnum l, h with
     | none, h => simp at h
     | some (v, r), h =>
       simp only [Option.some.injEq, Prod.mk.injEq] at h
       obtain ⟨rfl, rfl⟩ := h
       have e : x = 1 := by rw [← u8_back x, h1]; rfl
       rw [pnum_sound h2, treeB, e]
       simp
   split at h
   · rename_i h1
     match h2 : ptx l, h with
     | none, h => simp at h
     | some (v, r), h =>
       simp only [Option.some.injEq, Prod.mk.injEq] at h
       obtain ⟨rfl, rfl⟩ := h
       have e : x = 2 := by rw [← u8_back x, h1]; rfl
       rw [(ptx_sound h2).1, treeB, e]
       simp
   split at h
   · rename_i h1
     match l, h with
     | [], h => simp at h
     | y :: r, h =>
       simp only [Option.some.injEq, Prod.mk.injEq] at h
       obtain ⟨rfl, rfl⟩ := h
       have e : x = 3 := by rw [← u8_back x, h1]; rfl
       rw [treeB, e]
       simp
   · rename_i h1 h2 h3
     match l, h with
     | [], h => simp at h
     | c :: r, h =>
       simp only at h
       match h4 : pkids (ptree f) (decide (x.toNat = 5)) c.toNat r, h with
       | none, h => simp at h
       | some (ns, ks, r'), h =>
         simp only [Option.some.injEq, Prod.mk.injEq] at h
         obtain ⟨rfl, rfl⟩ := h
         obtain ⟨e1, e2, -⟩ := pkids_sound (fun l t r h => ptree_sound f l t r h) _ _ _ _ _ h4
         rw [e1, treeB, if_neg (by omega), if_neg (by omega), if_neg (by omega), e2]
         have e5 : decide ((x.toNat : Int) = 5) = decide (x.toNat = 5) := by
          by_cases h5 : x.toNat = 5 <;> simp [h5]; omega
         rw [e5]
         simp
theorem text_none {s : ByteArray} (h : s.toList = []) : s = ByteArray.empty := by
 rw [ByteArray.toList_eq] at h
 obtain ⟨a⟩ := s
 simp only [Array.toList_eq_nil_iff] at h
 subst h; rfl
theorem ok_bare {t : Tr} {d : Int} (h : 0 < pT t d) : (t.sort ≠ 2 → t.text = ByteArray.empty) ∧ (t.sort ≠ 1 → t.sort ≠ 3 → t.num = 0) ∧ (t.sort ≠ 5 → t.names = []) ∧ (t.sort < 4 → t.kids = []) := by
 have ha := (ok_alone h).1
 rcases ok_sort h with hs | hs | hs | hs | hs | hs
 all_goals
  unfold aloneB at ha
  simp [hs] at ha
 · exact ⟨fun _ => text_none ha.1.1.2, fun e => absurd hs e, fun _ => ha.1.2, fun _ => ha.2⟩
 · exact ⟨fun e => absurd hs e, fun _ _ => ha.1.1.1, fun _ => ha.1.2, fun _ => ha.2⟩
 · exact ⟨fun _ => text_none ha.1.1.2, fun _ e => absurd hs e, fun _ => ha.1.2, fun _ => ha.2⟩
 · exact ⟨fun _ => text_none ha.1.1.2, fun _ _ => ha.1.1.1, fun _ => ha.1.2, fun e => by omega⟩
 · exact ⟨fun _ => text_none ha.1.1.2, fun _ _ => ha.1.1.1, fun e => absurd hs e, fun e => by omega⟩
 · exact ⟨fun _ => text_none ha.1.1.2, fun _ _ => ha.1.1.1, fun _ => ha.1.2, fun e => by omega⟩
mutual
theorem ptree_done : ∀ (t : Tr) (d : Int), 0 < pT t d → ∀ (f : Nat) (rest : List UInt8), (treeB t).length ≤ f → ptree f (treeB t ++ rest) = some (t, rest)
 | .mk s n tx ns ks, d => by
   intro h f rest hf
   have hs := ok_sort h
   have hb := ok_bare h
   have hnum := ok_num h
   have htext := ok_text h
   have hflag := ok_flag h
   have hnames := ok_names h
   have hmany := ok_many h
   have he := (ok_alone h).2.2
   rw [he] at h
   simp only [Tr.sort, Tr.num, Tr.text, Tr.names, Tr.kids] at *
   obtain ⟨b1, b2, b3, b4⟩ := hb
   rw [treeB] at hf ⊢
   match f, hf with
   | 0, hf => simp at hf
   | f + 1, hf =>
     have hx : (UInt8.ofNat s.toNat).toNat = s.toNat := by simp; omega
     rw [List.cons_append]
     unfold ptree
     rw [hx]
     by_cases h1 : s = 1
     · subst h1
       obtain ⟨e1, e2, e3, e4⟩ : tx = ByteArray.empty ∧ ns = [] ∧ ks = [] ∧ True := ⟨b1 (by decide), b3 (by decide), b4 (by decide), trivial⟩
       subst e1 e2 e3
       have := hnum rfl
       simp [pnum_done n rest (by omega)]
     by_cases h2 : s = 2
     · subst h2
       obtain ⟨e1, e2, e3, e4⟩ : n = 0 ∧ ns = [] ∧ ks = [] ∧ True := ⟨b2 (by decide) (by decide), b3 (by decide), b4 (by decide), trivial⟩
       subst e1 e2 e3
       have := htext rfl
       simp [ptx_done tx rest (by omega)]
     by_cases h3 : s = 3
     · subst h3
       obtain ⟨e1, e2, e3, e4⟩ : tx = ByteArray.empty ∧ ns = [] ∧ ks = [] ∧ True := ⟨b1 (by decide), b3 (by decide), b4 (by decide), trivial⟩
       subst e1 e2 e3
       have := hflag rfl
       simp
       omega
     rw [if_neg h1, if_neg h2, if_neg h3, if_neg (by omega), if_neg (by omega), if_neg (by omega)]
     obtain ⟨e1, e2⟩ : tx = ByteArray.empty ∧ n = 0 := ⟨b1 h2, b2 h1 h3⟩
     subst e1 e2
     have hc : (UInt8.ofNat ks.length).toNat = ks.length := by simp; omega
     have e5 : decide (s.toNat = 5) = decide (s = 5) := by
      by_cases h5 : s = 5 <;> simp [h5]; omega
     simp only [List.cons_append]
     rw [hc, e5]
     rw [if_neg h1, if_neg h2, if_neg h3] at hf
     have hk := pkids_done ks ns d 1 (decide (s = 5)) f rest h (fun e => hnames (by simpa using e)) (fun e => b3 (by simpa using e)) (by simp at hf; omega)
     rw [hk]
     simp
     omega
theorem pkids_done : ∀ (ks : List Tr) (ns : List ByteArray) (d n : Int) (form : Bool) (f : Nat) (rest : List UInt8), 0 < pK ks d n → (form = true → ns.length = ks.length ∧ ∀ s ∈ ns, s.size ≤ 8) → (form = false → ns = []) → (kidsB form ns ks).length ≤ f → pkids (ptree f) form ks.length (kidsB form ns ks ++ rest) = some (ns, ks, rest)
 | [], ns, d, n, form, f, rest, _, h1, h2, _ => by
   have : ns = [] := by
    cases form with
    | true => exact List.eq_nil_of_length_eq_zero (h1 rfl).1
    | false => exact h2 rfl
   subst this
   rw [kidsB]; rfl
 | t :: r, ns, d, n, form, f, rest, h, h1, h2, hf => by
   rw [pK] at h
   split at h
   · omega
   rename_i hh
   have hh' := not_or.1 hh
   have hp : 0 < pT t (d + 1) := by have := pT_bd t (d + 1); omega
   rw [kidsB] at hf ⊢
   cases form with
   | true =>
     obtain ⟨hl, h8⟩ := h1 rfl
     match ns, hl, h8 with
     | nm :: ns', hl, h8 =>
       simp only [if_true, List.headD_cons, List.tail_cons, List.length_append] at hf ⊢
       have i1 := ptree_done t (d + 1) hp f (kidsB true ns' r ++ rest) (by omega)
       have i2 := pkids_done r ns' d _ true f rest h (fun _ => ⟨by simpa using hl, fun s hs => h8 s (by simp [hs])⟩) (fun e => by cases e) (by omega)
       have i3 := ptx_done nm (treeB t ++ (kidsB true ns' r ++ rest)) (by have := h8 nm (by simp); omega)
       rw [List.length_cons, pkids]
       simp only [if_true, List.append_assoc]
       rw [i3]
       simp only
       rw [i1]
       simp only
       rw [i2]
   | false =>
     have e := h2 rfl
     subst e
     simp only [Bool.false_eq_true, if_false, List.nil_append, List.tail_nil, List.length_append] at hf ⊢
     have i1 := ptree_done t (d + 1) hp f (kidsB false [] r ++ rest) (by omega)
     have i2 := pkids_done r [] d _ false f rest h (fun e => by cases e) (fun _ => rfl) (by omega)
     rw [List.length_cons, pkids]
     simp only [Bool.false_eq_true, if_false, List.append_assoc]
     rw [i1]
     simp only
     rw [i2]
end
end Go.Proofs.YtbkagahmiibclaaGreatDoor

namespace Go.Proofs.YtbkagahmiibclaaGreatDoor
open Go Go.RowKit
theorem ByRow.apart {base : Nat} {w : World} {v : Value} {l : List UInt8} {b : Nat} {T : TypeId} {n : Nat} {f : Nat → Value} (h : ByRow base w v l) (hr : w.rowIs b T n f) (hT : T ≠ 5) : v.ownBlock ≠ some b := by
 rcases h.2 with ⟨hv, _⟩ | ⟨g, cap, cur, hv, _, hg, _⟩
 · subst hv; simp [Value.ownBlock]
 · subst hv
   obtain ⟨c, hb, _⟩ := hr
   intro e
   simp [Value.ownBlock] at e
   subst e
   rw [hg] at hb
   simp at hb
   exact hT hb.2.symm
structure Wr (base B : Nat) (w : World) (v : Value) (l : List UInt8) : Prop where
 cells : w.rowIs B 55 3 (row3 (.int .i64 l.length) (.int .i64 9000) v)
 row : ByRow base w v l
 lt : base ≤ B
structure Sp (base B : Nat) (w w' : World) : Prop where
 os : w'.os = w.os
 tape : w'.tape = w.tape
 output : w'.output = w.output
 size : w.heap.size ≤ w'.heap.size
 block : ∀ b, b < w.heap.size → b ≠ B → (b < base ∨ ∀ cs f, w.heap[b]? ≠ some (.cells cs 5 f)) → w'.heap[b]? = w.heap[b]?
theorem Sp.refl (base B : Nat) (w : World) : Sp base B w w := ⟨rfl, rfl, rfl, Nat.le_refl _, fun _ _ _ _ => rfl⟩
theorem Sp.trans {base B : Nat} {a b c : World} (h : Sp base B a b) (k : Sp base B b c) : Sp base B a c :=
 ⟨k.os.trans h.os, k.tape.trans h.tape, k.output.trans h.output, Nat.le_trans h.size k.size, fun i hi hne hc => by
  have e := h.block i hi hne hc
  exact (k.block i (Nat.lt_of_lt_of_le hi h.size) hne (by rw [e]; exact hc)).trans e⟩
theorem Sp.but {base B : Nat} {w w' : World} (h : But B w w') : Sp base B w w' := ⟨h.os, h.tape, h.output, h.size, fun _ hi hne _ => h.at hi hne⟩
theorem Sp.alloc (base B : Nat) (w : World) (o : Obj) : Sp base B w (w.alloc o) := Sp.but (But.alloc B w o)
theorem Sp.grown {base B : Nat} {w w' : World} {v : Value} {l : List UInt8} (h : ByRow base w v l) (hg : w.grownBy w' v.ownBlock) : Sp base B w w' :=
 ⟨hg.os, hg.tape, hg.output, hg.size, fun b hb _ hc => hg.block b hb (fun e => by
  rcases h.2 with ⟨hv, _⟩ | ⟨g, cap, cur, hv, hbg, hh, _⟩
  · subst hv; simp [Value.ownBlock] at e
  · subst hv
    simp [Value.ownBlock] at e
    subst e
    rcases hc with hc | hc
    · omega
    · exact hc _ _ hh)⟩
theorem Sp.below {base B : Nat} {w w' : World} (h : Sp base B w w') (hb : base ≤ B) (hw : base ≤ w.heap.size) : Below base w w' :=
 ⟨h.os, h.tape, h.output, h.size, fun b hbb => h.block b (by omega) (by omega) (Or.inl hbb)⟩
theorem Sp.box {base B : Nat} {w w' : World} (h : Sp base B w w') {X : Nat} {T : TypeId} {n : Nat} {f : Nat → Value} (hr : w.rowIs X T n f) (hne : X ≠ B) (hT : T ≠ 5) : w'.rowIs X T n f := by
 refine hr.of_block (h.block X hr.lt hne (Or.inr fun cs fz e => ?_))
 obtain ⟨c, hb, _⟩ := hr
 rw [e] at hb
 simp at hb
 exact hT hb.2.1.symm
theorem Wr.but {base B : Nat} {w w' : World} {v : Value} {l : List UInt8} (h : Wr base B w v l) (hb : But B w w') : ByRow base w' v l :=
 World.ownsRow.kept h.row hb (Or.inr (ByRow.apart h.row h.cells (by decide)))
theorem Wr.alloc {base B : Nat} {w : World} {v : Value} {l : List UInt8} (h : Wr base B w v l) (o : Obj) : Wr base B (w.alloc o) v l :=
 ⟨h.cells.alloc o, World.ownsRow.alloc h.row o, h.lt⟩
theorem Wr.size {base B : Nat} {w : World} {v : Value} {l : List UInt8} (h : Wr base B w v l) : base ≤ w.heap.size := by
 have := h.cells.lt; have := h.lt; omega
def WrEnd (base B : Nat) (w w' : World) (e : Ending) (l : List UInt8) : Prop := e = .returned (.tuple #[]) ∧ Sp base B w w' ∧ ∃ a n cap, n = l.length ∧ Wr base B w' (.slice a n cap) l
theorem row3_set0 {w : World} {B : Nat} {T : TypeId} {x y z : Value} (h : w.rowIs B T 3 (row3 x y z)) (v : Value) : (w.setCell ⟨B, 0, none⟩ v).rowIs B T 3 (row3 v y z) :=
 (h.set 0 v).congr fun i hi => by
   rcases (show i = 0 ∨ i = 1 ∨ i = 2 by omega) with rfl | rfl | rfl <;> rfl
theorem row3_pk2 {w : World} {B : Nat} {T : TypeId} {x y z : Value} (h : w.rowIs B T 3 (row3 x y z)) (v : Value) : (w.setCell ⟨B, 2, none⟩ v).rowIs B T 3 (row3 x y v) :=
 (h.set 2 v).congr fun i hi => by
   rcases (show i = 0 ∨ i = 1 ∨ i = 2 by omega) with rfl | rfl | rfl <;> rfl
theorem add_any (w : World) (B : Nat) (c k : Nat) (v : Value) (h : w.rowIs B 55 3 (row3 (.int .i64 c) (.int .i64 9000) v)) (hc : c + k ≤ 9000) :
 Calls Tryz.prog 88 #[.pointer (some ⟨B, 0, none⟩), .int .i64 k] w fun e w' => e = .returned (.tuple #[]) ∧ w'.rowIs B 55 3 (row3 (.int .i64 ((c + k : Nat) : Int)) (.int .i64 9000) v) ∧ But B w w' := by
 obtain ⟨k0, k1⟩ := cs2 h (by omega); have f0 := h.frozen 0
 simp only [row3] at k0 k1
 have hle : (c : Int) + k ≤ 9000 := by omega
 have H := hH h
 clear h
 go_enter Tryz.func88, Tryz.ntmps88
 go_wp2_with fail
 go_quiet ((go_at_call 68; exact Calls.quiet_of_same (treeWant_yes _)))
 go_wp2_with fail
 go_end0
 refine ⟨rfl, ?_, ?_⟩
 · have := row3_set0 (uh H) (.int .i64 ((c : Int) + k))
   rw [Int.natCast_add]
   exact this.of_block (by simp)
 · exact (But.set w 0 _).trans (But.of_below (below_drewN (Below.refl _ _) _))
theorem Wr.counted {base B : Nat} {w w1 : World} {v : Value} {l : List UInt8} (h : Wr base B w v l) (hb : But B w w1) :
 ByRow base w1 v l ∧ Sp base B w w1 ∧ base ≤ w1.heap.size := ⟨h.but hb, Sp.but hb, Nat.le_trans h.size hb.size⟩
theorem Wr.stored {base B : Nat} {w2 w3 : World} {v v' : Value} {l l' : List UInt8} (hlt : base ≤ B) (hr : w2.rowIs B 55 3 (row3 (.int .i64 (l'.length : Int)) (.int .i64 9000) v)) (h2 : ByRow base w2 v l) (hg : w2.grownBy w3 v.ownBlock) (h3 : ByRow base w3 v' l') :
 w3.rowIs B 55 3 (row3 (.int .i64 (l'.length : Int)) (.int .i64 9000) v) ∧ Wr base B (w3.setCell ⟨B, 2, none⟩ v') v' l' ∧ Sp base B w2 (w3.setCell ⟨B, 2, none⟩ v') := by
 have hr3 : w3.rowIs B 55 3 (row3 (.int .i64 (l'.length : Int)) (.int .i64 9000) v) := hr.of_block (hg.block B hr.lt (fun e => ByRow.apart h2 hr (by decide) e.symm))
 exact ⟨hr3, ⟨row3_pk2 hr3 v', ownsRow_setCell_other h3 (ByRow.apart h3 hr3 (by decide)) v', hlt⟩, (Sp.grown h2 hg).trans (Sp.but (But.set w3 2 v'))⟩
theorem put_any (base B : Nat) (w : World) (a : Option Addr) (n cap : Nat) (l : List UInt8) (b : Int) (h : Wr base B w (.slice a n cap) l) (hb0 : 0 ≤ b) (hb1 : b < 256) (hl : l.length + 1 ≤ 9000) :
 Calls Tryz.prog 62 #[.pointer (some ⟨B, 0, none⟩), .int .i64 b] w fun e w' => WrEnd base B w w' e (l ++ [UInt8.ofNat b.toNat]) := by
 have HADD := hH (add_any w B l.length 1 _ h.cells hl)
 have HK := hH (bcI b hb0 hb1)
 have H := hH h
 clear h
 go_enter Tryz.func62, Tryz.ntmps62
 go_wp2_with fail
 refine (uh HADD).mono ?_
 rintro e w1 ⟨rfl, hr1, hb1'⟩
 obtain ⟨hrow1, hsp1, hsz1⟩ := (uh H).counted hb1'
 have k2 := hr1.cell (i := 2) (by omega)
 simp only [row3] at k2
 have HR1 := hH hr1; have HROW1 := hH hrow1; have HSP1 := hH hsp1
 clear hr1 hrow1 hsp1 hb1' HADD
 go_wp2_with (at_builtin; refine append_bytes _ rfl _ _ rfl base (.slice a n cap) l [UInt8.ofNat b.toNat] rfl (World.ownsRow.alloc (unhide HROW1) _) ⟨w1.heap.size, 0, none⟩ 1 1 rfl rfl (by rw [unhide HK]; exact cell_one _ _ _) (by simp; omega) (by simp; omega) ?_
              intro a' n' cap' w3 HN3 HR3 HG3
              have hst := Wr.stored (l' := l ++ [UInt8.ofNat b.toNat]) (uh H).lt (by rw [List.length_append]; exact (uh HR1).alloc (.cells #[.int .u8 b] 5)) (World.ownsRow.alloc (uh HROW1) (.cells #[.int .u8 b] 5)) HG3.out HR3.out
              obtain ⟨hr3, hw3, hsp3⟩ := hst
              have m2 := hr3.cell (i := 2) (by omega)
              have f2 := hr3.frozen 2
              simp only [row3] at m2
              have HW3 := hH hw3
              have HSP3 := hH (((uh HSP1).trans (Sp.alloc base B w1 (.cells #[.int .u8 b] 5))).trans hsp3)
              clear hr3 hw3 hsp3 HR3 HG3)
 go_end0
 exact ⟨rfl, uh HSP3, a', n', cap', HN3.out, uh HW3⟩
theorem text_any (base B : Nat) (w : World) (a : Option Addr) (n cap : Nat) (l : List UInt8) (tx : ByteArray) (h : Wr base B w (.slice a n cap) l) (htx : tx.size < 256) (hl : l.length + (shortB tx).length ≤ 9000) :
 Calls Tryz.prog 61 #[.pointer (some ⟨B, 0, none⟩), .string tx] w fun e w' => WrEnd base B w w' e (l ++ shortB tx) := by
 rw [shortB_len] at hl
 have HPUT := hH (put_any base B w a n cap l tx.size h (by omega) (by omega) (by omega))
 have HE : Hid ((l ++ [UInt8.ofNat tx.size]) ++ tx.data.toList = l ++ shortB tx) := by show _ = _; simp [shortB]
 clear h
 go_enter Tryz.func61, Tryz.ntmps61
 go_wp2_with fail
 refine (uh HPUT).mono ?_
 rintro e w1 ⟨rfl, hsp1, a1, n1, cap1, hn1, hw1⟩
 rw [Int.toNat_natCast] at hw1 hn1
 have HADD := hH (add_any w1 B (l ++ [UInt8.ofNat tx.size]).length tx.size _ hw1.cells (by simp; omega))
 have HW1 := hH hw1; have HSP1 := hH hsp1
 clear hw1 hsp1 hn1 HPUT
 go_wp2_with fail
 refine (uh HADD).mono ?_
 rintro e w2 ⟨rfl, hr2, hb2⟩
 obtain ⟨hrow2, hsp2, hsz2⟩ := (uh HW1).counted hb2
 have k2 := hr2.cell (i := 2) (by omega)
 simp only [row3] at k2
 have HR2 := hH hr2; have HROW2 := hH hrow2; have HSP2 := hH ((uh HSP1).trans hsp2)
 have HLT := hH (uh HW1).lt
 clear hr2 hrow2 hsp2 hb2 HADD HW1 HSP1
 go_wp2_with (at_builtin; refine append_string _ rfl _ _ rfl base (.slice a1 n1 cap1) (l ++ [UInt8.ofNat tx.size]) tx rfl (unhide HROW2) rfl (by simp; omega) hsz2 ?_
              intro a' n' cap' w3 HN3 HR3 HG3
              rw [HE.out] at HN3 HR3
              have hst := Wr.stored (l' := l ++ shortB tx) (uh HLT) (by rw [← HE.out, List.length_append (bs := tx.data.toList)]; exact uh HR2) (uh HROW2) HG3.out HR3.out
              obtain ⟨hr3, hw3, hsp3⟩ := hst
              have m2 := hr3.cell (i := 2) (by omega)
              have f2 := hr3.frozen 2
              simp only [row3] at m2
              have HW3 := hH hw3
              have HSP3 := hH ((uh HSP2).trans hsp3)
              clear hr3 hw3 hsp3 HR3 HG3)
 go_end0
 exact ⟨rfl, uh HSP3, a', n', cap', HN3.out, uh HW3⟩
theorem size_any (base B : Nat) (w : World) (a : Option Addr) (n cap : Nat) (l : List UInt8) (m : Nat) (h : Wr base B w (.slice a n cap) l) (hm : m ≤ 999999999) (hl : l.length + (sevB m).length ≤ 9000) :
 Calls Tryz.prog 118 #[.pointer (some ⟨B, 0, none⟩), .int .i64 m] w fun e w' => WrEnd base B w w' e (l ++ sevB m) := by
 obtain ⟨L, hL⟩ : ∃ L, L = l ++ sevB m := ⟨_, rfl⟩
 have H0 : Hid (Wr base B w (.slice a n cap) l ∧ Sp base B w w ∧ l ++ sevB m = L) := ⟨h, Sp.refl _ _ _, hL.symm⟩
 have hlen : L.length ≤ 9000 := by rw [hL, List.length_append]; exact hl
 rw [← hL]
 have HL := hH hlen
 clear h hl hlen hL
 go_enter Tryz.func118, Tryz.ntmps118
 go_wp2_with fail
 go_loopw [1] (fun i wr => ∃ (k : Nat) (ar : Option Addr) (nr cr : Nat) (lr : List UInt8), i = .int .i64 k ∧ k ≤ 999999999 ∧ Hid (Wr base B wr (.slice ar nr cr) lr ∧ Sp base B w wr ∧ lr ++ sevB k = L)) (fun i _ => (intOf i).toNat)
 case atStart => exact ⟨m, a, n, cap, l, rfl, hm, H0⟩
 case round =>
  obtain ⟨k, ar, nr, cr, lr, rfl, hk, HA⟩ := hrel
  have hlr : lr.length + (sevB k).length ≤ 9000 := by have := uh HL; rw [← HA.out.2.2, List.length_append] at this; exact this
  by_cases h128 : 127 < k
  · have hge : (128 : Int) ≤ k := by omega
    have he := sevB_more h128
    have hn1 : (((k : Int) % 128 + 128).toNat) = 128 + k % 128 := by omega
    have HP := hH (put_any base B wr ar nr cr lr ((k : Int) % 128 + 128) HA.out.1 (by omega) (by omega) (by rw [he] at hlr; simp at hlr; omega))
    rw [hn1] at HP
    have HE := hH he
    clear he hn1 hlr
    go_wp2_with fail
    refine (uh HP).mono ?_
    rintro e w1 ⟨rfl, hsp1, a1, n1, cap1, -, hw1⟩
    have HN : Hid (Wr base B w1 (.slice a1 n1 cap1) (lr ++ [UInt8.ofNat (128 + k % 128)]) ∧ Sp base B w w1 ∧ (lr ++ [UInt8.ofNat (128 + k % 128)]) ++ sevB (k / 128) = L) := ⟨hw1, HA.out.2.1.trans hsp1, by have := HA.out.2.2; rw [uh HE] at this; simpa using this⟩
    clear hsp1 hw1 HP HE
    go_wp2_with fail
    go_roundw
    case rel => exact ⟨k / 128, a1, n1, cap1, _, by go_num, by omega, HN⟩
    case measure => simp [intOf]; omega
  · have hge : ¬ ((128 : Int) ≤ k) := by omega
    have he := sevB_last h128
    have HP := hH (put_any base B wr ar nr cr lr (k : Int) HA.out.1 (by omega) (by omega) (by rw [he] at hlr; simp at hlr; omega))
    rw [Int.toNat_natCast, ← he, HA.out.2.2] at HP
    clear he hlr
    go_wp2_with fail
    refine (uh HP).mono ?_
    rintro e w1 ⟨rfl, hsp1, hend⟩
    have HEND := hH hend; have HSP := hH (HA.out.2.1.trans hsp1)
    clear hend hsp1 HP
    go_wp2_with fail
    go_end0
    exact ⟨rfl, uh HSP, uh HEND⟩
theorem numPk_any (base B : Nat) (w : World) (a : Option Addr) (n cap : Nat) (l : List UInt8) (x : Int) (h : Wr base B w (.slice a n cap) l) (h0 : -999999999 ≤ x) (h1 : x ≤ 999999999) (hl : l.length + (numB x).length ≤ 9000) :
 Calls Tryz.prog 89 #[.pointer (some ⟨B, 0, none⟩), .int .i64 x] w fun e w' => WrEnd base B w w' e (l ++ numB x) := by
 have hln : (numB x).length = (sevB x.natAbs).length + 1 := by simp [numB]
 have HSZ := hH (fun w1 a1 n1 cap1 l1 (h1 : Wr base B w1 (.slice a1 n1 cap1) l1) (hl1 : l1.length = l.length + 1) => size_any base B w1 a1 n1 cap1 l1 x.natAbs h1 (by omega) (by omega))
 have HPU := hH (fun (b : Int) (hb0 : 0 ≤ b) (hb1 : b < 256) => put_any base B w a n cap l b h hb0 hb1 (by omega))
 by_cases hneg : x < 0
 · have hab : -x = (x.natAbs : Int) := by omega
   have HE : Hid ((l ++ [UInt8.ofNat (1 : Int).toNat]) ++ sevB x.natAbs = l ++ numB x) := by show _ = _; simp [numB, hneg]
   clear h hl hln
   go_enter Tryz.func89, Tryz.ntmps89
   go_wp2_with fail
   refine (uh HPU 1 (by decide) (by decide)).mono ?_
   rintro e w1 ⟨rfl, hsp1, a1, n1, cap1, -, hw1⟩
   have HS := hH (uh HSZ w1 a1 n1 cap1 _ hw1 (by simp))
   have HSP1 := hH hsp1
   rw [HE.out] at HS
   clear hw1 hsp1 HSZ HPU
   go_wp2_with fail
   refine (uh HS).mono ?_
   rintro e w2 ⟨rfl, hsp2, hend⟩
   have HEND := hH hend; have HSP := hH ((uh HSP1).trans hsp2)
   clear hend hsp2 HS
   go_wp2_with fail
   refine bodyPost_ret (results_none rfl _ _ _) rfl ?_
   exact ⟨rfl, uh HSP, uh HEND⟩
 · have hab : x = (x.natAbs : Int) := by omega
   have HE : Hid ((l ++ [UInt8.ofNat (0 : Int).toNat]) ++ sevB x.natAbs = l ++ numB x) := by show _ = _; simp [numB, hneg]
   clear h hl hln
   generalize x.natAbs = m at *
   subst hab
   go_enter Tryz.func89, Tryz.ntmps89
   go_wp2_with fail
   refine (uh HPU 0 (by decide) (by decide)).mono ?_
   rintro e w1 ⟨rfl, hsp1, a1, n1, cap1, -, hw1⟩
   have HS := hH (uh HSZ w1 a1 n1 cap1 _ hw1 (by simp))
   have HSP1 := hH hsp1
   rw [HE.out] at HS
   clear hw1 hsp1 HSZ HPU
   go_wp2_with fail
   refine (uh HS).mono ?_
   rintro e w2 ⟨rfl, hsp2, hend⟩
   have HEND := hH hend; have HSP := hH ((uh HSP1).trans hsp2)
   clear hend hsp2 HS
   go_wp2_with fail
   go_end0
   exact ⟨rfl, uh HSP, uh HEND⟩
end Go.Proofs.YtbkagahmiibclaaGreatDoor

namespace Go.Proofs.YtbkagahmiibclaaGreatDoor
open Go Go.RowKit
theorem dead_end {G : Prop} {S K : Act → World → Prop} (_ : ∀ a w, S a w → K a w) (a : Act) (w : World) (h : G) (_ : Hid False → K a w) : G := h
end Go.Proofs.YtbkagahmiibclaaGreatDoor

namespace Go.Proofs.YtbkagahmiibclaaGreatDoor
open Go Go.RowKit
structure Cu (R : Nat) (w : World) (v : Value) (b : List UInt8) (at' : Nat) : Prop where
 cells : w.rowIs R 98 3 (row3 (.int .i64 at') (.int .i64 b.length) v)
 row : ByRow 0 w v b
 own : ∀ g, v.ownBlock = some g → g < R
 le : at' ≤ b.length
 small : b.length ≤ 1048576
theorem Cu.but {R : Nat} {w w' : World} {v : Value} {b : List UInt8} {a a' : Nat} (h : Cu R w v b a) (hb : But R w w') (hc : w'.rowIs R 98 3 (row3 (.int .i64 a') (.int .i64 b.length) v)) (hle : a' ≤ b.length) : Cu R w' v b a' :=
 ⟨hc, World.ownsRow.kept h.row hb (by
  rcases e : v.ownBlock with _ | g
  · exact Or.inl rfl
  · exact Or.inr (fun e2 => by have := h.own g e; simp at e2; omega)), h.own, hle, h.small⟩
theorem Cu.on {R : Nat} {w w' : World} {v : Value} {b : List UInt8} {a : Nat} (h : Cu R w v b a) (hb : Below w.heap.size w w') : Cu R w' v b a :=
 ⟨h.cells.of_block (hb.block _ h.cells.lt), h.row.stay hb, h.own, h.le, h.small⟩
theorem addT_yes (T : TypeId) (w : World) (B : Nat) (c k m : Nat) (v : Value) (h : w.rowIs B T 3 (row3 (.int .i64 c) (.int .i64 m) v)) (hc : c + k ≤ m) (hm : m ≤ 1048576) :
 Calls Tryz.prog 88 #[.pointer (some ⟨B, 0, none⟩), .int .i64 k] w fun e w' => e = .returned (.tuple #[]) ∧ w'.rowIs B T 3 (row3 (.int .i64 ((c + k : Nat) : Int)) (.int .i64 m) v) ∧ But B w w' := by
 obtain ⟨k0, k1⟩ := cs2 h (by omega); have f0 := h.frozen 0
 simp only [row3] at k0 k1
 have hle : decide ((c : Int) + k ≤ m) = true := by simp; omega
 have H := hH h
 clear h
 go_enter Tryz.func88, Tryz.ntmps88
 go_wp2_with fail
 go_quiet ((go_at_call 68; exact Calls.quiet_of_same (treeWant_yes _)))
 go_wp2_with fail
 go_end0
 refine ⟨rfl, ?_, ?_⟩
 · have := row3_set0 (uh H) (.int .i64 ((c : Int) + k))
   rw [Int.natCast_add]
   exact this.of_block (by simp)
 · exact (But.set w 0 _).trans (But.of_below (below_drewN (Below.refl _ _) _))
theorem addT_no (T : TypeId) (w : World) (B : Nat) (c k m : Nat) (v : Value) (h : w.rowIs B T 3 (row3 (.int .i64 c) (.int .i64 m) v)) (hc : m < c + k) (hm : c + k ≤ 1099511627776) :
 Calls Tryz.prog 88 #[.pointer (some ⟨B, 0, none⟩), .int .i64 k] w fun e w' => e = fltE ∧ But B w w' := by
 obtain ⟨k0, k1⟩ := cs2 h (by omega); have f0 := h.frozen 0
 simp only [row3] at k0 k1
 have hle : decide ((c : Int) + k ≤ m) = false := by simp; omega
 clear h
 go_enter Tryz.func88, Tryz.ntmps88
 go_wp2_with fail
 go_region_law (rw [if_pos (by first | rfl | simp [Region.wanted])]; go_simp; refine (treeWant_no _).mono ?_; rintro e w2 ⟨rfl, rfl⟩; refine dead_end (by assumption) { tmps := #[], defers := [] } w (And.intro rfl (And.intro rfl ((But.set w 0 _).trans (But.of_below (Below.refl _ _).drew)))) (fun HF => ?_))
 all_goals exact (uh HF).elim
theorem ByRow.part {w : World} {g n cap : Nat} {l : List UInt8} {base : Nat} (h : ByRow base w (.slice (some ⟨g, 0, none⟩) n cap) l) (i : Nat) (hi : i < l.length) : w.cell? ⟨g, i, none⟩ = some (.int .u8 l[i].toNat) := by
 obtain ⟨a, cap', e, -, hc⟩ := h.at
 simp only [Value.slice.injEq] at e
 obtain ⟨rfl, -, -⟩ := e
 obtain ⟨b, o, e2, -, hcell⟩ := hc i hi
 simp only [Option.some.injEq, Addr.mk.injEq, and_true] at e2
 obtain ⟨rfl, rfl⟩ := e2
 rw [Nat.zero_add] at hcell
 exact hcell
theorem cut_bytes {base : Nat} {w : World} {av : Option Addr} {capv : Nat} {b : List UInt8} (h : ByRow base w (.slice av b.length capv) b) (a n : Nat) (hn : a + n ≤ b.length) (hcap : b.length ≤ capv) (hsm : b.length ≤ 1048576) :
 BytesAt w (.slice (if capv = a then av else Option.map (fun x => x.add a) av) (a + n - a) (capv - a)) ((b.drop a).take n) := by
 have hl : ((b.drop a).take n).length = n := by simp; omega
 refine ⟨_, _, by rw [hl, Nat.add_sub_cancel_left], by omega, fun i hi => ?_⟩
 rw [hl] at hi
 obtain ⟨g, cap', hv, -, hlt, -⟩ := h.form (by omega)
 simp only [Value.slice.injEq, true_and] at hv
 obtain ⟨rfl, rfl⟩ := hv
 have hc := h.part (a + i) (by omega)
 rw [if_neg (by omega)]
 refine ⟨g, a, by simp [Addr.add_lit], hlt, ?_⟩
 rw [hc]
 simp
theorem BytesAt.str {w : World} {v : Value} {l : List UInt8} (h : BytesAt w v l) : (convert 22 9 v).run Tryz.prog w = .ok (.string ⟨l.toArray⟩) w := by
 obtain ⟨a, cap, rfl, -, hc⟩ := h
 match a, hc with
 | some ad, hc =>
   obtain ⟨g, o, sp⟩ := ad
   refine run_convert_bytes_back w 22 9 5 ⟨g, o, sp⟩ cap l Tryz.underlying22 Tryz.underlying5 Tryz.underlying9 (fun j hj => ?_)
   obtain ⟨b, o', e, -, hcell⟩ := hc j hj
   simp only [Option.some.injEq, Addr.mk.injEq] at e
   obtain ⟨rfl, rfl, rfl⟩ := e
   rw [Addr.add_lit]
   exact hcell
 | none, hc =>
   match l, hc with
   | [], _ =>
     rw [run_convert_bytes_string w 22 9 5 none _ cap Tryz.underlying22 Tryz.underlying5 Tryz.underlying9]
     rfl
   | x :: r, hc =>
     obtain ⟨b, o', e, -⟩ := hc 0 (by simp)
     cases e
theorem takeP_yes (R : Nat) (w : World) (v : Value) (b : List UInt8) (a n : Nat) (h : Cu R w v b a) (hn : a + n ≤ b.length) :
 Calls Tryz.prog 125 #[.pointer (some ⟨R, 0, none⟩), .int .i64 n] w fun e w' => (∃ v', e = .returned v' ∧ BytesAt w' v' ((b.drop a).take n)) ∧ Cu R w' v b (a + n) ∧ But R w w' := by
 have hsm := h.small
 have k0 := h.cells.cell (i := 0) (by omega)
 simp only [row3] at k0
 have HADD := hH (addT_yes 98 w R a n b.length v h.cells hn hsm)
 have H := hH h
 clear h
 go_enter Tryz.func125, Tryz.ntmps125
 go_wp2_with fail
 refine (uh HADD).mono ?_
 rintro e w1 ⟨rfl, hr1, hb1⟩
 have hcu := (uh H).but hb1 hr1 (by omega)
 have m0 := hr1.cell (i := 0) (by omega); have m2 := hr1.cell (i := 2) (by omega)
 simp only [row3] at m0 m2
 have HCU := hH hcu; have HB1 := hH hb1
 obtain ⟨av, capv, rfl⟩ := hcu.row.slice
 have hcap : b.length ≤ capv := by
  rcases hcu.row.2 with ⟨hv, h0⟩ | ⟨g, cap', cur, hv, _, _, hle, _⟩
  · omega
  · simp only [Value.slice.injEq] at hv; omega
 clear hcu hr1 hb1 HADD k0
 have hby := cut_bytes (w := w1) (uh HCU).row a n hn hcap hsm
 have hi1 : (a : Int) ≤ (a : Int) + n := by omega
 have hi2 : (a : Int) + n ≤ capv := by omega
 have hi3 : ((a : Int) + n - a).toNat = n := by omega
 rw [Int.natCast_add] at m0
 by_cases hca : capv = a
 · subst hca
   have hn0 : n = 0 := by omega
   subst hn0
   rw [if_pos rfl, Nat.add_sub_cancel_left, Nat.sub_self] at hby
   have HBY := hH hby
   clear hby
   go_wp2_with fail
   go_region
   all_goals
    go_wp2_with fail
    go_ret
    exact ⟨⟨_, rfl, (uh HBY).on (Below.refl _ w1).drew⟩, (uh HCU).on (Below.refl _ w1).drew, (uh HB1).trans (But.of_below (Below.refl _ w1).drew)⟩
 · rw [if_neg hca] at hby
   have HBY := hH hby
   clear hby
   go_wp2_with fail
   go_region
   all_goals
    go_wp2_with fail
    go_ret
    exact ⟨⟨_, rfl, (uh HBY).on (Below.refl _ w1).drew⟩, (uh HCU).on (Below.refl _ w1).drew, (uh HB1).trans (But.of_below (Below.refl _ w1).drew)⟩
theorem takeP_no (R : Nat) (w : World) (v : Value) (b : List UInt8) (a n : Nat) (h : Cu R w v b a) (hn : b.length < a + n) (hs : n ≤ 1048576) :
 Calls Tryz.prog 125 #[.pointer (some ⟨R, 0, none⟩), .int .i64 n] w fun e w' => e = fltE ∧ But R w w' := by
 have k0 := h.cells.cell (i := 0) (by omega)
 simp only [row3] at k0
 have HADD := hH (addT_no 98 w R a n b.length v h.cells hn (by have := h.small; have := h.le; omega))
 clear h
 go_enter Tryz.func125, Tryz.ntmps125
 go_wp2_with fail
 refine (uh HADD).mono ?_
 rintro e w1 ⟨rfl, hb1⟩
 exact ⟨rfl, rfl, hb1⟩
theorem nextP_yes (R : Nat) (w : World) (v : Value) (b : List UInt8) (a : Nat) (h : Cu R w v b a) (hn : a < b.length) :
 Calls Tryz.prog 96 #[.pointer (some ⟨R, 0, none⟩)] w fun e w' => e = .returned (.int .i64 (b[a].toNat : Int)) ∧ Cu R w' v b (a + 1) ∧ But R w w' := by
 have HT := hH (takeP_yes R w v b a 1 h (by omega))
 have hx : (b.drop a).take 1 = [b[a]] := by rw [List.drop_eq_getElem_cons hn]; rfl
 rw [hx] at HT
 clear h
 have hlt := b[a].toNat_lt
 generalize b[a] = x at *
 go_enter Tryz.func96, Tryz.ntmps96
 go_wp2_with fail
 refine (uh HT).mono ?_
 rintro e w1 ⟨⟨v', rfl, a', cap', rfl, -, hc⟩, hcu, hb1⟩
 obtain ⟨g, o, rfl, -, e0⟩ := hc 0 (by simp)
 simp only [List.getElem_cons_zero, Nat.add_zero] at e0
 have HCU := hH hcu; have HB := hH hb1
 clear hcu hb1 hc HT
 go_wp2_with fail
 go_ret
 exact ⟨rfl, uh HCU, uh HB⟩
theorem nextP_no (R : Nat) (w : World) (v : Value) (b : List UInt8) (a : Nat) (h : Cu R w v b a) (hn : b.length ≤ a) :
 Calls Tryz.prog 96 #[.pointer (some ⟨R, 0, none⟩)] w fun e w' => e = fltE ∧ But R w w' := by
 have HT := hH (takeP_no R w v b a 1 h (by omega) (by decide))
 clear h
 go_enter Tryz.func96, Tryz.ntmps96
 go_wp2_with fail
 refine (uh HT).mono ?_
 rintro e w1 ⟨rfl, hb1⟩
 exact ⟨rfl, rfl, hb1⟩
theorem ptx_yes {b : List UInt8} {a : Nat} {s : ByteArray} {rest : List UInt8} (h : ptx (b.drop a) = some (s, rest)) : ∃ ha : a < b.length, a + 1 + b[a].toNat ≤ b.length ∧ s = ⟨((b.drop (a + 1)).take b[a].toNat).toArray⟩ ∧ rest = b.drop (a + 1 + b[a].toNat) := by
 by_cases ha : a < b.length
 · rw [List.drop_eq_getElem_cons ha, ptx] at h
   split at h
   · rename_i hn
     simp only [Option.some.injEq, Prod.mk.injEq] at h
     refine ⟨ha, by simp at hn; omega, h.1.symm, ?_⟩
     rw [← h.2, List.drop_drop]
   · cases h
 · rw [List.drop_eq_nil_of_le (by omega), ptx] at h
   cases h
theorem textP_yes (R : Nat) (w : World) (v : Value) (b : List UInt8) (a : Nat) (s : ByteArray) (rest : List UInt8) (h : Cu R w v b a) (hp : ptx (b.drop a) = some (s, rest)) :
 Calls Tryz.prog 94 #[.pointer (some ⟨R, 0, none⟩)] w fun e w' => e = .returned (.string s) ∧ (∃ a', a < a' ∧ Cu R w' v b a' ∧ rest = b.drop a') ∧ But R w w' := by
 obtain ⟨ha, hle, hs, hr⟩ := ptx_yes hp
 have HN := hH (nextP_yes R w v b a h ha)
 have HTK := hH (fun (W : World) (hW : Cu R W v b (a + 1)) => takeP_yes R W v b (a + 1) b[a].toNat hW (by omega))
 rw [hs]
 clear h hp
 generalize b[a].toNat = n at *
 have HR := hH hr
 clear hr hs
 generalize (b.drop (a + 1)).take n = L at *
 go_enter Tryz.func94, Tryz.ntmps94
 go_wp2_with fail
 refine (uh HN).mono ?_
 rintro e w1 ⟨rfl, hcu1, hb1⟩
 have HT1 := hH (uh HTK w1 hcu1)
 have HB1 := hH hb1
 clear hcu1 hb1 HTK HN
 go_wp2_with fail
 refine (uh HT1).mono ?_
 rintro e w2 ⟨⟨v', rfl, hby⟩, hcu2, hb2⟩
 have hst := hby.str
 have HB2 := hH ((uh HB1).trans hb2); have HCU := hH hcu2
 obtain ⟨a', cap', rfl, -⟩ := hby
 clear hcu2 hb2 HT1 HB1
 go_wp2_with fail
 go_ret
 exact ⟨rfl, ⟨a + 1 + n, by omega, uh HCU, uh HR⟩, uh HB2⟩
theorem textP_no (R : Nat) (w : World) (v : Value) (b : List UInt8) (a : Nat) (h : Cu R w v b a) (hp : ptx (b.drop a) = none) :
 Calls Tryz.prog 94 #[.pointer (some ⟨R, 0, none⟩)] w fun e w' => e = fltE ∧ But R w w' := by
 by_cases ha : a < b.length
 · have hgt : b.length < a + 1 + b[a].toNat := by
    rw [List.drop_eq_getElem_cons ha, ptx] at hp
    split at hp
    · cases hp
    · rename_i hn
      simp at hn
      omega
   have hlt := b[a].toNat_lt
   have HN := hH (nextP_yes R w v b a h ha)
   have HTK := hH (fun (W : World) (hW : Cu R W v b (a + 1)) => takeP_no R W v b (a + 1) b[a].toNat hW hgt (by omega))
   clear h hp
   generalize b[a].toNat = n at *
   go_enter Tryz.func94, Tryz.ntmps94
   go_wp2_with fail
   refine (uh HN).mono ?_
   rintro e w1 ⟨rfl, hcu1, hb1⟩
   have HT1 := hH (uh HTK w1 hcu1)
   have HB1 := hH hb1
   clear hcu1 hb1 HTK HN
   go_wp2_with fail
   refine (uh HT1).mono ?_
   rintro e w2 ⟨rfl, hb2⟩
   exact ⟨rfl, rfl, (uh HB1).trans hb2⟩
 · have HN := hH (nextP_no R w v b a h (by omega))
   clear h hp
   go_enter Tryz.func94, Tryz.ntmps94
   go_wp2_with fail
   refine (uh HN).mono ?_
   rintro e w1 ⟨rfl, hb1⟩
   exact ⟨rfl, rfl, hb1⟩
end Go.Proofs.YtbkagahmiibclaaGreatDoor

namespace Go.Proofs.YtbkagahmiibclaaGreatDoor
open Go Go.RowKit
def ahead (form : Bool) (ns : List ByteArray) (i : Nat) : List UInt8 :=
 (if 0 < i then [44] else []) ++ (if form then (ns.getD i ByteArray.empty).data.toList ++ [58] else [])
mutual
def txT : Tr → List UInt8
 | .mk s n tx ns ks =>
   if s = 1 then Lib.itoa n
   else if s = 2 then [34] ++ tx.data.toList ++ [34]
   else if s = 3 then (if n = 1 then [121, 101, 115] else [110, 111])
   else if s = 6 then (if ks.length = 0 then [126] else [63] ++ txM ks)
   else if s = 5 then [123] ++ txK true ns 0 ks ++ [125]
   else [91] ++ txK false ns 0 ks ++ [93]
def txM : List Tr → List UInt8
 | [] => []
 | t :: _ => txT t
def txK (form : Bool) (ns : List ByteArray) (i : Nat) : List Tr → List UInt8
 | [] => []
 | t :: r => ahead form ns i ++ txT t ++ txK form ns (i + 1) r
end
mutual
def okT : Tr → Bool
 | .mk s n tx ns ks => aloneB (.mk s n tx ns ks) && okK ks
def okK : List Tr → Bool
 | [] => true
 | t :: r => okT t && okK r
end
theorem okT_eq (t : Tr) : okT t = (aloneB t && okK t.kids) := by
 obtain ⟨s, n, tx, ns, ks⟩ := t; rw [okT]; rfl
theorem okK_get {ks : List Tr} (h : okK ks = true) (i : Nat) (hi : i < ks.length) : okT ks[i] = true := by
 induction ks generalizing i with
 | nil => simp at hi
 | cons t r ih =>
   rw [okK, Bool.and_eq_true] at h
   cases i with
   | zero => exact h.1
   | succ i => exact ih h.2 i (by simpa using hi)
theorem txT_eq (t : Tr) : txT t = if t.sort = 1 then Lib.itoa t.num
 else if t.sort = 2 then [34] ++ t.text.data.toList ++ [34]
 else if t.sort = 3 then (if t.num = 1 then [121, 101, 115] else [110, 111])
 else if t.sort = 6 then (if t.kids.length = 0 then [126] else [63] ++ txM t.kids)
 else if t.sort = 5 then [123] ++ txK true t.names 0 t.kids ++ [125]
 else [91] ++ txK false t.names 0 t.kids ++ [93] := by
 obtain ⟨s, n, tx, ns, ks⟩ := t; rw [txT]; rfl
theorem txM_get {ks : List Tr} (h : 0 < ks.length) : txM ks = txT ks[0] := by
 cases ks with
 | nil => simp at h
 | cons t r => rw [txM]; rfl
def txTo (form : Bool) (ns : List ByteArray) (ks : List Tr) (k : Nat) : List UInt8 := txK form ns 0 (ks.take k)
theorem txK_snoc (form : Bool) (ns : List ByteArray) (i : Nat) (l : List Tr) (t : Tr) : txK form ns i (l ++ [t]) = txK form ns i l ++ (ahead form ns (i + l.length) ++ txT t) := by
 induction l generalizing i with
 | nil => simp [txK]
 | cons a r ih =>
   simp only [List.cons_append, txK, List.length_cons]
   rw [ih (i + 1), show i + 1 + r.length = i + (r.length + 1) from by omega]
   simp only [List.append_assoc]
theorem txTo_succ (form : Bool) (ns : List ByteArray) (ks : List Tr) (k : Nat) (hk : k < ks.length) : txTo form ns ks (k + 1) = txTo form ns ks k ++ (ahead form ns k ++ txT ks[k]) := by
 unfold txTo
 rw [List.take_succ_eq_append_getElem hk, txK_snoc]
 simp [Nat.min_eq_left (Nat.le_of_lt hk)]
theorem txTo_all (form : Bool) (ns : List ByteArray) (ks : List Tr) : txTo form ns ks ks.length = txK form ns 0 ks := by
 unfold txTo; rw [List.take_length]
theorem txTo_le (form : Bool) (ns : List ByteArray) (ks : List Tr) (k : Nat) (hk : k ≤ ks.length) : (txTo form ns ks k).length ≤ (txK form ns 0 ks).length := by
 rw [← txTo_all]
 have : ∀ m, k + m ≤ ks.length → (txTo form ns ks k).length ≤ (txTo form ns ks (k + m)).length := by
  intro m
  induction m with
  | zero => intro _; exact Nat.le_refl _
  | succ m ih =>
    intro h
    rw [show k + (m + 1) = k + m + 1 from by omega, txTo_succ _ _ _ _ (by omega), List.length_append]
    have := ih (by omega); omega
 have := this (ks.length - k) (by omega)
 rwa [show k + (ks.length - k) = ks.length from by omega] at this
end Go.Proofs.YtbkagahmiibclaaGreatDoor

namespace Go.Proofs.YtbkagahmiibclaaGreatDoor
open Go Go.RowKit
def isDg (c : UInt8) : Bool := 48 ≤ c.toNat && c.toNat ≤ 57
def dval (acc : Nat) (ds : List UInt8) : Nat := ds.foldl (fun n c => n * 10 + (c.toNat - 48)) acc
theorem dec_all (u : Nat) : ∀ c, c ∈ Lib.decDigits u → isDg c = true := by
 induction u using Nat.strongRecOn with
 | _ u ih =>
   intro c hc
   rw [Lib.decDigits] at hc
   have hd : ∀ m, m < 10 → isDg (UInt8.ofNat (48 + m)) = true := fun m hm => by
    unfold isDg; rw [UInt8.toNat_ofNat', Nat.mod_eq_of_lt (by omega)]; simp; omega
   by_cases h : u < 10
   · rw [dif_pos h] at hc
     simp only [List.mem_singleton] at hc
     rw [hc]; exact hd u h
   · rw [dif_neg h] at hc
     rcases List.mem_append.1 hc with hc | hc
     · exact ih (u / 10) (by omega) c hc
     · simp only [List.mem_singleton] at hc
       rw [hc]; exact hd _ (by omega)
theorem dec_val (u : Nat) : dval 0 (Lib.decDigits u) = u := by
 induction u using Nat.strongRecOn with
 | _ u ih =>
   rw [Lib.decDigits]
   by_cases h : u < 10
   · rw [dif_pos h]
     unfold dval
     simp only [List.foldl_cons, List.foldl_nil]
     rw [UInt8.toNat_ofNat', Nat.mod_eq_of_lt (by omega)]; omega
   · rw [dif_neg h]
     have := ih (u / 10) (by omega)
     unfold dval at this ⊢
     rw [List.foldl_append, this]
     simp only [List.foldl_cons, List.foldl_nil]
     rw [UInt8.toNat_ofNat', Nat.mod_eq_of_lt (by omega)]; omega
theorem dec_ne (u : Nat) : Lib.decDigits u ≠ [] := by
 intro h
 have := Lib.decDigits_length u
 have := Lib.nDigits_pos u
 rw [h] at *
 simp at *
 omega
theorem dec_len (k u : Nat) (h : u < 10 ^ (k + 1)) : (Lib.decDigits u).length ≤ k + 1 := by
 induction k generalizing u with
 | zero => rw [Lib.decDigits, dif_pos (by simpa using h)]; simp
 | succ k ih =>
   rw [Lib.decDigits]
   split
   · simp
   · have := ih (u / 10) (by rw [Nat.pow_succ] at h; omega)
     simp; omega
theorem dval_ge (ds : List UInt8) (acc : Nat) : acc ≤ dval acc ds := by
 induction ds generalizing acc with
 | nil => exact Nat.le_refl _
 | cons c r ih => unfold dval; rw [List.foldl_cons]; have := ih (acc * 10 + (c.toNat - 48)); unfold dval at this; omega
theorem parse_ok (ds : List UInt8) (acc : Nat) (h : ∀ c, c ∈ ds → isDg c = true) (hb : dval acc ds ≤ 999999999999) : Lib.parseUint10 acc ds = .ok (dval acc ds) := by
 induction ds generalizing acc with
 | nil => rfl
 | cons c r ih =>
   have hc := h c (by simp)
   unfold isDg at hc
   simp at hc
   have hb' : dval (acc * 10 + (c.toNat - 48)) r ≤ 999999999999 := hb
   have hge := dval_ge r (acc * 10 + (c.toNat - 48))
   rw [Lib.parseUint10, if_pos hc, if_neg (by omega), if_neg (by omega)]
   exact ih _ (fun c hc => h c (by simp [hc])) hb'
theorem itoa_cases (n : Int) : (0 ≤ n ∧ Lib.itoa n = Lib.decDigits n.toNat) ∨ (n < 0 ∧ Lib.itoa n = 45 :: Lib.decDigits n.natAbs) := by
 unfold Lib.itoa
 by_cases h : n < 0
 · rw [if_pos h]; exact Or.inr ⟨h, rfl⟩
 · rw [if_neg h]; exact Or.inl ⟨by omega, rfl⟩
theorem atoi_itoa (n : Int) (h0 : -999999999 ≤ n) (h1 : n ≤ 999999999) : Lib.atoiAll (Lib.itoa n) = .ok n := by
 rcases itoa_cases n with ⟨hn, e⟩ | ⟨hn, e⟩
 · rw [e]
   obtain ⟨c, r, hcr⟩ : ∃ c r, Lib.decDigits n.toNat = c :: r := List.exists_cons_of_ne_nil (dec_ne _)
   have hall := dec_all n.toNat
   have hv := dec_val n.toNat
   have hc := hall c (by rw [hcr]; simp)
   unfold isDg at hc
   simp at hc
   have hp := parse_ok (Lib.decDigits n.toNat) 0 hall (by rw [hv]; omega)
   rw [hv] at hp
   rw [hcr] at hp ⊢
   rw [Lib.atoiAll_plain c r (by omega) (by omega)]
   unfold Lib.parseMag
   rw [if_neg (by simp), hp]
   show (if 9223372036854775808 ≤ n.toNat then Lib.NumEnd.range else .ok (n.toNat : Int)) = .ok n
   rw [if_neg (by omega), Int.toNat_of_nonneg hn]
 · rw [e, Lib.atoiAll_minus]
   have hall := dec_all n.natAbs
   have hv := dec_val n.natAbs
   have hp := parse_ok (Lib.decDigits n.natAbs) 0 hall (by rw [hv]; omega)
   rw [hv] at hp
   unfold Lib.parseMag
   rw [if_neg (dec_ne _), hp]
   show (if 9223372036854775808 < n.natAbs then Lib.NumEnd.range else .ok (-(n.natAbs : Int))) = .ok n
   rw [if_neg (by omega), show -(n.natAbs : Int) = n from by omega]
def nd (rest : List UInt8) : Prop := ∀ c, rest.head? = some c → isDg c = false
theorem tw_append {p : UInt8 → Bool} {l rest : List UInt8} (hl : ∀ c, c ∈ l → p c = true) (hr : ∀ c, rest.head? = some c → p c = false) : (l ++ rest).takeWhile p = l ∧ (l ++ rest).dropWhile p = rest := by
 induction l with
 | nil =>
   cases rest with
   | nil => simp
   | cons c r => have := hr c rfl; simp [this]
 | cons c l ih =>
   have hc := hl c (by simp)
   have := ih (fun c hc => hl c (by simp [hc]))
   simp [hc, this.1, this.2]
def cma (n : Nat) (inp : List UInt8) : Option (List UInt8) := if n = 0 then some inp else if inp.head? = some 44 then some inp.tail else none
def nmr (form : Bool) (ns : List ByteArray) (inp : List UInt8) : Option (List ByteArray × List UInt8) :=
 if form = true then (if (inp.dropWhile nameByte).head? = some 58 then some (ns ++ [⟨(inp.takeWhile nameByte).toArray⟩], (inp.dropWhile nameByte).tail) else none) else some (ns, inp)
def lp {σ : Type} (rd : List UInt8 → σ → Option (Tr × List UInt8 × σ)) (form : Bool) (e : UInt8) : Nat → List ByteArray → List Tr → List UInt8 → σ → Option (List ByteArray × List Tr × List UInt8 × σ)
 | 0, _, _, _, _ => none
 | f + 1, ns, ks, inp, st =>
   if inp.head? = some e then some (ns, ks, inp.tail, st) else
   match cma ks.length inp with
   | none => none
   | some i1 =>
     match nmr form ns i1 with
     | none => none
     | some (ns', i2) =>
       match rd i2 st with
       | none => none
       | some (t, i3, st') => lp rd form e f ns' (ks ++ [t]) i3 st'
def numRun (inp : List UInt8) : List UInt8 × List UInt8 := if inp.head? = some 45 then (45 :: inp.tail.takeWhile isDg, inp.tail.dropWhile isDg) else (inp.takeWhile isDg, inp.dropWhile isDg)
open Classical in
noncomputable def numOf (l : List UInt8) : Option Int := if h : ∃ n : Int, -999999999 ≤ n ∧ n ≤ 999999999 ∧ Lib.itoa n = l then some h.choose else none
theorem itoa_inj {n m : Int} (hn : -999999999 ≤ n ∧ n ≤ 999999999) (hm : -999999999 ≤ m ∧ m ≤ 999999999) (h : Lib.itoa n = Lib.itoa m) : n = m := by
 have h1 := atoi_itoa n hn.1 hn.2
 have h2 := atoi_itoa m hm.1 hm.2
 rw [h, h2] at h1
 injection h1 with h1
 exact h1.symm
theorem numOf_yes {n : Int} (h0 : -999999999 ≤ n) (h1 : n ≤ 999999999) {l : List UInt8} (hl : Lib.itoa n = l) : numOf l = some n := by
 unfold numOf
 have hex : ∃ n : Int, -999999999 ≤ n ∧ n ≤ 999999999 ∧ Lib.itoa n = l := ⟨n, h0, h1, hl⟩
 rw [dif_pos hex]
 have := hex.choose_spec
 rw [itoa_inj ⟨this.1, this.2.1⟩ ⟨h0, h1⟩ (by rw [this.2.2, hl])]
theorem numOf_some {l : List UInt8} {n : Int} (h : numOf l = some n) : -999999999 ≤ n ∧ n ≤ 999999999 ∧ Lib.itoa n = l := by
 unfold numOf at h
 split at h
 · rename_i hex
   simp only [Option.some.injEq] at h
   rw [← h]; exact hex.choose_spec
 · cases h
theorem numOf_no {l : List UInt8} (h : ∀ n : Int, -999999999 ≤ n → n ≤ 999999999 → Lib.itoa n ≠ l) : numOf l = none := by
 unfold numOf
 rw [dif_neg]
 rintro ⟨n, h0, h1, h2⟩
 exact h n h0 h1 h2
noncomputable def rdT : Nat → List UInt8 → Int → Option (Tr × List UInt8 × Int)
 | 0, _, _ => none
 | d + 1, inp, p =>
   if 120 < p + 1 then none else
   match inp.head? with
   | none => none
   | some c =>
     if isDg c = true ∨ c = 45 then
      match numOf (numRun inp).1 with
      | none => none
      | some n => some (.mk 1 n ByteArray.empty [] [], (numRun inp).2, p + 1)
     else if c = 34 then
      if (inp.tail.dropWhile (· != 34)).head? = some 34 ∧ textOkB ⟨(inp.tail.takeWhile (· != 34)).toArray⟩ = true then
       some (.mk 2 0 ⟨(inp.tail.takeWhile (· != 34)).toArray⟩ [] [], (inp.tail.dropWhile (· != 34)).tail, p + 1) else none
     else if c = 121 ∨ c = 110 then
      if [121, 101, 115].isPrefixOf inp = true then some (.mk 3 1 ByteArray.empty [] [], inp.drop 3, p + 1)
      else if [110, 111].isPrefixOf inp = true then some (.mk 3 0 ByteArray.empty [] [], inp.drop 2, p + 1) else none
     else if c = 91 then
      match lp (rdT d) false 93 (inp.length + 1) [] [] inp.tail (p + 1) with
      | none => none
      | some (_, ks, rest, q) => if ks.length ≤ 20 then some (.mk 4 0 ByteArray.empty [] ks, rest, q) else none
     else if c = 123 then
      match lp (rdT d) true 125 (inp.length + 1) [] [] inp.tail (p + 1) with
      | none => none
      | some (ns, ks, rest, q) => if riseB ns = true then some (.mk 5 0 ByteArray.empty ns ks, rest, q) else none
     else if c = 126 then some (.mk 6 0 ByteArray.empty [] [], inp.tail, p + 1)
     else if c = 63 then
      match rdT d inp.tail (p + 1) with
      | none => none
      | some (t, rest, q) => some (.mk 6 0 ByteArray.empty [] [t], rest, q)
     else none
def spNum (inp : List UInt8) : Option (Int × List UInt8) :=
 let r := if inp.head? = some 45 then inp.tail else inp
 let ds := (r.take 10).takeWhile isDg
 if ds = [] then none else some (if inp.head? = some 45 then -(dval 0 ds : Int) else dval 0 ds, r.drop ds.length)
def spT : Nat → List UInt8 → Unit → Option (Tr × List UInt8 × Unit)
 | 0, _, _ => none
 | d + 1, inp, _ =>
   if inp.head? = some 34 then
    if (inp.tail.dropWhile (· != 34)).head? = some 34 then some (.mk 2 0 ⟨(inp.tail.takeWhile (· != 34)).toArray⟩ [] [], (inp.tail.dropWhile (· != 34)).tail, ()) else none
   else if inp.head? = some 121 then
    if [121, 101, 115].isPrefixOf inp = true then some (.mk 3 1 ByteArray.empty [] [], inp.drop 3, ()) else none
   else if inp.head? = some 110 then
    if [110, 111].isPrefixOf inp = true then some (.mk 3 0 ByteArray.empty [] [], inp.drop 2, ()) else none
   else if inp.head? = some 126 then some (.mk 6 0 ByteArray.empty [] [], inp.tail, ())
   else if inp.head? = some 63 then
    match spT d inp.tail () with
    | none => none
    | some (t, rest, _) => some (.mk 6 0 ByteArray.empty [] [t], rest, ())
   else if inp.head? = some 91 then
    match lp (spT d) false 93 (inp.length + 1) [] [] inp.tail () with
    | none => none
    | some (_, ks, rest, _) => some (.mk 4 0 ByteArray.empty [] ks, rest, ())
   else if inp.head? = some 123 then
    match lp (spT d) true 125 (inp.length + 1) [] [] inp.tail () with
    | none => none
    | some (ns, ks, rest, _) => some (.mk 5 0 ByteArray.empty ns ks, rest, ())
   else
    match spNum inp with
    | none => none
    | some (n, rest) => some (.mk 1 n ByteArray.empty [] [], rest, ())
end Go.Proofs.YtbkagahmiibclaaGreatDoor
