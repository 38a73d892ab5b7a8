/- The specification reads a tree that is ok from its text; what the program reads is the text of a tree that is ok; so both read the same. No program walked, no conditions. -/
import Derived.Test.YtbkagahmiibclaaGreatDoorPart24
import Derived.Test.YtbkagahmiibclaaGreatDoorPart00
import Derived.Test.YtbkagahmiibclaaGreatDoorRows
import Derived.Test.YtbkagahmiibclaaGreatDoorPart03
import Derived.Deep.RegionWith
import Derived.Deep.QuietTactic
import Derived.BigQuiet
import Derived.Test.YtbkagahmiibclaaGreatDoorPart23
import Derived.Test.YtbkagahmiibclaaGreatDoorPart18
namespace Go.Proofs.YtbkagahmiibclaaGreatDoor
open Go Go.RowKit

theorem sp_num (n : Int) (h0 : -999999999 ≤ n) (h1 : n ≤ 999999999) (rest : List UInt8) (hr : nd rest) : spNum (Lib.itoa n ++ rest) = some (n, rest) := by
  have key : ∀ u : Nat, u ≤ 999999999 → ((Lib.decDigits u ++ rest).take 10).takeWhile isDg = Lib.decDigits u := fun u hu => by
    have hl := dec_len 8 u (by omega)
    rw [List.take_append, List.take_of_length_le (by omega)]
    refine (tw_append (p := isDg) (dec_all u) (fun c hc => hr c ?_)).1
    cases rest with
    | nil => simp at hc
    | cons a b =>
      rw [show 10 - (Lib.decDigits u).length = (9 - (Lib.decDigits u).length) + 1 from by omega] at hc
      simpa using hc
  unfold spNum
  rcases itoa_cases n with ⟨hn, e⟩ | ⟨hn, e⟩
  · obtain ⟨c, r, hcr⟩ : ∃ c r, Lib.decDigits n.toNat = c :: r := List.exists_cons_of_ne_nil (dec_ne _)
    have hc := dec_all n.toNat c (by rw [hcr]; simp)
    have hh : (Lib.itoa n ++ rest).head? ≠ some 45 := by
      rw [e, hcr]
      simp only [List.cons_append, List.head?_cons, ne_eq, Option.some.injEq]
      intro e2; subst e2; revert hc; decide
    simp only [if_neg hh]
    rw [e, key n.toNat (by omega), if_neg (dec_ne _), dec_val]
    simp only [List.drop_left]
    rw [Int.toNat_of_nonneg hn]
  · have hh : (Lib.itoa n ++ rest).head? = some 45 := by rw [e]; rfl
    simp only [if_pos hh]
    have ht : (Lib.itoa n ++ rest).tail = Lib.decDigits n.natAbs ++ rest := by rw [e]; rfl
    rw [ht, key n.natAbs (by omega), if_neg (dec_ne _), dec_val]
    simp only [List.drop_left]
    rw [show -(n.natAbs : Int) = n from by omega]

open Classical in
noncomputable def stpU (l : Int) (t : Tr) (_ : Unit) : Option Unit := if ∃ p q, wlk t p l = some q then some () else none
theorem stpU_yes {l : Int} {t : Tr} {p q : Int} (h : wlk t p l = some q) : stpU l t () = some () := by unfold stpU; rw [if_pos ⟨p, q, h⟩]
theorem stpU_some {l : Int} {t : Tr} {st st' : Unit} (h : stpU l t st = some st') : ∃ p q, wlk t p l = some q := by
  unfold stpU at h
  split at h
  · assumption
  · cases h
theorem foldK_stpU {l : Int} {ks : List Tr} {p q : Int} (h : wlkK ks p l = some q) : foldK (stpU l) ks () = some () := by
  induction ks generalizing p with
  | nil => rfl
  | cons t r ih =>
    rw [wlkK] at h
    cases hw : wlk t p l with
    | none => rw [hw] at h; cases h
    | some q1 =>
      rw [hw] at h
      rw [foldK, stpU_yes hw]
      exact ih h

theorem spT_complete : ∀ (d : Nat) (t : Tr) (p q : Int) (rest : List UInt8), wlk t p (6 - d) = some q → nd rest → spT d (txT t ++ rest) () = some (t, rest, ()) := by
  intro d
  induction d with
  | zero =>
    intro t p q rest h _
    have := (wlk_open h).2.1
    simp at this
  | succ d ih =>
    intro t p q rest h hr
    obtain ⟨h1, h2, ho, hn, hk⟩ := wlk_open h
    have hl : (6 : Int) - ((d + 1 : Nat) : Int) + 1 = 6 - d := by omega
    rw [hl] at hk
    rw [spT]
    rcases shapes ho hn with ⟨n, rfl, hn1, hn2⟩ | ⟨x, rfl, hx⟩ | ⟨n, rfl, hn1⟩ | ⟨ks, rfl, hks⟩ | ⟨ns, ks, rfl, hnl, hrs⟩ | ⟨ks, rfl, hks⟩
    · obtain ⟨c, r, e, hc⟩ := itoa_head n
      have htx : txT (.mk 1 n ByteArray.empty [] []) = Lib.itoa n := by rw [txT]; simp
      have hhd : (Lib.itoa n ++ rest).head? = some c := by rw [e]; rfl
      have hne : ∀ x : UInt8, isDg x = false → x ≠ 45 → (Lib.itoa n ++ rest).head? ≠ some x := fun x hx1 hx2 => by
        rw [hhd]
        intro h
        simp only [Option.some.injEq] at h
        subst h
        rcases hc with hc | hc
        · rw [hx1] at hc; cases hc
        · exact hx2 hc
      rw [htx, if_neg (hne 34 (by decide) (by decide)), if_neg (hne 121 (by decide) (by decide)), if_neg (hne 110 (by decide) (by decide)), if_neg (hne 126 (by decide) (by decide)), if_neg (hne 63 (by decide) (by decide)), if_neg (hne 91 (by decide) (by decide)), if_neg (hne 123 (by decide) (by decide)), sp_num n hn1 hn2 rest hr]
    · have htx : txT (.mk 2 0 x [] []) ++ rest = 34 :: (x.data.toList ++ 34 :: rest) := by rw [txT]; simp
      have hrun : ((34 :: (x.data.toList ++ 34 :: rest)).tail).takeWhile (· != 34) = x.data.toList ∧ ((34 :: (x.data.toList ++ 34 :: rest)).tail).dropWhile (· != 34) = 34 :: rest := text_run hx rest
      rw [htx, if_pos (by rfl), if_pos (by rw [hrun.2]; rfl), hrun.1, hrun.2]
      rfl
    · rcases hn1 with rfl | rfl
      · have htx : txT (.mk 3 0 ByteArray.empty [] []) ++ rest = 110 :: 111 :: rest := by rw [txT]; simp
        rw [htx, if_neg (by simp), if_neg (by simp), if_pos (by rfl), if_pos (by simp)]
        rfl
      · have htx : txT (.mk 3 1 ByteArray.empty [] []) ++ rest = 121 :: 101 :: 115 :: rest := by rw [txT]; simp
        rw [htx, if_neg (by simp), if_pos (by rfl), if_pos (by simp)]
        rfl
    · simp only [Tr.kids] at hk
      have htx : txT (.mk 4 0 ByteArray.empty [] ks) ++ rest = 91 :: (txK false [] 0 ks ++ 93 :: rest) := by rw [txT]; simp
      have hlp := lp_complete (spT d) false 93 (Or.inl rfl) [] (fun h => by cases h) (stpU (6 - d)) (fun t _ _ rest h hr => by obtain ⟨p, q, h⟩ := stpU_some h; exact ih t p q rest h hr) (fun t _ _ h => by obtain ⟨p, q, h⟩ := stpU_some h; exact txT_head h) ks ((txT (.mk 4 0 ByteArray.empty [] ks) ++ rest).length + 1) [] () () rest (by rw [htx]; have := txK_len_ge false [] ks 0 (fun t ht => wlkK_head hk ht); simp; omega) (foldK_stpU hk) (fun h => by cases h)
      rw [htx] at hlp ⊢
      rw [if_neg (by simp), if_neg (by simp), if_neg (by simp), if_neg (by simp), if_neg (by simp), if_pos (by rfl)]
      simp only [List.length_nil, Bool.false_eq_true, if_false] at hlp
      rw [List.tail_cons, hlp]
      simp only [List.nil_append]
    · simp only [Tr.kids] at hk
      have htx : txT (.mk 5 0 ByteArray.empty ns ks) ++ rest = 123 :: (txK true ns 0 ks ++ 125 :: rest) := by rw [txT]; simp
      have hlp := lp_complete (spT d) true 125 (Or.inr rfl) ns (fun _ => hrs) (stpU (6 - d)) (fun t _ _ rest h hr => by obtain ⟨p, q, h⟩ := stpU_some h; exact ih t p q rest h hr) (fun t _ _ h => by obtain ⟨p, q, h⟩ := stpU_some h; exact txT_head h) ks ((txT (.mk 5 0 ByteArray.empty ns ks) ++ rest).length + 1) [] () () rest (by rw [htx]; have := txK_len_ge true ns ks 0 (fun t ht => wlkK_head hk ht); simp; omega) (foldK_stpU hk) (fun _ => by simp [hnl])
      rw [htx] at hlp ⊢
      rw [if_neg (by simp), if_neg (by simp), if_neg (by simp), if_neg (by simp), if_neg (by simp), if_neg (by simp), if_pos (by rfl)]
      simp only [List.length_nil, if_true, List.take_zero] at hlp
      rw [List.tail_cons, hlp]
      simp only [List.nil_append]
    · simp only [Tr.kids] at hk
      cases ks with
      | nil =>
        have htx : txT (.mk 6 0 ByteArray.empty [] []) ++ rest = 126 :: rest := by rw [txT]; simp
        rw [htx, if_neg (by simp), if_neg (by simp), if_neg (by simp), if_pos (by rfl)]
        rfl
      | cons t r =>
        have hr0 : r = [] := by simp at hks; exact hks
        subst hr0
        have htx : txT (.mk 6 0 ByteArray.empty [] [t]) ++ rest = 63 :: (txT t ++ rest) := by rw [txT]; simp [txM]
        rw [wlkK] at hk
        cases hw : wlk t (p + 1) (6 - d) with
        | none => rw [hw] at hk; cases hk
        | some q1 =>
          rw [htx, if_neg (by simp), if_neg (by simp), if_neg (by simp), if_neg (by simp), if_pos (by rfl), List.tail_cons, ih t (p + 1) q1 rest hw hr]

theorem cma_some {n : Nat} {inp i1 : List UInt8} (h : cma n inp = some i1) : inp = (if 0 < n then [44] else []) ++ i1 := by
  unfold cma at h
  split at h
  · rename_i h0
    simp only [Option.some.injEq] at h
    rw [if_neg (by omega), h]; rfl
  · rename_i h0
    split at h
    · rename_i h1
      simp only [Option.some.injEq] at h
      rw [if_pos (by omega)]
      cases inp with
      | nil => simp at h1
      | cons a b => simp at h1 h; subst h1 h; rfl
    · cases h

theorem head_tail {l : List UInt8} {c : UInt8} (h : l.head? = some c) : l = c :: l.tail := by
  cases l with
  | nil => simp at h
  | cons a b => simp at h; subst h; rfl

theorem nmr_some {form : Bool} {ns ns' : List ByteArray} {inp i2 : List UInt8} (h : nmr form ns inp = some (ns', i2)) :
    (form = true → ∃ nm : ByteArray, ns' = ns ++ [nm] ∧ inp = nm.data.toList ++ (58 :: i2)) ∧ (form = false → ns' = ns ∧ inp = i2) := by
  unfold nmr at h
  cases form with
  | false => simp at h; exact ⟨(fun h => by cases h), fun _ => ⟨h.1.symm, h.2⟩⟩
  | true =>
    simp only [if_true] at h
    split at h
    · rename_i h1
      simp only [Option.some.injEq, Prod.mk.injEq] at h
      refine ⟨fun _ => ⟨_, h.1.symm, ?_⟩, fun h => by cases h⟩
      show inp = (inp.takeWhile nameByte) ++ 58 :: i2
      rw [← h.2, ← head_tail h1, List.takeWhile_append_dropWhile]
    · cases h

theorem lp_sound {σ : Type} (rd : List UInt8 → σ → Option (Tr × List UInt8 × σ)) (form : Bool) (e : UInt8) (stp : Tr → σ → Option σ)
    (hrd : ∀ i st t r st', rd i st = some (t, r, st') → i = txT t ++ r ∧ stp t st = some st') :
    ∀ (f : Nat) (ns0 : List ByteArray) (ks0 : List Tr) (inp : List UInt8) (st : σ) (ns : List ByteArray) (ks : List Tr) (rest : List UInt8) (st' : σ), lp rd form e f ns0 ks0 inp st = some (ns, ks, rest, st') → (form = true → ns0.length = ks0.length) →
      ∃ nsn ksn, ns = ns0 ++ nsn ∧ ks = ks0 ++ ksn ∧ (form = true → nsn.length = ksn.length) ∧ (form = false → nsn = []) ∧ inp = txK form ns ks0.length ksn ++ e :: rest ∧ foldK stp ksn st = some st' := by
  intro f
  induction f with
  | zero => intro ns0 ks0 inp st ns ks rest st' h; rw [lp] at h; cases h
  | succ f ih =>
    intro ns0 ks0 inp st ns ks rest st' h hl
    rw [lp] at h
    split at h
    · rename_i h1
      simp only [Option.some.injEq, Prod.mk.injEq] at h
      obtain ⟨rfl, rfl, rfl, rfl⟩ := h
      exact ⟨[], [], by simp, by simp, fun _ => rfl, fun _ => rfl, by rw [txK]; exact head_tail h1, rfl⟩
    · split at h
      · cases h
      · rename_i i1 hc
        split at h
        · cases h
        · rename_i ns' i2 hn
          split at h
          · cases h
          · rename_i t i3 st1 hr
            obtain ⟨hi2, hst⟩ := hrd _ _ _ _ _ hr
            have hcm := cma_some hc
            obtain ⟨hnt, hnf⟩ := nmr_some hn
            obtain ⟨nsn, ksn, e1, e2, e3, e4, e5, e6⟩ := ih ns' (ks0 ++ [t]) i3 st1 ns ks rest st' h (fun hf => by
              obtain ⟨nm, hnm, _⟩ := hnt hf
              rw [hnm]; simp [hl hf])
            have hlen : (ks0 ++ [t]).length = ks0.length + 1 := by simp
            rw [hlen] at e5
            cases form with
            | false =>
              obtain ⟨rfl, hi1⟩ := hnf rfl
              refine ⟨nsn, t :: ksn, e1, by rw [e2]; simp, (fun h => by cases h), e4, ?_, ?_⟩
              · rw [txK, ahead, hcm, hi1, hi2, e5]; simp
              · rw [foldK, hst]; exact e6
            | true =>
              obtain ⟨nm, rfl, hi1⟩ := hnt rfl
              refine ⟨nm :: nsn, t :: ksn, by rw [e1]; simp, by rw [e2]; simp, (fun h => by simp [e3 h]), (fun h => by cases h), ?_, ?_⟩
              · have hg : ns.getD ks0.length ByteArray.empty = nm := by
                  rw [e1, ← hl rfl]; simp
                rw [txK, ahead, hg, hcm, hi1, hi2, e5]; simp
              · rw [foldK, hst]; exact e6

theorem num_join (inp : List UInt8) : (numRun inp).1 ++ (numRun inp).2 = inp := by
  unfold numRun
  split
  · rename_i h
    simp only [List.cons_append, List.takeWhile_append_dropWhile]
    exact (head_tail h).symm
  · simp only [List.takeWhile_append_dropWhile]

theorem rdT_sound : ∀ (d : Nat) (inp : List UInt8) (p : Int) (t : Tr) (rest : List UInt8) (q : Int), d ≤ 6 → rdT d inp p = some (t, rest, q) → inp = txT t ++ rest ∧ wlk t p (6 - d) = some q := by
  intro d
  induction d with
  | zero => intro inp p t rest q _ h; rw [rdT] at h; cases h
  | succ d ih =>
    intro inp p t rest q hd h
    have hl : (6 : Int) - ((d + 1 : Nat) : Int) + 1 = 6 - d := by omega
    have hl2 : (6 : Int) - ((d + 1 : Nat) : Int) + 1 ≤ 6 := by omega
    have hmk : ∀ {t : Tr} {q : Int}, p + 1 ≤ 120 → ownB t = true → newB t = true → wlkK t.kids (p + 1) (6 - d) = some q → wlk t p (6 - ((d + 1 : Nat) : Int)) = some q := fun h1 ho hn hk => wlk_make h1 hl2 ho hn (by rw [hl]; exact hk)
    have hlps := fun (form : Bool) (e : UInt8) => lp_sound (rdT d) form e (fun t p => wlk t p (6 - d)) (fun i st t r st' h => ih i st t r st' (by omega) h)
    rw [rdT] at h
    split at h
    · cases h
    rename_i hp
    have hp1 : p + 1 ≤ 120 := by omega
    split at h
    · cases h
    rename_i c hhd
    have hht := head_tail hhd
    split at h
    · split at h
      · cases h
      · rename_i n hnum
        simp only [Option.some.injEq, Prod.mk.injEq] at h
        obtain ⟨rfl, rfl, rfl⟩ := h
        obtain ⟨n0, n1, hit⟩ := numOf_some hnum
        refine ⟨?_, hmk hp1 (by simp [ownB, Tr.sort, Tr.text, Tr.names, Tr.kids, ByteArray.toList_empty]) (by simp [newB, Tr.sort, Tr.num, n0, n1]) (by simp [Tr.kids, wlkK])⟩
        rw [txT]
        simp only [if_true]
        rw [hit, num_join]
    split at h
    · rename_i hc
      subst hc
      split at h
      · rename_i h1
        simp only [Option.some.injEq, Prod.mk.injEq] at h
        obtain ⟨rfl, rfl, rfl⟩ := h
        refine ⟨?_, hmk hp1 (by simp [ownB, Tr.sort, Tr.num, Tr.names, Tr.kids]) (by simp [newB, Tr.sort, Tr.text, h1.2]) (by simp [Tr.kids, wlkK])⟩
        rw [txT]
        simp only [Int.reduceEq, if_false, if_true, List.cons_append, List.nil_append, List.append_assoc]
        rw [← head_tail h1.1, List.takeWhile_append_dropWhile]
        exact hht
      · cases h
    split at h
    · split at h
      · rename_i h1
        simp only [Option.some.injEq, Prod.mk.injEq] at h
        obtain ⟨rfl, rfl, rfl⟩ := h
        refine ⟨?_, hmk hp1 (by simp [ownB, Tr.sort, Tr.text, Tr.names, Tr.kids, ByteArray.toList_empty]) (by simp [newB, Tr.sort, Tr.num]) (by simp [Tr.kids, wlkK])⟩
        rw [List.isPrefixOf_iff_prefix] at h1
        obtain ⟨r, hr⟩ := h1
        rw [txT, ← hr]
        simp
      · split at h
        · rename_i h1
          simp only [Option.some.injEq, Prod.mk.injEq] at h
          obtain ⟨rfl, rfl, rfl⟩ := h
          refine ⟨?_, hmk hp1 (by simp [ownB, Tr.sort, Tr.text, Tr.names, Tr.kids, ByteArray.toList_empty]) (by simp [newB, Tr.sort, Tr.num]) (by simp [Tr.kids, wlkK])⟩
          rw [List.isPrefixOf_iff_prefix] at h1
          obtain ⟨r, hr⟩ := h1
          rw [txT, ← hr]
          simp
        · cases h
    split at h
    · rename_i hc
      subst hc
      split at h
      · cases h
      · rename_i ns ks rst q1 hlp
        split at h
        · rename_i h20
          simp only [Option.some.injEq, Prod.mk.injEq] at h
          obtain ⟨rfl, rfl, rfl⟩ := h
          obtain ⟨nsn, ksn, e1, e2, e3, e4, e5, e6⟩ := hlps false 93 _ _ _ _ _ _ _ _ _ hlp (fun h => by cases h)
          rw [foldK_wlk] at e6
          simp only [List.nil_append] at e1 e2
          subst e1 e2
          have e4' := e4 rfl
          subst e4'
          refine ⟨?_, hmk hp1 (by simp [ownB, Tr.sort, Tr.num, Tr.text, Tr.names, ByteArray.toList_empty]) (by simp [newB, Tr.sort, Tr.kids, h20]) e6⟩
          rw [hht, e5, txT]
          simp
        · cases h
    split at h
    · rename_i hc
      subst hc
      split at h
      · cases h
      · rename_i ns ks rst q1 hlp
        split at h
        · rename_i h20
          simp only [Option.some.injEq, Prod.mk.injEq] at h
          obtain ⟨rfl, rfl, rfl⟩ := h
          obtain ⟨nsn, ksn, e1, e2, e3, e4, e5, e6⟩ := hlps true 125 _ _ _ _ _ _ _ _ _ hlp (fun _ => rfl)
          rw [foldK_wlk] at e6
          simp only [List.nil_append] at e1 e2
          subst e1 e2
          refine ⟨?_, hmk hp1 (by simp [ownB, Tr.sort, Tr.num, Tr.text, ByteArray.toList_empty]) (by simp [newB, Tr.sort, Tr.names, Tr.kids, h20, e3 rfl]) e6⟩
          rw [hht, e5, txT]
          simp
        · cases h
    split at h
    · rename_i hc
      subst hc
      simp only [Option.some.injEq, Prod.mk.injEq] at h
      obtain ⟨rfl, rfl, rfl⟩ := h
      refine ⟨?_, hmk hp1 (by simp [ownB, Tr.sort, Tr.num, Tr.text, Tr.names, ByteArray.toList_empty]) (by simp [newB, Tr.sort, Tr.kids]) (by simp [Tr.kids, wlkK])⟩
      rw [txT]
      simpa using hht
    split at h
    · rename_i hc
      subst hc
      split at h
      · cases h
      · rename_i t1 rst q1 hrec
        simp only [Option.some.injEq, Prod.mk.injEq] at h
        obtain ⟨rfl, rfl, rfl⟩ := h
        obtain ⟨g1, g2⟩ := ih _ _ _ _ _ (by omega) hrec
        refine ⟨?_, hmk hp1 (by simp [ownB, Tr.sort, Tr.num, Tr.text, Tr.names, ByteArray.toList_empty]) (by simp [newB, Tr.sort, Tr.kids]) (by simp [Tr.kids, wlkK, g2])⟩
        rw [hht, g1, txT]
        simp [txM]
    · cases h

theorem wlk_ok {t : Tr} {q : Int} : wlk t 0 0 = some q ↔ (0 < pT t 1 ∧ pT t 1 = q) := by
  rw [wlk_start]
  have hbd := pT_bd t 1
  constructor
  · intro h
    split at h
    · cases h
    · simp only [Option.some.injEq] at h; omega
  · rintro ⟨h1, h2⟩
    rw [if_neg (by omega), h2]

theorem okT_of_wlk : ∀ (t : Tr) (p l q : Int), wlk t p l = some q → okT t = true := by
  have key : ∀ (n : Nat) (t : Tr), tsz t < n → ∀ (p l q : Int), wlk t p l = some q → okT t = true := by
    intro n
    induction n with
    | zero => intro t h; omega
    | succ n ih =>
      intro t hn p l q h
      obtain ⟨_, _, ho, hnw, hk⟩ := wlk_open h
      rw [okT_eq, alone_eq, ho, hnw]
      simp only [Bool.and_self, Bool.true_and]
      have hks : ∀ (ks : List Tr), (∀ k, k ∈ ks → tsz k < n) → ∀ p q, wlkK ks p (l + 1) = some q → okK ks = true := by
        intro ks
        induction ks with
        | nil => intro _ _ _ _; rfl
        | cons a r ihk =>
          intro hm p q hw
          rw [wlkK] at hw
          cases hwa : wlk a p (l + 1) with
          | none => rw [hwa] at hw; cases hw
          | some q1 =>
            rw [hwa] at hw
            rw [okK, ih a (hm a (by simp)) p (l + 1) q1 hwa, ihk (fun k hk => hm k (by simp [hk])) q1 q hw]
            rfl
      exact hks t.kids (fun k hk => by have := tsz_kid hk; omega) _ _ hk
  intro t p l q h
  exact key (tsz t + 1) t (by omega) p l q h

theorem nd_nil : nd [] := fun c hc => by simp at hc

/-- What the program reads is not nothing. -/
theorem rdT_len (d : Nat) (hd : d ≤ 6) (inp : List UInt8) (p : Int) (t : Tr) (rest : List UInt8) (q : Int) (h : rdT d inp p = some (t, rest, q)) : rest.length < inp.length := by
  obtain ⟨h1, h2⟩ := rdT_sound d inp p t rest q hd h
  obtain ⟨c, r, e, _⟩ := txT_head h2
  rw [h1, e]
  simp
  omega

end Go.Proofs.YtbkagahmiibclaaGreatDoor

/- The text of a tree that is ok is short; and its marks are few. No program walked, no conditions. -/

namespace Go.Proofs.YtbkagahmiibclaaGreatDoor
open Go Go.RowKit

theorem itoa_short {n : Int} (h : -999999999 ≤ n ∧ n ≤ 999999999) : (Lib.itoa n).length ≤ 10 := by
  rcases itoa_cases n with ⟨hn, e⟩ | ⟨hn, e⟩
  · rw [e]
    have := dec_len 8 n.toNat (by omega)
    omega
  · rw [e]
    have := dec_len 8 n.natAbs (by omega)
    simp only [List.length_cons]
    omega

theorem name_short {ns : List ByteArray} (h : riseB ns = true) (i : Nat) : (ns.getD i ByteArray.empty).data.toList.length ≤ 8 := by
  by_cases hi : i < ns.length
  · rw [getD_lt _ _ hi]
    have := rise_name h i hi
    unfold nameOkB at this
    simp only [Bool.and_eq_true, decide_eq_true_eq] at this
    show ns[i].size ≤ 8
    omega
  · have e : ns.getD i ByteArray.empty = ByteArray.empty := by simp [List.getD, List.getElem?_eq_none (Nat.le_of_not_lt hi)]
    rw [e]
    decide

theorem ahead_short {form : Bool} {ns : List ByteArray} (h : form = true → riseB ns = true) (i : Nat) : (ahead form ns i).length ≤ 10 := by
  unfold ahead
  cases form with
  | false => simp; split <;> simp
  | true =>
    have := name_short (h rfl) i
    have e : (if 0 < i then [44] else ([] : List UInt8)).length ≤ 1 := by split <;> simp
    simp only [if_true, List.length_append, List.length_cons, List.length_nil]
    omega

theorem txK_short (n : Nat) (IH : ∀ t : Tr, tsz t < n → ∀ p l q : Int, 0 ≤ p → p ≤ 120 → wlk t p l = some q → ((txT t).length : Int) + 10 ≤ 80 * (q - p)) (form : Bool) (ns : List ByteArray) (hr : form = true → riseB ns = true) (l : Int) :
    ∀ (ks : List Tr), (∀ k, k ∈ ks → tsz k < n) → ∀ (i : Nat) (p q : Int), 0 ≤ p → p ≤ 120 → wlkK ks p l = some q → ((txK form ns i ks).length : Int) ≤ 80 * (q - p) := by
  intro ks
  induction ks with
  | nil => intro _ i p q _ _ h; rw [wlkK] at h; simp only [Option.some.injEq] at h; subst h; simp [txK]
  | cons a r ih =>
    intro hm i p q h0 h1 h
    rw [wlkK] at h
    cases hw : wlk a p l with
    | none => rw [hw] at h; cases h
    | some q1 =>
      rw [hw] at h
      have hb := wlk_bd a p l q1 h0 h1 hw
      have e1 := IH a (hm a (by simp)) p l q1 h0 h1 hw
      have e2 := ih (fun k hk => hm k (by simp [hk])) (i + 1) q1 q (by omega) hb.2 h
      have e3 := ahead_short hr i
      rw [txK]
      simp only [List.length_append]
      omega

theorem txT_short : ∀ (n : Nat) (t : Tr), tsz t < n → ∀ p l q : Int, 0 ≤ p → p ≤ 120 → wlk t p l = some q → ((txT t).length : Int) + 10 ≤ 80 * (q - p) := by
  intro n
  induction n with
  | zero => intro t h; omega
  | succ n ih =>
    intro t hn p l q h0 h1 h
    have hb := wlk_bd t p l q h0 h1 h
    obtain ⟨h2, -, ho, hnb, hk⟩ := wlk_open h
    have hm : ∀ k, k ∈ t.kids → tsz k < n := fun k hk => by have := tsz_kid hk; omega
    rcases shapes ho hnb with ⟨m, rfl, hm1⟩ | ⟨x, rfl, hx⟩ | ⟨m, rfl, hm1⟩ | ⟨ks, rfl, hks⟩ | ⟨ns, ks, rfl, hnl, hri⟩ | ⟨ks, rfl, hks⟩
    · have htx : txT (.mk 1 m ByteArray.empty [] []) = Lib.itoa m := by rw [txT]; simp
      rw [htx]
      have := itoa_short hm1
      omega
    · have htx : txT (.mk 2 0 x [] []) = 34 :: (x.data.toList ++ [34]) := by rw [txT]; simp
      rw [htx]
      unfold textOkB at hx
      simp only [Bool.and_eq_true, decide_eq_true_eq] at hx
      have e : x.data.toList.length = x.size := rfl
      simp only [List.length_cons, List.length_append, List.length_nil]
      omega
    · have htx : (txT (.mk 3 m ByteArray.empty [] [])).length ≤ 3 := by
        rw [txT]; simp; split <;> simp
      omega
    · have htx : txT (.mk 4 0 ByteArray.empty [] ks) = 91 :: (txK false [] 0 ks ++ [93]) := by rw [txT]; simp
      rw [htx]
      have := txK_short n ih false [] (fun h => by cases h) (l + 1) ks hm 0 (p + 1) q (by omega) h2 hk
      simp only [List.length_cons, List.length_append, List.length_nil]
      omega
    · have htx : txT (.mk 5 0 ByteArray.empty ns ks) = 123 :: (txK true ns 0 ks ++ [125]) := by rw [txT]; simp
      rw [htx]
      have := txK_short n ih true ns (fun _ => hri) (l + 1) ks hm 0 (p + 1) q (by omega) h2 hk
      simp only [List.length_cons, List.length_append, List.length_nil]
      omega
    · cases ks with
      | nil =>
        have htx : txT (.mk 6 0 ByteArray.empty [] []) = [126] := by rw [txT]; simp
        rw [htx]; simp; omega
      | cons a r =>
        have hr0 : r = [] := by simp at hks; exact hks
        subst hr0
        have htx : txT (.mk 6 0 ByteArray.empty [] [a]) = 63 :: txT a := by rw [txT]; simp [txM]
        rw [htx]
        simp only [Tr.kids] at hk hm
        rw [wlkK] at hk
        cases hw : wlk a (p + 1) (l + 1) with
        | none => rw [hw] at hk; cases hk
        | some q1 =>
          rw [hw] at hk
          simp only [wlkK, Option.some.injEq] at hk
          subst hk
          have := ih a (hm a (by simp)) (p + 1) (l + 1) q1 (by omega) h2 hw
          simp only [List.length_cons]
          omega

theorem txT_small {t : Tr} {q : Int} (h : wlk t 0 0 = some q) : (txT t).length ≤ 9600 := by
  have h1 := txT_short (tsz t + 1) t (by omega) 0 0 q (by omega) (by omega) h
  have h2 := (wlk_bd t 0 0 q (by omega) (by omega) h).2
  omega

end Go.Proofs.YtbkagahmiibclaaGreatDoor

/- The walks of the specification's reader, the small ones: look, eat, name, text, num. For texts of at most 2^20 bytes. -/

namespace Go.Proofs.YtbkagahmiibclaaGreatDoor
open Go Go.RowKit

/-- A reader of the specification lies in block R. -/
def Rdr (w : World) (R : Nat) (s : ByteArray) (at' : Nat) (bad : Bool) : Prop := w.rowIs R 78 3 (row3 (.string s) (.int .i64 at') (.bool bad))

theorem Rdr.cells {w : World} {R : Nat} {s : ByteArray} {at' : Nat} {bad : Bool} (h : Rdr w R s at' bad) :
    w.cell? ⟨R, 0, none⟩ = some (.string s) ∧ w.cell? ⟨R, 1, none⟩ = some (.int .i64 at') ∧ w.cell? ⟨R, 2, none⟩ = some (.bool bad) ∧ w.frozen? ⟨R, 1, none⟩ = false ∧ w.frozen? ⟨R, 2, none⟩ = false :=
  ⟨World.rowIs.cell h (by omega), World.rowIs.cell h (by omega), World.rowIs.cell h (by omega), World.rowIs.frozen h 1, World.rowIs.frozen h 2⟩
theorem Rdr.lt {w : World} {R : Nat} {s : ByteArray} {at' : Nat} {bad : Bool} (h : Rdr w R s at' bad) : R < w.heap.size := World.rowIs.lt h
theorem Rdr.below {w w' : World} {R : Nat} {s : ByteArray} {at' : Nat} {bad : Bool} (h : Rdr w R s at' bad) (hb : Below w.heap.size w w') : Rdr w' R s at' bad := World.rowIs.of_block h (hb.block R h.lt)
theorem Rdr.set1 {w : World} {R : Nat} {s : ByteArray} {at' : Nat} {bad : Bool} (h : Rdr w R s at' bad) (a : Nat) : Rdr (w.setCell ⟨R, 1, none⟩ (.int .i64 a)) R s a bad :=
  (World.rowIs.set h 1 _).congr fun i hi => by
    match i, hi with
    | 0, _ => rfl
    | 1, _ => rfl
    | 2, _ => rfl
theorem Rdr.set2 {w : World} {R : Nat} {s : ByteArray} {at' : Nat} {bad : Bool} (h : Rdr w R s at' bad) (b : Bool) : Rdr (w.setCell ⟨R, 2, none⟩ (.bool b)) R s at' b :=
  (World.rowIs.set h 2 _).congr fun i hi => by
    match i, hi with
    | 0, _ => rfl
    | 1, _ => rfl
    | 2, _ => rfl
theorem Rdr.drew {w : World} {R : Nat} {s : ByteArray} {at' : Nat} {bad : Bool} (h : Rdr w R s at' bad) : Rdr w.drew R s at' bad := h

/-- The byte at a place, 0 behind the end. -/
def bv (s : ByteArray) (i : Nat) : Nat := if h : i < s.size then s[i].toNat else 0

/-- What is still to be read. -/
def lf (s : ByteArray) (i : Nat) : List UInt8 := s.data.toList.drop i

theorem lf_cons {s : ByteArray} {i : Nat} (h : i < s.size) : lf s i = s[i] :: lf s (i + 1) := by
  unfold lf
  rw [List.drop_eq_getElem_cons (by simpa using h)]
  rfl
theorem lf_nil {s : ByteArray} {i : Nat} (h : s.size ≤ i) : lf s i = [] := by
  unfold lf; exact List.drop_eq_nil_of_le (by simpa using h)
theorem lf_len (s : ByteArray) (i : Nat) : (lf s i).length = s.size - i := by unfold lf; rw [List.length_drop]; rfl
theorem Rdr.drewN {w : World} {R : Nat} {s : ByteArray} {at' : Nat} {bad : Bool} (h : Rdr w R s at' bad) (n : Nat) : Rdr (w.drewN n) R s at' bad := h

theorem toList_loop (s : ByteArray) (n : Nat) : ∀ (i : Nat) (r : List UInt8), s.size - i = n → ByteArray.toList.loop s i r = r.reverse ++ s.data.toList.drop i := by
  induction n with
  | zero =>
    intro i r h
    unfold ByteArray.toList.loop
    rw [if_neg (by omega), List.drop_eq_nil_of_le (by simp only [Array.length_toList]; show s.size ≤ i; omega), List.append_nil]
  | succ n ih =>
    intro i r h
    unfold ByteArray.toList.loop
    have hi : i < s.size := by omega
    have e : s.get! i = s.data.toList[i]'(by simpa using hi) := by
      obtain ⟨d⟩ := s
      exact getElem!_pos d i hi
    have hdrop : s.data.toList.drop i = s.data.toList[i]'(by simpa using hi) :: s.data.toList.drop (i + 1) := List.drop_eq_getElem_cons (by simpa using hi)
    rw [if_pos hi, ih (i + 1) _ (by omega), hdrop, e, List.reverse_cons, List.append_assoc]
    rfl
theorem toList_data (s : ByteArray) : s.toList = s.data.toList := by
  have := toList_loop s s.size 0 [] (by omega)
  rw [List.drop_zero] at this
  exact this
/-- A word stands at a place. -/
def pre (wd : ByteArray) (s : ByteArray) (i : Nat) : Bool := wd.data.toList.isPrefixOf (lf s i)

theorem pre_iff {wd s : ByteArray} {i : Nat} (h0 : 0 < wd.size) : pre wd s i = true ↔ (i + wd.size ≤ s.size ∧ s.extract i (i + wd.size) = wd) := by
  unfold pre
  rw [List.isPrefixOf_iff_prefix, List.prefix_iff_eq_take]
  have hl : wd.data.toList.length = wd.size := rfl
  have he : (s.extract i (i + wd.size)).data.toList = (lf s i).take wd.size := by
    unfold lf
    simp [List.take_drop]
  rw [hl]
  constructor
  · intro h
    have h2 := congrArg List.length h
    rw [List.length_take, lf_len, hl] at h2
    refine ⟨by omega, ?_⟩
    apply ByteArray.ext
    apply Array.toList_inj.1
    rw [he, ← h]
  · rintro ⟨h1, h2⟩
    rw [← he, h2]

theorem lf_after {wd s : ByteArray} {i : Nat} : lf s (i + wd.size) = (lf s i).drop wd.size := by
  unfold lf; rw [List.drop_drop]

theorem but_drewN {B : Nat} {w w' : World} (h : But B w w') (n : Nat) : But B w (w'.drewN n) := ⟨h.os, h.tape, h.output, h.size, h.block⟩

end Go.Proofs.YtbkagahmiibclaaGreatDoor

/- The walks of the specification's reader, further: name. For texts of at most 2^20 bytes. -/

namespace Go.Proofs.YtbkagahmiibclaaGreatDoor
open Go Go.RowKit

/-- How many bytes from a place on are such. -/
def rn (p : UInt8 → Bool) (s : ByteArray) (i : Nat) : Nat := ((lf s i).takeWhile p).length

theorem rn_step {p : UInt8 → Bool} {s : ByteArray} {i : Nat} (h : i < s.size) (hp : p s[i] = true) : rn p s i = rn p s (i + 1) + 1 := by
  unfold rn; rw [lf_cons h]; simp [hp]
theorem rn_stop {p : UInt8 → Bool} {s : ByteArray} {i : Nat} (h : i < s.size) (hp : p s[i] = false) : rn p s i = 0 := by
  unfold rn; rw [lf_cons h]; simp [hp]
theorem rn_end {p : UInt8 → Bool} {s : ByteArray} {i : Nat} (h : s.size ≤ i) : rn p s i = 0 := by
  unfold rn; rw [lf_nil h]; simp
theorem rn_le (p : UInt8 → Bool) (s : ByteArray) (i : Nat) (h : i ≤ s.size) : i + rn p s i ≤ s.size := by
  unfold rn
  have := (List.takeWhile_prefix (p := p) (l := lf s i)).length_le
  rw [lf_len] at this
  omega
theorem rn_take (p : UInt8 → Bool) (s : ByteArray) (i : Nat) : s.extract i (i + rn p s i) = ⟨((lf s i).takeWhile p).toArray⟩ := by
  apply ByteArray.ext
  apply Array.toList_inj.1
  have h1 : (s.extract i (i + rn p s i)).data.toList = (lf s i).take (rn p s i) := by unfold lf; simp [List.take_drop]
  rw [h1]
  unfold rn
  exact (List.prefix_iff_eq_take.1 (List.takeWhile_prefix p)).symm
theorem rn_drop (p : UInt8 → Bool) (s : ByteArray) (i : Nat) : lf s (i + rn p s i) = (lf s i).dropWhile p := by
  have h1 : lf s (i + rn p s i) = (lf s i).drop (rn p s i) := by unfold lf; rw [List.drop_drop]
  rw [h1]
  unfold rn
  generalize lf s i = l
  have := List.takeWhile_append_dropWhile (p := p) (l := l)
  conv => lhs; arg 2; rw [← this]
  rw [List.drop_left]

theorem Rdr.heap {w w' : World} {R : Nat} {s : ByteArray} {a : Nat} {bad : Bool} (h : Rdr w R s a bad) (e : w'.heap = w.heap) : Rdr w' R s a bad := World.rowIs.of_block h (by rw [e])
/-- The place of a reader, off its block. -/
def atOf (w : World) (R : Nat) : Nat := (intOf ((w.cell? ⟨R, 1, none⟩).getD undef)).toNat
theorem Rdr.atOf {w : World} {R : Nat} {s : ByteArray} {a : Nat} {bad : Bool} (h : Rdr w R s a bad) : atOf w R = a := by
  unfold Go.Proofs.YtbkagahmiibclaaGreatDoor.atOf; rw [h.cells.2.1]; simp [intOf]

def w1 (c : UInt8) : ByteArray := ⟨#[c]⟩
theorem pre_one (c : UInt8) (s : ByteArray) (i : Nat) : pre (w1 c) s i = decide ((lf s i).head? = some c) := by
  unfold pre w1
  cases lf s i with
  | nil => rfl
  | cons a r => simp [List.isPrefixOf, eq_comm, Bool.beq_eq_decide_eq]
theorem lf_next (s : ByteArray) (i : Nat) : lf s (i + 1) = (lf s i).tail := by
  unfold lf; rw [← List.drop_drop]; simp
theorem pre_room {wd s : ByteArray} {i : Nat} (h0 : 0 < wd.size) (h : pre wd s i = true) : i + wd.size ≤ s.size := ((pre_iff h0).1 h).1
end Go.Proofs.YtbkagahmiibclaaGreatDoor

/- How the texts of events are read: just those of events that are ok. No program walked, no conditions. -/

namespace Go.Proofs.YtbkagahmiibclaaGreatDoor
open Go Go.RowKit

/-- The text of an event. -/
def evT (ty : ByteArray) (v : Int) (t : Tr) : List UInt8 := ty.data.toList ++ 64 :: (Lib.itoa v ++ txT t)

open Classical in
theorem evOk_open {ty : ByteArray} {v : Int} {t : Tr} (h : evOkB ty v t = true) : nameOkB ty = true ∧ 1 ≤ v ∧ v ≤ 12 ∧ t.sort = 5 ∧ wlk t 0 0 = some (pT t 1) := by
  unfold evOkB at h
  simp only [Bool.and_eq_true, decide_eq_true_eq] at h
  exact ⟨h.1.1.1, h.1.1.2.1, h.1.1.2.2, h.1.2, wlk_ok.2 ⟨h.2, rfl⟩⟩
theorem nd_form {t : Tr} (h : t.sort = 5) (rest : List UInt8) : nd (txT t ++ rest) := by
  rw [txT_eq, if_neg (by omega), if_neg (by omega), if_neg (by omega), if_neg (by omega), if_pos h]
  intro c hc
  simp at hc
  subst hc
  rfl
theorem nmty_size {ty : ByteArray} (h : nameOkB ty = true) : ty.size ≤ 8 ∧ 1 ≤ ty.size := by
  unfold nameOkB at h
  simp only [Bool.and_eq_true, decide_eq_true_eq] at h
  omega

/-- What stands in the text of an event. -/
theorem ev_parts {ty : ByteArray} {v : Int} {t : Tr} (h : evOkB ty v t = true) {L : List UInt8} (hL : evT ty v t = L) :
    L.takeWhile nameByte = ty.data.toList ∧ ((L.take 8).takeWhile nameByte).length = ty.size ∧ L.drop ty.size = 64 :: (Lib.itoa v ++ txT t) ∧ numRun (Lib.itoa v ++ txT t) = (Lib.itoa v, txT t) ∧ spNum (Lib.itoa v ++ txT t) = some (v, txT t) ∧ rdT 6 (txT t) 0 = some (t, [], pT t 1) ∧ spT 6 (txT t) () = some (t, [], ()) := by
  obtain ⟨h1, h2, h3, h4, h5⟩ := evOk_open h
  obtain ⟨hn, hne⟩ := nameOk_bytes h1
  have hsz := (nmty_size h1).1
  have hls : ty.data.toList.length = ty.size := rfl
  have hnd : nd (txT t) := by have := nd_form h4 []; simpa using this
  have htw := tw_append (p := nameByte) (l := ty.data.toList) (rest := 64 :: (Lib.itoa v ++ txT t)) hn (fun c hc => by simp at hc; subst hc; decide)
  subst hL
  unfold evT
  refine ⟨htw.1, ?_, ?_, num_run v _ hnd, sp_num v (by omega) (by omega) _ hnd, ?_, ?_⟩
  · rw [List.take_append]
    have : (ty.data.toList.take 8) = ty.data.toList := List.take_of_length_le (by omega)
    rw [this, hls]
    have e := tw_append (p := nameByte) (l := ty.data.toList) (rest := (64 :: (Lib.itoa v ++ txT t)).take (8 - ty.size)) hn (fun c hc => by
      cases hk : 8 - ty.size with
      | zero => rw [hk] at hc; simp at hc
      | succ k => rw [hk] at hc; simp at hc; subst hc; decide)
    rw [e.1, hls]
  · rw [← hls, List.drop_left]
  · have := rdT_complete 6 t 0 (pT t 1) [] (by simpa using h5) nd_nil
    rwa [List.append_nil] at this
  · have := spT_complete 6 t 0 (pT t 1) [] (by simpa using h5) nd_nil
    rwa [List.append_nil] at this

theorem ev_unique {ty ty' : ByteArray} {v v' : Int} {t t' : Tr} (h : evOkB ty v t = true) (h' : evOkB ty' v' t' = true) {L : List UInt8} (e : evT ty v t = L) (e' : evT ty' v' t' = L) : (ty, v, t) = (ty', v', t') := by
  obtain ⟨a1, -, a3, a4, -, a6, -⟩ := ev_parts h e
  obtain ⟨b1, -, b3, b4, -, b6, -⟩ := ev_parts h' e'
  have hty : ty = ty' := by
    apply ByteArray.ext
    apply Array.toList_inj.1
    rw [← a1, ← b1]
  subst hty
  rw [a3] at b3
  simp only [List.cons.injEq, true_and] at b3
  rw [b3, b4] at a4
  simp only [Prod.mk.injEq] at a4
  have hv : v' = v := by
    obtain ⟨-, g2, g3, -⟩ := evOk_open h
    obtain ⟨-, k2, k3, -⟩ := evOk_open h'
    exact itoa_inj ⟨by omega, by omega⟩ ⟨by omega, by omega⟩ a4.1
  subst hv
  rw [a4.2, a6] at b6
  simp only [Option.some.injEq, Prod.mk.injEq] at b6
  rw [b6.1]

/-- A text is that of an event that is ok. -/
def EvR (L : List UInt8) (ty : ByteArray) (v : Int) (t : Tr) : Prop := evOkB ty v t = true ∧ evT ty v t = L

theorem numRun_cat (inp : List UInt8) : (numRun inp).1 ++ (numRun inp).2 = inp := by
  unfold numRun
  split
  · rename_i h
    cases inp with
    | nil => simp at h
    | cons c r =>
      simp only [List.head?_cons, Option.some.injEq] at h
      subst h
      simp [List.takeWhile_append_dropWhile]
  · simp [List.takeWhile_append_dropWhile]

/-- What the program's reader meets in the text of an event. -/
theorem ev_all {s ty : ByteArray} {v : Int} {t : Tr} (h : EvR s.data.toList ty v t) :
    s.size ≤ 10000 ∧ s.extract 0 (tE s) = ty ∧ (lf s (tE s)).head? = some 64 ∧ numRun (lf s (tE s + 1)) = (Lib.itoa v, txT t) ∧ Lib.atoiAll (Lib.itoa v) = .ok v ∧ rdT 6 (txT t) 0 = some (t, [], pT t 1) := by
  obtain ⟨h1, h2⟩ := h
  obtain ⟨a1, a2, a3, a4, -, a6, -⟩ := ev_parts h1 h2
  obtain ⟨b1, b2, b3, b4, b5⟩ := evOk_open h1
  have hte : tE s = ty.size := a2
  have hsz : s.data.toList.length = s.size := rfl
  have hty : ty.data.toList.length = ty.size := rfl
  have hl : lf s ty.size = 64 :: (Lib.itoa v ++ txT t) := a3
  refine ⟨?_, ?_, ?_, ?_, atoi_itoa v (by omega) (by omega), a6⟩
  · have hn := (nmty_size b1).1
    have hi := itoa_short (n := v) ⟨by omega, by omega⟩
    have ht := txT_small b5
    rw [← hsz, ← h2]
    unfold evT
    simp only [List.length_append, List.length_cons]
    omega
  · rw [hte]
    apply ByteArray.ext
    apply Array.toList_inj.1
    have e : (s.extract 0 ty.size).data.toList = s.data.toList.take ty.size := by simp
    rw [e, ← h2]
    unfold evT
    rw [← hty, List.take_left]
  · rw [hte, hl]; rfl
  · rw [hte, lf_next, hl]
    exact a4

/-- What was read is the text. -/
theorem ev_make {s : ByteArray} {n : Int} {t : Tr} {q : Int} (h64 : (lf s (tE s)).head? = some 64) (hn : Lib.itoa n = (numRun (lf s (tE s + 1))).1) (hr : rdT 6 (numRun (lf s (tE s + 1))).2 0 = some (t, [], q)) : evT (s.extract 0 (tE s)) n t = s.data.toList := by
  have h1 := (rdT_sound 6 _ _ _ _ _ (Nat.le_refl _) hr).1
  rw [List.append_nil] at h1
  unfold evT
  rw [hn, ← h1, numRun_cat, lf_next]
  have e : (s.extract 0 (tE s)).data.toList = s.data.toList.take (tE s) := by simp
  rw [e]
  have e2 : (64 : UInt8) :: (lf s (tE s)).tail = lf s (tE s) := by
    cases hl : lf s (tE s) with
    | nil => rw [hl] at h64; simp at h64
    | cons c r => rw [hl] at h64; simp only [List.head?_cons, Option.some.injEq] at h64; rw [h64]; rfl
  rw [e2]
  exact List.take_append_drop _ _
theorem ev_wlk {t : Tr} {inp rest : List UInt8} {q : Int} (hr : rdT 6 inp 0 = some (t, rest, q)) : wlk t 0 0 = some q := by
  have := (rdT_sound 6 _ _ _ _ _ (Nat.le_refl _) hr).2
  simpa using this
end Go.Proofs.YtbkagahmiibclaaGreatDoor

/- Of a text there is but one event; no program walked, no conditions. -/

namespace Go.Proofs.YtbkagahmiibclaaGreatDoor
open Go Go.RowKit

theorem EvR.same {L : List UInt8} {ty ty' : ByteArray} {v v' : Int} {t t' : Tr} (h : EvR L ty v t) (h' : EvR L ty' v' t') : ty' = ty ∧ v' = v ∧ t' = t := by
  have := ev_unique h'.1 h.1 h'.2 h.2
  simp only [Prod.mk.injEq] at this
  exact this
end Go.Proofs.YtbkagahmiibclaaGreatDoor
