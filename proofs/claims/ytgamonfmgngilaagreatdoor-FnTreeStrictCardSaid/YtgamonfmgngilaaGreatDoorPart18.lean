/- The specification reads a tree that is ok from its text; what the program reads is the text of a tree that is ok; so both read the same. No program walked, no conditions. -/
import Derived.Test.YtgamonfmgngilaaGreatDoorPart17
import Derived.Test.YtgamonfmgngilaaGreatDoorPart16
import Derived.Lib.AtoiErrMem
import Derived.Sort.Grow
namespace Go.Proofs.YtgamonfmgngilaaGreatDoor
open Go Go.RowKit

theorem sp_num (n : Int) (h0 : -999999999 ≤ n) (h1 : n ≤ 999999999) (rest : List UInt8) (hr : nd rest) : spNum (Lib.itoa n ++ rest) = some (n, rest) := by
  have key : ∀ u : Nat, u ≤ 999999999 → ((Lib.decDigits u ++ rest).take 10).takeWhile isDg = Lib.decDigits u := fun u hu => by
    have hl := dec_len 8 u (by omega)
    rw [List.take_append, List.take_of_length_le (by omega)]
    refine (tw_append (p := isDg) (dec_all u) (fun c hc => hr c ?_)).1
    cases rest with
    | nil => simp at hc
    | cons a b =>
      rw [show 10 - (Lib.decDigits u).length = (9 - (Lib.decDigits u).length) + 1 from by omega] at hc
      simpa using hc
  unfold spNum
  rcases itoa_cases n with ⟨hn, e⟩ | ⟨hn, e⟩
  · obtain ⟨c, r, hcr⟩ : ∃ c r, Lib.decDigits n.toNat = c :: r := List.exists_cons_of_ne_nil (dec_ne _)
    have hc := dec_all n.toNat c (by rw [hcr]; simp)
    have hh : (Lib.itoa n ++ rest).head? ≠ some 45 := by
      rw [e, hcr]
      simp only [List.cons_append, List.head?_cons, ne_eq, Option.some.injEq]
      intro e2; subst e2; revert hc; decide
    simp only [if_neg hh]
    rw [e, key n.toNat (by omega), if_neg (dec_ne _), dec_val]
    simp only [List.drop_left]
    rw [Int.toNat_of_nonneg hn]
  · have hh : (Lib.itoa n ++ rest).head? = some 45 := by rw [e]; rfl
    simp only [if_pos hh]
    have ht : (Lib.itoa n ++ rest).tail = Lib.decDigits n.natAbs ++ rest := by rw [e]; rfl
    rw [ht, key n.natAbs (by omega), if_neg (dec_ne _), dec_val]
    simp only [List.drop_left]
    rw [show -(n.natAbs : Int) = n from by omega]

open Classical in
noncomputable def stpU (l : Int) (t : Tr) (_ : Unit) : Option Unit := if ∃ p q, wlk t p l = some q then some () else none
theorem stpU_yes {l : Int} {t : Tr} {p q : Int} (h : wlk t p l = some q) : stpU l t () = some () := by unfold stpU; rw [if_pos ⟨p, q, h⟩]
theorem stpU_some {l : Int} {t : Tr} {st st' : Unit} (h : stpU l t st = some st') : ∃ p q, wlk t p l = some q := by
  unfold stpU at h
  split at h
  · assumption
  · cases h
theorem foldK_stpU {l : Int} {ks : List Tr} {p q : Int} (h : wlkK ks p l = some q) : foldK (stpU l) ks () = some () := by
  induction ks generalizing p with
  | nil => rfl
  | cons t r ih =>
    rw [wlkK] at h
    cases hw : wlk t p l with
    | none => rw [hw] at h; cases h
    | some q1 =>
      rw [hw] at h
      rw [foldK, stpU_yes hw]
      exact ih h

theorem spT_complete : ∀ (d : Nat) (t : Tr) (p q : Int) (rest : List UInt8), wlk t p (6 - d) = some q → nd rest → spT d (txT t ++ rest) () = some (t, rest, ()) := by
  intro d
  induction d with
  | zero =>
    intro t p q rest h _
    have := (wlk_open h).2.1
    simp at this
  | succ d ih =>
    intro t p q rest h hr
    obtain ⟨h1, h2, ho, hn, hk⟩ := wlk_open h
    have hl : (6 : Int) - ((d + 1 : Nat) : Int) + 1 = 6 - d := by omega
    rw [hl] at hk
    rw [spT]
    rcases shapes ho hn with ⟨n, rfl, hn1, hn2⟩ | ⟨x, rfl, hx⟩ | ⟨n, rfl, hn1⟩ | ⟨ks, rfl, hks⟩ | ⟨ns, ks, rfl, hnl, hrs⟩ | ⟨ks, rfl, hks⟩
    · obtain ⟨c, r, e, hc⟩ := itoa_head n
      have htx : txT (.mk 1 n ByteArray.empty [] []) = Lib.itoa n := by rw [txT]; simp
      have hhd : (Lib.itoa n ++ rest).head? = some c := by rw [e]; rfl
      have hne : ∀ x : UInt8, isDg x = false → x ≠ 45 → (Lib.itoa n ++ rest).head? ≠ some x := fun x hx1 hx2 => by
        rw [hhd]
        intro h
        simp only [Option.some.injEq] at h
        subst h
        rcases hc with hc | hc
        · rw [hx1] at hc; cases hc
        · exact hx2 hc
      rw [htx, if_neg (hne 34 (by decide) (by decide)), if_neg (hne 121 (by decide) (by decide)), if_neg (hne 110 (by decide) (by decide)), if_neg (hne 126 (by decide) (by decide)), if_neg (hne 63 (by decide) (by decide)), if_neg (hne 91 (by decide) (by decide)), if_neg (hne 123 (by decide) (by decide)), sp_num n hn1 hn2 rest hr]
    · have htx : txT (.mk 2 0 x [] []) ++ rest = 34 :: (x.data.toList ++ 34 :: rest) := by rw [txT]; simp
      have hrun : ((34 :: (x.data.toList ++ 34 :: rest)).tail).takeWhile (· != 34) = x.data.toList ∧ ((34 :: (x.data.toList ++ 34 :: rest)).tail).dropWhile (· != 34) = 34 :: rest := text_run hx rest
      rw [htx, if_pos (by rfl), if_pos (by rw [hrun.2]; rfl), hrun.1, hrun.2]
      rfl
    · rcases hn1 with rfl | rfl
      · have htx : txT (.mk 3 0 ByteArray.empty [] []) ++ rest = 110 :: 111 :: rest := by rw [txT]; simp
        rw [htx, if_neg (by simp), if_neg (by simp), if_pos (by rfl), if_pos (by simp)]
        rfl
      · have htx : txT (.mk 3 1 ByteArray.empty [] []) ++ rest = 121 :: 101 :: 115 :: rest := by rw [txT]; simp
        rw [htx, if_neg (by simp), if_pos (by rfl), if_pos (by simp)]
        rfl
    · simp only [Tr.kids] at hk
      have htx : txT (.mk 4 0 ByteArray.empty [] ks) ++ rest = 91 :: (txK false [] 0 ks ++ 93 :: rest) := by rw [txT]; simp
      have hlp := lp_complete (spT d) false 93 (Or.inl rfl) [] (fun h => by cases h) (stpU (6 - d)) (fun t _ _ rest h hr => by obtain ⟨p, q, h⟩ := stpU_some h; exact ih t p q rest h hr) (fun t _ _ h => by obtain ⟨p, q, h⟩ := stpU_some h; exact txT_head h) ks ((txT (.mk 4 0 ByteArray.empty [] ks) ++ rest).length + 1) [] () () rest (by rw [htx]; have := txK_len_ge false [] ks 0 (fun t ht => wlkK_head hk ht); simp; omega) (foldK_stpU hk) (fun h => by cases h)
      rw [htx] at hlp ⊢
      rw [if_neg (by simp), if_neg (by simp), if_neg (by simp), if_neg (by simp), if_neg (by simp), if_pos (by rfl)]
      simp only [List.length_nil, Bool.false_eq_true, if_false] at hlp
      rw [List.tail_cons, hlp]
      simp only [List.nil_append]
    · simp only [Tr.kids] at hk
      have htx : txT (.mk 5 0 ByteArray.empty ns ks) ++ rest = 123 :: (txK true ns 0 ks ++ 125 :: rest) := by rw [txT]; simp
      have hlp := lp_complete (spT d) true 125 (Or.inr rfl) ns (fun _ => hrs) (stpU (6 - d)) (fun t _ _ rest h hr => by obtain ⟨p, q, h⟩ := stpU_some h; exact ih t p q rest h hr) (fun t _ _ h => by obtain ⟨p, q, h⟩ := stpU_some h; exact txT_head h) ks ((txT (.mk 5 0 ByteArray.empty ns ks) ++ rest).length + 1) [] () () rest (by rw [htx]; have := txK_len_ge true ns ks 0 (fun t ht => wlkK_head hk ht); simp; omega) (foldK_stpU hk) (fun _ => by simp [hnl])
      rw [htx] at hlp ⊢
      rw [if_neg (by simp), if_neg (by simp), if_neg (by simp), if_neg (by simp), if_neg (by simp), if_neg (by simp), if_pos (by rfl)]
      simp only [List.length_nil, if_true, List.take_zero] at hlp
      rw [List.tail_cons, hlp]
      simp only [List.nil_append]
    · simp only [Tr.kids] at hk
      cases ks with
      | nil =>
        have htx : txT (.mk 6 0 ByteArray.empty [] []) ++ rest = 126 :: rest := by rw [txT]; simp
        rw [htx, if_neg (by simp), if_neg (by simp), if_neg (by simp), if_pos (by rfl)]
        rfl
      | cons t r =>
        have hr0 : r = [] := by simp at hks; exact hks
        subst hr0
        have htx : txT (.mk 6 0 ByteArray.empty [] [t]) ++ rest = 63 :: (txT t ++ rest) := by rw [txT]; simp [txM]
        rw [wlkK] at hk
        cases hw : wlk t (p + 1) (6 - d) with
        | none => rw [hw] at hk; cases hk
        | some q1 =>
          rw [htx, if_neg (by simp), if_neg (by simp), if_neg (by simp), if_neg (by simp), if_pos (by rfl), List.tail_cons, ih t (p + 1) q1 rest hw hr]

theorem cma_some {n : Nat} {inp i1 : List UInt8} (h : cma n inp = some i1) : inp = (if 0 < n then [44] else []) ++ i1 := by
  unfold cma at h
  split at h
  · rename_i h0
    simp only [Option.some.injEq] at h
    rw [if_neg (by omega), h]; rfl
  · rename_i h0
    split at h
    · rename_i h1
      simp only [Option.some.injEq] at h
      rw [if_pos (by omega)]
      cases inp with
      | nil => simp at h1
      | cons a b => simp at h1 h; subst h1 h; rfl
    · cases h

theorem head_tail {l : List UInt8} {c : UInt8} (h : l.head? = some c) : l = c :: l.tail := by
  cases l with
  | nil => simp at h
  | cons a b => simp at h; subst h; rfl

theorem nmr_some {form : Bool} {ns ns' : List ByteArray} {inp i2 : List UInt8} (h : nmr form ns inp = some (ns', i2)) :
    (form = true → ∃ nm : ByteArray, ns' = ns ++ [nm] ∧ inp = nm.data.toList ++ (58 :: i2)) ∧ (form = false → ns' = ns ∧ inp = i2) := by
  unfold nmr at h
  cases form with
  | false => simp at h; exact ⟨(fun h => by cases h), fun _ => ⟨h.1.symm, h.2⟩⟩
  | true =>
    simp only [if_true] at h
    split at h
    · rename_i h1
      simp only [Option.some.injEq, Prod.mk.injEq] at h
      refine ⟨fun _ => ⟨_, h.1.symm, ?_⟩, fun h => by cases h⟩
      show inp = (inp.takeWhile nameByte) ++ 58 :: i2
      rw [← h.2, ← head_tail h1, List.takeWhile_append_dropWhile]
    · cases h

theorem lp_sound {σ : Type} (rd : List UInt8 → σ → Option (Tr × List UInt8 × σ)) (form : Bool) (e : UInt8) (stp : Tr → σ → Option σ)
    (hrd : ∀ i st t r st', rd i st = some (t, r, st') → i = txT t ++ r ∧ stp t st = some st') :
    ∀ (f : Nat) (ns0 : List ByteArray) (ks0 : List Tr) (inp : List UInt8) (st : σ) (ns : List ByteArray) (ks : List Tr) (rest : List UInt8) (st' : σ), lp rd form e f ns0 ks0 inp st = some (ns, ks, rest, st') → (form = true → ns0.length = ks0.length) →
      ∃ nsn ksn, ns = ns0 ++ nsn ∧ ks = ks0 ++ ksn ∧ (form = true → nsn.length = ksn.length) ∧ (form = false → nsn = []) ∧ inp = txK form ns ks0.length ksn ++ e :: rest ∧ foldK stp ksn st = some st' := by
  intro f
  induction f with
  | zero => intro ns0 ks0 inp st ns ks rest st' h; rw [lp] at h; cases h
  | succ f ih =>
    intro ns0 ks0 inp st ns ks rest st' h hl
    rw [lp] at h
    split at h
    · rename_i h1
      simp only [Option.some.injEq, Prod.mk.injEq] at h
      obtain ⟨rfl, rfl, rfl, rfl⟩ := h
      exact ⟨[], [], by simp, by simp, fun _ => rfl, fun _ => rfl, by rw [txK]; exact head_tail h1, rfl⟩
    · split at h
      · cases h
      · rename_i i1 hc
        split at h
        · cases h
        · rename_i ns' i2 hn
          split at h
          · cases h
          · rename_i t i3 st1 hr
            obtain ⟨hi2, hst⟩ := hrd _ _ _ _ _ hr
            have hcm := cma_some hc
            obtain ⟨hnt, hnf⟩ := nmr_some hn
            obtain ⟨nsn, ksn, e1, e2, e3, e4, e5, e6⟩ := ih ns' (ks0 ++ [t]) i3 st1 ns ks rest st' h (fun hf => by
              obtain ⟨nm, hnm, _⟩ := hnt hf
              rw [hnm]; simp [hl hf])
            have hlen : (ks0 ++ [t]).length = ks0.length + 1 := by simp
            rw [hlen] at e5
            cases form with
            | false =>
              obtain ⟨rfl, hi1⟩ := hnf rfl
              refine ⟨nsn, t :: ksn, e1, by rw [e2]; simp, (fun h => by cases h), e4, ?_, ?_⟩
              · rw [txK, ahead, hcm, hi1, hi2, e5]; simp
              · rw [foldK, hst]; exact e6
            | true =>
              obtain ⟨nm, rfl, hi1⟩ := hnt rfl
              refine ⟨nm :: nsn, t :: ksn, by rw [e1]; simp, by rw [e2]; simp, (fun h => by simp [e3 h]), (fun h => by cases h), ?_, ?_⟩
              · have hg : ns.getD ks0.length ByteArray.empty = nm := by
                  rw [e1, ← hl rfl]; simp
                rw [txK, ahead, hg, hcm, hi1, hi2, e5]; simp
              · rw [foldK, hst]; exact e6

theorem num_join (inp : List UInt8) : (numRun inp).1 ++ (numRun inp).2 = inp := by
  unfold numRun
  split
  · rename_i h
    simp only [List.cons_append, List.takeWhile_append_dropWhile]
    exact (head_tail h).symm
  · simp only [List.takeWhile_append_dropWhile]

theorem rdT_sound : ∀ (d : Nat) (inp : List UInt8) (p : Int) (t : Tr) (rest : List UInt8) (q : Int), d ≤ 6 → rdT d inp p = some (t, rest, q) → inp = txT t ++ rest ∧ wlk t p (6 - d) = some q := by
  intro d
  induction d with
  | zero => intro inp p t rest q _ h; rw [rdT] at h; cases h
  | succ d ih =>
    intro inp p t rest q hd h
    have hl : (6 : Int) - ((d + 1 : Nat) : Int) + 1 = 6 - d := by omega
    have hl2 : (6 : Int) - ((d + 1 : Nat) : Int) + 1 ≤ 6 := by omega
    have hmk : ∀ {t : Tr} {q : Int}, p + 1 ≤ 120 → ownB t = true → newB t = true → wlkK t.kids (p + 1) (6 - d) = some q → wlk t p (6 - ((d + 1 : Nat) : Int)) = some q := fun h1 ho hn hk => wlk_make h1 hl2 ho hn (by rw [hl]; exact hk)
    have hlps := fun (form : Bool) (e : UInt8) => lp_sound (rdT d) form e (fun t p => wlk t p (6 - d)) (fun i st t r st' h => ih i st t r st' (by omega) h)
    rw [rdT] at h
    split at h
    · cases h
    rename_i hp
    have hp1 : p + 1 ≤ 120 := by omega
    split at h
    · cases h
    rename_i c hhd
    have hht := head_tail hhd
    split at h
    · split at h
      · cases h
      · rename_i n hnum
        simp only [Option.some.injEq, Prod.mk.injEq] at h
        obtain ⟨rfl, rfl, rfl⟩ := h
        obtain ⟨n0, n1, hit⟩ := numOf_some hnum
        refine ⟨?_, hmk hp1 (by simp [ownB, Tr.sort, Tr.text, Tr.names, Tr.kids, ByteArray.toList_empty]) (by simp [newB, Tr.sort, Tr.num, n0, n1]) (by simp [Tr.kids, wlkK])⟩
        rw [txT]
        simp only [if_true]
        rw [hit, num_join]
    split at h
    · rename_i hc
      subst hc
      split at h
      · rename_i h1
        simp only [Option.some.injEq, Prod.mk.injEq] at h
        obtain ⟨rfl, rfl, rfl⟩ := h
        refine ⟨?_, hmk hp1 (by simp [ownB, Tr.sort, Tr.num, Tr.names, Tr.kids]) (by simp [newB, Tr.sort, Tr.text, h1.2]) (by simp [Tr.kids, wlkK])⟩
        rw [txT]
        simp only [Int.reduceEq, if_false, if_true, List.cons_append, List.nil_append, List.append_assoc]
        rw [← head_tail h1.1, List.takeWhile_append_dropWhile]
        exact hht
      · cases h
    split at h
    · split at h
      · rename_i h1
        simp only [Option.some.injEq, Prod.mk.injEq] at h
        obtain ⟨rfl, rfl, rfl⟩ := h
        refine ⟨?_, hmk hp1 (by simp [ownB, Tr.sort, Tr.text, Tr.names, Tr.kids, ByteArray.toList_empty]) (by simp [newB, Tr.sort, Tr.num]) (by simp [Tr.kids, wlkK])⟩
        rw [List.isPrefixOf_iff_prefix] at h1
        obtain ⟨r, hr⟩ := h1
        rw [txT, ← hr]
        simp
      · split at h
        · rename_i h1
          simp only [Option.some.injEq, Prod.mk.injEq] at h
          obtain ⟨rfl, rfl, rfl⟩ := h
          refine ⟨?_, hmk hp1 (by simp [ownB, Tr.sort, Tr.text, Tr.names, Tr.kids, ByteArray.toList_empty]) (by simp [newB, Tr.sort, Tr.num]) (by simp [Tr.kids, wlkK])⟩
          rw [List.isPrefixOf_iff_prefix] at h1
          obtain ⟨r, hr⟩ := h1
          rw [txT, ← hr]
          simp
        · cases h
    split at h
    · rename_i hc
      subst hc
      split at h
      · cases h
      · rename_i ns ks rst q1 hlp
        split at h
        · rename_i h20
          simp only [Option.some.injEq, Prod.mk.injEq] at h
          obtain ⟨rfl, rfl, rfl⟩ := h
          obtain ⟨nsn, ksn, e1, e2, e3, e4, e5, e6⟩ := hlps false 93 _ _ _ _ _ _ _ _ _ hlp (fun h => by cases h)
          rw [foldK_wlk] at e6
          simp only [List.nil_append] at e1 e2
          subst e1 e2
          have e4' := e4 rfl
          subst e4'
          refine ⟨?_, hmk hp1 (by simp [ownB, Tr.sort, Tr.num, Tr.text, Tr.names, ByteArray.toList_empty]) (by simp [newB, Tr.sort, Tr.kids, h20]) e6⟩
          rw [hht, e5, txT]
          simp
        · cases h
    split at h
    · rename_i hc
      subst hc
      split at h
      · cases h
      · rename_i ns ks rst q1 hlp
        split at h
        · rename_i h20
          simp only [Option.some.injEq, Prod.mk.injEq] at h
          obtain ⟨rfl, rfl, rfl⟩ := h
          obtain ⟨nsn, ksn, e1, e2, e3, e4, e5, e6⟩ := hlps true 125 _ _ _ _ _ _ _ _ _ hlp (fun _ => rfl)
          rw [foldK_wlk] at e6
          simp only [List.nil_append] at e1 e2
          subst e1 e2
          refine ⟨?_, hmk hp1 (by simp [ownB, Tr.sort, Tr.num, Tr.text, ByteArray.toList_empty]) (by simp [newB, Tr.sort, Tr.names, Tr.kids, h20, e3 rfl]) e6⟩
          rw [hht, e5, txT]
          simp
        · cases h
    split at h
    · rename_i hc
      subst hc
      simp only [Option.some.injEq, Prod.mk.injEq] at h
      obtain ⟨rfl, rfl, rfl⟩ := h
      refine ⟨?_, hmk hp1 (by simp [ownB, Tr.sort, Tr.num, Tr.text, Tr.names, ByteArray.toList_empty]) (by simp [newB, Tr.sort, Tr.kids]) (by simp [Tr.kids, wlkK])⟩
      rw [txT]
      simpa using hht
    split at h
    · rename_i hc
      subst hc
      split at h
      · cases h
      · rename_i t1 rst q1 hrec
        simp only [Option.some.injEq, Prod.mk.injEq] at h
        obtain ⟨rfl, rfl, rfl⟩ := h
        obtain ⟨g1, g2⟩ := ih _ _ _ _ _ (by omega) hrec
        refine ⟨?_, hmk hp1 (by simp [ownB, Tr.sort, Tr.num, Tr.text, Tr.names, ByteArray.toList_empty]) (by simp [newB, Tr.sort, Tr.kids]) (by simp [Tr.kids, wlkK, g2])⟩
        rw [hht, g1, txT]
        simp [txM]
    · cases h

/-- The whole text, as the program reads it. -/
noncomputable def progRd (L : List UInt8) : Option Tr := match rdT 6 L 0 with
  | some (t, [], _) => some t
  | _ => none
/-- The whole text, as the specification reads it. -/
noncomputable def specRd (L : List UInt8) : Option Tr := match spT 6 L () with
  | some (t, [], _) => if 0 < pT t 1 ∧ txT t = L then some t else none
  | _ => none

theorem wlk_ok {t : Tr} {q : Int} : wlk t 0 0 = some q ↔ (0 < pT t 1 ∧ pT t 1 = q) := by
  rw [wlk_start]
  have hbd := pT_bd t 1
  constructor
  · intro h
    split at h
    · cases h
    · simp only [Option.some.injEq] at h; omega
  · rintro ⟨h1, h2⟩
    rw [if_neg (by omega), h2]

theorem okT_of_wlk : ∀ (t : Tr) (p l q : Int), wlk t p l = some q → okT t = true := by
  have key : ∀ (n : Nat) (t : Tr), tsz t < n → ∀ (p l q : Int), wlk t p l = some q → okT t = true := by
    intro n
    induction n with
    | zero => intro t h; omega
    | succ n ih =>
      intro t hn p l q h
      obtain ⟨_, _, ho, hnw, hk⟩ := wlk_open h
      rw [okT_eq, alone_eq, ho, hnw]
      simp only [Bool.and_self, Bool.true_and]
      have hks : ∀ (ks : List Tr), (∀ k, k ∈ ks → tsz k < n) → ∀ p q, wlkK ks p (l + 1) = some q → okK ks = true := by
        intro ks
        induction ks with
        | nil => intro _ _ _ _; rfl
        | cons a r ihk =>
          intro hm p q hw
          rw [wlkK] at hw
          cases hwa : wlk a p (l + 1) with
          | none => rw [hwa] at hw; cases hw
          | some q1 =>
            rw [hwa] at hw
            rw [okK, ih a (hm a (by simp)) p (l + 1) q1 hwa, ihk (fun k hk => hm k (by simp [hk])) q1 q hw]
            rfl
      exact hks t.kids (fun k hk => by have := tsz_kid hk; omega) _ _ hk
  intro t p l q h
  exact key (tsz t + 1) t (by omega) p l q h

theorem nd_nil : nd [] := fun c hc => by simp at hc

/-- Both read the same. -/
theorem same_read (L : List UInt8) : progRd L = specRd L := by
  have hp : ∀ t, progRd L = some t → (∃ q, wlk t 0 0 = some q) ∧ L = txT t := fun t h => by
    unfold progRd at h
    split at h
    · rename_i t' q hr
      simp only [Option.some.injEq] at h
      subst h
      obtain ⟨h1, h2⟩ := rdT_sound 6 _ _ _ _ _ (by omega) hr
      rw [List.append_nil] at h1
      exact ⟨⟨q, by simpa using h2⟩, h1⟩
    · cases h
  have hs : ∀ t, specRd L = some t → (∃ q, wlk t 0 0 = some q) ∧ L = txT t := fun t h => by
    unfold specRd at h
    split at h
    · split at h
      · rename_i hx
        simp only [Option.some.injEq] at h
        subst h
        exact ⟨⟨_, wlk_ok.2 ⟨hx.1, rfl⟩⟩, hx.2.symm⟩
      · cases h
    · cases h
  have hp2 : ∀ t q, wlk t 0 0 = some q → L = txT t → progRd L = some t := fun t q h hL => by
    have := rdT_complete 6 t 0 q [] (by simpa using h) nd_nil
    rw [List.append_nil, ← hL] at this
    unfold progRd
    rw [this]
  have hs2 : ∀ t q, wlk t 0 0 = some q → L = txT t → specRd L = some t := fun t q h hL => by
    have := spT_complete 6 t 0 q [] (by simpa using h) nd_nil
    rw [List.append_nil, ← hL] at this
    unfold specRd
    rw [this]
    simp only
    rw [if_pos ⟨(wlk_ok.1 h).1, hL.symm⟩]
  cases h1 : progRd L with
  | some t => obtain ⟨⟨q, hq⟩, hL⟩ := hp t h1; exact (hs2 t q hq hL).symm
  | none =>
    cases h2 : specRd L with
    | none => rfl
    | some t => obtain ⟨⟨q, hq⟩, hL⟩ := hs t h2; rw [hp2 t q hq hL] at h1; cases h1

theorem lp_len {σ : Type} (rd : List UInt8 → σ → Option (Tr × List UInt8 × σ)) (form : Bool) (e : UInt8) (hrd : ∀ i st t r st', rd i st = some (t, r, st') → r.length < i.length) :
    ∀ (f : Nat) (ns0 : List ByteArray) (ks0 : List Tr) (inp : List UInt8) (st : σ) (x : List ByteArray × List Tr × List UInt8 × σ), lp rd form e f ns0 ks0 inp st = some x → x.2.2.1.length < inp.length := by
  intro f
  induction f with
  | zero => intro ns0 ks0 inp st x h; rw [lp] at h; cases h
  | succ f ih =>
    intro ns0 ks0 inp st x h
    rw [lp] at h
    split at h
    · rename_i h1
      simp only [Option.some.injEq] at h
      subst h
      have := congrArg List.length (head_tail h1)
      simp only [List.length_cons] at this
      simp only
      omega
    · split at h
      · cases h
      · rename_i i1 hc
        split at h
        · cases h
        · rename_i ns' i2 hn
          split at h
          · cases h
          · rename_i t i3 st1 hr
            have h1 := hrd _ _ _ _ _ hr
            have h2 := congrArg List.length (cma_some hc)
            have h3 : i2.length ≤ i1.length := by
              obtain ⟨hnt, hnf⟩ := nmr_some hn
              cases form with
              | false => rw [(hnf rfl).2]; exact Nat.le_refl _
              | true => obtain ⟨nm, _, e⟩ := hnt rfl; rw [e]; simp; omega
            rw [List.length_append] at h2
            have := ih _ _ _ _ _ h
            omega

theorem spNum_len {inp : List UInt8} {n : Int} {rest : List UInt8} (h : spNum inp = some (n, rest)) : rest.length < inp.length := by
  unfold spNum at h
  simp only at h
  have ht : (if inp.head? = some 45 then inp.tail else inp).length ≤ inp.length := by split <;> simp
  generalize (if inp.head? = some 45 then inp.tail else inp) = r at h ht
  by_cases hne : (r.take 10).takeWhile isDg = []
  · rw [if_pos hne] at h; cases h
  · rw [if_neg hne] at h
    simp only [Option.some.injEq, Prod.mk.injEq] at h
    rw [← h.2]
    have hpos := List.length_pos_iff.2 hne
    have h1 := (List.takeWhile_prefix (p := isDg) (l := r.take 10)).length_le
    rw [List.length_take] at h1
    rw [List.length_drop]
    omega

theorem tail_lt {l : List UInt8} {c : UInt8} (h : l.head? = some c) : l.tail.length < l.length := by
  have := congrArg List.length (head_tail h)
  simp only [List.length_cons] at this
  omega
theorem dw_le (p : UInt8 → Bool) (l : List UInt8) : (l.dropWhile p).length ≤ l.length := (List.dropWhile_suffix p).length_le

/-- What the specification reads is not nothing. -/
theorem spT_len : ∀ (d : Nat) (inp : List UInt8) (st : Unit) (t : Tr) (rest : List UInt8) (st' : Unit), spT d inp st = some (t, rest, st') → rest.length < inp.length := by
  intro d
  induction d with
  | zero => intro inp st t rest st' h; rw [spT] at h; cases h
  | succ d ih =>
    intro inp st t rest st' h
    rw [spT] at h
    split at h
    · rename_i h1
      split at h
      · rename_i h2
        simp only [Option.some.injEq, Prod.mk.injEq] at h
        rw [← h.2.1]
        have := tail_lt h1
        have := tail_lt h2
        have := dw_le (· != 34) inp.tail
        omega
      · cases h
    split at h
    · split at h
      · rename_i h2
        simp only [Option.some.injEq, Prod.mk.injEq] at h
        rw [← h.2.1]
        rw [List.isPrefixOf_iff_prefix] at h2
        have := h2.length_le
        simp at this
        simp; omega
      · cases h
    split at h
    · split at h
      · rename_i h2
        simp only [Option.some.injEq, Prod.mk.injEq] at h
        rw [← h.2.1]
        rw [List.isPrefixOf_iff_prefix] at h2
        have := h2.length_le
        simp at this
        simp; omega
      · cases h
    split at h
    · rename_i h1
      simp only [Option.some.injEq, Prod.mk.injEq] at h
      rw [← h.2.1]
      exact tail_lt h1
    split at h
    · rename_i h1
      split at h
      · cases h
      · rename_i t1 r1 u1 hr
        simp only [Option.some.injEq, Prod.mk.injEq] at h
        rw [← h.2.1]
        have := ih _ _ _ _ _ hr
        have := tail_lt h1
        omega
    split at h
    · rename_i h1
      split at h
      · cases h
      · rename_i ns ks r1 u1 hr
        simp only [Option.some.injEq, Prod.mk.injEq] at h
        rw [← h.2.1]
        have := lp_len _ _ _ ih _ _ _ _ _ _ hr
        have := tail_lt h1
        simp only at *
        omega
    split at h
    · rename_i h1
      split at h
      · cases h
      · rename_i ns ks r1 u1 hr
        simp only [Option.some.injEq, Prod.mk.injEq] at h
        rw [← h.2.1]
        have := lp_len _ _ _ ih _ _ _ _ _ _ hr
        have := tail_lt h1
        simp only at *
        omega
    · split at h
      · cases h
      · rename_i n r1 hr
        simp only [Option.some.injEq, Prod.mk.injEq] at h
        rw [← h.2.1]
        exact spNum_len hr

/-- What the program reads is not nothing. -/
theorem rdT_len (d : Nat) (hd : d ≤ 6) (inp : List UInt8) (p : Int) (t : Tr) (rest : List UInt8) (q : Int) (h : rdT d inp p = some (t, rest, q)) : rest.length < inp.length := by
  obtain ⟨h1, h2⟩ := rdT_sound d inp p t rest q hd h
  obtain ⟨c, r, e, _⟩ := txT_head h2
  rw [h1, e]
  simp
  omega

end Go.Proofs.YtgamonfmgngilaaGreatDoor

/- The walk of the program's reader of numbers: what it answers, or that it raises a fault. The tables of strconv are as the program's text lays them; for texts of at most 2^20 bytes. -/

namespace Go.Proofs.YtgamonfmgngilaaGreatDoor
open Go Go.RowKit

/-- The first block behind the variables that are read. -/
def gTop : Nat := max (max 1 2) 3 + 1
theorem gTop_syn : 1 < gTop := by decide
theorem gTop_rng : 2 < gTop := by decide
theorem gTop_pow : 3 < gTop := by decide
theorem gPow : Tryz.prog.globalNamed "internal/strconv.uint64pow10" = some 3 := by kernel_rfl

/-- What strconv reads: its table of powers, and its two errors, whatever they are. -/
structure Env (w : World) : Prop where
  pow : Lib.TabIs Tryz.prog w "internal/strconv.uint64pow10" .u64 Lib.pow10Tab
  syn : ∃ ev, w.cell? ⟨1, 0, none⟩ = some ev ∧ (ev = .nilIface ∨ ∃ te pe, ev = .iface te pe)
  rng : ∃ ev, w.cell? ⟨2, 0, none⟩ = some ev ∧ (ev = .nilIface ∨ ∃ te pe, ev = .iface te pe)
theorem Env.keep {w w' : World} (h : Env w) (hb : ∀ b, b < gTop → w'.heap[b]? = w.heap[b]?) : Env w' := by
  refine ⟨?_, ?_, ?_⟩
  · have hp := h.pow
    unfold Lib.TabIs World.var? at hp ⊢
    rw [gPow] at hp ⊢
    simp only [Option.bind_some] at hp ⊢
    rw [hb _ gTop_pow]
    exact hp
  · obtain ⟨ev, h1, h2⟩ := h.syn
    exact ⟨ev, by rw [World.cell?_of_block (w := w) (hb _ gTop_syn)]; exact h1, h2⟩
  · obtain ⟨ev, h1, h2⟩ := h.rng
    exact ⟨ev, by rw [World.cell?_of_block (w := w) (hb _ gTop_rng)]; exact h1, h2⟩
theorem Env.top {w : World} (h : Env w) : gTop ≤ w.heap.size := by
  obtain ⟨e1, h1, -⟩ := h.syn
  obtain ⟨e2, h2, -⟩ := h.rng
  have h3 : 3 < w.heap.size := by
    have hp := h.pow
    unfold Lib.TabIs World.var? at hp
    rw [gPow] at hp
    simp only [Option.bind_some] at hp
    rcases Nat.lt_or_ge 3 w.heap.size with h' | h'
    · exact h'
    · rw [Array.getElem?_eq_none h'] at hp; cases hp
  have h1 := World.block_lt_of_cell? w _ h1
  have h2 := World.block_lt_of_cell? w _ h2
  exact Nat.succ_le_of_lt (Nat.max_lt.2 ⟨Nat.max_lt.2 ⟨h1, h2⟩, h3⟩)
theorem Env.below {w w' : World} (h : Env w) (hb : Below w.heap.size w w') : Env w' := h.keep fun b hl => hb.block b (Nat.lt_of_lt_of_le hl h.top)
theorem Env.but {w w' : World} {R : Nat} (h : Env w) (hb : But R w w') (hR : gTop ≤ R) : Env w' := h.keep fun b hl => hb.at (Nat.lt_of_lt_of_le hl h.top) (by omega)
theorem Env.drewN {w : World} (h : Env w) (n : Nat) : Env (w.drewN n) := h.keep fun _ _ => rfl

theorem atoi_any (W : ByteArray) (hl : W.size ≤ 1048576) (w : World) (hE : Env w) :
    Calls Tryz.prog 108 #[.string W] w fun e w' => Below w.heap.size w w' ∧ ((∃ n, Lib.atoiAll W.data.toList = .ok n ∧ e = .returned (.tuple #[.int .i64 n, .nilIface])) ∨ ((∀ n, Lib.atoiAll W.data.toList ≠ .ok n) ∧ ∃ m N, e = .returned (.tuple #[.int .i64 m, .iface 149 (.pointer (some ⟨N, 0, none⟩))]))) := by
  cases h : Lib.atoiAll W.data.toList with
  | ok n =>
    refine (Tryz.strconv_Atoi_ok W (by omega) n h w).mono ?_
    rintro e w' ⟨rfl, hw⟩
    refine ⟨?_, Or.inl ⟨n, rfl, rfl⟩⟩
    rcases hw with rfl | ⟨t, rfl⟩
    · exact Below.refl _ _
    · exact Lib.bytesWorld_below _ _ _
  | «syntax» =>
    obtain ⟨ev, h1, h2⟩ := hE.syn
    refine (Tryz.strconv_Atoi_syntax W (by omega) h ev w h1 h2).mono ?_
    rintro e w' ⟨N, rfl, -, -, hb⟩
    refine ⟨hb, Or.inr ⟨fun n h => ?_, _, _, rfl⟩⟩
    cases h
  | range =>
    obtain ⟨ev, h1, h2⟩ := hE.rng
    refine (Tryz.strconv_Atoi_range W (by omega) h ev w h1 h2).mono ?_
    rintro e w' ⟨N, rfl, -, -, hb⟩
    refine ⟨hb, Or.inr ⟨fun n h => ?_, _, _, rfl⟩⟩
    cases h

theorem below_grow (w : World) (k : Nat) (os : Array Obj) : Below w.heap.size w (Go.Sort.grow (w.drewN k) os) := by
  refine ⟨rfl, rfl, rfl, ?_, fun i hi => ?_⟩
  · show w.heap.size ≤ (w.heap ++ os).size
    simp
  · show (w.heap ++ os)[i]? = w.heap[i]?
    rw [Array.getElem?_append_left hi]

theorem itoa_walk (n : Int) (h0 : -9223372036854775808 ≤ n) (h1 : n ≤ 9223372036854775807) (w : World) (hE : Env w) :
    Calls Tryz.prog 109 #[.int .i64 n] w fun e w' => e = .returned (.string ⟨(Lib.itoa n).toArray⟩) ∧ Below w.heap.size w w' := by
  refine (Tryz.strconv_Itoa n h0 h1 w hE.pow).mono ?_
  rintro e w' ⟨rfl, k, os, rfl⟩
  exact ⟨rfl, below_grow _ _ _⟩

/-- But for one cell of a block nothing that was there has turned. -/
structure Mg (R o : Nat) (w w' : World) : Prop where
  but : But R w w'
  cell : ∀ j, j ≠ o → w'.cell? ⟨R, j, none⟩ = w.cell? ⟨R, j, none⟩
  frz : ∀ j, w'.frozen? ⟨R, j, none⟩ = w.frozen? ⟨R, j, none⟩
theorem Mv.mg {R o : Nat} {w w' : World} (h : Mv R o w w') : Mg R o w w' := ⟨h.but, h.cell, h.frz⟩
theorem Mg.trans {R o : Nat} {a b c : World} (h : Mg R o a b) (k : Mg R o b c) : Mg R o a c := ⟨h.but.trans k.but, fun j hj => (k.cell j hj).trans (h.cell j hj), fun j => (k.frz j).trans (h.frz j)⟩
theorem Mg.below {R o : Nat} {w w' : World} (hb : Below w.heap.size w w') (hR : R < w.heap.size) : Mg R o w w' :=
  ⟨⟨hb.os, hb.tape, hb.output, hb.size, fun i hi _ => hb.block i hi⟩, fun j _ => World.cell?_of_block (a := ⟨R, j, none⟩) (hb.block R hR), fun j => World.frozen?_of_block (a := ⟨R, j, none⟩) (hb.block R hR)⟩
theorem Tx.lt {w : World} {R o : Nat} {s : ByteArray} {a : Nat} (h : Tx w R o s a) : R < w.heap.size := World.block_lt_of_cell? w _ h.c0

theorem xskip_any (w : World) (R o : Nat) (s : ByteArray) (a : Nat) (c : UInt8) (hs : s.size ≤ 1048576) (h : Tx w R o s a) (ha : a ≤ s.size) :
    Calls Tryz.prog 98 #[.pointer (some ⟨R, o, none⟩), .string (w1 c)] w fun e w' => e = .returned (.bool (decide ((lf s a).head? = some c))) ∧ Tx w' R o s (if (lf s a).head? = some c then a + 1 else a) ∧ Mv R (o + 1) w w' := by
  by_cases hh : (lf s a).head? = some c
  · rw [if_pos hh, decide_eq_true hh]
    exact xskip_yes w R o s (w1 c) a hs h ha (by show 0 < 1; decide) (by show 1 ≤ 16; decide) (by rw [pre_one]; exact decide_eq_true hh)
  · rw [if_neg hh, decide_eq_false hh]
    refine (xskip_no w R o s (w1 c) a h ha (by rw [pre_one]; exact decide_eq_false hh)).mono ?_
    rintro e w' ⟨rfl, m, rfl⟩
    exact ⟨rfl, h.drewN m, (Mv.refl _ _ _).drewN m⟩

theorem ext_take (s : ByteArray) (a n : Nat) : (s.extract a (a + n)).data.toList = (lf s a).take n := by
  unfold lf
  simp [List.take_drop]
theorem tw_take {p : UInt8 → Bool} (l : List UInt8) : l.take (l.takeWhile p).length = l.takeWhile p := (List.prefix_iff_eq_take.1 (List.takeWhile_prefix p)).symm

/-- Where a number ends. -/
def nAt (s : ByteArray) (a : Nat) : Nat := if (lf s a).head? = some 45 then a + 1 else a
theorem num_at {s : ByteArray} {a : Nat} (ha : a ≤ s.size) : a ≤ nAt s a ∧ nAt s a ≤ s.size ∧ (s.extract a (nAt s a + rn isDg s (nAt s a))).data.toList = (numRun (lf s a)).1 ∧ lf s (nAt s a + rn isDg s (nAt s a)) = (numRun (lf s a)).2 := by
  unfold nAt numRun
  by_cases hh : (lf s a).head? = some 45
  · rw [if_pos hh, if_pos hh]
    have hlt : a < s.size := by
      have := lf_len s a
      cases hl : lf s a with
      | nil => rw [hl] at hh; simp at hh
      | cons c r => rw [hl] at this; simp at this; omega
    refine ⟨by omega, by omega, ?_, ?_⟩
    · rw [show a + 1 + rn isDg s (a + 1) = a + (rn isDg s (a + 1) + 1) from by omega, ext_take]
      have e := head_tail hh
      rw [← lf_next] at e
      unfold rn
      rw [e, List.take_succ_cons, tw_take]
      simp
    · rw [rn_drop, lf_next]
  · rw [if_neg hh, if_neg hh]
    refine ⟨Nat.le_refl _, ha, ?_, rn_drop _ _ _⟩
    rw [ext_take]
    unfold rn
    rw [tw_take]

theorem str_beq (l : List UInt8) (W : ByteArray) : (l == W.toList) = decide (l = W.data.toList) := by
  rw [toList_data, Bool.eq_iff_iff]
  simp

set_option maxRecDepth 100000 in
set_option maxHeartbeats 1600000 in
theorem number_any (w : World) (R o : Nat) (s : ByteArray) (a : Nat) (hs : s.size ≤ 1048576) (h : Tx w R o s a) (ha : a ≤ s.size) (hE : Env w) (hR : gTop ≤ R) :
    Calls Tryz.prog 74 #[.pointer (some ⟨R, o, none⟩)] w fun e w' => Mg R (o + 1) w w' ∧ Tx w' R o s (nAt s a + rn isDg s (nAt s a)) ∧
      ((∃ n, Lib.atoiAll (numRun (lf s a)).1 = .ok n ∧ Lib.itoa n = (numRun (lf s a)).1 ∧ e = .returned (.int .i64 n)) ∨ ((∀ n, Lib.atoiAll (numRun (lf s a)).1 = .ok n → Lib.itoa n ≠ (numRun (lf s a)).1) ∧ e = fltE)) := by
  obtain ⟨h1, h2, h3, -⟩ := num_at (s := s) (a := a) ha
  have hsk := xskip_any w R o s a 45 hs h ha
  have hrl := rn_le isDg s (nAt s a) h2
  rw [show (if (lf s a).head? = some 45 then a + 1 else a) = nAt s a from rfl] at hsk
  rw [← h3]
  have hrn := fun W (hW : Tx W R o s (nAt s a)) => xrun_digit W R o s (nAt s a) hs hW h2
  obtain ⟨c0, c1, f1⟩ := h
  generalize nAt s a = a1 at *
  generalize hr : rn isDg s a1 = r at *
  generalize decide ((lf s a).head? = some 45) = b0 at *
  generalize hX : s.extract a (a1 + r) = X at *
  have hXs : X.size ≤ 1048576 := by
    rw [← hX, ByteArray.size_extract]; omega
  have HSK := hide hsk; have HRN := hide hrn; have HE := hide hE
  have hi0 : (0 : Int) ≤ (a : Int) := by omega
  have hi1 : (a : Int) ≤ (a1 : Int) + (r : Int) := by omega
  have hi2 : (a1 : Int) + (r : Int) ≤ (s.size : Int) := by omega
  have HX := hide hX
  clear hsk hrn hE hr hX h3
  go_enter Tryz.func74, Tryz.ntmps74
  go_wp2_with (first
    | (go_at_call 98; refine (unhide HSK).mono ?_; rintro e w2 ⟨rfl, hr2, hm2⟩; have HR2 := hide hr2; have HM2 := hide hm2; clear hr2 hm2)
    | (go_at_call 95; refine (unhide HRN _ (unhide HR2)).mono ?_; rintro e w3 ⟨rfl, hr3, hm3⟩; have HR3 := hide hr3; have HM3 := hide ((unhide HM2).trans hm3); clear hr3 hm3 HSK HRN HR2 HM2 c0 c1 f1; obtain ⟨c0, c1, f1⟩ := unhide HR3))
  go_quiet (fail)
  rw [unhide HX]
  have hlt := (unhide HR3).lt
  have hE3 := ((unhide HE).but (unhide HM3).mg.but hR).drewN nq
  have HAT := hide (atoi_any X hXs (w3.drewN nq) hE3)
  have HE3 := hide hE3
  clear hE3 HE c0 c1 f1
  go_wp2_with fail
  refine (unhide HAT).mono ?_
  rintro e w4 ⟨hb4, ⟨n, hn, rfl⟩ | ⟨hn, m, N, rfl⟩⟩
  · obtain ⟨hn0, hn1⟩ := Lib.atoiAll_bounds hn
    have hmg4 : Mg R (o + 1) w w4 := ((unhide HM3).drewN nq).mg.trans (Mg.below hb4 hlt)
    have htx4 : Tx w4 R o s (a1 + r) := ((unhide HR3).drewN nq).of_block (hb4.block R hlt)
    have HIT := hide (itoa_walk n hn0 hn1 w4 ((unhide HE3).below hb4))
    have HN := hide hn; have HG4 := hide hmg4; have HT4 := hide htx4
    have hlt4 := htx4.lt
    clear hn hmg4 htx4 hb4 HAT HE3 HR3 HM3
    by_cases hx : Lib.itoa n = X.data.toList
    · have hbe : (Lib.itoa n == X.toList) = true := by rw [str_beq]; exact decide_eq_true hx
      have HXX := hide hx
      clear hx
      go_wp2_with (first
        | (go_at_call 109; refine (unhide HIT).mono ?_; rintro e w5 ⟨rfl, hb5⟩; have HB5 := hide hb5; clear hb5)
        | (go_at_call 65; refine (treeWant_yes _).mono ?_; rintro e w6 ⟨rfl, rfl⟩))
      go_ret
      exact ⟨(unhide HG4).trans (Mg.below (unhide HB5) hlt4), (unhide HT4).of_block ((unhide HB5).block R hlt4), Or.inl ⟨n, unhide HN, unhide HXX, rfl⟩⟩
    · have hbe : (Lib.itoa n == X.toList) = false := by rw [str_beq]; exact decide_eq_false hx
      have HXX := hide hx
      clear hx
      go_wp2_with (first
        | (go_at_call 109; refine (unhide HIT).mono ?_; rintro e w5 ⟨rfl, hb5⟩; have HB5 := hide hb5; clear hb5)
        | (go_at_call 65; refine (treeWant_no _).mono ?_; rintro e w6 ⟨rfl, rfl⟩))
      refine ⟨rfl, (unhide HG4).trans (Mg.below (unhide HB5) hlt4), (unhide HT4).of_block ((unhide HB5).block R hlt4), Or.inr ⟨fun k hk => ?_, rfl⟩⟩
      have := (unhide HN).symm.trans hk
      cases this
      exact unhide HXX
  · have hmg4 : Mg R (o + 1) w w4 := ((unhide HM3).drewN nq).mg.trans (Mg.below hb4 hlt)
    have htx4 : Tx w4 R o s (a1 + r) := ((unhide HR3).drewN nq).of_block (hb4.block R hlt)
    have HN := hide hn; have HG4 := hide hmg4; have HT4 := hide htx4
    clear hn hmg4 htx4 hb4 HAT HE3 HR3 HM3
    go_wp2_with (go_at_call 65; refine (treeWant_no _).mono ?_; rintro e w6 ⟨rfl, rfl⟩)
    exact ⟨rfl, unhide HG4, unhide HT4, Or.inr ⟨fun k hk => absurd hk (unhide HN k), rfl⟩⟩
end Go.Proofs.YtgamonfmgngilaaGreatDoor
