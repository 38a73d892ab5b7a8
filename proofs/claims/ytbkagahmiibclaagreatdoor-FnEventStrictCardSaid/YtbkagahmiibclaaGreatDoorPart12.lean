/- A part. -/
import Derived.Test.YtbkagahmiibclaaGreatDoorPart11
namespace Go.Proofs.YtbkagahmiibclaaGreatDoor
set_option maxRecDepth 100000
set_option maxHeartbeats 1600000
open Go Go.RowKit
theorem toList_loop_len (s : ByteArray) (n : Nat) : ∀ (i : Nat) (r : List UInt8), s.size - i = n → (ByteArray.toList.loop s i r).length = r.length + n := by
 induction n with
 | zero => intro i r h; unfold ByteArray.toList.loop; rw [if_neg (by omega)]; simp
 | succ n ih =>
   intro i r h
   unfold ByteArray.toList.loop
   rw [if_pos (by omega), ih (i + 1) _ (by omega)]
   simp; omega
theorem empty_of_toList {s : ByteArray} (h : s.toList = []) : s = ByteArray.empty := by
 have := toList_loop_len s s.size 0 [] (by omega)
 have e : ByteArray.toList.loop s 0 [] = [] := h
 rw [e] at this
 simp at this
 apply ByteArray.ext
 have hs : s.data.size = 0 := this.symm
 exact Array.eq_empty_of_size_eq_zero hs
theorem mk_eta {t : Tr} {s n : Int} {x : ByteArray} {ns : List ByteArray} {ks : List Tr} (h1 : t.sort = s) (h2 : t.num = n) (h3 : t.text = x) (h4 : t.names = ns) (h5 : t.kids = ks) : t = .mk s n x ns ks := by
 obtain ⟨s', n', x', ns', ks'⟩ := t
 subst h1 h2 h3 h4 h5
 rfl
theorem shapes {t : Tr} (ho : ownB t = true) (hn : newB t = true) :
 (∃ n, t = .mk 1 n ByteArray.empty [] [] ∧ -999999999 ≤ n ∧ n ≤ 999999999) ∨
 (∃ x, t = .mk 2 0 x [] [] ∧ textOkB x = true) ∨
 (∃ n, t = .mk 3 n ByteArray.empty [] [] ∧ (n = 0 ∨ n = 1)) ∨
 (∃ ks, t = .mk 4 0 ByteArray.empty [] ks ∧ ks.length ≤ 20) ∨
 (∃ ns ks, t = .mk 5 0 ByteArray.empty ns ks ∧ ns.length = ks.length ∧ riseB ns = true) ∨
 (∃ ks, t = .mk 6 0 ByteArray.empty [] ks ∧ ks.length ≤ 1) := by
 unfold ownB at ho
 unfold newB at hn
 by_cases h1 : t.sort = 1
 · rw [if_pos h1] at ho hn
   simp only [Bool.and_eq_true, decide_eq_true_eq] at ho hn
   exact Or.inl ⟨t.num, mk_eta h1 rfl (empty_of_toList ho.1.1) ho.1.2 (List.eq_nil_of_length_eq_zero ho.2), hn.1, hn.2⟩
 rw [if_neg h1] at ho hn
 by_cases h2 : t.sort = 2
 · rw [if_pos h2] at ho hn
   simp only [Bool.and_eq_true, decide_eq_true_eq] at ho hn
   exact Or.inr (Or.inl ⟨t.text, mk_eta h2 ho.1.1 rfl ho.1.2 (List.eq_nil_of_length_eq_zero ho.2), hn⟩)
 rw [if_neg h2] at ho hn
 by_cases h3 : t.sort = 3
 · rw [if_pos h3] at ho hn
   simp only [Bool.and_eq_true, decide_eq_true_eq] at ho hn
   exact Or.inr (Or.inr (Or.inl ⟨t.num, mk_eta h3 rfl (empty_of_toList ho.1.1) ho.1.2 (List.eq_nil_of_length_eq_zero ho.2), by omega⟩))
 rw [if_neg h3] at ho hn
 by_cases h4 : t.sort = 4
 · rw [if_pos h4] at ho hn
   simp only [Bool.and_eq_true, decide_eq_true_eq] at ho hn
   exact Or.inr (Or.inr (Or.inr (Or.inl ⟨t.kids, mk_eta h4 ho.1.1 (empty_of_toList ho.1.2) ho.2 rfl, hn⟩)))
 rw [if_neg h4] at ho hn
 by_cases h5 : t.sort = 5
 · rw [if_pos h5] at ho hn
   simp only [Bool.and_eq_true, decide_eq_true_eq] at ho hn
   exact Or.inr (Or.inr (Or.inr (Or.inr (Or.inl ⟨t.names, t.kids, mk_eta h5 ho.1 (empty_of_toList ho.2) rfl rfl, hn.1, hn.2⟩))))
 rw [if_neg h5] at ho hn
 by_cases h6 : t.sort = 6
 · rw [if_pos h6] at ho hn
   simp only [Bool.and_eq_true, decide_eq_true_eq] at ho hn
   exact Or.inr (Or.inr (Or.inr (Or.inr (Or.inr ⟨t.kids, mk_eta h6 ho.1.1 (empty_of_toList ho.1.2) ho.2 rfl, hn⟩))))
 rw [if_neg h6] at ho
 cases ho
def hd9 (c : UInt8) : Prop := isDg c = true ∨ c = 45 ∨ c = 34 ∨ c = 121 ∨ c = 110 ∨ c = 91 ∨ c = 123 ∨ c = 126 ∨ c = 63
theorem itoa_head (n : Int) : ∃ c r, Lib.itoa n = c :: r ∧ (isDg c = true ∨ c = 45) := by
 rcases itoa_cases n with ⟨_, e⟩ | ⟨_, e⟩
 · obtain ⟨c, r, hcr⟩ : ∃ c r, Lib.decDigits n.toNat = c :: r := List.exists_cons_of_ne_nil (dec_ne _)
   exact ⟨c, r, by rw [e, hcr], Or.inl (dec_all n.toNat c (by rw [hcr]; simp))⟩
 · exact ⟨45, _, e, Or.inr rfl⟩
theorem txT_head {t : Tr} {p l q : Int} (h : wlk t p l = some q) : ∃ c r, txT t = c :: r ∧ hd9 c := by
 rw [wlk_eq] at h
 split at h
 · split at h
   · rename_i ho
     split at h
     · cases h
     · split at h
       · rename_i hn
         rcases shapes ho hn with ⟨n, rfl, _⟩ | ⟨x, rfl, _⟩ | ⟨n, rfl, _⟩ | ⟨ks, rfl, _⟩ | ⟨ns, ks, rfl, _⟩ | ⟨ks, rfl, _⟩
         · obtain ⟨c, r, e, hc⟩ := itoa_head n
           refine ⟨c, r, by rw [txT]; simp [e], ?_⟩
           rcases hc with h | h
           · exact Or.inl h
           · exact Or.inr (Or.inl h)
         · exact ⟨34, x.data.toList ++ [34], by simp [txT], by simp [hd9]⟩
         · by_cases e : n = 1
           · exact ⟨121, [101, 115], by simp [txT, e], by simp [hd9]⟩
           · exact ⟨110, [111], by simp [txT, e], by simp [hd9]⟩
         · exact ⟨91, txK false [] 0 ks ++ [93], by simp [txT], by simp [hd9]⟩
         · exact ⟨123, txK true ns 0 ks ++ [125], by simp [txT], by simp [hd9]⟩
         · by_cases e : ks.length = 0
           · exact ⟨126, [], by simp only [txT]; rw [if_pos e]; simp, by simp [hd9]⟩
           · exact ⟨63, txM ks, by simp only [txT]; rw [if_neg e]; simp, by simp [hd9]⟩
       · cases h
   · cases h
 · cases h
def foldK {σ : Type} (stp : Tr → σ → Option σ) : List Tr → σ → Option σ
 | [], st => some st
 | t :: r, st => match stp t st with
   | none => none
   | some st1 => foldK stp r st1
theorem foldK_wlk (l : Int) (ks : List Tr) (p : Int) : foldK (fun t p => wlk t p l) ks p = wlkK ks p l := by
 induction ks generalizing p with
 | nil => rw [foldK, wlkK]
 | cons t r ih =>
   rw [foldK, wlkK]
   cases wlk t p l with
   | none => rfl
   | some q => exact ih q
theorem nd_comma (r : List UInt8) : nd (44 :: r) := fun c hc => by simp at hc; subst hc; rfl
theorem nd_end {e : UInt8} (he : e = 93 ∨ e = 125) (r : List UInt8) : nd (e :: r) := fun c hc => by
 simp at hc; subst hc
 rcases he with rfl | rfl <;> rfl
theorem nameOk_bytes {s : ByteArray} (h : nameOkB s = true) : (∀ c, c ∈ s.data.toList → nameByte c = true) ∧ s.data.toList ≠ [] := by
 unfold nameOkB at h
 simp only [Bool.and_eq_true, decide_eq_true_eq] at h
 refine ⟨fun c hc => ?_, fun e => ?_⟩
 · have := h.2
   rw [List.all_eq_true] at this
   exact this c hc
 · have h1 := h.1.1.1
   have : s.data.toList.length = s.size := rfl
   rw [e] at this
   simp at this
   omega
theorem rise_name {ns : List ByteArray} (h : riseB ns = true) (i : Nat) (hi : i < ns.length) : nameOkB ns[i] = true := by
 unfold riseB at h
 rw [List.all_eq_true] at h
 have := h i (List.mem_range.2 hi)
 unfold good at this
 rw [getD_lt _ _ hi, Bool.and_eq_true] at this
 exact this.1
theorem colon_no : nameByte 58 = false := by decide
theorem lp_complete {σ : Type} (rd : List UInt8 → σ → Option (Tr × List UInt8 × σ)) (form : Bool) (e : UInt8) (he : e = 93 ∨ e = 125) (ns : List ByteArray) (hns : form = true → riseB ns = true)
 (stp : Tr → σ → Option σ) (hrd : ∀ t st st' rest, stp t st = some st' → nd rest → rd (txT t ++ rest) st = some (t, rest, st')) (hhd : ∀ t st st', stp t st = some st' → ∃ c r, txT t = c :: r ∧ hd9 c) :
 ∀ (ks : List Tr) (f : Nat) (ks0 : List Tr) (st st' : σ) (rest : List UInt8), ks.length < f → foldK stp ks st = some st' → (form = true → ks0.length + ks.length = ns.length) →
   lp rd form e f (if form = true then ns.take ks0.length else []) ks0 (txK form ns ks0.length ks ++ e :: rest) st = some (if form = true then ns else [], ks0 ++ ks, rest, st') := by
 intro ks
 induction ks with
 | nil =>
   intro f ks0 st st' rest hf hfold hl
   obtain ⟨f, rfl⟩ : ∃ f', f = f' + 1 := ⟨f - 1, by simp at hf; omega⟩
   rw [lp, txK]
   simp only [List.nil_append, List.head?_cons, if_true, List.tail_cons, List.append_nil]
   rw [foldK] at hfold
   simp only [Option.some.injEq] at hfold
   subst hfold
   cases form with
   | false => simp
   | true =>
     have := hl rfl
     simp only [List.length_nil, Nat.add_zero] at this
     rw [this]; simp
 | cons t r ih =>
   intro f ks0 st st' rest hf hfold hl
   obtain ⟨f, rfl⟩ : ∃ f', f = f' + 1 := ⟨f - 1, by simp at hf; omega⟩
   rw [foldK] at hfold
   cases hst : stp t st with
   | none => rw [hst] at hfold; cases hfold
   | some st1 =>
     rw [hst] at hfold
     simp only at hfold
     obtain ⟨c, r', htx, hc⟩ := hhd t st st1 hst
     -- the bytes behind the comma
     have hrest : nd (txK form ns (ks0.length + 1) r ++ e :: rest) := by
      cases r with
      | nil => rw [txK]; exact nd_end he rest
      | cons t2 r2 => rw [txK, ahead, if_pos (by omega)]; simp only [List.cons_append, List.append_assoc, List.nil_append]; exact nd_comma _
     have hih := ih f (ks0 ++ [t]) st1 st' rest (by simp at hf; omega) hfold (fun hfm => by have := hl hfm; simp at this ⊢; omega)
     have hlen : (ks0 ++ [t]).length = ks0.length + 1 := by simp
     rw [hlen] at hih
     have hrd1 := hrd t st st1 _ hst hrest
     -- behind the comma: the name
     have hname : nmr form (if form = true then ns.take ks0.length else []) ((if form = true then (ns.getD ks0.length ByteArray.empty).data.toList ++ [58] else []) ++ (txT t ++ (txK form ns (ks0.length + 1) r ++ e :: rest))) = some (if form = true then ns.take (ks0.length + 1) else [], txT t ++ (txK form ns (ks0.length + 1) r ++ e :: rest)) := by
      unfold nmr
      cases form with
      | false => simp
      | true =>
        have hlt : ks0.length < ns.length := by have := hl rfl; simp at this; omega
        have hnm := nameOk_bytes (rise_name (hns rfl) _ hlt)
        simp only [if_true]
        rw [getD_lt _ _ hlt]
        have htw := tw_append (p := nameByte) (l := ns[ks0.length].data.toList) (rest := [58] ++ (txT t ++ (txK true ns (ks0.length + 1) r ++ e :: rest))) hnm.1 (fun c hc => by simp at hc; subst hc; exact colon_no)
        rw [List.append_assoc, htw.1, htw.2]
        simp only [List.cons_append, List.nil_append, List.head?_cons, if_true, List.tail_cons]
        rw [List.take_succ_eq_append_getElem hlt]
     have hfirst : ∀ x _y : List UInt8, ((if form = true then (ns.getD ks0.length ByteArray.empty).data.toList ++ [58] else []) ++ (txT t ++ x)).head? ≠ some e := by
      intro x _
      cases form with
      | false =>
        simp only [Bool.false_eq_true, if_false, List.nil_append, htx, List.cons_append, List.head?_cons]
        intro h
        simp only [Option.some.injEq] at h
        subst h
        rcases he with rfl | rfl <;> (unfold hd9 at hc; revert hc; decide)
      | true =>
        have hlt : ks0.length < ns.length := by have := hl rfl; simp at this; omega
        have hnm := nameOk_bytes (rise_name (hns rfl) _ hlt)
        simp only [if_true]
        rw [getD_lt _ _ hlt]
        obtain ⟨a, b, hab⟩ := List.exists_cons_of_ne_nil hnm.2
        rw [hab]
        simp only [List.cons_append, List.head?_cons]
        intro h
        simp only [Option.some.injEq] at h
        have := hnm.1 a (by rw [hab]; simp)
        subst h
        rcases he with rfl | rfl <;> (revert this; decide)
     rw [lp, txK, ahead]
     generalize hB : (if form = true then (ns.getD ks0.length ByteArray.empty).data.toList ++ [58] else []) = B at *
     have hf1 := hfirst (txK form ns (ks0.length + 1) r ++ e :: rest) []
     have hgo : ∀ inp, inp = B ++ (txT t ++ (txK form ns (ks0.length + 1) r ++ e :: rest)) → (match nmr form (if form = true then ns.take ks0.length else []) inp with
      | none => none
      | some (ns', i2) => match rd i2 st with
        | none => none
        | some (t, i3, st') => lp rd form e f ns' (ks0 ++ [t]) i3 st') = some (if form = true then ns else [], ks0 ++ t :: r, rest, st') := by
      intro inp hinp
      rw [hinp, hname]
      simp only
      rw [hrd1]
      simp only
      rw [hih]
      simp
     by_cases h0 : ks0.length = 0
     · have e1 : ((if 0 < ks0.length then [44] else []) ++ B ++ txT t ++ txK form ns (ks0.length + 1) r ++ e :: rest) = B ++ (txT t ++ (txK form ns (ks0.length + 1) r ++ e :: rest)) := by
        rw [if_neg (by omega)]; simp only [List.nil_append, List.append_assoc]
       rw [e1, if_neg hf1, show cma ks0.length (B ++ (txT t ++ (txK form ns (ks0.length + 1) r ++ e :: rest))) = some (B ++ (txT t ++ (txK form ns (ks0.length + 1) r ++ e :: rest))) from by unfold cma; rw [if_pos h0]]
       exact hgo _ rfl
     · have e1 : ((if 0 < ks0.length then [44] else []) ++ B ++ txT t ++ txK form ns (ks0.length + 1) r ++ e :: rest) = 44 :: (B ++ (txT t ++ (txK form ns (ks0.length + 1) r ++ e :: rest))) := by
        rw [if_pos (by omega)]; simp only [List.cons_append, List.nil_append, List.append_assoc]
       rw [e1, if_neg (by simp only [List.head?_cons, Option.some.injEq]; rcases he with rfl | rfl <;> decide), show cma ks0.length (44 :: (B ++ (txT t ++ (txK form ns (ks0.length + 1) r ++ e :: rest)))) = some (B ++ (txT t ++ (txK form ns (ks0.length + 1) r ++ e :: rest))) from by unfold cma; rw [if_neg h0]; simp]
       exact hgo _ rfl
end Go.Proofs.YtbkagahmiibclaaGreatDoor

namespace Go.Proofs.YtbkagahmiibclaaGreatDoor
open Go Go.RowKit
theorem textOk_bytes {x : ByteArray} (h : textOkB x = true) : ∀ c, c ∈ x.data.toList → (c != 34) = true := by
 unfold textOkB at h
 simp only [Bool.and_eq_true, decide_eq_true_eq] at h
 intro c hc
 have := h.2
 rw [List.all_eq_true] at this
 have := this c hc
 unfold textByte at this
 simp only [Bool.and_eq_true] at this
 have h3 := this.2
 simp only [bne_iff_ne, ne_eq] at h3 ⊢
 intro e; subst e; exact h3 rfl
theorem text_run {x : ByteArray} (h : textOkB x = true) (rest : List UInt8) :
 (x.data.toList ++ 34 :: rest).takeWhile (· != 34) = x.data.toList ∧ (x.data.toList ++ 34 :: rest).dropWhile (· != 34) = 34 :: rest :=
 tw_append (textOk_bytes h) (fun c hc => by simp at hc; subst hc; rfl)
theorem num_run (n : Int) (rest : List UInt8) (hr : nd rest) : numRun (Lib.itoa n ++ rest) = (Lib.itoa n, rest) := by
 unfold numRun
 rcases itoa_cases n with ⟨_, e⟩ | ⟨_, e⟩
 · have h := tw_append (p := isDg) (dec_all n.toNat) hr
   rw [e, if_neg, h.1, h.2]
   obtain ⟨c, r, hcr⟩ : ∃ c r, Lib.decDigits n.toNat = c :: r := List.exists_cons_of_ne_nil (dec_ne _)
   have hc := dec_all n.toNat c (by rw [hcr]; simp)
   rw [hcr]
   simp only [List.cons_append, List.head?_cons, Option.some.injEq]
   intro e2; subst e2; revert hc; decide
 · have h := tw_append (p := isDg) (dec_all n.natAbs) hr
   rw [e]
   simp only [List.cons_append, List.head?_cons, if_true, List.tail_cons]
   rw [h.1, h.2]
theorem wlk_open {t : Tr} {p l q : Int} (h : wlk t p l = some q) : p + 1 ≤ 120 ∧ l + 1 ≤ 6 ∧ ownB t = true ∧ newB t = true ∧ wlkK t.kids (p + 1) (l + 1) = some q := by
 rw [wlk_eq] at h
 split at h
 · rename_i h0
   split at h
   · rename_i ho
     split at h
     · cases h
     · rename_i q' hk
       split at h
       · rename_i hn
         simp only [Option.some.injEq] at h
         subst h
         exact ⟨h0.1, h0.2, ho, hn, hk⟩
       · cases h
   · cases h
 · cases h
theorem wlk_make {t : Tr} {p l q : Int} (h1 : p + 1 ≤ 120) (h2 : l + 1 ≤ 6) (ho : ownB t = true) (hn : newB t = true) (hk : wlkK t.kids (p + 1) (l + 1) = some q) : wlk t p l = some q := by
 rw [wlk_eq, if_pos ⟨h1, h2⟩, if_pos ho, hk]
 simp only
 rw [if_pos hn]
theorem wlkK_head {ks : List Tr} {p l q : Int} (h : wlkK ks p l = some q) {t : Tr} (ht : t ∈ ks) : ∃ c r, txT t = c :: r ∧ hd9 c := by
 induction ks generalizing p with
 | nil => cases ht
 | cons a r ih =>
   rw [wlkK] at h
   cases hw : wlk a p l with
   | none => rw [hw] at h; cases h
   | some q1 =>
     rw [hw] at h
     rcases List.mem_cons.1 ht with rfl | ht
     · exact txT_head hw
     · exact ih h ht
theorem txK_len_ge (form : Bool) (ns : List ByteArray) (ks : List Tr) (i : Nat) (h : ∀ t, t ∈ ks → ∃ c r, txT t = c :: r ∧ hd9 c) : ks.length ≤ (txK form ns i ks).length := by
 induction ks generalizing i with
 | nil => simp
 | cons t r ih =>
   rw [txK]
   obtain ⟨c, r', e, _⟩ := h t (by simp)
   have := ih (i + 1) (fun t ht => h t (by simp [ht]))
   rw [e]
   simp only [List.length_cons, List.length_append]
   omega
theorem rdT_complete : ∀ (d : Nat) (t : Tr) (p q : Int) (rest : List UInt8), wlk t p (6 - d) = some q → nd rest → rdT d (txT t ++ rest) p = some (t, rest, q) := by
 intro d
 induction d with
 | zero =>
   intro t p q rest h _
   have := (wlk_open h).2.1
   simp at this
 | succ d ih =>
   intro t p q rest h hr
   obtain ⟨h1, h2, ho, hn, hk⟩ := wlk_open h
   have hl : (6 : Int) - ((d + 1 : Nat) : Int) + 1 = 6 - d := by omega
   rw [hl] at hk
   rw [rdT, if_neg (by omega)]
   rcases shapes ho hn with ⟨n, rfl, hn1, hn2⟩ | ⟨x, rfl, hx⟩ | ⟨n, rfl, hn1⟩ | ⟨ks, rfl, hks⟩ | ⟨ns, ks, rfl, hnl, hrs⟩ | ⟨ks, rfl, hks⟩
   · simp only [Tr.kids, wlkK, Option.some.injEq] at hk
     obtain ⟨c, r, e, hc⟩ := itoa_head n
     have htx : txT (.mk 1 n ByteArray.empty [] []) = Lib.itoa n := by rw [txT]; simp
     rw [htx, num_run n rest hr, numOf_yes hn1 hn2 rfl]
     rw [e]
     simp only [List.cons_append, List.head?_cons]
     rw [if_pos hc, hk]
   · simp only [Tr.kids, wlkK, Option.some.injEq] at hk
     have htx : txT (.mk 2 0 x [] []) ++ rest = 34 :: (x.data.toList ++ 34 :: rest) := by rw [txT]; simp
     have hrun : ((34 :: (x.data.toList ++ 34 :: rest)).tail).takeWhile (· != 34) = x.data.toList ∧ ((34 :: (x.data.toList ++ 34 :: rest)).tail).dropWhile (· != 34) = 34 :: rest := text_run hx rest
     rw [htx]
     simp only [List.head?_cons]
     rw [if_neg (by decide), if_pos (by decide), if_pos ⟨by rw [hrun.2]; rfl, by rw [hrun.1]; exact hx⟩, hrun.1, hrun.2, hk]
     rfl
   · simp only [Tr.kids, wlkK, Option.some.injEq] at hk
     rcases hn1 with rfl | rfl
     · have htx : txT (.mk 3 0 ByteArray.empty [] []) ++ rest = 110 :: 111 :: rest := by rw [txT]; simp
       rw [htx]
       simp only [List.head?_cons]
       rw [if_neg (by decide), if_neg (by decide), if_pos (by decide), if_neg (by simp), if_pos (by simp), hk]
       rfl
     · have htx : txT (.mk 3 1 ByteArray.empty [] []) ++ rest = 121 :: 101 :: 115 :: rest := by rw [txT]; simp
       rw [htx]
       simp only [List.head?_cons]
       rw [if_neg (by decide), if_neg (by decide), if_pos (by decide), if_pos (by simp), hk]
       rfl
   · simp only [Tr.kids] at hk
     have htx : txT (.mk 4 0 ByteArray.empty [] ks) ++ rest = 91 :: (txK false [] 0 ks ++ 93 :: rest) := by rw [txT]; simp
     have hlp := lp_complete (rdT d) false 93 (Or.inl rfl) [] (fun h => by cases h) (fun t p => wlk t p (6 - d)) (fun t st st' rest h hr => ih t st st' rest h hr) (fun t st st' h => txT_head h) ks ((txT (.mk 4 0 ByteArray.empty [] ks) ++ rest).length + 1) [] (p + 1) q rest (by rw [htx]; have := txK_len_ge false [] ks 0 (fun t ht => wlkK_head hk ht); simp; omega) (by rw [foldK_wlk]; exact hk) (fun h => by cases h)
     rw [htx] at hlp ⊢
     simp only [List.head?_cons, List.tail_cons]
     rw [if_neg (by decide), if_neg (by decide), if_neg (by decide), if_pos (by decide)]
     simp only [List.length_nil, Bool.false_eq_true, if_false] at hlp
     rw [hlp]
     simp only [List.nil_append]
     rw [if_pos hks]
   · simp only [Tr.kids] at hk
     have htx : txT (.mk 5 0 ByteArray.empty ns ks) ++ rest = 123 :: (txK true ns 0 ks ++ 125 :: rest) := by rw [txT]; simp
     have hlp := lp_complete (rdT d) true 125 (Or.inr rfl) ns (fun _ => hrs) (fun t p => wlk t p (6 - d)) (fun t st st' rest h hr => ih t st st' rest h hr) (fun t st st' h => txT_head h) ks ((txT (.mk 5 0 ByteArray.empty ns ks) ++ rest).length + 1) [] (p + 1) q rest (by rw [htx]; have := txK_len_ge true ns ks 0 (fun t ht => wlkK_head hk ht); simp; omega) (by rw [foldK_wlk]; exact hk) (fun _ => by simp [hnl])
     rw [htx] at hlp ⊢
     simp only [List.head?_cons, List.tail_cons]
     rw [if_neg (by decide), if_neg (by decide), if_neg (by decide), if_neg (by decide), if_pos (by decide)]
     simp only [List.length_nil, if_true, List.take_zero] at hlp
     rw [hlp]
     simp only [List.nil_append]
     rw [if_pos hrs]
   · simp only [Tr.kids] at hk
     cases ks with
     | nil =>
       simp only [wlkK, Option.some.injEq] at hk
       have htx : txT (.mk 6 0 ByteArray.empty [] []) ++ rest = 126 :: rest := by rw [txT]; simp
       rw [htx]
       simp only [List.head?_cons, List.tail_cons]
       rw [if_neg (by decide), if_neg (by decide), if_neg (by decide), if_neg (by decide), if_neg (by decide), if_pos (by decide), hk]
     | cons t r =>
       have hr0 : r = [] := by simp at hks; exact hks
       subst hr0
       have htx : txT (.mk 6 0 ByteArray.empty [] [t]) ++ rest = 63 :: (txT t ++ rest) := by rw [txT]; simp [txM]
       rw [wlkK] at hk
       cases hw : wlk t (p + 1) (6 - d) with
       | none => rw [hw] at hk; cases hk
       | some q1 =>
         rw [hw] at hk
         simp only [wlkK, Option.some.injEq] at hk
         subst hk
         rw [htx]
         simp only [List.head?_cons, List.tail_cons]
         rw [if_neg (by decide), if_neg (by decide), if_neg (by decide), if_neg (by decide), if_neg (by decide), if_neg (by decide), if_pos (by decide), ih t (p + 1) q1 rest hw hr]
end Go.Proofs.YtbkagahmiibclaaGreatDoor

namespace Go.Proofs.YtbkagahmiibclaaGreatDoor
open Go Go.RowKit
theorem sp_num (n : Int) (h0 : -999999999 ≤ n) (h1 : n ≤ 999999999) (rest : List UInt8) (hr : nd rest) : spNum (Lib.itoa n ++ rest) = some (n, rest) := by
 have key : ∀ u : Nat, u ≤ 999999999 → ((Lib.decDigits u ++ rest).take 10).takeWhile isDg = Lib.decDigits u := fun u hu => by
  have hl := dec_len 8 u (by omega)
  rw [List.take_append, List.take_of_length_le (by omega)]
  refine (tw_append (p := isDg) (dec_all u) (fun c hc => hr c ?_)).1
  cases rest with
  | nil => simp at hc
  | cons a b =>
    rw [show 10 - (Lib.decDigits u).length = (9 - (Lib.decDigits u).length) + 1 from by omega] at hc
    simpa using hc
 unfold spNum
 rcases itoa_cases n with ⟨hn, e⟩ | ⟨hn, e⟩
 · obtain ⟨c, r, hcr⟩ : ∃ c r, Lib.decDigits n.toNat = c :: r := List.exists_cons_of_ne_nil (dec_ne _)
   have hc := dec_all n.toNat c (by rw [hcr]; simp)
   have hh : (Lib.itoa n ++ rest).head? ≠ some 45 := by
    rw [e, hcr]
    simp only [List.cons_append, List.head?_cons, ne_eq, Option.some.injEq]
    intro e2; subst e2; revert hc; decide
   simp only [if_neg hh]
   rw [e, key n.toNat (by omega), if_neg (dec_ne _), dec_val]
   simp only [List.drop_left]
   rw [Int.toNat_of_nonneg hn]
 · have hh : (Lib.itoa n ++ rest).head? = some 45 := by rw [e]; rfl
   simp only [if_pos hh]
   have ht : (Lib.itoa n ++ rest).tail = Lib.decDigits n.natAbs ++ rest := by rw [e]; rfl
   rw [ht, key n.natAbs (by omega), if_neg (dec_ne _), dec_val]
   simp only [List.drop_left]
   rw [show -(n.natAbs : Int) = n from by omega]
open Classical in
noncomputable def stpU (l : Int) (t : Tr) (_ : Unit) : Option Unit := if ∃ p q, wlk t p l = some q then some () else none
theorem stpU_yes {l : Int} {t : Tr} {p q : Int} (h : wlk t p l = some q) : stpU l t () = some () := by unfold stpU; rw [if_pos ⟨p, q, h⟩]
theorem stpU_some {l : Int} {t : Tr} {st st' : Unit} (h : stpU l t st = some st') : ∃ p q, wlk t p l = some q := by
 unfold stpU at h
 split at h
 · assumption
 · cases h
theorem foldK_stpU {l : Int} {ks : List Tr} {p q : Int} (h : wlkK ks p l = some q) : foldK (stpU l) ks () = some () := by
 induction ks generalizing p with
 | nil => rfl
 | cons t r ih =>
   rw [wlkK] at h
   cases hw : wlk t p l with
   | none => rw [hw] at h; cases h
   | some q1 =>
     rw [hw] at h
     rw [foldK, stpU_yes hw]
     exact ih h
theorem spT_complete : ∀ (d : Nat) (t : Tr) (p q : Int) (rest : List UInt8), wlk t p (6 - d) = some q → nd rest → spT d (txT t ++ rest) () = some (t, rest, ()) := by
 intro d
 induction d with
 | zero =>
   intro t p q rest h _
   have := (wlk_open h).2.1
   simp at this
 | succ d ih =>
   intro t p q rest h hr
   obtain ⟨h1, h2, ho, hn, hk⟩ := wlk_open h
   have hl : (6 : Int) - ((d + 1 : Nat) : Int) + 1 = 6 - d := by omega
   rw [hl] at hk
   rw [spT]
   rcases shapes ho hn with ⟨n, rfl, hn1, hn2⟩ | ⟨x, rfl, hx⟩ | ⟨n, rfl, hn1⟩ | ⟨ks, rfl, hks⟩ | ⟨ns, ks, rfl, hnl, hrs⟩ | ⟨ks, rfl, hks⟩
   · obtain ⟨c, r, e, hc⟩ := itoa_head n
     have htx : txT (.mk 1 n ByteArray.empty [] []) = Lib.itoa n := by rw [txT]; simp
     have hhd : (Lib.itoa n ++ rest).head? = some c := by rw [e]; rfl
     have hne : ∀ x : UInt8, isDg x = false → x ≠ 45 → (Lib.itoa n ++ rest).head? ≠ some x := fun x hx1 hx2 => by
      rw [hhd]
      intro h
      simp only [Option.some.injEq] at h
      subst h
      rcases hc with hc | hc
      · rw [hx1] at hc; cases hc
      · exact hx2 hc
     rw [htx, if_neg (hne 34 (by decide) (by decide)), if_neg (hne 121 (by decide) (by decide)), if_neg (hne 110 (by decide) (by decide)), if_neg (hne 126 (by decide) (by decide)), if_neg (hne 63 (by decide) (by decide)), if_neg (hne 91 (by decide) (by decide)), if_neg (hne 123 (by decide) (by decide)), sp_num n hn1 hn2 rest hr]
   · have htx : txT (.mk 2 0 x [] []) ++ rest = 34 :: (x.data.toList ++ 34 :: rest) := by rw [txT]; simp
     have hrun : ((34 :: (x.data.toList ++ 34 :: rest)).tail).takeWhile (· != 34) = x.data.toList ∧ ((34 :: (x.data.toList ++ 34 :: rest)).tail).dropWhile (· != 34) = 34 :: rest := text_run hx rest
     rw [htx, if_pos (by rfl), if_pos (by rw [hrun.2]; rfl), hrun.1, hrun.2]
     rfl
   · rcases hn1 with rfl | rfl
     · have htx : txT (.mk 3 0 ByteArray.empty [] []) ++ rest = 110 :: 111 :: rest := by rw [txT]; simp
       rw [htx, if_neg (by simp), if_neg (by simp), if_pos (by rfl), if_pos (by simp)]
       rfl
     · have htx : txT (.mk 3 1 ByteArray.empty [] []) ++ rest = 121 :: 101 :: 115 :: rest := by rw [txT]; simp
       rw [htx, if_neg (by simp), if_pos (by rfl), if_pos (by simp)]
       rfl
   · simp only [Tr.kids] at hk
     have htx : txT (.mk 4 0 ByteArray.empty [] ks) ++ rest = 91 :: (txK false [] 0 ks ++ 93 :: rest) := by rw [txT]; simp
     have hlp := lp_complete (spT d) false 93 (Or.inl rfl) [] (fun h => by cases h) (stpU (6 - d)) (fun t _ _ rest h hr => by obtain ⟨p, q, h⟩ := stpU_some h; exact ih t p q rest h hr) (fun t _ _ h => by obtain ⟨p, q, h⟩ := stpU_some h; exact txT_head h) ks ((txT (.mk 4 0 ByteArray.empty [] ks) ++ rest).length + 1) [] () () rest (by rw [htx]; have := txK_len_ge false [] ks 0 (fun t ht => wlkK_head hk ht); simp; omega) (foldK_stpU hk) (fun h => by cases h)
     rw [htx] at hlp ⊢
     rw [if_neg (by simp), if_neg (by simp), if_neg (by simp), if_neg (by simp), if_neg (by simp), if_pos (by rfl)]
     simp only [List.length_nil, Bool.false_eq_true, if_false] at hlp
     rw [List.tail_cons, hlp]
     simp only [List.nil_append]
   · simp only [Tr.kids] at hk
     have htx : txT (.mk 5 0 ByteArray.empty ns ks) ++ rest = 123 :: (txK true ns 0 ks ++ 125 :: rest) := by rw [txT]; simp
     have hlp := lp_complete (spT d) true 125 (Or.inr rfl) ns (fun _ => hrs) (stpU (6 - d)) (fun t _ _ rest h hr => by obtain ⟨p, q, h⟩ := stpU_some h; exact ih t p q rest h hr) (fun t _ _ h => by obtain ⟨p, q, h⟩ := stpU_some h; exact txT_head h) ks ((txT (.mk 5 0 ByteArray.empty ns ks) ++ rest).length + 1) [] () () rest (by rw [htx]; have := txK_len_ge true ns ks 0 (fun t ht => wlkK_head hk ht); simp; omega) (foldK_stpU hk) (fun _ => by simp [hnl])
     rw [htx] at hlp ⊢
     rw [if_neg (by simp), if_neg (by simp), if_neg (by simp), if_neg (by simp), if_neg (by simp), if_neg (by simp), if_pos (by rfl)]
     simp only [List.length_nil, if_true, List.take_zero] at hlp
     rw [List.tail_cons, hlp]
     simp only [List.nil_append]
   · simp only [Tr.kids] at hk
     cases ks with
     | nil =>
       have htx : txT (.mk 6 0 ByteArray.empty [] []) ++ rest = 126 :: rest := by rw [txT]; simp
       rw [htx, if_neg (by simp), if_neg (by simp), if_neg (by simp), if_pos (by rfl)]
       rfl
     | cons t r =>
       have hr0 : r = [] := by simp at hks; exact hks
       subst hr0
       have htx : txT (.mk 6 0 ByteArray.empty [] [t]) ++ rest = 63 :: (txT t ++ rest) := by rw [txT]; simp [txM]
       rw [wlkK] at hk
       cases hw : wlk t (p + 1) (6 - d) with
       | none => rw [hw] at hk; cases hk
       | some q1 =>
         rw [htx, if_neg (by simp), if_neg (by simp), if_neg (by simp), if_neg (by simp), if_pos (by rfl), List.tail_cons, ih t (p + 1) q1 rest hw hr]
theorem cma_some {n : Nat} {inp i1 : List UInt8} (h : cma n inp = some i1) : inp = (if 0 < n then [44] else []) ++ i1 := by
 unfold cma at h
 split at h
 · rename_i h0
   simp only [Option.some.injEq] at h
   rw [if_neg (by omega), h]; rfl
 · rename_i h0
   split at h
   · rename_i h1
     simp only [Option.some.injEq] at h
     rw [if_pos (by omega)]
     cases inp with
     | nil => simp at h1
     | cons a b => simp at h1 h; subst h1 h; rfl
   · cases h
theorem head_tail {l : List UInt8} {c : UInt8} (h : l.head? = some c) : l = c :: l.tail := by
 cases l with
 | nil => simp at h
 | cons a b => simp at h; subst h; rfl
theorem nmr_some {form : Bool} {ns ns' : List ByteArray} {inp i2 : List UInt8} (h : nmr form ns inp = some (ns', i2)) :
 (form = true → ∃ nm : ByteArray, ns' = ns ++ [nm] ∧ inp = nm.data.toList ++ (58 :: i2)) ∧ (form = false → ns' = ns ∧ inp = i2) := by
 unfold nmr at h
 cases form with
 | false => simp at h; exact ⟨(fun h => by cases h), fun _ => ⟨h.1.symm, h.2⟩⟩
 | true =>
   simp only [if_true] at h
   split at h
   · rename_i h1
     simp only [Option.some.injEq, Prod.mk.injEq] at h
     refine ⟨fun _ => ⟨_, h.1.symm, ?_⟩, fun h => by cases h⟩
     show inp = (inp.takeWhile nameByte) ++ 58 :: i2
     rw [← h.2, ← head_tail h1, List.takeWhile_append_dropWhile]
   · cases h
theorem lp_sound {σ : Type} (rd : List UInt8 → σ → Option (Tr × List UInt8 × σ)) (form : Bool) (e : UInt8) (stp : Tr → σ → Option σ)
 (hrd : ∀ i st t r st', rd i st = some (t, r, st') → i = txT t ++ r ∧ stp t st = some st') :
 ∀ (f : Nat) (ns0 : List ByteArray) (ks0 : List Tr) (inp : List UInt8) (st : σ) (ns : List ByteArray) (ks : List Tr) (rest : List UInt8) (st' : σ), lp rd form e f ns0 ks0 inp st = some (ns, ks, rest, st') → (form = true → ns0.length = ks0.length) →
   ∃ nsn ksn, ns = ns0 ++ nsn ∧ ks = ks0 ++ ksn ∧ (form = true → nsn.length = ksn.length) ∧ (form = false → nsn = []) ∧ inp = txK form ns ks0.length ksn ++ e :: rest ∧ foldK stp ksn st = some st' := by
 intro f
 induction f with
 | zero => intro ns0 ks0 inp st ns ks rest st' h; rw [lp] at h; cases h
 | succ f ih =>
   intro ns0 ks0 inp st ns ks rest st' h hl
   rw [lp] at h
   split at h
   · rename_i h1
     simp only [Option.some.injEq, Prod.mk.injEq] at h
     obtain ⟨rfl, rfl, rfl, rfl⟩ := h
     exact ⟨[], [], by simp, by simp, fun _ => rfl, fun _ => rfl, by rw [txK]; exact head_tail h1, rfl⟩
   · split at h
     · cases h
     · rename_i i1 hc
       split at h
       · cases h
       · rename_i ns' i2 hn
         split at h
         · cases h
         · rename_i t i3 st1 hr
           obtain ⟨hi2, hst⟩ := hrd _ _ _ _ _ hr
           have hcm := cma_some hc
           obtain ⟨hnt, hnf⟩ := nmr_some hn
           obtain ⟨nsn, ksn, e1, e2, e3, e4, e5, e6⟩ := ih ns' (ks0 ++ [t]) i3 st1 ns ks rest st' h (fun hf => by
            obtain ⟨nm, hnm, _⟩ := hnt hf
            rw [hnm]; simp [hl hf])
           have hlen : (ks0 ++ [t]).length = ks0.length + 1 := by simp
           rw [hlen] at e5
           cases form with
           | false =>
             obtain ⟨rfl, hi1⟩ := hnf rfl
             refine ⟨nsn, t :: ksn, e1, by rw [e2]; simp, (fun h => by cases h), e4, ?_, ?_⟩
             · rw [txK, ahead, hcm, hi1, hi2, e5]; simp
             · rw [foldK, hst]; exact e6
           | true =>
             obtain ⟨nm, rfl, hi1⟩ := hnt rfl
             refine ⟨nm :: nsn, t :: ksn, by rw [e1]; simp, by rw [e2]; simp, (fun h => by simp [e3 h]), (fun h => by cases h), ?_, ?_⟩
             · have hg : ns.getD ks0.length ByteArray.empty = nm := by
                rw [e1, ← hl rfl]; simp
               rw [txK, ahead, hg, hcm, hi1, hi2, e5]; simp
             · rw [foldK, hst]; exact e6
theorem num_join (inp : List UInt8) : (numRun inp).1 ++ (numRun inp).2 = inp := by
 unfold numRun
 split
 · rename_i h
   simp only [List.cons_append, List.takeWhile_append_dropWhile]
   exact (head_tail h).symm
 · simp only [List.takeWhile_append_dropWhile]
theorem rdT_sound : ∀ (d : Nat) (inp : List UInt8) (p : Int) (t : Tr) (rest : List UInt8) (q : Int), d ≤ 6 → rdT d inp p = some (t, rest, q) → inp = txT t ++ rest ∧ wlk t p (6 - d) = some q := by
 intro d
 induction d with
 | zero => intro inp p t rest q _ h; rw [rdT] at h; cases h
 | succ d ih =>
   intro inp p t rest q hd h
   have hl : (6 : Int) - ((d + 1 : Nat) : Int) + 1 = 6 - d := by omega
   have hl2 : (6 : Int) - ((d + 1 : Nat) : Int) + 1 ≤ 6 := by omega
   have hmk : ∀ {t : Tr} {q : Int}, p + 1 ≤ 120 → ownB t = true → newB t = true → wlkK t.kids (p + 1) (6 - d) = some q → wlk t p (6 - ((d + 1 : Nat) : Int)) = some q := fun h1 ho hn hk => wlk_make h1 hl2 ho hn (by rw [hl]; exact hk)
   have hlps := fun (form : Bool) (e : UInt8) => lp_sound (rdT d) form e (fun t p => wlk t p (6 - d)) (fun i st t r st' h => ih i st t r st' (by omega) h)
   rw [rdT] at h
   split at h
   · cases h
   rename_i hp
   have hp1 : p + 1 ≤ 120 := by omega
   split at h
   · cases h
   rename_i c hhd
   have hht := head_tail hhd
   split at h
   · split at h
     · cases h
     · rename_i n hnum
       simp only [Option.some.injEq, Prod.mk.injEq] at h
       obtain ⟨rfl, rfl, rfl⟩ := h
       obtain ⟨n0, n1, hit⟩ := numOf_some hnum
       refine ⟨?_, hmk hp1 (by simp [ownB, Tr.sort, Tr.text, Tr.names, Tr.kids, ByteArray.toList_empty]) (by simp [newB, Tr.sort, Tr.num, n0, n1]) (by simp [Tr.kids, wlkK])⟩
       rw [txT]
       simp only [if_true]
       rw [hit, num_join]
   split at h
   · rename_i hc
     subst hc
     split at h
     · rename_i h1
       simp only [Option.some.injEq, Prod.mk.injEq] at h
       obtain ⟨rfl, rfl, rfl⟩ := h
       refine ⟨?_, hmk hp1 (by simp [ownB, Tr.sort, Tr.num, Tr.names, Tr.kids]) (by simp [newB, Tr.sort, Tr.text, h1.2]) (by simp [Tr.kids, wlkK])⟩
       rw [txT]
       simp only [Int.reduceEq, if_false, if_true, List.cons_append, List.nil_append, List.append_assoc]
       rw [← head_tail h1.1, List.takeWhile_append_dropWhile]
       exact hht
     · cases h
   split at h
   · split at h
     · rename_i h1
       simp only [Option.some.injEq, Prod.mk.injEq] at h
       obtain ⟨rfl, rfl, rfl⟩ := h
       refine ⟨?_, hmk hp1 (by simp [ownB, Tr.sort, Tr.text, Tr.names, Tr.kids, ByteArray.toList_empty]) (by simp [newB, Tr.sort, Tr.num]) (by simp [Tr.kids, wlkK])⟩
       rw [List.isPrefixOf_iff_prefix] at h1
       obtain ⟨r, hr⟩ := h1
       rw [txT, ← hr]
       simp
     · split at h
       · rename_i h1
         simp only [Option.some.injEq, Prod.mk.injEq] at h
         obtain ⟨rfl, rfl, rfl⟩ := h
         refine ⟨?_, hmk hp1 (by simp [ownB, Tr.sort, Tr.text, Tr.names, Tr.kids, ByteArray.toList_empty]) (by simp [newB, Tr.sort, Tr.num]) (by simp [Tr.kids, wlkK])⟩
         rw [List.isPrefixOf_iff_prefix] at h1
         obtain ⟨r, hr⟩ := h1
         rw [txT, ← hr]
         simp
       · cases h
   split at h
   · rename_i hc
     subst hc
     split at h
     · cases h
     · rename_i ns ks rst q1 hlp
       split at h
       · rename_i h20
         simp only [Option.some.injEq, Prod.mk.injEq] at h
         obtain ⟨rfl, rfl, rfl⟩ := h
         obtain ⟨nsn, ksn, e1, e2, e3, e4, e5, e6⟩ := hlps false 93 _ _ _ _ _ _ _ _ _ hlp (fun h => by cases h)
         rw [foldK_wlk] at e6
         simp only [List.nil_append] at e1 e2
         subst e1 e2
         have e4' := e4 rfl
         subst e4'
         refine ⟨?_, hmk hp1 (by simp [ownB, Tr.sort, Tr.num, Tr.text, Tr.names, ByteArray.toList_empty]) (by simp [newB, Tr.sort, Tr.kids, h20]) e6⟩
         rw [hht, e5, txT]
         simp
       · cases h
   split at h
   · rename_i hc
     subst hc
     split at h
     · cases h
     · rename_i ns ks rst q1 hlp
       split at h
       · rename_i h20
         simp only [Option.some.injEq, Prod.mk.injEq] at h
         obtain ⟨rfl, rfl, rfl⟩ := h
         obtain ⟨nsn, ksn, e1, e2, e3, e4, e5, e6⟩ := hlps true 125 _ _ _ _ _ _ _ _ _ hlp (fun _ => rfl)
         rw [foldK_wlk] at e6
         simp only [List.nil_append] at e1 e2
         subst e1 e2
         refine ⟨?_, hmk hp1 (by simp [ownB, Tr.sort, Tr.num, Tr.text, ByteArray.toList_empty]) (by simp [newB, Tr.sort, Tr.names, Tr.kids, h20, e3 rfl]) e6⟩
         rw [hht, e5, txT]
         simp
       · cases h
   split at h
   · rename_i hc
     subst hc
     simp only [Option.some.injEq, Prod.mk.injEq] at h
     obtain ⟨rfl, rfl, rfl⟩ := h
     refine ⟨?_, hmk hp1 (by simp [ownB, Tr.sort, Tr.num, Tr.text, Tr.names, ByteArray.toList_empty]) (by simp [newB, Tr.sort, Tr.kids]) (by simp [Tr.kids, wlkK])⟩
     rw [txT]
     simpa using hht
   split at h
   · rename_i hc
     subst hc
     split at h
     · cases h
     · rename_i t1 rst q1 hrec
       simp only [Option.some.injEq, Prod.mk.injEq] at h
       obtain ⟨rfl, rfl, rfl⟩ := h
       obtain ⟨g1, g2⟩ := ih _ _ _ _ _ (by omega) hrec
       refine ⟨?_, hmk hp1 (by simp [ownB, Tr.sort, Tr.num, Tr.text, Tr.names, ByteArray.toList_empty]) (by simp [newB, Tr.sort, Tr.kids]) (by simp [Tr.kids, wlkK, g2])⟩
       rw [hht, g1, txT]
       simp [txM]
   · cases h
theorem wlk_ok {t : Tr} {q : Int} : wlk t 0 0 = some q ↔ (0 < pT t 1 ∧ pT t 1 = q) := by
 rw [wlk_start]
 have hbd := pT_bd t 1
 constructor
 · intro h
   split at h
   · cases h
   · simp only [Option.some.injEq] at h; omega
 · rintro ⟨h1, h2⟩
   rw [if_neg (by omega), h2]
theorem okT_of_wlk : ∀ (t : Tr) (p l q : Int), wlk t p l = some q → okT t = true := by
 have key : ∀ (n : Nat) (t : Tr), tsz t < n → ∀ (p l q : Int), wlk t p l = some q → okT t = true := by
  intro n
  induction n with
  | zero => intro t h; omega
  | succ n ih =>
    intro t hn p l q h
    obtain ⟨_, _, ho, hnw, hk⟩ := wlk_open h
    rw [okT_eq, alone_eq, ho, hnw]
    simp only [Bool.and_self, Bool.true_and]
    have hks : ∀ (ks : List Tr), (∀ k, k ∈ ks → tsz k < n) → ∀ p q, wlkK ks p (l + 1) = some q → okK ks = true := by
     intro ks
     induction ks with
     | nil => intro _ _ _ _; rfl
     | cons a r ihk =>
       intro hm p q hw
       rw [wlkK] at hw
       cases hwa : wlk a p (l + 1) with
       | none => rw [hwa] at hw; cases hw
       | some q1 =>
         rw [hwa] at hw
         rw [okK, ih a (hm a (by simp)) p (l + 1) q1 hwa, ihk (fun k hk => hm k (by simp [hk])) q1 q hw]
         rfl
    exact hks t.kids (fun k hk => by have := tsz_kid hk; omega) _ _ hk
 intro t p l q h
 exact key (tsz t + 1) t (by omega) p l q h
theorem nd_nil : nd [] := fun c hc => by simp at hc
theorem lp_len {σ : Type} (rd : List UInt8 → σ → Option (Tr × List UInt8 × σ)) (form : Bool) (e : UInt8) (hrd : ∀ i st t r st', rd i st = some (t, r, st') → r.length < i.length) :
 ∀ (f : Nat) (ns0 : List ByteArray) (ks0 : List Tr) (inp : List UInt8) (st : σ) (x : List ByteArray × List Tr × List UInt8 × σ), lp rd form e f ns0 ks0 inp st = some x → x.2.2.1.length < inp.length := by
 intro f
 induction f with
 | zero => intro ns0 ks0 inp st x h; rw [lp] at h; cases h
 | succ f ih =>
   intro ns0 ks0 inp st x h
   rw [lp] at h
   split at h
   · rename_i h1
     simp only [Option.some.injEq] at h
     subst h
     have := congrArg List.length (head_tail h1)
     simp only [List.length_cons] at this
     simp only
     omega
   · split at h
     · cases h
     · rename_i i1 hc
       split at h
       · cases h
       · rename_i ns' i2 hn
         split at h
         · cases h
         · rename_i t i3 st1 hr
           have h1 := hrd _ _ _ _ _ hr
           have h2 := congrArg List.length (cma_some hc)
           have h3 : i2.length ≤ i1.length := by
            obtain ⟨hnt, hnf⟩ := nmr_some hn
            cases form with
            | false => rw [(hnf rfl).2]; exact Nat.le_refl _
            | true => obtain ⟨nm, _, e⟩ := hnt rfl; rw [e]; simp; omega
           rw [List.length_append] at h2
           have := ih _ _ _ _ _ h
           omega
theorem spNum_len {inp : List UInt8} {n : Int} {rest : List UInt8} (h : spNum inp = some (n, rest)) : rest.length < inp.length := by
 unfold spNum at h
 simp only at h
 have ht : (if inp.head? = some 45 then inp.tail else inp).length ≤ inp.length := by split <;> simp
 generalize (if inp.head? = some 45 then inp.tail else inp) = r at h ht
 by_cases hne : (r.take 10).takeWhile isDg = []
 · rw [if_pos hne] at h; cases h
 · rw [if_neg hne] at h
   simp only [Option.some.injEq, Prod.mk.injEq] at h
   rw [← h.2]
   have hpos := List.length_pos_iff.2 hne
   have h1 := (List.takeWhile_prefix (p := isDg) (l := r.take 10)).length_le
   rw [List.length_take] at h1
   rw [List.length_drop]
   omega
theorem tail_lt {l : List UInt8} {c : UInt8} (h : l.head? = some c) : l.tail.length < l.length := by
 have := congrArg List.length (head_tail h)
 simp only [List.length_cons] at this
 omega
theorem dw_le (p : UInt8 → Bool) (l : List UInt8) : (l.dropWhile p).length ≤ l.length := (List.dropWhile_suffix p).length_le
theorem spT_len : ∀ (d : Nat) (inp : List UInt8) (st : Unit) (t : Tr) (rest : List UInt8) (st' : Unit), spT d inp st = some (t, rest, st') → rest.length < inp.length := by
 intro d
 induction d with
 | zero => intro inp st t rest st' h; rw [spT] at h; cases h
 | succ d ih =>
   intro inp st t rest st' h
   rw [spT] at h
   split at h
   · rename_i h1
     split at h
     · rename_i h2
       simp only [Option.some.injEq, Prod.mk.injEq] at h
       rw [← h.2.1]
       have := tail_lt h1
       have := tail_lt h2
       have := dw_le (· != 34) inp.tail
       omega
     · cases h
   split at h
   · split at h
     · rename_i h2
       simp only [Option.some.injEq, Prod.mk.injEq] at h
       rw [← h.2.1]
       rw [List.isPrefixOf_iff_prefix] at h2
       have := h2.length_le
       simp at this
       simp; omega
     · cases h
   split at h
   · split at h
     · rename_i h2
       simp only [Option.some.injEq, Prod.mk.injEq] at h
       rw [← h.2.1]
       rw [List.isPrefixOf_iff_prefix] at h2
       have := h2.length_le
       simp at this
       simp; omega
     · cases h
   split at h
   · rename_i h1
     simp only [Option.some.injEq, Prod.mk.injEq] at h
     rw [← h.2.1]
     exact tail_lt h1
   split at h
   · rename_i h1
     split at h
     · cases h
     · rename_i t1 r1 u1 hr
       simp only [Option.some.injEq, Prod.mk.injEq] at h
       rw [← h.2.1]
       have := ih _ _ _ _ _ hr
       have := tail_lt h1
       omega
   split at h
   · rename_i h1
     split at h
     · cases h
     · rename_i ns ks r1 u1 hr
       simp only [Option.some.injEq, Prod.mk.injEq] at h
       rw [← h.2.1]
       have := lp_len _ _ _ ih _ _ _ _ _ _ hr
       have := tail_lt h1
       simp only at *
       omega
   split at h
   · rename_i h1
     split at h
     · cases h
     · rename_i ns ks r1 u1 hr
       simp only [Option.some.injEq, Prod.mk.injEq] at h
       rw [← h.2.1]
       have := lp_len _ _ _ ih _ _ _ _ _ _ hr
       have := tail_lt h1
       simp only at *
       omega
   · split at h
     · cases h
     · rename_i n r1 hr
       simp only [Option.some.injEq, Prod.mk.injEq] at h
       rw [← h.2.1]
       exact spNum_len hr
theorem rdT_len (d : Nat) (hd : d ≤ 6) (inp : List UInt8) (p : Int) (t : Tr) (rest : List UInt8) (q : Int) (h : rdT d inp p = some (t, rest, q)) : rest.length < inp.length := by
 obtain ⟨h1, h2⟩ := rdT_sound d inp p t rest q hd h
 obtain ⟨c, r, e, _⟩ := txT_head h2
 rw [h1, e]
 simp
 omega
end Go.Proofs.YtbkagahmiibclaaGreatDoor

namespace Go.Proofs.YtbkagahmiibclaaGreatDoor
open Go Go.RowKit
theorem nameByte_high {c : UInt8} (h : 128 ≤ c.toNat) : nameByte c = false := nameByte_no (Or.inr (Or.inr (by omega)))
def tE (s : ByteArray) : Nat := ((s.data.toList.take 8).takeWhile nameByte).length
theorem tE_at {s : ByteArray} {k : Nat} (ha : allTo nameByte s k) (hk : k ≤ s.size) (h8 : k ≤ 8) (h : k = s.size ∨ k = 8 ∨ ∃ h : k < s.size, nameByte s[k] = false) : tE s = k := by
 have hsz : s.data.toList.length = s.size := by simp
 have hl : ((s.data.toList.take 8).take k).length = k := by simp; omega
 have hall : ∀ x ∈ (s.data.toList.take 8).take k, nameByte x = true := fun x hx => by
  obtain ⟨i, hi, rfl⟩ := List.getElem_of_mem hx
  rw [hl] at hi
  simp only [List.getElem_take]
  exact ha i hi (by omega)
 have hsplit := List.take_append_drop k (s.data.toList.take 8)
 unfold tE
 rw [← hsplit, List.takeWhile_append_of_pos hall, List.length_append, hl]
 have : ((s.data.toList.take 8).drop k).takeWhile nameByte = [] := by
  rcases h with h | h | ⟨hlt, h⟩
  · rw [List.drop_eq_nil_of_le (by simp; omega)]; rfl
  · rw [List.drop_eq_nil_of_le (by simp; omega)]; rfl
  · by_cases e8 : k = 8
    · rw [List.drop_eq_nil_of_le (by simp; omega)]; rfl
    · rw [List.drop_eq_getElem_cons (by simp; omega)]
      have e : (s.data.toList.take 8)[k]'(by simp; omega) = s[k] := by simp only [List.getElem_take]; rfl
      rw [e, List.takeWhile_cons, h]; rfl
 rw [this]; rfl
theorem tE_name {s : ByteArray} (h : nameOkB s = true) : tE s = s.size := by
 unfold nameOkB at h
 simp only [Bool.and_eq_true, decide_eq_true_eq] at h
 refine tE_at (fun j hj hjs => ?_) (Nat.le_refl _) h.1.1.2 (Or.inl rfl)
 exact List.all_eq_true.1 h.2 _ (by simp [ByteArray.getElem_eq_getElem_data])
theorem iter_below (w : World) (s : ByteArray) (k : Nat) : Below w.heap.size w (w.iter s k) := (Below.refl _ _).alloc (Nat.le_refl _) _
theorem typeEnd_any (s : ByteArray) (w : World) (_hs : s.size ≤ 1048576) :
 Calls Tryz.prog 95 #[.string s] w fun e w' => e = .returned (.int .i64 (tE s : Int)) ∧ Below w.heap.size w w' := by
 go_enter Tryz.func95, Tryz.ntmps95
 go_wp2_with fail
 go_step3
 go_wp2_with fail
 go_step3
 go_wp2_with fail
 go_loopw [3] (fun en wr => ∃ (k : Nat), k ≤ s.size ∧ k ≤ 8 ∧ en = .int .i64 k ∧ wr = w.iter s k ∧ Hid (allTo nameByte s k)) (fun en _ => s.size - (intOf en).toNat)
 case atStart => exact ⟨0, Nat.zero_le _, by omega, rfl, rfl, fun j hj => by omega⟩
 case round =>
  obtain ⟨k, hk, hk8, rfl, rfl, HA⟩ := hrel
  by_cases hlt : k < s.size
  · by_cases hc : s[k].toNat < 128
    · have hnx := fun ty => run_next_ascii (P := Tryz.prog) w s k ty hlt hc
      by_cases h8 : k = 8
      · have HN := hH (tE_at HA.out hk hk8 (Or.inr (Or.inl h8)))
        subst h8
        go_wp2_with fail
        try rw [Exit.noGoto_ret]
        go_ret
        exact ⟨by rw [uh HN]; first | done | rfl, iter_below _ _ _⟩
      · have h8b : ((k : Int) == 8) = false := by simp; omega
        have HNB := hH (fun W => isNameByte_any s[k] W)
        have HNOT := hH (fun (h : nameByte s[k] = false) => tE_at HA.out hk hk8 (Or.inr (Or.inr ⟨hlt, h⟩)))
        have HYES := hH (fun (h : nameByte s[k] = true) => allTo_succ HA.out hlt h)
        generalize s[k] = c at *
        have hcw : IntKind.u8.wrap (c.toNat : Int) = c.toNat := wraps_u8 _ (by omega) (by omega)
        cases hnb : nameByte c with
        | true =>
          rw [hnb] at HNB
          have HN := hH (uh HYES hnb)
          clear HNOT hnb HYES
          go_wp2_with (go_at_call 67; refine (uh HNB _).mono ?_; rintro e w' ⟨rfl, rfl⟩)
          go_roundw
          case rel => exact ⟨k + 1, by omega, by omega, by go_num, rfl, uh HN⟩
          case measure => simp [intOf]; omega
        | false =>
          rw [hnb] at HNB
          have HN := hH (uh HNOT hnb)
          clear HNOT hnb HYES
          go_wp2_with (go_at_call 67; refine (uh HNB _).mono ?_; rintro e w' ⟨rfl, rfl⟩)
          try rw [Exit.noGoto_ret]
          go_ret
          exact ⟨by rw [uh HN]; first | done | rfl, iter_below _ _ _⟩
    · have hnx := fun ty => run_next_any (P := Tryz.prog) w s k ty hlt
      have hd := decode_high s k hlt (by omega)
      have hdl := decode_le s k
      have HN := hH (tE_at HA.out hk hk8 (Or.inr (Or.inr ⟨hlt, nameByte_high (by omega)⟩)))
      generalize (Utf8.decode s k).1 = r at *
      generalize (Utf8.decode s k).2 = wd at *
      obtain ⟨hd1, -⟩ := hd
      clear hc
      by_cases h8 : k = 8
      · subst h8
        go_wp2_with fail
        try rw [Exit.noGoto_ret]
        go_ret
        exact ⟨by rw [uh HN]; first | done | rfl, iter_below _ _ _⟩
      · have h8b : ((k : Int) == 8) = false := by simp; omega
        go_wp2_with fail
        try rw [Exit.noGoto_ret]
        go_ret
        exact ⟨by rw [uh HN]; first | done | rfl, iter_below _ _ _⟩
  · have hnx := fun ty => run_next_end (P := Tryz.prog) w s k ty hlt
    have HN := hH (tE_at HA.out hk hk8 (Or.inl (by omega)))
    go_wp2_with fail
    try rw [Exit.noGoto_ret]
    go_ret
    exact ⟨by rw [uh HN]; first | done | rfl, iter_below _ _ _⟩
end Go.Proofs.YtbkagahmiibclaaGreatDoor

namespace Go.Proofs.YtbkagahmiibclaaGreatDoor
open Go Go.RowKit
theorem itoa_short {n : Int} (h : -999999999 ≤ n ∧ n ≤ 999999999) : (Lib.itoa n).length ≤ 10 := by
 rcases itoa_cases n with ⟨hn, e⟩ | ⟨hn, e⟩
 · rw [e]
   have := dec_len 8 n.toNat (by omega)
   omega
 · rw [e]
   have := dec_len 8 n.natAbs (by omega)
   simp only [List.length_cons]
   omega
theorem name_short {ns : List ByteArray} (h : riseB ns = true) (i : Nat) : (ns.getD i ByteArray.empty).data.toList.length ≤ 8 := by
 by_cases hi : i < ns.length
 · rw [getD_lt _ _ hi]
   have := rise_name h i hi
   unfold nameOkB at this
   simp only [Bool.and_eq_true, decide_eq_true_eq] at this
   show ns[i].size ≤ 8
   omega
 · have e : ns.getD i ByteArray.empty = ByteArray.empty := by simp [List.getD, List.getElem?_eq_none (Nat.le_of_not_lt hi)]
   rw [e]
   decide
theorem ahead_short {form : Bool} {ns : List ByteArray} (h : form = true → riseB ns = true) (i : Nat) : (ahead form ns i).length ≤ 10 := by
 unfold ahead
 cases form with
 | false => simp; split <;> simp
 | true =>
   have := name_short (h rfl) i
   have e : (if 0 < i then [44] else ([] : List UInt8)).length ≤ 1 := by split <;> simp
   simp only [if_true, List.length_append, List.length_cons, List.length_nil]
   omega
theorem txK_short (n : Nat) (IH : ∀ t : Tr, tsz t < n → ∀ p l q : Int, 0 ≤ p → p ≤ 120 → wlk t p l = some q → ((txT t).length : Int) + 10 ≤ 80 * (q - p)) (form : Bool) (ns : List ByteArray) (hr : form = true → riseB ns = true) (l : Int) :
 ∀ (ks : List Tr), (∀ k, k ∈ ks → tsz k < n) → ∀ (i : Nat) (p q : Int), 0 ≤ p → p ≤ 120 → wlkK ks p l = some q → ((txK form ns i ks).length : Int) ≤ 80 * (q - p) := by
 intro ks
 induction ks with
 | nil => intro _ i p q _ _ h; rw [wlkK] at h; simp only [Option.some.injEq] at h; subst h; simp [txK]
 | cons a r ih =>
   intro hm i p q h0 h1 h
   rw [wlkK] at h
   cases hw : wlk a p l with
   | none => rw [hw] at h; cases h
   | some q1 =>
     rw [hw] at h
     have hb := wlk_bd a p l q1 h0 h1 hw
     have e1 := IH a (hm a (by simp)) p l q1 h0 h1 hw
     have e2 := ih (fun k hk => hm k (by simp [hk])) (i + 1) q1 q (by omega) hb.2 h
     have e3 := ahead_short hr i
     rw [txK]
     simp only [List.length_append]
     omega
theorem txT_short : ∀ (n : Nat) (t : Tr), tsz t < n → ∀ p l q : Int, 0 ≤ p → p ≤ 120 → wlk t p l = some q → ((txT t).length : Int) + 10 ≤ 80 * (q - p) := by
 intro n
 induction n with
 | zero => intro t h; omega
 | succ n ih =>
   intro t hn p l q h0 h1 h
   have hb := wlk_bd t p l q h0 h1 h
   obtain ⟨h2, -, ho, hnb, hk⟩ := wlk_open h
   have hm : ∀ k, k ∈ t.kids → tsz k < n := fun k hk => by have := tsz_kid hk; omega
   rcases shapes ho hnb with ⟨m, rfl, hm1⟩ | ⟨x, rfl, hx⟩ | ⟨m, rfl, hm1⟩ | ⟨ks, rfl, hks⟩ | ⟨ns, ks, rfl, hnl, hri⟩ | ⟨ks, rfl, hks⟩
   · have htx : txT (.mk 1 m ByteArray.empty [] []) = Lib.itoa m := by rw [txT]; simp
     rw [htx]
     have := itoa_short hm1
     omega
   · have htx : txT (.mk 2 0 x [] []) = 34 :: (x.data.toList ++ [34]) := by rw [txT]; simp
     rw [htx]
     unfold textOkB at hx
     simp only [Bool.and_eq_true, decide_eq_true_eq] at hx
     have e : x.data.toList.length = x.size := rfl
     simp only [List.length_cons, List.length_append, List.length_nil]
     omega
   · have htx : (txT (.mk 3 m ByteArray.empty [] [])).length ≤ 3 := by
      rw [txT]; simp; split <;> simp
     omega
   · have htx : txT (.mk 4 0 ByteArray.empty [] ks) = 91 :: (txK false [] 0 ks ++ [93]) := by rw [txT]; simp
     rw [htx]
     have := txK_short n ih false [] (fun h => by cases h) (l + 1) ks hm 0 (p + 1) q (by omega) h2 hk
     simp only [List.length_cons, List.length_append, List.length_nil]
     omega
   · have htx : txT (.mk 5 0 ByteArray.empty ns ks) = 123 :: (txK true ns 0 ks ++ [125]) := by rw [txT]; simp
     rw [htx]
     have := txK_short n ih true ns (fun _ => hri) (l + 1) ks hm 0 (p + 1) q (by omega) h2 hk
     simp only [List.length_cons, List.length_append, List.length_nil]
     omega
   · cases ks with
     | nil =>
       have htx : txT (.mk 6 0 ByteArray.empty [] []) = [126] := by rw [txT]; simp
       rw [htx]; simp; omega
     | cons a r =>
       have hr0 : r = [] := by simp at hks; exact hks
       subst hr0
       have htx : txT (.mk 6 0 ByteArray.empty [] [a]) = 63 :: txT a := by rw [txT]; simp [txM]
       rw [htx]
       simp only [Tr.kids] at hk hm
       rw [wlkK] at hk
       cases hw : wlk a (p + 1) (l + 1) with
       | none => rw [hw] at hk; cases hk
       | some q1 =>
         rw [hw] at hk
         simp only [wlkK, Option.some.injEq] at hk
         subst hk
         have := ih a (hm a (by simp)) (p + 1) (l + 1) q1 (by omega) h2 hw
         simp only [List.length_cons]
         omega
theorem txT_small {t : Tr} {q : Int} (h : wlk t 0 0 = some q) : (txT t).length ≤ 9600 := by
 have h1 := txT_short (tsz t + 1) t (by omega) 0 0 q (by omega) (by omega) h
 have h2 := (wlk_bd t 0 0 q (by omega) (by omega) h).2
 omega
end Go.Proofs.YtbkagahmiibclaaGreatDoor
