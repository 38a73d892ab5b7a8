/- A part. -/
import Derived.Test.YtccnehcpmkgbhaaGreatDoorPart12
namespace Go.Proofs.YtccnehcpmkgbhaaGreatDoor
open Go Go.RowKit
set_option maxRecDepth 100000
set_option maxHeartbeats 1600000
theorem textOk_bytes {x : ByteArray} (h : textOkB x = true) : ∀ c, c ∈ x.data.toList → (c != 34) = true := by
 unfold textOkB at h
 simp only [Bool.and_eq_true, decide_eq_true_eq] at h
 intro c hc
 have := h.2
 rw [List.all_eq_true] at this
 have := this c hc
 unfold textByte at this
 simp only [Bool.and_eq_true] at this
 have h3 := this.2
 simp only [bne_iff_ne, ne_eq] at h3 ⊢
 intro e; subst e; exact h3 rfl
theorem text_run {x : ByteArray} (h : textOkB x = true) (rest : List UInt8) :
 (x.data.toList ++ 34 :: rest).takeWhile (· != 34) = x.data.toList ∧ (x.data.toList ++ 34 :: rest).dropWhile (· != 34) = 34 :: rest :=
 tw_append (textOk_bytes h) (fun c hc => by simp at hc; subst hc; rfl)
theorem num_run (n : Int) (rest : List UInt8) (hr : nd rest) : numRun (Lib.itoa n ++ rest) = (Lib.itoa n, rest) := by
 unfold numRun
 rcases itoa_cases n with ⟨_, e⟩ | ⟨_, e⟩
 · have h := tw_append (p := isDg) (dec_all n.toNat) hr
   rw [e, if_neg, h.1, h.2]
   obtain ⟨c, r, hcr⟩ : ∃ c r, Lib.decDigits n.toNat = c :: r := List.exists_cons_of_ne_nil (dec_ne _)
   have hc := dec_all n.toNat c (by rw [hcr]; simp)
   rw [hcr]
   simp only [List.cons_append, List.head?_cons, Option.some.injEq]
   intro e2; subst e2; revert hc; decide
 · have h := tw_append (p := isDg) (dec_all n.natAbs) hr
   rw [e]
   simp only [List.cons_append, List.head?_cons, if_true, List.tail_cons]
   rw [h.1, h.2]
theorem wlk_open {t : Tr} {p l q : Int} (h : wlk t p l = some q) : p + 1 ≤ 120 ∧ l + 1 ≤ 6 ∧ ownB t = true ∧ newB t = true ∧ wlkK t.kids (p + 1) (l + 1) = some q := by
 rw [wlk_eq] at h
 split at h
 · rename_i h0
   split at h
   · rename_i ho
     split at h
     · cases h
     · rename_i q' hk
       split at h
       · rename_i hn
         simp only [Option.some.injEq] at h
         subst h
         exact ⟨h0.1, h0.2, ho, hn, hk⟩
       · cases h
   · cases h
 · cases h
theorem wlk_make {t : Tr} {p l q : Int} (h1 : p + 1 ≤ 120) (h2 : l + 1 ≤ 6) (ho : ownB t = true) (hn : newB t = true) (hk : wlkK t.kids (p + 1) (l + 1) = some q) : wlk t p l = some q := by
 rw [wlk_eq, if_pos ⟨h1, h2⟩, if_pos ho, hk]
 simp only
 rw [if_pos hn]
theorem wlkK_head {ks : List Tr} {p l q : Int} (h : wlkK ks p l = some q) {t : Tr} (ht : t ∈ ks) : ∃ c r, txT t = c :: r ∧ hd9 c := by
 induction ks generalizing p with
 | nil => cases ht
 | cons a r ih =>
   rw [wlkK] at h
   cases hw : wlk a p l with
   | none => rw [hw] at h; cases h
   | some q1 =>
     rw [hw] at h
     rcases List.mem_cons.1 ht with rfl | ht
     · exact txT_head hw
     · exact ih h ht
theorem txK_len_ge (form : Bool) (ns : List ByteArray) (ks : List Tr) (i : Nat) (h : ∀ t, t ∈ ks → ∃ c r, txT t = c :: r ∧ hd9 c) : ks.length ≤ (txK form ns i ks).length := by
 induction ks generalizing i with
 | nil => simp
 | cons t r ih =>
   rw [txK]
   obtain ⟨c, r', e, _⟩ := h t (by simp)
   have := ih (i + 1) (fun t ht => h t (by simp [ht]))
   rw [e]
   simp only [List.length_cons, List.length_append]
   omega
theorem rdT_complete : ∀ (d : Nat) (t : Tr) (p q : Int) (rest : List UInt8), wlk t p (6 - d) = some q → nd rest → rdT d (txT t ++ rest) p = some (t, rest, q) := by
 intro d
 induction d with
 | zero =>
   intro t p q rest h _
   have := (wlk_open h).2.1
   simp at this
 | succ d ih =>
   intro t p q rest h hr
   obtain ⟨h1, h2, ho, hn, hk⟩ := wlk_open h
   have hl : (6 : Int) - ((d + 1 : Nat) : Int) + 1 = 6 - d := by omega
   rw [hl] at hk
   rw [rdT, if_neg (by omega)]
   rcases shapes ho hn with ⟨n, rfl, hn1, hn2⟩ | ⟨x, rfl, hx⟩ | ⟨n, rfl, hn1⟩ | ⟨ks, rfl, hks⟩ | ⟨ns, ks, rfl, hnl, hrs⟩ | ⟨ks, rfl, hks⟩
   · simp only [Tr.kids, wlkK, Option.some.injEq] at hk
     obtain ⟨c, r, e, hc⟩ := itoa_head n
     have htx : txT (.mk 1 n ByteArray.empty [] []) = Lib.itoa n := by rw [txT]; simp
     rw [htx, num_run n rest hr, numOf_yes hn1 hn2 rfl]
     rw [e]
     simp only [List.cons_append, List.head?_cons]
     rw [if_pos hc, hk]
   · simp only [Tr.kids, wlkK, Option.some.injEq] at hk
     have htx : txT (.mk 2 0 x [] []) ++ rest = 34 :: (x.data.toList ++ 34 :: rest) := by rw [txT]; simp
     have hrun : ((34 :: (x.data.toList ++ 34 :: rest)).tail).takeWhile (· != 34) = x.data.toList ∧ ((34 :: (x.data.toList ++ 34 :: rest)).tail).dropWhile (· != 34) = 34 :: rest := text_run hx rest
     rw [htx]
     simp only [List.head?_cons]
     rw [if_neg (by decide), if_pos (by decide), if_pos ⟨by rw [hrun.2]; rfl, by rw [hrun.1]; exact hx⟩, hrun.1, hrun.2, hk]
     rfl
   · simp only [Tr.kids, wlkK, Option.some.injEq] at hk
     rcases hn1 with rfl | rfl
     · have htx : txT (.mk 3 0 ByteArray.empty [] []) ++ rest = 110 :: 111 :: rest := by rw [txT]; simp
       rw [htx]
       simp only [List.head?_cons]
       rw [if_neg (by decide), if_neg (by decide), if_pos (by decide), if_neg (by simp), if_pos (by simp), hk]
       rfl
     · have htx : txT (.mk 3 1 ByteArray.empty [] []) ++ rest = 121 :: 101 :: 115 :: rest := by rw [txT]; simp
       rw [htx]
       simp only [List.head?_cons]
       rw [if_neg (by decide), if_neg (by decide), if_pos (by decide), if_pos (by simp), hk]
       rfl
   · simp only [Tr.kids] at hk
     have htx : txT (.mk 4 0 ByteArray.empty [] ks) ++ rest = 91 :: (txK false [] 0 ks ++ 93 :: rest) := by rw [txT]; simp
     have hlp := lp_complete (rdT d) false 93 (Or.inl rfl) [] (fun h => by cases h) (fun t p => wlk t p (6 - d)) (fun t st st' rest h hr => ih t st st' rest h hr) (fun t st st' h => txT_head h) ks ((txT (.mk 4 0 ByteArray.empty [] ks) ++ rest).length + 1) [] (p + 1) q rest (by rw [htx]; have := txK_len_ge false [] ks 0 (fun t ht => wlkK_head hk ht); simp; omega) (by rw [foldK_wlk]; exact hk) (fun h => by cases h)
     rw [htx] at hlp ⊢
     simp only [List.head?_cons, List.tail_cons]
     rw [if_neg (by decide), if_neg (by decide), if_neg (by decide), if_pos (by decide)]
     simp only [List.length_nil, Bool.false_eq_true, if_false] at hlp
     rw [hlp]
     simp only [List.nil_append]
     rw [if_pos hks]
   · simp only [Tr.kids] at hk
     have htx : txT (.mk 5 0 ByteArray.empty ns ks) ++ rest = 123 :: (txK true ns 0 ks ++ 125 :: rest) := by rw [txT]; simp
     have hlp := lp_complete (rdT d) true 125 (Or.inr rfl) ns (fun _ => hrs) (fun t p => wlk t p (6 - d)) (fun t st st' rest h hr => ih t st st' rest h hr) (fun t st st' h => txT_head h) ks ((txT (.mk 5 0 ByteArray.empty ns ks) ++ rest).length + 1) [] (p + 1) q rest (by rw [htx]; have := txK_len_ge true ns ks 0 (fun t ht => wlkK_head hk ht); simp; omega) (by rw [foldK_wlk]; exact hk) (fun _ => by simp [hnl])
     rw [htx] at hlp ⊢
     simp only [List.head?_cons, List.tail_cons]
     rw [if_neg (by decide), if_neg (by decide), if_neg (by decide), if_neg (by decide), if_pos (by decide)]
     simp only [List.length_nil, if_true, List.take_zero] at hlp
     rw [hlp]
     simp only [List.nil_append]
     rw [if_pos hrs]
   · simp only [Tr.kids] at hk
     cases ks with
     | nil =>
       simp only [wlkK, Option.some.injEq] at hk
       have htx : txT (.mk 6 0 ByteArray.empty [] []) ++ rest = 126 :: rest := by rw [txT]; simp
       rw [htx]
       simp only [List.head?_cons, List.tail_cons]
       rw [if_neg (by decide), if_neg (by decide), if_neg (by decide), if_neg (by decide), if_neg (by decide), if_pos (by decide), hk]
     | cons t r =>
       have hr0 : r = [] := by simp at hks; exact hks
       subst hr0
       have htx : txT (.mk 6 0 ByteArray.empty [] [t]) ++ rest = 63 :: (txT t ++ rest) := by rw [txT]; simp [txM]
       rw [wlkK] at hk
       cases hw : wlk t (p + 1) (6 - d) with
       | none => rw [hw] at hk; cases hk
       | some q1 =>
         rw [hw] at hk
         simp only [wlkK, Option.some.injEq] at hk
         subst hk
         rw [htx]
         simp only [List.head?_cons, List.tail_cons]
         rw [if_neg (by decide), if_neg (by decide), if_neg (by decide), if_neg (by decide), if_neg (by decide), if_neg (by decide), if_pos (by decide), ih t (p + 1) q1 rest hw hr]

theorem cma_some {n : Nat} {inp i1 : List UInt8} (h : cma n inp = some i1) : inp = (if 0 < n then [44] else []) ++ i1 := by
 unfold cma at h
 split at h
 · rename_i h0
   simp only [Option.some.injEq] at h
   rw [if_neg (by omega), h]; rfl
 · rename_i h0
   split at h
   · rename_i h1
     simp only [Option.some.injEq] at h
     rw [if_pos (by omega)]
     cases inp with
     | nil => simp at h1
     | cons a b => simp at h1 h; subst h1 h; rfl
   · cases h
theorem head_tail {l : List UInt8} {c : UInt8} (h : l.head? = some c) : l = c :: l.tail := by
 cases l with
 | nil => simp at h
 | cons a b => simp at h; subst h; rfl
theorem nmr_some {form : Bool} {ns ns' : List ByteArray} {inp i2 : List UInt8} (h : nmr form ns inp = some (ns', i2)) :
 (form = true → ∃ nm : ByteArray, ns' = ns ++ [nm] ∧ inp = nm.data.toList ++ (58 :: i2)) ∧ (form = false → ns' = ns ∧ inp = i2) := by
 unfold nmr at h
 cases form with
 | false => simp at h; exact ⟨(fun h => by cases h), fun _ => ⟨h.1.symm, h.2⟩⟩
 | true =>
   simp only [if_true] at h
   split at h
   · rename_i h1
     simp only [Option.some.injEq, Prod.mk.injEq] at h
     refine ⟨fun _ => ⟨_, h.1.symm, ?_⟩, fun h => by cases h⟩
     show inp = (inp.takeWhile nameByte) ++ 58 :: i2
     rw [← h.2, ← head_tail h1, List.takeWhile_append_dropWhile]
   · cases h
theorem lp_sound {σ : Type} (rd : List UInt8 → σ → Option (Tr × List UInt8 × σ)) (form : Bool) (e : UInt8) (stp : Tr → σ → Option σ)
 (hrd : ∀ i st t r st', rd i st = some (t, r, st') → i = txT t ++ r ∧ stp t st = some st') :
 ∀ (f : Nat) (ns0 : List ByteArray) (ks0 : List Tr) (inp : List UInt8) (st : σ) (ns : List ByteArray) (ks : List Tr) (rest : List UInt8) (st' : σ), lp rd form e f ns0 ks0 inp st = some (ns, ks, rest, st') → (form = true → ns0.length = ks0.length) →
   ∃ nsn ksn, ns = ns0 ++ nsn ∧ ks = ks0 ++ ksn ∧ (form = true → nsn.length = ksn.length) ∧ (form = false → nsn = []) ∧ inp = txK form ns ks0.length ksn ++ e :: rest ∧ foldK stp ksn st = some st' := by
 intro f
 induction f with
 | zero => intro ns0 ks0 inp st ns ks rest st' h; rw [lp] at h; cases h
 | succ f ih =>
   intro ns0 ks0 inp st ns ks rest st' h hl
   rw [lp] at h
   split at h
   · rename_i h1
     simp only [Option.some.injEq, Prod.mk.injEq] at h
     obtain ⟨rfl, rfl, rfl, rfl⟩ := h
     exact ⟨[], [], by simp, by simp, fun _ => rfl, fun _ => rfl, by rw [txK]; exact head_tail h1, rfl⟩
   · split at h
     · cases h
     · rename_i i1 hc
       split at h
       · cases h
       · rename_i ns' i2 hn
         split at h
         · cases h
         · rename_i t i3 st1 hr
           obtain ⟨hi2, hst⟩ := hrd _ _ _ _ _ hr
           have hcm := cma_some hc
           obtain ⟨hnt, hnf⟩ := nmr_some hn
           obtain ⟨nsn, ksn, e1, e2, e3, e4, e5, e6⟩ := ih ns' (ks0 ++ [t]) i3 st1 ns ks rest st' h (fun hf => by
            obtain ⟨nm, hnm, _⟩ := hnt hf
            rw [hnm]; simp [hl hf])
           have hlen : (ks0 ++ [t]).length = ks0.length + 1 := by simp
           rw [hlen] at e5
           cases form with
           | false =>
             obtain ⟨rfl, hi1⟩ := hnf rfl
             refine ⟨nsn, t :: ksn, e1, by rw [e2]; simp, (fun h => by cases h), e4, ?_, ?_⟩
             · rw [txK, ahead, hcm, hi1, hi2, e5]; simp
             · rw [foldK, hst]; exact e6
           | true =>
             obtain ⟨nm, rfl, hi1⟩ := hnt rfl
             refine ⟨nm :: nsn, t :: ksn, by rw [e1]; simp, by rw [e2]; simp, (fun h => by simp [e3 h]), (fun h => by cases h), ?_, ?_⟩
             · have hg : ns.getD ks0.length ByteArray.empty = nm := by
                rw [e1, ← hl rfl]; simp
               rw [txK, ahead, hg, hcm, hi1, hi2, e5]; simp
             · rw [foldK, hst]; exact e6
theorem num_join (inp : List UInt8) : (numRun inp).1 ++ (numRun inp).2 = inp := by
 unfold numRun
 split
 · rename_i h
   simp only [List.cons_append, List.takeWhile_append_dropWhile]
   exact (head_tail h).symm
 · simp only [List.takeWhile_append_dropWhile]
theorem rdT_sound : ∀ (d : Nat) (inp : List UInt8) (p : Int) (t : Tr) (rest : List UInt8) (q : Int), d ≤ 6 → rdT d inp p = some (t, rest, q) → inp = txT t ++ rest ∧ wlk t p (6 - d) = some q := by
 intro d
 induction d with
 | zero => intro inp p t rest q _ h; rw [rdT] at h; cases h
 | succ d ih =>
   intro inp p t rest q hd h
   have hl : (6 : Int) - ((d + 1 : Nat) : Int) + 1 = 6 - d := by omega
   have hl2 : (6 : Int) - ((d + 1 : Nat) : Int) + 1 ≤ 6 := by omega
   have hmk : ∀ {t : Tr} {q : Int}, p + 1 ≤ 120 → ownB t = true → newB t = true → wlkK t.kids (p + 1) (6 - d) = some q → wlk t p (6 - ((d + 1 : Nat) : Int)) = some q := fun h1 ho hn hk => wlk_make h1 hl2 ho hn (by rw [hl]; exact hk)
   have hlps := fun (form : Bool) (e : UInt8) => lp_sound (rdT d) form e (fun t p => wlk t p (6 - d)) (fun i st t r st' h => ih i st t r st' (by omega) h)
   rw [rdT] at h
   split at h
   · cases h
   rename_i hp
   have hp1 : p + 1 ≤ 120 := by omega
   split at h
   · cases h
   rename_i c hhd
   have hht := head_tail hhd
   split at h
   · split at h
     · cases h
     · rename_i n hnum
       simp only [Option.some.injEq, Prod.mk.injEq] at h
       obtain ⟨rfl, rfl, rfl⟩ := h
       obtain ⟨n0, n1, hit⟩ := numOf_some hnum
       refine ⟨?_, hmk hp1 (by simp [ownB, Tr.sort, Tr.text, Tr.names, Tr.kids, ByteArray.toList_empty]) (by simp [newB, Tr.sort, Tr.num, n0, n1]) (by simp [Tr.kids, wlkK])⟩
       rw [txT]
       simp only [if_true]
       rw [hit, num_join]
   split at h
   · rename_i hc
     subst hc
     split at h
     · rename_i h1
       simp only [Option.some.injEq, Prod.mk.injEq] at h
       obtain ⟨rfl, rfl, rfl⟩ := h
       refine ⟨?_, hmk hp1 (by simp [ownB, Tr.sort, Tr.num, Tr.names, Tr.kids]) (by simp [newB, Tr.sort, Tr.text, h1.2]) (by simp [Tr.kids, wlkK])⟩
       rw [txT]
       simp only [Int.reduceEq, if_false, if_true, List.cons_append, List.nil_append, List.append_assoc]
       rw [← head_tail h1.1, List.takeWhile_append_dropWhile]
       exact hht
     · cases h
   split at h
   · split at h
     · rename_i h1
       simp only [Option.some.injEq, Prod.mk.injEq] at h
       obtain ⟨rfl, rfl, rfl⟩ := h
       refine ⟨?_, hmk hp1 (by simp [ownB, Tr.sort, Tr.text, Tr.names, Tr.kids, ByteArray.toList_empty]) (by simp [newB, Tr.sort, Tr.num]) (by simp [Tr.kids, wlkK])⟩
       rw [List.isPrefixOf_iff_prefix] at h1
       obtain ⟨r, hr⟩ := h1
       rw [txT, ← hr]
       simp
     · split at h
       · rename_i h1
         simp only [Option.some.injEq, Prod.mk.injEq] at h
         obtain ⟨rfl, rfl, rfl⟩ := h
         refine ⟨?_, hmk hp1 (by simp [ownB, Tr.sort, Tr.text, Tr.names, Tr.kids, ByteArray.toList_empty]) (by simp [newB, Tr.sort, Tr.num]) (by simp [Tr.kids, wlkK])⟩
         rw [List.isPrefixOf_iff_prefix] at h1
         obtain ⟨r, hr⟩ := h1
         rw [txT, ← hr]
         simp
       · cases h
   split at h
   · rename_i hc
     subst hc
     split at h
     · cases h
     · rename_i ns ks rst q1 hlp
       split at h
       · rename_i h20
         simp only [Option.some.injEq, Prod.mk.injEq] at h
         obtain ⟨rfl, rfl, rfl⟩ := h
         obtain ⟨nsn, ksn, e1, e2, e3, e4, e5, e6⟩ := hlps false 93 _ _ _ _ _ _ _ _ _ hlp (fun h => by cases h)
         rw [foldK_wlk] at e6
         simp only [List.nil_append] at e1 e2
         subst e1 e2
         have e4' := e4 rfl
         subst e4'
         refine ⟨?_, hmk hp1 (by simp [ownB, Tr.sort, Tr.num, Tr.text, Tr.names, ByteArray.toList_empty]) (by simp [newB, Tr.sort, Tr.kids, h20]) e6⟩
         rw [hht, e5, txT]
         simp
       · cases h
   split at h
   · rename_i hc
     subst hc
     split at h
     · cases h
     · rename_i ns ks rst q1 hlp
       split at h
       · rename_i h20
         simp only [Option.some.injEq, Prod.mk.injEq] at h
         obtain ⟨rfl, rfl, rfl⟩ := h
         obtain ⟨nsn, ksn, e1, e2, e3, e4, e5, e6⟩ := hlps true 125 _ _ _ _ _ _ _ _ _ hlp (fun _ => rfl)
         rw [foldK_wlk] at e6
         simp only [List.nil_append] at e1 e2
         subst e1 e2
         refine ⟨?_, hmk hp1 (by simp [ownB, Tr.sort, Tr.num, Tr.text, ByteArray.toList_empty]) (by simp [newB, Tr.sort, Tr.names, Tr.kids, h20, e3 rfl]) e6⟩
         rw [hht, e5, txT]
         simp
       · cases h
   split at h
   · rename_i hc
     subst hc
     simp only [Option.some.injEq, Prod.mk.injEq] at h
     obtain ⟨rfl, rfl, rfl⟩ := h
     refine ⟨?_, hmk hp1 (by simp [ownB, Tr.sort, Tr.num, Tr.text, Tr.names, ByteArray.toList_empty]) (by simp [newB, Tr.sort, Tr.kids]) (by simp [Tr.kids, wlkK])⟩
     rw [txT]
     simpa using hht
   split at h
   · rename_i hc
     subst hc
     split at h
     · cases h
     · rename_i t1 rst q1 hrec
       simp only [Option.some.injEq, Prod.mk.injEq] at h
       obtain ⟨rfl, rfl, rfl⟩ := h
       obtain ⟨g1, g2⟩ := ih _ _ _ _ _ (by omega) hrec
       refine ⟨?_, hmk hp1 (by simp [ownB, Tr.sort, Tr.num, Tr.text, Tr.names, ByteArray.toList_empty]) (by simp [newB, Tr.sort, Tr.kids]) (by simp [Tr.kids, wlkK, g2])⟩
       rw [hht, g1, txT]
       simp [txM]
   · cases h
noncomputable def progRd (L : List UInt8) : Option Tr := match rdT 6 L 0 with
 | some (t, [], _) => some t
 | _ => none
theorem nd_nil : nd [] := fun c hc => by simp at hc
theorem rdT_len (d : Nat) (hd : d ≤ 6) (inp : List UInt8) (p : Int) (t : Tr) (rest : List UInt8) (q : Int) (h : rdT d inp p = some (t, rest, q)) : rest.length < inp.length := by
 obtain ⟨h1, h2⟩ := rdT_sound d inp p t rest q hd h
 obtain ⟨c, r, e, _⟩ := txT_head h2
 rw [h1, e]
 simp
 omega

def gTop : Nat := max (max 2 3) 4 + 1
theorem gTop_syn : 2 < gTop := by decide
theorem gTop_rng : 3 < gTop := by decide
theorem gTop_pow : 4 < gTop := by decide
theorem gPow : Tryz.prog.globalNamed "internal/strconv.uint64pow10" = some 4 := by kernel_rfl
structure Env (w : World) : Prop where
 pow : Lib.TabIs Tryz.prog w "internal/strconv.uint64pow10" .u64 Lib.pow10Tab
 syn : ∃ ev, w.cell? ⟨2, 0, none⟩ = some ev ∧ (ev = .nilIface ∨ ∃ te pe, ev = .iface te pe)
 rng : ∃ ev, w.cell? ⟨3, 0, none⟩ = some ev ∧ (ev = .nilIface ∨ ∃ te pe, ev = .iface te pe)
theorem Env.keep {w w' : World} (h : Env w) (hb : ∀ b, b < gTop → w'.heap[b]? = w.heap[b]?) : Env w' := by
 refine ⟨?_, ?_, ?_⟩
 · have hp := h.pow
   unfold Lib.TabIs World.var? at hp ⊢
   rw [gPow] at hp ⊢
   simp only [Option.bind_some] at hp ⊢
   rw [hb _ gTop_pow]
   exact hp
 · obtain ⟨ev, h1, h2⟩ := h.syn
   exact ⟨ev, by rw [World.cell?_of_block (w := w) (hb _ gTop_syn)]; exact h1, h2⟩
 · obtain ⟨ev, h1, h2⟩ := h.rng
   exact ⟨ev, by rw [World.cell?_of_block (w := w) (hb _ gTop_rng)]; exact h1, h2⟩
theorem Env.top {w : World} (h : Env w) : gTop ≤ w.heap.size := by
 obtain ⟨e1, h1, -⟩ := h.syn
 obtain ⟨e2, h2, -⟩ := h.rng
 have h3 : 4 < w.heap.size := by
  have hp := h.pow
  unfold Lib.TabIs World.var? at hp
  rw [gPow] at hp
  simp only [Option.bind_some] at hp
  rcases Nat.lt_or_ge 4 w.heap.size with h' | h'
  · exact h'
  · rw [Array.getElem?_eq_none h'] at hp; cases hp
 have h1 := World.block_lt_of_cell? w _ h1
 have h2 := World.block_lt_of_cell? w _ h2
 exact Nat.succ_le_of_lt (Nat.max_lt.2 ⟨Nat.max_lt.2 ⟨h1, h2⟩, h3⟩)
theorem Env.below {w w' : World} (h : Env w) (hb : Below w.heap.size w w') : Env w' := h.keep fun b hl => hb.block b (Nat.lt_of_lt_of_le hl h.top)
theorem Env.but {w w' : World} {R : Nat} (h : Env w) (hb : But R w w') (hR : gTop ≤ R) : Env w' := h.keep fun b hl => hb.at (Nat.lt_of_lt_of_le hl h.top) (by omega)
theorem Env.drewN {w : World} (h : Env w) (n : Nat) : Env (w.drewN n) := h.keep fun _ _ => rfl
theorem atoi_any (W : ByteArray) (hl : W.size ≤ 1048576) (w : World) (hE : Env w) :
 Calls Tryz.prog 100 #[.string W] w fun e w' => Below w.heap.size w w' ∧ ((∃ n, Lib.atoiAll W.data.toList = .ok n ∧ e = .returned (.tuple #[.int .i64 n, .nilIface])) ∨ ((∀ n, Lib.atoiAll W.data.toList ≠ .ok n) ∧ ∃ m N, e = .returned (.tuple #[.int .i64 m, .iface 163 (.pointer (some ⟨N, 0, none⟩))]))) := by
 cases h : Lib.atoiAll W.data.toList with
 | ok n =>
   refine (Tryz.strconv_Atoi_ok W (by omega) n h w).mono ?_
   rintro e w' ⟨rfl, hw⟩
   refine ⟨?_, Or.inl ⟨n, rfl, rfl⟩⟩
   rcases hw with rfl | ⟨t, rfl⟩
   · exact Below.refl _ _
   · exact Lib.bytesWorld_below _ _ _
 | «syntax» =>
   obtain ⟨ev, h1, h2⟩ := hE.syn
   refine (Tryz.strconv_Atoi_syntax W (by omega) h ev w h1 h2).mono ?_
   rintro e w' ⟨N, rfl, -, -, hb⟩
   refine ⟨hb, Or.inr ⟨fun n h => ?_, _, _, rfl⟩⟩
   cases h
 | range =>
   obtain ⟨ev, h1, h2⟩ := hE.rng
   refine (Tryz.strconv_Atoi_range W (by omega) h ev w h1 h2).mono ?_
   rintro e w' ⟨N, rfl, -, -, hb⟩
   refine ⟨hb, Or.inr ⟨fun n h => ?_, _, _, rfl⟩⟩
   cases h
theorem below_grow (w : World) (k : Nat) (os : Array Obj) : Below w.heap.size w (Go.Sort.grow (w.drewN k) os) := by
 refine ⟨rfl, rfl, rfl, ?_, fun i hi => ?_⟩
 · show w.heap.size ≤ (w.heap ++ os).size
   simp
 · show (w.heap ++ os)[i]? = w.heap[i]?
   rw [Array.getElem?_append_left hi]
theorem itoa_walk (n : Int) (h0 : -9223372036854775808 ≤ n) (h1 : n ≤ 9223372036854775807) (w : World) (hE : Env w) :
 Calls Tryz.prog 101 #[.int .i64 n] w fun e w' => e = .returned (.string ⟨(Lib.itoa n).toArray⟩) ∧ Below w.heap.size w w' := by
 refine (Tryz.strconv_Itoa n h0 h1 w hE.pow).mono ?_
 rintro e w' ⟨rfl, k, os, rfl⟩
 exact ⟨rfl, below_grow _ _ _⟩
structure Mg (R o : Nat) (w w' : World) : Prop where
 but : But R w w'
 cell : ∀ j, j ≠ o → w'.cell? ⟨R, j, none⟩ = w.cell? ⟨R, j, none⟩
 frz : ∀ j, w'.frozen? ⟨R, j, none⟩ = w.frozen? ⟨R, j, none⟩
theorem Mv.mg {R o : Nat} {w w' : World} (h : Mv R o w w') : Mg R o w w' := ⟨h.but, h.cell, h.frz⟩
theorem Mg.trans {R o : Nat} {a b c : World} (h : Mg R o a b) (k : Mg R o b c) : Mg R o a c := ⟨h.but.trans k.but, fun j hj => (k.cell j hj).trans (h.cell j hj), fun j => (k.frz j).trans (h.frz j)⟩
theorem Mg.below {R o : Nat} {w w' : World} (hb : Below w.heap.size w w') (hR : R < w.heap.size) : Mg R o w w' :=
 ⟨⟨hb.os, hb.tape, hb.output, hb.size, fun i hi _ => hb.block i hi⟩, fun j _ => World.cell?_of_block (a := ⟨R, j, none⟩) (hb.block R hR), fun j => World.frozen?_of_block (a := ⟨R, j, none⟩) (hb.block R hR)⟩
theorem Tx.lt {w : World} {R o : Nat} {s : ByteArray} {a : Nat} (h : Tx w R o s a) : R < w.heap.size := World.block_lt_of_cell? w _ h.c0
theorem xskip_any (w : World) (R o : Nat) (s : ByteArray) (a : Nat) (c : UInt8) (hs : s.size ≤ 1048576) (h : Tx w R o s a) (ha : a ≤ s.size) :
 Calls Tryz.prog 83 #[.pointer (some ⟨R, o, none⟩), .string (w1 c)] w fun e w' => e = .returned (.bool (decide ((lf s a).head? = some c))) ∧ Tx w' R o s (if (lf s a).head? = some c then a + 1 else a) ∧ Mv R (o + 1) w w' := by
 by_cases hh : (lf s a).head? = some c
 · rw [if_pos hh, decide_eq_true hh]
   exact xskip_yes w R o s (w1 c) a hs h ha (by show 0 < 1; decide) (by show 1 ≤ 16; decide) (by rw [pre_one]; exact decide_eq_true hh)
 · rw [if_neg hh, decide_eq_false hh]
   refine (xskip_no w R o s (w1 c) a h ha (by rw [pre_one]; exact decide_eq_false hh)).mono ?_
   rintro e w' ⟨rfl, m, rfl⟩
   exact ⟨rfl, h.drewN m, (Mv.refl _ _ _).drewN m⟩
theorem ext_take (s : ByteArray) (a n : Nat) : (s.extract a (a + n)).data.toList = (lf s a).take n := by
 unfold lf
 simp [List.take_drop]
theorem tw_take {p : UInt8 → Bool} (l : List UInt8) : l.take (l.takeWhile p).length = l.takeWhile p := (List.prefix_iff_eq_take.1 (List.takeWhile_prefix p)).symm
def nAt (s : ByteArray) (a : Nat) : Nat := if (lf s a).head? = some 45 then a + 1 else a
theorem num_at {s : ByteArray} {a : Nat} (ha : a ≤ s.size) : a ≤ nAt s a ∧ nAt s a ≤ s.size ∧ (s.extract a (nAt s a + rn isDg s (nAt s a))).data.toList = (numRun (lf s a)).1 ∧ lf s (nAt s a + rn isDg s (nAt s a)) = (numRun (lf s a)).2 := by
 unfold nAt numRun
 by_cases hh : (lf s a).head? = some 45
 · rw [if_pos hh, if_pos hh]
   have hlt : a < s.size := by
    have := lf_len s a
    cases hl : lf s a with
    | nil => rw [hl] at hh; simp at hh
    | cons c r => rw [hl] at this; simp at this; omega
   refine ⟨by omega, by omega, ?_, ?_⟩
   · rw [show a + 1 + rn isDg s (a + 1) = a + (rn isDg s (a + 1) + 1) from by omega, ext_take]
     have e := head_tail hh
     rw [← lf_next] at e
     unfold rn
     rw [e, List.take_succ_cons, tw_take]
     simp
   · rw [rn_drop, lf_next]
 · rw [if_neg hh, if_neg hh]
   refine ⟨Nat.le_refl _, ha, ?_, rn_drop _ _ _⟩
   rw [ext_take]
   unfold rn
   rw [tw_take]
theorem str_beq (l : List UInt8) (W : ByteArray) : (l == W.toList) = decide (l = W.data.toList) := by
 rw [toList_data, Bool.eq_iff_iff]
 simp
theorem number_any (w : World) (R o : Nat) (s : ByteArray) (a : Nat) (hs : s.size ≤ 1048576) (h : Tx w R o s a) (ha : a ≤ s.size) (hE : Env w) (hR : gTop ≤ R) :
 Calls Tryz.prog 78 #[.pointer (some ⟨R, o, none⟩)] w fun e w' => Mg R (o + 1) w w' ∧ Tx w' R o s (nAt s a + rn isDg s (nAt s a)) ∧
  ((∃ n, Lib.atoiAll (numRun (lf s a)).1 = .ok n ∧ Lib.itoa n = (numRun (lf s a)).1 ∧ e = .returned (.int .i64 n)) ∨ ((∀ n, Lib.atoiAll (numRun (lf s a)).1 = .ok n → Lib.itoa n ≠ (numRun (lf s a)).1) ∧ e = fltE)) := by
 obtain ⟨h1, h2, h3, -⟩ := num_at (s := s) (a := a) ha
 have hsk := xskip_any w R o s a 45 hs h ha
 have hrl := rn_le isDg s (nAt s a) h2
 rw [show (if (lf s a).head? = some 45 then a + 1 else a) = nAt s a from rfl] at hsk
 rw [← h3]
 have hrn := fun W (hW : Tx W R o s (nAt s a)) => xrun_digit W R o s (nAt s a) hs hW h2
 obtain ⟨c0, c1, f1⟩ := h
 generalize nAt s a = a1 at *
 generalize hr : rn isDg s a1 = r at *
 generalize decide ((lf s a).head? = some 45) = b0 at *
 generalize hX : s.extract a (a1 + r) = X at *
 have hXs : X.size ≤ 1048576 := by
  rw [← hX, ByteArray.size_extract]; omega
 have HSK := hH hsk; have HRN := hH hrn; have HE := hH hE
 have hi0 : (0 : Int) ≤ (a : Int) := by omega
 have hi1 : (a : Int) ≤ (a1 : Int) + (r : Int) := by omega
 have hi2 : (a1 : Int) + (r : Int) ≤ (s.size : Int) := by omega
 have HX := hH hX
 clear hsk hrn hE hr hX h3
 go_enter Tryz.func78, Tryz.ntmps78
 go_wp2_with (first
  | (go_at_call 83; refine (uh HSK).mono ?_; rintro e w2 ⟨rfl, hr2, hm2⟩; have HR2 := hH hr2; have HM2 := hH hm2; clear hr2 hm2)
  | (go_at_call 80; refine (uh HRN _ (uh HR2)).mono ?_; rintro e w3 ⟨rfl, hr3, hm3⟩; have HR3 := hH hr3; have HM3 := hH ((uh HM2).trans hm3); clear hr3 hm3 HSK HRN HR2 HM2 c0 c1 f1; obtain ⟨c0, c1, f1⟩ := uh HR3))
 go_quiet (fail)
 rw [uh HX]
 have hlt := (uh HR3).lt
 have hE3 := ((uh HE).but (uh HM3).mg.but hR).drewN nq
 have HAT := hH (atoi_any X hXs (w3.drewN nq) hE3)
 have HE3 := hH hE3
 clear hE3 HE c0 c1 f1
 go_wp2_with fail
 refine (uh HAT).mono ?_
 rintro e w4 ⟨hb4, ⟨n, hn, rfl⟩ | ⟨hn, m, N, rfl⟩⟩
 · obtain ⟨hn0, hn1⟩ := Lib.atoiAll_bounds hn
   have hmg4 : Mg R (o + 1) w w4 := ((uh HM3).drewN nq).mg.trans (Mg.below hb4 hlt)
   have htx4 : Tx w4 R o s (a1 + r) := ((uh HR3).drewN nq).of_block (hb4.block R hlt)
   have HIT := hH (itoa_walk n hn0 hn1 w4 ((uh HE3).below hb4))
   have HN := hH hn; have HG4 := hH hmg4; have HT4 := hH htx4
   have hlt4 := htx4.lt
   clear hn hmg4 htx4 hb4 HAT HE3 HR3 HM3
   by_cases hx : Lib.itoa n = X.data.toList
   · have hbe : (Lib.itoa n == X.toList) = true := by rw [str_beq]; exact decide_eq_true hx
     have HXX := hH hx
     clear hx
     go_wp2_with (first
      | (go_at_call 101; refine (uh HIT).mono ?_; rintro e w5 ⟨rfl, hb5⟩; have HB5 := hH hb5; clear hb5)
      | (go_at_call 63; refine (treeWant_yes _).mono ?_; rintro e w6 ⟨rfl, rfl⟩))
     go_ret
     exact ⟨(uh HG4).trans (Mg.below (uh HB5) hlt4), (uh HT4).of_block ((uh HB5).block R hlt4), Or.inl ⟨n, uh HN, uh HXX, rfl⟩⟩
   · have hbe : (Lib.itoa n == X.toList) = false := by rw [str_beq]; exact decide_eq_false hx
     have HXX := hH hx
     clear hx
     go_wp2_with (first
      | (go_at_call 101; refine (uh HIT).mono ?_; rintro e w5 ⟨rfl, hb5⟩; have HB5 := hH hb5; clear hb5)
      | (go_at_call 63; refine (treeWant_no _).mono ?_; rintro e w6 ⟨rfl, rfl⟩))
     refine ⟨rfl, (uh HG4).trans (Mg.below (uh HB5) hlt4), (uh HT4).of_block ((uh HB5).block R hlt4), Or.inr ⟨fun k hk => ?_, rfl⟩⟩
     have := (uh HN).symm.trans hk
     cases this
     exact uh HXX
 · have hmg4 : Mg R (o + 1) w w4 := ((uh HM3).drewN nq).mg.trans (Mg.below hb4 hlt)
   have htx4 : Tx w4 R o s (a1 + r) := ((uh HR3).drewN nq).of_block (hb4.block R hlt)
   have HN := hH hn; have HG4 := hH hmg4; have HT4 := hH htx4
   clear hn hmg4 htx4 hb4 HAT HE3 HR3 HM3
   go_wp2_with (go_at_call 63; refine (treeWant_no _).mono ?_; rintro e w6 ⟨rfl, rfl⟩)
   exact ⟨rfl, uh HG4, uh HT4, Or.inr ⟨fun k hk => absurd hk (uh HN k), rfl⟩⟩

theorem namesAscend_any (v : Value) (ss : List ByteArray) (w : World) {P : Nat → Prop} (hP : ∀ b, P b → b < w.heap.size) (hv : StrsAt P w v ss) :
 Calls Tryz.prog 75 #[v] w fun e w' => e = .returned (.bool (riseB ss)) ∧ w' = w := by
 obtain ⟨a, cap, rfl, hlen, hc⟩ := hv
 have HC := hH hc; have HP := hH hP
 clear hc hP
 go_enter Tryz.func75, Tryz.ntmps75
 go_wp2_with fail
 go_loop [7] (fun i => ∃ (k : Nat), k ≤ ss.length ∧ i = .int .i64 k ∧ Hid (∀ j, j < k → good ss j = true)) (fun i => ss.length - (intOf i).toNat)
 case atStart => exact ⟨0, Nat.zero_le _, rfl, hH (fun j hj => by omega)⟩
 case round =>
  obtain ⟨k, hk, rfl, HG⟩ := hrel
  by_cases hlt : k < ss.length
  · obtain ⟨b, o, rfl, hpb, hcell, hsz⟩ := uh HC k hlt
    have hname := fun w => nameOk_any ss[k] w hsz
    have HN := hH hname; clear hname hpb
    by_cases hn : nameOkB ss[k] = true
    · by_cases h0 : 0 < k
      · obtain ⟨b', o', he, -, e0, -⟩ := uh HC (k - 1) (by omega)
        simp only [Option.some.injEq, Addr.mk.injEq, and_true] at he
        obtain ⟨rfl, rfl⟩ := he
        have hd0 : decide ((0 : Int) < k) = true := by simp; omega
        have hgd := good_pos hlt h0 hn
        generalize hlb : Op.bytesLess (ss[k - 1]'(by omega)).toList ss[k].toList = lb at hgd
        have hi1 : ((k : Int) - 1).toNat = k - 1 := by omega
        have HGD := hH hgd
        clear hgd
        have hge := geqS
        cases lb
        · have HR := hH (rise_no hlt (uh HGD))
          go_wp2_with (go_at_call 98; refine (uh HN _).mono ?_; rintro e w' ⟨rfl, rfl⟩)
          go_ret
          exact ⟨ret_bool (uh HR).symm, rfl⟩
        · go_wp2_with (go_at_call 98; refine (uh HN _).mono ?_; rintro e w' ⟨rfl, rfl⟩)
          go_round
          case rel => exact ⟨k + 1, by omega, by go_num, hH (fun j hj => by
           by_cases e : j = k
           · subst e; exact uh HGD
           · exact HG.out j (by omega))⟩
          case measure => simp [intOf]; omega
      · have hd0 : decide (0 < k) = false := by simp; omega
        have HK0 : Hid (k = 0) := by show k = 0; omega
        clear h0
        go_wp2_with (go_at_call 98; refine (uh HN _).mono ?_; rintro e w' ⟨rfl, rfl⟩)
        go_round
        case rel => exact ⟨k + 1, by omega, by go_num, hide (fun j hj => by have := HK0.out; subst this; obtain rfl : j = 0 := by omega
                                                                            exact good_zero hlt hn)⟩
        case measure => simp [intOf]; omega
    · have hn' : nameOkB ss[k] = false := by simpa using hn
      have HR := hH (rise_no hlt (good_name hlt hn'))
      clear hn
      go_wp2_with (go_at_call 98; refine (uh HN _).mono ?_; rintro e w' ⟨rfl, rfl⟩)
      go_ret
      exact ⟨ret_bool (uh HR).symm, rfl⟩
  · go_wp2_with fail
    go_ret
    exact ⟨ret_bool (rise_yes (fun i hi => HG.out i (by omega))).symm, rfl⟩

theorem newNum_yes (n : Int) (w : World) (h : -999999999 ≤ n ∧ n ≤ 999999999) : Calls Tryz.prog 77 #[.int .i64 n] w fun e w' => e = .returned (.int .i64 n) ∧ w' = w := by
 obtain ⟨h1, h2⟩ := h
 have d2 : decide (n ≤ 999999999) = true := by simp; omega
 go_enter Tryz.func77, Tryz.ntmps77
 go_wp2_with (go_at_call 63; refine (treeWant_yes _).mono ?_; rintro e w' ⟨rfl, rfl⟩)
 go_ret
 exact ⟨rfl, rfl⟩
theorem newNum_no (n : Int) (w : World) (h : ¬ (-999999999 ≤ n ∧ n ≤ 999999999)) : Calls Tryz.prog 77 #[.int .i64 n] w fun e w' => e = fltE ∧ w' = w := by
 have h' : n < -999999999 ∨ 999999999 < n := by omega
 clear h
 rcases h' with h | h
 · go_enter Tryz.func77, Tryz.ntmps77
   go_wp2_with (go_at_call 63; refine (treeWant_no _).mono ?_; rintro e w' ⟨rfl, rfl⟩)
   exact ⟨rfl, rfl, rfl⟩
 · have d2 : decide (n ≤ 999999999) = false := by simp; omega
   go_enter Tryz.func77, Tryz.ntmps77
   go_wp2_with (go_at_call 63; refine (treeWant_no _).mono ?_; rintro e w' ⟨rfl, rfl⟩)
   exact ⟨rfl, rfl, rfl⟩
theorem newList_yes (a : Option Addr) (n cap : Nat) (w : World) (h : n ≤ 20) : Calls Tryz.prog 85 #[.slice a n cap] w fun e w' => e = .returned (.slice a n cap) ∧ w' = w := by
 have d : decide ((n : Int) ≤ 20) = true := by simp; omega
 go_enter Tryz.func85, Tryz.ntmps85
 go_wp2_with (go_at_call 63; refine (treeWant_yes _).mono ?_; rintro e w' ⟨rfl, rfl⟩)
 go_ret
 exact ⟨rfl, rfl⟩
theorem newList_no (a : Option Addr) (n cap : Nat) (w : World) (h : ¬ n ≤ 20) : Calls Tryz.prog 85 #[.slice a n cap] w fun e w' => e = fltE ∧ w' = w := by
 have d : decide ((n : Int) ≤ 20) = false := by simp; omega
 go_enter Tryz.func85, Tryz.ntmps85
 go_wp2_with (go_at_call 63; refine (treeWant_no _).mono ?_; rintro e w' ⟨rfl, rfl⟩)
 exact ⟨rfl, rfl, rfl⟩
theorem newMaybe_yes (a : Option Addr) (n cap : Nat) (w : World) (h : n ≤ 1) : Calls Tryz.prog 88 #[.slice a n cap] w fun e w' => e = .returned (.slice a n cap) ∧ w' = w := by
 have d : decide ((n : Int) ≤ 1) = true := by simp; omega
 go_enter Tryz.func88, Tryz.ntmps88
 go_wp2_with (go_at_call 63; refine (treeWant_yes _).mono ?_; rintro e w' ⟨rfl, rfl⟩)
 go_ret
 exact ⟨rfl, rfl⟩
theorem newMaybe_no (a : Option Addr) (n cap : Nat) (w : World) (h : ¬ n ≤ 1) : Calls Tryz.prog 88 #[.slice a n cap] w fun e w' => e = fltE ∧ w' = w := by
 have d : decide ((n : Int) ≤ 1) = false := by simp; omega
 go_enter Tryz.func88, Tryz.ntmps88
 go_wp2_with (go_at_call 63; refine (treeWant_no _).mono ?_; rintro e w' ⟨rfl, rfl⟩)
 exact ⟨rfl, rfl, rfl⟩
theorem newText_any (s : ByteArray) (w : World) (hs : s.size ≤ 9223372036854775807) :
 Calls Tryz.prog 82 #[.string s] w fun e w' => (textOkB s = true ∧ e = .returned (.string s) ∨ textOkB s = false ∧ e = fltE) ∧ w' = w := by
 by_cases h60 : s.size ≤ 60
 · have d : decide ((s.size : Int) ≤ 60) = true := by simp; omega
   go_enter Tryz.func82, Tryz.ntmps82
   go_wp2_with (go_at_call 63; refine (treeWant_yes _).mono ?_; rintro e w' ⟨rfl, rfl⟩)
   go_loop [10] (fun i => ∃ k : Nat, k ≤ s.size ∧ i = .int .i64 k ∧ Hid (allTo textByte s k)) (fun i => s.size - (intOf i).toNat)
   case atStart => exact ⟨0, Nat.zero_le _, rfl, fun j hj => by omega⟩
   case round =>
    obtain ⟨k, hk, rfl, HA⟩ := hrel
    by_cases hlt : k < s.size
    · have hc : s[k].toNat < 32 ∨ 126 < s[k].toNat ∨ s[k].toNat = 34 ∨ (32 ≤ s[k].toNat ∧ s[k].toNat ≤ 126 ∧ s[k].toNat ≠ 34) := by omega
      rcases hc with hc | hc | hc | hc
      · have HN := hH (textOk_not hlt (textByte_no (Or.inl hc)))
        go_wp2_with (go_at_call 63; refine (treeWant_no _).mono ?_; rintro e w' ⟨rfl, rfl⟩)
        exact ⟨rfl, Or.inr ⟨uh HN, rfl⟩, rfl⟩
      · have HN := hH (textOk_not hlt (textByte_no (Or.inr (Or.inl hc))))
        have d1 : decide ((32 : Int) ≤ s[k].toNat) = true := by simp; omega
        have d2 : decide ((s[k].toNat : Int) ≤ 126) = false := by simp; omega
        go_wp2_with (go_at_call 63; refine (treeWant_no _).mono ?_; rintro e w' ⟨rfl, rfl⟩)
        exact ⟨rfl, Or.inr ⟨uh HN, rfl⟩, rfl⟩
      · have HN := hH (textOk_not hlt (textByte_no (Or.inr (Or.inr hc))))
        have d1 : decide ((32 : Int) ≤ s[k].toNat) = true := by simp; omega
        have d2 : decide ((s[k].toNat : Int) ≤ 126) = true := by simp; omega
        have d3 : ((s[k].toNat : Int) != 34) = false := by simp; omega
        clear hc
        go_wp2_with (go_at_call 63; refine (treeWant_no _).mono ?_; rintro e w' ⟨rfl, rfl⟩)
        exact ⟨rfl, Or.inr ⟨uh HN, rfl⟩, rfl⟩
      · have HN := hH (allTo_succ HA.out hlt (textByte_yes hc))
        obtain ⟨hc1, hc2, hc3⟩ := hc
        have d1 : decide ((32 : Int) ≤ s[k].toNat) = true := by simp; omega
        have d2 : decide ((s[k].toNat : Int) ≤ 126) = true := by simp; omega
        have d3 : ((s[k].toNat : Int) != 34) = true := by simp; omega
        go_wp2_with (go_at_call 63; refine (treeWant_yes _).mono ?_; rintro e w' ⟨rfl, rfl⟩)
        go_round
        case rel => exact ⟨k + 1, by omega, by go_num, HN⟩
        case measure => simp [intOf]; omega
    · go_wp2_with fail
      go_ret
      obtain rfl : k = s.size := by omega
      exact ⟨Or.inl ⟨textOk_yes h60 HA.out, rfl⟩, rfl⟩
 · have HN : Hid (textOkB s = false) := by show _ = _; unfold textOkB; rw [decide_eq_false h60]; rfl
   have d : decide ((s.size : Int) ≤ 60) = false := by simp; omega
   go_enter Tryz.func82, Tryz.ntmps82
   go_wp2_with (go_at_call 63; refine (treeWant_no _).mono ?_; rintro e w' ⟨rfl, rfl⟩)
   exact ⟨rfl, Or.inr ⟨uh HN, rfl⟩, rfl⟩
structure Bnd (w : World) (B : Nat) (p l : Int) : Prop where
 c0 : w.cell? ⟨B, 0, none⟩ = some (.int .i64 p)
 c1 : w.cell? ⟨B, 1, none⟩ = some (.int .i64 l)
 f0 : w.frozen? ⟨B, 0, none⟩ = false
 f1 : w.frozen? ⟨B, 1, none⟩ = false
theorem Bnd.lt {w : World} {B : Nat} {p l : Int} (h : Bnd w B p l) : B < w.heap.size := World.block_lt_of_cell? w _ h.c0
theorem Bnd.of_block {w w' : World} {B : Nat} {p l : Int} (h : Bnd w B p l) (e : w'.heap[B]? = w.heap[B]?) : Bnd w' B p l :=
 ⟨by rw [World.cell?_of_block (w := w) e]; exact h.c0, by rw [World.cell?_of_block (w := w) e]; exact h.c1, by rw [World.frozen?_of_block (w := w) e]; exact h.f0, by rw [World.frozen?_of_block (w := w) e]; exact h.f1⟩
theorem enter_yes (B : Nat) (p l : Int) (w : World) (hB : Bnd w B p l) (hp : 0 ≤ p) (hl : 0 ≤ l) (h1 : p + 1 ≤ 120) (h2 : l + 1 ≤ 6) :
 Calls Tryz.prog 89 #[.pointer (some ⟨B, 0, none⟩)] w fun e w' => e = .returned (.tuple #[]) ∧ w' = (w.setCell ⟨B, 0, none⟩ (.int .i64 (p + 1))).setCell ⟨B, 1, none⟩ (.int .i64 (l + 1)) := by
 obtain ⟨c0, c1, f0, f1⟩ := hB
 have d1 : decide (p + 1 ≤ 120) = true := by simp; omega
 have d2 : decide (l + 1 ≤ 6) = true := by simp; omega
 go_enter Tryz.func89, Tryz.ntmps89
 go_wp2_with (go_at_call 63; refine (treeWant_yes _).mono ?_; rintro e w' ⟨rfl, rfl⟩)
 go_end0
 exact ⟨rfl, rfl⟩
theorem enter_no (B : Nat) (p l : Int) (w : World) (hB : Bnd w B p l) (hp : 0 ≤ p) (hl : 0 ≤ l) (hp1 : p ≤ 120) (hl1 : l ≤ 6) (h : ¬ (p + 1 ≤ 120 ∧ l + 1 ≤ 6)) :
 Calls Tryz.prog 89 #[.pointer (some ⟨B, 0, none⟩)] w fun e w' => e = fltE ∧ w' = (w.setCell ⟨B, 0, none⟩ (.int .i64 (p + 1))).setCell ⟨B, 1, none⟩ (.int .i64 (l + 1)) := by
 obtain ⟨c0, c1, f0, f1⟩ := hB
 by_cases h1 : p + 1 ≤ 120
 · have d1 : decide (p + 1 ≤ 120) = true := by simp; omega
   have d2 : decide (l + 1 ≤ 6) = false := by simp; omega
   clear h
   go_enter Tryz.func89, Tryz.ntmps89
   go_wp2_with (go_at_call 63; refine (treeWant_no _).mono ?_; rintro e w' ⟨rfl, rfl⟩)
   exact ⟨rfl, rfl, rfl⟩
 · have d1 : decide (p + 1 ≤ 120) = false := by simp; omega
   clear h
   go_enter Tryz.func89, Tryz.ntmps89
   go_wp2_with (go_at_call 63; refine (treeWant_no _).mono ?_; rintro e w' ⟨rfl, rfl⟩)
   exact ⟨rfl, rfl, rfl⟩
theorem leave_any (B : Nat) (p l : Int) (w : World) (hB : Bnd w B p l) (hl : 0 ≤ l) (hl1 : l ≤ 10) :
 Calls Tryz.prog 91 #[.pointer (some ⟨B, 0, none⟩)] w fun e w' => e = .returned (.tuple #[]) ∧ w' = w.setCell ⟨B, 1, none⟩ (.int .i64 (l - 1)) := by
 obtain ⟨c0, c1, f0, f1⟩ := hB
 go_enter Tryz.func91, Tryz.ntmps91
 go_wp2_with fail
 go_end0
 exact ⟨rfl, rfl⟩
theorem newForm_any (v : Value) (ss : List ByteArray) (a : Option Addr) (n cap : Nat) (w : World) {P : Nat → Prop} (hP : ∀ b, P b → b < w.heap.size) (hv : StrsAt P w v ss) :
 Calls Tryz.prog 87 #[v, .slice a n cap] w fun e w' => ((ss.length = n ∧ riseB ss = true) ∧ e = .returned (.agg #[v, .slice a n cap]) ∨ ¬ (ss.length = n ∧ riseB ss = true) ∧ e = fltE) ∧ Below w.heap.size w w' := by
 have hbx : ∀ o, Below w.heap.size w (w.alloc o) := fun o => (Below.refl _ _).alloc (Nat.le_refl _) o
 have hasc : ∀ o, Calls Tryz.prog 75 #[v] (w.alloc o) fun e w' => e = .returned (.bool (riseB ss)) ∧ w' = w.alloc o := fun o =>
  namesAscend_any v ss (w.alloc o) (P := P) (fun b hb => Nat.lt_of_lt_of_le (hP b hb) (hbx o).size) (hv.carry (fun b hb => (hbx o).block b (hP b hb)) (fun _ h => h))
 have HA := hH hasc; have HBX := hH hbx
 obtain ⟨a3, cap3, rfl, hlen, -⟩ := hv
 clear hasc hbx hP
 by_cases hnl : ss.length = n
 · have d : ((ss.length : Int) == (n : Int)) = true := by simp; omega
   have HNL := hH hnl; clear hnl
   cases hr : riseB ss
   · rw [hr] at HA
     go_enter Tryz.func87, Tryz.ntmps87
     go_wp2_with (first | (go_at_call 75; refine (uh HA _).mono ?_; rintro e w' ⟨rfl, rfl⟩) | (go_at_call 63; refine (treeWant_no _).mono ?_; rintro e w' ⟨rfl, rfl⟩))
     exact ⟨rfl, Or.inr ⟨fun h => Bool.false_ne_true h.2, rfl⟩, uh HBX _⟩
   · rw [hr] at HA
     go_enter Tryz.func87, Tryz.ntmps87
     go_wp2_with (first | (go_at_call 75; refine (uh HA _).mono ?_; rintro e w' ⟨rfl, rfl⟩) | (go_at_call 63; refine (treeWant_yes _).mono ?_; rintro e w' ⟨rfl, rfl⟩))
     refine bodyPost_ret (v := .agg #[.slice a3 ss.length cap3, .slice a n cap]) (by simp [results, Tryz.results87, go_sem]) rfl ⟨Or.inl ⟨⟨uh HNL, by simp⟩, rfl⟩, uh HBX _⟩
 · have d : ((ss.length : Int) == (n : Int)) = false := by simp; omega
   have HNL := hH hnl; clear hnl
   go_enter Tryz.func87, Tryz.ntmps87
   go_wp2_with (go_at_call 63; refine (treeWant_no _).mono ?_; rintro e w' ⟨rfl, rfl⟩)
   exact ⟨rfl, Or.inr ⟨fun h => uh HNL h.1, rfl⟩, uh HBX _⟩

mutual
def SRep (Q : Nat → Prop) (w : World) : Tr → Value → Prop
 | .mk s n tx ns ks, v =>
   (s = 1 ∧ v = .iface 98 (.int .i64 n)) ∨
   (s = 2 ∧ v = .iface 99 (.string tx)) ∨
   (s = 3 ∧ v = .iface 101 (.bool (n == 1))) ∨
   (s = 4 ∧ ∃ a cap, v = .iface 103 (.slice a ks.length cap) ∧ (ks ≠ [] → ∃ b, a = some ⟨b, 0, none⟩ ∧ Q b ∧ SRepK Q w b 0 ks)) ∨
   (s = 5 ∧ ∃ v3 a cap, v = .iface 106 (.agg #[v3, .slice a ks.length cap]) ∧ StrsAt Q w v3 ns ∧ (ks ≠ [] → ∃ b, a = some ⟨b, 0, none⟩ ∧ Q b ∧ SRepK Q w b 0 ks)) ∨
   (s = 6 ∧ ∃ a cap, v = .iface 108 (.slice a ks.length cap) ∧ (ks ≠ [] → ∃ b, a = some ⟨b, 0, none⟩ ∧ Q b ∧ SRepK Q w b 0 ks))
def SRepK (Q : Nat → Prop) (w : World) (b : Nat) (o : Nat) : List Tr → Prop
 | [] => True
 | t :: r => (∃ x, w.cell? ⟨b, o, none⟩ = some x ∧ SRep Q w t x) ∧ SRepK Q w b (o + 1) r
end
theorem SRepK.get {Q : Nat → Prop} {w : World} {b o : Nat} {ks : List Tr} (h : SRepK Q w b o ks) (i : Nat) (hi : i < ks.length) :
 ∃ x, w.cell? ⟨b, o + i, none⟩ = some x ∧ SRep Q w ks[i] x := by
 induction ks generalizing o i with
 | nil => simp at hi
 | cons t r ih =>
   rw [SRepK] at h
   cases i with
   | zero => exact h.1
   | succ i =>
     obtain ⟨c, h1, h2⟩ := ih h.2 i (by simpa using hi)
     exact ⟨c, by rw [show o + (i + 1) = o + 1 + i from by omega]; exact h1, h2⟩
theorem SRepK.mk {Q : Nat → Prop} {w : World} {b o : Nat} {ks : List Tr} (h : ∀ i, (hi : i < ks.length) → ∃ x, w.cell? ⟨b, o + i, none⟩ = some x ∧ SRep Q w ks[i] x) : SRepK Q w b o ks := by
 induction ks generalizing o with
 | nil => rw [SRepK]; trivial
 | cons t r ih =>
   rw [SRepK]
   refine ⟨h 0 (by simp), ih fun i hi => ?_⟩
   obtain ⟨c, h1, h2⟩ := h (i + 1) (by simpa using hi)
   exact ⟨c, by rw [show o + 1 + i = o + (i + 1) from by omega]; exact h1, h2⟩
mutual
theorem SRep.carry {P Q : Nat → Prop} {w w' : World} (hP : ∀ b, P b → w'.heap[b]? = w.heap[b]?) (hQ : ∀ b, P b → Q b) : ∀ (t : Tr) (v : Value), SRep P w t v → SRep Q w' t v
 | .mk s n tx ns ks, v => by
   intro h
   rw [SRep] at h ⊢
   rcases h with h | h | h | ⟨hs, a, cap, h1, h2⟩ | ⟨hs, v3, a, cap, h1, h3, h2⟩ | ⟨hs, a, cap, h1, h2⟩
   · exact Or.inl h
   · exact Or.inr (Or.inl h)
   · exact Or.inr (Or.inr (Or.inl h))
   · refine Or.inr (Or.inr (Or.inr (Or.inl ⟨hs, a, cap, h1, fun hk => ?_⟩)))
     obtain ⟨b, e, p, hr⟩ := h2 hk
     exact ⟨b, e, hQ b p, SRepK.carry hP hQ b 0 (hP b p) ks hr⟩
   · refine Or.inr (Or.inr (Or.inr (Or.inr (Or.inl ⟨hs, v3, a, cap, h1, h3.carry hP hQ, fun hk => ?_⟩))))
     obtain ⟨b, e, p, hr⟩ := h2 hk
     exact ⟨b, e, hQ b p, SRepK.carry hP hQ b 0 (hP b p) ks hr⟩
   · refine Or.inr (Or.inr (Or.inr (Or.inr (Or.inr ⟨hs, a, cap, h1, fun hk => ?_⟩))))
     obtain ⟨b, e, p, hr⟩ := h2 hk
     exact ⟨b, e, hQ b p, SRepK.carry hP hQ b 0 (hP b p) ks hr⟩
theorem SRepK.carry {P Q : Nat → Prop} {w w' : World} (hP : ∀ b, P b → w'.heap[b]? = w.heap[b]?) (hQ : ∀ b, P b → Q b) (b : Nat) (o : Nat) (hb : w'.heap[b]? = w.heap[b]?) : ∀ (ks : List Tr), SRepK P w b o ks → SRepK Q w' b o ks
 | [] => by intro _; rw [SRepK]; trivial
 | t :: r => by
   intro h
   rw [SRepK] at h ⊢
   obtain ⟨⟨c, h1, h2⟩, h3⟩ := h
   exact ⟨⟨c, by rw [World.cell?_of_block (w := w) hb]; exact h1, SRep.carry hP hQ t c h2⟩, SRepK.carry hP hQ b (o + 1) hb r h3⟩
end
theorem SRep.iface {Q : Nat → Prop} {w : World} {t : Tr} {v : Value} (h : SRep Q w t v) : ∃ T x, v = .iface T x := by
 obtain ⟨s, n, tx, ns, ks⟩ := t
 rw [SRep] at h
 rcases h with h | h | h | ⟨hs, a, cap, h1, h2⟩ | ⟨hs, v3, a, cap, h1, h3, h2⟩ | ⟨hs, a, cap, h1, h2⟩
 · exact ⟨_, _, h.2⟩
 · exact ⟨_, _, h.2⟩
 · exact ⟨_, _, h.2⟩
 · exact ⟨_, _, h1⟩
 · exact ⟨_, _, h1⟩
 · exact ⟨_, _, h1⟩
def SKids (Q : Nat → Prop) (w : World) (v : Value) (ks : List Tr) : Prop :=
 ∃ a cap, v = .slice a ks.length cap ∧ (ks ≠ [] → ∃ b, a = some ⟨b, 0, none⟩ ∧ Q b ∧ SRepK Q w b 0 ks)
theorem SKids.carry {P Q : Nat → Prop} {w w' : World} {v : Value} {ks : List Tr} (h : SKids P w v ks) (hP : ∀ b, P b → w'.heap[b]? = w.heap[b]?) (hQ : ∀ b, P b → Q b) : SKids Q w' v ks := by
 obtain ⟨a, cap, h1, h2⟩ := h
 refine ⟨a, cap, h1, fun hk => ?_⟩
 obtain ⟨b, e, p, hr⟩ := h2 hk
 exact ⟨b, e, hQ b p, SRepK.carry hP hQ b 0 (hP b p) ks hr⟩
theorem Bnd.below {w w' : World} {B : Nat} {p l : Int} (h : Bnd w B p l) (hb : Below w.heap.size w w') : Bnd w' B p l := h.of_block (hb.block B h.lt)
theorem Bnd.alloc {w : World} {B : Nat} {p l : Int} (h : Bnd w B p l) (o : Obj) : Bnd (w.alloc o) B p l := h.of_block (Below.heap_alloc _ _ _ h.lt)
theorem Bnd.set2 {w : World} {B : Nat} {p l : Int} (h : Bnd w B p l) (p' l' : Int) : Bnd ((w.setCell ⟨B, 0, none⟩ (.int .i64 p')).setCell ⟨B, 1, none⟩ (.int .i64 l')) B p' l' := by
 obtain ⟨c0, c1, f0, f1⟩ := h
 exact ⟨by simp [go_sem, c0], by simp [go_sem, c1], by simp [go_sem, f0], by simp [go_sem, f1]⟩
theorem Bnd.set1 {w : World} {B : Nat} {p l : Int} (h : Bnd w B p l) (l' : Int) : Bnd (w.setCell ⟨B, 1, none⟩ (.int .i64 l')) B p l' := by
 obtain ⟨c0, c1, f0, f1⟩ := h
 exact ⟨by simp [go_sem, c0], by simp [go_sem, c1], by simp [go_sem, f0], by simp [go_sem, f1]⟩
def Got (P : Nat → Prop) (w wr : World) (v : Value) (ks : List Tr) (k : Nat) : Prop :=
 ∃ xs, wr.ownsRow w.heap.size 66 1 v k xs ∧ ∀ i, i < k → (hi : i < ks.length) → ∃ x, xs[i]? = some x ∧ SRep (fun b => P b ∨ (w.heap.size ≤ b ∧ b < wr.heap.size ∧ some b ≠ v.ownBlock)) wr ks[i] x
theorem Got.start (P : Nat → Prop) (w : World) (ks : List Tr) : Got P w w (.slice none 0 0) ks 0 :=
 ⟨[], World.ownsRow_nil _ _ _ _, fun i hi => by omega⟩
theorem Got.kept {P : Nat → Prop} {w wr wr' : World} {v : Value} {ks : List Tr} {k : Nat} {B : Nat} (hP : ∀ b, P b → b < w.heap.size ∧ b ≠ B) (hBw : B < w.heap.size) (hw : w.heap.size ≤ wr.heap.size) (h : Got P w wr v ks k) (hb : But B wr wr') : Got P w wr' v ks k := by
 obtain ⟨xs, hown, hx⟩ := h
 have hne : v.ownBlock ≠ some B := fun e => by have := (hown.lt B e).1; omega
 refine ⟨xs, hown.kept hb (Or.inr hne), fun i hi hil => ?_⟩
 obtain ⟨x, h1, h2⟩ := hx i hi hil
 refine ⟨x, h1, SRep.carry (fun b hb' => ?_) (fun b hb' => ?_) _ _ h2⟩
 · rcases hb' with hp | ⟨hp1, hp2, _⟩
   · have := hP b hp; exact hb.at (by omega) this.2
   · exact hb.at hp2 (by omega)
 · rcases hb' with hp | ⟨hp1, hp2, hp3⟩
   · exact Or.inl hp
   · exact Or.inr ⟨hp1, Nat.lt_of_lt_of_le hp2 hb.size, hp3⟩
theorem Got.push {P : Nat → Prop} {w w2 w3 w4 : World} {v v' x : Value} {ks : List Tr} {k : Nat} {xs : List Value} {B : Nat} (hP : ∀ b, P b → b < w.heap.size ∧ b ≠ B) (hlt : k < ks.length) (hw : w.heap.size ≤ w2.heap.size)
 (hown : w2.ownsRow w.heap.size 66 1 v k xs) (hx : ∀ i, i < k → (hi : i < ks.length) → ∃ x, xs[i]? = some x ∧ SRep (fun b => P b ∨ (w.heap.size ≤ b ∧ b < w2.heap.size ∧ some b ≠ v.ownBlock)) w2 ks[i] x)
 (hnew : SRep (fun b => P b ∨ (w.heap.size ≤ b ∧ b < w2.heap.size ∧ some b ≠ v.ownBlock)) w2 ks[k] x)
 (hb3 : Below w2.heap.size w2 w3)
 (hown' : w4.ownsRow w.heap.size 66 1 v' (k + 1) (xs ++ [x])) (hg : w3.grownBy w4 v.ownBlock) (hv' : v'.ownBlock = v.ownBlock ∨ ∃ g, v'.ownBlock = some g ∧ w3.heap.size ≤ g) : Got P w w4 v' ks (k + 1) := by
 have hxl : xs.length = k := by have := hown.1; omega
 have hcarry : ∀ (t : Tr) (y : Value), SRep (fun b => P b ∨ (w.heap.size ≤ b ∧ b < w2.heap.size ∧ some b ≠ v.ownBlock)) w2 t y → SRep (fun b => P b ∨ (w.heap.size ≤ b ∧ b < w4.heap.size ∧ some b ≠ v'.ownBlock)) w4 t y := fun t y h => by
  have s3 := hb3.size; have s4 := hg.size
  refine SRep.carry (fun b hb' => ?_) (fun b hb' => ?_) _ _ h
  · have hb2 : b < w2.heap.size := by
     rcases hb' with hp | ⟨_, hp2, _⟩
     · have := hP b hp; omega
     · exact hp2
    rw [hg.block b (by omega) ?_, hb3.block b hb2]
    rcases hb' with hp | ⟨_, _, hp3⟩
    · intro e; have := (hown.lt b e.symm).1; have := (hP b hp).1; omega
    · exact hp3
  · rcases hb' with hp | ⟨hp1, hp2, hp3⟩
    · exact Or.inl hp
    · refine Or.inr ⟨hp1, by omega, ?_⟩
      rcases hv' with e | ⟨g, e, hge⟩
      · rw [e]; exact hp3
      · rw [e]; intro e2; simp only [Option.some.injEq] at e2; omega
 refine ⟨xs ++ [x], hown', fun i hi hil => ?_⟩
 by_cases e : i = k
 · subst e
   exact ⟨x, by rw [← hxl]; simp, hcarry _ _ hnew⟩
 · obtain ⟨y, h1, h2⟩ := hx i (by omega) hil
   exact ⟨y, by rw [List.getElem?_append_left (by omega)]; exact h1, hcarry _ _ h2⟩
theorem Got.done {P : Nat → Prop} {w wr : World} {v : Value} {ks : List Tr} (h : Got P w wr v ks ks.length) : SKids (fun b => P b ∨ (w.heap.size ≤ b ∧ b < wr.heap.size)) wr v ks := by
 obtain ⟨xs, hown, hx⟩ := h
 rcases hown.2 with ⟨hv, hn0⟩ | ⟨g, cap, cur, hv, hgb, hh, hle, hm2, hsz, htk⟩
 · refine ⟨none, 0, by rw [hv, hn0], fun hk => ?_⟩
   exact absurd (List.eq_nil_of_length_eq_zero hn0) hk
 · refine ⟨some ⟨g, 0, none⟩, cap, hv, fun _ => ⟨g, rfl, Or.inr ⟨hgb, (Array.getElem?_eq_some_iff.1 hh).1⟩, SRepK.mk fun i hi => ?_⟩⟩
   obtain ⟨x, h1, h2⟩ := hx i hi hi
   refine ⟨x, ?_, SRep.carry (fun _ _ => rfl) (fun b hb => ?_) _ _ h2⟩
   · have hj' : cur.toList[i]? = some x := by
      rw [← htk] at h1
      rw [List.getElem?_take] at h1
      split at h1
      · exact h1
      · cases h1
     simp only [Nat.zero_add, World.cell?, hh]
     simpa using hj'
   · rcases hb with hp | ⟨hp1, hp2, _⟩
     · exact Or.inl hp
     · exact Or.inr ⟨hp1, hp2⟩
theorem srep1 {Q : Nat → Prop} {w : World} {t : Tr} (h : t.sort = 1) : SRep Q w t (.iface 98 (.int .i64 t.num)) := by
 obtain ⟨s, n, tx, ns, ks⟩ := t; rw [SRep]; exact Or.inl ⟨h, rfl⟩
theorem srep2 {Q : Nat → Prop} {w : World} {t : Tr} (h : t.sort = 2) : SRep Q w t (.iface 99 (.string t.text)) := by
 obtain ⟨s, n, tx, ns, ks⟩ := t; rw [SRep]; exact Or.inr (Or.inl ⟨h, rfl⟩)
theorem srep3 {Q : Nat → Prop} {w : World} {t : Tr} (h : t.sort = 3) : SRep Q w t (.iface 101 (.bool (t.num == 1))) := by
 obtain ⟨s, n, tx, ns, ks⟩ := t; rw [SRep]; exact Or.inr (Or.inr (Or.inl ⟨h, rfl⟩))
theorem srep4 {Q : Nat → Prop} {w : World} {t : Tr} {v : Value} (h : t.sort = 4) (hk : SKids Q w v t.kids) : SRep Q w t (.iface 103 v) := by
 obtain ⟨s, n, tx, ns, ks⟩ := t; obtain ⟨a, cap, rfl, hk⟩ := hk; rw [SRep]; exact Or.inr (Or.inr (Or.inr (Or.inl ⟨h, a, cap, rfl, hk⟩)))
theorem srep5 {Q : Nat → Prop} {w : World} {t : Tr} {v v3 : Value} (h : t.sort = 5) (h3 : StrsAt Q w v3 t.names) (hk : SKids Q w v t.kids) : SRep Q w t (.iface 106 (.agg #[v3, v])) := by
 obtain ⟨s, n, tx, ns, ks⟩ := t; obtain ⟨a, cap, rfl, hk⟩ := hk; rw [SRep]; exact Or.inr (Or.inr (Or.inr (Or.inr (Or.inl ⟨h, v3, a, cap, rfl, h3, hk⟩))))
theorem srep6 {Q : Nat → Prop} {w : World} {t : Tr} {v : Value} (h : t.sort = 6) (hk : SKids Q w v t.kids) : SRep Q w t (.iface 108 v) := by
 obtain ⟨s, n, tx, ns, ks⟩ := t; obtain ⟨a, cap, rfl, hk⟩ := hk; rw [SRep]; exact Or.inr (Or.inr (Or.inr (Or.inr (Or.inr ⟨h, a, cap, rfl, hk⟩))))
end Go.Proofs.YtccnehcpmkgbhaaGreatDoor
