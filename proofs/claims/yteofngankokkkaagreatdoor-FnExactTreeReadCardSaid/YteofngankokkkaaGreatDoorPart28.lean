/- The text of a tree that is ok is short; and its marks are few. No program walked, no conditions. -/
import Derived.Test.YteofngankokkkaaGreatDoorPart08
import Derived.Test.YteofngankokkkaaGreatDoorPart16
import Derived.Test.YteofngankokkkaaGreatDoorPart09
namespace Go.Proofs.YteofngankokkkaaGreatDoor
open Go Go.RowKit

theorem itoa_short {n : Int} (h : -999999999 ≤ n ∧ n ≤ 999999999) : (Lib.itoa n).length ≤ 10 := by
  rcases itoa_cases n with ⟨hn, e⟩ | ⟨hn, e⟩
  · rw [e]
    have := dec_len 8 n.toNat (by omega)
    omega
  · rw [e]
    have := dec_len 8 n.natAbs (by omega)
    simp only [List.length_cons]
    omega

theorem name_short {ns : List ByteArray} (h : riseB ns = true) (i : Nat) : (ns.getD i ByteArray.empty).data.toList.length ≤ 8 := by
  by_cases hi : i < ns.length
  · rw [getD_lt _ _ hi]
    have := rise_name h i hi
    unfold nameOkB at this
    simp only [Bool.and_eq_true, decide_eq_true_eq] at this
    show ns[i].size ≤ 8
    omega
  · have e : ns.getD i ByteArray.empty = ByteArray.empty := by simp [List.getD, List.getElem?_eq_none (Nat.le_of_not_lt hi)]
    rw [e]
    decide

theorem ahead_short {form : Bool} {ns : List ByteArray} (h : form = true → riseB ns = true) (i : Nat) : (ahead form ns i).length ≤ 10 := by
  unfold ahead
  cases form with
  | false => simp; split <;> simp
  | true =>
    have := name_short (h rfl) i
    have e : (if 0 < i then [44] else ([] : List UInt8)).length ≤ 1 := by split <;> simp
    simp only [if_true, List.length_append, List.length_cons, List.length_nil]
    omega

theorem txK_short (n : Nat) (IH : ∀ t : Tr, tsz t < n → ∀ p l q : Int, 0 ≤ p → p ≤ 120 → wlk t p l = some q → ((txT t).length : Int) + 10 ≤ 80 * (q - p)) (form : Bool) (ns : List ByteArray) (hr : form = true → riseB ns = true) (l : Int) :
    ∀ (ks : List Tr), (∀ k, k ∈ ks → tsz k < n) → ∀ (i : Nat) (p q : Int), 0 ≤ p → p ≤ 120 → wlkK ks p l = some q → ((txK form ns i ks).length : Int) ≤ 80 * (q - p) := by
  intro ks
  induction ks with
  | nil => intro _ i p q _ _ h; rw [wlkK] at h; simp only [Option.some.injEq] at h; subst h; simp [txK]
  | cons a r ih =>
    intro hm i p q h0 h1 h
    rw [wlkK] at h
    cases hw : wlk a p l with
    | none => rw [hw] at h; cases h
    | some q1 =>
      rw [hw] at h
      have hb := wlk_bd a p l q1 h0 h1 hw
      have e1 := IH a (hm a (by simp)) p l q1 h0 h1 hw
      have e2 := ih (fun k hk => hm k (by simp [hk])) (i + 1) q1 q (by omega) hb.2 h
      have e3 := ahead_short hr i
      rw [txK]
      simp only [List.length_append]
      omega

theorem txT_short : ∀ (n : Nat) (t : Tr), tsz t < n → ∀ p l q : Int, 0 ≤ p → p ≤ 120 → wlk t p l = some q → ((txT t).length : Int) + 10 ≤ 80 * (q - p) := by
  intro n
  induction n with
  | zero => intro t h; omega
  | succ n ih =>
    intro t hn p l q h0 h1 h
    have hb := wlk_bd t p l q h0 h1 h
    obtain ⟨h2, -, ho, hnb, hk⟩ := wlk_open h
    have hm : ∀ k, k ∈ t.kids → tsz k < n := fun k hk => by have := tsz_kid hk; omega
    rcases shapes ho hnb with ⟨m, rfl, hm1⟩ | ⟨x, rfl, hx⟩ | ⟨m, rfl, hm1⟩ | ⟨ks, rfl, hks⟩ | ⟨ns, ks, rfl, hnl, hri⟩ | ⟨ks, rfl, hks⟩
    · have htx : txT (.mk 1 m ByteArray.empty [] []) = Lib.itoa m := by rw [txT]; simp
      rw [htx]
      have := itoa_short hm1
      omega
    · have htx : txT (.mk 2 0 x [] []) = 34 :: (x.data.toList ++ [34]) := by rw [txT]; simp
      rw [htx]
      unfold textOkB at hx
      simp only [Bool.and_eq_true, decide_eq_true_eq] at hx
      have e : x.data.toList.length = x.size := rfl
      simp only [List.length_cons, List.length_append, List.length_nil]
      omega
    · have htx : (txT (.mk 3 m ByteArray.empty [] [])).length ≤ 3 := by
        rw [txT]; simp; split <;> simp
      omega
    · have htx : txT (.mk 4 0 ByteArray.empty [] ks) = 91 :: (txK false [] 0 ks ++ [93]) := by rw [txT]; simp
      rw [htx]
      have := txK_short n ih false [] (fun h => by cases h) (l + 1) ks hm 0 (p + 1) q (by omega) h2 hk
      simp only [List.length_cons, List.length_append, List.length_nil]
      omega
    · have htx : txT (.mk 5 0 ByteArray.empty ns ks) = 123 :: (txK true ns 0 ks ++ [125]) := by rw [txT]; simp
      rw [htx]
      have := txK_short n ih true ns (fun _ => hri) (l + 1) ks hm 0 (p + 1) q (by omega) h2 hk
      simp only [List.length_cons, List.length_append, List.length_nil]
      omega
    · cases ks with
      | nil =>
        have htx : txT (.mk 6 0 ByteArray.empty [] []) = [126] := by rw [txT]; simp
        rw [htx]; simp; omega
      | cons a r =>
        have hr0 : r = [] := by simp at hks; exact hks
        subst hr0
        have htx : txT (.mk 6 0 ByteArray.empty [] [a]) = 63 :: txT a := by rw [txT]; simp [txM]
        rw [htx]
        simp only [Tr.kids] at hk hm
        rw [wlkK] at hk
        cases hw : wlk a (p + 1) (l + 1) with
        | none => rw [hw] at hk; cases hk
        | some q1 =>
          rw [hw] at hk
          simp only [wlkK, Option.some.injEq] at hk
          subst hk
          have := ih a (hm a (by simp)) (p + 1) (l + 1) q1 (by omega) h2 hw
          simp only [List.length_cons]
          omega

theorem txT_small {t : Tr} {q : Int} (h : wlk t 0 0 = some q) : (txT t).length ≤ 9600 := by
  have h1 := txT_short (tsz t + 1) t (by omega) 0 0 q (by omega) (by omega) h
  have h2 := (wlk_bd t 0 0 q (by omega) (by omega) h).2
  omega

/-- How many marks a tree takes. -/
theorem marks_short : ∀ (n : Nat) (t : Tr), tsz t < n → ∀ p l q : Int, 0 ≤ p → p ≤ 120 → wlk t p l = some q → (cT t : Int) ≤ 400 * (q - p) := by
  intro n
  induction n with
  | zero => intro t h; omega
  | succ n ih =>
    intro t hn p l q h0 h1 h
    have hb := wlk_bd t p l q h0 h1 h
    obtain ⟨h2, -, ho, hnb, hk⟩ := wlk_open h
    have hks : ∀ (ks : List Tr), (∀ k, k ∈ ks → tsz k < n) → ∀ (p q : Int), 0 ≤ p → p ≤ 120 → wlkK ks p (l + 1) = some q → (cK ks : Int) ≤ 400 * (q - p) ∧ p + ks.length ≤ q ∧ q ≤ 120 := by
      intro ks
      induction ks with
      | nil => intro _ p q _ h1 h; rw [wlkK] at h; simp only [Option.some.injEq] at h; subst h; simp [cK]; omega
      | cons a r ihk =>
        intro hm p q h0 h1 h
        rw [wlkK] at h
        cases hw : wlk a p (l + 1) with
        | none => rw [hw] at h; cases h
        | some q1 =>
          rw [hw] at h
          have hb := wlk_bd a p (l + 1) q1 h0 h1 hw
          have e1 := ih a (hm a (by simp)) p (l + 1) q1 h0 h1 hw
          have e2 := ihk (fun k hk => hm k (by simp [hk])) q1 q (by omega) hb.2 h
          rw [cK]
          simp only [List.length_cons]
          omega
    have hc := hks t.kids (fun k hk => by have := tsz_kid hk; omega) (p + 1) q (by omega) h2 hk
    have hnl : t.names.length ≤ 120 := by
      rcases shapes ho hnb with ⟨m, rfl, hm1⟩ | ⟨x, rfl, hx⟩ | ⟨m, rfl, hm1⟩ | ⟨ks, rfl, hks⟩ | ⟨ns, ks, rfl, hnl, hri⟩ | ⟨ks, rfl, hks⟩
      · simp [Tr.names]
      · simp [Tr.names]
      · simp [Tr.names]
      · simp [Tr.names]
      · simp only [Tr.names, Tr.kids] at *; omega
      · simp [Tr.names]
    rw [cT_eq]
    omega
end Go.Proofs.YteofngankokkkaaGreatDoor

/- The walk of the specification's l1TextOk: what it answers. No conditions. -/

namespace Go.Proofs.YteofngankokkkaaGreatDoor
open Go Go.RowKit

set_option maxHeartbeats 400000 in
theorem l1TextOk_any (s : ByteArray) (w : World) (hs : s.size ≤ 9223372036854775807) :
    Calls Tryz.prog 63 #[.string s] w fun e w' => e = .returned (.bool (textOkB s)) ∧ w' = w := by
  by_cases h60 : 60 < s.size
  · go_enter Tryz.func63, Tryz.ntmps63
    go_wp2_with fail
    go_ret
    exact ⟨by simp [textOkB]; omega, rfl⟩
  · go_enter Tryz.func63, Tryz.ntmps63
    go_wp2_with fail
    go_loop [3] (fun i => ∃ k : Nat, k ≤ s.size ∧ i = .int .i64 k ∧ Hid (allTo textByte s k)) (fun i => s.size - (intOf i).toNat)
    case atStart => exact ⟨0, Nat.zero_le _, rfl, fun j hj => by omega⟩
    case round =>
      obtain ⟨k, hk, rfl, HA⟩ := hrel
      by_cases hlt : k < s.size
      · have hc : s[k].toNat < 32 ∨ 126 < s[k].toNat ∨ s[k].toNat = 34 ∨ (32 ≤ s[k].toNat ∧ s[k].toNat ≤ 126 ∧ s[k].toNat ≠ 34) := by omega
        rcases hc with hc | hc | hc | hc
        · go_wp2_with fail
          go_ret
          exact ⟨ret_bool (textOk_not hlt (textByte_no (Or.inl hc))).symm, rfl⟩
        · go_wp2_with fail
          go_ret
          exact ⟨ret_bool (textOk_not hlt (textByte_no (Or.inr (Or.inl hc)))).symm, rfl⟩
        · have HC := hide (textOk_not hlt (textByte_no (Or.inr (Or.inr hc))))
          go_wp2_with fail
          go_ret
          exact ⟨ret_bool (unhide HC).symm, rfl⟩
        · have HN := hide (allTo_succ HA.out hlt (textByte_yes hc))
          obtain ⟨hc1, hc2, hc3⟩ := hc
          have hb34 : ((s[k].toNat : Int) == 34) = false := by simp; omega
          go_wp2_with fail
          go_round
          case rel => exact ⟨k + 1, by omega, by go_num, HN⟩
          case measure => simp [intOf]; omega
      · go_wp2_with fail
        go_ret
        obtain rfl : k = s.size := by omega
        exact ⟨ret_bool (textOk_yes (by omega) HA.out).symm, rfl⟩
end Go.Proofs.YteofngankokkkaaGreatDoor

/- The walk of the specification's l1Alone: it answers whether a tree is ok but for its kids. No conditions. -/

namespace Go.Proofs.YteofngankokkkaaGreatDoor
open Go Go.RowKit

set_option maxHeartbeats 800000 in
theorem l1Alone_1 (t : Tr) (P : Nat → Prop) (c : C5) (w : World) (hP : ∀ b, P b → b < w.heap.size) (hrep : Rep P w t c) (hs : t.sort = 1) :
    Calls Tryz.prog 45 #[.agg #[c.c0, c.c1, c.c2, c.c3, c.c4]] w fun e w' => e = .returned (.bool (aloneB t)) ∧ Below w.heap.size w w' := by
  obtain ⟨c0, c1, c2, c3, c4⟩ := c
  obtain ⟨e0, e1, e2, -, -, htx, hns, a, cap, e4, hlen, -⟩ := hrep.open
  simp only at e0 e1 e2 e4 hns
  have HN := hide hns
  obtain ⟨a3, cap3, e3, hl3, -⟩ := hns
  subst e0 e1 e2 e3 e4
  clear hrep
  have HP := hide hP; clear hP
  have hbx : ∀ o, Below w.heap.size w (w.alloc o) := fun o => (Below.refl _ _).alloc (Nat.le_refl _) o
  have HBX := hide hbx; clear hbx
  go_enter Tryz.func45, Tryz.ntmps45
  go_wp2_with (first
    | (go_at_call 62; refine (l6In_any _ _ _ _).mono ?_; rintro e w' ⟨rfl, rfl⟩)
    | (go_at_call 63; refine (l1TextOk_any _ _ htx).mono ?_; rintro e w' ⟨rfl, rfl⟩))
  all_goals
    go_ret
    refine ⟨ret_bool ?_, unhide HBX _⟩
    try simp_all [aloneB]
  all_goals first | (rw [Bool.eq_iff_iff]; simp; done) | (intros; omega)
set_option maxHeartbeats 800000 in
theorem l1Alone_2 (t : Tr) (P : Nat → Prop) (c : C5) (w : World) (hP : ∀ b, P b → b < w.heap.size) (hrep : Rep P w t c) (hs : t.sort = 2) :
    Calls Tryz.prog 45 #[.agg #[c.c0, c.c1, c.c2, c.c3, c.c4]] w fun e w' => e = .returned (.bool (aloneB t)) ∧ Below w.heap.size w w' := by
  obtain ⟨c0, c1, c2, c3, c4⟩ := c
  obtain ⟨e0, e1, e2, -, -, htx, hns, a, cap, e4, hlen, -⟩ := hrep.open
  simp only at e0 e1 e2 e4 hns
  have HN := hide hns
  obtain ⟨a3, cap3, e3, hl3, -⟩ := hns
  subst e0 e1 e2 e3 e4
  clear hrep
  have HP := hide hP; clear hP
  have hbx : ∀ o, Below w.heap.size w (w.alloc o) := fun o => (Below.refl _ _).alloc (Nat.le_refl _) o
  have HBX := hide hbx; clear hbx
  go_enter Tryz.func45, Tryz.ntmps45
  go_wp2_with (first
    | (go_at_call 62; refine (l6In_any _ _ _ _).mono ?_; rintro e w' ⟨rfl, rfl⟩)
    | (go_at_call 63; refine (l1TextOk_any _ _ htx).mono ?_; rintro e w' ⟨rfl, rfl⟩))
  all_goals
    go_ret
    refine ⟨ret_bool ?_, unhide HBX _⟩
    try simp_all [aloneB]
  all_goals first | (rw [Bool.eq_iff_iff]; simp; done) | (intros; omega)
set_option maxHeartbeats 800000 in
theorem l1Alone_3 (t : Tr) (P : Nat → Prop) (c : C5) (w : World) (hP : ∀ b, P b → b < w.heap.size) (hrep : Rep P w t c) (hs : t.sort = 3) :
    Calls Tryz.prog 45 #[.agg #[c.c0, c.c1, c.c2, c.c3, c.c4]] w fun e w' => e = .returned (.bool (aloneB t)) ∧ Below w.heap.size w w' := by
  obtain ⟨c0, c1, c2, c3, c4⟩ := c
  obtain ⟨e0, e1, e2, -, -, htx, hns, a, cap, e4, hlen, -⟩ := hrep.open
  simp only at e0 e1 e2 e4 hns
  have HN := hide hns
  obtain ⟨a3, cap3, e3, hl3, -⟩ := hns
  subst e0 e1 e2 e3 e4
  clear hrep
  have HP := hide hP; clear hP
  have hbx : ∀ o, Below w.heap.size w (w.alloc o) := fun o => (Below.refl _ _).alloc (Nat.le_refl _) o
  have HBX := hide hbx; clear hbx
  go_enter Tryz.func45, Tryz.ntmps45
  go_wp2_with (first
    | (go_at_call 62; refine (l6In_any _ _ _ _).mono ?_; rintro e w' ⟨rfl, rfl⟩)
    | (go_at_call 63; refine (l1TextOk_any _ _ htx).mono ?_; rintro e w' ⟨rfl, rfl⟩))
  all_goals
    go_ret
    refine ⟨ret_bool ?_, unhide HBX _⟩
    try simp_all [aloneB]
  all_goals first | (rw [Bool.eq_iff_iff]; simp; done) | (intros; omega)
set_option maxHeartbeats 800000 in
theorem l1Alone_4 (t : Tr) (P : Nat → Prop) (c : C5) (w : World) (hP : ∀ b, P b → b < w.heap.size) (hrep : Rep P w t c) (hs : t.sort = 4) :
    Calls Tryz.prog 45 #[.agg #[c.c0, c.c1, c.c2, c.c3, c.c4]] w fun e w' => e = .returned (.bool (aloneB t)) ∧ Below w.heap.size w w' := by
  obtain ⟨c0, c1, c2, c3, c4⟩ := c
  obtain ⟨e0, e1, e2, -, -, htx, hns, a, cap, e4, hlen, -⟩ := hrep.open
  simp only at e0 e1 e2 e4 hns
  have HN := hide hns
  obtain ⟨a3, cap3, e3, hl3, -⟩ := hns
  subst e0 e1 e2 e3 e4
  clear hrep
  have HP := hide hP; clear hP
  have hbx : ∀ o, Below w.heap.size w (w.alloc o) := fun o => (Below.refl _ _).alloc (Nat.le_refl _) o
  have HBX := hide hbx; clear hbx
  go_enter Tryz.func45, Tryz.ntmps45
  go_wp2_with (first
    | (go_at_call 62; refine (l6In_any _ _ _ _).mono ?_; rintro e w' ⟨rfl, rfl⟩)
    | (go_at_call 63; refine (l1TextOk_any _ _ htx).mono ?_; rintro e w' ⟨rfl, rfl⟩))
  all_goals
    go_ret
    refine ⟨ret_bool ?_, unhide HBX _⟩
    try simp_all [aloneB]
  all_goals first | (rw [Bool.eq_iff_iff]; simp; done) | (intros; omega)
set_option maxHeartbeats 800000 in
theorem l1Alone_6 (t : Tr) (P : Nat → Prop) (c : C5) (w : World) (hP : ∀ b, P b → b < w.heap.size) (hrep : Rep P w t c) (hs : t.sort = 6) :
    Calls Tryz.prog 45 #[.agg #[c.c0, c.c1, c.c2, c.c3, c.c4]] w fun e w' => e = .returned (.bool (aloneB t)) ∧ Below w.heap.size w w' := by
  obtain ⟨c0, c1, c2, c3, c4⟩ := c
  obtain ⟨e0, e1, e2, -, -, htx, hns, a, cap, e4, hlen, -⟩ := hrep.open
  simp only at e0 e1 e2 e4 hns
  have HN := hide hns
  obtain ⟨a3, cap3, e3, hl3, -⟩ := hns
  subst e0 e1 e2 e3 e4
  clear hrep
  have HP := hide hP; clear hP
  have hbx : ∀ o, Below w.heap.size w (w.alloc o) := fun o => (Below.refl _ _).alloc (Nat.le_refl _) o
  have HBX := hide hbx; clear hbx
  go_enter Tryz.func45, Tryz.ntmps45
  go_wp2_with (first
    | (go_at_call 62; refine (l6In_any _ _ _ _).mono ?_; rintro e w' ⟨rfl, rfl⟩)
    | (go_at_call 63; refine (l1TextOk_any _ _ htx).mono ?_; rintro e w' ⟨rfl, rfl⟩))
  all_goals
    go_ret
    refine ⟨ret_bool ?_, unhide HBX _⟩
    try simp_all [aloneB]
  all_goals first | (rw [Bool.eq_iff_iff]; simp; done) | (intros; omega)
set_option maxHeartbeats 800000 in
theorem l1Alone_0 (t : Tr) (P : Nat → Prop) (c : C5) (w : World) (hP : ∀ b, P b → b < w.heap.size) (hrep : Rep P w t c) (h1 : t.sort ≠ 1) (h2 : t.sort ≠ 2) (h3 : t.sort ≠ 3) (h4 : t.sort ≠ 4) (h5 : t.sort ≠ 5) (h6 : t.sort ≠ 6) :
    Calls Tryz.prog 45 #[.agg #[c.c0, c.c1, c.c2, c.c3, c.c4]] w fun e w' => e = .returned (.bool (aloneB t)) ∧ Below w.heap.size w w' := by
  obtain ⟨c0, c1, c2, c3, c4⟩ := c
  obtain ⟨e0, e1, e2, -, -, htx, hns, a, cap, e4, hlen, -⟩ := hrep.open
  simp only at e0 e1 e2 e4 hns
  have HN := hide hns
  obtain ⟨a3, cap3, e3, hl3, -⟩ := hns
  subst e0 e1 e2 e3 e4
  clear hrep
  have HP := hide hP; clear hP
  have hbx : ∀ o, Below w.heap.size w (w.alloc o) := fun o => (Below.refl _ _).alloc (Nat.le_refl _) o
  have HBX := hide hbx; clear hbx
  go_enter Tryz.func45, Tryz.ntmps45
  go_wp2_with (first
    | (go_at_call 62; refine (l6In_any _ _ _ _).mono ?_; rintro e w' ⟨rfl, rfl⟩)
    | (go_at_call 63; refine (l1TextOk_any _ _ htx).mono ?_; rintro e w' ⟨rfl, rfl⟩))
  all_goals
    go_ret
    refine ⟨ret_bool ?_, unhide HBX _⟩
    try simp_all [aloneB]
  all_goals first | (rw [Bool.eq_iff_iff]; simp; done) | (intros; omega)
set_option maxHeartbeats 800000 in
theorem l1Alone_5 (t : Tr) (P : Nat → Prop) (c : C5) (w : World) (hP : ∀ b, P b → b < w.heap.size) (hrep : Rep P w t c) (hs : t.sort = 5) :
    Calls Tryz.prog 45 #[.agg #[c.c0, c.c1, c.c2, c.c3, c.c4]] w fun e w' => e = .returned (.bool (aloneB t)) ∧ Below w.heap.size w w' := by
  obtain ⟨c0, c1, c2, c3, c4⟩ := c
  obtain ⟨e0, e1, e2, -, -, htx, hns, a, cap, e4, hlen, -⟩ := hrep.open
  simp only at e0 e1 e2 e4 hns
  have HN := hide hns
  obtain ⟨a3, cap3, e3, hl3, -⟩ := hns
  subst e0 e1 e2 e3 e4
  clear hrep
  have HP := hide hP; clear hP
  have hbx : ∀ o, Below w.heap.size w (w.alloc o) := fun o => (Below.refl _ _).alloc (Nat.le_refl _) o
  have HBX := hide hbx; clear hbx
  have hcall : ∀ o, Calls Tryz.prog 64 #[.slice a3 t.names.length cap3] (w.alloc o) fun e w' => e = .returned (.bool (riseB t.names)) ∧ Below w.heap.size w w' := fun o =>
    (l1Rise_any _ t.names (w.alloc o) (P := P) (fun b hb => Nat.lt_of_lt_of_le (unhide HP b hb) (unhide HBX o).size) ((unhide HN).carry (fun b hb => (unhide HBX o).block b (unhide HP b hb)) (fun _ h => h))).mono
      fun e w' ⟨h1, h2⟩ => ⟨h1, (unhide HBX o).trans (h2.mono (unhide HBX o).size)⟩
  have HC := hide hcall; clear hcall
  go_enter Tryz.func45, Tryz.ntmps45
  go_wp2_with (go_at_call 64; refine (unhide HC _).mono ?_; rintro e w' ⟨rfl, hb'⟩)
  all_goals
    go_ret
    refine ⟨ret_bool ?_, by first | assumption | exact unhide HBX _⟩
    try simp_all [aloneB]
  all_goals first | (rw [Bool.eq_iff_iff]; simp; done) | (intros; omega)

theorem l1Alone_any (t : Tr) (P : Nat → Prop) (c : C5) (w : World) (hP : ∀ b, P b → b < w.heap.size) (hrep : Rep P w t c) :
    Calls Tryz.prog 45 #[.agg #[c.c0, c.c1, c.c2, c.c3, c.c4]] w fun e w' => e = .returned (.bool (aloneB t)) ∧ Below w.heap.size w w' := by
  by_cases h1 : t.sort = 1
  · exact l1Alone_1 t P c w hP hrep h1
  by_cases h2 : t.sort = 2
  · exact l1Alone_2 t P c w hP hrep h2
  by_cases h3 : t.sort = 3
  · exact l1Alone_3 t P c w hP hrep h3
  by_cases h4 : t.sort = 4
  · exact l1Alone_4 t P c w hP hrep h4
  by_cases h5 : t.sort = 5
  · exact l1Alone_5 t P c w hP hrep h5
  by_cases h6 : t.sort = 6
  · exact l1Alone_6 t P c w hP hrep h6
  exact l1Alone_0 t P c w hP hrep h1 h2 h3 h4 h5 h6
end Go.Proofs.YteofngankokkkaaGreatDoor
