/- The walks of the program's byteCursor: size and num. No conditions. -/
import Derived.Test.YtffdofllebbcgaaDoorWUnP
namespace Go.Proofs.YtffdofllebbcgaaDoor
open Go Go.RowKit

/-- What reading comes to: a value and what is left, or a fault. -/
def RdEnd {α : Type} (R : Nat) (w w' : World) (v : Value) (b : List UInt8) (a : Nat) (res : Option (α × List UInt8)) (val : α → Value) (e : Ending) : Prop :=
  But R w w' ∧ match res with
    | some (x, rest) => e = .returned (val x) ∧ ∃ a', a < a' ∧ Cu R w' v b a' ∧ rest = b.drop a'
    | none => e = fltE

theorem psz_cons {r p a : Nat} {x : UInt8} {l : List UInt8} : psz (r + 1) p a (x :: l) = if x.toNat < 128 then (if a + x.toNat % 128 * p ≤ 999999999 ∧ (0 < x.toNat ∨ p = 1) then some (a + x.toNat % 128 * p, l) else none) else psz r (p * 128) (a + x.toNat % 128 * p) l := by rw [psz]

theorem pow_bound {r : Nat} (h : r < 5) : 128 ^ r ≤ 268435456 ∧ 0 < 128 ^ r := by
  rcases (show r = 0 ∨ r = 1 ∨ r = 2 ∨ r = 3 ∨ r = 4 by omega) with rfl | rfl | rfl | rfl | rfl <;> decide

set_option maxRecDepth 100000 in
set_option maxHeartbeats 3200000 in
theorem sizeP_any (R : Nat) (w : World) (v : Value) (b : List UInt8) (a : Nat) (h : Cu R w v b a) :
    Calls Tryd.prog 94 #[.pointer (some ⟨R, 0, none⟩)] w fun e w' => RdEnd R w w' v b a (psz 5 1 0 (b.drop a)) (fun s => .int .i64 (s : Int)) e := by
  have HC := hide h
  clear h
  go_enter Tryd.func94, Tryd.ntmps94
  go_wp2_with fail
  go_loopw [3, 4] (fun sz pl wr => ∃ (k p acc a' : Nat), k ≤ 5 ∧ sz = .int .i64 (acc : Int) ∧ pl = .int .i64 (p : Int) ∧ Hid (p = 128 ^ k) ∧ acc < p ∧ p ≤ 34359738368 ∧ Hid (Cu R wr v b a') ∧ Hid (But R w wr) ∧ Hid (psz (5 - k) p acc (b.drop a') = psz 5 1 0 (b.drop a)) ∧ a ≤ a') (fun _ pl _ => 34359738369 - (intOf pl).toNat)
  case atStart => exact ⟨0, 1, 0, a, by omega, rfl, rfl, rfl, by omega, by omega, HC, But.refl _ _, rfl, Nat.le_refl _⟩
  case round =>
    obtain ⟨k, p, acc, a', hk, rfl, rfl, HP, hac, hp9, HCU, HB, HZ, haa⟩ := hrel
    by_cases hk5 : k = 5
    · have hpp : p = 34359738368 := by rw [HP.out, hk5]
      have hno : psz 5 1 0 (b.drop a) = none := by rw [← HZ.out, hk5]; rfl
      have HNO := hide hno
      clear hno HP
      go_wp2_with fail
      refine ⟨rfl, HB.out, ?_⟩
      rw [unhide HNO]
    · have hpb := pow_bound (r := k) (by omega)
      rw [← HP.out] at hpb
      obtain ⟨hpb1, hpb0⟩ := hpb
      obtain ⟨r, hr⟩ : ∃ r, 5 - k = r + 1 := ⟨4 - k, by omega⟩
      have hz := HZ.out
      rw [hr] at hz
      by_cases hlt : a' < b.length
      · have HNX := hide (nextP_yes R wr v b a' HCU.out hlt)
        have hx := b[a'].toNat_lt
        rw [List.drop_eq_getElem_cons hlt, psz_cons] at hz
        generalize b[a'].toNat = x at *
        obtain ⟨q, hq⟩ : ∃ q, q = x % 128 * p := ⟨_, rfl⟩
        have hqi : ((x : Int) % 128) * (p : Int) = (q : Int) := by rw [hq]; simp
        have hqb : q ≤ 127 * 268435456 := by rw [hq]; exact Nat.mul_le_mul (by omega) hpb1
        rw [← hq] at hz
        have hql : q ≤ 127 * p := by rw [hq]; exact Nat.mul_le_mul_right p (by omega)
        have HQ := hide hq
        clear hq HZ
        by_cases h128 : x < 128
        · rw [if_pos h128] at hz
          by_cases c1 : acc + q ≤ 999999999
          · have c1i : (acc : Int) + q ≤ 999999999 := by omega
            by_cases c2 : 0 < x
            · rw [if_pos ⟨c1, Or.inl c2⟩] at hz
              have HZ := hide hz
              clear hz HP
              go_wp2_with fail
              refine (unhide HNX).mono ?_
              rintro e w1 ⟨rfl, hcu1, hb1⟩
              have HCU1 := hide hcu1; have HB1 := hide (HB.out.trans hb1)
              clear hcu1 hb1 HNX
              go_wp2_with (go_at_call 62; refine (treeWant_yes _).mono ?_; rintro e w2 ⟨rfl, rfl⟩)
              go_ret
              refine ⟨unhide HB1, ?_⟩
              rw [← HZ.out]
              exact ⟨rfl, a' + 1, by omega, unhide HCU1, rfl⟩
            · have hx0 : x = 0 := by omega
              subst hx0
              by_cases c3 : p = 1
              · rw [if_pos ⟨c1, Or.inr c3⟩] at hz
                subst c3
                have hacc0 : acc = 0 := by omega
                have hq0 : q = 0 := by have := unhide HQ; simpa using this
                subst hacc0 hq0
                have HZ := hide hz
                clear hz HP c2
                go_wp2_with fail
                refine (unhide HNX).mono ?_
                rintro e w1 ⟨rfl, hcu1, hb1⟩
                have HCU1 := hide hcu1; have HB1 := hide (HB.out.trans hb1)
                clear hcu1 hb1 HNX
                go_wp2_with (go_at_call 62; refine (treeWant_yes _).mono ?_; rintro e w2 ⟨rfl, rfl⟩)
                go_ret
                refine ⟨unhide HB1, ?_⟩
                rw [← HZ.out]
                exact ⟨rfl, a' + 1, by omega, unhide HCU1, rfl⟩
              · rw [if_neg (fun hh => by rcases hh.2 with h1 | h1 <;> omega)] at hz
                have c3b : ((p : Int) == 1) = false := by simp; omega
                have HZ := hide hz
                clear hz HP c2 c3
                go_wp2_with fail
                refine (unhide HNX).mono ?_
                rintro e w1 ⟨rfl, hcu1, hb1⟩
                have HB1 := hide (HB.out.trans hb1)
                clear hcu1 hb1 HNX
                go_wp2_with fail
                refine (treeWant_no _).mono ?_
                rintro e w2 ⟨rfl, rfl⟩
                refine ⟨rfl, unhide HB1, ?_⟩
                rw [← HZ.out]
          · have c1i : ¬ ((acc : Int) + q ≤ 999999999) := by omega
            rw [if_neg (fun hh => c1 hh.1)] at hz
            have HZ := hide hz
            clear hz HP
            go_wp2_with fail
            refine (unhide HNX).mono ?_
            rintro e w1 ⟨rfl, hcu1, hb1⟩
            have HB1 := hide (HB.out.trans hb1)
            clear hcu1 hb1 HNX
            go_wp2_with fail
            refine (treeWant_no _).mono ?_
            rintro e w2 ⟨rfl, rfl⟩
            refine ⟨rfl, unhide HB1, ?_⟩
            rw [← HZ.out]
        · rw [if_neg h128] at hz
          have hr2 : 5 - (k + 1) = r := by omega
          rw [← hr2] at hz
          have hp2 : p * 128 = 128 ^ (k + 1) := by rw [HP.out, Nat.pow_succ]
          have HZ := hide hz; have HP2 := hide hp2
          clear hz HP hp2 hr2
          go_wp2_with fail
          refine (unhide HNX).mono ?_
          rintro e w1 ⟨rfl, hcu1, hb1⟩
          have HCU1 := hide hcu1; have HB1 := hide (HB.out.trans hb1)
          clear hcu1 hb1 HNX
          go_wp2_with fail
          go_roundw
          case rel => exact ⟨k + 1, p * 128, acc + q, a' + 1, by omega, rfl, by go_num, HP2, by omega, by omega, HCU1, HB1, HZ, by omega⟩
          case measure => simp [intOf]; omega
      · have HNX := hide (nextP_no R wr v b a' HCU.out (by omega))
        have hno : psz 5 1 0 (b.drop a) = none := by rw [← hz, List.drop_eq_nil_of_le (by omega), psz]
        have HNO := hide hno
        clear hno hz HP HZ
        go_wp2_with fail
        refine (unhide HNX).mono ?_
        rintro e w1 ⟨rfl, hb1⟩
        refine ⟨rfl, HB.out.trans hb1, ?_⟩
        rw [unhide HNO]

set_option maxRecDepth 100000 in
set_option maxHeartbeats 1600000 in
theorem numP_any (R : Nat) (w : World) (v : Value) (b : List UInt8) (a : Nat) (h : Cu R w v b a) :
    Calls Tryd.prog 85 #[.pointer (some ⟨R, 0, none⟩)] w fun e w' => RdEnd R w w' v b a (pnum (b.drop a)) (fun s => .int .i64 s) e := by
  by_cases hlt : a < b.length
  · have HNX := hide (nextP_yes R w v b a h hlt)
    have HSZ := hide (fun (W : World) (hW : Cu R W v b (a + 1)) => sizeP_any R W v b (a + 1) hW)
    have hx := b[a].toNat_lt
    have hz : pnum (b.drop a) = (match psz 5 1 0 (b.drop (a + 1)) with | none => none | some (s, r) => if b[a].toNat = 0 ∨ (b[a].toNat = 1 ∧ 0 < s) then some (if b[a].toNat = 1 then -(s : Int) else s, r) else none) := by rw [List.drop_eq_getElem_cons hlt, pnum]; rfl
    have hsb : ∀ s rest, psz 5 1 0 (b.drop (a + 1)) = some (s, rest) → s ≤ 999999999 := fun s rest hs => by obtain ⟨_, _, _, _, h4⟩ := psz_sound _ _ _ _ _ _ (by decide) hs; exact h4
    clear h
    generalize b[a].toNat = x at *
    generalize pnum (b.drop a) = res at *
    cases hs : psz 5 1 0 (b.drop (a + 1)) with
    | none =>
      rw [hs] at hz HSZ
      simp only at hz
      subst hz
      clear hs hsb
      go_enter Tryd.func85, Tryd.ntmps85
      go_wp2_with fail
      refine (unhide HNX).mono ?_
      rintro e w1 ⟨rfl, hcu1, hb1⟩
      have HS := hide (unhide HSZ w1 hcu1); have HB1 := hide hb1
      clear hcu1 hb1 HNX HSZ
      go_wp2_with fail
      refine (unhide HS).mono ?_
      rintro e w2 ⟨hb2, rfl⟩
      exact ⟨rfl, (unhide HB1).trans hb2, rfl⟩
    | some y =>
      obtain ⟨s, rest⟩ := y
      have hs9 := hsb s rest hs
      rw [hs] at hz HSZ
      simp only at hz
      clear hs hsb
      rcases (show x = 0 ∨ (x = 1 ∧ 0 < s) ∨ (x = 1 ∧ s = 0) ∨ (x ≠ 0 ∧ x ≠ 1) by omega) with hc | ⟨hc, hc2⟩ | ⟨hc, hc2⟩ | ⟨hc, hc2⟩
      · subst hc
        simp at hz
        subst hz
        go_enter Tryd.func85, Tryd.ntmps85
        go_wp2_with fail
        refine (unhide HNX).mono ?_
        rintro e w1 ⟨rfl, hcu1, hb1⟩
        have HS := hide (unhide HSZ w1 hcu1); have HB1 := hide hb1
        clear hcu1 hb1 HNX HSZ
        go_wp2_with fail
        refine (unhide HS).mono ?_
        rintro e w2 ⟨hb2, rfl, a', ha', hcu2, hr2⟩
        have HCU := hide hcu2; have HB2 := hide ((unhide HB1).trans hb2); have HR := hide hr2
        clear hb2 hcu2 HS HB1 hr2
        go_wp2_with (go_at_call 62; refine (treeWant_yes _).mono ?_; rintro e w2 ⟨rfl, rfl⟩)
        go_ret
        exact ⟨unhide HB2, rfl, a', by omega, unhide HCU, unhide HR⟩
      · subst hc
        simp [hc2] at hz
        subst hz
        have hneg : ¬ ((s : Int) = 0) := by omega
        go_enter Tryd.func85, Tryd.ntmps85
        go_wp2_with fail
        refine (unhide HNX).mono ?_
        rintro e w1 ⟨rfl, hcu1, hb1⟩
        have HS := hide (unhide HSZ w1 hcu1); have HB1 := hide hb1
        clear hcu1 hb1 HNX HSZ
        go_wp2_with fail
        refine (unhide HS).mono ?_
        rintro e w2 ⟨hb2, rfl, a', ha', hcu2, hr2⟩
        have HCU := hide hcu2; have HB2 := hide ((unhide HB1).trans hb2); have HR := hide hr2
        clear hb2 hcu2 HS HB1 hr2
        go_wp2_with (go_at_call 62; refine (treeWant_yes _).mono ?_; rintro e w2 ⟨rfl, rfl⟩)
        go_ret
        exact ⟨unhide HB2, rfl, a', by omega, unhide HCU, unhide HR⟩
      · subst hc hc2
        simp at hz
        subst hz
        go_enter Tryd.func85, Tryd.ntmps85
        go_wp2_with fail
        refine (unhide HNX).mono ?_
        rintro e w1 ⟨rfl, hcu1, hb1⟩
        have HS := hide (unhide HSZ w1 hcu1); have HB1 := hide hb1
        clear hcu1 hb1 HNX HSZ
        go_wp2_with fail
        refine (unhide HS).mono ?_
        rintro e w2 ⟨hb2, rfl, a', ha', hcu2, hr2⟩
        have HB2 := hide ((unhide HB1).trans hb2)
        clear hb2 hcu2 HS HB1 hr2
        go_wp2_with fail
        refine (treeWant_no _).mono ?_
        rintro e w3 ⟨rfl, rfl⟩
        exact ⟨rfl, unhide HB2, rfl⟩
      · rw [if_neg (by omega)] at hz
        subst hz
        have q0 : ((x : Int) == 0) = false := by simp; omega
        have q1 : ((x : Int) == 1) = false := by simp; omega
        clear hc hc2
        go_enter Tryd.func85, Tryd.ntmps85
        go_wp2_with fail
        refine (unhide HNX).mono ?_
        rintro e w1 ⟨rfl, hcu1, hb1⟩
        have HS := hide (unhide HSZ w1 hcu1); have HB1 := hide hb1
        clear hcu1 hb1 HNX HSZ
        go_wp2_with fail
        refine (unhide HS).mono ?_
        rintro e w2 ⟨hb2, rfl, a', ha', hcu2, hr2⟩
        have HB2 := hide ((unhide HB1).trans hb2)
        clear hb2 hcu2 HS HB1 hr2
        go_wp2_with fail
        refine (treeWant_no _).mono ?_
        rintro e w3 ⟨rfl, rfl⟩
        exact ⟨rfl, unhide HB2, rfl⟩
  · have HNX := hide (nextP_no R w v b a h (by omega))
    rw [List.drop_eq_nil_of_le (by omega), pnum]
    clear h
    go_enter Tryd.func85, Tryd.ntmps85
    go_wp2_with fail
    refine (unhide HNX).mono ?_
    rintro e w1 ⟨rfl, hb1⟩
    exact ⟨rfl, hb1, rfl⟩
end Go.Proofs.YtffdofllebbcgaaDoor
