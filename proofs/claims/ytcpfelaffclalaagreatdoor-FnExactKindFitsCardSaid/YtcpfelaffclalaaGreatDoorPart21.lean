/- The walks of the program's isDigit, isNameByte, nameOk: what they answer. No conditions. -/
import Derived.Test.YtcpfelaffclalaaGreatDoorRows
import Derived.Test.YtcpfelaffclalaaGreatDoorPart00
import Derived.WalkLawsBesides
import Derived.WalkSmall
import Derived.Test.YtcpfelaffclalaaGreatDoorPart06
namespace Go.Proofs.YtcpfelaffclalaaGreatDoor
open Go Go.RowKit

def digitB (c : UInt8) : Bool := 48 ≤ c.toNat && c.toNat ≤ 57
theorem digit_yes {c : UInt8} (h : 48 ≤ c.toNat ∧ c.toNat ≤ 57) : digitB c = true := by unfold digitB; simp [h.1, h.2]
theorem digit_no {c : UInt8} (h : c.toNat < 48 ∨ 57 < c.toNat) : digitB c = false := by
  unfold digitB; simp only [Bool.and_eq_false_iff, decide_eq_false_iff_not]; omega
theorem nameByte_digit {c : UInt8} (h : c.toNat < 97 ∨ 122 < c.toNat) : nameByte c = digitB c := by
  unfold nameByte digitB
  rw [show (decide (97 ≤ c.toNat) && decide (c.toNat ≤ 122)) = false from by simp only [Bool.and_eq_false_iff, decide_eq_false_iff_not]; omega]
  rfl

set_option maxHeartbeats 400000 in
theorem isDigit_any (c : UInt8) (w : World) : Calls Tryz.prog 142 #[.int .u8 c.toNat] w fun e w' => e = .returned (.bool (digitB c)) ∧ w' = w := by
  have hc : (48 ≤ c.toNat ∧ c.toNat ≤ 57) ∨ c.toNat < 48 ∨ 57 < c.toNat := by omega
  rcases hc with hc | hc | hc
  · have HB := hide (digit_yes hc)
    obtain ⟨h1, h2⟩ := hc
    have d2 : decide ((c.toNat : Int) ≤ 57) = true := by simp; omega
    go_enter Tryz.func142, Tryz.ntmps142
    go_wp2_with fail
    go_ret
    exact ⟨ret_bool (unhide HB).symm, rfl⟩
  · have HB := hide (digit_no (Or.inl hc))
    go_enter Tryz.func142, Tryz.ntmps142
    go_wp2_with fail
    go_ret
    exact ⟨ret_bool (unhide HB).symm, rfl⟩
  · have HB := hide (digit_no (Or.inr hc))
    have d2 : decide ((c.toNat : Int) ≤ 57) = false := by simp; omega
    go_enter Tryz.func142, Tryz.ntmps142
    go_wp2_with fail
    go_ret
    exact ⟨ret_bool (unhide HB).symm, rfl⟩

set_option maxHeartbeats 400000 in
theorem isNameByte_any (c : UInt8) (w : World) : Calls Tryz.prog 143 #[.int .u8 c.toNat] w fun e w' => e = .returned (.bool (nameByte c)) ∧ w' = w := by
  have hc : (97 ≤ c.toNat ∧ c.toNat ≤ 122) ∨ c.toNat < 97 ∨ 122 < c.toNat := by omega
  rcases hc with hc | hc | hc
  · have HN := hide (nameByte_yes (Or.inl hc))
    obtain ⟨h1, h2⟩ := hc
    have d2 : decide ((c.toNat : Int) ≤ 122) = true := by simp; omega
    go_enter Tryz.func143, Tryz.ntmps143
    go_wp2_with (go_at_call 142; refine (isDigit_any _ _).mono ?_; rintro e w' ⟨rfl, rfl⟩)
    go_ret
    exact ⟨ret_bool (unhide HN).symm, rfl⟩
  · have HN := hide (nameByte_digit (Or.inl hc))
    go_enter Tryz.func143, Tryz.ntmps143
    go_wp2_with (go_at_call 142; refine (isDigit_any _ _).mono ?_; rintro e w' ⟨rfl, rfl⟩)
    go_ret
    exact ⟨ret_bool (unhide HN).symm, rfl⟩
  · have HN := hide (nameByte_digit (Or.inr hc))
    have d2 : decide ((c.toNat : Int) ≤ 122) = false := by simp; omega
    go_enter Tryz.func143, Tryz.ntmps143
    go_wp2_with (go_at_call 142; refine (isDigit_any _ _).mono ?_; rintro e w' ⟨rfl, rfl⟩)
    go_ret
    exact ⟨ret_bool (unhide HN).symm, rfl⟩

theorem nameOk_digit {s : ByteArray} (h0 : 0 < s.size) (h : digitB s[0] = true) : nameOkB s = false := by
  refine nameOk_first h0 ?_
  simp only [digitB, Bool.and_eq_true, decide_eq_true_eq] at h
  omega
theorem nameOk_yes2 {s : ByteArray} (h1 : 0 < s.size) (h2 : s.size ≤ 8) (hf : digitB s[0] = false) (ha : allTo nameByte s s.size) : nameOkB s = true := by
  refine nameOk_yes h1 h2 ?_ ha
  have hb := ha 0 h1 h1
  simp only [nameByte, digitB, Bool.or_eq_true, Bool.and_eq_true, Bool.and_eq_false_iff, decide_eq_true_eq, decide_eq_false_iff_not] at hb hf
  omega

set_option maxHeartbeats 400000 in
theorem nameOk_any (s : ByteArray) (w : World) (hs : s.size ≤ 9223372036854775807) :
    Calls Tryz.prog 129 #[.string s] w fun e w' => e = .returned (.bool (nameOkB s)) ∧ w' = w := by
  have hl : s.size < 1 ∨ 8 < s.size ∨ (0 < s.size ∧ s.size ≤ 8) := by omega
  rcases hl with hl | hl | ⟨hl0, hl8⟩
  · have HN := hide (nameOk_len (Or.inl hl))
    go_enter Tryz.func129, Tryz.ntmps129
    go_wp2_with fail
    go_ret
    exact ⟨ret_bool (unhide HN).symm, rfl⟩
  · have HN := hide (nameOk_len (Or.inr hl))
    go_enter Tryz.func129, Tryz.ntmps129
    go_wp2_with fail
    go_ret
    exact ⟨ret_bool (unhide HN).symm, rfl⟩
  · by_cases hf : digitB s[0] = true
    · have HN := hide (nameOk_digit hl0 hf)
      go_enter Tryz.func129, Tryz.ntmps129
      go_wp2_with (go_at_call 142; refine (isDigit_any _ _).mono ?_; rintro e w' ⟨rfl, rfl⟩)
      go_ret
      exact ⟨ret_bool (unhide HN).symm, rfl⟩
    · have hf' : digitB s[0] = false := by simpa using hf
      have HF := hide hf'
      clear hf
      go_enter Tryz.func129, Tryz.ntmps129
      go_wp2_with (go_at_call 142; refine (isDigit_any _ _).mono ?_; rintro e w' ⟨rfl, rfl⟩)
      go_loop [19] (fun i => ∃ k : Nat, k ≤ s.size ∧ i = .int .i64 k ∧ Hid (allTo nameByte s k)) (fun i => s.size - (intOf i).toNat)
      case atStart => exact ⟨0, Nat.zero_le _, rfl, fun j hj => by omega⟩
      case round =>
        obtain ⟨k, hk, rfl, HA⟩ := hrel
        by_cases hlt : k < s.size
        · by_cases hb : nameByte s[k] = true
          · have HN := hide (allTo_succ HA.out hlt hb)
            go_wp2_with (go_at_call 143; refine (isNameByte_any _ _).mono ?_; rintro e w' ⟨rfl, rfl⟩)
            go_round
            case rel => exact ⟨k + 1, by omega, by go_num, HN⟩
            case measure => simp [intOf]; omega
          · have hb' : nameByte s[k] = false := by simpa using hb
            clear hb
            have HN := hide (nameOk_not hlt hb')
            go_wp2_with (go_at_call 143; refine (isNameByte_any _ _).mono ?_; rintro e w' ⟨rfl, rfl⟩)
            go_ret
            exact ⟨ret_bool (unhide HN).symm, rfl⟩
        · go_wp2_with fail
          go_ret
          obtain rfl : k = s.size := by omega
          exact ⟨ret_bool (nameOk_yes2 hl0 hl8 (unhide HF) HA.out).symm, rfl⟩
end Go.Proofs.YtcpfelaffclalaaGreatDoor

/- The walk of the program's namesAscend: what it answers. No conditions. -/

namespace Go.Proofs.YtcpfelaffclalaaGreatDoor
open Go Go.RowKit

set_option maxHeartbeats 400000 in
theorem namesAscend_any (v : Value) (ss : List ByteArray) (w : World) {P : Nat → Prop} (hP : ∀ b, P b → b < w.heap.size) (hv : StrsAt P w v ss) :
    Calls Tryz.prog 110 #[v] w fun e w' => e = .returned (.bool (riseB ss)) ∧ w' = w := by
  obtain ⟨a, cap, rfl, hlen, hc⟩ := hv
  have HC := hide hc; have HP := hide hP
  clear hc hP
  go_enter Tryz.func110, Tryz.ntmps110
  go_wp2_with fail
  go_loop [7] (fun i => ∃ (k : Nat), k ≤ ss.length ∧ i = .int .i64 k ∧ Hid (∀ j, j < k → good ss j = true)) (fun i => ss.length - (intOf i).toNat)
  case atStart => exact ⟨0, Nat.zero_le _, rfl, hide (fun j hj => by omega)⟩
  case round =>
    obtain ⟨k, hk, rfl, HG⟩ := hrel
    by_cases hlt : k < ss.length
    · obtain ⟨b, o, rfl, hpb, hcell, hsz⟩ := unhide HC k hlt
      have hname := fun w => nameOk_any ss[k] w hsz
      have HN := hide hname; clear hname hpb
      by_cases hn : nameOkB ss[k] = true
      · by_cases h0 : 0 < k
        · obtain ⟨b', o', he, -, e0, -⟩ := unhide HC (k - 1) (by omega)
          simp only [Option.some.injEq, Addr.mk.injEq, and_true] at he
          obtain ⟨rfl, rfl⟩ := he
          have hd0 : decide ((0 : Int) < k) = true := by simp; omega
          have hgd := good_pos hlt h0 hn
          generalize hlb : Op.bytesLess (ss[k - 1]'(by omega)).toList ss[k].toList = lb at hgd
          have hi1 : ((k : Int) - 1).toNat = k - 1 := by omega
          have HGD := hide hgd
          clear hgd
          have hge := geqS
          cases lb
          · have HR := hide (rise_no hlt (unhide HGD))
            go_wp2_with (go_at_call 129; refine (unhide HN _).mono ?_; rintro e w' ⟨rfl, rfl⟩)
            go_ret
            exact ⟨ret_bool (unhide HR).symm, rfl⟩
          · go_wp2_with (go_at_call 129; refine (unhide HN _).mono ?_; rintro e w' ⟨rfl, rfl⟩)
            go_round
            case rel => exact ⟨k + 1, by omega, by go_num, hide (fun j hj => by
              by_cases e : j = k
              · subst e; exact unhide HGD
              · exact HG.out j (by omega))⟩
            case measure => simp [intOf]; omega
        · have hd0 : decide (0 < k) = false := by simp; omega
          have HK0 : Hid (k = 0) := by show k = 0; omega
          clear h0
          go_wp2_with (go_at_call 129; refine (unhide HN _).mono ?_; rintro e w' ⟨rfl, rfl⟩)
          go_round
          case rel => exact ⟨k + 1, by omega, by go_num, hide (fun j hj => by have := HK0.out; subst this; obtain rfl : j = 0 := by omega
                                                                              exact good_zero hlt hn)⟩
          case measure => simp [intOf]; omega
      · have hn' : nameOkB ss[k] = false := by simpa using hn
        have HR := hide (rise_no hlt (good_name hlt hn'))
        clear hn
        go_wp2_with (go_at_call 129; refine (unhide HN _).mono ?_; rintro e w' ⟨rfl, rfl⟩)
        go_ret
        exact ⟨ret_bool (unhide HR).symm, rfl⟩
    · go_wp2_with fail
      go_ret
      exact ⟨ret_bool (rise_yes (fun i hi => HG.out i (by omega))).symm, rfl⟩
end Go.Proofs.YtcpfelaffclalaaGreatDoor

/- The walk of the program's kindShaped: what it answers. No conditions. -/

namespace Go.Proofs.YtcpfelaffclalaaGreatDoor
open Go Go.RowKit

set_option maxHeartbeats 800000 in
theorem kindShaped_any (t : Kd) (P : Nat → Prop) (c : C3) (w : World) (hP : ∀ b, P b → b < w.heap.size) (hrep : KRep P w t c) :
    Calls Tryz.prog 80 #[.agg #[c.c0, c.c1, c.c2]] w fun e w' => e = .returned (.bool (shB t)) ∧ ∃ o, w' = w.alloc o := by
  obtain ⟨c0, c1, c2⟩ := c
  obtain ⟨e0, -, hns, a, cap, e2, hlen, -⟩ := hrep.open
  simp only at e0 e2 hns
  have HN := hide hns
  obtain ⟨a3, cap3, e1, hl3, -⟩ := hns
  subst e0 e1 e2
  clear hrep
  have hbx : ∀ o, Below w.heap.size w (w.alloc o) := fun o => (Below.refl _ _).alloc (Nat.le_refl _) o
  have hcall : ∀ o, Calls Tryz.prog 110 #[.slice a3 t.names.length cap3] (w.alloc o) fun e w' => e = .returned (.bool (riseB t.names)) ∧ w' = w.alloc o := fun o =>
    namesAscend_any _ t.names (w.alloc o) (P := P) (fun b hb => Nat.lt_of_lt_of_le (hP b hb) (hbx o).size) ((unhide HN).carry (fun b hb => (hbx o).block b (hP b hb)) (fun _ h => h))
  have HC := hide hcall
  clear hcall hbx hP HN
  by_cases h1 : t.sort = 1
  · have d1 : (t.sort == 1) = true := by simp [h1]
    have d2 : (t.sort == 2) = false := by simp [h1]
    have d3 : (t.sort == 3) = false := by simp [h1]
    have d4 : (t.sort == 4) = false := by simp [h1]
    have d6 : (t.sort == 6) = false := by simp [h1]
    have d5 : (t.sort == 5) = false := by simp [h1]
    have hsh : shB t = (decide (t.kids.length = 0) && decide (t.names.length = 0)) := by simp [shB, h1]
    have HSH := hide hsh; clear hsh h1
    go_enter Tryz.func80, Tryz.ntmps80
    go_wp2_with (go_at_call 110; refine (unhide HC _).mono ?_; rintro e w' ⟨rfl, rfl⟩)
    all_goals
      go_ret
      refine ⟨ret_bool ?_, _, rfl⟩
      rw [unhide HSH]
      clear HSH HC d1 d2 d3 d4 d5 d6
      rw [Bool.eq_iff_iff]
      simp_all <;> omega
  by_cases h2 : t.sort = 2
  · have d1 : (t.sort == 1) = false := by simp [h2]
    have d2 : (t.sort == 2) = true := by simp [h2]
    have d3 : (t.sort == 3) = false := by simp [h2]
    have d4 : (t.sort == 4) = false := by simp [h2]
    have d6 : (t.sort == 6) = false := by simp [h2]
    have d5 : (t.sort == 5) = false := by simp [h2]
    have hsh : shB t = (decide (t.kids.length = 0) && decide (t.names.length = 0)) := by simp [shB, h2]
    have HSH := hide hsh; clear hsh h1 h2
    go_enter Tryz.func80, Tryz.ntmps80
    go_wp2_with (go_at_call 110; refine (unhide HC _).mono ?_; rintro e w' ⟨rfl, rfl⟩)
    all_goals
      go_ret
      refine ⟨ret_bool ?_, _, rfl⟩
      rw [unhide HSH]
      clear HSH HC d1 d2 d3 d4 d5 d6
      rw [Bool.eq_iff_iff]
      simp_all <;> omega
  by_cases h3 : t.sort = 3
  · have d1 : (t.sort == 1) = false := by simp [h3]
    have d2 : (t.sort == 2) = false := by simp [h3]
    have d3 : (t.sort == 3) = true := by simp [h3]
    have d4 : (t.sort == 4) = false := by simp [h3]
    have d6 : (t.sort == 6) = false := by simp [h3]
    have d5 : (t.sort == 5) = false := by simp [h3]
    have hsh : shB t = (decide (t.kids.length = 0) && decide (t.names.length = 0)) := by simp [shB, h3]
    have HSH := hide hsh; clear hsh h1 h2 h3
    go_enter Tryz.func80, Tryz.ntmps80
    go_wp2_with (go_at_call 110; refine (unhide HC _).mono ?_; rintro e w' ⟨rfl, rfl⟩)
    all_goals
      go_ret
      refine ⟨ret_bool ?_, _, rfl⟩
      rw [unhide HSH]
      clear HSH HC d1 d2 d3 d4 d5 d6
      rw [Bool.eq_iff_iff]
      simp_all <;> omega
  by_cases h4 : t.sort = 4
  · have d1 : (t.sort == 1) = false := by simp [h4]
    have d2 : (t.sort == 2) = false := by simp [h4]
    have d3 : (t.sort == 3) = false := by simp [h4]
    have d4 : (t.sort == 4) = true := by simp [h4]
    have d6 : (t.sort == 6) = false := by simp [h4]
    have d5 : (t.sort == 5) = false := by simp [h4]
    have hsh : shB t = (decide (t.kids.length = 1) && decide (t.names.length = 0)) := by simp [shB, h4]
    have HSH := hide hsh; clear hsh h1 h2 h3 h4
    go_enter Tryz.func80, Tryz.ntmps80
    go_wp2_with (go_at_call 110; refine (unhide HC _).mono ?_; rintro e w' ⟨rfl, rfl⟩)
    all_goals
      go_ret
      refine ⟨ret_bool ?_, _, rfl⟩
      rw [unhide HSH]
      clear HSH HC d1 d2 d3 d4 d5 d6
      rw [Bool.eq_iff_iff]
      simp_all <;> omega
  by_cases h6 : t.sort = 6
  · have d1 : (t.sort == 1) = false := by simp [h6]
    have d2 : (t.sort == 2) = false := by simp [h6]
    have d3 : (t.sort == 3) = false := by simp [h6]
    have d4 : (t.sort == 4) = false := by simp [h6]
    have d6 : (t.sort == 6) = true := by simp [h6]
    have d5 : (t.sort == 5) = false := by simp [h6]
    have hsh : shB t = (decide (t.kids.length = 1) && decide (t.names.length = 0)) := by simp [shB, h6]
    have HSH := hide hsh; clear hsh h1 h2 h3 h4 h6
    go_enter Tryz.func80, Tryz.ntmps80
    go_wp2_with (go_at_call 110; refine (unhide HC _).mono ?_; rintro e w' ⟨rfl, rfl⟩)
    all_goals
      go_ret
      refine ⟨ret_bool ?_, _, rfl⟩
      rw [unhide HSH]
      clear HSH HC d1 d2 d3 d4 d5 d6
      rw [Bool.eq_iff_iff]
      simp_all <;> omega
  by_cases h5 : t.sort = 5
  · have d1 : (t.sort == 1) = false := by simp [h5]
    have d2 : (t.sort == 2) = false := by simp [h5]
    have d3 : (t.sort == 3) = false := by simp [h5]
    have d4 : (t.sort == 4) = false := by simp [h5]
    have d6 : (t.sort == 6) = false := by simp [h5]
    have d5 : (t.sort == 5) = true := by simp [h5]
    have hsh : shB t = (decide (t.kids.length = t.names.length) && riseB t.names) := by simp [shB, h5]
    have HSH := hide hsh; clear hsh h1 h2 h3 h4 h6 h5
    go_enter Tryz.func80, Tryz.ntmps80
    go_wp2_with (go_at_call 110; refine (unhide HC _).mono ?_; rintro e w' ⟨rfl, rfl⟩)
    all_goals
      go_ret
      refine ⟨ret_bool ?_, _, rfl⟩
      rw [unhide HSH]
      clear HSH HC d1 d2 d3 d4 d5 d6
      rw [Bool.eq_iff_iff]
      simp_all <;> omega
  have d1 : (t.sort == 1) = false := by simp [h1]
  have d2 : (t.sort == 2) = false := by simp [h2]
  have d3 : (t.sort == 3) = false := by simp [h3]
  have d4 : (t.sort == 4) = false := by simp [h4]
  have d6 : (t.sort == 6) = false := by simp [h6]
  have d5 : (t.sort == 5) = false := by simp [h5]
  have hsh : shB t = false := by simp [shB, h1, h2, h3, h4, h5, h6]
  have HSH := hide hsh; clear hsh h1 h2 h3 h4 h5 h6
  go_enter Tryz.func80, Tryz.ntmps80
  go_wp2_with fail
  go_ret
  exact ⟨ret_bool (unhide HSH).symm, _, rfl⟩
end Go.Proofs.YtcpfelaffclalaaGreatDoor
