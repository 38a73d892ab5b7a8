/- The walk of the specification's l2First: the first tree of a schema all of whose parts are ok, in blocks of its own. Of what was there nothing has turned. -/
import Derived.Test.YtcpfelaffclalaaGreatDoorPart10
import Derived.Test.YtcpfelaffclalaaGreatDoorPart00
import Derived.Test.YtcpfelaffclalaaGreatDoorRows
import Derived.Deep.RegionLaw
import Derived.Deep.AppendLies
import Derived.Deep.CutRange
import Derived.WalkLawsBesides
import Derived.WalkSmall
import Derived.Test.YtcpfelaffclalaaGreatDoorPart06
import Derived.Test.YtcpfelaffclalaaGreatDoorPart02
import Derived.Test.YtcpfelaffclalaaGreatDoorPart07
import Derived.Test.YtcpfelaffclalaaGreatDoorPart03
import Derived.Test.YtcpfelaffclalaaGreatDoorPart08
namespace Go.Proofs.YtcpfelaffclalaaGreatDoor
open Go Go.RowKit

theorem infoTreeS : (Tryz.prog.info? 39).map (fun i => (i.zero, i.size, i.bytes)) = some (some (.agg #[.int .i64 0, .int .i64 0, .string ByteArray.empty, .slice none 0 0, .slice none 0 0]), 5, 80) := by kernel_rfl
theorem infoStrS : (Tryz.prog.info? 9).map (fun i => (i.zero, i.size, i.bytes)) = some (some (.string ByteArray.empty), 1, 16) := by kernel_rfl

theorem heap_set5s (w : World) (b : Nat) (c0 c1 c2 c3 c4 : Value) (k : Nat) (h : k ≠ b) :
    (((((w.setCell ⟨b, 0, none⟩ c0).setCell ⟨b, 1, none⟩ c1).setCell ⟨b, 2, none⟩ c2).setCell ⟨b, 3, none⟩ c3).setCell ⟨b, 4, none⟩ c4).heap[k]? = w.heap[k]? := by
  rw [Below.heap_setCell _ _ _ _ h, Below.heap_setCell _ _ _ _ h, Below.heap_setCell _ _ _ _ h, Below.heap_setCell _ _ _ _ h, Below.heap_setCell _ _ _ _ h]
theorem size_set5s (w : World) (b : Nat) (c0 c1 c2 c3 c4 : Value) :
    (((((w.setCell ⟨b, 0, none⟩ c0).setCell ⟨b, 1, none⟩ c1).setCell ⟨b, 2, none⟩ c2).setCell ⟨b, 3, none⟩ c3).setCell ⟨b, 4, none⟩ c4).heap.size = w.heap.size := by simp [World.setCell]
theorem below_set5s {B : Nat} {a w : World} (h : Below B a w) (b : Nat) (c0 c1 c2 c3 c4 : Value) (hb : B ≤ b) :
    Below B a (((((w.setCell ⟨b, 0, none⟩ c0).setCell ⟨b, 1, none⟩ c1).setCell ⟨b, 2, none⟩ c2).setCell ⟨b, 3, none⟩ c3).setCell ⟨b, 4, none⟩ c4) :=
  ((((h.setCell hb _).setCell hb _).setCell hb _).setCell hb _).setCell hb _

end Go.Proofs.YtcpfelaffclalaaGreatDoor

/- The walks of the program's isDigit, isNameByte, nameOk: what they answer. No conditions. -/

namespace Go.Proofs.YtcpfelaffclalaaGreatDoor
open Go Go.RowKit

def digitB (c : UInt8) : Bool := 48 ≤ c.toNat && c.toNat ≤ 57
theorem digit_yes {c : UInt8} (h : 48 ≤ c.toNat ∧ c.toNat ≤ 57) : digitB c = true := by unfold digitB; simp [h.1, h.2]
theorem digit_no {c : UInt8} (h : c.toNat < 48 ∨ 57 < c.toNat) : digitB c = false := by
  unfold digitB; simp only [Bool.and_eq_false_iff, decide_eq_false_iff_not]; omega
theorem nameByte_digit {c : UInt8} (h : c.toNat < 97 ∨ 122 < c.toNat) : nameByte c = digitB c := by
  unfold nameByte digitB
  rw [show (decide (97 ≤ c.toNat) && decide (c.toNat ≤ 122)) = false from by simp only [Bool.and_eq_false_iff, decide_eq_false_iff_not]; omega]
  rfl

set_option maxHeartbeats 400000 in
theorem isDigit_any (c : UInt8) (w : World) : Calls Tryz.prog 142 #[.int .u8 c.toNat] w fun e w' => e = .returned (.bool (digitB c)) ∧ w' = w := by
  have hc : (48 ≤ c.toNat ∧ c.toNat ≤ 57) ∨ c.toNat < 48 ∨ 57 < c.toNat := by omega
  rcases hc with hc | hc | hc
  · have HB := hide (digit_yes hc)
    obtain ⟨h1, h2⟩ := hc
    have d2 : decide ((c.toNat : Int) ≤ 57) = true := by simp; omega
    go_enter Tryz.func142, Tryz.ntmps142
    go_wp2_with fail
    go_ret
    exact ⟨ret_bool (unhide HB).symm, rfl⟩
  · have HB := hide (digit_no (Or.inl hc))
    go_enter Tryz.func142, Tryz.ntmps142
    go_wp2_with fail
    go_ret
    exact ⟨ret_bool (unhide HB).symm, rfl⟩
  · have HB := hide (digit_no (Or.inr hc))
    have d2 : decide ((c.toNat : Int) ≤ 57) = false := by simp; omega
    go_enter Tryz.func142, Tryz.ntmps142
    go_wp2_with fail
    go_ret
    exact ⟨ret_bool (unhide HB).symm, rfl⟩

set_option maxHeartbeats 400000 in
theorem isNameByte_any (c : UInt8) (w : World) : Calls Tryz.prog 143 #[.int .u8 c.toNat] w fun e w' => e = .returned (.bool (nameByte c)) ∧ w' = w := by
  have hc : (97 ≤ c.toNat ∧ c.toNat ≤ 122) ∨ c.toNat < 97 ∨ 122 < c.toNat := by omega
  rcases hc with hc | hc | hc
  · have HN := hide (nameByte_yes (Or.inl hc))
    obtain ⟨h1, h2⟩ := hc
    have d2 : decide ((c.toNat : Int) ≤ 122) = true := by simp; omega
    go_enter Tryz.func143, Tryz.ntmps143
    go_wp2_with (go_at_call 142; refine (isDigit_any _ _).mono ?_; rintro e w' ⟨rfl, rfl⟩)
    go_ret
    exact ⟨ret_bool (unhide HN).symm, rfl⟩
  · have HN := hide (nameByte_digit (Or.inl hc))
    go_enter Tryz.func143, Tryz.ntmps143
    go_wp2_with (go_at_call 142; refine (isDigit_any _ _).mono ?_; rintro e w' ⟨rfl, rfl⟩)
    go_ret
    exact ⟨ret_bool (unhide HN).symm, rfl⟩
  · have HN := hide (nameByte_digit (Or.inr hc))
    have d2 : decide ((c.toNat : Int) ≤ 122) = false := by simp; omega
    go_enter Tryz.func143, Tryz.ntmps143
    go_wp2_with (go_at_call 142; refine (isDigit_any _ _).mono ?_; rintro e w' ⟨rfl, rfl⟩)
    go_ret
    exact ⟨ret_bool (unhide HN).symm, rfl⟩

theorem nameOk_digit {s : ByteArray} (h0 : 0 < s.size) (h : digitB s[0] = true) : nameOkB s = false := by
  refine nameOk_first h0 ?_
  simp only [digitB, Bool.and_eq_true, decide_eq_true_eq] at h
  omega
theorem nameOk_yes2 {s : ByteArray} (h1 : 0 < s.size) (h2 : s.size ≤ 8) (hf : digitB s[0] = false) (ha : allTo nameByte s s.size) : nameOkB s = true := by
  refine nameOk_yes h1 h2 ?_ ha
  have hb := ha 0 h1 h1
  simp only [nameByte, digitB, Bool.or_eq_true, Bool.and_eq_true, Bool.and_eq_false_iff, decide_eq_true_eq, decide_eq_false_iff_not] at hb hf
  omega

set_option maxHeartbeats 400000 in
theorem nameOk_any (s : ByteArray) (w : World) (hs : s.size ≤ 9223372036854775807) :
    Calls Tryz.prog 129 #[.string s] w fun e w' => e = .returned (.bool (nameOkB s)) ∧ w' = w := by
  have hl : s.size < 1 ∨ 8 < s.size ∨ (0 < s.size ∧ s.size ≤ 8) := by omega
  rcases hl with hl | hl | ⟨hl0, hl8⟩
  · have HN := hide (nameOk_len (Or.inl hl))
    go_enter Tryz.func129, Tryz.ntmps129
    go_wp2_with fail
    go_ret
    exact ⟨ret_bool (unhide HN).symm, rfl⟩
  · have HN := hide (nameOk_len (Or.inr hl))
    go_enter Tryz.func129, Tryz.ntmps129
    go_wp2_with fail
    go_ret
    exact ⟨ret_bool (unhide HN).symm, rfl⟩
  · by_cases hf : digitB s[0] = true
    · have HN := hide (nameOk_digit hl0 hf)
      go_enter Tryz.func129, Tryz.ntmps129
      go_wp2_with (go_at_call 142; refine (isDigit_any _ _).mono ?_; rintro e w' ⟨rfl, rfl⟩)
      go_ret
      exact ⟨ret_bool (unhide HN).symm, rfl⟩
    · have hf' : digitB s[0] = false := by simpa using hf
      have HF := hide hf'
      clear hf
      go_enter Tryz.func129, Tryz.ntmps129
      go_wp2_with (go_at_call 142; refine (isDigit_any _ _).mono ?_; rintro e w' ⟨rfl, rfl⟩)
      go_loop [19] (fun i => ∃ k : Nat, k ≤ s.size ∧ i = .int .i64 k ∧ Hid (allTo nameByte s k)) (fun i => s.size - (intOf i).toNat)
      case atStart => exact ⟨0, Nat.zero_le _, rfl, fun j hj => by omega⟩
      case round =>
        obtain ⟨k, hk, rfl, HA⟩ := hrel
        by_cases hlt : k < s.size
        · by_cases hb : nameByte s[k] = true
          · have HN := hide (allTo_succ HA.out hlt hb)
            go_wp2_with (go_at_call 143; refine (isNameByte_any _ _).mono ?_; rintro e w' ⟨rfl, rfl⟩)
            go_round
            case rel => exact ⟨k + 1, by omega, by go_num, HN⟩
            case measure => simp [intOf]; omega
          · have hb' : nameByte s[k] = false := by simpa using hb
            clear hb
            have HN := hide (nameOk_not hlt hb')
            go_wp2_with (go_at_call 143; refine (isNameByte_any _ _).mono ?_; rintro e w' ⟨rfl, rfl⟩)
            go_ret
            exact ⟨ret_bool (unhide HN).symm, rfl⟩
        · go_wp2_with fail
          go_ret
          obtain rfl : k = s.size := by omega
          exact ⟨ret_bool (nameOk_yes2 hl0 hl8 (unhide HF) HA.out).symm, rfl⟩
end Go.Proofs.YtcpfelaffclalaaGreatDoor

/- The walk of the program's namesAscend: what it answers. No conditions. -/

namespace Go.Proofs.YtcpfelaffclalaaGreatDoor
open Go Go.RowKit

set_option maxHeartbeats 400000 in
theorem namesAscend_any (v : Value) (ss : List ByteArray) (w : World) {P : Nat → Prop} (hP : ∀ b, P b → b < w.heap.size) (hv : StrsAt P w v ss) :
    Calls Tryz.prog 110 #[v] w fun e w' => e = .returned (.bool (riseB ss)) ∧ w' = w := by
  obtain ⟨a, cap, rfl, hlen, hc⟩ := hv
  have HC := hide hc; have HP := hide hP
  clear hc hP
  go_enter Tryz.func110, Tryz.ntmps110
  go_wp2_with fail
  go_loop [7] (fun i => ∃ (k : Nat), k ≤ ss.length ∧ i = .int .i64 k ∧ Hid (∀ j, j < k → good ss j = true)) (fun i => ss.length - (intOf i).toNat)
  case atStart => exact ⟨0, Nat.zero_le _, rfl, hide (fun j hj => by omega)⟩
  case round =>
    obtain ⟨k, hk, rfl, HG⟩ := hrel
    by_cases hlt : k < ss.length
    · obtain ⟨b, o, rfl, hpb, hcell, hsz⟩ := unhide HC k hlt
      have hname := fun w => nameOk_any ss[k] w hsz
      have HN := hide hname; clear hname hpb
      by_cases hn : nameOkB ss[k] = true
      · by_cases h0 : 0 < k
        · obtain ⟨b', o', he, -, e0, -⟩ := unhide HC (k - 1) (by omega)
          simp only [Option.some.injEq, Addr.mk.injEq, and_true] at he
          obtain ⟨rfl, rfl⟩ := he
          have hd0 : decide ((0 : Int) < k) = true := by simp; omega
          have hgd := good_pos hlt h0 hn
          generalize hlb : Op.bytesLess (ss[k - 1]'(by omega)).toList ss[k].toList = lb at hgd
          have hi1 : ((k : Int) - 1).toNat = k - 1 := by omega
          have HGD := hide hgd
          clear hgd
          have hge := geqS
          cases lb
          · have HR := hide (rise_no hlt (unhide HGD))
            go_wp2_with (go_at_call 129; refine (unhide HN _).mono ?_; rintro e w' ⟨rfl, rfl⟩)
            go_ret
            exact ⟨ret_bool (unhide HR).symm, rfl⟩
          · go_wp2_with (go_at_call 129; refine (unhide HN _).mono ?_; rintro e w' ⟨rfl, rfl⟩)
            go_round
            case rel => exact ⟨k + 1, by omega, by go_num, hide (fun j hj => by
              by_cases e : j = k
              · subst e; exact unhide HGD
              · exact HG.out j (by omega))⟩
            case measure => simp [intOf]; omega
        · have hd0 : decide (0 < k) = false := by simp; omega
          have HK0 : Hid (k = 0) := by show k = 0; omega
          clear h0
          go_wp2_with (go_at_call 129; refine (unhide HN _).mono ?_; rintro e w' ⟨rfl, rfl⟩)
          go_round
          case rel => exact ⟨k + 1, by omega, by go_num, hide (fun j hj => by have := HK0.out; subst this; obtain rfl : j = 0 := by omega
                                                                              exact good_zero hlt hn)⟩
          case measure => simp [intOf]; omega
      · have hn' : nameOkB ss[k] = false := by simpa using hn
        have HR := hide (rise_no hlt (good_name hlt hn'))
        clear hn
        go_wp2_with (go_at_call 129; refine (unhide HN _).mono ?_; rintro e w' ⟨rfl, rfl⟩)
        go_ret
        exact ⟨ret_bool (unhide HR).symm, rfl⟩
    · go_wp2_with fail
      go_ret
      exact ⟨ret_bool (rise_yes (fun i hi => HG.out i (by omega))).symm, rfl⟩
end Go.Proofs.YtcpfelaffclalaaGreatDoor

/- The walk of the program's kindShaped: what it answers. No conditions. -/

namespace Go.Proofs.YtcpfelaffclalaaGreatDoor
open Go Go.RowKit

set_option maxHeartbeats 800000 in
theorem kindShaped_any (t : Kd) (P : Nat → Prop) (c : C3) (w : World) (hP : ∀ b, P b → b < w.heap.size) (hrep : KRep P w t c) :
    Calls Tryz.prog 80 #[.agg #[c.c0, c.c1, c.c2]] w fun e w' => e = .returned (.bool (shB t)) ∧ ∃ o, w' = w.alloc o := by
  obtain ⟨c0, c1, c2⟩ := c
  obtain ⟨e0, -, hns, a, cap, e2, hlen, -⟩ := hrep.open
  simp only at e0 e2 hns
  have HN := hide hns
  obtain ⟨a3, cap3, e1, hl3, -⟩ := hns
  subst e0 e1 e2
  clear hrep
  have hbx : ∀ o, Below w.heap.size w (w.alloc o) := fun o => (Below.refl _ _).alloc (Nat.le_refl _) o
  have hcall : ∀ o, Calls Tryz.prog 110 #[.slice a3 t.names.length cap3] (w.alloc o) fun e w' => e = .returned (.bool (riseB t.names)) ∧ w' = w.alloc o := fun o =>
    namesAscend_any _ t.names (w.alloc o) (P := P) (fun b hb => Nat.lt_of_lt_of_le (hP b hb) (hbx o).size) ((unhide HN).carry (fun b hb => (hbx o).block b (hP b hb)) (fun _ h => h))
  have HC := hide hcall
  clear hcall hbx hP HN
  by_cases h1 : t.sort = 1
  · have d1 : (t.sort == 1) = true := by simp [h1]
    have d2 : (t.sort == 2) = false := by simp [h1]
    have d3 : (t.sort == 3) = false := by simp [h1]
    have d4 : (t.sort == 4) = false := by simp [h1]
    have d6 : (t.sort == 6) = false := by simp [h1]
    have d5 : (t.sort == 5) = false := by simp [h1]
    have hsh : shB t = (decide (t.kids.length = 0) && decide (t.names.length = 0)) := by simp [shB, h1]
    have HSH := hide hsh; clear hsh h1
    go_enter Tryz.func80, Tryz.ntmps80
    go_wp2_with (go_at_call 110; refine (unhide HC _).mono ?_; rintro e w' ⟨rfl, rfl⟩)
    all_goals
      go_ret
      refine ⟨ret_bool ?_, _, rfl⟩
      rw [unhide HSH]
      clear HSH HC d1 d2 d3 d4 d5 d6
      rw [Bool.eq_iff_iff]
      simp_all <;> omega
  by_cases h2 : t.sort = 2
  · have d1 : (t.sort == 1) = false := by simp [h2]
    have d2 : (t.sort == 2) = true := by simp [h2]
    have d3 : (t.sort == 3) = false := by simp [h2]
    have d4 : (t.sort == 4) = false := by simp [h2]
    have d6 : (t.sort == 6) = false := by simp [h2]
    have d5 : (t.sort == 5) = false := by simp [h2]
    have hsh : shB t = (decide (t.kids.length = 0) && decide (t.names.length = 0)) := by simp [shB, h2]
    have HSH := hide hsh; clear hsh h1 h2
    go_enter Tryz.func80, Tryz.ntmps80
    go_wp2_with (go_at_call 110; refine (unhide HC _).mono ?_; rintro e w' ⟨rfl, rfl⟩)
    all_goals
      go_ret
      refine ⟨ret_bool ?_, _, rfl⟩
      rw [unhide HSH]
      clear HSH HC d1 d2 d3 d4 d5 d6
      rw [Bool.eq_iff_iff]
      simp_all <;> omega
  by_cases h3 : t.sort = 3
  · have d1 : (t.sort == 1) = false := by simp [h3]
    have d2 : (t.sort == 2) = false := by simp [h3]
    have d3 : (t.sort == 3) = true := by simp [h3]
    have d4 : (t.sort == 4) = false := by simp [h3]
    have d6 : (t.sort == 6) = false := by simp [h3]
    have d5 : (t.sort == 5) = false := by simp [h3]
    have hsh : shB t = (decide (t.kids.length = 0) && decide (t.names.length = 0)) := by simp [shB, h3]
    have HSH := hide hsh; clear hsh h1 h2 h3
    go_enter Tryz.func80, Tryz.ntmps80
    go_wp2_with (go_at_call 110; refine (unhide HC _).mono ?_; rintro e w' ⟨rfl, rfl⟩)
    all_goals
      go_ret
      refine ⟨ret_bool ?_, _, rfl⟩
      rw [unhide HSH]
      clear HSH HC d1 d2 d3 d4 d5 d6
      rw [Bool.eq_iff_iff]
      simp_all <;> omega
  by_cases h4 : t.sort = 4
  · have d1 : (t.sort == 1) = false := by simp [h4]
    have d2 : (t.sort == 2) = false := by simp [h4]
    have d3 : (t.sort == 3) = false := by simp [h4]
    have d4 : (t.sort == 4) = true := by simp [h4]
    have d6 : (t.sort == 6) = false := by simp [h4]
    have d5 : (t.sort == 5) = false := by simp [h4]
    have hsh : shB t = (decide (t.kids.length = 1) && decide (t.names.length = 0)) := by simp [shB, h4]
    have HSH := hide hsh; clear hsh h1 h2 h3 h4
    go_enter Tryz.func80, Tryz.ntmps80
    go_wp2_with (go_at_call 110; refine (unhide HC _).mono ?_; rintro e w' ⟨rfl, rfl⟩)
    all_goals
      go_ret
      refine ⟨ret_bool ?_, _, rfl⟩
      rw [unhide HSH]
      clear HSH HC d1 d2 d3 d4 d5 d6
      rw [Bool.eq_iff_iff]
      simp_all <;> omega
  by_cases h6 : t.sort = 6
  · have d1 : (t.sort == 1) = false := by simp [h6]
    have d2 : (t.sort == 2) = false := by simp [h6]
    have d3 : (t.sort == 3) = false := by simp [h6]
    have d4 : (t.sort == 4) = false := by simp [h6]
    have d6 : (t.sort == 6) = true := by simp [h6]
    have d5 : (t.sort == 5) = false := by simp [h6]
    have hsh : shB t = (decide (t.kids.length = 1) && decide (t.names.length = 0)) := by simp [shB, h6]
    have HSH := hide hsh; clear hsh h1 h2 h3 h4 h6
    go_enter Tryz.func80, Tryz.ntmps80
    go_wp2_with (go_at_call 110; refine (unhide HC _).mono ?_; rintro e w' ⟨rfl, rfl⟩)
    all_goals
      go_ret
      refine ⟨ret_bool ?_, _, rfl⟩
      rw [unhide HSH]
      clear HSH HC d1 d2 d3 d4 d5 d6
      rw [Bool.eq_iff_iff]
      simp_all <;> omega
  by_cases h5 : t.sort = 5
  · have d1 : (t.sort == 1) = false := by simp [h5]
    have d2 : (t.sort == 2) = false := by simp [h5]
    have d3 : (t.sort == 3) = false := by simp [h5]
    have d4 : (t.sort == 4) = false := by simp [h5]
    have d6 : (t.sort == 6) = false := by simp [h5]
    have d5 : (t.sort == 5) = true := by simp [h5]
    have hsh : shB t = (decide (t.kids.length = t.names.length) && riseB t.names) := by simp [shB, h5]
    have HSH := hide hsh; clear hsh h1 h2 h3 h4 h6 h5
    go_enter Tryz.func80, Tryz.ntmps80
    go_wp2_with (go_at_call 110; refine (unhide HC _).mono ?_; rintro e w' ⟨rfl, rfl⟩)
    all_goals
      go_ret
      refine ⟨ret_bool ?_, _, rfl⟩
      rw [unhide HSH]
      clear HSH HC d1 d2 d3 d4 d5 d6
      rw [Bool.eq_iff_iff]
      simp_all <;> omega
  have d1 : (t.sort == 1) = false := by simp [h1]
  have d2 : (t.sort == 2) = false := by simp [h2]
  have d3 : (t.sort == 3) = false := by simp [h3]
  have d4 : (t.sort == 4) = false := by simp [h4]
  have d6 : (t.sort == 6) = false := by simp [h6]
  have d5 : (t.sort == 5) = false := by simp [h5]
  have hsh : shB t = false := by simp [shB, h1, h2, h3, h4, h5, h6]
  have HSH := hide hsh; clear hsh h1 h2 h3 h4 h5 h6
  go_enter Tryz.func80, Tryz.ntmps80
  go_wp2_with fail
  go_ret
  exact ⟨ret_bool (unhide HSH).symm, _, rfl⟩
end Go.Proofs.YtcpfelaffclalaaGreatDoor

/- The walk of the program's KindOk: it answers as the specification does. No conditions but the schema's weight, at most 2^20. -/

namespace Go.Proofs.YtcpfelaffclalaaGreatDoor
open Go Go.RowKit Go.Shelf

attribute [local go_sem] Oper.semAt_some

theorem Kept.setCell {n₀ : Nat} {S : Nat → Prop} (W : World) (p : Addr) (v : Value) (hS : S p.block) (hn : n₀ ≤ p.block) : Kept n₀ S W (W.setCell p v) :=
  ⟨(Below.refl _ W).setCell hn _, fun k o hk ho _ => (Below.heap_setCell _ _ _ _ (fun e => hk (by rw [e]; exact hS))).trans ho⟩

set_option maxRecDepth 100000 in
set_option maxHeartbeats 2000000 in
theorem implKindOk_any (t : Kd) (P : Nat → Prop) (c : C3) (w : World) (hP : ∀ b, P b → b < w.heap.size) (hrep : KRep P w t c) (hwt : wKd t ≤ 1048576) :
    Calls Tryz.prog 48 #[.agg #[c.c0, c.c1, c.c2]] w fun e w' => e = .returned (.bool (decide (0 < qT t 1))) ∧ Below w.heap.size w w' := by
  obtain ⟨c0, c1, c2⟩ := c
  have hrep' : KRep (fun b => b < w.heap.size) w t ⟨c0, c1, c2⟩ := KRep.carry (fun _ _ => rfl) hP _ _ hrep
  obtain ⟨e0, -, ⟨a3, cap3, e1, hl3, -⟩, a, cap, e2, hlen, -⟩ := hrep.open
  simp only at e0 e1 e2
  subst e0 e1 e2
  have HREP := hide hrep'
  clear hrep hrep' hP
  have hksz : ksz t ≤ 1152921504606846970 := by have := ksz_w t; omega
  refine (callsIn_wide (n := 8)).1 ?_
  refine callsIn_of_wp_marks Tryz.func48 rfl trivial ?_ rfl
  simp only [Tryz.ntmps48, List.size_toArray, List.length_cons, List.length_nil, Nat.reduceAdd, Nat.reduceSub, Array.replicate_succ, Array.replicate_zero, List.push_toArray, List.append_toArray, List.nil_append, List.cons_append]
  gi_wp2_with ((try refine ⟨trivial, ?_⟩); gi_at_call 79; refine (walk_in Fence.wide _ trivial rfl _ _ _ _ _ _).mono ?_; rintro e w' ⟨rfl, rfl⟩)
  obtain ⟨W0, hW0⟩ : ∃ W0, ((((w.alloc (.cells #[.int .i64 t.sort, .slice a3 t.names.length cap3, .slice a t.kids.length cap] 30)).alloc (.cells #[.bool false] 4)).alloc (.cells #[.int .i64 0] 3)).alloc (.cells #[.int .i64 t.sort, .slice a3 t.names.length cap3, .slice a t.kids.length cap] 30)) = W0 := ⟨_, rfl⟩
  have hsz : W0.heap.size = w.heap.size + 4 := by rw [← hW0]; simp
  have hB0 : Below w.heap.size w W0 := by rw [← hW0]; exact ((((Below.refl _ w).alloc (Nat.le_refl _) _).alloc (by simp) _).alloc (by simp; omega) _).alloc (by simp; omega) _
  have hbr : Boxed W0 (w.heap.size + 1) 4 (.bool false) := by
    rw [← hW0]
    have := (Boxed.new (w.alloc (.cells #[.int .i64 t.sort, .slice a3 t.names.length cap3, .slice a t.kids.length cap] 30)) 4 (.bool false))
    rw [World.size_alloc] at this
    exact (this.alloc _).alloc _
  have hbp : Boxed W0 (w.heap.size + 1 + 1) 3 (.int .i64 0) := by
    rw [← hW0]
    have := (Boxed.new ((w.alloc (.cells #[.int .i64 t.sort, .slice a3 t.names.length cap3, .slice a t.kids.length cap] 30)).alloc (.cells #[.bool false] 4)) 3 (.int .i64 0))
    rw [World.size_alloc, World.size_alloc] at this
    exact this.alloc _
  have hbt : C3.at W0 (w.heap.size + 1 + 1 + 1) 0 ⟨.int .i64 t.sort, .slice a3 t.names.length cap3, .slice a t.kids.length cap⟩ := by
    rw [← hW0]
    have q := row3_alloc (((w.alloc (.cells #[.int .i64 t.sort, .slice a3 t.names.length cap3, .slice a t.kids.length cap] 30)).alloc (.cells #[.bool false] 4)).alloc (.cells #[.int .i64 0] 3)) (.int .i64 t.sort) (.slice a3 t.names.length cap3) (.slice a t.kids.length cap) 30
    rw [World.size_alloc, World.size_alloc, World.size_alloc] at q
    exact ⟨q.cell (i := 0) (by omega), q.cell (i := 1) (by omega), q.cell (i := 2) (by omega)⟩
  rw [hW0]
  clear hW0
  refine wpIn_rangeFunc_ownH (α := KX w.heap.size w) (encs := kEnc) (Kp := Kept w.heap.size (fun k => k = w.heap.size + 1 ∨ k = w.heap.size + 1 + 1)) (S := fun ys => ys.map kKey = pord t 1) (Sp := fun pre => pre.map kKey <+: pord t 1) (N := (pord t 1).length) (w0 := W0) rfl (by omega)
    (gf := 108) (lb := #[.pointer (some ⟨w.heap.size + 1 + 1 + 1, 0, none⟩)]) rfl trivial (enters_of Tryz.func108 (by kernel_rfl) rfl)
    (fun l J Jx W hW hJ hJx hY h0 => walk1_in Fence.wide rfl _ trivial trivial trivial rfl l (w.heap.size + 1 + 1 + 1) w.heap.size (w.heap.size + 4) _ w (Nat.le_refl _) t _ (unhide HREP) hksz J Jx (fun s A B hs hg => hJ s A B none hs hg (fun r e => by cases e)) (fun k hk => by omega) hY W (hbt.carry (hW.block _ (by omega))) (hB0.trans (hW.mono hB0.size)) (by have := hW.size; omega) h0)
    Kept.trans (Kept.putObj (by omega)) (Below.refl _ _) (fun _ => rfl)
    (fun pre W => (pre.map kKey).all gdB = true ∧ pre.length ≤ 40 ∧ (Boxed W (w.heap.size + 1) 4 (.bool false) ∧ Boxed W (w.heap.size + 1 + 1) 3 (.int .i64 pre.length)) ∧ Below w.heap.size w W)
    (fun c pre W => c = .ret ∧ ((pre.map kKey).all gdB = false ∨ 40 < pre.length) ∧ Boxed W (w.heap.size + 1) 4 (.bool false) ∧ Below w.heap.size w W)
    ?hI ?hIx ?h0
    (fun x a' W => ∃ Bx, w.heap.size + 1 + 1 < Bx ∧ C3.at W Bx 0 x.1.2.2 ∧ a' = { tmps := #[.agg #[.int .i64 t.sort, .slice a3 t.names.length cap3, .slice a t.kids.length cap], .pointer (some ⟨w.heap.size, 0, none⟩), .pointer (some ⟨w.heap.size + 1, 0, none⟩), .pointer (some ⟨w.heap.size + 1 + 1, 0, none⟩), .int .i64 x.1.1, .pointer (some ⟨Bx, 0, none⟩), .agg #[.int .i64 t.sort, .slice a3 t.names.length cap3, .slice a t.kids.length cap], .func (.func 108) #[] #[.pointer (some ⟨w.heap.size + 1 + 1 + 1, 0, none⟩)], .int .i64 x.1.1, .agg #[x.1.2.2.c0, x.1.2.2.c1, x.1.2.2.c2], undef, undef, undef, undef, undef, undef, undef, undef, undef, undef, undef, undef, undef], defers := [] })
    ?hAx ?assign ?body ?done ?stop
  case hI =>
    exact fun s W W' row hs hg hr => ⟨hs.1, hs.2.1, ⟨boxed_own _ _ (fun _ => .bool false) s W W' row hs.2.2.1.1 hg (fun r e => (hr r e).2), boxed_own _ _ (fun pre : List (KX w.heap.size w) => .int .i64 pre.length) s W W' row hs.2.2.1.2 hg (fun r e => (hr r e).2)⟩, ownFrom_below (Nat.le_refl _) (by omega) s W W' row hs.2.2.2 hg hr⟩
  case hIx =>
    exact fun c s W W' row hs hg hr => ⟨hs.1, hs.2.1, boxed_own _ _ (fun _ => .bool false) s W W' row hs.2.2.1 hg (fun r e => (hr r e).2), ownFrom_below (Nat.le_refl _) (by omega) s W W' row hs.2.2.2 hg hr⟩
  case h0 => exact ⟨by simp, by simp, ⟨hbr, by simpa using hbp⟩, hB0⟩
  case hAx =>
    rintro x a' s W W' row ⟨Bx, hBx, ⟨f0, f1, f2⟩, rfl⟩ hg hr
    exact ⟨Bx, hBx, ⟨cell_kept f0 hg (fun r e => (hr r e).2), cell_kept f1 hg (fun r e => (hr r e).2), cell_kept f2 hg (fun r e => (hr r e).2)⟩, rfl⟩
  case assign =>
    rintro l pre ⟨⟨lv, T, ⟨d0, d1, d2⟩⟩, hx⟩ W K hi hK
    obtain ⟨g0, -, ⟨a5, cap5, g1, -⟩, a6, cap6, g2, -⟩ := hx.open
    simp only at g0 g1 g2
    subst g0 g1 g2
    have HK := hide hK; have HI := hide hi
    clear hK hi
    simp only [kEnc]
    gi_wp2
    obtain ⟨h1, h2, ⟨h3, h4⟩, h5⟩ := unhide HI
    have q := row3_alloc W (.int .i64 T.sort) (.slice a5 T.names.length cap5) (.slice a6 T.kids.length cap6) 30
    exact unhide HK _ _ ((KeepsOthers.alloc _ _).from _) (Kept.grown (World.grownBy_alloc _ _ none) h5.size) ⟨h1, h2, ⟨h3.alloc _, h4.alloc _⟩, h5.alloc h5.size _⟩ ⟨W.heap.size, h4.lt, ⟨q.cell (i := 0) (by omega), q.cell (i := 1) (by omega), q.cell (i := 2) (by omega)⟩, rfl⟩
  case body =>
    rintro l pre x a' W hl - ⟨hall, h40, ⟨hbr', hbp'⟩, hB⟩ ⟨Bx, hBx, hat, rfl⟩ hlt
    have hx := x.2
    have hk : kKey x = (x.1.1, x.1.2.1) := rfl
    obtain ⟨lv, T, d0, d1, d2, hxe⟩ : ∃ lv T d0 d1 d2, x.1 = (lv, T, ⟨d0, d1, d2⟩) := by obtain ⟨⟨lv, T, ⟨d0, d1, d2⟩⟩, _⟩ := x; exact ⟨_, _, _, _, _, rfl⟩
    rw [hxe] at hx
    simp only [hxe] at hk hat ⊢
    obtain ⟨g0, -, ⟨a5, cap5, g1, -⟩, a6, cap6, g2, -⟩ := hx.open
    simp only at g0 g1 g2
    clear hxe
    subst g0 g1 g2
    obtain ⟨f0, f1, f2⟩ := hat
    simp only at f0 f1 f2
    have p0 := hbp'.cell
    have p1 := hbp'.frozen
    have r0 := hbr'.cell
    have r1 := hbr'.frozen
    have hB1 : ∀ v, Below w.heap.size w (W.setCell ⟨w.heap.size + 1 + 1, 0, none⟩ v) := fun v => hB.setCell (by simp; omega) _
    have hcall : ∀ v, Calls Tryz.prog 80 #[.agg #[.int .i64 T.sort, .slice a5 T.names.length cap5, .slice a6 T.kids.length cap6]] (W.setCell ⟨w.heap.size + 1 + 1, 0, none⟩ v) fun e w' => e = .returned (.bool (shB T)) ∧ ∃ o, w' = (W.setCell ⟨w.heap.size + 1 + 1, 0, none⟩ v).alloc o := fun v =>
      kindShaped_any T (fun b => b < w.heap.size) ⟨_, _, _⟩ _ (fun b hb => Nat.lt_of_lt_of_le hb (hB1 v).size) (KRep.carry (fun b hb => (hB1 v).block b hb) (fun _ h => h) _ _ hx)
    have HCALL := hide hcall; have HB := hide hB; have HBR := hide hbr'; have HBP := hide hbp'; have HALL := hide hall
    have HK := hide hk
    clear hcall hB1 hB hbr' hbp' hall hx hk
    have hkp : ∀ v, Kept w.heap.size (fun k => k = w.heap.size + 1 ∨ k = w.heap.size + 1 + 1) W (W.setCell ⟨w.heap.size + 1 + 1, 0, none⟩ v) := fun v => Kept.setCell W _ _ (Or.inr rfl) (by simp; omega)
    have HKP := hide hkp; clear hkp
    have hbr2 : ∀ v o, Boxed ((W.setCell ⟨w.heap.size + 1 + 1, 0, none⟩ v).alloc o) (w.heap.size + 1) 4 (.bool false) := fun v o => ((unhide HBR).other (by omega) v).alloc o
    have r2 : ∀ v o, ((W.setCell ⟨w.heap.size + 1 + 1, 0, none⟩ v).alloc o).cell? ⟨w.heap.size + 1, 0, none⟩ = some (.bool false) := fun v o => (hbr2 v o).cell
    have r3 : ∀ v o, ((W.setCell ⟨w.heap.size + 1 + 1, 0, none⟩ v).alloc o).frozen? ⟨w.heap.size + 1, 0, none⟩ = false := fun v o => (hbr2 v o).frozen
    have HBR2 := hide hbr2; clear hbr2
    have hnx : (((pre ++ [x]).length : Nat) : Int) = (pre.length : Int) + 1 := by simp
    have HNX := hide hnx; clear hnx
    by_cases hp : 40 < pre.length + 1
    · have b1 : decide ((40 : Int) < (pre.length : Int) + 1) = true := by simp; omega
      gi_wp2_with fail
      refine ⟨trivial, ?_⟩
      gi_wp2_with fail
      refine ⟨((KeepsOthers.setCell _ _ _).trans (KeepsOthers.setCell _ _ _)).from _, rfl, Or.inr (by simp; omega), ?_, ?_⟩
      · exact ((unhide HBR).other (by omega) _).set _
      · exact ((unhide HB).setCell (by simp; omega) _).setCell (by simp) _
    · have b1 : decide ((40 : Int) < (pre.length : Int) + 1) = false := by simp; omega
      by_cases h6 : 6 < lv
      · have hbad : ((pre ++ [x]).map kKey).all gdB = false := by
          rw [List.map_append, List.all_append]
          simp [unhide HK, gdB]; omega
        have HBAD := hide hbad; clear hbad
        gi_wp2_with fail
        refine ⟨trivial, ?_⟩
        gi_wp2_with fail
        refine ⟨((KeepsOthers.setCell _ _ _).trans (KeepsOthers.setCell _ _ _)).from _, rfl, Or.inl (unhide HBAD), ?_, ?_⟩
        · exact ((unhide HBR).other (by omega) _).set _
        · exact ((unhide HB).setCell (by simp; omega) _).setCell (by simp) _
      · cases hsh : shB T
        · have hbad : ((pre ++ [x]).map kKey).all gdB = false := by
            rw [List.map_append, List.all_append]
            simp [unhide HK, gdB, hsh]
          have HBAD := hide hbad; clear hbad
          rw [hsh] at HCALL
          gi_wp2_with ((try refine ⟨trivial, ?_⟩); gi_at_call 80; refine (CallsIn.inRound l (callsIn_wide.2 (unhide HCALL _))).mono ?_; rintro e w' ⟨rfl, o, rfl⟩)
          refine ⟨(((KeepsOthers.setCell _ _ _).trans (KeepsOthers.alloc _ _)).trans (KeepsOthers.setCell _ _ _)).from _, rfl, Or.inl (unhide HBAD), ?_, ?_⟩
          · exact (unhide HBR2 _ _).set _
          · exact (((unhide HB).setCell (by simp; omega) _).alloc (by have := (unhide HB).size; simp [World.setCell]; omega) _).setCell (by simp) _
        · have hgood : ((pre ++ [x]).map kKey).all gdB = true := by
            rw [List.map_append, List.all_append, unhide HALL]
            simp [unhide HK, gdB, hsh]; omega
          have HGOOD := hide hgood; clear hgood
          rw [hsh] at HCALL
          gi_wp2_with ((try refine ⟨trivial, ?_⟩); gi_at_call 80; refine (CallsIn.inRound l (callsIn_wide.2 (unhide HCALL _))).mono ?_; rintro e w' ⟨rfl, o, rfl⟩)
          have hsw := (unhide HB).size
          refine ⟨((KeepsOthers.setCell _ _ _).trans (KeepsOthers.alloc _ _)).from _, (unhide HKP _).trans (Kept.grown (World.grownBy_alloc _ _ none) (by simp [World.setCell]; omega)), unhide HGOOD, by simp; omega, ⟨unhide HBR2 _ _, ?_⟩, ?_⟩
          · rw [unhide HNX]; exact ((unhide HBP).set _).alloc _
          · exact ((unhide HB).setCell (by simp; omega) _).alloc (by simp [World.setCell]; omega) _
  case done =>
    rintro D ys W hD hS ⟨hall, h40, ⟨hbr', -⟩, hB⟩ hK
    have hans : decide (0 < qT t 1) = true := by
      rw [qT_start, ← hS, hall]
      simp; omega
    have r0 := hbr'.cell
    have r1 := hbr'.frozen
    gi_wp2_with fail
    have hK' := (KeepsOthers.setCell W ⟨w.heap.size + 1, 0, none⟩ (.bool true)).same D _ hK rfl
    refine ⟨by simp, .inl ⟨_, _, rfl, run_takeDeferred hK', ?_⟩⟩
    have hc5 := cell_kept (hbr'.set (.bool true)).cell (grownBy_putObj' _ D (.deferred none)) (fun r e => by cases e; exact ⟨_, hK', rfl⟩)
    refine ⟨.bool true, ?_, by rw [hans], (hB.setCell (p := ⟨w.heap.size + 1, 0, none⟩) (by simp) _).trans (belowK_b (w := w) (Nat.le_refl _) _ D _ _ (by omega) hK' rfl rfl)⟩
    simp [results, Tryz.results48, go_sem, hc5]
  case stop =>
    rintro D c pre W hD hpre ⟨rfl, hbad, hbr', hB⟩ hK
    have hans : decide (0 < qT t 1) = false := by
      rw [qT_start]
      rcases hbad with h | h
      · have : (pord t 1).all gdB = false := by
          obtain ⟨r, hr⟩ := hpre
          rw [← hr, List.all_append, h]; rfl
        rw [this]; rfl
      · have := hpre.length_le
        simp only [List.length_map] at this
        simp; intro _; omega
    gi_wp2_with fail
    refine ⟨by simp, .inl ⟨_, _, rfl, run_takeDeferred hK, ?_⟩⟩
    have hc5 := cell_kept hbr'.cell (grownBy_putObj' _ D (.deferred none)) (fun r e => by cases e; exact ⟨_, hK, rfl⟩)
    refine ⟨.bool false, ?_, by rw [hans], hB.trans (belowK_b (w := w) (Nat.le_refl _) W D _ _ (by omega) hK rfl rfl)⟩
    simp [results, Tryz.results48, go_sem, hc5]

end Go.Proofs.YtcpfelaffclalaaGreatDoor

/- The walks of the specification's KindFirst and of the program's: both give the first tree of a schema that is ok, and else the zero tree, in blocks of its own. Of what was there nothing has turned. -/

namespace Go.Proofs.YtcpfelaffclalaaGreatDoor
open Go Go.RowKit

theorem boxes {w w1 : World} {a b : Obj} (h : Below ((w.alloc a).alloc b).heap.size ((w.alloc a).alloc b) w1) : Below w.heap.size w w1 ∧ w.heap.size + 2 ≤ w1.heap.size := by
  have h1 := h.size
  refine ⟨(((Below.refl w.heap.size w).alloc (Nat.le_refl _) a).alloc (by simp) b).trans (h.mono (by simp; omega)), by simp at h1; omega⟩

end Go.Proofs.YtcpfelaffclalaaGreatDoor

/- What KindWiden answers, and the boxes of its arguments; no program walked, no conditions. -/

namespace Go.Proofs.YtcpfelaffclalaaGreatDoor
open Go Go.RowKit

/-- What KindWiden answers. -/
def widA (a b : Kd) (t : Tr) : Option Tr := if fitsD a b = true ∧ hasA a t = true ∧ 0 < pT (widF 40 a b t) 1 then some (widF 40 a b t) else none
def wAn (o : Option Tr) : Tr := o.getD tr0
/-- An answer of KindWiden, in memory of its own. -/
def WdE (o : Option Tr) (w : World) (e : Ending) (w' : World) : Prop := ∃ (d : C5) (F : List Nat), e = .returned (.tuple #[.agg #[d.c0, d.c1, d.c2, d.c3, d.c4], .bool o.isSome]) ∧ Own w' (wAn o) d F ∧ F.Nodup ∧ (∀ b, b ∈ F → w.heap.size ≤ b ∧ b < w'.heap.size) ∧ Below w.heap.size w w'
theorem widA_no1 {a b : Kd} {t : Tr} (h : fitsD a b = false) : widA a b t = none := by unfold widA; rw [h]; simp
theorem widA_no2 {a b : Kd} {t : Tr} (h : hasA a t = false) : widA a b t = none := by unfold widA; rw [h]; simp
theorem widA_no3 {a b : Kd} {t : Tr} (h : ¬ 0 < pT (widF 40 a b t) 1) : widA a b t = none := by unfold widA; rw [if_neg (fun k => h k.2.2)]
theorem widA_yes {a b : Kd} {t : Tr} (h1 : fitsD a b = true) (h2 : hasA a t = true) (h3 : 0 < pT (widF 40 a b t) 1) : widA a b t = some (widF 40 a b t) := by unfold widA; rw [if_pos ⟨h1, h2, h3⟩]
theorem fitsD_open {a b : Kd} (h : fitsD a b = true) : okD a = true ∧ okD b = true ∧ ksz a ≤ 40 ∧ ksz b ≤ 40 ∧ fitF 40 a b = true := by
  unfold fitsD at h
  rw [Bool.and_eq_true, Bool.and_eq_true, decide_eq_true_eq, decide_eq_true_eq] at h
  have h1 := ok_of_qT h.1.1
  have h2 := ok_of_qT h.1.2
  exact ⟨h1.1, h2.1, h1.2, h2.2, h.2⟩
theorem hasA_open {a : Kd} {t : Tr} (h : hasA a t = true) : hT t a = true ∧ okH t = true := by
  unfold hasA at h
  rw [Bool.and_eq_true, Bool.and_eq_true, decide_eq_true_eq, decide_eq_true_eq] at h
  exact ⟨h.2, okH_of_pT t 1 (by omega)⟩
theorem own_tr0 (w : World) : Own w tr0 ⟨.int .i64 0, .int .i64 0, .string ⟨#[]⟩, .slice none 0 0, .slice none 0 0⟩ [] := by
  unfold tr0
  rw [Own]
  exact ⟨rfl, rfl, rfl, ⟨by decide, by decide⟩, ⟨by decide, by decide⟩, by decide, [], [], rfl, ⟨none, 0, rfl, by simp, Or.inl ⟨rfl, rfl⟩⟩, none, 0, rfl, by simp, Or.inl ⟨rfl, rfl⟩⟩
theorem WdE.none {w w' : World} {o : Option Tr} (h : o = Option.none) (hb : Below w.heap.size w w') : WdE o w (.returned (.tuple #[.agg #[.int .i64 0, .int .i64 0, .string ⟨#[]⟩, .slice .none 0 0, .slice .none 0 0], .bool false])) w' := by
  subst h
  exact ⟨⟨_, _, _, _, _⟩, [], rfl, own_tr0 w', List.nodup_nil, fun b hb => by simp at hb, hb⟩
/-- The boxes of two schemas, a tree, and of the answer. -/
structure Bx4 (w W : World) (c d : C3) (x : C5) : Prop where
  below : Below w.heap.size w W
  size : w.heap.size + 4 ≤ W.heap.size
  bA : W.rowIs w.heap.size 30 3 (row3 c.c0 c.c1 c.c2)
  bB : W.rowIs (w.heap.size + 1) 30 3 (row3 d.c0 d.c1 d.c2)
  bT : W.rowIs (w.heap.size + 2) 39 5 (row5 x.c0 x.c1 x.c2 x.c3 x.c4)
  bR : W.rowIs (w.heap.size + 3) 39 5 (row5 (.int .i64 0) (.int .i64 0) (.string ⟨#[]⟩) (.slice none 0 0) (.slice none 0 0))
theorem Bx4.on {w W W' : World} {c d : C3} {x : C5} (h : Bx4 w W c d x) (hb : Below W.heap.size W W') : Bx4 w W' c d x := by
  have := h.size
  exact ⟨h.below.trans (hb.mono h.below.size), Nat.le_trans h.size hb.size, h.bA.of_block (hb.block _ (by omega)), h.bB.of_block (hb.block _ (by omega)), h.bT.of_block (hb.block _ (by omega)), h.bR.of_block (hb.block _ (by omega))⟩
theorem Bx4.start (w : World) (c0 c1 c2 d0 d1 d2 x0 x1 x2 x3 x4 : Value) : Bx4 w ((((w.alloc (.cells #[c0, c1, c2] 30)).alloc (.cells #[d0, d1, d2] 30)).alloc (.cells #[x0, x1, x2, x3, x4] 39)).alloc (.cells #[.int .i64 0, .int .i64 0, .string ⟨#[]⟩, .slice none 0 0, .slice none 0 0] 39)) ⟨c0, c1, c2⟩ ⟨d0, d1, d2⟩ ⟨x0, x1, x2, x3, x4⟩ := by
  have h2 := row3_alloc (w.alloc (.cells #[c0, c1, c2] 30)) d0 d1 d2 30
  have h3 := row5_alloc ((w.alloc (.cells #[c0, c1, c2] 30)).alloc (.cells #[d0, d1, d2] 30)) x0 x1 x2 x3 x4 39
  have h4 := row5_alloc (((w.alloc (.cells #[c0, c1, c2] 30)).alloc (.cells #[d0, d1, d2] 30)).alloc (.cells #[x0, x1, x2, x3, x4] 39)) (.int .i64 0) (.int .i64 0) (.string ⟨#[]⟩) (.slice none 0 0) (.slice none 0 0) 39
  simp only [World.size_alloc] at h2 h3 h4
  exact ⟨((((Below.refl _ _).alloc (Nat.le_refl _) _).alloc (by simp) _).alloc (by simp; omega) _).alloc (by simp; omega) _, by simp, (((row3_alloc w c0 c1 c2 _).alloc _).alloc _).alloc _, (h2.alloc _).alloc _, h3.alloc _, h4⟩
end Go.Proofs.YtcpfelaffclalaaGreatDoor
