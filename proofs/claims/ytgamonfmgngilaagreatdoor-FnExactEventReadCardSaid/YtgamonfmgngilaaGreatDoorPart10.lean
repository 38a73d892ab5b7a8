/- The walk of the program's namesAscend: what it answers. No conditions. -/
import Derived.Test.YtgamonfmgngilaaGreatDoorPart09
import Derived.Test.YtgamonfmgngilaaGreatDoorPart02
import Derived.Test.YtgamonfmgngilaaGreatDoorPart03
namespace Go.Proofs.YtgamonfmgngilaaGreatDoor
open Go Go.RowKit

set_option maxHeartbeats 400000 in
theorem namesAscend_any (v : Value) (ss : List ByteArray) (w : World) {P : Nat → Prop} (hP : ∀ b, P b → b < w.heap.size) (hv : StrsAt P w v ss) :
    Calls Tryz.prog 117 #[v] w fun e w' => e = .returned (.bool (riseB ss)) ∧ w' = w := by
  obtain ⟨a, cap, rfl, hlen, hc⟩ := hv
  have HC := hide hc; have HP := hide hP
  clear hc hP
  go_enter Tryz.func117, Tryz.ntmps117
  go_wp2_with fail
  go_loop [7] (fun i => ∃ (k : Nat), k ≤ ss.length ∧ i = .int .i64 k ∧ Hid (∀ j, j < k → good ss j = true)) (fun i => ss.length - (intOf i).toNat)
  case atStart => exact ⟨0, Nat.zero_le _, rfl, hide (fun j hj => by omega)⟩
  case round =>
    obtain ⟨k, hk, rfl, HG⟩ := hrel
    by_cases hlt : k < ss.length
    · obtain ⟨b, o, rfl, hpb, hcell, hsz⟩ := unhide HC k hlt
      have hname := fun w => nameOk_any ss[k] w hsz
      have HN := hide hname; clear hname hpb
      by_cases hn : nameOkB ss[k] = true
      · by_cases h0 : 0 < k
        · obtain ⟨b', o', he, -, e0, -⟩ := unhide HC (k - 1) (by omega)
          simp only [Option.some.injEq, Addr.mk.injEq, and_true] at he
          obtain ⟨rfl, rfl⟩ := he
          have hd0 : decide ((0 : Int) < k) = true := by simp; omega
          have hgd := good_pos hlt h0 hn
          generalize hlb : Op.bytesLess (ss[k - 1]'(by omega)).toList ss[k].toList = lb at hgd
          have hi1 : ((k : Int) - 1).toNat = k - 1 := by omega
          have HGD := hide hgd
          clear hgd
          have hge := geqS
          cases lb
          · have HR := hide (rise_no hlt (unhide HGD))
            go_wp2_with (go_at_call 110; refine (unhide HN _).mono ?_; rintro e w' ⟨rfl, rfl⟩)
            go_ret
            exact ⟨ret_bool (unhide HR).symm, rfl⟩
          · go_wp2_with (go_at_call 110; refine (unhide HN _).mono ?_; rintro e w' ⟨rfl, rfl⟩)
            go_round
            case rel => exact ⟨k + 1, by omega, by go_num, hide (fun j hj => by
              by_cases e : j = k
              · subst e; exact unhide HGD
              · exact HG.out j (by omega))⟩
            case measure => simp [intOf]; omega
        · have hd0 : decide (0 < k) = false := by simp; omega
          have HK0 : Hid (k = 0) := by show k = 0; omega
          clear h0
          go_wp2_with (go_at_call 110; refine (unhide HN _).mono ?_; rintro e w' ⟨rfl, rfl⟩)
          go_round
          case rel => exact ⟨k + 1, by omega, by go_num, hide (fun j hj => by have := HK0.out; subst this; obtain rfl : j = 0 := by omega
                                                                              exact good_zero hlt hn)⟩
          case measure => simp [intOf]; omega
      · have hn' : nameOkB ss[k] = false := by simpa using hn
        have HR := hide (rise_no hlt (good_name hlt hn'))
        clear hn
        go_wp2_with (go_at_call 110; refine (unhide HN _).mono ?_; rintro e w' ⟨rfl, rfl⟩)
        go_ret
        exact ⟨ret_bool (unhide HR).symm, rfl⟩
    · go_wp2_with fail
      go_ret
      exact ⟨ret_bool (rise_yes (fun i hi => HG.out i (by omega))).symm, rfl⟩
end Go.Proofs.YtgamonfmgngilaaGreatDoor

/- The walks of the program's newNumTree, newTextTree, newListTree, newMaybeTree, newFormTree, enter and leave: what they answer, or that they raise a fault. No conditions. -/

namespace Go.Proofs.YtgamonfmgngilaaGreatDoor
open Go Go.RowKit

set_option maxHeartbeats 400000 in
theorem newNum_yes (n : Int) (w : World) (h : -999999999 ≤ n ∧ n ≤ 999999999) : Calls Tryz.prog 94 #[.int .i64 n] w fun e w' => e = .returned (.int .i64 n) ∧ w' = w := by
  obtain ⟨h1, h2⟩ := h
  have d2 : decide (n ≤ 999999999) = true := by simp; omega
  go_enter Tryz.func94, Tryz.ntmps94
  go_wp2_with (go_at_call 65; refine (treeWant_yes _).mono ?_; rintro e w' ⟨rfl, rfl⟩)
  go_ret
  exact ⟨rfl, rfl⟩

set_option maxHeartbeats 400000 in
theorem newNum_no (n : Int) (w : World) (h : ¬ (-999999999 ≤ n ∧ n ≤ 999999999)) : Calls Tryz.prog 94 #[.int .i64 n] w fun e w' => e = fltE ∧ w' = w := by
  have h' : n < -999999999 ∨ 999999999 < n := by omega
  clear h
  rcases h' with h | h
  · go_enter Tryz.func94, Tryz.ntmps94
    go_wp2_with (go_at_call 65; refine (treeWant_no _).mono ?_; rintro e w' ⟨rfl, rfl⟩)
    exact ⟨rfl, rfl, rfl⟩
  · have d2 : decide (n ≤ 999999999) = false := by simp; omega
    go_enter Tryz.func94, Tryz.ntmps94
    go_wp2_with (go_at_call 65; refine (treeWant_no _).mono ?_; rintro e w' ⟨rfl, rfl⟩)
    exact ⟨rfl, rfl, rfl⟩

set_option maxHeartbeats 400000 in
theorem newList_yes (a : Option Addr) (n cap : Nat) (w : World) (h : n ≤ 20) : Calls Tryz.prog 100 #[.slice a n cap] w fun e w' => e = .returned (.slice a n cap) ∧ w' = w := by
  have d : decide ((n : Int) ≤ 20) = true := by simp; omega
  go_enter Tryz.func100, Tryz.ntmps100
  go_wp2_with (go_at_call 65; refine (treeWant_yes _).mono ?_; rintro e w' ⟨rfl, rfl⟩)
  go_ret
  exact ⟨rfl, rfl⟩

set_option maxHeartbeats 400000 in
theorem newList_no (a : Option Addr) (n cap : Nat) (w : World) (h : ¬ n ≤ 20) : Calls Tryz.prog 100 #[.slice a n cap] w fun e w' => e = fltE ∧ w' = w := by
  have d : decide ((n : Int) ≤ 20) = false := by simp; omega
  go_enter Tryz.func100, Tryz.ntmps100
  go_wp2_with (go_at_call 65; refine (treeWant_no _).mono ?_; rintro e w' ⟨rfl, rfl⟩)
  exact ⟨rfl, rfl, rfl⟩

set_option maxHeartbeats 400000 in
theorem newMaybe_yes (a : Option Addr) (n cap : Nat) (w : World) (h : n ≤ 1) : Calls Tryz.prog 103 #[.slice a n cap] w fun e w' => e = .returned (.slice a n cap) ∧ w' = w := by
  have d : decide ((n : Int) ≤ 1) = true := by simp; omega
  go_enter Tryz.func103, Tryz.ntmps103
  go_wp2_with (go_at_call 65; refine (treeWant_yes _).mono ?_; rintro e w' ⟨rfl, rfl⟩)
  go_ret
  exact ⟨rfl, rfl⟩

set_option maxHeartbeats 400000 in
theorem newMaybe_no (a : Option Addr) (n cap : Nat) (w : World) (h : ¬ n ≤ 1) : Calls Tryz.prog 103 #[.slice a n cap] w fun e w' => e = fltE ∧ w' = w := by
  have d : decide ((n : Int) ≤ 1) = false := by simp; omega
  go_enter Tryz.func103, Tryz.ntmps103
  go_wp2_with (go_at_call 65; refine (treeWant_no _).mono ?_; rintro e w' ⟨rfl, rfl⟩)
  exact ⟨rfl, rfl, rfl⟩

set_option maxHeartbeats 400000 in
theorem newText_any (s : ByteArray) (w : World) (hs : s.size ≤ 9223372036854775807) :
    Calls Tryz.prog 97 #[.string s] w fun e w' => (textOkB s = true ∧ e = .returned (.string s) ∨ textOkB s = false ∧ e = fltE) ∧ w' = w := by
  by_cases h60 : s.size ≤ 60
  · have d : decide ((s.size : Int) ≤ 60) = true := by simp; omega
    go_enter Tryz.func97, Tryz.ntmps97
    go_wp2_with (go_at_call 65; refine (treeWant_yes _).mono ?_; rintro e w' ⟨rfl, rfl⟩)
    go_loop [10] (fun i => ∃ k : Nat, k ≤ s.size ∧ i = .int .i64 k ∧ Hid (allTo textByte s k)) (fun i => s.size - (intOf i).toNat)
    case atStart => exact ⟨0, Nat.zero_le _, rfl, fun j hj => by omega⟩
    case round =>
      obtain ⟨k, hk, rfl, HA⟩ := hrel
      by_cases hlt : k < s.size
      · have hc : s[k].toNat < 32 ∨ 126 < s[k].toNat ∨ s[k].toNat = 34 ∨ (32 ≤ s[k].toNat ∧ s[k].toNat ≤ 126 ∧ s[k].toNat ≠ 34) := by omega
        rcases hc with hc | hc | hc | hc
        · have HN := hide (textOk_not hlt (textByte_no (Or.inl hc)))
          go_wp2_with (go_at_call 65; refine (treeWant_no _).mono ?_; rintro e w' ⟨rfl, rfl⟩)
          exact ⟨rfl, Or.inr ⟨unhide HN, rfl⟩, rfl⟩
        · have HN := hide (textOk_not hlt (textByte_no (Or.inr (Or.inl hc))))
          have d1 : decide ((32 : Int) ≤ s[k].toNat) = true := by simp; omega
          have d2 : decide ((s[k].toNat : Int) ≤ 126) = false := by simp; omega
          go_wp2_with (go_at_call 65; refine (treeWant_no _).mono ?_; rintro e w' ⟨rfl, rfl⟩)
          exact ⟨rfl, Or.inr ⟨unhide HN, rfl⟩, rfl⟩
        · have HN := hide (textOk_not hlt (textByte_no (Or.inr (Or.inr hc))))
          have d1 : decide ((32 : Int) ≤ s[k].toNat) = true := by simp; omega
          have d2 : decide ((s[k].toNat : Int) ≤ 126) = true := by simp; omega
          have d3 : ((s[k].toNat : Int) != 34) = false := by simp; omega
          clear hc
          go_wp2_with (go_at_call 65; refine (treeWant_no _).mono ?_; rintro e w' ⟨rfl, rfl⟩)
          exact ⟨rfl, Or.inr ⟨unhide HN, rfl⟩, rfl⟩
        · have HN := hide (allTo_succ HA.out hlt (textByte_yes hc))
          obtain ⟨hc1, hc2, hc3⟩ := hc
          have d1 : decide ((32 : Int) ≤ s[k].toNat) = true := by simp; omega
          have d2 : decide ((s[k].toNat : Int) ≤ 126) = true := by simp; omega
          have d3 : ((s[k].toNat : Int) != 34) = true := by simp; omega
          go_wp2_with (go_at_call 65; refine (treeWant_yes _).mono ?_; rintro e w' ⟨rfl, rfl⟩)
          go_round
          case rel => exact ⟨k + 1, by omega, by go_num, HN⟩
          case measure => simp [intOf]; omega
      · go_wp2_with fail
        go_ret
        obtain rfl : k = s.size := by omega
        exact ⟨Or.inl ⟨textOk_yes h60 HA.out, rfl⟩, rfl⟩
  · have HN : Hid (textOkB s = false) := by show _ = _; unfold textOkB; rw [decide_eq_false h60]; rfl
    have d : decide ((s.size : Int) ≤ 60) = false := by simp; omega
    go_enter Tryz.func97, Tryz.ntmps97
    go_wp2_with (go_at_call 65; refine (treeWant_no _).mono ?_; rintro e w' ⟨rfl, rfl⟩)
    exact ⟨rfl, Or.inr ⟨unhide HN, rfl⟩, rfl⟩

/-- What the bounds of a sorter or reader hold. -/
structure Bnd (w : World) (B : Nat) (p l : Int) : Prop where
  c0 : w.cell? ⟨B, 0, none⟩ = some (.int .i64 p)
  c1 : w.cell? ⟨B, 1, none⟩ = some (.int .i64 l)
  f0 : w.frozen? ⟨B, 0, none⟩ = false
  f1 : w.frozen? ⟨B, 1, none⟩ = false

theorem Bnd.lt {w : World} {B : Nat} {p l : Int} (h : Bnd w B p l) : B < w.heap.size := World.block_lt_of_cell? w _ h.c0
theorem Bnd.of_block {w w' : World} {B : Nat} {p l : Int} (h : Bnd w B p l) (e : w'.heap[B]? = w.heap[B]?) : Bnd w' B p l :=
  ⟨by rw [World.cell?_of_block (w := w) e]; exact h.c0, by rw [World.cell?_of_block (w := w) e]; exact h.c1, by rw [World.frozen?_of_block (w := w) e]; exact h.f0, by rw [World.frozen?_of_block (w := w) e]; exact h.f1⟩

set_option maxHeartbeats 400000 in
theorem enter_yes (B : Nat) (p l : Int) (w : World) (hB : Bnd w B p l) (hp : 0 ≤ p) (hl : 0 ≤ l) (h1 : p + 1 ≤ 120) (h2 : l + 1 ≤ 6) :
    Calls Tryz.prog 89 #[.pointer (some ⟨B, 0, none⟩)] w fun e w' => e = .returned (.tuple #[]) ∧ w' = (w.setCell ⟨B, 0, none⟩ (.int .i64 (p + 1))).setCell ⟨B, 1, none⟩ (.int .i64 (l + 1)) := by
  obtain ⟨c0, c1, f0, f1⟩ := hB
  have d1 : decide (p + 1 ≤ 120) = true := by simp; omega
  have d2 : decide (l + 1 ≤ 6) = true := by simp; omega
  go_enter Tryz.func89, Tryz.ntmps89
  go_wp2_with (go_at_call 65; refine (treeWant_yes _).mono ?_; rintro e w' ⟨rfl, rfl⟩)
  go_end0
  exact ⟨rfl, rfl⟩

set_option maxHeartbeats 400000 in
theorem enter_no (B : Nat) (p l : Int) (w : World) (hB : Bnd w B p l) (hp : 0 ≤ p) (hl : 0 ≤ l) (hp1 : p ≤ 120) (hl1 : l ≤ 6) (h : ¬ (p + 1 ≤ 120 ∧ l + 1 ≤ 6)) :
    Calls Tryz.prog 89 #[.pointer (some ⟨B, 0, none⟩)] w fun e w' => e = fltE ∧ w' = (w.setCell ⟨B, 0, none⟩ (.int .i64 (p + 1))).setCell ⟨B, 1, none⟩ (.int .i64 (l + 1)) := by
  obtain ⟨c0, c1, f0, f1⟩ := hB
  by_cases h1 : p + 1 ≤ 120
  · have d1 : decide (p + 1 ≤ 120) = true := by simp; omega
    have d2 : decide (l + 1 ≤ 6) = false := by simp; omega
    clear h
    go_enter Tryz.func89, Tryz.ntmps89
    go_wp2_with (go_at_call 65; refine (treeWant_no _).mono ?_; rintro e w' ⟨rfl, rfl⟩)
    exact ⟨rfl, rfl, rfl⟩
  · have d1 : decide (p + 1 ≤ 120) = false := by simp; omega
    clear h
    go_enter Tryz.func89, Tryz.ntmps89
    go_wp2_with (go_at_call 65; refine (treeWant_no _).mono ?_; rintro e w' ⟨rfl, rfl⟩)
    exact ⟨rfl, rfl, rfl⟩

set_option maxHeartbeats 400000 in
theorem leave_any (B : Nat) (p l : Int) (w : World) (hB : Bnd w B p l) (hl : 0 ≤ l) (hl1 : l ≤ 10) :
    Calls Tryz.prog 92 #[.pointer (some ⟨B, 0, none⟩)] w fun e w' => e = .returned (.tuple #[]) ∧ w' = w.setCell ⟨B, 1, none⟩ (.int .i64 (l - 1)) := by
  obtain ⟨c0, c1, f0, f1⟩ := hB
  go_enter Tryz.func92, Tryz.ntmps92
  go_wp2_with fail
  go_end0
  exact ⟨rfl, rfl⟩

set_option maxHeartbeats 400000 in
theorem newForm_any (v : Value) (ss : List ByteArray) (a : Option Addr) (n cap : Nat) (w : World) {P : Nat → Prop} (hP : ∀ b, P b → b < w.heap.size) (hv : StrsAt P w v ss) :
    Calls Tryz.prog 102 #[v, .slice a n cap] w fun e w' => ((ss.length = n ∧ riseB ss = true) ∧ e = .returned (.agg #[v, .slice a n cap]) ∨ ¬ (ss.length = n ∧ riseB ss = true) ∧ e = fltE) ∧ Below w.heap.size w w' := by
  have hbx : ∀ o, Below w.heap.size w (w.alloc o) := fun o => (Below.refl _ _).alloc (Nat.le_refl _) o
  have hasc : ∀ o, Calls Tryz.prog 117 #[v] (w.alloc o) fun e w' => e = .returned (.bool (riseB ss)) ∧ w' = w.alloc o := fun o =>
    namesAscend_any v ss (w.alloc o) (P := P) (fun b hb => Nat.lt_of_lt_of_le (hP b hb) (hbx o).size) (hv.carry (fun b hb => (hbx o).block b (hP b hb)) (fun _ h => h))
  have HA := hide hasc; have HBX := hide hbx
  obtain ⟨a3, cap3, rfl, hlen, -⟩ := hv
  clear hasc hbx hP
  by_cases hnl : ss.length = n
  · have d : ((ss.length : Int) == (n : Int)) = true := by simp; omega
    have HNL := hide hnl; clear hnl
    cases hr : riseB ss
    · rw [hr] at HA
      go_enter Tryz.func102, Tryz.ntmps102
      go_wp2_with (first | (go_at_call 117; refine (unhide HA _).mono ?_; rintro e w' ⟨rfl, rfl⟩) | (go_at_call 65; refine (treeWant_no _).mono ?_; rintro e w' ⟨rfl, rfl⟩))
      exact ⟨rfl, Or.inr ⟨fun h => Bool.false_ne_true h.2, rfl⟩, unhide HBX _⟩
    · rw [hr] at HA
      go_enter Tryz.func102, Tryz.ntmps102
      go_wp2_with (first | (go_at_call 117; refine (unhide HA _).mono ?_; rintro e w' ⟨rfl, rfl⟩) | (go_at_call 65; refine (treeWant_yes _).mono ?_; rintro e w' ⟨rfl, rfl⟩))
      refine bodyPost_ret (v := .agg #[.slice a3 ss.length cap3, .slice a n cap]) (by simp [results, Tryz.results102, go_sem]) rfl ⟨Or.inl ⟨⟨unhide HNL, by simp⟩, rfl⟩, unhide HBX _⟩
  · have d : ((ss.length : Int) == (n : Int)) = false := by simp; omega
    have HNL := hide hnl; clear hnl
    go_enter Tryz.func102, Tryz.ntmps102
    go_wp2_with (go_at_call 65; refine (treeWant_no _).mono ?_; rintro e w' ⟨rfl, rfl⟩)
    exact ⟨rfl, Or.inr ⟨fun h => unhide HNL h.1, rfl⟩, unhide HBX _⟩
end Go.Proofs.YtgamonfmgngilaaGreatDoor
