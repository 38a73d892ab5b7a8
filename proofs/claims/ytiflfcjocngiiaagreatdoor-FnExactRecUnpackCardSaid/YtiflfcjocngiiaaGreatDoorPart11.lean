/- The walks of the program's treeTry and its deferred function: whatever work it is handed, it answers whether that came to its end. No conditions. -/
import Derived.Test.YtiflfcjocngiiaaGreatDoorPart03
import Derived.Test.YtiflfcjocngiiaaGreatDoorPart01
import Derived.WideLaws
import Derived.Test.YtiflfcjocngiiaaGreatDoorRows
import Derived.Test.YtiflfcjocngiiaaGreatDoorPart00
import Derived.Deep.RegionWith
import Derived.Deep.QuietTactic
import Derived.BigQuiet
import Derived.WalkSmall
namespace Go.Proofs.YtiflfcjocngiiaaGreatDoor
open Go Go.RowKit

set_option maxHeartbeats 400000 in
theorem try_panicking (p : Addr) (x : Bool) (u : TypeId) (pv : Value) (older : List PanicEntry) (w : World) (hc : w.cell? p = some (.bool x)) (hz : w.frozen? p = false) :
    CallsD Tryz.prog 27 #[.pointer (some p)] (.panicking ({ v := .iface u pv, recovered := false } :: older)) w fun e u' w' =>
      e = .returned (.tuple #[]) ∧ u' = .panicking ({ v := .iface u pv, recovered := true } :: older) ∧ w' = w.setCell p (.bool false) := by
  refine callsD_of_wpS Tryz.func27 rfl fun c₀ cs hu => ?_
  apply wpS_region
  simp [wpOpsS, go_sem, recoverD, hu, Tryz.ntmps27, hc, hz, bodyPostS, results, Tryz.results27]

set_option maxHeartbeats 400000 in
theorem try_returning (p : Addr) (x : Bool) (w : World) (hc : w.cell? p = some (.bool x)) (hz : w.frozen? p = false) :
    CallsD Tryz.prog 27 #[.pointer (some p)] .returning w fun e u' w' => e = .returned (.tuple #[]) ∧ u' = .returning ∧ w' = w.setCell p (.bool true) := by
  refine callsD_of_wpS Tryz.func27 rfl fun c₀ cs hu => ?_
  apply wpS_region
  simp [wpOpsS, go_sem, recoverD, hu, Tryz.ntmps27, hc, hz, bodyPostS, results, Tryz.results27]
  cases c₀
  simp_all

theorem cell_new1 {w w' : World} {x : Value} {t : TypeId} (h : w'.heap[w.heap.size]? = (w.alloc (.cells #[x] t)).heap[w.heap.size]?) : w'.cell? ⟨w.heap.size, 0, none⟩ = some x ∧ w'.frozen? ⟨w.heap.size, 0, none⟩ = false := by
  rw [World.cell?_of_block (a := ⟨w.heap.size, 0, none⟩) h, World.frozen?_of_block (a := ⟨w.heap.size, 0, none⟩) h]
  exact ⟨by simp [go_sem], by simp [go_sem]⟩

set_option maxRecDepth 100000 in
set_option maxHeartbeats 400000 in
/-- Work that comes to its end. -/
theorem treeTry_yes (f : FuncId) (caps : Array Value) (w : World) (R : World → Prop) (hent : ∀ W, Sem.run Tryz.prog (callFunc f caps) W = .ok (.enter f caps) W)
    (hwork : ∀ o, Calls Tryz.prog f caps (w.alloc o) fun e w' => e = .returned (.tuple #[]) ∧ R w' ∧ w'.heap[w.heap.size]? = (w.alloc o).heap[w.heap.size]?) :
    Calls Tryz.prog 13 #[.func (.func f) #[] caps] w fun e w' => e = .returned (.bool true) ∧ ∃ w1, R w1 ∧ But w.heap.size w1 w' := by
  have hmf : ∀ (fn : Fn) (first cap : Array Value) (w : World), (Instr.makeFunc fn first cap).run Tryz.prog w = .ok (.func fn first cap) w := fun _ _ _ _ => rfl
  have HW := hide hwork; clear hwork
  go_enter_defers Tryz.func13, Tryz.ntmps13
  go_wp2_with fail
  refine (unhide HW _).mono ?_
  rintro e w1 ⟨rfl, hr, hbk⟩
  obtain ⟨hc, hz⟩ := cell_new1 hbk
  have HR := hide hr
  clear hr hbk
  go_wp2_with fail
  refine leaves_cons (f := 27) (args := #[.pointer (some ⟨w.heap.size, 0, none⟩)]) (by simp) (by simp [go_sem]) ?_
  refine (try_returning ⟨w.heap.size, 0, none⟩ true _ ?_ ?_).mono ?_
  · simp [go_sem, hc]
  · simp [go_sem, hz]
  rintro e u' w'' ⟨rfl, rfl, rfl⟩
  simp [Leaves, settle, results, Tryz.results13, go_sem, hc]
  exact ⟨w1, unhide HR, (But.set w1 0 _).trans (But.set _ 0 _)⟩

set_option maxRecDepth 100000 in
set_option maxHeartbeats 400000 in
/-- Work that raises a fault. -/
theorem treeTry_no (f : FuncId) (caps : Array Value) (w : World) (R : World → Prop) (hent : ∀ W, Sem.run Tryz.prog (callFunc f caps) W = .ok (.enter f caps) W)
    (hwork : ∀ o, Calls Tryz.prog f caps (w.alloc o) fun e w' => e = fltE ∧ R w' ∧ w'.heap[w.heap.size]? = (w.alloc o).heap[w.heap.size]?) :
    Calls Tryz.prog 13 #[.func (.func f) #[] caps] w fun e w' => e = .returned (.bool false) ∧ ∃ w1, R w1 ∧ But w.heap.size w1 w' := by
  have hmf : ∀ (fn : Fn) (first cap : Array Value) (w : World), (Instr.makeFunc fn first cap).run Tryz.prog w = .ok (.func fn first cap) w := fun _ _ _ _ => rfl
  have HW := hide hwork; clear hwork
  go_enter_defers Tryz.func13, Tryz.ntmps13
  go_wp2_with fail
  refine (unhide HW _).mono ?_
  rintro e w1 ⟨rfl, hr, hbk⟩
  obtain ⟨hc, hz⟩ := cell_new1 hbk
  have HR := hide hr
  clear hr hbk
  go_wp2_with fail
  refine leaves_cons (f := 27) (args := #[.pointer (some ⟨w.heap.size, 0, none⟩)]) (by simp) (by simp [go_sem]) ?_
  refine (try_panicking ⟨w.heap.size, 0, none⟩ false 77 _ [] _ hc hz).mono ?_
  rintro e u' w'' ⟨rfl, rfl, rfl⟩
  simp [Leaves, settle, results, Tryz.results13, go_sem, hc]
  exact ⟨w1, unhide HR, But.set w1 0 _⟩
end Go.Proofs.YtiflfcjocngiiaaGreatDoor

/- The walks of the specification's l6In, l6NameOk, l1Rise: what they answer. No conditions. -/

namespace Go.Proofs.YtiflfcjocngiiaaGreatDoor
open Go Go.RowKit

set_option maxHeartbeats 400000 in
theorem l6In_any (n lo hi : Int) (w : World) :
    Calls Tryz.prog 42 #[.int .i64 n, .int .i64 lo, .int .i64 hi] w fun e w' => e = .returned (.bool (decide (lo ≤ n ∧ n ≤ hi))) ∧ w' = w := by
  by_cases h1 : lo ≤ n
  · by_cases h2 : n ≤ hi
    · go_enter Tryz.func42, Tryz.ntmps42
      go_wp2_with fail
      go_ret
      exact ⟨by simp [h1, h2], rfl⟩
    · go_enter Tryz.func42, Tryz.ntmps42
      go_wp2_with fail
      go_ret
      exact ⟨ret_bool (by symm; simp; omega), rfl⟩
  · go_enter Tryz.func42, Tryz.ntmps42
    go_wp2_with fail
    go_ret
    exact ⟨ret_bool (by symm; simp; omega), rfl⟩

set_option maxHeartbeats 400000 in
theorem l6NameOk_any (s : ByteArray) (w : World) (hs : s.size ≤ 9223372036854775807) :
    Calls Tryz.prog 41 #[.string s] w fun e w' => e = .returned (.bool (nameOkB s)) ∧ w' = w := by
  by_cases h1 : 1 ≤ s.size ∧ s.size ≤ 8
  · obtain ⟨h1, h8⟩ := h1
    have hd : decide ((1 : Int) ≤ s.size ∧ (s.size : Int) ≤ 8) = true := by simp; omega
    have hc0 : s[0].toNat < 97 ∨ 122 < s[0].toNat ∨ (97 ≤ s[0].toNat ∧ s[0].toNat ≤ 122) := by omega
    rcases hc0 with hc | hc | hc
    · go_enter Tryz.func41, Tryz.ntmps41
      go_wp2_with (go_at_call 42; refine (l6In_any _ _ _ _).mono ?_; rintro e w' ⟨rfl, rfl⟩)
      go_ret
      exact ⟨ret_bool (nameOk_first (by omega) (Or.inl hc)).symm, rfl⟩
    · go_enter Tryz.func41, Tryz.ntmps41
      go_wp2_with (go_at_call 42; refine (l6In_any _ _ _ _).mono ?_; rintro e w' ⟨rfl, rfl⟩)
      go_ret
      exact ⟨ret_bool (nameOk_first (by omega) (Or.inr hc)).symm, rfl⟩
    · have HF := hide hc
      obtain ⟨hca, hcb⟩ := hc
      go_enter Tryz.func41, Tryz.ntmps41
      go_wp2_with (go_at_call 42; refine (l6In_any _ _ _ _).mono ?_; rintro e w' ⟨rfl, rfl⟩)
      go_loop [3] (fun i => ∃ k : Nat, k ≤ s.size ∧ i = .int .i64 k ∧ Hid (allTo nameByte s k)) (fun i => s.size - (intOf i).toNat)
      case atStart => exact ⟨0, Nat.zero_le _, rfl, fun j hj => by omega⟩
      case round =>
        obtain ⟨k, hk, rfl, HA⟩ := hrel
        by_cases hlt : k < s.size
        · have hc : s[k].toNat < 48 ∨ (57 < s[k].toNat ∧ s[k].toNat < 97) ∨ 122 < s[k].toNat ∨ (97 ≤ s[k].toNat ∧ s[k].toNat ≤ 122) ∨ (48 ≤ s[k].toNat ∧ s[k].toNat ≤ 57) := by omega
          rcases hc with hc | hc | hc | hc | hc
          · have HC := hide (nameOk_not hlt (nameByte_no (Or.inl hc)))
            have d1 : decide ((97 : Int) ≤ s[k].toNat) = false := by simp; omega
            have d2 : decide ((s[k].toNat : Int) ≤ 122) = true := by simp; omega
            have d3 : decide ((48 : Int) ≤ s[k].toNat) = false := by simp; omega
            have d4 : decide ((s[k].toNat : Int) ≤ 57) = true := by simp; omega
            go_wp2_with fail
            go_ret
            exact ⟨ret_bool (unhide HC).symm, rfl⟩
          · have HC := hide (nameOk_not hlt (nameByte_no (Or.inr (Or.inl hc))))
            obtain ⟨hc1, hc2⟩ := hc
            have d1 : decide ((97 : Int) ≤ s[k].toNat) = false := by simp; omega
            have d2 : decide ((s[k].toNat : Int) ≤ 122) = true := by simp; omega
            have d3 : decide ((48 : Int) ≤ s[k].toNat) = true := by simp; omega
            have d4 : decide ((s[k].toNat : Int) ≤ 57) = false := by simp; omega
            go_wp2_with fail
            go_ret
            exact ⟨ret_bool (unhide HC).symm, rfl⟩
          · have HC := hide (nameOk_not hlt (nameByte_no (Or.inr (Or.inr hc))))
            have d1 : decide ((97 : Int) ≤ s[k].toNat) = true := by simp; omega
            have d2 : decide ((s[k].toNat : Int) ≤ 122) = false := by simp; omega
            have d3 : decide ((48 : Int) ≤ s[k].toNat) = true := by simp; omega
            have d4 : decide ((s[k].toNat : Int) ≤ 57) = false := by simp; omega
            go_wp2_with fail
            go_ret
            exact ⟨ret_bool (unhide HC).symm, rfl⟩
          · have HN := hide (allTo_succ HA.out hlt (nameByte_yes (Or.inl hc)))
            obtain ⟨hc1, hc2⟩ := hc
            have d1 : decide ((97 : Int) ≤ s[k].toNat) = true := by simp; omega
            have d2 : decide ((s[k].toNat : Int) ≤ 122) = true := by simp; omega
            have d3 : decide ((48 : Int) ≤ s[k].toNat) = true := by simp; omega
            have d4 : decide ((s[k].toNat : Int) ≤ 57) = false := by simp; omega
            go_wp2_with fail
            go_round
            case rel => exact ⟨k + 1, by omega, by go_num, HN⟩
            case measure => simp [intOf]; omega
          · have HN := hide (allTo_succ HA.out hlt (nameByte_yes (Or.inr hc)))
            obtain ⟨hc1, hc2⟩ := hc
            have d1 : decide ((97 : Int) ≤ s[k].toNat) = false := by simp; omega
            have d2 : decide ((s[k].toNat : Int) ≤ 122) = true := by simp; omega
            have d3 : decide ((48 : Int) ≤ s[k].toNat) = true := by simp; omega
            have d4 : decide ((s[k].toNat : Int) ≤ 57) = true := by simp; omega
            go_wp2_with fail
            go_round
            case rel => exact ⟨k + 1, by omega, by go_num, HN⟩
            case measure => simp [intOf]; omega
        · go_wp2_with fail
          go_ret
          obtain rfl : k = s.size := by omega
          exact ⟨ret_bool (nameOk_yes (by omega) (by omega) (unhide HF) HA.out).symm, rfl⟩
  · have hd : decide ((1 : Int) ≤ s.size ∧ (s.size : Int) ≤ 8) = false := by simp; omega
    go_enter Tryz.func41, Tryz.ntmps41
    go_wp2_with (go_at_call 42; refine (l6In_any _ _ _ _).mono ?_; rintro e w' ⟨rfl, rfl⟩)
    go_ret
    exact ⟨ret_bool (nameOk_len (by omega)).symm, rfl⟩

theorem geqS (t : TypeId) (a b : ByteArray) : binOp .geq t (.string a) (.string b) = pure (.bool !(Op.bytesLess a.toList b.toList)) := by simp [binOp, Op.stringOp]

set_option maxHeartbeats 400000 in
theorem l1Rise_any (v : Value) (ss : List ByteArray) (w : World) {P : Nat → Prop} (hP : ∀ b, P b → b < w.heap.size) (hv : StrsAt P w v ss) :
    Calls Tryz.prog 73 #[v] w fun e w' => e = .returned (.bool (riseB ss)) ∧ Below w.heap.size w w' := by
  obtain ⟨a, cap, rfl, hlen, hc⟩ := hv
  have HC := hide hc; have HP := hide hP
  clear hc hP
  go_enter Tryz.func73, Tryz.ntmps73
  go_wp2_with fail
  go_loopw [3] (fun i wr => ∃ (k : Nat), k ≤ ss.length ∧ i = .int .i64 k ∧ Hid (∀ j, j < k → good ss j = true) ∧ Below w.heap.size w wr) (fun i _ => ss.length - (intOf i).toNat)
  case atStart => exact ⟨0, Nat.zero_le _, rfl, hide (fun j hj => by omega), Below.refl _ _⟩
  case round =>
    obtain ⟨k, hk, rfl, HG, hb⟩ := hrel
    by_cases hlt : k < ss.length
    · obtain ⟨b, o, rfl, hpb, hcell, hsz⟩ := unhide HC k hlt
      have e1 : wr.cell? ⟨b, o + k, none⟩ = some (.string ss[k]) := by rw [hb.cell (unhide HP b hpb)]; exact hcell
      clear hcell hpb
      have hname := fun w => l6NameOk_any ss[k] w hsz
      have HN := hide hname; clear hname
      by_cases hn : nameOkB ss[k] = true
      · by_cases h0 : 0 < k
        · obtain ⟨b', o', he, hpb, hcell, -⟩ := unhide HC (k - 1) (by omega)
          simp only [Option.some.injEq, Addr.mk.injEq, and_true] at he
          obtain ⟨rfl, rfl⟩ := he
          have e0 : wr.cell? ⟨b, o + (k - 1), none⟩ = some (.string (ss[k - 1]'(by omega))) := by rw [hb.cell (unhide HP b hpb)]; exact hcell
          have hd0 : decide ((0 : Int) < k) = true := by simp; omega
          have hgd := good_pos hlt h0 hn
          generalize hlb : Op.bytesLess (ss[k - 1]'(by omega)).toList ss[k].toList = lb at hgd
          have hi1 : ((k : Int) - 1).toNat = k - 1 := by omega
          have HGD := hide hgd
          clear hcell hpb hgd
          have hge := geqS
          cases lb
          · have HR := hide (rise_no hlt (unhide HGD))
            go_wp2_with fail
            go_quiet ((go_at_call 41; exact Calls.quiet_of_same (unhide HN _)))
            go_wp2_with fail
            go_ret
            exact ⟨ret_bool (unhide HR).symm, below_drewN hb _⟩
          · go_wp2_with fail
            go_quiet ((go_at_call 41; exact Calls.quiet_of_same (unhide HN _)))
            go_wp2_with fail
            go_roundw
            case rel => exact ⟨k + 1, by omega, by go_num, hide (fun j hj => by
              by_cases e : j = k
              · subst e; exact unhide HGD
              · exact HG.out j (by omega)), below_drewN hb _⟩
            case measure => simp [intOf]; omega
        · have hd0 : decide (0 < k) = false := by simp; omega
          have HK0 : Hid (k = 0) := by show k = 0; omega
          clear h0
          go_wp2_with fail
          go_quiet ((go_at_call 41; exact Calls.quiet_of_same (unhide HN _)))
          go_wp2_with fail
          go_roundw
          case rel => exact ⟨k + 1, by omega, by go_num, hide (fun j hj => by have := HK0.out; subst this; obtain rfl : j = 0 := by omega
                                                                              exact good_zero hlt hn), below_drewN hb _⟩
          case measure => simp [intOf]; omega
      · have hn' : nameOkB ss[k] = false := by simpa using hn
        have HR := hide (rise_no hlt (good_name hlt hn'))
        clear hn
        go_wp2_with fail
        go_quiet ((go_at_call 41; exact Calls.quiet_of_same (unhide HN _)))
        go_wp2_with fail
        go_ret
        exact ⟨ret_bool (unhide HR).symm, below_drewN hb _⟩
    · go_wp2_with fail
      go_ret
      exact ⟨ret_bool (rise_yes (fun i hi => HG.out i (by omega))).symm, hb⟩
end Go.Proofs.YtiflfcjocngiiaaGreatDoor

/- The walk of the program's namesAscend: what it answers. No conditions. -/

namespace Go.Proofs.YtiflfcjocngiiaaGreatDoor
open Go Go.RowKit

set_option maxHeartbeats 400000 in
theorem namesAscend_any (v : Value) (ss : List ByteArray) (w : World) {P : Nat → Prop} (hP : ∀ b, P b → b < w.heap.size) (hv : StrsAt P w v ss) :
    Calls Tryz.prog 100 #[v] w fun e w' => e = .returned (.bool (riseB ss)) ∧ w' = w := by
  obtain ⟨a, cap, rfl, hlen, hc⟩ := hv
  have HC := hide hc; have HP := hide hP
  clear hc hP
  go_enter Tryz.func100, Tryz.ntmps100
  go_wp2_with fail
  go_loop [7] (fun i => ∃ (k : Nat), k ≤ ss.length ∧ i = .int .i64 k ∧ Hid (∀ j, j < k → good ss j = true)) (fun i => ss.length - (intOf i).toNat)
  case atStart => exact ⟨0, Nat.zero_le _, rfl, hide (fun j hj => by omega)⟩
  case round =>
    obtain ⟨k, hk, rfl, HG⟩ := hrel
    by_cases hlt : k < ss.length
    · obtain ⟨b, o, rfl, hpb, hcell, hsz⟩ := unhide HC k hlt
      have hname := fun w => nameOk_any ss[k] w hsz
      have HN := hide hname; clear hname hpb
      by_cases hn : nameOkB ss[k] = true
      · by_cases h0 : 0 < k
        · obtain ⟨b', o', he, -, e0, -⟩ := unhide HC (k - 1) (by omega)
          simp only [Option.some.injEq, Addr.mk.injEq, and_true] at he
          obtain ⟨rfl, rfl⟩ := he
          have hd0 : decide ((0 : Int) < k) = true := by simp; omega
          have hgd := good_pos hlt h0 hn
          generalize hlb : Op.bytesLess (ss[k - 1]'(by omega)).toList ss[k].toList = lb at hgd
          have hi1 : ((k : Int) - 1).toNat = k - 1 := by omega
          have HGD := hide hgd
          clear hgd
          have hge := geqS
          cases lb
          · have HR := hide (rise_no hlt (unhide HGD))
            go_wp2_with (go_at_call 58; refine (unhide HN _).mono ?_; rintro e w' ⟨rfl, rfl⟩)
            go_ret
            exact ⟨ret_bool (unhide HR).symm, rfl⟩
          · go_wp2_with (go_at_call 58; refine (unhide HN _).mono ?_; rintro e w' ⟨rfl, rfl⟩)
            go_round
            case rel => exact ⟨k + 1, by omega, by go_num, hide (fun j hj => by
              by_cases e : j = k
              · subst e; exact unhide HGD
              · exact HG.out j (by omega))⟩
            case measure => simp [intOf]; omega
        · have hd0 : decide (0 < k) = false := by simp; omega
          have HK0 : Hid (k = 0) := by show k = 0; omega
          clear h0
          go_wp2_with (go_at_call 58; refine (unhide HN _).mono ?_; rintro e w' ⟨rfl, rfl⟩)
          go_round
          case rel => exact ⟨k + 1, by omega, by go_num, hide (fun j hj => by have := HK0.out; subst this; obtain rfl : j = 0 := by omega
                                                                              exact good_zero hlt hn)⟩
          case measure => simp [intOf]; omega
      · have hn' : nameOkB ss[k] = false := by simpa using hn
        have HR := hide (rise_no hlt (good_name hlt hn'))
        clear hn
        go_wp2_with (go_at_call 58; refine (unhide HN _).mono ?_; rintro e w' ⟨rfl, rfl⟩)
        go_ret
        exact ⟨ret_bool (unhide HR).symm, rfl⟩
    · go_wp2_with fail
      go_ret
      exact ⟨ret_bool (rise_yes (fun i hi => HG.out i (by omega))).symm, rfl⟩
end Go.Proofs.YtiflfcjocngiiaaGreatDoor

/- The walks of the program's newNumTree, newTextTree, newListTree, newMaybeTree, newFormTree, enter and leave: what they answer, or that they raise a fault. No conditions. -/

namespace Go.Proofs.YtiflfcjocngiiaaGreatDoor
open Go Go.RowKit

set_option maxHeartbeats 400000 in
theorem newNum_yes (n : Int) (w : World) (h : -999999999 ≤ n ∧ n ≤ 999999999) : Calls Tryz.prog 92 #[.int .i64 n] w fun e w' => e = .returned (.int .i64 n) ∧ w' = w := by
  obtain ⟨h1, h2⟩ := h
  have d2 : decide (n ≤ 999999999) = true := by simp; omega
  go_enter Tryz.func92, Tryz.ntmps92
  go_wp2_with (go_at_call 32; refine (treeWant_yes _).mono ?_; rintro e w' ⟨rfl, rfl⟩)
  go_ret
  exact ⟨rfl, rfl⟩

set_option maxHeartbeats 400000 in
theorem newNum_no (n : Int) (w : World) (h : ¬ (-999999999 ≤ n ∧ n ≤ 999999999)) : Calls Tryz.prog 92 #[.int .i64 n] w fun e w' => e = fltE ∧ w' = w := by
  have h' : n < -999999999 ∨ 999999999 < n := by omega
  clear h
  rcases h' with h | h
  · go_enter Tryz.func92, Tryz.ntmps92
    go_wp2_with (go_at_call 32; refine (treeWant_no _).mono ?_; rintro e w' ⟨rfl, rfl⟩)
    exact ⟨rfl, rfl, rfl⟩
  · have d2 : decide (n ≤ 999999999) = false := by simp; omega
    go_enter Tryz.func92, Tryz.ntmps92
    go_wp2_with (go_at_call 32; refine (treeWant_no _).mono ?_; rintro e w' ⟨rfl, rfl⟩)
    exact ⟨rfl, rfl, rfl⟩

set_option maxHeartbeats 400000 in
theorem newList_yes (a : Option Addr) (n cap : Nat) (w : World) (h : n ≤ 20) : Calls Tryz.prog 95 #[.slice a n cap] w fun e w' => e = .returned (.slice a n cap) ∧ w' = w := by
  have d : decide ((n : Int) ≤ 20) = true := by simp; omega
  go_enter Tryz.func95, Tryz.ntmps95
  go_wp2_with (go_at_call 32; refine (treeWant_yes _).mono ?_; rintro e w' ⟨rfl, rfl⟩)
  go_ret
  exact ⟨rfl, rfl⟩

set_option maxHeartbeats 400000 in
theorem newList_no (a : Option Addr) (n cap : Nat) (w : World) (h : ¬ n ≤ 20) : Calls Tryz.prog 95 #[.slice a n cap] w fun e w' => e = fltE ∧ w' = w := by
  have d : decide ((n : Int) ≤ 20) = false := by simp; omega
  go_enter Tryz.func95, Tryz.ntmps95
  go_wp2_with (go_at_call 32; refine (treeWant_no _).mono ?_; rintro e w' ⟨rfl, rfl⟩)
  exact ⟨rfl, rfl, rfl⟩

set_option maxHeartbeats 400000 in
theorem newMaybe_yes (a : Option Addr) (n cap : Nat) (w : World) (h : n ≤ 1) : Calls Tryz.prog 98 #[.slice a n cap] w fun e w' => e = .returned (.slice a n cap) ∧ w' = w := by
  have d : decide ((n : Int) ≤ 1) = true := by simp; omega
  go_enter Tryz.func98, Tryz.ntmps98
  go_wp2_with (go_at_call 32; refine (treeWant_yes _).mono ?_; rintro e w' ⟨rfl, rfl⟩)
  go_ret
  exact ⟨rfl, rfl⟩

set_option maxHeartbeats 400000 in
theorem newMaybe_no (a : Option Addr) (n cap : Nat) (w : World) (h : ¬ n ≤ 1) : Calls Tryz.prog 98 #[.slice a n cap] w fun e w' => e = fltE ∧ w' = w := by
  have d : decide ((n : Int) ≤ 1) = false := by simp; omega
  go_enter Tryz.func98, Tryz.ntmps98
  go_wp2_with (go_at_call 32; refine (treeWant_no _).mono ?_; rintro e w' ⟨rfl, rfl⟩)
  exact ⟨rfl, rfl, rfl⟩

set_option maxHeartbeats 400000 in
theorem newText_any (s : ByteArray) (w : World) (hs : s.size ≤ 9223372036854775807) :
    Calls Tryz.prog 93 #[.string s] w fun e w' => (textOkB s = true ∧ e = .returned (.string s) ∨ textOkB s = false ∧ e = fltE) ∧ w' = w := by
  by_cases h60 : s.size ≤ 60
  · have d : decide ((s.size : Int) ≤ 60) = true := by simp; omega
    go_enter Tryz.func93, Tryz.ntmps93
    go_wp2_with (go_at_call 32; refine (treeWant_yes _).mono ?_; rintro e w' ⟨rfl, rfl⟩)
    go_loop [10] (fun i => ∃ k : Nat, k ≤ s.size ∧ i = .int .i64 k ∧ Hid (allTo textByte s k)) (fun i => s.size - (intOf i).toNat)
    case atStart => exact ⟨0, Nat.zero_le _, rfl, fun j hj => by omega⟩
    case round =>
      obtain ⟨k, hk, rfl, HA⟩ := hrel
      by_cases hlt : k < s.size
      · have hc : s[k].toNat < 32 ∨ 126 < s[k].toNat ∨ s[k].toNat = 34 ∨ (32 ≤ s[k].toNat ∧ s[k].toNat ≤ 126 ∧ s[k].toNat ≠ 34) := by omega
        rcases hc with hc | hc | hc | hc
        · have HN := hide (textOk_not hlt (textByte_no (Or.inl hc)))
          go_wp2_with (go_at_call 32; refine (treeWant_no _).mono ?_; rintro e w' ⟨rfl, rfl⟩)
          exact ⟨rfl, Or.inr ⟨unhide HN, rfl⟩, rfl⟩
        · have HN := hide (textOk_not hlt (textByte_no (Or.inr (Or.inl hc))))
          have d1 : decide ((32 : Int) ≤ s[k].toNat) = true := by simp; omega
          have d2 : decide ((s[k].toNat : Int) ≤ 126) = false := by simp; omega
          go_wp2_with (go_at_call 32; refine (treeWant_no _).mono ?_; rintro e w' ⟨rfl, rfl⟩)
          exact ⟨rfl, Or.inr ⟨unhide HN, rfl⟩, rfl⟩
        · have HN := hide (textOk_not hlt (textByte_no (Or.inr (Or.inr hc))))
          have d1 : decide ((32 : Int) ≤ s[k].toNat) = true := by simp; omega
          have d2 : decide ((s[k].toNat : Int) ≤ 126) = true := by simp; omega
          have d3 : ((s[k].toNat : Int) != 34) = false := by simp; omega
          clear hc
          go_wp2_with (go_at_call 32; refine (treeWant_no _).mono ?_; rintro e w' ⟨rfl, rfl⟩)
          exact ⟨rfl, Or.inr ⟨unhide HN, rfl⟩, rfl⟩
        · have HN := hide (allTo_succ HA.out hlt (textByte_yes hc))
          obtain ⟨hc1, hc2, hc3⟩ := hc
          have d1 : decide ((32 : Int) ≤ s[k].toNat) = true := by simp; omega
          have d2 : decide ((s[k].toNat : Int) ≤ 126) = true := by simp; omega
          have d3 : ((s[k].toNat : Int) != 34) = true := by simp; omega
          go_wp2_with (go_at_call 32; refine (treeWant_yes _).mono ?_; rintro e w' ⟨rfl, rfl⟩)
          go_round
          case rel => exact ⟨k + 1, by omega, by go_num, HN⟩
          case measure => simp [intOf]; omega
      · go_wp2_with fail
        go_ret
        obtain rfl : k = s.size := by omega
        exact ⟨Or.inl ⟨textOk_yes h60 HA.out, rfl⟩, rfl⟩
  · have HN : Hid (textOkB s = false) := by show _ = _; unfold textOkB; rw [decide_eq_false h60]; rfl
    have d : decide ((s.size : Int) ≤ 60) = false := by simp; omega
    go_enter Tryz.func93, Tryz.ntmps93
    go_wp2_with (go_at_call 32; refine (treeWant_no _).mono ?_; rintro e w' ⟨rfl, rfl⟩)
    exact ⟨rfl, Or.inr ⟨unhide HN, rfl⟩, rfl⟩

/-- What the bounds of a sorter or reader hold. -/
structure Bnd (w : World) (B : Nat) (p l : Int) : Prop where
  c0 : w.cell? ⟨B, 0, none⟩ = some (.int .i64 p)
  c1 : w.cell? ⟨B, 1, none⟩ = some (.int .i64 l)
  f0 : w.frozen? ⟨B, 0, none⟩ = false
  f1 : w.frozen? ⟨B, 1, none⟩ = false

theorem Bnd.lt {w : World} {B : Nat} {p l : Int} (h : Bnd w B p l) : B < w.heap.size := World.block_lt_of_cell? w _ h.c0
theorem Bnd.of_block {w w' : World} {B : Nat} {p l : Int} (h : Bnd w B p l) (e : w'.heap[B]? = w.heap[B]?) : Bnd w' B p l :=
  ⟨by rw [World.cell?_of_block (w := w) e]; exact h.c0, by rw [World.cell?_of_block (w := w) e]; exact h.c1, by rw [World.frozen?_of_block (w := w) e]; exact h.f0, by rw [World.frozen?_of_block (w := w) e]; exact h.f1⟩

set_option maxHeartbeats 400000 in
theorem enter_yes (B : Nat) (p l : Int) (w : World) (hB : Bnd w B p l) (hp : 0 ≤ p) (hl : 0 ≤ l) (h1 : p + 1 ≤ 120) (h2 : l + 1 ≤ 6) :
    Calls Tryz.prog 86 #[.pointer (some ⟨B, 0, none⟩)] w fun e w' => e = .returned (.tuple #[]) ∧ w' = (w.setCell ⟨B, 0, none⟩ (.int .i64 (p + 1))).setCell ⟨B, 1, none⟩ (.int .i64 (l + 1)) := by
  obtain ⟨c0, c1, f0, f1⟩ := hB
  have d1 : decide (p + 1 ≤ 120) = true := by simp; omega
  have d2 : decide (l + 1 ≤ 6) = true := by simp; omega
  go_enter Tryz.func86, Tryz.ntmps86
  go_wp2_with (go_at_call 32; refine (treeWant_yes _).mono ?_; rintro e w' ⟨rfl, rfl⟩)
  go_end0
  exact ⟨rfl, rfl⟩

set_option maxHeartbeats 400000 in
theorem enter_no (B : Nat) (p l : Int) (w : World) (hB : Bnd w B p l) (hp : 0 ≤ p) (hl : 0 ≤ l) (hp1 : p ≤ 120) (hl1 : l ≤ 6) (h : ¬ (p + 1 ≤ 120 ∧ l + 1 ≤ 6)) :
    Calls Tryz.prog 86 #[.pointer (some ⟨B, 0, none⟩)] w fun e w' => e = fltE ∧ w' = (w.setCell ⟨B, 0, none⟩ (.int .i64 (p + 1))).setCell ⟨B, 1, none⟩ (.int .i64 (l + 1)) := by
  obtain ⟨c0, c1, f0, f1⟩ := hB
  by_cases h1 : p + 1 ≤ 120
  · have d1 : decide (p + 1 ≤ 120) = true := by simp; omega
    have d2 : decide (l + 1 ≤ 6) = false := by simp; omega
    clear h
    go_enter Tryz.func86, Tryz.ntmps86
    go_wp2_with (go_at_call 32; refine (treeWant_no _).mono ?_; rintro e w' ⟨rfl, rfl⟩)
    exact ⟨rfl, rfl, rfl⟩
  · have d1 : decide (p + 1 ≤ 120) = false := by simp; omega
    clear h
    go_enter Tryz.func86, Tryz.ntmps86
    go_wp2_with (go_at_call 32; refine (treeWant_no _).mono ?_; rintro e w' ⟨rfl, rfl⟩)
    exact ⟨rfl, rfl, rfl⟩

set_option maxHeartbeats 400000 in
theorem leave_any (B : Nat) (p l : Int) (w : World) (hB : Bnd w B p l) (hl : 0 ≤ l) (hl1 : l ≤ 10) :
    Calls Tryz.prog 89 #[.pointer (some ⟨B, 0, none⟩)] w fun e w' => e = .returned (.tuple #[]) ∧ w' = w.setCell ⟨B, 1, none⟩ (.int .i64 (l - 1)) := by
  obtain ⟨c0, c1, f0, f1⟩ := hB
  go_enter Tryz.func89, Tryz.ntmps89
  go_wp2_with fail
  go_end0
  exact ⟨rfl, rfl⟩

set_option maxHeartbeats 400000 in
theorem newForm_any (v : Value) (ss : List ByteArray) (a : Option Addr) (n cap : Nat) (w : World) {P : Nat → Prop} (hP : ∀ b, P b → b < w.heap.size) (hv : StrsAt P w v ss) :
    Calls Tryz.prog 97 #[v, .slice a n cap] w fun e w' => ((ss.length = n ∧ riseB ss = true) ∧ e = .returned (.agg #[v, .slice a n cap]) ∨ ¬ (ss.length = n ∧ riseB ss = true) ∧ e = fltE) ∧ Below w.heap.size w w' := by
  have hbx : ∀ o, Below w.heap.size w (w.alloc o) := fun o => (Below.refl _ _).alloc (Nat.le_refl _) o
  have hasc : ∀ o, Calls Tryz.prog 100 #[v] (w.alloc o) fun e w' => e = .returned (.bool (riseB ss)) ∧ w' = w.alloc o := fun o =>
    namesAscend_any v ss (w.alloc o) (P := P) (fun b hb => Nat.lt_of_lt_of_le (hP b hb) (hbx o).size) (hv.carry (fun b hb => (hbx o).block b (hP b hb)) (fun _ h => h))
  have HA := hide hasc; have HBX := hide hbx
  obtain ⟨a3, cap3, rfl, hlen, -⟩ := hv
  clear hasc hbx hP
  by_cases hnl : ss.length = n
  · have d : ((ss.length : Int) == (n : Int)) = true := by simp; omega
    have HNL := hide hnl; clear hnl
    cases hr : riseB ss
    · rw [hr] at HA
      go_enter Tryz.func97, Tryz.ntmps97
      go_wp2_with (first | (go_at_call 100; refine (unhide HA _).mono ?_; rintro e w' ⟨rfl, rfl⟩) | (go_at_call 32; refine (treeWant_no _).mono ?_; rintro e w' ⟨rfl, rfl⟩))
      exact ⟨rfl, Or.inr ⟨fun h => Bool.false_ne_true h.2, rfl⟩, unhide HBX _⟩
    · rw [hr] at HA
      go_enter Tryz.func97, Tryz.ntmps97
      go_wp2_with (first | (go_at_call 100; refine (unhide HA _).mono ?_; rintro e w' ⟨rfl, rfl⟩) | (go_at_call 32; refine (treeWant_yes _).mono ?_; rintro e w' ⟨rfl, rfl⟩))
      refine bodyPost_ret (v := .agg #[.slice a3 ss.length cap3, .slice a n cap]) (by simp [results, Tryz.results97, go_sem]) rfl ⟨Or.inl ⟨⟨unhide HNL, by simp⟩, rfl⟩, unhide HBX _⟩
  · have d : ((ss.length : Int) == (n : Int)) = false := by simp; omega
    have HNL := hide hnl; clear hnl
    go_enter Tryz.func97, Tryz.ntmps97
    go_wp2_with (go_at_call 32; refine (treeWant_no _).mono ?_; rintro e w' ⟨rfl, rfl⟩)
    exact ⟨rfl, Or.inr ⟨fun h => unhide HNL h.1, rfl⟩, unhide HBX _⟩
end Go.Proofs.YtiflfcjocngiiaaGreatDoor
