/- The walks of the program's small functions on crews: hasJob, leftOf.., isShut, isEmpty, isStopped, allHold, workersEnded, aWorkerEnded, dueInRing, keeperOk. No conditions but that the crew is there. -/
import Derived.Test.YtibgjcejddpldaaGreatPart11
import Derived.Handy
import Derived.BigRegion
import Derived.BigQuiet
import Derived.Test.YtibgjcejddpldaaGreatRows
import Derived.Laws.CopyOwn
import Derived.WalkKit
namespace Go.Proofs.YtibgjcejddpldaaGreat
open Go Go.RowKit

theorem isIn_same (a b c : Int) (w : World) : Calls Tryz.prog 95 #[.int .i64 a, .int .i64 b, .int .i64 c] w fun e w' => e = .returned (.bool (decide (b ≤ a ∧ a ≤ c))) ∧ w' = w := by
  by_cases h : b ≤ a ∧ a ≤ c
  · rw [decide_eq_true h]
    obtain ⟨h1, h2⟩ := h
    go_enter Tryz.func95, Tryz.ntmps95
    go_wp2_with fail
    go_ret
    exact ⟨rfl, rfl⟩
  · rw [decide_eq_false h]
    by_cases h1 : b ≤ a
    · have h2 : ¬ a ≤ c := fun h2 => h ⟨h1, h2⟩
      clear h
      go_enter Tryz.func95, Tryz.ntmps95
      go_wp2_with fail
      go_ret
      exact ⟨rfl, rfl⟩
    · clear h
      go_enter Tryz.func95, Tryz.ntmps95
      go_wp2_with fail
      go_ret
      exact ⟨rfl, rfl⟩
set_option maxHeartbeats 800000 in
theorem hasJob_any (s j : Int) (w : World) : Calls Tryz.prog 112 #[.agg #[.int .i64 s, .int .i64 j]] w fun e w' => e = .returned (.bool (busyH ⟨s, j⟩)) ∧ Below w.heap.size w w' := by
  have HBX := hide (fun o => (show Below w.heap.size w (w.alloc o) from (Below.refl _ _).alloc (Nat.le_refl _) o))
  by_cases h1 : s = 1
  · have q : (s == 1) = true := by simp [h1]
    have HV := hide (show busyH ⟨s, j⟩ = true from by simp [busyH, h1])
    clear h1
    go_enter Tryz.func112, Tryz.ntmps112
    go_wp2_with fail
    go_ret
    exact ⟨by rw [unhide HV]; rfl, unhide HBX _⟩
  · have q : (s == 1) = false := by simp [h1]
    have HV := hide (show busyH ⟨s, j⟩ = (s == 2) from by simp [busyH, h1])
    clear h1
    go_enter Tryz.func112, Tryz.ntmps112
    go_wp2_with fail
    go_ret
    exact ⟨by rw [unhide HV]; rfl, unhide HBX _⟩
set_option maxHeartbeats 800000 in
theorem lefW_any (s : Int) (w : World) : Calls Tryz.prog 81 #[.int .i64 s] w fun e w' => e = .returned (.int .i64 (wkL s)) ∧ w' = w := by
  by_cases h0 : s = 0
  · subst h0
    go_enter Tryz.func81, Tryz.ntmps81
    go_wp2_with fail
    go_ret
    exact ⟨rfl, rfl⟩
  by_cases h1 : s = 1
  · subst h1
    go_enter Tryz.func81, Tryz.ntmps81
    go_wp2_with fail
    go_ret
    exact ⟨rfl, rfl⟩
  by_cases h2 : s = 2
  · subst h2
    go_enter Tryz.func81, Tryz.ntmps81
    go_wp2_with fail
    go_ret
    exact ⟨rfl, rfl⟩
  have q0 : (s == 0) = false := by simp [h0]
  have q1 : (s == 1) = false := by simp [h1]
  have q2 : (s == 2) = false := by simp [h2]
  have HV := hide (show wkL s = 0 from by simp [wkL, h0, h1, h2])
  clear h0 h1 h2
  go_enter Tryz.func81, Tryz.ntmps81
  go_wp2_with fail
  go_ret
  exact ⟨by rw [unhide HV]; rfl, rfl⟩
set_option maxHeartbeats 800000 in
theorem lefR_any (s : Int) (w : World) : Calls Tryz.prog 82 #[.int .i64 s] w fun e w' => e = .returned (.int .i64 (rdL s)) ∧ w' = w := by
  by_cases h0 : s = 0
  · subst h0
    go_enter Tryz.func82, Tryz.ntmps82
    go_wp2_with fail
    go_ret
    exact ⟨rfl, rfl⟩
  by_cases h1 : s = 1
  · subst h1
    go_enter Tryz.func82, Tryz.ntmps82
    go_wp2_with fail
    go_ret
    exact ⟨rfl, rfl⟩
  by_cases h2 : s = 2
  · subst h2
    go_enter Tryz.func82, Tryz.ntmps82
    go_wp2_with fail
    go_ret
    exact ⟨rfl, rfl⟩
  have q0 : (s == 0) = false := by simp [h0]
  have q1 : (s == 1) = false := by simp [h1]
  have q2 : (s == 2) = false := by simp [h2]
  have HV := hide (show rdL s = 0 from by simp [rdL, h0, h1, h2])
  clear h0 h1 h2
  go_enter Tryz.func82, Tryz.ntmps82
  go_wp2_with fail
  go_ret
  exact ⟨by rw [unhide HV]; rfl, rfl⟩
set_option maxHeartbeats 800000 in
theorem lefK_any (s : Int) (w : World) : Calls Tryz.prog 83 #[.int .i64 s] w fun e w' => e = .returned (.int .i64 (kpL s)) ∧ w' = w := by
  by_cases h0 : s = 0
  · subst h0
    go_enter Tryz.func83, Tryz.ntmps83
    go_wp2_with fail
    go_ret
    exact ⟨rfl, rfl⟩
  by_cases h2 : s = 2
  · subst h2
    go_enter Tryz.func83, Tryz.ntmps83
    go_wp2_with fail
    go_ret
    exact ⟨rfl, rfl⟩
  by_cases h1 : s = 1
  · subst h1
    go_enter Tryz.func83, Tryz.ntmps83
    go_wp2_with fail
    go_ret
    exact ⟨rfl, rfl⟩
  by_cases h3 : s = 3
  · subst h3
    go_enter Tryz.func83, Tryz.ntmps83
    go_wp2_with fail
    go_ret
    exact ⟨rfl, rfl⟩
  by_cases h4 : s = 4
  · subst h4
    go_enter Tryz.func83, Tryz.ntmps83
    go_wp2_with fail
    go_ret
    exact ⟨rfl, rfl⟩
  have q0 : (s == 0) = false := by simp [h0]
  have q2 : (s == 2) = false := by simp [h2]
  have q1 : (s == 1) = false := by simp [h1]
  have q3 : (s == 3) = false := by simp [h3]
  have q4 : (s == 4) = false := by simp [h4]
  have HV := hide (show kpL s = 0 from by simp [kpL, h0, h2, h1, h3, h4])
  clear h0 h2 h1 h3 h4
  go_enter Tryz.func83, Tryz.ntmps83
  go_wp2_with fail
  go_ret
  exact ⟨by rw [unhide HV]; rfl, rfl⟩
theorem shutI_any (b : Nat) (z : Int) (w : World) (h : w.cell? ⟨b, 3, none⟩ = some (.int .i64 z)) : Calls Tryz.prog 116 #[.pointer (some ⟨b, 0, none⟩)] w fun e w' => e = .returned (.bool (decide (0 < z))) ∧ w' = w := by
  go_enter Tryz.func116, Tryz.ntmps116
  go_wp2_with fail
  go_ret
  exact ⟨rfl, rfl⟩
theorem shutP_any (b : Nat) (z : Int) (w : World) (h : w.cell? ⟨b, 3, none⟩ = some (.int .i64 z)) : Calls Tryz.prog 141 #[.pointer (some ⟨b, 0, none⟩)] w fun e w' => e = .returned (.bool (decide (0 < z))) ∧ w' = w := by
  go_enter Tryz.func141, Tryz.ntmps141
  go_wp2_with fail
  go_ret
  exact ⟨rfl, rfl⟩
theorem emptyI_any (b : Nat) (n : Nat) (w : World) (h : w.cell? ⟨b, 2, none⟩ = some (.int .i64 n)) : Calls Tryz.prog 118 #[.pointer (some ⟨b, 0, none⟩)] w fun e w' => e = .returned (.bool (decide (n = 0))) ∧ w' = w := by
  by_cases h0 : n = 0
  · subst h0
    go_enter Tryz.func118, Tryz.ntmps118
    go_wp2_with fail
    go_ret
    exact ⟨rfl, rfl⟩
  · have HV := hide (show ((n : Int) == 0) = false from by simp [h0])
    have HV2 := hide (show decide (n = 0) = false from by simp [h0])
    clear h0
    go_enter Tryz.func118, Tryz.ntmps118
    go_wp2_with fail
    go_ret
    exact ⟨by rw [unhide HV2, unhide HV]; rfl, rfl⟩
theorem CrAt.q2 {W : World} {C : Nat} {c : Cw} {B : CrB} (h : CrAt W C c B) : W.cell? ⟨B.Q, 2, none⟩ = some (.int .i64 c.queue.length) := by
  obtain ⟨_, _, _, hm, _, _⟩ := h.q.ex
  exact hm.cell (i := 2) (by omega)
theorem CrAt.r2 {W : World} {C : Nat} {c : Cw} {B : CrB} (h : CrAt W C c B) : W.cell? ⟨B.R, 2, none⟩ = some (.int .i64 c.results.length) := by
  obtain ⟨_, _, _, hm, _, _⟩ := h.r.ex
  exact hm.cell (i := 2) (by omega)
theorem CrAt.o2 {W : World} {C : Nat} {c : Cw} {B : CrB} (h : CrAt W C c B) : W.cell? ⟨B.O, 2, none⟩ = some (.int .i64 c.out.length) := by
  obtain ⟨_, _, _, hm, _, _⟩ := h.o.ex
  exact hm.cell (i := 2) (by omega)
theorem stopped_any (C : Nat) (c : Cw) (B : CrB) (w : World) (h : CrAt w C c B) : Calls Tryz.prog 115 #[.pointer (some ⟨C, 0, none⟩)] w fun e w' => e = .returned (.bool (decide (0 < shZ c 3))) ∧ w' = w := by
  have c14 := h.c14
  have HSH := hide (shutP_any B.T (c.shut.getD 3 0) w h.t3)
  clear h
  go_enter Tryz.func115, Tryz.ntmps115
  go_wp2_with (go_at_call 141; refine (unhide HSH).mono ?_; rintro e w2 ⟨rfl, h2⟩; have h3 := h2.symm; subst h3; clear h2)
  go_ret
  exact ⟨rfl, rfl⟩
theorem hflat_at : ∀ (hs : List Hd) (i : Nat) (hi : i < hs.length), r18 (hs.map Hd.cs).flatten (i * 2) = .int .i64 hs[i].state ∧ r18 (hs.map Hd.cs).flatten (i * 2 + 1) = .int .i64 hs[i].job
  | [], i, hi => by cases hi
  | h :: r, 0, hi => ⟨rfl, rfl⟩
  | h :: r, i + 1, hi => by
      have := hflat_at r i (by simpa using hi)
      rw [show (i + 1) * 2 = i * 2 + 2 by omega]
      exact this
theorem hands_at {W : World} {b : Nat} {hs : List Hd} (h : W.rowIs b 73 (hs.length * 2) (r18 (hs.map Hd.cs).flatten)) (i : Nat) (hi : i < hs.length) : W.cell? ⟨b, i * 2, none⟩ = some (.int .i64 hs[i].state) ∧ W.cell? ⟨b, i * 2 + 1, none⟩ = some (.int .i64 hs[i].job) := by
  obtain ⟨h1, h2⟩ := hflat_at hs i hi
  have a1 := h.cell (i := i * 2) (by omega); have a2 := h.cell (i := i * 2 + 1) (by omega)
  rw [h1] at a1; rw [h2] at a2
  exact ⟨a1, a2⟩
theorem endC_any (s j : Int) (w : World) : Calls Tryz.prog 85 #[.agg #[.int .i64 s, .int .i64 j]] w fun e w' => e = .returned (.bool (s == 3)) ∧ Below w.heap.size w w' := by
  have HBX := hide (fun o => (show Below w.heap.size w (w.alloc o) from (Below.refl _ _).alloc (Nat.le_refl _) o))
  go_enter Tryz.func85, Tryz.ntmps85
  go_wp2_with fail
  go_ret
  exact ⟨rfl, unhide HBX _⟩
set_option maxRecDepth 100000 in
set_option maxHeartbeats 1600000 in
theorem allendC_any (b cap : Nat) (hs : List Hd) (w : World) (h : w.rowIs b 73 (hs.length * 2) (r18 (hs.map Hd.cs).flatten)) (hl : hs.length ≤ 1000) : Calls Tryz.prog 84 #[.slice (some ⟨b, 0, none⟩) hs.length cap, .func (.func 85) #[] #[]] w fun e w' => e = .returned (.bool (hs.all (fun h => h.state == 3))) ∧ Below w.heap.size w w' := by
  have HR := hide h
  clear h
  go_enter Tryz.func84, Tryz.ntmps84
  go_wp2_with fail
  go_loopw [9] (fun i wr => ∃ (k : Nat), k ≤ hs.length ∧ i = .int .i64 k ∧ Hid (Below w.heap.size w wr) ∧ Hid (∀ j, (hj : j < hs.length) → j < k → (hs[j].state == 3) = true)) (fun i _ => hs.length - (intOf i).toNat)
  case atStart => exact ⟨0, Nat.zero_le _, rfl, hide (Below.refl _ _), hide (fun j _ hj => absurd hj (by omega))⟩
  case round =>
    obtain ⟨k, hk, rfl, HB, HA⟩ := hrel
    by_cases hlt : k < hs.length
    · obtain ⟨e0, e1⟩ := hands_at ((unhide HR).of_block (HB.out.block b (unhide HR).lt)) k hlt
      have HBA := hide (fun o' => HB.out.alloc HB.out.size o')
      have HNA := hide (fun W => endC_any hs[k].state hs[k].job W)
      cases h3 : (hs[k].state == 3) with
      | true =>
        have HN := hide (show ∀ j, (hj : j < hs.length) → j < k + 1 → (hs[j].state == 3) = true from fun j hj hjk => by
          by_cases e : j = k
          · subst e; exact h3
          · exact HA.out j hj (by omega))
        rw [h3] at HNA
        clear h3
        generalize hs[k].state = zs at *
        generalize hs[k].job = zj at *
        go_wp2_with (go_at_call 85; refine (unhide HNA _).mono ?_; rintro e w5 ⟨rfl, hb5⟩; have HB5 := hide ((unhide HBA _).trans (hb5.mono (unhide HBA _).size)); clear hb5)
        go_roundw
        case rel => exact ⟨k + 1, by omega, by go_num, HB5, HN⟩
        case measure => simp [intOf]; omega
      | false =>
        have HV := hide (show hs.all (fun h => h.state == 3) = false from by
          rw [List.all_eq_false]; exact ⟨_, List.getElem_mem hlt, by rw [h3]; simp⟩)
        rw [h3] at HNA
        clear h3
        generalize hs[k].state = zs at *
        generalize hs[k].job = zj at *
        go_wp2_with (go_at_call 85; refine (unhide HNA _).mono ?_; rintro e w5 ⟨rfl, hb5⟩; have HB5 := hide ((unhide HBA _).trans (hb5.mono (unhide HBA _).size)); clear hb5)
        go_ret
        exact ⟨by rw [unhide HV]; rfl, unhide HB5⟩
    · have HV := hide (show hs.all (fun h => h.state == 3) = true from by
        rw [List.all_eq_true]
        intro x hx
        obtain ⟨j, hj, rfl⟩ := List.getElem_of_mem hx
        exact HA.out j hj (by omega))
      obtain rfl : k = hs.length := by omega
      go_wp2_with fail
      go_ret
      exact ⟨by rw [unhide HV]; rfl, HB.out⟩
theorem notC_any (s j : Int) (w : World) : Calls Tryz.prog 142 #[.agg #[.int .i64 s, .int .i64 j]] w fun e w' => e = .returned (.bool (s != 3)) ∧ Below w.heap.size w w' := by
  have HBX := hide (fun o => (show Below w.heap.size w (w.alloc o) from (Below.refl _ _).alloc (Nat.le_refl _) o))
  go_enter Tryz.func142, Tryz.ntmps142
  go_wp2_with fail
  go_ret
  exact ⟨rfl, unhide HBX _⟩
set_option maxRecDepth 100000 in
set_option maxHeartbeats 1600000 in
theorem allnotC_any (b cap : Nat) (hs : List Hd) (w : World) (h : w.rowIs b 73 (hs.length * 2) (r18 (hs.map Hd.cs).flatten)) (hl : hs.length ≤ 1000) : Calls Tryz.prog 84 #[.slice (some ⟨b, 0, none⟩) hs.length cap, .func (.func 142) #[] #[]] w fun e w' => e = .returned (.bool (hs.all (fun h => h.state != 3))) ∧ Below w.heap.size w w' := by
  have HR := hide h
  clear h
  go_enter Tryz.func84, Tryz.ntmps84
  go_wp2_with fail
  go_loopw [9] (fun i wr => ∃ (k : Nat), k ≤ hs.length ∧ i = .int .i64 k ∧ Hid (Below w.heap.size w wr) ∧ Hid (∀ j, (hj : j < hs.length) → j < k → (hs[j].state != 3) = true)) (fun i _ => hs.length - (intOf i).toNat)
  case atStart => exact ⟨0, Nat.zero_le _, rfl, hide (Below.refl _ _), hide (fun j _ hj => absurd hj (by omega))⟩
  case round =>
    obtain ⟨k, hk, rfl, HB, HA⟩ := hrel
    by_cases hlt : k < hs.length
    · obtain ⟨e0, e1⟩ := hands_at ((unhide HR).of_block (HB.out.block b (unhide HR).lt)) k hlt
      have HBA := hide (fun o' => HB.out.alloc HB.out.size o')
      have HNA := hide (fun W => notC_any hs[k].state hs[k].job W)
      cases h3 : (hs[k].state != 3) with
      | true =>
        have HN := hide (show ∀ j, (hj : j < hs.length) → j < k + 1 → (hs[j].state != 3) = true from fun j hj hjk => by
          by_cases e : j = k
          · subst e; exact h3
          · exact HA.out j hj (by omega))
        rw [h3] at HNA
        clear h3
        generalize hs[k].state = zs at *
        generalize hs[k].job = zj at *
        go_wp2_with (go_at_call 142; refine (unhide HNA _).mono ?_; rintro e w5 ⟨rfl, hb5⟩; have HB5 := hide ((unhide HBA _).trans (hb5.mono (unhide HBA _).size)); clear hb5)
        go_roundw
        case rel => exact ⟨k + 1, by omega, by go_num, HB5, HN⟩
        case measure => simp [intOf]; omega
      | false =>
        have HV := hide (show hs.all (fun h => h.state != 3) = false from by
          rw [List.all_eq_false]; exact ⟨_, List.getElem_mem hlt, by rw [h3]; simp⟩)
        rw [h3] at HNA
        clear h3
        generalize hs[k].state = zs at *
        generalize hs[k].job = zj at *
        go_wp2_with (go_at_call 142; refine (unhide HNA _).mono ?_; rintro e w5 ⟨rfl, hb5⟩; have HB5 := hide ((unhide HBA _).trans (hb5.mono (unhide HBA _).size)); clear hb5)
        go_ret
        exact ⟨by rw [unhide HV]; rfl, unhide HB5⟩
    · have HV := hide (show hs.all (fun h => h.state != 3) = true from by
        rw [List.all_eq_true]
        intro x hx
        obtain ⟨j, hj, rfl⟩ := List.getElem_of_mem hx
        exact HA.out j hj (by omega))
      obtain rfl : k = hs.length := by omega
      go_wp2_with fail
      go_ret
      exact ⟨by rw [unhide HV]; rfl, HB.out⟩
theorem any_not (hs : List Hd) : (!hs.all (fun h => h.state != 3)) = anyE hs := by
  unfold anyE
  induction hs with
  | nil => rfl
  | cons h r ih => 
    rw [List.all_cons, List.any_cons, ← ih]
    show (!((!(h.state == 3)) && r.all (fun h => h.state != 3))) = ((h.state == 3) || !r.all (fun h => h.state != 3))
    rw [Bool.not_and, Bool.not_not]
theorem wEnded_any (C : Nat) (c : Cw) (B : CrB) (w : World) (h : CrAt w C c B) : Calls Tryz.prog 49 #[.pointer (some ⟨C, 0, none⟩)] w fun e w' => e = .returned (.bool (allE c.hands)) ∧ Below w.heap.size w w' := by
  have c4 := h.c4
  have HSH := hide (allendC_any B.H c.hands.length c.hands w h.hands (by have := h.szH; omega))
  clear h
  go_enter Tryz.func49, Tryz.ntmps49
  go_wp2_with (go_at_call 84; refine (unhide HSH).mono ?_; rintro e w2 ⟨rfl, h2⟩; have HB := hide h2; clear h2)
  go_ret
  exact ⟨rfl, unhide HB⟩
theorem aEnded_any (C : Nat) (c : Cw) (B : CrB) (w : World) (h : CrAt w C c B) : Calls Tryz.prog 117 #[.pointer (some ⟨C, 0, none⟩)] w fun e w' => e = .returned (.bool (anyE c.hands)) ∧ Below w.heap.size w w' := by
  have c4 := h.c4
  have HSH := hide (allnotC_any B.H c.hands.length c.hands w h.hands (by have := h.szH; omega))
  rw [← any_not]
  clear h
  generalize (c.hands.all fun h => h.state != 3) = bb at *
  go_enter Tryz.func117, Tryz.ntmps117
  go_wp2_with (go_at_call 84; refine (unhide HSH).mono ?_; rintro e w2 ⟨rfl, h2⟩; have HB := hide h2; clear h2)
  go_ret
  exact ⟨rfl, unhide HB⟩
/-- A place of the ring. -/
theorem CrAt.g_at {W : World} {C : Nat} {c : Cw} {B : CrB} (h : CrAt W C c B) (i : Nat) (hi : i < c.ring.length) : W.cell? ⟨B.G, i, none⟩ = some (.int .i64 c.ring[i]) := by
  rw [World.ownsRow.cellAt h.ring i (by omega), zflat_map, List.getElem?_map, List.getElem?_eq_getElem hi]
  rfl
end Go.Proofs.YtibgjcejddpldaaGreat

/- A crew that is still as it was, while other memory grows. No program. No conditions. -/

namespace Go.Proofs.YtibgjcejddpldaaGreat
open Go Go.RowKit

theorem CrAt.dn {W : World} {C : Nat} {c : Cw} {B : CrB} (h : CrAt W C c B) (m : Nat) : CrAt (W.drewN m) C c B := h.below (below_drewN W m)
/-- A crew that is still as it was, behind w. -/
structure Kc (w W : World) (C : Nat) (c : Cw) (B : CrB) : Prop where
  cr : CrAt W C c B
  bel : Below w.heap.size w W
theorem Kc.on {w W W' : World} {C : Nat} {c : Cw} {B : CrB} (h : Kc w W C c B) (hb : Below W.heap.size W W') : Kc w W' C c B := ⟨h.cr.below hb, h.bel.trans (hb.mono h.bel.size)⟩
theorem Kc.dn {w W : World} {C : Nat} {c : Cw} {B : CrB} (h : Kc w W C c B) (m : Nat) : Kc w (W.drewN m) C c B := h.on (below_drewN W m)
theorem Kc.start {w : World} {C : Nat} {c : Cw} {B : CrB} (h : CrAt w C c B) : Kc w w C c B := ⟨h, Below.refl _ _⟩
end Go.Proofs.YtibgjcejddpldaaGreat

/- An operation of a region that draws its order, by a law that was made for plain regions: no program. No conditions. -/

namespace Go.Proofs.YtibgjcejddpldaaGreat
open Go Go.RowKit

section
variable {P : Program} {ops : Array Oper} {Q : Exit → Act → World → Prop}
/-- What follows normally is K, all else is Q. -/
def Nrm (K : Act → World → Prop) (Q : Exit → Act → World → Prop) : Exit → Act → World → Prop
  | .normal, a, w => K a w
  | e, a, w => Q e a w
theorem wp_nrm {o : Oper} {a : Act} {w : World} {K : Act → World → Prop} (h : o.wp P a w K (Nrm K Q)) : o.wp P a w K Q := by
  unfold Oper.wp at *
  generalize (execOp a.eval o).run P w = r at *
  cases r with
  | ok n w' =>
    cases n with
    | enter f args =>
      refine Calls.mono h fun e w'' he => ?_
      cases e <;> exact he
    | _ => exact h
  | halt x w' => cases x <;> exact h
/-- An operation by a law on lists of operations. -/
theorem op_list {i : Nat} {K : Act → World → Prop} {a : Act} {w : World} (d : Option Tmp) (hb : opB ops i d = true) (h : wpList P ops (Nrm K Q) [opI ops i] a w) : wpOp P ops Q i K a w := by
  unfold opB at hb
  simp only [Bool.and_eq_true, decide_eq_true_eq] at hb
  obtain ⟨⟨h1, h2⟩, h3⟩ := hb
  unfold wpOp
  rw [opI_get h1]
  unfold wpList at h
  simp only [wanted_none _ h3, if_true] at h ⊢
  rcases h with h | h
  · exact Or.inl (wp_nrm h)
  · exact Or.inr ⟨h.1, h.2⟩
end
end Go.Proofs.YtibgjcejddpldaaGreat

/- copy onto a whole row of the call's own, the elements being of several cells. No program walked, no conditions. -/

namespace Go.Proofs.YtibgjcejddpldaaGreat
open Go Go.RowKit

theorem run_copy_whole {P : Program} (w : World) (T ty elem : TypeId) (i : TypeInfo) (g m cap : Nat) (a : Addr) (sCap : Nat) (cur : Array Value) (t : TypeId) (cs : List Value)
    (hu : P.underlying T = some (.slice elem)) (hi : P.info? elem = some i) (hg : w.heap[g]? = some (.cells cur t (0, 0))) (hn : cs.length = m * i.size) (hc : cur.size = m * i.size)
    (hsrc : ∀ j v, cs[j]? = some v → w.cell? (a.add j) = some v) (h1 : ∀ v ∈ cs, v.oneCell' = true) :
    (Builtin.copy_ #[T, T] ty #[.slice (some ⟨g, 0, none⟩) m cap, .slice (some a) m sCap]).run P w = .ok (goInt m) (w.setRow g cs.toArray) := by
  have hl := run_loadCells_list (P := P) w a cs hsrc
  have hst := run_storeCells_at P g 0 t cs 0 cur w hg (by omega) h1
  have he : (cur.toList.take (0 + 0) ++ cs ++ cur.toList.drop (0 + 0 + cs.length)) = cs := by
    rw [List.drop_eq_nil_of_le (by simp; omega)]; simp
  rw [he] at hst
  rw [hn] at hl
  simp [Builtin.copy_, run_underlying hu, Builtin.lenOf, Builtin.firstCells, sizeOf, typeInfo, hi, hl, hst]

/-- The operation, for the walk. -/
theorem wpList_copyW {P : Program} {w : World} {ops : Array Oper} {rest : List Oper} {o : Oper} {ac : Act} {Q : Exit → Act → World → Prop} (hgd : o.guard = none) (d s : Operand) (T : TypeId)
    (ho : o.op = .call { callee := .builtin .copy, args := #[d, s], argTypes := #[T, T] }) (elem : TypeId) (i : TypeInfo) (hu : P.underlying T = some (.slice elem)) (hi : P.info? elem = some i)
    (g m cap : Nat) (a : Addr) (sCap : Nat) (hd : ac.eval d = .slice (some ⟨g, 0, none⟩) m cap) (hs : ac.eval s = .slice (some a) m sCap) (cur : Array Value) (t : TypeId) (cs : List Value)
    (hg : w.heap[g]? = some (.cells cur t (0, 0))) (hn : cs.length = m * i.size) (hc : cur.size = m * i.size) (hsrc : ∀ j v, cs[j]? = some v → w.cell? (a.add j) = some v) (h1 : ∀ v ∈ cs, v.oneCell' = true)
    (h : ∀ W, Hid (W.heap[g]? = some (.cells cs.toArray t (0, 0))) → Hid (w.grownBy W (some g)) → wpList P ops Q rest (ac.put o.dst (goInt m)) W) : wpList P ops Q (o :: rest) ac w := by
  refine wpList_plain hgd fun K hK => ?_
  have hrun := run_copy_whole (P := P) w T o.type elem i g m cap a sCap cur t cs hu hi hg hn hc hsrc h1
  unfold Oper.wp
  simp [execOp, ho, resolve, invoke, builtin, hd, hs, hrun, Result.andThen]
  exact hK _ _ (h _ (setRow_heap w g cur _ t _ hg) ⟨rfl, rfl, rfl, by simp [World.setRow], fun k _ hk => setRow_other w g k _ (fun e => hk (by rw [e]))⟩)

end Go.Proofs.YtibgjcejddpldaaGreat
