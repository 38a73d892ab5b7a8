/- The walks of the program's treeTry and its deferred function: whatever work it is handed, it answers whether that came to its end. No conditions. -/
import Derived.Test.YthkjhmcbmakkdaaDoorPart15
import Derived.Test.YthkjhmcbmakkdaaDoorPart00
import Derived.WideLaws
import Derived.Test.YthkjhmcbmakkdaaDoorPart24
import Derived.Test.YthkjhmcbmakkdaaDoorPart25
import Derived.Test.YthkjhmcbmakkdaaDoorPart27
namespace Go.Proofs.YthkjhmcbmakkdaaDoor
open Go Go.RowKit

set_option maxHeartbeats 400000 in
theorem try_panicking (p : Addr) (x : Bool) (u : TypeId) (pv : Value) (older : List PanicEntry) (w : World) (hc : w.cell? p = some (.bool x)) (hz : w.frozen? p = false) :
    CallsD Tryd.prog 52 #[.pointer (some p)] (.panicking ({ v := .iface u pv, recovered := false } :: older)) w fun e u' w' =>
      e = .returned (.tuple #[]) ∧ u' = .panicking ({ v := .iface u pv, recovered := true } :: older) ∧ w' = w.setCell p (.bool false) := by
  refine callsD_of_wpS Tryd.func52 rfl fun c₀ cs hu => ?_
  apply wpS_region
  simp [wpOpsS, go_sem, recoverD, hu, Tryd.ntmps52, hc, hz, bodyPostS, results, Tryd.results52]

set_option maxHeartbeats 400000 in
theorem try_returning (p : Addr) (x : Bool) (w : World) (hc : w.cell? p = some (.bool x)) (hz : w.frozen? p = false) :
    CallsD Tryd.prog 52 #[.pointer (some p)] .returning w fun e u' w' => e = .returned (.tuple #[]) ∧ u' = .returning ∧ w' = w.setCell p (.bool true) := by
  refine callsD_of_wpS Tryd.func52 rfl fun c₀ cs hu => ?_
  apply wpS_region
  simp [wpOpsS, go_sem, recoverD, hu, Tryd.ntmps52, hc, hz, bodyPostS, results, Tryd.results52]
  cases c₀
  simp_all

theorem cell_new1 {w w' : World} {x : Value} {t : TypeId} (h : w'.heap[w.heap.size]? = (w.alloc (.cells #[x] t)).heap[w.heap.size]?) : w'.cell? ⟨w.heap.size, 0, none⟩ = some x ∧ w'.frozen? ⟨w.heap.size, 0, none⟩ = false := by
  rw [World.cell?_of_block (a := ⟨w.heap.size, 0, none⟩) h, World.frozen?_of_block (a := ⟨w.heap.size, 0, none⟩) h]
  exact ⟨by simp [go_sem], by simp [go_sem]⟩

set_option maxRecDepth 100000 in
set_option maxHeartbeats 400000 in
/-- Work that comes to its end. -/
theorem treeTry_yes (f : FuncId) (caps : Array Value) (w : World) (R : World → Prop) (hent : ∀ W, Sem.run Tryd.prog (callFunc f caps) W = .ok (.enter f caps) W)
    (hwork : ∀ o, Calls Tryd.prog f caps (w.alloc o) fun e w' => e = .returned (.tuple #[]) ∧ R w' ∧ w'.heap[w.heap.size]? = (w.alloc o).heap[w.heap.size]?) :
    Calls Tryd.prog 27 #[.func (.func f) #[] caps] w fun e w' => e = .returned (.bool true) ∧ ∃ w1, R w1 ∧ But w.heap.size w1 w' := by
  have hmf : ∀ (fn : Fn) (first cap : Array Value) (w : World), (Instr.makeFunc fn first cap).run Tryd.prog w = .ok (.func fn first cap) w := fun _ _ _ _ => rfl
  have HW := hide hwork; clear hwork
  go_enter_defers Tryd.func27, Tryd.ntmps27
  go_wp2_with fail
  refine (unhide HW _).mono ?_
  rintro e w1 ⟨rfl, hr, hbk⟩
  obtain ⟨hc, hz⟩ := cell_new1 hbk
  have HR := hide hr
  clear hr hbk
  go_wp2_with fail
  refine leaves_cons (f := 52) (args := #[.pointer (some ⟨w.heap.size, 0, none⟩)]) (by simp) (by simp [go_sem]) ?_
  refine (try_returning ⟨w.heap.size, 0, none⟩ true _ ?_ ?_).mono ?_
  · simp [go_sem, hc]
  · simp [go_sem, hz]
  rintro e u' w'' ⟨rfl, rfl, rfl⟩
  simp [Leaves, settle, results, Tryd.results27, go_sem, hc]
  exact ⟨w1, unhide HR, (But.set w1 0 _).trans (But.set _ 0 _)⟩

set_option maxRecDepth 100000 in
set_option maxHeartbeats 400000 in
/-- Work that raises a fault. -/
theorem treeTry_no (f : FuncId) (caps : Array Value) (w : World) (R : World → Prop) (hent : ∀ W, Sem.run Tryd.prog (callFunc f caps) W = .ok (.enter f caps) W)
    (hwork : ∀ o, Calls Tryd.prog f caps (w.alloc o) fun e w' => e = fltE ∧ R w' ∧ w'.heap[w.heap.size]? = (w.alloc o).heap[w.heap.size]?) :
    Calls Tryd.prog 27 #[.func (.func f) #[] caps] w fun e w' => e = .returned (.bool false) ∧ ∃ w1, R w1 ∧ But w.heap.size w1 w' := by
  have hmf : ∀ (fn : Fn) (first cap : Array Value) (w : World), (Instr.makeFunc fn first cap).run Tryd.prog w = .ok (.func fn first cap) w := fun _ _ _ _ => rfl
  have HW := hide hwork; clear hwork
  go_enter_defers Tryd.func27, Tryd.ntmps27
  go_wp2_with fail
  refine (unhide HW _).mono ?_
  rintro e w1 ⟨rfl, hr, hbk⟩
  obtain ⟨hc, hz⟩ := cell_new1 hbk
  have HR := hide hr
  clear hr hbk
  go_wp2_with fail
  refine leaves_cons (f := 52) (args := #[.pointer (some ⟨w.heap.size, 0, none⟩)]) (by simp) (by simp [go_sem]) ?_
  refine (try_panicking ⟨w.heap.size, 0, none⟩ false 118 _ [] _ hc hz).mono ?_
  rintro e u' w'' ⟨rfl, rfl, rfl⟩
  simp [Leaves, settle, results, Tryd.results27, go_sem, hc]
  exact ⟨w1, unhide HR, But.set w1 0 _⟩
end Go.Proofs.YthkjhmcbmakkdaaDoor

/- The walk of the program's KindRead: it answers as the function progK does, in blocks of the answer's own. For texts of at most 2^20 bytes. -/

namespace Go.Proofs.YthkjhmcbmakkdaaDoor
open Go Go.RowKit

set_option maxHeartbeats 400000 in
theorem newReader_any (s : ByteArray) (w : World) :
    Calls Tryd.prog 29 #[.string s] w fun e w' => e = .returned (.pointer (some ⟨w.heap.size, 0, none⟩)) ∧ w' = w.alloc (.cells #[.string s, .int .i64 0] 97) := by
  go_enter Tryd.func29, Tryd.ntmps29
  go_wp2_with fail
  go_ret
  exact ⟨rfl, rfl⟩

/-- What a whole text comes to: a schema in blocks of its own, or a fault. -/
def KPW (o : Option Kd) (w : World) (R : Nat) (e : Ending) (w' : World) : Prop :=
  (∃ (k : Kd) (c : C3) (F : List Nat), o = some k ∧ e = .returned (.agg #[c.c0, c.c1, c.c2]) ∧ OwnD w' k c F ∧ F.Nodup ∧ (∀ b, b ∈ F → w.heap.size ≤ b ∧ b < w'.heap.size) ∧ But R w w') ∨ (o = none ∧ e = fltE ∧ But R w w')
theorem KPW.no {o : Option Kd} {w w' : World} {R : Nat} (h : o = none) (hb : But R w w') : KPW o w R fltE w' := Or.inr ⟨h, rfl, hb⟩

theorem progK_cases {s : ByteArray} (h8 : ¬ 800 < s.size) : progK s.data.toList = match krd (s.size + 7) (lf s 0) with
      | some (k, []) => if 0 < qT k 1 then some k else none
      | _ => none := by unfold progK; rw [if_neg (by rw [size_data]; exact h8), lf_zero, size_data]; rfl

set_option maxRecDepth 100000 in
set_option maxHeartbeats 3200000 in
theorem whole_any (w : World) (R : Nat) (s : ByteArray) (hs : s.size ≤ 1048576) (h : PRdr w R s 0) (hT : KTab w) (hTR : 0 ≠ R) :
    Calls Tryd.prog 30 #[.pointer (some ⟨R, 0, none⟩)] w fun e w' => KPW (progK s.data.toList) w R e w' := by
  have hlt := h.lt
  have hTlt := hT.lt
  obtain ⟨c0, c1, f1⟩ := h.cells
  by_cases h8 : 800 < s.size
  · have hY : progK s.data.toList = none := by unfold progK; rw [if_pos (by rw [size_data]; exact h8)]
    have hd : decide ((s.size : Int) ≤ 800) = false := by simp; omega
    have HY := hide hY
    clear hY h hT
    go_enter Tryd.func30, Tryd.ntmps30
    go_wp2_with (go_at_call 53; refine (treeWant_no _).mono ?_; rintro e w2 ⟨rfl, rfl⟩)
    exact And.intro rfl (KPW.no (unhide HY) (But.alloc _ _ _))
  · have hd : decide ((s.size : Int) ≤ 800) = true := by simp; omega
    have hpw := Pw.start h hT hTR
    have hkind := kind_all (s.size + 7) _ R s 0 hs hpw.rdr (Nat.zero_le _) hpw.tab hTR (by rw [lf_len]; omega)
    have hpc := progK_cases h8
    generalize hYY : progK s.data.toList = Y at *
    have HPW := hide hpw
    clear hpw h hT hYY
    cases hkr : krd (s.size + 7) (lf s 0) with
    | none =>
      rw [hkr] at hpc
      simp only at hpc
      have hk2 : Calls Tryd.prog 54 #[.pointer (some ⟨R, 0, none⟩)] (w.alloc (.cells #[.int .i64 0, .slice none 0 0, .slice none 0 0] 26)) fun e w' => e = fltE ∧ Hid (But R w w') := hkind.mono (by
        rintro e w' (⟨k, c, F, a4, hc, -⟩ | ⟨-, rfl, hb⟩)
        · rw [hkr] at hc; cases hc
        · exact ⟨rfl, (unhide HPW).but.trans hb⟩)
      have HKI := hide hk2; have HYN := hide hpc
      clear hk2 hkind hkr hpc
      go_enter Tryd.func30, Tryd.ntmps30
      go_wp2_with (first
        | (go_at_call 53; refine (treeWant_yes _).mono ?_; rintro e w2 ⟨rfl, hw⟩; have hw2 := hw.symm; subst hw2; clear hw)
        | (go_at_call 54; refine (unhide HKI).mono ?_; rintro e w3 ⟨rfl, HB3⟩))
      exact And.intro rfl (KPW.no (unhide HYN) (unhide HB3))
    | some kr =>
      obtain ⟨k, rest⟩ := kr
      have hwt := krd_wt _ _ _ _ hkr
      rw [lf_len] at hwt
      have hk2 : Calls Tryd.prog 54 #[.pointer (some ⟨R, 0, none⟩)] (w.alloc (.cells #[.int .i64 0, .slice none 0 0, .slice none 0 0] 26)) fun e w4 => ∃ (x0 : Int) (ap : Option Addr) (np cp : Nat) (aq : Option Addr) (nq cq : Nat) (F : List Nat) (a4 : Nat), e = .returned (.agg #[.int .i64 x0, .slice ap np cp, .slice aq nq cq]) ∧ Hid (OwnD w4 k ⟨.int .i64 x0, .slice ap np cp, .slice aq nq cq⟩ F) ∧ F.Nodup ∧ Hid (∀ b, b ∈ F → w.heap.size + 1 ≤ b ∧ b < w4.heap.size) ∧ Hid (Pw w R s a4 w4) ∧ a4 ≤ s.size ∧ Hid (rest = lf s a4) := hkind.mono (by
        rintro e w4 (⟨k', ⟨y0, y1, y2⟩, F, a4, hc, h4, rfl, ho, hnd, hF, hr, hb⟩ | ⟨hc, -⟩)
        · rw [hkr] at hc
          simp only [Option.some.injEq, Prod.mk.injEq] at hc
          obtain ⟨rfl, hc⟩ := hc
          obtain ⟨p0, -, F1, F2, -, ⟨ap, cp, p1, -⟩, aq, cq, p2, -⟩ := ho.open
          simp only at p0 p1 p2
          subst p0 p1 p2
          exact ⟨_, _, _, _, _, _, _, F, a4, rfl, ho, hnd, fun b hb' => by have := hF b hb'; rw [World.size_alloc] at this; exact this, (unhide HPW).next hb hr, h4, hc⟩
        · rw [hkr] at hc; cases hc)
      rw [hkr] at hpc
      have HKI := hide hk2; have HPC := hide hpc
      clear hk2 hkind hkr hpc
      cases hrest : rest with
      | cons c r =>
        have hy : Y = none := by rw [unhide HPC, hrest]
        have HYN := hide hy
        have HRR := hide hrest
        clear hy hrest
        go_enter Tryd.func30, Tryd.ntmps30
        go_wp2_with (first
          | (go_at_call 53; refine (treeWant_yes _).mono ?_; rintro e w2 ⟨rfl, hw⟩; have hw2 := hw.symm; subst hw2; clear hw)
          | (go_at_call 54; refine (unhide HKI).mono ?_; rintro e w4 ⟨x0, ap, np, cp, aq, nq, cq, F, a4, rfl, HOW, hFn, HFL, HW4, ha4, HRS⟩)
          | (go_at_call 55
             have ha5 : a4 < s.size := by
               rcases Nat.lt_or_ge a4 s.size with h | h
               · exact h
               · have := unhide HRS; rw [unhide HRR, lf_nil h] at this; cases this
             refine (end_no _ R s a4 ((unhide HW4).rdr.alloc _) ha5).mono ?_
             rintro e w5 ⟨rfl, m5, rfl⟩))
        exact And.intro rfl (KPW.no (unhide HYN) (but_drewN ((unhide HW4).but.trans (But.alloc _ _ _)) m5))
      | nil =>
        have hy : Y = if 0 < qT k 1 then some k else none := by rw [unhide HPC, hrest]
        have HRR := hide hrest; have HY := hide hy
        clear hy hrest
        cases hq : decide (0 < qT k 1)
        · have hy : Y = none := by rw [unhide HY, if_neg (of_decide_eq_false hq)]
          have HYN := hide hy; have HQ := hide hq
          clear hy hq
          go_enter Tryd.func30, Tryd.ntmps30
          go_wp2_with (first
            | (go_at_call 53; refine (treeWant_yes _).mono ?_; rintro e w2 ⟨rfl, hw⟩; have hw2 := hw.symm; subst hw2; clear hw)
            | (go_at_call 54; refine (unhide HKI).mono ?_; rintro e w4 ⟨x0, ap, np, cp, aq, nq, cq, F, a4, rfl, HOW, hFn, HFL, HW4, ha4, HRS⟩)
            | (go_at_call 55
               have ha5 : a4 = s.size := by
                 rcases Nat.lt_or_ge a4 s.size with h | h
                 · have := unhide HRS; rw [unhide HRR, lf_cons h] at this; cases this
                 · omega
               subst ha5
               refine (end_yes _ R s ((unhide HW4).rdr.alloc _)).mono ?_
               rintro e w5 ⟨rfl, m5, rfl⟩
               have hl4 := (unhide HW4).box.lt)
            | (go_at_call 8
               have hba := ((Below.refl w4.heap.size w4).alloc (Nat.le_refl _) (.cells #[.int .i64 x0, .slice ap np cp, .slice aq nq cq] 26))
               have hrep := OwnD.rep (P := fun b => b < w4.heap.size) k _ F (fun b hb => (unhide HFL b hb).2) (unhide HOW)
               have hok := implKindOk_any k (fun b => b < w4.heap.size) ⟨.int .i64 x0, .slice ap np cp, .slice aq nq cq⟩ ((w4.alloc (.cells #[.int .i64 x0, .slice ap np cp, .slice aq nq cq] 26)).drewN m5) (fun b hb => by show b < (w4.alloc _).heap.size; rw [World.size_alloc]; omega) (KRep.carry (w' := (w4.alloc (.cells #[.int .i64 x0, .slice ap np cp, .slice aq nq cq] 26)).drewN m5) (fun b hb => hba.block b hb) (fun _ h => h) _ _ hrep) (by omega)
               rw [unhide HQ] at hok
               refine hok.mono ?_
               rintro e w6 ⟨rfl, hb6⟩
               have hb46 : Below w4.heap.size w4 w6 := (show Below w4.heap.size w4 ((w4.alloc (.cells #[.int .i64 x0, .slice ap np cp, .slice aq nq cq] 26)).drewN m5) from ⟨hba.os, hba.tape, hba.output, hba.size, hba.block⟩).trans (hb6.mono (by show w4.heap.size ≤ (w4.alloc _).heap.size; rw [World.size_alloc]; omega))
               have q6 := (row3_alloc w4 (.int .i64 x0) (.slice ap np cp) (.slice aq nq cq) 26).of_block (hb6.block w4.heap.size (by show w4.heap.size < (w4.alloc _).heap.size; rw [World.size_alloc]; omega))
               have l0 := q6.cell (i := 0) (by omega); have l1 := q6.cell (i := 1) (by omega); have l2 := q6.cell (i := 2) (by omega)
               simp only [row3] at l0 l1 l2
               have hbx := (unhide HW4).box.of_block (hb46.block _ hl4)
               have r0 := hbx.cell (i := 0) (by omega); have r1 := hbx.cell (i := 1) (by omega); have r2 := hbx.cell (i := 2) (by omega)
               have z0 := hbx.frozen 0; have z1 := hbx.frozen 1; have z2 := hbx.frozen 2
               simp only [row3] at r0 r1 r2
               have HB6 := hide ((unhide HW4).but.trans (But.of_below hb46))
               have HOW6 := hide (OwnD.carry k _ F (fun b hb => hb46.block b (unhide HFL b hb).2) (unhide HOW))
               have hs6 := hb46.size
               clear hba hrep hok hb6 hb46 q6 hbx)
            | (go_at_call 53; refine (treeWant_no _).mono ?_; rintro e w7 ⟨rfl, rfl⟩))
          exact And.intro rfl (KPW.no (unhide HYN) (unhide HB6))
        · have hy : Y = some k := by rw [unhide HY, if_pos (of_decide_eq_true hq)]
          have HYS := hide hy; have HQ := hide hq
          clear hy hq
          go_enter Tryd.func30, Tryd.ntmps30
          go_wp2_with (first
            | (go_at_call 53; refine (treeWant_yes _).mono ?_; rintro e w2 ⟨rfl, hw⟩; have hw2 := hw.symm; subst hw2; clear hw)
            | (go_at_call 54; refine (unhide HKI).mono ?_; rintro e w4 ⟨x0, ap, np, cp, aq, nq, cq, F, a4, rfl, HOW, hFn, HFL, HW4, ha4, HRS⟩)
            | (go_at_call 55
               have ha5 : a4 = s.size := by
                 rcases Nat.lt_or_ge a4 s.size with h | h
                 · have := unhide HRS; rw [unhide HRR, lf_cons h] at this; cases this
                 · omega
               subst ha5
               refine (end_yes _ R s ((unhide HW4).rdr.alloc _)).mono ?_
               rintro e w5 ⟨rfl, m5, rfl⟩
               have hl4 := (unhide HW4).box.lt)
            | (go_at_call 8
               have hba := ((Below.refl w4.heap.size w4).alloc (Nat.le_refl _) (.cells #[.int .i64 x0, .slice ap np cp, .slice aq nq cq] 26))
               have hrep := OwnD.rep (P := fun b => b < w4.heap.size) k _ F (fun b hb => (unhide HFL b hb).2) (unhide HOW)
               have hok := implKindOk_any k (fun b => b < w4.heap.size) ⟨.int .i64 x0, .slice ap np cp, .slice aq nq cq⟩ ((w4.alloc (.cells #[.int .i64 x0, .slice ap np cp, .slice aq nq cq] 26)).drewN m5) (fun b hb => by show b < (w4.alloc _).heap.size; rw [World.size_alloc]; omega) (KRep.carry (w' := (w4.alloc (.cells #[.int .i64 x0, .slice ap np cp, .slice aq nq cq] 26)).drewN m5) (fun b hb => hba.block b hb) (fun _ h => h) _ _ hrep) (by omega)
               rw [unhide HQ] at hok
               refine hok.mono ?_
               rintro e w6 ⟨rfl, hb6⟩
               have hb46 : Below w4.heap.size w4 w6 := (show Below w4.heap.size w4 ((w4.alloc (.cells #[.int .i64 x0, .slice ap np cp, .slice aq nq cq] 26)).drewN m5) from ⟨hba.os, hba.tape, hba.output, hba.size, hba.block⟩).trans (hb6.mono (by show w4.heap.size ≤ (w4.alloc _).heap.size; rw [World.size_alloc]; omega))
               have q6 := (row3_alloc w4 (.int .i64 x0) (.slice ap np cp) (.slice aq nq cq) 26).of_block (hb6.block w4.heap.size (by show w4.heap.size < (w4.alloc _).heap.size; rw [World.size_alloc]; omega))
               have l0 := q6.cell (i := 0) (by omega); have l1 := q6.cell (i := 1) (by omega); have l2 := q6.cell (i := 2) (by omega)
               simp only [row3] at l0 l1 l2
               have hbx := (unhide HW4).box.of_block (hb46.block _ hl4)
               have r0 := hbx.cell (i := 0) (by omega); have r1 := hbx.cell (i := 1) (by omega); have r2 := hbx.cell (i := 2) (by omega)
               have z0 := hbx.frozen 0; have z1 := hbx.frozen 1; have z2 := hbx.frozen 2
               simp only [row3] at r0 r1 r2
               have HB6 := hide ((unhide HW4).but.trans (But.of_below hb46))
               have HOW6 := hide (OwnD.carry k _ F (fun b hb => hb46.block b (unhide HFL b hb).2) (unhide HOW))
               have hs6 := hb46.size
               clear hba hrep hok hb6 hb46 q6 hbx))
          refine bodyPost_ret (v := .agg #[.int .i64 x0, .slice ap np cp, .slice aq nq cq]) (by simp [results, Tryd.results30, go_sem, r0, r1, r2]) rfl ?_
          refine Or.inl ⟨k, ⟨_, _, _⟩, F, unhide HYS, rfl, OwnD.carry k _ F (fun b hb => set3_heap w6 w.heap.size ⟨_, _, _⟩ b (by have := (unhide HFL b hb).1; omega)) (unhide HOW6), hFn, fun b hb => ?_, ?_⟩
          · have h2 := set3_size w6 w.heap.size ⟨.int .i64 x0, .slice ap np cp, .slice aq nq cq⟩
            unfold set3 at h2
            simp only at h2
            rw [h2]
            have := unhide HFL b hb
            omega
          · have hb6 := unhide HB6
            exact ⟨hb6.os, hb6.tape, hb6.output, by have h2 := set3_size w6 w.heap.size ⟨.int .i64 x0, .slice ap np cp, .slice aq nq cq⟩; unfold set3 at h2; simp only at h2; rw [h2]; exact hb6.size, fun i hi hne => (set3_heap w6 w.heap.size ⟨.int .i64 x0, .slice ap np cp, .slice aq nq cq⟩ i (by omega)).trans (hb6.block i hi hne)⟩
end Go.Proofs.YthkjhmcbmakkdaaDoor
