/- The walks of the program's doneJob and its deferred function. No conditions. -/
import Derived.Test.YtchlbncncipecaaWTdP
import Derived.Test.YtchlbncncipecaaDead
import Derived.WideLaws
namespace Go.Proofs.Ytchlbncncipecaa
open Go Go.RowKit

set_option maxHeartbeats 3200000 in
theorem done_panicking (p q : Nat) (at' b : Int) (x0 x1 x2 : Value) (older : List PanicEntry) (w : World) (hp : w.rowIs p 3 1 (fun _ => .int .i64 at')) (hq : w.rowIs q 114 3 (row3 x0 x1 x2)) :
    CallsD Try.prog 101 #[.pointer (some ⟨p, 0, none⟩), .pointer (some ⟨q, 0, none⟩)] (.panicking ({ v := .iface 123 (.agg #[.int .i64 b]), recovered := false } :: older)) w fun e u' w' =>
      e = .returned (.tuple #[]) ∧ u' = .panicking ({ v := .iface 123 (.agg #[.int .i64 b]), recovered := true } :: older) ∧ w' = (((w.alloc (.cells #[.int .i64 b] 123)).setCell ⟨q, 0, none⟩ (.int .i64 at')).setCell ⟨q, 1, none⟩ (.slice none 0 0)).setCell ⟨q, 2, none⟩ (.int .i64 b) := by
  have hta : ∀ W, Sem.run Try.prog (Instr.typeAssert (.iface 123 (.agg #[.int .i64 b])) 20 123 true) W = .ok (.tuple #[.agg #[.int .i64 b], .bool true]) W := fun W => by kernel_rfl
  have hpa := fun o => (hp.alloc o).cell (i := 0) (by omega)
  have hqa := fun o => hq.alloc o
  have c0 := fun o => (hqa o).cell (i := 0) (by omega); have c1 := fun o => (hqa o).cell (i := 1) (by omega); have c2 := fun o => (hqa o).cell (i := 2) (by omega)
  have z := fun o => (hqa o).frozen
  simp only [row3] at c0 c1 c2
  refine callsD_of_wpS Try.func101 rfl fun c₀ cs hu => ?_
  apply wpS_seq
  apply wpS_region
  simp [wpOpsS, go_sem, recoverD, hu, Try.ntmps101, hta, Exit.thenS]
  apply wpS_seq
  apply wpS_region
  simp [wpOpsS, go_sem, Exit.thenS]
  refine wpS_cond (t := true) (by simp [Act.eval, Array.replicate]) ?_
  simp only [if_true]
  apply wpS_region
  simp [wpOpsS, go_sem, bodyPostS, results, Try.results101, hpa, c0, c1, c2, z]

set_option maxHeartbeats 1600000 in
theorem done_returning (p q : Addr) (w : World) :
    CallsD Try.prog 101 #[.pointer (some p), .pointer (some q)] .returning w fun e u' w' => e = .returned (.tuple #[]) ∧ u' = .returning ∧ w' = w.alloc (.cells #[.int .i64 0] 123) := by
  have hta : ∀ W, Sem.run Try.prog (Instr.typeAssert .nilIface 20 123 true) W = .ok (.tuple #[.agg #[.int .i64 0], .bool false]) W := fun W => by kernel_rfl
  refine callsD_of_wpS Try.func101 rfl fun c₀ cs hu => ?_
  apply wpS_seq
  apply wpS_region
  simp [wpOpsS, go_sem, recoverD, hu, Try.ntmps101, hta, Exit.thenS]
  apply wpS_seq
  apply wpS_region
  simp [wpOpsS, go_sem, Exit.thenS]
  refine wpS_cond (t := false) (by simp [Act.eval, Array.replicate]) ?_
  simp only [Bool.false_eq_true, if_false]
  refine wpS_of_wp (wp_skip ?_)
  cases c₀
  simp_all [bodyPostS, results, Try.results101]

theorem three_below {w0 w : World} {n : Nat} (h : Below n w0 w) {B : Nat} (hB : n ≤ B) (a b c : Value) : Below n w0 (((w.setCell ⟨B, 0, none⟩ a).setCell ⟨B, 1, none⟩ b).setCell ⟨B, 2, none⟩ c) :=
  ((h.setCell hB _).setCell hB _).setCell hB _

set_option maxRecDepth 100000 in
set_option maxHeartbeats 3200000 in
theorem doneJob_yes (at' : Int) (a : Option Addr) (n c : Nat) (w : World) :
    Calls Try.prog 88 #[.int .i64 at', .agg #[.slice a n c, .int .i64 0]] w fun e w' => e = .returned (.agg #[.int .i64 at', .slice a n c, .int .i64 0]) ∧ Below w.heap.size w w' := by
  have hmf : ∀ (fn : Fn) (first cap : Array Value) (w : World), (Instr.makeFunc fn first cap).run Try.prog w = .ok (.func fn first cap) w := fun _ _ _ _ => rfl
  have HIT := hide (fun W => itemsOf_yes a n c W)
  have HB3 := hide (fun o0 o1 o2 => ((((Below.refl _ _).alloc (Nat.le_refl _) o0).alloc (by simp) o1).alloc (by simp; omega) o2 : Below w.heap.size w (((w.alloc o0).alloc o1).alloc o2)))
  have HR := hide (fun o0 o1 => (show (((w.alloc o0).alloc o1).alloc (.cells #[.int .i64 0, .slice none 0 0, .int .i64 0] 114)).rowIs (w.heap.size + 1 + 1) 114 3 (row3 (.int .i64 0) (.slice none 0 0) (.int .i64 0)) from by
    have := row3_alloc ((w.alloc o0).alloc o1) (.int .i64 0) (.slice none 0 0) (.int .i64 0) 114
    rw [World.size_alloc, World.size_alloc] at this; exact this))
  have HA := hide (fun o1 o2 => (show (((w.alloc (.cells #[.int .i64 at'] 3)).alloc o1).alloc o2).cell? ⟨w.heap.size, 0, none⟩ = some (.int .i64 at') from by simp [go_sem]))
  go_enter_defers Try.func88, Try.ntmps88
  go_wp2_with fail
  refine wp_region_any (by kernel_rfl) ?_
  change wpAny _ _ _ _ _ _ _ (World.drew _)
  refine wpAny_ready (rs := [0, 1]) (by kernel_rfl) (by simp) ?_
  refine AllReady.cons rfl (fun K hK => ?_) (AllReady.cons rfl (fun K hK => ?_) AllReady.nil)
  · go_simp
    refine hK _ _ ?_; clear hK K
    refine wpAny_ready (rs := [1]) (by kernel_rfl) (by simp) ?_
    refine AllReady.cons rfl (fun K hK => ?_) AllReady.nil
    go_simp
    refine hK _ _ ?_; clear hK K
    refine wpAny_ready (rs := [2]) (by kernel_rfl) (by simp) ?_
    refine AllReady.cons rfl (fun K hK => ?_) AllReady.nil
    go_simp
    refine (unhide HIT _).mono ?_
    rintro e w1 ⟨rfl, hb1⟩
    have hq := (unhide HR _ _).of_block (hb1.block (w.heap.size + 1 + 1) (by simp))
    have a1 : w1.cell? ⟨w.heap.size, 0, none⟩ = some (.int .i64 at') := by rw [hb1.cell (by simp; omega)]; exact unhide HA _ _
    have c0 := hq.cell (i := 0) (by omega)
    have c1 := hq.cell (i := 1) (by omega)
    have c2 := hq.cell (i := 2) (by omega)
    have z := hq.frozen
    simp only [row3] at c0 c1 c2
    have HS := hide (And.intro hq.lt ((unhide HB3 _ _ _).trans (Below.mono (show Below _ _ w1 from ⟨hb1.os, hb1.tape, hb1.output, hb1.size, hb1.block⟩) (unhide HB3 _ _ _).size)))
    clear hq hb1
    refine hK _ _ ?_; clear hK K
    refine wpAny_ready (rs := [3]) (by kernel_rfl) (by simp) ?_
    refine AllReady.cons rfl (fun K hK => ?_) AllReady.nil
    go_simp
    refine hK _ _ ?_; clear hK K
    refine wpAny_ready (rs := [4]) (by kernel_rfl) (by simp) ?_
    refine AllReady.cons rfl (fun K hK => ?_) AllReady.nil
    go_simp
    refine hK _ _ ?_; clear hK K
    refine wpAny_done (by kernel_rfl) ?_ _
    go_wp2_with fail
    refine leaves_cons (f := 101) (args := #[.pointer (some ⟨w.heap.size, 0, none⟩), .pointer (some ⟨w.heap.size + 1 + 1, 0, none⟩)]) (by simp) (by simp [go_sem]) ?_
    refine (done_returning ⟨w.heap.size, 0, none⟩ ⟨w.heap.size + 1 + 1, 0, none⟩ _).mono ?_
    rintro e u' w'' ⟨rfl, rfl, rfl⟩
    have hlt := (unhide HS).1
    simp [Leaves, settle, results, Try.results88, go_sem, hlt, c0, c1, c2]
    exact (three_below (B := w.heap.size + 1 + 1) (unhide HS).2 (by omega) _ _ _).alloc (by have := (unhide HS).2.size; simp; omega) _
  · go_simp
    refine hK _ _ ?_; clear hK K
    refine wpAny_ready (rs := [0, 2]) (by kernel_rfl) (by simp) ?_
    refine AllReady.cons rfl (fun K hK => ?_) (AllReady.cons rfl (fun K hK => ?_) AllReady.nil)
    · go_simp
      refine hK _ _ ?_; clear hK K
      refine wpAny_ready (rs := [2]) (by kernel_rfl) (by simp) ?_
      refine AllReady.cons rfl (fun K hK => ?_) AllReady.nil
      go_simp
      refine (unhide HIT _).mono ?_
      rintro e w1 ⟨rfl, hb1⟩
      have hq := (unhide HR _ _).of_block (hb1.block (w.heap.size + 1 + 1) (by simp))
      have a1 : w1.cell? ⟨w.heap.size, 0, none⟩ = some (.int .i64 at') := by rw [hb1.cell (by simp; omega)]; exact unhide HA _ _
      have c0 := hq.cell (i := 0) (by omega)
      have c1 := hq.cell (i := 1) (by omega)
      have c2 := hq.cell (i := 2) (by omega)
      have z := hq.frozen
      simp only [row3] at c0 c1 c2
      have HS := hide (And.intro hq.lt ((unhide HB3 _ _ _).trans (Below.mono (show Below _ _ w1 from ⟨hb1.os, hb1.tape, hb1.output, hb1.size, hb1.block⟩) (unhide HB3 _ _ _).size)))
      clear hq hb1
      refine hK _ _ ?_; clear hK K
      refine wpAny_ready (rs := [3]) (by kernel_rfl) (by simp) ?_
      refine AllReady.cons rfl (fun K hK => ?_) AllReady.nil
      go_simp
      refine hK _ _ ?_; clear hK K
      refine wpAny_ready (rs := [4]) (by kernel_rfl) (by simp) ?_
      refine AllReady.cons rfl (fun K hK => ?_) AllReady.nil
      go_simp
      refine hK _ _ ?_; clear hK K
      refine wpAny_done (by kernel_rfl) ?_ _
      go_wp2_with fail
      refine leaves_cons (f := 101) (args := #[.pointer (some ⟨w.heap.size, 0, none⟩), .pointer (some ⟨w.heap.size + 1 + 1, 0, none⟩)]) (by simp) (by simp [go_sem]) ?_
      refine (done_returning ⟨w.heap.size, 0, none⟩ ⟨w.heap.size + 1 + 1, 0, none⟩ _).mono ?_
      rintro e u' w'' ⟨rfl, rfl, rfl⟩
      have hlt := (unhide HS).1
      simp [Leaves, settle, results, Try.results88, go_sem, hlt, c0, c1, c2]
      exact (three_below (B := w.heap.size + 1 + 1) (unhide HS).2 (by omega) _ _ _).alloc (by have := (unhide HS).2.size; simp; omega) _
    · go_simp
      refine (unhide HIT _).mono ?_
      rintro e w1 ⟨rfl, hb1⟩
      have hq := (unhide HR _ _).of_block (hb1.block (w.heap.size + 1 + 1) (by simp))
      have a1 : w1.cell? ⟨w.heap.size, 0, none⟩ = some (.int .i64 at') := by rw [hb1.cell (by simp; omega)]; exact unhide HA _ _
      have c0 := hq.cell (i := 0) (by omega)
      have c1 := hq.cell (i := 1) (by omega)
      have c2 := hq.cell (i := 2) (by omega)
      have z := hq.frozen
      simp only [row3] at c0 c1 c2
      have HS := hide (And.intro hq.lt ((unhide HB3 _ _ _).trans (Below.mono (show Below _ _ w1 from ⟨hb1.os, hb1.tape, hb1.output, hb1.size, hb1.block⟩) (unhide HB3 _ _ _).size)))
      clear hq hb1
      refine hK _ _ ?_; clear hK K
      refine wpAny_ready (rs := [0]) (by kernel_rfl) (by simp) ?_
      refine AllReady.cons rfl (fun K hK => ?_) AllReady.nil
      go_simp
      refine hK _ _ ?_; clear hK K
      refine wpAny_ready (rs := [3]) (by kernel_rfl) (by simp) ?_
      refine AllReady.cons rfl (fun K hK => ?_) AllReady.nil
      go_simp
      refine hK _ _ ?_; clear hK K
      refine wpAny_ready (rs := [4]) (by kernel_rfl) (by simp) ?_
      refine AllReady.cons rfl (fun K hK => ?_) AllReady.nil
      go_simp
      refine hK _ _ ?_; clear hK K
      refine wpAny_done (by kernel_rfl) ?_ _
      go_wp2_with fail
      refine leaves_cons (f := 101) (args := #[.pointer (some ⟨w.heap.size, 0, none⟩), .pointer (some ⟨w.heap.size + 1 + 1, 0, none⟩)]) (by simp) (by simp [go_sem]) ?_
      refine (done_returning ⟨w.heap.size, 0, none⟩ ⟨w.heap.size + 1 + 1, 0, none⟩ _).mono ?_
      rintro e u' w'' ⟨rfl, rfl, rfl⟩
      have hlt := (unhide HS).1
      simp [Leaves, settle, results, Try.results88, go_sem, hlt, c0, c1, c2]
      exact (three_below (B := w.heap.size + 1 + 1) (unhide HS).2 (by omega) _ _ _).alloc (by have := (unhide HS).2.size; simp; omega) _

set_option maxRecDepth 100000 in
set_option maxHeartbeats 3200000 in
theorem doneJob_no (at' b : Int) (hb : b ≠ 0) (a : Option Addr) (n c : Nat) (w : World) :
    Calls Try.prog 88 #[.int .i64 at', .agg #[.slice a n c, .int .i64 b]] w fun e w' => e = .returned (.agg #[.int .i64 at', .slice none 0 0, .int .i64 b]) ∧ Below w.heap.size w w' := by
  have hmf : ∀ (fn : Fn) (first cap : Array Value) (w : World), (Instr.makeFunc fn first cap).run Try.prog w = .ok (.func fn first cap) w := fun _ _ _ _ => rfl
  have HIN := hide (fun W => itemsOf_no a n c b hb W)
  have HB3 := hide (fun o0 o1 o2 => ((((Below.refl _ _).alloc (Nat.le_refl _) o0).alloc (by simp) o1).alloc (by simp; omega) o2 : Below w.heap.size w (((w.alloc o0).alloc o1).alloc o2)))
  have HR := hide (fun o0 o1 => (show (((w.alloc o0).alloc o1).alloc (.cells #[.int .i64 0, .slice none 0 0, .int .i64 0] 114)).rowIs (w.heap.size + 1 + 1) 114 3 (row3 (.int .i64 0) (.slice none 0 0) (.int .i64 0)) from by
    have := row3_alloc ((w.alloc o0).alloc o1) (.int .i64 0) (.slice none 0 0) (.int .i64 0) 114
    rw [World.size_alloc, World.size_alloc] at this; exact this))
  have HP1 := hide (fun o1 o2 => (((World.rowIs_alloc w #[.int .i64 at'] 3 (fun _ => .int .i64 at') (fun i hi => by
    have hi' : i < 1 := hi
    match i, hi' with
    | 0, _ => rfl)).alloc o1).alloc o2 : (((w.alloc (.cells #[.int .i64 at'] 3)).alloc o1).alloc o2).rowIs w.heap.size 3 1 (fun _ => .int .i64 at')))
  clear hb
  go_enter_defers Try.func88, Try.ntmps88
  go_wp2_with fail
  refine wp_region_any (by kernel_rfl) ?_
  change wpAny _ _ _ _ _ _ _ (World.drew _)
  refine wpAny_ready (rs := [0, 1]) (by kernel_rfl) (by simp) ?_
  refine AllReady.cons rfl (fun K hK => ?_) (AllReady.cons rfl (fun K hK => ?_) AllReady.nil)
  · go_simp
    refine hK _ _ ?_; clear hK K
    refine wpAny_ready (rs := [1]) (by kernel_rfl) (by simp) ?_
    refine AllReady.cons rfl (fun K hK => ?_) AllReady.nil
    go_simp
    refine hK _ _ ?_; clear hK K
    refine wpAny_ready (rs := [2]) (by kernel_rfl) (by simp) ?_
    refine AllReady.cons rfl (fun K hK => ?_) AllReady.nil
    go_simp
    refine (unhide HIN _).mono ?_
    rintro e w1 ⟨rfl, hb1⟩
    have hq := (unhide HR _ _).of_block (hb1.block (w.heap.size + 1 + 1) (by simp))
    have hp := (unhide HP1 _ _).of_block (hb1.block w.heap.size (by simp; omega))
    have HS := hide (And.intro hq.lt ((unhide HB3 _ _ _).trans (Below.mono (show Below _ _ w1 from ⟨hb1.os, hb1.tape, hb1.output, hb1.size, hb1.block⟩) (unhide HB3 _ _ _).size)))
    refine leaves_cons (f := 101) (args := #[.pointer (some ⟨w.heap.size, 0, none⟩), .pointer (some ⟨w.heap.size + 1 + 1, 0, none⟩)]) (by simp) (by simp [go_sem]) ?_
    refine (done_panicking w.heap.size (w.heap.size + 1 + 1) at' b _ _ _ [] _ hp hq).mono ?_
    rintro e u' w'' ⟨rfl, rfl, rfl⟩
    have hlt := (unhide HS).1
    have c0 := hq.cell (i := 0) (by omega)
    have c1 := hq.cell (i := 1) (by omega)
    have c2 := hq.cell (i := 2) (by omega)
    simp only [row3] at c0 c1 c2
    simp [Leaves, settle, results, Try.results88, go_sem, hlt, c0, c1, c2]
    exact (three_below (B := w.heap.size + 1 + 1) (unhide HS).2 (by omega) _ _ _).alloc (by have := (unhide HS).2.size; simp; omega) _
  · go_simp
    refine hK _ _ ?_; clear hK K
    refine wpAny_ready (rs := [0, 2]) (by kernel_rfl) (by simp) ?_
    refine AllReady.cons rfl (fun K hK => ?_) (AllReady.cons rfl (fun K hK => ?_) AllReady.nil)
    · go_simp
      refine hK _ _ ?_; clear hK K
      refine wpAny_ready (rs := [2]) (by kernel_rfl) (by simp) ?_
      refine AllReady.cons rfl (fun K hK => ?_) AllReady.nil
      go_simp
      refine (unhide HIN _).mono ?_
      rintro e w1 ⟨rfl, hb1⟩
      have hq := (unhide HR _ _).of_block (hb1.block (w.heap.size + 1 + 1) (by simp))
      have hp := (unhide HP1 _ _).of_block (hb1.block w.heap.size (by simp; omega))
      have HS := hide (And.intro hq.lt ((unhide HB3 _ _ _).trans (Below.mono (show Below _ _ w1 from ⟨hb1.os, hb1.tape, hb1.output, hb1.size, hb1.block⟩) (unhide HB3 _ _ _).size)))
      refine leaves_cons (f := 101) (args := #[.pointer (some ⟨w.heap.size, 0, none⟩), .pointer (some ⟨w.heap.size + 1 + 1, 0, none⟩)]) (by simp) (by simp [go_sem]) ?_
      refine (done_panicking w.heap.size (w.heap.size + 1 + 1) at' b _ _ _ [] _ hp hq).mono ?_
      rintro e u' w'' ⟨rfl, rfl, rfl⟩
      have hlt := (unhide HS).1
      have c0 := hq.cell (i := 0) (by omega)
      have c1 := hq.cell (i := 1) (by omega)
      have c2 := hq.cell (i := 2) (by omega)
      simp only [row3] at c0 c1 c2
      simp [Leaves, settle, results, Try.results88, go_sem, hlt, c0, c1, c2]
      exact (three_below (B := w.heap.size + 1 + 1) (unhide HS).2 (by omega) _ _ _).alloc (by have := (unhide HS).2.size; simp; omega) _
    · go_simp
      refine (unhide HIN _).mono ?_
      rintro e w1 ⟨rfl, hb1⟩
      have hq := (unhide HR _ _).of_block (hb1.block (w.heap.size + 1 + 1) (by simp))
      have hp := (unhide HP1 _ _).of_block (hb1.block w.heap.size (by simp; omega))
      have HS := hide (And.intro hq.lt ((unhide HB3 _ _ _).trans (Below.mono (show Below _ _ w1 from ⟨hb1.os, hb1.tape, hb1.output, hb1.size, hb1.block⟩) (unhide HB3 _ _ _).size)))
      refine leaves_cons (f := 101) (args := #[.pointer (some ⟨w.heap.size, 0, none⟩), .pointer (some ⟨w.heap.size + 1 + 1, 0, none⟩)]) (by simp) (by simp [go_sem]) ?_
      refine (done_panicking w.heap.size (w.heap.size + 1 + 1) at' b _ _ _ [] _ hp hq).mono ?_
      rintro e u' w'' ⟨rfl, rfl, rfl⟩
      have hlt := (unhide HS).1
      have c0 := hq.cell (i := 0) (by omega)
      have c1 := hq.cell (i := 1) (by omega)
      have c2 := hq.cell (i := 2) (by omega)
      simp only [row3] at c0 c1 c2
      simp [Leaves, settle, results, Try.results88, go_sem, hlt, c0, c1, c2]
      exact (three_below (B := w.heap.size + 1 + 1) (unhide HS).2 (by omega) _ _ _).alloc (by have := (unhide HS).2.size; simp; omega) _
end Go.Proofs.Ytchlbncncipecaa
