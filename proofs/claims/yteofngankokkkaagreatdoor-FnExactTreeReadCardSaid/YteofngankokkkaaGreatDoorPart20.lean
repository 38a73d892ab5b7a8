/- The walks of the program's treeTry and its deferred function: whatever work it is handed, it answers whether that came to its end. No conditions. -/
import Derived.Test.YteofngankokkkaaGreatDoorPart03
import Derived.Test.YteofngankokkkaaGreatDoorPart01
import Derived.WideLaws
namespace Go.Proofs.YteofngankokkkaaGreatDoor
open Go Go.RowKit

set_option maxHeartbeats 400000 in
theorem try_panicking (p : Addr) (x : Bool) (u : TypeId) (pv : Value) (older : List PanicEntry) (w : World) (hc : w.cell? p = some (.bool x)) (hz : w.frozen? p = false) :
    CallsD Tryz.prog 30 #[.pointer (some p)] (.panicking ({ v := .iface u pv, recovered := false } :: older)) w fun e u' w' =>
      e = .returned (.tuple #[]) ∧ u' = .panicking ({ v := .iface u pv, recovered := true } :: older) ∧ w' = w.setCell p (.bool false) := by
  refine callsD_of_wpS Tryz.func30 rfl fun c₀ cs hu => ?_
  apply wpS_region
  simp [wpOpsS, go_sem, recoverD, hu, Tryz.ntmps30, hc, hz, bodyPostS, results, Tryz.results30]

set_option maxHeartbeats 400000 in
theorem try_returning (p : Addr) (x : Bool) (w : World) (hc : w.cell? p = some (.bool x)) (hz : w.frozen? p = false) :
    CallsD Tryz.prog 30 #[.pointer (some p)] .returning w fun e u' w' => e = .returned (.tuple #[]) ∧ u' = .returning ∧ w' = w.setCell p (.bool true) := by
  refine callsD_of_wpS Tryz.func30 rfl fun c₀ cs hu => ?_
  apply wpS_region
  simp [wpOpsS, go_sem, recoverD, hu, Tryz.ntmps30, hc, hz, bodyPostS, results, Tryz.results30]
  cases c₀
  simp_all

theorem cell_new1 {w w' : World} {x : Value} {t : TypeId} (h : w'.heap[w.heap.size]? = (w.alloc (.cells #[x] t)).heap[w.heap.size]?) : w'.cell? ⟨w.heap.size, 0, none⟩ = some x ∧ w'.frozen? ⟨w.heap.size, 0, none⟩ = false := by
  rw [World.cell?_of_block (a := ⟨w.heap.size, 0, none⟩) h, World.frozen?_of_block (a := ⟨w.heap.size, 0, none⟩) h]
  exact ⟨by simp [go_sem], by simp [go_sem]⟩

set_option maxRecDepth 100000 in
set_option maxHeartbeats 400000 in
/-- Work that comes to its end. -/
theorem treeTry_yes (f : FuncId) (caps : Array Value) (w : World) (R : World → Prop) (hent : ∀ W, Sem.run Tryz.prog (callFunc f caps) W = .ok (.enter f caps) W)
    (hwork : ∀ o, Calls Tryz.prog f caps (w.alloc o) fun e w' => e = .returned (.tuple #[]) ∧ R w' ∧ w'.heap[w.heap.size]? = (w.alloc o).heap[w.heap.size]?) :
    Calls Tryz.prog 12 #[.func (.func f) #[] caps] w fun e w' => e = .returned (.bool true) ∧ ∃ w1, R w1 ∧ But w.heap.size w1 w' := by
  have hmf : ∀ (fn : Fn) (first cap : Array Value) (w : World), (Instr.makeFunc fn first cap).run Tryz.prog w = .ok (.func fn first cap) w := fun _ _ _ _ => rfl
  have HW := hide hwork; clear hwork
  go_enter_defers Tryz.func12, Tryz.ntmps12
  go_wp2_with fail
  refine (unhide HW _).mono ?_
  rintro e w1 ⟨rfl, hr, hbk⟩
  obtain ⟨hc, hz⟩ := cell_new1 hbk
  have HR := hide hr
  clear hr hbk
  go_wp2_with fail
  refine leaves_cons (f := 30) (args := #[.pointer (some ⟨w.heap.size, 0, none⟩)]) (by simp) (by simp [go_sem]) ?_
  refine (try_returning ⟨w.heap.size, 0, none⟩ true _ ?_ ?_).mono ?_
  · simp [go_sem, hc]
  · simp [go_sem, hz]
  rintro e u' w'' ⟨rfl, rfl, rfl⟩
  simp [Leaves, settle, results, Tryz.results12, go_sem, hc]
  exact ⟨w1, unhide HR, (But.set w1 0 _).trans (But.set _ 0 _)⟩

set_option maxRecDepth 100000 in
set_option maxHeartbeats 400000 in
/-- Work that raises a fault. -/
theorem treeTry_no (f : FuncId) (caps : Array Value) (w : World) (R : World → Prop) (hent : ∀ W, Sem.run Tryz.prog (callFunc f caps) W = .ok (.enter f caps) W)
    (hwork : ∀ o, Calls Tryz.prog f caps (w.alloc o) fun e w' => e = fltE ∧ R w' ∧ w'.heap[w.heap.size]? = (w.alloc o).heap[w.heap.size]?) :
    Calls Tryz.prog 12 #[.func (.func f) #[] caps] w fun e w' => e = .returned (.bool false) ∧ ∃ w1, R w1 ∧ But w.heap.size w1 w' := by
  have hmf : ∀ (fn : Fn) (first cap : Array Value) (w : World), (Instr.makeFunc fn first cap).run Tryz.prog w = .ok (.func fn first cap) w := fun _ _ _ _ => rfl
  have HW := hide hwork; clear hwork
  go_enter_defers Tryz.func12, Tryz.ntmps12
  go_wp2_with fail
  refine (unhide HW _).mono ?_
  rintro e w1 ⟨rfl, hr, hbk⟩
  obtain ⟨hc, hz⟩ := cell_new1 hbk
  have HR := hide hr
  clear hr hbk
  go_wp2_with fail
  refine leaves_cons (f := 30) (args := #[.pointer (some ⟨w.heap.size, 0, none⟩)]) (by simp) (by simp [go_sem]) ?_
  refine (try_panicking ⟨w.heap.size, 0, none⟩ false 83 _ [] _ hc hz).mono ?_
  rintro e u' w'' ⟨rfl, rfl, rfl⟩
  simp [Leaves, settle, results, Tryz.results12, go_sem, hc]
  exact ⟨w1, unhide HR, But.set w1 0 _⟩
end Go.Proofs.YteofngankokkkaaGreatDoor
