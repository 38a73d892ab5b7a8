/- The walk of the program's newTreeReader. No conditions. -/
import Derived.Test.YtgamonfmgngilaaGreatDoorPart12
import Derived.Laws.EntriesVeiled
import Derived.Test.YtgamonfmgngilaaGreatDoorPart14
namespace Go.Proofs.YtgamonfmgngilaaGreatDoor
open Go Go.RowKit

theorem zeroTR : Tryz.zeroCells102 = #[.int .i64 0, .int .i64 0, .string ByteArray.empty, .int .i64 0] ++ Array.replicate 256 .nilFunc := by kernel_rfl

/-- The cells of a reader without methods. -/
def f0 (s : ByteArray) (i : Nat) : Value := if i = 2 then .string s else if i < 4 then .int .i64 0 else .nilFunc

theorem row0 (w : World) (s : ByteArray) : (w.alloc (.cells ((Tryz.zeroCells102.setIfInBounds 2 (.string s)).setIfInBounds 3 (.int .i64 0)) 102)).rowIs w.heap.size 102 260 (f0 s) := by
  have h := World.rowIs_alloc w ((Tryz.zeroCells102.setIfInBounds 2 (.string s)).setIfInBounds 3 (.int .i64 0)) 102 (f0 s) (fun i hi => by
    rw [zeroTR] at hi ⊢
    simp only [Array.size_setIfInBounds, Array.size_append, Array.size_replicate] at hi
    rw [Array.getElem?_setIfInBounds, Array.getElem?_setIfInBounds]
    have hsz : (#[Value.int .i64 0, .int .i64 0, .string ByteArray.empty, .int .i64 0] : Array Value).size = 4 := rfl
    rw [hsz] at hi
    by_cases h3 : 3 = i
    · subst h3; simp [f0]
    · rw [if_neg h3]
      by_cases h2 : 2 = i
      · subst h2; simp [f0]
      · rw [if_neg h2]
        by_cases h4 : i < 4
        · have hi2 : i = 0 ∨ i = 1 := by omega
          rcases hi2 with rfl | rfl <;> simp [f0]
        · rw [Array.getElem?_append_right (by rw [hsz]; omega), hsz]
          simp only [f0]
          rw [if_neg (by omega), if_neg h4, Array.getElem?_replicate, if_pos (by omega)])
  have e : ((Tryz.zeroCells102.setIfInBounds 2 (.string s)).setIfInBounds 3 (.int .i64 0)).size = 260 := by
    rw [Array.size_setIfInBounds, Array.size_setIfInBounds, zeroTR]; simp
  rw [e] at h
  exact h

theorem TR.of_row {W : World} {N : Nat} {s : ByteArray} {a : Nat} {p l : Int} {f : Nat → Value} (h : W.rowIs N 102 260 f) (h0 : f 0 = .int .i64 p) (h1 : f 1 = .int .i64 l) (h2 : f 2 = .string s) (h3 : f 3 = .int .i64 a) (h4 : ∀ i, i < 256 → f (4 + i) = srt N i) : TR W N s a p l :=
  ⟨⟨by rw [h.cell (by omega), h0], by rw [h.cell (by omega), h1], h.frozen 0, h.frozen 1⟩, ⟨by rw [h.cell (by omega), h2], by rw [h.cell (by omega), h3], h.frozen 3⟩, fun i hi => by rw [h.cell (by omega), h4 i hi]⟩

/-- The row behind the last store. -/
theorem row_end {W : World} {N : Nat} {s : ByteArray} (h : W.rowIs N 102 260 (fun j => if 52 ≤ j ∧ j < 4 + 58 then .func (.func 59) #[.pointer (some ⟨N, 0, none⟩)] #[] else f0 s j)) :
    TR ((((((((W.setCell ⟨N, 49, none⟩ (.func (.func 59) #[.pointer (some ⟨N, 0, none⟩)] #[])).setCell ⟨N, 38, none⟩ (.func (.func 60) #[.pointer (some ⟨N, 0, none⟩)] #[])).setCell ⟨N, 125, none⟩ (.func (.func 61) #[.pointer (some ⟨N, 0, none⟩)] #[])).setCell ⟨N, 114, none⟩ (.func (.func 61) #[.pointer (some ⟨N, 0, none⟩)] #[])).setCell ⟨N, 95, none⟩ (.func (.func 62) #[.pointer (some ⟨N, 0, none⟩)] #[])).setCell ⟨N, 127, none⟩ (.func (.func 63) #[.pointer (some ⟨N, 0, none⟩)] #[])).setCell ⟨N, 130, none⟩ (.func (.func 64) #[.pointer (some ⟨N, 0, none⟩)] #[])).setCell ⟨N, 67, none⟩ (.func (.func 64) #[.pointer (some ⟨N, 0, none⟩)] #[])) N s 0 0 0 := by
  have h8 := ((((((((h.set 49 (.func (.func 59) #[.pointer (some ⟨N, 0, none⟩)] #[])).set 38 (.func (.func 60) #[.pointer (some ⟨N, 0, none⟩)] #[])).set 125 (.func (.func 61) #[.pointer (some ⟨N, 0, none⟩)] #[])).set 114 (.func (.func 61) #[.pointer (some ⟨N, 0, none⟩)] #[])).set 95 (.func (.func 62) #[.pointer (some ⟨N, 0, none⟩)] #[])).set 127 (.func (.func 63) #[.pointer (some ⟨N, 0, none⟩)] #[])).set 130 (.func (.func 64) #[.pointer (some ⟨N, 0, none⟩)] #[])).set 67 (.func (.func 64) #[.pointer (some ⟨N, 0, none⟩)] #[]))
  refine TR.of_row h8 (by simp [f0]) (by simp [f0]) (by simp [f0]) (by simp [f0]) (fun i hi => ?_)
  clear h8 h
  unfold srt
  by_cases e1 : i = 63
  · subst e1; simp
  by_cases e2 : i = 126
  · subst e2; simp
  by_cases e3 : i = 123
  · subst e3; simp
  by_cases e4 : i = 91
  · subst e4; simp
  by_cases e5 : i = 110
  · subst e5; simp
  by_cases e6 : i = 121
  · subst e6; simp
  by_cases e7 : i = 34
  · subst e7; simp
  by_cases e8 : i = 45
  · subst e8; simp
  rw [if_neg (by omega), if_neg (by omega), if_neg (by omega), if_neg (by omega), if_neg (by omega), if_neg (by omega), if_neg (by omega), if_neg (by omega)]
  by_cases e9 : 48 ≤ i ∧ i ≤ 57
  · rw [if_pos (by omega), if_pos (Or.inl e9)]
  · rw [if_neg (by omega), if_neg (by omega), if_neg e7, if_neg (by omega), if_neg e4, if_neg e3, if_neg (by omega)]
    unfold f0
    rw [if_neg (by omega), if_neg (by omega)]
theorem below_end {w W : World} {N : Nat} (hb : Below N w W) : Below N w ((((((((W.setCell ⟨N, 49, none⟩ (.func (.func 59) #[.pointer (some ⟨N, 0, none⟩)] #[])).setCell ⟨N, 38, none⟩ (.func (.func 60) #[.pointer (some ⟨N, 0, none⟩)] #[])).setCell ⟨N, 125, none⟩ (.func (.func 61) #[.pointer (some ⟨N, 0, none⟩)] #[])).setCell ⟨N, 114, none⟩ (.func (.func 61) #[.pointer (some ⟨N, 0, none⟩)] #[])).setCell ⟨N, 95, none⟩ (.func (.func 62) #[.pointer (some ⟨N, 0, none⟩)] #[])).setCell ⟨N, 127, none⟩ (.func (.func 63) #[.pointer (some ⟨N, 0, none⟩)] #[])).setCell ⟨N, 130, none⟩ (.func (.func 64) #[.pointer (some ⟨N, 0, none⟩)] #[])).setCell ⟨N, 67, none⟩ (.func (.func 64) #[.pointer (some ⟨N, 0, none⟩)] #[])) := ((((((((hb.setCell (p := ⟨N, 49, none⟩) (Nat.le_refl N) (.func (.func 59) #[.pointer (some ⟨N, 0, none⟩)] #[])).setCell (p := ⟨N, 38, none⟩) (Nat.le_refl N) (.func (.func 60) #[.pointer (some ⟨N, 0, none⟩)] #[])).setCell (p := ⟨N, 125, none⟩) (Nat.le_refl N) (.func (.func 61) #[.pointer (some ⟨N, 0, none⟩)] #[])).setCell (p := ⟨N, 114, none⟩) (Nat.le_refl N) (.func (.func 61) #[.pointer (some ⟨N, 0, none⟩)] #[])).setCell (p := ⟨N, 95, none⟩) (Nat.le_refl N) (.func (.func 62) #[.pointer (some ⟨N, 0, none⟩)] #[])).setCell (p := ⟨N, 127, none⟩) (Nat.le_refl N) (.func (.func 63) #[.pointer (some ⟨N, 0, none⟩)] #[])).setCell (p := ⟨N, 130, none⟩) (Nat.le_refl N) (.func (.func 64) #[.pointer (some ⟨N, 0, none⟩)] #[])).setCell (p := ⟨N, 67, none⟩) (Nat.le_refl N) (.func (.func 64) #[.pointer (some ⟨N, 0, none⟩)] #[]))

set_option maxRecDepth 100000 in
set_option maxHeartbeats 1600000 in
theorem newReader_walk (s : ByteArray) (w : World) :
    Calls Tryz.prog 29 #[.string s] w fun e w' => e = .returned (.pointer (some ⟨w.heap.size, 0, none⟩)) ∧ TR w' w.heap.size s 0 0 0 ∧ Below w.heap.size w w' := by
  have hmf : ∀ (fn : Fn) (first cap : Array Value) (w : World), (Instr.makeFunc fn first cap).run Tryz.prog w = .ok (.func fn first cap) w := fun _ _ _ _ => rfl
  have HR0 := hide (row0 w s)
  have HB0 := hide ((Below.refl w.heap.size w).alloc (Nat.le_refl _) (.cells ((Tryz.zeroCells102.setIfInBounds 2 (.string s)).setIfInBounds 3 (.int .i64 0)) 102))
  go_enter Tryz.func29, Tryz.ntmps29
  go_wp2_with fail
  generalize w.alloc (.cells ((Tryz.zeroCells102.setIfInBounds 2 (.string s)).setIfInBounds 3 (.int .i64 0)) 102) = W0 at *
  generalize hN : w.heap.size = N at *
  go_loopw [4] (fun d wr => ∃ k : Nat, 48 ≤ k ∧ k ≤ 58 ∧ d = .int .i32 k ∧ Hid (wr.rowIs N 102 260 (fun j => if 52 ≤ j ∧ j < 4 + k then .func (.func 59) #[.pointer (some ⟨N, 0, none⟩)] #[] else f0 s j)) ∧ Hid (Below N w wr)) (fun d _ => 58 - (intOf d).toNat)
  case atStart => exact ⟨48, Nat.le_refl _, by omega, rfl, hide ((unhide HR0).congr (fun i hi => by rw [if_neg (by omega)])), HB0⟩
  case round =>
    obtain ⟨k, hk0, hk1, rfl, HR, HB⟩ := hrel
    have hfz : ∀ i, wr.frozen? ⟨N, i, none⟩ = false := fun i => HR.out.frozen i
    by_cases hlt : k < 58
    · have hc := HR.out.cell (i := 4 + k) (by omega)
      simp only [f0] at hc
      rw [if_neg (by omega), if_neg (by omega), if_neg (by omega)] at hc
      have hf := hfz (4 + k)
      have hdl : decide ((k : Int) ≤ 57) = true := by simp; omega
      have hrow : (wr.setCell ⟨N, 4 + k, none⟩ (.func (.func 59) #[.pointer (some ⟨N, 0, none⟩)] #[])).rowIs N 102 260 (fun j => if 52 ≤ j ∧ j < 4 + (k + 1) then .func (.func 59) #[.pointer (some ⟨N, 0, none⟩)] #[] else f0 s j) := by
        refine (HR.out.set (4 + k) _).congr fun j hj => ?_
        by_cases e : j = 4 + k
        · rw [if_pos e, if_pos (by omega)]
        · rw [if_neg e]
          by_cases e2 : 52 ≤ j ∧ j < 4 + k
          · rw [if_pos e2, if_pos (by omega)]
          · rw [if_neg e2, if_neg (by omega)]
      have HROW := hide hrow
      have HBB := hide (HB.out.setCell (p := ⟨N, 4 + k, none⟩) (Nat.le_refl N) (.func (.func 59) #[.pointer (some ⟨N, 0, none⟩)] #[]))
      clear hfz hrow
      go_wp2_with fail
      go_roundw
      case rel => exact ⟨k + 1, by omega, by omega, by go_num, HROW, HBB⟩
      case measure => simp [intOf]; omega
    · obtain rfl : k = 58 := by omega
      have hdl : decide (((58 : Nat) : Int) ≤ 57) = false := by decide
      have hc1 := HR.out.cell (i := 49) (by omega); have hc2 := HR.out.cell (i := 38) (by omega); have hc3 := HR.out.cell (i := 125) (by omega); have hc4 := HR.out.cell (i := 114) (by omega)
      have hc5 := HR.out.cell (i := 95) (by omega); have hc6 := HR.out.cell (i := 127) (by omega); have hc7 := HR.out.cell (i := 130) (by omega); have hc8 := HR.out.cell (i := 67) (by omega)
      simp [f0] at hc1 hc2 hc3 hc4 hc5 hc6 hc7 hc8
      have hz1 := hfz 49; have hz2 := hfz 38; have hz3 := hfz 125; have hz4 := hfz 114; have hz5 := hfz 95; have hz6 := hfz 127; have hz7 := hfz 130; have hz8 := hfz 67
      have HTE := hide (row_end HR.out); have HBE := hide (below_end (N := N) HB.out)
      clear hfz
      go_wp2_with fail
      go_ret
      subst hN
      exact ⟨rfl, unhide HTE, unhide HBE⟩
end Go.Proofs.YtgamonfmgngilaaGreatDoor

/- As WTry, of work that may look at what treeTry itself has laid: a cell of its own with no in it. No conditions. -/

namespace Go.Proofs.YtgamonfmgngilaaGreatDoor
open Go Go.RowKit

set_option maxRecDepth 100000 in
set_option maxHeartbeats 400000 in
/-- Work that comes to its end. -/
theorem treeTry_yes2 (f : FuncId) (caps : Array Value) (w : World) (R : World → Prop) (hent : ∀ W, Sem.run Tryz.prog (callFunc f caps) W = .ok (.enter f caps) W)
    (hwork : Calls Tryz.prog f caps (w.alloc (.cells #[.bool false] 4)) fun e w' => e = .returned (.tuple #[]) ∧ R w' ∧ w'.heap[w.heap.size]? = (w.alloc (.cells #[.bool false] 4)).heap[w.heap.size]?) :
    Calls Tryz.prog 26 #[.func (.func f) #[] caps] w fun e w' => e = .returned (.bool true) ∧ ∃ w1, R w1 ∧ But w.heap.size w1 w' := by
  have hmf : ∀ (fn : Fn) (first cap : Array Value) (w : World), (Instr.makeFunc fn first cap).run Tryz.prog w = .ok (.func fn first cap) w := fun _ _ _ _ => rfl
  have HW := hide hwork; clear hwork
  go_enter_defers Tryz.func26, Tryz.ntmps26
  go_wp2_with fail
  refine (unhide HW).mono ?_
  rintro e w1 ⟨rfl, hr, hbk⟩
  obtain ⟨hc, hz⟩ := cell_new1 hbk
  have HR := hide hr
  clear hr hbk
  go_wp2_with fail
  refine leaves_cons (f := 55) (args := #[.pointer (some ⟨w.heap.size, 0, none⟩)]) (by simp) (by simp [go_sem]) ?_
  refine (try_returning ⟨w.heap.size, 0, none⟩ true _ ?_ ?_).mono ?_
  · simp [go_sem, hc]
  · simp [go_sem, hz]
  rintro e u' w'' ⟨rfl, rfl, rfl⟩
  simp [Leaves, settle, results, Tryz.results26, go_sem, hc]
  exact ⟨w1, unhide HR, (But.set w1 0 _).trans (But.set _ 0 _)⟩

set_option maxRecDepth 100000 in
set_option maxHeartbeats 400000 in
/-- Work that raises a fault. -/
theorem treeTry_no2 (f : FuncId) (caps : Array Value) (w : World) (R : World → Prop) (hent : ∀ W, Sem.run Tryz.prog (callFunc f caps) W = .ok (.enter f caps) W)
    (hwork : Calls Tryz.prog f caps (w.alloc (.cells #[.bool false] 4)) fun e w' => e = fltE ∧ R w' ∧ w'.heap[w.heap.size]? = (w.alloc (.cells #[.bool false] 4)).heap[w.heap.size]?) :
    Calls Tryz.prog 26 #[.func (.func f) #[] caps] w fun e w' => e = .returned (.bool false) ∧ ∃ w1, R w1 ∧ But w.heap.size w1 w' := by
  have hmf : ∀ (fn : Fn) (first cap : Array Value) (w : World), (Instr.makeFunc fn first cap).run Tryz.prog w = .ok (.func fn first cap) w := fun _ _ _ _ => rfl
  have HW := hide hwork; clear hwork
  go_enter_defers Tryz.func26, Tryz.ntmps26
  go_wp2_with fail
  refine (unhide HW).mono ?_
  rintro e w1 ⟨rfl, hr, hbk⟩
  obtain ⟨hc, hz⟩ := cell_new1 hbk
  have HR := hide hr
  clear hr hbk
  go_wp2_with fail
  refine leaves_cons (f := 55) (args := #[.pointer (some ⟨w.heap.size, 0, none⟩)]) (by simp) (by simp [go_sem]) ?_
  refine (try_panicking ⟨w.heap.size, 0, none⟩ false 128 _ [] _ hc hz).mono ?_
  rintro e u' w'' ⟨rfl, rfl, rfl⟩
  simp [Leaves, settle, results, Tryz.results26, go_sem, hc]
  exact ⟨w1, unhide HR, But.set w1 0 _⟩
end Go.Proofs.YtgamonfmgngilaaGreatDoor
