/- The walks of the program's reader of texts: skip, take, more, run, end. For texts of at most 2^20 bytes. -/
import Derived.Test.YtfjiannabnonjaaDoorWRdN
import Derived.Test.YtfjiannabnonjaaDoorWLeaf
import Derived.Test.YtfjiannabnonjaaDoorShelf
import Derived.Test.YtfjiannabnonjaaDoorWKRd2
namespace Go.Proofs.YtfjiannabnonjaaDoor
open Go Go.RowKit

def row2 (c0 c1 : Value) : Nat → Value
  | 0 => c0
  | _ => c1
theorem row2_alloc (w : World) (c0 c1 : Value) (t : TypeId) : (w.alloc (.cells #[c0, c1] t)).rowIs w.heap.size t 2 (row2 c0 c1) :=
  World.rowIs_alloc w #[c0, c1] t _ (fun i hi => by
    have hi' : i < 2 := hi
    match i, hi' with
    | 0, _ => rfl
    | 1, _ => rfl)

/-- A reader of the program lies in block R. -/
def PRdr (w : World) (R : Nat) (s : ByteArray) (at' : Nat) : Prop := w.rowIs R 121 2 (row2 (.string s) (.int .i64 at'))
theorem PRdr.cells {w : World} {R : Nat} {s : ByteArray} {at' : Nat} (h : PRdr w R s at') : w.cell? ⟨R, 0, none⟩ = some (.string s) ∧ w.cell? ⟨R, 1, none⟩ = some (.int .i64 at') ∧ w.frozen? ⟨R, 1, none⟩ = false :=
  ⟨World.rowIs.cell h (by omega), World.rowIs.cell h (by omega), World.rowIs.frozen h 1⟩
theorem PRdr.lt {w : World} {R : Nat} {s : ByteArray} {at' : Nat} (h : PRdr w R s at') : R < w.heap.size := World.rowIs.lt h
theorem PRdr.set1 {w : World} {R : Nat} {s : ByteArray} {at' : Nat} (h : PRdr w R s at') (a : Nat) : PRdr (w.setCell ⟨R, 1, none⟩ (.int .i64 a)) R s a :=
  (World.rowIs.set h 1 _).congr fun i hi => by
    match i, hi with
    | 0, _ => rfl
    | 1, _ => rfl
theorem PRdr.drewN {w : World} {R : Nat} {s : ByteArray} {at' : Nat} (h : PRdr w R s at') (n : Nat) : PRdr (w.drewN n) R s at' := h
theorem PRdr.heap {w w' : World} {R : Nat} {s : ByteArray} {a : Nat} (h : PRdr w R s a) (e : w'.heap = w.heap) : PRdr w' R s a := World.rowIs.of_block h (by rw [e])
theorem PRdr.alloc {w : World} {R : Nat} {s : ByteArray} {a : Nat} (h : PRdr w R s a) (o : Obj) : PRdr (w.alloc o) R s a := World.rowIs.alloc h o
theorem PRdr.at {w w' : World} {R : Nat} {s : ByteArray} {a : Nat} (h : PRdr w R s a) (e : w'.heap[R]? = w.heap[R]?) : PRdr w' R s a := World.rowIs.of_block h e

theorem hasPre (s wd : ByteArray) (a : Nat) : Lib.hasPrefix (s.extract a s.size).data.toList wd.data.toList = pre wd s a := by
  unfold Lib.hasPrefix pre lf
  congr 1
  simp [List.take_of_length_le]

set_option maxHeartbeats 800000 in
theorem skip_yes (w : World) (R : Nat) (s wd : ByteArray) (a : Nat) (hs : s.size ≤ 1048576) (h : PRdr w R s a) (ha : a ≤ s.size) (hw0 : 0 < wd.size) (hw : wd.size ≤ 16) (hp : pre wd s a = true) :
    Calls Tryd.prog 93 #[.pointer (some ⟨R, 0, none⟩), .string wd] w fun e w' => e = .returned (.bool true) ∧ PRdr w' R s (a + wd.size) ∧ But R w w' := by
  obtain ⟨c0, c1, f1⟩ := h.cells
  have H := hide h
  have hi0 : (0 : Int) ≤ (a : Int) := by omega
  have hi1 : (a : Int) ≤ (s.size : Int) := by omega
  have hpre := Tryd.strings_HasPrefix (s.extract a s.size) wd
  rw [hasPre, hp] at hpre
  have HPRE := hide hpre
  clear h hp hpre
  go_enter Tryd.func93, Tryd.ntmps93
  go_wp2_with fail
  go_quiet ((go_at_call 107; exact Calls.quiet_of_same (unhide HPRE _)))
  go_wp2_with fail
  go_ret
  exact ⟨rfl, (H.out.drewN _).set1 _, (but_drewN (But.refl _ _) _).trans (But.set _ _ _)⟩

set_option maxHeartbeats 800000 in
theorem skip_no (w : World) (R : Nat) (s wd : ByteArray) (a : Nat) (h : PRdr w R s a) (ha : a ≤ s.size) (hp : pre wd s a = false) :
    Calls Tryd.prog 93 #[.pointer (some ⟨R, 0, none⟩), .string wd] w fun e w' => e = .returned (.bool false) ∧ ∃ m, w' = w.drewN m := by
  obtain ⟨c0, c1, f1⟩ := h.cells
  have hi0 : (0 : Int) ≤ (a : Int) := by omega
  have hi1 : (a : Int) ≤ (s.size : Int) := by omega
  have hpre := Tryd.strings_HasPrefix (s.extract a s.size) wd
  rw [hasPre, hp] at hpre
  have HPRE := hide hpre
  clear h hp hpre
  go_enter Tryd.func93, Tryd.ntmps93
  go_wp2_with fail
  go_quiet ((go_at_call 107; exact Calls.quiet_of_same (unhide HPRE _)))
  go_wp2_with fail
  go_ret
  exact ⟨rfl, _, rfl⟩

set_option maxHeartbeats 400000 in
theorem take_yes (w : World) (R : Nat) (s wd : ByteArray) (a : Nat) (hs : s.size ≤ 1048576) (h : PRdr w R s a) (ha : a ≤ s.size) (hw0 : 0 < wd.size) (hw : wd.size ≤ 16) (hp : pre wd s a = true) :
    Calls Tryd.prog 94 #[.pointer (some ⟨R, 0, none⟩), .string wd] w fun e w' => e = .returned (.tuple #[]) ∧ PRdr w' R s (a + wd.size) ∧ But R w w' := by
  have HS := hide (skip_yes w R s wd a hs h ha hw0 hw hp)
  clear h hp
  go_enter Tryd.func94, Tryd.ntmps94
  go_wp2_with (first
    | (go_at_call 93; refine (unhide HS).mono ?_; rintro e w1 ⟨rfl, hr, hb⟩)
    | (go_at_call 76; refine (treeWant_yes _).mono ?_; rintro e w2 ⟨rfl, rfl⟩))
  go_end0
  exact ⟨rfl, hr, hb⟩

set_option maxHeartbeats 400000 in
theorem take_no (w : World) (R : Nat) (s wd : ByteArray) (a : Nat) (h : PRdr w R s a) (ha : a ≤ s.size) (hp : pre wd s a = false) :
    Calls Tryd.prog 94 #[.pointer (some ⟨R, 0, none⟩), .string wd] w fun e w' => e = fltE ∧ ∃ m, w' = w.drewN m := by
  have HS := hide (skip_no w R s wd a h ha hp)
  clear h hp
  go_enter Tryd.func94, Tryd.ntmps94
  go_wp2_with (first
    | (go_at_call 93; refine (unhide HS).mono ?_; rintro e w1 ⟨rfl, m, rfl⟩)
    | (go_at_call 76; refine (treeWant_no _).mono ?_; rintro e w2 ⟨rfl, rfl⟩))
  exact ⟨rfl, rfl, _, rfl⟩

set_option maxHeartbeats 400000 in
theorem end_yes (w : World) (R : Nat) (s : ByteArray) (h : PRdr w R s s.size) :
    Calls Tryd.prog 78 #[.pointer (some ⟨R, 0, none⟩)] w fun e w' => e = .returned (.tuple #[]) ∧ ∃ m, w' = w.drewN m := by
  obtain ⟨c0, c1, f1⟩ := h.cells
  clear h
  go_enter Tryd.func78, Tryd.ntmps78
  go_quiet ((go_at_call 76; exact Calls.quiet_of_same (treeWant_yes _)))
  go_wp2_with fail
  go_end0
  exact ⟨rfl, _, rfl⟩
end Go.Proofs.YtfjiannabnonjaaDoor
