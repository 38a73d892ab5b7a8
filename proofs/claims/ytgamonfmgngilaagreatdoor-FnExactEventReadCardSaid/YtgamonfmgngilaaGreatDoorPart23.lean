/- The walks of the program's plainTree and plainTrees: the tree, in blocks of its own. Of what was there nothing has turned. For trees that are ok. -/
import Derived.Test.YtgamonfmgngilaaGreatDoorPart14
import Derived.Test.YtgamonfmgngilaaGreatDoorPart22
import Derived.Test.YtgamonfmgngilaaGreatDoorPart11
import Derived.Test.YtgamonfmgngilaaGreatDoorPart07
import Derived.Deep.RegionWith
namespace Go.Proofs.YtgamonfmgngilaaGreatDoor
open Go Go.RowKit

theorem Own.leafT (w : World) (s n : Int) (tx : ByteArray) (hs : I64 s) (hn : I64 n) (ht : tx.size ≤ 9223372036854775807) : Own w (.mk s n tx [] []) ⟨.int .i64 s, .int .i64 n, .string tx, .slice none 0 0, .slice none 0 0⟩ [] :=
  Own.make (t := .mk s n tx [] []) (F1 := []) (F2 := []) rfl rfl rfl hs hn ht ⟨none, 0, rfl, by simp [Tr.names], Or.inl ⟨rfl, rfl⟩⟩ ⟨none, 0, rfl, by simp [Tr.kids], Or.inl ⟨rfl, rfl⟩⟩

/-- What plainTree comes to. -/
def PlEnd (t : Tr) (w : World) (e : Ending) (w' : World) : Prop := ∃ (c : C5) (F : List Nat), e = .returned (.agg #[c.c0, c.c1, c.c2, c.c3, c.c4]) ∧ Own w' t c F ∧ F.Nodup ∧ (∀ b, b ∈ F → w.heap.size ≤ b ∧ b < w'.heap.size) ∧ Below w.heap.size w w'
/-- What plainTrees comes to. -/
def PksEnd (ks : List Tr) (w : World) (e : Ending) (w' : World) : Prop := ∃ (a : Option Addr) (cap : Nat) (F : List Nat), e = .returned (.slice a ks.length cap) ∧ KidsOwn w' (.slice a ks.length cap) ks F ∧ F.Nodup ∧ (∀ b, b ∈ F → w.heap.size ≤ b ∧ b < w'.heap.size) ∧ Below w.heap.size w w'

/-- The box of the answer, still empty. -/
def zBox : Obj := .cells #[.int .i64 0, .int .i64 0, .string ⟨#[]⟩, .slice none 0 0, .slice none 0 0] 26
theorem box_cells {w w2 : World} {o : Obj} (h : o = .cells #[.int .i64 0, .int .i64 0, .string ⟨#[]⟩, .slice none 0 0, .slice none 0 0] 26) (hb : w2.heap[w.heap.size]? = (w.alloc o).heap[w.heap.size]?) :
    w2.rowIs w.heap.size 26 5 (row5 (.int .i64 0) (.int .i64 0) (.string ⟨#[]⟩) (.slice none 0 0) (.slice none 0 0)) := by
  subst h
  exact (row5_alloc w _ _ _ _ _ _).of_block hb

theorem fin_own {t : Tr} {w W : World} {c : C5} {F : List Nat} (h : Own W t c F) (hn : F.Nodup) (hF : ∀ b, b ∈ F → w.heap.size < b ∧ b < W.heap.size) (hb : Below w.heap.size w W) : PlEnd t w (.returned (.agg #[c.c0, c.c1, c.c2, c.c3, c.c4])) (set5 W w.heap.size c) :=
  ⟨c, F, rfl, Own.carry t c F (fun b hb' => set5_heap _ _ _ _ (by have := (hF b hb').1; omega)) h, hn, fun b hb' => by rw [set5_size]; have := hF b hb'; omega, below_set5 hb _ _ (Nat.le_refl _)⟩

set_option maxRecDepth 100000 in
set_option maxHeartbeats 800000 in
theorem plain_1 (n : Int) (hn : -999999999 ≤ n ∧ n ≤ 999999999) (w : World) : Calls Tryz.prog 28 #[.iface 87 (.int .i64 n)] w fun e w' => PlEnd (.mk 1 n ByteArray.empty [] []) w e w' := by
  have hta0 : ∀ w, Sem.run Tryz.prog (Instr.typeAssert (.iface 87 (.int .i64 n)) 48 87 true) w = .ok (.tuple #[.int .i64 n, .bool true]) w := fun _ => by kernel_rfl
  go_enter Tryz.func28, Tryz.ntmps28
  go_wp2_with fail
  refine bodyPost_ret (v := .agg #[.int .i64 1, .int .i64 n, .string ByteArray.empty, .slice none 0 0, .slice none 0 0]) (by simp [results, Tryz.results28, go_sem]; rfl) rfl ?_
  exact ⟨⟨_, _, _, _, _⟩, [], rfl, Own.leafT _ 1 n ByteArray.empty ⟨by decide, by decide⟩ ⟨by omega, by omega⟩ (by simp), List.nodup_nil, fun b hb => by simp at hb, (Below.refl _ _).alloc (Nat.le_refl _) _⟩
set_option maxRecDepth 100000 in
set_option maxHeartbeats 800000 in
theorem plain_2 (x : ByteArray) (hx : x.size ≤ 1048576) (w : World) : Calls Tryz.prog 28 #[.iface 88 (.string x)] w fun e w' => PlEnd (.mk 2 0 x [] []) w e w' := by
  have hta0 : ∀ w, Sem.run Tryz.prog (Instr.typeAssert (.iface 88 (.string x)) 48 87 true) w = .ok (.tuple #[.int .i64 0, .bool false]) w := fun _ => by kernel_rfl
  have hta1 : ∀ w, Sem.run Tryz.prog (Instr.typeAssert (.iface 88 (.string x)) 48 88 true) w = .ok (.tuple #[.string x, .bool true]) w := fun _ => by kernel_rfl
  have HC := hide (fun W => clone_any x W (by omega))
  go_enter Tryz.func28, Tryz.ntmps28
  go_wp2_with fail
  refine (unhide HC _).mono ?_
  rintro e w2 ⟨rfl, hb2⟩
  have r2 := box_cells (w := w) rfl (hb2.block _ (by simp))
  have y0 := r2.cell (i := 0) (by omega); have y1 := r2.cell (i := 1) (by omega); have y2 := r2.cell (i := 2) (by omega); have y3 := r2.cell (i := 3) (by omega); have y4 := r2.cell (i := 4) (by omega)
  have z0 := r2.frozen 0; have z1 := r2.frozen 1; have z2 := r2.frozen 2; have z3 := r2.frozen 3; have z4 := r2.frozen 4
  simp only [row5] at y0 y1 y2 y3 y4
  have HB2 := hide ((Below.refl w.heap.size w).alloc (Nat.le_refl _) _ |>.trans (hb2.mono (by simp)))
  clear hb2 HC r2
  go_wp2_with fail
  refine bodyPost_ret (v := .agg #[.int .i64 2, .int .i64 0, .string x, .slice none 0 0, .slice none 0 0]) (by simp [results, Tryz.results28, go_sem, y0, y1, y2, y3, y4]) rfl ?_
  exact fin_own (c := ⟨_, _, _, _, _⟩) (Own.leafT _ 2 0 x ⟨by decide, by decide⟩ ⟨by decide, by decide⟩ (by omega)) List.nodup_nil (fun b hb => by simp at hb) (unhide HB2)
set_option maxRecDepth 100000 in
set_option maxHeartbeats 800000 in
theorem plain_3a  (w : World) : Calls Tryz.prog 28 #[.iface 90 (.bool true)] w fun e w' => PlEnd (.mk 3 1 ByteArray.empty [] []) w e w' := by
  have hta0 : ∀ w, Sem.run Tryz.prog (Instr.typeAssert (.iface 90 (.bool true)) 48 87 true) w = .ok (.tuple #[.int .i64 0, .bool false]) w := fun _ => by kernel_rfl
  have hta1 : ∀ w, Sem.run Tryz.prog (Instr.typeAssert (.iface 90 (.bool true)) 48 88 true) w = .ok (.tuple #[.string ByteArray.empty, .bool false]) w := fun _ => by kernel_rfl
  have hta2 : ∀ w, Sem.run Tryz.prog (Instr.typeAssert (.iface 90 (.bool true)) 48 90 true) w = .ok (.tuple #[.bool true, .bool true]) w := fun _ => by kernel_rfl
  go_enter Tryz.func28, Tryz.ntmps28
  go_wp2_with fail
  refine bodyPost_ret (v := .agg #[.int .i64 3, .int .i64 1, .string ByteArray.empty, .slice none 0 0, .slice none 0 0]) (by simp [results, Tryz.results28, go_sem]; rfl) rfl ?_
  exact ⟨⟨_, _, _, _, _⟩, [], rfl, Own.leafT _ 3 1 ByteArray.empty ⟨by decide, by decide⟩ ⟨by decide, by decide⟩ (by simp), List.nodup_nil, fun b hb => by simp at hb, (Below.refl _ _).alloc (Nat.le_refl _) _⟩
set_option maxRecDepth 100000 in
set_option maxHeartbeats 800000 in
theorem plain_3b  (w : World) : Calls Tryz.prog 28 #[.iface 90 (.bool false)] w fun e w' => PlEnd (.mk 3 0 ByteArray.empty [] []) w e w' := by
  have hta0 : ∀ w, Sem.run Tryz.prog (Instr.typeAssert (.iface 90 (.bool false)) 48 87 true) w = .ok (.tuple #[.int .i64 0, .bool false]) w := fun _ => by kernel_rfl
  have hta1 : ∀ w, Sem.run Tryz.prog (Instr.typeAssert (.iface 90 (.bool false)) 48 88 true) w = .ok (.tuple #[.string ByteArray.empty, .bool false]) w := fun _ => by kernel_rfl
  have hta2 : ∀ w, Sem.run Tryz.prog (Instr.typeAssert (.iface 90 (.bool false)) 48 90 true) w = .ok (.tuple #[.bool false, .bool true]) w := fun _ => by kernel_rfl
  go_enter Tryz.func28, Tryz.ntmps28
  go_wp2_with fail
  refine bodyPost_ret (v := .agg #[.int .i64 3, .int .i64 0, .string ByteArray.empty, .slice none 0 0, .slice none 0 0]) (by simp [results, Tryz.results28, go_sem]; rfl) rfl ?_
  exact ⟨⟨_, _, _, _, _⟩, [], rfl, Own.leafT _ 3 0 ByteArray.empty ⟨by decide, by decide⟩ ⟨by decide, by decide⟩ (by simp), List.nodup_nil, fun b hb => by simp at hb, (Below.refl _ _).alloc (Nat.le_refl _) _⟩
set_option maxRecDepth 100000 in
set_option maxHeartbeats 800000 in
theorem plain_4 (a : Option Addr) (cap : Nat) (ks : List Tr) (w : World) (hks : ∀ o, Calls Tryz.prog 57 #[.slice a ks.length cap] (w.alloc o) fun e w' => PksEnd ks (w.alloc o) e w') : Calls Tryz.prog 28 #[.iface 92 (.slice a ks.length cap)] w fun e w' => PlEnd (.mk 4 0 ByteArray.empty [] ks) w e w' := by
  have hta0 : ∀ w, Sem.run Tryz.prog (Instr.typeAssert (.iface 92 (.slice a ks.length cap)) 48 87 true) w = .ok (.tuple #[.int .i64 0, .bool false]) w := fun _ => by kernel_rfl
  have hta1 : ∀ w, Sem.run Tryz.prog (Instr.typeAssert (.iface 92 (.slice a ks.length cap)) 48 88 true) w = .ok (.tuple #[.string ByteArray.empty, .bool false]) w := fun _ => by kernel_rfl
  have hta2 : ∀ w, Sem.run Tryz.prog (Instr.typeAssert (.iface 92 (.slice a ks.length cap)) 48 90 true) w = .ok (.tuple #[.bool false, .bool false]) w := fun _ => by kernel_rfl
  have hta3 : ∀ w, Sem.run Tryz.prog (Instr.typeAssert (.iface 92 (.slice a ks.length cap)) 48 92 true) w = .ok (.tuple #[.slice a ks.length cap, .bool true]) w := fun _ => by kernel_rfl
  have HKS := hide hks
  clear hks
  go_enter Tryz.func28, Tryz.ntmps28
  go_wp2_with fail
  refine (unhide HKS _).mono ?_
  rintro e w2 ⟨a2, cap2, F, rfl, hko, hnd, hF, hb2⟩
  have r2 := box_cells (w := w) rfl (hb2.block _ (by simp))
  have y0 := r2.cell (i := 0) (by omega); have y1 := r2.cell (i := 1) (by omega); have y2 := r2.cell (i := 2) (by omega); have y3 := r2.cell (i := 3) (by omega); have y4 := r2.cell (i := 4) (by omega)
  have z0 := r2.frozen 0; have z1 := r2.frozen 1; have z2 := r2.frozen 2; have z3 := r2.frozen 3; have z4 := r2.frozen 4
  simp only [row5] at y0 y1 y2 y3 y4
  have HB2 := hide ((Below.refl w.heap.size w).alloc (Nat.le_refl _) _ |>.trans (hb2.mono (by simp)))
  have HKO := hide hko; have HF := hide hF
  clear hb2 HKS r2 hko hF
  go_wp2_with fail
  refine bodyPost_ret (v := .agg #[.int .i64 4, .int .i64 0, .string ByteArray.empty, .slice none 0 0, .slice a2 ks.length cap2]) (by simp [results, Tryz.results28, go_sem, y0, y1, y2, y3, y4]; rfl) rfl ?_
  exact fin_own (c := ⟨_, _, _, _, _⟩) (F := [] ++ F) (Own.make (t := .mk 4 0 ByteArray.empty [] ks) rfl rfl rfl (show I64 4 from ⟨by decide, by decide⟩) (show I64 0 from ⟨by decide, by decide⟩) (by simp [Tr.text]) ⟨none, 0, rfl, by simp [Tr.names], Or.inl ⟨rfl, rfl⟩⟩ (unhide HKO)) hnd (fun b hb => by have := unhide HF b hb; simp at this; omega) (unhide HB2)
set_option maxRecDepth 100000 in
set_option maxHeartbeats 800000 in
theorem plain_6 (a : Option Addr) (cap : Nat) (ks : List Tr) (w : World) (hks : ∀ o, Calls Tryz.prog 57 #[.slice a ks.length cap] (w.alloc o) fun e w' => PksEnd ks (w.alloc o) e w') : Calls Tryz.prog 28 #[.iface 97 (.slice a ks.length cap)] w fun e w' => PlEnd (.mk 6 0 ByteArray.empty [] ks) w e w' := by
  have hta0 : ∀ w, Sem.run Tryz.prog (Instr.typeAssert (.iface 97 (.slice a ks.length cap)) 48 87 true) w = .ok (.tuple #[.int .i64 0, .bool false]) w := fun _ => by kernel_rfl
  have hta1 : ∀ w, Sem.run Tryz.prog (Instr.typeAssert (.iface 97 (.slice a ks.length cap)) 48 88 true) w = .ok (.tuple #[.string ByteArray.empty, .bool false]) w := fun _ => by kernel_rfl
  have hta2 : ∀ w, Sem.run Tryz.prog (Instr.typeAssert (.iface 97 (.slice a ks.length cap)) 48 90 true) w = .ok (.tuple #[.bool false, .bool false]) w := fun _ => by kernel_rfl
  have hta3 : ∀ w, Sem.run Tryz.prog (Instr.typeAssert (.iface 97 (.slice a ks.length cap)) 48 92 true) w = .ok (.tuple #[.slice none 0 0, .bool false]) w := fun _ => by kernel_rfl
  have hta4 : ∀ w, Sem.run Tryz.prog (Instr.typeAssert (.iface 97 (.slice a ks.length cap)) 48 95 true) w = .ok (.tuple #[.agg #[.slice none 0 0, .slice none 0 0], .bool false]) w := fun _ => by kernel_rfl
  have hta5 : ∀ w, Sem.run Tryz.prog (Instr.typeAssert (.iface 97 (.slice a ks.length cap)) 48 97 true) w = .ok (.tuple #[.slice a ks.length cap, .bool true]) w := fun _ => by kernel_rfl
  have HKS := hide hks
  clear hks
  go_enter Tryz.func28, Tryz.ntmps28
  go_wp2_with fail
  refine (unhide HKS _).mono ?_
  rintro e w2 ⟨a2, cap2, F, rfl, hko, hnd, hF, hb2⟩
  have r2 := box_cells (w := w) rfl (hb2.block _ (by simp))
  have y0 := r2.cell (i := 0) (by omega); have y1 := r2.cell (i := 1) (by omega); have y2 := r2.cell (i := 2) (by omega); have y3 := r2.cell (i := 3) (by omega); have y4 := r2.cell (i := 4) (by omega)
  have z0 := r2.frozen 0; have z1 := r2.frozen 1; have z2 := r2.frozen 2; have z3 := r2.frozen 3; have z4 := r2.frozen 4
  simp only [row5] at y0 y1 y2 y3 y4
  have HB2 := hide ((Below.refl w.heap.size w).alloc (Nat.le_refl _) _ |>.trans (hb2.mono (by simp)))
  have HKO := hide hko; have HF := hide hF
  clear hb2 HKS r2 hko hF
  go_wp2_with fail
  refine bodyPost_ret (v := .agg #[.int .i64 6, .int .i64 0, .string ByteArray.empty, .slice none 0 0, .slice a2 ks.length cap2]) (by simp [results, Tryz.results28, go_sem, y0, y1, y2, y3, y4]; rfl) rfl ?_
  exact fin_own (c := ⟨_, _, _, _, _⟩) (F := [] ++ F) (Own.make (t := .mk 6 0 ByteArray.empty [] ks) rfl rfl rfl (show I64 6 from ⟨by decide, by decide⟩) (show I64 0 from ⟨by decide, by decide⟩) (by simp [Tr.text]) ⟨none, 0, rfl, by simp [Tr.names], Or.inl ⟨rfl, rfl⟩⟩ (unhide HKO)) hnd (fun b hb => by have := unhide HF b hb; simp at this; omega) (unhide HB2)
end Go.Proofs.YtgamonfmgngilaaGreatDoor
