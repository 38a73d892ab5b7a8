/- A part. -/
import Derived.Test.YtbkagahmiibclaaGreatDoorPart20
namespace Go.Proofs.YtbkagahmiibclaaGreatDoor
open Go Go.RowKit
set_option maxRecDepth 100000
set_option maxHeartbeats 6400000
theorem Own.leafT (w : World) (s n : Int) (tx : ByteArray) (hs : I64 s) (hn : I64 n) (ht : tx.size ≤ 9223372036854775807) : Own w (.mk s n tx [] []) ⟨.int .i64 s, .int .i64 n, .string tx, .slice none 0 0, .slice none 0 0⟩ [] :=
 Own.make (t := .mk s n tx [] []) (F1 := []) (F2 := []) rfl rfl rfl hs hn ht ⟨none, 0, rfl, by simp [Tr.names], Or.inl ⟨rfl, rfl⟩⟩ ⟨none, 0, rfl, by simp [Tr.kids], Or.inl ⟨rfl, rfl⟩⟩
def PlEnd (t : Tr) (w : World) (e : Ending) (w' : World) : Prop := ∃ (c : C5) (F : List Nat), e = .returned (.agg #[c.c0, c.c1, c.c2, c.c3, c.c4]) ∧ Own w' t c F ∧ F.Nodup ∧ (∀ b, b ∈ F → w.heap.size ≤ b ∧ b < w'.heap.size) ∧ Below w.heap.size w w'
def PksEnd (ks : List Tr) (w : World) (e : Ending) (w' : World) : Prop := ∃ (a : Option Addr) (cap : Nat) (F : List Nat), e = .returned (.slice a ks.length cap) ∧ KidsOwn w' (.slice a ks.length cap) ks F ∧ F.Nodup ∧ (∀ b, b ∈ F → w.heap.size ≤ b ∧ b < w'.heap.size) ∧ Below w.heap.size w w'
theorem box_cells {w w2 : World} {o : Obj} (h : o = .cells #[.int .i64 0, .int .i64 0, .string ⟨#[]⟩, .slice none 0 0, .slice none 0 0] 26) (hb : w2.heap[w.heap.size]? = (w.alloc o).heap[w.heap.size]?) :
 w2.rowIs w.heap.size 26 5 (row5 (.int .i64 0) (.int .i64 0) (.string ⟨#[]⟩) (.slice none 0 0) (.slice none 0 0)) := by
 subst h
 exact (row5_alloc w _ _ _ _ _ _).of_block hb
theorem fin_own {t : Tr} {w W : World} {c : C5} {F : List Nat} (h : Own W t c F) (hn : F.Nodup) (hF : ∀ b, b ∈ F → w.heap.size < b ∧ b < W.heap.size) (hb : Below w.heap.size w W) : PlEnd t w (.returned (.agg #[c.c0, c.c1, c.c2, c.c3, c.c4])) (set5 W w.heap.size c) :=
 ⟨c, F, rfl, Own.carry t c F (fun b hb' => set5_heap _ _ _ _ (by have := (hF b hb').1; omega)) h, hn, fun b hb' => by rw [set5_size]; have := hF b hb'; omega, below_set5 hb _ _ (Nat.le_refl _)⟩
theorem plain_1 (n : Int) (hn : -999999999 ≤ n ∧ n ≤ 999999999) (w : World) : Calls Tryz.prog 74 #[.iface 132 (.int .i64 n)] w fun e w' => PlEnd (.mk 1 n ByteArray.empty [] []) w e w' := by
 have hta0 : ∀ w, Sem.run Tryz.prog (Instr.typeAssert (.iface 132 (.int .i64 n)) 94 132 true) w = .ok (.tuple #[.int .i64 n, .bool true]) w := fun _ => by kernel_rfl
 go_enter Tryz.func74, Tryz.ntmps74
 go_wp2_with fail
 refine bodyPost_ret (v := .agg #[.int .i64 1, .int .i64 n, .string ByteArray.empty, .slice none 0 0, .slice none 0 0]) (by simp [results, Tryz.results74, go_sem]; rfl) rfl ?_
 exact ⟨⟨_, _, _, _, _⟩, [], rfl, Own.leafT _ 1 n ByteArray.empty ⟨by decide, by decide⟩ ⟨by omega, by omega⟩ (by simp), List.nodup_nil, fun b hb => by simp at hb, (Below.refl _ _).alloc (Nat.le_refl _) _⟩
theorem plain_2 (x : ByteArray) (hx : x.size ≤ 1048576) (w : World) : Calls Tryz.prog 74 #[.iface 133 (.string x)] w fun e w' => PlEnd (.mk 2 0 x [] []) w e w' := by
 have hta0 : ∀ w, Sem.run Tryz.prog (Instr.typeAssert (.iface 133 (.string x)) 94 132 true) w = .ok (.tuple #[.int .i64 0, .bool false]) w := fun _ => by kernel_rfl
 have hta1 : ∀ w, Sem.run Tryz.prog (Instr.typeAssert (.iface 133 (.string x)) 94 133 true) w = .ok (.tuple #[.string x, .bool true]) w := fun _ => by kernel_rfl
 have HC := hH (fun W => clone_any x W (by omega))
 go_enter Tryz.func74, Tryz.ntmps74
 go_wp2_with fail
 refine (uh HC _).mono ?_
 rintro e w2 ⟨rfl, hb2⟩
 have r2 := box_cells (w := w) rfl (hb2.block _ (by simp))
 obtain ⟨y0, y1, y2, y3, y4⟩ := cs5 r2 (by omega)
 have z0 := r2.frozen 0; have z1 := r2.frozen 1; have z2 := r2.frozen 2; have z3 := r2.frozen 3; have z4 := r2.frozen 4
 simp only [row5] at y0 y1 y2 y3 y4
 have HB2 := hH ((Below.refl w.heap.size w).alloc (Nat.le_refl _) _ |>.trans (hb2.mono (by simp)))
 clear hb2 HC r2
 go_wp2_with fail
 refine bodyPost_ret (v := .agg #[.int .i64 2, .int .i64 0, .string x, .slice none 0 0, .slice none 0 0]) (by simp [results, Tryz.results74, go_sem, y0, y1, y2, y3, y4]) rfl ?_
 exact fin_own (c := ⟨_, _, _, _, _⟩) (Own.leafT _ 2 0 x ⟨by decide, by decide⟩ ⟨by decide, by decide⟩ (by omega)) List.nodup_nil (fun b hb => by simp at hb) (uh HB2)
theorem plain_3a  (w : World) : Calls Tryz.prog 74 #[.iface 134 (.bool true)] w fun e w' => PlEnd (.mk 3 1 ByteArray.empty [] []) w e w' := by
 have hta0 : ∀ w, Sem.run Tryz.prog (Instr.typeAssert (.iface 134 (.bool true)) 94 132 true) w = .ok (.tuple #[.int .i64 0, .bool false]) w := fun _ => by kernel_rfl
 have hta1 : ∀ w, Sem.run Tryz.prog (Instr.typeAssert (.iface 134 (.bool true)) 94 133 true) w = .ok (.tuple #[.string ByteArray.empty, .bool false]) w := fun _ => by kernel_rfl
 have hta2 : ∀ w, Sem.run Tryz.prog (Instr.typeAssert (.iface 134 (.bool true)) 94 134 true) w = .ok (.tuple #[.bool true, .bool true]) w := fun _ => by kernel_rfl
 go_enter Tryz.func74, Tryz.ntmps74
 go_wp2_with fail
 refine bodyPost_ret (v := .agg #[.int .i64 3, .int .i64 1, .string ByteArray.empty, .slice none 0 0, .slice none 0 0]) (by simp [results, Tryz.results74, go_sem]; rfl) rfl ?_
 exact ⟨⟨_, _, _, _, _⟩, [], rfl, Own.leafT _ 3 1 ByteArray.empty ⟨by decide, by decide⟩ ⟨by decide, by decide⟩ (by simp), List.nodup_nil, fun b hb => by simp at hb, (Below.refl _ _).alloc (Nat.le_refl _) _⟩
theorem plain_3b  (w : World) : Calls Tryz.prog 74 #[.iface 134 (.bool false)] w fun e w' => PlEnd (.mk 3 0 ByteArray.empty [] []) w e w' := by
 have hta0 : ∀ w, Sem.run Tryz.prog (Instr.typeAssert (.iface 134 (.bool false)) 94 132 true) w = .ok (.tuple #[.int .i64 0, .bool false]) w := fun _ => by kernel_rfl
 have hta1 : ∀ w, Sem.run Tryz.prog (Instr.typeAssert (.iface 134 (.bool false)) 94 133 true) w = .ok (.tuple #[.string ByteArray.empty, .bool false]) w := fun _ => by kernel_rfl
 have hta2 : ∀ w, Sem.run Tryz.prog (Instr.typeAssert (.iface 134 (.bool false)) 94 134 true) w = .ok (.tuple #[.bool false, .bool true]) w := fun _ => by kernel_rfl
 go_enter Tryz.func74, Tryz.ntmps74
 go_wp2_with fail
 refine bodyPost_ret (v := .agg #[.int .i64 3, .int .i64 0, .string ByteArray.empty, .slice none 0 0, .slice none 0 0]) (by simp [results, Tryz.results74, go_sem]; rfl) rfl ?_
 exact ⟨⟨_, _, _, _, _⟩, [], rfl, Own.leafT _ 3 0 ByteArray.empty ⟨by decide, by decide⟩ ⟨by decide, by decide⟩ (by simp), List.nodup_nil, fun b hb => by simp at hb, (Below.refl _ _).alloc (Nat.le_refl _) _⟩
theorem plain_4 (a : Option Addr) (cap : Nat) (ks : List Tr) (w : World) (hks : ∀ o, Calls Tryz.prog 108 #[.slice a ks.length cap] (w.alloc o) fun e w' => PksEnd ks (w.alloc o) e w') : Calls Tryz.prog 74 #[.iface 136 (.slice a ks.length cap)] w fun e w' => PlEnd (.mk 4 0 ByteArray.empty [] ks) w e w' := by
 have hta0 : ∀ w, Sem.run Tryz.prog (Instr.typeAssert (.iface 136 (.slice a ks.length cap)) 94 132 true) w = .ok (.tuple #[.int .i64 0, .bool false]) w := fun _ => by kernel_rfl
 have hta1 : ∀ w, Sem.run Tryz.prog (Instr.typeAssert (.iface 136 (.slice a ks.length cap)) 94 133 true) w = .ok (.tuple #[.string ByteArray.empty, .bool false]) w := fun _ => by kernel_rfl
 have hta2 : ∀ w, Sem.run Tryz.prog (Instr.typeAssert (.iface 136 (.slice a ks.length cap)) 94 134 true) w = .ok (.tuple #[.bool false, .bool false]) w := fun _ => by kernel_rfl
 have hta3 : ∀ w, Sem.run Tryz.prog (Instr.typeAssert (.iface 136 (.slice a ks.length cap)) 94 136 true) w = .ok (.tuple #[.slice a ks.length cap, .bool true]) w := fun _ => by kernel_rfl
 have HKS := hH hks
 clear hks
 go_enter Tryz.func74, Tryz.ntmps74
 go_wp2_with fail
 refine (uh HKS _).mono ?_
 rintro e w2 ⟨a2, cap2, F, rfl, hko, hnd, hF, hb2⟩
 have r2 := box_cells (w := w) rfl (hb2.block _ (by simp))
 obtain ⟨y0, y1, y2, y3, y4⟩ := cs5 r2 (by omega)
 have z0 := r2.frozen 0; have z1 := r2.frozen 1; have z2 := r2.frozen 2; have z3 := r2.frozen 3; have z4 := r2.frozen 4
 simp only [row5] at y0 y1 y2 y3 y4
 have HB2 := hH ((Below.refl w.heap.size w).alloc (Nat.le_refl _) _ |>.trans (hb2.mono (by simp)))
 have HKO := hH hko; have HF := hH hF
 clear hb2 HKS r2 hko hF
 go_wp2_with fail
 refine bodyPost_ret (v := .agg #[.int .i64 4, .int .i64 0, .string ByteArray.empty, .slice none 0 0, .slice a2 ks.length cap2]) (by simp [results, Tryz.results74, go_sem, y0, y1, y2, y3, y4]; rfl) rfl ?_
 exact fin_own (c := ⟨_, _, _, _, _⟩) (F := [] ++ F) (Own.make (t := .mk 4 0 ByteArray.empty [] ks) rfl rfl rfl (show I64 4 from ⟨by decide, by decide⟩) (show I64 0 from ⟨by decide, by decide⟩) (by simp [Tr.text]) ⟨none, 0, rfl, by simp [Tr.names], Or.inl ⟨rfl, rfl⟩⟩ (uh HKO)) hnd (fun b hb => by have := uh HF b hb; simp at this; omega) (uh HB2)
theorem plain_6 (a : Option Addr) (cap : Nat) (ks : List Tr) (w : World) (hks : ∀ o, Calls Tryz.prog 108 #[.slice a ks.length cap] (w.alloc o) fun e w' => PksEnd ks (w.alloc o) e w') : Calls Tryz.prog 74 #[.iface 141 (.slice a ks.length cap)] w fun e w' => PlEnd (.mk 6 0 ByteArray.empty [] ks) w e w' := by
 have hta0 : ∀ w, Sem.run Tryz.prog (Instr.typeAssert (.iface 141 (.slice a ks.length cap)) 94 132 true) w = .ok (.tuple #[.int .i64 0, .bool false]) w := fun _ => by kernel_rfl
 have hta1 : ∀ w, Sem.run Tryz.prog (Instr.typeAssert (.iface 141 (.slice a ks.length cap)) 94 133 true) w = .ok (.tuple #[.string ByteArray.empty, .bool false]) w := fun _ => by kernel_rfl
 have hta2 : ∀ w, Sem.run Tryz.prog (Instr.typeAssert (.iface 141 (.slice a ks.length cap)) 94 134 true) w = .ok (.tuple #[.bool false, .bool false]) w := fun _ => by kernel_rfl
 have hta3 : ∀ w, Sem.run Tryz.prog (Instr.typeAssert (.iface 141 (.slice a ks.length cap)) 94 136 true) w = .ok (.tuple #[.slice none 0 0, .bool false]) w := fun _ => by kernel_rfl
 have hta4 : ∀ w, Sem.run Tryz.prog (Instr.typeAssert (.iface 141 (.slice a ks.length cap)) 94 139 true) w = .ok (.tuple #[.agg #[.slice none 0 0, .slice none 0 0], .bool false]) w := fun _ => by kernel_rfl
 have hta5 : ∀ w, Sem.run Tryz.prog (Instr.typeAssert (.iface 141 (.slice a ks.length cap)) 94 141 true) w = .ok (.tuple #[.slice a ks.length cap, .bool true]) w := fun _ => by kernel_rfl
 have HKS := hH hks
 clear hks
 go_enter Tryz.func74, Tryz.ntmps74
 go_wp2_with fail
 refine (uh HKS _).mono ?_
 rintro e w2 ⟨a2, cap2, F, rfl, hko, hnd, hF, hb2⟩
 have r2 := box_cells (w := w) rfl (hb2.block _ (by simp))
 obtain ⟨y0, y1, y2, y3, y4⟩ := cs5 r2 (by omega)
 have z0 := r2.frozen 0; have z1 := r2.frozen 1; have z2 := r2.frozen 2; have z3 := r2.frozen 3; have z4 := r2.frozen 4
 simp only [row5] at y0 y1 y2 y3 y4
 have HB2 := hH ((Below.refl w.heap.size w).alloc (Nat.le_refl _) _ |>.trans (hb2.mono (by simp)))
 have HKO := hH hko; have HF := hH hF
 clear hb2 HKS r2 hko hF
 go_wp2_with fail
 refine bodyPost_ret (v := .agg #[.int .i64 6, .int .i64 0, .string ByteArray.empty, .slice none 0 0, .slice a2 ks.length cap2]) (by simp [results, Tryz.results74, go_sem, y0, y1, y2, y3, y4]; rfl) rfl ?_
 exact fin_own (c := ⟨_, _, _, _, _⟩) (F := [] ++ F) (Own.make (t := .mk 6 0 ByteArray.empty [] ks) rfl rfl rfl (show I64 6 from ⟨by decide, by decide⟩) (show I64 0 from ⟨by decide, by decide⟩) (by simp [Tr.text]) ⟨none, 0, rfl, by simp [Tr.names], Or.inl ⟨rfl, rfl⟩⟩ (uh HKO)) hnd (fun b hb => by have := uh HF b hb; simp at this; omega) (uh HB2)

structure PG (w : World) (vN vK : Value) (W : World) : Prop where
 below : Below w.heap.size w W
 box : W.rowIs w.heap.size 26 5 (row5 (.int .i64 0) (.int .i64 0) (.string ⟨#[]⟩) (.slice none 0 0) (.slice none 0 0))
 f0 : W.cell? ⟨w.heap.size + 1, 0, none⟩ = some vN
 f1 : W.cell? ⟨w.heap.size + 1, 1, none⟩ = some vK
theorem PG.lt {w W : World} {vN vK : Value} (h : PG w vN vK W) : w.heap.size + 2 ≤ W.heap.size := by have := World.block_lt_of_cell? W _ h.f0; simp at this; omega
theorem PG.next {w W W' : World} {vN vK : Value} (h : PG w vN vK W) (hb : Below W.heap.size W W') : PG w vN vK W' := by
 have hl := h.lt
 exact ⟨h.below.trans (hb.mono h.below.size), h.box.of_block (hb.block _ (by omega)), by rw [World.cell?_of_block (w := W) (a := ⟨w.heap.size + 1, 0, none⟩) (hb.block _ (by show w.heap.size + 1 < _; omega))]; exact h.f0, by rw [World.cell?_of_block (w := W) (a := ⟨w.heap.size + 1, 1, none⟩) (hb.block _ (by show w.heap.size + 1 < _; omega))]; exact h.f1⟩
theorem PG.drewN {w W : World} {vN vK : Value} (h : PG w vN vK W) (n : Nat) : PG w vN vK (W.drewN n) := ⟨below_drewN h.below n, h.box, h.f0, h.f1⟩
def PBoth (w W : World) (ns : List ByteArray) (ks : List Tr) (vN vK : Value) : Prop := ∃ F, Own W (.mk 5 0 ByteArray.empty ns ks) ⟨.int .i64 5, .int .i64 0, .string ByteArray.empty, vN, vK⟩ F ∧ F.Nodup ∧ (∀ b, b ∈ F → w.heap.size < b ∧ b < W.heap.size) ∧ Below w.heap.size w W
theorem pboth {w W : World} {ns : List ByteArray} {ks : List Tr} {vN vK : Value} {F1 F2 : List Nat} {m : Nat} (h1 : StrsOwn W vN ns F1) (h2 : KidsOwn W vK ks F2) (n1 : F1.Nodup) (n2 : F2.Nodup) (l1 : ∀ b, b ∈ F1 → w.heap.size < b ∧ b < W.heap.size) (l2 : ∀ b, b ∈ F2 → w.heap.size < b ∧ b < W.heap.size)
 (hap : (∀ b, b ∈ F1 → b < m) ∧ (∀ b, b ∈ F2 → m ≤ b) ∨ (∀ b, b ∈ F1 → m ≤ b) ∧ (∀ b, b ∈ F2 → b < m)) (hb : Below w.heap.size w W) : PBoth w W ns ks vN vK := by
 refine ⟨F1 ++ F2, Own.make (t := .mk 5 0 ByteArray.empty ns ks) rfl rfl rfl (show I64 5 from ⟨by decide, by decide⟩) (show I64 0 from ⟨by decide, by decide⟩) (by simp [Tr.text]) h1 h2, ?_, fun b hb => ?_, hb⟩
 · rw [List.nodup_append]
   refine ⟨n1, n2, fun a ha b hb e => ?_⟩
   subst e
   rcases hap with ⟨p1, p2⟩ | ⟨p1, p2⟩
   · have := p1 a ha; have := p2 a hb; omega
   · have := p1 a ha; have := p2 a hb; omega
 · rcases List.mem_append.1 hb with hb | hb
   · exact l1 b hb
   · exact l2 b hb
theorem plain_5 (aN : Option Addr) (capN : Nat) (ns : List ByteArray) (a : Option Addr) (cap : Nat) (ks : List Tr) (w : World)
 (hns : ∀ W, Below w.heap.size w W → Calls Tryz.prog 109 #[.slice aN ns.length capN] W fun e w' => ∃ v' F, e = .returned v' ∧ StrsOwn w' v' ns F ∧ F.Nodup ∧ (∀ b, b ∈ F → W.heap.size ≤ b ∧ b < w'.heap.size) ∧ Below W.heap.size W w')
 (hks : ∀ W, Below w.heap.size w W → Calls Tryz.prog 108 #[.slice a ks.length cap] W fun e w' => PksEnd ks W e w') :
 Calls Tryz.prog 74 #[.iface 139 (.agg #[.slice aN ns.length capN, .slice a ks.length cap])] w fun e w' => PlEnd (.mk 5 0 ByteArray.empty ns ks) w e w' := by
 have hta0 : ∀ w, Sem.run Tryz.prog (Instr.typeAssert (.iface 139 (.agg #[.slice aN ns.length capN, .slice a ks.length cap])) 94 132 true) w = .ok (.tuple #[.int .i64 0, .bool false]) w := fun _ => by kernel_rfl
 have hta1 : ∀ w, Sem.run Tryz.prog (Instr.typeAssert (.iface 139 (.agg #[.slice aN ns.length capN, .slice a ks.length cap])) 94 133 true) w = .ok (.tuple #[.string ByteArray.empty, .bool false]) w := fun _ => by kernel_rfl
 have hta2 : ∀ w, Sem.run Tryz.prog (Instr.typeAssert (.iface 139 (.agg #[.slice aN ns.length capN, .slice a ks.length cap])) 94 134 true) w = .ok (.tuple #[.bool false, .bool false]) w := fun _ => by kernel_rfl
 have hta3 : ∀ w, Sem.run Tryz.prog (Instr.typeAssert (.iface 139 (.agg #[.slice aN ns.length capN, .slice a ks.length cap])) 94 136 true) w = .ok (.tuple #[.slice none 0 0, .bool false]) w := fun _ => by kernel_rfl
 have hta4 : ∀ w, Sem.run Tryz.prog (Instr.typeAssert (.iface 139 (.agg #[.slice aN ns.length capN, .slice a ks.length cap])) 94 139 true) w = .ok (.tuple #[.agg #[.slice aN ns.length capN, .slice a ks.length cap], .bool true]) w := fun _ => by kernel_rfl
 have hN1 : ∀ W, PG w (.slice aN ns.length capN) (.slice a ks.length cap) W → Calls Tryz.prog 109 #[.slice aN ns.length capN] W fun e w' => ∃ (a1 : Option Addr) (cap1 : Nat) (F1 : List Nat), e = .returned (.slice a1 ns.length cap1) ∧ Hid (StrsOwn w' (.slice a1 ns.length cap1) ns F1 ∧ F1.Nodup ∧ (∀ b, b ∈ F1 → w.heap.size < b ∧ b < w'.heap.size)) ∧ Hid (PG w (.slice aN ns.length capN) (.slice a ks.length cap) w') ∧ w'.cell? ⟨w.heap.size + 1, 1, none⟩ = some (.slice a ks.length cap) := fun W hW => by
  refine (hns W hW.below).mono ?_
  rintro e w' ⟨v', F, rfl, h1, h2, h3, h4⟩
  have hg := hW.next h4
  have hl := hW.lt
  obtain ⟨a1, cap1, rfl, -⟩ := id h1
  exact ⟨a1, cap1, F, rfl, ⟨h1, h2, fun b hb => by have := h3 b hb; omega⟩, hg, hg.f1⟩
 have hK2 : ∀ W (a1 : Option Addr) (cap1 : Nat) (F1 : List Nat), PG w (.slice aN ns.length capN) (.slice a ks.length cap) W → StrsOwn W (.slice a1 ns.length cap1) ns F1 ∧ F1.Nodup ∧ (∀ b, b ∈ F1 → w.heap.size < b ∧ b < W.heap.size) → Calls Tryz.prog 108 #[.slice a ks.length cap] W fun e w' => ∃ (a2 : Option Addr) (cap2 : Nat), e = .returned (.slice a2 ks.length cap2) ∧ Hid (PBoth w w' ns ks (.slice a1 ns.length cap1) (.slice a2 ks.length cap2)) ∧ Hid (PG w (.slice aN ns.length capN) (.slice a ks.length cap) w') := fun W a1 cap1 F1 hW ⟨k1, k2, k3⟩ => by
  refine (hks W hW.below).mono ?_
  rintro e w' ⟨a2, cap2, F, rfl, h1, h2, h3, h4⟩
  have hg := hW.next h4
  have hl := hW.lt
  exact ⟨a2, cap2, rfl, pboth (m := W.heap.size) (k1.carry (fun b hb => h4.block b (k3 b hb).2)) h1 k2 h2 (fun b hb => by have := k3 b hb; have := h4.size; omega) (fun b hb => by have := h3 b hb; omega) (Or.inl ⟨fun b hb => (k3 b hb).2, fun b hb => (h3 b hb).1⟩) hg.below, hg⟩
 have HN1 := hH hN1; have HK2 := hH hK2
 clear hN1 hK2 hns hks
 go_enter Tryz.func74, Tryz.ntmps74
 go_wp2_with fail
 obtain ⟨W0, hW0⟩ : ∃ W0, (w.alloc (.cells #[.int .i64 0, .int .i64 0, .string ⟨#[]⟩, .slice none 0 0, .slice none 0 0] 26)).alloc (.cells #[.slice aN ns.length capN, .slice a ks.length cap] 139) = W0 := ⟨_, rfl⟩
 have hg0 : PG w (.slice aN ns.length capN) (.slice a ks.length cap) W0 := by
  rw [← hW0]
  refine ⟨((Below.refl _ _).alloc (Nat.le_refl _) _).alloc (by simp) _, (row5_alloc w _ _ _ _ _ _).alloc _, ?_, ?_⟩
  · simp [go_sem]
  · simp [go_sem]
 rw [hW0]
 have e0 := hg0.f0; have e1 := hg0.f1
 have HG0 := hH hg0
 clear hg0 hW0
 go_region_with (first
  | (go_at_call 109
     refine (uh HN1 _ (by first | exact uh HG0 | exact (uh HG0).drewN 1 | exact (uh HG0).drewN 2)).mono ?_
     rintro e w2 ⟨a1, cap1, F1, rfl, HS1, HG1, e2⟩)
  | (go_at_call 108
     refine (uh HK2 _ a1 cap1 F1 (uh HG1) (uh HS1)).mono ?_
     rintro e w3 ⟨a2, cap2, rfl, HPB, HG2⟩
     have r2 := (uh HG2).box
     obtain ⟨y0, y1, y2, y3, y4⟩ := cs5 r2 (by omega)
     have z0 := r2.frozen 0; have z1 := r2.frozen 1; have z2 := r2.frozen 2; have z3 := r2.frozen 3; have z4 := r2.frozen 4
     simp only [row5] at y0 y1 y2 y3 y4
     clear r2))
 all_goals
  go_wp2_with fail
  refine bodyPost_ret (v := .agg #[.int .i64 5, .int .i64 0, .string ByteArray.empty, .slice a1 ns.length cap1, .slice a2 ks.length cap2]) (by simp [results, Tryz.results74, go_sem, y0, y1, y2, y3, y4]; rfl) rfl ?_
  obtain ⟨F, h1, h2, h3, h4⟩ := uh HPB
  exact fin_own (c := ⟨_, _, _, _, _⟩) h1 h2 h3 h4
def PlSaid (n : Nat) : Prop := ∀ (t : Tr), tsz t < n → ∀ (p l q : Int), 0 ≤ p → p ≤ 120 → wlk t p l = some q → ∀ (Q : Nat → Prop) (v : Value) (w : World), (∀ b, Q b → b < w.heap.size) → SRep Q w t v → Calls Tryz.prog 74 #[v] w fun e w' => PlEnd t w e w'
theorem wlkK_len : ∀ (ks : List Tr) (p l q : Int), 0 ≤ p → p ≤ 120 → wlkK ks p l = some q → p + ks.length ≤ q ∧ q ≤ 120 := by
 intro ks
 induction ks with
 | nil => intro p l q h0 h1 h; rw [wlkK] at h; simp only [Option.some.injEq] at h; subst h; simp; omega
 | cons t r ih =>
   intro p l q h0 h1 h
   rw [wlkK] at h
   cases hw : wlk t p l with
   | none => rw [hw] at h; cases h
   | some q1 =>
     rw [hw] at h
     have hb := wlk_bd t p l q1 h0 h1 hw
     have := ih q1 l q (by omega) hb.2 h
     simp only [List.length_cons]
     omega
theorem wlkK_get : ∀ (ks : List Tr) (p l q : Int), 0 ≤ p → p ≤ 120 → wlkK ks p l = some q → ∀ i, (hi : i < ks.length) → ∃ p' q', 0 ≤ p' ∧ p' ≤ 120 ∧ wlk ks[i] p' l = some q' := by
 intro ks
 induction ks with
 | nil => intro p l q h0 h1 h i hi; simp at hi
 | cons t r ih =>
   intro p l q h0 h1 h i hi
   rw [wlkK] at h
   cases hw : wlk t p l with
   | none => rw [hw] at h; cases h
   | some q1 =>
     rw [hw] at h
     have hb := wlk_bd t p l q1 h0 h1 hw
     cases i with
     | zero => exact ⟨p, q1, h0, h1, hw⟩
     | succ i => exact ih q1 l q (by omega) hb.2 h i (by simpa using hi)
theorem infoTreeP : (Tryz.prog.info? 26).map (fun i => (i.zero, i.size, i.bytes)) = some (some (.agg #[.int .i64 0, .int .i64 0, .string ByteArray.empty, .slice none 0 0, .slice none 0 0]), 5, 80) := by kernel_rfl
theorem plainTrees_any (n : Nat) (IH : PlSaid n) (ks : List Tr) (hn : ∀ t, t ∈ ks → tsz t < n) (p l q : Int) (hp0 : 0 ≤ p) (hp1 : p ≤ 120) (hwk : wlkK ks p l = some q) (Q : Nat → Prop) (a : Option Addr) (cap : Nat) (w : World) (hQ : ∀ b, Q b → b < w.heap.size) (hv : SKids Q w (.slice a ks.length cap) ks) :
 Calls Tryz.prog 108 #[.slice a ks.length cap] w fun e w' => PksEnd ks w e w' := by
 have hlen := wlkK_len ks p l q hp0 hp1 hwk
 have hkl : ks.length ≤ 120 := by omega
 have hcell : ∀ i, (hi : i < ks.length) → ∃ b x, a = some ⟨b, 0, none⟩ ∧ Q b ∧ w.cell? ⟨b, i, none⟩ = some x ∧ SRep Q w ks[i] x := fun i hi => by
  obtain ⟨a', cap', e, h⟩ := hv
  simp only [Value.slice.injEq] at e
  obtain ⟨rfl, -, rfl⟩ := e
  obtain ⟨b, e2, hb, hr⟩ := h (fun e => by rw [e] at hi; simp at hi)
  obtain ⟨x, h1, h2⟩ := hr.get i hi
  exact ⟨b, x, e2, hb, by simpa using h1, h2⟩
 have hcall : ∀ i, (hi : i < ks.length) → ∀ x W, Below w.heap.size w W → SRep Q w ks[i] x → Calls Tryz.prog 74 #[x] W fun e w' => PlEnd ks[i] W e w' := fun i hi x W hW hx => by
  obtain ⟨p', q', h0, h1, h2⟩ := wlkK_get ks p l q hp0 hp1 hwk i hi
  exact IH ks[i] (hn _ (List.getElem_mem hi)) p' l q' h0 h1 h2 Q x W (fun b hb => Nat.lt_of_lt_of_le (hQ b hb) hW.size) (SRep.carry (fun b hb => hW.block b (hQ b hb)) (fun _ h => h) _ _ hx)
 obtain ⟨i0, hi, hz0, hz1, hz2⟩ := info_parts infoTreeP
 have HII := hH hi; have HZ0 := hH hz0; have HZ1 := hH hz1; have HZ2 := hH hz2
 have HC := hH hcell; have HCALL := hH hcall; have HQ := hH hQ
 clear hcell hcall hQ hi hz0 hz1 hz2 IH hn hwk hv hlen
 go_enter Tryz.func108, Tryz.ntmps108
 go_wp2_with fail
 go_loopw [3, 8] (fun s i wr => ∃ (k : Nat) (a' : Option Addr) (cap' : Nat) (xs : List Value) (G : List Nat), k ≤ ks.length ∧ i = .int .i64 k ∧ s = .slice a' k cap' ∧ Hid (GotO w.heap.size wr (.slice a' k cap') (ks.take k) xs G) ∧ Hid (Below w.heap.size w wr)) (fun _ i _ => ks.length - (intOf i).toNat)
 case atStart => exact ⟨0, none, 0, [], [], Nat.zero_le _, rfl, rfl, GotO.start _ _, Below.refl _ _⟩
 case round =>
  obtain ⟨k, a', cap', xs, G, hk, rfl, rfl, HG, HB⟩ := hrel
  have hsw := HB.out.size
  have hkk : (ks.take k).length = k := by simp; omega
  have HKL := hH hkk; clear hkk
  by_cases hlt : k < ks.length
  · obtain ⟨b, x, rfl, hqb, hce, hrp⟩ := uh HC k hlt
    have e0 : wr.cell? ⟨b, k, none⟩ = some x := by rw [World.cell?_of_block (w := w) (a := ⟨b, k, none⟩) (HB.out.block b (uh HQ b hqb))]; exact hce
    have hcl := uh HCALL k hlt x wr HB.out hrp
    obtain ⟨T, y, rfl⟩ := hrp.iface
    have htk : ks.take (k + 1) = ks.take k ++ [ks[k]] := List.take_succ_eq_append_getElem hlt
    generalize ks[k] = tk at *
    have HCL := hH hcl; have HTK := hH htk
    clear hcl htk hce hrp hqb
    go_wp2_with fail
    refine (uh HCL).mono ?_
    rintro e w2 ⟨⟨d0, d1, d2, d3, d4⟩, F, rfl, hown, hFn, hFl, hb2⟩
    have hs2 := hb2.size
    have hg2 : wr.grownBy w2 none := ⟨hb2.os, hb2.tape, hb2.output, hb2.size, fun i hi _ => hb2.block i hi⟩
    have hgot2 := HG.out.kept hg2
    have hGm : ∀ b, b ∈ G → b < wr.heap.size := fun b hb => (HG.out.lt b hb).2.1
    have hvm : ∀ b, (Value.slice a' k cap').ownBlock = some b → b < wr.heap.size := fun b hb => (HG.out.row.lt b hb).2
    obtain ⟨y0, y1, y2, -, -, -, F1, F2, -, ⟨a7, cap7, y3, -⟩, a8, cap8, y4, -⟩ := hown.open
    have hone := hown.one
    simp only at y0 y1 y2 y3 y4
    subst y0 y1 y2 y3 y4
    have HOWN := hH hown; have HFL := hH hFl; have HGOT := hH hgot2; have HGM := hH hGm; have HVM := hH hvm; have HONE := hH hone; have HB2 := hH (HB.out.trans (hb2.mono hsw))
    clear hown hFl hb2 hg2 hgot2 hGm hvm hone e0 HCL
    go_wp2_with (at_builtin; refine append_row _ rfl _ _ 24 rfl w.heap.size 26 i0 _ 5 80 Tryz.underlying24 (uh HII) (uh HZ0) (uh HZ1) (uh HZ2) rfl (by decide) (.slice a' k cap') k xs rfl (by have := (uh HGOT).row; rw [uh HKL] at this; exact this.alloc _) ⟨w2.heap.size, 0, none⟩ 1 1 (c5l ⟨_, _, _, _, _⟩) rfl rfl (cell_five _ _ _) (uh HONE) (by decide) (by unfold maxLen; omega) (by omega) (by simp; omega) ?_; intro v' w4 hown4 hgrow4 hv4)
    obtain ⟨g', cap'', hv''⟩ : ∃ g' cap'', v' = .slice (some ⟨g', 0, none⟩) (k + 1) cap'' := by
     rcases hown4.2 with ⟨_, h⟩ | ⟨g', cap'', _, h, _⟩
     · omega
     · exact ⟨g', cap'', h⟩
    have hal := World.grownBy_alloc w2 (.cells #[.int .i64 tk.sort, .int .i64 tk.num, .string tk.text, .slice a7 tk.names.length cap7, .slice a8 tk.kids.length cap8] 26) none
    have hlt4 := (uh HGOT).row.lt
    have hpush := GotO.push (m := wr.heap.size) ((uh HGOT).kept hal) (Own.carry tk _ F (fun b hb => hal.block b (uh HFL b hb).2 (by simp)) (uh HOWN)) hFn (fun b hb => ⟨(uh HFL b hb).1, by have := (uh HFL b hb).2; simp; omega⟩) (uh HGM) (uh HVM) (by omega) (by rw [uh HKL]; exact hown4) hgrow4 hv4
    rw [← uh HTK] at hpush
    have hb4 : Below w.heap.size w2 w4 := ((Below.refl _ w2).alloc (by omega) _).trans ((Below.refl _ _).grown hgrow4 (by simp; omega) (fun k e => (hlt4 k e).1))
    subst hv''
    have HPU := hH hpush; have HB4 := hH ((uh HB2).trans hb4)
    clear hown4 hgrow4 hv4 hpush hb4 hlt4 hal
    go_roundw
    case rel => exact ⟨k + 1, some ⟨g', 0, none⟩, cap'', _, _, by omega, by go_num, rfl, uh HPU, uh HB4⟩
    case measure => simp [intOf]; omega
  · obtain rfl : k = ks.length := by omega
    have hg := HG.out
    rw [List.take_length] at hg
    obtain ⟨F, hKO, hnd, hFl, -⟩ := hg.done
    have HKO := hH hKO; have HFL := hH hFl
    clear hg hKO hFl
    go_wp2_with fail
    go_ret
    exact ⟨a', cap', F, rfl, uh HKO, hnd, uh HFL, HB.out⟩
theorem plainTree_step (n : Nat) (IH : PlSaid n) : PlSaid (n + 1) := by
 intro t hn p l q hp0 hp1 hw Q v w hQ hr
 obtain ⟨h1, h2, ho, hnb, hk⟩ := wlk_open hw
 have hlen := wlkK_len t.kids (p + 1) (l + 1) q (by omega) h1 hk
 have hkn : ∀ k, k ∈ t.kids → tsz k < n := fun k hk => by have := tsz_kid hk; omega
 have hpk : ∀ (a : Option Addr) (cap : Nat) (W : World), Below w.heap.size w W → SKids Q w (.slice a t.kids.length cap) t.kids → Calls Tryz.prog 108 #[.slice a t.kids.length cap] W fun e w' => PksEnd t.kids W e w' := fun a cap W hW hs =>
  plainTrees_any n IH t.kids hkn (p + 1) (l + 1) q (by omega) h1 hk Q a cap W (fun b hb => Nat.lt_of_lt_of_le (hQ b hb) hW.size) (hs.carry (fun b hb => hW.block b (hQ b hb)) (fun _ h => h))
 have hba : ∀ o, Below w.heap.size w (w.alloc o) := fun o => (Below.refl _ _).alloc (Nat.le_refl _) o
 rcases shapes ho hnb with ⟨m, rfl, hm⟩ | ⟨x, rfl, hx⟩ | ⟨m, rfl, hm⟩ | ⟨ks, rfl, hks⟩ | ⟨ns, ks, rfl, hnl, hri⟩ | ⟨ks, rfl, hks⟩
 · rw [SRep] at hr
   rcases hr with ⟨-, rfl⟩ | ⟨h, -⟩ | ⟨h, -⟩ | ⟨h, -⟩ | ⟨h, -⟩ | ⟨h, -⟩
   · exact plain_1 m hm w
   all_goals exact absurd h (by decide)
 · rw [SRep] at hr
   rcases hr with ⟨h, -⟩ | ⟨-, rfl⟩ | ⟨h, -⟩ | ⟨h, -⟩ | ⟨h, -⟩ | ⟨h, -⟩
   · exact absurd h (by decide)
   · refine plain_2 x ?_ w
     unfold textOkB at hx
     simp only [Bool.and_eq_true, decide_eq_true_eq] at hx
     omega
   all_goals exact absurd h (by decide)
 · rw [SRep] at hr
   rcases hr with ⟨h, -⟩ | ⟨h, -⟩ | ⟨-, rfl⟩ | ⟨h, -⟩ | ⟨h, -⟩ | ⟨h, -⟩
   · exact absurd h (by decide)
   · exact absurd h (by decide)
   · rcases hm with rfl | rfl
     · exact plain_3b w
     · exact plain_3a w
   all_goals exact absurd h (by decide)
 · rw [SRep] at hr
   rcases hr with ⟨h, -⟩ | ⟨h, -⟩ | ⟨h, -⟩ | ⟨-, a, cap, rfl, hkk⟩ | ⟨h, -⟩ | ⟨h, -⟩
   · exact absurd h (by decide)
   · exact absurd h (by decide)
   · exact absurd h (by decide)
   · exact plain_4 a cap ks w (fun o => hpk a cap (w.alloc o) (hba o) ⟨a, cap, rfl, hkk⟩)
   all_goals exact absurd h (by decide)
 · rw [SRep] at hr
   rcases hr with ⟨h, -⟩ | ⟨h, -⟩ | ⟨h, -⟩ | ⟨h, -⟩ | ⟨-, v3, a, cap, rfl, hst, hkk⟩ | ⟨h, -⟩
   · exact absurd h (by decide)
   · exact absurd h (by decide)
   · exact absurd h (by decide)
   · exact absurd h (by decide)
   · have hst' := hst
     obtain ⟨aN, capN, rfl, hl3, -⟩ := hst
     simp only [Tr.kids] at hlen
     refine plain_5 aN capN ns a cap ks w (fun W hW => ?_) (fun W hW => hpk a cap W hW ⟨a, cap, rfl, hkk⟩)
     refine copyNames_any (.slice aN ns.length capN) ns W (P := Q) (fun b hb => Nat.lt_of_lt_of_le (hQ b hb) hW.size) (hst'.carry (fun b hb => hW.block b (hQ b hb)) (fun _ h => h)) (by omega) (fun x hx => ?_)
     obtain ⟨i, hi, rfl⟩ := List.getElem_of_mem hx
     have := rise_name hri i hi
     unfold nameOkB at this
     simp only [Bool.and_eq_true, decide_eq_true_eq] at this
     omega
   · exact absurd h (by decide)
 · rw [SRep] at hr
   rcases hr with ⟨h, -⟩ | ⟨h, -⟩ | ⟨h, -⟩ | ⟨h, -⟩ | ⟨h, -⟩ | ⟨-, a, cap, rfl, hkk⟩
   · exact absurd h (by decide)
   · exact absurd h (by decide)
   · exact absurd h (by decide)
   · exact absurd h (by decide)
   · exact absurd h (by decide)
   · exact plain_6 a cap ks w (fun o => hpk a cap (w.alloc o) (hba o) ⟨a, cap, rfl, hkk⟩)
theorem plainTree_all : ∀ n, PlSaid n
 | 0 => fun _ h => absurd h (Nat.not_lt_zero _)
 | n + 1 => plainTree_step n (plainTree_all n)

def zE : Nat → Value := row7 (.string ⟨#[]⟩) (.int .i64 0) (.int .i64 0) (.int .i64 0) (.string ⟨#[]⟩) (.slice none 0 0) (.slice none 0 0)
abbrev evZ : Obj := .cells #[.string ⟨#[]⟩, .int .i64 0, .int .i64 0, .int .i64 0, .string ⟨#[]⟩, .slice none 0 0, .slice none 0 0] 28
theorem but_put {B : Nat} {w w' : World} (h : But B w w') {b o : Nat} (hb : w.heap.size ≤ b) (v : Value) : But B w (w'.setCell ⟨b, o, none⟩ v) :=
 ⟨h.os, h.tape, h.output, by simp only [World.setCell, Array.size_modify]; exact h.size, fun i hi hne => by rw [Below.heap_setCell _ _ _ _ (by show i ≠ b; omega)]; exact h.block i hi hne⟩
structure EB (w : World) (R : Nat) (s : ByteArray) (a : Nat) (p l : Int) (f : Nat → Value) (W : World) : Prop where
 box : W.cell? ⟨w.heap.size, 0, none⟩ = some (.pointer (some ⟨R, 0, none⟩))
 ans : W.rowIs (w.heap.size + 1) 28 7 zE
 read : W.rowIs (w.heap.size + 2) 28 7 f
 tr : TR W R s a p l
 but : But R w W
 size : w.heap.size + 3 ≤ W.heap.size
 lt : R < w.heap.size
section
variable {w W W' : World} {R : Nat} {s : ByteArray} {a a' : Nat} {p l p' l' : Int} {f : Nat → Value}
theorem EB.next (h : EB w R s a p l f W) (hb : But R W W') (ht : TR W' R s a' p' l') : EB w R s a' p' l' f W' := by
 have h1 := h.lt; have h2 := h.size
 have e : W'.heap[w.heap.size]? = W.heap[w.heap.size]? := hb.at (by omega) (by omega)
 exact ⟨by rw [World.cell?_of_block (w := W) e]; exact h.box, h.ans.of_block (hb.at (by omega) (by omega)), h.read.of_block (hb.at (by omega) (by omega)), ht, h.but.trans hb, Nat.le_trans h2 hb.size, h1⟩
theorem EB.set (h : EB w R s a p l f W) (j : Nat) (v : Value) : EB w R s a p l (fun i => if i = j then v else f i) (W.setCell ⟨w.heap.size + 2, j, none⟩ v) := by
 have h1 := h.lt; have h2 := h.size
 refine ⟨?_, h.ans.setOther (by simp) _, h.read.set j v, h.tr.of_block (Below.heap_setCell _ _ _ _ (by simp; omega)), but_put h.but (by omega) v, by rw [World.size_setCell]; exact h2, h1⟩
 rw [World.cell?_setCell_other _ _ _ _ (fun e => by have := congrArg Addr.block e; simp at this)]; exact h.box
theorem EB.on (h : EB w R s a p l f W) (hb : Below W.heap.size W W') : EB w R s a p l f W' := h.next (But.of_below hb) (h.tr.of_block (hb.block R h.tr.lt))
theorem EB.drewN (h : EB w R s a p l f W) (m : Nat) : EB w R s a p l f (W.drewN m) := ⟨h.box, h.ans.of_block rfl, h.read.of_block rfl, h.tr.drewN m, but_drewN h.but m, h.size, h.lt⟩
end
theorem eb_start {w : World} {R : Nat} {s : ByteArray} (h : TR w R s 0 0 0) : EB w R s 0 0 0 zE (((w.alloc (.cells #[.pointer (some ⟨R, 0, none⟩)] 63)).alloc evZ).alloc evZ) := by
 have hlt := h.lt
 have b0 : (w.alloc (.cells #[.pointer (some ⟨R, 0, none⟩)] 63)).cell? ⟨w.heap.size, 0, none⟩ = some (.pointer (some ⟨R, 0, none⟩)) := by simp [go_sem]
 have hb1 : Below (w.alloc (.cells #[.pointer (some ⟨R, 0, none⟩)] 63)).heap.size (w.alloc (.cells #[.pointer (some ⟨R, 0, none⟩)] 63)) (((w.alloc (.cells #[.pointer (some ⟨R, 0, none⟩)] 63)).alloc evZ).alloc evZ) := ((Below.refl _ _).alloc (Nat.le_refl _) _).alloc (by simp) _
 have r1 := (row7_alloc (w.alloc (.cells #[.pointer (some ⟨R, 0, none⟩)] 63)) (.string ⟨#[]⟩) (.int .i64 0) (.int .i64 0) (.int .i64 0) (.string ⟨#[]⟩) (.slice none 0 0) (.slice none 0 0) 28).alloc evZ
 have r2 := row7_alloc ((w.alloc (.cells #[.pointer (some ⟨R, 0, none⟩)] 63)).alloc evZ) (.string ⟨#[]⟩) (.int .i64 0) (.int .i64 0) (.int .i64 0) (.string ⟨#[]⟩) (.slice none 0 0) (.slice none 0 0) 28
 rw [World.size_alloc] at r1
 rw [World.size_alloc, World.size_alloc] at r2
 refine ⟨?_, r1, r2, ((h.alloc _).alloc _).alloc _, ((But.alloc R w _).trans (But.alloc R _ _)).trans (But.alloc R _ _), by simp, hlt⟩
 rw [hb1.cell (by simp)]
 exact b0
def WhE (R : Nat) (w w' : World) (s : ByteArray) (e : Ending) : Prop :=
 But R w w' ∧ ((∃ (ty : ByteArray) (ver : Int) (t : Tr) (c : C5) (F : List Nat), e = .returned (.agg #[.string ty, .int .i64 ver, c.c0, c.c1, c.c2, c.c3, c.c4]) ∧ Own w' t c F ∧ F.Nodup ∧ (∀ x, x ∈ F → w.heap.size ≤ x ∧ x < w'.heap.size) ∧ EvR s.data.toList ty ver t)
  ∨ (e = fltE ∧ ∀ ty ver t, ¬ EvR s.data.toList ty ver t))
theorem ext_all (s : ByteArray) : s.extract 0 s.size = s := by simp
theorem wholeE_any (w : World) (R : Nat) (s : ByteArray) (hs : s.size ≤ 1048576) (h : TR w R s 0 0 0) (hE : Env w) (hT : Tab w) (hR : gTop ≤ R) (hRT : 1 < R) :
 Calls Tryz.prog 41 #[.agg #[.pointer (some ⟨R, 0, none⟩)]] w fun e w' => WhE R w w' s e := by
 have hlt := h.lt
 have hst := eb_start h
 have hba : But R w ((w.alloc (.cells #[.pointer (some ⟨R, 0, none⟩)] 63)).alloc evZ) := (But.alloc R w _).trans (But.alloc R _ _)
 have hta : TR ((w.alloc (.cells #[.pointer (some ⟨R, 0, none⟩)] 63)).alloc evZ) R s 0 0 0 := (h.alloc _).alloc _
 have hsa : ((w.alloc (.cells #[.pointer (some ⟨R, 0, none⟩)] 63)).alloc evZ).heap.size = w.heap.size + 2 := by simp
 have xa : ((w.alloc (.cells #[.pointer (some ⟨R, 0, none⟩)] 63)).alloc evZ).cell? ⟨w.heap.size, 0, none⟩ = some (.pointer (some ⟨R, 0, none⟩)) := by
  have hb1 : Below (w.alloc (.cells #[.pointer (some ⟨R, 0, none⟩)] 63)).heap.size (w.alloc (.cells #[.pointer (some ⟨R, 0, none⟩)] 63)) ((w.alloc (.cells #[.pointer (some ⟨R, 0, none⟩)] 63)).alloc evZ) := (Below.refl _ _).alloc (Nat.le_refl _) _
  rw [hb1.cell (by simp)]; simp [go_sem]
 obtain ⟨Wa, hWa⟩ : ∃ Wa, (w.alloc (.cells #[.pointer (some ⟨R, 0, none⟩)] 63)).alloc (.cells #[.string ⟨#[]⟩, .int .i64 0, .int .i64 0, .int .i64 0, .string ⟨#[]⟩, .slice none 0 0, .slice none 0 0] 28) = Wa := ⟨_, rfl⟩
 rw [hWa] at hst hba hta hsa xa
 obtain ⟨Wb, hWb⟩ : ∃ Wb, Wa.alloc (.cells #[.string ⟨#[]⟩, .int .i64 0, .int .i64 0, .int .i64 0, .string ⟨#[]⟩, .slice none 0 0, .slice none 0 0] 28) = Wb := ⟨_, rfl⟩
 rw [hWb] at hst
 have ca := hta.tx.c0
 have HEV := hH (fun ty v t (h : EvR s.data.toList ty v t) => ev_all h)
 have hkl := tE_le s
 by_cases h10 : s.size ≤ 10000
 · have hd : decide ((s.size : Int) ≤ 10000) = true := by simp; omega
   have htn := typeName_any Wb R s 0 0 0 hs hst.tr (Nat.zero_le _)
   rw [ext_all, Nat.zero_add] at htn
   have HMK := hH (fun (n : Int) (t : Tr) (q : Int) => ev_make (s := s) (n := n) (t := t) (q := q))
   generalize hk : tE s = k at *
   generalize hty : s.extract 0 k = ty at *
   have htys : ty.size ≤ 9223372036854775807 := by rw [← hty, ByteArray.size_extract]; omega
   have xb := hst.box
   have HTN := hH htn; have HST := hH hst; have HE := hH hE; have HT := hH hT
   clear htn hst hE hT h hk hty hba hta
   go_enter Tryz.func41, Tryz.ntmps41
   go_wp2_with (first
    | (go_at_call 68; refine (treeWant_yes _).mono ?_; rintro e w2 ⟨rfl, rfl⟩)
    | (go_at_call 71
       refine (uh HTN).mono ?_
       rintro e w3 ⟨rfl, ht3, hb3⟩
       have hst3 := (uh HST).next hb3 ht3
       have p0 : w3.cell? ⟨w.heap.size + 2, 0, none⟩ = some (.string ⟨#[]⟩) := hst3.read.cell (i := 0) (by omega)
       have pf := hst3.read.frozen 0
       have hst4 := hst3.set 0 (.string ty)
       obtain ⟨W4, hW4⟩ : ∃ W4, w3.setCell ⟨w.heap.size + 2, 0, none⟩ (.string ty) = W4 := ⟨_, rfl⟩
       rw [hW4] at hst4
       have x4 := hst4.box
       have HST4 := hH hst4
       clear hst3 hst4 ht3 hb3 HTN HST))
   by_cases h64 : (lf s k).head? = some 64
   · have hst4 := uh HST4
     have htk : Calls Tryz.prog 72 #[.pointer (some ⟨R, 2, none⟩), .string ⟨#[64]⟩] W4 fun e w' => e = .returned (.tuple #[]) ∧ Tx w' R 2 s (k + 1) ∧ Mv R 3 W4 w' := xtake_yes W4 R 2 s (w1 64) k hs hst4.tr.tx hkl (by decide) (by decide) (by rw [pre_one]; exact decide_eq_true h64)
     have hkr := lf_room h64
     have HNO := hH h64
     refine htk.mono ?_
     rintro e w5 ⟨rfl, ht5, hm5⟩
     have hst5 := hst4.next hm5.but (hst4.tr.mv hm5 ht5)
     have x5 := hst5.box
     have HN := hH (number_any w5 R 2 s (k + 1) hs ht5 hkr ((uh HE).but hst5.but hR) hR)
     obtain ⟨hna1, hna2, -, hna4⟩ := num_at (s := s) (a := k + 1) hkr
     have hrl := rn_le isDg s (nAt s (k + 1)) hna2
     have HST5 := hH hst5; have HA4 := hH hna4
     clear hst4 hst5 htk ht5 hm5 HST4 x4 hW4 h64 hna4 hna1 hna2
     generalize nAt s (k + 1) + rn isDg s (nAt s (k + 1)) = a2 at *
     go_wp2_with fail
     refine (uh HN).mono ?_
     rintro e w6 ⟨hm6, ht6, ⟨n, hn1, hn2, rfl⟩ | ⟨hn1, rfl⟩⟩
     · have hst6 := (uh HST5).next hm6.but ((uh HST5).tr.mg hm6 ht6)
       obtain ⟨hn0, hn0'⟩ := Lib.atoiAll_bounds hn1
       have p1 : w6.cell? ⟨w.heap.size + 2, 1, none⟩ = some (.int .i64 0) := by
        have := hst6.read.cell (i := 1) (by omega)
        simpa [zE, row7] using this
       have pf := hst6.read.frozen 1
       have hst7 := hst6.set 1 (.int .i64 n)
       obtain ⟨W7, hW7⟩ : ∃ W7, w6.setCell ⟨w.heap.size + 2, 1, none⟩ (.int .i64 n) = W7 := ⟨_, rfl⟩
       rw [hW7] at hst7
       have x7 := hst7.box
       have htr := treeR_all 6 (Nat.le_refl _) W7 R s a2 0 hs (by simpa using hst7.tr) (by omega) ((uh HE).but hst7.but hR) hR (by omega) (by omega)
       rw [show (6 : Int) - ((6 : Nat) : Int) = 0 from by decide, uh HA4] at htr
       have HTR := hH htr; have HST7 := hH hst7; have HN1 := hH hn1; have HN2 := hH hn2
       clear htr hst6 hst7 hm6 ht6 hn1 hn2 HN HST5 x5
       go_wp2_with fail
       refine (uh HTR).mono ?_
       rintro e w8 ⟨hb8, ⟨t, a3, q, v, g1, g2, rfl, g4, g5, g6, g7⟩ | ⟨g1, rfl⟩⟩
       · have hst8 := (uh HST7).next hb8 g5
         have hwl := ev_wlk g1
         have hpl := plainTree_all (tsz t + 1) t (by omega) 0 0 q (by omega) (by omega) hwl (fun b => W7.heap.size ≤ b ∧ b < w8.heap.size) v w8 (fun _ h => h.2) g4
         obtain ⟨T, x, rfl⟩ := g4.iface
         have x8 := hst8.box
         have HPL := hH hpl; have HST8 := hH hst8; have HG1 := hH g1
         clear hpl hst8 g1 g4 g5 hb8 hwl HTR HST7 x7 hW7 p1 pf
         go_wp2_with fail
         refine (uh HPL).mono ?_
         rintro e w9 ⟨⟨d0, d1, d2, d3, d4⟩, F, rfl, ho, hnd, hF, hb9⟩
         obtain ⟨e0, e1, e2, -, -, -, F1, F2, -, ⟨a5, cap5, e3, -⟩, a6, cap6, e4, -⟩ := ho.open
         simp only at e0 e1 e2 e3 e4
         subst e0 e1 e2 e3 e4
         have hst9 := (uh HST8).on hb9
         have hsz8 := (uh HST8).size
         have q2 : w9.cell? ⟨w.heap.size + 2, 2, none⟩ = some (.int .i64 0) := by have := hst9.read.cell (i := 2) (by omega); simpa [zE, row7] using this
         have q3 : w9.cell? ⟨w.heap.size + 2, 3, none⟩ = some (.int .i64 0) := by have := hst9.read.cell (i := 3) (by omega); simpa [zE, row7] using this
         have q4 : w9.cell? ⟨w.heap.size + 2, 4, none⟩ = some (.string ⟨#[]⟩) := by have := hst9.read.cell (i := 4) (by omega); simpa [zE, row7] using this
         have q5 : w9.cell? ⟨w.heap.size + 2, 5, none⟩ = some (.slice none 0 0) := by have := hst9.read.cell (i := 5) (by omega); simpa [zE, row7] using this
         have q6 : w9.cell? ⟨w.heap.size + 2, 6, none⟩ = some (.slice none 0 0) := by have := hst9.read.cell (i := 6) (by omega); simpa [zE, row7] using this
         have qf := hst9.read.frozen
         have hst10 := ((((hst9.set 2 (.int .i64 t.sort)).set 3 (.int .i64 t.num)).set 4 (.string t.text)).set 5 (.slice a5 t.names.length cap5)).set 6 (.slice a6 t.kids.length cap6)
         have ho10 : Own (((((w9.setCell ⟨w.heap.size + 2, 2, none⟩ (.int .i64 t.sort)).setCell ⟨w.heap.size + 2, 3, none⟩ (.int .i64 t.num)).setCell ⟨w.heap.size + 2, 4, none⟩ (.string t.text)).setCell ⟨w.heap.size + 2, 5, none⟩ (.slice a5 t.names.length cap5)).setCell ⟨w.heap.size + 2, 6, none⟩ (.slice a6 t.kids.length cap6)) t ⟨.int .i64 t.sort, .int .i64 t.num, .string t.text, .slice a5 t.names.length cap5, .slice a6 t.kids.length cap6⟩ F := Own.carry t _ F (fun b hb => by have := (hF b hb).1; repeat rw [Below.heap_setCell _ _ _ _ (by simp <;> omega)]) ho
         have hF10 : ∀ b, b ∈ F → w.heap.size + 3 ≤ b ∧ b < (((((w9.setCell ⟨w.heap.size + 2, 2, none⟩ (.int .i64 t.sort)).setCell ⟨w.heap.size + 2, 3, none⟩ (.int .i64 t.num)).setCell ⟨w.heap.size + 2, 4, none⟩ (.string t.text)).setCell ⟨w.heap.size + 2, 5, none⟩ (.slice a5 t.names.length cap5)).setCell ⟨w.heap.size + 2, 6, none⟩ (.slice a6 t.kids.length cap6)).heap.size := fun b hb => by have := hF b hb; simp only [World.size_setCell]; omega
         obtain ⟨W10, hW10⟩ : ∃ W10, (((((w9.setCell ⟨w.heap.size + 2, 2, none⟩ (.int .i64 t.sort)).setCell ⟨w.heap.size + 2, 3, none⟩ (.int .i64 t.num)).setCell ⟨w.heap.size + 2, 4, none⟩ (.string t.text)).setCell ⟨w.heap.size + 2, 5, none⟩ (.slice a5 t.names.length cap5)).setCell ⟨w.heap.size + 2, 6, none⟩ (.slice a6 t.kids.length cap6)) = W10 := ⟨_, rfl⟩
         rw [hW10] at hst10 ho10 hF10
         have x10 := hst10.box
         have r0 : W10.cell? ⟨w.heap.size + 2, 0, none⟩ = some (.string ty) := by have := hst10.read.cell (i := 0) (by omega); simpa using this
         have r1 : W10.cell? ⟨w.heap.size + 2, 1, none⟩ = some (.int .i64 n) := by have := hst10.read.cell (i := 1) (by omega); simpa using this
         have r2 : W10.cell? ⟨w.heap.size + 2, 2, none⟩ = some (.int .i64 t.sort) := by have := hst10.read.cell (i := 2) (by omega); simpa using this
         have r3 : W10.cell? ⟨w.heap.size + 2, 3, none⟩ = some (.int .i64 t.num) := by have := hst10.read.cell (i := 3) (by omega); simpa using this
         have r4 : W10.cell? ⟨w.heap.size + 2, 4, none⟩ = some (.string t.text) := by have := hst10.read.cell (i := 4) (by omega); simpa using this
         have r5 : W10.cell? ⟨w.heap.size + 2, 5, none⟩ = some (.slice a5 t.names.length cap5) := by have := hst10.read.cell (i := 5) (by omega); simpa using this
         have r6 : W10.cell? ⟨w.heap.size + 2, 6, none⟩ = some (.slice a6 t.kids.length cap6) := by have := hst10.read.cell (i := 6) (by omega); simpa using this
         have HST10 := hH hst10; have HO := hH ho10; have HF := hH hF10
         clear hst9 hst10 ho10 hF10 ho hF hb9 HPL HST8 x8
         by_cases hend : a3 = s.size
         · subst hend
           have HEN := hH (xend_yes W10 R 2 s (uh HST10).tr.tx)
           go_wp2_with (go_at_call 76; refine (uh HEN).mono ?_; rintro e w11 ⟨rfl, m, rfl⟩)
           have hst11 := (uh HST10).drewN m
           have ho11 : Own (W10.drewN m) t ⟨.int .i64 t.sort, .int .i64 t.num, .string t.text, .slice a5 t.names.length cap5, .slice a6 t.kids.length cap6⟩ F := Own.carry (w := W10) t _ F (fun _ _ => rfl) (uh HO)
           have hok := implEventOk_any ty n t (· ∈ F) ⟨.int .i64 t.sort, .int .i64 t.num, .string t.text, .slice a5 t.names.length cap5, .slice a6 t.kids.length cap6⟩ (W10.drewN m) (fun b hb => (uh HF b hb).2) (Own.rep t _ F (fun _ h => h) ho11) htys ⟨hn0, hn0'⟩ ((uh HT).but hst11.but hRT)
           refine hok.mono ?_
           rintro e w12 ⟨rfl, hb12⟩
           have hst12 := hst11.on hb12
           have ho12 := Own.carry t _ F (fun b hb => hb12.block b (uh HF b hb).2) ho11
           have hs12 := hb12.size
           cases hb : evOkB ty n t with
           | true =>
             have hu : EvR s.data.toList ty n t := ⟨hb, uh HMK n t q (uh HNO) (uh HN2) (by rw [uh HG1, lf_nil (Nat.le_refl _)])⟩
             obtain ⟨a0, a1⟩ := cs2 hst12.ans (by omega); have a2' := hst12.ans.cell (i := 2) (by omega); have a3 := hst12.ans.cell (i := 3) (by omega); have a4 := hst12.ans.cell (i := 4) (by omega); have a5' := hst12.ans.cell (i := 5) (by omega); have a6' := hst12.ans.cell (i := 6) (by omega)
             have af := hst12.ans.frozen
             simp only [zE, row7] at a0 a1 a2' a3 a4 a5' a6'
             have s0 : w12.cell? ⟨w.heap.size + 2, 0, none⟩ = some (.string ty) := by have := hst12.read.cell (i := 0) (by omega); simpa using this
             have s1 : w12.cell? ⟨w.heap.size + 2, 1, none⟩ = some (.int .i64 n) := by have := hst12.read.cell (i := 1) (by omega); simpa using this
             have s2 : w12.cell? ⟨w.heap.size + 2, 2, none⟩ = some (.int .i64 t.sort) := by have := hst12.read.cell (i := 2) (by omega); simpa using this
             have s3 : w12.cell? ⟨w.heap.size + 2, 3, none⟩ = some (.int .i64 t.num) := by have := hst12.read.cell (i := 3) (by omega); simpa using this
             have s4 : w12.cell? ⟨w.heap.size + 2, 4, none⟩ = some (.string t.text) := by have := hst12.read.cell (i := 4) (by omega); simpa using this
             have s5 : w12.cell? ⟨w.heap.size + 2, 5, none⟩ = some (.slice a5 t.names.length cap5) := by have := hst12.read.cell (i := 5) (by omega); simpa using this
             have s6 : w12.cell? ⟨w.heap.size + 2, 6, none⟩ = some (.slice a6 t.kids.length cap6) := by have := hst12.read.cell (i := 6) (by omega); simpa using this
             have HU := hH hu; have HB12 := hH hst12.but; have HO12 := hH ho12; have HS12 := hH hs12
             clear hu hst12 hst11 ho12 ho11 hok hb12 hs12 HEN HST10 HO x10 r0 r1 r2 r3 r4 r5 r6 q2 q3 q4 q5 q6 qf hW10
             go_wp2_with (go_at_call 68; refine (treeWant_yes _).mono ?_; rintro e w13 ⟨rfl, rfl⟩)
             refine bodyPost_ret (v := .agg #[.string ty, .int .i64 n, .int .i64 t.sort, .int .i64 t.num, .string t.text, .slice a5 t.names.length cap5, .slice a6 t.kids.length cap6]) (by simp [results, Tryz.results41, go_sem, a0, a1, a2', a3, a4, a5', a6']) rfl ?_
             refine ⟨?_, Or.inl ⟨ty, n, t, ⟨_, _, _, _, _⟩, F, rfl, Own.carry _ _ F (fun y hy => by have := (uh HF y hy).1; repeat rw [Below.heap_setCell _ _ _ _ (by simp <;> omega)]) (uh HO12), hnd, fun y hy => ⟨by have := (uh HF y hy).1; omega, by simp only [World.size_setCell]; have := (uh HF y hy).2; have := uh HS12; simp at this; omega⟩, uh HU⟩⟩
             repeat refine but_put ?_ (by omega) _
             exact uh HB12
           | false =>
             have hnn : ∀ ty' ver' t', ¬ EvR s.data.toList ty' ver' t' := fun ty' ver' t' h => by
              obtain ⟨-, b2, -, b4, b5, b6⟩ := uh HEV ty' ver' t' h
              have hn1 := uh HN1
              have hg1 := uh HG1
              rw [b4] at hn1 hg1
              rw [b5] at hn1
              rw [b6] at hg1
              simp only [Lib.NumEnd.ok.injEq, Option.some.injEq, Prod.mk.injEq] at hn1 hg1
              have h1 := h.1
              rw [← b2, hn1, hg1.1, hb] at h1
              cases h1
             have HNN := hH hnn
             clear hnn
             have HB12 := hH hst12.but
             clear hst12 hst11 ho12 ho11 hok hb12 hs12 HEN HST10 HO x10 r0 r1 r2 r3 r4 r5 r6 q2 q3 q4 q5 q6 qf hW10
             go_wp2_with (go_at_call 68; refine (treeWant_no _).mono ?_; rintro e w13 ⟨rfl, rfl⟩)
             exact ⟨rfl, uh HB12, Or.inr ⟨rfl, uh HNN⟩⟩
         · have HEN := hH (xend_no W10 R 2 s a3 (uh HST10).tr.tx (by omega))
           go_wp2_with (go_at_call 76; refine (uh HEN).mono ?_; rintro e w11 ⟨rfl, m, rfl⟩)
           refine ⟨rfl, but_drewN (uh HST10).but m, Or.inr ⟨rfl, fun ty' ver' t' h => ?_⟩⟩
           obtain ⟨-, b2, -, b4, b5, b6⟩ := uh HEV ty' ver' t' h
           have hg1 := uh HG1
           rw [b4] at hg1
           rw [b6] at hg1
           simp only [Option.some.injEq, Prod.mk.injEq] at hg1
           have := lf_len s a3
           rw [← hg1.2.1] at this
           simp at this
           omega
       · have hb := (uh HST7).but.trans hb8
         refine ⟨rfl, hb, Or.inr ⟨rfl, fun ty' ver' t' h => ?_⟩⟩
         obtain ⟨-, b2, -, b4, b5, b6⟩ := uh HEV ty' ver' t' h
         rw [b4, b6] at g1
         cases g1
     · refine ⟨rfl, (uh HST5).but.trans hm6.but, Or.inr ⟨rfl, fun ty' ver' t' h => ?_⟩⟩
       obtain ⟨-, b2, -, b4, b5, b6⟩ := uh HEV ty' ver' t' h
       rw [b4] at hn1
       exact hn1 ver' b5 rfl
   · have htk : Calls Tryz.prog 72 #[.pointer (some ⟨R, 2, none⟩), .string ⟨#[64]⟩] W4 fun e w' => e = fltE ∧ ∃ m, w' = W4.drewN m := xtake_no W4 R 2 s (w1 64) k (uh HST4).tr.tx hkl (by rw [pre_one]; exact decide_eq_false h64)
     refine htk.mono ?_
     rintro e w5 ⟨rfl, m, rfl⟩
     exact ⟨rfl, but_drewN (uh HST4).but m, Or.inr ⟨rfl, fun ty' ver' t' h => h64 (uh HEV ty' ver' t' h).2.2.1⟩⟩
 · have hd : decide ((s.size : Int) ≤ 10000) = false := by simp; omega
   have HB := hH hba
   clear hst hE hT h hba hta
   go_enter Tryz.func41, Tryz.ntmps41
   go_wp2_with (go_at_call 68; refine (treeWant_no _).mono ?_; rintro e w2 ⟨rfl, rfl⟩)
   exact ⟨rfl, uh HB, Or.inr ⟨rfl, fun ty' ver' t' h => h10 (uh HEV ty' ver' t' h).1⟩⟩
end Go.Proofs.YtbkagahmiibclaaGreatDoor
