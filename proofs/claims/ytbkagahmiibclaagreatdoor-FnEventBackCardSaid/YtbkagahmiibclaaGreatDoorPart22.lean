/- The walks of the program's sortTree, TreeOk and TreeParts: they answer as the plain function on data does. The table treeFields is as the program lays it. -/
import Derived.Test.YtbkagahmiibclaaGreatDoorPart18
import Derived.Test.YtbkagahmiibclaaGreatDoorPart21
import Derived.BigQuiet
import Derived.Test.YtbkagahmiibclaaGreatDoorPart04
namespace Go.Proofs.YtbkagahmiibclaaGreatDoor
open Go Go.RowKit

/-- What the sorter's closure finds: the tree's box, the bounds, the place of the answer. -/
structure Seat (P : Nat → Prop) (w : World) (X B Y : Nat) (t : Tr) (c : C5) : Prop where
  box : w.rowIs X 26 5 (row5 c.c0 c.c1 c.c2 c.c3 c.c4)
  bnd : Bnd w B 0 0
  ans : w.cell? ⟨Y, 0, none⟩ = some .nilIface
  frz : w.frozen? ⟨Y, 0, none⟩ = false
  rep : Rep P w t c
  old : ∀ b, P b → b < X
  tab : Tab w
  xb : X < B
  by' : B < Y
  x0 : 1 < X

/-- What it leaves. -/
structure Sorted (P : Nat → Prop) (w w' : World) (X B Y : Nat) (t : Tr) (q : Int) (v : Value) : Prop where
  ans : w'.cell? ⟨Y, 0, none⟩ = some v
  rep : SRep (fun b => P b ∨ (w.heap.size ≤ b ∧ b < w'.heap.size)) w' t v
  bnd : Bnd w' B q 0
  size : w.heap.size ≤ w'.heap.size
  low : Below X w w'
  kept : ∀ b, b < w.heap.size → b ≠ B → b ≠ Y → w'.heap[b]? = w.heap[b]?

set_option maxHeartbeats 800000 in
theorem sort1_yes (P : Nat → Prop) (w : World) (X B Y : Nat) (t : Tr) (c : C5) (q : Int) (h : Seat P w X B Y t c) (hq : wlk t 0 0 = some q) :
    Calls Tryz.prog 92 #[.pointer (some ⟨B, 0, none⟩), .pointer (some ⟨X, 0, none⟩), .pointer (some ⟨Y, 0, none⟩)] w fun e w' => e = .returned (.tuple #[]) ∧ ∃ v, Sorted P w w' X B Y t q v := by
  obtain ⟨box, bnd, ans, frz, rep, old, tab, xb, by', x0⟩ := h
  have hBw := bnd.lt
  have hYw : Y < w.heap.size := World.block_lt_of_cell? w _ ans
  have hcall := tree_all (tsz t + 1) t (by omega) P c w B 0 0 (fun b hb => ⟨by have := old b hb; omega, by have := old b hb; omega⟩) rep bnd tab (by omega) (by omega) (by omega) (by omega) (by omega)
  have HCALL : Hid (Calls Tryz.prog 93 #[.pointer (some ⟨B, 0, none⟩), .agg #[c.c0, c.c1, c.c2, c.c3, c.c4]] w fun e w' => ∃ v, e = .returned v ∧ But B w w' ∧ SRep (fun b => P b ∨ (w.heap.size ≤ b ∧ b < w'.heap.size)) w' t v ∧ Bnd w' B q 0) :=
    hcall.mono fun e w' ⟨h1, h2⟩ => by
      rcases h2 with ⟨q', v, g1, g2, g3, g4⟩ | ⟨g1, _⟩
      · rw [hq] at g1; simp only [Option.some.injEq] at g1; subst g1; exact ⟨v, g2, h1, g3, g4⟩
      · rw [hq] at g1; cases g1
  have HOLD := hide old
  have k0 := box.cell (i := 0) (by omega); have k1 := box.cell (i := 1) (by omega); have k2 := box.cell (i := 2) (by omega); have k3 := box.cell (i := 3) (by omega); have k4 := box.cell (i := 4) (by omega)
  simp only [row5] at k0 k1 k2 k3 k4
  have HANS := hide ans; have HFRZ := hide frz
  clear hcall box bnd rep tab hq old ans frz
  go_enter Tryz.func92, Tryz.ntmps92
  go_wp2_with fail
  refine (unhide HCALL).mono ?_
  rintro e w1 ⟨v, rfl, hbt, hsr, hbn⟩
  have hs1 := hbt.size
  have ya : w1.cell? ⟨Y, 0, none⟩ = some .nilIface := by rw [World.cell?_of_block (a := ⟨Y, 0, none⟩) (hbt.at hYw (show Y ≠ B by omega))]; exact unhide HANS
  have yf : w1.frozen? ⟨Y, 0, none⟩ = false := by rw [World.frozen?_of_block (a := ⟨Y, 0, none⟩) (hbt.at hYw (show Y ≠ B by omega))]; exact unhide HFRZ
  obtain ⟨T, x, rfl⟩ := hsr.iface
  have hfin : Sorted P w (w1.setCell ⟨Y, 0, none⟩ (.iface T x)) X B Y t q (.iface T x) := by
    have he : ∀ b, b ≠ Y → (w1.setCell ⟨Y, 0, none⟩ (.iface T x)).heap[b]? = w1.heap[b]? := fun b hb => Below.heap_setCell _ _ _ _ hb
    have hsz : (w1.setCell ⟨Y, 0, none⟩ (.iface T x)).heap.size = w1.heap.size := by simp [World.setCell]
    refine ⟨by simp [go_sem, ya], SRep.carry (fun b hb => he b ?_) (fun b hb => by rw [hsz]; exact hb) _ _ hsr, hbn.of_block (he B (by omega)), by omega, ?_, fun b h1 h2 h3 => (he b h3).trans (hbt.at h1 h2)⟩
    · rcases hb with hb | hb
      · have := unhide HOLD b hb; omega
      · omega
    · exact ⟨hbt.os, hbt.tape, hbt.output, by omega, fun b hb => (he b (by omega)).trans (hbt.at (by omega) (by omega))⟩
  have HFIN := hide hfin
  clear hbt hsr hbn hfin k0 k1 k2 k3 k4
  go_wp2_with fail
  go_end0
  exact ⟨rfl, _, unhide HFIN⟩

set_option maxHeartbeats 800000 in
theorem sort1_no (P : Nat → Prop) (w : World) (X B Y : Nat) (t : Tr) (c : C5) (h : Seat P w X B Y t c) (hq : wlk t 0 0 = none) :
    Calls Tryz.prog 92 #[.pointer (some ⟨B, 0, none⟩), .pointer (some ⟨X, 0, none⟩), .pointer (some ⟨Y, 0, none⟩)] w fun e w' => e = fltE ∧ But B w w' := by
  obtain ⟨box, bnd, ans, frz, rep, old, tab, xb, by', x0⟩ := h
  have hcall := tree_all (tsz t + 1) t (by omega) P c w B 0 0 (fun b hb => ⟨by have := old b hb; have := bnd.lt; omega, by have := old b hb; omega⟩) rep bnd tab (by omega) (by omega) (by omega) (by omega) (by omega)
  have HCALL : Hid (Calls Tryz.prog 93 #[.pointer (some ⟨B, 0, none⟩), .agg #[c.c0, c.c1, c.c2, c.c3, c.c4]] w fun e w' => e = fltE ∧ But B w w') :=
    hcall.mono fun e w' ⟨h1, h2⟩ => by
      rcases h2 with ⟨q', v, g1, g2, g3, g4⟩ | ⟨_, g2⟩
      · rw [hq] at g1; cases g1
      · exact ⟨g2, h1⟩
  have k0 := box.cell (i := 0) (by omega); have k1 := box.cell (i := 1) (by omega); have k2 := box.cell (i := 2) (by omega); have k3 := box.cell (i := 3) (by omega); have k4 := box.cell (i := 4) (by omega)
  simp only [row5] at k0 k1 k2 k3 k4
  clear hcall box bnd rep tab hq old ans frz
  go_enter Tryz.func92, Tryz.ntmps92
  go_wp2_with (go_at_call 93; refine (unhide HCALL).mono ?_; rintro e w1 ⟨rfl, hbt⟩)
  exact ⟨rfl, rfl, hbt⟩

theorem enter40 (caps : Array Value) (W : World) : Sem.run Tryz.prog (callFunc 92 caps) W = .ok (.enter 92 caps) W := by
  kernel_rfl

/-- The seat in the world in which treeTry calls the closure. -/
theorem seat_here {P : Nat → Prop} {w : World} {t : Tr} {c : C5} (hrep : Rep P w t c) (hP : ∀ b, P b → b < w.heap.size) (hT : Tab w) (o : Obj) :
    Seat P ((((w.alloc (.cells #[c.c0, c.c1, c.c2, c.c3, c.c4] 26)).alloc (.cells #[.int .i64 0, .int .i64 0] 119)).alloc (.cells #[.nilIface] 94)).alloc o) w.heap.size (w.heap.size + 1) (w.heap.size + 1 + 1) t c := by
  have hb : Below w.heap.size w ((((w.alloc (.cells #[c.c0, c.c1, c.c2, c.c3, c.c4] 26)).alloc (.cells #[.int .i64 0, .int .i64 0] 119)).alloc (.cells #[.nilIface] 94)).alloc o) :=
    ((((Below.refl _ _).alloc (Nat.le_refl _) _).alloc (by simp) _).alloc (by simp; omega) _).alloc (by simp; omega) _
  refine ⟨(((row5_alloc w c.c0 c.c1 c.c2 c.c3 c.c4 _).alloc _).alloc _).alloc _, ⟨?_, ?_, ?_, ?_⟩, ?_, ?_, Rep.carry (fun b hb' => hb.block b (hP b hb')) (fun _ h => h) _ _ hrep, hP, hT.of_block (hb.block 1 hT.lt), by omega, by omega, hT.lt⟩
  all_goals simp [go_sem]

/-- treeTry over the closure, where the tree is ok. -/
theorem tryWork_yes {P : Nat → Prop} {w : World} {t : Tr} {c : C5} {q : Int} (hrep : Rep P w t c) (hP : ∀ b, P b → b < w.heap.size) (hT : Tab w) (hq : wlk t 0 0 = some q) :
    Calls Tryz.prog 27 #[.func (.func 92) #[] #[.pointer (some ⟨w.heap.size + 1, 0, none⟩), .pointer (some ⟨w.heap.size, 0, none⟩), .pointer (some ⟨w.heap.size + 1 + 1, 0, none⟩)]]
      (((w.alloc (.cells #[c.c0, c.c1, c.c2, c.c3, c.c4] 26)).alloc (.cells #[.int .i64 0, .int .i64 0] 119)).alloc (.cells #[.nilIface] 94)) fun e w' =>
        e = .returned (.bool true) ∧ ∃ v, w'.cell? ⟨w.heap.size + 1 + 1, 0, none⟩ = some v ∧ Bnd w' (w.heap.size + 1) q 0 ∧ SRep (fun b => P b ∨ (w.heap.size ≤ b ∧ b < w'.heap.size)) w' t v ∧ Below w.heap.size w w' := by
  generalize hW : (((w.alloc (.cells #[c.c0, c.c1, c.c2, c.c3, c.c4] 26)).alloc (.cells #[.int .i64 0, .int .i64 0] 119)).alloc (.cells #[.nilIface] 94)) = W
  have hsz : W.heap.size = w.heap.size + 3 := by rw [← hW]; simp
  have hbw : Below w.heap.size w W := by rw [← hW]; exact (((Below.refl _ _).alloc (Nat.le_refl _) _).alloc (by simp) _).alloc (by simp; omega) _
  refine (treeTry_yes 92 _ W (fun w1 => ∃ o v, Sorted P (W.alloc o) w1 w.heap.size (w.heap.size + 1) (w.heap.size + 1 + 1) t q v) (enter40 _) (fun o => ?_)).mono ?_
  · have hs := seat_here hrep hP hT o
    rw [hW] at hs
    refine (sort1_yes P (W.alloc o) _ _ _ t c q hs hq).mono fun e w' ⟨h1, v, h2⟩ => ⟨h1, ⟨o, v, h2⟩, h2.kept _ (by simp) (by omega) (by omega)⟩
  · rintro e w' ⟨rfl, w1, ⟨o, v, hs⟩, hb⟩
    have hs1 := hs.size
    have hs2 := hb.size
    have hsa : (W.alloc o).heap.size = w.heap.size + 4 := by simp [hsz]
    refine ⟨rfl, v, ?_, ?_, ?_, ?_⟩
    · rw [World.cell?_of_block (a := ⟨w.heap.size + 1 + 1, 0, none⟩) (hb.at (by simp only; omega) (by simp only; omega))]; exact hs.ans
    · exact hs.bnd.of_block (hb.at (by omega) (by omega))
    · refine SRep.carry (fun b hb' => ?_) (fun b hb' => ?_) _ _ hs.rep
      · rcases hb' with hb' | hb'
        · have := hP b hb'; exact hb.at (by omega) (by omega)
        · exact hb.at hb'.2 (by omega)
      · rcases hb' with hb' | hb'
        · exact Or.inl hb'
        · exact Or.inr ⟨by omega, by omega⟩
    · have h1 := (hbw.trans (((Below.refl _ _).alloc (by omega) o).trans hs.low))
      exact ⟨hb.os.trans h1.os, hb.tape.trans h1.tape, hb.output.trans h1.output, by have := h1.size; omega, fun b hb' => (hb.at (by omega) (by omega)).trans (h1.block b hb')⟩

/-- treeTry over the closure, where the tree is not ok. -/
theorem tryWork_no {P : Nat → Prop} {w : World} {t : Tr} {c : C5} (hrep : Rep P w t c) (hP : ∀ b, P b → b < w.heap.size) (hT : Tab w) (hq : wlk t 0 0 = none) :
    Calls Tryz.prog 27 #[.func (.func 92) #[] #[.pointer (some ⟨w.heap.size + 1, 0, none⟩), .pointer (some ⟨w.heap.size, 0, none⟩), .pointer (some ⟨w.heap.size + 1 + 1, 0, none⟩)]]
      (((w.alloc (.cells #[c.c0, c.c1, c.c2, c.c3, c.c4] 26)).alloc (.cells #[.int .i64 0, .int .i64 0] 119)).alloc (.cells #[.nilIface] 94)) fun e w' =>
        e = .returned (.bool false) ∧ Below w.heap.size w w' := by
  generalize hW : (((w.alloc (.cells #[c.c0, c.c1, c.c2, c.c3, c.c4] 26)).alloc (.cells #[.int .i64 0, .int .i64 0] 119)).alloc (.cells #[.nilIface] 94)) = W
  have hsz : W.heap.size = w.heap.size + 3 := by rw [← hW]; simp
  have hbw : Below w.heap.size w W := by rw [← hW]; exact (((Below.refl _ _).alloc (Nat.le_refl _) _).alloc (by simp) _).alloc (by simp; omega) _
  refine (treeTry_no 92 _ W (fun w1 => ∃ o, But (w.heap.size + 1) (W.alloc o) w1) (enter40 _) (fun o => ?_)).mono ?_
  · have hs := seat_here hrep hP hT o
    rw [hW] at hs
    refine (sort1_no P (W.alloc o) _ _ _ t c hs hq).mono fun e w' ⟨h1, h2⟩ => ⟨h1, ⟨o, h2⟩, h2.at (by simp) (by omega)⟩
  · rintro e w' ⟨rfl, w1, ⟨o, hs⟩, hb⟩
    have hs1 := hs.size
    have hs2 := hb.size
    have hsa : (W.alloc o).heap.size = w.heap.size + 4 := by simp [hsz]
    have h1 := hbw.trans ((Below.refl _ _).alloc (by omega) o)
    refine ⟨rfl, hb.os.trans (hs.os.trans h1.os), hb.tape.trans (hs.tape.trans h1.tape), hb.output.trans (hs.output.trans h1.output), by have := h1.size; omega, fun b hb' => (hb.at (by omega) (by omega)).trans ((hs.at (by omega) (by omega)).trans (h1.block b hb'))⟩

set_option maxRecDepth 100000 in
set_option maxHeartbeats 800000 in
theorem sortTree_yes (P : Nat → Prop) (w : World) (t : Tr) (c : C5) (q : Int) (hrep : Rep P w t c) (hP : ∀ b, P b → b < w.heap.size) (hT : Tab w) (hq : wlk t 0 0 = some q) :
    Calls Tryz.prog 65 #[.agg #[c.c0, c.c1, c.c2, c.c3, c.c4]] w fun e w' => ∃ v, e = .returned (.tuple #[v, .int .i64 q]) ∧ SRep (fun b => P b ∨ (w.heap.size ≤ b ∧ b < w'.heap.size)) w' t v ∧ Below w.heap.size w w' := by
  have hmf : ∀ (fn : Fn) (first cap : Array Value) (w : World), (Instr.makeFunc fn first cap).run Tryz.prog w = .ok (.func fn first cap) w := fun _ _ _ _ => rfl
  obtain ⟨c0, c1, c2, c3, c4⟩ := c
  have HTRY := hide (tryWork_yes hrep hP hT hq)
  clear hrep hT hq hP
  go_enter Tryz.func65, Tryz.ntmps65
  go_wp2_with fail
  refine (unhide HTRY).mono ?_
  rintro e w1 ⟨rfl, v, hv, ⟨b0, b1, -, -⟩, hsr, hb⟩
  have HSR := hide hsr; have HB := hide hb
  clear hsr hb hmf
  go_wp2_with fail
  go_quiet (fail)
  go_wp2_with fail
  go_ret2
  refine ⟨v, rfl, ?_, below_drewN (unhide HB) _⟩
  refine SRep.carry (w := w1) (P := fun b => P b ∨ (w.heap.size ≤ b ∧ b < w1.heap.size)) (fun _ _ => ?_) (fun _ h => h) _ _ (unhide HSR)
  rfl

set_option maxRecDepth 100000 in
set_option maxHeartbeats 800000 in
theorem sortTree_no (P : Nat → Prop) (w : World) (t : Tr) (c : C5) (hrep : Rep P w t c) (hP : ∀ b, P b → b < w.heap.size) (hT : Tab w) (hq : wlk t 0 0 = none) :
    Calls Tryz.prog 65 #[.agg #[c.c0, c.c1, c.c2, c.c3, c.c4]] w fun e w' => e = .returned (.tuple #[.nilIface, .int .i64 0]) ∧ Below w.heap.size w w' := by
  have hmf : ∀ (fn : Fn) (first cap : Array Value) (w : World), (Instr.makeFunc fn first cap).run Tryz.prog w = .ok (.func fn first cap) w := fun _ _ _ _ => rfl
  obtain ⟨c0, c1, c2, c3, c4⟩ := c
  have HTRY := hide (tryWork_no hrep hP hT hq)
  clear hrep hT hq hP
  go_enter Tryz.func65, Tryz.ntmps65
  go_wp2_with fail
  refine (unhide HTRY).mono ?_
  rintro e w1 ⟨rfl, hb⟩
  have HB := hide hb
  clear hb hmf
  go_wp2_with fail
  go_ret2
  exact ⟨rfl, unhide HB⟩

/-- sortTree, whatever the tree: the parts alone. -/
theorem sortTree_parts (P : Nat → Prop) (w : World) (t : Tr) (c : C5) (hrep : Rep P w t c) (hP : ∀ b, P b → b < w.heap.size) (hT : Tab w) :
    Calls Tryz.prog 65 #[.agg #[c.c0, c.c1, c.c2, c.c3, c.c4]] w fun e w' => ∃ v, e = .returned (.tuple #[v, .int .i64 (if pT t 1 < 0 then 0 else pT t 1)]) ∧ Below w.heap.size w w' := by
  by_cases h : pT t 1 < 0
  · rw [if_pos h]
    exact (sortTree_no P w t c hrep hP hT (by rw [wlk_start, if_pos h])).mono fun e w' ⟨h1, h2⟩ => ⟨_, h1, h2⟩
  · rw [if_neg h]
    exact (sortTree_yes P w t c _ hrep hP hT (by rw [wlk_start, if_neg h])).mono fun e w' ⟨v, h1, _, h2⟩ => ⟨v, h1, h2⟩

set_option maxHeartbeats 800000 in
theorem implTreeOk_any (t : Tr) (P : Nat → Prop) (c : C5) (w : World) (hP : ∀ b, P b → b < w.heap.size) (hrep : Rep P w t c) (hT : Tab w) :
    Calls Tryz.prog 33 #[.agg #[c.c0, c.c1, c.c2, c.c3, c.c4]] w fun e w' => e = .returned (.bool (decide (0 < pT t 1))) ∧ Below w.heap.size w w' := by
  have hbx : ∀ o, Below w.heap.size w (w.alloc o) := fun o => (Below.refl _ _).alloc (Nat.le_refl _) o
  have hcall : ∀ o, Calls Tryz.prog 65 #[.agg #[c.c0, c.c1, c.c2, c.c3, c.c4]] (w.alloc o) fun e w' => ∃ v, e = .returned (.tuple #[v, .int .i64 (if pT t 1 < 0 then 0 else pT t 1)]) ∧ Below w.heap.size w w' := fun o =>
    (sortTree_parts P (w.alloc o) t c (Rep.carry (fun b hb => (hbx o).block b (hP b hb)) (fun _ h => h) _ _ hrep) (fun b hb => Nat.lt_of_lt_of_le (hP b hb) (hbx o).size) (hT.of_block ((hbx o).block 1 hT.lt))).mono
      fun e w' ⟨v, h1, h2⟩ => ⟨v, h1, (hbx o).trans (h2.mono (hbx o).size)⟩
  have hd : decide (0 < pT t 1) = decide (0 < (if pT t 1 < 0 then 0 else pT t 1)) := by
    by_cases h : pT t 1 < 0
    · rw [if_pos h]; simp; omega
    · rw [if_neg h]
  rw [hd]
  generalize (if pT t 1 < 0 then 0 else pT t 1) = r at *
  have HCALL := hide hcall
  clear hbx hcall hP hrep hT hd
  go_enter Tryz.func33, Tryz.ntmps33
  go_wp2_with (go_at_call 65; refine (unhide HCALL _).mono ?_; rintro e w2 ⟨v, rfl, hb2⟩)
  go_ret
  exact ⟨rfl, hb2⟩
end Go.Proofs.YtbkagahmiibclaaGreatDoor

/- The walk of the specification's l1TextOk: what it answers. No conditions. -/

namespace Go.Proofs.YtbkagahmiibclaaGreatDoor
open Go Go.RowKit

set_option maxHeartbeats 400000 in
theorem l1TextOk_any (s : ByteArray) (w : World) (hs : s.size ≤ 9223372036854775807) :
    Calls Tryz.prog 116 #[.string s] w fun e w' => e = .returned (.bool (textOkB s)) ∧ w' = w := by
  by_cases h60 : 60 < s.size
  · go_enter Tryz.func116, Tryz.ntmps116
    go_wp2_with fail
    go_ret
    exact ⟨by simp [textOkB]; omega, rfl⟩
  · go_enter Tryz.func116, Tryz.ntmps116
    go_wp2_with fail
    go_loop [3] (fun i => ∃ k : Nat, k ≤ s.size ∧ i = .int .i64 k ∧ Hid (allTo textByte s k)) (fun i => s.size - (intOf i).toNat)
    case atStart => exact ⟨0, Nat.zero_le _, rfl, fun j hj => by omega⟩
    case round =>
      obtain ⟨k, hk, rfl, HA⟩ := hrel
      by_cases hlt : k < s.size
      · have hc : s[k].toNat < 32 ∨ 126 < s[k].toNat ∨ s[k].toNat = 34 ∨ (32 ≤ s[k].toNat ∧ s[k].toNat ≤ 126 ∧ s[k].toNat ≠ 34) := by omega
        rcases hc with hc | hc | hc | hc
        · go_wp2_with fail
          go_ret
          exact ⟨ret_bool (textOk_not hlt (textByte_no (Or.inl hc))).symm, rfl⟩
        · go_wp2_with fail
          go_ret
          exact ⟨ret_bool (textOk_not hlt (textByte_no (Or.inr (Or.inl hc)))).symm, rfl⟩
        · have HC := hide (textOk_not hlt (textByte_no (Or.inr (Or.inr hc))))
          go_wp2_with fail
          go_ret
          exact ⟨ret_bool (unhide HC).symm, rfl⟩
        · have HN := hide (allTo_succ HA.out hlt (textByte_yes hc))
          obtain ⟨hc1, hc2, hc3⟩ := hc
          have hb34 : ((s[k].toNat : Int) == 34) = false := by simp; omega
          go_wp2_with fail
          go_round
          case rel => exact ⟨k + 1, by omega, by go_num, HN⟩
          case measure => simp [intOf]; omega
      · go_wp2_with fail
        go_ret
        obtain rfl : k = s.size := by omega
        exact ⟨ret_bool (textOk_yes (by omega) HA.out).symm, rfl⟩
end Go.Proofs.YtbkagahmiibclaaGreatDoor

/- The walk of the specification's l1Alone: it answers whether a tree is ok but for its kids. No conditions. -/

namespace Go.Proofs.YtbkagahmiibclaaGreatDoor
open Go Go.RowKit

set_option maxHeartbeats 800000 in
theorem l1Alone_1 (t : Tr) (P : Nat → Prop) (c : C5) (w : World) (hP : ∀ b, P b → b < w.heap.size) (hrep : Rep P w t c) (hs : t.sort = 1) :
    Calls Tryz.prog 87 #[.agg #[c.c0, c.c1, c.c2, c.c3, c.c4]] w fun e w' => e = .returned (.bool (aloneB t)) ∧ Below w.heap.size w w' := by
  obtain ⟨c0, c1, c2, c3, c4⟩ := c
  obtain ⟨e0, e1, e2, -, -, htx, hns, a, cap, e4, hlen, -⟩ := hrep.open
  simp only at e0 e1 e2 e4 hns
  have HN := hide hns
  obtain ⟨a3, cap3, e3, hl3, -⟩ := hns
  subst e0 e1 e2 e3 e4
  clear hrep
  have HP := hide hP; clear hP
  have hbx : ∀ o, Below w.heap.size w (w.alloc o) := fun o => (Below.refl _ _).alloc (Nat.le_refl _) o
  have HBX := hide hbx; clear hbx
  go_enter Tryz.func87, Tryz.ntmps87
  go_wp2_with (first
    | (go_at_call 22; refine (l6In_any _ _ _ _).mono ?_; rintro e w' ⟨rfl, rfl⟩)
    | (go_at_call 116; refine (l1TextOk_any _ _ htx).mono ?_; rintro e w' ⟨rfl, rfl⟩))
  all_goals
    go_ret
    refine ⟨ret_bool ?_, unhide HBX _⟩
    try simp_all [aloneB]
  all_goals first | (rw [Bool.eq_iff_iff]; simp; done) | (intros; omega)
set_option maxHeartbeats 800000 in
theorem l1Alone_2 (t : Tr) (P : Nat → Prop) (c : C5) (w : World) (hP : ∀ b, P b → b < w.heap.size) (hrep : Rep P w t c) (hs : t.sort = 2) :
    Calls Tryz.prog 87 #[.agg #[c.c0, c.c1, c.c2, c.c3, c.c4]] w fun e w' => e = .returned (.bool (aloneB t)) ∧ Below w.heap.size w w' := by
  obtain ⟨c0, c1, c2, c3, c4⟩ := c
  obtain ⟨e0, e1, e2, -, -, htx, hns, a, cap, e4, hlen, -⟩ := hrep.open
  simp only at e0 e1 e2 e4 hns
  have HN := hide hns
  obtain ⟨a3, cap3, e3, hl3, -⟩ := hns
  subst e0 e1 e2 e3 e4
  clear hrep
  have HP := hide hP; clear hP
  have hbx : ∀ o, Below w.heap.size w (w.alloc o) := fun o => (Below.refl _ _).alloc (Nat.le_refl _) o
  have HBX := hide hbx; clear hbx
  go_enter Tryz.func87, Tryz.ntmps87
  go_wp2_with (first
    | (go_at_call 22; refine (l6In_any _ _ _ _).mono ?_; rintro e w' ⟨rfl, rfl⟩)
    | (go_at_call 116; refine (l1TextOk_any _ _ htx).mono ?_; rintro e w' ⟨rfl, rfl⟩))
  all_goals
    go_ret
    refine ⟨ret_bool ?_, unhide HBX _⟩
    try simp_all [aloneB]
  all_goals first | (rw [Bool.eq_iff_iff]; simp; done) | (intros; omega)
set_option maxHeartbeats 800000 in
theorem l1Alone_3 (t : Tr) (P : Nat → Prop) (c : C5) (w : World) (hP : ∀ b, P b → b < w.heap.size) (hrep : Rep P w t c) (hs : t.sort = 3) :
    Calls Tryz.prog 87 #[.agg #[c.c0, c.c1, c.c2, c.c3, c.c4]] w fun e w' => e = .returned (.bool (aloneB t)) ∧ Below w.heap.size w w' := by
  obtain ⟨c0, c1, c2, c3, c4⟩ := c
  obtain ⟨e0, e1, e2, -, -, htx, hns, a, cap, e4, hlen, -⟩ := hrep.open
  simp only at e0 e1 e2 e4 hns
  have HN := hide hns
  obtain ⟨a3, cap3, e3, hl3, -⟩ := hns
  subst e0 e1 e2 e3 e4
  clear hrep
  have HP := hide hP; clear hP
  have hbx : ∀ o, Below w.heap.size w (w.alloc o) := fun o => (Below.refl _ _).alloc (Nat.le_refl _) o
  have HBX := hide hbx; clear hbx
  go_enter Tryz.func87, Tryz.ntmps87
  go_wp2_with (first
    | (go_at_call 22; refine (l6In_any _ _ _ _).mono ?_; rintro e w' ⟨rfl, rfl⟩)
    | (go_at_call 116; refine (l1TextOk_any _ _ htx).mono ?_; rintro e w' ⟨rfl, rfl⟩))
  all_goals
    go_ret
    refine ⟨ret_bool ?_, unhide HBX _⟩
    try simp_all [aloneB]
  all_goals first | (rw [Bool.eq_iff_iff]; simp; done) | (intros; omega)
set_option maxHeartbeats 800000 in
theorem l1Alone_4 (t : Tr) (P : Nat → Prop) (c : C5) (w : World) (hP : ∀ b, P b → b < w.heap.size) (hrep : Rep P w t c) (hs : t.sort = 4) :
    Calls Tryz.prog 87 #[.agg #[c.c0, c.c1, c.c2, c.c3, c.c4]] w fun e w' => e = .returned (.bool (aloneB t)) ∧ Below w.heap.size w w' := by
  obtain ⟨c0, c1, c2, c3, c4⟩ := c
  obtain ⟨e0, e1, e2, -, -, htx, hns, a, cap, e4, hlen, -⟩ := hrep.open
  simp only at e0 e1 e2 e4 hns
  have HN := hide hns
  obtain ⟨a3, cap3, e3, hl3, -⟩ := hns
  subst e0 e1 e2 e3 e4
  clear hrep
  have HP := hide hP; clear hP
  have hbx : ∀ o, Below w.heap.size w (w.alloc o) := fun o => (Below.refl _ _).alloc (Nat.le_refl _) o
  have HBX := hide hbx; clear hbx
  go_enter Tryz.func87, Tryz.ntmps87
  go_wp2_with (first
    | (go_at_call 22; refine (l6In_any _ _ _ _).mono ?_; rintro e w' ⟨rfl, rfl⟩)
    | (go_at_call 116; refine (l1TextOk_any _ _ htx).mono ?_; rintro e w' ⟨rfl, rfl⟩))
  all_goals
    go_ret
    refine ⟨ret_bool ?_, unhide HBX _⟩
    try simp_all [aloneB]
  all_goals first | (rw [Bool.eq_iff_iff]; simp; done) | (intros; omega)
set_option maxHeartbeats 800000 in
theorem l1Alone_6 (t : Tr) (P : Nat → Prop) (c : C5) (w : World) (hP : ∀ b, P b → b < w.heap.size) (hrep : Rep P w t c) (hs : t.sort = 6) :
    Calls Tryz.prog 87 #[.agg #[c.c0, c.c1, c.c2, c.c3, c.c4]] w fun e w' => e = .returned (.bool (aloneB t)) ∧ Below w.heap.size w w' := by
  obtain ⟨c0, c1, c2, c3, c4⟩ := c
  obtain ⟨e0, e1, e2, -, -, htx, hns, a, cap, e4, hlen, -⟩ := hrep.open
  simp only at e0 e1 e2 e4 hns
  have HN := hide hns
  obtain ⟨a3, cap3, e3, hl3, -⟩ := hns
  subst e0 e1 e2 e3 e4
  clear hrep
  have HP := hide hP; clear hP
  have hbx : ∀ o, Below w.heap.size w (w.alloc o) := fun o => (Below.refl _ _).alloc (Nat.le_refl _) o
  have HBX := hide hbx; clear hbx
  go_enter Tryz.func87, Tryz.ntmps87
  go_wp2_with (first
    | (go_at_call 22; refine (l6In_any _ _ _ _).mono ?_; rintro e w' ⟨rfl, rfl⟩)
    | (go_at_call 116; refine (l1TextOk_any _ _ htx).mono ?_; rintro e w' ⟨rfl, rfl⟩))
  all_goals
    go_ret
    refine ⟨ret_bool ?_, unhide HBX _⟩
    try simp_all [aloneB]
  all_goals first | (rw [Bool.eq_iff_iff]; simp; done) | (intros; omega)
set_option maxHeartbeats 800000 in
theorem l1Alone_0 (t : Tr) (P : Nat → Prop) (c : C5) (w : World) (hP : ∀ b, P b → b < w.heap.size) (hrep : Rep P w t c) (h1 : t.sort ≠ 1) (h2 : t.sort ≠ 2) (h3 : t.sort ≠ 3) (h4 : t.sort ≠ 4) (h5 : t.sort ≠ 5) (h6 : t.sort ≠ 6) :
    Calls Tryz.prog 87 #[.agg #[c.c0, c.c1, c.c2, c.c3, c.c4]] w fun e w' => e = .returned (.bool (aloneB t)) ∧ Below w.heap.size w w' := by
  obtain ⟨c0, c1, c2, c3, c4⟩ := c
  obtain ⟨e0, e1, e2, -, -, htx, hns, a, cap, e4, hlen, -⟩ := hrep.open
  simp only at e0 e1 e2 e4 hns
  have HN := hide hns
  obtain ⟨a3, cap3, e3, hl3, -⟩ := hns
  subst e0 e1 e2 e3 e4
  clear hrep
  have HP := hide hP; clear hP
  have hbx : ∀ o, Below w.heap.size w (w.alloc o) := fun o => (Below.refl _ _).alloc (Nat.le_refl _) o
  have HBX := hide hbx; clear hbx
  go_enter Tryz.func87, Tryz.ntmps87
  go_wp2_with (first
    | (go_at_call 22; refine (l6In_any _ _ _ _).mono ?_; rintro e w' ⟨rfl, rfl⟩)
    | (go_at_call 116; refine (l1TextOk_any _ _ htx).mono ?_; rintro e w' ⟨rfl, rfl⟩))
  all_goals
    go_ret
    refine ⟨ret_bool ?_, unhide HBX _⟩
    try simp_all [aloneB]
  all_goals first | (rw [Bool.eq_iff_iff]; simp; done) | (intros; omega)
set_option maxHeartbeats 800000 in
theorem l1Alone_5 (t : Tr) (P : Nat → Prop) (c : C5) (w : World) (hP : ∀ b, P b → b < w.heap.size) (hrep : Rep P w t c) (hs : t.sort = 5) :
    Calls Tryz.prog 87 #[.agg #[c.c0, c.c1, c.c2, c.c3, c.c4]] w fun e w' => e = .returned (.bool (aloneB t)) ∧ Below w.heap.size w w' := by
  obtain ⟨c0, c1, c2, c3, c4⟩ := c
  obtain ⟨e0, e1, e2, -, -, htx, hns, a, cap, e4, hlen, -⟩ := hrep.open
  simp only at e0 e1 e2 e4 hns
  have HN := hide hns
  obtain ⟨a3, cap3, e3, hl3, -⟩ := hns
  subst e0 e1 e2 e3 e4
  clear hrep
  have HP := hide hP; clear hP
  have hbx : ∀ o, Below w.heap.size w (w.alloc o) := fun o => (Below.refl _ _).alloc (Nat.le_refl _) o
  have HBX := hide hbx; clear hbx
  have hcall : ∀ o, Calls Tryz.prog 117 #[.slice a3 t.names.length cap3] (w.alloc o) fun e w' => e = .returned (.bool (riseB t.names)) ∧ Below w.heap.size w w' := fun o =>
    (l1Rise_any _ t.names (w.alloc o) (P := P) (fun b hb => Nat.lt_of_lt_of_le (unhide HP b hb) (unhide HBX o).size) ((unhide HN).carry (fun b hb => (unhide HBX o).block b (unhide HP b hb)) (fun _ h => h))).mono
      fun e w' ⟨h1, h2⟩ => ⟨h1, (unhide HBX o).trans (h2.mono (unhide HBX o).size)⟩
  have HC := hide hcall; clear hcall
  go_enter Tryz.func87, Tryz.ntmps87
  go_wp2_with (go_at_call 117; refine (unhide HC _).mono ?_; rintro e w' ⟨rfl, hb'⟩)
  all_goals
    go_ret
    refine ⟨ret_bool ?_, by first | assumption | exact unhide HBX _⟩
    try simp_all [aloneB]
  all_goals first | (rw [Bool.eq_iff_iff]; simp; done) | (intros; omega)

theorem l1Alone_any (t : Tr) (P : Nat → Prop) (c : C5) (w : World) (hP : ∀ b, P b → b < w.heap.size) (hrep : Rep P w t c) :
    Calls Tryz.prog 87 #[.agg #[c.c0, c.c1, c.c2, c.c3, c.c4]] w fun e w' => e = .returned (.bool (aloneB t)) ∧ Below w.heap.size w w' := by
  by_cases h1 : t.sort = 1
  · exact l1Alone_1 t P c w hP hrep h1
  by_cases h2 : t.sort = 2
  · exact l1Alone_2 t P c w hP hrep h2
  by_cases h3 : t.sort = 3
  · exact l1Alone_3 t P c w hP hrep h3
  by_cases h4 : t.sort = 4
  · exact l1Alone_4 t P c w hP hrep h4
  by_cases h5 : t.sort = 5
  · exact l1Alone_5 t P c w hP hrep h5
  by_cases h6 : t.sort = 6
  · exact l1Alone_6 t P c w hP hrep h6
  exact l1Alone_0 t P c w hP hrep h1 h2 h3 h4 h5 h6
end Go.Proofs.YtbkagahmiibclaaGreatDoor

/- The walks of the specification's l1Parts, TreeOk and TreeParts: what they answer. No conditions. -/

namespace Go.Proofs.YtbkagahmiibclaaGreatDoor
open Go Go.RowKit

def PartsSaid (n : Nat) : Prop := ∀ (t : Tr), tsz t < n → ∀ (P : Nat → Prop) (c : C5) (d : Int) (w : World), (∀ b, P b → b < w.heap.size) → Rep P w t c → 1 ≤ d → d ≤ 7 →
    Calls Tryz.prog 58 #[.agg #[c.c0, c.c1, c.c2, c.c3, c.c4], .int .i64 d] w fun e w' => e = .returned (.int .i64 (pT t d)) ∧ Below w.heap.size w w'

set_option maxHeartbeats 400000 in
theorem l1Parts_step (n : Nat) (IH : PartsSaid n) : PartsSaid (n + 1) := by
  intro t hn P c d w hP hrep hd0 hd1
  have HREP := hide hrep
  have HEQ := hide (pT_eq t d)
  obtain ⟨c0, c1, c2, c3, c4⟩ := c
  obtain ⟨e0, e1, e2, -, -, -, ⟨a3, cap3, e3, -, -⟩, a, cap, e4, hlen, hks⟩ := hrep.open
  simp only at e0 e1 e2 e3 e4
  subst e0 e1 e2 e3 e4
  have HP := hide hP; have HI := hide IH; have HK := hide hks
  clear hrep hP IH hks
  have hbx : ∀ o, Below w.heap.size w (w.alloc o) := fun o => (Below.refl _ _).alloc (Nat.le_refl _) o
  have HBX := hide hbx; clear hbx
  by_cases h6 : 6 < d
  · go_enter Tryz.func58, Tryz.ntmps58
    go_wp2_with fail
    go_ret
    refine ⟨?_, unhide HBX _⟩
    rw [unhide HEQ, if_pos (Or.inl h6)]
    rfl
  · have hal : ∀ o, Calls Tryz.prog 87 #[.agg #[.int .i64 t.sort, .int .i64 t.num, .string t.text, .slice a3 t.names.length cap3, .slice a t.kids.length cap]] (w.alloc o) fun e w' => e = .returned (.bool (aloneB t)) ∧ Below (w.alloc o).heap.size (w.alloc o) w' := fun o =>
      l1Alone_any t P ⟨_, _, _, _, _⟩ (w.alloc o) (fun b hb => Nat.lt_of_lt_of_le (unhide HP b hb) (unhide HBX o).size) (Rep.carry (fun b hb => (unhide HBX o).block b (unhide HP b hb)) (fun _ h => h) _ _ (unhide HREP))
    have HAL := hide hal; clear hal
    by_cases ha : aloneB t = true
    · go_enter Tryz.func58, Tryz.ntmps58
      go_wp2_with (go_at_call 87; refine (unhide HAL _).mono ?_; rintro e w' ⟨rfl, hb'⟩)
      obtain ⟨q0, -, hb0⟩ := box1 hb'
      have hpk : pT t d = pK t.kids d 1 := by rw [unhide HEQ, if_neg (by simp [ha]; omega)]
      have HPK := hide hpk
      clear hb' hpk HEQ HAL
      generalize hks : t.kids = ks at *
      have HKS := hide hks; clear hks
      go_loopw [5, 6] (fun m i wr => ∃ (k : Nat) (q : Int), k ≤ ks.length ∧ i = .int .i64 k ∧ m = .int .i64 q ∧ 1 ≤ q ∧ q ≤ 120 ∧ Hid (pK (ks.drop k) d q = pK ks d 1) ∧ wr.cell? ⟨w.heap.size, 4, none⟩ = some (.slice a ks.length cap) ∧ w.heap.size < wr.heap.size ∧ Below w.heap.size w wr) (fun _ i _ => ks.length - (intOf i).toNat)
      case atStart => exact ⟨0, 1, Nat.zero_le _, rfl, rfl, by omega, by omega, rfl, q0.cell (i := 4) (by omega), q0.lt, hb0⟩
      case round =>
        obtain ⟨k, q, hk, rfl, rfl, hq0, hq1, HQ, hbox, hbs, hb⟩ := hrel
        by_cases hlt : k < ks.length
        · obtain ⟨b, o, c, rfl, hpb, hcell, hrep⟩ := unhide HK k hlt
          have hcell' := hcell.carry (hb.block b (unhide HP b hpb))
          obtain ⟨c0, c1, c2, c3, c4⟩ := c
          obtain ⟨e0, e1, e2, e3, e4⟩ := hcell'
          simp only at e0 e1 e2 e3 e4
          have hmem : ks[k] ∈ t.kids := by rw [unhide HKS]; exact List.getElem_mem hlt
          have hsm : tsz ks[k] < n := by have := tsz_kid hmem; omega
          have hcall := unhide HI ks[k] hsm P ⟨c0, c1, c2, c3, c4⟩ (d + 1) wr (fun b hb' => Nat.lt_of_lt_of_le (unhide HP b hb') hb.size) (Rep.carry (fun b hb' => hb.block b (unhide HP b hb')) (fun _ h => h) _ _ hrep) (by omega) (by omega)
          have hst := pK_step hlt d q
          have hbd := pT_bd ks[k] (d + 1)
          generalize pT ks[k] (d + 1) = r at hcall hst hbd
          have HCALL := hide hcall; have HST := hide hst
          clear hrep hcell hpb hmem hcall hst
          by_cases hbad : r < 0 ∨ 120 < q + r
          · have hfin : pT t d = -1 := by rw [unhide HPK, ← HQ.out, unhide HST, if_pos hbad]
            have HFIN := hide hfin; clear hfin
            rcases hbad with hbad | hbad
            · go_wp2_with (go_at_call 58; refine (unhide HCALL).mono ?_; rintro e w2 ⟨rfl, hb2⟩)
              go_ret
              exact ⟨by rw [unhide HFIN]; rfl, hb.trans (hb2.mono hb.size)⟩
            · have hr0 : 0 ≤ r := by omega
              go_wp2_with (go_at_call 58; refine (unhide HCALL).mono ?_; rintro e w2 ⟨rfl, hb2⟩)
              go_ret
              exact ⟨by rw [unhide HFIN]; rfl, hb.trans (hb2.mono hb.size)⟩
          · have hr0 : 0 ≤ r := by omega
            have hr1 : q + r ≤ 120 := by omega
            have hfin : pK (ks.drop (k + 1)) d (q + r) = pK ks d 1 := by rw [← HQ.out, unhide HST, if_neg hbad]
            have HFIN := hide hfin
            clear hfin hbad
            go_wp2_with (go_at_call 58; refine (unhide HCALL).mono ?_; rintro e w2 ⟨rfl, hb2⟩)
            go_roundw
            case rel => exact ⟨k + 1, _, by omega, by go_num, rfl, by omega, by omega, unhide HFIN, by rw [hb2.cell hbs]; exact hbox, Nat.lt_of_lt_of_le hbs hb2.size, hb.trans (hb2.mono hb.size)⟩
            case measure => simp [intOf]; omega
        · go_wp2_with fail
          go_ret
          refine ⟨?_, hb⟩
          rw [unhide HPK, ← HQ.out, List.drop_of_length_le (by omega), pK]
          rfl
    · have ha' : aloneB t = false := by simpa using ha
      clear ha
      go_enter Tryz.func58, Tryz.ntmps58
      go_wp2_with (go_at_call 87; refine (unhide HAL _).mono ?_; rintro e w' ⟨rfl, hb'⟩)
      go_ret
      refine ⟨?_, (box1 hb').2.2⟩
      rw [unhide HEQ, if_pos (Or.inr ha')]
      rfl

theorem l1Parts_all : ∀ n, PartsSaid n
  | 0 => fun t h => by omega
  | n + 1 => l1Parts_step n (l1Parts_all n)

set_option maxHeartbeats 400000 in
theorem specTreeOk_any (t : Tr) (P : Nat → Prop) (c : C5) (w : World) (hP : ∀ b, P b → b < w.heap.size) (hrep : Rep P w t c) :
    Calls Tryz.prog 23 #[.agg #[c.c0, c.c1, c.c2, c.c3, c.c4]] w fun e w' => e = .returned (.bool (decide (0 < pT t 1))) ∧ Below w.heap.size w w' := by
  have hbx : ∀ o, Below w.heap.size w (w.alloc o) := fun o => (Below.refl _ _).alloc (Nat.le_refl _) o
  have hcall : ∀ o, Calls Tryz.prog 58 #[.agg #[c.c0, c.c1, c.c2, c.c3, c.c4], .int .i64 1] (w.alloc o) fun e w' => e = .returned (.int .i64 (pT t 1)) ∧ Below w.heap.size w w' := fun o =>
    (l1Parts_all (tsz t + 1) t (by omega) P c 1 (w.alloc o) (fun b hb => Nat.lt_of_lt_of_le (hP b hb) (hbx o).size) (Rep.carry (fun b hb => (hbx o).block b (hP b hb)) (fun _ h => h) _ _ hrep) (by omega) (by omega)).mono
      fun e w' ⟨h1, h2⟩ => ⟨h1, (hbx o).trans (h2.mono (hbx o).size)⟩
  generalize pT t 1 = r at *
  have HCALL := hide hcall
  clear hbx hcall hP hrep
  go_enter Tryz.func23, Tryz.ntmps23
  go_wp2_with (go_at_call 58; refine (unhide HCALL _).mono ?_; rintro e w2 ⟨rfl, hb2⟩)
  go_ret
  exact ⟨rfl, hb2⟩
end Go.Proofs.YtbkagahmiibclaaGreatDoor
