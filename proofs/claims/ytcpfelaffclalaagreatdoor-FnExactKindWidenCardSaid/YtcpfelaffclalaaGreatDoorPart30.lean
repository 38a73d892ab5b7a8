/- The walks of the program's sortTree, TreeOk and TreeParts: they answer as the plain function on data does. The table treeFields is as the program lays it. -/
import Derived.Test.YtcpfelaffclalaaGreatDoorPart27
import Derived.Test.YtcpfelaffclalaaGreatDoorPart29
import Derived.BigQuiet
namespace Go.Proofs.YtcpfelaffclalaaGreatDoor
open Go Go.RowKit

/-- What the sorter's closure finds: the tree's box, the bounds, the place of the answer. -/
structure Seat (P : Nat → Prop) (w : World) (X B Y : Nat) (t : Tr) (c : C5) : Prop where
  box : w.rowIs X 39 5 (row5 c.c0 c.c1 c.c2 c.c3 c.c4)
  bnd : Bnd w B 0 0
  ans : w.cell? ⟨Y, 0, none⟩ = some .nilIface
  frz : w.frozen? ⟨Y, 0, none⟩ = false
  rep : Rep P w t c
  old : ∀ b, P b → b < X
  tab : Tab w
  xb : X < B
  by' : B < Y
  x0 : 1 < X

/-- What it leaves. -/
structure Sorted (P : Nat → Prop) (w w' : World) (X B Y : Nat) (t : Tr) (q : Int) (v : Value) : Prop where
  ans : w'.cell? ⟨Y, 0, none⟩ = some v
  rep : SRep (fun b => P b ∨ (w.heap.size ≤ b ∧ b < w'.heap.size)) w' t v
  bnd : Bnd w' B q 0
  size : w.heap.size ≤ w'.heap.size
  low : Below X w w'
  kept : ∀ b, b < w.heap.size → b ≠ B → b ≠ Y → w'.heap[b]? = w.heap[b]?

set_option maxHeartbeats 800000 in
theorem sort1_yes (P : Nat → Prop) (w : World) (X B Y : Nat) (t : Tr) (c : C5) (q : Int) (h : Seat P w X B Y t c) (hq : wlk t 0 0 = some q) :
    Calls Tryz.prog 102 #[.pointer (some ⟨B, 0, none⟩), .pointer (some ⟨X, 0, none⟩), .pointer (some ⟨Y, 0, none⟩)] w fun e w' => e = .returned (.tuple #[]) ∧ ∃ v, Sorted P w w' X B Y t q v := by
  obtain ⟨box, bnd, ans, frz, rep, old, tab, xb, by', x0⟩ := h
  have hBw := bnd.lt
  have hYw : Y < w.heap.size := World.block_lt_of_cell? w _ ans
  have hcall := tree_all (tsz t + 1) t (by omega) P c w B 0 0 (fun b hb => ⟨by have := old b hb; omega, by have := old b hb; omega⟩) rep bnd tab (by omega) (by omega) (by omega) (by omega) (by omega)
  have HCALL : Hid (Calls Tryz.prog 103 #[.pointer (some ⟨B, 0, none⟩), .agg #[c.c0, c.c1, c.c2, c.c3, c.c4]] w fun e w' => ∃ v, e = .returned v ∧ But B w w' ∧ SRep (fun b => P b ∨ (w.heap.size ≤ b ∧ b < w'.heap.size)) w' t v ∧ Bnd w' B q 0) :=
    hcall.mono fun e w' ⟨h1, h2⟩ => by
      rcases h2 with ⟨q', v, g1, g2, g3, g4⟩ | ⟨g1, _⟩
      · rw [hq] at g1; simp only [Option.some.injEq] at g1; subst g1; exact ⟨v, g2, h1, g3, g4⟩
      · rw [hq] at g1; cases g1
  have HOLD := hide old
  have k0 := box.cell (i := 0) (by omega); have k1 := box.cell (i := 1) (by omega); have k2 := box.cell (i := 2) (by omega); have k3 := box.cell (i := 3) (by omega); have k4 := box.cell (i := 4) (by omega)
  simp only [row5] at k0 k1 k2 k3 k4
  have HANS := hide ans; have HFRZ := hide frz
  clear hcall box bnd rep tab hq old ans frz
  go_enter Tryz.func102, Tryz.ntmps102
  go_wp2_with fail
  refine (unhide HCALL).mono ?_
  rintro e w1 ⟨v, rfl, hbt, hsr, hbn⟩
  have hs1 := hbt.size
  have ya : w1.cell? ⟨Y, 0, none⟩ = some .nilIface := by rw [World.cell?_of_block (a := ⟨Y, 0, none⟩) (hbt.at hYw (show Y ≠ B by omega))]; exact unhide HANS
  have yf : w1.frozen? ⟨Y, 0, none⟩ = false := by rw [World.frozen?_of_block (a := ⟨Y, 0, none⟩) (hbt.at hYw (show Y ≠ B by omega))]; exact unhide HFRZ
  obtain ⟨T, x, rfl⟩ := hsr.iface
  have hfin : Sorted P w (w1.setCell ⟨Y, 0, none⟩ (.iface T x)) X B Y t q (.iface T x) := by
    have he : ∀ b, b ≠ Y → (w1.setCell ⟨Y, 0, none⟩ (.iface T x)).heap[b]? = w1.heap[b]? := fun b hb => Below.heap_setCell _ _ _ _ hb
    have hsz : (w1.setCell ⟨Y, 0, none⟩ (.iface T x)).heap.size = w1.heap.size := by simp [World.setCell]
    refine ⟨by simp [go_sem, ya], SRep.carry (fun b hb => he b ?_) (fun b hb => by rw [hsz]; exact hb) _ _ hsr, hbn.of_block (he B (by omega)), by omega, ?_, fun b h1 h2 h3 => (he b h3).trans (hbt.at h1 h2)⟩
    · rcases hb with hb | hb
      · have := unhide HOLD b hb; omega
      · omega
    · exact ⟨hbt.os, hbt.tape, hbt.output, by omega, fun b hb => (he b (by omega)).trans (hbt.at (by omega) (by omega))⟩
  have HFIN := hide hfin
  clear hbt hsr hbn hfin k0 k1 k2 k3 k4
  go_wp2_with fail
  go_end0
  exact ⟨rfl, _, unhide HFIN⟩

set_option maxHeartbeats 800000 in
theorem sort1_no (P : Nat → Prop) (w : World) (X B Y : Nat) (t : Tr) (c : C5) (h : Seat P w X B Y t c) (hq : wlk t 0 0 = none) :
    Calls Tryz.prog 102 #[.pointer (some ⟨B, 0, none⟩), .pointer (some ⟨X, 0, none⟩), .pointer (some ⟨Y, 0, none⟩)] w fun e w' => e = fltE ∧ But B w w' := by
  obtain ⟨box, bnd, ans, frz, rep, old, tab, xb, by', x0⟩ := h
  have hcall := tree_all (tsz t + 1) t (by omega) P c w B 0 0 (fun b hb => ⟨by have := old b hb; have := bnd.lt; omega, by have := old b hb; omega⟩) rep bnd tab (by omega) (by omega) (by omega) (by omega) (by omega)
  have HCALL : Hid (Calls Tryz.prog 103 #[.pointer (some ⟨B, 0, none⟩), .agg #[c.c0, c.c1, c.c2, c.c3, c.c4]] w fun e w' => e = fltE ∧ But B w w') :=
    hcall.mono fun e w' ⟨h1, h2⟩ => by
      rcases h2 with ⟨q', v, g1, g2, g3, g4⟩ | ⟨_, g2⟩
      · rw [hq] at g1; cases g1
      · exact ⟨g2, h1⟩
  have k0 := box.cell (i := 0) (by omega); have k1 := box.cell (i := 1) (by omega); have k2 := box.cell (i := 2) (by omega); have k3 := box.cell (i := 3) (by omega); have k4 := box.cell (i := 4) (by omega)
  simp only [row5] at k0 k1 k2 k3 k4
  clear hcall box bnd rep tab hq old ans frz
  go_enter Tryz.func102, Tryz.ntmps102
  go_wp2_with (go_at_call 103; refine (unhide HCALL).mono ?_; rintro e w1 ⟨rfl, hbt⟩)
  exact ⟨rfl, rfl, hbt⟩

theorem enter40 (caps : Array Value) (W : World) : Sem.run Tryz.prog (callFunc 102 caps) W = .ok (.enter 102 caps) W := by
  kernel_rfl

/-- The seat in the world in which treeTry calls the closure. -/
theorem seat_here {P : Nat → Prop} {w : World} {t : Tr} {c : C5} (hrep : Rep P w t c) (hP : ∀ b, P b → b < w.heap.size) (hT : Tab w) (o : Obj) :
    Seat P ((((w.alloc (.cells #[c.c0, c.c1, c.c2, c.c3, c.c4] 39)).alloc (.cells #[.int .i64 0, .int .i64 0] 149)).alloc (.cells #[.nilIface] 111)).alloc o) w.heap.size (w.heap.size + 1) (w.heap.size + 1 + 1) t c := by
  have hb : Below w.heap.size w ((((w.alloc (.cells #[c.c0, c.c1, c.c2, c.c3, c.c4] 39)).alloc (.cells #[.int .i64 0, .int .i64 0] 149)).alloc (.cells #[.nilIface] 111)).alloc o) :=
    ((((Below.refl _ _).alloc (Nat.le_refl _) _).alloc (by simp) _).alloc (by simp; omega) _).alloc (by simp; omega) _
  refine ⟨(((row5_alloc w c.c0 c.c1 c.c2 c.c3 c.c4 _).alloc _).alloc _).alloc _, ⟨?_, ?_, ?_, ?_⟩, ?_, ?_, Rep.carry (fun b hb' => hb.block b (hP b hb')) (fun _ h => h) _ _ hrep, hP, hT.of_block (hb.block 1 hT.lt), by omega, by omega, hT.lt⟩
  all_goals simp [go_sem]

/-- treeTry over the closure, where the tree is ok. -/
theorem tryWork_yes {P : Nat → Prop} {w : World} {t : Tr} {c : C5} {q : Int} (hrep : Rep P w t c) (hP : ∀ b, P b → b < w.heap.size) (hT : Tab w) (hq : wlk t 0 0 = some q) :
    Calls Tryz.prog 101 #[.func (.func 102) #[] #[.pointer (some ⟨w.heap.size + 1, 0, none⟩), .pointer (some ⟨w.heap.size, 0, none⟩), .pointer (some ⟨w.heap.size + 1 + 1, 0, none⟩)]]
      (((w.alloc (.cells #[c.c0, c.c1, c.c2, c.c3, c.c4] 39)).alloc (.cells #[.int .i64 0, .int .i64 0] 149)).alloc (.cells #[.nilIface] 111)) fun e w' =>
        e = .returned (.bool true) ∧ ∃ v, w'.cell? ⟨w.heap.size + 1 + 1, 0, none⟩ = some v ∧ Bnd w' (w.heap.size + 1) q 0 ∧ SRep (fun b => P b ∨ (w.heap.size ≤ b ∧ b < w'.heap.size)) w' t v ∧ Below w.heap.size w w' := by
  generalize hW : (((w.alloc (.cells #[c.c0, c.c1, c.c2, c.c3, c.c4] 39)).alloc (.cells #[.int .i64 0, .int .i64 0] 149)).alloc (.cells #[.nilIface] 111)) = W
  have hsz : W.heap.size = w.heap.size + 3 := by rw [← hW]; simp
  have hbw : Below w.heap.size w W := by rw [← hW]; exact (((Below.refl _ _).alloc (Nat.le_refl _) _).alloc (by simp) _).alloc (by simp; omega) _
  refine (treeTry_yes 102 _ W (fun w1 => ∃ o v, Sorted P (W.alloc o) w1 w.heap.size (w.heap.size + 1) (w.heap.size + 1 + 1) t q v) (enter40 _) (fun o => ?_)).mono ?_
  · have hs := seat_here hrep hP hT o
    rw [hW] at hs
    refine (sort1_yes P (W.alloc o) _ _ _ t c q hs hq).mono fun e w' ⟨h1, v, h2⟩ => ⟨h1, ⟨o, v, h2⟩, h2.kept _ (by simp) (by omega) (by omega)⟩
  · rintro e w' ⟨rfl, w1, ⟨o, v, hs⟩, hb⟩
    have hs1 := hs.size
    have hs2 := hb.size
    have hsa : (W.alloc o).heap.size = w.heap.size + 4 := by simp [hsz]
    refine ⟨rfl, v, ?_, ?_, ?_, ?_⟩
    · rw [World.cell?_of_block (a := ⟨w.heap.size + 1 + 1, 0, none⟩) (hb.at (by simp only; omega) (by simp only; omega))]; exact hs.ans
    · exact hs.bnd.of_block (hb.at (by omega) (by omega))
    · refine SRep.carry (fun b hb' => ?_) (fun b hb' => ?_) _ _ hs.rep
      · rcases hb' with hb' | hb'
        · have := hP b hb'; exact hb.at (by omega) (by omega)
        · exact hb.at hb'.2 (by omega)
      · rcases hb' with hb' | hb'
        · exact Or.inl hb'
        · exact Or.inr ⟨by omega, by omega⟩
    · have h1 := (hbw.trans (((Below.refl _ _).alloc (by omega) o).trans hs.low))
      exact ⟨hb.os.trans h1.os, hb.tape.trans h1.tape, hb.output.trans h1.output, by have := h1.size; omega, fun b hb' => (hb.at (by omega) (by omega)).trans (h1.block b hb')⟩

/-- treeTry over the closure, where the tree is not ok. -/
theorem tryWork_no {P : Nat → Prop} {w : World} {t : Tr} {c : C5} (hrep : Rep P w t c) (hP : ∀ b, P b → b < w.heap.size) (hT : Tab w) (hq : wlk t 0 0 = none) :
    Calls Tryz.prog 101 #[.func (.func 102) #[] #[.pointer (some ⟨w.heap.size + 1, 0, none⟩), .pointer (some ⟨w.heap.size, 0, none⟩), .pointer (some ⟨w.heap.size + 1 + 1, 0, none⟩)]]
      (((w.alloc (.cells #[c.c0, c.c1, c.c2, c.c3, c.c4] 39)).alloc (.cells #[.int .i64 0, .int .i64 0] 149)).alloc (.cells #[.nilIface] 111)) fun e w' =>
        e = .returned (.bool false) ∧ Below w.heap.size w w' := by
  generalize hW : (((w.alloc (.cells #[c.c0, c.c1, c.c2, c.c3, c.c4] 39)).alloc (.cells #[.int .i64 0, .int .i64 0] 149)).alloc (.cells #[.nilIface] 111)) = W
  have hsz : W.heap.size = w.heap.size + 3 := by rw [← hW]; simp
  have hbw : Below w.heap.size w W := by rw [← hW]; exact (((Below.refl _ _).alloc (Nat.le_refl _) _).alloc (by simp) _).alloc (by simp; omega) _
  refine (treeTry_no 102 _ W (fun w1 => ∃ o, But (w.heap.size + 1) (W.alloc o) w1) (enter40 _) (fun o => ?_)).mono ?_
  · have hs := seat_here hrep hP hT o
    rw [hW] at hs
    refine (sort1_no P (W.alloc o) _ _ _ t c hs hq).mono fun e w' ⟨h1, h2⟩ => ⟨h1, ⟨o, h2⟩, h2.at (by simp) (by omega)⟩
  · rintro e w' ⟨rfl, w1, ⟨o, hs⟩, hb⟩
    have hs1 := hs.size
    have hs2 := hb.size
    have hsa : (W.alloc o).heap.size = w.heap.size + 4 := by simp [hsz]
    have h1 := hbw.trans ((Below.refl _ _).alloc (by omega) o)
    refine ⟨rfl, hb.os.trans (hs.os.trans h1.os), hb.tape.trans (hs.tape.trans h1.tape), hb.output.trans (hs.output.trans h1.output), by have := h1.size; omega, fun b hb' => (hb.at (by omega) (by omega)).trans ((hs.at (by omega) (by omega)).trans (h1.block b hb'))⟩

set_option maxRecDepth 100000 in
set_option maxHeartbeats 800000 in
theorem sortTree_yes (P : Nat → Prop) (w : World) (t : Tr) (c : C5) (q : Int) (hrep : Rep P w t c) (hP : ∀ b, P b → b < w.heap.size) (hT : Tab w) (hq : wlk t 0 0 = some q) :
    Calls Tryz.prog 66 #[.agg #[c.c0, c.c1, c.c2, c.c3, c.c4]] w fun e w' => ∃ v, e = .returned (.tuple #[v, .int .i64 q]) ∧ SRep (fun b => P b ∨ (w.heap.size ≤ b ∧ b < w'.heap.size)) w' t v ∧ Below w.heap.size w w' := by
  have hmf : ∀ (fn : Fn) (first cap : Array Value) (w : World), (Instr.makeFunc fn first cap).run Tryz.prog w = .ok (.func fn first cap) w := fun _ _ _ _ => rfl
  obtain ⟨c0, c1, c2, c3, c4⟩ := c
  have HTRY := hide (tryWork_yes hrep hP hT hq)
  clear hrep hT hq hP
  go_enter Tryz.func66, Tryz.ntmps66
  go_wp2_with fail
  refine (unhide HTRY).mono ?_
  rintro e w1 ⟨rfl, v, hv, ⟨b0, b1, -, -⟩, hsr, hb⟩
  have HSR := hide hsr; have HB := hide hb
  clear hsr hb hmf
  go_wp2_with fail
  go_quiet (fail)
  go_wp2_with fail
  go_ret2
  refine ⟨v, rfl, ?_, below_drewN (unhide HB) _⟩
  refine SRep.carry (w := w1) (P := fun b => P b ∨ (w.heap.size ≤ b ∧ b < w1.heap.size)) (fun _ _ => ?_) (fun _ h => h) _ _ (unhide HSR)
  rfl

set_option maxRecDepth 100000 in
set_option maxHeartbeats 800000 in
theorem sortTree_no (P : Nat → Prop) (w : World) (t : Tr) (c : C5) (hrep : Rep P w t c) (hP : ∀ b, P b → b < w.heap.size) (hT : Tab w) (hq : wlk t 0 0 = none) :
    Calls Tryz.prog 66 #[.agg #[c.c0, c.c1, c.c2, c.c3, c.c4]] w fun e w' => e = .returned (.tuple #[.nilIface, .int .i64 0]) ∧ Below w.heap.size w w' := by
  have hmf : ∀ (fn : Fn) (first cap : Array Value) (w : World), (Instr.makeFunc fn first cap).run Tryz.prog w = .ok (.func fn first cap) w := fun _ _ _ _ => rfl
  obtain ⟨c0, c1, c2, c3, c4⟩ := c
  have HTRY := hide (tryWork_no hrep hP hT hq)
  clear hrep hT hq hP
  go_enter Tryz.func66, Tryz.ntmps66
  go_wp2_with fail
  refine (unhide HTRY).mono ?_
  rintro e w1 ⟨rfl, hb⟩
  have HB := hide hb
  clear hb hmf
  go_wp2_with fail
  go_ret2
  exact ⟨rfl, unhide HB⟩

/-- sortTree, whatever the tree: the parts alone. -/
theorem sortTree_parts (P : Nat → Prop) (w : World) (t : Tr) (c : C5) (hrep : Rep P w t c) (hP : ∀ b, P b → b < w.heap.size) (hT : Tab w) :
    Calls Tryz.prog 66 #[.agg #[c.c0, c.c1, c.c2, c.c3, c.c4]] w fun e w' => ∃ v, e = .returned (.tuple #[v, .int .i64 (if pT t 1 < 0 then 0 else pT t 1)]) ∧ Below w.heap.size w w' := by
  by_cases h : pT t 1 < 0
  · rw [if_pos h]
    exact (sortTree_no P w t c hrep hP hT (by rw [wlk_start, if_pos h])).mono fun e w' ⟨h1, h2⟩ => ⟨_, h1, h2⟩
  · rw [if_neg h]
    exact (sortTree_yes P w t c _ hrep hP hT (by rw [wlk_start, if_neg h])).mono fun e w' ⟨v, h1, _, h2⟩ => ⟨v, h1, h2⟩

set_option maxHeartbeats 800000 in
theorem implTreeOk_any (t : Tr) (P : Nat → Prop) (c : C5) (w : World) (hP : ∀ b, P b → b < w.heap.size) (hrep : Rep P w t c) (hT : Tab w) :
    Calls Tryz.prog 38 #[.agg #[c.c0, c.c1, c.c2, c.c3, c.c4]] w fun e w' => e = .returned (.bool (decide (0 < pT t 1))) ∧ Below w.heap.size w w' := by
  have hbx : ∀ o, Below w.heap.size w (w.alloc o) := fun o => (Below.refl _ _).alloc (Nat.le_refl _) o
  have hcall : ∀ o, Calls Tryz.prog 66 #[.agg #[c.c0, c.c1, c.c2, c.c3, c.c4]] (w.alloc o) fun e w' => ∃ v, e = .returned (.tuple #[v, .int .i64 (if pT t 1 < 0 then 0 else pT t 1)]) ∧ Below w.heap.size w w' := fun o =>
    (sortTree_parts P (w.alloc o) t c (Rep.carry (fun b hb => (hbx o).block b (hP b hb)) (fun _ h => h) _ _ hrep) (fun b hb => Nat.lt_of_lt_of_le (hP b hb) (hbx o).size) (hT.of_block ((hbx o).block 1 hT.lt))).mono
      fun e w' ⟨v, h1, h2⟩ => ⟨v, h1, (hbx o).trans (h2.mono (hbx o).size)⟩
  have hd : decide (0 < pT t 1) = decide (0 < (if pT t 1 < 0 then 0 else pT t 1)) := by
    by_cases h : pT t 1 < 0
    · rw [if_pos h]; simp; omega
    · rw [if_neg h]
  rw [hd]
  generalize (if pT t 1 < 0 then 0 else pT t 1) = r at *
  have HCALL := hide hcall
  clear hbx hcall hP hrep hT hd
  go_enter Tryz.func38, Tryz.ntmps38
  go_wp2_with (go_at_call 66; refine (unhide HCALL _).mono ?_; rintro e w2 ⟨v, rfl, hb2⟩)
  go_ret
  exact ⟨rfl, hb2⟩
end Go.Proofs.YtcpfelaffclalaaGreatDoor
