/- The walks of the program's tree, sortTree, treeTry, TreeOk and TreeParts. The table treeFields is as the program lays it. -/
import Derived.Test.YtgamonfmgngilaaGreatDoorPart22
import Derived.Defers
import Derived.Recover
import Derived.Test.YtgamonfmgngilaaGreatDoorPart21
import Derived.BigQuiet
import Derived.Test.YtgamonfmgngilaaGreatDoorPart18
import Derived.Test.YtgamonfmgngilaaGreatDoorPart01
import Derived.Test.YtgamonfmgngilaaGreatDoorRows
import Derived.Test.YtgamonfmgngilaaGreatDoorPart00
import Derived.Lib.ItoaNum
import Derived.Lib.ItoaLen
import Derived.Lib.ItoaMem
import Derived.Deep.RegionWith
import Derived.WalkSmall
namespace Go.Proofs.YtgamonfmgngilaaGreatDoor
open Go Go.RowKit

theorem ofIts_any (n : Nat) (IH : TreeSaid n) (t : Tr) (hn : tsz t ≤ n) (P : Nat → Prop) (c : C5) (w : World) (B : Nat) (p l : Int) (hP : ∀ b, P b → b < w.heap.size ∧ b ≠ B) (hrep : Rep P w t c) (hB : Bnd w B p l) (hT : Tab w) (hB0 : 0 < B) (hp0 : 0 ≤ p) (hp1 : p ≤ 120) (hl0 : 0 ≤ l) (hl1 : l ≤ 6) (ho : ownB t = true) :
    Calls Tryz.prog 91 #[.pointer (some ⟨B, 0, none⟩), .agg #[c.c0, c.c1, c.c2, c.c3, c.c4]] w (OfPost P t B p l w) := by
  have h : (t.sort < 1 ∨ 6 < t.sort) ∨ t.sort = 1 ∨ t.sort = 2 ∨ t.sort = 3 ∨ t.sort = 4 ∨ t.sort = 5 ∨ t.sort = 6 := by omega
  rcases h with h | h | h | h | h | h | h
  · rw [own_out h] at ho; cases ho
  · exact ofIts_1 t P c w B p l hrep hB ho h
  · exact ofIts_2 t P c w B p l hrep hB ho h
  · exact ofIts_3 t P c w B p l hrep hB ho h
  · exact ofIts_4 n IH t hn P c w B p l hP hrep hB hT hB0 hp0 hp1 hl0 hl1 h
  · exact ofIts_5 n IH t hn P c w B p l hP hrep hB hT hB0 hp0 hp1 hl0 hl1 h
  · exact ofIts_6 n IH t hn P c w B p l hP hrep hB hT hB0 hp0 hp1 hl0 hl1 h

set_option maxHeartbeats 800000 in
theorem tree_step (n : Nat) (IH : TreeSaid n) : TreeSaid (n + 1) := by
  intro t hn P c w B p l hP hrep hB hT hB0 hp0 hp1 hl0 hl1
  have hBw := hB.lt
  have hBne : ¬ w.heap.size = B := by omega
  by_cases hin : p + 1 ≤ 120 ∧ l + 1 ≤ 6
  · have hen : ∀ x0 x1 x2 x3 x4 : Value, Calls Tryz.prog 89 #[.pointer (some ⟨B, 0, none⟩)] (w.alloc (.cells #[x0, x1, x2, x3, x4] 26)) fun e w' => e = .returned (.tuple #[]) ∧ w'.rowIs w.heap.size 26 5 (row5 x0 x1 x2 x3 x4) ∧ Bnd w' B (p + 1) (l + 1) ∧ But B w w' ∧ w.heap.size < w'.heap.size := fun x0 x1 x2 x3 x4 =>
      (enter_yes B p l _ (hB.alloc _) hp0 hl0 hin.1 hin.2).mono fun e w' ⟨h1, h2⟩ => by
        have hb := ((But.set (B := B) (w.alloc (.cells #[x0, x1, x2, x3, x4] 26)) 0 (.int .i64 (p + 1))).trans (But.set _ 1 (.int .i64 (l + 1))))
        rw [h2]
        refine ⟨h1, (row5_alloc w x0 x1 x2 x3 x4 _).of_block (hb.at (by simp) hBne), (hB.alloc _).set2 _ _, (But.alloc B w _).trans hb, ?_⟩
        have := hb.size
        simp at this ⊢
    have hwo : ownB t = true → wlk t p l = ofS t (p + 1) (l + 1) := wlk_of t p l hin
    have hwn : ownB t = false → wlk t p l = none := fun h => by rw [wlk_eq, if_pos hin, if_neg (by rw [h]; simp)]
    have HEN := hide hen; have HREP := hide hrep; have HP := hide hP; have HT := hide hT; have HI := hide IH; have HWO := hide hwo; have HWN := hide hwn
    obtain ⟨h120, h6⟩ := hin
    obtain ⟨c0, c1, c2, c3, c4⟩ := c
    clear hen hP hrep hB hT IH hwo hwn
    go_enter Tryz.func54, Tryz.ntmps54
    go_wp2_with fail
    refine (unhide HEN _ _ _ _ _).mono ?_
    rintro e w1 ⟨rfl, q1, hb1, hbt1, hs1⟩
    have hrep1 : Rep P w1 t ⟨c0, c1, c2, c3, c4⟩ := Rep.carry (fun b hb => hbt1.at (unhide HP b hb).1 (unhide HP b hb).2) (fun _ h => h) _ _ (unhide HREP)
    have hT1 := (unhide HT).but hbt1 hB0
    have hown := own_any t P ⟨c0, c1, c2, c3, c4⟩ w1 hrep1 hT1 hT1.lt
    have HOWN := hide hown; have HREP1 := hide hrep1; have HT1 := hide hT1; have Q1 := hide q1; have HB1 := hide hb1; have HBT1 := hide hbt1
    have k0 := q1.cell (i := 0) (by omega); have k1 := q1.cell (i := 1) (by omega); have k2 := q1.cell (i := 2) (by omega); have k3 := q1.cell (i := 3) (by omega); have k4 := q1.cell (i := 4) (by omega)
    simp only [row5] at k0 k1 k2 k3 k4
    clear hown hrep1 hT1 q1 hb1 hbt1
    go_wp2_with fail
    refine (unhide HOWN).mono ?_
    rintro e w2 ⟨rfl, hb2⟩
    clear k0 k1 k2 k3 k4
    have hs2 := hb2.size
    by_cases ho : ownB t = true
    · have q2 := (unhide Q1).of_block (hb2.block _ hs1)
      have hbt2 := (unhide HBT1).trans (But.of_below hb2)
      have hb2' := (unhide HB1).below hb2
      have hrep2 : Rep P w2 t ⟨c0, c1, c2, c3, c4⟩ := Rep.carry (fun b hb => hbt2.at (unhide HP b hb).1 (unhide HP b hb).2) (fun _ h => h) _ _ (unhide HREP)
      have hT2 := (unhide HT).but hbt2 hB0
      have hof := ofIts_any n (unhide HI) t (by omega) P ⟨c0, c1, c2, c3, c4⟩ w2 B (p + 1) (l + 1) (fun b hb => ⟨by have := (unhide HP b hb).1; omega, (unhide HP b hb).2⟩) hrep2 hb2' hT2 hB0 (by omega) h120 (by omega) h6 ho
      have HOF := hide hof; have HBT2 := hide hbt2
      have HW := hide (unhide HWO ho)
      have k0 := q2.cell (i := 0) (by omega); have k1 := q2.cell (i := 1) (by omega); have k2 := q2.cell (i := 2) (by omega); have k3 := q2.cell (i := 3) (by omega); have k4 := q2.cell (i := 4) (by omega)
      simp only [row5] at k0 k1 k2 k3 k4
      clear hof hrep2 hT2 q2 hb2' hbt2 hb2 HOWN HREP1 HT1 Q1 HB1 HBT1 HEN
      go_wp2_with (go_at_call 65; refine (treeWant_yes _).mono ?_; rintro e w' ⟨rfl, hw'⟩; subst hw')
      refine (unhide HOF).mono ?_
      rintro e w3 ⟨hbt3, ⟨q, v, hof, rfl, hsr, hb3⟩ | ⟨hof, rfl⟩⟩
      · have hlv := leave_any B q (l + 1) w3 hb3 (by omega) (by omega)
        rw [show l + 1 - 1 = l from by omega] at hlv
        have hbt4 := ((unhide HBT2).trans hbt3).trans (But.set (B := B) w3 1 (.int .i64 l))
        have hsr4 : SRep (fun b => P b ∨ (w.heap.size ≤ b ∧ b < (w3.setCell ⟨B, 1, none⟩ (.int .i64 l)).heap.size)) (w3.setCell ⟨B, 1, none⟩ (.int .i64 l)) t v := by
          refine SRep.carry (fun b hb => Below.heap_setCell _ _ _ _ ?_) (fun b hb => ?_) _ _ hsr
          · rcases hb with hb | hb
            · exact (unhide HP b hb).2
            · have := hb.1; show b ≠ B; omega
          · rcases hb with hb | hb
            · exact Or.inl hb
            · exact Or.inr ⟨by have := hb.1; omega, by simpa [World.setCell] using hb.2⟩
        have HLV := hide hlv; have HBT4 := hide hbt4; have HSR := hide hsr4; have HB4 := hide (hb3.set1 l)
        have HQ : Hid (wlk t p l = some q) := by show _ = _; rw [unhide HW, hof]
        clear hlv hbt4 hsr4 hsr hb3 hbt3 hof k0 k1 k2 k3 k4
        go_wp2_with (go_at_call 92; refine (unhide HLV).mono ?_; rintro e w4 ⟨rfl, rfl⟩)
        go_ret
        exact ⟨unhide HBT4, Or.inl ⟨q, v, unhide HQ, rfl, unhide HSR, unhide HB4⟩⟩
      · have HBT4 := hide ((unhide HBT2).trans hbt3)
        have HQ : Hid (wlk t p l = none) := by show _ = _; rw [unhide HW, hof]
        clear hbt3 hof
        go_wp2_with fail
        exact ⟨rfl, unhide HBT4, Or.inr ⟨unhide HQ, rfl⟩⟩
    · have ho' : ownB t = false := by simpa using ho
      have HW := hide (unhide HWN ho')
      have hbt2 := (unhide HBT1).trans (But.of_below hb2)
      have HBT2 := hide hbt2
      clear ho hb2 hbt2
      go_wp2_with (go_at_call 65; refine (treeWant_no _).mono ?_; rintro e w' ⟨rfl, rfl⟩)
      exact ⟨rfl, unhide HBT2, Or.inr ⟨unhide HW, rfl⟩⟩
  · have HW : Hid (wlk t p l = none) := by show _ = _; rw [wlk_eq, if_neg hin]
    have hen : ∀ o, Calls Tryz.prog 89 #[.pointer (some ⟨B, 0, none⟩)] (w.alloc o) fun e w' => e = fltE ∧ But B w w' := fun o =>
      (enter_no B p l (w.alloc o) (hB.alloc o) hp0 hl0 hp1 hl1 hin).mono fun e w' ⟨h1, h2⟩ => ⟨h1, by rw [h2]; exact ((But.alloc B w o).trans (But.set _ _ _)).trans (But.set _ _ _)⟩
    have HEN := hide hen
    clear hen hP hrep hB hT IH hin
    go_enter Tryz.func54, Tryz.ntmps54
    go_wp2_with (go_at_call 89; refine (unhide HEN _).mono ?_; rintro e w1 ⟨rfl, hbt⟩)
    exact ⟨rfl, hbt, Or.inr ⟨unhide HW, rfl⟩⟩

theorem tree_all : ∀ n, TreeSaid n
  | 0 => fun t h => by omega
  | n + 1 => tree_step n (tree_all n)
end Go.Proofs.YtgamonfmgngilaaGreatDoor

/- The walks of the program's sortTree, TreeOk and TreeParts: they answer as the plain function on data does. The table treeFields is as the program lays it. -/

namespace Go.Proofs.YtgamonfmgngilaaGreatDoor
open Go Go.RowKit

/-- What the sorter's closure finds: the tree's box, the bounds, the place of the answer. -/
structure Seat (P : Nat → Prop) (w : World) (X B Y : Nat) (t : Tr) (c : C5) : Prop where
  box : w.rowIs X 26 5 (row5 c.c0 c.c1 c.c2 c.c3 c.c4)
  bnd : Bnd w B 0 0
  ans : w.cell? ⟨Y, 0, none⟩ = some .nilIface
  frz : w.frozen? ⟨Y, 0, none⟩ = false
  rep : Rep P w t c
  old : ∀ b, P b → b < X
  tab : Tab w
  xb : X < B
  by' : B < Y
  x0 : 0 < X

/-- What it leaves. -/
structure Sorted (P : Nat → Prop) (w w' : World) (X B Y : Nat) (t : Tr) (q : Int) (v : Value) : Prop where
  ans : w'.cell? ⟨Y, 0, none⟩ = some v
  rep : SRep (fun b => P b ∨ (w.heap.size ≤ b ∧ b < w'.heap.size)) w' t v
  bnd : Bnd w' B q 0
  size : w.heap.size ≤ w'.heap.size
  low : Below X w w'
  kept : ∀ b, b < w.heap.size → b ≠ B → b ≠ Y → w'.heap[b]? = w.heap[b]?

set_option maxHeartbeats 800000 in
theorem sort1_yes (P : Nat → Prop) (w : World) (X B Y : Nat) (t : Tr) (c : C5) (q : Int) (h : Seat P w X B Y t c) (hq : wlk t 0 0 = some q) :
    Calls Tryz.prog 53 #[.pointer (some ⟨B, 0, none⟩), .pointer (some ⟨X, 0, none⟩), .pointer (some ⟨Y, 0, none⟩)] w fun e w' => e = .returned (.tuple #[]) ∧ ∃ v, Sorted P w w' X B Y t q v := by
  obtain ⟨box, bnd, ans, frz, rep, old, tab, xb, by', x0⟩ := h
  have hBw := bnd.lt
  have hYw : Y < w.heap.size := World.block_lt_of_cell? w _ ans
  have hcall := tree_all (tsz t + 1) t (by omega) P c w B 0 0 (fun b hb => ⟨by have := old b hb; omega, by have := old b hb; omega⟩) rep bnd tab (by omega) (by omega) (by omega) (by omega) (by omega)
  have HCALL : Hid (Calls Tryz.prog 54 #[.pointer (some ⟨B, 0, none⟩), .agg #[c.c0, c.c1, c.c2, c.c3, c.c4]] w fun e w' => ∃ v, e = .returned v ∧ But B w w' ∧ SRep (fun b => P b ∨ (w.heap.size ≤ b ∧ b < w'.heap.size)) w' t v ∧ Bnd w' B q 0) :=
    hcall.mono fun e w' ⟨h1, h2⟩ => by
      rcases h2 with ⟨q', v, g1, g2, g3, g4⟩ | ⟨g1, _⟩
      · rw [hq] at g1; simp only [Option.some.injEq] at g1; subst g1; exact ⟨v, g2, h1, g3, g4⟩
      · rw [hq] at g1; cases g1
  have HOLD := hide old
  have k0 := box.cell (i := 0) (by omega); have k1 := box.cell (i := 1) (by omega); have k2 := box.cell (i := 2) (by omega); have k3 := box.cell (i := 3) (by omega); have k4 := box.cell (i := 4) (by omega)
  simp only [row5] at k0 k1 k2 k3 k4
  have HANS := hide ans; have HFRZ := hide frz
  clear hcall box bnd rep tab hq old ans frz
  go_enter Tryz.func53, Tryz.ntmps53
  go_wp2_with fail
  refine (unhide HCALL).mono ?_
  rintro e w1 ⟨v, rfl, hbt, hsr, hbn⟩
  have hs1 := hbt.size
  have ya : w1.cell? ⟨Y, 0, none⟩ = some .nilIface := by rw [World.cell?_of_block (a := ⟨Y, 0, none⟩) (hbt.at hYw (show Y ≠ B by omega))]; exact unhide HANS
  have yf : w1.frozen? ⟨Y, 0, none⟩ = false := by rw [World.frozen?_of_block (a := ⟨Y, 0, none⟩) (hbt.at hYw (show Y ≠ B by omega))]; exact unhide HFRZ
  obtain ⟨T, x, rfl⟩ := hsr.iface
  have hfin : Sorted P w (w1.setCell ⟨Y, 0, none⟩ (.iface T x)) X B Y t q (.iface T x) := by
    have he : ∀ b, b ≠ Y → (w1.setCell ⟨Y, 0, none⟩ (.iface T x)).heap[b]? = w1.heap[b]? := fun b hb => Below.heap_setCell _ _ _ _ hb
    have hsz : (w1.setCell ⟨Y, 0, none⟩ (.iface T x)).heap.size = w1.heap.size := by simp [World.setCell]
    refine ⟨by simp [go_sem, ya], SRep.carry (fun b hb => he b ?_) (fun b hb => by rw [hsz]; exact hb) _ _ hsr, hbn.of_block (he B (by omega)), by omega, ?_, fun b h1 h2 h3 => (he b h3).trans (hbt.at h1 h2)⟩
    · rcases hb with hb | hb
      · have := unhide HOLD b hb; omega
      · omega
    · exact ⟨hbt.os, hbt.tape, hbt.output, by omega, fun b hb => (he b (by omega)).trans (hbt.at (by omega) (by omega))⟩
  have HFIN := hide hfin
  clear hbt hsr hbn hfin k0 k1 k2 k3 k4
  go_wp2_with fail
  go_end0
  exact ⟨rfl, _, unhide HFIN⟩

set_option maxHeartbeats 800000 in
theorem sort1_no (P : Nat → Prop) (w : World) (X B Y : Nat) (t : Tr) (c : C5) (h : Seat P w X B Y t c) (hq : wlk t 0 0 = none) :
    Calls Tryz.prog 53 #[.pointer (some ⟨B, 0, none⟩), .pointer (some ⟨X, 0, none⟩), .pointer (some ⟨Y, 0, none⟩)] w fun e w' => e = fltE ∧ But B w w' := by
  obtain ⟨box, bnd, ans, frz, rep, old, tab, xb, by', x0⟩ := h
  have hcall := tree_all (tsz t + 1) t (by omega) P c w B 0 0 (fun b hb => ⟨by have := old b hb; have := bnd.lt; omega, by have := old b hb; omega⟩) rep bnd tab (by omega) (by omega) (by omega) (by omega) (by omega)
  have HCALL : Hid (Calls Tryz.prog 54 #[.pointer (some ⟨B, 0, none⟩), .agg #[c.c0, c.c1, c.c2, c.c3, c.c4]] w fun e w' => e = fltE ∧ But B w w') :=
    hcall.mono fun e w' ⟨h1, h2⟩ => by
      rcases h2 with ⟨q', v, g1, g2, g3, g4⟩ | ⟨_, g2⟩
      · rw [hq] at g1; cases g1
      · exact ⟨g2, h1⟩
  have k0 := box.cell (i := 0) (by omega); have k1 := box.cell (i := 1) (by omega); have k2 := box.cell (i := 2) (by omega); have k3 := box.cell (i := 3) (by omega); have k4 := box.cell (i := 4) (by omega)
  simp only [row5] at k0 k1 k2 k3 k4
  clear hcall box bnd rep tab hq old ans frz
  go_enter Tryz.func53, Tryz.ntmps53
  go_wp2_with (go_at_call 54; refine (unhide HCALL).mono ?_; rintro e w1 ⟨rfl, hbt⟩)
  exact ⟨rfl, rfl, hbt⟩

theorem enter40 (caps : Array Value) (W : World) : Sem.run Tryz.prog (callFunc 53 caps) W = .ok (.enter 53 caps) W := by
  kernel_rfl

/-- The seat in the world in which treeTry calls the closure. -/
theorem seat_here {P : Nat → Prop} {w : World} {t : Tr} {c : C5} (hrep : Rep P w t c) (hP : ∀ b, P b → b < w.heap.size) (hT : Tab w) (o : Obj) :
    Seat P ((((w.alloc (.cells #[c.c0, c.c1, c.c2, c.c3, c.c4] 26)).alloc (.cells #[.int .i64 0, .int .i64 0] 85)).alloc (.cells #[.nilIface] 48)).alloc o) w.heap.size (w.heap.size + 1) (w.heap.size + 1 + 1) t c := by
  have hb : Below w.heap.size w ((((w.alloc (.cells #[c.c0, c.c1, c.c2, c.c3, c.c4] 26)).alloc (.cells #[.int .i64 0, .int .i64 0] 85)).alloc (.cells #[.nilIface] 48)).alloc o) :=
    ((((Below.refl _ _).alloc (Nat.le_refl _) _).alloc (by simp) _).alloc (by simp; omega) _).alloc (by simp; omega) _
  refine ⟨(((row5_alloc w c.c0 c.c1 c.c2 c.c3 c.c4 _).alloc _).alloc _).alloc _, ⟨?_, ?_, ?_, ?_⟩, ?_, ?_, Rep.carry (fun b hb' => hb.block b (hP b hb')) (fun _ h => h) _ _ hrep, hP, hT.of_block (hb.block 0 hT.lt), by omega, by omega, hT.lt⟩
  all_goals simp [go_sem]

/-- treeTry over the closure, where the tree is ok. -/
theorem tryWork_yes {P : Nat → Prop} {w : World} {t : Tr} {c : C5} {q : Int} (hrep : Rep P w t c) (hP : ∀ b, P b → b < w.heap.size) (hT : Tab w) (hq : wlk t 0 0 = some q) :
    Calls Tryz.prog 26 #[.func (.func 53) #[] #[.pointer (some ⟨w.heap.size + 1, 0, none⟩), .pointer (some ⟨w.heap.size, 0, none⟩), .pointer (some ⟨w.heap.size + 1 + 1, 0, none⟩)]]
      (((w.alloc (.cells #[c.c0, c.c1, c.c2, c.c3, c.c4] 26)).alloc (.cells #[.int .i64 0, .int .i64 0] 85)).alloc (.cells #[.nilIface] 48)) fun e w' =>
        e = .returned (.bool true) ∧ ∃ v, w'.cell? ⟨w.heap.size + 1 + 1, 0, none⟩ = some v ∧ Bnd w' (w.heap.size + 1) q 0 ∧ SRep (fun b => P b ∨ (w.heap.size ≤ b ∧ b < w'.heap.size)) w' t v ∧ Below w.heap.size w w' := by
  generalize hW : (((w.alloc (.cells #[c.c0, c.c1, c.c2, c.c3, c.c4] 26)).alloc (.cells #[.int .i64 0, .int .i64 0] 85)).alloc (.cells #[.nilIface] 48)) = W
  have hsz : W.heap.size = w.heap.size + 3 := by rw [← hW]; simp
  have hbw : Below w.heap.size w W := by rw [← hW]; exact (((Below.refl _ _).alloc (Nat.le_refl _) _).alloc (by simp) _).alloc (by simp; omega) _
  refine (treeTry_yes 53 _ W (fun w1 => ∃ o v, Sorted P (W.alloc o) w1 w.heap.size (w.heap.size + 1) (w.heap.size + 1 + 1) t q v) (enter40 _) (fun o => ?_)).mono ?_
  · have hs := seat_here hrep hP hT o
    rw [hW] at hs
    refine (sort1_yes P (W.alloc o) _ _ _ t c q hs hq).mono fun e w' ⟨h1, v, h2⟩ => ⟨h1, ⟨o, v, h2⟩, h2.kept _ (by simp) (by omega) (by omega)⟩
  · rintro e w' ⟨rfl, w1, ⟨o, v, hs⟩, hb⟩
    have hs1 := hs.size
    have hs2 := hb.size
    have hsa : (W.alloc o).heap.size = w.heap.size + 4 := by simp [hsz]
    refine ⟨rfl, v, ?_, ?_, ?_, ?_⟩
    · rw [World.cell?_of_block (a := ⟨w.heap.size + 1 + 1, 0, none⟩) (hb.at (by simp only; omega) (by simp only; omega))]; exact hs.ans
    · exact hs.bnd.of_block (hb.at (by omega) (by omega))
    · refine SRep.carry (fun b hb' => ?_) (fun b hb' => ?_) _ _ hs.rep
      · rcases hb' with hb' | hb'
        · have := hP b hb'; exact hb.at (by omega) (by omega)
        · exact hb.at hb'.2 (by omega)
      · rcases hb' with hb' | hb'
        · exact Or.inl hb'
        · exact Or.inr ⟨by omega, by omega⟩
    · have h1 := (hbw.trans (((Below.refl _ _).alloc (by omega) o).trans hs.low))
      exact ⟨hb.os.trans h1.os, hb.tape.trans h1.tape, hb.output.trans h1.output, by have := h1.size; omega, fun b hb' => (hb.at (by omega) (by omega)).trans (h1.block b hb')⟩

/-- treeTry over the closure, where the tree is not ok. -/
theorem tryWork_no {P : Nat → Prop} {w : World} {t : Tr} {c : C5} (hrep : Rep P w t c) (hP : ∀ b, P b → b < w.heap.size) (hT : Tab w) (hq : wlk t 0 0 = none) :
    Calls Tryz.prog 26 #[.func (.func 53) #[] #[.pointer (some ⟨w.heap.size + 1, 0, none⟩), .pointer (some ⟨w.heap.size, 0, none⟩), .pointer (some ⟨w.heap.size + 1 + 1, 0, none⟩)]]
      (((w.alloc (.cells #[c.c0, c.c1, c.c2, c.c3, c.c4] 26)).alloc (.cells #[.int .i64 0, .int .i64 0] 85)).alloc (.cells #[.nilIface] 48)) fun e w' =>
        e = .returned (.bool false) ∧ Below w.heap.size w w' := by
  generalize hW : (((w.alloc (.cells #[c.c0, c.c1, c.c2, c.c3, c.c4] 26)).alloc (.cells #[.int .i64 0, .int .i64 0] 85)).alloc (.cells #[.nilIface] 48)) = W
  have hsz : W.heap.size = w.heap.size + 3 := by rw [← hW]; simp
  have hbw : Below w.heap.size w W := by rw [← hW]; exact (((Below.refl _ _).alloc (Nat.le_refl _) _).alloc (by simp) _).alloc (by simp; omega) _
  refine (treeTry_no 53 _ W (fun w1 => ∃ o, But (w.heap.size + 1) (W.alloc o) w1) (enter40 _) (fun o => ?_)).mono ?_
  · have hs := seat_here hrep hP hT o
    rw [hW] at hs
    refine (sort1_no P (W.alloc o) _ _ _ t c hs hq).mono fun e w' ⟨h1, h2⟩ => ⟨h1, ⟨o, h2⟩, h2.at (by simp) (by omega)⟩
  · rintro e w' ⟨rfl, w1, ⟨o, hs⟩, hb⟩
    have hs1 := hs.size
    have hs2 := hb.size
    have hsa : (W.alloc o).heap.size = w.heap.size + 4 := by simp [hsz]
    have h1 := hbw.trans ((Below.refl _ _).alloc (by omega) o)
    refine ⟨rfl, hb.os.trans (hs.os.trans h1.os), hb.tape.trans (hs.tape.trans h1.tape), hb.output.trans (hs.output.trans h1.output), by have := h1.size; omega, fun b hb' => (hb.at (by omega) (by omega)).trans ((hs.at (by omega) (by omega)).trans (h1.block b hb'))⟩

set_option maxRecDepth 100000 in
set_option maxHeartbeats 800000 in
theorem sortTree_yes (P : Nat → Prop) (w : World) (t : Tr) (c : C5) (q : Int) (hrep : Rep P w t c) (hP : ∀ b, P b → b < w.heap.size) (hT : Tab w) (hq : wlk t 0 0 = some q) :
    Calls Tryz.prog 25 #[.agg #[c.c0, c.c1, c.c2, c.c3, c.c4]] w fun e w' => ∃ v, e = .returned (.tuple #[v, .int .i64 q]) ∧ SRep (fun b => P b ∨ (w.heap.size ≤ b ∧ b < w'.heap.size)) w' t v ∧ Below w.heap.size w w' := by
  have hmf : ∀ (fn : Fn) (first cap : Array Value) (w : World), (Instr.makeFunc fn first cap).run Tryz.prog w = .ok (.func fn first cap) w := fun _ _ _ _ => rfl
  obtain ⟨c0, c1, c2, c3, c4⟩ := c
  have HTRY := hide (tryWork_yes hrep hP hT hq)
  clear hrep hT hq hP
  go_enter Tryz.func25, Tryz.ntmps25
  go_wp2_with fail
  refine (unhide HTRY).mono ?_
  rintro e w1 ⟨rfl, v, hv, ⟨b0, b1, -, -⟩, hsr, hb⟩
  have HSR := hide hsr; have HB := hide hb
  clear hsr hb hmf
  go_wp2_with fail
  go_quiet (fail)
  go_wp2_with fail
  go_ret2
  refine ⟨v, rfl, ?_, below_drewN (unhide HB) _⟩
  refine SRep.carry (w := w1) (P := fun b => P b ∨ (w.heap.size ≤ b ∧ b < w1.heap.size)) (fun _ _ => ?_) (fun _ h => h) _ _ (unhide HSR)
  rfl

set_option maxRecDepth 100000 in
set_option maxHeartbeats 800000 in
theorem sortTree_no (P : Nat → Prop) (w : World) (t : Tr) (c : C5) (hrep : Rep P w t c) (hP : ∀ b, P b → b < w.heap.size) (hT : Tab w) (hq : wlk t 0 0 = none) :
    Calls Tryz.prog 25 #[.agg #[c.c0, c.c1, c.c2, c.c3, c.c4]] w fun e w' => e = .returned (.tuple #[.nilIface, .int .i64 0]) ∧ Below w.heap.size w w' := by
  have hmf : ∀ (fn : Fn) (first cap : Array Value) (w : World), (Instr.makeFunc fn first cap).run Tryz.prog w = .ok (.func fn first cap) w := fun _ _ _ _ => rfl
  obtain ⟨c0, c1, c2, c3, c4⟩ := c
  have HTRY := hide (tryWork_no hrep hP hT hq)
  clear hrep hT hq hP
  go_enter Tryz.func25, Tryz.ntmps25
  go_wp2_with fail
  refine (unhide HTRY).mono ?_
  rintro e w1 ⟨rfl, hb⟩
  have HB := hide hb
  clear hb hmf
  go_wp2_with fail
  go_ret2
  exact ⟨rfl, unhide HB⟩

/-- sortTree, whatever the tree: the parts alone. -/
theorem sortTree_parts (P : Nat → Prop) (w : World) (t : Tr) (c : C5) (hrep : Rep P w t c) (hP : ∀ b, P b → b < w.heap.size) (hT : Tab w) :
    Calls Tryz.prog 25 #[.agg #[c.c0, c.c1, c.c2, c.c3, c.c4]] w fun e w' => ∃ v, e = .returned (.tuple #[v, .int .i64 (if pT t 1 < 0 then 0 else pT t 1)]) ∧ Below w.heap.size w w' := by
  by_cases h : pT t 1 < 0
  · rw [if_pos h]
    exact (sortTree_no P w t c hrep hP hT (by rw [wlk_start, if_pos h])).mono fun e w' ⟨h1, h2⟩ => ⟨_, h1, h2⟩
  · rw [if_neg h]
    exact (sortTree_yes P w t c _ hrep hP hT (by rw [wlk_start, if_neg h])).mono fun e w' ⟨v, h1, _, h2⟩ => ⟨v, h1, h2⟩

set_option maxHeartbeats 800000 in
theorem implTreeOk_any (t : Tr) (P : Nat → Prop) (c : C5) (w : World) (hP : ∀ b, P b → b < w.heap.size) (hrep : Rep P w t c) (hT : Tab w) :
    Calls Tryz.prog 10 #[.agg #[c.c0, c.c1, c.c2, c.c3, c.c4]] w fun e w' => e = .returned (.bool (decide (0 < pT t 1))) ∧ Below w.heap.size w w' := by
  have hbx : ∀ o, Below w.heap.size w (w.alloc o) := fun o => (Below.refl _ _).alloc (Nat.le_refl _) o
  have hcall : ∀ o, Calls Tryz.prog 25 #[.agg #[c.c0, c.c1, c.c2, c.c3, c.c4]] (w.alloc o) fun e w' => ∃ v, e = .returned (.tuple #[v, .int .i64 (if pT t 1 < 0 then 0 else pT t 1)]) ∧ Below w.heap.size w w' := fun o =>
    (sortTree_parts P (w.alloc o) t c (Rep.carry (fun b hb => (hbx o).block b (hP b hb)) (fun _ h => h) _ _ hrep) (fun b hb => Nat.lt_of_lt_of_le (hP b hb) (hbx o).size) (hT.of_block ((hbx o).block 0 hT.lt))).mono
      fun e w' ⟨v, h1, h2⟩ => ⟨v, h1, (hbx o).trans (h2.mono (hbx o).size)⟩
  have hd : decide (0 < pT t 1) = decide (0 < (if pT t 1 < 0 then 0 else pT t 1)) := by
    by_cases h : pT t 1 < 0
    · rw [if_pos h]; simp; omega
    · rw [if_neg h]
  rw [hd]
  generalize (if pT t 1 < 0 then 0 else pT t 1) = r at *
  have HCALL := hide hcall
  clear hbx hcall hP hrep hT hd
  go_enter Tryz.func10, Tryz.ntmps10
  go_wp2_with (go_at_call 25; refine (unhide HCALL _).mono ?_; rintro e w2 ⟨v, rfl, hb2⟩)
  go_ret
  exact ⟨rfl, hb2⟩
end Go.Proofs.YtgamonfmgngilaaGreatDoor

/- The text of a tree that is ok is short; and its marks are few. No program walked, no conditions. -/

namespace Go.Proofs.YtgamonfmgngilaaGreatDoor
open Go Go.RowKit

theorem itoa_short {n : Int} (h : -999999999 ≤ n ∧ n ≤ 999999999) : (Lib.itoa n).length ≤ 10 := by
  rcases itoa_cases n with ⟨hn, e⟩ | ⟨hn, e⟩
  · rw [e]
    have := dec_len 8 n.toNat (by omega)
    omega
  · rw [e]
    have := dec_len 8 n.natAbs (by omega)
    simp only [List.length_cons]
    omega

theorem name_short {ns : List ByteArray} (h : riseB ns = true) (i : Nat) : (ns.getD i ByteArray.empty).data.toList.length ≤ 8 := by
  by_cases hi : i < ns.length
  · rw [getD_lt _ _ hi]
    have := rise_name h i hi
    unfold nameOkB at this
    simp only [Bool.and_eq_true, decide_eq_true_eq] at this
    show ns[i].size ≤ 8
    omega
  · have e : ns.getD i ByteArray.empty = ByteArray.empty := by simp [List.getD, List.getElem?_eq_none (Nat.le_of_not_lt hi)]
    rw [e]
    decide

theorem ahead_short {form : Bool} {ns : List ByteArray} (h : form = true → riseB ns = true) (i : Nat) : (ahead form ns i).length ≤ 10 := by
  unfold ahead
  cases form with
  | false => simp; split <;> simp
  | true =>
    have := name_short (h rfl) i
    have e : (if 0 < i then [44] else ([] : List UInt8)).length ≤ 1 := by split <;> simp
    simp only [if_true, List.length_append, List.length_cons, List.length_nil]
    omega

theorem txK_short (n : Nat) (IH : ∀ t : Tr, tsz t < n → ∀ p l q : Int, 0 ≤ p → p ≤ 120 → wlk t p l = some q → ((txT t).length : Int) + 10 ≤ 80 * (q - p)) (form : Bool) (ns : List ByteArray) (hr : form = true → riseB ns = true) (l : Int) :
    ∀ (ks : List Tr), (∀ k, k ∈ ks → tsz k < n) → ∀ (i : Nat) (p q : Int), 0 ≤ p → p ≤ 120 → wlkK ks p l = some q → ((txK form ns i ks).length : Int) ≤ 80 * (q - p) := by
  intro ks
  induction ks with
  | nil => intro _ i p q _ _ h; rw [wlkK] at h; simp only [Option.some.injEq] at h; subst h; simp [txK]
  | cons a r ih =>
    intro hm i p q h0 h1 h
    rw [wlkK] at h
    cases hw : wlk a p l with
    | none => rw [hw] at h; cases h
    | some q1 =>
      rw [hw] at h
      have hb := wlk_bd a p l q1 h0 h1 hw
      have e1 := IH a (hm a (by simp)) p l q1 h0 h1 hw
      have e2 := ih (fun k hk => hm k (by simp [hk])) (i + 1) q1 q (by omega) hb.2 h
      have e3 := ahead_short hr i
      rw [txK]
      simp only [List.length_append]
      omega

theorem txT_short : ∀ (n : Nat) (t : Tr), tsz t < n → ∀ p l q : Int, 0 ≤ p → p ≤ 120 → wlk t p l = some q → ((txT t).length : Int) + 10 ≤ 80 * (q - p) := by
  intro n
  induction n with
  | zero => intro t h; omega
  | succ n ih =>
    intro t hn p l q h0 h1 h
    have hb := wlk_bd t p l q h0 h1 h
    obtain ⟨h2, -, ho, hnb, hk⟩ := wlk_open h
    have hm : ∀ k, k ∈ t.kids → tsz k < n := fun k hk => by have := tsz_kid hk; omega
    rcases shapes ho hnb with ⟨m, rfl, hm1⟩ | ⟨x, rfl, hx⟩ | ⟨m, rfl, hm1⟩ | ⟨ks, rfl, hks⟩ | ⟨ns, ks, rfl, hnl, hri⟩ | ⟨ks, rfl, hks⟩
    · have htx : txT (.mk 1 m ByteArray.empty [] []) = Lib.itoa m := by rw [txT]; simp
      rw [htx]
      have := itoa_short hm1
      omega
    · have htx : txT (.mk 2 0 x [] []) = 34 :: (x.data.toList ++ [34]) := by rw [txT]; simp
      rw [htx]
      unfold textOkB at hx
      simp only [Bool.and_eq_true, decide_eq_true_eq] at hx
      have e : x.data.toList.length = x.size := rfl
      simp only [List.length_cons, List.length_append, List.length_nil]
      omega
    · have htx : (txT (.mk 3 m ByteArray.empty [] [])).length ≤ 3 := by
        rw [txT]; simp; split <;> simp
      omega
    · have htx : txT (.mk 4 0 ByteArray.empty [] ks) = 91 :: (txK false [] 0 ks ++ [93]) := by rw [txT]; simp
      rw [htx]
      have := txK_short n ih false [] (fun h => by cases h) (l + 1) ks hm 0 (p + 1) q (by omega) h2 hk
      simp only [List.length_cons, List.length_append, List.length_nil]
      omega
    · have htx : txT (.mk 5 0 ByteArray.empty ns ks) = 123 :: (txK true ns 0 ks ++ [125]) := by rw [txT]; simp
      rw [htx]
      have := txK_short n ih true ns (fun _ => hri) (l + 1) ks hm 0 (p + 1) q (by omega) h2 hk
      simp only [List.length_cons, List.length_append, List.length_nil]
      omega
    · cases ks with
      | nil =>
        have htx : txT (.mk 6 0 ByteArray.empty [] []) = [126] := by rw [txT]; simp
        rw [htx]; simp; omega
      | cons a r =>
        have hr0 : r = [] := by simp at hks; exact hks
        subst hr0
        have htx : txT (.mk 6 0 ByteArray.empty [] [a]) = 63 :: txT a := by rw [txT]; simp [txM]
        rw [htx]
        simp only [Tr.kids] at hk hm
        rw [wlkK] at hk
        cases hw : wlk a (p + 1) (l + 1) with
        | none => rw [hw] at hk; cases hk
        | some q1 =>
          rw [hw] at hk
          simp only [wlkK, Option.some.injEq] at hk
          subst hk
          have := ih a (hm a (by simp)) (p + 1) (l + 1) q1 (by omega) h2 hw
          simp only [List.length_cons]
          omega

theorem txT_small {t : Tr} {q : Int} (h : wlk t 0 0 = some q) : (txT t).length ≤ 9600 := by
  have h1 := txT_short (tsz t + 1) t (by omega) 0 0 q (by omega) (by omega) h
  have h2 := (wlk_bd t 0 0 q (by omega) (by omega) h).2
  omega

/-- How many marks a tree takes. -/
theorem marks_short : ∀ (n : Nat) (t : Tr), tsz t < n → ∀ p l q : Int, 0 ≤ p → p ≤ 120 → wlk t p l = some q → (cT t : Int) ≤ 400 * (q - p) := by
  intro n
  induction n with
  | zero => intro t h; omega
  | succ n ih =>
    intro t hn p l q h0 h1 h
    have hb := wlk_bd t p l q h0 h1 h
    obtain ⟨h2, -, ho, hnb, hk⟩ := wlk_open h
    have hks : ∀ (ks : List Tr), (∀ k, k ∈ ks → tsz k < n) → ∀ (p q : Int), 0 ≤ p → p ≤ 120 → wlkK ks p (l + 1) = some q → (cK ks : Int) ≤ 400 * (q - p) ∧ p + ks.length ≤ q ∧ q ≤ 120 := by
      intro ks
      induction ks with
      | nil => intro _ p q _ h1 h; rw [wlkK] at h; simp only [Option.some.injEq] at h; subst h; simp [cK]; omega
      | cons a r ihk =>
        intro hm p q h0 h1 h
        rw [wlkK] at h
        cases hw : wlk a p (l + 1) with
        | none => rw [hw] at h; cases h
        | some q1 =>
          rw [hw] at h
          have hb := wlk_bd a p (l + 1) q1 h0 h1 hw
          have e1 := ih a (hm a (by simp)) p (l + 1) q1 h0 h1 hw
          have e2 := ihk (fun k hk => hm k (by simp [hk])) q1 q (by omega) hb.2 h
          rw [cK]
          simp only [List.length_cons]
          omega
    have hc := hks t.kids (fun k hk => by have := tsz_kid hk; omega) (p + 1) q (by omega) h2 hk
    have hnl : t.names.length ≤ 120 := by
      rcases shapes ho hnb with ⟨m, rfl, hm1⟩ | ⟨x, rfl, hx⟩ | ⟨m, rfl, hm1⟩ | ⟨ks, rfl, hks⟩ | ⟨ns, ks, rfl, hnl, hri⟩ | ⟨ks, rfl, hks⟩
      · simp [Tr.names]
      · simp [Tr.names]
      · simp [Tr.names]
      · simp [Tr.names]
      · simp only [Tr.names, Tr.kids] at *; omega
      · simp [Tr.names]
    rw [cT_eq]
    omega
end Go.Proofs.YtgamonfmgngilaaGreatDoor

/- Digits as bytes and strings; small laws. No program walked, no conditions. -/

namespace Go.Proofs.YtgamonfmgngilaaGreatDoor
open Go Go.RowKit

/-- A digit's byte. -/
def dg (m : Int) : UInt8 := UInt8.ofNat (48 + m.toNat)
theorem dg_nat {m : Int} (h0 : 0 ≤ m) (h1 : m < 10) : ((dg m).toNat : Int) = 48 + m := by unfold dg; rw [UInt8.toNat_ofNat']; omega
theorem dec_small {n : Int} (h : n < 10) : Lib.decDigits n.toNat = [dg n] := by rw [Lib.decDigits, dif_pos (by omega)]; rfl
theorem dec_big {n : Int} (h : ¬ n < 10) : Lib.decDigits n.toNat = Lib.decDigits (n / 10).toNat ++ [dg (n % 10)] := by
  rw [Lib.decDigits, dif_neg (by omega), show (n / 10).toNat = n.toNat / 10 from by omega, show dg (n % 10) = UInt8.ofNat (48 + n.toNat % 10) from by unfold dg; rw [show (n % 10).toNat = n.toNat % 10 from by omega]]

/-- One byte, as a string. -/
theorem conv_one (W : World) (b cap : Nat) (m : Int) (h0 : 0 ≤ m) (h1 : m < 10) (hc : W.cell? ⟨b, 0, none⟩ = some (.int .u8 (48 + m))) :
    Sem.run Tryz.prog (convert 22 9 (.slice (some ⟨b, 0, none⟩) 1 cap)) W = .ok (.string ⟨#[dg m]⟩) W := by
  have := run_convert_bytes_back (P := Tryz.prog) W 22 9 5 ⟨b, 0, none⟩ cap [dg m] Tryz.underlying22 Tryz.underlying5 Tryz.underlying9 (fun j hj => by
    have hj0 : j = 0 := by simpa using hj
    subst hj0
    rw [Addr.add_lit, hc]
    simp only [List.getElem_cons_zero]
    rw [dg_nat h0 h1])
  simpa using this

theorem quo10 {n : Int} (h0 : 0 ≤ n) (h1 : n ≤ 999999999) : IntKind.i64.wrap (n.tdiv 10) = n / 10 := by
  rw [IntKind.wrap_i64, Int.tdiv_eq_ediv_of_nonneg h0]; omega
theorem rem10 {n : Int} (h0 : 0 ≤ n) : IntKind.i64.wrap (48 + n.tmod 10) = 48 + n % 10 := by
  rw [IntKind.wrap_i64, Int.tmod_eq_emod_of_nonneg h0]; omega
theorem rem10b (n : Int) : IntKind.u8.wrap (48 + n % 10) = 48 + n % 10 := by
  rw [IntKind.wrap_u8]; omega

theorem ba_append (a b : List UInt8) : ((⟨a.toArray⟩ : ByteArray) ++ (⟨b.toArray⟩ : ByteArray)) = ⟨(a ++ b).toArray⟩ := by
  apply ByteArray.ext
  simp
theorem ret_str {a b : ByteArray} (h : a = b) : Ending.returned (.string a) = .returned (.string b) := by rw [h]
theorem bc1 {w w1 : World} {o : Obj} (h : Below w.drew.heap.size w.drew w1) : Below w.heap.size w (w1.alloc o) :=
  (((Below.refl _ w).drew).trans h).alloc h.size o
theorem bc2 {w w1 : World} {o : Obj} (h : Below (w.alloc o).drew.heap.size (w.alloc o).drew w1) : Below w.heap.size w w1 :=
  (((Below.refl _ w).alloc (Nat.le_refl _) o).drew).trans (h.mono (by simp))
end Go.Proofs.YtgamonfmgngilaaGreatDoor

/- The walk of the specification's l6Dec: it gives the decimals of a number. For numbers from -999999999 to 999999999. -/

namespace Go.Proofs.YtgamonfmgngilaaGreatDoor
open Go Go.RowKit

set_option maxRecDepth 100000 in
set_option maxHeartbeats 400000 in
theorem l6Dec_nat : ∀ (k : Nat) (n : Int) (w : World), 0 ≤ n → n < k → n ≤ 999999999 →
    Calls Tryz.prog 51 #[.int .i64 n] w fun e w' => e = .returned (.string ⟨(Lib.decDigits n.toNat).toArray⟩) ∧ Below w.heap.size w w' := by
  intro k
  induction k with
  | zero => intro n w h0 h; omega
  | succ k ih =>
    intro n w hn0 hk hu
    by_cases h10 : n < 10
    · have HD := hide (dec_small h10)
      have hconv := fun W b cap => conv_one W b cap n hn0 h10
      clear ih
      go_enter Tryz.func51, Tryz.ntmps51
      go_wp2_with fail
      go_ret
      exact ⟨by rw [unhide HD]; rfl, (Below.refl _ _).alloc (Nat.le_refl _) _⟩
    · have HD := hide (dec_big h10)
      have hconv := fun W b cap => conv_one W b cap (n % 10) (by omega) (by omega)
      have hl := Lib.itoa_length_le (n / 10) (by omega) (by omega)
      have HIH := hide (fun W => (ih (n / 10) W (by omega) (by omega) (by omega)).mono (fun e w' (h : e = .returned (.string ⟨(Lib.decDigits (n / 10).toNat).toArray⟩) ∧ Below W.heap.size W w') => (⟨h.1, h.2, fun b o hb => h.2.cell (p := ⟨b, o, none⟩) hb⟩ : e = .returned (.string ⟨(Lib.decDigits (n / 10).toNat).toArray⟩) ∧ Below W.heap.size W w' ∧ ∀ b o, b < W.heap.size → w'.cell? ⟨b, o, none⟩ = W.cell? ⟨b, o, none⟩)))
      have hq1 := quo10 hn0 hu
      have hq2 := rem10 hn0
      have hq3 := rem10b n
      have hb0 : 0 ≤ n / 10 := by omega
      have hb1 : 0 ≤ n % 10 := by omega
      have hb2 : n % 10 < 10 := by omega
      have hl2 : (Lib.decDigits (n / 10).toNat).length ≤ 21 := by
        have : Lib.itoa (n / 10) = Lib.decDigits (n / 10).toNat := by unfold Lib.itoa; rw [if_neg (by omega)]
        rw [← this]; exact hl
      generalize Lib.decDigits (n / 10).toNat = ds at *
      clear ih hl
      go_enter Tryz.func51, Tryz.ntmps51
      go_wp2_with fail
      go_region_with (go_at_call 51; refine (unhide HIH _).mono ?_; rintro e w1 ⟨rfl, hb, hcell⟩; have HB := hide hb; clear hb)
      all_goals
        go_wp2_with fail
        go_ret
        refine ⟨ret_str ?_, ?_⟩
        · rw [unhide HD]; exact ba_append _ _
        · first | exact bc1 (unhide HB) | exact bc2 (unhide HB)

theorem itoa_lt {n : Int} (h : n < 0) : Lib.itoa n = 45 :: Lib.decDigits (-n).toNat := by
  unfold Lib.itoa; rw [if_pos h, show n.natAbs = (-n).toNat from by omega]
theorem itoa_ge {n : Int} (h : ¬ n < 0) : Lib.itoa n = Lib.decDigits n.toNat := by
  unfold Lib.itoa; rw [if_neg h]

set_option maxRecDepth 100000 in
set_option maxHeartbeats 400000 in
theorem l6Dec_any (n : Int) (w : World) (h0 : -999999999 ≤ n) (h1 : n ≤ 999999999) :
    Calls Tryz.prog 51 #[.int .i64 n] w fun e w' => e = .returned (.string ⟨(Lib.itoa n).toArray⟩) ∧ Below w.heap.size w w' := by
  by_cases hn : n < 0
  · rw [itoa_lt hn]
    have hl := Lib.itoa_length_le (-n) (by omega) (by omega)
    rw [itoa_ge (by omega)] at hl
    have HIH := hide (fun W => l6Dec_nat ((-n).toNat + 1) (-n) W (by omega) (by omega) (by omega))
    generalize Lib.decDigits (-n).toNat = ds at *
    go_enter Tryz.func51, Tryz.ntmps51
    go_wp2_with (go_at_call 51; refine (unhide HIH _).mono ?_; rintro e w1 ⟨rfl, hb⟩)
    go_ret
    exact ⟨ret_str (ba_append [45] ds), hb⟩
  · rw [itoa_ge hn]
    exact l6Dec_nat (n.toNat + 1) n w (by omega) (by omega) h1
end Go.Proofs.YtgamonfmgngilaaGreatDoor
