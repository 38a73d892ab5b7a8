/- The walks of the program's tree, sortTree, treeTry, TreeOk and TreeParts. The table treeFields is as the program lays it. -/
import Derived.Test.YtiflfcjocngiiaaGreatDoorPart14
import Derived.Defers
import Derived.Recover
import Derived.Test.YtiflfcjocngiiaaGreatDoorPart11
import Derived.BigQuiet
namespace Go.Proofs.YtiflfcjocngiiaaGreatDoor
open Go Go.RowKit

theorem ofIts_any (n : Nat) (IH : TreeSaid n) (t : Tr) (hn : tsz t ≤ n) (P : Nat → Prop) (c : C5) (w : World) (B : Nat) (p l : Int) (hP : ∀ b, P b → b < w.heap.size ∧ b ≠ B) (hrep : Rep P w t c) (hB : Bnd w B p l) (hT : Tab w) (hB0 : 0 < B) (hp0 : 0 ≤ p) (hp1 : p ≤ 120) (hl0 : 0 ≤ l) (hl1 : l ≤ 6) (ho : ownB t = true) :
    Calls Tryz.prog 88 #[.pointer (some ⟨B, 0, none⟩), .agg #[c.c0, c.c1, c.c2, c.c3, c.c4]] w (OfPost P t B p l w) := by
  have h : (t.sort < 1 ∨ 6 < t.sort) ∨ t.sort = 1 ∨ t.sort = 2 ∨ t.sort = 3 ∨ t.sort = 4 ∨ t.sort = 5 ∨ t.sort = 6 := by omega
  rcases h with h | h | h | h | h | h | h
  · rw [own_out h] at ho; cases ho
  · exact ofIts_1 t P c w B p l hrep hB ho h
  · exact ofIts_2 t P c w B p l hrep hB ho h
  · exact ofIts_3 t P c w B p l hrep hB ho h
  · exact ofIts_4 n IH t hn P c w B p l hP hrep hB hT hB0 hp0 hp1 hl0 hl1 h
  · exact ofIts_5 n IH t hn P c w B p l hP hrep hB hT hB0 hp0 hp1 hl0 hl1 h
  · exact ofIts_6 n IH t hn P c w B p l hP hrep hB hT hB0 hp0 hp1 hl0 hl1 h

set_option maxHeartbeats 800000 in
theorem tree_step (n : Nat) (IH : TreeSaid n) : TreeSaid (n + 1) := by
  intro t hn P c w B p l hP hrep hB hT hB0 hp0 hp1 hl0 hl1
  have hBw := hB.lt
  have hBne : ¬ w.heap.size = B := by omega
  by_cases hin : p + 1 ≤ 120 ∧ l + 1 ≤ 6
  · have hen : ∀ x0 x1 x2 x3 x4 : Value, Calls Tryz.prog 86 #[.pointer (some ⟨B, 0, none⟩)] (w.alloc (.cells #[x0, x1, x2, x3, x4] 39)) fun e w' => e = .returned (.tuple #[]) ∧ w'.rowIs w.heap.size 39 5 (row5 x0 x1 x2 x3 x4) ∧ Bnd w' B (p + 1) (l + 1) ∧ But B w w' ∧ w.heap.size < w'.heap.size := fun x0 x1 x2 x3 x4 =>
      (enter_yes B p l _ (hB.alloc _) hp0 hl0 hin.1 hin.2).mono fun e w' ⟨h1, h2⟩ => by
        have hb := ((But.set (B := B) (w.alloc (.cells #[x0, x1, x2, x3, x4] 39)) 0 (.int .i64 (p + 1))).trans (But.set _ 1 (.int .i64 (l + 1))))
        rw [h2]
        refine ⟨h1, (row5_alloc w x0 x1 x2 x3 x4 _).of_block (hb.at (by simp) hBne), (hB.alloc _).set2 _ _, (But.alloc B w _).trans hb, ?_⟩
        have := hb.size
        simp at this ⊢
    have hwo : ownB t = true → wlk t p l = ofS t (p + 1) (l + 1) := wlk_of t p l hin
    have hwn : ownB t = false → wlk t p l = none := fun h => by rw [wlk_eq, if_pos hin, if_neg (by rw [h]; simp)]
    have HEN := hide hen; have HREP := hide hrep; have HP := hide hP; have HT := hide hT; have HI := hide IH; have HWO := hide hwo; have HWN := hide hwn
    obtain ⟨h120, h6⟩ := hin
    obtain ⟨c0, c1, c2, c3, c4⟩ := c
    clear hen hP hrep hB hT IH hwo hwn
    go_enter Tryz.func82, Tryz.ntmps82
    go_wp2_with fail
    refine (unhide HEN _ _ _ _ _).mono ?_
    rintro e w1 ⟨rfl, q1, hb1, hbt1, hs1⟩
    have hrep1 : Rep P w1 t ⟨c0, c1, c2, c3, c4⟩ := Rep.carry (fun b hb => hbt1.at (unhide HP b hb).1 (unhide HP b hb).2) (fun _ h => h) _ _ (unhide HREP)
    have hT1 := (unhide HT).but hbt1 hB0
    have hown := own_any t P ⟨c0, c1, c2, c3, c4⟩ w1 hrep1 hT1 hT1.lt
    have HOWN := hide hown; have HREP1 := hide hrep1; have HT1 := hide hT1; have Q1 := hide q1; have HB1 := hide hb1; have HBT1 := hide hbt1
    have k0 := q1.cell (i := 0) (by omega); have k1 := q1.cell (i := 1) (by omega); have k2 := q1.cell (i := 2) (by omega); have k3 := q1.cell (i := 3) (by omega); have k4 := q1.cell (i := 4) (by omega)
    simp only [row5] at k0 k1 k2 k3 k4
    clear hown hrep1 hT1 q1 hb1 hbt1
    go_wp2_with fail
    refine (unhide HOWN).mono ?_
    rintro e w2 ⟨rfl, hb2⟩
    clear k0 k1 k2 k3 k4
    have hs2 := hb2.size
    by_cases ho : ownB t = true
    · have q2 := (unhide Q1).of_block (hb2.block _ hs1)
      have hbt2 := (unhide HBT1).trans (But.of_below hb2)
      have hb2' := (unhide HB1).below hb2
      have hrep2 : Rep P w2 t ⟨c0, c1, c2, c3, c4⟩ := Rep.carry (fun b hb => hbt2.at (unhide HP b hb).1 (unhide HP b hb).2) (fun _ h => h) _ _ (unhide HREP)
      have hT2 := (unhide HT).but hbt2 hB0
      have hof := ofIts_any n (unhide HI) t (by omega) P ⟨c0, c1, c2, c3, c4⟩ w2 B (p + 1) (l + 1) (fun b hb => ⟨by have := (unhide HP b hb).1; omega, (unhide HP b hb).2⟩) hrep2 hb2' hT2 hB0 (by omega) h120 (by omega) h6 ho
      have HOF := hide hof; have HBT2 := hide hbt2
      have HW := hide (unhide HWO ho)
      have k0 := q2.cell (i := 0) (by omega); have k1 := q2.cell (i := 1) (by omega); have k2 := q2.cell (i := 2) (by omega); have k3 := q2.cell (i := 3) (by omega); have k4 := q2.cell (i := 4) (by omega)
      simp only [row5] at k0 k1 k2 k3 k4
      clear hof hrep2 hT2 q2 hb2' hbt2 hb2 HOWN HREP1 HT1 Q1 HB1 HBT1 HEN
      go_wp2_with (go_at_call 32; refine (treeWant_yes _).mono ?_; rintro e w' ⟨rfl, hw'⟩; subst hw')
      refine (unhide HOF).mono ?_
      rintro e w3 ⟨hbt3, ⟨q, v, hof, rfl, hsr, hb3⟩ | ⟨hof, rfl⟩⟩
      · have hlv := leave_any B q (l + 1) w3 hb3 (by omega) (by omega)
        rw [show l + 1 - 1 = l from by omega] at hlv
        have hbt4 := ((unhide HBT2).trans hbt3).trans (But.set (B := B) w3 1 (.int .i64 l))
        have hsr4 : SRep (fun b => P b ∨ (w.heap.size ≤ b ∧ b < (w3.setCell ⟨B, 1, none⟩ (.int .i64 l)).heap.size)) (w3.setCell ⟨B, 1, none⟩ (.int .i64 l)) t v := by
          refine SRep.carry (fun b hb => Below.heap_setCell _ _ _ _ ?_) (fun b hb => ?_) _ _ hsr
          · rcases hb with hb | hb
            · exact (unhide HP b hb).2
            · have := hb.1; show b ≠ B; omega
          · rcases hb with hb | hb
            · exact Or.inl hb
            · exact Or.inr ⟨by have := hb.1; omega, by simpa [World.setCell] using hb.2⟩
        have HLV := hide hlv; have HBT4 := hide hbt4; have HSR := hide hsr4; have HB4 := hide (hb3.set1 l)
        have HQ : Hid (wlk t p l = some q) := by show _ = _; rw [unhide HW, hof]
        clear hlv hbt4 hsr4 hsr hb3 hbt3 hof k0 k1 k2 k3 k4
        go_wp2_with (go_at_call 89; refine (unhide HLV).mono ?_; rintro e w4 ⟨rfl, rfl⟩)
        go_ret
        exact ⟨unhide HBT4, Or.inl ⟨q, v, unhide HQ, rfl, unhide HSR, unhide HB4⟩⟩
      · have HBT4 := hide ((unhide HBT2).trans hbt3)
        have HQ : Hid (wlk t p l = none) := by show _ = _; rw [unhide HW, hof]
        clear hbt3 hof
        go_wp2_with fail
        exact ⟨rfl, unhide HBT4, Or.inr ⟨unhide HQ, rfl⟩⟩
    · have ho' : ownB t = false := by simpa using ho
      have HW := hide (unhide HWN ho')
      have hbt2 := (unhide HBT1).trans (But.of_below hb2)
      have HBT2 := hide hbt2
      clear ho hb2 hbt2
      go_wp2_with (go_at_call 32; refine (treeWant_no _).mono ?_; rintro e w' ⟨rfl, rfl⟩)
      exact ⟨rfl, unhide HBT2, Or.inr ⟨unhide HW, rfl⟩⟩
  · have HW : Hid (wlk t p l = none) := by show _ = _; rw [wlk_eq, if_neg hin]
    have hen : ∀ o, Calls Tryz.prog 86 #[.pointer (some ⟨B, 0, none⟩)] (w.alloc o) fun e w' => e = fltE ∧ But B w w' := fun o =>
      (enter_no B p l (w.alloc o) (hB.alloc o) hp0 hl0 hp1 hl1 hin).mono fun e w' ⟨h1, h2⟩ => ⟨h1, by rw [h2]; exact ((But.alloc B w o).trans (But.set _ _ _)).trans (But.set _ _ _)⟩
    have HEN := hide hen
    clear hen hP hrep hB hT IH hin
    go_enter Tryz.func82, Tryz.ntmps82
    go_wp2_with (go_at_call 86; refine (unhide HEN _).mono ?_; rintro e w1 ⟨rfl, hbt⟩)
    exact ⟨rfl, hbt, Or.inr ⟨unhide HW, rfl⟩⟩

theorem tree_all : ∀ n, TreeSaid n
  | 0 => fun t h => by omega
  | n + 1 => tree_step n (tree_all n)
end Go.Proofs.YtiflfcjocngiiaaGreatDoor

/- The walks of the program's sortTree, TreeOk and TreeParts: they answer as the plain function on data does. The table treeFields is as the program lays it. -/

namespace Go.Proofs.YtiflfcjocngiiaaGreatDoor
open Go Go.RowKit

/-- What the sorter's closure finds: the tree's box, the bounds, the place of the answer. -/
structure Seat (P : Nat → Prop) (w : World) (X B Y : Nat) (t : Tr) (c : C5) : Prop where
  box : w.rowIs X 39 5 (row5 c.c0 c.c1 c.c2 c.c3 c.c4)
  bnd : Bnd w B 0 0
  ans : w.cell? ⟨Y, 0, none⟩ = some .nilIface
  frz : w.frozen? ⟨Y, 0, none⟩ = false
  rep : Rep P w t c
  old : ∀ b, P b → b < X
  tab : Tab w
  xb : X < B
  by' : B < Y
  x0 : 0 < X

/-- What it leaves. -/
structure Sorted (P : Nat → Prop) (w w' : World) (X B Y : Nat) (t : Tr) (q : Int) (v : Value) : Prop where
  ans : w'.cell? ⟨Y, 0, none⟩ = some v
  rep : SRep (fun b => P b ∨ (w.heap.size ≤ b ∧ b < w'.heap.size)) w' t v
  bnd : Bnd w' B q 0
  size : w.heap.size ≤ w'.heap.size
  low : Below X w w'
  kept : ∀ b, b < w.heap.size → b ≠ B → b ≠ Y → w'.heap[b]? = w.heap[b]?

set_option maxHeartbeats 800000 in
theorem sort1_yes (P : Nat → Prop) (w : World) (X B Y : Nat) (t : Tr) (c : C5) (q : Int) (h : Seat P w X B Y t c) (hq : wlk t 0 0 = some q) :
    Calls Tryz.prog 81 #[.pointer (some ⟨B, 0, none⟩), .pointer (some ⟨X, 0, none⟩), .pointer (some ⟨Y, 0, none⟩)] w fun e w' => e = .returned (.tuple #[]) ∧ ∃ v, Sorted P w w' X B Y t q v := by
  obtain ⟨box, bnd, ans, frz, rep, old, tab, xb, by', x0⟩ := h
  have hBw := bnd.lt
  have hYw : Y < w.heap.size := World.block_lt_of_cell? w _ ans
  have hcall := tree_all (tsz t + 1) t (by omega) P c w B 0 0 (fun b hb => ⟨by have := old b hb; omega, by have := old b hb; omega⟩) rep bnd tab (by omega) (by omega) (by omega) (by omega) (by omega)
  have HCALL : Hid (Calls Tryz.prog 82 #[.pointer (some ⟨B, 0, none⟩), .agg #[c.c0, c.c1, c.c2, c.c3, c.c4]] w fun e w' => ∃ v, e = .returned v ∧ But B w w' ∧ SRep (fun b => P b ∨ (w.heap.size ≤ b ∧ b < w'.heap.size)) w' t v ∧ Bnd w' B q 0) :=
    hcall.mono fun e w' ⟨h1, h2⟩ => by
      rcases h2 with ⟨q', v, g1, g2, g3, g4⟩ | ⟨g1, _⟩
      · rw [hq] at g1; simp only [Option.some.injEq] at g1; subst g1; exact ⟨v, g2, h1, g3, g4⟩
      · rw [hq] at g1; cases g1
  have HOLD := hide old
  have k0 := box.cell (i := 0) (by omega); have k1 := box.cell (i := 1) (by omega); have k2 := box.cell (i := 2) (by omega); have k3 := box.cell (i := 3) (by omega); have k4 := box.cell (i := 4) (by omega)
  simp only [row5] at k0 k1 k2 k3 k4
  have HANS := hide ans; have HFRZ := hide frz
  clear hcall box bnd rep tab hq old ans frz
  go_enter Tryz.func81, Tryz.ntmps81
  go_wp2_with fail
  refine (unhide HCALL).mono ?_
  rintro e w1 ⟨v, rfl, hbt, hsr, hbn⟩
  have hs1 := hbt.size
  have ya : w1.cell? ⟨Y, 0, none⟩ = some .nilIface := by rw [World.cell?_of_block (a := ⟨Y, 0, none⟩) (hbt.at hYw (show Y ≠ B by omega))]; exact unhide HANS
  have yf : w1.frozen? ⟨Y, 0, none⟩ = false := by rw [World.frozen?_of_block (a := ⟨Y, 0, none⟩) (hbt.at hYw (show Y ≠ B by omega))]; exact unhide HFRZ
  obtain ⟨T, x, rfl⟩ := hsr.iface
  have hfin : Sorted P w (w1.setCell ⟨Y, 0, none⟩ (.iface T x)) X B Y t q (.iface T x) := by
    have he : ∀ b, b ≠ Y → (w1.setCell ⟨Y, 0, none⟩ (.iface T x)).heap[b]? = w1.heap[b]? := fun b hb => Below.heap_setCell _ _ _ _ hb
    have hsz : (w1.setCell ⟨Y, 0, none⟩ (.iface T x)).heap.size = w1.heap.size := by simp [World.setCell]
    refine ⟨by simp [go_sem, ya], SRep.carry (fun b hb => he b ?_) (fun b hb => by rw [hsz]; exact hb) _ _ hsr, hbn.of_block (he B (by omega)), by omega, ?_, fun b h1 h2 h3 => (he b h3).trans (hbt.at h1 h2)⟩
    · rcases hb with hb | hb
      · have := unhide HOLD b hb; omega
      · omega
    · exact ⟨hbt.os, hbt.tape, hbt.output, by omega, fun b hb => (he b (by omega)).trans (hbt.at (by omega) (by omega))⟩
  have HFIN := hide hfin
  clear hbt hsr hbn hfin k0 k1 k2 k3 k4
  go_wp2_with fail
  go_end0
  exact ⟨rfl, _, unhide HFIN⟩

set_option maxHeartbeats 800000 in
theorem sort1_no (P : Nat → Prop) (w : World) (X B Y : Nat) (t : Tr) (c : C5) (h : Seat P w X B Y t c) (hq : wlk t 0 0 = none) :
    Calls Tryz.prog 81 #[.pointer (some ⟨B, 0, none⟩), .pointer (some ⟨X, 0, none⟩), .pointer (some ⟨Y, 0, none⟩)] w fun e w' => e = fltE ∧ But B w w' := by
  obtain ⟨box, bnd, ans, frz, rep, old, tab, xb, by', x0⟩ := h
  have hcall := tree_all (tsz t + 1) t (by omega) P c w B 0 0 (fun b hb => ⟨by have := old b hb; have := bnd.lt; omega, by have := old b hb; omega⟩) rep bnd tab (by omega) (by omega) (by omega) (by omega) (by omega)
  have HCALL : Hid (Calls Tryz.prog 82 #[.pointer (some ⟨B, 0, none⟩), .agg #[c.c0, c.c1, c.c2, c.c3, c.c4]] w fun e w' => e = fltE ∧ But B w w') :=
    hcall.mono fun e w' ⟨h1, h2⟩ => by
      rcases h2 with ⟨q', v, g1, g2, g3, g4⟩ | ⟨_, g2⟩
      · rw [hq] at g1; cases g1
      · exact ⟨g2, h1⟩
  have k0 := box.cell (i := 0) (by omega); have k1 := box.cell (i := 1) (by omega); have k2 := box.cell (i := 2) (by omega); have k3 := box.cell (i := 3) (by omega); have k4 := box.cell (i := 4) (by omega)
  simp only [row5] at k0 k1 k2 k3 k4
  clear hcall box bnd rep tab hq old ans frz
  go_enter Tryz.func81, Tryz.ntmps81
  go_wp2_with (go_at_call 82; refine (unhide HCALL).mono ?_; rintro e w1 ⟨rfl, hbt⟩)
  exact ⟨rfl, rfl, hbt⟩

theorem enter40 (caps : Array Value) (W : World) : Sem.run Tryz.prog (callFunc 81 caps) W = .ok (.enter 81 caps) W := by
  kernel_rfl

/-- The seat in the world in which treeTry calls the closure. -/
theorem seat_here {P : Nat → Prop} {w : World} {t : Tr} {c : C5} (hrep : Rep P w t c) (hP : ∀ b, P b → b < w.heap.size) (hT : Tab w) (o : Obj) :
    Seat P ((((w.alloc (.cells #[c.c0, c.c1, c.c2, c.c3, c.c4] 39)).alloc (.cells #[.int .i64 0, .int .i64 0] 111)).alloc (.cells #[.nilIface] 101)).alloc o) w.heap.size (w.heap.size + 1) (w.heap.size + 1 + 1) t c := by
  have hb : Below w.heap.size w ((((w.alloc (.cells #[c.c0, c.c1, c.c2, c.c3, c.c4] 39)).alloc (.cells #[.int .i64 0, .int .i64 0] 111)).alloc (.cells #[.nilIface] 101)).alloc o) :=
    ((((Below.refl _ _).alloc (Nat.le_refl _) _).alloc (by simp) _).alloc (by simp; omega) _).alloc (by simp; omega) _
  refine ⟨(((row5_alloc w c.c0 c.c1 c.c2 c.c3 c.c4 _).alloc _).alloc _).alloc _, ⟨?_, ?_, ?_, ?_⟩, ?_, ?_, Rep.carry (fun b hb' => hb.block b (hP b hb')) (fun _ h => h) _ _ hrep, hP, hT.of_block (hb.block 0 hT.lt), by omega, by omega, hT.lt⟩
  all_goals simp [go_sem]

/-- treeTry over the closure, where the tree is ok. -/
theorem tryWork_yes {P : Nat → Prop} {w : World} {t : Tr} {c : C5} {q : Int} (hrep : Rep P w t c) (hP : ∀ b, P b → b < w.heap.size) (hT : Tab w) (hq : wlk t 0 0 = some q) :
    Calls Tryz.prog 13 #[.func (.func 81) #[] #[.pointer (some ⟨w.heap.size + 1, 0, none⟩), .pointer (some ⟨w.heap.size, 0, none⟩), .pointer (some ⟨w.heap.size + 1 + 1, 0, none⟩)]]
      (((w.alloc (.cells #[c.c0, c.c1, c.c2, c.c3, c.c4] 39)).alloc (.cells #[.int .i64 0, .int .i64 0] 111)).alloc (.cells #[.nilIface] 101)) fun e w' =>
        e = .returned (.bool true) ∧ ∃ v, w'.cell? ⟨w.heap.size + 1 + 1, 0, none⟩ = some v ∧ Bnd w' (w.heap.size + 1) q 0 ∧ SRep (fun b => P b ∨ (w.heap.size ≤ b ∧ b < w'.heap.size)) w' t v ∧ Below w.heap.size w w' := by
  generalize hW : (((w.alloc (.cells #[c.c0, c.c1, c.c2, c.c3, c.c4] 39)).alloc (.cells #[.int .i64 0, .int .i64 0] 111)).alloc (.cells #[.nilIface] 101)) = W
  have hsz : W.heap.size = w.heap.size + 3 := by rw [← hW]; simp
  have hbw : Below w.heap.size w W := by rw [← hW]; exact (((Below.refl _ _).alloc (Nat.le_refl _) _).alloc (by simp) _).alloc (by simp; omega) _
  refine (treeTry_yes 81 _ W (fun w1 => ∃ o v, Sorted P (W.alloc o) w1 w.heap.size (w.heap.size + 1) (w.heap.size + 1 + 1) t q v) (enter40 _) (fun o => ?_)).mono ?_
  · have hs := seat_here hrep hP hT o
    rw [hW] at hs
    refine (sort1_yes P (W.alloc o) _ _ _ t c q hs hq).mono fun e w' ⟨h1, v, h2⟩ => ⟨h1, ⟨o, v, h2⟩, h2.kept _ (by simp) (by omega) (by omega)⟩
  · rintro e w' ⟨rfl, w1, ⟨o, v, hs⟩, hb⟩
    have hs1 := hs.size
    have hs2 := hb.size
    have hsa : (W.alloc o).heap.size = w.heap.size + 4 := by simp [hsz]
    refine ⟨rfl, v, ?_, ?_, ?_, ?_⟩
    · rw [World.cell?_of_block (a := ⟨w.heap.size + 1 + 1, 0, none⟩) (hb.at (by simp only; omega) (by simp only; omega))]; exact hs.ans
    · exact hs.bnd.of_block (hb.at (by omega) (by omega))
    · refine SRep.carry (fun b hb' => ?_) (fun b hb' => ?_) _ _ hs.rep
      · rcases hb' with hb' | hb'
        · have := hP b hb'; exact hb.at (by omega) (by omega)
        · exact hb.at hb'.2 (by omega)
      · rcases hb' with hb' | hb'
        · exact Or.inl hb'
        · exact Or.inr ⟨by omega, by omega⟩
    · have h1 := (hbw.trans (((Below.refl _ _).alloc (by omega) o).trans hs.low))
      exact ⟨hb.os.trans h1.os, hb.tape.trans h1.tape, hb.output.trans h1.output, by have := h1.size; omega, fun b hb' => (hb.at (by omega) (by omega)).trans (h1.block b hb')⟩

/-- treeTry over the closure, where the tree is not ok. -/
theorem tryWork_no {P : Nat → Prop} {w : World} {t : Tr} {c : C5} (hrep : Rep P w t c) (hP : ∀ b, P b → b < w.heap.size) (hT : Tab w) (hq : wlk t 0 0 = none) :
    Calls Tryz.prog 13 #[.func (.func 81) #[] #[.pointer (some ⟨w.heap.size + 1, 0, none⟩), .pointer (some ⟨w.heap.size, 0, none⟩), .pointer (some ⟨w.heap.size + 1 + 1, 0, none⟩)]]
      (((w.alloc (.cells #[c.c0, c.c1, c.c2, c.c3, c.c4] 39)).alloc (.cells #[.int .i64 0, .int .i64 0] 111)).alloc (.cells #[.nilIface] 101)) fun e w' =>
        e = .returned (.bool false) ∧ Below w.heap.size w w' := by
  generalize hW : (((w.alloc (.cells #[c.c0, c.c1, c.c2, c.c3, c.c4] 39)).alloc (.cells #[.int .i64 0, .int .i64 0] 111)).alloc (.cells #[.nilIface] 101)) = W
  have hsz : W.heap.size = w.heap.size + 3 := by rw [← hW]; simp
  have hbw : Below w.heap.size w W := by rw [← hW]; exact (((Below.refl _ _).alloc (Nat.le_refl _) _).alloc (by simp) _).alloc (by simp; omega) _
  refine (treeTry_no 81 _ W (fun w1 => ∃ o, But (w.heap.size + 1) (W.alloc o) w1) (enter40 _) (fun o => ?_)).mono ?_
  · have hs := seat_here hrep hP hT o
    rw [hW] at hs
    refine (sort1_no P (W.alloc o) _ _ _ t c hs hq).mono fun e w' ⟨h1, h2⟩ => ⟨h1, ⟨o, h2⟩, h2.at (by simp) (by omega)⟩
  · rintro e w' ⟨rfl, w1, ⟨o, hs⟩, hb⟩
    have hs1 := hs.size
    have hs2 := hb.size
    have hsa : (W.alloc o).heap.size = w.heap.size + 4 := by simp [hsz]
    have h1 := hbw.trans ((Below.refl _ _).alloc (by omega) o)
    refine ⟨rfl, hb.os.trans (hs.os.trans h1.os), hb.tape.trans (hs.tape.trans h1.tape), hb.output.trans (hs.output.trans h1.output), by have := h1.size; omega, fun b hb' => (hb.at (by omega) (by omega)).trans ((hs.at (by omega) (by omega)).trans (h1.block b hb'))⟩

set_option maxRecDepth 100000 in
set_option maxHeartbeats 800000 in
theorem sortTree_yes (P : Nat → Prop) (w : World) (t : Tr) (c : C5) (q : Int) (hrep : Rep P w t c) (hP : ∀ b, P b → b < w.heap.size) (hT : Tab w) (hq : wlk t 0 0 = some q) :
    Calls Tryz.prog 76 #[.agg #[c.c0, c.c1, c.c2, c.c3, c.c4]] w fun e w' => ∃ v, e = .returned (.tuple #[v, .int .i64 q]) ∧ SRep (fun b => P b ∨ (w.heap.size ≤ b ∧ b < w'.heap.size)) w' t v ∧ Below w.heap.size w w' := by
  have hmf : ∀ (fn : Fn) (first cap : Array Value) (w : World), (Instr.makeFunc fn first cap).run Tryz.prog w = .ok (.func fn first cap) w := fun _ _ _ _ => rfl
  obtain ⟨c0, c1, c2, c3, c4⟩ := c
  have HTRY := hide (tryWork_yes hrep hP hT hq)
  clear hrep hT hq hP
  go_enter Tryz.func76, Tryz.ntmps76
  go_wp2_with fail
  refine (unhide HTRY).mono ?_
  rintro e w1 ⟨rfl, v, hv, ⟨b0, b1, -, -⟩, hsr, hb⟩
  have HSR := hide hsr; have HB := hide hb
  clear hsr hb hmf
  go_wp2_with fail
  go_quiet (fail)
  go_wp2_with fail
  go_ret2
  refine ⟨v, rfl, ?_, below_drewN (unhide HB) _⟩
  refine SRep.carry (w := w1) (P := fun b => P b ∨ (w.heap.size ≤ b ∧ b < w1.heap.size)) (fun _ _ => ?_) (fun _ h => h) _ _ (unhide HSR)
  rfl

set_option maxRecDepth 100000 in
set_option maxHeartbeats 800000 in
theorem sortTree_no (P : Nat → Prop) (w : World) (t : Tr) (c : C5) (hrep : Rep P w t c) (hP : ∀ b, P b → b < w.heap.size) (hT : Tab w) (hq : wlk t 0 0 = none) :
    Calls Tryz.prog 76 #[.agg #[c.c0, c.c1, c.c2, c.c3, c.c4]] w fun e w' => e = .returned (.tuple #[.nilIface, .int .i64 0]) ∧ Below w.heap.size w w' := by
  have hmf : ∀ (fn : Fn) (first cap : Array Value) (w : World), (Instr.makeFunc fn first cap).run Tryz.prog w = .ok (.func fn first cap) w := fun _ _ _ _ => rfl
  obtain ⟨c0, c1, c2, c3, c4⟩ := c
  have HTRY := hide (tryWork_no hrep hP hT hq)
  clear hrep hT hq hP
  go_enter Tryz.func76, Tryz.ntmps76
  go_wp2_with fail
  refine (unhide HTRY).mono ?_
  rintro e w1 ⟨rfl, hb⟩
  have HB := hide hb
  clear hb hmf
  go_wp2_with fail
  go_ret2
  exact ⟨rfl, unhide HB⟩

/-- sortTree, whatever the tree: the parts alone. -/
theorem sortTree_parts (P : Nat → Prop) (w : World) (t : Tr) (c : C5) (hrep : Rep P w t c) (hP : ∀ b, P b → b < w.heap.size) (hT : Tab w) :
    Calls Tryz.prog 76 #[.agg #[c.c0, c.c1, c.c2, c.c3, c.c4]] w fun e w' => ∃ v, e = .returned (.tuple #[v, .int .i64 (if pT t 1 < 0 then 0 else pT t 1)]) ∧ Below w.heap.size w w' := by
  by_cases h : pT t 1 < 0
  · rw [if_pos h]
    exact (sortTree_no P w t c hrep hP hT (by rw [wlk_start, if_pos h])).mono fun e w' ⟨h1, h2⟩ => ⟨_, h1, h2⟩
  · rw [if_neg h]
    exact (sortTree_yes P w t c _ hrep hP hT (by rw [wlk_start, if_neg h])).mono fun e w' ⟨v, h1, _, h2⟩ => ⟨v, h1, h2⟩

set_option maxHeartbeats 800000 in
theorem implTreeOk_any (t : Tr) (P : Nat → Prop) (c : C5) (w : World) (hP : ∀ b, P b → b < w.heap.size) (hrep : Rep P w t c) (hT : Tab w) :
    Calls Tryz.prog 66 #[.agg #[c.c0, c.c1, c.c2, c.c3, c.c4]] w fun e w' => e = .returned (.bool (decide (0 < pT t 1))) ∧ Below w.heap.size w w' := by
  have hbx : ∀ o, Below w.heap.size w (w.alloc o) := fun o => (Below.refl _ _).alloc (Nat.le_refl _) o
  have hcall : ∀ o, Calls Tryz.prog 76 #[.agg #[c.c0, c.c1, c.c2, c.c3, c.c4]] (w.alloc o) fun e w' => ∃ v, e = .returned (.tuple #[v, .int .i64 (if pT t 1 < 0 then 0 else pT t 1)]) ∧ Below w.heap.size w w' := fun o =>
    (sortTree_parts P (w.alloc o) t c (Rep.carry (fun b hb => (hbx o).block b (hP b hb)) (fun _ h => h) _ _ hrep) (fun b hb => Nat.lt_of_lt_of_le (hP b hb) (hbx o).size) (hT.of_block ((hbx o).block 0 hT.lt))).mono
      fun e w' ⟨v, h1, h2⟩ => ⟨v, h1, (hbx o).trans (h2.mono (hbx o).size)⟩
  have hd : decide (0 < pT t 1) = decide (0 < (if pT t 1 < 0 then 0 else pT t 1)) := by
    by_cases h : pT t 1 < 0
    · rw [if_pos h]; simp; omega
    · rw [if_neg h]
  rw [hd]
  generalize (if pT t 1 < 0 then 0 else pT t 1) = r at *
  have HCALL := hide hcall
  clear hbx hcall hP hrep hT hd
  go_enter Tryz.func66, Tryz.ntmps66
  go_wp2_with (go_at_call 76; refine (unhide HCALL _).mono ?_; rintro e w2 ⟨v, rfl, hb2⟩)
  go_ret
  exact ⟨rfl, hb2⟩
end Go.Proofs.YtiflfcjocngiiaaGreatDoor

/- The walk of the specification's l1TextOk: what it answers. No conditions. -/

namespace Go.Proofs.YtiflfcjocngiiaaGreatDoor
open Go Go.RowKit

set_option maxHeartbeats 400000 in
theorem l1TextOk_any (s : ByteArray) (w : World) (hs : s.size ≤ 9223372036854775807) :
    Calls Tryz.prog 72 #[.string s] w fun e w' => e = .returned (.bool (textOkB s)) ∧ w' = w := by
  by_cases h60 : 60 < s.size
  · go_enter Tryz.func72, Tryz.ntmps72
    go_wp2_with fail
    go_ret
    exact ⟨by simp [textOkB]; omega, rfl⟩
  · go_enter Tryz.func72, Tryz.ntmps72
    go_wp2_with fail
    go_loop [3] (fun i => ∃ k : Nat, k ≤ s.size ∧ i = .int .i64 k ∧ Hid (allTo textByte s k)) (fun i => s.size - (intOf i).toNat)
    case atStart => exact ⟨0, Nat.zero_le _, rfl, fun j hj => by omega⟩
    case round =>
      obtain ⟨k, hk, rfl, HA⟩ := hrel
      by_cases hlt : k < s.size
      · have hc : s[k].toNat < 32 ∨ 126 < s[k].toNat ∨ s[k].toNat = 34 ∨ (32 ≤ s[k].toNat ∧ s[k].toNat ≤ 126 ∧ s[k].toNat ≠ 34) := by omega
        rcases hc with hc | hc | hc | hc
        · go_wp2_with fail
          go_ret
          exact ⟨ret_bool (textOk_not hlt (textByte_no (Or.inl hc))).symm, rfl⟩
        · go_wp2_with fail
          go_ret
          exact ⟨ret_bool (textOk_not hlt (textByte_no (Or.inr (Or.inl hc)))).symm, rfl⟩
        · have HC := hide (textOk_not hlt (textByte_no (Or.inr (Or.inr hc))))
          go_wp2_with fail
          go_ret
          exact ⟨ret_bool (unhide HC).symm, rfl⟩
        · have HN := hide (allTo_succ HA.out hlt (textByte_yes hc))
          obtain ⟨hc1, hc2, hc3⟩ := hc
          have hb34 : ((s[k].toNat : Int) == 34) = false := by simp; omega
          go_wp2_with fail
          go_round
          case rel => exact ⟨k + 1, by omega, by go_num, HN⟩
          case measure => simp [intOf]; omega
      · go_wp2_with fail
        go_ret
        obtain rfl : k = s.size := by omega
        exact ⟨ret_bool (textOk_yes (by omega) HA.out).symm, rfl⟩
end Go.Proofs.YtiflfcjocngiiaaGreatDoor
