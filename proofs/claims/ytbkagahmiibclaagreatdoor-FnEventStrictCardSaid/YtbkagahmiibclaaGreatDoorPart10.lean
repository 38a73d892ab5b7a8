/- A part. -/
import Derived.Test.YtbkagahmiibclaaGreatDoorPart09
namespace Go.Proofs.YtbkagahmiibclaaGreatDoor
open Go Go.RowKit
set_option maxRecDepth 100000
set_option maxHeartbeats 3200000
theorem ofIts_any (n : Nat) (IH : TreeSaid n) (t : Tr) (hn : tsz t ≤ n) (P : Nat → Prop) (c : C5) (w : World) (B : Nat) (p l : Int) (hP : ∀ b, P b → b < w.heap.size ∧ b ≠ B) (hrep : Rep P w t c) (hB : Bnd w B p l) (hT : Tab w) (hB0 : 1 < B) (hp0 : 0 ≤ p) (hp1 : p ≤ 120) (hl0 : 0 ≤ l) (hl1 : l ≤ 6) (ho : ownB t = true) :
 Calls Tryz.prog 124 #[.pointer (some ⟨B, 0, none⟩), .agg #[c.c0, c.c1, c.c2, c.c3, c.c4]] w (OfPost P t B p l w) := by
 have h : (t.sort < 1 ∨ 6 < t.sort) ∨ t.sort = 1 ∨ t.sort = 2 ∨ t.sort = 3 ∨ t.sort = 4 ∨ t.sort = 5 ∨ t.sort = 6 := by omega
 rcases h with h | h | h | h | h | h | h
 · rw [own_out h] at ho; cases ho
 · exact ofIts_1 t P c w B p l hrep hB ho h
 · exact ofIts_2 t P c w B p l hrep hB ho h
 · exact ofIts_3 t P c w B p l hrep hB ho h
 · exact ofIts_4 n IH t hn P c w B p l hP hrep hB hT hB0 hp0 hp1 hl0 hl1 h
 · exact ofIts_5 n IH t hn P c w B p l hP hrep hB hT hB0 hp0 hp1 hl0 hl1 h
 · exact ofIts_6 n IH t hn P c w B p l hP hrep hB hT hB0 hp0 hp1 hl0 hl1 h
theorem tree_step (n : Nat) (IH : TreeSaid n) : TreeSaid (n + 1) := by
 intro t hn P c w B p l hP hrep hB hT hB0 hp0 hp1 hl0 hl1
 have hBw := hB.lt
 have hBne : ¬ w.heap.size = B := by omega
 by_cases hin : p + 1 ≤ 120 ∧ l + 1 ≤ 6
 · have hen : ∀ x0 x1 x2 x3 x4 : Value, Calls Tryz.prog 110 #[.pointer (some ⟨B, 0, none⟩)] (w.alloc (.cells #[x0, x1, x2, x3, x4] 26)) fun e w' => e = .returned (.tuple #[]) ∧ w'.rowIs w.heap.size 26 5 (row5 x0 x1 x2 x3 x4) ∧ Bnd w' B (p + 1) (l + 1) ∧ But B w w' ∧ w.heap.size < w'.heap.size := fun x0 x1 x2 x3 x4 =>
    (enter_yes B p l _ (hB.alloc _) hp0 hl0 hin.1 hin.2).mono fun e w' ⟨h1, h2⟩ => by
      have hb := ((But.set (B := B) (w.alloc (.cells #[x0, x1, x2, x3, x4] 26)) 0 (.int .i64 (p + 1))).trans (But.set _ 1 (.int .i64 (l + 1))))
      rw [h2]
      refine ⟨h1, (row5_alloc w x0 x1 x2 x3 x4 _).of_block (hb.at (by simp) hBne), (hB.alloc _).set2 _ _, (But.alloc B w _).trans hb, ?_⟩
      have := hb.size
      simp at this ⊢
   have hwo : ownB t = true → wlk t p l = ofS t (p + 1) (l + 1) := wlk_of t p l hin
   have hwn : ownB t = false → wlk t p l = none := fun h => by rw [wlk_eq, if_pos hin, if_neg (by rw [h]; simp)]
   have HEN := hH hen; have HREP := hH hrep; have HP := hH hP; have HT := hH hT; have HI := hH IH; have HWO := hH hwo; have HWN := hH hwn
   obtain ⟨h120, h6⟩ := hin
   obtain ⟨c0, c1, c2, c3, c4⟩ := c
   clear hen hP hrep hB hT IH hwo hwn
   go_enter Tryz.func93, Tryz.ntmps93
   go_wp2_with fail
   refine (uh HEN _ _ _ _ _).mono ?_
   rintro e w1 ⟨rfl, q1, hb1, hbt1, hs1⟩
   have hrep1 : Rep P w1 t ⟨c0, c1, c2, c3, c4⟩ := Rep.carry (fun b hb => hbt1.at (uh HP b hb).1 (uh HP b hb).2) (fun _ h => h) _ _ (uh HREP)
   have hT1 := (uh HT).but hbt1 hB0
   have hown := own_any t P ⟨c0, c1, c2, c3, c4⟩ w1 hrep1 hT1 hT1.lt
   have HOWN := hH hown; have HREP1 := hH hrep1; have HT1 := hH hT1; have Q1 := hH q1; have HB1 := hH hb1; have HBT1 := hH hbt1
   obtain ⟨k0, k1, k2, k3, k4⟩ := cs5 q1 (by omega)
   simp only [row5] at k0 k1 k2 k3 k4
   clear hown hrep1 hT1 q1 hb1 hbt1
   go_wp2_with fail
   refine (uh HOWN).mono ?_
   rintro e w2 ⟨rfl, hb2⟩
   clear k0 k1 k2 k3 k4
   have hs2 := hb2.size
   by_cases ho : ownB t = true
   · have q2 := (uh Q1).of_block (hb2.block _ hs1)
     have hbt2 := (uh HBT1).trans (But.of_below hb2)
     have hb2' := (uh HB1).below hb2
     have hrep2 : Rep P w2 t ⟨c0, c1, c2, c3, c4⟩ := Rep.carry (fun b hb => hbt2.at (uh HP b hb).1 (uh HP b hb).2) (fun _ h => h) _ _ (uh HREP)
     have hT2 := (uh HT).but hbt2 hB0
     have hof := ofIts_any n (uh HI) t (by omega) P ⟨c0, c1, c2, c3, c4⟩ w2 B (p + 1) (l + 1) (fun b hb => ⟨by have := (uh HP b hb).1; omega, (uh HP b hb).2⟩) hrep2 hb2' hT2 hB0 (by omega) h120 (by omega) h6 ho
     have HOF := hH hof; have HBT2 := hH hbt2
     have HW := hH (uh HWO ho)
     obtain ⟨k0, k1, k2, k3, k4⟩ := cs5 q2 (by omega)
     simp only [row5] at k0 k1 k2 k3 k4
     clear hof hrep2 hT2 q2 hb2' hbt2 hb2 HOWN HREP1 HT1 Q1 HB1 HBT1 HEN
     go_wp2_with (go_at_call 68; refine (treeWant_yes _).mono ?_; rintro e w' ⟨rfl, hw'⟩; subst hw')
     refine (uh HOF).mono ?_
     rintro e w3 ⟨hbt3, ⟨q, v, hof, rfl, hsr, hb3⟩ | ⟨hof, rfl⟩⟩
     · have hlv := leave_any B q (l + 1) w3 hb3 (by omega) (by omega)
       rw [show l + 1 - 1 = l from by omega] at hlv
       have hbt4 := ((uh HBT2).trans hbt3).trans (But.set (B := B) w3 1 (.int .i64 l))
       have hsr4 : SRep (fun b => P b ∨ (w.heap.size ≤ b ∧ b < (w3.setCell ⟨B, 1, none⟩ (.int .i64 l)).heap.size)) (w3.setCell ⟨B, 1, none⟩ (.int .i64 l)) t v := by
        refine SRep.carry (fun b hb => Below.heap_setCell _ _ _ _ ?_) (fun b hb => ?_) _ _ hsr
        · rcases hb with hb | hb
          · exact (uh HP b hb).2
          · have := hb.1; show b ≠ B; omega
        · rcases hb with hb | hb
          · exact Or.inl hb
          · exact Or.inr ⟨by have := hb.1; omega, by simpa [World.setCell] using hb.2⟩
       have HLV := hH hlv; have HBT4 := hH hbt4; have HSR := hH hsr4; have HB4 := hH (hb3.set1 l)
       have HQ : Hid (wlk t p l = some q) := by show _ = _; rw [uh HW, hof]
       clear hlv hbt4 hsr4 hsr hb3 hbt3 hof k0 k1 k2 k3 k4
       go_wp2_with (go_at_call 112; refine (uh HLV).mono ?_; rintro e w4 ⟨rfl, rfl⟩)
       go_ret
       exact ⟨uh HBT4, Or.inl ⟨q, v, uh HQ, rfl, uh HSR, uh HB4⟩⟩
     · have HBT4 := hH ((uh HBT2).trans hbt3)
       have HQ : Hid (wlk t p l = none) := by show _ = _; rw [uh HW, hof]
       clear hbt3 hof
       go_wp2_with fail
       exact ⟨rfl, uh HBT4, Or.inr ⟨uh HQ, rfl⟩⟩
   · have ho' : ownB t = false := by simpa using ho
     have HW := hH (uh HWN ho')
     have hbt2 := (uh HBT1).trans (But.of_below hb2)
     have HBT2 := hH hbt2
     clear ho hb2 hbt2
     go_wp2_with (go_at_call 68; refine (treeWant_no _).mono ?_; rintro e w' ⟨rfl, rfl⟩)
     exact ⟨rfl, uh HBT2, Or.inr ⟨uh HW, rfl⟩⟩
 · have HW : Hid (wlk t p l = none) := by show _ = _; rw [wlk_eq, if_neg hin]
   have hen : ∀ o, Calls Tryz.prog 110 #[.pointer (some ⟨B, 0, none⟩)] (w.alloc o) fun e w' => e = fltE ∧ But B w w' := fun o =>
    (enter_no B p l (w.alloc o) (hB.alloc o) hp0 hl0 hp1 hl1 hin).mono fun e w' ⟨h1, h2⟩ => ⟨h1, by rw [h2]; exact ((But.alloc B w o).trans (But.set _ _ _)).trans (But.set _ _ _)⟩
   have HEN := hH hen
   clear hen hP hrep hB hT IH hin
   go_enter Tryz.func93, Tryz.ntmps93
   go_wp2_with (go_at_call 110; refine (uh HEN _).mono ?_; rintro e w1 ⟨rfl, hbt⟩)
   exact ⟨rfl, hbt, Or.inr ⟨uh HW, rfl⟩⟩
theorem tree_all : ∀ n, TreeSaid n
 | 0 => fun t h => by omega
 | n + 1 => tree_step n (tree_all n)

structure Seat (P : Nat → Prop) (w : World) (X B Y : Nat) (t : Tr) (c : C5) : Prop where
 box : w.rowIs X 26 5 (row5 c.c0 c.c1 c.c2 c.c3 c.c4)
 bnd : Bnd w B 0 0
 ans : w.cell? ⟨Y, 0, none⟩ = some .nilIface
 frz : w.frozen? ⟨Y, 0, none⟩ = false
 rep : Rep P w t c
 old : ∀ b, P b → b < X
 tab : Tab w
 xb : X < B
 by' : B < Y
 x0 : 1 < X
structure Sorted (P : Nat → Prop) (w w' : World) (X B Y : Nat) (t : Tr) (q : Int) (v : Value) : Prop where
 ans : w'.cell? ⟨Y, 0, none⟩ = some v
 rep : SRep (fun b => P b ∨ (w.heap.size ≤ b ∧ b < w'.heap.size)) w' t v
 bnd : Bnd w' B q 0
 size : w.heap.size ≤ w'.heap.size
 low : Below X w w'
 kept : ∀ b, b < w.heap.size → b ≠ B → b ≠ Y → w'.heap[b]? = w.heap[b]?
theorem sort1_yes (P : Nat → Prop) (w : World) (X B Y : Nat) (t : Tr) (c : C5) (q : Int) (h : Seat P w X B Y t c) (hq : wlk t 0 0 = some q) :
 Calls Tryz.prog 92 #[.pointer (some ⟨B, 0, none⟩), .pointer (some ⟨X, 0, none⟩), .pointer (some ⟨Y, 0, none⟩)] w fun e w' => e = .returned (.tuple #[]) ∧ ∃ v, Sorted P w w' X B Y t q v := by
 obtain ⟨box, bnd, ans, frz, rep, old, tab, xb, by', x0⟩ := h
 have hBw := bnd.lt
 have hYw : Y < w.heap.size := World.block_lt_of_cell? w _ ans
 have hcall := tree_all (tsz t + 1) t (by omega) P c w B 0 0 (fun b hb => ⟨by have := old b hb; omega, by have := old b hb; omega⟩) rep bnd tab (by omega) (by omega) (by omega) (by omega) (by omega)
 have HCALL : Hid (Calls Tryz.prog 93 #[.pointer (some ⟨B, 0, none⟩), .agg #[c.c0, c.c1, c.c2, c.c3, c.c4]] w fun e w' => ∃ v, e = .returned v ∧ But B w w' ∧ SRep (fun b => P b ∨ (w.heap.size ≤ b ∧ b < w'.heap.size)) w' t v ∧ Bnd w' B q 0) :=
  hcall.mono fun e w' ⟨h1, h2⟩ => by
   rcases h2 with ⟨q', v, g1, g2, g3, g4⟩ | ⟨g1, _⟩
   · rw [hq] at g1; simp only [Option.some.injEq] at g1; subst g1; exact ⟨v, g2, h1, g3, g4⟩
   · rw [hq] at g1; cases g1
 have HOLD := hH old
 obtain ⟨k0, k1, k2, k3, k4⟩ := cs5 box (by omega)
 simp only [row5] at k0 k1 k2 k3 k4
 have HANS := hH ans; have HFRZ := hH frz
 clear hcall box bnd rep tab hq old ans frz
 go_enter Tryz.func92, Tryz.ntmps92
 go_wp2_with fail
 refine (uh HCALL).mono ?_
 rintro e w1 ⟨v, rfl, hbt, hsr, hbn⟩
 have hs1 := hbt.size
 have ya : w1.cell? ⟨Y, 0, none⟩ = some .nilIface := by rw [World.cell?_of_block (a := ⟨Y, 0, none⟩) (hbt.at hYw (show Y ≠ B by omega))]; exact uh HANS
 have yf : w1.frozen? ⟨Y, 0, none⟩ = false := by rw [World.frozen?_of_block (a := ⟨Y, 0, none⟩) (hbt.at hYw (show Y ≠ B by omega))]; exact uh HFRZ
 obtain ⟨T, x, rfl⟩ := hsr.iface
 have hfin : Sorted P w (w1.setCell ⟨Y, 0, none⟩ (.iface T x)) X B Y t q (.iface T x) := by
  have he : ∀ b, b ≠ Y → (w1.setCell ⟨Y, 0, none⟩ (.iface T x)).heap[b]? = w1.heap[b]? := fun b hb => Below.heap_setCell _ _ _ _ hb
  have hsz : (w1.setCell ⟨Y, 0, none⟩ (.iface T x)).heap.size = w1.heap.size := by simp [World.setCell]
  refine ⟨by simp [go_sem, ya], SRep.carry (fun b hb => he b ?_) (fun b hb => by rw [hsz]; exact hb) _ _ hsr, hbn.of_block (he B (by omega)), by omega, ?_, fun b h1 h2 h3 => (he b h3).trans (hbt.at h1 h2)⟩
  · rcases hb with hb | hb
    · have := uh HOLD b hb; omega
    · omega
  · exact ⟨hbt.os, hbt.tape, hbt.output, by omega, fun b hb => (he b (by omega)).trans (hbt.at (by omega) (by omega))⟩
 have HFIN := hH hfin
 clear hbt hsr hbn hfin k0 k1 k2 k3 k4
 go_wp2_with fail
 go_end0
 exact ⟨rfl, _, uh HFIN⟩
theorem sort1_no (P : Nat → Prop) (w : World) (X B Y : Nat) (t : Tr) (c : C5) (h : Seat P w X B Y t c) (hq : wlk t 0 0 = none) :
 Calls Tryz.prog 92 #[.pointer (some ⟨B, 0, none⟩), .pointer (some ⟨X, 0, none⟩), .pointer (some ⟨Y, 0, none⟩)] w fun e w' => e = fltE ∧ But B w w' := by
 obtain ⟨box, bnd, ans, frz, rep, old, tab, xb, by', x0⟩ := h
 have hcall := tree_all (tsz t + 1) t (by omega) P c w B 0 0 (fun b hb => ⟨by have := old b hb; have := bnd.lt; omega, by have := old b hb; omega⟩) rep bnd tab (by omega) (by omega) (by omega) (by omega) (by omega)
 have HCALL : Hid (Calls Tryz.prog 93 #[.pointer (some ⟨B, 0, none⟩), .agg #[c.c0, c.c1, c.c2, c.c3, c.c4]] w fun e w' => e = fltE ∧ But B w w') :=
  hcall.mono fun e w' ⟨h1, h2⟩ => by
   rcases h2 with ⟨q', v, g1, g2, g3, g4⟩ | ⟨_, g2⟩
   · rw [hq] at g1; cases g1
   · exact ⟨g2, h1⟩
 obtain ⟨k0, k1, k2, k3, k4⟩ := cs5 box (by omega)
 simp only [row5] at k0 k1 k2 k3 k4
 clear hcall box bnd rep tab hq old ans frz
 go_enter Tryz.func92, Tryz.ntmps92
 go_wp2_with (go_at_call 93; refine (uh HCALL).mono ?_; rintro e w1 ⟨rfl, hbt⟩)
 exact ⟨rfl, rfl, hbt⟩
theorem enter40 (caps : Array Value) (W : World) : Sem.run Tryz.prog (callFunc 92 caps) W = .ok (.enter 92 caps) W := by
 kernel_rfl
theorem seat_here {P : Nat → Prop} {w : World} {t : Tr} {c : C5} (hrep : Rep P w t c) (hP : ∀ b, P b → b < w.heap.size) (hT : Tab w) (o : Obj) :
 Seat P ((((w.alloc (.cells #[c.c0, c.c1, c.c2, c.c3, c.c4] 26)).alloc (.cells #[.int .i64 0, .int .i64 0] 119)).alloc (.cells #[.nilIface] 94)).alloc o) w.heap.size (w.heap.size + 1) (w.heap.size + 1 + 1) t c := by
 have hb : Below w.heap.size w ((((w.alloc (.cells #[c.c0, c.c1, c.c2, c.c3, c.c4] 26)).alloc (.cells #[.int .i64 0, .int .i64 0] 119)).alloc (.cells #[.nilIface] 94)).alloc o) :=
  ((((Below.refl _ _).alloc (Nat.le_refl _) _).alloc (by simp) _).alloc (by simp; omega) _).alloc (by simp; omega) _
 refine ⟨(((row5_alloc w c.c0 c.c1 c.c2 c.c3 c.c4 _).alloc _).alloc _).alloc _, ⟨?_, ?_, ?_, ?_⟩, ?_, ?_, Rep.carry (fun b hb' => hb.block b (hP b hb')) (fun _ h => h) _ _ hrep, hP, hT.of_block (hb.block 1 hT.lt), by omega, by omega, hT.lt⟩
 all_goals simp [go_sem]
theorem tryWork_yes {P : Nat → Prop} {w : World} {t : Tr} {c : C5} {q : Int} (hrep : Rep P w t c) (hP : ∀ b, P b → b < w.heap.size) (hT : Tab w) (hq : wlk t 0 0 = some q) :
 Calls Tryz.prog 27 #[.func (.func 92) #[] #[.pointer (some ⟨w.heap.size + 1, 0, none⟩), .pointer (some ⟨w.heap.size, 0, none⟩), .pointer (some ⟨w.heap.size + 1 + 1, 0, none⟩)]]
  (((w.alloc (.cells #[c.c0, c.c1, c.c2, c.c3, c.c4] 26)).alloc (.cells #[.int .i64 0, .int .i64 0] 119)).alloc (.cells #[.nilIface] 94)) fun e w' =>
    e = .returned (.bool true) ∧ ∃ v, w'.cell? ⟨w.heap.size + 1 + 1, 0, none⟩ = some v ∧ Bnd w' (w.heap.size + 1) q 0 ∧ SRep (fun b => P b ∨ (w.heap.size ≤ b ∧ b < w'.heap.size)) w' t v ∧ Below w.heap.size w w' := by
 generalize hW : (((w.alloc (.cells #[c.c0, c.c1, c.c2, c.c3, c.c4] 26)).alloc (.cells #[.int .i64 0, .int .i64 0] 119)).alloc (.cells #[.nilIface] 94)) = W
 have hsz : W.heap.size = w.heap.size + 3 := by rw [← hW]; simp
 have hbw : Below w.heap.size w W := by rw [← hW]; exact (((Below.refl _ _).alloc (Nat.le_refl _) _).alloc (by simp) _).alloc (by simp; omega) _
 refine (treeTry_yes 92 _ W (fun w1 => ∃ o v, Sorted P (W.alloc o) w1 w.heap.size (w.heap.size + 1) (w.heap.size + 1 + 1) t q v) (enter40 _) (fun o => ?_)).mono ?_
 · have hs := seat_here hrep hP hT o
   rw [hW] at hs
   refine (sort1_yes P (W.alloc o) _ _ _ t c q hs hq).mono fun e w' ⟨h1, v, h2⟩ => ⟨h1, ⟨o, v, h2⟩, h2.kept _ (by simp) (by omega) (by omega)⟩
 · rintro e w' ⟨rfl, w1, ⟨o, v, hs⟩, hb⟩
   have hs1 := hs.size
   have hs2 := hb.size
   have hsa : (W.alloc o).heap.size = w.heap.size + 4 := by simp [hsz]
   refine ⟨rfl, v, ?_, ?_, ?_, ?_⟩
   · rw [World.cell?_of_block (a := ⟨w.heap.size + 1 + 1, 0, none⟩) (hb.at (by simp only; omega) (by simp only; omega))]; exact hs.ans
   · exact hs.bnd.of_block (hb.at (by omega) (by omega))
   · refine SRep.carry (fun b hb' => ?_) (fun b hb' => ?_) _ _ hs.rep
     · rcases hb' with hb' | hb'
       · have := hP b hb'; exact hb.at (by omega) (by omega)
       · exact hb.at hb'.2 (by omega)
     · rcases hb' with hb' | hb'
       · exact Or.inl hb'
       · exact Or.inr ⟨by omega, by omega⟩
   · have h1 := (hbw.trans (((Below.refl _ _).alloc (by omega) o).trans hs.low))
     exact ⟨hb.os.trans h1.os, hb.tape.trans h1.tape, hb.output.trans h1.output, by have := h1.size; omega, fun b hb' => (hb.at (by omega) (by omega)).trans (h1.block b hb')⟩
theorem tryWork_no {P : Nat → Prop} {w : World} {t : Tr} {c : C5} (hrep : Rep P w t c) (hP : ∀ b, P b → b < w.heap.size) (hT : Tab w) (hq : wlk t 0 0 = none) :
 Calls Tryz.prog 27 #[.func (.func 92) #[] #[.pointer (some ⟨w.heap.size + 1, 0, none⟩), .pointer (some ⟨w.heap.size, 0, none⟩), .pointer (some ⟨w.heap.size + 1 + 1, 0, none⟩)]]
  (((w.alloc (.cells #[c.c0, c.c1, c.c2, c.c3, c.c4] 26)).alloc (.cells #[.int .i64 0, .int .i64 0] 119)).alloc (.cells #[.nilIface] 94)) fun e w' =>
    e = .returned (.bool false) ∧ Below w.heap.size w w' := by
 generalize hW : (((w.alloc (.cells #[c.c0, c.c1, c.c2, c.c3, c.c4] 26)).alloc (.cells #[.int .i64 0, .int .i64 0] 119)).alloc (.cells #[.nilIface] 94)) = W
 have hsz : W.heap.size = w.heap.size + 3 := by rw [← hW]; simp
 have hbw : Below w.heap.size w W := by rw [← hW]; exact (((Below.refl _ _).alloc (Nat.le_refl _) _).alloc (by simp) _).alloc (by simp; omega) _
 refine (treeTry_no 92 _ W (fun w1 => ∃ o, But (w.heap.size + 1) (W.alloc o) w1) (enter40 _) (fun o => ?_)).mono ?_
 · have hs := seat_here hrep hP hT o
   rw [hW] at hs
   refine (sort1_no P (W.alloc o) _ _ _ t c hs hq).mono fun e w' ⟨h1, h2⟩ => ⟨h1, ⟨o, h2⟩, h2.at (by simp) (by omega)⟩
 · rintro e w' ⟨rfl, w1, ⟨o, hs⟩, hb⟩
   have hs1 := hs.size
   have hs2 := hb.size
   have hsa : (W.alloc o).heap.size = w.heap.size + 4 := by simp [hsz]
   have h1 := hbw.trans ((Below.refl _ _).alloc (by omega) o)
   refine ⟨rfl, hb.os.trans (hs.os.trans h1.os), hb.tape.trans (hs.tape.trans h1.tape), hb.output.trans (hs.output.trans h1.output), by have := h1.size; omega, fun b hb' => (hb.at (by omega) (by omega)).trans ((hs.at (by omega) (by omega)).trans (h1.block b hb'))⟩
theorem sortTree_yes (P : Nat → Prop) (w : World) (t : Tr) (c : C5) (q : Int) (hrep : Rep P w t c) (hP : ∀ b, P b → b < w.heap.size) (hT : Tab w) (hq : wlk t 0 0 = some q) :
 Calls Tryz.prog 65 #[.agg #[c.c0, c.c1, c.c2, c.c3, c.c4]] w fun e w' => ∃ v, e = .returned (.tuple #[v, .int .i64 q]) ∧ SRep (fun b => P b ∨ (w.heap.size ≤ b ∧ b < w'.heap.size)) w' t v ∧ Below w.heap.size w w' := by
 have hmf : ∀ (fn : Fn) (first cap : Array Value) (w : World), (Instr.makeFunc fn first cap).run Tryz.prog w = .ok (.func fn first cap) w := fun _ _ _ _ => rfl
 obtain ⟨c0, c1, c2, c3, c4⟩ := c
 have HTRY := hH (tryWork_yes hrep hP hT hq)
 clear hrep hT hq hP
 go_enter Tryz.func65, Tryz.ntmps65
 go_wp2_with fail
 refine (uh HTRY).mono ?_
 rintro e w1 ⟨rfl, v, hv, ⟨b0, b1, -, -⟩, hsr, hb⟩
 have HSR := hH hsr; have HB := hH hb
 clear hsr hb hmf
 go_wp2_with fail
 go_quiet (fail)
 go_wp2_with fail
 go_ret2
 refine ⟨v, rfl, ?_, below_drewN (uh HB) _⟩
 refine SRep.carry (w := w1) (P := fun b => P b ∨ (w.heap.size ≤ b ∧ b < w1.heap.size)) (fun _ _ => ?_) (fun _ h => h) _ _ (uh HSR)
 rfl
theorem sortTree_no (P : Nat → Prop) (w : World) (t : Tr) (c : C5) (hrep : Rep P w t c) (hP : ∀ b, P b → b < w.heap.size) (hT : Tab w) (hq : wlk t 0 0 = none) :
 Calls Tryz.prog 65 #[.agg #[c.c0, c.c1, c.c2, c.c3, c.c4]] w fun e w' => e = .returned (.tuple #[.nilIface, .int .i64 0]) ∧ Below w.heap.size w w' := by
 have hmf : ∀ (fn : Fn) (first cap : Array Value) (w : World), (Instr.makeFunc fn first cap).run Tryz.prog w = .ok (.func fn first cap) w := fun _ _ _ _ => rfl
 obtain ⟨c0, c1, c2, c3, c4⟩ := c
 have HTRY := hH (tryWork_no hrep hP hT hq)
 clear hrep hT hq hP
 go_enter Tryz.func65, Tryz.ntmps65
 go_wp2_with fail
 refine (uh HTRY).mono ?_
 rintro e w1 ⟨rfl, hb⟩
 have HB := hH hb
 clear hb hmf
 go_wp2_with fail
 go_ret2
 exact ⟨rfl, uh HB⟩
theorem sortTree_parts (P : Nat → Prop) (w : World) (t : Tr) (c : C5) (hrep : Rep P w t c) (hP : ∀ b, P b → b < w.heap.size) (hT : Tab w) :
 Calls Tryz.prog 65 #[.agg #[c.c0, c.c1, c.c2, c.c3, c.c4]] w fun e w' => ∃ v, e = .returned (.tuple #[v, .int .i64 (if pT t 1 < 0 then 0 else pT t 1)]) ∧ Below w.heap.size w w' := by
 by_cases h : pT t 1 < 0
 · rw [if_pos h]
   exact (sortTree_no P w t c hrep hP hT (by rw [wlk_start, if_pos h])).mono fun e w' ⟨h1, h2⟩ => ⟨_, h1, h2⟩
 · rw [if_neg h]
   exact (sortTree_yes P w t c _ hrep hP hT (by rw [wlk_start, if_neg h])).mono fun e w' ⟨v, h1, _, h2⟩ => ⟨v, h1, h2⟩
theorem implTreeOk_any (t : Tr) (P : Nat → Prop) (c : C5) (w : World) (hP : ∀ b, P b → b < w.heap.size) (hrep : Rep P w t c) (hT : Tab w) :
 Calls Tryz.prog 33 #[.agg #[c.c0, c.c1, c.c2, c.c3, c.c4]] w fun e w' => e = .returned (.bool (decide (0 < pT t 1))) ∧ Below w.heap.size w w' := by
 have hbx : ∀ o, Below w.heap.size w (w.alloc o) := fun o => (Below.refl _ _).alloc (Nat.le_refl _) o
 have hcall : ∀ o, Calls Tryz.prog 65 #[.agg #[c.c0, c.c1, c.c2, c.c3, c.c4]] (w.alloc o) fun e w' => ∃ v, e = .returned (.tuple #[v, .int .i64 (if pT t 1 < 0 then 0 else pT t 1)]) ∧ Below w.heap.size w w' := fun o =>
  (sortTree_parts P (w.alloc o) t c (Rep.carry (fun b hb => (hbx o).block b (hP b hb)) (fun _ h => h) _ _ hrep) (fun b hb => Nat.lt_of_lt_of_le (hP b hb) (hbx o).size) (hT.of_block ((hbx o).block 1 hT.lt))).mono
    fun e w' ⟨v, h1, h2⟩ => ⟨v, h1, (hbx o).trans (h2.mono (hbx o).size)⟩
 have hd : decide (0 < pT t 1) = decide (0 < (if pT t 1 < 0 then 0 else pT t 1)) := by
  by_cases h : pT t 1 < 0
  · rw [if_pos h]; simp; omega
  · rw [if_neg h]
 rw [hd]
 generalize (if pT t 1 < 0 then 0 else pT t 1) = r at *
 have HCALL := hH hcall
 clear hbx hcall hP hrep hT hd
 go_enter Tryz.func33, Tryz.ntmps33
 go_wp2_with (go_at_call 65; refine (uh HCALL _).mono ?_; rintro e w2 ⟨v, rfl, hb2⟩)
 go_ret
 exact ⟨rfl, hb2⟩

theorem l1TextOk_any (s : ByteArray) (w : World) (hs : s.size ≤ 9223372036854775807) :
 Calls Tryz.prog 116 #[.string s] w fun e w' => e = .returned (.bool (textOkB s)) ∧ w' = w := by
 by_cases h60 : 60 < s.size
 · go_enter Tryz.func116, Tryz.ntmps116
   go_wp2_with fail
   go_ret
   exact ⟨by simp [textOkB]; omega, rfl⟩
 · go_enter Tryz.func116, Tryz.ntmps116
   go_wp2_with fail
   go_loop [3] (fun i => ∃ k : Nat, k ≤ s.size ∧ i = .int .i64 k ∧ Hid (allTo textByte s k)) (fun i => s.size - (intOf i).toNat)
   case atStart => exact ⟨0, Nat.zero_le _, rfl, fun j hj => by omega⟩
   case round =>
    obtain ⟨k, hk, rfl, HA⟩ := hrel
    by_cases hlt : k < s.size
    · have hc : s[k].toNat < 32 ∨ 126 < s[k].toNat ∨ s[k].toNat = 34 ∨ (32 ≤ s[k].toNat ∧ s[k].toNat ≤ 126 ∧ s[k].toNat ≠ 34) := by omega
      rcases hc with hc | hc | hc | hc
      · go_wp2_with fail
        go_ret
        exact ⟨ret_bool (textOk_not hlt (textByte_no (Or.inl hc))).symm, rfl⟩
      · go_wp2_with fail
        go_ret
        exact ⟨ret_bool (textOk_not hlt (textByte_no (Or.inr (Or.inl hc)))).symm, rfl⟩
      · have HC := hH (textOk_not hlt (textByte_no (Or.inr (Or.inr hc))))
        go_wp2_with fail
        go_ret
        exact ⟨ret_bool (uh HC).symm, rfl⟩
      · have HN := hH (allTo_succ HA.out hlt (textByte_yes hc))
        obtain ⟨hc1, hc2, hc3⟩ := hc
        have hb34 : ((s[k].toNat : Int) == 34) = false := by simp; omega
        go_wp2_with fail
        go_round
        case rel => exact ⟨k + 1, by omega, by go_num, HN⟩
        case measure => simp [intOf]; omega
    · go_wp2_with fail
      go_ret
      obtain rfl : k = s.size := by omega
      exact ⟨ret_bool (textOk_yes (by omega) HA.out).symm, rfl⟩

theorem l1Alone_1 (t : Tr) (P : Nat → Prop) (c : C5) (w : World) (hP : ∀ b, P b → b < w.heap.size) (hrep : Rep P w t c) (hs : t.sort = 1) :
 Calls Tryz.prog 87 #[.agg #[c.c0, c.c1, c.c2, c.c3, c.c4]] w fun e w' => e = .returned (.bool (aloneB t)) ∧ Below w.heap.size w w' := by
 obtain ⟨c0, c1, c2, c3, c4⟩ := c
 obtain ⟨e0, e1, e2, -, -, htx, hns, a, cap, e4, hlen, -⟩ := hrep.open
 simp only at e0 e1 e2 e4 hns
 have HN := hH hns
 obtain ⟨a3, cap3, e3, hl3, -⟩ := hns
 subst e0 e1 e2 e3 e4
 clear hrep
 have HP := hH hP; clear hP
 have hbx : ∀ o, Below w.heap.size w (w.alloc o) := fun o => (Below.refl _ _).alloc (Nat.le_refl _) o
 have HBX := hH hbx; clear hbx
 go_enter Tryz.func87, Tryz.ntmps87
 go_wp2_with (first
  | (go_at_call 22; refine (l6In_any _ _ _ _).mono ?_; rintro e w' ⟨rfl, rfl⟩)
  | (go_at_call 116; refine (l1TextOk_any _ _ htx).mono ?_; rintro e w' ⟨rfl, rfl⟩))
 all_goals
  go_ret
  refine ⟨ret_bool ?_, uh HBX _⟩
  try simp_all [aloneB]
 all_goals first | (rw [Bool.eq_iff_iff]; simp; done) | (intros; omega)
theorem l1Alone_2 (t : Tr) (P : Nat → Prop) (c : C5) (w : World) (hP : ∀ b, P b → b < w.heap.size) (hrep : Rep P w t c) (hs : t.sort = 2) :
 Calls Tryz.prog 87 #[.agg #[c.c0, c.c1, c.c2, c.c3, c.c4]] w fun e w' => e = .returned (.bool (aloneB t)) ∧ Below w.heap.size w w' := by
 obtain ⟨c0, c1, c2, c3, c4⟩ := c
 obtain ⟨e0, e1, e2, -, -, htx, hns, a, cap, e4, hlen, -⟩ := hrep.open
 simp only at e0 e1 e2 e4 hns
 have HN := hH hns
 obtain ⟨a3, cap3, e3, hl3, -⟩ := hns
 subst e0 e1 e2 e3 e4
 clear hrep
 have HP := hH hP; clear hP
 have hbx : ∀ o, Below w.heap.size w (w.alloc o) := fun o => (Below.refl _ _).alloc (Nat.le_refl _) o
 have HBX := hH hbx; clear hbx
 go_enter Tryz.func87, Tryz.ntmps87
 go_wp2_with (first
  | (go_at_call 22; refine (l6In_any _ _ _ _).mono ?_; rintro e w' ⟨rfl, rfl⟩)
  | (go_at_call 116; refine (l1TextOk_any _ _ htx).mono ?_; rintro e w' ⟨rfl, rfl⟩))
 all_goals
  go_ret
  refine ⟨ret_bool ?_, uh HBX _⟩
  try simp_all [aloneB]
 all_goals first | (rw [Bool.eq_iff_iff]; simp; done) | (intros; omega)
theorem l1Alone_3 (t : Tr) (P : Nat → Prop) (c : C5) (w : World) (hP : ∀ b, P b → b < w.heap.size) (hrep : Rep P w t c) (hs : t.sort = 3) :
 Calls Tryz.prog 87 #[.agg #[c.c0, c.c1, c.c2, c.c3, c.c4]] w fun e w' => e = .returned (.bool (aloneB t)) ∧ Below w.heap.size w w' := by
 obtain ⟨c0, c1, c2, c3, c4⟩ := c
 obtain ⟨e0, e1, e2, -, -, htx, hns, a, cap, e4, hlen, -⟩ := hrep.open
 simp only at e0 e1 e2 e4 hns
 have HN := hH hns
 obtain ⟨a3, cap3, e3, hl3, -⟩ := hns
 subst e0 e1 e2 e3 e4
 clear hrep
 have HP := hH hP; clear hP
 have hbx : ∀ o, Below w.heap.size w (w.alloc o) := fun o => (Below.refl _ _).alloc (Nat.le_refl _) o
 have HBX := hH hbx; clear hbx
 go_enter Tryz.func87, Tryz.ntmps87
 go_wp2_with (first
  | (go_at_call 22; refine (l6In_any _ _ _ _).mono ?_; rintro e w' ⟨rfl, rfl⟩)
  | (go_at_call 116; refine (l1TextOk_any _ _ htx).mono ?_; rintro e w' ⟨rfl, rfl⟩))
 all_goals
  go_ret
  refine ⟨ret_bool ?_, uh HBX _⟩
  try simp_all [aloneB]
 all_goals first | (rw [Bool.eq_iff_iff]; simp; done) | (intros; omega)
theorem l1Alone_4 (t : Tr) (P : Nat → Prop) (c : C5) (w : World) (hP : ∀ b, P b → b < w.heap.size) (hrep : Rep P w t c) (hs : t.sort = 4) :
 Calls Tryz.prog 87 #[.agg #[c.c0, c.c1, c.c2, c.c3, c.c4]] w fun e w' => e = .returned (.bool (aloneB t)) ∧ Below w.heap.size w w' := by
 obtain ⟨c0, c1, c2, c3, c4⟩ := c
 obtain ⟨e0, e1, e2, -, -, htx, hns, a, cap, e4, hlen, -⟩ := hrep.open
 simp only at e0 e1 e2 e4 hns
 have HN := hH hns
 obtain ⟨a3, cap3, e3, hl3, -⟩ := hns
 subst e0 e1 e2 e3 e4
 clear hrep
 have HP := hH hP; clear hP
 have hbx : ∀ o, Below w.heap.size w (w.alloc o) := fun o => (Below.refl _ _).alloc (Nat.le_refl _) o
 have HBX := hH hbx; clear hbx
 go_enter Tryz.func87, Tryz.ntmps87
 go_wp2_with (first
  | (go_at_call 22; refine (l6In_any _ _ _ _).mono ?_; rintro e w' ⟨rfl, rfl⟩)
  | (go_at_call 116; refine (l1TextOk_any _ _ htx).mono ?_; rintro e w' ⟨rfl, rfl⟩))
 all_goals
  go_ret
  refine ⟨ret_bool ?_, uh HBX _⟩
  try simp_all [aloneB]
 all_goals first | (rw [Bool.eq_iff_iff]; simp; done) | (intros; omega)
theorem l1Alone_6 (t : Tr) (P : Nat → Prop) (c : C5) (w : World) (hP : ∀ b, P b → b < w.heap.size) (hrep : Rep P w t c) (hs : t.sort = 6) :
 Calls Tryz.prog 87 #[.agg #[c.c0, c.c1, c.c2, c.c3, c.c4]] w fun e w' => e = .returned (.bool (aloneB t)) ∧ Below w.heap.size w w' := by
 obtain ⟨c0, c1, c2, c3, c4⟩ := c
 obtain ⟨e0, e1, e2, -, -, htx, hns, a, cap, e4, hlen, -⟩ := hrep.open
 simp only at e0 e1 e2 e4 hns
 have HN := hH hns
 obtain ⟨a3, cap3, e3, hl3, -⟩ := hns
 subst e0 e1 e2 e3 e4
 clear hrep
 have HP := hH hP; clear hP
 have hbx : ∀ o, Below w.heap.size w (w.alloc o) := fun o => (Below.refl _ _).alloc (Nat.le_refl _) o
 have HBX := hH hbx; clear hbx
 go_enter Tryz.func87, Tryz.ntmps87
 go_wp2_with (first
  | (go_at_call 22; refine (l6In_any _ _ _ _).mono ?_; rintro e w' ⟨rfl, rfl⟩)
  | (go_at_call 116; refine (l1TextOk_any _ _ htx).mono ?_; rintro e w' ⟨rfl, rfl⟩))
 all_goals
  go_ret
  refine ⟨ret_bool ?_, uh HBX _⟩
  try simp_all [aloneB]
 all_goals first | (rw [Bool.eq_iff_iff]; simp; done) | (intros; omega)
theorem l1Alone_0 (t : Tr) (P : Nat → Prop) (c : C5) (w : World) (hP : ∀ b, P b → b < w.heap.size) (hrep : Rep P w t c) (h1 : t.sort ≠ 1) (h2 : t.sort ≠ 2) (h3 : t.sort ≠ 3) (h4 : t.sort ≠ 4) (h5 : t.sort ≠ 5) (h6 : t.sort ≠ 6) :
 Calls Tryz.prog 87 #[.agg #[c.c0, c.c1, c.c2, c.c3, c.c4]] w fun e w' => e = .returned (.bool (aloneB t)) ∧ Below w.heap.size w w' := by
 obtain ⟨c0, c1, c2, c3, c4⟩ := c
 obtain ⟨e0, e1, e2, -, -, htx, hns, a, cap, e4, hlen, -⟩ := hrep.open
 simp only at e0 e1 e2 e4 hns
 have HN := hH hns
 obtain ⟨a3, cap3, e3, hl3, -⟩ := hns
 subst e0 e1 e2 e3 e4
 clear hrep
 have HP := hH hP; clear hP
 have hbx : ∀ o, Below w.heap.size w (w.alloc o) := fun o => (Below.refl _ _).alloc (Nat.le_refl _) o
 have HBX := hH hbx; clear hbx
 go_enter Tryz.func87, Tryz.ntmps87
 go_wp2_with (first
  | (go_at_call 22; refine (l6In_any _ _ _ _).mono ?_; rintro e w' ⟨rfl, rfl⟩)
  | (go_at_call 116; refine (l1TextOk_any _ _ htx).mono ?_; rintro e w' ⟨rfl, rfl⟩))
 all_goals
  go_ret
  refine ⟨ret_bool ?_, uh HBX _⟩
  try simp_all [aloneB]
 all_goals first | (rw [Bool.eq_iff_iff]; simp; done) | (intros; omega)
theorem l1Alone_5 (t : Tr) (P : Nat → Prop) (c : C5) (w : World) (hP : ∀ b, P b → b < w.heap.size) (hrep : Rep P w t c) (hs : t.sort = 5) :
 Calls Tryz.prog 87 #[.agg #[c.c0, c.c1, c.c2, c.c3, c.c4]] w fun e w' => e = .returned (.bool (aloneB t)) ∧ Below w.heap.size w w' := by
 obtain ⟨c0, c1, c2, c3, c4⟩ := c
 obtain ⟨e0, e1, e2, -, -, htx, hns, a, cap, e4, hlen, -⟩ := hrep.open
 simp only at e0 e1 e2 e4 hns
 have HN := hH hns
 obtain ⟨a3, cap3, e3, hl3, -⟩ := hns
 subst e0 e1 e2 e3 e4
 clear hrep
 have HP := hH hP; clear hP
 have hbx : ∀ o, Below w.heap.size w (w.alloc o) := fun o => (Below.refl _ _).alloc (Nat.le_refl _) o
 have HBX := hH hbx; clear hbx
 have hcall : ∀ o, Calls Tryz.prog 117 #[.slice a3 t.names.length cap3] (w.alloc o) fun e w' => e = .returned (.bool (riseB t.names)) ∧ Below w.heap.size w w' := fun o =>
  (l1Rise_any _ t.names (w.alloc o) (P := P) (fun b hb => Nat.lt_of_lt_of_le (uh HP b hb) (uh HBX o).size) ((uh HN).carry (fun b hb => (uh HBX o).block b (uh HP b hb)) (fun _ h => h))).mono
    fun e w' ⟨h1, h2⟩ => ⟨h1, (uh HBX o).trans (h2.mono (uh HBX o).size)⟩
 have HC := hH hcall; clear hcall
 go_enter Tryz.func87, Tryz.ntmps87
 go_wp2_with (go_at_call 117; refine (uh HC _).mono ?_; rintro e w' ⟨rfl, hb'⟩)
 all_goals
  go_ret
  refine ⟨ret_bool ?_, by first | assumption | exact uh HBX _⟩
  try simp_all [aloneB]
 all_goals first | (rw [Bool.eq_iff_iff]; simp; done) | (intros; omega)
theorem l1Alone_any (t : Tr) (P : Nat → Prop) (c : C5) (w : World) (hP : ∀ b, P b → b < w.heap.size) (hrep : Rep P w t c) :
 Calls Tryz.prog 87 #[.agg #[c.c0, c.c1, c.c2, c.c3, c.c4]] w fun e w' => e = .returned (.bool (aloneB t)) ∧ Below w.heap.size w w' := by
 by_cases h1 : t.sort = 1
 · exact l1Alone_1 t P c w hP hrep h1
 by_cases h2 : t.sort = 2
 · exact l1Alone_2 t P c w hP hrep h2
 by_cases h3 : t.sort = 3
 · exact l1Alone_3 t P c w hP hrep h3
 by_cases h4 : t.sort = 4
 · exact l1Alone_4 t P c w hP hrep h4
 by_cases h5 : t.sort = 5
 · exact l1Alone_5 t P c w hP hrep h5
 by_cases h6 : t.sort = 6
 · exact l1Alone_6 t P c w hP hrep h6
 exact l1Alone_0 t P c w hP hrep h1 h2 h3 h4 h5 h6

def PartsSaid (n : Nat) : Prop := ∀ (t : Tr), tsz t < n → ∀ (P : Nat → Prop) (c : C5) (d : Int) (w : World), (∀ b, P b → b < w.heap.size) → Rep P w t c → 1 ≤ d → d ≤ 7 →
    Calls Tryz.prog 58 #[.agg #[c.c0, c.c1, c.c2, c.c3, c.c4], .int .i64 d] w fun e w' => e = .returned (.int .i64 (pT t d)) ∧ Below w.heap.size w w'
theorem l1Parts_step (n : Nat) (IH : PartsSaid n) : PartsSaid (n + 1) := by
 intro t hn P c d w hP hrep hd0 hd1
 have HREP := hH hrep
 have HEQ := hH (pT_eq t d)
 obtain ⟨c0, c1, c2, c3, c4⟩ := c
 obtain ⟨e0, e1, e2, -, -, -, ⟨a3, cap3, e3, -, -⟩, a, cap, e4, hlen, hks⟩ := hrep.open
 simp only at e0 e1 e2 e3 e4
 subst e0 e1 e2 e3 e4
 have HP := hH hP; have HI := hH IH; have HK := hH hks
 clear hrep hP IH hks
 have hbx : ∀ o, Below w.heap.size w (w.alloc o) := fun o => (Below.refl _ _).alloc (Nat.le_refl _) o
 have HBX := hH hbx; clear hbx
 by_cases h6 : 6 < d
 · go_enter Tryz.func58, Tryz.ntmps58
   go_wp2_with fail
   go_ret
   refine ⟨?_, uh HBX _⟩
   rw [uh HEQ, if_pos (Or.inl h6)]
   rfl
 · have hal : ∀ o, Calls Tryz.prog 87 #[.agg #[.int .i64 t.sort, .int .i64 t.num, .string t.text, .slice a3 t.names.length cap3, .slice a t.kids.length cap]] (w.alloc o) fun e w' => e = .returned (.bool (aloneB t)) ∧ Below (w.alloc o).heap.size (w.alloc o) w' := fun o =>
    l1Alone_any t P ⟨_, _, _, _, _⟩ (w.alloc o) (fun b hb => Nat.lt_of_lt_of_le (uh HP b hb) (uh HBX o).size) (Rep.carry (fun b hb => (uh HBX o).block b (uh HP b hb)) (fun _ h => h) _ _ (uh HREP))
   have HAL := hH hal; clear hal
   by_cases ha : aloneB t = true
   · go_enter Tryz.func58, Tryz.ntmps58
     go_wp2_with (go_at_call 87; refine (uh HAL _).mono ?_; rintro e w' ⟨rfl, hb'⟩)
     obtain ⟨q0, -, hb0⟩ := box1 hb'
     have hpk : pT t d = pK t.kids d 1 := by rw [uh HEQ, if_neg (by simp [ha]; omega)]
     have HPK := hH hpk
     clear hb' hpk HEQ HAL
     generalize hks : t.kids = ks at *
     have HKS := hH hks; clear hks
     go_loopw [5, 6] (fun m i wr => ∃ (k : Nat) (q : Int), k ≤ ks.length ∧ i = .int .i64 k ∧ m = .int .i64 q ∧ 1 ≤ q ∧ q ≤ 120 ∧ Hid (pK (ks.drop k) d q = pK ks d 1) ∧ wr.cell? ⟨w.heap.size, 4, none⟩ = some (.slice a ks.length cap) ∧ w.heap.size < wr.heap.size ∧ Below w.heap.size w wr) (fun _ i _ => ks.length - (intOf i).toNat)
     case atStart => exact ⟨0, 1, Nat.zero_le _, rfl, rfl, by omega, by omega, rfl, q0.cell (i := 4) (by omega), q0.lt, hb0⟩
     case round =>
      obtain ⟨k, q, hk, rfl, rfl, hq0, hq1, HQ, hbox, hbs, hb⟩ := hrel
      by_cases hlt : k < ks.length
      · obtain ⟨b, o, c, rfl, hpb, hcell, hrep⟩ := uh HK k hlt
        have hcell' := hcell.carry (hb.block b (uh HP b hpb))
        obtain ⟨c0, c1, c2, c3, c4⟩ := c
        obtain ⟨e0, e1, e2, e3, e4⟩ := hcell'
        simp only at e0 e1 e2 e3 e4
        have hmem : ks[k] ∈ t.kids := by rw [uh HKS]; exact List.getElem_mem hlt
        have hsm : tsz ks[k] < n := by have := tsz_kid hmem; omega
        have hcall := uh HI ks[k] hsm P ⟨c0, c1, c2, c3, c4⟩ (d + 1) wr (fun b hb' => Nat.lt_of_lt_of_le (uh HP b hb') hb.size) (Rep.carry (fun b hb' => hb.block b (uh HP b hb')) (fun _ h => h) _ _ hrep) (by omega) (by omega)
        have hst := pK_step hlt d q
        have hbd := pT_bd ks[k] (d + 1)
        generalize pT ks[k] (d + 1) = r at hcall hst hbd
        have HCALL := hH hcall; have HST := hH hst
        clear hrep hcell hpb hmem hcall hst
        by_cases hbad : r < 0 ∨ 120 < q + r
        · have hfin : pT t d = -1 := by rw [uh HPK, ← HQ.out, uh HST, if_pos hbad]
          have HFIN := hH hfin; clear hfin
          rcases hbad with hbad | hbad
          · go_wp2_with (go_at_call 58; refine (uh HCALL).mono ?_; rintro e w2 ⟨rfl, hb2⟩)
            go_ret
            exact ⟨by rw [uh HFIN]; rfl, hb.trans (hb2.mono hb.size)⟩
          · have hr0 : 0 ≤ r := by omega
            go_wp2_with (go_at_call 58; refine (uh HCALL).mono ?_; rintro e w2 ⟨rfl, hb2⟩)
            go_ret
            exact ⟨by rw [uh HFIN]; rfl, hb.trans (hb2.mono hb.size)⟩
        · have hr0 : 0 ≤ r := by omega
          have hr1 : q + r ≤ 120 := by omega
          have hfin : pK (ks.drop (k + 1)) d (q + r) = pK ks d 1 := by rw [← HQ.out, uh HST, if_neg hbad]
          have HFIN := hH hfin
          clear hfin hbad
          go_wp2_with (go_at_call 58; refine (uh HCALL).mono ?_; rintro e w2 ⟨rfl, hb2⟩)
          go_roundw
          case rel => exact ⟨k + 1, _, by omega, by go_num, rfl, by omega, by omega, uh HFIN, by rw [hb2.cell hbs]; exact hbox, Nat.lt_of_lt_of_le hbs hb2.size, hb.trans (hb2.mono hb.size)⟩
          case measure => simp [intOf]; omega
      · go_wp2_with fail
        go_ret
        refine ⟨?_, hb⟩
        rw [uh HPK, ← HQ.out, List.drop_of_length_le (by omega), pK]
        rfl
   · have ha' : aloneB t = false := by simpa using ha
     clear ha
     go_enter Tryz.func58, Tryz.ntmps58
     go_wp2_with (go_at_call 87; refine (uh HAL _).mono ?_; rintro e w' ⟨rfl, hb'⟩)
     go_ret
     refine ⟨?_, (box1 hb').2.2⟩
     rw [uh HEQ, if_pos (Or.inr ha')]
     rfl
theorem l1Parts_all : ∀ n, PartsSaid n
 | 0 => fun t h => by omega
 | n + 1 => l1Parts_step n (l1Parts_all n)
theorem specTreeOk_any (t : Tr) (P : Nat → Prop) (c : C5) (w : World) (hP : ∀ b, P b → b < w.heap.size) (hrep : Rep P w t c) :
 Calls Tryz.prog 23 #[.agg #[c.c0, c.c1, c.c2, c.c3, c.c4]] w fun e w' => e = .returned (.bool (decide (0 < pT t 1))) ∧ Below w.heap.size w w' := by
 have hbx : ∀ o, Below w.heap.size w (w.alloc o) := fun o => (Below.refl _ _).alloc (Nat.le_refl _) o
 have hcall : ∀ o, Calls Tryz.prog 58 #[.agg #[c.c0, c.c1, c.c2, c.c3, c.c4], .int .i64 1] (w.alloc o) fun e w' => e = .returned (.int .i64 (pT t 1)) ∧ Below w.heap.size w w' := fun o =>
  (l1Parts_all (tsz t + 1) t (by omega) P c 1 (w.alloc o) (fun b hb => Nat.lt_of_lt_of_le (hP b hb) (hbx o).size) (Rep.carry (fun b hb => (hbx o).block b (hP b hb)) (fun _ h => h) _ _ hrep) (by omega) (by omega)).mono
    fun e w' ⟨h1, h2⟩ => ⟨h1, (hbx o).trans (h2.mono (hbx o).size)⟩
 generalize pT t 1 = r at *
 have HCALL := hH hcall
 clear hbx hcall hP hrep
 go_enter Tryz.func23, Tryz.ntmps23
 go_wp2_with (go_at_call 58; refine (uh HCALL _).mono ?_; rintro e w2 ⟨rfl, hb2⟩)
 go_ret
 exact ⟨rfl, hb2⟩

def evOkB (ty : ByteArray) (ver : Int) (t : Tr) : Bool := nameOkB ty && decide (1 ≤ ver ∧ ver ≤ 12) && decide (t.sort = 5) && decide (0 < pT t 1)
theorem specEventOk_any (ty : ByteArray) (ver : Int) (t : Tr) (P : Nat → Prop) (c : C5) (w : World) (hP : ∀ b, P b → b < w.heap.size) (hrep : Rep P w t c) (hty : ty.size ≤ 9223372036854775807) (_hver : I64 ver) :
 Calls Tryz.prog 6 #[.agg #[.string ty, .int .i64 ver, c.c0, c.c1, c.c2, c.c3, c.c4]] w fun e w' => e = .returned (.bool (evOkB ty ver t)) ∧ Below w.heap.size w w' := by
 obtain ⟨c0, c1, c2, c3, c4⟩ := c
 have hbx : ∀ o, Below w.heap.size w (w.alloc o) := fun o => (Below.refl _ _).alloc (Nat.le_refl _) o
 have hn := fun W => l6NameOk_any ty W hty
 have hin := fun W => l6In_any ver 1 12 W
 have hok := fun (W : World) (hW : Below w.heap.size w W) => specTreeOk_any t P ⟨c0, c1, c2, c3, c4⟩ W (fun b hb => Nat.lt_of_lt_of_le (hP b hb) hW.size) (Rep.carry (fun b hb => hW.block b (hP b hb)) (fun _ h => h) _ _ hrep)
 obtain ⟨e0, -, -, his, -⟩ := hrep.open
 simp only at e0
 subst e0
 have HV := hH (show evOkB ty ver t = (nameOkB ty && decide (1 ≤ ver ∧ ver ≤ 12) && decide (t.sort = 5) && decide (0 < pT t 1)) from rfl)
 generalize evOkB ty ver t = res at *
 generalize nameOkB ty = b1 at *
 generalize decide (1 ≤ ver ∧ ver ≤ 12) = b2 at *
 generalize decide (0 < pT t 1) = b4 at *
 have HN := hH hn; have HIN := hH hin; have HOK := hH hok; have HBX := hH hbx
 clear hn hin hok hbx hP hrep
 generalize t.sort = srt at *
 cases b1 with
 | false =>
   go_enter Tryz.func6, Tryz.ntmps6
   go_wp2_with (go_at_call 21; refine (uh HN _).mono ?_; rintro e w' ⟨rfl, rfl⟩)
   go_ret
   exact ⟨by rw [uh HV]; simp, uh HBX _⟩
 | true =>
   cases b2 with
   | false =>
     go_enter Tryz.func6, Tryz.ntmps6
     go_wp2_with (first
      | (go_at_call 21; refine (uh HN _).mono ?_; rintro e w' ⟨rfl, rfl⟩)
      | (go_at_call 22; refine (uh HIN _).mono ?_; rintro e w' ⟨rfl, rfl⟩))
     go_ret
     exact ⟨by rw [uh HV]; simp, uh HBX _⟩
   | true =>
     by_cases h5 : srt = 5
     · subst h5
       go_enter Tryz.func6, Tryz.ntmps6
       go_wp2_with (first
        | (go_at_call 21; refine (uh HN _).mono ?_; rintro e w' ⟨rfl, rfl⟩)
        | (go_at_call 22; refine (uh HIN _).mono ?_; rintro e w' ⟨rfl, rfl⟩)
        | (go_at_call 23; refine (uh HOK _ (uh HBX _)).mono ?_; rintro e w' ⟨rfl, hb⟩))
       go_ret
       exact ⟨by rw [uh HV]; simp, (uh HBX _).trans (hb.mono (uh HBX _).size)⟩
     · have h5' : (srt == 5) = false := by simpa using h5
       have HS := hH h5
       clear h5
       go_enter Tryz.func6, Tryz.ntmps6
       go_wp2_with (first
        | (go_at_call 21; refine (uh HN _).mono ?_; rintro e w' ⟨rfl, rfl⟩)
        | (go_at_call 22; refine (uh HIN _).mono ?_; rintro e w' ⟨rfl, rfl⟩))
       go_ret
       exact ⟨by rw [uh HV]; simp [uh HS], uh HBX _⟩
theorem implEventOk_any (ty : ByteArray) (ver : Int) (t : Tr) (P : Nat → Prop) (c : C5) (w : World) (hP : ∀ b, P b → b < w.heap.size) (hrep : Rep P w t c) (hty : ty.size ≤ 9223372036854775807) (_hver : I64 ver) (hT : Tab w) :
 Calls Tryz.prog 10 #[.agg #[.string ty, .int .i64 ver, c.c0, c.c1, c.c2, c.c3, c.c4]] w fun e w' => e = .returned (.bool (evOkB ty ver t)) ∧ Below w.heap.size w w' := by
 obtain ⟨c0, c1, c2, c3, c4⟩ := c
 have hbx : ∀ o, Below w.heap.size w (w.alloc o) := fun o => (Below.refl _ _).alloc (Nat.le_refl _) o
 have hn := fun W => nameOk_any ty W hty
 have hok := fun (W : World) (hW : Below w.heap.size w W) => implTreeOk_any t P ⟨c0, c1, c2, c3, c4⟩ W (fun b hb => Nat.lt_of_lt_of_le (hP b hb) hW.size) (Rep.carry (fun b hb => hW.block b (hP b hb)) (fun _ h => h) _ _ hrep) (hT.of_block (hW.block 1 hT.lt))
 obtain ⟨e0, -, -, his, -⟩ := hrep.open
 simp only at e0
 subst e0
 have HV := hH (show evOkB ty ver t = (nameOkB ty && decide (1 ≤ ver ∧ ver ≤ 12) && decide (t.sort = 5) && decide (0 < pT t 1)) from rfl)
 generalize evOkB ty ver t = res at *
 generalize nameOkB ty = b1 at *
 generalize decide (0 < pT t 1) = b4 at *
 have HN := hH hn; have HOK := hH hok; have HBX := hH hbx
 clear hn hok hbx hP hrep hT
 generalize t.sort = srt at *
 cases b1 with
 | false =>
   go_enter Tryz.func10, Tryz.ntmps10
   go_wp2_with (go_at_call 32; refine (uh HN _).mono ?_; rintro e w' ⟨rfl, rfl⟩)
   go_ret
   exact ⟨by rw [uh HV]; simp, uh HBX _⟩
 | true =>
   by_cases h1 : 1 ≤ ver
   · by_cases h2 : ver ≤ 12
     · by_cases h5 : srt = 5
       · subst h5
         go_enter Tryz.func10, Tryz.ntmps10
         go_wp2_with (first
          | (go_at_call 32; refine (uh HN _).mono ?_; rintro e w' ⟨rfl, rfl⟩)
          | (go_at_call 33; refine (uh HOK _ (uh HBX _)).mono ?_; rintro e w' ⟨rfl, hb⟩))
         go_ret
         exact ⟨by rw [uh HV]; simp [h1, h2], (uh HBX _).trans (hb.mono (uh HBX _).size)⟩
       · have h5' : (srt == 5) = false := by simpa using h5
         have HS := hH h5
         clear h5
         go_enter Tryz.func10, Tryz.ntmps10
         go_wp2_with (go_at_call 32; refine (uh HN _).mono ?_; rintro e w' ⟨rfl, rfl⟩)
         go_ret
         exact ⟨by rw [uh HV]; simp [uh HS], uh HBX _⟩
     · go_enter Tryz.func10, Tryz.ntmps10
       go_wp2_with (go_at_call 32; refine (uh HN _).mono ?_; rintro e w' ⟨rfl, rfl⟩)
       go_ret
       exact ⟨by rw [uh HV]; simp; intros; omega, uh HBX _⟩
   · go_enter Tryz.func10, Tryz.ntmps10
     go_wp2_with (go_at_call 32; refine (uh HN _).mono ?_; rintro e w' ⟨rfl, rfl⟩)
     go_ret
     exact ⟨by rw [uh HV]; simp; intros; omega, uh HBX _⟩

theorem l4Tree_all : ∀ n, TrSaid n
 | 0 => fun t h => by omega
 | n + 1 => l4Tree_step n (l4Tree_all n)
def packB (ty : ByteArray) (ver : Int) (t : Tr) : List UInt8 := if evOkB ty ver t then eventB ty ver t else []
theorem evOk_parts {ty : ByteArray} {ver : Int} {t : Tr} (h : evOkB ty ver t = true) : 1 ≤ ty.size ∧ ty.size ≤ 8 ∧ 1 ≤ ver ∧ ver ≤ 12 ∧ t.sort = 5 ∧ 0 < pT t 1 := by
 unfold evOkB nameOkB at h
 simp at h
 omega
theorem ByRow.empty {w : World} {g base : Nat} {f : Nat → Value} (h : w.rowIs g 5 0 f) (hb : base ≤ g) : ByRow base w (.slice (some ⟨g, 0, none⟩) 0 0) [] := by
 obtain ⟨c, h1, h2, -⟩ := h
 exact ⟨rfl, Or.inr ⟨g, 0, c, rfl, hb, h1, Nat.le_refl _, by decide, h2, by simp [bc]⟩⟩
theorem specEventPack_any (ty : ByteArray) (ver : Int) (t : Tr) (P : Nat → Prop) (c : C5) (w : World) (hP : ∀ b, P b → b < w.heap.size) (hrep : Rep P w t c) (hty : ty.size ≤ 9223372036854775807) (hver : I64 ver) :
 Calls Tryz.prog 7 #[.agg #[.string ty, .int .i64 ver, c.c0, c.c1, c.c2, c.c3, c.c4]] w fun e w' => ByNew w w' e (packB ty ver t) := by
 obtain ⟨c0, c1, c2, c3, c4⟩ := c
 have hbx : ∀ (W : World) o, Below W.heap.size W (W.alloc o) := fun W o => (Below.refl _ _).alloc (Nat.le_refl _) o
 have hok := fun (W : World) (hW : Below w.heap.size w W) => specEventOk_any ty ver t P ⟨c0, c1, c2, c3, c4⟩ W (fun b hb => Nat.lt_of_lt_of_le (hP b hb) hW.size) (Rep.carry (fun b hb => hW.block b (hP b hb)) (fun _ h => h) _ _ hrep) hty hver
 have HOK := hH hok; have HBX := hH hbx
 clear hok hbx
 by_cases h : evOkB ty ver t = true
 · obtain ⟨-, h8, hv1, hv12, -, hpt⟩ := evOk_parts h
   have HE : Hid (packB ty ver t = (shortB ty ++ [UInt8.ofNat ver.toNat]) ++ treeB t) := by show packB ty ver t = _; rw [packB, if_pos h]; rfl
   have hlen : ((shortB ty ++ [UInt8.ofNat ver.toNat]) ++ treeB t).length ≤ 9000 := eventB_len h8 hpt
   have HLEN := hH hlen
   have HSH := hH (fun W => l4Short_any ty W (by omega))
   have HTR := hH (fun (W : World) (hW : Below w.heap.size w W) => l4Tree_all (tsz t + 1) t (by omega) P ⟨c0, c1, c2, c3, c4⟩ 1 W (fun b hb => Nat.lt_of_lt_of_le (hP b hb) hW.size) (Rep.carry (fun b hb => hW.block b (hP b hb)) (fun _ h => h) _ _ hrep) hpt)
   rw [h] at HOK
   have HK := hH (bcI ver (by omega) (by omega))
   have hwrap : IntKind.u8.wrap ver = ver := wraps_u8 ver (by omega) (by omega)
   have hsl := shortB_len ty
   have HSL := hH hsl
   clear h hpt hlen hsl hP hrep hver
   go_enter Tryz.func7, Tryz.ntmps7
   go_wp2_with fail
   refine (uh HOK _ (uh HBX _ _)).mono ?_
   rintro e w1 ⟨rfl, hb1⟩
   obtain ⟨q1, hs1, hb01⟩ := ebox1 hb1
   have hbo : Below (w.heap.size + 1) (w.alloc (.cells #[.string ty, .int .i64 ver, c0, c1, c2, c3, c4] 28)) w1 := by have := hb1; rw [World.size_alloc] at this; exact this
   obtain ⟨k0, k1⟩ := cs2 q1 (by omega)
   simp only [row7] at k0 k1
   have k0a : ∀ ob, (w1.alloc ob).cell? ⟨w.heap.size, 0, none⟩ = some (.string ty) := fun ob => (q1.alloc ob).cell (i := 0) (by omega)
   have Q1 := hH q1; have HB1 := hH hb01; have HBO := hH hbo
   clear q1 hb1 hb01 hbo
   go_upto_region 3 with fail
   go_cut [3] from 8 (fun s3 wx => ∃ a3 n3 cap3, s3 = .slice a3 n3 cap3 ∧ Hid (TAt w (.cells #[.string ty, .int .i64 ver, c0, c1, c2, c3, c4] 28) wx (.slice a3 n3 cap3) n3 (shortB ty ++ [UInt8.ofNat ver.toNat])))
   case first =>
    go_region_law (first
     | (rw [if_pos (by first | rfl | simp [Region.wanted])]; go_simp; refine (uh HSH w1.drew).mono ?_
        rintro e w2 ⟨a2, n2, cap2, rfl, hn2, hr2, hb2⟩
        have hb12 : Below w1.heap.size w1 w2 := (Below.refl _ w1).drew.trans hb2
        have k1' := ((uh Q1).of_block (hb12.block w.heap.size (by omega))).cell (i := 1) (by omega)
        simp only [row7] at k1'
        have HR2 := hH ((ByRow.base (base' := w.heap.size + 1) hr2 hs1))
        have HN2 := hH hn2
        have HB12 := hH hb12
        clear hr2 hn2 hb12 hb2)
     | (rw [if_pos (by first | rfl | simp [Region.wanted])]; go_simp; refine (uh HSH (w1.alloc (.cells #[.int .u8 ver] 5)).drew).mono ?_
        rintro e w2 ⟨a2, n2, cap2, rfl, hn2, hr2, hb2⟩
        have hz : (w1.alloc (.cells #[.int .u8 ver] 5)).drew.heap.size = w1.heap.size + 1 := World.size_alloc _ _
        have hb12 : Below w1.heap.size w1 w2 := ((Below.refl _ w1).alloc (Nat.le_refl _) (.cells #[.int .u8 ver] 5)).drew.trans (hb2.mono (by omega))
        have HCB : Hid (∀ j u, (bc [UInt8.ofNat ver.toNat])[j]? = some u → w2.cell? ((⟨w1.heap.size, 0, none⟩ : Addr).add j) = some u) := fun j u hj => by
         rw [uh HK] at hj
         have h1 := cell_one w1 _ 5 j u hj
         rw [Addr.add_lit] at h1 ⊢
         rw [World.cell?_of_block (w := w1.alloc (.cells #[.int .u8 ver] 5)) (hb2.block w1.heap.size (by omega))]
         exact h1
        have HR2B := hH ((ByRow.base (base' := w.heap.size + 1) hr2 (by omega)))
        have HN2 := hH hn2
        have HB12 := hH hb12
        clear hr2 hn2 hb12 hb2 hz)
     | (refine step_append_bytes _ (by rfl) _ _ (by rfl) (w.heap.size + 1) (.slice a2 n2 cap2) (shortB ty) [UInt8.ofNat ver.toNat] (by rfl) (World.ownsRow.alloc (uh HR2) _) ⟨w2.heap.size, 0, none⟩ 1 1 (by rfl) (by rfl) (by decide) (by rw [uh HK]; exact cell_one _ _ _) (by rw [uh HSL]; simp; omega) (by have := (uh HB12).size; simp; omega) ?_
        intro a3 n3 cap3 w3 HN3 HR3 HG3
        have HT3 : Hid (TAt w (.cells #[.string ty, .int .i64 ver, c0, c1, c2, c3, c4] 28) w3 (.slice a3 n3 cap3) n3 (shortB ty ++ [UInt8.ofNat ver.toNat])) := ⟨HR3.out, (uh HBO).trans (((uh HB12).mono hs1).trans (((Below.refl _ w2).alloc (by have := (uh HB12).size; omega) _).trans (ByRow.below (World.ownsRow.alloc (uh HR2) _) HG3.out (by have := (uh HB12).size; simp; omega)))), HN3.out⟩
        clear HR3 HN3 HG3)
     | (refine step_append_bytes _ (by rfl) _ _ (by rfl) (w.heap.size + 1) (.slice a2 n2 cap2) (shortB ty) [UInt8.ofNat ver.toNat] (by rfl) (uh HR2B) ⟨w1.heap.size, 0, none⟩ 1 1 (by rfl) (by rfl) (by decide) (uh HCB) (by rw [uh HSL]; simp; omega) (by have := (uh HB12).size; omega) ?_
        intro a3 n3 cap3 w3 HN3 HR3 HG3
        have HT3 : Hid (TAt w (.cells #[.string ty, .int .i64 ver, c0, c1, c2, c3, c4] 28) w3 (.slice a3 n3 cap3) n3 (shortB ty ++ [UInt8.ofNat ver.toNat])) := ⟨HR3.out, (uh HBO).trans (((uh HB12).mono hs1).trans (ByRow.below (uh HR2B) HG3.out (by have := (uh HB12).size; omega))), HN3.out⟩
        clear HR3 HN3 HG3))
    all_goals
     go_wp2_with fail
     go_meet
     exact ⟨a3, n3, cap3, rfl, HT3⟩
   case rest =>
    obtain ⟨a3, n3, cap3, rfl, HT3⟩ := hcut
    have qc := (row7_alloc w (.string ty) (.int .i64 ver) c0 c1 c2 c3 c4 28).of_block (HT3.out.below.block _ (by omega))
    clear k0 k1 k0a
    have k2 := qc.cell (i := 2) (by omega); have k3 := qc.cell (i := 3) (by omega); have k4 := qc.cell (i := 4) (by omega); have k5 := qc.cell (i := 5) (by omega); have k6 := qc.cell (i := 6) (by omega)
    simp only [row7] at k2 k3 k4 k5 k6
    clear qc
    go_wp2_with fail
    refine (uh HTR _ HT3.out.old).mono ?_
    intro e w6 hnew6
    obtain ⟨g6, n6, cap6, rfl, hn6, hc6, hb6⟩ := hnew6.form (by rw [treeB_eq]; simp)
    have HC6 := hH hc6; have HB6 := hH hb6; have HN6 := hH hn6; have HBS := hH (Nat.le_trans HT3.out.size hb6.size)
    clear hnew6 hc6 hb6 hn6 k2 k3 k4 k5 k6
    go_wp2_with (at_builtin; refine append_bytes _ rfl _ _ rfl (w.heap.size + 1) (.slice a3 n3 cap3) (shortB ty ++ [UInt8.ofNat ver.toNat]) (treeB t) rfl (HT3.out.row.stay (uh HB6)) ⟨g6, 0, none⟩ n6 cap6 rfl (uh HN6) (uh HC6) (by have := uh HLEN; rw [List.length_append] at this; omega) (uh HBS) ?_; intro a7 n7 cap7 w7 HN7 HR7 HG7)
    have hst7 := HT3.out.app (uh HB6) HN7.out HR7.out HG7.out
    rw [← HE.out] at hst7
    have HST7 := hH hst7
    clear hst7 HN7 HR7 HG7 HB6 HN6 HC6 HBS
    go_ret
    exact (uh HST7).end
 · have HE : Hid (packB ty ver t = []) := by show packB ty ver t = _; rw [packB, if_neg h]
   have hf : evOkB ty ver t = false := by simpa using h
   rw [hf] at HOK
   clear h hf hP hrep hver
   go_enter Tryz.func7, Tryz.ntmps7
   go_wp2_with fail
   refine (uh HOK _ (uh HBX _ _)).mono ?_
   rintro e w1 ⟨rfl, hb1⟩
   obtain ⟨-, -, hb01⟩ := ebox1 hb1
   have HB1 := hH hb01
   clear hb1 hb01
   go_wp2_with fail
   go_ret
   refine ⟨_, _, _, rfl, by rw [HE.out]; rfl, by rw [HE.out]; exact ByRow.empty (f := fun _ => .int .u8 0) (World.rowIs_alloc w1 #[] 5 _ (fun i hi => by have hi' : i < 0 := hi; omega)) (uh HB1).size, (uh HB1).alloc (uh HB1).size _⟩

theorem ByRow.at {base : Nat} {w : World} {v : Value} {l : List UInt8} (h : ByRow base w v l) : BytesAt w v l := by
 have h0 := h
 rcases h.2 with ⟨hv, hn⟩ | ⟨g, cap, cur, hv, hb, hg, hnc, hcm, -, -⟩
 · exact ⟨none, 0, by rw [hv, hn], by omega, fun i hi => by omega⟩
 · refine ⟨_, cap, hv, by unfold maxLen at hcm; omega, fun i hi => ?_⟩
   obtain ⟨g', cap', hv', -, hlt, hc⟩ := h0.form (by omega)
   rw [hv] at hv'
   simp only [Value.slice.injEq, Option.some.injEq, Addr.mk.injEq, and_true] at hv'
   obtain ⟨rfl, -⟩ := hv'
   refine ⟨g, 0, rfl, hlt, ?_⟩
   have := hc i (.int .u8 l[i].toNat) (by simp [bc, hi])
   rw [Addr.add_lit] at this
   exact this
theorem ByRow.set {base : Nat} {w : World} {g n cap : Nat} {l : List UInt8} (h : ByRow base w (.slice (some ⟨g, 0, none⟩) n cap) l) (j : Nat) (x : UInt8) : ByRow base (w.setCell ⟨g, j, none⟩ (.int .u8 x.toNat)) (.slice (some ⟨g, 0, none⟩) n cap) (l.set j x) := by
 rcases h.2 with ⟨hv, _⟩ | ⟨g', cap', cur, hv, hb, hg, hnc, hcm, hcs, htk⟩
 · simp at hv
 · simp only [Value.slice.injEq, Option.some.injEq, Addr.mk.injEq, and_true] at hv
   obtain ⟨rfl, rfl, rfl⟩ := hv
   refine ⟨by rw [bc_len, Nat.mul_one], Or.inr ⟨g, cap, cur.setIfInBounds j (.int .u8 x.toNat), by rw [List.length_set], hb, ?_, by rw [List.length_set]; exact hnc, hcm, by rw [Array.size_setIfInBounds]; exact hcs, ?_⟩⟩
   · simp [World.setCell, Array.getElem?_modify, hg]
   · rw [List.length_set, Array.toList_setIfInBounds, List.take_set, htk]
     simp [bc, List.map_set]
end Go.Proofs.YtbkagahmiibclaaGreatDoor
