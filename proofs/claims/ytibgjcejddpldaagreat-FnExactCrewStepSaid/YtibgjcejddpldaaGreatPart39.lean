/- A part. -/
import Derived.Test.YtibgjcejddpldaaGreatPart38
namespace Go.Proofs.YtibgjcejddpldaaGreat
open Go Go.RowKit
set_option maxRecDepth 100000
set_option maxHeartbeats 6400000
theorem doKeep_stop (x : Cw) (R : R7) (lo : Nat) (w : World) (hR : Rw7 w lo x R) : Calls Tryz.prog 41 #[.agg (lV x (R.v x)).toArray, .int .i64 1] w fun e w' => SpEnd w w' e (stK x 1) R lo := by
 obtain ⟨dd, hdu, hdr⟩ := rowWorld
 have HLB := xH (fun y (hy : y ∈ R.bl) => (hR.lt y hy).1)
 have HLT := xH (fun y (hy : y ∈ R.bl) => (hR.lt y hy).2)
 have HLO := xH (show lo ≤ w.heap.size from by have := hR.lt R.q (by simp [R7.bl]); omega)
 obtain ⟨hx0, hr0, hs0⟩ := so_pre hR
 have HX0 := xH hx0; have HR0 := xH hr0; have HS0 := xH hs0
 clear hR hx0 hr0 hs0 
 go_enter Tryz.func41, Tryz.ntmps41
 go_upto_region 4 with fail
 generalize (w.alloc _).alloc _ = W0 at HS0 HX0 HR0 ⊢
 go_upto_region 5 with (fail)
 have ko : W0.cell? ⟨w.heap.size, 9, none⟩ = some (.int .i64 x.keeper) := (xU HS0).box.cell (i := 9) (by omega)
 have fo := (xU HS0).box.frozen 9
 have HS1 := xH (show Sb (W0.setCell ⟨w.heap.size, 9, none⟩ (.int .i64 4)) w.heap.size (w.heap.size + 1) { x with keeper := 4 } (R.v x) (R.b) from (xU HS0).put 9 (by omega) (.int .i64 4) rfl rfl rfl rfl rfl rfl rfl rfl)
 have HX1 := xH ((xU HX0).newSet (Nat.le_refl _) 9 (.int .i64 4))
 have HR1 := xH ((xU HR0).keep (fun y hy => Below.heap_setCell W0 ⟨w.heap.size, 9, none⟩ (.int .i64 4) y (by have := xU HLT y hy; show y ≠ w.heap.size; omega)) (by rw [World.size_setCell]; exact Nat.le_refl _))
 go_upto_region 28 with fail
 generalize W0.setCell ⟨w.heap.size, 9, none⟩ (.int .i64 4) = W1 at HS1 HX1 HR1 ⊢
 clear ko fo HS0 HX0 HR0 
 refine wp_region_list ?_
 refine wpList_load_mid rfl _ _ rfl w.heap.size 0 rfl (lV { x with keeper := 4 } (R.v x)) dd (range_row (lV { x with keeper := 4 } (R.v x)) rfl (xU HS1).box) hdu hdr info18 ?_
 refine wpList_store_mid rfl _ _ _ rfl (w.heap.size + 1) 0 (lV { x with keeper := 4 } (R.v x)).toArray rfl rfl (there_row (xU HS1).res) info18 (one18 _ _ _ _ _ _ _ _ _ _ _ (R.v x) (by simp [R7.v, Value.oneCell'])) ?_
 have hr := row_all (n := 18) (lV { x with keeper := 4 } (R.v x)) rfl (xU HS1).res
 have hcw := so_cw (lo := lo) (xU HS1) (lV { x with keeper := 4 } (R.v x)) (low7R (xU HLB))
 have hxx := newExc (xU HX1) (exc_setCells W1 (w.heap.size + 1) 0 (lV { x with keeper := 4 } (R.v x))) (by omega)
 generalize W1.setCells (w.heap.size + 1) 0 _ = WE at hr hcw hxx ⊢
 have HRR := xH hr; have HCW := xH hcw; have HXX := xH hxx
 clear hr hcw hxx HS1 HX1
 go_wp2_with fail
 refine bodyPost_ret (v := .agg (lV { x with keeper := 4 } (R.v x)).toArray) (results_cell_row (P := Tryz.prog) (by rfl) _ WE (w.heap.size + 1) 26 (lV { x with keeper := 4 } (R.v x)).toArray (0, 0) _ (by rfl) (row_cells (xU HRR) rfl) Tryz.underlying26 (by rfl) info18) rfl ?_
 rw [show stK x 1 = { x with keeper := 4 } from by unfold stK; rw [if_pos rfl]]
 exact ⟨R.v x, _, rfl, xU HCW, fun _ h => h, xU HXX⟩
theorem doKeep_see (x : Cw) (R : R7) (lo : Nat) (w : World) (hR : Rw7 w lo x R) (hop : 0 ≤ x.ops ∧ x.ops ≤ 10000) : Calls Tryz.prog 41 #[.agg (lV x (R.v x)).toArray, .int .i64 2] w fun e w' => SpEnd w w' e (stK x 2) R lo := by
 obtain ⟨dd, hdu, hdr⟩ := rowWorld
 have hw17 : IntKind.i64.wrap (x.ops + 1) = x.ops + 1 := by rw [IntKind.wrap_i64]; omega
 have HLB := xH (fun y (hy : y ∈ R.bl) => (hR.lt y hy).1)
 have HLT := xH (fun y (hy : y ∈ R.bl) => (hR.lt y hy).2)
 have HLO := xH (show lo ≤ w.heap.size from by have := hR.lt R.q (by simp [R7.bl]); omega)
 obtain ⟨hx0, hr0, hs0⟩ := so_pre hR
 have HX0 := xH hx0; have HR0 := xH hr0; have HS0 := xH hs0
 clear hR hx0 hr0 hs0 
 go_enter Tryz.func41, Tryz.ntmps41
 go_upto_region 4 with fail
 generalize (w.alloc _).alloc _ = W0 at HS0 HX0 HR0 ⊢
 go_upto_region 5 with (fail)
 have ko : W0.cell? ⟨w.heap.size, 9, none⟩ = some (.int .i64 x.keeper) := (xU HS0).box.cell (i := 9) (by omega)
 have fo := (xU HS0).box.frozen 9
 have HS1 := xH (show Sb (W0.setCell ⟨w.heap.size, 9, none⟩ (.int .i64 4)) w.heap.size (w.heap.size + 1) { x with keeper := 4 } (R.v x) (R.b) from (xU HS0).put 9 (by omega) (.int .i64 4) rfl rfl rfl rfl rfl rfl rfl rfl)
 have HX1 := xH ((xU HX0).newSet (Nat.le_refl _) 9 (.int .i64 4))
 have HR1 := xH ((xU HR0).keep (fun y hy => Below.heap_setCell W0 ⟨w.heap.size, 9, none⟩ (.int .i64 4) y (by have := xU HLT y hy; show y ≠ w.heap.size; omega)) (by rw [World.size_setCell]; exact Nat.le_refl _))
 go_upto_region 7 with fail
 generalize W0.setCell ⟨w.heap.size, 9, none⟩ (.int .i64 4) = W1 at HS1 HX1 HR1 ⊢
 clear ko fo HS0 HX0 HR0 
 have ko : W1.cell? ⟨w.heap.size, 17, none⟩ = some (.int .i64 x.ops) := (xU HS1).box.cell (i := 17) (by omega)
 have fo := (xU HS1).box.frozen 17
 have HS2 := xH (show Sb (W1.setCell ⟨w.heap.size, 17, none⟩ (.int .i64 (x.ops + 1))) w.heap.size (w.heap.size + 1) { x with keeper := 4, ops := (x.ops + 1) } (R.v x) (R.b) from (xU HS1).put 17 (by omega) (.int .i64 (x.ops + 1)) rfl rfl rfl rfl rfl rfl rfl rfl)
 have HX2 := xH ((xU HX1).newSet (Nat.le_refl _) 17 (.int .i64 (x.ops + 1)))
 have HR2 := xH ((xU HR1).keep (fun y hy => Below.heap_setCell W1 ⟨w.heap.size, 17, none⟩ (.int .i64 (x.ops + 1)) y (by have := xU HLT y hy; show y ≠ w.heap.size; omega)) (by rw [World.size_setCell]; exact Nat.le_refl _))
 go_upto_region 28 with fail
 generalize W1.setCell ⟨w.heap.size, 17, none⟩ (.int .i64 (x.ops + 1)) = W2 at HS2 HX2 HR2 ⊢
 clear ko fo HS1 HX1 HR1 hw17
 refine wp_region_list ?_
 refine wpList_load_mid rfl _ _ rfl w.heap.size 0 rfl (lV { x with keeper := 4, ops := (x.ops + 1) } (R.v x)) dd (range_row (lV { x with keeper := 4, ops := (x.ops + 1) } (R.v x)) rfl (xU HS2).box) hdu hdr info18 ?_
 refine wpList_store_mid rfl _ _ _ rfl (w.heap.size + 1) 0 (lV { x with keeper := 4, ops := (x.ops + 1) } (R.v x)).toArray rfl rfl (there_row (xU HS2).res) info18 (one18 _ _ _ _ _ _ _ _ _ _ _ (R.v x) (by simp [R7.v, Value.oneCell'])) ?_
 have hr := row_all (n := 18) (lV { x with keeper := 4, ops := (x.ops + 1) } (R.v x)) rfl (xU HS2).res
 have hcw := so_cw (lo := lo) (xU HS2) (lV { x with keeper := 4, ops := (x.ops + 1) } (R.v x)) (low7R (xU HLB))
 have hxx := newExc (xU HX2) (exc_setCells W2 (w.heap.size + 1) 0 (lV { x with keeper := 4, ops := (x.ops + 1) } (R.v x))) (by omega)
 generalize W2.setCells (w.heap.size + 1) 0 _ = WE at hr hcw hxx ⊢
 have HRR := xH hr; have HCW := xH hcw; have HXX := xH hxx
 clear hr hcw hxx HS2 HX2
 go_wp2_with fail
 refine bodyPost_ret (v := .agg (lV { x with keeper := 4, ops := (x.ops + 1) } (R.v x)).toArray) (results_cell_row (P := Tryz.prog) (by rfl) _ WE (w.heap.size + 1) 26 (lV { x with keeper := 4, ops := (x.ops + 1) } (R.v x)).toArray (0, 0) _ (by rfl) (row_cells (xU HRR) rfl) Tryz.underlying26 (by rfl) info18) rfl ?_
 rw [show stK x 2 = { x with keeper := 4, ops := x.ops + 1 } from by unfold stK; rw [if_neg (by omega), if_pos (by omega)]]
 exact ⟨R.v x, _, rfl, xU HCW, fun _ h => h, xU HXX⟩
theorem doKeep_room (x : Cw) (R : R7) (lo : Nat) (w : World) (hR : Rw7 w lo x R) (hop : 0 ≤ x.ops ∧ x.ops ≤ 10000) (hkp : x.keeper = 3) (hro : 0 ≤ x.room ∧ x.room ≤ 1000) : Calls Tryz.prog 41 #[.agg (lV x (R.v x)).toArray, .int .i64 0] w fun e w' => SpEnd w w' e (stK x 0) R lo := by
 obtain ⟨dd, hdu, hdr⟩ := rowWorld
 have hw17 : IntKind.i64.wrap (x.ops + 1) = x.ops + 1 := by rw [IntKind.wrap_i64]; omega
 have hw15 : IntKind.i64.wrap (x.room + 1) = x.room + 1 := by rw [IntKind.wrap_i64]; omega
 have HLB := xH (fun y (hy : y ∈ R.bl) => (hR.lt y hy).1)
 have HKP := xH hkp
 have HLT := xH (fun y (hy : y ∈ R.bl) => (hR.lt y hy).2)
 have HLO := xH (show lo ≤ w.heap.size from by have := hR.lt R.q (by simp [R7.bl]); omega)
 obtain ⟨hx0, hr0, hs0⟩ := so_pre hR
 have HX0 := xH hx0; have HR0 := xH hr0; have HS0 := xH hs0
 clear hR hx0 hr0 hs0 hkp 
 go_enter Tryz.func41, Tryz.ntmps41
 go_upto_region 4 with fail
 generalize (w.alloc _).alloc _ = W0 at HS0 HX0 HR0 ⊢
 have k9 : W0.cell? ⟨w.heap.size, 9, none⟩ = some (.int .i64 3) := by rw [← xU HKP]; exact (xU HS0).box.cell (i := 9) (by omega)
 go_upto_region 25 with (fail)
 clear k9
 have ko : W0.cell? ⟨w.heap.size, 15, none⟩ = some (.int .i64 x.room) := (xU HS0).box.cell (i := 15) (by omega)
 have fo := (xU HS0).box.frozen 15
 have HS1 := xH (show Sb (W0.setCell ⟨w.heap.size, 15, none⟩ (.int .i64 (x.room + 1))) w.heap.size (w.heap.size + 1) { x with room := (x.room + 1) } (R.v x) (R.b) from (xU HS0).put 15 (by omega) (.int .i64 (x.room + 1)) rfl rfl rfl rfl rfl rfl rfl rfl)
 have HX1 := xH ((xU HX0).newSet (Nat.le_refl _) 15 (.int .i64 (x.room + 1)))
 have HR1 := xH ((xU HR0).keep (fun y hy => Below.heap_setCell W0 ⟨w.heap.size, 15, none⟩ (.int .i64 (x.room + 1)) y (by have := xU HLT y hy; show y ≠ w.heap.size; omega)) (by rw [World.size_setCell]; exact Nat.le_refl _))
 go_upto_region 26 with fail
 generalize W0.setCell ⟨w.heap.size, 15, none⟩ (.int .i64 (x.room + 1)) = W1 at HS1 HX1 HR1 ⊢
 clear ko fo HS0 HX0 HR0 hw15
 have ko : W1.cell? ⟨w.heap.size, 9, none⟩ = some (.int .i64 x.keeper) := (xU HS1).box.cell (i := 9) (by omega)
 have fo := (xU HS1).box.frozen 9
 have HS2 := xH (show Sb (W1.setCell ⟨w.heap.size, 9, none⟩ (.int .i64 1)) w.heap.size (w.heap.size + 1) { x with room := (x.room + 1), keeper := 1 } (R.v x) (R.b) from (xU HS1).put 9 (by omega) (.int .i64 1) rfl rfl rfl rfl rfl rfl rfl rfl)
 have HX2 := xH ((xU HX1).newSet (Nat.le_refl _) 9 (.int .i64 1))
 have HR2 := xH ((xU HR1).keep (fun y hy => Below.heap_setCell W1 ⟨w.heap.size, 9, none⟩ (.int .i64 1) y (by have := xU HLT y hy; show y ≠ w.heap.size; omega)) (by rw [World.size_setCell]; exact Nat.le_refl _))
 go_upto_region 27 with fail
 generalize W1.setCell ⟨w.heap.size, 9, none⟩ (.int .i64 1) = W2 at HS2 HX2 HR2 ⊢
 clear ko fo HS1 HX1 HR1 
 have ko : W2.cell? ⟨w.heap.size, 17, none⟩ = some (.int .i64 x.ops) := (xU HS2).box.cell (i := 17) (by omega)
 have fo := (xU HS2).box.frozen 17
 have HS3 := xH (show Sb (W2.setCell ⟨w.heap.size, 17, none⟩ (.int .i64 (x.ops + 1))) w.heap.size (w.heap.size + 1) { x with room := (x.room + 1), keeper := 1, ops := (x.ops + 1) } (R.v x) (R.b) from (xU HS2).put 17 (by omega) (.int .i64 (x.ops + 1)) rfl rfl rfl rfl rfl rfl rfl rfl)
 have HX3 := xH ((xU HX2).newSet (Nat.le_refl _) 17 (.int .i64 (x.ops + 1)))
 have HR3 := xH ((xU HR2).keep (fun y hy => Below.heap_setCell W2 ⟨w.heap.size, 17, none⟩ (.int .i64 (x.ops + 1)) y (by have := xU HLT y hy; show y ≠ w.heap.size; omega)) (by rw [World.size_setCell]; exact Nat.le_refl _))
 go_upto_region 28 with fail
 generalize W2.setCell ⟨w.heap.size, 17, none⟩ (.int .i64 (x.ops + 1)) = W3 at HS3 HX3 HR3 ⊢
 clear ko fo HS2 HX2 HR2 hw17
 refine wp_region_list ?_
 refine wpList_load_mid rfl _ _ rfl w.heap.size 0 rfl (lV { x with keeper := 1, room := (x.room + 1), ops := (x.ops + 1) } (R.v x)) dd (range_row (lV { x with keeper := 1, room := (x.room + 1), ops := (x.ops + 1) } (R.v x)) rfl (xU HS3).box) hdu hdr info18 ?_
 refine wpList_store_mid rfl _ _ _ rfl (w.heap.size + 1) 0 (lV { x with keeper := 1, room := (x.room + 1), ops := (x.ops + 1) } (R.v x)).toArray rfl rfl (there_row (xU HS3).res) info18 (one18 _ _ _ _ _ _ _ _ _ _ _ (R.v x) (by simp [R7.v, Value.oneCell'])) ?_
 have hr := row_all (n := 18) (lV { x with keeper := 1, room := (x.room + 1), ops := (x.ops + 1) } (R.v x)) rfl (xU HS3).res
 have hcw := so_cw (lo := lo) (xU HS3) (lV { x with keeper := 1, room := (x.room + 1), ops := (x.ops + 1) } (R.v x)) (low7R (xU HLB))
 have hxx := newExc (xU HX3) (exc_setCells W3 (w.heap.size + 1) 0 (lV { x with keeper := 1, room := (x.room + 1), ops := (x.ops + 1) } (R.v x))) (by omega)
 generalize W3.setCells (w.heap.size + 1) 0 _ = WE at hr hcw hxx ⊢
 have HRR := xH hr; have HCW := xH hcw; have HXX := xH hxx
 clear hr hcw hxx HS3 HX3
 go_wp2_with fail
 refine bodyPost_ret (v := .agg (lV { x with keeper := 1, room := (x.room + 1), ops := (x.ops + 1) } (R.v x)).toArray) (results_cell_row (P := Tryz.prog) (by rfl) _ WE (w.heap.size + 1) 26 (lV { x with keeper := 1, room := (x.room + 1), ops := (x.ops + 1) } (R.v x)).toArray (0, 0) _ (by rfl) (row_cells (xU HRR) rfl) Tryz.underlying26 (by rfl) info18) rfl ?_
 rw [show stK x 0 = { x with room := x.room + 1, keeper := 1, ops := x.ops + 1 } from by unfold stK; rw [if_neg (by omega), if_neg (by omega), if_neg (by rw [xU HKP]; omega), if_neg (by rw [xU HKP]; omega), if_neg (by rw [xU HKP]; omega), if_pos (xU HKP)]]
 exact ⟨R.v x, _, rfl, xU HCW, fun _ h => h, xU HXX⟩
theorem doKeep_close (x : Cw) (R : R7) (lo : Nat) (w : World) (hR : Rw7 w lo x R) (hop : 0 ≤ x.ops ∧ x.ops ≤ 10000) (hkp : x.keeper = 4) (hs : x.shut.length = 4) : Calls Tryz.prog 41 #[.agg (lV x (R.v x)).toArray, .int .i64 0] w fun e w' => SpEnd w w' e (stK x 0) R lo := by
 obtain ⟨dd, hdu, hdr⟩ := rowWorld
 have hw17 : IntKind.i64.wrap (x.ops + 1) = x.ops + 1 := by rw [IntKind.wrap_i64]; omega
 have HLB := xH (fun y (hy : y ∈ R.bl) => (hR.lt y hy).1)
 have HKP := xH hkp
 have HSL := xH hs
 have HLT := xH (fun y (hy : y ∈ R.bl) => (hR.lt y hy).2)
 have HLO := xH (show lo ≤ w.heap.size from by have := hR.lt R.q (by simp [R7.bl]); omega)
 obtain ⟨hx0, hr0, hs0⟩ := so_pre hR
 have HX0 := xH hx0; have HR0 := xH hr0; have HS0 := xH hs0
 clear hR hx0 hr0 hs0 hkp hs
 go_enter Tryz.func41, Tryz.ntmps41
 go_upto_region 4 with fail
 generalize (w.alloc _).alloc _ = W0 at HS0 HX0 HR0 ⊢
 have k9 : W0.cell? ⟨w.heap.size, 9, none⟩ = some (.int .i64 4) := by rw [← xU HKP]; exact (xU HS0).box.cell (i := 9) (by omega)
 go_upto_region 1 with (fail)
 clear k9
 have ko : W0.cell? ⟨w.heap.size, 9, none⟩ = some (.int .i64 x.keeper) := (xU HS0).box.cell (i := 9) (by omega)
 have fo := (xU HS0).box.frozen 9
 have HS1 := xH (show Sb (W0.setCell ⟨w.heap.size, 9, none⟩ (.int .i64 5)) w.heap.size (w.heap.size + 1) { x with keeper := 5 } (R.v x) (R.b) from (xU HS0).put 9 (by omega) (.int .i64 5) rfl rfl rfl rfl rfl rfl rfl rfl)
 have HX1 := xH ((xU HX0).newSet (Nat.le_refl _) 9 (.int .i64 5))
 have HR1 := xH ((xU HR0).keep (fun y hy => Below.heap_setCell W0 ⟨w.heap.size, 9, none⟩ (.int .i64 5) y (by have := xU HLT y hy; show y ≠ w.heap.size; omega)) (by rw [World.size_setCell]; exact Nat.le_refl _))
 go_upto_region 2 with fail
 generalize W0.setCell ⟨w.heap.size, 9, none⟩ (.int .i64 5) = W1 at HS1 HX1 HR1 ⊢
 clear ko fo HS0 HX0 HR0 
 have k16 : W1.cell? ⟨w.heap.size, 16, none⟩ = some (.slice (some ⟨R.s, 0, none⟩) 4 R.cs) := by rw [← xU HSL]; exact (xU HS1).box.cell (i := 16) (by omega)
 have s0 : W1.cell? ⟨R.s, 2, none⟩ = some (.int .i64 (x.shut.getD 2 0)) := by
  rw [World.ownsRow.cellAt (xU HR1).s 2 (by rw [xU HSL]; omega), zflat_map, List.getElem?_map, List.getD_eq_getElem?_getD, List.getElem?_eq_getElem (by rw [xU HSL]; omega)]
  rfl
 generalize x.shut.getD 2 0 = z0 at s0
 have sf := World.ownsRow.frozenAt (xU HR1).s 2
 have HS2 := xH (show Sb (W1.setCell ⟨R.s, 2, none⟩ (.int .i64 1)) w.heap.size (w.heap.size + 1) { x with keeper := 5, shut := x.shut.set 2 1 } (R.v x) (R.b) from (xU HS1).mod_s (Exc.set _ _ _ _ (by simp [R7.b])) (x.shut.set 2 1) (zat_set (own_set (xU HR1).s 2 1)))
 have HX2 := xH ((xU HX1).trans (Exc.set (F := R.bl) W1 R.s (2) (.int .i64 1) (by simp [R7.bl])))
 go_upto_region 3 with (fail)
 generalize W1.setCell ⟨R.s, 2, none⟩ (.int .i64 1) = W2 at HS2 HX2 ⊢
 clear HS1 HX1 HR1 k16 s0 sf
 have ko : W2.cell? ⟨w.heap.size, 17, none⟩ = some (.int .i64 x.ops) := (xU HS2).box.cell (i := 17) (by omega)
 have fo := (xU HS2).box.frozen 17
 have HS3 := xH (show Sb (W2.setCell ⟨w.heap.size, 17, none⟩ (.int .i64 (x.ops + 1))) w.heap.size (w.heap.size + 1) { x with keeper := 5, shut := x.shut.set 2 1, ops := (x.ops + 1) } (R.v x) (R.b) from (xU HS2).put 17 (by omega) (.int .i64 (x.ops + 1)) rfl rfl rfl rfl rfl rfl rfl rfl)
 have HX3 := xH ((xU HX2).newSet (Nat.le_refl _) 17 (.int .i64 (x.ops + 1)))
 go_upto_region 28 with fail
 generalize W2.setCell ⟨w.heap.size, 17, none⟩ (.int .i64 (x.ops + 1)) = W3 at HS3 HX3 ⊢
 clear ko fo HS2 HX2  hw17
 refine wp_region_list ?_
 refine wpList_load_mid rfl _ _ rfl w.heap.size 0 rfl (lV { x with keeper := 5, ops := (x.ops + 1) } (R.v x)) dd (range_row (lV { x with keeper := 5, ops := (x.ops + 1) } (R.v x)) rfl (xU HS3).box) hdu hdr info18 ?_
 refine wpList_store_mid rfl _ _ _ rfl (w.heap.size + 1) 0 (lV { x with keeper := 5, ops := (x.ops + 1) } (R.v x)).toArray rfl rfl (there_row (xU HS3).res) info18 (one18 _ _ _ _ _ _ _ _ _ _ _ (R.v x) (by simp [R7.v, Value.oneCell'])) ?_
 have hr := row_all (n := 18) (lV { x with keeper := 5, ops := (x.ops + 1) } (R.v x)) rfl (xU HS3).res
 have hcw := so_cw (lo := lo) (xU HS3) (lV { x with keeper := 5, ops := (x.ops + 1) } (R.v x)) (low7R (xU HLB))
 have hxx := newExc (xU HX3) (exc_setCells W3 (w.heap.size + 1) 0 (lV { x with keeper := 5, ops := (x.ops + 1) } (R.v x))) (by omega)
 generalize W3.setCells (w.heap.size + 1) 0 _ = WE at hr hcw hxx ⊢
 have HRR := xH hr; have HCW := xH hcw; have HXX := xH hxx
 clear hr hcw hxx HS3 HX3
 go_wp2_with fail
 refine bodyPost_ret (v := .agg (lV { x with keeper := 5, ops := (x.ops + 1) } (R.v x)).toArray) (results_cell_row (P := Tryz.prog) (by rfl) _ WE (w.heap.size + 1) 26 (lV { x with keeper := 5, ops := (x.ops + 1) } (R.v x)).toArray (0, 0) _ (by rfl) (row_cells (xU HRR) rfl) Tryz.underlying26 (by rfl) info18) rfl ?_
 rw [show stK x 0 = { x with keeper := 5, shut := x.shut.set 2 1, ops := x.ops + 1 } from by unfold stK; rw [if_neg (by omega), if_neg (by omega), if_neg (by rw [xU HKP]; omega), if_neg (by rw [xU HKP]; omega), if_neg (by rw [xU HKP]; omega), if_neg (by rw [xU HKP]; omega)]]
 exact ⟨R.v x, _, rfl, xU HCW, fun _ h => h, xU HXX⟩
theorem Form.keep0 {x : Cw} (h : Form x) : Form { x with keeper := 0 } := ⟨h.st, h.next, h.due, h.room, h.ops, h.hands, h.ring, h.shut, h.queue, h.results, h.out, h.shuts, h.handsOk, h.reader, h.closer, ⟨by show (0:Int) ≤ 0; omega, by show (0:Int) ≤ 5; omega⟩, h.user⟩
theorem doKeep_checkN (x : Cw) (R : R7) (lo : Nat) (w : World) (hR : Rw7 w lo x R) (hkp : x.keeper = 1) (hF : Form x) (hdue : dueIn x = false) : Calls Tryz.prog 41 #[.agg (lV x (R.v x)).toArray, .int .i64 0] w fun e w' => SpEnd w w' e (stK x 0) R lo := by
 obtain ⟨dd, hdu, hdr⟩ := rowWorld
 have HLB := xH (fun y (hy : y ∈ R.bl) => (hR.lt y hy).1)
 have HKP := xH hkp
 have HFM := xH hF; have HDU := xH hdue
 have HLT := xH (fun y (hy : y ∈ R.bl) => (hR.lt y hy).2)
 have HLO := xH (show lo ≤ w.heap.size from by have := hR.lt R.q (by simp [R7.bl]); omega)
 obtain ⟨hx0, hr0, hs0⟩ := so_pre hR
 have HX0 := xH hx0; have HR0 := xH hr0; have HS0 := xH hs0
 clear hR hx0 hr0 hs0 hkp hF hdue 
 go_enter Tryz.func41, Tryz.ntmps41
 go_upto_region 4 with fail
 generalize (w.alloc _).alloc _ = W0 at HS0 HX0 HR0 ⊢
 have k9 : W0.cell? ⟨w.heap.size, 9, none⟩ = some (.int .i64 1) := by rw [← xU HKP]; exact (xU HS0).box.cell (i := 9) (by omega)
 go_upto_region 15 with (fail)
 clear k9
 have ko : W0.cell? ⟨w.heap.size, 9, none⟩ = some (.int .i64 x.keeper) := (xU HS0).box.cell (i := 9) (by omega)
 have fo := (xU HS0).box.frozen 9
 have HS1 := xH (show Sb (W0.setCell ⟨w.heap.size, 9, none⟩ (.int .i64 0)) w.heap.size (w.heap.size + 1) { x with keeper := 0 } (R.v x) (R.b) from (xU HS0).put 9 (by omega) (.int .i64 0) rfl rfl rfl rfl rfl rfl rfl rfl)
 have HX1 := xH ((xU HX0).newSet (Nat.le_refl _) 9 (.int .i64 0))
 have HR1 := xH ((xU HR0).keep (fun y hy => Below.heap_setCell W0 ⟨w.heap.size, 9, none⟩ (.int .i64 0) y (by have := xU HLT y hy; show y ≠ w.heap.size; omega)) (by rw [World.size_setCell]; exact Nat.le_refl _))
 go_upto_region 16 with fail
 generalize W0.setCell ⟨w.heap.size, 9, none⟩ (.int .i64 0) = W1 at HS1 HX1 HR1 ⊢
 clear ko fo HS0 HX0 HR0 
 have hcl := l51Due_any { x with keeper := 0 } ⟨some ⟨R.q, 0, none⟩, some ⟨R.h, 0, none⟩, some ⟨R.r, 0, none⟩, some ⟨R.g, 0, none⟩, some ⟨R.o, 0, none⟩, some ⟨R.t, 0, none⟩, some ⟨R.s, 0, none⟩, R.cq, R.ch, R.cr, R.cg, R.co, R.ct, R.cs⟩ _ W1 (xU HS1).cw (xU HS1).lt (xU HFM).keep0
 rw [show dueIn { x with keeper := 0 } = dueIn x from rfl, xU HDU] at hcl
 have HCL := xH hcl
 clear hcl
 refine wp_region_list ?_
 refine wpList_load_mid rfl _ _ rfl w.heap.size 0 rfl (lV { x with keeper := 0 } (R.v x)) dd (range_row (lV { x with keeper := 0 } (R.v x)) rfl (xU HS1).box) hdu hdr info18 ?_
 refine wpList_plain rfl (fun K hK => ?_)
 go_simp
 refine (xU HCL).mono ?_
 rintro e V ⟨rfl, hb⟩
 refine hK _ _ ?_
 clear hK K HCL
 have HS2 := xH ((xU HS1).on hb); have HX2 := xH ((xU HX1).trans (Exc.of_below hb)); have HR2 := xH ((xU HR1).on hb)
 clear hb HS1 HX1 HR1
 go_upto_region 28 with (fail)
 refine wp_region_list ?_
 refine wpList_load_mid rfl _ _ rfl w.heap.size 0 rfl (lV { x with keeper := 0 } (R.v x)) dd (range_row (lV { x with keeper := 0 } (R.v x)) rfl (xU HS2).box) hdu hdr info18 ?_
 refine wpList_store_mid rfl _ _ _ rfl (w.heap.size + 1) 0 (lV { x with keeper := 0 } (R.v x)).toArray rfl rfl (there_row (xU HS2).res) info18 (one18 _ _ _ _ _ _ _ _ _ _ _ (R.v x) (by simp [R7.v, Value.oneCell'])) ?_
 have hr := row_all (n := 18) (lV { x with keeper := 0 } (R.v x)) rfl (xU HS2).res
 have hcw := so_cw (lo := lo) (xU HS2) (lV { x with keeper := 0 } (R.v x)) (low7R (xU HLB))
 have hxx := newExc (xU HX2) (exc_setCells V (w.heap.size + 1) 0 (lV { x with keeper := 0 } (R.v x))) (by omega)
 generalize V.setCells (w.heap.size + 1) 0 _ = WE at hr hcw hxx ⊢
 have HRR := xH hr; have HCW := xH hcw; have HXX := xH hxx
 clear hr hcw hxx HS2 HX2
 go_wp2_with fail
 refine bodyPost_ret (v := .agg (lV { x with keeper := 0 } (R.v x)).toArray) (results_cell_row (P := Tryz.prog) (by rfl) _ WE (w.heap.size + 1) 26 (lV { x with keeper := 0 } (R.v x)).toArray (0, 0) _ (by rfl) (row_cells (xU HRR) rfl) Tryz.underlying26 (by rfl) info18) rfl ?_
 rw [show stK x 0 = { x with keeper := 0 } from by unfold stK; rw [if_neg (by omega), if_neg (by omega), if_neg (by rw [xU HKP]; omega), if_pos (xU HKP), if_neg (by rw [xU HDU]; exact Bool.false_ne_true)]]
 exact ⟨R.v x, _, rfl, xU HCW, fun _ h => h, xU HXX⟩
theorem doKeep_checkY (x : Cw) (R : R7) (lo : Nat) (w : World) (hR : Rw7 w lo x R) (hkp : x.keeper = 1) (hF : Form x) (hdue : dueIn x = true) : Calls Tryz.prog 41 #[.agg (lV x (R.v x)).toArray, .int .i64 0] w fun e w' => SpEnd w w' e (stK x 0) R lo := by
 obtain ⟨dd, hdu, hdr⟩ := rowWorld
 have HLB := xH (fun y (hy : y ∈ R.bl) => (hR.lt y hy).1)
 have HKP := xH hkp
 have HFM := xH hF; have HDU := xH hdue
 have HLT := xH (fun y (hy : y ∈ R.bl) => (hR.lt y hy).2)
 have HLO := xH (show lo ≤ w.heap.size from by have := hR.lt R.q (by simp [R7.bl]); omega)
 obtain ⟨hx0, hr0, hs0⟩ := so_pre hR
 have HX0 := xH hx0; have HR0 := xH hr0; have HS0 := xH hs0
 clear hR hx0 hr0 hs0 hkp hF hdue 
 go_enter Tryz.func41, Tryz.ntmps41
 go_upto_region 4 with fail
 generalize (w.alloc _).alloc _ = W0 at HS0 HX0 HR0 ⊢
 have k9 : W0.cell? ⟨w.heap.size, 9, none⟩ = some (.int .i64 1) := by rw [← xU HKP]; exact (xU HS0).box.cell (i := 9) (by omega)
 go_upto_region 15 with (fail)
 clear k9
 have ko : W0.cell? ⟨w.heap.size, 9, none⟩ = some (.int .i64 x.keeper) := (xU HS0).box.cell (i := 9) (by omega)
 have fo := (xU HS0).box.frozen 9
 have HS1 := xH (show Sb (W0.setCell ⟨w.heap.size, 9, none⟩ (.int .i64 0)) w.heap.size (w.heap.size + 1) { x with keeper := 0 } (R.v x) (R.b) from (xU HS0).put 9 (by omega) (.int .i64 0) rfl rfl rfl rfl rfl rfl rfl rfl)
 have HX1 := xH ((xU HX0).newSet (Nat.le_refl _) 9 (.int .i64 0))
 have HR1 := xH ((xU HR0).keep (fun y hy => Below.heap_setCell W0 ⟨w.heap.size, 9, none⟩ (.int .i64 0) y (by have := xU HLT y hy; show y ≠ w.heap.size; omega)) (by rw [World.size_setCell]; exact Nat.le_refl _))
 go_upto_region 16 with fail
 generalize W0.setCell ⟨w.heap.size, 9, none⟩ (.int .i64 0) = W1 at HS1 HX1 HR1 ⊢
 clear ko fo HS0 HX0 HR0 
 have hcl := l51Due_any { x with keeper := 0 } ⟨some ⟨R.q, 0, none⟩, some ⟨R.h, 0, none⟩, some ⟨R.r, 0, none⟩, some ⟨R.g, 0, none⟩, some ⟨R.o, 0, none⟩, some ⟨R.t, 0, none⟩, some ⟨R.s, 0, none⟩, R.cq, R.ch, R.cr, R.cg, R.co, R.ct, R.cs⟩ _ W1 (xU HS1).cw (xU HS1).lt (xU HFM).keep0
 rw [show dueIn { x with keeper := 0 } = dueIn x from rfl, xU HDU] at hcl
 have HCL := xH hcl
 clear hcl
 refine wp_region_list ?_
 refine wpList_load_mid rfl _ _ rfl w.heap.size 0 rfl (lV { x with keeper := 0 } (R.v x)) dd (range_row (lV { x with keeper := 0 } (R.v x)) rfl (xU HS1).box) hdu hdr info18 ?_
 refine wpList_plain rfl (fun K hK => ?_)
 go_simp
 refine (xU HCL).mono ?_
 rintro e V ⟨rfl, hb⟩
 refine hK _ _ ?_
 clear hK K HCL
 have HS2 := xH ((xU HS1).on hb); have HX2 := xH ((xU HX1).trans (Exc.of_below hb)); have HR2 := xH ((xU HR1).on hb)
 clear hb HS1 HX1 HR1
 go_upto_region 17 with (fail)
 have ko : V.cell? ⟨w.heap.size, 9, none⟩ = some (.int .i64 0) := (xU HS2).box.cell (i := 9) (by omega)
 have fo := (xU HS2).box.frozen 9
 have HS3 := xH (show Sb (V.setCell ⟨w.heap.size, 9, none⟩ (.int .i64 2)) w.heap.size (w.heap.size + 1) { x with keeper := 2 } (R.v x) (R.b) from (xU HS2).put 9 (by omega) (.int .i64 2) rfl rfl rfl rfl rfl rfl rfl rfl)
 have HX3 := xH ((xU HX2).newSet (Nat.le_refl _) 9 (.int .i64 2))
 have HR3 := xH ((xU HR2).keep (fun y hy => Below.heap_setCell V ⟨w.heap.size, 9, none⟩ (.int .i64 2) y (by have := xU HLT y hy; show y ≠ w.heap.size; omega)) (by rw [World.size_setCell]; exact Nat.le_refl _))
 go_upto_region 28 with fail
 generalize V.setCell ⟨w.heap.size, 9, none⟩ (.int .i64 2) = W3 at HS3 HX3 HR3 ⊢
 clear ko fo HS2 HX2 HR2 
 refine wp_region_list ?_
 refine wpList_load_mid rfl _ _ rfl w.heap.size 0 rfl (lV { x with keeper := 2 } (R.v x)) dd (range_row (lV { x with keeper := 2 } (R.v x)) rfl (xU HS3).box) hdu hdr info18 ?_
 refine wpList_store_mid rfl _ _ _ rfl (w.heap.size + 1) 0 (lV { x with keeper := 2 } (R.v x)).toArray rfl rfl (there_row (xU HS3).res) info18 (one18 _ _ _ _ _ _ _ _ _ _ _ (R.v x) (by simp [R7.v, Value.oneCell'])) ?_
 have hr := row_all (n := 18) (lV { x with keeper := 2 } (R.v x)) rfl (xU HS3).res
 have hcw := so_cw (lo := lo) (xU HS3) (lV { x with keeper := 2 } (R.v x)) (low7R (xU HLB))
 have hxx := newExc (xU HX3) (exc_setCells W3 (w.heap.size + 1) 0 (lV { x with keeper := 2 } (R.v x))) (by omega)
 generalize W3.setCells (w.heap.size + 1) 0 _ = WE at hr hcw hxx ⊢
 have HRR := xH hr; have HCW := xH hcw; have HXX := xH hxx
 clear hr hcw hxx HS3 HX3
 go_wp2_with fail
 refine bodyPost_ret (v := .agg (lV { x with keeper := 2 } (R.v x)).toArray) (results_cell_row (P := Tryz.prog) (by rfl) _ WE (w.heap.size + 1) 26 (lV { x with keeper := 2 } (R.v x)).toArray (0, 0) _ (by rfl) (row_cells (xU HRR) rfl) Tryz.underlying26 (by rfl) info18) rfl ?_
 rw [show stK x 0 = { x with keeper := 2 } from by unfold stK; rw [if_neg (by omega), if_neg (by omega), if_neg (by rw [xU HKP]; omega), if_pos (xU HKP), if_pos (xU HDU)]]
 exact ⟨R.v x, _, rfl, xU HCW, fun _ h => h, xU HXX⟩
theorem doKeep_take (x : Cw) (R : R7) (lo : Nat) (w : World) (hR : Rw7 w lo x R) (hop : 0 ≤ x.ops ∧ x.ops ≤ 10000) (hkp : x.keeper = 0) (j : Nat) (l : List Int) (hq : x.results = (j : Int) :: l) (hql0 : x.results.length ≤ 1000) (hwn : x.window = (x.ring.length : Int)) (hrl : 0 < x.ring.length) : Calls Tryz.prog 41 #[.agg (lV x (R.v x)).toArray, .int .i64 0] w fun e w' => SpEnd w w' e (stK x 0) R lo := by
 obtain ⟨dd, hdu, hdr⟩ := rowWorld
 have hw17 : IntKind.i64.wrap (x.ops + 1) = x.ops + 1 := by rw [IntKind.wrap_i64]; omega
 have HLB := xH (fun y (hy : y ∈ R.bl) => (hR.lt y hy).1)
 have HKP := xH hkp
 obtain ⟨n, hn⟩ : ∃ n, x.ring.length = n := ⟨_, rfl⟩
 have HRL := xH hn; have HWN := xH (show x.window = (n : Int) by rw [hwn, hn])
 have hn0 : 0 < n := by omega
 obtain ⟨q, hq2⟩ : ∃ q, j % n = q := ⟨_, rfl⟩
 have hql : q < n := by rw [← hq2]; exact Nat.mod_lt _ hn0
 have hrem : (j : Int).tmod (n : Int) = (q : Int) := by
  rw [Int.tmod_eq_emod_of_nonneg (by omega), ← hq2]
  simp
 have hnz : ¬ ((n : Int) = 0) := by omega
 have hnz2 : ¬ (n = 0) := by omega
 have HQ2 := xH hq2
 have HQ := xH hq
 obtain ⟨m, hm⟩ : ∃ m, m = l.length := ⟨_, rfl⟩
 have HM := xH hm; have HQL := xH (show x.results.length = m + 1 by rw [hq, hm]; rfl)
 have hm9 : m ≤ 1000 := by have := xU HQL; omega
 have HLT := xH (fun y (hy : y ∈ R.bl) => (hR.lt y hy).2)
 have HLO := xH (show lo ≤ w.heap.size from by have := hR.lt R.q (by simp [R7.bl]); omega)
 obtain ⟨hx0, hr0, hs0⟩ := so_pre hR
 have HX0 := xH hx0; have HR0 := xH hr0; have HS0 := xH hs0
 clear hR hx0 hr0 hs0 hkp hq hm hql0 hwn hrl hn hq2 
 go_enter Tryz.func41, Tryz.ntmps41
 go_upto_region 4 with fail
 generalize (w.alloc _).alloc _ = W0 at HS0 HX0 HR0 ⊢
 have k9 : W0.cell? ⟨w.heap.size, 9, none⟩ = some (.int .i64 0) := by rw [← xU HKP]; exact (xU HS0).box.cell (i := 9) (by omega)
 go_upto_region 9 with (fail)
 clear k9
 have k8 : W0.cell? ⟨w.heap.size, 8, none⟩ = some (.slice (some ⟨R.r, 0, none⟩) (m + 1) R.cr) := by rw [← xU HQL]; exact (xU HS0).box.cell (i := 8) (by omega)
 have q0 : W0.cell? ⟨R.r, 0, none⟩ = some (.int .i64 (j : Int)) := by
  rw [World.ownsRow.cellAt (xU HR0).r 0 (by rw [xU HQL]; omega), zflat_map, List.getElem?_map, xU HQ]
  rfl
 go_upto_region 10 with (fail)
 clear k8 q0
 have ko : W0.cell? ⟨w.heap.size, 8, none⟩ = some (.slice (some ⟨R.r, 0, none⟩) (m + 1) R.cr) := by rw [← xU HQL]; exact (xU HS0).box.cell (i := 8) (by omega)
 have fo := (xU HS0).box.frozen 8
 obtain ⟨cq, hcq⟩ : ∃ cq, R.cr = cq := ⟨_, rfl⟩
 have HRM := xH (show m + 1 ≤ cq from by have := own_room (xU HR0).r; rw [xU HQL, hcq] at this; exact this)
 rw [hcq] at ko ⊢
 clear hcq
 by_cases hc1 : cq = 1
 · subst hc1
   have HS1 := xH (show Sb (W0.setCell ⟨w.heap.size, 8, none⟩ (.slice (some ⟨R.r, 0, none⟩) m 0)) w.heap.size (w.heap.size + 1) { x with results := l } ({ R.v x with r := .slice (some ⟨R.r, 0, none⟩) m 0 }) (R.b) from (xU HS0).set_r (.slice (some ⟨R.r, 0, none⟩) m 0) l (tail_nil (xU HM) (by have := xU HRM; omega)))
   have HX1 := xH ((xU HX0).newSet (Nat.le_refl _) 8 (.slice (some ⟨R.r, 0, none⟩) m 0))
   have HR1 := xH ((xU HR0).keep (fun y hy => Below.heap_setCell W0 ⟨w.heap.size, 8, none⟩ (.slice (some ⟨R.r, 0, none⟩) m 0) y (by have := xU HLT y hy; show y ≠ w.heap.size; omega)) (by rw [World.size_setCell]; exact Nat.le_refl _))
   go_upto_region 11 with fail
   generalize W0.setCell ⟨w.heap.size, 8, none⟩ (.slice (some ⟨R.r, 0, none⟩) m 0) = W1 at HS1 HX1 HR1 ⊢
   clear ko fo HS0 HX0 HR0 
   have k10 : W1.cell? ⟨w.heap.size, 10, none⟩ = some (.slice (some ⟨R.g, 0, none⟩) n R.cg) := by rw [← xU HRL]; exact (xU HS1).box.cell (i := 10) (by omega)
   have k2 : W1.cell? ⟨w.heap.size, 2, none⟩ = some (.int .i64 (n : Int)) := by rw [← xU HWN]; exact (xU HS1).box.cell (i := 2) (by omega)
   have hgo := World.ownsRow.cellAt (xU HR1).g q (by rw [xU HRL]; omega)
   rw [zflat_map, List.getElem?_map, List.getElem?_eq_getElem (by rw [xU HRL]; exact hql)] at hgo
   obtain ⟨zo, gq⟩ : ∃ zo, W1.cell? ⟨R.g, q, none⟩ = some (.int .i64 zo) := ⟨_, hgo⟩
   have gf := World.ownsRow.frozenAt (xU HR1).g q
   clear hgo
   go_wp2_with fail
   go_region
   have HS2 := xH (show Sb (W1.setCell ⟨R.g, q, none⟩ (.int .i64 (j : Int))).drew w.heap.size (w.heap.size + 1) { x with results := l, ring := x.ring.set q (j : Int) } ({ R.v x with r := .slice (some ⟨R.r, 0, none⟩) m 0 }) (R.b) from ((xU HS1).mod_g (Exc.set _ _ _ _ (by simp [R7.b])) (x.ring.set q (j : Int)) (zat_set (own_set (xU HR1).g q (j : Int)))).on (Below.refl _ _).drew)
   have HX2 := xH (((xU HX1).trans (Exc.set (F := R.bl) W1 R.g q (.int .i64 (j : Int)) (by simp [R7.bl]))).trans (Exc.of_below (Below.refl _ _).drew))
   have HOO2 := xH (ownsRow_keepT (w' := (W1.setCell ⟨R.g, q, none⟩ (.int .i64 (j : Int))).drew) (xU HR1).o (fun y e => by simp only [R7.v, Value.ownBlock, Option.some.injEq] at e; subst e; exact Below.heap_setCell W1 ⟨R.g, q, none⟩ (.int .i64 (j : Int)) R.o (Ne.symm (ndq (xU HR1).nd 3 4 rfl rfl (by decide)))))
   generalize (W1.setCell ⟨R.g, q, none⟩ (.int .i64 (j : Int))).drew = W2 at HS2 HX2 HOO2 ⊢
   clear k10 k2 gq gf HS1 HX1 HR1 hrem hnz hnz2 hql
   go_upto_region 12 with fail
   have ko : W2.cell? ⟨w.heap.size, 9, none⟩ = some (.int .i64 x.keeper) := (xU HS2).box.cell (i := 9) (by omega)
   have fo := (xU HS2).box.frozen 9
   have HS3 := xH (show Sb (W2.setCell ⟨w.heap.size, 9, none⟩ (.int .i64 1)) w.heap.size (w.heap.size + 1) { x with results := l, ring := x.ring.set q (j : Int), keeper := 1 } ({ R.v x with r := .slice (some ⟨R.r, 0, none⟩) m 0 }) (R.b) from (xU HS2).put 9 (by omega) (.int .i64 1) rfl rfl rfl rfl rfl rfl rfl rfl)
   have HX3 := xH ((xU HX2).newSet (Nat.le_refl _) 9 (.int .i64 1))
   go_upto_region 13 with fail
   generalize W2.setCell ⟨w.heap.size, 9, none⟩ (.int .i64 1) = W3 at HS3 HX3 ⊢
   clear ko fo HS2 HX2  
   have ko : W3.cell? ⟨w.heap.size, 17, none⟩ = some (.int .i64 x.ops) := (xU HS3).box.cell (i := 17) (by omega)
   have fo := (xU HS3).box.frozen 17
   have HS4 := xH (show Sb (W3.setCell ⟨w.heap.size, 17, none⟩ (.int .i64 (x.ops + 1))) w.heap.size (w.heap.size + 1) { x with results := l, ring := x.ring.set q (j : Int), keeper := 1, ops := (x.ops + 1) } ({ R.v x with r := .slice (some ⟨R.r, 0, none⟩) m 0 }) (R.b) from (xU HS3).put 17 (by omega) (.int .i64 (x.ops + 1)) rfl rfl rfl rfl rfl rfl rfl rfl)
   have HX4 := xH ((xU HX3).newSet (Nat.le_refl _) 17 (.int .i64 (x.ops + 1)))
   go_upto_region 28 with fail
   generalize W3.setCell ⟨w.heap.size, 17, none⟩ (.int .i64 (x.ops + 1)) = W4 at HS4 HX4 ⊢
   clear ko fo HS3 HX3  hw17
   refine wp_region_list ?_
   refine wpList_load_mid rfl _ _ rfl w.heap.size 0 rfl (lV { x with keeper := 1, ops := (x.ops + 1) } { R.v x with r := .slice (some ⟨R.r, 0, none⟩) m 0 }) dd (range_row (lV { x with keeper := 1, ops := (x.ops + 1) } { R.v x with r := .slice (some ⟨R.r, 0, none⟩) m 0 }) rfl (xU HS4).box) hdu hdr info18 ?_
   refine wpList_store_mid rfl _ _ _ rfl (w.heap.size + 1) 0 (lV { x with keeper := 1, ops := (x.ops + 1) } { R.v x with r := .slice (some ⟨R.r, 0, none⟩) m 0 }).toArray rfl rfl (there_row (xU HS4).res) info18 (one18 _ _ _ _ _ _ _ _ _ _ _ ({ R.v x with r := .slice (some ⟨R.r, 0, none⟩) m 0 }) (by simp [R7.v, Value.oneCell'])) ?_
   have hr := row_all (n := 18) (lV { x with keeper := 1, ops := (x.ops + 1) } { R.v x with r := .slice (some ⟨R.r, 0, none⟩) m 0 }) rfl (xU HS4).res
   have hcw := so_cw (lo := lo) (xU HS4) (lV { x with keeper := 1, ops := (x.ops + 1) } { R.v x with r := .slice (some ⟨R.r, 0, none⟩) m 0 }) (low7R (xU HLB))
   have hxx := newExc (xU HX4) (exc_setCells W4 (w.heap.size + 1) 0 (lV { x with keeper := 1, ops := (x.ops + 1) } { R.v x with r := .slice (some ⟨R.r, 0, none⟩) m 0 })) (by omega)
   generalize W4.setCells (w.heap.size + 1) 0 _ = WE at hr hcw hxx ⊢
   have HRR := xH hr; have HCW := xH hcw; have HXX := xH hxx
   clear hr hcw hxx HS4 HX4
   go_wp2_with fail
   refine bodyPost_ret (v := .agg (lV { x with keeper := 1, ops := (x.ops + 1) } { R.v x with r := .slice (some ⟨R.r, 0, none⟩) m 0 }).toArray) (results_cell_row (P := Tryz.prog) (by rfl) _ WE (w.heap.size + 1) 26 (lV { x with keeper := 1, ops := (x.ops + 1) } { R.v x with r := .slice (some ⟨R.r, 0, none⟩) m 0 }).toArray (0, 0) _ (by rfl) (row_cells (xU HRR) rfl) Tryz.underlying26 (by rfl) info18) rfl ?_
   rw [show stK x 0 = { x with results := l, ring := x.ring.set q (j : Int), keeper := 1, ops := x.ops + 1 } from by unfold stK rgJ; rw [if_neg (by omega), if_neg (by omega), if_pos (xU HKP), xU HQ, xU HRL, ← xU HQ2]; rfl]
   exact ⟨{ R.v x with r := .slice (some ⟨R.r, 0, none⟩) m 0 }, _, rfl, xU HCW, fun _ h => h, xU HXX⟩
 · have HS1 := xH (show Sb (W0.setCell ⟨w.heap.size, 8, none⟩ (.slice (some ⟨R.r, 1, none⟩) m (cq - 1))) w.heap.size (w.heap.size + 1) { x with results := l } ({ R.v x with r := .slice (some ⟨R.r, 1, none⟩) m (cq - 1) }) (R.b) from (xU HS0).set_r (.slice (some ⟨R.r, 1, none⟩) m (cq - 1)) l (tail_zat (xU HS0).r (xU HQ) (xU HM) rfl _))
   have HX1 := xH ((xU HX0).newSet (Nat.le_refl _) 8 (.slice (some ⟨R.r, 1, none⟩) m (cq - 1)))
   have HR1 := xH ((xU HR0).keep (fun y hy => Below.heap_setCell W0 ⟨w.heap.size, 8, none⟩ (.slice (some ⟨R.r, 1, none⟩) m (cq - 1)) y (by have := xU HLT y hy; show y ≠ w.heap.size; omega)) (by rw [World.size_setCell]; exact Nat.le_refl _))
   go_upto_region 11 with fail
   generalize W0.setCell ⟨w.heap.size, 8, none⟩ (.slice (some ⟨R.r, 1, none⟩) m (cq - 1)) = W1 at HS1 HX1 HR1 ⊢
   clear ko fo HS0 HX0 HR0 
   have k10 : W1.cell? ⟨w.heap.size, 10, none⟩ = some (.slice (some ⟨R.g, 0, none⟩) n R.cg) := by rw [← xU HRL]; exact (xU HS1).box.cell (i := 10) (by omega)
   have k2 : W1.cell? ⟨w.heap.size, 2, none⟩ = some (.int .i64 (n : Int)) := by rw [← xU HWN]; exact (xU HS1).box.cell (i := 2) (by omega)
   have hgo := World.ownsRow.cellAt (xU HR1).g q (by rw [xU HRL]; omega)
   rw [zflat_map, List.getElem?_map, List.getElem?_eq_getElem (by rw [xU HRL]; exact hql)] at hgo
   obtain ⟨zo, gq⟩ : ∃ zo, W1.cell? ⟨R.g, q, none⟩ = some (.int .i64 zo) := ⟨_, hgo⟩
   have gf := World.ownsRow.frozenAt (xU HR1).g q
   clear hgo
   go_wp2_with fail
   go_region
   have HS2 := xH (show Sb (W1.setCell ⟨R.g, q, none⟩ (.int .i64 (j : Int))).drew w.heap.size (w.heap.size + 1) { x with results := l, ring := x.ring.set q (j : Int) } ({ R.v x with r := .slice (some ⟨R.r, 1, none⟩) m (cq - 1) }) (R.b) from ((xU HS1).mod_g (Exc.set _ _ _ _ (by simp [R7.b])) (x.ring.set q (j : Int)) (zat_set (own_set (xU HR1).g q (j : Int)))).on (Below.refl _ _).drew)
   have HX2 := xH (((xU HX1).trans (Exc.set (F := R.bl) W1 R.g q (.int .i64 (j : Int)) (by simp [R7.bl]))).trans (Exc.of_below (Below.refl _ _).drew))
   have HOO2 := xH (ownsRow_keepT (w' := (W1.setCell ⟨R.g, q, none⟩ (.int .i64 (j : Int))).drew) (xU HR1).o (fun y e => by simp only [R7.v, Value.ownBlock, Option.some.injEq] at e; subst e; exact Below.heap_setCell W1 ⟨R.g, q, none⟩ (.int .i64 (j : Int)) R.o (Ne.symm (ndq (xU HR1).nd 3 4 rfl rfl (by decide)))))
   generalize (W1.setCell ⟨R.g, q, none⟩ (.int .i64 (j : Int))).drew = W2 at HS2 HX2 HOO2 ⊢
   clear k10 k2 gq gf HS1 HX1 HR1 hrem hnz hnz2 hql
   go_upto_region 12 with fail
   have ko : W2.cell? ⟨w.heap.size, 9, none⟩ = some (.int .i64 x.keeper) := (xU HS2).box.cell (i := 9) (by omega)
   have fo := (xU HS2).box.frozen 9
   have HS3 := xH (show Sb (W2.setCell ⟨w.heap.size, 9, none⟩ (.int .i64 1)) w.heap.size (w.heap.size + 1) { x with results := l, ring := x.ring.set q (j : Int), keeper := 1 } ({ R.v x with r := .slice (some ⟨R.r, 1, none⟩) m (cq - 1) }) (R.b) from (xU HS2).put 9 (by omega) (.int .i64 1) rfl rfl rfl rfl rfl rfl rfl rfl)
   have HX3 := xH ((xU HX2).newSet (Nat.le_refl _) 9 (.int .i64 1))
   go_upto_region 13 with fail
   generalize W2.setCell ⟨w.heap.size, 9, none⟩ (.int .i64 1) = W3 at HS3 HX3 ⊢
   clear ko fo HS2 HX2  
   have ko : W3.cell? ⟨w.heap.size, 17, none⟩ = some (.int .i64 x.ops) := (xU HS3).box.cell (i := 17) (by omega)
   have fo := (xU HS3).box.frozen 17
   have HS4 := xH (show Sb (W3.setCell ⟨w.heap.size, 17, none⟩ (.int .i64 (x.ops + 1))) w.heap.size (w.heap.size + 1) { x with results := l, ring := x.ring.set q (j : Int), keeper := 1, ops := (x.ops + 1) } ({ R.v x with r := .slice (some ⟨R.r, 1, none⟩) m (cq - 1) }) (R.b) from (xU HS3).put 17 (by omega) (.int .i64 (x.ops + 1)) rfl rfl rfl rfl rfl rfl rfl rfl)
   have HX4 := xH ((xU HX3).newSet (Nat.le_refl _) 17 (.int .i64 (x.ops + 1)))
   go_upto_region 28 with fail
   generalize W3.setCell ⟨w.heap.size, 17, none⟩ (.int .i64 (x.ops + 1)) = W4 at HS4 HX4 ⊢
   clear ko fo HS3 HX3  hw17
   refine wp_region_list ?_
   refine wpList_load_mid rfl _ _ rfl w.heap.size 0 rfl (lV { x with keeper := 1, ops := (x.ops + 1) } { R.v x with r := .slice (some ⟨R.r, 1, none⟩) m (cq - 1) }) dd (range_row (lV { x with keeper := 1, ops := (x.ops + 1) } { R.v x with r := .slice (some ⟨R.r, 1, none⟩) m (cq - 1) }) rfl (xU HS4).box) hdu hdr info18 ?_
   refine wpList_store_mid rfl _ _ _ rfl (w.heap.size + 1) 0 (lV { x with keeper := 1, ops := (x.ops + 1) } { R.v x with r := .slice (some ⟨R.r, 1, none⟩) m (cq - 1) }).toArray rfl rfl (there_row (xU HS4).res) info18 (one18 _ _ _ _ _ _ _ _ _ _ _ ({ R.v x with r := .slice (some ⟨R.r, 1, none⟩) m (cq - 1) }) (by simp [R7.v, Value.oneCell'])) ?_
   have hr := row_all (n := 18) (lV { x with keeper := 1, ops := (x.ops + 1) } { R.v x with r := .slice (some ⟨R.r, 1, none⟩) m (cq - 1) }) rfl (xU HS4).res
   have hcw := so_cw (lo := lo) (xU HS4) (lV { x with keeper := 1, ops := (x.ops + 1) } { R.v x with r := .slice (some ⟨R.r, 1, none⟩) m (cq - 1) }) (low7R (xU HLB))
   have hxx := newExc (xU HX4) (exc_setCells W4 (w.heap.size + 1) 0 (lV { x with keeper := 1, ops := (x.ops + 1) } { R.v x with r := .slice (some ⟨R.r, 1, none⟩) m (cq - 1) })) (by omega)
   generalize W4.setCells (w.heap.size + 1) 0 _ = WE at hr hcw hxx ⊢
   have HRR := xH hr; have HCW := xH hcw; have HXX := xH hxx
   clear hr hcw hxx HS4 HX4
   go_wp2_with fail
   refine bodyPost_ret (v := .agg (lV { x with keeper := 1, ops := (x.ops + 1) } { R.v x with r := .slice (some ⟨R.r, 1, none⟩) m (cq - 1) }).toArray) (results_cell_row (P := Tryz.prog) (by rfl) _ WE (w.heap.size + 1) 26 (lV { x with keeper := 1, ops := (x.ops + 1) } { R.v x with r := .slice (some ⟨R.r, 1, none⟩) m (cq - 1) }).toArray (0, 0) _ (by rfl) (row_cells (xU HRR) rfl) Tryz.underlying26 (by rfl) info18) rfl ?_
   rw [show stK x 0 = { x with results := l, ring := x.ring.set q (j : Int), keeper := 1, ops := x.ops + 1 } from by unfold stK rgJ; rw [if_neg (by omega), if_neg (by omega), if_pos (xU HKP), xU HQ, xU HRL, ← xU HQ2]; rfl]
   exact ⟨{ R.v x with r := .slice (some ⟨R.r, 1, none⟩) m (cq - 1) }, _, rfl, xU HCW, fun _ h => h, xU HXX⟩
theorem doKeep_give (x : Cw) (R : R7) (lo : Nat) (w : World) (hR : Rw7 w lo x R) (hop : 0 ≤ x.ops ∧ x.ops ≤ 10000) (hkp : x.keeper = 2) (j : Nat) (hd : x.due = (j : Int)) (hj9 : j ≤ 1000) (hol : x.out.length ≤ 1000) (hwn : x.window = (x.ring.length : Int)) (hrl : 0 < x.ring.length) : Calls Tryz.prog 41 #[.agg (lV x (R.v x)).toArray, .int .i64 0] w fun e w' => SpEnd w w' e (stK x 0) R lo := by
 obtain ⟨dd, hdu, hdr⟩ := rowWorld
 obtain ⟨j1, hI, hI0, hI1, hI2⟩ := info_parts infoIntM
 have HI := xH hI; have HI0 := xH hI0; have HI1 := xH hI1; have HI2 := xH hI2
 clear hI hI0 hI1 hI2
 have hw17 : IntKind.i64.wrap (x.ops + 1) = x.ops + 1 := by rw [IntKind.wrap_i64]; omega
 have hw11 : IntKind.i64.wrap ((j : Int) + 1) = (j : Int) + 1 := by rw [IntKind.wrap_i64]; omega
 have HLB := xH (fun y (hy : y ∈ R.bl) => (hR.lt y hy).1)
 have HKP := xH hkp
 obtain ⟨n, hn⟩ : ∃ n, x.ring.length = n := ⟨_, rfl⟩
 have HRL := xH hn; have HWN := xH (show x.window = (n : Int) by rw [hwn, hn])
 have hn0 : 0 < n := by omega
 obtain ⟨q, hq2⟩ : ∃ q, j % n = q := ⟨_, rfl⟩
 have hql : q < n := by rw [← hq2]; exact Nat.mod_lt _ hn0
 have hrem : (j : Int).tmod (n : Int) = (q : Int) := by
  rw [Int.tmod_eq_emod_of_nonneg (by omega), ← hq2]
  simp
 have hnz : ¬ ((n : Int) = 0) := by omega
 have hnz2 : ¬ (n = 0) := by omega
 have HQ2 := xH hq2
 have HD := xH hd
 have HLT := xH (fun y (hy : y ∈ R.bl) => (hR.lt y hy).2)
 have HLO := xH (show lo ≤ w.heap.size from by have := hR.lt R.q (by simp [R7.bl]); omega)
 obtain ⟨hx0, hr0, hs0⟩ := so_pre hR
 have HX0 := xH hx0; have HR0 := xH hr0; have HS0 := xH hs0
 clear hR hx0 hr0 hs0 hkp hd hwn hrl hn hq2 
 go_enter Tryz.func41, Tryz.ntmps41
 go_upto_region 4 with fail
 generalize (w.alloc _).alloc _ = W0 at HS0 HX0 HR0 ⊢
 have k9 : W0.cell? ⟨w.heap.size, 9, none⟩ = some (.int .i64 2) := by rw [← xU HKP]; exact (xU HS0).box.cell (i := 9) (by omega)
 go_upto_region 19 with (fail)
 clear k9
 have k10 : W0.cell? ⟨w.heap.size, 10, none⟩ = some (.slice (some ⟨R.g, 0, none⟩) n R.cg) := by rw [← xU HRL]; exact (xU HS0).box.cell (i := 10) (by omega)
 have k2 : W0.cell? ⟨w.heap.size, 2, none⟩ = some (.int .i64 (n : Int)) := by rw [← xU HWN]; exact (xU HS0).box.cell (i := 2) (by omega)
 have hgo := World.ownsRow.cellAt (xU HR0).g q (by rw [xU HRL]; omega)
 rw [zflat_map, List.getElem?_map, List.getElem?_eq_getElem (by rw [xU HRL]; exact hql)] at hgo
 obtain ⟨zo, gq⟩ : ∃ zo, W0.cell? ⟨R.g, q, none⟩ = some (.int .i64 zo) := ⟨_, hgo⟩
 have gf := World.ownsRow.frozenAt (xU HR0).g q
 clear hgo
 have k11 : W0.cell? ⟨w.heap.size, 11, none⟩ = some (.int .i64 (j : Int)) := by rw [← xU HD]; exact (xU HS0).box.cell (i := 11) (by omega)
 go_wp2_with fail
 go_region
 have HS1 := xH (show Sb (W0.setCell ⟨R.g, q, none⟩ (.int .i64 (-1))).drew w.heap.size (w.heap.size + 1) { x with ring := x.ring.set q (-1) } (R.v x) (R.b) from ((xU HS0).mod_g (Exc.set _ _ _ _ (by simp [R7.b])) (x.ring.set q (-1)) (zat_set (own_set (xU HR0).g q (-1)))).on (Below.refl _ _).drew)
 have HX1 := xH (((xU HX0).trans (Exc.set (F := R.bl) W0 R.g q (.int .i64 (-1)) (by simp [R7.bl]))).trans (Exc.of_below (Below.refl _ _).drew))
 have HOO1 := xH (ownsRow_keepT (w' := (W0.setCell ⟨R.g, q, none⟩ (.int .i64 (-1))).drew) (xU HR0).o (fun y e => by simp only [R7.v, Value.ownBlock, Option.some.injEq] at e; subst e; exact Below.heap_setCell W0 ⟨R.g, q, none⟩ (.int .i64 (-1)) R.o (Ne.symm (ndq (xU HR0).nd 3 4 rfl rfl (by decide)))))
 generalize (W0.setCell ⟨R.g, q, none⟩ (.int .i64 (-1))).drew = W1 at HS1 HX1 HOO1 ⊢
 clear k10 k2 gq gf HS0 HX0 HR0 hrem hnz hnz2 hql k11
 have k11 : W1.cell? ⟨w.heap.size, 11, none⟩ = some (.int .i64 (j : Int)) := by rw [← xU HD]; exact (xU HS1).box.cell (i := 11) (by omega)
 go_upto_region 20 with fail
 have ko : W1.cell? ⟨w.heap.size, 12, none⟩ = some (.slice (some ⟨R.o, 0, none⟩) x.out.length R.co) := (xU HS1).box.cell (i := 12) (by omega)
 have HSZ := xH (show lo ≤ W1.heap.size from Nat.le_trans (xU HLO) (xU HX1).size)
 go_upto_region 21 with (at_builtin; refine append_row _ rfl _ _ 23 rfl lo 3 j1 (.int .i64 0) 1 8 Tryz.underlying23 (xU HI) (xU HI0) (xU HI1) (xU HI2) rfl (by decide) (.slice (some ⟨R.o, 0, none⟩) x.out.length R.co) x.out.length (x.out.map zcs).flatten rfl (World.ownsRow.alloc (xU HOO1) _) ⟨_, 0, none⟩ 1 1 [.int .i64 ((j : Int))] rfl rfl (cell_oneV _ _ _) (fun u hu => by simp at hu; subst hu; rfl) (by decide) (by unfold maxLen; omega) (by omega) (by have := xU HSZ; simp; omega) ?_; intro v' V8 ho hg hat; obtain ⟨g8, cap8, rfl, hg1, hg2⟩ := ho.form (by omega); have HG8 := xH (show lo ≤ g8 from hg1); obtain ⟨hsb, hcl, hfz, hxx⟩ := (xU HS1).app_o (z := (j : Int)) ho hg (by rcases hat with e | ⟨g, e, h⟩; exact Or.inl (Option.some.inj e); exact Or.inr (by have e2 : g8 = g := Option.some.inj e; rw [e2]; exact h)); have HS2 := xH hsb; have HX2 := xH (appExc (xU HX1) hxx (Nat.le_refl _) (by simp [R7.bl, R7.b])); clear hsb hxx ho hg hat)
 generalize V8.setCell ⟨w.heap.size, 12, none⟩ (.slice (some ⟨g8, 0, none⟩) (x.out.length + 1) cap8) = W2 at HS2 HX2 ⊢
 clear ko hcl hfz HSZ HS1 HX1 HOO1 k11
 have ko : W2.cell? ⟨w.heap.size, 11, none⟩ = some (.int .i64 (j : Int)) := by rw [← xU HD]; exact (xU HS2).box.cell (i := 11) (by omega)
 have fo := (xU HS2).box.frozen 11
 have HS3 := xH (show Sb (W2.setCell ⟨w.heap.size, 11, none⟩ (.int .i64 ((j : Int) + 1))) w.heap.size (w.heap.size + 1) { x with ring := x.ring.set q (-1), out := x.out ++ [(j : Int)], due := ((j : Int) + 1) } ({ R.v x with o := .slice (some ⟨g8, 0, none⟩) (x.out.length + 1) cap8 }) ({ R.b with o := g8 }) from (xU HS2).put 11 (by omega) (.int .i64 ((j : Int) + 1)) rfl rfl rfl rfl rfl rfl rfl rfl)
 have HX3 := xH ((xU HX2).newSet (Nat.le_refl _) 11 (.int .i64 ((j : Int) + 1)))
 go_upto_region 22 with fail
 generalize W2.setCell ⟨w.heap.size, 11, none⟩ (.int .i64 ((j : Int) + 1)) = W3 at HS3 HX3 ⊢
 clear fo HS2 HX2  ko hw11
 have ko : W3.cell? ⟨w.heap.size, 9, none⟩ = some (.int .i64 x.keeper) := (xU HS3).box.cell (i := 9) (by omega)
 have fo := (xU HS3).box.frozen 9
 have HS4 := xH (show Sb (W3.setCell ⟨w.heap.size, 9, none⟩ (.int .i64 3)) w.heap.size (w.heap.size + 1) { x with ring := x.ring.set q (-1), out := x.out ++ [(j : Int)], due := ((j : Int) + 1), keeper := 3 } ({ R.v x with o := .slice (some ⟨g8, 0, none⟩) (x.out.length + 1) cap8 }) ({ R.b with o := g8 }) from (xU HS3).put 9 (by omega) (.int .i64 3) rfl rfl rfl rfl rfl rfl rfl rfl)
 have HX4 := xH ((xU HX3).newSet (Nat.le_refl _) 9 (.int .i64 3))
 go_upto_region 23 with fail
 generalize W3.setCell ⟨w.heap.size, 9, none⟩ (.int .i64 3) = W4 at HS4 HX4 ⊢
 clear ko fo HS3 HX3  
 have ko : W4.cell? ⟨w.heap.size, 17, none⟩ = some (.int .i64 x.ops) := (xU HS4).box.cell (i := 17) (by omega)
 have fo := (xU HS4).box.frozen 17
 have HS5 := xH (show Sb (W4.setCell ⟨w.heap.size, 17, none⟩ (.int .i64 (x.ops + 1))) w.heap.size (w.heap.size + 1) { x with ring := x.ring.set q (-1), out := x.out ++ [(j : Int)], due := ((j : Int) + 1), keeper := 3, ops := (x.ops + 1) } ({ R.v x with o := .slice (some ⟨g8, 0, none⟩) (x.out.length + 1) cap8 }) ({ R.b with o := g8 }) from (xU HS4).put 17 (by omega) (.int .i64 (x.ops + 1)) rfl rfl rfl rfl rfl rfl rfl rfl)
 have HX5 := xH ((xU HX4).newSet (Nat.le_refl _) 17 (.int .i64 (x.ops + 1)))
 go_upto_region 28 with fail
 generalize W4.setCell ⟨w.heap.size, 17, none⟩ (.int .i64 (x.ops + 1)) = W5 at HS5 HX5 ⊢
 clear ko fo HS4 HX4  hw17
 refine wp_region_list ?_
 refine wpList_load_mid rfl _ _ rfl w.heap.size 0 rfl (lV { x with keeper := 3, due := ((j : Int) + 1), ops := (x.ops + 1) } { R.v x with o := .slice (some ⟨g8, 0, none⟩) (x.out.length + 1) cap8 }) dd (range_row (lV { x with keeper := 3, due := ((j : Int) + 1), ops := (x.ops + 1) } { R.v x with o := .slice (some ⟨g8, 0, none⟩) (x.out.length + 1) cap8 }) rfl (xU HS5).box) hdu hdr info18 ?_
 refine wpList_store_mid rfl _ _ _ rfl (w.heap.size + 1) 0 (lV { x with keeper := 3, due := ((j : Int) + 1), ops := (x.ops + 1) } { R.v x with o := .slice (some ⟨g8, 0, none⟩) (x.out.length + 1) cap8 }).toArray rfl rfl (there_row (xU HS5).res) info18 (one18 _ _ _ _ _ _ _ _ _ _ _ ({ R.v x with o := .slice (some ⟨g8, 0, none⟩) (x.out.length + 1) cap8 }) (by simp [R7.v, Value.oneCell'])) ?_
 have hr := row_all (n := 18) (lV { x with keeper := 3, due := ((j : Int) + 1), ops := (x.ops + 1) } { R.v x with o := .slice (some ⟨g8, 0, none⟩) (x.out.length + 1) cap8 }) rfl (xU HS5).res
 have hcw := so_cw (lo := lo) (xU HS5) (lV { x with keeper := 3, due := ((j : Int) + 1), ops := (x.ops + 1) } { R.v x with o := .slice (some ⟨g8, 0, none⟩) (x.out.length + 1) cap8 }) (low7 (xU HLB _ R7.mq) (xU HLB _ R7.mh) (xU HLB _ R7.mr) (xU HLB _ R7.mg) (xU HG8) (xU HLB _ R7.mt) (xU HLB _ R7.ms))
 have hxx := newExc (xU HX5) (exc_setCells W5 (w.heap.size + 1) 0 (lV { x with keeper := 3, due := ((j : Int) + 1), ops := (x.ops + 1) } { R.v x with o := .slice (some ⟨g8, 0, none⟩) (x.out.length + 1) cap8 })) (by omega)
 generalize W5.setCells (w.heap.size + 1) 0 _ = WE at hr hcw hxx ⊢
 have HRR := xH hr; have HCW := xH hcw; have HXX := xH hxx
 clear hr hcw hxx HS5 HX5
 go_wp2_with fail
 refine bodyPost_ret (v := .agg (lV { x with keeper := 3, due := ((j : Int) + 1), ops := (x.ops + 1) } { R.v x with o := .slice (some ⟨g8, 0, none⟩) (x.out.length + 1) cap8 }).toArray) (results_cell_row (P := Tryz.prog) (by rfl) _ WE (w.heap.size + 1) 26 (lV { x with keeper := 3, due := ((j : Int) + 1), ops := (x.ops + 1) } { R.v x with o := .slice (some ⟨g8, 0, none⟩) (x.out.length + 1) cap8 }).toArray (0, 0) _ (by rfl) (row_cells (xU HRR) rfl) Tryz.underlying26 (by rfl) info18) rfl ?_
 rw [show stK x 0 = { x with ring := x.ring.set q (-1), out := x.out ++ [(j : Int)], due := (j : Int) + 1, keeper := 3, ops := x.ops + 1 } from by unfold stK dueAt; rw [if_neg (by omega), if_neg (by omega), if_neg (by rw [xU HKP]; omega), if_neg (by rw [xU HKP]; omega), if_pos (xU HKP), xU HD, xU HRL, ← xU HQ2]; rfl]
 exact ⟨{ R.v x with o := .slice (some ⟨g8, 0, none⟩) (x.out.length + 1) cap8 }, _, rfl, xU HCW, fun _ h => h, xU HXX⟩
end Go.Proofs.YtibgjcejddpldaaGreat
