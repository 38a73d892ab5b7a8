/- A part. -/
import Derived.Test.YtibgjcejddpldaaGreatPart36
namespace Go.Proofs.YtibgjcejddpldaaGreat
open Go Go.RowKit
set_option maxRecDepth 100000
set_option maxHeartbeats 6400000
theorem own_set {W : World} {lo g cap : Nat} {l : List Int} (h : W.ownsRow lo 3 1 (.slice (some ⟨g, 0, none⟩) l.length cap) l.length (l.map zcs).flatten) (q : Nat) (z : Int) : (W.setCell ⟨g, q, none⟩ (.int .i64 z)).ownsRow lo 3 1 (.slice (some ⟨g, 0, none⟩) (l.set q z).length cap) (l.set q z).length ((l.set q z).map zcs).flatten := by
 have := (World.ownsRow.stored h q (.int .i64 z)).1
 rw [zflat_map] at this ⊢
 rw [List.length_set, List.map_set]
 exact this
theorem zat_set {W : World} {lo g cap q : Nat} {l : List Int} {z : Int} (h : W.ownsRow lo 3 1 (.slice (some ⟨g, 0, none⟩) (l.set q z).length cap) (l.set q z).length ((l.set q z).map zcs).flatten) : ZAt (· = g) W (.slice (some ⟨g, 0, none⟩) l.length cap) (l.set q z) := by
 have := zat_own h
 rw [List.length_set] at this
 exact this
theorem exc_setCells (W : World) (b o : Nat) (cs : List Value) : Exc [b] W (W.setCells b o cs) := by
 have h := below_setCells (show 0 ≤ b by omega) cs o W (Below.refl 0 W)
 exact ⟨h.os, h.tape, h.output, h.size, fun k _ hn => heap_setCells _ _ _ _ (by simpa using hn)⟩
theorem newExc {F : List Nat} {w W W' : World} {b : Nat} (h : Exc F w W) (h2 : Exc [b] W W') (hb : w.heap.size ≤ b) : Exc F w W' :=
 ⟨h2.os.trans h.os, h2.tape.trans h.tape, h2.output.trans h.output, Nat.le_trans h.size h2.size, fun k hk hn => (h2.block k (Nat.lt_of_lt_of_le hk h.size) (by simp; omega)).trans (h.block k hk hn)⟩
theorem appExc {F : List Nat} {w W W' : World} {b q : Nat} (h : Exc F w W) (h2 : Exc [b, q] W W') (hb : w.heap.size ≤ b) (hq : q ∈ F) : Exc F w W' :=
 ⟨h2.os.trans h.os, h2.tape.trans h.tape, h2.output.trans h.output, Nat.le_trans h.size h2.size, fun k hk hn => (h2.block k (Nat.lt_of_lt_of_le hk h.size) (by simp only [List.mem_cons, List.not_mem_nil, or_false, not_or]; exact ⟨by omega, fun e => hn (e ▸ hq)⟩)).trans (h.block k hk hn)⟩
theorem so_pre {x : Cw} {R : R7} {lo : Nat} {w : World} (hR : Rw7 w lo x R) : Exc R.bl w ((w.alloc (.cells (lV x (R.v x)).toArray 26)).alloc (.cells #[.int .i64 0, .int .i64 0, .int .i64 0, .int .i64 0, .int .i64 0, .slice none 0 0, .slice none 0 0, .int .i64 0, .slice none 0 0, .int .i64 0, .slice none 0 0, .int .i64 0, .slice none 0 0, .int .i64 0, .slice none 0 0, .int .i64 0, .slice none 0 0, .int .i64 0] 26)) ∧ Rw7 ((w.alloc (.cells (lV x (R.v x)).toArray 26)).alloc (.cells #[.int .i64 0, .int .i64 0, .int .i64 0, .int .i64 0, .int .i64 0, .slice none 0 0, .slice none 0 0, .int .i64 0, .slice none 0 0, .int .i64 0, .slice none 0 0, .int .i64 0, .slice none 0 0, .int .i64 0, .slice none 0 0, .int .i64 0, .slice none 0 0, .int .i64 0] 26)) lo x R ∧ Sb ((w.alloc (.cells (lV x (R.v x)).toArray 26)).alloc (.cells #[.int .i64 0, .int .i64 0, .int .i64 0, .int .i64 0, .int .i64 0, .slice none 0 0, .slice none 0 0, .int .i64 0, .slice none 0 0, .int .i64 0, .slice none 0 0, .int .i64 0, .slice none 0 0, .int .i64 0, .slice none 0 0, .int .i64 0, .slice none 0 0, .int .i64 0] 26)) w.heap.size (w.heap.size + 1) x (R.v x) R.b := by
 have HLT := fun y (hy : y ∈ R.bl) => (hR.lt y hy).2
 have hb0 : Below w.heap.size w ((w.alloc (.cells (lV x (R.v x)).toArray 26)).alloc (.cells #[.int .i64 0, .int .i64 0, .int .i64 0, .int .i64 0, .int .i64 0, .slice none 0 0, .slice none 0 0, .int .i64 0, .slice none 0 0, .int .i64 0, .slice none 0 0, .int .i64 0, .slice none 0 0, .int .i64 0, .slice none 0 0, .int .i64 0, .slice none 0 0, .int .i64 0] 26)) := ((Below.refl _ _).alloc (Nat.le_refl _) _).alloc (by simp) _
 exact ⟨Exc.of_below hb0, hR.on hb0, (hR.on hb0).sb ((box18 w x (R.v x) 26).alloc _) (by have hr := box18 (w.alloc (.cells (lV x (R.v x)).toArray 26)) noCw nil7 26; simp only [World.size_alloc] at hr; exact hr) (by omega) (fun y hy => by have := HLT y hy; omega)⟩
theorem so_cw {W : World} {bx rs lo : Nat} {x : Cw} {v : C7} {b : B7} (h : Sb W bx rs x v b) (cs : List Value) (hl : ∀ y, y ∈ b.bl → lo ≤ y) : CwAt (fun z => lo ≤ z ∧ z < (W.setCells rs 0 cs).heap.size) (W.setCells rs 0 cs) x v := h.cw.carry (fun y hy => heap_setCells _ _ _ _ (h.bl_ne y hy).2) (fun y hy => by rw [size_setCells]; exact ⟨hl y hy, h.lt y hy⟩)
theorem R7.mq {R : R7} : R.q ∈ R.bl := by simp [R7.bl]
theorem R7.mh {R : R7} : R.h ∈ R.bl := by simp [R7.bl]
theorem R7.mr {R : R7} : R.r ∈ R.bl := by simp [R7.bl]
theorem R7.mg {R : R7} : R.g ∈ R.bl := by simp [R7.bl]
theorem R7.mo {R : R7} : R.o ∈ R.bl := by simp [R7.bl]
theorem R7.mt {R : R7} : R.t ∈ R.bl := by simp [R7.bl]
theorem R7.ms {R : R7} : R.s ∈ R.bl := by simp [R7.bl]
theorem low7R {R : R7} {lo : Nat} (h : ∀ y, y ∈ R.bl → lo ≤ y) : ∀ y, y ∈ R.b.bl → lo ≤ y := low7 (h _ R7.mq) (h _ R7.mh) (h _ R7.mr) (h _ R7.mg) (h _ R7.mo) (h _ R7.mt) (h _ R7.ms)
theorem tail_nil {W : World} {g m : Nat} {l : List Int} (hm : m = l.length) (h0 : m = 0) : ZAt (· = g) W (.slice (some ⟨g, 0, none⟩) m 0) l := by
 subst hm
 obtain rfl : l = [] := List.eq_nil_of_length_eq_zero h0
 exact ⟨_, _, rfl, by simp, fun i hi => by cases hi⟩
theorem own_room {W : World} {lo g n cap e k : Nat} {xs : List Value} (h : W.ownsRow lo e k (.slice (some ⟨g, 0, none⟩) n cap) n xs) : n ≤ cap := by
 rcases h.2 with ⟨h', _⟩ | ⟨g', cap', cur, h', _, _, h1, _⟩
 · cases h'
 · simp only [Value.slice.injEq] at h'
   obtain ⟨-, -, rfl⟩ := h'
   exact h1
theorem tail_zat {W : World} {g cap m : Nat} {z : Int} {l ll : List Int} {v : Value} (h : ZAt (· = g) W v ll) (hl : ll = z :: l) (hm : m = l.length) (hv : v = .slice (some ⟨g, 0, none⟩) ll.length cap) (cap2 : Nat) : ZAt (· = g) W (.slice (some ⟨g, 1, none⟩) m cap2) l := by
 subst hv hl hm
 obtain ⟨a, p, e, hb, hc⟩ := h
 simp only [Value.slice.injEq, List.length_map] at e
 obtain ⟨rfl, -, rfl⟩ := e
 refine ⟨_, _, by rw [List.length_map], by rw [List.length_map] at hb ⊢; rw [List.length_cons] at hb; omega, fun i hi => ⟨g, 1, rfl, rfl, fun j hj => ?_⟩⟩
 obtain ⟨b', o', e2, hb', h3⟩ := hc (i + 1) (by simp at hi ⊢; exact hi)
 simp only [Option.some.injEq, Addr.mk.injEq, and_true] at e2
 obtain ⟨rfl, rfl⟩ := e2
 have := h3 j hj
 obtain rfl : j = 0 := by omega
 rw [show 0 + (i + 1) * 1 + 0 = 1 + i * 1 + 0 by omega] at this
 rw [this]
 simp
theorem doRead_close (x : Cw) (R : R7) (lo : Nat) (k : Nat) (w : World) (hR : Rw7 w lo x R) (hop : 0 ≤ x.ops ∧ x.ops ≤ 10000) (hr : x.reader = 2) (hs : x.shut.length = 4) : Calls Tryz.prog 39 #[.agg (lV x (R.v x)).toArray, .int .i64 (k : Int)] w fun e w' => SpEnd w w' e (stR x k) R lo := by
 obtain ⟨dd, hdu, hdr⟩ := rowWorld
 have hw17 : IntKind.i64.wrap (x.ops + 1) = x.ops + 1 := by rw [IntKind.wrap_i64]; omega
 have HLB := xH (fun y (hy : y ∈ R.bl) => (hR.lt y hy).1)
 have HRR2 := xH hr
 have HSL := xH hs
 have HLT := xH (fun y (hy : y ∈ R.bl) => (hR.lt y hy).2)
 have HLO := xH (show lo ≤ w.heap.size from by have := hR.lt R.q (by simp [R7.bl]); omega)
 obtain ⟨hx0, hr0, hs0⟩ := so_pre hR
 have HX0 := xH hx0; have HR0 := xH hr0; have HS0 := xH hs0
 clear hR hx0 hr0 hs0 hr hs
 go_enter Tryz.func39, Tryz.ntmps39
 go_upto_region 4 with fail
 generalize (w.alloc _).alloc _ = W0 at HS0 HX0 HR0 ⊢
 have k4 : W0.cell? ⟨w.heap.size, 4, none⟩ = some (.int .i64 2) := by rw [← xU HRR2]; exact (xU HS0).box.cell (i := 4) (by omega)
 go_upto_region 5 with (fail)
 have fo := (xU HS0).box.frozen 4
 have ko := k4
 have HS1 := xH (show Sb (W0.setCell ⟨w.heap.size, 4, none⟩ (.int .i64 3)) w.heap.size (w.heap.size + 1) { x with reader := 3 } (R.v x) (R.b) from (xU HS0).put 4 (by omega) (.int .i64 3) rfl rfl rfl rfl rfl rfl rfl rfl)
 have HX1 := xH ((xU HX0).newSet (Nat.le_refl _) 4 (.int .i64 3))
 have HR1 := xH ((xU HR0).keep (fun y hy => Below.heap_setCell W0 ⟨w.heap.size, 4, none⟩ (.int .i64 3) y (by have := xU HLT y hy; show y ≠ w.heap.size; omega)) (by rw [World.size_setCell]; exact Nat.le_refl _))
 go_upto_region 6 with fail
 generalize W0.setCell ⟨w.heap.size, 4, none⟩ (.int .i64 3) = W1 at HS1 HX1 HR1 ⊢
 clear fo HS0 HX0 HR0 ko k4
 have k16 : W1.cell? ⟨w.heap.size, 16, none⟩ = some (.slice (some ⟨R.s, 0, none⟩) 4 R.cs) := by rw [← xU HSL]; exact (xU HS1).box.cell (i := 16) (by omega)
 have s0 : W1.cell? ⟨R.s, 0, none⟩ = some (.int .i64 (x.shut.getD 0 0)) := by
  rw [World.ownsRow.cellAt (xU HR1).s 0 (by rw [xU HSL]; omega), zflat_map, List.getElem?_map, List.getD_eq_getElem?_getD, List.getElem?_eq_getElem (by rw [xU HSL]; omega)]
  rfl
 generalize x.shut.getD 0 0 = z0 at s0
 have sf := World.ownsRow.frozenAt (xU HR1).s 0
 have HS2 := xH (show Sb (W1.setCell ⟨R.s, 0, none⟩ (.int .i64 1)) w.heap.size (w.heap.size + 1) { x with reader := 3, shut := x.shut.set 0 1 } (R.v x) (R.b) from (xU HS1).mod_s (Exc.set _ _ _ _ (by simp [R7.b])) (x.shut.set 0 1) (zat_set (own_set (xU HR1).s 0 1)))
 have HX2 := xH ((xU HX1).trans (Exc.set (F := R.bl) W1 R.s (0) (.int .i64 1) (by simp [R7.bl])))
 go_upto_region 7 with (fail)
 generalize W1.setCell ⟨R.s, 0, none⟩ (.int .i64 1) = W2 at HS2 HX2 ⊢
 clear HS1 HX1 HR1 k16 s0 sf
 have ko : W2.cell? ⟨w.heap.size, 17, none⟩ = some (.int .i64 x.ops) := (xU HS2).box.cell (i := 17) (by omega)
 have fo := (xU HS2).box.frozen 17
 have HS3 := xH (show Sb (W2.setCell ⟨w.heap.size, 17, none⟩ (.int .i64 (x.ops + 1))) w.heap.size (w.heap.size + 1) { x with reader := 3, shut := x.shut.set 0 1, ops := (x.ops + 1) } (R.v x) (R.b) from (xU HS2).put 17 (by omega) (.int .i64 (x.ops + 1)) rfl rfl rfl rfl rfl rfl rfl rfl)
 have HX3 := xH ((xU HX2).newSet (Nat.le_refl _) 17 (.int .i64 (x.ops + 1)))
 go_upto_region 15 with fail
 generalize W2.setCell ⟨w.heap.size, 17, none⟩ (.int .i64 (x.ops + 1)) = W3 at HS3 HX3 ⊢
 clear ko fo HS2 HX2  hw17
 refine wp_region_list ?_
 refine wpList_load_mid rfl _ _ rfl w.heap.size 0 rfl (lV { x with reader := 3, ops := (x.ops + 1) } (R.v x)) dd (range_row (lV { x with reader := 3, ops := (x.ops + 1) } (R.v x)) rfl (xU HS3).box) hdu hdr info18 ?_
 refine wpList_store_mid rfl _ _ _ rfl (w.heap.size + 1) 0 (lV { x with reader := 3, ops := (x.ops + 1) } (R.v x)).toArray rfl rfl (there_row (xU HS3).res) info18 (one18 _ _ _ _ _ _ _ _ _ _ _ (R.v x) (by simp [R7.v, Value.oneCell'])) ?_
 have hr := row_all (n := 18) (lV { x with reader := 3, ops := (x.ops + 1) } (R.v x)) rfl (xU HS3).res
 have hcw := so_cw (lo := lo) (xU HS3) (lV { x with reader := 3, ops := (x.ops + 1) } (R.v x)) (low7R (xU HLB))
 have hxx := newExc (xU HX3) (exc_setCells W3 (w.heap.size + 1) 0 (lV { x with reader := 3, ops := (x.ops + 1) } (R.v x))) (by omega)
 generalize W3.setCells (w.heap.size + 1) 0 _ = WE at hr hcw hxx ⊢
 have HRR := xH hr; have HCW := xH hcw; have HXX := xH hxx
 clear hr hcw hxx HS3 HX3
 go_wp2_with fail
 refine bodyPost_ret (v := .agg (lV { x with reader := 3, ops := (x.ops + 1) } (R.v x)).toArray) (results_cell_row (P := Tryz.prog) (by rfl) _ WE (w.heap.size + 1) 26 (lV { x with reader := 3, ops := (x.ops + 1) } (R.v x)).toArray (0, 0) _ (by rfl) (row_cells (xU HRR) rfl) Tryz.underlying26 (by rfl) info18) rfl ?_
 rw [show stR x k = { x with reader := 3, shut := x.shut.set 0 1, ops := x.ops + 1 } from by unfold stR; rw [if_pos (xU HRR2)]]
 exact ⟨R.v x, _, rfl, xU HCW, fun _ h => h, xU HXX⟩
theorem doRead_stop (x : Cw) (R : R7) (lo : Nat) (k : Nat) (w : World) (hR : Rw7 w lo x R) (hr : x.reader ≠ 2) (hk : 0 < k) : Calls Tryz.prog 39 #[.agg (lV x (R.v x)).toArray, .int .i64 (k : Int)] w fun e w' => SpEnd w w' e (stR x k) R lo := by
 obtain ⟨dd, hdu, hdr⟩ := rowWorld
 have HLB := xH (fun y (hy : y ∈ R.bl) => (hR.lt y hy).1)
 have HRR2 := xH hr; have HK := xH hk
 have z2 : (x.reader == 2) = false := by simp [hr]
 have HLT := xH (fun y (hy : y ∈ R.bl) => (hR.lt y hy).2)
 have HLO := xH (show lo ≤ w.heap.size from by have := hR.lt R.q (by simp [R7.bl]); omega)
 obtain ⟨hx0, hr0, hs0⟩ := so_pre hR
 have HX0 := xH hx0; have HR0 := xH hr0; have HS0 := xH hs0
 clear hR hx0 hr0 hs0 hr
 go_enter Tryz.func39, Tryz.ntmps39
 go_upto_region 4 with fail
 generalize (w.alloc _).alloc _ = W0 at HS0 HX0 HR0 ⊢
 have k4 : W0.cell? ⟨w.heap.size, 4, none⟩ = some (.int .i64 x.reader) := (xU HS0).box.cell (i := 4) (by omega)
 go_upto_region 9 with (fail)
 have fo := (xU HS0).box.frozen 4
 have ko := k4
 have HS1 := xH (show Sb (W0.setCell ⟨w.heap.size, 4, none⟩ (.int .i64 2)) w.heap.size (w.heap.size + 1) { x with reader := 2 } (R.v x) (R.b) from (xU HS0).put 4 (by omega) (.int .i64 2) rfl rfl rfl rfl rfl rfl rfl rfl)
 have HX1 := xH ((xU HX0).newSet (Nat.le_refl _) 4 (.int .i64 2))
 have HR1 := xH ((xU HR0).keep (fun y hy => Below.heap_setCell W0 ⟨w.heap.size, 4, none⟩ (.int .i64 2) y (by have := xU HLT y hy; show y ≠ w.heap.size; omega)) (by rw [World.size_setCell]; exact Nat.le_refl _))
 go_upto_region 15 with fail
 generalize W0.setCell ⟨w.heap.size, 4, none⟩ (.int .i64 2) = W1 at HS1 HX1 HR1 ⊢
 clear fo HS0 HX0 HR0 ko k4 z2
 refine wp_region_list ?_
 refine wpList_load_mid rfl _ _ rfl w.heap.size 0 rfl (lV { x with reader := 2 } (R.v x)) dd (range_row (lV { x with reader := 2 } (R.v x)) rfl (xU HS1).box) hdu hdr info18 ?_
 refine wpList_store_mid rfl _ _ _ rfl (w.heap.size + 1) 0 (lV { x with reader := 2 } (R.v x)).toArray rfl rfl (there_row (xU HS1).res) info18 (one18 _ _ _ _ _ _ _ _ _ _ _ (R.v x) (by simp [R7.v, Value.oneCell'])) ?_
 have hr := row_all (n := 18) (lV { x with reader := 2 } (R.v x)) rfl (xU HS1).res
 have hcw := so_cw (lo := lo) (xU HS1) (lV { x with reader := 2 } (R.v x)) (low7R (xU HLB))
 have hxx := newExc (xU HX1) (exc_setCells W1 (w.heap.size + 1) 0 (lV { x with reader := 2 } (R.v x))) (by omega)
 generalize W1.setCells (w.heap.size + 1) 0 _ = WE at hr hcw hxx ⊢
 have HRR := xH hr; have HCW := xH hcw; have HXX := xH hxx
 clear hr hcw hxx HS1 HX1
 go_wp2_with fail
 refine bodyPost_ret (v := .agg (lV { x with reader := 2 } (R.v x)).toArray) (results_cell_row (P := Tryz.prog) (by rfl) _ WE (w.heap.size + 1) 26 (lV { x with reader := 2 } (R.v x)).toArray (0, 0) _ (by rfl) (row_cells (xU HRR) rfl) Tryz.underlying26 (by rfl) info18) rfl ?_
 rw [show stR x k = { x with reader := 2 } from by unfold stR; rw [if_neg (xU HRR2), if_pos (xU HK)]]
 exact ⟨R.v x, _, rfl, xU HCW, fun _ h => h, xU HXX⟩
theorem doRead_room (x : Cw) (R : R7) (lo : Nat) (w : World) (hR : Rw7 w lo x R) (hop : 0 ≤ x.ops ∧ x.ops ≤ 10000) (hr : x.reader = 0) (hro : 0 ≤ x.room ∧ x.room ≤ 1000) (hnx : 0 ≤ x.next ∧ x.next ≤ 1000) : Calls Tryz.prog 39 #[.agg (lV x (R.v x)).toArray, .int .i64 0] w fun e w' => SpEnd w w' e (stR x 0) R lo := by
 obtain ⟨dd, hdu, hdr⟩ := rowWorld
 have hw17 : IntKind.i64.wrap (x.ops + 1) = x.ops + 1 := by rw [IntKind.wrap_i64]; omega
 have hw15 : IntKind.i64.wrap (x.room - 1) = x.room - 1 := by rw [IntKind.wrap_i64]; omega
 have hw3 : IntKind.i64.wrap (x.next + 1) = x.next + 1 := by rw [IntKind.wrap_i64]; omega
 have HLB := xH (fun y (hy : y ∈ R.bl) => (hR.lt y hy).1)
 have HRR2 := xH hr
 have HLT := xH (fun y (hy : y ∈ R.bl) => (hR.lt y hy).2)
 have HLO := xH (show lo ≤ w.heap.size from by have := hR.lt R.q (by simp [R7.bl]); omega)
 obtain ⟨hx0, hr0, hs0⟩ := so_pre hR
 have HX0 := xH hx0; have HR0 := xH hr0; have HS0 := xH hs0
 clear hR hx0 hr0 hs0 hr
 go_enter Tryz.func39, Tryz.ntmps39
 go_upto_region 4 with fail
 generalize (w.alloc _).alloc _ = W0 at HS0 HX0 HR0 ⊢
 have k4 : W0.cell? ⟨w.heap.size, 4, none⟩ = some (.int .i64 0) := by rw [← xU HRR2]; exact (xU HS0).box.cell (i := 4) (by omega)
 go_upto_region 11 with (fail)
 clear k4
 have ko : W0.cell? ⟨w.heap.size, 15, none⟩ = some (.int .i64 x.room) := (xU HS0).box.cell (i := 15) (by omega)
 have fo := (xU HS0).box.frozen 15
 have HS1 := xH (show Sb (W0.setCell ⟨w.heap.size, 15, none⟩ (.int .i64 (x.room - 1))) w.heap.size (w.heap.size + 1) { x with room := (x.room - 1) } (R.v x) (R.b) from (xU HS0).put 15 (by omega) (.int .i64 (x.room - 1)) rfl rfl rfl rfl rfl rfl rfl rfl)
 have HX1 := xH ((xU HX0).newSet (Nat.le_refl _) 15 (.int .i64 (x.room - 1)))
 have HR1 := xH ((xU HR0).keep (fun y hy => Below.heap_setCell W0 ⟨w.heap.size, 15, none⟩ (.int .i64 (x.room - 1)) y (by have := xU HLT y hy; show y ≠ w.heap.size; omega)) (by rw [World.size_setCell]; exact Nat.le_refl _))
 go_upto_region 12 with fail
 generalize W0.setCell ⟨w.heap.size, 15, none⟩ (.int .i64 (x.room - 1)) = W1 at HS1 HX1 HR1 ⊢
 clear ko fo HS0 HX0 HR0 hw15
 have ko : W1.cell? ⟨w.heap.size, 3, none⟩ = some (.int .i64 x.next) := (xU HS1).box.cell (i := 3) (by omega)
 have fo := (xU HS1).box.frozen 3
 have HS2 := xH (show Sb (W1.setCell ⟨w.heap.size, 3, none⟩ (.int .i64 (x.next + 1))) w.heap.size (w.heap.size + 1) { x with room := (x.room - 1), next := (x.next + 1) } (R.v x) (R.b) from (xU HS1).put 3 (by omega) (.int .i64 (x.next + 1)) rfl rfl rfl rfl rfl rfl rfl rfl)
 have HX2 := xH ((xU HX1).newSet (Nat.le_refl _) 3 (.int .i64 (x.next + 1)))
 have HR2 := xH ((xU HR1).keep (fun y hy => Below.heap_setCell W1 ⟨w.heap.size, 3, none⟩ (.int .i64 (x.next + 1)) y (by have := xU HLT y hy; show y ≠ w.heap.size; omega)) (by rw [World.size_setCell]; exact Nat.le_refl _))
 go_upto_region 13 with fail
 generalize W1.setCell ⟨w.heap.size, 3, none⟩ (.int .i64 (x.next + 1)) = W2 at HS2 HX2 HR2 ⊢
 clear ko fo HS1 HX1 HR1 hw3
 have ko : W2.cell? ⟨w.heap.size, 4, none⟩ = some (.int .i64 x.reader) := (xU HS2).box.cell (i := 4) (by omega)
 have fo := (xU HS2).box.frozen 4
 have HS3 := xH (show Sb (W2.setCell ⟨w.heap.size, 4, none⟩ (.int .i64 1)) w.heap.size (w.heap.size + 1) { x with room := (x.room - 1), next := (x.next + 1), reader := 1 } (R.v x) (R.b) from (xU HS2).put 4 (by omega) (.int .i64 1) rfl rfl rfl rfl rfl rfl rfl rfl)
 have HX3 := xH ((xU HX2).newSet (Nat.le_refl _) 4 (.int .i64 1))
 have HR3 := xH ((xU HR2).keep (fun y hy => Below.heap_setCell W2 ⟨w.heap.size, 4, none⟩ (.int .i64 1) y (by have := xU HLT y hy; show y ≠ w.heap.size; omega)) (by rw [World.size_setCell]; exact Nat.le_refl _))
 go_upto_region 14 with fail
 generalize W2.setCell ⟨w.heap.size, 4, none⟩ (.int .i64 1) = W3 at HS3 HX3 HR3 ⊢
 clear ko fo HS2 HX2 HR2 
 have ko : W3.cell? ⟨w.heap.size, 17, none⟩ = some (.int .i64 x.ops) := (xU HS3).box.cell (i := 17) (by omega)
 have fo := (xU HS3).box.frozen 17
 have HS4 := xH (show Sb (W3.setCell ⟨w.heap.size, 17, none⟩ (.int .i64 (x.ops + 1))) w.heap.size (w.heap.size + 1) { x with room := (x.room - 1), next := (x.next + 1), reader := 1, ops := (x.ops + 1) } (R.v x) (R.b) from (xU HS3).put 17 (by omega) (.int .i64 (x.ops + 1)) rfl rfl rfl rfl rfl rfl rfl rfl)
 have HX4 := xH ((xU HX3).newSet (Nat.le_refl _) 17 (.int .i64 (x.ops + 1)))
 have HR4 := xH ((xU HR3).keep (fun y hy => Below.heap_setCell W3 ⟨w.heap.size, 17, none⟩ (.int .i64 (x.ops + 1)) y (by have := xU HLT y hy; show y ≠ w.heap.size; omega)) (by rw [World.size_setCell]; exact Nat.le_refl _))
 go_upto_region 15 with fail
 generalize W3.setCell ⟨w.heap.size, 17, none⟩ (.int .i64 (x.ops + 1)) = W4 at HS4 HX4 HR4 ⊢
 clear ko fo HS3 HX3 HR3 hw17
 refine wp_region_list ?_
 refine wpList_load_mid rfl _ _ rfl w.heap.size 0 rfl (lV { x with next := (x.next + 1), reader := 1, room := (x.room - 1), ops := (x.ops + 1) } (R.v x)) dd (range_row (lV { x with next := (x.next + 1), reader := 1, room := (x.room - 1), ops := (x.ops + 1) } (R.v x)) rfl (xU HS4).box) hdu hdr info18 ?_
 refine wpList_store_mid rfl _ _ _ rfl (w.heap.size + 1) 0 (lV { x with next := (x.next + 1), reader := 1, room := (x.room - 1), ops := (x.ops + 1) } (R.v x)).toArray rfl rfl (there_row (xU HS4).res) info18 (one18 _ _ _ _ _ _ _ _ _ _ _ (R.v x) (by simp [R7.v, Value.oneCell'])) ?_
 have hr := row_all (n := 18) (lV { x with next := (x.next + 1), reader := 1, room := (x.room - 1), ops := (x.ops + 1) } (R.v x)) rfl (xU HS4).res
 have hcw := so_cw (lo := lo) (xU HS4) (lV { x with next := (x.next + 1), reader := 1, room := (x.room - 1), ops := (x.ops + 1) } (R.v x)) (low7R (xU HLB))
 have hxx := newExc (xU HX4) (exc_setCells W4 (w.heap.size + 1) 0 (lV { x with next := (x.next + 1), reader := 1, room := (x.room - 1), ops := (x.ops + 1) } (R.v x))) (by omega)
 generalize W4.setCells (w.heap.size + 1) 0 _ = WE at hr hcw hxx ⊢
 have HRR := xH hr; have HCW := xH hcw; have HXX := xH hxx
 clear hr hcw hxx HS4 HX4
 go_wp2_with fail
 refine bodyPost_ret (v := .agg (lV { x with next := (x.next + 1), reader := 1, room := (x.room - 1), ops := (x.ops + 1) } (R.v x)).toArray) (results_cell_row (P := Tryz.prog) (by rfl) _ WE (w.heap.size + 1) 26 (lV { x with next := (x.next + 1), reader := 1, room := (x.room - 1), ops := (x.ops + 1) } (R.v x)).toArray (0, 0) _ (by rfl) (row_cells (xU HRR) rfl) Tryz.underlying26 (by rfl) info18) rfl ?_
 rw [show stR x 0 = { x with room := x.room - 1, next := x.next + 1, reader := 1, ops := x.ops + 1 } from by unfold stR; rw [if_neg (by rw [xU HRR2]; omega), if_neg (by omega), if_pos (xU HRR2)]]
 exact ⟨R.v x, _, rfl, xU HCW, fun _ h => h, xU HXX⟩
theorem doRead_send (x : Cw) (R : R7) (lo : Nat) (w : World) (hR : Rw7 w lo x R) (hop : 0 ≤ x.ops ∧ x.ops ≤ 10000) (hr : x.reader = 1) (hq : x.queue.length ≤ 1000) (hnx : 0 ≤ x.next ∧ x.next ≤ 1000) : Calls Tryz.prog 39 #[.agg (lV x (R.v x)).toArray, .int .i64 0] w fun e w' => SpEnd w w' e (stR x 0) R lo := by
 obtain ⟨dd, hdu, hdr⟩ := rowWorld
 obtain ⟨j1, hI, hI0, hI1, hI2⟩ := info_parts infoIntM
 have HI := xH hI; have HI0 := xH hI0; have HI1 := xH hI1; have HI2 := xH hI2
 clear hI hI0 hI1 hI2
 have hw17 : IntKind.i64.wrap (x.ops + 1) = x.ops + 1 := by rw [IntKind.wrap_i64]; omega
 have hw3 : IntKind.i64.wrap (x.next - 1) = x.next - 1 := by rw [IntKind.wrap_i64]; omega
 have HLB := xH (fun y (hy : y ∈ R.bl) => (hR.lt y hy).1)
 have HRR2 := xH hr
 have HLT := xH (fun y (hy : y ∈ R.bl) => (hR.lt y hy).2)
 have HLO := xH (show lo ≤ w.heap.size from by have := hR.lt R.q (by simp [R7.bl]); omega)
 obtain ⟨hx0, hr0, hs0⟩ := so_pre hR
 have HX0 := xH hx0; have HR0 := xH hr0; have HS0 := xH hs0
 clear hR hx0 hr0 hs0 hr
 go_enter Tryz.func39, Tryz.ntmps39
 go_upto_region 4 with fail
 generalize (w.alloc _).alloc _ = W0 at HS0 HX0 HR0 ⊢
 have k4 : W0.cell? ⟨w.heap.size, 4, none⟩ = some (.int .i64 1) := by rw [← xU HRR2]; exact (xU HS0).box.cell (i := 4) (by omega)
 go_upto_region 1 with (fail)
 clear k4
 have k3 : W0.cell? ⟨w.heap.size, 3, none⟩ = some (.int .i64 x.next) := (xU HS0).box.cell (i := 3) (by omega)
 have ko : W0.cell? ⟨w.heap.size, 5, none⟩ = some (.slice (some ⟨R.q, 0, none⟩) x.queue.length R.cq) := (xU HS0).box.cell (i := 5) (by omega)
 have HSZ := xH (show lo ≤ W0.heap.size from Nat.le_trans (xU HLO) (xU HX0).size)
 go_upto_region 2 with (at_builtin; refine append_row _ rfl _ _ 23 rfl lo 3 j1 (.int .i64 0) 1 8 Tryz.underlying23 (xU HI) (xU HI0) (xU HI1) (xU HI2) rfl (by decide) (.slice (some ⟨R.q, 0, none⟩) x.queue.length R.cq) x.queue.length (x.queue.map zcs).flatten rfl (World.ownsRow.alloc (xU HR0).q _) ⟨_, 0, none⟩ 1 1 [.int .i64 (x.next - 1)] rfl rfl (cell_oneV _ _ _) (fun u hu => by simp at hu; subst hu; rfl) (by decide) (by unfold maxLen; omega) (by omega) (by have := xU HSZ; simp; omega) ?_; intro v' V8 ho hg hat; obtain ⟨g8, cap8, rfl, hg1, hg2⟩ := ho.form (by omega); have HG8 := xH (show lo ≤ g8 from hg1); obtain ⟨hsb, hcl, hfz, hxx⟩ := (xU HS0).app_q (z := x.next - 1) ho hg (by rcases hat with e | ⟨g, e, h⟩; exact Or.inl (Option.some.inj e); exact Or.inr (by have e2 : g8 = g := Option.some.inj e; rw [e2]; exact h)); have HS1 := xH hsb; have HX1 := xH (appExc (xU HX0) hxx (Nat.le_refl _) (by simp [R7.bl, R7.b])); clear hsb hxx ho hg hat)
 generalize V8.setCell ⟨w.heap.size, 5, none⟩ (.slice (some ⟨g8, 0, none⟩) (x.queue.length + 1) cap8) = W1 at HS1 HX1 ⊢
 clear ko hcl hfz HSZ HS0 HX0 HR0 k3 hw3
 have ko : W1.cell? ⟨w.heap.size, 4, none⟩ = some (.int .i64 x.reader) := (xU HS1).box.cell (i := 4) (by omega)
 have fo := (xU HS1).box.frozen 4
 have HS2 := xH (show Sb (W1.setCell ⟨w.heap.size, 4, none⟩ (.int .i64 0)) w.heap.size (w.heap.size + 1) { x with queue := x.queue ++ [x.next - 1], reader := 0 } ({ R.v x with q := .slice (some ⟨g8, 0, none⟩) (x.queue.length + 1) cap8 }) ({ R.b with q := g8 }) from (xU HS1).put 4 (by omega) (.int .i64 0) rfl rfl rfl rfl rfl rfl rfl rfl)
 have HX2 := xH ((xU HX1).newSet (Nat.le_refl _) 4 (.int .i64 0))
 go_upto_region 3 with fail
 generalize W1.setCell ⟨w.heap.size, 4, none⟩ (.int .i64 0) = W2 at HS2 HX2 ⊢
 clear ko fo HS1 HX1  
 have ko : W2.cell? ⟨w.heap.size, 17, none⟩ = some (.int .i64 x.ops) := (xU HS2).box.cell (i := 17) (by omega)
 have fo := (xU HS2).box.frozen 17
 have HS3 := xH (show Sb (W2.setCell ⟨w.heap.size, 17, none⟩ (.int .i64 (x.ops + 1))) w.heap.size (w.heap.size + 1) { x with queue := x.queue ++ [x.next - 1], reader := 0, ops := (x.ops + 1) } ({ R.v x with q := .slice (some ⟨g8, 0, none⟩) (x.queue.length + 1) cap8 }) ({ R.b with q := g8 }) from (xU HS2).put 17 (by omega) (.int .i64 (x.ops + 1)) rfl rfl rfl rfl rfl rfl rfl rfl)
 have HX3 := xH ((xU HX2).newSet (Nat.le_refl _) 17 (.int .i64 (x.ops + 1)))
 go_upto_region 15 with fail
 generalize W2.setCell ⟨w.heap.size, 17, none⟩ (.int .i64 (x.ops + 1)) = W3 at HS3 HX3 ⊢
 clear ko fo HS2 HX2  hw17
 refine wp_region_list ?_
 refine wpList_load_mid rfl _ _ rfl w.heap.size 0 rfl (lV { x with reader := 0, ops := (x.ops + 1) } { R.v x with q := .slice (some ⟨g8, 0, none⟩) (x.queue.length + 1) cap8 }) dd (range_row (lV { x with reader := 0, ops := (x.ops + 1) } { R.v x with q := .slice (some ⟨g8, 0, none⟩) (x.queue.length + 1) cap8 }) rfl (xU HS3).box) hdu hdr info18 ?_
 refine wpList_store_mid rfl _ _ _ rfl (w.heap.size + 1) 0 (lV { x with reader := 0, ops := (x.ops + 1) } { R.v x with q := .slice (some ⟨g8, 0, none⟩) (x.queue.length + 1) cap8 }).toArray rfl rfl (there_row (xU HS3).res) info18 (one18 _ _ _ _ _ _ _ _ _ _ _ ({ R.v x with q := .slice (some ⟨g8, 0, none⟩) (x.queue.length + 1) cap8 }) (by simp [R7.v, Value.oneCell'])) ?_
 have hr := row_all (n := 18) (lV { x with reader := 0, ops := (x.ops + 1) } { R.v x with q := .slice (some ⟨g8, 0, none⟩) (x.queue.length + 1) cap8 }) rfl (xU HS3).res
 have hcw := so_cw (lo := lo) (xU HS3) (lV { x with reader := 0, ops := (x.ops + 1) } { R.v x with q := .slice (some ⟨g8, 0, none⟩) (x.queue.length + 1) cap8 }) (low7 (xU HG8) (xU HLB _ R7.mh) (xU HLB _ R7.mr) (xU HLB _ R7.mg) (xU HLB _ R7.mo) (xU HLB _ R7.mt) (xU HLB _ R7.ms))
 have hxx := newExc (xU HX3) (exc_setCells W3 (w.heap.size + 1) 0 (lV { x with reader := 0, ops := (x.ops + 1) } { R.v x with q := .slice (some ⟨g8, 0, none⟩) (x.queue.length + 1) cap8 })) (by omega)
 generalize W3.setCells (w.heap.size + 1) 0 _ = WE at hr hcw hxx ⊢
 have HRR := xH hr; have HCW := xH hcw; have HXX := xH hxx
 clear hr hcw hxx HS3 HX3
 go_wp2_with fail
 refine bodyPost_ret (v := .agg (lV { x with reader := 0, ops := (x.ops + 1) } { R.v x with q := .slice (some ⟨g8, 0, none⟩) (x.queue.length + 1) cap8 }).toArray) (results_cell_row (P := Tryz.prog) (by rfl) _ WE (w.heap.size + 1) 26 (lV { x with reader := 0, ops := (x.ops + 1) } { R.v x with q := .slice (some ⟨g8, 0, none⟩) (x.queue.length + 1) cap8 }).toArray (0, 0) _ (by rfl) (row_cells (xU HRR) rfl) Tryz.underlying26 (by rfl) info18) rfl ?_
 rw [show stR x 0 = { x with queue := x.queue ++ [x.next - 1], reader := 0, ops := x.ops + 1 } from by unfold stR; rw [if_neg (by rw [xU HRR2]; omega), if_neg (by omega), if_neg (by rw [xU HRR2]; omega)]]
 exact ⟨{ R.v x with q := .slice (some ⟨g8, 0, none⟩) (x.queue.length + 1) cap8 }, _, rfl, xU HCW, fun _ h => h, xU HXX⟩
end Go.Proofs.YtibgjcejddpldaaGreat
