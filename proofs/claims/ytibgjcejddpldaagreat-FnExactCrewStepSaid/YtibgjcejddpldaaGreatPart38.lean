/- A part. -/
import Derived.Test.YtibgjcejddpldaaGreatPart37
namespace Go.Proofs.YtibgjcejddpldaaGreat
open Go Go.RowKit
set_option maxRecDepth 100000
set_option maxHeartbeats 6400000
theorem hflat_set (s j : Int) : ∀ (hs : List Hd) (i : Nat), i < hs.length → (((hs.map Hd.cs).flatten.set (i * 2) (.int .i64 s)).set (i * 2 + 1) (.int .i64 j)) = ((hs.set i ⟨s, j⟩).map Hd.cs).flatten
 | [], i, hi => by cases hi
 | h :: r, 0, _ => rfl
 | h :: r, i + 1, hi => by
     have := hflat_set s j r i (by simpa using hi)
     rw [show (i + 1) * 2 = i * 2 + 2 by omega, List.set_cons_succ, List.map_cons, List.map_cons, List.flatten_cons, List.flatten_cons, ← this]
     rfl
theorem hat_set {W : World} {lo g cap i : Nat} {l : List Hd} (h : W.ownsRow lo 73 2 (.slice (some ⟨g, 0, none⟩) l.length cap) l.length (l.map Hd.cs).flatten) (hi : i < l.length) (s j : Int) : HAt (· = g) ((W.setCell ⟨g, i * 2, none⟩ (.int .i64 s)).setCell ⟨g, i * 2 + 1, none⟩ (.int .i64 j)) (.slice (some ⟨g, 0, none⟩) l.length cap) (l.set i ⟨s, j⟩) := by
 have h1 := (World.ownsRow.stored (World.ownsRow.stored h (i * 2) (.int .i64 s)).1 (i * 2 + 1) (.int .i64 j)).1
 rw [hflat_set s j l i hi] at h1
 have := hat_own (l := l.set i ⟨s, j⟩) (W := (W.setCell ⟨g, i * 2, none⟩ (.int .i64 s)).setCell ⟨g, i * 2 + 1, none⟩ (.int .i64 j)) (lo := lo) (g := g) (cap := cap) (by rw [List.length_set]; exact h1)
 rw [List.length_set] at this
 exact this
theorem g8_ne {g8 g n cap r N : Nat} (hat : (Value.slice (some ⟨g8, 0, none⟩) n cap).ownBlock = (Value.slice (some ⟨r, 0, none⟩) n cap).ownBlock ∨ ∃ g2, (Value.slice (some ⟨g8, 0, none⟩) n cap).ownBlock = some g2 ∧ N ≤ g2) (h1 : g < N) (h2 : r < g) : g8 ≠ g := by
 rcases hat with e | ⟨g2, e, h⟩
 · have : g8 = r := Option.some.inj e
   omega
 · have : g8 = g2 := Option.some.inj e
   omega
theorem bl_ne_g {R : R7} {n g g8 : Nat} (hlt : ∀ y, y ∈ R.bl → y < n) (hg : n ≤ g) (hgg : g8 ≠ g) : ∀ y, y ∈ ({ R.b with r := g8 } : B7).bl → y ≠ g := fun y hy => by
 simp only [R7.bl, List.mem_cons, List.not_mem_nil, or_false] at hlt
 simp only [B7.bl, R7.b, List.mem_cons, List.not_mem_nil, or_false] at hy
 rcases hy with e | e | e | e | e | e | e
 · have := hlt R.q (by simp); omega
 · have := hlt R.h (by simp); omega
 · omega
 · have := hlt R.g (by simp); omega
 · have := hlt R.o (by simp); omega
 · have := hlt R.t (by simp); omega
 · have := hlt R.s (by simp); omega
theorem own_hand {W : World} {lo g cap i : Nat} {l : List Hd} (h : W.ownsRow lo 73 2 (.slice (some ⟨g, 0, none⟩) l.length cap) l.length (l.map Hd.cs).flatten) (hi : i < l.length) : W.cell? ⟨g, i * 2, none⟩ = some (.int .i64 (l.getD i ⟨0, 0⟩).state) ∧ W.cell? ⟨g, i * 2 + 1, none⟩ = some (.int .i64 (l.getD i ⟨0, 0⟩).job) := by
 obtain ⟨h0, h1⟩ := hflat_at l i hi
 have hfl : (l.map Hd.cs).flatten.length = l.length * 2 := h.1
 have e : ∀ q, q < l.length * 2 → W.cell? ⟨g, q, none⟩ = some (r18 (l.map Hd.cs).flatten q) := fun q hq => by
  rw [World.ownsRow.cellAt h q (by omega)]
  unfold r18
  rw [List.getD_eq_getElem?_getD, List.getElem?_eq_getElem (by omega)]
  rfl
 have eg : l.getD i ⟨0, 0⟩ = l[i] := by rw [List.getD_eq_getElem?_getD, List.getElem?_eq_getElem hi]; rfl
 rw [eg]
 exact ⟨by rw [e _ (by omega), h0], by rw [e _ (by omega), h1]⟩
theorem doWork_end (x : Cw) (R : R7) (lo : Nat) (i : Nat) (w : World) (hR : Rw7 w lo x R) (hi : i < x.hands.length) : Calls Tryz.prog 40 #[.agg (lV x (R.v x)).toArray, .int .i64 (i : Int), .int .i64 1] w fun e w' => SpEnd w w' e (stW x i 1) R lo := by
 obtain ⟨dd, hdu, hdr⟩ := rowWorld
 have HLB := xH (fun y (hy : y ∈ R.bl) => (hR.lt y hy).1)
 have HIX := xH hi
 have HJB := xH (True.intro); have HST := xH (True.intro)
 have HLT := xH (fun y (hy : y ∈ R.bl) => (hR.lt y hy).2)
 have HLO := xH (show lo ≤ w.heap.size from by have := hR.lt R.q (by simp [R7.bl]); omega)
 obtain ⟨hx0, hr0, hs0⟩ := so_pre hR
 have HX0 := xH hx0; have HR0 := xH hr0; have HS0 := xH hs0
 clear hR hx0 hr0 hs0 hi 
 go_enter Tryz.func40, Tryz.ntmps40
 go_upto_region 1 with fail
 generalize (w.alloc _).alloc _ = W0 at HS0 HX0 HR0 ⊢
 obtain ⟨e0, e1⟩ := own_hand (i := i) (xU HR0).h (xU HIX)
 have k6 : W0.cell? ⟨w.heap.size, 6, none⟩ = some (.slice (some ⟨R.h, 0, none⟩) x.hands.length R.ch) := (xU HS0).box.cell (i := 6) (by omega)
 have hi2 := xU HIX
 generalize (x.hands.getD i ⟨0, 0⟩).job = jb at e1 HJB
 generalize (x.hands.getD i ⟨0, 0⟩).state = sh at e0 HST
 go_upto_region 5 with fail
 have hbg : Below W0.heap.size W0 (W0.alloc (.cells #[.int .i64 sh, .int .i64 jb] 73)) := (Below.refl _ _).alloc (Nat.le_refl _) _
 have HS1 := xH ((xU HS0).on hbg); have HX1 := xH ((xU HX0).trans (Exc.of_below hbg)); have HR1 := xH ((xU HR0).on hbg)
 have HH1 := xH (show (W0.alloc (.cells #[.int .i64 sh, .int .i64 jb] 73)).rowIs W0.heap.size 73 2 (r18 [.int .i64 sh, .int .i64 jb]) from World.rowIs_alloc W0 #[.int .i64 sh, .int .i64 jb] 73 (r18 [.int .i64 sh, .int .i64 jb]) (fun j hj => by
  rcases (show j = 0 ∨ j = 1 by simp at hj; omega) with rfl | rfl <;> rfl))
 have HG := xH (show w.heap.size + 2 ≤ W0.heap.size from (xU HS0).res.lt)
 generalize W0.alloc (.cells #[.int .i64 sh, .int .i64 jb] 73) = W1 at HS1 HX1 HR1 HH1 ⊢
 generalize W0.heap.size = g at HH1 HG ⊢
 have HO1 := xH (xU HR1).h
 clear e0 e1 k6 hbg HS0 HX0 HR0 hi2
 go_upto_region 6 with (fail)
 have h0 : W1.cell? ⟨g, 0, none⟩ = some (.int .i64 sh) := (xU HH1).cell (i := 0) (by omega)
 have h1 : W1.cell? ⟨g, 1, none⟩ = some (.int .i64 jb) := (xU HH1).cell (i := 1) (by omega)
 have hf0 := (xU HH1).frozen 0; have hf1 := (xU HH1).frozen 1
 have hxg : Exc [g] W1 ((W1.setCell ⟨g, 0, none⟩ (.int .i64 3)).setCell ⟨g, 1, none⟩ (.int .i64 0)) := ((Exc.set (F := [g]) W1 g 0 (.int .i64 3) (by simp)).trans (Exc.set (F := [g]) _ g 1 (.int .i64 0) (by simp)))
 have HS2 := xH ((xU HS1).carry (hxg.block _ (xU HS1).box.lt (by have := xU HG; simp; omega)) (hxg.block _ (xU HS1).res.lt (by have := xU HG; simp; omega)) (fun y hy => hxg.block y ((xU HS1).lt y hy) (by have := xU HLT y hy; have := xU HG; simp; omega)) hxg.size)
 have HX2 := xH (newExc (xU HX1) hxg (by have := xU HG; omega))
 have HR2 := xH ((xU HR1).keep (fun y hy => hxg.block y (by have := xU HLT y hy; have := (xU HX1).size; omega) (by have := xU HLT y hy; have := xU HG; simp; omega)) hxg.size)
 have HO2 := xH (ownsRow_keepT (xU HO1) (fun y e => hxg.block y ((xU HO1).lt y e).2 (by simp only [R7.v, Value.ownBlock, Option.some.injEq] at e; subst e; have := xU HLT R.h (by simp [R7.bl]); have := xU HG; simp; omega)))
 have HH2 := xH (show ((W1.setCell ⟨g, 0, none⟩ (.int .i64 3)).setCell ⟨g, 1, none⟩ (.int .i64 0)).rowIs g 73 2 (r18 [.int .i64 3, .int .i64 0]) from (((xU HH1).set 0 (.int .i64 3)).set 1 (.int .i64 0)).congr fun q hq => by rcases (show q = 0 ∨ q = 1 by omega) with rfl | rfl <;> rfl)
 clear hxg
 go_upto_region 15 with fail
 generalize ((W1.setCell ⟨g, 0, none⟩ (.int .i64 3)).setCell ⟨g, 1, none⟩ (.int .i64 0)) = W2 at HS2 HX2 HR2 HO2 HH2 ⊢
 clear h0 h1 hf0 hf1 HS1 HX1 HR1 HO1 HH1 
 have h0 : W2.cell? ⟨g, 0, none⟩ = some (.int .i64 3) := (xU HH2).cell (i := 0) (by omega)
 have h1 : W2.cell? ⟨g, 1, none⟩ = some (.int .i64 0) := (xU HH2).cell (i := 1) (by omega)
 have k6 : W2.cell? ⟨w.heap.size, 6, none⟩ = some (.slice (some ⟨R.h, 0, none⟩) x.hands.length R.ch) := (xU HS2).box.cell (i := 6) (by omega)
 obtain ⟨e0, e1⟩ := own_hand (i := i) (xU HO2) (xU HIX)
 have f0 := World.ownsRow.frozenAt (xU HO2) (i * 2); have f1 := World.ownsRow.frozenAt (xU HO2) (i * 2 + 1)
 generalize (x.hands.getD i ⟨0, 0⟩).job = jz at e1
 generalize (x.hands.getD i ⟨0, 0⟩).state = sz at e0
 have hi2 := xU HIX
 have HS3 := xH (show Sb ((W2.setCell ⟨R.h, i * 2, none⟩ (.int .i64 3)).setCell ⟨R.h, i * 2 + 1, none⟩ (.int .i64 0)) w.heap.size (w.heap.size + 1) { x with hands := x.hands.set i ⟨3, 0⟩ } (R.v x) (R.b) from (xU HS2).mod_h ((Exc.set _ _ _ _ (by simp [R7.b])).trans (Exc.set _ _ _ _ (by simp [R7.b]))) (x.hands.set i ⟨3, 0⟩) (hat_set (xU HO2) (xU HIX) 3 0))
 have HX3 := xH ((xU HX2).trans ((Exc.set (F := R.bl) W2 R.h (i * 2) (.int .i64 3) (by simp [R7.bl])).trans (Exc.set (F := R.bl) _ R.h (i * 2 + 1) (.int .i64 0) (by simp [R7.bl]))))
 go_upto_region 16 with fail
 generalize ((W2.setCell ⟨R.h, i * 2, none⟩ (.int .i64 3)).setCell ⟨R.h, i * 2 + 1, none⟩ (.int .i64 0)) = W3 at HS3 HX3 ⊢
 clear h0 h1 k6 e0 e1 f0 f1 hi2 HS2 HX2 HO2 HH2 HR2 
 refine wp_region_list ?_
 refine wpList_load_mid rfl _ _ rfl w.heap.size 0 rfl (lV x (R.v x)) dd (range_row (lV x (R.v x)) rfl (xU HS3).box) hdu hdr info18 ?_
 refine wpList_store_mid rfl _ _ _ rfl (w.heap.size + 1) 0 (lV x (R.v x)).toArray rfl rfl (there_row (xU HS3).res) info18 (one18 _ _ _ _ _ _ _ _ _ _ _ (R.v x) (by simp [R7.v, Value.oneCell'])) ?_
 have hr := row_all (n := 18) (lV x (R.v x)) rfl (xU HS3).res
 have hcw := so_cw (lo := lo) (xU HS3) (lV x (R.v x)) (low7R (xU HLB))
 have hxx := newExc (xU HX3) (exc_setCells W3 (w.heap.size + 1) 0 (lV x (R.v x))) (by omega)
 generalize W3.setCells (w.heap.size + 1) 0 _ = WE at hr hcw hxx ⊢
 have HRR := xH hr; have HCW := xH hcw; have HXX := xH hxx
 clear hr hcw hxx HS3 HX3
 go_wp2_with fail
 refine bodyPost_ret (v := .agg (lV x (R.v x)).toArray) (results_cell_row (P := Tryz.prog) (by rfl) _ WE (w.heap.size + 1) 26 (lV x (R.v x)).toArray (0, 0) _ (by rfl) (row_cells (xU HRR) rfl) Tryz.underlying26 (by rfl) info18) rfl ?_
 rw [show stW x i 1 = { x with hands := x.hands.set i ⟨3, 0⟩ } from by unfold stW; rw [if_pos rfl]]
 exact ⟨R.v x, _, rfl, xU HCW, fun _ h => h, xU HXX⟩
theorem doWork_see (x : Cw) (R : R7) (lo : Nat) (i : Nat) (w : World) (hR : Rw7 w lo x R) (hi : i < x.hands.length) (hop : 0 ≤ x.ops ∧ x.ops ≤ 10000) : Calls Tryz.prog 40 #[.agg (lV x (R.v x)).toArray, .int .i64 (i : Int), .int .i64 2] w fun e w' => SpEnd w w' e (stW x i 2) R lo := by
 obtain ⟨dd, hdu, hdr⟩ := rowWorld
 have hw17 : IntKind.i64.wrap (x.ops + 1) = x.ops + 1 := by rw [IntKind.wrap_i64]; omega
 have HLB := xH (fun y (hy : y ∈ R.bl) => (hR.lt y hy).1)
 have HIX := xH hi
 have HJB := xH (True.intro); have HST := xH (True.intro)
 have HLT := xH (fun y (hy : y ∈ R.bl) => (hR.lt y hy).2)
 have HLO := xH (show lo ≤ w.heap.size from by have := hR.lt R.q (by simp [R7.bl]); omega)
 obtain ⟨hx0, hr0, hs0⟩ := so_pre hR
 have HX0 := xH hx0; have HR0 := xH hr0; have HS0 := xH hs0
 clear hR hx0 hr0 hs0 hi 
 go_enter Tryz.func40, Tryz.ntmps40
 go_upto_region 1 with fail
 generalize (w.alloc _).alloc _ = W0 at HS0 HX0 HR0 ⊢
 obtain ⟨e0, e1⟩ := own_hand (i := i) (xU HR0).h (xU HIX)
 have k6 : W0.cell? ⟨w.heap.size, 6, none⟩ = some (.slice (some ⟨R.h, 0, none⟩) x.hands.length R.ch) := (xU HS0).box.cell (i := 6) (by omega)
 have hi2 := xU HIX
 generalize (x.hands.getD i ⟨0, 0⟩).job = jb at e1 HJB
 generalize (x.hands.getD i ⟨0, 0⟩).state = sh at e0 HST
 go_upto_region 5 with fail
 have hbg : Below W0.heap.size W0 (W0.alloc (.cells #[.int .i64 sh, .int .i64 jb] 73)) := (Below.refl _ _).alloc (Nat.le_refl _) _
 have HS1 := xH ((xU HS0).on hbg); have HX1 := xH ((xU HX0).trans (Exc.of_below hbg)); have HR1 := xH ((xU HR0).on hbg)
 have HH1 := xH (show (W0.alloc (.cells #[.int .i64 sh, .int .i64 jb] 73)).rowIs W0.heap.size 73 2 (r18 [.int .i64 sh, .int .i64 jb]) from World.rowIs_alloc W0 #[.int .i64 sh, .int .i64 jb] 73 (r18 [.int .i64 sh, .int .i64 jb]) (fun j hj => by
  rcases (show j = 0 ∨ j = 1 by simp at hj; omega) with rfl | rfl <;> rfl))
 have HG := xH (show w.heap.size + 2 ≤ W0.heap.size from (xU HS0).res.lt)
 generalize W0.alloc (.cells #[.int .i64 sh, .int .i64 jb] 73) = W1 at HS1 HX1 HR1 HH1 ⊢
 generalize W0.heap.size = g at HH1 HG ⊢
 have HO1 := xH (xU HR1).h
 clear e0 e1 k6 hbg HS0 HX0 HR0 hi2
 go_upto_region 6 with (fail)
 have h0 : W1.cell? ⟨g, 0, none⟩ = some (.int .i64 sh) := (xU HH1).cell (i := 0) (by omega)
 have h1 : W1.cell? ⟨g, 1, none⟩ = some (.int .i64 jb) := (xU HH1).cell (i := 1) (by omega)
 have hf0 := (xU HH1).frozen 0; have hf1 := (xU HH1).frozen 1
 have hxg : Exc [g] W1 ((W1.setCell ⟨g, 0, none⟩ (.int .i64 3)).setCell ⟨g, 1, none⟩ (.int .i64 0)) := ((Exc.set (F := [g]) W1 g 0 (.int .i64 3) (by simp)).trans (Exc.set (F := [g]) _ g 1 (.int .i64 0) (by simp)))
 have HS2 := xH ((xU HS1).carry (hxg.block _ (xU HS1).box.lt (by have := xU HG; simp; omega)) (hxg.block _ (xU HS1).res.lt (by have := xU HG; simp; omega)) (fun y hy => hxg.block y ((xU HS1).lt y hy) (by have := xU HLT y hy; have := xU HG; simp; omega)) hxg.size)
 have HX2 := xH (newExc (xU HX1) hxg (by have := xU HG; omega))
 have HR2 := xH ((xU HR1).keep (fun y hy => hxg.block y (by have := xU HLT y hy; have := (xU HX1).size; omega) (by have := xU HLT y hy; have := xU HG; simp; omega)) hxg.size)
 have HO2 := xH (ownsRow_keepT (xU HO1) (fun y e => hxg.block y ((xU HO1).lt y e).2 (by simp only [R7.v, Value.ownBlock, Option.some.injEq] at e; subst e; have := xU HLT R.h (by simp [R7.bl]); have := xU HG; simp; omega)))
 have HH2 := xH (show ((W1.setCell ⟨g, 0, none⟩ (.int .i64 3)).setCell ⟨g, 1, none⟩ (.int .i64 0)).rowIs g 73 2 (r18 [.int .i64 3, .int .i64 0]) from (((xU HH1).set 0 (.int .i64 3)).set 1 (.int .i64 0)).congr fun q hq => by rcases (show q = 0 ∨ q = 1 by omega) with rfl | rfl <;> rfl)
 clear hxg
 go_upto_region 8 with fail
 generalize ((W1.setCell ⟨g, 0, none⟩ (.int .i64 3)).setCell ⟨g, 1, none⟩ (.int .i64 0)) = W2 at HS2 HX2 HR2 HO2 HH2 ⊢
 clear h0 h1 hf0 hf1 HS1 HX1 HR1 HO1 HH1 
 have ko : W2.cell? ⟨w.heap.size, 17, none⟩ = some (.int .i64 x.ops) := (xU HS2).box.cell (i := 17) (by omega)
 have fo := (xU HS2).box.frozen 17
 have HS3 := xH (show Sb (W2.setCell ⟨w.heap.size, 17, none⟩ (.int .i64 (x.ops + 1))) w.heap.size (w.heap.size + 1) { x with ops := (x.ops + 1) } (R.v x) (R.b) from (xU HS2).put 17 (by omega) (.int .i64 (x.ops + 1)) rfl rfl rfl rfl rfl rfl rfl rfl)
 have HX3 := xH ((xU HX2).newSet (Nat.le_refl _) 17 (.int .i64 (x.ops + 1)))
 have HR3 := xH ((xU HR2).keep (fun y hy => Below.heap_setCell W2 ⟨w.heap.size, 17, none⟩ (.int .i64 (x.ops + 1)) y (by have := xU HLT y hy; show y ≠ w.heap.size; omega)) (by rw [World.size_setCell]; exact Nat.le_refl _))
 have HH3 := xH ((xU HH2).setOther (a := ⟨w.heap.size, 17, none⟩) (by have := xU HG; show g ≠ w.heap.size; omega) (.int .i64 (x.ops + 1)))
 have HO3 := xH (ownsRow_keepT (xU HO2) (fun y e => Below.heap_setCell W2 ⟨w.heap.size, 17, none⟩ (.int .i64 (x.ops + 1)) y (by simp only [R7.v, Value.ownBlock, Option.some.injEq] at e; subst e; have := xU HLT R.h (by simp [R7.bl]); show R.h ≠ w.heap.size; omega)))
 go_upto_region 15 with fail
 generalize W2.setCell ⟨w.heap.size, 17, none⟩ (.int .i64 (x.ops + 1)) = W3 at HS3 HX3 HH3 HO3 HR3 ⊢
 clear HH2 HO2 ko fo HS2 HX2 HR2 hw17
 have h0 : W3.cell? ⟨g, 0, none⟩ = some (.int .i64 3) := (xU HH3).cell (i := 0) (by omega)
 have h1 : W3.cell? ⟨g, 1, none⟩ = some (.int .i64 0) := (xU HH3).cell (i := 1) (by omega)
 have k6 : W3.cell? ⟨w.heap.size, 6, none⟩ = some (.slice (some ⟨R.h, 0, none⟩) x.hands.length R.ch) := (xU HS3).box.cell (i := 6) (by omega)
 obtain ⟨e0, e1⟩ := own_hand (i := i) (xU HO3) (xU HIX)
 have f0 := World.ownsRow.frozenAt (xU HO3) (i * 2); have f1 := World.ownsRow.frozenAt (xU HO3) (i * 2 + 1)
 generalize (x.hands.getD i ⟨0, 0⟩).job = jz at e1
 generalize (x.hands.getD i ⟨0, 0⟩).state = sz at e0
 have hi2 := xU HIX
 have HS4 := xH (show Sb ((W3.setCell ⟨R.h, i * 2, none⟩ (.int .i64 3)).setCell ⟨R.h, i * 2 + 1, none⟩ (.int .i64 0)) w.heap.size (w.heap.size + 1) { x with ops := (x.ops + 1), hands := x.hands.set i ⟨3, 0⟩ } (R.v x) (R.b) from (xU HS3).mod_h ((Exc.set _ _ _ _ (by simp [R7.b])).trans (Exc.set _ _ _ _ (by simp [R7.b]))) (x.hands.set i ⟨3, 0⟩) (hat_set (xU HO3) (xU HIX) 3 0))
 have HX4 := xH ((xU HX3).trans ((Exc.set (F := R.bl) W3 R.h (i * 2) (.int .i64 3) (by simp [R7.bl])).trans (Exc.set (F := R.bl) _ R.h (i * 2 + 1) (.int .i64 0) (by simp [R7.bl]))))
 go_upto_region 16 with fail
 generalize ((W3.setCell ⟨R.h, i * 2, none⟩ (.int .i64 3)).setCell ⟨R.h, i * 2 + 1, none⟩ (.int .i64 0)) = W4 at HS4 HX4 ⊢
 clear h0 h1 k6 e0 e1 f0 f1 hi2 HS3 HX3 HO3 HH3 HR3 
 refine wp_region_list ?_
 refine wpList_load_mid rfl _ _ rfl w.heap.size 0 rfl (lV { x with ops := (x.ops + 1) } (R.v x)) dd (range_row (lV { x with ops := (x.ops + 1) } (R.v x)) rfl (xU HS4).box) hdu hdr info18 ?_
 refine wpList_store_mid rfl _ _ _ rfl (w.heap.size + 1) 0 (lV { x with ops := (x.ops + 1) } (R.v x)).toArray rfl rfl (there_row (xU HS4).res) info18 (one18 _ _ _ _ _ _ _ _ _ _ _ (R.v x) (by simp [R7.v, Value.oneCell'])) ?_
 have hr := row_all (n := 18) (lV { x with ops := (x.ops + 1) } (R.v x)) rfl (xU HS4).res
 have hcw := so_cw (lo := lo) (xU HS4) (lV { x with ops := (x.ops + 1) } (R.v x)) (low7R (xU HLB))
 have hxx := newExc (xU HX4) (exc_setCells W4 (w.heap.size + 1) 0 (lV { x with ops := (x.ops + 1) } (R.v x))) (by omega)
 generalize W4.setCells (w.heap.size + 1) 0 _ = WE at hr hcw hxx ⊢
 have HRR := xH hr; have HCW := xH hcw; have HXX := xH hxx
 clear hr hcw hxx HS4 HX4
 go_wp2_with fail
 refine bodyPost_ret (v := .agg (lV { x with ops := (x.ops + 1) } (R.v x)).toArray) (results_cell_row (P := Tryz.prog) (by rfl) _ WE (w.heap.size + 1) 26 (lV { x with ops := (x.ops + 1) } (R.v x)).toArray (0, 0) _ (by rfl) (row_cells (xU HRR) rfl) Tryz.underlying26 (by rfl) info18) rfl ?_
 rw [show stW x i 2 = { x with hands := x.hands.set i ⟨3, 0⟩, ops := x.ops + 1 } from by unfold stW; rw [if_neg (by omega), if_pos (by omega)]]
 exact ⟨R.v x, _, rfl, xU HCW, fun _ h => h, xU HXX⟩
theorem doWork_take (x : Cw) (R : R7) (lo : Nat) (i : Nat) (w : World) (hR : Rw7 w lo x R) (hi : i < x.hands.length) (hop : 0 ≤ x.ops ∧ x.ops ≤ 10000) (z : Int) (l : List Int) (hq : x.queue = z :: l) (hst : (x.hands.getD i ⟨0, 0⟩).state = 0) (hql : x.queue.length ≤ 1000) : Calls Tryz.prog 40 #[.agg (lV x (R.v x)).toArray, .int .i64 (i : Int), .int .i64 0] w fun e w' => SpEnd w w' e (stW x i 0) R lo := by
 obtain ⟨dd, hdu, hdr⟩ := rowWorld
 have hw17 : IntKind.i64.wrap (x.ops + 1) = x.ops + 1 := by rw [IntKind.wrap_i64]; omega
 have HLB := xH (fun y (hy : y ∈ R.bl) => (hR.lt y hy).1)
 have HIX := xH hi
 have HJB := xH (True.intro); have HST := xH hst; have HQ := xH hq; have HSTX := xH hst
 obtain ⟨m, hm⟩ : ∃ m, m = l.length := ⟨_, rfl⟩
 have HM := xH hm; have HQL := xH (show x.queue.length = m + 1 by rw [hq, hm]; rfl)
 have hm9 : m ≤ 1000 := by have := xU HQL; omega
 have HLT := xH (fun y (hy : y ∈ R.bl) => (hR.lt y hy).2)
 have HLO := xH (show lo ≤ w.heap.size from by have := hR.lt R.q (by simp [R7.bl]); omega)
 obtain ⟨hx0, hr0, hs0⟩ := so_pre hR
 have HX0 := xH hx0; have HR0 := xH hr0; have HS0 := xH hs0
 clear hR hx0 hr0 hs0 hi hq hst hm hql 
 go_enter Tryz.func40, Tryz.ntmps40
 go_upto_region 1 with fail
 generalize (w.alloc _).alloc _ = W0 at HS0 HX0 HR0 ⊢
 obtain ⟨e0, e1⟩ := own_hand (i := i) (xU HR0).h (xU HIX)
 have k6 : W0.cell? ⟨w.heap.size, 6, none⟩ = some (.slice (some ⟨R.h, 0, none⟩) x.hands.length R.ch) := (xU HS0).box.cell (i := 6) (by omega)
 have hi2 := xU HIX
 generalize (x.hands.getD i ⟨0, 0⟩).job = jb at e1 HJB
 generalize (x.hands.getD i ⟨0, 0⟩).state = sh at e0 HST
 go_upto_region 5 with fail
 have hbg : Below W0.heap.size W0 (W0.alloc (.cells #[.int .i64 sh, .int .i64 jb] 73)) := (Below.refl _ _).alloc (Nat.le_refl _) _
 have HS1 := xH ((xU HS0).on hbg); have HX1 := xH ((xU HX0).trans (Exc.of_below hbg)); have HR1 := xH ((xU HR0).on hbg)
 have HH1 := xH (show (W0.alloc (.cells #[.int .i64 sh, .int .i64 jb] 73)).rowIs W0.heap.size 73 2 (r18 [.int .i64 sh, .int .i64 jb]) from World.rowIs_alloc W0 #[.int .i64 sh, .int .i64 jb] 73 (r18 [.int .i64 sh, .int .i64 jb]) (fun j hj => by
  rcases (show j = 0 ∨ j = 1 by simp at hj; omega) with rfl | rfl <;> rfl))
 have HG := xH (show w.heap.size + 2 ≤ W0.heap.size from (xU HS0).res.lt)
 generalize W0.alloc (.cells #[.int .i64 sh, .int .i64 jb] 73) = W1 at HS1 HX1 HR1 HH1 ⊢
 generalize W0.heap.size = g at HH1 HG ⊢
 have HO1 := xH (xU HR1).h
 clear e0 e1 k6 hbg HS0 HX0 HR0 hi2
 have h0 : W1.cell? ⟨g, 0, none⟩ = some (.int .i64 0) := by rw [← xU HST]; exact (xU HH1).cell (i := 0) (by omega)
 go_upto_region 10 with (fail)
 clear h0
 have k5 : W1.cell? ⟨w.heap.size, 5, none⟩ = some (.slice (some ⟨R.q, 0, none⟩) (m + 1) R.cq) := by rw [← xU HQL]; exact (xU HS1).box.cell (i := 5) (by omega)
 have q0 : W1.cell? ⟨R.q, 0, none⟩ = some (.int .i64 z) := by
  rw [World.ownsRow.cellAt (xU HR1).q 0 (by rw [xU HQL]; omega), zflat_map, List.getElem?_map, xU HQ]
  rfl
 have h0 : W1.cell? ⟨g, 0, none⟩ = some (.int .i64 sh) := (xU HH1).cell (i := 0) (by omega)
 have h1 : W1.cell? ⟨g, 1, none⟩ = some (.int .i64 jb) := (xU HH1).cell (i := 1) (by omega)
 have hf0 := (xU HH1).frozen 0; have hf1 := (xU HH1).frozen 1
 have hxg : Exc [g] W1 ((W1.setCell ⟨g, 0, none⟩ (.int .i64 1)).setCell ⟨g, 1, none⟩ (.int .i64 z)) := ((Exc.set (F := [g]) W1 g 0 (.int .i64 1) (by simp)).trans (Exc.set (F := [g]) _ g 1 (.int .i64 z) (by simp)))
 have HS2 := xH ((xU HS1).carry (hxg.block _ (xU HS1).box.lt (by have := xU HG; simp; omega)) (hxg.block _ (xU HS1).res.lt (by have := xU HG; simp; omega)) (fun y hy => hxg.block y ((xU HS1).lt y hy) (by have := xU HLT y hy; have := xU HG; simp; omega)) hxg.size)
 have HX2 := xH (newExc (xU HX1) hxg (by have := xU HG; omega))
 have HR2 := xH ((xU HR1).keep (fun y hy => hxg.block y (by have := xU HLT y hy; have := (xU HX1).size; omega) (by have := xU HLT y hy; have := xU HG; simp; omega)) hxg.size)
 have HO2 := xH (ownsRow_keepT (xU HO1) (fun y e => hxg.block y ((xU HO1).lt y e).2 (by simp only [R7.v, Value.ownBlock, Option.some.injEq] at e; subst e; have := xU HLT R.h (by simp [R7.bl]); have := xU HG; simp; omega)))
 have HH2 := xH (show ((W1.setCell ⟨g, 0, none⟩ (.int .i64 1)).setCell ⟨g, 1, none⟩ (.int .i64 z)).rowIs g 73 2 (r18 [.int .i64 1, .int .i64 z]) from (((xU HH1).set 0 (.int .i64 1)).set 1 (.int .i64 z)).congr fun q hq => by rcases (show q = 0 ∨ q = 1 by omega) with rfl | rfl <;> rfl)
 clear hxg
 go_upto_region 11 with fail
 generalize ((W1.setCell ⟨g, 0, none⟩ (.int .i64 1)).setCell ⟨g, 1, none⟩ (.int .i64 z)) = W2 at HS2 HX2 HR2 HO2 HH2 ⊢
 clear h0 h1 hf0 hf1 HS1 HX1 HR1 HO1 HH1 k5 q0
 have ko : W2.cell? ⟨w.heap.size, 5, none⟩ = some (.slice (some ⟨R.q, 0, none⟩) (m + 1) R.cq) := by rw [← xU HQL]; exact (xU HS2).box.cell (i := 5) (by omega)
 have fo := (xU HS2).box.frozen 5
 obtain ⟨cq, hcq⟩ : ∃ cq, R.cq = cq := ⟨_, rfl⟩
 have HRM := xH (show m + 1 ≤ cq from by have := own_room (xU HR2).q; rw [xU HQL, hcq] at this; exact this)
 rw [hcq] at ko ⊢
 clear hcq
 by_cases hc1 : cq = 1
 · subst hc1
   have HS3 := xH (show Sb (W2.setCell ⟨w.heap.size, 5, none⟩ (.slice (some ⟨R.q, 0, none⟩) m 0)) w.heap.size (w.heap.size + 1) { x with queue := l } ({ R.v x with q := .slice (some ⟨R.q, 0, none⟩) m 0 }) (R.b) from (xU HS2).set_q (.slice (some ⟨R.q, 0, none⟩) m 0) l (tail_nil (xU HM) (by have := xU HRM; omega)))
   have HX3 := xH ((xU HX2).newSet (Nat.le_refl _) 5 (.slice (some ⟨R.q, 0, none⟩) m 0))
   have HR3 := xH ((xU HR2).keep (fun y hy => Below.heap_setCell W2 ⟨w.heap.size, 5, none⟩ (.slice (some ⟨R.q, 0, none⟩) m 0) y (by have := xU HLT y hy; show y ≠ w.heap.size; omega)) (by rw [World.size_setCell]; exact Nat.le_refl _))
   have HH3 := xH ((xU HH2).setOther (a := ⟨w.heap.size, 5, none⟩) (by have := xU HG; show g ≠ w.heap.size; omega) (.slice (some ⟨R.q, 0, none⟩) m 0))
   have HO3 := xH (ownsRow_keepT (xU HO2) (fun y e => Below.heap_setCell W2 ⟨w.heap.size, 5, none⟩ (.slice (some ⟨R.q, 0, none⟩) m 0) y (by simp only [R7.v, Value.ownBlock, Option.some.injEq] at e; subst e; have := xU HLT R.h (by simp [R7.bl]); show R.h ≠ w.heap.size; omega)))
   go_upto_region 12 with fail
   generalize W2.setCell ⟨w.heap.size, 5, none⟩ (.slice (some ⟨R.q, 0, none⟩) m 0) = W3 at HS3 HX3 HR3 HH3 HO3 ⊢
   clear ko fo HS2 HX2 HR2 HH2 HO2 
   have ko : W3.cell? ⟨w.heap.size, 17, none⟩ = some (.int .i64 x.ops) := (xU HS3).box.cell (i := 17) (by omega)
   have fo := (xU HS3).box.frozen 17
   have HS4 := xH (show Sb (W3.setCell ⟨w.heap.size, 17, none⟩ (.int .i64 (x.ops + 1))) w.heap.size (w.heap.size + 1) { x with queue := l, ops := (x.ops + 1) } ({ R.v x with q := .slice (some ⟨R.q, 0, none⟩) m 0 }) (R.b) from (xU HS3).put 17 (by omega) (.int .i64 (x.ops + 1)) rfl rfl rfl rfl rfl rfl rfl rfl)
   have HX4 := xH ((xU HX3).newSet (Nat.le_refl _) 17 (.int .i64 (x.ops + 1)))
   have HR4 := xH ((xU HR3).keep (fun y hy => Below.heap_setCell W3 ⟨w.heap.size, 17, none⟩ (.int .i64 (x.ops + 1)) y (by have := xU HLT y hy; show y ≠ w.heap.size; omega)) (by rw [World.size_setCell]; exact Nat.le_refl _))
   have HH4 := xH ((xU HH3).setOther (a := ⟨w.heap.size, 17, none⟩) (by have := xU HG; show g ≠ w.heap.size; omega) (.int .i64 (x.ops + 1)))
   have HO4 := xH (ownsRow_keepT (xU HO3) (fun y e => Below.heap_setCell W3 ⟨w.heap.size, 17, none⟩ (.int .i64 (x.ops + 1)) y (by simp only [R7.v, Value.ownBlock, Option.some.injEq] at e; subst e; have := xU HLT R.h (by simp [R7.bl]); show R.h ≠ w.heap.size; omega)))
   go_upto_region 15 with fail
   generalize W3.setCell ⟨w.heap.size, 17, none⟩ (.int .i64 (x.ops + 1)) = W4 at HS4 HX4 HH4 HO4 HR4 ⊢
   clear HH3 HO3 ko fo HS3 HX3 HR3 hw17
   have h0 : W4.cell? ⟨g, 0, none⟩ = some (.int .i64 1) := (xU HH4).cell (i := 0) (by omega)
   have h1 : W4.cell? ⟨g, 1, none⟩ = some (.int .i64 z) := (xU HH4).cell (i := 1) (by omega)
   have k6 : W4.cell? ⟨w.heap.size, 6, none⟩ = some (.slice (some ⟨R.h, 0, none⟩) x.hands.length R.ch) := (xU HS4).box.cell (i := 6) (by omega)
   obtain ⟨e0, e1⟩ := own_hand (i := i) (xU HO4) (xU HIX)
   have f0 := World.ownsRow.frozenAt (xU HO4) (i * 2); have f1 := World.ownsRow.frozenAt (xU HO4) (i * 2 + 1)
   generalize (x.hands.getD i ⟨0, 0⟩).job = jz at e1
   generalize (x.hands.getD i ⟨0, 0⟩).state = sz at e0
   have hi2 := xU HIX
   have HS5 := xH (show Sb ((W4.setCell ⟨R.h, i * 2, none⟩ (.int .i64 1)).setCell ⟨R.h, i * 2 + 1, none⟩ (.int .i64 z)) w.heap.size (w.heap.size + 1) { x with queue := l, ops := (x.ops + 1), hands := x.hands.set i ⟨1, z⟩ } ({ R.v x with q := .slice (some ⟨R.q, 0, none⟩) m 0 }) (R.b) from (xU HS4).mod_h ((Exc.set _ _ _ _ (by simp [R7.b])).trans (Exc.set _ _ _ _ (by simp [R7.b]))) (x.hands.set i ⟨1, z⟩) (hat_set (xU HO4) (xU HIX) 1 z))
   have HX5 := xH ((xU HX4).trans ((Exc.set (F := R.bl) W4 R.h (i * 2) (.int .i64 1) (by simp [R7.bl])).trans (Exc.set (F := R.bl) _ R.h (i * 2 + 1) (.int .i64 z) (by simp [R7.bl]))))
   go_upto_region 16 with fail
   generalize ((W4.setCell ⟨R.h, i * 2, none⟩ (.int .i64 1)).setCell ⟨R.h, i * 2 + 1, none⟩ (.int .i64 z)) = W5 at HS5 HX5 ⊢
   clear h0 h1 k6 e0 e1 f0 f1 hi2 HS4 HX4 HO4 HH4 HR4 
   refine wp_region_list ?_
   refine wpList_load_mid rfl _ _ rfl w.heap.size 0 rfl (lV { x with ops := (x.ops + 1) } { R.v x with q := .slice (some ⟨R.q, 0, none⟩) m 0 }) dd (range_row (lV { x with ops := (x.ops + 1) } { R.v x with q := .slice (some ⟨R.q, 0, none⟩) m 0 }) rfl (xU HS5).box) hdu hdr info18 ?_
   refine wpList_store_mid rfl _ _ _ rfl (w.heap.size + 1) 0 (lV { x with ops := (x.ops + 1) } { R.v x with q := .slice (some ⟨R.q, 0, none⟩) m 0 }).toArray rfl rfl (there_row (xU HS5).res) info18 (one18 _ _ _ _ _ _ _ _ _ _ _ ({ R.v x with q := .slice (some ⟨R.q, 0, none⟩) m 0 }) (by simp [R7.v, Value.oneCell'])) ?_
   have hr := row_all (n := 18) (lV { x with ops := (x.ops + 1) } { R.v x with q := .slice (some ⟨R.q, 0, none⟩) m 0 }) rfl (xU HS5).res
   have hcw := so_cw (lo := lo) (xU HS5) (lV { x with ops := (x.ops + 1) } { R.v x with q := .slice (some ⟨R.q, 0, none⟩) m 0 }) (low7R (xU HLB))
   have hxx := newExc (xU HX5) (exc_setCells W5 (w.heap.size + 1) 0 (lV { x with ops := (x.ops + 1) } { R.v x with q := .slice (some ⟨R.q, 0, none⟩) m 0 })) (by omega)
   generalize W5.setCells (w.heap.size + 1) 0 _ = WE at hr hcw hxx ⊢
   have HRR := xH hr; have HCW := xH hcw; have HXX := xH hxx
   clear hr hcw hxx HS5 HX5
   go_wp2_with fail
   refine bodyPost_ret (v := .agg (lV { x with ops := (x.ops + 1) } { R.v x with q := .slice (some ⟨R.q, 0, none⟩) m 0 }).toArray) (results_cell_row (P := Tryz.prog) (by rfl) _ WE (w.heap.size + 1) 26 (lV { x with ops := (x.ops + 1) } { R.v x with q := .slice (some ⟨R.q, 0, none⟩) m 0 }).toArray (0, 0) _ (by rfl) (row_cells (xU HRR) rfl) Tryz.underlying26 (by rfl) info18) rfl ?_
   rw [show stW x i 0 = { x with queue := l, ops := x.ops + 1, hands := x.hands.set i ⟨1, z⟩ } from by unfold stW; rw [if_neg (by omega), if_neg (by omega), if_pos (xU HSTX), xU HQ]; rfl]
   exact ⟨{ R.v x with q := .slice (some ⟨R.q, 0, none⟩) m 0 }, _, rfl, xU HCW, fun _ h => h, xU HXX⟩
 · have HS3 := xH (show Sb (W2.setCell ⟨w.heap.size, 5, none⟩ (.slice (some ⟨R.q, 1, none⟩) m (cq - 1))) w.heap.size (w.heap.size + 1) { x with queue := l } ({ R.v x with q := .slice (some ⟨R.q, 1, none⟩) m (cq - 1) }) (R.b) from (xU HS2).set_q (.slice (some ⟨R.q, 1, none⟩) m (cq - 1)) l (tail_zat (xU HS2).q (xU HQ) (xU HM) rfl _))
   have HX3 := xH ((xU HX2).newSet (Nat.le_refl _) 5 (.slice (some ⟨R.q, 1, none⟩) m (cq - 1)))
   have HR3 := xH ((xU HR2).keep (fun y hy => Below.heap_setCell W2 ⟨w.heap.size, 5, none⟩ (.slice (some ⟨R.q, 1, none⟩) m (cq - 1)) y (by have := xU HLT y hy; show y ≠ w.heap.size; omega)) (by rw [World.size_setCell]; exact Nat.le_refl _))
   have HH3 := xH ((xU HH2).setOther (a := ⟨w.heap.size, 5, none⟩) (by have := xU HG; show g ≠ w.heap.size; omega) (.slice (some ⟨R.q, 1, none⟩) m (cq - 1)))
   have HO3 := xH (ownsRow_keepT (xU HO2) (fun y e => Below.heap_setCell W2 ⟨w.heap.size, 5, none⟩ (.slice (some ⟨R.q, 1, none⟩) m (cq - 1)) y (by simp only [R7.v, Value.ownBlock, Option.some.injEq] at e; subst e; have := xU HLT R.h (by simp [R7.bl]); show R.h ≠ w.heap.size; omega)))
   go_upto_region 12 with fail
   generalize W2.setCell ⟨w.heap.size, 5, none⟩ (.slice (some ⟨R.q, 1, none⟩) m (cq - 1)) = W3 at HS3 HX3 HR3 HH3 HO3 ⊢
   clear ko fo HS2 HX2 HR2 HH2 HO2 
   have ko : W3.cell? ⟨w.heap.size, 17, none⟩ = some (.int .i64 x.ops) := (xU HS3).box.cell (i := 17) (by omega)
   have fo := (xU HS3).box.frozen 17
   have HS4 := xH (show Sb (W3.setCell ⟨w.heap.size, 17, none⟩ (.int .i64 (x.ops + 1))) w.heap.size (w.heap.size + 1) { x with queue := l, ops := (x.ops + 1) } ({ R.v x with q := .slice (some ⟨R.q, 1, none⟩) m (cq - 1) }) (R.b) from (xU HS3).put 17 (by omega) (.int .i64 (x.ops + 1)) rfl rfl rfl rfl rfl rfl rfl rfl)
   have HX4 := xH ((xU HX3).newSet (Nat.le_refl _) 17 (.int .i64 (x.ops + 1)))
   have HR4 := xH ((xU HR3).keep (fun y hy => Below.heap_setCell W3 ⟨w.heap.size, 17, none⟩ (.int .i64 (x.ops + 1)) y (by have := xU HLT y hy; show y ≠ w.heap.size; omega)) (by rw [World.size_setCell]; exact Nat.le_refl _))
   have HH4 := xH ((xU HH3).setOther (a := ⟨w.heap.size, 17, none⟩) (by have := xU HG; show g ≠ w.heap.size; omega) (.int .i64 (x.ops + 1)))
   have HO4 := xH (ownsRow_keepT (xU HO3) (fun y e => Below.heap_setCell W3 ⟨w.heap.size, 17, none⟩ (.int .i64 (x.ops + 1)) y (by simp only [R7.v, Value.ownBlock, Option.some.injEq] at e; subst e; have := xU HLT R.h (by simp [R7.bl]); show R.h ≠ w.heap.size; omega)))
   go_upto_region 15 with fail
   generalize W3.setCell ⟨w.heap.size, 17, none⟩ (.int .i64 (x.ops + 1)) = W4 at HS4 HX4 HH4 HO4 HR4 ⊢
   clear HH3 HO3 ko fo HS3 HX3 HR3 hw17
   have h0 : W4.cell? ⟨g, 0, none⟩ = some (.int .i64 1) := (xU HH4).cell (i := 0) (by omega)
   have h1 : W4.cell? ⟨g, 1, none⟩ = some (.int .i64 z) := (xU HH4).cell (i := 1) (by omega)
   have k6 : W4.cell? ⟨w.heap.size, 6, none⟩ = some (.slice (some ⟨R.h, 0, none⟩) x.hands.length R.ch) := (xU HS4).box.cell (i := 6) (by omega)
   obtain ⟨e0, e1⟩ := own_hand (i := i) (xU HO4) (xU HIX)
   have f0 := World.ownsRow.frozenAt (xU HO4) (i * 2); have f1 := World.ownsRow.frozenAt (xU HO4) (i * 2 + 1)
   generalize (x.hands.getD i ⟨0, 0⟩).job = jz at e1
   generalize (x.hands.getD i ⟨0, 0⟩).state = sz at e0
   have hi2 := xU HIX
   have HS5 := xH (show Sb ((W4.setCell ⟨R.h, i * 2, none⟩ (.int .i64 1)).setCell ⟨R.h, i * 2 + 1, none⟩ (.int .i64 z)) w.heap.size (w.heap.size + 1) { x with queue := l, ops := (x.ops + 1), hands := x.hands.set i ⟨1, z⟩ } ({ R.v x with q := .slice (some ⟨R.q, 1, none⟩) m (cq - 1) }) (R.b) from (xU HS4).mod_h ((Exc.set _ _ _ _ (by simp [R7.b])).trans (Exc.set _ _ _ _ (by simp [R7.b]))) (x.hands.set i ⟨1, z⟩) (hat_set (xU HO4) (xU HIX) 1 z))
   have HX5 := xH ((xU HX4).trans ((Exc.set (F := R.bl) W4 R.h (i * 2) (.int .i64 1) (by simp [R7.bl])).trans (Exc.set (F := R.bl) _ R.h (i * 2 + 1) (.int .i64 z) (by simp [R7.bl]))))
   go_upto_region 16 with fail
   generalize ((W4.setCell ⟨R.h, i * 2, none⟩ (.int .i64 1)).setCell ⟨R.h, i * 2 + 1, none⟩ (.int .i64 z)) = W5 at HS5 HX5 ⊢
   clear h0 h1 k6 e0 e1 f0 f1 hi2 HS4 HX4 HO4 HH4 HR4 
   refine wp_region_list ?_
   refine wpList_load_mid rfl _ _ rfl w.heap.size 0 rfl (lV { x with ops := (x.ops + 1) } { R.v x with q := .slice (some ⟨R.q, 1, none⟩) m (cq - 1) }) dd (range_row (lV { x with ops := (x.ops + 1) } { R.v x with q := .slice (some ⟨R.q, 1, none⟩) m (cq - 1) }) rfl (xU HS5).box) hdu hdr info18 ?_
   refine wpList_store_mid rfl _ _ _ rfl (w.heap.size + 1) 0 (lV { x with ops := (x.ops + 1) } { R.v x with q := .slice (some ⟨R.q, 1, none⟩) m (cq - 1) }).toArray rfl rfl (there_row (xU HS5).res) info18 (one18 _ _ _ _ _ _ _ _ _ _ _ ({ R.v x with q := .slice (some ⟨R.q, 1, none⟩) m (cq - 1) }) (by simp [R7.v, Value.oneCell'])) ?_
   have hr := row_all (n := 18) (lV { x with ops := (x.ops + 1) } { R.v x with q := .slice (some ⟨R.q, 1, none⟩) m (cq - 1) }) rfl (xU HS5).res
   have hcw := so_cw (lo := lo) (xU HS5) (lV { x with ops := (x.ops + 1) } { R.v x with q := .slice (some ⟨R.q, 1, none⟩) m (cq - 1) }) (low7R (xU HLB))
   have hxx := newExc (xU HX5) (exc_setCells W5 (w.heap.size + 1) 0 (lV { x with ops := (x.ops + 1) } { R.v x with q := .slice (some ⟨R.q, 1, none⟩) m (cq - 1) })) (by omega)
   generalize W5.setCells (w.heap.size + 1) 0 _ = WE at hr hcw hxx ⊢
   have HRR := xH hr; have HCW := xH hcw; have HXX := xH hxx
   clear hr hcw hxx HS5 HX5
   go_wp2_with fail
   refine bodyPost_ret (v := .agg (lV { x with ops := (x.ops + 1) } { R.v x with q := .slice (some ⟨R.q, 1, none⟩) m (cq - 1) }).toArray) (results_cell_row (P := Tryz.prog) (by rfl) _ WE (w.heap.size + 1) 26 (lV { x with ops := (x.ops + 1) } { R.v x with q := .slice (some ⟨R.q, 1, none⟩) m (cq - 1) }).toArray (0, 0) _ (by rfl) (row_cells (xU HRR) rfl) Tryz.underlying26 (by rfl) info18) rfl ?_
   rw [show stW x i 0 = { x with queue := l, ops := x.ops + 1, hands := x.hands.set i ⟨1, z⟩ } from by unfold stW; rw [if_neg (by omega), if_neg (by omega), if_pos (xU HSTX), xU HQ]; rfl]
   exact ⟨{ R.v x with q := .slice (some ⟨R.q, 1, none⟩) m (cq - 1) }, _, rfl, xU HCW, fun _ h => h, xU HXX⟩
theorem doWork_do (x : Cw) (R : R7) (lo : Nat) (i : Nat) (w : World) (hR : Rw7 w lo x R) (hi : i < x.hands.length) (hst : (x.hands.getD i ⟨0, 0⟩).state = 1) : Calls Tryz.prog 40 #[.agg (lV x (R.v x)).toArray, .int .i64 (i : Int), .int .i64 0] w fun e w' => SpEnd w w' e (stW x i 0) R lo := by
 obtain ⟨dd, hdu, hdr⟩ := rowWorld
 have HLB := xH (fun y (hy : y ∈ R.bl) => (hR.lt y hy).1)
 have HIX := xH hi
 have HJB : Hid (∃ jj, jj = (x.hands.getD i ⟨0, 0⟩).job) := xH ⟨_, rfl⟩; have HJX := xH (rfl : (x.hands.getD i ⟨0, 0⟩).job = (x.hands.getD i ⟨0, 0⟩).job); have HST := xH hst; have HSTX := xH hst
 have HLT := xH (fun y (hy : y ∈ R.bl) => (hR.lt y hy).2)
 have HLO := xH (show lo ≤ w.heap.size from by have := hR.lt R.q (by simp [R7.bl]); omega)
 obtain ⟨hx0, hr0, hs0⟩ := so_pre hR
 have HX0 := xH hx0; have HR0 := xH hr0; have HS0 := xH hs0
 clear hR hx0 hr0 hs0 hi hst 
 go_enter Tryz.func40, Tryz.ntmps40
 go_upto_region 1 with fail
 generalize (w.alloc _).alloc _ = W0 at HS0 HX0 HR0 ⊢
 obtain ⟨e0, e1⟩ := own_hand (i := i) (xU HR0).h (xU HIX)
 have k6 : W0.cell? ⟨w.heap.size, 6, none⟩ = some (.slice (some ⟨R.h, 0, none⟩) x.hands.length R.ch) := (xU HS0).box.cell (i := 6) (by omega)
 have hi2 := xU HIX
 obtain ⟨jb, hjb⟩ : ∃ jb, (x.hands.getD i ⟨0, 0⟩).job = jb := ⟨_, rfl⟩
 rw [hjb] at e1
 have HJE := xH hjb
 clear hjb HJB HJX
 generalize (x.hands.getD i ⟨0, 0⟩).state = sh at e0 HST
 go_upto_region 5 with fail
 have hbg : Below W0.heap.size W0 (W0.alloc (.cells #[.int .i64 sh, .int .i64 jb] 73)) := (Below.refl _ _).alloc (Nat.le_refl _) _
 have HS1 := xH ((xU HS0).on hbg); have HX1 := xH ((xU HX0).trans (Exc.of_below hbg)); have HR1 := xH ((xU HR0).on hbg)
 have HH1 := xH (show (W0.alloc (.cells #[.int .i64 sh, .int .i64 jb] 73)).rowIs W0.heap.size 73 2 (r18 [.int .i64 sh, .int .i64 jb]) from World.rowIs_alloc W0 #[.int .i64 sh, .int .i64 jb] 73 (r18 [.int .i64 sh, .int .i64 jb]) (fun j hj => by
  rcases (show j = 0 ∨ j = 1 by simp at hj; omega) with rfl | rfl <;> rfl))
 have HG := xH (show w.heap.size + 2 ≤ W0.heap.size from (xU HS0).res.lt)
 generalize W0.alloc (.cells #[.int .i64 sh, .int .i64 jb] 73) = W1 at HS1 HX1 HR1 HH1 ⊢
 generalize W0.heap.size = g at HH1 HG ⊢
 have HO1 := xH (xU HR1).h
 clear e0 e1 k6 hbg HS0 HX0 HR0 hi2
 have h0 : W1.cell? ⟨g, 0, none⟩ = some (.int .i64 1) := by rw [← xU HST]; exact (xU HH1).cell (i := 0) (by omega)
 go_upto_region 14 with (fail)
 clear h0
 have h0 : W1.cell? ⟨g, 0, none⟩ = some (.int .i64 sh) := (xU HH1).cell (i := 0) (by omega)
 have h1 : W1.cell? ⟨g, 1, none⟩ = some (.int .i64 jb) := (xU HH1).cell (i := 1) (by omega)
 have hf0 := (xU HH1).frozen 0; have hf1 := (xU HH1).frozen 1
 have hxg : Exc [g] W1 (W1.setCell ⟨g, 0, none⟩ (.int .i64 2)) := (Exc.set (F := [g]) W1 g 0 (.int .i64 2) (by simp))
 have HS2 := xH ((xU HS1).carry (hxg.block _ (xU HS1).box.lt (by have := xU HG; simp; omega)) (hxg.block _ (xU HS1).res.lt (by have := xU HG; simp; omega)) (fun y hy => hxg.block y ((xU HS1).lt y hy) (by have := xU HLT y hy; have := xU HG; simp; omega)) hxg.size)
 have HX2 := xH (newExc (xU HX1) hxg (by have := xU HG; omega))
 have HR2 := xH ((xU HR1).keep (fun y hy => hxg.block y (by have := xU HLT y hy; have := (xU HX1).size; omega) (by have := xU HLT y hy; have := xU HG; simp; omega)) hxg.size)
 have HO2 := xH (ownsRow_keepT (xU HO1) (fun y e => hxg.block y ((xU HO1).lt y e).2 (by simp only [R7.v, Value.ownBlock, Option.some.injEq] at e; subst e; have := xU HLT R.h (by simp [R7.bl]); have := xU HG; simp; omega)))
 have HH2 := xH (show (W1.setCell ⟨g, 0, none⟩ (.int .i64 2)).rowIs g 73 2 (r18 [.int .i64 2, .int .i64 jb]) from ((xU HH1).set 0 (.int .i64 2)).congr fun q hq => by rcases (show q = 0 ∨ q = 1 by omega) with rfl | rfl <;> rfl)
 clear hxg
 go_upto_region 15 with fail
 generalize (W1.setCell ⟨g, 0, none⟩ (.int .i64 2)) = W2 at HS2 HX2 HR2 HO2 HH2 ⊢
 clear h0 h1 hf0 hf1 HS1 HX1 HR1 HO1 HH1 
 have h0 : W2.cell? ⟨g, 0, none⟩ = some (.int .i64 2) := (xU HH2).cell (i := 0) (by omega)
 have h1 : W2.cell? ⟨g, 1, none⟩ = some (.int .i64 jb) := (xU HH2).cell (i := 1) (by omega)
 have k6 : W2.cell? ⟨w.heap.size, 6, none⟩ = some (.slice (some ⟨R.h, 0, none⟩) x.hands.length R.ch) := (xU HS2).box.cell (i := 6) (by omega)
 obtain ⟨e0, e1⟩ := own_hand (i := i) (xU HO2) (xU HIX)
 have f0 := World.ownsRow.frozenAt (xU HO2) (i * 2); have f1 := World.ownsRow.frozenAt (xU HO2) (i * 2 + 1)
 generalize (x.hands.getD i ⟨0, 0⟩).job = jz at e1
 generalize (x.hands.getD i ⟨0, 0⟩).state = sz at e0
 have hi2 := xU HIX
 have HS3 := xH (show Sb ((W2.setCell ⟨R.h, i * 2, none⟩ (.int .i64 2)).setCell ⟨R.h, i * 2 + 1, none⟩ (.int .i64 jb)) w.heap.size (w.heap.size + 1) { x with hands := x.hands.set i ⟨2, jb⟩ } (R.v x) (R.b) from (xU HS2).mod_h ((Exc.set _ _ _ _ (by simp [R7.b])).trans (Exc.set _ _ _ _ (by simp [R7.b]))) (x.hands.set i ⟨2, jb⟩) (hat_set (xU HO2) (xU HIX) 2 jb))
 have HX3 := xH ((xU HX2).trans ((Exc.set (F := R.bl) W2 R.h (i * 2) (.int .i64 2) (by simp [R7.bl])).trans (Exc.set (F := R.bl) _ R.h (i * 2 + 1) (.int .i64 jb) (by simp [R7.bl]))))
 go_upto_region 16 with fail
 generalize ((W2.setCell ⟨R.h, i * 2, none⟩ (.int .i64 2)).setCell ⟨R.h, i * 2 + 1, none⟩ (.int .i64 jb)) = W3 at HS3 HX3 ⊢
 clear h0 h1 k6 e0 e1 f0 f1 hi2 HS2 HX2 HO2 HH2 HR2 
 refine wp_region_list ?_
 refine wpList_load_mid rfl _ _ rfl w.heap.size 0 rfl (lV x (R.v x)) dd (range_row (lV x (R.v x)) rfl (xU HS3).box) hdu hdr info18 ?_
 refine wpList_store_mid rfl _ _ _ rfl (w.heap.size + 1) 0 (lV x (R.v x)).toArray rfl rfl (there_row (xU HS3).res) info18 (one18 _ _ _ _ _ _ _ _ _ _ _ (R.v x) (by simp [R7.v, Value.oneCell'])) ?_
 have hr := row_all (n := 18) (lV x (R.v x)) rfl (xU HS3).res
 have hcw := so_cw (lo := lo) (xU HS3) (lV x (R.v x)) (low7R (xU HLB))
 have hxx := newExc (xU HX3) (exc_setCells W3 (w.heap.size + 1) 0 (lV x (R.v x))) (by omega)
 generalize W3.setCells (w.heap.size + 1) 0 _ = WE at hr hcw hxx ⊢
 have HRR := xH hr; have HCW := xH hcw; have HXX := xH hxx
 clear hr hcw hxx HS3 HX3
 go_wp2_with fail
 refine bodyPost_ret (v := .agg (lV x (R.v x)).toArray) (results_cell_row (P := Tryz.prog) (by rfl) _ WE (w.heap.size + 1) 26 (lV x (R.v x)).toArray (0, 0) _ (by rfl) (row_cells (xU HRR) rfl) Tryz.underlying26 (by rfl) info18) rfl ?_
 rw [show stW x i 0 = { x with hands := x.hands.set i ⟨2, jb⟩ } from by unfold stW; rw [if_neg (by omega), if_neg (by omega), if_neg (by rw [xU HSTX]; omega), if_pos (xU HSTX), xU HJE]]
 exact ⟨R.v x, _, rfl, xU HCW, fun _ h => h, xU HXX⟩
theorem doWork_give (x : Cw) (R : R7) (lo : Nat) (i : Nat) (w : World) (hR : Rw7 w lo x R) (hi : i < x.hands.length) (hop : 0 ≤ x.ops ∧ x.ops ≤ 10000) (hst : (x.hands.getD i ⟨0, 0⟩).state = 2) (hrl : x.results.length ≤ 1000) : Calls Tryz.prog 40 #[.agg (lV x (R.v x)).toArray, .int .i64 (i : Int), .int .i64 0] w fun e w' => SpEnd w w' e (stW x i 0) R lo := by
 obtain ⟨dd, hdu, hdr⟩ := rowWorld
 obtain ⟨j1, hI, hI0, hI1, hI2⟩ := info_parts infoIntM
 have HI := xH hI; have HI0 := xH hI0; have HI1 := xH hI1; have HI2 := xH hI2
 clear hI hI0 hI1 hI2
 have hw17 : IntKind.i64.wrap (x.ops + 1) = x.ops + 1 := by rw [IntKind.wrap_i64]; omega
 have HLB := xH (fun y (hy : y ∈ R.bl) => (hR.lt y hy).1)
 have HIX := xH hi
 have HJB := xH (True.intro); have HST := xH hst; have HSTX := xH hst
 have HLT := xH (fun y (hy : y ∈ R.bl) => (hR.lt y hy).2)
 have HLO := xH (show lo ≤ w.heap.size from by have := hR.lt R.q (by simp [R7.bl]); omega)
 obtain ⟨hx0, hr0, hs0⟩ := so_pre hR
 have HX0 := xH hx0; have HR0 := xH hr0; have HS0 := xH hs0
 clear hR hx0 hr0 hs0 hi hst 
 go_enter Tryz.func40, Tryz.ntmps40
 go_upto_region 1 with fail
 generalize (w.alloc _).alloc _ = W0 at HS0 HX0 HR0 ⊢
 obtain ⟨e0, e1⟩ := own_hand (i := i) (xU HR0).h (xU HIX)
 have k6 : W0.cell? ⟨w.heap.size, 6, none⟩ = some (.slice (some ⟨R.h, 0, none⟩) x.hands.length R.ch) := (xU HS0).box.cell (i := 6) (by omega)
 have hi2 := xU HIX
 obtain ⟨jb, hjb⟩ : ∃ jb, (x.hands.getD i ⟨0, 0⟩).job = jb := ⟨_, rfl⟩
 rw [hjb] at e1
 have HJE := xH hjb
 clear hjb HJB
 generalize (x.hands.getD i ⟨0, 0⟩).state = sh at e0 HST
 go_upto_region 5 with fail
 have hbg : Below W0.heap.size W0 (W0.alloc (.cells #[.int .i64 sh, .int .i64 jb] 73)) := (Below.refl _ _).alloc (Nat.le_refl _) _
 have HS1 := xH ((xU HS0).on hbg); have HX1 := xH ((xU HX0).trans (Exc.of_below hbg)); have HR1 := xH ((xU HR0).on hbg)
 have HH1 := xH (show (W0.alloc (.cells #[.int .i64 sh, .int .i64 jb] 73)).rowIs W0.heap.size 73 2 (r18 [.int .i64 sh, .int .i64 jb]) from World.rowIs_alloc W0 #[.int .i64 sh, .int .i64 jb] 73 (r18 [.int .i64 sh, .int .i64 jb]) (fun j hj => by
  rcases (show j = 0 ∨ j = 1 by simp at hj; omega) with rfl | rfl <;> rfl))
 have HG := xH (show w.heap.size + 2 ≤ W0.heap.size from (xU HS0).res.lt)
 generalize W0.alloc (.cells #[.int .i64 sh, .int .i64 jb] 73) = W1 at HS1 HX1 HR1 HH1 ⊢
 generalize W0.heap.size = g at HH1 HG ⊢
 have HO1 := xH (xU HR1).h
 clear e0 e1 k6 hbg HS0 HX0 HR0 hi2
 have h0 : W1.cell? ⟨g, 0, none⟩ = some (.int .i64 2) := by rw [← xU HST]; exact (xU HH1).cell (i := 0) (by omega)
 go_upto_region 2 with (fail)
 clear h0
 have h1 : W1.cell? ⟨g, 1, none⟩ = some (.int .i64 jb) := (xU HH1).cell (i := 1) (by omega)
 have ko : W1.cell? ⟨w.heap.size, 8, none⟩ = some (.slice (some ⟨R.r, 0, none⟩) x.results.length R.cr) := (xU HS1).box.cell (i := 8) (by omega)
 have HSZ := xH (show lo ≤ W1.heap.size from Nat.le_trans (xU HLO) (xU HX1).size)
 go_upto_region 3 with (at_builtin; refine append_row _ rfl _ _ 23 rfl lo 3 j1 (.int .i64 0) 1 8 Tryz.underlying23 (xU HI) (xU HI0) (xU HI1) (xU HI2) rfl (by decide) (.slice (some ⟨R.r, 0, none⟩) x.results.length R.cr) x.results.length (x.results.map zcs).flatten rfl (World.ownsRow.alloc (xU HR1).r _) ⟨_, 0, none⟩ 1 1 [.int .i64 (jb)] rfl rfl (cell_oneV _ _ _) (fun u hu => by simp at hu; subst hu; rfl) (by decide) (by unfold maxLen; omega) (by omega) (by have := xU HSZ; simp; omega) ?_; intro v' V8 ho hg hat; obtain ⟨g8, cap8, rfl, hg1, hg2⟩ := ho.form (by omega); have HG8 := xH (show lo ≤ g8 from hg1); obtain ⟨hsb, hcl, hfz, hxx⟩ := (xU HS1).app_r (z := jb) ho hg (by rcases hat with e | ⟨g, e, h⟩; exact Or.inl (Option.some.inj e); exact Or.inr (by have e2 : g8 = g := Option.some.inj e; rw [e2]; exact h)); have HS2 := xH hsb; have HX2 := xH (appExc (xU HX1) hxx (Nat.le_refl _) (by simp [R7.bl, R7.b])); have HH2 := xH ((xU HH1).of_block (hxx.block g (xU HH1).lt (by have := xU HG; have := xU HLT R.r (by simp [R7.bl]); simp [R7.b]; omega))); have HO2 := xH (ownsRow_keepT (xU HO1) (fun y e => by simp only [R7.v, Value.ownBlock, Option.some.injEq] at e; subst e; exact hxx.block R.h ((xU HO1).lt _ rfl).2 (by have h1 := xU HLT R.h (by simp [R7.bl]); have h2 := ndq (xU HR1).nd 1 2 rfl rfl (by decide); simp [R7.b]; omega))); have HGB := xH (bl_ne_g (xU HLT) (by have := xU HG; omega) (g8_ne (r := R.r) (n := x.results.length + 1) (cap := cap8) (g := g) hat (by have := (xU HH1).lt; simp; omega) (by have := xU HG; have := xU HLT R.r (by simp [R7.bl]); omega))); clear hsb hxx ho hg hat)
 generalize V8.setCell ⟨w.heap.size, 8, none⟩ (.slice (some ⟨g8, 0, none⟩) (x.results.length + 1) cap8) = W2 at HS2 HX2 HH2 HO2 ⊢
 clear ko hcl hfz HSZ HS1 HX1 HR1 h1 HH1 HO1
 have h0 : W2.cell? ⟨g, 0, none⟩ = some (.int .i64 sh) := (xU HH2).cell (i := 0) (by omega)
 have h1 : W2.cell? ⟨g, 1, none⟩ = some (.int .i64 jb) := (xU HH2).cell (i := 1) (by omega)
 have hf0 := (xU HH2).frozen 0; have hf1 := (xU HH2).frozen 1
 have hxg : Exc [g] W2 ((W2.setCell ⟨g, 0, none⟩ (.int .i64 0)).setCell ⟨g, 1, none⟩ (.int .i64 0)) := ((Exc.set (F := [g]) W2 g 0 (.int .i64 0) (by simp)).trans (Exc.set (F := [g]) _ g 1 (.int .i64 0) (by simp)))
 have HS3 := xH ((xU HS2).carry (hxg.block _ (xU HS2).box.lt (by have := xU HG; simp; omega)) (hxg.block _ (xU HS2).res.lt (by have := xU HG; simp; omega)) (fun y hy => hxg.block y ((xU HS2).lt y hy) (by have := xU HGB y; simp only [List.mem_singleton]; intro e; exact this hy e)) hxg.size)
 have HX3 := xH (newExc (xU HX2) hxg (by have := xU HG; omega))
 have HO3 := xH (ownsRow_keepT (xU HO2) (fun y e => hxg.block y ((xU HO2).lt y e).2 (by simp only [R7.v, Value.ownBlock, Option.some.injEq] at e; subst e; have := xU HLT R.h (by simp [R7.bl]); have := xU HG; simp; omega)))
 have HH3 := xH (show ((W2.setCell ⟨g, 0, none⟩ (.int .i64 0)).setCell ⟨g, 1, none⟩ (.int .i64 0)).rowIs g 73 2 (r18 [.int .i64 0, .int .i64 0]) from (((xU HH2).set 0 (.int .i64 0)).set 1 (.int .i64 0)).congr fun q hq => by rcases (show q = 0 ∨ q = 1 by omega) with rfl | rfl <;> rfl)
 clear hxg
 go_upto_region 4 with fail
 generalize ((W2.setCell ⟨g, 0, none⟩ (.int .i64 0)).setCell ⟨g, 1, none⟩ (.int .i64 0)) = W3 at HS3 HX3 HO3 HH3 ⊢
 clear h0 h1 hf0 hf1 HS2 HX2 HO2 HH2 
 have ko : W3.cell? ⟨w.heap.size, 17, none⟩ = some (.int .i64 x.ops) := (xU HS3).box.cell (i := 17) (by omega)
 have fo := (xU HS3).box.frozen 17
 have HS4 := xH (show Sb (W3.setCell ⟨w.heap.size, 17, none⟩ (.int .i64 (x.ops + 1))) w.heap.size (w.heap.size + 1) { x with results := x.results ++ [jb], ops := (x.ops + 1) } ({ R.v x with r := .slice (some ⟨g8, 0, none⟩) (x.results.length + 1) cap8 }) ({ R.b with r := g8 }) from (xU HS3).put 17 (by omega) (.int .i64 (x.ops + 1)) rfl rfl rfl rfl rfl rfl rfl rfl)
 have HX4 := xH ((xU HX3).newSet (Nat.le_refl _) 17 (.int .i64 (x.ops + 1)))
 have HH4 := xH ((xU HH3).setOther (a := ⟨w.heap.size, 17, none⟩) (by have := xU HG; show g ≠ w.heap.size; omega) (.int .i64 (x.ops + 1)))
 have HO4 := xH (ownsRow_keepT (xU HO3) (fun y e => Below.heap_setCell W3 ⟨w.heap.size, 17, none⟩ (.int .i64 (x.ops + 1)) y (by simp only [R7.v, Value.ownBlock, Option.some.injEq] at e; subst e; have := xU HLT R.h (by simp [R7.bl]); show R.h ≠ w.heap.size; omega)))
 go_upto_region 15 with fail
 generalize W3.setCell ⟨w.heap.size, 17, none⟩ (.int .i64 (x.ops + 1)) = W4 at HS4 HX4 HH4 HO4 ⊢
 clear HH3 HO3 ko fo HS3 HX3  hw17
 have h0 : W4.cell? ⟨g, 0, none⟩ = some (.int .i64 0) := (xU HH4).cell (i := 0) (by omega)
 have h1 : W4.cell? ⟨g, 1, none⟩ = some (.int .i64 0) := (xU HH4).cell (i := 1) (by omega)
 have k6 : W4.cell? ⟨w.heap.size, 6, none⟩ = some (.slice (some ⟨R.h, 0, none⟩) x.hands.length R.ch) := (xU HS4).box.cell (i := 6) (by omega)
 obtain ⟨e0, e1⟩ := own_hand (i := i) (xU HO4) (xU HIX)
 have f0 := World.ownsRow.frozenAt (xU HO4) (i * 2); have f1 := World.ownsRow.frozenAt (xU HO4) (i * 2 + 1)
 generalize (x.hands.getD i ⟨0, 0⟩).job = jz at e1
 generalize (x.hands.getD i ⟨0, 0⟩).state = sz at e0
 have hi2 := xU HIX
 have HS5 := xH (show Sb ((W4.setCell ⟨R.h, i * 2, none⟩ (.int .i64 0)).setCell ⟨R.h, i * 2 + 1, none⟩ (.int .i64 0)) w.heap.size (w.heap.size + 1) { x with results := x.results ++ [jb], ops := (x.ops + 1), hands := x.hands.set i ⟨0, 0⟩ } ({ R.v x with r := .slice (some ⟨g8, 0, none⟩) (x.results.length + 1) cap8 }) ({ R.b with r := g8 }) from (xU HS4).mod_h ((Exc.set _ _ _ _ (by simp [R7.b])).trans (Exc.set _ _ _ _ (by simp [R7.b]))) (x.hands.set i ⟨0, 0⟩) (hat_set (xU HO4) (xU HIX) 0 0))
 have HX5 := xH ((xU HX4).trans ((Exc.set (F := R.bl) W4 R.h (i * 2) (.int .i64 0) (by simp [R7.bl])).trans (Exc.set (F := R.bl) _ R.h (i * 2 + 1) (.int .i64 0) (by simp [R7.bl]))))
 go_upto_region 16 with fail
 generalize ((W4.setCell ⟨R.h, i * 2, none⟩ (.int .i64 0)).setCell ⟨R.h, i * 2 + 1, none⟩ (.int .i64 0)) = W5 at HS5 HX5 ⊢
 clear h0 h1 k6 e0 e1 f0 f1 hi2 HS4 HX4 HO4 HH4  HGB
 refine wp_region_list ?_
 refine wpList_load_mid rfl _ _ rfl w.heap.size 0 rfl (lV { x with ops := (x.ops + 1) } { R.v x with r := .slice (some ⟨g8, 0, none⟩) (x.results.length + 1) cap8 }) dd (range_row (lV { x with ops := (x.ops + 1) } { R.v x with r := .slice (some ⟨g8, 0, none⟩) (x.results.length + 1) cap8 }) rfl (xU HS5).box) hdu hdr info18 ?_
 refine wpList_store_mid rfl _ _ _ rfl (w.heap.size + 1) 0 (lV { x with ops := (x.ops + 1) } { R.v x with r := .slice (some ⟨g8, 0, none⟩) (x.results.length + 1) cap8 }).toArray rfl rfl (there_row (xU HS5).res) info18 (one18 _ _ _ _ _ _ _ _ _ _ _ ({ R.v x with r := .slice (some ⟨g8, 0, none⟩) (x.results.length + 1) cap8 }) (by simp [R7.v, Value.oneCell'])) ?_
 have hr := row_all (n := 18) (lV { x with ops := (x.ops + 1) } { R.v x with r := .slice (some ⟨g8, 0, none⟩) (x.results.length + 1) cap8 }) rfl (xU HS5).res
 have hcw := so_cw (lo := lo) (xU HS5) (lV { x with ops := (x.ops + 1) } { R.v x with r := .slice (some ⟨g8, 0, none⟩) (x.results.length + 1) cap8 }) (low7 (xU HLB _ R7.mq) (xU HLB _ R7.mh) (xU HG8) (xU HLB _ R7.mg) (xU HLB _ R7.mo) (xU HLB _ R7.mt) (xU HLB _ R7.ms))
 have hxx := newExc (xU HX5) (exc_setCells W5 (w.heap.size + 1) 0 (lV { x with ops := (x.ops + 1) } { R.v x with r := .slice (some ⟨g8, 0, none⟩) (x.results.length + 1) cap8 })) (by omega)
 generalize W5.setCells (w.heap.size + 1) 0 _ = WE at hr hcw hxx ⊢
 have HRR := xH hr; have HCW := xH hcw; have HXX := xH hxx
 clear hr hcw hxx HS5 HX5
 go_wp2_with fail
 refine bodyPost_ret (v := .agg (lV { x with ops := (x.ops + 1) } { R.v x with r := .slice (some ⟨g8, 0, none⟩) (x.results.length + 1) cap8 }).toArray) (results_cell_row (P := Tryz.prog) (by rfl) _ WE (w.heap.size + 1) 26 (lV { x with ops := (x.ops + 1) } { R.v x with r := .slice (some ⟨g8, 0, none⟩) (x.results.length + 1) cap8 }).toArray (0, 0) _ (by rfl) (row_cells (xU HRR) rfl) Tryz.underlying26 (by rfl) info18) rfl ?_
 rw [show stW x i 0 = { x with results := x.results ++ [jb], ops := x.ops + 1, hands := x.hands.set i ⟨0, 0⟩ } from by unfold stW; rw [if_neg (by omega), if_neg (by omega), if_neg (by rw [xU HSTX]; omega), if_neg (by rw [xU HSTX]; omega), xU HJE]]
 exact ⟨{ R.v x with r := .slice (some ⟨g8, 0, none⟩) (x.results.length + 1) cap8 }, _, rfl, xU HCW, fun _ h => h, xU HXX⟩
end Go.Proofs.YtibgjcejddpldaaGreat
