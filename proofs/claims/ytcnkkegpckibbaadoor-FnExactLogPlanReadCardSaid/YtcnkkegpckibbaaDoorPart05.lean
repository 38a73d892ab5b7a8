/- The program's planIn: the plan in its box while it is read, and the region by which a part is added. No conditions. -/
import Derived.Test.YtcnkkegpckibbaaDoorPart04
import Derived.RangeFuncBox
import Derived.RangeFuncWrites
namespace Go.Proofs.YtcnkkegpckibbaaDoor
open Go Go.RowKit

theorem ko_below {W W' : World} (hb : Below W.heap.size W W') : KeepsOthers W W' := ⟨hb.size, fun k _ hk _ => (hb.block k (Array.getElem?_eq_some_iff.1 hk).1).trans hk⟩
theorem own_cells {W : World} {base e s n g : Nat} {v : Value} {xs : List Value} {o : Obj} (h : W.ownsRow base e s v n xs) (hv : v.ownBlock = some g) (ho : W.heap[g]? = some o) : o.isCells = true := by
  rcases h.2 with ⟨rfl, _⟩ | ⟨g', cap, cur, rfl, _, hgb, _⟩
  · simp [Value.ownBlock] at hv
  · obtain rfl : g' = g := by simpa [Value.ownBlock] using hv
    rw [hgb] at ho; cases ho; rfl
/-- A plan while it is read by the program, in its box; what was no cells in V is as it was. -/
structure PrI (w V W : World) (v : Value) (ps : List Pt) (x y : Int) : Prop where
  bel : Below w.heap.size w W
  ko : KeepsOthers V W
  b2 : W.rowIs w.heap.size 25 3 (row3 (.slice none 0 0) (.int .i64 0) (.int .i64 0))
  b3 : Boxed W (w.heap.size + 1) 4 (.bool false)
  b4 : W.rowIs (w.heap.size + 2) 25 3 (row3 v (.int .i64 x) (.int .i64 y))
  own : W.ownsRow (w.heap.size + 3) 32 4 v ps.length (ps.map Pt.cs).flatten
theorem PrI.on {w V W W' : World} {v : Value} {ps : List Pt} {x y : Int} (h : PrI w V W v ps x y) (hb : Below W.heap.size W W') : PrI w V W' v ps x y :=
  ⟨h.bel.trans (hb.mono h.bel.size), h.ko.trans (ko_below hb), h.b2.of_block (hb.block _ h.b2.lt), (hb.block _ (Array.getElem?_eq_some_iff.1 h.b3).1).trans h.b3, h.b4.of_block (hb.block _ h.b4.lt), ownsR_keep h.own (fun g e => hb.block g (h.own.lt g e).2)⟩
theorem own_ne_box {W : World} {base e s n b t : Nat} {v u : Value} {xs : List Value} (h : W.ownsRow base e s v n xs) (hr : Boxed W b t u) (hne : e ≠ t) : v.ownBlock ≠ some b := fun hv => by
  rcases h.2 with ⟨hv', _⟩ | ⟨g, c, cur, hv', _, hh, _⟩
  · rw [hv'] at hv; cases hv
  · rw [hv'] at hv
    simp only [Value.ownBlock, Option.some.injEq] at hv
    subst hv
    have h2 : W.heap[g]? = some _ := hr
    rw [hh] at h2
    simp only [Option.some.injEq, Obj.cells.injEq] at h2
    exact hne h2.2.1
/-- Another part stands behind the parts. -/
theorem PrI.add {w V W W' : World} {v v' : Value} {ps : List Pt} {x y : Int} {ob : Obj} (h : PrI w V W v ps x y) (p : Pt) (ho : W'.ownsRow (w.heap.size + 3) 32 4 v' (ps.length + 1) ((ps.map Pt.cs).flatten ++ p.cs)) (hg : (W.alloc ob).grownBy W' v.ownBlock) : W'.rowIs (w.heap.size + 2) 25 3 (row3 v (.int .i64 x) (.int .i64 y)) ∧ PrI w V (W'.setCell ⟨w.heap.size + 2, 0, none⟩ v') v' (ps ++ [p]) x y := by
  have hs : ∀ b, b < W.heap.size → v.ownBlock ≠ some b → W'.heap[b]? = W.heap[b]? := fun b hb hne => by
    rw [hg.block b (by rw [World.size_alloc]; omega) (fun e => hne e.symm), Below.heap_alloc _ _ _ hb]
  have h4 := h.b4.of_block (hs _ h.b4.lt (own_ne_row h.own h.b4 (by decide)))
  have h2 := h.b2.of_block (hs _ h.b2.lt (own_ne_row h.own h.b2 (by decide)))
  have h3 := (hs _ (Array.getElem?_eq_some_iff.1 h.b3).1 (own_ne_box h.own h.b3 (by decide))).trans h.b3
  have hbs := h.bel.size
  refine ⟨h4, ⟨?_, ((h.ko.trans (KeepsOthers.alloc W ob)).trans (KeepsOthers.of_grownBy hg fun j o ej hj => own_cells (World.ownsRow.alloc h.own ob) ej hj)).trans (KeepsOthers.setCell _ _ _), h2.of_block (Below.heap_setCell _ _ _ _ (by simp)), (Below.heap_setCell _ _ _ _ (by simp)).trans h3, row3_set0 h4 v', ?_⟩⟩
  · refine ⟨hg.os.trans h.bel.os, hg.tape.trans h.bel.tape, hg.output.trans h.bel.output, by have := hg.size; rw [World.size_alloc] at this; rw [World.size_setCell]; omega, fun b hb => ?_⟩
    rw [Below.heap_setCell _ _ _ _ (by simp; omega), hs b (by omega) (fun e => by have := (h.own.lt b e).1; omega)]
    exact h.bel.block b hb
  · refine ownsR_keep (w := W') ?_ (fun g e => Below.heap_setCell _ _ _ _ (by have := (ho.lt g e).1; simp; omega))
    rw [List.length_append, List.map_append, List.flatten_append]
    simpa using ho
noncomputable def pi6Ops : Array Oper := fops Tryd.f22 6
theorem pi6_neat : Region.noSelect pi6Ops = true ∧ neat pi6Ops = true := ⟨by kernel_rfl, by kernel_rfl⟩
theorem onI {w V W W' : World} {v0 : Value} {ps : List Pt} {x y : Int} {base gx cx : Nat} {xs : List Value} (h : PrI w V W v0 ps x y ∧ W.ownsRow base 3 1 (.slice (some ⟨gx, 0, none⟩) 4 cx) 4 xs) (hb : Below W.heap.size W W') : PrI w V W' v0 ps x y ∧ W'.ownsRow base 3 1 (.slice (some ⟨gx, 0, none⟩) 4 cx) 4 xs :=
  ⟨h.1.on hb, ownsR_keep h.2 (fun g e => hb.block g (h.2.lt g e).2)⟩
set_option maxRecDepth 100000 in
set_option maxHeartbeats 1600000 in
theorem pi6 (r n : Nat) (w V : World) (v0 : Value) (ps : List Pt) (x y : Int) (gx cx : Nat) (z0 z1 z2 z3 : Int) (hn : ps.length ≤ 1000) (W0 : World) {l : List Value} (Q : Exit → Act → World → Prop) (hQ : ∀ c a d v w, Q (.panic c) (Act.put a d v) w → Q (.panic c) a w) (hLQ : ¬ LetsOut Q) (h : (PrI w V W0.drew v0 ps x y ∧ W0.drew.ownsRow (w.heap.size + 3) 3 1 (.slice (some ⟨gx, 0, none⟩) 4 cx) 4 [.int .i64 z0, .int .i64 z1, .int .i64 z2, .int .i64 z3])) (hl : lookL [(4, .pointer (some ⟨w.heap.size + 2, 0, none⟩)), (8, .slice (some ⟨gx, 0, none⟩) 4 cx)] l = (75, [.pointer (some ⟨w.heap.size + 2, 0, none⟩), .slice (some ⟨gx, 0, none⟩) 4 cx]))
    (hend : ∀ v v' W', PrI w V W' v' (ps ++ [⟨z0, z1, z2, z3⟩]) x y → Q .normal ⟨(frL v 75 [(4, .pointer (some ⟨w.heap.size + 2, 0, none⟩)), (8, .slice (some ⟨gx, 0, none⟩) 4 cx)]).toArray, []⟩ W') : (Code.region 6 pi6Ops true).wpIn (Fence.wide.inRound r) n Tryd.prog Q ⟨l.toArray, []⟩ W0 := by
  obtain ⟨v, rfl⟩ := look_fr hl
  have hq : NtQ pi6Ops Q := ⟨pi6_neat, hQ⟩
  clear hl hQ
  have Q1 : ∀ v W, (PrI w V W v0 ps x y ∧ W.ownsRow (w.heap.size + 3) 3 1 (.slice (some ⟨gx, 0, none⟩) 4 cx) 4 [.int .i64 z0, .int .i64 z1, .int .i64 z2, .int .i64 z3]) → wpS Tryd.prog pi6Ops Q (fun W => W.cell? ⟨gx, 0, none⟩ = some (.int .i64 z0) ∧ W.cell? ⟨gx, 1, none⟩ = some (.int .i64 z1) ∧ W.cell? ⟨gx, 2, none⟩ = some (.int .i64 z2) ∧ W.cell? ⟨gx, 3, none⟩ = some (.int .i64 z3)) (unl 19 [16, 17, 18], frL v 75 [(4, .pointer (some ⟨w.heap.size + 2, 0, none⟩)), (8, .slice (some ⟨gx, 0, none⟩) 4 cx), (32, .pointer (some ⟨w.heap.size + 2, 0, none⟩)), (33, v0), (46, .agg #[.int .i64 z0, .int .i64 z1, .int .i64 z2, .int .i64 z3]), (47, .slice (some ⟨W.heap.size, 0, none⟩) 1 1)]) [] (W.alloc (.cells #[.int .i64 z0, .int .i64 z1, .int .i64 z2, .int .i64 z3] 32)) := fun v W h => by
    obtain ⟨i0, hi0, hi1, hi2, hi3⟩ := infoPartRD
    have hbs := h.1.bel.size
    have hb4 := h.1.b4.lt
    refine T_one 16 (by kernel_rfl) fun _ => O_list (some 48) (by kernel_rfl) ?_
    refine append_row _ (by kernel_rfl) (.tmp 33) (.tmp 47) 23 (by kernel_rfl) (w.heap.size + 3) 32 i0 (.agg #[.int .i64 0, .int .i64 0, .int .i64 0, .int .i64 0]) 4 32 Tryd.underlying23 hi0 hi1 hi2 hi3 rfl (by decide) v0 ps.length (ps.map Pt.cs).flatten (by kernel_rfl) (World.ownsRow.alloc h.1.own _) ⟨W.heap.size, 0, none⟩ 1 1 [.int .i64 z0, .int .i64 z1, .int .i64 z2, .int .i64 z3] (by kernel_rfl) rfl (cell_4R W _ _ _ _ _) (fun u hu => by simp at hu; rcases hu with rfl | rfl | rfl | rfl <;> rfl) (by decide) (by unfold maxLen; omega) (by omega) (by rw [World.size_alloc]; omega) ?_
    intro v' W2 hown hgrow hat
    obtain ⟨g5, cap5, rfl, -, -⟩ := hown.form (by omega)
    obtain ⟨hb4', h2⟩ := h.1.add ⟨z0, z1, z2, z3⟩ hown hgrow
    have hgx : v0.ownBlock ≠ some gx := fun e => ints_parts h.2 h.1.own e
    have hx2 : W2.ownsRow (w.heap.size + 3) 3 1 (.slice (some ⟨gx, 0, none⟩) 4 cx) 4 [.int .i64 z0, .int .i64 z1, .int .i64 z2, .int .i64 z3] := ownsR_keep h.2 (fun g e => by
      simp only [Value.ownBlock, Option.some.injEq] at e
      subst e
      rw [hgrow.block gx (by rw [World.size_alloc]; have := (h.2.lt gx rfl).2; omega) (fun e => hgx e.symm), Below.heap_alloc _ _ _ (h.2.lt gx rfl).2])
    have hx3 : (W2.setCell ⟨w.heap.size + 2, 0, none⟩ (.slice (some ⟨g5, 0, none⟩) (ps.length + 1) cap5)).ownsRow (w.heap.size + 3) 3 1 (.slice (some ⟨gx, 0, none⟩) 4 cx) 4 [.int .i64 z0, .int .i64 z1, .int .i64 z2, .int .i64 z3] := ownsR_keep hx2 (fun g e => Below.heap_setCell _ _ _ _ (by have := (hx2.lt g e).1; simp; omega))
    refine ⟨cells4 hx2, _, put_putL .., ?_⟩
    refine T_z hq [17] (by kernel_rfl) ?_
    refine T_one 18 (by kernel_rfl) fun _ => O_store none 23 (.tmp 49) (.tmp 48) ⟨w.heap.size + 2, 0, none⟩ (.slice (some ⟨g5, 0, none⟩) (ps.length + 1) cap5) _ (by kernel_rfl) (by kernel_rfl) (by kernel_rfl) (stPts W2 _ _ _ _ _ (hb4'.cell (i := 0) (by omega)) (hb4'.frozen 0)) (cells4 hx3) ?_
    exact T_end 75 [(4, .pointer (some ⟨w.heap.size + 2, 0, none⟩)), (8, .slice (some ⟨gx, 0, none⟩) 4 cx)] (by kernel_rfl) (by kernel_rfl) fun _ v => hend v _ _ h2
  have Q0 : ∀ v W, (PrI w V W v0 ps x y ∧ W.ownsRow (w.heap.size + 3) 3 1 (.slice (some ⟨gx, 0, none⟩) 4 cx) 4 [.int .i64 z0, .int .i64 z1, .int .i64 z2, .int .i64 z3]) → wpS Tryd.prog pi6Ops Q (fun W => W.cell? ⟨gx, 0, none⟩ = some (.int .i64 z0) ∧ W.cell? ⟨gx, 1, none⟩ = some (.int .i64 z1) ∧ W.cell? ⟨gx, 2, none⟩ = some (.int .i64 z2) ∧ W.cell? ⟨gx, 3, none⟩ = some (.int .i64 z3)) (unl 19 [15, 16, 17, 18], frL v 75 [(4, .pointer (some ⟨w.heap.size + 2, 0, none⟩)), (8, .slice (some ⟨gx, 0, none⟩) 4 cx), (32, .pointer (some ⟨w.heap.size + 2, 0, none⟩)), (33, v0), (46, .agg #[.int .i64 z0, .int .i64 z1, .int .i64 z2, .int .i64 z3])]) [] W := fun v W h => T_one 15 (by kernel_rfl) fun _ => O_val (w' := W.alloc (.cells #[.int .i64 z0, .int .i64 z1, .int .i64 z2, .int .i64 z3] 32)) (some 47) (.slice (some ⟨W.heap.size, 0, none⟩) 1 1) (by kernel_rfl) (by kernel_rfl) ((cells4 ((onI (h) ((Below.refl _ W).alloc (Nat.le_refl _) (.cells #[.int .i64 z0, .int .i64 z1, .int .i64 z2, .int .i64 z3] 32)))).2)) ((T_fr 19 75 [16, 17, 18] [(4, .pointer (some ⟨w.heap.size + 2, 0, none⟩)), (8, .slice (some ⟨gx, 0, none⟩) 4 cx), (32, .pointer (some ⟨w.heap.size + 2, 0, none⟩)), (33, v0), (46, .agg #[.int .i64 z0, .int .i64 z1, .int .i64 z2, .int .i64 z3]), (47, .slice (some ⟨W.heap.size, 0, none⟩) 1 1)] (by kernel_rfl) fun v => Q1 v W h))
  have P1 : ∀ v W, (PrI w V W v0 ps x y ∧ W.ownsRow (w.heap.size + 3) 3 1 (.slice (some ⟨gx, 0, none⟩) 4 cx) 4 [.int .i64 z0, .int .i64 z1, .int .i64 z2, .int .i64 z3]) → wpS Tryd.prog pi6Ops Q (fun W => W.cell? ⟨gx, 0, none⟩ = some (.int .i64 z0) ∧ W.cell? ⟨gx, 1, none⟩ = some (.int .i64 z1) ∧ W.cell? ⟨gx, 2, none⟩ = some (.int .i64 z2) ∧ W.cell? ⟨gx, 3, none⟩ = some (.int .i64 z3)) (unl 19 [1, 16, 17, 18], frL v 75 [(4, .pointer (some ⟨w.heap.size + 2, 0, none⟩)), (8, .slice (some ⟨gx, 0, none⟩) 4 cx), (32, .pointer (some ⟨w.heap.size + 2, 0, none⟩)), (46, .agg #[.int .i64 z0, .int .i64 z1, .int .i64 z2, .int .i64 z3]), (47, .slice (some ⟨W.heap.size, 0, none⟩) 1 1)]) [] (W.alloc (.cells #[.int .i64 z0, .int .i64 z1, .int .i64 z2, .int .i64 z3] 32)) := fun v W h => T_one 1 (by kernel_rfl) fun hS => O_val (some 33) (v0) (by kernel_rfl) (ldOp (X := .tmp 32) (by kernel_rfl) (by kernel_rfl) (ldPts (W.alloc (.cells #[.int .i64 z0, .int .i64 z1, .int .i64 z2, .int .i64 z3] 32)) ⟨w.heap.size + 2, 0, none⟩ _ (((onI (h) ((Below.refl _ W).alloc (Nat.le_refl _) (.cells #[.int .i64 z0, .int .i64 z1, .int .i64 z2, .int .i64 z3] 32)))).1.b4.cell (i := 0) (by omega)))) hS (T_fr 19 75 [16, 17, 18] [(4, .pointer (some ⟨w.heap.size + 2, 0, none⟩)), (8, .slice (some ⟨gx, 0, none⟩) 4 cx), (32, .pointer (some ⟨w.heap.size + 2, 0, none⟩)), (33, v0), (46, .agg #[.int .i64 z0, .int .i64 z1, .int .i64 z2, .int .i64 z3]), (47, .slice (some ⟨W.heap.size, 0, none⟩) 1 1)] (by kernel_rfl) fun v => Q1 v W h)
  have P0 : ∀ v W, (PrI w V W v0 ps x y ∧ W.ownsRow (w.heap.size + 3) 3 1 (.slice (some ⟨gx, 0, none⟩) 4 cx) 4 [.int .i64 z0, .int .i64 z1, .int .i64 z2, .int .i64 z3]) → wpS Tryd.prog pi6Ops Q (fun W => W.cell? ⟨gx, 0, none⟩ = some (.int .i64 z0) ∧ W.cell? ⟨gx, 1, none⟩ = some (.int .i64 z1) ∧ W.cell? ⟨gx, 2, none⟩ = some (.int .i64 z2) ∧ W.cell? ⟨gx, 3, none⟩ = some (.int .i64 z3)) (unl 19 [1, 15, 16, 17, 18], frL v 75 [(4, .pointer (some ⟨w.heap.size + 2, 0, none⟩)), (8, .slice (some ⟨gx, 0, none⟩) 4 cx), (32, .pointer (some ⟨w.heap.size + 2, 0, none⟩)), (46, .agg #[.int .i64 z0, .int .i64 z1, .int .i64 z2, .int .i64 z3])]) [] W := fun v W h => T_two 1 15 (by kernel_rfl)
    (fun hS => O_val (some 33) (v0) (by kernel_rfl) (ldOp (X := .tmp 32) (by kernel_rfl) (by kernel_rfl) (ldPts W ⟨w.heap.size + 2, 0, none⟩ _ ((h).1.b4.cell (i := 0) (by omega)))) hS (T_fr 19 75 [15, 16, 17, 18] [(4, .pointer (some ⟨w.heap.size + 2, 0, none⟩)), (8, .slice (some ⟨gx, 0, none⟩) 4 cx), (32, .pointer (some ⟨w.heap.size + 2, 0, none⟩)), (33, v0), (46, .agg #[.int .i64 z0, .int .i64 z1, .int .i64 z2, .int .i64 z3])] (by kernel_rfl) fun v => Q0 v W h))
    (fun _ => O_val (w' := W.alloc (.cells #[.int .i64 z0, .int .i64 z1, .int .i64 z2, .int .i64 z3] 32)) (some 47) (.slice (some ⟨W.heap.size, 0, none⟩) 1 1) (by kernel_rfl) (by kernel_rfl) ((cells4 ((onI (h) ((Below.refl _ W).alloc (Nat.le_refl _) (.cells #[.int .i64 z0, .int .i64 z1, .int .i64 z2, .int .i64 z3] 32)))).2)) ((T_fr 19 75 [1, 16, 17, 18] [(4, .pointer (some ⟨w.heap.size + 2, 0, none⟩)), (8, .slice (some ⟨gx, 0, none⟩) 4 cx), (32, .pointer (some ⟨w.heap.size + 2, 0, none⟩)), (46, .agg #[.int .i64 z0, .int .i64 z1, .int .i64 z2, .int .i64 z3]), (47, .slice (some ⟨W.heap.size, 0, none⟩) 1 1)] (by kernel_rfl) fun v => P1 v W h)))
  refine T_startIn (S := fun W => W.cell? ⟨gx, 0, none⟩ = some (.int .i64 z0) ∧ W.cell? ⟨gx, 1, none⟩ = some (.int .i64 z1) ∧ W.cell? ⟨gx, 2, none⟩ = some (.int .i64 z2) ∧ W.cell? ⟨gx, 3, none⟩ = some (.int .i64 z3)) r n (by kernel_rfl) hLQ (by kernel_rfl) (cells4 h.2) (T_z hq [0, 2, 5, 8, 11] (by kernel_rfl) (T_yld hq 3 (some 35) (.pointer (some ⟨gx, 0, none⟩)) (by kernel_rfl) (by kernel_rfl) (fun w _ => ixRunI (n := 4) (cap := cx) (i := 0) (X := .tmp 34) (I := .const (.int .i64 0)) (by kernel_rfl) (by kernel_rfl) (by kernel_rfl) (by omega) w) (T_a hq [4] (fun w h => .cons (ldIntR _ _ _ h.1) Lds.nil) (by kernel_rfl) (T_yld hq 6 (some 38) (.pointer (some ⟨gx, 1, none⟩)) (by kernel_rfl) (by kernel_rfl) (fun w _ => ixRunI (n := 4) (cap := cx) (i := 1) (X := .tmp 37) (I := .const (.int .i64 1)) (by kernel_rfl) (by kernel_rfl) (by kernel_rfl) (by omega) w) (T_a hq [7] (fun w h => .cons (ldIntR _ _ _ h.2.1) Lds.nil) (by kernel_rfl) (T_yld hq 9 (some 41) (.pointer (some ⟨gx, 2, none⟩)) (by kernel_rfl) (by kernel_rfl) (fun w _ => ixRunI (n := 4) (cap := cx) (i := 2) (X := .tmp 40) (I := .const (.int .i64 2)) (by kernel_rfl) (by kernel_rfl) (by kernel_rfl) (by omega) w) (T_a hq [10] (fun w h => .cons (ldIntR _ _ _ h.2.2.1) Lds.nil) (by kernel_rfl) (T_yld hq 12 (some 44) (.pointer (some ⟨gx, 3, none⟩)) (by kernel_rfl) (by kernel_rfl) (fun w _ => ixRunI (n := 4) (cap := cx) (i := 3) (X := .tmp 43) (I := .const (.int .i64 3)) (by kernel_rfl) (by kernel_rfl) (by kernel_rfl) (by omega) w) (T_a hq [13] (fun w h => .cons (ldIntR _ _ _ h.2.2.2) Lds.nil) (by kernel_rfl) (T_z hq [14] (by kernel_rfl) ?_))))))))))
  exact T_fr 19 75 [1, 15, 16, 17, 18] [(4, .pointer (some ⟨w.heap.size + 2, 0, none⟩)), (8, .slice (some ⟨gx, 0, none⟩) 4 cx), (32, .pointer (some ⟨w.heap.size + 2, 0, none⟩)), (46, .agg #[.int .i64 z0, .int .i64 z1, .int .i64 z2, .int .i64 z3])] (by kernel_rfl) fun v => P0 v _ h
end Go.Proofs.YtcnkkegpckibbaaDoor

/- The program's planIn: the region by which the open part is set, in a round. No conditions. -/

namespace Go.Proofs.YtcnkkegpckibbaaDoor
open Go Go.RowKit

theorem row3_pi1 {W : World} {g t : Nat} {x0 x1 x2 : Value} (h : W.rowIs g t 3 (row3 x0 x1 x2)) (u : Value) : (W.setCell ⟨g, 1, none⟩ u).rowIs g t 3 (row3 x0 u x2) :=
  (h.set 1 u).congr (fun i hi => by rcases (show i = 0 ∨ i = 1 ∨ i = 2 by omega) with rfl | rfl | rfl <;> rfl)
theorem row3_pi2 {W : World} {g t : Nat} {x0 x1 x2 : Value} (h : W.rowIs g t 3 (row3 x0 x1 x2)) (u : Value) : (W.setCell ⟨g, 2, none⟩ u).rowIs g t 3 (row3 x0 x1 u) :=
  (h.set 2 u).congr (fun i hi => by rcases (show i = 0 ∨ i = 1 ∨ i = 2 by omega) with rfl | rfl | rfl <;> rfl)
theorem PrI.set1 {w V W : World} {v : Value} {ps : List Pt} {x y : Int} (h : PrI w V W v ps x y) (u : Int) : PrI w V (W.setCell ⟨w.heap.size + 2, 1, none⟩ (.int .i64 u)) v ps u y :=
  ⟨h.bel.setCell (by simp) _, h.ko.trans (KeepsOthers.setCell _ _ _), h.b2.of_block (Below.heap_setCell _ _ _ _ (by simp)), (Below.heap_setCell _ _ _ _ (by simp)).trans h.b3, row3_pi1 h.b4 _, ownsR_keep h.own (fun g e => Below.heap_setCell _ _ _ _ (by have := (h.own.lt g e).1; simp; omega))⟩
theorem PrI.set2 {w V W : World} {v : Value} {ps : List Pt} {x y : Int} (h : PrI w V W v ps x y) (u : Int) : PrI w V (W.setCell ⟨w.heap.size + 2, 2, none⟩ (.int .i64 u)) v ps x u :=
  ⟨h.bel.setCell (by simp) _, h.ko.trans (KeepsOthers.setCell _ _ _), h.b2.of_block (Below.heap_setCell _ _ _ _ (by simp)), (Below.heap_setCell _ _ _ _ (by simp)).trans h.b3, row3_pi2 h.b4 _, ownsR_keep h.own (fun g e => Below.heap_setCell _ _ _ _ (by have := (h.own.lt g e).1; simp; omega))⟩
theorem stIntR (w : World) (ad : Addr) (z : Int) (u : Value) (h : w.cell? ad = some u) (hf : w.frozen? ad = false) : (Instr.storeAt 3 (.pointer (some ad)) (.int .i64 z)).run Tryd.prog w = .ok () (w.setCell ad (.int .i64 z)) := by
  simp [Instr.storeAt, Instr.sureAddr, storeVar, h, hf, go_sem]
noncomputable def pi8Ops : Array Oper := fops Tryd.f22 8
theorem pi8_neat : Region.noSelect pi8Ops = true ∧ neat pi8Ops = true := ⟨by kernel_rfl, by kernel_rfl⟩
theorem cells2 {W : World} {base gx cx : Nat} {z0 z1 : Int} (h : W.ownsRow base 3 1 (.slice (some ⟨gx, 0, none⟩) 2 cx) 2 [.int .i64 z0, .int .i64 z1]) : W.cell? ⟨gx, 0, none⟩ = some (.int .i64 z0) ∧ W.cell? ⟨gx, 1, none⟩ = some (.int .i64 z1) :=
  ⟨h.cellAt 0 (by omega), h.cellAt 1 (by omega)⟩
theorem own_set {w W : World} {gx cx n : Nat} {i : Nat} {u : Value} {xs : List Value} (h : W.ownsRow (w.heap.size + 3) 3 1 (.slice (some ⟨gx, 0, none⟩) n cx) n xs) : (W.setCell ⟨w.heap.size + 2, i, none⟩ u).ownsRow (w.heap.size + 3) 3 1 (.slice (some ⟨gx, 0, none⟩) n cx) n xs :=
  ownsR_keep h (fun g e => Below.heap_setCell _ _ _ _ (by have := (h.lt g e).1; simp; omega))
set_option maxRecDepth 100000 in
set_option maxHeartbeats 1600000 in
theorem pi8 (r n : Nat) (w V : World) (v0 : Value) (ps : List Pt) (x y : Int) (gx cx : Nat) (z0 z1 : Int) (W0 : World) {l : List Value} (Q : Exit → Act → World → Prop) (hQ : ∀ c a d v w, Q (.panic c) (Act.put a d v) w → Q (.panic c) a w) (hLQ : ¬ LetsOut Q) (h : PrI w V W0.drew v0 ps x y ∧ W0.drew.ownsRow (w.heap.size + 3) 3 1 (.slice (some ⟨gx, 0, none⟩) 2 cx) 2 [.int .i64 z0, .int .i64 z1]) (hl : lookL [(4, .pointer (some ⟨w.heap.size + 2, 0, none⟩)), (8, .slice (some ⟨gx, 0, none⟩) 2 cx)] l = (75, [.pointer (some ⟨w.heap.size + 2, 0, none⟩), .slice (some ⟨gx, 0, none⟩) 2 cx]))
    (hend : ∀ v W', PrI w V W' v0 ps z0 z1 → Q .normal ⟨(frL v 75 [(4, .pointer (some ⟨w.heap.size + 2, 0, none⟩)), (8, .slice (some ⟨gx, 0, none⟩) 2 cx)]).toArray, []⟩ W') : (Code.region 8 pi8Ops true).wpIn (Fence.wide.inRound r) n Tryd.prog Q ⟨l.toArray, []⟩ W0 := by
  obtain ⟨v, rfl⟩ := look_fr hl
  have hq : NtQ pi8Ops Q := ⟨pi8_neat, hQ⟩
  clear hl hQ
  refine T_startIn (S := fun W => W.cell? ⟨gx, 0, none⟩ = some (.int .i64 z0) ∧ W.cell? ⟨gx, 1, none⟩ = some (.int .i64 z1)) r n (by kernel_rfl) hLQ (by kernel_rfl) (cells2 h.2) (T_z hq [0, 3] (by kernel_rfl) (T_yld hq 1 (some 59) (.pointer (some ⟨gx, 0, none⟩)) (by kernel_rfl) (by kernel_rfl) (fun w _ => ixRunI (n := 2) (cap := cx) (i := 0) (X := .tmp 58) (I := .const (.int .i64 0)) (by kernel_rfl) (by kernel_rfl) (by kernel_rfl) (by omega) w) (T_a hq [2] (fun w h => .cons (ldIntR _ _ _ h.1) Lds.nil) (by kernel_rfl) (T_yld hq 4 (some 62) (.pointer (some ⟨gx, 1, none⟩)) (by kernel_rfl) (by kernel_rfl) (fun w _ => ixRunI (n := 2) (cap := cx) (i := 1) (X := .tmp 61) (I := .const (.int .i64 1)) (by kernel_rfl) (by kernel_rfl) (by kernel_rfl) (by omega) w) (T_a hq [5] (fun w h => .cons (ldIntR _ _ _ h.2) Lds.nil) (by kernel_rfl) (T_z hq [6] (by kernel_rfl) ?_))))))
  refine T_fr 10 75 [7, 8, 9] [(4, .pointer (some ⟨w.heap.size + 2, 0, none⟩)), (8, .slice (some ⟨gx, 0, none⟩) 2 cx), (60, .int .i64 z0), (63, .int .i64 z1), (64, .pointer (some ⟨w.heap.size + 2, 1, none⟩))] (by kernel_rfl) fun v => ?_
  have a1 := h.1.b4.cell (i := 1) (by omega)
  have h1 := h.1.set1 z0
  have b2 := h1.b4.cell (i := 2) (by omega)
  refine T_one 7 (by kernel_rfl) fun _ => O_store none 3 (.tmp 64) (.tmp 60) ⟨w.heap.size + 2, 1, none⟩ (.int .i64 z0) _ (by kernel_rfl) (by kernel_rfl) (by kernel_rfl) (stIntR _ _ _ _ a1 (h.1.b4.frozen 1)) (cells2 (own_set h.2)) ?_
  refine T_z hq [8] (by kernel_rfl) ?_
  refine T_one 9 (by kernel_rfl) fun _ => O_store none 3 (.tmp 65) (.tmp 63) ⟨w.heap.size + 2, 2, none⟩ (.int .i64 z1) _ (by kernel_rfl) (by kernel_rfl) (by kernel_rfl) (stIntR _ _ _ _ b2 (h1.b4.frozen 2)) (cells2 (own_set (own_set h.2))) ?_
  exact T_end 75 [(4, .pointer (some ⟨w.heap.size + 2, 0, none⟩)), (8, .slice (some ⟨gx, 0, none⟩) 2 cx)] (by kernel_rfl) (by kernel_rfl) fun _ v => hend v _ (h1.set2 z1)
end Go.Proofs.YtcnkkegpckibbaaDoor
