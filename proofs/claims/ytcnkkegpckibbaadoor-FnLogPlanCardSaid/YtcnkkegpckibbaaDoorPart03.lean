/- The walk of the specification's LogPlanRead: its drawn region. Conditions: the text is bounded. -/
import Derived.Test.YtcnkkegpckibbaaDoorPart01
import Derived.Test.YtcnkkegpckibbaaDoorPart02
import Derived.OrdersIn
import Derived.RangeFuncCalls
import Derived.TacticsIn
import Derived.RangeFuncBox
import Derived.RangeFuncWrites
namespace Go.Proofs.YtcnkkegpckibbaaDoor
open Go Go.RowKit

theorem ownsR_keep {w w' : World} {base : Nat} {e : TypeId} {size : Nat} {v : Value} {n : Nat} {xs : List Value} (h : w.ownsRow base e size v n xs) (hk : ∀ g, v.ownBlock = some g → w'.heap[g]? = w.heap[g]?) : w'.ownsRow base e size v n xs := by
  refine ⟨h.1, ?_⟩
  rcases h.2 with h0 | ⟨g, cap, cur, hv, hb, hh, hr⟩
  · exact Or.inl h0
  · exact Or.inr ⟨g, cap, cur, hv, hb, by rw [hk g (by rw [hv]; rfl)]; exact hh, hr⟩
theorem ldPts (w : World) (ad : Addr) (v : Value) (h : w.cell? ad = some v) : (Instr.loadAt 23 (.pointer (some ad))).run Tryd.prog w = .ok v w := by
  simp [Instr.loadAt, Instr.sureAddr, loadVar, Tryd.isAgg23, h, go_sem]
theorem ldIntR (w : World) (ad : Addr) (v : Value) (h : w.cell? ad = some v) : (Instr.loadAt 3 (.pointer (some ad))).run Tryd.prog w = .ok v w := by
  simp [Instr.loadAt, Instr.sureAddr, loadVar, Tryd.isAgg3, h, go_sem]
theorem stPts (w : World) (ad : Addr) (a : Option Addr) (n c : Nat) (u : Value) (h : w.cell? ad = some u) (hf : w.frozen? ad = false) : (Instr.storeAt 23 (.pointer (some ad)) (.slice a n c)).run Tryd.prog w = .ok () (w.setCell ad (.slice a n c)) := by
  simp [Instr.storeAt, Instr.sureAddr, storeVar, h, hf, go_sem]
theorem ldOp {o : Oper} {a : Act} {X : Operand} {T : TypeId} {ad : Addr} {v : Value} {W : World} (ho : o.op = .load T X) (hx : a.eval X = .pointer (some ad)) (h : (Instr.loadAt T (.pointer (some ad))).run Tryd.prog W = .ok v W) : (execOp a.eval o).run Tryd.prog W = .ok (.value v) W := by
  unfold execOp
  simp only [ho, hx, Sem.run_bind, Sem.run_pure, Result.andThen_ok, h]
theorem ixRunI {o : Oper} {a : Act} {X I : Operand} {g n cap i : Nat} (ho : o.op = .indexAddr 45 X I) (hx : a.eval X = .slice (some ⟨g, 0, none⟩) n cap) (hi : a.eval I = .int .i64 (i : Nat)) (h : i < n) (w : World) : (execOp a.eval o).run Tryd.prog w = .ok (.value (.pointer (some ⟨g, i, none⟩))) w := by
  have h1 : (0 : Int) ≤ (i : Int) ∧ (i : Int) < (n : Int) := ⟨by omega, by omega⟩
  have h2 : (Instr.indexAt 45 (.slice (some ⟨g, 0, none⟩) n cap) (.int .i64 (i : Nat))).run Tryd.prog w = .ok (.pointer (some ⟨g, i, none⟩)) w := by
    have e : (⟨g, i, none⟩ : Addr) = (⟨g, 0, none⟩ : Addr).add i := by simp [Addr.add]
    rw [e]
    simp [go_sem, h1]
  unfold execOp
  simp only [ho, hx, hi, Sem.run_bind, Sem.run_pure, Result.andThen_ok, h2]
theorem infoPartR : (Tryd.prog.info? 32).map (fun i => (i.zero, i.size, i.bytes)) = some (some (.agg #[.int .i64 0, .int .i64 0, .int .i64 0, .int .i64 0]), 4, 32) := by kernel_rfl
theorem infoPartRD : ∃ i, Tryd.prog.info? 32 = some i ∧ i.zero = some (.agg #[.int .i64 0, .int .i64 0, .int .i64 0, .int .i64 0]) ∧ i.size = 4 ∧ i.bytes = 32 := by
  have := infoPartR
  cases h : Tryd.prog.info? 32 with
  | none => rw [h] at this; cases this
  | some i => rw [h] at this; simp only [Option.map_some, Option.some.injEq, Prod.mk.injEq] at this; exact ⟨i, rfl, this⟩
theorem cell_4R (w : World) (x y z u : Value) (t : TypeId) : ∀ j v, [x, y, z, u][j]? = some v → (w.alloc (.cells #[x, y, z, u] t)).cell? ((⟨w.heap.size, 0, none⟩ : Addr).add j) = some v := by
  intro j v hj
  match j, hj with
  | 0, hj => simp only [List.getElem?_cons_zero, Option.some.injEq] at hj; subst hj; simp [go_sem]
  | 1, hj => simp only [List.getElem?_cons_succ, List.getElem?_cons_zero, Option.some.injEq] at hj; subst hj; simp [go_sem]
  | 2, hj => simp only [List.getElem?_cons_succ, List.getElem?_cons_zero, Option.some.injEq] at hj; subst hj; simp [go_sem]
  | 3, hj => simp only [List.getElem?_cons_succ, List.getElem?_cons_zero, Option.some.injEq] at hj; subst hj; simp [go_sem]
  | _ + 4, hj => simp at hj
theorem own_ne_row {W : World} {base e s n b t m : Nat} {v : Value} {xs : List Value} {f : Nat → Value} (h : W.ownsRow base e s v n xs) (hr : W.rowIs b t m f) (hne : e ≠ t) : v.ownBlock ≠ some b := fun hv => by
  rcases h.2 with ⟨hv', _⟩ | ⟨g, c, cur, hv', _, hh, _⟩
  · rw [hv'] at hv; cases hv
  · rw [hv'] at hv
    simp only [Value.ownBlock, Option.some.injEq] at hv
    subst hv
    obtain ⟨c2, h2, -, -⟩ := hr
    rw [hh] at h2
    simp only [Option.some.injEq, Obj.cells.injEq] at h2
    exact hne h2.2.1
theorem row3_set0 {W : World} {g t : Nat} {x0 x1 x2 : Value} (h : W.rowIs g t 3 (row3 x0 x1 x2)) (u : Value) : (W.setCell ⟨g, 0, none⟩ u).rowIs g t 3 (row3 u x1 x2) :=
  (h.set 0 u).congr (fun i hi => by rcases (show i = 0 ∨ i = 1 ∨ i = 2 by omega) with rfl | rfl | rfl <;> rfl)
theorem cells4 {W : World} {base gx cx : Nat} {z0 z1 z2 z3 : Int} (h : W.ownsRow base 3 1 (.slice (some ⟨gx, 0, none⟩) 4 cx) 4 [.int .i64 z0, .int .i64 z1, .int .i64 z2, .int .i64 z3]) : W.cell? ⟨gx, 0, none⟩ = some (.int .i64 z0) ∧ W.cell? ⟨gx, 1, none⟩ = some (.int .i64 z1) ∧ W.cell? ⟨gx, 2, none⟩ = some (.int .i64 z2) ∧ W.cell? ⟨gx, 3, none⟩ = some (.int .i64 z3) :=
  ⟨h.cellAt 0 (by omega), h.cellAt 1 (by omega), h.cellAt 2 (by omega), h.cellAt 3 (by omega)⟩
theorem ints_parts {W : World} {b1 b2 gx cx n : Nat} {xs ys : List Value} {v : Value} (h : W.ownsRow b1 3 1 (.slice (some ⟨gx, 0, none⟩) 4 cx) 4 xs) (k : W.ownsRow b2 32 4 v n ys) (e : v.ownBlock = some gx) : False := by
  rcases h.2 with ⟨hv, _⟩ | ⟨ga, c1, u1, hv1, _, hh1, _⟩
  · cases hv
  rcases k.2 with ⟨hv, _⟩ | ⟨gb, c2, u2, hv2, _, hh2, _⟩
  · rw [hv] at e; cases e
  rw [hv2] at e
  simp only [Value.ownBlock, Option.some.injEq] at e
  subst e
  simp only [Value.slice.injEq, Option.some.injEq, Addr.mk.injEq, and_true, true_and] at hv1
  obtain ⟨rfl, -⟩ := hv1
  rw [hh1] at hh2
  simp only [Option.some.injEq, Obj.cells.injEq] at hh2
  exact absurd hh2.2.1 (by decide)
end Go.Proofs.YtcnkkegpckibbaaDoor

/- Regions that draw their order, inside a round of a range over a function: what Rf3 shows of them plainly holds there too, where no operation defers a call: no program. No conditions. -/

namespace Go.Proofs.YtcnkkegpckibbaaDoor
open Go Go.RowKit

section
variable {P : Program} {ops : Array Oper} {Q : Exit → Act → World → Prop} {S : World → Prop}
/-- No operation of it defers a call. -/
def noDefer (ops : Array Oper) : Bool := ops.all fun o => match o.op with
  | .defer _ => false
  | _ => true
theorem noDefer_at (h : noDefer ops = true) {i : Nat} {o : Oper} (hi : ops[i]? = some o) : ∀ c, o.op ≠ .defer c := fun c e => by
  unfold noDefer at h
  rw [Array.all_eq_true] at h
  obtain ⟨hlt, rfl⟩ := Array.getElem?_eq_some_iff.1 hi
  have := h i hlt
  rw [e] at this
  cases this
/-- What comes behind an operation, inside a round. -/
theorem upon_in {o : Oper} {a : Act} {next next' : Act → World → Prop} (l n : Nat) (hn : ∀ a w, next a w → next' a w) : ∀ r : Result Next, o.upon P a next Q r → o.uponIn (Fence.wide.inRound l) n P a next' Q r := fun r h => by
  unfold Oper.upon at h
  unfold Oper.uponIn
  split at h
  · exact hn _ _ h
  · exact hn _ _ h
  · exact hn _ _ h
  · refine ⟨fun e => (by cases e), CallsIn.inRound l (callsIn_wide.2 (h.mono fun e w' he => ?_))⟩
    split at he
    · exact hn _ _ he
    · exact he
    · exact he
  · exact ⟨fun e => (by cases e), fun c cs _ => let ⟨v, w', q, s⟩ := h c cs; ⟨v, w', hn _ _ q, stepsIn_wide.2 s⟩⟩
  · exact h
  · exact h.elim
theorem ops_in (hL : ¬ LetsOut Q) (hd : noDefer ops = true) (l n : Nat) : ∀ (is : List Nat) (a : Act) (w : World), wpOps P ops Q is a w → wpOpsIn (Fence.wide.inRound l) n P ops Q is a w
  | [], _, _, h => h
  | i :: is, a, w, h => by
    simp only [wpOps] at h
    simp only [wpOpsIn]
    cases hi : ops[i]? with
    | none => rw [hi] at h; exact ops_in hL hd l n is a w h
    | some o =>
      rw [hi] at h
      dsimp only at h ⊢
      split at h
      · next hw =>
        rw [if_pos hw]
        rcases h with h | h
        · refine ⟨fun _ _ => trivial, ?_⟩
          rw [Fence.inRound_round, Oper.semAt_some l _ _ (noDefer_at hd hi)]
          exact upon_in l n (fun a w => ops_in hL hd l n is a w) _ h
        · exact absurd h.2 hL
      · next hw =>
        rw [if_neg hw]
        exact ⟨fun _ _ => trivial, ops_in hL hd l n is _ w h⟩
theorem T_startIn {l : List Value} {ds : List Deferred} {id : Nat} {w : World} (r n : Nat) (hm : P.follows .mixedOrders = true) (hL : ¬ LetsOut Q) (hd : noDefer ops = true) (hS : S w.drew) (h : wpS P ops Q S (List.replicate ops.size false, l) ds w.drew) : (Code.region id ops true).wpIn (Fence.wide.inRound r) n P Q ⟨l.toArray, ds⟩ w := by
  refine wpIn_region_draw fun t => ?_
  simp only [Region.schedule, hm, Bool.true_or, if_true]
  have h1 := h.out.out hS ops.size (Nat.le_trans (List.countP_le_length ..) (by simp))
  have e : (List.replicate ops.size false).toArray = Array.replicate ops.size false := by simp
  rw [e] at h1
  exact ops_in hL hd r n _ _ _ (wpAny_sound ops.size t _ _ _ (wpAny_of_held _ _ _ _ h1))
end
end Go.Proofs.YtcnkkegpckibbaaDoor

/- The program's planIn: the plan in its box while it is read, and the region by which a part is added. No conditions. -/

namespace Go.Proofs.YtcnkkegpckibbaaDoor
open Go Go.RowKit

theorem ko_below {W W' : World} (hb : Below W.heap.size W W') : KeepsOthers W W' := ⟨hb.size, fun k _ hk _ => (hb.block k (Array.getElem?_eq_some_iff.1 hk).1).trans hk⟩
theorem own_cells {W : World} {base e s n g : Nat} {v : Value} {xs : List Value} {o : Obj} (h : W.ownsRow base e s v n xs) (hv : v.ownBlock = some g) (ho : W.heap[g]? = some o) : o.isCells = true := by
  rcases h.2 with ⟨rfl, _⟩ | ⟨g', cap, cur, rfl, _, hgb, _⟩
  · simp [Value.ownBlock] at hv
  · obtain rfl : g' = g := by simpa [Value.ownBlock] using hv
    rw [hgb] at ho; cases ho; rfl
/-- A plan while it is read by the program, in its box; what was no cells in V is as it was. -/
structure PrI (w V W : World) (v : Value) (ps : List Pt) (x y : Int) : Prop where
  bel : Below w.heap.size w W
  ko : KeepsOthers V W
  b2 : W.rowIs w.heap.size 25 3 (row3 (.slice none 0 0) (.int .i64 0) (.int .i64 0))
  b3 : Boxed W (w.heap.size + 1) 4 (.bool false)
  b4 : W.rowIs (w.heap.size + 2) 25 3 (row3 v (.int .i64 x) (.int .i64 y))
  own : W.ownsRow (w.heap.size + 3) 32 4 v ps.length (ps.map Pt.cs).flatten
theorem PrI.on {w V W W' : World} {v : Value} {ps : List Pt} {x y : Int} (h : PrI w V W v ps x y) (hb : Below W.heap.size W W') : PrI w V W' v ps x y :=
  ⟨h.bel.trans (hb.mono h.bel.size), h.ko.trans (ko_below hb), h.b2.of_block (hb.block _ h.b2.lt), (hb.block _ (Array.getElem?_eq_some_iff.1 h.b3).1).trans h.b3, h.b4.of_block (hb.block _ h.b4.lt), ownsR_keep h.own (fun g e => hb.block g (h.own.lt g e).2)⟩
theorem own_ne_box {W : World} {base e s n b t : Nat} {v u : Value} {xs : List Value} (h : W.ownsRow base e s v n xs) (hr : Boxed W b t u) (hne : e ≠ t) : v.ownBlock ≠ some b := fun hv => by
  rcases h.2 with ⟨hv', _⟩ | ⟨g, c, cur, hv', _, hh, _⟩
  · rw [hv'] at hv; cases hv
  · rw [hv'] at hv
    simp only [Value.ownBlock, Option.some.injEq] at hv
    subst hv
    have h2 : W.heap[g]? = some _ := hr
    rw [hh] at h2
    simp only [Option.some.injEq, Obj.cells.injEq] at h2
    exact hne h2.2.1
/-- Another part stands behind the parts. -/
theorem PrI.add {w V W W' : World} {v v' : Value} {ps : List Pt} {x y : Int} {ob : Obj} (h : PrI w V W v ps x y) (p : Pt) (ho : W'.ownsRow (w.heap.size + 3) 32 4 v' (ps.length + 1) ((ps.map Pt.cs).flatten ++ p.cs)) (hg : (W.alloc ob).grownBy W' v.ownBlock) : W'.rowIs (w.heap.size + 2) 25 3 (row3 v (.int .i64 x) (.int .i64 y)) ∧ PrI w V (W'.setCell ⟨w.heap.size + 2, 0, none⟩ v') v' (ps ++ [p]) x y := by
  have hs : ∀ b, b < W.heap.size → v.ownBlock ≠ some b → W'.heap[b]? = W.heap[b]? := fun b hb hne => by
    rw [hg.block b (by rw [World.size_alloc]; omega) (fun e => hne e.symm), Below.heap_alloc _ _ _ hb]
  have h4 := h.b4.of_block (hs _ h.b4.lt (own_ne_row h.own h.b4 (by decide)))
  have h2 := h.b2.of_block (hs _ h.b2.lt (own_ne_row h.own h.b2 (by decide)))
  have h3 := (hs _ (Array.getElem?_eq_some_iff.1 h.b3).1 (own_ne_box h.own h.b3 (by decide))).trans h.b3
  have hbs := h.bel.size
  refine ⟨h4, ⟨?_, ((h.ko.trans (KeepsOthers.alloc W ob)).trans (KeepsOthers.of_grownBy hg fun j o ej hj => own_cells (World.ownsRow.alloc h.own ob) ej hj)).trans (KeepsOthers.setCell _ _ _), h2.of_block (Below.heap_setCell _ _ _ _ (by simp)), (Below.heap_setCell _ _ _ _ (by simp)).trans h3, row3_set0 h4 v', ?_⟩⟩
  · refine ⟨hg.os.trans h.bel.os, hg.tape.trans h.bel.tape, hg.output.trans h.bel.output, by have := hg.size; rw [World.size_alloc] at this; rw [World.size_setCell]; omega, fun b hb => ?_⟩
    rw [Below.heap_setCell _ _ _ _ (by simp; omega), hs b (by omega) (fun e => by have := (h.own.lt b e).1; omega)]
    exact h.bel.block b hb
  · refine ownsR_keep (w := W') ?_ (fun g e => Below.heap_setCell _ _ _ _ (by have := (ho.lt g e).1; simp; omega))
    rw [List.length_append, List.map_append, List.flatten_append]
    simpa using ho
noncomputable def pi6Ops : Array Oper := fops Tryd.f22 6
theorem pi6_neat : Region.noSelect pi6Ops = true ∧ neat pi6Ops = true := ⟨by kernel_rfl, by kernel_rfl⟩
theorem onI {w V W W' : World} {v0 : Value} {ps : List Pt} {x y : Int} {base gx cx : Nat} {xs : List Value} (h : PrI w V W v0 ps x y ∧ W.ownsRow base 3 1 (.slice (some ⟨gx, 0, none⟩) 4 cx) 4 xs) (hb : Below W.heap.size W W') : PrI w V W' v0 ps x y ∧ W'.ownsRow base 3 1 (.slice (some ⟨gx, 0, none⟩) 4 cx) 4 xs :=
  ⟨h.1.on hb, ownsR_keep h.2 (fun g e => hb.block g (h.2.lt g e).2)⟩
set_option maxRecDepth 100000 in
set_option maxHeartbeats 1600000 in
theorem pi6 (r n : Nat) (w V : World) (v0 : Value) (ps : List Pt) (x y : Int) (gx cx : Nat) (z0 z1 z2 z3 : Int) (hn : ps.length ≤ 1000) (W0 : World) {l : List Value} (Q : Exit → Act → World → Prop) (hQ : ∀ c a d v w, Q (.panic c) (Act.put a d v) w → Q (.panic c) a w) (hLQ : ¬ LetsOut Q) (h : (PrI w V W0.drew v0 ps x y ∧ W0.drew.ownsRow (w.heap.size + 3) 3 1 (.slice (some ⟨gx, 0, none⟩) 4 cx) 4 [.int .i64 z0, .int .i64 z1, .int .i64 z2, .int .i64 z3])) (hl : lookL [(4, .pointer (some ⟨w.heap.size + 2, 0, none⟩)), (8, .slice (some ⟨gx, 0, none⟩) 4 cx)] l = (75, [.pointer (some ⟨w.heap.size + 2, 0, none⟩), .slice (some ⟨gx, 0, none⟩) 4 cx]))
    (hend : ∀ v v' W', PrI w V W' v' (ps ++ [⟨z0, z1, z2, z3⟩]) x y → Q .normal ⟨(frL v 75 [(4, .pointer (some ⟨w.heap.size + 2, 0, none⟩)), (8, .slice (some ⟨gx, 0, none⟩) 4 cx)]).toArray, []⟩ W') : (Code.region 6 pi6Ops true).wpIn (Fence.wide.inRound r) n Tryd.prog Q ⟨l.toArray, []⟩ W0 := by
  obtain ⟨v, rfl⟩ := look_fr hl
  have hq : NtQ pi6Ops Q := ⟨pi6_neat, hQ⟩
  clear hl hQ
  have Q1 : ∀ v W, (PrI w V W v0 ps x y ∧ W.ownsRow (w.heap.size + 3) 3 1 (.slice (some ⟨gx, 0, none⟩) 4 cx) 4 [.int .i64 z0, .int .i64 z1, .int .i64 z2, .int .i64 z3]) → wpS Tryd.prog pi6Ops Q (fun W => W.cell? ⟨gx, 0, none⟩ = some (.int .i64 z0) ∧ W.cell? ⟨gx, 1, none⟩ = some (.int .i64 z1) ∧ W.cell? ⟨gx, 2, none⟩ = some (.int .i64 z2) ∧ W.cell? ⟨gx, 3, none⟩ = some (.int .i64 z3)) (unl 19 [16, 17, 18], frL v 75 [(4, .pointer (some ⟨w.heap.size + 2, 0, none⟩)), (8, .slice (some ⟨gx, 0, none⟩) 4 cx), (32, .pointer (some ⟨w.heap.size + 2, 0, none⟩)), (33, v0), (46, .agg #[.int .i64 z0, .int .i64 z1, .int .i64 z2, .int .i64 z3]), (47, .slice (some ⟨W.heap.size, 0, none⟩) 1 1)]) [] (W.alloc (.cells #[.int .i64 z0, .int .i64 z1, .int .i64 z2, .int .i64 z3] 32)) := fun v W h => by
    obtain ⟨i0, hi0, hi1, hi2, hi3⟩ := infoPartRD
    have hbs := h.1.bel.size
    have hb4 := h.1.b4.lt
    refine T_one 16 (by kernel_rfl) fun _ => O_list (some 48) (by kernel_rfl) ?_
    refine append_row _ (by kernel_rfl) (.tmp 33) (.tmp 47) 23 (by kernel_rfl) (w.heap.size + 3) 32 i0 (.agg #[.int .i64 0, .int .i64 0, .int .i64 0, .int .i64 0]) 4 32 Tryd.underlying23 hi0 hi1 hi2 hi3 rfl (by decide) v0 ps.length (ps.map Pt.cs).flatten (by kernel_rfl) (World.ownsRow.alloc h.1.own _) ⟨W.heap.size, 0, none⟩ 1 1 [.int .i64 z0, .int .i64 z1, .int .i64 z2, .int .i64 z3] (by kernel_rfl) rfl (cell_4R W _ _ _ _ _) (fun u hu => by simp at hu; rcases hu with rfl | rfl | rfl | rfl <;> rfl) (by decide) (by unfold maxLen; omega) (by omega) (by rw [World.size_alloc]; omega) ?_
    intro v' W2 hown hgrow hat
    obtain ⟨g5, cap5, rfl, -, -⟩ := hown.form (by omega)
    obtain ⟨hb4', h2⟩ := h.1.add ⟨z0, z1, z2, z3⟩ hown hgrow
    have hgx : v0.ownBlock ≠ some gx := fun e => ints_parts h.2 h.1.own e
    have hx2 : W2.ownsRow (w.heap.size + 3) 3 1 (.slice (some ⟨gx, 0, none⟩) 4 cx) 4 [.int .i64 z0, .int .i64 z1, .int .i64 z2, .int .i64 z3] := ownsR_keep h.2 (fun g e => by
      simp only [Value.ownBlock, Option.some.injEq] at e
      subst e
      rw [hgrow.block gx (by rw [World.size_alloc]; have := (h.2.lt gx rfl).2; omega) (fun e => hgx e.symm), Below.heap_alloc _ _ _ (h.2.lt gx rfl).2])
    have hx3 : (W2.setCell ⟨w.heap.size + 2, 0, none⟩ (.slice (some ⟨g5, 0, none⟩) (ps.length + 1) cap5)).ownsRow (w.heap.size + 3) 3 1 (.slice (some ⟨gx, 0, none⟩) 4 cx) 4 [.int .i64 z0, .int .i64 z1, .int .i64 z2, .int .i64 z3] := ownsR_keep hx2 (fun g e => Below.heap_setCell _ _ _ _ (by have := (hx2.lt g e).1; simp; omega))
    refine ⟨cells4 hx2, _, put_putL .., ?_⟩
    refine T_z hq [17] (by kernel_rfl) ?_
    refine T_one 18 (by kernel_rfl) fun _ => O_store none 23 (.tmp 49) (.tmp 48) ⟨w.heap.size + 2, 0, none⟩ (.slice (some ⟨g5, 0, none⟩) (ps.length + 1) cap5) _ (by kernel_rfl) (by kernel_rfl) (by kernel_rfl) (stPts W2 _ _ _ _ _ (hb4'.cell (i := 0) (by omega)) (hb4'.frozen 0)) (cells4 hx3) ?_
    exact T_end 75 [(4, .pointer (some ⟨w.heap.size + 2, 0, none⟩)), (8, .slice (some ⟨gx, 0, none⟩) 4 cx)] (by kernel_rfl) (by kernel_rfl) fun _ v => hend v _ _ h2
  have Q0 : ∀ v W, (PrI w V W v0 ps x y ∧ W.ownsRow (w.heap.size + 3) 3 1 (.slice (some ⟨gx, 0, none⟩) 4 cx) 4 [.int .i64 z0, .int .i64 z1, .int .i64 z2, .int .i64 z3]) → wpS Tryd.prog pi6Ops Q (fun W => W.cell? ⟨gx, 0, none⟩ = some (.int .i64 z0) ∧ W.cell? ⟨gx, 1, none⟩ = some (.int .i64 z1) ∧ W.cell? ⟨gx, 2, none⟩ = some (.int .i64 z2) ∧ W.cell? ⟨gx, 3, none⟩ = some (.int .i64 z3)) (unl 19 [15, 16, 17, 18], frL v 75 [(4, .pointer (some ⟨w.heap.size + 2, 0, none⟩)), (8, .slice (some ⟨gx, 0, none⟩) 4 cx), (32, .pointer (some ⟨w.heap.size + 2, 0, none⟩)), (33, v0), (46, .agg #[.int .i64 z0, .int .i64 z1, .int .i64 z2, .int .i64 z3])]) [] W := fun v W h => T_one 15 (by kernel_rfl) fun _ => O_val (w' := W.alloc (.cells #[.int .i64 z0, .int .i64 z1, .int .i64 z2, .int .i64 z3] 32)) (some 47) (.slice (some ⟨W.heap.size, 0, none⟩) 1 1) (by kernel_rfl) (by kernel_rfl) ((cells4 ((onI (h) ((Below.refl _ W).alloc (Nat.le_refl _) (.cells #[.int .i64 z0, .int .i64 z1, .int .i64 z2, .int .i64 z3] 32)))).2)) ((T_fr 19 75 [16, 17, 18] [(4, .pointer (some ⟨w.heap.size + 2, 0, none⟩)), (8, .slice (some ⟨gx, 0, none⟩) 4 cx), (32, .pointer (some ⟨w.heap.size + 2, 0, none⟩)), (33, v0), (46, .agg #[.int .i64 z0, .int .i64 z1, .int .i64 z2, .int .i64 z3]), (47, .slice (some ⟨W.heap.size, 0, none⟩) 1 1)] (by kernel_rfl) fun v => Q1 v W h))
  have P1 : ∀ v W, (PrI w V W v0 ps x y ∧ W.ownsRow (w.heap.size + 3) 3 1 (.slice (some ⟨gx, 0, none⟩) 4 cx) 4 [.int .i64 z0, .int .i64 z1, .int .i64 z2, .int .i64 z3]) → wpS Tryd.prog pi6Ops Q (fun W => W.cell? ⟨gx, 0, none⟩ = some (.int .i64 z0) ∧ W.cell? ⟨gx, 1, none⟩ = some (.int .i64 z1) ∧ W.cell? ⟨gx, 2, none⟩ = some (.int .i64 z2) ∧ W.cell? ⟨gx, 3, none⟩ = some (.int .i64 z3)) (unl 19 [1, 16, 17, 18], frL v 75 [(4, .pointer (some ⟨w.heap.size + 2, 0, none⟩)), (8, .slice (some ⟨gx, 0, none⟩) 4 cx), (32, .pointer (some ⟨w.heap.size + 2, 0, none⟩)), (46, .agg #[.int .i64 z0, .int .i64 z1, .int .i64 z2, .int .i64 z3]), (47, .slice (some ⟨W.heap.size, 0, none⟩) 1 1)]) [] (W.alloc (.cells #[.int .i64 z0, .int .i64 z1, .int .i64 z2, .int .i64 z3] 32)) := fun v W h => T_one 1 (by kernel_rfl) fun hS => O_val (some 33) (v0) (by kernel_rfl) (ldOp (X := .tmp 32) (by kernel_rfl) (by kernel_rfl) (ldPts (W.alloc (.cells #[.int .i64 z0, .int .i64 z1, .int .i64 z2, .int .i64 z3] 32)) ⟨w.heap.size + 2, 0, none⟩ _ (((onI (h) ((Below.refl _ W).alloc (Nat.le_refl _) (.cells #[.int .i64 z0, .int .i64 z1, .int .i64 z2, .int .i64 z3] 32)))).1.b4.cell (i := 0) (by omega)))) hS (T_fr 19 75 [16, 17, 18] [(4, .pointer (some ⟨w.heap.size + 2, 0, none⟩)), (8, .slice (some ⟨gx, 0, none⟩) 4 cx), (32, .pointer (some ⟨w.heap.size + 2, 0, none⟩)), (33, v0), (46, .agg #[.int .i64 z0, .int .i64 z1, .int .i64 z2, .int .i64 z3]), (47, .slice (some ⟨W.heap.size, 0, none⟩) 1 1)] (by kernel_rfl) fun v => Q1 v W h)
  have P0 : ∀ v W, (PrI w V W v0 ps x y ∧ W.ownsRow (w.heap.size + 3) 3 1 (.slice (some ⟨gx, 0, none⟩) 4 cx) 4 [.int .i64 z0, .int .i64 z1, .int .i64 z2, .int .i64 z3]) → wpS Tryd.prog pi6Ops Q (fun W => W.cell? ⟨gx, 0, none⟩ = some (.int .i64 z0) ∧ W.cell? ⟨gx, 1, none⟩ = some (.int .i64 z1) ∧ W.cell? ⟨gx, 2, none⟩ = some (.int .i64 z2) ∧ W.cell? ⟨gx, 3, none⟩ = some (.int .i64 z3)) (unl 19 [1, 15, 16, 17, 18], frL v 75 [(4, .pointer (some ⟨w.heap.size + 2, 0, none⟩)), (8, .slice (some ⟨gx, 0, none⟩) 4 cx), (32, .pointer (some ⟨w.heap.size + 2, 0, none⟩)), (46, .agg #[.int .i64 z0, .int .i64 z1, .int .i64 z2, .int .i64 z3])]) [] W := fun v W h => T_two 1 15 (by kernel_rfl)
    (fun hS => O_val (some 33) (v0) (by kernel_rfl) (ldOp (X := .tmp 32) (by kernel_rfl) (by kernel_rfl) (ldPts W ⟨w.heap.size + 2, 0, none⟩ _ ((h).1.b4.cell (i := 0) (by omega)))) hS (T_fr 19 75 [15, 16, 17, 18] [(4, .pointer (some ⟨w.heap.size + 2, 0, none⟩)), (8, .slice (some ⟨gx, 0, none⟩) 4 cx), (32, .pointer (some ⟨w.heap.size + 2, 0, none⟩)), (33, v0), (46, .agg #[.int .i64 z0, .int .i64 z1, .int .i64 z2, .int .i64 z3])] (by kernel_rfl) fun v => Q0 v W h))
    (fun _ => O_val (w' := W.alloc (.cells #[.int .i64 z0, .int .i64 z1, .int .i64 z2, .int .i64 z3] 32)) (some 47) (.slice (some ⟨W.heap.size, 0, none⟩) 1 1) (by kernel_rfl) (by kernel_rfl) ((cells4 ((onI (h) ((Below.refl _ W).alloc (Nat.le_refl _) (.cells #[.int .i64 z0, .int .i64 z1, .int .i64 z2, .int .i64 z3] 32)))).2)) ((T_fr 19 75 [1, 16, 17, 18] [(4, .pointer (some ⟨w.heap.size + 2, 0, none⟩)), (8, .slice (some ⟨gx, 0, none⟩) 4 cx), (32, .pointer (some ⟨w.heap.size + 2, 0, none⟩)), (46, .agg #[.int .i64 z0, .int .i64 z1, .int .i64 z2, .int .i64 z3]), (47, .slice (some ⟨W.heap.size, 0, none⟩) 1 1)] (by kernel_rfl) fun v => P1 v W h)))
  refine T_startIn (S := fun W => W.cell? ⟨gx, 0, none⟩ = some (.int .i64 z0) ∧ W.cell? ⟨gx, 1, none⟩ = some (.int .i64 z1) ∧ W.cell? ⟨gx, 2, none⟩ = some (.int .i64 z2) ∧ W.cell? ⟨gx, 3, none⟩ = some (.int .i64 z3)) r n (by kernel_rfl) hLQ (by kernel_rfl) (cells4 h.2) (T_z hq [0, 2, 5, 8, 11] (by kernel_rfl) (T_yld hq 3 (some 35) (.pointer (some ⟨gx, 0, none⟩)) (by kernel_rfl) (by kernel_rfl) (fun w _ => ixRunI (n := 4) (cap := cx) (i := 0) (X := .tmp 34) (I := .const (.int .i64 0)) (by kernel_rfl) (by kernel_rfl) (by kernel_rfl) (by omega) w) (T_a hq [4] (fun w h => .cons (ldIntR _ _ _ h.1) Lds.nil) (by kernel_rfl) (T_yld hq 6 (some 38) (.pointer (some ⟨gx, 1, none⟩)) (by kernel_rfl) (by kernel_rfl) (fun w _ => ixRunI (n := 4) (cap := cx) (i := 1) (X := .tmp 37) (I := .const (.int .i64 1)) (by kernel_rfl) (by kernel_rfl) (by kernel_rfl) (by omega) w) (T_a hq [7] (fun w h => .cons (ldIntR _ _ _ h.2.1) Lds.nil) (by kernel_rfl) (T_yld hq 9 (some 41) (.pointer (some ⟨gx, 2, none⟩)) (by kernel_rfl) (by kernel_rfl) (fun w _ => ixRunI (n := 4) (cap := cx) (i := 2) (X := .tmp 40) (I := .const (.int .i64 2)) (by kernel_rfl) (by kernel_rfl) (by kernel_rfl) (by omega) w) (T_a hq [10] (fun w h => .cons (ldIntR _ _ _ h.2.2.1) Lds.nil) (by kernel_rfl) (T_yld hq 12 (some 44) (.pointer (some ⟨gx, 3, none⟩)) (by kernel_rfl) (by kernel_rfl) (fun w _ => ixRunI (n := 4) (cap := cx) (i := 3) (X := .tmp 43) (I := .const (.int .i64 3)) (by kernel_rfl) (by kernel_rfl) (by kernel_rfl) (by omega) w) (T_a hq [13] (fun w h => .cons (ldIntR _ _ _ h.2.2.2) Lds.nil) (by kernel_rfl) (T_z hq [14] (by kernel_rfl) ?_))))))))))
  exact T_fr 19 75 [1, 15, 16, 17, 18] [(4, .pointer (some ⟨w.heap.size + 2, 0, none⟩)), (8, .slice (some ⟨gx, 0, none⟩) 4 cx), (32, .pointer (some ⟨w.heap.size + 2, 0, none⟩)), (46, .agg #[.int .i64 z0, .int .i64 z1, .int .i64 z2, .int .i64 z3])] (by kernel_rfl) fun v => P0 v _ h
end Go.Proofs.YtcnkkegpckibbaaDoor

/- The program's planIn: the region by which the open part is set, in a round. No conditions. -/

namespace Go.Proofs.YtcnkkegpckibbaaDoor
open Go Go.RowKit

theorem row3_pi1 {W : World} {g t : Nat} {x0 x1 x2 : Value} (h : W.rowIs g t 3 (row3 x0 x1 x2)) (u : Value) : (W.setCell ⟨g, 1, none⟩ u).rowIs g t 3 (row3 x0 u x2) :=
  (h.set 1 u).congr (fun i hi => by rcases (show i = 0 ∨ i = 1 ∨ i = 2 by omega) with rfl | rfl | rfl <;> rfl)
theorem row3_pi2 {W : World} {g t : Nat} {x0 x1 x2 : Value} (h : W.rowIs g t 3 (row3 x0 x1 x2)) (u : Value) : (W.setCell ⟨g, 2, none⟩ u).rowIs g t 3 (row3 x0 x1 u) :=
  (h.set 2 u).congr (fun i hi => by rcases (show i = 0 ∨ i = 1 ∨ i = 2 by omega) with rfl | rfl | rfl <;> rfl)
theorem PrI.set1 {w V W : World} {v : Value} {ps : List Pt} {x y : Int} (h : PrI w V W v ps x y) (u : Int) : PrI w V (W.setCell ⟨w.heap.size + 2, 1, none⟩ (.int .i64 u)) v ps u y :=
  ⟨h.bel.setCell (by simp) _, h.ko.trans (KeepsOthers.setCell _ _ _), h.b2.of_block (Below.heap_setCell _ _ _ _ (by simp)), (Below.heap_setCell _ _ _ _ (by simp)).trans h.b3, row3_pi1 h.b4 _, ownsR_keep h.own (fun g e => Below.heap_setCell _ _ _ _ (by have := (h.own.lt g e).1; simp; omega))⟩
theorem PrI.set2 {w V W : World} {v : Value} {ps : List Pt} {x y : Int} (h : PrI w V W v ps x y) (u : Int) : PrI w V (W.setCell ⟨w.heap.size + 2, 2, none⟩ (.int .i64 u)) v ps x u :=
  ⟨h.bel.setCell (by simp) _, h.ko.trans (KeepsOthers.setCell _ _ _), h.b2.of_block (Below.heap_setCell _ _ _ _ (by simp)), (Below.heap_setCell _ _ _ _ (by simp)).trans h.b3, row3_pi2 h.b4 _, ownsR_keep h.own (fun g e => Below.heap_setCell _ _ _ _ (by have := (h.own.lt g e).1; simp; omega))⟩
theorem stIntR (w : World) (ad : Addr) (z : Int) (u : Value) (h : w.cell? ad = some u) (hf : w.frozen? ad = false) : (Instr.storeAt 3 (.pointer (some ad)) (.int .i64 z)).run Tryd.prog w = .ok () (w.setCell ad (.int .i64 z)) := by
  simp [Instr.storeAt, Instr.sureAddr, storeVar, h, hf, go_sem]
noncomputable def pi8Ops : Array Oper := fops Tryd.f22 8
theorem pi8_neat : Region.noSelect pi8Ops = true ∧ neat pi8Ops = true := ⟨by kernel_rfl, by kernel_rfl⟩
theorem cells2 {W : World} {base gx cx : Nat} {z0 z1 : Int} (h : W.ownsRow base 3 1 (.slice (some ⟨gx, 0, none⟩) 2 cx) 2 [.int .i64 z0, .int .i64 z1]) : W.cell? ⟨gx, 0, none⟩ = some (.int .i64 z0) ∧ W.cell? ⟨gx, 1, none⟩ = some (.int .i64 z1) :=
  ⟨h.cellAt 0 (by omega), h.cellAt 1 (by omega)⟩
theorem own_set {w W : World} {gx cx n : Nat} {i : Nat} {u : Value} {xs : List Value} (h : W.ownsRow (w.heap.size + 3) 3 1 (.slice (some ⟨gx, 0, none⟩) n cx) n xs) : (W.setCell ⟨w.heap.size + 2, i, none⟩ u).ownsRow (w.heap.size + 3) 3 1 (.slice (some ⟨gx, 0, none⟩) n cx) n xs :=
  ownsR_keep h (fun g e => Below.heap_setCell _ _ _ _ (by have := (h.lt g e).1; simp; omega))
set_option maxRecDepth 100000 in
set_option maxHeartbeats 1600000 in
theorem pi8 (r n : Nat) (w V : World) (v0 : Value) (ps : List Pt) (x y : Int) (gx cx : Nat) (z0 z1 : Int) (W0 : World) {l : List Value} (Q : Exit → Act → World → Prop) (hQ : ∀ c a d v w, Q (.panic c) (Act.put a d v) w → Q (.panic c) a w) (hLQ : ¬ LetsOut Q) (h : PrI w V W0.drew v0 ps x y ∧ W0.drew.ownsRow (w.heap.size + 3) 3 1 (.slice (some ⟨gx, 0, none⟩) 2 cx) 2 [.int .i64 z0, .int .i64 z1]) (hl : lookL [(4, .pointer (some ⟨w.heap.size + 2, 0, none⟩)), (8, .slice (some ⟨gx, 0, none⟩) 2 cx)] l = (75, [.pointer (some ⟨w.heap.size + 2, 0, none⟩), .slice (some ⟨gx, 0, none⟩) 2 cx]))
    (hend : ∀ v W', PrI w V W' v0 ps z0 z1 → Q .normal ⟨(frL v 75 [(4, .pointer (some ⟨w.heap.size + 2, 0, none⟩)), (8, .slice (some ⟨gx, 0, none⟩) 2 cx)]).toArray, []⟩ W') : (Code.region 8 pi8Ops true).wpIn (Fence.wide.inRound r) n Tryd.prog Q ⟨l.toArray, []⟩ W0 := by
  obtain ⟨v, rfl⟩ := look_fr hl
  have hq : NtQ pi8Ops Q := ⟨pi8_neat, hQ⟩
  clear hl hQ
  refine T_startIn (S := fun W => W.cell? ⟨gx, 0, none⟩ = some (.int .i64 z0) ∧ W.cell? ⟨gx, 1, none⟩ = some (.int .i64 z1)) r n (by kernel_rfl) hLQ (by kernel_rfl) (cells2 h.2) (T_z hq [0, 3] (by kernel_rfl) (T_yld hq 1 (some 59) (.pointer (some ⟨gx, 0, none⟩)) (by kernel_rfl) (by kernel_rfl) (fun w _ => ixRunI (n := 2) (cap := cx) (i := 0) (X := .tmp 58) (I := .const (.int .i64 0)) (by kernel_rfl) (by kernel_rfl) (by kernel_rfl) (by omega) w) (T_a hq [2] (fun w h => .cons (ldIntR _ _ _ h.1) Lds.nil) (by kernel_rfl) (T_yld hq 4 (some 62) (.pointer (some ⟨gx, 1, none⟩)) (by kernel_rfl) (by kernel_rfl) (fun w _ => ixRunI (n := 2) (cap := cx) (i := 1) (X := .tmp 61) (I := .const (.int .i64 1)) (by kernel_rfl) (by kernel_rfl) (by kernel_rfl) (by omega) w) (T_a hq [5] (fun w h => .cons (ldIntR _ _ _ h.2) Lds.nil) (by kernel_rfl) (T_z hq [6] (by kernel_rfl) ?_))))))
  refine T_fr 10 75 [7, 8, 9] [(4, .pointer (some ⟨w.heap.size + 2, 0, none⟩)), (8, .slice (some ⟨gx, 0, none⟩) 2 cx), (60, .int .i64 z0), (63, .int .i64 z1), (64, .pointer (some ⟨w.heap.size + 2, 1, none⟩))] (by kernel_rfl) fun v => ?_
  have a1 := h.1.b4.cell (i := 1) (by omega)
  have h1 := h.1.set1 z0
  have b2 := h1.b4.cell (i := 2) (by omega)
  refine T_one 7 (by kernel_rfl) fun _ => O_store none 3 (.tmp 64) (.tmp 60) ⟨w.heap.size + 2, 1, none⟩ (.int .i64 z0) _ (by kernel_rfl) (by kernel_rfl) (by kernel_rfl) (stIntR _ _ _ _ a1 (h.1.b4.frozen 1)) (cells2 (own_set h.2)) ?_
  refine T_z hq [8] (by kernel_rfl) ?_
  refine T_one 9 (by kernel_rfl) fun _ => O_store none 3 (.tmp 65) (.tmp 63) ⟨w.heap.size + 2, 2, none⟩ (.int .i64 z1) _ (by kernel_rfl) (by kernel_rfl) (by kernel_rfl) (stIntR _ _ _ _ b2 (h1.b4.frozen 2)) (cells2 (own_set (own_set h.2))) ?_
  exact T_end 75 [(4, .pointer (some ⟨w.heap.size + 2, 0, none⟩)), (8, .slice (some ⟨gx, 0, none⟩) 2 cx)] (by kernel_rfl) (by kernel_rfl) fun _ v => hend v _ (h1.set2 z1)
end Go.Proofs.YtcnkkegpckibbaaDoor
