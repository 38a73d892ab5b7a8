/- A plan while it is drawn: in its box, beside the reader of draws. Definitions and small laws. No conditions. -/
import Derived.Test.YtcnkkegpckibbaaDoorPart09
import Derived.Test.YtcnkkegpckibbaaDoorPart03
namespace Go.Proofs.YtcnkkegpckibbaaDoor
open Go Go.RowKit

def rw4 (a b c d : Value) : Nat → Value
  | 0 => a
  | 1 => b
  | 2 => c
  | _ => d
theorem rw4_alloc (w : World) (a b c d : Value) (t : TypeId) : (w.alloc (.cells #[a, b, c, d] t)).rowIs w.heap.size t 4 (rw4 a b c d) :=
  World.rowIs_alloc w #[a, b, c, d] t _ (fun i hi => by
    have hi' : i < 4 := by simpa using hi
    rcases (show i = 0 ∨ i = 1 ∨ i = 2 ∨ i = 3 by omega) with rfl | rfl | rfl | rfl <;> rfl)
theorem set4 (W : World) (b : Nat) (x y z u : Value) : But b W (W.setCells b 0 [x, y, z, u]) ∧ (∀ T f, W.rowIs b T 4 f → (W.setCells b 0 [x, y, z, u]).rowIs b T 4 (rw4 x y z u)) := by
  show But b W ((((W.setCell ⟨b, 0, none⟩ x).setCell ⟨b, 1, none⟩ y).setCell ⟨b, 2, none⟩ z).setCell ⟨b, 3, none⟩ u) ∧ (∀ T f, W.rowIs b T 4 f → ((((W.setCell ⟨b, 0, none⟩ x).setCell ⟨b, 1, none⟩ y).setCell ⟨b, 2, none⟩ z).setCell ⟨b, 3, none⟩ u).rowIs b T 4 (rw4 x y z u))
  exact ⟨(((But.set W 0 x).trans (But.set _ 1 y)).trans (But.set _ 2 z)).trans (But.set _ 3 u), fun T f h => ((((h.set 0 x).set 1 y).set 2 z).set 3 u).congr (fun i hi => by rcases (show i = 0 ∨ i = 1 ∨ i = 2 ∨ i = 3 by omega) with rfl | rfl | rfl | rfl <;> rfl)⟩
theorem thereP {w : World} {b : Nat} {T : TypeId} {n : Nat} {f : Nat → Value} (h : w.rowIs b T n f) : w.there b 0 n := fun j hj => by
  rw [Nat.zero_add]
  exact ⟨by rw [h.cell hj]; rfl, h.frozen j⟩
theorem sizePart : (Tryd.prog.info? 32).map (·.size) = some 4 := by kernel_rfl
theorem ixRunP {o : Oper} {a : Act} {X I : Operand} {g n cap i : Nat} (ho : o.op = .indexAddr 23 X I) (hx : a.eval X = .slice (some ⟨g, 0, none⟩) n cap) (hi : a.eval I = .int .i64 (i : Nat)) (h : i < n) (w : World) : (execOp a.eval o).run Tryd.prog w = .ok (.value (.pointer (some ⟨g, i * 4, none⟩))) w := by
  have h1 : (0 : Int) ≤ (i : Int) ∧ (i : Int) < (n : Int) := ⟨by omega, by omega⟩
  have h2 : (Instr.indexAt 23 (.slice (some ⟨g, 0, none⟩) n cap) (.int .i64 (i : Nat))).run Tryd.prog w = .ok (.pointer (some ⟨g, i * 4, none⟩)) w := by
    have e : (⟨g, i * 4, none⟩ : Addr) = (⟨g, 0, none⟩ : Addr).add (i * 4) := by simp [Addr.add]
    rw [e]
    simp [go_sem, h1]
  unfold execOp
  simp only [ho, hx, hi, Sem.run_bind, Sem.run_pure, Result.andThen_ok, h2]
theorem ownsR_set {w : World} {base : Nat} {e : TypeId} {size g n cap : Nat} {xs : List Value} (h : w.ownsRow base e size (.slice (some ⟨g, 0, none⟩) n cap) n xs) (j : Nat) (u : Value) : (w.setCell ⟨g, j, none⟩ u).ownsRow base e size (.slice (some ⟨g, 0, none⟩) n cap) n (xs.set j u) := by
  rcases h.2 with ⟨hv, _⟩ | ⟨g', cap', cur, hv, hb, hg, hnc, hcm, hcs, htk⟩
  · simp at hv
  · simp only [Value.slice.injEq, Option.some.injEq, Addr.mk.injEq, and_true, true_and] at hv
    obtain ⟨rfl, rfl⟩ := hv
    refine ⟨by rw [List.length_set]; exact h.1, Or.inr ⟨g, cap, cur.setIfInBounds j u, rfl, hb, ?_, hnc, hcm, by rw [Array.size_setIfInBounds]; exact hcs, ?_⟩⟩
    · simp [World.setCell, Array.getElem?_modify, hg]
    · rw [Array.toList_setIfInBounds, List.take_set, htk]
/-- A cell of parts set: they are parts still. -/
theorem parts_set (z : Int) : ∀ (ps : List Pt) (j : Nat), j < ps.length * 4 → ∃ ps' : List Pt, ps'.length = ps.length ∧ (ps'.map Pt.cs).flatten = ((ps.map Pt.cs).flatten).set j (.int .i64 z)
  | [], j, h => by simp at h
  | p :: ps, j, h => by
    by_cases h4 : j < 4
    · rcases (show j = 0 ∨ j = 1 ∨ j = 2 ∨ j = 3 by omega) with rfl | rfl | rfl | rfl
      · exact ⟨⟨z, p.first, p.next, p.size⟩ :: ps, rfl, rfl⟩
      · exact ⟨⟨p.num, z, p.next, p.size⟩ :: ps, rfl, rfl⟩
      · exact ⟨⟨p.num, p.first, z, p.size⟩ :: ps, rfl, rfl⟩
      · exact ⟨⟨p.num, p.first, p.next, z⟩ :: ps, rfl, rfl⟩
    · obtain ⟨m, rfl⟩ : ∃ m, j = m + 4 := ⟨j - 4, by omega⟩
      obtain ⟨ps', h1, h2⟩ := parts_set z ps m (by simp only [List.length_cons] at h; omega)
      refine ⟨p :: ps', by simp [h1], ?_⟩
      show [Value.int .i64 p.num, .int .i64 p.first, .int .i64 p.next, .int .i64 p.size] ++ (ps'.map Pt.cs).flatten = ([Value.int .i64 p.num, .int .i64 p.first, .int .i64 p.next, .int .i64 p.size] ++ (ps.map Pt.cs).flatten).set (m + 4) (.int .i64 z)
      rw [h2]
      rfl
/-- A plan while it is drawn. -/
structure PnD (R : Nat) (rv : Value) (bs : List UInt8) (w W : World) (k : Nat) (v : Value) (ps : List Pt) (x y : Int) : Prop where
  lt : R < w.heap.size
  but : But R w W
  rd : DR R W rv bs k
  b2 : W.rowIs w.heap.size 25 3 (row3 (.slice none 0 0) (.int .i64 0) (.int .i64 0))
  b3 : W.rowIs (w.heap.size + 1) 25 3 (row3 v (.int .i64 x) (.int .i64 y))
  own : W.ownsRow (w.heap.size + 2) 32 4 v ps.length (ps.map Pt.cs).flatten
section
variable {R : Nat} {rv : Value} {bs : List UInt8} {w W W' : World} {k k' : Nat} {v : Value} {ps : List Pt} {x y : Int}
theorem PnD.pick (h : PnD R rv bs w W k v ps x y) (hd : DR R W' rv bs k') (hb : But R W W') : PnD R rv bs w W' k' v ps x y := by
  have hR := h.lt
  have hk : ∀ b, b < W.heap.size → b ≠ R → W'.heap[b]? = W.heap[b]? := fun b h1 h2 => hb.at h1 h2
  exact ⟨h.lt, h.but.trans hb, hd, h.b2.of_block (hk _ h.b2.lt (by omega)), h.b3.of_block (hk _ h.b3.lt (by omega)), ownsR_keep h.own (fun g e => hk g (h.own.lt g e).2 (by have := (h.own.lt g e).1; omega))⟩
theorem PnD.on (h : PnD R rv bs w W k v ps x y) (hb : Below W.heap.size W W') : PnD R rv bs w W' k v ps x y := h.pick (h.rd.on hb) (But.of_below hb)
theorem PnD.al (h : PnD R rv bs w W k v ps x y) (o : Obj) : PnD R rv bs w (W.alloc o) k v ps x y := h.on ((Below.refl _ _).alloc (Nat.le_refl _) o)
/-- What a block that is no part of it does, does nothing to it. -/
theorem PnD.rest (h : PnD R rv bs w W k v ps x y) {g : Nat} (hb : But g W W') (hg : w.heap.size ≤ g) : But R w W' ∧ DR R W' rv bs k := by
  have hR := h.lt
  have hs := h.but.size
  refine ⟨⟨hb.os.trans h.but.os, hb.tape.trans h.but.tape, hb.output.trans h.but.output, Nat.le_trans h.but.size hb.size, fun b h1 h2 => ?_⟩, ?_⟩
  · rw [hb.at (by omega) (by omega)]
    exact h.but.at h1 (fun e => h2 (by rw [e]))
  · have hlt := h.rd.cells.lt
    exact h.rd.block (fun b hb' => hb.at (by omega) (by omega)) (h.rd.cells.of_block (hb.at hlt (by omega)))
theorem PnD.oth (h : PnD R rv bs w W k v ps x y) {g : Nat} (hb : But g W W') (hg : w.heap.size + 2 ≤ g) (hn : v.ownBlock ≠ some g) : PnD R rv bs w W' k v ps x y := by
  obtain ⟨h1, h2⟩ := h.rest hb (by omega)
  exact ⟨h.lt, h1, h2, h.b2.of_block (hb.at h.b2.lt (by omega)), h.b3.of_block (hb.at h.b3.lt (by omega)), ownsR_keep h.own (fun b e => hb.at (h.own.lt b e).2 (fun e2 => hn (by rw [e, e2])))⟩
theorem PnD.set1 (h : PnD R rv bs w W k v ps x y) (u : Int) : PnD R rv bs w (W.setCell ⟨w.heap.size + 1, 1, none⟩ (.int .i64 u)) k v ps u y := by
  have hb : But (w.heap.size + 1) W (W.setCell ⟨w.heap.size + 1, 1, none⟩ (.int .i64 u)) := But.set W 1 _
  obtain ⟨h1, h2⟩ := h.rest hb (by omega)
  exact ⟨h.lt, h1, h2, h.b2.of_block (hb.at h.b2.lt (by omega)), row3_pi1 h.b3 _, ownsR_keep h.own (fun b e => hb.at (h.own.lt b e).2 (by have := (h.own.lt b e).1; omega))⟩
theorem PnD.set2 (h : PnD R rv bs w W k v ps x y) (u : Int) : PnD R rv bs w (W.setCell ⟨w.heap.size + 1, 2, none⟩ (.int .i64 u)) k v ps x u := by
  have hb : But (w.heap.size + 1) W (W.setCell ⟨w.heap.size + 1, 2, none⟩ (.int .i64 u)) := But.set W 2 _
  obtain ⟨h1, h2⟩ := h.rest hb (by omega)
  exact ⟨h.lt, h1, h2, h.b2.of_block (hb.at h.b2.lt (by omega)), row3_pi2 h.b3 _, ownsR_keep h.own (fun b e => hb.at (h.own.lt b e).2 (by have := (h.own.lt b e).1; omega))⟩
/-- A cell of the parts is set. -/
theorem PnD.part {gp cap n : Nat} (h : PnD R rv bs w W k (.slice (some ⟨gp, 0, none⟩) n cap) ps x y) (hn : n = ps.length) (j : Nat) (hj : j < n * 4) (z : Int) : ∃ ps' : List Pt, ps'.length = ps.length ∧ PnD R rv bs w (W.setCell ⟨gp, j, none⟩ (.int .i64 z)) k (.slice (some ⟨gp, 0, none⟩) n cap) ps' x y := by
  subst hn
  obtain ⟨ps', e1, e2⟩ := parts_set z ps j hj
  have hb : But gp W (W.setCell ⟨gp, j, none⟩ (.int .i64 z)) := But.set W j _
  have hgp := h.own.lt gp rfl
  obtain ⟨h1, h2⟩ := h.rest hb (by omega)
  refine ⟨ps', e1, h.lt, h1, h2, h.b2.of_block (hb.at h.b2.lt (by omega)), h.b3.of_block (hb.at h.b3.lt (by omega)), ?_⟩
  rw [e1, e2]
  exact ownsR_set h.own j _
/-- Another part stands behind the parts. -/
theorem PnD.add {v' : Value} {ob : Obj} (h : PnD R rv bs w W k v ps x y) (p : Pt) (ho : W'.ownsRow (w.heap.size + 2) 32 4 v' (ps.length + 1) ((ps.map Pt.cs).flatten ++ p.cs)) (hg : (W.alloc ob).grownBy W' v.ownBlock) : W'.rowIs (w.heap.size + 1) 25 3 (row3 v (.int .i64 x) (.int .i64 y)) ∧ PnD R rv bs w (W'.setCell ⟨w.heap.size + 1, 0, none⟩ v') k v' (ps ++ [p]) x y := by
  have hR := h.lt
  have hs : ∀ b, b < W.heap.size → v.ownBlock ≠ some b → W'.heap[b]? = W.heap[b]? := fun b hb hne => by
    rw [hg.block b (by rw [World.size_alloc]; omega) (fun e => hne e.symm), Below.heap_alloc _ _ _ hb]
  have hlow : ∀ b, b < w.heap.size + 2 → b < W.heap.size → W'.heap[b]? = W.heap[b]? := fun b hb hl => hs b hl (fun e => by have := (h.own.lt b e).1; omega)
  have h3 := h.b3.of_block (hlow _ (by omega) h.b3.lt)
  have h2 := h.b2.of_block (hlow _ (by omega) h.b2.lt)
  have hbs := h.but.size
  have hsz := hg.size
  rw [World.size_alloc] at hsz
  have hd := h.rd.block (w' := W') (fun b hb => hlow b (by omega) (by have := h.rd.cells.lt; omega)) (h.rd.cells.of_block (hlow _ (by omega) h.rd.cells.lt))
  have hset : But (w.heap.size + 1) W' (W'.setCell ⟨w.heap.size + 1, 0, none⟩ v') := But.set W' 0 _
  refine ⟨h3, ⟨h.lt, ⟨hg.os.trans h.but.os, hg.tape.trans h.but.tape, hg.output.trans h.but.output, by rw [World.size_setCell]; omega, fun b h1 hne => ?_⟩, ?_, ?_, row3_set0 h3 v', ?_⟩⟩
  · rw [hset.at (by omega) (by omega), hlow b (by omega) (by omega)]
    exact h.but.at h1 (fun e => hne (by rw [e]))
  · have := hd.cells.lt
    exact hd.block (fun b hb => hset.at (by omega) (by omega)) (hd.cells.of_block (hset.at this (by omega)))
  · exact h2.of_block (hset.at h2.lt (by omega))
  · refine ownsR_keep (w := W') ?_ (fun g e => hset.at (ho.lt g e).2 (by have := (ho.lt g e).1; omega))
    rw [List.length_append, List.map_append, List.flatten_append]
    simpa using ho
theorem PnD.form (h : PnD R rv bs w W k v ps x y) : ∃ (a : Option Addr) (cap : Nat), v = .slice a ps.length cap := by
  rcases h.own.2 with ⟨hv, h0⟩ | ⟨g, c, u, hv, _⟩
  · exact ⟨none, 0, by rw [hv, h0]⟩
  · exact ⟨_, _, hv⟩
theorem PnD.new (h : PnD R rv bs w W k v ps x y) : v.ownBlock ≠ some W.heap.size := fun e => by have := (h.own.lt _ e).2; omega
theorem PnD.top (h : PnD R rv bs w W k v ps x y) : w.heap.size + 2 ≤ W.heap.size := h.b3.lt
end
end Go.Proofs.YtcnkkegpckibbaaDoor
