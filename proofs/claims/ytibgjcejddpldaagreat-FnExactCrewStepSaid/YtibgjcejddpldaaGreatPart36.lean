/- A part. -/
import Derived.Test.YtibgjcejddpldaaGreatPart35
import Derived.Test.YtibgjcejddpldaaGreatPart30
namespace Go.Proofs.YtibgjcejddpldaaGreat
open Go Go.RowKit
theorem ndq {l : List Nat} (h : l.Nodup) (i j : Nat) {a b : Nat} (hi : l[i]? = some a) (hj : l[j]? = some b) (hij : i ≠ j) : a ≠ b := nd h i j hi hj hij
structure B7 where
 (q h r g o t s : Nat)
def B7.bl (b : B7) : List Nat := [b.q, b.h, b.r, b.g, b.o, b.t, b.s]
def R7.b (R : R7) : B7 := ⟨R.q, R.h, R.r, R.g, R.o, R.t, R.s⟩
structure Sb (W : World) (bx rs : Nat) (x : Cw) (v : C7) (b : B7) : Prop where
 box : W.rowIs bx 26 18 (r18 [.int .i64 x.jobs, .int .i64 x.workers, .int .i64 x.window, .int .i64 x.next, .int .i64 x.reader, v.q, v.h, .int .i64 x.closer, v.r, .int .i64 x.keeper, v.g, .int .i64 x.due, v.o, .int .i64 x.user, v.t, .int .i64 x.room, v.s, .int .i64 x.ops])
 res : W.rowIs rs 26 18 (r18 [.int .i64 0, .int .i64 0, .int .i64 0, .int .i64 0, .int .i64 0, .slice none 0 0, .slice none 0 0, .int .i64 0, .slice none 0 0, .int .i64 0, .slice none 0 0, .int .i64 0, .slice none 0 0, .int .i64 0, .slice none 0 0, .int .i64 0, .slice none 0 0, .int .i64 0])
 q : ZAt (· = b.q) W v.q x.queue
 h : HAt (· = b.h) W v.h x.hands
 r : ZAt (· = b.r) W v.r x.results
 g : ZAt (· = b.g) W v.g x.ring
 o : ZAt (· = b.o) W v.o x.out
 t : ZAt (· = b.t) W v.t x.got
 s : ZAt (· = b.s) W v.s x.shut
 nd : [bx, rs, b.q, b.h, b.r, b.g, b.o, b.t, b.s].Nodup
 lt : ∀ y, y ∈ b.bl → y < W.heap.size
theorem zat_own {W : World} {lo g cap : Nat} {l : List Int} (h : W.ownsRow lo 3 1 (.slice (some ⟨g, 0, none⟩) l.length cap) l.length (l.map zcs).flatten) : ZAt (· = g) W (.slice (some ⟨g, 0, none⟩) l.length cap) l := by
 have hm : l.length ≤ 9223372036854775807 := by
  rcases h.2 with ⟨h', _⟩ | ⟨g', cap', cur, h', _, _, h1, h2, _⟩
  · cases h'
  · unfold maxLen at h2; omega
 refine ⟨_, _, by rw [List.length_map], by rw [List.length_map]; exact hm, fun i hi => ⟨g, 0, rfl, rfl, fun j hj => ?_⟩⟩
 obtain rfl : j = 0 := by omega
 rw [List.length_map] at hi
 rw [Nat.zero_add, Nat.mul_one, Nat.add_zero, World.ownsRow.cellAt h i (by omega), zflat_map, List.getElem?_map, List.getElem?_eq_getElem hi, List.getElem_map]
 rfl
theorem hat_own {W : World} {lo g cap : Nat} {l : List Hd} (h : W.ownsRow lo 73 2 (.slice (some ⟨g, 0, none⟩) l.length cap) l.length (l.map Hd.cs).flatten) : HAt (· = g) W (.slice (some ⟨g, 0, none⟩) l.length cap) l := by
 have hm : l.length ≤ 9223372036854775807 := by
  rcases h.2 with ⟨h', _⟩ | ⟨g', cap', cur, h', _, _, h1, h2, _⟩
  · cases h'
  · unfold maxLen at h2; omega
 have hfl : (l.map Hd.cs).flatten.length = l.length * 2 := by have := h.1; exact this
 refine ⟨_, _, by rw [List.length_map], by rw [List.length_map]; exact hm, fun i hi => ⟨g, 0, rfl, rfl, fun j hj => ?_⟩⟩
 rw [List.length_map] at hi
 obtain ⟨h0, h1⟩ := hflat_at l i hi
 have e : ∀ q, q < l.length * 2 → W.cell? ⟨g, q, none⟩ = some (r18 (l.map Hd.cs).flatten q) := fun q hq => by
  rw [World.ownsRow.cellAt h q (by omega)]
  unfold r18
  rw [List.getD_eq_getElem?_getD, List.getElem?_eq_getElem (by omega)]
  rfl
 rw [List.getElem_map]
 rcases (show j = 0 ∨ j = 1 by omega) with rfl | rfl
 · rw [Nat.zero_add, Nat.add_zero, e _ (by omega), h0]; rfl
 · rw [Nat.zero_add, e _ (by omega), h1]; rfl
theorem Exc.newSet {F : List Nat} {w W : World} (h : Exc F w W) {b : Nat} (hb : w.heap.size ≤ b) (o : Nat) (u : Value) : Exc F w (W.setCell ⟨b, o, none⟩ u) :=
 ⟨h.os, h.tape, h.output, by rw [World.size_setCell]; exact h.size, fun k hk hn => (Below.heap_setCell _ _ _ _ (by show k ≠ b; omega)).trans (h.block k hk hn)⟩
theorem Sb.bl_ne {W : World} {bx rs : Nat} {x : Cw} {v : C7} {b : B7} (h : Sb W bx rs x v b) : ∀ y, y ∈ b.bl → y ≠ bx ∧ y ≠ rs := fun y hy => by
 have hn := h.nd
 rw [List.nodup_cons, List.nodup_cons] at hn
 exact ⟨fun e => hn.1 (e ▸ List.mem_cons_of_mem _ hy), fun e => hn.2.1 (e ▸ hy)⟩
theorem Sb.carry {W W' : World} {bx rs : Nat} {x : Cw} {v : C7} {b : B7} (h : Sb W bx rs x v b) (h1 : W'.heap[bx]? = W.heap[bx]?) (h2 : W'.heap[rs]? = W.heap[rs]?) (hb : ∀ y, y ∈ b.bl → W'.heap[y]? = W.heap[y]?) (hs : W.heap.size ≤ W'.heap.size) : Sb W' bx rs x v b :=
 ⟨h.box.of_block h1, h.res.of_block h2, ZAt.carry h.q (fun y e => hb y (by rw [e]; simp [B7.bl])) (fun _ h => h), HAt.carry h.h (fun y e => hb y (by rw [e]; simp [B7.bl])) (fun _ h => h), ZAt.carry h.r (fun y e => hb y (by rw [e]; simp [B7.bl])) (fun _ h => h), ZAt.carry h.g (fun y e => hb y (by rw [e]; simp [B7.bl])) (fun _ h => h), ZAt.carry h.o (fun y e => hb y (by rw [e]; simp [B7.bl])) (fun _ h => h), ZAt.carry h.t (fun y e => hb y (by rw [e]; simp [B7.bl])) (fun _ h => h), ZAt.carry h.s (fun y e => hb y (by rw [e]; simp [B7.bl])) (fun _ h => h), h.nd, fun y hy => Nat.lt_of_lt_of_le (h.lt y hy) hs⟩
theorem Sb.on {W W' : World} {bx rs : Nat} {x : Cw} {v : C7} {b : B7} (h : Sb W bx rs x v b) (hb : Below W.heap.size W W') : Sb W' bx rs x v b := h.carry (hb.block _ h.box.lt) (hb.block _ h.res.lt) (fun y hy => hb.block y (h.lt y hy)) hb.size
theorem Sb.put {W : World} {bx rs : Nat} {x y : Cw} {v : C7} {b : B7} (h : Sb W bx rs x v b) (i : Nat) (hi : i < 18) (u : Value) (hr : [.int .i64 y.jobs, .int .i64 y.workers, .int .i64 y.window, .int .i64 y.next, .int .i64 y.reader, v.q, v.h, .int .i64 y.closer, v.r, .int .i64 y.keeper, v.g, .int .i64 y.due, v.o, .int .i64 y.user, v.t, .int .i64 y.room, v.s, .int .i64 y.ops] = [.int .i64 x.jobs, .int .i64 x.workers, .int .i64 x.window, .int .i64 x.next, .int .i64 x.reader, v.q, v.h, .int .i64 x.closer, v.r, .int .i64 x.keeper, v.g, .int .i64 x.due, v.o, .int .i64 x.user, v.t, .int .i64 x.room, v.s, .int .i64 x.ops].set i u) (eq : y.queue = x.queue) (eh : y.hands = x.hands) (er : y.results = x.results) (eg : y.ring = x.ring) (eo : y.out = x.out) (et : y.got = x.got) (es : y.shut = x.shut) : Sb (W.setCell ⟨bx, i, none⟩ u) bx rs y v b := by
 have hn := h.bl_ne
 have hrb : rs ≠ bx := fun e => by have := h.nd; rw [List.nodup_cons] at this; exact this.1 (by rw [e]; simp)
 have hb := row_put h.box i hi u
 rw [← hr] at hb
 have hk : ∀ z, z ∈ b.bl → (W.setCell ⟨bx, i, none⟩ u).heap[z]? = W.heap[z]? := fun z hz => Below.heap_setCell _ _ _ _ (hn z hz).1
 refine ⟨hb, h.res.setOther (a := ⟨bx, i, none⟩) hrb u, by rw [eq]; exact ZAt.carry h.q (fun y e => hk y (by rw [e]; simp [B7.bl])) (fun _ h => h), by rw [eh]; exact HAt.carry h.h (fun y e => hk y (by rw [e]; simp [B7.bl])) (fun _ h => h), by rw [er]; exact ZAt.carry h.r (fun y e => hk y (by rw [e]; simp [B7.bl])) (fun _ h => h), by rw [eg]; exact ZAt.carry h.g (fun y e => hk y (by rw [e]; simp [B7.bl])) (fun _ h => h), by rw [eo]; exact ZAt.carry h.o (fun y e => hk y (by rw [e]; simp [B7.bl])) (fun _ h => h), by rw [et]; exact ZAt.carry h.t (fun y e => hk y (by rw [e]; simp [B7.bl])) (fun _ h => h), by rw [es]; exact ZAt.carry h.s (fun y e => hk y (by rw [e]; simp [B7.bl])) (fun _ h => h), h.nd, fun y hy => by rw [World.size_setCell]; exact h.lt y hy⟩
theorem Sb.set_q {W : World} {bx rs : Nat} {x : Cw} {v : C7} {b : B7} (h : Sb W bx rs x v b) (u : Value) (l : List Int) (hz : ZAt (· = b.q) W u l) : Sb (W.setCell ⟨bx, 5, none⟩ u) bx rs { x with queue := l } { v with q := u } b := by
 have hn := h.bl_ne
 have hrb : rs ≠ bx := fun e => by have := h.nd; rw [List.nodup_cons] at this; exact this.1 (by rw [e]; simp)
 have hb := row_put h.box 5 (by simp) u
 have hk : ∀ z, z ∈ b.bl → (W.setCell ⟨bx, 5, none⟩ u).heap[z]? = W.heap[z]? := fun z hz => Below.heap_setCell _ _ _ _ (hn z hz).1
 refine ⟨hb, h.res.setOther (a := ⟨bx, 5, none⟩) hrb u, ZAt.carry hz (fun y e => hk y (by rw [e]; simp [B7.bl])) (fun _ h => h), HAt.carry h.h (fun y e => hk y (by rw [e]; simp [B7.bl])) (fun _ h => h), ZAt.carry h.r (fun y e => hk y (by rw [e]; simp [B7.bl])) (fun _ h => h), ZAt.carry h.g (fun y e => hk y (by rw [e]; simp [B7.bl])) (fun _ h => h), ZAt.carry h.o (fun y e => hk y (by rw [e]; simp [B7.bl])) (fun _ h => h), ZAt.carry h.t (fun y e => hk y (by rw [e]; simp [B7.bl])) (fun _ h => h), ZAt.carry h.s (fun y e => hk y (by rw [e]; simp [B7.bl])) (fun _ h => h), h.nd, fun y hy => by rw [World.size_setCell]; exact h.lt y hy⟩
theorem Sb.set_r {W : World} {bx rs : Nat} {x : Cw} {v : C7} {b : B7} (h : Sb W bx rs x v b) (u : Value) (l : List Int) (hz : ZAt (· = b.r) W u l) : Sb (W.setCell ⟨bx, 8, none⟩ u) bx rs { x with results := l } { v with r := u } b := by
 have hn := h.bl_ne
 have hrb : rs ≠ bx := fun e => by have := h.nd; rw [List.nodup_cons] at this; exact this.1 (by rw [e]; simp)
 have hb := row_put h.box 8 (by simp) u
 have hk : ∀ z, z ∈ b.bl → (W.setCell ⟨bx, 8, none⟩ u).heap[z]? = W.heap[z]? := fun z hz => Below.heap_setCell _ _ _ _ (hn z hz).1
 refine ⟨hb, h.res.setOther (a := ⟨bx, 8, none⟩) hrb u, ZAt.carry h.q (fun y e => hk y (by rw [e]; simp [B7.bl])) (fun _ h => h), HAt.carry h.h (fun y e => hk y (by rw [e]; simp [B7.bl])) (fun _ h => h), ZAt.carry hz (fun y e => hk y (by rw [e]; simp [B7.bl])) (fun _ h => h), ZAt.carry h.g (fun y e => hk y (by rw [e]; simp [B7.bl])) (fun _ h => h), ZAt.carry h.o (fun y e => hk y (by rw [e]; simp [B7.bl])) (fun _ h => h), ZAt.carry h.t (fun y e => hk y (by rw [e]; simp [B7.bl])) (fun _ h => h), ZAt.carry h.s (fun y e => hk y (by rw [e]; simp [B7.bl])) (fun _ h => h), h.nd, fun y hy => by rw [World.size_setCell]; exact h.lt y hy⟩
theorem Sb.mod_h {W W' : World} {bx rs : Nat} {x : Cw} {v : C7} {b : B7} (h : Sb W bx rs x v b) (hx : Exc [b.h] W W') (l : List Hd) (hz : HAt (· = b.h) W' v.h l) : Sb W' bx rs { x with hands := l } v b := by
 have hn := h.bl_ne
 have hnd := h.nd
 have hk : ∀ z, z < W.heap.size → z ≠ b.h → W'.heap[z]? = W.heap[z]? := fun z hz he => hx.block z hz (by simpa using he)
 have hl : ∀ z, z ∈ b.bl → z < W.heap.size := h.lt
 refine ⟨h.box.of_block (hk _ h.box.lt (Ne.symm (hn _ (by simp [B7.bl])).1)), h.res.of_block (hk _ h.res.lt (Ne.symm (hn _ (by simp [B7.bl])).2)), ZAt.carry h.q (fun y e => hk y (by rw [e]; exact hl _ (by simp [B7.bl])) (by rw [e]; exact ndq hnd 2 3 rfl rfl (by decide))) (fun _ h => h), hz, ZAt.carry h.r (fun y e => hk y (by rw [e]; exact hl _ (by simp [B7.bl])) (by rw [e]; exact ndq hnd 4 3 rfl rfl (by decide))) (fun _ h => h), ZAt.carry h.g (fun y e => hk y (by rw [e]; exact hl _ (by simp [B7.bl])) (by rw [e]; exact ndq hnd 5 3 rfl rfl (by decide))) (fun _ h => h), ZAt.carry h.o (fun y e => hk y (by rw [e]; exact hl _ (by simp [B7.bl])) (by rw [e]; exact ndq hnd 6 3 rfl rfl (by decide))) (fun _ h => h), ZAt.carry h.t (fun y e => hk y (by rw [e]; exact hl _ (by simp [B7.bl])) (by rw [e]; exact ndq hnd 7 3 rfl rfl (by decide))) (fun _ h => h), ZAt.carry h.s (fun y e => hk y (by rw [e]; exact hl _ (by simp [B7.bl])) (by rw [e]; exact ndq hnd 8 3 rfl rfl (by decide))) (fun _ h => h), h.nd, fun y hy => Nat.lt_of_lt_of_le (h.lt y hy) hx.size⟩
theorem Sb.mod_g {W W' : World} {bx rs : Nat} {x : Cw} {v : C7} {b : B7} (h : Sb W bx rs x v b) (hx : Exc [b.g] W W') (l : List Int) (hz : ZAt (· = b.g) W' v.g l) : Sb W' bx rs { x with ring := l } v b := by
 have hn := h.bl_ne
 have hnd := h.nd
 have hk : ∀ z, z < W.heap.size → z ≠ b.g → W'.heap[z]? = W.heap[z]? := fun z hz he => hx.block z hz (by simpa using he)
 have hl : ∀ z, z ∈ b.bl → z < W.heap.size := h.lt
 refine ⟨h.box.of_block (hk _ h.box.lt (Ne.symm (hn _ (by simp [B7.bl])).1)), h.res.of_block (hk _ h.res.lt (Ne.symm (hn _ (by simp [B7.bl])).2)), ZAt.carry h.q (fun y e => hk y (by rw [e]; exact hl _ (by simp [B7.bl])) (by rw [e]; exact ndq hnd 2 5 rfl rfl (by decide))) (fun _ h => h), HAt.carry h.h (fun y e => hk y (by rw [e]; exact hl _ (by simp [B7.bl])) (by rw [e]; exact ndq hnd 3 5 rfl rfl (by decide))) (fun _ h => h), ZAt.carry h.r (fun y e => hk y (by rw [e]; exact hl _ (by simp [B7.bl])) (by rw [e]; exact ndq hnd 4 5 rfl rfl (by decide))) (fun _ h => h), hz, ZAt.carry h.o (fun y e => hk y (by rw [e]; exact hl _ (by simp [B7.bl])) (by rw [e]; exact ndq hnd 6 5 rfl rfl (by decide))) (fun _ h => h), ZAt.carry h.t (fun y e => hk y (by rw [e]; exact hl _ (by simp [B7.bl])) (by rw [e]; exact ndq hnd 7 5 rfl rfl (by decide))) (fun _ h => h), ZAt.carry h.s (fun y e => hk y (by rw [e]; exact hl _ (by simp [B7.bl])) (by rw [e]; exact ndq hnd 8 5 rfl rfl (by decide))) (fun _ h => h), h.nd, fun y hy => Nat.lt_of_lt_of_le (h.lt y hy) hx.size⟩
theorem Sb.mod_s {W W' : World} {bx rs : Nat} {x : Cw} {v : C7} {b : B7} (h : Sb W bx rs x v b) (hx : Exc [b.s] W W') (l : List Int) (hz : ZAt (· = b.s) W' v.s l) : Sb W' bx rs { x with shut := l } v b := by
 have hn := h.bl_ne
 have hnd := h.nd
 have hk : ∀ z, z < W.heap.size → z ≠ b.s → W'.heap[z]? = W.heap[z]? := fun z hz he => hx.block z hz (by simpa using he)
 have hl : ∀ z, z ∈ b.bl → z < W.heap.size := h.lt
 refine ⟨h.box.of_block (hk _ h.box.lt (Ne.symm (hn _ (by simp [B7.bl])).1)), h.res.of_block (hk _ h.res.lt (Ne.symm (hn _ (by simp [B7.bl])).2)), ZAt.carry h.q (fun y e => hk y (by rw [e]; exact hl _ (by simp [B7.bl])) (by rw [e]; exact ndq hnd 2 8 rfl rfl (by decide))) (fun _ h => h), HAt.carry h.h (fun y e => hk y (by rw [e]; exact hl _ (by simp [B7.bl])) (by rw [e]; exact ndq hnd 3 8 rfl rfl (by decide))) (fun _ h => h), ZAt.carry h.r (fun y e => hk y (by rw [e]; exact hl _ (by simp [B7.bl])) (by rw [e]; exact ndq hnd 4 8 rfl rfl (by decide))) (fun _ h => h), ZAt.carry h.g (fun y e => hk y (by rw [e]; exact hl _ (by simp [B7.bl])) (by rw [e]; exact ndq hnd 5 8 rfl rfl (by decide))) (fun _ h => h), ZAt.carry h.o (fun y e => hk y (by rw [e]; exact hl _ (by simp [B7.bl])) (by rw [e]; exact ndq hnd 6 8 rfl rfl (by decide))) (fun _ h => h), ZAt.carry h.t (fun y e => hk y (by rw [e]; exact hl _ (by simp [B7.bl])) (by rw [e]; exact ndq hnd 7 8 rfl rfl (by decide))) (fun _ h => h), hz, h.nd, fun y hy => Nat.lt_of_lt_of_le (h.lt y hy) hx.size⟩
theorem Sb.app_q {W V : World} {bx rs lo : Nat} {x : Cw} {v : C7} {b : B7} {ob : Obj} {g cap : Nat} {z : Int} (h : Sb W bx rs x v b) (ho : V.ownsRow lo 3 1 (.slice (some ⟨g, 0, none⟩) (x.queue.length + 1) cap) (x.queue.length + 1) ((x.queue.map zcs).flatten ++ [.int .i64 z])) (hg : (W.alloc ob).grownBy V (some b.q)) (hat : g = b.q ∨ (W.alloc ob).heap.size ≤ g) : Sb (V.setCell ⟨bx, 5, none⟩ (.slice (some ⟨g, 0, none⟩) (x.queue.length + 1) cap)) bx rs { x with queue := x.queue ++ [z] } { v with q := .slice (some ⟨g, 0, none⟩) (x.queue.length + 1) cap } { b with q := g } ∧ V.cell? ⟨bx, 5, none⟩ = some v.q ∧ V.frozen? ⟨bx, 5, none⟩ = false ∧ Exc [bx, b.q] W (V.setCell ⟨bx, 5, none⟩ (.slice (some ⟨g, 0, none⟩) (x.queue.length + 1) cap)) := by
 have hn := h.bl_ne
 have hnd := h.nd
 have hsz : (W.alloc ob).heap.size = W.heap.size + 1 := by simp
 have hV : ∀ y, y < W.heap.size → y ≠ b.q → V.heap[y]? = W.heap[y]? := fun y hy he => by
  rw [hg.block y (by omega) (fun e => he (by simpa using e))]
  exact Below.heap_alloc W ob y hy
 have hbx := h.box.of_block (hV bx h.box.lt (Ne.symm (hn _ (by simp [B7.bl])).1))
 have hrb : rs ≠ bx := fun e => by have := h.nd; rw [List.nodup_cons] at this; exact this.1 (by rw [e]; simp)
 have hgl : g < V.heap.size := (ho.lt g rfl).2
 have hgx : ∀ y, y < W.heap.size → y ≠ b.q → g ≠ y := fun y hy he e => by
  rcases hat with e2 | e2
  · exact he (e ▸ e2)
  · omega
 have hz : ZAt (· = g) V (.slice (some ⟨g, 0, none⟩) (x.queue.length + 1) cap) (x.queue ++ [z]) := by
  have := zat_own (l := x.queue ++ [z]) (W := V) (lo := lo) (g := g) (cap := cap) (by rw [List.length_append, List.map_append, List.flatten_append]; exact ho)
  rw [List.length_append] at this
  exact this
 have hgb : g ≠ bx := hgx bx h.box.lt (Ne.symm (hn _ (by simp [B7.bl])).1)
 have hk : ∀ y, y < W.heap.size → y ≠ b.q → y ≠ bx → (V.setCell ⟨bx, 5, none⟩ (.slice (some ⟨g, 0, none⟩) (x.queue.length + 1) cap)).heap[y]? = W.heap[y]? := fun y hy h1 h2 => (Below.heap_setCell _ _ _ _ h2).trans (hV y hy h1)
 refine ⟨⟨row_put hbx 5 (by simp) _, h.res.of_block (hk rs h.res.lt (Ne.symm (hn _ (by simp [B7.bl])).2) hrb), ZAt.carry hz (fun y e => Below.heap_setCell _ _ _ _ (by show y ≠ bx; rw [e]; exact hgb)) (fun _ h => h), HAt.carry h.h (fun y e => hk y (by rw [e]; exact h.lt _ (by simp [B7.bl])) (by rw [e]; exact ndq hnd 3 2 rfl rfl (by decide)) (by rw [e]; exact (hn _ (by simp [B7.bl])).1)) (fun _ h => h), ZAt.carry h.r (fun y e => hk y (by rw [e]; exact h.lt _ (by simp [B7.bl])) (by rw [e]; exact ndq hnd 4 2 rfl rfl (by decide)) (by rw [e]; exact (hn _ (by simp [B7.bl])).1)) (fun _ h => h), ZAt.carry h.g (fun y e => hk y (by rw [e]; exact h.lt _ (by simp [B7.bl])) (by rw [e]; exact ndq hnd 5 2 rfl rfl (by decide)) (by rw [e]; exact (hn _ (by simp [B7.bl])).1)) (fun _ h => h), ZAt.carry h.o (fun y e => hk y (by rw [e]; exact h.lt _ (by simp [B7.bl])) (by rw [e]; exact ndq hnd 6 2 rfl rfl (by decide)) (by rw [e]; exact (hn _ (by simp [B7.bl])).1)) (fun _ h => h), ZAt.carry h.t (fun y e => hk y (by rw [e]; exact h.lt _ (by simp [B7.bl])) (by rw [e]; exact ndq hnd 7 2 rfl rfl (by decide)) (by rw [e]; exact (hn _ (by simp [B7.bl])).1)) (fun _ h => h), ZAt.carry h.s (fun y e => hk y (by rw [e]; exact h.lt _ (by simp [B7.bl])) (by rw [e]; exact ndq hnd 8 2 rfl rfl (by decide)) (by rw [e]; exact (hn _ (by simp [B7.bl])).1)) (fun _ h => h), ?_, fun y hy => ?_⟩, hbx.cell (i := 5) (by omega), hbx.frozen 5, ?_⟩
 · have h0 := hgx bx h.box.lt (Ne.symm (hn _ (by simp [B7.bl])).1)
   have h1 := hgx rs h.res.lt (Ne.symm (hn _ (by simp [B7.bl])).2)
   have h3 := hgx b.h (h.lt _ (by simp [B7.bl])) (ndq hnd 3 2 rfl rfl (by decide))
   have h4 := hgx b.r (h.lt _ (by simp [B7.bl])) (ndq hnd 4 2 rfl rfl (by decide))
   have h5 := hgx b.g (h.lt _ (by simp [B7.bl])) (ndq hnd 5 2 rfl rfl (by decide))
   have h6 := hgx b.o (h.lt _ (by simp [B7.bl])) (ndq hnd 6 2 rfl rfl (by decide))
   have h7 := hgx b.t (h.lt _ (by simp [B7.bl])) (ndq hnd 7 2 rfl rfl (by decide))
   have h8 := hgx b.s (h.lt _ (by simp [B7.bl])) (ndq hnd 8 2 rfl rfl (by decide))
   simp only [List.nodup_cons, List.mem_cons, List.not_mem_nil, or_false, not_or, not_false_eq_true, List.nodup_nil, and_true] at hnd ⊢
   grind
 · rw [World.size_setCell]
   have hVs : W.heap.size ≤ V.heap.size := by have := hg.size; omega
   simp only [B7.bl, List.mem_cons, List.not_mem_nil, or_false] at hy
   have hl := h.lt
   simp only [B7.bl, List.mem_cons, List.not_mem_nil, or_false] at hl
   rcases hy with rfl | rfl | rfl | rfl | rfl | rfl | rfl
   · exact hgl
   · exact Nat.lt_of_lt_of_le (hl _ (by simp)) hVs
   · exact Nat.lt_of_lt_of_le (hl _ (by simp)) hVs
   · exact Nat.lt_of_lt_of_le (hl _ (by simp)) hVs
   · exact Nat.lt_of_lt_of_le (hl _ (by simp)) hVs
   · exact Nat.lt_of_lt_of_le (hl _ (by simp)) hVs
   · exact Nat.lt_of_lt_of_le (hl _ (by simp)) hVs
 · refine ⟨by rw [show (V.setCell ⟨bx, 5, none⟩ (.slice (some ⟨g, 0, none⟩) (x.queue.length + 1) cap)).os = V.os from rfl, hg.os]; rfl, by rw [show (V.setCell ⟨bx, 5, none⟩ (.slice (some ⟨g, 0, none⟩) (x.queue.length + 1) cap)).tape = V.tape from rfl, hg.tape]; rfl, by rw [show (V.setCell ⟨bx, 5, none⟩ (.slice (some ⟨g, 0, none⟩) (x.queue.length + 1) cap)).output = V.output from rfl, hg.output]; rfl, by rw [World.size_setCell]; have := hg.size; omega, fun y hy hn2 => ?_⟩
   simp only [List.mem_cons, List.not_mem_nil, or_false, not_or] at hn2
   exact hk y hy hn2.2 hn2.1
theorem Sb.app_r {W V : World} {bx rs lo : Nat} {x : Cw} {v : C7} {b : B7} {ob : Obj} {g cap : Nat} {z : Int} (h : Sb W bx rs x v b) (ho : V.ownsRow lo 3 1 (.slice (some ⟨g, 0, none⟩) (x.results.length + 1) cap) (x.results.length + 1) ((x.results.map zcs).flatten ++ [.int .i64 z])) (hg : (W.alloc ob).grownBy V (some b.r)) (hat : g = b.r ∨ (W.alloc ob).heap.size ≤ g) : Sb (V.setCell ⟨bx, 8, none⟩ (.slice (some ⟨g, 0, none⟩) (x.results.length + 1) cap)) bx rs { x with results := x.results ++ [z] } { v with r := .slice (some ⟨g, 0, none⟩) (x.results.length + 1) cap } { b with r := g } ∧ V.cell? ⟨bx, 8, none⟩ = some v.r ∧ V.frozen? ⟨bx, 8, none⟩ = false ∧ Exc [bx, b.r] W (V.setCell ⟨bx, 8, none⟩ (.slice (some ⟨g, 0, none⟩) (x.results.length + 1) cap)) := by
 have hn := h.bl_ne
 have hnd := h.nd
 have hsz : (W.alloc ob).heap.size = W.heap.size + 1 := by simp
 have hV : ∀ y, y < W.heap.size → y ≠ b.r → V.heap[y]? = W.heap[y]? := fun y hy he => by
  rw [hg.block y (by omega) (fun e => he (by simpa using e))]
  exact Below.heap_alloc W ob y hy
 have hbx := h.box.of_block (hV bx h.box.lt (Ne.symm (hn _ (by simp [B7.bl])).1))
 have hrb : rs ≠ bx := fun e => by have := h.nd; rw [List.nodup_cons] at this; exact this.1 (by rw [e]; simp)
 have hgl : g < V.heap.size := (ho.lt g rfl).2
 have hgx : ∀ y, y < W.heap.size → y ≠ b.r → g ≠ y := fun y hy he e => by
  rcases hat with e2 | e2
  · exact he (e ▸ e2)
  · omega
 have hz : ZAt (· = g) V (.slice (some ⟨g, 0, none⟩) (x.results.length + 1) cap) (x.results ++ [z]) := by
  have := zat_own (l := x.results ++ [z]) (W := V) (lo := lo) (g := g) (cap := cap) (by rw [List.length_append, List.map_append, List.flatten_append]; exact ho)
  rw [List.length_append] at this
  exact this
 have hgb : g ≠ bx := hgx bx h.box.lt (Ne.symm (hn _ (by simp [B7.bl])).1)
 have hk : ∀ y, y < W.heap.size → y ≠ b.r → y ≠ bx → (V.setCell ⟨bx, 8, none⟩ (.slice (some ⟨g, 0, none⟩) (x.results.length + 1) cap)).heap[y]? = W.heap[y]? := fun y hy h1 h2 => (Below.heap_setCell _ _ _ _ h2).trans (hV y hy h1)
 refine ⟨⟨row_put hbx 8 (by simp) _, h.res.of_block (hk rs h.res.lt (Ne.symm (hn _ (by simp [B7.bl])).2) hrb), ZAt.carry h.q (fun y e => hk y (by rw [e]; exact h.lt _ (by simp [B7.bl])) (by rw [e]; exact ndq hnd 2 4 rfl rfl (by decide)) (by rw [e]; exact (hn _ (by simp [B7.bl])).1)) (fun _ h => h), HAt.carry h.h (fun y e => hk y (by rw [e]; exact h.lt _ (by simp [B7.bl])) (by rw [e]; exact ndq hnd 3 4 rfl rfl (by decide)) (by rw [e]; exact (hn _ (by simp [B7.bl])).1)) (fun _ h => h), ZAt.carry hz (fun y e => Below.heap_setCell _ _ _ _ (by show y ≠ bx; rw [e]; exact hgb)) (fun _ h => h), ZAt.carry h.g (fun y e => hk y (by rw [e]; exact h.lt _ (by simp [B7.bl])) (by rw [e]; exact ndq hnd 5 4 rfl rfl (by decide)) (by rw [e]; exact (hn _ (by simp [B7.bl])).1)) (fun _ h => h), ZAt.carry h.o (fun y e => hk y (by rw [e]; exact h.lt _ (by simp [B7.bl])) (by rw [e]; exact ndq hnd 6 4 rfl rfl (by decide)) (by rw [e]; exact (hn _ (by simp [B7.bl])).1)) (fun _ h => h), ZAt.carry h.t (fun y e => hk y (by rw [e]; exact h.lt _ (by simp [B7.bl])) (by rw [e]; exact ndq hnd 7 4 rfl rfl (by decide)) (by rw [e]; exact (hn _ (by simp [B7.bl])).1)) (fun _ h => h), ZAt.carry h.s (fun y e => hk y (by rw [e]; exact h.lt _ (by simp [B7.bl])) (by rw [e]; exact ndq hnd 8 4 rfl rfl (by decide)) (by rw [e]; exact (hn _ (by simp [B7.bl])).1)) (fun _ h => h), ?_, fun y hy => ?_⟩, hbx.cell (i := 8) (by omega), hbx.frozen 8, ?_⟩
 · have h0 := hgx bx h.box.lt (Ne.symm (hn _ (by simp [B7.bl])).1)
   have h1 := hgx rs h.res.lt (Ne.symm (hn _ (by simp [B7.bl])).2)
   have h2 := hgx b.q (h.lt _ (by simp [B7.bl])) (ndq hnd 2 4 rfl rfl (by decide))
   have h3 := hgx b.h (h.lt _ (by simp [B7.bl])) (ndq hnd 3 4 rfl rfl (by decide))
   have h5 := hgx b.g (h.lt _ (by simp [B7.bl])) (ndq hnd 5 4 rfl rfl (by decide))
   have h6 := hgx b.o (h.lt _ (by simp [B7.bl])) (ndq hnd 6 4 rfl rfl (by decide))
   have h7 := hgx b.t (h.lt _ (by simp [B7.bl])) (ndq hnd 7 4 rfl rfl (by decide))
   have h8 := hgx b.s (h.lt _ (by simp [B7.bl])) (ndq hnd 8 4 rfl rfl (by decide))
   simp only [List.nodup_cons, List.mem_cons, List.not_mem_nil, or_false, not_or, not_false_eq_true, List.nodup_nil, and_true] at hnd ⊢
   grind
 · rw [World.size_setCell]
   have hVs : W.heap.size ≤ V.heap.size := by have := hg.size; omega
   simp only [B7.bl, List.mem_cons, List.not_mem_nil, or_false] at hy
   have hl := h.lt
   simp only [B7.bl, List.mem_cons, List.not_mem_nil, or_false] at hl
   rcases hy with rfl | rfl | rfl | rfl | rfl | rfl | rfl
   · exact Nat.lt_of_lt_of_le (hl _ (by simp)) hVs
   · exact Nat.lt_of_lt_of_le (hl _ (by simp)) hVs
   · exact hgl
   · exact Nat.lt_of_lt_of_le (hl _ (by simp)) hVs
   · exact Nat.lt_of_lt_of_le (hl _ (by simp)) hVs
   · exact Nat.lt_of_lt_of_le (hl _ (by simp)) hVs
   · exact Nat.lt_of_lt_of_le (hl _ (by simp)) hVs
 · refine ⟨by rw [show (V.setCell ⟨bx, 8, none⟩ (.slice (some ⟨g, 0, none⟩) (x.results.length + 1) cap)).os = V.os from rfl, hg.os]; rfl, by rw [show (V.setCell ⟨bx, 8, none⟩ (.slice (some ⟨g, 0, none⟩) (x.results.length + 1) cap)).tape = V.tape from rfl, hg.tape]; rfl, by rw [show (V.setCell ⟨bx, 8, none⟩ (.slice (some ⟨g, 0, none⟩) (x.results.length + 1) cap)).output = V.output from rfl, hg.output]; rfl, by rw [World.size_setCell]; have := hg.size; omega, fun y hy hn2 => ?_⟩
   simp only [List.mem_cons, List.not_mem_nil, or_false, not_or] at hn2
   exact hk y hy hn2.2 hn2.1
theorem Sb.app_o {W V : World} {bx rs lo : Nat} {x : Cw} {v : C7} {b : B7} {ob : Obj} {g cap : Nat} {z : Int} (h : Sb W bx rs x v b) (ho : V.ownsRow lo 3 1 (.slice (some ⟨g, 0, none⟩) (x.out.length + 1) cap) (x.out.length + 1) ((x.out.map zcs).flatten ++ [.int .i64 z])) (hg : (W.alloc ob).grownBy V (some b.o)) (hat : g = b.o ∨ (W.alloc ob).heap.size ≤ g) : Sb (V.setCell ⟨bx, 12, none⟩ (.slice (some ⟨g, 0, none⟩) (x.out.length + 1) cap)) bx rs { x with out := x.out ++ [z] } { v with o := .slice (some ⟨g, 0, none⟩) (x.out.length + 1) cap } { b with o := g } ∧ V.cell? ⟨bx, 12, none⟩ = some v.o ∧ V.frozen? ⟨bx, 12, none⟩ = false ∧ Exc [bx, b.o] W (V.setCell ⟨bx, 12, none⟩ (.slice (some ⟨g, 0, none⟩) (x.out.length + 1) cap)) := by
 have hn := h.bl_ne
 have hnd := h.nd
 have hsz : (W.alloc ob).heap.size = W.heap.size + 1 := by simp
 have hV : ∀ y, y < W.heap.size → y ≠ b.o → V.heap[y]? = W.heap[y]? := fun y hy he => by
  rw [hg.block y (by omega) (fun e => he (by simpa using e))]
  exact Below.heap_alloc W ob y hy
 have hbx := h.box.of_block (hV bx h.box.lt (Ne.symm (hn _ (by simp [B7.bl])).1))
 have hrb : rs ≠ bx := fun e => by have := h.nd; rw [List.nodup_cons] at this; exact this.1 (by rw [e]; simp)
 have hgl : g < V.heap.size := (ho.lt g rfl).2
 have hgx : ∀ y, y < W.heap.size → y ≠ b.o → g ≠ y := fun y hy he e => by
  rcases hat with e2 | e2
  · exact he (e ▸ e2)
  · omega
 have hz : ZAt (· = g) V (.slice (some ⟨g, 0, none⟩) (x.out.length + 1) cap) (x.out ++ [z]) := by
  have := zat_own (l := x.out ++ [z]) (W := V) (lo := lo) (g := g) (cap := cap) (by rw [List.length_append, List.map_append, List.flatten_append]; exact ho)
  rw [List.length_append] at this
  exact this
 have hgb : g ≠ bx := hgx bx h.box.lt (Ne.symm (hn _ (by simp [B7.bl])).1)
 have hk : ∀ y, y < W.heap.size → y ≠ b.o → y ≠ bx → (V.setCell ⟨bx, 12, none⟩ (.slice (some ⟨g, 0, none⟩) (x.out.length + 1) cap)).heap[y]? = W.heap[y]? := fun y hy h1 h2 => (Below.heap_setCell _ _ _ _ h2).trans (hV y hy h1)
 refine ⟨⟨row_put hbx 12 (by simp) _, h.res.of_block (hk rs h.res.lt (Ne.symm (hn _ (by simp [B7.bl])).2) hrb), ZAt.carry h.q (fun y e => hk y (by rw [e]; exact h.lt _ (by simp [B7.bl])) (by rw [e]; exact ndq hnd 2 6 rfl rfl (by decide)) (by rw [e]; exact (hn _ (by simp [B7.bl])).1)) (fun _ h => h), HAt.carry h.h (fun y e => hk y (by rw [e]; exact h.lt _ (by simp [B7.bl])) (by rw [e]; exact ndq hnd 3 6 rfl rfl (by decide)) (by rw [e]; exact (hn _ (by simp [B7.bl])).1)) (fun _ h => h), ZAt.carry h.r (fun y e => hk y (by rw [e]; exact h.lt _ (by simp [B7.bl])) (by rw [e]; exact ndq hnd 4 6 rfl rfl (by decide)) (by rw [e]; exact (hn _ (by simp [B7.bl])).1)) (fun _ h => h), ZAt.carry h.g (fun y e => hk y (by rw [e]; exact h.lt _ (by simp [B7.bl])) (by rw [e]; exact ndq hnd 5 6 rfl rfl (by decide)) (by rw [e]; exact (hn _ (by simp [B7.bl])).1)) (fun _ h => h), ZAt.carry hz (fun y e => Below.heap_setCell _ _ _ _ (by show y ≠ bx; rw [e]; exact hgb)) (fun _ h => h), ZAt.carry h.t (fun y e => hk y (by rw [e]; exact h.lt _ (by simp [B7.bl])) (by rw [e]; exact ndq hnd 7 6 rfl rfl (by decide)) (by rw [e]; exact (hn _ (by simp [B7.bl])).1)) (fun _ h => h), ZAt.carry h.s (fun y e => hk y (by rw [e]; exact h.lt _ (by simp [B7.bl])) (by rw [e]; exact ndq hnd 8 6 rfl rfl (by decide)) (by rw [e]; exact (hn _ (by simp [B7.bl])).1)) (fun _ h => h), ?_, fun y hy => ?_⟩, hbx.cell (i := 12) (by omega), hbx.frozen 12, ?_⟩
 · have h0 := hgx bx h.box.lt (Ne.symm (hn _ (by simp [B7.bl])).1)
   have h1 := hgx rs h.res.lt (Ne.symm (hn _ (by simp [B7.bl])).2)
   have h2 := hgx b.q (h.lt _ (by simp [B7.bl])) (ndq hnd 2 6 rfl rfl (by decide))
   have h3 := hgx b.h (h.lt _ (by simp [B7.bl])) (ndq hnd 3 6 rfl rfl (by decide))
   have h4 := hgx b.r (h.lt _ (by simp [B7.bl])) (ndq hnd 4 6 rfl rfl (by decide))
   have h5 := hgx b.g (h.lt _ (by simp [B7.bl])) (ndq hnd 5 6 rfl rfl (by decide))
   have h7 := hgx b.t (h.lt _ (by simp [B7.bl])) (ndq hnd 7 6 rfl rfl (by decide))
   have h8 := hgx b.s (h.lt _ (by simp [B7.bl])) (ndq hnd 8 6 rfl rfl (by decide))
   simp only [List.nodup_cons, List.mem_cons, List.not_mem_nil, or_false, not_or, not_false_eq_true, List.nodup_nil, and_true] at hnd ⊢
   grind
 · rw [World.size_setCell]
   have hVs : W.heap.size ≤ V.heap.size := by have := hg.size; omega
   simp only [B7.bl, List.mem_cons, List.not_mem_nil, or_false] at hy
   have hl := h.lt
   simp only [B7.bl, List.mem_cons, List.not_mem_nil, or_false] at hl
   rcases hy with rfl | rfl | rfl | rfl | rfl | rfl | rfl
   · exact Nat.lt_of_lt_of_le (hl _ (by simp)) hVs
   · exact Nat.lt_of_lt_of_le (hl _ (by simp)) hVs
   · exact Nat.lt_of_lt_of_le (hl _ (by simp)) hVs
   · exact Nat.lt_of_lt_of_le (hl _ (by simp)) hVs
   · exact hgl
   · exact Nat.lt_of_lt_of_le (hl _ (by simp)) hVs
   · exact Nat.lt_of_lt_of_le (hl _ (by simp)) hVs
 · refine ⟨by rw [show (V.setCell ⟨bx, 12, none⟩ (.slice (some ⟨g, 0, none⟩) (x.out.length + 1) cap)).os = V.os from rfl, hg.os]; rfl, by rw [show (V.setCell ⟨bx, 12, none⟩ (.slice (some ⟨g, 0, none⟩) (x.out.length + 1) cap)).tape = V.tape from rfl, hg.tape]; rfl, by rw [show (V.setCell ⟨bx, 12, none⟩ (.slice (some ⟨g, 0, none⟩) (x.out.length + 1) cap)).output = V.output from rfl, hg.output]; rfl, by rw [World.size_setCell]; have := hg.size; omega, fun y hy hn2 => ?_⟩
   simp only [List.mem_cons, List.not_mem_nil, or_false, not_or] at hn2
   exact hk y hy hn2.2 hn2.1
theorem Sb.app_t {W V : World} {bx rs lo : Nat} {x : Cw} {v : C7} {b : B7} {ob : Obj} {g cap : Nat} {z : Int} (h : Sb W bx rs x v b) (ho : V.ownsRow lo 3 1 (.slice (some ⟨g, 0, none⟩) (x.got.length + 1) cap) (x.got.length + 1) ((x.got.map zcs).flatten ++ [.int .i64 z])) (hg : (W.alloc ob).grownBy V (some b.t)) (hat : g = b.t ∨ (W.alloc ob).heap.size ≤ g) : Sb (V.setCell ⟨bx, 14, none⟩ (.slice (some ⟨g, 0, none⟩) (x.got.length + 1) cap)) bx rs { x with got := x.got ++ [z] } { v with t := .slice (some ⟨g, 0, none⟩) (x.got.length + 1) cap } { b with t := g } ∧ V.cell? ⟨bx, 14, none⟩ = some v.t ∧ V.frozen? ⟨bx, 14, none⟩ = false ∧ Exc [bx, b.t] W (V.setCell ⟨bx, 14, none⟩ (.slice (some ⟨g, 0, none⟩) (x.got.length + 1) cap)) := by
 have hn := h.bl_ne
 have hnd := h.nd
 have hsz : (W.alloc ob).heap.size = W.heap.size + 1 := by simp
 have hV : ∀ y, y < W.heap.size → y ≠ b.t → V.heap[y]? = W.heap[y]? := fun y hy he => by
  rw [hg.block y (by omega) (fun e => he (by simpa using e))]
  exact Below.heap_alloc W ob y hy
 have hbx := h.box.of_block (hV bx h.box.lt (Ne.symm (hn _ (by simp [B7.bl])).1))
 have hrb : rs ≠ bx := fun e => by have := h.nd; rw [List.nodup_cons] at this; exact this.1 (by rw [e]; simp)
 have hgl : g < V.heap.size := (ho.lt g rfl).2
 have hgx : ∀ y, y < W.heap.size → y ≠ b.t → g ≠ y := fun y hy he e => by
  rcases hat with e2 | e2
  · exact he (e ▸ e2)
  · omega
 have hz : ZAt (· = g) V (.slice (some ⟨g, 0, none⟩) (x.got.length + 1) cap) (x.got ++ [z]) := by
  have := zat_own (l := x.got ++ [z]) (W := V) (lo := lo) (g := g) (cap := cap) (by rw [List.length_append, List.map_append, List.flatten_append]; exact ho)
  rw [List.length_append] at this
  exact this
 have hgb : g ≠ bx := hgx bx h.box.lt (Ne.symm (hn _ (by simp [B7.bl])).1)
 have hk : ∀ y, y < W.heap.size → y ≠ b.t → y ≠ bx → (V.setCell ⟨bx, 14, none⟩ (.slice (some ⟨g, 0, none⟩) (x.got.length + 1) cap)).heap[y]? = W.heap[y]? := fun y hy h1 h2 => (Below.heap_setCell _ _ _ _ h2).trans (hV y hy h1)
 refine ⟨⟨row_put hbx 14 (by simp) _, h.res.of_block (hk rs h.res.lt (Ne.symm (hn _ (by simp [B7.bl])).2) hrb), ZAt.carry h.q (fun y e => hk y (by rw [e]; exact h.lt _ (by simp [B7.bl])) (by rw [e]; exact ndq hnd 2 7 rfl rfl (by decide)) (by rw [e]; exact (hn _ (by simp [B7.bl])).1)) (fun _ h => h), HAt.carry h.h (fun y e => hk y (by rw [e]; exact h.lt _ (by simp [B7.bl])) (by rw [e]; exact ndq hnd 3 7 rfl rfl (by decide)) (by rw [e]; exact (hn _ (by simp [B7.bl])).1)) (fun _ h => h), ZAt.carry h.r (fun y e => hk y (by rw [e]; exact h.lt _ (by simp [B7.bl])) (by rw [e]; exact ndq hnd 4 7 rfl rfl (by decide)) (by rw [e]; exact (hn _ (by simp [B7.bl])).1)) (fun _ h => h), ZAt.carry h.g (fun y e => hk y (by rw [e]; exact h.lt _ (by simp [B7.bl])) (by rw [e]; exact ndq hnd 5 7 rfl rfl (by decide)) (by rw [e]; exact (hn _ (by simp [B7.bl])).1)) (fun _ h => h), ZAt.carry h.o (fun y e => hk y (by rw [e]; exact h.lt _ (by simp [B7.bl])) (by rw [e]; exact ndq hnd 6 7 rfl rfl (by decide)) (by rw [e]; exact (hn _ (by simp [B7.bl])).1)) (fun _ h => h), ZAt.carry hz (fun y e => Below.heap_setCell _ _ _ _ (by show y ≠ bx; rw [e]; exact hgb)) (fun _ h => h), ZAt.carry h.s (fun y e => hk y (by rw [e]; exact h.lt _ (by simp [B7.bl])) (by rw [e]; exact ndq hnd 8 7 rfl rfl (by decide)) (by rw [e]; exact (hn _ (by simp [B7.bl])).1)) (fun _ h => h), ?_, fun y hy => ?_⟩, hbx.cell (i := 14) (by omega), hbx.frozen 14, ?_⟩
 · have h0 := hgx bx h.box.lt (Ne.symm (hn _ (by simp [B7.bl])).1)
   have h1 := hgx rs h.res.lt (Ne.symm (hn _ (by simp [B7.bl])).2)
   have h2 := hgx b.q (h.lt _ (by simp [B7.bl])) (ndq hnd 2 7 rfl rfl (by decide))
   have h3 := hgx b.h (h.lt _ (by simp [B7.bl])) (ndq hnd 3 7 rfl rfl (by decide))
   have h4 := hgx b.r (h.lt _ (by simp [B7.bl])) (ndq hnd 4 7 rfl rfl (by decide))
   have h5 := hgx b.g (h.lt _ (by simp [B7.bl])) (ndq hnd 5 7 rfl rfl (by decide))
   have h6 := hgx b.o (h.lt _ (by simp [B7.bl])) (ndq hnd 6 7 rfl rfl (by decide))
   have h8 := hgx b.s (h.lt _ (by simp [B7.bl])) (ndq hnd 8 7 rfl rfl (by decide))
   simp only [List.nodup_cons, List.mem_cons, List.not_mem_nil, or_false, not_or, not_false_eq_true, List.nodup_nil, and_true] at hnd ⊢
   grind
 · rw [World.size_setCell]
   have hVs : W.heap.size ≤ V.heap.size := by have := hg.size; omega
   simp only [B7.bl, List.mem_cons, List.not_mem_nil, or_false] at hy
   have hl := h.lt
   simp only [B7.bl, List.mem_cons, List.not_mem_nil, or_false] at hl
   rcases hy with rfl | rfl | rfl | rfl | rfl | rfl | rfl
   · exact Nat.lt_of_lt_of_le (hl _ (by simp)) hVs
   · exact Nat.lt_of_lt_of_le (hl _ (by simp)) hVs
   · exact Nat.lt_of_lt_of_le (hl _ (by simp)) hVs
   · exact Nat.lt_of_lt_of_le (hl _ (by simp)) hVs
   · exact Nat.lt_of_lt_of_le (hl _ (by simp)) hVs
   · exact hgl
   · exact Nat.lt_of_lt_of_le (hl _ (by simp)) hVs
 · refine ⟨by rw [show (V.setCell ⟨bx, 14, none⟩ (.slice (some ⟨g, 0, none⟩) (x.got.length + 1) cap)).os = V.os from rfl, hg.os]; rfl, by rw [show (V.setCell ⟨bx, 14, none⟩ (.slice (some ⟨g, 0, none⟩) (x.got.length + 1) cap)).tape = V.tape from rfl, hg.tape]; rfl, by rw [show (V.setCell ⟨bx, 14, none⟩ (.slice (some ⟨g, 0, none⟩) (x.got.length + 1) cap)).output = V.output from rfl, hg.output]; rfl, by rw [World.size_setCell]; have := hg.size; omega, fun y hy hn2 => ?_⟩
   simp only [List.mem_cons, List.not_mem_nil, or_false, not_or] at hn2
   exact hk y hy hn2.2 hn2.1
theorem Sb.cw {W : World} {bx rs : Nat} {x : Cw} {v : C7} {b : B7} (h : Sb W bx rs x v b) : CwAt (· ∈ b.bl) W x v :=
 ⟨ZAt.carry h.q (fun _ _ => rfl) (fun y e => by rw [show y = b.q from e]; simp [B7.bl]), HAt.carry h.h (fun _ _ => rfl) (fun y e => by rw [show y = b.h from e]; simp [B7.bl]), ZAt.carry h.r (fun _ _ => rfl) (fun y e => by rw [show y = b.r from e]; simp [B7.bl]), ZAt.carry h.g (fun _ _ => rfl) (fun y e => by rw [show y = b.g from e]; simp [B7.bl]), ZAt.carry h.o (fun _ _ => rfl) (fun y e => by rw [show y = b.o from e]; simp [B7.bl]), ZAt.carry h.t (fun _ _ => rfl) (fun y e => by rw [show y = b.t from e]; simp [B7.bl]), ZAt.carry h.s (fun _ _ => rfl) (fun y e => by rw [show y = b.s from e]; simp [B7.bl])⟩
theorem Rw7.keep {W W' : World} {lo : Nat} {c : Cw} {R : R7} (h : Rw7 W lo c R) (hb : ∀ y, y ∈ R.bl → W'.heap[y]? = W.heap[y]?) (hs : W.heap.size ≤ W'.heap.size) : Rw7 W' lo c R :=
 ⟨ownsRow_keepT h.q (fun g e => by simp only [R7.v, Value.ownBlock, Option.some.injEq] at e; subst e; exact hb _ (by simp [R7.bl])), ownsRow_keepT h.h (fun g e => by simp only [R7.v, Value.ownBlock, Option.some.injEq] at e; subst e; exact hb _ (by simp [R7.bl])), ownsRow_keepT h.r (fun g e => by simp only [R7.v, Value.ownBlock, Option.some.injEq] at e; subst e; exact hb _ (by simp [R7.bl])), ownsRow_keepT h.g (fun g e => by simp only [R7.v, Value.ownBlock, Option.some.injEq] at e; subst e; exact hb _ (by simp [R7.bl])), ownsRow_keepT h.o (fun g e => by simp only [R7.v, Value.ownBlock, Option.some.injEq] at e; subst e; exact hb _ (by simp [R7.bl])), ownsRow_keepT h.t (fun g e => by simp only [R7.v, Value.ownBlock, Option.some.injEq] at e; subst e; exact hb _ (by simp [R7.bl])), ownsRow_keepT h.s (fun g e => by simp only [R7.v, Value.ownBlock, Option.some.injEq] at e; subst e; exact hb _ (by simp [R7.bl])), h.nd, fun y hy => ⟨(h.lt y hy).1, Nat.lt_of_lt_of_le (h.lt y hy).2 hs⟩⟩
theorem Rw7.on {W W' : World} {lo : Nat} {c : Cw} {R : R7} (h : Rw7 W lo c R) (hb : Below W.heap.size W W') : Rw7 W' lo c R := h.keep (fun y hy => hb.block y (h.lt y hy).2) hb.size
theorem Rw7.sb {W : World} {lo bx rs : Nat} {x : Cw} {R : R7} (h : Rw7 W lo x R) (hb : W.rowIs bx 26 18 (r18 [.int .i64 x.jobs, .int .i64 x.workers, .int .i64 x.window, .int .i64 x.next, .int .i64 x.reader, (R.v x).q, (R.v x).h, .int .i64 x.closer, (R.v x).r, .int .i64 x.keeper, (R.v x).g, .int .i64 x.due, (R.v x).o, .int .i64 x.user, (R.v x).t, .int .i64 x.room, (R.v x).s, .int .i64 x.ops])) (hr : W.rowIs rs 26 18 (r18 [.int .i64 0, .int .i64 0, .int .i64 0, .int .i64 0, .int .i64 0, .slice none 0 0, .slice none 0 0, .int .i64 0, .slice none 0 0, .int .i64 0, .slice none 0 0, .int .i64 0, .slice none 0 0, .int .i64 0, .slice none 0 0, .int .i64 0, .slice none 0 0, .int .i64 0])) (h1 : bx ≠ rs) (h2 : ∀ y, y ∈ R.bl → y ≠ bx ∧ y ≠ rs) : Sb W bx rs x (R.v x) R.b :=
 ⟨hb, hr, zat_own h.q, hat_own h.h, zat_own h.r, zat_own h.g, zat_own h.o, zat_own h.t, zat_own h.s, by
  have hn := h.nd
  show ([bx, rs] ++ R.bl).Nodup
  rw [List.nodup_append]
  exact ⟨by simp [h1], hn, fun a ha c hc e => by
   subst e
   simp only [List.mem_cons, List.not_mem_nil, or_false] at ha
   rcases ha with e | e
   · exact (h2 a hc).1 e
   · exact (h2 a hc).2 e⟩, fun y hy => (h.lt y hy).2⟩
theorem low7 {lo : Nat} {b : B7} (h1 : lo ≤ b.q) (h2 : lo ≤ b.h) (h3 : lo ≤ b.r) (h4 : lo ≤ b.g) (h5 : lo ≤ b.o) (h6 : lo ≤ b.t) (h7 : lo ≤ b.s) : ∀ y, y ∈ b.bl → lo ≤ y := fun y hy => by
 simp only [B7.bl, List.mem_cons, List.not_mem_nil, or_false] at hy
 omega
def SpEnd (w w' : World) (e : Ending) (y : Cw) (R : R7) (lo : Nat) : Prop := ∃ (v : C7) (P : Nat → Prop), e = .returned (.agg #[.int .i64 y.jobs, .int .i64 y.workers, .int .i64 y.window, .int .i64 y.next, .int .i64 y.reader, v.q, v.h, .int .i64 y.closer, v.r, .int .i64 y.keeper, v.g, .int .i64 y.due, v.o, .int .i64 y.user, v.t, .int .i64 y.room, v.s, .int .i64 y.ops]) ∧ CwAt P w' y v ∧ (∀ b, P b → lo ≤ b ∧ b < w'.heap.size) ∧ Exc R.bl w w'
end Go.Proofs.YtibgjcejddpldaaGreat
