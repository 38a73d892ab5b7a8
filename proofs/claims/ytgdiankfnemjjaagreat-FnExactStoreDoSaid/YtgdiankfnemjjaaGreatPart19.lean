/- A disk, a write and a copy of the disk in their boxes, while DiskDo goes on. No program walked. No conditions. -/
import Derived.Test.YtgdiankfnemjjaaGreatPart13
import Derived.Test.YtgdiankfnemjjaaGreatPart18
import Derived.Test.YtgdiankfnemjjaaGreatPart07
import Derived.Test.YtgdiankfnemjjaaGreatRows
import Derived.OrdersHeld
import Derived.WalkKit
import Derived.Deep.MidRow
namespace Go.Proofs.YtgdiankfnemjjaaGreat
open Go Go.RowKit

/-- What DiskDo gives: a disk in new memory, and a code. -/
def DoEnd (w w' : World) (e : Ending) (d : Dk) (n : Int) : Prop := ∃ c' : C3, e = .returned (.tuple #[.agg #[c'.c0, c'.c1, c'.c2], .int .i64 n]) ∧ DkAt (New w w') w' d c' ∧ Below w.heap.size w w'
/-- The argument, the write and the empty result in their boxes; the argument's memory. -/
structure Dg (P : Nat → Prop) (w : World) (d : Dk) (c : C3) (k : Int) (x y : ByteArray) (W : World) : Prop where
  b0 : W.rowIs w.heap.size 37 3 (row3 c.c0 c.c1 c.c2)
  b1 : W.rowIs (w.heap.size + 1) 63 3 (row3 (.int .i64 k) (.string x) (.string y))
  b2 : W.rowIs (w.heap.size + 2) 37 3 (row3 (.slice none 0 0) (.slice none 0 0) (.slice none 0 0))
  dk : DkAt P W d c
  lt : ∀ b, P b → b < w.heap.size
  bel : Below w.heap.size w W
  sz : w.heap.size + 3 ≤ W.heap.size
theorem Dg.on {P : Nat → Prop} {w W W' : World} {d : Dk} {c : C3} {k : Int} {x y : ByteArray} (h : Dg P w d c k x y W) (hb : Below W.heap.size W W') : Dg P w d c k x y W' :=
  ⟨h.b0.of_block (hb.block _ h.b0.lt), h.b1.of_block (hb.block _ h.b1.lt), h.b2.of_block (hb.block _ h.b2.lt), h.dk.carry (fun b hp => hb.block b (Nat.lt_of_lt_of_le (h.lt b hp) h.bel.size)) (fun _ h => h), h.lt, h.bel.trans (hb.mono h.bel.size), Nat.le_trans h.sz hb.size⟩
theorem Dg.pl {P : Nat → Prop} {w W : World} {d : Dk} {c : C3} {k : Int} {x y : ByteArray} (h : Dg P w d c k x y W) : ∀ b, P b → b < W.heap.size := fun b hb => Nat.lt_of_lt_of_le (h.lt b hb) h.bel.size
theorem Dg.start {P : Nat → Prop} {w : World} {d : Dk} {c : C3} (h : DkAt P w d c) (hP : ∀ b, P b → b < w.heap.size) (k : Int) (x y : ByteArray) : Dg P w d c k x y (((w.alloc (.cells #[c.c0, c.c1, c.c2] 37)).alloc (.cells #[.int .i64 k, .string x, .string y] 63)).alloc (.cells #[.slice none 0 0, .slice none 0 0, .slice none 0 0] 37)) := by
  have hb : Below w.heap.size w (((w.alloc (.cells #[c.c0, c.c1, c.c2] 37)).alloc (.cells #[.int .i64 k, .string x, .string y] 63)).alloc (.cells #[.slice none 0 0, .slice none 0 0, .slice none 0 0] 37)) := (((Below.refl _ _).alloc (Nat.le_refl _) _).alloc (by simp) _).alloc (by simp; omega) _
  refine ⟨((row3_alloc w _ _ _ _).alloc _).alloc _, ?_, ?_, h.carry (fun b hp => hb.block b (hP b hp)) (fun _ h => h), hP, hb, by simp⟩
  · have := (row3_alloc (w.alloc (.cells #[c.c0, c.c1, c.c2] 37)) (.int .i64 k) (.string x) (.string y) 63).alloc (.cells #[.slice none 0 0, .slice none 0 0, .slice none 0 0] 37)
    rw [World.size_alloc] at this; exact this
  · have := row3_alloc ((w.alloc (.cells #[c.c0, c.c1, c.c2] 37)).alloc (.cells #[.int .i64 k, .string x, .string y] 63)) (.slice none 0 0) (.slice none 0 0) (.slice none 0 0) 37
    rw [World.size_alloc, World.size_alloc] at this; exact this
/-- Beside it the copy, in a box of its own; its lists may have turned. -/
structure Dz (P : Nat → Prop) (w : World) (d : Dk) (c : C3) (k : Int) (x y : ByteArray) (base L : Nat) (o : C3) (d' : Dk) (W : World) : Prop where
  g : Dg P w d c k x y W
  mx : MxSt base L W o.c0 o.c1 o.c2 d'.files d'.names d'.moves
  hb : w.heap.size + 3 ≤ base
  hL : w.heap.size + 3 ≤ L
theorem Dz.on {P : Nat → Prop} {w W W' : World} {d : Dk} {c : C3} {k : Int} {x y : ByteArray} {base L : Nat} {o : C3} {d' : Dk} (h : Dz P w d c k x y base L o d' W) (hb : Below W.heap.size W W') : Dz P w d c k x y base L o d' W' := ⟨h.g.on hb, h.mx.keep hb, h.hb, h.hL⟩
/-- The result's box is filled with the copy: it is given. -/
theorem Dz.fin {P : Nat → Prop} {w W : World} {d : Dk} {c : C3} {k : Int} {x y : ByteArray} {base L : Nat} {o : C3} {d' : Dk} (h : Dz P w d c k x y base L o d' W) (hf : ∀ f, f ∈ d'.files → f.okM) (hn : ∀ z, z ∈ d'.names → z.size ≤ 9223372036854775807) (hm : ∀ m, m ∈ d'.moves → m.okM) (n : Int) :
    DoEnd w (((W.setCell ⟨w.heap.size + 2, 0, none⟩ o.c0).setCell ⟨w.heap.size + 2, 1, none⟩ o.c1).setCell ⟨w.heap.size + 2, 2, none⟩ o.c2) (.returned (.tuple #[.agg #[o.c0, o.c1, o.c2], .int .i64 n])) d' n := by
  have hk : ∀ b, w.heap.size + 3 ≤ b → (((W.setCell ⟨w.heap.size + 2, 0, none⟩ o.c0).setCell ⟨w.heap.size + 2, 1, none⟩ o.c1).setCell ⟨w.heap.size + 2, 2, none⟩ o.c2).heap[b]? = W.heap[b]? := fun b hb => by
    rw [Below.heap_setCell _ _ _ _ (by simp; omega), Below.heap_setCell _ _ _ _ (by simp; omega), Below.heap_setCell _ _ _ _ (by simp; omega)]
  have hbl := ((h.g.bel.setCell (p := ⟨w.heap.size + 2, 0, none⟩) (by simp) o.c0).setCell (p := ⟨w.heap.size + 2, 1, none⟩) (by simp) o.c1).setCell (p := ⟨w.heap.size + 2, 2, none⟩) (by simp) o.c2
  obtain ⟨F0, t1, t2, t3, -⟩ := FlatOwn.of_row (rs := d'.files.map Df.cs) (n := 3) (by rw [List.length_map]; exact h.mx.o0) (fun r hr => by obtain ⟨f, -, rfl⟩ := List.mem_map.1 hr; rfl)
  obtain ⟨F2, r1, r2, r3, -⟩ := FlatOwn.of_row (rs := d'.moves.map Dm.cs) (n := 2) (by rw [List.length_map]; exact h.mx.o2) (fun r hr => by obtain ⟨f, -, rfl⟩ := List.mem_map.1 hr; rfl)
  have hb3 := h.hb
  have hs : ∀ b, b < W.heap.size → b < (((W.setCell ⟨w.heap.size + 2, 0, none⟩ o.c0).setCell ⟨w.heap.size + 2, 1, none⟩ o.c1).setCell ⟨w.heap.size + 2, 2, none⟩ o.c2).heap.size := fun b hb => by simpa using hb
  refine ⟨o, rfl, ⟨⟨t1.at.carry (fun b hb => hk b (by have := (t3 b hb).1; omega)) (fun b hb => ⟨by have := (t3 b hb).1; omega, hs b (t3 b hb).2⟩), hf⟩, (strsAt_own h.mx.o1 hn).carry (fun b hb => hk b (by have := hb.1; omega)) (fun b hb => ⟨by have := hb.1; omega, hs b hb.2⟩), ⟨r1.at.carry (fun b hb => hk b (by have := (r3 b hb).1; omega)) (fun b hb => ⟨by have := (r3 b hb).1; omega, hs b (r3 b hb).2⟩), hm⟩⟩, hbl⟩
/-- Nothing of the first three boxes, nor of what stood, has turned. -/
theorem Dg.of {P : Nat → Prop} {w W W' : World} {d : Dk} {c : C3} {k : Int} {x y : ByteArray} (h : Dg P w d c k x y W) (hk : ∀ b, b < w.heap.size + 3 → W'.heap[b]? = W.heap[b]?) (hs : W.heap.size ≤ W'.heap.size) (h1 : W'.os = W.os) (h2 : W'.tape = W.tape) (h3 : W'.output = W.output) : Dg P w d c k x y W' :=
  ⟨h.b0.of_block (hk _ (by omega)), h.b1.of_block (hk _ (by omega)), h.b2.of_block (hk _ (by omega)), h.dk.carry (fun b hp => hk b (by have := h.lt b hp; omega)) (fun _ h => h), h.lt, ⟨h1.trans h.bel.os, h2.trans h.bel.tape, h3.trans h.bel.output, Nat.le_trans h.bel.size hs, fun b hb => (hk b (by omega)).trans (h.bel.block b hb)⟩, Nat.le_trans h.sz hs⟩
theorem MxSt.addF {base L : Nat} {W W' : World} {x0 x1 x2 v : Value} {fs : List Df} {ns : List ByteArray} {ms : List Dm} (h : MxSt base L W x0 x1 x2 fs ns ms) (f : Df) (ho : W'.ownsRow base 84 3 v (fs.length + 1) ((fs.map Df.cs).flatten ++ f.cs)) (hg : W.grownBy W' x0.ownBlock) : MxSt base L (W'.setCell ⟨L, 0, none⟩ v) v x1 x2 (fs ++ [f]) ns ms := by
  have hL : W'.rowIs L 37 3 (row3 x0 x1 x2) := h.row.of_block (hg.block L h.row.lt (fun e => own_apart h.o0 h.row (by decide) e.symm))
  have h1 := ownsRow_keep h.o1 (fun g e => hg.block g (h.o1.lt g e).2 (fun e2 => own_ne h.o0 h.o1 (by decide) g e2.symm e))
  have h2 := ownsRow_keep h.o2 (fun g e => hg.block g (h.o2.lt g e).2 (fun e2 => own_ne h.o0 h.o2 (by decide) g e2.symm e))
  refine ⟨(crow_set hL v).1, ?_, ownsRow_setCell_other h1 (own_apart h1 hL (by decide)) _, ownsRow_setCell_other h2 (own_apart h2 hL (by decide)) _⟩
  refine ownsRow_setCell_other ?_ (own_apart ho hL (by decide)) _
  rw [List.length_append, List.map_append, List.flatten_append]
  simpa using ho
theorem MxSt.addM {base L : Nat} {W W' : World} {x0 x1 x2 v : Value} {fs : List Df} {ns : List ByteArray} {ms : List Dm} (h : MxSt base L W x0 x1 x2 fs ns ms) (f : Dm) (ho : W'.ownsRow base 88 2 v (ms.length + 1) ((ms.map Dm.cs).flatten ++ f.cs)) (hg : W.grownBy W' x2.ownBlock) : MxSt base L (W'.setCell ⟨L, 2, none⟩ v) x0 x1 v fs ns (ms ++ [f]) := by
  have hL : W'.rowIs L 37 3 (row3 x0 x1 x2) := h.row.of_block (hg.block L h.row.lt (fun e => own_apart h.o2 h.row (by decide) e.symm))
  have h1 := ownsRow_keep h.o1 (fun g e => hg.block g (h.o1.lt g e).2 (fun e2 => own_ne h.o2 h.o1 (by decide) g e2.symm e))
  have h0 := ownsRow_keep h.o0 (fun g e => hg.block g (h.o0.lt g e).2 (fun e2 => own_ne h.o2 h.o0 (by decide) g e2.symm e))
  refine ⟨crow_set2 hL v, ownsRow_setCell_other h0 (own_apart h0 hL (by decide)) _, ownsRow_setCell_other h1 (own_apart h1 hL (by decide)) _, ?_⟩
  refine ownsRow_setCell_other ?_ (own_apart ho hL (by decide)) _
  rw [List.length_append, List.map_append, List.flatten_append]
  simpa using ho
/-- One cell of one file of the copy turns. -/
theorem MxSt.setF {base L g cap : Nat} {W : World} {x1 x2 : Value} {fs : List Df} {ns : List ByteArray} {ms : List Dm} (h : MxSt base L W (.slice (some ⟨g, 0, none⟩) fs.length cap) x1 x2 fs ns ms) (i j : Nat) (u : Value) (f : Df) (hi : i < fs.length) (hj : j < 3) (hf : f.cs = fs[i].cs.set j u) : MxSt base L (W.setCell ⟨g, i * 3 + j, none⟩ u) (.slice (some ⟨g, 0, none⟩) fs.length cap) x1 x2 (fs.set i f) ns ms := by
  have hR : MxR base L W (.slice (some ⟨g, 0, none⟩) fs.length cap) x1 x2 fs.length (fs.map Df.cs).flatten ns ms := ⟨h.row, h.o0, h.o1, h.o2⟩
  have h2 := hR.put (i * 3 + j) u
  have e : ((fs.set i f).map Df.cs).flatten = ((fs.map Df.cs).flatten).set (i * 3 + j) u := by
    clear h hR h2
    induction fs generalizing i with
    | nil => simp at hi
    | cons a fs ih =>
      cases i with
      | zero =>
        simp only [List.getElem_cons_zero] at hf
        simp only [List.set_cons_zero, List.map_cons, List.flatten_cons, hf, Nat.zero_mul, Nat.zero_add]
        rw [List.set_append_left _ _ (by simp [Df.cs]; omega)]
      | succ i =>
        simp only [List.set_cons_succ, List.map_cons, List.flatten_cons]
        rw [ih i (by simpa using hi) (by simpa using hf), List.set_append_right _ _ (by simp [Df.cs]; omega)]
        congr 2
        simp [Df.cs]
        omega
  exact ⟨h2.row, by rw [List.length_set, e]; exact h2.o0, h2.o1, h2.o2⟩
theorem Dz.grow {P : Nat → Prop} {w W W' : World} {d : Dk} {c : C3} {k : Int} {x y : ByteArray} {base L : Nat} {o o' : C3} {d' d2 : Dk} {row : Option Nat} (h : Dz P w d c k x y base L o d' W) (hg : W.grownBy W' row) (hr : ∀ g, row = some g → base ≤ g) (j : Nat) (v : Value) (hm : MxSt base L (W'.setCell ⟨L, j, none⟩ v) o'.c0 o'.c1 o'.c2 d2.files d2.names d2.moves) : Dz P w d c k x y base L o' d2 (W'.setCell ⟨L, j, none⟩ v) := by
  have h1 := h.hb; have h2 := h.hL; have h3 := h.g.sz
  refine ⟨h.g.of (fun b hb => ?_) (by rw [World.size_setCell]; exact hg.size) hg.os hg.tape hg.output, hm, h.hb, h.hL⟩
  rw [Below.heap_setCell _ _ _ _ (by simp; omega)]
  exact hg.block b (by omega) (fun e => by have := hr b e.symm; omega)
theorem Dz.put {P : Nat → Prop} {w W : World} {d : Dk} {c : C3} {k : Int} {x y : ByteArray} {base L : Nat} {o : C3} {d' d2 : Dk} {g j : Nat} {v : Value} (h : Dz P w d c k x y base L o d' W) (hg : base ≤ g) (hm : MxSt base L (W.setCell ⟨g, j, none⟩ v) o.c0 o.c1 o.c2 d2.files d2.names d2.moves) : Dz P w d c k x y base L o d2 (W.setCell ⟨g, j, none⟩ v) := by
  have h1 := h.hb
  exact ⟨h.g.of (fun b hb => Below.heap_setCell _ _ _ _ (by simp; omega)) (by rw [World.size_setCell]; exact Nat.le_refl _) rfl rfl rfl, hm, h.hb, h.hL⟩
theorem grown_alloc {W W' : World} {ob : Obj} {row : Option Nat} (h : (W.alloc ob).grownBy W' row) : W.grownBy W' row :=
  ⟨h.os, h.tape, h.output, by have := h.size; rw [World.size_alloc] at this; omega, fun b hb hr => (h.block b (by rw [World.size_alloc]; omega) hr).trans (heap_alloc_old W ob hb)⟩
theorem Dz.appF {P : Nat → Prop} {w W W' : World} {d : Dk} {c : C3} {k : Int} {x y : ByteArray} {base L : Nat} {o : C3} {d' : Dk} {v : Value} {ob : Obj} (h : Dz P w d c k x y base L o d' W) (f : Df) (ho : W'.ownsRow base 84 3 v (d'.files.length + 1) ((d'.files.map Df.cs).flatten ++ f.cs)) (hg : (W.alloc ob).grownBy W' o.c0.ownBlock) :
    W'.rowIs L 37 3 (row3 o.c0 o.c1 o.c2) ∧ Dz P w d c k x y base L ⟨v, o.c1, o.c2⟩ ⟨d'.files ++ [f], d'.names, d'.moves⟩ (W'.setCell ⟨L, 0, none⟩ v) :=
  ⟨h.mx.row.of_block ((grown_alloc hg).block L h.mx.row.lt (fun e => own_apart h.mx.o0 h.mx.row (by decide) e.symm)), h.grow (grown_alloc hg) (fun g e => (h.mx.o0.lt g e).1) 0 v (h.mx.addF f ho (grown_alloc hg))⟩
theorem Dz.appM {P : Nat → Prop} {w W W' : World} {d : Dk} {c : C3} {k : Int} {x y : ByteArray} {base L : Nat} {o : C3} {d' : Dk} {v : Value} {ob : Obj} (h : Dz P w d c k x y base L o d' W) (f : Dm) (ho : W'.ownsRow base 88 2 v (d'.moves.length + 1) ((d'.moves.map Dm.cs).flatten ++ f.cs)) (hg : (W.alloc ob).grownBy W' o.c2.ownBlock) :
    W'.rowIs L 37 3 (row3 o.c0 o.c1 o.c2) ∧ Dz P w d c k x y base L ⟨o.c0, o.c1, v⟩ ⟨d'.files, d'.names, d'.moves ++ [f]⟩ (W'.setCell ⟨L, 2, none⟩ v) :=
  ⟨h.mx.row.of_block ((grown_alloc hg).block L h.mx.row.lt (fun e => own_apart h.mx.o2 h.mx.row (by decide) e.symm)), h.grow (grown_alloc hg) (fun g e => (h.mx.o2.lt g e).1) 2 v (h.mx.addM f ho (grown_alloc hg))⟩
theorem okSet {fs : List Df} {f : Df} {i : Nat} (h : ∀ f, f ∈ fs → f.okM) (hf : f.okM) : ∀ g, g ∈ fs.set i f → g.okM := fun g hg => (List.mem_or_eq_of_mem_set hg).elim (h g) fun e => e ▸ hf
theorem okF {fs : List Df} {f : Df} (h : ∀ f, f ∈ fs → f.okM) (hf : f.okM) : ∀ g, g ∈ fs ++ [f] → g.okM := fun g hg => (List.mem_append.1 hg).elim (h g) fun e => List.mem_singleton.1 e ▸ hf
theorem okM {fs : List Dm} {f : Dm} (h : ∀ f, f ∈ fs → f.okM) (hf : f.okM) : ∀ g, g ∈ fs ++ [f] → g.okM := fun g hg => (List.mem_append.1 hg).elim (h g) fun e => List.mem_singleton.1 e ▸ hf
theorem cell_2 (w : World) (x y : Value) (t : TypeId) : ∀ j u, [x, y][j]? = some u → (w.alloc (.cells #[x, y] t)).cell? ((⟨w.heap.size, 0, none⟩ : Addr).add j) = some u := by
  intro j u hj
  match j with
  | 0 => simp only [List.getElem?_cons_zero, Option.some.injEq] at hj; subst hj; rw [Addr.add_lit]; simp [go_sem]
  | 1 => simp only [List.getElem?_cons_succ, List.getElem?_cons_zero, Option.some.injEq] at hj; subst hj; rw [Addr.add_lit]; simp [go_sem]
  | j + 2 => simp at hj
end Go.Proofs.YtgdiankfnemjjaaGreat

/- Great regions that draw their order, operation by operation, each side condition by one look of the kernel's: no program. No conditions. -/

namespace Go.Proofs.YtgdiankfnemjjaaGreat
open Go Go.RowKit

/-- The operations of a region of a code. -/
def rops (k : Nat) : Code → Option (Array Oper)
  | .region i ops _ => if i == k then some ops else none
  | .seq a b => match rops k a with | some o => some o | none => rops k b
  | .cond _ a b => match rops k a with | some o => some o | none => rops k b
  | .block _ b => rops k b
  | .loop b => rops k b
  | .scope b => rops k b
  | .rangeFunc _ _ a b => match rops k a with | some o => some o | none => rops k b
  | _ => none
/-- The operations of a region of a function. -/
def fops (f : Func) (k : Nat) : Array Oper := match f.body with | some c => (rops k c).getD #[] | none => #[]
theorem wp_swap {P : Program} {c c' : Code} {Q : Exit → Act → World → Prop} {a : Act} {w : World} (h : c = c') (hw : c'.wp P Q a w) : c.wp P Q a w := h ▸ hw

section
variable {P : Program} {ops : Array Oper} {Q : Exit → Act → World → Prop} {S : World → Prop}
def opI (ops : Array Oper) (i : Nat) : Oper := (ops[i]?).getD default
theorem opI_get {i : Nat} (h : i < ops.size) : ops[i]? = some (opI ops i) := by
  unfold opI
  rw [Array.getElem?_eq_getElem h]
  rfl
/-- Each operation looks only at what those yield for which it waits, and no two yield into one slot. -/
def neat (ops : Array Oper) : Bool :=
  (ops.toList.all fun o => (o.looksAt ops).all fun d => ((ops.toList.map (·.dst)).zipIdx).all fun p => p.1 != some d || o.after.any fun e => Region.binds .any e && e.on == p.2) &&
  (((ops.toList.map (·.dst)).zipIdx).all fun p => p.1.isNone || ((ops.toList.map (·.dst)).zipIdx).all fun q => p.2 == q.2 || p.1 != q.1)
theorem mem_zip {i : Nat} {o : Oper} (h : ops[i]? = some o) : (o.dst, i) ∈ (ops.toList.map (·.dst)).zipIdx := by
  rw [List.mem_zipIdx_iff_getElem?]
  simp [h]
theorem neat_looks (hn : neat ops = true) {i j : Nat} {oi oj : Oper} (hi : ops[i]? = some oi) (hj : ops[j]? = some oj) {d : Tmp} (hd : oi.dst = some d) (hl : d ∈ oj.looksAt ops) : ∃ e ∈ oj.after, Region.binds .any e = true ∧ e.on = i := by
  unfold neat at hn
  simp only [Bool.and_eq_true, List.all_eq_true] at hn
  have h1 := hn.1 oj (by simpa using Array.mem_of_getElem? hj) d hl _ (mem_zip hi)
  simp only [hd, bne_self_eq_false, Bool.false_or, Array.any_eq_true', Bool.and_eq_true, beq_iff_eq] at h1
  obtain ⟨e, he, h2, h3⟩ := h1
  exact ⟨e, he, h2, h3⟩
theorem neat_dst (hn : neat ops = true) {i j : Nat} {oi oj : Oper} (hi : ops[i]? = some oi) (hj : ops[j]? = some oj) (hne : j ≠ i) {d : Tmp} (hd : oi.dst = some d) : oj.dst ≠ some d := by
  unfold neat at hn
  simp only [Bool.and_eq_true, List.all_eq_true] at hn
  have h1 := hn.2 _ (mem_zip hi)
  simp only [hd, Option.isNone_some, Bool.false_or, List.all_eq_true] at h1
  have h2 := h1 _ (mem_zip hj)
  intro e
  simp [e] at h2
  exact hne h2.symm
theorem neat_apart (hn : neat ops = true) {listed : Array Bool} {i : Nat} {oi : Oper} (hi : ops[i]? = some oi) (hr : ∀ e ∈ oi.after, Region.binds .any e = true → listed.getD e.on false = true) (j : Nat) (oj : Oper) (hj : ops[j]? = some oj) (hne : j ≠ i) (hun : listed.getD j true = false) (hno : ∀ e ∈ oj.after, Region.binds .any e = true → e.on ≠ i) : oi.apart ops oj = true := by
  unfold Oper.apart
  rw [Bool.and_eq_true]
  constructor
  · cases hd : oi.dst with
    | none => rfl
    | some d =>
      have h1 : d ∉ oj.looksAt ops := fun hl => by
        obtain ⟨e, he, hb, ho⟩ := neat_looks hn hi hj hd hl
        exact hno e he hb ho
      have h2 := neat_dst hn hi hj hne hd
      simp [h1, h2]
  · cases hd : oj.dst with
    | none => rfl
    | some d =>
      have h1 : d ∉ oi.looksAt ops := fun hl => by
        obtain ⟨e, he, hb, ho⟩ := neat_looks hn hj hi hd hl
        have h2 := hr e he hb
        rw [ho] at h2
        rw [Array.getD_eq_getD_getElem?] at hun h2
        cases hx : listed[j]? with
        | none => rw [hx] at h2; simp at h2
        | some b => rw [hx] at h2 hun; simp at h2 hun; rw [h2] at hun; cases hun
      simp [h1]
/-- Number i may come up now, and yields into slot d. -/
def tkB (ops : Array Oper) (listed : Array Bool) (i : Nat) (d : Option Tmp) : Bool :=
  match ops[i]? with
  | none => false
  | some o => decide (o.dst = d) && o.guard.isNone && !listed.getD i true && o.after.all (fun e => !Region.binds .any e || listed.getD e.on false)
theorem wanted_none {o : Oper} (f : Nat → Option Bool) (h : o.guard.isNone = true) : Region.wanted o f = true := by
  have : o.guard = none := by simpa using h
  simp [Region.wanted, this]
theorem take_any {fuel : Nat} {listed : Array Bool} {a : Act} {w : World} (i : Nat) (d : Option Tmp) (v : Value) (hs : Region.noSelect ops = true ∧ neat ops = true) (hQ : ∀ c a d v w, Q (.panic c) (Act.put a d v) w → Q (.panic c) a w) (hb : tkB ops listed i d = true)
    (hy : ∀ w, S w → (execOp a.eval (opI ops i)).run P w = .ok (.value v) w) (hS : S w) (h : wpAnyH P .any ops Q S fuel (listed.setIfInBounds i true) (a.put d v) w) : wpAnyH P .any ops Q S (fuel + 1) listed a w := by
  unfold tkB at hb
  cases hi : ops[i]? with
  | none => rw [hi] at hb; cases hb
  | some o =>
    rw [hi] at hb
    simp only [Bool.and_eq_true, decide_eq_true_eq] at hb
    obtain ⟨⟨⟨h2, h3⟩, h4⟩, h5⟩ := hb
    subst h2
    have ho : opI ops i = o := by unfold opI; rw [hi]; rfl
    rw [ho] at hy
    have h6 : ∀ e ∈ o.after, Region.binds .any e = true → listed.getD e.on false = true := fun e he hb => by
      have := Array.all_eq_true_iff_forall_mem.1 h5 e he
      simpa [hb] using this
    have hlt : i < ops.size := (Array.getElem?_eq_some_iff.1 hi).1
    refine wpAnyH_first hi (Region.noSelect_spec hs.1) (fun c a w => hQ c a _ _ w) fuel listed a w (fun j oj hj hne hun hno => neat_apart hs.2 hi h6 j oj hj hne hun hno) ?_ (Or.inl ⟨wanted_none _ h3, hy⟩) hS h
    unfold Region.ready
    rw [List.mem_filter]
    refine ⟨List.mem_range.2 hlt, ?_⟩
    rw [hi, h4]
    simpa using h5
/-- Number i may come up now, guarded or not, and yields into slot d. -/
def tkG (ops : Array Oper) (listed : Array Bool) (i : Nat) (d : Option Tmp) : Bool :=
  match ops[i]? with
  | none => false
  | some o => decide (o.dst = d) && !listed.getD i true && o.after.all (fun e => !Region.binds .any e || listed.getD e.on false)
theorem take_yld {fuel : Nat} {listed : Array Bool} {a : Act} {w : World} (i : Nat) (d : Option Tmp) (v : Value) (hs : Region.noSelect ops = true ∧ neat ops = true) (hQ : ∀ c a d v w, Q (.panic c) (Act.put a d v) w → Q (.panic c) a w) (hb : tkG ops listed i d = true)
    (hy : YieldsIf P ops S (opI ops i) v a) (hS : S w) (h : wpAnyH P .any ops Q S fuel (listed.setIfInBounds i true) (a.put d v) w) : wpAnyH P .any ops Q S (fuel + 1) listed a w := by
  unfold tkG at hb
  cases hi : ops[i]? with
  | none => rw [hi] at hb; cases hb
  | some o =>
    rw [hi] at hb
    simp only [Bool.and_eq_true, decide_eq_true_eq] at hb
    obtain ⟨⟨h2, h4⟩, h5⟩ := hb
    subst h2
    have ho : opI ops i = o := by unfold opI; rw [hi]; rfl
    rw [ho] at hy
    have h6 : ∀ e ∈ o.after, Region.binds .any e = true → listed.getD e.on false = true := fun e he hb => by
      have := Array.all_eq_true_iff_forall_mem.1 h5 e he
      simpa [hb] using this
    have hlt : i < ops.size := (Array.getElem?_eq_some_iff.1 hi).1
    refine wpAnyH_first hi (Region.noSelect_spec hs.1) (fun c a w => hQ c a _ _ w) fuel listed a w (fun j oj hj hne hun hno => neat_apart hs.2 hi h6 j oj hj hne hun hno) ?_ hy hS h
    unfold Region.ready
    rw [List.mem_filter]
    refine ⟨List.mem_range.2 hlt, ?_⟩
    rw [hi, h4]
    simpa using h5
theorem take_skip {fuel : Nat} {listed : Array Bool} {a : Act} {w : World} (i : Nat) (d : Option Tmp) (hs : Region.noSelect ops = true ∧ neat ops = true) (hQ : ∀ c a d v w, Q (.panic c) (Act.put a d v) w → Q (.panic c) a w) (hb : tkG ops listed i d = true)
    (hw : Region.wanted (opI ops i) (yielded ops a.tmps) = false) (hS : S w) (h : wpAnyH P .any ops Q S fuel (listed.setIfInBounds i true) (a.put d undef) w) : wpAnyH P .any ops Q S (fuel + 1) listed a w :=
  take_yld i d undef hs hQ hb (Or.inr ⟨hw, rfl⟩) hS h
theorem take_anyG {fuel : Nat} {listed : Array Bool} {a : Act} {w : World} (i : Nat) (d : Option Tmp) (v : Value) (hs : Region.noSelect ops = true ∧ neat ops = true) (hQ : ∀ c a d v w, Q (.panic c) (Act.put a d v) w → Q (.panic c) a w) (hb : tkG ops listed i d = true)
    (hw : Region.wanted (opI ops i) (yielded ops a.tmps) = true) (hy : ∀ w, S w → (execOp a.eval (opI ops i)).run P w = .ok (.value v) w) (hS : S w) (h : wpAnyH P .any ops Q S fuel (listed.setIfInBounds i true) (a.put d v) w) : wpAnyH P .any ops Q S (fuel + 1) listed a w :=
  take_yld i d v hs hQ hb (Or.inl ⟨hw, hy⟩) hS h
theorem take_loadG {fuel : Nat} {listed : Array Bool} {a : Act} {w : World} (i : Nat) (d : Option Tmp) (T : TypeId) (x : Operand) (ad : Addr) (v : Value) (hs : Region.noSelect ops = true ∧ neat ops = true) (hQ : ∀ c a d v w, Q (.panic c) (Act.put a d v) w → Q (.panic c) a w) (hb : tkG ops listed i d = true)
    (hw : Region.wanted (opI ops i) (yielded ops a.tmps) = true) (ho : (opI ops i).op = .load T x) (hx : a.eval x = .pointer (some ad)) (hl : ∀ w, S w → (Instr.loadAt T (.pointer (some ad))).run P w = .ok v w) (hS : S w) (h : wpAnyH P .any ops Q S fuel (listed.setIfInBounds i true) (a.put d v) w) : wpAnyH P .any ops Q S (fuel + 1) listed a w := by
  refine take_anyG i d v hs hQ hb hw (fun w hw => ?_) hS h
  unfold execOp
  simp only [ho, hx, Sem.run_bind, Sem.run_pure, Result.andThen_ok, hl w hw]
theorem take_load {fuel : Nat} {listed : Array Bool} {a : Act} {w : World} (i : Nat) (d : Option Tmp) (T : TypeId) (x : Operand) (ad : Addr) (v : Value) (hs : Region.noSelect ops = true ∧ neat ops = true) (hQ : ∀ c a d v w, Q (.panic c) (Act.put a d v) w → Q (.panic c) a w) (hb : tkB ops listed i d = true)
    (ho : (opI ops i).op = .load T x) (hx : a.eval x = .pointer (some ad)) (hl : ∀ w, S w → (Instr.loadAt T (.pointer (some ad))).run P w = .ok v w) (hS : S w) (h : wpAnyH P .any ops Q S fuel (listed.setIfInBounds i true) (a.put d v) w) : wpAnyH P .any ops Q S (fuel + 1) listed a w := by
  refine take_any i d v hs hQ hb (fun w hw => ?_) hS h
  unfold execOp
  simp only [ho, hx, Sem.run_bind, Sem.run_pure, Result.andThen_ok, hl w hw]
theorem any_eq {fuel : Nat} {l l' : Array Bool} {a a' : Act} {w : World} (hl : l = l') (ha : a = a') (h : wpAnyH P .any ops Q S fuel l' a' w) : wpAnyH P .any ops Q S fuel l a w := by rw [hl, ha]; exact h
theorem ready_one {fuel : Nat} {listed : Array Bool} {a : Act} {w : World} (i : Nat) (hr : Region.ready .any ops listed = [i]) (h : wpOp P ops Q i (fun a' w' => S w' ∧ wpAnyH P .any ops Q S fuel (listed.setIfInBounds i true) a' w') a w) : wpAnyH P .any ops Q S (fuel + 1) listed a w :=
  wpAnyH_all hr (by simp) (fun j hj => by simp only [List.mem_singleton] at hj; subst hj; exact h)
theorem ready_two {fuel : Nat} {listed : Array Bool} {a : Act} {w : World} (i k : Nat) (hr : Region.ready .any ops listed = [i, k]) (h : wpOp P ops Q i (fun a' w' => S w' ∧ wpAnyH P .any ops Q S fuel (listed.setIfInBounds i true) a' w') a w)
    (h2 : wpOp P ops Q k (fun a' w' => S w' ∧ wpAnyH P .any ops Q S fuel (listed.setIfInBounds k true) a' w') a w) : wpAnyH P .any ops Q S (fuel + 1) listed a w :=
  wpAnyH_all hr (by simp) (fun j hj => by
    simp only [List.mem_cons, List.not_mem_nil, or_false] at hj
    rcases hj with rfl | rfl
    · exact h
    · exact h2)
/-- Number i is there, unguarded, and yields into slot d. -/
def opB (ops : Array Oper) (i : Nat) (d : Option Tmp) : Bool := decide (i < ops.size) && decide ((opI ops i).dst = d) && (opI ops i).guard.isNone
theorem op_val {i : Nat} {K : Act → World → Prop} {a : Act} {w w' : World} (d : Option Tmp) (v : Value) (hb : opB ops i d = true) (hr : (execOp a.eval (opI ops i)).run P w = .ok (.value v) w') (h : K (a.put d v) w') : wpOp P ops Q i K a w := by
  unfold opB at hb
  simp only [Bool.and_eq_true, decide_eq_true_eq] at hb
  obtain ⟨⟨h1, h2⟩, h3⟩ := hb
  subst h2
  unfold wpOp
  rw [opI_get h1]
  simp only [wanted_none _ h3, if_true]
  exact Or.inl (by unfold Oper.wp; rw [hr]; exact h)
theorem op_skip {i : Nat} {K : Act → World → Prop} {a : Act} {w w' : World} (d : Option Tmp) (hb : opB ops i d = true) (hr : (execOp a.eval (opI ops i)).run P w = .ok .skip w') (h : K (a.put d undef) w') : wpOp P ops Q i K a w := by
  unfold opB at hb
  simp only [Bool.and_eq_true, decide_eq_true_eq] at hb
  obtain ⟨⟨h1, h2⟩, h3⟩ := hb
  subst h2
  unfold wpOp
  rw [opI_get h1]
  simp only [wanted_none _ h3, if_true]
  exact Or.inl (by unfold Oper.wp; rw [hr]; exact h)
theorem op_enter {i : Nat} {K : Act → World → Prop} {a : Act} {w : World} (d : Option Tmp) (f : FuncId) (args : Array Value) {R : Ending → World → Prop} (hb : opB ops i d = true) (hr : (execOp a.eval (opI ops i)).run P w = .ok (.enter f args) w) (hc : Calls P f args w R) (h : ∀ e w', R e w' → ∃ u, e = .returned u ∧ K (a.put d u) w') : wpOp P ops Q i K a w := by
  unfold opB at hb
  simp only [Bool.and_eq_true, decide_eq_true_eq] at hb
  obtain ⟨⟨h1, h2⟩, h3⟩ := hb
  subst h2
  unfold wpOp
  rw [opI_get h1]
  simp only [wanted_none _ h3, if_true]
  refine Or.inl ?_
  unfold Oper.wp
  rw [hr]
  refine Calls.mono hc fun e w' he => ?_
  obtain ⟨u, rfl, hK⟩ := h e w' he
  exact hK
/-- The same, guarded or not. -/
def opG (ops : Array Oper) (i : Nat) (d : Option Tmp) : Bool := decide (i < ops.size) && decide ((opI ops i).dst = d)
theorem op_enterG {i : Nat} {K : Act → World → Prop} {a : Act} {w : World} (d : Option Tmp) (f : FuncId) (args : Array Value) {R : Ending → World → Prop} (hb : opG ops i d = true) (hw : Region.wanted (opI ops i) (yielded ops a.tmps) = true) (hr : (execOp a.eval (opI ops i)).run P w = .ok (.enter f args) w) (hc : Calls P f args w R) (h : ∀ e w', R e w' → ∃ u, e = .returned u ∧ K (a.put d u) w') : wpOp P ops Q i K a w := by
  unfold opG at hb
  simp only [Bool.and_eq_true, decide_eq_true_eq] at hb
  obtain ⟨h1, h2⟩ := hb
  subst h2
  unfold wpOp
  rw [opI_get h1]
  simp only [hw, if_true]
  refine Or.inl ?_
  unfold Oper.wp
  rw [hr]
  refine Calls.mono hc fun e w' he => ?_
  obtain ⟨u, rfl, hK⟩ := h e w' he
  exact hK
/-- A store of a struct of many cells. -/
theorem op_store_mid {i : Nat} {K : Act → World → Prop} {a : Act} {w : World} (d : Option Tmp) (ty : TypeId) (x y : Operand) (b o : Nat) (cells : Array Value) (hb : opB ops i d = true) (ho : (opI ops i).op = .store ty x y) (hx : a.eval x = .pointer (some ⟨b, o, none⟩)) (hy : a.eval y = .agg cells)
    (ht : w.there b o cells.size) (hi : (P.info? ty).map (·.size) = some cells.size) (h1 : cells.all (·.oneCell') = true) (h : K (a.put d undef) (w.setCells b o cells.toList)) : wpOp P ops Q i K a w := by
  refine op_skip d hb ?_ h
  unfold execOp
  simp only [ho, hx, hy, Instr.storeAt, Instr.sureAddr, Sem.run_bind, Sem.run_pure, Result.andThen_ok, run_storeVar_mid w b o ty cells ht hi h1]
/-- A store of one cell. -/
theorem op_store {i : Nat} {K : Act → World → Prop} {a : Act} {w : World} (d : Option Tmp) (ty : TypeId) (x y : Operand) (ad : Addr) (v : Value) (w' : World) (hb : opB ops i d = true) (ho : (opI ops i).op = .store ty x y) (hx : a.eval x = .pointer (some ad)) (hy : a.eval y = v)
    (hr : (Instr.storeAt ty (.pointer (some ad)) v).run P w = .ok () w') (h : K (a.put d undef) w') : wpOp P ops Q i K a w := by
  refine op_skip d hb ?_ h
  unfold execOp
  simp only [ho, hx, hy, Sem.run_bind, Sem.run_pure, Result.andThen_ok, hr]
end
end Go.Proofs.YtgdiankfnemjjaaGreat

/- An operation of a region that draws its order, by a law that was made for plain regions: no program. No conditions. -/

namespace Go.Proofs.YtgdiankfnemjjaaGreat
open Go Go.RowKit

section
variable {P : Program} {ops : Array Oper} {Q : Exit → Act → World → Prop}
/-- What follows normally is K, all else is Q. -/
def Nrm (K : Act → World → Prop) (Q : Exit → Act → World → Prop) : Exit → Act → World → Prop
  | .normal, a, w => K a w
  | e, a, w => Q e a w
theorem wp_nrm {o : Oper} {a : Act} {w : World} {K : Act → World → Prop} (h : o.wp P a w K (Nrm K Q)) : o.wp P a w K Q := by
  unfold Oper.wp at *
  generalize (execOp a.eval o).run P w = r at *
  cases r with
  | ok n w' =>
    cases n with
    | enter f args =>
      refine Calls.mono h fun e w'' he => ?_
      cases e <;> exact he
    | _ => exact h
  | halt x w' => cases x <;> exact h
/-- An operation by a law on lists of operations. -/
theorem op_list {i : Nat} {K : Act → World → Prop} {a : Act} {w : World} (d : Option Tmp) (hb : opB ops i d = true) (h : wpList P ops (Nrm K Q) [opI ops i] a w) : wpOp P ops Q i K a w := by
  unfold opB at hb
  simp only [Bool.and_eq_true, decide_eq_true_eq] at hb
  obtain ⟨⟨h1, h2⟩, h3⟩ := hb
  unfold wpOp
  rw [opI_get h1]
  unfold wpList at h
  simp only [wanted_none _ h3, if_true] at h ⊢
  rcases h with h | h
  · exact Or.inl (wp_nrm h)
  · exact Or.inr ⟨h.1, h.2⟩
end
end Go.Proofs.YtgdiankfnemjjaaGreat

/- Great plain regions, operation by operation, each side condition by one look of the kernel's: no program. No conditions. -/

namespace Go.Proofs.YtgdiankfnemjjaaGreat
open Go Go.RowKit

section
variable {P : Program} {ops : Array Oper} {Q : Exit → Act → World → Prop}
/-- From operation k on. -/
structure wpFrom (P : Program) (ops : Array Oper) (Q : Exit → Act → World → Prop) (k : Nat) (a : Act) (w : World) : Prop where
  out : wpList P ops Q (ops.toList.drop k) a w
theorem wp_region_from {id : Nat} {a : Act} {w : World} (h : wpFrom P ops Q 0 a w) : (Code.region id ops false).wp P Q a w := wp_region_list (by simpa using h.out)
theorem from_eq {k : Nat} {a a' : Act} {w : World} (ha : a = a') (h : wpFrom P ops Q k a' w) : wpFrom P ops Q k a w := by rw [ha]; exact h
theorem from_end {k : Nat} {a : Act} {w : World} (hk : decide (ops.size ≤ k) = true) (h : Q .normal a w) : wpFrom P ops Q k a w := by
  refine ⟨?_⟩
  rw [List.drop_eq_nil_of_le (by simpa using hk)]
  exact h
theorem from_step {k : Nat} {a : Act} {w : World} {d : Option Tmp} (hb : opG ops k d = true)
    (h : if Region.wanted (opI ops k) (yielded ops a.tmps) then (opI ops k).wp P a w (wpFrom P ops Q (k + 1)) Q else wpFrom P ops Q (k + 1) (a.put d undef) w) : wpFrom P ops Q k a w := by
  unfold opG at hb
  simp only [Bool.and_eq_true, decide_eq_true_eq] at hb
  obtain ⟨h1, h2⟩ := hb
  have hl : ops.toList.drop k = opI ops k :: ops.toList.drop (k + 1) := by
    rw [List.drop_eq_getElem_cons (by simpa using h1)]
    congr 1
    unfold opI
    rw [Array.getElem?_eq_getElem h1]
    rfl
  refine ⟨?_⟩
  rw [hl]
  unfold wpList
  subst h2
  by_cases hw : Region.wanted (opI ops k) (yielded ops a.tmps) = true
  · rw [if_pos hw] at h ⊢; exact Or.inl (Oper.wp_mono (fun a w h => h.out) h)
  · rw [if_neg hw] at h ⊢; exact h.out
theorem from_skip {k : Nat} {a : Act} {w : World} (d : Option Tmp) (hb : opG ops k d = true) (hw : Region.wanted (opI ops k) (yielded ops a.tmps) = false) (h : wpFrom P ops Q (k + 1) (a.put d undef) w) : wpFrom P ops Q k a w :=
  from_step hb (by rw [if_neg (by rw [hw]; simp)]; exact h)
theorem from_val {k : Nat} {a : Act} {w : World} (d : Option Tmp) (v v' : Value) (hv : v = v') (hb : opG ops k d = true) (hw : Region.wanted (opI ops k) (yielded ops a.tmps) = true) (hr : (execOp a.eval (opI ops k)).run P w = .ok (.value v) w) (h : wpFrom P ops Q (k + 1) (a.put d v') w) : wpFrom P ops Q k a w := by
  have hd : (opI ops k).dst = d := by unfold opG at hb; simp only [Bool.and_eq_true, decide_eq_true_eq] at hb; exact hb.2
  refine from_step hb ?_
  rw [if_pos hw]
  unfold Oper.wp
  rw [hr, Oper.upon_value, hd, hv]
  exact h
theorem from_load {k : Nat} {a : Act} {w : World} (d : Option Tmp) (T : TypeId) (x : Operand) (ad : Addr) (v : Value) (hb : opG ops k d = true) (hw : Region.wanted (opI ops k) (yielded ops a.tmps) = true) (ho : (opI ops k).op = .load T x) (hx : a.eval x = .pointer (some ad)) (hl : (Instr.loadAt T (.pointer (some ad))).run P w = .ok v w) (h : wpFrom P ops Q (k + 1) (a.put d v) w) : wpFrom P ops Q k a w := by
  refine from_val d v v rfl hb hw ?_ h
  unfold execOp
  simp only [ho, hx, Sem.run_bind, Sem.run_pure, Result.andThen_ok, hl]
theorem from_enter {k : Nat} {a : Act} {w : World} (d : Option Tmp) (f : FuncId) (args : Array Value) {R : Ending → World → Prop} (hb : opG ops k d = true) (hw : Region.wanted (opI ops k) (yielded ops a.tmps) = true) (hr : (execOp a.eval (opI ops k)).run P w = .ok (.enter f args) w) (hc : Calls P f args w R) (h : ∀ e w', R e w' → ∃ u, e = .returned u ∧ wpFrom P ops Q (k + 1) (a.put d u) w') : wpFrom P ops Q k a w := by
  have hd : (opI ops k).dst = d := by unfold opG at hb; simp only [Bool.and_eq_true, decide_eq_true_eq] at hb; exact hb.2
  refine from_step hb ?_
  rw [if_pos hw]
  unfold Oper.wp
  rw [hr]
  refine Calls.mono hc fun e w' he => ?_
  obtain ⟨u, rfl, hK⟩ := h e w' he
  rw [hd]
  exact hK
end
end Go.Proofs.YtgdiankfnemjjaaGreat
