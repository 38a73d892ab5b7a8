/- The drawn regions of the program's write that put one behind a list of the copy. Conditions: the write and the copy lie in their boxes. -/
import Derived.Test.YtgdiankfnemjjaaGreatPart21
import Derived.Test.YtgdiankfnemjjaaGreatPart07
namespace Go.Proofs.YtgdiankfnemjjaaGreat
open Go Go.RowKit

/-- Blocks that are of no type of a disk's have not turned. -/
def TyK (w W : World) : Prop := ∀ (b : Nat) (cs : Array Value) (t : TypeId) (fz : Nat × Nat), w.heap[b]? = some (Obj.cells cs t fz) → t ≠ 84 → t ≠ 88 → t ≠ 37 → W.heap[b]? = w.heap[b]?
theorem TyK.trans {a b c : World} (h : TyK a b) (k : TyK b c) : TyK a c := fun i cs t fz h1 h2 h3 h4 => by
  have e := h i cs t fz h1 h2 h3 h4
  exact (k i cs t fz (e.trans h1) h2 h3 h4).trans e
theorem blk_lt {w : World} {b : Nat} {o : Obj} (h : w.heap[b]? = some o) : b < w.heap.size := (Array.getElem?_eq_some_iff.1 h).1
theorem TyK.below {w W : World} (h : Below w.heap.size w W) : TyK w W := fun b _ _ _ h1 _ _ _ => h.block b (blk_lt h1)
theorem TyK.set {W : World} {g j : Nat} {v : Value} {cs : Array Value} {t : TypeId} {fz : Nat × Nat} (hg : W.heap[g]? = some (Obj.cells cs t fz)) (ht : t = 84 ∨ t = 88 ∨ t = 37) : TyK W (W.setCell ⟨g, j, none⟩ v) := fun b cs' t' fz' h1 h2 h3 h4 => by
  refine Below.heap_setCell _ _ _ _ fun e => ?_
  simp only at e
  subst e
  rw [hg] at h1
  simp only [Option.some.injEq, Obj.cells.injEq] at h1
  obtain ⟨-, rfl, -⟩ := h1
  rcases ht with rfl | rfl | rfl
  · exact h2 rfl
  · exact h3 rfl
  · exact h4 rfl
theorem TyK.grown {W W' : World} {row : Option Nat} (hg : W.grownBy W' row) (hr : ∀ g, row = some g → ∃ cs t fz, W.heap[g]? = some (Obj.cells cs t fz) ∧ (t = 84 ∨ t = 88)) : TyK W W' := fun b cs' t' fz' h1 h2 h3 h4 => by
  refine hg.block b (blk_lt h1) fun e => ?_
  obtain ⟨cs, t, fz, h5, h6⟩ := hr b e.symm
  rw [h5] at h1
  simp only [Option.some.injEq, Obj.cells.injEq] at h1
  obtain ⟨-, rfl, -⟩ := h1
  rcases h6 with rfl | rfl
  · exact h2 rfl
  · exact h3 rfl
theorem own_ty {W : World} {base e s n : Nat} {v : Value} {xs : List Value} (h : W.ownsRow base e s v n xs) (he : e = 84 ∨ e = 88) : ∀ g, v.ownBlock = some g → ∃ cs t fz, W.heap[g]? = some (Obj.cells cs t fz) ∧ (t = 84 ∨ t = 88) := fun g hg => by
  rcases h.2 with ⟨hv, _⟩ | ⟨g', c', cur, hv, _, hh, _⟩
  · rw [hv] at hg; cases hg
  · rw [hv] at hg
    simp only [Value.ownBlock, Option.some.injEq] at hg
    subst hg
    exact ⟨cur, e, (0, 0), hh, he⟩
theorem row_ty {W : World} {b t n : Nat} {f : Nat → Value} (h : W.rowIs b t n f) : ∃ cs fz, W.heap[b]? = some (Obj.cells cs t fz) := by
  obtain ⟨c, hc, -, -⟩ := h
  exact ⟨_, _, hc⟩
/-- The write in its box, and the copy that is turned; nothing below b0 has turned. -/
structure Wb (w : World) (k : Int) (x y : ByteArray) (b0 base L : Nat) (o : C3) (d : Dk) (W : World) : Prop where
  b1 : W.rowIs (w.heap.size + 1) 63 3 (row3 (.int .i64 k) (.string x) (.string y))
  mx : MxSt base L W o.c0 o.c1 o.c2 d.files d.names d.moves
  bel : Below b0 w W
  hb : b0 ≤ base
  hL : b0 ≤ L
  ty : TyK w W
theorem Wb.on {w : World} {k : Int} {x y : ByteArray} {b0 base L : Nat} {o : C3} {d : Dk} {W W' : World} (h : Wb w k x y b0 base L o d W) (hb : Below W.heap.size W W') (hs : b0 ≤ W.heap.size) : Wb w k x y b0 base L o d W' := ⟨h.b1.of_block (hb.block _ h.b1.lt), h.mx.keep hb, h.bel.trans (hb.mono hs), h.hb, h.hL, h.ty.trans (TyK.below hb)⟩
theorem Wb.sz {w : World} {k : Int} {x y : ByteArray} {b0 base L : Nat} {o : C3} {d : Dk} {W : World} (h : Wb w k x y b0 base L o d W) : b0 ≤ W.heap.size := Nat.le_trans h.hL (Nat.le_of_lt h.mx.row.lt)
theorem Wb.m1 {w : World} {k : Int} {x y : ByteArray} {b0 base L : Nat} {o : C3} {d : Dk} {W : World} (h : Wb w k x y b0 base L o d W) : W.cell? ⟨w.heap.size + 1, 1, none⟩ = some (.string x) := h.b1.cell (i := 1) (by omega)
theorem Wb.m2 {w : World} {k : Int} {x y : ByteArray} {b0 base L : Nat} {o : C3} {d : Dk} {W : World} (h : Wb w k x y b0 base L o d W) : W.cell? ⟨w.heap.size + 1, 2, none⟩ = some (.string y) := h.b1.cell (i := 2) (by omega)
theorem rows_ne {W : World} {a b T U n m : Nat} {f g : Nat → Value} (h1 : W.rowIs a T n f) (h2 : W.rowIs b U m g) (hT : T ≠ U) : a ≠ b := fun e => by
  subst e
  obtain ⟨c, h, -, -⟩ := h1
  obtain ⟨c', h', -, -⟩ := h2
  rw [h] at h'
  simp only [Option.some.injEq, Obj.cells.injEq] at h'
  exact hT h'.2.1
/-- A list of the copy has grown: the rest stands; then its cell is set. -/
theorem Wb.grow {w : World} {k : Int} {x y : ByteArray} {b0 base L : Nat} {o o' : C3} {d d2 : Dk} {W W' : World} {row : Option Nat} (h : Wb w k x y b0 base L o d W) (hg : W.grownBy W' row) (hr : ∀ g, row = some g → base ≤ g) (ht : ∀ g, row = some g → ∃ cs t fz, W.heap[g]? = some (Obj.cells cs t fz) ∧ (t = 84 ∨ t = 88)) (h1 : row ≠ some (w.heap.size + 1)) (j : Nat) (v : Value) (hm : MxSt base L (W'.setCell ⟨L, j, none⟩ v) o'.c0 o'.c1 o'.c2 d2.files d2.names d2.moves) : W'.cell? ⟨w.heap.size + 1, 1, none⟩ = some (.string x) ∧ (W'.setCell ⟨L, j, none⟩ v).cell? ⟨w.heap.size + 1, 1, none⟩ = some (.string x) ∧ Wb w k x y b0 base L o' d2 (W'.setCell ⟨L, j, none⟩ v) := by
  have q1 := h.hb; have q2 := h.hL
  have hne : w.heap.size + 1 ≠ L := rows_ne h.b1 h.mx.row (by decide)
  have hr1 := h.b1.of_block (hg.block _ h.b1.lt (fun e => h1 e.symm))
  have hr2 := hr1.of_block (Below.heap_setCell W' ⟨L, j, none⟩ v _ hne)
  refine ⟨hr1.cell (i := 1) (by omega), hr2.cell (i := 1) (by omega), hr2, hm, ⟨hg.os.trans h.bel.os, hg.tape.trans h.bel.tape, hg.output.trans h.bel.output, by rw [World.size_setCell]; exact Nat.le_trans h.bel.size hg.size, fun b hb => ?_⟩, h.hb, h.hL, ?_⟩
  rotate_left
  · obtain ⟨cs, fz, hLt⟩ := row_ty hm.row
    have hLt' : ∃ cs fz, W'.heap[L]? = some (Obj.cells cs 37 fz) := by
      obtain ⟨cs, fz, hc⟩ := row_ty h.mx.row
      have hrow : row ≠ some L := fun e => by
        obtain ⟨cs2, t2, fz2, h5, h6⟩ := ht L e
        rw [hc] at h5
        simp only [Option.some.injEq, Obj.cells.injEq] at h5
        obtain ⟨-, rfl, -⟩ := h5
        rcases h6 with h6 | h6 <;> exact absurd h6 (by decide)
      exact ⟨cs, fz, (hg.block L h.mx.row.lt (fun e => hrow e.symm)).trans hc⟩
    obtain ⟨cs3, fz3, hL3⟩ := hLt'
    exact (h.ty.trans (TyK.grown hg ht)).trans (TyK.set hL3 (Or.inr (Or.inr rfl)))
  have hs := h.sz
  rw [Below.heap_setCell _ _ _ _ (by simp; omega), hg.block b (by omega) (fun e => by have := hr b e.symm; omega)]
  exact h.bel.block b hb
theorem ldOp {o : Oper} {a : Act} {X : Operand} {T : TypeId} {ad : Addr} {v : Value} {W : World} (ho : o.op = .load T X) (hx : a.eval X = .pointer (some ad)) (h : (Instr.loadAt T (.pointer (some ad))).run Tryz.prog W = .ok v W) : (execOp a.eval o).run Tryz.prog W = .ok (.value v) W := by
  unfold execOp
  simp only [ho, hx, Sem.run_bind, Sem.run_pure, Result.andThen_ok, h]
theorem ldMs (w : World) (ad : Addr) (v : Value) (h : w.cell? ad = some v) : (Instr.loadAt 35 (.pointer (some ad))).run Tryz.prog w = .ok v w := by
  simp [Instr.loadAt, Instr.sureAddr, loadVar, Tryz.isAgg35, h, go_sem]
theorem stFs (w : World) (ad : Addr) (a : Option Addr) (n c : Nat) (u : Value) (h : w.cell? ad = some u) (hf : w.frozen? ad = false) : (Instr.storeAt 34 (.pointer (some ad)) (.slice a n c)).run Tryz.prog w = .ok () (w.setCell ad (.slice a n c)) := by
  simp [Instr.storeAt, Instr.sureAddr, storeVar, h, hf, go_sem]
theorem stMs (w : World) (ad : Addr) (a : Option Addr) (n c : Nat) (u : Value) (h : w.cell? ad = some u) (hf : w.frozen? ad = false) : (Instr.storeAt 35 (.pointer (some ad)) (.slice a n c)).run Tryz.prog w = .ok () (w.setCell ad (.slice a n c)) := by
  simp [Instr.storeAt, Instr.sureAddr, storeVar, h, hf, go_sem]
noncomputable def wr4Ops : Array Oper := fops Tryz.f92 4
theorem wr4_neat : Region.noSelect wr4Ops = true ∧ neat wr4Ops = true := ⟨by kernel_rfl, by kernel_rfl⟩
set_option maxRecDepth 100000 in
set_option maxHeartbeats 1600000 in
theorem wr4 (w : World) (k : Int) (x y : ByteArray) (b0 base L : Nat) (o : C3) (d : Dk) (hx : x.size ≤ 1048576) (hn : d.files.length ≤ 1000) (hba : ∀ W, Wb w k x y b0 base L o d W → base ≤ W.heap.size) (W0 : World) {l : List Value} (Q : Exit → Act → World → Prop) (hQ : ∀ c a d v w, Q (.panic c) (Act.put a d v) w → Q (.panic c) a w) (h : Wb w k x y b0 base L o d W0.drew) (hl : lookL [(1, .pointer (some ⟨L, 0, none⟩)), (5, .pointer (some ⟨w.heap.size + 1, 0, none⟩))] l = (99, [.pointer (some ⟨L, 0, none⟩), .pointer (some ⟨w.heap.size + 1, 0, none⟩)]))
    (hend : ∀ v o' W', Wb w k x y b0 base L o' ⟨d.files ++ [⟨x, ByteArray.empty, 0⟩], d.names, d.moves⟩ W' → Q .normal ⟨(frL v 99 [(1, .pointer (some ⟨L, 0, none⟩)), (5, .pointer (some ⟨w.heap.size + 1, 0, none⟩))]).toArray, []⟩ W') : (Code.region 4 wr4Ops true).wp Tryz.prog Q ⟨l.toArray, []⟩ W0 := by
  obtain ⟨v, rfl⟩ := look_fr hl
  have hq : NtQ wr4Ops Q := ⟨wr4_neat, hQ⟩
  clear hl hQ
  have Q2 : ∀ v W, Wb w k x y b0 base L o d W → wpS Tryz.prog wr4Ops Q (fun W => W.cell? ⟨w.heap.size + 1, 1, none⟩ = some (.string x)) (unl 14 [10, 11, 12, 13], frL v 99 [(1, .pointer (some ⟨L, 0, none⟩)), (5, .pointer (some ⟨w.heap.size + 1, 0, none⟩)), (19, .pointer (some ⟨L, 0, none⟩)), (22, .pointer (some ⟨L, 0, none⟩)), (23, o.c0), (25, .string x), (27, .agg #[.string x, .string ByteArray.empty, .int .i64 0]), (28, .slice (some ⟨W.heap.size, 0, none⟩) 1 1)]) [] (W.alloc (.cells #[.string x, .string ByteArray.empty, .int .i64 0] 84)) := fun v W h => by
    obtain ⟨i0, hi0, hi1, hi2, hi3⟩ := infoFileD
    refine T_one 10 (by kernel_rfl) fun _ => O_list (some 29) (by kernel_rfl) ?_
    refine append_row _ (by kernel_rfl) (.tmp 23) (.tmp 28) 34 (by kernel_rfl) base 84 i0 (.agg #[.string ByteArray.empty, .string ByteArray.empty, .int .i64 0]) 3 40 Tryz.underlying34 hi0 hi1 hi2 hi3 rfl (by decide) o.c0 d.files.length (d.files.map Df.cs).flatten (by kernel_rfl) (World.ownsRow.alloc h.mx.o0 _) ⟨W.heap.size, 0, none⟩ 1 1 [.string x, .string ByteArray.empty, .int .i64 0] (by kernel_rfl) rfl (cell_3 W _ _ _ _) (fun u hu => by simp at hu; rcases hu with rfl | rfl | rfl <;> rfl) (by decide) (by unfold maxLen; omega) (by omega) (by rw [World.size_alloc]; have := hba W h; omega) ?_
    intro v' W2 hown hgrow hat
    obtain ⟨g5, cap5, rfl, -, -⟩ := hown.form (by omega)
    have hL2 : W2.rowIs L 37 3 (row3 o.c0 o.c1 o.c2) := h.mx.row.of_block ((grown_alloc hgrow).block L h.mx.row.lt (fun e => own_apart h.mx.o0 h.mx.row (by decide) e.symm))
    obtain ⟨k1, k2, h2⟩ := h.grow (o' := ⟨.slice (some ⟨g5, 0, none⟩) (d.files.length + 1) cap5, o.c1, o.c2⟩) (d2 := ⟨d.files ++ [⟨x, ByteArray.empty, 0⟩], d.names, d.moves⟩) (grown_alloc hgrow) (fun g e => (h.mx.o0.lt g e).1) (own_ty h.mx.o0 (Or.inl rfl)) (own_apart h.mx.o0 h.b1 (by decide)) 0 _ (h.mx.addF ⟨x, ByteArray.empty, 0⟩ hown (grown_alloc hgrow))
    refine ⟨k1, _, put_putL .., ?_⟩
    refine T_z hq [11, 12] (by kernel_rfl) ?_
    refine T_one 13 (by kernel_rfl) fun _ => O_store none 34 (.tmp 31) (.tmp 29) ⟨L, 0, none⟩ (.slice (some ⟨g5, 0, none⟩) (d.files.length + 1) cap5) _ (by kernel_rfl) (by kernel_rfl) (by kernel_rfl) (stFs W2 _ _ _ _ _ (hL2.cell (i := 0) (by omega)) (hL2.frozen 0)) k2 ?_
    exact T_end 99 [(1, .pointer (some ⟨L, 0, none⟩)), (5, .pointer (some ⟨w.heap.size + 1, 0, none⟩))] (by kernel_rfl) (by kernel_rfl) fun _ v => hend v _ _ h2
  have Q1 : ∀ v W, Wb w k x y b0 base L o d W → wpS Tryz.prog wr4Ops Q (fun W => W.cell? ⟨w.heap.size + 1, 1, none⟩ = some (.string x)) (unl 14 [9, 10, 11, 12, 13], frL v 99 [(1, .pointer (some ⟨L, 0, none⟩)), (5, .pointer (some ⟨w.heap.size + 1, 0, none⟩)), (19, .pointer (some ⟨L, 0, none⟩)), (22, .pointer (some ⟨L, 0, none⟩)), (23, o.c0), (25, .string x), (27, .agg #[.string x, .string ByteArray.empty, .int .i64 0])]) [] W := fun v W h => T_one 9 (by kernel_rfl) fun _ => O_val (w' := W.alloc (.cells #[.string x, .string ByteArray.empty, .int .i64 0] 84)) (some 28) (.slice (some ⟨W.heap.size, 0, none⟩) 1 1) (by kernel_rfl) (by kernel_rfl) ((((h).on ((Below.refl _ W).alloc (Nat.le_refl _) (.cells #[.string x, .string ByteArray.empty, .int .i64 0] 84)) (h).sz)).m1) ((T_fr 14 99 [10, 11, 12, 13] [(1, .pointer (some ⟨L, 0, none⟩)), (5, .pointer (some ⟨w.heap.size + 1, 0, none⟩)), (19, .pointer (some ⟨L, 0, none⟩)), (22, .pointer (some ⟨L, 0, none⟩)), (23, o.c0), (25, .string x), (27, .agg #[.string x, .string ByteArray.empty, .int .i64 0]), (28, .slice (some ⟨W.heap.size, 0, none⟩) 1 1)] (by kernel_rfl) fun v => Q2 v W h))
  have Q0 : ∀ v W, Wb w k x y b0 base L o d W → wpS Tryz.prog wr4Ops Q (fun W => W.cell? ⟨w.heap.size + 1, 1, none⟩ = some (.string x)) (unl 14 [7, 8, 9, 10, 11, 12, 13], frL v 99 [(1, .pointer (some ⟨L, 0, none⟩)), (5, .pointer (some ⟨w.heap.size + 1, 0, none⟩)), (19, .pointer (some ⟨L, 0, none⟩)), (22, .pointer (some ⟨L, 0, none⟩)), (23, o.c0), (25, .string x)]) [] W := fun v W h => T_one 7 (by kernel_rfl) fun _ => O_go (clone_any x W (by omega)) (by kernel_rfl) (by rintro _ W1 ⟨rfl, hb⟩; have h1 := h.on hb h.sz; exact ⟨_, rfl, (h1).m1, T_z hq [8] (by kernel_rfl) (T_fr 14 99 [9, 10, 11, 12, 13] [(1, .pointer (some ⟨L, 0, none⟩)), (5, .pointer (some ⟨w.heap.size + 1, 0, none⟩)), (19, .pointer (some ⟨L, 0, none⟩)), (22, .pointer (some ⟨L, 0, none⟩)), (23, o.c0), (25, .string x), (27, .agg #[.string x, .string ByteArray.empty, .int .i64 0])] (by kernel_rfl) fun v => Q1 v W1 h1)⟩)
  have P2 : ∀ v W, Wb w k x y b0 base L o d W → wpS Tryz.prog wr4Ops Q (fun W => W.cell? ⟨w.heap.size + 1, 1, none⟩ = some (.string x)) (unl 14 [4, 10, 11, 12, 13], frL v 99 [(1, .pointer (some ⟨L, 0, none⟩)), (5, .pointer (some ⟨w.heap.size + 1, 0, none⟩)), (19, .pointer (some ⟨L, 0, none⟩)), (22, .pointer (some ⟨L, 0, none⟩)), (25, .string x), (27, .agg #[.string x, .string ByteArray.empty, .int .i64 0]), (28, .slice (some ⟨W.heap.size, 0, none⟩) 1 1)]) [] (W.alloc (.cells #[.string x, .string ByteArray.empty, .int .i64 0] 84)) := fun v W h => T_one 4 (by kernel_rfl) fun hS => O_val (some 23) (o.c0) (by kernel_rfl) (ldOp (X := .tmp 22) (by kernel_rfl) (by kernel_rfl) (ldFs (W.alloc (.cells #[.string x, .string ByteArray.empty, .int .i64 0] 84)) ⟨L, 0, none⟩ _ ((((h).on ((Below.refl _ W).alloc (Nat.le_refl _) (.cells #[.string x, .string ByteArray.empty, .int .i64 0] 84)) (h).sz)).mx.row.cell (i := 0) (by omega)))) hS (T_fr 14 99 [10, 11, 12, 13] [(1, .pointer (some ⟨L, 0, none⟩)), (5, .pointer (some ⟨w.heap.size + 1, 0, none⟩)), (19, .pointer (some ⟨L, 0, none⟩)), (22, .pointer (some ⟨L, 0, none⟩)), (23, o.c0), (25, .string x), (27, .agg #[.string x, .string ByteArray.empty, .int .i64 0]), (28, .slice (some ⟨W.heap.size, 0, none⟩) 1 1)] (by kernel_rfl) fun v => Q2 v W h)
  have P1 : ∀ v W, Wb w k x y b0 base L o d W → wpS Tryz.prog wr4Ops Q (fun W => W.cell? ⟨w.heap.size + 1, 1, none⟩ = some (.string x)) (unl 14 [4, 9, 10, 11, 12, 13], frL v 99 [(1, .pointer (some ⟨L, 0, none⟩)), (5, .pointer (some ⟨w.heap.size + 1, 0, none⟩)), (19, .pointer (some ⟨L, 0, none⟩)), (22, .pointer (some ⟨L, 0, none⟩)), (25, .string x), (27, .agg #[.string x, .string ByteArray.empty, .int .i64 0])]) [] W := fun v W h => T_two 4 9 (by kernel_rfl)
    (fun hS => O_val (some 23) (o.c0) (by kernel_rfl) (ldOp (X := .tmp 22) (by kernel_rfl) (by kernel_rfl) (ldFs W ⟨L, 0, none⟩ _ ((h).mx.row.cell (i := 0) (by omega)))) hS (T_fr 14 99 [9, 10, 11, 12, 13] [(1, .pointer (some ⟨L, 0, none⟩)), (5, .pointer (some ⟨w.heap.size + 1, 0, none⟩)), (19, .pointer (some ⟨L, 0, none⟩)), (22, .pointer (some ⟨L, 0, none⟩)), (23, o.c0), (25, .string x), (27, .agg #[.string x, .string ByteArray.empty, .int .i64 0])] (by kernel_rfl) fun v => Q1 v W h))
    (fun _ => O_val (w' := W.alloc (.cells #[.string x, .string ByteArray.empty, .int .i64 0] 84)) (some 28) (.slice (some ⟨W.heap.size, 0, none⟩) 1 1) (by kernel_rfl) (by kernel_rfl) ((((h).on ((Below.refl _ W).alloc (Nat.le_refl _) (.cells #[.string x, .string ByteArray.empty, .int .i64 0] 84)) (h).sz)).m1) ((T_fr 14 99 [4, 10, 11, 12, 13] [(1, .pointer (some ⟨L, 0, none⟩)), (5, .pointer (some ⟨w.heap.size + 1, 0, none⟩)), (19, .pointer (some ⟨L, 0, none⟩)), (22, .pointer (some ⟨L, 0, none⟩)), (25, .string x), (27, .agg #[.string x, .string ByteArray.empty, .int .i64 0]), (28, .slice (some ⟨W.heap.size, 0, none⟩) 1 1)] (by kernel_rfl) fun v => P2 v W h)))
  have P0 : ∀ v W, Wb w k x y b0 base L o d W → wpS Tryz.prog wr4Ops Q (fun W => W.cell? ⟨w.heap.size + 1, 1, none⟩ = some (.string x)) (unl 14 [4, 7, 8, 9, 10, 11, 12, 13], frL v 99 [(1, .pointer (some ⟨L, 0, none⟩)), (5, .pointer (some ⟨w.heap.size + 1, 0, none⟩)), (19, .pointer (some ⟨L, 0, none⟩)), (22, .pointer (some ⟨L, 0, none⟩)), (25, .string x)]) [] W := fun v W h => T_two 4 7 (by kernel_rfl)
    (fun hS => O_val (some 23) (o.c0) (by kernel_rfl) (ldOp (X := .tmp 22) (by kernel_rfl) (by kernel_rfl) (ldFs W ⟨L, 0, none⟩ _ ((h).mx.row.cell (i := 0) (by omega)))) hS (T_fr 14 99 [7, 8, 9, 10, 11, 12, 13] [(1, .pointer (some ⟨L, 0, none⟩)), (5, .pointer (some ⟨w.heap.size + 1, 0, none⟩)), (19, .pointer (some ⟨L, 0, none⟩)), (22, .pointer (some ⟨L, 0, none⟩)), (23, o.c0), (25, .string x)] (by kernel_rfl) fun v => Q0 v W h))
    (fun _ => O_go (clone_any x W (by omega)) (by kernel_rfl) (by rintro _ W1 ⟨rfl, hb⟩; have h1 := h.on hb h.sz; exact ⟨_, rfl, (h1).m1, T_z hq [8] (by kernel_rfl) (T_fr 14 99 [4, 9, 10, 11, 12, 13] [(1, .pointer (some ⟨L, 0, none⟩)), (5, .pointer (some ⟨w.heap.size + 1, 0, none⟩)), (19, .pointer (some ⟨L, 0, none⟩)), (22, .pointer (some ⟨L, 0, none⟩)), (25, .string x), (27, .agg #[.string x, .string ByteArray.empty, .int .i64 0])] (by kernel_rfl) fun v => P1 v W1 h1)⟩))
  refine T_start (S := fun W => W.cell? ⟨w.heap.size + 1, 1, none⟩ = some (.string x)) (by kernel_rfl) h.m1 (T_a hq [0, 1, 2, 3, 5, 6] (fun w hS => .cons (ldStr _ _ _ hS) Lds.nil) (by kernel_rfl) ?_)
  exact T_fr 14 99 [4, 7, 8, 9, 10, 11, 12, 13] [(1, .pointer (some ⟨L, 0, none⟩)), (5, .pointer (some ⟨w.heap.size + 1, 0, none⟩)), (19, .pointer (some ⟨L, 0, none⟩)), (22, .pointer (some ⟨L, 0, none⟩)), (25, .string x)] (by kernel_rfl) fun v => P0 v _ h
noncomputable def wr5Ops : Array Oper := fops Tryz.f92 5
theorem wr5_neat : Region.noSelect wr5Ops = true ∧ neat wr5Ops = true := ⟨by kernel_rfl, by kernel_rfl⟩
set_option maxRecDepth 100000 in
set_option maxHeartbeats 1600000 in
theorem wr5 (w : World) (k : Int) (x y : ByteArray) (b0 base L : Nat) (o : C3) (d : Dk) (hx : x.size ≤ 1048576) (hn : d.moves.length ≤ 1000) (hba : ∀ W, Wb w k x y b0 base L o d W → base ≤ W.heap.size) (W0 : World) {l : List Value} (Q : Exit → Act → World → Prop) (hQ : ∀ c a d v w, Q (.panic c) (Act.put a d v) w → Q (.panic c) a w) (h : Wb w k x y b0 base L o d W0.drew) (hl : lookL [(1, .pointer (some ⟨L, 0, none⟩)), (5, .pointer (some ⟨w.heap.size + 1, 0, none⟩))] l = (99, [.pointer (some ⟨L, 0, none⟩), .pointer (some ⟨w.heap.size + 1, 0, none⟩)]))
    (hend : ∀ v o' W', Wb w k x y b0 base L o' ⟨d.files, d.names, d.moves ++ [⟨false, x⟩]⟩ W' → Q .normal ⟨(frL v 99 [(1, .pointer (some ⟨L, 0, none⟩)), (5, .pointer (some ⟨w.heap.size + 1, 0, none⟩))]).toArray, []⟩ W') : (Code.region 5 wr5Ops true).wp Tryz.prog Q ⟨l.toArray, []⟩ W0 := by
  obtain ⟨v, rfl⟩ := look_fr hl
  have hq : NtQ wr5Ops Q := ⟨wr5_neat, hQ⟩
  clear hl hQ
  have Q2 : ∀ v W, Wb w k x y b0 base L o d W → wpS Tryz.prog wr5Ops Q (fun W => W.cell? ⟨w.heap.size + 1, 1, none⟩ = some (.string x)) (unl 14 [10, 11, 12, 13], frL v 99 [(1, .pointer (some ⟨L, 0, none⟩)), (5, .pointer (some ⟨w.heap.size + 1, 0, none⟩)), (32, .pointer (some ⟨L, 0, none⟩)), (35, .pointer (some ⟨L, 2, none⟩)), (36, o.c2), (38, .string x), (40, .agg #[.bool false, .string x]), (41, .slice (some ⟨W.heap.size, 0, none⟩) 1 1)]) [] (W.alloc (.cells #[.bool false, .string x] 88)) := fun v W h => by
    obtain ⟨i0, hi0, hi1, hi2, hi3⟩ := info_parts infoMoveM
    refine T_one 10 (by kernel_rfl) fun _ => O_list (some 42) (by kernel_rfl) ?_
    refine append_row _ (by kernel_rfl) (.tmp 36) (.tmp 41) 35 (by kernel_rfl) base 88 i0 (.agg #[.bool false, .string ByteArray.empty]) 2 24 Tryz.underlying35 hi0 hi1 hi2 hi3 rfl (by decide) o.c2 d.moves.length (d.moves.map Dm.cs).flatten (by kernel_rfl) (World.ownsRow.alloc h.mx.o2 _) ⟨W.heap.size, 0, none⟩ 1 1 [.bool false, .string x] (by kernel_rfl) rfl (cell_2 W _ _ _) (fun u hu => by simp at hu; rcases hu with rfl | rfl <;> rfl) (by decide) (by unfold maxLen; omega) (by omega) (by rw [World.size_alloc]; have := hba W h; omega) ?_
    intro v' W2 hown hgrow hat
    obtain ⟨g5, cap5, rfl, -, -⟩ := hown.form (by omega)
    have hL2 : W2.rowIs L 37 3 (row3 o.c0 o.c1 o.c2) := h.mx.row.of_block ((grown_alloc hgrow).block L h.mx.row.lt (fun e => own_apart h.mx.o2 h.mx.row (by decide) e.symm))
    obtain ⟨k1, k2, h2⟩ := h.grow (o' := ⟨o.c0, o.c1, .slice (some ⟨g5, 0, none⟩) (d.moves.length + 1) cap5⟩) (d2 := ⟨d.files, d.names, d.moves ++ [⟨false, x⟩]⟩) (grown_alloc hgrow) (fun g e => (h.mx.o2.lt g e).1) (own_ty h.mx.o2 (Or.inr rfl)) (own_apart h.mx.o2 h.b1 (by decide)) 2 _ (h.mx.addM ⟨false, x⟩ hown (grown_alloc hgrow))
    refine ⟨k1, _, put_putL .., ?_⟩
    refine T_z hq [11, 12] (by kernel_rfl) ?_
    refine T_one 13 (by kernel_rfl) fun _ => O_store none 35 (.tmp 44) (.tmp 42) ⟨L, 2, none⟩ (.slice (some ⟨g5, 0, none⟩) (d.moves.length + 1) cap5) _ (by kernel_rfl) (by kernel_rfl) (by kernel_rfl) (stMs W2 _ _ _ _ _ (hL2.cell (i := 2) (by omega)) (hL2.frozen 2)) k2 ?_
    exact T_end 99 [(1, .pointer (some ⟨L, 0, none⟩)), (5, .pointer (some ⟨w.heap.size + 1, 0, none⟩))] (by kernel_rfl) (by kernel_rfl) fun _ v => hend v _ _ h2
  have Q1 : ∀ v W, Wb w k x y b0 base L o d W → wpS Tryz.prog wr5Ops Q (fun W => W.cell? ⟨w.heap.size + 1, 1, none⟩ = some (.string x)) (unl 14 [9, 10, 11, 12, 13], frL v 99 [(1, .pointer (some ⟨L, 0, none⟩)), (5, .pointer (some ⟨w.heap.size + 1, 0, none⟩)), (32, .pointer (some ⟨L, 0, none⟩)), (35, .pointer (some ⟨L, 2, none⟩)), (36, o.c2), (38, .string x), (40, .agg #[.bool false, .string x])]) [] W := fun v W h => T_one 9 (by kernel_rfl) fun _ => O_val (w' := W.alloc (.cells #[.bool false, .string x] 88)) (some 41) (.slice (some ⟨W.heap.size, 0, none⟩) 1 1) (by kernel_rfl) (by kernel_rfl) ((((h).on ((Below.refl _ W).alloc (Nat.le_refl _) (.cells #[.bool false, .string x] 88)) (h).sz)).m1) ((T_fr 14 99 [10, 11, 12, 13] [(1, .pointer (some ⟨L, 0, none⟩)), (5, .pointer (some ⟨w.heap.size + 1, 0, none⟩)), (32, .pointer (some ⟨L, 0, none⟩)), (35, .pointer (some ⟨L, 2, none⟩)), (36, o.c2), (38, .string x), (40, .agg #[.bool false, .string x]), (41, .slice (some ⟨W.heap.size, 0, none⟩) 1 1)] (by kernel_rfl) fun v => Q2 v W h))
  have Q0 : ∀ v W, Wb w k x y b0 base L o d W → wpS Tryz.prog wr5Ops Q (fun W => W.cell? ⟨w.heap.size + 1, 1, none⟩ = some (.string x)) (unl 14 [7, 8, 9, 10, 11, 12, 13], frL v 99 [(1, .pointer (some ⟨L, 0, none⟩)), (5, .pointer (some ⟨w.heap.size + 1, 0, none⟩)), (32, .pointer (some ⟨L, 0, none⟩)), (35, .pointer (some ⟨L, 2, none⟩)), (36, o.c2), (38, .string x)]) [] W := fun v W h => T_one 7 (by kernel_rfl) fun _ => O_go (clone_any x W (by omega)) (by kernel_rfl) (by rintro _ W1 ⟨rfl, hb⟩; have h1 := h.on hb h.sz; exact ⟨_, rfl, (h1).m1, T_z hq [8] (by kernel_rfl) (T_fr 14 99 [9, 10, 11, 12, 13] [(1, .pointer (some ⟨L, 0, none⟩)), (5, .pointer (some ⟨w.heap.size + 1, 0, none⟩)), (32, .pointer (some ⟨L, 0, none⟩)), (35, .pointer (some ⟨L, 2, none⟩)), (36, o.c2), (38, .string x), (40, .agg #[.bool false, .string x])] (by kernel_rfl) fun v => Q1 v W1 h1)⟩)
  have P2 : ∀ v W, Wb w k x y b0 base L o d W → wpS Tryz.prog wr5Ops Q (fun W => W.cell? ⟨w.heap.size + 1, 1, none⟩ = some (.string x)) (unl 14 [4, 10, 11, 12, 13], frL v 99 [(1, .pointer (some ⟨L, 0, none⟩)), (5, .pointer (some ⟨w.heap.size + 1, 0, none⟩)), (32, .pointer (some ⟨L, 0, none⟩)), (35, .pointer (some ⟨L, 2, none⟩)), (38, .string x), (40, .agg #[.bool false, .string x]), (41, .slice (some ⟨W.heap.size, 0, none⟩) 1 1)]) [] (W.alloc (.cells #[.bool false, .string x] 88)) := fun v W h => T_one 4 (by kernel_rfl) fun hS => O_val (some 36) (o.c2) (by kernel_rfl) (ldOp (X := .tmp 35) (by kernel_rfl) (by kernel_rfl) (ldMs (W.alloc (.cells #[.bool false, .string x] 88)) ⟨L, 2, none⟩ _ ((((h).on ((Below.refl _ W).alloc (Nat.le_refl _) (.cells #[.bool false, .string x] 88)) (h).sz)).mx.row.cell (i := 2) (by omega)))) hS (T_fr 14 99 [10, 11, 12, 13] [(1, .pointer (some ⟨L, 0, none⟩)), (5, .pointer (some ⟨w.heap.size + 1, 0, none⟩)), (32, .pointer (some ⟨L, 0, none⟩)), (35, .pointer (some ⟨L, 2, none⟩)), (36, o.c2), (38, .string x), (40, .agg #[.bool false, .string x]), (41, .slice (some ⟨W.heap.size, 0, none⟩) 1 1)] (by kernel_rfl) fun v => Q2 v W h)
  have P1 : ∀ v W, Wb w k x y b0 base L o d W → wpS Tryz.prog wr5Ops Q (fun W => W.cell? ⟨w.heap.size + 1, 1, none⟩ = some (.string x)) (unl 14 [4, 9, 10, 11, 12, 13], frL v 99 [(1, .pointer (some ⟨L, 0, none⟩)), (5, .pointer (some ⟨w.heap.size + 1, 0, none⟩)), (32, .pointer (some ⟨L, 0, none⟩)), (35, .pointer (some ⟨L, 2, none⟩)), (38, .string x), (40, .agg #[.bool false, .string x])]) [] W := fun v W h => T_two 4 9 (by kernel_rfl)
    (fun hS => O_val (some 36) (o.c2) (by kernel_rfl) (ldOp (X := .tmp 35) (by kernel_rfl) (by kernel_rfl) (ldMs W ⟨L, 2, none⟩ _ ((h).mx.row.cell (i := 2) (by omega)))) hS (T_fr 14 99 [9, 10, 11, 12, 13] [(1, .pointer (some ⟨L, 0, none⟩)), (5, .pointer (some ⟨w.heap.size + 1, 0, none⟩)), (32, .pointer (some ⟨L, 0, none⟩)), (35, .pointer (some ⟨L, 2, none⟩)), (36, o.c2), (38, .string x), (40, .agg #[.bool false, .string x])] (by kernel_rfl) fun v => Q1 v W h))
    (fun _ => O_val (w' := W.alloc (.cells #[.bool false, .string x] 88)) (some 41) (.slice (some ⟨W.heap.size, 0, none⟩) 1 1) (by kernel_rfl) (by kernel_rfl) ((((h).on ((Below.refl _ W).alloc (Nat.le_refl _) (.cells #[.bool false, .string x] 88)) (h).sz)).m1) ((T_fr 14 99 [4, 10, 11, 12, 13] [(1, .pointer (some ⟨L, 0, none⟩)), (5, .pointer (some ⟨w.heap.size + 1, 0, none⟩)), (32, .pointer (some ⟨L, 0, none⟩)), (35, .pointer (some ⟨L, 2, none⟩)), (38, .string x), (40, .agg #[.bool false, .string x]), (41, .slice (some ⟨W.heap.size, 0, none⟩) 1 1)] (by kernel_rfl) fun v => P2 v W h)))
  have P0 : ∀ v W, Wb w k x y b0 base L o d W → wpS Tryz.prog wr5Ops Q (fun W => W.cell? ⟨w.heap.size + 1, 1, none⟩ = some (.string x)) (unl 14 [4, 7, 8, 9, 10, 11, 12, 13], frL v 99 [(1, .pointer (some ⟨L, 0, none⟩)), (5, .pointer (some ⟨w.heap.size + 1, 0, none⟩)), (32, .pointer (some ⟨L, 0, none⟩)), (35, .pointer (some ⟨L, 2, none⟩)), (38, .string x)]) [] W := fun v W h => T_two 4 7 (by kernel_rfl)
    (fun hS => O_val (some 36) (o.c2) (by kernel_rfl) (ldOp (X := .tmp 35) (by kernel_rfl) (by kernel_rfl) (ldMs W ⟨L, 2, none⟩ _ ((h).mx.row.cell (i := 2) (by omega)))) hS (T_fr 14 99 [7, 8, 9, 10, 11, 12, 13] [(1, .pointer (some ⟨L, 0, none⟩)), (5, .pointer (some ⟨w.heap.size + 1, 0, none⟩)), (32, .pointer (some ⟨L, 0, none⟩)), (35, .pointer (some ⟨L, 2, none⟩)), (36, o.c2), (38, .string x)] (by kernel_rfl) fun v => Q0 v W h))
    (fun _ => O_go (clone_any x W (by omega)) (by kernel_rfl) (by rintro _ W1 ⟨rfl, hb⟩; have h1 := h.on hb h.sz; exact ⟨_, rfl, (h1).m1, T_z hq [8] (by kernel_rfl) (T_fr 14 99 [4, 9, 10, 11, 12, 13] [(1, .pointer (some ⟨L, 0, none⟩)), (5, .pointer (some ⟨w.heap.size + 1, 0, none⟩)), (32, .pointer (some ⟨L, 0, none⟩)), (35, .pointer (some ⟨L, 2, none⟩)), (38, .string x), (40, .agg #[.bool false, .string x])] (by kernel_rfl) fun v => P1 v W1 h1)⟩))
  refine T_start (S := fun W => W.cell? ⟨w.heap.size + 1, 1, none⟩ = some (.string x)) (by kernel_rfl) h.m1 (T_a hq [0, 1, 2, 3, 5, 6] (fun w hS => .cons (ldStr _ _ _ hS) Lds.nil) (by kernel_rfl) ?_)
  exact T_fr 14 99 [4, 7, 8, 9, 10, 11, 12, 13] [(1, .pointer (some ⟨L, 0, none⟩)), (5, .pointer (some ⟨w.heap.size + 1, 0, none⟩)), (32, .pointer (some ⟨L, 0, none⟩)), (35, .pointer (some ⟨L, 2, none⟩)), (38, .string x)] (by kernel_rfl) fun v => P0 v _ h
noncomputable def wr11Ops : Array Oper := fops Tryz.f92 11
theorem wr11_neat : Region.noSelect wr11Ops = true ∧ neat wr11Ops = true := ⟨by kernel_rfl, by kernel_rfl⟩
set_option maxRecDepth 100000 in
set_option maxHeartbeats 1600000 in
theorem wr11 (w : World) (k : Int) (x y : ByteArray) (b0 base L : Nat) (o : C3) (d : Dk) (hx : x.size ≤ 1048576) (hn : d.moves.length ≤ 1000) (hba : ∀ W, Wb w k x y b0 base L o d W → base ≤ W.heap.size) (W0 : World) {l : List Value} (Q : Exit → Act → World → Prop) (hQ : ∀ c a d v w, Q (.panic c) (Act.put a d v) w → Q (.panic c) a w) (h : Wb w k x y b0 base L o d W0.drew) (hl : lookL [(1, .pointer (some ⟨L, 0, none⟩)), (5, .pointer (some ⟨w.heap.size + 1, 0, none⟩))] l = (99, [.pointer (some ⟨L, 0, none⟩), .pointer (some ⟨w.heap.size + 1, 0, none⟩)]))
    (hend : ∀ v o' W', Wb w k x y b0 base L o' ⟨d.files, d.names, d.moves ++ [⟨true, x⟩]⟩ W' → Q .normal ⟨(frL v 99 [(1, .pointer (some ⟨L, 0, none⟩)), (5, .pointer (some ⟨w.heap.size + 1, 0, none⟩))]).toArray, []⟩ W') : (Code.region 11 wr11Ops true).wp Tryz.prog Q ⟨l.toArray, []⟩ W0 := by
  obtain ⟨v, rfl⟩ := look_fr hl
  have hq : NtQ wr11Ops Q := ⟨wr11_neat, hQ⟩
  clear hl hQ
  have Q2 : ∀ v W, Wb w k x y b0 base L o d W → wpS Tryz.prog wr11Ops Q (fun W => W.cell? ⟨w.heap.size + 1, 1, none⟩ = some (.string x)) (unl 14 [10, 11, 12, 13], frL v 99 [(1, .pointer (some ⟨L, 0, none⟩)), (5, .pointer (some ⟨w.heap.size + 1, 0, none⟩)), (81, .pointer (some ⟨L, 0, none⟩)), (84, .pointer (some ⟨L, 2, none⟩)), (85, o.c2), (87, .string x), (89, .agg #[.bool true, .string x]), (90, .slice (some ⟨W.heap.size, 0, none⟩) 1 1)]) [] (W.alloc (.cells #[.bool true, .string x] 88)) := fun v W h => by
    obtain ⟨i0, hi0, hi1, hi2, hi3⟩ := info_parts infoMoveM
    refine T_one 10 (by kernel_rfl) fun _ => O_list (some 91) (by kernel_rfl) ?_
    refine append_row _ (by kernel_rfl) (.tmp 85) (.tmp 90) 35 (by kernel_rfl) base 88 i0 (.agg #[.bool false, .string ByteArray.empty]) 2 24 Tryz.underlying35 hi0 hi1 hi2 hi3 rfl (by decide) o.c2 d.moves.length (d.moves.map Dm.cs).flatten (by kernel_rfl) (World.ownsRow.alloc h.mx.o2 _) ⟨W.heap.size, 0, none⟩ 1 1 [.bool true, .string x] (by kernel_rfl) rfl (cell_2 W _ _ _) (fun u hu => by simp at hu; rcases hu with rfl | rfl <;> rfl) (by decide) (by unfold maxLen; omega) (by omega) (by rw [World.size_alloc]; have := hba W h; omega) ?_
    intro v' W2 hown hgrow hat
    obtain ⟨g5, cap5, rfl, -, -⟩ := hown.form (by omega)
    have hL2 : W2.rowIs L 37 3 (row3 o.c0 o.c1 o.c2) := h.mx.row.of_block ((grown_alloc hgrow).block L h.mx.row.lt (fun e => own_apart h.mx.o2 h.mx.row (by decide) e.symm))
    obtain ⟨k1, k2, h2⟩ := h.grow (o' := ⟨o.c0, o.c1, .slice (some ⟨g5, 0, none⟩) (d.moves.length + 1) cap5⟩) (d2 := ⟨d.files, d.names, d.moves ++ [⟨true, x⟩]⟩) (grown_alloc hgrow) (fun g e => (h.mx.o2.lt g e).1) (own_ty h.mx.o2 (Or.inr rfl)) (own_apart h.mx.o2 h.b1 (by decide)) 2 _ (h.mx.addM ⟨true, x⟩ hown (grown_alloc hgrow))
    refine ⟨k1, _, put_putL .., ?_⟩
    refine T_z hq [11, 12] (by kernel_rfl) ?_
    refine T_one 13 (by kernel_rfl) fun _ => O_store none 35 (.tmp 93) (.tmp 91) ⟨L, 2, none⟩ (.slice (some ⟨g5, 0, none⟩) (d.moves.length + 1) cap5) _ (by kernel_rfl) (by kernel_rfl) (by kernel_rfl) (stMs W2 _ _ _ _ _ (hL2.cell (i := 2) (by omega)) (hL2.frozen 2)) k2 ?_
    exact T_end 99 [(1, .pointer (some ⟨L, 0, none⟩)), (5, .pointer (some ⟨w.heap.size + 1, 0, none⟩))] (by kernel_rfl) (by kernel_rfl) fun _ v => hend v _ _ h2
  have Q1 : ∀ v W, Wb w k x y b0 base L o d W → wpS Tryz.prog wr11Ops Q (fun W => W.cell? ⟨w.heap.size + 1, 1, none⟩ = some (.string x)) (unl 14 [9, 10, 11, 12, 13], frL v 99 [(1, .pointer (some ⟨L, 0, none⟩)), (5, .pointer (some ⟨w.heap.size + 1, 0, none⟩)), (81, .pointer (some ⟨L, 0, none⟩)), (84, .pointer (some ⟨L, 2, none⟩)), (85, o.c2), (87, .string x), (89, .agg #[.bool true, .string x])]) [] W := fun v W h => T_one 9 (by kernel_rfl) fun _ => O_val (w' := W.alloc (.cells #[.bool true, .string x] 88)) (some 90) (.slice (some ⟨W.heap.size, 0, none⟩) 1 1) (by kernel_rfl) (by kernel_rfl) ((((h).on ((Below.refl _ W).alloc (Nat.le_refl _) (.cells #[.bool true, .string x] 88)) (h).sz)).m1) ((T_fr 14 99 [10, 11, 12, 13] [(1, .pointer (some ⟨L, 0, none⟩)), (5, .pointer (some ⟨w.heap.size + 1, 0, none⟩)), (81, .pointer (some ⟨L, 0, none⟩)), (84, .pointer (some ⟨L, 2, none⟩)), (85, o.c2), (87, .string x), (89, .agg #[.bool true, .string x]), (90, .slice (some ⟨W.heap.size, 0, none⟩) 1 1)] (by kernel_rfl) fun v => Q2 v W h))
  have Q0 : ∀ v W, Wb w k x y b0 base L o d W → wpS Tryz.prog wr11Ops Q (fun W => W.cell? ⟨w.heap.size + 1, 1, none⟩ = some (.string x)) (unl 14 [7, 8, 9, 10, 11, 12, 13], frL v 99 [(1, .pointer (some ⟨L, 0, none⟩)), (5, .pointer (some ⟨w.heap.size + 1, 0, none⟩)), (81, .pointer (some ⟨L, 0, none⟩)), (84, .pointer (some ⟨L, 2, none⟩)), (85, o.c2), (87, .string x)]) [] W := fun v W h => T_one 7 (by kernel_rfl) fun _ => O_go (clone_any x W (by omega)) (by kernel_rfl) (by rintro _ W1 ⟨rfl, hb⟩; have h1 := h.on hb h.sz; exact ⟨_, rfl, (h1).m1, T_z hq [8] (by kernel_rfl) (T_fr 14 99 [9, 10, 11, 12, 13] [(1, .pointer (some ⟨L, 0, none⟩)), (5, .pointer (some ⟨w.heap.size + 1, 0, none⟩)), (81, .pointer (some ⟨L, 0, none⟩)), (84, .pointer (some ⟨L, 2, none⟩)), (85, o.c2), (87, .string x), (89, .agg #[.bool true, .string x])] (by kernel_rfl) fun v => Q1 v W1 h1)⟩)
  have P2 : ∀ v W, Wb w k x y b0 base L o d W → wpS Tryz.prog wr11Ops Q (fun W => W.cell? ⟨w.heap.size + 1, 1, none⟩ = some (.string x)) (unl 14 [4, 10, 11, 12, 13], frL v 99 [(1, .pointer (some ⟨L, 0, none⟩)), (5, .pointer (some ⟨w.heap.size + 1, 0, none⟩)), (81, .pointer (some ⟨L, 0, none⟩)), (84, .pointer (some ⟨L, 2, none⟩)), (87, .string x), (89, .agg #[.bool true, .string x]), (90, .slice (some ⟨W.heap.size, 0, none⟩) 1 1)]) [] (W.alloc (.cells #[.bool true, .string x] 88)) := fun v W h => T_one 4 (by kernel_rfl) fun hS => O_val (some 85) (o.c2) (by kernel_rfl) (ldOp (X := .tmp 84) (by kernel_rfl) (by kernel_rfl) (ldMs (W.alloc (.cells #[.bool true, .string x] 88)) ⟨L, 2, none⟩ _ ((((h).on ((Below.refl _ W).alloc (Nat.le_refl _) (.cells #[.bool true, .string x] 88)) (h).sz)).mx.row.cell (i := 2) (by omega)))) hS (T_fr 14 99 [10, 11, 12, 13] [(1, .pointer (some ⟨L, 0, none⟩)), (5, .pointer (some ⟨w.heap.size + 1, 0, none⟩)), (81, .pointer (some ⟨L, 0, none⟩)), (84, .pointer (some ⟨L, 2, none⟩)), (85, o.c2), (87, .string x), (89, .agg #[.bool true, .string x]), (90, .slice (some ⟨W.heap.size, 0, none⟩) 1 1)] (by kernel_rfl) fun v => Q2 v W h)
  have P1 : ∀ v W, Wb w k x y b0 base L o d W → wpS Tryz.prog wr11Ops Q (fun W => W.cell? ⟨w.heap.size + 1, 1, none⟩ = some (.string x)) (unl 14 [4, 9, 10, 11, 12, 13], frL v 99 [(1, .pointer (some ⟨L, 0, none⟩)), (5, .pointer (some ⟨w.heap.size + 1, 0, none⟩)), (81, .pointer (some ⟨L, 0, none⟩)), (84, .pointer (some ⟨L, 2, none⟩)), (87, .string x), (89, .agg #[.bool true, .string x])]) [] W := fun v W h => T_two 4 9 (by kernel_rfl)
    (fun hS => O_val (some 85) (o.c2) (by kernel_rfl) (ldOp (X := .tmp 84) (by kernel_rfl) (by kernel_rfl) (ldMs W ⟨L, 2, none⟩ _ ((h).mx.row.cell (i := 2) (by omega)))) hS (T_fr 14 99 [9, 10, 11, 12, 13] [(1, .pointer (some ⟨L, 0, none⟩)), (5, .pointer (some ⟨w.heap.size + 1, 0, none⟩)), (81, .pointer (some ⟨L, 0, none⟩)), (84, .pointer (some ⟨L, 2, none⟩)), (85, o.c2), (87, .string x), (89, .agg #[.bool true, .string x])] (by kernel_rfl) fun v => Q1 v W h))
    (fun _ => O_val (w' := W.alloc (.cells #[.bool true, .string x] 88)) (some 90) (.slice (some ⟨W.heap.size, 0, none⟩) 1 1) (by kernel_rfl) (by kernel_rfl) ((((h).on ((Below.refl _ W).alloc (Nat.le_refl _) (.cells #[.bool true, .string x] 88)) (h).sz)).m1) ((T_fr 14 99 [4, 10, 11, 12, 13] [(1, .pointer (some ⟨L, 0, none⟩)), (5, .pointer (some ⟨w.heap.size + 1, 0, none⟩)), (81, .pointer (some ⟨L, 0, none⟩)), (84, .pointer (some ⟨L, 2, none⟩)), (87, .string x), (89, .agg #[.bool true, .string x]), (90, .slice (some ⟨W.heap.size, 0, none⟩) 1 1)] (by kernel_rfl) fun v => P2 v W h)))
  have P0 : ∀ v W, Wb w k x y b0 base L o d W → wpS Tryz.prog wr11Ops Q (fun W => W.cell? ⟨w.heap.size + 1, 1, none⟩ = some (.string x)) (unl 14 [4, 7, 8, 9, 10, 11, 12, 13], frL v 99 [(1, .pointer (some ⟨L, 0, none⟩)), (5, .pointer (some ⟨w.heap.size + 1, 0, none⟩)), (81, .pointer (some ⟨L, 0, none⟩)), (84, .pointer (some ⟨L, 2, none⟩)), (87, .string x)]) [] W := fun v W h => T_two 4 7 (by kernel_rfl)
    (fun hS => O_val (some 85) (o.c2) (by kernel_rfl) (ldOp (X := .tmp 84) (by kernel_rfl) (by kernel_rfl) (ldMs W ⟨L, 2, none⟩ _ ((h).mx.row.cell (i := 2) (by omega)))) hS (T_fr 14 99 [7, 8, 9, 10, 11, 12, 13] [(1, .pointer (some ⟨L, 0, none⟩)), (5, .pointer (some ⟨w.heap.size + 1, 0, none⟩)), (81, .pointer (some ⟨L, 0, none⟩)), (84, .pointer (some ⟨L, 2, none⟩)), (85, o.c2), (87, .string x)] (by kernel_rfl) fun v => Q0 v W h))
    (fun _ => O_go (clone_any x W (by omega)) (by kernel_rfl) (by rintro _ W1 ⟨rfl, hb⟩; have h1 := h.on hb h.sz; exact ⟨_, rfl, (h1).m1, T_z hq [8] (by kernel_rfl) (T_fr 14 99 [4, 9, 10, 11, 12, 13] [(1, .pointer (some ⟨L, 0, none⟩)), (5, .pointer (some ⟨w.heap.size + 1, 0, none⟩)), (81, .pointer (some ⟨L, 0, none⟩)), (84, .pointer (some ⟨L, 2, none⟩)), (87, .string x), (89, .agg #[.bool true, .string x])] (by kernel_rfl) fun v => P1 v W1 h1)⟩))
  refine T_start (S := fun W => W.cell? ⟨w.heap.size + 1, 1, none⟩ = some (.string x)) (by kernel_rfl) h.m1 (T_a hq [0, 1, 2, 3, 5, 6] (fun w hS => .cons (ldStr _ _ _ hS) Lds.nil) (by kernel_rfl) ?_)
  exact T_fr 14 99 [4, 7, 8, 9, 10, 11, 12, 13] [(1, .pointer (some ⟨L, 0, none⟩)), (5, .pointer (some ⟨w.heap.size + 1, 0, none⟩)), (81, .pointer (some ⟨L, 0, none⟩)), (84, .pointer (some ⟨L, 2, none⟩)), (87, .string x)] (by kernel_rfl) fun v => P0 v _ h
end Go.Proofs.YtgdiankfnemjjaaGreat
