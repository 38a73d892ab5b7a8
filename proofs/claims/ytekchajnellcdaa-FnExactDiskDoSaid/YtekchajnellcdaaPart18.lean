/- The drawn regions of the program's write that put one behind a list of the copy. Conditions: the write and the copy lie in their boxes. -/
import Derived.Test.YtekchajnellcdaaPart17
import Derived.Test.YtekchajnellcdaaPart07
import Derived.Test.YtekchajnellcdaaPart06
import Derived.Handy
namespace Go.Proofs.Ytekchajnellcdaa
open Go Go.RowKit

/-- The write in its box, and the copy that is turned; nothing below b0 has turned. -/
structure Wb (w : World) (k : Int) (x y : ByteArray) (b0 base L : Nat) (o : C3) (d : Dk) (W : World) : Prop where
  b1 : W.rowIs (w.heap.size + 1) 38 3 (row3 (.int .i64 k) (.string x) (.string y))
  mx : MxSt base L W o.c0 o.c1 o.c2 d.files d.names d.moves
  bel : Below b0 w W
  hb : b0 ≤ base
  hL : b0 ≤ L
theorem Wb.on {w : World} {k : Int} {x y : ByteArray} {b0 base L : Nat} {o : C3} {d : Dk} {W W' : World} (h : Wb w k x y b0 base L o d W) (hb : Below W.heap.size W W') (hs : b0 ≤ W.heap.size) : Wb w k x y b0 base L o d W' := ⟨h.b1.of_block (hb.block _ h.b1.lt), h.mx.keep hb, h.bel.trans (hb.mono hs), h.hb, h.hL⟩
theorem Wb.sz {w : World} {k : Int} {x y : ByteArray} {b0 base L : Nat} {o : C3} {d : Dk} {W : World} (h : Wb w k x y b0 base L o d W) : b0 ≤ W.heap.size := Nat.le_trans h.hL (Nat.le_of_lt h.mx.row.lt)
theorem Wb.m1 {w : World} {k : Int} {x y : ByteArray} {b0 base L : Nat} {o : C3} {d : Dk} {W : World} (h : Wb w k x y b0 base L o d W) : W.cell? ⟨w.heap.size + 1, 1, none⟩ = some (.string x) := h.b1.cell (i := 1) (by omega)
theorem Wb.m2 {w : World} {k : Int} {x y : ByteArray} {b0 base L : Nat} {o : C3} {d : Dk} {W : World} (h : Wb w k x y b0 base L o d W) : W.cell? ⟨w.heap.size + 1, 2, none⟩ = some (.string y) := h.b1.cell (i := 2) (by omega)
theorem rows_ne {W : World} {a b T U n m : Nat} {f g : Nat → Value} (h1 : W.rowIs a T n f) (h2 : W.rowIs b U m g) (hT : T ≠ U) : a ≠ b := fun e => by
  subst e
  obtain ⟨c, h, -, -⟩ := h1
  obtain ⟨c', h', -, -⟩ := h2
  rw [h] at h'
  simp only [Option.some.injEq, Obj.cells.injEq] at h'
  exact hT h'.2.1
/-- A list of the copy has grown: the rest stands; then its cell is set. -/
theorem Wb.grow {w : World} {k : Int} {x y : ByteArray} {b0 base L : Nat} {o o' : C3} {d d2 : Dk} {W W' : World} {row : Option Nat} (h : Wb w k x y b0 base L o d W) (hg : W.grownBy W' row) (hr : ∀ g, row = some g → base ≤ g) (h1 : row ≠ some (w.heap.size + 1)) (j : Nat) (v : Value) (hm : MxSt base L (W'.setCell ⟨L, j, none⟩ v) o'.c0 o'.c1 o'.c2 d2.files d2.names d2.moves) : W'.cell? ⟨w.heap.size + 1, 1, none⟩ = some (.string x) ∧ (W'.setCell ⟨L, j, none⟩ v).cell? ⟨w.heap.size + 1, 1, none⟩ = some (.string x) ∧ Wb w k x y b0 base L o' d2 (W'.setCell ⟨L, j, none⟩ v) := by
  have q1 := h.hb; have q2 := h.hL
  have hne : w.heap.size + 1 ≠ L := rows_ne h.b1 h.mx.row (by decide)
  have hr1 := h.b1.of_block (hg.block _ h.b1.lt (fun e => h1 e.symm))
  have hr2 := hr1.of_block (Below.heap_setCell W' ⟨L, j, none⟩ v _ hne)
  refine ⟨hr1.cell (i := 1) (by omega), hr2.cell (i := 1) (by omega), hr2, hm, ⟨hg.os.trans h.bel.os, hg.tape.trans h.bel.tape, hg.output.trans h.bel.output, by rw [World.size_setCell]; exact Nat.le_trans h.bel.size hg.size, fun b hb => ?_⟩, h.hb, h.hL⟩
  have hs := h.sz
  rw [Below.heap_setCell _ _ _ _ (by simp; omega), hg.block b (by omega) (fun e => by have := hr b e.symm; omega)]
  exact h.bel.block b hb
theorem ldOp {o : Oper} {a : Act} {X : Operand} {T : TypeId} {ad : Addr} {v : Value} {W : World} (ho : o.op = .load T X) (hx : a.eval X = .pointer (some ad)) (h : (Instr.loadAt T (.pointer (some ad))).run Try.prog W = .ok v W) : (execOp a.eval o).run Try.prog W = .ok (.value v) W := by
  unfold execOp
  simp only [ho, hx, Sem.run_bind, Sem.run_pure, Result.andThen_ok, h]
theorem ldMs (w : World) (ad : Addr) (v : Value) (h : w.cell? ad = some v) : (Instr.loadAt 32 (.pointer (some ad))).run Try.prog w = .ok v w := by
  simp [Instr.loadAt, Instr.sureAddr, loadVar, Try.isAgg32, h, go_sem]
theorem stFs (w : World) (ad : Addr) (a : Option Addr) (n c : Nat) (u : Value) (h : w.cell? ad = some u) (hf : w.frozen? ad = false) : (Instr.storeAt 31 (.pointer (some ad)) (.slice a n c)).run Try.prog w = .ok () (w.setCell ad (.slice a n c)) := by
  simp [Instr.storeAt, Instr.sureAddr, storeVar, h, hf, go_sem]
theorem stMs (w : World) (ad : Addr) (a : Option Addr) (n c : Nat) (u : Value) (h : w.cell? ad = some u) (hf : w.frozen? ad = false) : (Instr.storeAt 32 (.pointer (some ad)) (.slice a n c)).run Try.prog w = .ok () (w.setCell ad (.slice a n c)) := by
  simp [Instr.storeAt, Instr.sureAddr, storeVar, h, hf, go_sem]
noncomputable def wr4Ops : Array Oper := fops Try.f30 4
theorem wr4_neat : Region.noSelect wr4Ops = true ∧ neat wr4Ops = true := ⟨by kernel_rfl, by kernel_rfl⟩
set_option maxRecDepth 100000 in
set_option maxHeartbeats 1600000 in
theorem wr4 (w : World) (k : Int) (x y : ByteArray) (b0 base L : Nat) (o : C3) (d : Dk) (hx : x.size ≤ 1048576) (hn : d.files.length ≤ 1000) (hba : ∀ W, Wb w k x y b0 base L o d W → base ≤ W.heap.size) (W0 : World) {l : List Value} (Q : Exit → Act → World → Prop) (hQ : ∀ c a d v w, Q (.panic c) (Act.put a d v) w → Q (.panic c) a w) (h : Wb w k x y b0 base L o d W0.drew) (hl : lookL [(1, .pointer (some ⟨L, 0, none⟩)), (5, .pointer (some ⟨w.heap.size + 1, 0, none⟩))] l = (99, [.pointer (some ⟨L, 0, none⟩), .pointer (some ⟨w.heap.size + 1, 0, none⟩)]))
    (hend : ∀ v o' W', Wb w k x y b0 base L o' ⟨d.files ++ [⟨x, ByteArray.empty, 0⟩], d.names, d.moves⟩ W' → Q .normal ⟨(frL v 99 [(1, .pointer (some ⟨L, 0, none⟩)), (5, .pointer (some ⟨w.heap.size + 1, 0, none⟩))]).toArray, []⟩ W') : (Code.region 4 wr4Ops true).wp Try.prog Q ⟨l.toArray, []⟩ W0 := by
  obtain ⟨v, rfl⟩ := look_fr hl
  have hq : NtQ wr4Ops Q := ⟨wr4_neat, hQ⟩
  clear hl hQ
  have Q2 : ∀ v W, Wb w k x y b0 base L o d W → wpS Try.prog wr4Ops Q (fun W => W.cell? ⟨w.heap.size + 1, 1, none⟩ = some (.string x)) (unl 14 [10, 11, 12, 13], frL v 99 [(1, .pointer (some ⟨L, 0, none⟩)), (5, .pointer (some ⟨w.heap.size + 1, 0, none⟩)), (19, .pointer (some ⟨L, 0, none⟩)), (22, .pointer (some ⟨L, 0, none⟩)), (23, o.c0), (25, .string x), (27, .agg #[.string x, .string ByteArray.empty, .int .i64 0]), (28, .slice (some ⟨W.heap.size, 0, none⟩) 1 1)]) [] (W.alloc (.cells #[.string x, .string ByteArray.empty, .int .i64 0] 51)) := fun v W h => by
    obtain ⟨i0, hi0, hi1, hi2, hi3⟩ := infoFileD
    refine T_one 10 (by kernel_rfl) fun _ => O_list (some 29) (by kernel_rfl) ?_
    refine append_row _ (by kernel_rfl) (.tmp 23) (.tmp 28) 31 (by kernel_rfl) base 51 i0 (.agg #[.string ByteArray.empty, .string ByteArray.empty, .int .i64 0]) 3 40 Try.underlying31 hi0 hi1 hi2 hi3 rfl (by decide) o.c0 d.files.length (d.files.map Df.cs).flatten (by kernel_rfl) (World.ownsRow.alloc h.mx.o0 _) ⟨W.heap.size, 0, none⟩ 1 1 [.string x, .string ByteArray.empty, .int .i64 0] (by kernel_rfl) rfl (cell_3 W _ _ _ _) (fun u hu => by simp at hu; rcases hu with rfl | rfl | rfl <;> rfl) (by decide) (by unfold maxLen; omega) (by omega) (by rw [World.size_alloc]; have := hba W h; omega) ?_
    intro v' W2 hown hgrow hat
    obtain ⟨g5, cap5, rfl, -, -⟩ := hown.form (by omega)
    have hL2 : W2.rowIs L 34 3 (row3 o.c0 o.c1 o.c2) := h.mx.row.of_block ((grown_alloc hgrow).block L h.mx.row.lt (fun e => own_apart h.mx.o0 h.mx.row (by decide) e.symm))
    obtain ⟨k1, k2, h2⟩ := h.grow (o' := ⟨.slice (some ⟨g5, 0, none⟩) (d.files.length + 1) cap5, o.c1, o.c2⟩) (d2 := ⟨d.files ++ [⟨x, ByteArray.empty, 0⟩], d.names, d.moves⟩) (grown_alloc hgrow) (fun g e => (h.mx.o0.lt g e).1) (own_apart h.mx.o0 h.b1 (by decide)) 0 _ (h.mx.addF ⟨x, ByteArray.empty, 0⟩ hown (grown_alloc hgrow))
    refine ⟨k1, _, put_putL .., ?_⟩
    refine T_z hq [11, 12] (by kernel_rfl) ?_
    refine T_one 13 (by kernel_rfl) fun _ => O_store none 31 (.tmp 31) (.tmp 29) ⟨L, 0, none⟩ (.slice (some ⟨g5, 0, none⟩) (d.files.length + 1) cap5) _ (by kernel_rfl) (by kernel_rfl) (by kernel_rfl) (stFs W2 _ _ _ _ _ (hL2.cell (i := 0) (by omega)) (hL2.frozen 0)) k2 ?_
    exact T_end 99 [(1, .pointer (some ⟨L, 0, none⟩)), (5, .pointer (some ⟨w.heap.size + 1, 0, none⟩))] (by kernel_rfl) (by kernel_rfl) fun _ v => hend v _ _ h2
  have Q1 : ∀ v W, Wb w k x y b0 base L o d W → wpS Try.prog wr4Ops Q (fun W => W.cell? ⟨w.heap.size + 1, 1, none⟩ = some (.string x)) (unl 14 [9, 10, 11, 12, 13], frL v 99 [(1, .pointer (some ⟨L, 0, none⟩)), (5, .pointer (some ⟨w.heap.size + 1, 0, none⟩)), (19, .pointer (some ⟨L, 0, none⟩)), (22, .pointer (some ⟨L, 0, none⟩)), (23, o.c0), (25, .string x), (27, .agg #[.string x, .string ByteArray.empty, .int .i64 0])]) [] W := fun v W h => T_one 9 (by kernel_rfl) fun _ => O_val (w' := W.alloc (.cells #[.string x, .string ByteArray.empty, .int .i64 0] 51)) (some 28) (.slice (some ⟨W.heap.size, 0, none⟩) 1 1) (by kernel_rfl) (by kernel_rfl) ((((h).on ((Below.refl _ W).alloc (Nat.le_refl _) (.cells #[.string x, .string ByteArray.empty, .int .i64 0] 51)) (h).sz)).m1) ((T_fr 14 99 [10, 11, 12, 13] [(1, .pointer (some ⟨L, 0, none⟩)), (5, .pointer (some ⟨w.heap.size + 1, 0, none⟩)), (19, .pointer (some ⟨L, 0, none⟩)), (22, .pointer (some ⟨L, 0, none⟩)), (23, o.c0), (25, .string x), (27, .agg #[.string x, .string ByteArray.empty, .int .i64 0]), (28, .slice (some ⟨W.heap.size, 0, none⟩) 1 1)] (by kernel_rfl) fun v => Q2 v W h))
  have Q0 : ∀ v W, Wb w k x y b0 base L o d W → wpS Try.prog wr4Ops Q (fun W => W.cell? ⟨w.heap.size + 1, 1, none⟩ = some (.string x)) (unl 14 [7, 8, 9, 10, 11, 12, 13], frL v 99 [(1, .pointer (some ⟨L, 0, none⟩)), (5, .pointer (some ⟨w.heap.size + 1, 0, none⟩)), (19, .pointer (some ⟨L, 0, none⟩)), (22, .pointer (some ⟨L, 0, none⟩)), (23, o.c0), (25, .string x)]) [] W := fun v W h => T_one 7 (by kernel_rfl) fun _ => O_go (clone_any x W (by omega)) (by kernel_rfl) (by rintro _ W1 ⟨rfl, hb⟩; have h1 := h.on hb h.sz; exact ⟨_, rfl, (h1).m1, T_z hq [8] (by kernel_rfl) (T_fr 14 99 [9, 10, 11, 12, 13] [(1, .pointer (some ⟨L, 0, none⟩)), (5, .pointer (some ⟨w.heap.size + 1, 0, none⟩)), (19, .pointer (some ⟨L, 0, none⟩)), (22, .pointer (some ⟨L, 0, none⟩)), (23, o.c0), (25, .string x), (27, .agg #[.string x, .string ByteArray.empty, .int .i64 0])] (by kernel_rfl) fun v => Q1 v W1 h1)⟩)
  have P2 : ∀ v W, Wb w k x y b0 base L o d W → wpS Try.prog wr4Ops Q (fun W => W.cell? ⟨w.heap.size + 1, 1, none⟩ = some (.string x)) (unl 14 [4, 10, 11, 12, 13], frL v 99 [(1, .pointer (some ⟨L, 0, none⟩)), (5, .pointer (some ⟨w.heap.size + 1, 0, none⟩)), (19, .pointer (some ⟨L, 0, none⟩)), (22, .pointer (some ⟨L, 0, none⟩)), (25, .string x), (27, .agg #[.string x, .string ByteArray.empty, .int .i64 0]), (28, .slice (some ⟨W.heap.size, 0, none⟩) 1 1)]) [] (W.alloc (.cells #[.string x, .string ByteArray.empty, .int .i64 0] 51)) := fun v W h => T_one 4 (by kernel_rfl) fun hS => O_val (some 23) (o.c0) (by kernel_rfl) (ldOp (X := .tmp 22) (by kernel_rfl) (by kernel_rfl) (ldFs (W.alloc (.cells #[.string x, .string ByteArray.empty, .int .i64 0] 51)) ⟨L, 0, none⟩ _ ((((h).on ((Below.refl _ W).alloc (Nat.le_refl _) (.cells #[.string x, .string ByteArray.empty, .int .i64 0] 51)) (h).sz)).mx.row.cell (i := 0) (by omega)))) hS (T_fr 14 99 [10, 11, 12, 13] [(1, .pointer (some ⟨L, 0, none⟩)), (5, .pointer (some ⟨w.heap.size + 1, 0, none⟩)), (19, .pointer (some ⟨L, 0, none⟩)), (22, .pointer (some ⟨L, 0, none⟩)), (23, o.c0), (25, .string x), (27, .agg #[.string x, .string ByteArray.empty, .int .i64 0]), (28, .slice (some ⟨W.heap.size, 0, none⟩) 1 1)] (by kernel_rfl) fun v => Q2 v W h)
  have P1 : ∀ v W, Wb w k x y b0 base L o d W → wpS Try.prog wr4Ops Q (fun W => W.cell? ⟨w.heap.size + 1, 1, none⟩ = some (.string x)) (unl 14 [4, 9, 10, 11, 12, 13], frL v 99 [(1, .pointer (some ⟨L, 0, none⟩)), (5, .pointer (some ⟨w.heap.size + 1, 0, none⟩)), (19, .pointer (some ⟨L, 0, none⟩)), (22, .pointer (some ⟨L, 0, none⟩)), (25, .string x), (27, .agg #[.string x, .string ByteArray.empty, .int .i64 0])]) [] W := fun v W h => T_two 4 9 (by kernel_rfl)
    (fun hS => O_val (some 23) (o.c0) (by kernel_rfl) (ldOp (X := .tmp 22) (by kernel_rfl) (by kernel_rfl) (ldFs W ⟨L, 0, none⟩ _ ((h).mx.row.cell (i := 0) (by omega)))) hS (T_fr 14 99 [9, 10, 11, 12, 13] [(1, .pointer (some ⟨L, 0, none⟩)), (5, .pointer (some ⟨w.heap.size + 1, 0, none⟩)), (19, .pointer (some ⟨L, 0, none⟩)), (22, .pointer (some ⟨L, 0, none⟩)), (23, o.c0), (25, .string x), (27, .agg #[.string x, .string ByteArray.empty, .int .i64 0])] (by kernel_rfl) fun v => Q1 v W h))
    (fun _ => O_val (w' := W.alloc (.cells #[.string x, .string ByteArray.empty, .int .i64 0] 51)) (some 28) (.slice (some ⟨W.heap.size, 0, none⟩) 1 1) (by kernel_rfl) (by kernel_rfl) ((((h).on ((Below.refl _ W).alloc (Nat.le_refl _) (.cells #[.string x, .string ByteArray.empty, .int .i64 0] 51)) (h).sz)).m1) ((T_fr 14 99 [4, 10, 11, 12, 13] [(1, .pointer (some ⟨L, 0, none⟩)), (5, .pointer (some ⟨w.heap.size + 1, 0, none⟩)), (19, .pointer (some ⟨L, 0, none⟩)), (22, .pointer (some ⟨L, 0, none⟩)), (25, .string x), (27, .agg #[.string x, .string ByteArray.empty, .int .i64 0]), (28, .slice (some ⟨W.heap.size, 0, none⟩) 1 1)] (by kernel_rfl) fun v => P2 v W h)))
  have P0 : ∀ v W, Wb w k x y b0 base L o d W → wpS Try.prog wr4Ops Q (fun W => W.cell? ⟨w.heap.size + 1, 1, none⟩ = some (.string x)) (unl 14 [4, 7, 8, 9, 10, 11, 12, 13], frL v 99 [(1, .pointer (some ⟨L, 0, none⟩)), (5, .pointer (some ⟨w.heap.size + 1, 0, none⟩)), (19, .pointer (some ⟨L, 0, none⟩)), (22, .pointer (some ⟨L, 0, none⟩)), (25, .string x)]) [] W := fun v W h => T_two 4 7 (by kernel_rfl)
    (fun hS => O_val (some 23) (o.c0) (by kernel_rfl) (ldOp (X := .tmp 22) (by kernel_rfl) (by kernel_rfl) (ldFs W ⟨L, 0, none⟩ _ ((h).mx.row.cell (i := 0) (by omega)))) hS (T_fr 14 99 [7, 8, 9, 10, 11, 12, 13] [(1, .pointer (some ⟨L, 0, none⟩)), (5, .pointer (some ⟨w.heap.size + 1, 0, none⟩)), (19, .pointer (some ⟨L, 0, none⟩)), (22, .pointer (some ⟨L, 0, none⟩)), (23, o.c0), (25, .string x)] (by kernel_rfl) fun v => Q0 v W h))
    (fun _ => O_go (clone_any x W (by omega)) (by kernel_rfl) (by rintro _ W1 ⟨rfl, hb⟩; have h1 := h.on hb h.sz; exact ⟨_, rfl, (h1).m1, T_z hq [8] (by kernel_rfl) (T_fr 14 99 [4, 9, 10, 11, 12, 13] [(1, .pointer (some ⟨L, 0, none⟩)), (5, .pointer (some ⟨w.heap.size + 1, 0, none⟩)), (19, .pointer (some ⟨L, 0, none⟩)), (22, .pointer (some ⟨L, 0, none⟩)), (25, .string x), (27, .agg #[.string x, .string ByteArray.empty, .int .i64 0])] (by kernel_rfl) fun v => P1 v W1 h1)⟩))
  refine T_start (S := fun W => W.cell? ⟨w.heap.size + 1, 1, none⟩ = some (.string x)) (by kernel_rfl) h.m1 (T_a hq [0, 1, 2, 3, 5, 6] (fun w hS => .cons (ldStr _ _ _ hS) Lds.nil) (by kernel_rfl) ?_)
  exact T_fr 14 99 [4, 7, 8, 9, 10, 11, 12, 13] [(1, .pointer (some ⟨L, 0, none⟩)), (5, .pointer (some ⟨w.heap.size + 1, 0, none⟩)), (19, .pointer (some ⟨L, 0, none⟩)), (22, .pointer (some ⟨L, 0, none⟩)), (25, .string x)] (by kernel_rfl) fun v => P0 v _ h
noncomputable def wr5Ops : Array Oper := fops Try.f30 5
theorem wr5_neat : Region.noSelect wr5Ops = true ∧ neat wr5Ops = true := ⟨by kernel_rfl, by kernel_rfl⟩
set_option maxRecDepth 100000 in
set_option maxHeartbeats 1600000 in
theorem wr5 (w : World) (k : Int) (x y : ByteArray) (b0 base L : Nat) (o : C3) (d : Dk) (hx : x.size ≤ 1048576) (hn : d.moves.length ≤ 1000) (hba : ∀ W, Wb w k x y b0 base L o d W → base ≤ W.heap.size) (W0 : World) {l : List Value} (Q : Exit → Act → World → Prop) (hQ : ∀ c a d v w, Q (.panic c) (Act.put a d v) w → Q (.panic c) a w) (h : Wb w k x y b0 base L o d W0.drew) (hl : lookL [(1, .pointer (some ⟨L, 0, none⟩)), (5, .pointer (some ⟨w.heap.size + 1, 0, none⟩))] l = (99, [.pointer (some ⟨L, 0, none⟩), .pointer (some ⟨w.heap.size + 1, 0, none⟩)]))
    (hend : ∀ v o' W', Wb w k x y b0 base L o' ⟨d.files, d.names, d.moves ++ [⟨false, x⟩]⟩ W' → Q .normal ⟨(frL v 99 [(1, .pointer (some ⟨L, 0, none⟩)), (5, .pointer (some ⟨w.heap.size + 1, 0, none⟩))]).toArray, []⟩ W') : (Code.region 5 wr5Ops true).wp Try.prog Q ⟨l.toArray, []⟩ W0 := by
  obtain ⟨v, rfl⟩ := look_fr hl
  have hq : NtQ wr5Ops Q := ⟨wr5_neat, hQ⟩
  clear hl hQ
  have Q2 : ∀ v W, Wb w k x y b0 base L o d W → wpS Try.prog wr5Ops Q (fun W => W.cell? ⟨w.heap.size + 1, 1, none⟩ = some (.string x)) (unl 14 [10, 11, 12, 13], frL v 99 [(1, .pointer (some ⟨L, 0, none⟩)), (5, .pointer (some ⟨w.heap.size + 1, 0, none⟩)), (32, .pointer (some ⟨L, 0, none⟩)), (35, .pointer (some ⟨L, 2, none⟩)), (36, o.c2), (38, .string x), (40, .agg #[.bool false, .string x]), (41, .slice (some ⟨W.heap.size, 0, none⟩) 1 1)]) [] (W.alloc (.cells #[.bool false, .string x] 53)) := fun v W h => by
    obtain ⟨i0, hi0, hi1, hi2, hi3⟩ := info_parts infoMoveM
    refine T_one 10 (by kernel_rfl) fun _ => O_list (some 42) (by kernel_rfl) ?_
    refine append_row _ (by kernel_rfl) (.tmp 36) (.tmp 41) 32 (by kernel_rfl) base 53 i0 (.agg #[.bool false, .string ByteArray.empty]) 2 24 Try.underlying32 hi0 hi1 hi2 hi3 rfl (by decide) o.c2 d.moves.length (d.moves.map Dm.cs).flatten (by kernel_rfl) (World.ownsRow.alloc h.mx.o2 _) ⟨W.heap.size, 0, none⟩ 1 1 [.bool false, .string x] (by kernel_rfl) rfl (cell_2 W _ _ _) (fun u hu => by simp at hu; rcases hu with rfl | rfl <;> rfl) (by decide) (by unfold maxLen; omega) (by omega) (by rw [World.size_alloc]; have := hba W h; omega) ?_
    intro v' W2 hown hgrow hat
    obtain ⟨g5, cap5, rfl, -, -⟩ := hown.form (by omega)
    have hL2 : W2.rowIs L 34 3 (row3 o.c0 o.c1 o.c2) := h.mx.row.of_block ((grown_alloc hgrow).block L h.mx.row.lt (fun e => own_apart h.mx.o2 h.mx.row (by decide) e.symm))
    obtain ⟨k1, k2, h2⟩ := h.grow (o' := ⟨o.c0, o.c1, .slice (some ⟨g5, 0, none⟩) (d.moves.length + 1) cap5⟩) (d2 := ⟨d.files, d.names, d.moves ++ [⟨false, x⟩]⟩) (grown_alloc hgrow) (fun g e => (h.mx.o2.lt g e).1) (own_apart h.mx.o2 h.b1 (by decide)) 2 _ (h.mx.addM ⟨false, x⟩ hown (grown_alloc hgrow))
    refine ⟨k1, _, put_putL .., ?_⟩
    refine T_z hq [11, 12] (by kernel_rfl) ?_
    refine T_one 13 (by kernel_rfl) fun _ => O_store none 32 (.tmp 44) (.tmp 42) ⟨L, 2, none⟩ (.slice (some ⟨g5, 0, none⟩) (d.moves.length + 1) cap5) _ (by kernel_rfl) (by kernel_rfl) (by kernel_rfl) (stMs W2 _ _ _ _ _ (hL2.cell (i := 2) (by omega)) (hL2.frozen 2)) k2 ?_
    exact T_end 99 [(1, .pointer (some ⟨L, 0, none⟩)), (5, .pointer (some ⟨w.heap.size + 1, 0, none⟩))] (by kernel_rfl) (by kernel_rfl) fun _ v => hend v _ _ h2
  have Q1 : ∀ v W, Wb w k x y b0 base L o d W → wpS Try.prog wr5Ops Q (fun W => W.cell? ⟨w.heap.size + 1, 1, none⟩ = some (.string x)) (unl 14 [9, 10, 11, 12, 13], frL v 99 [(1, .pointer (some ⟨L, 0, none⟩)), (5, .pointer (some ⟨w.heap.size + 1, 0, none⟩)), (32, .pointer (some ⟨L, 0, none⟩)), (35, .pointer (some ⟨L, 2, none⟩)), (36, o.c2), (38, .string x), (40, .agg #[.bool false, .string x])]) [] W := fun v W h => T_one 9 (by kernel_rfl) fun _ => O_val (w' := W.alloc (.cells #[.bool false, .string x] 53)) (some 41) (.slice (some ⟨W.heap.size, 0, none⟩) 1 1) (by kernel_rfl) (by kernel_rfl) ((((h).on ((Below.refl _ W).alloc (Nat.le_refl _) (.cells #[.bool false, .string x] 53)) (h).sz)).m1) ((T_fr 14 99 [10, 11, 12, 13] [(1, .pointer (some ⟨L, 0, none⟩)), (5, .pointer (some ⟨w.heap.size + 1, 0, none⟩)), (32, .pointer (some ⟨L, 0, none⟩)), (35, .pointer (some ⟨L, 2, none⟩)), (36, o.c2), (38, .string x), (40, .agg #[.bool false, .string x]), (41, .slice (some ⟨W.heap.size, 0, none⟩) 1 1)] (by kernel_rfl) fun v => Q2 v W h))
  have Q0 : ∀ v W, Wb w k x y b0 base L o d W → wpS Try.prog wr5Ops Q (fun W => W.cell? ⟨w.heap.size + 1, 1, none⟩ = some (.string x)) (unl 14 [7, 8, 9, 10, 11, 12, 13], frL v 99 [(1, .pointer (some ⟨L, 0, none⟩)), (5, .pointer (some ⟨w.heap.size + 1, 0, none⟩)), (32, .pointer (some ⟨L, 0, none⟩)), (35, .pointer (some ⟨L, 2, none⟩)), (36, o.c2), (38, .string x)]) [] W := fun v W h => T_one 7 (by kernel_rfl) fun _ => O_go (clone_any x W (by omega)) (by kernel_rfl) (by rintro _ W1 ⟨rfl, hb⟩; have h1 := h.on hb h.sz; exact ⟨_, rfl, (h1).m1, T_z hq [8] (by kernel_rfl) (T_fr 14 99 [9, 10, 11, 12, 13] [(1, .pointer (some ⟨L, 0, none⟩)), (5, .pointer (some ⟨w.heap.size + 1, 0, none⟩)), (32, .pointer (some ⟨L, 0, none⟩)), (35, .pointer (some ⟨L, 2, none⟩)), (36, o.c2), (38, .string x), (40, .agg #[.bool false, .string x])] (by kernel_rfl) fun v => Q1 v W1 h1)⟩)
  have P2 : ∀ v W, Wb w k x y b0 base L o d W → wpS Try.prog wr5Ops Q (fun W => W.cell? ⟨w.heap.size + 1, 1, none⟩ = some (.string x)) (unl 14 [4, 10, 11, 12, 13], frL v 99 [(1, .pointer (some ⟨L, 0, none⟩)), (5, .pointer (some ⟨w.heap.size + 1, 0, none⟩)), (32, .pointer (some ⟨L, 0, none⟩)), (35, .pointer (some ⟨L, 2, none⟩)), (38, .string x), (40, .agg #[.bool false, .string x]), (41, .slice (some ⟨W.heap.size, 0, none⟩) 1 1)]) [] (W.alloc (.cells #[.bool false, .string x] 53)) := fun v W h => T_one 4 (by kernel_rfl) fun hS => O_val (some 36) (o.c2) (by kernel_rfl) (ldOp (X := .tmp 35) (by kernel_rfl) (by kernel_rfl) (ldMs (W.alloc (.cells #[.bool false, .string x] 53)) ⟨L, 2, none⟩ _ ((((h).on ((Below.refl _ W).alloc (Nat.le_refl _) (.cells #[.bool false, .string x] 53)) (h).sz)).mx.row.cell (i := 2) (by omega)))) hS (T_fr 14 99 [10, 11, 12, 13] [(1, .pointer (some ⟨L, 0, none⟩)), (5, .pointer (some ⟨w.heap.size + 1, 0, none⟩)), (32, .pointer (some ⟨L, 0, none⟩)), (35, .pointer (some ⟨L, 2, none⟩)), (36, o.c2), (38, .string x), (40, .agg #[.bool false, .string x]), (41, .slice (some ⟨W.heap.size, 0, none⟩) 1 1)] (by kernel_rfl) fun v => Q2 v W h)
  have P1 : ∀ v W, Wb w k x y b0 base L o d W → wpS Try.prog wr5Ops Q (fun W => W.cell? ⟨w.heap.size + 1, 1, none⟩ = some (.string x)) (unl 14 [4, 9, 10, 11, 12, 13], frL v 99 [(1, .pointer (some ⟨L, 0, none⟩)), (5, .pointer (some ⟨w.heap.size + 1, 0, none⟩)), (32, .pointer (some ⟨L, 0, none⟩)), (35, .pointer (some ⟨L, 2, none⟩)), (38, .string x), (40, .agg #[.bool false, .string x])]) [] W := fun v W h => T_two 4 9 (by kernel_rfl)
    (fun hS => O_val (some 36) (o.c2) (by kernel_rfl) (ldOp (X := .tmp 35) (by kernel_rfl) (by kernel_rfl) (ldMs W ⟨L, 2, none⟩ _ ((h).mx.row.cell (i := 2) (by omega)))) hS (T_fr 14 99 [9, 10, 11, 12, 13] [(1, .pointer (some ⟨L, 0, none⟩)), (5, .pointer (some ⟨w.heap.size + 1, 0, none⟩)), (32, .pointer (some ⟨L, 0, none⟩)), (35, .pointer (some ⟨L, 2, none⟩)), (36, o.c2), (38, .string x), (40, .agg #[.bool false, .string x])] (by kernel_rfl) fun v => Q1 v W h))
    (fun _ => O_val (w' := W.alloc (.cells #[.bool false, .string x] 53)) (some 41) (.slice (some ⟨W.heap.size, 0, none⟩) 1 1) (by kernel_rfl) (by kernel_rfl) ((((h).on ((Below.refl _ W).alloc (Nat.le_refl _) (.cells #[.bool false, .string x] 53)) (h).sz)).m1) ((T_fr 14 99 [4, 10, 11, 12, 13] [(1, .pointer (some ⟨L, 0, none⟩)), (5, .pointer (some ⟨w.heap.size + 1, 0, none⟩)), (32, .pointer (some ⟨L, 0, none⟩)), (35, .pointer (some ⟨L, 2, none⟩)), (38, .string x), (40, .agg #[.bool false, .string x]), (41, .slice (some ⟨W.heap.size, 0, none⟩) 1 1)] (by kernel_rfl) fun v => P2 v W h)))
  have P0 : ∀ v W, Wb w k x y b0 base L o d W → wpS Try.prog wr5Ops Q (fun W => W.cell? ⟨w.heap.size + 1, 1, none⟩ = some (.string x)) (unl 14 [4, 7, 8, 9, 10, 11, 12, 13], frL v 99 [(1, .pointer (some ⟨L, 0, none⟩)), (5, .pointer (some ⟨w.heap.size + 1, 0, none⟩)), (32, .pointer (some ⟨L, 0, none⟩)), (35, .pointer (some ⟨L, 2, none⟩)), (38, .string x)]) [] W := fun v W h => T_two 4 7 (by kernel_rfl)
    (fun hS => O_val (some 36) (o.c2) (by kernel_rfl) (ldOp (X := .tmp 35) (by kernel_rfl) (by kernel_rfl) (ldMs W ⟨L, 2, none⟩ _ ((h).mx.row.cell (i := 2) (by omega)))) hS (T_fr 14 99 [7, 8, 9, 10, 11, 12, 13] [(1, .pointer (some ⟨L, 0, none⟩)), (5, .pointer (some ⟨w.heap.size + 1, 0, none⟩)), (32, .pointer (some ⟨L, 0, none⟩)), (35, .pointer (some ⟨L, 2, none⟩)), (36, o.c2), (38, .string x)] (by kernel_rfl) fun v => Q0 v W h))
    (fun _ => O_go (clone_any x W (by omega)) (by kernel_rfl) (by rintro _ W1 ⟨rfl, hb⟩; have h1 := h.on hb h.sz; exact ⟨_, rfl, (h1).m1, T_z hq [8] (by kernel_rfl) (T_fr 14 99 [4, 9, 10, 11, 12, 13] [(1, .pointer (some ⟨L, 0, none⟩)), (5, .pointer (some ⟨w.heap.size + 1, 0, none⟩)), (32, .pointer (some ⟨L, 0, none⟩)), (35, .pointer (some ⟨L, 2, none⟩)), (38, .string x), (40, .agg #[.bool false, .string x])] (by kernel_rfl) fun v => P1 v W1 h1)⟩))
  refine T_start (S := fun W => W.cell? ⟨w.heap.size + 1, 1, none⟩ = some (.string x)) (by kernel_rfl) h.m1 (T_a hq [0, 1, 2, 3, 5, 6] (fun w hS => .cons (ldStr _ _ _ hS) Lds.nil) (by kernel_rfl) ?_)
  exact T_fr 14 99 [4, 7, 8, 9, 10, 11, 12, 13] [(1, .pointer (some ⟨L, 0, none⟩)), (5, .pointer (some ⟨w.heap.size + 1, 0, none⟩)), (32, .pointer (some ⟨L, 0, none⟩)), (35, .pointer (some ⟨L, 2, none⟩)), (38, .string x)] (by kernel_rfl) fun v => P0 v _ h
noncomputable def wr11Ops : Array Oper := fops Try.f30 11
theorem wr11_neat : Region.noSelect wr11Ops = true ∧ neat wr11Ops = true := ⟨by kernel_rfl, by kernel_rfl⟩
set_option maxRecDepth 100000 in
set_option maxHeartbeats 1600000 in
theorem wr11 (w : World) (k : Int) (x y : ByteArray) (b0 base L : Nat) (o : C3) (d : Dk) (hx : x.size ≤ 1048576) (hn : d.moves.length ≤ 1000) (hba : ∀ W, Wb w k x y b0 base L o d W → base ≤ W.heap.size) (W0 : World) {l : List Value} (Q : Exit → Act → World → Prop) (hQ : ∀ c a d v w, Q (.panic c) (Act.put a d v) w → Q (.panic c) a w) (h : Wb w k x y b0 base L o d W0.drew) (hl : lookL [(1, .pointer (some ⟨L, 0, none⟩)), (5, .pointer (some ⟨w.heap.size + 1, 0, none⟩))] l = (99, [.pointer (some ⟨L, 0, none⟩), .pointer (some ⟨w.heap.size + 1, 0, none⟩)]))
    (hend : ∀ v o' W', Wb w k x y b0 base L o' ⟨d.files, d.names, d.moves ++ [⟨true, x⟩]⟩ W' → Q .normal ⟨(frL v 99 [(1, .pointer (some ⟨L, 0, none⟩)), (5, .pointer (some ⟨w.heap.size + 1, 0, none⟩))]).toArray, []⟩ W') : (Code.region 11 wr11Ops true).wp Try.prog Q ⟨l.toArray, []⟩ W0 := by
  obtain ⟨v, rfl⟩ := look_fr hl
  have hq : NtQ wr11Ops Q := ⟨wr11_neat, hQ⟩
  clear hl hQ
  have Q2 : ∀ v W, Wb w k x y b0 base L o d W → wpS Try.prog wr11Ops Q (fun W => W.cell? ⟨w.heap.size + 1, 1, none⟩ = some (.string x)) (unl 14 [10, 11, 12, 13], frL v 99 [(1, .pointer (some ⟨L, 0, none⟩)), (5, .pointer (some ⟨w.heap.size + 1, 0, none⟩)), (81, .pointer (some ⟨L, 0, none⟩)), (84, .pointer (some ⟨L, 2, none⟩)), (85, o.c2), (87, .string x), (89, .agg #[.bool true, .string x]), (90, .slice (some ⟨W.heap.size, 0, none⟩) 1 1)]) [] (W.alloc (.cells #[.bool true, .string x] 53)) := fun v W h => by
    obtain ⟨i0, hi0, hi1, hi2, hi3⟩ := info_parts infoMoveM
    refine T_one 10 (by kernel_rfl) fun _ => O_list (some 91) (by kernel_rfl) ?_
    refine append_row _ (by kernel_rfl) (.tmp 85) (.tmp 90) 32 (by kernel_rfl) base 53 i0 (.agg #[.bool false, .string ByteArray.empty]) 2 24 Try.underlying32 hi0 hi1 hi2 hi3 rfl (by decide) o.c2 d.moves.length (d.moves.map Dm.cs).flatten (by kernel_rfl) (World.ownsRow.alloc h.mx.o2 _) ⟨W.heap.size, 0, none⟩ 1 1 [.bool true, .string x] (by kernel_rfl) rfl (cell_2 W _ _ _) (fun u hu => by simp at hu; rcases hu with rfl | rfl <;> rfl) (by decide) (by unfold maxLen; omega) (by omega) (by rw [World.size_alloc]; have := hba W h; omega) ?_
    intro v' W2 hown hgrow hat
    obtain ⟨g5, cap5, rfl, -, -⟩ := hown.form (by omega)
    have hL2 : W2.rowIs L 34 3 (row3 o.c0 o.c1 o.c2) := h.mx.row.of_block ((grown_alloc hgrow).block L h.mx.row.lt (fun e => own_apart h.mx.o2 h.mx.row (by decide) e.symm))
    obtain ⟨k1, k2, h2⟩ := h.grow (o' := ⟨o.c0, o.c1, .slice (some ⟨g5, 0, none⟩) (d.moves.length + 1) cap5⟩) (d2 := ⟨d.files, d.names, d.moves ++ [⟨true, x⟩]⟩) (grown_alloc hgrow) (fun g e => (h.mx.o2.lt g e).1) (own_apart h.mx.o2 h.b1 (by decide)) 2 _ (h.mx.addM ⟨true, x⟩ hown (grown_alloc hgrow))
    refine ⟨k1, _, put_putL .., ?_⟩
    refine T_z hq [11, 12] (by kernel_rfl) ?_
    refine T_one 13 (by kernel_rfl) fun _ => O_store none 32 (.tmp 93) (.tmp 91) ⟨L, 2, none⟩ (.slice (some ⟨g5, 0, none⟩) (d.moves.length + 1) cap5) _ (by kernel_rfl) (by kernel_rfl) (by kernel_rfl) (stMs W2 _ _ _ _ _ (hL2.cell (i := 2) (by omega)) (hL2.frozen 2)) k2 ?_
    exact T_end 99 [(1, .pointer (some ⟨L, 0, none⟩)), (5, .pointer (some ⟨w.heap.size + 1, 0, none⟩))] (by kernel_rfl) (by kernel_rfl) fun _ v => hend v _ _ h2
  have Q1 : ∀ v W, Wb w k x y b0 base L o d W → wpS Try.prog wr11Ops Q (fun W => W.cell? ⟨w.heap.size + 1, 1, none⟩ = some (.string x)) (unl 14 [9, 10, 11, 12, 13], frL v 99 [(1, .pointer (some ⟨L, 0, none⟩)), (5, .pointer (some ⟨w.heap.size + 1, 0, none⟩)), (81, .pointer (some ⟨L, 0, none⟩)), (84, .pointer (some ⟨L, 2, none⟩)), (85, o.c2), (87, .string x), (89, .agg #[.bool true, .string x])]) [] W := fun v W h => T_one 9 (by kernel_rfl) fun _ => O_val (w' := W.alloc (.cells #[.bool true, .string x] 53)) (some 90) (.slice (some ⟨W.heap.size, 0, none⟩) 1 1) (by kernel_rfl) (by kernel_rfl) ((((h).on ((Below.refl _ W).alloc (Nat.le_refl _) (.cells #[.bool true, .string x] 53)) (h).sz)).m1) ((T_fr 14 99 [10, 11, 12, 13] [(1, .pointer (some ⟨L, 0, none⟩)), (5, .pointer (some ⟨w.heap.size + 1, 0, none⟩)), (81, .pointer (some ⟨L, 0, none⟩)), (84, .pointer (some ⟨L, 2, none⟩)), (85, o.c2), (87, .string x), (89, .agg #[.bool true, .string x]), (90, .slice (some ⟨W.heap.size, 0, none⟩) 1 1)] (by kernel_rfl) fun v => Q2 v W h))
  have Q0 : ∀ v W, Wb w k x y b0 base L o d W → wpS Try.prog wr11Ops Q (fun W => W.cell? ⟨w.heap.size + 1, 1, none⟩ = some (.string x)) (unl 14 [7, 8, 9, 10, 11, 12, 13], frL v 99 [(1, .pointer (some ⟨L, 0, none⟩)), (5, .pointer (some ⟨w.heap.size + 1, 0, none⟩)), (81, .pointer (some ⟨L, 0, none⟩)), (84, .pointer (some ⟨L, 2, none⟩)), (85, o.c2), (87, .string x)]) [] W := fun v W h => T_one 7 (by kernel_rfl) fun _ => O_go (clone_any x W (by omega)) (by kernel_rfl) (by rintro _ W1 ⟨rfl, hb⟩; have h1 := h.on hb h.sz; exact ⟨_, rfl, (h1).m1, T_z hq [8] (by kernel_rfl) (T_fr 14 99 [9, 10, 11, 12, 13] [(1, .pointer (some ⟨L, 0, none⟩)), (5, .pointer (some ⟨w.heap.size + 1, 0, none⟩)), (81, .pointer (some ⟨L, 0, none⟩)), (84, .pointer (some ⟨L, 2, none⟩)), (85, o.c2), (87, .string x), (89, .agg #[.bool true, .string x])] (by kernel_rfl) fun v => Q1 v W1 h1)⟩)
  have P2 : ∀ v W, Wb w k x y b0 base L o d W → wpS Try.prog wr11Ops Q (fun W => W.cell? ⟨w.heap.size + 1, 1, none⟩ = some (.string x)) (unl 14 [4, 10, 11, 12, 13], frL v 99 [(1, .pointer (some ⟨L, 0, none⟩)), (5, .pointer (some ⟨w.heap.size + 1, 0, none⟩)), (81, .pointer (some ⟨L, 0, none⟩)), (84, .pointer (some ⟨L, 2, none⟩)), (87, .string x), (89, .agg #[.bool true, .string x]), (90, .slice (some ⟨W.heap.size, 0, none⟩) 1 1)]) [] (W.alloc (.cells #[.bool true, .string x] 53)) := fun v W h => T_one 4 (by kernel_rfl) fun hS => O_val (some 85) (o.c2) (by kernel_rfl) (ldOp (X := .tmp 84) (by kernel_rfl) (by kernel_rfl) (ldMs (W.alloc (.cells #[.bool true, .string x] 53)) ⟨L, 2, none⟩ _ ((((h).on ((Below.refl _ W).alloc (Nat.le_refl _) (.cells #[.bool true, .string x] 53)) (h).sz)).mx.row.cell (i := 2) (by omega)))) hS (T_fr 14 99 [10, 11, 12, 13] [(1, .pointer (some ⟨L, 0, none⟩)), (5, .pointer (some ⟨w.heap.size + 1, 0, none⟩)), (81, .pointer (some ⟨L, 0, none⟩)), (84, .pointer (some ⟨L, 2, none⟩)), (85, o.c2), (87, .string x), (89, .agg #[.bool true, .string x]), (90, .slice (some ⟨W.heap.size, 0, none⟩) 1 1)] (by kernel_rfl) fun v => Q2 v W h)
  have P1 : ∀ v W, Wb w k x y b0 base L o d W → wpS Try.prog wr11Ops Q (fun W => W.cell? ⟨w.heap.size + 1, 1, none⟩ = some (.string x)) (unl 14 [4, 9, 10, 11, 12, 13], frL v 99 [(1, .pointer (some ⟨L, 0, none⟩)), (5, .pointer (some ⟨w.heap.size + 1, 0, none⟩)), (81, .pointer (some ⟨L, 0, none⟩)), (84, .pointer (some ⟨L, 2, none⟩)), (87, .string x), (89, .agg #[.bool true, .string x])]) [] W := fun v W h => T_two 4 9 (by kernel_rfl)
    (fun hS => O_val (some 85) (o.c2) (by kernel_rfl) (ldOp (X := .tmp 84) (by kernel_rfl) (by kernel_rfl) (ldMs W ⟨L, 2, none⟩ _ ((h).mx.row.cell (i := 2) (by omega)))) hS (T_fr 14 99 [9, 10, 11, 12, 13] [(1, .pointer (some ⟨L, 0, none⟩)), (5, .pointer (some ⟨w.heap.size + 1, 0, none⟩)), (81, .pointer (some ⟨L, 0, none⟩)), (84, .pointer (some ⟨L, 2, none⟩)), (85, o.c2), (87, .string x), (89, .agg #[.bool true, .string x])] (by kernel_rfl) fun v => Q1 v W h))
    (fun _ => O_val (w' := W.alloc (.cells #[.bool true, .string x] 53)) (some 90) (.slice (some ⟨W.heap.size, 0, none⟩) 1 1) (by kernel_rfl) (by kernel_rfl) ((((h).on ((Below.refl _ W).alloc (Nat.le_refl _) (.cells #[.bool true, .string x] 53)) (h).sz)).m1) ((T_fr 14 99 [4, 10, 11, 12, 13] [(1, .pointer (some ⟨L, 0, none⟩)), (5, .pointer (some ⟨w.heap.size + 1, 0, none⟩)), (81, .pointer (some ⟨L, 0, none⟩)), (84, .pointer (some ⟨L, 2, none⟩)), (87, .string x), (89, .agg #[.bool true, .string x]), (90, .slice (some ⟨W.heap.size, 0, none⟩) 1 1)] (by kernel_rfl) fun v => P2 v W h)))
  have P0 : ∀ v W, Wb w k x y b0 base L o d W → wpS Try.prog wr11Ops Q (fun W => W.cell? ⟨w.heap.size + 1, 1, none⟩ = some (.string x)) (unl 14 [4, 7, 8, 9, 10, 11, 12, 13], frL v 99 [(1, .pointer (some ⟨L, 0, none⟩)), (5, .pointer (some ⟨w.heap.size + 1, 0, none⟩)), (81, .pointer (some ⟨L, 0, none⟩)), (84, .pointer (some ⟨L, 2, none⟩)), (87, .string x)]) [] W := fun v W h => T_two 4 7 (by kernel_rfl)
    (fun hS => O_val (some 85) (o.c2) (by kernel_rfl) (ldOp (X := .tmp 84) (by kernel_rfl) (by kernel_rfl) (ldMs W ⟨L, 2, none⟩ _ ((h).mx.row.cell (i := 2) (by omega)))) hS (T_fr 14 99 [7, 8, 9, 10, 11, 12, 13] [(1, .pointer (some ⟨L, 0, none⟩)), (5, .pointer (some ⟨w.heap.size + 1, 0, none⟩)), (81, .pointer (some ⟨L, 0, none⟩)), (84, .pointer (some ⟨L, 2, none⟩)), (85, o.c2), (87, .string x)] (by kernel_rfl) fun v => Q0 v W h))
    (fun _ => O_go (clone_any x W (by omega)) (by kernel_rfl) (by rintro _ W1 ⟨rfl, hb⟩; have h1 := h.on hb h.sz; exact ⟨_, rfl, (h1).m1, T_z hq [8] (by kernel_rfl) (T_fr 14 99 [4, 9, 10, 11, 12, 13] [(1, .pointer (some ⟨L, 0, none⟩)), (5, .pointer (some ⟨w.heap.size + 1, 0, none⟩)), (81, .pointer (some ⟨L, 0, none⟩)), (84, .pointer (some ⟨L, 2, none⟩)), (87, .string x), (89, .agg #[.bool true, .string x])] (by kernel_rfl) fun v => P1 v W1 h1)⟩))
  refine T_start (S := fun W => W.cell? ⟨w.heap.size + 1, 1, none⟩ = some (.string x)) (by kernel_rfl) h.m1 (T_a hq [0, 1, 2, 3, 5, 6] (fun w hS => .cons (ldStr _ _ _ hS) Lds.nil) (by kernel_rfl) ?_)
  exact T_fr 14 99 [4, 7, 8, 9, 10, 11, 12, 13] [(1, .pointer (some ⟨L, 0, none⟩)), (5, .pointer (some ⟨w.heap.size + 1, 0, none⟩)), (81, .pointer (some ⟨L, 0, none⟩)), (84, .pointer (some ⟨L, 2, none⟩)), (87, .string x)] (by kernel_rfl) fun v => P0 v _ h
end Go.Proofs.Ytekchajnellcdaa

/- The program's DiskOk: what it answers, and that it turns nothing that was there. No conditions. -/

namespace Go.Proofs.Ytekchajnellcdaa
open Go Go.RowKit

end Go.Proofs.Ytekchajnellcdaa

/- The walks of the program's refusalIf, firstRefusal (of two codes), movesFull. No conditions. -/

namespace Go.Proofs.Ytekchajnellcdaa
open Go Go.RowKit

set_option maxRecDepth 100000 in
theorem refusalIf_any (b : Bool) (c : Int) (w : World) : Calls Try.prog 54 #[.bool b, .int .i64 c] w fun e w' => e = .returned (.int .i64 (if b = true then c else 0)) ∧ w' = w := by
  cases b with
  | true =>
    go_enter Try.func54, Try.ntmps54
    go_wp2_with fail
    go_ret
    exact ⟨rfl, rfl⟩
  | false =>
    go_enter Try.func54, Try.ntmps54
    go_wp2_with fail
    go_ret
    exact ⟨rfl, rfl⟩

def fr2 (c0 c1 : Int) : Int := if c0 = 0 then c1 else c0
set_option maxRecDepth 100000 in
set_option maxHeartbeats 1600000 in
theorem firstRefusal_two (g : Nat) (c0 c1 : Int) (w : World) (h0 : w.cell? ⟨g, 0, none⟩ = some (.int .i64 c0)) (h1 : w.cell? ⟨g, 1, none⟩ = some (.int .i64 c1)) :
    Calls Try.prog 53 #[.slice (some ⟨g, 0, none⟩) 2 2] w fun e w' => e = .returned (.int .i64 (fr2 c0 c1)) ∧ w' = w := by
  have hcell : ∀ i : Nat, i < 2 → ∃ c : Int, w.cell? ⟨g, i, none⟩ = some (.int .i64 c) ∧ c = (if i = 0 then c0 else c1) := fun i hi => by
    match i, hi with
    | 0, _ => exact ⟨c0, h0, rfl⟩
    | 1, _ => exact ⟨c1, h1, rfl⟩
  have HC := hide hcell
  clear hcell h0 h1
  go_enter Try.func53, Try.ntmps53
  go_wp2_with fail
  go_loopw [7] (fun i wr => ∃ (k : Nat), k ≤ 2 ∧ i = .int .i64 k ∧ Hid (1 ≤ k → c0 = 0) ∧ Hid (2 ≤ k → c1 = 0) ∧ wr = w) (fun i _ => 2 - (intOf i).toNat)
  case atStart => exact ⟨0, by omega, rfl, fun h => by omega, fun h => by omega, rfl⟩
  case round =>
    obtain ⟨k, hk, rfl, H0, H1, rfl⟩ := hrel
    by_cases hlt : k < 2
    · obtain ⟨c, hc, hcv⟩ := unhide HC k hlt
      have HCV := hide hcv
      clear hcv
      by_cases hz : c = 0
      · go_wp2_with fail
        go_roundw
        case rel => exact ⟨k + 1, by omega, by go_num, fun _ => (by
            by_cases e : k = 0
            · subst e; have := unhide HCV; rw [if_pos rfl] at this; omega
            · exact H0.out (by omega)), fun h => (by
            have e : k = 1 := by omega
            subst e; have := unhide HCV; rw [if_neg (by decide)] at this; omega), trivial⟩
        case measure => simp [intOf]; omega
      · go_wp2_with fail
        go_ret
        have hf : fr2 c0 c1 = c := by
          unfold fr2
          by_cases e : k = 0
          · have h := unhide HCV; rw [if_pos e] at h
            rw [if_neg (by omega)]; omega
          · have h := unhide HCV; rw [if_neg e] at h
            rw [if_pos (H0.out (by omega))]; omega
        refine ⟨?_, rfl⟩
        rw [hf]; rfl
    · go_wp2_with fail
      go_ret
      have hf : fr2 c0 c1 = 0 := by
        unfold fr2
        rw [if_pos (H0.out (by omega))]; exact H1.out (by omega)
      refine ⟨?_, rfl⟩
      rw [hf]; rfl

set_option maxRecDepth 100000 in
set_option maxHeartbeats 1600000 in
theorem movesFull_any (q0 q1 x2 q3 x4 : Option Addr) (n2 m2 n4 m4 : Nat) (w : World) :
    Calls Try.prog 56 #[.agg #[.pointer q0, .pointer q1, .slice x2 n2 m2, .pointer q3, .slice x4 n4 m4]] w fun e w' => e = .returned (.bool (decide (128 ≤ n4))) ∧ Below w.heap.size w w' := by
  have hbx : ∀ o, Below w.heap.size w (w.alloc o) := fun o => (Below.refl _ _).alloc (Nat.le_refl _) o
  have HBX := hide hbx
  clear hbx
  have hd : decide ((128 : Int) ≤ (n4 : Int)) = decide (128 ≤ n4) := by
    rw [decide_eq_decide]; omega
  have HD := hide hd
  clear hd
  by_cases h : 128 ≤ n4
  · go_enter Try.func56, Try.ntmps56
    go_wp2_with fail
    go_ret
    refine ⟨?_, unhide HBX _⟩
    first | rfl | (simp [h]; done) | (rw [← unhide HD]; rfl)
  · go_enter Try.func56, Try.ntmps56
    go_wp2_with fail
    go_ret
    refine ⟨?_, unhide HBX _⟩
    first | rfl | (simp [h]; done) | (rw [← unhide HD]; rfl)
end Go.Proofs.Ytekchajnellcdaa
