/- The drawn regions of the specification's DiskDo. Conditions: the disk, the write and the copy lie in their boxes. -/
import Derived.Test.YtgdiankfnemjjaaGreatPart19
import Derived.Test.YtgdiankfnemjjaaGreatPart20
namespace Go.Proofs.YtgdiankfnemjjaaGreat
open Go Go.RowKit

theorem inSame (a b c : Int) (w : World) : Calls Tryz.prog 53 #[.int .i64 a, .int .i64 b, .int .i64 c] w fun e w' => e = .returned (.bool (decide (b ≤ a ∧ a ≤ c))) ∧ w' = w := by
  go_enter Tryz.func53, Tryz.ntmps53
  by_cases h1 : b ≤ a
  · by_cases h2 : a ≤ c
    · go_wp2_with fail
      go_ret
      exact ⟨by simp [h2]; omega, rfl⟩
    · go_wp2_with fail
      go_ret
      exact ⟨by simp; omega, rfl⟩
  · go_wp2_with fail
    go_ret
    exact ⟨by simp; omega, rfl⟩
theorem drewB (W : World) : Below W.heap.size W W.drew := ⟨rfl, rfl, rfl, Nat.le_refl _, fun _ _ => rfl⟩
theorem rowDiskO : ∃ d, Tryz.prog.underlying 37 = some d ∧ d.isRow = true := ⟨_, Tryz.underlying37, by rfl⟩
theorem info3D : (Tryz.prog.info? 37).map (·.size) = some 3 := by kernel_rfl
theorem range3 {W : World} {b T : Nat} {x y z : Value} (h : W.rowIs b T 3 (row3 x y z)) : W.rangeAt b 0 [x, y, z] := fun j v hv => by
  match j, hv with
  | 0, hv => simp only [List.getElem?_cons_zero, Option.some.injEq] at hv; subst hv; exact h.cell (i := 0) (by omega)
  | 1, hv => simp only [List.getElem?_cons_succ, List.getElem?_cons_zero, Option.some.injEq] at hv; subst hv; exact h.cell (i := 1) (by omega)
  | 2, hv => simp only [List.getElem?_cons_succ, List.getElem?_cons_zero, Option.some.injEq] at hv; subst hv; exact h.cell (i := 2) (by omega)
  | _ + 3, hv => simp at hv
theorem ldDk {W : World} {b : Nat} {x y z : Value} (h : W.rowIs b 37 3 (row3 x y z)) : (Instr.loadAt 37 (.pointer (some ⟨b, 0, none⟩))).run Tryz.prog W = .ok (.agg #[x, y, z]) W := by
  obtain ⟨dd, hdu, hdr⟩ := rowDiskO
  unfold Instr.loadAt
  simp only [Instr.sureAddr, Sem.run_bind, Sem.run_pure, Result.andThen_ok, run_loadVar_mid W b 0 37 [x, y, z] dd (range3 h) hdu hdr info3D]
theorem ldStr (w : World) (ad : Addr) (v : Value) (h : w.cell? ad = some v) : (Instr.loadAt 9 (.pointer (some ad))).run Tryz.prog w = .ok v w := by
  simp [Instr.loadAt, Instr.sureAddr, loadVar, Tryz.isAgg9, h, go_sem]
theorem ldFs (w : World) (ad : Addr) (v : Value) (h : w.cell? ad = some v) : (Instr.loadAt 34 (.pointer (some ad))).run Tryz.prog w = .ok v w := by
  simp [Instr.loadAt, Instr.sureAddr, loadVar, Tryz.isAgg34, h, go_sem]
theorem Dg.m1 {P : Nat → Prop} {w W : World} {d : Dk} {c : C3} {k : Int} {x y : ByteArray} (h : Dg P w d c k x y W) : W.cell? ⟨w.heap.size + 1, 1, none⟩ = some (.string x) := h.b1.cell (i := 1) (by omega)
theorem Dg.m2 {P : Nat → Prop} {w W : World} {d : Dk} {c : C3} {k : Int} {x y : ByteArray} (h : Dg P w d c k x y W) : W.cell? ⟨w.heap.size + 1, 2, none⟩ = some (.string y) := h.b1.cell (i := 2) (by omega)
theorem Dg.k0 {P : Nat → Prop} {w W : World} {d : Dk} {c : C3} {k : Int} {x y : ByteArray} (h : Dg P w d c k x y W) : W.cell? ⟨w.heap.size, 0, none⟩ = some c.c0 := h.b0.cell (i := 0) (by omega)
/-- Three cells of a block are set. -/
theorem set3 (W : World) (b : Nat) (x y z : Value) : (∀ a, a ≠ b → (W.setCells b 0 [x, y, z]).heap[a]? = W.heap[a]?) ∧ (W.setCells b 0 [x, y, z]).heap.size = W.heap.size ∧ (∀ T f, W.rowIs b T 3 f → (W.setCells b 0 [x, y, z]).rowIs b T 3 (row3 x y z)) ∧ (∀ B V, B ≤ b → Below B V W → Below B V (W.setCells b 0 [x, y, z])) := by
  show (∀ a, a ≠ b → (((W.setCell ⟨b, 0, none⟩ x).setCell ⟨b, 1, none⟩ y).setCell ⟨b, 2, none⟩ z).heap[a]? = W.heap[a]?) ∧ (((W.setCell ⟨b, 0, none⟩ x).setCell ⟨b, 1, none⟩ y).setCell ⟨b, 2, none⟩ z).heap.size = W.heap.size ∧ (∀ T f, W.rowIs b T 3 f → (((W.setCell ⟨b, 0, none⟩ x).setCell ⟨b, 1, none⟩ y).setCell ⟨b, 2, none⟩ z).rowIs b T 3 (row3 x y z)) ∧ (∀ B V, B ≤ b → Below B V W → Below B V (((W.setCell ⟨b, 0, none⟩ x).setCell ⟨b, 1, none⟩ y).setCell ⟨b, 2, none⟩ z))
  refine ⟨fun a ha => ?_, by simp only [World.size_setCell], fun T f h => (((h.set 0 x).set 1 y).set 2 z).congr (fun i hi => by rcases (show i = 0 ∨ i = 1 ∨ i = 2 by omega) with rfl | rfl | rfl <;> rfl), fun B V hB h => ((h.setCell hB x).setCell hB y).setCell hB z⟩
  rw [Below.heap_setCell _ _ _ _ ha, Below.heap_setCell _ _ _ _ ha, Below.heap_setCell _ _ _ _ ha]
theorem there3 {w : World} {b : Nat} {T : TypeId} {n : Nat} {f : Nat → Value} (h : w.rowIs b T n f) : w.there b 0 n := fun j hj => by
  rw [Nat.zero_add]
  exact ⟨by rw [h.cell hj]; rfl, h.frozen j⟩
theorem namesD_len {d : Dk} (h : DkOkS d) : (namesD d).length ≤ 1000 := by
  have := (cutN_facts h d.moves.length).2.1
  unfold cutN at this
  rw [show clampQ (d.moves.length : Int) d.moves.length = d.moves.length by unfold clampQ; omega, List.take_of_length_le (Nat.le_refl _)] at this
  rw [namesD_ok h]
  exact this
noncomputable def do16Ops : Array Oper := fops Tryz.f27 16
theorem do16_neat : Region.noSelect do16Ops = true ∧ neat do16Ops = true := ⟨by kernel_rfl, by kernel_rfl⟩
set_option maxRecDepth 100000 in
set_option maxHeartbeats 1600000 in
theorem do16 (P : Nat → Prop) (w : World) (d : Dk) (c : C3) (k : Int) (x y : ByteArray) (base L : Nat) (o : C3) (W0 : World) {l : List Value} (Q : Exit → Act → World → Prop) (hQ : ∀ c a d v w, Q (.panic c) (Act.put a d v) w → Q (.panic c) a w) (hS : Dz P w d c k x y base L o d W0.drew) (hl : lookL [(2, .pointer (some ⟨w.heap.size, 0, none⟩)), (3, .pointer (some ⟨w.heap.size + 1, 0, none⟩)), (4, .pointer (some ⟨w.heap.size + 2, 0, none⟩)), (6, .pointer (some ⟨L, 0, none⟩))] l = (143, [.pointer (some ⟨w.heap.size, 0, none⟩), .pointer (some ⟨w.heap.size + 1, 0, none⟩), .pointer (some ⟨w.heap.size + 2, 0, none⟩), .pointer (some ⟨L, 0, none⟩)]))
    (hend : ∀ v W', Dz P w d c k x y base L o d W' → Q .normal ⟨(frL v 143 [(2, .pointer (some ⟨w.heap.size, 0, none⟩)), (3, .pointer (some ⟨w.heap.size + 1, 0, none⟩)), (4, .pointer (some ⟨w.heap.size + 2, 0, none⟩)), (6, .pointer (some ⟨L, 0, none⟩)), (77, .bool (!hasB (namesD d) x))]).toArray, []⟩ W') : (Code.region 16 do16Ops true).wp Tryz.prog Q ⟨l.toArray, []⟩ W0 := by
  obtain ⟨v, rfl⟩ := look_fr hl
  have hq : NtQ do16Ops Q := ⟨do16_neat, hQ⟩
  refine T_start (S := fun W => Dz P w d c k x y base L o d W) (by kernel_rfl) hS ?_
  clear hl hQ hS
  generalize W0.drew = W
  refine T_a hq (List.range 6) (fun w h => .cons (ldDk h.g.b0) (.cons (ldStr _ _ _ h.g.m1) Lds.nil)) (by kernel_rfl) ?_
  refine T_one 1 (by kernel_rfl) fun h => O_go (specDiskNames_any d P c W h.g.pl h.g.dk) (by kernel_rfl) ?_
  rintro _ W1 ⟨u, rfl, hn⟩
  refine ⟨_, rfl, h.on hn.below, ?_⟩
  refine T_one 4 (by kernel_rfl) fun h => O_go (l6Has_any u (namesD d) x W1 hn.strs) (by kernel_rfl) ?_
  rintro _ W2 ⟨rfl, hw⟩
  refine ⟨_, rfl, hw ▸ h, ?_⟩
  exact T_z hq (List.range 6) (by kernel_rfl) (T_end 143 [(2, .pointer (some ⟨w.heap.size, 0, none⟩)), (3, .pointer (some ⟨w.heap.size + 1, 0, none⟩)), (4, .pointer (some ⟨w.heap.size + 2, 0, none⟩)), (6, .pointer (some ⟨L, 0, none⟩)), (77, .bool (!hasB (namesD d) x))] (by kernel_rfl) (by kernel_rfl) fun hS v => hend v _ hS)
noncomputable def do13Ops : Array Oper := fops Tryz.f27 13
theorem do13_neat : Region.noSelect do13Ops = true ∧ neat do13Ops = true := ⟨by kernel_rfl, by kernel_rfl⟩
set_option maxRecDepth 100000 in
set_option maxHeartbeats 1600000 in
theorem do13 (P : Nat → Prop) (w : World) (d : Dk) (c : C3) (k : Int) (x y : ByteArray) (hok : DkOkS d) (W0 : World) {l : List Value} (Q : Exit → Act → World → Prop) (hQ : ∀ c a d v w, Q (.panic c) (Act.put a d v) w → Q (.panic c) a w) (hg : Dg P w d c k x y W0.drew) (hl : lookL [(2, .pointer (some ⟨w.heap.size, 0, none⟩)), (4, .pointer (some ⟨w.heap.size + 2, 0, none⟩))] l = (143, [.pointer (some ⟨w.heap.size, 0, none⟩), .pointer (some ⟨w.heap.size + 2, 0, none⟩)]))
    (hend : ∀ v (c' : C3) W', W'.rowIs (w.heap.size + 2) 37 3 (row3 c'.c0 c'.c1 c'.c2) → DkAt (New w W') W' (keepD d (namesD d)) c' → Below w.heap.size w W' → Q .normal ⟨(frL v 143 [(4, .pointer (some ⟨w.heap.size + 2, 0, none⟩)), (5, .int .i64 0)]).toArray, []⟩ W') : (Code.region 13 do13Ops true).wp Tryz.prog Q ⟨l.toArray, []⟩ W0 := by
  obtain ⟨v, rfl⟩ := look_fr hl
  have hq : NtQ do13Ops Q := ⟨do13_neat, hQ⟩
  refine T_start (S := fun W => W.rowIs w.heap.size 37 3 (row3 c.c0 c.c1 c.c2)) (by kernel_rfl) hg.b0 ?_
  clear hl hQ
  generalize W0.drew = W at hg ⊢
  refine T_a hq (List.range 6) (fun w h => .cons (ldDk h) (.cons (ldDk h) Lds.nil)) (by kernel_rfl) ?_
  refine T_one 2 (by kernel_rfl) fun h => O_go (specDiskNames_any d P c W hg.pl hg.dk) (by kernel_rfl) ?_
  rintro _ W1 ⟨u, rfl, hn⟩
  have hg1 := hg.on hn.below
  refine ⟨_, rfl, hg1.b0, ?_⟩
  refine T_one 3 (by kernel_rfl) fun _ => O_go (l41Keep_any d (namesD d) (fun b => b < W1.heap.size) c u W1 (fun _ h => h) (hg1.dk.carry (fun _ _ => rfl) hg1.pl) (hn.strs.carry (fun _ _ => rfl) fun b hb => hb.2) (namesD_len hok) (fun z hz => by obtain ⟨i, hi, -, -, e⟩ := names_file hz; exact ⟨i, hi, e⟩)) (by kernel_rfl) ?_
  rintro _ W2 ⟨c', rfl, hd2, hb2⟩
  have hg2 := hg1.on hb2
  refine ⟨_, rfl, hg2.b0, ?_⟩
  obtain ⟨c0', c1', c2'⟩ := c'
  obtain ⟨a0, p0, g0, -, -⟩ := hd2.fs.open
  obtain ⟨a1, p1, g1, -, -⟩ := id hd2.ns
  obtain ⟨a2, p2, g2, -, -⟩ := hd2.ms.open
  simp only at g0 g1 g2
  subst g0 g1 g2
  obtain ⟨s1, s2, s3, s4⟩ := set3 W2 (w.heap.size + 2) (.slice a0 (keepD d (namesD d)).files.length p0) (.slice a1 (keepD d (namesD d)).names.length p1) (.slice a2 (keepD d (namesD d)).moves.length p2)
  have hsz := hg1.sz
  refine T_one 4 (by kernel_rfl) fun _ => O_store_mid none 37 (.tmp 4) (.tmp 66) (w.heap.size + 2) 0 #[.slice a0 (keepD d (namesD d)).files.length p0, .slice a1 (keepD d (namesD d)).names.length p1, .slice a2 (keepD d (namesD d)).moves.length p2] (by kernel_rfl) (by kernel_rfl) (by kernel_rfl) (there3 hg2.b2) info3D (by simp [Value.oneCell']) (hg2.b0.of_block (s1 _ (by omega))) ?_
  exact T_z hq (List.range 6) (by kernel_rfl) (T_end 143 [(4, .pointer (some ⟨w.heap.size + 2, 0, none⟩)), (5, .int .i64 0)] (by kernel_rfl) (by kernel_rfl) fun _ v => hend v ⟨_, _, _⟩ _ (s3 _ _ hg2.b2) (hd2.carry (fun b hb => s1 b (by have := hb.1; omega)) (fun b hb => ⟨by have := hb.1; omega, by rw [s2]; exact hb.2⟩)) (s4 _ _ (by omega) hg2.bel))
theorem addr_add (b q n : Nat) : (⟨b, q, none⟩ : Addr).add n = ⟨b, q + n, none⟩ := by
  unfold Addr.add
  split
  · rename_i h; simp_all
  · rfl
theorem ixRun {o : Oper} {a : Act} {X I : Operand} {b q n cap i : Nat} (ho : o.op = .indexAddr 34 X I) (hx : a.eval X = .slice (some ⟨b, q, none⟩) n cap) (hi : a.eval I = .int .i64 (i : Nat)) (h : i < n) (w : World) : (execOp a.eval o).run Tryz.prog w = .ok (.value (.pointer (some ⟨b, q + i * 3, none⟩))) w := by
  have h1 : (0 : Int) ≤ (i : Int) ∧ (i : Int) < (n : Int) := ⟨by omega, by omega⟩
  have h2 : (Instr.indexAt 34 (.slice (some ⟨b, q, none⟩) n cap) (.int .i64 (i : Nat))).run Tryz.prog w = .ok (.pointer (some ⟨b, q + i * 3, none⟩)) w := by
    rw [← addr_add b q (i * 3)]
    simp [go_sem, h1]
  unfold execOp
  simp only [ho, hx, hi, Sem.run_bind, Sem.run_pure, Result.andThen_ok, h2]
theorem Dg.file {P : Nat → Prop} {w W : World} {d : Dk} {c : C3} {k : Int} {x y : ByteArray} (h : Dg P w d c k x y W) {i : Nat} (hi : i < d.files.length) {b o p : Nat} (hc : c.c0 = .slice (some ⟨b, o, none⟩) d.files.length p) : W.cell? ⟨b, o + i * 3 + 1, none⟩ = some (.string d.files[i].data) := by
  obtain ⟨a, q, e, -, hf⟩ := h.dk.fs.open
  rw [hc] at e
  simp only [Value.slice.injEq, true_and] at e
  obtain ⟨e1, -⟩ := e
  obtain ⟨b', o', e2, -, h1, -⟩ := hf i hi
  rw [← e1] at e2
  simp only [Option.some.injEq, Addr.mk.injEq, and_true] at e2
  obtain ⟨rfl, rfl⟩ := e2
  exact h1.2.1
theorem ixRun0 {o : Oper} {a : Act} {X I : Operand} {g n cap i : Nat} (ho : o.op = .indexAddr 34 X I) (hx : a.eval X = .slice (some ⟨g, 0, none⟩) n cap) (hi : a.eval I = .int .i64 (i : Nat)) (h : i < n) (w : World) : (execOp a.eval o).run Tryz.prog w = .ok (.value (.pointer (some ⟨g, i * 3, none⟩))) w := by
  have := ixRun ho hx hi h w
  rw [Nat.zero_add] at this
  exact this
theorem addRun {o : Oper} {a : Act} {X Y : Operand} {T : TypeId} {p q : ByteArray} (ho : o.op = .binOp .add 9 X Y T) (hx : a.eval X = .string p) (hy : a.eval Y = .string q) (hs : ¬ (9223372036854775807 < p.size + q.size)) (w : World) : (execOp a.eval o).run Tryz.prog w = .ok (.value (.string (p ++ q))) w := by
  unfold execOp
  simp only [ho, hx, hy, eqGuard, Sem.run_bind, Sem.run_pure]
  simp [go_sem]
  omega
theorem stStr (w : World) (ad : Addr) (s : ByteArray) (u : Value) (h : w.cell? ad = some u) (hf : w.frozen? ad = false) : (Instr.storeAt 9 (.pointer (some ad)) (.string s)).run Tryz.prog w = .ok () (w.setCell ad (.string s)) := by
  simp [Instr.storeAt, Instr.sureAddr, storeVar, h, hf, go_sem]
theorem stInt (w : World) (ad : Addr) (s : Int) (u : Value) (h : w.cell? ad = some u) (hf : w.frozen? ad = false) : (Instr.storeAt 3 (.pointer (some ad)) (.int .i64 s)).run Tryz.prog w = .ok () (w.setCell ad (.int .i64 s)) := by
  simp [Instr.storeAt, Instr.sureAddr, storeVar, h, hf, go_sem]
/-- A cell of a file of the copy. -/
theorem MxSt.cellF {base L g cap : Nat} {W : World} {x1 x2 : Value} {fs : List Df} {ns : List ByteArray} {ms : List Dm} (h : MxSt base L W (.slice (some ⟨g, 0, none⟩) fs.length cap) x1 x2 fs ns ms) (i j : Nat) (hi : i < fs.length) (hj : j < 3) : (∃ u, W.cell? ⟨g, i * 3 + j, none⟩ = some u) ∧ W.frozen? ⟨g, i * 3 + j, none⟩ = false ∧ base ≤ g := by
  rcases h.o0.2 with ⟨hv, _⟩ | ⟨g', c', cur, hv, hb, hh, hnc, _, hsz, _⟩
  · simp at hv
  · simp only [Value.slice.injEq, Option.some.injEq, Addr.mk.injEq, and_true, true_and] at hv
    obtain ⟨rfl, rfl⟩ := hv
    have hlt : i * 3 + j < cur.size := by rw [hsz]; omega
    refine ⟨⟨cur[i * 3 + j], ?_⟩, by simp [World.frozen?, hh], hb⟩
    simp [World.cell?, hh, hlt]
noncomputable def do24Ops : Array Oper := fops Tryz.f27 24
theorem do24_neat : Region.noSelect do24Ops = true ∧ neat do24Ops = true := ⟨by kernel_rfl, by kernel_rfl⟩
set_option maxRecDepth 100000 in
set_option maxHeartbeats 1600000 in
theorem do24 (P : Nat → Prop) (w : World) (d : Dk) (c : C3) (k : Int) (x y : ByteArray) (base L : Nat) (o : C3) (i : Nat) (hi : i < d.files.length) (b0 q0 p0 : Nat) (hA : c.c0 = .slice (some ⟨b0, q0, none⟩) d.files.length p0) (W0 : World) {l : List Value} (Q : Exit → Act → World → Prop) (hQ : ∀ c a d v w, Q (.panic c) (Act.put a d v) w → Q (.panic c) a w) (hS : Dz P w d c k x y base L o d W0.drew) (hl : lookL [(2, .pointer (some ⟨w.heap.size, 0, none⟩)), (3, .pointer (some ⟨w.heap.size + 1, 0, none⟩)), (4, .pointer (some ⟨w.heap.size + 2, 0, none⟩)), (6, .pointer (some ⟨L, 0, none⟩)), (7, .int .i64 (i : Nat))] l = (143, [.pointer (some ⟨w.heap.size, 0, none⟩), .pointer (some ⟨w.heap.size + 1, 0, none⟩), .pointer (some ⟨w.heap.size + 2, 0, none⟩), .pointer (some ⟨L, 0, none⟩), .int .i64 (i : Nat)]))
    (hend : ∀ v W', Dz P w d c k x y base L o d W' → Q .normal ⟨(frL v 143 [(2, .pointer (some ⟨w.heap.size, 0, none⟩)), (3, .pointer (some ⟨w.heap.size + 1, 0, none⟩)), (4, .pointer (some ⟨w.heap.size + 2, 0, none⟩)), (6, .pointer (some ⟨L, 0, none⟩)), (7, .int .i64 (i : Nat)), (112, .bool (decide (IntKind.i64.wrap (20000 - (d.files[i].data.size : Int)) < (y.size : Int))))]).toArray, []⟩ W') : (Code.region 24 do24Ops true).wp Tryz.prog Q ⟨l.toArray, []⟩ W0 := by
  obtain ⟨v, rfl⟩ := look_fr hl
  have hq : NtQ do24Ops Q := ⟨do24_neat, hQ⟩
  refine T_start (S := fun W => Dz P w d c k x y base L o d W) (by kernel_rfl) hS ?_
  clear hl hQ hS
  generalize W0.drew = W
  refine T_a hq (List.range 6) (fun w h => .cons (ldStr _ _ _ h.g.m2) (.cons (ldFs _ _ _ (hA ▸ h.g.k0)) Lds.nil)) (by kernel_rfl) ?_
  refine T_yld hq 6 (some 107) (.pointer (some ⟨b0, q0 + i * 3, none⟩)) (by kernel_rfl) (by kernel_rfl) (fun w _ => ixRun (cap := p0) (X := .tmp 105) (I := .tmp 106) (by kernel_rfl) (by kernel_rfl) (by kernel_rfl) hi w) ?_
  refine T_a hq (List.range 12) (fun w h => .cons (ldStr _ _ _ (h.g.file hi hA)) Lds.nil) (by kernel_rfl) ?_
  exact T_end 143 [(2, .pointer (some ⟨w.heap.size, 0, none⟩)), (3, .pointer (some ⟨w.heap.size + 1, 0, none⟩)), (4, .pointer (some ⟨w.heap.size + 2, 0, none⟩)), (6, .pointer (some ⟨L, 0, none⟩)), (7, .int .i64 (i : Nat)), (112, .bool (decide (IntKind.i64.wrap (20000 - (d.files[i].data.size : Int)) < (y.size : Int))))] (by kernel_rfl) (by kernel_rfl) fun hS v => hend v _ hS
noncomputable def do26Ops : Array Oper := fops Tryz.f27 26
theorem do26_neat : Region.noSelect do26Ops = true ∧ neat do26Ops = true := ⟨by kernel_rfl, by kernel_rfl⟩
set_option maxRecDepth 100000 in
set_option maxHeartbeats 1600000 in
theorem do26 (P : Nat → Prop) (w : World) (d : Dk) (c : C3) (k : Int) (x y : ByteArray) (base L : Nat) (o : C3) (i : Nat) (hi : i < d.files.length) (b0 q0 p0 : Nat) (hA : c.c0 = .slice (some ⟨b0, q0, none⟩) d.files.length p0) (g s0 : Nat) (hO : o.c0 = .slice (some ⟨g, 0, none⟩) d.files.length s0) (hs : ¬ (9223372036854775807 < d.files[i].data.size + y.size)) (W0 : World) {l : List Value} (Q : Exit → Act → World → Prop) (hQ : ∀ c a d v w, Q (.panic c) (Act.put a d v) w → Q (.panic c) a w) (hz : Dz P w d c k x y base L o d W0.drew) (hl : lookL [(2, .pointer (some ⟨w.heap.size, 0, none⟩)), (3, .pointer (some ⟨w.heap.size + 1, 0, none⟩)), (4, .pointer (some ⟨w.heap.size + 2, 0, none⟩)), (6, .pointer (some ⟨L, 0, none⟩)), (7, .int .i64 (i : Nat))] l = (143, [.pointer (some ⟨w.heap.size, 0, none⟩), .pointer (some ⟨w.heap.size + 1, 0, none⟩), .pointer (some ⟨w.heap.size + 2, 0, none⟩), .pointer (some ⟨L, 0, none⟩), .int .i64 (i : Nat)]))
    (hend : ∀ v W', Dz P w d c k x y base L o ⟨d.files.set i ⟨d.files[i].name, d.files[i].data ++ y, d.files[i].kept⟩, d.names, d.moves⟩ W' → Q .normal ⟨(frL v 143 [(2, .pointer (some ⟨w.heap.size, 0, none⟩)), (3, .pointer (some ⟨w.heap.size + 1, 0, none⟩)), (4, .pointer (some ⟨w.heap.size + 2, 0, none⟩)), (6, .pointer (some ⟨L, 0, none⟩))]).toArray, []⟩ W') : (Code.region 26 do26Ops true).wp Tryz.prog Q ⟨l.toArray, []⟩ W0 := by
  obtain ⟨v, rfl⟩ := look_fr hl
  have hq : NtQ do26Ops Q := ⟨do26_neat, hQ⟩
  refine T_start (S := fun W => Dg P w d c k x y W ∧ W.cell? ⟨L, 0, none⟩ = some (.slice (some ⟨g, 0, none⟩) d.files.length s0)) (by kernel_rfl) ⟨hz.g, by have := hz.mx.row.cell (i := 0) (by omega); rw [← hO]; exact this⟩ ?_
  clear hl hQ
  generalize W0.drew = W at hz ⊢
  refine T_a hq [0, 1, 2, 3, 4, 5, 9, 10] (fun w h => .cons (ldFs _ _ _ h.2) (.cons (ldFs _ _ _ (hA ▸ h.1.k0)) (.cons (ldStr _ _ _ h.1.m2) Lds.nil))) (by kernel_rfl) ?_
  refine T_yld hq 6 (some 120) (.pointer (some ⟨b0, q0 + i * 3, none⟩)) (by kernel_rfl) (by kernel_rfl) (fun w _ => ixRun (cap := p0) (X := .tmp 118) (I := .tmp 119) (by kernel_rfl) (by kernel_rfl) (by kernel_rfl) hi w) ?_
  refine T_a hq [7, 8] (fun w h => .cons (ldStr _ _ _ (h.1.file hi hA)) Lds.nil) (by kernel_rfl) ?_
  refine T_yld hq 11 (some 125) (.string (d.files[i].data ++ y)) (by kernel_rfl) (by kernel_rfl) (fun w _ => addRun (T := 9) (X := .tmp 122) (Y := .tmp 124) (by kernel_rfl) (by kernel_rfl) (by kernel_rfl) hs w) ?_
  refine T_yld hq 12 (some 126) (.pointer (some ⟨g, i * 3, none⟩)) (by kernel_rfl) (by kernel_rfl) (fun w _ => ixRun0 (cap := s0) (X := .tmp 115) (I := .tmp 116) (by kernel_rfl) (by kernel_rfl) (by kernel_rfl) hi w) ?_
  refine T_z hq [13] (by kernel_rfl) ?_
  have hm : MxSt base L W (.slice (some ⟨g, 0, none⟩) d.files.length s0) o.c1 o.c2 d.files d.names d.moves := by rw [← hO]; exact hz.mx
  obtain ⟨⟨u, hu⟩, hfz, hbg⟩ := hm.cellF i 1 hi (by omega)
  have hz2 : Dz P w d c k x y base L o ⟨d.files.set i ⟨d.files[i].name, d.files[i].data ++ y, d.files[i].kept⟩, d.names, d.moves⟩ (W.setCell ⟨g, i * 3 + 1, none⟩ (.string (d.files[i].data ++ y))) := hz.put hbg (by have := hm.setF i 1 (.string (d.files[i].data ++ y)) ⟨d.files[i].name, d.files[i].data ++ y, d.files[i].kept⟩ hi (by omega) rfl; rw [hO]; exact this)
  refine T_one 14 (by kernel_rfl) fun _ => O_store none 9 (.tmp 127) (.tmp 125) ⟨g, i * 3 + 1, none⟩ (.string (d.files[i].data ++ y)) _ (by kernel_rfl) (by kernel_rfl) (by kernel_rfl) (stStr W _ _ u hu hfz) ⟨hz2.g, by have := hz2.mx.row.cell (i := 0) (by omega); rw [← hO]; exact this⟩ ?_
  exact T_end 143 [(2, .pointer (some ⟨w.heap.size, 0, none⟩)), (3, .pointer (some ⟨w.heap.size + 1, 0, none⟩)), (4, .pointer (some ⟨w.heap.size + 2, 0, none⟩)), (6, .pointer (some ⟨L, 0, none⟩))] (by kernel_rfl) (by kernel_rfl) fun _ v => hend v _ hz2
noncomputable def do28Ops : Array Oper := fops Tryz.f27 28
theorem do28_neat : Region.noSelect do28Ops = true ∧ neat do28Ops = true := ⟨by kernel_rfl, by kernel_rfl⟩
set_option maxRecDepth 100000 in
set_option maxHeartbeats 1600000 in
theorem do28 (P : Nat → Prop) (w : World) (d : Dk) (c : C3) (k : Int) (x y : ByteArray) (base L : Nat) (o : C3) (i : Nat) (hi : i < d.files.length) (b0 q0 p0 : Nat) (hA : c.c0 = .slice (some ⟨b0, q0, none⟩) d.files.length p0) (g s0 : Nat) (hO : o.c0 = .slice (some ⟨g, 0, none⟩) d.files.length s0) (W0 : World) {l : List Value} (Q : Exit → Act → World → Prop) (hQ : ∀ c a d v w, Q (.panic c) (Act.put a d v) w → Q (.panic c) a w) (hz : Dz P w d c k x y base L o d W0.drew) (hl : lookL [(2, .pointer (some ⟨w.heap.size, 0, none⟩)), (3, .pointer (some ⟨w.heap.size + 1, 0, none⟩)), (4, .pointer (some ⟨w.heap.size + 2, 0, none⟩)), (6, .pointer (some ⟨L, 0, none⟩)), (7, .int .i64 (i : Nat))] l = (143, [.pointer (some ⟨w.heap.size, 0, none⟩), .pointer (some ⟨w.heap.size + 1, 0, none⟩), .pointer (some ⟨w.heap.size + 2, 0, none⟩), .pointer (some ⟨L, 0, none⟩), .int .i64 (i : Nat)]))
    (hend : ∀ v W', Dz P w d c k x y base L o ⟨d.files.set i ⟨d.files[i].name, d.files[i].data, d.files[i].data.size⟩, d.names, d.moves⟩ W' → Q .normal ⟨(frL v 143 [(2, .pointer (some ⟨w.heap.size, 0, none⟩)), (3, .pointer (some ⟨w.heap.size + 1, 0, none⟩)), (4, .pointer (some ⟨w.heap.size + 2, 0, none⟩)), (6, .pointer (some ⟨L, 0, none⟩))]).toArray, []⟩ W') : (Code.region 28 do28Ops true).wp Tryz.prog Q ⟨l.toArray, []⟩ W0 := by
  obtain ⟨v, rfl⟩ := look_fr hl
  have hq : NtQ do28Ops Q := ⟨do28_neat, hQ⟩
  refine T_start (S := fun W => Dg P w d c k x y W ∧ W.cell? ⟨L, 0, none⟩ = some (.slice (some ⟨g, 0, none⟩) d.files.length s0)) (by kernel_rfl) ⟨hz.g, by have := hz.mx.row.cell (i := 0) (by omega); rw [← hO]; exact this⟩ ?_
  clear hl hQ
  generalize W0.drew = W at hz ⊢
  refine T_a hq [0, 1, 2, 3, 4, 5] (fun w h => .cons (ldFs _ _ _ h.2) (.cons (ldFs _ _ _ (hA ▸ h.1.k0)) Lds.nil)) (by kernel_rfl) ?_
  refine T_yld hq 6 (some 136) (.pointer (some ⟨b0, q0 + i * 3, none⟩)) (by kernel_rfl) (by kernel_rfl) (fun w _ => ixRun (cap := p0) (X := .tmp 134) (I := .tmp 135) (by kernel_rfl) (by kernel_rfl) (by kernel_rfl) hi w) ?_
  refine T_a hq [7, 8, 9] (fun w h => .cons (ldStr _ _ _ (h.1.file hi hA)) Lds.nil) (by kernel_rfl) ?_
  refine T_yld hq 10 (some 140) (.pointer (some ⟨g, i * 3, none⟩)) (by kernel_rfl) (by kernel_rfl) (fun w _ => ixRun0 (cap := s0) (X := .tmp 131) (I := .tmp 132) (by kernel_rfl) (by kernel_rfl) (by kernel_rfl) hi w) ?_
  refine T_z hq [11] (by kernel_rfl) ?_
  have hm : MxSt base L W (.slice (some ⟨g, 0, none⟩) d.files.length s0) o.c1 o.c2 d.files d.names d.moves := by rw [← hO]; exact hz.mx
  obtain ⟨⟨u, hu⟩, hfz, hbg⟩ := hm.cellF i 2 hi (by omega)
  have hz2 : Dz P w d c k x y base L o ⟨d.files.set i ⟨d.files[i].name, d.files[i].data, d.files[i].data.size⟩, d.names, d.moves⟩ (W.setCell ⟨g, i * 3 + 2, none⟩ (.int .i64 (d.files[i].data.size : Nat))) := hz.put hbg (by have := hm.setF i 2 (.int .i64 (d.files[i].data.size : Nat)) ⟨d.files[i].name, d.files[i].data, d.files[i].data.size⟩ hi (by omega) rfl; rw [hO]; exact this)
  refine T_one 12 (by kernel_rfl) fun _ => O_store none 3 (.tmp 141) (.tmp 139) ⟨g, i * 3 + 2, none⟩ (.int .i64 (d.files[i].data.size : Nat)) _ (by kernel_rfl) (by kernel_rfl) (by kernel_rfl) (stInt W _ _ u hu hfz) ⟨hz2.g, by have := hz2.mx.row.cell (i := 0) (by omega); rw [← hO]; exact this⟩ ?_
  exact T_end 143 [(2, .pointer (some ⟨w.heap.size, 0, none⟩)), (3, .pointer (some ⟨w.heap.size + 1, 0, none⟩)), (4, .pointer (some ⟨w.heap.size + 2, 0, none⟩)), (6, .pointer (some ⟨L, 0, none⟩))] (by kernel_rfl) (by kernel_rfl) fun _ v => hend v _ hz2
end Go.Proofs.YtgdiankfnemjjaaGreat
