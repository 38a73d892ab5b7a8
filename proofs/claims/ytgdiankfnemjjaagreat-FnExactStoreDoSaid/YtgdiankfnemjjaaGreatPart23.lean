/- The walk of the specification's StoreDo: what writes do one by one; that it turns nothing that was there. No conditions but that the writes' names are bounded. -/
import Derived.Test.YtgdiankfnemjjaaGreatPart18
import Derived.Test.YtgdiankfnemjjaaGreatPart22
import Derived.Test.YtgdiankfnemjjaaGreatPart13
import Derived.Deep.CutRange
namespace Go.Proofs.YtgdiankfnemjjaaGreat
open Go Go.RowKit

theorem ixRunW {o : Oper} {a : Act} {X I : Operand} {b q n cap i : Nat} (ho : o.op = .indexAddr 41 X I) (hx : a.eval X = .slice (some ⟨b, q, none⟩) n cap) (hi : a.eval I = .int .i64 (i : Nat)) (h : i < n) (w : World) : (execOp a.eval o).run Tryz.prog w = .ok (.value (.pointer (some ⟨b, q + i * 3, none⟩))) w := by
  have h1 : (0 : Int) ≤ (i : Int) ∧ (i : Int) < (n : Int) := ⟨by omega, by omega⟩
  have h2 : (Instr.indexAt 41 (.slice (some ⟨b, q, none⟩) n cap) (.int .i64 (i : Nat))).run Tryz.prog w = .ok (.pointer (some ⟨b, q + i * 3, none⟩)) w := by
    rw [← addr_add b q (i * 3)]
    simp [go_sem, h1]
  unfold execOp
  simp only [ho, hx, hi, Sem.run_bind, Sem.run_pure, Result.andThen_ok, h2]
theorem rowWrO : ∃ d, Tryz.prog.underlying 63 = some d ∧ d.isRow = true := ⟨_, Tryz.underlying63, by rfl⟩
theorem info3W : (Tryz.prog.info? 63).map (·.size) = some 3 := by kernel_rfl
/-- A struct of three cells is read, wherever it lies. -/
theorem ld3at {T : TypeId} {W : World} {g q : Nat} {a b c : Value} (hT : ∃ d, Tryz.prog.underlying T = some d ∧ d.isRow = true) (hi : (Tryz.prog.info? T).map (·.size) = some 3) (h : C3.at W g q ⟨a, b, c⟩) : (Instr.loadAt T (.pointer (some ⟨g, q, none⟩))).run Tryz.prog W = .ok (.agg #[a, b, c]) W := by
  obtain ⟨dd, hdu, hdr⟩ := hT
  obtain ⟨h0, h1, h2⟩ := h
  have hr : W.rangeAt g q [a, b, c] := fun j v hv => by
    match j, hv with
    | 0, hv => simp only [List.getElem?_cons_zero, Option.some.injEq] at hv; subst hv; exact h0
    | 1, hv => simp only [List.getElem?_cons_succ, List.getElem?_cons_zero, Option.some.injEq] at hv; subst hv; exact h1
    | 2, hv => simp only [List.getElem?_cons_succ, List.getElem?_cons_zero, Option.some.injEq] at hv; subst hv; exact h2
    | _ + 3, hv => simp at hv
  unfold Instr.loadAt
  simp only [Instr.sureAddr, Sem.run_bind, Sem.run_pure, Result.andThen_ok, run_loadVar_mid W g q T [a, b, c] dd hr hdu hdr hi]
theorem row_at3 {W : World} {g T : Nat} {a b c : Value} (h : W.rowIs g T 3 (row3 a b c)) : C3.at W g 0 ⟨a, b, c⟩ := ⟨h.cell (i := 0) (by omega), h.cell (i := 1) (by omega), h.cell (i := 2) (by omega)⟩
theorem dk_oneS {P : Nat → Prop} {W : World} {N : Dk} {c : C3} (h : DkAt P W N c) : (#[c.c0, c.c1, c.c2] : Array Value).all (·.oneCell') = true := by
  obtain ⟨a0, p0, g0, -, -⟩ := h.fs.open
  obtain ⟨a1, p1, g1, -, -⟩ := h.ns
  obtain ⟨a2, p2, g2, -, -⟩ := h.ms.open
  rw [g0, g1, g2, ← Array.all_toList]
  rfl
noncomputable def so10Ops : Array Oper := fops Tryz.f7 10
theorem so10_neat : Region.noSelect so10Ops = true ∧ neat so10Ops = true := ⟨by kernel_rfl, by kernel_rfl⟩
set_option maxRecDepth 100000 in
set_option maxHeartbeats 3200000 in
theorem so10 (N : Dk) (n : Int) (x : Wr) (b3 b q n1 cap i : Nat) (hi : i < n1) (c0 c1 c2 : Value) (W0 : World) (hA : W0.drew.rowIs b3 37 3 (row3 c0 c1 c2)) (hW : C3.at W0.drew b (q + i * 3) ⟨.int .i64 x.k, .string x.x, .string x.y⟩)
    (hC : ∀ W, Below W0.drew.heap.size W0.drew W → Calls Tryz.prog 27 #[.agg #[c0, c1, c2], .agg #[.int .i64 x.k, .string x.x, .string x.y]] W fun e w' => DoEnd W w' e N n) {a0 a2 a4 a5 a6 a7 a9 a10 a11 a12 a13 a14 a15 a16 a17 a18 a19 a20 a21 a22 a23 a24 a25 a26 a27 a28 a29 a30 a31 a32 a33 a34 a35 a36 a37 a38 a39 a40 a41 a42 a43 a44 a45 a46 a47 a48 a49 a50 a51 a52 a53 a54 a55 a56 a57 a58 a59 a60 a61 a62 : Value} (Q : Exit → Act → World → Prop) (hQ : ∀ c a d v w, Q (.panic c) (Act.put a d v) w → Q (.panic c) a w)
    (hend : ∀ v (dW : C3) (g : Nat) (W' : World), DkAt (fun b => W0.drew.heap.size ≤ b ∧ b < W'.heap.size ∧ b ≠ g) W' N dW → W'.rowIs g 37 3 (row3 dW.c0 dW.c1 dW.c2) → W0.drew.heap.size ≤ g → Below W0.drew.heap.size W0.drew W' → Q .normal ⟨(frL v 63 [(0, a0), (1, .slice (some ⟨b, q, none⟩) n1 cap), (2, a2), (3, .pointer (some ⟨b3, 0, none⟩)), (4, a4), (5, a5), (6, a6), (7, a7), (8, .int .i64 (i : Nat)), (9, .pointer (some ⟨g, 0, none⟩)), (10, .int .i64 n), (11, a11), (12, a12), (13, a13), (14, a14), (15, a15), (16, a16), (17, a17), (18, a18), (19, a19), (53, a53), (54, a54), (55, a55), (56, a56), (57, a57), (58, a58), (59, a59), (60, a60), (61, a61), (62, a62)]).toArray, []⟩ W') : (Code.region 10 so10Ops true).wp Tryz.prog Q ⟨(a0 :: .slice (some ⟨b, q, none⟩) n1 cap :: a2 :: .pointer (some ⟨b3, 0, none⟩) :: a4 :: a5 :: a6 :: a7 :: .int .i64 (i : Nat) :: a9 :: a10 :: a11 :: a12 :: a13 :: a14 :: a15 :: a16 :: a17 :: a18 :: a19 :: a20 :: a21 :: a22 :: a23 :: a24 :: a25 :: a26 :: a27 :: a28 :: a29 :: a30 :: a31 :: a32 :: a33 :: a34 :: a35 :: a36 :: a37 :: a38 :: a39 :: a40 :: a41 :: a42 :: a43 :: a44 :: a45 :: a46 :: a47 :: a48 :: a49 :: a50 :: a51 :: a52 :: a53 :: a54 :: a55 :: a56 :: a57 :: a58 :: a59 :: a60 :: a61 :: a62 :: []).toArray, []⟩ W0 := by
  have hl : lookL [(0, a0), (1, .slice (some ⟨b, q, none⟩) n1 cap), (2, a2), (3, .pointer (some ⟨b3, 0, none⟩)), (4, a4), (5, a5), (6, a6), (7, a7), (8, .int .i64 (i : Nat)), (11, a11), (12, a12), (13, a13), (14, a14), (15, a15), (16, a16), (17, a17), (18, a18), (19, a19), (53, a53), (54, a54), (55, a55), (56, a56), (57, a57), (58, a58), (59, a59), (60, a60), (61, a61), (62, a62)] (a0 :: .slice (some ⟨b, q, none⟩) n1 cap :: a2 :: .pointer (some ⟨b3, 0, none⟩) :: a4 :: a5 :: a6 :: a7 :: .int .i64 (i : Nat) :: a9 :: a10 :: a11 :: a12 :: a13 :: a14 :: a15 :: a16 :: a17 :: a18 :: a19 :: a20 :: a21 :: a22 :: a23 :: a24 :: a25 :: a26 :: a27 :: a28 :: a29 :: a30 :: a31 :: a32 :: a33 :: a34 :: a35 :: a36 :: a37 :: a38 :: a39 :: a40 :: a41 :: a42 :: a43 :: a44 :: a45 :: a46 :: a47 :: a48 :: a49 :: a50 :: a51 :: a52 :: a53 :: a54 :: a55 :: a56 :: a57 :: a58 :: a59 :: a60 :: a61 :: a62 :: []) = (63, [a0, .slice (some ⟨b, q, none⟩) n1 cap, a2, .pointer (some ⟨b3, 0, none⟩), a4, a5, a6, a7, .int .i64 (i : Nat), a11, a12, a13, a14, a15, a16, a17, a18, a19, a53, a54, a55, a56, a57, a58, a59, a60, a61, a62]) := by kernel_rfl
  obtain ⟨v0, hv⟩ := look_fr hl
  rw [hv]
  have hq : NtQ so10Ops Q := ⟨so10_neat, hQ⟩
  refine T_start (S := fun W => Below W0.drew.heap.size W0.drew W) (by kernel_rfl) (Below.refl _ _) ?_
  clear hl hv hQ
  have hbl : b < W0.drew.heap.size := World.block_lt_of_cell? _ _ hW.1
  generalize W0.drew = B at hA hW hC hend hbl ⊢
  have Q1 : ∀ (v : Nat → Value) (W : World) (dW : C3) (g : Nat) (hg : W.rowIs g 37 3 (row3 (.slice none 0 0) (.slice none 0 0) (.slice none 0 0))) (hgb : B.heap.size ≤ g) (hr : DkAt (fun b => B.heap.size ≤ b ∧ b < W.heap.size ∧ b ≠ g) W N dW), wpS Tryz.prog so10Ops Q (fun W => Below B.heap.size B W) (unl 12 [10, 11], frL v 63 [(0, a0), (1, .slice (some ⟨b, q, none⟩) n1 cap), (2, a2), (3, .pointer (some ⟨b3, 0, none⟩)), (4, a4), (5, a5), (6, a6), (7, a7), (8, .int .i64 (i : Nat)), (9, .pointer (some ⟨g, 0, none⟩)), (11, a11), (12, a12), (13, a13), (14, a14), (15, a15), (16, a16), (17, a17), (18, a18), (19, a19), (41, .agg #[c0, c1, c2]), (45, .agg #[.int .i64 x.k, .string x.x, .string x.y]), (47, .agg #[dW.c0, dW.c1, dW.c2]), (48, .int .i64 n), (53, a53), (54, a54), (55, a55), (56, a56), (57, a57), (58, a58), (59, a59), (60, a60), (61, a61), (62, a62)]) [] W := by
    intro v W dW g hg hgb hr
    refine T_one 10 (by kernel_rfl) fun hb => ?_
    have hs3 := set3 W g dW.c0 dW.c1 dW.c2
    have hb2 : Below B.heap.size B (W.setCells g 0 [dW.c0, dW.c1, dW.c2]) := hs3.2.2.2 _ _ hgb hb
    refine O_store_mid none 37 (.tmp 9) (.tmp 47) g 0 #[dW.c0, dW.c1, dW.c2] (by kernel_rfl) (by kernel_rfl) (by kernel_rfl) (there3 hg) info3D (dk_oneS hr) hb2 ?_
    have hr2 : DkAt (fun b => B.heap.size ≤ b ∧ b < (W.setCells g 0 [dW.c0, dW.c1, dW.c2]).heap.size ∧ b ≠ g) (W.setCells g 0 [dW.c0, dW.c1, dW.c2]) N dW := hr.carry (fun b hb => hs3.1 b hb.2.2) (fun b hb => by rw [hs3.2.1]; exact hb)
    exact T_z hq [11] (by kernel_rfl) (T_end 63 [(0, a0), (1, .slice (some ⟨b, q, none⟩) n1 cap), (2, a2), (3, .pointer (some ⟨b3, 0, none⟩)), (4, a4), (5, a5), (6, a6), (7, a7), (8, .int .i64 (i : Nat)), (9, .pointer (some ⟨g, 0, none⟩)), (10, .int .i64 n), (11, a11), (12, a12), (13, a13), (14, a14), (15, a15), (16, a16), (17, a17), (18, a18), (19, a19), (53, a53), (54, a54), (55, a55), (56, a56), (57, a57), (58, a58), (59, a59), (60, a60), (61, a61), (62, a62)] (by kernel_rfl) (by kernel_rfl) fun _ v => hend v dW g _ hr2 (hs3.2.2.1 _ _ hg) hgb hb2)
  have P1 : ∀ (v : Nat → Value) (W : World) (dW : C3) (hr : DkAt (fun b => B.heap.size ≤ b ∧ b < W.heap.size) W N dW), wpS Tryz.prog so10Ops Q (fun W => Below B.heap.size B W) (unl 12 [9, 10, 11], frL v 63 [(0, a0), (1, .slice (some ⟨b, q, none⟩) n1 cap), (2, a2), (3, .pointer (some ⟨b3, 0, none⟩)), (4, a4), (5, a5), (6, a6), (7, a7), (8, .int .i64 (i : Nat)), (11, a11), (12, a12), (13, a13), (14, a14), (15, a15), (16, a16), (17, a17), (18, a18), (19, a19), (41, .agg #[c0, c1, c2]), (45, .agg #[.int .i64 x.k, .string x.x, .string x.y]), (47, .agg #[dW.c0, dW.c1, dW.c2]), (48, .int .i64 n), (53, a53), (54, a54), (55, a55), (56, a56), (57, a57), (58, a58), (59, a59), (60, a60), (61, a61), (62, a62)]) [] W := by
    intro v W dW hr
    refine T_one 9 (by kernel_rfl) fun hb => ?_
    exact O_val (w' := W.alloc (.cells #[.slice none 0 0, .slice none 0 0, .slice none 0 0] 37)) (some 9) (.pointer (some ⟨W.heap.size, 0, none⟩)) (by kernel_rfl) (by kernel_rfl) (hb.alloc hb.size _) (T_fr 12 63 [10, 11] [(0, a0), (1, .slice (some ⟨b, q, none⟩) n1 cap), (2, a2), (3, .pointer (some ⟨b3, 0, none⟩)), (4, a4), (5, a5), (6, a6), (7, a7), (8, .int .i64 (i : Nat)), (9, .pointer (some ⟨W.heap.size, 0, none⟩)), (11, a11), (12, a12), (13, a13), (14, a14), (15, a15), (16, a16), (17, a17), (18, a18), (19, a19), (41, .agg #[c0, c1, c2]), (45, .agg #[.int .i64 x.k, .string x.x, .string x.y]), (47, .agg #[dW.c0, dW.c1, dW.c2]), (48, .int .i64 n), (53, a53), (54, a54), (55, a55), (56, a56), (57, a57), (58, a58), (59, a59), (60, a60), (61, a61), (62, a62)] (by kernel_rfl) fun v => Q1 v _ dW _ (row3_alloc W _ _ _ _) hb.size (hr.carry (fun b hb => Below.heap_alloc _ _ _ hb.2) (fun b hb => by rw [World.size_alloc]; omega)))
  have Q0 : ∀ (v : Nat → Value) (W : World) (g : Nat) (hg : W.rowIs g 37 3 (row3 (.slice none 0 0) (.slice none 0 0) (.slice none 0 0))) (hgb : B.heap.size ≤ g), wpS Tryz.prog so10Ops Q (fun W => Below B.heap.size B W) (unl 12 [5, 6, 7, 8, 10, 11], frL v 63 [(0, a0), (1, .slice (some ⟨b, q, none⟩) n1 cap), (2, a2), (3, .pointer (some ⟨b3, 0, none⟩)), (4, a4), (5, a5), (6, a6), (7, a7), (8, .int .i64 (i : Nat)), (9, .pointer (some ⟨g, 0, none⟩)), (11, a11), (12, a12), (13, a13), (14, a14), (15, a15), (16, a16), (17, a17), (18, a18), (19, a19), (41, .agg #[c0, c1, c2]), (45, .agg #[.int .i64 x.k, .string x.x, .string x.y]), (53, a53), (54, a54), (55, a55), (56, a56), (57, a57), (58, a58), (59, a59), (60, a60), (61, a61), (62, a62)]) [] W := by
    intro v W g hg hgb
    refine T_one 5 (by kernel_rfl) fun hb => ?_
    refine O_go (hC W hb) (by kernel_rfl) ?_
    rintro e W1 ⟨dW, rfl, ho, hb1⟩
    refine ⟨_, rfl, hb.trans (hb1.mono hb.size), T_z hq [6, 7, 8] (by kernel_rfl) (T_fr 12 63 [10, 11] [(0, a0), (1, .slice (some ⟨b, q, none⟩) n1 cap), (2, a2), (3, .pointer (some ⟨b3, 0, none⟩)), (4, a4), (5, a5), (6, a6), (7, a7), (8, .int .i64 (i : Nat)), (9, .pointer (some ⟨g, 0, none⟩)), (11, a11), (12, a12), (13, a13), (14, a14), (15, a15), (16, a16), (17, a17), (18, a18), (19, a19), (41, .agg #[c0, c1, c2]), (45, .agg #[.int .i64 x.k, .string x.x, .string x.y]), (47, .agg #[dW.c0, dW.c1, dW.c2]), (48, .int .i64 n), (53, a53), (54, a54), (55, a55), (56, a56), (57, a57), (58, a58), (59, a59), (60, a60), (61, a61), (62, a62)] (by kernel_rfl) fun v => Q1 v W1 dW g (hg.of_block (hb1.block g hg.lt)) hgb (ho.carry (fun _ _ => rfl) (fun b hb' => by have := hb'.1; have := hb'.2; have := hb.size; have := hg.lt; omega)))⟩
  have P0 : ∀ (v : Nat → Value) (W : World), wpS Tryz.prog so10Ops Q (fun W => Below B.heap.size B W) (unl 12 [5, 6, 7, 8, 9, 10, 11], frL v 63 [(0, a0), (1, .slice (some ⟨b, q, none⟩) n1 cap), (2, a2), (3, .pointer (some ⟨b3, 0, none⟩)), (4, a4), (5, a5), (6, a6), (7, a7), (8, .int .i64 (i : Nat)), (11, a11), (12, a12), (13, a13), (14, a14), (15, a15), (16, a16), (17, a17), (18, a18), (19, a19), (41, .agg #[c0, c1, c2]), (45, .agg #[.int .i64 x.k, .string x.x, .string x.y]), (53, a53), (54, a54), (55, a55), (56, a56), (57, a57), (58, a58), (59, a59), (60, a60), (61, a61), (62, a62)]) [] W := by
    intro v W
    refine T_two 5 9 (by kernel_rfl) (fun hb => ?_) fun hb => ?_
    · refine O_go (hC W hb) (by kernel_rfl) ?_
      rintro e W1 ⟨dW, rfl, ho, hb1⟩
      refine ⟨_, rfl, hb.trans (hb1.mono hb.size), T_z hq [6, 7, 8] (by kernel_rfl) (T_fr 12 63 [9, 10, 11] [(0, a0), (1, .slice (some ⟨b, q, none⟩) n1 cap), (2, a2), (3, .pointer (some ⟨b3, 0, none⟩)), (4, a4), (5, a5), (6, a6), (7, a7), (8, .int .i64 (i : Nat)), (11, a11), (12, a12), (13, a13), (14, a14), (15, a15), (16, a16), (17, a17), (18, a18), (19, a19), (41, .agg #[c0, c1, c2]), (45, .agg #[.int .i64 x.k, .string x.x, .string x.y]), (47, .agg #[dW.c0, dW.c1, dW.c2]), (48, .int .i64 n), (53, a53), (54, a54), (55, a55), (56, a56), (57, a57), (58, a58), (59, a59), (60, a60), (61, a61), (62, a62)] (by kernel_rfl) fun v => P1 v W1 dW (ho.carry (fun _ _ => rfl) (fun b hb' => by have := hb'.1; have := hb'.2; have := hb.size; omega)))⟩
    · exact O_val (w' := W.alloc (.cells #[.slice none 0 0, .slice none 0 0, .slice none 0 0] 37)) (some 9) (.pointer (some ⟨W.heap.size, 0, none⟩)) (by kernel_rfl) (by kernel_rfl) (hb.alloc hb.size _) (T_fr 12 63 [5, 6, 7, 8, 10, 11] [(0, a0), (1, .slice (some ⟨b, q, none⟩) n1 cap), (2, a2), (3, .pointer (some ⟨b3, 0, none⟩)), (4, a4), (5, a5), (6, a6), (7, a7), (8, .int .i64 (i : Nat)), (9, .pointer (some ⟨W.heap.size, 0, none⟩)), (11, a11), (12, a12), (13, a13), (14, a14), (15, a15), (16, a16), (17, a17), (18, a18), (19, a19), (41, .agg #[c0, c1, c2]), (45, .agg #[.int .i64 x.k, .string x.x, .string x.y]), (53, a53), (54, a54), (55, a55), (56, a56), (57, a57), (58, a58), (59, a59), (60, a60), (61, a61), (62, a62)] (by kernel_rfl) fun v => Q0 v _ _ (row3_alloc W _ _ _ _) hb.size)
  refine T_a hq [0, 1, 2] (fun w h => .cons (ld3at rowDiskO info3D (row_at3 (hA.of_block (h.block _ hA.lt)))) Lds.nil) (by kernel_rfl) ?_
  refine T_yld hq 3 (some 44) (.pointer (some ⟨b, q + i * 3, none⟩)) (by kernel_rfl) (by kernel_rfl) (fun w _ => ixRunW (cap := cap) (X := .tmp 42) (I := .tmp 43) (by kernel_rfl) (by kernel_rfl) (by kernel_rfl) hi w) ?_
  refine T_a hq [4] (fun w h => .cons (ld3at rowWrO info3W (hW.carry (h.block _ hbl))) Lds.nil) (by kernel_rfl) ?_
  exact T_fr 12 63 [5, 6, 7, 8, 9, 10, 11] [(0, a0), (1, .slice (some ⟨b, q, none⟩) n1 cap), (2, a2), (3, .pointer (some ⟨b3, 0, none⟩)), (4, a4), (5, a5), (6, a6), (7, a7), (8, .int .i64 (i : Nat)), (11, a11), (12, a12), (13, a13), (14, a14), (15, a15), (16, a16), (17, a17), (18, a18), (19, a19), (41, .agg #[c0, c1, c2]), (45, .agg #[.int .i64 x.k, .string x.x, .string x.y]), (53, a53), (54, a54), (55, a55), (56, a56), (57, a57), (58, a58), (59, a59), (60, a60), (61, a61), (62, a62)] (by kernel_rfl) fun v => P0 v _
end Go.Proofs.YtgdiankfnemjjaaGreat
