/- The drawn regions of the law on DiskDo: both arguments are made anew, the write is done, the answer is put into a box that is made at any time. No conditions. -/
import Derived.Test.YtekchajnellcdaaPart24
import Derived.Test.YtekchajnellcdaaPart25
import Derived.Test.YtekchajnellcdaaPart14
namespace Go.Proofs.Ytekchajnellcdaa
open Go Go.RowKit

theorem rowLD : ∃ d, Try.prog.underlying 26 = some d ∧ d.isRow = true := ⟨_, Try.underlying26, by rfl⟩
theorem infoLD : (Try.prog.info? 26).map (·.size) = some 3 := by kernel_rfl
theorem rowLW : ∃ d, Try.prog.underlying 28 = some d ∧ d.isRow = true := ⟨_, Try.underlying28, by rfl⟩
theorem infoLW : (Try.prog.info? 28).map (·.size) = some 3 := by kernel_rfl
/-- A struct of three cells is read. -/
theorem ld3 {T : TypeId} {W : World} {g : Nat} {a b c : Value} (hT : ∃ d, Try.prog.underlying T = some d ∧ d.isRow = true) (hi : (Try.prog.info? T).map (·.size) = some 3) (h : W.rowIs g T 3 (row3 a b c)) : (Instr.loadAt T (.pointer (some ⟨g, 0, none⟩))).run Try.prog W = .ok (.agg #[a, b, c]) W := by
  obtain ⟨dd, hdu, hdr⟩ := hT
  have hr : W.rangeAt g 0 [a, b, c] := fun j v hv => by
    match j, hv with
    | 0, hv => simp only [List.getElem?_cons_zero, Option.some.injEq] at hv; subst hv; exact h.cell (i := 0) (by omega)
    | 1, hv => simp only [List.getElem?_cons_succ, List.getElem?_cons_zero, Option.some.injEq] at hv; subst hv; exact h.cell (i := 1) (by omega)
    | 2, hv => simp only [List.getElem?_cons_succ, List.getElem?_cons_zero, Option.some.injEq] at hv; subst hv; exact h.cell (i := 2) (by omega)
    | _ + 3, hv => simp at hv
  unfold Instr.loadAt
  simp only [Instr.sureAddr, Sem.run_bind, Sem.run_pure, Result.andThen_ok, run_loadVar_mid W g 0 T [a, b, c] dd hr hdu hdr hi]
theorem dk_one {P : Nat → Prop} {W : World} {N : Dk} {c : C3} (h : DkAt P W N c) : (#[c.c0, c.c1, c.c2] : Array Value).all (·.oneCell') = true := by
  obtain ⟨a0, p0, g0, -, -⟩ := h.fs.open
  obtain ⟨a1, p1, g1, -, -⟩ := h.ns
  obtain ⟨a2, p2, g2, -, -⟩ := h.ms.open
  rw [g0, g1, g2, ← Array.all_toList]
  rfl
theorem OwnEnd2.doEnd {w w' : World} {e : Ending} {d : Dk} {n : Int} (h : OwnEnd2 w w' e d n) : DoEnd w w' e d n := by
  obtain ⟨c, F0, F1, F2, he, ho, -, hF, hb⟩ := h
  exact ⟨c, he, ho.at.carry (fun _ _ => rfl) (fun b hb => hF b hb), hb⟩
noncomputable def lw8Ops : Array Oper := fops Try.f3 8
theorem lw8_neat : Region.noSelect lw8Ops = true ∧ neat lw8Ops = true := ⟨by kernel_rfl, by kernel_rfl⟩
set_option maxRecDepth 100000 in
set_option maxHeartbeats 3200000 in
theorem lw8 (t N : Dk) (n k : Int) (x y : ByteArray) (W0 : World) (c0 c1 c2 : Value) (bA bB : Nat) (hA : W0.drew.rowIs bA 26 3 (row3 c0 c1 c2)) (hB : W0.drew.rowIs bB 28 3 (row3 (.int .i64 k) (.string x) (.string y))) (hCP : ∀ W, Below W0.drew.heap.size W0.drew W → Calls Try.prog 7 #[.agg #[c0, c1, c2]] W fun e w' => ∃ c' : C3, e = .returned (.agg #[c'.c0, c'.c1, c'.c2]) ∧ DkAt (NewF W w') w' t c' ∧ Below W.heap.size W w') (hC : ∀ (a : C3) (W : World), DkAt (fun b => b < W.heap.size) W t a → Calls Try.prog 6 #[.agg #[a.c0, a.c1, a.c2], .agg #[.int .i64 k, .string x, .string y]] W fun e w' => DoEnd W w' e N n) {l : List Value} (Q : Exit → Act → World → Prop) (hQ : ∀ c a d v w, Q (.panic c) (Act.put a d v) w → Q (.panic c) a w) (hl : lookL [(2, .pointer (some ⟨bA, 0, none⟩)), (3, .pointer (some ⟨bB, 0, none⟩))] l = (109, [.pointer (some ⟨bA, 0, none⟩), .pointer (some ⟨bB, 0, none⟩)]))
    (hend : ∀ v (dW : C3) (g : Nat) (W' : World), (DkAt (fun b => W0.drew.heap.size ≤ b ∧ b < W'.heap.size ∧ b ≠ g) W' N dW) → W'.rowIs g 34 3 (row3 dW.c0 dW.c1 dW.c2) → W0.drew.heap.size ≤ g → Below W0.drew.heap.size W0.drew W' → Q .normal ⟨(frL v 109 [(2, .pointer (some ⟨bA, 0, none⟩)), (3, .pointer (some ⟨bB, 0, none⟩)), (6, .pointer (some ⟨g, 0, none⟩)), (7, .int .i64 n)]).toArray, []⟩ W') : (Code.region 8 lw8Ops true).wp Try.prog Q ⟨l.toArray, []⟩ W0 := by
  obtain ⟨v0, rfl⟩ := look_fr hl
  have hq : NtQ lw8Ops Q := ⟨lw8_neat, hQ⟩
  refine T_start (S := fun W => Below W0.drew.heap.size W0.drew W) (by kernel_rfl) (Below.refl _ _) ?_
  clear hl hQ
  generalize W0.drew = B at hA hB hCP hend ⊢
  have Q3 : ∀ (v : Nat → Value) (W : World) (dW : C3) (g : Nat) (hg : W.rowIs g 34 3 (row3 (.slice none 0 0) (.slice none 0 0) (.slice none 0 0))) (hgb : B.heap.size ≤ g) (hr : DkAt (fun b => B.heap.size ≤ b ∧ b < W.heap.size ∧ b ≠ g) W N dW), wpS Try.prog lw8Ops Q (fun W => Below B.heap.size B W) (unl 11 [9, 10], frL v 109 [(2, .pointer (some ⟨bA, 0, none⟩)), (3, .pointer (some ⟨bB, 0, none⟩)), (6, .pointer (some ⟨g, 0, none⟩)), (27, .agg #[c0, c1, c2]), (29, .agg #[.int .i64 k, .string x, .string y]), (32, .agg #[dW.c0, dW.c1, dW.c2]), (33, .int .i64 n)]) [] W := by
    intro v W dW g hg hgb hr
    refine T_one 9 (by kernel_rfl) fun hb => ?_
    have hs3 := set3 W g dW.c0 dW.c1 dW.c2
    have hb2 : Below B.heap.size B (W.setCells g 0 [dW.c0, dW.c1, dW.c2]) := hs3.2.2.2 _ _ hgb hb
    refine O_store_mid none 34 (.tmp 6) (.tmp 32) g 0 #[dW.c0, dW.c1, dW.c2] (by kernel_rfl) (by kernel_rfl) (by kernel_rfl) (there3 hg) info3D (dk_one hr) hb2 ?_
    have hr2 : DkAt (fun b => B.heap.size ≤ b ∧ b < (W.setCells g 0 [dW.c0, dW.c1, dW.c2]).heap.size ∧ b ≠ g) (W.setCells g 0 [dW.c0, dW.c1, dW.c2]) N dW := hr.carry (fun b hb => hs3.1 b hb.2.2) (fun b hb => by rw [hs3.2.1]; exact hb)
    exact T_z hq [10] (by kernel_rfl) (T_end 109 [(2, .pointer (some ⟨bA, 0, none⟩)), (3, .pointer (some ⟨bB, 0, none⟩)), (6, .pointer (some ⟨g, 0, none⟩)), (7, .int .i64 n)] (by kernel_rfl) (by kernel_rfl) fun _ v => hend v dW g _ hr2 (hs3.2.2.1 _ _ hg) hgb hb2)
  have P3 : ∀ (v : Nat → Value) (W : World) (dW : C3) (hr : DkAt (fun b => B.heap.size ≤ b ∧ b < W.heap.size) W N dW), wpS Try.prog lw8Ops Q (fun W => Below B.heap.size B W) (unl 11 [8, 9, 10], frL v 109 [(2, .pointer (some ⟨bA, 0, none⟩)), (3, .pointer (some ⟨bB, 0, none⟩)), (27, .agg #[c0, c1, c2]), (29, .agg #[.int .i64 k, .string x, .string y]), (32, .agg #[dW.c0, dW.c1, dW.c2]), (33, .int .i64 n)]) [] W := by
    intro v W dW hr
    refine T_one 8 (by kernel_rfl) fun hb => ?_
    exact O_val (w' := W.alloc (.cells #[.slice none 0 0, .slice none 0 0, .slice none 0 0] 34)) (some 6) (.pointer (some ⟨W.heap.size, 0, none⟩)) (by kernel_rfl) (by kernel_rfl) (hb.alloc hb.size _) (T_fr 11 109 [9, 10] [(2, .pointer (some ⟨bA, 0, none⟩)), (3, .pointer (some ⟨bB, 0, none⟩)), (6, .pointer (some ⟨W.heap.size, 0, none⟩)), (27, .agg #[c0, c1, c2]), (29, .agg #[.int .i64 k, .string x, .string y]), (32, .agg #[dW.c0, dW.c1, dW.c2]), (33, .int .i64 n)] (by kernel_rfl) fun v => Q3 v _ dW _ (row3_alloc W _ _ _ _) hb.size (hr.carry (fun b hb => Below.heap_alloc _ _ _ hb.2) (fun b hb => by rw [World.size_alloc]; omega)))
  have Q2 : ∀ (v : Nat → Value) (W : World) (a : C3) (ha : DkAt (fun b => b < W.heap.size) W t a) (g : Nat) (hg : W.rowIs g 34 3 (row3 (.slice none 0 0) (.slice none 0 0) (.slice none 0 0))) (hgb : B.heap.size ≤ g), wpS Try.prog lw8Ops Q (fun W => Below B.heap.size B W) (unl 11 [4, 5, 6, 7, 9, 10], frL v 109 [(2, .pointer (some ⟨bA, 0, none⟩)), (3, .pointer (some ⟨bB, 0, none⟩)), (6, .pointer (some ⟨g, 0, none⟩)), (27, .agg #[c0, c1, c2]), (28, .agg #[a.c0, a.c1, a.c2]), (29, .agg #[.int .i64 k, .string x, .string y]), (30, .agg #[.int .i64 k, .string x, .string y])]) [] W := by
    intro v W a ha g hg hgb
    refine T_one 4 (by kernel_rfl) fun hb => ?_
    · refine O_go (hC a W ha) (by kernel_rfl) ?_
      rintro e W1 ⟨dW, rfl, ho, hb1⟩
      refine ⟨_, rfl, hb.trans (hb1.mono hb.size), T_z hq [5, 6, 7] (by kernel_rfl) (T_fr 11 109 [9, 10] [(2, .pointer (some ⟨bA, 0, none⟩)), (3, .pointer (some ⟨bB, 0, none⟩)), (6, .pointer (some ⟨g, 0, none⟩)), (27, .agg #[c0, c1, c2]), (29, .agg #[.int .i64 k, .string x, .string y]), (32, .agg #[dW.c0, dW.c1, dW.c2]), (33, .int .i64 n)] (by kernel_rfl) fun v => Q3 v W1 dW g (hg.of_block (hb1.block g hg.lt)) hgb (ho.carry (fun _ _ => rfl) (fun b hb' => by have := hb'.1; have := hb'.2; have := hb.size; have := hg.lt; omega)))⟩
  have P2 : ∀ (v : Nat → Value) (W : World) (a : C3) (ha : DkAt (fun b => b < W.heap.size) W t a), wpS Try.prog lw8Ops Q (fun W => Below B.heap.size B W) (unl 11 [4, 5, 6, 7, 8, 9, 10], frL v 109 [(2, .pointer (some ⟨bA, 0, none⟩)), (3, .pointer (some ⟨bB, 0, none⟩)), (27, .agg #[c0, c1, c2]), (28, .agg #[a.c0, a.c1, a.c2]), (29, .agg #[.int .i64 k, .string x, .string y]), (30, .agg #[.int .i64 k, .string x, .string y])]) [] W := by
    intro v W a ha
    refine T_two 4 8 (by kernel_rfl) (fun hb => ?_) fun hb => ?_
    · refine O_go (hC a W ha) (by kernel_rfl) ?_
      rintro e W1 ⟨dW, rfl, ho, hb1⟩
      refine ⟨_, rfl, hb.trans (hb1.mono hb.size), T_z hq [5, 6, 7] (by kernel_rfl) (T_fr 11 109 [8, 9, 10] [(2, .pointer (some ⟨bA, 0, none⟩)), (3, .pointer (some ⟨bB, 0, none⟩)), (27, .agg #[c0, c1, c2]), (29, .agg #[.int .i64 k, .string x, .string y]), (32, .agg #[dW.c0, dW.c1, dW.c2]), (33, .int .i64 n)] (by kernel_rfl) fun v => P3 v W1 dW (ho.carry (fun _ _ => rfl) (fun b hb' => by have := hb'.1; have := hb'.2; have := hb.size; omega)))⟩
    · exact O_val (w' := W.alloc (.cells #[.slice none 0 0, .slice none 0 0, .slice none 0 0] 34)) (some 6) (.pointer (some ⟨W.heap.size, 0, none⟩)) (by kernel_rfl) (by kernel_rfl) (hb.alloc hb.size _) (T_fr 11 109 [4, 5, 6, 7, 9, 10] [(2, .pointer (some ⟨bA, 0, none⟩)), (3, .pointer (some ⟨bB, 0, none⟩)), (6, .pointer (some ⟨W.heap.size, 0, none⟩)), (27, .agg #[c0, c1, c2]), (28, .agg #[a.c0, a.c1, a.c2]), (29, .agg #[.int .i64 k, .string x, .string y]), (30, .agg #[.int .i64 k, .string x, .string y])] (by kernel_rfl) fun v => Q2 v _ a (ha.carry (fun b hb => Below.heap_alloc _ _ _ hb) (fun b hb => by rw [World.size_alloc]; omega)) _ (row3_alloc W _ _ _ _) hb.size)
  have Q1 : ∀ (v : Nat → Value) (W : World) (a : C3) (ha : DkAt (fun b => b < W.heap.size) W t a) (g : Nat) (hg : W.rowIs g 34 3 (row3 (.slice none 0 0) (.slice none 0 0) (.slice none 0 0))) (hgb : B.heap.size ≤ g), wpS Try.prog lw8Ops Q (fun W => Below B.heap.size B W) (unl 11 [3, 4, 5, 6, 7, 9, 10], frL v 109 [(2, .pointer (some ⟨bA, 0, none⟩)), (3, .pointer (some ⟨bB, 0, none⟩)), (6, .pointer (some ⟨g, 0, none⟩)), (27, .agg #[c0, c1, c2]), (28, .agg #[a.c0, a.c1, a.c2]), (29, .agg #[.int .i64 k, .string x, .string y])]) [] W := by
    intro v W a ha g hg hgb
    refine T_one 3 (by kernel_rfl) fun hb => ?_
    · refine O_go (toDiskWrite_any k x y W) (by kernel_rfl) ?_
      rintro e W1 ⟨rfl, hb1⟩
      exact ⟨_, rfl, hb.trans (hb1.mono hb.size), T_fr 11 109 [4, 5, 6, 7, 9, 10] [(2, .pointer (some ⟨bA, 0, none⟩)), (3, .pointer (some ⟨bB, 0, none⟩)), (6, .pointer (some ⟨g, 0, none⟩)), (27, .agg #[c0, c1, c2]), (28, .agg #[a.c0, a.c1, a.c2]), (29, .agg #[.int .i64 k, .string x, .string y]), (30, .agg #[.int .i64 k, .string x, .string y])] (by kernel_rfl) fun v => Q2 v W1 a (ha.carry (fun b hb => hb1.block b hb) (fun b hb => Nat.lt_of_lt_of_le hb hb1.size)) g (hg.of_block (hb1.block g hg.lt)) hgb⟩
  have P1 : ∀ (v : Nat → Value) (W : World) (a : C3) (ha : DkAt (fun b => b < W.heap.size) W t a), wpS Try.prog lw8Ops Q (fun W => Below B.heap.size B W) (unl 11 [3, 4, 5, 6, 7, 8, 9, 10], frL v 109 [(2, .pointer (some ⟨bA, 0, none⟩)), (3, .pointer (some ⟨bB, 0, none⟩)), (27, .agg #[c0, c1, c2]), (28, .agg #[a.c0, a.c1, a.c2]), (29, .agg #[.int .i64 k, .string x, .string y])]) [] W := by
    intro v W a ha
    refine T_two 3 8 (by kernel_rfl) (fun hb => ?_) fun hb => ?_
    · refine O_go (toDiskWrite_any k x y W) (by kernel_rfl) ?_
      rintro e W1 ⟨rfl, hb1⟩
      exact ⟨_, rfl, hb.trans (hb1.mono hb.size), T_fr 11 109 [4, 5, 6, 7, 8, 9, 10] [(2, .pointer (some ⟨bA, 0, none⟩)), (3, .pointer (some ⟨bB, 0, none⟩)), (27, .agg #[c0, c1, c2]), (28, .agg #[a.c0, a.c1, a.c2]), (29, .agg #[.int .i64 k, .string x, .string y]), (30, .agg #[.int .i64 k, .string x, .string y])] (by kernel_rfl) fun v => P2 v W1 a (ha.carry (fun b hb => hb1.block b hb) (fun b hb => Nat.lt_of_lt_of_le hb hb1.size))⟩
    · exact O_val (w' := W.alloc (.cells #[.slice none 0 0, .slice none 0 0, .slice none 0 0] 34)) (some 6) (.pointer (some ⟨W.heap.size, 0, none⟩)) (by kernel_rfl) (by kernel_rfl) (hb.alloc hb.size _) (T_fr 11 109 [3, 4, 5, 6, 7, 9, 10] [(2, .pointer (some ⟨bA, 0, none⟩)), (3, .pointer (some ⟨bB, 0, none⟩)), (6, .pointer (some ⟨W.heap.size, 0, none⟩)), (27, .agg #[c0, c1, c2]), (28, .agg #[a.c0, a.c1, a.c2]), (29, .agg #[.int .i64 k, .string x, .string y])] (by kernel_rfl) fun v => Q1 v _ a (ha.carry (fun b hb => Below.heap_alloc _ _ _ hb) (fun b hb => by rw [World.size_alloc]; omega)) _ (row3_alloc W _ _ _ _) hb.size)
  have Q0 : ∀ (v : Nat → Value) (W : World) (g : Nat) (hg : W.rowIs g 34 3 (row3 (.slice none 0 0) (.slice none 0 0) (.slice none 0 0))) (hgb : B.heap.size ≤ g), wpS Try.prog lw8Ops Q (fun W => Below B.heap.size B W) (unl 11 [1, 3, 4, 5, 6, 7, 9, 10], frL v 109 [(2, .pointer (some ⟨bA, 0, none⟩)), (3, .pointer (some ⟨bB, 0, none⟩)), (6, .pointer (some ⟨g, 0, none⟩)), (27, .agg #[c0, c1, c2]), (29, .agg #[.int .i64 k, .string x, .string y])]) [] W := by
    intro v W g hg hgb
    refine T_one 1 (by kernel_rfl) fun hb => ?_
    · refine O_go (hCP W hb) (by kernel_rfl) ?_
      rintro e W1 ⟨a, rfl, hat, hb1⟩
      exact ⟨_, rfl, hb.trans (hb1.mono hb.size), T_fr 11 109 [3, 4, 5, 6, 7, 9, 10] [(2, .pointer (some ⟨bA, 0, none⟩)), (3, .pointer (some ⟨bB, 0, none⟩)), (6, .pointer (some ⟨g, 0, none⟩)), (27, .agg #[c0, c1, c2]), (28, .agg #[a.c0, a.c1, a.c2]), (29, .agg #[.int .i64 k, .string x, .string y])] (by kernel_rfl) fun v => Q1 v W1 a (hat.carry (fun _ _ => rfl) (fun b hb => hb.1.2)) g (hg.of_block (hb1.block g hg.lt)) hgb⟩
  have P0 : ∀ (v : Nat → Value) (W : World), wpS Try.prog lw8Ops Q (fun W => Below B.heap.size B W) (unl 11 [1, 3, 4, 5, 6, 7, 8, 9, 10], frL v 109 [(2, .pointer (some ⟨bA, 0, none⟩)), (3, .pointer (some ⟨bB, 0, none⟩)), (27, .agg #[c0, c1, c2]), (29, .agg #[.int .i64 k, .string x, .string y])]) [] W := by
    intro v W
    refine T_two 1 8 (by kernel_rfl) (fun hb => ?_) fun hb => ?_
    · refine O_go (hCP W hb) (by kernel_rfl) ?_
      rintro e W1 ⟨a, rfl, hat, hb1⟩
      exact ⟨_, rfl, hb.trans (hb1.mono hb.size), T_fr 11 109 [3, 4, 5, 6, 7, 8, 9, 10] [(2, .pointer (some ⟨bA, 0, none⟩)), (3, .pointer (some ⟨bB, 0, none⟩)), (27, .agg #[c0, c1, c2]), (28, .agg #[a.c0, a.c1, a.c2]), (29, .agg #[.int .i64 k, .string x, .string y])] (by kernel_rfl) fun v => P1 v W1 a (hat.carry (fun _ _ => rfl) (fun b hb => hb.1.2))⟩
    · exact O_val (w' := W.alloc (.cells #[.slice none 0 0, .slice none 0 0, .slice none 0 0] 34)) (some 6) (.pointer (some ⟨W.heap.size, 0, none⟩)) (by kernel_rfl) (by kernel_rfl) (hb.alloc hb.size _) (T_fr 11 109 [1, 3, 4, 5, 6, 7, 9, 10] [(2, .pointer (some ⟨bA, 0, none⟩)), (3, .pointer (some ⟨bB, 0, none⟩)), (6, .pointer (some ⟨W.heap.size, 0, none⟩)), (27, .agg #[c0, c1, c2]), (29, .agg #[.int .i64 k, .string x, .string y])] (by kernel_rfl) fun v => Q0 v _ _ (row3_alloc W _ _ _ _) hb.size)
  refine T_a hq [0, 2] (fun w h => .cons (ld3 rowLD infoLD (hA.of_block (h.block _ hA.lt))) (.cons (ld3 rowLW infoLW (hB.of_block (h.block _ hB.lt))) Lds.nil)) (by kernel_rfl) ?_
  exact T_fr 11 109 [1, 3, 4, 5, 6, 7, 8, 9, 10] [(2, .pointer (some ⟨bA, 0, none⟩)), (3, .pointer (some ⟨bB, 0, none⟩)), (27, .agg #[c0, c1, c2]), (29, .agg #[.int .i64 k, .string x, .string y])] (by kernel_rfl) fun v => P0 v _
noncomputable def lw10Ops : Array Oper := fops Try.f3 10
theorem lw10_neat : Region.noSelect lw10Ops = true ∧ neat lw10Ops = true := ⟨by kernel_rfl, by kernel_rfl⟩
set_option maxRecDepth 100000 in
set_option maxHeartbeats 3200000 in
theorem lw10 (N : Dk) (n k : Int) (x y : ByteArray) (W0 : World) (c0 c1 c2 : Value) (bA bB : Nat) (hA : W0.drew.rowIs bA 34 3 (row3 c0 c1 c2)) (hB : W0.drew.rowIs bB 28 3 (row3 (.int .i64 k) (.string x) (.string y))) (a2 a6 a7 : Value) (hC : ∀ W, Below W0.drew.heap.size W0.drew W → Calls Try.prog 9 #[.agg #[c0, c1, c2], .agg #[.int .i64 k, .string x, .string y]] W fun e w' => OwnEnd2 W w' e N n) {l : List Value} (Q : Exit → Act → World → Prop) (hQ : ∀ c a d v w, Q (.panic c) (Act.put a d v) w → Q (.panic c) a w) (hl : lookL [(2, a2), (3, .pointer (some ⟨bB, 0, none⟩)), (6, a6), (7, a7), (8, .pointer (some ⟨bA, 0, none⟩))] l = (109, [a2, .pointer (some ⟨bB, 0, none⟩), a6, a7, .pointer (some ⟨bA, 0, none⟩)]))
    (hend : ∀ v (dW : C3) (F0 F1 F2 : List Nat) (g : Nat) (W' : World), (DkOwn W' N dW F0 F1 F2 ∧ (F0 ++ F1 ++ F2).Nodup ∧ ∀ b, b ∈ F0 ++ F1 ++ F2 → W0.drew.heap.size ≤ b ∧ b < W'.heap.size ∧ b ≠ g) → W'.rowIs g 34 3 (row3 dW.c0 dW.c1 dW.c2) → W0.drew.heap.size ≤ g → Below W0.drew.heap.size W0.drew W' → Q .normal ⟨(frL v 109 [(2, a2), (3, .pointer (some ⟨bB, 0, none⟩)), (6, a6), (7, a7), (8, .pointer (some ⟨bA, 0, none⟩)), (9, .pointer (some ⟨g, 0, none⟩)), (10, .int .i64 n)]).toArray, []⟩ W') : (Code.region 10 lw10Ops true).wp Try.prog Q ⟨l.toArray, []⟩ W0 := by
  obtain ⟨v0, rfl⟩ := look_fr hl
  have hq : NtQ lw10Ops Q := ⟨lw10_neat, hQ⟩
  refine T_start (S := fun W => Below W0.drew.heap.size W0.drew W) (by kernel_rfl) (Below.refl _ _) ?_
  clear hl hQ
  generalize W0.drew = B at hA hB hC hend ⊢
  have Q3 : ∀ (v : Nat → Value) (W : World) (dW : C3) (F0 F1 F2 : List Nat) (g : Nat) (hg : W.rowIs g 34 3 (row3 (.slice none 0 0) (.slice none 0 0) (.slice none 0 0))) (hgb : B.heap.size ≤ g) (hr : DkOwn W N dW F0 F1 F2 ∧ (F0 ++ F1 ++ F2).Nodup ∧ ∀ b, b ∈ F0 ++ F1 ++ F2 → B.heap.size ≤ b ∧ b < W.heap.size ∧ b ≠ g), wpS Try.prog lw10Ops Q (fun W => Below B.heap.size B W) (unl 10 [8, 9], frL v 109 [(2, a2), (3, .pointer (some ⟨bB, 0, none⟩)), (6, a6), (7, a7), (8, .pointer (some ⟨bA, 0, none⟩)), (9, .pointer (some ⟨g, 0, none⟩)), (37, .agg #[c0, c1, c2]), (38, .agg #[.int .i64 k, .string x, .string y]), (41, .agg #[dW.c0, dW.c1, dW.c2]), (42, .int .i64 n)]) [] W := by
    intro v W dW F0 F1 F2 g hg hgb hr
    refine T_one 8 (by kernel_rfl) fun hb => ?_
    have hs3 := set3 W g dW.c0 dW.c1 dW.c2
    have hb2 : Below B.heap.size B (W.setCells g 0 [dW.c0, dW.c1, dW.c2]) := hs3.2.2.2 _ _ hgb hb
    refine O_store_mid none 34 (.tmp 9) (.tmp 41) g 0 #[dW.c0, dW.c1, dW.c2] (by kernel_rfl) (by kernel_rfl) (by kernel_rfl) (there3 hg) info3D (dk_one hr.1.at) hb2 ?_
    have hr2 : DkOwn (W.setCells g 0 [dW.c0, dW.c1, dW.c2]) N dW F0 F1 F2 ∧ (F0 ++ F1 ++ F2).Nodup ∧ ∀ b, b ∈ F0 ++ F1 ++ F2 → B.heap.size ≤ b ∧ b < (W.setCells g 0 [dW.c0, dW.c1, dW.c2]).heap.size ∧ b ≠ g := ⟨hr.1.carry (fun b hb => hs3.1 b (hr.2.2 b hb).2.2), hr.2.1, fun b hb => by have := hr.2.2 b hb; rw [hs3.2.1]; exact this⟩
    exact T_z hq [9] (by kernel_rfl) (T_end 109 [(2, a2), (3, .pointer (some ⟨bB, 0, none⟩)), (6, a6), (7, a7), (8, .pointer (some ⟨bA, 0, none⟩)), (9, .pointer (some ⟨g, 0, none⟩)), (10, .int .i64 n)] (by kernel_rfl) (by kernel_rfl) fun _ v => hend v dW F0 F1 F2 g _ hr2 (hs3.2.2.1 _ _ hg) hgb hb2)
  have P3 : ∀ (v : Nat → Value) (W : World) (dW : C3) (F0 F1 F2 : List Nat) (hr : DkOwn W N dW F0 F1 F2 ∧ (F0 ++ F1 ++ F2).Nodup ∧ ∀ b, b ∈ F0 ++ F1 ++ F2 → B.heap.size ≤ b ∧ b < W.heap.size), wpS Try.prog lw10Ops Q (fun W => Below B.heap.size B W) (unl 10 [7, 8, 9], frL v 109 [(2, a2), (3, .pointer (some ⟨bB, 0, none⟩)), (6, a6), (7, a7), (8, .pointer (some ⟨bA, 0, none⟩)), (37, .agg #[c0, c1, c2]), (38, .agg #[.int .i64 k, .string x, .string y]), (41, .agg #[dW.c0, dW.c1, dW.c2]), (42, .int .i64 n)]) [] W := by
    intro v W dW F0 F1 F2 hr
    refine T_one 7 (by kernel_rfl) fun hb => ?_
    exact O_val (w' := W.alloc (.cells #[.slice none 0 0, .slice none 0 0, .slice none 0 0] 34)) (some 9) (.pointer (some ⟨W.heap.size, 0, none⟩)) (by kernel_rfl) (by kernel_rfl) (hb.alloc hb.size _) (T_fr 10 109 [8, 9] [(2, a2), (3, .pointer (some ⟨bB, 0, none⟩)), (6, a6), (7, a7), (8, .pointer (some ⟨bA, 0, none⟩)), (9, .pointer (some ⟨W.heap.size, 0, none⟩)), (37, .agg #[c0, c1, c2]), (38, .agg #[.int .i64 k, .string x, .string y]), (41, .agg #[dW.c0, dW.c1, dW.c2]), (42, .int .i64 n)] (by kernel_rfl) fun v => Q3 v _ dW F0 F1 F2 _ (row3_alloc W _ _ _ _) hb.size ⟨hr.1.carry (fun b hb => Below.heap_alloc _ _ _ (hr.2.2 b hb).2), hr.2.1, fun b hb => by have := hr.2.2 b hb; rw [World.size_alloc]; omega⟩)
  have Q2 : ∀ (v : Nat → Value) (W : World)  (g : Nat) (hg : W.rowIs g 34 3 (row3 (.slice none 0 0) (.slice none 0 0) (.slice none 0 0))) (hgb : B.heap.size ≤ g), wpS Try.prog lw10Ops Q (fun W => Below B.heap.size B W) (unl 10 [3, 4, 5, 6, 8, 9], frL v 109 [(2, a2), (3, .pointer (some ⟨bB, 0, none⟩)), (6, a6), (7, a7), (8, .pointer (some ⟨bA, 0, none⟩)), (9, .pointer (some ⟨g, 0, none⟩)), (37, .agg #[c0, c1, c2]), (38, .agg #[.int .i64 k, .string x, .string y]), (39, .agg #[.int .i64 k, .string x, .string y])]) [] W := by
    intro v W g hg hgb
    refine T_one 3 (by kernel_rfl) fun hb => ?_
    · refine O_go (hC W hb) (by kernel_rfl) ?_
      rintro e W1 ⟨dW, F0, F1, F2, rfl, ho, hnd, hF, hb1⟩
      refine ⟨_, rfl, hb.trans (hb1.mono hb.size), T_z hq [4, 5, 6] (by kernel_rfl) (T_fr 10 109 [8, 9] [(2, a2), (3, .pointer (some ⟨bB, 0, none⟩)), (6, a6), (7, a7), (8, .pointer (some ⟨bA, 0, none⟩)), (9, .pointer (some ⟨g, 0, none⟩)), (37, .agg #[c0, c1, c2]), (38, .agg #[.int .i64 k, .string x, .string y]), (41, .agg #[dW.c0, dW.c1, dW.c2]), (42, .int .i64 n)] (by kernel_rfl) fun v => Q3 v W1 dW F0 F1 F2 g (hg.of_block (hb1.block g hg.lt)) hgb ⟨ho, hnd, fun b hb' => by have := hF b hb'; have := hb.size; have := hg.lt; omega⟩)⟩
  have P2 : ∀ (v : Nat → Value) (W : World) , wpS Try.prog lw10Ops Q (fun W => Below B.heap.size B W) (unl 10 [3, 4, 5, 6, 7, 8, 9], frL v 109 [(2, a2), (3, .pointer (some ⟨bB, 0, none⟩)), (6, a6), (7, a7), (8, .pointer (some ⟨bA, 0, none⟩)), (37, .agg #[c0, c1, c2]), (38, .agg #[.int .i64 k, .string x, .string y]), (39, .agg #[.int .i64 k, .string x, .string y])]) [] W := by
    intro v W
    refine T_two 3 7 (by kernel_rfl) (fun hb => ?_) fun hb => ?_
    · refine O_go (hC W hb) (by kernel_rfl) ?_
      rintro e W1 ⟨dW, F0, F1, F2, rfl, ho, hnd, hF, hb1⟩
      refine ⟨_, rfl, hb.trans (hb1.mono hb.size), T_z hq [4, 5, 6] (by kernel_rfl) (T_fr 10 109 [7, 8, 9] [(2, a2), (3, .pointer (some ⟨bB, 0, none⟩)), (6, a6), (7, a7), (8, .pointer (some ⟨bA, 0, none⟩)), (37, .agg #[c0, c1, c2]), (38, .agg #[.int .i64 k, .string x, .string y]), (41, .agg #[dW.c0, dW.c1, dW.c2]), (42, .int .i64 n)] (by kernel_rfl) fun v => P3 v W1 dW F0 F1 F2 ⟨ho, hnd, fun b hb' => by have := hF b hb'; have := hb.size; omega⟩)⟩
    · exact O_val (w' := W.alloc (.cells #[.slice none 0 0, .slice none 0 0, .slice none 0 0] 34)) (some 9) (.pointer (some ⟨W.heap.size, 0, none⟩)) (by kernel_rfl) (by kernel_rfl) (hb.alloc hb.size _) (T_fr 10 109 [3, 4, 5, 6, 8, 9] [(2, a2), (3, .pointer (some ⟨bB, 0, none⟩)), (6, a6), (7, a7), (8, .pointer (some ⟨bA, 0, none⟩)), (9, .pointer (some ⟨W.heap.size, 0, none⟩)), (37, .agg #[c0, c1, c2]), (38, .agg #[.int .i64 k, .string x, .string y]), (39, .agg #[.int .i64 k, .string x, .string y])] (by kernel_rfl) fun v => Q2 v _ _ (row3_alloc W _ _ _ _) hb.size)
  have Q1 : ∀ (v : Nat → Value) (W : World)  (g : Nat) (hg : W.rowIs g 34 3 (row3 (.slice none 0 0) (.slice none 0 0) (.slice none 0 0))) (hgb : B.heap.size ≤ g), wpS Try.prog lw10Ops Q (fun W => Below B.heap.size B W) (unl 10 [2, 3, 4, 5, 6, 8, 9], frL v 109 [(2, a2), (3, .pointer (some ⟨bB, 0, none⟩)), (6, a6), (7, a7), (8, .pointer (some ⟨bA, 0, none⟩)), (9, .pointer (some ⟨g, 0, none⟩)), (37, .agg #[c0, c1, c2]), (38, .agg #[.int .i64 k, .string x, .string y])]) [] W := by
    intro v W g hg hgb
    refine T_one 2 (by kernel_rfl) fun hb => ?_
    · refine O_go (toDiskWrite_any k x y W) (by kernel_rfl) ?_
      rintro e W1 ⟨rfl, hb1⟩
      exact ⟨_, rfl, hb.trans (hb1.mono hb.size), T_fr 10 109 [3, 4, 5, 6, 8, 9] [(2, a2), (3, .pointer (some ⟨bB, 0, none⟩)), (6, a6), (7, a7), (8, .pointer (some ⟨bA, 0, none⟩)), (9, .pointer (some ⟨g, 0, none⟩)), (37, .agg #[c0, c1, c2]), (38, .agg #[.int .i64 k, .string x, .string y]), (39, .agg #[.int .i64 k, .string x, .string y])] (by kernel_rfl) fun v => Q2 v W1 g (hg.of_block (hb1.block g hg.lt)) hgb⟩
  have P1 : ∀ (v : Nat → Value) (W : World) , wpS Try.prog lw10Ops Q (fun W => Below B.heap.size B W) (unl 10 [2, 3, 4, 5, 6, 7, 8, 9], frL v 109 [(2, a2), (3, .pointer (some ⟨bB, 0, none⟩)), (6, a6), (7, a7), (8, .pointer (some ⟨bA, 0, none⟩)), (37, .agg #[c0, c1, c2]), (38, .agg #[.int .i64 k, .string x, .string y])]) [] W := by
    intro v W
    refine T_two 2 7 (by kernel_rfl) (fun hb => ?_) fun hb => ?_
    · refine O_go (toDiskWrite_any k x y W) (by kernel_rfl) ?_
      rintro e W1 ⟨rfl, hb1⟩
      exact ⟨_, rfl, hb.trans (hb1.mono hb.size), T_fr 10 109 [3, 4, 5, 6, 7, 8, 9] [(2, a2), (3, .pointer (some ⟨bB, 0, none⟩)), (6, a6), (7, a7), (8, .pointer (some ⟨bA, 0, none⟩)), (37, .agg #[c0, c1, c2]), (38, .agg #[.int .i64 k, .string x, .string y]), (39, .agg #[.int .i64 k, .string x, .string y])] (by kernel_rfl) fun v => P2 v W1⟩
    · exact O_val (w' := W.alloc (.cells #[.slice none 0 0, .slice none 0 0, .slice none 0 0] 34)) (some 9) (.pointer (some ⟨W.heap.size, 0, none⟩)) (by kernel_rfl) (by kernel_rfl) (hb.alloc hb.size _) (T_fr 10 109 [2, 3, 4, 5, 6, 8, 9] [(2, a2), (3, .pointer (some ⟨bB, 0, none⟩)), (6, a6), (7, a7), (8, .pointer (some ⟨bA, 0, none⟩)), (9, .pointer (some ⟨W.heap.size, 0, none⟩)), (37, .agg #[c0, c1, c2]), (38, .agg #[.int .i64 k, .string x, .string y])] (by kernel_rfl) fun v => Q1 v _ _ (row3_alloc W _ _ _ _) hb.size)
  refine T_a hq [0, 1] (fun w h => .cons (ld3 rowDiskO info3D (hA.of_block (h.block _ hA.lt))) (.cons (ld3 rowLW infoLW (hB.of_block (h.block _ hB.lt))) Lds.nil)) (by kernel_rfl) ?_
  exact T_fr 10 109 [2, 3, 4, 5, 6, 7, 8, 9] [(2, a2), (3, .pointer (some ⟨bB, 0, none⟩)), (6, a6), (7, a7), (8, .pointer (some ⟨bA, 0, none⟩)), (37, .agg #[c0, c1, c2]), (38, .agg #[.int .i64 k, .string x, .string y])] (by kernel_rfl) fun v => P1 v _
noncomputable def lw27Ops : Array Oper := fops Try.f3 27
theorem lw27_neat : Region.noSelect lw27Ops = true ∧ neat lw27Ops = true := ⟨by kernel_rfl, by kernel_rfl⟩
set_option maxRecDepth 100000 in
set_option maxHeartbeats 3200000 in
theorem lw27 (t N : Dk) (n k : Int) (x y : ByteArray) (W0 : World) (c0 c1 c2 : Value) (bA bB : Nat) (hA : W0.drew.rowIs bA 26 3 (row3 c0 c1 c2)) (hB : W0.drew.rowIs bB 28 3 (row3 (.int .i64 k) (.string x) (.string y))) (a6 a7 a9 a12 : Value) (hCP : ∀ W, Below W0.drew.heap.size W0.drew W → Calls Try.prog 7 #[.agg #[c0, c1, c2]] W fun e w' => ∃ c' : C3, e = .returned (.agg #[c'.c0, c'.c1, c'.c2]) ∧ DkAt (NewF W w') w' t c' ∧ Below W.heap.size W w') (hC : ∀ (a : C3) (W : World), DkAt (fun b => b < W.heap.size) W t a → Calls Try.prog 9 #[.agg #[a.c0, a.c1, a.c2], .agg #[.int .i64 k, .string x, .string y]] W fun e w' => DoEnd W w' e N n) {l : List Value} (Q : Exit → Act → World → Prop) (hQ : ∀ c a d v w, Q (.panic c) (Act.put a d v) w → Q (.panic c) a w) (hl : lookL [(2, .pointer (some ⟨bA, 0, none⟩)), (3, .pointer (some ⟨bB, 0, none⟩)), (6, a6), (7, a7), (9, a9), (12, a12)] l = (109, [.pointer (some ⟨bA, 0, none⟩), .pointer (some ⟨bB, 0, none⟩), a6, a7, a9, a12]))
    (hend : ∀ v (dW : C3) (g : Nat) (W' : World), (DkAt (fun b => W0.drew.heap.size ≤ b ∧ b < W'.heap.size ∧ b ≠ g) W' N dW) → W'.rowIs g 34 3 (row3 dW.c0 dW.c1 dW.c2) → W0.drew.heap.size ≤ g → Below W0.drew.heap.size W0.drew W' → Q .normal ⟨(frL v 109 [(2, .pointer (some ⟨bA, 0, none⟩)), (3, .pointer (some ⟨bB, 0, none⟩)), (6, a6), (7, a7), (9, a9), (12, a12), (14, .pointer (some ⟨g, 0, none⟩)), (15, .int .i64 n)]).toArray, []⟩ W') : (Code.region 27 lw27Ops true).wp Try.prog Q ⟨l.toArray, []⟩ W0 := by
  obtain ⟨v0, rfl⟩ := look_fr hl
  have hq : NtQ lw27Ops Q := ⟨lw27_neat, hQ⟩
  refine T_start (S := fun W => Below W0.drew.heap.size W0.drew W) (by kernel_rfl) (Below.refl _ _) ?_
  clear hl hQ
  generalize W0.drew = B at hA hB hCP hend ⊢
  have Q3 : ∀ (v : Nat → Value) (W : World) (dW : C3) (g : Nat) (hg : W.rowIs g 34 3 (row3 (.slice none 0 0) (.slice none 0 0) (.slice none 0 0))) (hgb : B.heap.size ≤ g) (hr : DkAt (fun b => B.heap.size ≤ b ∧ b < W.heap.size ∧ b ≠ g) W N dW), wpS Try.prog lw27Ops Q (fun W => Below B.heap.size B W) (unl 11 [9, 10], frL v 109 [(2, .pointer (some ⟨bA, 0, none⟩)), (3, .pointer (some ⟨bB, 0, none⟩)), (6, a6), (7, a7), (9, a9), (12, a12), (14, .pointer (some ⟨g, 0, none⟩)), (85, .agg #[c0, c1, c2]), (87, .agg #[.int .i64 k, .string x, .string y]), (90, .agg #[dW.c0, dW.c1, dW.c2]), (91, .int .i64 n)]) [] W := by
    intro v W dW g hg hgb hr
    refine T_one 9 (by kernel_rfl) fun hb => ?_
    have hs3 := set3 W g dW.c0 dW.c1 dW.c2
    have hb2 : Below B.heap.size B (W.setCells g 0 [dW.c0, dW.c1, dW.c2]) := hs3.2.2.2 _ _ hgb hb
    refine O_store_mid none 34 (.tmp 14) (.tmp 90) g 0 #[dW.c0, dW.c1, dW.c2] (by kernel_rfl) (by kernel_rfl) (by kernel_rfl) (there3 hg) info3D (dk_one hr) hb2 ?_
    have hr2 : DkAt (fun b => B.heap.size ≤ b ∧ b < (W.setCells g 0 [dW.c0, dW.c1, dW.c2]).heap.size ∧ b ≠ g) (W.setCells g 0 [dW.c0, dW.c1, dW.c2]) N dW := hr.carry (fun b hb => hs3.1 b hb.2.2) (fun b hb => by rw [hs3.2.1]; exact hb)
    exact T_z hq [10] (by kernel_rfl) (T_end 109 [(2, .pointer (some ⟨bA, 0, none⟩)), (3, .pointer (some ⟨bB, 0, none⟩)), (6, a6), (7, a7), (9, a9), (12, a12), (14, .pointer (some ⟨g, 0, none⟩)), (15, .int .i64 n)] (by kernel_rfl) (by kernel_rfl) fun _ v => hend v dW g _ hr2 (hs3.2.2.1 _ _ hg) hgb hb2)
  have P3 : ∀ (v : Nat → Value) (W : World) (dW : C3) (hr : DkAt (fun b => B.heap.size ≤ b ∧ b < W.heap.size) W N dW), wpS Try.prog lw27Ops Q (fun W => Below B.heap.size B W) (unl 11 [8, 9, 10], frL v 109 [(2, .pointer (some ⟨bA, 0, none⟩)), (3, .pointer (some ⟨bB, 0, none⟩)), (6, a6), (7, a7), (9, a9), (12, a12), (85, .agg #[c0, c1, c2]), (87, .agg #[.int .i64 k, .string x, .string y]), (90, .agg #[dW.c0, dW.c1, dW.c2]), (91, .int .i64 n)]) [] W := by
    intro v W dW hr
    refine T_one 8 (by kernel_rfl) fun hb => ?_
    exact O_val (w' := W.alloc (.cells #[.slice none 0 0, .slice none 0 0, .slice none 0 0] 34)) (some 14) (.pointer (some ⟨W.heap.size, 0, none⟩)) (by kernel_rfl) (by kernel_rfl) (hb.alloc hb.size _) (T_fr 11 109 [9, 10] [(2, .pointer (some ⟨bA, 0, none⟩)), (3, .pointer (some ⟨bB, 0, none⟩)), (6, a6), (7, a7), (9, a9), (12, a12), (14, .pointer (some ⟨W.heap.size, 0, none⟩)), (85, .agg #[c0, c1, c2]), (87, .agg #[.int .i64 k, .string x, .string y]), (90, .agg #[dW.c0, dW.c1, dW.c2]), (91, .int .i64 n)] (by kernel_rfl) fun v => Q3 v _ dW _ (row3_alloc W _ _ _ _) hb.size (hr.carry (fun b hb => Below.heap_alloc _ _ _ hb.2) (fun b hb => by rw [World.size_alloc]; omega)))
  have Q2 : ∀ (v : Nat → Value) (W : World) (a : C3) (ha : DkAt (fun b => b < W.heap.size) W t a) (g : Nat) (hg : W.rowIs g 34 3 (row3 (.slice none 0 0) (.slice none 0 0) (.slice none 0 0))) (hgb : B.heap.size ≤ g), wpS Try.prog lw27Ops Q (fun W => Below B.heap.size B W) (unl 11 [4, 5, 6, 7, 9, 10], frL v 109 [(2, .pointer (some ⟨bA, 0, none⟩)), (3, .pointer (some ⟨bB, 0, none⟩)), (6, a6), (7, a7), (9, a9), (12, a12), (14, .pointer (some ⟨g, 0, none⟩)), (85, .agg #[c0, c1, c2]), (86, .agg #[a.c0, a.c1, a.c2]), (87, .agg #[.int .i64 k, .string x, .string y]), (88, .agg #[.int .i64 k, .string x, .string y])]) [] W := by
    intro v W a ha g hg hgb
    refine T_one 4 (by kernel_rfl) fun hb => ?_
    · refine O_go (hC a W ha) (by kernel_rfl) ?_
      rintro e W1 ⟨dW, rfl, ho, hb1⟩
      refine ⟨_, rfl, hb.trans (hb1.mono hb.size), T_z hq [5, 6, 7] (by kernel_rfl) (T_fr 11 109 [9, 10] [(2, .pointer (some ⟨bA, 0, none⟩)), (3, .pointer (some ⟨bB, 0, none⟩)), (6, a6), (7, a7), (9, a9), (12, a12), (14, .pointer (some ⟨g, 0, none⟩)), (85, .agg #[c0, c1, c2]), (87, .agg #[.int .i64 k, .string x, .string y]), (90, .agg #[dW.c0, dW.c1, dW.c2]), (91, .int .i64 n)] (by kernel_rfl) fun v => Q3 v W1 dW g (hg.of_block (hb1.block g hg.lt)) hgb (ho.carry (fun _ _ => rfl) (fun b hb' => by have := hb'.1; have := hb'.2; have := hb.size; have := hg.lt; omega)))⟩
  have P2 : ∀ (v : Nat → Value) (W : World) (a : C3) (ha : DkAt (fun b => b < W.heap.size) W t a), wpS Try.prog lw27Ops Q (fun W => Below B.heap.size B W) (unl 11 [4, 5, 6, 7, 8, 9, 10], frL v 109 [(2, .pointer (some ⟨bA, 0, none⟩)), (3, .pointer (some ⟨bB, 0, none⟩)), (6, a6), (7, a7), (9, a9), (12, a12), (85, .agg #[c0, c1, c2]), (86, .agg #[a.c0, a.c1, a.c2]), (87, .agg #[.int .i64 k, .string x, .string y]), (88, .agg #[.int .i64 k, .string x, .string y])]) [] W := by
    intro v W a ha
    refine T_two 4 8 (by kernel_rfl) (fun hb => ?_) fun hb => ?_
    · refine O_go (hC a W ha) (by kernel_rfl) ?_
      rintro e W1 ⟨dW, rfl, ho, hb1⟩
      refine ⟨_, rfl, hb.trans (hb1.mono hb.size), T_z hq [5, 6, 7] (by kernel_rfl) (T_fr 11 109 [8, 9, 10] [(2, .pointer (some ⟨bA, 0, none⟩)), (3, .pointer (some ⟨bB, 0, none⟩)), (6, a6), (7, a7), (9, a9), (12, a12), (85, .agg #[c0, c1, c2]), (87, .agg #[.int .i64 k, .string x, .string y]), (90, .agg #[dW.c0, dW.c1, dW.c2]), (91, .int .i64 n)] (by kernel_rfl) fun v => P3 v W1 dW (ho.carry (fun _ _ => rfl) (fun b hb' => by have := hb'.1; have := hb'.2; have := hb.size; omega)))⟩
    · exact O_val (w' := W.alloc (.cells #[.slice none 0 0, .slice none 0 0, .slice none 0 0] 34)) (some 14) (.pointer (some ⟨W.heap.size, 0, none⟩)) (by kernel_rfl) (by kernel_rfl) (hb.alloc hb.size _) (T_fr 11 109 [4, 5, 6, 7, 9, 10] [(2, .pointer (some ⟨bA, 0, none⟩)), (3, .pointer (some ⟨bB, 0, none⟩)), (6, a6), (7, a7), (9, a9), (12, a12), (14, .pointer (some ⟨W.heap.size, 0, none⟩)), (85, .agg #[c0, c1, c2]), (86, .agg #[a.c0, a.c1, a.c2]), (87, .agg #[.int .i64 k, .string x, .string y]), (88, .agg #[.int .i64 k, .string x, .string y])] (by kernel_rfl) fun v => Q2 v _ a (ha.carry (fun b hb => Below.heap_alloc _ _ _ hb) (fun b hb => by rw [World.size_alloc]; omega)) _ (row3_alloc W _ _ _ _) hb.size)
  have Q1 : ∀ (v : Nat → Value) (W : World) (a : C3) (ha : DkAt (fun b => b < W.heap.size) W t a) (g : Nat) (hg : W.rowIs g 34 3 (row3 (.slice none 0 0) (.slice none 0 0) (.slice none 0 0))) (hgb : B.heap.size ≤ g), wpS Try.prog lw27Ops Q (fun W => Below B.heap.size B W) (unl 11 [3, 4, 5, 6, 7, 9, 10], frL v 109 [(2, .pointer (some ⟨bA, 0, none⟩)), (3, .pointer (some ⟨bB, 0, none⟩)), (6, a6), (7, a7), (9, a9), (12, a12), (14, .pointer (some ⟨g, 0, none⟩)), (85, .agg #[c0, c1, c2]), (86, .agg #[a.c0, a.c1, a.c2]), (87, .agg #[.int .i64 k, .string x, .string y])]) [] W := by
    intro v W a ha g hg hgb
    refine T_one 3 (by kernel_rfl) fun hb => ?_
    · refine O_go (toDiskWrite_any k x y W) (by kernel_rfl) ?_
      rintro e W1 ⟨rfl, hb1⟩
      exact ⟨_, rfl, hb.trans (hb1.mono hb.size), T_fr 11 109 [4, 5, 6, 7, 9, 10] [(2, .pointer (some ⟨bA, 0, none⟩)), (3, .pointer (some ⟨bB, 0, none⟩)), (6, a6), (7, a7), (9, a9), (12, a12), (14, .pointer (some ⟨g, 0, none⟩)), (85, .agg #[c0, c1, c2]), (86, .agg #[a.c0, a.c1, a.c2]), (87, .agg #[.int .i64 k, .string x, .string y]), (88, .agg #[.int .i64 k, .string x, .string y])] (by kernel_rfl) fun v => Q2 v W1 a (ha.carry (fun b hb => hb1.block b hb) (fun b hb => Nat.lt_of_lt_of_le hb hb1.size)) g (hg.of_block (hb1.block g hg.lt)) hgb⟩
  have P1 : ∀ (v : Nat → Value) (W : World) (a : C3) (ha : DkAt (fun b => b < W.heap.size) W t a), wpS Try.prog lw27Ops Q (fun W => Below B.heap.size B W) (unl 11 [3, 4, 5, 6, 7, 8, 9, 10], frL v 109 [(2, .pointer (some ⟨bA, 0, none⟩)), (3, .pointer (some ⟨bB, 0, none⟩)), (6, a6), (7, a7), (9, a9), (12, a12), (85, .agg #[c0, c1, c2]), (86, .agg #[a.c0, a.c1, a.c2]), (87, .agg #[.int .i64 k, .string x, .string y])]) [] W := by
    intro v W a ha
    refine T_two 3 8 (by kernel_rfl) (fun hb => ?_) fun hb => ?_
    · refine O_go (toDiskWrite_any k x y W) (by kernel_rfl) ?_
      rintro e W1 ⟨rfl, hb1⟩
      exact ⟨_, rfl, hb.trans (hb1.mono hb.size), T_fr 11 109 [4, 5, 6, 7, 8, 9, 10] [(2, .pointer (some ⟨bA, 0, none⟩)), (3, .pointer (some ⟨bB, 0, none⟩)), (6, a6), (7, a7), (9, a9), (12, a12), (85, .agg #[c0, c1, c2]), (86, .agg #[a.c0, a.c1, a.c2]), (87, .agg #[.int .i64 k, .string x, .string y]), (88, .agg #[.int .i64 k, .string x, .string y])] (by kernel_rfl) fun v => P2 v W1 a (ha.carry (fun b hb => hb1.block b hb) (fun b hb => Nat.lt_of_lt_of_le hb hb1.size))⟩
    · exact O_val (w' := W.alloc (.cells #[.slice none 0 0, .slice none 0 0, .slice none 0 0] 34)) (some 14) (.pointer (some ⟨W.heap.size, 0, none⟩)) (by kernel_rfl) (by kernel_rfl) (hb.alloc hb.size _) (T_fr 11 109 [3, 4, 5, 6, 7, 9, 10] [(2, .pointer (some ⟨bA, 0, none⟩)), (3, .pointer (some ⟨bB, 0, none⟩)), (6, a6), (7, a7), (9, a9), (12, a12), (14, .pointer (some ⟨W.heap.size, 0, none⟩)), (85, .agg #[c0, c1, c2]), (86, .agg #[a.c0, a.c1, a.c2]), (87, .agg #[.int .i64 k, .string x, .string y])] (by kernel_rfl) fun v => Q1 v _ a (ha.carry (fun b hb => Below.heap_alloc _ _ _ hb) (fun b hb => by rw [World.size_alloc]; omega)) _ (row3_alloc W _ _ _ _) hb.size)
  have Q0 : ∀ (v : Nat → Value) (W : World) (g : Nat) (hg : W.rowIs g 34 3 (row3 (.slice none 0 0) (.slice none 0 0) (.slice none 0 0))) (hgb : B.heap.size ≤ g), wpS Try.prog lw27Ops Q (fun W => Below B.heap.size B W) (unl 11 [1, 3, 4, 5, 6, 7, 9, 10], frL v 109 [(2, .pointer (some ⟨bA, 0, none⟩)), (3, .pointer (some ⟨bB, 0, none⟩)), (6, a6), (7, a7), (9, a9), (12, a12), (14, .pointer (some ⟨g, 0, none⟩)), (85, .agg #[c0, c1, c2]), (87, .agg #[.int .i64 k, .string x, .string y])]) [] W := by
    intro v W g hg hgb
    refine T_one 1 (by kernel_rfl) fun hb => ?_
    · refine O_go (hCP W hb) (by kernel_rfl) ?_
      rintro e W1 ⟨a, rfl, hat, hb1⟩
      exact ⟨_, rfl, hb.trans (hb1.mono hb.size), T_fr 11 109 [3, 4, 5, 6, 7, 9, 10] [(2, .pointer (some ⟨bA, 0, none⟩)), (3, .pointer (some ⟨bB, 0, none⟩)), (6, a6), (7, a7), (9, a9), (12, a12), (14, .pointer (some ⟨g, 0, none⟩)), (85, .agg #[c0, c1, c2]), (86, .agg #[a.c0, a.c1, a.c2]), (87, .agg #[.int .i64 k, .string x, .string y])] (by kernel_rfl) fun v => Q1 v W1 a (hat.carry (fun _ _ => rfl) (fun b hb => hb.1.2)) g (hg.of_block (hb1.block g hg.lt)) hgb⟩
  have P0 : ∀ (v : Nat → Value) (W : World), wpS Try.prog lw27Ops Q (fun W => Below B.heap.size B W) (unl 11 [1, 3, 4, 5, 6, 7, 8, 9, 10], frL v 109 [(2, .pointer (some ⟨bA, 0, none⟩)), (3, .pointer (some ⟨bB, 0, none⟩)), (6, a6), (7, a7), (9, a9), (12, a12), (85, .agg #[c0, c1, c2]), (87, .agg #[.int .i64 k, .string x, .string y])]) [] W := by
    intro v W
    refine T_two 1 8 (by kernel_rfl) (fun hb => ?_) fun hb => ?_
    · refine O_go (hCP W hb) (by kernel_rfl) ?_
      rintro e W1 ⟨a, rfl, hat, hb1⟩
      exact ⟨_, rfl, hb.trans (hb1.mono hb.size), T_fr 11 109 [3, 4, 5, 6, 7, 8, 9, 10] [(2, .pointer (some ⟨bA, 0, none⟩)), (3, .pointer (some ⟨bB, 0, none⟩)), (6, a6), (7, a7), (9, a9), (12, a12), (85, .agg #[c0, c1, c2]), (86, .agg #[a.c0, a.c1, a.c2]), (87, .agg #[.int .i64 k, .string x, .string y])] (by kernel_rfl) fun v => P1 v W1 a (hat.carry (fun _ _ => rfl) (fun b hb => hb.1.2))⟩
    · exact O_val (w' := W.alloc (.cells #[.slice none 0 0, .slice none 0 0, .slice none 0 0] 34)) (some 14) (.pointer (some ⟨W.heap.size, 0, none⟩)) (by kernel_rfl) (by kernel_rfl) (hb.alloc hb.size _) (T_fr 11 109 [1, 3, 4, 5, 6, 7, 9, 10] [(2, .pointer (some ⟨bA, 0, none⟩)), (3, .pointer (some ⟨bB, 0, none⟩)), (6, a6), (7, a7), (9, a9), (12, a12), (14, .pointer (some ⟨W.heap.size, 0, none⟩)), (85, .agg #[c0, c1, c2]), (87, .agg #[.int .i64 k, .string x, .string y])] (by kernel_rfl) fun v => Q0 v _ _ (row3_alloc W _ _ _ _) hb.size)
  refine T_a hq [0, 2] (fun w h => .cons (ld3 rowLD infoLD (hA.of_block (h.block _ hA.lt))) (.cons (ld3 rowLW infoLW (hB.of_block (h.block _ hB.lt))) Lds.nil)) (by kernel_rfl) ?_
  exact T_fr 11 109 [1, 3, 4, 5, 6, 7, 8, 9, 10] [(2, .pointer (some ⟨bA, 0, none⟩)), (3, .pointer (some ⟨bB, 0, none⟩)), (6, a6), (7, a7), (9, a9), (12, a12), (85, .agg #[c0, c1, c2]), (87, .agg #[.int .i64 k, .string x, .string y])] (by kernel_rfl) fun v => P0 v _
end Go.Proofs.Ytekchajnellcdaa
