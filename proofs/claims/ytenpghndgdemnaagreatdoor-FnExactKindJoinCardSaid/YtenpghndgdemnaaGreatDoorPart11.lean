/- The drawn regions of the law on KindJoin. Conditions: what is called is taken by its contract. -/
import Derived.Test.YtenpghndgdemnaaGreatDoorPart09
import Derived.Test.YtenpghndgdemnaaGreatDoorPart10
namespace Go.Proofs.YtenpghndgdemnaaGreatDoor
open Go Go.RowKit

theorem infoLawK : (Tryz.prog.info? 36).map (·.size) = some 3 := by kernel_rfl
theorem ldLawK {W : World} {g : Nat} {a b c : Value} (h : W.rowIs g 36 3 (row3 a b c)) : (Instr.loadAt 36 (.pointer (some ⟨g, 0, none⟩))).run Tryz.prog W = .ok (.agg #[a, b, c]) W := by
  have hr : W.rangeAt g 0 [a, b, c] := fun j v hv => by
    have hj : j < 3 := by
      rcases Nat.lt_or_ge j 3 with h1 | h1
      · exact h1
      · rw [List.getElem?_eq_none (by simpa using h1)] at hv; cases hv
    have hc := h.cell (i := j) hj
    rw [show (⟨g, 0 + j, none⟩ : Addr) = ⟨g, j, none⟩ by rw [Nat.zero_add], hc]
    rcases (show j = 0 ∨ j = 1 ∨ j = 2 by omega) with rfl | rfl | rfl <;> simpa [row3] using hv
  unfold Instr.loadAt
  simp only [Instr.sureAddr, Sem.run_bind, Sem.run_pure, Result.andThen_ok, run_loadVar_mid W g 0 36 [a, b, c] _ hr Tryz.underlying36 rfl infoLawK]
theorem krep_any {P : Nat → Prop} {w : World} {k : Kd} {d : C3} (h : KRep P w k d) : Any3 d := by
  obtain ⟨c0, c1, c2⟩ := d
  obtain ⟨g0, -, ⟨a1, cap1, g1, -⟩, a2, cap2, g2, -⟩ := h.open
  simp only at g0 g1 g2
  exact ⟨_, a1, a2, _, cap1, _, cap2, by rw [g0, g1, g2]⟩
noncomputable def jl8Ops : Array Oper := fops Tryz.f4 8
theorem jl8_neat : Region.noSelect jl8Ops = true ∧ neat jl8Ops = true := ⟨by kernel_rfl, by kernel_rfl⟩
set_option maxRecDepth 100000 in
set_option maxHeartbeats 3200000 in
theorem jl8 (k m T : Kd) (r : Bool) (W0 : World) (c d : C3) (bA bB : Nat) (hA : W0.drew.rowIs bA 36 3 (row3 c.c0 c.c1 c.c2)) (hB : W0.drew.rowIs bB 36 3 (row3 d.c0 d.c1 d.c2))
    (hCK : ∀ W, Below W0.drew.heap.size W0.drew W → Calls Tryz.prog 13 #[.agg #[c.c0, c.c1, c.c2]] W fun e w' => ∃ c' : C3, e = .returned (.agg #[c'.c0, c'.c1, c'.c2]) ∧ KRep (New W w') w' k c' ∧ Below W.heap.size W w')
    (hCM : ∀ W, Below W0.drew.heap.size W0.drew W → Calls Tryz.prog 13 #[.agg #[d.c0, d.c1, d.c2]] W fun e w' => ∃ c' : C3, e = .returned (.agg #[c'.c0, c'.c1, c'.c2]) ∧ KRep (New W w') w' m c' ∧ Below W.heap.size W w')
    (hC : ∀ (a b : C3) (W : World), Below W0.drew.heap.size W0.drew W → KRep (fun b => b < W.heap.size) W k a → KRep (fun b => b < W.heap.size) W m b → Calls Tryz.prog 6 #[.agg #[a.c0, a.c1, a.c2], .agg #[b.c0, b.c1, b.c2]] W fun e w' => ∃ dW : C3, e = .returned (.tuple #[.agg #[dW.c0, dW.c1, dW.c2], .bool r]) ∧ KRep (New W w') w' T dW ∧ Below W.heap.size W w')
    {l : List Value} (Q : Exit → Act → World → Prop) (hQ : ∀ c a d v w, Q (.panic c) (Act.put a d v) w → Q (.panic c) a w) (hl : lookL [(2, .pointer (some ⟨bA, 0, none⟩)), (3, .pointer (some ⟨bB, 0, none⟩))] l = (119, [.pointer (some ⟨bA, 0, none⟩), .pointer (some ⟨bB, 0, none⟩)]))
    (hend : ∀ v (dW : C3) (g : Nat) (W' : World), KRep (fun b => W0.drew.heap.size ≤ b ∧ b < W'.heap.size ∧ b ≠ g) W' T dW → W'.rowIs g 26 3 (row3 dW.c0 dW.c1 dW.c2) → W0.drew.heap.size ≤ g → Below W0.drew.heap.size W0.drew W' → Q .normal ⟨(frL v 119 [(2, .pointer (some ⟨bA, 0, none⟩)), (3, .pointer (some ⟨bB, 0, none⟩)), (6, .pointer (some ⟨g, 0, none⟩)), (7, .bool r)]).toArray, []⟩ W') : (Code.region 8 jl8Ops true).wp Tryz.prog Q ⟨l.toArray, []⟩ W0 := by
  obtain ⟨v0, rfl⟩ := look_fr hl
  have hq : NtQ jl8Ops Q := ⟨jl8_neat, hQ⟩
  refine T_start (S := fun W => Below W0.drew.heap.size W0.drew W) (by kernel_rfl) (Below.refl _ _) ?_
  clear hl hQ
  generalize W0.drew = B at hA hB hCK hCM hC hend ⊢
  have Q3 : ∀ (v : Nat → Value) (W : World) (dW : C3) (g : Nat) (hg : W.rowIs g 26 3 (row3 (.int .i64 0) (.slice none 0 0) (.slice none 0 0))) (hgb : B.heap.size ≤ g) (hr : KRep (fun b => B.heap.size ≤ b ∧ b < W.heap.size ∧ b ≠ g) W T dW), wpS Tryz.prog jl8Ops Q (fun W => Below B.heap.size B W) (unl 11 [9, 10], frL v 119 [(2, .pointer (some ⟨bA, 0, none⟩)), (3, .pointer (some ⟨bB, 0, none⟩)), (6, .pointer (some ⟨g, 0, none⟩)), (28, .agg #[c.c0, c.c1, c.c2]), (30, .agg #[d.c0, d.c1, d.c2]), (33, .agg #[dW.c0, dW.c1, dW.c2]), (34, .bool r)]) [] W := by
    intro v W dW g hg hgb hr
    refine T_one 9 (by kernel_rfl) fun hb => ?_
    have hs3 := set3f W g dW.c0 dW.c1 dW.c2
    have hb2 := below_boxf hb hgb hs3.1
    refine O_store_mid none 26 (.tmp 6) (.tmp 33) g 0 #[dW.c0, dW.c1, dW.c2] (by kernel_rfl) (by kernel_rfl) (by kernel_rfl) (there3f hg) sizeKd (krep_any hr).one hb2 ?_
    have hr2 := KRep.carry (Q := fun b => B.heap.size ≤ b ∧ b < (W.setCells g 0 [dW.c0, dW.c1, dW.c2]).heap.size ∧ b ≠ g) (w' := W.setCells g 0 [dW.c0, dW.c1, dW.c2]) (fun b hb => hs3.1.at hb.2.1 hb.2.2) (fun b hb => ⟨hb.1, Nat.lt_of_lt_of_le hb.2.1 hs3.1.size, hb.2.2⟩) _ _ hr
    exact T_z hq [10] (by kernel_rfl) (T_end 119 [(2, .pointer (some ⟨bA, 0, none⟩)), (3, .pointer (some ⟨bB, 0, none⟩)), (6, .pointer (some ⟨g, 0, none⟩)), (7, .bool r)] (by kernel_rfl) (by kernel_rfl) fun _ v => hend v dW g _ hr2 (hs3.2 _ _ hg) hgb hb2)
  have P3 : ∀ (v : Nat → Value) (W : World) (dW : C3) (hr : KRep (fun b => B.heap.size ≤ b ∧ b < W.heap.size) W T dW), wpS Tryz.prog jl8Ops Q (fun W => Below B.heap.size B W) (unl 11 [8, 9, 10], frL v 119 [(2, .pointer (some ⟨bA, 0, none⟩)), (3, .pointer (some ⟨bB, 0, none⟩)), (28, .agg #[c.c0, c.c1, c.c2]), (30, .agg #[d.c0, d.c1, d.c2]), (33, .agg #[dW.c0, dW.c1, dW.c2]), (34, .bool r)]) [] W := by
    intro v W dW hr
    refine T_one 8 (by kernel_rfl) fun hb => ?_
    exact O_val (w' := W.alloc (.cells #[.int .i64 0, .slice none 0 0, .slice none 0 0] 26)) (some 6) (.pointer (some ⟨W.heap.size, 0, none⟩)) (by kernel_rfl) (by kernel_rfl) (hb.alloc hb.size _) (T_fr 11 119 [9, 10] [(2, .pointer (some ⟨bA, 0, none⟩)), (3, .pointer (some ⟨bB, 0, none⟩)), (6, .pointer (some ⟨W.heap.size, 0, none⟩)), (28, .agg #[c.c0, c.c1, c.c2]), (30, .agg #[d.c0, d.c1, d.c2]), (33, .agg #[dW.c0, dW.c1, dW.c2]), (34, .bool r)] (by kernel_rfl) fun v => Q3 v _ dW _ (row3_alloc W _ _ _ _) hb.size (KRep.carry (fun b hb => Below.heap_alloc _ _ _ hb.2) (fun b hb => by rw [World.size_alloc]; omega) _ _ hr))
  have Q2 : ∀ (v : Nat → Value) (W : World) (a : C3) (ha : KRep (fun b => b < W.heap.size) W k a) (b : C3) (hb2 : KRep (fun b => b < W.heap.size) W m b) (g : Nat) (hg : W.rowIs g 26 3 (row3 (.int .i64 0) (.slice none 0 0) (.slice none 0 0))) (hgb : B.heap.size ≤ g), wpS Tryz.prog jl8Ops Q (fun W => Below B.heap.size B W) (unl 11 [4, 5, 6, 7, 9, 10], frL v 119 [(2, .pointer (some ⟨bA, 0, none⟩)), (3, .pointer (some ⟨bB, 0, none⟩)), (6, .pointer (some ⟨g, 0, none⟩)), (28, .agg #[c.c0, c.c1, c.c2]), (29, .agg #[a.c0, a.c1, a.c2]), (30, .agg #[d.c0, d.c1, d.c2]), (31, .agg #[b.c0, b.c1, b.c2])]) [] W := by
    intro v W a ha b hb2 g hg hgb
    refine T_one 4 (by kernel_rfl) fun hb => ?_
    refine O_go (hC a b W hb ha hb2) (by kernel_rfl) ?_
    rintro e W1 ⟨dW, rfl, ho, hb1⟩
    exact ⟨_, rfl, hb.trans (hb1.mono hb.size), T_z hq [5, 6, 7] (by kernel_rfl) (T_fr 11 119 [9, 10] [(2, .pointer (some ⟨bA, 0, none⟩)), (3, .pointer (some ⟨bB, 0, none⟩)), (6, .pointer (some ⟨g, 0, none⟩)), (28, .agg #[c.c0, c.c1, c.c2]), (30, .agg #[d.c0, d.c1, d.c2]), (33, .agg #[dW.c0, dW.c1, dW.c2]), (34, .bool r)] (by kernel_rfl) fun v => Q3 v W1 dW g (hg.of_block (hb1.block g hg.lt)) hgb (KRep.carry (fun _ _ => rfl) (fun b hb' => by have := hb'.1; have := hb'.2; have := hb.size; have := hg.lt; omega) _ _ ho))⟩
  have P2 : ∀ (v : Nat → Value) (W : World) (a : C3) (ha : KRep (fun b => b < W.heap.size) W k a) (b : C3) (hb2 : KRep (fun b => b < W.heap.size) W m b), wpS Tryz.prog jl8Ops Q (fun W => Below B.heap.size B W) (unl 11 [4, 5, 6, 7, 8, 9, 10], frL v 119 [(2, .pointer (some ⟨bA, 0, none⟩)), (3, .pointer (some ⟨bB, 0, none⟩)), (28, .agg #[c.c0, c.c1, c.c2]), (29, .agg #[a.c0, a.c1, a.c2]), (30, .agg #[d.c0, d.c1, d.c2]), (31, .agg #[b.c0, b.c1, b.c2])]) [] W := by
    intro v W a ha b hb2
    refine T_two 4 8 (by kernel_rfl) (fun hb => ?_) fun hb => ?_
    · refine O_go (hC a b W hb ha hb2) (by kernel_rfl) ?_
      rintro e W1 ⟨dW, rfl, ho, hb1⟩
      exact ⟨_, rfl, hb.trans (hb1.mono hb.size), T_z hq [5, 6, 7] (by kernel_rfl) (T_fr 11 119 [8, 9, 10] [(2, .pointer (some ⟨bA, 0, none⟩)), (3, .pointer (some ⟨bB, 0, none⟩)), (28, .agg #[c.c0, c.c1, c.c2]), (30, .agg #[d.c0, d.c1, d.c2]), (33, .agg #[dW.c0, dW.c1, dW.c2]), (34, .bool r)] (by kernel_rfl) fun v => P3 v W1 dW (KRep.carry (fun _ _ => rfl) (fun b hb' => by have := hb'.1; have := hb'.2; have := hb.size; omega) _ _ ho))⟩
    · exact O_val (w' := W.alloc (.cells #[.int .i64 0, .slice none 0 0, .slice none 0 0] 26)) (some 6) (.pointer (some ⟨W.heap.size, 0, none⟩)) (by kernel_rfl) (by kernel_rfl) (hb.alloc hb.size _) (T_fr 11 119 [4, 5, 6, 7, 9, 10] [(2, .pointer (some ⟨bA, 0, none⟩)), (3, .pointer (some ⟨bB, 0, none⟩)), (6, .pointer (some ⟨W.heap.size, 0, none⟩)), (28, .agg #[c.c0, c.c1, c.c2]), (29, .agg #[a.c0, a.c1, a.c2]), (30, .agg #[d.c0, d.c1, d.c2]), (31, .agg #[b.c0, b.c1, b.c2])] (by kernel_rfl) fun v => Q2 v _ a (KRep.carry (fun b hb => Below.heap_alloc _ _ _ hb) (fun b hb => by rw [World.size_alloc]; omega) _ _ ha) b (KRep.carry (fun b hb => Below.heap_alloc _ _ _ hb) (fun b hb => by rw [World.size_alloc]; omega) _ _ hb2) _ (row3_alloc W _ _ _ _) hb.size)
  have Q1 : ∀ (v : Nat → Value) (W : World) (a : C3) (ha : KRep (fun b => b < W.heap.size) W k a) (g : Nat) (hg : W.rowIs g 26 3 (row3 (.int .i64 0) (.slice none 0 0) (.slice none 0 0))) (hgb : B.heap.size ≤ g), wpS Tryz.prog jl8Ops Q (fun W => Below B.heap.size B W) (unl 11 [3, 4, 5, 6, 7, 9, 10], frL v 119 [(2, .pointer (some ⟨bA, 0, none⟩)), (3, .pointer (some ⟨bB, 0, none⟩)), (6, .pointer (some ⟨g, 0, none⟩)), (28, .agg #[c.c0, c.c1, c.c2]), (29, .agg #[a.c0, a.c1, a.c2]), (30, .agg #[d.c0, d.c1, d.c2])]) [] W := by
    intro v W a ha g hg hgb
    refine T_one 3 (by kernel_rfl) fun hb => ?_
    refine O_go (hCM W hb) (by kernel_rfl) ?_
    rintro e W1 ⟨b, rfl, hat, hb1⟩
    exact ⟨_, rfl, hb.trans (hb1.mono hb.size), T_fr 11 119 [4, 5, 6, 7, 9, 10] [(2, .pointer (some ⟨bA, 0, none⟩)), (3, .pointer (some ⟨bB, 0, none⟩)), (6, .pointer (some ⟨g, 0, none⟩)), (28, .agg #[c.c0, c.c1, c.c2]), (29, .agg #[a.c0, a.c1, a.c2]), (30, .agg #[d.c0, d.c1, d.c2]), (31, .agg #[b.c0, b.c1, b.c2])] (by kernel_rfl) fun v => Q2 v W1 a (KRep.carry (fun b hb => hb1.block b hb) (fun b hb => Nat.lt_of_lt_of_le hb hb1.size) _ _ ha) b (KRep.carry (fun _ _ => rfl) (fun b hb => hb.2) _ _ hat) g (hg.of_block (hb1.block g hg.lt)) hgb⟩
  have P1 : ∀ (v : Nat → Value) (W : World) (a : C3) (ha : KRep (fun b => b < W.heap.size) W k a), wpS Tryz.prog jl8Ops Q (fun W => Below B.heap.size B W) (unl 11 [3, 4, 5, 6, 7, 8, 9, 10], frL v 119 [(2, .pointer (some ⟨bA, 0, none⟩)), (3, .pointer (some ⟨bB, 0, none⟩)), (28, .agg #[c.c0, c.c1, c.c2]), (29, .agg #[a.c0, a.c1, a.c2]), (30, .agg #[d.c0, d.c1, d.c2])]) [] W := by
    intro v W a ha
    refine T_two 3 8 (by kernel_rfl) (fun hb => ?_) fun hb => ?_
    · refine O_go (hCM W hb) (by kernel_rfl) ?_
      rintro e W1 ⟨b, rfl, hat, hb1⟩
      exact ⟨_, rfl, hb.trans (hb1.mono hb.size), T_fr 11 119 [4, 5, 6, 7, 8, 9, 10] [(2, .pointer (some ⟨bA, 0, none⟩)), (3, .pointer (some ⟨bB, 0, none⟩)), (28, .agg #[c.c0, c.c1, c.c2]), (29, .agg #[a.c0, a.c1, a.c2]), (30, .agg #[d.c0, d.c1, d.c2]), (31, .agg #[b.c0, b.c1, b.c2])] (by kernel_rfl) fun v => P2 v W1 a (KRep.carry (fun b hb => hb1.block b hb) (fun b hb => Nat.lt_of_lt_of_le hb hb1.size) _ _ ha) b (KRep.carry (fun _ _ => rfl) (fun b hb => hb.2) _ _ hat)⟩
    · exact O_val (w' := W.alloc (.cells #[.int .i64 0, .slice none 0 0, .slice none 0 0] 26)) (some 6) (.pointer (some ⟨W.heap.size, 0, none⟩)) (by kernel_rfl) (by kernel_rfl) (hb.alloc hb.size _) (T_fr 11 119 [3, 4, 5, 6, 7, 9, 10] [(2, .pointer (some ⟨bA, 0, none⟩)), (3, .pointer (some ⟨bB, 0, none⟩)), (6, .pointer (some ⟨W.heap.size, 0, none⟩)), (28, .agg #[c.c0, c.c1, c.c2]), (29, .agg #[a.c0, a.c1, a.c2]), (30, .agg #[d.c0, d.c1, d.c2])] (by kernel_rfl) fun v => Q1 v _ a (KRep.carry (fun b hb => Below.heap_alloc _ _ _ hb) (fun b hb => by rw [World.size_alloc]; omega) _ _ ha) _ (row3_alloc W _ _ _ _) hb.size)
  have Q0 : ∀ (v : Nat → Value) (W : World)  (g : Nat) (hg : W.rowIs g 26 3 (row3 (.int .i64 0) (.slice none 0 0) (.slice none 0 0))) (hgb : B.heap.size ≤ g), wpS Tryz.prog jl8Ops Q (fun W => Below B.heap.size B W) (unl 11 [1, 3, 4, 5, 6, 7, 9, 10], frL v 119 [(2, .pointer (some ⟨bA, 0, none⟩)), (3, .pointer (some ⟨bB, 0, none⟩)), (6, .pointer (some ⟨g, 0, none⟩)), (28, .agg #[c.c0, c.c1, c.c2]), (30, .agg #[d.c0, d.c1, d.c2])]) [] W := by
    intro v W  g hg hgb
    refine T_one 1 (by kernel_rfl) fun hb => ?_
    refine O_go (hCK W hb) (by kernel_rfl) ?_
    rintro e W1 ⟨a, rfl, hat, hb1⟩
    exact ⟨_, rfl, hb.trans (hb1.mono hb.size), T_fr 11 119 [3, 4, 5, 6, 7, 9, 10] [(2, .pointer (some ⟨bA, 0, none⟩)), (3, .pointer (some ⟨bB, 0, none⟩)), (6, .pointer (some ⟨g, 0, none⟩)), (28, .agg #[c.c0, c.c1, c.c2]), (29, .agg #[a.c0, a.c1, a.c2]), (30, .agg #[d.c0, d.c1, d.c2])] (by kernel_rfl) fun v => Q1 v W1  a (KRep.carry (fun _ _ => rfl) (fun b hb => hb.2) _ _ hat) g (hg.of_block (hb1.block g hg.lt)) hgb⟩
  have P0 : ∀ (v : Nat → Value) (W : World) , wpS Tryz.prog jl8Ops Q (fun W => Below B.heap.size B W) (unl 11 [1, 3, 4, 5, 6, 7, 8, 9, 10], frL v 119 [(2, .pointer (some ⟨bA, 0, none⟩)), (3, .pointer (some ⟨bB, 0, none⟩)), (28, .agg #[c.c0, c.c1, c.c2]), (30, .agg #[d.c0, d.c1, d.c2])]) [] W := by
    intro v W 
    refine T_two 1 8 (by kernel_rfl) (fun hb => ?_) fun hb => ?_
    · refine O_go (hCK W hb) (by kernel_rfl) ?_
      rintro e W1 ⟨a, rfl, hat, hb1⟩
      exact ⟨_, rfl, hb.trans (hb1.mono hb.size), T_fr 11 119 [3, 4, 5, 6, 7, 8, 9, 10] [(2, .pointer (some ⟨bA, 0, none⟩)), (3, .pointer (some ⟨bB, 0, none⟩)), (28, .agg #[c.c0, c.c1, c.c2]), (29, .agg #[a.c0, a.c1, a.c2]), (30, .agg #[d.c0, d.c1, d.c2])] (by kernel_rfl) fun v => P1 v W1  a (KRep.carry (fun _ _ => rfl) (fun b hb => hb.2) _ _ hat)⟩
    · exact O_val (w' := W.alloc (.cells #[.int .i64 0, .slice none 0 0, .slice none 0 0] 26)) (some 6) (.pointer (some ⟨W.heap.size, 0, none⟩)) (by kernel_rfl) (by kernel_rfl) (hb.alloc hb.size _) (T_fr 11 119 [1, 3, 4, 5, 6, 7, 9, 10] [(2, .pointer (some ⟨bA, 0, none⟩)), (3, .pointer (some ⟨bB, 0, none⟩)), (6, .pointer (some ⟨W.heap.size, 0, none⟩)), (28, .agg #[c.c0, c.c1, c.c2]), (30, .agg #[d.c0, d.c1, d.c2])] (by kernel_rfl) fun v => Q0 v _  _ (row3_alloc W _ _ _ _) hb.size)
  refine T_a hq [0, 2] (fun w h => .cons (ldLawK (hA.of_block (h.block _ hA.lt))) (.cons (ldLawK (hB.of_block (h.block _ hB.lt))) Lds.nil)) (by kernel_rfl) ?_
  exact T_fr 11 119 [1, 3, 4, 5, 6, 7, 8, 9, 10] [(2, .pointer (some ⟨bA, 0, none⟩)), (3, .pointer (some ⟨bB, 0, none⟩)), (28, .agg #[c.c0, c.c1, c.c2]), (30, .agg #[d.c0, d.c1, d.c2])] (by kernel_rfl) fun v => P0 v _
noncomputable def jl31Ops : Array Oper := fops Tryz.f4 31
theorem jl31_neat : Region.noSelect jl31Ops = true ∧ neat jl31Ops = true := ⟨by kernel_rfl, by kernel_rfl⟩
set_option maxRecDepth 100000 in
set_option maxHeartbeats 3200000 in
theorem jl31 (k m T : Kd) (r : Bool) (W0 : World) (c d : C3) (bA bB : Nat) (hA : W0.drew.rowIs bA 36 3 (row3 c.c0 c.c1 c.c2)) (hB : W0.drew.rowIs bB 36 3 (row3 d.c0 d.c1 d.c2)) (a6 a7 a10 a13 : Value)
    (hCK : ∀ W, Below W0.drew.heap.size W0.drew W → Calls Tryz.prog 13 #[.agg #[c.c0, c.c1, c.c2]] W fun e w' => ∃ c' : C3, e = .returned (.agg #[c'.c0, c'.c1, c'.c2]) ∧ KRep (New W w') w' k c' ∧ Below W.heap.size W w')
    (hCM : ∀ W, Below W0.drew.heap.size W0.drew W → Calls Tryz.prog 13 #[.agg #[d.c0, d.c1, d.c2]] W fun e w' => ∃ c' : C3, e = .returned (.agg #[c'.c0, c'.c1, c'.c2]) ∧ KRep (New W w') w' m c' ∧ Below W.heap.size W w')
    (hC : ∀ (a b : C3) (W : World), Below W0.drew.heap.size W0.drew W → KRep (fun b => b < W.heap.size) W k a → KRep (fun b => b < W.heap.size) W m b → Calls Tryz.prog 7 #[.agg #[a.c0, a.c1, a.c2], .agg #[b.c0, b.c1, b.c2]] W fun e w' => ∃ dW : C3, e = .returned (.tuple #[.agg #[dW.c0, dW.c1, dW.c2], .bool r]) ∧ KRep (New W w') w' T dW ∧ Below W.heap.size W w')
    {l : List Value} (Q : Exit → Act → World → Prop) (hQ : ∀ c a d v w, Q (.panic c) (Act.put a d v) w → Q (.panic c) a w) (hl : lookL [(2, .pointer (some ⟨bA, 0, none⟩)), (3, .pointer (some ⟨bB, 0, none⟩)), (6, a6), (7, a7), (10, a10), (13, a13)] l = (119, [.pointer (some ⟨bA, 0, none⟩), .pointer (some ⟨bB, 0, none⟩), a6, a7, a10, a13]))
    (hend : ∀ v (dW : C3) (g : Nat) (W' : World), KRep (fun b => W0.drew.heap.size ≤ b ∧ b < W'.heap.size ∧ b ≠ g) W' T dW → W'.rowIs g 26 3 (row3 dW.c0 dW.c1 dW.c2) → W0.drew.heap.size ≤ g → Below W0.drew.heap.size W0.drew W' → Q .normal ⟨(frL v 119 [(2, .pointer (some ⟨bA, 0, none⟩)), (3, .pointer (some ⟨bB, 0, none⟩)), (6, a6), (7, a7), (10, a10), (13, a13), (15, .pointer (some ⟨g, 0, none⟩)), (16, .bool r)]).toArray, []⟩ W') : (Code.region 31 jl31Ops true).wp Tryz.prog Q ⟨l.toArray, []⟩ W0 := by
  obtain ⟨v0, rfl⟩ := look_fr hl
  have hq : NtQ jl31Ops Q := ⟨jl31_neat, hQ⟩
  refine T_start (S := fun W => Below W0.drew.heap.size W0.drew W) (by kernel_rfl) (Below.refl _ _) ?_
  clear hl hQ
  generalize W0.drew = B at hA hB hCK hCM hC hend ⊢
  have Q3 : ∀ (v : Nat → Value) (W : World) (dW : C3) (g : Nat) (hg : W.rowIs g 26 3 (row3 (.int .i64 0) (.slice none 0 0) (.slice none 0 0))) (hgb : B.heap.size ≤ g) (hr : KRep (fun b => B.heap.size ≤ b ∧ b < W.heap.size ∧ b ≠ g) W T dW), wpS Tryz.prog jl31Ops Q (fun W => Below B.heap.size B W) (unl 11 [9, 10], frL v 119 [(2, .pointer (some ⟨bA, 0, none⟩)), (3, .pointer (some ⟨bB, 0, none⟩)), (6, a6), (7, a7), (10, a10), (13, a13), (15, .pointer (some ⟨g, 0, none⟩)), (95, .agg #[c.c0, c.c1, c.c2]), (97, .agg #[d.c0, d.c1, d.c2]), (100, .agg #[dW.c0, dW.c1, dW.c2]), (101, .bool r)]) [] W := by
    intro v W dW g hg hgb hr
    refine T_one 9 (by kernel_rfl) fun hb => ?_
    have hs3 := set3f W g dW.c0 dW.c1 dW.c2
    have hb2 := below_boxf hb hgb hs3.1
    refine O_store_mid none 26 (.tmp 15) (.tmp 100) g 0 #[dW.c0, dW.c1, dW.c2] (by kernel_rfl) (by kernel_rfl) (by kernel_rfl) (there3f hg) sizeKd (krep_any hr).one hb2 ?_
    have hr2 := KRep.carry (Q := fun b => B.heap.size ≤ b ∧ b < (W.setCells g 0 [dW.c0, dW.c1, dW.c2]).heap.size ∧ b ≠ g) (w' := W.setCells g 0 [dW.c0, dW.c1, dW.c2]) (fun b hb => hs3.1.at hb.2.1 hb.2.2) (fun b hb => ⟨hb.1, Nat.lt_of_lt_of_le hb.2.1 hs3.1.size, hb.2.2⟩) _ _ hr
    exact T_z hq [10] (by kernel_rfl) (T_end 119 [(2, .pointer (some ⟨bA, 0, none⟩)), (3, .pointer (some ⟨bB, 0, none⟩)), (6, a6), (7, a7), (10, a10), (13, a13), (15, .pointer (some ⟨g, 0, none⟩)), (16, .bool r)] (by kernel_rfl) (by kernel_rfl) fun _ v => hend v dW g _ hr2 (hs3.2 _ _ hg) hgb hb2)
  have P3 : ∀ (v : Nat → Value) (W : World) (dW : C3) (hr : KRep (fun b => B.heap.size ≤ b ∧ b < W.heap.size) W T dW), wpS Tryz.prog jl31Ops Q (fun W => Below B.heap.size B W) (unl 11 [8, 9, 10], frL v 119 [(2, .pointer (some ⟨bA, 0, none⟩)), (3, .pointer (some ⟨bB, 0, none⟩)), (6, a6), (7, a7), (10, a10), (13, a13), (95, .agg #[c.c0, c.c1, c.c2]), (97, .agg #[d.c0, d.c1, d.c2]), (100, .agg #[dW.c0, dW.c1, dW.c2]), (101, .bool r)]) [] W := by
    intro v W dW hr
    refine T_one 8 (by kernel_rfl) fun hb => ?_
    exact O_val (w' := W.alloc (.cells #[.int .i64 0, .slice none 0 0, .slice none 0 0] 26)) (some 15) (.pointer (some ⟨W.heap.size, 0, none⟩)) (by kernel_rfl) (by kernel_rfl) (hb.alloc hb.size _) (T_fr 11 119 [9, 10] [(2, .pointer (some ⟨bA, 0, none⟩)), (3, .pointer (some ⟨bB, 0, none⟩)), (6, a6), (7, a7), (10, a10), (13, a13), (15, .pointer (some ⟨W.heap.size, 0, none⟩)), (95, .agg #[c.c0, c.c1, c.c2]), (97, .agg #[d.c0, d.c1, d.c2]), (100, .agg #[dW.c0, dW.c1, dW.c2]), (101, .bool r)] (by kernel_rfl) fun v => Q3 v _ dW _ (row3_alloc W _ _ _ _) hb.size (KRep.carry (fun b hb => Below.heap_alloc _ _ _ hb.2) (fun b hb => by rw [World.size_alloc]; omega) _ _ hr))
  have Q2 : ∀ (v : Nat → Value) (W : World) (a : C3) (ha : KRep (fun b => b < W.heap.size) W k a) (b : C3) (hb2 : KRep (fun b => b < W.heap.size) W m b) (g : Nat) (hg : W.rowIs g 26 3 (row3 (.int .i64 0) (.slice none 0 0) (.slice none 0 0))) (hgb : B.heap.size ≤ g), wpS Tryz.prog jl31Ops Q (fun W => Below B.heap.size B W) (unl 11 [4, 5, 6, 7, 9, 10], frL v 119 [(2, .pointer (some ⟨bA, 0, none⟩)), (3, .pointer (some ⟨bB, 0, none⟩)), (6, a6), (7, a7), (10, a10), (13, a13), (15, .pointer (some ⟨g, 0, none⟩)), (95, .agg #[c.c0, c.c1, c.c2]), (96, .agg #[a.c0, a.c1, a.c2]), (97, .agg #[d.c0, d.c1, d.c2]), (98, .agg #[b.c0, b.c1, b.c2])]) [] W := by
    intro v W a ha b hb2 g hg hgb
    refine T_one 4 (by kernel_rfl) fun hb => ?_
    refine O_go (hC a b W hb ha hb2) (by kernel_rfl) ?_
    rintro e W1 ⟨dW, rfl, ho, hb1⟩
    exact ⟨_, rfl, hb.trans (hb1.mono hb.size), T_z hq [5, 6, 7] (by kernel_rfl) (T_fr 11 119 [9, 10] [(2, .pointer (some ⟨bA, 0, none⟩)), (3, .pointer (some ⟨bB, 0, none⟩)), (6, a6), (7, a7), (10, a10), (13, a13), (15, .pointer (some ⟨g, 0, none⟩)), (95, .agg #[c.c0, c.c1, c.c2]), (97, .agg #[d.c0, d.c1, d.c2]), (100, .agg #[dW.c0, dW.c1, dW.c2]), (101, .bool r)] (by kernel_rfl) fun v => Q3 v W1 dW g (hg.of_block (hb1.block g hg.lt)) hgb (KRep.carry (fun _ _ => rfl) (fun b hb' => by have := hb'.1; have := hb'.2; have := hb.size; have := hg.lt; omega) _ _ ho))⟩
  have P2 : ∀ (v : Nat → Value) (W : World) (a : C3) (ha : KRep (fun b => b < W.heap.size) W k a) (b : C3) (hb2 : KRep (fun b => b < W.heap.size) W m b), wpS Tryz.prog jl31Ops Q (fun W => Below B.heap.size B W) (unl 11 [4, 5, 6, 7, 8, 9, 10], frL v 119 [(2, .pointer (some ⟨bA, 0, none⟩)), (3, .pointer (some ⟨bB, 0, none⟩)), (6, a6), (7, a7), (10, a10), (13, a13), (95, .agg #[c.c0, c.c1, c.c2]), (96, .agg #[a.c0, a.c1, a.c2]), (97, .agg #[d.c0, d.c1, d.c2]), (98, .agg #[b.c0, b.c1, b.c2])]) [] W := by
    intro v W a ha b hb2
    refine T_two 4 8 (by kernel_rfl) (fun hb => ?_) fun hb => ?_
    · refine O_go (hC a b W hb ha hb2) (by kernel_rfl) ?_
      rintro e W1 ⟨dW, rfl, ho, hb1⟩
      exact ⟨_, rfl, hb.trans (hb1.mono hb.size), T_z hq [5, 6, 7] (by kernel_rfl) (T_fr 11 119 [8, 9, 10] [(2, .pointer (some ⟨bA, 0, none⟩)), (3, .pointer (some ⟨bB, 0, none⟩)), (6, a6), (7, a7), (10, a10), (13, a13), (95, .agg #[c.c0, c.c1, c.c2]), (97, .agg #[d.c0, d.c1, d.c2]), (100, .agg #[dW.c0, dW.c1, dW.c2]), (101, .bool r)] (by kernel_rfl) fun v => P3 v W1 dW (KRep.carry (fun _ _ => rfl) (fun b hb' => by have := hb'.1; have := hb'.2; have := hb.size; omega) _ _ ho))⟩
    · exact O_val (w' := W.alloc (.cells #[.int .i64 0, .slice none 0 0, .slice none 0 0] 26)) (some 15) (.pointer (some ⟨W.heap.size, 0, none⟩)) (by kernel_rfl) (by kernel_rfl) (hb.alloc hb.size _) (T_fr 11 119 [4, 5, 6, 7, 9, 10] [(2, .pointer (some ⟨bA, 0, none⟩)), (3, .pointer (some ⟨bB, 0, none⟩)), (6, a6), (7, a7), (10, a10), (13, a13), (15, .pointer (some ⟨W.heap.size, 0, none⟩)), (95, .agg #[c.c0, c.c1, c.c2]), (96, .agg #[a.c0, a.c1, a.c2]), (97, .agg #[d.c0, d.c1, d.c2]), (98, .agg #[b.c0, b.c1, b.c2])] (by kernel_rfl) fun v => Q2 v _ a (KRep.carry (fun b hb => Below.heap_alloc _ _ _ hb) (fun b hb => by rw [World.size_alloc]; omega) _ _ ha) b (KRep.carry (fun b hb => Below.heap_alloc _ _ _ hb) (fun b hb => by rw [World.size_alloc]; omega) _ _ hb2) _ (row3_alloc W _ _ _ _) hb.size)
  have Q1 : ∀ (v : Nat → Value) (W : World) (a : C3) (ha : KRep (fun b => b < W.heap.size) W k a) (g : Nat) (hg : W.rowIs g 26 3 (row3 (.int .i64 0) (.slice none 0 0) (.slice none 0 0))) (hgb : B.heap.size ≤ g), wpS Tryz.prog jl31Ops Q (fun W => Below B.heap.size B W) (unl 11 [3, 4, 5, 6, 7, 9, 10], frL v 119 [(2, .pointer (some ⟨bA, 0, none⟩)), (3, .pointer (some ⟨bB, 0, none⟩)), (6, a6), (7, a7), (10, a10), (13, a13), (15, .pointer (some ⟨g, 0, none⟩)), (95, .agg #[c.c0, c.c1, c.c2]), (96, .agg #[a.c0, a.c1, a.c2]), (97, .agg #[d.c0, d.c1, d.c2])]) [] W := by
    intro v W a ha g hg hgb
    refine T_one 3 (by kernel_rfl) fun hb => ?_
    refine O_go (hCM W hb) (by kernel_rfl) ?_
    rintro e W1 ⟨b, rfl, hat, hb1⟩
    exact ⟨_, rfl, hb.trans (hb1.mono hb.size), T_fr 11 119 [4, 5, 6, 7, 9, 10] [(2, .pointer (some ⟨bA, 0, none⟩)), (3, .pointer (some ⟨bB, 0, none⟩)), (6, a6), (7, a7), (10, a10), (13, a13), (15, .pointer (some ⟨g, 0, none⟩)), (95, .agg #[c.c0, c.c1, c.c2]), (96, .agg #[a.c0, a.c1, a.c2]), (97, .agg #[d.c0, d.c1, d.c2]), (98, .agg #[b.c0, b.c1, b.c2])] (by kernel_rfl) fun v => Q2 v W1 a (KRep.carry (fun b hb => hb1.block b hb) (fun b hb => Nat.lt_of_lt_of_le hb hb1.size) _ _ ha) b (KRep.carry (fun _ _ => rfl) (fun b hb => hb.2) _ _ hat) g (hg.of_block (hb1.block g hg.lt)) hgb⟩
  have P1 : ∀ (v : Nat → Value) (W : World) (a : C3) (ha : KRep (fun b => b < W.heap.size) W k a), wpS Tryz.prog jl31Ops Q (fun W => Below B.heap.size B W) (unl 11 [3, 4, 5, 6, 7, 8, 9, 10], frL v 119 [(2, .pointer (some ⟨bA, 0, none⟩)), (3, .pointer (some ⟨bB, 0, none⟩)), (6, a6), (7, a7), (10, a10), (13, a13), (95, .agg #[c.c0, c.c1, c.c2]), (96, .agg #[a.c0, a.c1, a.c2]), (97, .agg #[d.c0, d.c1, d.c2])]) [] W := by
    intro v W a ha
    refine T_two 3 8 (by kernel_rfl) (fun hb => ?_) fun hb => ?_
    · refine O_go (hCM W hb) (by kernel_rfl) ?_
      rintro e W1 ⟨b, rfl, hat, hb1⟩
      exact ⟨_, rfl, hb.trans (hb1.mono hb.size), T_fr 11 119 [4, 5, 6, 7, 8, 9, 10] [(2, .pointer (some ⟨bA, 0, none⟩)), (3, .pointer (some ⟨bB, 0, none⟩)), (6, a6), (7, a7), (10, a10), (13, a13), (95, .agg #[c.c0, c.c1, c.c2]), (96, .agg #[a.c0, a.c1, a.c2]), (97, .agg #[d.c0, d.c1, d.c2]), (98, .agg #[b.c0, b.c1, b.c2])] (by kernel_rfl) fun v => P2 v W1 a (KRep.carry (fun b hb => hb1.block b hb) (fun b hb => Nat.lt_of_lt_of_le hb hb1.size) _ _ ha) b (KRep.carry (fun _ _ => rfl) (fun b hb => hb.2) _ _ hat)⟩
    · exact O_val (w' := W.alloc (.cells #[.int .i64 0, .slice none 0 0, .slice none 0 0] 26)) (some 15) (.pointer (some ⟨W.heap.size, 0, none⟩)) (by kernel_rfl) (by kernel_rfl) (hb.alloc hb.size _) (T_fr 11 119 [3, 4, 5, 6, 7, 9, 10] [(2, .pointer (some ⟨bA, 0, none⟩)), (3, .pointer (some ⟨bB, 0, none⟩)), (6, a6), (7, a7), (10, a10), (13, a13), (15, .pointer (some ⟨W.heap.size, 0, none⟩)), (95, .agg #[c.c0, c.c1, c.c2]), (96, .agg #[a.c0, a.c1, a.c2]), (97, .agg #[d.c0, d.c1, d.c2])] (by kernel_rfl) fun v => Q1 v _ a (KRep.carry (fun b hb => Below.heap_alloc _ _ _ hb) (fun b hb => by rw [World.size_alloc]; omega) _ _ ha) _ (row3_alloc W _ _ _ _) hb.size)
  have Q0 : ∀ (v : Nat → Value) (W : World)  (g : Nat) (hg : W.rowIs g 26 3 (row3 (.int .i64 0) (.slice none 0 0) (.slice none 0 0))) (hgb : B.heap.size ≤ g), wpS Tryz.prog jl31Ops Q (fun W => Below B.heap.size B W) (unl 11 [1, 3, 4, 5, 6, 7, 9, 10], frL v 119 [(2, .pointer (some ⟨bA, 0, none⟩)), (3, .pointer (some ⟨bB, 0, none⟩)), (6, a6), (7, a7), (10, a10), (13, a13), (15, .pointer (some ⟨g, 0, none⟩)), (95, .agg #[c.c0, c.c1, c.c2]), (97, .agg #[d.c0, d.c1, d.c2])]) [] W := by
    intro v W  g hg hgb
    refine T_one 1 (by kernel_rfl) fun hb => ?_
    refine O_go (hCK W hb) (by kernel_rfl) ?_
    rintro e W1 ⟨a, rfl, hat, hb1⟩
    exact ⟨_, rfl, hb.trans (hb1.mono hb.size), T_fr 11 119 [3, 4, 5, 6, 7, 9, 10] [(2, .pointer (some ⟨bA, 0, none⟩)), (3, .pointer (some ⟨bB, 0, none⟩)), (6, a6), (7, a7), (10, a10), (13, a13), (15, .pointer (some ⟨g, 0, none⟩)), (95, .agg #[c.c0, c.c1, c.c2]), (96, .agg #[a.c0, a.c1, a.c2]), (97, .agg #[d.c0, d.c1, d.c2])] (by kernel_rfl) fun v => Q1 v W1  a (KRep.carry (fun _ _ => rfl) (fun b hb => hb.2) _ _ hat) g (hg.of_block (hb1.block g hg.lt)) hgb⟩
  have P0 : ∀ (v : Nat → Value) (W : World) , wpS Tryz.prog jl31Ops Q (fun W => Below B.heap.size B W) (unl 11 [1, 3, 4, 5, 6, 7, 8, 9, 10], frL v 119 [(2, .pointer (some ⟨bA, 0, none⟩)), (3, .pointer (some ⟨bB, 0, none⟩)), (6, a6), (7, a7), (10, a10), (13, a13), (95, .agg #[c.c0, c.c1, c.c2]), (97, .agg #[d.c0, d.c1, d.c2])]) [] W := by
    intro v W 
    refine T_two 1 8 (by kernel_rfl) (fun hb => ?_) fun hb => ?_
    · refine O_go (hCK W hb) (by kernel_rfl) ?_
      rintro e W1 ⟨a, rfl, hat, hb1⟩
      exact ⟨_, rfl, hb.trans (hb1.mono hb.size), T_fr 11 119 [3, 4, 5, 6, 7, 8, 9, 10] [(2, .pointer (some ⟨bA, 0, none⟩)), (3, .pointer (some ⟨bB, 0, none⟩)), (6, a6), (7, a7), (10, a10), (13, a13), (95, .agg #[c.c0, c.c1, c.c2]), (96, .agg #[a.c0, a.c1, a.c2]), (97, .agg #[d.c0, d.c1, d.c2])] (by kernel_rfl) fun v => P1 v W1  a (KRep.carry (fun _ _ => rfl) (fun b hb => hb.2) _ _ hat)⟩
    · exact O_val (w' := W.alloc (.cells #[.int .i64 0, .slice none 0 0, .slice none 0 0] 26)) (some 15) (.pointer (some ⟨W.heap.size, 0, none⟩)) (by kernel_rfl) (by kernel_rfl) (hb.alloc hb.size _) (T_fr 11 119 [1, 3, 4, 5, 6, 7, 9, 10] [(2, .pointer (some ⟨bA, 0, none⟩)), (3, .pointer (some ⟨bB, 0, none⟩)), (6, a6), (7, a7), (10, a10), (13, a13), (15, .pointer (some ⟨W.heap.size, 0, none⟩)), (95, .agg #[c.c0, c.c1, c.c2]), (97, .agg #[d.c0, d.c1, d.c2])] (by kernel_rfl) fun v => Q0 v _  _ (row3_alloc W _ _ _ _) hb.size)
  refine T_a hq [0, 2] (fun w h => .cons (ldLawK (hA.of_block (h.block _ hA.lt))) (.cons (ldLawK (hB.of_block (h.block _ hB.lt))) Lds.nil)) (by kernel_rfl) ?_
  exact T_fr 11 119 [1, 3, 4, 5, 6, 7, 8, 9, 10] [(2, .pointer (some ⟨bA, 0, none⟩)), (3, .pointer (some ⟨bB, 0, none⟩)), (6, a6), (7, a7), (10, a10), (13, a13), (95, .agg #[c.c0, c.c1, c.c2]), (97, .agg #[d.c0, d.c1, d.c2])] (by kernel_rfl) fun v => P0 v _
noncomputable def jl14Ops : Array Oper := fops Tryz.f4 14
theorem jl14_neat : Region.noSelect jl14Ops = true ∧ neat jl14Ops = true := ⟨by kernel_rfl, by kernel_rfl⟩
set_option maxRecDepth 100000 in
set_option maxHeartbeats 3200000 in
theorem jl14 (k : Kd) (c dX : C3) (D : Nat → Prop) (bA bX : Nat) (W0 : World) (hA : W0.drew.rowIs bA 36 3 (row3 c.c0 c.c1 c.c2)) (hX : W0.drew.rowIs bX 26 3 (row3 dX.c0 dX.c1 dX.c2)) (hrx : KRep D W0.drew k dX) (hD : ∀ b, D b → b < W0.drew.heap.size) (hCK : ∀ W, Below W0.drew.heap.size W0.drew W → Calls Tryz.prog 13 #[.agg #[c.c0, c.c1, c.c2]] W fun e w' => ∃ c' : C3, e = .returned (.agg #[c'.c0, c'.c1, c'.c2]) ∧ KRep (New W w') w' k c' ∧ Below W.heap.size W w') (a3 a6 a7 a9 a10 a11 : Value) {l : List Value} (Q : Exit → Act → World → Prop) (hQ : ∀ c a d v w, Q (.panic c) (Act.put a d v) w → Q (.panic c) a w) (hl : lookL [(2, .pointer (some ⟨bA, 0, none⟩)), (3, a3), (6, a6), (7, a7), (8, .pointer (some ⟨bX, 0, none⟩)), (9, a9), (10, a10), (11, a11)] l = (119, [.pointer (some ⟨bA, 0, none⟩), a3, a6, a7, .pointer (some ⟨bX, 0, none⟩), a9, a10, a11]))
    (hend : ∀ v (W' : World), Below W0.drew.heap.size W0.drew W' → Q .normal ⟨(frL v 119 [(2, .pointer (some ⟨bA, 0, none⟩)), (3, a3), (6, a6), (7, a7), (8, .pointer (some ⟨bX, 0, none⟩)), (9, a9), (10, a10), (11, a11), (58, .bool false)]).toArray, []⟩ W') : (Code.region 14 jl14Ops true).wp Tryz.prog Q ⟨l.toArray, []⟩ W0 := by
  obtain ⟨v0, rfl⟩ := look_fr hl
  have hq : NtQ jl14Ops Q := ⟨jl14_neat, hQ⟩
  refine T_start (S := fun W => Below W0.drew.heap.size W0.drew W) (by kernel_rfl) (Below.refl _ _) ?_
  clear hl hQ
  generalize W0.drew = B at hA hX hrx hD hCK hend ⊢
  refine T_a hq [0, 1] (fun w h => .cons (ldRowJ hX h) (.cons (ldLawK (hA.of_block (h.block _ hA.lt))) Lds.nil)) (by kernel_rfl) ?_
  refine T_one 2 (by kernel_rfl) fun hb => O_go (hCK B hb) (by kernel_rfl) ?_
  rintro e W1 ⟨a, rfl, hat, hb1⟩
  refine ⟨_, rfl, hb1, ?_⟩
  refine T_one 3 (by kernel_rfl) fun hb => O_go (eqKind_any k D (New B W1) dX a W1 (fun b h => Nat.lt_of_lt_of_le (hD b h) hb1.size) (fun b h => h.2) (KRep.carry (fun b h => hb1.block b (hD b h)) (fun _ h => h) _ _ hrx) hat) (by kernel_rfl) ?_
  rintro e W2 ⟨rfl, hb2⟩
  have hb3 := hb1.trans (hb2.mono hb1.size)
  refine ⟨_, rfl, hb3, ?_⟩
  exact T_z hq [4] (by kernel_rfl) (T_end 119 [(2, .pointer (some ⟨bA, 0, none⟩)), (3, a3), (6, a6), (7, a7), (8, .pointer (some ⟨bX, 0, none⟩)), (9, a9), (10, a10), (11, a11), (58, .bool false)] (by kernel_rfl) (by kernel_rfl) fun _ v => hend v _ hb3)
noncomputable def jl16Ops : Array Oper := fops Tryz.f4 16
theorem jl16_neat : Region.noSelect jl16Ops = true ∧ neat jl16Ops = true := ⟨by kernel_rfl, by kernel_rfl⟩
set_option maxRecDepth 100000 in
set_option maxHeartbeats 3200000 in
theorem jl16 (k : Kd) (c dX : C3) (D : Nat → Prop) (bA bX : Nat) (W0 : World) (hA : W0.drew.rowIs bA 36 3 (row3 c.c0 c.c1 c.c2)) (hX : W0.drew.rowIs bX 26 3 (row3 dX.c0 dX.c1 dX.c2)) (hrx : KRep D W0.drew k dX) (hD : ∀ b, D b → b < W0.drew.heap.size) (hCK : ∀ W, Below W0.drew.heap.size W0.drew W → Calls Tryz.prog 13 #[.agg #[c.c0, c.c1, c.c2]] W fun e w' => ∃ c' : C3, e = .returned (.agg #[c'.c0, c'.c1, c'.c2]) ∧ KRep (New W w') w' k c' ∧ Below W.heap.size W w') (a2 a6 a7 a8 a10 a11 : Value) {l : List Value} (Q : Exit → Act → World → Prop) (hQ : ∀ c a d v w, Q (.panic c) (Act.put a d v) w → Q (.panic c) a w) (hl : lookL [(2, a2), (3, .pointer (some ⟨bA, 0, none⟩)), (6, a6), (7, a7), (8, a8), (9, .pointer (some ⟨bX, 0, none⟩)), (10, a10), (11, a11)] l = (119, [a2, .pointer (some ⟨bA, 0, none⟩), a6, a7, a8, .pointer (some ⟨bX, 0, none⟩), a10, a11]))
    (hend : ∀ v (W' : World), Below W0.drew.heap.size W0.drew W' → Q .normal ⟨(frL v 119 [(2, a2), (3, .pointer (some ⟨bA, 0, none⟩)), (6, a6), (7, a7), (8, a8), (9, .pointer (some ⟨bX, 0, none⟩)), (10, a10), (11, a11), (63, .bool false)]).toArray, []⟩ W') : (Code.region 16 jl16Ops true).wp Tryz.prog Q ⟨l.toArray, []⟩ W0 := by
  obtain ⟨v0, rfl⟩ := look_fr hl
  have hq : NtQ jl16Ops Q := ⟨jl16_neat, hQ⟩
  refine T_start (S := fun W => Below W0.drew.heap.size W0.drew W) (by kernel_rfl) (Below.refl _ _) ?_
  clear hl hQ
  generalize W0.drew = B at hA hX hrx hD hCK hend ⊢
  refine T_a hq [0, 1] (fun w h => .cons (ldRowJ hX h) (.cons (ldLawK (hA.of_block (h.block _ hA.lt))) Lds.nil)) (by kernel_rfl) ?_
  refine T_one 2 (by kernel_rfl) fun hb => O_go (hCK B hb) (by kernel_rfl) ?_
  rintro e W1 ⟨a, rfl, hat, hb1⟩
  refine ⟨_, rfl, hb1, ?_⟩
  refine T_one 3 (by kernel_rfl) fun hb => O_go (eqKind_any k D (New B W1) dX a W1 (fun b h => Nat.lt_of_lt_of_le (hD b h) hb1.size) (fun b h => h.2) (KRep.carry (fun b h => hb1.block b (hD b h)) (fun _ h => h) _ _ hrx) hat) (by kernel_rfl) ?_
  rintro e W2 ⟨rfl, hb2⟩
  have hb3 := hb1.trans (hb2.mono hb1.size)
  refine ⟨_, rfl, hb3, ?_⟩
  exact T_z hq [4] (by kernel_rfl) (T_end 119 [(2, a2), (3, .pointer (some ⟨bA, 0, none⟩)), (6, a6), (7, a7), (8, a8), (9, .pointer (some ⟨bX, 0, none⟩)), (10, a10), (11, a11), (63, .bool false)] (by kernel_rfl) (by kernel_rfl) fun _ v => hend v _ hb3)
end Go.Proofs.YtenpghndgdemnaaGreatDoor
