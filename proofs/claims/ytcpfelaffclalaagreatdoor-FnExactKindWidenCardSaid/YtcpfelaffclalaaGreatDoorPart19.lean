/- The drawn regions of the law on KindWiden. No conditions. -/
import Derived.Test.YtcpfelaffclalaaGreatDoorPart11
import Derived.Test.YtcpfelaffclalaaGreatDoorPart17
import Derived.Test.YtcpfelaffclalaaGreatDoorPart18
import Derived.Test.YtcpfelaffclalaaGreatDoorPart05
namespace Go.Proofs.YtcpfelaffclalaaGreatDoor
open Go Go.RowKit

theorem rowLK : ∃ d, Tryz.prog.underlying 25 = some d ∧ d.isRow = true := ⟨_, Tryz.underlying25, by rfl⟩
theorem infoLK : (Tryz.prog.info? 25).map (·.size) = some 3 := by kernel_rfl
theorem rowLT : ∃ d, Tryz.prog.underlying 35 = some d ∧ d.isRow = true := ⟨_, Tryz.underlying35, by rfl⟩
theorem infoLT : (Tryz.prog.info? 35).map (·.size) = some 5 := by kernel_rfl
theorem rowIK : ∃ d, Tryz.prog.underlying 30 = some d ∧ d.isRow = true := ⟨_, Tryz.underlying30, by rfl⟩
theorem infoIK : (Tryz.prog.info? 30).map (·.size) = some 3 := by kernel_rfl
theorem rowIT : ∃ d, Tryz.prog.underlying 39 = some d ∧ d.isRow = true := ⟨_, Tryz.underlying39, by rfl⟩
/-- A struct of three cells is read. -/
theorem ldR3 {T : TypeId} {W : World} {g : Nat} {a b c : Value} (hT : ∃ d, Tryz.prog.underlying T = some d ∧ d.isRow = true) (hi : (Tryz.prog.info? T).map (·.size) = some 3) (h : W.rowIs g T 3 (row3 a b c)) : (Instr.loadAt T (.pointer (some ⟨g, 0, none⟩))).run Tryz.prog W = .ok (.agg #[a, b, c]) W := by
  obtain ⟨dd, hdu, hdr⟩ := hT
  have hr : W.rangeAt g 0 [a, b, c] := fun j v hv => by
    have hj : j < 3 := by
      rcases Nat.lt_or_ge j 3 with h1 | h1
      · exact h1
      · rw [List.getElem?_eq_none (by simpa using h1)] at hv; cases hv
    have hc := h.cell (i := j) hj
    rw [show (⟨g, 0 + j, none⟩ : Addr) = ⟨g, j, none⟩ by rw [Nat.zero_add], hc]
    rcases (show j = 0 ∨ j = 1 ∨ j = 2 by omega) with rfl | rfl | rfl <;> simpa [row3] using hv
  unfold Instr.loadAt
  simp only [Instr.sureAddr, Sem.run_bind, Sem.run_pure, Result.andThen_ok, run_loadVar_mid W g 0 T [a, b, c] dd hr hdu hdr hi]
/-- A struct of five cells is read. -/
theorem ldR5 {T : TypeId} {W : World} {g : Nat} {a b c d e : Value} (hT : ∃ d, Tryz.prog.underlying T = some d ∧ d.isRow = true) (hi : (Tryz.prog.info? T).map (·.size) = some 5) (h : W.rowIs g T 5 (row5 a b c d e)) : (Instr.loadAt T (.pointer (some ⟨g, 0, none⟩))).run Tryz.prog W = .ok (.agg #[a, b, c, d, e]) W := by
  obtain ⟨dd, hdu, hdr⟩ := hT
  have hr : W.rangeAt g 0 [a, b, c, d, e] := fun j v hv => by
    have hj : j < 5 := by
      rcases Nat.lt_or_ge j 5 with h1 | h1
      · exact h1
      · rw [List.getElem?_eq_none (by simpa using h1)] at hv; cases hv
    have hc := h.cell (i := j) hj
    rw [show (⟨g, 0 + j, none⟩ : Addr) = ⟨g, j, none⟩ by rw [Nat.zero_add], hc]
    rcases (show j = 0 ∨ j = 1 ∨ j = 2 ∨ j = 3 ∨ j = 4 by omega) with rfl | rfl | rfl | rfl | rfl <;> simpa [row5] using hv
  unfold Instr.loadAt
  simp only [Instr.sureAddr, Sem.run_bind, Sem.run_pure, Result.andThen_ok, run_loadVar_mid W g 0 T [a, b, c, d, e] dd hr hdu hdr hi]
theorem rep_oneS {P : Nat → Prop} {W : World} {t : Tr} {d : C5} (h : Rep P W t d) : (#[d.c0, d.c1, d.c2, d.c3, d.c4] : Array Value).all (·.oneCell') = true := by
  obtain ⟨a1, p1, a2, p2, rfl⟩ := h.form
  rw [← Array.all_toList]
  rfl
noncomputable def wd11Ops : Array Oper := fops Tryz.f4 11
theorem wd11_neat : Region.noSelect wd11Ops = true ∧ neat wd11Ops = true := ⟨by kernel_rfl, by kernel_rfl⟩
set_option maxRecDepth 100000 in
set_option maxHeartbeats 3200000 in
theorem wd11 (k m : Kd) (t T : Tr) (r : Bool) (W0 : World) (c d : C3) (x : C5) (bA bB bT : Nat) (hA : W0.drew.rowIs bA 25 3 (row3 c.c0 c.c1 c.c2)) (hB : W0.drew.rowIs bB 25 3 (row3 d.c0 d.c1 d.c2)) (hX : W0.drew.rowIs bT 35 5 (row5 x.c0 x.c1 x.c2 x.c3 x.c4))
    (hCK : ∀ W, Below W0.drew.heap.size W0.drew W → Calls Tryz.prog 8 #[.agg #[c.c0, c.c1, c.c2]] W fun e w' => ∃ c' : C3, e = .returned (.agg #[c'.c0, c'.c1, c'.c2]) ∧ KRep (New W w') w' k c' ∧ Below W.heap.size W w')
    (hCM : ∀ W, Below W0.drew.heap.size W0.drew W → Calls Tryz.prog 8 #[.agg #[d.c0, d.c1, d.c2]] W fun e w' => ∃ c' : C3, e = .returned (.agg #[c'.c0, c'.c1, c'.c2]) ∧ KRep (New W w') w' m c' ∧ Below W.heap.size W w')
    (hCT : ∀ W, Below W0.drew.heap.size W0.drew W → Calls Tryz.prog 13 #[.agg #[x.c0, x.c1, x.c2, x.c3, x.c4]] W fun e w' => ∃ c' : C5, e = .returned (.agg #[c'.c0, c'.c1, c'.c2, c'.c3, c'.c4]) ∧ Rep (New W w') w' t c' ∧ Below W.heap.size W w')
    (hC : ∀ (a b : C3) (y : C5) (W : World), Below W0.drew.heap.size W0.drew W → KRep (fun b => b < W.heap.size) W k a → KRep (fun b => b < W.heap.size) W m b → Rep (fun b => b < W.heap.size) W t y → Calls Tryz.prog 12 #[.agg #[a.c0, a.c1, a.c2], .agg #[b.c0, b.c1, b.c2], .agg #[y.c0, y.c1, y.c2, y.c3, y.c4]] W fun e w' => ∃ dW : C5, e = .returned (.tuple #[.agg #[dW.c0, dW.c1, dW.c2, dW.c3, dW.c4], .bool r]) ∧ Rep (New W w') w' T dW ∧ Below W.heap.size W w')
    {l : List Value} (Q : Exit → Act → World → Prop) (hQ : ∀ c a d v w, Q (.panic c) (Act.put a d v) w → Q (.panic c) a w) (hl : lookL [(3, .pointer (some ⟨bA, 0, none⟩)), (4, .pointer (some ⟨bB, 0, none⟩)), (5, .pointer (some ⟨bT, 0, none⟩))] l = (142, [.pointer (some ⟨bA, 0, none⟩), .pointer (some ⟨bB, 0, none⟩), .pointer (some ⟨bT, 0, none⟩)]))
    (hend : ∀ v (dW : C5) (g : Nat) (W' : World), Rep (fun b => W0.drew.heap.size ≤ b ∧ b < W'.heap.size ∧ b ≠ g) W' T dW → W'.rowIs g 39 5 (row5 dW.c0 dW.c1 dW.c2 dW.c3 dW.c4) → W0.drew.heap.size ≤ g → Below W0.drew.heap.size W0.drew W' → Q .normal ⟨(frL v 142 [(3, .pointer (some ⟨bA, 0, none⟩)), (4, .pointer (some ⟨bB, 0, none⟩)), (5, .pointer (some ⟨bT, 0, none⟩)), (8, .pointer (some ⟨g, 0, none⟩)), (9, .bool r)]).toArray, []⟩ W') : (Code.region 11 wd11Ops true).wp Tryz.prog Q ⟨l.toArray, []⟩ W0 := by
  obtain ⟨v0, rfl⟩ := look_fr hl
  have hq : NtQ wd11Ops Q := ⟨wd11_neat, hQ⟩
  refine T_start (S := fun W => Below W0.drew.heap.size W0.drew W) (by kernel_rfl) (Below.refl _ _) ?_
  clear hl hQ
  generalize W0.drew = B at hA hB hX hCK hCM hCT hC hend ⊢
  have Q4 : ∀ (v : Nat → Value) (W : World) (dW : C5) (g : Nat) (hg : W.rowIs g 39 5 (row5 (.int .i64 0) (.int .i64 0) (.string ByteArray.empty) (.slice none 0 0) (.slice none 0 0))) (hgb : B.heap.size ≤ g) (hr : Rep (fun b => B.heap.size ≤ b ∧ b < W.heap.size ∧ b ≠ g) W T dW), wpS Tryz.prog wd11Ops Q (fun W => Below B.heap.size B W) (unl 13 [11, 12], frL v 142 [(3, .pointer (some ⟨bA, 0, none⟩)), (4, .pointer (some ⟨bB, 0, none⟩)), (5, .pointer (some ⟨bT, 0, none⟩)), (8, .pointer (some ⟨g, 0, none⟩)), (36, .agg #[c.c0, c.c1, c.c2]), (38, .agg #[d.c0, d.c1, d.c2]), (40, .agg #[x.c0, x.c1, x.c2, x.c3, x.c4]), (43, .agg #[dW.c0, dW.c1, dW.c2, dW.c3, dW.c4]), (44, .bool r)]) [] W := by
    intro v W dW g hg hgb hr
    refine T_one 11 (by kernel_rfl) fun hb => ?_
    obtain ⟨hs3, hs4⟩ := set5_row hg dW.c0 dW.c1 dW.c2 dW.c3 dW.c4
    have hb2 : Below B.heap.size B (W.setCells g 0 [dW.c0, dW.c1, dW.c2, dW.c3, dW.c4]) := hb.trans (below_but hs3 ⟨hgb, hb.size⟩)
    refine O_store_mid none 39 (.tmp 8) (.tmp 43) g 0 #[dW.c0, dW.c1, dW.c2, dW.c3, dW.c4] (by kernel_rfl) (by kernel_rfl) (by kernel_rfl) (there5w hg) sizeTr (rep_oneS hr) hb2 ?_
    have hr2 : Rep (fun b => B.heap.size ≤ b ∧ b < (W.setCells g 0 [dW.c0, dW.c1, dW.c2, dW.c3, dW.c4]).heap.size ∧ b ≠ g) (W.setCells g 0 [dW.c0, dW.c1, dW.c2, dW.c3, dW.c4]) T dW := Rep.carry (fun b hb => hs3.block b hb.2.1 hb.2.2) (fun b hb => ⟨hb.1, Nat.lt_of_lt_of_le hb.2.1 hs3.size, hb.2.2⟩) _ _ hr
    exact T_z hq [12] (by kernel_rfl) (T_end 142 [(3, .pointer (some ⟨bA, 0, none⟩)), (4, .pointer (some ⟨bB, 0, none⟩)), (5, .pointer (some ⟨bT, 0, none⟩)), (8, .pointer (some ⟨g, 0, none⟩)), (9, .bool r)] (by kernel_rfl) (by kernel_rfl) fun _ v => hend v dW g _ hr2 hs4 hgb hb2)
  have P4 : ∀ (v : Nat → Value) (W : World) (dW : C5) (hr : Rep (fun b => B.heap.size ≤ b ∧ b < W.heap.size) W T dW), wpS Tryz.prog wd11Ops Q (fun W => Below B.heap.size B W) (unl 13 [10, 11, 12], frL v 142 [(3, .pointer (some ⟨bA, 0, none⟩)), (4, .pointer (some ⟨bB, 0, none⟩)), (5, .pointer (some ⟨bT, 0, none⟩)), (36, .agg #[c.c0, c.c1, c.c2]), (38, .agg #[d.c0, d.c1, d.c2]), (40, .agg #[x.c0, x.c1, x.c2, x.c3, x.c4]), (43, .agg #[dW.c0, dW.c1, dW.c2, dW.c3, dW.c4]), (44, .bool r)]) [] W := by
    intro v W dW hr
    refine T_one 10 (by kernel_rfl) fun hb => ?_
    exact O_val (w' := W.alloc (.cells #[.int .i64 0, .int .i64 0, .string ByteArray.empty, .slice none 0 0, .slice none 0 0] 39)) (some 8) (.pointer (some ⟨W.heap.size, 0, none⟩)) (by kernel_rfl) (by kernel_rfl) (hb.alloc hb.size _) (T_fr 13 142 [11, 12] [(3, .pointer (some ⟨bA, 0, none⟩)), (4, .pointer (some ⟨bB, 0, none⟩)), (5, .pointer (some ⟨bT, 0, none⟩)), (8, .pointer (some ⟨W.heap.size, 0, none⟩)), (36, .agg #[c.c0, c.c1, c.c2]), (38, .agg #[d.c0, d.c1, d.c2]), (40, .agg #[x.c0, x.c1, x.c2, x.c3, x.c4]), (43, .agg #[dW.c0, dW.c1, dW.c2, dW.c3, dW.c4]), (44, .bool r)] (by kernel_rfl) fun v => Q4 v _ dW _ (row5_alloc W _ _ _ _ _ _) hb.size (Rep.carry (fun b hb => Below.heap_alloc _ _ _ hb.2) (fun b hb => by rw [World.size_alloc]; omega) _ _ hr))
  have Q3 : ∀ (v : Nat → Value) (W : World) (a : C3) (ha : KRep (fun b => b < W.heap.size) W k a) (b : C3) (hb' : KRep (fun b => b < W.heap.size) W m b) (y : C5) (hy : Rep (fun b => b < W.heap.size) W t y) (g : Nat) (hg : W.rowIs g 39 5 (row5 (.int .i64 0) (.int .i64 0) (.string ByteArray.empty) (.slice none 0 0) (.slice none 0 0))) (hgb : B.heap.size ≤ g), wpS Tryz.prog wd11Ops Q (fun W => Below B.heap.size B W) (unl 13 [6, 7, 8, 9, 11, 12], frL v 142 [(3, .pointer (some ⟨bA, 0, none⟩)), (4, .pointer (some ⟨bB, 0, none⟩)), (5, .pointer (some ⟨bT, 0, none⟩)), (8, .pointer (some ⟨g, 0, none⟩)), (36, .agg #[c.c0, c.c1, c.c2]), (37, .agg #[a.c0, a.c1, a.c2]), (38, .agg #[d.c0, d.c1, d.c2]), (39, .agg #[b.c0, b.c1, b.c2]), (40, .agg #[x.c0, x.c1, x.c2, x.c3, x.c4]), (41, .agg #[y.c0, y.c1, y.c2, y.c3, y.c4])]) [] W := by
    intro v W a ha b hb' y hy g hg hgb
    refine T_one 6 (by kernel_rfl) fun hb => ?_
    · refine O_go (hC a b y W hb ha hb' hy) (by kernel_rfl) ?_
      rintro e W1 ⟨dW, rfl, ho, hb1⟩
      exact ⟨_, rfl, hb.trans (hb1.mono hb.size), T_z hq [7, 8, 9] (by kernel_rfl) (T_fr 13 142 [11, 12] [(3, .pointer (some ⟨bA, 0, none⟩)), (4, .pointer (some ⟨bB, 0, none⟩)), (5, .pointer (some ⟨bT, 0, none⟩)), (8, .pointer (some ⟨g, 0, none⟩)), (36, .agg #[c.c0, c.c1, c.c2]), (38, .agg #[d.c0, d.c1, d.c2]), (40, .agg #[x.c0, x.c1, x.c2, x.c3, x.c4]), (43, .agg #[dW.c0, dW.c1, dW.c2, dW.c3, dW.c4]), (44, .bool r)] (by kernel_rfl) fun v => Q4 v W1 dW g (hg.of_block (hb1.block g hg.lt)) hgb (Rep.carry (fun _ _ => rfl) (fun b hb' => by have := hb'.1; have := hb'.2; have := hb.size; have := hg.lt; omega) _ _ ho))⟩
  have P3 : ∀ (v : Nat → Value) (W : World) (a : C3) (ha : KRep (fun b => b < W.heap.size) W k a) (b : C3) (hb' : KRep (fun b => b < W.heap.size) W m b) (y : C5) (hy : Rep (fun b => b < W.heap.size) W t y), wpS Tryz.prog wd11Ops Q (fun W => Below B.heap.size B W) (unl 13 [6, 7, 8, 9, 10, 11, 12], frL v 142 [(3, .pointer (some ⟨bA, 0, none⟩)), (4, .pointer (some ⟨bB, 0, none⟩)), (5, .pointer (some ⟨bT, 0, none⟩)), (36, .agg #[c.c0, c.c1, c.c2]), (37, .agg #[a.c0, a.c1, a.c2]), (38, .agg #[d.c0, d.c1, d.c2]), (39, .agg #[b.c0, b.c1, b.c2]), (40, .agg #[x.c0, x.c1, x.c2, x.c3, x.c4]), (41, .agg #[y.c0, y.c1, y.c2, y.c3, y.c4])]) [] W := by
    intro v W a ha b hb' y hy
    refine T_two 6 10 (by kernel_rfl) (fun hb => ?_) fun hb => ?_
    · refine O_go (hC a b y W hb ha hb' hy) (by kernel_rfl) ?_
      rintro e W1 ⟨dW, rfl, ho, hb1⟩
      exact ⟨_, rfl, hb.trans (hb1.mono hb.size), T_z hq [7, 8, 9] (by kernel_rfl) (T_fr 13 142 [10, 11, 12] [(3, .pointer (some ⟨bA, 0, none⟩)), (4, .pointer (some ⟨bB, 0, none⟩)), (5, .pointer (some ⟨bT, 0, none⟩)), (36, .agg #[c.c0, c.c1, c.c2]), (38, .agg #[d.c0, d.c1, d.c2]), (40, .agg #[x.c0, x.c1, x.c2, x.c3, x.c4]), (43, .agg #[dW.c0, dW.c1, dW.c2, dW.c3, dW.c4]), (44, .bool r)] (by kernel_rfl) fun v => P4 v W1 dW (Rep.carry (fun _ _ => rfl) (fun b hb' => by have := hb'.1; have := hb'.2; have := hb.size; omega) _ _ ho))⟩
    · exact O_val (w' := W.alloc (.cells #[.int .i64 0, .int .i64 0, .string ByteArray.empty, .slice none 0 0, .slice none 0 0] 39)) (some 8) (.pointer (some ⟨W.heap.size, 0, none⟩)) (by kernel_rfl) (by kernel_rfl) (hb.alloc hb.size _) (T_fr 13 142 [6, 7, 8, 9, 11, 12] [(3, .pointer (some ⟨bA, 0, none⟩)), (4, .pointer (some ⟨bB, 0, none⟩)), (5, .pointer (some ⟨bT, 0, none⟩)), (8, .pointer (some ⟨W.heap.size, 0, none⟩)), (36, .agg #[c.c0, c.c1, c.c2]), (37, .agg #[a.c0, a.c1, a.c2]), (38, .agg #[d.c0, d.c1, d.c2]), (39, .agg #[b.c0, b.c1, b.c2]), (40, .agg #[x.c0, x.c1, x.c2, x.c3, x.c4]), (41, .agg #[y.c0, y.c1, y.c2, y.c3, y.c4])] (by kernel_rfl) fun v => Q3 v _ a (KRep.carry (fun b hb => Below.heap_alloc _ _ _ hb) (fun b hb => by rw [World.size_alloc]; omega) _ _ ha) b (KRep.carry (fun b hb => Below.heap_alloc _ _ _ hb) (fun b hb => by rw [World.size_alloc]; omega) _ _ hb') y (Rep.carry (fun b hb => Below.heap_alloc _ _ _ hb) (fun b hb => by rw [World.size_alloc]; omega) _ _ hy) _ (row5_alloc W _ _ _ _ _ _) hb.size)
  have Q2 : ∀ (v : Nat → Value) (W : World) (a : C3) (ha : KRep (fun b => b < W.heap.size) W k a) (b : C3) (hb' : KRep (fun b => b < W.heap.size) W m b) (g : Nat) (hg : W.rowIs g 39 5 (row5 (.int .i64 0) (.int .i64 0) (.string ByteArray.empty) (.slice none 0 0) (.slice none 0 0))) (hgb : B.heap.size ≤ g), wpS Tryz.prog wd11Ops Q (fun W => Below B.heap.size B W) (unl 13 [5, 6, 7, 8, 9, 11, 12], frL v 142 [(3, .pointer (some ⟨bA, 0, none⟩)), (4, .pointer (some ⟨bB, 0, none⟩)), (5, .pointer (some ⟨bT, 0, none⟩)), (8, .pointer (some ⟨g, 0, none⟩)), (36, .agg #[c.c0, c.c1, c.c2]), (37, .agg #[a.c0, a.c1, a.c2]), (38, .agg #[d.c0, d.c1, d.c2]), (39, .agg #[b.c0, b.c1, b.c2]), (40, .agg #[x.c0, x.c1, x.c2, x.c3, x.c4])]) [] W := by
    intro v W a ha b hb' g hg hgb
    refine T_one 5 (by kernel_rfl) fun hb => ?_
    · refine O_go (hCT W hb) (by kernel_rfl) ?_
      rintro e W1 ⟨y, rfl, hat, hb1⟩
      exact ⟨_, rfl, hb.trans (hb1.mono hb.size), T_fr 13 142 [6, 7, 8, 9, 11, 12] [(3, .pointer (some ⟨bA, 0, none⟩)), (4, .pointer (some ⟨bB, 0, none⟩)), (5, .pointer (some ⟨bT, 0, none⟩)), (8, .pointer (some ⟨g, 0, none⟩)), (36, .agg #[c.c0, c.c1, c.c2]), (37, .agg #[a.c0, a.c1, a.c2]), (38, .agg #[d.c0, d.c1, d.c2]), (39, .agg #[b.c0, b.c1, b.c2]), (40, .agg #[x.c0, x.c1, x.c2, x.c3, x.c4]), (41, .agg #[y.c0, y.c1, y.c2, y.c3, y.c4])] (by kernel_rfl) fun v => Q3 v W1 a (KRep.carry (fun b hb => hb1.block b hb) (fun b hb => Nat.lt_of_lt_of_le hb hb1.size) _ _ ha) b (KRep.carry (fun b hb => hb1.block b hb) (fun b hb => Nat.lt_of_lt_of_le hb hb1.size) _ _ hb') y (Rep.carry (fun _ _ => rfl) (fun b hb => hb.2) _ _ hat) g (hg.of_block (hb1.block g hg.lt)) hgb⟩
  have P2 : ∀ (v : Nat → Value) (W : World) (a : C3) (ha : KRep (fun b => b < W.heap.size) W k a) (b : C3) (hb' : KRep (fun b => b < W.heap.size) W m b), wpS Tryz.prog wd11Ops Q (fun W => Below B.heap.size B W) (unl 13 [5, 6, 7, 8, 9, 10, 11, 12], frL v 142 [(3, .pointer (some ⟨bA, 0, none⟩)), (4, .pointer (some ⟨bB, 0, none⟩)), (5, .pointer (some ⟨bT, 0, none⟩)), (36, .agg #[c.c0, c.c1, c.c2]), (37, .agg #[a.c0, a.c1, a.c2]), (38, .agg #[d.c0, d.c1, d.c2]), (39, .agg #[b.c0, b.c1, b.c2]), (40, .agg #[x.c0, x.c1, x.c2, x.c3, x.c4])]) [] W := by
    intro v W a ha b hb'
    refine T_two 5 10 (by kernel_rfl) (fun hb => ?_) fun hb => ?_
    · refine O_go (hCT W hb) (by kernel_rfl) ?_
      rintro e W1 ⟨y, rfl, hat, hb1⟩
      exact ⟨_, rfl, hb.trans (hb1.mono hb.size), T_fr 13 142 [6, 7, 8, 9, 10, 11, 12] [(3, .pointer (some ⟨bA, 0, none⟩)), (4, .pointer (some ⟨bB, 0, none⟩)), (5, .pointer (some ⟨bT, 0, none⟩)), (36, .agg #[c.c0, c.c1, c.c2]), (37, .agg #[a.c0, a.c1, a.c2]), (38, .agg #[d.c0, d.c1, d.c2]), (39, .agg #[b.c0, b.c1, b.c2]), (40, .agg #[x.c0, x.c1, x.c2, x.c3, x.c4]), (41, .agg #[y.c0, y.c1, y.c2, y.c3, y.c4])] (by kernel_rfl) fun v => P3 v W1 a (KRep.carry (fun b hb => hb1.block b hb) (fun b hb => Nat.lt_of_lt_of_le hb hb1.size) _ _ ha) b (KRep.carry (fun b hb => hb1.block b hb) (fun b hb => Nat.lt_of_lt_of_le hb hb1.size) _ _ hb') y (Rep.carry (fun _ _ => rfl) (fun b hb => hb.2) _ _ hat)⟩
    · exact O_val (w' := W.alloc (.cells #[.int .i64 0, .int .i64 0, .string ByteArray.empty, .slice none 0 0, .slice none 0 0] 39)) (some 8) (.pointer (some ⟨W.heap.size, 0, none⟩)) (by kernel_rfl) (by kernel_rfl) (hb.alloc hb.size _) (T_fr 13 142 [5, 6, 7, 8, 9, 11, 12] [(3, .pointer (some ⟨bA, 0, none⟩)), (4, .pointer (some ⟨bB, 0, none⟩)), (5, .pointer (some ⟨bT, 0, none⟩)), (8, .pointer (some ⟨W.heap.size, 0, none⟩)), (36, .agg #[c.c0, c.c1, c.c2]), (37, .agg #[a.c0, a.c1, a.c2]), (38, .agg #[d.c0, d.c1, d.c2]), (39, .agg #[b.c0, b.c1, b.c2]), (40, .agg #[x.c0, x.c1, x.c2, x.c3, x.c4])] (by kernel_rfl) fun v => Q2 v _ a (KRep.carry (fun b hb => Below.heap_alloc _ _ _ hb) (fun b hb => by rw [World.size_alloc]; omega) _ _ ha) b (KRep.carry (fun b hb => Below.heap_alloc _ _ _ hb) (fun b hb => by rw [World.size_alloc]; omega) _ _ hb') _ (row5_alloc W _ _ _ _ _ _) hb.size)
  have Q1 : ∀ (v : Nat → Value) (W : World) (a : C3) (ha : KRep (fun b => b < W.heap.size) W k a) (g : Nat) (hg : W.rowIs g 39 5 (row5 (.int .i64 0) (.int .i64 0) (.string ByteArray.empty) (.slice none 0 0) (.slice none 0 0))) (hgb : B.heap.size ≤ g), wpS Tryz.prog wd11Ops Q (fun W => Below B.heap.size B W) (unl 13 [3, 5, 6, 7, 8, 9, 11, 12], frL v 142 [(3, .pointer (some ⟨bA, 0, none⟩)), (4, .pointer (some ⟨bB, 0, none⟩)), (5, .pointer (some ⟨bT, 0, none⟩)), (8, .pointer (some ⟨g, 0, none⟩)), (36, .agg #[c.c0, c.c1, c.c2]), (37, .agg #[a.c0, a.c1, a.c2]), (38, .agg #[d.c0, d.c1, d.c2]), (40, .agg #[x.c0, x.c1, x.c2, x.c3, x.c4])]) [] W := by
    intro v W a ha g hg hgb
    refine T_one 3 (by kernel_rfl) fun hb => ?_
    · refine O_go (hCM W hb) (by kernel_rfl) ?_
      rintro e W1 ⟨b, rfl, hat, hb1⟩
      exact ⟨_, rfl, hb.trans (hb1.mono hb.size), T_fr 13 142 [5, 6, 7, 8, 9, 11, 12] [(3, .pointer (some ⟨bA, 0, none⟩)), (4, .pointer (some ⟨bB, 0, none⟩)), (5, .pointer (some ⟨bT, 0, none⟩)), (8, .pointer (some ⟨g, 0, none⟩)), (36, .agg #[c.c0, c.c1, c.c2]), (37, .agg #[a.c0, a.c1, a.c2]), (38, .agg #[d.c0, d.c1, d.c2]), (39, .agg #[b.c0, b.c1, b.c2]), (40, .agg #[x.c0, x.c1, x.c2, x.c3, x.c4])] (by kernel_rfl) fun v => Q2 v W1 a (KRep.carry (fun b hb => hb1.block b hb) (fun b hb => Nat.lt_of_lt_of_le hb hb1.size) _ _ ha) b (KRep.carry (fun _ _ => rfl) (fun b hb => hb.2) _ _ hat) g (hg.of_block (hb1.block g hg.lt)) hgb⟩
  have P1 : ∀ (v : Nat → Value) (W : World) (a : C3) (ha : KRep (fun b => b < W.heap.size) W k a), wpS Tryz.prog wd11Ops Q (fun W => Below B.heap.size B W) (unl 13 [3, 5, 6, 7, 8, 9, 10, 11, 12], frL v 142 [(3, .pointer (some ⟨bA, 0, none⟩)), (4, .pointer (some ⟨bB, 0, none⟩)), (5, .pointer (some ⟨bT, 0, none⟩)), (36, .agg #[c.c0, c.c1, c.c2]), (37, .agg #[a.c0, a.c1, a.c2]), (38, .agg #[d.c0, d.c1, d.c2]), (40, .agg #[x.c0, x.c1, x.c2, x.c3, x.c4])]) [] W := by
    intro v W a ha
    refine T_two 3 10 (by kernel_rfl) (fun hb => ?_) fun hb => ?_
    · refine O_go (hCM W hb) (by kernel_rfl) ?_
      rintro e W1 ⟨b, rfl, hat, hb1⟩
      exact ⟨_, rfl, hb.trans (hb1.mono hb.size), T_fr 13 142 [5, 6, 7, 8, 9, 10, 11, 12] [(3, .pointer (some ⟨bA, 0, none⟩)), (4, .pointer (some ⟨bB, 0, none⟩)), (5, .pointer (some ⟨bT, 0, none⟩)), (36, .agg #[c.c0, c.c1, c.c2]), (37, .agg #[a.c0, a.c1, a.c2]), (38, .agg #[d.c0, d.c1, d.c2]), (39, .agg #[b.c0, b.c1, b.c2]), (40, .agg #[x.c0, x.c1, x.c2, x.c3, x.c4])] (by kernel_rfl) fun v => P2 v W1 a (KRep.carry (fun b hb => hb1.block b hb) (fun b hb => Nat.lt_of_lt_of_le hb hb1.size) _ _ ha) b (KRep.carry (fun _ _ => rfl) (fun b hb => hb.2) _ _ hat)⟩
    · exact O_val (w' := W.alloc (.cells #[.int .i64 0, .int .i64 0, .string ByteArray.empty, .slice none 0 0, .slice none 0 0] 39)) (some 8) (.pointer (some ⟨W.heap.size, 0, none⟩)) (by kernel_rfl) (by kernel_rfl) (hb.alloc hb.size _) (T_fr 13 142 [3, 5, 6, 7, 8, 9, 11, 12] [(3, .pointer (some ⟨bA, 0, none⟩)), (4, .pointer (some ⟨bB, 0, none⟩)), (5, .pointer (some ⟨bT, 0, none⟩)), (8, .pointer (some ⟨W.heap.size, 0, none⟩)), (36, .agg #[c.c0, c.c1, c.c2]), (37, .agg #[a.c0, a.c1, a.c2]), (38, .agg #[d.c0, d.c1, d.c2]), (40, .agg #[x.c0, x.c1, x.c2, x.c3, x.c4])] (by kernel_rfl) fun v => Q1 v _ a (KRep.carry (fun b hb => Below.heap_alloc _ _ _ hb) (fun b hb => by rw [World.size_alloc]; omega) _ _ ha) _ (row5_alloc W _ _ _ _ _ _) hb.size)
  have Q0 : ∀ (v : Nat → Value) (W : World)  (g : Nat) (hg : W.rowIs g 39 5 (row5 (.int .i64 0) (.int .i64 0) (.string ByteArray.empty) (.slice none 0 0) (.slice none 0 0))) (hgb : B.heap.size ≤ g), wpS Tryz.prog wd11Ops Q (fun W => Below B.heap.size B W) (unl 13 [1, 3, 5, 6, 7, 8, 9, 11, 12], frL v 142 [(3, .pointer (some ⟨bA, 0, none⟩)), (4, .pointer (some ⟨bB, 0, none⟩)), (5, .pointer (some ⟨bT, 0, none⟩)), (8, .pointer (some ⟨g, 0, none⟩)), (36, .agg #[c.c0, c.c1, c.c2]), (38, .agg #[d.c0, d.c1, d.c2]), (40, .agg #[x.c0, x.c1, x.c2, x.c3, x.c4])]) [] W := by
    intro v W  g hg hgb
    refine T_one 1 (by kernel_rfl) fun hb => ?_
    · refine O_go (hCK W hb) (by kernel_rfl) ?_
      rintro e W1 ⟨a, rfl, hat, hb1⟩
      exact ⟨_, rfl, hb.trans (hb1.mono hb.size), T_fr 13 142 [3, 5, 6, 7, 8, 9, 11, 12] [(3, .pointer (some ⟨bA, 0, none⟩)), (4, .pointer (some ⟨bB, 0, none⟩)), (5, .pointer (some ⟨bT, 0, none⟩)), (8, .pointer (some ⟨g, 0, none⟩)), (36, .agg #[c.c0, c.c1, c.c2]), (37, .agg #[a.c0, a.c1, a.c2]), (38, .agg #[d.c0, d.c1, d.c2]), (40, .agg #[x.c0, x.c1, x.c2, x.c3, x.c4])] (by kernel_rfl) fun v => Q1 v W1 a (KRep.carry (fun _ _ => rfl) (fun b hb => hb.2) _ _ hat) g (hg.of_block (hb1.block g hg.lt)) hgb⟩
  have P0 : ∀ (v : Nat → Value) (W : World) , wpS Tryz.prog wd11Ops Q (fun W => Below B.heap.size B W) (unl 13 [1, 3, 5, 6, 7, 8, 9, 10, 11, 12], frL v 142 [(3, .pointer (some ⟨bA, 0, none⟩)), (4, .pointer (some ⟨bB, 0, none⟩)), (5, .pointer (some ⟨bT, 0, none⟩)), (36, .agg #[c.c0, c.c1, c.c2]), (38, .agg #[d.c0, d.c1, d.c2]), (40, .agg #[x.c0, x.c1, x.c2, x.c3, x.c4])]) [] W := by
    intro v W 
    refine T_two 1 10 (by kernel_rfl) (fun hb => ?_) fun hb => ?_
    · refine O_go (hCK W hb) (by kernel_rfl) ?_
      rintro e W1 ⟨a, rfl, hat, hb1⟩
      exact ⟨_, rfl, hb.trans (hb1.mono hb.size), T_fr 13 142 [3, 5, 6, 7, 8, 9, 10, 11, 12] [(3, .pointer (some ⟨bA, 0, none⟩)), (4, .pointer (some ⟨bB, 0, none⟩)), (5, .pointer (some ⟨bT, 0, none⟩)), (36, .agg #[c.c0, c.c1, c.c2]), (37, .agg #[a.c0, a.c1, a.c2]), (38, .agg #[d.c0, d.c1, d.c2]), (40, .agg #[x.c0, x.c1, x.c2, x.c3, x.c4])] (by kernel_rfl) fun v => P1 v W1 a (KRep.carry (fun _ _ => rfl) (fun b hb => hb.2) _ _ hat)⟩
    · exact O_val (w' := W.alloc (.cells #[.int .i64 0, .int .i64 0, .string ByteArray.empty, .slice none 0 0, .slice none 0 0] 39)) (some 8) (.pointer (some ⟨W.heap.size, 0, none⟩)) (by kernel_rfl) (by kernel_rfl) (hb.alloc hb.size _) (T_fr 13 142 [1, 3, 5, 6, 7, 8, 9, 11, 12] [(3, .pointer (some ⟨bA, 0, none⟩)), (4, .pointer (some ⟨bB, 0, none⟩)), (5, .pointer (some ⟨bT, 0, none⟩)), (8, .pointer (some ⟨W.heap.size, 0, none⟩)), (36, .agg #[c.c0, c.c1, c.c2]), (38, .agg #[d.c0, d.c1, d.c2]), (40, .agg #[x.c0, x.c1, x.c2, x.c3, x.c4])] (by kernel_rfl) fun v => Q0 v _ _ (row5_alloc W _ _ _ _ _ _) hb.size)
  refine T_a hq [0, 2, 4] (fun w h => .cons (ldR3 rowLK infoLK (hA.of_block (h.block _ hA.lt))) (.cons (ldR3 rowLK infoLK (hB.of_block (h.block _ hB.lt))) (.cons (ldR5 rowLT infoLT (hX.of_block (h.block _ hX.lt))) Lds.nil))) (by kernel_rfl) ?_
  exact T_fr 13 142 [1, 3, 5, 6, 7, 8, 9, 10, 11, 12] [(3, .pointer (some ⟨bA, 0, none⟩)), (4, .pointer (some ⟨bB, 0, none⟩)), (5, .pointer (some ⟨bT, 0, none⟩)), (36, .agg #[c.c0, c.c1, c.c2]), (38, .agg #[d.c0, d.c1, d.c2]), (40, .agg #[x.c0, x.c1, x.c2, x.c3, x.c4])] (by kernel_rfl) fun v => P0 v _
noncomputable def wd38Ops : Array Oper := fops Tryz.f4 38
theorem wd38_neat : Region.noSelect wd38Ops = true ∧ neat wd38Ops = true := ⟨by kernel_rfl, by kernel_rfl⟩
set_option maxRecDepth 100000 in
set_option maxHeartbeats 3200000 in
theorem wd38 (k m : Kd) (t T : Tr) (r : Bool) (W0 : World) (c d : C3) (x : C5) (bA bB bT : Nat) (hA : W0.drew.rowIs bA 25 3 (row3 c.c0 c.c1 c.c2)) (hB : W0.drew.rowIs bB 25 3 (row3 d.c0 d.c1 d.c2)) (hX : W0.drew.rowIs bT 35 5 (row5 x.c0 x.c1 x.c2 x.c3 x.c4)) (a8 a9 a13 a16 : Value)
    (hCK : ∀ W, Below W0.drew.heap.size W0.drew W → Calls Tryz.prog 8 #[.agg #[c.c0, c.c1, c.c2]] W fun e w' => ∃ c' : C3, e = .returned (.agg #[c'.c0, c'.c1, c'.c2]) ∧ KRep (New W w') w' k c' ∧ Below W.heap.size W w')
    (hCM : ∀ W, Below W0.drew.heap.size W0.drew W → Calls Tryz.prog 8 #[.agg #[d.c0, d.c1, d.c2]] W fun e w' => ∃ c' : C3, e = .returned (.agg #[c'.c0, c'.c1, c'.c2]) ∧ KRep (New W w') w' m c' ∧ Below W.heap.size W w')
    (hCT : ∀ W, Below W0.drew.heap.size W0.drew W → Calls Tryz.prog 13 #[.agg #[x.c0, x.c1, x.c2, x.c3, x.c4]] W fun e w' => ∃ c' : C5, e = .returned (.agg #[c'.c0, c'.c1, c'.c2, c'.c3, c'.c4]) ∧ Rep (New W w') w' t c' ∧ Below W.heap.size W w')
    (hC : ∀ (a b : C3) (y : C5) (W : World), Below W0.drew.heap.size W0.drew W → KRep (fun b => b < W.heap.size) W k a → KRep (fun b => b < W.heap.size) W m b → Rep (fun b => b < W.heap.size) W t y → Calls Tryz.prog 14 #[.agg #[a.c0, a.c1, a.c2], .agg #[b.c0, b.c1, b.c2], .agg #[y.c0, y.c1, y.c2, y.c3, y.c4]] W fun e w' => ∃ dW : C5, e = .returned (.tuple #[.agg #[dW.c0, dW.c1, dW.c2, dW.c3, dW.c4], .bool r]) ∧ Rep (New W w') w' T dW ∧ Below W.heap.size W w')
    {l : List Value} (Q : Exit → Act → World → Prop) (hQ : ∀ c a d v w, Q (.panic c) (Act.put a d v) w → Q (.panic c) a w) (hl : lookL [(3, .pointer (some ⟨bA, 0, none⟩)), (4, .pointer (some ⟨bB, 0, none⟩)), (5, .pointer (some ⟨bT, 0, none⟩)), (8, a8), (9, a9), (13, a13), (16, a16)] l = (142, [.pointer (some ⟨bA, 0, none⟩), .pointer (some ⟨bB, 0, none⟩), .pointer (some ⟨bT, 0, none⟩), a8, a9, a13, a16]))
    (hend : ∀ v (dW : C5) (g : Nat) (W' : World), Rep (fun b => W0.drew.heap.size ≤ b ∧ b < W'.heap.size ∧ b ≠ g) W' T dW → W'.rowIs g 39 5 (row5 dW.c0 dW.c1 dW.c2 dW.c3 dW.c4) → W0.drew.heap.size ≤ g → Below W0.drew.heap.size W0.drew W' → Q .normal ⟨(frL v 142 [(3, .pointer (some ⟨bA, 0, none⟩)), (4, .pointer (some ⟨bB, 0, none⟩)), (5, .pointer (some ⟨bT, 0, none⟩)), (8, a8), (9, a9), (13, a13), (16, a16), (18, .pointer (some ⟨g, 0, none⟩)), (19, .bool r)]).toArray, []⟩ W') : (Code.region 38 wd38Ops true).wp Tryz.prog Q ⟨l.toArray, []⟩ W0 := by
  obtain ⟨v0, rfl⟩ := look_fr hl
  have hq : NtQ wd38Ops Q := ⟨wd38_neat, hQ⟩
  refine T_start (S := fun W => Below W0.drew.heap.size W0.drew W) (by kernel_rfl) (Below.refl _ _) ?_
  clear hl hQ
  generalize W0.drew = B at hA hB hX hCK hCM hCT hC hend ⊢
  have Q4 : ∀ (v : Nat → Value) (W : World) (dW : C5) (g : Nat) (hg : W.rowIs g 39 5 (row5 (.int .i64 0) (.int .i64 0) (.string ByteArray.empty) (.slice none 0 0) (.slice none 0 0))) (hgb : B.heap.size ≤ g) (hr : Rep (fun b => B.heap.size ≤ b ∧ b < W.heap.size ∧ b ≠ g) W T dW), wpS Tryz.prog wd38Ops Q (fun W => Below B.heap.size B W) (unl 13 [11, 12], frL v 142 [(3, .pointer (some ⟨bA, 0, none⟩)), (4, .pointer (some ⟨bB, 0, none⟩)), (5, .pointer (some ⟨bT, 0, none⟩)), (8, a8), (9, a9), (13, a13), (16, a16), (18, .pointer (some ⟨g, 0, none⟩)), (116, .agg #[c.c0, c.c1, c.c2]), (118, .agg #[d.c0, d.c1, d.c2]), (120, .agg #[x.c0, x.c1, x.c2, x.c3, x.c4]), (123, .agg #[dW.c0, dW.c1, dW.c2, dW.c3, dW.c4]), (124, .bool r)]) [] W := by
    intro v W dW g hg hgb hr
    refine T_one 11 (by kernel_rfl) fun hb => ?_
    obtain ⟨hs3, hs4⟩ := set5_row hg dW.c0 dW.c1 dW.c2 dW.c3 dW.c4
    have hb2 : Below B.heap.size B (W.setCells g 0 [dW.c0, dW.c1, dW.c2, dW.c3, dW.c4]) := hb.trans (below_but hs3 ⟨hgb, hb.size⟩)
    refine O_store_mid none 39 (.tmp 18) (.tmp 123) g 0 #[dW.c0, dW.c1, dW.c2, dW.c3, dW.c4] (by kernel_rfl) (by kernel_rfl) (by kernel_rfl) (there5w hg) sizeTr (rep_oneS hr) hb2 ?_
    have hr2 : Rep (fun b => B.heap.size ≤ b ∧ b < (W.setCells g 0 [dW.c0, dW.c1, dW.c2, dW.c3, dW.c4]).heap.size ∧ b ≠ g) (W.setCells g 0 [dW.c0, dW.c1, dW.c2, dW.c3, dW.c4]) T dW := Rep.carry (fun b hb => hs3.block b hb.2.1 hb.2.2) (fun b hb => ⟨hb.1, Nat.lt_of_lt_of_le hb.2.1 hs3.size, hb.2.2⟩) _ _ hr
    exact T_z hq [12] (by kernel_rfl) (T_end 142 [(3, .pointer (some ⟨bA, 0, none⟩)), (4, .pointer (some ⟨bB, 0, none⟩)), (5, .pointer (some ⟨bT, 0, none⟩)), (8, a8), (9, a9), (13, a13), (16, a16), (18, .pointer (some ⟨g, 0, none⟩)), (19, .bool r)] (by kernel_rfl) (by kernel_rfl) fun _ v => hend v dW g _ hr2 hs4 hgb hb2)
  have P4 : ∀ (v : Nat → Value) (W : World) (dW : C5) (hr : Rep (fun b => B.heap.size ≤ b ∧ b < W.heap.size) W T dW), wpS Tryz.prog wd38Ops Q (fun W => Below B.heap.size B W) (unl 13 [10, 11, 12], frL v 142 [(3, .pointer (some ⟨bA, 0, none⟩)), (4, .pointer (some ⟨bB, 0, none⟩)), (5, .pointer (some ⟨bT, 0, none⟩)), (8, a8), (9, a9), (13, a13), (16, a16), (116, .agg #[c.c0, c.c1, c.c2]), (118, .agg #[d.c0, d.c1, d.c2]), (120, .agg #[x.c0, x.c1, x.c2, x.c3, x.c4]), (123, .agg #[dW.c0, dW.c1, dW.c2, dW.c3, dW.c4]), (124, .bool r)]) [] W := by
    intro v W dW hr
    refine T_one 10 (by kernel_rfl) fun hb => ?_
    exact O_val (w' := W.alloc (.cells #[.int .i64 0, .int .i64 0, .string ByteArray.empty, .slice none 0 0, .slice none 0 0] 39)) (some 18) (.pointer (some ⟨W.heap.size, 0, none⟩)) (by kernel_rfl) (by kernel_rfl) (hb.alloc hb.size _) (T_fr 13 142 [11, 12] [(3, .pointer (some ⟨bA, 0, none⟩)), (4, .pointer (some ⟨bB, 0, none⟩)), (5, .pointer (some ⟨bT, 0, none⟩)), (8, a8), (9, a9), (13, a13), (16, a16), (18, .pointer (some ⟨W.heap.size, 0, none⟩)), (116, .agg #[c.c0, c.c1, c.c2]), (118, .agg #[d.c0, d.c1, d.c2]), (120, .agg #[x.c0, x.c1, x.c2, x.c3, x.c4]), (123, .agg #[dW.c0, dW.c1, dW.c2, dW.c3, dW.c4]), (124, .bool r)] (by kernel_rfl) fun v => Q4 v _ dW _ (row5_alloc W _ _ _ _ _ _) hb.size (Rep.carry (fun b hb => Below.heap_alloc _ _ _ hb.2) (fun b hb => by rw [World.size_alloc]; omega) _ _ hr))
  have Q3 : ∀ (v : Nat → Value) (W : World) (a : C3) (ha : KRep (fun b => b < W.heap.size) W k a) (b : C3) (hb' : KRep (fun b => b < W.heap.size) W m b) (y : C5) (hy : Rep (fun b => b < W.heap.size) W t y) (g : Nat) (hg : W.rowIs g 39 5 (row5 (.int .i64 0) (.int .i64 0) (.string ByteArray.empty) (.slice none 0 0) (.slice none 0 0))) (hgb : B.heap.size ≤ g), wpS Tryz.prog wd38Ops Q (fun W => Below B.heap.size B W) (unl 13 [6, 7, 8, 9, 11, 12], frL v 142 [(3, .pointer (some ⟨bA, 0, none⟩)), (4, .pointer (some ⟨bB, 0, none⟩)), (5, .pointer (some ⟨bT, 0, none⟩)), (8, a8), (9, a9), (13, a13), (16, a16), (18, .pointer (some ⟨g, 0, none⟩)), (116, .agg #[c.c0, c.c1, c.c2]), (117, .agg #[a.c0, a.c1, a.c2]), (118, .agg #[d.c0, d.c1, d.c2]), (119, .agg #[b.c0, b.c1, b.c2]), (120, .agg #[x.c0, x.c1, x.c2, x.c3, x.c4]), (121, .agg #[y.c0, y.c1, y.c2, y.c3, y.c4])]) [] W := by
    intro v W a ha b hb' y hy g hg hgb
    refine T_one 6 (by kernel_rfl) fun hb => ?_
    · refine O_go (hC a b y W hb ha hb' hy) (by kernel_rfl) ?_
      rintro e W1 ⟨dW, rfl, ho, hb1⟩
      exact ⟨_, rfl, hb.trans (hb1.mono hb.size), T_z hq [7, 8, 9] (by kernel_rfl) (T_fr 13 142 [11, 12] [(3, .pointer (some ⟨bA, 0, none⟩)), (4, .pointer (some ⟨bB, 0, none⟩)), (5, .pointer (some ⟨bT, 0, none⟩)), (8, a8), (9, a9), (13, a13), (16, a16), (18, .pointer (some ⟨g, 0, none⟩)), (116, .agg #[c.c0, c.c1, c.c2]), (118, .agg #[d.c0, d.c1, d.c2]), (120, .agg #[x.c0, x.c1, x.c2, x.c3, x.c4]), (123, .agg #[dW.c0, dW.c1, dW.c2, dW.c3, dW.c4]), (124, .bool r)] (by kernel_rfl) fun v => Q4 v W1 dW g (hg.of_block (hb1.block g hg.lt)) hgb (Rep.carry (fun _ _ => rfl) (fun b hb' => by have := hb'.1; have := hb'.2; have := hb.size; have := hg.lt; omega) _ _ ho))⟩
  have P3 : ∀ (v : Nat → Value) (W : World) (a : C3) (ha : KRep (fun b => b < W.heap.size) W k a) (b : C3) (hb' : KRep (fun b => b < W.heap.size) W m b) (y : C5) (hy : Rep (fun b => b < W.heap.size) W t y), wpS Tryz.prog wd38Ops Q (fun W => Below B.heap.size B W) (unl 13 [6, 7, 8, 9, 10, 11, 12], frL v 142 [(3, .pointer (some ⟨bA, 0, none⟩)), (4, .pointer (some ⟨bB, 0, none⟩)), (5, .pointer (some ⟨bT, 0, none⟩)), (8, a8), (9, a9), (13, a13), (16, a16), (116, .agg #[c.c0, c.c1, c.c2]), (117, .agg #[a.c0, a.c1, a.c2]), (118, .agg #[d.c0, d.c1, d.c2]), (119, .agg #[b.c0, b.c1, b.c2]), (120, .agg #[x.c0, x.c1, x.c2, x.c3, x.c4]), (121, .agg #[y.c0, y.c1, y.c2, y.c3, y.c4])]) [] W := by
    intro v W a ha b hb' y hy
    refine T_two 6 10 (by kernel_rfl) (fun hb => ?_) fun hb => ?_
    · refine O_go (hC a b y W hb ha hb' hy) (by kernel_rfl) ?_
      rintro e W1 ⟨dW, rfl, ho, hb1⟩
      exact ⟨_, rfl, hb.trans (hb1.mono hb.size), T_z hq [7, 8, 9] (by kernel_rfl) (T_fr 13 142 [10, 11, 12] [(3, .pointer (some ⟨bA, 0, none⟩)), (4, .pointer (some ⟨bB, 0, none⟩)), (5, .pointer (some ⟨bT, 0, none⟩)), (8, a8), (9, a9), (13, a13), (16, a16), (116, .agg #[c.c0, c.c1, c.c2]), (118, .agg #[d.c0, d.c1, d.c2]), (120, .agg #[x.c0, x.c1, x.c2, x.c3, x.c4]), (123, .agg #[dW.c0, dW.c1, dW.c2, dW.c3, dW.c4]), (124, .bool r)] (by kernel_rfl) fun v => P4 v W1 dW (Rep.carry (fun _ _ => rfl) (fun b hb' => by have := hb'.1; have := hb'.2; have := hb.size; omega) _ _ ho))⟩
    · exact O_val (w' := W.alloc (.cells #[.int .i64 0, .int .i64 0, .string ByteArray.empty, .slice none 0 0, .slice none 0 0] 39)) (some 18) (.pointer (some ⟨W.heap.size, 0, none⟩)) (by kernel_rfl) (by kernel_rfl) (hb.alloc hb.size _) (T_fr 13 142 [6, 7, 8, 9, 11, 12] [(3, .pointer (some ⟨bA, 0, none⟩)), (4, .pointer (some ⟨bB, 0, none⟩)), (5, .pointer (some ⟨bT, 0, none⟩)), (8, a8), (9, a9), (13, a13), (16, a16), (18, .pointer (some ⟨W.heap.size, 0, none⟩)), (116, .agg #[c.c0, c.c1, c.c2]), (117, .agg #[a.c0, a.c1, a.c2]), (118, .agg #[d.c0, d.c1, d.c2]), (119, .agg #[b.c0, b.c1, b.c2]), (120, .agg #[x.c0, x.c1, x.c2, x.c3, x.c4]), (121, .agg #[y.c0, y.c1, y.c2, y.c3, y.c4])] (by kernel_rfl) fun v => Q3 v _ a (KRep.carry (fun b hb => Below.heap_alloc _ _ _ hb) (fun b hb => by rw [World.size_alloc]; omega) _ _ ha) b (KRep.carry (fun b hb => Below.heap_alloc _ _ _ hb) (fun b hb => by rw [World.size_alloc]; omega) _ _ hb') y (Rep.carry (fun b hb => Below.heap_alloc _ _ _ hb) (fun b hb => by rw [World.size_alloc]; omega) _ _ hy) _ (row5_alloc W _ _ _ _ _ _) hb.size)
  have Q2 : ∀ (v : Nat → Value) (W : World) (a : C3) (ha : KRep (fun b => b < W.heap.size) W k a) (b : C3) (hb' : KRep (fun b => b < W.heap.size) W m b) (g : Nat) (hg : W.rowIs g 39 5 (row5 (.int .i64 0) (.int .i64 0) (.string ByteArray.empty) (.slice none 0 0) (.slice none 0 0))) (hgb : B.heap.size ≤ g), wpS Tryz.prog wd38Ops Q (fun W => Below B.heap.size B W) (unl 13 [5, 6, 7, 8, 9, 11, 12], frL v 142 [(3, .pointer (some ⟨bA, 0, none⟩)), (4, .pointer (some ⟨bB, 0, none⟩)), (5, .pointer (some ⟨bT, 0, none⟩)), (8, a8), (9, a9), (13, a13), (16, a16), (18, .pointer (some ⟨g, 0, none⟩)), (116, .agg #[c.c0, c.c1, c.c2]), (117, .agg #[a.c0, a.c1, a.c2]), (118, .agg #[d.c0, d.c1, d.c2]), (119, .agg #[b.c0, b.c1, b.c2]), (120, .agg #[x.c0, x.c1, x.c2, x.c3, x.c4])]) [] W := by
    intro v W a ha b hb' g hg hgb
    refine T_one 5 (by kernel_rfl) fun hb => ?_
    · refine O_go (hCT W hb) (by kernel_rfl) ?_
      rintro e W1 ⟨y, rfl, hat, hb1⟩
      exact ⟨_, rfl, hb.trans (hb1.mono hb.size), T_fr 13 142 [6, 7, 8, 9, 11, 12] [(3, .pointer (some ⟨bA, 0, none⟩)), (4, .pointer (some ⟨bB, 0, none⟩)), (5, .pointer (some ⟨bT, 0, none⟩)), (8, a8), (9, a9), (13, a13), (16, a16), (18, .pointer (some ⟨g, 0, none⟩)), (116, .agg #[c.c0, c.c1, c.c2]), (117, .agg #[a.c0, a.c1, a.c2]), (118, .agg #[d.c0, d.c1, d.c2]), (119, .agg #[b.c0, b.c1, b.c2]), (120, .agg #[x.c0, x.c1, x.c2, x.c3, x.c4]), (121, .agg #[y.c0, y.c1, y.c2, y.c3, y.c4])] (by kernel_rfl) fun v => Q3 v W1 a (KRep.carry (fun b hb => hb1.block b hb) (fun b hb => Nat.lt_of_lt_of_le hb hb1.size) _ _ ha) b (KRep.carry (fun b hb => hb1.block b hb) (fun b hb => Nat.lt_of_lt_of_le hb hb1.size) _ _ hb') y (Rep.carry (fun _ _ => rfl) (fun b hb => hb.2) _ _ hat) g (hg.of_block (hb1.block g hg.lt)) hgb⟩
  have P2 : ∀ (v : Nat → Value) (W : World) (a : C3) (ha : KRep (fun b => b < W.heap.size) W k a) (b : C3) (hb' : KRep (fun b => b < W.heap.size) W m b), wpS Tryz.prog wd38Ops Q (fun W => Below B.heap.size B W) (unl 13 [5, 6, 7, 8, 9, 10, 11, 12], frL v 142 [(3, .pointer (some ⟨bA, 0, none⟩)), (4, .pointer (some ⟨bB, 0, none⟩)), (5, .pointer (some ⟨bT, 0, none⟩)), (8, a8), (9, a9), (13, a13), (16, a16), (116, .agg #[c.c0, c.c1, c.c2]), (117, .agg #[a.c0, a.c1, a.c2]), (118, .agg #[d.c0, d.c1, d.c2]), (119, .agg #[b.c0, b.c1, b.c2]), (120, .agg #[x.c0, x.c1, x.c2, x.c3, x.c4])]) [] W := by
    intro v W a ha b hb'
    refine T_two 5 10 (by kernel_rfl) (fun hb => ?_) fun hb => ?_
    · refine O_go (hCT W hb) (by kernel_rfl) ?_
      rintro e W1 ⟨y, rfl, hat, hb1⟩
      exact ⟨_, rfl, hb.trans (hb1.mono hb.size), T_fr 13 142 [6, 7, 8, 9, 10, 11, 12] [(3, .pointer (some ⟨bA, 0, none⟩)), (4, .pointer (some ⟨bB, 0, none⟩)), (5, .pointer (some ⟨bT, 0, none⟩)), (8, a8), (9, a9), (13, a13), (16, a16), (116, .agg #[c.c0, c.c1, c.c2]), (117, .agg #[a.c0, a.c1, a.c2]), (118, .agg #[d.c0, d.c1, d.c2]), (119, .agg #[b.c0, b.c1, b.c2]), (120, .agg #[x.c0, x.c1, x.c2, x.c3, x.c4]), (121, .agg #[y.c0, y.c1, y.c2, y.c3, y.c4])] (by kernel_rfl) fun v => P3 v W1 a (KRep.carry (fun b hb => hb1.block b hb) (fun b hb => Nat.lt_of_lt_of_le hb hb1.size) _ _ ha) b (KRep.carry (fun b hb => hb1.block b hb) (fun b hb => Nat.lt_of_lt_of_le hb hb1.size) _ _ hb') y (Rep.carry (fun _ _ => rfl) (fun b hb => hb.2) _ _ hat)⟩
    · exact O_val (w' := W.alloc (.cells #[.int .i64 0, .int .i64 0, .string ByteArray.empty, .slice none 0 0, .slice none 0 0] 39)) (some 18) (.pointer (some ⟨W.heap.size, 0, none⟩)) (by kernel_rfl) (by kernel_rfl) (hb.alloc hb.size _) (T_fr 13 142 [5, 6, 7, 8, 9, 11, 12] [(3, .pointer (some ⟨bA, 0, none⟩)), (4, .pointer (some ⟨bB, 0, none⟩)), (5, .pointer (some ⟨bT, 0, none⟩)), (8, a8), (9, a9), (13, a13), (16, a16), (18, .pointer (some ⟨W.heap.size, 0, none⟩)), (116, .agg #[c.c0, c.c1, c.c2]), (117, .agg #[a.c0, a.c1, a.c2]), (118, .agg #[d.c0, d.c1, d.c2]), (119, .agg #[b.c0, b.c1, b.c2]), (120, .agg #[x.c0, x.c1, x.c2, x.c3, x.c4])] (by kernel_rfl) fun v => Q2 v _ a (KRep.carry (fun b hb => Below.heap_alloc _ _ _ hb) (fun b hb => by rw [World.size_alloc]; omega) _ _ ha) b (KRep.carry (fun b hb => Below.heap_alloc _ _ _ hb) (fun b hb => by rw [World.size_alloc]; omega) _ _ hb') _ (row5_alloc W _ _ _ _ _ _) hb.size)
  have Q1 : ∀ (v : Nat → Value) (W : World) (a : C3) (ha : KRep (fun b => b < W.heap.size) W k a) (g : Nat) (hg : W.rowIs g 39 5 (row5 (.int .i64 0) (.int .i64 0) (.string ByteArray.empty) (.slice none 0 0) (.slice none 0 0))) (hgb : B.heap.size ≤ g), wpS Tryz.prog wd38Ops Q (fun W => Below B.heap.size B W) (unl 13 [3, 5, 6, 7, 8, 9, 11, 12], frL v 142 [(3, .pointer (some ⟨bA, 0, none⟩)), (4, .pointer (some ⟨bB, 0, none⟩)), (5, .pointer (some ⟨bT, 0, none⟩)), (8, a8), (9, a9), (13, a13), (16, a16), (18, .pointer (some ⟨g, 0, none⟩)), (116, .agg #[c.c0, c.c1, c.c2]), (117, .agg #[a.c0, a.c1, a.c2]), (118, .agg #[d.c0, d.c1, d.c2]), (120, .agg #[x.c0, x.c1, x.c2, x.c3, x.c4])]) [] W := by
    intro v W a ha g hg hgb
    refine T_one 3 (by kernel_rfl) fun hb => ?_
    · refine O_go (hCM W hb) (by kernel_rfl) ?_
      rintro e W1 ⟨b, rfl, hat, hb1⟩
      exact ⟨_, rfl, hb.trans (hb1.mono hb.size), T_fr 13 142 [5, 6, 7, 8, 9, 11, 12] [(3, .pointer (some ⟨bA, 0, none⟩)), (4, .pointer (some ⟨bB, 0, none⟩)), (5, .pointer (some ⟨bT, 0, none⟩)), (8, a8), (9, a9), (13, a13), (16, a16), (18, .pointer (some ⟨g, 0, none⟩)), (116, .agg #[c.c0, c.c1, c.c2]), (117, .agg #[a.c0, a.c1, a.c2]), (118, .agg #[d.c0, d.c1, d.c2]), (119, .agg #[b.c0, b.c1, b.c2]), (120, .agg #[x.c0, x.c1, x.c2, x.c3, x.c4])] (by kernel_rfl) fun v => Q2 v W1 a (KRep.carry (fun b hb => hb1.block b hb) (fun b hb => Nat.lt_of_lt_of_le hb hb1.size) _ _ ha) b (KRep.carry (fun _ _ => rfl) (fun b hb => hb.2) _ _ hat) g (hg.of_block (hb1.block g hg.lt)) hgb⟩
  have P1 : ∀ (v : Nat → Value) (W : World) (a : C3) (ha : KRep (fun b => b < W.heap.size) W k a), wpS Tryz.prog wd38Ops Q (fun W => Below B.heap.size B W) (unl 13 [3, 5, 6, 7, 8, 9, 10, 11, 12], frL v 142 [(3, .pointer (some ⟨bA, 0, none⟩)), (4, .pointer (some ⟨bB, 0, none⟩)), (5, .pointer (some ⟨bT, 0, none⟩)), (8, a8), (9, a9), (13, a13), (16, a16), (116, .agg #[c.c0, c.c1, c.c2]), (117, .agg #[a.c0, a.c1, a.c2]), (118, .agg #[d.c0, d.c1, d.c2]), (120, .agg #[x.c0, x.c1, x.c2, x.c3, x.c4])]) [] W := by
    intro v W a ha
    refine T_two 3 10 (by kernel_rfl) (fun hb => ?_) fun hb => ?_
    · refine O_go (hCM W hb) (by kernel_rfl) ?_
      rintro e W1 ⟨b, rfl, hat, hb1⟩
      exact ⟨_, rfl, hb.trans (hb1.mono hb.size), T_fr 13 142 [5, 6, 7, 8, 9, 10, 11, 12] [(3, .pointer (some ⟨bA, 0, none⟩)), (4, .pointer (some ⟨bB, 0, none⟩)), (5, .pointer (some ⟨bT, 0, none⟩)), (8, a8), (9, a9), (13, a13), (16, a16), (116, .agg #[c.c0, c.c1, c.c2]), (117, .agg #[a.c0, a.c1, a.c2]), (118, .agg #[d.c0, d.c1, d.c2]), (119, .agg #[b.c0, b.c1, b.c2]), (120, .agg #[x.c0, x.c1, x.c2, x.c3, x.c4])] (by kernel_rfl) fun v => P2 v W1 a (KRep.carry (fun b hb => hb1.block b hb) (fun b hb => Nat.lt_of_lt_of_le hb hb1.size) _ _ ha) b (KRep.carry (fun _ _ => rfl) (fun b hb => hb.2) _ _ hat)⟩
    · exact O_val (w' := W.alloc (.cells #[.int .i64 0, .int .i64 0, .string ByteArray.empty, .slice none 0 0, .slice none 0 0] 39)) (some 18) (.pointer (some ⟨W.heap.size, 0, none⟩)) (by kernel_rfl) (by kernel_rfl) (hb.alloc hb.size _) (T_fr 13 142 [3, 5, 6, 7, 8, 9, 11, 12] [(3, .pointer (some ⟨bA, 0, none⟩)), (4, .pointer (some ⟨bB, 0, none⟩)), (5, .pointer (some ⟨bT, 0, none⟩)), (8, a8), (9, a9), (13, a13), (16, a16), (18, .pointer (some ⟨W.heap.size, 0, none⟩)), (116, .agg #[c.c0, c.c1, c.c2]), (117, .agg #[a.c0, a.c1, a.c2]), (118, .agg #[d.c0, d.c1, d.c2]), (120, .agg #[x.c0, x.c1, x.c2, x.c3, x.c4])] (by kernel_rfl) fun v => Q1 v _ a (KRep.carry (fun b hb => Below.heap_alloc _ _ _ hb) (fun b hb => by rw [World.size_alloc]; omega) _ _ ha) _ (row5_alloc W _ _ _ _ _ _) hb.size)
  have Q0 : ∀ (v : Nat → Value) (W : World)  (g : Nat) (hg : W.rowIs g 39 5 (row5 (.int .i64 0) (.int .i64 0) (.string ByteArray.empty) (.slice none 0 0) (.slice none 0 0))) (hgb : B.heap.size ≤ g), wpS Tryz.prog wd38Ops Q (fun W => Below B.heap.size B W) (unl 13 [1, 3, 5, 6, 7, 8, 9, 11, 12], frL v 142 [(3, .pointer (some ⟨bA, 0, none⟩)), (4, .pointer (some ⟨bB, 0, none⟩)), (5, .pointer (some ⟨bT, 0, none⟩)), (8, a8), (9, a9), (13, a13), (16, a16), (18, .pointer (some ⟨g, 0, none⟩)), (116, .agg #[c.c0, c.c1, c.c2]), (118, .agg #[d.c0, d.c1, d.c2]), (120, .agg #[x.c0, x.c1, x.c2, x.c3, x.c4])]) [] W := by
    intro v W  g hg hgb
    refine T_one 1 (by kernel_rfl) fun hb => ?_
    · refine O_go (hCK W hb) (by kernel_rfl) ?_
      rintro e W1 ⟨a, rfl, hat, hb1⟩
      exact ⟨_, rfl, hb.trans (hb1.mono hb.size), T_fr 13 142 [3, 5, 6, 7, 8, 9, 11, 12] [(3, .pointer (some ⟨bA, 0, none⟩)), (4, .pointer (some ⟨bB, 0, none⟩)), (5, .pointer (some ⟨bT, 0, none⟩)), (8, a8), (9, a9), (13, a13), (16, a16), (18, .pointer (some ⟨g, 0, none⟩)), (116, .agg #[c.c0, c.c1, c.c2]), (117, .agg #[a.c0, a.c1, a.c2]), (118, .agg #[d.c0, d.c1, d.c2]), (120, .agg #[x.c0, x.c1, x.c2, x.c3, x.c4])] (by kernel_rfl) fun v => Q1 v W1 a (KRep.carry (fun _ _ => rfl) (fun b hb => hb.2) _ _ hat) g (hg.of_block (hb1.block g hg.lt)) hgb⟩
  have P0 : ∀ (v : Nat → Value) (W : World) , wpS Tryz.prog wd38Ops Q (fun W => Below B.heap.size B W) (unl 13 [1, 3, 5, 6, 7, 8, 9, 10, 11, 12], frL v 142 [(3, .pointer (some ⟨bA, 0, none⟩)), (4, .pointer (some ⟨bB, 0, none⟩)), (5, .pointer (some ⟨bT, 0, none⟩)), (8, a8), (9, a9), (13, a13), (16, a16), (116, .agg #[c.c0, c.c1, c.c2]), (118, .agg #[d.c0, d.c1, d.c2]), (120, .agg #[x.c0, x.c1, x.c2, x.c3, x.c4])]) [] W := by
    intro v W 
    refine T_two 1 10 (by kernel_rfl) (fun hb => ?_) fun hb => ?_
    · refine O_go (hCK W hb) (by kernel_rfl) ?_
      rintro e W1 ⟨a, rfl, hat, hb1⟩
      exact ⟨_, rfl, hb.trans (hb1.mono hb.size), T_fr 13 142 [3, 5, 6, 7, 8, 9, 10, 11, 12] [(3, .pointer (some ⟨bA, 0, none⟩)), (4, .pointer (some ⟨bB, 0, none⟩)), (5, .pointer (some ⟨bT, 0, none⟩)), (8, a8), (9, a9), (13, a13), (16, a16), (116, .agg #[c.c0, c.c1, c.c2]), (117, .agg #[a.c0, a.c1, a.c2]), (118, .agg #[d.c0, d.c1, d.c2]), (120, .agg #[x.c0, x.c1, x.c2, x.c3, x.c4])] (by kernel_rfl) fun v => P1 v W1 a (KRep.carry (fun _ _ => rfl) (fun b hb => hb.2) _ _ hat)⟩
    · exact O_val (w' := W.alloc (.cells #[.int .i64 0, .int .i64 0, .string ByteArray.empty, .slice none 0 0, .slice none 0 0] 39)) (some 18) (.pointer (some ⟨W.heap.size, 0, none⟩)) (by kernel_rfl) (by kernel_rfl) (hb.alloc hb.size _) (T_fr 13 142 [1, 3, 5, 6, 7, 8, 9, 11, 12] [(3, .pointer (some ⟨bA, 0, none⟩)), (4, .pointer (some ⟨bB, 0, none⟩)), (5, .pointer (some ⟨bT, 0, none⟩)), (8, a8), (9, a9), (13, a13), (16, a16), (18, .pointer (some ⟨W.heap.size, 0, none⟩)), (116, .agg #[c.c0, c.c1, c.c2]), (118, .agg #[d.c0, d.c1, d.c2]), (120, .agg #[x.c0, x.c1, x.c2, x.c3, x.c4])] (by kernel_rfl) fun v => Q0 v _ _ (row5_alloc W _ _ _ _ _ _) hb.size)
  refine T_a hq [0, 2, 4] (fun w h => .cons (ldR3 rowLK infoLK (hA.of_block (h.block _ hA.lt))) (.cons (ldR3 rowLK infoLK (hB.of_block (h.block _ hB.lt))) (.cons (ldR5 rowLT infoLT (hX.of_block (h.block _ hX.lt))) Lds.nil))) (by kernel_rfl) ?_
  exact T_fr 13 142 [1, 3, 5, 6, 7, 8, 9, 10, 11, 12] [(3, .pointer (some ⟨bA, 0, none⟩)), (4, .pointer (some ⟨bB, 0, none⟩)), (5, .pointer (some ⟨bT, 0, none⟩)), (8, a8), (9, a9), (13, a13), (16, a16), (116, .agg #[c.c0, c.c1, c.c2]), (118, .agg #[d.c0, d.c1, d.c2]), (120, .agg #[x.c0, x.c1, x.c2, x.c3, x.c4])] (by kernel_rfl) fun v => P0 v _
noncomputable def wd18Ops : Array Oper := fops Tryz.f4 18
theorem wd18_neat : Region.noSelect wd18Ops = true ∧ neat wd18Ops = true := ⟨by kernel_rfl, by kernel_rfl⟩
set_option maxRecDepth 100000 in
set_option maxHeartbeats 3200000 in
theorem wd18 (k : Kd) (c dX : C3) (D : Nat → Prop) (bA bX : Nat) (W0 : World) (hA : W0.drew.rowIs bA 25 3 (row3 c.c0 c.c1 c.c2)) (hX : W0.drew.rowIs bX 30 3 (row3 dX.c0 dX.c1 dX.c2)) (hrx : KRep D W0.drew k dX) (hD : ∀ b, D b → b < W0.drew.heap.size) (hCK : ∀ W, Below W0.drew.heap.size W0.drew W → Calls Tryz.prog 8 #[.agg #[c.c0, c.c1, c.c2]] W fun e w' => ∃ c' : C3, e = .returned (.agg #[c'.c0, c'.c1, c'.c2]) ∧ KRep (New W w') w' k c' ∧ Below W.heap.size W w') (a4 a5 a8 a9 a11 a12 a13 a14 : Value) {l : List Value} (Q : Exit → Act → World → Prop) (hQ : ∀ c a d v w, Q (.panic c) (Act.put a d v) w → Q (.panic c) a w) (hl : lookL [(3, .pointer (some ⟨bA, 0, none⟩)), (4, a4), (5, a5), (8, a8), (9, a9), (10, .pointer (some ⟨bX, 0, none⟩)), (11, a11), (12, a12), (13, a13), (14, a14)] l = (142, [.pointer (some ⟨bA, 0, none⟩), a4, a5, a8, a9, .pointer (some ⟨bX, 0, none⟩), a11, a12, a13, a14]))
    (hend : ∀ v (W' : World), Below W0.drew.heap.size W0.drew W' → Q .normal ⟨(frL v 142 [(3, .pointer (some ⟨bA, 0, none⟩)), (4, a4), (5, a5), (8, a8), (9, a9), (10, .pointer (some ⟨bX, 0, none⟩)), (11, a11), (12, a12), (13, a13), (14, a14), (71, .bool false)]).toArray, []⟩ W') : (Code.region 18 wd18Ops true).wp Tryz.prog Q ⟨l.toArray, []⟩ W0 := by
  obtain ⟨v0, rfl⟩ := look_fr hl
  have hq : NtQ wd18Ops Q := ⟨wd18_neat, hQ⟩
  refine T_start (S := fun W => Below W0.drew.heap.size W0.drew W) (by kernel_rfl) (Below.refl _ _) ?_
  clear hl hQ
  generalize W0.drew = B at hA hX hrx hD hCK hend ⊢
  refine T_a hq [0, 1] (fun w h => .cons (ldR3 rowIK infoIK (hX.of_block (h.block _ hX.lt))) (.cons (ldR3 rowLK infoLK (hA.of_block (h.block _ hA.lt))) Lds.nil)) (by kernel_rfl) ?_
  refine T_one 2 (by kernel_rfl) fun hb => O_go (hCK B hb) (by kernel_rfl) ?_
  rintro e W1 ⟨a, rfl, hat, hb1⟩
  refine ⟨_, rfl, hb1, ?_⟩
  refine T_one 3 (by kernel_rfl) fun hb => O_go (eqKind_any k D (New B W1) dX a W1 (fun b h => Nat.lt_of_lt_of_le (hD b h) hb1.size) (fun b h => h.2) (KRep.carry (fun b h => hb1.block b (hD b h)) (fun _ h => h) _ _ hrx) hat) (by kernel_rfl) ?_
  rintro e W2 ⟨rfl, hb2⟩
  have hb3 := hb1.trans (hb2.mono hb1.size)
  refine ⟨_, rfl, hb3, ?_⟩
  exact T_z hq [4] (by kernel_rfl) (T_end 142 [(3, .pointer (some ⟨bA, 0, none⟩)), (4, a4), (5, a5), (8, a8), (9, a9), (10, .pointer (some ⟨bX, 0, none⟩)), (11, a11), (12, a12), (13, a13), (14, a14), (71, .bool false)] (by kernel_rfl) (by kernel_rfl) fun _ v => hend v _ hb3)
noncomputable def wd20Ops : Array Oper := fops Tryz.f4 20
theorem wd20_neat : Region.noSelect wd20Ops = true ∧ neat wd20Ops = true := ⟨by kernel_rfl, by kernel_rfl⟩
set_option maxRecDepth 100000 in
set_option maxHeartbeats 3200000 in
theorem wd20 (k : Kd) (c dX : C3) (D : Nat → Prop) (bA bX : Nat) (W0 : World) (hA : W0.drew.rowIs bA 25 3 (row3 c.c0 c.c1 c.c2)) (hX : W0.drew.rowIs bX 30 3 (row3 dX.c0 dX.c1 dX.c2)) (hrx : KRep D W0.drew k dX) (hD : ∀ b, D b → b < W0.drew.heap.size) (hCK : ∀ W, Below W0.drew.heap.size W0.drew W → Calls Tryz.prog 8 #[.agg #[c.c0, c.c1, c.c2]] W fun e w' => ∃ c' : C3, e = .returned (.agg #[c'.c0, c'.c1, c'.c2]) ∧ KRep (New W w') w' k c' ∧ Below W.heap.size W w') (a3 a5 a8 a9 a10 a12 a13 a14 : Value) {l : List Value} (Q : Exit → Act → World → Prop) (hQ : ∀ c a d v w, Q (.panic c) (Act.put a d v) w → Q (.panic c) a w) (hl : lookL [(3, a3), (4, .pointer (some ⟨bA, 0, none⟩)), (5, a5), (8, a8), (9, a9), (10, a10), (11, .pointer (some ⟨bX, 0, none⟩)), (12, a12), (13, a13), (14, a14)] l = (142, [a3, .pointer (some ⟨bA, 0, none⟩), a5, a8, a9, a10, .pointer (some ⟨bX, 0, none⟩), a12, a13, a14]))
    (hend : ∀ v (W' : World), Below W0.drew.heap.size W0.drew W' → Q .normal ⟨(frL v 142 [(3, a3), (4, .pointer (some ⟨bA, 0, none⟩)), (5, a5), (8, a8), (9, a9), (10, a10), (11, .pointer (some ⟨bX, 0, none⟩)), (12, a12), (13, a13), (14, a14), (76, .bool false)]).toArray, []⟩ W') : (Code.region 20 wd20Ops true).wp Tryz.prog Q ⟨l.toArray, []⟩ W0 := by
  obtain ⟨v0, rfl⟩ := look_fr hl
  have hq : NtQ wd20Ops Q := ⟨wd20_neat, hQ⟩
  refine T_start (S := fun W => Below W0.drew.heap.size W0.drew W) (by kernel_rfl) (Below.refl _ _) ?_
  clear hl hQ
  generalize W0.drew = B at hA hX hrx hD hCK hend ⊢
  refine T_a hq [0, 1] (fun w h => .cons (ldR3 rowIK infoIK (hX.of_block (h.block _ hX.lt))) (.cons (ldR3 rowLK infoLK (hA.of_block (h.block _ hA.lt))) Lds.nil)) (by kernel_rfl) ?_
  refine T_one 2 (by kernel_rfl) fun hb => O_go (hCK B hb) (by kernel_rfl) ?_
  rintro e W1 ⟨a, rfl, hat, hb1⟩
  refine ⟨_, rfl, hb1, ?_⟩
  refine T_one 3 (by kernel_rfl) fun hb => O_go (eqKind_any k D (New B W1) dX a W1 (fun b h => Nat.lt_of_lt_of_le (hD b h) hb1.size) (fun b h => h.2) (KRep.carry (fun b h => hb1.block b (hD b h)) (fun _ h => h) _ _ hrx) hat) (by kernel_rfl) ?_
  rintro e W2 ⟨rfl, hb2⟩
  have hb3 := hb1.trans (hb2.mono hb1.size)
  refine ⟨_, rfl, hb3, ?_⟩
  exact T_z hq [4] (by kernel_rfl) (T_end 142 [(3, a3), (4, .pointer (some ⟨bA, 0, none⟩)), (5, a5), (8, a8), (9, a9), (10, a10), (11, .pointer (some ⟨bX, 0, none⟩)), (12, a12), (13, a13), (14, a14), (76, .bool false)] (by kernel_rfl) (by kernel_rfl) fun _ v => hend v _ hb3)
noncomputable def wd22Ops : Array Oper := fops Tryz.f4 22
theorem wd22_neat : Region.noSelect wd22Ops = true ∧ neat wd22Ops = true := ⟨by kernel_rfl, by kernel_rfl⟩
set_option maxRecDepth 100000 in
set_option maxHeartbeats 3200000 in
theorem wd22 (t : Tr) (c dX : C5) (D : Nat → Prop) (bA bX : Nat) (W0 : World) (hA : W0.drew.rowIs bA 35 5 (row5 c.c0 c.c1 c.c2 c.c3 c.c4)) (hX : W0.drew.rowIs bX 39 5 (row5 dX.c0 dX.c1 dX.c2 dX.c3 dX.c4)) (hrx : Rep D W0.drew t dX) (hD : ∀ b, D b → b < W0.drew.heap.size) (hCK : ∀ W, Below W0.drew.heap.size W0.drew W → Calls Tryz.prog 13 #[.agg #[c.c0, c.c1, c.c2, c.c3, c.c4]] W fun e w' => ∃ c' : C5, e = .returned (.agg #[c'.c0, c'.c1, c'.c2, c'.c3, c'.c4]) ∧ Rep (New W w') w' t c' ∧ Below W.heap.size W w') (a3 a4 a8 a9 a10 a11 a13 a14 : Value) {l : List Value} (Q : Exit → Act → World → Prop) (hQ : ∀ c a d v w, Q (.panic c) (Act.put a d v) w → Q (.panic c) a w) (hl : lookL [(3, a3), (4, a4), (5, .pointer (some ⟨bA, 0, none⟩)), (8, a8), (9, a9), (10, a10), (11, a11), (12, .pointer (some ⟨bX, 0, none⟩)), (13, a13), (14, a14)] l = (142, [a3, a4, .pointer (some ⟨bA, 0, none⟩), a8, a9, a10, a11, .pointer (some ⟨bX, 0, none⟩), a13, a14]))
    (hend : ∀ v (W' : World), Below W0.drew.heap.size W0.drew W' → Q .normal ⟨(frL v 142 [(3, a3), (4, a4), (5, .pointer (some ⟨bA, 0, none⟩)), (8, a8), (9, a9), (10, a10), (11, a11), (12, .pointer (some ⟨bX, 0, none⟩)), (13, a13), (14, a14), (81, .bool false)]).toArray, []⟩ W') : (Code.region 22 wd22Ops true).wp Tryz.prog Q ⟨l.toArray, []⟩ W0 := by
  obtain ⟨v0, rfl⟩ := look_fr hl
  have hq : NtQ wd22Ops Q := ⟨wd22_neat, hQ⟩
  refine T_start (S := fun W => Below W0.drew.heap.size W0.drew W) (by kernel_rfl) (Below.refl _ _) ?_
  clear hl hQ
  generalize W0.drew = B at hA hX hrx hD hCK hend ⊢
  refine T_a hq [0, 1] (fun w h => .cons (ldR5 rowIT sizeTr (hX.of_block (h.block _ hX.lt))) (.cons (ldR5 rowLT infoLT (hA.of_block (h.block _ hA.lt))) Lds.nil)) (by kernel_rfl) ?_
  refine T_one 2 (by kernel_rfl) fun hb => O_go (hCK B hb) (by kernel_rfl) ?_
  rintro e W1 ⟨a, rfl, hat, hb1⟩
  refine ⟨_, rfl, hb1, ?_⟩
  refine T_one 3 (by kernel_rfl) fun hb => O_go (eqTree_any t D (New B W1) dX a W1 (fun b h => Nat.lt_of_lt_of_le (hD b h) hb1.size) (fun b h => h.2) (Rep.carry (fun b h => hb1.block b (hD b h)) (fun _ h => h) _ _ hrx) hat) (by kernel_rfl) ?_
  rintro e W2 ⟨rfl, hb2⟩
  have hb3 := hb1.trans (hb2.mono hb1.size)
  refine ⟨_, rfl, hb3, ?_⟩
  exact T_z hq [4] (by kernel_rfl) (T_end 142 [(3, a3), (4, a4), (5, .pointer (some ⟨bA, 0, none⟩)), (8, a8), (9, a9), (10, a10), (11, a11), (12, .pointer (some ⟨bX, 0, none⟩)), (13, a13), (14, a14), (81, .bool false)] (by kernel_rfl) (by kernel_rfl) fun _ v => hend v _ hb3)
end Go.Proofs.YtcpfelaffclalaaGreatDoor
