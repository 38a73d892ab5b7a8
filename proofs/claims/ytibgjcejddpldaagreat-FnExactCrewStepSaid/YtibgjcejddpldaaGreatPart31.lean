/- A part. -/
import Derived.Test.YtibgjcejddpldaaGreatPart30
namespace Go.Proofs.YtibgjcejddpldaaGreat
open Go Go.RowKit
set_option maxRecDepth 100000
set_option maxHeartbeats 3200000
theorem opLd {P : Program} {ops : Array Oper} {Q : Exit → Act → World → Prop} (i : Nat) {K : Act → World → Prop} {a : Act} {w : World} (d : Option Tmp) (T : TypeId) (x : Operand) (ad : Addr) (v : Value) (hb : opB ops i d = true) (ho : (opI ops i).op = .load T x) (hx : a.eval x = .pointer (some ad)) (hl : (Instr.loadAt T (.pointer (some ad))).run P w = .ok v w) (h : K (a.put d v) w) : wpOp P ops Q i K a w := by
 refine op_val d v hb ?_ h
 unfold execOp
 simp only [ho, hx, Sem.run_bind, Sem.run_pure, Result.andThen_ok, hl]
theorem stSl (W : World) (ad : Addr) (old : Value) (a : Option Addr) (m cap : Nat) (h : W.cell? ad = some old) (hf : W.frozen? ad = false) : (Instr.storeAt 23 (.pointer (some ad)) (.slice a m cap)).run Tryz.prog W = .ok () (W.setCell ad (.slice a m cap)) := by
 simp [Instr.storeAt, Instr.sureAddr, storeVar, h, hf, go_sem]
noncomputable def to0Ops : Array Oper := fops Tryz.f139 0
theorem to0_neat : Region.noSelect to0Ops = true ∧ neat to0Ops = true := ⟨by kernel_rfl, by kernel_rfl⟩
theorem to0F (C : Nat) (c : Cw) (B : CrB) (z : Int) (l : List Int) (W0 W : World) {v1 v13 v14 v15 v16 v17 : Value} (Q : Exit → Act → World → Prop) (hQ : ∀ c a d v w, Q (.panic c) (Act.put a d v) w → Q (.panic c) a w) (hc : CrAt W C { c with out := l } B) (hgl : c.got.length + 1 ≤ 1000) (hx0 : Exc (CrB.blocks C B) W0 W)
 (hend : ∀ (n2 n3 n4 n5 n6 n7 n8 n9 n10 n11 n12 n13 n14 n15 : Value) W', (∃ B', CrAt W' C { c with got := c.got ++ [z], out := l } B') → Exc (CrB.blocks C B) W0 W' → Q .normal ⟨(.pointer (some ⟨C, 0, none⟩) :: v1 :: n2 :: n3 :: n4 :: n5 :: n6 :: n7 :: n8 :: n9 :: n10 :: n11 :: n12 :: n13 :: n14 :: n15 :: v16 :: v17 :: []).toArray, []⟩ W') : wpAnyH Tryz.prog .any to0Ops Q (fun W => W.cell? ⟨C, 10, none⟩ = some (.pointer (some ⟨B.O, 0, none⟩))) 4 #[true, true, true, true, true, true, true, true, true, true, true, false, false, false, false] ⟨(.pointer (some ⟨C, 0, none⟩) :: v1 :: .pointer (some ⟨C, 0, none⟩) :: .pointer (some ⟨C, 0, none⟩) :: .pointer (some ⟨C, 0, none⟩) :: .pointer (some ⟨C, 12, none⟩) :: .slice B.aT c.got.length B.cT :: .pointer (some ⟨C, 0, none⟩) :: .pointer (some ⟨C, 0, none⟩) :: .pointer (some ⟨C, 10, none⟩) :: .pointer (some ⟨B.O, 0, none⟩) :: .int .i64 z :: .slice (some ⟨W.heap.size, 0, none⟩) 1 1 :: v13 :: v14 :: v15 :: v16 :: v17 :: []).toArray, []⟩ (W.alloc (.cells #[.int .i64 z] 3)) := by
 have hs := to0_neat
 obtain ⟨j1, hI, hI0, hI1, hI2⟩ := info_parts infoIntM
 refine ready_one 11 (by kernel_rfl) ?_
 refine op_list (some 13) (by kernel_rfl) ?_
 refine append_row (W.alloc (.cells #[.int .i64 z] 3)) (by kernel_rfl) (.tmp 6) (.tmp 12) 23 (by kernel_rfl) 0 3 j1 (.int .i64 0) 1 8 Tryz.underlying23 hI hI0 hI1 hI2 rfl (by decide) (.slice B.aT c.got.length B.cT) c.got.length (c.got.map zcs).flatten (by kernel_rfl) (World.ownsRow.alloc hc.got _) ⟨W.heap.size, 0, none⟩ 1 1 [.int .i64 z] (by kernel_rfl) rfl (cell_oneV _ _ _) (fun u hu => by simp at hu; subst hu; rfl) (by decide) (by unfold maxLen; omega) (by omega) (Nat.zero_le _) ?_
 intro v' V2 ho hg hat
 obtain ⟨g8, cap8, rfl, hg1, hg2⟩ := ho.form (by omega)
 obtain ⟨hc2, hx2, hcell, hfz⟩ := CrAt.got_put (c := { c with out := l }) (z := z) hc hgl ho hg hat
 have hS2 : V2.cell? ⟨C, 10, none⟩ = some (.pointer (some ⟨B.O, 0, none⟩)) := by
  have h1 := hc2.c10
  rw [World.cell?_setCell_other _ _ _ _ (by simp)] at h1
  exact h1
 refine And.intro hS2 ?_
 refine any_eq (l' := #[true, true, true, true, true, true, true, true, true, true, true, true, false, false, false]) (a' := ⟨(.pointer (some ⟨C, 0, none⟩) :: v1 :: .pointer (some ⟨C, 0, none⟩) :: .pointer (some ⟨C, 0, none⟩) :: .pointer (some ⟨C, 0, none⟩) :: .pointer (some ⟨C, 12, none⟩) :: .slice B.aT c.got.length B.cT :: .pointer (some ⟨C, 0, none⟩) :: .pointer (some ⟨C, 0, none⟩) :: .pointer (some ⟨C, 10, none⟩) :: .pointer (some ⟨B.O, 0, none⟩) :: .int .i64 z :: .slice (some ⟨W.heap.size, 0, none⟩) 1 1 :: .slice (some ⟨g8, 0, none⟩) (c.got.length + 1) cap8 :: v14 :: v15 :: v16 :: v17 :: []).toArray, []⟩) (by kernel_rfl) (by kernel_rfl) ?_
 refine take_any 12 (some 14) (.pointer (some ⟨C, 0, none⟩)) hs hQ (by kernel_rfl) (fun w _ => by kernel_rfl) hS2 ?_
 refine take_any 13 (some 15) (.pointer (some ⟨C, 12, none⟩)) hs hQ (by kernel_rfl) (fun w _ => by kernel_rfl) hS2 ?_
 refine any_eq (l' := #[true, true, true, true, true, true, true, true, true, true, true, true, true, true, false]) (a' := ⟨(.pointer (some ⟨C, 0, none⟩) :: v1 :: .pointer (some ⟨C, 0, none⟩) :: .pointer (some ⟨C, 0, none⟩) :: .pointer (some ⟨C, 0, none⟩) :: .pointer (some ⟨C, 12, none⟩) :: .slice B.aT c.got.length B.cT :: .pointer (some ⟨C, 0, none⟩) :: .pointer (some ⟨C, 0, none⟩) :: .pointer (some ⟨C, 10, none⟩) :: .pointer (some ⟨B.O, 0, none⟩) :: .int .i64 z :: .slice (some ⟨W.heap.size, 0, none⟩) 1 1 :: .slice (some ⟨g8, 0, none⟩) (c.got.length + 1) cap8 :: .pointer (some ⟨C, 0, none⟩) :: .pointer (some ⟨C, 12, none⟩) :: v16 :: v17 :: []).toArray, []⟩) (by kernel_rfl) (by kernel_rfl) ?_
 refine ready_one 14 (by kernel_rfl) ?_
 refine op_store none 23 (.tmp 15) (.tmp 13) ⟨C, 12, none⟩ (.slice (some ⟨g8, 0, none⟩) (c.got.length + 1) cap8) _ (by kernel_rfl) (by kernel_rfl) (by kernel_rfl) (by kernel_rfl) (stSl V2 _ _ _ _ _ hcell hfz) ?_
 refine And.intro hc2.c10 ?_
 refine any_eq (l' := #[true, true, true, true, true, true, true, true, true, true, true, true, true, true, true]) (a' := ⟨(.pointer (some ⟨C, 0, none⟩) :: v1 :: .pointer (some ⟨C, 0, none⟩) :: .pointer (some ⟨C, 0, none⟩) :: .pointer (some ⟨C, 0, none⟩) :: .pointer (some ⟨C, 12, none⟩) :: .slice B.aT c.got.length B.cT :: .pointer (some ⟨C, 0, none⟩) :: .pointer (some ⟨C, 0, none⟩) :: .pointer (some ⟨C, 10, none⟩) :: .pointer (some ⟨B.O, 0, none⟩) :: .int .i64 z :: .slice (some ⟨W.heap.size, 0, none⟩) 1 1 :: .slice (some ⟨g8, 0, none⟩) (c.got.length + 1) cap8 :: .pointer (some ⟨C, 0, none⟩) :: .pointer (some ⟨C, 12, none⟩) :: v16 :: v17 :: []).toArray, []⟩) (by kernel_rfl) (by kernel_rfl) ?_
 exact wpAnyH_done (by kernel_rfl) (hend _ _ _ _ _ _ _ _ _ _ _ _ _ _ _ ⟨_, hc2⟩ (hx0.trans hx2)) _
theorem to0E (C : Nat) (c : Cw) (B : CrB) (z : Int) (l : List Int) (W0 W : World) {v1 v6 v13 v14 v15 v16 v17 : Value} (Q : Exit → Act → World → Prop) (hQ : ∀ c a d v w, Q (.panic c) (Act.put a d v) w → Q (.panic c) a w) (hc : CrAt W C { c with out := l } B) (hgl : c.got.length + 1 ≤ 1000) (hx0 : Exc (CrB.blocks C B) W0 W)
 (hend : ∀ (n2 n3 n4 n5 n6 n7 n8 n9 n10 n11 n12 n13 n14 n15 : Value) W', (∃ B', CrAt W' C { c with got := c.got ++ [z], out := l } B') → Exc (CrB.blocks C B) W0 W' → Q .normal ⟨(.pointer (some ⟨C, 0, none⟩) :: v1 :: n2 :: n3 :: n4 :: n5 :: n6 :: n7 :: n8 :: n9 :: n10 :: n11 :: n12 :: n13 :: n14 :: n15 :: v16 :: v17 :: []).toArray, []⟩ W') : wpAnyH Tryz.prog .any to0Ops Q (fun W => W.cell? ⟨C, 10, none⟩ = some (.pointer (some ⟨B.O, 0, none⟩))) 5 #[true, true, true, true, false, true, true, true, true, true, true, false, false, false, false] ⟨(.pointer (some ⟨C, 0, none⟩) :: v1 :: .pointer (some ⟨C, 0, none⟩) :: .pointer (some ⟨C, 0, none⟩) :: .pointer (some ⟨C, 0, none⟩) :: .pointer (some ⟨C, 12, none⟩) :: v6 :: .pointer (some ⟨C, 0, none⟩) :: .pointer (some ⟨C, 0, none⟩) :: .pointer (some ⟨C, 10, none⟩) :: .pointer (some ⟨B.O, 0, none⟩) :: .int .i64 z :: .slice (some ⟨W.heap.size, 0, none⟩) 1 1 :: v13 :: v14 :: v15 :: v16 :: v17 :: []).toArray, []⟩ (W.alloc (.cells #[.int .i64 z] 3)) := by
 have hcV : CrAt (W.alloc (.cells #[.int .i64 z] 3)) C { c with out := l } B := hc.below ((Below.refl _ _).alloc (Nat.le_refl _) _)
 refine ready_one 4 (by kernel_rfl) ?_
 refine opLd (ops := to0Ops) 4 (some 6) 23 (.tmp 5) ⟨C, 12, none⟩ (.slice B.aT c.got.length B.cT) (by kernel_rfl) (by kernel_rfl) (by kernel_rfl) (ld25 _ _ _ hcV.c12) ?_
 refine And.intro hcV.c10 ?_
 exact any_eq (l' := #[true, true, true, true, true, true, true, true, true, true, true, false, false, false, false]) (a' := ⟨(.pointer (some ⟨C, 0, none⟩) :: v1 :: .pointer (some ⟨C, 0, none⟩) :: .pointer (some ⟨C, 0, none⟩) :: .pointer (some ⟨C, 0, none⟩) :: .pointer (some ⟨C, 12, none⟩) :: .slice B.aT c.got.length B.cT :: .pointer (some ⟨C, 0, none⟩) :: .pointer (some ⟨C, 0, none⟩) :: .pointer (some ⟨C, 10, none⟩) :: .pointer (some ⟨B.O, 0, none⟩) :: .int .i64 z :: .slice (some ⟨W.heap.size, 0, none⟩) 1 1 :: v13 :: v14 :: v15 :: v16 :: v17 :: []).toArray, []⟩) (by kernel_rfl) (by kernel_rfl) (to0F C c B z l W0 W Q hQ hc hgl hx0 hend)
theorem to0D (C : Nat) (c : Cw) (B : CrB) (z : Int) (l : List Int) (W0 W : World) {v1 v12 v13 v14 v15 v16 v17 : Value} (Q : Exit → Act → World → Prop) (hQ : ∀ c a d v w, Q (.panic c) (Act.put a d v) w → Q (.panic c) a w) (hc : CrAt W C { c with out := l } B) (hgl : c.got.length + 1 ≤ 1000) (hx0 : Exc (CrB.blocks C B) W0 W)
 (hend : ∀ (n2 n3 n4 n5 n6 n7 n8 n9 n10 n11 n12 n13 n14 n15 : Value) W', (∃ B', CrAt W' C { c with got := c.got ++ [z], out := l } B') → Exc (CrB.blocks C B) W0 W' → Q .normal ⟨(.pointer (some ⟨C, 0, none⟩) :: v1 :: n2 :: n3 :: n4 :: n5 :: n6 :: n7 :: n8 :: n9 :: n10 :: n11 :: n12 :: n13 :: n14 :: n15 :: v16 :: v17 :: []).toArray, []⟩ W') : wpAnyH Tryz.prog .any to0Ops Q (fun W => W.cell? ⟨C, 10, none⟩ = some (.pointer (some ⟨B.O, 0, none⟩))) 5 #[true, true, true, true, true, true, true, true, true, true, false, false, false, false, false] ⟨(.pointer (some ⟨C, 0, none⟩) :: v1 :: .pointer (some ⟨C, 0, none⟩) :: .pointer (some ⟨C, 0, none⟩) :: .pointer (some ⟨C, 0, none⟩) :: .pointer (some ⟨C, 12, none⟩) :: .slice B.aT c.got.length B.cT :: .pointer (some ⟨C, 0, none⟩) :: .pointer (some ⟨C, 0, none⟩) :: .pointer (some ⟨C, 10, none⟩) :: .pointer (some ⟨B.O, 0, none⟩) :: .int .i64 z :: v12 :: v13 :: v14 :: v15 :: v16 :: v17 :: []).toArray, []⟩ W := by
 have hcV : CrAt (W.alloc (.cells #[.int .i64 z] 3)) C { c with out := l } B := hc.below ((Below.refl _ _).alloc (Nat.le_refl _) _)
 refine ready_one 10 (by kernel_rfl) ?_
 refine op_val (w' := (W.alloc (.cells #[.int .i64 z] 3))) (some 12) (.slice (some ⟨W.heap.size, 0, none⟩) 1 1) (by kernel_rfl) (by kernel_rfl) ?_
 refine And.intro hcV.c10 ?_
 exact any_eq (l' := #[true, true, true, true, true, true, true, true, true, true, true, false, false, false, false]) (a' := ⟨(.pointer (some ⟨C, 0, none⟩) :: v1 :: .pointer (some ⟨C, 0, none⟩) :: .pointer (some ⟨C, 0, none⟩) :: .pointer (some ⟨C, 0, none⟩) :: .pointer (some ⟨C, 12, none⟩) :: .slice B.aT c.got.length B.cT :: .pointer (some ⟨C, 0, none⟩) :: .pointer (some ⟨C, 0, none⟩) :: .pointer (some ⟨C, 10, none⟩) :: .pointer (some ⟨B.O, 0, none⟩) :: .int .i64 z :: .slice (some ⟨W.heap.size, 0, none⟩) 1 1 :: v13 :: v14 :: v15 :: v16 :: v17 :: []).toArray, []⟩) (by kernel_rfl) (by kernel_rfl) (to0F C c B z l W0 W Q hQ hc hgl hx0 hend)
theorem to0C (C : Nat) (c : Cw) (B : CrB) (z : Int) (l : List Int) (W0 W : World) {v1 v6 v12 v13 v14 v15 v16 v17 : Value} (Q : Exit → Act → World → Prop) (hQ : ∀ c a d v w, Q (.panic c) (Act.put a d v) w → Q (.panic c) a w) (hc : CrAt W C { c with out := l } B) (hgl : c.got.length + 1 ≤ 1000) (hx0 : Exc (CrB.blocks C B) W0 W)
 (hend : ∀ (n2 n3 n4 n5 n6 n7 n8 n9 n10 n11 n12 n13 n14 n15 : Value) W', (∃ B', CrAt W' C { c with got := c.got ++ [z], out := l } B') → Exc (CrB.blocks C B) W0 W' → Q .normal ⟨(.pointer (some ⟨C, 0, none⟩) :: v1 :: n2 :: n3 :: n4 :: n5 :: n6 :: n7 :: n8 :: n9 :: n10 :: n11 :: n12 :: n13 :: n14 :: n15 :: v16 :: v17 :: []).toArray, []⟩ W') : wpAnyH Tryz.prog .any to0Ops Q (fun W => W.cell? ⟨C, 10, none⟩ = some (.pointer (some ⟨B.O, 0, none⟩))) 6 #[true, true, true, true, false, true, true, true, true, true, false, false, false, false, false] ⟨(.pointer (some ⟨C, 0, none⟩) :: v1 :: .pointer (some ⟨C, 0, none⟩) :: .pointer (some ⟨C, 0, none⟩) :: .pointer (some ⟨C, 0, none⟩) :: .pointer (some ⟨C, 12, none⟩) :: v6 :: .pointer (some ⟨C, 0, none⟩) :: .pointer (some ⟨C, 0, none⟩) :: .pointer (some ⟨C, 10, none⟩) :: .pointer (some ⟨B.O, 0, none⟩) :: .int .i64 z :: v12 :: v13 :: v14 :: v15 :: v16 :: v17 :: []).toArray, []⟩ W := by
 have hcV : CrAt (W.alloc (.cells #[.int .i64 z] 3)) C { c with out := l } B := hc.below ((Below.refl _ _).alloc (Nat.le_refl _) _)
 refine ready_two 4 10 (by kernel_rfl) ?_ ?_
 · refine opLd (ops := to0Ops) 4 (some 6) 23 (.tmp 5) ⟨C, 12, none⟩ (.slice B.aT c.got.length B.cT) (by kernel_rfl) (by kernel_rfl) (by kernel_rfl) (ld25 _ _ _ hc.c12) ?_
   refine And.intro hc.c10 ?_
   exact any_eq (l' := #[true, true, true, true, true, true, true, true, true, true, false, false, false, false, false]) (a' := ⟨(.pointer (some ⟨C, 0, none⟩) :: v1 :: .pointer (some ⟨C, 0, none⟩) :: .pointer (some ⟨C, 0, none⟩) :: .pointer (some ⟨C, 0, none⟩) :: .pointer (some ⟨C, 12, none⟩) :: .slice B.aT c.got.length B.cT :: .pointer (some ⟨C, 0, none⟩) :: .pointer (some ⟨C, 0, none⟩) :: .pointer (some ⟨C, 10, none⟩) :: .pointer (some ⟨B.O, 0, none⟩) :: .int .i64 z :: v12 :: v13 :: v14 :: v15 :: v16 :: v17 :: []).toArray, []⟩) (by kernel_rfl) (by kernel_rfl) (to0D C c B z l W0 W Q hQ hc hgl hx0 hend)
 · refine op_val (w' := (W.alloc (.cells #[.int .i64 z] 3))) (some 12) (.slice (some ⟨W.heap.size, 0, none⟩) 1 1) (by kernel_rfl) (by kernel_rfl) ?_
   refine And.intro hcV.c10 ?_
   exact any_eq (l' := #[true, true, true, true, false, true, true, true, true, true, true, false, false, false, false]) (a' := ⟨(.pointer (some ⟨C, 0, none⟩) :: v1 :: .pointer (some ⟨C, 0, none⟩) :: .pointer (some ⟨C, 0, none⟩) :: .pointer (some ⟨C, 0, none⟩) :: .pointer (some ⟨C, 12, none⟩) :: v6 :: .pointer (some ⟨C, 0, none⟩) :: .pointer (some ⟨C, 0, none⟩) :: .pointer (some ⟨C, 10, none⟩) :: .pointer (some ⟨B.O, 0, none⟩) :: .int .i64 z :: .slice (some ⟨W.heap.size, 0, none⟩) 1 1 :: v13 :: v14 :: v15 :: v16 :: v17 :: []).toArray, []⟩) (by kernel_rfl) (by kernel_rfl) (to0E C c B z l W0 W Q hQ hc hgl hx0 hend)
theorem to0B (C : Nat) (c : Cw) (B : CrB) (z : Int) (l : List Int) (W0 W : World) {v1 v11 v12 v13 v14 v15 v16 v17 : Value} (Q : Exit → Act → World → Prop) (hQ : ∀ c a d v w, Q (.panic c) (Act.put a d v) w → Q (.panic c) a w) (hc : CrAt W C c B) (ho : c.out = z :: l) (hgl : c.got.length + 1 ≤ 1000) (hx0 : Exc (CrB.blocks C B) W0 W)
 (hend : ∀ (n2 n3 n4 n5 n6 n7 n8 n9 n10 n11 n12 n13 n14 n15 : Value) W', (∃ B', CrAt W' C { c with got := c.got ++ [z], out := l } B') → Exc (CrB.blocks C B) W0 W' → Q .normal ⟨(.pointer (some ⟨C, 0, none⟩) :: v1 :: n2 :: n3 :: n4 :: n5 :: n6 :: n7 :: n8 :: n9 :: n10 :: n11 :: n12 :: n13 :: n14 :: n15 :: v16 :: v17 :: []).toArray, []⟩ W') : wpAnyH Tryz.prog .any to0Ops Q (fun W => W.cell? ⟨C, 10, none⟩ = some (.pointer (some ⟨B.O, 0, none⟩))) 6 #[true, true, true, true, true, true, true, true, true, false, false, false, false, false, false] ⟨(.pointer (some ⟨C, 0, none⟩) :: v1 :: .pointer (some ⟨C, 0, none⟩) :: .pointer (some ⟨C, 0, none⟩) :: .pointer (some ⟨C, 0, none⟩) :: .pointer (some ⟨C, 12, none⟩) :: .slice B.aT c.got.length B.cT :: .pointer (some ⟨C, 0, none⟩) :: .pointer (some ⟨C, 0, none⟩) :: .pointer (some ⟨C, 10, none⟩) :: .pointer (some ⟨B.O, 0, none⟩) :: v11 :: v12 :: v13 :: v14 :: v15 :: v16 :: v17 :: []).toArray, []⟩ W := by
 refine ready_one 9 (by kernel_rfl) ?_
 refine op_enter (some 11) 145 #[.pointer (some ⟨B.O, 0, none⟩)] (by kernel_rfl) (by kernel_rfl) (takeI_any B.O B.Op 1 l (c.shut.getD 2 0) z W (by have := hc.o; rw [ho] at this; exact this)) ?_
 rintro e W1 ⟨rfl, hr, hx⟩
 have hc1 : CrAt W1 C { c with out := l } B := hc.mod_o hr (hx.sub (by simp))
 refine ⟨_, rfl, hc1.c10, ?_⟩
 exact any_eq (l' := #[true, true, true, true, true, true, true, true, true, true, false, false, false, false, false]) (a' := ⟨(.pointer (some ⟨C, 0, none⟩) :: v1 :: .pointer (some ⟨C, 0, none⟩) :: .pointer (some ⟨C, 0, none⟩) :: .pointer (some ⟨C, 0, none⟩) :: .pointer (some ⟨C, 12, none⟩) :: .slice B.aT c.got.length B.cT :: .pointer (some ⟨C, 0, none⟩) :: .pointer (some ⟨C, 0, none⟩) :: .pointer (some ⟨C, 10, none⟩) :: .pointer (some ⟨B.O, 0, none⟩) :: .int .i64 z :: v12 :: v13 :: v14 :: v15 :: v16 :: v17 :: []).toArray, []⟩) (by kernel_rfl) (by kernel_rfl) (to0D C c B z l W0 W1 Q hQ hc1 hgl (hx0.trans (hx.sub (by simp [CrB.blocks]))) hend)
theorem to0A (C : Nat) (c : Cw) (B : CrB) (z : Int) (l : List Int) (W0 W : World) {v1 v6 v11 v12 v13 v14 v15 v16 v17 : Value} (Q : Exit → Act → World → Prop) (hQ : ∀ c a d v w, Q (.panic c) (Act.put a d v) w → Q (.panic c) a w) (hc : CrAt W C c B) (ho : c.out = z :: l) (hgl : c.got.length + 1 ≤ 1000) (hx0 : Exc (CrB.blocks C B) W0 W)
 (hend : ∀ (n2 n3 n4 n5 n6 n7 n8 n9 n10 n11 n12 n13 n14 n15 : Value) W', (∃ B', CrAt W' C { c with got := c.got ++ [z], out := l } B') → Exc (CrB.blocks C B) W0 W' → Q .normal ⟨(.pointer (some ⟨C, 0, none⟩) :: v1 :: n2 :: n3 :: n4 :: n5 :: n6 :: n7 :: n8 :: n9 :: n10 :: n11 :: n12 :: n13 :: n14 :: n15 :: v16 :: v17 :: []).toArray, []⟩ W') : wpAnyH Tryz.prog .any to0Ops Q (fun W => W.cell? ⟨C, 10, none⟩ = some (.pointer (some ⟨B.O, 0, none⟩))) 7 #[true, true, true, true, false, true, true, true, true, false, false, false, false, false, false] ⟨(.pointer (some ⟨C, 0, none⟩) :: v1 :: .pointer (some ⟨C, 0, none⟩) :: .pointer (some ⟨C, 0, none⟩) :: .pointer (some ⟨C, 0, none⟩) :: .pointer (some ⟨C, 12, none⟩) :: v6 :: .pointer (some ⟨C, 0, none⟩) :: .pointer (some ⟨C, 0, none⟩) :: .pointer (some ⟨C, 10, none⟩) :: .pointer (some ⟨B.O, 0, none⟩) :: v11 :: v12 :: v13 :: v14 :: v15 :: v16 :: v17 :: []).toArray, []⟩ W := by
 refine ready_two 4 9 (by kernel_rfl) ?_ ?_
 · refine opLd (ops := to0Ops) 4 (some 6) 23 (.tmp 5) ⟨C, 12, none⟩ (.slice B.aT c.got.length B.cT) (by kernel_rfl) (by kernel_rfl) (by kernel_rfl) (ld25 _ _ _ hc.c12) ?_
   refine And.intro hc.c10 ?_
   exact any_eq (l' := #[true, true, true, true, true, true, true, true, true, false, false, false, false, false, false]) (a' := ⟨(.pointer (some ⟨C, 0, none⟩) :: v1 :: .pointer (some ⟨C, 0, none⟩) :: .pointer (some ⟨C, 0, none⟩) :: .pointer (some ⟨C, 0, none⟩) :: .pointer (some ⟨C, 12, none⟩) :: .slice B.aT c.got.length B.cT :: .pointer (some ⟨C, 0, none⟩) :: .pointer (some ⟨C, 0, none⟩) :: .pointer (some ⟨C, 10, none⟩) :: .pointer (some ⟨B.O, 0, none⟩) :: v11 :: v12 :: v13 :: v14 :: v15 :: v16 :: v17 :: []).toArray, []⟩) (by kernel_rfl) (by kernel_rfl) (to0B C c B z l W0 W Q hQ hc ho hgl hx0 hend)
 · refine op_enter (some 11) 145 #[.pointer (some ⟨B.O, 0, none⟩)] (by kernel_rfl) (by kernel_rfl) (takeI_any B.O B.Op 1 l (c.shut.getD 2 0) z W (by have := hc.o; rw [ho] at this; exact this)) ?_
   rintro e W1 ⟨rfl, hr, hx⟩
   have hc1 : CrAt W1 C { c with out := l } B := hc.mod_o hr (hx.sub (by simp))
   refine ⟨_, rfl, hc1.c10, ?_⟩
   exact any_eq (l' := #[true, true, true, true, false, true, true, true, true, true, false, false, false, false, false]) (a' := ⟨(.pointer (some ⟨C, 0, none⟩) :: v1 :: .pointer (some ⟨C, 0, none⟩) :: .pointer (some ⟨C, 0, none⟩) :: .pointer (some ⟨C, 0, none⟩) :: .pointer (some ⟨C, 12, none⟩) :: v6 :: .pointer (some ⟨C, 0, none⟩) :: .pointer (some ⟨C, 0, none⟩) :: .pointer (some ⟨C, 10, none⟩) :: .pointer (some ⟨B.O, 0, none⟩) :: .int .i64 z :: v12 :: v13 :: v14 :: v15 :: v16 :: v17 :: []).toArray, []⟩) (by kernel_rfl) (by kernel_rfl) (to0C C c B z l W0 W1 Q hQ hc1 hgl (hx0.trans (hx.sub (by simp [CrB.blocks]))) hend)
theorem to0 (C : Nat) (c : Cw) (B : CrB) (z : Int) (l : List Int) (W0 : World) (hcr : CrAt W0 C c B) (ho : c.out = z :: l) (hgl : c.got.length + 1 ≤ 1000) {v1 v2 v3 v4 v5 v6 v7 v8 v9 v10 v11 v12 v13 v14 v15 v16 v17 : Value} (Q : Exit → Act → World → Prop) (hQ : ∀ c a d v w, Q (.panic c) (Act.put a d v) w → Q (.panic c) a w)
 (hend : ∀ (n2 n3 n4 n5 n6 n7 n8 n9 n10 n11 n12 n13 n14 n15 : Value) W', (∃ B', CrAt W' C { c with got := c.got ++ [z], out := l } B') → Exc (CrB.blocks C B) W0 W' → Q .normal ⟨(.pointer (some ⟨C, 0, none⟩) :: v1 :: n2 :: n3 :: n4 :: n5 :: n6 :: n7 :: n8 :: n9 :: n10 :: n11 :: n12 :: n13 :: n14 :: n15 :: v16 :: v17 :: []).toArray, []⟩ W') : (Code.region 0 to0Ops true).wp Tryz.prog Q ⟨(.pointer (some ⟨C, 0, none⟩) :: v1 :: v2 :: v3 :: v4 :: v5 :: v6 :: v7 :: v8 :: v9 :: v10 :: v11 :: v12 :: v13 :: v14 :: v15 :: v16 :: v17 :: []).toArray, []⟩ W0 := by
 have hs := to0_neat
 refine wp_region_held (S := fun W => W.cell? ⟨C, 10, none⟩ = some (.pointer (some ⟨B.O, 0, none⟩))) (by kernel_rfl) ?_
 refine any_eq (l' := #[false, false, false, false, false, false, false, false, false, false, false, false, false, false, false]) (by kernel_rfl) rfl ?_
 show wpAnyH Tryz.prog .any to0Ops Q (fun W => W.cell? ⟨C, 10, none⟩ = some (.pointer (some ⟨B.O, 0, none⟩))) 15 _ _ W0.drew
 have hc0 : CrAt W0.drew C c B := hcr.dn 1
 have hx0 : Exc (CrB.blocks C B) W0 W0.drew := Exc.of_below (below_drewN W0 1)
 generalize W0.drew = W at hc0 hx0 ⊢
 refine take_any 0 (some 2) (.pointer (some ⟨C, 0, none⟩)) hs hQ (by kernel_rfl) (fun w _ => by kernel_rfl) hc0.c10 ?_
 refine take_any 1 (some 3) (.pointer (some ⟨C, 0, none⟩)) hs hQ (by kernel_rfl) (fun w _ => by kernel_rfl) hc0.c10 ?_
 refine take_any 2 (some 4) (.pointer (some ⟨C, 0, none⟩)) hs hQ (by kernel_rfl) (fun w _ => by kernel_rfl) hc0.c10 ?_
 refine take_any 3 (some 5) (.pointer (some ⟨C, 12, none⟩)) hs hQ (by kernel_rfl) (fun w _ => by kernel_rfl) hc0.c10 ?_
 refine take_any 5 (some 7) (.pointer (some ⟨C, 0, none⟩)) hs hQ (by kernel_rfl) (fun w _ => by kernel_rfl) hc0.c10 ?_
 refine take_any 6 (some 8) (.pointer (some ⟨C, 0, none⟩)) hs hQ (by kernel_rfl) (fun w _ => by kernel_rfl) hc0.c10 ?_
 refine take_any 7 (some 9) (.pointer (some ⟨C, 10, none⟩)) hs hQ (by kernel_rfl) (fun w _ => by kernel_rfl) hc0.c10 ?_
 refine take_load 8 (some 10) 75 (.tmp 9) ⟨C, 10, none⟩ (.pointer (some ⟨B.O, 0, none⟩)) hs hQ (by kernel_rfl) (by kernel_rfl) (by kernel_rfl) (fun w h => ld67 w _ _ h) hc0.c10 ?_
 exact any_eq (l' := #[true, true, true, true, false, true, true, true, true, false, false, false, false, false, false]) (a' := ⟨(.pointer (some ⟨C, 0, none⟩) :: v1 :: .pointer (some ⟨C, 0, none⟩) :: .pointer (some ⟨C, 0, none⟩) :: .pointer (some ⟨C, 0, none⟩) :: .pointer (some ⟨C, 12, none⟩) :: v6 :: .pointer (some ⟨C, 0, none⟩) :: .pointer (some ⟨C, 0, none⟩) :: .pointer (some ⟨C, 10, none⟩) :: .pointer (some ⟨B.O, 0, none⟩) :: v11 :: v12 :: v13 :: v14 :: v15 :: v16 :: v17 :: []).toArray, []⟩) (by kernel_rfl) (by kernel_rfl) (to0A C c B z l W0 W Q hQ hc0 ho hgl hx0 hend)
theorem takeOut_do (C : Nat) (c : Cw) (B : CrB) (w : World) (h : CrAt w C c B) (hop : 0 ≤ c.ops ∧ c.ops ≤ 10000) (z : Int) (l : List Int) (ho : c.out = z :: l) (hgl : c.got.length + 1 ≤ 1000) : Calls Tryz.prog 139 #[.pointer (some ⟨C, 0, none⟩)] w fun e w' => DoEnd w w' e C { c with got := c.got ++ [z], out := l, ops := c.ops + 1 } B := by
 have HOP := xH hop; have HC0 := xH h; have HO := xH ho
 clear h ho hop
 go_enter Tryz.func139, Tryz.ntmps139
 go_upto_region 0 with fail
 refine wp_swap (c' := Code.region 0 to0Ops true) (by kernel_rfl) ?_
 refine wp_region_noPanic ?_
 refine to0 C c B z l w (xU HC0) (xU HO) hgl _ (fun _ _ _ _ _ h => h) ?_
 intro n2 n3 n4 n5 n6 n7 n8 n9 n10 n11 n12 n13 n14 n15 W1 hc1 hx1
 refine NoPanic.normal ?_
 obtain ⟨B1, hc1⟩ := hc1
 have HC1 := xH hc1; have HX1 := xH hx1
 have HUS := xH (use_any C _ B1 W1 hc1 (xU HOP).1 (xU HOP).2)
 have HC2 := xH (show CrAt (W1.setCell ⟨C, 15, none⟩ (.int .i64 (c.ops + 1))) C { c with got := c.got ++ [z], out := l, ops := c.ops + 1 } B1 from hc1.put 15 (.int .i64 (c.ops + 1)) (by omega) rfl rfl rfl rfl rfl rfl rfl rfl rfl rfl rfl)
 have HX2 := xH (hx1.trans (Exc.set (F := CrB.blocks C B) W1 C 15 (.int .i64 (c.ops + 1)) (by simp [CrB.blocks])))
 clear hc1 hx1 HC0
 go_wp2_with (go_at_call 80; refine (xU HUS).mono ?_; rintro e w1 ⟨rfl, rfl⟩)
 go_end0
 exact ⟨rfl, ⟨B1, xU HC2⟩, xU HX2⟩
theorem hands_put1 {W : World} {b : Nat} {hs : List Hd} (h : W.rowIs b 73 (hs.length * 2) (r18 (hs.map Hd.cs).flatten)) (i : Nat) (hi : i < hs.length) (s j : Int) (hj : hs[i].job = j) : (W.setCell ⟨b, i * 2, none⟩ (.int .i64 s)).rowIs b 73 ((hs.set i ⟨s, j⟩).length * 2) (r18 ((hs.set i ⟨s, j⟩).map Hd.cs).flatten) := by
 rw [List.length_set]
 refine (h.set (i * 2) (.int .i64 s)).congr fun q hq => ?_
 obtain ⟨m, hm⟩ : ∃ m, q = m * 2 ∨ q = m * 2 + 1 := ⟨q / 2, by omega⟩
 have hml : m < hs.length := by omega
 obtain ⟨a1, a2⟩ := hflat_at hs m hml
 obtain ⟨b1, b2⟩ := hflat_at (hs.set i ⟨s, j⟩) m (by rw [List.length_set]; exact hml)
 by_cases e : i = m
 · subst e
   rw [List.getElem_set_self] at b1 b2
   rcases hm with rfl | rfl
   · rw [b1, if_pos rfl]
   · rw [b2, if_neg (by omega), a2, hj]
 · rw [List.getElem_set_ne e] at b1 b2
   rcases hm with rfl | rfl
   · rw [b1, ← a1, if_neg (by omega)]
   · rw [b2, ← a2, if_neg (by omega)]
theorem wk_box {w : World} {C : Nat} {c : Cw} {B : CrB} (h : CrAt w C c B) (i : Nat) : CrAt (w.alloc (.cells #[.pointer (some ⟨C, 0, none⟩), .pointer (some ⟨B.H, i * 2, none⟩)] 129)) C c B ∧ (w.alloc (.cells #[.pointer (some ⟨C, 0, none⟩), .pointer (some ⟨B.H, i * 2, none⟩)] 129)).rowIs w.heap.size 129 2 (r18 [.pointer (some ⟨C, 0, none⟩), .pointer (some ⟨B.H, i * 2, none⟩)]) ∧ w.heap.size ∉ CrB.blocks C B ∧ Exc (CrB.blocks C B) w (w.alloc (.cells #[.pointer (some ⟨C, 0, none⟩), .pointer (some ⟨B.H, i * 2, none⟩)] 129)) :=
 ⟨h.below ((Below.refl _ _).alloc (Nat.le_refl _) _), World.rowIs_alloc w #[.pointer (some ⟨C, 0, none⟩), .pointer (some ⟨B.H, i * 2, none⟩)] 129 _ (fun j hj => by
  rcases (show j = 0 ∨ j = 1 by simp at hj; omega) with rfl | rfl <;> rfl), fun hm => by have := h.lt _ hm; omega, Exc.of_below ((Below.refl _ _).alloc (Nat.le_refl _) _)⟩
theorem end_do (C : Nat) (c : Cw) (B : CrB) (i : Nat) (w : World) (h : CrAt w C c B) (hi : i < c.hands.length) : Calls Tryz.prog 127 #[.agg #[.pointer (some ⟨C, 0, none⟩), .pointer (some ⟨B.H, i * 2, none⟩)]] w fun e w' => DoEnd w w' e C { c with hands := c.hands.set i ⟨3, 0⟩ } B := by
 have HI := xH hi
 obtain ⟨hb1, hb2, hb3, hb4⟩ := wk_box h i
 have HC0 := xH hb1; have HR0 := xH hb2; have HN := xH hb3; have HX0 := xH hb4
 clear h hb1 hb2 hb3 hb4 hi
 go_enter Tryz.func127, Tryz.ntmps127
 go_upto_region 1 with fail
 generalize w.alloc (.cells #[.pointer (some ⟨C, 0, none⟩), .pointer (some ⟨B.H, i * 2, none⟩)] 129) = W0 at HC0 HR0 HX0 ⊢
 generalize w.heap.size = g at HR0 HN ⊢
 have b0 : W0.cell? ⟨g, 0, none⟩ = some (.pointer (some ⟨C, 0, none⟩)) := (xU HR0).cell (i := 0) (by omega)
 have b1 : W0.cell? ⟨g, 1, none⟩ = some (.pointer (some ⟨B.H, i * 2, none⟩)) := (xU HR0).cell (i := 1) (by omega)
 obtain ⟨e0, e1⟩ := hands_at (xU HC0).hands i (xU HI)
 have f0 := (xU HC0).hands.frozen (i * 2); have f1 := (xU HC0).hands.frozen (i * 2 + 1)
 have HE := xH (show CrAt ((W0.setCell ⟨B.H, i * 2, none⟩ (.int .i64 3)).setCell ⟨B.H, i * 2 + 1, none⟩ (.int .i64 0)) C { c with hands := c.hands.set i ⟨3, 0⟩ } B from (xU HC0).mod_h (by rw [List.length_set]) (hands_put (xU HC0).hands i 3 0) ((Exc.set _ B.H _ _ (by simp)).trans (Exc.set _ B.H _ _ (by simp))))
 have HXE := xH ((xU HX0).trans ((Exc.set (F := CrB.blocks C B) W0 B.H (i * 2) (.int .i64 3) (by simp [CrB.blocks])).trans (Exc.set (F := CrB.blocks C B) _ B.H (i * 2 + 1) (.int .i64 0) (by simp [CrB.blocks]))))
 go_wp2_with fail
 go_end0
 exact ⟨rfl, ⟨B, xU HE⟩, xU HXE⟩
theorem doJob_do (C : Nat) (c : Cw) (B : CrB) (i : Nat) (w : World) (h : CrAt w C c B) (hi : i < c.hands.length) : Calls Tryz.prog 129 #[.agg #[.pointer (some ⟨C, 0, none⟩), .pointer (some ⟨B.H, i * 2, none⟩)]] w fun e w' => DoEnd w w' e C { c with hands := c.hands.set i ⟨2, (c.hands.getD i ⟨0, 0⟩).job⟩ } B := by
 have HI := xH hi
 obtain ⟨hb1, hb2, hb3, hb4⟩ := wk_box h i
 have HC0 := xH hb1; have HR0 := xH hb2; have HN := xH hb3; have HX0 := xH hb4
 clear h hb1 hb2 hb3 hb4 hi
 go_enter Tryz.func129, Tryz.ntmps129
 go_upto_region 1 with fail
 generalize w.alloc (.cells #[.pointer (some ⟨C, 0, none⟩), .pointer (some ⟨B.H, i * 2, none⟩)] 129) = W0 at HC0 HR0 HX0 ⊢
 generalize w.heap.size = g at HR0 HN ⊢
 have b0 : W0.cell? ⟨g, 0, none⟩ = some (.pointer (some ⟨C, 0, none⟩)) := (xU HR0).cell (i := 0) (by omega)
 have b1 : W0.cell? ⟨g, 1, none⟩ = some (.pointer (some ⟨B.H, i * 2, none⟩)) := (xU HR0).cell (i := 1) (by omega)
 obtain ⟨e0, e1⟩ := hands_at (xU HC0).hands i (xU HI)
 have f0 := (xU HC0).hands.frozen (i * 2)
 have hjb : c.hands[i]'(xU HI) = c.hands.getD i ⟨0, 0⟩ := by rw [List.getD_eq_getElem?_getD, List.getElem?_eq_getElem (xU HI)]; rfl
 have HE := xH (show CrAt (W0.setCell ⟨B.H, i * 2, none⟩ (.int .i64 2)) C { c with hands := c.hands.set i ⟨2, (c.hands.getD i ⟨0, 0⟩).job⟩ } B from (xU HC0).mod_h (by rw [List.length_set]) (hands_put1 (xU HC0).hands i (xU HI) 2 _ (by rw [← hjb])) (Exc.set _ B.H _ _ (by simp)))
 have HXE := xH ((xU HX0).trans (Exc.set (F := CrB.blocks C B) W0 B.H (i * 2) (.int .i64 2) (by simp [CrB.blocks])))
 clear hjb
 go_wp2_with fail
 go_end0
 exact ⟨rfl, ⟨B, xU HE⟩, xU HXE⟩
theorem seeEnd_do (C : Nat) (c : Cw) (B : CrB) (i : Nat) (w : World) (h : CrAt w C c B) (hi : i < c.hands.length) (hop : 0 ≤ c.ops ∧ c.ops ≤ 10000) : Calls Tryz.prog 128 #[.agg #[.pointer (some ⟨C, 0, none⟩), .pointer (some ⟨B.H, i * 2, none⟩)]] w fun e w' => DoEnd w w' e C { c with hands := c.hands.set i ⟨3, 0⟩, ops := c.ops + 1 } B := by
 have HOP := xH hop
 have HI := xH hi
 obtain ⟨hb1, hb2, hb3, hb4⟩ := wk_box h i
 have HC0 := xH hb1; have HR0 := xH hb2; have HN := xH hb3; have HX0 := xH hb4
 clear h hb1 hb2 hb3 hb4 hi
 go_enter Tryz.func128, Tryz.ntmps128
 go_upto_region 1 with fail
 generalize w.alloc (.cells #[.pointer (some ⟨C, 0, none⟩), .pointer (some ⟨B.H, i * 2, none⟩)] 129) = W0 at HC0 HR0 HX0 ⊢
 generalize w.heap.size = g at HR0 HN ⊢
 have b0 : W0.cell? ⟨g, 0, none⟩ = some (.pointer (some ⟨C, 0, none⟩)) := (xU HR0).cell (i := 0) (by omega)
 have b1 : W0.cell? ⟨g, 1, none⟩ = some (.pointer (some ⟨B.H, i * 2, none⟩)) := (xU HR0).cell (i := 1) (by omega)
 have HUS := xH (use_any C c B W0 (xU HC0) (xU HOP).1 (xU HOP).2)
 have HC1 := xH (show CrAt (W0.setCell ⟨C, 15, none⟩ (.int .i64 (c.ops + 1))) C { c with ops := c.ops + 1 } B from (xU HC0).put 15 (.int .i64 (c.ops + 1)) (by omega) rfl rfl rfl rfl rfl rfl rfl rfl rfl rfl rfl)
 have HX1 := xH ((xU HX0).trans (Exc.set (F := CrB.blocks C B) W0 C 15 (.int .i64 (c.ops + 1)) (by simp [CrB.blocks])))
 have HR1 := xH ((xU HR0).setOther (a := ⟨C, 15, none⟩) (by intro e; exact xU HN (by rw [e]; simp [CrB.blocks])) (.int .i64 (c.ops + 1)))
 go_upto_region 2 with (go_at_call 80; refine (xU HUS).mono ?_; rintro e w1 ⟨rfl, rfl⟩)
 generalize W0.setCell ⟨C, 15, none⟩ (.int .i64 (c.ops + 1)) = W1 at HC1 HX1 HR1 ⊢
 clear b0 b1 HUS HC0 HX0 HR0
 have b0 : W1.cell? ⟨g, 0, none⟩ = some (.pointer (some ⟨C, 0, none⟩)) := (xU HR1).cell (i := 0) (by omega)
 have b1 : W1.cell? ⟨g, 1, none⟩ = some (.pointer (some ⟨B.H, i * 2, none⟩)) := (xU HR1).cell (i := 1) (by omega)
 have HCL := xH (end_do C { c with ops := c.ops + 1 } B i W1 (xU HC1) (xU HI))
 go_wp2_with (go_at_call 127; refine (xU HCL).mono ?_; rintro e W2 ⟨rfl, hc2, hx2⟩; have HC2 := xH hc2; have HX2 := xH ((xU HX1).trans hx2); clear hc2 hx2)
 go_end0
 exact ⟨rfl, xU HC2, xU HX2⟩
theorem takeJob_do (C : Nat) (c : Cw) (B : CrB) (i : Nat) (w : World) (h : CrAt w C c B) (hi : i < c.hands.length) (hop : 0 ≤ c.ops ∧ c.ops ≤ 10000) (z : Int) (l : List Int) (hq : c.queue = z :: l) : Calls Tryz.prog 126 #[.agg #[.pointer (some ⟨C, 0, none⟩), .pointer (some ⟨B.H, i * 2, none⟩)]] w fun e w' => DoEnd w w' e C { c with queue := l, hands := c.hands.set i ⟨1, z⟩, ops := c.ops + 1 } B := by
 have HOP := xH hop
 have HQ := xH hq
 have HI := xH hi
 obtain ⟨hb1, hb2, hb3, hb4⟩ := wk_box h i
 have HC0 := xH hb1; have HR0 := xH hb2; have HN := xH hb3; have HX0 := xH hb4
 clear h hb1 hb2 hb3 hb4 hi
 go_enter Tryz.func126, Tryz.ntmps126
 go_upto_region 1 with fail
 generalize w.alloc (.cells #[.pointer (some ⟨C, 0, none⟩), .pointer (some ⟨B.H, i * 2, none⟩)] 129) = W0 at HC0 HR0 HX0 ⊢
 generalize w.heap.size = g at HR0 HN ⊢
 refine wp_swap (c' := Code.region 1 tj1Ops true) (by kernel_rfl) ?_
 refine wp_region_noPanic ?_
 refine tj1 C c B g i z l W0 (xU HC0) (xU HR0).drew (xU HN) (xU HI) (xU HQ) _ (fun _ _ _ _ _ h => h) ?_
 intro n2 n3 n4 n5 n6 n7 n8 n9 n10 n11 W1 hc1 hx1 hr1
 refine NoPanic.normal ?_
 have HC1 := xH hc1; have HX1 := xH ((xU HX0).trans hx1); have HR1 := xH hr1
 clear hc1 hx1 hr1 HC0 HX0 HR0
 have b0 : W1.cell? ⟨g, 0, none⟩ = some (.pointer (some ⟨C, 0, none⟩)) := (xU HR1).cell (i := 0) (by omega)
 have HUS := xH (use_any C { c with queue := l, hands := c.hands.set i ⟨1, z⟩ } B W1 (xU HC1) (xU HOP).1 (xU HOP).2)
 have HC2 := xH (show CrAt (W1.setCell ⟨C, 15, none⟩ (.int .i64 (c.ops + 1))) C { c with queue := l, hands := c.hands.set i ⟨1, z⟩, ops := c.ops + 1 } B from (xU HC1).put 15 (.int .i64 (c.ops + 1)) (by omega) rfl rfl rfl rfl rfl rfl rfl rfl rfl rfl rfl)
 have HX2 := xH ((xU HX1).trans (Exc.set (F := CrB.blocks C B) W1 C 15 (.int .i64 (c.ops + 1)) (by simp [CrB.blocks])))
 go_wp2_with (go_at_call 80; refine (xU HUS).mono ?_; rintro e w1 ⟨rfl, rfl⟩)
 go_end0
 exact ⟨rfl, ⟨B, xU HC2⟩, xU HX2⟩
theorem giveJob_do (C : Nat) (c : Cw) (B : CrB) (i : Nat) (w : World) (h : CrAt w C c B) (hi : i < c.hands.length) (hop : 0 ≤ c.ops ∧ c.ops ≤ 10000) (hq : c.results.length < c.hands.length) : Calls Tryz.prog 130 #[.agg #[.pointer (some ⟨C, 0, none⟩), .pointer (some ⟨B.H, i * 2, none⟩)]] w fun e w' => DoEnd w w' e C { c with results := c.results ++ [(c.hands.getD i ⟨0, 0⟩).job], hands := c.hands.set i ⟨0, 0⟩, ops := c.ops + 1 } B := by
 have HOP := xH hop
 have HQ := xH hq
 have HI := xH hi
 obtain ⟨hb1, hb2, hb3, hb4⟩ := wk_box h i
 have HC0 := xH hb1; have HR0 := xH hb2; have HN := xH hb3; have HX0 := xH hb4
 clear h hb1 hb2 hb3 hb4 hi
 go_enter Tryz.func130, Tryz.ntmps130
 go_upto_region 1 with fail
 generalize w.alloc (.cells #[.pointer (some ⟨C, 0, none⟩), .pointer (some ⟨B.H, i * 2, none⟩)] 129) = W0 at HC0 HR0 HX0 ⊢
 generalize w.heap.size = g at HR0 HN ⊢
 refine wp_swap (c' := Code.region 1 gj1Ops true) (by kernel_rfl) ?_
 refine wp_region_noPanic ?_
 refine gj1 C c B g i (c.hands.getD i ⟨0, 0⟩).job W0 (xU HC0) (xU HR0).drew (xU HN) (fun W x hx he => by
  have hxi : i < x.hands.length := by rw [he]; exact xU HI
  rw [(hands_at hx.hands i hxi).2]
  congr 3
  rw [List.getD_eq_getElem?_getD, ← he, List.getElem?_eq_getElem hxi]
  rfl) (xU HQ) _ (fun _ _ _ _ _ h => h) ?_
 intro n2 n3 n4 n5 n6 n7 n8 n9 n10 n11 n12 W1 hc1 hx1
 refine NoPanic.normal ?_
 have HR1 := xH ((xU HR0).of_block (hx1.block g (xU HR0).lt (xU HN)))
 have HC1 := xH hc1; have HX1 := xH ((xU HX0).trans hx1)
 clear hc1 hx1 HC0 HX0 HR0
 have b0 : W1.cell? ⟨g, 0, none⟩ = some (.pointer (some ⟨C, 0, none⟩)) := (xU HR1).cell (i := 0) (by omega)
 have HUS := xH (use_any C { c with results := c.results ++ [(c.hands.getD i ⟨0, 0⟩).job] } B W1 (xU HC1) (xU HOP).1 (xU HOP).2)
 have HC2 := xH (show CrAt (W1.setCell ⟨C, 15, none⟩ (.int .i64 (c.ops + 1))) C { c with results := c.results ++ [(c.hands.getD i ⟨0, 0⟩).job], ops := c.ops + 1 } B from (xU HC1).put 15 (.int .i64 (c.ops + 1)) (by omega) rfl rfl rfl rfl rfl rfl rfl rfl rfl rfl rfl)
 have HX2 := xH ((xU HX1).trans (Exc.set (F := CrB.blocks C B) W1 C 15 (.int .i64 (c.ops + 1)) (by simp [CrB.blocks])))
 have HR2 := xH ((xU HR1).setOther (a := ⟨C, 15, none⟩) (by intro e; exact xU HN (by rw [e]; simp [CrB.blocks])) (.int .i64 (c.ops + 1)))
 go_upto_region 3 with (go_at_call 80; refine (xU HUS).mono ?_; rintro e w1 ⟨rfl, rfl⟩)
 generalize W1.setCell ⟨C, 15, none⟩ (.int .i64 (c.ops + 1)) = W2 at HC2 HX2 HR2 ⊢
 clear b0 HUS HC1 HX1 HR1
 have b0 : W2.cell? ⟨g, 0, none⟩ = some (.pointer (some ⟨C, 0, none⟩)) := (xU HR2).cell (i := 0) (by omega)
 have b1 : W2.cell? ⟨g, 1, none⟩ = some (.pointer (some ⟨B.H, i * 2, none⟩)) := (xU HR2).cell (i := 1) (by omega)
 obtain ⟨e0, e1⟩ := hands_at (xU HC2).hands i (xU HI)
 have f0 := (xU HC2).hands.frozen (i * 2); have f1 := (xU HC2).hands.frozen (i * 2 + 1)
 have HE := xH (show CrAt ((W2.setCell ⟨B.H, i * 2, none⟩ (.int .i64 0)).setCell ⟨B.H, i * 2 + 1, none⟩ (.int .i64 0)) C { c with results := c.results ++ [(c.hands.getD i ⟨0, 0⟩).job], hands := c.hands.set i ⟨0, 0⟩, ops := c.ops + 1 } B from (xU HC2).mod_h (by rw [List.length_set]) (hands_put (xU HC2).hands i 0 0) ((Exc.set _ B.H _ _ (by simp)).trans (Exc.set _ B.H _ _ (by simp))))
 have HXE := xH ((xU HX2).trans ((Exc.set (F := CrB.blocks C B) W2 B.H (i * 2) (.int .i64 0) (by simp [CrB.blocks])).trans (Exc.set (F := CrB.blocks C B) _ B.H (i * 2 + 1) (.int .i64 0) (by simp [CrB.blocks]))))
 go_wp2_with fail
 go_end0
 exact ⟨rfl, ⟨B, xU HE⟩, xU HXE⟩
end Go.Proofs.YtibgjcejddpldaaGreat
