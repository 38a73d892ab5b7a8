/- A part. -/
import Derived.Test.YtibgjcejddpldaaGreatPart27
import Derived.Test.YtibgjcejddpldaaGreatPart28
namespace Go.Proofs.YtibgjcejddpldaaGreat
open Go Go.RowKit
set_option maxRecDepth 100000
set_option maxHeartbeats 3200000
theorem ldPhd (w : World) (ad : Addr) (v : Value) (h : w.cell? ad = some v) : (Instr.loadAt 127 (.pointer (some ad))).run Tryz.prog w = .ok v w := by
 simp [Instr.loadAt, Instr.sureAddr, loadVar, Tryz.isAgg127, h, go_sem]
theorem hands_put {W : World} {b : Nat} {hs : List Hd} (h : W.rowIs b 73 (hs.length * 2) (r18 (hs.map Hd.cs).flatten)) (i : Nat) (s j : Int) : ((W.setCell ⟨b, i * 2, none⟩ (.int .i64 s)).setCell ⟨b, i * 2 + 1, none⟩ (.int .i64 j)).rowIs b 73 ((hs.set i ⟨s, j⟩).length * 2) (r18 ((hs.set i ⟨s, j⟩).map Hd.cs).flatten) := by
 rw [List.length_set]
 refine ((h.set (i * 2) (.int .i64 s)).set (i * 2 + 1) (.int .i64 j)).congr fun q hq => ?_
 obtain ⟨m, hm⟩ : ∃ m, q = m * 2 ∨ q = m * 2 + 1 := ⟨q / 2, by omega⟩
 have hml : m < hs.length := by omega
 obtain ⟨a1, a2⟩ := hflat_at hs m hml
 obtain ⟨b1, b2⟩ := hflat_at (hs.set i ⟨s, j⟩) m (by rw [List.length_set]; exact hml)
 by_cases e : i = m
 · subst e
   rw [List.getElem_set_self] at b1 b2
   rcases hm with rfl | rfl
   · rw [b1, if_neg (by omega), if_pos rfl]
   · rw [b2, if_pos rfl]
 · rw [List.getElem_set_ne e] at b1 b2
   rcases hm with rfl | rfl
   · rw [b1, ← a1, if_neg (by omega), if_neg (by omega)]
   · rw [b2, ← a2, if_neg (by omega), if_neg (by omega)]
noncomputable def sr0Ops : Array Oper := fops Tryz.f124 0
theorem sr0_neat : Region.noSelect sr0Ops = true ∧ neat sr0Ops = true := ⟨by kernel_rfl, by kernel_rfl⟩
theorem sr0 (C : Nat) (c : Cw) (B : CrB) (W0 : World) (hcr : CrAt W0 C c B) (hq : c.queue.length < c.hands.length) (hw : IntKind.i64.wrap (c.next - 1) = c.next - 1) {v1 v2 v3 v4 v5 v6 v7 v8 v9 v10 v11 v12 v13 v14 v15 v16 : Value} (Q : Exit → Act → World → Prop) (hQ : ∀ c a d v w, Q (.panic c) (Act.put a d v) w → Q (.panic c) a w)
 (hend : ∀ (n2 n3 n4 n5 n6 n7 n8 n9 n10 n11 : Value) W', CrAt W' C { c with queue := c.queue ++ [c.next - 1] } B → Exc (CrB.blocks C B) W0 W' → Q .normal ⟨(.pointer (some ⟨C, 0, none⟩) :: v1 :: n2 :: n3 :: n4 :: n5 :: n6 :: n7 :: n8 :: n9 :: n10 :: n11 :: v12 :: v13 :: v14 :: v15 :: v16 :: []).toArray, []⟩ W') : (Code.region 0 sr0Ops true).wp Tryz.prog Q ⟨(.pointer (some ⟨C, 0, none⟩) :: v1 :: v2 :: v3 :: v4 :: v5 :: v6 :: v7 :: v8 :: v9 :: v10 :: v11 :: v12 :: v13 :: v14 :: v15 :: v16 :: []).toArray, []⟩ W0 := by
 have hs := sr0_neat
 refine wp_region_held (S := fun W => ∃ x : Cw, CrAt W C x B ∧ x.next = c.next) (by kernel_rfl) ?_
 refine any_eq (l' := #[false, false, false, false, false, false, false, false, false, false]) (by kernel_rfl) rfl ?_
 show wpAnyH Tryz.prog .any sr0Ops Q (fun W => ∃ x : Cw, CrAt W C x B ∧ x.next = c.next) 10 _ _ W0.drew
 have hc0 : CrAt W0.drew C c B := hcr.dn 1
 have hx0 : Exc (CrB.blocks C B) W0 W0.drew := Exc.of_below (below_drewN W0 1)
 generalize W0.drew = W at hc0 hx0 ⊢
 have hS : ∃ x : Cw, CrAt W C x B ∧ x.next = c.next := ⟨c, hc0, rfl⟩
 refine take_any 0 (some 2) (.pointer (some ⟨C, 0, none⟩)) hs hQ (by kernel_rfl) (fun w _ => by kernel_rfl) hS ?_
 refine take_any 4 (some 6) (.pointer (some ⟨C, 0, none⟩)) hs hQ (by kernel_rfl) (fun w _ => by kernel_rfl) hS ?_
 refine take_any 1 (some 3) (.pointer (some ⟨C, 0, none⟩)) hs hQ (by kernel_rfl) (fun w _ => by kernel_rfl) hS ?_
 refine take_any 5 (some 7) (.pointer (some ⟨C, 0, none⟩)) hs hQ (by kernel_rfl) (fun w _ => by kernel_rfl) hS ?_
 refine take_any 2 (some 4) (.pointer (some ⟨C, 3, none⟩)) hs hQ (by kernel_rfl) (fun w _ => by kernel_rfl) hS ?_
 refine take_any 6 (some 8) (.pointer (some ⟨C, 1, none⟩)) hs hQ (by kernel_rfl) (fun w _ => by kernel_rfl) hS ?_
 refine take_load 3 (some 5) 75 (.tmp 4) ⟨C, 3, none⟩ (.pointer (some ⟨B.Q, 0, none⟩)) hs hQ (by kernel_rfl) (by kernel_rfl) (by kernel_rfl) (fun w h => by obtain ⟨x, h1, -⟩ := h; exact ld67 w _ _ h1.c3) hS ?_
 refine take_load 7 (some 9) 3 (.tmp 8) ⟨C, 1, none⟩ (.int .i64 c.next) hs hQ (by kernel_rfl) (by kernel_rfl) (by kernel_rfl) (fun w h => by obtain ⟨x, h1, h2⟩ := h; exact h2 ▸ ld3 w _ _ h1.c1) hS ?_
 refine take_any 8 (some 10) (.int .i64 (IntKind.i64.wrap ( c.next - 1))) hs hQ (by kernel_rfl) (fun w _ => by kernel_rfl) hS ?_
 refine any_eq (l' := #[true, true, true, true, true, true, true, true, true, false]) (a' := ⟨(.pointer (some ⟨C, 0, none⟩) :: v1 :: .pointer (some ⟨C, 0, none⟩) :: .pointer (some ⟨C, 0, none⟩) :: .pointer (some ⟨C, 3, none⟩) :: .pointer (some ⟨B.Q, 0, none⟩) :: .pointer (some ⟨C, 0, none⟩) :: .pointer (some ⟨C, 0, none⟩) :: .pointer (some ⟨C, 1, none⟩) :: .int .i64 c.next :: .int .i64 (IntKind.i64.wrap ( c.next - 1)) :: v11 :: v12 :: v13 :: v14 :: v15 :: v16 :: []).toArray, []⟩) (by kernel_rfl) (by kernel_rfl) ?_
 refine ready_one 9 (by kernel_rfl) ?_
 refine op_enter (some 11) 101 #[.pointer (some ⟨B.Q, 0, none⟩), .int .i64 (IntKind.i64.wrap ( c.next - 1))] (by kernel_rfl) (by kernel_rfl) (putI_any B.Q B.Qp c.hands.length c.queue (c.shut.getD 0 0) (IntKind.i64.wrap (c.next - 1)) W hc0.q hq) ?_
 rintro e W1 ⟨rfl, hr, hx⟩
 rw [hw] at hr
 have hc1 : CrAt W1 C { c with queue := c.queue ++ [c.next - 1] } B := hc0.mod_q hr hx
 refine ⟨_, rfl, ⟨_, hc1, rfl⟩, ?_⟩
 refine any_eq (l' := #[true, true, true, true, true, true, true, true, true, true]) (a' := ⟨(.pointer (some ⟨C, 0, none⟩) :: v1 :: .pointer (some ⟨C, 0, none⟩) :: .pointer (some ⟨C, 0, none⟩) :: .pointer (some ⟨C, 3, none⟩) :: .pointer (some ⟨B.Q, 0, none⟩) :: .pointer (some ⟨C, 0, none⟩) :: .pointer (some ⟨C, 0, none⟩) :: .pointer (some ⟨C, 1, none⟩) :: .int .i64 c.next :: .int .i64 (IntKind.i64.wrap ( c.next - 1)) :: .tuple #[] :: v12 :: v13 :: v14 :: v15 :: v16 :: []).toArray, []⟩) (by kernel_rfl) (by kernel_rfl) ?_
 exact wpAnyH_done (by kernel_rfl) (hend _ _ _ _ _ _ _ _ _ _ _ hc1 (hx0.trans (hx.sub (by simp [CrB.blocks])))) _
noncomputable def gd1Ops : Array Oper := fops Tryz.f136 1
theorem gd1_neat : Region.noSelect gd1Ops = true ∧ neat gd1Ops = true := ⟨by kernel_rfl, by kernel_rfl⟩
theorem gd1 (C : Nat) (c : Cw) (B : CrB) (W0 : World) (hcr : CrAt W0 C c B) (hq : c.out.length < 1) {v1 v2 v3 v4 v5 v6 v7 v8 v9 v10 v11 v12 v13 v14 v15 v16 v17 v18 v19 v20 v21 v22 v23 v24 v25 v26 v27 v28 v29 : Value} (Q : Exit → Act → World → Prop) (hQ : ∀ c a d v w, Q (.panic c) (Act.put a d v) w → Q (.panic c) a w)
 (hend : ∀ (n9 n10 n11 n12 n13 n14 n15 n16 n17 : Value) W', CrAt W' C { c with out := c.out ++ [c.due] } B → Exc (CrB.blocks C B) W0 W' → Q .normal ⟨(.pointer (some ⟨C, 0, none⟩) :: v1 :: v2 :: v3 :: v4 :: v5 :: v6 :: v7 :: v8 :: n9 :: n10 :: n11 :: n12 :: n13 :: n14 :: n15 :: n16 :: n17 :: v18 :: v19 :: v20 :: v21 :: v22 :: v23 :: v24 :: v25 :: v26 :: v27 :: v28 :: v29 :: []).toArray, []⟩ W') : (Code.region 1 gd1Ops true).wp Tryz.prog Q ⟨(.pointer (some ⟨C, 0, none⟩) :: v1 :: v2 :: v3 :: v4 :: v5 :: v6 :: v7 :: v8 :: v9 :: v10 :: v11 :: v12 :: v13 :: v14 :: v15 :: v16 :: v17 :: v18 :: v19 :: v20 :: v21 :: v22 :: v23 :: v24 :: v25 :: v26 :: v27 :: v28 :: v29 :: []).toArray, []⟩ W0 := by
 have hs := gd1_neat
 refine wp_region_held (S := fun W => ∃ x : Cw, CrAt W C x B ∧ x.due = c.due) (by kernel_rfl) ?_
 refine any_eq (l' := #[false, false, false, false, false, false, false, false, false]) (by kernel_rfl) rfl ?_
 show wpAnyH Tryz.prog .any gd1Ops Q (fun W => ∃ x : Cw, CrAt W C x B ∧ x.due = c.due) 9 _ _ W0.drew
 have hc0 : CrAt W0.drew C c B := hcr.dn 1
 have hx0 : Exc (CrB.blocks C B) W0 W0.drew := Exc.of_below (below_drewN W0 1)
 generalize W0.drew = W at hc0 hx0 ⊢
 have hS : ∃ x : Cw, CrAt W C x B ∧ x.due = c.due := ⟨c, hc0, rfl⟩
 refine take_any 0 (some 9) (.pointer (some ⟨C, 0, none⟩)) hs hQ (by kernel_rfl) (fun w _ => by kernel_rfl) hS ?_
 refine take_any 4 (some 13) (.pointer (some ⟨C, 0, none⟩)) hs hQ (by kernel_rfl) (fun w _ => by kernel_rfl) hS ?_
 refine take_any 1 (some 10) (.pointer (some ⟨C, 0, none⟩)) hs hQ (by kernel_rfl) (fun w _ => by kernel_rfl) hS ?_
 refine take_any 5 (some 14) (.pointer (some ⟨C, 0, none⟩)) hs hQ (by kernel_rfl) (fun w _ => by kernel_rfl) hS ?_
 refine take_any 2 (some 11) (.pointer (some ⟨C, 10, none⟩)) hs hQ (by kernel_rfl) (fun w _ => by kernel_rfl) hS ?_
 refine take_any 6 (some 15) (.pointer (some ⟨C, 9, none⟩)) hs hQ (by kernel_rfl) (fun w _ => by kernel_rfl) hS ?_
 refine take_load 3 (some 12) 75 (.tmp 11) ⟨C, 10, none⟩ (.pointer (some ⟨B.O, 0, none⟩)) hs hQ (by kernel_rfl) (by kernel_rfl) (by kernel_rfl) (fun w h => by obtain ⟨x, h1, -⟩ := h; exact ld67 w _ _ h1.c10) hS ?_
 refine take_load 7 (some 16) 3 (.tmp 15) ⟨C, 9, none⟩ (.int .i64 c.due) hs hQ (by kernel_rfl) (by kernel_rfl) (by kernel_rfl) (fun w h => by obtain ⟨x, h1, h2⟩ := h; exact h2 ▸ ld3 w _ _ h1.c9) hS ?_
 refine any_eq (l' := #[true, true, true, true, true, true, true, true, false]) (a' := ⟨(.pointer (some ⟨C, 0, none⟩) :: v1 :: v2 :: v3 :: v4 :: v5 :: v6 :: v7 :: v8 :: .pointer (some ⟨C, 0, none⟩) :: .pointer (some ⟨C, 0, none⟩) :: .pointer (some ⟨C, 10, none⟩) :: .pointer (some ⟨B.O, 0, none⟩) :: .pointer (some ⟨C, 0, none⟩) :: .pointer (some ⟨C, 0, none⟩) :: .pointer (some ⟨C, 9, none⟩) :: .int .i64 c.due :: v17 :: v18 :: v19 :: v20 :: v21 :: v22 :: v23 :: v24 :: v25 :: v26 :: v27 :: v28 :: v29 :: []).toArray, []⟩) (by kernel_rfl) (by kernel_rfl) ?_
 refine ready_one 8 (by kernel_rfl) ?_
 refine op_enter (some 17) 101 #[.pointer (some ⟨B.O, 0, none⟩), .int .i64 c.due] (by kernel_rfl) (by kernel_rfl) (putI_any B.O B.Op 1 c.out (c.shut.getD 2 0) c.due W hc0.o hq) ?_
 rintro e W1 ⟨rfl, hr, hx⟩
 have hc1 : CrAt W1 C { c with out := c.out ++ [c.due] } B := hc0.mod_o hr hx
 refine ⟨_, rfl, ⟨_, hc1, rfl⟩, ?_⟩
 refine any_eq (l' := #[true, true, true, true, true, true, true, true, true]) (a' := ⟨(.pointer (some ⟨C, 0, none⟩) :: v1 :: v2 :: v3 :: v4 :: v5 :: v6 :: v7 :: v8 :: .pointer (some ⟨C, 0, none⟩) :: .pointer (some ⟨C, 0, none⟩) :: .pointer (some ⟨C, 10, none⟩) :: .pointer (some ⟨B.O, 0, none⟩) :: .pointer (some ⟨C, 0, none⟩) :: .pointer (some ⟨C, 0, none⟩) :: .pointer (some ⟨C, 9, none⟩) :: .int .i64 c.due :: .tuple #[] :: v18 :: v19 :: v20 :: v21 :: v22 :: v23 :: v24 :: v25 :: v26 :: v27 :: v28 :: v29 :: []).toArray, []⟩) (by kernel_rfl) (by kernel_rfl) ?_
 exact wpAnyH_done (by kernel_rfl) (hend _ _ _ _ _ _ _ _ _ _ hc1 (hx0.trans (hx.sub (by simp [CrB.blocks])))) _
noncomputable def gj1Ops : Array Oper := fops Tryz.f130 1
theorem gj1_neat : Region.noSelect gj1Ops = true ∧ neat gj1Ops = true := ⟨by kernel_rfl, by kernel_rfl⟩
theorem gj1 (C : Nat) (c : Cw) (B : CrB) (g i : Nat) (jb : Int) (W0 : World) (hcr : CrAt W0 C c B) (hbx : W0.drew.rowIs g 129 2 (r18 [.pointer (some ⟨C, 0, none⟩), .pointer (some ⟨B.H, i * 2, none⟩)])) (hg : g ∉ CrB.blocks C B) (hjb : ∀ (W : World) (x : Cw), CrAt W C x B → x.hands = c.hands → W.cell? ⟨B.H, i * 2 + 1, none⟩ = some (.int .i64 jb)) (hq : c.results.length < c.hands.length) {v0 v2 v3 v4 v5 v6 v7 v8 v9 v10 v11 v12 v13 v14 v15 v16 v17 v18 v19 : Value} (Q : Exit → Act → World → Prop) (hQ : ∀ c a d v w, Q (.panic c) (Act.put a d v) w → Q (.panic c) a w)
 (hend : ∀ (n2 n3 n4 n5 n6 n7 n8 n9 n10 n11 n12 : Value) W', CrAt W' C { c with results := c.results ++ [jb] } B → Exc (CrB.blocks C B) W0 W' → Q .normal ⟨(v0 :: .pointer (some ⟨g, 0, none⟩) :: n2 :: n3 :: n4 :: n5 :: n6 :: n7 :: n8 :: n9 :: n10 :: n11 :: n12 :: v13 :: v14 :: v15 :: v16 :: v17 :: v18 :: v19 :: []).toArray, []⟩ W') : (Code.region 1 gj1Ops true).wp Tryz.prog Q ⟨(v0 :: .pointer (some ⟨g, 0, none⟩) :: v2 :: v3 :: v4 :: v5 :: v6 :: v7 :: v8 :: v9 :: v10 :: v11 :: v12 :: v13 :: v14 :: v15 :: v16 :: v17 :: v18 :: v19 :: []).toArray, []⟩ W0 := by
 have hs := gj1_neat
 refine wp_region_held (S := fun W => (∃ x : Cw, CrAt W C x B ∧ x.hands = c.hands) ∧ W.rowIs g 129 2 (r18 [.pointer (some ⟨C, 0, none⟩), .pointer (some ⟨B.H, i * 2, none⟩)])) (by kernel_rfl) ?_
 refine any_eq (l' := #[false, false, false, false, false, false, false, false, false, false, false]) (by kernel_rfl) rfl ?_
 show wpAnyH Tryz.prog .any gj1Ops Q (fun W => (∃ x : Cw, CrAt W C x B ∧ x.hands = c.hands) ∧ W.rowIs g 129 2 (r18 [.pointer (some ⟨C, 0, none⟩), .pointer (some ⟨B.H, i * 2, none⟩)])) 11 _ _ W0.drew
 have hc0 : CrAt W0.drew C c B := hcr.dn 1
 have hx0 : Exc (CrB.blocks C B) W0 W0.drew := Exc.of_below (below_drewN W0 1)
 generalize W0.drew = W at hc0 hx0 hbx ⊢
 have hS : (∃ x : Cw, CrAt W C x B ∧ x.hands = c.hands) ∧ W.rowIs g 129 2 (r18 [.pointer (some ⟨C, 0, none⟩), .pointer (some ⟨B.H, i * 2, none⟩)]) := ⟨⟨c, hc0, rfl⟩, hbx⟩
 refine take_any 0 (some 2) (.pointer (some ⟨g, 0, none⟩)) hs hQ (by kernel_rfl) (fun w _ => by kernel_rfl) hS ?_
 refine take_any 5 (some 7) (.pointer (some ⟨g, 1, none⟩)) hs hQ (by kernel_rfl) (fun w _ => by kernel_rfl) hS ?_
 refine take_load 1 (some 3) 67 (.tmp 2) ⟨g, 0, none⟩ (.pointer (some ⟨C, 0, none⟩)) hs hQ (by kernel_rfl) (by kernel_rfl) (by kernel_rfl) (fun w h => ldPcr w _ _ (h.2.cell (i := 0) (by omega))) hS ?_
 refine take_load 6 (some 8) 127 (.tmp 7) ⟨g, 1, none⟩ (.pointer (some ⟨B.H, i * 2, none⟩)) hs hQ (by kernel_rfl) (by kernel_rfl) (by kernel_rfl) (fun w h => ldPhd w _ _ (h.2.cell (i := 1) (by omega))) hS ?_
 refine take_any 2 (some 4) (.pointer (some ⟨C, 0, none⟩)) hs hQ (by kernel_rfl) (fun w _ => by kernel_rfl) hS ?_
 refine take_any 7 (some 9) (.pointer (some ⟨B.H, i * 2, none⟩)) hs hQ (by kernel_rfl) (fun w _ => by kernel_rfl) hS ?_
 refine take_any 3 (some 5) (.pointer (some ⟨C, 6, none⟩)) hs hQ (by kernel_rfl) (fun w _ => by kernel_rfl) hS ?_
 refine take_any 8 (some 10) (.pointer (some ⟨B.H, i * 2 + 1, none⟩)) hs hQ (by kernel_rfl) (fun w _ => by kernel_rfl) hS ?_
 refine take_load 4 (some 6) 75 (.tmp 5) ⟨C, 6, none⟩ (.pointer (some ⟨B.R, 0, none⟩)) hs hQ (by kernel_rfl) (by kernel_rfl) (by kernel_rfl) (fun w h => by obtain ⟨⟨x, h1, -⟩, -⟩ := h; exact ld67 w _ _ h1.c6) hS ?_
 refine take_load 9 (some 11) 3 (.tmp 10) ⟨B.H, i * 2 + 1, none⟩ (.int .i64 jb) hs hQ (by kernel_rfl) (by kernel_rfl) (by kernel_rfl) (fun w h => by obtain ⟨⟨x, h1, h2⟩, -⟩ := h; exact ld3 w _ _ (hjb w x h1 h2)) hS ?_
 refine any_eq (l' := #[true, true, true, true, true, true, true, true, true, true, false]) (a' := ⟨(v0 :: .pointer (some ⟨g, 0, none⟩) :: .pointer (some ⟨g, 0, none⟩) :: .pointer (some ⟨C, 0, none⟩) :: .pointer (some ⟨C, 0, none⟩) :: .pointer (some ⟨C, 6, none⟩) :: .pointer (some ⟨B.R, 0, none⟩) :: .pointer (some ⟨g, 1, none⟩) :: .pointer (some ⟨B.H, i * 2, none⟩) :: .pointer (some ⟨B.H, i * 2, none⟩) :: .pointer (some ⟨B.H, i * 2 + 1, none⟩) :: .int .i64 jb :: v12 :: v13 :: v14 :: v15 :: v16 :: v17 :: v18 :: v19 :: []).toArray, []⟩) (by kernel_rfl) (by kernel_rfl) ?_
 refine ready_one 10 (by kernel_rfl) ?_
 refine op_enter (some 12) 101 #[.pointer (some ⟨B.R, 0, none⟩), .int .i64 jb] (by kernel_rfl) (by kernel_rfl) (putI_any B.R B.Rp c.hands.length c.results (c.shut.getD 1 0) jb W hc0.r hq) ?_
 rintro e W1 ⟨rfl, hr, hx⟩
 have hc1 : CrAt W1 C { c with results := c.results ++ [jb] } B := hc0.mod_r hr hx
 refine ⟨_, rfl, ⟨⟨_, hc1, rfl⟩, hbx.of_block (hx.block g hbx.lt (fun hm => hg (by simp only [List.mem_cons, List.not_mem_nil, or_false] at hm; rcases hm with rfl | rfl <;> simp [CrB.blocks])))⟩, ?_⟩
 refine any_eq (l' := #[true, true, true, true, true, true, true, true, true, true, true]) (a' := ⟨(v0 :: .pointer (some ⟨g, 0, none⟩) :: .pointer (some ⟨g, 0, none⟩) :: .pointer (some ⟨C, 0, none⟩) :: .pointer (some ⟨C, 0, none⟩) :: .pointer (some ⟨C, 6, none⟩) :: .pointer (some ⟨B.R, 0, none⟩) :: .pointer (some ⟨g, 1, none⟩) :: .pointer (some ⟨B.H, i * 2, none⟩) :: .pointer (some ⟨B.H, i * 2, none⟩) :: .pointer (some ⟨B.H, i * 2 + 1, none⟩) :: .int .i64 jb :: .tuple #[] :: v13 :: v14 :: v15 :: v16 :: v17 :: v18 :: v19 :: []).toArray, []⟩) (by kernel_rfl) (by kernel_rfl) ?_
 exact wpAnyH_done (by kernel_rfl) (hend _ _ _ _ _ _ _ _ _ _ _ _ hc1 (hx0.trans (hx.sub (by simp [CrB.blocks])))) _
noncomputable def tj1Ops : Array Oper := fops Tryz.f126 1
theorem tj1_neat : Region.noSelect tj1Ops = true ∧ neat tj1Ops = true := ⟨by kernel_rfl, by kernel_rfl⟩
theorem tj1 (C : Nat) (c : Cw) (B : CrB) (g i : Nat) (z : Int) (l : List Int) (W0 : World) (hcr : CrAt W0 C c B) (hbx : W0.drew.rowIs g 129 2 (r18 [.pointer (some ⟨C, 0, none⟩), .pointer (some ⟨B.H, i * 2, none⟩)])) (hg : g ∉ CrB.blocks C B) (hi : i < c.hands.length) (hq : c.queue = z :: l) {v0 v2 v3 v4 v5 v6 v7 v8 v9 v10 v11 v12 v13 v14 : Value} (Q : Exit → Act → World → Prop) (hQ : ∀ c a d v w, Q (.panic c) (Act.put a d v) w → Q (.panic c) a w)
 (hend : ∀ (n2 n3 n4 n5 n6 n7 n8 n9 n10 n11 : Value) W', CrAt W' C { c with queue := l, hands := c.hands.set i ⟨1, z⟩ } B → Exc (CrB.blocks C B) W0 W' → W'.rowIs g 129 2 (r18 [.pointer (some ⟨C, 0, none⟩), .pointer (some ⟨B.H, i * 2, none⟩)]) → Q .normal ⟨(v0 :: .pointer (some ⟨g, 0, none⟩) :: n2 :: n3 :: n4 :: n5 :: n6 :: n7 :: n8 :: n9 :: n10 :: n11 :: v12 :: v13 :: v14 :: []).toArray, []⟩ W') : (Code.region 1 tj1Ops true).wp Tryz.prog Q ⟨(v0 :: .pointer (some ⟨g, 0, none⟩) :: v2 :: v3 :: v4 :: v5 :: v6 :: v7 :: v8 :: v9 :: v10 :: v11 :: v12 :: v13 :: v14 :: []).toArray, []⟩ W0 := by
 have hs := tj1_neat
 refine wp_region_held (S := fun W => (∃ x : Cw, CrAt W C x B) ∧ W.rowIs g 129 2 (r18 [.pointer (some ⟨C, 0, none⟩), .pointer (some ⟨B.H, i * 2, none⟩)])) (by kernel_rfl) ?_
 refine any_eq (l' := #[false, false, false, false, false, false, false, false, false, false, false]) (by kernel_rfl) rfl ?_
 show wpAnyH Tryz.prog .any tj1Ops Q (fun W => (∃ x : Cw, CrAt W C x B) ∧ W.rowIs g 129 2 (r18 [.pointer (some ⟨C, 0, none⟩), .pointer (some ⟨B.H, i * 2, none⟩)])) 11 _ _ W0.drew
 have hc0 : CrAt W0.drew C c B := hcr.dn 1
 have hx0 : Exc (CrB.blocks C B) W0 W0.drew := Exc.of_below (below_drewN W0 1)
 generalize W0.drew = W at hc0 hx0 hbx ⊢
 have hS : (∃ x : Cw, CrAt W C x B) ∧ W.rowIs g 129 2 (r18 [.pointer (some ⟨C, 0, none⟩), .pointer (some ⟨B.H, i * 2, none⟩)]) := ⟨⟨c, hc0⟩, hbx⟩
 refine take_any 0 (some 2) (.pointer (some ⟨g, 1, none⟩)) hs hQ (by kernel_rfl) (fun w _ => by kernel_rfl) hS ?_
 refine take_any 2 (some 4) (.pointer (some ⟨g, 0, none⟩)) hs hQ (by kernel_rfl) (fun w _ => by kernel_rfl) hS ?_
 refine take_load 1 (some 3) 127 (.tmp 2) ⟨g, 1, none⟩ (.pointer (some ⟨B.H, i * 2, none⟩)) hs hQ (by kernel_rfl) (by kernel_rfl) (by kernel_rfl) (fun w h => ldPhd w _ _ (h.2.cell (i := 1) (by omega))) hS ?_
 refine take_load 3 (some 5) 67 (.tmp 4) ⟨g, 0, none⟩ (.pointer (some ⟨C, 0, none⟩)) hs hQ (by kernel_rfl) (by kernel_rfl) (by kernel_rfl) (fun w h => ldPcr w _ _ (h.2.cell (i := 0) (by omega))) hS ?_
 refine take_any 4 (some 6) (.pointer (some ⟨C, 0, none⟩)) hs hQ (by kernel_rfl) (fun w _ => by kernel_rfl) hS ?_
 refine take_any 5 (some 7) (.pointer (some ⟨C, 3, none⟩)) hs hQ (by kernel_rfl) (fun w _ => by kernel_rfl) hS ?_
 refine take_load 6 (some 8) 75 (.tmp 7) ⟨C, 3, none⟩ (.pointer (some ⟨B.Q, 0, none⟩)) hs hQ (by kernel_rfl) (by kernel_rfl) (by kernel_rfl) (fun w h => by obtain ⟨⟨x, h1⟩, -⟩ := h; exact ld67 w _ _ h1.c3) hS ?_
 refine any_eq (l' := #[true, true, true, true, true, true, true, false, false, false, false]) (a' := ⟨(v0 :: .pointer (some ⟨g, 0, none⟩) :: .pointer (some ⟨g, 1, none⟩) :: .pointer (some ⟨B.H, i * 2, none⟩) :: .pointer (some ⟨g, 0, none⟩) :: .pointer (some ⟨C, 0, none⟩) :: .pointer (some ⟨C, 0, none⟩) :: .pointer (some ⟨C, 3, none⟩) :: .pointer (some ⟨B.Q, 0, none⟩) :: v9 :: v10 :: v11 :: v12 :: v13 :: v14 :: []).toArray, []⟩) (by kernel_rfl) (by kernel_rfl) ?_
 refine ready_one 7 (by kernel_rfl) ?_
 refine op_enter (some 9) 145 #[.pointer (some ⟨B.Q, 0, none⟩)] (by kernel_rfl) (by kernel_rfl) (takeI_any B.Q B.Qp c.hands.length l (c.shut.getD 0 0) z W (by have := hc0.q; rw [hq] at this; exact this)) ?_
 rintro e W1 ⟨rfl, hr, hx⟩
 have hc1 : CrAt W1 C { c with queue := l } B := hc0.mod_q hr (hx.sub (by simp))
 have hbx1 : W1.rowIs g 129 2 (r18 [.pointer (some ⟨C, 0, none⟩), .pointer (some ⟨B.H, i * 2, none⟩)]) := hbx.of_block (hx.block g hbx.lt (fun hm => hg (by simp only [List.mem_cons, List.not_mem_nil, or_false] at hm; subst hm; simp [CrB.blocks])))
 have hS1 : (∃ x : Cw, CrAt W1 C x B) ∧ W1.rowIs g 129 2 (r18 [.pointer (some ⟨C, 0, none⟩), .pointer (some ⟨B.H, i * 2, none⟩)]) := ⟨⟨_, hc1⟩, hbx1⟩
 refine ⟨_, rfl, hS1, ?_⟩
 refine take_any 8 (some 10) (.agg #[.int .i64 1, .int .i64 z]) hs hQ (by kernel_rfl) (fun w _ => by kernel_rfl) hS1 ?_
 refine take_any 9 (some 11) (.pointer (some ⟨B.H, i * 2, none⟩)) hs hQ (by kernel_rfl) (fun w _ => by kernel_rfl) hS1 ?_
 refine any_eq (l' := #[true, true, true, true, true, true, true, true, true, true, false]) (a' := ⟨(v0 :: .pointer (some ⟨g, 0, none⟩) :: .pointer (some ⟨g, 1, none⟩) :: .pointer (some ⟨B.H, i * 2, none⟩) :: .pointer (some ⟨g, 0, none⟩) :: .pointer (some ⟨C, 0, none⟩) :: .pointer (some ⟨C, 0, none⟩) :: .pointer (some ⟨C, 3, none⟩) :: .pointer (some ⟨B.Q, 0, none⟩) :: .int .i64 z :: .agg #[.int .i64 1, .int .i64 z] :: .pointer (some ⟨B.H, i * 2, none⟩) :: v12 :: v13 :: v14 :: []).toArray, []⟩) (by kernel_rfl) (by kernel_rfl) ?_
 refine ready_one 10 (by kernel_rfl) ?_
 obtain ⟨e0, e1⟩ := hands_at hc1.hands i (by exact hi)
 refine op_store_mid none 73 (.tmp 11) (.tmp 10) B.H (i * 2) #[.int .i64 1, .int .i64 z] (by kernel_rfl) (by kernel_rfl) (by kernel_rfl) (by kernel_rfl) (fun j hj => ?_) info2H (one_of (cs := [.int .i64 1, .int .i64 z]) rfl) ?_
 · rcases (show j = 0 ∨ j = 1 by simp at hj; omega) with rfl | rfl
   · exact ⟨by rw [Nat.add_zero, e0]; rfl, hc1.hands.frozen _⟩
   · exact ⟨by rw [e1]; rfl, hc1.hands.frozen _⟩
 have hx2 : Exc [B.H] W1 ((W1.setCell ⟨B.H, i * 2, none⟩ (.int .i64 1)).setCell ⟨B.H, i * 2 + 1, none⟩ (.int .i64 z)) := (Exc.set _ B.H _ _ (by simp)).trans (Exc.set _ B.H _ _ (by simp))
 have hc2 : CrAt ((W1.setCell ⟨B.H, i * 2, none⟩ (.int .i64 1)).setCell ⟨B.H, i * 2 + 1, none⟩ (.int .i64 z)) C { c with queue := l, hands := c.hands.set i ⟨1, z⟩ } B := hc1.mod_h (l := c.hands.set i ⟨1, z⟩) (by rw [List.length_set]) (hands_put hc1.hands i 1 z) hx2
 have hbx2 := hbx1.of_block (hx2.block g hbx1.lt (fun hm => hg (by simp only [List.mem_cons, List.not_mem_nil, or_false] at hm; subst hm; simp [CrB.blocks])))
 refine And.intro ⟨⟨_, hc2⟩, hbx2⟩ ?_
 refine any_eq (l' := #[true, true, true, true, true, true, true, true, true, true, true]) (a' := ⟨(v0 :: .pointer (some ⟨g, 0, none⟩) :: .pointer (some ⟨g, 1, none⟩) :: .pointer (some ⟨B.H, i * 2, none⟩) :: .pointer (some ⟨g, 0, none⟩) :: .pointer (some ⟨C, 0, none⟩) :: .pointer (some ⟨C, 0, none⟩) :: .pointer (some ⟨C, 3, none⟩) :: .pointer (some ⟨B.Q, 0, none⟩) :: .int .i64 z :: .agg #[.int .i64 1, .int .i64 z] :: .pointer (some ⟨B.H, i * 2, none⟩) :: v12 :: v13 :: v14 :: []).toArray, []⟩) (by kernel_rfl) (by kernel_rfl) ?_
 exact wpAnyH_done (by kernel_rfl) (hend _ _ _ _ _ _ _ _ _ _ _ hc2 ((hx0.trans (hx.sub (by simp [CrB.blocks]))).trans (hx2.sub (by simp [CrB.blocks]))) hbx2) _
end Go.Proofs.YtibgjcejddpldaaGreat
