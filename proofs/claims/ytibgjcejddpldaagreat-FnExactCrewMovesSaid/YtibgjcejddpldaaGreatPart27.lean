/- The drawn regions of the specification's l52Keeper, l52Worker, l52Ways. No conditions. -/
import Derived.Test.YtibgjcejddpldaaGreatPart26
import Derived.Test.YtibgjcejddpldaaGreatPart11
import Derived.Test.YtibgjcejddpldaaGreatPart12
namespace Go.Proofs.YtibgjcejddpldaaGreat
open Go Go.RowKit

theorem Ag.shA {P : Nat → Prop} {w W : World} {c : Cw} {A : A7} (h : Ag P w W c A) (hF : Form c) {b o : Nat} (hA : A.s = some ⟨b, o, none⟩) (i : Nat) (hi : i < 4) : W.cell? ⟨w.heap.size, 16, none⟩ = some (.slice (some ⟨b, o, none⟩) 4 A.ps) ∧ W.cell? ⟨b, o + i, none⟩ = some (.int .i64 (shZ c i)) := by
  obtain ⟨b', o', e, h1, h2⟩ := h.sh hF i hi
  rw [hA] at e
  simp only [Option.some.injEq, Addr.mk.injEq, and_true] at e
  obtain ⟨rfl, rfl⟩ := e
  exact ⟨h1, h2⟩
noncomputable def cmkOps : Array Oper := fops Tryz.f70 4
theorem cmk_neat : Region.noSelect cmkOps = true ∧ neat cmkOps = true := ⟨by kernel_rfl, by kernel_rfl⟩
set_option maxRecDepth 100000 in
set_option maxHeartbeats 1600000 in
theorem cmk_0 (c : Cw) (A : A7) (P : Nat → Prop) (w : World) (hF : Form c) (b o : Nat) (hA : A.s = some ⟨b, o, none⟩) (hn : c.results.length = 0) (st : Bool) (W0 : World) {v0 v2 v4 v5 v6 v7 v8 v9 v10 v11 v12 v13 v14 v15 v16 v17 v18 v19 v20 v21 v22 v23 v24 v25 v26 v27 v28 v29 v30 v31 v32 v33 v34 v35 v36 v37 v38 v39 v40 v41 : Value} (Q : Exit → Act → World → Prop) (hQ : ∀ c a d v w, Q (.panic c) (Act.put a d v) w → Q (.panic c) a w) (hS : Ag P w W0.drew c A)
    (hend : ∀ (n13 n14 n15 n16 n17 n18 n19 n20 n21 n22 n23 n24 n25 n26 n27 n28 n29 s : Value) W', BsEnd w W' (.returned s) [(decide (0 < ((0 : Nat) : Int))), st, ((shZ c 1) == 1)] → Q .normal ⟨(v0 :: .pointer (some ⟨w.heap.size, 0, none⟩) :: s :: .bool st :: v4 :: v5 :: v6 :: v7 :: v8 :: v9 :: v10 :: v11 :: v12 :: n13 :: n14 :: n15 :: n16 :: n17 :: n18 :: n19 :: n20 :: n21 :: n22 :: n23 :: n24 :: n25 :: n26 :: n27 :: n28 :: n29 :: v30 :: v31 :: v32 :: v33 :: v34 :: v35 :: v36 :: v37 :: v38 :: v39 :: v40 :: v41 :: []).toArray, []⟩ W') : (Code.region 4 cmkOps true).wp Tryz.prog Q ⟨(v0 :: .pointer (some ⟨w.heap.size, 0, none⟩) :: v2 :: .bool st :: v4 :: v5 :: v6 :: v7 :: v8 :: v9 :: v10 :: v11 :: v12 :: v13 :: v14 :: v15 :: v16 :: v17 :: v18 :: v19 :: v20 :: v21 :: v22 :: v23 :: v24 :: v25 :: v26 :: v27 :: v28 :: v29 :: v30 :: v31 :: v32 :: v33 :: v34 :: v35 :: v36 :: v37 :: v38 :: v39 :: v40 :: v41 :: []).toArray, []⟩ W0 := by
  have hs := cmk_neat
  refine wp_region_held (S := fun W => Ag P w W c A) (by kernel_rfl) ?_
  refine any_eq (l' := #[false, false, false, false, false, false, false, false, false, false, false, false, false, false, false, false, false, false]) (by kernel_rfl) rfl ?_
  show wpAnyH Tryz.prog .any cmkOps Q (fun W => Ag P w W c A) 18 _ _ W0.drew
  generalize W0.drew = W at hS ⊢
  refine take_anyG 0 (some 13) (.pointer (some ⟨w.heap.size, 8, none⟩)) hs hQ (by kernel_rfl) (by kernel_rfl) (fun w _ => by kernel_rfl) hS ?_
  refine take_loadG 1 (some 14) 23 (.tmp 13) ⟨w.heap.size, 8, none⟩ (.slice A.r 0 A.pr) hs hQ (by kernel_rfl) (by kernel_rfl) (by kernel_rfl) (by kernel_rfl) (fun w h => ld25 w _ _ (by have := h.k8; rw [hn] at this; exact this)) hS ?_
  refine take_anyG 2 (some 15) (.int .i64 ((0 : Nat) : Int)) hs hQ (by kernel_rfl) (by kernel_rfl) (fun w _ => by kernel_rfl) hS ?_
  refine take_anyG 3 (some 16) (.bool (decide (0 < ((0 : Nat) : Int)))) hs hQ (by kernel_rfl) (by kernel_rfl) (fun w _ => by kernel_rfl) hS ?_
  refine take_anyG 4 (some 17) (.bool st) hs hQ (by kernel_rfl) (by kernel_rfl) (fun w _ => by kernel_rfl) hS ?_
  refine take_anyG 5 (some 18) (.pointer (some ⟨w.heap.size, 8, none⟩)) hs hQ (by kernel_rfl) (by kernel_rfl) (fun w _ => by kernel_rfl) hS ?_
  refine take_loadG 6 (some 19) 23 (.tmp 18) ⟨w.heap.size, 8, none⟩ (.slice A.r 0 A.pr) hs hQ (by kernel_rfl) (by kernel_rfl) (by kernel_rfl) (by kernel_rfl) (fun w h => ld25 w _ _ (by have := h.k8; rw [hn] at this; exact this)) hS ?_
  refine take_anyG 7 (some 20) (.int .i64 ((0 : Nat) : Int)) hs hQ (by kernel_rfl) (by kernel_rfl) (fun w _ => by kernel_rfl) hS ?_
  refine take_anyG 8 (some 21) (.bool true) hs hQ (by kernel_rfl) (by kernel_rfl) (fun w _ => by kernel_rfl) hS ?_
  refine take_anyG 9 (some 22) (.bool true) hs hQ (by kernel_rfl) (by kernel_rfl) (fun w _ => by kernel_rfl) hS ?_
  refine take_anyG 10 (some 23) (.pointer (some ⟨w.heap.size, 16, none⟩)) hs hQ (by kernel_rfl) (by kernel_rfl) (fun w _ => by kernel_rfl) hS ?_
  refine take_loadG 11 (some 24) 23 (.tmp 23) ⟨w.heap.size, 16, none⟩ (.slice (some ⟨b, o, none⟩) 4 A.ps) hs hQ (by kernel_rfl) (by kernel_rfl) (by kernel_rfl) (by kernel_rfl) (fun w h => ld25 w _ _ (h.shA hF hA 1 (by omega)).1) hS ?_
  refine take_anyG 12 (some 25) (.pointer (some ⟨b, o + 1, none⟩)) hs hQ (by kernel_rfl) (by kernel_rfl) (fun w _ => by kernel_rfl) hS ?_
  refine take_loadG 13 (some 26) 3 (.tmp 25) ⟨b, o + 1, none⟩ (.int .i64 (shZ c 1)) hs hQ (by kernel_rfl) (by kernel_rfl) (by kernel_rfl) (by kernel_rfl) (fun w h => ld3 w _ _ (h.shA hF hA 1 (by omega)).2) hS ?_
  refine take_anyG 14 (some 27) (.bool ((shZ c 1) == 1)) hs hQ (by kernel_rfl) (by kernel_rfl) (fun w _ => by kernel_rfl) hS ?_
  refine take_anyG 15 (some 28) (.bool ((shZ c 1) == 1)) hs hQ (by kernel_rfl) (by kernel_rfl) (fun w _ => by kernel_rfl) hS ?_
  refine any_eq (l' := #[true, true, true, true, true, true, true, true, true, true, true, true, true, true, true, true, false, false]) (a' := ⟨(v0 :: .pointer (some ⟨w.heap.size, 0, none⟩) :: v2 :: .bool st :: v4 :: v5 :: v6 :: v7 :: v8 :: v9 :: v10 :: v11 :: v12 :: .pointer (some ⟨w.heap.size, 8, none⟩) :: .slice A.r 0 A.pr :: .int .i64 ((0 : Nat) : Int) :: .bool (decide (0 < ((0 : Nat) : Int))) :: .bool st :: .pointer (some ⟨w.heap.size, 8, none⟩) :: .slice A.r 0 A.pr :: .int .i64 ((0 : Nat) : Int) :: .bool true :: .bool true :: .pointer (some ⟨w.heap.size, 16, none⟩) :: .slice (some ⟨b, o, none⟩) 4 A.ps :: .pointer (some ⟨b, o + 1, none⟩) :: .int .i64 (shZ c 1) :: .bool ((shZ c 1) == 1) :: .bool ((shZ c 1) == 1) :: v29 :: v30 :: v31 :: v32 :: v33 :: v34 :: v35 :: v36 :: v37 :: v38 :: v39 :: v40 :: v41 :: []).toArray, []⟩) (by kernel_rfl) (by kernel_rfl) ?_
  refine ready_one 16 (by kernel_rfl) ?_
  refine op_val (w' := (W.alloc (.cells #[.bool (decide (0 < ((0 : Nat) : Int))), .bool st, .bool ((shZ c 1) == 1)] 4))) (some 29) (.slice (some ⟨W.heap.size, 0, none⟩) 3 3) (by kernel_rfl) (by kernel_rfl) ?_
  have hS1 : Ag P w (W.alloc (.cells #[.bool (decide (0 < ((0 : Nat) : Int))), .bool st, .bool ((shZ c 1) == 1)] 4)) c A := hS.on ((Below.refl _ _).alloc (Nat.le_refl _) _)
  have hbs := bs_new hS.bel [(decide (0 < ((0 : Nat) : Int))), st, ((shZ c 1) == 1)] (by simp)
  refine And.intro hS1 ?_
  refine take_any 17 (some 2) (.slice (some ⟨W.heap.size, 0, none⟩) 3 3) hs hQ (by kernel_rfl) (fun w _ => by kernel_rfl) hS1 ?_
  refine any_eq (l' := #[true, true, true, true, true, true, true, true, true, true, true, true, true, true, true, true, true, true]) (a' := ⟨(v0 :: .pointer (some ⟨w.heap.size, 0, none⟩) :: .slice (some ⟨W.heap.size, 0, none⟩) 3 3 :: .bool st :: v4 :: v5 :: v6 :: v7 :: v8 :: v9 :: v10 :: v11 :: v12 :: .pointer (some ⟨w.heap.size, 8, none⟩) :: .slice A.r 0 A.pr :: .int .i64 ((0 : Nat) : Int) :: .bool (decide (0 < ((0 : Nat) : Int))) :: .bool st :: .pointer (some ⟨w.heap.size, 8, none⟩) :: .slice A.r 0 A.pr :: .int .i64 ((0 : Nat) : Int) :: .bool true :: .bool true :: .pointer (some ⟨w.heap.size, 16, none⟩) :: .slice (some ⟨b, o, none⟩) 4 A.ps :: .pointer (some ⟨b, o + 1, none⟩) :: .int .i64 (shZ c 1) :: .bool ((shZ c 1) == 1) :: .bool ((shZ c 1) == 1) :: .slice (some ⟨W.heap.size, 0, none⟩) 3 3 :: v30 :: v31 :: v32 :: v33 :: v34 :: v35 :: v36 :: v37 :: v38 :: v39 :: v40 :: v41 :: []).toArray, []⟩) (by kernel_rfl) (by kernel_rfl) ?_
  exact wpAnyH_done (by kernel_rfl) (hend _ _ _ _ _ _ _ _ _ _ _ _ _ _ _ _ _ _ _ hbs) _
set_option maxRecDepth 100000 in
set_option maxHeartbeats 1600000 in
theorem cmk_1 (c : Cw) (A : A7) (P : Nat → Prop) (w : World) (n : Nat) (hn : c.results.length = n + 1) (st : Bool) (W0 : World) {v0 v2 v4 v5 v6 v7 v8 v9 v10 v11 v12 v13 v14 v15 v16 v17 v18 v19 v20 v21 v22 v23 v24 v25 v26 v27 v28 v29 v30 v31 v32 v33 v34 v35 v36 v37 v38 v39 v40 v41 : Value} (Q : Exit → Act → World → Prop) (hQ : ∀ c a d v w, Q (.panic c) (Act.put a d v) w → Q (.panic c) a w) (hS : Ag P w W0.drew c A)
    (hend : ∀ (n13 n14 n15 n16 n17 n18 n19 n20 n21 n22 n23 n24 n25 n26 n27 n28 n29 s : Value) W', BsEnd w W' (.returned s) [(decide (0 < (((n + 1) : Nat) : Int))), st, false] → Q .normal ⟨(v0 :: .pointer (some ⟨w.heap.size, 0, none⟩) :: s :: .bool st :: v4 :: v5 :: v6 :: v7 :: v8 :: v9 :: v10 :: v11 :: v12 :: n13 :: n14 :: n15 :: n16 :: n17 :: n18 :: n19 :: n20 :: n21 :: n22 :: n23 :: n24 :: n25 :: n26 :: n27 :: n28 :: n29 :: v30 :: v31 :: v32 :: v33 :: v34 :: v35 :: v36 :: v37 :: v38 :: v39 :: v40 :: v41 :: []).toArray, []⟩ W') : (Code.region 4 cmkOps true).wp Tryz.prog Q ⟨(v0 :: .pointer (some ⟨w.heap.size, 0, none⟩) :: v2 :: .bool st :: v4 :: v5 :: v6 :: v7 :: v8 :: v9 :: v10 :: v11 :: v12 :: v13 :: v14 :: v15 :: v16 :: v17 :: v18 :: v19 :: v20 :: v21 :: v22 :: v23 :: v24 :: v25 :: v26 :: v27 :: v28 :: v29 :: v30 :: v31 :: v32 :: v33 :: v34 :: v35 :: v36 :: v37 :: v38 :: v39 :: v40 :: v41 :: []).toArray, []⟩ W0 := by
  have hs := cmk_neat
  refine wp_region_held (S := fun W => Ag P w W c A) (by kernel_rfl) ?_
  refine any_eq (l' := #[false, false, false, false, false, false, false, false, false, false, false, false, false, false, false, false, false, false]) (by kernel_rfl) rfl ?_
  show wpAnyH Tryz.prog .any cmkOps Q (fun W => Ag P w W c A) 18 _ _ W0.drew
  generalize W0.drew = W at hS ⊢
  refine take_anyG 0 (some 13) (.pointer (some ⟨w.heap.size, 8, none⟩)) hs hQ (by kernel_rfl) (by kernel_rfl) (fun w _ => by kernel_rfl) hS ?_
  refine take_loadG 1 (some 14) 23 (.tmp 13) ⟨w.heap.size, 8, none⟩ (.slice A.r (n + 1) A.pr) hs hQ (by kernel_rfl) (by kernel_rfl) (by kernel_rfl) (by kernel_rfl) (fun w h => ld25 w _ _ (by have := h.k8; rw [hn] at this; exact this)) hS ?_
  refine take_anyG 2 (some 15) (.int .i64 (((n + 1) : Nat) : Int)) hs hQ (by kernel_rfl) (by kernel_rfl) (fun w _ => by kernel_rfl) hS ?_
  refine take_anyG 3 (some 16) (.bool (decide (0 < (((n + 1) : Nat) : Int)))) hs hQ (by kernel_rfl) (by kernel_rfl) (fun w _ => by kernel_rfl) hS ?_
  refine take_anyG 4 (some 17) (.bool st) hs hQ (by kernel_rfl) (by kernel_rfl) (fun w _ => by kernel_rfl) hS ?_
  refine take_anyG 5 (some 18) (.pointer (some ⟨w.heap.size, 8, none⟩)) hs hQ (by kernel_rfl) (by kernel_rfl) (fun w _ => by kernel_rfl) hS ?_
  refine take_loadG 6 (some 19) 23 (.tmp 18) ⟨w.heap.size, 8, none⟩ (.slice A.r (n + 1) A.pr) hs hQ (by kernel_rfl) (by kernel_rfl) (by kernel_rfl) (by kernel_rfl) (fun w h => ld25 w _ _ (by have := h.k8; rw [hn] at this; exact this)) hS ?_
  refine take_anyG 7 (some 20) (.int .i64 (((n + 1) : Nat) : Int)) hs hQ (by kernel_rfl) (by kernel_rfl) (fun w _ => by kernel_rfl) hS ?_
  refine take_anyG 8 (some 21) (.bool false) hs hQ (by kernel_rfl) (by kernel_rfl) (fun w _ => by kernel_rfl) hS ?_
  refine take_anyG 9 (some 22) (.bool false) hs hQ (by kernel_rfl) (by kernel_rfl) (fun w _ => by kernel_rfl) hS ?_
  refine take_skip 10 (some 23) hs hQ (by kernel_rfl) (by kernel_rfl) hS ?_
  refine take_skip 11 (some 24) hs hQ (by kernel_rfl) (by kernel_rfl) hS ?_
  refine take_skip 12 (some 25) hs hQ (by kernel_rfl) (by kernel_rfl) hS ?_
  refine take_skip 13 (some 26) hs hQ (by kernel_rfl) (by kernel_rfl) hS ?_
  refine take_skip 14 (some 27) hs hQ (by kernel_rfl) (by kernel_rfl) hS ?_
  refine take_anyG 15 (some 28) (.bool false) hs hQ (by kernel_rfl) (by kernel_rfl) (fun w _ => by kernel_rfl) hS ?_
  refine any_eq (l' := #[true, true, true, true, true, true, true, true, true, true, true, true, true, true, true, true, false, false]) (a' := ⟨(v0 :: .pointer (some ⟨w.heap.size, 0, none⟩) :: v2 :: .bool st :: v4 :: v5 :: v6 :: v7 :: v8 :: v9 :: v10 :: v11 :: v12 :: .pointer (some ⟨w.heap.size, 8, none⟩) :: .slice A.r (n + 1) A.pr :: .int .i64 (((n + 1) : Nat) : Int) :: .bool (decide (0 < (((n + 1) : Nat) : Int))) :: .bool st :: .pointer (some ⟨w.heap.size, 8, none⟩) :: .slice A.r (n + 1) A.pr :: .int .i64 (((n + 1) : Nat) : Int) :: .bool false :: .bool false :: undef :: undef :: undef :: undef :: undef :: .bool false :: v29 :: v30 :: v31 :: v32 :: v33 :: v34 :: v35 :: v36 :: v37 :: v38 :: v39 :: v40 :: v41 :: []).toArray, []⟩) (by kernel_rfl) (by kernel_rfl) ?_
  refine ready_one 16 (by kernel_rfl) ?_
  refine op_val (w' := (W.alloc (.cells #[.bool (decide (0 < (((n + 1) : Nat) : Int))), .bool st, .bool false] 4))) (some 29) (.slice (some ⟨W.heap.size, 0, none⟩) 3 3) (by kernel_rfl) (by kernel_rfl) ?_
  have hS1 : Ag P w (W.alloc (.cells #[.bool (decide (0 < (((n + 1) : Nat) : Int))), .bool st, .bool false] 4)) c A := hS.on ((Below.refl _ _).alloc (Nat.le_refl _) _)
  have hbs := bs_new hS.bel [(decide (0 < (((n + 1) : Nat) : Int))), st, false] (by simp)
  refine And.intro hS1 ?_
  refine take_any 17 (some 2) (.slice (some ⟨W.heap.size, 0, none⟩) 3 3) hs hQ (by kernel_rfl) (fun w _ => by kernel_rfl) hS1 ?_
  refine any_eq (l' := #[true, true, true, true, true, true, true, true, true, true, true, true, true, true, true, true, true, true]) (a' := ⟨(v0 :: .pointer (some ⟨w.heap.size, 0, none⟩) :: .slice (some ⟨W.heap.size, 0, none⟩) 3 3 :: .bool st :: v4 :: v5 :: v6 :: v7 :: v8 :: v9 :: v10 :: v11 :: v12 :: .pointer (some ⟨w.heap.size, 8, none⟩) :: .slice A.r (n + 1) A.pr :: .int .i64 (((n + 1) : Nat) : Int) :: .bool (decide (0 < (((n + 1) : Nat) : Int))) :: .bool st :: .pointer (some ⟨w.heap.size, 8, none⟩) :: .slice A.r (n + 1) A.pr :: .int .i64 (((n + 1) : Nat) : Int) :: .bool false :: .bool false :: undef :: undef :: undef :: undef :: undef :: .bool false :: .slice (some ⟨W.heap.size, 0, none⟩) 3 3 :: v30 :: v31 :: v32 :: v33 :: v34 :: v35 :: v36 :: v37 :: v38 :: v39 :: v40 :: v41 :: []).toArray, []⟩) (by kernel_rfl) (by kernel_rfl) ?_
  exact wpAnyH_done (by kernel_rfl) (hend _ _ _ _ _ _ _ _ _ _ _ _ _ _ _ _ _ _ _ hbs) _
noncomputable def cmwOps : Array Oper := fops Tryz.f68 4
theorem cmw_neat : Region.noSelect cmwOps = true ∧ neat cmwOps = true := ⟨by kernel_rfl, by kernel_rfl⟩
set_option maxRecDepth 100000 in
set_option maxHeartbeats 1600000 in
theorem cmw_0 (c : Cw) (A : A7) (P : Nat → Prop) (w : World) (hF : Form c) (b o : Nat) (hA : A.s = some ⟨b, o, none⟩) (hn : c.queue.length = 0) (st : Bool) (W0 : World) {v0 v1 v3 v4 v6 v7 v8 v9 v10 v11 v12 v13 v14 v15 v16 v17 v18 v19 v20 v21 v22 v23 v24 v25 v26 v27 v28 v29 v30 v31 v32 v33 v34 v35 v36 v37 v38 v39 v40 v41 v42 v43 v44 v45 : Value} (Q : Exit → Act → World → Prop) (hQ : ∀ c a d v w, Q (.panic c) (Act.put a d v) w → Q (.panic c) a w) (hS : Ag P w W0.drew c A)
    (hend : ∀ (n15 n16 n17 n18 n19 n20 n21 n22 n23 n24 n25 n26 n27 n28 n29 n30 n31 s : Value) W', BsEnd w W' (.returned s) [(decide (0 < ((0 : Nat) : Int))), st, ((shZ c 0) == 1)] → Q .normal ⟨(v0 :: v1 :: .pointer (some ⟨w.heap.size, 0, none⟩) :: v3 :: s :: .bool st :: v6 :: v7 :: v8 :: v9 :: v10 :: v11 :: v12 :: v13 :: v14 :: n15 :: n16 :: n17 :: n18 :: n19 :: n20 :: n21 :: n22 :: n23 :: n24 :: n25 :: n26 :: n27 :: n28 :: n29 :: n30 :: n31 :: v32 :: v33 :: v34 :: v35 :: v36 :: v37 :: v38 :: v39 :: v40 :: v41 :: v42 :: v43 :: v44 :: v45 :: []).toArray, []⟩ W') : (Code.region 4 cmwOps true).wp Tryz.prog Q ⟨(v0 :: v1 :: .pointer (some ⟨w.heap.size, 0, none⟩) :: v3 :: v4 :: .bool st :: v6 :: v7 :: v8 :: v9 :: v10 :: v11 :: v12 :: v13 :: v14 :: v15 :: v16 :: v17 :: v18 :: v19 :: v20 :: v21 :: v22 :: v23 :: v24 :: v25 :: v26 :: v27 :: v28 :: v29 :: v30 :: v31 :: v32 :: v33 :: v34 :: v35 :: v36 :: v37 :: v38 :: v39 :: v40 :: v41 :: v42 :: v43 :: v44 :: v45 :: []).toArray, []⟩ W0 := by
  have hs := cmw_neat
  refine wp_region_held (S := fun W => Ag P w W c A) (by kernel_rfl) ?_
  refine any_eq (l' := #[false, false, false, false, false, false, false, false, false, false, false, false, false, false, false, false, false, false]) (by kernel_rfl) rfl ?_
  show wpAnyH Tryz.prog .any cmwOps Q (fun W => Ag P w W c A) 18 _ _ W0.drew
  generalize W0.drew = W at hS ⊢
  refine take_anyG 0 (some 15) (.pointer (some ⟨w.heap.size, 5, none⟩)) hs hQ (by kernel_rfl) (by kernel_rfl) (fun w _ => by kernel_rfl) hS ?_
  refine take_loadG 1 (some 16) 23 (.tmp 15) ⟨w.heap.size, 5, none⟩ (.slice A.q 0 A.pq) hs hQ (by kernel_rfl) (by kernel_rfl) (by kernel_rfl) (by kernel_rfl) (fun w h => ld25 w _ _ (by have := h.k5; rw [hn] at this; exact this)) hS ?_
  refine take_anyG 2 (some 17) (.int .i64 ((0 : Nat) : Int)) hs hQ (by kernel_rfl) (by kernel_rfl) (fun w _ => by kernel_rfl) hS ?_
  refine take_anyG 3 (some 18) (.bool (decide (0 < ((0 : Nat) : Int)))) hs hQ (by kernel_rfl) (by kernel_rfl) (fun w _ => by kernel_rfl) hS ?_
  refine take_anyG 4 (some 19) (.bool st) hs hQ (by kernel_rfl) (by kernel_rfl) (fun w _ => by kernel_rfl) hS ?_
  refine take_anyG 5 (some 20) (.pointer (some ⟨w.heap.size, 5, none⟩)) hs hQ (by kernel_rfl) (by kernel_rfl) (fun w _ => by kernel_rfl) hS ?_
  refine take_loadG 6 (some 21) 23 (.tmp 20) ⟨w.heap.size, 5, none⟩ (.slice A.q 0 A.pq) hs hQ (by kernel_rfl) (by kernel_rfl) (by kernel_rfl) (by kernel_rfl) (fun w h => ld25 w _ _ (by have := h.k5; rw [hn] at this; exact this)) hS ?_
  refine take_anyG 7 (some 22) (.int .i64 ((0 : Nat) : Int)) hs hQ (by kernel_rfl) (by kernel_rfl) (fun w _ => by kernel_rfl) hS ?_
  refine take_anyG 8 (some 23) (.bool true) hs hQ (by kernel_rfl) (by kernel_rfl) (fun w _ => by kernel_rfl) hS ?_
  refine take_anyG 9 (some 24) (.bool true) hs hQ (by kernel_rfl) (by kernel_rfl) (fun w _ => by kernel_rfl) hS ?_
  refine take_anyG 10 (some 25) (.pointer (some ⟨w.heap.size, 16, none⟩)) hs hQ (by kernel_rfl) (by kernel_rfl) (fun w _ => by kernel_rfl) hS ?_
  refine take_loadG 11 (some 26) 23 (.tmp 25) ⟨w.heap.size, 16, none⟩ (.slice (some ⟨b, o, none⟩) 4 A.ps) hs hQ (by kernel_rfl) (by kernel_rfl) (by kernel_rfl) (by kernel_rfl) (fun w h => ld25 w _ _ (h.shA hF hA 0 (by omega)).1) hS ?_
  refine take_anyG 12 (some 27) (.pointer (some ⟨b, o + 0, none⟩)) hs hQ (by kernel_rfl) (by kernel_rfl) (fun w _ => by kernel_rfl) hS ?_
  refine take_loadG 13 (some 28) 3 (.tmp 27) ⟨b, o + 0, none⟩ (.int .i64 (shZ c 0)) hs hQ (by kernel_rfl) (by kernel_rfl) (by kernel_rfl) (by kernel_rfl) (fun w h => ld3 w _ _ (h.shA hF hA 0 (by omega)).2) hS ?_
  refine take_anyG 14 (some 29) (.bool ((shZ c 0) == 1)) hs hQ (by kernel_rfl) (by kernel_rfl) (fun w _ => by kernel_rfl) hS ?_
  refine take_anyG 15 (some 30) (.bool ((shZ c 0) == 1)) hs hQ (by kernel_rfl) (by kernel_rfl) (fun w _ => by kernel_rfl) hS ?_
  refine any_eq (l' := #[true, true, true, true, true, true, true, true, true, true, true, true, true, true, true, true, false, false]) (a' := ⟨(v0 :: v1 :: .pointer (some ⟨w.heap.size, 0, none⟩) :: v3 :: v4 :: .bool st :: v6 :: v7 :: v8 :: v9 :: v10 :: v11 :: v12 :: v13 :: v14 :: .pointer (some ⟨w.heap.size, 5, none⟩) :: .slice A.q 0 A.pq :: .int .i64 ((0 : Nat) : Int) :: .bool (decide (0 < ((0 : Nat) : Int))) :: .bool st :: .pointer (some ⟨w.heap.size, 5, none⟩) :: .slice A.q 0 A.pq :: .int .i64 ((0 : Nat) : Int) :: .bool true :: .bool true :: .pointer (some ⟨w.heap.size, 16, none⟩) :: .slice (some ⟨b, o, none⟩) 4 A.ps :: .pointer (some ⟨b, o + 0, none⟩) :: .int .i64 (shZ c 0) :: .bool ((shZ c 0) == 1) :: .bool ((shZ c 0) == 1) :: v31 :: v32 :: v33 :: v34 :: v35 :: v36 :: v37 :: v38 :: v39 :: v40 :: v41 :: v42 :: v43 :: v44 :: v45 :: []).toArray, []⟩) (by kernel_rfl) (by kernel_rfl) ?_
  refine ready_one 16 (by kernel_rfl) ?_
  refine op_val (w' := (W.alloc (.cells #[.bool (decide (0 < ((0 : Nat) : Int))), .bool st, .bool ((shZ c 0) == 1)] 4))) (some 31) (.slice (some ⟨W.heap.size, 0, none⟩) 3 3) (by kernel_rfl) (by kernel_rfl) ?_
  have hS1 : Ag P w (W.alloc (.cells #[.bool (decide (0 < ((0 : Nat) : Int))), .bool st, .bool ((shZ c 0) == 1)] 4)) c A := hS.on ((Below.refl _ _).alloc (Nat.le_refl _) _)
  have hbs := bs_new hS.bel [(decide (0 < ((0 : Nat) : Int))), st, ((shZ c 0) == 1)] (by simp)
  refine And.intro hS1 ?_
  refine take_any 17 (some 4) (.slice (some ⟨W.heap.size, 0, none⟩) 3 3) hs hQ (by kernel_rfl) (fun w _ => by kernel_rfl) hS1 ?_
  refine any_eq (l' := #[true, true, true, true, true, true, true, true, true, true, true, true, true, true, true, true, true, true]) (a' := ⟨(v0 :: v1 :: .pointer (some ⟨w.heap.size, 0, none⟩) :: v3 :: .slice (some ⟨W.heap.size, 0, none⟩) 3 3 :: .bool st :: v6 :: v7 :: v8 :: v9 :: v10 :: v11 :: v12 :: v13 :: v14 :: .pointer (some ⟨w.heap.size, 5, none⟩) :: .slice A.q 0 A.pq :: .int .i64 ((0 : Nat) : Int) :: .bool (decide (0 < ((0 : Nat) : Int))) :: .bool st :: .pointer (some ⟨w.heap.size, 5, none⟩) :: .slice A.q 0 A.pq :: .int .i64 ((0 : Nat) : Int) :: .bool true :: .bool true :: .pointer (some ⟨w.heap.size, 16, none⟩) :: .slice (some ⟨b, o, none⟩) 4 A.ps :: .pointer (some ⟨b, o + 0, none⟩) :: .int .i64 (shZ c 0) :: .bool ((shZ c 0) == 1) :: .bool ((shZ c 0) == 1) :: .slice (some ⟨W.heap.size, 0, none⟩) 3 3 :: v32 :: v33 :: v34 :: v35 :: v36 :: v37 :: v38 :: v39 :: v40 :: v41 :: v42 :: v43 :: v44 :: v45 :: []).toArray, []⟩) (by kernel_rfl) (by kernel_rfl) ?_
  exact wpAnyH_done (by kernel_rfl) (hend _ _ _ _ _ _ _ _ _ _ _ _ _ _ _ _ _ _ _ hbs) _
set_option maxRecDepth 100000 in
set_option maxHeartbeats 1600000 in
theorem cmw_1 (c : Cw) (A : A7) (P : Nat → Prop) (w : World) (n : Nat) (hn : c.queue.length = n + 1) (st : Bool) (W0 : World) {v0 v1 v3 v4 v6 v7 v8 v9 v10 v11 v12 v13 v14 v15 v16 v17 v18 v19 v20 v21 v22 v23 v24 v25 v26 v27 v28 v29 v30 v31 v32 v33 v34 v35 v36 v37 v38 v39 v40 v41 v42 v43 v44 v45 : Value} (Q : Exit → Act → World → Prop) (hQ : ∀ c a d v w, Q (.panic c) (Act.put a d v) w → Q (.panic c) a w) (hS : Ag P w W0.drew c A)
    (hend : ∀ (n15 n16 n17 n18 n19 n20 n21 n22 n23 n24 n25 n26 n27 n28 n29 n30 n31 s : Value) W', BsEnd w W' (.returned s) [(decide (0 < (((n + 1) : Nat) : Int))), st, false] → Q .normal ⟨(v0 :: v1 :: .pointer (some ⟨w.heap.size, 0, none⟩) :: v3 :: s :: .bool st :: v6 :: v7 :: v8 :: v9 :: v10 :: v11 :: v12 :: v13 :: v14 :: n15 :: n16 :: n17 :: n18 :: n19 :: n20 :: n21 :: n22 :: n23 :: n24 :: n25 :: n26 :: n27 :: n28 :: n29 :: n30 :: n31 :: v32 :: v33 :: v34 :: v35 :: v36 :: v37 :: v38 :: v39 :: v40 :: v41 :: v42 :: v43 :: v44 :: v45 :: []).toArray, []⟩ W') : (Code.region 4 cmwOps true).wp Tryz.prog Q ⟨(v0 :: v1 :: .pointer (some ⟨w.heap.size, 0, none⟩) :: v3 :: v4 :: .bool st :: v6 :: v7 :: v8 :: v9 :: v10 :: v11 :: v12 :: v13 :: v14 :: v15 :: v16 :: v17 :: v18 :: v19 :: v20 :: v21 :: v22 :: v23 :: v24 :: v25 :: v26 :: v27 :: v28 :: v29 :: v30 :: v31 :: v32 :: v33 :: v34 :: v35 :: v36 :: v37 :: v38 :: v39 :: v40 :: v41 :: v42 :: v43 :: v44 :: v45 :: []).toArray, []⟩ W0 := by
  have hs := cmw_neat
  refine wp_region_held (S := fun W => Ag P w W c A) (by kernel_rfl) ?_
  refine any_eq (l' := #[false, false, false, false, false, false, false, false, false, false, false, false, false, false, false, false, false, false]) (by kernel_rfl) rfl ?_
  show wpAnyH Tryz.prog .any cmwOps Q (fun W => Ag P w W c A) 18 _ _ W0.drew
  generalize W0.drew = W at hS ⊢
  refine take_anyG 0 (some 15) (.pointer (some ⟨w.heap.size, 5, none⟩)) hs hQ (by kernel_rfl) (by kernel_rfl) (fun w _ => by kernel_rfl) hS ?_
  refine take_loadG 1 (some 16) 23 (.tmp 15) ⟨w.heap.size, 5, none⟩ (.slice A.q (n + 1) A.pq) hs hQ (by kernel_rfl) (by kernel_rfl) (by kernel_rfl) (by kernel_rfl) (fun w h => ld25 w _ _ (by have := h.k5; rw [hn] at this; exact this)) hS ?_
  refine take_anyG 2 (some 17) (.int .i64 (((n + 1) : Nat) : Int)) hs hQ (by kernel_rfl) (by kernel_rfl) (fun w _ => by kernel_rfl) hS ?_
  refine take_anyG 3 (some 18) (.bool (decide (0 < (((n + 1) : Nat) : Int)))) hs hQ (by kernel_rfl) (by kernel_rfl) (fun w _ => by kernel_rfl) hS ?_
  refine take_anyG 4 (some 19) (.bool st) hs hQ (by kernel_rfl) (by kernel_rfl) (fun w _ => by kernel_rfl) hS ?_
  refine take_anyG 5 (some 20) (.pointer (some ⟨w.heap.size, 5, none⟩)) hs hQ (by kernel_rfl) (by kernel_rfl) (fun w _ => by kernel_rfl) hS ?_
  refine take_loadG 6 (some 21) 23 (.tmp 20) ⟨w.heap.size, 5, none⟩ (.slice A.q (n + 1) A.pq) hs hQ (by kernel_rfl) (by kernel_rfl) (by kernel_rfl) (by kernel_rfl) (fun w h => ld25 w _ _ (by have := h.k5; rw [hn] at this; exact this)) hS ?_
  refine take_anyG 7 (some 22) (.int .i64 (((n + 1) : Nat) : Int)) hs hQ (by kernel_rfl) (by kernel_rfl) (fun w _ => by kernel_rfl) hS ?_
  refine take_anyG 8 (some 23) (.bool false) hs hQ (by kernel_rfl) (by kernel_rfl) (fun w _ => by kernel_rfl) hS ?_
  refine take_anyG 9 (some 24) (.bool false) hs hQ (by kernel_rfl) (by kernel_rfl) (fun w _ => by kernel_rfl) hS ?_
  refine take_skip 10 (some 25) hs hQ (by kernel_rfl) (by kernel_rfl) hS ?_
  refine take_skip 11 (some 26) hs hQ (by kernel_rfl) (by kernel_rfl) hS ?_
  refine take_skip 12 (some 27) hs hQ (by kernel_rfl) (by kernel_rfl) hS ?_
  refine take_skip 13 (some 28) hs hQ (by kernel_rfl) (by kernel_rfl) hS ?_
  refine take_skip 14 (some 29) hs hQ (by kernel_rfl) (by kernel_rfl) hS ?_
  refine take_anyG 15 (some 30) (.bool false) hs hQ (by kernel_rfl) (by kernel_rfl) (fun w _ => by kernel_rfl) hS ?_
  refine any_eq (l' := #[true, true, true, true, true, true, true, true, true, true, true, true, true, true, true, true, false, false]) (a' := ⟨(v0 :: v1 :: .pointer (some ⟨w.heap.size, 0, none⟩) :: v3 :: v4 :: .bool st :: v6 :: v7 :: v8 :: v9 :: v10 :: v11 :: v12 :: v13 :: v14 :: .pointer (some ⟨w.heap.size, 5, none⟩) :: .slice A.q (n + 1) A.pq :: .int .i64 (((n + 1) : Nat) : Int) :: .bool (decide (0 < (((n + 1) : Nat) : Int))) :: .bool st :: .pointer (some ⟨w.heap.size, 5, none⟩) :: .slice A.q (n + 1) A.pq :: .int .i64 (((n + 1) : Nat) : Int) :: .bool false :: .bool false :: undef :: undef :: undef :: undef :: undef :: .bool false :: v31 :: v32 :: v33 :: v34 :: v35 :: v36 :: v37 :: v38 :: v39 :: v40 :: v41 :: v42 :: v43 :: v44 :: v45 :: []).toArray, []⟩) (by kernel_rfl) (by kernel_rfl) ?_
  refine ready_one 16 (by kernel_rfl) ?_
  refine op_val (w' := (W.alloc (.cells #[.bool (decide (0 < (((n + 1) : Nat) : Int))), .bool st, .bool false] 4))) (some 31) (.slice (some ⟨W.heap.size, 0, none⟩) 3 3) (by kernel_rfl) (by kernel_rfl) ?_
  have hS1 : Ag P w (W.alloc (.cells #[.bool (decide (0 < (((n + 1) : Nat) : Int))), .bool st, .bool false] 4)) c A := hS.on ((Below.refl _ _).alloc (Nat.le_refl _) _)
  have hbs := bs_new hS.bel [(decide (0 < (((n + 1) : Nat) : Int))), st, false] (by simp)
  refine And.intro hS1 ?_
  refine take_any 17 (some 4) (.slice (some ⟨W.heap.size, 0, none⟩) 3 3) hs hQ (by kernel_rfl) (fun w _ => by kernel_rfl) hS1 ?_
  refine any_eq (l' := #[true, true, true, true, true, true, true, true, true, true, true, true, true, true, true, true, true, true]) (a' := ⟨(v0 :: v1 :: .pointer (some ⟨w.heap.size, 0, none⟩) :: v3 :: .slice (some ⟨W.heap.size, 0, none⟩) 3 3 :: .bool st :: v6 :: v7 :: v8 :: v9 :: v10 :: v11 :: v12 :: v13 :: v14 :: .pointer (some ⟨w.heap.size, 5, none⟩) :: .slice A.q (n + 1) A.pq :: .int .i64 (((n + 1) : Nat) : Int) :: .bool (decide (0 < (((n + 1) : Nat) : Int))) :: .bool st :: .pointer (some ⟨w.heap.size, 5, none⟩) :: .slice A.q (n + 1) A.pq :: .int .i64 (((n + 1) : Nat) : Int) :: .bool false :: .bool false :: undef :: undef :: undef :: undef :: undef :: .bool false :: .slice (some ⟨W.heap.size, 0, none⟩) 3 3 :: v32 :: v33 :: v34 :: v35 :: v36 :: v37 :: v38 :: v39 :: v40 :: v41 :: v42 :: v43 :: v44 :: v45 :: []).toArray, []⟩) (by kernel_rfl) (by kernel_rfl) ?_
  exact wpAnyH_done (by kernel_rfl) (hend _ _ _ _ _ _ _ _ _ _ _ _ _ _ _ _ _ _ _ hbs) _
noncomputable def cmuOps : Array Oper := fops Tryz.f37 11
theorem cmu_neat : Region.noSelect cmuOps = true ∧ neat cmuOps = true := ⟨by kernel_rfl, by kernel_rfl⟩
set_option maxRecDepth 100000 in
set_option maxHeartbeats 1600000 in
theorem cmu_0 (c : Cw) (A : A7) (P : Nat → Prop) (w : World) (hF : Form c) (b o : Nat) (hA : A.s = some ⟨b, o, none⟩) (hn : c.out.length = 0) (W0 : World) {v0 v1 v3 v4 v5 v6 v7 v8 v9 v10 v11 v12 v13 v14 v15 v16 v17 v18 v19 v20 v21 v22 v23 v24 v25 v26 v27 v28 v29 v30 v31 v32 v33 v34 v35 v36 v37 v38 v39 v40 v41 v42 v43 v44 v45 v46 v47 v48 v49 v50 v51 v52 v53 v54 v55 v56 v57 v58 v59 v60 v61 v62 v63 v64 : Value} (Q : Exit → Act → World → Prop) (hQ : ∀ c a d v w, Q (.panic c) (Act.put a d v) w → Q (.panic c) a w) (hS : Ag P w W0.drew c A)
    (hend : ∀ (n49 n50 n51 n52 n53 n54 n55 n56 n57 n58 n59 n60 n61 n62 n63 n64 s : Value) W', BsEnd w W' (.returned s) [(decide (0 < ((0 : Nat) : Int))), ((shZ c 2) == 1)] → Q .normal ⟨(v0 :: v1 :: .pointer (some ⟨w.heap.size, 0, none⟩) :: v3 :: s :: v5 :: v6 :: v7 :: v8 :: v9 :: v10 :: v11 :: v12 :: v13 :: v14 :: v15 :: v16 :: v17 :: v18 :: v19 :: v20 :: v21 :: v22 :: v23 :: v24 :: v25 :: v26 :: v27 :: v28 :: v29 :: v30 :: v31 :: v32 :: v33 :: v34 :: v35 :: v36 :: v37 :: v38 :: v39 :: v40 :: v41 :: v42 :: v43 :: v44 :: v45 :: v46 :: v47 :: v48 :: n49 :: n50 :: n51 :: n52 :: n53 :: n54 :: n55 :: n56 :: n57 :: n58 :: n59 :: n60 :: n61 :: n62 :: n63 :: n64 :: []).toArray, []⟩ W') : (Code.region 11 cmuOps true).wp Tryz.prog Q ⟨(v0 :: v1 :: .pointer (some ⟨w.heap.size, 0, none⟩) :: v3 :: v4 :: v5 :: v6 :: v7 :: v8 :: v9 :: v10 :: v11 :: v12 :: v13 :: v14 :: v15 :: v16 :: v17 :: v18 :: v19 :: v20 :: v21 :: v22 :: v23 :: v24 :: v25 :: v26 :: v27 :: v28 :: v29 :: v30 :: v31 :: v32 :: v33 :: v34 :: v35 :: v36 :: v37 :: v38 :: v39 :: v40 :: v41 :: v42 :: v43 :: v44 :: v45 :: v46 :: v47 :: v48 :: v49 :: v50 :: v51 :: v52 :: v53 :: v54 :: v55 :: v56 :: v57 :: v58 :: v59 :: v60 :: v61 :: v62 :: v63 :: v64 :: []).toArray, []⟩ W0 := by
  have hs := cmu_neat
  refine wp_region_held (S := fun W => Ag P w W c A) (by kernel_rfl) ?_
  refine any_eq (l' := #[false, false, false, false, false, false, false, false, false, false, false, false, false, false, false, false, false]) (by kernel_rfl) rfl ?_
  show wpAnyH Tryz.prog .any cmuOps Q (fun W => Ag P w W c A) 17 _ _ W0.drew
  generalize W0.drew = W at hS ⊢
  refine take_anyG 0 (some 49) (.pointer (some ⟨w.heap.size, 12, none⟩)) hs hQ (by kernel_rfl) (by kernel_rfl) (fun w _ => by kernel_rfl) hS ?_
  refine take_loadG 1 (some 50) 23 (.tmp 49) ⟨w.heap.size, 12, none⟩ (.slice A.o 0 A.po) hs hQ (by kernel_rfl) (by kernel_rfl) (by kernel_rfl) (by kernel_rfl) (fun w h => ld25 w _ _ (by have := h.k12; rw [hn] at this; exact this)) hS ?_
  refine take_anyG 2 (some 51) (.int .i64 ((0 : Nat) : Int)) hs hQ (by kernel_rfl) (by kernel_rfl) (fun w _ => by kernel_rfl) hS ?_
  refine take_anyG 3 (some 52) (.bool (decide (0 < ((0 : Nat) : Int)))) hs hQ (by kernel_rfl) (by kernel_rfl) (fun w _ => by kernel_rfl) hS ?_
  refine take_anyG 4 (some 53) (.pointer (some ⟨w.heap.size, 12, none⟩)) hs hQ (by kernel_rfl) (by kernel_rfl) (fun w _ => by kernel_rfl) hS ?_
  refine take_loadG 5 (some 54) 23 (.tmp 53) ⟨w.heap.size, 12, none⟩ (.slice A.o 0 A.po) hs hQ (by kernel_rfl) (by kernel_rfl) (by kernel_rfl) (by kernel_rfl) (fun w h => ld25 w _ _ (by have := h.k12; rw [hn] at this; exact this)) hS ?_
  refine take_anyG 6 (some 55) (.int .i64 ((0 : Nat) : Int)) hs hQ (by kernel_rfl) (by kernel_rfl) (fun w _ => by kernel_rfl) hS ?_
  refine take_anyG 7 (some 56) (.bool true) hs hQ (by kernel_rfl) (by kernel_rfl) (fun w _ => by kernel_rfl) hS ?_
  refine take_anyG 8 (some 57) (.bool true) hs hQ (by kernel_rfl) (by kernel_rfl) (fun w _ => by kernel_rfl) hS ?_
  refine take_anyG 9 (some 58) (.pointer (some ⟨w.heap.size, 16, none⟩)) hs hQ (by kernel_rfl) (by kernel_rfl) (fun w _ => by kernel_rfl) hS ?_
  refine take_loadG 10 (some 59) 23 (.tmp 58) ⟨w.heap.size, 16, none⟩ (.slice (some ⟨b, o, none⟩) 4 A.ps) hs hQ (by kernel_rfl) (by kernel_rfl) (by kernel_rfl) (by kernel_rfl) (fun w h => ld25 w _ _ (h.shA hF hA 2 (by omega)).1) hS ?_
  refine take_anyG 11 (some 60) (.pointer (some ⟨b, o + 2, none⟩)) hs hQ (by kernel_rfl) (by kernel_rfl) (fun w _ => by kernel_rfl) hS ?_
  refine take_loadG 12 (some 61) 3 (.tmp 60) ⟨b, o + 2, none⟩ (.int .i64 (shZ c 2)) hs hQ (by kernel_rfl) (by kernel_rfl) (by kernel_rfl) (by kernel_rfl) (fun w h => ld3 w _ _ (h.shA hF hA 2 (by omega)).2) hS ?_
  refine take_anyG 13 (some 62) (.bool ((shZ c 2) == 1)) hs hQ (by kernel_rfl) (by kernel_rfl) (fun w _ => by kernel_rfl) hS ?_
  refine take_anyG 14 (some 63) (.bool ((shZ c 2) == 1)) hs hQ (by kernel_rfl) (by kernel_rfl) (fun w _ => by kernel_rfl) hS ?_
  refine any_eq (l' := #[true, true, true, true, true, true, true, true, true, true, true, true, true, true, true, false, false]) (a' := ⟨(v0 :: v1 :: .pointer (some ⟨w.heap.size, 0, none⟩) :: v3 :: v4 :: v5 :: v6 :: v7 :: v8 :: v9 :: v10 :: v11 :: v12 :: v13 :: v14 :: v15 :: v16 :: v17 :: v18 :: v19 :: v20 :: v21 :: v22 :: v23 :: v24 :: v25 :: v26 :: v27 :: v28 :: v29 :: v30 :: v31 :: v32 :: v33 :: v34 :: v35 :: v36 :: v37 :: v38 :: v39 :: v40 :: v41 :: v42 :: v43 :: v44 :: v45 :: v46 :: v47 :: v48 :: .pointer (some ⟨w.heap.size, 12, none⟩) :: .slice A.o 0 A.po :: .int .i64 ((0 : Nat) : Int) :: .bool (decide (0 < ((0 : Nat) : Int))) :: .pointer (some ⟨w.heap.size, 12, none⟩) :: .slice A.o 0 A.po :: .int .i64 ((0 : Nat) : Int) :: .bool true :: .bool true :: .pointer (some ⟨w.heap.size, 16, none⟩) :: .slice (some ⟨b, o, none⟩) 4 A.ps :: .pointer (some ⟨b, o + 2, none⟩) :: .int .i64 (shZ c 2) :: .bool ((shZ c 2) == 1) :: .bool ((shZ c 2) == 1) :: v64 :: []).toArray, []⟩) (by kernel_rfl) (by kernel_rfl) ?_
  refine ready_one 15 (by kernel_rfl) ?_
  refine op_val (w' := (W.alloc (.cells #[.bool (decide (0 < ((0 : Nat) : Int))), .bool ((shZ c 2) == 1)] 4))) (some 64) (.slice (some ⟨W.heap.size, 0, none⟩) 2 2) (by kernel_rfl) (by kernel_rfl) ?_
  have hS1 : Ag P w (W.alloc (.cells #[.bool (decide (0 < ((0 : Nat) : Int))), .bool ((shZ c 2) == 1)] 4)) c A := hS.on ((Below.refl _ _).alloc (Nat.le_refl _) _)
  have hbs := bs_new hS.bel [(decide (0 < ((0 : Nat) : Int))), ((shZ c 2) == 1)] (by simp)
  refine And.intro hS1 ?_
  refine take_any 16 (some 4) (.slice (some ⟨W.heap.size, 0, none⟩) 2 2) hs hQ (by kernel_rfl) (fun w _ => by kernel_rfl) hS1 ?_
  refine any_eq (l' := #[true, true, true, true, true, true, true, true, true, true, true, true, true, true, true, true, true]) (a' := ⟨(v0 :: v1 :: .pointer (some ⟨w.heap.size, 0, none⟩) :: v3 :: .slice (some ⟨W.heap.size, 0, none⟩) 2 2 :: v5 :: v6 :: v7 :: v8 :: v9 :: v10 :: v11 :: v12 :: v13 :: v14 :: v15 :: v16 :: v17 :: v18 :: v19 :: v20 :: v21 :: v22 :: v23 :: v24 :: v25 :: v26 :: v27 :: v28 :: v29 :: v30 :: v31 :: v32 :: v33 :: v34 :: v35 :: v36 :: v37 :: v38 :: v39 :: v40 :: v41 :: v42 :: v43 :: v44 :: v45 :: v46 :: v47 :: v48 :: .pointer (some ⟨w.heap.size, 12, none⟩) :: .slice A.o 0 A.po :: .int .i64 ((0 : Nat) : Int) :: .bool (decide (0 < ((0 : Nat) : Int))) :: .pointer (some ⟨w.heap.size, 12, none⟩) :: .slice A.o 0 A.po :: .int .i64 ((0 : Nat) : Int) :: .bool true :: .bool true :: .pointer (some ⟨w.heap.size, 16, none⟩) :: .slice (some ⟨b, o, none⟩) 4 A.ps :: .pointer (some ⟨b, o + 2, none⟩) :: .int .i64 (shZ c 2) :: .bool ((shZ c 2) == 1) :: .bool ((shZ c 2) == 1) :: .slice (some ⟨W.heap.size, 0, none⟩) 2 2 :: []).toArray, []⟩) (by kernel_rfl) (by kernel_rfl) ?_
  exact wpAnyH_done (by kernel_rfl) (hend _ _ _ _ _ _ _ _ _ _ _ _ _ _ _ _ _ _ hbs) _
set_option maxRecDepth 100000 in
set_option maxHeartbeats 1600000 in
theorem cmu_1 (c : Cw) (A : A7) (P : Nat → Prop) (w : World) (n : Nat) (hn : c.out.length = n + 1) (W0 : World) {v0 v1 v3 v4 v5 v6 v7 v8 v9 v10 v11 v12 v13 v14 v15 v16 v17 v18 v19 v20 v21 v22 v23 v24 v25 v26 v27 v28 v29 v30 v31 v32 v33 v34 v35 v36 v37 v38 v39 v40 v41 v42 v43 v44 v45 v46 v47 v48 v49 v50 v51 v52 v53 v54 v55 v56 v57 v58 v59 v60 v61 v62 v63 v64 : Value} (Q : Exit → Act → World → Prop) (hQ : ∀ c a d v w, Q (.panic c) (Act.put a d v) w → Q (.panic c) a w) (hS : Ag P w W0.drew c A)
    (hend : ∀ (n49 n50 n51 n52 n53 n54 n55 n56 n57 n58 n59 n60 n61 n62 n63 n64 s : Value) W', BsEnd w W' (.returned s) [(decide (0 < (((n + 1) : Nat) : Int))), false] → Q .normal ⟨(v0 :: v1 :: .pointer (some ⟨w.heap.size, 0, none⟩) :: v3 :: s :: v5 :: v6 :: v7 :: v8 :: v9 :: v10 :: v11 :: v12 :: v13 :: v14 :: v15 :: v16 :: v17 :: v18 :: v19 :: v20 :: v21 :: v22 :: v23 :: v24 :: v25 :: v26 :: v27 :: v28 :: v29 :: v30 :: v31 :: v32 :: v33 :: v34 :: v35 :: v36 :: v37 :: v38 :: v39 :: v40 :: v41 :: v42 :: v43 :: v44 :: v45 :: v46 :: v47 :: v48 :: n49 :: n50 :: n51 :: n52 :: n53 :: n54 :: n55 :: n56 :: n57 :: n58 :: n59 :: n60 :: n61 :: n62 :: n63 :: n64 :: []).toArray, []⟩ W') : (Code.region 11 cmuOps true).wp Tryz.prog Q ⟨(v0 :: v1 :: .pointer (some ⟨w.heap.size, 0, none⟩) :: v3 :: v4 :: v5 :: v6 :: v7 :: v8 :: v9 :: v10 :: v11 :: v12 :: v13 :: v14 :: v15 :: v16 :: v17 :: v18 :: v19 :: v20 :: v21 :: v22 :: v23 :: v24 :: v25 :: v26 :: v27 :: v28 :: v29 :: v30 :: v31 :: v32 :: v33 :: v34 :: v35 :: v36 :: v37 :: v38 :: v39 :: v40 :: v41 :: v42 :: v43 :: v44 :: v45 :: v46 :: v47 :: v48 :: v49 :: v50 :: v51 :: v52 :: v53 :: v54 :: v55 :: v56 :: v57 :: v58 :: v59 :: v60 :: v61 :: v62 :: v63 :: v64 :: []).toArray, []⟩ W0 := by
  have hs := cmu_neat
  refine wp_region_held (S := fun W => Ag P w W c A) (by kernel_rfl) ?_
  refine any_eq (l' := #[false, false, false, false, false, false, false, false, false, false, false, false, false, false, false, false, false]) (by kernel_rfl) rfl ?_
  show wpAnyH Tryz.prog .any cmuOps Q (fun W => Ag P w W c A) 17 _ _ W0.drew
  generalize W0.drew = W at hS ⊢
  refine take_anyG 0 (some 49) (.pointer (some ⟨w.heap.size, 12, none⟩)) hs hQ (by kernel_rfl) (by kernel_rfl) (fun w _ => by kernel_rfl) hS ?_
  refine take_loadG 1 (some 50) 23 (.tmp 49) ⟨w.heap.size, 12, none⟩ (.slice A.o (n + 1) A.po) hs hQ (by kernel_rfl) (by kernel_rfl) (by kernel_rfl) (by kernel_rfl) (fun w h => ld25 w _ _ (by have := h.k12; rw [hn] at this; exact this)) hS ?_
  refine take_anyG 2 (some 51) (.int .i64 (((n + 1) : Nat) : Int)) hs hQ (by kernel_rfl) (by kernel_rfl) (fun w _ => by kernel_rfl) hS ?_
  refine take_anyG 3 (some 52) (.bool (decide (0 < (((n + 1) : Nat) : Int)))) hs hQ (by kernel_rfl) (by kernel_rfl) (fun w _ => by kernel_rfl) hS ?_
  refine take_anyG 4 (some 53) (.pointer (some ⟨w.heap.size, 12, none⟩)) hs hQ (by kernel_rfl) (by kernel_rfl) (fun w _ => by kernel_rfl) hS ?_
  refine take_loadG 5 (some 54) 23 (.tmp 53) ⟨w.heap.size, 12, none⟩ (.slice A.o (n + 1) A.po) hs hQ (by kernel_rfl) (by kernel_rfl) (by kernel_rfl) (by kernel_rfl) (fun w h => ld25 w _ _ (by have := h.k12; rw [hn] at this; exact this)) hS ?_
  refine take_anyG 6 (some 55) (.int .i64 (((n + 1) : Nat) : Int)) hs hQ (by kernel_rfl) (by kernel_rfl) (fun w _ => by kernel_rfl) hS ?_
  refine take_anyG 7 (some 56) (.bool false) hs hQ (by kernel_rfl) (by kernel_rfl) (fun w _ => by kernel_rfl) hS ?_
  refine take_anyG 8 (some 57) (.bool false) hs hQ (by kernel_rfl) (by kernel_rfl) (fun w _ => by kernel_rfl) hS ?_
  refine take_skip 9 (some 58) hs hQ (by kernel_rfl) (by kernel_rfl) hS ?_
  refine take_skip 10 (some 59) hs hQ (by kernel_rfl) (by kernel_rfl) hS ?_
  refine take_skip 11 (some 60) hs hQ (by kernel_rfl) (by kernel_rfl) hS ?_
  refine take_skip 12 (some 61) hs hQ (by kernel_rfl) (by kernel_rfl) hS ?_
  refine take_skip 13 (some 62) hs hQ (by kernel_rfl) (by kernel_rfl) hS ?_
  refine take_anyG 14 (some 63) (.bool false) hs hQ (by kernel_rfl) (by kernel_rfl) (fun w _ => by kernel_rfl) hS ?_
  refine any_eq (l' := #[true, true, true, true, true, true, true, true, true, true, true, true, true, true, true, false, false]) (a' := ⟨(v0 :: v1 :: .pointer (some ⟨w.heap.size, 0, none⟩) :: v3 :: v4 :: v5 :: v6 :: v7 :: v8 :: v9 :: v10 :: v11 :: v12 :: v13 :: v14 :: v15 :: v16 :: v17 :: v18 :: v19 :: v20 :: v21 :: v22 :: v23 :: v24 :: v25 :: v26 :: v27 :: v28 :: v29 :: v30 :: v31 :: v32 :: v33 :: v34 :: v35 :: v36 :: v37 :: v38 :: v39 :: v40 :: v41 :: v42 :: v43 :: v44 :: v45 :: v46 :: v47 :: v48 :: .pointer (some ⟨w.heap.size, 12, none⟩) :: .slice A.o (n + 1) A.po :: .int .i64 (((n + 1) : Nat) : Int) :: .bool (decide (0 < (((n + 1) : Nat) : Int))) :: .pointer (some ⟨w.heap.size, 12, none⟩) :: .slice A.o (n + 1) A.po :: .int .i64 (((n + 1) : Nat) : Int) :: .bool false :: .bool false :: undef :: undef :: undef :: undef :: undef :: .bool false :: v64 :: []).toArray, []⟩) (by kernel_rfl) (by kernel_rfl) ?_
  refine ready_one 15 (by kernel_rfl) ?_
  refine op_val (w' := (W.alloc (.cells #[.bool (decide (0 < (((n + 1) : Nat) : Int))), .bool false] 4))) (some 64) (.slice (some ⟨W.heap.size, 0, none⟩) 2 2) (by kernel_rfl) (by kernel_rfl) ?_
  have hS1 : Ag P w (W.alloc (.cells #[.bool (decide (0 < (((n + 1) : Nat) : Int))), .bool false] 4)) c A := hS.on ((Below.refl _ _).alloc (Nat.le_refl _) _)
  have hbs := bs_new hS.bel [(decide (0 < (((n + 1) : Nat) : Int))), false] (by simp)
  refine And.intro hS1 ?_
  refine take_any 16 (some 4) (.slice (some ⟨W.heap.size, 0, none⟩) 2 2) hs hQ (by kernel_rfl) (fun w _ => by kernel_rfl) hS1 ?_
  refine any_eq (l' := #[true, true, true, true, true, true, true, true, true, true, true, true, true, true, true, true, true]) (a' := ⟨(v0 :: v1 :: .pointer (some ⟨w.heap.size, 0, none⟩) :: v3 :: .slice (some ⟨W.heap.size, 0, none⟩) 2 2 :: v5 :: v6 :: v7 :: v8 :: v9 :: v10 :: v11 :: v12 :: v13 :: v14 :: v15 :: v16 :: v17 :: v18 :: v19 :: v20 :: v21 :: v22 :: v23 :: v24 :: v25 :: v26 :: v27 :: v28 :: v29 :: v30 :: v31 :: v32 :: v33 :: v34 :: v35 :: v36 :: v37 :: v38 :: v39 :: v40 :: v41 :: v42 :: v43 :: v44 :: v45 :: v46 :: v47 :: v48 :: .pointer (some ⟨w.heap.size, 12, none⟩) :: .slice A.o (n + 1) A.po :: .int .i64 (((n + 1) : Nat) : Int) :: .bool (decide (0 < (((n + 1) : Nat) : Int))) :: .pointer (some ⟨w.heap.size, 12, none⟩) :: .slice A.o (n + 1) A.po :: .int .i64 (((n + 1) : Nat) : Int) :: .bool false :: .bool false :: undef :: undef :: undef :: undef :: undef :: .bool false :: .slice (some ⟨W.heap.size, 0, none⟩) 2 2 :: []).toArray, []⟩) (by kernel_rfl) (by kernel_rfl) ?_
  exact wpAnyH_done (by kernel_rfl) (hend _ _ _ _ _ _ _ _ _ _ _ _ _ _ _ _ _ _ hbs) _
end Go.Proofs.YtibgjcejddpldaaGreat
