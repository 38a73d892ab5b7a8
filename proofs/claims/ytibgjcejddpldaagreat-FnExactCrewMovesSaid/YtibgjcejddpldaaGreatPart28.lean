/- The walks of the specification's l52Keeper, l52Worker. No conditions. -/
import Derived.Test.YtibgjcejddpldaaGreatPart26
import Derived.Test.YtibgjcejddpldaaGreatPart27
import Derived.Deep.RegionHeld3
import Derived.Handy
namespace Go.Proofs.YtibgjcejddpldaaGreat
open Go Go.RowKit

theorem beq0 (n : Nat) : ((n : Int) == 0) = decide (n = 0) := by by_cases h : n = 0 <;> simp [h]
theorem three0 (s t : Bool) : [decide (0 < 0), s, decide (0 = 0) && t] = [decide ((0 : Int) < ((0 : Nat) : Int)), s, t] := rfl
theorem three1 (n : Nat) (s t : Bool) : [decide (0 < n + 1), s, decide (n + 1 = 0) && t] = [decide ((0 : Int) < ((n + 1 : Nat) : Int)), s, false] := by
  rw [show decide (0 < n + 1) = true from decide_eq_true (by omega), show decide (n + 1 = 0) = false from decide_eq_false (by omega), show decide ((0 : Int) < ((n + 1 : Nat) : Int)) = true from decide_eq_true (by omega)]
  rfl
set_option maxRecDepth 100000 in
set_option maxHeartbeats 3200000 in
theorem l52Keeper_any (c : Cw) (A : A7) (P : Nat → Prop) (w : World) (h : CwAt P w c (A.v c)) (hP : ∀ b, P b → b < w.heap.size) (hF : Form c) : Calls Tryz.prog 70 #[.agg #[.int .i64 c.jobs, .int .i64 c.workers, .int .i64 c.window, .int .i64 c.next, .int .i64 c.reader, .slice A.q c.queue.length A.pq, .slice A.h c.hands.length A.ph, .int .i64 c.closer, .slice A.r c.results.length A.pr, .int .i64 c.keeper, .slice A.g c.ring.length A.pg, .int .i64 c.due, .slice A.o c.out.length A.po, .int .i64 c.user, .slice A.t c.got.length A.pt, .int .i64 c.room, .slice A.s c.shut.length A.ps, .int .i64 c.ops]] w fun e w' => BsEnd w w' e (wayK c) := by
  have HS := hide (Ag.start h hP)
  obtain ⟨b, o, hA, k16, ks⟩ := (unhide HS).sh hF 3 (by omega)
  have k9 := (unhide HS).k9; have k12 := (unhide HS).k12
  have hol : c.out.length ≤ 9223372036854775807 := by have := hF.out; omega
  have HF := hide hF; have HA := hide hA
  clear h hP hF hA
  have HB := hide (unhide HS).bel
  go_enter Tryz.func70, Tryz.ntmps70
  go_upto_region 1 with fail
  generalize w.alloc (.cells #[.int .i64 c.jobs, .int .i64 c.workers, .int .i64 c.window, .int .i64 c.next, .int .i64 c.reader, .slice A.q c.queue.length A.pq, .slice A.h c.hands.length A.ph, .int .i64 c.closer, .slice A.r c.results.length A.pr, .int .i64 c.keeper, .slice A.g c.ring.length A.pg, .int .i64 c.due, .slice A.o c.out.length A.po, .int .i64 c.user, .slice A.t c.got.length A.pt, .int .i64 c.room, .slice A.s c.shut.length A.ps, .int .i64 c.ops] 26) = W0 at HS HB k16 ks k9 k12 ⊢
  by_cases r0 : c.keeper = 0
  · rw [r0] at k9
    rcases Nat.eq_zero_or_pos c.results.length with hn | hn
    · have HV := hide (show wayK c = [decide ((0 : Int) < ((0 : Nat) : Int)), (shZ c 3 == 1), (shZ c 1 == 1)] from by unfold wayK; rw [if_pos r0, hn]; exact three0 _ _)
      have HN := hide hn
      clear hn r0 k12
      go_upto_region 4 with fail
      refine wp_swap (c' := Code.region 4 cmkOps true) (by kernel_rfl) ?_
      refine wp_region_noPanic ?_
      refine cmk_0 c A P w (unhide HF) b o (unhide HA) (unhide HN) (shZ c 3 == 1) _ _ (fun _ _ _ _ _ h => h) ((unhide HS).on (below_drewN _ 1)) ?_
      intro n13 n14 n15 n16 n17 n18 n19 n20 n21 n22 n23 n24 n25 n26 n27 n28 n29 s W' hbs
      refine NoPanic.normal ?_
      have HBS := hide hbs
      clear hbs
      go_wp2_with fail
      go_ret
      rw [unhide HV]; exact unhide HBS
    · obtain ⟨n, hn⟩ : ∃ n, c.results.length = n + 1 := ⟨c.results.length - 1, by omega⟩
      have HV := hide (show wayK c = [decide ((0 : Int) < ((n + 1 : Nat) : Int)), (shZ c 3 == 1), false] from by unfold wayK; rw [if_pos r0, hn]; exact three1 _ _ _)
      have HN := hide hn
      clear hn r0 k12
      go_upto_region 4 with fail
      refine wp_swap (c' := Code.region 4 cmkOps true) (by kernel_rfl) ?_
      refine wp_region_noPanic ?_
      refine cmk_1 c A P w n (unhide HN) (shZ c 3 == 1) _ _ (fun _ _ _ _ _ h => h) ((unhide HS).on (below_drewN _ 1)) ?_
      intro n13 n14 n15 n16 n17 n18 n19 n20 n21 n22 n23 n24 n25 n26 n27 n28 n29 s W' hbs
      refine NoPanic.normal ?_
      have HBS := hide hbs
      clear hbs
      go_wp2_with fail
      go_ret
      rw [unhide HV]; exact unhide HBS
  clear HS HF HA
  have z0 : (c.keeper == 0) = false := by simp [r0]
  by_cases r1 : c.keeper = 2
  · have HV := hide (show wayK c = [((c.out.length : Int) == 0), (shZ c 3 == 1)] from by unfold wayK; rw [if_neg r0, if_pos r1, beq0]; rfl)
    rw [r1] at k9
    clear r1 z0 r0
    generalize shZ c 3 = x3 at ks HV
    generalize c.out.length = x5 at k12 hol HV
    go_wp2_with fail
    go_ret
    rw [unhide HV]
    exact bs_new (unhide HB) [((x5 : Int) == 0), (x3 == 1)] (by simp)
  have z1 : (c.keeper == 2) = false := by simp [r1]
  by_cases r2 : c.keeper = 5
  · have HV := hide (show wayK c = [] from by unfold wayK; rw [if_neg r0, if_neg r1, if_pos r2])
    rw [r2] at k9
    clear r2 z0 z1 r0 r1
    go_wp2_with fail
    go_ret
    rw [unhide HV]
    exact bs_new (unhide HB) [] (by simp)
  · have HV := hide (show wayK c = [true] from by unfold wayK; rw [if_neg r0, if_neg r1, if_neg r2])
    have z2 : (c.keeper == 5) = false := by simp [r2]
    clear r2 r0 r1
    generalize c.keeper = x7 at k9 z0 z1 z2
    go_wp2_with fail
    go_ret
    rw [unhide HV]
    exact bs_new (unhide HB) [true] (by simp)
set_option maxRecDepth 100000 in
set_option maxHeartbeats 3200000 in
theorem l52Worker_any (c : Cw) (A : A7) (P : Nat → Prop) (w : World) (h : CwAt P w c (A.v c)) (hP : ∀ b, P b → b < w.heap.size) (hF : Form c) (d : Hd) : Calls Tryz.prog 68 #[.agg #[.int .i64 c.jobs, .int .i64 c.workers, .int .i64 c.window, .int .i64 c.next, .int .i64 c.reader, .slice A.q c.queue.length A.pq, .slice A.h c.hands.length A.ph, .int .i64 c.closer, .slice A.r c.results.length A.pr, .int .i64 c.keeper, .slice A.g c.ring.length A.pg, .int .i64 c.due, .slice A.o c.out.length A.po, .int .i64 c.user, .slice A.t c.got.length A.pt, .int .i64 c.room, .slice A.s c.shut.length A.ps, .int .i64 c.ops], .agg #[.int .i64 d.state, .int .i64 d.job]] w fun e w' => BsEnd w w' e (wayW c d) := by
  have HS := hide ((Ag.start h hP).on ((Below.refl _ _).alloc (Nat.le_refl _) (.cells #[.int .i64 d.state, .int .i64 d.job] 73)))
  obtain ⟨b, o, hA, k16, ks⟩ := (unhide HS).sh hF 3 (by omega)
  have k1 := (unhide HS).k1; have k8 := (unhide HS).k8
  have hrl : c.results.length ≤ 9223372036854775807 := by have := hF.results; have := hF.st.2.1.2; omega
  have HF := hide hF; have HA := hide hA
  have kd : ((w.alloc (.cells #[.int .i64 c.jobs, .int .i64 c.workers, .int .i64 c.window, .int .i64 c.next, .int .i64 c.reader, .slice A.q c.queue.length A.pq, .slice A.h c.hands.length A.ph, .int .i64 c.closer, .slice A.r c.results.length A.pr, .int .i64 c.keeper, .slice A.g c.ring.length A.pg, .int .i64 c.due, .slice A.o c.out.length A.po, .int .i64 c.user, .slice A.t c.got.length A.pt, .int .i64 c.room, .slice A.s c.shut.length A.ps, .int .i64 c.ops] 26)).alloc (.cells #[.int .i64 d.state, .int .i64 d.job] 73)).cell? ⟨w.heap.size + 1, 0, none⟩ = some (.int .i64 d.state) := by
    have := (World.rowIs_alloc (w.alloc (.cells #[.int .i64 c.jobs, .int .i64 c.workers, .int .i64 c.window, .int .i64 c.next, .int .i64 c.reader, .slice A.q c.queue.length A.pq, .slice A.h c.hands.length A.ph, .int .i64 c.closer, .slice A.r c.results.length A.pr, .int .i64 c.keeper, .slice A.g c.ring.length A.pg, .int .i64 c.due, .slice A.o c.out.length A.po, .int .i64 c.user, .slice A.t c.got.length A.pt, .int .i64 c.room, .slice A.s c.shut.length A.ps, .int .i64 c.ops] 26)) #[.int .i64 d.state, .int .i64 d.job] 73 (fun i => (#[.int .i64 d.state, .int .i64 d.job] : Array Value)[i]?.getD undef) (fun i hi => by simp at hi; simp [hi])).cell (i := 0) (by simp)
    rw [World.size_alloc] at this
    exact this
  clear h hP hF hA
  have HB := hide (unhide HS).bel
  go_enter Tryz.func68, Tryz.ntmps68
  go_upto_region 1 with fail
  generalize (w.alloc (.cells #[.int .i64 c.jobs, .int .i64 c.workers, .int .i64 c.window, .int .i64 c.next, .int .i64 c.reader, .slice A.q c.queue.length A.pq, .slice A.h c.hands.length A.ph, .int .i64 c.closer, .slice A.r c.results.length A.pr, .int .i64 c.keeper, .slice A.g c.ring.length A.pg, .int .i64 c.due, .slice A.o c.out.length A.po, .int .i64 c.user, .slice A.t c.got.length A.pt, .int .i64 c.room, .slice A.s c.shut.length A.ps, .int .i64 c.ops] 26)).alloc (.cells #[.int .i64 d.state, .int .i64 d.job] 73) = W0 at HS HB k16 ks k1 k8 kd ⊢
  by_cases r0 : d.state = 0
  · rw [r0] at kd
    rcases Nat.eq_zero_or_pos c.queue.length with hn | hn
    · have HV := hide (show wayW c d = [decide ((0 : Int) < ((0 : Nat) : Int)), (shZ c 3 == 1), (shZ c 0 == 1)] from by unfold wayW; rw [if_pos r0, hn]; exact three0 _ _)
      have HN := hide hn
      clear hn r0 k8 k1
      go_upto_region 4 with fail
      refine wp_swap (c' := Code.region 4 cmwOps true) (by kernel_rfl) ?_
      refine wp_region_noPanic ?_
      refine cmw_0 c A P w (unhide HF) b o (unhide HA) (unhide HN) (shZ c 3 == 1) _ _ (fun _ _ _ _ _ h => h) ((unhide HS).on (below_drewN _ 1)) ?_
      intro n15 n16 n17 n18 n19 n20 n21 n22 n23 n24 n25 n26 n27 n28 n29 n30 n31 s W' hbs
      refine NoPanic.normal ?_
      have HBS := hide hbs
      clear hbs
      go_wp2_with fail
      go_ret
      rw [unhide HV]; exact unhide HBS
    · obtain ⟨n, hn⟩ : ∃ n, c.queue.length = n + 1 := ⟨c.queue.length - 1, by omega⟩
      have HV := hide (show wayW c d = [decide ((0 : Int) < ((n + 1 : Nat) : Int)), (shZ c 3 == 1), false] from by unfold wayW; rw [if_pos r0, hn]; exact three1 _ _ _)
      have HN := hide hn
      clear hn r0 k8 k1
      go_upto_region 4 with fail
      refine wp_swap (c' := Code.region 4 cmwOps true) (by kernel_rfl) ?_
      refine wp_region_noPanic ?_
      refine cmw_1 c A P w n (unhide HN) (shZ c 3 == 1) _ _ (fun _ _ _ _ _ h => h) ((unhide HS).on (below_drewN _ 1)) ?_
      intro n15 n16 n17 n18 n19 n20 n21 n22 n23 n24 n25 n26 n27 n28 n29 n30 n31 s W' hbs
      refine NoPanic.normal ?_
      have HBS := hide hbs
      clear hbs
      go_wp2_with fail
      go_ret
      rw [unhide HV]; exact unhide HBS
  clear HS HF HA
  have z0 : (d.state == 0) = false := by simp [r0]
  by_cases r1 : d.state = 1
  · have HV := hide (show wayW c d = [true] from by unfold wayW; rw [if_neg r0, if_pos r1])
    rw [r1] at kd
    clear r1 z0 r0
    go_wp2_with fail
    go_ret
    rw [unhide HV]
    exact bs_new (unhide HB) [true] (by simp)
  have z1 : (d.state == 1) = false := by simp [r1]
  by_cases r2 : d.state = 2
  · have HV := hide (show wayW c d = [decide ((c.results.length : Int) < c.workers), (shZ c 3 == 1)] from by unfold wayW; rw [if_neg r0, if_neg r1, if_pos r2]; rfl)
    rw [r2] at kd
    clear r2 z0 z1 r0 r1
    generalize shZ c 3 = x3 at ks HV
    generalize c.results.length = x5 at k8 hrl HV
    generalize c.workers = x6 at k1 HV
    go_wp2_with fail
    go_ret
    rw [unhide HV]
    exact bs_new (unhide HB) [decide ((x5 : Int) < x6), (x3 == 1)] (by simp)
  · have HV := hide (show wayW c d = [] from by unfold wayW; rw [if_neg r0, if_neg r1, if_neg r2])
    have z2 : (d.state == 2) = false := by simp [r2]
    clear r2 r0 r1
    generalize d.state = x7 at kd z0 z1 z2
    go_wp2_with fail
    go_ret
    rw [unhide HV]
    exact bs_new (unhide HB) [] (by simp)
end Go.Proofs.YtibgjcejddpldaaGreat

/- The walk of the specification's l52Ways. No conditions. -/

namespace Go.Proofs.YtibgjcejddpldaaGreat
open Go Go.RowKit

theorem run_idxH {ops : Array Oper} {a : Act} (i : Nat) (x y : Operand) (g o n p k : Nat) (ho : (opI ops i).op = .indexAddr 24 x y) (hx : a.eval x = .slice (some ⟨g, o, none⟩) n p) (hy : a.eval y = .int .i64 (k : Nat)) (hk : k < n) (hn : n ≤ 8) (w : World) : (execOp a.eval (opI ops i)).run Tryz.prog w = .ok (.value (.pointer (some ⟨g, o + k * 2, none⟩))) w := by
  unfold execOp
  simp only [ho, hx, hy]
  clear hx hy ho
  rcases (show n = 1 ∨ n = 2 ∨ n = 3 ∨ n = 4 ∨ n = 5 ∨ n = 6 ∨ n = 7 ∨ n = 8 by omega) with rfl | rfl | rfl | rfl | rfl | rfl | rfl | rfl <;>
  rcases (show k = 0 ∨ k = 1 ∨ k = 2 ∨ k = 3 ∨ k = 4 ∨ k = 5 ∨ k = 6 ∨ k = 7 by omega) with rfl | rfl | rfl | rfl | rfl | rfl | rfl | rfl <;>
  first
  | omega
  | kernel_rfl
theorem rowHand : ∃ d, Tryz.prog.underlying 73 = some d ∧ d.isRow = true := ⟨_, Tryz.underlying73, by rfl⟩
theorem info2H : (Tryz.prog.info? 73).map (·.size) = some 2 := by kernel_rfl
theorem ldHand {W : World} {b o : Nat} {s j : Int} (h0 : W.cell? ⟨b, o, none⟩ = some (.int .i64 s)) (h1 : W.cell? ⟨b, o + 1, none⟩ = some (.int .i64 j)) : (Instr.loadAt 73 (.pointer (some ⟨b, o, none⟩))).run Tryz.prog W = .ok (.agg #[.int .i64 s, .int .i64 j]) W := by
  obtain ⟨dd, hdu, hdr⟩ := rowHand
  have hr : W.rangeAt b o [.int .i64 s, .int .i64 j] := fun i v hv => by
    match i, hv with
    | 0, hv => simp only [List.getElem?_cons_zero, Option.some.injEq] at hv; subst hv; exact h0
    | 1, hv => simp only [List.getElem?_cons_succ, List.getElem?_cons_zero, Option.some.injEq] at hv; subst hv; exact h1
    | _ + 2, hv => simp at hv
  unfold Instr.loadAt
  simp only [Instr.sureAddr, Sem.run_bind, Sem.run_pure, Result.andThen_ok, run_loadVar_mid W b o 73 [.int .i64 s, .int .i64 j] dd hr hdu hdr info2H]
theorem Ag.hdA {P : Nat → Prop} {w W : World} {c : Cw} {A : A7} (h : Ag P w W c A) {b o : Nat} (hA : A.h = some ⟨b, o, none⟩) (k : Nat) (hk : k < c.hands.length) : W.cell? ⟨b, o + k * 2, none⟩ = some (.int .i64 c.hands[k].state) ∧ W.cell? ⟨b, o + k * 2 + 1, none⟩ = some (.int .i64 c.hands[k].job) := by
  obtain ⟨b', o', e, h1, h2⟩ := h.at_h k hk
  rw [hA] at e
  simp only [Option.some.injEq, Addr.mk.injEq, and_true] at e
  obtain ⟨rfl, rfl⟩ := e
  exact ⟨h1, h2⟩
noncomputable def cm4Ops : Array Oper := fops Tryz.f37 4
theorem cm4_neat : Region.noSelect cm4Ops = true ∧ neat cm4Ops = true := ⟨by kernel_rfl, by kernel_rfl⟩
set_option maxRecDepth 100000 in
set_option maxHeartbeats 1600000 in
theorem cm4 (c : Cw) (A : A7) (P : Nat → Prop) (w : World) (hF : Form c) (b o : Nat) (hA : A.h = some ⟨b, o, none⟩) (k : Nat) (hk : k < c.hands.length) (hh : c.hands.length ≤ 8) (z : Int) (hw : IntKind.i64.wrap (z - 1) = (k : Nat)) (W0 : World) {v0 v3 v4 v5 v6 v7 v8 v9 v10 v11 v12 v13 v14 v15 v16 v17 v18 v19 v20 v21 v22 v23 v24 v25 v26 v27 v28 v29 v30 v31 v32 v33 v34 v35 v36 v37 v38 v39 v40 v41 v42 v43 v44 v45 v46 v47 v48 v49 v50 v51 v52 v53 v54 v55 v56 v57 v58 v59 v60 v61 v62 v63 v64 : Value} (Q : Exit → Act → World → Prop) (hQ : ∀ c a d v w, Q (.panic c) (Act.put a d v) w → Q (.panic c) a w) (hS : Ag P w W0.drew c A)
    (hend : ∀ (n15 n16 n17 n18 n19 n20 n21 n22 s : Value) W', BsEnd w W' (.returned s) (wayW c c.hands[k]) → Q .normal ⟨(v0 :: .int .i64 z :: .pointer (some ⟨w.heap.size, 0, none⟩) :: v3 :: s :: v5 :: v6 :: v7 :: v8 :: v9 :: v10 :: v11 :: v12 :: v13 :: v14 :: n15 :: n16 :: n17 :: n18 :: n19 :: n20 :: n21 :: n22 :: v23 :: v24 :: v25 :: v26 :: v27 :: v28 :: v29 :: v30 :: v31 :: v32 :: v33 :: v34 :: v35 :: v36 :: v37 :: v38 :: v39 :: v40 :: v41 :: v42 :: v43 :: v44 :: v45 :: v46 :: v47 :: v48 :: v49 :: v50 :: v51 :: v52 :: v53 :: v54 :: v55 :: v56 :: v57 :: v58 :: v59 :: v60 :: v61 :: v62 :: v63 :: v64 :: []).toArray, []⟩ W') : (Code.region 4 cm4Ops true).wp Tryz.prog Q ⟨(v0 :: .int .i64 z :: .pointer (some ⟨w.heap.size, 0, none⟩) :: v3 :: v4 :: v5 :: v6 :: v7 :: v8 :: v9 :: v10 :: v11 :: v12 :: v13 :: v14 :: v15 :: v16 :: v17 :: v18 :: v19 :: v20 :: v21 :: v22 :: v23 :: v24 :: v25 :: v26 :: v27 :: v28 :: v29 :: v30 :: v31 :: v32 :: v33 :: v34 :: v35 :: v36 :: v37 :: v38 :: v39 :: v40 :: v41 :: v42 :: v43 :: v44 :: v45 :: v46 :: v47 :: v48 :: v49 :: v50 :: v51 :: v52 :: v53 :: v54 :: v55 :: v56 :: v57 :: v58 :: v59 :: v60 :: v61 :: v62 :: v63 :: v64 :: []).toArray, []⟩ W0 := by
  have hs := cm4_neat
  refine wp_region_held (S := fun W => Ag P w W c A) (by kernel_rfl) ?_
  refine any_eq (l' := #[false, false, false, false, false, false, false, false, false]) (by kernel_rfl) rfl ?_
  show wpAnyH Tryz.prog .any cm4Ops Q (fun W => Ag P w W c A) 9 _ _ W0.drew
  generalize W0.drew = W at hS ⊢
  refine take_load 0 (some 15) 26 (.tmp 2) ⟨w.heap.size, 0, none⟩ (.agg #[.int .i64 c.jobs, .int .i64 c.workers, .int .i64 c.window, .int .i64 c.next, .int .i64 c.reader, .slice A.q c.queue.length A.pq, .slice A.h c.hands.length A.ph, .int .i64 c.closer, .slice A.r c.results.length A.pr, .int .i64 c.keeper, .slice A.g c.ring.length A.pg, .int .i64 c.due, .slice A.o c.out.length A.po, .int .i64 c.user, .slice A.t c.got.length A.pt, .int .i64 c.room, .slice A.s c.shut.length A.ps, .int .i64 c.ops]) hs hQ (by kernel_rfl) (by kernel_rfl) (by kernel_rfl) (fun w h => h.ld) hS ?_
  refine take_any 1 (some 16) (.pointer (some ⟨w.heap.size, 6, none⟩)) hs hQ (by kernel_rfl) (fun w _ => by kernel_rfl) hS ?_
  refine take_load 2 (some 17) 24 (.tmp 16) ⟨w.heap.size, 6, none⟩ (.slice (some ⟨b, o, none⟩) c.hands.length A.ph) hs hQ (by kernel_rfl) (by kernel_rfl) (by kernel_rfl) (fun w h => ld26 w _ _ (by have := h.k6; rw [hA] at this; exact this)) hS ?_
  refine take_any 3 (some 18) (.int .i64 z) hs hQ (by kernel_rfl) (fun w _ => by kernel_rfl) hS ?_
  refine take_any 4 (some 19) (.int .i64 (IntKind.i64.wrap (z - 1))) hs hQ (by kernel_rfl) (fun w _ => by kernel_rfl) hS ?_
  rw [hw]
  refine take_any 5 (some 20) (.pointer (some ⟨b, o + k * 2, none⟩)) hs hQ (by kernel_rfl) (fun w _ => run_idxH 5 (.tmp 17) (.tmp 19) b o c.hands.length A.ph k (by kernel_rfl) (by kernel_rfl) (by kernel_rfl) hk hh w) hS ?_
  refine take_load 6 (some 21) 73 (.tmp 20) ⟨b, o + k * 2, none⟩ (.agg #[.int .i64 (c.hands[k]).state, .int .i64 (c.hands[k]).job]) hs hQ (by kernel_rfl) (by kernel_rfl) (by kernel_rfl) (fun w h => ldHand (h.hdA hA k hk).1 (h.hdA hA k hk).2) hS ?_
  refine any_eq (l' := #[true, true, true, true, true, true, true, false, false]) (a' := ⟨(v0 :: .int .i64 z :: .pointer (some ⟨w.heap.size, 0, none⟩) :: v3 :: v4 :: v5 :: v6 :: v7 :: v8 :: v9 :: v10 :: v11 :: v12 :: v13 :: v14 :: .agg #[.int .i64 c.jobs, .int .i64 c.workers, .int .i64 c.window, .int .i64 c.next, .int .i64 c.reader, .slice A.q c.queue.length A.pq, .slice A.h c.hands.length A.ph, .int .i64 c.closer, .slice A.r c.results.length A.pr, .int .i64 c.keeper, .slice A.g c.ring.length A.pg, .int .i64 c.due, .slice A.o c.out.length A.po, .int .i64 c.user, .slice A.t c.got.length A.pt, .int .i64 c.room, .slice A.s c.shut.length A.ps, .int .i64 c.ops] :: .pointer (some ⟨w.heap.size, 6, none⟩) :: .slice (some ⟨b, o, none⟩) c.hands.length A.ph :: .int .i64 z :: .int .i64 (k : Nat) :: .pointer (some ⟨b, o + k * 2, none⟩) :: .agg #[.int .i64 (c.hands[k]).state, .int .i64 (c.hands[k]).job] :: v22 :: v23 :: v24 :: v25 :: v26 :: v27 :: v28 :: v29 :: v30 :: v31 :: v32 :: v33 :: v34 :: v35 :: v36 :: v37 :: v38 :: v39 :: v40 :: v41 :: v42 :: v43 :: v44 :: v45 :: v46 :: v47 :: v48 :: v49 :: v50 :: v51 :: v52 :: v53 :: v54 :: v55 :: v56 :: v57 :: v58 :: v59 :: v60 :: v61 :: v62 :: v63 :: v64 :: []).toArray, []⟩) (by kernel_rfl) (by kernel_rfl) ?_
  refine ready_one 7 (by kernel_rfl) ?_
  refine op_enter (some 22) 68 #[.agg #[.int .i64 c.jobs, .int .i64 c.workers, .int .i64 c.window, .int .i64 c.next, .int .i64 c.reader, .slice A.q c.queue.length A.pq, .slice A.h c.hands.length A.ph, .int .i64 c.closer, .slice A.r c.results.length A.pr, .int .i64 c.keeper, .slice A.g c.ring.length A.pg, .int .i64 c.due, .slice A.o c.out.length A.po, .int .i64 c.user, .slice A.t c.got.length A.pt, .int .i64 c.room, .slice A.s c.shut.length A.ps, .int .i64 c.ops], .agg #[.int .i64 (c.hands[k]).state, .int .i64 (c.hands[k]).job]] (by kernel_rfl) (by kernel_rfl) (l52Worker_any c A P _ hS.at' hS.hand.2 hF c.hands[k]) ?_
  rintro e W1 ⟨a, cap, rfl, hbt, hb⟩
  have hS1 := hS.on hb
  have hsz := hS.bel.size
  have hbs : BsEnd w W1 (.returned (.slice a (wayW c c.hands[k]).length cap)) (wayW c c.hands[k]) := ⟨a, cap, rfl, hbt.carry (fun _ _ => rfl) (fun x hx => ⟨Nat.le_trans hsz hx.1, hx.2⟩), hS1.bel⟩
  refine ⟨_, rfl, hS1, ?_⟩
  refine any_eq (l' := #[true, true, true, true, true, true, true, true, false]) (a' := ⟨(v0 :: .int .i64 z :: .pointer (some ⟨w.heap.size, 0, none⟩) :: v3 :: v4 :: v5 :: v6 :: v7 :: v8 :: v9 :: v10 :: v11 :: v12 :: v13 :: v14 :: .agg #[.int .i64 c.jobs, .int .i64 c.workers, .int .i64 c.window, .int .i64 c.next, .int .i64 c.reader, .slice A.q c.queue.length A.pq, .slice A.h c.hands.length A.ph, .int .i64 c.closer, .slice A.r c.results.length A.pr, .int .i64 c.keeper, .slice A.g c.ring.length A.pg, .int .i64 c.due, .slice A.o c.out.length A.po, .int .i64 c.user, .slice A.t c.got.length A.pt, .int .i64 c.room, .slice A.s c.shut.length A.ps, .int .i64 c.ops] :: .pointer (some ⟨w.heap.size, 6, none⟩) :: .slice (some ⟨b, o, none⟩) c.hands.length A.ph :: .int .i64 z :: .int .i64 (k : Nat) :: .pointer (some ⟨b, o + k * 2, none⟩) :: .agg #[.int .i64 (c.hands[k]).state, .int .i64 (c.hands[k]).job] :: .slice a (wayW c c.hands[k]).length cap :: v23 :: v24 :: v25 :: v26 :: v27 :: v28 :: v29 :: v30 :: v31 :: v32 :: v33 :: v34 :: v35 :: v36 :: v37 :: v38 :: v39 :: v40 :: v41 :: v42 :: v43 :: v44 :: v45 :: v46 :: v47 :: v48 :: v49 :: v50 :: v51 :: v52 :: v53 :: v54 :: v55 :: v56 :: v57 :: v58 :: v59 :: v60 :: v61 :: v62 :: v63 :: v64 :: []).toArray, []⟩) (by kernel_rfl) (by kernel_rfl) ?_
  refine take_any 8 (some 4) (.slice a (wayW c c.hands[k]).length cap) hs hQ (by kernel_rfl) (fun w _ => by kernel_rfl) hS1 ?_
  refine any_eq (l' := #[true, true, true, true, true, true, true, true, true]) (a' := ⟨(v0 :: .int .i64 z :: .pointer (some ⟨w.heap.size, 0, none⟩) :: v3 :: .slice a (wayW c c.hands[k]).length cap :: v5 :: v6 :: v7 :: v8 :: v9 :: v10 :: v11 :: v12 :: v13 :: v14 :: .agg #[.int .i64 c.jobs, .int .i64 c.workers, .int .i64 c.window, .int .i64 c.next, .int .i64 c.reader, .slice A.q c.queue.length A.pq, .slice A.h c.hands.length A.ph, .int .i64 c.closer, .slice A.r c.results.length A.pr, .int .i64 c.keeper, .slice A.g c.ring.length A.pg, .int .i64 c.due, .slice A.o c.out.length A.po, .int .i64 c.user, .slice A.t c.got.length A.pt, .int .i64 c.room, .slice A.s c.shut.length A.ps, .int .i64 c.ops] :: .pointer (some ⟨w.heap.size, 6, none⟩) :: .slice (some ⟨b, o, none⟩) c.hands.length A.ph :: .int .i64 z :: .int .i64 (k : Nat) :: .pointer (some ⟨b, o + k * 2, none⟩) :: .agg #[.int .i64 (c.hands[k]).state, .int .i64 (c.hands[k]).job] :: .slice a (wayW c c.hands[k]).length cap :: v23 :: v24 :: v25 :: v26 :: v27 :: v28 :: v29 :: v30 :: v31 :: v32 :: v33 :: v34 :: v35 :: v36 :: v37 :: v38 :: v39 :: v40 :: v41 :: v42 :: v43 :: v44 :: v45 :: v46 :: v47 :: v48 :: v49 :: v50 :: v51 :: v52 :: v53 :: v54 :: v55 :: v56 :: v57 :: v58 :: v59 :: v60 :: v61 :: v62 :: v63 :: v64 :: []).toArray, []⟩) (by kernel_rfl) (by kernel_rfl) ?_
  exact wpAnyH_done (by kernel_rfl) (hend _ _ _ _ _ _ _ _ _ _ hbs) _
theorem bs_up {w W W' : World} {a : Option Addr} {cap : Nat} {bs : List Bool} (h : Below w.heap.size w W) (hbt : BAt (New W W') W' (.slice a bs.length cap) bs) (hb : Below W.heap.size W W') : BsEnd w W' (.returned (.slice a bs.length cap)) bs :=
  ⟨a, cap, rfl, hbt.carry (fun _ _ => rfl) (fun _ hx => ⟨Nat.le_trans h.size hx.1, hx.2⟩), h.trans (hb.mono h.size)⟩
set_option maxRecDepth 100000 in
set_option maxHeartbeats 3200000 in
theorem l52Ways_any (c : Cw) (A : A7) (P : Nat → Prop) (w : World) (h : CwAt P w c (A.v c)) (hP : ∀ b, P b → b < w.heap.size) (hF : Form c) (who : Nat) (hwho : who ≤ c.hands.length + 3) : Calls Tryz.prog 37 #[.agg #[.int .i64 c.jobs, .int .i64 c.workers, .int .i64 c.window, .int .i64 c.next, .int .i64 c.reader, .slice A.q c.queue.length A.pq, .slice A.h c.hands.length A.ph, .int .i64 c.closer, .slice A.r c.results.length A.pr, .int .i64 c.keeper, .slice A.g c.ring.length A.pg, .int .i64 c.due, .slice A.o c.out.length A.po, .int .i64 c.user, .slice A.t c.got.length A.pt, .int .i64 c.room, .slice A.s c.shut.length A.ps, .int .i64 c.ops], .int .i64 (who : Int)] w fun e w' => BsEnd w w' e (ways c who) := by
  have HS := hide (Ag.start h hP)
  obtain ⟨dd, hdu, hdr⟩ := rowWorld
  have hh := hF.small.1
  have HF := hide hF
  have HL := hide hh
  clear h hP hF
  obtain ⟨z, hz⟩ : ∃ z : Int, z = (who : Int) := ⟨_, rfl⟩
  rw [← hz]
  obtain ⟨y, hy⟩ : ∃ y : Int, y = (c.hands.length : Int) := ⟨_, rfl⟩
  have hw1 : IntKind.i64.wrap (y + 1) = y + 1 := by rw [IntKind.wrap_i64]; omega
  have hw2 : IntKind.i64.wrap (y + 2) = y + 2 := by rw [IntKind.wrap_i64]; omega
  have HZ := hide hz; have HY := hide hy
  go_enter Tryz.func37, Tryz.ntmps37
  go_upto_region 1 with fail
  generalize w.alloc (.cells #[.int .i64 c.jobs, .int .i64 c.workers, .int .i64 c.window, .int .i64 c.next, .int .i64 c.reader, .slice A.q c.queue.length A.pq, .slice A.h c.hands.length A.ph, .int .i64 c.closer, .slice A.r c.results.length A.pr, .int .i64 c.keeper, .slice A.g c.ring.length A.pg, .int .i64 c.due, .slice A.o c.out.length A.po, .int .i64 c.user, .slice A.t c.got.length A.pt, .int .i64 c.room, .slice A.s c.shut.length A.ps, .int .i64 c.ops] 26) = W0 at HS ⊢
  have k1 := (unhide HS).k1
  rw [← (unhide HF).hands, ← hy] at k1
  rcases Nat.eq_zero_or_pos who with h0 | h0
  · have HV := hide (show ways c who = wayR c from by unfold ways; rw [if_pos h0])
    have z0 : (z == 0) = true := by simp [hz, h0]
    clear h0 hz hy hwho hh HZ HY hw1 hw2
    go_upto_region 2 with fail
    refine wp_region_list ?_
    refine wpList_load_mid rfl _ _ rfl w.heap.size 0 rfl [.int .i64 c.jobs, .int .i64 c.workers, .int .i64 c.window, .int .i64 c.next, .int .i64 c.reader, .slice A.q c.queue.length A.pq, .slice A.h c.hands.length A.ph, .int .i64 c.closer, .slice A.r c.results.length A.pr, .int .i64 c.keeper, .slice A.g c.ring.length A.pg, .int .i64 c.due, .slice A.o c.out.length A.po, .int .i64 c.user, .slice A.t c.got.length A.pt, .int .i64 c.room, .slice A.s c.shut.length A.ps, .int .i64 c.ops] dd (unhide HS).range hdu hdr info18 ?_
    refine wpList_plain rfl (fun K hK => ?_)
    go_simp
    refine (l52Reader_any c A P W0 (unhide HS).at' (unhide HS).hand.2 (unhide HF)).mono ?_
    rintro e w1 ⟨a, cap, rfl, hbt, hb⟩
    refine hK _ _ ?_
    clear hK K
    have HBS := hide (bs_up (unhide HS).bel hbt hb)
    clear hbt hb
    go_wp2_with fail
    go_ret
    rw [unhide HV]
    exact unhide HBS
  have z0 : (z == 0) = false := by
    rw [hz]; simp; omega
  by_cases h1 : who ≤ c.hands.length
  · obtain ⟨k, rfl⟩ : ∃ k, who = k + 1 := ⟨who - 1, by omega⟩
    have hk : k < c.hands.length := by omega
    have HV := hide (show ways c (k + 1) = wayW c c.hands[k] from by unfold ways; rw [if_neg (by omega), if_pos h1, Nat.add_sub_cancel]; simp [hk])
    have z1 : decide (z ≤ y) = true := decide_eq_true (by omega)
    obtain ⟨b, o, hA, -⟩ := (unhide HS).at_h k hk
    have hwz : IntKind.i64.wrap (z - 1) = (k : Nat) := by rw [IntKind.wrap_i64]; omega
    have HK := hide hk; have HA := hide hA; have HWZ := hide hwz
    clear h1 h0 hz hy hwho hh hA hwz HZ HY hw1 hw2
    go_upto_region 4 with fail
    refine wp_swap (c' := Code.region 4 cm4Ops true) (by kernel_rfl) ?_
    refine wp_region_noPanic ?_
    refine cm4 c A P w (unhide HF) b o (unhide HA) k (unhide HK) (unhide HL) z (unhide HWZ) _ _ (fun _ _ _ _ _ h => h) ((unhide HS).on (below_drewN _ 1)) ?_
    intro n15 n16 n17 n18 n19 n20 n21 n22 s W' hbs
    refine NoPanic.normal ?_
    have HBS := hide hbs
    clear hbs
    go_wp2_with fail
    go_ret
    rw [unhide HV]
    exact unhide HBS
  have z1 : decide (z ≤ y) = false := decide_eq_false (by omega)
  by_cases h2 : who = c.hands.length + 1
  · have HV := hide (show ways c who = wayC c from by unfold ways; rw [if_neg (by omega), if_neg h1, if_pos h2])
    have z2 : (z == y + 1) = true := by rw [beq_iff_eq]; omega
    have k7 := (unhide HS).k7
    clear h1 h0 hz hy hwho hh h2 HZ HY hw2
    by_cases hc : c.closer = 0
    · rw [hc] at k7
      have HC := hide (show wayC c = [allE c.hands] from by unfold wayC; rw [hc]; rfl)
      clear hc
      go_upto_region 6 with fail
      refine wp_region_list ?_
      refine wpList_plain rfl (fun K hK => ?_); go_simp; refine hK _ _ ?_; clear hK K
      refine wpList_plain rfl (fun K hK => ?_); go_simp; refine hK _ _ ?_; clear hK K
      refine wpList_plain rfl (fun K hK => ?_); go_simp; refine hK _ _ ?_; clear hK K
      refine wpList_plain rfl (fun K hK => ?_); go_simp; refine hK _ _ ?_; clear hK K
      refine wpList_want (by kernel_rfl) (fun K hK => wp_load_mid _ _ rfl w.heap.size 0 rfl [.int .i64 c.jobs, .int .i64 c.workers, .int .i64 c.window, .int .i64 c.next, .int .i64 c.reader, .slice A.q c.queue.length A.pq, .slice A.h c.hands.length A.ph, .int .i64 c.closer, .slice A.r c.results.length A.pr, .int .i64 c.keeper, .slice A.g c.ring.length A.pg, .int .i64 c.due, .slice A.o c.out.length A.po, .int .i64 c.user, .slice A.t c.got.length A.pt, .int .i64 c.room, .slice A.s c.shut.length A.ps, .int .i64 c.ops] dd (unhide HS).range hdu hdr info18 (hK _ _ ?_))
      refine wpList_want (by kernel_rfl) (fun K hK => ?_)
      go_simp
      refine (l51All_any c A P W0 (unhide HS).at' (unhide HS).hand.2).mono ?_
      rintro e w1 ⟨rfl, hb⟩
      refine hK _ _ ?_
      clear hK K
      have HB := hide ((unhide HS).on hb).bel
      clear hb k1 k7 HS
      generalize allE c.hands = ab at HC ⊢
      go_wp2_with fail
      go_ret
      rw [unhide HV, unhide HC]
      exact bs_new (unhide HB) [ab] (by simp)
    · have hcz : (c.closer == 0) = false := by simp [hc]
      have HC := hide (show wayC c = [false] from by unfold wayC; rw [decide_eq_false hc]; rfl)
      have HB := hide (unhide HS).bel
      clear hc HS
      generalize c.closer = cc at k7 hcz
      go_wp2_with fail
      go_ret
      rw [unhide HV, unhide HC]
      exact bs_new (unhide HB) [false] (by simp)
  have z2 : (z == y + 1) = false := by rw [beq_eq_false_iff_ne]; omega
  by_cases h3 : who = c.hands.length + 2
  · have HV := hide (show ways c who = wayK c from by unfold ways; rw [if_neg (by omega), if_neg h1, if_neg h2, if_pos h3])
    have z3 : (z == y + 2) = true := by rw [beq_iff_eq]; omega
    clear h1 h0 hz hy hwho hh h2 h3 HZ HY
    go_upto_region 8 with fail
    refine wp_region_list ?_
    refine wpList_load_mid rfl _ _ rfl w.heap.size 0 rfl [.int .i64 c.jobs, .int .i64 c.workers, .int .i64 c.window, .int .i64 c.next, .int .i64 c.reader, .slice A.q c.queue.length A.pq, .slice A.h c.hands.length A.ph, .int .i64 c.closer, .slice A.r c.results.length A.pr, .int .i64 c.keeper, .slice A.g c.ring.length A.pg, .int .i64 c.due, .slice A.o c.out.length A.po, .int .i64 c.user, .slice A.t c.got.length A.pt, .int .i64 c.room, .slice A.s c.shut.length A.ps, .int .i64 c.ops] dd (unhide HS).range hdu hdr info18 ?_
    refine wpList_plain rfl (fun K hK => ?_)
    go_simp
    refine (l52Keeper_any c A P W0 (unhide HS).at' (unhide HS).hand.2 (unhide HF)).mono ?_
    rintro e w1 ⟨a, cap, rfl, hbt, hb⟩
    refine hK _ _ ?_
    clear hK K
    have HBS := hide (bs_up (unhide HS).bel hbt hb)
    clear hbt hb
    go_wp2_with fail
    go_ret
    rw [unhide HV]
    exact unhide HBS
  have z3 : (z == y + 2) = false := by rw [beq_eq_false_iff_ne]; omega
  have HV := hide (show ways c who = wayU c from by unfold ways; rw [if_neg (by omega), if_neg h1, if_neg h2, if_neg h3])
  clear h1 h0 hz hy hwho hh h2 h3 HZ HY
  have k13 := (unhide HS).k13
  by_cases hu : c.user = 1
  · rw [hu] at k13
    have HC := hide (show wayU c = [] from by unfold wayU; rw [if_pos hu])
    have HB := hide (unhide HS).bel
    clear hu HS
    go_wp2_with fail
    go_ret
    rw [unhide HV, unhide HC]
    exact bs_new (unhide HB) [] (by simp)
  have hcz : (c.user == 1) = false := by simp [hu]
  have HU := hide hu
  clear hu
  generalize c.user = uu at k13 hcz
  rcases Nat.eq_zero_or_pos c.out.length with hn | hn
  · obtain ⟨b, o, hA, -, -⟩ := (unhide HS).sh (unhide HF) 2 (by omega)
    have HC := hide (show wayU c = [decide ((0 : Int) < ((0 : Nat) : Int)), (shZ c 2 == 1)] from by unfold wayU; rw [if_neg (unhide HU), hn]; rfl)
    have HN := hide hn; have HA := hide hA
    clear hn hA
    go_upto_region 11 with fail
    refine wp_swap (c' := Code.region 11 cmuOps true) (by kernel_rfl) ?_
    refine wp_region_noPanic ?_
    refine cmu_0 c A P w (unhide HF) b o (unhide HA) (unhide HN) _ _ (fun _ _ _ _ _ h => h) ((unhide HS).on (below_drewN _ 1)) ?_
    intro n49 n50 n51 n52 n53 n54 n55 n56 n57 n58 n59 n60 n61 n62 n63 n64 s W' hbs
    refine NoPanic.normal ?_
    have HBS := hide hbs
    clear hbs
    go_wp2_with fail
    go_ret
    rw [unhide HV, unhide HC]; exact unhide HBS
  · obtain ⟨n, hn⟩ : ∃ n, c.out.length = n + 1 := ⟨c.out.length - 1, by omega⟩
    have HC := hide (show wayU c = [decide ((0 : Int) < ((n + 1 : Nat) : Int)), false] from by
      unfold wayU
      rw [if_neg (unhide HU), hn]
      have := three1 n true (decide (shZ c 2 = 1))
      simp only [List.cons.injEq, and_true, true_and] at this
      rw [this.1, this.2])
    have HN := hide hn
    clear hn
    go_upto_region 11 with fail
    refine wp_swap (c' := Code.region 11 cmuOps true) (by kernel_rfl) ?_
    refine wp_region_noPanic ?_
    refine cmu_1 c A P w n (unhide HN) _ _ (fun _ _ _ _ _ h => h) ((unhide HS).on (below_drewN _ 1)) ?_
    intro n49 n50 n51 n52 n53 n54 n55 n56 n57 n58 n59 n60 n61 n62 n63 n64 s W' hbs
    refine NoPanic.normal ?_
    have HBS := hide hbs
    clear hbs
    go_wp2_with fail
    go_ret
    rw [unhide HV, unhide HC]; exact unhide HBS
end Go.Proofs.YtibgjcejddpldaaGreat

/- The moves that the specification's CrewMoves gathers: data, and the list while it grows. No program walked. No conditions. -/

namespace Go.Proofs.YtibgjcejddpldaaGreat
open Go Go.RowKit

theorem mvs_snoc (who : Nat) (b : Bool) : ∀ (bs : List Bool) (i : Nat), mvs who i (bs ++ [b]) = mvs who i bs ++ (if b then [(who, i + bs.length)] else [])
  | [], i => by simp [mvs]
  | x :: bs, i => by
    rw [List.cons_append, mvs, mvs, mvs_snoc who b bs (i + 1), List.append_assoc]
    congr 2
    rw [List.length_cons, show i + 1 + bs.length = i + (bs.length + 1) by omega]
theorem mvs_len (who : Nat) : ∀ (bs : List Bool) (i : Nat), (mvs who i bs).length ≤ bs.length
  | [], _ => by simp [mvs]
  | x :: bs, i => by
    rw [mvs, List.length_append, List.length_cons]
    have := mvs_len who bs (i + 1)
    cases x <;> simp <;> omega
theorem mvs_take {who k : Nat} {bs : List Bool} (hk : k < bs.length) : mvs who 0 (bs.take (k + 1)) = mvs who 0 (bs.take k) ++ (if bs[k] then [(who, k)] else []) := by
  rw [List.take_succ_eq_append_getElem hk, mvs_snoc, List.length_take, Nat.zero_add, Nat.min_eq_left (Nat.le_of_lt hk)]
theorem ways_len (c : Cw) (who : Nat) : (ways c who).length ≤ 3 := by
  unfold ways wayR wayW wayC wayK wayU
  repeat' split
  all_goals simp
def movesU (c : Cw) (k : Nat) : List (Nat × Nat) := (List.range k).flatMap fun who => mvs who 0 (ways c who)
theorem movesU_succ (c : Cw) (k : Nat) : movesU c (k + 1) = movesU c k ++ mvs k 0 (ways c k) := by
  unfold movesU
  rw [List.range_succ, List.flatMap_append]
  simp
theorem movesU_len (c : Cw) : ∀ k, (movesU c k).length ≤ 3 * k
  | 0 => by simp [movesU]
  | k + 1 => by
    rw [movesU_succ, List.length_append]
    have h1 := movesU_len c k; have h2 := mvs_len k (ways c k) 0; have h3 := ways_len c k
    omega
def mcs (m : Nat × Nat) : List Value := [.int .i64 (m.1 : Int), .int .i64 (m.2 : Int)]
theorem mflat_snoc (ms : List (Nat × Nat)) (m : Nat × Nat) : ((ms ++ [m]).map mcs).flatten = (ms.map mcs).flatten ++ [.int .i64 (m.1 : Int), .int .i64 (m.2 : Int)] := by
  rw [List.map_append, List.flatten_append]
  simp [mcs]
/-- A list of moves that grows, beside a world that is handed in. -/
structure Mo (P : Nat → Prop) (w W : World) (c : Cw) (A : A7) (a : Option Addr) (n cap : Nat) (l : List (Nat × Nat)) : Prop where
  ag : Ag P w W c A
  own : W.ownsRow (w.heap.size + 1) 28 2 (.slice a n cap) n (l.map mcs).flatten
  len : n = l.length
theorem Mo.on {P : Nat → Prop} {w W W' : World} {c : Cw} {A : A7} {a : Option Addr} {n cap : Nat} {l : List (Nat × Nat)} (h : Mo P w W c A a n cap l) (hb : Below W.heap.size W W') : Mo P w W' c A a n cap l :=
  ⟨h.ag.on hb, ownsRow_keepT h.own (fun g e => hb.block g (h.own.lt g e).2), h.len⟩
theorem Mo.add {P : Nat → Prop} {w W W' : World} {c : Cw} {A : A7} {a a' : Option Addr} {n cap cap' : Nat} {l : List (Nat × Nat)} (h : Mo P w W c A a n cap l) (m : Nat × Nat) (ho : W'.ownsRow (w.heap.size + 1) 28 2 (.slice a' (n + 1) cap') (n + 1) ((l.map mcs).flatten ++ [.int .i64 (m.1 : Int), .int .i64 (m.2 : Int)])) (hg : W.grownBy W' (Value.slice a n cap).ownBlock) : Mo P w W' c A a' (n + 1) cap' (l ++ [m]) :=
  ⟨h.ag.grown hg (fun g e => (h.own.lt g e).1), by rw [mflat_snoc]; exact ho, by rw [List.length_append, h.len]; rfl⟩
theorem Mo.start {P : Nat → Prop} {w : World} {c : Cw} {A : A7} {W : World} (h : Ag P w W c A) (hs : W.heap.size = w.heap.size + 1) : Mo P w (W.alloc (.cells #[] 28)) c A (some ⟨W.heap.size, 0, none⟩) 0 0 [] :=
  ⟨h.on ((Below.refl _ _).alloc (Nat.le_refl _) _), ⟨rfl, Or.inr ⟨W.heap.size, 0, #[], rfl, by omega, World.heap_alloc_newC _ _, Nat.le_refl _, by unfold maxLen; omega, rfl, rfl⟩⟩, rfl⟩
theorem infoMoveM : (Tryz.prog.info? 28).map (fun i => (i.zero, i.size, i.bytes)) = some (some (.agg #[.int .i64 0, .int .i64 0]), 2, 16) := by kernel_rfl
end Go.Proofs.YtibgjcejddpldaaGreat
