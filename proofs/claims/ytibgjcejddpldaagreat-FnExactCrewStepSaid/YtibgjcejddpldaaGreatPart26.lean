/- A part. -/
import Derived.Test.YtibgjcejddpldaaGreatPart25
import Derived.Test.YtibgjcejddpldaaGreatPart18
namespace Go.Proofs.YtibgjcejddpldaaGreat
open Go Go.RowKit
set_option maxRecDepth 100000
set_option maxHeartbeats 3200000
theorem run_idxH {ops : Array Oper} {a : Act} (i : Nat) (x y : Operand) (g o n p k : Nat) (ho : (opI ops i).op = .indexAddr 24 x y) (hx : a.eval x = .slice (some ⟨g, o, none⟩) n p) (hy : a.eval y = .int .i64 (k : Nat)) (hk : k < n) (hn : n ≤ 8) (w : World) : (execOp a.eval (opI ops i)).run Tryz.prog w = .ok (.value (.pointer (some ⟨g, o + k * 2, none⟩))) w := by
 unfold execOp
 simp only [ho, hx, hy]
 clear hx hy ho
 rcases (show n = 1 ∨ n = 2 ∨ n = 3 ∨ n = 4 ∨ n = 5 ∨ n = 6 ∨ n = 7 ∨ n = 8 by omega) with rfl | rfl | rfl | rfl | rfl | rfl | rfl | rfl <;>
 rcases (show k = 0 ∨ k = 1 ∨ k = 2 ∨ k = 3 ∨ k = 4 ∨ k = 5 ∨ k = 6 ∨ k = 7 by omega) with rfl | rfl | rfl | rfl | rfl | rfl | rfl | rfl <;>
 first
 | omega
 | kernel_rfl
theorem rowHand : ∃ d, Tryz.prog.underlying 73 = some d ∧ d.isRow = true := ⟨_, Tryz.underlying73, by rfl⟩
theorem info2H : (Tryz.prog.info? 73).map (·.size) = some 2 := by kernel_rfl
theorem ldHand {W : World} {b o : Nat} {s j : Int} (h0 : W.cell? ⟨b, o, none⟩ = some (.int .i64 s)) (h1 : W.cell? ⟨b, o + 1, none⟩ = some (.int .i64 j)) : (Instr.loadAt 73 (.pointer (some ⟨b, o, none⟩))).run Tryz.prog W = .ok (.agg #[.int .i64 s, .int .i64 j]) W := by
 obtain ⟨dd, hdu, hdr⟩ := rowHand
 have hr : W.rangeAt b o [.int .i64 s, .int .i64 j] := fun i v hv => by
  match i, hv with
  | 0, hv => simp only [List.getElem?_cons_zero, Option.some.injEq] at hv; subst hv; exact h0
  | 1, hv => simp only [List.getElem?_cons_succ, List.getElem?_cons_zero, Option.some.injEq] at hv; subst hv; exact h1
  | _ + 2, hv => simp at hv
 unfold Instr.loadAt
 simp only [Instr.sureAddr, Sem.run_bind, Sem.run_pure, Result.andThen_ok, run_loadVar_mid W b o 73 [.int .i64 s, .int .i64 j] dd hr hdu hdr info2H]
theorem Ag.hdA {P : Nat → Prop} {w W : World} {c : Cw} {A : A7} (h : Ag P w W c A) {b o : Nat} (hA : A.h = some ⟨b, o, none⟩) (k : Nat) (hk : k < c.hands.length) : W.cell? ⟨b, o + k * 2, none⟩ = some (.int .i64 c.hands[k].state) ∧ W.cell? ⟨b, o + k * 2 + 1, none⟩ = some (.int .i64 c.hands[k].job) := by
 obtain ⟨b', o', e, h1, h2⟩ := h.at_h k hk
 rw [hA] at e
 simp only [Option.some.injEq, Addr.mk.injEq, and_true] at e
 obtain ⟨rfl, rfl⟩ := e
 exact ⟨h1, h2⟩
noncomputable def cm4Ops : Array Oper := fops Tryz.f37 4
theorem cm4_neat : Region.noSelect cm4Ops = true ∧ neat cm4Ops = true := ⟨by kernel_rfl, by kernel_rfl⟩
theorem cm4 (c : Cw) (A : A7) (P : Nat → Prop) (w : World) (hF : Form c) (b o : Nat) (hA : A.h = some ⟨b, o, none⟩) (k : Nat) (hk : k < c.hands.length) (hh : c.hands.length ≤ 8) (z : Int) (hw : IntKind.i64.wrap (z - 1) = (k : Nat)) (W0 : World) {v0 v3 v4 v5 v6 v7 v8 v9 v10 v11 v12 v13 v14 v15 v16 v17 v18 v19 v20 v21 v22 v23 v24 v25 v26 v27 v28 v29 v30 v31 v32 v33 v34 v35 v36 v37 v38 v39 v40 v41 v42 v43 v44 v45 v46 v47 v48 v49 v50 v51 v52 v53 v54 v55 v56 v57 v58 v59 v60 v61 v62 v63 v64 : Value} (Q : Exit → Act → World → Prop) (hQ : ∀ c a d v w, Q (.panic c) (Act.put a d v) w → Q (.panic c) a w) (hS : Ag P w W0.drew c A)
 (hend : ∀ (n15 n16 n17 n18 n19 n20 n21 n22 s : Value) W', BsEnd w W' (.returned s) (wayW c c.hands[k]) → Q .normal ⟨(v0 :: .int .i64 z :: .pointer (some ⟨w.heap.size, 0, none⟩) :: v3 :: s :: v5 :: v6 :: v7 :: v8 :: v9 :: v10 :: v11 :: v12 :: v13 :: v14 :: n15 :: n16 :: n17 :: n18 :: n19 :: n20 :: n21 :: n22 :: v23 :: v24 :: v25 :: v26 :: v27 :: v28 :: v29 :: v30 :: v31 :: v32 :: v33 :: v34 :: v35 :: v36 :: v37 :: v38 :: v39 :: v40 :: v41 :: v42 :: v43 :: v44 :: v45 :: v46 :: v47 :: v48 :: v49 :: v50 :: v51 :: v52 :: v53 :: v54 :: v55 :: v56 :: v57 :: v58 :: v59 :: v60 :: v61 :: v62 :: v63 :: v64 :: []).toArray, []⟩ W') : (Code.region 4 cm4Ops true).wp Tryz.prog Q ⟨(v0 :: .int .i64 z :: .pointer (some ⟨w.heap.size, 0, none⟩) :: v3 :: v4 :: v5 :: v6 :: v7 :: v8 :: v9 :: v10 :: v11 :: v12 :: v13 :: v14 :: v15 :: v16 :: v17 :: v18 :: v19 :: v20 :: v21 :: v22 :: v23 :: v24 :: v25 :: v26 :: v27 :: v28 :: v29 :: v30 :: v31 :: v32 :: v33 :: v34 :: v35 :: v36 :: v37 :: v38 :: v39 :: v40 :: v41 :: v42 :: v43 :: v44 :: v45 :: v46 :: v47 :: v48 :: v49 :: v50 :: v51 :: v52 :: v53 :: v54 :: v55 :: v56 :: v57 :: v58 :: v59 :: v60 :: v61 :: v62 :: v63 :: v64 :: []).toArray, []⟩ W0 := by
 have hs := cm4_neat
 refine wp_region_held (S := fun W => Ag P w W c A) (by kernel_rfl) ?_
 refine any_eq (l' := #[false, false, false, false, false, false, false, false, false]) (by kernel_rfl) rfl ?_
 show wpAnyH Tryz.prog .any cm4Ops Q (fun W => Ag P w W c A) 9 _ _ W0.drew
 generalize W0.drew = W at hS ⊢
 refine take_load 0 (some 15) 26 (.tmp 2) ⟨w.heap.size, 0, none⟩ (.agg #[.int .i64 c.jobs, .int .i64 c.workers, .int .i64 c.window, .int .i64 c.next, .int .i64 c.reader, .slice A.q c.queue.length A.pq, .slice A.h c.hands.length A.ph, .int .i64 c.closer, .slice A.r c.results.length A.pr, .int .i64 c.keeper, .slice A.g c.ring.length A.pg, .int .i64 c.due, .slice A.o c.out.length A.po, .int .i64 c.user, .slice A.t c.got.length A.pt, .int .i64 c.room, .slice A.s c.shut.length A.ps, .int .i64 c.ops]) hs hQ (by kernel_rfl) (by kernel_rfl) (by kernel_rfl) (fun w h => h.ld) hS ?_
 refine take_any 1 (some 16) (.pointer (some ⟨w.heap.size, 6, none⟩)) hs hQ (by kernel_rfl) (fun w _ => by kernel_rfl) hS ?_
 refine take_load 2 (some 17) 24 (.tmp 16) ⟨w.heap.size, 6, none⟩ (.slice (some ⟨b, o, none⟩) c.hands.length A.ph) hs hQ (by kernel_rfl) (by kernel_rfl) (by kernel_rfl) (fun w h => ld26 w _ _ (by have := h.k6; rw [hA] at this; exact this)) hS ?_
 refine take_any 3 (some 18) (.int .i64 z) hs hQ (by kernel_rfl) (fun w _ => by kernel_rfl) hS ?_
 refine take_any 4 (some 19) (.int .i64 (IntKind.i64.wrap (z - 1))) hs hQ (by kernel_rfl) (fun w _ => by kernel_rfl) hS ?_
 rw [hw]
 refine take_any 5 (some 20) (.pointer (some ⟨b, o + k * 2, none⟩)) hs hQ (by kernel_rfl) (fun w _ => run_idxH 5 (.tmp 17) (.tmp 19) b o c.hands.length A.ph k (by kernel_rfl) (by kernel_rfl) (by kernel_rfl) hk hh w) hS ?_
 refine take_load 6 (some 21) 73 (.tmp 20) ⟨b, o + k * 2, none⟩ (.agg #[.int .i64 (c.hands[k]).state, .int .i64 (c.hands[k]).job]) hs hQ (by kernel_rfl) (by kernel_rfl) (by kernel_rfl) (fun w h => ldHand (h.hdA hA k hk).1 (h.hdA hA k hk).2) hS ?_
 refine any_eq (l' := #[true, true, true, true, true, true, true, false, false]) (a' := ⟨(v0 :: .int .i64 z :: .pointer (some ⟨w.heap.size, 0, none⟩) :: v3 :: v4 :: v5 :: v6 :: v7 :: v8 :: v9 :: v10 :: v11 :: v12 :: v13 :: v14 :: .agg #[.int .i64 c.jobs, .int .i64 c.workers, .int .i64 c.window, .int .i64 c.next, .int .i64 c.reader, .slice A.q c.queue.length A.pq, .slice A.h c.hands.length A.ph, .int .i64 c.closer, .slice A.r c.results.length A.pr, .int .i64 c.keeper, .slice A.g c.ring.length A.pg, .int .i64 c.due, .slice A.o c.out.length A.po, .int .i64 c.user, .slice A.t c.got.length A.pt, .int .i64 c.room, .slice A.s c.shut.length A.ps, .int .i64 c.ops] :: .pointer (some ⟨w.heap.size, 6, none⟩) :: .slice (some ⟨b, o, none⟩) c.hands.length A.ph :: .int .i64 z :: .int .i64 (k : Nat) :: .pointer (some ⟨b, o + k * 2, none⟩) :: .agg #[.int .i64 (c.hands[k]).state, .int .i64 (c.hands[k]).job] :: v22 :: v23 :: v24 :: v25 :: v26 :: v27 :: v28 :: v29 :: v30 :: v31 :: v32 :: v33 :: v34 :: v35 :: v36 :: v37 :: v38 :: v39 :: v40 :: v41 :: v42 :: v43 :: v44 :: v45 :: v46 :: v47 :: v48 :: v49 :: v50 :: v51 :: v52 :: v53 :: v54 :: v55 :: v56 :: v57 :: v58 :: v59 :: v60 :: v61 :: v62 :: v63 :: v64 :: []).toArray, []⟩) (by kernel_rfl) (by kernel_rfl) ?_
 refine ready_one 7 (by kernel_rfl) ?_
 refine op_enter (some 22) 68 #[.agg #[.int .i64 c.jobs, .int .i64 c.workers, .int .i64 c.window, .int .i64 c.next, .int .i64 c.reader, .slice A.q c.queue.length A.pq, .slice A.h c.hands.length A.ph, .int .i64 c.closer, .slice A.r c.results.length A.pr, .int .i64 c.keeper, .slice A.g c.ring.length A.pg, .int .i64 c.due, .slice A.o c.out.length A.po, .int .i64 c.user, .slice A.t c.got.length A.pt, .int .i64 c.room, .slice A.s c.shut.length A.ps, .int .i64 c.ops], .agg #[.int .i64 (c.hands[k]).state, .int .i64 (c.hands[k]).job]] (by kernel_rfl) (by kernel_rfl) (l52Worker_any c A P _ hS.at' hS.hand.2 hF c.hands[k]) ?_
 rintro e W1 ⟨a, cap, rfl, hbt, hb⟩
 have hS1 := hS.on hb
 have hsz := hS.bel.size
 have hbs : BsEnd w W1 (.returned (.slice a (wayW c c.hands[k]).length cap)) (wayW c c.hands[k]) := ⟨a, cap, rfl, hbt.carry (fun _ _ => rfl) (fun x hx => ⟨Nat.le_trans hsz hx.1, hx.2⟩), hS1.bel⟩
 refine ⟨_, rfl, hS1, ?_⟩
 refine any_eq (l' := #[true, true, true, true, true, true, true, true, false]) (a' := ⟨(v0 :: .int .i64 z :: .pointer (some ⟨w.heap.size, 0, none⟩) :: v3 :: v4 :: v5 :: v6 :: v7 :: v8 :: v9 :: v10 :: v11 :: v12 :: v13 :: v14 :: .agg #[.int .i64 c.jobs, .int .i64 c.workers, .int .i64 c.window, .int .i64 c.next, .int .i64 c.reader, .slice A.q c.queue.length A.pq, .slice A.h c.hands.length A.ph, .int .i64 c.closer, .slice A.r c.results.length A.pr, .int .i64 c.keeper, .slice A.g c.ring.length A.pg, .int .i64 c.due, .slice A.o c.out.length A.po, .int .i64 c.user, .slice A.t c.got.length A.pt, .int .i64 c.room, .slice A.s c.shut.length A.ps, .int .i64 c.ops] :: .pointer (some ⟨w.heap.size, 6, none⟩) :: .slice (some ⟨b, o, none⟩) c.hands.length A.ph :: .int .i64 z :: .int .i64 (k : Nat) :: .pointer (some ⟨b, o + k * 2, none⟩) :: .agg #[.int .i64 (c.hands[k]).state, .int .i64 (c.hands[k]).job] :: .slice a (wayW c c.hands[k]).length cap :: v23 :: v24 :: v25 :: v26 :: v27 :: v28 :: v29 :: v30 :: v31 :: v32 :: v33 :: v34 :: v35 :: v36 :: v37 :: v38 :: v39 :: v40 :: v41 :: v42 :: v43 :: v44 :: v45 :: v46 :: v47 :: v48 :: v49 :: v50 :: v51 :: v52 :: v53 :: v54 :: v55 :: v56 :: v57 :: v58 :: v59 :: v60 :: v61 :: v62 :: v63 :: v64 :: []).toArray, []⟩) (by kernel_rfl) (by kernel_rfl) ?_
 refine take_any 8 (some 4) (.slice a (wayW c c.hands[k]).length cap) hs hQ (by kernel_rfl) (fun w _ => by kernel_rfl) hS1 ?_
 refine any_eq (l' := #[true, true, true, true, true, true, true, true, true]) (a' := ⟨(v0 :: .int .i64 z :: .pointer (some ⟨w.heap.size, 0, none⟩) :: v3 :: .slice a (wayW c c.hands[k]).length cap :: v5 :: v6 :: v7 :: v8 :: v9 :: v10 :: v11 :: v12 :: v13 :: v14 :: .agg #[.int .i64 c.jobs, .int .i64 c.workers, .int .i64 c.window, .int .i64 c.next, .int .i64 c.reader, .slice A.q c.queue.length A.pq, .slice A.h c.hands.length A.ph, .int .i64 c.closer, .slice A.r c.results.length A.pr, .int .i64 c.keeper, .slice A.g c.ring.length A.pg, .int .i64 c.due, .slice A.o c.out.length A.po, .int .i64 c.user, .slice A.t c.got.length A.pt, .int .i64 c.room, .slice A.s c.shut.length A.ps, .int .i64 c.ops] :: .pointer (some ⟨w.heap.size, 6, none⟩) :: .slice (some ⟨b, o, none⟩) c.hands.length A.ph :: .int .i64 z :: .int .i64 (k : Nat) :: .pointer (some ⟨b, o + k * 2, none⟩) :: .agg #[.int .i64 (c.hands[k]).state, .int .i64 (c.hands[k]).job] :: .slice a (wayW c c.hands[k]).length cap :: v23 :: v24 :: v25 :: v26 :: v27 :: v28 :: v29 :: v30 :: v31 :: v32 :: v33 :: v34 :: v35 :: v36 :: v37 :: v38 :: v39 :: v40 :: v41 :: v42 :: v43 :: v44 :: v45 :: v46 :: v47 :: v48 :: v49 :: v50 :: v51 :: v52 :: v53 :: v54 :: v55 :: v56 :: v57 :: v58 :: v59 :: v60 :: v61 :: v62 :: v63 :: v64 :: []).toArray, []⟩) (by kernel_rfl) (by kernel_rfl) ?_
 exact wpAnyH_done (by kernel_rfl) (hend _ _ _ _ _ _ _ _ _ _ hbs) _
theorem bs_up {w W W' : World} {a : Option Addr} {cap : Nat} {bs : List Bool} (h : Below w.heap.size w W) (hbt : BAt (New W W') W' (.slice a bs.length cap) bs) (hb : Below W.heap.size W W') : BsEnd w W' (.returned (.slice a bs.length cap)) bs :=
 ⟨a, cap, rfl, hbt.carry (fun _ _ => rfl) (fun _ hx => ⟨Nat.le_trans h.size hx.1, hx.2⟩), h.trans (hb.mono h.size)⟩
theorem l52Ways_any (c : Cw) (A : A7) (P : Nat → Prop) (w : World) (h : CwAt P w c (A.v c)) (hP : ∀ b, P b → b < w.heap.size) (hF : Form c) (who : Nat) (hwho : who ≤ c.hands.length + 3) : Calls Tryz.prog 37 #[.agg #[.int .i64 c.jobs, .int .i64 c.workers, .int .i64 c.window, .int .i64 c.next, .int .i64 c.reader, .slice A.q c.queue.length A.pq, .slice A.h c.hands.length A.ph, .int .i64 c.closer, .slice A.r c.results.length A.pr, .int .i64 c.keeper, .slice A.g c.ring.length A.pg, .int .i64 c.due, .slice A.o c.out.length A.po, .int .i64 c.user, .slice A.t c.got.length A.pt, .int .i64 c.room, .slice A.s c.shut.length A.ps, .int .i64 c.ops], .int .i64 (who : Int)] w fun e w' => BsEnd w w' e (ways c who) := by
 have HS := xH (Ag.start h hP)
 obtain ⟨dd, hdu, hdr⟩ := rowWorld
 have hh := hF.small.1
 have HF := xH hF
 have HL := xH hh
 clear h hP hF
 obtain ⟨z, hz⟩ : ∃ z : Int, z = (who : Int) := ⟨_, rfl⟩
 rw [← hz]
 obtain ⟨y, hy⟩ : ∃ y : Int, y = (c.hands.length : Int) := ⟨_, rfl⟩
 have hw1 : IntKind.i64.wrap (y + 1) = y + 1 := by rw [IntKind.wrap_i64]; omega
 have hw2 : IntKind.i64.wrap (y + 2) = y + 2 := by rw [IntKind.wrap_i64]; omega
 have HZ := xH hz; have HY := xH hy
 go_enter Tryz.func37, Tryz.ntmps37
 go_upto_region 1 with fail
 generalize w.alloc (.cells #[.int .i64 c.jobs, .int .i64 c.workers, .int .i64 c.window, .int .i64 c.next, .int .i64 c.reader, .slice A.q c.queue.length A.pq, .slice A.h c.hands.length A.ph, .int .i64 c.closer, .slice A.r c.results.length A.pr, .int .i64 c.keeper, .slice A.g c.ring.length A.pg, .int .i64 c.due, .slice A.o c.out.length A.po, .int .i64 c.user, .slice A.t c.got.length A.pt, .int .i64 c.room, .slice A.s c.shut.length A.ps, .int .i64 c.ops] 26) = W0 at HS ⊢
 have k1 := (xU HS).k1
 rw [← (xU HF).hands, ← hy] at k1
 rcases Nat.eq_zero_or_pos who with h0 | h0
 · have HV := xH (show ways c who = wayR c from by unfold ways; rw [if_pos h0])
   have z0 : (z == 0) = true := by simp [hz, h0]
   clear h0 hz hy hwho hh HZ HY hw1 hw2
   go_upto_region 2 with fail
   refine wp_region_list ?_
   refine wpList_load_mid rfl _ _ rfl w.heap.size 0 rfl [.int .i64 c.jobs, .int .i64 c.workers, .int .i64 c.window, .int .i64 c.next, .int .i64 c.reader, .slice A.q c.queue.length A.pq, .slice A.h c.hands.length A.ph, .int .i64 c.closer, .slice A.r c.results.length A.pr, .int .i64 c.keeper, .slice A.g c.ring.length A.pg, .int .i64 c.due, .slice A.o c.out.length A.po, .int .i64 c.user, .slice A.t c.got.length A.pt, .int .i64 c.room, .slice A.s c.shut.length A.ps, .int .i64 c.ops] dd (xU HS).range hdu hdr info18 ?_
   refine wpList_plain rfl (fun K hK => ?_)
   go_simp
   refine (l52Reader_any c A P W0 (xU HS).at' (xU HS).hand.2 (xU HF)).mono ?_
   rintro e w1 ⟨a, cap, rfl, hbt, hb⟩
   refine hK _ _ ?_
   clear hK K
   have HBS := xH (bs_up (xU HS).bel hbt hb)
   clear hbt hb
   go_wp2_with fail
   go_ret
   rw [xU HV]
   exact xU HBS
 have z0 : (z == 0) = false := by
  rw [hz]; simp; omega
 by_cases h1 : who ≤ c.hands.length
 · obtain ⟨k, rfl⟩ : ∃ k, who = k + 1 := ⟨who - 1, by omega⟩
   have hk : k < c.hands.length := by omega
   have HV := xH (show ways c (k + 1) = wayW c c.hands[k] from by unfold ways; rw [if_neg (by omega), if_pos h1, Nat.add_sub_cancel]; simp [hk])
   have z1 : decide (z ≤ y) = true := decide_eq_true (by omega)
   obtain ⟨b, o, hA, -⟩ := (xU HS).at_h k hk
   have hwz : IntKind.i64.wrap (z - 1) = (k : Nat) := by rw [IntKind.wrap_i64]; omega
   have HK := xH hk; have HA := xH hA; have HWZ := xH hwz
   clear h1 h0 hz hy hwho hh hA hwz HZ HY hw1 hw2
   go_upto_region 4 with fail
   refine wp_swap (c' := Code.region 4 cm4Ops true) (by kernel_rfl) ?_
   refine wp_region_noPanic ?_
   refine cm4 c A P w (xU HF) b o (xU HA) k (xU HK) (xU HL) z (xU HWZ) _ _ (fun _ _ _ _ _ h => h) ((xU HS).on (below_drewN _ 1)) ?_
   intro n15 n16 n17 n18 n19 n20 n21 n22 s W' hbs
   refine NoPanic.normal ?_
   have HBS := xH hbs
   clear hbs
   go_wp2_with fail
   go_ret
   rw [xU HV]
   exact xU HBS
 have z1 : decide (z ≤ y) = false := decide_eq_false (by omega)
 by_cases h2 : who = c.hands.length + 1
 · have HV := xH (show ways c who = wayC c from by unfold ways; rw [if_neg (by omega), if_neg h1, if_pos h2])
   have z2 : (z == y + 1) = true := by rw [beq_iff_eq]; omega
   have k7 := (xU HS).k7
   clear h1 h0 hz hy hwho hh h2 HZ HY hw2
   by_cases hc : c.closer = 0
   · rw [hc] at k7
     have HC := xH (show wayC c = [allE c.hands] from by unfold wayC; rw [hc]; rfl)
     clear hc
     go_upto_region 6 with fail
     refine wp_region_list ?_
     refine wpList_plain rfl (fun K hK => ?_); go_simp; refine hK _ _ ?_; clear hK K
     refine wpList_plain rfl (fun K hK => ?_); go_simp; refine hK _ _ ?_; clear hK K
     refine wpList_plain rfl (fun K hK => ?_); go_simp; refine hK _ _ ?_; clear hK K
     refine wpList_plain rfl (fun K hK => ?_); go_simp; refine hK _ _ ?_; clear hK K
     refine wpList_want (by kernel_rfl) (fun K hK => wp_load_mid _ _ rfl w.heap.size 0 rfl [.int .i64 c.jobs, .int .i64 c.workers, .int .i64 c.window, .int .i64 c.next, .int .i64 c.reader, .slice A.q c.queue.length A.pq, .slice A.h c.hands.length A.ph, .int .i64 c.closer, .slice A.r c.results.length A.pr, .int .i64 c.keeper, .slice A.g c.ring.length A.pg, .int .i64 c.due, .slice A.o c.out.length A.po, .int .i64 c.user, .slice A.t c.got.length A.pt, .int .i64 c.room, .slice A.s c.shut.length A.ps, .int .i64 c.ops] dd (xU HS).range hdu hdr info18 (hK _ _ ?_))
     refine wpList_want (by kernel_rfl) (fun K hK => ?_)
     go_simp
     refine (l51All_any c A P W0 (xU HS).at' (xU HS).hand.2).mono ?_
     rintro e w1 ⟨rfl, hb⟩
     refine hK _ _ ?_
     clear hK K
     have HB := xH ((xU HS).on hb).bel
     clear hb k1 k7 HS
     generalize allE c.hands = ab at HC ⊢
     go_wp2_with fail
     go_ret
     rw [xU HV, xU HC]
     exact bs_new (xU HB) [ab] (by simp)
   · have hcz : (c.closer == 0) = false := by simp [hc]
     have HC := xH (show wayC c = [false] from by unfold wayC; rw [decide_eq_false hc]; rfl)
     have HB := xH (xU HS).bel
     clear hc HS
     generalize c.closer = cc at k7 hcz
     go_wp2_with fail
     go_ret
     rw [xU HV, xU HC]
     exact bs_new (xU HB) [false] (by simp)
 have z2 : (z == y + 1) = false := by rw [beq_eq_false_iff_ne]; omega
 by_cases h3 : who = c.hands.length + 2
 · have HV := xH (show ways c who = wayK c from by unfold ways; rw [if_neg (by omega), if_neg h1, if_neg h2, if_pos h3])
   have z3 : (z == y + 2) = true := by rw [beq_iff_eq]; omega
   clear h1 h0 hz hy hwho hh h2 h3 HZ HY
   go_upto_region 8 with fail
   refine wp_region_list ?_
   refine wpList_load_mid rfl _ _ rfl w.heap.size 0 rfl [.int .i64 c.jobs, .int .i64 c.workers, .int .i64 c.window, .int .i64 c.next, .int .i64 c.reader, .slice A.q c.queue.length A.pq, .slice A.h c.hands.length A.ph, .int .i64 c.closer, .slice A.r c.results.length A.pr, .int .i64 c.keeper, .slice A.g c.ring.length A.pg, .int .i64 c.due, .slice A.o c.out.length A.po, .int .i64 c.user, .slice A.t c.got.length A.pt, .int .i64 c.room, .slice A.s c.shut.length A.ps, .int .i64 c.ops] dd (xU HS).range hdu hdr info18 ?_
   refine wpList_plain rfl (fun K hK => ?_)
   go_simp
   refine (l52Keeper_any c A P W0 (xU HS).at' (xU HS).hand.2 (xU HF)).mono ?_
   rintro e w1 ⟨a, cap, rfl, hbt, hb⟩
   refine hK _ _ ?_
   clear hK K
   have HBS := xH (bs_up (xU HS).bel hbt hb)
   clear hbt hb
   go_wp2_with fail
   go_ret
   rw [xU HV]
   exact xU HBS
 have z3 : (z == y + 2) = false := by rw [beq_eq_false_iff_ne]; omega
 have HV := xH (show ways c who = wayU c from by unfold ways; rw [if_neg (by omega), if_neg h1, if_neg h2, if_neg h3])
 clear h1 h0 hz hy hwho hh h2 h3 HZ HY
 have k13 := (xU HS).k13
 by_cases hu : c.user = 1
 · rw [hu] at k13
   have HC := xH (show wayU c = [] from by unfold wayU; rw [if_pos hu])
   have HB := xH (xU HS).bel
   clear hu HS
   go_wp2_with fail
   go_ret
   rw [xU HV, xU HC]
   exact bs_new (xU HB) [] (by simp)
 have hcz : (c.user == 1) = false := by simp [hu]
 have HU := xH hu
 clear hu
 generalize c.user = uu at k13 hcz
 rcases Nat.eq_zero_or_pos c.out.length with hn | hn
 · obtain ⟨b, o, hA, -, -⟩ := (xU HS).sh (xU HF) 2 (by omega)
   have HC := xH (show wayU c = [decide ((0 : Int) < ((0 : Nat) : Int)), (shZ c 2 == 1)] from by unfold wayU; rw [if_neg (xU HU), hn]; rfl)
   have HN := xH hn; have HA := xH hA
   clear hn hA
   go_upto_region 11 with fail
   refine wp_swap (c' := Code.region 11 cmuOps true) (by kernel_rfl) ?_
   refine wp_region_noPanic ?_
   refine cmu_0 c A P w (xU HF) b o (xU HA) (xU HN) _ _ (fun _ _ _ _ _ h => h) ((xU HS).on (below_drewN _ 1)) (by kernel_rfl) ?_
   intro v s W' hbs
   refine NoPanic.normal ?_
   simp only [frL_eq, frG, List.lookup, Nat.reduceBEq, Nat.reduceAdd, Option.getD_some, Option.getD_none]
   have HBS := xH hbs
   clear hbs
   go_wp2_with fail
   go_ret
   rw [xU HV, xU HC]; exact xU HBS
 · obtain ⟨n, hn⟩ : ∃ n, c.out.length = n + 1 := ⟨c.out.length - 1, by omega⟩
   have HC := xH (show wayU c = [decide ((0 : Int) < ((n + 1 : Nat) : Int)), false] from by
    unfold wayU
    rw [if_neg (xU HU), hn]
    have := three1 n true (decide (shZ c 2 = 1))
    simp only [List.cons.injEq, and_true, true_and] at this
    rw [this.1, this.2])
   have HN := xH hn
   clear hn
   go_upto_region 11 with fail
   refine wp_swap (c' := Code.region 11 cmuOps true) (by kernel_rfl) ?_
   refine wp_region_noPanic ?_
   refine cmu_1 c A P w n (xU HN) _ _ (fun _ _ _ _ _ h => h) ((xU HS).on (below_drewN _ 1)) (by kernel_rfl) ?_
   intro v s W' hbs
   refine NoPanic.normal ?_
   simp only [frL_eq, frG, List.lookup, Nat.reduceBEq, Nat.reduceAdd, Option.getD_some, Option.getD_none]
   have HBS := xH hbs
   clear hbs
   go_wp2_with fail
   go_ret
   rw [xU HV, xU HC]; exact xU HBS

theorem mvs_snoc (who : Nat) (b : Bool) : ∀ (bs : List Bool) (i : Nat), mvs who i (bs ++ [b]) = mvs who i bs ++ (if b then [(who, i + bs.length)] else [])
 | [], i => by simp [mvs]
 | x :: bs, i => by
   rw [List.cons_append, mvs, mvs, mvs_snoc who b bs (i + 1), List.append_assoc]
   congr 2
   rw [List.length_cons, show i + 1 + bs.length = i + (bs.length + 1) by omega]
theorem mvs_len (who : Nat) : ∀ (bs : List Bool) (i : Nat), (mvs who i bs).length ≤ bs.length
 | [], _ => by simp [mvs]
 | x :: bs, i => by
   rw [mvs, List.length_append, List.length_cons]
   have := mvs_len who bs (i + 1)
   cases x <;> simp <;> omega
theorem ways_len (c : Cw) (who : Nat) : (ways c who).length ≤ 3 := by
 unfold ways wayR wayW wayC wayK wayU
 repeat' split
 all_goals simp
def movesU (c : Cw) (k : Nat) : List (Nat × Nat) := (List.range k).flatMap fun who => mvs who 0 (ways c who)
theorem movesU_succ (c : Cw) (k : Nat) : movesU c (k + 1) = movesU c k ++ mvs k 0 (ways c k) := by
 unfold movesU
 rw [List.range_succ, List.flatMap_append]
 simp

def fw (x : Nat × Value) : Value := .func (.func x.1) #[x.2] #[]
def wcs (x : Bool × Nat × Value) : List Value := [.bool x.1, fw x.2]
def WyAt (P : Nat → Prop) (w : World) (v : Value) (xs : List (Bool × Nat × Value)) : Prop := FlatAt P w v 2 (xs.map wcs)
def WsEnd (w w' : World) (e : Ending) (xs : List (Bool × Nat × Value)) : Prop := ∃ a cap, e = .returned (.slice a xs.length cap) ∧ WyAt (New w w') w' (.slice a xs.length cap) xs ∧ Below w.heap.size w w'
theorem wflat_len (xs : List (Bool × Nat × Value)) : (xs.map wcs).flatten.length = xs.length * 2 := by
 induction xs with
 | nil => rfl
 | cons m ms ih => rw [List.map_cons, List.flatten_cons, List.length_append, ih, List.length_cons]; show 2 + _ = _; omega
theorem wflat_at : ∀ (xs : List (Bool × Nat × Value)) (i : Nat) (hi : i < xs.length), (xs.map wcs).flatten[i * 2]? = some (.bool xs[i].1) ∧ (xs.map wcs).flatten[i * 2 + 1]? = some (fw xs[i].2)
 | [], i, hi => by cases hi
 | x :: r, 0, hi => ⟨rfl, rfl⟩
 | x :: r, i + 1, hi => by
     have := wflat_at r i (by simpa using hi)
     rw [show (i + 1) * 2 = i * 2 + 2 by omega]
     exact this
theorem ws_new {w W : World} (hb : Below w.heap.size w W) (xs : List (Bool × Nat × Value)) (hl : xs.length ≤ 100) : WsEnd w (W.alloc (.cells (xs.map wcs).flatten.toArray 117)) (.returned (.slice (some ⟨W.heap.size, 0, none⟩) xs.length xs.length)) xs := by
 have hr := World.rowIs_alloc W (xs.map wcs).flatten.toArray 117 (fun i => ((xs.map wcs).flatten)[i]?.getD undef) (fun i hi => by
  simp only [List.size_toArray] at hi
  simp [List.getElem?_eq_getElem hi])
 refine ⟨_, _, rfl, ⟨_, _, by rw [List.length_map], by rw [List.length_map]; omega, fun i hi => ⟨W.heap.size, 0, rfl, ⟨hb.size, by simp⟩, fun j hj => ?_⟩⟩, hb.alloc hb.size _⟩
 rw [List.length_map] at hi
 obtain ⟨h0, h1⟩ := wflat_at xs i hi
 have hn := wflat_len xs
 rw [Nat.zero_add, hr.cell (by simp only [List.size_toArray]; omega), List.getElem_map]
 rcases (show j = 0 ∨ j = 1 by omega) with rfl | rfl
 · rw [Nat.add_zero, h0]; rfl
 · rw [h1]; rfl
theorem ws_nil {w W : World} (hb : Below w.heap.size w W) : WsEnd w W (.returned (.slice none 0 0)) [] :=
 ⟨none, 0, rfl, ⟨_, _, rfl, by simp, fun i hi => by cases hi⟩, hb⟩
def fv (n : Nat) (r : Value) : Nat × Value := (n, r)
def pC (C : Nat) : Value := .pointer (some ⟨C, 0, none⟩)
def rW (C H i : Nat) : Value := .agg #[.pointer (some ⟨C, 0, none⟩), .pointer (some ⟨H, i * 2, none⟩)]
def dvR (C : Nat) (c : Cw) : List (Nat × Value) := if c.reader = 0 then [fv 121 (pC C), fv 122 (pC C), fv 122 (pC C)] else if c.reader = 1 then [fv 124 (pC C), fv 122 (pC C)] else if c.reader = 2 then [fv 125 (pC C)] else []
def dvW (C H i : Nat) (h : Hd) : List (Nat × Value) := if h.state = 0 then [fv 126 (rW C H i), fv 127 (rW C H i), fv 128 (rW C H i)] else if h.state = 1 then [fv 129 (rW C H i)] else if h.state = 2 then [fv 130 (rW C H i), fv 127 (rW C H i)] else []
def dvK (C : Nat) (c : Cw) : List (Nat × Value) := if c.keeper = 0 then [fv 132 (pC C), fv 133 (pC C), fv 134 (pC C)] else if c.keeper = 2 then [fv 136 (pC C), fv 133 (pC C)] else if c.keeper = 5 then [] else if c.keeper = 1 then [fv 135 (pC C)] else if c.keeper = 3 then [fv 137 (pC C)] else [fv 138 (pC C)]
def dvU (C : Nat) (c : Cw) : List (Nat × Value) := if c.user = 1 then [] else [fv 139 (pC C), fv 140 (pC C)]
def pwR (C : Nat) (c : Cw) : List (Bool × Nat × Value) := (wayR c).zip (dvR C c)
def pwW (C H i : Nat) (c : Cw) (h : Hd) : List (Bool × Nat × Value) := (wayW c h).zip (dvW C H i h)
def pwC (C : Nat) (c : Cw) : List (Bool × Nat × Value) := if c.closer = 1 then [] else [(allE c.hands, fv 131 (pC C))]
def pwK (C : Nat) (c : Cw) : List (Bool × Nat × Value) := (wayK c).zip (dvK C c)
def pwU (C : Nat) (c : Cw) : List (Bool × Nat × Value) := (wayU c).zip (dvU C c)
def pw (C H : Nat) (c : Cw) (who : Nat) : List (Bool × Nat × Value) := if who = 0 then pwR C c else if who ≤ c.hands.length then pwW C H (who - 1) c (c.hands.getD (who - 1) ⟨0, 0⟩) else if who = c.hands.length + 1 then pwC C c else if who = c.hands.length + 2 then pwK C c else pwU C c
theorem zip_fst {α β : Type} : ∀ (l : List α) (m : List β), l.length = m.length → (l.zip m).map Prod.fst = l
 | [], _, _ => rfl
 | a :: l, [], h => by cases h
 | a :: l, b :: m, h => by simp only [List.zip_cons_cons, List.map_cons]; rw [zip_fst l m (by simpa using h)]
structure Mv where
 (who case : Nat) (f : Nat × Value)
def Mv.key (m : Mv) : Nat × Nat := (m.who, m.case)
def mvp (who : Nat) : Nat → List (Bool × Nat × Value) → List Mv
 | _, [] => []
 | i, x :: xs => (if x.1 then [⟨who, i, x.2⟩] else []) ++ mvp who (i + 1) xs
theorem mvp_key (who : Nat) : ∀ (xs : List (Bool × Nat × Value)) (i : Nat), (mvp who i xs).map Mv.key = mvs who i (xs.map Prod.fst)
 | [], _ => rfl
 | x :: xs, i => by
   rw [mvp, List.map_append, mvp_key who xs (i + 1), List.map_cons, mvs]
   congr 1
   cases x.1 <;> rfl
theorem mvp_snoc (who : Nat) (x : Bool × Nat × Value) : ∀ (xs : List (Bool × Nat × Value)) (i : Nat), mvp who i (xs ++ [x]) = mvp who i xs ++ (if x.1 then [⟨who, i + xs.length, x.2⟩] else [])
 | [], i => by simp [mvp]
 | y :: xs, i => by
   rw [List.cons_append, mvp, mvp, mvp_snoc who x xs (i + 1), List.append_assoc]
   congr 2
   rw [List.length_cons, show i + 1 + xs.length = i + (xs.length + 1) by omega]
theorem mvp_take {who k : Nat} {xs : List (Bool × Nat × Value)} (hk : k < xs.length) : mvp who 0 (xs.take (k + 1)) = mvp who 0 (xs.take k) ++ (if xs[k].1 then [⟨who, k, xs[k].2⟩] else []) := by
 rw [List.take_succ_eq_append_getElem hk, mvp_snoc, List.length_take, Nat.zero_add, Nat.min_eq_left (Nat.le_of_lt hk)]
theorem mvp_len (who : Nat) (xs : List (Bool × Nat × Value)) (i : Nat) : (mvp who i xs).length ≤ xs.length := by
 have h := mvs_len who (xs.map Prod.fst) i
 rw [← mvp_key, List.length_map, List.length_map] at h
 exact h
def movesP (C H : Nat) (c : Cw) (k : Nat) : List Mv := (List.range k).flatMap fun who => mvp who 0 (pw C H c who)
theorem movesP_succ (C H : Nat) (c : Cw) (k : Nat) : movesP C H c (k + 1) = movesP C H c k ++ mvp k 0 (pw C H c k) := by
 unfold movesP
 rw [List.range_succ, List.flatMap_append]
 simp
theorem zip_len {α β : Type} {l : List α} (m : List β) (h : l.length ≤ 3) : (l.zip m).length ≤ 3 := by
 rw [List.length_zip]
 exact Nat.le_trans (Nat.min_le_left _ _) h
theorem pw_len (C H : Nat) (c : Cw) (who : Nat) : (pw C H c who).length ≤ 3 := by
 unfold pw
 split
 · exact zip_len _ (by unfold wayR; (repeat' split) <;> simp)
 split
 · exact zip_len _ (by unfold wayW; (repeat' split) <;> simp)
 split
 · unfold pwC; split <;> simp
 split
 · exact zip_len _ (by unfold wayK; (repeat' split) <;> simp)
 · exact zip_len _ (by unfold wayU; (repeat' split) <;> simp)
theorem movesP_len (C H : Nat) (c : Cw) : ∀ k, (movesP C H c k).length ≤ 3 * k
 | 0 => by simp [movesP]
 | k + 1 => by
   rw [movesP_succ, List.length_append]
   have h1 := movesP_len C H c k; have h2 := mvp_len k (pw C H c k) 0; have h3 := pw_len C H c k
   omega
theorem pw_mvs (C H : Nat) {c : Cw} (hc : 0 ≤ c.closer ∧ c.closer ≤ 1) (who : Nat) : mvs who 0 ((pw C H c who).map Prod.fst) = mvs who 0 (ways c who) := by
 unfold pw ways
 split
 · rw [pwR, zip_fst _ _ (by unfold wayR dvR; (repeat' split) <;> rfl)]
 split
 · rw [pwW, zip_fst _ _ (by unfold wayW dvW; (repeat' split) <;> rfl)]
 split
 · unfold pwC wayC
   by_cases h : c.closer = 1
   · rw [if_pos h]; simp [h, mvs]
   · have h0 : c.closer = 0 := by omega
     rw [if_neg h]; simp [h0]
 split
 · rw [pwK, zip_fst _ _ (by unfold wayK dvK; (repeat' split) <;> rfl)]
 · rw [pwU, zip_fst _ _ (by unfold wayU dvU; (repeat' split) <;> rfl)]
theorem movesP_key (C H : Nat) {c : Cw} (hc : 0 ≤ c.closer ∧ c.closer ≤ 1) : ∀ k, (movesP C H c k).map Mv.key = movesU c k
 | 0 => rfl
 | k + 1 => by rw [movesP_succ, movesU_succ, List.map_append, movesP_key C H hc k, mvp_key, pw_mvs C H hc k]

theorem shut_01 {c : Cw} (hF : Form c) (i : Nat) : 0 ≤ shZ c i ∧ shZ c i ≤ 1 := by
 unfold shZ
 by_cases h : i < c.shut.length
 · rw [List.getD_eq_getElem?_getD, List.getElem?_eq_getElem h]; exact hF.shuts _ (List.getElem_mem h)
 · rw [List.getD_eq_getElem?_getD, List.getElem?_eq_none (by omega)]; simp
theorem stp_eq {c : Cw} (hF : Form c) (i : Nat) : decide (0 < shZ c i) = decide (shZ c i = 1) := by
 have := shut_01 hF i
 exact decide_eq_decide.2 (by omega)
theorem stop_any (C : Nat) (c : Cw) (B : CrB) (w : World) (h : CrAt w C c B) (hF : Form c) : Calls Tryz.prog 115 #[.pointer (some ⟨C, 0, none⟩)] w fun e w' => e = .returned (.bool (stpB c)) ∧ w' = w := by
 unfold stpB
 rw [← stp_eq hF]
 exact stopped_any C c B w h
theorem emptyP_any (b : Nat) (z : Int) (w : World) (h : w.cell? ⟨b, 2, none⟩ = some (.int .i64 z)) : Calls Tryz.prog 120 #[.pointer (some ⟨b, 0, none⟩)] w fun e w' => e = .returned (.bool (z == 0)) ∧ w' = w := by
 go_enter Tryz.func120, Tryz.ntmps120
 go_wp2_with fail
 go_ret
 exact ⟨rfl, rfl⟩
theorem fullI_any (b p n k : Nat) (w : World) (h0 : w.cell? ⟨b, 0, none⟩ = some (.slice (some ⟨p, 0, none⟩) n n)) (h2 : w.cell? ⟨b, 2, none⟩ = some (.int .i64 k)) : Calls Tryz.prog 123 #[.pointer (some ⟨b, 0, none⟩)] w fun e w' => e = .returned (.bool ((k : Int) == (n : Int))) ∧ Below w.heap.size w w' := by
 have HB := xH (fun m => below_drewN w m)
 go_enter Tryz.func123, Tryz.ntmps123
 go_wp2_with fail
 go_quiet (fail)
 go_wp2_with fail
 go_ret
 exact ⟨rfl, xU HB _⟩
theorem RgAt.c0 {W : World} {b p n : Nat} {l : List Int} {s : Int} (h : RgAt W b p n l s) : W.cell? ⟨b, 0, none⟩ = some (.slice (some ⟨p, 0, none⟩) n n) := by
 obtain ⟨_, _, _, hm, _, _⟩ := h.ex
 exact hm.cell (i := 0) (by omega)
theorem full_lt {k n : Nat} {z : Int} (h : k ≤ n) (hz : (n : Int) = z) : (!((k : Int) == (n : Int))) = decide ((k : Int) < z) := by
 subst hz
 by_cases e : k = n
 · subst e; simp
 · have h1 : k < n := by omega
   rw [show ((k : Int) == (n : Int)) = false from by rw [beq_eq_false_iff_ne]; omega, show decide ((k : Int) < (n : Int)) = true from decide_eq_true (by omega)]
   rfl
theorem fullQ_any (C : Nat) (c : Cw) (B : CrB) (w : World) (h : CrAt w C c B) : Calls Tryz.prog 123 #[.pointer (some ⟨B.Q, 0, none⟩)] w fun e w' => e = .returned (.bool ((c.queue.length : Int) == (c.hands.length : Int))) ∧ Below w.heap.size w w' := fullI_any B.Q B.Qp _ _ w h.q.c0 h.q2
theorem fullR_any (C : Nat) (c : Cw) (B : CrB) (w : World) (h : CrAt w C c B) : Calls Tryz.prog 123 #[.pointer (some ⟨B.R, 0, none⟩)] w fun e w' => e = .returned (.bool ((c.results.length : Int) == (c.hands.length : Int))) ∧ Below w.heap.size w w' := fullI_any B.R B.Rp _ _ w h.r.c0 h.r2
theorem room_pos {z : Int} (h : 0 ≤ z) : (!(z == 0)) = decide (0 < z) := by
 by_cases e : z = 0
 · subst e; rfl
 · rw [show (z == 0) = false from by rw [beq_eq_false_iff_ne]; exact e, show decide (0 < z) = true from decide_eq_true (by omega)]
   rfl
theorem closerWays_any (C : Nat) (c : Cw) (B : CrB) (w : World) (h : CrAt w C c B) : Calls Tryz.prog 109 #[.pointer (some ⟨C, 0, none⟩)] w fun e w' => WsEnd w w' e (pwC C c) := by
 have c5 := h.c5
 have HWE := xH (wEnded_any C c B w h)
 clear h
 by_cases h1 : c.closer = 1
 · have q : (c.closer == 1) = true := by simp [h1]
   have HV := xH (show pwC C c = [] from by simp [pwC, h1])
   clear h1 HWE
   go_enter Tryz.func109, Tryz.ntmps109
   go_wp2_with fail
   go_ret
   rw [xU HV]
   exact ws_nil (Below.refl _ _)
 · have q : (c.closer == 1) = false := by simp [h1]
   have HV := xH (show pwC C c = [(allE c.hands, fv 131 (pC C))] from by simp [pwC, h1])
   clear h1
   go_enter Tryz.func109, Tryz.ntmps109
   go_wp2_with (go_at_call 49; refine (xU HWE).mono ?_; rintro e w2 ⟨rfl, hb⟩; have HB := xH hb; clear hb HWE)
   go_ret
   rw [xU HV]
   exact ws_new (xU HB) [(allE c.hands, fv 131 (pC C))] (by simp)
theorem readerWays_any (C : Nat) (c : Cw) (B : CrB) (w : World) (h : CrAt w C c B) (hF : Form c) : Calls Tryz.prog 107 #[.pointer (some ⟨C, 0, none⟩)] w fun e w' => WsEnd w w' e (pwR C c) := by
 have c0 := h.c0; have c1 := h.c1
 have HK := xH (fun m => Kc.start h |>.dn m)
 have HST := xH (fun W (hW : Kc w W C c B) => stop_any C c B W hW.cr hF)
 have HFQ := xH (fun W (hW : Kc w W C c B) => fullQ_any C c B W hW.cr)
 have HEM := xH (fun W (hW : Kc w W C c B) => emptyP_any B.M c.room W hW.cr.m2)
 have HF := xH hF
 clear h hF
 go_enter Tryz.func107, Tryz.ntmps107
 go_wp2_with fail
 go_quiet (fail)
 have hk := xU HK nq
 generalize w.drewN nq = W at hk ⊢
 have c2 := hk.cr.c2
 have HKW := xH hk
 have hrg := (xU HF).reader
 clear c0 c1 HK
 rcases (show c.reader = 0 ∨ c.reader = 1 ∨ c.reader = 2 ∨ c.reader = 3 by omega) with r0 | r0 | r0 | r0
 · have c13 := hk.cr.c13
   by_cases hm : c.next < c.jobs
   · have HV := xH (show pwR C c = [((!(c.room == 0)), fv 121 (pC C)), (stpB c, fv 122 (pC C)), (false, fv 122 (pC C))] from by rw [room_pos (xU HF).room.1]; unfold pwR wayR dvR; rw [if_pos r0, if_pos r0, if_neg (by omega)]; rfl)
     rw [r0] at c2
     simp only [decide_eq_true hm]
     clear hm r0 hrg hk HFQ HF
     go_wp2_with (first | (go_at_call 120; refine (xU HEM _ (xU HKW)).mono ?_; rintro e w2 ⟨rfl, hb⟩; have hb2 := hb.symm; subst hb2; clear hb) | (go_at_call 115; refine (xU HST _ (xU HKW)).mono ?_; rintro e w3 ⟨rfl, hb⟩; have hb2 := hb.symm; subst hb2; clear hb))
     go_ret
     rw [xU HV]
     exact ws_new (xU HKW).bel [((!(c.room == 0)), fv 121 (pC C)), (stpB c, fv 122 (pC C)), (false, fv 122 (pC C))] (by simp)
   · have HV := xH (show pwR C c = [(false, fv 121 (pC C)), (false, fv 122 (pC C)), (true, fv 122 (pC C))] from by have := (xU HF).next.2; unfold pwR wayR dvR; rw [if_pos r0, if_pos r0, if_pos (by omega)]; rfl)
     rw [r0] at c2
     simp only [decide_eq_false hm]
     clear hm r0 hrg hk HFQ HF c13
     go_wp2_with fail
     go_ret
     rw [xU HV]
     exact ws_new (xU HKW).bel [(false, fv 121 (pC C)), (false, fv 122 (pC C)), (true, fv 122 (pC C))] (by simp)
 · have c3 := hk.cr.c3
   have HV := xH (show pwR C c = [((!((c.queue.length : Int) == (c.hands.length : Int))), fv 124 (pC C)), (stpB c, fv 122 (pC C))] from by rw [full_lt (by have := (xU HF).queue; have := (xU HF).hands; omega) (xU HF).hands]; unfold pwR wayR dvR; simp [r0])
   rw [r0] at c2
   generalize decide (c.next < c.jobs) = dm
   clear r0 hrg hk HF HEM
   go_wp2_with (first | (go_at_call 123; refine (xU HFQ _ (xU HKW)).mono ?_; rintro e w2 ⟨rfl, hb⟩; have HK2 := xH ((xU HKW).on hb); clear hb) | (go_at_call 115; refine (xU HST _ (xU HK2)).mono ?_; rintro e w3 ⟨rfl, hb⟩; have hb2 := hb.symm; subst hb2; clear hb))
   go_ret
   rw [xU HV]
   exact ws_new (xU HK2).bel [((!((c.queue.length : Int) == (c.hands.length : Int))), fv 124 (pC C)), (stpB c, fv 122 (pC C))] (by simp)
 · have HV := xH (show pwR C c = [(true, fv 125 (pC C))] from by unfold pwR wayR dvR; simp [r0])
   rw [r0] at c2
   generalize decide (c.next < c.jobs) = dm
   clear r0 hrg hk HF HEM HFQ HST
   go_wp2_with fail
   go_ret
   rw [xU HV]
   exact ws_new (xU HKW).bel [(true, fv 125 (pC C))] (by simp)
 · have HV := xH (show pwR C c = [] from by unfold pwR wayR dvR; simp [r0])
   rw [r0] at c2
   generalize decide (c.next < c.jobs) = dm
   clear r0 hrg hk HF HEM HFQ HST
   go_wp2_with fail
   go_ret
   rw [xU HV]
   exact ws_nil (xU HKW).bel
end Go.Proofs.YtibgjcejddpldaaGreat
