/- The moves that both CrewMoves give, for the law on CrewMoves. No program walked but the law's own. No conditions. -/
import Derived.Test.YtibgjcejddpldaaGreatPart26
import Derived.Test.YtibgjcejddpldaaGreatPart33
import Derived.Deep.CutRange
import Derived.Handy
import Derived.Test.YtibgjcejddpldaaGreatRows
import Derived.Test.YtibgjcejddpldaaGreatPart00
import Derived.ProofKit
import Derived.OpenShut
import Derived.Deep.Fields
import Derived.Deep.Slices
namespace Go.Proofs.YtibgjcejddpldaaGreat
open Go Go.RowKit

/-- A list of moves in memory of its own. -/
structure Mx (W : World) (l : List Hd) (v : Value) (F : List Nat) (lo hi : Nat) : Prop where
  own : HOwn W v l F
  rng : ∀ b, b ∈ F → lo ≤ b ∧ b < hi
  sz : hi ≤ W.heap.size
theorem Mx.on {W W' : World} {l : List Hd} {v : Value} {F : List Nat} {lo hi : Nat} (h : Mx W l v F lo hi) (hb : Below W.heap.size W W') : Mx W' l v F lo hi :=
  ⟨FlatOwn.carry h.own (fun b hm => hb.block b (by have := h.rng b hm; have := h.sz; omega)), h.rng, Nat.le_trans h.sz hb.size⟩
theorem Mx.exc {W W' : World} {l : List Hd} {v : Value} {F : List Nat} {lo hi : Nat} {G : List Nat} (h : Mx W l v F lo hi) (hx : Exc G W W') (hG : ∀ x, x ∈ G → x < lo ∨ hi ≤ x) : Mx W' l v F lo hi :=
  ⟨FlatOwn.carry h.own (fun b hm => hx.block b (by have := h.rng b hm; have := h.sz; omega) (fun hg => by have := hG b hg; have := h.rng b hm; omega)), h.rng, Nat.le_trans h.sz hx.size⟩
theorem Mx.eq {W : World} {l : List Hd} {v u : Value} {F G : List Nat} {lo hi lo2 hi2 : Nat} (h : Mx W l v F lo hi) (h2 : Mx W l u G lo2 hi2) : Calls Tryz.prog 25 #[v, u] W fun e w' => e = .returned (.bool true) ∧ Below W.heap.size W w' :=
  eqCrewMoveS_any v u l W (FlatOwn.at h.own) (FlatOwn.at h2.own) (fun b hb => by have := h.rng b hb; have := h.sz; omega) (fun b hb => by have := h2.rng b hb; have := h2.sz; omega)
theorem Mx.mark {W : World} {l : List Hd} {v : Value} {F : List Nat} {lo hi : Nat} (h : Mx W l v F lo hi) (hl : l.length ≤ 1000) : Calls Tryz.prog 28 #[v, .int .i64 1] W fun e w' => e = .returned (.int .i64 (1 + 2 * l.length : Nat)) ∧ Mx w' (mHs 1 l.length) v F lo hi ∧ Exc F W w' :=
  (markCrewMoveS_own v l F 1 W h.own (by omega)).mono fun e w' ⟨h1, h2, h3⟩ => ⟨h1, ⟨h2, h.rng, Nat.le_trans h.sz h3.size⟩, h3⟩
theorem Mx.held {W : World} {n : Nat} {v : Value} {F : List Nat} {lo hi : Nat} (h : Mx W (mHs 1 n) v F lo hi) (hl : n ≤ 1000) : Calls Tryz.prog 29 #[v, .int .i64 1] W fun e w' => e = .returned (.int .i64 (1 + 2 * n : Nat)) ∧ Below W.heap.size W w' :=
  heldCrewMoveS_any v n 1 W (FlatOwn.at h.own) (fun b hb => by have := h.rng b hb; have := h.sz; omega) (by omega)
def hdOf (m : Nat × Nat) : Hd := ⟨(m.1 : Int), (m.2 : Int)⟩
theorem hdOf_cs (l : List (Nat × Nat)) : (l.map hdOf).map Hd.cs = l.map mcs := by rw [List.map_map]; rfl
def MxEnd (w w' : World) (e : Ending) (l : List Hd) : Prop := ∃ v F, e = .returned v ∧ Mx w' l v F w.heap.size w'.heap.size ∧ Below w.heap.size w w'
theorem MvEnd.mx {w w' : World} {e : Ending} {l : List (Nat × Nat)} (h : MvEnd w w' e l) : MxEnd w w' e (l.map hdOf) := by
  obtain ⟨a, cap, rfl, ho, hb⟩ := h
  rw [← hdOf_cs] at ho
  obtain ⟨F, h1, -, h3, -⟩ := FlatOwn.of_row (rs := (l.map hdOf).map Hd.cs) (by rw [List.length_map, List.length_map]; exact ho) (fun r hr => by obtain ⟨x, -, rfl⟩ := List.mem_map.1 hr; rfl)
  exact ⟨_, F, rfl, ⟨h1, fun b hm => ⟨by have := (h3 b hm).1; omega, (h3 b hm).2⟩, Nat.le_refl _⟩, hb⟩
theorem moves_both (c : Cw) : ∃ l : List Hd, l.length ≤ 1000 ∧ (∀ (v : C7) (Q : Nat → Prop) (W : World), CwAt Q W c v → (∀ b, Q b → b < W.heap.size) → Calls Tryz.prog 22 #[.agg #[.int .i64 c.jobs, .int .i64 c.workers, .int .i64 c.window, .int .i64 c.next, .int .i64 c.reader, v.q, v.h, .int .i64 c.closer, v.r, .int .i64 c.keeper, v.g, .int .i64 c.due, v.o, .int .i64 c.user, v.t, .int .i64 c.room, v.s, .int .i64 c.ops]] W fun e w' => MxEnd W w' e l) ∧ (∀ (v : C7) (Q : Nat → Prop) (W : World), CwAt Q W c v → (∀ b, Q b → b < W.heap.size) → Calls Tryz.prog 24 #[.agg #[.int .i64 c.jobs, .int .i64 c.workers, .int .i64 c.window, .int .i64 c.next, .int .i64 c.reader, v.q, v.h, .int .i64 c.closer, v.r, .int .i64 c.keeper, v.g, .int .i64 c.due, v.o, .int .i64 c.user, v.t, .int .i64 c.room, v.s, .int .i64 c.ops]] W fun e w' => MxEnd W w' e l) := by
  by_cases hok : okS c
  · refine ⟨(movesD c).map hdOf, ?_, fun v Q W h hP => ?_, fun v Q W h hP => ?_⟩
    · have h8 := ((formS_iff c).1 hok.1).1.small.1
      have := movesU_len c (c.hands.length + 4)
      rw [List.length_map]
      show (movesU c (c.hands.length + 4)).length ≤ 1000
      omega
    · obtain ⟨A, rfl⟩ := h.addr
      exact (specCrewMoves_any c A Q W h hP).mono fun e w' ⟨l, h1, _, h3⟩ => by rw [← h1 hok]; exact h3.mx
    · obtain ⟨A, rfl⟩ := h.addr
      exact (implCrewMoves_any c A Q W h hP).mono fun e w' ⟨l, h1, _, h3⟩ => by rw [← h1 hok]; exact h3.mx
  · refine ⟨[], by simp, fun v Q W h hP => ?_, fun v Q W h hP => ?_⟩
    · obtain ⟨A, rfl⟩ := h.addr
      exact (specCrewMoves_any c A Q W h hP).mono fun e w' ⟨l, _, h2, h3⟩ => by have := h3.mx; rw [h2 hok] at this; exact this
    · obtain ⟨A, rfl⟩ := h.addr
      exact (implCrewMoves_any c A Q W h hP).mono fun e w' ⟨l, _, h2, h3⟩ => by have := h3.mx; rw [h2 hok] at this; exact this
noncomputable def cm10Ops : Array Oper := fops Tryz.f5 10
theorem cm10_neat : Region.noSelect cm10Ops = true ∧ neat cm10Ops = true := ⟨by kernel_rfl, by kernel_rfl⟩
set_option maxRecDepth 100000 in
set_option maxHeartbeats 3200000 in
theorem cm10 (c : Cw) (A : A7) (P : Nat → Prop) (S : World → Prop) (hon : ∀ W W', S W → Below W.heap.size W W' → S W') (y : C7) (Xq Xh Xr Xg Xo Xt Xs : List Nat) (lo b6 b0 : Nat) (hX : ∀ W, S W → Bx W c c y Xq Xh Xr Xg Xo Xt Xs lo b6) (hA : ∀ W, S W → Bc 45 P b0 c A W) (hwt : wC c ≤ 1048576) (W0 : World) {v0 v2 v3 v4 v6 v7 v8 v9 v10 v11 v12 v13 v14 v15 v16 v17 v18 v19 v20 v21 v22 v23 v24 v25 v26 v27 v28 v29 v30 v31 v32 v33 v34 v35 v36 v37 v38 v39 v40 v41 v42 v43 v44 v45 v46 v47 v48 v49 v50 v51 v52 v53 v54 v55 v56 v57 v58 v59 v60 v61 v62 v63 v64 v65 v66 v67 v68 : Value} (Q : Exit → Act → World → Prop) (hQ : ∀ c a d v w, Q (.panic c) (Act.put a d v) w → Q (.panic c) a w) (hS : S W0.drew)
    (hend : ∀ (n27 n28 n29 n30 : Value) W', S W' → Q .normal ⟨(v0 :: .pointer (some ⟨b0, 0, none⟩) :: v2 :: v3 :: v4 :: .pointer (some ⟨b6, 0, none⟩) :: v6 :: v7 :: v8 :: v9 :: v10 :: v11 :: v12 :: v13 :: v14 :: v15 :: v16 :: v17 :: v18 :: v19 :: v20 :: v21 :: v22 :: v23 :: v24 :: v25 :: v26 :: n27 :: n28 :: n29 :: n30 :: .bool false :: v32 :: v33 :: v34 :: v35 :: v36 :: v37 :: v38 :: v39 :: v40 :: v41 :: v42 :: v43 :: v44 :: v45 :: v46 :: v47 :: v48 :: v49 :: v50 :: v51 :: v52 :: v53 :: v54 :: v55 :: v56 :: v57 :: v58 :: v59 :: v60 :: v61 :: v62 :: v63 :: v64 :: v65 :: v66 :: v67 :: v68 :: []).toArray, []⟩ W') : (Code.region 10 cm10Ops true).wp Tryz.prog Q ⟨(v0 :: .pointer (some ⟨b0, 0, none⟩) :: v2 :: v3 :: v4 :: .pointer (some ⟨b6, 0, none⟩) :: v6 :: v7 :: v8 :: v9 :: v10 :: v11 :: v12 :: v13 :: v14 :: v15 :: v16 :: v17 :: v18 :: v19 :: v20 :: v21 :: v22 :: v23 :: v24 :: v25 :: v26 :: v27 :: v28 :: v29 :: v30 :: v31 :: v32 :: v33 :: v34 :: v35 :: v36 :: v37 :: v38 :: v39 :: v40 :: v41 :: v42 :: v43 :: v44 :: v45 :: v46 :: v47 :: v48 :: v49 :: v50 :: v51 :: v52 :: v53 :: v54 :: v55 :: v56 :: v57 :: v58 :: v59 :: v60 :: v61 :: v62 :: v63 :: v64 :: v65 :: v66 :: v67 :: v68 :: []).toArray, []⟩ W0 := by
  have hs := cm10_neat
  refine wp_region_held (S := S) (by kernel_rfl) ?_
  refine any_eq (l' := #[false, false, false, false, false]) (by kernel_rfl) rfl ?_
  show wpAnyH Tryz.prog .any cm10Ops Q S 5 _ _ _
  refine take_load 0 (some 27) 26 (.tmp 5) ⟨b6, 0, none⟩ (.agg #[.int .i64 c.jobs, .int .i64 c.workers, .int .i64 c.window, .int .i64 c.next, .int .i64 c.reader, y.q, y.h, .int .i64 c.closer, y.r, .int .i64 c.keeper, y.g, .int .i64 c.due, y.o, .int .i64 c.user, y.t, .int .i64 c.room, y.s, .int .i64 c.ops]) hs hQ (by kernel_rfl) (by kernel_rfl) (by kernel_rfl) (fun w h => (hX w h).ld) hS ?_
  refine take_load 1 (some 28) 45 (.tmp 1) ⟨b0, 0, none⟩ (.agg #[.int .i64 c.jobs, .int .i64 c.workers, .int .i64 c.window, .int .i64 c.next, .int .i64 c.reader, .slice A.q c.queue.length A.pq, .slice A.h c.hands.length A.ph, .int .i64 c.closer, .slice A.r c.results.length A.pr, .int .i64 c.keeper, .slice A.g c.ring.length A.pg, .int .i64 c.due, .slice A.o c.out.length A.po, .int .i64 c.user, .slice A.t c.got.length A.pt, .int .i64 c.room, .slice A.s c.shut.length A.ps, .int .i64 c.ops]) hs hQ (by kernel_rfl) (by kernel_rfl) (by kernel_rfl) (fun w h => (hA w h).ldL) hS ?_
  refine any_eq (l' := #[true, true, false, false, false]) (a' := ⟨(v0 :: .pointer (some ⟨b0, 0, none⟩) :: v2 :: v3 :: v4 :: .pointer (some ⟨b6, 0, none⟩) :: v6 :: v7 :: v8 :: v9 :: v10 :: v11 :: v12 :: v13 :: v14 :: v15 :: v16 :: v17 :: v18 :: v19 :: v20 :: v21 :: v22 :: v23 :: v24 :: v25 :: v26 :: .agg #[.int .i64 c.jobs, .int .i64 c.workers, .int .i64 c.window, .int .i64 c.next, .int .i64 c.reader, y.q, y.h, .int .i64 c.closer, y.r, .int .i64 c.keeper, y.g, .int .i64 c.due, y.o, .int .i64 c.user, y.t, .int .i64 c.room, y.s, .int .i64 c.ops] :: .agg #[.int .i64 c.jobs, .int .i64 c.workers, .int .i64 c.window, .int .i64 c.next, .int .i64 c.reader, .slice A.q c.queue.length A.pq, .slice A.h c.hands.length A.ph, .int .i64 c.closer, .slice A.r c.results.length A.pr, .int .i64 c.keeper, .slice A.g c.ring.length A.pg, .int .i64 c.due, .slice A.o c.out.length A.po, .int .i64 c.user, .slice A.t c.got.length A.pt, .int .i64 c.room, .slice A.s c.shut.length A.ps, .int .i64 c.ops] :: v29 :: v30 :: v31 :: v32 :: v33 :: v34 :: v35 :: v36 :: v37 :: v38 :: v39 :: v40 :: v41 :: v42 :: v43 :: v44 :: v45 :: v46 :: v47 :: v48 :: v49 :: v50 :: v51 :: v52 :: v53 :: v54 :: v55 :: v56 :: v57 :: v58 :: v59 :: v60 :: v61 :: v62 :: v63 :: v64 :: v65 :: v66 :: v67 :: v68 :: []).toArray, []⟩) (by kernel_rfl) (by kernel_rfl) ?_
  refine ready_one 2 (by kernel_rfl) ?_
  refine op_enter (some 29) 23 #[.agg #[.int .i64 c.jobs, .int .i64 c.workers, .int .i64 c.window, .int .i64 c.next, .int .i64 c.reader, .slice A.q c.queue.length A.pq, .slice A.h c.hands.length A.ph, .int .i64 c.closer, .slice A.r c.results.length A.pr, .int .i64 c.keeper, .slice A.g c.ring.length A.pg, .int .i64 c.due, .slice A.o c.out.length A.po, .int .i64 c.user, .slice A.t c.got.length A.pt, .int .i64 c.room, .slice A.s c.shut.length A.ps, .int .i64 c.ops]] (by kernel_rfl) (by kernel_rfl) (toCrewWorld_val c A P _ (hA _ hS).at' (hA _ hS).lt hwt) ?_
  rintro e W1 ⟨u, Uq, Uh, Ur, Ug, Uo, Ut, Us, rfl, hown, hdj, hrng, hb⟩
  have hS1 := hon _ _ hS hb
  refine ⟨_, rfl, hS1, ?_⟩
  refine any_eq (l' := #[true, true, true, false, false]) (a' := ⟨(v0 :: .pointer (some ⟨b0, 0, none⟩) :: v2 :: v3 :: v4 :: .pointer (some ⟨b6, 0, none⟩) :: v6 :: v7 :: v8 :: v9 :: v10 :: v11 :: v12 :: v13 :: v14 :: v15 :: v16 :: v17 :: v18 :: v19 :: v20 :: v21 :: v22 :: v23 :: v24 :: v25 :: v26 :: .agg #[.int .i64 c.jobs, .int .i64 c.workers, .int .i64 c.window, .int .i64 c.next, .int .i64 c.reader, y.q, y.h, .int .i64 c.closer, y.r, .int .i64 c.keeper, y.g, .int .i64 c.due, y.o, .int .i64 c.user, y.t, .int .i64 c.room, y.s, .int .i64 c.ops] :: .agg #[.int .i64 c.jobs, .int .i64 c.workers, .int .i64 c.window, .int .i64 c.next, .int .i64 c.reader, .slice A.q c.queue.length A.pq, .slice A.h c.hands.length A.ph, .int .i64 c.closer, .slice A.r c.results.length A.pr, .int .i64 c.keeper, .slice A.g c.ring.length A.pg, .int .i64 c.due, .slice A.o c.out.length A.po, .int .i64 c.user, .slice A.t c.got.length A.pt, .int .i64 c.room, .slice A.s c.shut.length A.ps, .int .i64 c.ops] :: .agg #[.int .i64 c.jobs, .int .i64 c.workers, .int .i64 c.window, .int .i64 c.next, .int .i64 c.reader, u.q, u.h, .int .i64 c.closer, u.r, .int .i64 c.keeper, u.g, .int .i64 c.due, u.o, .int .i64 c.user, u.t, .int .i64 c.room, u.s, .int .i64 c.ops] :: v30 :: v31 :: v32 :: v33 :: v34 :: v35 :: v36 :: v37 :: v38 :: v39 :: v40 :: v41 :: v42 :: v43 :: v44 :: v45 :: v46 :: v47 :: v48 :: v49 :: v50 :: v51 :: v52 :: v53 :: v54 :: v55 :: v56 :: v57 :: v58 :: v59 :: v60 :: v61 :: v62 :: v63 :: v64 :: v65 :: v66 :: v67 :: v68 :: []).toArray, []⟩) (by kernel_rfl) (by kernel_rfl) ?_
  refine ready_one 3 (by kernel_rfl) ?_
  refine op_enter (some 30) 26 #[.agg #[.int .i64 c.jobs, .int .i64 c.workers, .int .i64 c.window, .int .i64 c.next, .int .i64 c.reader, y.q, y.h, .int .i64 c.closer, y.r, .int .i64 c.keeper, y.g, .int .i64 c.due, y.o, .int .i64 c.user, y.t, .int .i64 c.room, y.s, .int .i64 c.ops], .agg #[.int .i64 c.jobs, .int .i64 c.workers, .int .i64 c.window, .int .i64 c.next, .int .i64 c.reader, u.q, u.h, .int .i64 c.closer, u.r, .int .i64 c.keeper, u.g, .int .i64 c.due, u.o, .int .i64 c.user, u.t, .int .i64 c.room, u.s, .int .i64 c.ops]] (by kernel_rfl) (by kernel_rfl) (eqCrewWorld_any c y u W1 (hX _ hS1).own.at hown.at (hX _ hS1).lt (fun b hb => (hrng b hb).2)) ?_
  rintro e W2 ⟨rfl, hb2⟩
  have hS2 := hon _ _ hS1 hb2
  refine ⟨_, rfl, hS2, ?_⟩
  refine any_eq (l' := #[true, true, true, true, false]) (a' := ⟨(v0 :: .pointer (some ⟨b0, 0, none⟩) :: v2 :: v3 :: v4 :: .pointer (some ⟨b6, 0, none⟩) :: v6 :: v7 :: v8 :: v9 :: v10 :: v11 :: v12 :: v13 :: v14 :: v15 :: v16 :: v17 :: v18 :: v19 :: v20 :: v21 :: v22 :: v23 :: v24 :: v25 :: v26 :: .agg #[.int .i64 c.jobs, .int .i64 c.workers, .int .i64 c.window, .int .i64 c.next, .int .i64 c.reader, y.q, y.h, .int .i64 c.closer, y.r, .int .i64 c.keeper, y.g, .int .i64 c.due, y.o, .int .i64 c.user, y.t, .int .i64 c.room, y.s, .int .i64 c.ops] :: .agg #[.int .i64 c.jobs, .int .i64 c.workers, .int .i64 c.window, .int .i64 c.next, .int .i64 c.reader, .slice A.q c.queue.length A.pq, .slice A.h c.hands.length A.ph, .int .i64 c.closer, .slice A.r c.results.length A.pr, .int .i64 c.keeper, .slice A.g c.ring.length A.pg, .int .i64 c.due, .slice A.o c.out.length A.po, .int .i64 c.user, .slice A.t c.got.length A.pt, .int .i64 c.room, .slice A.s c.shut.length A.ps, .int .i64 c.ops] :: .agg #[.int .i64 c.jobs, .int .i64 c.workers, .int .i64 c.window, .int .i64 c.next, .int .i64 c.reader, u.q, u.h, .int .i64 c.closer, u.r, .int .i64 c.keeper, u.g, .int .i64 c.due, u.o, .int .i64 c.user, u.t, .int .i64 c.room, u.s, .int .i64 c.ops] :: .bool true :: v31 :: v32 :: v33 :: v34 :: v35 :: v36 :: v37 :: v38 :: v39 :: v40 :: v41 :: v42 :: v43 :: v44 :: v45 :: v46 :: v47 :: v48 :: v49 :: v50 :: v51 :: v52 :: v53 :: v54 :: v55 :: v56 :: v57 :: v58 :: v59 :: v60 :: v61 :: v62 :: v63 :: v64 :: v65 :: v66 :: v67 :: v68 :: []).toArray, []⟩) (by kernel_rfl) (by kernel_rfl) ?_
  refine take_any 4 (some 31) (.bool false) hs hQ (by kernel_rfl) (fun w _ => by kernel_rfl) hS2 ?_
  refine any_eq (l' := #[true, true, true, true, true]) (a' := ⟨(v0 :: .pointer (some ⟨b0, 0, none⟩) :: v2 :: v3 :: v4 :: .pointer (some ⟨b6, 0, none⟩) :: v6 :: v7 :: v8 :: v9 :: v10 :: v11 :: v12 :: v13 :: v14 :: v15 :: v16 :: v17 :: v18 :: v19 :: v20 :: v21 :: v22 :: v23 :: v24 :: v25 :: v26 :: .agg #[.int .i64 c.jobs, .int .i64 c.workers, .int .i64 c.window, .int .i64 c.next, .int .i64 c.reader, y.q, y.h, .int .i64 c.closer, y.r, .int .i64 c.keeper, y.g, .int .i64 c.due, y.o, .int .i64 c.user, y.t, .int .i64 c.room, y.s, .int .i64 c.ops] :: .agg #[.int .i64 c.jobs, .int .i64 c.workers, .int .i64 c.window, .int .i64 c.next, .int .i64 c.reader, .slice A.q c.queue.length A.pq, .slice A.h c.hands.length A.ph, .int .i64 c.closer, .slice A.r c.results.length A.pr, .int .i64 c.keeper, .slice A.g c.ring.length A.pg, .int .i64 c.due, .slice A.o c.out.length A.po, .int .i64 c.user, .slice A.t c.got.length A.pt, .int .i64 c.room, .slice A.s c.shut.length A.ps, .int .i64 c.ops] :: .agg #[.int .i64 c.jobs, .int .i64 c.workers, .int .i64 c.window, .int .i64 c.next, .int .i64 c.reader, u.q, u.h, .int .i64 c.closer, u.r, .int .i64 c.keeper, u.g, .int .i64 c.due, u.o, .int .i64 c.user, u.t, .int .i64 c.room, u.s, .int .i64 c.ops] :: .bool true :: .bool false :: v32 :: v33 :: v34 :: v35 :: v36 :: v37 :: v38 :: v39 :: v40 :: v41 :: v42 :: v43 :: v44 :: v45 :: v46 :: v47 :: v48 :: v49 :: v50 :: v51 :: v52 :: v53 :: v54 :: v55 :: v56 :: v57 :: v58 :: v59 :: v60 :: v61 :: v62 :: v63 :: v64 :: v65 :: v66 :: v67 :: v68 :: []).toArray, []⟩) (by kernel_rfl) (by kernel_rfl) ?_
  exact wpAnyH_done (by kernel_rfl) (hend _ _ _ _ _ hS2) _
end Go.Proofs.YtibgjcejddpldaaGreat

/- The walk of the law on CrewMoves: whatever world comes in, it answers true, and turns nothing that was there. No conditions. -/

namespace Go.Proofs.YtibgjcejddpldaaGreat
open Go Go.RowKit

set_option maxRecDepth 100000 in
set_option maxHeartbeats 12800000 in
theorem lawCrewMoves_any (c : Cw) (A : A7) (P : Nat → Prop) (w : World) (h : CwAt P w c (A.v c)) (hP : ∀ b, P b → b < w.heap.size) : Calls Tryz.prog 5 #[.agg #[.int .i64 c.jobs, .int .i64 c.workers, .int .i64 c.window, .int .i64 c.next, .int .i64 c.reader, .slice A.q c.queue.length A.pq, .slice A.h c.hands.length A.ph, .int .i64 c.closer, .slice A.r c.results.length A.pr, .int .i64 c.keeper, .slice A.g c.ring.length A.pg, .int .i64 c.due, .slice A.o c.out.length A.po, .int .i64 c.user, .slice A.t c.got.length A.pt, .int .i64 c.room, .slice A.s c.shut.length A.ps, .int .i64 c.ops]] w fun e w' => e = .returned (.bool true) ∧ Below w.heap.size w w' := by
  have HLN := hide h.ln
  have HP := hide hP
  have KB0 := hide (Bc.start h hP)
  have HB0 := hide (show Below w.heap.size w (w.alloc (.cells #[.int .i64 c.jobs, .int .i64 c.workers, .int .i64 c.window, .int .i64 c.next, .int .i64 c.reader, .slice A.q c.queue.length A.pq, .slice A.h c.hands.length A.ph, .int .i64 c.closer, .slice A.r c.results.length A.pr, .int .i64 c.keeper, .slice A.g c.ring.length A.pg, .int .i64 c.due, .slice A.o c.out.length A.po, .int .i64 c.user, .slice A.t c.got.length A.pt, .int .i64 c.room, .slice A.s c.shut.length A.ps, .int .i64 c.ops] 45)) from (Below.refl _ _).alloc (Nat.le_refl _) _)
  obtain ⟨dL, hdLu, hdLr⟩ := rowWorldL
  obtain ⟨dd, hdu, hdr⟩ := rowWorld
  obtain ⟨x, hsm, hsp, him⟩ := moves_both c
  have HSP := hide hsp; have HIM := hide him
  have hm1 : (1 + 2 * x.length : Nat) ≤ 2001 := by omega
  have HM := hide hsm
  generalize hmm : 1 + 2 * x.length = m at hm1
  have HMM := hide hmm
  clear hmm hsm hsp him
  clear h hP
  go_enter Tryz.func5, Tryz.ntmps5
  go_upto_region 2 with fail
  generalize w.alloc (.cells #[.int .i64 c.jobs, .int .i64 c.workers, .int .i64 c.window, .int .i64 c.next, .int .i64 c.reader, .slice A.q c.queue.length A.pq, .slice A.h c.hands.length A.ph, .int .i64 c.closer, .slice A.r c.results.length A.pr, .int .i64 c.keeper, .slice A.g c.ring.length A.pg, .int .i64 c.due, .slice A.o c.out.length A.po, .int .i64 c.user, .slice A.t c.got.length A.pt, .int .i64 c.room, .slice A.s c.shut.length A.ps, .int .i64 c.ops] 45) = W0 at KB0 HB0 ⊢
  obtain ⟨b0, hb0⟩ : ∃ b, b = w.heap.size := ⟨_, rfl⟩
  have HEQ0 := hide hb0
  rw [← hb0] at KB0 ⊢
  clear hb0
  refine wp_region_list ?_
  refine wpList_load_mid rfl _ _ rfl b0 0 rfl [.int .i64 c.jobs, .int .i64 c.workers, .int .i64 c.window, .int .i64 c.next, .int .i64 c.reader, .slice A.q c.queue.length A.pq, .slice A.h c.hands.length A.ph, .int .i64 c.closer, .slice A.r c.results.length A.pr, .int .i64 c.keeper, .slice A.g c.ring.length A.pg, .int .i64 c.due, .slice A.o c.out.length A.po, .int .i64 c.user, .slice A.t c.got.length A.pt, .int .i64 c.room, .slice A.s c.shut.length A.ps, .int .i64 c.ops] dL (unhide KB0).range hdLu hdLr info18L ?_
  refine wpList_plain rfl (fun K hK => ?_); go_simp; refine hK _ _ ?_; clear hK K
  refine wpList_plain rfl (fun K hK => ?_)
  go_simp
  refine (szCrewWorld_any c A 1048576 W0 (unhide HLN) (by omega) (by omega)).mono ?_
  rintro e w1 ⟨r, rfl, hr, hb1⟩
  refine hK _ _ ?_
  clear hK K
  have KB1 := hide ((unhide KB0).on hb1); have HB1 := hide ((unhide HB0).trans (hb1.mono (unhide HB0).size))
  clear hb1 KB0 HB0
  rcases hr with rfl | ⟨hr0, hr1⟩
  · go_wp2_with fail
    go_ret
    exact ⟨rfl, unhide HB1⟩
  have HWT := hide (show wC c ≤ 1048576 from by omega)
  clear hr1
  have hk1 : 1 + mkC c ≤ 2097153 := by have := unhide HWT; unfold wC at this; unfold mkC; omega
  have HK := hide (show mkC c ≤ 4194304 by omega)
  generalize hkk : 1 + mkC c = kk at hk1
  have HKK := hide hkk
  clear hkk
  go_upto_region 5 with fail
  refine wp_region_list ?_
  refine wpList_load_mid rfl _ _ rfl b0 0 rfl [.int .i64 c.jobs, .int .i64 c.workers, .int .i64 c.window, .int .i64 c.next, .int .i64 c.reader, .slice A.q c.queue.length A.pq, .slice A.h c.hands.length A.ph, .int .i64 c.closer, .slice A.r c.results.length A.pr, .int .i64 c.keeper, .slice A.g c.ring.length A.pg, .int .i64 c.due, .slice A.o c.out.length A.po, .int .i64 c.user, .slice A.t c.got.length A.pt, .int .i64 c.room, .slice A.s c.shut.length A.ps, .int .i64 c.ops] dL (unhide KB1).range hdLu hdLr info18L ?_
  refine wpList_plain rfl (fun K hK => ?_)
  go_simp
  refine (toCrewWorld_val c A P w1 (unhide KB1).at' (unhide KB1).lt (unhide HWT)).mono ?_
  rintro e w2 ⟨a, Aq, Ah, Ar, Ag, Ao, At, As, rfl, hown, hdj, hrng, hb⟩
  refine hK _ _ ?_
  clear hK K
  have HAV := hide hown.at; have HAL := hide (show ∀ z, z ∈ F7 Aq Ah Ar Ag Ao At As → z < w2.heap.size from fun z hz => (hrng z hz).2)
  clear hown hdj hrng
  have KB2 := hide ((unhide KB1).on hb); have HB2 := hide ((unhide HB1).trans (hb.mono (unhide HB1).size))
  clear hb KB1 HB1
  have hlo2 : w.heap.size < w2.heap.size := by have := (unhide KB2).row.lt; have := unhide HEQ0; omega
  refine wpList_plain rfl (fun K hK => ?_)
  go_simp
  refine (unhide HSP a _ w2 (unhide HAV) (unhide HAL)).mono ?_
  rintro e w3 ⟨u, FU, rfl, hmx, hb⟩
  refine hK _ _ ?_
  clear hK K
  clear HAV HAL
  have KW4 := hide hmx; have hz3 := hb.size
  clear hmx
  have KB4 := hide ((unhide KB2).on hb); have HB4 := hide ((unhide HB2).trans (hb.mono (unhide HB2).size))
  clear hb KB2 HB2
  go_upto_region 6 with fail
  refine wp_region_list ?_
  refine wpList_load_mid rfl _ _ rfl b0 0 rfl [.int .i64 c.jobs, .int .i64 c.workers, .int .i64 c.window, .int .i64 c.next, .int .i64 c.reader, .slice A.q c.queue.length A.pq, .slice A.h c.hands.length A.ph, .int .i64 c.closer, .slice A.r c.results.length A.pr, .int .i64 c.keeper, .slice A.g c.ring.length A.pg, .int .i64 c.due, .slice A.o c.out.length A.po, .int .i64 c.user, .slice A.t c.got.length A.pt, .int .i64 c.room, .slice A.s c.shut.length A.ps, .int .i64 c.ops] dL (unhide KB4).range hdLu hdLr info18L ?_
  refine wpList_plain rfl (fun K hK => ?_)
  go_simp
  refine (toCrewWorld_val c A P w3 (unhide KB4).at' (unhide KB4).lt (unhide HWT)).mono ?_
  rintro e w5 ⟨y, Xq, Xh, Xr, Xg, Xo, Xt, Xs, rfl, hown, hdj, hrng, hb⟩
  refine hK _ _ ?_
  clear hK K
  obtain ⟨hbx, hbb⟩ := Bx.new hown hdj hrng hb
  have hon := cw_oneB hown
  have hsz := hb.size
  clear hown hdj hrng hb
  refine wpList_plain rfl (fun K hK => ?_); go_simp; refine hK _ _ ?_; clear hK K
  refine wpList_store_mid rfl _ _ _ rfl w5.heap.size 0 #[.int .i64 c.jobs, .int .i64 c.workers, .int .i64 c.window, .int .i64 c.next, .int .i64 c.reader, y.q, y.h, .int .i64 c.closer, y.r, .int .i64 c.keeper, y.g, .int .i64 c.due, y.o, .int .i64 c.user, y.t, .int .i64 c.room, y.s, .int .i64 c.ops] rfl rfl Bx.there info18 hon ?_
  clear hon
  generalize (w5.alloc _).setCells _ 0 _ = W6 at hbx hbb ⊢
  have KX6 := hide hbx; have hz5 := hsz
  clear hbx hsz
  have KB6 := hide ((unhide KB4).on hbb); have KW6 := hide ((unhide KW4).on hbb); have HB6 := hide ((unhide HB4).trans (hbb.mono (unhide HB4).size))
  clear hbb KB4 KW4 HB4
  have hlow6 : w5.heap.size < W6.heap.size := (unhide KX6).box.lt
  go_upto_region 7 with fail
  refine wp_region_list ?_
  refine wpList_load_mid rfl _ _ rfl w5.heap.size 0 rfl [.int .i64 c.jobs, .int .i64 c.workers, .int .i64 c.window, .int .i64 c.next, .int .i64 c.reader, y.q, y.h, .int .i64 c.closer, y.r, .int .i64 c.keeper, y.g, .int .i64 c.due, y.o, .int .i64 c.user, y.t, .int .i64 c.room, y.s, .int .i64 c.ops] dd (unhide KX6).range hdu hdr info18 ?_
  refine wpList_plain rfl (fun K hK => ?_)
  go_simp
  refine (unhide HIM y _ W6 (unhide KX6).own.at (unhide KX6).lt).mono ?_
  rintro e w7 ⟨v, FG, rfl, hmx, hb⟩
  refine hK _ _ ?_
  clear hK K
  have KG8 := hide hmx; have hz7 := hb.size
  clear hmx
  have KB8 := hide ((unhide KB6).on hb); have KW8 := hide ((unhide KW6).on hb); have KX8 := hide ((unhide KX6).on hb); have HB8 := hide ((unhide HB6).trans (hb.mono (unhide HB6).size))
  clear hb KB6 KW6 KX6 HB6
  go_upto_region 10 with (go_at_call 25; refine ((unhide KG8).eq (unhide KW8)).mono ?_; rintro e w9 ⟨rfl, hb⟩)
  have KB9 := hide ((unhide KB8).on hb); have KW9 := hide ((unhide KW8).on hb); have KX9 := hide ((unhide KX8).on hb); have KG9 := hide ((unhide KG8).on hb); have HB9 := hide ((unhide HB8).trans (hb.mono (unhide HB8).size))
  clear hb KB8 KW8 KX8 KG8 HB8
  refine wp_swap (c' := Code.region 10 cm10Ops true) (by kernel_rfl) ?_
  refine wp_region_noPanic ?_
  refine cm10 c A P (fun W => Bc 45 P b0 c A W ∧ Mx W x u FU w2.heap.size w3.heap.size ∧ Bx W c c y Xq Xh Xr Xg Xo Xt Xs w3.heap.size w5.heap.size ∧ Mx W x v FG W6.heap.size w7.heap.size ∧ Below w.heap.size w W) (fun W W' h hb => ⟨h.1.on hb, h.2.1.on hb, h.2.2.1.on hb, h.2.2.2.1.on hb, h.2.2.2.2.trans (hb.mono h.2.2.2.2.size)⟩) y Xq Xh Xr Xg Xo Xt Xs w3.heap.size w5.heap.size b0 (fun W h => h.2.2.1) (fun W h => h.1) (unhide HWT) _ _ (fun _ _ _ _ _ h => h) ⟨(unhide KB9).on (below_drewN _ 1), (unhide KW9).on (below_drewN _ 1), (unhide KX9).on (below_drewN _ 1), (unhide KG9).on (below_drewN _ 1), (unhide HB9).trans ((below_drewN _ 1).mono (unhide HB9).size)⟩ ?_
  intro n27 n28 n29 n30 W10 hS
  refine NoPanic.normal ?_
  have KB10 := hide hS.1; have KW10 := hide hS.2.1; have KX10 := hide hS.2.2.1; have KG10 := hide hS.2.2.2.1; have HB10 := hide hS.2.2.2.2
  clear hS KB9 KW9 KX9 KG9 HB9
  go_upto_region 13 with fail
  refine wp_region_list ?_
  refine wpList_load_mid rfl _ _ rfl w5.heap.size 0 rfl [.int .i64 c.jobs, .int .i64 c.workers, .int .i64 c.window, .int .i64 c.next, .int .i64 c.reader, y.q, y.h, .int .i64 c.closer, y.r, .int .i64 c.keeper, y.g, .int .i64 c.due, y.o, .int .i64 c.user, y.t, .int .i64 c.room, y.s, .int .i64 c.ops] dd (unhide KX10).range hdu hdr info18 ?_
  refine wpList_plain rfl (fun K hK => ?_); go_simp; refine hK _ _ ?_; clear hK K
  refine wpList_plain rfl (fun K hK => ?_)
  go_simp
  refine ((unhide KX10).markG (unhide HK)).mono ?_
  rintro e w11 ⟨rfl, hx⟩
  refine hK _ _ ?_
  clear hK K
  rw [unhide HKK]
  have hgx : ∀ z, z ∈ F7 Xq Xh Xr Xg Xo Xt Xs → w3.heap.size ≤ z ∧ z < W6.heap.size ∧ w.heap.size < z := fun z hz => by have := (unhide KX10).rng z hz; omega
  have KB11 := hide ((unhide KB10).exc hx (fun z hz hm => by have := unhide HP z hz; have := hgx z hm; omega) (fun hm => by have := hgx b0 hm; have := unhide HEQ0; omega)); have KW11 := hide ((unhide KW10).exc hx (fun z hz => Or.inr (hgx z hz).1)); have KG11 := hide ((unhide KG10).exc hx (fun z hz => Or.inl (hgx z hz).2.1)); have HB11 := hide ((unhide HB10).trans (hx.below (unhide HB10).size (fun z hz => by have := (hgx z hz).2.2; omega)))
  clear hx hgx KX10 KB10 KW10 KG10 HB10
  go_upto_region 17 with (go_at_call 25; refine ((unhide KG11).eq (unhide KW11)).mono ?_; rintro e w12 ⟨rfl, hb⟩)
  have KB12 := hide ((unhide KB11).on hb); have KW12 := hide ((unhide KW11).on hb); have KG12 := hide ((unhide KG11).on hb); have HB12 := hide ((unhide HB11).trans (hb.mono (unhide HB11).size))
  clear hb KB11 KW11 KG11 HB11
  go_upto_region 18 with (go_at_call 28; refine ((unhide KG12).mark (unhide HM)).mono ?_; rw [unhide HMM]; rintro e w13 ⟨rfl, hk, hx⟩)
  have hgx : ∀ z, z ∈ FG → w3.heap.size ≤ z ∧ w.heap.size < z := fun z hz => by have := (unhide KG12).rng z hz; omega
  have KB13 := hide ((unhide KB12).exc hx (fun z hz hm => by have := unhide HP z hz; have := hgx z hm; omega) (fun hm => by have := hgx b0 hm; have := unhide HEQ0; omega)); have KW13 := hide ((unhide KW12).exc hx (fun z hz => Or.inr (hgx z hz).1)); have KG13 := hide hk; have HB13 := hide ((unhide HB12).trans (hx.below (unhide HB12).size (fun z hz => by have := (hgx z hz).2; omega)))
  clear hx hk hgx KB12 KW12 KG12 HB12
  go_upto_region 20 with (go_at_call 29; refine ((unhide KG13).held (unhide HM)).mono ?_; rw [unhide HMM]; rintro e w14 ⟨rfl, hb⟩)
  have KB14 := hide ((unhide KB13).on hb); have KW14 := hide ((unhide KW13).on hb); have KG14 := hide ((unhide KG13).on hb); have HB14 := hide ((unhide HB13).trans (hb.mono (unhide HB13).size))
  clear hb KB13 KW13 KG13 HB13
  go_upto_region 24 with fail
  refine wp_region_list ?_
  refine wpList_load_mid rfl _ _ rfl b0 0 rfl [.int .i64 c.jobs, .int .i64 c.workers, .int .i64 c.window, .int .i64 c.next, .int .i64 c.reader, .slice A.q c.queue.length A.pq, .slice A.h c.hands.length A.ph, .int .i64 c.closer, .slice A.r c.results.length A.pr, .int .i64 c.keeper, .slice A.g c.ring.length A.pg, .int .i64 c.due, .slice A.o c.out.length A.po, .int .i64 c.user, .slice A.t c.got.length A.pt, .int .i64 c.room, .slice A.s c.shut.length A.ps, .int .i64 c.ops] dL (unhide KB14).range hdLu hdLr info18L ?_
  refine wpList_plain rfl (fun K hK => ?_)
  go_simp
  refine (toCrewWorld_val c A P w14 (unhide KB14).at' (unhide KB14).lt (unhide HWT)).mono ?_
  rintro e w15 ⟨p, Aq, Ah, Ar, Ag, Ao, At, As, rfl, hown, hdj, hrng, hb⟩
  refine hK _ _ ?_
  clear hK K
  have HAV := hide hown.at; have HAL := hide (show ∀ z, z ∈ F7 Aq Ah Ar Ag Ao At As → z < w15.heap.size from fun z hz => (hrng z hz).2)
  clear hown hdj hrng
  have KB15 := hide ((unhide KB14).on hb); have KW15 := hide ((unhide KW14).on hb); have KG15 := hide ((unhide KG14).on hb); have HB15 := hide ((unhide HB14).trans (hb.mono (unhide HB14).size))
  clear hb KB14 KW14 KG14 HB14
  refine wpList_plain rfl (fun K hK => ?_)
  go_simp
  refine (unhide HIM p _ w15 (unhide HAV) (unhide HAL)).mono ?_
  rintro e w16 ⟨t, FT, rfl, hmx, hb⟩
  refine hK _ _ ?_
  clear hK K
  clear HAV HAL
  have KY17 := hide hmx
  clear hmx
  have KW17 := hide ((unhide KW15).on hb); have KG17 := hide ((unhide KG15).on hb); have HB17 := hide ((unhide HB15).trans (hb.mono (unhide HB15).size))
  clear hb KW15 KG15 HB15
  clear KB15
  go_upto_region 26 with (go_at_call 25; refine ((unhide KY17).eq (unhide KW17)).mono ?_; rintro e w18 ⟨rfl, hb⟩)
  have KG18 := hide ((unhide KG17).on hb); have HB18 := hide ((unhide HB17).trans (hb.mono (unhide HB17).size))
  clear hb KG17 HB17
  clear KY17 KW17
  go_wp2_with (go_at_call 29; refine ((unhide KG18).held (unhide HM)).mono ?_; rw [unhide HMM]; rintro e w19 ⟨rfl, hb⟩; have HB19 := hide ((unhide HB18).trans (hb.mono (unhide HB18).size)); clear hb KG18 HB18)
  go_ret
  exact ⟨rfl, unhide HB19⟩
end Go.Proofs.YtibgjcejddpldaaGreat

/- What is read of a list of strings that comes in is one that lies in memory. No conditions. -/

namespace Go.Proofs.YtibgjcejddpldaaGreat
open Go Go.RowKit Go.ChangeShapes Go.WideShapes Go.ChangeAt Go.Deep

section
variable {H : Type} {enc : TypeId × Value → H} {W : World} {spare : Nat → Bool} {held : Bool}

end
end Go.Proofs.YtibgjcejddpldaaGreat

/- What is read of a disk that comes in is a disk that lies in memory. No conditions. -/

namespace Go.Proofs.YtibgjcejddpldaaGreat
open Go Go.RowKit Go.ChangeShapes Go.WideShapes Go.ChangeAt Go.Deep

section
variable {H : Type} {enc : TypeId × Value → H} {W : World} {spare : Nat → Bool} {held : Bool}

/-- A slice of rows of n cells each, whose elements are opened by 'op'. -/
theorem flat_of_trod {E : Type} [Inhabited E] (cs : E → List Value) (ok : E → Prop) (T S n : Nat) (hn : 0 < n) (hcl : ∀ e, (cs e).length = n) (hu : Tryz.prog.underlying S = some (.slice T)) (hc : Tryz.prog.cellsOf T = n)
    (op : ∀ (fuel : Nat) (l : List Value) (x : DataW H × List MemPlace), DataW.trod enc Tryz.prog W 0 spare held fuel T l = some x → ∃ e : E, l = cs e ∧ ok e)
    {fuel : Nat} {v : Value} {x : DataW H × List MemPlace} (h : DataW.trod enc Tryz.prog W 0 spare held fuel S [v] = some x) :
    ∃ es : List E, FlatAt (fun b => b < W.heap.size) W v n (es.map cs) ∧ ∀ e, e ∈ es → ok e := by
  rcases DataW.trod_slice hu h with ⟨hcs, -⟩ | ⟨a, len, cap, elems, rest, n', hn', hcs, -, -, hl, hm, hel, hget, -⟩
  · simp only [List.cons.injEq, and_true] at hcs
    exact ⟨[], ⟨none, 0, hcs, by simp, fun i hi => by simp at hi⟩, fun e he => by cases he⟩
  · simp only [List.cons.injEq, and_true] at hcs
    unfold maxLen at hm
    rw [hc] at hget
    have hspot : 0 < len → a.spot = none := fun h0 => by
      have hgi := hget 0 h0
      rw [List.getElem?_eq_getElem (by omega)] at hgi
      obtain ⟨cs', hcs', htr⟩ := Option.bind_eq_some_iff.1 hgi
      obtain ⟨-, hl5, hcell⟩ := World.cells?_some hcs'
      have hc0 := hcell 0 (by omega)
      rw [List.getElem?_eq_getElem (by omega)] at hc0
      simpa [Addr.add] using World.cell?_spot hc0
    have hkid : ∀ i, i < len → ∃ e : E, ok e ∧ ∃ b o, a = ⟨b, o, none⟩ ∧ b < W.heap.size ∧ ∀ j, j < n → W.cell? ⟨b, o + i * n + j, none⟩ = some ((cs e).getD j undef) := by
      intro i hi
      have hgi := hget i hi
      rw [List.getElem?_eq_getElem (by omega)] at hgi
      obtain ⟨cs', hcs', htr⟩ := Option.bind_eq_some_iff.1 hgi
      obtain ⟨e, rfl, he⟩ := op n' cs' _ htr
      obtain ⟨-, -, hcell⟩ := World.cells?_some hcs'
      obtain ⟨b, off, spot⟩ := a
      have hsp : spot = none := hspot (by omega)
      subst hsp
      have hj : ∀ j, j < n → W.cell? ⟨b, off + i * n + j, none⟩ = some ((cs e).getD j undef) := fun j hj => by
        have h1 := hcell j hj
        simp only [Addr.add_lit] at h1
        rw [h1, List.getElem?_eq_getElem (by rw [hcl]; exact hj), List.getD_eq_getElem?_getD, List.getElem?_eq_getElem (by rw [hcl]; exact hj)]
        rfl
      exact ⟨e, he, b, off, rfl, World.block_lt_of_cell? W _ (hj 0 hn), hj⟩
    obtain ⟨K, hK⟩ : ∃ K : Nat → E, ∀ i, i < len → ok (K i) ∧ ∃ b o, a = ⟨b, o, none⟩ ∧ b < W.heap.size ∧ ∀ j, j < n → W.cell? ⟨b, o + i * n + j, none⟩ = some ((cs (K i)).getD j undef) :=
      ⟨fun i => if h : i < len then (hkid i h).choose else default, fun i hi => by simp only [hi, dif_pos]; exact (hkid i hi).choose_spec⟩
    refine ⟨(List.range len).map K, ⟨some a, cap, by simpa using hcs, by simp; omega, fun i hi => ?_⟩, fun e he => ?_⟩
    · have hi' : i < len := by simpa using hi
      obtain ⟨-, b, o, ha, hb, hj⟩ := hK i hi'
      exact ⟨b, o, by rw [ha], hb, fun j hj' => by rw [hj j hj']; simp⟩
    · obtain ⟨i, hi, rfl⟩ := List.mem_map.1 he
      exact (hK i (by simpa using hi)).1

/-- The fields of a struct whose fields are one cell each. -/
theorem fields_of {T : Nat} {ts : Array TypeId} {k : Nat} (hk : ts.size = k) (hone : ∃ fs : Array Field, Tryz.prog.underlying T = some (.struct fs) ∧ oneCellFields Tryz.prog fs = true ∧ fs.map (·.type) = ts) {fuel : Nat} {cs : List Value} {x : DataW H × List MemPlace} (h : DataW.trod enc Tryz.prog W 0 spare held fuel T cs = some x) :
    cs.length = Tryz.prog.cellsOf T ∧ ∃ n, ∀ (i : Nat) (U : TypeId), i < k → ts[i]? = some U → ∃ y, DataW.trod enc Tryz.prog W 0 spare held n U ((cs.drop i).take 1) = some y := by
  obtain ⟨fs, hu, hone, hty⟩ := hone
  obtain ⟨xs, n, hn, -, hlen, hxl, hf⟩ := DataW.trod_struct hu h
  refine ⟨hlen, n, fun i U hi hT => ?_⟩
  have hsz : fs.size = k := by have := congrArg Array.size hty; rw [hk] at this; simpa using this
  have hfi : fs[i]? = some (fs[i]'(by omega)) := Array.getElem?_eq_getElem (by omega)
  obtain ⟨ho, hc⟩ := hone_of hone i _ hfi
  have := hf i _ hfi
  rw [ho, hc] at this
  have hTT : (fs[i]'(by omega)).type = U := by
    rw [← hty] at hT
    simpa [hsz, hi] using hT
  rw [hTT] at this
  exact ⟨xs[i]'(by omega), by rw [this]; exact List.getElem?_eq_getElem (by omega)⟩

instance : Inhabited Df := ⟨⟨ByteArray.empty, ByteArray.empty, 0⟩⟩
instance : Inhabited Dm := ⟨⟨false, ByteArray.empty⟩⟩
end
end Go.Proofs.YtibgjcejddpldaaGreat
