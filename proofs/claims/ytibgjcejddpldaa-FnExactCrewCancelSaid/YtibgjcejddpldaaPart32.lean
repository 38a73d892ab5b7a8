/- Worlds in boxes, for the law on CrewCancel. No program walked but the law's own. No conditions. -/
import Derived.Test.YtibgjcejddpldaaPart08
import Derived.Test.YtibgjcejddpldaaPart18
import Derived.Test.YtibgjcejddpldaaPart28
import Derived.Test.YtibgjcejddpldaaPart31
import Derived.Deep.CutRange
import Derived.Handy
namespace Go.Proofs.Ytibgjcejddpldaa
open Go Go.RowKit

theorem Bx.exc2 {W W' : World} {c c' : Cw} {v : C7} {Fq Fh Fr Fg Fo Ft Fs : List Nat} {lo b : Nat} {G : List Nat} (h : Bx W c c' v Fq Fh Fr Fg Fo Ft Fs lo b) (hx : Exc G W W') (hG : ∀ x, x ∈ G → x < lo) : Bx W' c c' v Fq Fh Fr Fg Fo Ft Fs lo b :=
  h.carry fun x h1 h2 => hx.block x (Nat.lt_of_le_of_lt h2 h.box.lt) (fun hm => by have := hG x hm; omega)
theorem Bx.markG {W : World} {c : Cw} {v : C7} {Fq Fh Fr Fg Fo Ft Fs : List Nat} {lo b : Nat} (h : Bx W c c v Fq Fh Fr Fg Fo Ft Fs lo b) (hk : mkC c ≤ 4194304) :
    Calls Try.prog 9 #[.agg #[.int .i64 c.jobs, .int .i64 c.workers, .int .i64 c.window, .int .i64 c.next, .int .i64 c.reader, v.q, v.h, .int .i64 c.closer, v.r, .int .i64 c.keeper, v.g, .int .i64 c.due, v.o, .int .i64 c.user, v.t, .int .i64 c.room, v.s, .int .i64 c.ops], .int .i64 1] W fun e w' => e = .returned (.int .i64 (1 + mkC c : Nat)) ∧ Exc (F7 Fq Fh Fr Fg Fo Ft Fs) W w' := by
  refine (markCrewWorld_own c v Fq Fh Fr Fg Fo Ft Fs 1 W h.own h.dj h.lt (by omega)).mono ?_
  rintro e w' ⟨rfl, ho, hx⟩
  exact ⟨rfl, hx⟩
theorem Bx.ld {W : World} {c c' : Cw} {v : C7} {Fq Fh Fr Fg Fo Ft Fs : List Nat} {lo b : Nat} (h : Bx W c c' v Fq Fh Fr Fg Fo Ft Fs lo b) : (Instr.loadAt 29 (.pointer (some ⟨b, 0, none⟩))).run Try.prog W = .ok (.agg #[.int .i64 c.jobs, .int .i64 c.workers, .int .i64 c.window, .int .i64 c.next, .int .i64 c.reader, v.q, v.h, .int .i64 c.closer, v.r, .int .i64 c.keeper, v.g, .int .i64 c.due, v.o, .int .i64 c.user, v.t, .int .i64 c.room, v.s, .int .i64 c.ops]) W := by
  obtain ⟨dd, hdu, hdr⟩ := rowWorld
  unfold Instr.loadAt
  simp only [Instr.sureAddr, Sem.run_bind, Sem.run_pure, Result.andThen_ok, run_loadVar_mid W b 0 29 [.int .i64 c.jobs, .int .i64 c.workers, .int .i64 c.window, .int .i64 c.next, .int .i64 c.reader, v.q, v.h, .int .i64 c.closer, v.r, .int .i64 c.keeper, v.g, .int .i64 c.due, v.o, .int .i64 c.user, v.t, .int .i64 c.room, v.s, .int .i64 c.ops] dd h.range hdu hdr info18]
theorem Bc.exc {T : TypeId} {P : Nat → Prop} {b : Nat} {c : Cw} {A : A7} {W W' : World} {G : List Nat} (h : Bc T P b c A W) (hx : Exc G W W') (hP : ∀ x, P x → x ∉ G) (hb : b ∉ G) : Bc T P b c A W' :=
  ⟨h.row.of_block (hx.block _ h.row.lt hb), h.at'.carry (fun x hp => hx.block x (h.lt x hp) (hP x hp)) (fun _ h => h), fun x hp => Nat.lt_of_lt_of_le (h.lt x hp) hx.size⟩
theorem toCrewWorld_val (c : Cw) (A : A7) (P : Nat → Prop) (w : World) (h : CwAt P w c (A.v c)) (hP : ∀ b, P b → b < w.heap.size) (hwt : wC c ≤ 1048576) : Calls Try.prog 6 #[.agg #[.int .i64 c.jobs, .int .i64 c.workers, .int .i64 c.window, .int .i64 c.next, .int .i64 c.reader, .slice A.q c.queue.length A.pq, .slice A.h c.hands.length A.ph, .int .i64 c.closer, .slice A.r c.results.length A.pr, .int .i64 c.keeper, .slice A.g c.ring.length A.pg, .int .i64 c.due, .slice A.o c.out.length A.po, .int .i64 c.user, .slice A.t c.got.length A.pt, .int .i64 c.room, .slice A.s c.shut.length A.ps, .int .i64 c.ops]] w fun e w' => CwVal w w' e c := by
  refine (toCrewWorld_own c A P w h hP hwt).mono ?_
  rintro e w' ⟨A', Fq, Fh, Fr, Fg, Fo, Ft, Fs, rfl, ho, hd, hr, hb⟩
  exact ⟨A'.v c, Fq, Fh, Fr, Fg, Fo, Ft, Fs, rfl, ho, hd, hr, hb⟩
theorem cancel_both (c : Cw) : ∃ (x : Cw) (ok : Bool), mkC x ≤ 10000 ∧ (∀ (v : C7) (Q : Nat → Prop) (W : World), CwAt Q W c v → (∀ b, Q b → b < W.heap.size) → Calls Try.prog 5 #[.agg #[.int .i64 c.jobs, .int .i64 c.workers, .int .i64 c.window, .int .i64 c.next, .int .i64 c.reader, v.q, v.h, .int .i64 c.closer, v.r, .int .i64 c.keeper, v.g, .int .i64 c.due, v.o, .int .i64 c.user, v.t, .int .i64 c.room, v.s, .int .i64 c.ops]] W fun e w' => CwEnd W w' e x ok) ∧ (∀ (v : C7) (Q : Nat → Prop) (W : World), CwAt Q W c v → (∀ b, Q b → b < W.heap.size) → Calls Try.prog 7 #[.agg #[.int .i64 c.jobs, .int .i64 c.workers, .int .i64 c.window, .int .i64 c.next, .int .i64 c.reader, v.q, v.h, .int .i64 c.closer, v.r, .int .i64 c.keeper, v.g, .int .i64 c.due, v.o, .int .i64 c.user, v.t, .int .i64 c.room, v.s, .int .i64 c.ops]] W fun e w' => CwEnd W w' e x ok) := by
  by_cases hok : cnOk c
  · refine ⟨cnTo c, true, ?_, fun v Q W h hP => ?_, fun v Q W h hP => ?_⟩
    · have hF := hok.form
      have hg := ((formS_iff c).1 hok.1.1).2
      obtain ⟨⟨a1, a2⟩, ⟨a3, a4⟩, ⟨a5, a6⟩⟩ := hF.st
      have := hF.hands; have := hF.ring; have := hF.queue; have := hF.results; have := hF.out; have := hF.shut
      unfold mkC cnTo
      simp only [List.length_set]
      omega
    · obtain ⟨A, rfl⟩ := h.addr
      exact specCrewCancel_yes c A Q W h hP hok
    · obtain ⟨A, rfl⟩ := h.addr
      exact implCrewCancel_yes c A Q W h hP hok
  · refine ⟨noCw, false, by simp [mkC, noCw], fun v Q W h hP => ?_, fun v Q W h hP => ?_⟩
    · obtain ⟨A, rfl⟩ := h.addr
      exact specCrewCancel_no c A Q W h hP hok
    · obtain ⟨A, rfl⟩ := h.addr
      exact implCrewCancel_no c A Q W h hP hok
noncomputable def cn10Ops : Array Oper := fops Try.f3 10
theorem cn10_neat : Region.noSelect cn10Ops = true ∧ neat cn10Ops = true := ⟨by kernel_rfl, by kernel_rfl⟩
set_option maxRecDepth 100000 in
set_option maxHeartbeats 3200000 in
theorem cn10 (c : Cw) (A : A7) (P : Nat → Prop) (S : World → Prop) (hon : ∀ W W', S W → Below W.heap.size W W' → S W') (y : C7) (Xq Xh Xr Xg Xo Xt Xs : List Nat) (lo b6 b0 : Nat) (hX : ∀ W, S W → Bx W c c y Xq Xh Xr Xg Xo Xt Xs lo b6) (hA : ∀ W, S W → Bc 25 P b0 c A W) (hwt : wC c ≤ 1048576) (W0 : World) {v0 v2 v3 v4 v5 v7 v8 v9 v10 v11 v12 v13 v14 v15 v16 v17 v18 v19 v20 v21 v22 v23 v24 v25 v26 v27 v28 v29 v30 v31 v32 v33 v34 v35 v36 v37 v38 v39 v40 v41 v42 v43 v44 v45 v46 v47 v48 v49 v50 v51 v52 v53 v54 v55 v56 v57 v58 v59 v60 v61 v62 v63 v64 v65 v66 v67 v68 v69 v70 v71 v72 v73 v74 v75 v76 v77 v78 v79 v80 v81 v82 v83 v84 v85 v86 v87 v88 v89 v90 v91 v92 v93 v94 v95 : Value} (Q : Exit → Act → World → Prop) (hQ : ∀ c a d v w, Q (.panic c) (Act.put a d v) w → Q (.panic c) a w) (hS : S W0.drew)
    (hend : ∀ (n41 n42 n43 n44 : Value) W', S W' → Q .normal ⟨(v0 :: .pointer (some ⟨b0, 0, none⟩) :: v2 :: v3 :: v4 :: v5 :: .pointer (some ⟨b6, 0, none⟩) :: v7 :: v8 :: v9 :: v10 :: v11 :: v12 :: v13 :: v14 :: v15 :: v16 :: v17 :: v18 :: v19 :: v20 :: v21 :: v22 :: v23 :: v24 :: v25 :: v26 :: v27 :: v28 :: v29 :: v30 :: v31 :: v32 :: v33 :: v34 :: v35 :: v36 :: v37 :: v38 :: v39 :: v40 :: n41 :: n42 :: n43 :: n44 :: .bool false :: v46 :: v47 :: v48 :: v49 :: v50 :: v51 :: v52 :: v53 :: v54 :: v55 :: v56 :: v57 :: v58 :: v59 :: v60 :: v61 :: v62 :: v63 :: v64 :: v65 :: v66 :: v67 :: v68 :: v69 :: v70 :: v71 :: v72 :: v73 :: v74 :: v75 :: v76 :: v77 :: v78 :: v79 :: v80 :: v81 :: v82 :: v83 :: v84 :: v85 :: v86 :: v87 :: v88 :: v89 :: v90 :: v91 :: v92 :: v93 :: v94 :: v95 :: []).toArray, []⟩ W') : (Code.region 10 cn10Ops true).wp Try.prog Q ⟨(v0 :: .pointer (some ⟨b0, 0, none⟩) :: v2 :: v3 :: v4 :: v5 :: .pointer (some ⟨b6, 0, none⟩) :: v7 :: v8 :: v9 :: v10 :: v11 :: v12 :: v13 :: v14 :: v15 :: v16 :: v17 :: v18 :: v19 :: v20 :: v21 :: v22 :: v23 :: v24 :: v25 :: v26 :: v27 :: v28 :: v29 :: v30 :: v31 :: v32 :: v33 :: v34 :: v35 :: v36 :: v37 :: v38 :: v39 :: v40 :: v41 :: v42 :: v43 :: v44 :: v45 :: v46 :: v47 :: v48 :: v49 :: v50 :: v51 :: v52 :: v53 :: v54 :: v55 :: v56 :: v57 :: v58 :: v59 :: v60 :: v61 :: v62 :: v63 :: v64 :: v65 :: v66 :: v67 :: v68 :: v69 :: v70 :: v71 :: v72 :: v73 :: v74 :: v75 :: v76 :: v77 :: v78 :: v79 :: v80 :: v81 :: v82 :: v83 :: v84 :: v85 :: v86 :: v87 :: v88 :: v89 :: v90 :: v91 :: v92 :: v93 :: v94 :: v95 :: []).toArray, []⟩ W0 := by
  have hs := cn10_neat
  refine wp_region_held (S := S) (by kernel_rfl) ?_
  refine any_eq (l' := #[false, false, false, false, false]) (by kernel_rfl) rfl ?_
  show wpAnyH Try.prog .any cn10Ops Q S 5 _ _ _
  refine take_load 0 (some 41) 29 (.tmp 6) ⟨b6, 0, none⟩ (.agg #[.int .i64 c.jobs, .int .i64 c.workers, .int .i64 c.window, .int .i64 c.next, .int .i64 c.reader, y.q, y.h, .int .i64 c.closer, y.r, .int .i64 c.keeper, y.g, .int .i64 c.due, y.o, .int .i64 c.user, y.t, .int .i64 c.room, y.s, .int .i64 c.ops]) hs hQ (by kernel_rfl) (by kernel_rfl) (by kernel_rfl) (fun w h => (hX w h).ld) hS ?_
  refine take_load 1 (some 42) 25 (.tmp 1) ⟨b0, 0, none⟩ (.agg #[.int .i64 c.jobs, .int .i64 c.workers, .int .i64 c.window, .int .i64 c.next, .int .i64 c.reader, .slice A.q c.queue.length A.pq, .slice A.h c.hands.length A.ph, .int .i64 c.closer, .slice A.r c.results.length A.pr, .int .i64 c.keeper, .slice A.g c.ring.length A.pg, .int .i64 c.due, .slice A.o c.out.length A.po, .int .i64 c.user, .slice A.t c.got.length A.pt, .int .i64 c.room, .slice A.s c.shut.length A.ps, .int .i64 c.ops]) hs hQ (by kernel_rfl) (by kernel_rfl) (by kernel_rfl) (fun w h => (hA w h).ldL) hS ?_
  refine any_eq (l' := #[true, true, false, false, false]) (a' := ⟨(v0 :: .pointer (some ⟨b0, 0, none⟩) :: v2 :: v3 :: v4 :: v5 :: .pointer (some ⟨b6, 0, none⟩) :: v7 :: v8 :: v9 :: v10 :: v11 :: v12 :: v13 :: v14 :: v15 :: v16 :: v17 :: v18 :: v19 :: v20 :: v21 :: v22 :: v23 :: v24 :: v25 :: v26 :: v27 :: v28 :: v29 :: v30 :: v31 :: v32 :: v33 :: v34 :: v35 :: v36 :: v37 :: v38 :: v39 :: v40 :: .agg #[.int .i64 c.jobs, .int .i64 c.workers, .int .i64 c.window, .int .i64 c.next, .int .i64 c.reader, y.q, y.h, .int .i64 c.closer, y.r, .int .i64 c.keeper, y.g, .int .i64 c.due, y.o, .int .i64 c.user, y.t, .int .i64 c.room, y.s, .int .i64 c.ops] :: .agg #[.int .i64 c.jobs, .int .i64 c.workers, .int .i64 c.window, .int .i64 c.next, .int .i64 c.reader, .slice A.q c.queue.length A.pq, .slice A.h c.hands.length A.ph, .int .i64 c.closer, .slice A.r c.results.length A.pr, .int .i64 c.keeper, .slice A.g c.ring.length A.pg, .int .i64 c.due, .slice A.o c.out.length A.po, .int .i64 c.user, .slice A.t c.got.length A.pt, .int .i64 c.room, .slice A.s c.shut.length A.ps, .int .i64 c.ops] :: v43 :: v44 :: v45 :: v46 :: v47 :: v48 :: v49 :: v50 :: v51 :: v52 :: v53 :: v54 :: v55 :: v56 :: v57 :: v58 :: v59 :: v60 :: v61 :: v62 :: v63 :: v64 :: v65 :: v66 :: v67 :: v68 :: v69 :: v70 :: v71 :: v72 :: v73 :: v74 :: v75 :: v76 :: v77 :: v78 :: v79 :: v80 :: v81 :: v82 :: v83 :: v84 :: v85 :: v86 :: v87 :: v88 :: v89 :: v90 :: v91 :: v92 :: v93 :: v94 :: v95 :: []).toArray, []⟩) (by kernel_rfl) (by kernel_rfl) ?_
  refine ready_one 2 (by kernel_rfl) ?_
  refine op_enter (some 43) 6 #[.agg #[.int .i64 c.jobs, .int .i64 c.workers, .int .i64 c.window, .int .i64 c.next, .int .i64 c.reader, .slice A.q c.queue.length A.pq, .slice A.h c.hands.length A.ph, .int .i64 c.closer, .slice A.r c.results.length A.pr, .int .i64 c.keeper, .slice A.g c.ring.length A.pg, .int .i64 c.due, .slice A.o c.out.length A.po, .int .i64 c.user, .slice A.t c.got.length A.pt, .int .i64 c.room, .slice A.s c.shut.length A.ps, .int .i64 c.ops]] (by kernel_rfl) (by kernel_rfl) (toCrewWorld_val c A P _ (hA _ hS).at' (hA _ hS).lt hwt) ?_
  rintro e W1 ⟨u, Uq, Uh, Ur, Ug, Uo, Ut, Us, rfl, hown, hdj, hrng, hb⟩
  have hS1 := hon _ _ hS hb
  refine ⟨_, rfl, hS1, ?_⟩
  refine any_eq (l' := #[true, true, true, false, false]) (a' := ⟨(v0 :: .pointer (some ⟨b0, 0, none⟩) :: v2 :: v3 :: v4 :: v5 :: .pointer (some ⟨b6, 0, none⟩) :: v7 :: v8 :: v9 :: v10 :: v11 :: v12 :: v13 :: v14 :: v15 :: v16 :: v17 :: v18 :: v19 :: v20 :: v21 :: v22 :: v23 :: v24 :: v25 :: v26 :: v27 :: v28 :: v29 :: v30 :: v31 :: v32 :: v33 :: v34 :: v35 :: v36 :: v37 :: v38 :: v39 :: v40 :: .agg #[.int .i64 c.jobs, .int .i64 c.workers, .int .i64 c.window, .int .i64 c.next, .int .i64 c.reader, y.q, y.h, .int .i64 c.closer, y.r, .int .i64 c.keeper, y.g, .int .i64 c.due, y.o, .int .i64 c.user, y.t, .int .i64 c.room, y.s, .int .i64 c.ops] :: .agg #[.int .i64 c.jobs, .int .i64 c.workers, .int .i64 c.window, .int .i64 c.next, .int .i64 c.reader, .slice A.q c.queue.length A.pq, .slice A.h c.hands.length A.ph, .int .i64 c.closer, .slice A.r c.results.length A.pr, .int .i64 c.keeper, .slice A.g c.ring.length A.pg, .int .i64 c.due, .slice A.o c.out.length A.po, .int .i64 c.user, .slice A.t c.got.length A.pt, .int .i64 c.room, .slice A.s c.shut.length A.ps, .int .i64 c.ops] :: .agg #[.int .i64 c.jobs, .int .i64 c.workers, .int .i64 c.window, .int .i64 c.next, .int .i64 c.reader, u.q, u.h, .int .i64 c.closer, u.r, .int .i64 c.keeper, u.g, .int .i64 c.due, u.o, .int .i64 c.user, u.t, .int .i64 c.room, u.s, .int .i64 c.ops] :: v44 :: v45 :: v46 :: v47 :: v48 :: v49 :: v50 :: v51 :: v52 :: v53 :: v54 :: v55 :: v56 :: v57 :: v58 :: v59 :: v60 :: v61 :: v62 :: v63 :: v64 :: v65 :: v66 :: v67 :: v68 :: v69 :: v70 :: v71 :: v72 :: v73 :: v74 :: v75 :: v76 :: v77 :: v78 :: v79 :: v80 :: v81 :: v82 :: v83 :: v84 :: v85 :: v86 :: v87 :: v88 :: v89 :: v90 :: v91 :: v92 :: v93 :: v94 :: v95 :: []).toArray, []⟩) (by kernel_rfl) (by kernel_rfl) ?_
  refine ready_one 3 (by kernel_rfl) ?_
  refine op_enter (some 44) 8 #[.agg #[.int .i64 c.jobs, .int .i64 c.workers, .int .i64 c.window, .int .i64 c.next, .int .i64 c.reader, y.q, y.h, .int .i64 c.closer, y.r, .int .i64 c.keeper, y.g, .int .i64 c.due, y.o, .int .i64 c.user, y.t, .int .i64 c.room, y.s, .int .i64 c.ops], .agg #[.int .i64 c.jobs, .int .i64 c.workers, .int .i64 c.window, .int .i64 c.next, .int .i64 c.reader, u.q, u.h, .int .i64 c.closer, u.r, .int .i64 c.keeper, u.g, .int .i64 c.due, u.o, .int .i64 c.user, u.t, .int .i64 c.room, u.s, .int .i64 c.ops]] (by kernel_rfl) (by kernel_rfl) (eqCrewWorld_any c y u W1 (hX _ hS1).own.at hown.at (hX _ hS1).lt (fun b hb => (hrng b hb).2)) ?_
  rintro e W2 ⟨rfl, hb2⟩
  have hS2 := hon _ _ hS1 hb2
  refine ⟨_, rfl, hS2, ?_⟩
  refine any_eq (l' := #[true, true, true, true, false]) (a' := ⟨(v0 :: .pointer (some ⟨b0, 0, none⟩) :: v2 :: v3 :: v4 :: v5 :: .pointer (some ⟨b6, 0, none⟩) :: v7 :: v8 :: v9 :: v10 :: v11 :: v12 :: v13 :: v14 :: v15 :: v16 :: v17 :: v18 :: v19 :: v20 :: v21 :: v22 :: v23 :: v24 :: v25 :: v26 :: v27 :: v28 :: v29 :: v30 :: v31 :: v32 :: v33 :: v34 :: v35 :: v36 :: v37 :: v38 :: v39 :: v40 :: .agg #[.int .i64 c.jobs, .int .i64 c.workers, .int .i64 c.window, .int .i64 c.next, .int .i64 c.reader, y.q, y.h, .int .i64 c.closer, y.r, .int .i64 c.keeper, y.g, .int .i64 c.due, y.o, .int .i64 c.user, y.t, .int .i64 c.room, y.s, .int .i64 c.ops] :: .agg #[.int .i64 c.jobs, .int .i64 c.workers, .int .i64 c.window, .int .i64 c.next, .int .i64 c.reader, .slice A.q c.queue.length A.pq, .slice A.h c.hands.length A.ph, .int .i64 c.closer, .slice A.r c.results.length A.pr, .int .i64 c.keeper, .slice A.g c.ring.length A.pg, .int .i64 c.due, .slice A.o c.out.length A.po, .int .i64 c.user, .slice A.t c.got.length A.pt, .int .i64 c.room, .slice A.s c.shut.length A.ps, .int .i64 c.ops] :: .agg #[.int .i64 c.jobs, .int .i64 c.workers, .int .i64 c.window, .int .i64 c.next, .int .i64 c.reader, u.q, u.h, .int .i64 c.closer, u.r, .int .i64 c.keeper, u.g, .int .i64 c.due, u.o, .int .i64 c.user, u.t, .int .i64 c.room, u.s, .int .i64 c.ops] :: .bool true :: v45 :: v46 :: v47 :: v48 :: v49 :: v50 :: v51 :: v52 :: v53 :: v54 :: v55 :: v56 :: v57 :: v58 :: v59 :: v60 :: v61 :: v62 :: v63 :: v64 :: v65 :: v66 :: v67 :: v68 :: v69 :: v70 :: v71 :: v72 :: v73 :: v74 :: v75 :: v76 :: v77 :: v78 :: v79 :: v80 :: v81 :: v82 :: v83 :: v84 :: v85 :: v86 :: v87 :: v88 :: v89 :: v90 :: v91 :: v92 :: v93 :: v94 :: v95 :: []).toArray, []⟩) (by kernel_rfl) (by kernel_rfl) ?_
  refine take_any 4 (some 45) (.bool false) hs hQ (by kernel_rfl) (fun w _ => by kernel_rfl) hS2 ?_
  refine any_eq (l' := #[true, true, true, true, true]) (a' := ⟨(v0 :: .pointer (some ⟨b0, 0, none⟩) :: v2 :: v3 :: v4 :: v5 :: .pointer (some ⟨b6, 0, none⟩) :: v7 :: v8 :: v9 :: v10 :: v11 :: v12 :: v13 :: v14 :: v15 :: v16 :: v17 :: v18 :: v19 :: v20 :: v21 :: v22 :: v23 :: v24 :: v25 :: v26 :: v27 :: v28 :: v29 :: v30 :: v31 :: v32 :: v33 :: v34 :: v35 :: v36 :: v37 :: v38 :: v39 :: v40 :: .agg #[.int .i64 c.jobs, .int .i64 c.workers, .int .i64 c.window, .int .i64 c.next, .int .i64 c.reader, y.q, y.h, .int .i64 c.closer, y.r, .int .i64 c.keeper, y.g, .int .i64 c.due, y.o, .int .i64 c.user, y.t, .int .i64 c.room, y.s, .int .i64 c.ops] :: .agg #[.int .i64 c.jobs, .int .i64 c.workers, .int .i64 c.window, .int .i64 c.next, .int .i64 c.reader, .slice A.q c.queue.length A.pq, .slice A.h c.hands.length A.ph, .int .i64 c.closer, .slice A.r c.results.length A.pr, .int .i64 c.keeper, .slice A.g c.ring.length A.pg, .int .i64 c.due, .slice A.o c.out.length A.po, .int .i64 c.user, .slice A.t c.got.length A.pt, .int .i64 c.room, .slice A.s c.shut.length A.ps, .int .i64 c.ops] :: .agg #[.int .i64 c.jobs, .int .i64 c.workers, .int .i64 c.window, .int .i64 c.next, .int .i64 c.reader, u.q, u.h, .int .i64 c.closer, u.r, .int .i64 c.keeper, u.g, .int .i64 c.due, u.o, .int .i64 c.user, u.t, .int .i64 c.room, u.s, .int .i64 c.ops] :: .bool true :: .bool false :: v46 :: v47 :: v48 :: v49 :: v50 :: v51 :: v52 :: v53 :: v54 :: v55 :: v56 :: v57 :: v58 :: v59 :: v60 :: v61 :: v62 :: v63 :: v64 :: v65 :: v66 :: v67 :: v68 :: v69 :: v70 :: v71 :: v72 :: v73 :: v74 :: v75 :: v76 :: v77 :: v78 :: v79 :: v80 :: v81 :: v82 :: v83 :: v84 :: v85 :: v86 :: v87 :: v88 :: v89 :: v90 :: v91 :: v92 :: v93 :: v94 :: v95 :: []).toArray, []⟩) (by kernel_rfl) (by kernel_rfl) ?_
  exact wpAnyH_done (by kernel_rfl) (hend _ _ _ _ _ hS2) _
end Go.Proofs.Ytibgjcejddpldaa

/- The walk of the law on CrewCancel: whatever world comes in, it answers true, and turns nothing that was there. No conditions. -/

namespace Go.Proofs.Ytibgjcejddpldaa
open Go Go.RowKit

set_option maxRecDepth 100000 in
set_option maxHeartbeats 12800000 in
theorem lawCrewCancel_any (c : Cw) (A : A7) (P : Nat → Prop) (w : World) (h : CwAt P w c (A.v c)) (hP : ∀ b, P b → b < w.heap.size) : Calls Try.prog 3 #[.agg #[.int .i64 c.jobs, .int .i64 c.workers, .int .i64 c.window, .int .i64 c.next, .int .i64 c.reader, .slice A.q c.queue.length A.pq, .slice A.h c.hands.length A.ph, .int .i64 c.closer, .slice A.r c.results.length A.pr, .int .i64 c.keeper, .slice A.g c.ring.length A.pg, .int .i64 c.due, .slice A.o c.out.length A.po, .int .i64 c.user, .slice A.t c.got.length A.pt, .int .i64 c.room, .slice A.s c.shut.length A.ps, .int .i64 c.ops]] w fun e w' => e = .returned (.bool true) ∧ Below w.heap.size w w' := by
  have HLN := hide h.ln
  have HP := hide hP
  have KB0 := hide (Bc.start h hP)
  have HB0 := hide (show Below w.heap.size w (w.alloc (.cells #[.int .i64 c.jobs, .int .i64 c.workers, .int .i64 c.window, .int .i64 c.next, .int .i64 c.reader, .slice A.q c.queue.length A.pq, .slice A.h c.hands.length A.ph, .int .i64 c.closer, .slice A.r c.results.length A.pr, .int .i64 c.keeper, .slice A.g c.ring.length A.pg, .int .i64 c.due, .slice A.o c.out.length A.po, .int .i64 c.user, .slice A.t c.got.length A.pt, .int .i64 c.room, .slice A.s c.shut.length A.ps, .int .i64 c.ops] 25)) from (Below.refl _ _).alloc (Nat.le_refl _) _)
  obtain ⟨dL, hdLu, hdLr⟩ := rowWorldL
  obtain ⟨dd, hdu, hdr⟩ := rowWorld
  obtain ⟨x, ok, hsm, hsp, him⟩ := cancel_both c
  have HSP := hide hsp; have HIM := hide him
  have hm1 : (1 + mkC x : Nat) ≤ 10001 := by omega
  have hm2 : mkC x ≤ 1048576 := by omega
  have HM := hide hm2
  generalize hmm : 1 + mkC x = m at hm1
  have HMM := hide hmm
  clear hmm hm2 hsm hsp him
  clear h hP
  go_enter Try.func3, Try.ntmps3
  go_upto_region 2 with fail
  generalize w.alloc (.cells #[.int .i64 c.jobs, .int .i64 c.workers, .int .i64 c.window, .int .i64 c.next, .int .i64 c.reader, .slice A.q c.queue.length A.pq, .slice A.h c.hands.length A.ph, .int .i64 c.closer, .slice A.r c.results.length A.pr, .int .i64 c.keeper, .slice A.g c.ring.length A.pg, .int .i64 c.due, .slice A.o c.out.length A.po, .int .i64 c.user, .slice A.t c.got.length A.pt, .int .i64 c.room, .slice A.s c.shut.length A.ps, .int .i64 c.ops] 25) = W0 at KB0 HB0 ⊢
  obtain ⟨b0, hb0⟩ : ∃ b, b = w.heap.size := ⟨_, rfl⟩
  have HEQ0 := hide hb0
  rw [← hb0] at KB0 ⊢
  clear hb0
  refine wp_region_list ?_
  refine wpList_load_mid rfl _ _ rfl b0 0 rfl [.int .i64 c.jobs, .int .i64 c.workers, .int .i64 c.window, .int .i64 c.next, .int .i64 c.reader, .slice A.q c.queue.length A.pq, .slice A.h c.hands.length A.ph, .int .i64 c.closer, .slice A.r c.results.length A.pr, .int .i64 c.keeper, .slice A.g c.ring.length A.pg, .int .i64 c.due, .slice A.o c.out.length A.po, .int .i64 c.user, .slice A.t c.got.length A.pt, .int .i64 c.room, .slice A.s c.shut.length A.ps, .int .i64 c.ops] dL (unhide KB0).range hdLu hdLr info18L ?_
  refine wpList_plain rfl (fun K hK => ?_); go_simp; refine hK _ _ ?_; clear hK K
  refine wpList_plain rfl (fun K hK => ?_)
  go_simp
  refine (szCrewWorld_any c A 1048576 W0 (unhide HLN) (by omega) (by omega)).mono ?_
  rintro e w1 ⟨r, rfl, hr, hb1⟩
  refine hK _ _ ?_
  clear hK K
  have KB1 := hide ((unhide KB0).on hb1); have HB1 := hide ((unhide HB0).trans (hb1.mono (unhide HB0).size))
  clear hb1 KB0 HB0
  rcases hr with rfl | ⟨hr0, hr1⟩
  · go_wp2_with fail
    go_ret
    exact ⟨rfl, unhide HB1⟩
  have HWT := hide (show wC c ≤ 1048576 from by omega)
  clear hr1
  have hk1 : 1 + mkC c ≤ 2097153 := by have := unhide HWT; unfold wC at this; unfold mkC; omega
  have HK := hide (show mkC c ≤ 4194304 by omega)
  generalize hkk : 1 + mkC c = kk at hk1
  have HKK := hide hkk
  clear hkk
  go_upto_region 5 with fail
  refine wp_region_list ?_
  refine wpList_load_mid rfl _ _ rfl b0 0 rfl [.int .i64 c.jobs, .int .i64 c.workers, .int .i64 c.window, .int .i64 c.next, .int .i64 c.reader, .slice A.q c.queue.length A.pq, .slice A.h c.hands.length A.ph, .int .i64 c.closer, .slice A.r c.results.length A.pr, .int .i64 c.keeper, .slice A.g c.ring.length A.pg, .int .i64 c.due, .slice A.o c.out.length A.po, .int .i64 c.user, .slice A.t c.got.length A.pt, .int .i64 c.room, .slice A.s c.shut.length A.ps, .int .i64 c.ops] dL (unhide KB1).range hdLu hdLr info18L ?_
  refine wpList_plain rfl (fun K hK => ?_)
  go_simp
  refine (toCrewWorld_val c A P w1 (unhide KB1).at' (unhide KB1).lt (unhide HWT)).mono ?_
  rintro e w2 ⟨a, Aq, Ah, Ar, Ag, Ao, At, As, rfl, hown, hdj, hrng, hb⟩
  refine hK _ _ ?_
  clear hK K
  have HAV := hide hown.at; have HAL := hide (show ∀ z, z ∈ F7 Aq Ah Ar Ag Ao At As → z < w2.heap.size from fun z hz => (hrng z hz).2)
  clear hown hdj hrng
  have KB2 := hide ((unhide KB1).on hb); have HB2 := hide ((unhide HB1).trans (hb.mono (unhide HB1).size))
  clear hb KB1 HB1
  have hlo2 : w.heap.size < w2.heap.size := by have := (unhide KB2).row.lt; have := unhide HEQ0; omega
  refine wpList_plain rfl (fun K hK => ?_)
  go_simp
  refine (unhide HSP a _ w2 (unhide HAV) (unhide HAL)).mono ?_
  rintro e w3 ⟨u, Uq, Uh, Ur, Ug, Uo, Ut, Us, rfl, hown, hdj, hrng, hb⟩
  refine hK _ _ ?_
  clear hK K
  clear HAV HAL
  obtain ⟨hbx, hbb⟩ := Bx.new hown hdj hrng hb
  have hon := cw_oneB hown
  have hsz := hb.size
  clear hown hdj hrng hb
  refine wpList_plain rfl (fun K hK => ?_); go_simp; refine hK _ _ ?_; clear hK K
  refine wpList_plain rfl (fun K hK => ?_); go_simp; refine hK _ _ ?_; clear hK K
  refine wpList_plain rfl (fun K hK => ?_); go_simp; refine hK _ _ ?_; clear hK K
  refine wpList_plain rfl (fun K hK => ?_); go_simp; refine hK _ _ ?_; clear hK K
  refine wpList_store_mid rfl _ _ _ rfl w3.heap.size 0 #[.int .i64 x.jobs, .int .i64 x.workers, .int .i64 x.window, .int .i64 x.next, .int .i64 x.reader, u.q, u.h, .int .i64 x.closer, u.r, .int .i64 x.keeper, u.g, .int .i64 x.due, u.o, .int .i64 x.user, u.t, .int .i64 x.room, u.s, .int .i64 x.ops] rfl rfl Bx.there info18 hon ?_
  clear hon
  generalize (w3.alloc _).setCells _ 0 _ = W4 at hbx hbb ⊢
  have KW4 := hide hbx; have hz3 := hsz
  clear hbx hsz
  have KB4 := hide ((unhide KB2).on hbb); have HB4 := hide ((unhide HB2).trans (hbb.mono (unhide HB2).size))
  clear hbb KB2 HB2
  have hlow4 : w3.heap.size < W4.heap.size := (unhide KW4).box.lt
  go_upto_region 6 with fail
  refine wp_region_list ?_
  refine wpList_load_mid rfl _ _ rfl b0 0 rfl [.int .i64 c.jobs, .int .i64 c.workers, .int .i64 c.window, .int .i64 c.next, .int .i64 c.reader, .slice A.q c.queue.length A.pq, .slice A.h c.hands.length A.ph, .int .i64 c.closer, .slice A.r c.results.length A.pr, .int .i64 c.keeper, .slice A.g c.ring.length A.pg, .int .i64 c.due, .slice A.o c.out.length A.po, .int .i64 c.user, .slice A.t c.got.length A.pt, .int .i64 c.room, .slice A.s c.shut.length A.ps, .int .i64 c.ops] dL (unhide KB4).range hdLu hdLr info18L ?_
  refine wpList_plain rfl (fun K hK => ?_)
  go_simp
  refine (toCrewWorld_val c A P W4 (unhide KB4).at' (unhide KB4).lt (unhide HWT)).mono ?_
  rintro e w5 ⟨y, Xq, Xh, Xr, Xg, Xo, Xt, Xs, rfl, hown, hdj, hrng, hb⟩
  refine hK _ _ ?_
  clear hK K
  obtain ⟨hbx, hbb⟩ := Bx.new hown hdj hrng hb
  have hon := cw_oneB hown
  have hsz := hb.size
  clear hown hdj hrng hb
  refine wpList_plain rfl (fun K hK => ?_); go_simp; refine hK _ _ ?_; clear hK K
  refine wpList_store_mid rfl _ _ _ rfl w5.heap.size 0 #[.int .i64 c.jobs, .int .i64 c.workers, .int .i64 c.window, .int .i64 c.next, .int .i64 c.reader, y.q, y.h, .int .i64 c.closer, y.r, .int .i64 c.keeper, y.g, .int .i64 c.due, y.o, .int .i64 c.user, y.t, .int .i64 c.room, y.s, .int .i64 c.ops] rfl rfl Bx.there info18 hon ?_
  clear hon
  generalize (w5.alloc _).setCells _ 0 _ = W6 at hbx hbb ⊢
  have KX6 := hide hbx; have hz5 := hsz
  clear hbx hsz
  have KB6 := hide ((unhide KB4).on hbb); have KW6 := hide ((unhide KW4).on hbb); have HB6 := hide ((unhide HB4).trans (hbb.mono (unhide HB4).size))
  clear hbb KB4 KW4 HB4
  have hlow6 : w5.heap.size < W6.heap.size := (unhide KX6).box.lt
  go_upto_region 7 with fail
  refine wp_region_list ?_
  refine wpList_load_mid rfl _ _ rfl w5.heap.size 0 rfl [.int .i64 c.jobs, .int .i64 c.workers, .int .i64 c.window, .int .i64 c.next, .int .i64 c.reader, y.q, y.h, .int .i64 c.closer, y.r, .int .i64 c.keeper, y.g, .int .i64 c.due, y.o, .int .i64 c.user, y.t, .int .i64 c.room, y.s, .int .i64 c.ops] dd (unhide KX6).range hdu hdr info18 ?_
  refine wpList_plain rfl (fun K hK => ?_)
  go_simp
  refine (unhide HIM y _ W6 (unhide KX6).own.at (unhide KX6).lt).mono ?_
  rintro e w7 ⟨v, Fq, Fh, Fr, Fg, Fo, Ft, Fs, rfl, hown, hdj, hrng, hb⟩
  refine hK _ _ ?_
  clear hK K
  obtain ⟨hbx, hbb⟩ := Bx.new hown hdj hrng hb
  have hon := cw_oneB hown
  have hsz := hb.size
  clear hown hdj hrng hb
  refine wpList_plain rfl (fun K hK => ?_); go_simp; refine hK _ _ ?_; clear hK K
  refine wpList_plain rfl (fun K hK => ?_); go_simp; refine hK _ _ ?_; clear hK K
  refine wpList_plain rfl (fun K hK => ?_); go_simp; refine hK _ _ ?_; clear hK K
  refine wpList_plain rfl (fun K hK => ?_); go_simp; refine hK _ _ ?_; clear hK K
  refine wpList_store_mid rfl _ _ _ rfl w7.heap.size 0 #[.int .i64 x.jobs, .int .i64 x.workers, .int .i64 x.window, .int .i64 x.next, .int .i64 x.reader, v.q, v.h, .int .i64 x.closer, v.r, .int .i64 x.keeper, v.g, .int .i64 x.due, v.o, .int .i64 x.user, v.t, .int .i64 x.room, v.s, .int .i64 x.ops] rfl rfl Bx.there info18 hon ?_
  clear hon
  generalize (w7.alloc _).setCells _ 0 _ = W8 at hbx hbb ⊢
  have KG8 := hide hbx; have hz7 := hsz
  clear hbx hsz
  have KB8 := hide ((unhide KB6).on hbb); have KW8 := hide ((unhide KW6).on hbb); have KX8 := hide ((unhide KX6).on hbb); have HB8 := hide ((unhide HB6).trans (hbb.mono (unhide HB6).size))
  clear hbb KB6 KW6 KX6 HB6
  have hlow8 : w7.heap.size < W8.heap.size := (unhide KG8).box.lt
  go_upto_region 8 with fail
  refine wp_region_list ?_
  refine wpList_load_mid rfl _ _ rfl w7.heap.size 0 rfl [.int .i64 x.jobs, .int .i64 x.workers, .int .i64 x.window, .int .i64 x.next, .int .i64 x.reader, v.q, v.h, .int .i64 x.closer, v.r, .int .i64 x.keeper, v.g, .int .i64 x.due, v.o, .int .i64 x.user, v.t, .int .i64 x.room, v.s, .int .i64 x.ops] dd (unhide KG8).range hdu hdr info18 ?_
  refine wpList_load_mid rfl _ _ rfl w3.heap.size 0 rfl [.int .i64 x.jobs, .int .i64 x.workers, .int .i64 x.window, .int .i64 x.next, .int .i64 x.reader, u.q, u.h, .int .i64 x.closer, u.r, .int .i64 x.keeper, u.g, .int .i64 x.due, u.o, .int .i64 x.user, u.t, .int .i64 x.room, u.s, .int .i64 x.ops] dd (unhide KW8).range hdu hdr info18 ?_
  refine wpList_plain rfl (fun K hK => ?_)
  go_simp
  refine ((unhide KG8).eq (unhide KW8)).mono ?_
  rintro e w9 ⟨rfl, hb⟩
  refine hK _ _ ?_
  clear hK K
  have KB9 := hide ((unhide KB8).on hb); have KW9 := hide ((unhide KW8).on hb); have KX9 := hide ((unhide KX8).on hb); have KG9 := hide ((unhide KG8).on hb); have HB9 := hide ((unhide HB8).trans (hb.mono (unhide HB8).size))
  clear hb KB8 KW8 KX8 KG8 HB8
  have hok : (ok != ok) = false := by simp
  go_upto_region 10 with fail
  refine wp_swap (c' := Code.region 10 cn10Ops true) (by kernel_rfl) ?_
  refine wp_region_noPanic ?_
  refine cn10 c A P (fun W => Bc 25 P b0 c A W ∧ Bx W x x u Uq Uh Ur Ug Uo Ut Us w2.heap.size w3.heap.size ∧ Bx W c c y Xq Xh Xr Xg Xo Xt Xs W4.heap.size w5.heap.size ∧ Bx W x x v Fq Fh Fr Fg Fo Ft Fs W6.heap.size w7.heap.size ∧ Below w.heap.size w W) (fun W W' h hb => ⟨h.1.on hb, h.2.1.on hb, h.2.2.1.on hb, h.2.2.2.1.on hb, h.2.2.2.2.trans (hb.mono h.2.2.2.2.size)⟩) y Xq Xh Xr Xg Xo Xt Xs W4.heap.size w5.heap.size b0 (fun W h => h.2.2.1) (fun W h => h.1) (unhide HWT) _ _ (fun _ _ _ _ _ h => h) ⟨(unhide KB9).on (below_drewN _ 1), (unhide KW9).on (below_drewN _ 1), (unhide KX9).on (below_drewN _ 1), (unhide KG9).on (below_drewN _ 1), (unhide HB9).trans ((below_drewN _ 1).mono (unhide HB9).size)⟩ ?_
  intro n41 n42 n43 n44 W10 hS
  refine NoPanic.normal ?_
  have KB10 := hide hS.1; have KW10 := hide hS.2.1; have KX10 := hide hS.2.2.1; have KG10 := hide hS.2.2.2.1; have HB10 := hide hS.2.2.2.2
  clear hS KB9 KW9 KX9 KG9 HB9
  go_upto_region 13 with fail
  refine wp_region_list ?_
  refine wpList_load_mid rfl _ _ rfl w5.heap.size 0 rfl [.int .i64 c.jobs, .int .i64 c.workers, .int .i64 c.window, .int .i64 c.next, .int .i64 c.reader, y.q, y.h, .int .i64 c.closer, y.r, .int .i64 c.keeper, y.g, .int .i64 c.due, y.o, .int .i64 c.user, y.t, .int .i64 c.room, y.s, .int .i64 c.ops] dd (unhide KX10).range hdu hdr info18 ?_
  refine wpList_plain rfl (fun K hK => ?_); go_simp; refine hK _ _ ?_; clear hK K
  refine wpList_plain rfl (fun K hK => ?_)
  go_simp
  refine ((unhide KX10).markG (unhide HK)).mono ?_
  rintro e w11 ⟨rfl, hx⟩
  refine hK _ _ ?_
  clear hK K
  rw [unhide HKK]
  have hgx : ∀ z, z ∈ F7 Xq Xh Xr Xg Xo Xt Xs → w3.heap.size < z ∧ z < W6.heap.size ∧ w.heap.size < z := fun z hz => by have := (unhide KX10).rng z hz; omega
  have KB11 := hide ((unhide KB10).exc hx (fun z hz hm => by have := unhide HP z hz; have := hgx z hm; omega) (fun hm => by have := hgx b0 hm; have := unhide HEQ0; omega)); have KW11 := hide ((unhide KW10).exc hx (fun z hz => (hgx z hz).1)); have KG11 := hide ((unhide KG10).exc2 hx (fun z hz => (hgx z hz).2.1)); have HB11 := hide ((unhide HB10).trans (hx.below (unhide HB10).size (fun z hz => by have := (hgx z hz).2.2; omega)))
  clear hx hgx KX10 KB10 KW10 KG10 HB10
  go_upto_region 14 with fail
  refine wp_region_list ?_
  refine wpList_plain rfl (fun K hK => ?_); go_simp; refine hK _ _ ?_; clear hK K
  refine wpList_plain rfl (fun K hK => ?_); go_simp; refine hK _ _ ?_; clear hK K
  refine wpList_plain rfl (fun K hK => ?_); go_simp; refine hK _ _ ?_; clear hK K
  refine wpList_want (by kernel_rfl) (fun K hK => wp_load_mid _ _ rfl w7.heap.size 0 rfl [.int .i64 x.jobs, .int .i64 x.workers, .int .i64 x.window, .int .i64 x.next, .int .i64 x.reader, v.q, v.h, .int .i64 x.closer, v.r, .int .i64 x.keeper, v.g, .int .i64 x.due, v.o, .int .i64 x.user, v.t, .int .i64 x.room, v.s, .int .i64 x.ops] dd (unhide KG11).range hdu hdr info18 (hK _ _ ?_))
  refine wpList_want (by kernel_rfl) (fun K hK => wp_load_mid _ _ rfl w3.heap.size 0 rfl [.int .i64 x.jobs, .int .i64 x.workers, .int .i64 x.window, .int .i64 x.next, .int .i64 x.reader, u.q, u.h, .int .i64 x.closer, u.r, .int .i64 x.keeper, u.g, .int .i64 x.due, u.o, .int .i64 x.user, u.t, .int .i64 x.room, u.s, .int .i64 x.ops] dd (unhide KW11).range hdu hdr info18 (hK _ _ ?_))
  refine wpList_want (by kernel_rfl) (fun K hK => ?_)
  go_simp
  refine ((unhide KG11).eq (unhide KW11)).mono ?_
  rintro e w12 ⟨rfl, hb⟩
  refine hK _ _ ?_
  clear hK K
  have KB12 := hide ((unhide KB11).on hb); have KW12 := hide ((unhide KW11).on hb); have KG12 := hide ((unhide KG11).on hb); have HB12 := hide ((unhide HB11).trans (hb.mono (unhide HB11).size))
  clear hb KB11 KW11 KG11 HB11
  go_upto_region 17 with fail
  refine wp_region_list ?_
  refine wpList_load_mid rfl _ _ rfl w7.heap.size 0 rfl [.int .i64 x.jobs, .int .i64 x.workers, .int .i64 x.window, .int .i64 x.next, .int .i64 x.reader, v.q, v.h, .int .i64 x.closer, v.r, .int .i64 x.keeper, v.g, .int .i64 x.due, v.o, .int .i64 x.user, v.t, .int .i64 x.room, v.s, .int .i64 x.ops] dd (unhide KG12).range hdu hdr info18 ?_
  refine wpList_plain rfl (fun K hK => ?_); go_simp; refine hK _ _ ?_; clear hK K
  refine wpList_plain rfl (fun K hK => ?_)
  go_simp
  refine ((unhide KG12).mark (unhide HM)).mono ?_
  rintro e w13 ⟨rfl, hk, hx⟩
  refine hK _ _ ?_
  clear hK K
  rw [unhide HMM]
  have hgx : ∀ z, z ∈ F7 Fq Fh Fr Fg Fo Ft Fs → w3.heap.size < z ∧ w.heap.size < z := fun z hz => by have := (unhide KG12).rng z hz; omega
  have KB13 := hide ((unhide KB12).exc hx (fun z hz hm => by have := unhide HP z hz; have := hgx z hm; omega) (fun hm => by have := hgx b0 hm; have := unhide HEQ0; omega)); have KW13 := hide ((unhide KW12).exc hx (fun z hz => (hgx z hz).1)); have KG13 := hide hk; have HB13 := hide ((unhide HB12).trans (hx.below (unhide HB12).size (fun z hz => by have := (hgx z hz).2; omega)))
  clear hx hk hgx KB12 KW12 KG12 HB12
  go_upto_region 19 with fail
  refine wp_region_list ?_
  refine wpList_load_mid rfl _ _ rfl w7.heap.size 0 rfl [.int .i64 x.jobs, .int .i64 x.workers, .int .i64 x.window, .int .i64 x.next, .int .i64 x.reader, v.q, v.h, .int .i64 x.closer, v.r, .int .i64 x.keeper, v.g, .int .i64 x.due, v.o, .int .i64 x.user, v.t, .int .i64 x.room, v.s, .int .i64 x.ops] dd (unhide KG13).range hdu hdr info18 ?_
  refine wpList_plain rfl (fun K hK => ?_); go_simp; refine hK _ _ ?_; clear hK K
  refine wpList_plain rfl (fun K hK => ?_)
  go_simp
  refine ((unhide KG13).held (unhide HM)).mono ?_
  rintro e w14 ⟨rfl, hb⟩
  refine hK _ _ ?_
  clear hK K
  rw [unhide HMM]
  have KB14 := hide ((unhide KB13).on hb); have KW14 := hide ((unhide KW13).on hb); have KG14 := hide ((unhide KG13).on hb); have HB14 := hide ((unhide HB13).trans (hb.mono (unhide HB13).size))
  clear hb KB13 KW13 KG13 HB13
  go_upto_region 24 with fail
  refine wp_region_list ?_
  refine wpList_load_mid rfl _ _ rfl b0 0 rfl [.int .i64 c.jobs, .int .i64 c.workers, .int .i64 c.window, .int .i64 c.next, .int .i64 c.reader, .slice A.q c.queue.length A.pq, .slice A.h c.hands.length A.ph, .int .i64 c.closer, .slice A.r c.results.length A.pr, .int .i64 c.keeper, .slice A.g c.ring.length A.pg, .int .i64 c.due, .slice A.o c.out.length A.po, .int .i64 c.user, .slice A.t c.got.length A.pt, .int .i64 c.room, .slice A.s c.shut.length A.ps, .int .i64 c.ops] dL (unhide KB14).range hdLu hdLr info18L ?_
  refine wpList_plain rfl (fun K hK => ?_)
  go_simp
  refine (toCrewWorld_val c A P w14 (unhide KB14).at' (unhide KB14).lt (unhide HWT)).mono ?_
  rintro e w15 ⟨p, Aq, Ah, Ar, Ag, Ao, At, As, rfl, hown, hdj, hrng, hb⟩
  refine hK _ _ ?_
  clear hK K
  have HAV := hide hown.at; have HAL := hide (show ∀ z, z ∈ F7 Aq Ah Ar Ag Ao At As → z < w15.heap.size from fun z hz => (hrng z hz).2)
  clear hown hdj hrng
  have KB15 := hide ((unhide KB14).on hb); have KW15 := hide ((unhide KW14).on hb); have KG15 := hide ((unhide KG14).on hb); have HB15 := hide ((unhide HB14).trans (hb.mono (unhide HB14).size))
  clear hb KB14 KW14 KG14 HB14
  refine wpList_plain rfl (fun K hK => ?_)
  go_simp
  refine (unhide HIM p _ w15 (unhide HAV) (unhide HAL)).mono ?_
  rintro e w16 ⟨t, Gq, Gh, Gr, Gg, Go, Gt, Gs, rfl, hown, hdj, hrng, hb⟩
  refine hK _ _ ?_
  clear hK K
  clear HAV HAL
  obtain ⟨hbx, hbb⟩ := Bx.new hown hdj hrng hb
  have hon := cw_oneB hown
  have hsz := hb.size
  clear hown hdj hrng hb
  refine wpList_plain rfl (fun K hK => ?_); go_simp; refine hK _ _ ?_; clear hK K
  refine wpList_plain rfl (fun K hK => ?_); go_simp; refine hK _ _ ?_; clear hK K
  refine wpList_plain rfl (fun K hK => ?_); go_simp; refine hK _ _ ?_; clear hK K
  refine wpList_plain rfl (fun K hK => ?_); go_simp; refine hK _ _ ?_; clear hK K
  refine wpList_store_mid rfl _ _ _ rfl w16.heap.size 0 #[.int .i64 x.jobs, .int .i64 x.workers, .int .i64 x.window, .int .i64 x.next, .int .i64 x.reader, t.q, t.h, .int .i64 x.closer, t.r, .int .i64 x.keeper, t.g, .int .i64 x.due, t.o, .int .i64 x.user, t.t, .int .i64 x.room, t.s, .int .i64 x.ops] rfl rfl Bx.there info18 hon ?_
  clear hon
  generalize (w16.alloc _).setCells _ 0 _ = W17 at hbx hbb ⊢
  have KY17 := hide hbx
  clear hbx hsz
  have KW17 := hide ((unhide KW15).on hbb); have KG17 := hide ((unhide KG15).on hbb); have HB17 := hide ((unhide HB15).trans (hbb.mono (unhide HB15).size))
  clear hbb KW15 KG15 HB15
  clear KB15
  go_upto_region 25 with fail
  refine wp_region_list ?_
  refine wpList_load_mid rfl _ _ rfl w16.heap.size 0 rfl [.int .i64 x.jobs, .int .i64 x.workers, .int .i64 x.window, .int .i64 x.next, .int .i64 x.reader, t.q, t.h, .int .i64 x.closer, t.r, .int .i64 x.keeper, t.g, .int .i64 x.due, t.o, .int .i64 x.user, t.t, .int .i64 x.room, t.s, .int .i64 x.ops] dd (unhide KY17).range hdu hdr info18 ?_
  refine wpList_load_mid rfl _ _ rfl w3.heap.size 0 rfl [.int .i64 x.jobs, .int .i64 x.workers, .int .i64 x.window, .int .i64 x.next, .int .i64 x.reader, u.q, u.h, .int .i64 x.closer, u.r, .int .i64 x.keeper, u.g, .int .i64 x.due, u.o, .int .i64 x.user, u.t, .int .i64 x.room, u.s, .int .i64 x.ops] dd (unhide KW17).range hdu hdr info18 ?_
  refine wpList_plain rfl (fun K hK => ?_)
  go_simp
  refine ((unhide KY17).eq (unhide KW17)).mono ?_
  rintro e w18 ⟨rfl, hb⟩
  refine hK _ _ ?_
  clear hK K
  have KG18 := hide ((unhide KG17).on hb); have HB18 := hide ((unhide HB17).trans (hb.mono (unhide HB17).size))
  clear hb KG17 HB17
  clear KY17 KW17
  go_upto_region 28 with fail
  refine wp_region_list ?_
  refine wpList_load_mid rfl _ _ rfl w7.heap.size 0 rfl [.int .i64 x.jobs, .int .i64 x.workers, .int .i64 x.window, .int .i64 x.next, .int .i64 x.reader, v.q, v.h, .int .i64 x.closer, v.r, .int .i64 x.keeper, v.g, .int .i64 x.due, v.o, .int .i64 x.user, v.t, .int .i64 x.room, v.s, .int .i64 x.ops] dd (unhide KG18).range hdu hdr info18 ?_
  refine wpList_plain rfl (fun K hK => ?_); go_simp; refine hK _ _ ?_; clear hK K
  refine wpList_plain rfl (fun K hK => ?_)
  go_simp
  refine ((unhide KG18).held (unhide HM)).mono ?_
  rintro e w19 ⟨rfl, hb⟩
  refine hK _ _ ?_
  clear hK K
  rw [unhide HMM]
  have HB19 := hide ((unhide HB18).trans (hb.mono (unhide HB18).size))
  clear hb KG18 HB18
  go_wp2_with fail
  go_ret
  exact ⟨rfl, unhide HB19⟩
end Go.Proofs.Ytibgjcejddpldaa
