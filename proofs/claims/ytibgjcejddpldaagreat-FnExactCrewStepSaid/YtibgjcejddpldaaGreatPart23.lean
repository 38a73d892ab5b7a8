/- A part. -/
import Derived.Test.YtibgjcejddpldaaGreatPart22
namespace Go.Proofs.YtibgjcejddpldaaGreat
open Go Go.RowKit
set_option maxRecDepth 100000
set_option maxHeartbeats 3200000
theorem ok_last {c : Cw} (hf : formS c) (hj : jobsS c) (he : endsB c = true) : decide (IntKind.i64.wrap (c.ops + (leftZ c)) ≤ IntKind.i64.wrap (IntKind.i64.wrap (IntKind.i64.wrap (11 * c.jobs) + c.workers) + 7)) = true ↔ okS c := by
 have hF := ((formS_iff c).1 hf).1
 have h1 := left_bound hF; have h2 := hF.ops; have h3 := hF.st
 obtain ⟨⟨a1, a2⟩, ⟨a3, a4⟩, -⟩ := h3
 have w1 : IntKind.i64.wrap (c.ops + leftZ c) = c.ops + leftZ c := by rw [IntKind.wrap_i64]; omega
 have w2 : IntKind.i64.wrap (11 * c.jobs) = 11 * c.jobs := by rw [IntKind.wrap_i64]; omega
 have w3 : IntKind.i64.wrap (11 * c.jobs + c.workers) = 11 * c.jobs + c.workers := by rw [IntKind.wrap_i64]; omega
 have w4 : IntKind.i64.wrap (11 * c.jobs + c.workers + 7) = 11 * c.jobs + c.workers + 7 := by rw [IntKind.wrap_i64]; omega
 rw [w1, w2, w3, w4, decide_eq_true_iff]
 exact ⟨fun h => ⟨hf, hj, he, h⟩, fun h => h.2.2.2⟩
noncomputable def okOps : Array Oper := fops Tryz.f35 1
theorem okOps_neat : Region.noSelect okOps = true ∧ neat okOps = true := ⟨by kernel_rfl, by kernel_rfl⟩
theorem oks_region (c : Cw) (A : A7) (P : Nat → Prop) (w : World) (W0 : World) {l : List Value} (Q : Exit → Act → World → Prop) (hQ : ∀ c a d v w, Q (.panic c) (Act.put a d v) w → Q (.panic c) a w) (hS : Ag P w W0.drew c A) (hl : lookL [(1, .pointer (some ⟨w.heap.size, 0, none⟩))] l = (28, [.pointer (some ⟨w.heap.size, 0, none⟩)])) (hend : ∀ a' W' r, Act.eval a' (.tmp 2) = .bool r → a'.defers = [] → (r = true ↔ okS c) → Ag P w W' c A → Q .normal a' W') : (Code.region 1 okOps true).wp Tryz.prog Q ⟨l.toArray, []⟩ W0 := by
 obtain ⟨v, rfl⟩ := look_fr hl
 have hq : NtQ okOps Q := ⟨okOps_neat, hQ⟩
 refine T_start (S := fun W => Ag P w W c A) (by kernel_rfl) hS ?_
 clear hl hQ hS
 generalize W0.drew = W
 refine T_a hq (List.range 26) (fun w h => .cons (h.ld) Lds.nil) (by kernel_rfl) ?_
 refine T_one 1 (by kernel_rfl) fun hS => O_go (l51Form_any c A P _ hS.at' hS.hand.2) (by kernel_rfl) ?_
 rintro _ W ⟨rfl, hb⟩
 refine ⟨_, rfl, hS.on hb, ?_⟩
 clear hS hb
 by_cases hr : formS c
 case neg =>
  rw [decide_eq_false hr]
  exact T_z hq (List.range 26) (by kernel_rfl) (T_end 28 [(2, .bool false)] (by kernel_rfl) (by kernel_rfl) fun hS v => hend _ _ false (by kernel_rfl) rfl (iff_of_false Bool.false_ne_true (fun h => hr h.1)) hS)
 rw [decide_eq_true hr]
 have hf := hr
 refine T_a hq (List.range 26) (fun w h => .cons (h.ld) Lds.nil) (by kernel_rfl) ?_
 refine T_one 4 (by kernel_rfl) fun hS => O_go (l51Jobs_any c A P _ hS.at' hS.hand.2 ((formS_iff c).1 hf).1 ((formS_iff c).1 hf).2) (by kernel_rfl) ?_
 rintro _ W ⟨⟨r, rfl, hr⟩, hb⟩
 refine ⟨_, rfl, hS.on hb, ?_⟩
 clear hS hb
 cases r
 case false =>
  exact T_z hq (List.range 26) (by kernel_rfl) (T_end 28 [(2, .bool false)] (by kernel_rfl) (by kernel_rfl) fun hS v => hend _ _ false (by kernel_rfl) rfl (iff_of_false Bool.false_ne_true (fun h => Bool.false_ne_true (hr.2 h.2.1))) hS)
 have hj := hr.1 rfl
 refine T_a hq (List.range 26) (fun w h => .cons (h.ld) Lds.nil) (by kernel_rfl) ?_
 refine T_one 8 (by kernel_rfl) fun hS => O_go (l51Ends_any c A P _ hS.at' hS.hand.2 ((formS_iff c).1 hf).1) (by kernel_rfl) ?_
 rintro _ W ⟨rfl, hb⟩
 refine ⟨_, rfl, hS.on hb, ?_⟩
 clear hS hb
 cases hr : endsB c
 case false =>
  exact T_z hq (List.range 26) (by kernel_rfl) (T_end 28 [(2, .bool false)] (by kernel_rfl) (by kernel_rfl) fun hS v => hend _ _ false (by kernel_rfl) rfl (iff_of_false Bool.false_ne_true (fun h => Bool.false_ne_true (hr.symm.trans h.2.2.1))) hS)
 have he := hr
 refine T_a hq (List.range 26) (fun w h => .cons (ld3 w _ _ h.k17) (.cons (h.ld) (.cons (ld3 w _ _ h.k0) (.cons (ld3 w _ _ h.k1) Lds.nil)))) (by kernel_rfl) ?_
 refine T_one 14 (by kernel_rfl) fun hS => O_go (l51Left_any c A P _ hS.at' hS.hand.2 ((formS_iff c).1 hf).1) (by kernel_rfl) ?_
 rintro _ W ⟨rfl, hb⟩
 refine ⟨_, rfl, hS.on hb, ?_⟩
 clear hS hb
 refine T_z hq (List.range 26) (by kernel_rfl) ?_
 exact T_end 28 [(2, .bool (decide (IntKind.i64.wrap (c.ops + (leftZ c)) ≤ IntKind.i64.wrap (IntKind.i64.wrap (IntKind.i64.wrap (11 * c.jobs) + c.workers) + 7))))] (by kernel_rfl) (by kernel_rfl) fun hS v => hend _ _ _ (by kernel_rfl) rfl (ok_last hf hj he) hS
theorem specCrewOk_any (c : Cw) (A : A7) (P : Nat → Prop) (w : World) (h : CwAt P w c (A.v c)) (hP : ∀ b, P b → b < w.heap.size) : Calls Tryz.prog 35 #[.agg #[.int .i64 c.jobs, .int .i64 c.workers, .int .i64 c.window, .int .i64 c.next, .int .i64 c.reader, .slice A.q c.queue.length A.pq, .slice A.h c.hands.length A.ph, .int .i64 c.closer, .slice A.r c.results.length A.pr, .int .i64 c.keeper, .slice A.g c.ring.length A.pg, .int .i64 c.due, .slice A.o c.out.length A.po, .int .i64 c.user, .slice A.t c.got.length A.pt, .int .i64 c.room, .slice A.s c.shut.length A.ps, .int .i64 c.ops]] w fun e w' => RetB e (okS c) ∧ Below w.heap.size w w' := by
 have HS := xH (Ag.start h hP)
 clear h hP
 go_enter Tryz.func35, Tryz.ntmps35
 go_upto_region 1 with fail
 generalize w.alloc (.cells #[.int .i64 c.jobs, .int .i64 c.workers, .int .i64 c.window, .int .i64 c.next, .int .i64 c.reader, .slice A.q c.queue.length A.pq, .slice A.h c.hands.length A.ph, .int .i64 c.closer, .slice A.r c.results.length A.pr, .int .i64 c.keeper, .slice A.g c.ring.length A.pg, .int .i64 c.due, .slice A.o c.out.length A.po, .int .i64 c.user, .slice A.t c.got.length A.pt, .int .i64 c.room, .slice A.s c.shut.length A.ps, .int .i64 c.ops] 26) = W0 at HS ⊢
 refine wp_swap (c' := Code.region 1 okOps true) (by kernel_rfl) ?_
 refine wp_region_noPanic ?_
 refine oks_region c A P w _ _ (fun _ _ _ _ _ h => h) ((xU HS).on (below_drewN _ 1)) (by kernel_rfl) ?_
 intro a' W' r ha hd hr hk
 refine NoPanic.normal ?_
 have HR := xH (show RetB (.returned (.bool r)) (okS c) ∧ Below w.heap.size w W' from ⟨⟨r, rfl, hr⟩, hk.bel⟩)
 clear hr hk
 obtain ⟨tm, df⟩ := a'
 simp only at hd
 subst hd
 have HA := xH (show tm.getD 2 undef = .bool r from ha)
 go_wp2_with fail
 refine bodyPost_ret (v := .bool r) ?_ rfl (xU HR)
 have := xU HA
 rw [Array.getD_eq_getD_getElem?] at this
 simp [results, Tryz.results35, go_sem, this]
end Go.Proofs.YtibgjcejddpldaaGreat
