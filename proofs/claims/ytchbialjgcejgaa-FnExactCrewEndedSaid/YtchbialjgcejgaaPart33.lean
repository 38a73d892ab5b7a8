/- The walk of the law on CrewEnded: whatever world comes in, it answers true, and turns nothing that was there. No conditions. -/
import Derived.Test.YtchbialjgcejgaaPart22
import Derived.Test.YtchbialjgcejgaaPart32
import Derived.Test.YtchbialjgcejgaaRows
import Derived.Test.YtchbialjgcejgaaPart00
import Derived.ProofKit
import Derived.OpenShut
import Derived.Deep.Fields
import Derived.Deep.Slices
import Derived.Test.YtchbialjgcejgaaPart01
import Derived.Test.YtchbialjgcejgaaPart12
namespace Go.Proofs.Ytchbialjgcejgaa
open Go Go.RowKit

noncomputable def lwCrewEndedOps : Array Oper := fops Try.f7 10
theorem lwCrewEnded_neat : Region.noSelect lwCrewEndedOps = true ∧ neat lwCrewEndedOps = true := ⟨by kernel_rfl, by kernel_rfl⟩
set_option maxRecDepth 100000 in
set_option maxHeartbeats 3200000 in
theorem lwCrewEnded_region (c : Cw) (A : A7) (P : Nat → Prop) (w : World) (X : A7) (PX : Nat → Prop) (b0 b5 : Nat) (W0 : World) {v0 v3 v4 v6 v7 v8 v9 v10 v11 v12 v13 v14 v15 v16 v17 v18 v19 v20 v21 : Value} (Q : Exit → Act → World → Prop) (hQ : ∀ c a d v w, Q (.panic c) (Act.put a d v) w → Q (.panic c) a w) (hS : Bc 28 PX b5 c X W0.drew ∧ Bc 39 P b0 c A W0.drew ∧ Below w.heap.size w W0.drew) (hwt : wC c ≤ 1048576)
    (hend : ∀ (n22 n23 n24 n25 : Value) W', Below w.heap.size w W' → Q .normal ⟨#[v0, .pointer (some ⟨b0, 0, none⟩), .bool false, v3, v4, .pointer (some ⟨b5, 0, none⟩), v6, v7, v8, v9, v10, v11, v12, v13, v14, v15, v16, v17, v18, v19, v20, v21, n22, n23, n24, n25, .bool false], []⟩ W') : (Code.region 10 lwCrewEndedOps true).wp Try.prog Q ⟨#[v0, .pointer (some ⟨b0, 0, none⟩), .bool false, v3, v4, .pointer (some ⟨b5, 0, none⟩), v6, v7, v8, v9, v10, v11, v12, v13, v14, v15, v16, v17, v18, v19, v20, v21, undef, undef, undef, undef, undef], []⟩ W0 := by
  have hs := lwCrewEnded_neat
  refine wp_region_held (S := fun W => Bc 28 PX b5 c X W ∧ Bc 39 P b0 c A W ∧ Below w.heap.size w W) (by kernel_rfl) ?_
  refine any_eq (l' := #[false, false, false, false, false]) (by kernel_rfl) rfl ?_
  show wpAnyH Try.prog .any lwCrewEndedOps Q (fun W => Bc 28 PX b5 c X W ∧ Bc 39 P b0 c A W ∧ Below w.heap.size w W) 5 _ _ _
  refine take_load 0 (some 22) 28 (.tmp 5) ⟨b5, 0, none⟩ (.agg #[.int .i64 c.jobs, .int .i64 c.workers, .int .i64 c.window, .int .i64 c.next, .int .i64 c.reader, .slice X.q c.queue.length X.pq, .slice X.h c.hands.length X.ph, .int .i64 c.closer, .slice X.r c.results.length X.pr, .int .i64 c.keeper, .slice X.g c.ring.length X.pg, .int .i64 c.due, .slice X.o c.out.length X.po, .int .i64 c.user, .slice X.t c.got.length X.pt, .int .i64 c.room, .slice X.s c.shut.length X.ps, .int .i64 c.ops]) hs hQ (by kernel_rfl) (by kernel_rfl) (by kernel_rfl) (fun w h => h.1.ldI) hS ?_
  refine take_load 1 (some 23) 39 (.tmp 1) ⟨b0, 0, none⟩ (.agg #[.int .i64 c.jobs, .int .i64 c.workers, .int .i64 c.window, .int .i64 c.next, .int .i64 c.reader, .slice A.q c.queue.length A.pq, .slice A.h c.hands.length A.ph, .int .i64 c.closer, .slice A.r c.results.length A.pr, .int .i64 c.keeper, .slice A.g c.ring.length A.pg, .int .i64 c.due, .slice A.o c.out.length A.po, .int .i64 c.user, .slice A.t c.got.length A.pt, .int .i64 c.room, .slice A.s c.shut.length A.ps, .int .i64 c.ops]) hs hQ (by kernel_rfl) (by kernel_rfl) (by kernel_rfl) (fun w h => h.2.1.ldL) hS ?_
  refine any_eq (l' := #[true, true, false, false, false]) (a' := ⟨#[v0, .pointer (some ⟨b0, 0, none⟩), .bool false, v3, v4, .pointer (some ⟨b5, 0, none⟩), v6, v7, v8, v9, v10, v11, v12, v13, v14, v15, v16, v17, v18, v19, v20, v21, .agg #[.int .i64 c.jobs, .int .i64 c.workers, .int .i64 c.window, .int .i64 c.next, .int .i64 c.reader, .slice X.q c.queue.length X.pq, .slice X.h c.hands.length X.ph, .int .i64 c.closer, .slice X.r c.results.length X.pr, .int .i64 c.keeper, .slice X.g c.ring.length X.pg, .int .i64 c.due, .slice X.o c.out.length X.po, .int .i64 c.user, .slice X.t c.got.length X.pt, .int .i64 c.room, .slice X.s c.shut.length X.ps, .int .i64 c.ops], .agg #[.int .i64 c.jobs, .int .i64 c.workers, .int .i64 c.window, .int .i64 c.next, .int .i64 c.reader, .slice A.q c.queue.length A.pq, .slice A.h c.hands.length A.ph, .int .i64 c.closer, .slice A.r c.results.length A.pr, .int .i64 c.keeper, .slice A.g c.ring.length A.pg, .int .i64 c.due, .slice A.o c.out.length A.po, .int .i64 c.user, .slice A.t c.got.length A.pt, .int .i64 c.room, .slice A.s c.shut.length A.ps, .int .i64 c.ops], undef, undef, undef], []⟩) (by kernel_rfl) (by kernel_rfl) ?_
  refine ready_one 2 (by kernel_rfl) ?_
  refine op_enter (some 24) 21 #[.agg #[.int .i64 c.jobs, .int .i64 c.workers, .int .i64 c.window, .int .i64 c.next, .int .i64 c.reader, .slice A.q c.queue.length A.pq, .slice A.h c.hands.length A.ph, .int .i64 c.closer, .slice A.r c.results.length A.pr, .int .i64 c.keeper, .slice A.g c.ring.length A.pg, .int .i64 c.due, .slice A.o c.out.length A.po, .int .i64 c.user, .slice A.t c.got.length A.pt, .int .i64 c.room, .slice A.s c.shut.length A.ps, .int .i64 c.ops]] (by kernel_rfl) (by kernel_rfl) (toCrewWorld_any c A P _ hS.2.1.at' hS.2.1.lt hwt) ?_
  rintro e W1 ⟨Y, rfl, hy, hb⟩
  have hS1 : Bc 28 PX b5 c X W1 ∧ Bc 39 P b0 c A W1 ∧ Below w.heap.size w W1 := ⟨hS.1.on hb, hS.2.1.on hb, hS.2.2.trans (hb.mono hS.2.2.size)⟩
  refine ⟨_, rfl, hS1, ?_⟩
  refine any_eq (l' := #[true, true, true, false, false]) (a' := ⟨#[v0, .pointer (some ⟨b0, 0, none⟩), .bool false, v3, v4, .pointer (some ⟨b5, 0, none⟩), v6, v7, v8, v9, v10, v11, v12, v13, v14, v15, v16, v17, v18, v19, v20, v21, .agg #[.int .i64 c.jobs, .int .i64 c.workers, .int .i64 c.window, .int .i64 c.next, .int .i64 c.reader, .slice X.q c.queue.length X.pq, .slice X.h c.hands.length X.ph, .int .i64 c.closer, .slice X.r c.results.length X.pr, .int .i64 c.keeper, .slice X.g c.ring.length X.pg, .int .i64 c.due, .slice X.o c.out.length X.po, .int .i64 c.user, .slice X.t c.got.length X.pt, .int .i64 c.room, .slice X.s c.shut.length X.ps, .int .i64 c.ops], .agg #[.int .i64 c.jobs, .int .i64 c.workers, .int .i64 c.window, .int .i64 c.next, .int .i64 c.reader, .slice A.q c.queue.length A.pq, .slice A.h c.hands.length A.ph, .int .i64 c.closer, .slice A.r c.results.length A.pr, .int .i64 c.keeper, .slice A.g c.ring.length A.pg, .int .i64 c.due, .slice A.o c.out.length A.po, .int .i64 c.user, .slice A.t c.got.length A.pt, .int .i64 c.room, .slice A.s c.shut.length A.ps, .int .i64 c.ops], .agg #[.int .i64 c.jobs, .int .i64 c.workers, .int .i64 c.window, .int .i64 c.next, .int .i64 c.reader, .slice Y.q c.queue.length Y.pq, .slice Y.h c.hands.length Y.ph, .int .i64 c.closer, .slice Y.r c.results.length Y.pr, .int .i64 c.keeper, .slice Y.g c.ring.length Y.pg, .int .i64 c.due, .slice Y.o c.out.length Y.po, .int .i64 c.user, .slice Y.t c.got.length Y.pt, .int .i64 c.room, .slice Y.s c.shut.length Y.ps, .int .i64 c.ops], undef, undef], []⟩) (by kernel_rfl) (by kernel_rfl) ?_
  refine ready_one 3 (by kernel_rfl) ?_
  refine op_enter (some 25) 16 #[.agg #[.int .i64 c.jobs, .int .i64 c.workers, .int .i64 c.window, .int .i64 c.next, .int .i64 c.reader, .slice X.q c.queue.length X.pq, .slice X.h c.hands.length X.ph, .int .i64 c.closer, .slice X.r c.results.length X.pr, .int .i64 c.keeper, .slice X.g c.ring.length X.pg, .int .i64 c.due, .slice X.o c.out.length X.po, .int .i64 c.user, .slice X.t c.got.length X.pt, .int .i64 c.room, .slice X.s c.shut.length X.ps, .int .i64 c.ops], .agg #[.int .i64 c.jobs, .int .i64 c.workers, .int .i64 c.window, .int .i64 c.next, .int .i64 c.reader, .slice Y.q c.queue.length Y.pq, .slice Y.h c.hands.length Y.ph, .int .i64 c.closer, .slice Y.r c.results.length Y.pr, .int .i64 c.keeper, .slice Y.g c.ring.length Y.pg, .int .i64 c.due, .slice Y.o c.out.length Y.po, .int .i64 c.user, .slice Y.t c.got.length Y.pt, .int .i64 c.room, .slice Y.s c.shut.length Y.ps, .int .i64 c.ops]] (by kernel_rfl) (by kernel_rfl) (eqCrewWorld_any c (X.v c) (Y.v c) W1 hS1.1.at' hy hS1.1.lt (fun b hb => hb.2)) ?_
  rintro e W2 ⟨rfl, hb2⟩
  have hS2 : Bc 28 PX b5 c X W2 ∧ Bc 39 P b0 c A W2 ∧ Below w.heap.size w W2 := ⟨hS1.1.on hb2, hS1.2.1.on hb2, hS1.2.2.trans (hb2.mono hS1.2.2.size)⟩
  refine ⟨_, rfl, hS2, ?_⟩
  refine any_eq (l' := #[true, true, true, true, false]) (a' := ⟨#[v0, .pointer (some ⟨b0, 0, none⟩), .bool false, v3, v4, .pointer (some ⟨b5, 0, none⟩), v6, v7, v8, v9, v10, v11, v12, v13, v14, v15, v16, v17, v18, v19, v20, v21, .agg #[.int .i64 c.jobs, .int .i64 c.workers, .int .i64 c.window, .int .i64 c.next, .int .i64 c.reader, .slice X.q c.queue.length X.pq, .slice X.h c.hands.length X.ph, .int .i64 c.closer, .slice X.r c.results.length X.pr, .int .i64 c.keeper, .slice X.g c.ring.length X.pg, .int .i64 c.due, .slice X.o c.out.length X.po, .int .i64 c.user, .slice X.t c.got.length X.pt, .int .i64 c.room, .slice X.s c.shut.length X.ps, .int .i64 c.ops], .agg #[.int .i64 c.jobs, .int .i64 c.workers, .int .i64 c.window, .int .i64 c.next, .int .i64 c.reader, .slice A.q c.queue.length A.pq, .slice A.h c.hands.length A.ph, .int .i64 c.closer, .slice A.r c.results.length A.pr, .int .i64 c.keeper, .slice A.g c.ring.length A.pg, .int .i64 c.due, .slice A.o c.out.length A.po, .int .i64 c.user, .slice A.t c.got.length A.pt, .int .i64 c.room, .slice A.s c.shut.length A.ps, .int .i64 c.ops], .agg #[.int .i64 c.jobs, .int .i64 c.workers, .int .i64 c.window, .int .i64 c.next, .int .i64 c.reader, .slice Y.q c.queue.length Y.pq, .slice Y.h c.hands.length Y.ph, .int .i64 c.closer, .slice Y.r c.results.length Y.pr, .int .i64 c.keeper, .slice Y.g c.ring.length Y.pg, .int .i64 c.due, .slice Y.o c.out.length Y.po, .int .i64 c.user, .slice Y.t c.got.length Y.pt, .int .i64 c.room, .slice Y.s c.shut.length Y.ps, .int .i64 c.ops], .bool true, undef], []⟩) (by kernel_rfl) (by kernel_rfl) ?_
  refine take_any 4 (some 26) (.bool false) hs hQ (by kernel_rfl) (fun w _ => by kernel_rfl) hS2 ?_
  refine any_eq (l' := #[true, true, true, true, true]) (a' := ⟨#[v0, .pointer (some ⟨b0, 0, none⟩), .bool false, v3, v4, .pointer (some ⟨b5, 0, none⟩), v6, v7, v8, v9, v10, v11, v12, v13, v14, v15, v16, v17, v18, v19, v20, v21, .agg #[.int .i64 c.jobs, .int .i64 c.workers, .int .i64 c.window, .int .i64 c.next, .int .i64 c.reader, .slice X.q c.queue.length X.pq, .slice X.h c.hands.length X.ph, .int .i64 c.closer, .slice X.r c.results.length X.pr, .int .i64 c.keeper, .slice X.g c.ring.length X.pg, .int .i64 c.due, .slice X.o c.out.length X.po, .int .i64 c.user, .slice X.t c.got.length X.pt, .int .i64 c.room, .slice X.s c.shut.length X.ps, .int .i64 c.ops], .agg #[.int .i64 c.jobs, .int .i64 c.workers, .int .i64 c.window, .int .i64 c.next, .int .i64 c.reader, .slice A.q c.queue.length A.pq, .slice A.h c.hands.length A.ph, .int .i64 c.closer, .slice A.r c.results.length A.pr, .int .i64 c.keeper, .slice A.g c.ring.length A.pg, .int .i64 c.due, .slice A.o c.out.length A.po, .int .i64 c.user, .slice A.t c.got.length A.pt, .int .i64 c.room, .slice A.s c.shut.length A.ps, .int .i64 c.ops], .agg #[.int .i64 c.jobs, .int .i64 c.workers, .int .i64 c.window, .int .i64 c.next, .int .i64 c.reader, .slice Y.q c.queue.length Y.pq, .slice Y.h c.hands.length Y.ph, .int .i64 c.closer, .slice Y.r c.results.length Y.pr, .int .i64 c.keeper, .slice Y.g c.ring.length Y.pg, .int .i64 c.due, .slice Y.o c.out.length Y.po, .int .i64 c.user, .slice Y.t c.got.length Y.pt, .int .i64 c.room, .slice Y.s c.shut.length Y.ps, .int .i64 c.ops], .bool true, .bool false], []⟩) (by kernel_rfl) (by kernel_rfl) ?_
  exact wpAnyH_done (by kernel_rfl) (hend _ _ _ _ _ hS2.2.2) _
set_option maxRecDepth 100000 in
set_option maxHeartbeats 6400000 in
theorem lawCrewEnded_any (c : Cw) (A : A7) (P : Nat → Prop) (w : World) (h : CwAt P w c (A.v c)) (hP : ∀ b, P b → b < w.heap.size) : Calls Try.prog 7 #[.agg #[.int .i64 c.jobs, .int .i64 c.workers, .int .i64 c.window, .int .i64 c.next, .int .i64 c.reader, .slice A.q c.queue.length A.pq, .slice A.h c.hands.length A.ph, .int .i64 c.closer, .slice A.r c.results.length A.pr, .int .i64 c.keeper, .slice A.g c.ring.length A.pg, .int .i64 c.due, .slice A.o c.out.length A.po, .int .i64 c.user, .slice A.t c.got.length A.pt, .int .i64 c.room, .slice A.s c.shut.length A.ps, .int .i64 c.ops]] w fun e w' => e = .returned (.bool true) ∧ Below w.heap.size w w' := by
  have HLN := hide h.ln
  have HBc := hide (Bc.start h hP)
  have HB0 := hide (show Below w.heap.size w (w.alloc (.cells #[.int .i64 c.jobs, .int .i64 c.workers, .int .i64 c.window, .int .i64 c.next, .int .i64 c.reader, .slice A.q c.queue.length A.pq, .slice A.h c.hands.length A.ph, .int .i64 c.closer, .slice A.r c.results.length A.pr, .int .i64 c.keeper, .slice A.g c.ring.length A.pg, .int .i64 c.due, .slice A.o c.out.length A.po, .int .i64 c.user, .slice A.t c.got.length A.pt, .int .i64 c.room, .slice A.s c.shut.length A.ps, .int .i64 c.ops] 39)) from (Below.refl _ _).alloc (Nat.le_refl _) _)
  obtain ⟨dL, hdLu, hdLr⟩ := rowWorldL
  obtain ⟨dI, hdIu, hdIr⟩ := rowWorld
  obtain ⟨bb, hbb⟩ : ∃ b : Bool, b = true ↔ endedS c := by
    by_cases hp : endedS c
    · exact ⟨true, by simp [hp]⟩
    · exact ⟨false, by simp [hp]⟩
  have HSP := hide (show ∀ (X : A7) (Q : Nat → Prop) (W : World), CwAt Q W c (X.v c) → (∀ b, Q b → b < W.heap.size) → Calls Try.prog 23 #[.agg #[.int .i64 c.jobs, .int .i64 c.workers, .int .i64 c.window, .int .i64 c.next, .int .i64 c.reader, .slice X.q c.queue.length X.pq, .slice X.h c.hands.length X.ph, .int .i64 c.closer, .slice X.r c.results.length X.pr, .int .i64 c.keeper, .slice X.g c.ring.length X.pg, .int .i64 c.due, .slice X.o c.out.length X.po, .int .i64 c.user, .slice X.t c.got.length X.pt, .int .i64 c.room, .slice X.s c.shut.length X.ps, .int .i64 c.ops]] W fun e w' => ∃ r : Bool, e = .returned (.bool r) ∧ r = bb ∧ Below W.heap.size W w' from fun X Q W hX hQ => (specCrewEnded_any c X Q W hX hQ).mono (by
    rintro e w' ⟨⟨r, rfl, hr⟩, hb⟩
    exact ⟨r, rfl, by rw [Bool.eq_iff_iff, hr, hbb], hb⟩))
  have HIM := hide (show ∀ (X : A7) (Q : Nat → Prop) (W : World), CwAt Q W c (X.v c) → (∀ b, Q b → b < W.heap.size) → Calls Try.prog 14 #[.agg #[.int .i64 c.jobs, .int .i64 c.workers, .int .i64 c.window, .int .i64 c.next, .int .i64 c.reader, .slice X.q c.queue.length X.pq, .slice X.h c.hands.length X.ph, .int .i64 c.closer, .slice X.r c.results.length X.pr, .int .i64 c.keeper, .slice X.g c.ring.length X.pg, .int .i64 c.due, .slice X.o c.out.length X.po, .int .i64 c.user, .slice X.t c.got.length X.pt, .int .i64 c.room, .slice X.s c.shut.length X.ps, .int .i64 c.ops]] W fun e w' => ∃ r : Bool, e = .returned (.bool r) ∧ r = bb ∧ Below W.heap.size W w' from fun X Q W hX hQ => (implCrewEnded_any c X Q W hX hQ).mono (by
    rintro e w' ⟨⟨r, rfl, hr⟩, hb⟩
    exact ⟨r, rfl, by rw [Bool.eq_iff_iff, hr, hbb], hb⟩))
  clear hbb
  clear h hP
  go_enter Try.func7, Try.ntmps7
  go_upto_region 2 with fail
  generalize w.alloc (.cells #[.int .i64 c.jobs, .int .i64 c.workers, .int .i64 c.window, .int .i64 c.next, .int .i64 c.reader, .slice A.q c.queue.length A.pq, .slice A.h c.hands.length A.ph, .int .i64 c.closer, .slice A.r c.results.length A.pr, .int .i64 c.keeper, .slice A.g c.ring.length A.pg, .int .i64 c.due, .slice A.o c.out.length A.po, .int .i64 c.user, .slice A.t c.got.length A.pt, .int .i64 c.room, .slice A.s c.shut.length A.ps, .int .i64 c.ops] 39) = W0 at HBc HB0 ⊢
  obtain ⟨b0, hb0⟩ : ∃ b, b = w.heap.size := ⟨_, rfl⟩
  have HEQ0 := hide hb0
  rw [← hb0] at HBc ⊢
  clear hb0
  refine wp_region_list ?_
  refine wpList_load_mid rfl _ _ rfl b0 0 rfl [.int .i64 c.jobs, .int .i64 c.workers, .int .i64 c.window, .int .i64 c.next, .int .i64 c.reader, .slice A.q c.queue.length A.pq, .slice A.h c.hands.length A.ph, .int .i64 c.closer, .slice A.r c.results.length A.pr, .int .i64 c.keeper, .slice A.g c.ring.length A.pg, .int .i64 c.due, .slice A.o c.out.length A.po, .int .i64 c.user, .slice A.t c.got.length A.pt, .int .i64 c.room, .slice A.s c.shut.length A.ps, .int .i64 c.ops] dL (unhide HBc).range hdLu hdLr info18L ?_
  refine wpList_plain rfl (fun K hK => ?_); go_simp; refine hK _ _ ?_; clear hK K
  refine wpList_plain rfl (fun K hK => ?_)
  go_simp
  refine (szCrewWorld_any c A 1048576 W0 (unhide HLN) (by omega) (by omega)).mono ?_
  rintro e w1 ⟨r, rfl, hr, hb1⟩
  refine hK _ _ ?_
  clear hK K
  have HBc1 := hide ((unhide HBc).on hb1); have HB1 := hide ((unhide HB0).trans (hb1.mono (unhide HB0).size))
  clear hb1 HBc HB0
  rcases hr with rfl | ⟨hr0, hr1⟩
  · go_wp2_with fail
    go_ret
    exact ⟨rfl, unhide HB1⟩
  have HWT := hide (show wC c ≤ 1048576 from by omega)
  clear hr1
  go_upto_region 5 with fail
  refine wp_region_list ?_
  refine wpList_load_mid rfl _ _ rfl b0 0 rfl [.int .i64 c.jobs, .int .i64 c.workers, .int .i64 c.window, .int .i64 c.next, .int .i64 c.reader, .slice A.q c.queue.length A.pq, .slice A.h c.hands.length A.ph, .int .i64 c.closer, .slice A.r c.results.length A.pr, .int .i64 c.keeper, .slice A.g c.ring.length A.pg, .int .i64 c.due, .slice A.o c.out.length A.po, .int .i64 c.user, .slice A.t c.got.length A.pt, .int .i64 c.room, .slice A.s c.shut.length A.ps, .int .i64 c.ops] dL (unhide HBc1).range hdLu hdLr info18L ?_
  refine wpList_plain rfl (fun K hK => ?_)
  go_simp
  refine (toCrewWorld_any c A P w1 (unhide HBc1).at' (unhide HBc1).lt (unhide HWT)).mono ?_
  rintro e w2 ⟨U, rfl, hu, hb2⟩
  refine hK _ _ ?_
  clear hK K
  have HBc2 := hide ((unhide HBc1).on hb2); have HB2 := hide ((unhide HB1).trans (hb2.mono (unhide HB1).size)); have HU := hide hu
  clear hb2 HBc1 HB1 hu
  refine wpList_plain rfl (fun K hK => ?_)
  go_simp
  refine (unhide HSP U (New w1 w2) w2 (unhide HU) (fun b hb => hb.2)).mono ?_
  rintro e w3 ⟨r, rfl, hvs, hb3⟩
  refine hK _ _ ?_
  clear hK K
  have HBc3 := hide ((unhide HBc2).on hb3); have HB3 := hide ((unhide HB2).trans (hb3.mono (unhide HB2).size)); have HVS := hide hvs
  clear hb3 HBc2 HB2 HU hvs HSP
  go_upto_region 6 with fail
  refine wp_region_list ?_
  refine wpList_load_mid rfl _ _ rfl b0 0 rfl [.int .i64 c.jobs, .int .i64 c.workers, .int .i64 c.window, .int .i64 c.next, .int .i64 c.reader, .slice A.q c.queue.length A.pq, .slice A.h c.hands.length A.ph, .int .i64 c.closer, .slice A.r c.results.length A.pr, .int .i64 c.keeper, .slice A.g c.ring.length A.pg, .int .i64 c.due, .slice A.o c.out.length A.po, .int .i64 c.user, .slice A.t c.got.length A.pt, .int .i64 c.room, .slice A.s c.shut.length A.ps, .int .i64 c.ops] dL (unhide HBc3).range hdLu hdLr info18L ?_
  refine wpList_plain rfl (fun K hK => ?_)
  go_simp
  refine (toCrewWorld_any c A P w3 (unhide HBc3).at' (unhide HBc3).lt (unhide HWT)).mono ?_
  rintro e w4 ⟨X, rfl, hx, hb4⟩
  refine hK _ _ ?_
  clear hK K
  have HBc4 := hide ((unhide HBc3).on hb4); have HB4 := hide ((unhide HB3).trans (hb4.mono (unhide HB3).size)); have HX := hide hx
  clear hb4 HBc3 HB3 hx
  refine wpList_plain rfl (fun K hK => ?_); go_simp; refine hK _ _ ?_; clear hK K
  have hz : (w4.alloc (.cells #[.int .i64 0, .int .i64 0, .int .i64 0, .int .i64 0, .int .i64 0, .slice none 0 0, .slice none 0 0, .int .i64 0, .slice none 0 0, .int .i64 0, .slice none 0 0, .int .i64 0, .slice none 0 0, .int .i64 0, .slice none 0 0, .int .i64 0, .slice none 0 0, .int .i64 0] 28)).rowIs w4.heap.size 28 18 (r18 [.int .i64 0, .int .i64 0, .int .i64 0, .int .i64 0, .int .i64 0, .slice none 0 0, .slice none 0 0, .int .i64 0, .slice none 0 0, .int .i64 0, .slice none 0 0, .int .i64 0, .slice none 0 0, .int .i64 0, .slice none 0 0, .int .i64 0, .slice none 0 0, .int .i64 0]) := box18 w4 noCw nil7 28
  have hba : Below w4.heap.size w4 (w4.alloc (.cells #[.int .i64 0, .int .i64 0, .int .i64 0, .int .i64 0, .int .i64 0, .slice none 0 0, .slice none 0 0, .int .i64 0, .slice none 0 0, .int .i64 0, .slice none 0 0, .int .i64 0, .slice none 0 0, .int .i64 0, .slice none 0 0, .int .i64 0, .slice none 0 0, .int .i64 0] 28)) := (Below.refl _ _).alloc (Nat.le_refl _) _
  refine wpList_store_mid rfl _ _ _ rfl w4.heap.size 0 #[.int .i64 c.jobs, .int .i64 c.workers, .int .i64 c.window, .int .i64 c.next, .int .i64 c.reader, .slice X.q c.queue.length X.pq, .slice X.h c.hands.length X.ph, .int .i64 c.closer, .slice X.r c.results.length X.pr, .int .i64 c.keeper, .slice X.g c.ring.length X.pg, .int .i64 c.due, .slice X.o c.out.length X.po, .int .i64 c.user, .slice X.t c.got.length X.pt, .int .i64 c.room, .slice X.s c.shut.length X.ps, .int .i64 c.ops] rfl rfl (there_row hz) info18 (one18 _ _ _ _ _ _ _ _ _ _ _ (X.v c) (by simp [A7.v, Value.oneCell'])) ?_
  have hrw := row_all (n := 18) [.int .i64 c.jobs, .int .i64 c.workers, .int .i64 c.window, .int .i64 c.next, .int .i64 c.reader, .slice X.q c.queue.length X.pq, .slice X.h c.hands.length X.ph, .int .i64 c.closer, .slice X.r c.results.length X.pr, .int .i64 c.keeper, .slice X.g c.ring.length X.pg, .int .i64 c.due, .slice X.o c.out.length X.po, .int .i64 c.user, .slice X.t c.got.length X.pt, .int .i64 c.room, .slice X.s c.shut.length X.ps, .int .i64 c.ops] rfl hz
  have hbb := below_setCells (Nat.le_refl w4.heap.size) [.int .i64 c.jobs, .int .i64 c.workers, .int .i64 c.window, .int .i64 c.next, .int .i64 c.reader, .slice X.q c.queue.length X.pq, .slice X.h c.hands.length X.ph, .int .i64 c.closer, .slice X.r c.results.length X.pr, .int .i64 c.keeper, .slice X.g c.ring.length X.pg, .int .i64 c.due, .slice X.o c.out.length X.po, .int .i64 c.user, .slice X.t c.got.length X.pt, .int .i64 c.room, .slice X.s c.shut.length X.ps, .int .i64 c.ops] 0 _ hba
  have HXB := hide (show Bc 28 (New w3 w4) w4.heap.size c X _ from ⟨hrw, (unhide HX).carry (fun b hb => hbb.block b hb.2) (fun _ h => h), fun b hb => Nat.lt_of_lt_of_le hb.2 hbb.size⟩)
  have HBc5 := hide ((unhide HBc4).on hbb); have HB5 := hide ((unhide HB4).trans (hbb.mono (unhide HB4).size))
  clear hz hba hrw hbb HBc4 HB4 HX
  generalize (w4.alloc _).setCells _ 0 _ = W5 at HXB HBc5 HB5 ⊢
  generalize w4.heap.size = b5 at HXB ⊢
  generalize New w3 w4 = PX at HXB
  go_upto_region 7 with fail
  refine wp_region_list ?_
  refine wpList_load_mid rfl _ _ rfl b5 0 rfl [.int .i64 c.jobs, .int .i64 c.workers, .int .i64 c.window, .int .i64 c.next, .int .i64 c.reader, .slice X.q c.queue.length X.pq, .slice X.h c.hands.length X.ph, .int .i64 c.closer, .slice X.r c.results.length X.pr, .int .i64 c.keeper, .slice X.g c.ring.length X.pg, .int .i64 c.due, .slice X.o c.out.length X.po, .int .i64 c.user, .slice X.t c.got.length X.pt, .int .i64 c.room, .slice X.s c.shut.length X.ps, .int .i64 c.ops] dI (unhide HXB).range hdIu hdIr info18 ?_
  refine wpList_plain rfl (fun K hK => ?_)
  go_simp
  refine (unhide HIM X PX W5 (unhide HXB).at' (unhide HXB).lt).mono ?_
  rintro e w6 ⟨r2, rfl, hvi, hb6⟩
  refine hK _ _ ?_
  clear hK K
  obtain rfl : r = r2 := (unhide HVS).trans hvi.symm
  have HXB6 := hide ((unhide HXB).on hb6); have HBc6 := hide ((unhide HBc5).on hb6); have HB6 := hide ((unhide HB5).trans (hb6.mono (unhide HB5).size))
  clear hb6 hvi HVS HXB HBc5 HB5 HIM
  have hne : (r != r) = false := by simp
  go_upto_region 10 with fail
  refine wp_swap (c' := Code.region 10 lwCrewEndedOps true) (by kernel_rfl) ?_
  refine wp_region_noPanic ?_
  refine lwCrewEnded_region c A P w X PX b0 b5 _ _ (fun _ _ _ _ _ h => h) ⟨(unhide HXB6).on (below_drewN _ 1), (unhide HBc6).on (below_drewN _ 1), (unhide HB6).trans ((below_drewN _ 1).mono (unhide HB6).size)⟩ (unhide HWT) ?_
  intro n22 n23 n24 n25 W7 hb7
  refine NoPanic.normal ?_
  have HB7 := hide hb7
  clear hb7
  go_wp2_with fail
  go_ret
  exact ⟨rfl, unhide HB7⟩
end Go.Proofs.Ytchbialjgcejgaa

/- What is read of a list of strings that comes in is one that lies in memory. No conditions. -/

namespace Go.Proofs.Ytchbialjgcejgaa
open Go Go.RowKit Go.ChangeShapes Go.WideShapes Go.ChangeAt Go.Deep

theorem cellsStr : Try.prog.cellsOf 9 = 1 := by kernel_rfl

section
variable {H : Type} {enc : TypeId × Value → H} {W : World} {spare : Nat → Bool} {held : Bool}

end
end Go.Proofs.Ytchbialjgcejgaa

/- What is read of a disk that comes in is a disk that lies in memory. No conditions. -/

namespace Go.Proofs.Ytchbialjgcejgaa
open Go Go.RowKit Go.ChangeShapes Go.WideShapes Go.ChangeAt Go.Deep

section
variable {H : Type} {enc : TypeId × Value → H} {W : World} {spare : Nat → Bool} {held : Bool}

/-- A slice of rows of n cells each, whose elements are opened by 'op'. -/
theorem flat_of_trod {E : Type} [Inhabited E] (cs : E → List Value) (ok : E → Prop) (T S n : Nat) (hn : 0 < n) (hcl : ∀ e, (cs e).length = n) (hu : Try.prog.underlying S = some (.slice T)) (hc : Try.prog.cellsOf T = n)
    (op : ∀ (fuel : Nat) (l : List Value) (x : DataW H × List MemPlace), DataW.trod enc Try.prog W 0 spare held fuel T l = some x → ∃ e : E, l = cs e ∧ ok e)
    {fuel : Nat} {v : Value} {x : DataW H × List MemPlace} (h : DataW.trod enc Try.prog W 0 spare held fuel S [v] = some x) :
    ∃ es : List E, FlatAt (fun b => b < W.heap.size) W v n (es.map cs) ∧ ∀ e, e ∈ es → ok e := by
  rcases DataW.trod_slice hu h with ⟨hcs, -⟩ | ⟨a, len, cap, elems, rest, n', hn', hcs, -, -, hl, hm, hel, hget, -⟩
  · simp only [List.cons.injEq, and_true] at hcs
    exact ⟨[], ⟨none, 0, hcs, by simp, fun i hi => by simp at hi⟩, fun e he => by cases he⟩
  · simp only [List.cons.injEq, and_true] at hcs
    unfold maxLen at hm
    rw [hc] at hget
    have hspot : 0 < len → a.spot = none := fun h0 => by
      have hgi := hget 0 h0
      rw [List.getElem?_eq_getElem (by omega)] at hgi
      obtain ⟨cs', hcs', htr⟩ := Option.bind_eq_some_iff.1 hgi
      obtain ⟨-, hl5, hcell⟩ := World.cells?_some hcs'
      have hc0 := hcell 0 (by omega)
      rw [List.getElem?_eq_getElem (by omega)] at hc0
      simpa [Addr.add] using World.cell?_spot hc0
    have hkid : ∀ i, i < len → ∃ e : E, ok e ∧ ∃ b o, a = ⟨b, o, none⟩ ∧ b < W.heap.size ∧ ∀ j, j < n → W.cell? ⟨b, o + i * n + j, none⟩ = some ((cs e).getD j undef) := by
      intro i hi
      have hgi := hget i hi
      rw [List.getElem?_eq_getElem (by omega)] at hgi
      obtain ⟨cs', hcs', htr⟩ := Option.bind_eq_some_iff.1 hgi
      obtain ⟨e, rfl, he⟩ := op n' cs' _ htr
      obtain ⟨-, -, hcell⟩ := World.cells?_some hcs'
      obtain ⟨b, off, spot⟩ := a
      have hsp : spot = none := hspot (by omega)
      subst hsp
      have hj : ∀ j, j < n → W.cell? ⟨b, off + i * n + j, none⟩ = some ((cs e).getD j undef) := fun j hj => by
        have h1 := hcell j hj
        simp only [Addr.add_lit] at h1
        rw [h1, List.getElem?_eq_getElem (by rw [hcl]; exact hj), List.getD_eq_getElem?_getD, List.getElem?_eq_getElem (by rw [hcl]; exact hj)]
        rfl
      exact ⟨e, he, b, off, rfl, World.block_lt_of_cell? W _ (hj 0 hn), hj⟩
    obtain ⟨K, hK⟩ : ∃ K : Nat → E, ∀ i, i < len → ok (K i) ∧ ∃ b o, a = ⟨b, o, none⟩ ∧ b < W.heap.size ∧ ∀ j, j < n → W.cell? ⟨b, o + i * n + j, none⟩ = some ((cs (K i)).getD j undef) :=
      ⟨fun i => if h : i < len then (hkid i h).choose else default, fun i hi => by simp only [hi, dif_pos]; exact (hkid i hi).choose_spec⟩
    refine ⟨(List.range len).map K, ⟨some a, cap, by simpa using hcs, by simp; omega, fun i hi => ?_⟩, fun e he => ?_⟩
    · have hi' : i < len := by simpa using hi
      obtain ⟨-, b, o, ha, hb, hj⟩ := hK i hi'
      exact ⟨b, o, by rw [ha], hb, fun j hj' => by rw [hj j hj']; simp⟩
    · obtain ⟨i, hi, rfl⟩ := List.mem_map.1 he
      exact (hK i (by simpa using hi)).1

/-- The fields of a struct whose fields are one cell each. -/
theorem fields_of {T : Nat} {ts : Array TypeId} {k : Nat} (hk : ts.size = k) (hone : ∃ fs : Array Field, Try.prog.underlying T = some (.struct fs) ∧ oneCellFields Try.prog fs = true ∧ fs.map (·.type) = ts) {fuel : Nat} {cs : List Value} {x : DataW H × List MemPlace} (h : DataW.trod enc Try.prog W 0 spare held fuel T cs = some x) :
    cs.length = Try.prog.cellsOf T ∧ ∃ n, ∀ (i : Nat) (U : TypeId), i < k → ts[i]? = some U → ∃ y, DataW.trod enc Try.prog W 0 spare held n U ((cs.drop i).take 1) = some y := by
  obtain ⟨fs, hu, hone, hty⟩ := hone
  obtain ⟨xs, n, hn, -, hlen, hxl, hf⟩ := DataW.trod_struct hu h
  refine ⟨hlen, n, fun i U hi hT => ?_⟩
  have hsz : fs.size = k := by have := congrArg Array.size hty; rw [hk] at this; simpa using this
  have hfi : fs[i]? = some (fs[i]'(by omega)) := Array.getElem?_eq_getElem (by omega)
  obtain ⟨ho, hc⟩ := hone_of hone i _ hfi
  have := hf i _ hfi
  rw [ho, hc] at this
  have hTT : (fs[i]'(by omega)).type = U := by
    rw [← hty] at hT
    simpa [hsz, hi] using hT
  rw [hTT] at this
  exact ⟨xs[i]'(by omega), by rw [this]; exact List.getElem?_eq_getElem (by omega)⟩

instance : Inhabited Df := ⟨⟨ByteArray.empty, ByteArray.empty, 0⟩⟩
instance : Inhabited Dm := ⟨⟨false, ByteArray.empty⟩⟩
end
end Go.Proofs.Ytchbialjgcejgaa

/- What is read of a crew's world that comes in is one that lies in memory. No conditions. -/

namespace Go.Proofs.Ytchbialjgcejgaa
open Go Go.RowKit Go.ChangeShapes Go.WideShapes Go.ChangeAt Go.Deep

theorem cellsIntC : Try.prog.cellsOf 3 = 1 := by kernel_rfl
theorem cellsHandC : Try.prog.cellsOf 108 = 2 := by kernel_rfl
theorem cellsWorldC : Try.prog.cellsOf 39 = 18 := by kernel_rfl
theorem oneHandC : ∃ fs : Array Field, Try.prog.underlying 108 = some (.struct fs) ∧ oneCellFields Try.prog fs = true ∧ fs.map (·.type) = #[3, 3] := ⟨_, Try.underlying108, by kernel_rfl, by kernel_rfl⟩
theorem oneWorldC : ∃ fs : Array Field, Try.prog.underlying 39 = some (.struct fs) ∧ oneCellFields Try.prog fs = true ∧ fs.map (·.type) = #[3, 3, 3, 3, 3, 25, 37, 3, 25, 3, 25, 3, 25, 3, 25, 3, 25, 3] := ⟨_, Try.underlying39, by kernel_rfl, by kernel_rfl⟩
section
variable {H : Type} {enc : TypeId × Value → H} {W : World} {spare : Nat → Bool} {held : Bool}
theorem int_of_trodC (fuel : Nat) (l : List Value) (x : DataW H × List MemPlace) (h : DataW.trod enc Try.prog W 0 spare held fuel 3 l = some x) : ∃ e : Int, l = zcs e ∧ True := by
  obtain ⟨k, e, -, -⟩ := DataW.trod_int Try.underlying3 h
  exact ⟨k, e, trivial⟩
theorem hand_of_trodC (fuel : Nat) (l : List Value) (x : DataW H × List MemPlace) (h : DataW.trod enc Try.prog W 0 spare held fuel 108 l = some x) : ∃ e : Hd, l = e.cs ∧ True := by
  obtain ⟨hl, n, hf⟩ := fields_of (k := 2) rfl oneHandC h
  rw [cellsHandC] at hl
  match l, hl with
  | [c0, c1], _ =>
    obtain ⟨y0, h0⟩ := hf 0 _ (by omega) rfl
    obtain ⟨y1, h1⟩ := hf 1 _ (by omega) rfl
    simp only [List.drop_succ_cons, List.drop_zero, List.take_succ_cons, List.take_zero] at h0 h1
    obtain ⟨s, e0, -, -⟩ := DataW.trod_int Try.underlying3 h0
    obtain ⟨j, e1, -, -⟩ := DataW.trod_int Try.underlying3 h1
    simp only [List.cons.injEq, and_true] at e0 e1
    subst e0 e1
    exact ⟨⟨s, j⟩, rfl, trivial⟩
theorem ints_of_trodC {fuel : Nat} {v : Value} {x : DataW H × List MemPlace} (h : DataW.trod enc Try.prog W 0 spare held fuel 25 [v] = some x) : ∃ zs : List Int, ZAt (fun b => b < W.heap.size) W v zs := by
  obtain ⟨es, h1, -⟩ := flat_of_trod zcs (fun _ => True) 3 25 1 (by omega) (fun _ => rfl) Try.underlying25 cellsIntC int_of_trodC h
  exact ⟨es, h1⟩
theorem hands_of_trodC {fuel : Nat} {v : Value} {x : DataW H × List MemPlace} (h : DataW.trod enc Try.prog W 0 spare held fuel 37 [v] = some x) : ∃ zs : List Hd, HAt (fun b => b < W.heap.size) W v zs := by
  obtain ⟨es, h1, -⟩ := flat_of_trod Hd.cs (fun _ => True) 108 37 2 (by omega) (fun _ => rfl) Try.underlying37 cellsHandC hand_of_trodC h
  exact ⟨es, h1⟩
set_option maxRecDepth 100000 in
set_option maxHeartbeats 1600000 in
theorem cw_of_trod (fuel : Nat) (cs : List Value) (x : DataW H × List MemPlace) (h : DataW.trod enc Try.prog W 0 spare held fuel 39 cs = some x) : ∃ (c : Cw) (A : A7), cs = [.int .i64 c.jobs, .int .i64 c.workers, .int .i64 c.window, .int .i64 c.next, .int .i64 c.reader, .slice A.q c.queue.length A.pq, .slice A.h c.hands.length A.ph, .int .i64 c.closer, .slice A.r c.results.length A.pr, .int .i64 c.keeper, .slice A.g c.ring.length A.pg, .int .i64 c.due, .slice A.o c.out.length A.po, .int .i64 c.user, .slice A.t c.got.length A.pt, .int .i64 c.room, .slice A.s c.shut.length A.ps, .int .i64 c.ops] ∧ CwAt (fun b => b < W.heap.size) W c (A.v c) := by
  obtain ⟨hl, n, hf⟩ := fields_of (k := 18) rfl oneWorldC h
  rw [cellsWorldC] at hl
  match cs, hl with
  | [c0, c1, c2, c3, c4, c5, c6, c7, c8, c9, c10, c11, c12, c13, c14, c15, c16, c17], _ =>
    obtain ⟨y0, h0⟩ := hf 0 _ (by omega) rfl
    obtain ⟨y1, h1⟩ := hf 1 _ (by omega) rfl
    obtain ⟨y2, h2⟩ := hf 2 _ (by omega) rfl
    obtain ⟨y3, h3⟩ := hf 3 _ (by omega) rfl
    obtain ⟨y4, h4⟩ := hf 4 _ (by omega) rfl
    obtain ⟨y5, h5⟩ := hf 5 _ (by omega) rfl
    obtain ⟨y6, h6⟩ := hf 6 _ (by omega) rfl
    obtain ⟨y7, h7⟩ := hf 7 _ (by omega) rfl
    obtain ⟨y8, h8⟩ := hf 8 _ (by omega) rfl
    obtain ⟨y9, h9⟩ := hf 9 _ (by omega) rfl
    obtain ⟨y10, h10⟩ := hf 10 _ (by omega) rfl
    obtain ⟨y11, h11⟩ := hf 11 _ (by omega) rfl
    obtain ⟨y12, h12⟩ := hf 12 _ (by omega) rfl
    obtain ⟨y13, h13⟩ := hf 13 _ (by omega) rfl
    obtain ⟨y14, h14⟩ := hf 14 _ (by omega) rfl
    obtain ⟨y15, h15⟩ := hf 15 _ (by omega) rfl
    obtain ⟨y16, h16⟩ := hf 16 _ (by omega) rfl
    obtain ⟨y17, h17⟩ := hf 17 _ (by omega) rfl
    clear hf h
    simp only [List.drop_succ_cons, List.drop_zero, List.take_succ_cons, List.take_zero] at h0 h1 h2 h3 h4 h5 h6 h7 h8 h9 h10 h11 h12 h13 h14 h15 h16 h17
    obtain ⟨x0, e0, -, -⟩ := DataW.trod_int Try.underlying3 h0
    obtain ⟨x1, e1, -, -⟩ := DataW.trod_int Try.underlying3 h1
    obtain ⟨x2, e2, -, -⟩ := DataW.trod_int Try.underlying3 h2
    obtain ⟨x3, e3, -, -⟩ := DataW.trod_int Try.underlying3 h3
    obtain ⟨x4, e4, -, -⟩ := DataW.trod_int Try.underlying3 h4
    obtain ⟨x5, z5⟩ := ints_of_trodC h5
    obtain ⟨x6, z6⟩ := hands_of_trodC h6
    obtain ⟨x7, e7, -, -⟩ := DataW.trod_int Try.underlying3 h7
    obtain ⟨x8, z8⟩ := ints_of_trodC h8
    obtain ⟨x9, e9, -, -⟩ := DataW.trod_int Try.underlying3 h9
    obtain ⟨x10, z10⟩ := ints_of_trodC h10
    obtain ⟨x11, e11, -, -⟩ := DataW.trod_int Try.underlying3 h11
    obtain ⟨x12, z12⟩ := ints_of_trodC h12
    obtain ⟨x13, e13, -, -⟩ := DataW.trod_int Try.underlying3 h13
    obtain ⟨x14, z14⟩ := ints_of_trodC h14
    obtain ⟨x15, e15, -, -⟩ := DataW.trod_int Try.underlying3 h15
    obtain ⟨x16, z16⟩ := ints_of_trodC h16
    obtain ⟨x17, e17, -, -⟩ := DataW.trod_int Try.underlying3 h17
    simp only [List.cons.injEq, and_true] at e0 e1 e2 e3 e4 e7 e9 e11 e13 e15 e17
    subst e0 e1 e2 e3 e4 e7 e9 e11 e13 e15 e17
    have hc : CwAt (fun b => b < W.heap.size) W ⟨x0, x1, x2, x3, x4, x5, x6, x7, x8, x9, x10, x11, x12, x13, x14, x15, x16, x17⟩ ⟨c5, c6, c8, c10, c12, c14, c16⟩ := ⟨z5, z6, z8, z10, z12, z14, z16⟩
    obtain ⟨A, hA⟩ := hc.addr
    rw [hA] at hc
    simp only [A7.v, C7.mk.injEq] at hA
    obtain ⟨a5, a6, a8, a10, a12, a14, a16⟩ := hA
    subst a5 a6 a8 a10 a12 a14 a16
    exact ⟨_, A, rfl, hc⟩
end
end Go.Proofs.Ytchbialjgcejgaa
