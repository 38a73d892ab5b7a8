/- The walks of the program's CrewOk, CrewLeft, CrewEnded, and of the specification's CrewEnded. No conditions. -/
import Derived.Test.YtchbialjgcejgaaPart30
import Derived.Test.YtchbialjgcejgaaPart31
namespace Go.Proofs.Ytchbialjgcejgaa
open Go Go.RowKit

set_option maxRecDepth 100000 in
set_option maxHeartbeats 3200000 in
theorem implCrewOk_any (c : Cw) (A : A7) (P : Nat → Prop) (w : World) (h : CwAt P w c (A.v c)) (hP : ∀ b, P b → b < w.heap.size) : Calls Try.prog 13 #[.agg #[.int .i64 c.jobs, .int .i64 c.workers, .int .i64 c.window, .int .i64 c.next, .int .i64 c.reader, .slice A.q c.queue.length A.pq, .slice A.h c.hands.length A.ph, .int .i64 c.closer, .slice A.r c.results.length A.pr, .int .i64 c.keeper, .slice A.g c.ring.length A.pg, .int .i64 c.due, .slice A.o c.out.length A.po, .int .i64 c.user, .slice A.t c.got.length A.pt, .int .i64 c.room, .slice A.s c.shut.length A.ps, .int .i64 c.ops]] w fun e w' => RetB e (okS c) ∧ Below w.heap.size w w' := by
  have HS := hide (Ag.start h hP)
  have HCF := hide (fun W (hW : Ag P w W c A) => crewOf_any c A P W hW.at' hW.hand.2)
  obtain ⟨dd, hdu, hdr⟩ := rowWorld
  clear h hP
  go_enter Try.func13, Try.ntmps13
  go_upto_region 1 with fail
  generalize w.alloc (.cells #[.int .i64 c.jobs, .int .i64 c.workers, .int .i64 c.window, .int .i64 c.next, .int .i64 c.reader, .slice A.q c.queue.length A.pq, .slice A.h c.hands.length A.ph, .int .i64 c.closer, .slice A.r c.results.length A.pr, .int .i64 c.keeper, .slice A.g c.ring.length A.pg, .int .i64 c.due, .slice A.o c.out.length A.po, .int .i64 c.user, .slice A.t c.got.length A.pt, .int .i64 c.room, .slice A.s c.shut.length A.ps, .int .i64 c.ops] 28) = W0 at HS ⊢
  refine wp_region_list ?_
  refine wpList_load_mid rfl _ _ rfl w.heap.size 0 rfl [.int .i64 c.jobs, .int .i64 c.workers, .int .i64 c.window, .int .i64 c.next, .int .i64 c.reader, .slice A.q c.queue.length A.pq, .slice A.h c.hands.length A.ph, .int .i64 c.closer, .slice A.r c.results.length A.pr, .int .i64 c.keeper, .slice A.g c.ring.length A.pg, .int .i64 c.due, .slice A.o c.out.length A.po, .int .i64 c.user, .slice A.t c.got.length A.pt, .int .i64 c.room, .slice A.s c.shut.length A.ps, .int .i64 c.ops] dd (unhide HS).range hdu hdr info18 ?_
  refine wpList_plain rfl (fun K hK => ?_)
  go_simp
  refine (unhide HCF _ (unhide HS)).mono ?_
  rintro e w1 ⟨⟨v, r, rfl, hr, hcr⟩, hb⟩
  refine hK _ _ ?_
  clear hK K
  have HB := hide ((unhide HS).on hb).bel
  have HR := hide hr
  have HCR := hide hcr
  clear hb HS hr hcr HCF
  go_wp2_with fail
  go_ret
  exact ⟨⟨r, rfl, unhide HR⟩, unhide HB⟩
theorem ok_left {c : Cw} (h : okS c) : leftP c = leftZ c := by
  obtain ⟨⟨hF, -⟩, hj, -⟩ := (ok_iff c).1 h
  exact left_eq hF (jobsP_ring hF hj)
set_option maxRecDepth 100000 in
set_option maxHeartbeats 3200000 in
theorem implCrewLeft_any (c : Cw) (A : A7) (P : Nat → Prop) (w : World) (h : CwAt P w c (A.v c)) (hP : ∀ b, P b → b < w.heap.size) : Calls Try.prog 15 #[.agg #[.int .i64 c.jobs, .int .i64 c.workers, .int .i64 c.window, .int .i64 c.next, .int .i64 c.reader, .slice A.q c.queue.length A.pq, .slice A.h c.hands.length A.ph, .int .i64 c.closer, .slice A.r c.results.length A.pr, .int .i64 c.keeper, .slice A.g c.ring.length A.pg, .int .i64 c.due, .slice A.o c.out.length A.po, .int .i64 c.user, .slice A.t c.got.length A.pt, .int .i64 c.room, .slice A.s c.shut.length A.ps, .int .i64 c.ops]] w fun e w' => (∃ z, e = .returned (.int .i64 z) ∧ (okS c → z = leftZ c) ∧ (¬ okS c → z = 0)) ∧ Below w.heap.size w w' := by
  have HS := hide (Ag.start h hP)
  have HCF := hide (fun W (hW : Ag P w W c A) => crewOf_any c A P W hW.at' hW.hand.2)
  obtain ⟨dd, hdu, hdr⟩ := rowWorld
  clear h hP
  go_enter Try.func15, Try.ntmps15
  go_upto_region 1 with fail
  generalize w.alloc (.cells #[.int .i64 c.jobs, .int .i64 c.workers, .int .i64 c.window, .int .i64 c.next, .int .i64 c.reader, .slice A.q c.queue.length A.pq, .slice A.h c.hands.length A.ph, .int .i64 c.closer, .slice A.r c.results.length A.pr, .int .i64 c.keeper, .slice A.g c.ring.length A.pg, .int .i64 c.due, .slice A.o c.out.length A.po, .int .i64 c.user, .slice A.t c.got.length A.pt, .int .i64 c.room, .slice A.s c.shut.length A.ps, .int .i64 c.ops] 28) = W0 at HS ⊢
  refine wp_region_list ?_
  refine wpList_load_mid rfl _ _ rfl w.heap.size 0 rfl [.int .i64 c.jobs, .int .i64 c.workers, .int .i64 c.window, .int .i64 c.next, .int .i64 c.reader, .slice A.q c.queue.length A.pq, .slice A.h c.hands.length A.ph, .int .i64 c.closer, .slice A.r c.results.length A.pr, .int .i64 c.keeper, .slice A.g c.ring.length A.pg, .int .i64 c.due, .slice A.o c.out.length A.po, .int .i64 c.user, .slice A.t c.got.length A.pt, .int .i64 c.room, .slice A.s c.shut.length A.ps, .int .i64 c.ops] dd (unhide HS).range hdu hdr info18 ?_
  refine wpList_plain rfl (fun K hK => ?_)
  go_simp
  refine (unhide HCF _ (unhide HS)).mono ?_
  rintro e w1 ⟨⟨v, r, rfl, hr, hcr⟩, hb⟩
  refine hK _ _ ?_
  clear hK K
  have HB := hide ((unhide HS).on hb).bel
  have HR := hide hr
  have HCR := hide hcr
  clear hb HS hr hcr HCF
  cases r with
  | false =>
    have HNO := hide (show ¬ okS c from fun h => Bool.false_ne_true ((unhide HR).2 h))
    clear HR HCR
    go_wp2_with fail
    go_ret
    exact ⟨⟨0, rfl, fun h => absurd h (unhide HNO), fun _ => rfl⟩, unhide HB⟩
  | true =>
    have HY := hide ((unhide HR).1 rfl)
    obtain ⟨C, B, rfl, hcr⟩ := unhide HCR rfl
    clear HR HCR
    have HLF := hide (left_any C c B w1 hcr ((ok_iff c).1 (unhide HY)).1.1)
    rw [ok_left (unhide HY)] at HLF
    clear hcr
    go_wp2_with (go_at_call 41; refine (unhide HLF).mono ?_; rintro e w2 ⟨rfl, hb⟩; have HB2 := hide ((unhide HB).trans (hb.mono (unhide HB).size)); clear hb)
    go_ret
    exact ⟨⟨leftZ c, rfl, fun _ => rfl, fun h => absurd (unhide HY) h⟩, unhide HB2⟩
/-- All have ended. -/
def endedS (c : Cw) : Prop := okS c ∧ c.reader = 3 ∧ allE c.hands = true ∧ c.closer = 1 ∧ c.keeper = 5 ∧ c.user = 1
set_option maxRecDepth 100000 in
set_option maxHeartbeats 6400000 in
theorem implCrewEnded_any (c : Cw) (A : A7) (P : Nat → Prop) (w : World) (h : CwAt P w c (A.v c)) (hP : ∀ b, P b → b < w.heap.size) : Calls Try.prog 14 #[.agg #[.int .i64 c.jobs, .int .i64 c.workers, .int .i64 c.window, .int .i64 c.next, .int .i64 c.reader, .slice A.q c.queue.length A.pq, .slice A.h c.hands.length A.ph, .int .i64 c.closer, .slice A.r c.results.length A.pr, .int .i64 c.keeper, .slice A.g c.ring.length A.pg, .int .i64 c.due, .slice A.o c.out.length A.po, .int .i64 c.user, .slice A.t c.got.length A.pt, .int .i64 c.room, .slice A.s c.shut.length A.ps, .int .i64 c.ops]] w fun e w' => RetB e (endedS c) ∧ Below w.heap.size w w' := by
  have HE := hide (show endedS c ↔ (okS c ∧ c.reader = 3 ∧ allE c.hands = true ∧ c.closer = 1 ∧ c.keeper = 5 ∧ c.user = 1) from Iff.rfl)
  have HS := hide (Ag.start h hP)
  have HCF := hide (fun W (hW : Ag P w W c A) => crewOf_any c A P W hW.at' hW.hand.2)
  obtain ⟨dd, hdu, hdr⟩ := rowWorld
  clear h hP
  go_enter Try.func14, Try.ntmps14
  go_upto_region 1 with fail
  generalize w.alloc (.cells #[.int .i64 c.jobs, .int .i64 c.workers, .int .i64 c.window, .int .i64 c.next, .int .i64 c.reader, .slice A.q c.queue.length A.pq, .slice A.h c.hands.length A.ph, .int .i64 c.closer, .slice A.r c.results.length A.pr, .int .i64 c.keeper, .slice A.g c.ring.length A.pg, .int .i64 c.due, .slice A.o c.out.length A.po, .int .i64 c.user, .slice A.t c.got.length A.pt, .int .i64 c.room, .slice A.s c.shut.length A.ps, .int .i64 c.ops] 28) = W0 at HS ⊢
  refine wp_region_list ?_
  refine wpList_load_mid rfl _ _ rfl w.heap.size 0 rfl [.int .i64 c.jobs, .int .i64 c.workers, .int .i64 c.window, .int .i64 c.next, .int .i64 c.reader, .slice A.q c.queue.length A.pq, .slice A.h c.hands.length A.ph, .int .i64 c.closer, .slice A.r c.results.length A.pr, .int .i64 c.keeper, .slice A.g c.ring.length A.pg, .int .i64 c.due, .slice A.o c.out.length A.po, .int .i64 c.user, .slice A.t c.got.length A.pt, .int .i64 c.room, .slice A.s c.shut.length A.ps, .int .i64 c.ops] dd (unhide HS).range hdu hdr info18 ?_
  refine wpList_plain rfl (fun K hK => ?_)
  go_simp
  refine (unhide HCF _ (unhide HS)).mono ?_
  rintro e w1 ⟨⟨v, r, rfl, hr, hcr⟩, hb⟩
  refine hK _ _ ?_
  clear hK K
  have HB := hide ((unhide HS).on hb).bel
  have HR := hide hr
  have HCR := hide hcr
  clear hb HS hr hcr HCF
  cases r with
  | false =>
    have HNO := hide (show ¬ endedS c from fun h => Bool.false_ne_true ((unhide HR).2 ((unhide HE).1 h).1))
    clear HR HCR
    go_wp2_with fail
    go_ret
    exact ⟨RetB.no (unhide HNO), unhide HB⟩
  | true =>
    have HY := hide ((unhide HR).1 rfl)
    obtain ⟨C, B, rfl, hcr⟩ := unhide HCR rfl
    clear HR HCR
    have c2 := hcr.c2
    have HWE := hide (wEnded_any C c B w1 hcr)
    have HCC := hide hcr
    clear hcr
    by_cases p0 : c.reader = 3
    case neg =>
      have q0 : (c.reader == 3) = false := by simp [p0]
      have HNO := hide (show ¬ endedS c from fun h => p0 ((unhide HE).1 h).2.1)
      clear p0
      go_wp2_with fail
      go_ret
      exact ⟨RetB.no (unhide HNO), unhide HB⟩
    have q0 : (c.reader == 3) = true := by simp [p0]
    have P0 := hide p0
    clear p0
    cases hal : allE c.hands with
    | false =>
      have HNO := hide (show ¬ endedS c from fun h => by have := ((unhide HE).1 h).2.2.1; rw [hal] at this; cases this)
      rw [hal] at HWE
      clear hal
      go_wp2_with (go_at_call 40; refine (unhide HWE).mono ?_; rintro e w2 ⟨rfl, hb⟩; have HB2 := hide ((unhide HB).trans (hb.mono (unhide HB).size)); have hc2 := (unhide HCC).below hb; have c5 := hc2.c5; have c7 := hc2.c7; have c11 := hc2.c11; clear hc2 hb)
      go_ret
      exact ⟨RetB.no (unhide HNO), unhide HB2⟩
    | true =>
    rw [hal] at HWE
    have PA := hide hal
    clear hal
    by_cases p1 : c.closer = 1
    case neg =>
      have q1 : (c.closer == 1) = false := by simp [p1]
      have HNO := hide (show ¬ endedS c from fun h => p1 ((unhide HE).1 h).2.2.2.1)
      clear p1
      go_wp2_with (go_at_call 40; refine (unhide HWE).mono ?_; rintro e w2 ⟨rfl, hb⟩; have HB2 := hide ((unhide HB).trans (hb.mono (unhide HB).size)); have hc2 := (unhide HCC).below hb; have c5 := hc2.c5; have c7 := hc2.c7; have c11 := hc2.c11; clear hc2 hb)
      go_ret
      exact ⟨RetB.no (unhide HNO), unhide HB2⟩
    have q1 : (c.closer == 1) = true := by simp [p1]
    have P1 := hide p1
    clear p1
    by_cases p2 : c.keeper = 5
    case neg =>
      have q2 : (c.keeper == 5) = false := by simp [p2]
      have HNO := hide (show ¬ endedS c from fun h => p2 ((unhide HE).1 h).2.2.2.2.1)
      clear p2
      go_wp2_with (go_at_call 40; refine (unhide HWE).mono ?_; rintro e w2 ⟨rfl, hb⟩; have HB2 := hide ((unhide HB).trans (hb.mono (unhide HB).size)); have hc2 := (unhide HCC).below hb; have c5 := hc2.c5; have c7 := hc2.c7; have c11 := hc2.c11; clear hc2 hb)
      go_ret
      exact ⟨RetB.no (unhide HNO), unhide HB2⟩
    have q2 : (c.keeper == 5) = true := by simp [p2]
    have P2 := hide p2
    clear p2
    by_cases p3 : c.user = 1
    case neg =>
      have q3 : (c.user == 1) = false := by simp [p3]
      have HNO := hide (show ¬ endedS c from fun h => p3 ((unhide HE).1 h).2.2.2.2.2)
      clear p3
      go_wp2_with (go_at_call 40; refine (unhide HWE).mono ?_; rintro e w2 ⟨rfl, hb⟩; have HB2 := hide ((unhide HB).trans (hb.mono (unhide HB).size)); have hc2 := (unhide HCC).below hb; have c5 := hc2.c5; have c7 := hc2.c7; have c11 := hc2.c11; clear hc2 hb)
      go_ret
      exact ⟨RetB.no (unhide HNO), unhide HB2⟩
    have q3 : (c.user == 1) = true := by simp [p3]
    have HYY := hide ((unhide HE).2 ⟨unhide HY, unhide P0, unhide PA, unhide P1, unhide P2, p3⟩)
    clear p3
    go_wp2_with (go_at_call 40; refine (unhide HWE).mono ?_; rintro e w2 ⟨rfl, hb⟩; have HB2 := hide ((unhide HB).trans (hb.mono (unhide HB).size)); have hc2 := (unhide HCC).below hb; have c5 := hc2.c5; have c7 := hc2.c7; have c11 := hc2.c11; clear hc2 hb)
    go_ret
    exact ⟨RetB.yes (unhide HYY), unhide HB2⟩
set_option maxRecDepth 100000 in
set_option maxHeartbeats 6400000 in
theorem specCrewEnded_any (c : Cw) (A : A7) (P : Nat → Prop) (w : World) (h : CwAt P w c (A.v c)) (hP : ∀ b, P b → b < w.heap.size) : Calls Try.prog 23 #[.agg #[.int .i64 c.jobs, .int .i64 c.workers, .int .i64 c.window, .int .i64 c.next, .int .i64 c.reader, .slice A.q c.queue.length A.pq, .slice A.h c.hands.length A.ph, .int .i64 c.closer, .slice A.r c.results.length A.pr, .int .i64 c.keeper, .slice A.g c.ring.length A.pg, .int .i64 c.due, .slice A.o c.out.length A.po, .int .i64 c.user, .slice A.t c.got.length A.pt, .int .i64 c.room, .slice A.s c.shut.length A.ps, .int .i64 c.ops]] w fun e w' => RetB e (endedS c) ∧ Below w.heap.size w w' := by
  have HE := hide (show endedS c ↔ (okS c ∧ c.reader = 3 ∧ allE c.hands = true ∧ c.closer = 1 ∧ c.keeper = 5 ∧ c.user = 1) from Iff.rfl)
  have HALL := hide (fun W (hW : Ag P w W c A) => l51All_any c A P W hW.at' hW.hand.2)
  have HS := hide (Ag.start h hP)
  have HCF := hide (fun W (hW : Ag P w W c A) => specCrewOk_any c A P W hW.at' hW.hand.2)
  obtain ⟨dd, hdu, hdr⟩ := rowWorld
  clear h hP
  go_enter Try.func23, Try.ntmps23
  go_upto_region 1 with fail
  generalize w.alloc (.cells #[.int .i64 c.jobs, .int .i64 c.workers, .int .i64 c.window, .int .i64 c.next, .int .i64 c.reader, .slice A.q c.queue.length A.pq, .slice A.h c.hands.length A.ph, .int .i64 c.closer, .slice A.r c.results.length A.pr, .int .i64 c.keeper, .slice A.g c.ring.length A.pg, .int .i64 c.due, .slice A.o c.out.length A.po, .int .i64 c.user, .slice A.t c.got.length A.pt, .int .i64 c.room, .slice A.s c.shut.length A.ps, .int .i64 c.ops] 28) = W0 at HS ⊢
  refine wp_region_list ?_
  refine wpList_load_mid rfl _ _ rfl w.heap.size 0 rfl [.int .i64 c.jobs, .int .i64 c.workers, .int .i64 c.window, .int .i64 c.next, .int .i64 c.reader, .slice A.q c.queue.length A.pq, .slice A.h c.hands.length A.ph, .int .i64 c.closer, .slice A.r c.results.length A.pr, .int .i64 c.keeper, .slice A.g c.ring.length A.pg, .int .i64 c.due, .slice A.o c.out.length A.po, .int .i64 c.user, .slice A.t c.got.length A.pt, .int .i64 c.room, .slice A.s c.shut.length A.ps, .int .i64 c.ops] dd (unhide HS).range hdu hdr info18 ?_
  refine wpList_plain rfl (fun K hK => ?_)
  go_simp
  refine (unhide HCF _ (unhide HS)).mono ?_
  rintro e w1 ⟨⟨r, rfl, hr⟩, hb⟩
  refine hK _ _ ?_
  clear hK K
  have HS1 := hide ((unhide HS).on hb)
  have HR := hide hr
  clear hb HS hr HCF
  have HB := hide (unhide HS1).bel
  cases r with
  | false =>
    have HNO := hide (show ¬ endedS c from fun h => Bool.false_ne_true ((unhide HR).2 ((unhide HE).1 h).1))
    clear HR
    go_wp2_with fail
    go_ret
    exact ⟨RetB.no (unhide HNO), unhide HB⟩
  | true =>
    have HY := hide ((unhide HR).1 rfl)
    clear HR
    have k4 := (unhide HS1).k4
    by_cases p0 : c.reader = 3
    case neg =>
      have q0 : (c.reader == 3) = false := by simp [p0]
      have HNO := hide (show ¬ endedS c from fun h => p0 ((unhide HE).1 h).2.1)
      clear p0
      go_wp2_with fail
      go_ret
      exact ⟨RetB.no (unhide HNO), unhide HB⟩
    have q0 : (c.reader == 3) = true := by simp [p0]
    have P0 := hide p0
    clear p0
    refine wpList_plain rfl (fun K hK => ?_)
    go_simp
    refine hK _ _ ?_
    clear hK K
    refine wpList_want (by kernel_rfl) (fun K hK => ?_)
    go_simp
    refine hK _ _ ?_
    clear hK K
    refine wpList_want (by kernel_rfl) (fun K hK => ?_)
    go_simp
    refine hK _ _ ?_
    clear hK K
    refine wpList_want (by kernel_rfl) (fun K hK => ?_)
    go_simp
    refine hK _ _ ?_
    clear hK K
    refine wpList_plain rfl (fun K hK => ?_)
    go_simp
    refine hK _ _ ?_
    clear hK K
    refine wpList_plain rfl (fun K hK => ?_)
    go_simp
    refine hK _ _ ?_
    clear hK K
    clear k4 q0
    refine wpList_want (by kernel_rfl) (fun K hK => wp_load_mid _ _ rfl w.heap.size 0 rfl [.int .i64 c.jobs, .int .i64 c.workers, .int .i64 c.window, .int .i64 c.next, .int .i64 c.reader, .slice A.q c.queue.length A.pq, .slice A.h c.hands.length A.ph, .int .i64 c.closer, .slice A.r c.results.length A.pr, .int .i64 c.keeper, .slice A.g c.ring.length A.pg, .int .i64 c.due, .slice A.o c.out.length A.po, .int .i64 c.user, .slice A.t c.got.length A.pt, .int .i64 c.room, .slice A.s c.shut.length A.ps, .int .i64 c.ops] dd (unhide HS1).range hdu hdr info18 (hK _ _ ?_))
    refine wpList_want (by kernel_rfl) (fun K hK => ?_)
    go_simp
    refine (unhide HALL _ (unhide HS1)).mono ?_
    rintro e w2 ⟨rfl, hb⟩
    refine hK _ _ ?_
    clear hK K
    have HS2 := hide ((unhide HS1).on hb)
    clear hb HB HALL
    have HB := hide (unhide HS2).bel
    have k7 := (unhide HS2).k7; have k9 := (unhide HS2).k9; have k13 := (unhide HS2).k13
    cases hal : allE c.hands with
    | false =>
      have HNO := hide (show ¬ endedS c from fun h => by have := ((unhide HE).1 h).2.2.1; rw [hal] at this; cases this)
      clear hal
      go_wp2_with fail
      go_ret
      exact ⟨RetB.no (unhide HNO), unhide HB⟩
    | true =>
    have PA := hide hal
    clear hal
    by_cases p1 : c.closer = 1
    case neg =>
      have q1 : (c.closer == 1) = false := by simp [p1]
      have HNO := hide (show ¬ endedS c from fun h => p1 ((unhide HE).1 h).2.2.2.1)
      clear p1
      go_wp2_with fail
      go_ret
      exact ⟨RetB.no (unhide HNO), unhide HB⟩
    have q1 : (c.closer == 1) = true := by simp [p1]
    have P1 := hide p1
    clear p1
    by_cases p2 : c.keeper = 5
    case neg =>
      have q2 : (c.keeper == 5) = false := by simp [p2]
      have HNO := hide (show ¬ endedS c from fun h => p2 ((unhide HE).1 h).2.2.2.2.1)
      clear p2
      go_wp2_with fail
      go_ret
      exact ⟨RetB.no (unhide HNO), unhide HB⟩
    have q2 : (c.keeper == 5) = true := by simp [p2]
    have P2 := hide p2
    clear p2
    by_cases p3 : c.user = 1
    case neg =>
      have q3 : (c.user == 1) = false := by simp [p3]
      have HNO := hide (show ¬ endedS c from fun h => p3 ((unhide HE).1 h).2.2.2.2.2)
      clear p3
      go_wp2_with fail
      go_ret
      exact ⟨RetB.no (unhide HNO), unhide HB⟩
    have q3 : (c.user == 1) = true := by simp [p3]
    have P3 := hide p3
    clear p3
    have HYY := hide ((unhide HE).2 ⟨unhide HY, unhide P0, unhide PA, unhide P1, unhide P2, unhide P3⟩)
    go_wp2_with fail
    go_ret
    exact ⟨RetB.yes (unhide HYY), unhide HB⟩
end Go.Proofs.Ytchbialjgcejgaa
