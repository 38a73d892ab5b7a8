/- A part. -/
import Derived.Test.YtibgjcejddpldaaGreatPart42
namespace Go.Proofs.YtibgjcejddpldaaGreat
open Go Go.RowKit
set_option maxRecDepth 100000
set_option maxHeartbeats 3200000
theorem stD_w {c : Cw} (h : okS c) (who k : Nat) : wC (stD c who k) ≤ 1001 := by
 have hF := ((formS_iff c).1 h.1).1
 have hg := ((formS_iff c).1 h.1).2
 obtain ⟨⟨a1, a2⟩, ⟨a3, a4⟩, ⟨a5, a6⟩⟩ := hF.st
 have := hF.hands; have := hF.ring; have := hF.queue; have := hF.results; have := hF.out; have := hF.shut
 have hw : wC (stD c who k) ≤ wC c + 1 := by
  have r : wC (stR c k) ≤ wC c + 1 := by
   unfold stR
   (repeat' split) <;> simp [wC] <;> omega
  have u : wC (stU c k) ≤ wC c + 1 := by
   unfold stU
   (repeat' split) <;> simp [wC] <;> omega
  have cl : wC (stC c) ≤ wC c + 1 := by
   unfold stC
   simp [wC]
  have kp : wC (stK c k) ≤ wC c + 1 := by
   unfold stK
   (repeat' split) <;> simp [wC] <;> omega
  have wk : wC (stW c (who - 1) k) ≤ wC c + 1 := by
   unfold stW
   (repeat' split) <;> simp [wC] <;> omega
  unfold stD
  (repeat' split) <;> assumption
 have hs : wC c ≤ 1000 := by
  unfold wC
  omega
 omega
theorem stD_small {c : Cw} (h : okS c) (who k : Nat) : wC (stD c who k) ≤ 1048576 := Nat.le_trans (stD_w h who k) (by omega)
theorem spDo_reader {c : Cw} (hok : okS c) (k : Nat) (hm : (wayR c)[k]? = some true) (W : World) (lo : Nat) (R : R7) (hR : Rw7 W lo c R) : Calls Tryz.prog 39 #[.agg #[.int .i64 c.jobs, .int .i64 c.workers, .int .i64 c.window, .int .i64 c.next, .int .i64 c.reader, .slice (some ⟨R.q, 0, none⟩) c.queue.length R.cq, .slice (some ⟨R.h, 0, none⟩) c.hands.length R.ch, .int .i64 c.closer, .slice (some ⟨R.r, 0, none⟩) c.results.length R.cr, .int .i64 c.keeper, .slice (some ⟨R.g, 0, none⟩) c.ring.length R.cg, .int .i64 c.due, .slice (some ⟨R.o, 0, none⟩) c.out.length R.co, .int .i64 c.user, .slice (some ⟨R.t, 0, none⟩) c.got.length R.ct, .int .i64 c.room, .slice (some ⟨R.s, 0, none⟩) c.shut.length R.cs, .int .i64 c.ops], .int .i64 (k : Int)] W fun e w' => SpEnd W w' e (stR c k) R lo := by
 have hF := ((formS_iff c).1 hok.1).1
 obtain ⟨s1, s2, s3, s4, s5, s6, s7, s8⟩ := hF.small
 have r1 := hF.reader; have r2 := hF.room; have r3 := hF.next; have r4 := hF.ring
 by_cases h2 : c.reader = 2
 · exact doRead_close c R lo k W hR hF.ops h2 hF.shut
 · by_cases hk : 0 < k
   · exact doRead_stop c R lo k W hR h2 hk
   · obtain rfl : k = 0 := by omega
     by_cases h0 : c.reader = 0
     · exact doRead_room c R lo W hR hF.ops h0 (by omega) (by omega)
     · by_cases h1 : c.reader = 1
       · exact doRead_send c R lo W hR hF.ops h1 (by omega) (by omega)
       · exfalso
         unfold wayR at hm
         rw [if_neg h0, if_neg h1, if_neg h2] at hm
         cases hm
theorem spDo_worker {c : Cw} (hok : okS c) (i k : Nat) (hi : i < c.hands.length) (hm : (wayW c (c.hands.getD i ⟨0, 0⟩))[k]? = some true) (W : World) (lo : Nat) (R : R7) (hR : Rw7 W lo c R) : Calls Tryz.prog 40 #[.agg #[.int .i64 c.jobs, .int .i64 c.workers, .int .i64 c.window, .int .i64 c.next, .int .i64 c.reader, .slice (some ⟨R.q, 0, none⟩) c.queue.length R.cq, .slice (some ⟨R.h, 0, none⟩) c.hands.length R.ch, .int .i64 c.closer, .slice (some ⟨R.r, 0, none⟩) c.results.length R.cr, .int .i64 c.keeper, .slice (some ⟨R.g, 0, none⟩) c.ring.length R.cg, .int .i64 c.due, .slice (some ⟨R.o, 0, none⟩) c.out.length R.co, .int .i64 c.user, .slice (some ⟨R.t, 0, none⟩) c.got.length R.ct, .int .i64 c.room, .slice (some ⟨R.s, 0, none⟩) c.shut.length R.cs, .int .i64 c.ops], .int .i64 (i : Int), .int .i64 (k : Int)] W fun e w' => SpEnd W w' e (stW c i k) R lo := by
 have hF := ((formS_iff c).1 hok.1).1
 obtain ⟨s1, s2, s3, s4, s5, s6, s7, s8⟩ := hF.small
 have hkl : k < 3 := by
  have h1 := (List.getElem?_eq_some_iff.1 hm).1
  have h2 : (wayW c (c.hands.getD i ⟨0, 0⟩)).length ≤ 3 := by unfold wayW; (repeat' split); all_goals simp
  omega
 have hh : 0 ≤ (c.hands.getD i ⟨0, 0⟩).state ∧ (c.hands.getD i ⟨0, 0⟩).state ≤ 3 := by
  rw [List.getD_eq_getElem?_getD, List.getElem?_eq_getElem hi]
  exact (hF.handsOk _ (List.getElem_mem hi)).1
 rcases (show k = 0 ∨ k = 1 ∨ k = 2 by omega) with rfl | rfl | rfl
 · by_cases h0 : (c.hands.getD i ⟨0, 0⟩).state = 0
   · unfold wayW at hm
     rw [if_pos h0] at hm
     simp only [List.getElem?_cons_zero, Option.some.injEq, decide_eq_true_eq] at hm
     obtain ⟨z, l, hq⟩ : ∃ z l, c.queue = z :: l := by
      cases hc : c.queue with
      | nil => rw [hc] at hm; simp at hm
      | cons z l => exact ⟨z, l, rfl⟩
     exact doWork_take c R lo i W hR hi hF.ops z l hq h0 (by omega)
   · by_cases h1 : (c.hands.getD i ⟨0, 0⟩).state = 1
     · exact doWork_do c R lo i W hR hi h1
     · by_cases h2 : (c.hands.getD i ⟨0, 0⟩).state = 2
       · exact doWork_give c R lo i W hR hi hF.ops h2 (by omega)
       · exfalso
         unfold wayW at hm
         rw [if_neg h0, if_neg h1, if_neg h2] at hm
         cases hm
 · exact doWork_end c R lo i W hR hi
 · exact doWork_see c R lo i W hR hi hF.ops
theorem spDo_keeper {c : Cw} (hok : okS c) (k : Nat) (hm : (wayK c)[k]? = some true) (W : World) (lo : Nat) (R : R7) (hR : Rw7 W lo c R) : Calls Tryz.prog 41 #[.agg #[.int .i64 c.jobs, .int .i64 c.workers, .int .i64 c.window, .int .i64 c.next, .int .i64 c.reader, .slice (some ⟨R.q, 0, none⟩) c.queue.length R.cq, .slice (some ⟨R.h, 0, none⟩) c.hands.length R.ch, .int .i64 c.closer, .slice (some ⟨R.r, 0, none⟩) c.results.length R.cr, .int .i64 c.keeper, .slice (some ⟨R.g, 0, none⟩) c.ring.length R.cg, .int .i64 c.due, .slice (some ⟨R.o, 0, none⟩) c.out.length R.co, .int .i64 c.user, .slice (some ⟨R.t, 0, none⟩) c.got.length R.ct, .int .i64 c.room, .slice (some ⟨R.s, 0, none⟩) c.shut.length R.cs, .int .i64 c.ops], .int .i64 (k : Int)] W fun e w' => SpEnd W w' e (stK c k) R lo := by
 have hF := ((formS_iff c).1 hok.1).1
 obtain ⟨s1, s2, s3, s4, s5, s6, s7, s8⟩ := hF.small
 have r1 := hF.keeper; have r2 := hF.room; have r3 := hF.next; have r4 := hF.ring; have r5 := hF.due; have r6 := hF.out
 have hkl : k < 3 := by
  have h1 := (List.getElem?_eq_some_iff.1 hm).1
  have h2 : (wayK c).length ≤ 3 := by unfold wayK; (repeat' split); all_goals simp
  omega
 rcases (show k = 0 ∨ k = 1 ∨ k = 2 by omega) with rfl | rfl | rfl
 · rcases (show c.keeper = 0 ∨ c.keeper = 1 ∨ c.keeper = 2 ∨ c.keeper = 3 ∨ c.keeper = 4 ∨ c.keeper = 5 by omega) with hk | hk | hk | hk | hk | hk
   · unfold wayK at hm
     rw [if_pos hk] at hm
     simp only [List.getElem?_cons_zero, Option.some.injEq, decide_eq_true_eq] at hm
     obtain ⟨z, l, hq⟩ : ∃ z l, c.results = z :: l := by
      cases hc : c.results with
      | nil => rw [hc] at hm; simp at hm
      | cons z l => exact ⟨z, l, rfl⟩
     have hz := results_nonneg hok z (by rw [hq]; simp)
     obtain ⟨j, rfl⟩ : ∃ j : Nat, z = (j : Int) := ⟨z.toNat, by omega⟩
     exact doKeep_take c R lo W hR hF.ops hk j l hq (by omega) r4.symm s4
   · cases hd : dueIn c with
     | false => exact doKeep_checkN c R lo W hR hk hF hd
     | true => exact doKeep_checkY c R lo W hR hk hF hd
   · exact doKeep_give c R lo W hR hF.ops hk c.due.toNat (by omega) (by omega) (by omega) r4.symm s4
   · exact doKeep_room c R lo W hR hF.ops hk (by omega)
   · exact doKeep_close c R lo W hR hF.ops hk hF.shut
   · exfalso
     unfold wayK at hm
     rw [if_neg (by omega), if_neg (by omega), if_pos hk] at hm
     cases hm
 · exact doKeep_stop c R lo W hR
 · exact doKeep_see c R lo W hR hF.ops
theorem specCrewStep_yes (c : Cw) (A : A7) (P : Nat → Prop) (w : World) (h : CwAt P w c (A.v c)) (hP : ∀ b, P b → b < w.heap.size) (mw mk : Int) (who k : Nat) (hw : mw = who) (hk : mk = k) (hok : okS c) (hmv : mvOk c who k) : Calls Tryz.prog 8 #[.agg #[.int .i64 c.jobs, .int .i64 c.workers, .int .i64 c.window, .int .i64 c.next, .int .i64 c.reader, .slice A.q c.queue.length A.pq, .slice A.h c.hands.length A.ph, .int .i64 c.closer, .slice A.r c.results.length A.pr, .int .i64 c.keeper, .slice A.g c.ring.length A.pg, .int .i64 c.due, .slice A.o c.out.length A.po, .int .i64 c.user, .slice A.t c.got.length A.pt, .int .i64 c.room, .slice A.s c.shut.length A.ps, .int .i64 c.ops], .agg #[.int .i64 mw, .int .i64 mk]] w fun e w' => CwEnd w w' e (stD c who k) true := by
 have hF := ((formS_iff c).1 hok.1).1
 have hsm := stD_small hok who k
 obtain ⟨hlt, hm⟩ := hmv
 subst hk
 by_cases h0 : who = 0
 · subst h0
   subst hw
   have e : stD c 0 k = stR c k := by unfold stD; rw [if_pos rfl]
   rw [e] at hsm ⊢
   have hm2 : (wayR c)[k]? = some true := by unfold ways at hm; rw [if_pos rfl] at hm; exact hm
   exact spStep_reader c A P w h hP c.hands.length rfl k hok hm _ hsm (fun W lo R hR => spDo_reader hok k hm2 W lo R hR)
 · by_cases h1 : who ≤ c.hands.length
   · obtain ⟨i, rfl⟩ : ∃ i, who = i + 1 := ⟨who - 1, by omega⟩
     have e : stD c (i + 1) k = stW c i k := by unfold stD; rw [if_neg h0, if_pos h1]; rfl
     rw [e] at hsm ⊢
     have hm2 : (wayW c (c.hands.getD i ⟨0, 0⟩))[k]? = some true := by unfold ways at hm; rw [if_neg h0, if_pos h1] at hm; exact hm
     obtain rfl : mw = (i : Int) + 1 := by omega
     exact spStep_worker c A P w h hP c.hands.length rfl k i (by omega) hok hm _ hsm (fun W lo R hR => spDo_worker hok i k (by omega) hm2 W lo R hR)
   · by_cases h2 : who = c.hands.length + 1
     · obtain rfl : mw = (c.hands.length : Int) + 1 := by omega
       subst h2
       have e : stD c (c.hands.length + 1) k = stC c := by unfold stD; rw [if_neg h0, if_neg h1, if_pos rfl]
       rw [e] at hsm ⊢
       exact spStep_closer c A P w h hP c.hands.length rfl k hok hm _ hsm rfl
     · by_cases h3 : who = c.hands.length + 2
       · obtain rfl : mw = (c.hands.length : Int) + 2 := by omega
         subst h3
         have e : stD c (c.hands.length + 2) k = stK c k := by unfold stD; rw [if_neg h0, if_neg h1, if_neg h2, if_pos rfl]
         rw [e] at hsm ⊢
         have hm2 : (wayK c)[k]? = some true := by unfold ways at hm; rw [if_neg h0, if_neg h1, if_neg h2, if_pos rfl] at hm; exact hm
         exact spStep_keeper c A P w h hP c.hands.length rfl k hok hm _ hsm (fun W lo R hR => spDo_keeper hok k hm2 W lo R hR)
       · obtain rfl : who = c.hands.length + 3 := by omega
         obtain rfl : mw = (c.hands.length : Int) + 3 := by omega
         have e : stD c (c.hands.length + 3) k = stU c k := by unfold stD; rw [if_neg h0, if_neg h1, if_neg h2, if_neg h3]
         rw [e] at hsm ⊢
         have hm2 : (wayU c)[k]? = some true := by unfold ways at hm; rw [if_neg h0, if_neg h1, if_neg h2, if_neg h3] at hm; exact hm
         by_cases hk0 : k = 0
         · subst hk0
           have ho := hF.out
           obtain ⟨z, hz⟩ : ∃ z, c.out = [z] := by
            unfold wayU at hm2
            split at hm2
            · cases hm2
            · simp only [List.getElem?_cons_zero, Option.some.injEq, decide_eq_true_eq] at hm2
              exact List.length_eq_one_iff.1 (by omega)
           exact spStep_user0 c A P w h hP c.hands.length rfl z hz hok hm _ hsm (by unfold stU; rw [if_pos rfl, hz]; rfl)
         · exact spStep_user1 c A P w h hP c.hands.length rfl k hk0 hok hm _ hsm (by unfold stU; rw [if_neg hk0])

theorem rowMoveL : ∃ d, Tryz.prog.underlying 54 = some d ∧ d.isRow = true := ⟨_, Tryz.underlying54, by rfl⟩
theorem infoMoveL : (Tryz.prog.info? 54).map (·.size) = some 2 := by kernel_rfl
structure Bm (P : Nat → Prop) (b : Nat) (c : Cw) (A : A7) (mw mk : Int) (W : World) : Prop where
 bc : Bc 45 P b c A W
 mv : W.rowIs (b + 1) 54 2 (r18 [.int .i64 mw, .int .i64 mk])
theorem Bm.on {P : Nat → Prop} {b : Nat} {c : Cw} {A : A7} {mw mk : Int} {W W' : World} (h : Bm P b c A mw mk W) (hb : Below W.heap.size W W') : Bm P b c A mw mk W' := ⟨h.bc.on hb, h.mv.of_block (hb.block _ h.mv.lt)⟩
theorem Bm.exc {P : Nat → Prop} {b : Nat} {c : Cw} {A : A7} {mw mk : Int} {W W' : World} {G : List Nat} (h : Bm P b c A mw mk W) (hx : Exc G W W') (hP : ∀ x, P x → x ∉ G) (hb : b ∉ G) (hb1 : b + 1 ∉ G) : Bm P b c A mw mk W' := ⟨h.bc.exc hx hP hb, h.mv.of_block (hx.block _ h.mv.lt hb1)⟩
theorem Bm.range {P : Nat → Prop} {b : Nat} {c : Cw} {A : A7} {mw mk : Int} {W : World} (h : Bm P b c A mw mk W) : W.rangeAt (b + 1) 0 [.int .i64 mw, .int .i64 mk] := range_row [.int .i64 mw, .int .i64 mk] rfl h.mv
theorem Bm.start {P : Nat → Prop} {w : World} {c : Cw} {A : A7} (h : CwAt P w c (A.v c)) (hP : ∀ b, P b → b < w.heap.size) (mw mk : Int) : Bm P w.heap.size c A mw mk ((w.alloc (.cells #[.int .i64 c.jobs, .int .i64 c.workers, .int .i64 c.window, .int .i64 c.next, .int .i64 c.reader, .slice A.q c.queue.length A.pq, .slice A.h c.hands.length A.ph, .int .i64 c.closer, .slice A.r c.results.length A.pr, .int .i64 c.keeper, .slice A.g c.ring.length A.pg, .int .i64 c.due, .slice A.o c.out.length A.po, .int .i64 c.user, .slice A.t c.got.length A.pt, .int .i64 c.room, .slice A.s c.shut.length A.ps, .int .i64 c.ops] 45)).alloc (.cells #[.int .i64 mw, .int .i64 mk] 54)) := by
 refine ⟨(Bc.start h hP).on ((Below.refl _ _).alloc (Nat.le_refl _) _), ?_⟩
 have hr := World.rowIs_alloc (w.alloc (.cells #[.int .i64 c.jobs, .int .i64 c.workers, .int .i64 c.window, .int .i64 c.next, .int .i64 c.reader, .slice A.q c.queue.length A.pq, .slice A.h c.hands.length A.ph, .int .i64 c.closer, .slice A.r c.results.length A.pr, .int .i64 c.keeper, .slice A.g c.ring.length A.pg, .int .i64 c.due, .slice A.o c.out.length A.po, .int .i64 c.user, .slice A.t c.got.length A.pt, .int .i64 c.room, .slice A.s c.shut.length A.ps, .int .i64 c.ops] 45)) #[.int .i64 mw, .int .i64 mk] 54 (r18 [.int .i64 mw, .int .i64 mk]) (fun j hj => by
  rcases (show j = 0 ∨ j = 1 by simp at hj; omega) with rfl | rfl <;> rfl)
 simp only [World.size_alloc] at hr
 exact hr
theorem toMove_any (s j : Int) (w : World) : Calls Tryz.prog 30 #[.agg #[.int .i64 s, .int .i64 j]] w fun e w' => e = .returned (.agg #[.int .i64 s, .int .i64 j]) ∧ Below w.heap.size w w' := by
 have hb0 : ∀ o1 o2 o3, Below w.heap.size w (((w.alloc o1).alloc o2).alloc o3) := fun o1 o2 o3 => (((Below.refl _ _).alloc (Nat.le_refl _) o1).alloc (by simp) o2).alloc (by simp; omega) o3
 go_enter Tryz.func30, Tryz.ntmps30
 go_wp2_with fail
 refine bodyPost_ret (v := .agg #[.int .i64 s, .int .i64 j]) (by simp [results, Tryz.results30, go_sem]) rfl ⟨rfl, hb0 _ _ _⟩
theorem step_both (c : Cw) (mw mk : Int) : ∃ (x : Cw) (ok : Bool), mkC x ≤ 10000 ∧ (∀ (v : C7) (Q : Nat → Prop) (W : World), CwAt Q W c v → (∀ b, Q b → b < W.heap.size) → Calls Tryz.prog 8 #[.agg #[.int .i64 c.jobs, .int .i64 c.workers, .int .i64 c.window, .int .i64 c.next, .int .i64 c.reader, v.q, v.h, .int .i64 c.closer, v.r, .int .i64 c.keeper, v.g, .int .i64 c.due, v.o, .int .i64 c.user, v.t, .int .i64 c.room, v.s, .int .i64 c.ops], .agg #[.int .i64 mw, .int .i64 mk]] W fun e w' => CwEnd W w' e x ok) ∧ (∀ (v : C7) (Q : Nat → Prop) (W : World), CwAt Q W c v → (∀ b, Q b → b < W.heap.size) → Calls Tryz.prog 9 #[.agg #[.int .i64 c.jobs, .int .i64 c.workers, .int .i64 c.window, .int .i64 c.next, .int .i64 c.reader, v.q, v.h, .int .i64 c.closer, v.r, .int .i64 c.keeper, v.g, .int .i64 c.due, v.o, .int .i64 c.user, v.t, .int .i64 c.room, v.s, .int .i64 c.ops], .agg #[.int .i64 mw, .int .i64 mk]] W fun e w' => CwEnd W w' e x ok) := by
 by_cases hok : stepOk c mw mk
 · obtain ⟨hok, who, k, hw, hk, hmv⟩ := hok
   refine ⟨stD c who k, true, ?_, fun v Q W h hP => ?_, fun v Q W h hP => ?_⟩
   · have h1 := stD_w hok who k
     unfold wC at h1
     unfold mkC
     omega
   · obtain ⟨A, rfl⟩ := h.addr
     exact specCrewStep_yes c A Q W h hP mw mk who k hw hk hok hmv
   · obtain ⟨A, rfl⟩ := h.addr
     exact implCrewStep_yes c A Q mw mk W h hP who k hw hk hok hmv
 · refine ⟨noCw, false, by simp [mkC, noCw], fun v Q W h hP => ?_, fun v Q W h hP => ?_⟩
   · obtain ⟨A, rfl⟩ := h.addr
     exact spStep_no c A Q W h hP mw mk hok
   · obtain ⟨A, rfl⟩ := h.addr
     exact implCrewStep_no c A Q mw mk W h hP hok
noncomputable def st10Ops : Array Oper := fops Tryz.f6 10
theorem st10_neat : Region.noSelect st10Ops = true ∧ neat st10Ops = true := ⟨by kernel_rfl, by kernel_rfl⟩
theorem st10 (c : Cw) (A : A7) (P : Nat → Prop) (S : World → Prop) (hon : ∀ W W', S W → Below W.heap.size W W' → S W') (y : C7) (Xq Xh Xr Xg Xo Xt Xs : List Nat) (lo b6 b0 : Nat) (hX : ∀ W, S W → Bx W c c y Xq Xh Xr Xg Xo Xt Xs lo b6) (hA : ∀ W, S W → Bc 45 P b0 c A W) (hwt : wC c ≤ 1048576) (W0 : World) {x3 x6 x7 x9 x10 : Value} {l : List Value} (Q : Exit → Act → World → Prop) (hQ : ∀ c a d v w, Q (.panic c) (Act.put a d v) w → Q (.panic c) a w) (hS : S W0.drew) (hl : lookL [(2, .pointer (some ⟨b0, 0, none⟩)), (8, .pointer (some ⟨b6, 0, none⟩)), (3, x3), (6, x6), (7, x7), (9, x9), (10, x10)] l = (104, [.pointer (some ⟨b0, 0, none⟩), .pointer (some ⟨b6, 0, none⟩), x3, x6, x7, x9, x10]))
 (hend : ∀ v W', S W' → Q .normal ⟨(frL v 104 [(2, .pointer (some ⟨b0, 0, none⟩)), (8, .pointer (some ⟨b6, 0, none⟩)), (3, x3), (6, x6), (7, x7), (9, x9), (10, x10), (51, .bool false)]).toArray, []⟩ W') : (Code.region 10 st10Ops true).wp Tryz.prog Q ⟨l.toArray, []⟩ W0 := by
 obtain ⟨v, rfl⟩ := look_fr hl
 have hq : NtQ st10Ops Q := ⟨st10_neat, hQ⟩
 refine T_start (S := S) (by kernel_rfl) hS ?_
 refine T_a hq (List.range 5) (fun w h => .cons (hX w h).ld (.cons (hA w h).ldL Lds.nil)) (by kernel_rfl) ?_
 refine T_one 2 (by kernel_rfl) fun hS => O_go (toCrewWorld_val c A P _ (hA _ hS).at' (hA _ hS).lt hwt) (by kernel_rfl) ?_
 rintro e W1 ⟨u, Uq, Uh, Ur, Ug, Uo, Ut, Us, rfl, hown, hdj, hrng, hb⟩
 refine ⟨_, rfl, hon _ _ hS hb, ?_⟩
 refine T_one 3 (by kernel_rfl) fun hS1 => O_go (eqCrewWorld_any c y u W1 (hX _ hS1).own.at hown.at (hX _ hS1).lt (fun b hb => (hrng b hb).2)) (by kernel_rfl) ?_
 rintro e W2 ⟨rfl, hb2⟩
 refine ⟨_, rfl, hon _ _ hS1 hb2, ?_⟩
 exact T_z hq (List.range 5) (by kernel_rfl) (T_end 104 [(2, .pointer (some ⟨b0, 0, none⟩)), (8, .pointer (some ⟨b6, 0, none⟩)), (3, x3), (6, x6), (7, x7), (9, x9), (10, x10), (51, .bool false)] (by kernel_rfl) (by kernel_rfl) fun hS v => hend v _ hS)
end Go.Proofs.YtibgjcejddpldaaGreat
