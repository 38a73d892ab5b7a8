/- A part. -/
import Derived.Test.YtibgjcejddpldaaGreatPart10
namespace Go.Proofs.YtibgjcejddpldaaGreat
open Go Go.RowKit
set_option maxRecDepth 100000
set_option maxHeartbeats 6400000
theorem specCrewStart_all (j k n : Int) (w : World) : Calls Tryz.prog 90 #[.int .i64 j, .int .i64 k, .int .i64 n] w fun e w' => CwEnd w w' e (stCw j k n) (decide (stOk j k n)) := by
 by_cases hok : stOk j k n
 · obtain ⟨k', rfl⟩ : ∃ m : Nat, k = m := ⟨k.toNat, by have := hok.2.1.1; omega⟩
   obtain ⟨n', rfl⟩ : ∃ m : Nat, n = m := ⟨n.toNat, by have := hok.2.2.1; omega⟩
   exact specCrewStart_yes j k' n' w hok
 · exact specCrewStart_no j k n w hok
def f2 (c : Cw) : Prop := stOk c.jobs c.workers c.window ∧ (0 ≤ c.next ∧ c.next ≤ c.jobs) ∧ (0 ≤ c.due ∧ c.due ≤ c.next) ∧ (0 ≤ c.room ∧ c.room ≤ c.window) ∧ (0 ≤ c.ops ∧ c.ops ≤ 10000)
instance (c : Cw) : Decidable (f2 c) := by unfold f2; infer_instance
def f4 (c : Cw) : Prop := (c.hands.length : Int) = c.workers ∧ (c.ring.length : Int) = c.window ∧ c.shut.length = 4 ∧ (c.queue.length : Int) ≤ c.workers ∧ (c.results.length : Int) ≤ c.workers ∧ c.out.length ≤ 1 ∧ (c.got.length : Int) ≤ c.jobs
instance (c : Cw) : Decidable (f4 c) := by unfold f4; infer_instance
def fE (c : Cw) : Prop := (0 ≤ c.reader ∧ c.reader ≤ 3) ∧ (0 ≤ c.closer ∧ c.closer ≤ 1) ∧ (0 ≤ c.keeper ∧ c.keeper ≤ 5) ∧ (0 ≤ c.user ∧ c.user ≤ 1)
instance (c : Cw) : Decidable (fE c) := by unfold fE; infer_instance
instance (h : Hd) : Decidable (handOk h) := by unfold handOk; infer_instance
def formS (c : Cw) : Prop := f2 c ∧ f4 c ∧ (∀ z ∈ c.shut, 0 ≤ z ∧ z ≤ 1) ∧ (∀ h ∈ c.hands, handOk h) ∧ fE c
instance (c : Cw) : Decidable (formS c) := by unfold formS; infer_instance
theorem formS_iff (c : Cw) : formS c ↔ Form c ∧ (c.got.length : Int) ≤ c.jobs := by
 constructor
 · rintro ⟨⟨a1, a2, a3, a4, a5⟩, ⟨b1, b2, b3, b4, b5, b6, b7⟩, d1, d2, ⟨g1, g2, g3, g4⟩⟩
   exact ⟨⟨a1, a2, a3, a4, a5, b1, b2, b3, b4, b5, b6, d1, d2, g1, g2, g3, g4⟩, b7⟩
 · rintro ⟨⟨a1, a2, a3, a4, a5, b1, b2, b3, b4, b5, b6, d1, d2, g1, g2, g3, g4⟩, b7⟩
   exact ⟨⟨a1, a2, a3, a4, a5⟩, ⟨b1, b2, b3, b4, b5, b6, b7⟩, d1, d2, ⟨g1, g2, g3, g4⟩⟩
theorem l51Form_any (c : Cw) (A : A7) (P : Nat → Prop) (w : World) (h : CwAt P w c (A.v c)) (hP : ∀ b, P b → b < w.heap.size) : Calls Tryz.prog 64 #[.agg #[.int .i64 c.jobs, .int .i64 c.workers, .int .i64 c.window, .int .i64 c.next, .int .i64 c.reader, .slice A.q c.queue.length A.pq, .slice A.h c.hands.length A.ph, .int .i64 c.closer, .slice A.r c.results.length A.pr, .int .i64 c.keeper, .slice A.g c.ring.length A.pg, .int .i64 c.due, .slice A.o c.out.length A.po, .int .i64 c.user, .slice A.t c.got.length A.pt, .int .i64 c.room, .slice A.s c.shut.length A.ps, .int .i64 c.ops]] w fun e w' => e = .returned (.bool (decide (formS c))) ∧ Below w.heap.size w w' := by
 have HS := xH (Ag.start h hP)
 have HIN := xH (fun z lo hi W => frInS z lo hi W)
 have HST := xH (fun W => specCrewStart_all c.jobs c.workers c.window W)
 clear h hP
 go_enter Tryz.func64, Tryz.ntmps64
 go_upto_region 1 with fail
 generalize w.alloc (.cells #[.int .i64 c.jobs, .int .i64 c.workers, .int .i64 c.window, .int .i64 c.next, .int .i64 c.reader, .slice A.q c.queue.length A.pq, .slice A.h c.hands.length A.ph, .int .i64 c.closer, .slice A.r c.results.length A.pr, .int .i64 c.keeper, .slice A.g c.ring.length A.pg, .int .i64 c.due, .slice A.o c.out.length A.po, .int .i64 c.user, .slice A.t c.got.length A.pt, .int .i64 c.room, .slice A.s c.shut.length A.ps, .int .i64 c.ops] 26) = W0 at HS ⊢
 have k0 := (xU HS).k0; have k1 := (xU HS).k1; have k2 := (xU HS).k2
 refine wp_region_list ?_
 refine wpList_plain rfl (fun K hK => ?_); go_simp; refine hK _ _ ?_; clear hK K
 refine wpList_plain rfl (fun K hK => ?_); go_simp; refine hK _ _ ?_; clear hK K
 refine wpList_plain rfl (fun K hK => ?_); go_simp; refine hK _ _ ?_; clear hK K
 refine wpList_plain rfl (fun K hK => ?_); go_simp; refine hK _ _ ?_; clear hK K
 refine wpList_plain rfl (fun K hK => ?_); go_simp; refine hK _ _ ?_; clear hK K
 refine wpList_plain rfl (fun K hK => ?_); go_simp; refine hK _ _ ?_; clear hK K
 refine wpList_plain rfl (fun K hK => ?_)
 go_simp
 refine (xU HST W0).mono ?_
 rintro e w1 ⟨v, Fq, Fh, Fr, Fg, Fo, Ft, Fs, rfl, hown, hdj, hrng, hb⟩
 refine hK _ _ ?_
 clear hK K k0 k1 k2
 obtain ⟨hbx, hbb⟩ := Bx.new hown hdj hrng hb
 have hon := cw_oneB hown
 clear hown hdj hrng hb
 generalize stCw c.jobs c.workers c.window = d at hbx hbb hon ⊢
 refine wpList_plain rfl (fun K hK => ?_); go_simp; refine hK _ _ ?_; clear hK K
 refine wpList_plain rfl (fun K hK => ?_); go_simp; refine hK _ _ ?_; clear hK K
 refine wpList_plain rfl (fun K hK => ?_); go_simp; refine hK _ _ ?_; clear hK K
 refine wpList_plain rfl (fun K hK => ?_); go_simp; refine hK _ _ ?_; clear hK K
 refine wpList_store_mid rfl _ _ _ rfl w1.heap.size 0 #[.int .i64 d.jobs, .int .i64 d.workers, .int .i64 d.window, .int .i64 d.next, .int .i64 d.reader, v.q, v.h, .int .i64 d.closer, v.r, .int .i64 d.keeper, v.g, .int .i64 d.due, v.o, .int .i64 d.user, v.t, .int .i64 d.room, v.s, .int .i64 d.ops] rfl rfl Bx.there info18 hon ?_
 have HS1 := xH ((xU HS).on hbb)
 clear hon HS hbx hbb HST
 generalize (w1.alloc _).setCells _ 0 _ = W1 at HS1 ⊢
 generalize w1.heap.size = S1
 go_upto_region 2 with fail
 go_cut [4, 9, 16, 18, 54] from 19 to 54 (fun _ _ _ _ x wx => x = .bool (! decide (f2 c)) ∧ Ag P w wx c A)
 case first =>
  by_cases h1 : stOk c.jobs c.workers c.window
  case neg =>
   rw [decide_eq_false h1]
   have HNO := xH (show decide (f2 c) = false from decide_eq_false fun h => h1 h.1)
   clear h1
   go_wp2_with fail
   go_meet
   case rel => exact ⟨by rw [xU HNO]; rfl, xU HS1⟩
  rw [decide_eq_true h1]
  have G1 := xH h1
  clear h1
  have k3 := (xU HS1).k3; have k0 := (xU HS1).k0
  go_wp2_with fail
  refine (xU HIN _ _ _ _).mono ?_
  rintro e w1' ⟨rfl, hb⟩
  have HS2 := xH ((xU HS1).on hb)
  clear hb HS1 k3 k0
  by_cases h1 : 0 ≤ c.next ∧ c.next ≤ c.jobs
  case neg =>
   rw [decide_eq_false h1]
   have HNO := xH (show decide (f2 c) = false from decide_eq_false fun h => h1 h.2.1)
   clear h1
   go_wp2_with fail
   go_meet
   case rel => exact ⟨by rw [xU HNO]; rfl, xU HS2⟩
  rw [decide_eq_true h1]
  have G2 := xH h1
  clear h1
  have k11 := (xU HS2).k11; have k3 := (xU HS2).k3
  go_wp2_with fail
  refine (xU HIN _ _ _ _).mono ?_
  rintro e w2' ⟨rfl, hb⟩
  have HS3 := xH ((xU HS2).on hb)
  clear hb HS2 k11 k3
  by_cases h1 : 0 ≤ c.due ∧ c.due ≤ c.next
  case neg =>
   rw [decide_eq_false h1]
   have HNO := xH (show decide (f2 c) = false from decide_eq_false fun h => h1 h.2.2.1)
   clear h1
   go_wp2_with fail
   go_meet
   case rel => exact ⟨by rw [xU HNO]; rfl, xU HS3⟩
  rw [decide_eq_true h1]
  have G3 := xH h1
  clear h1
  have k15 := (xU HS3).k15; have k2 := (xU HS3).k2
  go_wp2_with fail
  refine (xU HIN _ _ _ _).mono ?_
  rintro e w3' ⟨rfl, hb⟩
  have HS4 := xH ((xU HS3).on hb)
  clear hb HS3 k15 k2
  by_cases h1 : 0 ≤ c.room ∧ c.room ≤ c.window
  case neg =>
   rw [decide_eq_false h1]
   have HNO := xH (show decide (f2 c) = false from decide_eq_false fun h => h1 h.2.2.2.1)
   clear h1
   go_wp2_with fail
   go_meet
   case rel => exact ⟨by rw [xU HNO]; rfl, xU HS4⟩
  rw [decide_eq_true h1]
  have G4 := xH h1
  clear h1
  have k17 := (xU HS4).k17
  by_cases h1 : c.ops < 0
  case pos =>
   have HNO := xH (show decide (f2 c) = false from decide_eq_false fun h => by have := h.2.2.2.2.1; omega)
   have hd : decide (c.ops < 0) = true := decide_eq_true h1
   clear h1
   go_wp2_with fail
   go_meet
   case rel => exact ⟨by rw [xU HNO]; rfl, xU HS4⟩
  have hd1 : decide (c.ops < 0) = false := decide_eq_false h1
  by_cases h2 : 10000 < c.ops
  case pos =>
   have HNO := xH (show decide (f2 c) = false from decide_eq_false fun h => by have := h.2.2.2.2.2; omega)
   have hd : decide (10000 < c.ops) = true := decide_eq_true h2
   clear h1 h2
   go_wp2_with fail
   go_meet
   case rel => exact ⟨by rw [xU HNO]; rfl, xU HS4⟩
  have hd2 : decide (10000 < c.ops) = false := decide_eq_false h2
  have HNO := xH (show decide (f2 c) = true from decide_eq_true ⟨xU G1, xU G2, xU G3, xU G4, by omega, by omega⟩)
  clear h1 h2
  go_wp2_with fail
  go_meet
  case rel => exact ⟨by rw [xU HNO]; rfl, xU HS4⟩
 case rest =>
  obtain ⟨rfl, hag⟩ := hcut
  have HS5 := xH hag
  clear hag HS1
  by_cases hf2 : f2 c
  case neg =>
   rw [decide_eq_false hf2]
   have HNO := xH (show decide (formS c) = false from decide_eq_false fun h => hf2 h.1)
   clear hf2
   go_wp2_with fail
   go_ret
   exact ⟨by rw [xU HNO]; rfl, (xU HS5).bel⟩
  rw [decide_eq_true hf2]
  simp only [Bool.not_true]
  have HF2 := xH hf2
  clear hf2
  go_upto_region 4 with fail
  go_cut [104] from 55 to 104 (fun x wx => x = .bool (! decide (f4 c)) ∧ Ag P w wx c A)
  case first =>
   have k6 := (xU HS5).k6; have k1 := (xU HS5).k1; have k10 := (xU HS5).k10; have k2 := (xU HS5).k2; have k16 := (xU HS5).k16; have k5 := (xU HS5).k5; have k8 := (xU HS5).k8; have k12 := (xU HS5).k12; have k14 := (xU HS5).k14; have k0 := (xU HS5).k0
   by_cases h1 : (c.hands.length : Int) = c.workers
   case neg =>
    have HNO := xH (show decide (f4 c) = false from decide_eq_false fun h => h1 h.1)
    have hd : ((c.hands.length : Int) != c.workers) = true := by first | (simp; omega) | simp_all
    clear h1
    go_wp2_with fail
    go_meet
    case rel => exact ⟨by rw [xU HNO]; rfl, xU HS5⟩
   have hd0 : ((c.hands.length : Int) != c.workers) = false := by first | (simp; omega) | simp_all
   have G0 := xH h1
   clear h1
   by_cases h1 : (c.ring.length : Int) = c.window
   case neg =>
    have HNO := xH (show decide (f4 c) = false from decide_eq_false fun h => h1 h.2.1)
    have hd : ((c.ring.length : Int) != c.window) = true := by first | (simp; omega) | simp_all
    clear h1
    go_wp2_with fail
    go_meet
    case rel => exact ⟨by rw [xU HNO]; rfl, xU HS5⟩
   have hd1 : ((c.ring.length : Int) != c.window) = false := by first | (simp; omega) | simp_all
   have G1 := xH h1
   clear h1
   by_cases h1 : c.shut.length = 4
   case neg =>
    have HNO := xH (show decide (f4 c) = false from decide_eq_false fun h => h1 h.2.2.1)
    have hd : (c.shut.length != 4) = true := by first | (simp; omega) | simp_all
    have hd' : ((c.shut.length : Int) != 4) = true := by first | (simp; omega) | simp_all
    clear h1
    go_wp2_with fail
    go_meet
    case rel => exact ⟨by rw [xU HNO]; rfl, xU HS5⟩
   have hd2 : (c.shut.length != 4) = false := by first | (simp; omega) | simp_all
   have hd2' : ((c.shut.length : Int) != 4) = false := by first | (simp; omega) | simp_all
   have G2 := xH h1
   clear h1
   by_cases h1 : (c.queue.length : Int) ≤ c.workers
   case neg =>
    have HNO := xH (show decide (f4 c) = false from decide_eq_false fun h => h1 h.2.2.2.1)
    have hd : decide (c.workers < (c.queue.length : Int)) = true := by first | (simp; omega) | simp_all
    clear h1
    go_wp2_with fail
    go_meet
    case rel => exact ⟨by rw [xU HNO]; rfl, xU HS5⟩
   have hd3 : decide (c.workers < (c.queue.length : Int)) = false := by first | (simp; omega) | simp_all
   have G3 := xH h1
   clear h1
   by_cases h1 : (c.results.length : Int) ≤ c.workers
   case neg =>
    have HNO := xH (show decide (f4 c) = false from decide_eq_false fun h => h1 h.2.2.2.2.1)
    have hd : decide (c.workers < (c.results.length : Int)) = true := by first | (simp; omega) | simp_all
    clear h1
    go_wp2_with fail
    go_meet
    case rel => exact ⟨by rw [xU HNO]; rfl, xU HS5⟩
   have hd4 : decide (c.workers < (c.results.length : Int)) = false := by first | (simp; omega) | simp_all
   have G4 := xH h1
   clear h1
   by_cases h1 : c.out.length ≤ 1
   case neg =>
    have HNO := xH (show decide (f4 c) = false from decide_eq_false fun h => h1 h.2.2.2.2.2.1)
    have hd : decide (1 < c.out.length) = true := by first | (simp; omega) | simp_all
    have hd' : decide (1 < (c.out.length : Int)) = true := by first | (simp; omega) | simp_all
    clear h1
    go_wp2_with fail
    go_meet
    case rel => exact ⟨by rw [xU HNO]; rfl, xU HS5⟩
   have hd5 : decide (1 < c.out.length) = false := by first | (simp; omega) | simp_all
   have hd5' : decide (1 < (c.out.length : Int)) = false := by first | (simp; omega) | simp_all
   have G5 := xH h1
   clear h1
   by_cases h1 : (c.got.length : Int) ≤ c.jobs
   case neg =>
    have HNO := xH (show decide (f4 c) = false from decide_eq_false fun h => h1 h.2.2.2.2.2.2)
    have hd : decide (c.jobs < (c.got.length : Int)) = true := by first | (simp; omega) | simp_all
    clear h1
    go_wp2_with fail
    go_meet
    case rel => exact ⟨by rw [xU HNO]; rfl, xU HS5⟩
   have hd6 : decide (c.jobs < (c.got.length : Int)) = false := by first | (simp; omega) | simp_all
   have G6 := xH h1
   clear h1
   have HNO := xH (show decide (f4 c) = true from decide_eq_true ⟨xU G0, xU G1, xU G2, xU G3, xU G4, xU G5, xU G6⟩)
   go_wp2_with fail
   go_meet
   case rel => exact ⟨by rw [xU HNO]; rfl, xU HS5⟩
  case rest =>
   obtain ⟨rfl, hag⟩ := hcut
   have HS6 := xH hag
   clear hag HS5
   by_cases hf4 : f4 c
   case neg =>
    rw [decide_eq_false hf4]
    have HNO := xH (show decide (formS c) = false from decide_eq_false fun h => hf4 h.2.1)
    clear hf4
    go_wp2_with fail
    go_ret
    exact ⟨by rw [xU HNO]; rfl, (xU HS6).bel⟩
   rw [decide_eq_true hf4]
   simp only [Bool.not_true]
   have HF4 := xH hf4
   have hsh := hf4.2.2.1
   clear hf4
   go_wp2_with fail
   go_loopw [5] (fun i wr => ∃ (k : Nat), k ≤ 4 ∧ i = .int .i64 k ∧ Hid (Ag P w wr c A) ∧ Hid (∀ j, (hj : j < c.shut.length) → j < k → 0 ≤ c.shut[j] ∧ c.shut[j] ≤ 1)) (fun i _ => 4 - (intOf i).toNat)
   case atStart => exact ⟨0, by omega, rfl, HS6, xH (fun j _ hj => absurd hj (by omega))⟩
   case round =>
    obtain ⟨k, hk, rfl, HS, HA⟩ := hrel
    by_cases hlt : k < 4
    · have k16 := HS.out.k16
      have hlt' : k < c.shut.length := by omega
      obtain ⟨b, o, ha, e0⟩ := HS.out.at_s k hlt'
      rw [ha, hsh] at k16
      clear ha
      have HNX := xH (show (0 ≤ c.shut[k] ∧ c.shut[k] ≤ 1) → ∀ j, (hj : j < c.shut.length) → j < k + 1 → 0 ≤ c.shut[j] ∧ c.shut[j] ≤ 1 from fun h j hj hjk => by
       by_cases e : j = k
       · subst e; exact h
       · exact HA.out j hj (by omega))
      have HBD := xH (show ¬ (0 ≤ c.shut[k] ∧ c.shut[k] ≤ 1) → decide (formS c) = false from fun h => decide_eq_false fun hf => h (hf.2.2.1 _ (List.getElem_mem hlt')))
      generalize c.shut[k] = z at e0 HNX HBD
      have HSH := xH hsh
      clear hsh
      go_wp2_with fail
      refine (xU HIN _ _ _ _).mono ?_
      rintro e w7 ⟨rfl, hb⟩
      have HS7 := xH (HS.out.on hb)
      clear hb k16 e0
      by_cases h1 : 0 ≤ z ∧ z ≤ 1
      · rw [decide_eq_true h1]
        have HN2 := xH (xU HNX h1)
        clear h1
        go_wp2_with fail
        go_roundw
        case rel => exact ⟨k + 1, by omega, by go_num, HS7, HN2⟩
        case measure => simp [intOf]; omega
      · rw [decide_eq_false h1]
        have HNO := xH (xU HBD h1)
        clear h1
        go_wp2_with fail
        go_ret
        exact ⟨by rw [xU HNO]; rfl, (xU HS7).bel⟩
    · obtain rfl : k = 4 := by omega
      have HSHUT := xH (show ∀ z ∈ c.shut, 0 ≤ z ∧ z ≤ 1 from fun z hz => by
       obtain ⟨j, hj, rfl⟩ := List.getElem_of_mem hz
       exact HA.out j hj (by omega))
      have HS8 := xH HS.out
      clear HA HS hsh
      go_wp2_with fail
      go_loopw [6] (fun i wr => ∃ (k : Nat), k ≤ c.hands.length ∧ i = .int .i64 k ∧ Hid (Ag P w wr c A) ∧ Hid (∀ j, (hj : j < c.hands.length) → j < k → handOk c.hands[j])) (fun i _ => c.hands.length - (intOf i).toNat)
      case atStart => exact ⟨0, by omega, rfl, HS8, xH (fun j _ hj => absurd hj (by omega))⟩
      case round =>
       obtain ⟨k, hk, rfl, HS, HA⟩ := hrel
       have k6 := HS.out.k6
       have hll := HS.out.len_h
       by_cases hlt : k < c.hands.length
       · obtain ⟨b, o, ha, e0, e1⟩ := HS.out.at_h k hlt
         rw [ha] at k6
         have HNX := xH (show handOk c.hands[k] → ∀ j, (hj : j < c.hands.length) → j < k + 1 → handOk c.hands[j] from fun h j hj hjk => by
          by_cases e : j = k
          · subst e; exact h
          · exact HA.out j hj (by omega))
         have HBD := xH (show ¬ handOk c.hands[k] → decide (formS c) = false from fun h => decide_eq_false fun hf => h (hf.2.2.2.1 _ (List.getElem_mem hlt)))
         generalize c.hands[k] = hd at e0 e1 HNX HBD
         obtain ⟨st, jb⟩ := hd
         simp only at e0 e1
         have HB := xH (fun (o : Obj) => (Below.refl wr.heap.size wr).alloc (Nat.le_refl _) o)
         clear ha
         go_upto_region 15 with fail
         have hag0 := HS.out.on (xU HB (.cells #[.int .i64 st, .int .i64 jb] 73))
         have hr2 := World.rowIs_alloc wr #[.int .i64 st, .int .i64 jb] 73 (r18 [.int .i64 st, .int .i64 jb]) (fun i hi => by
          have hi' : i < 2 := hi
          rcases (show i = 0 ∨ i = 1 by omega) with rfl | rfl <;> rfl)
         have hrow : (wr.alloc (.cells #[.int .i64 st, .int .i64 jb] 73)).cell? ⟨wr.heap.size, 0, none⟩ = some (.int .i64 st) ∧ (wr.alloc (.cells #[.int .i64 st, .int .i64 jb] 73)).cell? ⟨wr.heap.size, 1, none⟩ = some (.int .i64 jb) := ⟨hr2.cell (i := 0) (show 0 < 2 by omega), hr2.cell (i := 1) (show 1 < 2 by omega)⟩
         clear hr2
         have hlz : wr.heap.size < (wr.alloc (.cells #[.int .i64 st, .int .i64 jb] 73)).heap.size := by simp
         clear HS HB k6 e0 e1
         generalize wr.alloc (.cells #[.int .i64 st, .int .i64 jb] 73) = WB at hag0 hrow hlz ⊢
         generalize wr.heap.size = SB at hrow hlz ⊢
         obtain ⟨y0, y1⟩ := hrow
         have HAG := xH hag0
         clear hag0
         go_cut [8] from 128 to 135 (fun x wx => x = .bool (busyH ⟨st, jb⟩) ∧ wx = WB)
         case first =>
          by_cases s1 : st = 1
          · have q1 : (st == 1) = true := by simp [s1]
            have HV := xH (show busyH ⟨st, jb⟩ = true from by simp [busyH, s1])
            clear s1
            go_wp2_with fail
            go_meet
            case rel => exact ⟨by rw [xU HV], rfl⟩
          · have q1 : (st == 1) = false := by simp [s1]
            have HV := xH (show busyH ⟨st, jb⟩ = (st == 2) from by simp [busyH, s1])
            clear s1
            go_wp2_with fail
            go_meet
            case rel => exact ⟨by rw [xU HV], rfl⟩
         case rest =>
          obtain ⟨rfl, rfl⟩ := hcut
          go_upto_region 16 with fail
          go_cut [8, 148] from 136 to 148 (fun _ x wx => x = .bool (! decide (handOk ⟨st, jb⟩)) ∧ Ag P w wx c A)
          case first =>
           have HOK := xH (show handOk ⟨st, jb⟩ ↔ (0 ≤ st ∧ st ≤ 3) ∧ (busyH ⟨st, jb⟩ = false → jb = 0) from Iff.rfl)
           generalize busyH ⟨st, jb⟩ = bz at HOK ⊢
           go_wp2_with fail
           refine (xU HIN _ _ _ _).mono ?_
           rintro e w9 ⟨rfl, hb9⟩
           have y1' : w9.cell? ⟨SB, 1, none⟩ = some (.int .i64 jb) := (World.cell?_of_block (a := ⟨SB, 1, none⟩) (hb9.block SB hlz)).trans y1
           have HAG9 := xH ((xU HAG).on hb9)
           clear hb9 y0 y1 HAG hlz
           by_cases h1 : 0 ≤ st ∧ st ≤ 3
           case neg =>
            have HV := xH (show decide (handOk ⟨st, jb⟩) = false from decide_eq_false fun h => h1 ((xU HOK).1 h).1)
            rw [decide_eq_false h1]
            clear h1
            go_wp2_with fail
            go_meet
            case rel => exact ⟨by rw [xU HV]; rfl, xU HAG9⟩
           rw [decide_eq_true h1]
           have G1 := xH h1
           clear h1
           cases bz with
           | true =>
             have HV := xH (show decide (handOk ⟨st, jb⟩) = true from decide_eq_true ((xU HOK).2 ⟨xU G1, fun h => by cases h⟩))
             go_wp2_with fail
             go_meet
             case rel => exact ⟨by rw [xU HV]; rfl, xU HAG9⟩
           | false =>
             have HV := xH (show (! decide (handOk ⟨st, jb⟩)) = (jb != 0) from by
              by_cases e : jb = 0
              · rw [decide_eq_true ((xU HOK).2 ⟨xU G1, fun _ => e⟩)]; simp [e]
              · rw [decide_eq_false (fun h => e (((xU HOK).1 h).2 rfl))]; simp [e])
             go_wp2_with fail
             go_meet
             case rel => exact ⟨by rw [xU HV], xU HAG9⟩
          case rest =>
           obtain ⟨rfl, hag⟩ := hcut
           have HSN := xH hag
           clear hag y0 y1 HAG hlz
           by_cases hok : handOk ⟨st, jb⟩
           · rw [decide_eq_true hok]
             have HN2 := xH (xU HNX hok)
             clear hok
             go_wp2_with fail
             go_roundw
             case rel => exact ⟨k + 1, by omega, by go_num, HSN, HN2⟩
             case measure => simp [intOf]; omega
           · rw [decide_eq_false hok]
             have HNO := xH (xU HBD hok)
             clear hok
             go_wp2_with fail
             go_ret
             exact ⟨by rw [xU HNO]; rfl, (xU HSN).bel⟩
       · obtain rfl : k = c.hands.length := by omega
         have HFE := xH (show decide (formS c) = decide (fE c) from decide_eq_decide.2 ⟨fun h => h.2.2.2.2, fun h => ⟨xU HF2, xU HF4, xU HSHUT, fun x hx => by
          obtain ⟨j, hj, rfl⟩ := List.getElem_of_mem hx
          exact HA.out j hj hj, h⟩⟩)
         have HS9 := xH HS.out
         clear HS HA
         go_upto_region 18 with fail
         have k4 := (xU HS9).k4
         go_wp2_with fail
         refine (xU HIN _ _ _ _).mono ?_
         rintro e wa ⟨rfl, hb⟩
         have HSa := xH ((xU HS9).on hb)
         clear hb HS9 k4
         by_cases h1 : 0 ≤ c.reader ∧ c.reader ≤ 3
         case neg =>
          rw [decide_eq_false h1]
          have HNO := xH (show decide (fE c) = false from decide_eq_false fun h => h1 h.1)
          clear h1
          go_wp2_with fail
          go_ret
          exact ⟨by rw [xU HFE, xU HNO]; rfl, (xU HSa).bel⟩
         rw [decide_eq_true h1]
         have G1 := xH h1
         clear h1
         have k7 := (xU HSa).k7
         go_wp2_with fail
         refine (xU HIN _ _ _ _).mono ?_
         rintro e wb ⟨rfl, hb⟩
         have HSb := xH ((xU HSa).on hb)
         clear hb HSa k7
         by_cases h1 : 0 ≤ c.closer ∧ c.closer ≤ 1
         case neg =>
          rw [decide_eq_false h1]
          have HNO := xH (show decide (fE c) = false from decide_eq_false fun h => h1 h.2.1)
          clear h1
          go_wp2_with fail
          go_ret
          exact ⟨by rw [xU HFE, xU HNO]; rfl, (xU HSb).bel⟩
         rw [decide_eq_true h1]
         have G2 := xH h1
         clear h1
         have k9 := (xU HSb).k9
         go_wp2_with fail
         refine (xU HIN _ _ _ _).mono ?_
         rintro e wd ⟨rfl, hb⟩
         have HSd := xH ((xU HSb).on hb)
         clear hb HSb k9
         by_cases h1 : 0 ≤ c.keeper ∧ c.keeper ≤ 5
         case neg =>
          rw [decide_eq_false h1]
          have HNO := xH (show decide (fE c) = false from decide_eq_false fun h => h1 h.2.2.1)
          clear h1
          go_wp2_with fail
          go_ret
          exact ⟨by rw [xU HFE, xU HNO]; rfl, (xU HSd).bel⟩
         rw [decide_eq_true h1]
         have G3 := xH h1
         clear h1
         have k13 := (xU HSd).k13
         go_wp2_with fail
         refine (xU HIN _ _ _ _).mono ?_
         rintro e wf ⟨rfl, hb⟩
         have HSf := xH ((xU HSd).on hb)
         clear hb HSd k13
         have HNO := xH (show decide (fE c) = decide (0 ≤ c.user ∧ c.user ≤ 1) from decide_eq_decide.2 ⟨fun h => h.2.2.2, fun h => ⟨xU G1, xU G2, xU G3, h⟩⟩)
         generalize decide (0 ≤ c.user ∧ c.user ≤ 1) = bu at HNO ⊢
         go_wp2_with fail
         go_ret
         exact ⟨by rw [xU HFE, xU HNO]; rfl, (xU HSf).bel⟩

def rg1 (n : Nat) (z : Int) (k : Nat) : List Int := if z = -1 then [] else if z.tmod (n : Int) = (k : Int) then [z] else [-1]
def rgL (n : Nat) (l : List Int) : List Int := l.zipIdx.flatMap (fun p => rg1 n p.1 p.2)
theorem rgL_take (n : Nat) (l : List Int) (k : Nat) (hk : k < l.length) : rgL n (l.take (k + 1)) = rgL n (l.take k) ++ rg1 n l[k] k := by
 unfold rgL
 rw [List.take_succ_eq_append_getElem hk, List.zipIdx_append, List.flatMap_append]
 simp only [List.zipIdx_cons, List.zipIdx_nil, List.flatMap_cons, List.flatMap_nil, List.append_nil, List.length_take, Nat.zero_add]
 rw [Nat.min_eq_left (Nat.le_of_lt hk)]
theorem rg1_len (n : Nat) (z : Int) (k : Nat) : (rg1 n z k).length ≤ 1 := by unfold rg1; split; · simp
                                                                             split <;> simp
theorem rgL_len (n : Nat) (l : List Int) : (rgL n l).length ≤ l.length := by
 have : ∀ m, m ≤ l.length → (rgL n (l.take m)).length ≤ m := fun m => by
  induction m with
  | zero => intro _; simp [rgL]
  | succ m ih =>
    intro hm
    rw [rgL_take n l m (by omega), List.length_append]
    have := ih (by omega); have := rg1_len n (l[m]'(by omega)) m
    omega
 have := this l.length (Nat.le_refl _)
 rwa [List.take_length] at this
def underL (c : Cw) : List Int := c.queue ++ c.results ++ rd1 c ++ ((c.hands.filter busyH).map Hd.job) ++ rgL c.ring.length c.ring
theorem rgL_mem {n : Nat} {l : List Int} {z : Int} : z ∈ rgL n l ↔ ∃ i, ∃ h : i < l.length, z ∈ rg1 n l[i] i := by
 unfold rgL
 simp only [List.mem_flatMap, Prod.exists, List.mem_zipIdx_iff_getElem?]
 constructor
 · rintro ⟨a, b, h1, h2⟩
   obtain ⟨hb, rfl⟩ := List.getElem?_eq_some_iff.1 h1
   exact ⟨b, hb, h2⟩
 · rintro ⟨i, h, h2⟩
   exact ⟨l[i], i, List.getElem?_eq_some_iff.2 ⟨h, rfl⟩, h2⟩
theorem rg_yes {c : Cw} (hw : (c.ring.length : Int) = c.window) (h : jR c) : rgL c.ring.length c.ring = c.ring.filter (fun z => decide (0 ≤ z)) := by
 have : ∀ m, m ≤ c.ring.length → rgL c.ring.length (c.ring.take m) = (c.ring.take m).filter (fun z => decide (0 ≤ z)) := fun m => by
  induction m with
  | zero => intro _; simp [rgL]
  | succ m ih =>
    intro hm
    rw [rgL_take _ _ m (by omega), ih (by omega), List.take_succ_eq_append_getElem (by omega : m < c.ring.length), List.filter_append]
    congr 1
    obtain ⟨h1, h2⟩ := h m (by omega)
    unfold rg1
    by_cases e : c.ring[m] = -1
    · simp [e]
    · have h0 : 0 ≤ c.ring[m] := by omega
      rw [if_neg e, hw, if_pos (h2 h0)]
      simp [h0]
 have := this c.ring.length (Nat.le_refl _)
 rwa [List.take_length] at this
theorem rg_back {c : Cw} (hw : (c.ring.length : Int) = c.window) (h : ∀ z ∈ rgL c.ring.length c.ring, 0 ≤ z) : jR c := by
 intro i hi
 have hz : ∀ z ∈ rg1 c.ring.length c.ring[i] i, 0 ≤ z := fun z hz => h z (rgL_mem.2 ⟨i, hi, hz⟩)
 unfold rg1 at hz
 by_cases e : c.ring[i] = -1
 · exact ⟨by omega, fun h0 => by omega⟩
 · rw [if_neg e] at hz
   by_cases e2 : c.ring[i].tmod (c.ring.length : Int) = (i : Int)
   · rw [if_pos e2] at hz
     have := hz _ (List.mem_singleton.2 rfl)
     exact ⟨by omega, fun _ => by rw [← hw]; exact e2⟩
   · rw [if_neg e2] at hz
     have := hz _ (List.mem_singleton.2 rfl)
     omega
theorem under_perm {c : Cw} (hw : (c.ring.length : Int) = c.window) (h : jR c) : (underL c).Perm (placesL c) := by
 unfold underL placesL
 rw [rg_yes hw h]
 rw [List.perm_iff_count]
 intro a
 have : rd1 c = if c.reader = 1 then [c.next - 1] else [] := rfl
 rw [this]
 simp only [List.count_append]
 omega
theorem jA_mem {c : Cw} {l : List Int} : jA c l ↔ ∀ z ∈ l, c.due ≤ z ∧ z ≤ c.next - 1 := by
 unfold jA
 constructor
 · intro h z hz
   obtain ⟨i, hi, rfl⟩ := List.mem_iff_getElem.1 hz
   exact h i hi
 · intro h i hi
   exact h _ (List.getElem_mem hi)
theorem jD_nodup {l : List Int} : jD l ↔ l.Nodup := by
 unfold jD List.Nodup
 rw [List.pairwise_iff_getElem]
 constructor
 · intro h i j hi hj hlt e
   exact h j i hj hlt e.symm
 · intro h i j hi hj e
   exact h j i (by omega) hi hj e.symm
def jobsP (c : Cw) : Prop := jA c (underL c) ∧ jD (underL c) ∧ (0 < shZ c 3 ∨ ((underL c).length : Int) = c.next - c.due)
def givP (c : Cw) : Prop := (∀ i, (h : i < (c.got ++ c.out).length) → (c.got ++ c.out)[i] = i) ∧ c.room + (c.next - c.due + backZ c) = c.ring.length
def clsB (c : Cw) : Bool := (decide (0 < shZ c 0) == decide (c.reader = 3)) && (decide (0 < shZ c 1) == decide (c.closer = 1)) && (decide (0 < shZ c 2) == decide (c.keeper = 5))
def endB (c : Cw) : Bool := !(decide (c.closer = 1) && !allE c.hands) && (if 0 < shZ c 3 then decide (c.user = 1) else
 (decide (c.reader < 2) || decide (c.next = c.jobs)) && (!anyE c.hands || decide (c.reader = 3) && decide (c.queue.length = 0)) &&
 (decide (c.keeper < 4) || decide (c.closer = 1) && decide (c.results.length = 0)) && (!decide (c.user = 1) || decide (c.keeper = 5) && decide (c.out.length = 0)))
def sumP (gs : List Int) : Int := (gs.map (fun z => if z = -1 then (0 : Int) else 4)).sum
def leftP (c : Cw) : Int := 11 * (c.jobs - c.next) + 9 * c.queue.length + 6 * c.results.length + c.out.length + sumH c.hands + sumP c.ring + (if c.closer = 0 then 1 else 0) + (if c.user = 0 then 1 else 0) + rdL c.reader + kpL c.keeper
theorem sumP_bound : ∀ (gs : List Int), 0 ≤ sumP gs ∧ sumP gs ≤ 4 * gs.length
 | [] => by simp [sumP]
 | h :: r => by
     have := sumP_bound r
     simp only [sumP, List.map_cons, List.sum_cons, List.length_cons] at *
     split <;> omega
theorem sumP_take (gs : List Int) (k : Nat) (hk : k < gs.length) : sumP (gs.take (k + 1)) = sumP (gs.take k) + (if gs[k] = -1 then 0 else 4) := by
 rw [List.take_succ_eq_append_getElem hk]
 unfold sumP
 rw [List.map_append, List.sum_append]
 simp only [List.map_cons, List.map_nil, List.sum_cons, List.sum_nil, Int.add_zero]
def okP (c : Cw) : Prop := jobsP c ∧ givP c ∧ clsB c = true ∧ endB c = true ∧ eK c = true ∧ c.ops + leftP c ≤ 11 * c.jobs + c.hands.length + 7
def bndP (c : Cw) : Prop := Form c ∧ ((c.got.length : Int) + (c.out.length : Int) = c.due)
theorem sumP_eq {c : Cw} (h : jR c) : sumP c.ring = sumG c.ring := by
 unfold sumP sumG
 congr 1
 refine List.map_congr_left fun z hz => ?_
 obtain ⟨i, hi, rfl⟩ := List.mem_iff_getElem.1 hz
 have := (h i hi).1
 by_cases e : c.ring[i] = -1
 · rw [if_pos e, if_neg (by omega)]
 · rw [if_neg e, if_pos (by omega)]
theorem left_eq {c : Cw} (hF : Form c) (h : jR c) : leftP c = leftZ c := by
 unfold leftP leftZ
 rw [sumP_eq h]
 have h1 := hF.closer; have h2 := hF.user
 have a1 : (if c.closer = 0 then (1 : Int) else 0) = 1 - c.closer := by split <;> omega
 have a2 : (if c.user = 0 then (1 : Int) else 0) = 1 - c.user := by split <;> omega
 rw [a1, a2]
 omega
theorem jobsP_ring {c : Cw} (hF : Form c) (h : jobsP c) : jR c := by
 refine rg_back hF.ring fun z hz => ?_
 have := jA_mem.1 h.1 z (by unfold underL; exact List.mem_append_right _ hz)
 have := hF.due
 omega
theorem shut_at {c : Cw} (hF : Form c) (i : Nat) (hi : i < 4) : 0 ≤ shZ c i ∧ shZ c i ≤ 1 := by
 have hl := hF.shut
 unfold shZ
 rw [List.getD_eq_getElem?_getD, List.getElem?_eq_getElem (by omega)]
 exact hF.shuts _ (List.getElem_mem _)
theorem jobs_iff {c : Cw} (hF : Form c) : jobsP c ↔ jA c (placesL c) ∧ jD (placesL c) ∧ jN c (placesL c) ∧ jR c := by
 have hs := shut_at hF 3 (by omega)
 have hN : ∀ l : List Int, (0 < shZ c 3 ∨ (l.length : Int) = c.next - c.due) ↔ jN c l := fun l => by
  unfold jN
  have : c.shut.getD 3 0 = shZ c 3 := rfl
  rw [this]
  constructor
  · rintro (h | h) h0
    · omega
    · exact h
  · intro h
    by_cases e : shZ c 3 = 0
    · exact Or.inr (h e)
    · exact Or.inl (by omega)
 constructor
 · intro h
   have hr := jobsP_ring hF h
   have hp := under_perm hF.ring hr
   obtain ⟨h1, h2, h3⟩ := h
   refine ⟨jA_mem.2 fun z hz => jA_mem.1 h1 z (hp.mem_iff.2 hz), jD_nodup.2 (hp.nodup_iff.1 (jD_nodup.1 h2)), ?_, hr⟩
   rw [hN, jN, hp.length_eq] at h3
   exact h3
 · rintro ⟨h1, h2, h3, hr⟩
   have hp := under_perm hF.ring hr
   refine ⟨jA_mem.2 fun z hz => jA_mem.1 h1 z (hp.mem_iff.1 hz), jD_nodup.2 (hp.nodup_iff.2 (jD_nodup.1 h2)), ?_⟩
   rw [hN, jN, hp.length_eq]
   exact h3
theorem giv_iff {c : Cw} (hF : Form c) (hd : (c.got.length : Int) + (c.out.length : Int) = c.due) : givP c ↔ jG c ∧ jT c := by
 have ho := hF.out
 have hw := hF.ring
 unfold givP jG jT
 constructor
 · rintro ⟨h1, h2⟩
   refine ⟨fun i hi => ?_, by omega, ?_, by omega⟩
   · have := h1 i (by rw [List.length_append]; omega)
     rw [List.getElem_append_left hi] at this
     exact this
   · rcases Nat.eq_zero_or_pos c.out.length with h | h
     · exact Or.inl h
     · right
       have := h1 c.got.length (by rw [List.length_append]; omega)
       rw [List.getElem_append_right (Nat.le_refl _)] at this
       simp only [Nat.sub_self] at this
       rw [List.getD_eq_getElem?_getD, List.getElem?_eq_getElem h]
       exact this
 · rintro ⟨h1, h2, h3, h4⟩
   refine ⟨fun i hi => ?_, by omega⟩
   rw [List.length_append] at hi
   by_cases e : i < c.got.length
   · rw [List.getElem_append_left e]
     exact h1 i e
   · obtain rfl : i = c.got.length := by omega
     rw [List.getElem_append_right (Nat.le_refl _)]
     simp only [Nat.sub_self]
     rcases h3 with h3 | h3
     · omega
     · rw [List.getD_eq_getElem?_getD, List.getElem?_eq_getElem (by omega)] at h3
       exact h3
theorem cls_eq {c : Cw} (hF : Form c) : clsB c = (!e1 c && !e2 c && !e3 c) := by
 have h0 := shut_at hF 0 (by omega); have h1 := shut_at hF 1 (by omega); have h2 := shut_at hF 2 (by omega)
 have a0 : decide (0 < shZ c 0) = decide (shZ c 0 = 1) := decide_eq_decide.2 (by omega)
 have a1 : decide (0 < shZ c 1) = decide (shZ c 1 = 1) := decide_eq_decide.2 (by omega)
 have a2 : decide (0 < shZ c 2) = decide (shZ c 2 = 1) := decide_eq_decide.2 (by omega)
 unfold clsB e1 e2 e3
 rw [a0, a1, a2]
 simp only [bne, Bool.not_not]
theorem end_eq {c : Cw} (hF : Form c) : endB c = (!e4 c && !e5 c && !e6 c && !e7 c && !e8 c && !e9 c) := by
 have h3 := shut_at hF 3 (by omega)
 have hk := hF.keeper
 unfold endB e4 e5 e6 e7 e8 e9 stpB dnB
 have q1 : decide (c.reader < 2) = !decide (2 ≤ c.reader) := by by_cases e : c.reader < 2 <;> simp [e] <;> omega
 have q2 : decide (c.keeper < 4) = !decide (c.keeper = 4 ∨ c.keeper = 5) := by by_cases e : c.keeper < 4 <;> simp [e] <;> omega
 have z1 : decide (c.queue.length = 0) = !decide (0 < c.queue.length) := by by_cases e : c.queue.length = 0 <;> simp [e] <;> omega
 have z2 : decide (c.results.length = 0) = !decide (0 < c.results.length) := by by_cases e : c.results.length = 0 <;> simp [e] <;> omega
 have z3 : decide (c.out.length = 0) = !decide (0 < c.out.length) := by by_cases e : c.out.length = 0 <;> simp [e] <;> omega
 rw [q1, q2, z1, z2, z3]
 by_cases e : shZ c 3 = 1
 · rw [if_pos (by omega), decide_eq_true e]
   generalize decide (c.closer = 1) = b1; generalize allE c.hands = b2; generalize decide (c.user = 1) = b3
   cases b1 <;> cases b2 <;> cases b3 <;> rfl
 · rw [if_neg (by omega), decide_eq_false e]
   generalize decide (c.closer = 1) = b1; generalize allE c.hands = b2; generalize decide (c.user = 1) = b3; generalize decide (2 ≤ c.reader) = b4; generalize decide (c.next = c.jobs) = b5; generalize anyE c.hands = b6; generalize decide (c.reader = 3) = b7; generalize decide (0 < c.queue.length) = b8; generalize decide (c.keeper = 4 ∨ c.keeper = 5) = b9; generalize decide (0 < c.results.length) = b10; generalize decide (c.keeper = 5) = b11; generalize decide (0 < c.out.length) = b12
   revert b1 b2 b3 b4 b5 b6 b7 b8 b9 b10 b11 b12
   decide
def okS (c : Cw) : Prop := formS c ∧ jobsS c ∧ endsB c = true ∧ c.ops + leftZ c ≤ 11 * c.jobs + c.workers + 7
theorem ok_iff (c : Cw) : okS c ↔ bndP c ∧ okP c := by
 constructor
 · rintro ⟨hf, ⟨j1, j2, j3, j4, j5, j6⟩, he, hl⟩
   have hF := ((formS_iff c).1 hf).1
   have hd : (c.got.length : Int) + (c.out.length : Int) = c.due := by have := j6.1; omega
   have hh := hF.hands
   refine ⟨⟨hF, hd⟩, (jobs_iff hF).2 ⟨j1, j2, j3, j4⟩, (giv_iff hF hd).2 ⟨j5, j6⟩, ?_, ?_, ?_, ?_⟩
   · rw [cls_eq hF]; unfold endsB at he; simp only [Bool.and_eq_true] at he ⊢; exact ⟨⟨he.1.1.1.1.1.1.1.1.1, he.1.1.1.1.1.1.1.1.2⟩, he.1.1.1.1.1.1.1.2⟩
   · rw [end_eq hF]; unfold endsB at he; simp only [Bool.and_eq_true] at he ⊢; exact ⟨⟨⟨⟨⟨he.1.1.1.1.1.1.2, he.1.1.1.1.1.2⟩, he.1.1.1.1.2⟩, he.1.1.1.2⟩, he.1.1.2⟩, he.1.2⟩
   · unfold endsB at he; simp only [Bool.and_eq_true] at he; exact he.2
   · rw [left_eq hF j4]; omega
 · rintro ⟨⟨hF, hd⟩, hj, hg, hc, he, hk, hl⟩
   obtain ⟨j1, j2, j3, j4⟩ := (jobs_iff hF).1 hj
   obtain ⟨j5, j6⟩ := (giv_iff hF hd).1 hg
   have hh := hF.hands
   refine ⟨(formS_iff c).2 ⟨hF, ?_⟩, ⟨j1, j2, j3, j4, j5, j6⟩, ?_, ?_⟩
   · have := hF.due; have := hF.next; omega
   · rw [cls_eq hF] at hc; rw [end_eq hF] at he
     unfold endsB; simp only [Bool.and_eq_true] at hc he ⊢
     exact ⟨⟨⟨⟨⟨⟨⟨⟨⟨hc.1.1, hc.1.2⟩, hc.2⟩, he.1.1.1.1.1⟩, he.1.1.1.1.2⟩, he.1.1.1.2⟩, he.1.1.2⟩, he.1.2⟩, he.2⟩, hk⟩
   · rw [left_eq hF j4] at hl; omega
theorem left_bound {c : Cw} (hF : Form c) : 0 ≤ leftZ c ∧ leftZ c ≤ 5000 := by
 obtain ⟨s1, s2, s3, s4, s5, s6, s7, s8⟩ := hF.small
 have := hF.next; have := hF.out; have := hF.closer; have := hF.user
 have := rdL_bound c.reader; have := kpL_bound c.keeper; have := sumH_bound c.hands; have := sumG_bound c.ring
 unfold leftZ
 omega
end Go.Proofs.YtibgjcejddpldaaGreat
