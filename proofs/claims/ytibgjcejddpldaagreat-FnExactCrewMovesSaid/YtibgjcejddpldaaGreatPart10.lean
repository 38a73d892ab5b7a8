/- The walk of the specification's l51Form. No conditions. -/
import Derived.Test.YtibgjcejddpldaaGreatPart07
import Derived.Test.YtibgjcejddpldaaGreatPart06
import Derived.Test.YtibgjcejddpldaaGreatPart00
import Derived.Deep.CutRange
import Derived.Handy
namespace Go.Proofs.YtibgjcejddpldaaGreat
open Go Go.RowKit

theorem specCrewStart_all (j k n : Int) (w : World) : Calls Tryz.prog 90 #[.int .i64 j, .int .i64 k, .int .i64 n] w fun e w' => CwEnd w w' e (stCw j k n) (decide (stOk j k n)) := by
  by_cases hok : stOk j k n
  · obtain ⟨k', rfl⟩ : ∃ m : Nat, k = m := ⟨k.toNat, by have := hok.2.1.1; omega⟩
    obtain ⟨n', rfl⟩ : ∃ m : Nat, n = m := ⟨n.toNat, by have := hok.2.2.1; omega⟩
    exact specCrewStart_yes j k' n' w hok
  · exact specCrewStart_no j k n w hok
def f2 (c : Cw) : Prop := stOk c.jobs c.workers c.window ∧ (0 ≤ c.next ∧ c.next ≤ c.jobs) ∧ (0 ≤ c.due ∧ c.due ≤ c.next) ∧ (0 ≤ c.room ∧ c.room ≤ c.window) ∧ (0 ≤ c.ops ∧ c.ops ≤ 10000)
instance (c : Cw) : Decidable (f2 c) := by unfold f2; infer_instance
def f4 (c : Cw) : Prop := (c.hands.length : Int) = c.workers ∧ (c.ring.length : Int) = c.window ∧ c.shut.length = 4 ∧ (c.queue.length : Int) ≤ c.workers ∧ (c.results.length : Int) ≤ c.workers ∧ c.out.length ≤ 1 ∧ (c.got.length : Int) ≤ c.jobs
instance (c : Cw) : Decidable (f4 c) := by unfold f4; infer_instance
def fE (c : Cw) : Prop := (0 ≤ c.reader ∧ c.reader ≤ 3) ∧ (0 ≤ c.closer ∧ c.closer ≤ 1) ∧ (0 ≤ c.keeper ∧ c.keeper ≤ 5) ∧ (0 ≤ c.user ∧ c.user ≤ 1)
instance (c : Cw) : Decidable (fE c) := by unfold fE; infer_instance
instance (h : Hd) : Decidable (handOk h) := by unfold handOk; infer_instance
/-- The specification's form: the bounds, and no more given than there are jobs. -/
def formS (c : Cw) : Prop := f2 c ∧ f4 c ∧ (∀ z ∈ c.shut, 0 ≤ z ∧ z ≤ 1) ∧ (∀ h ∈ c.hands, handOk h) ∧ fE c
instance (c : Cw) : Decidable (formS c) := by unfold formS; infer_instance
theorem formS_iff (c : Cw) : formS c ↔ Form c ∧ (c.got.length : Int) ≤ c.jobs := by
  constructor
  · rintro ⟨⟨a1, a2, a3, a4, a5⟩, ⟨b1, b2, b3, b4, b5, b6, b7⟩, d1, d2, ⟨g1, g2, g3, g4⟩⟩
    exact ⟨⟨a1, a2, a3, a4, a5, b1, b2, b3, b4, b5, b6, d1, d2, g1, g2, g3, g4⟩, b7⟩
  · rintro ⟨⟨a1, a2, a3, a4, a5, b1, b2, b3, b4, b5, b6, d1, d2, g1, g2, g3, g4⟩, b7⟩
    exact ⟨⟨a1, a2, a3, a4, a5⟩, ⟨b1, b2, b3, b4, b5, b6, b7⟩, d1, d2, ⟨g1, g2, g3, g4⟩⟩
set_option maxRecDepth 100000 in
set_option maxHeartbeats 6400000 in
theorem l51Form_any (c : Cw) (A : A7) (P : Nat → Prop) (w : World) (h : CwAt P w c (A.v c)) (hP : ∀ b, P b → b < w.heap.size) : Calls Tryz.prog 64 #[.agg #[.int .i64 c.jobs, .int .i64 c.workers, .int .i64 c.window, .int .i64 c.next, .int .i64 c.reader, .slice A.q c.queue.length A.pq, .slice A.h c.hands.length A.ph, .int .i64 c.closer, .slice A.r c.results.length A.pr, .int .i64 c.keeper, .slice A.g c.ring.length A.pg, .int .i64 c.due, .slice A.o c.out.length A.po, .int .i64 c.user, .slice A.t c.got.length A.pt, .int .i64 c.room, .slice A.s c.shut.length A.ps, .int .i64 c.ops]] w fun e w' => e = .returned (.bool (decide (formS c))) ∧ Below w.heap.size w w' := by
  have HS := hide (Ag.start h hP)
  have HIN := hide (fun z lo hi W => frInS z lo hi W)
  have HST := hide (fun W => specCrewStart_all c.jobs c.workers c.window W)
  clear h hP
  go_enter Tryz.func64, Tryz.ntmps64
  go_upto_region 1 with fail
  generalize w.alloc (.cells #[.int .i64 c.jobs, .int .i64 c.workers, .int .i64 c.window, .int .i64 c.next, .int .i64 c.reader, .slice A.q c.queue.length A.pq, .slice A.h c.hands.length A.ph, .int .i64 c.closer, .slice A.r c.results.length A.pr, .int .i64 c.keeper, .slice A.g c.ring.length A.pg, .int .i64 c.due, .slice A.o c.out.length A.po, .int .i64 c.user, .slice A.t c.got.length A.pt, .int .i64 c.room, .slice A.s c.shut.length A.ps, .int .i64 c.ops] 26) = W0 at HS ⊢
  have k0 := (unhide HS).k0; have k1 := (unhide HS).k1; have k2 := (unhide HS).k2
  refine wp_region_list ?_
  refine wpList_plain rfl (fun K hK => ?_); go_simp; refine hK _ _ ?_; clear hK K
  refine wpList_plain rfl (fun K hK => ?_); go_simp; refine hK _ _ ?_; clear hK K
  refine wpList_plain rfl (fun K hK => ?_); go_simp; refine hK _ _ ?_; clear hK K
  refine wpList_plain rfl (fun K hK => ?_); go_simp; refine hK _ _ ?_; clear hK K
  refine wpList_plain rfl (fun K hK => ?_); go_simp; refine hK _ _ ?_; clear hK K
  refine wpList_plain rfl (fun K hK => ?_); go_simp; refine hK _ _ ?_; clear hK K
  refine wpList_plain rfl (fun K hK => ?_)
  go_simp
  refine (unhide HST W0).mono ?_
  rintro e w1 ⟨v, Fq, Fh, Fr, Fg, Fo, Ft, Fs, rfl, hown, hdj, hrng, hb⟩
  refine hK _ _ ?_
  clear hK K k0 k1 k2
  obtain ⟨hbx, hbb⟩ := Bx.new hown hdj hrng hb
  have hon := cw_oneB hown
  clear hown hdj hrng hb
  generalize stCw c.jobs c.workers c.window = d at hbx hbb hon ⊢
  refine wpList_plain rfl (fun K hK => ?_); go_simp; refine hK _ _ ?_; clear hK K
  refine wpList_plain rfl (fun K hK => ?_); go_simp; refine hK _ _ ?_; clear hK K
  refine wpList_plain rfl (fun K hK => ?_); go_simp; refine hK _ _ ?_; clear hK K
  refine wpList_plain rfl (fun K hK => ?_); go_simp; refine hK _ _ ?_; clear hK K
  refine wpList_store_mid rfl _ _ _ rfl w1.heap.size 0 #[.int .i64 d.jobs, .int .i64 d.workers, .int .i64 d.window, .int .i64 d.next, .int .i64 d.reader, v.q, v.h, .int .i64 d.closer, v.r, .int .i64 d.keeper, v.g, .int .i64 d.due, v.o, .int .i64 d.user, v.t, .int .i64 d.room, v.s, .int .i64 d.ops] rfl rfl Bx.there info18 hon ?_
  have HS1 := hide ((unhide HS).on hbb)
  clear hon HS hbx hbb HST
  generalize (w1.alloc _).setCells _ 0 _ = W1 at HS1 ⊢
  generalize w1.heap.size = S1
  go_upto_region 2 with fail
  go_cut [4, 9, 16, 18, 54] from 19 to 54 (fun _ _ _ _ x wx => x = .bool (! decide (f2 c)) ∧ Ag P w wx c A)
  case first =>
    by_cases h1 : stOk c.jobs c.workers c.window
    case neg =>
      rw [decide_eq_false h1]
      have HNO := hide (show decide (f2 c) = false from decide_eq_false fun h => h1 h.1)
      clear h1
      go_wp2_with fail
      go_meet
      case rel => exact ⟨by rw [unhide HNO]; rfl, unhide HS1⟩
    rw [decide_eq_true h1]
    have G1 := hide h1
    clear h1
    have k3 := (unhide HS1).k3; have k0 := (unhide HS1).k0
    go_wp2_with fail
    refine (unhide HIN _ _ _ _).mono ?_
    rintro e w1' ⟨rfl, hb⟩
    have HS2 := hide ((unhide HS1).on hb)
    clear hb HS1 k3 k0
    by_cases h1 : 0 ≤ c.next ∧ c.next ≤ c.jobs
    case neg =>
      rw [decide_eq_false h1]
      have HNO := hide (show decide (f2 c) = false from decide_eq_false fun h => h1 h.2.1)
      clear h1
      go_wp2_with fail
      go_meet
      case rel => exact ⟨by rw [unhide HNO]; rfl, unhide HS2⟩
    rw [decide_eq_true h1]
    have G2 := hide h1
    clear h1
    have k11 := (unhide HS2).k11; have k3 := (unhide HS2).k3
    go_wp2_with fail
    refine (unhide HIN _ _ _ _).mono ?_
    rintro e w2' ⟨rfl, hb⟩
    have HS3 := hide ((unhide HS2).on hb)
    clear hb HS2 k11 k3
    by_cases h1 : 0 ≤ c.due ∧ c.due ≤ c.next
    case neg =>
      rw [decide_eq_false h1]
      have HNO := hide (show decide (f2 c) = false from decide_eq_false fun h => h1 h.2.2.1)
      clear h1
      go_wp2_with fail
      go_meet
      case rel => exact ⟨by rw [unhide HNO]; rfl, unhide HS3⟩
    rw [decide_eq_true h1]
    have G3 := hide h1
    clear h1
    have k15 := (unhide HS3).k15; have k2 := (unhide HS3).k2
    go_wp2_with fail
    refine (unhide HIN _ _ _ _).mono ?_
    rintro e w3' ⟨rfl, hb⟩
    have HS4 := hide ((unhide HS3).on hb)
    clear hb HS3 k15 k2
    by_cases h1 : 0 ≤ c.room ∧ c.room ≤ c.window
    case neg =>
      rw [decide_eq_false h1]
      have HNO := hide (show decide (f2 c) = false from decide_eq_false fun h => h1 h.2.2.2.1)
      clear h1
      go_wp2_with fail
      go_meet
      case rel => exact ⟨by rw [unhide HNO]; rfl, unhide HS4⟩
    rw [decide_eq_true h1]
    have G4 := hide h1
    clear h1
    have k17 := (unhide HS4).k17
    by_cases h1 : c.ops < 0
    case pos =>
      have HNO := hide (show decide (f2 c) = false from decide_eq_false fun h => by have := h.2.2.2.2.1; omega)
      have hd : decide (c.ops < 0) = true := decide_eq_true h1
      clear h1
      go_wp2_with fail
      go_meet
      case rel => exact ⟨by rw [unhide HNO]; rfl, unhide HS4⟩
    have hd1 : decide (c.ops < 0) = false := decide_eq_false h1
    by_cases h2 : 10000 < c.ops
    case pos =>
      have HNO := hide (show decide (f2 c) = false from decide_eq_false fun h => by have := h.2.2.2.2.2; omega)
      have hd : decide (10000 < c.ops) = true := decide_eq_true h2
      clear h1 h2
      go_wp2_with fail
      go_meet
      case rel => exact ⟨by rw [unhide HNO]; rfl, unhide HS4⟩
    have hd2 : decide (10000 < c.ops) = false := decide_eq_false h2
    have HNO := hide (show decide (f2 c) = true from decide_eq_true ⟨unhide G1, unhide G2, unhide G3, unhide G4, by omega, by omega⟩)
    clear h1 h2
    go_wp2_with fail
    go_meet
    case rel => exact ⟨by rw [unhide HNO]; rfl, unhide HS4⟩
  case rest =>
    obtain ⟨rfl, hag⟩ := hcut
    have HS5 := hide hag
    clear hag HS1
    by_cases hf2 : f2 c
    case neg =>
      rw [decide_eq_false hf2]
      have HNO := hide (show decide (formS c) = false from decide_eq_false fun h => hf2 h.1)
      clear hf2
      go_wp2_with fail
      go_ret
      exact ⟨by rw [unhide HNO]; rfl, (unhide HS5).bel⟩
    rw [decide_eq_true hf2]
    simp only [Bool.not_true]
    have HF2 := hide hf2
    clear hf2
    go_upto_region 4 with fail
    go_cut [104] from 55 to 104 (fun x wx => x = .bool (! decide (f4 c)) ∧ Ag P w wx c A)
    case first =>
      have k6 := (unhide HS5).k6; have k1 := (unhide HS5).k1; have k10 := (unhide HS5).k10; have k2 := (unhide HS5).k2; have k16 := (unhide HS5).k16; have k5 := (unhide HS5).k5; have k8 := (unhide HS5).k8; have k12 := (unhide HS5).k12; have k14 := (unhide HS5).k14; have k0 := (unhide HS5).k0
      by_cases h1 : (c.hands.length : Int) = c.workers
      case neg =>
        have HNO := hide (show decide (f4 c) = false from decide_eq_false fun h => h1 h.1)
        have hd : ((c.hands.length : Int) != c.workers) = true := by first | (simp; omega) | simp_all
        clear h1
        go_wp2_with fail
        go_meet
        case rel => exact ⟨by rw [unhide HNO]; rfl, unhide HS5⟩
      have hd0 : ((c.hands.length : Int) != c.workers) = false := by first | (simp; omega) | simp_all
      have G0 := hide h1
      clear h1
      by_cases h1 : (c.ring.length : Int) = c.window
      case neg =>
        have HNO := hide (show decide (f4 c) = false from decide_eq_false fun h => h1 h.2.1)
        have hd : ((c.ring.length : Int) != c.window) = true := by first | (simp; omega) | simp_all
        clear h1
        go_wp2_with fail
        go_meet
        case rel => exact ⟨by rw [unhide HNO]; rfl, unhide HS5⟩
      have hd1 : ((c.ring.length : Int) != c.window) = false := by first | (simp; omega) | simp_all
      have G1 := hide h1
      clear h1
      by_cases h1 : c.shut.length = 4
      case neg =>
        have HNO := hide (show decide (f4 c) = false from decide_eq_false fun h => h1 h.2.2.1)
        have hd : (c.shut.length != 4) = true := by first | (simp; omega) | simp_all
        have hd' : ((c.shut.length : Int) != 4) = true := by first | (simp; omega) | simp_all
        clear h1
        go_wp2_with fail
        go_meet
        case rel => exact ⟨by rw [unhide HNO]; rfl, unhide HS5⟩
      have hd2 : (c.shut.length != 4) = false := by first | (simp; omega) | simp_all
      have hd2' : ((c.shut.length : Int) != 4) = false := by first | (simp; omega) | simp_all
      have G2 := hide h1
      clear h1
      by_cases h1 : (c.queue.length : Int) ≤ c.workers
      case neg =>
        have HNO := hide (show decide (f4 c) = false from decide_eq_false fun h => h1 h.2.2.2.1)
        have hd : decide (c.workers < (c.queue.length : Int)) = true := by first | (simp; omega) | simp_all
        clear h1
        go_wp2_with fail
        go_meet
        case rel => exact ⟨by rw [unhide HNO]; rfl, unhide HS5⟩
      have hd3 : decide (c.workers < (c.queue.length : Int)) = false := by first | (simp; omega) | simp_all
      have G3 := hide h1
      clear h1
      by_cases h1 : (c.results.length : Int) ≤ c.workers
      case neg =>
        have HNO := hide (show decide (f4 c) = false from decide_eq_false fun h => h1 h.2.2.2.2.1)
        have hd : decide (c.workers < (c.results.length : Int)) = true := by first | (simp; omega) | simp_all
        clear h1
        go_wp2_with fail
        go_meet
        case rel => exact ⟨by rw [unhide HNO]; rfl, unhide HS5⟩
      have hd4 : decide (c.workers < (c.results.length : Int)) = false := by first | (simp; omega) | simp_all
      have G4 := hide h1
      clear h1
      by_cases h1 : c.out.length ≤ 1
      case neg =>
        have HNO := hide (show decide (f4 c) = false from decide_eq_false fun h => h1 h.2.2.2.2.2.1)
        have hd : decide (1 < c.out.length) = true := by first | (simp; omega) | simp_all
        have hd' : decide (1 < (c.out.length : Int)) = true := by first | (simp; omega) | simp_all
        clear h1
        go_wp2_with fail
        go_meet
        case rel => exact ⟨by rw [unhide HNO]; rfl, unhide HS5⟩
      have hd5 : decide (1 < c.out.length) = false := by first | (simp; omega) | simp_all
      have hd5' : decide (1 < (c.out.length : Int)) = false := by first | (simp; omega) | simp_all
      have G5 := hide h1
      clear h1
      by_cases h1 : (c.got.length : Int) ≤ c.jobs
      case neg =>
        have HNO := hide (show decide (f4 c) = false from decide_eq_false fun h => h1 h.2.2.2.2.2.2)
        have hd : decide (c.jobs < (c.got.length : Int)) = true := by first | (simp; omega) | simp_all
        clear h1
        go_wp2_with fail
        go_meet
        case rel => exact ⟨by rw [unhide HNO]; rfl, unhide HS5⟩
      have hd6 : decide (c.jobs < (c.got.length : Int)) = false := by first | (simp; omega) | simp_all
      have G6 := hide h1
      clear h1
      have HNO := hide (show decide (f4 c) = true from decide_eq_true ⟨unhide G0, unhide G1, unhide G2, unhide G3, unhide G4, unhide G5, unhide G6⟩)
      go_wp2_with fail
      go_meet
      case rel => exact ⟨by rw [unhide HNO]; rfl, unhide HS5⟩
    case rest =>
      obtain ⟨rfl, hag⟩ := hcut
      have HS6 := hide hag
      clear hag HS5
      by_cases hf4 : f4 c
      case neg =>
        rw [decide_eq_false hf4]
        have HNO := hide (show decide (formS c) = false from decide_eq_false fun h => hf4 h.2.1)
        clear hf4
        go_wp2_with fail
        go_ret
        exact ⟨by rw [unhide HNO]; rfl, (unhide HS6).bel⟩
      rw [decide_eq_true hf4]
      simp only [Bool.not_true]
      have HF4 := hide hf4
      have hsh := hf4.2.2.1
      clear hf4
      go_wp2_with fail
      go_loopw [5] (fun i wr => ∃ (k : Nat), k ≤ 4 ∧ i = .int .i64 k ∧ Hid (Ag P w wr c A) ∧ Hid (∀ j, (hj : j < c.shut.length) → j < k → 0 ≤ c.shut[j] ∧ c.shut[j] ≤ 1)) (fun i _ => 4 - (intOf i).toNat)
      case atStart => exact ⟨0, by omega, rfl, HS6, hide (fun j _ hj => absurd hj (by omega))⟩
      case round =>
        obtain ⟨k, hk, rfl, HS, HA⟩ := hrel
        by_cases hlt : k < 4
        · have k16 := HS.out.k16
          have hlt' : k < c.shut.length := by omega
          obtain ⟨b, o, ha, e0⟩ := HS.out.at_s k hlt'
          rw [ha, hsh] at k16
          clear ha
          have HNX := hide (show (0 ≤ c.shut[k] ∧ c.shut[k] ≤ 1) → ∀ j, (hj : j < c.shut.length) → j < k + 1 → 0 ≤ c.shut[j] ∧ c.shut[j] ≤ 1 from fun h j hj hjk => by
            by_cases e : j = k
            · subst e; exact h
            · exact HA.out j hj (by omega))
          have HBD := hide (show ¬ (0 ≤ c.shut[k] ∧ c.shut[k] ≤ 1) → decide (formS c) = false from fun h => decide_eq_false fun hf => h (hf.2.2.1 _ (List.getElem_mem hlt')))
          generalize c.shut[k] = z at e0 HNX HBD
          have HSH := hide hsh
          clear hsh
          go_wp2_with fail
          refine (unhide HIN _ _ _ _).mono ?_
          rintro e w7 ⟨rfl, hb⟩
          have HS7 := hide (HS.out.on hb)
          clear hb k16 e0
          by_cases h1 : 0 ≤ z ∧ z ≤ 1
          · rw [decide_eq_true h1]
            have HN2 := hide (unhide HNX h1)
            clear h1
            go_wp2_with fail
            go_roundw
            case rel => exact ⟨k + 1, by omega, by go_num, HS7, HN2⟩
            case measure => simp [intOf]; omega
          · rw [decide_eq_false h1]
            have HNO := hide (unhide HBD h1)
            clear h1
            go_wp2_with fail
            go_ret
            exact ⟨by rw [unhide HNO]; rfl, (unhide HS7).bel⟩
        · obtain rfl : k = 4 := by omega
          have HSHUT := hide (show ∀ z ∈ c.shut, 0 ≤ z ∧ z ≤ 1 from fun z hz => by
            obtain ⟨j, hj, rfl⟩ := List.getElem_of_mem hz
            exact HA.out j hj (by omega))
          have HS8 := hide HS.out
          clear HA HS hsh
          go_wp2_with fail
          go_loopw [6] (fun i wr => ∃ (k : Nat), k ≤ c.hands.length ∧ i = .int .i64 k ∧ Hid (Ag P w wr c A) ∧ Hid (∀ j, (hj : j < c.hands.length) → j < k → handOk c.hands[j])) (fun i _ => c.hands.length - (intOf i).toNat)
          case atStart => exact ⟨0, by omega, rfl, HS8, hide (fun j _ hj => absurd hj (by omega))⟩
          case round =>
            obtain ⟨k, hk, rfl, HS, HA⟩ := hrel
            have k6 := HS.out.k6
            have hll := HS.out.len_h
            by_cases hlt : k < c.hands.length
            · obtain ⟨b, o, ha, e0, e1⟩ := HS.out.at_h k hlt
              rw [ha] at k6
              have HNX := hide (show handOk c.hands[k] → ∀ j, (hj : j < c.hands.length) → j < k + 1 → handOk c.hands[j] from fun h j hj hjk => by
                by_cases e : j = k
                · subst e; exact h
                · exact HA.out j hj (by omega))
              have HBD := hide (show ¬ handOk c.hands[k] → decide (formS c) = false from fun h => decide_eq_false fun hf => h (hf.2.2.2.1 _ (List.getElem_mem hlt)))
              generalize c.hands[k] = hd at e0 e1 HNX HBD
              obtain ⟨st, jb⟩ := hd
              simp only at e0 e1
              have HB := hide (fun (o : Obj) => (Below.refl wr.heap.size wr).alloc (Nat.le_refl _) o)
              clear ha
              go_upto_region 15 with fail
              have hag0 := HS.out.on (unhide HB (.cells #[.int .i64 st, .int .i64 jb] 73))
              have hr2 := World.rowIs_alloc wr #[.int .i64 st, .int .i64 jb] 73 (r18 [.int .i64 st, .int .i64 jb]) (fun i hi => by
                have hi' : i < 2 := hi
                rcases (show i = 0 ∨ i = 1 by omega) with rfl | rfl <;> rfl)
              have hrow : (wr.alloc (.cells #[.int .i64 st, .int .i64 jb] 73)).cell? ⟨wr.heap.size, 0, none⟩ = some (.int .i64 st) ∧ (wr.alloc (.cells #[.int .i64 st, .int .i64 jb] 73)).cell? ⟨wr.heap.size, 1, none⟩ = some (.int .i64 jb) := ⟨hr2.cell (i := 0) (show 0 < 2 by omega), hr2.cell (i := 1) (show 1 < 2 by omega)⟩
              clear hr2
              have hlz : wr.heap.size < (wr.alloc (.cells #[.int .i64 st, .int .i64 jb] 73)).heap.size := by simp
              clear HS HB k6 e0 e1
              generalize wr.alloc (.cells #[.int .i64 st, .int .i64 jb] 73) = WB at hag0 hrow hlz ⊢
              generalize wr.heap.size = SB at hrow hlz ⊢
              obtain ⟨y0, y1⟩ := hrow
              have HAG := hide hag0
              clear hag0
              go_cut [8] from 128 to 135 (fun x wx => x = .bool (busyH ⟨st, jb⟩) ∧ wx = WB)
              case first =>
                by_cases s1 : st = 1
                · have q1 : (st == 1) = true := by simp [s1]
                  have HV := hide (show busyH ⟨st, jb⟩ = true from by simp [busyH, s1])
                  clear s1
                  go_wp2_with fail
                  go_meet
                  case rel => exact ⟨by rw [unhide HV], rfl⟩
                · have q1 : (st == 1) = false := by simp [s1]
                  have HV := hide (show busyH ⟨st, jb⟩ = (st == 2) from by simp [busyH, s1])
                  clear s1
                  go_wp2_with fail
                  go_meet
                  case rel => exact ⟨by rw [unhide HV], rfl⟩
              case rest =>
                obtain ⟨rfl, rfl⟩ := hcut
                go_upto_region 16 with fail
                go_cut [8, 148] from 136 to 148 (fun _ x wx => x = .bool (! decide (handOk ⟨st, jb⟩)) ∧ Ag P w wx c A)
                case first =>
                  have HOK := hide (show handOk ⟨st, jb⟩ ↔ (0 ≤ st ∧ st ≤ 3) ∧ (busyH ⟨st, jb⟩ = false → jb = 0) from Iff.rfl)
                  generalize busyH ⟨st, jb⟩ = bz at HOK ⊢
                  go_wp2_with fail
                  refine (unhide HIN _ _ _ _).mono ?_
                  rintro e w9 ⟨rfl, hb9⟩
                  have y1' : w9.cell? ⟨SB, 1, none⟩ = some (.int .i64 jb) := (World.cell?_of_block (a := ⟨SB, 1, none⟩) (hb9.block SB hlz)).trans y1
                  have HAG9 := hide ((unhide HAG).on hb9)
                  clear hb9 y0 y1 HAG hlz
                  by_cases h1 : 0 ≤ st ∧ st ≤ 3
                  case neg =>
                    have HV := hide (show decide (handOk ⟨st, jb⟩) = false from decide_eq_false fun h => h1 ((unhide HOK).1 h).1)
                    rw [decide_eq_false h1]
                    clear h1
                    go_wp2_with fail
                    go_meet
                    case rel => exact ⟨by rw [unhide HV]; rfl, unhide HAG9⟩
                  rw [decide_eq_true h1]
                  have G1 := hide h1
                  clear h1
                  cases bz with
                  | true =>
                    have HV := hide (show decide (handOk ⟨st, jb⟩) = true from decide_eq_true ((unhide HOK).2 ⟨unhide G1, fun h => by cases h⟩))
                    go_wp2_with fail
                    go_meet
                    case rel => exact ⟨by rw [unhide HV]; rfl, unhide HAG9⟩
                  | false =>
                    have HV := hide (show (! decide (handOk ⟨st, jb⟩)) = (jb != 0) from by
                      by_cases e : jb = 0
                      · rw [decide_eq_true ((unhide HOK).2 ⟨unhide G1, fun _ => e⟩)]; simp [e]
                      · rw [decide_eq_false (fun h => e (((unhide HOK).1 h).2 rfl))]; simp [e])
                    go_wp2_with fail
                    go_meet
                    case rel => exact ⟨by rw [unhide HV], unhide HAG9⟩
                case rest =>
                  obtain ⟨rfl, hag⟩ := hcut
                  have HSN := hide hag
                  clear hag y0 y1 HAG hlz
                  by_cases hok : handOk ⟨st, jb⟩
                  · rw [decide_eq_true hok]
                    have HN2 := hide (unhide HNX hok)
                    clear hok
                    go_wp2_with fail
                    go_roundw
                    case rel => exact ⟨k + 1, by omega, by go_num, HSN, HN2⟩
                    case measure => simp [intOf]; omega
                  · rw [decide_eq_false hok]
                    have HNO := hide (unhide HBD hok)
                    clear hok
                    go_wp2_with fail
                    go_ret
                    exact ⟨by rw [unhide HNO]; rfl, (unhide HSN).bel⟩
            · obtain rfl : k = c.hands.length := by omega
              have HFE := hide (show decide (formS c) = decide (fE c) from decide_eq_decide.2 ⟨fun h => h.2.2.2.2, fun h => ⟨unhide HF2, unhide HF4, unhide HSHUT, fun x hx => by
                obtain ⟨j, hj, rfl⟩ := List.getElem_of_mem hx
                exact HA.out j hj hj, h⟩⟩)
              have HS9 := hide HS.out
              clear HS HA
              go_upto_region 18 with fail
              have k4 := (unhide HS9).k4
              go_wp2_with fail
              refine (unhide HIN _ _ _ _).mono ?_
              rintro e wa ⟨rfl, hb⟩
              have HSa := hide ((unhide HS9).on hb)
              clear hb HS9 k4
              by_cases h1 : 0 ≤ c.reader ∧ c.reader ≤ 3
              case neg =>
                rw [decide_eq_false h1]
                have HNO := hide (show decide (fE c) = false from decide_eq_false fun h => h1 h.1)
                clear h1
                go_wp2_with fail
                go_ret
                exact ⟨by rw [unhide HFE, unhide HNO]; rfl, (unhide HSa).bel⟩
              rw [decide_eq_true h1]
              have G1 := hide h1
              clear h1
              have k7 := (unhide HSa).k7
              go_wp2_with fail
              refine (unhide HIN _ _ _ _).mono ?_
              rintro e wb ⟨rfl, hb⟩
              have HSb := hide ((unhide HSa).on hb)
              clear hb HSa k7
              by_cases h1 : 0 ≤ c.closer ∧ c.closer ≤ 1
              case neg =>
                rw [decide_eq_false h1]
                have HNO := hide (show decide (fE c) = false from decide_eq_false fun h => h1 h.2.1)
                clear h1
                go_wp2_with fail
                go_ret
                exact ⟨by rw [unhide HFE, unhide HNO]; rfl, (unhide HSb).bel⟩
              rw [decide_eq_true h1]
              have G2 := hide h1
              clear h1
              have k9 := (unhide HSb).k9
              go_wp2_with fail
              refine (unhide HIN _ _ _ _).mono ?_
              rintro e wd ⟨rfl, hb⟩
              have HSd := hide ((unhide HSb).on hb)
              clear hb HSb k9
              by_cases h1 : 0 ≤ c.keeper ∧ c.keeper ≤ 5
              case neg =>
                rw [decide_eq_false h1]
                have HNO := hide (show decide (fE c) = false from decide_eq_false fun h => h1 h.2.2.1)
                clear h1
                go_wp2_with fail
                go_ret
                exact ⟨by rw [unhide HFE, unhide HNO]; rfl, (unhide HSd).bel⟩
              rw [decide_eq_true h1]
              have G3 := hide h1
              clear h1
              have k13 := (unhide HSd).k13
              go_wp2_with fail
              refine (unhide HIN _ _ _ _).mono ?_
              rintro e wf ⟨rfl, hb⟩
              have HSf := hide ((unhide HSd).on hb)
              clear hb HSd k13
              have HNO := hide (show decide (fE c) = decide (0 ≤ c.user ∧ c.user ≤ 1) from decide_eq_decide.2 ⟨fun h => h.2.2.2, fun h => ⟨unhide G1, unhide G2, unhide G3, h⟩⟩)
              generalize decide (0 ≤ c.user ∧ c.user ≤ 1) = bu at HNO ⊢
              go_wp2_with fail
              go_ret
              exact ⟨by rw [unhide HFE, unhide HNO]; rfl, (unhide HSf).bel⟩
end Go.Proofs.YtibgjcejddpldaaGreat
