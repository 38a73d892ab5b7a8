/- A part. -/
import Derived.Test.YtibgjcejddpldaaGreatPart12
namespace Go.Proofs.YtibgjcejddpldaaGreat
open Go Go.RowKit
set_option maxRecDepth 100000
set_option maxHeartbeats 6400000
def d7 (c : Cw) : Bool := decide (c.closer = 1) && !allE c.hands
def r5 (c : Cw) : Bool := decide (c.reader < 2) || decide (c.next = c.jobs)
def r6 (c : Cw) : Bool := !anyE c.hands || decide (c.reader = 3) && decide (c.queue.length = 0)
def r7 (c : Cw) : Bool := decide (c.keeper < 4) || decide (c.closer = 1) && decide (c.results.length = 0)
def r8 (c : Cw) : Bool := !decide (c.user = 1) || decide (c.keeper = 5) && decide (c.out.length = 0)
theorem endB_eq (c : Cw) : endB c = (!d7 c && (if 0 < shZ c 3 then decide (c.user = 1) else r5 c && r6 c && r7 c && r8 c)) := rfl
theorem endsOk_any (C : Nat) (c : Cw) (B : CrB) (w : World) (h : CrAt w C c B) : Calls Tryz.prog 105 #[.pointer (some ⟨C, 0, none⟩)] w fun e w' => e = .returned (.bool (endB c)) ∧ Below w.heap.size w w' := by
 have HK := xH (Kc.start h)
 have HRES := xH (endB_eq c)
 generalize endB c = res at *
 have HWE := xH (fun W (hW : CrAt W C c B) => wEnded_any C c B W hW)
 have HAE := xH (fun W (hW : CrAt W C c B) => aEnded_any C c B W hW)
 have HST := xH (fun W (hW : CrAt W C c B) => stopped_any C c B W hW)
 clear h
 go_enter Tryz.func105, Tryz.ntmps105
 go_upto_region 1 with fail
 go_cut [16] from 7 to 16 (fun x wx => x = .bool (d7 c) ∧ Kc w wx C c B)
 case first =>
  have c5 := (xU HK).cr.c5
  by_cases h1 : c.closer = 1
  · have q : (c.closer == 1) = true := by simp [h1]
    have HV := xH (show d7 c = !allE c.hands from by simp [d7, h1])
    clear h1
    go_wp2_with (go_at_call 49; refine (xU HWE _ (xU HK).cr).mono ?_; rintro e w2 ⟨rfl, hb⟩; have HK2 := xH ((xU HK).on hb); clear hb)
    go_meet
    case rel => exact ⟨by rw [xU HV], xU HK2⟩
  · have q : (c.closer == 1) = false := by simp [h1]
    have HV := xH (show d7 c = false from by simp [d7, h1])
    clear h1
    go_wp2_with fail
    go_meet
    case rel => exact ⟨by rw [xU HV], xU HK⟩
 case rest =>
 obtain ⟨rfl, hk⟩ := hcut
 clear HK
 have HK := xH hk
 clear hk
 by_cases hE : d7 c = true
 case pos =>
  have HNO := xH (show res = false from by rw [xU HRES, hE]; rfl)
  rw [hE]
  clear hE
  go_wp2_with fail
  go_ret
  exact ⟨by rw [xU HNO]; rfl, (xU HK).bel⟩
 have hE' : d7 c = false := by simpa using hE
 rw [hE'] at HRES
 rw [hE']
 clear hE hE'
 by_cases hs : 0 < shZ c 3
 case pos =>
  have HV := xH (show res = (c.user == 1) from by rw [xU HRES, if_pos hs]; rfl)
  rw [decide_eq_true hs] at HST
  have c11 := (xU HK).cr.c11
  clear hs
  go_wp2_with (go_at_call 115; refine (xU HST _ (xU HK).cr).mono ?_; rintro e w2 ⟨rfl, hb⟩; have hb' := hb.symm; subst hb'; clear hb)
  go_ret
  exact ⟨by rw [xU HV]; rfl, (xU HK).bel⟩
 rw [decide_eq_false hs] at HST
 have HV := xH (show res = (r5 c && r6 c && r7 c && r8 c) from by rw [xU HRES, if_neg hs]; simp)
 clear hs HRES
 go_wp2_with (go_at_call 115; refine (xU HST _ (xU HK).cr).mono ?_; rintro e w2 ⟨rfl, hb⟩; have hb' := hb.symm; subst hb'; clear hb)
 go_upto_region 5 with fail
 skip
 go_cut [3] from 24 to 39 (fun x wx => x = .bool (r5 c) ∧ Kc w wx C c B)
 case first =>
  have k2 := (xU HK).cr.c2; have k1 := (xU HK).cr.c1; have k0 := (xU HK).cr.c0
  have HKD := xH (fun m => (xU HK).dn m)
  by_cases h1 : c.reader < 2
  · have q : decide (c.reader < 2) = true := by simp [h1]
    have HV1 := xH (show r5 c = true from by simp [r5, h1])
    clear h1
    go_quiet (fail)
    go_wp2_with fail
    go_meet
    case rel => exact ⟨by rw [xU HV1], xU HKD _⟩
  · have q : decide (c.reader < 2) = false := by simp; omega
    have HV1 := xH (show r5 c = (c.next == c.jobs) from by simp only [r5, q, Bool.false_or]; rfl)
    clear h1
    go_quiet (fail)
    go_wp2_with fail
    go_meet
    case rel => exact ⟨by rw [xU HV1], xU HKD _⟩
 case rest =>
 obtain ⟨rfl, hk⟩ := hcut
 clear HK
 have HK := xH hk
 clear hk
 go_upto_region 6 with fail
 go_cut [4] from 40 to 56 (fun x wx => x = .bool (r6 c) ∧ Kc w wx C c B)
 case first =>
  have HEM := xH (fun W (hW : CrAt W C c B) => emptyI_any B.Q c.queue.length W hW.q2)
  cases ha : anyE c.hands
  · rw [ha] at HAE
    have HV1 := xH (show r6 c = true from by simp [r6, ha])
    clear ha
    go_wp2_with (first | (go_at_call 118; refine (xU HEM _ (xU HK).cr).mono ?_; rintro e w2 ⟨rfl, hb⟩; have hb' := hb.symm; subst hb'; clear hb) | (go_at_call 117; refine (xU HAE _ (xU HK).cr).mono ?_; rintro e w2 ⟨rfl, hb⟩; have HK2 := xH ((xU HK).on hb); have k2 := (xU HK2).cr.c2; have k3 := (xU HK2).cr.c3; clear hb))
    go_meet
    case rel => exact ⟨by rw [xU HV1], xU HK2⟩
  · rw [ha] at HAE
    by_cases h3 : c.reader = 3
    · have q : (c.reader == 3) = true := by simp [h3]
      have HV1 := xH (show r6 c = decide (c.queue.length = 0) from by simp [r6, ha, h3])
      generalize decide (c.queue.length = 0) = eb at HEM HV1
      clear ha h3
      go_wp2_with (first | (go_at_call 118; refine (xU HEM _ (xU HK2).cr).mono ?_; rintro e w2 ⟨rfl, hb⟩; have hb' := hb.symm; subst hb'; clear hb) | (go_at_call 117; refine (xU HAE _ (xU HK).cr).mono ?_; rintro e w2 ⟨rfl, hb⟩; have HK2 := xH ((xU HK).on hb); have k2 := (xU HK2).cr.c2; have k3 := (xU HK2).cr.c3; clear hb))
      go_meet
      case rel => exact ⟨by rw [xU HV1], xU HK2⟩
    · have q : (c.reader == 3) = false := by simp [h3]
      have HV1 := xH (show r6 c = false from by simp [r6, ha, h3])
      clear ha h3
      go_wp2_with (first | (go_at_call 118; refine (xU HEM _ (xU HK).cr).mono ?_; rintro e w2 ⟨rfl, hb⟩; have hb' := hb.symm; subst hb'; clear hb) | (go_at_call 117; refine (xU HAE _ (xU HK).cr).mono ?_; rintro e w2 ⟨rfl, hb⟩; have HK2 := xH ((xU HK).on hb); have k2 := (xU HK2).cr.c2; have k3 := (xU HK2).cr.c3; clear hb))
      go_meet
      case rel => exact ⟨by rw [xU HV1], xU HK2⟩
 case rest =>
 obtain ⟨rfl, hk⟩ := hcut
 clear HK
 have HK := xH hk
 clear hk
 go_upto_region 7 with fail
 go_cut [5] from 57 to 75 (fun x wx => x = .bool (r7 c) ∧ Kc w wx C c B)
 case first =>
  have HEM := xH (fun W (hW : CrAt W C c B) => emptyI_any B.R c.results.length W hW.r2)
  have k1 := (xU HK).cr.c7; have k2 := (xU HK).cr.c5; have k3 := (xU HK).cr.c6
  by_cases h1 : c.keeper < 4
  · have q : decide (c.keeper < 4) = true := by simp [h1]
    have HV1 := xH (show r7 c = true from by simp [r7, h1])
    clear h1
    go_wp2_with fail
    go_meet
    case rel => exact ⟨by rw [xU HV1], xU HK⟩
  · have q : decide (c.keeper < 4) = false := by simp; omega
    by_cases h3 : c.closer = 1
    · have q3 : (c.closer == 1) = true := by simp [h3]
      have HV1 := xH (show r7 c = decide (c.results.length = 0) from by simp [r7, h3]; omega)
      generalize decide (c.results.length = 0) = eb at HEM HV1
      clear h1 h3
      go_wp2_with (first | (go_at_call 118; refine (xU HEM _ (xU HK).cr).mono ?_; rintro e w2 ⟨rfl, hb⟩; have hb' := hb.symm; subst hb'; clear hb) | (go_at_call 117; refine (xU HAE _ (xU HK).cr).mono ?_; rintro e w2 ⟨rfl, hb⟩; have HK2 := xH ((xU HK).on hb); have k2 := (xU HK2).cr.c2; have k3 := (xU HK2).cr.c3; clear hb))
      go_meet
      case rel => exact ⟨by rw [xU HV1], xU HK⟩
    · have q3 : (c.closer == 1) = false := by simp [h3]
      have HV1 := xH (show r7 c = false from by simp [r7, h3]; omega)
      clear h1 h3
      go_wp2_with fail
      go_meet
      case rel => exact ⟨by rw [xU HV1], xU HK⟩
 case rest =>
 obtain ⟨rfl, hk⟩ := hcut
 clear HK
 have HK := xH hk
 clear hk
 go_upto_region 8 with fail
 go_cut [6] from 76 to 94 (fun x wx => x = .bool (r8 c) ∧ Kc w wx C c B)
 case first =>
  have HEM := xH (fun W (hW : CrAt W C c B) => emptyI_any B.O c.out.length W hW.o2)
  have k1 := (xU HK).cr.c11; have k2 := (xU HK).cr.c7; have k3 := (xU HK).cr.c10
  by_cases h1 : ¬ c.user = 1
  · have q : (c.user != 1) = true := by simp [h1]
    have HV1 := xH (show r8 c = true from by simp [r8, h1])
    clear h1
    go_wp2_with fail
    go_meet
    case rel => exact ⟨by rw [xU HV1], xU HK⟩
  · have q : (c.user != 1) = false := by simp; simpa using h1
    by_cases h3 : c.keeper = 5
    · have q3 : (c.keeper == 5) = true := by simp [h3]
      have HV1 := xH (show r8 c = decide (c.out.length = 0) from by have hu : c.user = 1 := (by simpa using h1); simp [r8, h3, hu])
      generalize decide (c.out.length = 0) = eb at HEM HV1
      clear h1 h3
      go_wp2_with (first | (go_at_call 118; refine (xU HEM _ (xU HK).cr).mono ?_; rintro e w2 ⟨rfl, hb⟩; have hb' := hb.symm; subst hb'; clear hb) | (go_at_call 117; refine (xU HAE _ (xU HK).cr).mono ?_; rintro e w2 ⟨rfl, hb⟩; have HK2 := xH ((xU HK).on hb); have k2 := (xU HK2).cr.c2; have k3 := (xU HK2).cr.c3; clear hb))
      go_meet
      case rel => exact ⟨by rw [xU HV1], xU HK⟩
    · have q3 : (c.keeper == 5) = false := by simp [h3]
      have HV1 := xH (show r8 c = false from by have hu : c.user = 1 := (by simpa using h1); simp [r8, h3, hu])
      clear h1 h3
      go_wp2_with fail
      go_meet
      case rel => exact ⟨by rw [xU HV1], xU HK⟩
 case rest =>
 obtain ⟨rfl, hk⟩ := hcut
 clear HK
 have HK := xH hk
 clear hk
 generalize r5 c = x5 at *
 generalize r6 c = x6 at *
 generalize r7 c = x7 at *
 generalize r8 c = x8 at *
 cases x5 <;> cases x6 <;> cases x7
 all_goals
  go_wp2_with fail
  go_ret
  exact ⟨by rw [xU HV]; rfl, (xU HK).bel⟩

theorem wrap_small (x : Int) (h1 : -100000 ≤ x) (h2 : x ≤ 100000) : IntKind.i64.wrap x = x := by rw [IntKind.wrap_i64]; omega
def lef0 (c : Cw) : Int := 11 * (c.jobs - c.next) + 9 * c.queue.length + 6 * c.results.length + c.out.length
theorem left_any (C : Nat) (c : Cw) (B : CrB) (w : World) (h : CrAt w C c B) (hF : Form c) : Calls Tryz.prog 48 #[.pointer (some ⟨C, 0, none⟩)] w fun e w' => e = .returned (.int .i64 (leftP c)) ∧ Below w.heap.size w w' := by
 have HK := xH (Kc.start h)
 obtain ⟨s1, s2, s3, s4, s5, s6, s7, s8⟩ := hF.small
 have hn := hF.next; have ho := hF.out
 have HL0 := xH (show 0 ≤ lef0 c ∧ lef0 c ≤ 1000 from by unfold lef0; omega)
 obtain ⟨d1, hd1⟩ : ∃ d, d = c.jobs - c.next := ⟨_, rfl⟩
 obtain ⟨d2, hd2⟩ : ∃ d, d = 11 * d1 := ⟨_, rfl⟩
 obtain ⟨d3, hd3⟩ : ∃ d, d = 9 * (c.queue.length : Int) := ⟨_, rfl⟩
 obtain ⟨d4, hd4⟩ : ∃ d, d = d2 + d3 := ⟨_, rfl⟩
 obtain ⟨d5, hd5⟩ : ∃ d, d = 6 * (c.results.length : Int) := ⟨_, rfl⟩
 obtain ⟨d6, hd6⟩ : ∃ d, d = d4 + d5 := ⟨_, rfl⟩
 obtain ⟨d7, hd7⟩ : ∃ d, d = d6 + (c.out.length : Int) := ⟨_, rfl⟩
 have HD := xH (show d7 = lef0 c from by unfold lef0; omega)
 have w1 : IntKind.i64.wrap (c.jobs - c.next) = d1 := by rw [wrap_small _ (by omega) (by omega), hd1]
 have w2 : IntKind.i64.wrap (11 * d1) = d2 := by rw [wrap_small _ (by omega) (by omega), hd2]
 have w3 : IntKind.i64.wrap (9 * (c.queue.length : Int)) = d3 := by rw [wrap_small _ (by omega) (by omega), hd3]
 have w4 : IntKind.i64.wrap (d2 + d3) = d4 := by rw [wrap_small _ (by omega) (by omega), hd4]
 have w5 : IntKind.i64.wrap (6 * (c.results.length : Int)) = d5 := by rw [wrap_small _ (by omega) (by omega), hd5]
 have w6 : IntKind.i64.wrap (d4 + d5) = d6 := by rw [wrap_small _ (by omega) (by omega), hd6]
 have w7 : IntKind.i64.wrap (d6 + (c.out.length : Int)) = d7 := by rw [wrap_small _ (by omega) (by omega), hd7]
 have c0 := h.c0; have c1 := h.c1; have c3 := h.c3; have c6 := h.c6; have c10 := h.c10; have k2 := h.q2; have k3 := h.r2; have k4 := h.o2
 have HKD := xH (fun m => (xU HK).dn m)
 have hHl : c.hands.length ≤ 8 := s1
 have hGl : c.ring.length ≤ 16 := s3
 clear h hF hn ho hd1 hd2 hd3 hd4 hd5 hd6 hd7 s1 s2 s3 s4 s5 s6 s7 s8
 go_enter Tryz.func48, Tryz.ntmps48
 go_upto_region 1 with fail
 go_cut [3] from 8 to 43 (fun x wx => x = .int .i64 (lef0 c) ∧ Kc w wx C c B)
 case first =>
  go_quiet (fail)
  go_wp2_with fail
  go_meet
  case rel => exact ⟨by rw [← xU HD], xU HKD _⟩
 case rest =>
 obtain ⟨rfl, hk⟩ := hcut
 clear HK HKD HD w1 w2 w3 w4 w5 w6 w7 c0 c1 c3 c6 c10 k2 k3 k4
 have HK := xH hk
 have c4 := hk.cr.c4
 clear hk
 clear d1 d2 d3 d4 d5 d6 d7
 obtain ⟨L0, hL0⟩ : ∃ L0, L0 = lef0 c := ⟨_, rfl⟩
 have HLZ := xH hL0
 rw [← hL0] at HL0 ⊢
 clear hL0
 go_wp2_with fail
 clear c4
 go_loopw [3, 49] (fun v i wr => ∃ (k : Nat) (x : Int), k ≤ c.hands.length ∧ i = .int .i64 k ∧ v = .int .i64 x ∧ Hid (x = L0 + sumH (c.hands.take k)) ∧ Hid (Kc w wr C c B)) (fun _ i _ => c.hands.length - (intOf i).toNat)
 case atStart => exact ⟨0, L0, Nat.zero_le _, rfl, rfl, xH (by simp [sumH]), HK⟩
 case round =>
  obtain ⟨k, x, hk, rfl, rfl, HX, HKr⟩ := hrel
  by_cases hlt : k < c.hands.length
  · obtain ⟨e0, e1⟩ := hands_at HKr.out.cr.hands k hlt
    have hxb := xU HL0; have hxx := HX.out; have hsb := sumH_bound (c.hands.take k); have hwb := wkL_bound c.hands[k].state
    rw [List.length_take] at hsb
    have HN := xH (show x + wkL c.hands[k].state = L0 + sumH (c.hands.take (k + 1)) from by rw [sumH_take _ _ hlt]; omega)
    have hwr : IntKind.i64.wrap (x + wkL c.hands[k].state) = x + wkL c.hands[k].state := wrap_small _ (by omega) (by omega)
    clear hxb hxx hsb hwb
    have HLW := xH (fun W => lefW_any c.hands[k].state W)
    have HKA := xH (fun o => HKr.out.on ((Below.refl _ wr).alloc (Nat.le_refl _) o))
    generalize wkL c.hands[k].state = y at *
    generalize c.hands[k].state = zs at *
    generalize c.hands[k].job = zj at *
    obtain ⟨xy, hxy⟩ : ∃ xy, x + y = xy := ⟨_, rfl⟩
    rw [hxy] at HN hwr
    rw [← hxy] at hwr
    have hwr2 : IntKind.i64.wrap (x + y) = xy := by rw [hwr]; exact hxy
    clear hwr hxy
    go_wp2_with (go_at_call 81; refine (xU HLW _).mono ?_; rintro e w2 ⟨rfl, hb⟩; have hb' := hb.symm; subst hb'; clear hb)
    go_roundw
    case rel => exact ⟨k + 1, xy, by omega, by go_num, rfl, HN, xH (xU HKA _)⟩
    case measure => simp [intOf]; omega
  · obtain rfl : k = c.hands.length := by omega
    have HXX := xH (show x = L0 + sumH c.hands from by have := HX.out; rwa [List.take_length] at this)
    have HK1 := HKr
    have c8 := HKr.out.cr.c8
    clear HX HKr HK hlt hk
    obtain ⟨L1, hL1⟩ : ∃ L1, L1 = x := ⟨_, rfl⟩
    subst hL1
    have HL1 := xH (show 0 ≤ L1 ∧ L1 ≤ 2000 from by have := xU HL0; have := xU HXX; have := sumH_bound c.hands; omega)
    obtain ⟨WA, hWA⟩ : ∃ WA, WA = wr := ⟨_, rfl⟩
    subst hWA
    go_wp2_with fail
    clear c8
    go_loopw [3, 64] (fun v i wr => ∃ (k : Nat) (x : Int), k ≤ c.ring.length ∧ i = .int .i64 k ∧ v = .int .i64 x ∧ Hid (x = L1 + sumP (c.ring.take k)) ∧ Hid (Kc w wr C c B)) (fun _ i _ => c.ring.length - (intOf i).toNat)
    case atStart => exact ⟨0, L1, Nat.zero_le _, rfl, rfl, xH (by simp [sumP]), HK1⟩
    case round =>
     obtain ⟨k, x, hk, rfl, rfl, HX, HKr⟩ := hrel
     by_cases hlt : k < c.ring.length
     · have e0 := HKr.out.cr.g_at k hlt
       have hxb := xU HL1; have hxx := HX.out; have hsb := sumP_bound (c.ring.take k)
       rw [List.length_take] at hsb
       have hnx := sumP_take _ _ hlt
       by_cases hz : c.ring[k] = -1
       · rw [if_pos hz] at hnx
         have HN := xH (show x = L1 + sumP (c.ring.take (k + 1)) from by rw [hnx]; omega)
         have q : (c.ring[k] != -1) = false := by simp [hz]
         clear hxb hxx hsb hnx hz
         generalize c.ring[k] = z at *
         go_wp2_with fail
         go_roundw
         case rel => exact ⟨k + 1, x, by omega, by go_num, rfl, HN, HKr⟩
         case measure => simp [intOf]; omega
       · rw [if_neg hz] at hnx
         have HN := xH (show x + 4 = L1 + sumP (c.ring.take (k + 1)) from by rw [hnx]; omega)
         have q : (c.ring[k] != -1) = true := by simp [hz]
         have hwr : IntKind.i64.wrap (x + 4) = x + 4 := wrap_small _ (by omega) (by omega)
         clear hxb hxx hsb hnx hz
         generalize c.ring[k] = z at *
         go_wp2_with fail
         go_roundw
         case rel => exact ⟨k + 1, x + 4, by omega, by go_num, rfl, HN, HKr⟩
         case measure => simp [intOf]; omega
     · obtain rfl : k = c.ring.length := by omega
       have HX2 := xH (show x = L1 + sumP c.ring from by have := HX.out; rwa [List.take_length] at this)
       have HL2 := xH (show 0 ≤ x ∧ x ≤ 3000 from by have := xU HL1; have := xU HX2; have := sumP_bound c.ring; omega)
       have HK2 := HKr
       have k5 := HKr.out.cr.c5; have k11 := HKr.out.cr.c11; have k2 := HKr.out.cr.c2; have k7 := HKr.out.cr.c7
       have HKD := xH (fun m => HKr.out.dn m)
       have HLR := xH (fun W => lefR_any c.reader W); have HLK := xH (fun W => lefK_any c.keeper W)
       have HRB := xH (rdL_bound c.reader); have HKB := xH (kpL_bound c.keeper)
       have HFIN := xH (show ∀ a b : Int, a = (if c.closer = 0 then 1 else 0) → b = (if c.user = 0 then 1 else 0) → x + a + b + rdL c.reader + kpL c.keeper = leftP c from fun a b ha hb => by
        have := xU HX2; have := xU HXX
        unfold leftP
        rw [← ha, ← hb]
        have h0 := xU HLZ
        unfold lef0 at h0
        omega)
       generalize rdL c.reader = rd at *
       generalize kpL c.keeper = kp at *
       clear HX HKr hlt hk HX2 HXX HL1 HK1
       by_cases ha : c.closer = 0
       · by_cases hb : c.user = 0
         · have qa : (c.closer == 0) = true := by simp [ha]
           have qb : (c.user == 0) = true := by simp [hb]
           obtain ⟨xa, hxa⟩ : ∃ y, y = x + 1 := ⟨_, rfl⟩
           have wa : IntKind.i64.wrap (x + 1) = xa := by rw [wrap_small _ (by have := xU HL2; omega) (by have := xU HL2; omega), hxa]
           obtain ⟨xb, hxb⟩ : ∃ y, y = xa + 1 := ⟨_, rfl⟩
           have wb : IntKind.i64.wrap (xa + 1) = xb := by rw [wrap_small _ (by have := xU HL2; omega) (by have := xU HL2; omega), hxb]
           obtain ⟨xr, hxr⟩ : ∃ y, y = xb + rd := ⟨_, rfl⟩
           obtain ⟨xk, hxk⟩ : ∃ y, y = xr + kp := ⟨_, rfl⟩
           have wr1 : IntKind.i64.wrap (xb + rd) = xr := by rw [wrap_small _ (by have := xU HL2; have := xU HRB; omega) (by have := xU HL2; have := xU HRB; omega), hxr]
           have wk1 : IntKind.i64.wrap (xr + kp) = xk := by rw [wrap_small _ (by have := xU HL2; have := xU HRB; have := xU HKB; omega) (by have := xU HL2; have := xU HRB; have := xU HKB; omega), hxk]
           have HE := xH (show xk = leftP c from by have := xU HFIN 1 1 (by simp [ha]) (by simp [hb]); omega)
           clear hxr hxk ha hb hxa hxb
           go_wp2_with fail
           go_quiet (first
            | (go_at_call 82; exact Calls.quiet_of_same (xU HLR _))
            | (go_at_call 83; exact Calls.quiet_of_same (xU HLK _)))
           go_wp2_with fail
           go_ret
           exact ⟨by rw [← xU HE]; rfl, (xU HKD _).bel⟩
         · have qa : (c.closer == 0) = true := by simp [ha]
           have qb : (c.user == 0) = false := by simp [hb]
           obtain ⟨xa, hxa⟩ : ∃ y, y = x + 1 := ⟨_, rfl⟩
           have wa : IntKind.i64.wrap (x + 1) = xa := by rw [wrap_small _ (by have := xU HL2; omega) (by have := xU HL2; omega), hxa]
           obtain ⟨xr, hxr⟩ : ∃ y, y = xa + rd := ⟨_, rfl⟩
           obtain ⟨xk, hxk⟩ : ∃ y, y = xr + kp := ⟨_, rfl⟩
           have wr1 : IntKind.i64.wrap (xa + rd) = xr := by rw [wrap_small _ (by have := xU HL2; have := xU HRB; omega) (by have := xU HL2; have := xU HRB; omega), hxr]
           have wk1 : IntKind.i64.wrap (xr + kp) = xk := by rw [wrap_small _ (by have := xU HL2; have := xU HRB; have := xU HKB; omega) (by have := xU HL2; have := xU HRB; have := xU HKB; omega), hxk]
           have HE := xH (show xk = leftP c from by have := xU HFIN 1 0 (by simp [ha]) (by simp [hb]); omega)
           clear hxr hxk ha hb hxa
           go_wp2_with fail
           go_quiet (first
            | (go_at_call 82; exact Calls.quiet_of_same (xU HLR _))
            | (go_at_call 83; exact Calls.quiet_of_same (xU HLK _)))
           go_wp2_with fail
           go_ret
           exact ⟨by rw [← xU HE]; rfl, (xU HKD _).bel⟩
       · by_cases hb : c.user = 0
         · have qa : (c.closer == 0) = false := by simp [ha]
           have qb : (c.user == 0) = true := by simp [hb]
           obtain ⟨xb, hxb⟩ : ∃ y, y = x + 1 := ⟨_, rfl⟩
           have wb : IntKind.i64.wrap (x + 1) = xb := by rw [wrap_small _ (by have := xU HL2; omega) (by have := xU HL2; omega), hxb]
           obtain ⟨xr, hxr⟩ : ∃ y, y = xb + rd := ⟨_, rfl⟩
           obtain ⟨xk, hxk⟩ : ∃ y, y = xr + kp := ⟨_, rfl⟩
           have wr1 : IntKind.i64.wrap (xb + rd) = xr := by rw [wrap_small _ (by have := xU HL2; have := xU HRB; omega) (by have := xU HL2; have := xU HRB; omega), hxr]
           have wk1 : IntKind.i64.wrap (xr + kp) = xk := by rw [wrap_small _ (by have := xU HL2; have := xU HRB; have := xU HKB; omega) (by have := xU HL2; have := xU HRB; have := xU HKB; omega), hxk]
           have HE := xH (show xk = leftP c from by have := xU HFIN 0 1 (by simp [ha]) (by simp [hb]); omega)
           clear hxr hxk ha hb hxb
           go_wp2_with fail
           go_quiet (first
            | (go_at_call 82; exact Calls.quiet_of_same (xU HLR _))
            | (go_at_call 83; exact Calls.quiet_of_same (xU HLK _)))
           go_wp2_with fail
           go_ret
           exact ⟨by rw [← xU HE]; rfl, (xU HKD _).bel⟩
         · have qa : (c.closer == 0) = false := by simp [ha]
           have qb : (c.user == 0) = false := by simp [hb]
           obtain ⟨xr, hxr⟩ : ∃ y, y = x + rd := ⟨_, rfl⟩
           obtain ⟨xk, hxk⟩ : ∃ y, y = xr + kp := ⟨_, rfl⟩
           have wr1 : IntKind.i64.wrap (x + rd) = xr := by rw [wrap_small _ (by have := xU HL2; have := xU HRB; omega) (by have := xU HL2; have := xU HRB; omega), hxr]
           have wk1 : IntKind.i64.wrap (xr + kp) = xk := by rw [wrap_small _ (by have := xU HL2; have := xU HRB; have := xU HKB; omega) (by have := xU HL2; have := xU HRB; have := xU HKB; omega), hxk]
           have HE := xH (show xk = leftP c from by have := xU HFIN 0 0 (by simp [ha]) (by simp [hb]); omega)
           clear hxr hxk ha hb
           go_wp2_with fail
           go_quiet (first
            | (go_at_call 82; exact Calls.quiet_of_same (xU HLR _))
            | (go_at_call 83; exact Calls.quiet_of_same (xU HLK _)))
           go_wp2_with fail
           go_ret
           exact ⟨by rw [← xU HE]; rfl, (xU HKD _).bel⟩
end Go.Proofs.YtibgjcejddpldaaGreat
