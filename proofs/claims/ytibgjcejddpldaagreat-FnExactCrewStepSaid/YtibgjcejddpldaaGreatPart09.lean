/- A part. -/
import Derived.Test.YtibgjcejddpldaaGreatPart08
import Derived.BigQuiet
namespace Go.Proofs.YtibgjcejddpldaaGreat
open Go Go.RowKit
set_option maxRecDepth 100000
set_option maxHeartbeats 6400000
def RetB (e : Ending) (p : Prop) : Prop := ∃ r : Bool, e = .returned (.bool r) ∧ (r = true ↔ p)
theorem RetB.yes {p : Prop} (h : p) : RetB (.returned (.bool true)) p := ⟨true, rfl, by simp [h]⟩
theorem RetB.no {p : Prop} (h : ¬ p) : RetB (.returned (.bool false)) p := ⟨false, rfl, by simp [h]⟩
theorem l6In_same (a b c : Int) (w : World) : Calls Tryz.prog 36 #[.int .i64 a, .int .i64 b, .int .i64 c] w fun e w' => e = .returned (.bool (decide (b ≤ a ∧ a ≤ c))) ∧ w' = w := by
 go_enter Tryz.func36, Tryz.ntmps36
 by_cases h1 : b ≤ a
 · by_cases h2 : a ≤ c
   · go_wp2_with fail
     go_ret
     exact ⟨by simp [h2]; omega, rfl⟩
   · go_wp2_with fail
     go_ret
     exact ⟨by simp; omega, rfl⟩
 · go_wp2_with fail
   go_ret
   exact ⟨by simp; omega, rfl⟩
theorem below_drewN (w : World) : ∀ m, Below w.heap.size w (w.drewN m) := fun _ => ⟨rfl, rfl, rfl, Nat.le_refl _, fun _ _ => rfl⟩
theorem Pl.at {P : Nat → Prop} {w W : World} {c : Cw} {A : A7} {a : Option Addr} {n cap : Nat} {l : List Int} (h : Pl P w W c A a n cap l) (i : Nat) (hi : i < l.length) : ∃ b o, a = some ⟨b, o, none⟩ ∧ W.cell? ⟨b, o + i, none⟩ = some (.int .i64 l[i]) := by
 obtain ⟨Q, hq⟩ := ZAt.of_row (zs := l) (by have := h.own; rw [h.len] at this; exact this)
 obtain ⟨a', p', e, -, hc⟩ := hq.open
 simp only [Value.slice.injEq] at e
 obtain ⟨rfl, -, -⟩ := e
 obtain ⟨b, o, e, -, h1⟩ := hc i hi
 exact ⟨b, o, e, h1⟩
def jA (c : Cw) (l : List Int) : Prop := ∀ i, (h : i < l.length) → c.due ≤ l[i] ∧ l[i] ≤ c.next - 1
def jD (l : List Int) : Prop := ∀ i j, (hi : i < l.length) → (hj : j < i) → l[i] ≠ l[j]
def jN (c : Cw) (l : List Int) : Prop := c.shut.getD 3 0 = 0 → (l.length : Int) = c.next - c.due
def jR (c : Cw) : Prop := ∀ i, (h : i < c.ring.length) → -1 ≤ c.ring[i] ∧ (0 ≤ c.ring[i] → c.ring[i].tmod c.window = i)
def jG (c : Cw) : Prop := ∀ i, (h : i < c.got.length) → c.got[i] = i
def backZ (c : Cw) : Int := if c.keeper = 3 then 1 else 0
def jT (c : Cw) : Prop := c.due = c.got.length + c.out.length ∧ (c.out.length = 0 ∨ c.out.getD 0 0 = c.got.length) ∧ c.room + c.next - c.due + backZ c = c.window
instance (c : Cw) (l : List Int) : Decidable (jN c l) := by unfold jN; infer_instance
def jobsS (c : Cw) : Prop := jA c (placesL c) ∧ jD (placesL c) ∧ jN c (placesL c) ∧ jR c ∧ jG c ∧ jT c
theorem l51Jobs_any (c : Cw) (A : A7) (P : Nat → Prop) (w : World) (h : CwAt P w c (A.v c)) (hP : ∀ b, P b → b < w.heap.size) (hF : Form c) (hgot : (c.got.length : Int) ≤ c.jobs) : Calls Tryz.prog 65 #[.agg #[.int .i64 c.jobs, .int .i64 c.workers, .int .i64 c.window, .int .i64 c.next, .int .i64 c.reader, .slice A.q c.queue.length A.pq, .slice A.h c.hands.length A.ph, .int .i64 c.closer, .slice A.r c.results.length A.pr, .int .i64 c.keeper, .slice A.g c.ring.length A.pg, .int .i64 c.due, .slice A.o c.out.length A.po, .int .i64 c.user, .slice A.t c.got.length A.pt, .int .i64 c.room, .slice A.s c.shut.length A.ps, .int .i64 c.ops]] w fun e w' => RetB e (jobsS c) ∧ Below w.heap.size w w' := by
 have HS := xH (Ag.start h hP)
 have HPC := xH (fun W (hW : Ag P w W c A) => l51Places_any c A P W hW.at' (fun b hb => Nat.lt_of_lt_of_le (hW.lt b hb) hW.bel.size) hF)
 have HIN := xH (fun z lo hi W => l6In_same z lo hi W)
 obtain ⟨s1, s2, s3, s4, s5, s6, s7, s8⟩ := hF.small
 have n1 := hF.next.1; have n2 := hF.next.2; have d1 := hF.due.1; have d2 := hF.due.2
 have HFF := xH hF; have HGT := xH hgot
 obtain ⟨dd, hdu, hdr⟩ := rowWorld
 clear h hP hF hgot
 go_enter Tryz.func65, Tryz.ntmps65
 go_upto_region 1 with fail
 generalize w.alloc (.cells #[.int .i64 c.jobs, .int .i64 c.workers, .int .i64 c.window, .int .i64 c.next, .int .i64 c.reader, .slice A.q c.queue.length A.pq, .slice A.h c.hands.length A.ph, .int .i64 c.closer, .slice A.r c.results.length A.pr, .int .i64 c.keeper, .slice A.g c.ring.length A.pg, .int .i64 c.due, .slice A.o c.out.length A.po, .int .i64 c.user, .slice A.t c.got.length A.pt, .int .i64 c.room, .slice A.s c.shut.length A.ps, .int .i64 c.ops] 26) = W0 at HS ⊢
 refine wp_region_list ?_
 refine wpList_load_mid rfl _ _ rfl w.heap.size 0 rfl [.int .i64 c.jobs, .int .i64 c.workers, .int .i64 c.window, .int .i64 c.next, .int .i64 c.reader, .slice A.q c.queue.length A.pq, .slice A.h c.hands.length A.ph, .int .i64 c.closer, .slice A.r c.results.length A.pr, .int .i64 c.keeper, .slice A.g c.ring.length A.pg, .int .i64 c.due, .slice A.o c.out.length A.po, .int .i64 c.user, .slice A.t c.got.length A.pt, .int .i64 c.room, .slice A.s c.shut.length A.ps, .int .i64 c.ops] dd (xU HS).range hdu hdr info18 ?_
 refine wpList_plain rfl (fun K hK => ?_)
 go_simp
 refine (xU HPC W0 (xU HS)).mono ?_
 rintro e w1 ⟨a, cap, rfl, hown, hb⟩
 refine hK _ _ ?_
 clear hK K
 have HP1 := xH (show Pl P w w1 c A a (placesL c).length cap (placesL c) from ⟨(xU HS).on hb, ownsRow_base hown (by have := (xU HS).box.lt; omega), rfl⟩)
 have HJ := xH (show jobsS c ↔ (jA c (placesL c) ∧ jD (placesL c) ∧ jN c (placesL c) ∧ jR c ∧ jG c ∧ jT c) from Iff.rfl)
 have hll : (placesL c).length ≤ 1000 := by
  unfold placesL
  simp only [List.length_append, List.length_map]
  have e1 : (if c.reader = 1 then [c.next - 1] else ([] : List Int)).length ≤ 1 := by split <;> simp
  have e2 := List.length_filter_le busyH c.hands
  have e3 := List.length_filter_le (fun z => decide (0 ≤ z)) c.ring
  omega
 clear hown hb HS HPC
 generalize placesL c = l at HP1 HJ hll ⊢
 have hwr1 : IntKind.i64.wrap (c.next - 1) = c.next - 1 := by rw [IntKind.wrap_i64]; omega
 go_wp2_with fail
 go_loopw [4, 5] (fun i _ wr => ∃ (k : Nat), k ≤ l.length ∧ i = .int .i64 k ∧ Hid (Pl P w wr c A a l.length cap l) ∧ Hid (∀ i, (h : i < l.length) → i < k → (c.due ≤ l[i] ∧ l[i] ≤ c.next - 1) ∧ ∀ j, (hj : j < i) → l[i] ≠ l[j])) (fun i _ _ => l.length - (intOf i).toNat)
 case atStart => exact ⟨0, Nat.zero_le _, rfl, HP1, xH (fun i _ h => absurd h (by omega))⟩
 case round =>
  obtain ⟨k, hk, rfl, HP, HA⟩ := hrel
  by_cases hlt : k < l.length
  · obtain ⟨b, o, ha, e0⟩ := HP.out.at k hlt
    have HHA := xH ha
    have hsub := ha.symm
    have k11 := HP.out.ag.k11; have k3 := HP.out.ag.k3
    generalize hz : l[k] = z at e0
    have HZ := xH hz
    clear hz
    subst ha
    by_cases hin : c.due ≤ z ∧ z ≤ c.next - 1
    · have HCI := xH (show ∀ W, Calls Tryz.prog 36 #[.int .i64 z, .int .i64 c.due, .int .i64 (c.next - 1)] W fun e w' => e = .returned (.bool true) ∧ w' = W from fun W => by have := xU HIN z c.due (c.next - 1) W; rw [decide_eq_true hin] at this; exact this)
      have HIN2 := xH hin
      clear hin
      go_wp2_with fail
      go_quiet (first | (go_at_call 36; exact Calls.quiet_of_same (xU HCI _)))
      have HP2 := xH (HP.out.on (below_drewN wr nq))
      clear HP e0 k11 k3
      generalize wr.drewN nq = W2 at HP2 ⊢
      go_wp2_with fail
      obtain ⟨WA, hWA⟩ : ∃ WA, WA = W2 := ⟨_, rfl⟩
      go_loopw [5] (fun i wq => ∃ (m : Nat), m ≤ k ∧ i = .int .i64 m ∧ Hid (Pl P w wq c A (some ⟨b, o, none⟩) l.length cap l) ∧ Hid (∀ j, (hj : j < m) → (hjl : j < l.length) → z ≠ l[j])) (fun i _ => k - (intOf i).toNat)
      case atStart => exact ⟨0, Nat.zero_le _, rfl, HP2, xH (fun j hj _ => absurd hj (by omega))⟩
      case round =>
       obtain ⟨m, hm, rfl, HP3, HB⟩ := hrel
       by_cases hmk : m < k
       · obtain ⟨b1, o1, ha1, e1⟩ := HP3.out.at k hlt
         obtain ⟨b2, o2, ha2, e2⟩ := HP3.out.at m (by omega)
         simp only [Option.some.injEq, Addr.mk.injEq, and_true] at ha1 ha2
         obtain ⟨rfl, rfl⟩ := ha1
         obtain ⟨rfl, rfl⟩ := ha2
         rw [xU HZ] at e1
         have hml : m < l.length := by omega
         generalize hy : l[m]'(by omega) = y at e2
         have HY := xH hy
         clear hy
         by_cases hzy : z = y
         · have hq : (z == y) = true := by simp [hzy]
           have HNO := xH (show ¬ jobsS c from fun hj => by
            have := ((xU HJ).1 hj).2.1 k m hlt hmk
            rw [xU HZ, xU HY] at this
            exact this hzy)
           clear hzy
           go_wp2_with fail
           go_quiet (fail)
           go_wp2_with fail
           go_ret
           exact ⟨RetB.no (xU HNO), (HP3.out.on (below_drewN _ _)).ag.bel⟩
         · have hq : (z == y) = false := by simp [hzy]
           have HN2 := xH (show ∀ j, (hj : j < m + 1) → (hjl : j < l.length) → z ≠ l[j] from fun j hj hjl => by
            by_cases e : j = m
            · subst e; rw [xU HY]; exact hzy
            · exact HB.out j (by omega) hjl)
           clear hzy
           go_wp2_with fail
           go_quiet (fail)
           go_wp2_with fail
           go_roundw
           case rel => exact ⟨m + 1, by omega, by go_num, HP3.out.on (below_drewN _ _), HN2⟩
           case measure => simp [intOf]; omega
       · obtain rfl : m = k := by omega
         have HN2 := xH (show ∀ i, (h : i < l.length) → i < m + 1 → (c.due ≤ l[i] ∧ l[i] ≤ c.next - 1) ∧ ∀ j, (hj : j < i) → l[i] ≠ l[j] from fun i hi him => by
          by_cases e : i = m
          · subst e
            rw [xU HZ]
            exact ⟨xU HIN2, fun j hj => HB.out j hj (by omega)⟩
          · exact HA.out i hi (by omega))
         clear HB
         go_wp2_with fail
         go_roundw
         case rel => exact ⟨m + 1, by omega, by go_num, HP3, HN2⟩
         case measure => simp [intOf]; omega
    · have HCI := xH (show ∀ W, Calls Tryz.prog 36 #[.int .i64 z, .int .i64 c.due, .int .i64 (c.next - 1)] W fun e w' => e = .returned (.bool false) ∧ w' = W from fun W => by have := xU HIN z c.due (c.next - 1) W; rw [decide_eq_false hin] at this; exact this)
      have HNO := xH (show ¬ jobsS c from fun hj => by
       have := ((xU HJ).1 hj).1 k hlt
       rw [xU HZ] at this
       exact hin this)
      clear hin
      go_wp2_with fail
      go_quiet (first | (go_at_call 36; exact Calls.quiet_of_same (xU HCI _)))
      go_wp2_with fail
      go_ret
      exact ⟨RetB.no (xU HNO), (HP.out.on (below_drewN _ _)).ag.bel⟩
  · obtain rfl : k = l.length := by omega
    have HJA := xH (show jA c l ∧ jD l from ⟨fun i hi => (HA.out i hi hi).1, fun i j hi hj => (HA.out i hi hi).2 j hj⟩)
    clear HA
    have HPa := xH HP.out
    clear HP
    have hsh := (xU HFF).shut
    obtain ⟨b3, o3, ha3, e3⟩ := (xU HPa).ag.at_s 3 (by omega)
    have HS3 := xH (show c.shut.getD 3 0 = c.shut[3]'(by omega) from by rw [List.getD_eq_getElem?_getD, List.getElem?_eq_getElem (by omega)]; rfl)
    have k16 := (xU HPa).ag.k16; have k3 := (xU HPa).ag.k3; have k11 := (xU HPa).ag.k11
    rw [ha3, hsh] at k16
    generalize c.shut[3]'(by omega) = z3 at e3 HS3
    clear ha3 hsh
    have hwr2 : IntKind.i64.wrap (c.next - c.due) = c.next - c.due := by rw [IntKind.wrap_i64]; omega
    go_upto_region 12 with fail
    go_cut [56] from 42 to 56 (fun x wx => x = .bool (! decide (jN c l)) ∧ wx = wr)
    case first =>
     by_cases hz3 : z3 = 0
     · have hq : (z3 == 0) = true := by simp [hz3]
       have HV := xH (show (! decide (jN c l)) = ((l.length : Int) != c.next - c.due) from by
        by_cases e : (l.length : Int) = c.next - c.due
        · rw [decide_eq_true (show jN c l from fun _ => e)]; simp [e]
        · rw [decide_eq_false (show ¬ jN c l from fun h => e (h (by rw [xU HS3, hz3])))]; simp [e])
       clear hz3
       go_wp2_with fail
       go_meet
       case rel => exact ⟨by rw [xU HV], rfl⟩
     · have hq : (z3 == 0) = false := by simp [hz3]
       have HV := xH (show (! decide (jN c l)) = false from by rw [decide_eq_true (show jN c l from fun h => absurd h (by rw [xU HS3]; exact hz3))]; rfl)
       clear hz3
       go_wp2_with fail
       go_meet
       case rel => exact ⟨by rw [xU HV], rfl⟩
    case rest =>
     obtain ⟨rfl, rfl⟩ := hcut
     clear k16 k3 k11 e3 HS3 hwr2
     by_cases hjn : jN c l
     case neg =>
      have HNO := xH (show ¬ jobsS c from fun hj => hjn ((xU HJ).1 hj).2.2.1)
      rw [decide_eq_false hjn]
      clear hjn
      go_wp2_with fail
      go_ret
      exact ⟨RetB.no (xU HNO), (xU HPa).ag.bel⟩
     rw [decide_eq_true hjn]
     simp only [Bool.not_true]
     have HJN := xH hjn
     clear hjn
     have HG0 := xH (xU HPa).ag
     clear HPa
     obtain ⟨WB, hWB⟩ : ∃ WB, WB = wc := ⟨_, rfl⟩
     subst hWB
     go_wp2_with fail
     go_loopw [6] (fun i wr => ∃ (k : Nat), k ≤ c.ring.length ∧ i = .int .i64 k ∧ Hid (Ag P w wr c A) ∧ Hid (∀ i, (h : i < c.ring.length) → i < k → -1 ≤ c.ring[i] ∧ (0 ≤ c.ring[i] → c.ring[i].tmod c.window = i))) (fun i _ => c.ring.length - (intOf i).toNat)
     case atStart => exact ⟨0, Nat.zero_le _, rfl, HG0, xH (fun i _ h => absurd h (by omega))⟩
     case round =>
      obtain ⟨k, hk, rfl, HG, HA⟩ := hrel
      have k10 := HG.out.k10; have k2 := HG.out.k2
      by_cases hlt : k < c.ring.length
      · obtain ⟨b, o, ha, e0⟩ := HG.out.at_g k hlt
        rw [ha] at k10
        clear ha
        generalize hz : c.ring[k] = z at e0
        have HZ := xH hz
        clear hz
        have HNX := xH (show (-1 ≤ z ∧ (0 ≤ z → z.tmod c.window = k)) → ∀ i, (h : i < c.ring.length) → i < k + 1 → -1 ≤ c.ring[i] ∧ (0 ≤ c.ring[i] → c.ring[i].tmod c.window = i) from fun h i hi hik => by
         by_cases e : i = k
         · subst e; rw [xU HZ]; exact h
         · exact HA.out i hi (by omega))
        have HBD := xH (show ¬ (-1 ≤ z ∧ (0 ≤ z → z.tmod c.window = k)) → ¬ jobsS c from fun h hj => h (by have := ((xU HJ).1 hj).2.2.2.1 k hlt; rw [xU HZ] at this; exact this))
        have hwn : ¬ (c.window = 0) := by have := (xU HFF).ring; omega
        have HGN := xH (fun q => HG.out.on (below_drewN wr q))
        by_cases c1 : z < -1
        · have q1 : decide (z < -1) = true := decide_eq_true c1
          have HNO := xH (xU HBD (fun h => by omega))
          clear c1
          go_wp2_with fail
          go_quiet (fail)
          go_wp2_with fail
          go_ret
          exact ⟨RetB.no (xU HNO), (xU HGN _).bel⟩
        · have q1 : decide (z < -1) = false := decide_eq_false c1
          by_cases c2 : 0 ≤ z
          · have q2 : decide (0 ≤ z) = true := decide_eq_true c2
            have HSD := xH (show (-1 ≤ z ∧ (0 ≤ z → z.tmod c.window = k)) ↔ z.tmod c.window = k from ⟨fun h => h.2 c2, fun h => ⟨by omega, fun _ => h⟩⟩)
            generalize hq : z.tmod c.window = y at HSD
            clear c1 c2
            by_cases c3 : y = (k : Int)
            · have q3 : (y != (k : Int)) = false := by simp [c3]
              have HN2 := xH (xU HNX (by rw [hq]; exact ⟨by have := of_decide_eq_false q1; omega, fun _ => c3⟩))
              clear c3
              go_wp2_with fail
              go_quiet (fail)
              go_wp2_with fail
              go_roundw
              case rel => exact ⟨k + 1, by omega, by go_num, xU HGN _, HN2⟩
              case measure => simp [intOf]; omega
            · have q3 : (y != (k : Int)) = true := by simp [c3]
              have HNO := xH (xU HBD (fun h => c3 (by rw [← hq]; exact h.2 (of_decide_eq_true q2))))
              clear c3
              go_wp2_with fail
              go_quiet (fail)
              go_wp2_with fail
              go_ret
              exact ⟨RetB.no (xU HNO), (xU HGN _).bel⟩
          · have q2 : decide (0 ≤ z) = false := decide_eq_false c2
            have HN2 := xH (xU HNX ⟨by omega, fun h => absurd h c2⟩)
            clear c1 c2
            go_wp2_with fail
            go_quiet (fail)
            go_wp2_with fail
            go_roundw
            case rel => exact ⟨k + 1, by omega, by go_num, xU HGN _, HN2⟩
            case measure => simp [intOf]; omega
      · obtain rfl : k = c.ring.length := by omega
        have HJR := xH (show jR c from fun i hi => HA.out i hi hi)
        have HG1 := xH HG.out
        clear HA HG
        go_wp2_with fail
        clear k10 k2
        go_loopw [7] (fun i wr => ∃ (k : Nat), k ≤ c.got.length ∧ i = .int .i64 k ∧ Hid (Ag P w wr c A) ∧ Hid (∀ i, (h : i < c.got.length) → i < k → c.got[i] = i)) (fun i _ => c.got.length - (intOf i).toNat)
        case atStart => exact ⟨0, Nat.zero_le _, rfl, HG1, xH (fun i _ h => absurd h (by omega))⟩
        case round =>
         obtain ⟨k, hk, rfl, HG, HA⟩ := hrel
         have k14 := HG.out.k14
         have hgl : c.got.length ≤ 60 := by have := xU HGT; omega
         by_cases hlt : k < c.got.length
         · obtain ⟨b, o, ha, e0⟩ := HG.out.at_t k hlt
           rw [ha] at k14
           clear ha
           generalize hz : c.got[k] = z at e0
           have HZ := xH hz
           clear hz
           by_cases c1 : z = (k : Int)
           · have q1 : (z != (k : Int)) = false := by simp [c1]
             have HN2 := xH (show ∀ i, (h : i < c.got.length) → i < k + 1 → c.got[i] = i from fun i hi hik => by
              by_cases e : i = k
              · subst e; rw [xU HZ]; exact c1
              · exact HA.out i hi (by omega))
             clear c1
             go_wp2_with fail
             go_roundw
             case rel => exact ⟨k + 1, by omega, by go_num, HG, HN2⟩
             case measure => simp [intOf]; omega
           · have q1 : (z != (k : Int)) = true := by simp [c1]
             have HNO := xH (show ¬ jobsS c from fun hj => c1 (by have := ((xU HJ).1 hj).2.2.2.2.1 k hlt; rw [xU HZ] at this; exact this))
             clear c1
             go_wp2_with fail
             go_ret
             exact ⟨RetB.no (xU HNO), HG.out.bel⟩
         · obtain rfl : k = c.got.length := by omega
           have HJG := xH (show jG c from fun i hi => HA.out i hi hi)
           have HG2 := xH HG.out
           clear HA HG
           have HJT := xH (show jobsS c ↔ jT c from ⟨fun hj => ((xU HJ).1 hj).2.2.2.2.2, fun h => (xU HJ).2 ⟨(xU HJA).1, (xU HJA).2, xU HJN, xU HJR, xU HJG, h⟩⟩)
           have r1 := (xU HFF).room.1; have r2 := (xU HFF).room.2
           have o1 := (xU HFF).out
           have w1 : c.window ≤ 16 := by have := (xU HFF).ring; omega
           have k9 := (xU HG2).k9
           go_upto_region 25 with fail
           go_cut [106] from 104 to 106 (fun x wx => x = .bool (c.keeper == 3) ∧ wx = wr)
           case first =>
            go_wp2_with fail
            go_meet
            case rel => exact ⟨rfl, rfl⟩
           case rest =>
            obtain ⟨rfl, rfl⟩ := hcut
            go_upto_if 106 with fail
            go_cut [8, 106] from 106 to 106 (fun x _ wx => x = .int .i64 (backZ c) ∧ wx = wc)
            case first =>
             by_cases hkp : c.keeper = 3
             · have q1 : (c.keeper == 3) = true := by simp [hkp]
               have HV := xH (show backZ c = 1 from if_pos hkp)
               clear hkp
               go_wp2_with fail
               go_meet
               case rel => exact ⟨by rw [xU HV], rfl⟩
             · have q1 : (c.keeper == 3) = false := by simp [hkp]
               have HV := xH (show backZ c = 0 from if_neg hkp)
               clear hkp
               go_wp2_with fail
               go_meet
               case rel => exact ⟨by rw [xU HV], rfl⟩
            case rest =>
             obtain ⟨rfl, rfl⟩ := hcut
             have hbz : 0 ≤ backZ c ∧ backZ c ≤ 1 := by unfold backZ; split <;> omega
             have HTT := xH (show jT c ↔ (c.due = (c.got.length : Int) + (c.out.length : Int) ∧ (c.out.length = 0 ∨ c.out.getD 0 0 = c.got.length) ∧ c.room + c.next - c.due + backZ c = c.window) from Iff.rfl)
             generalize backZ c = bz at hbz HTT ⊢
             have hb1 := hbz.1; have hb2 := hbz.2
             have k11 := (xU HG2).k11; have k12 := (xU HG2).k12; have k15 := (xU HG2).k15; have k3 := (xU HG2).k3; have k2 := (xU HG2).k2
             have v1 : IntKind.i64.wrap ((c.got.length : Int) + (c.out.length : Int)) = (c.got.length : Int) + (c.out.length : Int) := by rw [IntKind.wrap_i64]; omega
             have v2 : IntKind.i64.wrap (c.room + c.next) = c.room + c.next := by rw [IntKind.wrap_i64]; omega
             have v3 : IntKind.i64.wrap (c.room + c.next - c.due) = c.room + c.next - c.due := by rw [IntKind.wrap_i64]; omega
             have v4 : IntKind.i64.wrap (c.room + c.next - c.due + bz) = c.room + c.next - c.due + bz := by rw [IntKind.wrap_i64]; omega
             have HBE := xH (fun q => ((xU HG2).on (below_drewN _ q)).bel)
             clear hbz k9
             by_cases t1 : c.due = (c.got.length : Int) + (c.out.length : Int)
             case neg =>
              have q1 : (c.due == (c.got.length : Int) + (c.out.length : Int)) = false := by simp [t1]
              have HNO := xH (show ¬ jobsS c from fun hj => t1 ((xU HTT).1 ((xU HJT).1 hj)).1)
              clear t1
              go_wp2_with fail
              go_quiet (fail)
              go_wp2_with fail
              go_ret
              exact ⟨RetB.no (xU HNO), xU HBE _⟩
             have q1 : (c.due == (c.got.length : Int) + (c.out.length : Int)) = true := by simp [t1]
             have G1 := xH t1
             clear t1
             by_cases t2 : c.out.length = 0
             case pos =>
              have q2 : (c.out.length == 0) = true := by simp [t2]
              have q2' : ((c.out.length : Int) == 0) = true := by simp [t2]
              have HVV := xH (show (c.room + c.next - c.due + bz == c.window) = true ↔ jobsS c from by
               rw [beq_iff_eq, xU HJT, xU HTT]
               exact ⟨fun h => ⟨xU G1, Or.inl t2, h⟩, fun h => h.2.2⟩)
              clear t2
              go_wp2_with fail
              go_quiet (fail)
              go_wp2_with fail
              go_ret
              exact ⟨⟨_, rfl, xU HVV⟩, xU HBE _⟩
             have q2 : (c.out.length == 0) = false := by simp [t2]
             have q2' : ((c.out.length : Int) == 0) = false := by simp [t2]
             obtain ⟨b5, o5, ha5, e5⟩ := (xU HG2).at_o 0 (by omega)
             have HY := xH (show c.out.getD 0 0 = c.out[0]'(by omega) from by rw [List.getD_eq_getElem?_getD, List.getElem?_eq_getElem (by omega)]; rfl)
             rw [ha5] at k12
             generalize c.out[0]'(by omega) = y at e5 HY
             rw [Nat.add_zero] at e5
             have hpos : 0 < c.out.length := by omega
             clear ha5
             by_cases t3 : y = (c.got.length : Int)
             case neg =>
              have q3 : (y == (c.got.length : Int)) = false := by simp [t3]
              have HNO := xH (show ¬ jobsS c from fun hj => by
               rcases ((xU HTT).1 ((xU HJT).1 hj)).2.1 with h | h
               · exact t2 h
               · exact t3 (by rw [← h, xU HY]))
              clear t3 t2
              go_wp2_with fail
              go_quiet (fail)
              go_wp2_with fail
              go_ret
              exact ⟨RetB.no (xU HNO), xU HBE _⟩
             have q3 : (y == (c.got.length : Int)) = true := by simp [t3]
             have HVV := xH (show (c.room + c.next - c.due + bz == c.window) = true ↔ jobsS c from by
              rw [beq_iff_eq, xU HJT, xU HTT]
              exact ⟨fun h => ⟨xU G1, Or.inr (by rw [xU HY, t3]), h⟩, fun h => h.2.2⟩)
             clear t3 t2
             go_wp2_with fail
             go_quiet (fail)
             go_wp2_with fail
             go_ret
             exact ⟨⟨_, rfl, xU HVV⟩, xU HBE _⟩

theorem l51All_any (c : Cw) (A : A7) (P : Nat → Prop) (w : World) (h : CwAt P w c (A.v c)) (hP : ∀ b, P b → b < w.heap.size) : Calls Tryz.prog 69 #[.agg #[.int .i64 c.jobs, .int .i64 c.workers, .int .i64 c.window, .int .i64 c.next, .int .i64 c.reader, .slice A.q c.queue.length A.pq, .slice A.h c.hands.length A.ph, .int .i64 c.closer, .slice A.r c.results.length A.pr, .int .i64 c.keeper, .slice A.g c.ring.length A.pg, .int .i64 c.due, .slice A.o c.out.length A.po, .int .i64 c.user, .slice A.t c.got.length A.pt, .int .i64 c.room, .slice A.s c.shut.length A.ps, .int .i64 c.ops]] w fun e w' => e = .returned (.bool (allE c.hands)) ∧ Below w.heap.size w w' := by
 have HS := xH (Ag.start h hP)
 have HL := xH (xU HS).len_h
 clear h hP
 go_enter Tryz.func69, Tryz.ntmps69
 go_wp2_with fail
 generalize w.alloc (.cells #[.int .i64 c.jobs, .int .i64 c.workers, .int .i64 c.window, .int .i64 c.next, .int .i64 c.reader, .slice A.q c.queue.length A.pq, .slice A.h c.hands.length A.ph, .int .i64 c.closer, .slice A.r c.results.length A.pr, .int .i64 c.keeper, .slice A.g c.ring.length A.pg, .int .i64 c.due, .slice A.o c.out.length A.po, .int .i64 c.user, .slice A.t c.got.length A.pt, .int .i64 c.room, .slice A.s c.shut.length A.ps, .int .i64 c.ops] 26) = W0 at HS ⊢
 go_loopw [3] (fun i wr => ∃ (k : Nat), k ≤ c.hands.length ∧ i = .int .i64 k ∧ wr = W0 ∧ Hid (∀ j, (hj : j < c.hands.length) → j < k → c.hands[j].state = 3)) (fun i _ => c.hands.length - (intOf i).toNat)
 case atStart => exact ⟨0, Nat.zero_le _, rfl, rfl, xH (fun j _ hj => absurd hj (by omega))⟩
 case round =>
  obtain ⟨k, hk, rfl, hw, HA⟩ := hrel
  subst hw
  have k6 := (xU HS).k6
  have hll := xU HL
  by_cases hlt : k < c.hands.length
  · obtain ⟨b, o, ha, e0, -⟩ := (xU HS).at_h k hlt
    rw [ha] at k6
    by_cases h3 : c.hands[k].state = 3
    case pos =>
     have HN := xH (show ∀ j, (hj : j < c.hands.length) → j < k + 1 → c.hands[j].state = 3 from fun j hj hjk => by
      by_cases e : j = k
      · subst e; exact h3
      · exact HA.out j hj (by omega))
     have hz : (c.hands[k].state != 3) = false := by simp [h3]
     generalize c.hands[k].state = z at e0 hz
     clear h3
     go_wp2_with fail
     go_roundw
     case rel => exact ⟨k + 1, by omega, by go_num, by first | rfl | trivial, HN⟩
     case measure => simp [intOf]; omega
    case neg =>
     have HV := xH (show allE c.hands = false from by
      unfold allE
      rw [List.all_eq_false]; exact ⟨_, List.getElem_mem hlt, by simp [h3]⟩)
     have hz : (c.hands[k].state != 3) = true := by simp [h3]
     generalize c.hands[k].state = z at e0 hz
     clear h3
     go_wp2_with fail
     go_ret
     exact ⟨by rw [xU HV]; rfl, (xU HS).bel⟩
  · have HV := xH (show allE c.hands = true from by
     unfold allE
     rw [List.all_eq_true]
     intro x hx
     obtain ⟨j, hj, rfl⟩ := List.getElem_of_mem hx
     have := HA.out j hj (by omega)
     simp [this])
    obtain rfl : k = c.hands.length := by omega
    go_wp2_with fail
    go_ret
    exact ⟨by rw [xU HV]; rfl, (xU HS).bel⟩
theorem l51Any_any (c : Cw) (A : A7) (P : Nat → Prop) (w : World) (h : CwAt P w c (A.v c)) (hP : ∀ b, P b → b < w.heap.size) : Calls Tryz.prog 92 #[.agg #[.int .i64 c.jobs, .int .i64 c.workers, .int .i64 c.window, .int .i64 c.next, .int .i64 c.reader, .slice A.q c.queue.length A.pq, .slice A.h c.hands.length A.ph, .int .i64 c.closer, .slice A.r c.results.length A.pr, .int .i64 c.keeper, .slice A.g c.ring.length A.pg, .int .i64 c.due, .slice A.o c.out.length A.po, .int .i64 c.user, .slice A.t c.got.length A.pt, .int .i64 c.room, .slice A.s c.shut.length A.ps, .int .i64 c.ops]] w fun e w' => e = .returned (.bool (anyE c.hands)) ∧ Below w.heap.size w w' := by
 have HS := xH (Ag.start h hP)
 have HL := xH (xU HS).len_h
 clear h hP
 go_enter Tryz.func92, Tryz.ntmps92
 go_wp2_with fail
 generalize w.alloc (.cells #[.int .i64 c.jobs, .int .i64 c.workers, .int .i64 c.window, .int .i64 c.next, .int .i64 c.reader, .slice A.q c.queue.length A.pq, .slice A.h c.hands.length A.ph, .int .i64 c.closer, .slice A.r c.results.length A.pr, .int .i64 c.keeper, .slice A.g c.ring.length A.pg, .int .i64 c.due, .slice A.o c.out.length A.po, .int .i64 c.user, .slice A.t c.got.length A.pt, .int .i64 c.room, .slice A.s c.shut.length A.ps, .int .i64 c.ops] 26) = W0 at HS ⊢
 go_loopw [3] (fun i wr => ∃ (k : Nat), k ≤ c.hands.length ∧ i = .int .i64 k ∧ wr = W0 ∧ Hid (∀ j, (hj : j < c.hands.length) → j < k → ¬ c.hands[j].state = 3)) (fun i _ => c.hands.length - (intOf i).toNat)
 case atStart => exact ⟨0, Nat.zero_le _, rfl, rfl, xH (fun j _ hj => absurd hj (by omega))⟩
 case round =>
  obtain ⟨k, hk, rfl, hw, HA⟩ := hrel
  subst hw
  have k6 := (xU HS).k6
  have hll := xU HL
  by_cases hlt : k < c.hands.length
  · obtain ⟨b, o, ha, e0, -⟩ := (xU HS).at_h k hlt
    rw [ha] at k6
    by_cases h3 : c.hands[k].state = 3
    case neg =>
     have HN := xH (show ∀ j, (hj : j < c.hands.length) → j < k + 1 → ¬ c.hands[j].state = 3 from fun j hj hjk => by
      by_cases e : j = k
      · subst e; exact h3
      · exact HA.out j hj (by omega))
     have hz : (c.hands[k].state == 3) = false := by simp [h3]
     generalize c.hands[k].state = z at e0 hz
     clear h3
     go_wp2_with fail
     go_roundw
     case rel => exact ⟨k + 1, by omega, by go_num, by first | rfl | trivial, HN⟩
     case measure => simp [intOf]; omega
    case pos =>
     have HV := xH (show anyE c.hands = true from by
      unfold anyE
      rw [List.any_eq_true]; exact ⟨_, List.getElem_mem hlt, by simp [h3]⟩)
     have hz : (c.hands[k].state == 3) = true := by simp [h3]
     generalize c.hands[k].state = z at e0 hz
     clear h3
     go_wp2_with fail
     go_ret
     exact ⟨by rw [xU HV]; rfl, (xU HS).bel⟩
  · have HV := xH (show anyE c.hands = false from by
     unfold anyE
     rw [List.any_eq_false]
     intro x hx
     obtain ⟨j, hj, rfl⟩ := List.getElem_of_mem hx
     have := HA.out j hj (by omega)
     simp [this])
    obtain rfl : k = c.hands.length := by omega
    go_wp2_with fail
    go_ret
    exact ⟨by rw [xU HV]; rfl, (xU HS).bel⟩
theorem l51Due_any (c : Cw) (A : A7) (P : Nat → Prop) (w : World) (h : CwAt P w c (A.v c)) (hP : ∀ b, P b → b < w.heap.size) (hF : Form c) : Calls Tryz.prog 71 #[.agg #[.int .i64 c.jobs, .int .i64 c.workers, .int .i64 c.window, .int .i64 c.next, .int .i64 c.reader, .slice A.q c.queue.length A.pq, .slice A.h c.hands.length A.ph, .int .i64 c.closer, .slice A.r c.results.length A.pr, .int .i64 c.keeper, .slice A.g c.ring.length A.pg, .int .i64 c.due, .slice A.o c.out.length A.po, .int .i64 c.user, .slice A.t c.got.length A.pt, .int .i64 c.room, .slice A.s c.shut.length A.ps, .int .i64 c.ops]] w fun e w' => e = .returned (.bool (dueIn c)) ∧ Below w.heap.size w w' := by
 have HS := xH (Ag.start h hP)
 clear h hP
 obtain ⟨s1, s2, s3, s4, s5, s6, s7, s8⟩ := hF.small
 have hd := hF.due; have hwn := hF.ring
 obtain ⟨d, hde⟩ : ∃ d : Nat, c.due = d := ⟨c.due.toNat, by omega⟩
 have hm : c.due.tmod c.window = ((dueAt c : Nat) : Int) := by
  rw [hde, ← hwn, Int.tmod_eq_emod_of_nonneg (by omega)]
  unfold dueAt
  rw [hde]
  simp
 have hdl : dueAt c < c.ring.length := Nat.mod_lt _ s4
 have hnz : ¬ (c.window = 0) := by omega
 have hv : dueIn c = (c.ring[dueAt c] == c.due) := by unfold dueIn; rw [List.getD_eq_getElem?_getD, List.getElem?_eq_getElem hdl]; rfl
 obtain ⟨z, hz⟩ : ∃ z, c.ring[dueAt c] = z := ⟨_, rfl⟩
 rw [hv, hz]
 have HZ := xH hz
 clear hz
 clear hv hde hd hwn s1 s2 s3 s5 s6 s7 s8 hF
 go_enter Tryz.func71, Tryz.ntmps71
 go_wp2_with fail
 generalize w.alloc (.cells #[.int .i64 c.jobs, .int .i64 c.workers, .int .i64 c.window, .int .i64 c.next, .int .i64 c.reader, .slice A.q c.queue.length A.pq, .slice A.h c.hands.length A.ph, .int .i64 c.closer, .slice A.r c.results.length A.pr, .int .i64 c.keeper, .slice A.g c.ring.length A.pg, .int .i64 c.due, .slice A.o c.out.length A.po, .int .i64 c.user, .slice A.t c.got.length A.pt, .int .i64 c.room, .slice A.s c.shut.length A.ps, .int .i64 c.ops] 26) = W0 at HS ⊢
 obtain ⟨b, o, ha, e0⟩ := (xU HS).at_g (dueAt c) hdl
 have k10 := (xU HS).k10; have k11 := (xU HS).k11; have k2 := (xU HS).k2
 rw [ha] at k10
 rw [xU HZ] at e0
 clear HZ
 generalize dueAt c = q at hm hdl e0
 have HB := xH (xU HS).bel
 clear HS
 go_region
 go_wp2_with fail
 go_ret
 exact ⟨rfl, (xU HB).trans (Below.refl _ _).drew⟩
end Go.Proofs.YtibgjcejddpldaaGreat
