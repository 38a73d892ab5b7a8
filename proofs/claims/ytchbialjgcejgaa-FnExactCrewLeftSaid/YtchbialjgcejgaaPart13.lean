/- The walk of the specification's l51Places. Condition: the world's parts are within their bounds. -/
import Derived.Test.YtchbialjgcejgaaPart12
import Derived.Deep.CutRange
import Derived.Handy
namespace Go.Proofs.Ytchbialjgcejgaa
open Go Go.RowKit

def PlV (P : Nat → Prop) (w W : World) (c : Cw) (A : A7) (v : Value) (l : List Int) : Prop := ∃ a n cap, v = .slice a n cap ∧ Pl P w W c A a n cap l
def rd1 (c : Cw) : List Int := if c.reader = 1 then [c.next - 1] else []
theorem rd1_len (c : Cw) : (rd1 c).length ≤ 1 := by unfold rd1; split <;> simp
set_option maxRecDepth 100000 in
set_option maxHeartbeats 6400000 in
theorem l51Places_any (c : Cw) (A : A7) (P : Nat → Prop) (w : World) (h : CwAt P w c (A.v c)) (hP : ∀ b, P b → b < w.heap.size) (hF : Form c) : Calls Try.prog 84 #[.agg #[.int .i64 c.jobs, .int .i64 c.workers, .int .i64 c.window, .int .i64 c.next, .int .i64 c.reader, .slice A.q c.queue.length A.pq, .slice A.h c.hands.length A.ph, .int .i64 c.closer, .slice A.r c.results.length A.pr, .int .i64 c.keeper, .slice A.g c.ring.length A.pg, .int .i64 c.due, .slice A.o c.out.length A.po, .int .i64 c.user, .slice A.t c.got.length A.pt, .int .i64 c.room, .slice A.s c.shut.length A.ps, .int .i64 c.ops]] w fun e w' => ∃ a cap, e = .returned (.slice a (placesL c).length cap) ∧ w'.ownsRow (w.heap.size + 1) 3 1 (.slice a (placesL c).length cap) (placesL c).length ((placesL c).map zcs).flatten ∧ Below w.heap.size w w' := by
  have HS := hide (Ag.start h hP)
  obtain ⟨s1, s2, s3, s4, s5, s6, s7, s8⟩ := hF.small
  have n1 := hF.next.1; have n2 := hF.next.2
  obtain ⟨j1, hI, hI0, hI1, hI2⟩ := info_parts infoIntM
  have HI := hide hI; have HI0 := hide hI0; have HI1 := hide hI1; have HI2 := hide hI2
  have HPL := hide (show placesL c = rd1 c ++ c.queue ++ ((c.hands.filter busyH).map Hd.job) ++ c.results ++ c.ring.filter (fun z => decide (0 ≤ z)) from rfl)
  have hsz : (w.alloc (.cells #[.int .i64 c.jobs, .int .i64 c.workers, .int .i64 c.window, .int .i64 c.next, .int .i64 c.reader, .slice A.q c.queue.length A.pq, .slice A.h c.hands.length A.ph, .int .i64 c.closer, .slice A.r c.results.length A.pr, .int .i64 c.keeper, .slice A.g c.ring.length A.pg, .int .i64 c.due, .slice A.o c.out.length A.po, .int .i64 c.user, .slice A.t c.got.length A.pt, .int .i64 c.room, .slice A.s c.shut.length A.ps, .int .i64 c.ops] 28)).heap.size = w.heap.size + 1 := by simp
  have HSZ := hide hsz
  clear h hP hF hI hI0 hI1 hI2 hsz
  go_enter Try.func84, Try.ntmps84
  go_upto_region 1 with fail
  have HP0 := hide (Pl.start (unhide HS) (unhide HSZ))
  generalize w.alloc (.cells #[.int .i64 c.jobs, .int .i64 c.workers, .int .i64 c.window, .int .i64 c.next, .int .i64 c.reader, .slice A.q c.queue.length A.pq, .slice A.h c.hands.length A.ph, .int .i64 c.closer, .slice A.r c.results.length A.pr, .int .i64 c.keeper, .slice A.g c.ring.length A.pg, .int .i64 c.due, .slice A.o c.out.length A.po, .int .i64 c.user, .slice A.t c.got.length A.pt, .int .i64 c.room, .slice A.s c.shut.length A.ps, .int .i64 c.ops] 28) = W0 at HS HP0 HSZ ⊢
  go_upto_region 2 with fail
  generalize W0.alloc (.cells #[] 3) = W1 at HP0 ⊢
  go_cut [9] from 7 to 9 (fun x wx => x = .bool (c.reader == 1) ∧ wx = W1)
  case first =>
    have k4 := (unhide HP0).ag.k4
    go_wp2_with fail
    go_meet
    case rel => exact ⟨rfl, rfl⟩
  case rest =>
    obtain ⟨rfl, rfl⟩ := hcut
    clear HS HSZ
    generalize W0.heap.size = g0 at HP0 ⊢
    clear W0
    go_upto_if 9 with fail
    go_cut [3, 9] from 10 to 15 (fun v _ wx => PlV P w wx c A v (rd1 c))
    case first =>
      by_cases hr : c.reader = 1
      · have hq : (c.reader == 1) = true := by simp [hr]
        have HR := hide (show rd1 c = [] ++ [c.next - 1] from by unfold rd1; rw [if_pos hr]; rfl)
        have hwr : IntKind.i64.wrap (c.next - 1) = c.next - 1 := by rw [IntKind.wrap_i64]; omega
        have k3 := (unhide HP0).ag.k3
        clear hr
        go_wp2_with (at_builtin; refine append_row _ rfl _ _ 25 rfl (w.heap.size + 1) 3 j1 (.int .i64 0) 1 8 Try.underlying25 (unhide HI) (unhide HI0) (unhide HI1) (unhide HI2) rfl (by decide) (.slice (some ⟨g0, 0, none⟩) 0 0) 0 (([]).map zcs).flatten rfl (World.ownsRow.alloc (unhide HP0).own _) ⟨wc.heap.size, 0, none⟩ 1 1 [.int .i64 (c.next - 1)] rfl rfl (cell_one wc _ _) (fun u hu => by simp at hu; subst hu; rfl) (by decide) (by unfold maxLen; omega) (by omega) (by have := (unhide HP0).ag.bel.size; have := (unhide HP0).ag.box.lt; simp; omega) ?_; intro v' w8 hown8 hgrow8 hat8; obtain ⟨g8, cap8, rfl, hg1, hg2⟩ := hown8.form (by omega); have HP1 := hide (((unhide HP0).on ((Below.refl _ _).alloc (Nat.le_refl _) (.cells #[.int .i64 (c.next - 1)] 3))).add [c.next - 1] rfl hown8 hgrow8); clear hown8 hgrow8 hat8)
        go_meet
        case rel => exact ⟨_, _, _, rfl, by rw [unhide HR]; exact unhide HP1⟩
      · have hq : (c.reader == 1) = false := by simp [hr]
        have HR := hide (show rd1 c = [] from by unfold rd1; rw [if_neg hr])
        clear hr
        go_wp2_with fail
        go_meet
        case rel => exact ⟨_, _, _, rfl, by rw [unhide HR]; exact unhide HP0⟩
    case rest =>
      obtain ⟨a, n, cap, rfl, hp⟩ := hcut
      have HP2 := hide hp
      have hnl := hp.len
      have hn1 : n ≤ 1 := by rw [hnl]; exact rd1_len c
      clear hp hnl HP0
      have k5 := (unhide HP2).ag.k5
      have HSRC := hide ((unhide HP2).ag.at'.q).src
      go_wp2_with (at_builtin; refine append_list _ rfl _ _ 25 rfl (w.heap.size + 1) 3 j1 (.int .i64 0) 1 8 Try.underlying25 (unhide HI) (unhide HI0) (unhide HI1) (unhide HI2) rfl (by decide) a n cap ((rd1 c).map zcs).flatten rfl (unhide HP2).own A.q c.queue.length A.pq (c.queue.map zcs).flatten rfl (zflat_lenC _) (unhide HSRC) (zflat_oneC _) (by unfold maxLen; omega) (by omega) (by have := (unhide HP2).ag.bel.size; have := (unhide HP2).ag.box.lt; omega) ?_; intro a4 cap4 w4 ho4 hg4; have HP4 := hide ((unhide HP2).add c.queue rfl (unhide ho4) (unhide hg4)); clear ho4 hg4)
      have HLB := hide (show ∀ k, ((c.hands.take k).filter busyH).length ≤ c.hands.length from fun k => Nat.le_trans (List.length_filter_le _ _) (by rw [List.length_take]; omega))
      clear k5 HSRC HP2
      go_loopw [3, 4] (fun v i wr => ∃ (k : Nat) (a : Option Addr) (n cap : Nat), k ≤ c.hands.length ∧ i = .int .i64 k ∧ v = .slice a n cap ∧ Hid (Pl P w wr c A a n cap (rd1 c ++ c.queue ++ (((c.hands.take k).filter busyH).map Hd.job)))) (fun _ i _ => c.hands.length - (intOf i).toNat)
      case atStart => exact ⟨0, _, _, _, Nat.zero_le _, rfl, rfl, by rw [List.take_zero, List.filter_nil, List.map_nil, List.append_nil]; exact HP4⟩
      case round =>
        obtain ⟨k, a, n, cap, hk, rfl, rfl, HP5⟩ := hrel
        have k6 := HP5.out.ag.k6
        have hn9 : n ≤ 40 := by
          rw [HP5.out.len]
          simp only [List.length_append, List.length_map]
          have := rd1_len c; have := unhide HLB k
          omega
        by_cases hlt : k < c.hands.length
        · obtain ⟨b, o, ha, e0, e1⟩ := HP5.out.ag.at_h k hlt
          rw [ha] at k6
          clear ha
          have htk : (c.hands.take (k + 1)).filter busyH = (c.hands.take k).filter busyH ++ (if busyH c.hands[k] then [c.hands[k]] else []) := by
            rw [List.take_succ_eq_append_getElem hlt, List.filter_append]
            congr 1
            by_cases hb : busyH c.hands[k] = true <;> simp [hb]
          have HTK := hide htk
          clear htk
          generalize c.hands[k] = hd at e0 e1 HTK
          obtain ⟨st, jb⟩ := hd
          simp only at e0 e1
          by_cases hbz : busyH ⟨st, jb⟩ = true
          · have HTK2 := hide (show rd1 c ++ c.queue ++ (((c.hands.take (k + 1)).filter busyH).map Hd.job) = (rd1 c ++ c.queue ++ (((c.hands.take k).filter busyH).map Hd.job)) ++ [jb] from by
              rw [unhide HTK, if_pos hbz, List.map_append, List.append_assoc]; simp)
            clear HTK
            have k6a := fun ob => (HP5.out.ag.on ((Below.refl _ wr).alloc (Nat.le_refl _) ob)).k6
            generalize rd1 c ++ c.queue ++ (((c.hands.take k).filter busyH).map Hd.job) = l5 at HP5 HTK2
            by_cases s1 : st = 1
            · have q1 : (st == 1) = true := by simp [s1]
              clear s1 hbz
              go_wp2_with (at_builtin; refine append_row _ rfl _ _ 25 rfl (w.heap.size + 1) 3 j1 (.int .i64 0) 1 8 Try.underlying25 (unhide HI) (unhide HI0) (unhide HI1) (unhide HI2) rfl (by decide) (.slice a n cap) n ((l5).map zcs).flatten rfl (World.ownsRow.alloc (HP5.out).own _) ⟨wr.heap.size, 0, none⟩ 1 1 [.int .i64 (jb)] rfl rfl (cell_one wr _ _) (fun u hu => by simp at hu; subst hu; rfl) (by decide) (by unfold maxLen; omega) (by omega) (by have := (HP5.out).ag.bel.size; have := (HP5.out).ag.box.lt; simp; omega) ?_; intro v' w8 hown8 hgrow8 hat8; obtain ⟨g8, cap8, rfl, hg1, hg2⟩ := hown8.form (by omega); have HP6 := hide (((HP5.out).on ((Below.refl _ _).alloc (Nat.le_refl _) (.cells #[.int .i64 (jb)] 3))).add [jb] rfl hown8 hgrow8); clear hown8 hgrow8 hat8)
              go_roundw
              case rel => exact ⟨k + 1, _, _, _, by omega, by go_num, rfl, by rw [unhide HTK2]; exact HP6⟩
              case measure => simp [intOf]; omega
            · have q1 : (st == 1) = false := by simp [s1]
              have q2 : (st == 2) = true := by simpa [busyH, s1] using hbz
              clear s1 hbz
              go_wp2_with (at_builtin; refine append_row _ rfl _ _ 25 rfl (w.heap.size + 1) 3 j1 (.int .i64 0) 1 8 Try.underlying25 (unhide HI) (unhide HI0) (unhide HI1) (unhide HI2) rfl (by decide) (.slice a n cap) n ((l5).map zcs).flatten rfl (World.ownsRow.alloc (HP5.out).own _) ⟨wr.heap.size, 0, none⟩ 1 1 [.int .i64 (jb)] rfl rfl (cell_one wr _ _) (fun u hu => by simp at hu; subst hu; rfl) (by decide) (by unfold maxLen; omega) (by omega) (by have := (HP5.out).ag.bel.size; have := (HP5.out).ag.box.lt; simp; omega) ?_; intro v' w8 hown8 hgrow8 hat8; obtain ⟨g8, cap8, rfl, hg1, hg2⟩ := hown8.form (by omega); have HP6 := hide (((HP5.out).on ((Below.refl _ _).alloc (Nat.le_refl _) (.cells #[.int .i64 (jb)] 3))).add [jb] rfl hown8 hgrow8); clear hown8 hgrow8 hat8)
              go_roundw
              case rel => exact ⟨k + 1, _, _, _, by omega, by go_num, rfl, by rw [unhide HTK2]; exact HP6⟩
              case measure => simp [intOf]; omega
          · have HTK2 := hide (show rd1 c ++ c.queue ++ (((c.hands.take (k + 1)).filter busyH).map Hd.job) = rd1 c ++ c.queue ++ (((c.hands.take k).filter busyH).map Hd.job) from by
              rw [unhide HTK, if_neg hbz, List.append_nil])
            have q1 : (st == 1) = false := by cases e : (st == 1) <;> simp_all [busyH]
            have q2 : (st == 2) = false := by cases e : (st == 2) <;> simp_all [busyH]
            clear HTK hbz
            go_wp2_with fail
            go_roundw
            case rel => exact ⟨k + 1, _, _, _, by omega, by go_num, rfl, by rw [unhide HTK2]; exact HP5⟩
            case measure => simp [intOf]; omega
        · obtain rfl : k = c.hands.length := by omega
          have HP7 := HP5
          rw [List.take_length] at HP7
          clear HP5 HLB HP4
          have HB3 := hide (show (rd1 c ++ c.queue ++ ((c.hands.filter busyH).map Hd.job)).length ≤ 40 from by rw [← HP7.out.len]; exact hn9)
          generalize rd1 c ++ c.queue ++ ((c.hands.filter busyH).map Hd.job) = l3 at HP7 HPL HB3
          have k8 := HP7.out.ag.k8
          have HSRC := hide (HP7.out.ag.at'.r).src
          go_wp2_with (at_builtin; refine append_list _ rfl _ _ 25 rfl (w.heap.size + 1) 3 j1 (.int .i64 0) 1 8 Try.underlying25 (unhide HI) (unhide HI0) (unhide HI1) (unhide HI2) rfl (by decide) a n cap ((l3).map zcs).flatten rfl HP7.out.own A.r c.results.length A.pr (c.results.map zcs).flatten rfl (zflat_lenC _) (unhide HSRC) (zflat_oneC _) (by unfold maxLen; omega) (by omega) (by have := HP7.out.ag.bel.size; have := HP7.out.ag.box.lt; omega) ?_; intro a4 cap4 w4 ho4 hg4; have HP8 := hide (HP7.out.add c.results rfl (unhide ho4) (unhide hg4)); clear ho4 hg4)
          clear k8 HSRC HP7 k6
          go_loopw [3, 5] (fun v i wr => ∃ (k : Nat) (a : Option Addr) (n cap : Nat), k ≤ c.ring.length ∧ i = .int .i64 k ∧ v = .slice a n cap ∧ Hid (Pl P w wr c A a n cap (l3 ++ c.results ++ (c.ring.take k).filter (fun z => decide (0 ≤ z))))) (fun _ i _ => c.ring.length - (intOf i).toNat)
          case atStart => exact ⟨0, _, _, _, Nat.zero_le _, rfl, rfl, by rw [List.take_zero, List.filter_nil, List.append_nil]; exact HP8⟩
          case round =>
            obtain ⟨k, a, n, cap, hk, rfl, rfl, HP5⟩ := hrel
            have k10 := HP5.out.ag.k10
            have hn99 : n ≤ 100 := by
              rw [HP5.out.len]
              simp only [List.length_append]
              have h2 := unhide HB3
              have h3 : ((c.ring.take k).filter (fun z => decide (0 ≤ z))).length ≤ c.ring.length := Nat.le_trans (List.length_filter_le _ _) (by rw [List.length_take]; omega)
              omega
            by_cases hlt : k < c.ring.length
            · obtain ⟨b, o, ha, e0⟩ := HP5.out.ag.at_g k hlt
              rw [ha] at k10
              clear ha
              have HTK := hide (show l3 ++ c.results ++ (c.ring.take (k + 1)).filter (fun z => decide (0 ≤ z)) = (l3 ++ c.results ++ (c.ring.take k).filter (fun z => decide (0 ≤ z))) ++ (if 0 ≤ c.ring[k] then [c.ring[k]] else []) from by
                rw [List.take_succ_eq_append_getElem hlt, List.filter_append, ← List.append_assoc]
                congr 1
                by_cases hb : 0 ≤ c.ring[k] <;> simp [hb])
              generalize c.ring[k] = z at e0 HTK
              generalize l3 ++ c.results ++ (c.ring.take k).filter (fun z => decide (0 ≤ z)) = l5 at HP5 HTK
              by_cases hz : 0 ≤ z
              · have hzd : decide (0 ≤ z) = true := decide_eq_true hz
                rw [if_pos hz] at HTK
                clear hz
                go_wp2_with (at_builtin; refine append_row _ rfl _ _ 25 rfl (w.heap.size + 1) 3 j1 (.int .i64 0) 1 8 Try.underlying25 (unhide HI) (unhide HI0) (unhide HI1) (unhide HI2) rfl (by decide) (.slice a n cap) n ((l5).map zcs).flatten rfl (World.ownsRow.alloc (HP5.out).own _) ⟨wr.heap.size, 0, none⟩ 1 1 [.int .i64 (z)] rfl rfl (cell_one wr _ _) (fun u hu => by simp at hu; subst hu; rfl) (by decide) (by unfold maxLen; omega) (by omega) (by have := (HP5.out).ag.bel.size; have := (HP5.out).ag.box.lt; simp; omega) ?_; intro v' w8 hown8 hgrow8 hat8; obtain ⟨g8, cap8, rfl, hg1, hg2⟩ := hown8.form (by omega); have HP6 := hide (((HP5.out).on ((Below.refl _ _).alloc (Nat.le_refl _) (.cells #[.int .i64 (z)] 3))).add [z] rfl hown8 hgrow8); clear hown8 hgrow8 hat8)
                go_roundw
                case rel => exact ⟨k + 1, _, _, _, by omega, by go_num, rfl, by rw [unhide HTK]; exact HP6⟩
                case measure => simp [intOf]; omega
              · have hzd : decide (0 ≤ z) = false := decide_eq_false hz
                rw [if_neg hz, List.append_nil] at HTK
                clear hz
                go_wp2_with fail
                go_roundw
                case rel => exact ⟨k + 1, _, _, _, by omega, by go_num, rfl, by rw [unhide HTK]; exact HP5⟩
                case measure => simp [intOf]; omega
            · obtain rfl : k = c.ring.length := by omega
              have HP9 := HP5
              rw [List.take_length, ← unhide HPL] at HP9
              have hln := HP9.out.len
              subst hln
              clear HP5
              go_wp2_with fail
              go_ret
              exact ⟨_, _, rfl, HP9.out.own, HP9.out.ag.bel⟩
end Go.Proofs.Ytchbialjgcejgaa
