/- The walks of the specification's l53Ok, l53Told, CrewSerial. No conditions. -/
import Derived.Test.YtchlbncncipecaaTdSt
namespace Go.Proofs.Ytchlbncncipecaa
open Go Go.RowKit

theorem jOk_parts {j : Jb} (h : jOk j = true) : 0 ≤ j.bad ∧ j.items.length ≤ 40 := by unfold jOk at h; simp at h; exact h
set_option maxRecDepth 100000 in
set_option maxHeartbeats 1600000 in
theorem l53Ok_any (js : List Jb) (P : Nat → Prop) (v : Value) (w : World) (hP : ∀ b, P b → b < w.heap.size) (hv : JbsAt P w v js) :
    Calls Try.prog 58 #[v] w fun e w' => e = .returned (.bool (jsOk js)) ∧ w' = w := by
  obtain ⟨a, cap, rfl, hlen, hc⟩ := hv
  have HC := hide hc; have HP := hide hP; clear hc hP
  by_cases h60 : js.length ≤ 60
  · have hd : decide ((60 : Int) < (js.length : Int)) = false := by simp; omega
    have HN := hide (fun (k : Nat) (hk : k < js.length) (hj : jOk js[k] = false) => (show jsOk js = false by unfold jsOk; rw [all_falseJ hk hj, Bool.and_false]))
    go_enter Try.func58, Try.ntmps58
    go_wp2_with fail
    go_loopw [3] (fun i wr => ∃ (k : Nat), k ≤ js.length ∧ i = .int .i64 k ∧ Hid ((js.take k).all jOk = true) ∧ wr = w) (fun i _ => js.length - (intOf i).toNat)
    case atStart => exact ⟨0, Nat.zero_le _, rfl, hide rfl, rfl⟩
    case round =>
      obtain ⟨k, hk, rfl, HA, rfl⟩ := hrel
      by_cases hlt : k < js.length
      · obtain ⟨b, o, rfl, hpb, au, cu, hc0, hc1, hz, hbad⟩ := unhide HC k hlt
        have HTK := hide (all_takeJ hlt jOk); have HNK := hide (unhide HN k hlt)
        have hil := hz.choose_spec.choose_spec.2.1
        clear hz hpb hbad
        generalize js[k] = jb at *
        by_cases h1 : 0 ≤ jb.bad
        · by_cases h2 : jb.items.length ≤ 40
          · have HJ := hide (show jOk jb = true by unfold jOk; rw [decide_eq_true h1, decide_eq_true h2]; rfl)
            have d1 : decide (jb.bad < 0) = false := by simp; omega
            have d2 : decide ((40 : Int) < (jb.items.length : Int)) = false := by simp; omega
            clear h1 h2
            go_wp2_with fail
            go_roundw
            case rel => exact ⟨k + 1, by omega, by go_num, hide (by rw [unhide HTK, HA.out, unhide HJ]; rfl), trivial⟩
            case measure => simp [intOf]; omega
          · have HR := hide (unhide HNK (by unfold jOk; rw [decide_eq_false h2, Bool.and_false]))
            have d1 : decide (jb.bad < 0) = false := by simp; omega
            have d2 : decide ((40 : Int) < (jb.items.length : Int)) = true := by simp; omega
            clear h1 h2
            go_wp2_with fail
            go_ret
            exact ⟨by (rw [unhide HR]; rfl), rfl⟩
        · have HR := hide (unhide HNK (by unfold jOk; rw [decide_eq_false h1, Bool.false_and]))
          have d1 : decide (jb.bad < 0) = true := by simp; omega
          clear h1
          go_wp2_with fail
          go_ret
          exact ⟨by (rw [unhide HR]; rfl), rfl⟩
      · obtain rfl : k = js.length := by omega
        have hall := HA.out
        rw [List.take_length] at hall
        have HR := hide (show jsOk js = true by unfold jsOk; rw [hall, decide_eq_true h60]; rfl)
        clear hall
        go_wp2_with fail
        go_ret
        exact ⟨by (rw [unhide HR]; rfl), rfl⟩
  · have hd : decide ((60 : Int) < (js.length : Int)) = true := by simp; omega
    have HR := hide (show jsOk js = false by unfold jsOk; rw [decide_eq_false h60, Bool.false_and])
    clear h60
    go_enter Try.func58, Try.ntmps58
    go_wp2_with fail
    go_ret
    exact ⟨by (rw [unhide HR]; rfl), rfl⟩

/-- What l53Told gives. -/
def TolEnd (w w' : World) (e : Ending) (jobs : Int) (items : List Int) (dead : List Hd) : Prop :=
  ∃ (vI vD : Value) (F0 F1 : List Nat), e = .returned (.agg #[.bool true, vI, vD, .int .i64 jobs, .int .i64 0, .int .i64 0]) ∧ ZOwn w' vI items F0 ∧ HOwn w' vD dead F1 ∧ (F0 ++ F1).Nodup ∧ (∀ b, b ∈ F0 ++ F1 → w.heap.size ≤ b ∧ b < w'.heap.size) ∧ Below w.heap.size w w'

set_option maxRecDepth 100000 in
set_option maxHeartbeats 6400000 in
theorem l53Told_any (js : List Jb) (P : Nat → Prop) (v : Value) (w : World) (hP : ∀ b, P b → b < w.heap.size) (hv : JbsAt P w v js) (hn : js.length ≤ 60) (hok : js.all jOk = true) :
    Calls Try.prog 59 #[v, .int .i64 (js.length : Int)] w fun e w' => TolEnd w w' e js.length (tI js) (tD 0 js) := by
  obtain ⟨j3, hJ, hW0, hW1, hW2⟩ := info_parts infoDeadM
  obtain ⟨j1, hI, hI0, hI1, hI2⟩ := info_parts infoIntM
  have HJ := hide hJ; have HW0 := hide hW0; have HW1 := hide hW1; have HW2 := hide hW2
  have HI := hide hI; have HI0 := hide hI0; have HI1 := hide hI1; have HI2 := hide hI2
  clear hJ hW0 hW1 hW2 hI hI0 hI1 hI2
  obtain ⟨W0, hW0⟩ : ∃ W0, (w.alloc (.cells #[.bool false, .slice none 0 0, .slice none 0 0, .int .i64 0, .int .i64 0, .int .i64 0] 47)).alloc (.cells #[.bool true, .slice none 0 0, .slice none 0 0, .int .i64 (js.length : Int), .int .i64 0, .int .i64 0] 47) = W0 := ⟨_, rfl⟩
  have hb0 : Below w.heap.size w W0 := by rw [← hW0]; exact ((Below.refl _ _).alloc (Nat.le_refl _) _).alloc (by simp) _
  have hs0 : W0.heap.size = w.heap.size + 2 := by rw [← hW0]; simp
  have hrR : W0.rowIs w.heap.size 47 6 (row6 (.bool false) (.slice none 0 0) (.slice none 0 0) (.int .i64 0) (.int .i64 0) (.int .i64 0)) := by rw [← hW0]; exact (row6_alloc w _ _ _ _ _ _ _).alloc _
  have hst0 : TdSt (w.heap.size + 2) (w.heap.size + 1) W0 (.slice none 0 0) (.slice none 0 0) js.length [] [] := by
    refine TdSt.start ?_ (by omega)
    rw [← hW0]
    have := row6_alloc (w.alloc (.cells #[.bool false, .slice none 0 0, .slice none 0 0, .int .i64 0, .int .i64 0, .int .i64 0] 47)) (.bool true) (.slice none 0 0) (.slice none 0 0) (.int .i64 (js.length : Int)) (.int .i64 0) (.int .i64 0) 47
    rw [World.size_alloc] at this
    exact this
  obtain ⟨a, cap, rfl, hlen, hc⟩ := hv
  have HC := hide hc; have HP := hide hP; have HOK := hide hok; have HB0 := hide hb0; have HRR := hide hrR; have HST0 := hide hst0
  clear hc hP hok hb0 hrR hst0
  subst hW0
  go_enter Try.func59, Try.ntmps59
  go_wp2_with fail
  generalize hW0 : (w.alloc (.cells #[.bool false, .slice none 0 0, .slice none 0 0, .int .i64 0, .int .i64 0, .int .i64 0] 47)).alloc (.cells #[.bool true, .slice none 0 0, .slice none 0 0, .int .i64 (js.length : Int), .int .i64 0, .int .i64 0] 47) = W0 at *
  clear hW0
  go_loopw [6] (fun i wr => ∃ (k : Nat) (aI : Option Addr) (nI cI : Nat) (aD : Option Addr) (nD cD : Nat), k ≤ js.length ∧ i = .int .i64 k ∧ Hid (TdSt (w.heap.size + 2) (w.heap.size + 1) wr (.slice aI nI cI) (.slice aD nD cD) js.length (tI (js.take k)) (tD 0 (js.take k))) ∧ Hid (Below (w.heap.size + 1) W0 wr)) (fun i _ => js.length - (intOf i).toNat)
  case atStart => exact ⟨0, none, 0, 0, none, 0, 0, Nat.zero_le _, rfl, HST0, hide (Below.refl _ _)⟩
  case round =>
    obtain ⟨k, aI, nI, cI, aD, nD, cD, hk, rfl, HS, HB⟩ := hrel
    by_cases hlt : k < js.length
    · obtain ⟨b, o, rfl, hpb, au, cu, hc0, hc1, hz, hbad⟩ := unhide HC k hlt
      have hbw : Below w.heap.size w wr := (unhide HB0).trans ((unhide HB).mono (by omega))
      have e0 : wr.cell? ⟨b, o + k * 2, none⟩ = some (.slice au js[k].items.length cu) := by rw [hbw.cell (unhide HP b hpb)]; exact hc0
      have e1 : wr.cell? ⟨b, o + k * 2 + 1, none⟩ = some (.int .i64 js[k].bad) := by rw [hbw.cell (unhide HP b hpb)]; exact hc1
      have hzw := hz.carry (w' := wr) (fun b hb => hbw.block b (unhide HP b hb)) (fun _ h => h)
      have HTI := hide (tI_take js k hlt); have HTD := hide (tD_take js k hlt)
      have hbad0 : 0 ≤ js[k].bad := (jOk_parts (by have := unhide HOK; rw [List.all_eq_true] at this; exact this _ (List.getElem_mem hlt))).1
      have hr := HS.out.row
      have y1 := hr.cell (i := 1) (by omega); have y2 := hr.cell (i := 2) (by omega); have f1 := hr.frozen 1; have f2 := hr.frozen 2
      simp only [row6] at y1 y2
      have y2a : ∀ ob, (wr.alloc ob).cell? ⟨w.heap.size + 1, 2, none⟩ = some (.slice aD nD cD) := fun ob => (World.cell?_of_block (a := ⟨w.heap.size + 1, 2, none⟩) (Below.heap_alloc wr ob _ hr.lt)).trans y2
      have hld : (tD 0 (js.take k)).length ≤ 60 := by have := tD_len 0 (js.take k); rw [List.length_take] at this; omega
      have hli : (tI (js.take k)).length ≤ 2400 := by
        have hak : (js.take k).all jOk = true := by rw [List.all_eq_true]; intro j hj; have := unhide HOK; rw [List.all_eq_true] at this; exact this j (List.mem_of_mem_take hj)
        have := tI_len (js.take k) hak; rw [List.length_take] at this; omega
      have hil : js[k].items.length ≤ 40 := (jOk_parts (by have := unhide HOK; rw [List.all_eq_true] at this; exact this _ (List.getElem_mem hlt))).2
      have hsw := (unhide HB).size
      have HZ := hide hzw; have HBW := hide hbw
      clear hc0 hc1 hz hbad hpb hr hzw hbw
      generalize js[k] = jb at *
      generalize tI (js.take k) = ti at *
      generalize tD 0 (js.take k) = td at *
      by_cases hb0' : jb.bad = 0
      · rw [if_pos hb0'] at HTI HTD
        rw [List.append_nil] at HTD
        rw [hb0'] at e1
        have hng : decide ((0 : Int) < 0) = false := by decide
        by_cases hemp : jb.items = []
        · rw [hemp] at HTI e0
          rw [List.append_nil] at HTI
          have HN : Hid (TdSt (w.heap.size + 2) (w.heap.size + 1) (wr.setCell ⟨w.heap.size + 1, 1, none⟩ (.slice aI nI cI)).drew (.slice aI nI cI) (.slice aD nD cD) js.length (tI (js.take (k + 1))) (tD 0 (js.take (k + 1)))) := by show TdSt _ _ _ _ _ _ _ _; rw [unhide HTI, unhide HTD]; exact HS.out.sameI.drew
          have HBN : Hid (Below (w.heap.size + 1) W0 (wr.setCell ⟨w.heap.size + 1, 1, none⟩ (.slice aI nI cI)).drew) := (HB.out.setCell (by simp) _).drew
          simp only [List.length_nil] at e0
          clear hemp hb0' HZ HTI HTD
          have hcI : nI ≤ cI := own_capT HS.out.oi
          cases au with
          | none =>
            cases aI with
            | none =>
              go_wp2_with fail
              go_region
              all_goals
                go_wp2_with fail
                go_roundw
                case rel => exact ⟨k + 1, none, nI, cI, aD, nD, cD, by omega, by go_num, HN, HBN⟩
                case measure => simp [intOf]; omega
            | some aI =>
              go_wp2_with fail
              go_region
              all_goals
                go_wp2_with fail
                go_roundw
                case rel => exact ⟨k + 1, some aI, nI, cI, aD, nD, cD, by omega, by go_num, HN, HBN⟩
                case measure => simp [intOf]; omega
          | some ad =>
            cases aI with
            | none =>
              go_wp2_with fail
              go_region
              all_goals
                go_wp2_with fail
                go_roundw
                case rel => exact ⟨k + 1, none, nI, cI, aD, nD, cD, by omega, by go_num, HN, HBN⟩
                case measure => simp [intOf]; omega
            | some aI =>
              go_wp2_with fail
              go_region
              all_goals
                go_wp2_with fail
                go_roundw
                case rel => exact ⟨k + 1, some aI, nI, cI, aD, nD, cD, by omega, by go_num, HN, HBN⟩
                case measure => simp [intOf]; omega
        · have hpos : 0 < jb.items.length := List.length_pos_iff.2 hemp
          obtain ⟨bz, oz, rfl, hnz, -, hnews⟩ := zs_news (unhide HZ) hpos
          have hno : ∀ g, (Value.slice aI nI cI).ownBlock = some g → w.heap.size + 2 ≤ g := fun g e => (HS.out.oi.lt g e).1
          clear hb0' hemp
          clear hnz
          go_wp2_with fail
          go_region_law ((refine step_append_lies _ (by rfl) _ _ _ (by rfl) (w.heap.size + 2) 3 j1 (.int .i64 0) 1 8 Try.underlying25 (unhide HI) (unhide HI0) (unhide HI1) (unhide HI2) rfl (by decide) (.slice aI nI cI) ti.length (ti.map zcs).flatten (by rfl) HS.out.oi ⟨bz, oz, none⟩ jb.items.length cu (jb.items.map zcs).flatten (by first | rfl | simp) (by rw [zflat_len, Nat.mul_one]) hnews (zflat_one _) hpos (by unfold maxLen; omega) (by omega) (by simp; omega) wr.heap.size (by rfl) ?_; intro g2 cap2 w8 hown8 hgrow8 hat8 hlt8; have hr8 := HS.out.row.of_block (hgrow8.block (w.heap.size + 1) HS.out.row.lt (fun e => by have := hno _ e.symm; omega)); have u1 := hr8.cell (i := 1) (by omega); have uz1 := hr8.frozen 1; simp only [row6] at u1))
          all_goals
            have hgrow8 := grown_drew hgrow8
            have hadd := HS.out.addI jb.items hown8 hgrow8
            have hbx : Below (w.heap.size + 1) W0 (w8.setCell ⟨w.heap.size + 1, 1, none⟩ (.slice (some ⟨g2, 0, none⟩) (ti.length + jb.items.length) cap2)) := (HB.out.trans ((Below.refl (w.heap.size + 1) _).grown hgrow8 (by omega) (fun g e => by have := hno g e; omega))).setCell (by simp) _
            rw [← unhide HTI] at hadd
            have hadd2 : TdSt (w.heap.size + 2) (w.heap.size + 1) (w8.setCell ⟨w.heap.size + 1, 1, none⟩ (.slice (some ⟨g2, 0, none⟩) (ti.length + jb.items.length) cap2)) (.slice (some ⟨g2, 0, none⟩) (ti.length + jb.items.length) cap2) (.slice aD nD cD) js.length (tI (js.take (k + 1))) (tD 0 (js.take (k + 1))) := by rw [unhide HTD]; exact hadd
            have HAD := hide hadd2; have HXX := hide hbx
            clear hadd hadd2 hbx hown8 hgrow8 hat8 hlt8 hr8 u1 uz1
            go_wp2_with fail
            go_roundw
            case rel => exact ⟨k + 1, some ⟨g2, 0, none⟩, ti.length + jb.items.length, cap2, aD, nD, cD, by omega, by go_num, unhide HAD, unhide HXX⟩
            case measure => simp [intOf]; omega
      · have hgt : 0 < jb.bad := by omega
        rw [if_neg hb0'] at HTI HTD
        have HNE := hide hb0'
        clear hb0' hbad0
        go_wp2_with fail
        go_region_law ((refine step_append_lies _ (by rfl) _ _ _ (by rfl) (w.heap.size + 2) 111 j3 (.agg #[.int .i64 0, .int .i64 0]) 2 16 Try.underlying45 (unhide HJ) (unhide HW0) (unhide HW1) (unhide HW2) rfl (by decide) (.slice aD nD cD) td.length (td.map Hd.cs).flatten (by rfl) (World.ownsRow.alloc HS.out.od _) ⟨wr.heap.size, 0, none⟩ 1 1 [.int .i64 (k : Int), .int .i64 jb.bad] (by first | rfl | simp) (by rfl) (cell_twoT wr _ _ _) (fun u hu => by simp at hu; rcases hu with rfl | rfl <;> rfl) (by decide) (by unfold maxLen; omega) (by omega) (by simp; omega) (wr.heap.size + 1) (by simp) ?_; intro g2 cap2 w8 hown8 hgrow8 hat8 hlt8; have hr8 := HS.out.row.of_block ((hgrow8.block (w.heap.size + 1) (by simp; omega) (fun e => by have := (HS.out.od.lt (w.heap.size + 1) e.symm).1; omega)).trans (Below.heap_alloc wr _ _ HS.out.row.lt)); have u1 := hr8.cell (i := 2) (by omega); have uz1 := hr8.frozen 2; simp only [row6] at u1))
        all_goals
          have hgrow8 := grown_drew hgrow8
          have hadd := (HS.out.keep ((Below.refl _ _).alloc (Nat.le_refl _) (.cells #[.int .i64 (k : Int), .int .i64 jb.bad] 111))).addD ⟨(k : Int), jb.bad⟩ hown8 hgrow8
          have hbx : Below (w.heap.size + 1) W0 (w8.setCell ⟨w.heap.size + 1, 2, none⟩ (.slice (some ⟨g2, 0, none⟩) (td.length + 1) cap2)) := (((unhide HB).trans ((Below.refl _ wr).alloc (by omega) (.cells #[.int .i64 (k : Int), .int .i64 jb.bad] 111))).trans ((Below.refl (w.heap.size + 1) _).grown hgrow8 (by simp; omega) (fun g e => by have := (HS.out.od.lt g e).1; omega))).setCell (by simp) _
          rw [← unhide HTD] at hadd
          rw [List.append_nil] at HTI
          have hadd2 : TdSt (w.heap.size + 2) (w.heap.size + 1) (w8.setCell ⟨w.heap.size + 1, 2, none⟩ (.slice (some ⟨g2, 0, none⟩) (td.length + 1) cap2)) (.slice aI nI cI) (.slice (some ⟨g2, 0, none⟩) (td.length + 1) cap2) js.length (tI (js.take (k + 1))) (tD 0 (js.take (k + 1))) := by rw [unhide HTI]; exact hadd
          have HAD := hide hadd2; have HXX := hide hbx
          clear hadd hadd2 hbx hown8 hgrow8 hat8 hlt8 hr8 u1 uz1
          go_wp2_with fail
          go_roundw
          case rel => exact ⟨k + 1, aI, nI, cI, some ⟨g2, 0, none⟩, td.length + 1, cap2, by omega, by go_num, unhide HAD, unhide HXX⟩
          case measure => simp [intOf]; omega
    · obtain rfl : k = js.length := by omega
      have hst := HS.out
      rw [List.take_length] at hst
      have hr := hst.row
      have q := (unhide HRR).of_block ((unhide HB).block _ (by omega))
      have y0 := hr.cell (i := 0) (by omega); have y1 := hr.cell (i := 1) (by omega); have y2 := hr.cell (i := 2) (by omega); have y3 := hr.cell (i := 3) (by omega); have y4 := hr.cell (i := 4) (by omega); have y5 := hr.cell (i := 5) (by omega)
      have x0 := q.cell (i := 0) (by omega); have x1 := q.cell (i := 1) (by omega); have x2 := q.cell (i := 2) (by omega); have x3 := q.cell (i := 3) (by omega); have x4 := q.cell (i := 4) (by omega); have x5 := q.cell (i := 5) (by omega)
      have z := q.frozen
      simp only [row6] at y0 y1 y2 y3 y4 y5 x0 x1 x2 x3 x4 x5
      have HST := hide hst; have HBW := hide ((unhide HB0).trans ((unhide HB).mono (by omega)))
      clear hst hr q
      go_wp2_with fail
      refine bodyPost_ret (v := .agg #[.bool true, .slice aI nI cI, .slice aD nD cD, .int .i64 (js.length : Int), .int .i64 0, .int .i64 0]) (by simp [results, Try.results59, go_sem, x0, x1, x2, x3, x4, x5]) rfl ?_
      obtain ⟨F0, F1, h1, h2, h3, h4⟩ := (unhide HST).end
      refine ⟨_, _, F0, F1, rfl, FlatOwn.carry h1 (fun b hb => six_heap _ _ _ _ _ _ _ _ _ (by have := (h4 b (by simp [hb])).1; omega)), FlatOwn.carry h2 (fun b hb => six_heap _ _ _ _ _ _ _ _ _ (by have := (h4 b (by simp [hb])).1; omega)), h3, fun b hb => ⟨by have := (h4 b hb).1; omega, by simp only [size_setCell]; exact (h4 b hb).2⟩, six_below (unhide HBW) (Nat.le_refl _) _ _ _ _ _ _⟩
end Go.Proofs.Ytchlbncncipecaa
