/- The walks of the program's CrewTold.add, toldBy, CrewSerial. No conditions. -/
import Derived.Test.YtchlbncncipecaaWTdQ
import Derived.Test.YtchlbncncipecaaWTdS2
namespace Go.Proofs.Ytchlbncncipecaa
open Go Go.RowKit

set_option maxRecDepth 100000 in
set_option maxHeartbeats 3200000 in
theorem add_bad (base L : Nat) (w : World) (aI : Option Addr) (nI cI : Nat) (aD : Option Addr) (nD cD : Nat) (jobs : Int) (ti : List Int) (td : List Hd) (at' b : Int) (hb : b ≠ 0) (h : TdSt base L w (.slice aI nI cI) (.slice aD nD cD) jobs ti td) (hbs : base ≤ w.heap.size) (hj0 : 0 ≤ jobs) (hj1 : jobs ≤ 1000) (hld : td.length ≤ 1000) :
    Calls Try.prog 87 #[.pointer (some ⟨L, 0, none⟩), .agg #[.int .i64 at', .slice none 0 0, .int .i64 b]] w fun e w' => e = .returned (.tuple #[]) ∧ ∃ a n c, TdSt base L w' (.slice aI nI cI) (.slice a n c) (jobs + 1) ti (td ++ [⟨at', b⟩]) ∧ Below L w w' := by
  obtain ⟨j3, hJ, hW0, hW1, hW2⟩ := info_parts infoDeadM
  have HJ := hide hJ; have HW0 := hide hW0; have HW1 := hide hW1; have HW2 := hide hW2
  clear hJ hW0 hW1 hW2
  have hlt := h.lt
  obtain ⟨W2, hW2⟩ : ∃ W2, (w.alloc (.cells #[.int .i64 at', .slice none 0 0, .int .i64 b] 114)).setCell ⟨L, 3, none⟩ (.int .i64 (jobs + 1)) = W2 := ⟨_, rfl⟩
  have hst2 : TdSt base L W2 (.slice aI nI cI) (.slice aD nD cD) (jobs + 1) ti td := by rw [← hW2]; exact (h.keep ((Below.refl _ _).alloc (Nat.le_refl _) _)).setJ (jobs + 1)
  have hb2 : Below L w W2 := by rw [← hW2]; exact ((Below.refl L w).alloc (by omega) _).setCell (Nat.le_refl _) _
  have hs2 : w.heap.size + 1 ≤ W2.heap.size := by rw [← hW2]; simp
  have hd2 : W2.rowIs w.heap.size 114 3 (row3 (.int .i64 at') (.slice none 0 0) (.int .i64 b)) := by
    rw [← hW2]
    exact (row3_alloc w (.int .i64 at') (.slice none 0 0) (.int .i64 b) 114).setOther (by show w.heap.size ≠ L; omega) _
  have y3 := h.row.cell (i := 3) (by omega); have f3 := h.row.frozen 3
  simp only [row6] at y3
  have y3a : ∀ o, (w.alloc o).cell? ⟨L, 3, none⟩ = some (.int .i64 jobs) := fun o => (World.cell?_of_block (a := ⟨L, 3, none⟩) (Below.heap_alloc w o _ h.row.lt)).trans y3
  have f3a : ∀ o, (w.alloc o).frozen? ⟨L, 3, none⟩ = false := fun o => (World.frozen?_of_block (a := ⟨L, 3, none⟩) (Below.heap_alloc w o _ h.row.lt)).trans f3
  have d0 := hd2.cell (i := 0) (by omega); have d2 := hd2.cell (i := 2) (by omega)
  have y2 := hst2.row.cell (i := 2) (by omega); have f2 := hst2.row.frozen 2
  simp only [row3] at d0 d2
  simp only [row6] at y2
  have y2a : ∀ ob, (W2.alloc ob).cell? ⟨L, 2, none⟩ = some (.slice aD nD cD) := fun ob => (World.cell?_of_block (a := ⟨L, 2, none⟩) (Below.heap_alloc W2 ob _ hst2.row.lt)).trans y2
  have hne : (b != 0) = true := by simp [hb]
  have HST2 := hide hst2; have HB2 := hide hb2; have HD2 := hide hd2; have HNE := hide hne
  clear h hst2 hb2 hd2 hb
  go_enter Try.func87, Try.ntmps87
  go_wp2_with fail
  clear hW2 y3 f3 y3a f3a
  go_region_law ((refine step_append_lies _ (by rfl) _ _ _ (by rfl) base 111 j3 (.agg #[.int .i64 0, .int .i64 0]) 2 16 Try.underlying45 (unhide HJ) (unhide HW0) (unhide HW1) (unhide HW2) rfl (by decide) (.slice aD nD cD) td.length (td.map Hd.cs).flatten (by rfl) (World.ownsRow.alloc (unhide HST2).od _) ⟨W2.heap.size, 0, none⟩ 1 1 [.int .i64 at', .int .i64 b] (by first | rfl | simp) (by rfl) (cell_twoT W2 _ _ _) (fun u hu => by simp at hu; rcases hu with rfl | rfl <;> rfl) (by decide) (by unfold maxLen; omega) (by omega) (by simp; omega) (W2.heap.size + 1) (by simp) ?_; intro g2 cap2 w8 hown8 hgrow8 hat8 hlt8; have hr8 := (unhide HST2).row.of_block ((hgrow8.block L (by simp; omega) (fun e => by have := ((unhide HST2).od.lt L e.symm).1; omega)).trans (Below.heap_alloc W2 _ _ (unhide HST2).row.lt)); have u1 := hr8.cell (i := 2) (by omega); have uz1 := hr8.frozen 2; simp only [row6] at u1))
  all_goals
    have hgrow8 := grown_drew hgrow8
    have hadd := ((unhide HST2).keep ((Below.refl _ _).alloc (Nat.le_refl _) (.cells #[.int .i64 at', .int .i64 b] 111))).addD ⟨at', b⟩ hown8 hgrow8
    have hbx : Below L w (w8.setCell ⟨L, 2, none⟩ (.slice (some ⟨g2, 0, none⟩) (td.length + 1) cap2)) := (((unhide HB2).trans ((Below.refl L W2).alloc (by omega) (.cells #[.int .i64 at', .int .i64 b] 111))).trans ((Below.refl L _).grown hgrow8 (by simp; omega) (fun g e => by have := ((unhide HST2).od.lt g e).1; omega))).setCell (Nat.le_refl L) _
    have HAD := hide hadd; have HXX := hide hbx
    clear hadd hbx hown8 hgrow8 hat8 hlt8 hr8 u1 uz1
    go_wp2_with fail
    first | go_end0 | refine bodyPost_ret (results_none rfl _ _ _) rfl ?_
    exact ⟨rfl, _, _, _, unhide HAD, unhide HXX⟩

set_option maxRecDepth 100000 in
set_option maxHeartbeats 6400000 in
theorem add_good (base L : Nat) (w : World) (aI : Option Addr) (nI cI : Nat) (aD : Option Addr) (nD cD : Nat) (jobs : Int) (ti : List Int) (td : List Hd) (at' : Int) (P : Nat → Prop) (au : Option Addr) (cu : Nat) (zs : List Int) (hP : ∀ b, P b → b < L) (hz : ZsAt P w (.slice au zs.length cu) zs) (h : TdSt base L w (.slice aI nI cI) (.slice aD nD cD) jobs ti td) (hbs : base ≤ w.heap.size) (hj0 : 0 ≤ jobs) (hj1 : jobs ≤ 1000) (hli : ti.length ≤ 100000) (hzl : zs.length ≤ 1000) :
    Calls Try.prog 87 #[.pointer (some ⟨L, 0, none⟩), .agg #[.int .i64 at', .slice au zs.length cu, .int .i64 0]] w fun e w' => e = .returned (.tuple #[]) ∧ ∃ a n c, TdSt base L w' (.slice a n c) (.slice aD nD cD) (jobs + 1) (ti ++ zs) td ∧ Below L w w' := by
  obtain ⟨j1, hI, hI0, hI1, hI2⟩ := info_parts infoIntM
  have HI := hide hI; have HI0 := hide hI0; have HI1 := hide hI1; have HI2 := hide hI2
  clear hI hI0 hI1 hI2
  have hlt := h.lt
  obtain ⟨W2, hW2⟩ : ∃ W2, (w.alloc (.cells #[.int .i64 at', .slice au zs.length cu, .int .i64 0] 114)).setCell ⟨L, 3, none⟩ (.int .i64 (jobs + 1)) = W2 := ⟨_, rfl⟩
  have hst2 : TdSt base L W2 (.slice aI nI cI) (.slice aD nD cD) (jobs + 1) ti td := by rw [← hW2]; exact (h.keep ((Below.refl _ _).alloc (Nat.le_refl _) _)).setJ (jobs + 1)
  have hb2 : Below L w W2 := by rw [← hW2]; exact ((Below.refl L w).alloc (by omega) _).setCell (Nat.le_refl _) _
  have hs2 : w.heap.size + 1 ≤ W2.heap.size := by rw [← hW2]; simp
  have hd2 : W2.rowIs w.heap.size 114 3 (row3 (.int .i64 at') (.slice au zs.length cu) (.int .i64 0)) := by
    rw [← hW2]
    exact (row3_alloc w (.int .i64 at') (.slice au zs.length cu) (.int .i64 0) 114).setOther (by show w.heap.size ≠ L; omega) _
  have hz2 : ZsAt P W2 (.slice au zs.length cu) zs := hz.carry (fun b hb => hb2.block b (hP b hb)) (fun _ h => h)
  have y3 := h.row.cell (i := 3) (by omega); have f3 := h.row.frozen 3
  simp only [row6] at y3
  have y3a : ∀ o, (w.alloc o).cell? ⟨L, 3, none⟩ = some (.int .i64 jobs) := fun o => (World.cell?_of_block (a := ⟨L, 3, none⟩) (Below.heap_alloc w o _ h.row.lt)).trans y3
  have f3a : ∀ o, (w.alloc o).frozen? ⟨L, 3, none⟩ = false := fun o => (World.frozen?_of_block (a := ⟨L, 3, none⟩) (Below.heap_alloc w o _ h.row.lt)).trans f3
  have d1 := hd2.cell (i := 1) (by omega); have d2 := hd2.cell (i := 2) (by omega)
  have y1 := hst2.row.cell (i := 1) (by omega); have f1 := hst2.row.frozen 1
  simp only [row3] at d1 d2
  simp only [row6] at y1
  have hcI : nI ≤ cI := own_capT hst2.oi
  have HST2 := hide hst2; have HB2 := hide hb2; have HD2 := hide hd2; have HZ2 := hide hz2
  clear h hst2 hb2 hd2 hz hz2 hP
  by_cases hemp : zs = []
  · subst hemp
    simp only [List.length_nil] at *
    have HN : Hid (TdSt base L (W2.setCell ⟨L, 1, none⟩ (.slice aI nI cI)).drew (.slice aI nI cI) (.slice aD nD cD) (jobs + 1) (ti ++ []) td) := by show TdSt _ _ _ _ _ _ _ _; rw [List.append_nil]; exact (unhide HST2).sameI.drew
    have HBN : Hid (Below L w (W2.setCell ⟨L, 1, none⟩ (.slice aI nI cI)).drew) := ((unhide HB2).setCell (Nat.le_refl L) _).drew
    cases au with
    | none =>
      cases aI with
      | none =>
        go_enter Try.func87, Try.ntmps87
        go_wp2_with fail
        clear hW2 y3 f3 y3a f3a
        go_region
        all_goals
          go_wp2_with fail
          first | go_end0 | refine bodyPost_ret (results_none rfl _ _ _) rfl ?_
          exact ⟨rfl, _, _, _, HN, HBN⟩
      | some aI =>
        go_enter Try.func87, Try.ntmps87
        go_wp2_with fail
        clear hW2 y3 f3 y3a f3a
        go_region
        all_goals
          go_wp2_with fail
          first | go_end0 | refine bodyPost_ret (results_none rfl _ _ _) rfl ?_
          exact ⟨rfl, _, _, _, HN, HBN⟩
    | some ad =>
      cases aI with
      | none =>
        go_enter Try.func87, Try.ntmps87
        go_wp2_with fail
        clear hW2 y3 f3 y3a f3a
        go_region
        all_goals
          go_wp2_with fail
          first | go_end0 | refine bodyPost_ret (results_none rfl _ _ _) rfl ?_
          exact ⟨rfl, _, _, _, HN, HBN⟩
      | some aI =>
        go_enter Try.func87, Try.ntmps87
        go_wp2_with fail
        clear hW2 y3 f3 y3a f3a
        go_region
        all_goals
          go_wp2_with fail
          first | go_end0 | refine bodyPost_ret (results_none rfl _ _ _) rfl ?_
          exact ⟨rfl, _, _, _, HN, HBN⟩
  · have hpos : 0 < zs.length := List.length_pos_iff.2 hemp
    obtain ⟨bz, oz, rfl, -, -, hnews⟩ := zs_news (unhide HZ2) hpos
    have HNW := hide hnews
    clear hemp hnews
    go_enter Try.func87, Try.ntmps87
    go_wp2_with fail
    clear hW2 y3 f3 y3a f3a
    go_region_law ((refine step_append_lies _ (by rfl) _ _ _ (by rfl) base 3 j1 (.int .i64 0) 1 8 Try.underlying25 (unhide HI) (unhide HI0) (unhide HI1) (unhide HI2) rfl (by decide) (.slice aI nI cI) ti.length (ti.map zcs).flatten (by rfl) (unhide HST2).oi ⟨bz, oz, none⟩ zs.length cu (zs.map zcs).flatten (by first | rfl | simp) (by rw [zflat_len, Nat.mul_one]) (unhide HNW) (zflat_one _) hpos (by unfold maxLen; omega) (by omega) (by simp; omega) W2.heap.size (by rfl) ?_; intro g2 cap2 w8 hown8 hgrow8 hat8 hlt8; have hr8 := (unhide HST2).row.of_block (hgrow8.block L (unhide HST2).row.lt (fun e => by have := ((unhide HST2).oi.lt L e.symm).1; omega)); have u1 := hr8.cell (i := 1) (by omega); have uz1 := hr8.frozen 1; simp only [row6] at u1))
    all_goals
      have hgrow8 := grown_drew hgrow8
      have hadd := (unhide HST2).addI zs hown8 hgrow8
      have hbx : Below L w (w8.setCell ⟨L, 1, none⟩ (.slice (some ⟨g2, 0, none⟩) (ti.length + zs.length) cap2)) := ((unhide HB2).trans ((Below.refl L _).grown hgrow8 (by omega) (fun g e => by have := ((unhide HST2).oi.lt g e).1; omega))).setCell (Nat.le_refl L) _
      have HAD := hide hadd; have HXX := hide hbx
      clear hadd hbx hown8 hgrow8 hat8 hlt8 hr8 u1 uz1
      go_wp2_with fail
      first | go_end0 | refine bodyPost_ret (results_none rfl _ _ _) rfl ?_
      exact ⟨rfl, _, _, _, unhide HAD, unhide HXX⟩

set_option maxRecDepth 100000 in
set_option maxHeartbeats 6400000 in
theorem toldBy_any (js : List Jb) (P : Nat → Prop) (v : Value) (w : World) (hP : ∀ b, P b → b < w.heap.size) (hv : JbsAt P w v js) (hn : js.length ≤ 60) (hok : js.all jOk = true) :
    Calls Try.prog 62 #[v] w fun e w' => TolEnd w w' e js.length (tI js) (tD 0 js) := by
  obtain ⟨W0, hW0⟩ : ∃ W0, (w.alloc (.cells #[.bool false, .slice none 0 0, .slice none 0 0, .int .i64 0, .int .i64 0, .int .i64 0] 47)).alloc (.cells #[.bool true, .slice none 0 0, .slice none 0 0, .int .i64 0, .int .i64 0, .int .i64 0] 47) = W0 := ⟨_, rfl⟩
  have hb0 : Below w.heap.size w W0 := by rw [← hW0]; exact ((Below.refl _ _).alloc (Nat.le_refl _) _).alloc (by simp) _
  have hs0 : w.heap.size + 2 ≤ W0.heap.size := by rw [← hW0]; simp
  have hrR : W0.rowIs w.heap.size 47 6 (row6 (.bool false) (.slice none 0 0) (.slice none 0 0) (.int .i64 0) (.int .i64 0) (.int .i64 0)) := by rw [← hW0]; exact (row6_alloc w _ _ _ _ _ _ _).alloc _
  have hst0 : TdSt (w.heap.size + 2) (w.heap.size + 1) W0 (.slice none 0 0) (.slice none 0 0) 0 [] [] := by
    refine TdSt.start ?_ (by omega)
    rw [← hW0]
    have := row6_alloc (w.alloc (.cells #[.bool false, .slice none 0 0, .slice none 0 0, .int .i64 0, .int .i64 0, .int .i64 0] 47)) (.bool true) (.slice none 0 0) (.slice none 0 0) (.int .i64 0) (.int .i64 0) (.int .i64 0) 47
    rw [World.size_alloc] at this
    exact this
  obtain ⟨a, cap, rfl, hlen, hc⟩ := hv
  have HC := hide hc; have HP := hide hP; have HOK := hide hok; have HB0 := hide hb0; have HRR := hide hrR; have HST0 := hide hst0
  clear hc hP hok hb0 hrR hst0
  subst hW0
  go_enter Try.func62, Try.ntmps62
  go_wp2_with fail
  generalize hW0 : (w.alloc (.cells #[.bool false, .slice none 0 0, .slice none 0 0, .int .i64 0, .int .i64 0, .int .i64 0] 47)).alloc (.cells #[.bool true, .slice none 0 0, .slice none 0 0, .int .i64 0, .int .i64 0, .int .i64 0] 47) = W0 at *
  clear hW0
  go_loopw [9] (fun i wr => ∃ (k : Nat) (aI : Option Addr) (nI cI : Nat) (aD : Option Addr) (nD cD : Nat), k ≤ js.length ∧ i = .int .i64 k ∧ Hid (TdSt (w.heap.size + 2) (w.heap.size + 1) wr (.slice aI nI cI) (.slice aD nD cD) (k : Int) (tI (js.take k)) (tD 0 (js.take k))) ∧ Hid (Below (w.heap.size + 1) W0 wr)) (fun i _ => js.length - (intOf i).toNat)
  case atStart => exact ⟨0, none, 0, 0, none, 0, 0, Nat.zero_le _, rfl, HST0, hide (Below.refl _ _)⟩
  case round =>
    obtain ⟨k, aI, nI, cI, aD, nD, cD, hk, rfl, HS, HB⟩ := hrel
    by_cases hlt : k < js.length
    · obtain ⟨b, o, rfl, hpb, au, cu, hc0, hc1, hz, hbad⟩ := unhide HC k hlt
      have hbw : Below w.heap.size w wr := (unhide HB0).trans ((unhide HB).mono (by omega))
      have e0 : wr.cell? ⟨b, o + k * 2, none⟩ = some (.slice au js[k].items.length cu) := by rw [hbw.cell (unhide HP b hpb)]; exact hc0
      have e1 : wr.cell? ⟨b, o + k * 2 + 1, none⟩ = some (.int .i64 js[k].bad) := by rw [hbw.cell (unhide HP b hpb)]; exact hc1
      have hzw := fun (W : World) (hW : Below w.heap.size w W) => hz.carry (w' := W) (fun b hb => hW.block b (unhide HP b hb)) (fun _ h => h)
      have HTI := hide (tI_take js k hlt); have HTD := hide (tD_take js k hlt)
      have hld : (tD 0 (js.take k)).length ≤ 60 := by have := tD_len 0 (js.take k); rw [List.length_take] at this; omega
      have hli : (tI (js.take k)).length ≤ 2400 := by
        have hak : (js.take k).all jOk = true := by rw [List.all_eq_true]; intro j hj; have := unhide HOK; rw [List.all_eq_true] at this; exact this j (List.mem_of_mem_take hj)
        have := tI_len (js.take k) hak; rw [List.length_take] at this; omega
      have hil : js[k].items.length ≤ 40 := (jOk_parts (by have := unhide HOK; rw [List.all_eq_true] at this; exact this _ (List.getElem_mem hlt))).2
      have hsw := (unhide HB).size
      have HZ := hide hzw; have HBW := hide hbw
      have HBA := hide (fun o => ((Below.refl _ wr).alloc (Nat.le_refl _) o : Below wr.heap.size wr (wr.alloc o)))
      clear hc0 hc1 hz hbad hpb hzw hbw
      generalize js[k] = jb at *
      generalize tI (js.take k) = ti at *
      generalize tD 0 (js.take k) = td at *
      by_cases hb0' : jb.bad = 0
      · rw [if_pos hb0'] at HTI HTD
        rw [List.append_nil] at HTD
        rw [hb0'] at e1
        clear hb0'
        have HDJ := hide (fun W => doneJob_yes (k : Int) au jb.items.length cu W)
        go_wp2_with fail
        refine (unhide HDJ _).mono ?_
        rintro e w1 ⟨rfl, hb1⟩
        have hb01 := (unhide HBA _).trans (hb1.mono (unhide HBA _).size)
        have hs1 := hb01.size
        have HAD := hide (add_good (w.heap.size + 2) (w.heap.size + 1) w1 aI nI cI aD nD cD (k : Int) ti td (k : Int) P au cu jb.items (fun b hb => by have := unhide HP b hb; omega) (unhide HZ w1 ((unhide HBW).trans (hb01.mono (unhide HBW).size))) (HS.out.keep hb01) (by omega) (by omega) (by omega) (by omega) (by omega))
        have HB01 := hide hb01
        clear hb1 hb01 HDJ
        go_wp2_with fail
        refine (unhide HAD).mono ?_
        rintro e w2 ⟨rfl, a2, n2, c2, hst2, hb2⟩
        have hst3 : TdSt (w.heap.size + 2) (w.heap.size + 1) w2 (.slice a2 n2 c2) (.slice aD nD cD) ((k + 1 : Nat) : Int) (tI (js.take (k + 1))) (tD 0 (js.take (k + 1))) := by rw [unhide HTI, unhide HTD]; exact hst2
        have HST := hide hst3
        have HBN := hide (HB.out.trans (((unhide HB01).mono (by omega)).trans hb2))
        clear hst2 hst3 hb2 HAD
        go_wp2_with fail
        go_roundw
        case rel => exact ⟨k + 1, a2, n2, c2, aD, nD, cD, by omega, by go_num, HST, HBN⟩
        case measure => simp [intOf]; omega
      · rw [if_neg hb0'] at HTI HTD
        rw [List.append_nil] at HTI
        have HDJ := hide (fun W => doneJob_no (k : Int) jb.bad hb0' au jb.items.length cu W)
        have HNE := hide hb0'
        clear hb0'
        go_wp2_with fail
        refine (unhide HDJ _).mono ?_
        rintro e w1 ⟨rfl, hb1⟩
        have hb01 := (unhide HBA _).trans (hb1.mono (unhide HBA _).size)
        have hs1 := hb01.size
        have HAD := hide (add_bad (w.heap.size + 2) (w.heap.size + 1) w1 aI nI cI aD nD cD (k : Int) ti td (k : Int) jb.bad (unhide HNE) (HS.out.keep hb01) (by omega) (by omega) (by omega) (by omega))
        have HB01 := hide hb01
        clear hb1 hb01 HDJ
        go_wp2_with fail
        refine (unhide HAD).mono ?_
        rintro e w2 ⟨rfl, a2, n2, c2, hst2, hb2⟩
        have hst3 : TdSt (w.heap.size + 2) (w.heap.size + 1) w2 (.slice aI nI cI) (.slice a2 n2 c2) ((k + 1 : Nat) : Int) (tI (js.take (k + 1))) (tD 0 (js.take (k + 1))) := by rw [unhide HTI, unhide HTD]; exact hst2
        have HST := hide hst3
        have HBN := hide (HB.out.trans (((unhide HB01).mono (by omega)).trans hb2))
        clear hst2 hst3 hb2 HAD
        go_wp2_with fail
        go_roundw
        case rel => exact ⟨k + 1, aI, nI, cI, a2, n2, c2, by omega, by go_num, HST, HBN⟩
        case measure => simp [intOf]; omega
    · obtain rfl : k = js.length := by omega
      have hst := HS.out
      rw [List.take_length] at hst
      have hr := hst.row
      have q := (unhide HRR).of_block ((unhide HB).block _ (by omega))
      have y0 := hr.cell (i := 0) (by omega); have y1 := hr.cell (i := 1) (by omega); have y2 := hr.cell (i := 2) (by omega); have y3 := hr.cell (i := 3) (by omega); have y4 := hr.cell (i := 4) (by omega); have y5 := hr.cell (i := 5) (by omega)
      have x0 := q.cell (i := 0) (by omega); have x1 := q.cell (i := 1) (by omega); have x2 := q.cell (i := 2) (by omega); have x3 := q.cell (i := 3) (by omega); have x4 := q.cell (i := 4) (by omega); have x5 := q.cell (i := 5) (by omega)
      have z := q.frozen
      simp only [row6] at y0 y1 y2 y3 y4 y5 x0 x1 x2 x3 x4 x5
      have HST := hide hst; have HBW := hide ((unhide HB0).trans ((unhide HB).mono (by omega)))
      clear hst hr q
      go_wp2_with fail
      refine bodyPost_ret (v := .agg #[.bool true, .slice aI nI cI, .slice aD nD cD, .int .i64 (js.length : Int), .int .i64 0, .int .i64 0]) (by simp [results, Try.results62, go_sem, x0, x1, x2, x3, x4, x5]) rfl ?_
      obtain ⟨F0, F1, h1, h2, h3, h4⟩ := (unhide HST).end
      refine ⟨_, _, F0, F1, rfl, FlatOwn.carry h1 (fun b hb => six_heap _ _ _ _ _ _ _ _ _ (by have := (h4 b (by simp [hb])).1; omega)), FlatOwn.carry h2 (fun b hb => six_heap _ _ _ _ _ _ _ _ _ (by have := (h4 b (by simp [hb])).1; omega)), h3, fun b hb => ⟨by have := (h4 b hb).1; omega, by simp only [size_setCell]; exact (h4 b hb).2⟩, six_below (unhide HBW) (Nat.le_refl _) _ _ _ _ _ _⟩
end Go.Proofs.Ytchlbncncipecaa
