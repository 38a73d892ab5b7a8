/- A part. -/
import Derived.Test.YtbkagahmiibclaaGreatDoorPart23
namespace Go.Proofs.YtbkagahmiibclaaGreatDoor
open Go Go.RowKit
set_option maxRecDepth 100000
set_option maxHeartbeats 6400000
theorem many_5 (d : Nat) (IH : RdSaid d) (hd : d ≤ 6) (w : World) (R : Nat) (s : ByteArray) (at' : Nat) (hs : s.size ≤ 1048576) (h : Rdr w R s at' false) (ha : at' < s.size) :
 Calls Tryz.prog 80 #[.pointer (some ⟨R, 0, none⟩), .int .i64 5, .int .u8 125, .int .i64 (6 - d)] w fun e w' => MnEnd d true 125 5 w R s at' e w' := by
 unfold MnEnd
 have HST := hH (MC.start (sort := 5) h)
 obtain ⟨c0, c1, c2, f1, f2⟩ := h.cells
 have HI := hH IH
 have hRw := h.lt
 have hd1 : (6 : Int) - (d : Int) + 1 = 7 - d := by omega
 have HWR := hH (show IntKind.i64.wrap (7 - (d : Int)) = 7 - d by rw [IntKind.wrap_i64]; omega)
 have hl1 : (lf s (at' + 1)).length < (lf s at').length + 1 := by rw [lf_len, lf_len]; omega
 generalize hL : lp (spT d) true 125 ((lf s at').length + 1) [] [] (lf s (at' + 1)) () = L at *
 have HL := hH hL
 obtain ⟨i0, hi, hz0, hz1, hz2⟩ := info_parts infoTreeM
 obtain ⟨j0, hj, hy0, hy1, hy2⟩ := info_parts infoStrM
 have HII := hH hi; have HZ0 := hH hz0; have HZ1 := hH hz1; have HZ2 := hH hz2
 have HJJ := hH hj; have HY0 := hH hy0; have HY1 := hH hy1; have HY2 := hH hy2
 clear h IH hL hi hz0 hz1 hz2 hj hy0 hy1 hy2
 go_enter Tryz.func80, Tryz.ntmps80
 go_wp2_with fail
 go_loopw [] (fun wr => ∃ (ns : List ByteArray) (ks : List Tr) (n : Nat) (aN : Option Addr) (capN : Nat) (aK : Option Addr) (capK : Nat) (xs : List Value) (a : Nat) (bad : Bool), Hid (ns.length = n ∧ ks.length = n) ∧ Hid (LR L d true 125 s a bad ns ks) ∧ Hid (MC w wr R s 5 a bad (.slice aN n capN) (.slice aK n capK) ns ks xs)) (fun wr => mz wr R s)
 case atStart => exact ⟨[], [], 0, none, 0, none, 0, [], at' + 1, false, hH ⟨rfl, rfl⟩, hH (Or.inl ⟨rfl, by omega, by simp, _, hl1, uh HL⟩), HST⟩
 case round =>
  obtain ⟨ns, ks, n, aN, capN, aK, capK, xs, a, bad, HN, HF, HM⟩ := hrel
  obtain ⟨hn1, hn2⟩ := HN.out
  clear HST c0 c1 c2 f1 f2
  obtain ⟨y0, y1, y2, g1, g2⟩ := HM.out.rdr.cells
  have hfar := HF.out.at
  obtain ⟨t0, t1, t2, t3, t4⟩ := cs5 HM.out.row (by omega)
  have o0 := HM.out.out.cell (i := 0) (by omega); have o1 := HM.out.out.cell (i := 1) (by omega); have o2 := HM.out.out.cell (i := 2) (by omega); have o3 := HM.out.out.cell (i := 3) (by omega); have o4 := HM.out.out.cell (i := 4) (by omega)
  have p0 := HM.out.out.frozen 0; have p1 := HM.out.out.frozen 1; have p2 := HM.out.out.frozen 2; have p3 := HM.out.out.frozen 3; have p4 := HM.out.out.frozen 4
  simp only [row5] at t0 t1 t2 t3 t4 o0 o1 o2 o3 o4
  have hne : R ≠ w.heap.size := by omega
  have hne1 : R ≠ w.heap.size + 1 := by omega
  cases hbad : bad
  · subst hbad
    have hf : a ≤ s.size ∧ ks.length ≤ a ∧ ∃ f, (lf s a).length < f ∧ lp (spT d) true 125 f ns ks (lf s a) () = L := by
     rcases HF.out with ⟨-, h⟩ | ⟨h, -⟩
     · exact h
     · cases h
    obtain ⟨hale, hka, f, hfl, hXf⟩ := hf
    have hmz := mz_no HM.out.rdr
    have HMZ := hH hmz; clear hmz
    have HLK2 := hH (fun W (hW : W.heap = wr.heap) => look_any W R s a false (HM.out.rdr.heap hW))
    by_cases hce : bv s a = 125
    · have hhd : (lf s a).head? = some 125 := (bv_head s a 125 (by decide)).2 hce
      obtain ⟨hxe, hroom⟩ := l_end hhd hfl hXf
      have HXE := hH hxe
      rw [hce] at HLK2
      clear hxe hXf hfl
      go_wp2_with (go_at_call 78; refine (uh HLK2 _ (by rfl)).mono ?_; rintro e w' ⟨rfl, m, rfl⟩)
      refine bodyPost_ret (v := .agg #[.int .i64 5, .int .i64 0, .string ByteArray.empty, .slice aN n capN, .slice aK n capK]) (by simp [results, Tryz.results80, go_sem, o0, o1, o2, o3, o4]) rfl ?_
      obtain ⟨r1, r2, r3⟩ := (HM.out.drewN m).finish ⟨by decide, by decide⟩ _ rfl
      exact ⟨_, _, _, _, rfl, r1, r2, r3, by omega, fun _ => ⟨hroom, ns, ks, rfl, uh HXE⟩, fun h => by cases h⟩
    · have hnh : (lf s a).head? ≠ some 125 := fun e => hce ((bv_head s a 125 (by decide)).1 e)
      have hnb : n ≤ 1048576 := by omega
      have heat1 : 0 < n → ∀ W, Rdr W R s a false → Calls Tryz.prog 51 #[.pointer (some ⟨R, 0, none⟩), .string (w1 44)] W fun e w' => ∃ a1 bad1, e = .returned (.tuple #[]) ∧ Rdr w' R s a1 bad1 ∧ L1 L s a ks.length a1 bad1 ∧ But R W w' := fun h0 W hW => by
       rcases l1_eat hale hnh hfl hXf (by omega) with ⟨hp, ho⟩ | ⟨hp, ho⟩
       · exact (eat_yes W R s (w1 44) a false hs hW (by omega) (by decide) (by decide) hp).mono fun e w' ⟨h1, h2, h3⟩ => ⟨_, _, h1, h2, ho, h3⟩
       · exact (eat_no W R s (w1 44) a false hs hW (by omega) (by decide) (by decide) hp).mono fun e w' ⟨h1, h2, h3⟩ => ⟨_, _, h1, h2, ho, h3⟩
      have heat3 : ∀ W a1 bad1, Rdr W R s (a1 + rn nameByte s a1) bad1 → L1 L s a ks.length a1 bad1 → Calls Tryz.prog 51 #[.pointer (some ⟨R, 0, none⟩), .string (w1 58)] W fun e w' => ∃ a3 bad3, e = .returned (.tuple #[]) ∧ Rdr w' R s a3 bad3 ∧ L3 L s true ns a1 bad1 (ns ++ [⟨((lf s a1).takeWhile nameByte).toArray⟩]) a3 bad3 ∧ But R W w' := fun W a1 bad1 hW h1 => by
       have hle := rn_le nameByte s a1 h1.2.1
       rcases l3_eat hnh hfl hXf h1 with ⟨hp, ho⟩ | ⟨hp, ho⟩
       · exact (eat_yes W R s (w1 58) _ bad1 hs hW (by omega) (by decide) (by decide) hp).mono fun e w' ⟨h1, h2, h3⟩ => ⟨_, _, h1, h2, ho, h3⟩
       · exact (eat_no W R s (w1 58) _ bad1 hs hW (by omega) (by decide) (by decide) hp).mono fun e w' ⟨h1, h2, h3⟩ => ⟨_, _, h1, h2, ho, h3⟩
      have hsub : ∀ W a1 bad1 ns' a3 bad3, Rdr W R s a3 bad3 → L1 L s a ks.length a1 bad1 → L3 L s true ns a1 bad1 ns' a3 bad3 → Calls Tryz.prog 53 #[.pointer (some ⟨R, 0, none⟩), .int .i64 (7 - d)] W fun e w' => ∃ (t : Tr) (ap : Option Addr) (cp : Nat) (aq : Option Addr) (cq : Nat) (a4 : Nat) (bad4 : Bool), e = .returned (.agg #[.int .i64 t.sort, .int .i64 t.num, .string t.text, .slice ap t.names.length cp, .slice aq t.kids.length cq]) ∧ Hid (Rep (New W w') w' t ⟨.int .i64 t.sort, .int .i64 t.num, .string t.text, .slice ap t.names.length cp, .slice aq t.kids.length cq⟩) ∧ Hid (Rdr w' R s a4 bad4) ∧ Hid (LR L d true 125 s a4 bad4 ns' (ks ++ [t]) ∧ (bad4 = false → a < a4 ∧ a4 ≤ s.size)) ∧ Hid (But R W w') ∧ W.heap.size ≤ w'.heap.size := fun W a1 bad1 ns' a3 bad3 hW h1 h3 => by
       refine (uh HI W R s a3 bad3 hs hW h3.2.1).mono ?_
       rintro e w' ⟨t, ⟨x0, x1, x2, x3, x4⟩, a4, bad4, rfl, hrep, hr4, hb4, hfar4, hyes, hno⟩
       obtain ⟨q0, q1, q2, -, -, -, ⟨ap, cp, q3, -⟩, aq, cq, q4, -⟩ := hrep.open
       simp only at q0 q1 q2 q3 q4
       subst q0 q1 q2 q3 q4
       exact ⟨t, _, _, _, _, a4, bad4, rfl, hrep, hr4, l_next hka hnh hfl hXf h1 h3 ⟨hfar4, hyes, hno⟩, hb4, hb4.size⟩
      have hm0 : n = 0 → L1 L s a ks.length a false := fun h => l1_zero hale (by omega)
      have HE1 := hH heat1; have HSUB := hH hsub; have HM0 := hH hm0
      have HE3 := hH heat3
      clear heat3
      generalize bv s a = v2 at *
      clear heat1 hsub hm0 hXf hfl hnh HI
      rcases Nat.eq_zero_or_pos n with h0 | h0
      · have HM1 := hH (uh HM0 h0)
        have hz : decide ((0 : Int) < (n : Int)) = false := by simp; omega
        clear HE1 HM0
        go_wp2_with (go_at_call 78; refine (uh HLK2 _ (by rfl)).mono ?_; rintro e w' ⟨rfl, m, rfl⟩)
        have HC3 := hH (HM.out.drewN m)
        obtain ⟨W3, hW3⟩ : ∃ W3, wr.drewN m = W3 := ⟨_, rfl⟩
        rw [hW3] at HC3 ⊢
        obtain ⟨a1, ha1⟩ : ∃ a1, a1 = a := ⟨_, rfl⟩
        obtain ⟨bad1, hb1⟩ : ∃ b, b = false := ⟨_, rfl⟩
        rw [← ha1, ← hb1] at HC3
        have HM1' : Hid (L1 L s a ks.length a1 bad1) := by rw [ha1, hb1]; exact HM1
        clear HM1
        have HM1 := HM1'
        clear HM1' hW3 ha1 hb1 HM HLK2 y0 y1 y2 g1 g2 t0 t1 t2 t3 t4 o0 o1 o2 o3 o4 p0 p1 p2 p3 p4 hz h0
        have hname := fun W (hW : Rdr W R s a1 bad1) => name_any W R s a1 bad1 hs hW (uh HM1).2.1
        have heat31 := fun W (hW : Rdr W R s (a1 + rn nameByte s a1) bad1) => uh HE3 W a1 bad1 hW (uh HM1)
        have hnm : (⟨((lf s a1).takeWhile nameByte).toArray⟩ : ByteArray).size ≤ 1048576 := by
         have h1 := (List.takeWhile_prefix (p := nameByte) (l := lf s a1)).length_le
         have h2 := lf_len s a1
         show ((lf s a1).takeWhile nameByte).toArray.size ≤ _
         simp only [List.size_toArray]
         omega
        generalize (⟨((lf s a1).takeWhile nameByte).toArray⟩ : ByteArray) = nm at *
        have HNM := hH hnm; clear hnm
        have hcallN : Calls Tryz.prog 50 #[.pointer (some ⟨R, 0, none⟩)] W3.drew fun e w4 => e = .returned (.string nm) ∧ Hid (MC w w4 R s 5 (a1 + rn nameByte s a1) bad1 (.slice aN n capN) (.slice aK n capK) ns ks xs) ∧ w4.cell? ⟨w.heap.size + 1, 3, none⟩ = some (.slice aN n capN) ∧ (∀ ob, (w4.alloc ob).cell? ⟨w.heap.size + 1, 3, none⟩ = some (.slice aN n capN)) ∧ w.heap.size + 1 < w4.heap.size := by
         refine (hname W3.drew (uh HC3).rdr.drew).mono ?_
         rintro e w4 ⟨rfl, hr4, hb4⟩
         have hc4 := ((uh HC3).drewN 1).move hb4 hr4
         exact ⟨rfl, hc4, hc4.row.cell (i := 3) (by omega), fun ob => (hc4.row.alloc ob).cell (i := 3) (by omega), hc4.row.lt⟩
        have HCN := hH hcallN; have HE31 := hH heat31
        have e1 := (uh HC3).row.cell (i := 3) (by omega)
        simp only [row5] at e1
        have e1a : ∀ ob, (W3.alloc ob).cell? ⟨w.heap.size + 1, 3, none⟩ = some (.slice aN n capN) := fun ob => (((uh HC3).row.alloc ob).cell (i := 3) (by omega))
        clear hname hcallN heat31 HE3
        go_cut [29, 30] from 37 to 45 (fun _ _ wx => ∃ g1 cap1, Hid (MC w wx R s 5 (a1 + rn nameByte s a1) bad1 (.slice (some ⟨g1, 0, none⟩) (n + 1) cap1) (.slice aK n capK) (ns ++ [nm]) ks xs))
        case first =>
         go_wp2_with fail
         go_region_law (first
          | ((refine step_append_lies _ (by rfl) _ _ _ (by rfl) (w.heap.size + 2) 9 j0 (.string ByteArray.empty) 1 16 Tryz.underlying23 (uh HJJ) (uh HY0) (uh HY1) (uh HY2) rfl (by decide) (.slice aN n capN) n (ns.map Value.string) (by rfl) (by have := (uh HC4).got.names; rw [hn1] at this; exact this.alloc _) ⟨w4.heap.size, 0, none⟩ 1 1 [.string nm] (by rfl) (by rfl) (cell_one w4 _ _) (fun u hu => by simp at hu; subst hu; rfl) (by decide) (by unfold maxLen; omega) (by omega) (by simp; omega) (w4.heap.size + 1) (by simp) ?_; intro g1 cap1 w5 hown5 hgrow5 hat5 hlt5; have u1 := (MC.atN (uh HC4) hgrow5).cell (i := 3) (by omega); have uz := (MC.atN (uh HC4) hgrow5).frozen 3; simp only [row5] at u1))
          | (rw [if_pos (by first | rfl | simp [Region.wanted])]; go_simp; refine (uh HCN).mono ?_; rintro e w4 ⟨rfl, HC4, t1b, t1a, hBlt⟩))
         all_goals
          have hz4 : ∀ o, (w4.alloc o).heap.size = w4.heap.size + 1 := fun o => World.size_alloc _ _
          have hc5 := MC.name (nm := nm) (uh HC4) (Nat.le_trans (uh HNM) (by decide)) (by rw [hn1]; exact hown5) hgrow5 (hat5.elim (fun e => Or.inl (by rw [e]; rfl)) (fun e => Or.inr ⟨g1, rfl, by rw [hz4, e]; exact Nat.le_refl _⟩))
          have HC5 := hH hc5
          clear hc5 hown5 hgrow5 hat5 hlt5 uz u1
          go_wp2_with fail
          go_meet
          exact ⟨g1, cap1, uh HC5⟩
        case rest =>
         obtain ⟨g1, cap1, HC5⟩ := hcut
         clear HC3 HCN e1 e1a
         go_wp2_with (go_at_call 51; refine (uh HE31 _ (uh HC5).rdr).mono ?_; rintro e w6 ⟨a3, bad3, rfl, hr6, hm6, hb6⟩; have HC6 := hH ((uh HC5).move hb6 hr6); have HM3 := hH hm6; clear hr6 hm6 hb6)
         have hcallK : ∀ dp : Int, dp = 7 - d → Calls Tryz.prog 53 #[.pointer (some ⟨R, 0, none⟩), .int .i64 dp] w6.drew fun e w7 => ∃ (t : Tr) (ap : Option Addr) (cp : Nat) (aq : Option Addr) (cq : Nat) (a4 : Nat) (bad4 : Bool), e = .returned (.agg #[.int .i64 t.sort, .int .i64 t.num, .string t.text, .slice ap t.names.length cp, .slice aq t.kids.length cq]) ∧ Hid (Rep (fun b => w6.heap.size ≤ b ∧ b < w7.heap.size) w7 t ⟨.int .i64 t.sort, .int .i64 t.num, .string t.text, .slice ap t.names.length cp, .slice aq t.kids.length cq⟩) ∧ Hid (LR L d true 125 s a4 bad4 (ns ++ [nm]) (ks ++ [t]) ∧ (bad4 = false → a < a4 ∧ a4 ≤ s.size)) ∧ Hid (MC w w7 R s 5 a4 bad4 (.slice (some ⟨g1, 0, none⟩) (n + 1) cap1) (.slice aK n capK) (ns ++ [nm]) ks xs) ∧ w7.cell? ⟨w.heap.size + 1, 4, none⟩ = some (.slice aK n capK) ∧ (∀ ob, (w7.alloc ob).cell? ⟨w.heap.size + 1, 4, none⟩ = some (.slice aK n capK)) ∧ w6.heap.size ≤ w7.heap.size := by
          rintro dp rfl
          refine (uh HSUB w6.drew a1 bad1 (ns ++ [nm]) a3 bad3 (uh HC6).rdr.drew (uh HM1) (uh HM3)).mono ?_
          rintro e w7 ⟨t, ap, cp, aq, cq, a4, bad4, rfl, hrep, hr, hlr, hb, hsz⟩
          have hc7 := ((uh HC6).drewN 1).move (uh hb) (uh hr)
          exact ⟨t, ap, cp, aq, cq, a4, bad4, rfl, hrep, hlr, hc7, hc7.row.cell (i := 4) (by omega), fun ob => (hc7.row.alloc ob).cell (i := 4) (by omega), hsz⟩
         have HCK := hH hcallK
         have e2 := (uh HC6).row.cell (i := 4) (by omega)
         simp only [row5] at e2
         have e2a : ∀ ob, (w6.alloc ob).cell? ⟨w.heap.size + 1, 4, none⟩ = some (.slice aK n capK) := fun ob => (((uh HC6).row.alloc ob).cell (i := 4) (by omega))
         have hsz6 := (uh HC6).row.lt
         clear hcallK HSUB
         go_region_law (first
          | ((refine step_append_lies _ (by rfl) _ _ _ (by rfl) (w.heap.size + 2) 26 i0 _ 5 80 Tryz.underlying24 (uh HII) (uh HZ0) (uh HZ1) (uh HZ2) rfl (by decide) (.slice aK n capK) n xs (by rfl) (by have := (uh HC7).got.kids; rw [hn2] at this; exact this.alloc _) ⟨w7.heap.size, 0, none⟩ 1 1 [.int .i64 t.sort, .int .i64 t.num, .string t.text, .slice ap t.names.length cp, .slice aq t.kids.length cq] (by rfl) (by rfl) (cell5x w7 _ _ _ _ _ _) (fun u hu => by simp at hu; rcases hu with rfl | rfl | rfl | rfl | rfl <;> rfl) (by decide) (by unfold maxLen; omega) (by omega) (by simp; omega) (w7.heap.size + 1) (by simp) ?_; intro g2 cap2 w8 hown8 hgrow8 hat8 hlt8; have u2 := (MC.atK (uh HC7) hgrow8).cell (i := 4) (by omega); have uz2 := (MC.atK (uh HC7) hgrow8).frozen 4; simp only [row5] at u2))
          | (rw [if_pos (by first | rfl | simp [Region.wanted])]; go_simp; refine (uh HCK _ (by first | exact uh HWR | omega)).mono ?_; rintro e w7 ⟨t, ap, cp, aq, cq, a4, bad4, rfl, HREP, HLR, HC7, t2c, t2d, hs7⟩))
         all_goals
          have hz7 : ∀ o, (w7.alloc o).heap.size = w7.heap.size + 1 := fun o => World.size_alloc _ _
          have hc8 := (uh HC7).kid w6.heap.size (by omega) (fun b hb => hb.elim (fun e => ((uh HC6).got.names.lt b e).2) (fun e => ((uh HC6).got.kids.lt b e).2)) (uh HREP) (by rw [hn2]; exact hown8) hgrow8 (hat8.elim (fun e => Or.inl (by rw [e]; rfl)) (fun e => Or.inr ⟨g2, rfl, by rw [hz7, e]; exact Nat.le_refl _⟩))
          have HC8 := hH hc8
          clear hc8 hown8 hgrow8 hat8 hlt8 u2 uz2
          go_wp2_with fail
          go_roundw
          case rel => exact ⟨(ns ++ [nm]), ks ++ [t], n + 1, some ⟨g1, 0, none⟩, cap1, some ⟨g2, 0, none⟩, cap2, _, a4, bad4, hH ⟨by simp [hn1], by simp [hn2]⟩, hH (uh HLR).1, HC8⟩
          case measure =>
           rw [uh HMZ]
           cases bad4
           · rw [mz_no (uh HC8).rdr]
             have := (uh HLR).2 rfl
             omega
           · rw [mz_yes (uh HC8).rdr]
             omega
      · have hz : decide ((0 : Int) < (n : Int)) = true := by simp; omega
        have HE1' := hH (uh HE1 h0)
        clear HE1 HM0
        go_wp2_with (first
         | (go_at_call 78; refine (uh HLK2 _ (by rfl)).mono ?_; rintro e w' ⟨rfl, m, rfl⟩)
         | (go_at_call 51; refine (uh HE1' _ (HM.out.drewN _).rdr).mono ?_; rintro e W3 ⟨a1, bad1, rfl, hr3, hm3, hb3⟩; have HC3 := hH ((HM.out.drewN m).move hb3 hr3); have HM1 := hH hm3; clear hr3 hm3 hb3))
        clear HM HLK2 y0 y1 y2 g1 g2 t0 t1 t2 t3 t4 o0 o1 o2 o3 o4 p0 p1 p2 p3 p4 hz h0 HE1'
        have hname := fun W (hW : Rdr W R s a1 bad1) => name_any W R s a1 bad1 hs hW (uh HM1).2.1
        have heat31 := fun W (hW : Rdr W R s (a1 + rn nameByte s a1) bad1) => uh HE3 W a1 bad1 hW (uh HM1)
        have hnm : (⟨((lf s a1).takeWhile nameByte).toArray⟩ : ByteArray).size ≤ 1048576 := by
         have h1 := (List.takeWhile_prefix (p := nameByte) (l := lf s a1)).length_le
         have h2 := lf_len s a1
         show ((lf s a1).takeWhile nameByte).toArray.size ≤ _
         simp only [List.size_toArray]
         omega
        generalize (⟨((lf s a1).takeWhile nameByte).toArray⟩ : ByteArray) = nm at *
        have HNM := hH hnm; clear hnm
        have hcallN : Calls Tryz.prog 50 #[.pointer (some ⟨R, 0, none⟩)] W3.drew fun e w4 => e = .returned (.string nm) ∧ Hid (MC w w4 R s 5 (a1 + rn nameByte s a1) bad1 (.slice aN n capN) (.slice aK n capK) ns ks xs) ∧ w4.cell? ⟨w.heap.size + 1, 3, none⟩ = some (.slice aN n capN) ∧ (∀ ob, (w4.alloc ob).cell? ⟨w.heap.size + 1, 3, none⟩ = some (.slice aN n capN)) ∧ w.heap.size + 1 < w4.heap.size := by
         refine (hname W3.drew (uh HC3).rdr.drew).mono ?_
         rintro e w4 ⟨rfl, hr4, hb4⟩
         have hc4 := ((uh HC3).drewN 1).move hb4 hr4
         exact ⟨rfl, hc4, hc4.row.cell (i := 3) (by omega), fun ob => (hc4.row.alloc ob).cell (i := 3) (by omega), hc4.row.lt⟩
        have HCN := hH hcallN; have HE31 := hH heat31
        have e1 := (uh HC3).row.cell (i := 3) (by omega)
        simp only [row5] at e1
        have e1a : ∀ ob, (W3.alloc ob).cell? ⟨w.heap.size + 1, 3, none⟩ = some (.slice aN n capN) := fun ob => (((uh HC3).row.alloc ob).cell (i := 3) (by omega))
        clear hname hcallN heat31 HE3
        go_cut [29, 30] from 37 to 45 (fun _ _ wx => ∃ g1 cap1, Hid (MC w wx R s 5 (a1 + rn nameByte s a1) bad1 (.slice (some ⟨g1, 0, none⟩) (n + 1) cap1) (.slice aK n capK) (ns ++ [nm]) ks xs))
        case first =>
         go_wp2_with fail
         go_region_law (first
          | ((refine step_append_lies _ (by rfl) _ _ _ (by rfl) (w.heap.size + 2) 9 j0 (.string ByteArray.empty) 1 16 Tryz.underlying23 (uh HJJ) (uh HY0) (uh HY1) (uh HY2) rfl (by decide) (.slice aN n capN) n (ns.map Value.string) (by rfl) (by have := (uh HC4).got.names; rw [hn1] at this; exact this.alloc _) ⟨w4.heap.size, 0, none⟩ 1 1 [.string nm] (by rfl) (by rfl) (cell_one w4 _ _) (fun u hu => by simp at hu; subst hu; rfl) (by decide) (by unfold maxLen; omega) (by omega) (by simp; omega) (w4.heap.size + 1) (by simp) ?_; intro g1 cap1 w5 hown5 hgrow5 hat5 hlt5; have u1 := (MC.atN (uh HC4) hgrow5).cell (i := 3) (by omega); have uz := (MC.atN (uh HC4) hgrow5).frozen 3; simp only [row5] at u1))
          | (rw [if_pos (by first | rfl | simp [Region.wanted])]; go_simp; refine (uh HCN).mono ?_; rintro e w4 ⟨rfl, HC4, t1b, t1a, hBlt⟩))
         all_goals
          have hz4 : ∀ o, (w4.alloc o).heap.size = w4.heap.size + 1 := fun o => World.size_alloc _ _
          have hc5 := MC.name (nm := nm) (uh HC4) (Nat.le_trans (uh HNM) (by decide)) (by rw [hn1]; exact hown5) hgrow5 (hat5.elim (fun e => Or.inl (by rw [e]; rfl)) (fun e => Or.inr ⟨g1, rfl, by rw [hz4, e]; exact Nat.le_refl _⟩))
          have HC5 := hH hc5
          clear hc5 hown5 hgrow5 hat5 hlt5 uz u1
          go_wp2_with fail
          go_meet
          exact ⟨g1, cap1, uh HC5⟩
        case rest =>
         obtain ⟨g1, cap1, HC5⟩ := hcut
         clear HC3 HCN e1 e1a
         go_wp2_with (go_at_call 51; refine (uh HE31 _ (uh HC5).rdr).mono ?_; rintro e w6 ⟨a3, bad3, rfl, hr6, hm6, hb6⟩; have HC6 := hH ((uh HC5).move hb6 hr6); have HM3 := hH hm6; clear hr6 hm6 hb6)
         have hcallK : ∀ dp : Int, dp = 7 - d → Calls Tryz.prog 53 #[.pointer (some ⟨R, 0, none⟩), .int .i64 dp] w6.drew fun e w7 => ∃ (t : Tr) (ap : Option Addr) (cp : Nat) (aq : Option Addr) (cq : Nat) (a4 : Nat) (bad4 : Bool), e = .returned (.agg #[.int .i64 t.sort, .int .i64 t.num, .string t.text, .slice ap t.names.length cp, .slice aq t.kids.length cq]) ∧ Hid (Rep (fun b => w6.heap.size ≤ b ∧ b < w7.heap.size) w7 t ⟨.int .i64 t.sort, .int .i64 t.num, .string t.text, .slice ap t.names.length cp, .slice aq t.kids.length cq⟩) ∧ Hid (LR L d true 125 s a4 bad4 (ns ++ [nm]) (ks ++ [t]) ∧ (bad4 = false → a < a4 ∧ a4 ≤ s.size)) ∧ Hid (MC w w7 R s 5 a4 bad4 (.slice (some ⟨g1, 0, none⟩) (n + 1) cap1) (.slice aK n capK) (ns ++ [nm]) ks xs) ∧ w7.cell? ⟨w.heap.size + 1, 4, none⟩ = some (.slice aK n capK) ∧ (∀ ob, (w7.alloc ob).cell? ⟨w.heap.size + 1, 4, none⟩ = some (.slice aK n capK)) ∧ w6.heap.size ≤ w7.heap.size := by
          rintro dp rfl
          refine (uh HSUB w6.drew a1 bad1 (ns ++ [nm]) a3 bad3 (uh HC6).rdr.drew (uh HM1) (uh HM3)).mono ?_
          rintro e w7 ⟨t, ap, cp, aq, cq, a4, bad4, rfl, hrep, hr, hlr, hb, hsz⟩
          have hc7 := ((uh HC6).drewN 1).move (uh hb) (uh hr)
          exact ⟨t, ap, cp, aq, cq, a4, bad4, rfl, hrep, hlr, hc7, hc7.row.cell (i := 4) (by omega), fun ob => (hc7.row.alloc ob).cell (i := 4) (by omega), hsz⟩
         have HCK := hH hcallK
         have e2 := (uh HC6).row.cell (i := 4) (by omega)
         simp only [row5] at e2
         have e2a : ∀ ob, (w6.alloc ob).cell? ⟨w.heap.size + 1, 4, none⟩ = some (.slice aK n capK) := fun ob => (((uh HC6).row.alloc ob).cell (i := 4) (by omega))
         have hsz6 := (uh HC6).row.lt
         clear hcallK HSUB
         go_region_law (first
          | ((refine step_append_lies _ (by rfl) _ _ _ (by rfl) (w.heap.size + 2) 26 i0 _ 5 80 Tryz.underlying24 (uh HII) (uh HZ0) (uh HZ1) (uh HZ2) rfl (by decide) (.slice aK n capK) n xs (by rfl) (by have := (uh HC7).got.kids; rw [hn2] at this; exact this.alloc _) ⟨w7.heap.size, 0, none⟩ 1 1 [.int .i64 t.sort, .int .i64 t.num, .string t.text, .slice ap t.names.length cp, .slice aq t.kids.length cq] (by rfl) (by rfl) (cell5x w7 _ _ _ _ _ _) (fun u hu => by simp at hu; rcases hu with rfl | rfl | rfl | rfl | rfl <;> rfl) (by decide) (by unfold maxLen; omega) (by omega) (by simp; omega) (w7.heap.size + 1) (by simp) ?_; intro g2 cap2 w8 hown8 hgrow8 hat8 hlt8; have u2 := (MC.atK (uh HC7) hgrow8).cell (i := 4) (by omega); have uz2 := (MC.atK (uh HC7) hgrow8).frozen 4; simp only [row5] at u2))
          | (rw [if_pos (by first | rfl | simp [Region.wanted])]; go_simp; refine (uh HCK _ (by first | exact uh HWR | omega)).mono ?_; rintro e w7 ⟨t, ap, cp, aq, cq, a4, bad4, rfl, HREP, HLR, HC7, t2c, t2d, hs7⟩))
         all_goals
          have hz7 : ∀ o, (w7.alloc o).heap.size = w7.heap.size + 1 := fun o => World.size_alloc _ _
          have hc8 := (uh HC7).kid w6.heap.size (by omega) (fun b hb => hb.elim (fun e => ((uh HC6).got.names.lt b e).2) (fun e => ((uh HC6).got.kids.lt b e).2)) (uh HREP) (by rw [hn2]; exact hown8) hgrow8 (hat8.elim (fun e => Or.inl (by rw [e]; rfl)) (fun e => Or.inr ⟨g2, rfl, by rw [hz7, e]; exact Nat.le_refl _⟩))
          have HC8 := hH hc8
          clear hc8 hown8 hgrow8 hat8 hlt8 u2 uz2
          go_wp2_with fail
          go_roundw
          case rel => exact ⟨(ns ++ [nm]), ks ++ [t], n + 1, some ⟨g1, 0, none⟩, cap1, some ⟨g2, 0, none⟩, cap2, _, a4, bad4, hH ⟨by simp [hn1], by simp [hn2]⟩, hH (uh HLR).1, HC8⟩
          case measure =>
           rw [uh HMZ]
           cases bad4
           · rw [mz_no (uh HC8).rdr]
             have := (uh HLR).2 rfl
             omega
           · rw [mz_yes (uh HC8).rdr]
             omega
  · subst hbad
    have hx : L = none := by
     rcases HF.out with ⟨h, -⟩ | ⟨-, h, -⟩
     · cases h
     · exact h
    have HXN := hH hx
    clear hx
    go_wp2_with fail
    refine bodyPost_ret (v := .agg #[.int .i64 5, .int .i64 0, .string ByteArray.empty, .slice aN n capN, .slice aK n capK]) (by simp [results, Tryz.results80, go_sem, o0, o1, o2, o3, o4]) rfl ?_
    obtain ⟨r1, r2, r3⟩ := HM.out.finish ⟨by decide, by decide⟩ _ rfl
    exact ⟨_, _, _, _, rfl, r1, r2, r3, by omega, (fun h => by cases h), fun _ => uh HXN⟩
end Go.Proofs.YtbkagahmiibclaaGreatDoor
