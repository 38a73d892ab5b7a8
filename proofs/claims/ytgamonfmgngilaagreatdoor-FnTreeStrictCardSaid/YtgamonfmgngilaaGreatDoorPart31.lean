/- The walk of the specification's many, given the walk of tree one level below. For texts of at most 2^20 bytes. -/
import Derived.Test.YtgamonfmgngilaaGreatDoorPart30
namespace Go.Proofs.YtgamonfmgngilaaGreatDoor
open Go Go.RowKit

set_option maxRecDepth 100000 in
set_option maxHeartbeats 6400000 in
theorem many_4 (d : Nat) (IH : RdSaid d) (hd : d ≤ 6) (w : World) (R : Nat) (s : ByteArray) (at' : Nat) (hs : s.size ≤ 1048576) (h : Rdr w R s at' false) (ha : at' < s.size) :
    Calls Tryz.prog 70 #[.pointer (some ⟨R, 0, none⟩), .int .i64 4, .int .u8 93, .int .i64 (6 - d)] w fun e w' => MnEnd d false 93 4 w R s at' e w' := by
  unfold MnEnd
  have HST := hide (MC.start (sort := 4) h)
  obtain ⟨c0, c1, c2, f1, f2⟩ := h.cells
  have HI := hide IH
  have hRw := h.lt
  have hd1 : (6 : Int) - (d : Int) + 1 = 7 - d := by omega
  have HWR := hide (show IntKind.i64.wrap (7 - (d : Int)) = 7 - d by rw [IntKind.wrap_i64]; omega)
  have hl1 : (lf s (at' + 1)).length < (lf s at').length + 1 := by rw [lf_len, lf_len]; omega
  generalize hL : lp (spT d) false 93 ((lf s at').length + 1) [] [] (lf s (at' + 1)) () = L at *
  have HL := hide hL
  obtain ⟨i0, hi, hz0, hz1, hz2⟩ := info_parts infoTreeM
  obtain ⟨j0, hj, hy0, hy1, hy2⟩ := info_parts infoStrM
  have HII := hide hi; have HZ0 := hide hz0; have HZ1 := hide hz1; have HZ2 := hide hz2
  have HJJ := hide hj; have HY0 := hide hy0; have HY1 := hide hy1; have HY2 := hide hy2
  clear h IH hL hi hz0 hz1 hz2 hj hy0 hy1 hy2
  go_enter Tryz.func70, Tryz.ntmps70
  go_wp2_with fail
  go_loopw [] (fun wr => ∃ (ns : List ByteArray) (ks : List Tr) (n : Nat) (aN : Option Addr) (capN : Nat) (aK : Option Addr) (capK : Nat) (xs : List Value) (a : Nat) (bad : Bool), Hid (ns = [] ∧ ks.length = n) ∧ Hid (LR L d false 93 s a bad ns ks) ∧ Hid (MC w wr R s 4 a bad (.slice none 0 0) (.slice aK n capK) ns ks xs)) (fun wr => mz wr R s)
  case atStart => exact ⟨[], [], 0, none, 0, none, 0, [], at' + 1, false, hide ⟨rfl, rfl⟩, hide (Or.inl ⟨rfl, by omega, by simp, _, hl1, unhide HL⟩), HST⟩
  case round =>
    obtain ⟨ns, ks, n, aN, capN, aK, capK, xs, a, bad, HN, HF, HM⟩ := hrel
    obtain ⟨hn1, hn2⟩ := HN.out
    clear HST c0 c1 c2 f1 f2
    obtain ⟨y0, y1, y2, g1, g2⟩ := HM.out.rdr.cells
    have hfar := HF.out.at
    have t0 := HM.out.row.cell (i := 0) (by omega); have t1 := HM.out.row.cell (i := 1) (by omega); have t2 := HM.out.row.cell (i := 2) (by omega); have t3 := HM.out.row.cell (i := 3) (by omega); have t4 := HM.out.row.cell (i := 4) (by omega)
    have o0 := HM.out.out.cell (i := 0) (by omega); have o1 := HM.out.out.cell (i := 1) (by omega); have o2 := HM.out.out.cell (i := 2) (by omega); have o3 := HM.out.out.cell (i := 3) (by omega); have o4 := HM.out.out.cell (i := 4) (by omega)
    have p0 := HM.out.out.frozen 0; have p1 := HM.out.out.frozen 1; have p2 := HM.out.out.frozen 2; have p3 := HM.out.out.frozen 3; have p4 := HM.out.out.frozen 4
    simp only [row5] at t0 t1 t2 t3 t4 o0 o1 o2 o3 o4
    have hne : R ≠ w.heap.size := by omega
    have hne1 : R ≠ w.heap.size + 1 := by omega
    cases hbad : bad
    · subst hbad
      have hf : a ≤ s.size ∧ ks.length ≤ a ∧ ∃ f, (lf s a).length < f ∧ lp (spT d) false 93 f ns ks (lf s a) () = L := by
        rcases HF.out with ⟨-, h⟩ | ⟨h, -⟩
        · exact h
        · cases h
      obtain ⟨hale, hka, f, hfl, hXf⟩ := hf
      have hmz := mz_no HM.out.rdr
      have HMZ := hide hmz; clear hmz
      have HLK2 := hide (fun W (hW : W.heap = wr.heap) => look_any W R s a false (HM.out.rdr.heap hW))
      by_cases hce : bv s a = 93
      · have hhd : (lf s a).head? = some 93 := (bv_head s a 93 (by decide)).2 hce
        obtain ⟨hxe, hroom⟩ := l_end hhd hfl hXf
        have HXE := hide hxe
        rw [hce] at HLK2
        clear hxe hXf hfl
        go_wp2_with (go_at_call 68; refine (unhide HLK2 _ (by rfl)).mono ?_; rintro e w' ⟨rfl, m, rfl⟩)
        refine bodyPost_ret (v := .agg #[.int .i64 4, .int .i64 0, .string ByteArray.empty, .slice none 0 0, .slice aK n capK]) (by simp [results, Tryz.results70, go_sem, o0, o1, o2, o3, o4]) rfl ?_
        obtain ⟨r1, r2, r3⟩ := (HM.out.drewN m).finish ⟨by decide, by decide⟩ _ rfl
        exact ⟨_, _, _, _, rfl, r1, r2, r3, by omega, fun _ => ⟨hroom, ns, ks, rfl, unhide HXE⟩, fun h => by cases h⟩
      · have hnh : (lf s a).head? ≠ some 93 := fun e => hce ((bv_head s a 93 (by decide)).1 e)
        have hnb : n ≤ 1048576 := by omega
        have heat1 : 0 < n → ∀ W, Rdr W R s a false → Calls Tryz.prog 37 #[.pointer (some ⟨R, 0, none⟩), .string (w1 44)] W fun e w' => ∃ a1 bad1, e = .returned (.tuple #[]) ∧ Rdr w' R s a1 bad1 ∧ L1 L s a ks.length a1 bad1 ∧ But R W w' := fun h0 W hW => by
          rcases l1_eat hale hnh hfl hXf (by omega) with ⟨hp, ho⟩ | ⟨hp, ho⟩
          · exact (eat_yes W R s (w1 44) a false hs hW (by omega) (by decide) (by decide) hp).mono fun e w' ⟨h1, h2, h3⟩ => ⟨_, _, h1, h2, ho, h3⟩
          · exact (eat_no W R s (w1 44) a false hs hW (by omega) (by decide) (by decide) hp).mono fun e w' ⟨h1, h2, h3⟩ => ⟨_, _, h1, h2, ho, h3⟩
        have hsub : ∀ W a1 bad1 ns' a3 bad3, Rdr W R s a3 bad3 → L1 L s a ks.length a1 bad1 → L3 L s false ns a1 bad1 ns' a3 bad3 → Calls Tryz.prog 35 #[.pointer (some ⟨R, 0, none⟩), .int .i64 (7 - d)] W fun e w' => ∃ (t : Tr) (ap : Option Addr) (cp : Nat) (aq : Option Addr) (cq : Nat) (a4 : Nat) (bad4 : Bool), e = .returned (.agg #[.int .i64 t.sort, .int .i64 t.num, .string t.text, .slice ap t.names.length cp, .slice aq t.kids.length cq]) ∧ Hid (Rep (New W w') w' t ⟨.int .i64 t.sort, .int .i64 t.num, .string t.text, .slice ap t.names.length cp, .slice aq t.kids.length cq⟩) ∧ Hid (Rdr w' R s a4 bad4) ∧ Hid (LR L d false 93 s a4 bad4 ns' (ks ++ [t]) ∧ (bad4 = false → a < a4 ∧ a4 ≤ s.size)) ∧ Hid (But R W w') ∧ W.heap.size ≤ w'.heap.size := fun W a1 bad1 ns' a3 bad3 hW h1 h3 => by
          refine (unhide HI W R s a3 bad3 hs hW h3.2.1).mono ?_
          rintro e w' ⟨t, ⟨x0, x1, x2, x3, x4⟩, a4, bad4, rfl, hrep, hr4, hb4, hfar4, hyes, hno⟩
          obtain ⟨q0, q1, q2, -, -, -, ⟨ap, cp, q3, -⟩, aq, cq, q4, -⟩ := hrep.open
          simp only at q0 q1 q2 q3 q4
          subst q0 q1 q2 q3 q4
          exact ⟨t, _, _, _, _, a4, bad4, rfl, hrep, hr4, l_next hka hnh hfl hXf h1 h3 ⟨hfar4, hyes, hno⟩, hb4, hb4.size⟩
        have hm0 : n = 0 → L1 L s a ks.length a false := fun h => l1_zero hale (by omega)
        have hbe : ((bv s a : Int) == 93) = false := by simp; omega
        have HE1 := hide heat1; have HSUB := hide hsub; have HM0 := hide hm0
        generalize bv s a = v2 at *
        clear heat1 hsub hm0 hXf hfl hnh HI hce
        rcases Nat.eq_zero_or_pos n with h0 | h0
        · have HM1 := hide (unhide HM0 h0)
          have hz : decide ((0 : Int) < (n : Int)) = false := by simp; omega
          clear HE1 HM0
          go_wp2_with (go_at_call 68; refine (unhide HLK2 _ (by rfl)).mono ?_; rintro e w' ⟨rfl, m, rfl⟩)
          have HC3 := hide (HM.out.drewN m)
          obtain ⟨W3, hW3⟩ : ∃ W3, wr.drewN m = W3 := ⟨_, rfl⟩
          rw [hW3] at HC3 ⊢
          obtain ⟨a1, ha1⟩ : ∃ a1, a1 = a := ⟨_, rfl⟩
          obtain ⟨bad1, hb1⟩ : ∃ b, b = false := ⟨_, rfl⟩
          rw [← ha1, ← hb1] at HC3
          have HM1' : Hid (L1 L s a ks.length a1 bad1) := by rw [ha1, hb1]; exact HM1
          clear HM1
          have HM1 := HM1'
          clear HM1' hW3 ha1 hb1 HM HLK2 y0 y1 y2 g1 g2 t0 t1 t2 t3 t4 o0 o1 o2 o3 o4 p0 p1 p2 p3 p4 hz h0
          have HM3 := hide (l3_list (ns := ns) (unhide HM1))
          obtain ⟨a3, ha3⟩ : ∃ a3, a3 = a1 := ⟨_, rfl⟩
          obtain ⟨bad3, hb3⟩ : ∃ b3, b3 = bad1 := ⟨_, rfl⟩
          have HM3' : Hid (L3 L s false ns a1 bad1 ns a3 bad3) := by rw [ha3, hb3]; exact HM3
          have HC6' : Hid (MC w W3 R s 4 a3 bad3 (.slice none 0 0) (.slice aK n capK) ns ks xs) := by rw [ha3, hb3]; exact HC3
          clear HM3 HC3 ha3 hb3
          have HM3 := HM3'; have HC6 := HC6'
          clear HM3' HC6'
          obtain ⟨w6, hw6⟩ : ∃ w6, w6 = W3 := ⟨_, rfl⟩
          rw [← hw6] at HC6 ⊢
          clear hw6
          go_wp2_with fail
          have hcallK : ∀ dp : Int, dp = 7 - d → Calls Tryz.prog 35 #[.pointer (some ⟨R, 0, none⟩), .int .i64 dp] w6.drew fun e w7 => ∃ (t : Tr) (ap : Option Addr) (cp : Nat) (aq : Option Addr) (cq : Nat) (a4 : Nat) (bad4 : Bool), e = .returned (.agg #[.int .i64 t.sort, .int .i64 t.num, .string t.text, .slice ap t.names.length cp, .slice aq t.kids.length cq]) ∧ Hid (Rep (fun b => w6.heap.size ≤ b ∧ b < w7.heap.size) w7 t ⟨.int .i64 t.sort, .int .i64 t.num, .string t.text, .slice ap t.names.length cp, .slice aq t.kids.length cq⟩) ∧ Hid (LR L d false 93 s a4 bad4 ns (ks ++ [t]) ∧ (bad4 = false → a < a4 ∧ a4 ≤ s.size)) ∧ Hid (MC w w7 R s 4 a4 bad4 (.slice none 0 0) (.slice aK n capK) ns ks xs) ∧ w7.cell? ⟨w.heap.size + 1, 4, none⟩ = some (.slice aK n capK) ∧ (∀ ob, (w7.alloc ob).cell? ⟨w.heap.size + 1, 4, none⟩ = some (.slice aK n capK)) ∧ w6.heap.size ≤ w7.heap.size := by
            rintro dp rfl
            refine (unhide HSUB w6.drew a1 bad1 ns a3 bad3 (unhide HC6).rdr.drew (unhide HM1) (unhide HM3)).mono ?_
            rintro e w7 ⟨t, ap, cp, aq, cq, a4, bad4, rfl, hrep, hr, hlr, hb, hsz⟩
            have hc7 := ((unhide HC6).drewN 1).move (unhide hb) (unhide hr)
            exact ⟨t, ap, cp, aq, cq, a4, bad4, rfl, hrep, hlr, hc7, hc7.row.cell (i := 4) (by omega), fun ob => (hc7.row.alloc ob).cell (i := 4) (by omega), hsz⟩
          have HCK := hide hcallK
          have e2 := (unhide HC6).row.cell (i := 4) (by omega)
          simp only [row5] at e2
          have e2a : ∀ ob, (w6.alloc ob).cell? ⟨w.heap.size + 1, 4, none⟩ = some (.slice aK n capK) := fun ob => (((unhide HC6).row.alloc ob).cell (i := 4) (by omega))
          have hsz6 := (unhide HC6).row.lt
          clear hcallK HSUB
          go_region_law (first
            | ((refine step_append_lies _ (by rfl) _ _ _ (by rfl) (w.heap.size + 2) 26 i0 _ 5 80 Tryz.underlying24 (unhide HII) (unhide HZ0) (unhide HZ1) (unhide HZ2) rfl (by decide) (.slice aK n capK) n xs (by rfl) (by have := (unhide HC7).got.kids; rw [hn2] at this; exact this.alloc _) ⟨w7.heap.size, 0, none⟩ 1 1 [.int .i64 t.sort, .int .i64 t.num, .string t.text, .slice ap t.names.length cp, .slice aq t.kids.length cq] (by rfl) (by rfl) (cell5x w7 _ _ _ _ _ _) (fun u hu => by simp at hu; rcases hu with rfl | rfl | rfl | rfl | rfl <;> rfl) (by decide) (by unfold maxLen; omega) (by omega) (by simp; omega) (w7.heap.size + 1) (by simp) ?_; intro g2 cap2 w8 hown8 hgrow8 hat8 hlt8; have u2 := (MC.atK (unhide HC7) hgrow8).cell (i := 4) (by omega); have uz2 := (MC.atK (unhide HC7) hgrow8).frozen 4; simp only [row5] at u2))
            | (rw [if_pos (by first | rfl | simp [Region.wanted])]; go_simp; refine (unhide HCK _ (by first | exact unhide HWR | omega)).mono ?_; rintro e w7 ⟨t, ap, cp, aq, cq, a4, bad4, rfl, HREP, HLR, HC7, t2c, t2d, hs7⟩))
          all_goals
            have hz7 : ∀ o, (w7.alloc o).heap.size = w7.heap.size + 1 := fun o => World.size_alloc _ _
            have hc8 := (unhide HC7).kid w6.heap.size (by omega) (fun b hb => hb.elim (fun e => ((unhide HC6).got.names.lt b e).2) (fun e => ((unhide HC6).got.kids.lt b e).2)) (unhide HREP) (by rw [hn2]; exact hown8) hgrow8 (hat8.elim (fun e => Or.inl (by rw [e]; rfl)) (fun e => Or.inr ⟨g2, rfl, by rw [hz7, e]; exact Nat.le_refl _⟩))
            have HC8 := hide hc8
            clear hc8 hown8 hgrow8 hat8 hlt8 u2 uz2
            go_wp2_with fail
            go_roundw
            case rel => exact ⟨ns, ks ++ [t], n + 1, none, 0, some ⟨g2, 0, none⟩, cap2, _, a4, bad4, hide ⟨hn1, by simp [hn2]⟩, hide (unhide HLR).1, HC8⟩
            case measure =>
              rw [unhide HMZ]
              cases bad4
              · rw [mz_no (unhide HC8).rdr]
                have := (unhide HLR).2 rfl
                omega
              · rw [mz_yes (unhide HC8).rdr]
                omega
        · have hz : decide ((0 : Int) < (n : Int)) = true := by simp; omega
          have HE1' := hide (unhide HE1 h0)
          clear HE1 HM0
          go_wp2_with (first
            | (go_at_call 68; refine (unhide HLK2 _ (by rfl)).mono ?_; rintro e w' ⟨rfl, m, rfl⟩)
            | (go_at_call 37; refine (unhide HE1' _ (HM.out.drewN _).rdr).mono ?_; rintro e W3 ⟨a1, bad1, rfl, hr3, hm3, hb3⟩; have HC3 := hide ((HM.out.drewN m).move hb3 hr3); have HM1 := hide hm3; clear hr3 hm3 hb3))
          clear HM HLK2 y0 y1 y2 g1 g2 t0 t1 t2 t3 t4 o0 o1 o2 o3 o4 p0 p1 p2 p3 p4 hz h0 HE1'
          have HM3 := hide (l3_list (ns := ns) (unhide HM1))
          obtain ⟨a3, ha3⟩ : ∃ a3, a3 = a1 := ⟨_, rfl⟩
          obtain ⟨bad3, hb3⟩ : ∃ b3, b3 = bad1 := ⟨_, rfl⟩
          have HM3' : Hid (L3 L s false ns a1 bad1 ns a3 bad3) := by rw [ha3, hb3]; exact HM3
          have HC6' : Hid (MC w W3 R s 4 a3 bad3 (.slice none 0 0) (.slice aK n capK) ns ks xs) := by rw [ha3, hb3]; exact HC3
          clear HM3 HC3 ha3 hb3
          have HM3 := HM3'; have HC6 := HC6'
          clear HM3' HC6'
          obtain ⟨w6, hw6⟩ : ∃ w6, w6 = W3 := ⟨_, rfl⟩
          rw [← hw6] at HC6 ⊢
          clear hw6
          go_wp2_with fail
          have hcallK : ∀ dp : Int, dp = 7 - d → Calls Tryz.prog 35 #[.pointer (some ⟨R, 0, none⟩), .int .i64 dp] w6.drew fun e w7 => ∃ (t : Tr) (ap : Option Addr) (cp : Nat) (aq : Option Addr) (cq : Nat) (a4 : Nat) (bad4 : Bool), e = .returned (.agg #[.int .i64 t.sort, .int .i64 t.num, .string t.text, .slice ap t.names.length cp, .slice aq t.kids.length cq]) ∧ Hid (Rep (fun b => w6.heap.size ≤ b ∧ b < w7.heap.size) w7 t ⟨.int .i64 t.sort, .int .i64 t.num, .string t.text, .slice ap t.names.length cp, .slice aq t.kids.length cq⟩) ∧ Hid (LR L d false 93 s a4 bad4 ns (ks ++ [t]) ∧ (bad4 = false → a < a4 ∧ a4 ≤ s.size)) ∧ Hid (MC w w7 R s 4 a4 bad4 (.slice none 0 0) (.slice aK n capK) ns ks xs) ∧ w7.cell? ⟨w.heap.size + 1, 4, none⟩ = some (.slice aK n capK) ∧ (∀ ob, (w7.alloc ob).cell? ⟨w.heap.size + 1, 4, none⟩ = some (.slice aK n capK)) ∧ w6.heap.size ≤ w7.heap.size := by
            rintro dp rfl
            refine (unhide HSUB w6.drew a1 bad1 ns a3 bad3 (unhide HC6).rdr.drew (unhide HM1) (unhide HM3)).mono ?_
            rintro e w7 ⟨t, ap, cp, aq, cq, a4, bad4, rfl, hrep, hr, hlr, hb, hsz⟩
            have hc7 := ((unhide HC6).drewN 1).move (unhide hb) (unhide hr)
            exact ⟨t, ap, cp, aq, cq, a4, bad4, rfl, hrep, hlr, hc7, hc7.row.cell (i := 4) (by omega), fun ob => (hc7.row.alloc ob).cell (i := 4) (by omega), hsz⟩
          have HCK := hide hcallK
          have e2 := (unhide HC6).row.cell (i := 4) (by omega)
          simp only [row5] at e2
          have e2a : ∀ ob, (w6.alloc ob).cell? ⟨w.heap.size + 1, 4, none⟩ = some (.slice aK n capK) := fun ob => (((unhide HC6).row.alloc ob).cell (i := 4) (by omega))
          have hsz6 := (unhide HC6).row.lt
          clear hcallK HSUB
          go_region_law (first
            | ((refine step_append_lies _ (by rfl) _ _ _ (by rfl) (w.heap.size + 2) 26 i0 _ 5 80 Tryz.underlying24 (unhide HII) (unhide HZ0) (unhide HZ1) (unhide HZ2) rfl (by decide) (.slice aK n capK) n xs (by rfl) (by have := (unhide HC7).got.kids; rw [hn2] at this; exact this.alloc _) ⟨w7.heap.size, 0, none⟩ 1 1 [.int .i64 t.sort, .int .i64 t.num, .string t.text, .slice ap t.names.length cp, .slice aq t.kids.length cq] (by rfl) (by rfl) (cell5x w7 _ _ _ _ _ _) (fun u hu => by simp at hu; rcases hu with rfl | rfl | rfl | rfl | rfl <;> rfl) (by decide) (by unfold maxLen; omega) (by omega) (by simp; omega) (w7.heap.size + 1) (by simp) ?_; intro g2 cap2 w8 hown8 hgrow8 hat8 hlt8; have u2 := (MC.atK (unhide HC7) hgrow8).cell (i := 4) (by omega); have uz2 := (MC.atK (unhide HC7) hgrow8).frozen 4; simp only [row5] at u2))
            | (rw [if_pos (by first | rfl | simp [Region.wanted])]; go_simp; refine (unhide HCK _ (by first | exact unhide HWR | omega)).mono ?_; rintro e w7 ⟨t, ap, cp, aq, cq, a4, bad4, rfl, HREP, HLR, HC7, t2c, t2d, hs7⟩))
          all_goals
            have hz7 : ∀ o, (w7.alloc o).heap.size = w7.heap.size + 1 := fun o => World.size_alloc _ _
            have hc8 := (unhide HC7).kid w6.heap.size (by omega) (fun b hb => hb.elim (fun e => ((unhide HC6).got.names.lt b e).2) (fun e => ((unhide HC6).got.kids.lt b e).2)) (unhide HREP) (by rw [hn2]; exact hown8) hgrow8 (hat8.elim (fun e => Or.inl (by rw [e]; rfl)) (fun e => Or.inr ⟨g2, rfl, by rw [hz7, e]; exact Nat.le_refl _⟩))
            have HC8 := hide hc8
            clear hc8 hown8 hgrow8 hat8 hlt8 u2 uz2
            go_wp2_with fail
            go_roundw
            case rel => exact ⟨ns, ks ++ [t], n + 1, none, 0, some ⟨g2, 0, none⟩, cap2, _, a4, bad4, hide ⟨hn1, by simp [hn2]⟩, hide (unhide HLR).1, HC8⟩
            case measure =>
              rw [unhide HMZ]
              cases bad4
              · rw [mz_no (unhide HC8).rdr]
                have := (unhide HLR).2 rfl
                omega
              · rw [mz_yes (unhide HC8).rdr]
                omega
    · subst hbad
      have hx : L = none := by
        rcases HF.out with ⟨h, -⟩ | ⟨-, h, -⟩
        · cases h
        · exact h
      have HXN := hide hx
      clear hx
      go_wp2_with fail
      refine bodyPost_ret (v := .agg #[.int .i64 4, .int .i64 0, .string ByteArray.empty, .slice none 0 0, .slice aK n capK]) (by simp [results, Tryz.results70, go_sem, o0, o1, o2, o3, o4]) rfl ?_
      obtain ⟨r1, r2, r3⟩ := HM.out.finish ⟨by decide, by decide⟩ _ rfl
      exact ⟨_, _, _, _, rfl, r1, r2, r3, by omega, (fun h => by cases h), fun _ => unhide HXN⟩
end Go.Proofs.YtgamonfmgngilaaGreatDoor
