/- The walk of the specification's l5Kind at any level: some schema in new memory. Draws at most 10^8. -/
import Derived.Test.YtenpghndgdemnaaGreatDoorPart01
import Derived.Test.YtenpghndgdemnaaGreatDoorPart00
import Derived.Test.YtenpghndgdemnaaGreatDoorRows
import Derived.Deep.RegionWith
import Derived.Deep.QuietTactic
import Derived.BigQuiet
import Derived.WalkSmall
namespace Go.Proofs.YtenpghndgdemnaaGreatDoor
open Go Go.RowKit

theorem infoKind3 : (Tryz.prog.info? 26).map (fun i => (i.zero, i.size, i.bytes)) = some (some (.agg #[.int .i64 0, .slice none 0 0, .slice none 0 0]), 3, 56) := by kernel_rfl
theorem infoStr1 : (Tryz.prog.info? 9).map (fun i => (i.zero, i.size, i.bytes)) = some (some (.string ByteArray.empty), 1, 16) := by kernel_rfl
theorem wS_snoc1 (ns : List ByteArray) (x : ByteArray) : wS (ns ++ [x]) = wS ns + x.size + 1 := by
  induction ns with
  | nil => simp [wS]
  | cons a r ih => simp only [List.cons_append, wS, ih]; omega
theorem wKs_snoc1 (ks : List Kd) (k : Kd) : wKs (ks ++ [k]) = wKs ks + wKd k + 1 := by
  induction ks with
  | nil => simp [wKs]; omega
  | cons a r ih => simp only [List.cons_append, wKs, ih]; omega
theorem nm8_size (i : Nat) : (nm8.getD i ByteArray.empty).size ≤ 4 := by
  by_cases h : i < 8
  · rcases (show i = 0 ∨ i = 1 ∨ i = 2 ∨ i = 3 ∨ i = 4 ∨ i = 5 ∨ i = 6 ∨ i = 7 by omega) with rfl | rfl | rfl | rfl | rfl | rfl | rfl | rfl <;> decide
  · rw [List.getD_eq_getElem?_getD, List.getElem?_eq_none (by simp [nm8]; omega)]; decide

theorem World.grownBy.refl_drew (w : World) : w.grownBy w.drew none := ⟨rfl, rfl, rfl, Nat.le_refl _, fun _ _ _ => rfl⟩

/-- The bounds of what is gathered. -/
def LB (D p m n q : Nat) (ns : List ByteArray) (ks : List Kd) : Prop :=
  ns.length = n ∧ ks.length = n ∧ (∀ x, x ∈ ns → x.size ≤ 4) ∧ wS ns + wKs ks ≤ n * (6 + D) ∧ q ≤ p + 1 + m + n * D
theorem LB.pass {D p m n q : Nat} {ns : List ByteArray} {ks : List Kd} (h : LB D p m n q ns ks) : LB D p (m + 1) n (q + 1) ns ks := by
  obtain ⟨h1, h2, h3, h4, h5⟩ := h
  exact ⟨h1, h2, h3, h4, by omega⟩
theorem LB.more {D p m n q q' : Nat} {ns : List ByteArray} {ks : List Kd} {x : ByteArray} {k : Kd} (h : LB D p m n q ns ks) (hx : x.size ≤ 4) (hk : wKd k ≤ D) (hq : q' ≤ q + 1 + D) : LB D p (m + 1) (n + 1) q' (ns ++ [x]) (ks ++ [k]) := by
  obtain ⟨h1, h2, h3, h4, h5⟩ := h
  refine ⟨by simp [h1], by simp [h2], fun y hy => ?_, ?_, ?_⟩
  · rcases List.mem_append.1 hy with hy | hy
    · exact h3 y hy
    · simp at hy; rw [hy]; exact hx
  · rw [wS_snoc1, wKs_snoc1, Nat.succ_mul]; omega
  · rw [Nat.succ_mul]; omega
theorem LB.draws {D p m n q : Nat} {ns : List ByteArray} {ks : List Kd} (h : LB D p m n q ns ks) (hn : n ≤ 3) (hm : m ≤ 8) : q ≤ p + 9 + 3 * D := by
  have := Nat.mul_le_mul_right D hn
  have := h.2.2.2.2
  omega
theorem LB.fin {D p m n q : Nat} {ns : List ByteArray} {ks : List Kd} (h : LB D p m n q ns ks) (hn : n ≤ 4) (hm : m ≤ 8) : q ≤ p + (30 + 5 * D) ∧ wS ns + wKs ks ≤ 30 + 5 * D := by
  have h1 := Nat.mul_le_mul_right D hn
  have h2 := Nat.mul_le_mul_right (6 + D) hn
  have := h.2.2.2.2
  have := h.2.2.2.1
  omega

set_option maxRecDepth 100000 in
set_option maxHeartbeats 12800000 in
theorem l5Kind_step (d : Nat) (hd9 : d ≤ 9) (IH : LkSaid d) : LkSaid (d + 1) := by
  intro R w v b p top h hp
  have hp : p + (30 + 5 * cd d) ≤ 100000000 := hp
  obtain ⟨hd0, hb0, hR⟩ := box3_start R w v b p h (.cells #[.int .i64 0, .slice none 0 0, .slice none 0 0] 26)
  have HPK := hide (pick_any R _ v b p 10 hd0 (by omega) (by omega))
  have HST := hide (fun w1 p1 hd hb => KL.start (w := w) (w1 := w1) (v := v) (b := b) (p := p1) hR hd hb)
  have HNM := hide l5Names_any
  have hX0 := row3_alloc w (.int .i64 0) (.slice none 0 0) (.slice none 0 0) 26
  have HX0 := hide hX0; have HB0 := hide hb0
  have hsub : ∀ (W : World) (p2 : Nat) (dp : Int), DR R W v b p2 → p2 + cd d ≤ 100000000 → dp = (d : Int) + 1 → Calls Tryz.prog 40 #[.pointer (some ⟨R, 0, none⟩), .int .i64 dp, .bool false] W fun e w' => ∃ (k : Kd) (x0 : Int) (ap : Option Addr) (np cp : Nat) (aq : Option Addr) (nq cq : Nat) (F : List Nat) (p' : Nat), e = .returned (.agg #[.int .i64 x0, .slice ap np cp, .slice aq nq cq]) ∧ Hid (OwnD w' k ⟨.int .i64 x0, .slice ap np cp, .slice aq nq cq⟩ F) ∧ F.Nodup ∧ Hid (∀ x, x ∈ F → W.heap.size ≤ x ∧ x < w'.heap.size) ∧ Hid (DR R w' v b p') ∧ p' ≤ p2 + cd d ∧ wKd k ≤ cd d ∧ Hid (But R W w') ∧ W.heap.size ≤ w'.heap.size := by
    rintro W p2 dp hW hp2 rfl
    refine (IH R W v b p2 false hW hp2).mono ?_
    rintro e w' ⟨k, ⟨x0, x1, x2⟩, F, p', rfl, ho, hnd, hF, hdr, h1, h2, hb⟩
    obtain ⟨g0, -, F1, F2, -, ⟨ap, cp, g1, -⟩, aq, cq, g2, -⟩ := ho.open
    simp only at g0 g1 g2
    subst g0 g1 g2
    exact ⟨k, _, _, _, _, _, _, _, F, p', rfl, ho, hnd, hF, hdr, h1, h2, hb, hb.size⟩
  have HSUB := hide hsub
  obtain ⟨D, hD⟩ : ∃ D, D = cd d := ⟨_, rfl⟩
  rw [← hD] at HSUB hp
  have HFIN : Hid (cd (d + 1) = 30 + 5 * D) := by show cd (d + 1) = _; rw [hD]; rfl
  clear h hd0 hb0 hX0 hsub hD IH
  show Calls Tryz.prog 40 #[.pointer (some ⟨R, 0, none⟩), .int .i64 (((d + 1 : Nat) : Int) + 1), .bool top] w _
  rw [show (((d + 1 : Nat) : Int) + 1) = (d : Int) + 2 from by omega]
  have hq1 : decide ((d : Int) + 2 ≤ 1) = false := by simp; omega
  have hq3 : decide ((1 : Int) < (d : Int) + 2) = true := by simp; omega
  have hw1 : IntKind.i64.wrap ((d : Int) + 2 - 1) = (d : Int) + 1 := by rw [IntKind.wrap_i64]; omega
  have hw2 : IntKind.i64.wrap ((d : Int) + 1) = (d : Int) + 1 := by rw [IntKind.wrap_i64]; omega
  go_enter Tryz.func40, Tryz.ntmps40
  go_wp2_with fail
  refine (unhide HPK).mono ?_
  rintro e w1 ⟨r, rfl, hr, HD1, HB1⟩
  have hs1 := HB1.out.size
  rw [World.size_alloc] at hs1
  have hlt1 : w.heap.size < w1.heap.size := by omega
  have hne1 : w.heap.size ≠ w1.heap.size := by omega
  have hX1 := (unhide HX0).of_block (HB1.out.at (by simp) (by omega))
  have HX1 := hide hX1
  clear HPK hX1 HX0
  by_cases hform : top = true ∨ 7 < r
  · obtain ⟨i0, hi, hz0, hz1, hz2⟩ := info_parts infoKind3
    obtain ⟨j0, hj, hy0, hy1, hy2⟩ := info_parts infoStr1
    have HII := hide hi; have HZ0 := hide hz0; have HZ1 := hide hz1; have HZ2 := hide hz2
    have HJJ := hide hj; have HY0 := hide hy0; have HY1 := hide hy1; have HY2 := hide hy2
    obtain ⟨hkl, hdi⟩ := unhide HST w1 (p + 1) HD1.out HB1.out
    have HKL := hide hkl; have HDI := hide hdi
    clear hi hz0 hz1 hz2 hj hy0 hy1 hy2 HST hkl hdi HD1 HB1 HX1 HB0
    have hsplit : top = true ∨ (top = false ∧ decide ((7 : Int) < (r : Int)) = true) := by
      cases top
      · exact Or.inr ⟨rfl, by rcases hform with h | h; cases h; simp; omega⟩
      · exact Or.inl rfl
    clear hform
    rcases hsplit with rfl | ⟨rfl, hq7⟩
    all_goals
      go_wp2_with fail
      refine (unhide HNM _).mono ?_
      rintro e w2 ⟨rfl, rfl⟩
      rw [World.size_alloc] at *
      generalize w1.heap.size = B at *
      obtain ⟨W2, hW2⟩ : ∃ W2, (w1.alloc (.cells #[.int .i64 5, .slice none 0 0, .slice none 0 0] 26)).alloc (.cells (nm8.map Value.string).toArray 9) = W2 := ⟨_, rfl⟩
      rw [hW2] at HKL HDI ⊢
      clear hW2 HNM
      go_wp2_with fail
      go_loopw [10] (fun i wr => ∃ (m n q : Nat) (aN : Option Addr) (capN : Nat) (aK : Option Addr) (capK : Nat) (ns : List ByteArray) (ks : List Kd) (xs : List Value) (G : List Nat), m ≤ 8 ∧ n ≤ 4 ∧ i = .int .i64 m ∧ Hid (LB D p m n q ns ks) ∧ Hid (KL R w B v b q wr) ∧ Hid (DInv (B + 2) B wr 5 (.slice aN n capN) (.slice aK n capK) ns ks xs G)) (fun i _ => 8 - (intOf i).toNat)
      case atStart => exact ⟨0, 0, p + 1, none, 0, none, 0, [], [], [], [], by omega, by omega, rfl, hide ⟨rfl, rfl, (fun x hx => by cases hx), by simp [wS, wKs], by omega⟩, HKL, HDI⟩
      case round =>
        clear HKL HDI
        obtain ⟨m, n, q, aN, capN, aK, capK, ns, ks, xs, G, hm, hn, rfl, HLB, HK, HD⟩ := hrel
        have b0 := HD.out.cells.cell (i := 0) (by omega); have b1 := HD.out.cells.cell (i := 1) (by omega); have b2 := HD.out.cells.cell (i := 2) (by omega)
        simp only [row3] at b0 b1 b2
        obtain ⟨o1, o2, o3⟩ := HK.out.ord
        by_cases hgo : m < 8 ∧ n < 4
        · obtain ⟨hm8, hn4⟩ := hgo
          have hqm : decide ((m : Int) < 8) = true := by simp; omega
          have hqn : decide ((n : Int) < 4) = true := by simp; omega
          have hqd := HLB.out.draws (by omega) hm
          have HPK := hide (pick_any R wr v b q 3 HK.out.dr (by omega) (by omega))
          go_wp2_with fail
          refine (unhide HPK).mono ?_
          rintro e w3 ⟨r3, rfl, hr3, HD3, HB3⟩
          have HK3 := hide (HK.out.next HD3.out HB3.out)
          have HI3 := hide (HD.out.kept HB3.out (fun b e => by cases e; exact ⟨by omega, by omega⟩))
          clear HD3 HB3 HPK HK HD b0 b1 b2
          by_cases h0 : r3 = 0
          · subst h0
            have hnm := nm8_size m
            have en : w3.cell? ⟨B + 1, m, none⟩ = some (.string (nm8.getD m ByteArray.empty)) := (unhide HK3).nms.cell (i := m) hm8
            generalize nm8.getD m ByteArray.empty = nm at *
            have e1 := (unhide HI3).cells.cell (i := 1) (by omega)
            simp only [row3] at e1
            have e1a : ∀ ob, (w3.alloc ob).cell? ⟨B, 1, none⟩ = some (.slice aN n capN) := fun ob => ((unhide HI3).cells.alloc ob).cell (i := 1) (by omega)
            have HN3 : Hid (DInv (B + 2) B w3.drew 5 (.slice aN n capN) (.slice aK n capK) ns ks xs G) := (unhide HI3).kept (World.grownBy.refl_drew w3) (fun b e => by cases e)
            have hsz3 := (unhide HI3).size
            have hix : (m : Int) < 8 := by omega
            go_wp2_with fail
            go_cut [] from 25 to 61 (fun wx => ∃ g1 cap1, Hid (DInv (B + 2) B wx 5 (.slice (some ⟨g1, 0, none⟩) (n + 1) cap1) (.slice aK n capK) (ns ++ [nm]) ks xs G) ∧ Hid (KL R w B v b (q + 1) wx))
            case first =>
              go_region_law ((refine step_append_lies _ (by rfl) _ _ _ (by rfl) (B + 2) 9 j0 (.string ByteArray.empty) 1 16 Tryz.underlying23 (unhide HJJ) (unhide HY0) (unhide HY1) (unhide HY2) rfl (by decide) (.slice aN n capN) n (ns.map Value.string) (by rfl) (by have := (unhide HN3).names; rw [HLB.out.1] at this; exact this.alloc _) ⟨w3.heap.size, 0, none⟩ 1 1 [.string nm] (by rfl) (by rfl) (cell_one w3.drew _ _) (fun u hu => by simp at hu; subst hu; rfl) (by decide) (by unfold maxLen; omega) (by omega) (by simp; omega) (w3.heap.size + 1) (by simp) ?_; intro g1 cap1 w4 hown4 hgrow4 hat4 hlt4; have u1 := (DInv.atN (unhide HN3) hgrow4).cell (i := 1) (by omega); have uz := (DInv.atN (unhide HN3) hgrow4).frozen 1; simp only [row3] at u1))
              all_goals
                have hz : ∀ o, (w3.drew.alloc o).heap.size = w3.heap.size + 1 := fun o => by rw [World.size_alloc]; rfl
                have hinv5 := DInv.name ((unhide HN3).kept (World.grownBy_alloc w3.drew (.cells #[.string nm] 9) none) (fun b e => by cases e)) (by rw [HLB.out.1]; exact hown4) hgrow4 (hat4.elim (fun e => Or.inl (by rw [e]; rfl)) (fun e => Or.inr ⟨g1, rfl, by rw [hz, e]; exact Nat.le_refl _⟩))
                have hkw5 : KL R w B v b (q + 1) (w4.setCell ⟨B, 1, none⟩ (.slice (some ⟨g1, 0, none⟩) (n + 1) cap1)) :=
                  ((((unhide HK3).touch (World.grownBy.refl_drew w3) (fun b e => by cases e)).touch (World.grownBy_alloc w3.drew (.cells #[.string nm] 9) none) (fun b e => by cases e)).touch hgrow4 (fun b e => by have := ((unhide HN3).names.lt b e).1; omega)).touch (But.set (B := B) _ _ _) (fun b e => by cases e; exact Or.inl rfl)
                have HI5 := hide hinv5; have HKW5 := hide hkw5
                clear hinv5 hkw5 hown4 hgrow4 hat4 hlt4 uz u1
                go_wp2_with fail
                go_meet
                exact ⟨g1, cap1, HI5, HKW5⟩
            case rest =>
              obtain ⟨g1, cap1, HD5, HK5⟩ := hcut
              clear HK3 HI3 HN3 e1 e1a en hsz3
              have hcallK : ∀ dp : Int, dp = (d : Int) + 1 → Calls Tryz.prog 40 #[.pointer (some ⟨R, 0, none⟩), .int .i64 dp, .bool false] wc.drew fun e w7 => ∃ (k : Kd) (x0 : Int) (ap : Option Addr) (np cp : Nat) (aq : Option Addr) (nq cq : Nat) (F : List Nat) (p' : Nat), e = .returned (.agg #[.int .i64 x0, .slice ap np cp, .slice aq nq cq]) ∧ Hid (OwnD w7 k ⟨.int .i64 x0, .slice ap np cp, .slice aq nq cq⟩ F) ∧ F.Nodup ∧ Hid (∀ x, x ∈ F → wc.heap.size ≤ x ∧ x < w7.heap.size) ∧ Hid (KL R w B v b p' w7) ∧ Hid (p' ≤ q + 1 + D ∧ wKd k ≤ D) ∧ Hid (DInv (B + 2) B w7 5 (.slice (some ⟨g1, 0, none⟩) (n + 1) cap1) (.slice aK n capK) (ns ++ [nm]) ks xs G) ∧ w7.cell? ⟨B, 2, none⟩ = some (.slice aK n capK) ∧ (∀ ob, (w7.alloc ob).cell? ⟨B, 2, none⟩ = some (.slice aK n capK)) ∧ wc.heap.size ≤ w7.heap.size := by
                rintro dp hdp
                have hk5 := (unhide HK5).touch (World.grownBy.refl_drew wc) (fun b e => by cases e)
                have hd5 := (unhide HD5).kept (World.grownBy.refl_drew wc) (fun b e => by cases e)
                refine (unhide HSUB wc.drew (q + 1) dp hk5.dr (by omega) hdp).mono ?_
                rintro e w7 ⟨k, x0, ap, np, cp, aq, nq, cq, F, p', rfl, ho, hnd, hF, hr7, hp7, hk7, hb7, hsz⟩
                have hd7 := hd5.kept hb7.out (fun b e => by cases e; exact ⟨by omega, by omega⟩)
                exact ⟨k, x0, ap, np, cp, aq, nq, cq, F, p', rfl, ho, hnd, hF, hk5.next hr7.out hb7.out, ⟨hp7, hk7⟩, hd7, hd7.cells.cell (i := 2) (by omega), fun ob => (hd7.cells.alloc ob).cell (i := 2) (by omega), hsz⟩
              have HCK := hide hcallK
              have e2 := (unhide HD5).cells.cell (i := 2) (by omega)
              simp only [row3] at e2
              have e2a : ∀ ob, (wc.alloc ob).cell? ⟨B, 2, none⟩ = some (.slice aK n capK) := fun ob => ((unhide HD5).cells.alloc ob).cell (i := 2) (by omega)
              have hsz5 := (unhide HD5).size
              clear hcallK
              go_wp2_with fail
              go_region_law (first
                | ((refine step_append_lies _ (by rfl) _ _ _ (by rfl) (B + 2) 26 i0 _ 3 56 Tryz.underlying24 (unhide HII) (unhide HZ0) (unhide HZ1) (unhide HZ2) rfl (by decide) (.slice aK n capK) n xs (by rfl) (by have := (unhide HD7).got.row; rw [HLB.out.2.1] at this; exact this.alloc _) ⟨w7.heap.size, 0, none⟩ 1 1 (c3l ⟨.int .i64 x0, .slice ap np cp, .slice aq nq cq⟩) (by rfl) (by rfl) (cell_three w7 _ _) (unhide HOW).one (by decide) (by unfold maxLen; omega) (by omega) (by simp; omega) (w7.heap.size + 1) (by simp) ?_; intro g2 cap2 w8 hown8 hgrow8 hat8 hlt8; have u2 := (DInv.atK (unhide HD7) hgrow8).cell (i := 2) (by omega); have uz2 := (DInv.atK (unhide HD7) hgrow8).frozen 2; simp only [row3] at u2))
                | (rw [if_pos (by first | rfl | simp [Region.wanted])]; go_simp; refine (unhide HCK _ (by first | rfl | omega)).mono ?_; rintro e w7 ⟨k, x0, ap, np, cp, aq, nq, cq, F, p', rfl, HOW, hFn, HFL, HK7, HPB, HD7, t2c, t2d, hs7⟩))
              all_goals
                have hz7 : ∀ o, (w7.alloc o).heap.size = w7.heap.size + 1 := fun o => World.size_alloc _ _
                have hinv8 := DInv.kid (m := wc.heap.size) ((unhide HD7).kept (World.grownBy_alloc w7 (.cells #[.int .i64 x0, .slice ap np cp, .slice aq nq cq] 26) none) (fun b e => by cases e)) (OwnD.carry k _ F (fun b hb => Below.heap_alloc _ _ _ (unhide HFL b hb).2) (unhide HOW)) hFn (fun b hb => ⟨(unhide HFL b hb).1, by rw [hz7]; have := (unhide HFL b hb).2; omega⟩)
                  (fun b hb => ((unhide HD5).got.lt b hb).2.1) (fun b hb => ((unhide HD5).got.row.lt b hb).2) (fun b hb => ((unhide HD5).names.lt b hb).2) (unhide HD5).size (by rw [HLB.out.2.1]; exact hown8) hgrow8 (hat8.elim (fun e => Or.inl (by rw [e]; rfl)) (fun e => Or.inr ⟨g2, rfl, by rw [hz7, e]; exact Nat.le_refl _⟩))
                have hkw8 : KL R w B v b p' (w8.setCell ⟨B, 2, none⟩ (.slice (some ⟨g2, 0, none⟩) (n + 1) cap2)) :=
                  (((unhide HK7).touch (World.grownBy_alloc w7 (.cells #[.int .i64 x0, .slice ap np cp, .slice aq nq cq] 26) none) (fun b e => by cases e)).touch hgrow8 (fun b e => by have := ((unhide HD7).got.row.lt b e).1; omega)).touch (But.set (B := B) _ _ _) (fun b e => by cases e; exact Or.inl rfl)
                have HI8 := hide hinv8; have HKW8 := hide hkw8
                clear hinv8 hkw8 hown8 hgrow8 hat8 hlt8 u2 uz2
                go_wp2_with fail
                go_roundw
                case rel => exact ⟨m + 1, n + 1, p', some ⟨g1, 0, none⟩, cap1, some ⟨g2, 0, none⟩, cap2, ns ++ [nm], ks ++ [k], _, _, by omega, by omega, by go_num, hide (HLB.out.more hnm HPB.out.2 HPB.out.1), HKW8, HI8⟩
                case measure => simp [intOf]; omega
          · have hz : ((r3 : Int) == 0) = false := beq_eq_false_iff_ne.2 (by omega)
            go_wp2_with fail
            go_roundw
            case rel => exact ⟨m + 1, n, q + 1, aN, capN, aK, capK, ns, ks, xs, G, by omega, by omega, by go_num, hide HLB.out.pass, HK3, HI3⟩
            case measure => simp [intOf]; omega
        · have hfin := HLB.out.fin hn hm
          obtain ⟨F, ho, hnd, hF⟩ := HD.out.done ⟨by decide, by decide⟩ (fun x hx => by have := HLB.out.2.2.1 x hx; omega)
          have q0 := HK.out.box.cell (i := 0) (by omega); have q1 := HK.out.box.cell (i := 1) (by omega); have q2 := HK.out.box.cell (i := 2) (by omega); have qf := HK.out.box.frozen
          simp only [row3] at q0 q1 q2
          have hne : w.heap.size ≠ B := by omega
          have hne2 : B ≠ w.heap.size := by omega
          have HEND := hide (fun c0 c1 c2 => lk_end (d := d + 1) (w := w) (p := p) hR ho hnd (fun x hx => ⟨by have := (hF x hx).1; omega, (hF x hx).2⟩) HK.out.dr (by rw [unhide HFIN]; omega) (by rw [wKd, unhide HFIN]; omega) HK.out.but c0 c1 c2)
          clear ho hF hnd hfin
          have hor : (m < 8 ∧ ¬ n < 4) ∨ ¬ m < 8 := by omega
          clear hgo
          rcases hor with ⟨hx1, hx2⟩ | hx1
          · have hqm : decide ((m : Int) < 8) = true := by simp; omega
            have hqn : decide ((n : Int) < 4) = false := by simp; omega
            go_wp2_with fail
            refine bodyPost_ret (v := .agg #[.int .i64 5, .slice aN n capN, .slice aK n capK]) (by simp [results, Tryz.results40, go_sem, q0, q1, q2]) rfl ?_
            exact unhide HEND _ _ _
          · have hqm : decide ((m : Int) < 8) = false := by simp; omega
            go_wp2_with fail
            refine bodyPost_ret (v := .agg #[.int .i64 5, .slice aN n capN, .slice aK n capK]) (by simp [results, Tryz.results40, go_sem, q0, q1, q2]) rfl ?_
            exact unhide HEND _ _ _
  · have htop : top = false := by cases top; rfl; exact absurd (Or.inl rfl) hform
    have hr7 : r ≤ 7 := by by_cases h : 7 < r; exact absurd (Or.inr h) hform; omega
    subst htop
    have hz7 : decide ((7 : Int) < (r : Int)) = false := by simp; omega
    have HBW := hide ((unhide HB0).trans HB1.out)
    have p0 := (unhide HX1).cell (i := 0) (by omega); have p1 := (unhide HX1).cell (i := 1) (by omega); have p2 := (unhide HX1).cell (i := 2) (by omega); have pf := (unhide HX1).frozen
    simp only [row3] at p0 p1 p2
    clear HST HNM HB0 hform
    by_cases h4 : r ≤ 4
    · have hz6 : decide ((6 : Int) < (r : Int)) = false := by simp; omega
      have hz4 : decide ((4 : Int) < (r : Int)) = false := by simp; omega
      clear HX1
      rcases (show r = 0 ∨ r = 1 ∨ r = 2 ∨ r = 3 ∨ r = 4 by omega) with rfl | rfl | rfl | rfl | rfl
      · go_wp2_with fail
        refine bodyPost_ret (v := .agg #[.int .i64 1, .slice none 0 0, .slice none 0 0]) (by simp [results, Tryz.results40, go_sem, p0, p1, p2, hlt1]) rfl ?_
        exact lk_leaf (p' := p + 1) ⟨by decide, by decide⟩ hR HD1.out (by rw [unhide HFIN]; omega) (unhide HBW) _ _ _ _
      · go_wp2_with fail
        refine bodyPost_ret (v := .agg #[.int .i64 1, .slice none 0 0, .slice none 0 0]) (by simp [results, Tryz.results40, go_sem, p0, p1, p2, hlt1]) rfl ?_
        exact lk_leaf (p' := p + 1) ⟨by decide, by decide⟩ hR HD1.out (by rw [unhide HFIN]; omega) (unhide HBW) _ _ _ _
      · go_wp2_with fail
        refine bodyPost_ret (v := .agg #[.int .i64 2, .slice none 0 0, .slice none 0 0]) (by simp [results, Tryz.results40, go_sem, p0, p1, p2, hlt1]) rfl ?_
        exact lk_leaf (p' := p + 1) ⟨by decide, by decide⟩ hR HD1.out (by rw [unhide HFIN]; omega) (unhide HBW) _ _ _ _
      · go_wp2_with fail
        refine bodyPost_ret (v := .agg #[.int .i64 2, .slice none 0 0, .slice none 0 0]) (by simp [results, Tryz.results40, go_sem, p0, p1, p2, hlt1]) rfl ?_
        exact lk_leaf (p' := p + 1) ⟨by decide, by decide⟩ hR HD1.out (by rw [unhide HFIN]; omega) (unhide HBW) _ _ _ _
      · go_wp2_with fail
        refine bodyPost_ret (v := .agg #[.int .i64 3, .slice none 0 0, .slice none 0 0]) (by simp [results, Tryz.results40, go_sem, p0, p1, p2, hlt1]) rfl ?_
        exact lk_leaf (p' := p + 1) ⟨by decide, by decide⟩ hR HD1.out (by rw [unhide HFIN]; omega) (unhide HBW) _ _ _ _
    · have HC := hide (fun dp hdp => unhide HSUB w1 (p + 1) dp HD1.out (by omega) hdp)
      clear HSUB p0 p1 p2 pf
      by_cases h6 : r = 7
      · have hz6 : decide ((6 : Int) < (r : Int)) = true := by simp; omega
        go_wp2_with fail
        refine (unhide HC _ (by first | rfl | omega)).mono ?_
        rintro e w2 ⟨k, x0, ap, np, cp, aq, nq, cq, F, p', rfl, HO, hnd, HF, HD2, hp', hk', HB2, hs2⟩
        have hX2 := (unhide HX1).of_block (HB2.out.at (unhide HX1).lt (by omega))
        have p0 := hX2.cell (i := 0) (by omega); have p1 := hX2.cell (i := 1) (by omega); have p2 := hX2.cell (i := 2) (by omega); have pf := hX2.frozen
        simp only [row3] at p0 p1 p2
        have hlt2 : w.heap.size < w2.heap.size := by omega
        have hne2 : w.heap.size ≠ w2.heap.size := by omega
        clear hX2
        go_wp2_with fail
        refine bodyPost_ret (v := .agg #[.int .i64 6, .slice none 0 0, .slice (some ⟨w2.heap.size, 0, none⟩) 1 1]) (by simp [results, Tryz.results40, go_sem, p0, p1, p2, hlt2]) rfl ?_
        exact lk_single (p' := p') (c := ⟨_, _, _⟩) ⟨by decide, by decide⟩ hR HO.out hnd (fun x hx => ⟨by have := (HF.out x hx).1; omega, (HF.out x hx).2⟩) hlt2 HD2.out (by rw [unhide HFIN]; omega) (by rw [unhide HFIN]; omega) ((unhide HBW).trans HB2.out) _ _ _
      · have hz6 : decide ((6 : Int) < (r : Int)) = false := by simp; omega
        have hz4 : decide ((4 : Int) < (r : Int)) = true := by simp; omega
        go_wp2_with fail
        refine (unhide HC _ (by first | rfl | omega)).mono ?_
        rintro e w2 ⟨k, x0, ap, np, cp, aq, nq, cq, F, p', rfl, HO, hnd, HF, HD2, hp', hk', HB2, hs2⟩
        have hX2 := (unhide HX1).of_block (HB2.out.at (unhide HX1).lt (by omega))
        have p0 := hX2.cell (i := 0) (by omega); have p1 := hX2.cell (i := 1) (by omega); have p2 := hX2.cell (i := 2) (by omega); have pf := hX2.frozen
        simp only [row3] at p0 p1 p2
        have hlt2 : w.heap.size < w2.heap.size := by omega
        have hne2 : w.heap.size ≠ w2.heap.size := by omega
        clear hX2
        go_wp2_with fail
        refine bodyPost_ret (v := .agg #[.int .i64 4, .slice none 0 0, .slice (some ⟨w2.heap.size, 0, none⟩) 1 1]) (by simp [results, Tryz.results40, go_sem, p0, p1, p2, hlt2]) rfl ?_
        exact lk_single (p' := p') (c := ⟨_, _, _⟩) ⟨by decide, by decide⟩ hR HO.out hnd (fun x hx => ⟨by have := (HF.out x hx).1; omega, (HF.out x hx).2⟩) hlt2 HD2.out (by rw [unhide HFIN]; omega) (by rw [unhide HFIN]; omega) ((unhide HBW).trans HB2.out) _ _ _
end Go.Proofs.YtenpghndgdemnaaGreatDoor

/- When a tree is ok, as plain functions on data: names, texts, a tree without its kids, its parts. Definitions and small laws, no program. No conditions. -/

namespace Go.Proofs.YtenpghndgdemnaaGreatDoor
open Go Go.RowKit

def nameByte (c : UInt8) : Bool := (97 ≤ c.toNat && c.toNat ≤ 122) || (48 ≤ c.toNat && c.toNat ≤ 57)
def nameFirst (c : UInt8) : Bool := 97 ≤ c.toNat && c.toNat ≤ 122
/-- The first k bytes are such. -/
def allTo (p : UInt8 → Bool) (s : ByteArray) (k : Nat) : Prop := ∀ j, j < k → (h : j < s.size) → p s[j] = true

def nameOkB (s : ByteArray) : Bool := 1 ≤ s.size && s.size ≤ 8 && nameFirst s[0]! && s.data.toList.all nameByte
theorem all_of {p : UInt8 → Bool} {s : ByteArray} (h : allTo p s s.size) : s.data.toList.all p = true := by
  rw [List.all_eq_true]
  intro x hx
  obtain ⟨i, hi, rfl⟩ := List.getElem_of_mem hx
  have hi' : i < s.size := by simpa using hi
  exact h i hi' hi'

theorem all_not {p : UInt8 → Bool} {s : ByteArray} {k : Nat} (hk : k < s.size) (h : p s[k] = false) : s.data.toList.all p = false := by
  rw [Bool.eq_false_iff]
  intro ha
  rw [List.all_eq_true] at ha
  have := ha s[k] (by have : s[k] = s.data.toList[k]'(by simpa using hk) := rfl; rw [this]; exact List.getElem_mem _)
  rw [h] at this
  cases this

theorem ret_bool {b c : Bool} (h : b = c) : Ending.returned (.bool b) = .returned (.bool c) := by rw [h]

theorem allTo_succ {p : UInt8 → Bool} {s : ByteArray} {k : Nat} (h : allTo p s k) (hk : k < s.size) (hp : p s[k] = true) : allTo p s (k + 1) := by
  intro j hj hs
  by_cases e : j = k
  · subst e; exact hp
  · exact h j (by omega) hs

theorem nameByte_yes {c : UInt8} (h : (97 ≤ c.toNat ∧ c.toNat ≤ 122) ∨ (48 ≤ c.toNat ∧ c.toNat ≤ 57)) : nameByte c = true := by
  unfold nameByte; rcases h with h | h <;> simp [h.1, h.2]
theorem nameByte_no {c : UInt8} (h : c.toNat < 48 ∨ (57 < c.toNat ∧ c.toNat < 97) ∨ 122 < c.toNat) : nameByte c = false := by
  unfold nameByte
  simp only [Bool.or_eq_false_iff, Bool.and_eq_false_iff, decide_eq_false_iff_not]
  omega
theorem nameOk_len {s : ByteArray} (h : s.size < 1 ∨ 8 < s.size) : nameOkB s = false := by
  unfold nameOkB
  rcases h with h | h
  · rw [show decide (1 ≤ s.size) = false from decide_eq_false (by omega)]; rfl
  · rw [show decide (s.size ≤ 8) = false from decide_eq_false (by omega)]; simp
theorem nameOk_first {s : ByteArray} (h0 : 0 < s.size) (h : s[0].toNat < 97 ∨ 122 < s[0].toNat) : nameOkB s = false := by
  unfold nameOkB
  rw [getElem!_pos s 0 h0, show nameFirst s[0] = false from by unfold nameFirst; simp only [Bool.and_eq_false_iff, decide_eq_false_iff_not]; omega]
  simp
theorem nameOk_not {s : ByteArray} {k : Nat} (hk : k < s.size) (h : nameByte s[k] = false) : nameOkB s = false := by
  simp [nameOkB, all_not hk h]
theorem nameOk_yes {s : ByteArray} (h1 : 0 < s.size) (h2 : s.size ≤ 8) (hf : 97 ≤ s[0].toNat ∧ s[0].toNat ≤ 122) (ha : allTo nameByte s s.size) : nameOkB s = true := by
  unfold nameOkB
  rw [all_of ha, getElem!_pos s 0 h1, show nameFirst s[0] = true from by unfold nameFirst; simp [hf.1, hf.2]]
  simp; omega

theorem getD_lt (l : List ByteArray) (i : Nat) (h : i < l.length) : l.getD i ByteArray.empty = l[i] := by simp [h]

/-- Name i of a list is a name, and comes behind the one ahead of it. -/
def good (ns : List ByteArray) (i : Nat) : Bool := nameOkB (ns.getD i ByteArray.empty) && (decide (i = 0) || Op.bytesLess (ns.getD (i - 1) ByteArray.empty).toList (ns.getD i ByteArray.empty).toList)
def riseB (ns : List ByteArray) : Bool := (List.range ns.length).all (good ns)
theorem rise_yes {ns : List ByteArray} (h : ∀ i, i < ns.length → good ns i = true) : riseB ns = true := by
  unfold riseB; rw [List.all_eq_true]; intro i hi; exact h i (List.mem_range.1 hi)
theorem rise_no {ns : List ByteArray} {i : Nat} (hi : i < ns.length) (h : good ns i = false) : riseB ns = false := by
  unfold riseB; rw [Bool.eq_false_iff]; intro ha; rw [List.all_eq_true] at ha
  have := ha i (List.mem_range.2 hi); rw [h] at this; cases this
theorem good_name {ns : List ByteArray} {i : Nat} (hi : i < ns.length) (h : nameOkB ns[i] = false) : good ns i = false := by
  unfold good; rw [getD_lt _ _ hi, h]; rfl
theorem good_zero {ns : List ByteArray} (hi : 0 < ns.length) (h : nameOkB ns[0] = true) : good ns 0 = true := by
  unfold good; rw [getD_lt _ _ hi, h]; rfl
theorem good_pos {ns : List ByteArray} {i : Nat} (hi : i < ns.length) (h0 : 0 < i) (h : nameOkB ns[i] = true) : good ns i = Op.bytesLess (ns[i - 1]'(by omega)).toList ns[i].toList := by
  unfold good; rw [getD_lt _ _ hi, getD_lt _ _ (show i - 1 < ns.length by omega), h, decide_eq_false (by omega)]; simp


end Go.Proofs.YtenpghndgdemnaaGreatDoor

/- The walks of the specification's l6In, l6NameOk, l1Rise: what they answer. No conditions. -/

namespace Go.Proofs.YtenpghndgdemnaaGreatDoor
open Go Go.RowKit

set_option maxHeartbeats 400000 in
theorem l6In_any (n lo hi : Int) (w : World) :
    Calls Tryz.prog 68 #[.int .i64 n, .int .i64 lo, .int .i64 hi] w fun e w' => e = .returned (.bool (decide (lo ≤ n ∧ n ≤ hi))) ∧ w' = w := by
  by_cases h1 : lo ≤ n
  · by_cases h2 : n ≤ hi
    · go_enter Tryz.func68, Tryz.ntmps68
      go_wp2_with fail
      go_ret
      exact ⟨by simp [h1, h2], rfl⟩
    · go_enter Tryz.func68, Tryz.ntmps68
      go_wp2_with fail
      go_ret
      exact ⟨ret_bool (by symm; simp; omega), rfl⟩
  · go_enter Tryz.func68, Tryz.ntmps68
    go_wp2_with fail
    go_ret
    exact ⟨ret_bool (by symm; simp; omega), rfl⟩

set_option maxHeartbeats 400000 in
theorem l6NameOk_any (s : ByteArray) (w : World) (hs : s.size ≤ 9223372036854775807) :
    Calls Tryz.prog 90 #[.string s] w fun e w' => e = .returned (.bool (nameOkB s)) ∧ w' = w := by
  by_cases h1 : 1 ≤ s.size ∧ s.size ≤ 8
  · obtain ⟨h1, h8⟩ := h1
    have hd : decide ((1 : Int) ≤ s.size ∧ (s.size : Int) ≤ 8) = true := by simp; omega
    have hc0 : s[0].toNat < 97 ∨ 122 < s[0].toNat ∨ (97 ≤ s[0].toNat ∧ s[0].toNat ≤ 122) := by omega
    rcases hc0 with hc | hc | hc
    · go_enter Tryz.func90, Tryz.ntmps90
      go_wp2_with (go_at_call 68; refine (l6In_any _ _ _ _).mono ?_; rintro e w' ⟨rfl, rfl⟩)
      go_ret
      exact ⟨ret_bool (nameOk_first (by omega) (Or.inl hc)).symm, rfl⟩
    · go_enter Tryz.func90, Tryz.ntmps90
      go_wp2_with (go_at_call 68; refine (l6In_any _ _ _ _).mono ?_; rintro e w' ⟨rfl, rfl⟩)
      go_ret
      exact ⟨ret_bool (nameOk_first (by omega) (Or.inr hc)).symm, rfl⟩
    · have HF := hide hc
      obtain ⟨hca, hcb⟩ := hc
      go_enter Tryz.func90, Tryz.ntmps90
      go_wp2_with (go_at_call 68; refine (l6In_any _ _ _ _).mono ?_; rintro e w' ⟨rfl, rfl⟩)
      go_loop [3] (fun i => ∃ k : Nat, k ≤ s.size ∧ i = .int .i64 k ∧ Hid (allTo nameByte s k)) (fun i => s.size - (intOf i).toNat)
      case atStart => exact ⟨0, Nat.zero_le _, rfl, fun j hj => by omega⟩
      case round =>
        obtain ⟨k, hk, rfl, HA⟩ := hrel
        by_cases hlt : k < s.size
        · have hc : s[k].toNat < 48 ∨ (57 < s[k].toNat ∧ s[k].toNat < 97) ∨ 122 < s[k].toNat ∨ (97 ≤ s[k].toNat ∧ s[k].toNat ≤ 122) ∨ (48 ≤ s[k].toNat ∧ s[k].toNat ≤ 57) := by omega
          rcases hc with hc | hc | hc | hc | hc
          · have HC := hide (nameOk_not hlt (nameByte_no (Or.inl hc)))
            have d1 : decide ((97 : Int) ≤ s[k].toNat) = false := by simp; omega
            have d2 : decide ((s[k].toNat : Int) ≤ 122) = true := by simp; omega
            have d3 : decide ((48 : Int) ≤ s[k].toNat) = false := by simp; omega
            have d4 : decide ((s[k].toNat : Int) ≤ 57) = true := by simp; omega
            go_wp2_with fail
            go_ret
            exact ⟨ret_bool (unhide HC).symm, rfl⟩
          · have HC := hide (nameOk_not hlt (nameByte_no (Or.inr (Or.inl hc))))
            obtain ⟨hc1, hc2⟩ := hc
            have d1 : decide ((97 : Int) ≤ s[k].toNat) = false := by simp; omega
            have d2 : decide ((s[k].toNat : Int) ≤ 122) = true := by simp; omega
            have d3 : decide ((48 : Int) ≤ s[k].toNat) = true := by simp; omega
            have d4 : decide ((s[k].toNat : Int) ≤ 57) = false := by simp; omega
            go_wp2_with fail
            go_ret
            exact ⟨ret_bool (unhide HC).symm, rfl⟩
          · have HC := hide (nameOk_not hlt (nameByte_no (Or.inr (Or.inr hc))))
            have d1 : decide ((97 : Int) ≤ s[k].toNat) = true := by simp; omega
            have d2 : decide ((s[k].toNat : Int) ≤ 122) = false := by simp; omega
            have d3 : decide ((48 : Int) ≤ s[k].toNat) = true := by simp; omega
            have d4 : decide ((s[k].toNat : Int) ≤ 57) = false := by simp; omega
            go_wp2_with fail
            go_ret
            exact ⟨ret_bool (unhide HC).symm, rfl⟩
          · have HN := hide (allTo_succ HA.out hlt (nameByte_yes (Or.inl hc)))
            obtain ⟨hc1, hc2⟩ := hc
            have d1 : decide ((97 : Int) ≤ s[k].toNat) = true := by simp; omega
            have d2 : decide ((s[k].toNat : Int) ≤ 122) = true := by simp; omega
            have d3 : decide ((48 : Int) ≤ s[k].toNat) = true := by simp; omega
            have d4 : decide ((s[k].toNat : Int) ≤ 57) = false := by simp; omega
            go_wp2_with fail
            go_round
            case rel => exact ⟨k + 1, by omega, by go_num, HN⟩
            case measure => simp [intOf]; omega
          · have HN := hide (allTo_succ HA.out hlt (nameByte_yes (Or.inr hc)))
            obtain ⟨hc1, hc2⟩ := hc
            have d1 : decide ((97 : Int) ≤ s[k].toNat) = false := by simp; omega
            have d2 : decide ((s[k].toNat : Int) ≤ 122) = true := by simp; omega
            have d3 : decide ((48 : Int) ≤ s[k].toNat) = true := by simp; omega
            have d4 : decide ((s[k].toNat : Int) ≤ 57) = true := by simp; omega
            go_wp2_with fail
            go_round
            case rel => exact ⟨k + 1, by omega, by go_num, HN⟩
            case measure => simp [intOf]; omega
        · go_wp2_with fail
          go_ret
          obtain rfl : k = s.size := by omega
          exact ⟨ret_bool (nameOk_yes (by omega) (by omega) (unhide HF) HA.out).symm, rfl⟩
  · have hd : decide ((1 : Int) ≤ s.size ∧ (s.size : Int) ≤ 8) = false := by simp; omega
    go_enter Tryz.func90, Tryz.ntmps90
    go_wp2_with (go_at_call 68; refine (l6In_any _ _ _ _).mono ?_; rintro e w' ⟨rfl, rfl⟩)
    go_ret
    exact ⟨ret_bool (nameOk_len (by omega)).symm, rfl⟩

theorem geqS (t : TypeId) (a b : ByteArray) : binOp .geq t (.string a) (.string b) = pure (.bool !(Op.bytesLess a.toList b.toList)) := by simp [binOp, Op.stringOp]

set_option maxHeartbeats 400000 in
theorem l1Rise_any (v : Value) (ss : List ByteArray) (w : World) {P : Nat → Prop} (hP : ∀ b, P b → b < w.heap.size) (hv : StrsAt P w v ss) :
    Calls Tryz.prog 69 #[v] w fun e w' => e = .returned (.bool (riseB ss)) ∧ Below w.heap.size w w' := by
  obtain ⟨a, cap, rfl, hlen, hc⟩ := hv
  have HC := hide hc; have HP := hide hP
  clear hc hP
  go_enter Tryz.func69, Tryz.ntmps69
  go_wp2_with fail
  go_loopw [3] (fun i wr => ∃ (k : Nat), k ≤ ss.length ∧ i = .int .i64 k ∧ Hid (∀ j, j < k → good ss j = true) ∧ Below w.heap.size w wr) (fun i _ => ss.length - (intOf i).toNat)
  case atStart => exact ⟨0, Nat.zero_le _, rfl, hide (fun j hj => by omega), Below.refl _ _⟩
  case round =>
    obtain ⟨k, hk, rfl, HG, hb⟩ := hrel
    by_cases hlt : k < ss.length
    · obtain ⟨b, o, rfl, hpb, hcell, hsz⟩ := unhide HC k hlt
      have e1 : wr.cell? ⟨b, o + k, none⟩ = some (.string ss[k]) := by rw [hb.cell (unhide HP b hpb)]; exact hcell
      clear hcell hpb
      have hname := fun w => l6NameOk_any ss[k] w hsz
      have HN := hide hname; clear hname
      by_cases hn : nameOkB ss[k] = true
      · by_cases h0 : 0 < k
        · obtain ⟨b', o', he, hpb, hcell, -⟩ := unhide HC (k - 1) (by omega)
          simp only [Option.some.injEq, Addr.mk.injEq, and_true] at he
          obtain ⟨rfl, rfl⟩ := he
          have e0 : wr.cell? ⟨b, o + (k - 1), none⟩ = some (.string (ss[k - 1]'(by omega))) := by rw [hb.cell (unhide HP b hpb)]; exact hcell
          have hd0 : decide ((0 : Int) < k) = true := by simp; omega
          have hgd := good_pos hlt h0 hn
          generalize hlb : Op.bytesLess (ss[k - 1]'(by omega)).toList ss[k].toList = lb at hgd
          have hi1 : ((k : Int) - 1).toNat = k - 1 := by omega
          have HGD := hide hgd
          clear hcell hpb hgd
          have hge := geqS
          cases lb
          · have HR := hide (rise_no hlt (unhide HGD))
            go_wp2_with fail
            go_quiet ((go_at_call 90; exact Calls.quiet_of_same (unhide HN _)))
            go_wp2_with fail
            go_ret
            exact ⟨ret_bool (unhide HR).symm, below_drewN hb _⟩
          · go_wp2_with fail
            go_quiet ((go_at_call 90; exact Calls.quiet_of_same (unhide HN _)))
            go_wp2_with fail
            go_roundw
            case rel => exact ⟨k + 1, by omega, by go_num, hide (fun j hj => by
              by_cases e : j = k
              · subst e; exact unhide HGD
              · exact HG.out j (by omega)), below_drewN hb _⟩
            case measure => simp [intOf]; omega
        · have hd0 : decide (0 < k) = false := by simp; omega
          have HK0 : Hid (k = 0) := by show k = 0; omega
          clear h0
          go_wp2_with fail
          go_quiet ((go_at_call 90; exact Calls.quiet_of_same (unhide HN _)))
          go_wp2_with fail
          go_roundw
          case rel => exact ⟨k + 1, by omega, by go_num, hide (fun j hj => by have := HK0.out; subst this; obtain rfl : j = 0 := by omega
                                                                              exact good_zero hlt hn), below_drewN hb _⟩
          case measure => simp [intOf]; omega
      · have hn' : nameOkB ss[k] = false := by simpa using hn
        have HR := hide (rise_no hlt (good_name hlt hn'))
        clear hn
        go_wp2_with fail
        go_quiet ((go_at_call 90; exact Calls.quiet_of_same (unhide HN _)))
        go_wp2_with fail
        go_ret
        exact ⟨ret_bool (unhide HR).symm, below_drewN hb _⟩
    · go_wp2_with fail
      go_ret
      exact ⟨ret_bool (rise_yes (fun i hi => HG.out i (by omega))).symm, hb⟩
end Go.Proofs.YtenpghndgdemnaaGreatDoor
