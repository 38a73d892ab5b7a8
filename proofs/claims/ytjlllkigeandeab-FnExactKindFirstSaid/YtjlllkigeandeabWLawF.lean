/- The walk of the law on KindFirst: whatever schema comes in, it answers true, and turns nothing that was there. No conditions. -/
import Derived.Test.YtjlllkigeandeabFirstL
import Derived.Test.YtjlllkigeandeabWMarkK
import Derived.Test.YtjlllkigeandeabWHeld
import Derived.Test.YtjlllkigeandeabWSzK
import Derived.Test.YtjlllkigeandeabWToF
import Derived.Test.YtjlllkigeandeabWEqK
import Derived.Test.YtjlllkigeandeabWEq
namespace Go.Proofs.Ytjlllkigeandeab
open Go Go.RowKit

theorem St.eq {w wr : World} {T : Tr} {c dX : C3} {BW BX BG : Nat} {dW dG : C5} {FW FG : List Nat} (h : St w wr T T c dX BW BX BG dW dG FW FG) :
    Calls Try.prog 8 #[.agg #[dG.c0, dG.c1, dG.c2, dG.c3, dG.c4], .agg #[dW.c0, dW.c1, dW.c2, dW.c3, dW.c4]] wr fun e w' => e = .returned (.bool true) ∧ Below wr.heap.size wr w' :=
  eqTree_any T (· ∈ FG) (· ∈ FW) dG dW wr (fun b hb => by have := h.lG b hb; have := h.lt; omega) (fun b hb => by have := h.lW b hb; have := h.lt; omega) (Own.rep T _ FG (fun _ h => h) h.oG) (Own.rep T _ FW (fun _ h => h) h.oW)
theorem St.mark {w wr : World} {T T' : Tr} {c dX : C3} {BW BX BG : Nat} {dW dG : C5} {FW FG : List Nat} (h : St w wr T T' c dX BW BX BG dW dG FW FG) (hk : 1 + T'.names.length + cK T'.kids ≤ 1099511627776) :
    Calls Try.prog 11 #[.agg #[dG.c0, dG.c1, dG.c2, dG.c3, dG.c4], .int .i64 1] wr fun e w' => e = .returned (.int .i64 (1 + T'.names.length + cK T'.kids : Nat)) ∧ St w w' T (.mk T'.sort T'.num T'.text (mS 1 T'.names) (mK (1 + T'.names.length) T'.kids)) c dX BW BX BG dW dG FW FG :=
  (markTree_any T' dG FG 1 wr h.oG h.nd (fun b hb => by have := h.lG b hb; have := h.lt; omega) (by omega) hk).mono fun e w' ⟨h1, h2, h3⟩ => ⟨h1, h.exc h3 h2⟩
theorem St.held {w wr : World} {T T' : Tr} {s n : Int} {tx : ByteArray} {c dX : C3} {BW BX BG : Nat} {dW dG : C5} {FW FG : List Nat} (h : St w wr T (.mk s n tx (mS 1 T'.names) (mK (1 + T'.names.length) T'.kids)) c dX BW BX BG dW dG FW FG) (hk : 1 + T'.names.length + cK T'.kids ≤ 1099511627776) :
    Calls Try.prog 12 #[.agg #[dG.c0, dG.c1, dG.c2, dG.c3, dG.c4], .int .i64 1] wr fun e w' => e = .returned (.int .i64 (1 + T'.names.length + cK T'.kids : Nat)) ∧ St w w' T (.mk s n tx (mS 1 T'.names) (mK (1 + T'.names.length) T'.kids)) c dX BW BX BG dW dG FW FG ∧ Below wr.heap.size wr w' :=
  (heldTree_any T' s n tx (· ∈ FG) dG 1 wr (fun b hb => by have := h.lG b hb; have := h.lt; omega) (Own.rep _ _ FG (fun _ h => h) h.oG) (by omega) hk).mono fun e w' ⟨h1, h2⟩ => ⟨h1, h.on h2, h2⟩

set_option maxRecDepth 100000 in
set_option maxHeartbeats 3200000 in
theorem lawKindFirst_any (t : Kd) (P : Nat → Prop) (c : C3) (w : World) (hP : ∀ b, P b → b < w.heap.size) (hrep : KRep P w t c) :
    Calls Try.prog 3 #[.agg #[c.c0, c.c1, c.c2]] w fun e w' => e = .returned (.bool true) ∧ Below w.heap.size w w' := by
  obtain ⟨c0, c1, c2⟩ := c
  have HP := hide hP; have HREP := hide hrep
  obtain ⟨e0, -, ⟨a1, cap1, e1, -, -⟩, a2, cap2, e2, -, -⟩ := hrep.open
  simp only at e0 e1 e2
  subst e0 e1 e2
  have hbx : ∀ o, Below w.heap.size w (w.alloc o) := fun o => (Below.refl _ _).alloc (Nat.le_refl _) o
  have hcp : Hid (wKd t ≤ 1048576 → ∀ W, Below w.heap.size w W → Calls Try.prog 6 #[.agg #[.int .i64 t.sort, .slice a1 t.names.length cap1, .slice a2 t.kids.length cap2]] W fun e w' => ∃ c' : C3, e = .returned (.agg #[c'.c0, c'.c1, c'.c2]) ∧ KRep (NewF W w') w' t c' ∧ Below W.heap.size W w') := fun hwt W hW =>
    toKind_free t P ⟨_, _, _⟩ W (fun b hb => Nat.lt_of_lt_of_le (hP b hb) hW.size) (KRep.carry (fun b hb => hW.block b (hP b hb)) (fun _ h => h) _ _ hrep) hwt
  have HBX := hide hbx
  clear hP hrep hbx
  go_enter Try.func3, Try.ntmps3
  go_wp2_with fail
  refine (szKind_any t P ⟨_, _, _⟩ _ _ (fun b hb => Nat.lt_of_lt_of_le (unhide HP b hb) (unhide HBX _).size) (KRep.carry (fun b hb => (unhide HBX _).block b (unhide HP b hb)) (fun _ h => h) _ _ (unhide HREP)) (by omega) (by omega)).mono ?_
  rintro e w1 ⟨r, rfl, hr, hb1⟩
  obtain ⟨q1, hs1, hb01⟩ := kbox1 hb1
  clear hb1
  rcases hr with rfl | ⟨hr0, hr1⟩
  · have HB := hide hb01; clear hb01 q1
    go_wp2_with fail
    go_ret
    exact ⟨rfl, unhide HB⟩
  have hwt : wKd t ≤ 1048576 := by omega
  have hcp' := unhide hcp hwt
  have HCP := hide hcp'; have HWT := hide hwt
  have k0 := q1.cell (i := 0) (by omega); have k1 := q1.cell (i := 1) (by omega); have k2 := q1.cell (i := 2) (by omega)
  simp only [row3] at k0 k1 k2
  have Q1 := hide q1; have HB1 := hide hb01
  clear q1 hb01 hwt hr1 hcp' hcp
  go_wp2_with fail
  refine (unhide HCP _ (unhide HB1)).mono ?_
  rintro e w2 ⟨⟨d0, d1, d2⟩, rfl, hrd, hb2⟩
  clear k0 k1 k2
  have hs2 := hb2.size
  have HSP := hide (specKindFirst_any t _ ⟨d0, d1, d2⟩ w2 (fun b hb => hb.1.2) hrd)
  have Q2 := hide ((unhide Q1).of_block (hb2.block _ (by omega))); have HB2 := hide ((unhide HB1).trans (hb2.mono (unhide HB1).size))
  obtain ⟨g0, -, ⟨a3, cap3, g3, -⟩, a4, cap4, g4, -⟩ := hrd.open
  simp only at g0 g3 g4
  subst g0 g3 g4
  clear hrd hb2 Q1 HB1
  go_wp2_with fail
  refine (unhide HSP).mono ?_
  rintro e w3 ⟨⟨d0, d1, d2, d3, d4⟩, FW, rfl, hoW, hnW, hlW, hb3⟩
  have hs3 := hb3.size
  obtain ⟨x0, x1, x2, -, -, -, F1, F2, -, ⟨a5, cap5, x3, -⟩, a6, cap6, x4, -⟩ := hoW.open
  simp only at x0 x1 x2 x3 x4
  subst x0 x1 x2 x3 x4
  have q3 := (unhide Q2).of_block (hb3.block _ (by omega)); have hb03 := (unhide HB2).trans (hb3.mono (unhide HB2).size)
  have k0 : ∀ ob, (w3.alloc ob).cell? ⟨w.heap.size, 0, none⟩ = _ := fun ob => (q3.alloc ob).cell (i := 0) (by omega)
  have k1 : ∀ ob, (w3.alloc ob).cell? ⟨w.heap.size, 1, none⟩ = _ := fun ob => (q3.alloc ob).cell (i := 1) (by omega)
  have k2 : ∀ ob, (w3.alloc ob).cell? ⟨w.heap.size, 2, none⟩ = _ := fun ob => (q3.alloc ob).cell (i := 2) (by omega)
  simp only [row3] at k0 k1 k2
  have Q3 := hide q3; have HB3 := hide hb03; have HOW := hide hoW; have HLW := hide hlW
  generalize hT : fA t = T at *
  have HT := hide hT; clear hT
  clear q3 hb03 hb3 HSP Q2 HB2 hoW hlW
  go_wp2_with fail
  refine (unhide HCP _ ((unhide HB3).trans ((Below.refl w3.heap.size w3).alloc (Nat.le_refl _) _ |>.mono (unhide HB3).size))).mono ?_
  rintro e w4 ⟨⟨d0, d1, d2⟩, rfl, hrx, hb4⟩
  clear k0 k1 k2
  obtain ⟨pW, hsW, hb34⟩ := box1 hb4
  have hs4 := hb4.size
  have hb04 := (unhide HB3).trans (hb34.mono (unhide HB3).size)
  have q4 := (unhide Q3).of_block (hb34.block _ (by omega))
  have hoW4 := Own.carry T _ FW (fun b hb => hb34.block b (unhide HLW b hb).2) (unhide HOW)
  have hbx4 : ∀ o, Below w4.heap.size w4 (w4.alloc o) := fun o => (Below.refl _ _).alloc (Nat.le_refl _) o
  have him := fun o => implKindFirst_any t _ ⟨d0, d1, d2⟩ (w4.alloc o) (fun b hb => Nat.lt_of_lt_of_le hb.1.2 (hbx4 o).size) (KRep.carry (fun b hb => (hbx4 o).block b hb.1.2) (fun _ h => h) _ _ hrx) (unhide HWT)
  rw [unhide HT] at him
  have HIM := hide him
  obtain ⟨D, hD, hD1, hD2⟩ : ∃ D : Nat → Prop, D = NewF (w3.alloc (.cells #[.int .i64 T.sort, .int .i64 T.num, .string T.text, .slice a5 T.names.length cap5, .slice a6 T.kids.length cap6] 29)) w4 ∧ (∀ b, D b → w3.heap.size < b ∧ b < w4.heap.size) ∧ ∀ b, D b → FreeB w4 b :=
    ⟨_, rfl, fun b hb => ⟨by have := hb.1.1; simp at this; omega, hb.1.2⟩, fun b hb => hb.2⟩
  rw [← hD] at hrx
  have HRX := hide hrx; have Q4 := hide q4; have HB4 := hide hb04; have PW := hide pW; have HOW4 := hide hoW4; have HD1 := hide hD1; have HD2 := hide hD2
  obtain ⟨g0, -, ⟨a3', cap3', g3, -⟩, a4', cap4', g4, -⟩ := hrx.open
  simp only at g0 g3 g4
  subst g0 g3 g4
  clear hrx q4 hb04 hbx4 hb4 Q3 HB3 him hb34 pW hoW4 HOW hD1 hD2 hD
  go_wp2_with fail
  refine (unhide HIM _).mono ?_
  rintro e w5 ⟨⟨d0, d1, d2, d3, d4⟩, FG, rfl, hoG, hnG, hlG, hb5⟩
  obtain ⟨x0, x1, x2, -, -, -, F1', F2', -, ⟨a7, cap7, x3, -⟩, a8, cap8, x4, -⟩ := hoG.open
  simp only at x0 x1 x2 x3 x4
  subst x0 x1 x2 x3 x4
  obtain ⟨pX, hsX, hb45⟩ := kbox1 hb5
  have pX' := pX
  have hz4 : ∀ o, (w4.alloc o).heap.size = w4.heap.size + 1 := fun o => World.size_alloc _ _
  have hst : St w (w5.alloc (.cells #[.int .i64 T.sort, .int .i64 T.num, .string T.text, .slice a7 T.names.length cap7, .slice a8 T.kids.length cap8] 29)) T T ⟨.int .i64 t.sort, .slice a1 t.names.length cap1, .slice a2 t.kids.length cap2⟩ ⟨.int .i64 t.sort, .slice a3' t.names.length cap3', .slice a4' t.kids.length cap4'⟩ w3.heap.size w4.heap.size w5.heap.size ⟨.int .i64 T.sort, .int .i64 T.num, .string T.text, .slice a5 T.names.length cap5, .slice a6 T.kids.length cap6⟩ ⟨.int .i64 T.sort, .int .i64 T.num, .string T.text, .slice a7 T.names.length cap7, .slice a8 T.kids.length cap8⟩ FW FG := by
    have hba := fun o => (Below.refl w5.heap.size w5).alloc (Nat.le_refl _) o
    exact ⟨((unhide HB4).trans (hb45.mono (unhide HB4).size)).trans ((hba _).mono (by have := (unhide HB4).size; omega)), by refine ⟨by omega, by omega, by omega, by simp⟩, ((unhide Q4).of_block (hb45.block _ (by omega))).alloc _, ((unhide PW).of_block (hb45.block _ (by omega))).alloc _, pX'.alloc _, row5_alloc w5 _ _ _ _ _ _,
      Own.carry T _ FW (fun b hb => by rw [Below.heap_alloc _ _ _ (by have := (unhide HLW b hb).2; omega)]; exact hb45.block b (by have := (unhide HLW b hb).2; omega)) (unhide HOW4),
      Own.carry T _ FG (fun b hb => Below.heap_alloc _ _ _ (hlG b hb).2) hoG, fun b hb => ⟨by have := unhide HLW b hb; omega, (unhide HLW b hb).2⟩, fun b hb => ⟨by have := (hlG b hb).1; rw [hz4] at this; omega, (hlG b hb).2⟩, hnG⟩
  have k0 := hst.bW.cell (i := 0) (by omega); have k1 := hst.bW.cell (i := 1) (by omega); have k2 := hst.bW.cell (i := 2) (by omega); have k3 := hst.bW.cell (i := 3) (by omega); have k4 := hst.bW.cell (i := 4) (by omega)
  simp only [row5] at k0 k1 k2 k3 k4
  have HST := hide hst
  have HRX5 := hide (fun (W : World) (hW : Below w5.heap.size w5 W) => KRep.carry (w' := W) (fun b hb => (hW.block b (by have := (unhide HD1 b hb).2; omega)).trans (hb45.block b (unhide HD1 b hb).2)) (fun _ h => h) _ _ (unhide HRX))
  have HFX := hide (fun (W : World) (hW : Below w5.heap.size w5 W) b (hb : D b) => (unhide HD2 b hb).of_block ((hW.block b (by have := (unhide HD1 b hb).2; omega)).trans (hb45.block b (unhide HD1 b hb).2)))
  have HB5 : Hid (Below w5.heap.size w5 (w5.alloc (.cells #[.int .i64 T.sort, .int .i64 T.num, .string T.text, .slice a7 T.names.length cap7, .slice a8 T.kids.length cap8] 29))) := (Below.refl w5.heap.size w5).alloc (Nat.le_refl _) _
  clear hst pX pX' hb5 hb45 hoG hlG HIM Q4 HB4 PW HOW4 HRX HD2 HLW
  go_wp2_with fail
  refine (unhide HST).eq.mono ?_
  rintro e w6 ⟨rfl, hb6⟩
  have hst6 := (unhide HST).on hb6
  have hb56 := (unhide HB5).trans (hb6.mono (unhide HB5).size)
  clear k0 k1 k2 k3 k4
  have k0 := hst6.bA.cell (i := 0) (by omega); have k1 := hst6.bA.cell (i := 1) (by omega); have k2 := hst6.bA.cell (i := 2) (by omega)
  have j0 := hst6.bX.cell (i := 0) (by omega); have j1 := hst6.bX.cell (i := 1) (by omega); have j2 := hst6.bX.cell (i := 2) (by omega)
  simp only [row3] at k0 k1 k2 j0 j1 j2
  have HST6 := hide hst6; have HB6 := hide hb56
  clear hst6 hb56 hb6 HST HB5
  go_wp2_with fail
  go_region_with (first
    | (go_at_call 6
       refine (unhide HCP w6.drew (unhide HST6).below.drew).mono ?_
       rintro e w7 ⟨⟨y0, y1, y2⟩, rfl, hry, hb7⟩
       have hb67 : Below w6.heap.size w6 w7 := (Below.refl _ w6).drew.trans hb7
       have hst7 := (unhide HST6).on hb67
       have i0 := hst7.bX.cell (i := 0) (by omega)
       have i1 := hst7.bX.cell (i := 1) (by omega)
       have i2 := hst7.bX.cell (i := 2) (by omega)
       simp only [row3] at i0 i1 i2
       have HB7 := hide ((unhide HB6).trans (hb67.mono (unhide HB6).size))
       have HEK := hide (eqKind_any t D (NewF w6.drew w7) ⟨.int .i64 t.sort, .slice a3' t.names.length cap3', .slice a4' t.kids.length cap4'⟩ ⟨y0, y1, y2⟩ w7 (fun b hb => by have := (unhide HD1 b hb).2; have := hst7.lt; omega) (fun b hb => hb.1.2) (unhide HRX5 w7 (unhide HB7)) hry)
       have HST7 := hide hst7
       clear hst7 hry hb7 hb67)
    | (go_at_call 9
       refine (unhide HEK).mono ?_
       rintro e w8 ⟨rfl, hb8⟩
       have HST8 := hide ((unhide HST7).on hb8)
       have HB8 := hide ((unhide HB7).trans (hb8.mono (unhide HB7).size))
       have l0 := (unhide HST8).bX.cell (i := 0) (by omega)
       have l1 := (unhide HST8).bX.cell (i := 1) (by omega)
       have l2 := (unhide HST8).bX.cell (i := 2) (by omega)
       simp only [row3] at l0 l1 l2
       clear hb8))
  all_goals
    clear k0 k1 k2 j0 j1 j2 i0 i1 i2 HEK HST7 HB7 HST6 HB6
    have HMK := hide (markKind_shp D t ⟨.int .i64 t.sort, .slice a3' t.names.length cap3', .slice a4' t.kids.length cap4'⟩ 1 w8 (KRep.shp (fun b hb => ⟨hb, unhide HFX w8 (unhide HB8) b hb⟩) t _ (unhide HRX5 w8 (unhide HB8))) (by omega) (kd_marks (unhide HWT)))
    clear HFX HRX5
    go_wp2_with fail
    refine (unhide HMK).mono ?_
    rintro e w9 ⟨rfl, hl9⟩
    have hst9 := (unhide HST8).like hl9 (unhide HD1)
    clear l0 l1 l2 hl9 HMK HST8 HB8 HD1
    have hmk := kd_marks (unhide HWT)
    generalize 1 + t.names.length + kcK t.kids = mk at *
    have g0 := hst9.bG.cell (i := 0) (by omega); have g1 := hst9.bG.cell (i := 1) (by omega); have g2 := hst9.bG.cell (i := 2) (by omega); have g3 := hst9.bG.cell (i := 3) (by omega); have g4 := hst9.bG.cell (i := 4) (by omega)
    have v0 := hst9.bW.cell (i := 0) (by omega); have v1 := hst9.bW.cell (i := 1) (by omega); have v2 := hst9.bW.cell (i := 2) (by omega); have v3 := hst9.bW.cell (i := 3) (by omega); have v4 := hst9.bW.cell (i := 4) (by omega)
    simp only [row5] at g0 g1 g2 g3 g4 v0 v1 v2 v3 v4
    have HST9 := hide hst9
    clear hst9
    go_wp2_with fail
    refine (unhide HST9).eq.mono ?_
    rintro e wa ⟨rfl, hba⟩
    have hsta := (unhide HST9).on hba
    clear hba HST9 g0 g1 g2 g3 g4 v0 v1 v2 v3 v4
    have g0 := hsta.bG.cell (i := 0) (by omega); have g1 := hsta.bG.cell (i := 1) (by omega); have g2 := hsta.bG.cell (i := 2) (by omega); have g3 := hsta.bG.cell (i := 3) (by omega); have g4 := hsta.bG.cell (i := 4) (by omega)
    simp only [row5] at g0 g1 g2 g3 g4
    have hmm : 1 + T.names.length + cK T.kids ≤ 1099511627776 := by have := fA_marks (unhide HWT); rw [unhide HT] at this; exact this
    have HMM := hide hmm
    have HMT := hide (hsta.mark hmm)
    clear hsta hmm
    go_wp2_with fail
    refine (unhide HMT).mono ?_
    rintro e wb ⟨rfl, hstb⟩
    clear HMT g0 g1 g2 g3 g4
    have g0 := hstb.bG.cell (i := 0) (by omega); have g1 := hstb.bG.cell (i := 1) (by omega); have g2 := hstb.bG.cell (i := 2) (by omega); have g3 := hstb.bG.cell (i := 3) (by omega); have g4 := hstb.bG.cell (i := 4) (by omega)
    simp only [row5] at g0 g1 g2 g3 g4
    have HHT := hide (hstb.held (unhide HMM))
    clear hstb
    generalize hmt : 1 + T.names.length + cK T.kids = mt at *
    have hmt1 : 1 ≤ mt := by omega
    have hmt2 := unhide HMM
    have HME := hide hmt
    clear hmt
    go_wp2_with fail
    refine (unhide HHT).mono ?_
    rintro e wc ⟨rfl, hstc, -⟩
    clear HHT g0 g1 g2 g3 g4
    have k0 := hstc.bA.cell (i := 0) (by omega); have k1 := hstc.bA.cell (i := 1) (by omega); have k2 := hstc.bA.cell (i := 2) (by omega)
    simp only [row3] at k0 k1 k2
    have HC := hide (unhide HCP wc hstc.below)
    have HSTC := hide hstc
    clear hstc
    go_wp2_with fail
    refine (unhide HC).mono ?_
    rintro e wd ⟨⟨d0, d1, d2⟩, rfl, hrd, hbd⟩
    clear HC k0 k1 k2
    have him := implKindFirst_any t _ ⟨d0, d1, d2⟩ wd (fun b hb => hb.1.2) hrd (unhide HWT)
    rw [unhide HT] at him
    have HIM := hide him
    obtain ⟨g0, -, ⟨a9, cap9, g3, -⟩, a9', cap9', g4, -⟩ := hrd.open
    simp only at g0 g3 g4
    subst g0 g3 g4
    have HSTD := hide ((unhide HSTC).on hbd)
    clear HSTC him hrd hbd
    go_wp2_with fail
    refine (unhide HIM).mono ?_
    rintro e we ⟨⟨d0, d1, d2, d3, d4⟩, FH, rfl, hoH, -, hlH, hbe⟩
    obtain ⟨x0, x1, x2, -, -, -, F1'', F2'', -, ⟨aa, capa, x3, -⟩, ab, capb, x4, -⟩ := hoH.open
    simp only at x0 x1 x2 x3 x4
    subst x0 x1 x2 x3 x4
    have hste := fun o => ((unhide HSTD).on hbe).on ((Below.refl we.heap.size we).alloc (Nat.le_refl _) o)
    have v0 := fun o => (hste o).bW.cell (i := 0) (by omega); have v1 := fun o => (hste o).bW.cell (i := 1) (by omega); have v2 := fun o => (hste o).bW.cell (i := 2) (by omega); have v3 := fun o => (hste o).bW.cell (i := 3) (by omega); have v4 := fun o => (hste o).bW.cell (i := 4) (by omega)
    simp only [row5] at v0 v1 v2 v3 v4
    have heq := fun o => eqTree_any T (· ∈ FH) (· ∈ FW) _ _ (we.alloc o) (fun b hb => by have := (hlH b hb).2; simp; omega) (fun b hb => by have := (hste o).lW b hb; have := (hste o).lt; omega) (Own.rep T _ FH (fun _ h => h) (Own.carry T _ FH (fun b hb => Below.heap_alloc _ _ _ (hlH b hb).2) hoH)) (Own.rep T _ FW (fun _ h => h) (hste o).oW)
    have HEQ := hide heq; have HSTE := hide hste
    clear hoH hlH hbe heq hste HIM HSTD
    go_wp2_with fail
    refine (unhide HEQ _).mono ?_
    rintro e wf ⟨rfl, hbf⟩
    have hstf := (unhide HSTE _).on hbf
    clear hbf HEQ v0 v1 v2 v3 v4 HSTE
    have g0 := hstf.bG.cell (i := 0) (by omega); have g1 := hstf.bG.cell (i := 1) (by omega); have g2 := hstf.bG.cell (i := 2) (by omega); have g3 := hstf.bG.cell (i := 3) (by omega); have g4 := hstf.bG.cell (i := 4) (by omega)
    simp only [row5] at g0 g1 g2 g3 g4
    have hht := hstf.held (by rw [unhide HME]; exact hmt2)
    rw [unhide HME] at hht
    have HHT := hide hht
    clear hstf hht
    go_wp2_with fail
    refine (unhide HHT).mono ?_
    rintro e wg ⟨rfl, hstg, -⟩
    have HB := hide hstg.below
    clear hstg HHT g0 g1 g2 g3 g4
    go_wp2_with fail
    go_ret
    exact ⟨rfl, unhide HB⟩
end Go.Proofs.Ytjlllkigeandeab
