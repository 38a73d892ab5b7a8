/- The walk of the law on DiskNames: whatever disk comes in, it answers true, and turns nothing that was there. No conditions. -/
import Derived.Test.YtepknipcflbodaaWLawD
import Derived.Test.YtepknipcflbodaaWDkNm
import Derived.Test.YtepknipcflbodaaWMarkDk
import Derived.Test.YtepknipcflbodaaWHeldS
namespace Go.Proofs.Ytepknipcflbodaa
open Go Go.RowKit

/-- What the law holds behind both calls: its argument's box, that of the copy, and both answers, each in blocks of its own. -/
structure NSt (w wr : World) (c dX : C3) (S S' : List ByteArray) (BX BG : Nat) (vW vG : Value) (FW FG : List Nat) : Prop where
  below : Below w.heap.size w wr
  bA : wr.rowIs w.heap.size 26 3 (row3 c.c0 c.c1 c.c2)
  bX : wr.rowIs BX 32 3 (row3 dX.c0 dX.c1 dX.c2)
  oW : StrsOwn wr vW S FW
  oG : StrsOwn wr vG S' FG
  lo : w.heap.size < BX
  lW : ∀ b, b ∈ FW → w.heap.size < b ∧ b < BX
  lG : ∀ b, b ∈ FG → BX < b ∧ b < BG
  hi : BG ≤ wr.heap.size
theorem NSt.on {w wr w' : World} {c dX : C3} {S S' : List ByteArray} {BX BG : Nat} {vW vG : Value} {FW FG : List Nat} (h : NSt w wr c dX S S' BX BG vW vG FW FG) (hb : Below wr.heap.size wr w') : NSt w w' c dX S S' BX BG vW vG FW FG := by
  have hs := hb.size; have h1 := h.lo; have h2 := h.hi; have h3 := h.bX.lt
  exact ⟨h.below.trans (hb.mono h.below.size), h.bA.of_block (hb.block _ h.bA.lt), h.bX.of_block (hb.block _ h3), h.oW.carry (fun b hm => hb.block b (by have := h.lW b hm; omega)), h.oG.carry (fun b hm => hb.block b (by have := h.lG b hm; omega)), h1, h.lW, h.lG, by omega⟩
theorem NSt.like {w wr w' : World} {c dX : C3} {S S' : List ByteArray} {BX BG : Nat} {vW vG : Value} {FW FG : List Nat} {D : Nat → Prop} (h : NSt w wr c dX S S' BX BG vW vG FW FG) (hb : Like D wr w') (hD : ∀ b, D b → w.heap.size < b ∧ b < BX ∧ b ∉ FW) : NSt w w' c dX S S' BX BG vW vG FW FG := by
  have hs := hb.size; have h1 := h.lo; have h2 := h.hi; have h3 := h.bX.lt; have h4 := h.below.size
  refine ⟨h.below.trans ⟨hb.os, hb.tape, hb.output, hb.size, fun k hk => hb.block k (by omega) (fun hd => by have := hD k hd; omega)⟩, h.bA.of_block (hb.block _ h.bA.lt (fun hd => by have := hD _ hd; omega)), h.bX.of_block (hb.block _ h3 (fun hd => by have := hD _ hd; omega)), ?_, ?_, h1, h.lW, h.lG, by omega⟩
  · exact h.oW.carry (fun b hm => hb.block b (by have := h.lW b hm; omega) (fun hd => (hD b hd).2.2 hm))
  · exact h.oG.carry (fun b hm => hb.block b (by have := h.lG b hm; omega) (fun hd => by have := hD b hd; have := h.lG b hm; omega))
theorem NSt.exc {w wr w' : World} {c dX : C3} {S S' S2 : List ByteArray} {BX BG : Nat} {vW vG : Value} {FW FG : List Nat} (h : NSt w wr c dX S S' BX BG vW vG FW FG) (hb : Exc FG wr w') (hG : StrsOwn w' vG S2 FG) : NSt w w' c dX S S2 BX BG vW vG FW FG := by
  have hs := hb.size; have h1 := h.lo; have h2 := h.hi; have h3 := h.bX.lt; have h4 := h.below.size
  have hn : ∀ b, b ≤ BX → b ∉ FG := fun b hb hm => by have := h.lG b hm; omega
  exact ⟨h.below.trans (hb.below h4 (fun b hm => by have := h.lG b hm; omega)), h.bA.of_block (hb.block _ h.bA.lt (hn _ (by omega))), h.bX.of_block (hb.block _ h3 (hn _ (by omega))), h.oW.carry (fun b hm => hb.block b (by have := h.lW b hm; omega) (hn _ (by have := h.lW b hm; omega))), hG, h1, h.lW, h.lG, by omega⟩

theorem NSt.eq {w wr : World} {c dX : C3} {S : List ByteArray} {BX BG : Nat} {vW vG : Value} {FW FG : List Nat} (h : NSt w wr c dX S S BX BG vW vG FW FG) :
    Calls Try.prog 13 #[vG, vW] wr fun e w' => e = .returned (.bool true) ∧ Below wr.heap.size wr w' :=
  eqStringS_any vG vW S wr h.oG.at h.oW.at (fun b hb => by have := h.lG b hb; have := h.hi; omega) (fun b hb => by have := h.lW b hb; have := h.bX.lt; omega)
theorem NSt.mark {w wr : World} {c dX : C3} {S S' : List ByteArray} {BX BG : Nat} {vW vG : Value} {FW FG : List Nat} (h : NSt w wr c dX S S' BX BG vW vG FW FG) (hl : S'.length ≤ 1000) :
    Calls Try.prog 15 #[vG, .int .i64 1] wr fun e w' => e = .returned (.int .i64 (1 + S'.length : Nat)) ∧ NSt w w' c dX S (mS 1 S') BX BG vW vG FW FG :=
  (markStringS_any vG S' FG 1 wr h.oG (by omega) (by omega)).mono fun e w' ⟨h1, h2, h3⟩ => ⟨h1, h.exc h3 h2⟩
theorem NSt.held {w wr : World} {c dX : C3} {S S' : List ByteArray} {BX BG : Nat} {vW vG : Value} {FW FG : List Nat} (h : NSt w wr c dX S (mS 1 S') BX BG vW vG FW FG) (hl : S'.length ≤ 1000) :
    Calls Try.prog 16 #[vG, .int .i64 1] wr fun e w' => e = .returned (.int .i64 (1 + S'.length : Nat)) ∧ NSt w w' c dX S (mS 1 S') BX BG vW vG FW FG :=
  (heldStringS_any vG S' 1 wr h.oG.at (fun b hb => by have := h.lG b hb; have := h.hi; omega) (by omega) (by omega)).mono fun e w' ⟨h1, h2⟩ => ⟨h1, h.on h2⟩

set_option maxRecDepth 100000 in
set_option maxHeartbeats 3200000 in
theorem lawDiskNames_any (t : Dk) (P : Nat → Prop) (c : C3) (w : World) (hP : ∀ b, P b → b < w.heap.size) (hrep : DkAt P w t c) :
    Calls Try.prog 4 #[.agg #[c.c0, c.c1, c.c2]] w fun e w' => e = .returned (.bool true) ∧ Below w.heap.size w w' := by
  obtain ⟨c0, c1, c2⟩ := c
  have HP := hide hP; have HREP := hide hrep
  have hbx : ∀ o, Below w.heap.size w (w.alloc o) := fun o => (Below.refl _ _).alloc (Nat.le_refl _) o
  have hcp : Hid (wDk t ≤ 1048576 → ∀ W, Below w.heap.size w W → Calls Try.prog 8 #[.agg #[c0, c1, c2]] W fun e w' => ∃ c' : C3, e = .returned (.agg #[c'.c0, c'.c1, c'.c2]) ∧ DkAt (NewF W w') w' t c' ∧ Below W.heap.size W w') := fun hwt W hW =>
    toDisk_free t P ⟨c0, c1, c2⟩ W (fun b hb => Nat.lt_of_lt_of_le (hP b hb) hW.size) (hrep.carry (fun b hb => hW.block b (hP b hb)) (fun _ h => h)) hwt
  have HBX := hide hbx
  have hsm := (@namesD_small t).1
  have HSM := hide hsm
  clear hP hrep hbx
  go_enter Try.func4, Try.ntmps4
  go_wp2_with fail
  refine (szDisk_any t P ⟨c0, c1, c2⟩ _ _ (fun b hb => Nat.lt_of_lt_of_le (unhide HP b hb) (unhide HBX _).size) (dcar (fun b hb => (unhide HBX _).block b (unhide HP b hb)) (fun _ h => h) _ _ (unhide HREP)) (by omega) (by omega)).mono ?_
  rintro e w1 ⟨r, rfl, hr, hb1⟩
  obtain ⟨q1, hs1, hb01⟩ := kbox1 hb1
  clear hb1
  rcases hr with rfl | ⟨hr0, hr1⟩
  · have HB := hide hb01; clear hb01 q1
    go_wp2_with fail
    go_ret
    exact ⟨rfl, unhide HB⟩
  have hwt : wDk t ≤ 1048576 := by omega
  have HCP := hide (unhide hcp hwt); have HWT := hide hwt
  have k0 := q1.cell (i := 0) (by omega); have k1 := q1.cell (i := 1) (by omega); have k2 := q1.cell (i := 2) (by omega)
  simp only [row3] at k0 k1 k2
  have Q1 := hide q1; have HB1 := hide hb01
  clear q1 hb01 hwt hr1 hcp
  go_wp2_with fail
  refine (unhide HCP _ (unhide HB1)).mono ?_
  rintro e w2 ⟨⟨d0, d1, d2⟩, rfl, hrd, hb2⟩
  clear k0 k1 k2
  have hs2 := hb2.size
  have HSP := hide (specDiskNames_any t _ ⟨d0, d1, d2⟩ w2 (fun b hb => hb.1.2) hrd)
  have Q2 := hide ((unhide Q1).of_block (hb2.block _ (by omega))); have HB2 := hide ((unhide HB1).trans (hb2.mono (unhide HB1).size))
  clear hrd hb2 Q1 HB1
  go_wp2_with fail
  refine (unhide HSP).mono ?_
  rintro e w3 ⟨vW, rfl, hnW⟩
  have hb3 := hnW.below
  have hs3 := hb3.size
  obtain ⟨FW, hoW, -, hlW, -⟩ := strsOwn_of_row hnW.own hnW.sz
  have q3 := (unhide Q2).of_block (hb3.block _ (by omega)); have hb03 := (unhide HB2).trans (hb3.mono (unhide HB2).size)
  have k0 := q3.cell (i := 0) (by omega); have k1 := q3.cell (i := 1) (by omega); have k2 := q3.cell (i := 2) (by omega)
  simp only [row3] at k0 k1 k2
  generalize hN : namesD t = N at *
  have HN := hide hN; clear hN
  have Q3 := hide q3; have HB3 := hide hb03; have HOW := hide hoW; have HLW := hide hlW
  clear q3 hb03 hb3 HSP Q2 HB2 hoW hlW hnW
  go_wp2_with fail
  refine (unhide HCP _ (unhide HB3)).mono ?_
  rintro e w4 ⟨⟨x0, x1, x2⟩, rfl, hrx, hb4⟩
  clear k0 k1 k2
  have hs4 := hb4.size
  have hb04 := (unhide HB3).trans (hb4.mono (unhide HB3).size)
  have q4 := (unhide Q3).of_block (hb4.block _ (by omega))
  have hoW4 := (unhide HOW).carry (fun b hb => hb4.block b (unhide HLW b hb).2)
  have hbx4 : ∀ o, Below w4.heap.size w4 (w4.alloc o) := fun o => (Below.refl _ _).alloc (Nat.le_refl _) o
  have him := fun o => implDiskNames_any t _ ⟨x0, x1, x2⟩ (w4.alloc o) (fun b hb => Nat.lt_of_lt_of_le hb.1.2 (hbx4 o).size) (hrx.carry (fun b hb => (hbx4 o).block b hb.1.2) (fun _ h => h))
  rw [unhide HN] at him
  have HIM := hide him
  obtain ⟨D, hD, hD1, hD2⟩ : ∃ D : Nat → Prop, D = NewF w3 w4 ∧ (∀ b, D b → w3.heap.size ≤ b ∧ b < w4.heap.size) ∧ ∀ b, D b → FreeB w4 b :=
    ⟨_, rfl, fun b hb => ⟨hb.1.1, hb.1.2⟩, fun b hb => hb.2⟩
  rw [← hD] at hrx
  obtain ⟨a0, p0, g0, -, -⟩ := hrx.fs.open
  obtain ⟨a1, p1, g1, -, -⟩ := hrx.ns
  obtain ⟨a2, p2, g2, -, -⟩ := hrx.ms.open
  simp only at g0 g1 g2
  subst g0 g1 g2
  have HRX := hide hrx; have Q4 := hide q4; have HB4 := hide hb04; have HOW4 := hide hoW4; have HD1 := hide hD1; have HD2 := hide hD2
  clear hrx q4 hb04 hbx4 hb4 Q3 HB3 him hoW4 HOW hD1 hD2 hD
  go_wp2_with fail
  refine (unhide HIM _).mono ?_
  rintro e w5 ⟨vG, FG, rfl, hoG, -, hlG, hb5⟩
  obtain ⟨pX, hsX, hb45⟩ := kbox1 hb5
  have hz4 : ∀ o, (w4.alloc o).heap.size = w4.heap.size + 1 := fun o => World.size_alloc _ _
  have hst : NSt w w5 ⟨c0, c1, c2⟩ ⟨.slice a0 t.files.length p0, .slice a1 t.names.length p1, .slice a2 t.moves.length p2⟩ N N w4.heap.size w5.heap.size vW vG FW FG :=
    ⟨(unhide HB4).trans (hb45.mono (unhide HB4).size), (unhide Q4).of_block (hb45.block _ (by omega)), pX, (unhide HOW4).carry (fun b hb => hb45.block b (by have := (unhide HLW b hb).2; omega)), hoG, by omega, fun b hb => ⟨by have := (unhide HLW b hb).1; omega, by have := (unhide HLW b hb).2; omega⟩, fun b hb => ⟨by have := (hlG b hb).1; rw [hz4] at this; omega, (hlG b hb).2⟩, Nat.le_refl _⟩
  have HDX := hide (fun b (hb : D b) => show w.heap.size < b ∧ b < w4.heap.size ∧ b ∉ FW from ⟨by have := (unhide HD1 b hb).1; omega, (unhide HD1 b hb).2, fun hm => by have := (unhide HLW b hm).2; have := (unhide HD1 b hb).1; omega⟩)
  have HRX5 := hide (fun (W : World) (hW : Below w5.heap.size w5 W) => (unhide HRX).carry (w' := W) (Q := D) (fun b hb => (hW.block b (by have := (unhide HD1 b hb).2; omega)).trans (hb45.block b (unhide HD1 b hb).2)) (fun _ h => h))
  have HFX := hide (fun (W : World) (hW : Below w5.heap.size w5 W) b (hb : D b) => (unhide HD2 b hb).of_block ((hW.block b (by have := (unhide HD1 b hb).2; omega)).trans (hb45.block b (unhide HD1 b hb).2)))
  have HST := hide hst
  clear hst pX hb5 hb45 hoG hlG HIM Q4 HB4 HOW4 HRX HD2 HLW
  go_wp2_with fail
  refine (unhide HST).eq.mono ?_
  rintro e w6 ⟨rfl, hb6⟩
  have hst6 := (unhide HST).on hb6
  have k0 := hst6.bA.cell (i := 0) (by omega); have k1 := hst6.bA.cell (i := 1) (by omega); have k2 := hst6.bA.cell (i := 2) (by omega)
  have j0 := hst6.bX.cell (i := 0) (by omega); have j1 := hst6.bX.cell (i := 1) (by omega); have j2 := hst6.bX.cell (i := 2) (by omega)
  simp only [row3] at k0 k1 k2 j0 j1 j2
  have HST6 := hide hst6; have HB6 := hide hb6
  clear hst6 hb6 HST
  go_wp2_with fail
  go_region_with (first
    | (go_at_call 8
       refine (unhide HCP w6.drew (unhide HST6).below.drew).mono ?_
       rintro e w7 ⟨⟨y0, y1, y2⟩, rfl, hry, hb7⟩
       have hb67 : Below w6.heap.size w6 w7 := (Below.refl _ w6).drew.trans hb7
       have hst7 := (unhide HST6).on hb67
       have i0 := hst7.bX.cell (i := 0) (by omega)
       have i1 := hst7.bX.cell (i := 1) (by omega)
       have i2 := hst7.bX.cell (i := 2) (by omega)
       simp only [row3] at i0 i1 i2
       have HB7 := hide ((unhide HB6).trans (hb67.mono (unhide HB6).size))
       have HEK := hide (eqDisk_any t D (NewF w6.drew w7) ⟨.slice a0 t.files.length p0, .slice a1 t.names.length p1, .slice a2 t.moves.length p2⟩ ⟨y0, y1, y2⟩ w7 (fun b hb => by have := (unhide HD1 b hb).2; have := hst7.bX.lt; omega) (fun b hb => hb.1.2) (unhide HRX5 w7 (unhide HB7)) hry)
       have HST7 := hide hst7
       clear hst7 hry hb7 hb67)
    | (go_at_call 10
       refine (unhide HEK).mono ?_
       rintro e w8 ⟨rfl, hb8⟩
       have HST8 := hide ((unhide HST7).on hb8)
       have HB8 := hide ((unhide HB7).trans (hb8.mono (unhide HB7).size))
       have l0 := (unhide HST8).bX.cell (i := 0) (by omega)
       have l1 := (unhide HST8).bX.cell (i := 1) (by omega)
       have l2 := (unhide HST8).bX.cell (i := 2) (by omega)
       simp only [row3] at l0 l1 l2
       clear hb8))
  all_goals
    clear k0 k1 k2 j0 j1 j2 i0 i1 i2 HEK HST7 HB7 HST6 HB6
    have hmkb : 1 + mkD t ≤ 1099511627776 := by
      have h := unhide HWT
      have := wF_len t.files; have := wS_len t.names; have := wM_len t.moves
      unfold wDk at h; unfold mkD; omega
    have HMK := hide (markDisk_shp D t ⟨.slice a0 t.files.length p0, .slice a1 t.names.length p1, .slice a2 t.moves.length p2⟩ 1 w8 ((unhide HRX5 w8 (unhide HB8)).shp (fun b hb => unhide HFX w8 (unhide HB8) b hb)) (fun b hb => by have := (unhide HD1 b hb).2; have := (unhide HST8).bX.lt; omega) (by omega) hmkb)
    clear HFX HRX5
    go_wp2_with fail
    refine (unhide HMK).mono ?_
    rintro e w9 ⟨rfl, hl9⟩
    have hst9 := (unhide HST8).like hl9 (unhide HDX)
    clear l0 l1 l2 hl9 HMK HST8 HB8 HD1
    generalize 1 + mkD t = mk at *
    have HST9 := hide hst9
    clear hst9
    go_wp2_with fail
    refine (unhide HST9).eq.mono ?_
    rintro e wa ⟨rfl, hba⟩
    have hsta := (unhide HST9).on hba
    have HMT := hide (hsta.mark hsm)
    clear hba HST9 hsta
    go_wp2_with fail
    refine (unhide HMT).mono ?_
    rintro e wb ⟨rfl, hstb⟩
    have HHT := hide (hstb.held hsm)
    clear HMT hstb
    generalize hmt : 1 + N.length = mt at *
    have hmt1 : 1 ≤ mt := by omega
    have hmt2 : mt ≤ 1001 := by omega
    have HME := hide hmt
    clear hmt
    go_wp2_with fail
    refine (unhide HHT).mono ?_
    rintro e wc ⟨rfl, hstc⟩
    clear HHT
    have k0 := hstc.bA.cell (i := 0) (by omega); have k1 := hstc.bA.cell (i := 1) (by omega); have k2 := hstc.bA.cell (i := 2) (by omega)
    simp only [row3] at k0 k1 k2
    have HC := hide (unhide HCP wc hstc.below)
    have HSTC := hide hstc
    clear hstc
    go_wp2_with fail
    refine (unhide HC).mono ?_
    rintro e wd ⟨⟨d0, d1, d2⟩, rfl, hrd, hbd⟩
    clear HC k0 k1 k2
    have him := implDiskNames_any t _ ⟨d0, d1, d2⟩ wd (fun b hb => hb.1.2) hrd
    rw [unhide HN] at him
    have HIM := hide him
    have HSTD := hide ((unhide HSTC).on hbd)
    clear HSTC him hrd hbd
    go_wp2_with fail
    refine (unhide HIM).mono ?_
    rintro e we ⟨vH, FH, rfl, hoH, -, hlH, hbe⟩
    have hste := (unhide HSTD).on hbe
    have HEQ := hide (eqStringS_any vH vW N we hoH.at hste.oW.at (fun b hb => (hlH b hb).2) (fun b hb => by have := hste.lW b hb; have := hste.bX.lt; omega))
    have HSTE := hide hste
    clear hoH hlH hbe hste HIM HSTD
    go_wp2_with fail
    refine (unhide HEQ).mono ?_
    rintro e wf ⟨rfl, hbf⟩
    have hstf := (unhide HSTE).on hbf
    have hht := hstf.held hsm
    rw [unhide HME] at hht
    have HHT := hide hht
    clear hbf HEQ HSTE hstf hht
    go_wp2_with fail
    refine (unhide HHT).mono ?_
    rintro e wg ⟨rfl, hstg⟩
    have HB := hide hstg.below
    clear hstg HHT
    go_wp2_with fail
    go_ret
    exact ⟨rfl, unhide HB⟩
end Go.Proofs.Ytepknipcflbodaa
