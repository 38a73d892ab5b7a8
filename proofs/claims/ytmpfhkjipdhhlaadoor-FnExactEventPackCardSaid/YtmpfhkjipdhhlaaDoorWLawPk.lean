/- The walk of the law on EventPack: whatever event comes in, it answers true, and turns nothing that was there. The table treeFields is as the program lays it. -/
import Derived.Test.YtmpfhkjipdhhlaaDoorWPkJ
import Derived.Test.YtmpfhkjipdhhlaaDoorWPkM
import Derived.Deep.CutRange
namespace Go.Proofs.YtmpfhkjipdhhlaaDoor
open Go Go.RowKit

theorem ByRow.of_block {base : Nat} {w w' : World} {v : Value} {l : List UInt8} (h : ByRow base w v l) (hb : ∀ g, v.ownBlock = some g → w'.heap[g]? = w.heap[g]?) : ByRow base w' v l := by
  refine ⟨h.1, ?_⟩
  rcases h.2 with h0 | ⟨g, cap, cur, hv, hb', hg, h5⟩
  · exact Or.inl h0
  · exact Or.inr ⟨g, cap, cur, hv, hb', by rw [hb g (by rw [hv]; rfl)]; exact hg, h5⟩
theorem ByRow.own {base : Nat} {w : World} {v : Value} {l : List UInt8} (h : ByRow base w v l) : ∀ g, v.ownBlock = some g → base ≤ g ∧ g < w.heap.size := fun g e => World.ownsRow.lt h g e

/-- What the law's world holds: the argument's box, the copy's box, the specification's bytes, the program's. -/
structure PkSt (w wr : World) (ty : ByteArray) (ver : Int) (c x : C5) (M BX : Nat) (vW vG : Value) (lW lG : List UInt8) : Prop where
  below : Below w.heap.size w wr
  box : wr.rowIs w.heap.size 27 7 (row7 (.string ty) (.int .i64 ver) c.c0 c.c1 c.c2 c.c3 c.c4)
  boxX : wr.rowIs BX 34 7 (row7 (.string ty) (.int .i64 ver) x.c0 x.c1 x.c2 x.c3 x.c4)
  rW : ByRow (w.heap.size + 1) wr vW lW
  uW : ∀ g, vW.ownBlock = some g → g < M
  rG : ByRow (BX + 1) wr vG lG
  ord : w.heap.size + 1 ≤ M ∧ M ≤ BX

theorem PkSt.on {w wr w' : World} {ty : ByteArray} {ver : Int} {c x : C5} {M BX : Nat} {vW vG : Value} {lW lG : List UInt8} (h : PkSt w wr ty ver c x M BX vW vG lW lG) (hb : Below wr.heap.size wr w') : PkSt w w' ty ver c x M BX vW vG lW lG :=
  ⟨h.below.trans (hb.mono h.below.size), h.box.of_block (hb.block _ h.box.lt), h.boxX.of_block (hb.block _ h.boxX.lt), h.rW.of_block (fun g e => hb.block g (h.rW.own g e).2), h.uW, h.rG.of_block (fun g e => hb.block g (h.rG.own g e).2), h.ord⟩

theorem PkSt.like {w wr w' : World} {ty : ByteArray} {ver : Int} {c x : C5} {M BX : Nat} {vW vG : Value} {lW lG : List UInt8} {D : Nat → Prop} (h : PkSt w wr ty ver c x M BX vW vG lW lG) (hb : Like D wr w') (hD : ∀ b, D b → M ≤ b ∧ b < BX) : PkSt w w' ty ver c x M BX vW vG lW lG := by
  have ho := h.ord
  have hsz := h.below.size
  exact ⟨h.below.trans ⟨hb.os, hb.tape, hb.output, hb.size, fun b hbb => hb.block b (by omega) (fun hd => by have := hD b hd; omega)⟩, h.box.of_block (hb.block _ h.box.lt (fun hd => by have := hD _ hd; omega)), h.boxX.of_block (hb.block _ h.boxX.lt (fun hd => by have := hD _ hd; omega)),
    h.rW.of_block (fun g e => hb.block g (h.rW.own g e).2 (fun hd => by have := hD _ hd; have := h.uW g e; omega)), h.uW, h.rG.of_block (fun g e => hb.block g (h.rG.own g e).2 (fun hd => by have := hD _ hd; have := (h.rG.own g e).1; omega)), h.ord⟩

theorem PkSt.mark {w wr w' : World} {ty : ByteArray} {ver : Int} {c x : C5} {M BX : Nat} {vW vG : Value} {lW lG lG' : List UInt8} (h : PkSt w wr ty ver c x M BX vW vG lW lG) (hb : wr.grownBy w' vG.ownBlock) (hr : ByRow (BX + 1) w' vG lG') : PkSt w w' ty ver c x M BX vW vG lW lG' := by
  have ho := h.ord
  have hsz := h.below.size
  have hne : ∀ b, b ≤ BX → some b ≠ vG.ownBlock := fun b hb e => by have := (h.rG.own b e.symm).1; omega
  exact ⟨h.below.trans ⟨hb.os, hb.tape, hb.output, hb.size, fun b hbb => hb.block b (by omega) (hne b (by omega))⟩, h.box.of_block (hb.block _ h.box.lt (hne _ (by omega))), h.boxX.of_block (hb.block _ h.boxX.lt (hne _ (by omega))),
    h.rW.of_block (fun g e => hb.block g (h.rW.own g e).2 (hne _ (by have := h.uW g e; omega))), h.uW, hr, h.ord⟩

theorem cT_w : ∀ t : Tr, cT t ≤ 3 + 3 * wT t
  | .mk s n tx ns ks => by
    have h1 := wS_len ns
    have h2 := cK_w ks
    rw [cT, wT]; omega
where
  cK_w : ∀ l : List Tr, cK l ≤ 3 * wK l
  | [] => by rw [cK]; omega
  | t :: r => by
    have h1 := cT_w t
    have h2 := cK_w r
    rw [cK, wK]; omega
theorem tr_marks {t : Tr} (h : wT t ≤ 1048576) : 1 + t.names.length + cK t.kids ≤ 1099511627776 := by
  have := cT_w t
  rw [cT_eq] at this
  omega
theorem pack_len (ty : ByteArray) (ver : Int) (t : Tr) : (packB ty ver t).length ≤ 9000 := by
  unfold packB
  split
  · rename_i h
    obtain ⟨-, h8, -, -, -, hpt⟩ := evOk_parts h
    exact eventB_len h8 hpt
  · simp

set_option maxRecDepth 100000 in
set_option maxHeartbeats 6400000 in
theorem lawEventPack_any (ty : ByteArray) (ver : Int) (t : Tr) (P : Nat → Prop) (c : C5) (w : World) (hP : ∀ b, P b → b < w.heap.size) (hrep : Rep P w t c) (hty : ty.size ≤ 9223372036854775807) (hver : I64 ver) (hT : Tab w) :
    Calls Tryd.prog 4 #[.agg #[.string ty, .int .i64 ver, c.c0, c.c1, c.c2, c.c3, c.c4]] w fun e w' => e = .returned (.bool true) ∧ Below w.heap.size w w' := by
  obtain ⟨c0, c1, c2, c3, c4⟩ := c
  have hcar := fun (W : World) (hW : Below w.heap.size w W) => (⟨fun b hb => Nat.lt_of_lt_of_le (hP b hb) hW.size, Rep.carry (w' := W) (fun b hb => hW.block b (hP b hb)) (fun _ h => h) _ _ hrep⟩ : (∀ b, P b → b < W.heap.size) ∧ Rep P W t ⟨c0, c1, c2, c3, c4⟩)
  have HZ := hide (fun (W : World) (hW : Below w.heap.size w W) (l : Int) (h0 : 0 ≤ l) (h1 : l ≤ 1048576) => szEvent_any ty ver t P ⟨c0, c1, c2, c3, c4⟩ l W (hcar W hW).1 (hcar W hW).2 hty h0 h1)
  have HTO := hide (fun (W : World) (hW : Below w.heap.size w W) (hwt : wT t ≤ 1048576) => toEvent_free ty ver t P ⟨c0, c1, c2, c3, c4⟩ W (hcar W hW).1 (hcar W hW).2 hwt)
  have HIM := hide (fun (W : World) (hW : Below w.heap.size w W) (Q : Nat → Prop) (d : C5) (hQ : ∀ b, Q b → b < W.heap.size) (hr : Rep Q W t d) => implEventPack_any ty ver t Q d W hQ hr hty hver (hT.of_block (hW.block 0 hT.lt)))
  have HSP := hide (fun (W : World) (Q : Nat → Prop) (d : C5) (hQ : ∀ b, Q b → b < W.heap.size) (hr : Rep Q W t d) => specEventPack_any ty ver t Q d W hQ hr hty hver)
  have hbx : ∀ (W : World) o, Below W.heap.size W (W.alloc o) := fun W o => (Below.refl _ _).alloc (Nat.le_refl _) o
  have HBX := hide hbx
  have hpl := pack_len ty ver t
  generalize packB ty ver t = L at *
  have HPL := hide hpl
  clear hcar hbx hP hrep hT hty hver hpl
  go_enter Tryd.func4, Tryd.ntmps4
  go_wp2_with fail
  refine (unhide HZ _ (unhide HBX _ _) _ (by omega) (by omega)).mono ?_
  rintro e w1 ⟨r, rfl, hr, hb1⟩
  obtain ⟨q1, hs1, hb01⟩ := ebox1 hb1
  clear hb1 HZ
  rcases hr with rfl | ⟨hr0, hr1⟩
  · have HB := hide hb01; clear hb01 q1
    go_wp2_with fail
    go_ret
    exact ⟨rfl, unhide HB⟩
  have hwt : wT t ≤ 1048576 := by omega
  have k0 := q1.cell (i := 0) (by omega); have k1 := q1.cell (i := 1) (by omega); have k2 := q1.cell (i := 2) (by omega); have k3 := q1.cell (i := 3) (by omega); have k4 := q1.cell (i := 4) (by omega); have k5 := q1.cell (i := 5) (by omega); have k6 := q1.cell (i := 6) (by omega)
  simp only [row7] at k0 k1 k2 k3 k4 k5 k6
  have Q1 := hide q1; have HB1 := hide hb01; have HWT := hide hwt
  clear q1 hb01 hwt hr1
  go_wp2_with fail
  refine (unhide HTO _ (unhide HB1) (unhide HWT)).mono ?_
  rintro e w2 ⟨⟨d0, d1, d2, d3, d4⟩, rfl, hrd, hb2⟩
  clear k0 k1 k2 k3 k4 k5 k6
  have hs2 := hb2.size
  have HS := hide (unhide HSP w2 _ ⟨d0, d1, d2, d3, d4⟩ (fun b hb => hb.1.2) hrd)
  have Q2 := hide ((unhide Q1).of_block (hb2.block _ (by omega))); have HB2 := hide ((unhide HB1).trans (hb2.mono (unhide HB1).size))
  clear hrd hb2 Q1 HB1 HSP
  go_wp2_with fail
  refine (unhide HS).mono ?_
  rintro e w3 ⟨aW, nW, capW, rfl, hnW, hrW, hb3⟩
  have hs3 := hb3.size
  have q3 := (unhide Q2).of_block (hb3.block _ (by omega)); have hb03 := (unhide HB2).trans (hb3.mono (unhide HB2).size)
  have k0 := q3.cell (i := 0) (by omega); have k1 := q3.cell (i := 1) (by omega); have k2 := q3.cell (i := 2) (by omega); have k3 := q3.cell (i := 3) (by omega); have k4 := q3.cell (i := 4) (by omega); have k5 := q3.cell (i := 5) (by omega); have k6 := q3.cell (i := 6) (by omega)
  simp only [row7] at k0 k1 k2 k3 k4 k5 k6
  have hrW' := hrW.base (base' := w.heap.size + 1) (by omega)
  have Q3 := hide q3; have HB3 := hide hb03; have HRW := hide hrW'
  clear q3 hb03 hb3 HS Q2 HB2 hrW hrW' hnW
  go_wp2_with fail
  refine (unhide HTO _ (unhide HB3) (unhide HWT)).mono ?_
  rintro e w4 ⟨⟨x0, x1, x2, x3, x4⟩, rfl, hrx, hb4⟩
  clear k0 k1 k2 k3 k4 k5 k6
  have hs4 := hb4.size
  have q4 := (unhide Q3).of_block (hb4.block _ (by omega)); have hb04 := (unhide HB3).trans (hb4.mono (unhide HB3).size)
  have hrW4 := (unhide HRW).of_block (fun g e => hb4.block g ((unhide HRW).own g e).2)
  have HUW := hide (fun g e => ((unhide HRW).own g e).2)
  obtain ⟨D, hD, hD1, hD2⟩ : ∃ D : Nat → Prop, D = NewF w3 w4 ∧ (∀ b, D b → w3.heap.size ≤ b ∧ b < w4.heap.size) ∧ ∀ b, D b → FreeB w4 b :=
    ⟨_, rfl, fun b hb => ⟨hb.1.1, hb.1.2⟩, fun b hb => hb.2⟩
  rw [← hD] at hrx
  obtain ⟨g0, g1, g2, -, -, -, ⟨a3, cap3, g3, -⟩, a4, cap4, g4, -⟩ := hrx.open
  simp only at g0 g1 g2 g3 g4
  subst g0 g1 g2 g3 g4
  have HI := hide (fun o => unhide HIM (w4.alloc o) (hb04.trans ((unhide HBX w4 o).mono hb04.size)) D _ (fun b hb => Nat.lt_of_lt_of_le (hD1 b hb).2 (unhide HBX w4 o).size) (Rep.carry (fun b hb => (unhide HBX w4 o).block b (hD1 b hb).2) (fun _ h => h) _ _ hrx))
  have HRX := hide hrx; have Q4 := hide q4; have HB4 := hide hb04; have HRW4 := hide hrW4; have HD1 := hide hD1; have HD2 := hide hD2
  clear hrx q4 hb04 hb4 Q3 HB3 HRW hrW4 hD1 hD2 hD
  go_wp2_with fail
  refine (unhide HI _).mono ?_
  rintro e w5 ⟨aG, nG, capG, rfl, hnG, hrG, hb5⟩
  obtain ⟨pX, hsX, hb45⟩ := ebox1 hb5
  rw [World.size_alloc] at hrG
  have hst : PkSt w w5 ty ver ⟨c0, c1, c2, c3, c4⟩ ⟨.int .i64 t.sort, .int .i64 t.num, .string t.text, .slice a3 t.names.length cap3, .slice a4 t.kids.length cap4⟩ w3.heap.size w4.heap.size (.slice aW nW capW) (.slice aG nG capG) L L :=
    ⟨(unhide HB4).trans (hb45.mono (unhide HB4).size), (unhide Q4).of_block (hb45.block _ (by omega)), pX, (unhide HRW4).of_block (fun g e => hb45.block g ((unhide HRW4).own g e).2), unhide HUW, hrG, by omega, hs4⟩
  have HRX5 := hide (fun (W : World) (hW : Below w5.heap.size w5 W) => Rep.carry (w' := W) (fun b hb => (hW.block b (by have := (unhide HD1 b hb).2; omega)).trans (hb45.block b (unhide HD1 b hb).2)) (fun _ h => h) _ _ (unhide HRX))
  have HFX := hide (fun (W : World) (hW : Below w5.heap.size w5 W) b (hb : D b) => (unhide HD2 b hb).of_block ((hW.block b (by have := (unhide HD1 b hb).2; omega)).trans (hb45.block b (unhide HD1 b hb).2)))
  have HEQ := hide (eqByteS_any _ _ L w5 hst.rG.at hst.rW.at)
  have HST := hide hst
  clear hst pX hb5 hb45 hrG hnG HI Q4 HB4 HRW4 HUW HRX HD2
  go_wp2_with fail
  refine (unhide HEQ).mono ?_
  rintro e w6 ⟨rfl, hb6⟩
  have hst6 := (unhide HST).on hb6
  have k0 := hst6.box.cell (i := 0) (by omega); have k1 := hst6.box.cell (i := 1) (by omega); have k2 := hst6.box.cell (i := 2) (by omega); have k3 := hst6.box.cell (i := 3) (by omega); have k4 := hst6.box.cell (i := 4) (by omega); have k5 := hst6.box.cell (i := 5) (by omega); have k6 := hst6.box.cell (i := 6) (by omega)
  have j0 := hst6.boxX.cell (i := 0) (by omega); have j1 := hst6.boxX.cell (i := 1) (by omega); have j2 := hst6.boxX.cell (i := 2) (by omega); have j3 := hst6.boxX.cell (i := 3) (by omega); have j4 := hst6.boxX.cell (i := 4) (by omega); have j5 := hst6.boxX.cell (i := 5) (by omega); have j6 := hst6.boxX.cell (i := 6) (by omega)
  simp only [row7] at k0 k1 k2 k3 k4 k5 k6 j0 j1 j2 j3 j4 j5 j6
  have HST6 := hide hst6; have HB6 := hide hb6
  clear hst6 hb6 HST HEQ
  go_upto_region 10 with fail
  go_cut [31] from 27 (fun s wx => s = .bool false ∧ Hid (PkSt w wx ty ver ⟨c0, c1, c2, c3, c4⟩ ⟨.int .i64 t.sort, .int .i64 t.num, .string t.text, .slice a3 t.names.length cap3, .slice a4 t.kids.length cap4⟩ w3.heap.size w4.heap.size (.slice aW nW capW) (.slice aG nG capG) L L) ∧ Hid (Below w5.heap.size w5 wx))
  case first =>
    go_region_with (first
      | (go_at_call 9
         refine (unhide HTO w6.drew (unhide HST6).below.drew (unhide HWT)).mono ?_
         rintro e w7 ⟨⟨y0, y1, y2, y3, y4⟩, rfl, hry, hb7⟩
         have hb67 : Below w6.heap.size w6 w7 := (Below.refl _ w6).drew.trans hb7
         have hst7 := (unhide HST6).on hb67
         have i0 := hst7.boxX.cell (i := 0) (by omega)
         have i1 := hst7.boxX.cell (i := 1) (by omega)
         have i2 := hst7.boxX.cell (i := 2) (by omega)
         have i3 := hst7.boxX.cell (i := 3) (by omega)
         have i4 := hst7.boxX.cell (i := 4) (by omega)
         have i5 := hst7.boxX.cell (i := 5) (by omega)
         have i6 := hst7.boxX.cell (i := 6) (by omega)
         simp only [row7] at i0 i1 i2 i3 i4 i5 i6
         have HB7 := hide ((unhide HB6).trans (hb67.mono (unhide HB6).size))
         have HEK := hide (eqEvent_any ty ver t D (NewF w6.drew w7) ⟨.int .i64 t.sort, .int .i64 t.num, .string t.text, .slice a3 t.names.length cap3, .slice a4 t.kids.length cap4⟩ ⟨y0, y1, y2, y3, y4⟩ w7 (fun b hb => by have := (unhide HD1 b hb).2; have := hst7.boxX.lt; omega) (fun b hb => hb.1.2) (unhide HRX5 w7 (unhide HB7)) hry)
         have HST7 := hide hst7
         clear hst7 hry hb7 hb67)
      | (go_at_call 11
         refine (unhide HEK).mono ?_
         rintro e w8 ⟨rfl, hb8⟩
         have HST8 := hide ((unhide HST7).on hb8)
         have HB8 := hide ((unhide HB7).trans (hb8.mono (unhide HB7).size))
         clear hb8))
    all_goals
      go_wp2_with fail
      go_meet
      case rel => exact ⟨rfl, HST8, HB8⟩
  case rest =>
    obtain ⟨rfl, HSTC, HBC⟩ := hcut
    clear HST6 HB6 k0 k1 k2 k3 k4 k5 k6 j0 j1 j2 j3 j4 j5 j6
    have j0 := (unhide HSTC).boxX.cell (i := 0) (by omega); have j1 := (unhide HSTC).boxX.cell (i := 1) (by omega); have j2 := (unhide HSTC).boxX.cell (i := 2) (by omega); have j3 := (unhide HSTC).boxX.cell (i := 3) (by omega); have j4 := (unhide HSTC).boxX.cell (i := 4) (by omega); have j5 := (unhide HSTC).boxX.cell (i := 5) (by omega); have j6 := (unhide HSTC).boxX.cell (i := 6) (by omega)
    simp only [row7] at j0 j1 j2 j3 j4 j5 j6
    have HMK := hide (markEvent_shp D ty ver t ⟨.int .i64 t.sort, .int .i64 t.num, .string t.text, .slice a3 t.names.length cap3, .slice a4 t.kids.length cap4⟩ 1 wc (Rep.shp (fun b hb => ⟨hb, unhide HFX wc (unhide HBC) b hb⟩) t _ (unhide HRX5 wc (unhide HBC))) (by omega) (tr_marks (unhide HWT)))
    obtain ⟨mk, hmk⟩ : ∃ mk : Nat, mk = 1 + t.names.length + cK t.kids := ⟨_, rfl⟩
    rw [← hmk] at HMK
    have hmk2 : mk ≤ 1099511627776 := by rw [hmk]; exact tr_marks (unhide HWT)
    clear HRX5 HFX hmk
    go_wp2_with fail
    refine (unhide HMK).mono ?_
    rintro e w9 ⟨rfl, hlk9⟩
    have hst9 := (unhide HSTC).like hlk9 (unhide HD1)
    have HEQ := hide (eqByteS_any _ _ L w9 hst9.rG.at hst9.rW.at)
    have HST9 := hide hst9
    clear hst9 hlk9 HMK HSTC HBC j0 j1 j2 j3 j4 j5 j6
    go_wp2_with fail
    refine (unhide HEQ).mono ?_
    rintro e w10 ⟨rfl, hb10⟩
    have hst10 := (unhide HST9).on hb10
    have HMB := hide (markByteS_any _ _ L 1 w10 hst10.rG (by have := unhide HPL; omega))
    have HST10 := hide hst10
    clear hst10 hb10 HEQ HST9
    go_wp2_with fail
    refine (unhide HMB).mono ?_
    rintro e w11 ⟨rfl, ⟨lm, hlm, hmm, hrm⟩, hg11⟩
    have hst11 := (unhide HST10).mark hg11 hrm
    rw [← hlm] at hmm
    have hpm : 1 + lm.length ≤ 1099511627776 := by have := unhide HPL; omega
    have HHD := hide (heldByteS_any _ lm 1 w11 hst11.rG.at hmm hpm)
    rw [hlm] at HHD
    have HMM := hide hmm; have HST11 := hide hst11; have HLM := hide hlm; have HPM := hide hpm
    clear hst11 hg11 hrm hmm hlm hpm HMB HST10
    go_wp2_with fail
    refine (unhide HHD).mono ?_
    rintro e w12 ⟨rfl, hb12⟩
    have hst12 := (unhide HST11).on hb12
    have k0 := hst12.box.cell (i := 0) (by omega); have k1 := hst12.box.cell (i := 1) (by omega); have k2 := hst12.box.cell (i := 2) (by omega); have k3 := hst12.box.cell (i := 3) (by omega); have k4 := hst12.box.cell (i := 4) (by omega); have k5 := hst12.box.cell (i := 5) (by omega); have k6 := hst12.box.cell (i := 6) (by omega)
    simp only [row7] at k0 k1 k2 k3 k4 k5 k6
    have HST12 := hide hst12
    clear hst12 hb12 HHD HST11
    go_wp2_with fail
    refine (unhide HTO w12 (unhide HST12).below (unhide HWT)).mono ?_
    rintro e w13 ⟨⟨y0, y1, y2, y3, y4⟩, rfl, hry, hb13⟩
    have hst13 := (unhide HST12).on hb13
    have HI := hide (unhide HIM w13 hst13.below _ ⟨y0, y1, y2, y3, y4⟩ (fun b hb => hb.1.2) hry)
    have HST13 := hide hst13
    clear hst13 hb13 hry HST12 k0 k1 k2 k3 k4 k5 k6
    go_wp2_with fail
    refine (unhide HI).mono ?_
    rintro e w14 ⟨aH, nH, capH, rfl, hnH, hrH, hb14⟩
    have hst14 := (unhide HST13).on hb14
    have HEQ := hide (eqByteS_any _ _ L w14 hrH.at hst14.rW.at)
    have HST14 := hide hst14
    clear hst14 hb14 hrH hnH HI HST13
    go_wp2_with fail
    refine (unhide HEQ).mono ?_
    rintro e w15 ⟨rfl, hb15⟩
    have hst15 := (unhide HST14).on hb15
    have HHD := hide (heldByteS_any _ lm 1 w15 hst15.rG.at (unhide HMM) (unhide HPM))
    rw [unhide HLM] at HHD
    have HST15 := hide hst15
    clear hst15 hb15 HEQ HST14
    go_wp2_with fail
    refine (unhide HHD).mono ?_
    rintro e w16 ⟨rfl, hb16⟩
    have HBE := hide ((unhide HST15).on hb16).below
    clear hb16 HST15 HHD
    go_wp2_with fail
    go_ret
    exact ⟨rfl, unhide HBE⟩
end Go.Proofs.YtmpfhkjipdhhlaaDoor
