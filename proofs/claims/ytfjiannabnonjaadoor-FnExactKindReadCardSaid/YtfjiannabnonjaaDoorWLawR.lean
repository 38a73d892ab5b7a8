/- The walk of the law on KindRead: whatever text comes in, it answers true, and turns nothing that was there. The table kindWords is as the program lays it. -/
import Derived.Test.YtfjiannabnonjaaDoorWPKd4
import Derived.Test.YtfjiannabnonjaaDoorWHeldD
import Derived.Test.YtfjiannabnonjaaDoorWEqK
namespace Go.Proofs.YtfjiannabnonjaaDoor
open Go Go.RowKit

mutual
theorem kcT_le : ∀ t : Kd, kcT t ≤ wKd t + 1
  | .mk s ns ks => by
    rw [kcT, wKd]
    have := wS_len ns; have := kcK_le ks
    omega
theorem kcK_le : ∀ l : List Kd, kcK l ≤ wKs l
  | [] => by rw [kcK]; omega
  | t :: r => by
    rw [kcK, wKs]
    have := kcT_le t; have := kcK_le r
    omega
end
theorem kd_marks {t : Kd} (h : wKd t ≤ 1048576) : 1 + t.names.length + kcK t.kids ≤ 1099511627776 := by
  have := kcT_le t; rw [kcT_eq] at this; omega

/-- The schema and the flag of an answer. -/
def kAn (o : Option Kd) : Kd := o.getD (.mk 0 [] [])
theorem KAns.open {o : Option Kd} {w w' : World} {e : Ending} (h : KAns o w e w') : ∃ (y0 : Int) (ap : Option Addr) (np cp : Nat) (aq : Option Addr) (nq cq : Nat) (F : List Nat), e = .returned (.tuple #[.agg #[.int .i64 y0, .slice ap np cp, .slice aq nq cq], .bool o.isSome]) ∧ OwnD w' (kAn o) ⟨.int .i64 y0, .slice ap np cp, .slice aq nq cq⟩ F ∧ F.Nodup ∧ (∀ b, b ∈ F → w.heap.size ≤ b ∧ b < w'.heap.size) ∧ Below w.heap.size w w' := by
  obtain ⟨k, b, ⟨y0, y1, y2⟩, F, hk, rfl, ho, hnd, hF, hb⟩ := h
  have hh : kAn o = k ∧ o.isSome = b := by
    rcases hk with ⟨rfl, rfl⟩ | ⟨rfl, rfl, rfl⟩ <;> exact ⟨rfl, rfl⟩
  obtain ⟨rfl, rfl⟩ := hh
  obtain ⟨p0, -, F1, F2, -, ⟨ap, cp, p1, -⟩, aq, cq, p2, -⟩ := ho.open
  simp only at p0 p1 p2
  subst p0 p1 p2
  exact ⟨_, _, _, _, _, _, _, F, rfl, ho, hnd, hF, hb⟩
theorem kAn_wt (L : List UInt8) (h : L.length ≤ 1048576) : wKd (kAn (progK L)) ≤ 1048576 := by
  cases hp : progK L with
  | none => simp [kAn, wKd, wS, wKs]
  | some k =>
    obtain ⟨h8, hq, rfl⟩ := progK_some.1 hp
    have h1 := krd_yes 6 k [] (ok_of_qT hq).1 (lev_of_qT hq)
    have h2 := krd_wt _ _ _ _ h1
    simp only [List.append_nil, List.length_nil] at h2
    show wKd k ≤ _
    omega

/-- What the law's world holds: the boxes of the two answers, and both in blocks of their own. -/
structure SR (w wr : World) (T T' : Kd) (BW BG : Nat) (dW dG : C3) (FW FG : List Nat) : Prop where
  below : Below w.heap.size w wr
  lt : w.heap.size ≤ BW ∧ BW < BG ∧ BG < wr.heap.size
  bW : wr.rowIs BW 26 3 (row3 dW.c0 dW.c1 dW.c2)
  bG : wr.rowIs BG 26 3 (row3 dG.c0 dG.c1 dG.c2)
  oW : OwnD wr T dW FW
  oG : OwnD wr T' dG FG
  lW : ∀ b, b ∈ FW → w.heap.size ≤ b ∧ b < BW
  lG : ∀ b, b ∈ FG → BW < b ∧ b < BG
  nd : FG.Nodup
theorem SR.on {w wr w' : World} {T T' : Kd} {BW BG : Nat} {dW dG : C3} {FW FG : List Nat} (h : SR w wr T T' BW BG dW dG FW FG) (hb : Below wr.heap.size wr w') : SR w w' T T' BW BG dW dG FW FG := by
  have hl := h.lt
  have hs := hb.size
  exact ⟨h.below.trans (hb.mono h.below.size), by omega, h.bW.of_block (hb.block _ (by omega)), h.bG.of_block (hb.block _ (by omega)),
    OwnD.carry T _ _ (fun b hm => hb.block b (by have := h.lW b hm; omega)) h.oW, OwnD.carry T' _ _ (fun b hm => hb.block b (by have := h.lG b hm; omega)) h.oG, h.lW, h.lG, h.nd⟩
theorem SR.exc {w wr w' : World} {T T' T2 : Kd} {BW BG : Nat} {dW dG : C3} {FW FG : List Nat} (h : SR w wr T T' BW BG dW dG FW FG) (hb : Exc FG wr w') (hG : OwnD w' T2 dG FG) : SR w w' T T2 BW BG dW dG FW FG := by
  have hl := h.lt
  have hs := hb.size
  have hz := h.below.size
  have hn : ∀ b, (b ≤ BW ∨ BG ≤ b) → b ∉ FG := fun b hb hm => by have := h.lG b hm; omega
  exact ⟨h.below.trans (hb.below hz (fun b hm => by have := h.lG b hm; omega)), by omega, h.bW.of_block (hb.block _ (by omega) (hn _ (by omega))), h.bG.of_block (hb.block _ (by omega) (hn _ (by omega))),
    OwnD.carry T _ _ (fun b hm => hb.block b (by have := h.lW b hm; omega) (hn _ (by have := h.lW b hm; omega))) h.oW, hG, h.lW, h.lG, h.nd⟩
theorem SR.tab {w wr : World} {T T' : Kd} {BW BG : Nat} {dW dG : C3} {FW FG : List Nat} (h : SR w wr T T' BW BG dW dG FW FG) (hT : KTab w) : KTab wr := hT.of_block (h.below.block _ hT.lt)
theorem SR.cells {w wr : World} {T T' : Kd} {BW BG : Nat} {dW dG : C3} {FW FG : List Nat} (h : SR w wr T T' BW BG dW dG FW FG) :
    (wr.cell? ⟨BW, 0, none⟩ = some dW.c0 ∧ wr.cell? ⟨BW, 1, none⟩ = some dW.c1 ∧ wr.cell? ⟨BW, 2, none⟩ = some dW.c2) ∧ wr.cell? ⟨BG, 0, none⟩ = some dG.c0 ∧ wr.cell? ⟨BG, 1, none⟩ = some dG.c1 ∧ wr.cell? ⟨BG, 2, none⟩ = some dG.c2 :=
  ⟨⟨h.bW.cell (i := 0) (by omega), h.bW.cell (i := 1) (by omega), h.bW.cell (i := 2) (by omega)⟩, h.bG.cell (i := 0) (by omega), h.bG.cell (i := 1) (by omega), h.bG.cell (i := 2) (by omega)⟩

set_option maxRecDepth 100000 in
set_option maxHeartbeats 3200000 in
theorem lawKindRead_any (w : World) (s : ByteArray) (hT : KTab w) :
    Calls Tryd.prog 4 #[.string s] w fun e w' => e = .returned (.bool true) ∧ Below w.heap.size w w' := by
  by_cases hs : s.size ≤ 1048576
  · have hd : decide ((1048576 : Int) < (s.size : Int)) = false := by simp; omega
    have hwt := kAn_wt s.data.toList (by rw [size_data]; exact hs)
    have hsp := specKindRead_any w s hs
    have him := fun W (hW : KTab W) => implKindRead_any W s hs hW
    rw [← same_kread] at hsp
    generalize progK s.data.toList = o at *
    have HSP := hide hsp; have HIM := hide him; have HWT := hide hwt
    clear hsp him hwt
    go_enter Tryd.func4, Tryd.ntmps4
    go_wp2_with fail
    refine (unhide HSP).mono ?_
    intro e w1 h1
    obtain ⟨x0, ap, np, cp, aq, nq, cq, FW, rfl, ho1, hn1, hF1, hb1⟩ := h1.open
    have HO1 := hide ho1; have HF1 := hide hF1; have HB1 := hide hb1
    have hs1 := hb1.size
    clear ho1 hF1 hb1 h1 HSP hn1
    go_wp2_with fail
    have hba := (unhide HB1).alloc (unhide HB1).size (.cells #[.int .i64 x0, .slice ap np cp, .slice aq nq cq] 26)
    refine (unhide HIM _ (hT.of_block (hba.block _ hT.lt))).mono ?_
    intro e w2 h2
    obtain ⟨y0, bp, mp, dp, bq, mq, dq, FG, rfl, ho2, hn2, hF2, hb2⟩ := h2.open
    have hs2 := hb2.size
    rw [World.size_alloc] at hs2
    have hsr : SR w (w2.alloc (.cells #[.int .i64 y0, .slice bp mp dp, .slice bq mq dq] 26)) (kAn o) (kAn o) w1.heap.size w2.heap.size ⟨.int .i64 x0, .slice ap np cp, .slice aq nq cq⟩ ⟨.int .i64 y0, .slice bp mp dp, .slice bq mq dq⟩ FW FG := by
      have hb12 : Below w1.heap.size w1 w2 := ((Below.refl _ w1).alloc (Nat.le_refl _) (.cells #[.int .i64 x0, .slice ap np cp, .slice aq nq cq] 26)).trans (hb2.mono (by simp))
      refine ⟨((unhide HB1).trans (hb12.mono (unhide HB1).size)).alloc (by omega) _, ⟨hs1, by omega, by simp⟩, ?_, row3_alloc w2 _ _ _ _, ?_, ?_, unhide HF1, fun b hb => by have := hF2 b hb; rw [World.size_alloc] at this; omega, hn2⟩
      · exact ((row3_alloc w1 (.int .i64 x0) (.slice ap np cp) (.slice aq nq cq) 26).of_block (hb2.block _ (by simp))).alloc _
      · exact OwnD.carry _ _ _ (fun b hb => (Below.heap_alloc w2 _ b (by have := unhide HF1 b hb; omega)).trans (hb12.block b (unhide HF1 b hb).2)) (unhide HO1)
      · exact OwnD.carry _ _ _ (fun b hb => Below.heap_alloc w2 _ b (hF2 b hb).2) ho2
    obtain ⟨W3, hW3⟩ : ∃ W3, w2.alloc (.cells #[.int .i64 y0, .slice bp mp dp, .slice bq mq dq] 26) = W3 := ⟨_, rfl⟩
    have HSR := hide hsr
    have HW3 := hide hW3
    clear hsr hW3 ho2 hn2 hF2 hb2 h2 hba HO1 HF1 HB1
    have hbk := Below.heap_alloc w2 (.cells #[.int .i64 y0, .slice bp mp dp, .slice bq mq dq] 26) w1.heap.size (by omega)
    have e0 := (World.cell?_of_block (w := w2) (a := ⟨w1.heap.size, 0, none⟩) hbk).symm.trans ((unhide HSR).bW.cell (i := 0) (by omega))
    have e1 := (World.cell?_of_block (w := w2) (a := ⟨w1.heap.size, 1, none⟩) hbk).symm.trans ((unhide HSR).bW.cell (i := 1) (by omega))
    have e2 := (World.cell?_of_block (w := w2) (a := ⟨w1.heap.size, 2, none⟩) hbk).symm.trans ((unhide HSR).bW.cell (i := 2) (by omega))
    simp only [row3] at e0 e1 e2
    have hlt2 : w1.heap.size < w2.heap.size := by omega
    clear hbk
    go_wp2_with fail
    refine (eqKind_any (kAn o) (fun b => b < w2.heap.size) (fun b => b < w2.heap.size) ⟨_, _, _⟩ ⟨_, _, _⟩ _ (fun b hb => by rw [World.size_alloc]; omega) (fun b hb => by rw [World.size_alloc]; omega) (OwnD.rep _ _ _ (fun b hb => ((unhide HSR).lG b hb).2) (unhide HSR).oG) (OwnD.rep _ _ _ (fun b hb => by have := ((unhide HSR).lW b hb).2; omega) (unhide HSR).oW)).mono ?_
    rintro e w4 ⟨rfl, hb4⟩
    have HS4 := hide ((unhide HSR).on hb4)
    generalize w1.heap.size = BW at *
    generalize w2.heap.size = BG at *
    obtain ⟨⟨g0, g1, g2⟩, g3, g4, g5⟩ := (unhide HS4).cells
    simp only at g0 g1 g2 g3 g4 g5
    clear hb4 HSR e0 e1 e2 HW3
    go_wp2_with fail
    have hmk := kd_marks (unhide HWT)
    have hl4 := (unhide HS4).lt
    refine (markKind_own (kAn o) ⟨_, _, _⟩ FG 1 w4 (unhide HS4).oG (unhide HS4).nd (fun b hb => by have := (unhide HS4).lG b hb; omega) (by omega) hmk).mono ?_
    rintro e w5 ⟨rfl, ho5, hx5⟩
    have HS5 := hide ((unhide HS4).exc hx5 ho5)
    obtain ⟨⟨h0, h1, h2⟩, h3, h4, h5⟩ := (unhide HS5).cells
    simp only at h0 h1 h2 h3 h4 h5
    generalize hmm : 1 + (kAn o).names.length + kcK (kAn o).kids = mm at *
    have HMM := hide hmm
    have hmi : (0 : Int) ≤ (mm : Int) := by omega
    clear hx5 ho5 HS4 g0 g1 g2 g3 g4 g5 hl4 hmm
    go_wp2_with fail
    have hl5 := (unhide HS5).lt
    refine (heldKind_any (kAn o) _ (fun b => b < w5.heap.size) ⟨_, _, _⟩ 1 w5 (fun b hb => hb) (OwnD.rep _ _ _ (fun b hb => by have := (unhide HS5).lG b hb; omega) (unhide HS5).oG) (by omega) (by rw [unhide HMM]; exact hmk)).mono ?_
    rintro e w6 ⟨rfl, hb6⟩
    rw [unhide HMM]
    have HS6 := hide ((unhide HS5).on hb6)
    clear hb6 HS5 h0 h1 h2 h3 h4 h5 hl5
    go_wp2_with fail
    refine (unhide HIM _ ((unhide HS6).tab hT)).mono ?_
    intro e w7 h7
    obtain ⟨z0, rp, op, sp, rq, oq, sq, FH, rfl, ho7, hn7, hF7, hb7⟩ := h7.open
    have HS7 := hide ((unhide HS6).on hb7)
    have HO7 := hide ho7; have HF7 := hide hF7
    have hl7 := (unhide HS7).lt
    obtain ⟨⟨h0, h1, h2⟩, h3, h4, h5⟩ := (unhide HS7).cells
    simp only at h0 h1 h2 h3 h4 h5
    have hlw : BW < w7.heap.size := by omega
    clear hb7 ho7 hn7 hF7 h7 HS6
    go_wp2_with fail
    have hba := (Below.refl w7.heap.size w7).alloc (Nat.le_refl _) (.cells #[.int .i64 z0, .slice rp op sp, .slice rq oq sq] 26)
    have HS8 := hide ((unhide HS7).on hba)
    refine (eqKind_any (kAn o) (fun b => b < w7.heap.size) (fun b => b < w7.heap.size) ⟨_, _, _⟩ ⟨_, _, _⟩ _ (fun b hb => by rw [World.size_alloc]; omega) (fun b hb => by rw [World.size_alloc]; omega) (KRep.carry (fun b hb => hba.block b hb) (fun _ h => h) _ _ (OwnD.rep _ _ _ (fun b hb => (unhide HF7 b hb).2) (unhide HO7))) (OwnD.rep _ _ _ (fun b hb => by have := ((unhide HS8).lW b hb).2; omega) (unhide HS8).oW)).mono ?_
    rintro e w9 ⟨rfl, hb9⟩
    have HS9 := hide ((unhide HS8).on hb9)
    obtain ⟨⟨i0, i1, i2⟩, i3, i4, i5⟩ := (unhide HS9).cells
    simp only at i0 i1 i2 i3 i4 i5
    clear hb9 HS8 HS7 hba h0 h1 h2 h3 h4 h5 HO7 HF7
    go_wp2_with fail
    have hl9 := (unhide HS9).lt
    refine (heldKind_any (kAn o) _ (fun b => b < w9.heap.size) ⟨_, _, _⟩ 1 w9 (fun b hb => hb) (OwnD.rep _ _ _ (fun b hb => by have := (unhide HS9).lG b hb; omega) (unhide HS9).oG) (by omega) (by rw [unhide HMM]; exact hmk)).mono ?_
    rintro e w10 ⟨rfl, hb10⟩
    rw [unhide HMM]
    have HB10 := hide ((unhide HS9).on hb10).below
    clear hb10 HS9 i0 i1 i2 i3 i4 i5
    go_wp2_with fail
    go_ret
    exact ⟨rfl, unhide HB10⟩
  · have hd : decide ((1048576 : Int) < (s.size : Int)) = true := by simp; omega
    go_enter Tryd.func4, Tryd.ntmps4
    go_wp2_with fail
    go_ret
    exact ⟨rfl, Below.refl _ _⟩
end Go.Proofs.YtfjiannabnonjaaDoor
