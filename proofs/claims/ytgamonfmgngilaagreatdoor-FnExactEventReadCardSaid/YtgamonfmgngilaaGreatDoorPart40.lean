/- The walk of the law's own eqEvent: two events that are the same. No conditions. -/
import Derived.Test.YtgamonfmgngilaaGreatDoorPart14
import Derived.Test.YtgamonfmgngilaaGreatDoorPart39
import Derived.Test.YtgamonfmgngilaaGreatDoorPart27
import Derived.Test.YtgamonfmgngilaaGreatDoorPart37
import Derived.Test.YtgamonfmgngilaaGreatDoorPart09
import Derived.MakeChecks
import Derived.Lib.LaidTab
import Derived.LaidLaws
namespace Go.Proofs.YtgamonfmgngilaaGreatDoor
open Go Go.RowKit

set_option maxRecDepth 100000 in
set_option maxHeartbeats 1600000 in
theorem eqEvent_any (ty : ByteArray) (ver : Int) (t : Tr) (P Q : Nat → Prop) (c d : C5) (w : World) (hP : ∀ b, P b → b < w.heap.size) (hQ : ∀ b, Q b → b < w.heap.size) (h1 : Rep P w t c) (h2 : Rep Q w t d) :
    Calls Tryz.prog 18 #[.agg #[.string ty, .int .i64 ver, c.c0, c.c1, c.c2, c.c3, c.c4], .agg #[.string ty, .int .i64 ver, d.c0, d.c1, d.c2, d.c3, d.c4]] w fun e w' => e = .returned (.bool true) ∧ Below w.heap.size w w' := by
  obtain ⟨c0, c1, c2, c3, c4⟩ := c
  obtain ⟨d0, d1, d2, d3, d4⟩ := d
  have hbx : ∀ o o2, Below w.heap.size w ((w.alloc o).alloc o2) := fun o o2 => ((Below.refl _ _).alloc (Nat.le_refl _) o).alloc (by simp) o2
  have hcall := fun (W : World) (hW : Below w.heap.size w W) => eqTree_any t P Q ⟨c0, c1, c2, c3, c4⟩ ⟨d0, d1, d2, d3, d4⟩ W (fun b hb => Nat.lt_of_lt_of_le (hP b hb) hW.size) (fun b hb => Nat.lt_of_lt_of_le (hQ b hb) hW.size) (Rep.carry (fun b hb => hW.block b (hP b hb)) (fun _ h => h) _ _ h1) (Rep.carry (fun b hb => hW.block b (hQ b hb)) (fun _ h => h) _ _ h2)
  have HBX := hide hbx; have HCALL := hide hcall
  clear hbx hcall hP hQ h1 h2
  go_enter Tryz.func18, Tryz.ntmps18
  go_wp2_with fail
  refine (unhide HCALL _ (unhide HBX _ _)).mono ?_
  rintro e w1 ⟨rfl, hb1⟩
  have hb2 := (unhide HBX _ _).trans (hb1.mono (unhide HBX _ _).size)
  have HB := hide hb2
  clear hb1 hb2
  go_wp2_with fail
  go_ret
  exact ⟨rfl, unhide HB⟩
end Go.Proofs.YtgamonfmgngilaaGreatDoor

/- The walk of the law on EventRead: whatever text comes in, it answers true, and turns nothing that was there. The tables of strconv and treeFields are as the program's text lays them. -/

namespace Go.Proofs.YtgamonfmgngilaaGreatDoor
open Go Go.RowKit

theorem EvR.same {L : List UInt8} {ty ty' : ByteArray} {v v' : Int} {t t' : Tr} (h : EvR L ty v t) (h' : EvR L ty' v' t') : ty' = ty ∧ v' = v ∧ t' = t := by
  have := ev_unique h'.1 h.1 h'.2 h.2
  simp only [Prod.mk.injEq] at this
  exact this
theorem EvR.marks {L : List UInt8} {ty : ByteArray} {v : Int} {t : Tr} (h : EvR L ty v t) : 1 + t.names.length + cK t.kids ≤ 1099511627776 := by
  have hq := (evOk_open h.1).2.2.2.2
  have h1 := marks_short (tsz t + 1) t (by omega) 0 0 _ (by omega) (by omega) hq
  have h2 := (wlk_bd t 0 0 _ (by omega) (by omega) hq).2
  rw [cT_eq] at h1
  omega

/-- One answer for both. -/
theorem er_ans (s : ByteArray) : ∃ (ty : ByteArray) (ver : Int) (t : Tr) (ok : Bool), 1 + t.names.length + cK t.kids ≤ 1099511627776 ∧
    (∀ (w w' : World) (e : Ending), SrEnd w w' s e → ∃ (y0 y1 : Int) (y2 : ByteArray) (ap : Option Addr) (np cp : Nat) (aq : Option Addr) (nq cq : Nat), e = .returned (.tuple #[.agg #[.string ty, .int .i64 ver, .int .i64 y0, .int .i64 y1, .string y2, .slice ap np cp, .slice aq nq cq], .bool ok]) ∧ Rep (New w w') w' t ⟨.int .i64 y0, .int .i64 y1, .string y2, .slice ap np cp, .slice aq nq cq⟩ ∧ Below w.heap.size w w') ∧
    (∀ (w w' : World) (e : Ending), ErEnd w w' s e → ∃ (y0 y1 : Int) (y2 : ByteArray) (ap : Option Addr) (np cp : Nat) (aq : Option Addr) (nq cq : Nat) (F : List Nat), e = .returned (.tuple #[.agg #[.string ty, .int .i64 ver, .int .i64 y0, .int .i64 y1, .string y2, .slice ap np cp, .slice aq nq cq], .bool ok]) ∧ Own w' t ⟨.int .i64 y0, .int .i64 y1, .string y2, .slice ap np cp, .slice aq nq cq⟩ F ∧ F.Nodup ∧ (∀ x, x ∈ F → w.heap.size ≤ x ∧ x < w'.heap.size) ∧ Below w.heap.size w w') := by
  by_cases hex : ∃ ty ver t, EvR s.data.toList ty ver t
  · obtain ⟨ty, ver, t, hu⟩ := hex
    refine ⟨ty, ver, t, true, hu.marks, ?_, ?_⟩
    · rintro w w' e ⟨hb, h | ⟨-, hno⟩⟩
      · obtain ⟨ty', ver', t', ⟨c0, c1, c2, c3, c4⟩, rfl, ho, hu'⟩ := h
        obtain ⟨rfl, rfl, rfl⟩ := hu.same hu'
        obtain ⟨g0, g1, g2, -, -, -, ⟨ap, cp, g3, -⟩, aq, cq, g4, -⟩ := ho.open
        simp only at g0 g1 g2 g3 g4
        subst g0 g1 g2 g3 g4
        exact ⟨_, _, _, _, _, _, _, _, _, rfl, ho, hb⟩
      · exact absurd hu (hno ty ver t)
    · rintro w w' e ⟨hb, h | ⟨-, hno⟩⟩
      · obtain ⟨ty', ver', t', ⟨c0, c1, c2, c3, c4⟩, F, rfl, ho, hnd, hF, hu'⟩ := h
        obtain ⟨rfl, rfl, rfl⟩ := hu.same hu'
        obtain ⟨g0, g1, g2, -, -, -, F1, F2, -, ⟨ap, cp, g3, -⟩, aq, cq, g4, -⟩ := ho.open
        simp only at g0 g1 g2 g3 g4
        subst g0 g1 g2 g3 g4
        exact ⟨_, _, _, _, _, _, _, _, _, F, rfl, ho, hnd, hF, hb⟩
      · exact absurd hu (hno ty ver t)
  · refine ⟨⟨#[]⟩, 0, .mk 0 0 ByteArray.empty [] [], false, by simp [Tr.names, Tr.kids, cK], ?_, ?_⟩
    · rintro w w' e ⟨hb, ⟨ty, ver, t, -, -, -, hu⟩ | ⟨rfl, -⟩⟩
      · exact absurd ⟨ty, ver, t, hu⟩ hex
      · exact ⟨0, 0, ⟨#[]⟩, none, 0, 0, none, 0, 0, rfl, rep_leaf 0 0 ByteArray.empty ⟨by decide, by decide⟩ ⟨by decide, by decide⟩ (by simp), hb⟩
    · rintro w w' e ⟨hb, ⟨ty, ver, t, -, -, -, -, -, -, hu⟩ | ⟨rfl, -⟩⟩
      · exact absurd ⟨ty, ver, t, hu⟩ hex
      · exact ⟨0, 0, ⟨#[]⟩, none, 0, 0, none, 0, 0, [], rfl, Own.leafT _ 0 0 ByteArray.empty ⟨by decide, by decide⟩ ⟨by decide, by decide⟩ (by simp), List.nodup_nil, (fun x hx => by cases hx), hb⟩

/-- What the law's world holds: the boxes of the two answers, and both in blocks of their own. -/
structure S7 (w wr : World) (ty : ByteArray) (ver : Int) (T T' : Tr) (BW BG : Nat) (dW dG : C5) (FG : List Nat) : Prop where
  below : Below w.heap.size w wr
  lt : w.heap.size ≤ BW ∧ BW < BG ∧ BG < wr.heap.size
  bW : wr.rowIs BW 37 7 (row7 (.string ty) (.int .i64 ver) dW.c0 dW.c1 dW.c2 dW.c3 dW.c4)
  bG : wr.rowIs BG 37 7 (row7 (.string ty) (.int .i64 ver) dG.c0 dG.c1 dG.c2 dG.c3 dG.c4)
  oW : Rep (fun b => w.heap.size ≤ b ∧ b < BW) wr T dW
  oG : Own wr T' dG FG
  lG : ∀ b, b ∈ FG → BW < b ∧ b < BG
  nd : FG.Nodup
section
variable {w wr w' : World} {ty : ByteArray} {ver : Int} {T T' T2 : Tr} {BW BG : Nat} {dW dG : C5} {FG : List Nat}
theorem S7.on (h : S7 w wr ty ver T T' BW BG dW dG FG) (hb : Below wr.heap.size wr w') : S7 w w' ty ver T T' BW BG dW dG FG := by
  have hl := h.lt
  have hs := hb.size
  exact ⟨h.below.trans (hb.mono h.below.size), by omega, h.bW.of_block (hb.block _ (by omega)), h.bG.of_block (hb.block _ (by omega)),
    Rep.carry (fun b hm => hb.block b (by omega)) (fun _ h => h) _ _ h.oW, Own.carry T' _ _ (fun b hm => hb.block b (by have := h.lG b hm; omega)) h.oG, h.lG, h.nd⟩
theorem S7.exc (h : S7 w wr ty ver T T' BW BG dW dG FG) (hb : Exc FG wr w') (hG : Own w' T2 dG FG) : S7 w w' ty ver T T2 BW BG dW dG FG := by
  have hl := h.lt
  have hs := hb.size
  have hz := h.below.size
  have hn : ∀ b, (b ≤ BW ∨ BG ≤ b) → b ∉ FG := fun b hb hm => by have := h.lG b hm; omega
  exact ⟨h.below.trans (hb.below hz (fun b hm => by have := h.lG b hm; omega)), by omega, h.bW.of_block (hb.block _ (by omega) (hn _ (by omega))), h.bG.of_block (hb.block _ (by omega) (hn _ (by omega))),
    Rep.carry (fun b hm => hb.block b (by omega) (hn _ (by omega))) (fun _ h => h) _ _ h.oW, hG, h.lG, h.nd⟩
theorem S7.cells (h : S7 w wr ty ver T T' BW BG dW dG FG) :
    (wr.cell? ⟨BW, 0, none⟩ = some (.string ty) ∧ wr.cell? ⟨BW, 1, none⟩ = some (.int .i64 ver) ∧ wr.cell? ⟨BW, 2, none⟩ = some dW.c0 ∧ wr.cell? ⟨BW, 3, none⟩ = some dW.c1 ∧ wr.cell? ⟨BW, 4, none⟩ = some dW.c2 ∧ wr.cell? ⟨BW, 5, none⟩ = some dW.c3 ∧ wr.cell? ⟨BW, 6, none⟩ = some dW.c4) ∧ wr.cell? ⟨BG, 0, none⟩ = some (.string ty) ∧ wr.cell? ⟨BG, 1, none⟩ = some (.int .i64 ver) ∧ wr.cell? ⟨BG, 2, none⟩ = some dG.c0 ∧ wr.cell? ⟨BG, 3, none⟩ = some dG.c1 ∧ wr.cell? ⟨BG, 4, none⟩ = some dG.c2 ∧ wr.cell? ⟨BG, 5, none⟩ = some dG.c3 ∧ wr.cell? ⟨BG, 6, none⟩ = some dG.c4 :=
  ⟨⟨h.bW.cell (i := 0) (by omega), h.bW.cell (i := 1) (by omega), h.bW.cell (i := 2) (by omega), h.bW.cell (i := 3) (by omega), h.bW.cell (i := 4) (by omega), h.bW.cell (i := 5) (by omega), h.bW.cell (i := 6) (by omega)⟩, h.bG.cell (i := 0) (by omega), h.bG.cell (i := 1) (by omega), h.bG.cell (i := 2) (by omega), h.bG.cell (i := 3) (by omega), h.bG.cell (i := 4) (by omega), h.bG.cell (i := 5) (by omega), h.bG.cell (i := 6) (by omega)⟩
end

set_option maxRecDepth 100000 in
set_option maxHeartbeats 6400000 in
theorem lawEventRead_any (w : World) (s : ByteArray) (hE : Env w) (hT : Tab w) :
    Calls Tryz.prog 5 #[.string s] w fun e w' => e = .returned (.bool true) ∧ Below w.heap.size w w' := by
  by_cases hs : s.size ≤ 1048576
  · have hd : decide ((1048576 : Int) < (s.size : Int)) = false := by simp; omega
    obtain ⟨ty, ver, t, ok, hmk, hansS, hansP⟩ := er_ans s
    have hsp := (specEventRead_any w s hs).mono (fun e w' h => hansS _ _ _ h)
    have him := fun (W : World) (hW : Below w.heap.size w W) => (implEventRead_any W s hs (hE.below hW) (hT.of_block (hW.block _ hT.lt))).mono (fun e w' h => hansP _ _ _ h)
    have HSP := hide hsp; have HIM := hide him; have HMK := hide hmk
    clear hsp him hmk hansS hansP hE hT
    go_enter Tryz.func5, Tryz.ntmps5
    go_wp2_with fail
    refine (unhide HSP).mono ?_
    rintro e w1 ⟨y0, y1, y2, ap, np, cp, aq, nq, cq, rfl, ho1, hb1⟩
    have HO1 := hide ho1; have HB1 := hide hb1
    have hs1 := hb1.size
    clear ho1 hb1 HSP
    go_wp2_with fail
    have hba := (unhide HB1).alloc (unhide HB1).size (.cells #[.string ty, .int .i64 ver, .int .i64 y0, .int .i64 y1, .string y2, .slice ap np cp, .slice aq nq cq] 37)
    refine (unhide HIM _ hba).mono ?_
    rintro e w2 ⟨z0, z1, z2, bp, mp, dp, bq, mq, dq, FG, rfl, ho2, hn2, hF2, hb2⟩
    have hs2 := hb2.size
    rw [World.size_alloc] at hs2
    have hsr : S7 w (w2.alloc (.cells #[.string ty, .int .i64 ver, .int .i64 z0, .int .i64 z1, .string z2, .slice bp mp dp, .slice bq mq dq] 37)) ty ver t t w1.heap.size w2.heap.size ⟨.int .i64 y0, .int .i64 y1, .string y2, .slice ap np cp, .slice aq nq cq⟩ ⟨.int .i64 z0, .int .i64 z1, .string z2, .slice bp mp dp, .slice bq mq dq⟩ FG := by
      have hb12 : Below w1.heap.size w1 w2 := ((Below.refl _ w1).alloc (Nat.le_refl _) (.cells #[.string ty, .int .i64 ver, .int .i64 y0, .int .i64 y1, .string y2, .slice ap np cp, .slice aq nq cq] 37)).trans (hb2.mono (by simp))
      refine ⟨((unhide HB1).trans (hb12.mono (unhide HB1).size)).alloc (by omega) _, ⟨hs1, by omega, by simp⟩, ?_, row7_alloc w2 _ _ _ _ _ _ _ _, ?_, ?_, fun b hb => by have := hF2 b hb; rw [World.size_alloc] at this; omega, hn2⟩
      · exact ((row7_alloc w1 (.string ty) (.int .i64 ver) (.int .i64 y0) (.int .i64 y1) (.string y2) (.slice ap np cp) (.slice aq nq cq) 37).of_block (hb2.block _ (by simp))).alloc _
      · exact Rep.carry (fun b hb => (Below.heap_alloc w2 _ b (by have := hb.2; omega)).trans (hb12.block b hb.2)) (fun _ h => h) _ _ (unhide HO1)
      · exact Own.carry _ _ _ (fun b hb => Below.heap_alloc w2 _ b (hF2 b hb).2) ho2
    have HSR := hide hsr
    clear hsr ho2 hn2 hF2 hb2 hba HO1 HB1
    have hbk := Below.heap_alloc w2 (.cells #[.string ty, .int .i64 ver, .int .i64 z0, .int .i64 z1, .string z2, .slice bp mp dp, .slice bq mq dq] 37) w1.heap.size (by omega)
    obtain ⟨⟨e0, e1, e2, e3, e4, e5, e6⟩, -⟩ := (unhide HSR).cells
    rw [World.cell?_of_block (w := w2) (a := ⟨w1.heap.size, 0, none⟩) hbk] at e0
    rw [World.cell?_of_block (w := w2) (a := ⟨w1.heap.size, 1, none⟩) hbk] at e1
    rw [World.cell?_of_block (w := w2) (a := ⟨w1.heap.size, 2, none⟩) hbk] at e2
    rw [World.cell?_of_block (w := w2) (a := ⟨w1.heap.size, 3, none⟩) hbk] at e3
    rw [World.cell?_of_block (w := w2) (a := ⟨w1.heap.size, 4, none⟩) hbk] at e4
    rw [World.cell?_of_block (w := w2) (a := ⟨w1.heap.size, 5, none⟩) hbk] at e5
    rw [World.cell?_of_block (w := w2) (a := ⟨w1.heap.size, 6, none⟩) hbk] at e6
    simp only at e0 e1 e2 e3 e4 e5 e6
    have hlt2 : w1.heap.size < w2.heap.size := by omega
    clear hbk
    go_wp2_with fail
    refine (eqEvent_any ty ver t (fun b => b < w2.heap.size) (fun b => b < w2.heap.size) ⟨_, _, _, _, _⟩ ⟨_, _, _, _, _⟩ _ (fun b hb => by rw [World.size_alloc]; omega) (fun b hb => by rw [World.size_alloc]; omega) (Own.rep _ _ _ (fun b hb => ((unhide HSR).lG b hb).2) (unhide HSR).oG) (Rep.carry (fun _ _ => rfl) (fun b hb => by have := hb.2; omega) _ _ (unhide HSR).oW)).mono ?_
    rintro e w4 ⟨rfl, hb4⟩
    have HS4 := hide ((unhide HSR).on hb4)
    generalize w1.heap.size = BW at *
    generalize w2.heap.size = BG at *
    obtain ⟨-, f0, f1, f2, f3, f4, f5, f6⟩ := (unhide HS4).cells
    simp only at f0 f1 f2 f3 f4 f5 f6
    have hl4 := (unhide HS4).lt
    have HM := hide (markEvent_own ty ver t ⟨.int .i64 z0, .int .i64 z1, .string z2, .slice bp mp dp, .slice bq mq dq⟩ FG 1 w4 (unhide HS4).oG (unhide HS4).nd (fun b hb => by have := (unhide HS4).lG b hb; omega) (by omega) (unhide HMK))
    have hmk := unhide HMK
    generalize hmm : 1 + t.names.length + cK t.kids = mm at *
    have HMM := hide hmm
    have hmi : decide ((mm : Int) < 0) = false := by simp
    have hmq : ((mm : Int) != (mm : Int)) = false := by simp
    clear hb4 HSR e0 e1 e2 e3 e4 e5 e6 hmm
    go_wp2_with fail
    refine (unhide HM).mono ?_
    rintro e w5 ⟨rfl, ho5, hx5⟩
    have HS5 := hide ((unhide HS4).exc hx5 ho5)
    have hl5 := (unhide HS5).lt
    obtain ⟨-, f0, f1, f2, f3, f4, f5, f6⟩ := (unhide HS5).cells
    simp only at f0 f1 f2 f3 f4 f5 f6
    have HH := hide (heldEvent_any ty ver t _ _ _ (fun b => b < w5.heap.size) ⟨.int .i64 z0, .int .i64 z1, .string z2, .slice bp mp dp, .slice bq mq dq⟩ 1 w5 (fun b hb => hb) (Own.rep _ _ _ (fun b hb => by have := (unhide HS5).lG b hb; omega) (unhide HS5).oG) (by omega) (by rw [unhide HMM]; exact hmk))
    rw [unhide HMM] at HH
    clear ho5 hx5 HM HS4 hl4 hl5
    go_wp2_with fail
    refine (unhide HH).mono ?_
    rintro e w6 ⟨rfl, hb6⟩
    have HS6 := hide ((unhide HS5).on hb6)
    have HI := hide (unhide HIM w6 (unhide HS6).below)
    clear hb6 HH HS5 f0 f1 f2 f3 f4 f5 f6
    go_wp2_with fail
    refine (unhide HI).mono ?_
    rintro e w7 ⟨r0, r1, r2, gp, op, sp, gq, oq, sq, FH, rfl, ho7, hn7, hF7, hb7⟩
    have HS7 := hide ((unhide HS6).on hb7)
    have hl7 := (unhide HS7).lt
    obtain ⟨⟨e0, e1, e2, e3, e4, e5, e6⟩, -⟩ := (unhide HS7).cells
    simp only at e0 e1 e2 e3 e4 e5 e6
    have hlw : BW < w7.heap.size := by omega
    have hba := (Below.refl w7.heap.size w7).alloc (Nat.le_refl _) (.cells #[.string ty, .int .i64 ver, .int .i64 r0, .int .i64 r1, .string r2, .slice gp op sp, .slice gq oq sq] 37)
    have HS8 := hide ((unhide HS7).on hba)
    have HE := hide (eqEvent_any ty ver t (fun b => b < w7.heap.size) (fun b => b < w7.heap.size) ⟨.int .i64 r0, .int .i64 r1, .string r2, .slice gp op sp, .slice gq oq sq⟩ ⟨.int .i64 y0, .int .i64 y1, .string y2, .slice ap np cp, .slice aq nq cq⟩ _ (fun b hb => by rw [World.size_alloc]; omega) (fun b hb => by rw [World.size_alloc]; omega) (Rep.carry (fun b hb => hba.block b hb) (fun _ h => h) _ _ (Own.rep _ _ _ (fun b hb => (hF7 b hb).2) ho7)) (Rep.carry (fun _ _ => rfl) (fun b hb => by have := hb.2; omega) _ _ (unhide HS8).oW))
    clear ho7 hn7 hF7 hb7 HI HS6 HS7 hba hl7
    go_wp2_with fail
    refine (unhide HE).mono ?_
    rintro e w9 ⟨rfl, hb9⟩
    have HS9 := hide ((unhide HS8).on hb9)
    have hl9 := (unhide HS9).lt
    obtain ⟨-, f0, f1, f2, f3, f4, f5, f6⟩ := (unhide HS9).cells
    simp only at f0 f1 f2 f3 f4 f5 f6
    have HH := hide (heldEvent_any ty ver t _ _ _ (fun b => b < w9.heap.size) ⟨.int .i64 z0, .int .i64 z1, .string z2, .slice bp mp dp, .slice bq mq dq⟩ 1 w9 (fun b hb => hb) (Own.rep _ _ _ (fun b hb => by have := (unhide HS9).lG b hb; omega) (unhide HS9).oG) (by omega) (by rw [unhide HMM]; exact hmk))
    rw [unhide HMM] at HH
    clear hb9 HE HS8 hl9 e0 e1 e2 e3 e4 e5 e6
    go_wp2_with fail
    refine (unhide HH).mono ?_
    rintro e w10 ⟨rfl, hb10⟩
    have HB10 := hide ((unhide HS9).on hb10).below
    clear hb10 HH HS9 f0 f1 f2 f3 f4 f5 f6
    go_wp2_with fail
    go_ret
    exact ⟨rfl, unhide HB10⟩
  · have hd : decide ((1048576 : Int) < (s.size : Int)) = true := by simp; omega
    go_enter Tryz.func5, Tryz.ntmps5
    go_wp2_with fail
    go_ret
    exact ⟨rfl, Below.refl _ _⟩
end Go.Proofs.YtgamonfmgngilaaGreatDoor

/- What strconv reads, off what the row lists of it. No conditions. -/

namespace Go.Proofs.YtgamonfmgngilaaGreatDoor
open Go Go.RowKit

theorem gPowType : (Tryz.prog.globals[3]?).map (·.type) = some 170 := by kernel_rfl
theorem gSyn : Tryz.prog.globalNamed "strconv.ErrSyntax" = some 1 := by kernel_rfl
theorem gSynType : (Tryz.prog.globals[1]?).map (·.type) = some 132 := by kernel_rfl
theorem gRng : Tryz.prog.globalNamed "strconv.ErrRange" = some 2 := by kernel_rfl
theorem gRngType : (Tryz.prog.globals[2]?).map (·.type) = some 132 := by kernel_rfl
theorem cellsU64 : Tryz.prog.cellsOf 153 = 1 := by kernel_rfl
theorem cellsPow : Tryz.prog.cellsOf 170 = 20 := by kernel_rfl
theorem powData : (Rows.laid_internal_strconv_uint64pow10 : DataW Unit) = Lib.tabData .u64 Lib.pow10Tab := by rfl

set_option maxRecDepth 100000 in
theorem env_of_laid {W : World} (h : laidMetH Tryz.prog [("math/bits.deBruijn32tab", Rows.laid_math_bits_deBruijn32tab), ("math/bits.deBruijn64tab", Rows.laid_math_bits_deBruijn64tab), ("internal/strconv.uint64pow10", Rows.laid_internal_strconv_uint64pow10), ("strconv.ErrRange", Rows.laid_strconv_ErrRange), ("strconv.ErrSyntax", Rows.laid_strconv_ErrSyntax)] W) : Env W := by
  rw [MakeChecks.laidMetH_plain _ _ _ (by kernel_rfl)] at h
  obtain ⟨ps, ⟨g0, t0, cs0, f0, p0, q0, -, -, -, -, ⟨g1, t1, cs1, f1, p1, q1, -, -, -, -, ⟨g2, t2, cs2, f2, p2, q2, hg2, ht2, hv2, hd2, ⟨g3, t3, cs3, f3, p3, q3, hg3, ht3, hv3, hd3, ⟨g4, t4, cs4, f4, p4, q4, hg4, ht4, hv4, hd4, _, _⟩, _⟩, _⟩, _⟩, _⟩, _, _⟩ := h
  obtain rfl := Option.some.inj (gPow.symm.trans hg2)
  obtain rfl := Option.some.inj (gPowType.symm.trans ht2)
  obtain rfl := Option.some.inj (gRng.symm.trans hg3)
  obtain rfl := Option.some.inj (gRngType.symm.trans ht3)
  obtain rfl := Option.some.inj (gSyn.symm.trans hg4)
  obtain rfl := Option.some.inj (gSynType.symm.trans ht4)
  refine ⟨?_, ?_, ?_⟩
  · rw [powData] at hd2
    unfold Lib.TabIs
    rw [hv2, ← Lib.cells_of_tab Tryz.underlying170 Tryz.underlying153 cellsU64 cellsPow hd2]
  · obtain ⟨f', u, v, hc, -, -⟩ := iface_of_trod Tryz.underlying132 hd4
    refine ⟨.iface u v, ?_, Or.inr ⟨u, v, rfl⟩⟩
    have h0 := World.var?_cell hg4 hv4 0
    rw [h0]
    obtain ⟨l⟩ := cs4
    simp only at hc
    subst hc
    rfl
  · obtain ⟨f', u, v, hc, -, -⟩ := iface_of_trod Tryz.underlying132 hd3
    refine ⟨.iface u v, ?_, Or.inr ⟨u, v, rfl⟩⟩
    have h0 := World.var?_cell hg3 hv3 0
    rw [h0]
    obtain ⟨l⟩ := cs3
    simp only at hc
    subst hc
    rfl
end Go.Proofs.YtgamonfmgngilaaGreatDoor
