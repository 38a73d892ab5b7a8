/- The walk of the law on TreeRead: whatever text comes in, it answers true, and turns nothing that was there. The tables of strconv are as the program's text lays them. -/
import Derived.Test.YteofngankokkkaaGreatDoorPart21
import Derived.Test.YteofngankokkkaaGreatDoorPart31
import Derived.Test.YteofngankokkkaaGreatDoorPart33
import Derived.Test.YteofngankokkkaaGreatDoorPart09
import Derived.MakeChecks
import Derived.Lib.LaidTab
import Derived.LaidLaws
namespace Go.Proofs.YteofngankokkkaaGreatDoor
open Go Go.RowKit

theorem spO_eq (s : ByteArray) : spO s = rdO s := by
  unfold spO rdO
  rw [same_read]

/-- The tree of an answer. -/
def tAn (o : Option Tr) : Tr := o.getD (.mk 0 0 ByteArray.empty [] [])
theorem TAns.open {o : Option Tr} {w w' : World} {e : Ending} (h : TAns o w e w') : ∃ (a1 : Option Addr) (p1 : Nat) (a2 : Option Addr) (p2 : Nat) (F : List Nat), e = .returned (.tuple #[.agg #[.int .i64 (tAn o).sort, .int .i64 (tAn o).num, .string (tAn o).text, .slice a1 (tAn o).names.length p1, .slice a2 (tAn o).kids.length p2], .bool o.isSome]) ∧ Own w' (tAn o) ⟨.int .i64 (tAn o).sort, .int .i64 (tAn o).num, .string (tAn o).text, .slice a1 (tAn o).names.length p1, .slice a2 (tAn o).kids.length p2⟩ F ∧ F.Nodup ∧ (∀ b, b ∈ F → w.heap.size ≤ b ∧ b < w'.heap.size) ∧ Below w.heap.size w w' := by
  obtain ⟨t, b, ⟨d0, d1, d2, d3, d4⟩, F, hk, rfl, ho, hnd, hF, hb⟩ := h
  have hh : tAn o = t ∧ o.isSome = b := by
    rcases hk with ⟨rfl, rfl⟩ | ⟨rfl, rfl, rfl⟩ <;> exact ⟨rfl, rfl⟩
  obtain ⟨rfl, rfl⟩ := hh
  obtain ⟨p0, p1, p2, -, -, -, F1, F2, -, ⟨a5, cap5, p3, -⟩, a6, cap6, p4, -⟩ := ho.open
  simp only at p0 p1 p2 p3 p4
  subst p0 p1 p2 p3 p4
  exact ⟨_, _, _, _, F, rfl, ho, hnd, hF, hb⟩
theorem SAns.open {o : Option Tr} {w w' : World} {e : Ending} (h : SAns o w e w') : ∃ (a1 : Option Addr) (p1 : Nat) (a2 : Option Addr) (p2 : Nat), e = .returned (.tuple #[.agg #[.int .i64 (tAn o).sort, .int .i64 (tAn o).num, .string (tAn o).text, .slice a1 (tAn o).names.length p1, .slice a2 (tAn o).kids.length p2], .bool o.isSome]) ∧ Rep (New w w') w' (tAn o) ⟨.int .i64 (tAn o).sort, .int .i64 (tAn o).num, .string (tAn o).text, .slice a1 (tAn o).names.length p1, .slice a2 (tAn o).kids.length p2⟩ ∧ Below w.heap.size w w' := by
  obtain ⟨t, b, ⟨d0, d1, d2, d3, d4⟩, hk, rfl, ho, hb⟩ := h
  have hh : tAn o = t ∧ o.isSome = b := by
    rcases hk with ⟨rfl, rfl⟩ | ⟨rfl, rfl, rfl⟩ <;> exact ⟨rfl, rfl⟩
  obtain ⟨rfl, rfl⟩ := hh
  obtain ⟨p0, p1, p2, -, -, -, ⟨a5, cap5, p3, -⟩, a6, cap6, p4, -⟩ := ho.open
  simp only at p0 p1 p2 p3 p4
  subst p0 p1 p2 p3 p4
  exact ⟨_, _, _, _, rfl, ho, hb⟩
theorem tAn_marks (s : ByteArray) : 1 + (tAn (rdO s)).names.length + cK (tAn (rdO s)).kids ≤ 1099511627776 := by
  cases hp : rdO s with
  | none => simp [tAn, Tr.names, Tr.kids, cK]
  | some t =>
    show 1 + t.names.length + cK t.kids ≤ _
    have hw : ∃ q, wlk t 0 0 = some q := by
      unfold rdO progRd at hp
      split at hp
      · split at hp
        · rename_i t' q hr
          simp only [Option.some.injEq] at hp
          subst hp
          have := (rdT_sound 6 _ _ _ _ _ (Nat.le_refl _) hr).2
          exact ⟨q, by simpa using this⟩
        · cases hp
      · cases hp
    obtain ⟨q, hq⟩ := hw
    have h1 := marks_short (tsz t + 1) t (by omega) 0 0 q (by omega) (by omega) hq
    have h2 := (wlk_bd t 0 0 q (by omega) (by omega) hq).2
    rw [cT_eq] at h1
    omega

/-- What the law's world holds: the boxes of the two answers, and both in blocks of their own. -/
structure ST (w wr : World) (T T' : Tr) (BW BG : Nat) (dW dG : C5) (FG : List Nat) : Prop where
  below : Below w.heap.size w wr
  lt : w.heap.size ≤ BW ∧ BW < BG ∧ BG < wr.heap.size
  bW : wr.rowIs BW 25 5 (row5 dW.c0 dW.c1 dW.c2 dW.c3 dW.c4)
  bG : wr.rowIs BG 25 5 (row5 dG.c0 dG.c1 dG.c2 dG.c3 dG.c4)
  oW : Rep (fun b => w.heap.size ≤ b ∧ b < BW) wr T dW
  oG : Own wr T' dG FG
  lG : ∀ b, b ∈ FG → BW < b ∧ b < BG
  nd : FG.Nodup
theorem ST.on {w wr w' : World} {T T' : Tr} {BW BG : Nat} {dW dG : C5} {FG : List Nat} (h : ST w wr T T' BW BG dW dG FG) (hb : Below wr.heap.size wr w') : ST w w' T T' BW BG dW dG FG := by
  have hl := h.lt
  have hs := hb.size
  exact ⟨h.below.trans (hb.mono h.below.size), by omega, h.bW.of_block (hb.block _ (by omega)), h.bG.of_block (hb.block _ (by omega)),
    Rep.carry (fun b hm => hb.block b (by omega)) (fun _ h => h) _ _ h.oW, Own.carry T' _ _ (fun b hm => hb.block b (by have := h.lG b hm; omega)) h.oG, h.lG, h.nd⟩
theorem ST.exc {w wr w' : World} {T T' T2 : Tr} {BW BG : Nat} {dW dG : C5} {FG : List Nat} (h : ST w wr T T' BW BG dW dG FG) (hb : Exc FG wr w') (hG : Own w' T2 dG FG) : ST w w' T T2 BW BG dW dG FG := by
  have hl := h.lt
  have hs := hb.size
  have hz := h.below.size
  have hn : ∀ b, (b ≤ BW ∨ BG ≤ b) → b ∉ FG := fun b hb hm => by have := h.lG b hm; omega
  exact ⟨h.below.trans (hb.below hz (fun b hm => by have := h.lG b hm; omega)), by omega, h.bW.of_block (hb.block _ (by omega) (hn _ (by omega))), h.bG.of_block (hb.block _ (by omega) (hn _ (by omega))),
    Rep.carry (fun b hm => hb.block b (by omega) (hn _ (by omega))) (fun _ h => h) _ _ h.oW, hG, h.lG, h.nd⟩
theorem ST.cells {w wr : World} {T T' : Tr} {BW BG : Nat} {dW dG : C5} {FG : List Nat} (h : ST w wr T T' BW BG dW dG FG) :
    (wr.cell? ⟨BW, 0, none⟩ = some dW.c0 ∧ wr.cell? ⟨BW, 1, none⟩ = some dW.c1 ∧ wr.cell? ⟨BW, 2, none⟩ = some dW.c2 ∧ wr.cell? ⟨BW, 3, none⟩ = some dW.c3 ∧ wr.cell? ⟨BW, 4, none⟩ = some dW.c4) ∧ wr.cell? ⟨BG, 0, none⟩ = some dG.c0 ∧ wr.cell? ⟨BG, 1, none⟩ = some dG.c1 ∧ wr.cell? ⟨BG, 2, none⟩ = some dG.c2 ∧ wr.cell? ⟨BG, 3, none⟩ = some dG.c3 ∧ wr.cell? ⟨BG, 4, none⟩ = some dG.c4 :=
  ⟨⟨h.bW.cell (i := 0) (by omega), h.bW.cell (i := 1) (by omega), h.bW.cell (i := 2) (by omega), h.bW.cell (i := 3) (by omega), h.bW.cell (i := 4) (by omega)⟩, h.bG.cell (i := 0) (by omega), h.bG.cell (i := 1) (by omega), h.bG.cell (i := 2) (by omega), h.bG.cell (i := 3) (by omega), h.bG.cell (i := 4) (by omega)⟩

set_option maxRecDepth 100000 in
set_option maxHeartbeats 3200000 in
theorem lawTreeRead_any (w : World) (s : ByteArray) (hE : Env w) :
    Calls Tryz.prog 3 #[.string s] w fun e w' => e = .returned (.bool true) ∧ Below w.heap.size w w' := by
  by_cases hs : s.size ≤ 1048576
  · have hd : decide ((1048576 : Int) < (s.size : Int)) = false := by simp; omega
    have hmk := tAn_marks s
    have hsp := specTreeRead_any w s hs
    have him := fun W (hW : Below w.heap.size w W) => implTreeRead_any W s hs (hE.below hW)
    rw [spO_eq] at hsp
    generalize rdO s = o at *
    have HSP := hide hsp; have HIM := hide him; have HMK := hide hmk
    clear hsp him hmk hE
    obtain ⟨T, hT⟩ : ∃ T, T = tAn o := ⟨_, rfl⟩
    have HT := hide hT
    clear hT
    go_enter Tryz.func3, Tryz.ntmps3
    go_wp2_with fail
    refine (unhide HSP).mono ?_
    intro e w1 h1
    obtain ⟨a1, p1, a2, p2, rfl, ho1, hb1⟩ := h1.open
    rw [← unhide HT] at ho1 ⊢
    have HO1 := hide ho1; have HB1 := hide hb1
    have hs1 := hb1.size
    clear ho1 hb1 h1 HSP
    go_wp2_with fail
    have hba := (unhide HB1).alloc (unhide HB1).size (.cells #[.int .i64 T.sort, .int .i64 T.num, .string T.text, .slice a1 T.names.length p1, .slice a2 T.kids.length p2] 25)
    refine (unhide HIM _ hba).mono ?_
    intro e w2 h2
    obtain ⟨b1, r1, b2, r2, FG, rfl, ho2, hn2, hF2, hb2⟩ := h2.open
    rw [← unhide HT] at ho2 ⊢
    have hs2 := hb2.size
    rw [World.size_alloc] at hs2
    have hsr : ST w (w2.alloc (.cells #[.int .i64 T.sort, .int .i64 T.num, .string T.text, .slice b1 T.names.length r1, .slice b2 T.kids.length r2] 25)) T T w1.heap.size w2.heap.size ⟨.int .i64 T.sort, .int .i64 T.num, .string T.text, .slice a1 T.names.length p1, .slice a2 T.kids.length p2⟩ ⟨.int .i64 T.sort, .int .i64 T.num, .string T.text, .slice b1 T.names.length r1, .slice b2 T.kids.length r2⟩ FG := by
      have hb12 : Below w1.heap.size w1 w2 := ((Below.refl _ w1).alloc (Nat.le_refl _) (.cells #[.int .i64 T.sort, .int .i64 T.num, .string T.text, .slice a1 T.names.length p1, .slice a2 T.kids.length p2] 25)).trans (hb2.mono (by simp))
      refine ⟨((unhide HB1).trans (hb12.mono (unhide HB1).size)).alloc (by omega) _, ⟨hs1, by omega, by simp⟩, ?_, row5_alloc w2 _ _ _ _ _ _, ?_, ?_, fun b hb => by have := hF2 b hb; rw [World.size_alloc] at this; omega, hn2⟩
      · exact ((row5_alloc w1 (.int .i64 T.sort) (.int .i64 T.num) (.string T.text) (.slice a1 T.names.length p1) (.slice a2 T.kids.length p2) 25).of_block (hb2.block _ (by simp))).alloc _
      · exact Rep.carry (fun b hb => (Below.heap_alloc w2 _ b (by have := hb.2; omega)).trans (hb12.block b hb.2)) (fun _ h => h) _ _ (unhide HO1)
      · exact Own.carry _ _ _ (fun b hb => Below.heap_alloc w2 _ b (hF2 b hb).2) ho2
    have HSR := hide hsr
    clear hsr ho2 hn2 hF2 hb2 h2 hba HO1 HB1
    have hbk := Below.heap_alloc w2 (.cells #[.int .i64 T.sort, .int .i64 T.num, .string T.text, .slice b1 T.names.length r1, .slice b2 T.kids.length r2] 25) w1.heap.size (by omega)
    have e0 := (World.cell?_of_block (w := w2) (a := ⟨w1.heap.size, 0, none⟩) hbk).symm.trans ((unhide HSR).bW.cell (i := 0) (by omega))
    have e1 := (World.cell?_of_block (w := w2) (a := ⟨w1.heap.size, 1, none⟩) hbk).symm.trans ((unhide HSR).bW.cell (i := 1) (by omega))
    have e2 := (World.cell?_of_block (w := w2) (a := ⟨w1.heap.size, 2, none⟩) hbk).symm.trans ((unhide HSR).bW.cell (i := 2) (by omega))
    have e3 := (World.cell?_of_block (w := w2) (a := ⟨w1.heap.size, 3, none⟩) hbk).symm.trans ((unhide HSR).bW.cell (i := 3) (by omega))
    have e4 := (World.cell?_of_block (w := w2) (a := ⟨w1.heap.size, 4, none⟩) hbk).symm.trans ((unhide HSR).bW.cell (i := 4) (by omega))
    simp only [row5] at e0 e1 e2 e3 e4
    have hlt2 : w1.heap.size < w2.heap.size := by omega
    clear hbk
    go_wp2_with fail
    refine (eqTree_any T (fun b => b < w2.heap.size) (fun b => b < w2.heap.size) ⟨_, _, _, _, _⟩ ⟨_, _, _, _, _⟩ _ (fun b hb => by rw [World.size_alloc]; omega) (fun b hb => by rw [World.size_alloc]; omega) (Own.rep _ _ _ (fun b hb => ((unhide HSR).lG b hb).2) (unhide HSR).oG) (Rep.carry (fun _ _ => rfl) (fun b hb => by have := hb.2; omega) _ _ (unhide HSR).oW)).mono ?_
    rintro e w4 ⟨rfl, hb4⟩
    have HS4 := hide ((unhide HSR).on hb4)
    generalize w1.heap.size = BW at *
    generalize w2.heap.size = BG at *
    obtain ⟨⟨g0, g1, g2, g3, g4⟩, k0, k1, k2, k3, k4⟩ := (unhide HS4).cells
    simp only at g0 g1 g2 g3 g4 k0 k1 k2 k3 k4
    clear hb4 HSR e0 e1 e2 e3 e4
    go_wp2_with fail
    have hmk : 1 + T.names.length + cK T.kids ≤ 1099511627776 := by rw [unhide HT]; exact unhide HMK
    have hl4 := (unhide HS4).lt
    refine (markTree_any T ⟨_, _, _, _, _⟩ FG 1 w4 (unhide HS4).oG (unhide HS4).nd (fun b hb => by have := (unhide HS4).lG b hb; omega) (by omega) hmk).mono ?_
    rintro e w5 ⟨rfl, ho5, hx5⟩
    have HS5 := hide ((unhide HS4).exc hx5 ho5)
    clear g0 g1 g2 g3 g4 k0 k1 k2 k3 k4
    obtain ⟨⟨g0, g1, g2, g3, g4⟩, k0, k1, k2, k3, k4⟩ := (unhide HS5).cells
    simp only at g0 g1 g2 g3 g4 k0 k1 k2 k3 k4
    generalize hmm : 1 + T.names.length + cK T.kids = mm at *
    have HMM := hide hmm
    have hmi : (0 : Int) ≤ (mm : Int) := by omega
    clear hx5 ho5 HS4 hl4 hmm
    go_wp2_with fail
    have hl5 := (unhide HS5).lt
    refine (heldTree_any T _ _ _ (fun b => b < w5.heap.size) ⟨_, _, _, _, _⟩ 1 w5 (fun b hb => hb) (Own.rep _ _ _ (fun b hb => by have := (unhide HS5).lG b hb; omega) (unhide HS5).oG) (by omega) (by rw [unhide HMM]; exact hmk)).mono ?_
    rintro e w6 ⟨rfl, hb6⟩
    rw [unhide HMM]
    have HS6 := hide ((unhide HS5).on hb6)
    clear hb6 HS5 g0 g1 g2 g3 g4 k0 k1 k2 k3 k4 hl5
    go_wp2_with fail
    refine (unhide HIM _ (unhide HS6).below).mono ?_
    intro e w7 h7
    obtain ⟨q1, u1, q2, u2, FH, rfl, ho7, hn7, hF7, hb7⟩ := h7.open
    rw [← unhide HT] at ho7 ⊢
    have HS7 := hide ((unhide HS6).on hb7)
    have HO7 := hide ho7; have HF7 := hide hF7
    have hl7 := (unhide HS7).lt
    obtain ⟨⟨g0, g1, g2, g3, g4⟩, k0, k1, k2, k3, k4⟩ := (unhide HS7).cells
    simp only at g0 g1 g2 g3 g4 k0 k1 k2 k3 k4
    have hlw : BW < w7.heap.size := by omega
    clear hb7 ho7 hn7 hF7 h7 HS6
    go_wp2_with fail
    have hba := (Below.refl w7.heap.size w7).alloc (Nat.le_refl _) (.cells #[.int .i64 T.sort, .int .i64 T.num, .string T.text, .slice q1 T.names.length u1, .slice q2 T.kids.length u2] 25)
    have HS8 := hide ((unhide HS7).on hba)
    refine (eqTree_any T (fun b => b < w7.heap.size) (fun b => b < w7.heap.size) ⟨_, _, _, _, _⟩ ⟨_, _, _, _, _⟩ _ (fun b hb => by rw [World.size_alloc]; omega) (fun b hb => by rw [World.size_alloc]; omega) (Rep.carry (fun b hb => hba.block b hb) (fun _ h => h) _ _ (Own.rep _ _ _ (fun b hb => (unhide HF7 b hb).2) (unhide HO7))) (Rep.carry (fun _ _ => rfl) (fun b hb => by have := hb.2; omega) _ _ (unhide HS8).oW)).mono ?_
    rintro e w9 ⟨rfl, hb9⟩
    have HS9 := hide ((unhide HS8).on hb9)
    clear g0 g1 g2 g3 g4 k0 k1 k2 k3 k4
    obtain ⟨⟨g0, g1, g2, g3, g4⟩, k0, k1, k2, k3, k4⟩ := (unhide HS9).cells
    simp only at g0 g1 g2 g3 g4 k0 k1 k2 k3 k4
    clear hb9 HS8 HS7 hba HO7 HF7
    go_wp2_with fail
    have hl9 := (unhide HS9).lt
    refine (heldTree_any T _ _ _ (fun b => b < w9.heap.size) ⟨_, _, _, _, _⟩ 1 w9 (fun b hb => hb) (Own.rep _ _ _ (fun b hb => by have := (unhide HS9).lG b hb; omega) (unhide HS9).oG) (by omega) (by rw [unhide HMM]; exact hmk)).mono ?_
    rintro e w10 ⟨rfl, hb10⟩
    rw [unhide HMM]
    have HB10 := hide ((unhide HS9).on hb10).below
    clear hb10 HS9 g0 g1 g2 g3 g4 k0 k1 k2 k3 k4
    go_wp2_with fail
    go_ret
    exact ⟨rfl, unhide HB10⟩
  · have hd : decide ((1048576 : Int) < (s.size : Int)) = true := by simp; omega
    go_enter Tryz.func3, Tryz.ntmps3
    go_wp2_with fail
    go_ret
    exact ⟨rfl, Below.refl _ _⟩
end Go.Proofs.YteofngankokkkaaGreatDoor

/- What strconv reads, off what the row lists of it. No conditions. -/

namespace Go.Proofs.YteofngankokkkaaGreatDoor
open Go Go.RowKit

theorem gPowType : (Tryz.prog.globals[2]?).map (·.type) = some 120 := by kernel_rfl
theorem gSyn : Tryz.prog.globalNamed "strconv.ErrSyntax" = some 0 := by kernel_rfl
theorem gSynType : (Tryz.prog.globals[0]?).map (·.type) = some 89 := by kernel_rfl
theorem gRng : Tryz.prog.globalNamed "strconv.ErrRange" = some 1 := by kernel_rfl
theorem gRngType : (Tryz.prog.globals[1]?).map (·.type) = some 89 := by kernel_rfl
theorem cellsU64 : Tryz.prog.cellsOf 102 = 1 := by kernel_rfl
theorem cellsPow : Tryz.prog.cellsOf 120 = 20 := by kernel_rfl
theorem powData : (Rows.laid_internal_strconv_uint64pow10 : DataW Unit) = Lib.tabData .u64 Lib.pow10Tab := by rfl

set_option maxRecDepth 100000 in
theorem env_of_laid {W : World} (h : laidMetH Tryz.prog [("math/bits.deBruijn32tab", Rows.laid_math_bits_deBruijn32tab), ("math/bits.deBruijn64tab", Rows.laid_math_bits_deBruijn64tab), ("internal/strconv.uint64pow10", Rows.laid_internal_strconv_uint64pow10), ("strconv.ErrRange", Rows.laid_strconv_ErrRange), ("strconv.ErrSyntax", Rows.laid_strconv_ErrSyntax)] W) : Env W := by
  rw [MakeChecks.laidMetH_plain _ _ _ (by kernel_rfl)] at h
  obtain ⟨ps, ⟨g0, t0, cs0, f0, p0, q0, -, -, -, -, ⟨g1, t1, cs1, f1, p1, q1, -, -, -, -, ⟨g2, t2, cs2, f2, p2, q2, hg2, ht2, hv2, hd2, ⟨g3, t3, cs3, f3, p3, q3, hg3, ht3, hv3, hd3, ⟨g4, t4, cs4, f4, p4, q4, hg4, ht4, hv4, hd4, _, _⟩, _⟩, _⟩, _⟩, _⟩, _, _⟩ := h
  obtain rfl := Option.some.inj (gPow.symm.trans hg2)
  obtain rfl := Option.some.inj (gPowType.symm.trans ht2)
  obtain rfl := Option.some.inj (gRng.symm.trans hg3)
  obtain rfl := Option.some.inj (gRngType.symm.trans ht3)
  obtain rfl := Option.some.inj (gSyn.symm.trans hg4)
  obtain rfl := Option.some.inj (gSynType.symm.trans ht4)
  refine ⟨?_, ?_, ?_⟩
  · rw [powData] at hd2
    unfold Lib.TabIs
    rw [hv2, ← Lib.cells_of_tab Tryz.underlying120 Tryz.underlying102 cellsU64 cellsPow hd2]
  · obtain ⟨f', u, v, hc, -, -⟩ := iface_of_trod Tryz.underlying89 hd4
    refine ⟨.iface u v, ?_, Or.inr ⟨u, v, rfl⟩⟩
    have h0 := World.var?_cell hg4 hv4 0
    rw [h0]
    obtain ⟨l⟩ := cs4
    simp only at hc
    subst hc
    rfl
  · obtain ⟨f', u, v, hc, -, -⟩ := iface_of_trod Tryz.underlying89 hd3
    refine ⟨.iface u v, ?_, Or.inr ⟨u, v, rfl⟩⟩
    have h0 := World.var?_cell hg3 hv3 0
    rw [h0]
    obtain ⟨l⟩ := cs3
    simp only at hc
    subst hc
    rfl
end Go.Proofs.YteofngankokkkaaGreatDoor
