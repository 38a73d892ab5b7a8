/- The walk of the law on EventUnpack: whatever row of bytes comes in, it answers true, and turns nothing that was there. The table treeFields is as the program lays it. -/
import Derived.Test.YtffdofllebbcgaaDoorMerged42
import Derived.Deep.CutRange
import Derived.Test.YtffdofllebbcgaaDoorRows
import Derived.Test.YtffdofllebbcgaaDoorMerged15
import Derived.ProofKit
import Derived.OpenShut
namespace Go.Proofs.YtffdofllebbcgaaDoor
open Go Go.RowKit

set_option maxRecDepth 100000 in
set_option maxHeartbeats 800000 in
theorem markEvent_own (ty : ByteArray) (ver : Int) (t : Tr) (c : C5) (F : List Nat) (k : Nat) (w : World) (h : Own w t c F) (hnd : F.Nodup) (hlt : ∀ x, x ∈ F → x < w.heap.size) (hk0 : 0 < k) (hk : k + t.names.length + cK t.kids ≤ 1099511627776) :
    Calls Tryd.prog 14 #[.agg #[.string ty, .int .i64 ver, c.c0, c.c1, c.c2, c.c3, c.c4], .int .i64 k] w fun e w' => e = .returned (.int .i64 (k + t.names.length + cK t.kids : Nat)) ∧ Own w' (.mk t.sort t.num t.text (mS k t.names) (mK (k + t.names.length) t.kids)) c F ∧ Exc F w w' := by
  obtain ⟨c0, c1, c2, c3, c4⟩ := c
  have hlk : ∀ o, Exc F w (w.alloc o) := fun o => Exc.of_below ((Below.refl _ _).alloc (Nat.le_refl _) o)
  have HC := hide (fun o => markTree_any t ⟨c0, c1, c2, c3, c4⟩ F k (w.alloc o) (Own.carry t _ F (fun x hx => Below.heap_alloc _ _ _ (hlt x hx)) h) hnd (fun x hx => by rw [World.size_alloc]; have := hlt x hx; omega) hk0 hk)
  have HLK := hide hlk
  clear h hlk hlt hnd
  go_enter Tryd.func14, Tryd.ntmps14
  go_wp2_with fail
  refine (unhide HC _).mono ?_
  rintro e w2 ⟨rfl, ho2, hl2⟩
  have HL2 := hide ((unhide HLK _).trans hl2)
  have HO2 := hide ho2
  clear hl2 ho2
  go_wp2_with fail
  go_ret
  exact ⟨rfl, unhide HO2, unhide HL2⟩

set_option maxRecDepth 100000 in
set_option maxHeartbeats 800000 in
theorem heldEvent_any (ty : ByteArray) (ver : Int) (t : Tr) (s n : Int) (tx : ByteArray) (P : Nat → Prop) (c : C5) (k : Nat) (w : World) (hP : ∀ b, P b → b < w.heap.size) (h : Rep P w (.mk s n tx (mS k t.names) (mK (k + t.names.length) t.kids)) c) (hk0 : 0 < k) (hk : k + t.names.length + cK t.kids ≤ 1099511627776) :
    Calls Tryd.prog 20 #[.agg #[.string ty, .int .i64 ver, c.c0, c.c1, c.c2, c.c3, c.c4], .int .i64 k] w fun e w' => e = .returned (.int .i64 (k + t.names.length + cK t.kids : Nat)) ∧ Below w.heap.size w w' := by
  obtain ⟨c0, c1, c2, c3, c4⟩ := c
  have hbx : ∀ o, Below w.heap.size w (w.alloc o) := fun o => (Below.refl _ _).alloc (Nat.le_refl _) o
  have HC := hide (fun o => heldTree_any t s n tx P ⟨c0, c1, c2, c3, c4⟩ k (w.alloc o) (fun b hb => Nat.lt_of_lt_of_le (hP b hb) (hbx o).size) (Rep.carry (fun b hb => (hbx o).block b (hP b hb)) (fun _ h => h) _ _ h) hk0 hk)
  have HBX := hide hbx
  clear h hbx hP
  generalize hm : k + t.names.length + cK t.kids = m at *
  have hmi : decide ((m : Int) < 0) = false := by simp
  go_enter Tryd.func20, Tryd.ntmps20
  go_wp2_with fail
  refine (unhide HC _).mono ?_
  rintro e w2 ⟨rfl, hl2⟩
  have HL2 := hide ((unhide HBX _).trans (hl2.mono (unhide HBX _).size))
  clear hl2
  go_wp2_with fail
  go_ret
  exact ⟨rfl, unhide HL2⟩

set_option maxRecDepth 100000 in
set_option maxHeartbeats 6400000 in
theorem lawEventUnpack_any (w : World) (v : Value) (l : List UInt8) (hv : BytesAt w v l) (hT : Tab w) :
    Calls Tryd.prog 5 #[v] w fun e w' => e = .returned (.bool true) ∧ Below w.heap.size w w' := by
  have hvk := hv
  obtain ⟨av, cv, rfl, hlen, -⟩ := hv
  by_cases hs : l.length ≤ 1048576
  · have hd : decide ((1048576 : Int) < (l.length : Int)) = false := by simp; omega
    obtain ⟨ty, ver, t, ok, hmk, hans⟩ := up_ans l
    have hto := fun (W : World) (hW : Below w.heap.size w W) => toByteS_any (.slice av l.length cv) l W (hvk.on hW) hs
    have hsp := fun (W : World) (g : Nat) (hr : ByRow g W (.slice (some ⟨g, 0, none⟩) l.length l.length) l) => (specEventUnpack_any W _ l (hr.base (base' := 0) (Nat.zero_le _)) hs).mono (fun e w' h => hans _ _ _ h)
    have him := fun (W : World) (g : Nat) (hW : Below w.heap.size w W) (hr : ByRow g W (.slice (some ⟨g, 0, none⟩) l.length l.length) l) => (implEventUnpack_any W _ l (hr.base (base' := 0) (Nat.zero_le _)) hs (hT.of_block (hW.block _ hT.lt))).mono (fun e w' h => hans _ _ _ h)
    have HTO := hide hto; have HSP := hide hsp; have HIM := hide him; have HMK := hide hmk; have HVK := hide hvk
    clear hto hsp him hmk hans hvk hT
    go_enter Tryd.func5, Tryd.ntmps5
    go_wp2_with fail
    -- the copy, the specification's answer
    refine (unhide HTO _ (Below.refl _ _)).mono ?_
    rintro e w1 ⟨rfl, hr1, hb1⟩
    have HC := hide (unhide HSP w1 _ hr1); have HB1 := hide hb1
    clear hr1 hb1 HSP
    go_wp2_with fail
    refine (unhide HC).mono ?_
    rintro e w2 ⟨y0, y1, y2, ap, np, cp, aq, nq, cq, FW, rfl, ho2, hn2, hF2, hb2⟩
    have hs1 := (unhide HB1).size
    have hs2 := hb2.size
    have hb02 := (unhide HB1).trans (hb2.mono hs1)
    have HO2 := hide ho2; have HF2 := hide hF2; have HB2 := hide hb02
    clear ho2 hF2 hb2 hn2 hb02 HC HB1
    go_wp2_with fail
    -- the copy that the program gets, its answer
    have hba := (unhide HB2).alloc (unhide HB2).size (.cells #[.string ty, .int .i64 ver, .int .i64 y0, .int .i64 y1, .string y2, .slice ap np cp, .slice aq nq cq] 34)
    refine (unhide HTO _ hba).mono ?_
    rintro e w3 ⟨rfl, hr3, hb3⟩
    rw [World.size_alloc] at hr3 hb3 ⊢
    have hs3 := hb3.size
    rw [World.size_alloc] at hs3
    have hb03 := hba.trans (hb3.mono (by omega))
    have HC := hide (unhide HIM w3 _ hb03 hr3)
    have HR3 := hide hr3; have HB3 := hide hb3; have HB03 := hide hb03
    have hlt3 : w2.heap.size + 1 < w3.heap.size := (hr3.own _ rfl).2
    clear hr3 hb3 hb03 hba
    go_wp2_with fail
    refine (unhide HC).mono ?_
    rintro e w4 ⟨z0, z1, z2, bp, mp, dp, bq, mq, dq, FG, rfl, ho4, hn4, hF4, hb4⟩
    have hs4 := hb4.size
    have hst : UnSt w (w4.alloc (.cells #[.string ty, .int .i64 ver, .int .i64 z0, .int .i64 z1, .string z2, .slice bp mp dp, .slice bq mq dq] 34)) ty ver t t w2.heap.size w4.heap.size (w2.heap.size + 1) ⟨.int .i64 y0, .int .i64 y1, .string y2, .slice ap np cp, .slice aq nq cq⟩ ⟨.int .i64 z0, .int .i64 z1, .string z2, .slice bp mp dp, .slice bq mq dq⟩ FW FG l := by
      have hw2 := (unhide HB2).size
      have hb24 : ∀ x, x < w2.heap.size + 1 → w4.heap[x]? = (w2.alloc (.cells #[.string ty, .int .i64 ver, .int .i64 y0, .int .i64 y1, .string y2, .slice ap np cp, .slice aq nq cq] 34)).heap[x]? := fun x hx => (hb4.block x (by omega)).trans ((unhide HB3).block x hx)
      refine ⟨((unhide HB03).trans (hb4.mono (by omega))).alloc (by omega) _, ⟨hw2, by omega, by omega, by simp⟩, ?_, row7_alloc w4 _ _ _ _ _ _ _ _, ?_, ?_, fun b hb => ⟨by have := (unhide HF2 b hb).1; omega, (unhide HF2 b hb).2⟩, fun b hb => ⟨by have := (hF4 b hb).1; omega, (hF4 b hb).2⟩, ?_, hn4⟩
      · exact ((row7_alloc w2 (.string ty) (.int .i64 ver) (.int .i64 y0) (.int .i64 y1) (.string y2) (.slice ap np cp) (.slice aq nq cq) 34).of_block (hb24 _ (by omega))).alloc _
      · exact Own.carry _ _ _ (fun b hb => (Below.heap_alloc w4 _ b (by have := unhide HF2 b hb; omega)).trans ((hb24 b (by have := unhide HF2 b hb; omega)).trans (Below.heap_alloc w2 _ b (unhide HF2 b hb).2))) (unhide HO2)
      · exact Own.carry _ _ _ (fun b hb => Below.heap_alloc w4 _ b (hF4 b hb).2) ho4
      · exact ((unhide HR3).of_block (fun g e => hb4.block g ((unhide HR3).own g e).2)).of_block (fun g e => Below.heap_alloc w4 _ g (by have := ((unhide HR3).own g e).2; omega))
    have HSR := hide hst
    clear hst ho4 hn4 hF4 hb4 HC HO2 HF2 HB2 HR3 HB3 HB03
    have hbk := Below.heap_alloc w4 (.cells #[.string ty, .int .i64 ver, .int .i64 z0, .int .i64 z1, .string z2, .slice bp mp dp, .slice bq mq dq] 34) w2.heap.size (by omega)
    obtain ⟨⟨e0, e1, e2, e3, e4, e5, e6⟩, -⟩ := (unhide HSR).cells
    rw [World.cell?_of_block (w := w4) (a := ⟨w2.heap.size, 0, none⟩) hbk] at e0
    rw [World.cell?_of_block (w := w4) (a := ⟨w2.heap.size, 1, none⟩) hbk] at e1
    rw [World.cell?_of_block (w := w4) (a := ⟨w2.heap.size, 2, none⟩) hbk] at e2
    rw [World.cell?_of_block (w := w4) (a := ⟨w2.heap.size, 3, none⟩) hbk] at e3
    rw [World.cell?_of_block (w := w4) (a := ⟨w2.heap.size, 4, none⟩) hbk] at e4
    rw [World.cell?_of_block (w := w4) (a := ⟨w2.heap.size, 5, none⟩) hbk] at e5
    rw [World.cell?_of_block (w := w4) (a := ⟨w2.heap.size, 6, none⟩) hbk] at e6
    simp only at e0 e1 e2 e3 e4 e5 e6
    have hlt2 : w2.heap.size < w4.heap.size := by omega
    clear hbk
    go_wp2_with fail
    -- both are the same
    refine (eqEvent_any ty ver t (fun b => b < w4.heap.size) (fun b => b < w4.heap.size) ⟨_, _, _, _, _⟩ ⟨_, _, _, _, _⟩ _ (fun b hb => by rw [World.size_alloc]; omega) (fun b hb => by rw [World.size_alloc]; omega) (Own.rep _ _ _ (fun b hb => ((unhide HSR).lG b hb).2) (unhide HSR).oG) (Own.rep _ _ _ (fun b hb => by have := ((unhide HSR).lW b hb).2; omega) (unhide HSR).oW)).mono ?_
    rintro e w5 ⟨rfl, hb5⟩
    have HS5 := hide ((unhide HSR).on hb5)
    generalize w2.heap.size = BW at *
    generalize w4.heap.size = BG at *
    clear hb5 HSR e0 e1 e2 e3 e4 e5 e6
    have HC := hide (unhide HTO w5 (unhide HS5).below)
    have hx : ((!ok) == ok) = false := by cases ok <;> rfl
    clear hx
    go_wp2_with fail
    -- the row is as it was
    refine (unhide HC).mono ?_
    rintro e w6 ⟨rfl, hr6, hb6⟩
    have HS6 := hide ((unhide HS5).on hb6)
    have HE := hide (eqByteS_any (.slice (some ⟨BW + 1, 0, none⟩) l.length l.length) _ l w6 (unhide HS6).rX.at hr6.at)
    clear hr6 hb6 HC HS5
    go_wp2_with fail
    refine (unhide HE).mono ?_
    rintro e w7 ⟨rfl, hb7⟩
    have HS7 := hide ((unhide HS6).on hb7)
    have HM := hide (markByteS_any _ _ l 1 w7 (unhide HS7).rX (by omega))
    clear hb7 HE HS6
    go_wp2_with fail
    -- it is marked, the answer is not
    refine (unhide HM).mono ?_
    rintro e w8 ⟨rfl, ⟨lm, hlm, hmm, hrm⟩, hg8⟩
    have HS8 := hide ((unhide HS7).mark rfl hg8 hrm hlm)
    have hk8 : decide (((1 + l.length : Nat) : Int) < 0) = false := by simp; omega
    have hl8 := (unhide HS8).lt
    obtain ⟨⟨e0, e1, e2, e3, e4, e5, e6⟩, f0, f1, f2, f3, f4, f5, f6⟩ := (unhide HS8).cells
    simp only at e0 e1 e2 e3 e4 e5 e6 f0 f1 f2 f3 f4 f5 f6
    have HE := hide (eqEvent_any ty ver t (fun b => b < w8.heap.size) (fun b => b < w8.heap.size) ⟨.int .i64 z0, .int .i64 z1, .string z2, .slice bp mp dp, .slice bq mq dq⟩ ⟨.int .i64 y0, .int .i64 y1, .string y2, .slice ap np cp, .slice aq nq cq⟩ w8 (fun b hb => hb) (fun b hb => hb) (Own.rep _ _ _ (fun b hb => by have := ((unhide HS8).lG b hb).2; omega) (unhide HS8).oG) (Own.rep _ _ _ (fun b hb => by have := ((unhide HS8).lW b hb).2; omega) (unhide HS8).oW))
    clear hrm hlm hmm hg8 HM HS7 hl8
    go_wp2_with fail
    refine (unhide HE).mono ?_
    rintro e w9 ⟨rfl, hb9⟩
    have HS9 := hide ((unhide HS8).on hb9)
    have hl9 := (unhide HS9).lt
    obtain ⟨-, f0, f1, f2, f3, f4, f5, f6⟩ := (unhide HS9).cells
    simp only at f0 f1 f2 f3 f4 f5 f6
    have HM := hide (markEvent_own ty ver t ⟨.int .i64 z0, .int .i64 z1, .string z2, .slice bp mp dp, .slice bq mq dq⟩ FG 1 w9 (unhide HS9).oG (unhide HS9).nd (fun b hb => by have := (unhide HS9).lG b hb; omega) (by omega) (unhide HMK))
    have hmk := unhide HMK
    generalize hmm : 1 + t.names.length + cK t.kids = mm at *
    have HMM := hide hmm
    have hmi : decide ((mm : Int) < 0) = false := by simp
    have hmq : ((mm : Int) != (mm : Int)) = false := by simp
    clear hb9 HE HS8 hl9 hk8 hmm e0 e1 e2 e3 e4 e5 e6
    go_wp2_with fail
    -- the answer is marked
    refine (unhide HM).mono ?_
    rintro e w10 ⟨rfl, ho10, hx10⟩
    have HS10 := hide ((unhide HS9).exc hx10 ho10)
    have hl10 := (unhide HS10).lt
    obtain ⟨-, f0, f1, f2, f3, f4, f5, f6⟩ := (unhide HS10).cells
    simp only at f0 f1 f2 f3 f4 f5 f6
    have HH := hide (heldEvent_any ty ver t _ _ _ (fun b => b < w10.heap.size) ⟨.int .i64 z0, .int .i64 z1, .string z2, .slice bp mp dp, .slice bq mq dq⟩ 1 w10 (fun b hb => hb) (Own.rep _ _ _ (fun b hb => by have := (unhide HS10).lG b hb; omega) (unhide HS10).oG) (by omega) (by rw [unhide HMM]; exact hmk))
    rw [unhide HMM] at HH
    clear ho10 hx10 HM HS9 hl10
    go_wp2_with fail
    refine (unhide HH).mono ?_
    rintro e w11 ⟨rfl, hb11⟩
    have HS11 := hide ((unhide HS10).on hb11)
    have HC := hide (unhide HTO w11 (unhide HS11).below)
    clear hb11 HH HS10 f0 f1 f2 f3 f4 f5 f6
    go_wp2_with fail
    -- another call
    refine (unhide HC).mono ?_
    rintro e w12 ⟨rfl, hr12, hb12⟩
    have HS12 := hide ((unhide HS11).on hb12)
    have HI := hide (unhide HIM w12 _ (unhide HS12).below hr12)
    clear hr12 hb12 HC HS11
    go_wp2_with fail
    refine (unhide HI).mono ?_
    rintro e w13 ⟨r0, r1, r2, gp, op, sp, gq, oq, sq, FH, rfl, ho13, hn13, hF13, hb13⟩
    have HS13 := hide ((unhide HS12).on hb13)
    have hl13 := (unhide HS13).lt
    obtain ⟨⟨e0, e1, e2, e3, e4, e5, e6⟩, -⟩ := (unhide HS13).cells
    simp only at e0 e1 e2 e3 e4 e5 e6
    have hlw : BW < w13.heap.size := by omega
    have hba := (Below.refl w13.heap.size w13).alloc (Nat.le_refl _) (.cells #[.string ty, .int .i64 ver, .int .i64 r0, .int .i64 r1, .string r2, .slice gp op sp, .slice gq oq sq] 34)
    have HS14 := hide ((unhide HS13).on hba)
    have HE := hide (eqEvent_any ty ver t (fun b => b < w13.heap.size) (fun b => b < w13.heap.size) ⟨.int .i64 r0, .int .i64 r1, .string r2, .slice gp op sp, .slice gq oq sq⟩ ⟨.int .i64 y0, .int .i64 y1, .string y2, .slice ap np cp, .slice aq nq cq⟩ _ (fun b hb => by rw [World.size_alloc]; omega) (fun b hb => by rw [World.size_alloc]; omega) (Rep.carry (fun b hb => hba.block b hb) (fun _ h => h) _ _ (Own.rep _ _ _ (fun b hb => (hF13 b hb).2) ho13)) (Own.rep _ _ _ (fun b hb => by have := ((unhide HS14).lW b hb).2; omega) (unhide HS14).oW))
    clear ho13 hn13 hF13 hb13 HI HS12 HS13 hba hl13
    go_wp2_with fail
    refine (unhide HE).mono ?_
    rintro e w15 ⟨rfl, hb15⟩
    have HS15 := hide ((unhide HS14).on hb15)
    have hl15 := (unhide HS15).lt
    obtain ⟨-, f0, f1, f2, f3, f4, f5, f6⟩ := (unhide HS15).cells
    simp only at f0 f1 f2 f3 f4 f5 f6
    have HH := hide (heldEvent_any ty ver t _ _ _ (fun b => b < w15.heap.size) ⟨.int .i64 z0, .int .i64 z1, .string z2, .slice bp mp dp, .slice bq mq dq⟩ 1 w15 (fun b hb => hb) (Own.rep _ _ _ (fun b hb => by have := (unhide HS15).lG b hb; omega) (unhide HS15).oG) (by omega) (by rw [unhide HMM]; exact hmk))
    rw [unhide HMM] at HH
    clear hb15 HE HS14 hl15 e0 e1 e2 e3 e4 e5 e6
    go_wp2_with fail
    refine (unhide HH).mono ?_
    rintro e w16 ⟨rfl, hb16⟩
    have HB16 := hide ((unhide HS15).on hb16).below
    clear hb16 HH HS15 f0 f1 f2 f3 f4 f5 f6
    go_wp2_with fail
    go_ret
    exact ⟨rfl, unhide HB16⟩
  · have hd : decide ((1048576 : Int) < (l.length : Int)) = true := by simp; omega
    go_enter Tryd.func5, Tryd.ntmps5
    go_wp2_with fail
    go_ret
    exact ⟨rfl, Below.refl _ _⟩
end Go.Proofs.YtffdofllebbcgaaDoor

/- What is read of a row of bytes that comes in is one that lies in memory. No conditions. -/

namespace Go.Proofs.YtffdofllebbcgaaDoor
open Go Go.RowKit Go.ChangeShapes Go.WideShapes Go.ChangeAt

theorem cellsU8 : Tryd.prog.cellsOf 5 = 1 := by kernel_rfl

section
variable {H : Type} {enc : TypeId × Value → H} {W : World} {spare : Nat → Bool} {held : Bool}

theorem bytes_of_trod {fuel : Nat} {v : Value} {x : DataW H × List MemPlace} (h : DataW.trod enc Tryd.prog W 0 spare held fuel 38 [v] = some x) :
    ∃ l, BytesAt W v l := by
  rcases open_ints Tryd.underlying38 Tryd.underlying5 cellsU8 h with ⟨hcs, -⟩ | ⟨a, len, cap, zs, hcs, -, hl, hm, hz, -, hcell, hws⟩
  · simp only [List.cons.injEq, and_true] at hcs
    exact ⟨[], none, 0, hcs, by simp, fun i hi => by simp at hi⟩
  · simp only [List.cons.injEq, and_true] at hcs
    have hle : len ≤ zs.length := by rw [hz]; split <;> omega
    unfold maxLen at hm
    have hlen : ((zs.take len).map (fun z => UInt8.ofNat z.toNat)).length = len := by simp; omega
    refine ⟨(zs.take len).map (fun z => UInt8.ofNat z.toNat), some a, cap, by rw [hcs, hlen], by rw [hlen]; omega, fun i hi => ?_⟩
    have hi' : i < len := by rw [hlen] at hi; exact hi
    obtain ⟨b, off, spot⟩ := a
    have hspot : spot = none := by simpa [Addr.add] using World.cell?_spot (hcell 0 (by omega))
    subst hspot
    have hc := hcell i (by omega)
    rw [Addr.add_lit] at hc
    refine ⟨b, off, rfl, World.block_lt_of_cell? W _ hc, ?_⟩
    have hb := bounds_u8 (hws (zs[i]'(by omega)) (List.getElem_mem (by omega)))
    rw [hc]
    have e1 : zs.getD i 0 = zs[i]'(by omega) := by simp [show i < zs.length by omega]
    have e2 : (((zs.take len).map (fun z => UInt8.ofNat z.toNat))[i]'hi) = UInt8.ofNat (zs[i]'(by omega)).toNat := by simp
    rw [e1, e2, show (UInt8.ofNat (zs[i]'(by omega)).toNat).toNat = (zs[i]'(by omega)).toNat from by simp; omega, show (((zs[i]'(by omega)).toNat : Nat) : Int) = zs[i]'(by omega) from by omega]
end
end Go.Proofs.YtffdofllebbcgaaDoor
