/- The walk of the law on LogPlanRead: whatever text comes in, it answers true, and turns nothing that was there. Conditions: strings' bound is some number, strconv's two errors are some errors; the table of powers is as strconv's text lays it. -/
import Derived.Test.YtcnkkegpckibbaaDoorPart12
import Derived.MakeChecks
import Derived.Lib.LaidTab
import Derived.LaidLaws
import Derived.Shelf.Vars
namespace Go.Proofs.YtcnkkegpckibbaaDoor
open Go Go.RowKit

/-- What is read of a text: a plan, and whether it is one's. -/
noncomputable def rdA (X : List UInt8) : Pl × Bool := by
  classical
  exact if ∃ l, RdIs X (some l) then (((foldP ⟨[], 0, 0⟩ (lnsT X)).getD ⟨[], 0, 0⟩), true) else (⟨[], 0, 0⟩, false)
theorem rdA_yes {X : List UInt8} {l : Pl} (h : RdIs X (some l)) : rdA X = (l, true) := by
  unfold rdA
  rw [if_pos ⟨l, h⟩, rd_fold h.1 h.2]
  rfl
theorem rdA_no {X : List UInt8} (h : RdIs X none) : rdA X = (⟨[], 0, 0⟩, false) := by
  unfold rdA
  rw [if_neg]
  rintro ⟨l, h1, h2⟩
  exact h l h1 h2
theorem rdA_few (X : List UInt8) : (rdA X).1.parts.length ≤ 40 := by
  by_cases h : ∃ l, RdIs X (some l)
  · obtain ⟨l, h⟩ := h
    rw [rdA_yes h]; exact h.1.1
  · rw [rdA_no fun l h1 h2 => h ⟨l, h1, h2⟩]; exact Nat.zero_le _
/-- A plan that was read, as one answer. -/
def RdOne (w w' : World) (e : Ending) (p : Pl) (t : Bool) : Prop := ∃ v F, e = .returned (.tuple #[.agg #[v, .int .i64 p.op, .int .i64 p.fi], .bool t]) ∧ PtsOwn w' v p.parts F ∧ (∀ b, b ∈ F → w.heap.size ≤ b ∧ b < w'.heap.size) ∧ Below w.heap.size w w'
theorem RdEnd.one {w w' : World} {e : Ending} {X : List UInt8} (h : RdEnd w w' e X) : RdOne w w' e (rdA X).1 (rdA X).2 := by
  rcases h with ⟨l, v, h1, rfl, ⟨F, h2, h3⟩, h4⟩ | ⟨h1, rfl, h4⟩
  · rw [rdA_yes h1]; exact ⟨v, F, rfl, h2, h3, h4⟩
  · rw [rdA_no h1]; exact ⟨_, [], rfl, FlatOwn.nil _ _, fun b hb => (by cases hb), h4⟩
/-- What the law holds behind both calls: both answers, each in blocks of its own, and their boxes. -/
structure PSt (w wr : World) (P : Pl) (N' : List Pt) (vW vG : Value) (gW gG : Nat) (FW FG : List Nat) : Prop where
  below : Below w.heap.size w wr
  oW : PtsOwn wr vW P.parts FW
  oG : PtsOwn wr vG N' FG
  lW : ∀ b, b ∈ FW → b < wr.heap.size ∧ b ∉ FG
  lG : ∀ b, b ∈ FG → w.heap.size ≤ b ∧ b < wr.heap.size
  bW : wr.rowIs gW 25 3 (row3 vW (.int .i64 P.op) (.int .i64 P.fi))
  bG : wr.rowIs gG 25 3 (row3 vG (.int .i64 P.op) (.int .i64 P.fi))
  nW : gW ∉ FG
  nG : gG ∉ FG
section
variable {w wr w' : World} {P : Pl} {N' : List Pt} {vW vG : Value} {gW gG : Nat} {FW FG : List Nat}
theorem PSt.on (h : PSt w wr P N' vW vG gW gG FW FG) (hb : Below wr.heap.size wr w') : PSt w w' P N' vW vG gW gG FW FG := by
  have hs := hb.size
  exact ⟨h.below.trans (hb.mono h.below.size), h.oW.carry (fun b hm => hb.block b (h.lW b hm).1), h.oG.carry (fun b hm => hb.block b (h.lG b hm).2), fun b hm => ⟨by have := (h.lW b hm).1; omega, (h.lW b hm).2⟩, fun b hm => ⟨(h.lG b hm).1, by have := (h.lG b hm).2; omega⟩, h.bW.of_block (hb.block _ h.bW.lt), h.bG.of_block (hb.block _ h.bG.lt), h.nW, h.nG⟩
theorem eqPlan_own (l : Pl) (v v2 : Value) (F F2 : List Nat) (w : World) (hv : PtsOwn w v l.parts F) (hv2 : PtsOwn w v2 l.parts F2) (hF : ∀ b, b ∈ F → b < w.heap.size) (hF2 : ∀ b, b ∈ F2 → b < w.heap.size) :
    Calls Tryd.prog 12 #[.agg #[v, .int .i64 l.op, .int .i64 l.fi], .agg #[v2, .int .i64 l.op, .int .i64 l.fi]] w fun e w' => e = .returned (.bool true) ∧ Below w.heap.size w w' := by
  obtain ⟨a, cap, rfl, -, -⟩ := hv.at.open
  obtain ⟨a2, cap2, rfl, -, -⟩ := hv2.at.open
  exact eqLogPlan_any l a a2 cap cap2 w hF hF2 hv.at hv2.at
theorem PSt.eq (h : PSt w wr P P.parts vW vG gW gG FW FG) :
    Calls Tryd.prog 12 #[.agg #[vG, .int .i64 P.op, .int .i64 P.fi], .agg #[vW, .int .i64 P.op, .int .i64 P.fi]] wr fun e w' => e = .returned (.bool true) ∧ PSt w w' P P.parts vW vG gW gG FW FG :=
  (eqPlan_own P vG vW FG FW wr h.oG h.oW (fun b hb => (h.lG b hb).2) (fun b hb => (h.lW b hb).1)).mono fun _ _ ⟨h1, h2⟩ => ⟨h1, h.on h2⟩
theorem PSt.mark (h : PSt w wr P N' vW vG gW gG FW FG) (x y : Int) (hl : N'.length ≤ 300000) :
    Calls Tryd.prog 13 #[.agg #[vG, .int .i64 x, .int .i64 y], .int .i64 1] wr fun e w' => e = .returned (.int .i64 (1 + 4 * N'.length : Nat)) ∧ PSt w w' P (mPs 1 N'.length) vW vG gW gG FW FG :=
  (markLogPlan_own vG N' x y FG 1 wr h.oG (fun b hb => (h.lG b hb).2) (by omega)).mono fun _ _ ⟨h1, h2, h3⟩ => by
    have hs := h3.size
    refine ⟨h1, h.below.trans (h3.below h.below.size (fun b hm => by have := (h.lG b hm).1; omega)), h.oW.carry (fun b hm => h3.block b (h.lW b hm).1 (h.lW b hm).2), h2, fun b hm => ⟨by have := (h.lW b hm).1; omega, (h.lW b hm).2⟩, fun b hm => ⟨(h.lG b hm).1, by have := (h.lG b hm).2; omega⟩, h.bW.of_block (h3.block _ h.bW.lt h.nW), h.bG.of_block (h3.block _ h.bG.lt h.nG), h.nW, h.nG⟩
theorem PSt.held {n : Nat} (h : PSt w wr P (mPs 1 n) vW vG gW gG FW FG) (x y : Int) (hl : n ≤ 300000) :
    Calls Tryd.prog 14 #[.agg #[vG, .int .i64 x, .int .i64 y], .int .i64 1] wr fun e w' => e = .returned (.int .i64 (1 + 4 * n : Nat)) ∧ PSt w w' P (mPs 1 n) vW vG gW gG FW FG :=
  (heldLogPlan_any vG n 1 x y wr h.oG.at (fun b hb => (h.lG b hb).2) (by omega)).mono fun _ _ ⟨h1, h2⟩ => ⟨h1, h.on h2⟩
/-- Both boxes, read. -/
theorem PSt.cs (h : PSt w wr P N' vW vG gW gG FW FG) : (wr.cell? ⟨gW, 0, none⟩ = some vW ∧ wr.cell? ⟨gW, 1, none⟩ = some (.int .i64 P.op) ∧ wr.cell? ⟨gW, 2, none⟩ = some (.int .i64 P.fi)) ∧ (wr.cell? ⟨gG, 0, none⟩ = some vG ∧ wr.cell? ⟨gG, 1, none⟩ = some (.int .i64 P.op) ∧ wr.cell? ⟨gG, 2, none⟩ = some (.int .i64 P.fi)) :=
  ⟨⟨h.bW.cell (i := 0) (by omega), h.bW.cell (i := 1) (by omega), h.bW.cell (i := 2) (by omega)⟩, ⟨h.bG.cell (i := 0) (by omega), h.bG.cell (i := 1) (by omega), h.bG.cell (i := 2) (by omega)⟩⟩
end

set_option maxRecDepth 100000 in
set_option maxHeartbeats 3200000 in
theorem lawLogPlanRead_any (s : ByteArray) (hx : s.size ≤ 9223372036854775807) (w : World) (hE : EnvP w) (hG : gTopP ≤ w.heap.size) (htab : Lib.TabIs Tryd.prog w "internal/strconv.uint64pow10" .u64 Lib.pow10Tab) (hglob : 3 < w.heap.size) :
    Calls Tryd.prog 4 #[.string s] w fun e w' => e = .returned (.bool true) ∧ Below w.heap.size w w' := by
  go_enter Tryd.func4, Tryd.ntmps4
  by_cases hs : s.size ≤ 1048576
  case neg =>
    go_wp2_with fail
    go_ret
    exact ⟨rfl, Below.refl _ _⟩
  have HSP := hide ((specLogPlanRead_any s w hs).mono fun _ _ h => RdEnd.one h)
  have HIM : Hid (∀ W, Below w.heap.size w W → Calls Tryd.prog 10 #[.string s] W fun e w' => RdOne W w' e (rdA s.data.toList).1 (rdA s.data.toList).2) := fun W hW =>
    (implLogPlanRead_any s W hs (hE.below hW) (Nat.le_trans hG hW.size) (tab_keep htab (hW.block _ hglob)) (Nat.lt_of_lt_of_le hglob hW.size)).mono fun _ _ h => RdEnd.one h
  have hlen := rdA_few s.data.toList
  generalize (rdA s.data.toList).1 = P at *
  generalize (rdA s.data.toList).2 = T at *
  have hlen : P.parts.length ≤ 300000 := by omega
  clear hE hG htab hglob
  go_wp2_with fail
  refine (unhide HSP).mono ?_
  rintro e w1 ⟨vW, FW, rfl, hoW, hlW, hb1⟩
  have hs1 := hb1.size
  obtain ⟨aW, cW, rfl, -, -⟩ := hoW.at.open
  have hBA : ∀ o, Below w.heap.size w (w1.alloc o) := fun o => hb1.alloc hs1 o
  have HIM1 : Hid (∀ o, Calls Tryd.prog 10 #[.string s] (w1.alloc o) fun e w' => RdOne (w1.alloc o) w' e P T) := fun o => unhide HIM _ (hBA o)
  have HBA := hide hBA
  have HRW := hide (row3_alloc w1 (.slice aW P.parts.length cW) (.int .i64 P.op) (.int .i64 P.fi) 25)
  have HOW := hide hoW; have HLW := hide hlW
  clear hoW hlW hb1 HSP hBA
  go_wp2_with fail
  refine (unhide HIM1 _).mono ?_
  rintro e w2 ⟨vG, FG, rfl, hoG, hlG, hb2⟩
  have hs2 := hb2.size
  rw [World.size_alloc] at hs2
  obtain ⟨aG, cG, rfl, -, -⟩ := hoG.at.open
  have hst : PSt w (w2.alloc (.cells #[.slice aG P.parts.length cG, .int .i64 P.op, .int .i64 P.fi] 25)) P P.parts (.slice aW P.parts.length cW) (.slice aG P.parts.length cG) w1.heap.size w2.heap.size FW FG := by
    have hbb : Below w.heap.size w w2 := (unhide HBA _).trans (hb2.mono (unhide HBA _).size)
    have hbw := hbb.size
    refine ⟨hbb.alloc hbw _, ((unhide HOW).carry (fun b hm => ?_)), hoG.carry (fun b hm => Below.heap_alloc _ _ _ (hlG b hm).2), fun b hm => ⟨?_, fun hm2 => ?_⟩, fun b hm => ⟨?_, ?_⟩, ?_, row3_alloc _ _ _ _ _, fun hm => ?_, fun hm => ?_⟩
    · have h1 := (unhide HLW b hm).2
      rw [Below.heap_alloc _ _ _ (by omega), hb2.block b (by rw [World.size_alloc]; omega), Below.heap_alloc _ _ _ h1]
    · have := (unhide HLW b hm).2; rw [World.size_alloc]; omega
    · have := (unhide HLW b hm).2; have := (hlG b hm2).1; rw [World.size_alloc] at this; omega
    · have := (hlG b hm).1; rw [World.size_alloc] at this; omega
    · have := (hlG b hm).2; rw [World.size_alloc]; omega
    · exact ((unhide HRW).of_block (hb2.block _ (by rw [World.size_alloc]; omega))).alloc _
    · have := (hlG _ hm).1; rw [World.size_alloc] at this; omega
    · have := (hlG _ hm).2; omega
  have HST := hide hst
  clear hst hoG hlG hb2 HOW HLW HBA HIM1 HRW
  go_upto_region 5 with fail
  generalize w2.alloc (.cells #[.slice aG P.parts.length cG, .int .i64 P.op, .int .i64 P.fi] 25) = W2 at HST ⊢
  obtain ⟨⟨a0, a1, a2⟩, ⟨b0, b1, b2⟩⟩ := (unhide HST).cs
  have HEQ := hide (unhide HST).eq
  clear HST
  go_wp2_with fail
  refine (unhide HEQ).mono ?_
  rintro e w3 ⟨rfl, hst3⟩
  clear a0 a1 a2 b0 b1 b2 HEQ
  obtain ⟨-, ⟨b0, b1, b2⟩⟩ := hst3.cs
  have HMK := hide (hst3.mark P.op P.fi hlen)
  clear hst3
  go_wp2_with fail
  refine (unhide HMK).mono ?_
  rintro e w4 ⟨rfl, hst4⟩
  clear b0 b1 b2 HMK
  obtain ⟨-, ⟨b0, b1, b2⟩⟩ := hst4.cs
  have HHT := hide (hst4.held P.op P.fi hlen)
  clear hst4
  generalize hmt : 1 + 4 * P.parts.length = mt at *
  have hmt1 : 1 ≤ mt := by omega
  have hmt2 : mt ≤ 1200001 := by omega
  have HME := hide hmt
  clear hmt
  go_wp2_with fail
  refine (unhide HHT).mono ?_
  rintro e w5 ⟨rfl, hst5⟩
  clear b0 b1 b2 HHT
  have HST5 := hide hst5
  have HIM2 := hide (unhide HIM w5 hst5.below)
  clear hst5 HIM
  go_wp2_with fail
  refine (unhide HIM2).mono ?_
  rintro e w6 ⟨vH, FH, rfl, hoH, hlH, hb6⟩
  obtain ⟨aH, cH, rfl, -, -⟩ := hoH.at.open
  have hs6 := hb6.size
  have hst6 := ((unhide HST5).on hb6)
  have hbA : ∀ o, Below w6.heap.size w6 (w6.alloc o) := fun o => (Below.refl _ _).alloc (Nat.le_refl _) o
  have HST6 : Hid (∀ o, PSt w (w6.alloc o) P (mPs 1 P.parts.length) (.slice aW P.parts.length cW) (.slice aG P.parts.length cG) w1.heap.size w2.heap.size FW FG) := fun o => hst6.on (hbA o)
  have HEQ : Hid (∀ o, Calls Tryd.prog 12 #[.agg #[.slice aH P.parts.length cH, .int .i64 P.op, .int .i64 P.fi], .agg #[.slice aW P.parts.length cW, .int .i64 P.op, .int .i64 P.fi]] (w6.alloc o) fun e w' => e = .returned (.bool true) ∧ Below (w6.alloc o).heap.size (w6.alloc o) w') := fun o =>
    eqPlan_own P _ _ FH FW (w6.alloc o) (hoH.carry fun b hb => Below.heap_alloc _ _ _ (hlH b hb).2) ((hst6.on (hbA o)).oW) (fun b hb => by have := (hlH b hb).2; rw [World.size_alloc]; omega) (fun b hb => ((hst6.on (hbA o)).lW b hb).1)
  have hrH := row3_alloc w6 (.slice aH P.parts.length cH) (.int .i64 P.op) (.int .i64 P.fi) 25
  have HRH := hide hrH
  clear hoH hlH hb6 hst6 HST5 hbA HIM2 hrH
  go_upto_region 16 with fail
  have hst7 := unhide HST6 (.cells #[.slice aH P.parts.length cH, .int .i64 P.op, .int .i64 P.fi] 25)
  have HEQ7 := hide (unhide HEQ (.cells #[.slice aH P.parts.length cH, .int .i64 P.op, .int .i64 P.fi] 25))
  generalize w6.alloc (.cells #[.slice aH P.parts.length cH, .int .i64 P.op, .int .i64 P.fi] 25) = W7 at hst7 HEQ7 HRH ⊢
  obtain ⟨⟨a0, a1, a2⟩, -⟩ := hst7.cs
  have c0 := (unhide HRH).cell (i := 0) (by omega); have c1 := (unhide HRH).cell (i := 1) (by omega); have c2 := (unhide HRH).cell (i := 2) (by omega)
  simp only [row3] at c0 c1 c2
  have HST7 := hide hst7
  clear hst7 HST6 HEQ HRH
  go_wp2_with fail
  refine (unhide HEQ7).mono ?_
  rintro e w8 ⟨rfl, hb8⟩
  have hst8 := (unhide HST7).on hb8
  clear a0 a1 a2 c0 c1 c2 HEQ7 HST7 hb8
  obtain ⟨-, ⟨b0, b1, b2⟩⟩ := hst8.cs
  have hht := hst8.held P.op P.fi hlen
  rw [unhide HME] at hht
  have HHT := hide hht
  clear hst8 hht
  go_wp2_with fail
  refine (unhide HHT).mono ?_
  rintro e w9 ⟨rfl, hst9⟩
  have HB := hide hst9.below
  clear hst9 HHT b0 b1 b2
  go_wp2_with fail
  go_ret
  exact ⟨rfl, unhide HB⟩
end Go.Proofs.YtcnkkegpckibbaaDoor

/- What strings and strconv read, off what the row lists of it and off the world's shape. No conditions. -/

namespace Go.Proofs.YtcnkkegpckibbaaDoor
open Go Go.RowKit

theorem gPowTypeP : (Tryd.prog.globals[3]?).map (·.type) = some 117 := by kernel_rfl
theorem gSynP : Tryd.prog.globalNamed "strconv.ErrSyntax" = some 1 := by kernel_rfl
theorem gSynTypeP : (Tryd.prog.globals[1]?).map (·.type) = some 71 := by kernel_rfl
theorem gRngP : Tryd.prog.globalNamed "strconv.ErrRange" = some 2 := by kernel_rfl
theorem gRngTypeP : (Tryd.prog.globals[2]?).map (·.type) = some 71 := by kernel_rfl
theorem cellsU64P : Tryd.prog.cellsOf 86 = 1 := by kernel_rfl
theorem cellsPowP : Tryd.prog.cellsOf 117 = 20 := by kernel_rfl
theorem powDataP : (Rows.laid_internal_strconv_uint64pow10 : DataW Unit) = Lib.tabData .u64 Lib.pow10Tab := by rfl

set_option maxRecDepth 100000 in
theorem envP_of_laid {W : World} (h : laidMetH Tryd.prog [("math/bits.deBruijn32tab", Rows.laid_math_bits_deBruijn32tab), ("math/bits.deBruijn64tab", Rows.laid_math_bits_deBruijn64tab), ("internal/strconv.uint64pow10", Rows.laid_internal_strconv_uint64pow10), ("strconv.ErrRange", Rows.laid_strconv_ErrRange), ("strconv.ErrSyntax", Rows.laid_strconv_ErrSyntax)] W) (hsh : W.ShapedOpen Tryd.prog) : EnvP W ∧ gTopP ≤ W.heap.size ∧ Lib.TabIs Tryd.prog W "internal/strconv.uint64pow10" .u64 Lib.pow10Tab ∧ 3 < W.heap.size := by
  rw [MakeChecks.laidMetH_plain _ _ _ (by kernel_rfl)] at h
  obtain ⟨ps, ⟨g0, t0, cs0, f0, p0, q0, -, -, -, -, ⟨g1, t1, cs1, f1, p1, q1, -, -, -, -, ⟨g2, t2, cs2, f2, p2, q2, hg2, ht2, hv2, hd2, ⟨g3, t3, cs3, f3, p3, q3, hg3, ht3, hv3, hd3, ⟨g4, t4, cs4, f4, p4, q4, hg4, ht4, hv4, hd4, _, _⟩, _⟩, _⟩, _⟩, _⟩, _, _⟩ := h
  obtain rfl := Option.some.inj (gPowL.symm.trans hg2)
  obtain rfl := Option.some.inj (gPowTypeP.symm.trans ht2)
  obtain rfl := Option.some.inj (gRngP.symm.trans hg3)
  obtain rfl := Option.some.inj (gRngTypeP.symm.trans ht3)
  obtain rfl := Option.some.inj (gSynP.symm.trans hg4)
  obtain rfl := Option.some.inj (gSynTypeP.symm.trans ht4)
  have ht : Lib.TabIs Tryd.prog W "internal/strconv.uint64pow10" .u64 Lib.pow10Tab := by
    rw [powDataP] at hd2
    unfold Lib.TabIs
    rw [hv2, ← Lib.cells_of_tab Tryd.underlying117 Tryd.underlying86 cellsU64P cellsPowP hd2]
  have hmax := cell_of_shapedOpen_int (P := Tryd.prog) (g := 0) (t := 3) (zero := #[.int .i64 0]) hsh (of_decide_eq_true (by kernel_rfl)) (by kernel_rfl) rfl (by kernel_rfl) (by kernel_rfl) Tryd.underlying3
  have hsyn : ∃ ev, W.cell? ⟨1, 0, none⟩ = some ev ∧ (ev = .nilIface ∨ ∃ te pe, ev = .iface te pe) := by
    obtain ⟨f', u, v, hc, -, -⟩ := iface_of_trod Tryd.underlying71 hd4
    refine ⟨.iface u v, ?_, Or.inr ⟨u, v, rfl⟩⟩
    have h0 := World.var?_cell hg4 hv4 0
    rw [h0]
    obtain ⟨l⟩ := cs4
    simp only at hc
    subst hc
    rfl
  have hrng : ∃ ev, W.cell? ⟨2, 0, none⟩ = some ev ∧ (ev = .nilIface ∨ ∃ te pe, ev = .iface te pe) := by
    obtain ⟨f', u, v, hc, -, -⟩ := iface_of_trod Tryd.underlying71 hd3
    refine ⟨.iface u v, ?_, Or.inr ⟨u, v, rfl⟩⟩
    have h0 := World.var?_cell hg3 hv3 0
    rw [h0]
    obtain ⟨l⟩ := cs3
    simp only at hc
    subst hc
    rfl
  refine ⟨⟨hmax, hsyn, hrng⟩, ?_, ht, ?_⟩
  · obtain ⟨m, hm⟩ := hmax
    obtain ⟨e1, hs1, -⟩ := hsyn
    obtain ⟨e2, hs2, -⟩ := hrng
    have l1 := World.block_lt_of_cell? W _ hm
    have l2 := World.block_lt_of_cell? W _ hs1
    have l3 := World.block_lt_of_cell? W _ hs2
    simp only at l1 l2 l3
    unfold gTopP
    omega
  · have hp := ht
    unfold Lib.TabIs World.var? at hp
    rw [gPowL] at hp
    simp only [Option.bind_some] at hp
    rcases Nat.lt_or_ge 3 W.heap.size with h' | h'
    · exact h'
    · rw [Array.getElem?_eq_none h'] at hp; cases hp
end Go.Proofs.YtcnkkegpckibbaaDoor
