/- The walk of the law on plans that are torn: whatever bytes come in, it answers true, and turns nothing that was there. Conditions: strings' bound is some number, strconv's two errors are some errors; the table of powers is as strconv's text lays it. -/
import Derived.Test.YtcnkkegpckibbaaDoorPart09
import Derived.Test.YtcnkkegpckibbaaDoorPart12
import Derived.BigQuiet
import Derived.MakeChecks
import Derived.Lib.LaidTab
import Derived.LaidLaws
import Derived.Shelf.Vars
import Derived.Test.YtcnkkegpckibbaaDoorRows
import Derived.ProofKit
import Derived.OpenShut
namespace Go.Proofs.YtcnkkegpckibbaaDoor
open Go Go.RowKit

/-- The plan that was drawn, in its box. -/
structure L47 (w W : World) (g : Nat) (P : Pl) (a : Option Addr) (c : Nat) (F : List Nat) : Prop where
  below : Below w.heap.size w W
  b3 : W.rowIs g 25 3 (row3 (.slice a P.parts.length c) (.int .i64 P.op) (.int .i64 P.fi))
  own : FlatOwn W (.slice a P.parts.length c) 4 (P.parts.map Pt.cs) F
  lt : ∀ b, b ∈ F → b < W.heap.size
section
variable {w W W' : World} {g : Nat} {P : Pl} {a : Option Addr} {c : Nat} {F : List Nat}
theorem L47.on (h : L47 w W g P a c F) (hb : Below W.heap.size W W') : L47 w W' g P a c F :=
  ⟨h.below.trans (hb.mono h.below.size), h.b3.of_block (hb.block _ h.b3.lt), FlatOwn.carry h.own (fun b hF => hb.block b (h.lt b hF)), fun b hF => Nat.lt_of_lt_of_le (h.lt b hF) hb.size⟩
theorem L47.al (h : L47 w W g P a c F) (o : Obj) : L47 w (W.alloc o) g P a c F := h.on ((Below.refl _ _).alloc (Nat.le_refl _) o)
theorem L47.cs (h : L47 w W g P a c F) : W.cell? ⟨g, 0, none⟩ = some (.slice a P.parts.length c) ∧ W.cell? ⟨g, 1, none⟩ = some (.int .i64 P.op) ∧ W.cell? ⟨g, 2, none⟩ = some (.int .i64 P.fi) :=
  ⟨h.b3.cell (i := 0) (by omega), h.b3.cell (i := 1) (by omega), h.b3.cell (i := 2) (by omega)⟩
end
theorem ret_cases {e : Ending} {p : Prop} (h : RetOk e p) : (p ∧ e = .returned (.bool true)) ∨ (¬ p ∧ e = .returned (.bool false)) := by
  obtain ⟨r, h1, h2⟩ := h
  rcases Bool.eq_false_or_eq_true r with hr | hr
  · subst hr; exact Or.inl ⟨h2.1 rfl, h1⟩
  · subst hr; exact Or.inr ⟨fun h => (by have := h2.2 h; cases this), h1⟩
theorem tdiv60 (n : Nat) (h : n ≤ 20000) : ∃ q : Nat, ((n : Int)).tdiv 60 = (q : Int) ∧ q ≤ 334 := ⟨n / 60, by rw [Int.tdiv_eq_ediv_of_nonneg (by omega)]; omega, by omega⟩
theorem plW_size {l : Pl} (h : plOk l) : (plW l).size ≤ 20000 ∧ 4 ≤ (plW l).size ∧ (plW l).data.toList = plT l := by
  rw [plW_yes h]
  have h1 := plT_short h
  obtain ⟨A, hA, -⟩ := plT_form h
  have h2 : 4 ≤ (plT l).length := by rw [hA]; simp
  exact ⟨by simpa [ByteArray.size] using h1, by simpa [ByteArray.size] using h2, rfl⟩
/-- What is read of a torn text. -/
theorem rdA_torn {l : Pl} (h : plOk l) {T : ByteArray} (hT : T.data.toList = plT l) {n : Nat} (hn : n < T.size) : (T.extract 0 n).size ≤ T.size ∧ rdA (T.extract 0 n).data.toList = (⟨[], 0, 0⟩, false) := by
  have hs : T.data.toList.length = T.size := by rw [Array.length_toList]; rfl
  refine ⟨by rw [ByteArray.size_extract]; omega, ?_⟩
  rw [ext_list, List.drop_zero, Nat.sub_zero, hT]
  exact rdA_no (plT_torn h (by rw [← hT, hs]; exact hn))
set_option maxRecDepth 100000 in
set_option maxHeartbeats 3200000 in
theorem lawLogPlan_any (w : World) (a0 : Option Addr) (cap0 : Nat) (bl : List UInt8) (hv : BytesAt w (.slice a0 bl.length cap0) bl) (hcap : bl.length ≤ cap0) (hbl : bl.length ≤ 9223372036854775807) (hE : EnvP w) (hG : gTopP ≤ w.heap.size) (htab : Lib.TabIs Tryd.prog w "internal/strconv.uint64pow10" .u64 Lib.pow10Tab) (hglob : 3 < w.heap.size) :
    Calls Tryd.prog 3 #[.slice a0 bl.length cap0] w fun e w' => e = .returned (.bool true) ∧ Below w.heap.size w w' := by
  go_enter Tryd.func3, Tryd.ntmps3
  by_cases hs : bl.length ≤ 1048576
  case neg =>
    have hbq : decide ((1048576 : Int) < (bl.length : Int)) = true := decide_eq_true (by omega)
    go_wp2_with fail
    go_ret
    exact ⟨rfl, Below.refl _ _⟩
  have hbq : decide ((1048576 : Int) < (bl.length : Int)) = false := decide_eq_false (by omega)
  have HDR := hide (drawLogPlanWrite_any w a0 cap0 bl hv hcap)
  have HIM : Hid (∀ (W : World) (X : ByteArray), Below w.heap.size w W → X.size ≤ 1048576 → Calls Tryd.prog 10 #[.string X] W fun e w' => RdOne W w' e (rdA X.data.toList).1 (rdA X.data.toList).2) := fun W X hW hX =>
    (implLogPlanRead_any X W hX (hE.below hW) (Nat.le_trans hG hW.size) (tab_keep htab (hW.block _ hglob)) (Nat.lt_of_lt_of_le hglob hW.size)).mono fun _ _ h => RdEnd.one h
  have HIW : Hid (∀ (W : World) (l : Pl) (P : Nat → Prop) (v : Value), Below w.heap.size w W → (∀ b, P b → b < W.heap.size) → PtsAt P W v l.parts → Calls Tryd.prog 8 #[.agg #[v, .int .i64 l.op, .int .i64 l.fi]] W fun e w' => e = .returned (.string (plW l)) ∧ Below W.heap.size W w') := fun W l P v hW hP hv =>
    implLogPlanWrite_any l P v W hP hv (tab_keep htab (hW.block _ hglob)) (Nat.lt_of_lt_of_le hglob hW.size)
  clear hv hE hG htab hglob
  go_wp2_with fail
  refine (unhide HDR).mono ?_
  rintro e w1 ⟨P, a, c, F, rfl, -, ho, hF, hb1⟩
  have hst : ∀ o, o = Obj.cells #[.slice a P.parts.length c, .int .i64 P.op, .int .i64 P.fi] 25 → L47 w (w1.alloc o) w1.heap.size P a c F := fun o he => by
    subst he
    exact ⟨hb1.alloc hb1.size _, row3_alloc _ _ _ _ _, FlatOwn.carry ho (fun b hb => Below.heap_alloc _ _ _ (hF b hb).2), fun b hb => by have := (hF b hb).2; rw [World.size_alloc]; omega⟩
  have HST := hide (hst _ rfl)
  clear hst ho hF hb1 HDR
  go_upto_region 4 with fail
  generalize w1.alloc (.cells #[.slice a P.parts.length c, .int .i64 P.op, .int .i64 P.fi] 25) = W1 at HST ⊢
  generalize w1.heap.size = g at HST ⊢
  have h1 := unhide HST
  obtain ⟨c0, c1, c2⟩ := h1.cs
  clear HST
  have H1 := hide h1
  clear h1
  go_wp2_with fail
  refine (specLogPlanWrite_any P _ (.slice a P.parts.length c) _ (fun b hb => (unhide H1).lt b hb) (FlatOwn.at (unhide H1).own)).mono ?_
  rintro e w2 ⟨rfl, hb2⟩
  have h2 := (unhide H1).on hb2
  clear c0 c1 c2 H1 hb2
  obtain ⟨c0, c1, c2⟩ := h2.cs
  have H2 := hide h2
  clear h2
  go_wp2_with fail
  refine (specLogPlanOk_any P _ (.slice a P.parts.length c) _ (fun b hb => (unhide H2).lt b hb) (FlatOwn.at (unhide H2).own)).mono ?_
  rintro e w3 ⟨hre, hb3⟩
  have h3 := (unhide H2).on hb3
  clear c0 c1 c2 H2 hb3
  obtain ⟨c0, c1, c2⟩ := h3.cs
  have H3 := hide h3
  clear h3
  rcases ret_cases hre with ⟨hok, rfl⟩ | ⟨hok, rfl⟩
  · have HOK := hide hok
    clear hre hok
    go_wp2_with fail
    refine (unhide HIW _ P _ (.slice a P.parts.length c) (unhide H3).below (fun b hb => (unhide H3).lt b hb) (FlatOwn.at (unhide H3).own)).mono ?_
    rintro e w4 ⟨rfl, hb4⟩
    have h4 := (unhide H3).on hb4
    clear c0 c1 c2 H3 hb4
    obtain ⟨c0, c1, c2⟩ := h4.cs
    have H4 := hide h4
    clear h4
    obtain ⟨hT1, hT2, hT3⟩ := plW_size (unhide HOK)
    have HTT := hide hT3
    have HIW2 : Hid (∀ (W : World) (Pq : Nat → Prop) (v : Value), Below w.heap.size w W → (∀ b, Pq b → b < W.heap.size) → PtsAt Pq W v P.parts → Calls Tryd.prog 8 #[.agg #[v, .int .i64 P.op, .int .i64 P.fi]] W fun e w' => e = .returned (.string (plW P)) ∧ Below W.heap.size W w') := fun W Pq v h1 h2 h3 => unhide HIW W P Pq v h1 h2 h3
    have HRD := hide (rdA_yes (X := (plW P).data.toList) ⟨unhide HOK, hT3.symm⟩)
    generalize plW P = T at *
    clear hT3 HIW
    go_wp2_with fail
    refine (implLogPlanOk_any P _ (.slice a P.parts.length c) _ (fun b hb => (unhide H4).lt b hb) (FlatOwn.at (unhide H4).own)).mono ?_
    rintro e w5 ⟨hre, hb5⟩
    rcases ret_cases hre with ⟨-, rfl⟩ | ⟨hno, rfl⟩
    case inr => exact absurd (unhide HOK) hno
    have h5 := (unhide H4).on hb5
    clear c0 c1 c2 H4 hb5 hre
    obtain ⟨c0, c1, c2⟩ := h5.cs
    have H5 := hide h5
    clear h5
    have HIM5 := unhide HIM w5 T (unhide H5).below (by omega)
    rw [unhide HRD] at HIM5
    have HI5 := hide HIM5
    clear HIM5 HRD
    go_wp2_with fail
    refine (unhide HI5).mono ?_
    rintro e w6 ⟨vX, FX, rfl, hoX, hlX, hb6⟩
    obtain ⟨aX, cX, rfl, -, -⟩ := hoX.at.open
    have HST : Hid (L47 w (w6.alloc (.cells #[.slice aX P.parts.length cX, .int .i64 P.op, .int .i64 P.fi] 25)) g P a c F ∧ L47 w (w6.alloc (.cells #[.slice aX P.parts.length cX, .int .i64 P.op, .int .i64 P.fi] 25)) w6.heap.size P aX cX FX) := by
      have h6 := (unhide H5).on hb6
      exact ⟨h6.al _, ⟨(h6.al _).below, row3_alloc _ _ _ _ _, FlatOwn.carry hoX (fun b hb => Below.heap_alloc _ _ _ (hlX b hb).2), fun b hb => by have := (hlX b hb).2; rw [World.size_alloc]; omega⟩⟩
    clear hoX hlX hb6 HI5 H5 c0 c1 c2
    go_upto_region 12 with fail
    generalize w6.alloc (.cells #[.slice aX P.parts.length cX, .int .i64 P.op, .int .i64 P.fi] 25) = W7 at HST ⊢
    generalize w6.heap.size = g7 at HST ⊢
    obtain ⟨⟨c0, c1, c2⟩, ⟨d0, d1, d2⟩⟩ := (⟨HST.out.1.cs, HST.out.2.cs⟩ : _ ∧ _)
    have hbig : decide ((20000 : Int) < (T.size : Int)) = false := decide_eq_false (by omega)
    go_wp2_with fail
    refine (unhide HIW2 _ _ (.slice aX P.parts.length cX) HST.out.1.below (fun b hb => HST.out.2.lt b hb) (FlatOwn.at HST.out.2.own)).mono ?_
    rintro e w8 ⟨rfl, hb8⟩
    have HS8 := hide (show L47 w w8 g P a c F ∧ L47 w w8 g7 P aX cX FX from ⟨HST.out.1.on hb8, HST.out.2.on hb8⟩)
    clear c0 c1 c2 d0 d1 d2 HST hb8 HIW2
    obtain ⟨⟨c0, c1, c2⟩, ⟨d0, d1, d2⟩⟩ := (⟨(unhide HS8).1.cs, (unhide HS8).2.cs⟩ : _ ∧ _)
    go_wp2_with fail
    clear c0 c1 c2 d0 d1 d2
    go_loopw [9] (fun vi wr => ∃ i : Nat, i ≤ P.parts.length ∧ vi = .int .i64 i ∧ Hid (L47 w wr g P a c F) ∧ Hid (L47 w wr g7 P aX cX FX)) (fun vi _ => P.parts.length - (intOf vi).toNat)
    case atStart => exact ⟨0, Nat.zero_le _, rfl, (unhide HS8).1, (unhide HS8).2⟩
    case round =>
      clear HS8
      obtain ⟨i, hi, rfl, HA, HX⟩ := hrel
      have h40 : P.parts.length ≤ 40 := (unhide HOK).1
      obtain ⟨c0, c1, c2⟩ := HA.out.cs
      obtain ⟨d0, d1, d2⟩ := HX.out.cs
      by_cases hlt : i < P.parts.length
      · obtain ⟨a', c', e1, -, hcA⟩ := PtsAt.open (FlatOwn.at HA.out.own)
        obtain ⟨a2', c2', e2, -, hcX⟩ := PtsAt.open (FlatOwn.at HX.out.own)
        simp only [Value.slice.injEq, true_and] at e1 e2
        obtain ⟨rfl, rfl⟩ := e1
        obtain ⟨rfl, rfl⟩ := e2
        obtain ⟨bA, oA, rfl, -, ⟨x0, x1, x2, x3⟩⟩ := hcA i hlt
        obtain ⟨bX, oX, rfl, -, ⟨y0, y1, y2, y3⟩⟩ := hcX i hlt
        generalize P.parts[i] = pt at x0 x1 x2 x3 y0 y1 y2 y3
        have hnp := nPart pt.num pt.first pt.next pt.size
        have hgp := fun (x y : Operand) => gPart x y pt.num pt.first pt.next pt.size pt.num pt.first pt.next pt.size
        have hlti : (i : Int) < (P.parts.length : Int) := by omega
        clear hcA hcX
        go_upto_region 17 with fail
        go_quiet (fail)
        go_wp2_with fail
        go_roundw
        case rel => exact ⟨i + 1, by omega, by go_num, HA.out.on ⟨rfl, rfl, rfl, Nat.le_refl _, fun _ _ => rfl⟩, HX.out.on ⟨rfl, rfl, rfl, Nat.le_refl _, fun _ _ => rfl⟩⟩
        case measure => simp [intOf]; omega
      · have HBW := hide HA.out.below
        have hnlt : ¬ ((i : Int) < (P.parts.length : Int)) := by omega
        have HTR : Hid (∀ (W : World) (n : Nat), Below w.heap.size w W → n < T.size → Calls Tryd.prog 10 #[.string (T.extract 0 n)] W fun e w' => ∃ v, e = .returned (.tuple #[.agg #[v, .int .i64 0, .int .i64 0], .bool false]) ∧ (∃ a c, v = .slice a 0 c) ∧ Hid (Below w.heap.size w w')) := fun W n hW hn => by
          obtain ⟨r1, r2⟩ := rdA_torn (unhide HOK) (unhide HTT) hn
          have := unhide HIM W (T.extract 0 n) hW (by omega)
          rw [r2] at this
          refine this.mono ?_
          rintro e w' ⟨v, F', rfl, ho, -, hb⟩
          obtain ⟨a', c', rfl, -, -⟩ := ho.at.open
          exact ⟨_, rfl, ⟨a', c', rfl⟩, hW.trans (hb.mono hW.size)⟩
        obtain ⟨q, hq, hq1⟩ := tdiv60 T.size hT1
        clear HA HX HIM HOK HTT c1 c2 d0 d1 d2
        go_wp2_with fail
        clear c0
        go_loopw [10] (fun vc wr => ∃ c : Nat, c ≤ 30000 ∧ vc = .int .i64 c ∧ Hid (Below w.heap.size w wr)) (fun vc _ => 40000 - (intOf vc).toNat)
        case atStart => exact ⟨0, by omega, rfl, unhide HBW⟩
        case round =>
          clear HBW
          obtain ⟨n, hn, rfl, HB⟩ := hrel
          by_cases hlt2 : n < T.size
          · have hlt3 : (n : Int) < (T.size : Int) := by omega
            have hle3 : (n : Int) ≤ (T.size : Int) := by omega
            have HC := hide (unhide HTR wr n HB.out hlt2)
            go_wp2_with fail
            refine (unhide HC).mono ?_
            rintro e w9 ⟨v9, rfl, ⟨a9, c9, rfl⟩, HB9⟩
            have hs9 := HB9.out.size
            have HBA := hide (fun o => HB9.out.alloc hs9 o)
            clear HC HB
            go_wp2_with fail
            go_roundw
            case rel => exact ⟨n + 1 + q, by omega, by go_num, unhide HBA _⟩
            case measure => simp [intOf]; omega
          · have hlt3 : ¬ ((n : Int) < (T.size : Int)) := by omega
            obtain ⟨m, hm⟩ : ∃ m : Nat, T.size = m + 1 := ⟨T.size - 1, by omega⟩
            have hm2 : (T.size : Int) - 1 = (m : Int) := by omega
            have hm3 : (m : Int) ≤ (T.size : Int) := by omega
            have HC := hide (unhide HTR wr m HB.out (by omega))
            clear hm
            go_wp2_with fail
            refine (unhide HC).mono ?_
            rintro e w9 ⟨v9, rfl, ⟨a9, c9, rfl⟩, HB9⟩
            have hs9 := HB9.out.size
            have HBA := hide (fun o => HB9.out.alloc hs9 o)
            clear HC HB
            go_wp2_with fail
            go_ret
            exact ⟨rfl, unhide HBA _⟩
  · have HNO := hide hok
    clear hre hok
    go_wp2_with fail
    refine (unhide HIW _ P _ (.slice a P.parts.length c) (unhide H3).below (fun b hb => (unhide H3).lt b hb) (FlatOwn.at (unhide H3).own)).mono ?_
    rintro e w4 ⟨rfl, hb4⟩
    have h4 := (unhide H3).on hb4
    clear c0 c1 c2 H3 hb4
    obtain ⟨c0, c1, c2⟩ := h4.cs
    have H4 := hide h4
    clear h4
    have hpw := plW_no (unhide HNO)
    rw [hpw]
    clear hpw
    go_wp2_with fail
    refine (implLogPlanOk_any P _ (.slice a P.parts.length c) _ (fun b hb => (unhide H4).lt b hb) (FlatOwn.at (unhide H4).own)).mono ?_
    rintro e w5 ⟨hre, hb5⟩
    rcases ret_cases hre with ⟨hyes, rfl⟩ | ⟨-, rfl⟩
    case inl => exact absurd hyes (unhide HNO)
    have h5 := (unhide H4).on hb5
    have HB := hide h5.below
    clear c0 c1 c2 H4 hb5 hre h5
    go_wp2_with fail
    go_ret
    exact ⟨rfl, unhide HB⟩
end Go.Proofs.YtcnkkegpckibbaaDoor

/- What strings and strconv read, off what the row lists of it and off the world's shape. No conditions. -/

namespace Go.Proofs.YtcnkkegpckibbaaDoor
open Go Go.RowKit

theorem gPowTypeP : (Tryd.prog.globals[3]?).map (·.type) = some 117 := by kernel_rfl
theorem gSynP : Tryd.prog.globalNamed "strconv.ErrSyntax" = some 1 := by kernel_rfl
theorem gSynTypeP : (Tryd.prog.globals[1]?).map (·.type) = some 71 := by kernel_rfl
theorem gRngP : Tryd.prog.globalNamed "strconv.ErrRange" = some 2 := by kernel_rfl
theorem gRngTypeP : (Tryd.prog.globals[2]?).map (·.type) = some 71 := by kernel_rfl
theorem cellsU64P : Tryd.prog.cellsOf 86 = 1 := by kernel_rfl
theorem cellsPowP : Tryd.prog.cellsOf 117 = 20 := by kernel_rfl
theorem powDataP : (Rows.laid_internal_strconv_uint64pow10 : DataW Unit) = Lib.tabData .u64 Lib.pow10Tab := by rfl

set_option maxRecDepth 100000 in
theorem envP_of_laid {W : World} (h : laidMetH Tryd.prog [("math/bits.deBruijn32tab", Rows.laid_math_bits_deBruijn32tab), ("math/bits.deBruijn64tab", Rows.laid_math_bits_deBruijn64tab), ("internal/strconv.uint64pow10", Rows.laid_internal_strconv_uint64pow10), ("strconv.ErrRange", Rows.laid_strconv_ErrRange), ("strconv.ErrSyntax", Rows.laid_strconv_ErrSyntax)] W) (hsh : W.ShapedOpen Tryd.prog) : EnvP W ∧ gTopP ≤ W.heap.size ∧ Lib.TabIs Tryd.prog W "internal/strconv.uint64pow10" .u64 Lib.pow10Tab ∧ 3 < W.heap.size := by
  rw [MakeChecks.laidMetH_plain _ _ _ (by kernel_rfl)] at h
  obtain ⟨ps, ⟨g0, t0, cs0, f0, p0, q0, -, -, -, -, ⟨g1, t1, cs1, f1, p1, q1, -, -, -, -, ⟨g2, t2, cs2, f2, p2, q2, hg2, ht2, hv2, hd2, ⟨g3, t3, cs3, f3, p3, q3, hg3, ht3, hv3, hd3, ⟨g4, t4, cs4, f4, p4, q4, hg4, ht4, hv4, hd4, _, _⟩, _⟩, _⟩, _⟩, _⟩, _, _⟩ := h
  obtain rfl := Option.some.inj (gPowL.symm.trans hg2)
  obtain rfl := Option.some.inj (gPowTypeP.symm.trans ht2)
  obtain rfl := Option.some.inj (gRngP.symm.trans hg3)
  obtain rfl := Option.some.inj (gRngTypeP.symm.trans ht3)
  obtain rfl := Option.some.inj (gSynP.symm.trans hg4)
  obtain rfl := Option.some.inj (gSynTypeP.symm.trans ht4)
  have ht : Lib.TabIs Tryd.prog W "internal/strconv.uint64pow10" .u64 Lib.pow10Tab := by
    rw [powDataP] at hd2
    unfold Lib.TabIs
    rw [hv2, ← Lib.cells_of_tab Tryd.underlying117 Tryd.underlying86 cellsU64P cellsPowP hd2]
  have hmax := cell_of_shapedOpen_int (P := Tryd.prog) (g := 0) (t := 3) (zero := #[.int .i64 0]) hsh (of_decide_eq_true (by kernel_rfl)) (by kernel_rfl) rfl (by kernel_rfl) (by kernel_rfl) Tryd.underlying3
  have hsyn : ∃ ev, W.cell? ⟨1, 0, none⟩ = some ev ∧ (ev = .nilIface ∨ ∃ te pe, ev = .iface te pe) := by
    obtain ⟨f', u, v, hc, -, -⟩ := iface_of_trod Tryd.underlying71 hd4
    refine ⟨.iface u v, ?_, Or.inr ⟨u, v, rfl⟩⟩
    have h0 := World.var?_cell hg4 hv4 0
    rw [h0]
    obtain ⟨l⟩ := cs4
    simp only at hc
    subst hc
    rfl
  have hrng : ∃ ev, W.cell? ⟨2, 0, none⟩ = some ev ∧ (ev = .nilIface ∨ ∃ te pe, ev = .iface te pe) := by
    obtain ⟨f', u, v, hc, -, -⟩ := iface_of_trod Tryd.underlying71 hd3
    refine ⟨.iface u v, ?_, Or.inr ⟨u, v, rfl⟩⟩
    have h0 := World.var?_cell hg3 hv3 0
    rw [h0]
    obtain ⟨l⟩ := cs3
    simp only at hc
    subst hc
    rfl
  refine ⟨⟨hmax, hsyn, hrng⟩, ?_, ht, ?_⟩
  · obtain ⟨m, hm⟩ := hmax
    obtain ⟨e1, hs1, -⟩ := hsyn
    obtain ⟨e2, hs2, -⟩ := hrng
    have l1 := World.block_lt_of_cell? W _ hm
    have l2 := World.block_lt_of_cell? W _ hs1
    have l3 := World.block_lt_of_cell? W _ hs2
    simp only at l1 l2 l3
    unfold gTopP
    omega
  · have hp := ht
    unfold Lib.TabIs World.var? at hp
    rw [gPowL] at hp
    simp only [Option.bind_some] at hp
    rcases Nat.lt_or_ge 3 W.heap.size with h' | h'
    · exact h'
    · rw [Array.getElem?_eq_none h'] at hp; cases hp
end Go.Proofs.YtcnkkegpckibbaaDoor

/- What is read of a row of bytes that comes in is one that lies in memory. No conditions. -/

namespace Go.Proofs.YtcnkkegpckibbaaDoor
open Go Go.RowKit Go.ChangeShapes Go.WideShapes Go.ChangeAt

theorem cellsU8 : Tryd.prog.cellsOf 5 = 1 := by kernel_rfl

section
variable {H : Type} {enc : TypeId × Value → H} {W : World} {spare : Nat → Bool} {held : Bool}

theorem bytes_cap {fuel : Nat} {a : Option Addr} {len cap : Nat} {x : DataW H × List MemPlace} (h : DataW.trod enc Tryd.prog W 0 spare held fuel 22 [.slice a len cap] = some x) : len ≤ cap := by
  rcases open_ints Tryd.underlying22 Tryd.underlying5 cellsU8 h with ⟨hcs, -⟩ | ⟨a', len', cap', zs, hcs, -, hl, -⟩
  · simp only [List.cons.injEq, Value.slice.injEq, and_true] at hcs
    omega
  · simp only [List.cons.injEq, Value.slice.injEq, and_true] at hcs
    omega
theorem bytes_of_trod {fuel : Nat} {v : Value} {x : DataW H × List MemPlace} (h : DataW.trod enc Tryd.prog W 0 spare held fuel 22 [v] = some x) :
    ∃ l, BytesAt W v l := by
  rcases open_ints Tryd.underlying22 Tryd.underlying5 cellsU8 h with ⟨hcs, -⟩ | ⟨a, len, cap, zs, hcs, -, hl, hm, hz, -, hcell, hws⟩
  · simp only [List.cons.injEq, and_true] at hcs
    exact ⟨[], none, 0, hcs, by simp, fun i hi => by simp at hi⟩
  · simp only [List.cons.injEq, and_true] at hcs
    have hle : len ≤ zs.length := by rw [hz]; split <;> omega
    unfold maxLen at hm
    have hlen : ((zs.take len).map (fun z => UInt8.ofNat z.toNat)).length = len := by simp; omega
    refine ⟨(zs.take len).map (fun z => UInt8.ofNat z.toNat), some a, cap, by rw [hcs, hlen], by rw [hlen]; omega, fun i hi => ?_⟩
    have hi' : i < len := by rw [hlen] at hi; exact hi
    obtain ⟨b, off, spot⟩ := a
    have hspot : spot = none := by simpa [Addr.add] using World.cell?_spot (hcell 0 (by omega))
    subst hspot
    have hc := hcell i (by omega)
    rw [Addr.add_lit] at hc
    refine ⟨b, off, rfl, World.block_lt_of_cell? W _ hc, ?_⟩
    have hb := bounds_u8 (hws (zs[i]'(by omega)) (List.getElem_mem (by omega)))
    rw [hc]
    have e1 : zs.getD i 0 = zs[i]'(by omega) := by simp [show i < zs.length by omega]
    have e2 : (((zs.take len).map (fun z => UInt8.ofNat z.toNat))[i]'hi) = UInt8.ofNat (zs[i]'(by omega)).toNat := by simp
    rw [e1, e2, show (UInt8.ofNat (zs[i]'(by omega)).toNat).toNat = (zs[i]'(by omega)).toNat from by simp; omega, show (((zs[i]'(by omega)).toNat : Nat) : Int) = zs[i]'(by omega) from by omega]
end
end Go.Proofs.YtcnkkegpckibbaaDoor
