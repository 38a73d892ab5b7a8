/- The walk of the specification's LogPlanOk. No conditions. -/
import Derived.Test.YtmaojhacdelleaaDoorPlDat
import Derived.Test.YtmaojhacdelleaaDoorWFrm
import Derived.Handy
namespace Go.Proofs.YtmaojhacdelleaaDoor
open Go Go.RowKit

/-- The answer says whether so. -/
def RetOk (e : Ending) (p : Prop) : Prop := ∃ r : Bool, e = .returned (.bool r) ∧ (r = true ↔ p)
theorem RetOk.no {p : Prop} (h : ¬ p) : RetOk (.returned (.bool false)) p := ⟨false, rfl, by simp [h]⟩
theorem RetOk.of {p q : Prop} [Decidable q] (h : p ↔ q) : RetOk (.returned (.bool (decide q))) p := ⟨_, rfl, by rw [h]; simp⟩
theorem p4_alloc (w : World) (p : Pt) (t : TypeId) : P4At (w.alloc (.cells #[.int .i64 p.num, .int .i64 p.first, .int .i64 p.next, .int .i64 p.size] t)) w.heap.size 0 p :=
  ⟨by go_simp, by go_simp, by go_simp, by go_simp⟩

set_option maxRecDepth 100000 in
set_option maxHeartbeats 6400000 in
theorem specLogPlanOk_any (l : Pl) (P : Nat → Prop) (v : Value) (w : World) (hP : ∀ b, P b → b < w.heap.size) (hv : PtsAt P w v l.parts) :
    Calls Tryd.prog 10 #[.agg #[v, .int .i64 l.op, .int .i64 l.fi]] w fun e w' => RetOk e (plOk l) ∧ Below w.heap.size w w' := by
  obtain ⟨a, cap, rfl, hlen, hc⟩ := hv.open
  have HC := hide hc; have HP := hide hP
  have HIN := hide (fun z lo hi W => frInS z lo hi W)
  have hrow := row3_alloc w (.slice a l.parts.length cap) (.int .i64 l.op) (.int .i64 l.fi) 29
  have HOK := hide (plOk_iff l)
  clear hv hc hP
  have hbx : ∀ o, Below w.heap.size w (w.alloc o) := fun o => (Below.refl _ _).alloc (Nat.le_refl _) o
  have HROW := hide hrow; have HBX := hide hbx
  clear hrow hbx
  go_enter Tryd.func10, Tryd.ntmps10
  by_cases h40 : l.parts.length ≤ 40
  case neg =>
    have HF := hide (show ¬ plOk l from fun h => h40 h.1)
    go_wp2_with fail
    go_ret
    exact ⟨RetOk.no (unhide HF), unhide HBX _⟩
  go_wp2_with fail
  refine (unhide HIN _ _ _ _).mono ?_
  rintro e w1 ⟨rfl, hb1⟩
  have q1 := (unhide HROW).of_block (hb1.block w.heap.size (by simp))
  have HB1 := hide ((unhide HBX _).trans (hb1.mono (unhide HBX _).size)); have Q1 := hide q1
  clear hb1 q1
  by_cases hop : 1 ≤ l.op ∧ l.op ≤ 999999
  case neg =>
    have HF := hide (show ¬ plOk l from fun h => hop ((unhide HOK).1 h).2.1)
    rw [decide_eq_false hop]
    clear hop
    go_wp2_with fail
    go_ret
    exact ⟨RetOk.no (unhide HF), unhide HB1⟩
  rw [decide_eq_true hop]
  have HOP := hide hop
  clear hop
  go_wp2_with fail
  go_loopw [3, 4] (fun nn i wr => ∃ (k : Nat) (N : Int), k ≤ l.parts.length ∧ i = .int .i64 k ∧ nn = .int .i64 N ∧ Hid (N = nx l.parts k) ∧ Hid (∀ i, (h : i < l.parts.length) → i < k → sPt l i h) ∧ Hid (wr.rowIs w.heap.size 29 3 (row3 (.slice a l.parts.length cap) (.int .i64 l.op) (.int .i64 l.fi))) ∧ Hid (Below w.heap.size w wr)) (fun _ i _ => l.parts.length - (intOf i).toNat)
  case atStart => exact ⟨0, 1, Nat.zero_le _, rfl, rfl, rfl, fun i _ h => by omega, Q1, HB1⟩
  case round =>
    clear Q1 HB1
    obtain ⟨k, N, hk, rfl, rfl, HNX, HS, HR, HB⟩ := hrel
    have q := HR.out
    have k0 := q.cell (i := 0) (by omega); have k1 := q.cell (i := 1) (by omega); have k2 := q.cell (i := 2) (by omega)
    simp only [row3] at k0 k1 k2
    by_cases hlt : k < l.parts.length
    · obtain ⟨b, o, rfl, hpb, hcell⟩ := unhide HC k hlt
      obtain ⟨e0, e1, e2, e3⟩ := hcell.carry (HB.out.block b (unhide HP b hpb))
      have HX := hide (show sPt l k hlt ↔ ((1 ≤ l.parts[k].num ∧ l.parts[k].num ≤ 999999) ∧ l.parts[k].num ≠ l.op ∧ ptOk l.parts[k] N ∧ ∀ j, (hj : j < k) → (l.parts[j]'(by omega)).num ≠ l.parts[k].num) by unfold sPt; rw [HNX.out])
      have HNS := hide (show l.parts[k].next = nx l.parts (k + 1) from (nx_succ hlt).symm)
      have HF := hide (show ¬ sPt l k hlt → ¬ plOk l from fun h hp => h (((unhide HOK).1 hp).2.2.1 k hlt))
      clear hcell
      generalize l.parts[k] = x at *
      have HBR := hide (fun o => (show Below wr.heap.size wr (wr.alloc o) from (Below.refl _ _).alloc (Nat.le_refl _) o))
      have HP4 := hide (p4_alloc wr x 36)
      go_wp2_with fail
      refine (unhide HIN _ _ _ _).mono ?_
      rintro e w2 ⟨rfl, hb2⟩
      have hb02 := HB.out.trans (((unhide HBR _).trans (hb2.mono (unhide HBR _).size)).mono HB.out.size)
      have q2 := ((HR.out).alloc _).of_block (hb2.block w.heap.size (by rw [World.size_alloc]; have := HR.out.lt; omega))
      obtain ⟨f0, f1, f2, f3⟩ := (unhide HP4).carry (hb2.block wr.heap.size (by simp))
      simp only [Nat.zero_add] at f0 f1 f2 f3
      have k0 := q2.cell (i := 0) (by omega); have k1 := q2.cell (i := 1) (by omega); have k2 := q2.cell (i := 2) (by omega)
      simp only [row3] at k0 k1 k2
      have hlt2 : w.heap.size < w2.heap.size := q2.lt
      have HB2 := hide hb02; have Q2 := hide q2
      clear hb2 hb02 q2 e0 e1 e2 e3
      by_cases h1 : 1 ≤ x.num ∧ x.num ≤ 999999
      case neg =>
        have HF2 := hide (unhide HF (fun h => h1 ((unhide HX).1 h).1))
        rw [decide_eq_false h1]
        clear h1
        go_wp2_with fail
        go_ret
        exact ⟨RetOk.no (unhide HF2), unhide HB2⟩
      rw [decide_eq_true h1]
      have H1 := hide h1
      clear h1
      by_cases h2 : x.num = l.op
      · have HF2 := hide (unhide HF (fun h => ((unhide HX).1 h).2.1 h2))
        go_wp2_with fail
        go_ret
        exact ⟨RetOk.no (unhide HF2), unhide HB2⟩
      by_cases h3 : x.first = N
      case neg =>
        have HF2 := hide (unhide HF (fun h => h3 ((unhide HX).1 h).2.2.1.1))
        go_wp2_with fail
        go_ret
        exact ⟨RetOk.no (unhide HF2), unhide HB2⟩
      by_cases h4 : x.next < x.first
      · have HF2 := hide (unhide HF (fun h => by have := ((unhide HX).1 h).2.2.1.2.1; omega))
        go_wp2_with fail
        go_ret
        exact ⟨RetOk.no (unhide HF2), unhide HB2⟩
      by_cases h5 : 1000000 < x.next
      · have HF2 := hide (unhide HF (fun h => by have := ((unhide HX).1 h).2.2.1.2.2.1; omega))
        go_wp2_with fail
        go_ret
        exact ⟨RetOk.no (unhide HF2), unhide HB2⟩
      have hb2 : (x.num == l.op) = false := by simp [h2]
      have hb4 : decide (x.next < x.first) = false := decide_eq_false h4
      have hb5 : decide (1000000 < x.next) = false := decide_eq_false h5
      go_wp2_with fail
      refine (unhide HIN _ _ _ _).mono ?_
      rintro e w3 ⟨rfl, hb3⟩
      have hb03 := (unhide HB2).trans (hb3.mono (unhide HB2).size)
      have q3 := (unhide Q2).of_block (hb3.block w.heap.size hlt2)
      have hltb : wr.heap.size < w2.heap.size := World.block_lt_of_cell? w2 _ f0
      have g0 := (hb3.cell (p := ⟨wr.heap.size, 0, none⟩) hltb).trans f0
      have g2 := (hb3.cell (p := ⟨wr.heap.size, 2, none⟩) hltb).trans f2
      have hltc : wr.heap.size < w3.heap.size := by have := hb3.size; omega
      have HB3 := hide hb03; have Q3 := hide q3
      clear hb3 hb03 q3 HB2 Q2 f0 f1 f2 f3 k0 k1 k2 hltb hlt2
      by_cases h6 : 0 ≤ x.size ∧ x.size ≤ 20000
      case neg =>
        have HF2 := hide (unhide HF (fun h => h6 ⟨((unhide HX).1 h).2.2.1.2.2.2.1, ((unhide HX).1 h).2.2.1.2.2.2.2⟩))
        rw [decide_eq_false h6]
        clear h6
        go_wp2_with fail
        go_ret
        exact ⟨RetOk.no (unhide HF2), unhide HB3⟩
      rw [decide_eq_true h6]
      have H6 := hide h6
      have HPT := hide (show ptOk x N from ⟨h3, by omega, by omega, h6.1, h6.2⟩)
      have H2 := hide h2
      clear h6
      go_wp2_with fail
      clear h2 h3 h4 h5 hb2 hb4 hb5 HBR HP4 HR HB
      generalize wr.heap.size = B5 at *
      go_loopw [6] (fun i ws => ∃ (j : Nat), j ≤ k ∧ i = .int .i64 j ∧ Hid (∀ q, (hq : q < j) → (hk : q < k) → (l.parts[q]'(by omega)).num ≠ x.num) ∧ Hid (Below w3.heap.size w3 ws)) (fun i _ => k - (intOf i).toNat)
      case atStart => exact ⟨0, Nat.zero_le _, rfl, fun q hq _ => by omega, Below.refl _ _⟩
      case round =>
        obtain ⟨j, hj, rfl, HJ, HBJ⟩ := hrel
        by_cases hjk : j < k
        · obtain ⟨b', o', eb, hpb', hcell'⟩ := unhide HC j (by omega)
          simp only [Option.some.injEq, Addr.mk.injEq, and_true] at eb
          obtain ⟨rfl, rfl⟩ := eb
          have d0 := (hcell'.carry (((HBJ.out).block b (by have := (unhide HB3).size; have := unhide HP b hpb; omega)).trans ((unhide HB3).block b (unhide HP b hpb)))).e0
          have g0' := (HBJ.out.cell (p := ⟨B5, 0, none⟩) hltc).trans g0
          have q' := (unhide Q3).of_block (HBJ.out.block w.heap.size (unhide Q3).lt)
          have kk := q'.cell (i := 0) (by omega)
          simp only [row3] at kk
          have HJ1 := hide (fun (hne : (l.parts[j]'(by omega)).num ≠ x.num) => (show ∀ q, (hq : q < j + 1) → (hk : q < k) → (l.parts[q]'(by omega)).num ≠ x.num from fun q hq hk => by
            by_cases e : q = j
            · subst e; exact hne
            · exact HJ.out q (by omega) hk))
          have HF2 := hide (fun (he : (l.parts[j]'(by omega)).num = x.num) => unhide HF (fun h => ((unhide HX).1 h).2.2.2 j hjk he))
          clear hcell' hpb' q'
          have hjn : j < l.parts.length := by omega
          generalize (l.parts[j]'hjn).num = z at *
          by_cases hz : z = x.num
          · go_wp2_with fail
            go_region
            go_wp2_with fail
            go_ret
            exact ⟨RetOk.no (unhide HF2 hz), ((unhide HB3).trans (HBJ.out.mono (unhide HB3).size)).drew⟩
          · go_wp2_with fail
            go_region
            go_wp2_with fail
            go_roundw
            case rel => exact ⟨j + 1, by omega, by go_num, unhide HJ1 hz, HBJ.out.drew⟩
            case measure => simp [intOf]; omega
        · have g2' := (HBJ.out.cell (p := ⟨B5, 2, none⟩) hltc).trans g2
          have q' := (unhide Q3).of_block (HBJ.out.block w.heap.size (unhide Q3).lt)
          have HQ := hide q'
          have HSK := hide (show ∀ i, (h : i < l.parts.length) → i < k + 1 → sPt l i h from fun i h hi => by
            by_cases e : i = k
            · subst e
              exact (unhide HX).2 ⟨unhide H1, unhide H2, unhide HPT, fun q hq => HJ.out q (by omega) hq⟩
            · exact HS.out i h (by omega))
          clear q'
          go_wp2_with fail
          go_roundw
          case rel => exact ⟨k + 1, x.next, by omega, by go_num, rfl, unhide HNS, unhide HSK, HQ, (unhide HB3).trans (HBJ.out.mono (unhide HB3).size)⟩
          case measure => simp [intOf]; omega
    · have HFI := hide (show plOk l ↔ l.fi = N from by
        rw [unhide HOK]
        have hkk : k = l.parts.length := by omega
        subst hkk
        rw [HNX.out]
        exact ⟨fun h => h.2.2.2, fun h => ⟨h40, unhide HOP, fun i hi => HS.out i hi hi, h⟩⟩)
      go_wp2_with fail
      go_ret
      exact ⟨RetOk.of (unhide HFI), HB.out⟩
end Go.Proofs.YtmaojhacdelleaaDoor
