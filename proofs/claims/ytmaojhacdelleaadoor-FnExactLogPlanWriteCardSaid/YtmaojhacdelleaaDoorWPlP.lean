/- The walk of the program's LogPlanOk. No conditions. -/
import Derived.Test.YtmaojhacdelleaaDoorWPlO
namespace Go.Proofs.YtmaojhacdelleaaDoor
open Go Go.RowKit

set_option maxRecDepth 100000 in
set_option maxHeartbeats 6400000 in
theorem implLogPlanOk_any (l : Pl) (P : Nat → Prop) (v : Value) (w : World) (hP : ∀ b, P b → b < w.heap.size) (hv : PtsAt P w v l.parts) :
    Calls Tryd.prog 13 #[.agg #[v, .int .i64 l.op, .int .i64 l.fi]] w fun e w' => RetOk e (plOk l) ∧ Below w.heap.size w w' := by
  have hbx : ∀ o, Below w.heap.size w (w.alloc o) := fun o => (Below.refl _ _).alloc (Nat.le_refl _) o
  have HNU := hide (fun (h40 : l.parts.length ≤ 40) o => numbersOk_any l P v (w.alloc o) (fun b hb => Nat.lt_of_lt_of_le (hP b hb) (hbx o).size) (hv.carry (fun b hb => (hbx o).block b (hP b hb)) (fun _ h => h)) h40)
  obtain ⟨a, cap, rfl, hlen, hc⟩ := hv.open
  have HC := hide hc; have HP := hide hP
  have HIN := hide (fun z lo hi W => frInP z lo hi W)
  have hrow := row3_alloc w (.slice a l.parts.length cap) (.int .i64 l.op) (.int .i64 l.fi) 29
  have HROW := hide hrow; have HBX := hide hbx
  clear hv hc hP hrow hbx
  go_enter Tryd.func13, Tryd.ntmps13
  by_cases h40 : l.parts.length ≤ 40
  case neg =>
    have HF := hide (show ¬ plOk l from fun h => h40 h.1)
    go_wp2_with fail
    go_ret
    exact ⟨RetOk.no (unhide HF), unhide HBX _⟩
  have HNU2 := hide (unhide HNU h40)
  clear HNU
  go_wp2_with fail
  refine (unhide HNU2 _).mono ?_
  rintro e w1 ⟨⟨r, rfl, hr⟩, hb1⟩
  have q1 := (unhide HROW).of_block (hb1.block w.heap.size (by simp))
  have HB1 := hide ((unhide HBX _).trans (hb1.mono (unhide HBX _).size)); have Q1 := hide q1
  have k0 := q1.cell (i := 0) (by omega)
  simp only [row3] at k0
  clear hb1 q1 HNU2
  cases r with
  | false =>
    have HF := hide (show ¬ plOk l from fun h => by have := hr.2 h.2.1; cases this)
    clear hr
    go_wp2_with fail
    go_ret
    exact ⟨RetOk.no (unhide HF), unhide HB1⟩
  | true =>
  have HNO := hide (hr.1 rfl)
  clear hr
  go_wp2_with fail
  clear k0
  go_loopw [3, 18] (fun nn i wr => ∃ (k : Nat) (N : Int), k ≤ l.parts.length ∧ i = .int .i64 k ∧ nn = .int .i64 N ∧ Hid (N = nx l.parts k) ∧ Hid (∀ i, (h : i < l.parts.length) → i < k → ptOk l.parts[i] (nx l.parts i)) ∧ Hid (wr.rowIs w.heap.size 29 3 (row3 (.slice a l.parts.length cap) (.int .i64 l.op) (.int .i64 l.fi))) ∧ Hid (Below w.heap.size w wr)) (fun _ i _ => l.parts.length - (intOf i).toNat)
  case atStart => exact ⟨0, 1, Nat.zero_le _, rfl, rfl, rfl, fun i _ h => by omega, Q1, HB1⟩
  case round =>
    clear Q1 HB1
    obtain ⟨k, N, hk, rfl, rfl, HNX, HS, HR, HB⟩ := hrel
    have q := HR.out
    have k2 := q.cell (i := 2) (by omega)
    simp only [row3] at k2
    by_cases hlt : k < l.parts.length
    · obtain ⟨b, o, rfl, hpb, hcell⟩ := unhide HC k hlt
      obtain ⟨e0, e1, e2, e3⟩ := hcell.carry (HB.out.block b (unhide HP b hpb))
      have HX := hide (show ptOk l.parts[k] (nx l.parts k) ↔ ptOk l.parts[k] N by rw [HNX.out])
      have HNS := hide (show l.parts[k].next = nx l.parts (k + 1) from (nx_succ hlt).symm)
      have HF := hide (show ¬ ptOk l.parts[k] (nx l.parts k) → ¬ plOk l from fun h hp => h (hp.2.2.1 k hlt))
      have HSK := hide (fun (h : ptOk l.parts[k] (nx l.parts k)) => (show ∀ i, (h : i < l.parts.length) → i < k + 1 → ptOk l.parts[i] (nx l.parts i) from fun i hi hik => by
        by_cases e : i = k
        · subst e; exact h
        · exact HS.out i hi (by omega)))
      clear hcell
      generalize l.parts[k] = x at *
      have HBR := hide (fun o => (show Below wr.heap.size wr (wr.alloc o) from (Below.refl _ _).alloc (Nat.le_refl _) o))
      have HP4 := hide (p4_alloc wr x 36)
      clear q k2
      by_cases h3 : x.first = N
      case neg =>
        have HF2 := hide (unhide HF (fun h => h3 ((unhide HX).1 h).1))
        go_wp2_with fail
        go_ret
        exact ⟨RetOk.no (unhide HF2), HB.out.trans ((unhide HBR _).mono HB.out.size)⟩
      subst h3
      go_wp2_with fail
      refine (unhide HIN _ _ _ _).mono ?_
      rintro e w2 ⟨rfl, hb2⟩
      have hb02 := HB.out.trans (((unhide HBR _).trans (hb2.mono (unhide HBR _).size)).mono HB.out.size)
      have q2 := ((HR.out).alloc _).of_block (hb2.block w.heap.size (by rw [World.size_alloc]; have := HR.out.lt; omega))
      obtain ⟨f0, f1, f2, f3⟩ := (unhide HP4).carry (hb2.block wr.heap.size (by simp))
      simp only [Nat.zero_add] at f0 f1 f2 f3
      have hlt2 : w.heap.size < w2.heap.size := q2.lt
      have HB2 := hide hb02; have Q2 := hide q2
      clear hb2 hb02 q2 e0 e1 e2 e3
      by_cases h4 : x.first ≤ x.next ∧ x.next ≤ 1000000
      case neg =>
        have HF2 := hide (unhide HF (fun h => h4 ⟨((unhide HX).1 h).2.1, ((unhide HX).1 h).2.2.1⟩))
        rw [decide_eq_false h4]
        clear h4
        go_wp2_with fail
        go_ret
        exact ⟨RetOk.no (unhide HF2), unhide HB2⟩
      rw [decide_eq_true h4]
      have H4 := hide h4
      clear h4
      go_wp2_with fail
      refine (unhide HIN _ _ _ _).mono ?_
      rintro e w3 ⟨rfl, hb3⟩
      have hb03 := (unhide HB2).trans (hb3.mono (unhide HB2).size)
      have q3 := (unhide Q2).of_block (hb3.block w.heap.size hlt2)
      have hltb : wr.heap.size < w2.heap.size := World.block_lt_of_cell? w2 _ f0
      have g2 := (hb3.cell (p := ⟨wr.heap.size, 2, none⟩) hltb).trans f2
      have HB3 := hide hb03; have Q3 := hide q3
      clear hb3 hb03 q3 HB2 Q2 f0 f1 f2 f3 hltb hlt2
      by_cases h6 : 0 ≤ x.size ∧ x.size ≤ 20000
      case neg =>
        have HF2 := hide (unhide HF (fun h => h6 ⟨((unhide HX).1 h).2.2.2.1, ((unhide HX).1 h).2.2.2.2⟩))
        rw [decide_eq_false h6]
        clear h6
        go_wp2_with fail
        go_ret
        exact ⟨RetOk.no (unhide HF2), unhide HB3⟩
      rw [decide_eq_true h6]
      have HSS := hide (unhide HSK ((unhide HX).2 ⟨rfl, (unhide H4).1, (unhide H4).2, h6.1, h6.2⟩))
      clear h6
      go_wp2_with fail
      go_roundw
      case rel => exact ⟨k + 1, x.next, by omega, by go_num, rfl, unhide HNS, unhide HSS, Q3, HB3⟩
      case measure => simp [intOf]; omega
    · have HFI := hide (show plOk l ↔ l.fi = N from by
        have hkk : k = l.parts.length := by omega
        subst hkk
        rw [HNX.out]
        exact ⟨fun h => h.2.2.2, fun h => ⟨h40, unhide HNO, fun i hi => HS.out i hi hi, h⟩⟩)
      go_wp2_with fail
      go_ret
      exact ⟨RetOk.of (unhide HFI), HB.out⟩
end Go.Proofs.YtmaojhacdelleaaDoor
