/- The walk of the law on LogPlanWrite: whatever plan comes in, it answers true, and turns nothing that was there. The table of powers is as strconv's text lays it. -/
import Derived.Test.YtmaojhacdelleaaDoorWPlLaw
import Derived.Test.YtmaojhacdelleaaDoorWPwS
import Derived.Test.YtmaojhacdelleaaDoorWPwQ
namespace Go.Proofs.YtmaojhacdelleaaDoor
open Go Go.RowKit

set_option maxRecDepth 100000 in
set_option maxHeartbeats 3200000 in
theorem lawLogPlanWrite_any (l : Pl) (P : Nat → Prop) (v : Value) (w : World) (hP : ∀ b, P b → b < w.heap.size) (hv : PtsAt P w v l.parts) (htab : Lib.TabIs Tryd.prog w "internal/strconv.uint64pow10" .u64 Lib.pow10Tab) (hglob : 0 < w.heap.size) :
    Calls Tryd.prog 3 #[.agg #[v, .int .i64 l.op, .int .i64 l.fi]] w fun e w' => e = .returned (.bool true) ∧ Below w.heap.size w w' := by
  have HSPEC : Hid (∀ (Q : Nat → Prop) (u : Value) (W : World), (∀ b, Q b → b < W.heap.size) → PtsAt Q W u l.parts → Calls Tryd.prog 5 #[.agg #[u, .int .i64 l.op, .int .i64 l.fi]] W fun e w' => e = .returned (.string (plW l)) ∧ Below W.heap.size W w') := fun Q u W hQ hu => specLogPlanWrite_any l Q u W hQ hu
  have HIMPL : Hid (∀ (Q : Nat → Prop) (u : Value) (W : World), Below w.heap.size w W → (∀ b, Q b → b < W.heap.size) → PtsAt Q W u l.parts → Calls Tryd.prog 7 #[.agg #[u, .int .i64 l.op, .int .i64 l.fi]] W fun e w' => e = .returned (.string (plW l)) ∧ Below W.heap.size W w') := fun Q u W hW hQ hu => implLogPlanWrite_any l Q u W hQ hu (tab_keep htab (hW.block _ hglob)) (Nat.lt_of_lt_of_le hglob hW.size)
  clear htab hglob
  generalize plW l = ok at *
  have HCP := hide (fun (hl : l.parts.length ≤ 1048576) (W : World) (hW : Below w.heap.size w W) => toLogPlan_any l v W (P := P) (fun b hb => Nat.lt_of_lt_of_le (hP b hb) hW.size) (hv.carry (fun b hb => hW.block b (hP b hb)) (fun _ h => h)) hl)
  obtain ⟨a, cap, rfl, hlen, -⟩ := hv.open
  have HSZ := hide (fun o => szLogPlan_any a l.parts.length cap l.op l.fi (w.alloc o) hlen)
  have HROW := hide (row3_alloc w (.slice a l.parts.length cap) (.int .i64 l.op) (.int .i64 l.fi) 24)
  clear hv hP
  go_enter Tryd.func3, Tryd.ntmps3
  go_wp2_with fail
  refine (unhide HSZ _).mono ?_
  rintro e w1 ⟨⟨r, rfl, hr⟩, hb1⟩
  obtain ⟨q1, hs1, hb01⟩ := kbox1 hb1
  clear hb1 HSZ HROW
  rcases hr with rfl | ⟨hr0, hr1⟩
  · have HB := hide hb01; clear hb01 q1
    go_wp2_with fail
    go_ret
    exact ⟨rfl, unhide HB⟩
  have HCP' := hide (unhide HCP (by omega))
  have k0 := q1.cell (i := 0) (by omega); have k1 := q1.cell (i := 1) (by omega); have k2 := q1.cell (i := 2) (by omega)
  simp only [row3] at k0 k1 k2
  have Q1 := hide q1; have HB1 := hide hb01
  clear q1 hb01 hr1 HCP
  go_wp2_with fail
  refine (unhide HCP' _ (unhide HB1)).mono ?_
  rintro e w2 ⟨a2, rfl, hat2, hb2⟩
  clear k0 k1 k2
  have hs2 := hb2.size
  have HSP := hide (unhide HSPEC _ _ w2 (fun b hb => hb.2) hat2)
  have Q2 := hide ((unhide Q1).of_block (hb2.block _ (by omega))); have HB2 := hide ((unhide HB1).trans (hb2.mono (unhide HB1).size))
  clear hat2 hb2 Q1 HB1
  go_wp2_with fail
  refine (unhide HSP).mono ?_
  rintro e w3 ⟨rfl, hb3⟩
  have hs3 := hb3.size
  have q3 := (unhide Q2).of_block (hb3.block _ (by omega)); have hb03 := (unhide HB2).trans (hb3.mono (unhide HB2).size)
  have k0 := q3.cell (i := 0) (by omega); have k1 := q3.cell (i := 1) (by omega); have k2 := q3.cell (i := 2) (by omega)
  simp only [row3] at k0 k1 k2
  have Q3 := hide q3; have HB3 := hide hb03
  clear q3 hb03 hb3 HSP Q2 HB2
  go_wp2_with fail
  refine (unhide HCP' _ (unhide HB3)).mono ?_
  rintro e w4 ⟨a4, rfl, hat4, hb4⟩
  clear k0 k1 k2
  have hs4 := hb4.size
  have q4 := (unhide Q3).of_block (hb4.block _ (by omega)); have hb04 := (unhide HB3).trans (hb4.mono (unhide HB3).size)
  have hbx4 : ∀ o, Below w4.heap.size w4 (w4.alloc o) := fun o => (Below.refl _ _).alloc (Nat.le_refl _) o
  have HIM := hide (fun o => unhide HIMPL _ _ (w4.alloc o) (hb04.trans ((hbx4 o).mono hb04.size)) (fun b hb => Nat.lt_of_lt_of_le hb.2 (hbx4 o).size) (hat4.carry (fun b hb => (hbx4 o).block b hb.2) (fun _ h => h)))
  have HRX := hide hat4; have Q4 := hide q4; have HB4 := hide hb04
  clear hat4 q4 hb04 hbx4 hb4 Q3 HB3
  go_wp2_with fail
  refine (unhide HIM _).mono ?_
  rintro e w5 ⟨rfl, hb5⟩
  obtain ⟨p5, hs5, hb45⟩ := kbox1 hb5
  have hb05 := (unhide HB4).trans (hb45.mono (unhide HB4).size)
  have q5 := (unhide Q4).of_block (hb45.block _ (by omega))
  have hrx5 := (unhide HRX).carry (w' := w5) (Q := New w3 w4) (fun b hb => hb45.block b hb.2) (fun _ h => h)
  have HTO3 := hide (unhide HCP' w5.drew hb05.drew)
  have k0 := q5.cell (i := 0) (by omega); have k1 := q5.cell (i := 1) (by omega); have k2 := q5.cell (i := 2) (by omega)
  have j0 := p5.cell (i := 0) (by omega); have j1 := p5.cell (i := 1) (by omega); have j2 := p5.cell (i := 2) (by omega)
  simp only [row3] at k0 k1 k2 j0 j1 j2
  have P5 := hide p5; have HB5 := hide hb05; have HRX5 := hide hrx5
  clear p5 hb05 q5 hrx5 hb45 hb5 HIM Q4 HB4 HRX
  go_wp2_with fail
  go_region_with (first
    | (go_at_call 6
       refine (unhide HTO3).mono ?_
       rintro e w6 ⟨a6, rfl, hry, hb6⟩
       have hs6 : w5.heap.size ≤ w6.heap.size := hb6.size
       have p6 := (unhide P5).of_block (hb6.block w4.heap.size (unhide P5).lt)
       have i0 := p6.cell (i := 0) (by omega)
       have i1 := p6.cell (i := 1) (by omega)
       have i2 := p6.cell (i := 2) (by omega)
       simp only [row3] at i0 i1 i2
       have HEQ := hide (eqLogPlan_any l a4 a6 l.parts.length l.parts.length w6 (P := New w3 w4) (Q := New w5.drew w6) (fun b hb => by have := hb.2; omega) (fun b hb => hb.2) ((unhide HRX5).carry (fun b hb => hb6.block b (by have := hb.2; show b < w5.heap.size; omega)) (fun _ h => h)) hry)
       have HB6 := hide ((unhide HB5).trans ((Below.refl _ w5).drew.trans (hb6.mono (unhide HB5).size)))
       clear p6 hry hb6)
    | (go_at_call 8
       refine (unhide HEQ).mono ?_
       rintro e w7 ⟨rfl, hb7⟩
       have HB7 := hide ((unhide HB6).trans (hb7.mono (unhide HB6).size))
       clear hb7))
  all_goals
    go_wp2_with fail
    go_ret
    exact ⟨rfl, unhide HB7⟩
end Go.Proofs.YtmaojhacdelleaaDoor
