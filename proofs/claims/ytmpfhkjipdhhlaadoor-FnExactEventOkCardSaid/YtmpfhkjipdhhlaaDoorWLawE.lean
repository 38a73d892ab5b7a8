/- The walk of the law on EventOk: whatever event comes in, it answers true, and turns nothing that was there. The table treeFields is as the program lays it. -/
import Derived.Test.YtmpfhkjipdhhlaaDoorWEvOk
namespace Go.Proofs.YtmpfhkjipdhhlaaDoor
open Go Go.RowKit

set_option maxRecDepth 100000 in
set_option maxHeartbeats 1600000 in
theorem lawEventOk_any (ty : ByteArray) (ver : Int) (t : Tr) (P : Nat → Prop) (c : C5) (w : World) (hP : ∀ b, P b → b < w.heap.size) (hrep : Rep P w t c) (hty : ty.size ≤ 9223372036854775807) (hver : I64 ver) (hT : Tab w) :
    Calls Tryd.prog 3 #[.agg #[.string ty, .int .i64 ver, c.c0, c.c1, c.c2, c.c3, c.c4]] w fun e w' => e = .returned (.bool true) ∧ Below w.heap.size w w' := by
  obtain ⟨c0, c1, c2, c3, c4⟩ := c
  have HP := hide hP; have HREP := hide hrep; have HT := hide hT; have HTY := hide hty; have HVER := hide hver
  have hbx : ∀ o, Below w.heap.size w (w.alloc o) := fun o => (Below.refl _ _).alloc (Nat.le_refl _) o
  have HBX := hide hbx
  clear hP hrep hT hbx hty hver
  go_enter Tryd.func3, Tryd.ntmps3
  go_wp2_with fail
  refine (szEvent_any ty ver t P ⟨c0, c1, c2, c3, c4⟩ _ _ (fun b hb => Nat.lt_of_lt_of_le (unhide HP b hb) (unhide HBX _).size) (Rep.carry (fun b hb => (unhide HBX _).block b (unhide HP b hb)) (fun _ h => h) _ _ (unhide HREP)) (unhide HTY) (by omega) (by omega)).mono ?_
  rintro e w1 ⟨r, rfl, hr, hb1⟩
  obtain ⟨q1, hs1, hb01⟩ := ebox1 hb1
  clear hb1
  rcases hr with rfl | ⟨hr0, hr1⟩
  · have HB := hide hb01; clear hb01 q1
    go_wp2_with fail
    go_ret
    exact ⟨rfl, unhide HB⟩
  have hwt : wT t ≤ 1048576 := by omega
  have k0 := q1.cell (i := 0) (by omega); have k1 := q1.cell (i := 1) (by omega); have k2 := q1.cell (i := 2) (by omega); have k3 := q1.cell (i := 3) (by omega); have k4 := q1.cell (i := 4) (by omega); have k5 := q1.cell (i := 5) (by omega); have k6 := q1.cell (i := 6) (by omega)
  simp only [row7] at k0 k1 k2 k3 k4 k5 k6
  have HTO1 := hide (toEvent_any ty ver t P ⟨c0, c1, c2, c3, c4⟩ w1 (fun b hb => Nat.lt_of_lt_of_le (unhide HP b hb) hb01.size) (Rep.carry (fun b hb => hb01.block b (unhide HP b hb)) (fun _ h => h) _ _ (unhide HREP)) hwt)
  have Q1 := hide q1; have HB1 := hide hb01; have HWT := hide hwt
  clear q1 hb01 hwt hr1
  go_wp2_with fail
  refine (unhide HTO1).mono ?_
  rintro e w2 ⟨d, rfl, hrd, hb2⟩
  clear k0 k1 k2 k3 k4 k5 k6 HTO1
  have hs2 := hb2.size
  have HSP := hide (specEventOk_any ty ver t _ d w2 (fun b hb => hb.2) hrd (unhide HTY) (unhide HVER))
  have Q2 := hide ((unhide Q1).of_block (hb2.block _ (by omega))); have HB2 := hide ((unhide HB1).trans (hb2.mono (unhide HB1).size))
  obtain ⟨d0, d1, d2, d3, d4⟩ := d
  clear hrd hb2 Q1 HB1
  go_wp2_with fail
  refine (unhide HSP).mono ?_
  rintro e w3 ⟨rfl, hb3⟩
  have hs3 := hb3.size
  have q3 := (unhide Q2).of_block (hb3.block _ (by omega)); have hb03 := (unhide HB2).trans (hb3.mono (unhide HB2).size)
  have k0 := q3.cell (i := 0) (by omega); have k1 := q3.cell (i := 1) (by omega); have k2 := q3.cell (i := 2) (by omega); have k3 := q3.cell (i := 3) (by omega); have k4 := q3.cell (i := 4) (by omega); have k5 := q3.cell (i := 5) (by omega); have k6 := q3.cell (i := 6) (by omega)
  simp only [row7] at k0 k1 k2 k3 k4 k5 k6
  have HTO2 := hide (toEvent_any ty ver t P ⟨c0, c1, c2, c3, c4⟩ w3 (fun b hb => Nat.lt_of_lt_of_le (unhide HP b hb) hb03.size) (Rep.carry (fun b hb => hb03.block b (unhide HP b hb)) (fun _ h => h) _ _ (unhide HREP)) (unhide HWT))
  have Q3 := hide q3; have HB3 := hide hb03
  clear q3 hb03 hb3 HSP Q2 HB2
  go_wp2_with fail
  refine (unhide HTO2).mono ?_
  rintro e w4 ⟨⟨x0, x1, x2, x3, x4⟩, rfl, hrx, hb4⟩
  clear k0 k1 k2 k3 k4 k5 k6 HTO2
  have hs4 := hb4.size
  have q4 := (unhide Q3).of_block (hb4.block _ (by omega)); have hb04 := (unhide HB3).trans (hb4.mono (unhide HB3).size)
  have hbx4 : ∀ o, Below w4.heap.size w4 (w4.alloc o) := fun o => (Below.refl _ _).alloc (Nat.le_refl _) o
  have hT4 := (unhide HT).of_block (hb04.block 0 (unhide HT).lt)
  have HIM := hide (fun o => implEventOk_any ty ver t _ ⟨x0, x1, x2, x3, x4⟩ (w4.alloc o) (fun b hb => Nat.lt_of_lt_of_le hb.2 (hbx4 o).size) (Rep.carry (fun b hb => (hbx4 o).block b hb.2) (fun _ h => h) _ _ hrx) (unhide HTY) (unhide HVER) (hT4.of_block ((hbx4 o).block 0 hT4.lt)))
  have HRX := hide hrx; have Q4 := hide q4; have HB4 := hide hb04
  obtain ⟨g0, g1, g2, -, -, -, ⟨a3, cap3, g3, -⟩, a4, cap4, g4, -⟩ := hrx.open
  simp only at g0 g1 g2 g3 g4
  subst g0 g1 g2 g3 g4
  clear hrx q4 hb04 hbx4 hT4 hb4 Q3 HB3
  go_wp2_with fail
  refine (unhide HIM _).mono ?_
  rintro e w5 ⟨rfl, hb5⟩
  obtain ⟨p5, hs5, hb45⟩ := ebox1 hb5
  have hb05 := (unhide HB4).trans (hb45.mono (unhide HB4).size)
  have q5 := (unhide Q4).of_block (hb45.block _ (by omega))
  have hrx5 := Rep.carry (w' := w5) (fun b hb => hb45.block b hb.2) (fun _ h => h) _ _ (unhide HRX)
  have HTO3 := hide (toEvent_any ty ver t P ⟨c0, c1, c2, c3, c4⟩ w5.drew (fun b hb => Nat.lt_of_lt_of_le (unhide HP b hb) hb05.drew.size) (Rep.carry (w' := w5.drew) (fun b hb => hb05.drew.block b (unhide HP b hb)) (fun _ h => h) _ _ (unhide HREP)) (unhide HWT))
  have k0 := q5.cell (i := 0) (by omega); have k1 := q5.cell (i := 1) (by omega); have k2 := q5.cell (i := 2) (by omega); have k3 := q5.cell (i := 3) (by omega); have k4 := q5.cell (i := 4) (by omega); have k5 := q5.cell (i := 5) (by omega); have k6 := q5.cell (i := 6) (by omega)
  have j0 := p5.cell (i := 0) (by omega); have j1 := p5.cell (i := 1) (by omega); have j2 := p5.cell (i := 2) (by omega); have j3 := p5.cell (i := 3) (by omega); have j4 := p5.cell (i := 4) (by omega); have j5 := p5.cell (i := 5) (by omega); have j6 := p5.cell (i := 6) (by omega)
  simp only [row7] at k0 k1 k2 k3 k4 k5 k6 j0 j1 j2 j3 j4 j5 j6
  have P5 := hide p5; have HB5 := hide hb05; have HRX5 := hide hrx5
  clear p5 hb05 q5 hrx5 hb45 hb5 HIM Q4 HB4 HRX
  generalize evOkB ty ver t = res at *
  go_wp2_with fail
  go_region_with (first
    | (go_at_call 9
       refine (unhide HTO3).mono ?_
       rintro e w6 ⟨⟨y0, y1, y2, y3, y4⟩, rfl, hry, hb6⟩
       have hs6 : w5.heap.size ≤ w6.heap.size := hb6.size
       have p6 := (unhide P5).of_block (hb6.block w4.heap.size (unhide P5).lt)
       have i0 := p6.cell (i := 0) (by omega)
       have i1 := p6.cell (i := 1) (by omega)
       have i2 := p6.cell (i := 2) (by omega)
       have i3 := p6.cell (i := 3) (by omega)
       have i4 := p6.cell (i := 4) (by omega)
       have i5 := p6.cell (i := 5) (by omega)
       have i6 := p6.cell (i := 6) (by omega)
       simp only [row7] at i0 i1 i2 i3 i4 i5 i6
       have HEQ := hide (eqEvent_any ty ver t (New w3 w4) (New w5.drew w6) ⟨.int .i64 t.sort, .int .i64 t.num, .string t.text, .slice a3 t.names.length cap3, .slice a4 t.kids.length cap4⟩ ⟨y0, y1, y2, y3, y4⟩ w6 (fun b hb => by have := hb.2; omega) (fun b hb => hb.2) (Rep.carry (w := w5) (fun b hb => hb6.block b (by have := hb.2; show b < w5.heap.size; omega)) (fun _ h => h) _ _ (unhide HRX5)) hry)
       have HB6 := hide ((unhide HB5).trans ((Below.refl _ w5).drew.trans (hb6.mono (unhide HB5).size)))
       clear p6 hry hb6)
    | (go_at_call 11
       refine (unhide HEQ).mono ?_
       rintro e w7 ⟨rfl, hb7⟩
       have HB7 := hide ((unhide HB6).trans (hb7.mono (unhide HB6).size))
       clear hb7))
  all_goals
    go_wp2_with fail
    go_ret
    exact ⟨rfl, unhide HB7⟩

end Go.Proofs.YtmpfhkjipdhhlaaDoor
