/- The walk of the law on DiskOk: whatever disk comes in, it answers true, and turns nothing that was there. Conditions: what the two DiskOks answer (the contracts come in as hypotheses). -/
import Derived.Test.YtepknipcflbodaaWDkSz
import Derived.Test.YtepknipcflbodaaWDkTo
import Derived.Test.YtepknipcflbodaaWDkEq
import Derived.Deep.RegionWith
namespace Go.Proofs.Ytepknipcflbodaa
open Go Go.RowKit

theorem dcar {P Q : Nat → Prop} {w w' : World} (hP : ∀ b, P b → w'.heap[b]? = w.heap[b]?) (hQ : ∀ b, P b → Q b) (d : Dk) (c : C3) (h : DkAt P w d c) : DkAt Q w' d c := h.carry hP hQ

set_option maxRecDepth 100000 in
set_option maxHeartbeats 1600000 in
theorem lawDiskOk_of (t : Dk) (ok : Bool) (P : Nat → Prop) (c : C3) (w : World) (hP : ∀ b, P b → b < w.heap.size) (hrep : DkAt P w t c)
    (hspec : ∀ (Q : Nat → Prop) (d : C3) (W : World), Below w.heap.size w W → (∀ b, Q b → b < W.heap.size) → DkAt Q W t d → wDk t ≤ 1048576 → Calls Try.prog 7 #[.agg #[d.c0, d.c1, d.c2]] W fun e W' => e = .returned (.bool ok) ∧ Below W.heap.size W W')
    (himpl : ∀ (Q : Nat → Prop) (d : C3) (W : World), Below w.heap.size w W → (∀ b, Q b → b < W.heap.size) → DkAt Q W t d → wDk t ≤ 1048576 → Calls Try.prog 9 #[.agg #[d.c0, d.c1, d.c2]] W fun e W' => e = .returned (.bool ok) ∧ Below W.heap.size W W') :
    Calls Try.prog 3 #[.agg #[c.c0, c.c1, c.c2]] w fun e w' => e = .returned (.bool true) ∧ Below w.heap.size w w' := by
  obtain ⟨c0, c1, c2⟩ := c
  have HP := hide hP; have HREP := hide hrep; have HSPEC := hide hspec; have HIMPL := hide himpl
  have hbx : ∀ o, Below w.heap.size w (w.alloc o) := fun o => (Below.refl _ _).alloc (Nat.le_refl _) o
  have HBX := hide hbx
  clear hP hrep hbx hspec himpl
  go_enter Try.func3, Try.ntmps3
  go_wp2_with fail
  refine (szDisk_any t P ⟨c0, c1, c2⟩ _ _ (fun b hb => Nat.lt_of_lt_of_le (unhide HP b hb) (unhide HBX _).size) (dcar (fun b hb => (unhide HBX _).block b (unhide HP b hb)) (fun _ h => h) _ _ (unhide HREP)) (by omega) (by omega)).mono ?_
  rintro e w1 ⟨r, rfl, hr, hb1⟩
  obtain ⟨q1, hs1, hb01⟩ := kbox1 hb1
  clear hb1
  rcases hr with rfl | ⟨hr0, hr1⟩
  · have HB := hide hb01; clear hb01 q1
    go_wp2_with fail
    go_ret
    exact ⟨rfl, unhide HB⟩
  have hwt : wDk t ≤ 1048576 := by omega
  have k0 := q1.cell (i := 0) (by omega); have k1 := q1.cell (i := 1) (by omega); have k2 := q1.cell (i := 2) (by omega)
  simp only [row3] at k0 k1 k2
  have HTO1 := hide (toDisk_any t P ⟨c0, c1, c2⟩ w1 (fun b hb => Nat.lt_of_lt_of_le (unhide HP b hb) hb01.size) (dcar (fun b hb => hb01.block b (unhide HP b hb)) (fun _ h => h) _ _ (unhide HREP)) hwt)
  have Q1 := hide q1; have HB1 := hide hb01; have HWT := hide hwt
  clear q1 hb01 hwt hr1
  go_wp2_with fail
  refine (unhide HTO1).mono ?_
  rintro e w2 ⟨d, rfl, hrd, hb2⟩
  clear k0 k1 k2 HTO1
  have hs2 := hb2.size
  have HSP := hide (unhide HSPEC _ d w2 ((unhide HB1).trans (hb2.mono (unhide HB1).size)) (fun b hb => hb.2) hrd (unhide HWT))
  have Q2 := hide ((unhide Q1).of_block (hb2.block _ (by omega))); have HB2 := hide ((unhide HB1).trans (hb2.mono (unhide HB1).size))
  obtain ⟨d0, d1, d2⟩ := d
  clear hrd hb2 Q1 HB1
  go_wp2_with fail
  refine (unhide HSP).mono ?_
  rintro e w3 ⟨rfl, hb3⟩
  have hs3 := hb3.size
  have q3 := (unhide Q2).of_block (hb3.block _ (by omega)); have hb03 := (unhide HB2).trans (hb3.mono (unhide HB2).size)
  have k0 := q3.cell (i := 0) (by omega); have k1 := q3.cell (i := 1) (by omega); have k2 := q3.cell (i := 2) (by omega)
  simp only [row3] at k0 k1 k2
  have HTO2 := hide (toDisk_any t P ⟨c0, c1, c2⟩ w3 (fun b hb => Nat.lt_of_lt_of_le (unhide HP b hb) hb03.size) (dcar (fun b hb => hb03.block b (unhide HP b hb)) (fun _ h => h) _ _ (unhide HREP)) (unhide HWT))
  have Q3 := hide q3; have HB3 := hide hb03
  clear q3 hb03 hb3 HSP Q2 HB2
  go_wp2_with fail
  refine (unhide HTO2).mono ?_
  rintro e w4 ⟨⟨x0, x1, x2⟩, rfl, hrx, hb4⟩
  clear k0 k1 k2 HTO2
  have hs4 := hb4.size
  have q4 := (unhide Q3).of_block (hb4.block _ (by omega)); have hb04 := (unhide HB3).trans (hb4.mono (unhide HB3).size)
  have hbx4 : ∀ o, Below w4.heap.size w4 (w4.alloc o) := fun o => (Below.refl _ _).alloc (Nat.le_refl _) o
  have hwtt := unhide HWT
  have HIM := hide (fun o => unhide HIMPL _ ⟨x0, x1, x2⟩ (w4.alloc o) (hb04.trans ((hbx4 o).mono hb04.size)) (fun b hb => Nat.lt_of_lt_of_le hb.2 (hbx4 o).size) (dcar (fun b hb => (hbx4 o).block b hb.2) (fun _ h => h) _ _ hrx) hwtt)
  have HRX := hide hrx; have Q4 := hide q4; have HB4 := hide hb04
  obtain ⟨a0, p0, g0, -, -⟩ := hrx.fs.open
  obtain ⟨a1, p1, g1, -, -⟩ := hrx.ns
  obtain ⟨a2, p2, g2, -, -⟩ := hrx.ms.open
  simp only at g0 g1 g2
  subst g0 g1 g2
  clear hrx q4 hb04 hbx4 hb4 Q3 HB3
  go_wp2_with fail
  refine (unhide HIM _).mono ?_
  rintro e w5 ⟨rfl, hb5⟩
  obtain ⟨p5, hs5, hb45⟩ := kbox1 hb5
  have hb05 := (unhide HB4).trans (hb45.mono (unhide HB4).size)
  have q5 := (unhide Q4).of_block (hb45.block _ (by omega))
  have hrx5 := dcar (w' := w5) (fun b hb => hb45.block b hb.2) (fun _ h => h) _ _ (unhide HRX)
  have HTO3 := hide (toDisk_any t P ⟨c0, c1, c2⟩ w5.drew (fun b hb => Nat.lt_of_lt_of_le (unhide HP b hb) hb05.drew.size) (dcar (w' := w5.drew) (fun b hb => hb05.drew.block b (unhide HP b hb)) (fun _ h => h) _ _ (unhide HREP)) (unhide HWT))
  have k0 := q5.cell (i := 0) (by omega); have k1 := q5.cell (i := 1) (by omega); have k2 := q5.cell (i := 2) (by omega)
  have j0 := p5.cell (i := 0) (by omega); have j1 := p5.cell (i := 1) (by omega); have j2 := p5.cell (i := 2) (by omega)
  simp only [row3] at k0 k1 k2 j0 j1 j2
  have P5 := hide p5; have HB5 := hide hb05; have HRX5 := hide hrx5
  clear p5 hb05 q5 hrx5 hb45 hb5 HIM Q4 HB4 HRX
  go_wp2_with fail
  go_region_with (first
    | (go_at_call 8
       refine (unhide HTO3).mono ?_
       rintro e w6 ⟨⟨y0, y1, y2⟩, rfl, hry, hb6⟩
       have hs6 : w5.heap.size ≤ w6.heap.size := hb6.size
       have p6 := (unhide P5).of_block (hb6.block w4.heap.size (unhide P5).lt)
       have i0 := p6.cell (i := 0) (by omega)
       have i1 := p6.cell (i := 1) (by omega)
       have i2 := p6.cell (i := 2) (by omega)
       simp only [row3] at i0 i1 i2
       have HEQ := hide (eqDisk_any t (New w3 w4) (New w5.drew w6) ⟨.slice a0 t.files.length p0, .slice a1 t.names.length p1, .slice a2 t.moves.length p2⟩ ⟨y0, y1, y2⟩ w6 (fun b hb => by have := hb.2; omega) (fun b hb => hb.2) (dcar (w := w5) (fun b hb => hb6.block b (by have := hb.2; show b < w5.heap.size; omega)) (fun _ h => h) _ _ (unhide HRX5)) hry)
       have HB6 := hide ((unhide HB5).trans ((Below.refl _ w5).drew.trans (hb6.mono (unhide HB5).size)))
       clear p6 hry hb6)
    | (go_at_call 10
       refine (unhide HEQ).mono ?_
       rintro e w7 ⟨rfl, hb7⟩
       have HB7 := hide ((unhide HB6).trans (hb7.mono (unhide HB6).size))
       clear hb7))
  all_goals
    go_wp2_with fail
    go_ret
    exact ⟨rfl, unhide HB7⟩

end Go.Proofs.Ytepknipcflbodaa
