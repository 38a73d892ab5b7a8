/- The walk of the law on KindHas, the program's KindHas taken by its contract (a hypothesis): whatever schema and tree come in, it answers true, and turns nothing that was there. -/
import Derived.Test.YtfjiannabnonjaaDoorWHasS2
import Derived.Test.YtfjiannabnonjaaDoorWSzK
import Derived.Test.YtfjiannabnonjaaDoorWToK
import Derived.Test.YtfjiannabnonjaaDoorWEqK
import Derived.Test.YtfjiannabnonjaaDoorWSz
import Derived.Test.YtfjiannabnonjaaDoorWTo
import Derived.Test.YtfjiannabnonjaaDoorWEq
import Derived.Deep.CutRange
namespace Go.Proofs.YtfjiannabnonjaaDoor
open Go Go.RowKit

/-- What the law's world holds: the boxes of its two arguments. -/
structure Ar (w W : World) (c : C3) (d : C5) : Prop where
  below : Below w.heap.size w W
  size : w.heap.size + 2 ≤ W.heap.size
  bK : W.rowIs w.heap.size 44 3 (row3 c.c0 c.c1 c.c2)
  bT : W.rowIs (w.heap.size + 1) 47 5 (row5 d.c0 d.c1 d.c2 d.c3 d.c4)
theorem Ar.on {w W W' : World} {c : C3} {d : C5} (h : Ar w W c d) (hb : Below W.heap.size W W') : Ar w W' c d := by
  have := h.size
  exact ⟨h.below.trans (hb.mono h.below.size), Nat.le_trans h.size hb.size, h.bK.of_block (hb.block _ (by omega)), h.bT.of_block (hb.block _ (by omega))⟩

set_option maxRecDepth 100000 in
set_option maxHeartbeats 3200000 in
theorem lawKindHas_of (k : Kd) (t : Tr) (P : Nat → Prop) (c : C3) (d : C5) (w : World) (hP : ∀ b, P b → b < w.heap.size) (hrep : KRep P w k c) (hrep2 : Rep P w t d)
    (himpl : ∀ (P Q : Nat → Prop) (c : C3) (d : C5) (W : World), Below w.heap.size w W → (∀ b, P b → b < W.heap.size) → (∀ b, Q b → b < W.heap.size) → KRep P W k c → Rep Q W t d → wKd k ≤ 1048576 →
      Calls Tryd.prog 11 #[.agg #[c.c0, c.c1, c.c2], .agg #[d.c0, d.c1, d.c2, d.c3, d.c4]] W fun e w' => e = .returned (.bool (hasA k t)) ∧ Below W.heap.size W w') :
    Calls Tryd.prog 5 #[.agg #[c.c0, c.c1, c.c2], .agg #[d.c0, d.c1, d.c2, d.c3, d.c4]] w fun e w' => e = .returned (.bool true) ∧ Below w.heap.size w w' := by
  obtain ⟨c0, c1, c2⟩ := c
  obtain ⟨d0, d1, d2, d3, d4⟩ := d
  have hk := fun W (hW : Below w.heap.size w W) => (⟨fun b hb => Nat.lt_of_lt_of_le (hP b hb) hW.size, KRep.carry (Q := P) (w' := W) (fun b hb => hW.block b (hP b hb)) (fun _ h => h) _ _ hrep, Rep.carry (Q := P) (w' := W) (fun b hb => hW.block b (hP b hb)) (fun _ h => h) _ _ hrep2⟩ : (∀ b, P b → b < W.heap.size) ∧ KRep P W k ⟨c0, c1, c2⟩ ∧ Rep P W t ⟨d0, d1, d2, d3, d4⟩)
  have hz := fun W (hW : Below w.heap.size w W) (l : Int) (h0 : 0 ≤ l) (h1 : l ≤ 1048576) => szKind_any k P ⟨c0, c1, c2⟩ l W (hk W hW).1 (hk W hW).2.1 h0 h1
  have hz2 := fun W (hW : Below w.heap.size w W) (l : Int) (h0 : 0 ≤ l) (h1 : l ≤ 1048576) => szTree_any t P ⟨d0, d1, d2, d3, d4⟩ l W (hk W hW).1 (hk W hW).2.2 h0 h1
  have hto := fun W (hW : Below w.heap.size w W) (h : wKd k ≤ 1048576) => toKind_any k P ⟨c0, c1, c2⟩ W (hk W hW).1 (hk W hW).2.1 h
  have hto2 := fun W (hW : Below w.heap.size w W) (h : wT t ≤ 1048576) => toTree_any t P ⟨d0, d1, d2, d3, d4⟩ W (hk W hW).1 (hk W hW).2.2 h
  obtain ⟨e0, -, ⟨a1, cap1, e1, -, -⟩, a2, cap2, e2, -, -⟩ := hrep.open
  obtain ⟨g0, g1, g2, -, -, -, ⟨a5, cap5, g3, -, -⟩, a6, cap6, g4, -, -⟩ := hrep2.open
  simp only at e0 e1 e2 g0 g1 g2 g3 g4
  subst e0 e1 e2 g0 g1 g2 g3 g4
  have har : Ar w ((w.alloc (.cells #[.int .i64 k.sort, .slice a1 k.names.length cap1, .slice a2 k.kids.length cap2] 44)).alloc (.cells #[.int .i64 t.sort, .int .i64 t.num, .string t.text, .slice a5 t.names.length cap5, .slice a6 t.kids.length cap6] 47)) ⟨.int .i64 k.sort, .slice a1 k.names.length cap1, .slice a2 k.kids.length cap2⟩ ⟨.int .i64 t.sort, .int .i64 t.num, .string t.text, .slice a5 t.names.length cap5, .slice a6 t.kids.length cap6⟩ := by
    refine ⟨((Below.refl _ _).alloc (Nat.le_refl _) _).alloc (by simp) _, by simp, (row3_alloc w _ _ _ _).alloc _, ?_⟩
    have q := row5_alloc (w.alloc (.cells #[.int .i64 k.sort, .slice a1 k.names.length cap1, .slice a2 k.kids.length cap2] 44)) (.int .i64 t.sort) (.int .i64 t.num) (.string t.text) (.slice a5 t.names.length cap5) (.slice a6 t.kids.length cap6) 47
    rw [World.size_alloc] at q
    exact q
  have HZ := hide hz; have HZ2 := hide hz2; have HTO := hide hto; have HTO2 := hide hto2; have HAR := hide har; have HIMPL := hide himpl
  clear hz hz2 hto hto2 har hk hrep hrep2 hP himpl
  go_enter Tryd.func5, Tryd.ntmps5
  go_wp2_with fail
  refine (unhide HZ _ (unhide HAR).below _ (by omega) (by omega)).mono ?_
  rintro e w1 ⟨r, rfl, hr, hb1⟩
  have har1 := (unhide HAR).on hb1
  clear hb1 HAR
  rcases hr with rfl | ⟨hr0, hr1⟩
  · have HB := hide har1.below; clear har1
    go_wp2_with fail
    go_ret
    exact ⟨rfl, unhide HB⟩
  have hwt : wKd k ≤ 1048576 := by omega
  have hr2 : r ≤ 1048576 := by omega
  have t0 := har1.bT.cell (i := 0) (by omega); have t1 := har1.bT.cell (i := 1) (by omega); have t2 := har1.bT.cell (i := 2) (by omega); have t3 := har1.bT.cell (i := 3) (by omega); have t4 := har1.bT.cell (i := 4) (by omega)
  simp only [row5] at t0 t1 t2 t3 t4
  have HWT := hide hwt; have HAR1 := hide har1
  clear hwt har1 hr1
  go_wp2_with fail
  refine (unhide HZ2 _ (unhide HAR1).below _ hr0 hr2).mono ?_
  rintro e w2 ⟨r2, rfl, hrr, hb2⟩
  have har2 := (unhide HAR1).on hb2
  clear hb2 HAR1 t0 t1 t2 t3 t4
  rcases hrr with rfl | ⟨hq0, hq1⟩
  · have HB := hide har2.below; clear har2
    go_wp2_with fail
    go_ret
    exact ⟨rfl, unhide HB⟩
  have hwt2 : wT t ≤ 1048576 := by omega
  have HWT2 := hide hwt2
  have k0 := har2.bK.cell (i := 0) (by omega); have k1 := har2.bK.cell (i := 1) (by omega); have k2 := har2.bK.cell (i := 2) (by omega)
  have t0 := har2.bT.cell (i := 0) (by omega); have t1 := har2.bT.cell (i := 1) (by omega); have t2 := har2.bT.cell (i := 2) (by omega); have t3 := har2.bT.cell (i := 3) (by omega); have t4 := har2.bT.cell (i := 4) (by omega)
  simp only [row3, row5] at k0 k1 k2 t0 t1 t2 t3 t4
  have HAR2 := hide har2
  clear har2 hwt2 hq1
  go_upto_region 8 with fail
  go_cut [6] from 20 (fun s wx => s = .bool (hasA k t) ∧ Hid (Ar w wx ⟨.int .i64 k.sort, .slice a1 k.names.length cap1, .slice a2 k.kids.length cap2⟩ ⟨.int .i64 t.sort, .int .i64 t.num, .string t.text, .slice a5 t.names.length cap5, .slice a6 t.kids.length cap6⟩))
  case first =>
    go_region_with (first
      | (go_at_call 21
         refine (unhide HTO w2.drew (unhide HAR2).below.drew (unhide HWT)).mono ?_
         rintro e w3 ⟨⟨d0, d1, d2⟩, rfl, hrd, hb3⟩
         have har3 := (unhide HAR2).on ((Below.refl _ w2).drew.trans hb3)
         have t0 := har3.bT.cell (i := 0) (by omega)
         have t1 := har3.bT.cell (i := 1) (by omega)
         have t2 := har3.bT.cell (i := 2) (by omega)
         have t3 := har3.bT.cell (i := 3) (by omega)
         have t4 := har3.bT.cell (i := 4) (by omega)
         simp only [row5] at t0 t1 t2 t3 t4
         have HAR3 := hide har3
         have HRD := hide hrd
         clear har3 hrd hb3)
      | (go_at_call 22
         refine (unhide HTO2 w3 (unhide HAR3).below (unhide HWT2)).mono ?_
         rintro e w4 ⟨⟨y0, y1, y2, y3, y4⟩, rfl, hrt, hb4⟩
         have hs4 := hb4.size
         have HSP := hide (specKindHas_any k t (New w2.drew w3) (New w3 w4) ⟨d0, d1, d2⟩ ⟨y0, y1, y2, y3, y4⟩ w4 (fun b hb => by have := hb.2; omega) (fun b hb => hb.2) (KRep.carry (fun b hb => hb4.block b hb.2) (fun _ h => h) _ _ (unhide HRD)) hrt)
         have HAR4 := hide ((unhide HAR3).on hb4)
         clear hrt hb4)
      | (go_at_call 20
         refine (unhide HSP).mono ?_
         rintro e w5 ⟨rfl, hb5⟩
         have HAR5 := hide ((unhide HAR4).on hb5)
         clear hb5))
    all_goals
      go_wp2_with fail
      go_meet
      case rel => exact ⟨rfl, unhide HAR5⟩
  case rest =>
    obtain ⟨rfl, HAR5⟩ := hcut
    clear HAR2 k0 k1 k2 t0 t1 t2 t3 t4
    have k0 := (unhide HAR5).bK.cell (i := 0) (by omega); have k1 := (unhide HAR5).bK.cell (i := 1) (by omega); have k2 := (unhide HAR5).bK.cell (i := 2) (by omega)
    simp only [row3] at k0 k1 k2
    go_wp2_with fail
    refine (unhide HTO wc (unhide HAR5).below (unhide HWT)).mono ?_
    rintro e w6 ⟨⟨d0, d1, d2⟩, rfl, hrx, hb6⟩
    clear k0 k1 k2
    obtain ⟨g0, -, ⟨a3', cap3', g3, -⟩, a4', cap4', g4, -⟩ := hrx.open
    simp only at g0 g3 g4
    subst g0 g3 g4
    have har6 := (unhide HAR5).on hb6
    have har6a := har6.on ((Below.refl w6.heap.size w6).alloc (Nat.le_refl _) (.cells #[.int .i64 k.sort, .slice a3' k.names.length cap3', .slice a4' k.kids.length cap4'] 26))
    have t0 := har6a.bT.cell (i := 0) (by omega); have t1 := har6a.bT.cell (i := 1) (by omega); have t2 := har6a.bT.cell (i := 2) (by omega); have t3 := har6a.bT.cell (i := 3) (by omega); have t4 := har6a.bT.cell (i := 4) (by omega)
    simp only [row5] at t0 t1 t2 t3 t4
    have HRX := hide hrx; have HAR6 := hide har6a
    clear hrx hb6 har6 har6a HAR5
    go_wp2_with fail
    refine (unhide HTO2 _ (unhide HAR6).below (unhide HWT2)).mono ?_
    rintro e w7 ⟨⟨d0, d1, d2, d3, d4⟩, rfl, hry, hb7⟩
    clear t0 t1 t2 t3 t4
    obtain ⟨x0, x1, x2, -, -, -, ⟨a7, cap7, x3, -⟩, a8, cap8, x4, -⟩ := hry.open
    simp only at x0 x1 x2 x3 x4
    subst x0 x1 x2 x3 x4
    obtain ⟨pX, hsX, hb67⟩ := kbox1 hb7
    have har7 := (unhide HAR6).on hb7
    have har7a := har7.on ((Below.refl w7.heap.size w7).alloc (Nat.le_refl _) (.cells #[.int .i64 t.sort, .int .i64 t.num, .string t.text, .slice a7 t.names.length cap7, .slice a8 t.kids.length cap8] 30))
    have pXa := pX.alloc (.cells #[.int .i64 t.sort, .int .i64 t.num, .string t.text, .slice a7 t.names.length cap7, .slice a8 t.kids.length cap8] 30)
    have pY := row5_alloc w7 (.int .i64 t.sort) (.int .i64 t.num) (.string t.text) (.slice a7 t.names.length cap7) (.slice a8 t.kids.length cap8) 30
    have hrxa : KRep (New wc w6) (w7.alloc (.cells #[.int .i64 t.sort, .int .i64 t.num, .string t.text, .slice a7 t.names.length cap7, .slice a8 t.kids.length cap8] 30)) k ⟨.int .i64 k.sort, .slice a3' k.names.length cap3', .slice a4' k.kids.length cap4'⟩ := KRep.carry (fun b hb => by have := hb.2; rw [Below.heap_alloc _ _ _ (by omega)]; exact hb67.block b hb.2) (fun _ h => h) _ _ (unhide HRX)
    have hrya : Rep (New (w6.alloc (.cells #[.int .i64 k.sort, .slice a3' k.names.length cap3', .slice a4' k.kids.length cap4'] 26)) w7) (w7.alloc (.cells #[.int .i64 t.sort, .int .i64 t.num, .string t.text, .slice a7 t.names.length cap7, .slice a8 t.kids.length cap8] 30)) t ⟨.int .i64 t.sort, .int .i64 t.num, .string t.text, .slice a7 t.names.length cap7, .slice a8 t.kids.length cap8⟩ := Rep.carry (fun b hb => Below.heap_alloc _ _ _ hb.2) (fun _ h => h) _ _ hry
    have j0 := pXa.cell (i := 0) (by omega); have j1 := pXa.cell (i := 1) (by omega); have j2 := pXa.cell (i := 2) (by omega)
    simp only [row3] at j0 j1 j2
    have HIM := hide (unhide HIMPL _ _ _ _ _ har7a.below (fun b hb => by have := hb.2; simp; omega) (fun b hb => by have := hb.2; simp; omega) hrxa hrya (unhide HWT))
    have HRXA := hide hrxa; have HRYA := hide hrya; have HAR7 := hide har7a; have PX := hide pXa; have PY := hide pY
    clear hrxa hrya har7 har7a pX pXa pY hry hb7 hb67 HAR6 HRX
    go_wp2_with fail
    refine (unhide HIM).mono ?_
    rintro e w8 ⟨rfl, hb8⟩
    clear j0 j1 j2
    have hs8 : w7.heap.size + 1 ≤ w8.heap.size := by have := hb8.size; simp at this; exact this
    have pX8 := (unhide PX).of_block (hb8.block w6.heap.size (by simp; omega))
    have pY8 := (unhide PY).of_block (hb8.block w7.heap.size (by simp))
    have HAR8 := hide ((unhide HAR7).on hb8)
    have hrx8 := KRep.carry (w' := w8) (fun b hb => hb8.block b (by have := hb.2; simp; omega)) (fun _ h => h) _ _ (unhide HRXA)
    have hry8 := Rep.carry (w' := w8) (fun b hb => hb8.block b (by have := hb.2; simp; omega)) (fun _ h => h) _ _ (unhide HRYA)
    have HRX8 := hide hrx8; have HRY8 := hide hry8; have PX8 := hide pX8; have PY8 := hide pY8
    have j0 := pX8.cell (i := 0) (by omega); have j1 := pX8.cell (i := 1) (by omega); have j2 := pX8.cell (i := 2) (by omega)
    have k0 := (unhide HAR8).bK.cell (i := 0) (by omega); have k1 := (unhide HAR8).bK.cell (i := 1) (by omega); have k2 := (unhide HAR8).bK.cell (i := 2) (by omega)
    simp only [row3] at j0 j1 j2 k0 k1 k2
    clear hrx8 hry8 pX8 pY8 hb8 HIM HRXA HRYA HAR7 PX PY
    generalize hasA k t = res at *
    go_upto_region 14 with fail
    go_cut [39] from 35 (fun s wx => s = .bool false ∧ Hid (Ar w wx ⟨.int .i64 k.sort, .slice a1 k.names.length cap1, .slice a2 k.kids.length cap2⟩ ⟨.int .i64 t.sort, .int .i64 t.num, .string t.text, .slice a5 t.names.length cap5, .slice a6 t.kids.length cap6⟩) ∧ Hid (Below w8.heap.size w8 wx))
    case first =>
      go_region_with (first
        | (go_at_call 21
           refine (unhide HTO w8.drew (unhide HAR8).below.drew (unhide HWT)).mono ?_
           rintro e w9 ⟨⟨z0, z1, z2⟩, rfl, hrz, hb9⟩
           have hb89 : Below w8.heap.size w8 w9 := (Below.refl _ w8).drew.trans hb9
           have hs9 := hb89.size
           have p9 := (unhide PX8).of_block (hb89.block w6.heap.size (by omega))
           have i0 := p9.cell (i := 0) (by omega)
           have i1 := p9.cell (i := 1) (by omega)
           have i2 := p9.cell (i := 2) (by omega)
           simp only [row3] at i0 i1 i2
           have HEK := hide (eqKind_any k (New wc w6) (New w8.drew w9) ⟨.int .i64 k.sort, .slice a3' k.names.length cap3', .slice a4' k.kids.length cap4'⟩ ⟨z0, z1, z2⟩ w9 (fun b hb => by have := hb.2; omega) (fun b hb => hb.2) (KRep.carry (fun b hb => hb89.block b (by have := hb.2; omega)) (fun _ h => h) _ _ (unhide HRX8)) hrz)
           have HB9 := hide hb89
           clear p9 hrz hb9 hb89)
        | (go_at_call 15
           refine (unhide HEK).mono ?_
           rintro e wa ⟨rfl, hba⟩
           have HBA := hide ((unhide HB9).trans (hba.mono (unhide HB9).size))
           clear hba))
      all_goals
        go_wp2_with fail
        go_meet
        case rel => exact ⟨rfl, (unhide HAR8).on (unhide HBA), unhide HBA⟩
    case rest =>
      obtain ⟨rfl, HARB, HBB⟩ := hcut
      have hsb := (unhide HBB).size
      have pY9 := (unhide PY8).of_block ((unhide HBB).block w7.heap.size (by omega))
      clear j0 j1 j2 k0 k1 k2
      have hry9 := Rep.carry (w' := wc) (fun b hb => (unhide HBB).block b (by have := hb.2; omega)) (fun _ h => h) _ _ (unhide HRY8)
      have j0 := pY9.cell (i := 0) (by omega); have j1 := pY9.cell (i := 1) (by omega); have j2 := pY9.cell (i := 2) (by omega); have j3 := pY9.cell (i := 3) (by omega); have j4 := pY9.cell (i := 4) (by omega)
      have k0 := (unhide HARB).bT.cell (i := 0) (by omega); have k1 := (unhide HARB).bT.cell (i := 1) (by omega); have k2 := (unhide HARB).bT.cell (i := 2) (by omega); have k3 := (unhide HARB).bT.cell (i := 3) (by omega); have k4 := (unhide HARB).bT.cell (i := 4) (by omega)
      simp only [row5] at j0 j1 j2 j3 j4 k0 k1 k2 k3 k4
      have HRY9 := hide hry9; have PY9 := hide pY9
      clear hry9 pY9 PX8 PY8 HRX8 HRY8 HAR8 HBB
      go_wp2_with fail
      go_region_with (first
        | (go_at_call 22
           refine (unhide HTO2 wc.drew (unhide HARB).below.drew (unhide HWT2)).mono ?_
           rintro e w9 ⟨⟨z0, z1, z2, z3, z4⟩, rfl, hrz, hb9⟩
           have hb89 : Below wc.heap.size wc w9 := (Below.refl _ wc).drew.trans hb9
           have hs9 := hb89.size
           have p9 := (unhide PY9).of_block (hb89.block w7.heap.size (by omega))
           have i0 := p9.cell (i := 0) (by omega)
           have i1 := p9.cell (i := 1) (by omega)
           have i2 := p9.cell (i := 2) (by omega)
           have i3 := p9.cell (i := 3) (by omega)
           have i4 := p9.cell (i := 4) (by omega)
           simp only [row5] at i0 i1 i2 i3 i4
           have HET := hide (eqTree_any t _ (New wc.drew w9) ⟨.int .i64 t.sort, .int .i64 t.num, .string t.text, .slice a7 t.names.length cap7, .slice a8 t.kids.length cap8⟩ ⟨z0, z1, z2, z3, z4⟩ w9 (fun b hb => by have := hb.2; omega) (fun b hb => hb.2) (Rep.carry (fun b hb => hb89.block b (by have := hb.2; omega)) (fun _ h => h) _ _ (unhide HRY9)) hrz)
           have HARC := hide ((unhide HARB).on hb89)
           clear p9 hrz hb9 hb89)
        | (go_at_call 23
           refine (unhide HET).mono ?_
           rintro e wa ⟨rfl, hba⟩
           have HBA := hide ((unhide HARC).on hba).below
           clear hba))
      all_goals
        go_wp2_with fail
        go_ret
        exact ⟨rfl, unhide HBA⟩
end Go.Proofs.YtfjiannabnonjaaDoor
