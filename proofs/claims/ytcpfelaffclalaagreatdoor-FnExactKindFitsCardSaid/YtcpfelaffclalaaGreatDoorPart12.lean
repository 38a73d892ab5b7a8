/- The walk of the law on KindFits, the program's KindFits taken by its contract (a hypothesis): whatever two schemas come in, it answers true, and turns nothing that was there. -/
import Derived.Test.YtcpfelaffclalaaGreatDoorPart10
import Derived.Test.YtcpfelaffclalaaGreatDoorPart11
import Derived.Deep.CutRange
import Derived.Test.YtcpfelaffclalaaGreatDoorPart01
import Derived.Test.YtcpfelaffclalaaGreatDoorPart09
import Derived.Lib.SlicesCompact
import Derived.Lib.Strings
import Derived.Test.YtcpfelaffclalaaGreatDoorProg
import Derived.Shelf.Spec.SearchS
import Derived.Shelf.Spec.SlicesGrow
namespace Go.Proofs.YtcpfelaffclalaaGreatDoor
open Go Go.RowKit

/-- What the law's world holds: the boxes of its two arguments. -/
structure ArF (w W : World) (c d : C3) : Prop where
  below : Below w.heap.size w W
  size : w.heap.size + 2 ≤ W.heap.size
  bK : W.rowIs w.heap.size 25 3 (row3 c.c0 c.c1 c.c2)
  bT : W.rowIs (w.heap.size + 1) 25 3 (row3 d.c0 d.c1 d.c2)
theorem ArF.on {w W W' : World} {c d : C3} (h : ArF w W c d) (hb : Below W.heap.size W W') : ArF w W' c d := by
  have := h.size
  exact ⟨h.below.trans (hb.mono h.below.size), Nat.le_trans h.size hb.size, h.bK.of_block (hb.block _ (by omega)), h.bT.of_block (hb.block _ (by omega))⟩

set_option maxRecDepth 100000 in
set_option maxHeartbeats 3200000 in
theorem lawKindFits_of (k m : Kd) (P : Nat → Prop) (c d : C3) (w : World) (hP : ∀ b, P b → b < w.heap.size) (hrep : KRep P w k c) (hrep2 : KRep P w m d)
    (himpl : ∀ (P Q : Nat → Prop) (c d : C3) (W : World), Below w.heap.size w W → (∀ b, P b → b < W.heap.size) → (∀ b, Q b → b < W.heap.size) → KRep P W k c → KRep Q W m d → wKd k ≤ 1048576 → wKd m ≤ 1048576 →
      Calls Tryz.prog 9 #[.agg #[c.c0, c.c1, c.c2], .agg #[d.c0, d.c1, d.c2]] W fun e w' => e = .returned (.bool (fitsD k m)) ∧ Below W.heap.size W w') :
    Calls Tryz.prog 3 #[.agg #[c.c0, c.c1, c.c2], .agg #[d.c0, d.c1, d.c2]] w fun e w' => e = .returned (.bool true) ∧ Below w.heap.size w w' := by
  obtain ⟨c0, c1, c2⟩ := c
  obtain ⟨d0, d1, d2⟩ := d
  have hk := fun W (hW : Below w.heap.size w W) => (⟨fun b hb => Nat.lt_of_lt_of_le (hP b hb) hW.size, KRep.carry (Q := P) (w' := W) (fun b hb => hW.block b (hP b hb)) (fun _ h => h) _ _ hrep, KRep.carry (Q := P) (w' := W) (fun b hb => hW.block b (hP b hb)) (fun _ h => h) _ _ hrep2⟩ : (∀ b, P b → b < W.heap.size) ∧ KRep P W k ⟨c0, c1, c2⟩ ∧ KRep P W m ⟨d0, d1, d2⟩)
  have hz := fun W (hW : Below w.heap.size w W) (l : Int) (h0 : 0 ≤ l) (h1 : l ≤ 1048576) => szKind_any k P ⟨c0, c1, c2⟩ l W (hk W hW).1 (hk W hW).2.1 h0 h1
  have hz2 := fun W (hW : Below w.heap.size w W) (l : Int) (h0 : 0 ≤ l) (h1 : l ≤ 1048576) => szKind_any m P ⟨d0, d1, d2⟩ l W (hk W hW).1 (hk W hW).2.2 h0 h1
  have hto := fun W (hW : Below w.heap.size w W) (h : wKd k ≤ 1048576) => toKind_any k P ⟨c0, c1, c2⟩ W (hk W hW).1 (hk W hW).2.1 h
  have hto2 := fun W (hW : Below w.heap.size w W) (h : wKd m ≤ 1048576) => toKind_any m P ⟨d0, d1, d2⟩ W (hk W hW).1 (hk W hW).2.2 h
  obtain ⟨e0, -, ⟨a1, cap1, e1, -, -⟩, a2, cap2, e2, -, -⟩ := hrep.open
  obtain ⟨g0, -, ⟨a5, cap5, g3, -, -⟩, a6, cap6, g4, -, -⟩ := hrep2.open
  simp only at e0 e1 e2 g0 g3 g4
  subst e0 e1 e2 g0 g3 g4
  have har : ArF w ((w.alloc (.cells #[.int .i64 k.sort, .slice a1 k.names.length cap1, .slice a2 k.kids.length cap2] 25)).alloc (.cells #[.int .i64 m.sort, .slice a5 m.names.length cap5, .slice a6 m.kids.length cap6] 25)) ⟨.int .i64 k.sort, .slice a1 k.names.length cap1, .slice a2 k.kids.length cap2⟩ ⟨.int .i64 m.sort, .slice a5 m.names.length cap5, .slice a6 m.kids.length cap6⟩ := by
    refine ⟨((Below.refl _ _).alloc (Nat.le_refl _) _).alloc (by simp) _, by simp, (row3_alloc w _ _ _ _).alloc _, ?_⟩
    have q := row3_alloc (w.alloc (.cells #[.int .i64 k.sort, .slice a1 k.names.length cap1, .slice a2 k.kids.length cap2] 25)) (.int .i64 m.sort) (.slice a5 m.names.length cap5) (.slice a6 m.kids.length cap6) 25
    rw [World.size_alloc] at q
    exact q
  have HZ := hide hz; have HZ2 := hide hz2; have HTO := hide hto; have HTO2 := hide hto2; have HAR := hide har; have HIMPL := hide himpl
  clear hz hz2 hto hto2 har hk hrep hrep2 hP himpl
  go_enter Tryz.func3, Tryz.ntmps3
  go_wp2_with fail
  refine (unhide HZ _ (unhide HAR).below _ (by omega) (by omega)).mono ?_
  rintro e w1 ⟨r, rfl, hr, hb1⟩
  have har1 := (unhide HAR).on hb1
  clear hb1 HAR
  rcases hr with rfl | ⟨hr0, hr1⟩
  · have HB := hide har1.below; clear har1
    go_wp2_with fail
    go_ret
    exact ⟨rfl, unhide HB⟩
  have hwt : wKd k ≤ 1048576 := by omega
  have hr2 : r ≤ 1048576 := by omega
  have t0 := har1.bT.cell (i := 0) (by omega); have t1 := har1.bT.cell (i := 1) (by omega); have t2 := har1.bT.cell (i := 2) (by omega)
  simp only [row3] at t0 t1 t2
  have HWT := hide hwt; have HAR1 := hide har1
  clear hwt har1 hr1
  go_wp2_with fail
  refine (unhide HZ2 _ (unhide HAR1).below _ hr0 hr2).mono ?_
  rintro e w2 ⟨r2, rfl, hrr, hb2⟩
  have har2 := (unhide HAR1).on hb2
  clear hb2 HAR1 t0 t1 t2
  rcases hrr with rfl | ⟨hq0, hq1⟩
  · have HB := hide har2.below; clear har2
    go_wp2_with fail
    go_ret
    exact ⟨rfl, unhide HB⟩
  have hwt2 : wKd m ≤ 1048576 := by omega
  have HWT2 := hide hwt2
  have k0 := har2.bK.cell (i := 0) (by omega); have k1 := har2.bK.cell (i := 1) (by omega); have k2 := har2.bK.cell (i := 2) (by omega)
  have t0 := har2.bT.cell (i := 0) (by omega); have t1 := har2.bT.cell (i := 1) (by omega); have t2 := har2.bT.cell (i := 2) (by omega)
  simp only [row3] at k0 k1 k2 t0 t1 t2
  have HAR2 := hide har2
  clear har2 hwt2 hq1
  go_upto_region 8 with fail
  go_cut [6] from 20 (fun s wx => s = .bool (fitsD k m) ∧ Hid (ArF w wx ⟨.int .i64 k.sort, .slice a1 k.names.length cap1, .slice a2 k.kids.length cap2⟩ ⟨.int .i64 m.sort, .slice a5 m.names.length cap5, .slice a6 m.kids.length cap6⟩))
  case first =>
    go_region_with (first
      | (go_at_call 8
         first
         | (refine (unhide HTO2 w3 (unhide HAR3).below (unhide HWT2)).mono ?_
            rintro e w4 ⟨⟨y0, y1, y2⟩, rfl, hrt, hb4⟩
            have hs4 := hb4.size
            have HSP := hide (specKindFits_any k m (New w2.drew w3) (New w3 w4) ⟨d0, d1, d2⟩ ⟨y0, y1, y2⟩ w4 (fun b hb => by have := hb.2; omega) (fun b hb => hb.2) (KRep.carry (fun b hb => hb4.block b hb.2) (fun _ h => h) _ _ (unhide HRD)) hrt)
            have HAR4 := hide ((unhide HAR3).on hb4)
            clear hrt hb4)
         | (refine (unhide HTO w2.drew (unhide HAR2).below.drew (unhide HWT)).mono ?_
            rintro e w3 ⟨⟨d0, d1, d2⟩, rfl, hrd, hb3⟩
            have har3 := (unhide HAR2).on ((Below.refl _ w2).drew.trans hb3)
            have t0 := har3.bT.cell (i := 0) (by omega)
            have t1 := har3.bT.cell (i := 1) (by omega)
            have t2 := har3.bT.cell (i := 2) (by omega)
            simp only [row3] at t0 t1 t2
            have HAR3 := hide har3
            have HRD := hide hrd
            clear har3 hrd hb3))
      | (go_at_call 7
         refine (unhide HSP).mono ?_
         rintro e w5 ⟨rfl, hb5⟩
         have HAR5 := hide ((unhide HAR4).on hb5)
         clear hb5))
    all_goals
      go_wp2_with fail
      go_meet
      case rel => exact ⟨rfl, unhide HAR5⟩
  case rest =>
    obtain ⟨rfl, HAR5⟩ := hcut
    clear HAR2 k0 k1 k2 t0 t1 t2
    have k0 := (unhide HAR5).bK.cell (i := 0) (by omega); have k1 := (unhide HAR5).bK.cell (i := 1) (by omega); have k2 := (unhide HAR5).bK.cell (i := 2) (by omega)
    simp only [row3] at k0 k1 k2
    go_wp2_with fail
    refine (unhide HTO wc (unhide HAR5).below (unhide HWT)).mono ?_
    rintro e w6 ⟨⟨d0, d1, d2⟩, rfl, hrx, hb6⟩
    clear k0 k1 k2
    obtain ⟨g0, -, ⟨a3', cap3', g3, -⟩, a4', cap4', g4, -⟩ := hrx.open
    simp only at g0 g3 g4
    subst g0 g3 g4
    have har6 := (unhide HAR5).on hb6
    have har6a := har6.on ((Below.refl w6.heap.size w6).alloc (Nat.le_refl _) (.cells #[.int .i64 k.sort, .slice a3' k.names.length cap3', .slice a4' k.kids.length cap4'] 30))
    have t0 := har6a.bT.cell (i := 0) (by omega); have t1 := har6a.bT.cell (i := 1) (by omega); have t2 := har6a.bT.cell (i := 2) (by omega)
    simp only [row3] at t0 t1 t2
    have HRX := hide hrx; have HAR6 := hide har6a
    clear hrx hb6 har6 har6a HAR5
    go_wp2_with fail
    refine (unhide HTO2 _ (unhide HAR6).below (unhide HWT2)).mono ?_
    rintro e w7 ⟨⟨d0, d1, d2⟩, rfl, hry, hb7⟩
    clear t0 t1 t2
    obtain ⟨x0, -, ⟨a7, cap7, x3, -⟩, a8, cap8, x4, -⟩ := hry.open
    simp only at x0 x3 x4
    subst x0 x3 x4
    obtain ⟨pX, hsX, hb67⟩ := kbox1 hb7
    have har7 := (unhide HAR6).on hb7
    have har7a := har7.on ((Below.refl w7.heap.size w7).alloc (Nat.le_refl _) (.cells #[.int .i64 m.sort, .slice a7 m.names.length cap7, .slice a8 m.kids.length cap8] 30))
    have pXa := pX.alloc (.cells #[.int .i64 m.sort, .slice a7 m.names.length cap7, .slice a8 m.kids.length cap8] 30)
    have pY := row3_alloc w7 (.int .i64 m.sort) (.slice a7 m.names.length cap7) (.slice a8 m.kids.length cap8) 30
    have hrxa : KRep (New wc w6) (w7.alloc (.cells #[.int .i64 m.sort, .slice a7 m.names.length cap7, .slice a8 m.kids.length cap8] 30)) k ⟨.int .i64 k.sort, .slice a3' k.names.length cap3', .slice a4' k.kids.length cap4'⟩ := KRep.carry (fun b hb => by have := hb.2; rw [Below.heap_alloc _ _ _ (by omega)]; exact hb67.block b hb.2) (fun _ h => h) _ _ (unhide HRX)
    have hrya : KRep (New (w6.alloc (.cells #[.int .i64 k.sort, .slice a3' k.names.length cap3', .slice a4' k.kids.length cap4'] 30)) w7) (w7.alloc (.cells #[.int .i64 m.sort, .slice a7 m.names.length cap7, .slice a8 m.kids.length cap8] 30)) m ⟨.int .i64 m.sort, .slice a7 m.names.length cap7, .slice a8 m.kids.length cap8⟩ := KRep.carry (fun b hb => Below.heap_alloc _ _ _ hb.2) (fun _ h => h) _ _ hry
    have j0 := pXa.cell (i := 0) (by omega); have j1 := pXa.cell (i := 1) (by omega); have j2 := pXa.cell (i := 2) (by omega)
    simp only [row3] at j0 j1 j2
    have HIM := hide (unhide HIMPL _ _ _ _ _ har7a.below (fun b hb => by have := hb.2; simp; omega) (fun b hb => by have := hb.2; simp; omega) hrxa hrya (unhide HWT) (unhide HWT2))
    have HRXA := hide hrxa; have HRYA := hide hrya; have HAR7 := hide har7a; have PX := hide pXa; have PY := hide pY
    clear hrxa hrya har7 har7a pX pXa pY hry hb7 hb67 HAR6 HRX
    go_wp2_with fail
    refine (unhide HIM).mono ?_
    rintro e w8 ⟨rfl, hb8⟩
    clear j0 j1 j2
    have hs8 : w7.heap.size + 1 ≤ w8.heap.size := by have := hb8.size; simp at this; exact this
    have pX8 := (unhide PX).of_block (hb8.block w6.heap.size (by simp; omega))
    have pY8 := (unhide PY).of_block (hb8.block w7.heap.size (by simp))
    have HAR8 := hide ((unhide HAR7).on hb8)
    have hrx8 := KRep.carry (w' := w8) (fun b hb => hb8.block b (by have := hb.2; simp; omega)) (fun _ h => h) _ _ (unhide HRXA)
    have hry8 := KRep.carry (w' := w8) (fun b hb => hb8.block b (by have := hb.2; simp; omega)) (fun _ h => h) _ _ (unhide HRYA)
    have HRX8 := hide hrx8; have HRY8 := hide hry8; have PX8 := hide pX8; have PY8 := hide pY8
    have j0 := pX8.cell (i := 0) (by omega); have j1 := pX8.cell (i := 1) (by omega); have j2 := pX8.cell (i := 2) (by omega)
    have k0 := (unhide HAR8).bK.cell (i := 0) (by omega); have k1 := (unhide HAR8).bK.cell (i := 1) (by omega); have k2 := (unhide HAR8).bK.cell (i := 2) (by omega)
    simp only [row3] at j0 j1 j2 k0 k1 k2
    clear hrx8 hry8 pX8 pY8 hb8 HIM HRXA HRYA HAR7 PX PY
    generalize fitsD k m = res at *
    go_upto_region 14 with fail
    go_cut [39] from 35 (fun s wx => s = .bool false ∧ Hid (ArF w wx ⟨.int .i64 k.sort, .slice a1 k.names.length cap1, .slice a2 k.kids.length cap2⟩ ⟨.int .i64 m.sort, .slice a5 m.names.length cap5, .slice a6 m.kids.length cap6⟩) ∧ Hid (Below w8.heap.size w8 wx))
    case first =>
      go_region_with (first
        | (go_at_call 8
           refine (unhide HTO w8.drew (unhide HAR8).below.drew (unhide HWT)).mono ?_
           rintro e w9 ⟨⟨z0, z1, z2⟩, rfl, hrz, hb9⟩
           have hb89 : Below w8.heap.size w8 w9 := (Below.refl _ w8).drew.trans hb9
           have hs9 := hb89.size
           have p9 := (unhide PX8).of_block (hb89.block w6.heap.size (by omega))
           have i0 := p9.cell (i := 0) (by omega)
           have i1 := p9.cell (i := 1) (by omega)
           have i2 := p9.cell (i := 2) (by omega)
           simp only [row3] at i0 i1 i2
           have HEK := hide (eqKind_any k (New wc w6) (New w8.drew w9) ⟨.int .i64 k.sort, .slice a3' k.names.length cap3', .slice a4' k.kids.length cap4'⟩ ⟨z0, z1, z2⟩ w9 (fun b hb => by have := hb.2; omega) (fun b hb => hb.2) (KRep.carry (fun b hb => hb89.block b (by have := hb.2; omega)) (fun _ h => h) _ _ (unhide HRX8)) hrz)
           have HB9 := hide hb89
           clear p9 hrz hb9 hb89)
        | (go_at_call 10
           refine (unhide HEK).mono ?_
           rintro e wa ⟨rfl, hba⟩
           have HBA := hide ((unhide HB9).trans (hba.mono (unhide HB9).size))
           clear hba))
      all_goals
        go_wp2_with fail
        go_meet
        case rel => exact ⟨rfl, (unhide HAR8).on (unhide HBA), unhide HBA⟩
    case rest =>
      obtain ⟨rfl, HARB, HBB⟩ := hcut
      have hsb := (unhide HBB).size
      have pY9 := (unhide PY8).of_block ((unhide HBB).block w7.heap.size (by omega))
      clear j0 j1 j2 k0 k1 k2
      have hry9 := KRep.carry (w' := wc) (fun b hb => (unhide HBB).block b (by have := hb.2; omega)) (fun _ h => h) _ _ (unhide HRY8)
      have j0 := pY9.cell (i := 0) (by omega); have j1 := pY9.cell (i := 1) (by omega); have j2 := pY9.cell (i := 2) (by omega)
      have k0 := (unhide HARB).bT.cell (i := 0) (by omega); have k1 := (unhide HARB).bT.cell (i := 1) (by omega); have k2 := (unhide HARB).bT.cell (i := 2) (by omega)
      simp only [row3] at j0 j1 j2 k0 k1 k2
      have HRY9 := hide hry9; have PY9 := hide pY9
      clear hry9 pY9 PX8 PY8 HRX8 HRY8 HAR8 HBB
      go_wp2_with fail
      go_region_with (first
        | (go_at_call 8
           refine (unhide HTO2 wc.drew (unhide HARB).below.drew (unhide HWT2)).mono ?_
           rintro e w9 ⟨⟨z0, z1, z2⟩, rfl, hrz, hb9⟩
           have hb89 : Below wc.heap.size wc w9 := (Below.refl _ wc).drew.trans hb9
           have hs9 := hb89.size
           have p9 := (unhide PY9).of_block (hb89.block w7.heap.size (by omega))
           have i0 := p9.cell (i := 0) (by omega)
           have i1 := p9.cell (i := 1) (by omega)
           have i2 := p9.cell (i := 2) (by omega)
           simp only [row3] at i0 i1 i2
           have HET := hide (eqKind_any m _ (New wc.drew w9) ⟨.int .i64 m.sort, .slice a7 m.names.length cap7, .slice a8 m.kids.length cap8⟩ ⟨z0, z1, z2⟩ w9 (fun b hb => by have := hb.2; omega) (fun b hb => hb.2) (KRep.carry (fun b hb => hb89.block b (by have := hb.2; omega)) (fun _ h => h) _ _ (unhide HRY9)) hrz)
           have HARC := hide ((unhide HARB).on hb89)
           clear p9 hrz hb9 hb89)
        | (go_at_call 10
           refine (unhide HET).mono ?_
           rintro e wa ⟨rfl, hba⟩
           have HBA := hide ((unhide HARC).on hba).below
           clear hba))
      all_goals
        go_wp2_with fail
        go_ret
        exact ⟨rfl, unhide HBA⟩
end Go.Proofs.YtcpfelaffclalaaGreatDoor

/- The names of two forms, in order and each once; where a name lies among names that rise. No program, no conditions. -/

namespace Go.Proofs.YtcpfelaffclalaaGreatDoor
open Go Go.RowKit

/-- Of a row whose neighbours' doubles go nothing is lost. -/
theorem cmp_mem_upto (d : Array (List UInt8)) (x : List UInt8) : ∀ m, x ∈ Lib.compactUpTo d m ↔ ∃ j, j < m ∧ d[j]! = x
  | 0 => by simp [Lib.compactUpTo]
  | m + 1 => by
    rw [Lib.compactUpTo_succ, List.mem_append, cmp_mem_upto d x m]
    by_cases hk : Lib.keeps d m = true
    · rw [if_pos hk]
      constructor
      · rintro (⟨j, hj, e⟩ | h)
        · exact ⟨j, by omega, e⟩
        · exact ⟨m, by omega, (List.mem_singleton.1 h).symm⟩
      · rintro ⟨j, hj, e⟩
        by_cases h : j = m
        · subst h; exact Or.inr (List.mem_singleton.2 e.symm)
        · exact Or.inl ⟨j, by omega, e⟩
    · rw [if_neg hk]
      have hk2 : m ≠ 0 ∧ d[m]! = d[m - 1]! := by
        unfold Lib.keeps at hk
        rw [decide_eq_true_eq] at hk
        refine ⟨fun h => hk (Or.inl h), ?_⟩
        by_cases h : d[m]! = d[m - 1]!
        · exact h
        · exact absurd (Or.inr h) hk
      constructor
      · rintro (⟨j, hj, e⟩ | h)
        · exact ⟨j, by omega, e⟩
        · cases h
      · rintro ⟨j, hj, e⟩
        by_cases h : j = m
        · subst h; exact Or.inl ⟨j - 1, by omega, by rw [← hk2.2]; exact e⟩
        · exact Or.inl ⟨j, by omega, e⟩
theorem cmp_mem {zs : List (List UInt8)} {x : List UInt8} : x ∈ Lib.compact zs ↔ x ∈ zs := by
  unfold Lib.compact
  rw [cmp_mem_upto, List.mem_iff_getElem]
  constructor
  · rintro ⟨j, hj, e⟩
    exact ⟨j, hj, by rw [← e]; simp [hj]⟩
  · rintro ⟨j, hj, e⟩
    exact ⟨j, hj, by rw [← e]; simp [hj]⟩
/-- The names of both, in order, each once. -/
def srtS (zs : List (List UInt8)) : List (List UInt8) := zs.mergeSort fun x y => decide (x ≤ y)
theorem srtS_mem {zs : List (List UInt8)} {x : List UInt8} : x ∈ srtS zs ↔ x ∈ zs := (List.mergeSort_perm zs _).mem_iff
theorem srtS_len (zs : List (List UInt8)) : (srtS zs).length = zs.length := (List.mergeSort_perm zs _).length_eq
def uniL (an bn : List ByteArray) : List (List UInt8) := Lib.compact (srtS ((an ++ bn).map ByteArray.toList))
def uniN (an bn : List ByteArray) : List ByteArray := (uniL an bn).map fun l => ⟨l.toArray⟩
theorem ba_of (x : ByteArray) : (⟨x.toList.toArray⟩ : ByteArray) = x := by rw [Lib.toList_data]
theorem uniN_mem {an bn : List ByteArray} (nm : ByteArray) : nm ∈ uniN an bn ↔ nm ∈ an ∨ nm ∈ bn := by
  unfold uniN uniL
  rw [List.mem_map, ← List.mem_append]
  constructor
  · rintro ⟨l, hl, rfl⟩
    rw [cmp_mem, srtS_mem, List.mem_map] at hl
    obtain ⟨y, hy, rfl⟩ := hl
    rw [ba_of]; exact hy
  · intro h
    exact ⟨nm.toList, by rw [cmp_mem, srtS_mem]; exact List.mem_map_of_mem h, ba_of nm⟩
theorem uniL_len (an bn : List ByteArray) : (uniL an bn).length ≤ an.length + bn.length := by
  unfold uniL Lib.compact Lib.compactUpTo
  rw [List.length_map]
  refine Nat.le_trans (List.length_filter_le _ _) ?_
  rw [List.length_range, srtS_len]
  simp
theorem uniN_len (an bn : List ByteArray) : (uniN an bn).length = (uniL an bn).length := by unfold uniN; rw [List.length_map]
/-- Where a name is, or would be, among names that rise. -/
theorem bs_place {ns : List ByteArray} (hr : ns.Pairwise nlt) (x : ByteArray) : ∃ k, k ≤ ns.length ∧ (∀ t, t < k → Op.bytesLess (ns.getD t x).toList x.toList = true) ∧ (∀ t, k ≤ t → Op.bytesLess (ns.getD t x).toList x.toList = false) := by
  refine ⟨ns.findIdx (fun y => !Op.bytesLess y.toList x.toList), List.findIdx_le_length, fun t ht => ?_, fun t ht => ?_⟩
  · have hl : t < ns.length := Nat.lt_of_lt_of_le ht List.findIdx_le_length
    have := List.not_of_lt_findIdx ht
    rw [List.getD_eq_getElem?_getD, List.getElem?_eq_getElem hl, Option.getD_some]
    simpa using this
  · by_cases hl : t < ns.length
    · rw [List.getD_eq_getElem?_getD, List.getElem?_eq_getElem hl, Option.getD_some]
      have hk : ns.findIdx (fun y => !Op.bytesLess y.toList x.toList) < ns.length := by omega
      have h0 := List.findIdx_getElem (w := hk)
      by_cases e : ns.findIdx (fun y => !Op.bytesLess y.toList x.toList) = t
      · subst e; simpa using h0
      · have h1 := List.pairwise_iff_getElem.1 hr _ t hk hl (by omega)
        rw [Bool.eq_false_iff]
        intro h2
        have h3 := nlt_trans h1 h2
        rw [nlt] at h3
        rw [h3] at h0
        cases h0
    · rw [List.getD_eq_getElem?_getD, List.getElem?_eq_none (by omega), Option.getD_none, less_irr]
/-- The kid of a name, found so. -/
theorem kidZ_at {k : Kd} {x : ByteArray} {i : Nat} (hr : k.names.Pairwise nlt) (hl : k.kids.length = k.names.length) (hi : i < k.names.length) (h : k.names[i] = x) : kidZ k x = k.kids[i]'(by omega) := by
  unfold kidZ
  rw [← h, kidN_at (hr.imp (fun {a b} hab e => by subst e; exact nlt_irrefl _ hab)) hl hi]
  rfl
theorem kidZ_not {k : Kd} {x : ByteArray} {i : Nat} (hr : k.names.Pairwise nlt) (h1 : ∀ t, t < i → Op.bytesLess (k.names.getD t x).toList x.toList = true) (h2 : ∀ t, i ≤ t → Op.bytesLess (k.names.getD t x).toList x.toList = false) (hn : ¬ (i < k.names.length ∧ k.names.getD i x = x)) : kidZ k x = kd0 ∧ x ∉ k.names := by
  have hx : x ∉ k.names := fun hm => by
    obtain ⟨j, hj, e⟩ := List.mem_iff_getElem.1 hm
    have ej : k.names.getD j x = x := by rw [List.getD_eq_getElem?_getD, List.getElem?_eq_getElem hj, Option.getD_some, e]
    rcases Nat.lt_trichotomy j i with h | h | h
    · have := h1 j h
      rw [ej, less_irr] at this
      cases this
    · subst h; exact hn ⟨hj, ej⟩
    · have hi : i < k.names.length := by omega
      have h3 := List.pairwise_iff_getElem.1 hr i j hi hj h
      have h4 := h2 i (Nat.le_refl _)
      rw [List.getD_eq_getElem?_getD, List.getElem?_eq_getElem hi, Option.getD_some] at h4
      rw [nlt, e, h4] at h3
      cases h3
  exact ⟨by unfold kidZ; rw [kidN_none hx]; rfl, hx⟩
end Go.Proofs.YtcpfelaffclalaaGreatDoor

/- slices.BinarySearch and slices.Grow at []string: the library's contracts, laid at this program. No conditions. -/

namespace Go.Proofs.YtcpfelaffclalaaGreatDoor
open Go Go.RowKit Go.Shelf

def bsRen : Go.Shelf.Ren := ⟨fun | 26 => 116 | 33 => 133 | 34 => 134 | 38 => 147 | n => n, fun | 24 => 22 | 40 => 185 | n => n, fun | n => n⟩
theorem bsLay : Go.Proofs.Lays2.n26 Tryz.prog bsRen := {
  mixed := by kernel_rfl
  f26 := Tryz.func116.trans (congrArg some (by kernel_rfl))
  f33 := Tryz.func133.trans (congrArg some (by kernel_rfl))
  f34 := Tryz.func134.trans (congrArg some (by kernel_rfl))
  f38 := Tryz.func147.trans (congrArg some (by kernel_rfl))
  t0 := Tryz.underlying0
  a0 := Tryz.isAgg0
  z0 := Tryz.sizeOf0
  v0 := Tryz.zeroValue0
  t3 := Tryz.underlying3
  a3 := Tryz.isAgg3
  z3 := Tryz.sizeOf3
  v3 := Tryz.zeroValue3
  t4 := Tryz.underlying4
  a4 := Tryz.isAgg4
  z4 := Tryz.sizeOf4
  v4 := Tryz.zeroValue4
  t9 := Tryz.underlying9
  a9 := Tryz.isAgg9
  z9 := Tryz.sizeOf9
  v9 := Tryz.zeroValue9
  t24 := Tryz.underlying22
  a24 := Tryz.isAgg22
  z24 := Tryz.sizeOf22
  v24 := Tryz.zeroValue22
  t40 := Tryz.underlying185
  a40 := Tryz.isAgg185
  z40 := Tryz.sizeOf185
  v40 := Tryz.zeroValue185 }
def grRen : Go.Shelf.Ren := ⟨fun | 4 => 144 | n => n, fun | 20 => 20 | 22 => 22 | 25 => 9 | n => n, fun | n => n⟩
theorem grLay : Go.Proofs.Lays8.n4 Tryz.prog grRen := {
  mixed := by kernel_rfl
  f4 := ⟨"slices.Grow[[]string,string]", by kernel_rfl, Tryz.func144.trans (congrArg some (by kernel_rfl))⟩
  t0 := Tryz.underlying0
  a0 := Tryz.isAgg0
  z0 := Tryz.sizeOf0
  v0 := Tryz.zeroValue0
  t3 := Tryz.underlying3
  a3 := Tryz.isAgg3
  z3 := Tryz.sizeOf3
  v3 := Tryz.zeroValue3
  t4 := Tryz.underlying4
  a4 := Tryz.isAgg4
  z4 := Tryz.sizeOf4
  v4 := Tryz.zeroValue4
  t9 := Tryz.underlying9
  a9 := Tryz.isAgg9
  z9 := Tryz.sizeOf9
  v9 := Tryz.zeroValue9
  t20 := Tryz.underlying20
  a20 := Tryz.isAgg20
  z20 := Tryz.sizeOf20
  v20 := Tryz.zeroValue20
  t22 := Tryz.underlying22
  a22 := Tryz.isAgg22
  z22 := Tryz.sizeOf22
  v22 := Tryz.zeroValue22 }
end Go.Proofs.YtcpfelaffclalaaGreatDoor
