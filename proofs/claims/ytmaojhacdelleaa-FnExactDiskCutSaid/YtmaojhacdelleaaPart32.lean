/- The walk of the law on DiskCut: whatever disk, number and list of numbers come in, it answers true, and turns nothing that was there. No conditions. -/
import Derived.Test.YtmaojhacdelleaaPart31
import Derived.Test.YtmaojhacdelleaaRows
import Derived.Test.YtmaojhacdelleaaPart00
import Derived.ProofKit
import Derived.OpenShut
import Derived.Deep.Fields
import Derived.Deep.Slices
namespace Go.Proofs.Ytmaojhacdelleaa
open Go Go.RowKit

theorem zshp_of_row {w : World} {b n : Nat} {f : Nat → Int} {D : Nat → Prop} (h : w.rowIs b 3 n (fun j => .int .i64 (f j))) (hn : n ≤ 9223372036854775807) (hD : D b) : ZShp D w (.slice (some ⟨b, 0, none⟩) n n) n :=
  ⟨_, _, rfl, hn, fun i hi => ⟨b, 0, f i, rfl, hD, h.frozen, by rw [Nat.zero_add]; exact h.cell hi⟩⟩

set_option maxRecDepth 100000 in
set_option maxHeartbeats 6400000 in
theorem lawDiskCut_any (t : Dk) (m : Int) (zs : List Int) (P : Nat → Prop) (c : C3) (v : Value) (w : World) (hP : ∀ b, P b → b < w.heap.size) (hrep : DkAt P w t c) (hz : ZsAt P w v zs) :
    Calls Try.prog 4 #[.agg #[c.c0, c.c1, c.c2], .int .i64 m, v] w fun e w' => e = .returned (.bool true) ∧ Below w.heap.size w w' := by
  obtain ⟨c0, c1, c2⟩ := c
  have HP := hide hP; have HREP := hide hrep
  have hbx : ∀ o, Below w.heap.size w (w.alloc o) := fun o => (Below.refl _ _).alloc (Nat.le_refl _) o
  have hcp : Hid (wDk t ≤ 1048576 → ∀ W, Below w.heap.size w W → Calls Try.prog 10 #[.agg #[c0, c1, c2]] W fun e w' => ∃ c' : C3, e = .returned (.agg #[c'.c0, c'.c1, c'.c2]) ∧ DkAt (NewF W w') w' t c' ∧ Below W.heap.size W w') := fun hwt W hW =>
    toDisk_free t P ⟨c0, c1, c2⟩ W (fun b hb => Nat.lt_of_lt_of_le (hP b hb) hW.size) (hrep.carry (fun b hb => hW.block b (hP b hb)) (fun _ h => h)) hwt
  obtain ⟨az, cz, rfl, hzl, hzc⟩ := hz
  have HZP := hide (show zs.length ≤ 1048576 → ∀ W, Below w.heap.size w W → Calls Try.prog 17 #[.slice az zs.length cz] W fun e w' => ∃ v', e = .returned v' ∧ v' = .slice (some ⟨W.heap.size, 0, none⟩) zs.length zs.length ∧ w'.rowIs W.heap.size 3 zs.length (fun j => .int .i64 (zs.getD j 0)) ∧ ZsAt (New W w') w' v' zs ∧ Below W.heap.size W w' from
    fun hl W hW => toIntS_any _ zs W (P := P) (fun b hb => Nat.lt_of_lt_of_le (hP b hb) hW.size) (ZsAt.carry (w := w) ⟨az, cz, rfl, hzl, hzc⟩ (fun b hb => hW.block b (hP b hb)) (fun _ h => h)) hl)
  have HBX := hide hbx
  have HSM := hide (cutD_small t m zs)
  clear hP hrep hbx hzc
  go_enter Try.func4, Try.ntmps4
  by_cases hz1 : zs.length ≤ 1048576
  case neg =>
    go_wp2_with fail
    go_ret
    exact ⟨rfl, unhide HBX _⟩
  go_wp2_with fail
  refine (szDisk_any t P ⟨c0, c1, c2⟩ _ _ (fun b hb => Nat.lt_of_lt_of_le (unhide HP b hb) (unhide HBX _).size) (dcar (fun b hb => (unhide HBX _).block b (unhide HP b hb)) (fun _ h => h) _ _ (unhide HREP)) (by omega) (by omega)).mono ?_
  rintro e w1 ⟨r, rfl, hr, hb1⟩
  obtain ⟨q1, hs1, hb01⟩ := kbox1 hb1
  clear hb1
  rcases hr with rfl | ⟨hr0, hr1⟩
  · have HB := hide hb01; clear hb01 q1
    go_wp2_with fail
    go_ret
    exact ⟨rfl, unhide HB⟩
  have hwt : wDk t ≤ 1048576 := by omega
  have HCP := hide (unhide hcp hwt); have HWT := hide hwt; have HZ := hide (unhide HZP hz1)
  have k0 := q1.cell (i := 0) (by omega); have k1 := q1.cell (i := 1) (by omega); have k2 := q1.cell (i := 2) (by omega)
  simp only [row3] at k0 k1 k2
  have Q1 := hide q1; have HB1 := hide hb01
  clear q1 hb01 hwt hr1 hcp HZP
  go_wp2_with fail
  refine (unhide HCP _ (unhide HB1)).mono ?_
  rintro e w2 ⟨⟨d0, d1, d2⟩, rfl, hrd, hb2⟩
  clear k0 k1 k2
  have hs2 := hb2.size
  have HRD := hide hrd
  have Q2 := hide ((unhide Q1).of_block (hb2.block _ (by omega))); have HB2 := hide ((unhide HB1).trans (hb2.mono (unhide HB1).size))
  clear hrd hb2 Q1 HB1
  go_wp2_with fail
  refine (unhide HZ _ (unhide HB2)).mono ?_
  rintro e w3 ⟨vz, rfl, rfl, -, hzz, hb3⟩
  have hs3 := hb3.size
  have HSP := hide (specDiskCut_any t m zs (fun b => b < w3.heap.size) ⟨d0, d1, d2⟩ _ w3 (fun _ h => h) ((unhide HRD).carry (fun b hb => hb3.block b hb.1.2) (fun b hb => Nat.lt_of_lt_of_le hb.1.2 hs3)) (hzz.carry (fun _ _ => rfl) (fun b hb => hb.2)))
  have Q3 := hide ((unhide Q2).of_block (hb3.block _ (by omega))); have HB3 := hide ((unhide HB2).trans (hb3.mono (unhide HB2).size))
  clear hzz hb3 HRD Q2 HB2
  go_wp2_with fail
  refine (unhide HSP).mono ?_
  rintro e w4 ⟨⟨g0, g1, g2⟩, rfl, hoW, hb4⟩
  have hs4 := hb4.size
  generalize hN : cutD t m zs = N at *
  have HN := hide hN; clear hN
  obtain ⟨u0, y0, j0, -, -⟩ := hoW.fs.open
  obtain ⟨u1, y1, j1, -, -⟩ := hoW.ns
  obtain ⟨u2, y2, j2, -, -⟩ := hoW.ms.open
  simp only at j0 j1 j2
  subst j0 j1 j2
  have HOW := hide hoW
  have q4 := (unhide Q3).of_block (hb4.block _ (by omega))
  have hb04 := (unhide HB3).trans (hb4.mono (unhide HB3).size)
  have q4a := fun o => q4.alloc o
  have k0 := fun o => (q4a o).cell (i := 0) (by omega); have k1 := fun o => (q4a o).cell (i := 1) (by omega); have k2 := fun o => (q4a o).cell (i := 2) (by omega)
  simp only [row3] at k0 k1 k2
  have HB4 := hide (fun o => hb04.alloc hb04.size o); have Q4 := hide q4; have HB04 := hide hb04
  clear hoW hb4 HSP Q3 HB3 hb04 q4 q4a
  go_wp2_with fail
  refine (unhide HCP _ (unhide HB4 _)).mono ?_
  rintro e w5 ⟨⟨x0, x1, x2⟩, rfl, hrx, hb5⟩
  clear k0 k1 k2 HB4
  obtain ⟨pW, hsW, hb45⟩ := kbox1 hb5
  obtain ⟨D1, hD, hD1, hD2⟩ : ∃ D : Nat → Prop, D = NewF (w4.alloc (.cells #[.slice u0 N.files.length y0, .slice u1 N.names.length y1, .slice u2 N.moves.length y2] 34)) w5 ∧ (∀ b, D b → w4.heap.size < b ∧ b < w5.heap.size) ∧ ∀ b, D b → FreeB w5 b :=
    ⟨_, rfl, fun b hb => ⟨by have := hb.1.1; rw [World.size_alloc] at this; omega, hb.1.2⟩, fun b hb => hb.2⟩
  rw [← hD] at hrx
  obtain ⟨a0, p0, g0, -, -⟩ := hrx.fs.open
  obtain ⟨a1, p1, g1, -, -⟩ := hrx.ns
  obtain ⟨a2, p2, g2, -, -⟩ := hrx.ms.open
  simp only at g0 g1 g2
  subst g0 g1 g2
  have hb05 := (unhide HB04).trans (hb45.mono (unhide HB04).size)
  have hs5 := hb05.size
  have HB5 := hide (fun o => hb05.alloc hs5 o); have HB05 := hide hb05; have HB45 := hide hb45
  have Q5 := hide ((unhide Q4).of_block (hb45.block _ (by omega)))
  have PW := hide pW; have HRX := hide hrx; have HD1 := hide hD1; have HD2 := hide hD2
  clear hb5 hb45 hb05 pW hrx hD1 hD2 hD Q4 HB04
  go_wp2_with fail
  refine (unhide HZ _ (unhide HB5 _)).mono ?_
  rintro e w6 ⟨vx, rfl, hvx, hrz, hzx, hb6⟩
  rw [World.size_alloc] at hvx hrz
  subst hvx
  obtain ⟨pX, hsX, hb56⟩ := kbox1 hb6
  have hs6 := hrz.lt
  have j0 := pX.cell (i := 0) (by omega); have j1 := pX.cell (i := 1) (by omega); have j2 := pX.cell (i := 2) (by omega)
  simp only [row3] at j0 j1 j2
  have him := implDiskCut_any t m zs (fun b => b < w6.heap.size) ⟨.slice a0 t.files.length p0, .slice a1 t.names.length p1, .slice a2 t.moves.length p2⟩ _ w6 (fun _ h => h) ((unhide HRX).carry (fun b hb => hb56.block b (unhide HD1 b hb).2) (fun b hb => by have := (unhide HD1 b hb).2; omega)) (hzx.carry (fun _ _ => rfl) (fun b hb => hb.2))
  rw [unhide HN] at him
  have HIM := hide him
  have HZX := hide hzx; have HRZ := hide hrz; have PX := hide pX; have HB56 := hide hb56
  clear hb6 him hzx hrz pX hb56 HB5
  go_wp2_with fail
  refine (unhide HIM).mono ?_
  rintro e w7 ⟨⟨g0, g1, g2⟩, F0, F1, F2, rfl, hoG, hnd, hlG, hb7⟩
  clear j0 j1 j2 HIM
  have hs7 := hb7.size
  have hat := hoG.at
  obtain ⟨b0, r0, i0, -, -⟩ := hat.fs.open
  obtain ⟨b1, r1, i1, -, -⟩ := hat.ns
  obtain ⟨b2, r2, i2, -, -⟩ := hat.ms.open
  simp only at i0 i1 i2
  subst i0 i1 i2
  clear hat
  have hb57 := (unhide HB56).trans (hb7.mono (by omega))
  have hb47 := (unhide HB45).trans (hb57.mono (by omega))
  have hb07 := (unhide HB05).trans (hb57.mono (by omega))
  have hs07 := hb07.size
  have hal : ∀ o, Below w7.heap.size w7 (w7.alloc o) := fun o => (Below.refl _ _).alloc (Nat.le_refl _) o
  have hst : ∀ o, o = Obj.cells #[.slice b0 N.files.length r0, .slice b1 N.names.length r1, .slice b2 N.moves.length r2] 34 → CSt w (w7.alloc o) ⟨c0, c1, c2⟩ ⟨.slice u0 N.files.length y0, .slice u1 N.names.length y1, .slice u2 N.moves.length y2⟩ ⟨.slice a0 t.files.length p0, .slice a1 t.names.length p1, .slice a2 t.moves.length p2⟩ ⟨.slice b0 N.files.length r0, .slice b1 N.names.length r1, .slice b2 N.moves.length r2⟩ N N w4.heap.size w5.heap.size w7.heap.size (New w3 w4) (fun b => D1 b ∨ b = w5.heap.size + 1) F0 F1 F2 := fun o ho => by
    subst ho
    refine ⟨hb07.alloc hs07 _, ((unhide Q5).of_block (hb57.block _ (by omega))).alloc _, ((unhide PW).of_block (hb57.block _ (by omega))).alloc _, ((unhide PX).of_block (hb7.block _ (by omega))).alloc _, row3_alloc _ _ _ _ _, (unhide HOW).carry (fun b hb => ((hal _).block b (by have := hb.2; omega)).trans (hb47.block b hb.2)) (fun _ h => h), hoG.carry (fun b hb => (hal _).block b (hlG b hb).2), hnd, fun b hb => by have := hb.2; rw [World.size_alloc]; omega, fun b hb => ?_, fun b hb => ?_⟩
    · rcases hb with hb | rfl
      · have h1 := unhide HD1 b hb
        refine ⟨by omega, by omega, by omega, by omega, fun h => by have := h.2; omega, fun h => by have := (hlG b h).1; omega⟩
      · refine ⟨by omega, by omega, by omega, by omega, fun h => by have := h.2; omega, fun h => by have := (hlG _ h).1; omega⟩
    · have h1 := hlG b hb
      refine ⟨by omega, by omega, by omega, by omega, fun h => by have := h.2; omega, by rw [World.size_alloc]; omega⟩
  have hqW := fun o => ((unhide PW).of_block (hb57.block _ (by omega))).alloc (o := o)
  have k0 := fun o => (hqW (o := o)).cell (i := 0) (by omega); have k1 := fun o => (hqW (o := o)).cell (i := 1) (by omega); have k2 := fun o => (hqW (o := o)).cell (i := 2) (by omega)
  simp only [row3] at k0 k1 k2
  have HRX7 := hide (fun (W : World) (hW : Below w7.heap.size w7 W) => (unhide HRX).carry (w' := W) (Q := D1) (fun b hb => (hW.block b (by have := (unhide HD1 b hb).2; omega)).trans (hb57.block b (unhide HD1 b hb).2)) (fun _ h => h))
  have HFX7 := hide (fun (W : World) (hW : Below w7.heap.size w7 W) b (hb : D1 b) => (unhide HD2 b hb).of_block ((hW.block b (by have := (unhide HD1 b hb).2; omega)).trans (hb57.block b (unhide HD1 b hb).2)))
  have HZX7 := hide (fun (W : World) (hW : Below w7.heap.size w7 W) => (unhide HZX).carry (w' := W) (Q := fun b => b < w6.heap.size) (fun b hb => (hW.block b (by have := hb.2; omega)).trans (hb7.block b hb.2)) (fun b hb => hb.2))
  have HRZ7 := hide (fun (W : World) (hW : Below w7.heap.size w7 W) => ((unhide HRZ).of_block (w' := W) ((hW.block _ (by omega)).trans (hb7.block _ hs6))))
  have HST := hide hst; have HAL := hide hal
  have hd57 : Hid (∀ b, D1 b → b < w7.heap.size) := fun b hb => by have := (unhide HD1 b hb).2; omega
  have hne : Hid (∀ b, D1 b → b ≠ w5.heap.size + 1) := fun b hb => by have := (unhide HD1 b hb).2; omega
  clear hst hal hqW hb07 hb47 hb57 hb7 hoG hnd hlG HOW PW PX HRX HD1 HD2 HZX HRZ HB05 HB45 HB56 Q5
  go_wp2_with fail
  refine (unhide HST _ rfl).eq.mono ?_
  rintro e wa ⟨rfl, hba⟩
  clear k0 k1 k2
  have hsta := (unhide HST _ rfl).on hba
  have HBa := hide ((unhide HAL _).trans (hba.mono (unhide HAL _).size))
  have k0 := hsta.bA.cell (i := 0) (by omega); have k1 := hsta.bA.cell (i := 1) (by omega); have k2 := hsta.bA.cell (i := 2) (by omega)
  simp only [row3] at k0 k1 k2
  have j0 := hsta.bX.cell (i := 0) (by omega); have j1 := hsta.bX.cell (i := 1) (by omega); have j2 := hsta.bX.cell (i := 2) (by omega)
  simp only [row3] at j0 j1 j2
  have HSTa := hide hsta
  clear hsta hba HST HAL
  go_wp2_with fail
  go_region_with (first
    | (go_at_call 10
       refine (unhide HCP wa.drew (unhide HSTa).below.drew).mono ?_
       rintro e wb ⟨⟨z0, z1, z2⟩, rfl, hry, hbb⟩
       have hbab : Below wa.heap.size wa wb := (Below.refl _ wa).drew.trans hbb
       have hstb := (unhide HSTa).on hbab
       have i0 := hstb.bX.cell (i := 0) (by omega)
       have i1 := hstb.bX.cell (i := 1) (by omega)
       have i2 := hstb.bX.cell (i := 2) (by omega)
       simp only [row3] at i0 i1 i2
       have HBb := hide ((unhide HBa).trans (hbab.mono (unhide HBa).size))
       have HEK := hide (eqDisk_any t D1 (NewF wa.drew wb) ⟨.slice a0 t.files.length p0, .slice a1 t.names.length p1, .slice a2 t.moves.length p2⟩ ⟨z0, z1, z2⟩ wb (fun b hb => Nat.lt_of_lt_of_le (hd57.out b hb) (unhide HBb).size) (fun b hb => hb.1.2) (unhide HRX7 wb (unhide HBb)) hry)
       have HSTb := hide hstb
       clear hstb hry hbb hbab)
    | (go_at_call 13
       refine (unhide HEK).mono ?_
       rintro e wc ⟨rfl, hbc⟩
       have HSTc := hide ((unhide HSTb).on hbc)
       have HBc := hide ((unhide HBb).trans (hbc.mono (unhide HBb).size))
       have l0 := (unhide HSTc).bX.cell (i := 0) (by omega)
       have l1 := (unhide HSTc).bX.cell (i := 1) (by omega)
       have l2 := (unhide HSTc).bX.cell (i := 2) (by omega)
       simp only [row3] at l0 l1 l2
       clear hbc))
  all_goals
    clear k0 k1 k2 j0 j1 j2 i0 i1 i2 HEK HSTb HBb HSTa HBa
    go_wp2_with fail
    refine (unhide HZ _ (unhide HSTc).below).mono ?_
    rintro e wd ⟨vy, rfl, rfl, -, hzy, hbd⟩
    have hBd := (unhide HBc).trans (hbd.mono (unhide HBc).size)
    have HEZ := hide (eqIntS_any _ _ zs wd (unhide HZX7 wd hBd) hzy (fun b hb => by have := hBd.size; omega) (fun b hb => hb.2))
    have HSTd := hide ((unhide HSTc).on hbd); have HBd := hide hBd
    clear l0 l1 l2 hzy hbd hBd HSTc HBc
    go_wp2_with fail
    refine (unhide HEZ).mono ?_
    rintro e we ⟨rfl, hbe⟩
    have hste := (unhide HSTd).on hbe
    have hBe := (unhide HBd).trans (hbe.mono (unhide HBd).size)
    have j0 := hste.bX.cell (i := 0) (by omega); have j1 := hste.bX.cell (i := 1) (by omega); have j2 := hste.bX.cell (i := 2) (by omega)
    simp only [row3] at j0 j1 j2
    have hmkb : 1 + mkD t ≤ 1099511627776 := by
      have h := unhide HWT
      have := wF_len t.files; have := wS_len t.names; have := wM_len t.moves
      unfold wDk at h; unfold mkD; omega
    have hmkc : 1 + mkD t + zs.length ≤ 1099511627776 := by
      have h := unhide HWT
      have := wF_len t.files; have := wS_len t.names; have := wM_len t.moves
      unfold wDk at h; unfold mkD; omega
    have HMK := hide (markDisk_shp D1 t ⟨.slice a0 t.files.length p0, .slice a1 t.names.length p1, .slice a2 t.moves.length p2⟩ 1 we ((unhide HRX7 we hBe).shp (fun b hb => unhide HFX7 we hBe b hb)) (fun b hb => Nat.lt_of_lt_of_le (hd57.out b hb) hBe.size) (by omega) hmkb)
    have HRZe := hide (unhide HRZ7 we hBe)
    have HSTe := hide hste
    clear hbe hBe hste HRX7 HFX7 HZX7 HRZ7 HSTd HBd HEZ hd57 hmkb
    go_wp2_with fail
    refine (unhide HMK).mono ?_
    rintro e wf ⟨rfl, hlf⟩
    have hrzf := (unhide HRZe).of_block (hlf.block _ (unhide HRZe).lt (fun hd => hne.out _ hd rfl))
    have HMZ := hide (markIntS_shp (fun b => b = w5.heap.size + 1) _ zs.length (1 + mkD t) wf (zshp_of_row hrzf (by omega) rfl) hmkc)
    have HSTf := hide ((unhide HSTe).like hlf (fun b hb => Or.inl hb))
    clear j0 j1 j2 hlf hrzf HMK HRZe HSTe hne hmkc
    generalize 1 + mkD t = mk at *
    go_wp2_with fail
    refine (unhide HMZ).mono ?_
    rintro e wg ⟨rfl, hlg⟩
    have hstg := (unhide HSTf).like hlg (fun b hb => Or.inr hb)
    clear hlg HMZ HSTf
    generalize mk + zs.length = mz at *
    have j0 := hstg.bG.cell (i := 0) (by omega); have j1 := hstg.bG.cell (i := 1) (by omega); have j2 := hstg.bG.cell (i := 2) (by omega)
    simp only [row3] at j0 j1 j2
    have k0 := hstg.bW.cell (i := 0) (by omega); have k1 := hstg.bW.cell (i := 1) (by omega); have k2 := hstg.bW.cell (i := 2) (by omega)
    simp only [row3] at k0 k1 k2
    have HSTg := hide hstg
    clear hstg
    go_wp2_with fail
    refine (unhide HSTg).eq.mono ?_
    rintro e wh ⟨rfl, hbh⟩
    have hsth := (unhide HSTg).on hbh
    clear hbh HSTg j0 j1 j2 k0 k1 k2
    have j0 := hsth.bG.cell (i := 0) (by omega); have j1 := hsth.bG.cell (i := 1) (by omega); have j2 := hsth.bG.cell (i := 2) (by omega)
    simp only [row3] at j0 j1 j2
    have hsm := unhide HSM
    have HMT := hide (hsth.mark hsm)
    clear hsth
    go_wp2_with fail
    refine (unhide HMT).mono ?_
    rintro e wi ⟨rfl, hsti⟩
    clear j0 j1 j2 HMT
    have j0 := hsti.bG.cell (i := 0) (by omega); have j1 := hsti.bG.cell (i := 1) (by omega); have j2 := hsti.bG.cell (i := 2) (by omega)
    simp only [row3] at j0 j1 j2
    have HHT := hide (hsti.held hsm)
    clear hsti
    generalize hmt : 1 + mkD N = mt at *
    have hmt1 : 1 ≤ mt := by omega
    have hmt2 : mt ≤ 100001 := by omega
    have HME := hide hmt
    clear hmt
    go_wp2_with fail
    refine (unhide HHT).mono ?_
    rintro e wj ⟨rfl, hstj⟩
    clear HHT j0 j1 j2
    have k0 := hstj.bA.cell (i := 0) (by omega); have k1 := hstj.bA.cell (i := 1) (by omega); have k2 := hstj.bA.cell (i := 2) (by omega)
    simp only [row3] at k0 k1 k2
    have HC := hide (unhide HCP wj hstj.below)
    have HSTj := hide hstj
    clear hstj
    go_wp2_with fail
    refine (unhide HC).mono ?_
    rintro e wk ⟨⟨d0, d1, d2⟩, rfl, hrd, hbk⟩
    clear HC k0 k1 k2
    have HSTk := hide ((unhide HSTj).on hbk); have HRD := hide hrd
    clear HSTj hrd hbk
    go_wp2_with fail
    refine (unhide HZ _ (unhide HSTk).below).mono ?_
    rintro e wl ⟨vz2, rfl, rfl, -, hzz, hbl⟩
    have hsl := hbl.size
    have him := implDiskCut_any t m zs (fun b => b < wl.heap.size) ⟨d0, d1, d2⟩ _ wl (fun _ h => h) ((unhide HRD).carry (fun b hb => hbl.block b hb.1.2) (fun b hb => by have := hb.1.2; omega)) (hzz.carry (fun _ _ => rfl) (fun b hb => hb.2))
    rw [unhide HN] at him
    have HIM := hide him
    have HSTl := hide ((unhide HSTk).on hbl)
    clear HSTk him hzz hbl HRD
    go_wp2_with fail
    refine (unhide HIM).mono ?_
    rintro e wm ⟨⟨h0, h1, h2⟩, E0, E1, E2, rfl, hoH, -, hlH, hbm⟩
    have hstm := (unhide HSTl).on hbm
    have hat := hoH.at
    obtain ⟨v0, s0, i0, -, -⟩ := hat.fs.open
    obtain ⟨v1, s1, i1, -, -⟩ := hat.ns
    obtain ⟨v2, s2, i2, -, -⟩ := hat.ms.open
    simp only at i0 i1 i2
    subst i0 i1 i2
    have hal : ∀ o, Below wm.heap.size wm (wm.alloc o) := fun o => (Below.refl _ _).alloc (Nat.le_refl _) o
    have HSTn := hide (fun o => hstm.on (hal o))
    have hqW := fun o => ((unhide HSTn) o).bW
    have k0 := fun o => (hqW o).cell (i := 0) (by omega); have k1 := fun o => (hqW o).cell (i := 1) (by omega); have k2 := fun o => (hqW o).cell (i := 2) (by omega)
    simp only [row3] at k0 k1 k2
    have HEQ := hide (fun o => eqDisk_any N _ (New w3 w4) ⟨.slice v0 N.files.length s0, .slice v1 N.names.length s1, .slice v2 N.moves.length s2⟩ ⟨.slice u0 N.files.length y0, .slice u1 N.names.length y1, .slice u2 N.moves.length y2⟩ (wm.alloc o) (fun b hb => by rw [World.size_alloc]; omega) ((unhide HSTn) o).lW (hat.carry (Q := fun b => b < wm.heap.size) (fun b hb => (hal o).block b (hlH b hb).2) (fun b hb => (hlH b hb).2)) ((unhide HSTn) o).oW)
    clear hoH hlH hbm hstm HIM HSTl hat hal hqW
    go_wp2_with fail
    refine (unhide HEQ _).mono ?_
    rintro e wn ⟨rfl, hbn⟩
    have hstn := ((unhide HSTn) _).on hbn
    have hht := hstn.held hsm
    rw [unhide HME] at hht
    have HHT := hide hht
    clear k0 k1 k2
    have j0 := hstn.bG.cell (i := 0) (by omega); have j1 := hstn.bG.cell (i := 1) (by omega); have j2 := hstn.bG.cell (i := 2) (by omega)
    simp only [row3] at j0 j1 j2
    clear hbn HEQ HSTn hstn hht
    go_wp2_with fail
    refine (unhide HHT).mono ?_
    rintro e wo ⟨rfl, hsto⟩
    have HB := hide hsto.below
    clear hsto HHT j0 j1 j2
    go_wp2_with fail
    go_ret
    exact ⟨rfl, unhide HB⟩
end Go.Proofs.Ytmaojhacdelleaa

/- What is read of a list of strings that comes in is one that lies in memory. No conditions. -/

namespace Go.Proofs.Ytmaojhacdelleaa
open Go Go.RowKit Go.ChangeShapes Go.WideShapes Go.ChangeAt Go.Deep

theorem cellsStr : Try.prog.cellsOf 9 = 1 := by kernel_rfl

section
variable {H : Type} {enc : TypeId × Value → H} {W : World} {spare : Nat → Bool} {held : Bool}

theorem strs_of_trod {fuel : Nat} {v : Value} {x : DataW H × List MemPlace} (h : DataW.trod enc Try.prog W 0 spare held fuel 23 [v] = some x) :
    ∃ ss, StrsAt (fun b => b < W.heap.size) W v ss := by
  rcases open_strings Try.underlying23 Try.underlying9 cellsStr h with ⟨hcs, -⟩ | ⟨a, len, cap, ss, hcs, -, hl, hm, hz, -, hcell, hws⟩
  · simp only [List.cons.injEq, and_true] at hcs
    exact ⟨[], none, 0, hcs, by simp, fun i hi => by simp at hi⟩
  · simp only [List.cons.injEq, and_true] at hcs
    have hle : len ≤ ss.length := by rw [hz]; split <;> omega
    unfold maxLen at hm
    refine ⟨ss.take len, some a, cap, by rw [hcs]; simp; omega, by simp; omega, fun i hi => ?_⟩
    have hi' : i < len := by simp at hi; omega
    obtain ⟨b, off, spot⟩ := a
    have hspot : spot = none := by simpa [Addr.add] using World.cell?_spot (hcell 0 (by omega))
    subst hspot
    have hc := hcell i (by omega)
    rw [Addr.add_lit] at hc
    refine ⟨b, off, rfl, World.block_lt_of_cell? W _ hc, ?_, ?_⟩
    · rw [hc]; simp [show i < ss.length by omega]
    · have := hws ss[i] (List.getElem_mem (by omega)); unfold maxLen at this; simpa using this
end
end Go.Proofs.Ytmaojhacdelleaa
