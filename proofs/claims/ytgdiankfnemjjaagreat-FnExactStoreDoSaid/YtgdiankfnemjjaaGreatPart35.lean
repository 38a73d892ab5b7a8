/- The walk of the law on StoreDo: whatever disk, writes and act come in, it answers true, and turns nothing that was there. No conditions. -/
import Derived.Test.YtgdiankfnemjjaaGreatPart34
import Derived.Handy
import Derived.Test.YtgdiankfnemjjaaGreatRows
import Derived.Test.YtgdiankfnemjjaaGreatPart00
import Derived.ProofKit
import Derived.OpenShut
import Derived.Deep.Fields
import Derived.Deep.Slices
namespace Go.Proofs.YtgdiankfnemjjaaGreat
open Go Go.RowKit

theorem dcar3 {P Q : Nat → Prop} {w w' : World} (hP : ∀ b, P b → w'.heap[b]? = w.heap[b]?) (hQ : ∀ b, P b → Q b) (d : Dk) (c : C3) (h : DkAt P w d c) : DkAt Q w' d c := h.carry hP hQ
set_option maxRecDepth 100000 in
set_option maxHeartbeats 6400000 in
theorem lawStoreDo_any (t : Dk) (ws : List Wr) (ac : Ac) (P : Nat → Prop) (c : C3) (v1 kv : Value) (w : World) (hP : ∀ b, P b → b < w.heap.size) (hrep : DkAt P w t c) (hws : WsAt P w v1 ws) (hkz : ZsAt P w kv ac.keep) (hds : ac.data.size ≤ 9223372036854775807) :
    Calls Tryz.prog 3 #[.agg #[c.c0, c.c1, c.c2], v1, .agg #[.int .i64 ac.kind, .string ac.data, .bool ac.cuts, .int .i64 ac.after, .int .i64 ac.moves, kv]] w fun e w' => e = .returned (.bool true) ∧ Below w.heap.size w w' := by
  obtain ⟨c0, c1, c2⟩ := c
  have HP := hide hP; have HREP := hide hrep; have HWSR := hide hws; have HKZR := hide hkz
  have hbx : ∀ o o', Below w.heap.size w ((w.alloc o).alloc o') := fun o o' => ((Below.refl _ _).alloc (Nat.le_refl _) o).alloc (by simp) o'
  have hcp : Hid (wDk t ≤ 1048576 → ∀ W, Below w.heap.size w W → Calls Tryz.prog 8 #[.agg #[c0, c1, c2]] W fun e w' => ∃ c' : C3, e = .returned (.agg #[c'.c0, c'.c1, c'.c2]) ∧ DkAt (NewF W w') w' t c' ∧ Below W.heap.size W w') := fun hwt W hW =>
    toDisk_free t P ⟨c0, c1, c2⟩ W (fun b hb => Nat.lt_of_lt_of_le (hP b hb) hW.size) (hrep.carry (fun b hb => hW.block b (hP b hb)) (fun _ h => h)) hwt
  have htw : Hid (ws.length ≤ 1048576 → ∀ W, Below w.heap.size w W → Calls Tryz.prog 9 #[v1] W fun e w' => ∃ s, e = .returned (.slice s ws.length ws.length) ∧ WsAt (NewF W w') w' (.slice s ws.length ws.length) ws ∧ Below W.heap.size W w') := fun hl W hW =>
    toDiskWriteS_any v1 ws W (P := P) (fun b hb => Nat.lt_of_lt_of_le (hP b hb) hW.size) (hws.carry (fun b hb => hW.block b (hP b hb)) (fun _ h => h)) hl
  have hta : Hid (ac.keep.length ≤ 1048576 → ∀ W, Below w.heap.size w W → Calls Tryz.prog 10 #[.agg #[.int .i64 ac.kind, .string ac.data, .bool ac.cuts, .int .i64 ac.after, .int .i64 ac.moves, kv]] W fun e w' => ∃ v' g, e = .returned (.agg #[.int .i64 ac.kind, .string ac.data, .bool ac.cuts, .int .i64 ac.after, .int .i64 ac.moves, v']) ∧ v' = .slice (some ⟨g, 0, none⟩) ac.keep.length ac.keep.length ∧ W.heap.size ≤ g ∧ w'.rowIs g 3 ac.keep.length (fun j => .int .i64 (ac.keep.getD j 0)) ∧ ZsAt (New W w') w' v' ac.keep ∧ Below W.heap.size W w') := fun hl W hW =>
    toLogAct_any ac kv P W (fun b hb => Nat.lt_of_lt_of_le (hP b hb) hW.size) (hkz.carry (fun b hb => hW.block b (hP b hb)) (fun _ h => h)) hl
  have HBX := hide hbx
  have HSM := hide (soD_small t ws ac)
  have hr0 : ∀ o', ((w.alloc (.cells #[c0, c1, c2] 26)).alloc o').rowIs w.heap.size 26 3 (row3 c0 c1 c2) := fun o' => (row3_alloc w c0 c1 c2 26).alloc o'
  have hr1 : ∀ o, ((w.alloc o).alloc (.cells #[.int .i64 ac.kind, .string ac.data, .bool ac.cuts, .int .i64 ac.after, .int .i64 ac.moves, kv] 30)).rowIs (w.heap.size + 1) 30 6 (r6A (.int .i64 ac.kind) (.string ac.data) (.bool ac.cuts) (.int .i64 ac.after) (.int .i64 ac.moves) kv) := fun o => by
    have := r6A_alloc (w.alloc o) (.int .i64 ac.kind) (.string ac.data) (.bool ac.cuts) (.int .i64 ac.after) (.int .i64 ac.moves) kv 30
    rw [World.size_alloc] at this
    exact this
  have HR0 := hide hr0; have HR1 := hide hr1
  obtain ⟨ak, ck, ekv, -, -⟩ := hkz
  subst ekv
  obtain ⟨av, cv, ev, hwlen, -⟩ := hws.open
  subst ev
  clear hP hrep hbx hr0 hr1 hws
  go_enter Tryz.func3, Tryz.ntmps3
  go_wp2_with fail
  refine (szDisk_any t P ⟨c0, c1, c2⟩ _ _ (fun b hb => Nat.lt_of_lt_of_le (unhide HP b hb) (unhide HBX _ _).size) (dcar3 (fun b hb => (unhide HBX _ _).block b (unhide HP b hb)) (fun _ h => h) _ _ (unhide HREP)) (by omega) (by omega)).mono ?_
  rintro e w1 ⟨r, rfl, hr, hb1⟩
  have hs1 : w.heap.size + 2 ≤ w1.heap.size := by have := hb1.size; simpa using this
  have hb01 := (unhide HBX _ _).trans (hb1.mono (unhide HBX _ _).size)
  have q0 := (unhide HR0 _).of_block (hb1.block w.heap.size (by simp; omega))
  have q1 := (unhide HR1 _).of_block (hb1.block (w.heap.size + 1) (by simp))
  clear hb1 HR0 HR1
  rcases hr with rfl | ⟨hr0, hr1⟩
  · have HB := hide hb01; clear hb01 q0 q1
    go_wp2_with fail
    go_ret
    exact ⟨rfl, unhide HB⟩
  have hwt : wDk t ≤ 1048576 := by omega
  have HCP := hide (unhide hcp hwt); have HWT := hide hwt
  have HSZ := hide (szDiskWriteS_any (.slice av ws.length cv) ws r w1 (P := P) (fun b hb => Nat.lt_of_lt_of_le (unhide HP b hb) hb01.size) ((unhide HWSR).carry (fun b hb => hb01.block b (unhide HP b hb)) (fun _ h => h)) hr0 (by omega))
  have Q0 := hide q0; have Q1 := hide q1; have HB1 := hide hb01
  clear q0 q1 hb01 hwt hcp
  have hrle : r ≤ 1048576 := by omega
  clear hr1
  go_wp2_with fail
  refine (unhide HSZ).mono ?_
  rintro e w2 ⟨s, rfl, hs, hb2⟩
  clear HSZ
  have hs2 := hb2.size
  have hb02 := (unhide HB1).trans (hb2.mono (unhide HB1).size)
  rcases hs with rfl | ⟨hsp, hse⟩
  · have HB := hide hb02; clear hb02 hb2
    go_wp2_with fail
    go_ret
    exact ⟨rfl, unhide HB⟩
  have hww : wW ws ≤ 1048576 := by omega
  have hsle : s ≤ 1048576 := by omega
  have q0 := (unhide Q0).of_block (hb2.block _ (by omega)); have q1 := (unhide Q1).of_block (hb2.block _ (by omega))
  have k0 := q1.cell (i := 0) (by omega); have k1 := q1.cell (i := 1) (by omega); have k2 := q1.cell (i := 2) (by omega); have k3 := q1.cell (i := 3) (by omega); have k4 := q1.cell (i := 4) (by omega); have k5 := q1.cell (i := 5) (by omega)
  simp only [r6A] at k0 k1 k2 k3 k4 k5
  have HSA := hide (szLogAct_any ac (.slice ak ac.keep.length ck) P s w2 (fun b hb => Nat.lt_of_lt_of_le (unhide HP b hb) hb02.size) ((unhide HKZR).carry (fun b hb => hb02.block b (unhide HP b hb)) (fun _ h => h)) hds hsp hsle)
  have HWW := hide hww; have HQ0 := hide q0; have HQ1 := hide q1; have HB2 := hide hb02
  have HTW := hide (unhide htw (by have := wW_len ws; omega))
  have HSX := hide (show ∀ x, x ∈ ws → x.x.size ≤ 1048576 from fun x hx => by have := wW_mem hx; omega)
  clear q0 q1 hb2 hb02 hse hww Q0 Q1 HB1 htw hrle hr0
  go_wp2_with fail
  refine (unhide HSA).mono ?_
  rintro e w3 ⟨⟨u, rfl, hu⟩, hb3⟩
  clear HSA k0 k1 k2 k3 k4 k5
  have hs3 := hb3.size
  have hb03 := (unhide HB2).trans (hb3.mono (unhide HB2).size)
  rcases hu with rfl | ⟨hup, hue⟩
  · have HB := hide hb03; clear hb03 hb3
    go_wp2_with fail
    go_ret
    exact ⟨rfl, unhide HB⟩
  have hkl : ac.keep.length ≤ 1048576 := by omega
  have HTA := hide (unhide hta hkl); have HKL := hide hkl
  have q0 := (unhide HQ0).of_block (hb3.block _ (by omega)); have q1 := (unhide HQ1).of_block (hb3.block _ (by omega))
  have Q0 := hide q0; have Q1 := hide q1; have HB3 := hide hb03
  clear q0 q1 hb3 hb03 hue HQ0 HQ1 HB2 hta hkl hsle hsp
  go_upto_region 11 with fail
  refine wp_swap (c' := Code.region 11 ls11Ops true) (by kernel_rfl) ?_
  refine wp_region_noPanic ?_
  refine ls11 t (soD t ws ac).1 (soD t ws ac).2 ws ac (.slice av ws.length cv) (.slice ak ac.keep.length ck) w3 c0 c1 c2 w.heap.size (w.heap.size + 1) (unhide Q0) (unhide Q1) (fun W hW => unhide HCP W ((unhide HB3).drew.trans (hW.mono (unhide HB3).drew.size))) (fun W hW => unhide HTW W ((unhide HB3).drew.trans (hW.mono (unhide HB3).drew.size))) (fun W hW => unhide HTA W ((unhide HB3).drew.trans (hW.mono (unhide HB3).drew.size))) (fun a s kx W ha hs hk => specStoreDo_any t ws ac _ a _ kx W (fun _ h => h) ha hs hk (unhide HSX)) _ (fun _ _ _ _ _ h => h) (by kernel_rfl) ?_
  intro v dW g8 W4 hoW hrW hg8 hb4
  refine NoPanic.normal ?_
  simp only [frL_eq, frG, List.lookup, Nat.reduceBEq, Nat.reduceAdd, Option.getD_some, Option.getD_none]
  have hdr : w3.drew.heap.size = w3.heap.size := rfl
  rw [hdr] at hoW hg8 hb4
  have hb34 : Below w3.heap.size w3 W4 := ((Below.refl _ w3).drew).trans hb4
  generalize hN : (soD t ws ac).1 = N at *
  generalize hn : (soD t ws ac).2 = n at *
  have HN := hide hN; have Hn := hide hn
  clear hN hn hdr
  have hs4 := hb34.size
  have hb04 := (unhide HB3).trans (hb34.mono (unhide HB3).size)
  have q0 := (unhide Q0).of_block (hb34.block _ (by omega))
  have q1 := (unhide Q1).of_block (hb34.block _ (by omega))
  have k0 := q0.cell (i := 0) (by omega); have k1 := q0.cell (i := 1) (by omega); have k2 := q0.cell (i := 2) (by omega)
  simp only [row3] at k0 k1 k2
  have hgl := hrW.lt
  have HOW := hide hoW; have HRW := hide hrW; have HB4 := hide hb04; have HQ0 := hide q0; have HQ1 := hide q1
  clear hoW hrW hb4 hb34 hb04 q0 q1 Q0 Q1 HB3
  obtain ⟨e0, e1, e2⟩ := dW
  go_wp2_with fail
  refine (unhide HCP _ (unhide HB4)).mono ?_
  rintro e w5 ⟨⟨x0, x1, x2⟩, rfl, hrx, hb5⟩
  clear k0 k1 k2
  have hs5 := hb5.size
  obtain ⟨a0, p0, g0, -, -⟩ := hrx.fs.open
  obtain ⟨a1, p1, g1, -, -⟩ := hrx.ns
  obtain ⟨a2, p2, g2, -, -⟩ := hrx.ms.open
  simp only at g0 g1 g2
  subst g0 g1 g2
  have hal5 : ∀ o, Below w5.heap.size w5 (w5.alloc o) := fun o => (Below.refl _ _).alloc (Nat.le_refl _) o
  have hb05 := (unhide HB4).trans (hb5.mono (unhide HB4).size)
  have hb05a : ∀ o, Below w.heap.size w (w5.alloc o) := fun o => hb05.trans ((hal5 o).mono hb05.size)
  have HRX := hide hrx; have HB45 := hide hb5; have HB05 := hide hb05; have HB05A := hide hb05a; have HAL5 := hide hal5
  clear hrx hb5 hb05 hal5 hb05a
  go_wp2_with fail
  refine (unhide HTW _ (unhide HB05A _)).mono ?_
  rintro e w6 ⟨s1, rfl, hw1, hb6⟩
  have hs6 : w5.heap.size + 1 ≤ w6.heap.size := by have := hb6.size; simpa using this
  have hb56 := (unhide HAL5 _).trans (hb6.mono (unhide HAL5 _).size)
  have hpX := (row3_alloc w5 (.slice a0 t.files.length p0) (.slice a1 t.names.length p1) (.slice a2 t.moves.length p2) 37).of_block (hb6.block w5.heap.size (by simp))
  have hD1 : ∃ D1 : Nat → Prop, (∀ b, NewF (w5.alloc (.cells #[.slice a0 t.files.length p0, .slice a1 t.names.length p1, .slice a2 t.moves.length p2] 37)) w6 b → D1 b) ∧ ∀ b, D1 b → w5.heap.size < b ∧ b < w6.heap.size ∧ FreeB w6 b := ⟨NewF (w5.alloc (.cells #[.slice a0 t.files.length p0, .slice a1 t.names.length p1, .slice a2 t.moves.length p2] 37)) w6, fun _ h => h, fun b hb => ⟨by have := hb.1.1; rw [World.size_alloc] at this; omega, hb.1.2, hb.2⟩⟩
  obtain ⟨D1, hD1a, hD1⟩ := hD1
  have hw1 := hw1.carry (fun _ _ => rfl) hD1a
  have hb06 := (unhide HB05).trans (hb56.mono (unhide HB05).size)
  have hb46 := (unhide HB45).trans (hb56.mono (by omega))
  have q1 := (unhide HQ1).of_block (hb46.block _ (by omega))
  have k0 := q1.cell (i := 0) (by omega); have k1 := q1.cell (i := 1) (by omega); have k2 := q1.cell (i := 2) (by omega); have k3 := q1.cell (i := 3) (by omega); have k4 := q1.cell (i := 4) (by omega); have k5 := q1.cell (i := 5) (by omega)
  simp only [r6A] at k0 k1 k2 k3 k4 k5
  have HW1 := hide hw1; have HB56 := hide hb56; have HB06 := hide hb06; have HB46 := hide hb46; have PX := hide hpX; have HD1 := hide hD1
  clear hw1 hb6 hb56 hpX hD1a hD1 hb06 hb46 q1 HB05A HAL5
  go_wp2_with fail
  refine (unhide HTA _ (unhide HB06)).mono ?_
  rintro e w7 ⟨kx, gk, rfl, hkx, hgk, hrk, hzk, hb7⟩
  subst hkx
  clear k0 k1 k2 k3 k4 k5
  have hs7 := hb7.size
  have hgl7 := hrk.lt
  have hal7 : ∀ o, Below w7.heap.size w7 (w7.alloc o) := fun o => (Below.refl _ _).alloc (Nat.le_refl _) o
  have hb57 := (unhide HB56).trans (hb7.mono (by omega))
  have pX7 := fun o => ((unhide PX).of_block (hb7.block _ (by omega))).alloc (o := o)
  have j0 := fun o => (pX7 (o := o)).cell (i := 0) (by omega); have j1 := fun o => (pX7 (o := o)).cell (i := 1) (by omega); have j2 := fun o => (pX7 (o := o)).cell (i := 2) (by omega)
  simp only [row3] at j0 j1 j2
  have him : ∀ o, Calls Tryz.prog 11 #[.agg #[.slice a0 t.files.length p0, .slice a1 t.names.length p1, .slice a2 t.moves.length p2], .slice s1 ws.length ws.length, .agg #[.int .i64 ac.kind, .string ac.data, .bool ac.cuts, .int .i64 ac.after, .int .i64 ac.moves, .slice (some ⟨gk, 0, none⟩) ac.keep.length ac.keep.length]] (w7.alloc o) fun e w' => OwnEnd2 (w7.alloc o) w' e N n := fun o => by
    have := implStoreDo_any t ws ac (fun b => b < w7.heap.size) ⟨.slice a0 t.files.length p0, .slice a1 t.names.length p1, .slice a2 t.moves.length p2⟩ s1 (.slice (some ⟨gk, 0, none⟩) ac.keep.length ac.keep.length) (w7.alloc o) (fun b hb => by rw [World.size_alloc]; omega) ((unhide HRX).carry (fun b hb => ((hal7 o).block b (by have := hb.1.2; omega)).trans (hb57.block b hb.1.2)) (fun b hb => by have := hb.1.2; omega)) ((unhide HW1).carry (fun b hb => ((hal7 o).block b (by have := (unhide HD1 b hb).2.1; omega)).trans (hb7.block b (unhide HD1 b hb).2.1)) (fun b hb => by have := (unhide HD1 b hb).2.1; omega)) (hzk.carry (fun b hb => (hal7 o).block b hb.2) (fun b hb => hb.2)) (unhide HSX)
    rw [unhide HN, unhide Hn] at this
    exact this
  have HIM := hide him; have HAL7 := hide hal7; have HB7 := hide hb7; have HB57 := hide hb57; have HRK := hide hrk; have HZK := hide hzk
  clear him hal7 hb7 hb57 hrk hzk pX7
  go_wp2_with fail
  refine (unhide HIM _).mono ?_
  rintro e w9 ⟨⟨f0, f1, f2⟩, F0, F1, F2, rfl, hoG, hnd, hlG, hb9⟩
  clear j0 j1 j2 HIM
  have hs9 : w7.heap.size + 1 ≤ w9.heap.size := by have := hb9.size; simpa using this
  have hlG' : ∀ b, b ∈ F0 ++ F1 ++ F2 → w7.heap.size < b ∧ b < w9.heap.size := fun b hb => by have := hlG b hb; rw [World.size_alloc] at this; omega
  have hat := hoG.at
  obtain ⟨b0, r0, i0, -, -⟩ := hat.fs.open
  obtain ⟨b1, r1, i1, -, -⟩ := hat.ns
  obtain ⟨b2, r2, i2, -, -⟩ := hat.ms.open
  simp only at i0 i1 i2
  subst i0 i1 i2
  clear hat hlG
  have hb79 := (unhide HAL7 _).trans (hb9.mono (unhide HAL7 _).size)
  have hb59 := (unhide HB57).trans (hb79.mono (by omega))
  have hb49 := (unhide HB45).trans (hb59.mono (by omega))
  have hb09 := (unhide HB4).trans (hb49.mono (unhide HB4).size)
  have hbX := (r6A_alloc w7 (.int .i64 ac.kind) (.string ac.data) (.bool ac.cuts) (.int .i64 ac.after) (.int .i64 ac.moves) (.slice (some ⟨gk, 0, none⟩) ac.keep.length ac.keep.length) 43).of_block (hb9.block w7.heap.size (by simp))
  have hal9 : ∀ o, Below w9.heap.size w9 (w9.alloc o) := fun o => (Below.refl _ _).alloc (Nat.le_refl _) o
  have hbs9 := hb09.size
  obtain ⟨DD, hDDi, hDDe⟩ : ∃ DD : Nat → Prop, (∀ b, (NewF W4 w5 b ∨ D1 b ∨ b = gk) → DD b) ∧ ∀ b, DD b → (NewF W4 w5 b ∨ D1 b ∨ b = gk) := ⟨_, fun _ h => h, fun _ h => h⟩
  have hst : CS3 w (w9.alloc (.cells #[.slice b0 N.files.length r0, .slice b1 N.names.length r1, .slice b2 N.moves.length r2] 37)) ⟨c0, c1, c2⟩ ⟨e0, e1, e2⟩ ⟨.slice a0 t.files.length p0, .slice a1 t.names.length p1, .slice a2 t.moves.length p2⟩ ⟨.slice b0 N.files.length r0, .slice b1 N.names.length r1, .slice b2 N.moves.length r2⟩ N N g8 w5.heap.size w9.heap.size (fun b => w3.heap.size ≤ b ∧ b < W4.heap.size ∧ b ≠ g8) DD F0 F1 F2 ac (.slice ak ac.keep.length ck) (.slice (some ⟨gk, 0, none⟩) ac.keep.length ac.keep.length) w7.heap.size := by
    have hgk' : w6.heap.size ≤ gk := hgk
    refine ⟨⟨hb09.trans ((hal9 _).mono hb09.size), ((unhide HQ0).of_block (hb49.block _ (by omega))).alloc _, ((unhide HRW).of_block (hb49.block _ (by omega))).alloc _, ((unhide PX).of_block ((unhide HB7).trans (hb79.mono (by omega)) |>.block _ (by omega))).alloc _, row3_alloc _ _ _ _ _, (unhide HOW).carry (fun b hb => ((hal9 _).block b (by omega)).trans (hb49.block b hb.2.1)) (fun _ h => h), hoG.carry (fun b hb => (hal9 _).block b (hlG' b hb).2), hnd, fun b hb => by rw [World.size_alloc]; omega, fun b hb => ?_, fun b hb => ?_⟩, ((unhide HQ1).of_block (hb49.block _ (by omega))).alloc _, hbX.alloc _, fun b hb => ?_, fun b hb => ?_⟩
    · have hr : W4.heap.size ≤ b ∧ b < w7.heap.size ∧ b ≠ w5.heap.size := by
        rcases hDDe b hb with hb | hb | rfl
        · have h1 := hb.1.1; have h2 := hb.1.2; omega
        · have := unhide HD1 b hb; omega
        · omega
      exact ⟨by omega, by omega, hr.2.2, by omega, fun h => by omega, fun h => by have := (hlG' b h).1; omega⟩
    · have h1 := hlG' b hb
      exact ⟨by omega, by omega, by omega, by omega, fun h => by omega, by rw [World.size_alloc]; omega⟩
    · have hr : W4.heap.size ≤ b ∧ b < w7.heap.size := by
        rcases hDDe b hb with hb | hb | rfl
        · have h1 := hb.1.1; have h2 := hb.1.2; omega
        · have := unhide HD1 b hb; omega
        · omega
      omega
    · have h1 := hlG' b hb; omega
  have hD9 : ∀ b, DD b → b < w7.heap.size := fun b hb => by
    rcases hDDe b hb with hb | hb | rfl
    · have h2 := hb.1.2; omega
    · have := unhide HD1 b hb; omega
    · omega
  have hk9 : ∀ (W : World), Below w9.heap.size w9 W → ∀ b, b < w7.heap.size → W.heap[b]? = w7.heap[b]? := fun W hW b hb => (hW.block b (by omega)).trans (hb79.block b hb)
  have HRX9 := hide (fun (W : World) (hW : Below w9.heap.size w9 W) => (unhide HRX).carry (w' := W) (Q := DD) (fun b hb => (hk9 W hW b (by have := hb.1.2; omega)).trans ((unhide HB57).block b hb.1.2)) (fun b h => hDDi b (Or.inl h)))
  have HWX9 := hide (fun (W : World) (hW : Below w9.heap.size w9 W) => (unhide HW1).carry (w' := W) (Q := DD) (fun b hb => (hk9 W hW b (by have := (unhide HD1 b hb).2.1; omega)).trans ((unhide HB7).block b (unhide HD1 b hb).2.1)) (fun b h => hDDi b (Or.inr (Or.inl h))))
  have HRK9 := hide (fun (W : World) (hW : Below w9.heap.size w9 W) => (unhide HRK).of_block (hk9 W hW gk hgl7))
  have HFX9 := hide (fun (W : World) (hW : Below w9.heap.size w9 W) b (hb : DD b) => show FreeB W b from by
    rcases hDDe b hb with hb | hb | rfl
    · exact hb.2.of_block ((hk9 W hW b (by have := hb.1.2; omega)).trans ((unhide HB57).block b hb.1.2))
    · exact (unhide HD1 b hb).2.2.of_block ((hk9 W hW b (by have := (unhide HD1 b hb).2.1; omega)).trans ((unhide HB7).block b (unhide HD1 b hb).2.1))
    · exact fun j => ((unhide HRK).of_block (hk9 W hW b hgl7)).frozen j)
  have j0 := fun o => (((unhide HRW).of_block (hb49.block _ (by omega))).alloc (o := o)).cell (i := 0) (by omega); have j1 := fun o => (((unhide HRW).of_block (hb49.block _ (by omega))).alloc (o := o)).cell (i := 1) (by omega); have j2 := fun o => (((unhide HRW).of_block (hb49.block _ (by omega))).alloc (o := o)).cell (i := 2) (by omega)
  simp only [row3] at j0 j1 j2
  have HST := hide hst; have HAL9 := hide (hal9 (.cells #[.slice b0 N.files.length r0, .slice b1 N.names.length r1, .slice b2 N.moves.length r2] 37))
  have HD9 := hide (show ∀ b, DD b → b < w9.heap.size from fun b hb => by have := hD9 b hb; omega)
  have hgkD : Hid (DD gk) := hDDi gk (Or.inr (Or.inr rfl))
  clear hst hal9 hoG hnd hlG' hb9 hb79 hb59 hb49 hb09 hbX hD9 hk9 HRX HW1 HB56 HB06 HB46 PX HD1 HB7 HB57 HRK HZK HAL7 HOW HRW HB4 HB45 HB05 HQ0 HQ1 hbs9 hDDi hDDe
  go_wp2_with fail
  refine (unhide HST).cs.eq.mono ?_
  rintro e wa ⟨rfl, hba⟩
  clear j0 j1 j2
  have hsta := (unhide HST).on hba
  have hBa := (unhide HAL9).trans (hba.mono (unhide HAL9).size)
  have HSTa := hide hsta; have HBa := hide hBa
  clear hsta hBa hba HAL9 HST
  generalize (fun b => w3.heap.size ≤ b ∧ b < W4.heap.size ∧ b ≠ g8) = PW at *
  have HTW2 := hide (fun (W : World) (hW : Below w.heap.size w W) => unhide HTW W hW)
  go_upto_region 18 with fail
  refine wp_swap (c' := Code.region 18 ls18Ops true) (by kernel_rfl) ?_
  refine wp_region_noPanic ?_
  refine ls18 t c0 c1 c2 ⟨.slice a0 t.files.length p0, .slice a1 t.names.length p1, .slice a2 t.moves.length p2⟩ DD w.heap.size w5.heap.size wa (unhide HSTa).cs.bA (unhide HSTa).cs.bX (unhide HRX9 wa.drew (unhide HBa).drew) (fun b hb => Nat.lt_of_lt_of_le (unhide HD9 b hb) (unhide HBa).size) (fun W hW => unhide HCP W ((unhide HSTa).cs.below.drew.trans (hW.mono (unhide HSTa).cs.below.drew.size))) (.slice av ws.length cv) (.pointer (some ⟨w.heap.size + 1, 0, none⟩)) (.pointer (some ⟨g8, 0, none⟩)) (.int .i64 n) (.slice s1 ws.length ws.length) (.pointer (some ⟨w7.heap.size, 0, none⟩)) (.pointer (some ⟨w9.heap.size, 0, none⟩)) (.int .i64 n) _ (fun _ _ _ _ _ h => h) (by kernel_rfl) ?_
  intro v3 wb hbb
  refine NoPanic.normal ?_
  simp only [frL_eq, frG, List.lookup, Nat.reduceBEq, Nat.reduceAdd, Option.getD_some, Option.getD_none]
  have hbab : Below wa.heap.size wa wb := ((Below.refl _ wa).drew).trans hbb
  have HSTb := hide ((unhide HSTa).on hbab); have HBb := hide ((unhide HBa).trans (hbab.mono (unhide HBa).size))
  clear hbb hbab HSTa HBa
  go_wp2_with fail
  refine (unhide HTW2 _ (unhide HSTb).cs.below).mono ?_
  rintro e wc ⟨s2, rfl, hw2, hbc⟩
  have hBc := (unhide HBb).trans (hbc.mono (unhide HBb).size)
  have HEW := hide (eqDiskWriteS_any _ _ ws wc (fun b hb => Nat.lt_of_lt_of_le (unhide HD9 b hb) hBc.size) (fun b hb => hb.1.2) (unhide HWX9 wc hBc) hw2)
  have HSTc := hide ((unhide HSTb).on hbc); have HBc := hide hBc
  clear hw2 hbc hBc HSTb HBb
  go_wp2_with fail
  refine (unhide HEW).mono ?_
  rintro e wd ⟨rfl, hbd⟩
  have HSTd := hide ((unhide HSTc).on hbd); have HBd := hide ((unhide HBc).trans (hbd.mono (unhide HBc).size))
  clear hbd HSTc HBc HEW
  have hzk : ∀ W, Below w9.heap.size w9 W → ZsAt DD W (.slice (some ⟨gk, 0, none⟩) ac.keep.length ac.keep.length) ac.keep := fun W hW => ⟨_, _, rfl, by have := unhide HKL; omega, fun i hi => ⟨gk, 0, rfl, unhide hgkD, by
    have := (unhide HRK9 W hW).cell (i := i) hi
    rw [List.getD_eq_getElem?_getD, List.getElem?_eq_getElem hi] at this
    rw [Nat.zero_add]
    obtain ⟨_, _, _, _, hc⟩ := unhide HKZR
    obtain ⟨_, _, _, _, _, hI⟩ := hc i hi
    exact ⟨this, hI⟩⟩⟩
  have HZK9 := hide hzk
  clear hzk
  go_upto_region 22 with fail
  refine wp_swap (c' := Code.region 22 ls22Ops true) (by kernel_rfl) ?_
  refine wp_region_noPanic ?_
  refine ls22 ac (.slice ak ac.keep.length ck) (.slice (some ⟨gk, 0, none⟩) ac.keep.length ac.keep.length) DD (w.heap.size + 1) w7.heap.size wd (unhide HSTd).bB (unhide HSTd).bX (unhide HZK9 wd.drew (unhide HBd).drew) (fun b hb => Nat.lt_of_lt_of_le (unhide HD9 b hb) (unhide HBd).size) (fun W hW => unhide HTA W ((unhide HSTd).cs.below.drew.trans (hW.mono (unhide HSTd).cs.below.drew.size))) (.slice av ws.length cv) (.pointer (some ⟨w.heap.size, 0, none⟩)) (.pointer (some ⟨g8, 0, none⟩)) (.int .i64 n) (.pointer (some ⟨w5.heap.size, 0, none⟩)) (.slice s1 ws.length ws.length) (.pointer (some ⟨w9.heap.size, 0, none⟩)) (.int .i64 n) _ (fun _ _ _ _ _ h => h) (by kernel_rfl) ?_
  intro v4 we hbe
  refine NoPanic.normal ?_
  simp only [frL_eq, frG, List.lookup, Nat.reduceBEq, Nat.reduceAdd, Option.getD_some, Option.getD_none]
  have hbde : Below wd.heap.size wd we := ((Below.refl _ wd).drew).trans hbe
  have hste := (unhide HSTd).on hbde
  have hBe := (unhide HBd).trans (hbde.mono (unhide HBd).size)
  have j0 := hste.cs.bX.cell (i := 0) (by omega); have j1 := hste.cs.bX.cell (i := 1) (by omega); have j2 := hste.cs.bX.cell (i := 2) (by omega)
  simp only [row3] at j0 j1 j2
  have hmkb : 1 + mkD t ≤ 10485760 := by
    have h := unhide HWT
    have := wF_len t.files; have := wS_len t.names; have := wM_len t.moves
    unfold wDk at h; unfold mkD; omega
  have hwl : ws.length ≤ 1048576 := by have := wW_len ws; have := unhide HWW; omega
  have hkl := unhide HKL
  have HMK := hide (markDisk_shp DD t ⟨.slice a0 t.files.length p0, .slice a1 t.names.length p1, .slice a2 t.moves.length p2⟩ 1 we ((unhide HRX9 we hBe).shp (fun b hb => unhide HFX9 we hBe b hb)) (fun b hb => Nat.lt_of_lt_of_le (unhide HD9 b hb) hBe.size) (by omega) (by omega))
  have HWSH := hide ((unhide HWX9 we hBe).shp (fun b hb => unhide HFX9 we hBe b hb))
  have hzs : ZShp DD we (.slice (some ⟨gk, 0, none⟩) ac.keep.length ac.keep.length) ac.keep.length := ⟨_, _, rfl, by omega, fun i hi => ⟨gk, 0, _, rfl, unhide hgkD, unhide HFX9 we hBe gk (unhide hgkD), by rw [Nat.zero_add]; exact (unhide HRK9 we hBe).cell (i := i) hi⟩⟩
  have HZSH := hide hzs
  have HSTe := hide hste
  clear hbe hbde hBe hste hzs HRX9 HWX9 HRK9 HFX9 HD9 HSTd HBd HZK9
  have hmz0 : 0 < 1 + mkD t := by omega
  generalize 1 + mkD t = mz at *
  go_wp2_with fail
  refine (unhide HMK).mono ?_
  rintro e wf ⟨rfl, hlf⟩
  have HMW := hide (markDiskWriteS_shp DD (.slice s1 ws.length ws.length) ws.length mz wf ((unhide HWSH).like hlf) (by omega) (by omega))
  have HZSf := hide ((unhide HZSH).like hlf); have HSTf := hide ((unhide HSTe).like hlf)
  clear j0 j1 j2 hlf HMK HSTe HWSH HZSH
  go_wp2_with fail
  refine (unhide HMW).mono ?_
  rintro e wg ⟨rfl, hlg⟩
  have hstg := (unhide HSTf).like hlg
  have HML := hide (markLogAct_shp ac DD (.slice (some ⟨gk, 0, none⟩) ac.keep.length ac.keep.length) (mz + 3 * ws.length) wg ((unhide HZSf).like hlg) (by omega))
  have i0 := hstg.bX.cell (i := 0) (by omega); have i1 := hstg.bX.cell (i := 1) (by omega); have i2 := hstg.bX.cell (i := 2) (by omega); have i3 := hstg.bX.cell (i := 3) (by omega); have i4 := hstg.bX.cell (i := 4) (by omega); have i5 := hstg.bX.cell (i := 5) (by omega)
  simp only [r6A] at i0 i1 i2 i3 i4 i5
  have HSTg := hide hstg
  have hmz : mz + 3 * ws.length ≤ 20000000 := by omega
  clear hlg HMW HSTf HZSf hstg
  generalize mz + 3 * ws.length = my at *
  go_wp2_with fail
  refine (unhide HML).mono ?_
  rintro e wl ⟨rfl, hll⟩
  have hstl := (unhide HSTg).like hll
  clear hll HML HSTg i0 i1 i2 i3 i4 i5
  have hmx : my + ac.keep.length ≤ 40000000 := by omega
  generalize my + ac.keep.length = mw at *
  have j0 := hstl.cs.bG.cell (i := 0) (by omega); have j1 := hstl.cs.bG.cell (i := 1) (by omega); have j2 := hstl.cs.bG.cell (i := 2) (by omega)
  have k0 := hstl.cs.bW.cell (i := 0) (by omega); have k1 := hstl.cs.bW.cell (i := 1) (by omega); have k2 := hstl.cs.bW.cell (i := 2) (by omega)
  simp only [row3] at j0 j1 j2 k0 k1 k2
  have HSTl := hide hstl
  clear hstl
  go_wp2_with fail
  refine (unhide HSTl).cs.eq.mono ?_
  rintro e wh ⟨rfl, hbh⟩
  have hsth := (unhide HSTl).on hbh
  clear hbh HSTl j0 j1 j2 k0 k1 k2
  have j0 := hsth.cs.bG.cell (i := 0) (by omega); have j1 := hsth.cs.bG.cell (i := 1) (by omega); have j2 := hsth.cs.bG.cell (i := 2) (by omega)
  simp only [row3] at j0 j1 j2
  have hsm := unhide HSM
  have HMT := hide (hsth.mark hsm)
  clear hsth
  go_wp2_with fail
  refine (unhide HMT).mono ?_
  rintro e wi ⟨rfl, hsti⟩
  clear j0 j1 j2 HMT
  have j0 := hsti.cs.bG.cell (i := 0) (by omega); have j1 := hsti.cs.bG.cell (i := 1) (by omega); have j2 := hsti.cs.bG.cell (i := 2) (by omega)
  simp only [row3] at j0 j1 j2
  have HHT := hide (hsti.held hsm)
  clear hsti
  generalize hmt : 1 + mkD N = mt at *
  have hmt1 : 1 ≤ mt := by omega
  have hmt2 : mt ≤ 100001 := by omega
  have HME := hide hmt
  clear hmt
  go_wp2_with fail
  refine (unhide HHT).mono ?_
  rintro e wj ⟨rfl, hstj⟩
  clear HHT j0 j1 j2
  have HSTj := hide hstj
  clear hstj
  go_upto_region 38 with fail
  refine wp_swap (c' := Code.region 38 ls38Ops true) (by kernel_rfl) ?_
  refine wp_region_noPanic ?_
  refine ls38 t N n ws ac (.slice av ws.length cv) (.slice ak ac.keep.length ck) wj c0 c1 c2 w.heap.size (w.heap.size + 1) (unhide HSTj).cs.bA (unhide HSTj).bB (.pointer (some ⟨g8, 0, none⟩)) (.int .i64 n) (.pointer (some ⟨w9.heap.size, 0, none⟩)) (.int .i64 (mt : Nat)) (fun W hW => unhide HCP W ((unhide HSTj).cs.below.drew.trans (hW.mono (unhide HSTj).cs.below.drew.size))) (fun W hW => unhide HTW2 W ((unhide HSTj).cs.below.drew.trans (hW.mono (unhide HSTj).cs.below.drew.size))) (fun W hW => unhide HTA W ((unhide HSTj).cs.below.drew.trans (hW.mono (unhide HSTj).cs.below.drew.size))) (fun a s kx W ha hs hk => by
    have := (implStoreDo_any t ws ac (fun b => b < W.heap.size) a s kx W (fun _ h => h) ha hs hk (unhide HSX)).mono fun e w' h => own_doEnd h
    rw [unhide HN, unhide Hn] at this
    exact this) _ (fun _ _ _ _ _ h => h) (by kernel_rfl) ?_
  intro v5 dH gH wm hoH hrH hgH hbm
  refine NoPanic.normal ?_
  simp only [frL_eq, frG, List.lookup, Nat.reduceBEq, Nat.reduceAdd, Option.getD_some, Option.getD_none]
  have hbjm : Below wj.heap.size wj wm := ((Below.refl _ wj).drew).trans hbm
  have hstm := (unhide HSTj).on hbjm
  obtain ⟨d0, d1, d2⟩ := dH
  have j0 := hrH.cell (i := 0) (by omega); have j1 := hrH.cell (i := 1) (by omega); have j2 := hrH.cell (i := 2) (by omega)
  have k0 := hstm.cs.bW.cell (i := 0) (by omega); have k1 := hstm.cs.bW.cell (i := 1) (by omega); have k2 := hstm.cs.bW.cell (i := 2) (by omega)
  simp only [row3] at j0 j1 j2 k0 k1 k2
  have HEQ := hide (eqDisk_any N _ PW ⟨d0, d1, d2⟩ ⟨e0, e1, e2⟩ wm (fun b hb => hb.2.1) hstm.cs.lW hoH hstm.cs.oW)
  have HSTm := hide hstm
  clear hoH hrH hgH hbm hbjm hstm HSTj
  go_wp2_with fail
  refine (unhide HEQ).mono ?_
  rintro e wn ⟨rfl, hbn⟩
  have hstn := (unhide HSTm).on hbn
  have hht := hstn.held hsm
  rw [unhide HME] at hht
  have HHT := hide hht
  clear k0 k1 k2 j0 j1 j2
  have j0 := hstn.cs.bG.cell (i := 0) (by omega); have j1 := hstn.cs.bG.cell (i := 1) (by omega); have j2 := hstn.cs.bG.cell (i := 2) (by omega)
  simp only [row3] at j0 j1 j2
  clear hbn HEQ HSTm hstn hht
  go_wp2_with fail
  refine (unhide HHT).mono ?_
  rintro e wo ⟨rfl, hsto⟩
  have HB := hide hsto.cs.below
  clear hsto HHT j0 j1 j2
  go_wp2_with fail
  go_ret
  exact ⟨rfl, unhide HB⟩
end Go.Proofs.YtgdiankfnemjjaaGreat

/- What is read of a list of strings that comes in is one that lies in memory. No conditions. -/

namespace Go.Proofs.YtgdiankfnemjjaaGreat
open Go Go.RowKit Go.ChangeShapes Go.WideShapes Go.ChangeAt Go.Deep

theorem cellsStr : Tryz.prog.cellsOf 9 = 1 := by kernel_rfl

section
variable {H : Type} {enc : TypeId × Value → H} {W : World} {spare : Nat → Bool} {held : Bool}

theorem strs_of_trod {fuel : Nat} {v : Value} {x : DataW H × List MemPlace} (h : DataW.trod enc Tryz.prog W 0 spare held fuel 23 [v] = some x) :
    ∃ ss, StrsAt (fun b => b < W.heap.size) W v ss := by
  rcases open_strings Tryz.underlying23 Tryz.underlying9 cellsStr h with ⟨hcs, -⟩ | ⟨a, len, cap, ss, hcs, -, hl, hm, hz, -, hcell, hws⟩
  · simp only [List.cons.injEq, and_true] at hcs
    exact ⟨[], none, 0, hcs, by simp, fun i hi => by simp at hi⟩
  · simp only [List.cons.injEq, and_true] at hcs
    have hle : len ≤ ss.length := by rw [hz]; split <;> omega
    unfold maxLen at hm
    refine ⟨ss.take len, some a, cap, by rw [hcs]; simp; omega, by simp; omega, fun i hi => ?_⟩
    have hi' : i < len := by simp at hi; omega
    obtain ⟨b, off, spot⟩ := a
    have hspot : spot = none := by simpa [Addr.add] using World.cell?_spot (hcell 0 (by omega))
    subst hspot
    have hc := hcell i (by omega)
    rw [Addr.add_lit] at hc
    refine ⟨b, off, rfl, World.block_lt_of_cell? W _ hc, ?_, ?_⟩
    · rw [hc]; simp [show i < ss.length by omega]
    · have := hws ss[i] (List.getElem_mem (by omega)); unfold maxLen at this; simpa using this
end
end Go.Proofs.YtgdiankfnemjjaaGreat
