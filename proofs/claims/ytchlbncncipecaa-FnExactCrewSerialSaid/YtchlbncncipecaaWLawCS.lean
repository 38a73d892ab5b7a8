/- The walk of the law on CrewSerial: whatever jobs come in, it answers true, and turns nothing that was there. No conditions. -/
import Derived.Test.YtchlbncncipecaaWTdT
namespace Go.Proofs.Ytchlbncncipecaa
open Go Go.RowKit

/-- What the law's world holds: the specification's answer and its box, the program's answer and its box. -/
structure TS (w W : World) (t : Td) (wI wD : Value) (U0 U1 : List Nat) (BW M N : Nat) (gI gD : Value) (zs : List Int) (hs : List Hd) (F0 F1 : List Nat) (BG : Nat) : Prop where
  below : Below w.heap.size w W
  wi : ZOwn W wI t.items U0
  wd : HOwn W wD t.dead U1
  bw : W.rowIs BW 47 6 (row6 (.bool t.ok) wI wD (.int .i64 t.jobs) (.int .i64 0) (.int .i64 0))
  gi : ZOwn W gI zs F0
  gd : HOwn W gD hs F1
  bg : W.rowIs BG 47 6 (row6 (.bool t.ok) gI gD (.int .i64 t.jobs) (.int .i64 0) (.int .i64 0))
  u : ∀ b, b ∈ U0 ++ U1 → b < M
  bwM : BW < M
  low : w.heap.size ≤ M
  mn : M ≤ N
  f : ∀ b, b ∈ F0 ++ F1 → N ≤ b ∧ b < BG
  bgN : N ≤ BG
theorem TS.move {w W W' : World} {t : Td} {wI wD : Value} {U0 U1 : List Nat} {BW M N : Nat} {gI gD : Value} {zs zs' : List Int} {hs hs' : List Hd} {F0 F1 : List Nat} {BG : Nat} (h : TS w W t wI wD U0 U1 BW M N gI gD zs hs F0 F1 BG) (hb : Below w.heap.size w W') (hlow : ∀ b, b < W.heap.size → b < M → W'.heap[b]? = W.heap[b]?) (hbg : W'.heap[BG]? = W.heap[BG]?) (hgi : ZOwn W' gI zs' F0) (hgd : HOwn W' gD hs' F1) : TS w W' t wI wD U0 U1 BW M N gI gD zs' hs' F0 F1 BG := by
  have hlt : ∀ b, b ∈ U0 ++ U1 → b < W.heap.size := fun b hb => by have h1 := h.u b hb; have h2 := h.bg.lt; have h3 := h.mn; have h4 := h.bgN; omega
  exact ⟨hb, FlatOwn.carry h.wi (fun b hb => hlow b (hlt b (by simp [hb])) (h.u b (by simp [hb]))), FlatOwn.carry h.wd (fun b hb => hlow b (hlt b (by simp [hb])) (h.u b (by simp [hb]))), h.bw.of_block (hlow _ h.bw.lt h.bwM), hgi, hgd, h.bg.of_block hbg, h.u, h.bwM, h.low, h.mn, h.f, h.bgN⟩
theorem TS.on {w W W' : World} {t : Td} {wI wD : Value} {U0 U1 : List Nat} {BW M N : Nat} {gI gD : Value} {zs : List Int} {hs : List Hd} {F0 F1 : List Nat} {BG : Nat} (h : TS w W t wI wD U0 U1 BW M N gI gD zs hs F0 F1 BG) (hb : Below W.heap.size W W') : TS w W' t wI wD U0 U1 BW M N gI gD zs hs F0 F1 BG :=
  h.move (h.below.trans (hb.mono h.below.size)) (fun b h1 _ => hb.block b h1) (hb.block _ h.bg.lt) (FlatOwn.carry h.gi (fun b hb' => hb.block b (by have := (h.f b (by simp [hb'])).2; have := h.bg.lt; omega))) (FlatOwn.carry h.gd (fun b hb' => hb.block b (by have := (h.f b (by simp [hb'])).2; have := h.bg.lt; omega)))
theorem TS.like {w W W' : World} {t : Td} {wI wD : Value} {U0 U1 : List Nat} {BW M N : Nat} {gI gD : Value} {zs : List Int} {hs : List Hd} {F0 F1 : List Nat} {BG : Nat} {D : Nat → Prop} (h : TS w W t wI wD U0 U1 BW M N gI gD zs hs F0 F1 BG) (hl : Like D W W') (hD : ∀ b, D b → M ≤ b ∧ b < N) : TS w W' t wI wD U0 U1 BW M N gI gD zs hs F0 F1 BG := by
  have h1 := h.low; have h2 := h.bgN
  exact h.move ⟨hl.os.trans h.below.os, hl.tape.trans h.below.tape, hl.output.trans h.below.output, Nat.le_trans h.below.size hl.size, fun b hb => (hl.block b (Nat.lt_of_lt_of_le hb h.below.size) (fun hd => by have := hD b hd; omega)).trans (h.below.block b hb)⟩
    (fun b h3 h4 => hl.block b h3 (fun hd => by have := hD b hd; omega)) (hl.block _ h.bg.lt (fun hd => by have := hD _ hd; omega))
    (FlatOwn.carry h.gi (fun b hb' => hl.block b (by have := (h.f b (by simp [hb'])).2; have := h.bg.lt; omega) (fun hd => by have := hD _ hd; have := (h.f b (by simp [hb'])).1; omega)))
    (FlatOwn.carry h.gd (fun b hb' => hl.block b (by have := (h.f b (by simp [hb'])).2; have := h.bg.lt; omega) (fun hd => by have := hD _ hd; have := (h.f b (by simp [hb'])).1; omega)))
theorem TS.exc {w W W' : World} {t : Td} {wI wD : Value} {U0 U1 : List Nat} {BW M N : Nat} {gI gD : Value} {zs zs' : List Int} {hs hs' : List Hd} {F0 F1 : List Nat} {BG : Nat} (h : TS w W t wI wD U0 U1 BW M N gI gD zs hs F0 F1 BG) (hx : Exc (F0 ++ F1) W W') (hgi : ZOwn W' gI zs' F0) (hgd : HOwn W' gD hs' F1) : TS w W' t wI wD U0 U1 BW M N gI gD zs' hs' F0 F1 BG := by
  have h1 := h.low; have h2 := h.mn
  exact h.move ⟨hx.os.trans h.below.os, hx.tape.trans h.below.tape, hx.output.trans h.below.output, Nat.le_trans h.below.size hx.size, fun b hb => (hx.block b (Nat.lt_of_lt_of_le hb h.below.size) (fun hm => by have := (h.f b hm).1; omega)).trans (h.below.block b hb)⟩
    (fun b h3 h4 => hx.block b h3 (fun hm => by have := (h.f b hm).1; omega)) (hx.block _ h.bg.lt (fun hm => by have := (h.f _ hm).2; omega)) hgi hgd
theorem TS.eq {w W : World} {t : Td} {wI wD : Value} {U0 U1 : List Nat} {BW M N : Nat} {gI gD : Value} {F0 F1 : List Nat} {BG : Nat} (h : TS w W t wI wD U0 U1 BW M N gI gD t.items t.dead F0 F1 BG) :
    Calls Try.prog 28 #[.agg #[.bool t.ok, gI, gD, .int .i64 t.jobs, .int .i64 0, .int .i64 0], .agg #[.bool t.ok, wI, wD, .int .i64 t.jobs, .int .i64 0, .int .i64 0]] W fun e w' => e = .returned (.bool true) ∧ Below W.heap.size W w' := by
  have hlt := h.bg.lt
  exact eqCrewTold_any t (· ∈ F0 ++ F1) (· ∈ U0 ++ U1) gI gD wI wD W (fun b hb => by have := (h.f b hb).2; omega) (fun b hb => by have := h.u b hb; have := h.mn; have := h.bgN; omega)
    ((FlatOwn.at h.gi).carry (fun _ _ => rfl) (fun b hb => by simp [hb])) ((FlatOwn.at h.gd).carry (fun _ _ => rfl) (fun b hb => by simp [hb])) ((FlatOwn.at h.wi).carry (fun _ _ => rfl) (fun b hb => by simp [hb])) ((FlatOwn.at h.wd).carry (fun _ _ => rfl) (fun b hb => by simp [hb]))
theorem tellJ_small (js : List Jb) : (tellJ js).items.length ≤ 2400 ∧ (tellJ js).dead.length ≤ 60 := by
  by_cases h : jsOk js = true
  · obtain ⟨h1, h2⟩ := jsOk_parts h
    rw [tellJ_yes h]
    have h3 := tI_len js h2; have h4 := tD_len 0 js
    exact ⟨by show (tI js).length ≤ _; omega, by show (tD 0 js).length ≤ _; omega⟩
  · rw [tellJ_no (by simpa using h)]; simp [noTd]

set_option maxRecDepth 100000 in
set_option maxHeartbeats 12800000 in
theorem lawCrewSerial_any (js : List Jb) (P : Nat → Prop) (v : Value) (w : World) (hP : ∀ b, P b → b < w.heap.size) (hv : JbsAt P w v js) :
    Calls Try.prog 8 #[v] w fun e w' => e = .returned (.bool true) ∧ Below w.heap.size w w' := by
  have hcar := fun (W : World) (hW : Below w.heap.size w W) => (⟨fun b hb => Nat.lt_of_lt_of_le (hP b hb) hW.size, hv.carry (fun b hb => hW.block b (hP b hb)) (fun _ h => h)⟩ : (∀ b, P b → b < W.heap.size) ∧ JbsAt P W v js)
  have HSZ := hide (szCrewJobS_any js P v 1048576 w hP hv (by omega) (by omega))
  have HTO := hide (fun (W : World) (hW : Below w.heap.size w W) (hwt : wJ js ≤ 1048576) => toCrewJobS_any js P v W (hcar W hW).1 (hcar W hW).2 hwt)
  have HIM := hide (fun (W : World) (Q : Nat → Prop) (u : Value) (hQ : ∀ b, Q b → b < W.heap.size) (hr : JbsAt Q W u js) => implCrewSerial_any js Q u W hQ hr)
  have HSP := hide (fun (W : World) (Q : Nat → Prop) (u : Value) (hQ : ∀ b, Q b → b < W.heap.size) (hr : JbsAt Q W u js) => specCrewSerial_any js Q u W hQ hr)
  have HBX := hide (fun (W : World) o => ((Below.refl W.heap.size W).alloc (Nat.le_refl _) o : Below W.heap.size W (W.alloc o)))
  obtain ⟨hsm1, hsm2⟩ := tellJ_small js
  obtain ⟨a, cap, rfl, -, -⟩ := hv
  generalize tellJ js = t at *
  clear hcar hP
  go_enter Try.func8, Try.ntmps8
  go_wp2_with fail
  refine (unhide HSZ).mono ?_
  rintro e w1 ⟨r, rfl, hr, hb1⟩
  have HB1 := hide hb1
  clear hb1 HSZ
  rcases hr with rfl | ⟨hr0, hr1⟩
  · go_wp2_with fail
    go_ret
    exact ⟨rfl, unhide HB1⟩
  have HWT := hide (show wJ js ≤ 1048576 by omega)
  clear hr1
  go_wp2_with fail
  refine (unhide HTO _ (unhide HB1) (unhide HWT)).mono ?_
  rintro e w2 ⟨a2, rfl, hrd, hb2⟩
  have HS := hide (unhide HSP w2 _ _ (fun b hb => hb.1.2) hrd)
  have HB2 := hide ((unhide HB1).trans (hb2.mono (unhide HB1).size))
  clear hrd hb2 HB1 HSP
  go_wp2_with fail
  refine (unhide HS).mono ?_
  rintro e w3 ⟨wI, wD, U0, U1, rfl, hwi, hwd, -, hU, hb3⟩
  obtain ⟨aWI, cWI, hWI, -, -⟩ := FlatOwn.at hwi
  obtain ⟨aWD, cWD, hWD, -, -⟩ := FlatOwn.at hwd
  have hs3 := hb3.size
  have hb03 := (unhide HB2).trans (hb3.mono (unhide HB2).size)
  have hsz03 := (unhide HB2).size
  have HB3 := hide hb03
  have HB4 := hide (fun o => hb03.trans ((unhide HBX w3 o).mono hb03.size))
  have HWI := hide hwi; have HWD := hide hwd; have HU := hide hU
  clear hb3 hb03 hwi hwd hU HS HB2
  subst hWI hWD
  rw [List.length_map] at HWI
  rw [List.length_map] at HWD
  simp only [List.length_map]
  go_wp2_with fail
  refine (unhide HTO _ (unhide HB4 _) (unhide HWT)).mono ?_
  rintro e w5 ⟨a5, rfl, hrx, hb5⟩
  obtain ⟨qW, hs5, hb35⟩ := sbox1 hb5
  have HI := hide (unhide HIM w5 _ _ (fun b hb => hb.1.2) hrx)
  have HRX := hide hrx; have QW := hide qW; have HB5 := hide ((unhide HB3).trans (hb35.mono (unhide HB3).size)); have HB35 := hide hb35
  clear hrx hb5 qW hb35
  go_wp2_with fail
  refine (unhide HI).mono ?_
  rintro e w6 ⟨gI, gD, F0, F1, rfl, hgi, hgd, hnd, hF, hb6⟩
  obtain ⟨aGI, cGI, hGI, -, -⟩ := FlatOwn.at hgi
  obtain ⟨aGD, cGD, hGD, -, -⟩ := FlatOwn.at hgd
  have hs6 := hb6.size
  rw [List.length_map] at hGI
  rw [List.length_map] at hGD
  have hst7 : TS w (w6.alloc (.cells #[.bool t.ok, gI, gD, .int .i64 t.jobs, .int .i64 0, .int .i64 0] 47)) t (.slice aWI t.items.length cWI) (.slice aWD t.dead.length cWD) U0 U1 w3.heap.size (w3.heap.size + 1) w5.heap.size gI gD t.items t.dead F0 F1 w6.heap.size := by
    have hax : Below w6.heap.size w6 (w6.alloc (.cells #[.bool t.ok, gI, gD, .int .i64 t.jobs, .int .i64 0, .int .i64 0] 47)) := unhide HBX w6 _
    have h36 : Below w3.heap.size w3 w6 := (unhide HB35).trans (hb6.mono (unhide HB35).size)
    have h37 := h36.trans (hax.mono h36.size)
    refine ⟨(unhide HB3).trans (h37.mono (unhide HB3).size), FlatOwn.carry (unhide HWI) (fun b hb => h37.block b (unhide HU b (by simp [hb])).2), FlatOwn.carry (unhide HWD) (fun b hb => h37.block b (unhide HU b (by simp [hb])).2), (unhide QW).of_block ((hax.block _ (by omega)).trans (hb6.block _ (unhide QW).lt)), FlatOwn.carry hgi (fun b hb => hax.block b (hF b (by simp [hb])).2), FlatOwn.carry hgd (fun b hb => hax.block b (hF b (by simp [hb])).2), row6_alloc w6 _ _ _ _ _ _ _, fun b hb => by have := (unhide HU b hb).2; omega, by omega, by have := (unhide HB3).size; omega, by omega, fun b hb => hF b hb, hs6⟩
  have hrx7 : ∀ (W : World), Below w6.heap.size w6 W → JbsAt (NewF (w3.alloc (.cells #[.bool t.ok, .slice aWI t.items.length cWI, .slice aWD t.dead.length cWD, .int .i64 t.jobs, .int .i64 0, .int .i64 0] 47)) w5) W (.slice a5 js.length js.length) js := fun W hW => (unhide HRX).carry (fun b hb => (hW.block b (by have := hb.1.2; omega)).trans (hb6.block b hb.1.2)) (fun _ h => h)
  subst hGI hGD
  obtain ⟨D, hD⟩ : ∃ D : Nat → Prop, D = NewF (w3.alloc (.cells #[.bool t.ok, .slice aWI t.items.length cWI, .slice aWD t.dead.length cWD, .int .i64 t.jobs, .int .i64 0, .int .i64 0] 47)) w5 := ⟨_, rfl⟩
  have hD1 : ∀ b, D b → w3.heap.size + 1 ≤ b ∧ b < w5.heap.size := fun b hb => by rw [hD] at hb; have h1 := hb.1.1; rw [World.size_alloc] at h1; exact ⟨h1, hb.1.2⟩
  have hD2 : ∀ b, D b → FreeB w6 b := fun b hb => by have hb' := hb; rw [hD] at hb'; exact hb'.2.of_block (hb6.block b hb'.1.2)
  rw [← hD] at hrx7
  have k0 := hst7.bw.cell (i := 0) (by omega); have k1 := hst7.bw.cell (i := 1) (by omega); have k2 := hst7.bw.cell (i := 2) (by omega); have k3 := hst7.bw.cell (i := 3) (by omega); have k4 := hst7.bw.cell (i := 4) (by omega); have k5 := hst7.bw.cell (i := 5) (by omega)
  simp only [row6] at k0 k1 k2 k3 k4 k5
  have HST7 := hide hst7; have HRX7 := hide hrx7; have HD1 := hide hD1; have HD2 := hide hD2; have HND := hide hnd; have HF := hide hF
  have HEQ := hide hst7.eq
  have hsF : w5.heap.size ≤ w6.heap.size := hs6
  clear hst7 hrx7 hD1 hD2 hD hgi hgd hnd hF hb6 HI HRX QW HB35 HWI HWD HU HB4 HB3 HB5
  go_wp2_with fail
  refine (unhide HEQ).mono ?_
  rintro e w8 ⟨rfl, hb8⟩
  have hst8 := (unhide HST7).on hb8
  have HB68 := hide ((unhide HBX w6 _).trans (hb8.mono (unhide HBX w6 _).size))
  have HST8 := hide hst8
  clear hst8 hb8 HEQ HST7 k0 k1 k2 k3 k4 k5
  go_wp2_with fail
  refine (unhide HTO _ (unhide HST8).below (unhide HWT)).mono ?_
  rintro e w9 ⟨a9, rfl, hry, hb9⟩
  have hst9 := (unhide HST8).on hb9
  have hb69 := (unhide HB68).trans (hb9.mono (unhide HB68).size)
  have HEJ := hide (eqCrewJobS_any js D _ (.slice a5 js.length js.length) (.slice a9 js.length js.length) w9 (fun b hb => by have h1 := (unhide HD1 b hb).2; have h2 := hb69.size; omega) (fun b hb => hb.1.2) (unhide HRX7 w9 hb69) hry)
  have HST9 := hide hst9; have HB69 := hide hb69
  clear hst9 hb69 hb9 hry HST8 HB68
  go_wp2_with fail
  refine (unhide HEJ).mono ?_
  rintro e w10 ⟨rfl, hb10⟩
  have hst10 := (unhide HST9).on hb10
  have hb610 := (unhide HB69).trans (hb10.mono (unhide HB69).size)
  have HMJ := hide (markCrewJobS_shp D (.slice a5 js.length js.length) (js.map fun j => j.items.length) 1 w10 ((unhide HRX7 w10 hb610).shp (fun b hb => (unhide HD2 b hb).of_block (hb610.block b (by have h1 := (unhide HD1 b hb).2; omega)))) (by rw [mkJ_wJ]; have := unhide HWT; omega))
  rw [mkJ_wJ] at HMJ
  have HST10 := hide hst10
  obtain ⟨kk, hkk⟩ : ∃ kk : Nat, kk = 1 + wJ js := ⟨_, rfl⟩
  rw [← hkk] at HMJ
  have hkb : kk ≤ 1099511627776 := by rw [hkk]; have := unhide HWT; omega
  clear hst10 hb610 hb10 HEJ HST9 HB69 hkk
  go_wp2_with fail
  refine (unhide HMJ).mono ?_
  rintro e w11 ⟨rfl, hlk11⟩
  have hst11 := (unhide HST10).like hlk11 (unhide HD1)
  have k0 := hst11.bw.cell (i := 0) (by omega); have k1 := hst11.bw.cell (i := 1) (by omega); have k2 := hst11.bw.cell (i := 2) (by omega); have k3 := hst11.bw.cell (i := 3) (by omega); have k4 := hst11.bw.cell (i := 4) (by omega); have k5 := hst11.bw.cell (i := 5) (by omega)
  have j0 := hst11.bg.cell (i := 0) (by omega); have j1 := hst11.bg.cell (i := 1) (by omega); have j2 := hst11.bg.cell (i := 2) (by omega); have j3 := hst11.bg.cell (i := 3) (by omega); have j4 := hst11.bg.cell (i := 4) (by omega); have j5 := hst11.bg.cell (i := 5) (by omega)
  simp only [row6] at k0 k1 k2 k3 k4 k5 j0 j1 j2 j3 j4 j5
  have HEQ := hide hst11.eq; have HST11 := hide hst11
  clear hst11 hlk11 HMJ HST10
  go_wp2_with fail
  refine (unhide HEQ).mono ?_
  rintro e w12 ⟨rfl, hb12⟩
  have hst12 := (unhide HST11).on hb12
  clear k0 k1 k2 k3 k4 k5 j0 j1 j2 j3 j4 j5
  have j0 := hst12.bg.cell (i := 0) (by omega); have j1 := hst12.bg.cell (i := 1) (by omega); have j2 := hst12.bg.cell (i := 2) (by omega); have j3 := hst12.bg.cell (i := 3) (by omega); have j4 := hst12.bg.cell (i := 4) (by omega); have j5 := hst12.bg.cell (i := 5) (by omega)
  simp only [row6] at j0 j1 j2 j3 j4 j5
  have HMT := hide (markCrewTold_own t (.slice aGI t.items.length cGI) (.slice aGD t.dead.length cGD) F0 F1 1 w12 hst12.gi hst12.gd (unhide HND) (fun b hb => by have h1 := (hst12.f b hb).2; have h2 := hst12.bg.lt; omega) (by omega))
  have HST12 := hide hst12
  obtain ⟨mm, hmm⟩ : ∃ mm : Nat, mm = 1 + t.items.length + 2 * t.dead.length := ⟨_, rfl⟩
  rw [← hmm] at HMT
  have hmb : mm ≤ 1099511627776 := by omega
  have HMM := hide hmm
  clear hst12 hb12 HEQ HST11 hmm
  go_wp2_with fail
  refine (unhide HMT).mono ?_
  rintro e w13 ⟨rfl, hgi13, hgd13, hx13⟩
  have hst13 := (unhide HST12).exc hx13 hgi13 hgd13
  have HHE := hide (fun (W : World) (hW : TS w W t (.slice aWI t.items.length cWI) (.slice aWD t.dead.length cWD) U0 U1 w3.heap.size (w3.heap.size + 1) w5.heap.size (.slice aGI t.items.length cGI) (.slice aGD t.dead.length cGD) (mZs 1 t.items.length) (mHs (1 + t.items.length) t.dead.length) F0 F1 w6.heap.size) => heldCrewTold_any t.ok t.jobs (.slice aGI t.items.length cGI) (.slice aGD t.dead.length cGD) t.items.length t.dead.length 1 (· ∈ F0 ++ F1) W (fun b hb => by have h1 := (hW.f b hb).2; have h2 := hW.bg.lt; omega) ((FlatOwn.at hW.gi).carry (fun _ _ => rfl) (fun b hb => by simp [hb])) ((FlatOwn.at hW.gd).carry (fun _ _ => rfl) (fun b hb => by simp [hb])) (by omega))
  rw [← unhide HMM] at HHE
  clear j0 j1 j2 j3 j4 j5
  have j0 := hst13.bg.cell (i := 0) (by omega); have j1 := hst13.bg.cell (i := 1) (by omega); have j2 := hst13.bg.cell (i := 2) (by omega); have j3 := hst13.bg.cell (i := 3) (by omega); have j4 := hst13.bg.cell (i := 4) (by omega); have j5 := hst13.bg.cell (i := 5) (by omega)
  simp only [row6] at j0 j1 j2 j3 j4 j5
  have HST13 := hide hst13
  clear hst13 hgi13 hgd13 hx13 HMT HST12
  go_wp2_with fail
  refine (unhide HHE _ (unhide HST13)).mono ?_
  rintro e w14 ⟨rfl, hb14⟩
  have hst14 := (unhide HST13).on hb14
  have HST14 := hide hst14
  clear hst14 hb14 HST13 j0 j1 j2 j3 j4 j5
  go_wp2_with fail
  refine (unhide HTO _ (unhide HST14).below (unhide HWT)).mono ?_
  rintro e w15 ⟨a15, rfl, hrz, hb15⟩
  have HST15 := hide ((unhide HST14).on hb15)
  have HI := hide (unhide HIM w15 _ _ (fun b hb => hb.1.2) hrz)
  clear hrz hb15 HST14 HIM
  go_wp2_with fail
  refine (unhide HI).mono ?_
  rintro e w16 ⟨hI', hD', G0, G1, rfl, hhi, hhd, -, hG, hb16⟩
  obtain ⟨aHI, cHI, hHI, -, -⟩ := FlatOwn.at hhi
  obtain ⟨aHD, cHD, hHD, -, -⟩ := FlatOwn.at hhd
  rw [List.length_map] at hHI
  rw [List.length_map] at hHD
  subst hHI hHD
  have hst16 := (unhide HST15).on hb16
  have hax := unhide HBX w16 (.cells #[.bool t.ok, .slice aHI t.items.length cHI, .slice aHD t.dead.length cHD, .int .i64 t.jobs, .int .i64 0, .int .i64 0] 47)
  have hst17 := hst16.on hax
  have HEQ := hide (eqCrewTold_any t (· ∈ G0 ++ G1) (· ∈ U0 ++ U1) (.slice aHI t.items.length cHI) (.slice aHD t.dead.length cHD) (.slice aWI t.items.length cWI) (.slice aWD t.dead.length cWD) _ (fun b hb => Nat.lt_of_lt_of_le (hG b hb).2 hax.size) (fun b hb => by have h1 := hst17.u b hb; have h2 := hst17.mn; have h3 := hst17.bgN; have h4 := hst17.bg.lt; omega)
    ((FlatOwn.at (FlatOwn.carry hhi (fun b hb => hax.block b (hG b (by simp [hb])).2))).carry (fun _ _ => rfl) (fun b hb => by simp [hb])) ((FlatOwn.at (FlatOwn.carry hhd (fun b hb => hax.block b (hG b (by simp [hb])).2))).carry (fun _ _ => rfl) (fun b hb => by simp [hb])) ((FlatOwn.at hst17.wi).carry (fun _ _ => rfl) (fun b hb => by simp [hb])) ((FlatOwn.at hst17.wd).carry (fun _ _ => rfl) (fun b hb => by simp [hb])))
  have k0 := hst17.bw.cell (i := 0) (by omega); have k1 := hst17.bw.cell (i := 1) (by omega); have k2 := hst17.bw.cell (i := 2) (by omega); have k3 := hst17.bw.cell (i := 3) (by omega); have k4 := hst17.bw.cell (i := 4) (by omega); have k5 := hst17.bw.cell (i := 5) (by omega)
  simp only [row6] at k0 k1 k2 k3 k4 k5
  have HST17 := hide hst17
  clear hst16 hst17 hax hhi hhd hG hb16 HI HST15
  go_wp2_with fail
  refine (unhide HEQ).mono ?_
  rintro e w18 ⟨rfl, hb18⟩
  have hst18 := (unhide HST17).on hb18
  have j0 := hst18.bg.cell (i := 0) (by omega); have j1 := hst18.bg.cell (i := 1) (by omega); have j2 := hst18.bg.cell (i := 2) (by omega); have j3 := hst18.bg.cell (i := 3) (by omega); have j4 := hst18.bg.cell (i := 4) (by omega); have j5 := hst18.bg.cell (i := 5) (by omega)
  simp only [row6] at j0 j1 j2 j3 j4 j5
  have HST18 := hide hst18
  clear hst18 hb18 HEQ HST17 k0 k1 k2 k3 k4 k5
  go_wp2_with fail
  refine (unhide HHE _ (unhide HST18)).mono ?_
  rintro e w19 ⟨rfl, hb19⟩
  have HB19 := hide ((unhide HST18).below.trans (hb19.mono (unhide HST18).below.size))
  clear hb19
  go_wp2_with fail
  go_ret
  exact ⟨rfl, unhide HB19⟩
end Go.Proofs.Ytchlbncncipecaa
