/- The walk of the program's DiskDo: what a write does, in memory of its own; that it turns nothing that was there. No conditions but that the write's name is bounded. -/
import Derived.Test.YtekchajnellcdaaPart22
import Derived.Test.YtekchajnellcdaaPart23
import Derived.Test.YtekchajnellcdaaPart08
namespace Go.Proofs.Ytekchajnellcdaa
open Go Go.RowKit Go.WideMaps Go.Maps

/-- A disk in memory of its own, and a number, are given back. -/
def OwnEnd2 (w w' : World) (e : Ending) (d : Dk) (n : Int) : Prop :=
  ∃ (c : C3) (F0 F1 F2 : List Nat), e = .returned (.tuple #[.agg #[c.c0, c.c1, c.c2], .int .i64 n]) ∧ DkOwn w' d c F0 F1 F2 ∧ (F0 ++ F1 ++ F2).Nodup ∧ (∀ b, b ∈ F0 ++ F1 ++ F2 → w.heap.size ≤ b ∧ b < w'.heap.size) ∧ Below w.heap.size w w'
/-- Lists in rows of different types lie apart. -/
theorem owns_ne {W : World} {b1 b2 e1 e2 s1 s2 n1 n2 g : Nat} {v1 v2 : Value} {x1 x2 : List Value} (h1 : W.ownsRow b1 e1 s1 v1 n1 x1) (h2 : W.ownsRow b2 e2 s2 v2 n2 x2) (hne : e1 ≠ e2) (g1 : v1.ownBlock = some g) (g2 : v2.ownBlock = some g) : False := by
  rcases h1.2 with ⟨hv, _⟩ | ⟨ga, c1, u1, hv1, _, hh1, _⟩
  · rw [hv] at g1; cases g1
  rcases h2.2 with ⟨hv, _⟩ | ⟨gb, c2, u2, hv2, _, hh2, _⟩
  · rw [hv] at g2; cases g2
  rw [hv1] at g1; rw [hv2] at g2
  simp only [Value.ownBlock, Option.some.injEq] at g1 g2
  subst g1; subst g2
  rw [hh1] at hh2
  simp only [Option.some.injEq, Obj.cells.injEq] at hh2
  exact hne hh2.2.1
/-- The copy is a disk of its own. -/
theorem MxSt.own {base L : Nat} {W : World} {x0 x1 x2 : Value} {fs : List Df} {ns : List ByteArray} {ms : List Dm} (h : MxSt base L W x0 x1 x2 fs ns ms) (hf : ∀ f, f ∈ fs → f.okM) (hn : ∀ x, x ∈ ns → x.size ≤ 9223372036854775807) (hm : ∀ m, m ∈ ms → m.okM) :
    ∃ F0 F1 F2, DkOwn W ⟨fs, ns, ms⟩ ⟨x0, x1, x2⟩ F0 F1 F2 ∧ (F0 ++ F1 ++ F2).Nodup ∧ ∀ b, b ∈ F0 ++ F1 ++ F2 → base ≤ b ∧ b < W.heap.size := by
  obtain ⟨F0, h1, h2, h3, h4⟩ := FlatOwn.of_row (rs := fs.map Df.cs) (n := 3) (by rw [List.length_map]; exact h.o0) (fun r hr => by obtain ⟨f, -, rfl⟩ := List.mem_map.1 hr; rfl)
  obtain ⟨F1, g1, g2, g3, g4⟩ := strsOwn_of_row h.o1 hn
  obtain ⟨F2, k1, k2, k3, k4⟩ := FlatOwn.of_row (rs := ms.map Dm.cs) (n := 2) (by rw [List.length_map]; exact h.o2) (fun r hr => by obtain ⟨f, -, rfl⟩ := List.mem_map.1 hr; rfl)
  refine ⟨F0, F1, F2, ⟨⟨h1, hf⟩, g1, ⟨k1, hm⟩⟩, ?_, fun b hb => ?_⟩
  · refine List.nodup_append.2 ⟨List.nodup_append.2 ⟨h4, g2, fun a ha b hb e => by subst e; exact owns_ne h.o0 h.o1 (by decide) (h2 a ha) (g4 a hb)⟩, k4, fun a ha b hb e => ?_⟩
    subst e
    rcases List.mem_append.1 ha with ha | ha
    · exact owns_ne h.o0 h.o2 (by decide) (h2 a ha) (k2 a hb)
    · exact owns_ne h.o1 h.o2 (by decide) (g4 a ha) (k2 a hb)
  · rcases List.mem_append.1 hb with hb | hb
    · rcases List.mem_append.1 hb with hb | hb
      · exact h3 b hb
      · exact g3 b hb
    · exact k3 b hb
theorem ok_small {d : Dk} (h : DkOkS d) : (∀ f, f ∈ d.files → f.name.size ≤ 1099511627776 ∧ f.data.size ≤ 1099511627776) ∧ (∀ x, x ∈ d.names → x.size ≤ 1099511627776) ∧ (∀ f, f ∈ d.moves → f.name.size ≤ 1099511627776) := by
  have hf : ∀ f, f ∈ d.files → f.name.size ≤ 8 ∧ f.data.size ≤ 20000 := fun f hf => by
    obtain ⟨i, hi, rfl⟩ := List.getElem_of_mem hf
    have hfi := h.file i hi (by rw [h.len]; exact hi)
    refine ⟨?_, hfi.data⟩
    refine Classical.byContradiction fun hno => ?_
    have hn := hfi.name
    rw [nameOk_len (Or.inr (by omega))] at hn
    cases hn
  obtain ⟨hnd, heq, -⟩ := dk_nodup h
  have hmd : ∀ x, x ∈ madeD d.names d.moves → x.size ≤ 8 := fun x hx => by
    rw [← heq] at hx
    obtain ⟨f, hf', rfl⟩ := List.mem_map.1 hx
    exact (hf f hf').1
  refine ⟨fun f hf' => by have := hf f hf'; omega, fun x hx => ?_, fun m hm => ?_⟩
  · have := hmd x (List.mem_append_left _ hx); omega
  · obtain ⟨i, hi, rfl⟩ := List.getElem_of_mem hm
    cases hg : d.moves[i].gone with
    | true =>
      have h1 := (after_nodup hnd i (by omega)).2 _ (hasB_iff.1 (h.move i hi hg))
      have := hmd _ ((made_sub d.names d.moves i).subset h1)
      omega
    | false =>
      have : d.moves[i].name ∈ madeD d.names d.moves := by
        unfold madeD
        refine List.mem_append_right _ ?_
        simp only [List.mem_map, List.mem_filter]
        exact ⟨d.moves[i], ⟨hm, by simp [hg]⟩, rfl⟩
      have := hmd _ this
      omega
/-- What a write leaves is bounded. -/
theorem doD_okM {d : Dk} (k : Int) {x y : ByteArray} (hok : DkOkS d) (hf : ∀ f, f ∈ d.files → f.okM) (hn : ∀ z, z ∈ d.names → z.size ≤ 9223372036854775807) (hm : ∀ m, m ∈ d.moves → m.okM) (hx : x.size ≤ 1048576) :
    (∀ f, f ∈ (doD d k x y).1.files → f.okM) ∧ (∀ z, z ∈ (doD d k x y).1.names → z.size ≤ 9223372036854775807) ∧ ∀ m, m ∈ (doD d k x y).1.moves → m.okM := by
  by_cases k1 : k = 1
  · subst k1
    by_cases ht : nameOkB x = false ∨ 0 ≤ findF d.files x
    · rw [doD_taken hok ht]; exact ⟨hf, hn, hm⟩
    by_cases hfu : 64 ≤ d.files.length ∨ 128 ≤ d.moves.length
    · rw [doD_full hok ht hfu]; exact ⟨hf, hn, hm⟩
    rw [doD_make hok ht hfu]
    exact ⟨okF hf ⟨by simp only; omega, by simp only; decide, by unfold I64; simp⟩, hn, okM hm (show x.size ≤ 9223372036854775807 by omega)⟩
  by_cases k5 : k = 5
  · subst k5
    rw [doD_dirs hok]
    refine ⟨fun f hfm => ?_, fun z hz => ?_, fun m hmm => (by cases hmm)⟩
    · obtain ⟨z, hz, rfl⟩ := List.mem_map.1 hfm
      obtain ⟨i, hi, -, -, hfi⟩ := names_file hz
      rw [fileD_at hi hfi]
      exact hf _ (List.getElem_mem hi)
    · obtain ⟨i, hi, -, hxi, -⟩ := names_file (show z ∈ namesD d from hz)
      rw [← hxi]
      exact (hf _ (List.getElem_mem hi)).1
  by_cases hk : 2 ≤ k ∧ k ≤ 4
  case neg => rw [doD_kind hok (by omega)]; exact ⟨hf, hn, hm⟩
  by_cases hin : x ∈ namesD d
  case neg => rw [doD_nofile hok hk hin]; exact ⟨hf, hn, hm⟩
  obtain ⟨i, hi, -, hxi, hfi⟩ := names_file hin
  have hfd := fileD_at hi hfi
  have hds := (hok.file i hi (by rw [hok.len]; exact hi)).data
  have hfo := hf _ (List.getElem_mem hi)
  by_cases k2 : k = 2
  · subst k2
    by_cases hz : 20000 - ((fileD d x).data.size : Int) < (y.size : Int)
    · rw [doD_addfull hok hin hz]; exact ⟨hf, hn, hm⟩
    rw [doD_add hok hin hz, putD_at hfi, hfd]
    rw [hfd] at hz
    exact ⟨okSet hf ⟨hfo.1, by simp only [ByteArray.size_append]; omega, hfo.2.2⟩, hn, hm⟩
  by_cases k3 : k = 3
  · subst k3
    rw [doD_sync hok hin, putD_at hfi, hfd]
    exact ⟨okSet hf ⟨hfo.1, hfo.2.1, ⟨by simp only; omega, by simp only; omega⟩⟩, hn, hm⟩
  obtain rfl : k = 4 := by omega
  by_cases hfu : 128 ≤ d.moves.length
  · rw [doD_gonefull hok hin hfu]; exact ⟨hf, hn, hm⟩
  rw [doD_gone hok hin hfu]
  exact ⟨hf, hn, okM hm (show x.size ≤ 9223372036854775807 by omega)⟩
theorem doD_same {d : Dk} {k : Int} {x y : ByteArray} (hok : DkOkS d) (h : (doD d k x y).2 ≠ 0) : (doD d k x y).1 = d := by
  unfold doD at h ⊢
  repeat' split <;> first | rfl | (exfalso; exact absurd hok (by assumption)) | skip
  all_goals simp_all

set_option maxRecDepth 100000 in
set_option maxHeartbeats 6400000 in
theorem implDiskDo_any (d : Dk) (k : Int) (x y : ByteArray) (P : Nat → Prop) (c : C3) (w : World) (hP : ∀ b, P b → b < w.heap.size) (hd : DkAt P w d c) (hx : x.size ≤ 1048576) :
    Calls Try.prog 9 #[.agg #[c.c0, c.c1, c.c2], .agg #[.int .i64 k, .string x, .string y]] w fun e w' => OwnEnd2 w w' e (doD d k x y).1 (doD d k x y).2 := by
  obtain ⟨c0, c1, c2⟩ := c
  have HD := hide hd; have HP := hide hP
  have hbx : ∀ o o' o'', Below w.heap.size w (((w.alloc o).alloc o').alloc o'') := fun o o' o'' => (((Below.refl _ _).alloc (Nat.le_refl _) o).alloc (by simp) o').alloc (by simp; omega) o''
  have HV := hide (fun o o' o'' => viewsOf_any d P ⟨c0, c1, c2⟩ (((w.alloc o).alloc o').alloc o'') (fun b hb => Nat.lt_of_lt_of_le (hP b hb) (hbx o o' o'').size) (hd.carry (fun b hb => (hbx o o' o'').block b (hP b hb)) (fun _ h => h)))
  have HBX := hide hbx
  have hr0 : ∀ o' o'', (((w.alloc (.cells #[c0, c1, c2] 34)).alloc o').alloc o'').rowIs w.heap.size 34 3 (row3 c0 c1 c2) := fun o' o'' => ((row3_alloc w c0 c1 c2 34).alloc o').alloc o''
  have hr1 : ∀ o o'', (((w.alloc o).alloc (.cells #[.int .i64 k, .string x, .string y] 38)).alloc o'').rowIs (w.heap.size + 1) 38 3 (row3 (.int .i64 k) (.string x) (.string y)) := fun o o'' => by
    have := (row3_alloc (w.alloc o) (.int .i64 k) (.string x) (.string y) 38).alloc o''
    rw [World.size_alloc] at this
    exact this
  have hr2 : ∀ o o', (((w.alloc o).alloc o').alloc (.cells #[.slice none 0 0, .slice none 0 0, .slice none 0 0] 34)).rowIs (w.heap.size + 1 + 1) 34 3 (row3 (.slice none 0 0) (.slice none 0 0) (.slice none 0 0)) := fun o o' => by
    have := row3_alloc ((w.alloc o).alloc o') (.slice none 0 0) (.slice none 0 0) (.slice none 0 0) 34
    rw [World.size_alloc, World.size_alloc] at this
    exact this
  have HR0 := hide hr0; have HR1 := hide hr1; have HR2 := hide hr2
  clear hd hP hbx hr0 hr1 hr2
  go_enter Try.func9, Try.ntmps9
  go_wp2_with fail
  refine (unhide HV _ _ _).mono ?_
  rintro e w1 ⟨r, q0, q1, x2, n2, m2, q3, x4, n4, m4, rfl, hr, hb1, hvw⟩
  have hb01 := (unhide HBX _ _ _).trans (hb1.mono (unhide HBX _ _ _).size)
  have hs1 : w.heap.size + 3 ≤ w1.heap.size := by have := hb1.size; simpa using this
  have hq0 := (unhide HR0 _ _).of_block (hb1.block w.heap.size (by simp; omega))
  have hq1 := (unhide HR1 _ _).of_block (hb1.block (w.heap.size + 1) (by simp))
  have hq2 := (unhide HR2 _ _).of_block (hb1.block (w.heap.size + 1 + 1) (by simp))
  have HB1 := hide hb01; have Q0 := hide hq0; have Q1 := hide hq1; have Q2 := hide hq2
  clear hb1 HV hb01 HR0 HR1 HR2
  cases r with
  | false =>
    have HNO := hide (show doD d k x y = (⟨[], [], []⟩, 1) from doD_bad (fun h => by have := hr.2 ((dkOk_iff d).1 h); cases this))
    have hq3 := fun o' => hq2.alloc o'
    have y0 := fun o' => (hq3 o').cell (i := 0) (by omega); have y1 := fun o' => (hq3 o').cell (i := 1) (by omega); have y2 := fun o' => (hq3 o').cell (i := 2) (by omega)
    have z := fun o' => (hq3 o').frozen
    simp only [row3] at y0 y1 y2
    clear hr hvw hq2 hq3 hq0 hq1
    go_wp2_with fail
    try simp only [Exit.inBlock, Exit.then]
    refine bodyPost_ret (v := .tuple #[.agg #[.slice none 0 0, .slice none 0 0, .slice none 0 0], .int .i64 1]) (by simp [results, Try.results9, go_sem, y0, y1, y2]) rfl ?_
    rw [unhide HNO]
    refine ⟨⟨_, _, _⟩, [], [], [], rfl, DkOwn.none _, by simp, fun b hb => (by cases hb), ?_⟩
    exact ((((unhide HB1).alloc (unhide HB1).size _).setCell (by simp; omega) _).setCell (by simp; omega) _).setCell (by simp; omega) _
  | true =>
    obtain ⟨T, B, vm, hvw⟩ := hvw rfl
    have hok := (dkOk_iff d).2 (hr.1 rfl)
    clear hr
    have hval := hvw.val
    simp only [Value.agg.injEq, Array.mk.injEq, List.cons.injEq, Value.pointer.injEq, and_true] at hval
    obtain ⟨rfl, rfl, hx2, rfl, rfl⟩ := hval
    subst hx2
    obtain ⟨a0, p0, g0, hl0, -⟩ := (unhide HD).fs.open
    simp only at g0
    subst g0
    have hsm := ok_small hok
    have hd1 : DkAt (fun b => b < w1.heap.size) w1 d ⟨.slice a0 d.files.length p0, .slice x2 n2 m2, c2⟩ := (unhide HD).carry (fun b hb => (unhide HB1).block b (unhide HP b hb)) (fun b hb => by have := unhide HP b hb; omega)
    have hvs : Vs (fun b => b < w1.heap.size) d a0 p0 T B x2 n2 m2 x4 n4 m4 w1 := ⟨hvw.row, hvw.map, hd1.ns, hvw.fns.carry (fun _ _ => rfl) (fun _ h => h.2), hd1.fs, fun _ h => h⟩
    have hT := hvw.tb.2; have hB := hvw.bb.2
    have hbv : ∀ o, Below w1.heap.size w1 (w1.alloc o) := fun o => (Below.refl _ _).alloc (Nat.le_refl _) o
    have HCD := hide (fun o => copyDisk_any d (fun b => b < w1.heap.size) ⟨.slice a0 d.files.length p0, .slice x2 n2 m2, c2⟩ (w1.alloc o) (fun b hb => by rw [World.size_alloc]; omega) (hd1.carry (fun b hb => (hbv o).block b hb) (fun _ h => h)) ⟨by have := hok.l1; omega, by have := hok.l2; omega, by have := hok.l3; omega⟩ hsm)
    have k0 := fun o => (hq0.alloc o).cell (i := 0) (by omega); have k1 := fun o => (hq0.alloc o).cell (i := 1) (by omega); have k2 := fun o => (hq0.alloc o).cell (i := 2) (by omega)
    simp only [row3] at k0 k1 k2
    obtain ⟨a2, p2, g2, hl2, -⟩ := hd1.ms.open
    simp only at g2
    subst g2
    have hV1 := fiveV_alloc w1 (.pointer (some ⟨T, 0, none⟩)) (.pointer (some ⟨T, 0, none⟩)) (.slice x2 n2 m2) (.pointer (some ⟨T, 0, none⟩)) (.slice x4 n4 m4) 68
    have HV1 := hide hV1; have HVS := hide hvs; have HD1 := hide hd1; have HOK := hide hok; have HBV := hide hbv
    clear hvw hd1 hvs hsm hbv hV1 hq0 hq1 hq2 hok
    go_wp2_with fail
    refine (unhide HCD _).mono ?_
    rintro e w2 ⟨⟨u0, u1, u2⟩, rfl, h0, h1, h2, hb2⟩
    clear k0 k1 k2 HCD
    simp only at h0 h1 h2
    have hs2 : w1.heap.size + 1 ≤ w2.heap.size := by have := hb2.size; simpa using this
    rw [World.size_alloc] at h0 h1 h2
    obtain ⟨b0, r0, e0⟩ := own_slice h0
    obtain ⟨b1, r1, e1⟩ := own_slice h1
    obtain ⟨b2, r2, e2⟩ := own_slice h2
    subst e0 e1 e2
    have hV2 := (unhide HV1).of_block (hb2.block w1.heap.size (by simp))
    have hbw2 := (unhide HBV _).trans (hb2.mono (unhide HBV _).size)
    have hal : ∀ o, Below w2.heap.size w2 (w2.alloc o) := fun o => (Below.refl _ _).alloc (Nat.le_refl _) o
    have hmx : MxSt (w1.heap.size + 1) w2.heap.size (w2.alloc (.cells #[.slice b0 d.files.length r0, .slice b1 d.names.length r1, .slice b2 d.moves.length r2] 34)) (.slice b0 d.files.length r0) (.slice b1 d.names.length r1) (.slice b2 d.moves.length r2) d.files d.names d.moves := ⟨row3_alloc _ _ _ _ _, h0.alloc _, h1.alloc _, h2.alloc _⟩
    have hq1 := (unhide Q1).of_block (hbw2.block (w.heap.size + 1) (by omega))
    have hq2 := (unhide Q2).of_block (hbw2.block (w.heap.size + 1 + 1) (by omega))
    have HRF := hide (refusal_any (fun b => b < w1.heap.size) (w2.alloc (.cells #[.slice b0 d.files.length r0, .slice b1 d.names.length r1, .slice b2 d.moves.length r2] 34)) d a0 p0 T B x2 n2 m2 x4 n4 m4 k x y ((unhide HVS).on (hbw2.trans ((hal _).mono hbw2.size))) hx (unhide HOK))
    have HVS2 := hide ((unhide HVS).on (hbw2.trans ((hal (.cells #[.slice b0 d.files.length r0, .slice b1 d.names.length r1, .slice b2 d.moves.length r2] 34)).mono hbw2.size)))
    have HMX := hide hmx; have HBW2 := hide hbw2; have HV2 := hide hV2; have HQ1 := hide hq1; have HQ2 := hide hq2
    have i0 := fun o => (hV2.alloc o).cell (i := 0) (by omega); have i1 := fun o => (hV2.alloc o).cell (i := 1) (by omega); have i2 := fun o => (hV2.alloc o).cell (i := 2) (by omega); have i3 := fun o => (hV2.alloc o).cell (i := 3) (by omega); have i4 := fun o => (hV2.alloc o).cell (i := 4) (by omega)
    simp only [fiveV] at i0 i1 i2 i3 i4
    have j0 := fun o => (hq1.alloc o).cell (i := 0) (by omega); have j1 := fun o => (hq1.alloc o).cell (i := 1) (by omega); have j2 := fun o => (hq1.alloc o).cell (i := 2) (by omega)
    simp only [row3] at j0 j1 j2
    clear h0 h1 h2 hb2 hV2 hbw2 hal hmx hq1 hq2 HVS
    have hfin : ∀ (W4 : World) (v0 v1 v2 : Value), MxSt (w1.heap.size + 1) w2.heap.size W4 v0 v1 v2 (doD d k x y).1.files (doD d k x y).1.names (doD d k x y).1.moves → Below (w1.heap.size + 1) w2 W4 → OwnEnd2 w (((W4.setCell ⟨w.heap.size + 1 + 1, 0, none⟩ v0).setCell ⟨w.heap.size + 1 + 1, 1, none⟩ v1).setCell ⟨w.heap.size + 1 + 1, 2, none⟩ v2) (.returned (.tuple #[.agg #[v0, v1, v2], .int .i64 (doD d k x y).2])) (doD d k x y).1 (doD d k x y).2 := fun W4 v0 v1 v2 hm4 hb4 => by
      have hbo := doD_okM (y := y) k (unhide HOK) (unhide HD1).fs.2 (fun z hz => by have := (ok_small (unhide HOK)).2.1 z hz; omega) (unhide HD1).ms.2 hx
      obtain ⟨F0, F1, F2, ho, hnd, hF⟩ := hm4.own hbo.1 hbo.2.1 hbo.2.2
      have hk : ∀ b, w1.heap.size + 1 ≤ b → (((W4.setCell ⟨w.heap.size + 1 + 1, 0, none⟩ v0).setCell ⟨w.heap.size + 1 + 1, 1, none⟩ v1).setCell ⟨w.heap.size + 1 + 1, 2, none⟩ v2).heap[b]? = W4.heap[b]? := fun b hb => by
        rw [Below.heap_setCell _ _ _ _ (by simp; omega), Below.heap_setCell _ _ _ _ (by simp; omega), Below.heap_setCell _ _ _ _ (by simp; omega)]
      have h24 := (unhide HBW2).trans (hb4.mono (by omega))
      have hbl := (unhide HB1).trans (h24.mono (by omega))
      exact ⟨⟨v0, v1, v2⟩, F0, F1, F2, rfl, ho.carry (fun b hb => hk b (hF b hb).1), hnd, fun b hb => ⟨by have := (hF b hb).1; omega, by simpa using (hF b hb).2⟩, ((hbl.setCell (by simp; omega) _).setCell (by simp; omega) _).setCell (by simp; omega) _⟩
    have HFIN := hide hfin
    have HSAME := hide (doD_same (k := k) (x := x) (y := y) (unhide HOK))
    generalize hDD : (doD d k x y).2 = n at *
    have HDD := hide hDD
    clear hDD hfin
    go_wp2_with fail
    refine (unhide HRF).mono ?_
    rintro e w3 ⟨rfl, hb3⟩
    clear i0 i1 i2 i3 i4 j0 j1 j2 HRF
    have hal : Below w2.heap.size w2 (w2.alloc (.cells #[.slice b0 d.files.length r0, .slice b1 d.names.length r1, .slice b2 d.moves.length r2] 34)) := (Below.refl _ _).alloc (Nat.le_refl _) _
    have hs3 : w2.heap.size + 1 ≤ w3.heap.size := by have := hb3.size; simpa using this
    have hb23 := hal.trans (hb3.mono hal.size)
    have hm3 := (unhide HMX).keep hb3
    have hq1 := (unhide HQ1).of_block (hb23.block _ (by omega)); have hq2 := (unhide HQ2).of_block (hb23.block _ (by omega)); have hV3 := (unhide HV2).of_block (hb23.block _ (by omega))
    by_cases hn0 : n = 0
    case neg =>
      have hnn : (n == 0) = false := by simpa using hn0
      have hsame := unhide HSAME hn0
      have y0 := hq2.cell (i := 0) (by omega); have y1 := hq2.cell (i := 1) (by omega); have y2 := hq2.cell (i := 2) (by omega)
      have z := hq2.frozen
      have l0 := hm3.row.cell (i := 0) (by omega); have l1 := hm3.row.cell (i := 1) (by omega); have l2 := hm3.row.cell (i := 2) (by omega)
      simp only [row3] at y0 y1 y2 l0 l1 l2
      have HF := hide (unhide HFIN w3 (.slice b0 d.files.length r0) (.slice b1 d.names.length r1) (.slice b2 d.moves.length r2) (by rw [hsame]; exact hm3) (hb23.mono (by omega)))
      clear hm3 hq1 hq2 hV3 hb3 hb23 hal hsame hn0
      go_wp2_with fail
      try simp only [Exit.inBlock, Exit.then]
      refine bodyPost_ret (v := .tuple #[.agg #[.slice b0 d.files.length r0, .slice b1 d.names.length r1, .slice b2 d.moves.length r2], .int .i64 n]) (by simp [results, Try.results9, go_sem, y0, y1, y2]) rfl ?_
      have hdd := unhide HDD
      subst hdd
      exact unhide HF
    subst hn0
    have HWR := hide (write_any (fun b => b < w1.heap.size) w3 d a0 p0 T B x2 n2 m2 x4 n4 m4 k x y ((unhide HVS2).on hb3) (w1.heap.size + 1) (w1.heap.size + 1) w2.heap.size ⟨.slice b0 d.files.length r0, .slice b1 d.names.length r1, .slice b2 d.moves.length r2⟩ hm3 hx (Nat.le_refl _) (by omega) (unhide HOK) (fun b hb => by omega) (by omega) (by omega) (unhide HDD))
    have i0 := hV3.cell (i := 0) (by omega); have i1 := hV3.cell (i := 1) (by omega); have i2 := hV3.cell (i := 2) (by omega); have i3 := hV3.cell (i := 3) (by omega); have i4 := hV3.cell (i := 4) (by omega)
    simp only [fiveV] at i0 i1 i2 i3 i4
    have j0 := hq1.cell (i := 0) (by omega); have j1 := hq1.cell (i := 1) (by omega); have j2 := hq1.cell (i := 2) (by omega)
    simp only [row3] at j0 j1 j2
    have HB23 := hide hb23; have HQ3 := hide hq2
    clear hm3 hq1 hq2 hV3 hb3 hb23 hal
    go_wp2_with fail
    refine (unhide HWR).mono ?_
    rintro e w4 ⟨rfl, ⟨⟨u0, u1, u2⟩, hm4⟩, hb4⟩
    clear i0 i1 i2 i3 i4 j0 j1 j2 HWR
    simp only at hm4
    obtain ⟨c0, s0, e0⟩ := own_slice hm4.o0
    obtain ⟨c1, s1, e1⟩ := own_slice hm4.o1
    obtain ⟨c2, s2, e2⟩ := own_slice hm4.o2
    subst e0 e1 e2
    have hq4 := (unhide HQ3).of_block (hb4.block _ (by omega))
    have y0 := hq4.cell (i := 0) (by omega); have y1 := hq4.cell (i := 1) (by omega); have y2 := hq4.cell (i := 2) (by omega)
    have z := hq4.frozen
    have l0 := hm4.row.cell (i := 0) (by omega); have l1 := hm4.row.cell (i := 1) (by omega); have l2 := hm4.row.cell (i := 2) (by omega)
    simp only [row3] at y0 y1 y2 l0 l1 l2
    have HF := hide (unhide HFIN w4 _ _ _ hm4 (((unhide HB23).mono (by omega)).trans hb4))
    have hs4 := hm4.row.lt
    clear hm4 hb4 hq4
    generalize (doD d k x y).1.files.length = N0 at *
    generalize (doD d k x y).1.names.length = N1 at *
    generalize (doD d k x y).1.moves.length = N2 at *
    go_wp2_with fail
    try simp only [Exit.inBlock, Exit.then]
    refine bodyPost_ret (v := .tuple #[.agg #[.slice c0 N0 s0, .slice c1 N1 s1, .slice c2 N2 s2], .int .i64 0]) (by simp [results, Try.results9, go_sem, y0, y1, y2]) rfl ?_
    rw [unhide HDD]
    exact unhide HF
end Go.Proofs.Ytekchajnellcdaa
