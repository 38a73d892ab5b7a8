/- The walks of the law's own functions on jobs: toCrewJobS, eqCrewJobS, markCrewJobS; on what is told: eqCrewTold, markCrewTold, heldCrewTold. No conditions but the weight, at most 2^20; the marks count to at most 2^40. -/
import Derived.Test.YtchlbncncipecaaWJbLaw
import Derived.Test.YtchlbncncipecaaWTdLaw
namespace Go.Proofs.Ytchlbncncipecaa
open Go Go.RowKit

def z2J : Array Value := #[.slice none 0 0, .int .i64 0]
theorem infoJob : (Try.prog.info? 84).map (fun i => (i.zero, i.size, i.bytes)) = some (some (.agg z2J), 2, 32) := by kernel_rfl
theorem run_make_job (n : Nat) (h : n ≤ 1048576) (w : World) :
    (Instr.makeSlice 49 (.int .i64 (n : Int)) (.int .i64 (n : Int))).run Try.prog w = .ok (.slice (some ⟨w.heap.size, 0, none⟩) n n) (w.alloc (.cells (madeCells z2J (n * 2)) 84)) := by
  obtain ⟨i, hi, he⟩ : ∃ i, Try.prog.info? 84 = some i ∧ (i.zero, i.size, i.bytes) = (some (.agg z2J), 2, 32) := by
    have := infoJob
    cases h : Try.prog.info? 84 with
    | none => rw [h] at this; simp at this
    | some i => rw [h] at this; exact ⟨i, rfl, by simpa using this⟩
  simp only [Prod.mk.injEq] at he
  obtain ⟨e1, e2, e3⟩ := he
  have := run_make (P := Try.prog) w 49 84 i (.agg z2J) Try.underlying49 hi e1 .i64 .i64 n n (by omega) (by omega) (by rw [e3]; omega) (by omega)
  rw [this, e2]
  simp [Value.cells]

def JLaid (w wr : World) (js : List Jb) (k : Nat) : Prop :=
  ∃ f, wr.rowIs w.heap.size 84 (js.length * 2) f ∧ ∀ j, j < k → (hj : j < js.length) → ∃ a, (f (j * 2) = .slice a js[j].items.length js[j].items.length ∧ f (j * 2 + 1) = .int .i64 js[j].bad) ∧
    ZsAt (fun b => (w.heap.size + 1 ≤ b ∧ b < wr.heap.size) ∧ FreeB wr b) wr (.slice a js[j].items.length js[j].items.length) js[j].items ∧ I64 js[j].bad
theorem heap_set2J (w : World) (b o : Nat) (a0 a1 : Value) (k : Nat) (h : k ≠ b) : ((w.setCell ⟨b, o, none⟩ a0).setCell ⟨b, o + 1, none⟩ a1).heap[k]? = w.heap[k]? := by
  rw [Below.heap_setCell _ _ _ _ h, Below.heap_setCell _ _ _ _ h]
theorem JLaid.step {w wr w' : World} {js : List Jb} {k : Nat} (hlt : k < js.length) (hL : JLaid w wr js k) (hb' : Below wr.heap.size wr w') (a : Option Addr) (hr : ZsAt (NewF wr w') w' (.slice a js[k].items.length js[k].items.length) js[k].items) (hbad : I64 js[k].bad) :
    JLaid w ((w'.setCell ⟨w.heap.size, k * 2, none⟩ (.slice a js[k].items.length js[k].items.length)).setCell ⟨w.heap.size, k * 2 + 1, none⟩ (.int .i64 js[k].bad)) js (k + 1) := by
  obtain ⟨f, hrow, hf⟩ := hL
  have hlt0 := hrow.lt
  have hrow' := hrow.of_block (hb'.block _ hrow.lt)
  have hs := hb'.size
  refine ⟨_, (hrow'.set (k * 2) _).set (k * 2 + 1) _, fun j hj hjl => ?_⟩
  by_cases e : j = k
  · subst e
    refine ⟨a, ⟨by simp, by simp⟩, hr.carry (fun b hb => heap_set2J _ _ _ _ _ _ (by have := hb.1.1; omega)) (fun b hb => ⟨?_, hb.2.of_block (heap_set2J _ _ _ _ _ _ (by have := hb.1.1; omega))⟩), hbad⟩
    simp only [size_setCell]
    have := hb.1.1; have := hb.1.2
    omega
  · obtain ⟨d, ⟨g0, g1⟩, hd, hv⟩ := hf j (by omega) hjl
    refine ⟨d, ⟨?_, ?_⟩, hd.carry (fun b hb => ?_) (fun b hb => ?_), hv⟩
    · repeat rw [if_neg (by omega)]
      exact g0
    · repeat rw [if_neg (by omega)]
      exact g1
    · rw [heap_set2J _ _ _ _ _ _ (by omega), hb'.block b hb.1.2]
    · exact ⟨by simp only [size_setCell]; omega, hb.2.of_block (by rw [heap_set2J _ _ _ _ _ _ (by omega), hb'.block b hb.1.2])⟩
theorem JLaid.done {w wr : World} {js : List Jb} (hL : JLaid w wr js js.length) (hlen : js.length ≤ 1048576) : JbsAt (NewF w wr) wr (.slice (some ⟨w.heap.size, 0, none⟩) js.length js.length) js := by
  obtain ⟨f, hrow, hf⟩ := hL
  refine ⟨_, _, rfl, by omega, fun i hi => ⟨w.heap.size, 0, rfl, ⟨⟨Nat.le_refl _, hrow.lt⟩, fun o => hrow.frozen o⟩, ?_⟩⟩
  obtain ⟨d, ⟨g0, g1⟩, hd, hv⟩ := hf i hi hi
  refine ⟨d, _, ?_, ?_, hd.carry (fun _ _ => rfl) (fun b hb => ⟨⟨by omega, hb.1.2⟩, hb.2⟩), hv⟩
  · rw [Nat.zero_add, hrow.cell (i := i * 2) (by omega), g0]
  · rw [Nat.zero_add, hrow.cell (i := i * 2 + 1) (by omega), g1]

set_option maxRecDepth 100000 in
set_option maxHeartbeats 1600000 in
theorem toCrewJobS_any (js : List Jb) (P : Nat → Prop) (v : Value) (w : World) (hP : ∀ b, P b → b < w.heap.size) (hv : JbsAt P w v js) (hwt : wJ js ≤ 1048576) :
    Calls Try.prog 26 #[v] w fun e w' => ∃ a, e = .returned (.slice a js.length js.length) ∧ JbsAt (NewF w w') w' (.slice a js.length js.length) js ∧ Below w.heap.size w w' := by
  obtain ⟨a, cap, rfl, -, hc⟩ := hv
  have hlen : js.length ≤ 1048576 := Nat.le_trans (wJ_len js) hwt
  have HC := hide hc; clear hc
  have HP := hide hP; clear hP
  have HW := hide hwt; clear hwt
  have hmk := run_make_job js.length hlen
  go_enter Try.func26, Try.ntmps26
  go_wp2_with fail
  clear hmk
  go_loopw [4] (fun i wr => ∃ (k : Nat), k ≤ js.length ∧ i = .int .i64 k ∧ Hid (JLaid w wr js k) ∧ Below w.heap.size w wr) (fun i _ => js.length - (intOf i).toNat)
  case atStart =>
    have hrow := World.rowIs_alloc w (madeCells z2J (js.length * 2)) 84 (fun i => (madeCells z2J (js.length * 2))[i]?.getD undef) (fun i hi => by simp [hi])
    rw [size_madeCells] at hrow
    exact ⟨0, Nat.zero_le _, rfl, hide ⟨_, hrow, fun j hj => by omega⟩, (Below.refl _ _).alloc (Nat.le_refl _) _⟩
  case round =>
    obtain ⟨k, hk, rfl, HL, hb⟩ := hrel
    by_cases hlt : k < js.length
    · obtain ⟨b, o, rfl, hpb, au, cu, hc0, hc1, hz, hbad⟩ := unhide HC k hlt
      have e0 : wr.cell? ⟨b, o + k * 2, none⟩ = some (.slice au js[k].items.length cu) := by rw [hb.cell (unhide HP b hpb)]; exact hc0
      have e1 : wr.cell? ⟨b, o + k * 2 + 1, none⟩ = some (.int .i64 js[k].bad) := by rw [hb.cell (unhide HP b hpb)]; exact hc1
      have hwk : js[k].items.length ≤ 1048576 := by have := wJ_mem (List.getElem_mem hlt); have := unhide HW; omega
      have HCALL := hide (toCrewJob_any js[k] P _ wr (fun b hb' => Nat.lt_of_lt_of_le (unhide HP b hb') hb.size) (hz.carry (fun b hb' => hb.block b (unhide HP b hb')) (fun _ h => h)) hwk)
      have HBAD := hide hbad
      have HST := hide (fun w' (hb' : Below wr.heap.size wr w') a hr => JLaid.step hlt HL.out hb' a hr hbad)
      clear hz hc0 hc1 hpb hwk hbad
      generalize js[k] = jb at *
      go_wp2_with fail
      refine (unhide HCALL).mono ?_
      rintro e w' ⟨a', rfl, hr, hb'⟩
      clear e0 e1 HCALL
      obtain ⟨f, hrow, hf⟩ := HL.out
      have hrow' := hrow.of_block (hb'.block _ hrow.lt)
      have HS := hide (unhide HST w' hb' a' hr); have HB' := hide hb'
      have z0 := hrow'.frozen (k * 2)
      have z1 := hrow'.frozen (k * 2 + 1)
      have y0 := hrow'.cell (i := k * 2) (by omega)
      have y1 := hrow'.cell (i := k * 2 + 1) (by omega)
      clear hf hrow hrow' hr hb' HST
      go_wp2_with fail
      go_roundw
      case rel =>
        have hb3 := hb.trans (HB'.out.mono hb.size)
        exact ⟨k + 1, by omega, by go_num, unhide HS, (hb3.setCell (Nat.le_refl _) _).setCell (Nat.le_refl _) _⟩
      case measure => simp [intOf]; omega
    · go_wp2_with fail
      go_ret
      obtain rfl : k = js.length := by omega
      exact ⟨_, rfl, HL.out.done hlen, hb⟩

set_option maxHeartbeats 800000 in
theorem eqCrewJob_any (j : Jb) (P Q : Nat → Prop) (v u : Value) (w : World) (hP : ∀ b, P b → b < w.heap.size) (hQ : ∀ b, Q b → b < w.heap.size) (hv : ZsAt P w v j.items) (hu : ZsAt Q w u j.items) :
    Calls Try.prog 64 #[.agg #[v, .int .i64 j.bad], .agg #[u, .int .i64 j.bad]] w fun e w' => e = .returned (.bool true) ∧ Below w.heap.size w w' := by
  have hbx : ∀ o o2, Below w.heap.size w ((w.alloc o).alloc o2) := fun o o2 => ((Below.refl _ _).alloc (Nat.le_refl _) o).alloc (by simp) o2
  have HCALL := hide (fun (W : World) (hW : Below w.heap.size w W) => eqIntS_any v u j.items W (P := P) (Q := Q) (hv.carry (fun b hb => hW.block b (hP b hb)) (fun _ h => h)) (hu.carry (fun b hb => hW.block b (hQ b hb)) (fun _ h => h)) (fun b hb => Nat.lt_of_lt_of_le (hP b hb) hW.size) (fun b hb => Nat.lt_of_lt_of_le (hQ b hb) hW.size))
  have HBX := hide hbx
  obtain ⟨a, cap, rfl, -, -⟩ := hv
  obtain ⟨a2, cap2, rfl, -, -⟩ := hu
  clear hbx hP hQ
  go_enter Try.func64, Try.ntmps64
  go_wp2_with fail
  refine (unhide HCALL _ (unhide HBX _ _)).mono ?_
  rintro e w1 ⟨rfl, hb1⟩
  have k0 : w1.cell? ⟨w.heap.size, 1, none⟩ = some (.int .i64 j.bad) := by rw [hb1.cell (by simp; omega)]; go_simp
  have k1 : w1.cell? ⟨w.heap.size + 1, 1, none⟩ = some (.int .i64 j.bad) := by rw [hb1.cell (by simp)]; go_simp
  have HB := hide ((unhide HBX _ _).trans (hb1.mono (unhide HBX _ _).size))
  clear hb1
  go_wp2_with fail
  go_ret
  exact ⟨rfl, unhide HB⟩

set_option maxRecDepth 100000 in
set_option maxHeartbeats 800000 in
theorem eqCrewJobS_any (js : List Jb) (P Q : Nat → Prop) (v u : Value) (w : World) (hP : ∀ b, P b → b < w.heap.size) (hQ : ∀ b, Q b → b < w.heap.size) (hv : JbsAt P w v js) (hu : JbsAt Q w u js) :
    Calls Try.prog 29 #[v, u] w fun e w' => e = .returned (.bool true) ∧ Below w.heap.size w w' := by
  obtain ⟨a, cap, rfl, hlen, hc⟩ := hv
  obtain ⟨a2, cap2, rfl, -, hc2⟩ := hu
  have HC := hide hc; clear hc
  have HC2 := hide hc2; clear hc2
  have HP := hide hP; clear hP
  have HQ := hide hQ; clear hQ
  go_enter Try.func29, Try.ntmps29
  go_wp2_with fail
  go_loopw [5] (fun i wr => ∃ (k : Nat), k ≤ js.length ∧ i = .int .i64 k ∧ Below w.heap.size w wr) (fun i _ => js.length - (intOf i).toNat)
  case atStart => exact ⟨0, Nat.zero_le _, rfl, Below.refl _ _⟩
  case round =>
    obtain ⟨k, hk, rfl, hb⟩ := hrel
    by_cases hlt : k < js.length
    · obtain ⟨b, o, rfl, hpb, au, cu, hc0, hc1, hz, -⟩ := unhide HC k hlt
      obtain ⟨b2, o2, rfl, hpb2, au2, cu2, hd0, hd1, hz2, -⟩ := unhide HC2 k hlt
      have e0 : wr.cell? ⟨b, o + k * 2, none⟩ = some (.slice au js[k].items.length cu) := by rw [hb.cell (unhide HP b hpb)]; exact hc0
      have e1 : wr.cell? ⟨b, o + k * 2 + 1, none⟩ = some (.int .i64 js[k].bad) := by rw [hb.cell (unhide HP b hpb)]; exact hc1
      have g0 : wr.cell? ⟨b2, o2 + k * 2, none⟩ = some (.slice au2 js[k].items.length cu2) := by rw [hb.cell (unhide HQ b2 hpb2)]; exact hd0
      have g1 : wr.cell? ⟨b2, o2 + k * 2 + 1, none⟩ = some (.int .i64 js[k].bad) := by rw [hb.cell (unhide HQ b2 hpb2)]; exact hd1
      have HCALL := hide (eqCrewJob_any js[k] P Q _ _ wr.drew (fun b hb' => Nat.lt_of_lt_of_le (unhide HP b hb') hb.size) (fun b hb' => Nat.lt_of_lt_of_le (unhide HQ b hb') hb.size) (hz.carry (w' := wr.drew) (fun b hb' => hb.drew.block b (unhide HP b hb')) (fun _ h => h)) (hz2.carry (w' := wr.drew) (fun b hb' => hb.drew.block b (unhide HQ b hb')) (fun _ h => h)))
      clear hz hz2 hc0 hc1 hd0 hd1 hpb hpb2 HC HC2
      generalize js[k] = jb at *
      go_wp2_with fail
      go_region_with (go_at_call 64; refine (unhide HCALL).mono ?_; rintro e w' ⟨rfl, hb'⟩)
      all_goals
        have hb2 := hb.drew.trans (hb'.mono hb.drew.size)
        go_wp2_with fail
        go_roundw
        case rel => exact ⟨k + 1, by omega, by go_num, hb2⟩
        case measure => simp [intOf]; omega
    · go_wp2_with fail
      go_ret
      exact ⟨rfl, hb⟩

/-- The shape of jobs: so many, in blocks of D of which nothing is frozen. -/
def JShp (D : Nat → Prop) (w : World) (v : Value) (ns : List Nat) : Prop :=
  ∃ a cap, v = .slice a ns.length cap ∧ ns.length ≤ 9223372036854775807 ∧ ∀ i, (h : i < ns.length) → ∃ b o au cu s, a = some ⟨b, o, none⟩ ∧ D b ∧ FreeB w b ∧ w.cell? ⟨b, o + i * 2, none⟩ = some (.slice au ns[i] cu) ∧ ZShp D w (.slice au ns[i] cu) ns[i] ∧ w.cell? ⟨b, o + i * 2 + 1, none⟩ = some (.int .i64 s)
theorem JShp.like {D : Nat → Prop} {w w' : World} {v : Value} {ns : List Nat} (h : JShp D w v ns) (hl : Like D w w') : JShp D w' v ns := by
  obtain ⟨a, cap, h1, h2, h3⟩ := h
  refine ⟨a, cap, h1, h2, fun i hi => ?_⟩
  obtain ⟨b, o, au, cu, s, e, hd, hf, hc0, hz, hc1⟩ := h3 i hi
  obtain ⟨v0, hv0, hlk0⟩ := hl.cell _ _ _ hc0
  obtain ⟨v1, hv1, hlk1⟩ := hl.cell _ _ _ hc1
  obtain rfl := hlk0.slice
  obtain ⟨s', rfl⟩ := hlk1.int
  exact ⟨b, o, au, cu, s', e, hd, hl.free b (World.block_lt_of_cell? w _ hc0) hf, hv0, hz.like hl, hv1⟩
theorem JbsAt.shp {D : Nat → Prop} {w : World} {v : Value} {js : List Jb} (h : JbsAt D w v js) (hf : ∀ b, D b → FreeB w b) : JShp D w v (js.map fun j => j.items.length) := by
  obtain ⟨a, cap, h1, h2, h3⟩ := h
  refine ⟨a, cap, by rw [List.length_map]; exact h1, by rw [List.length_map]; exact h2, fun i hi => ?_⟩
  rw [List.length_map] at hi
  obtain ⟨b, o, e, hp, au, cu, hc0, hc1, hz, -⟩ := h3 i hi
  rw [List.getElem_map]
  refine ⟨b, o, au, cu, _, e, hp, hf b hp, hc0, ?_, hc1⟩
  obtain ⟨a', c', e', hl, hc⟩ := hz
  refine ⟨a', c', e', hl, fun q hq => ?_⟩
  obtain ⟨b', o', e2, hp', hcell, -⟩ := hc q hq
  exact ⟨b', o', _, e2, hp', hf b' hp', hcell⟩
/-- How many marks. -/
def mkJ : List Nat → Nat
  | [] => 0
  | n :: r => n + 1 + mkJ r
theorem mkJ_take (ns : List Nat) (k : Nat) (h : k < ns.length) : mkJ (ns.take (k + 1)) = mkJ (ns.take k) + ns[k] + 1 := by
  induction ns generalizing k with
  | nil => simp at h
  | cons a r ih =>
    cases k with
    | zero => simp [mkJ]
    | succ k => simp only [List.take_succ_cons, mkJ, List.getElem_cons_succ]; rw [ih k (by simpa using h)]; omega
theorem mkJ_le (ns : List Nat) (k : Nat) : mkJ (ns.take k) ≤ mkJ ns := by
  induction ns generalizing k with
  | nil => simp [mkJ]
  | cons a r ih =>
    cases k with
    | zero => simp [mkJ]
    | succ k => have := ih k; simp only [List.take_succ_cons, mkJ]; omega
theorem mkJ_wJ (js : List Jb) : mkJ (js.map fun j => j.items.length) = wJ js := by
  induction js with
  | nil => rfl
  | cons j r ih => simp only [List.map_cons, mkJ, wJ, ih]; omega

set_option maxRecDepth 100000 in
set_option maxHeartbeats 1600000 in
theorem markCrewJobS_shp (D : Nat → Prop) (v : Value) (ns : List Nat) (k : Nat) (w : World) (hv : JShp D w v ns) (hk : k + mkJ ns ≤ 1099511627776) :
    Calls Try.prog 30 #[v, .int .i64 k] w fun e w' => e = .returned (.int .i64 (k + mkJ ns : Nat)) ∧ Like D w w' := by
  have HV := hide hv
  obtain ⟨a, cap, rfl, hlen, -⟩ := hv
  go_enter Try.func30, Try.ntmps30
  go_wp2_with fail
  go_loopw [1, 5] (fun kk i wr => ∃ (j m : Nat), j ≤ ns.length ∧ Hid (m = k + mkJ (ns.take j)) ∧ kk = .int .i64 (m : Nat) ∧ i = .int .i64 j ∧ Hid (Like D w wr)) (fun _ i _ => ns.length - (intOf i).toNat)
  case atStart => exact ⟨0, k, Nat.zero_le _, hide (by simp [mkJ]), rfl, rfl, Like.refl _ _⟩
  case round =>
    obtain ⟨j, m, hj, HM, rfl, rfl, HL⟩ := hrel
    by_cases hlt : j < ns.length
    · have hs := (unhide HV).like HL.out
      obtain ⟨a', cap', e, -, hc⟩ := hs
      cases e
      obtain ⟨b, o, au, cu, s, rfl, hd, hf, hc0, hz, hc1⟩ := hc j hlt
      have hmt := mkJ_take ns j hlt
      have hml := mkJ_le ns (j + 1)
      have hm0 := HM.out
      have hmb : m + ns[j] + 1 ≤ 1099511627776 := by omega
      have HMM := hide (show m + ns[j] + 1 = k + mkJ (ns.take (j + 1)) by omega)
      have HCALL := hide (markIntS_shp D _ ns[j] m wr hz (by omega))
      have HD := hide hd; have HF := hide hf; have HC1 := hide hc1
      clear hc hz hd hf hmt hml hm0 hc1
      generalize ns[j] = q at *
      go_wp2_with fail
      refine (unhide HCALL).mono ?_
      rintro e w' ⟨rfl, hlk⟩
      obtain ⟨v1, hv1, hlk1⟩ := hlk.cell _ _ _ (unhide HC1)
      obtain ⟨s', rfl⟩ := hlk1.int
      have z1 := hlk.free b (World.block_lt_of_cell? wr _ (unhide HC1)) (unhide HF) (o + j * 2 + 1)
      obtain ⟨m', hm'⟩ : ∃ m', m' = m + q := ⟨_, rfl⟩
      rw [← hm']
      have HLK := hide (HL.out.trans (hlk.trans (Like.set (v := .int .i64 (m' : Int)) (unhide HD) hv1 (Or.inl ⟨_, _, rfl, rfl⟩))))
      have hmb' : m' + 1 ≤ 1099511627776 := by omega
      have HM' := hide hm'
      clear hlk hlk1 hc0 HCALL HC1 hm' hmb
      go_wp2_with fail
      go_roundw
      case rel => exact ⟨j + 1, m' + 1, by omega, hide (by have h1 := unhide HMM; have h2 := unhide HM'; omega), by go_num, by go_num, unhide HLK⟩
      case measure => simp [intOf]; omega
    · go_wp2_with fail
      go_ret
      obtain rfl : j = ns.length := by omega
      have := HM.out
      rw [List.take_length] at this
      exact ⟨by (rw [this]; rfl), HL.out⟩
end Go.Proofs.Ytchlbncncipecaa
