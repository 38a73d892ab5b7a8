/- The walks of the law's own functions on jobs that are bad: eqCrewDeadS, heldCrewDeadS, markCrewDeadS. The marks count to at most 2^40. -/
import Derived.Test.YtchbialjgcejgaaPart03
import Derived.Test.YtchbialjgcejgaaPart05
namespace Go.Proofs.Ytchbialjgcejgaa
open Go Go.RowKit

theorem eqCrewDead_any (h : Hd) (w : World) :
    Calls Try.prog 89 #[.agg #[.int .i64 h.state, .int .i64 h.job], .agg #[.int .i64 h.state, .int .i64 h.job]] w fun e w' => e = .returned (.bool true) ∧ Below w.heap.size w w' := by
  have hb0 : ∀ o o2, Below w.heap.size w ((w.alloc o).alloc o2) := fun o o2 => ((Below.refl _ _).alloc (Nat.le_refl _) o).alloc (by simp) o2
  go_enter Try.func89, Try.ntmps89
  go_wp2_with fail
  go_ret
  exact ⟨rfl, hb0 _ _⟩

set_option maxHeartbeats 800000 in
theorem eqCrewDeadS_any (v v2 : Value) (fs : List Hd) (w : World) {P Q : Nat → Prop} (hv : HAt P w v fs) (hv2 : HAt Q w v2 fs) (hP : ∀ b, P b → b < w.heap.size) (hQ : ∀ b, Q b → b < w.heap.size) :
    Calls Try.prog 63 #[v, v2] w fun e w' => e = .returned (.bool true) ∧ Below w.heap.size w w' := by
  obtain ⟨a, cap, rfl, hlen, hc⟩ := hv.open
  obtain ⟨a2, cap2, rfl, -, hc2⟩ := hv2.open
  have HC := hide hc; have HC2 := hide hc2; have HP := hide hP; have HQ := hide hQ; clear hc hc2 hP hQ hv hv2
  go_enter Try.func63, Try.ntmps63
  go_wp2_with fail
  go_loopw [5] (fun i wr => ∃ (k : Nat), k ≤ fs.length ∧ i = .int .i64 k ∧ Below w.heap.size w wr) (fun i _ => fs.length - (intOf i).toNat)
  case atStart => exact ⟨0, Nat.zero_le _, rfl, Below.refl _ _⟩
  case round =>
    obtain ⟨k, hk, rfl, hb⟩ := hrel
    by_cases hlt : k < fs.length
    · obtain ⟨b, o, rfl, hpb, hc0, hc1⟩ := unhide HC k hlt
      obtain ⟨b2, o2, rfl, hpb2, hd0, hd1⟩ := unhide HC2 k hlt
      have e0 : wr.cell? ⟨b, o + k * 2, none⟩ = some (.int .i64 fs[k].state) := by rw [hb.cell (unhide HP b hpb)]; exact hc0
      have e1 : wr.cell? ⟨b, o + k * 2 + 1, none⟩ = some (.int .i64 fs[k].job) := by rw [hb.cell (unhide HP b hpb)]; exact hc1
      have g0 : wr.cell? ⟨b2, o2 + k * 2, none⟩ = some (.int .i64 fs[k].state) := by rw [hb.cell (unhide HQ b2 hpb2)]; exact hd0
      have g1 : wr.cell? ⟨b2, o2 + k * 2 + 1, none⟩ = some (.int .i64 fs[k].job) := by rw [hb.cell (unhide HQ b2 hpb2)]; exact hd1
      have HCALL := hide (eqCrewDead_any fs[k] wr.drew)
      clear hc0 hc1 hd0 hd1 hpb hpb2
      generalize fs[k] = f at *
      go_wp2_with fail
      go_region_with (go_at_call 89; refine (unhide HCALL).mono ?_; rintro e w' ⟨rfl, hb'⟩)
      all_goals
        have hb2 := hb.drew.trans (hb'.mono hb.drew.size)
        go_wp2_with fail
        go_roundw
        case rel => exact ⟨k + 1, by omega, by go_num, hb2⟩
        case measure => simp [intOf]; omega
    · go_wp2_with fail
      go_ret
      exact ⟨rfl, hb⟩

set_option maxHeartbeats 800000 in
theorem heldCrewDeadS_any (v : Value) (n k : Nat) (w : World) {P : Nat → Prop} (hv : HAt P w v (mHs k n)) (hP : ∀ b, P b → b < w.heap.size) (hk : k + 2 * n ≤ 1099511627776) :
    Calls Try.prog 66 #[v, .int .i64 k] w fun e w' => e = .returned (.int .i64 (k + 2 * n : Nat)) ∧ Below w.heap.size w w' := by
  obtain ⟨a, cap, rfl, hlen, hc⟩ := hv.open
  have hml : (mHs k n).length = n := by simp [mHs]
  have hc' : ∀ i, i < n → ∃ b o, a = some ⟨b, o, none⟩ ∧ P b ∧ w.cell? ⟨b, o + i * 2, none⟩ = some (.int .i64 ((k + 2 * i : Nat) : Int)) ∧ w.cell? ⟨b, o + i * 2 + 1, none⟩ = some (.int .i64 ((k + 2 * i + 1 : Nat) : Int)) := fun i hi => by
    obtain ⟨b, o, e, hp, h0, h1⟩ := hc i (by rw [hml]; exact hi)
    have hg : (mHs k n)[i]'(by rw [hml]; exact hi) = ⟨((k + 2 * i : Nat) : Int), ((k + 2 * i + 1 : Nat) : Int)⟩ := by simp [mHs]
    rw [hg] at h0 h1
    exact ⟨b, o, e, hp, h0, h1⟩
  rw [hml] at hlen ⊢
  have HC := hide hc'; have HP := hide hP
  clear hc hc' hP hv hml
  go_enter Try.func66, Try.ntmps66
  go_wp2_with fail
  go_loopw [1, 5] (fun kk i wr => ∃ (j m : Nat), j ≤ n ∧ m = k + 2 * j ∧ kk = .int .i64 (m : Nat) ∧ i = .int .i64 j ∧ Hid (Below w.heap.size w wr)) (fun _ i _ => n - (intOf i).toNat)
  case atStart => exact ⟨0, k, Nat.zero_le _, by omega, rfl, rfl, Below.refl _ _⟩
  case round =>
    obtain ⟨j, m, hj, hm, rfl, rfl, HB⟩ := hrel
    by_cases hlt : j < n
    · obtain ⟨b, o, rfl, hpb, h0, h1⟩ := unhide HC j hlt
      have e0 : wr.cell? ⟨b, o + j * 2, none⟩ = some (.int .i64 (m : Int)) := by rw [HB.out.cell (p := ⟨b, o + j * 2, none⟩) (unhide HP b hpb), hm]; exact h0
      have e1 : wr.cell? ⟨b, o + j * 2 + 1, none⟩ = some (.int .i64 ((m : Int) + 1)) := by rw [HB.out.cell (p := ⟨b, o + j * 2 + 1, none⟩) (unhide HP b hpb), hm]; exact h1
      have hmb : m + 2 ≤ 1099511627776 := by omega
      have HMM := hide hm
      clear h0 h1 hpb hm
      go_wp2_with fail
      go_roundw
      case rel => exact ⟨j + 1, m + 2, by omega, by have := unhide HMM; omega, by go_num, by go_num, HB⟩
      case measure => simp [intOf]; omega
    · go_wp2_with fail
      go_ret
      obtain rfl : j = n := by omega
      exact ⟨by rw [hm]; rfl, HB.out⟩

set_option maxHeartbeats 1600000 in
theorem markCrewDeadS_own (v : Value) (fs : List Hd) (F : List Nat) (k : Nat) (w : World) (hv : HOwn w v fs F) (hk : k + 2 * fs.length ≤ 1099511627776) :
    Calls Try.prog 65 #[v, .int .i64 k] w fun e w' => e = .returned (.int .i64 (k + 2 * fs.length : Nat)) ∧ HOwn w' v (mHs k fs.length) F ∧ Exc F w w' := by
  obtain ⟨a, cap, rfl, hlen, hc⟩ := hv
  rw [List.length_map] at hlen ⊢
  rcases hc with ⟨hfs, rfl⟩ | ⟨b, rfl, rfl, hfr, hc⟩
  · have hfs' : fs = [] := by simpa using hfs
    subst hfs'
    simp only [List.length_nil] at *
    go_enter Try.func65, Try.ntmps65
    go_wp2_with fail
    go_loopw [1, 5] (fun kk i wr => kk = .int .i64 k ∧ i = .int .i64 0 ∧ wr = w) (fun _ _ _ => 0)
    case atStart => exact ⟨rfl, rfl, rfl⟩
    case round =>
      obtain ⟨rfl, rfl, rfl⟩ := hrel
      go_wp2_with fail
      go_ret
      exact ⟨by simp, ⟨a, cap, by simp [mHs], by simp [mHs], Or.inl ⟨by simp [mHs], rfl⟩⟩, Exc.refl _ _⟩
  · have hM := FlatOwn.cells (n := 2) (rs := fs.map Hd.cs) hc hfr (by omega)
    rw [List.length_map] at hM
    generalize (fun q => ((fs.map Hd.cs).getD (q / 2) []).getD (q % 2) undef) = g at hM
    have hM0 : CellsAre w b (fs.length * 2) (partF (mkI k) g 0) := by
      have : partF (mkI k) g 0 = g := by funext q; simp [partF]
      rw [this]; exact hM
    have HM := hide hM0
    clear hM hM0 hfr hc
    generalize fs.length = n at *
    go_enter Try.func65, Try.ntmps65
    go_wp2_with fail
    go_loopw [1, 5] (fun kk i wr => ∃ (j m : Nat), j ≤ n ∧ m = k + 2 * j ∧ kk = .int .i64 (m : Nat) ∧ i = .int .i64 j ∧ Hid (CellsAre wr b (n * 2) (partF (mkI k) g (j * 2))) ∧ Hid (Exc [b] w wr)) (fun _ i _ => n - (intOf i).toNat)
    case atStart => exact ⟨0, k, Nat.zero_le _, by omega, rfl, rfl, by rw [Nat.zero_mul]; exact HM, Exc.refl _ _⟩
    case round =>
      obtain ⟨j, m, hj, hm, rfl, rfl, HC, HX⟩ := hrel
      by_cases hlt : j < n
      · have hmb2 : m + 2 ≤ 1099511627776 := by omega
        have HMM := hide hm
        have f0 : Value.int .i64 (m : Int) = mkI k (j * 2) := by unfold mkI; rw [hm]; congr 2; omega
        have f1 : Value.int .i64 ((m : Int) + 1) = mkI k (j * 2 + 1) := by unfold mkI; rw [hm]; congr 1; omega
        have y0 := HC.out.2 (j * 2) (by omega); have z0 := HC.out.1 (j * 2)
        have hs1 := HC.out.step (by omega) _ f0
        have y1 := hs1.2 (j * 2 + 1) (by omega); have z1 := hs1.1 (j * 2 + 1)
        have HS2 := hide (hs1.step (by omega) _ f1)
        have HX2 := hide (HX.out.trans ((Exc.set wr b (j * 2) (.int .i64 (m : Int)) (by simp)).trans (Exc.set _ b (j * 2 + 1) (.int .i64 ((m : Int) + 1)) (by simp))))
        clear hm f0 f1 hs1
        go_wp2_with fail
        go_roundw
        case rel => exact ⟨j + 1, m + 2, by omega, by have := unhide HMM; omega, by go_num, by go_num, by rw [Nat.add_mul]; exact HS2, unhide HX2⟩
        case measure => simp [intOf]; omega
      · go_wp2_with fail
        go_ret
        obtain rfl : j = n := by omega
        exact ⟨by rw [hm]; rfl, hs_of_cells hlen HC.out, HX.out⟩

end Go.Proofs.Ytchbialjgcejgaa

/- The walks of the law's own functions on jobs: toCrewJobS, eqCrewJobS, markCrewJobS; on what is told: eqCrewTold, markCrewTold, heldCrewTold. No conditions but the weight, at most 2^20; the marks count to at most 2^40. -/

namespace Go.Proofs.Ytchbialjgcejgaa
open Go Go.RowKit

def z2J : Array Value := #[.slice none 0 0, .int .i64 0]
theorem infoJob : (Try.prog.info? 84).map (fun i => (i.zero, i.size, i.bytes)) = some (some (.agg z2J), 2, 32) := by kernel_rfl
theorem run_make_job (n : Nat) (h : n ≤ 1048576) (w : World) :
    (Instr.makeSlice 49 (.int .i64 (n : Int)) (.int .i64 (n : Int))).run Try.prog w = .ok (.slice (some ⟨w.heap.size, 0, none⟩) n n) (w.alloc (.cells (madeCells z2J (n * 2)) 84)) := by
  obtain ⟨i, hi, he⟩ : ∃ i, Try.prog.info? 84 = some i ∧ (i.zero, i.size, i.bytes) = (some (.agg z2J), 2, 32) := by
    have := infoJob
    cases h : Try.prog.info? 84 with
    | none => rw [h] at this; simp at this
    | some i => rw [h] at this; exact ⟨i, rfl, by simpa using this⟩
  simp only [Prod.mk.injEq] at he
  obtain ⟨e1, e2, e3⟩ := he
  have := run_make (P := Try.prog) w 49 84 i (.agg z2J) Try.underlying49 hi e1 .i64 .i64 n n (by omega) (by omega) (by rw [e3]; omega) (by omega)
  rw [this, e2]
  simp [Value.cells]

def JLaid (w wr : World) (js : List Jb) (k : Nat) : Prop :=
  ∃ f, wr.rowIs w.heap.size 84 (js.length * 2) f ∧ ∀ j, j < k → (hj : j < js.length) → ∃ a, (f (j * 2) = .slice a js[j].items.length js[j].items.length ∧ f (j * 2 + 1) = .int .i64 js[j].bad) ∧
    ZsAt (fun b => (w.heap.size + 1 ≤ b ∧ b < wr.heap.size) ∧ FreeB wr b) wr (.slice a js[j].items.length js[j].items.length) js[j].items ∧ I64 js[j].bad
theorem heap_set2J (w : World) (b o : Nat) (a0 a1 : Value) (k : Nat) (h : k ≠ b) : ((w.setCell ⟨b, o, none⟩ a0).setCell ⟨b, o + 1, none⟩ a1).heap[k]? = w.heap[k]? := by
  rw [Below.heap_setCell _ _ _ _ h, Below.heap_setCell _ _ _ _ h]
theorem JLaid.step {w wr w' : World} {js : List Jb} {k : Nat} (hlt : k < js.length) (hL : JLaid w wr js k) (hb' : Below wr.heap.size wr w') (a : Option Addr) (hr : ZsAt (NewF wr w') w' (.slice a js[k].items.length js[k].items.length) js[k].items) (hbad : I64 js[k].bad) :
    JLaid w ((w'.setCell ⟨w.heap.size, k * 2, none⟩ (.slice a js[k].items.length js[k].items.length)).setCell ⟨w.heap.size, k * 2 + 1, none⟩ (.int .i64 js[k].bad)) js (k + 1) := by
  obtain ⟨f, hrow, hf⟩ := hL
  have hlt0 := hrow.lt
  have hrow' := hrow.of_block (hb'.block _ hrow.lt)
  have hs := hb'.size
  refine ⟨_, (hrow'.set (k * 2) _).set (k * 2 + 1) _, fun j hj hjl => ?_⟩
  by_cases e : j = k
  · subst e
    refine ⟨a, ⟨by simp, by simp⟩, hr.carry (fun b hb => heap_set2J _ _ _ _ _ _ (by have := hb.1.1; omega)) (fun b hb => ⟨?_, hb.2.of_block (heap_set2J _ _ _ _ _ _ (by have := hb.1.1; omega))⟩), hbad⟩
    simp only [size_setCell]
    have := hb.1.1; have := hb.1.2
    omega
  · obtain ⟨d, ⟨g0, g1⟩, hd, hv⟩ := hf j (by omega) hjl
    refine ⟨d, ⟨?_, ?_⟩, hd.carry (fun b hb => ?_) (fun b hb => ?_), hv⟩
    · repeat rw [if_neg (by omega)]
      exact g0
    · repeat rw [if_neg (by omega)]
      exact g1
    · rw [heap_set2J _ _ _ _ _ _ (by omega), hb'.block b hb.1.2]
    · exact ⟨by simp only [size_setCell]; omega, hb.2.of_block (by rw [heap_set2J _ _ _ _ _ _ (by omega), hb'.block b hb.1.2])⟩
theorem JLaid.done {w wr : World} {js : List Jb} (hL : JLaid w wr js js.length) (hlen : js.length ≤ 1048576) : JbsAt (NewF w wr) wr (.slice (some ⟨w.heap.size, 0, none⟩) js.length js.length) js := by
  obtain ⟨f, hrow, hf⟩ := hL
  refine ⟨_, _, rfl, by omega, fun i hi => ⟨w.heap.size, 0, rfl, ⟨⟨Nat.le_refl _, hrow.lt⟩, fun o => hrow.frozen o⟩, ?_⟩⟩
  obtain ⟨d, ⟨g0, g1⟩, hd, hv⟩ := hf i hi hi
  refine ⟨d, _, ?_, ?_, hd.carry (fun _ _ => rfl) (fun b hb => ⟨⟨by omega, hb.1.2⟩, hb.2⟩), hv⟩
  · rw [Nat.zero_add, hrow.cell (i := i * 2) (by omega), g0]
  · rw [Nat.zero_add, hrow.cell (i := i * 2 + 1) (by omega), g1]

set_option maxRecDepth 100000 in
set_option maxHeartbeats 1600000 in
theorem toCrewJobS_any (js : List Jb) (P : Nat → Prop) (v : Value) (w : World) (hP : ∀ b, P b → b < w.heap.size) (hv : JbsAt P w v js) (hwt : wJ js ≤ 1048576) :
    Calls Try.prog 26 #[v] w fun e w' => ∃ a, e = .returned (.slice a js.length js.length) ∧ JbsAt (NewF w w') w' (.slice a js.length js.length) js ∧ Below w.heap.size w w' := by
  obtain ⟨a, cap, rfl, -, hc⟩ := hv
  have hlen : js.length ≤ 1048576 := Nat.le_trans (wJ_len js) hwt
  have HC := hide hc; clear hc
  have HP := hide hP; clear hP
  have HW := hide hwt; clear hwt
  have hmk := run_make_job js.length hlen
  go_enter Try.func26, Try.ntmps26
  go_wp2_with fail
  clear hmk
  go_loopw [4] (fun i wr => ∃ (k : Nat), k ≤ js.length ∧ i = .int .i64 k ∧ Hid (JLaid w wr js k) ∧ Below w.heap.size w wr) (fun i _ => js.length - (intOf i).toNat)
  case atStart =>
    have hrow := World.rowIs_alloc w (madeCells z2J (js.length * 2)) 84 (fun i => (madeCells z2J (js.length * 2))[i]?.getD undef) (fun i hi => by simp [hi])
    rw [size_madeCells] at hrow
    exact ⟨0, Nat.zero_le _, rfl, hide ⟨_, hrow, fun j hj => by omega⟩, (Below.refl _ _).alloc (Nat.le_refl _) _⟩
  case round =>
    obtain ⟨k, hk, rfl, HL, hb⟩ := hrel
    by_cases hlt : k < js.length
    · obtain ⟨b, o, rfl, hpb, au, cu, hc0, hc1, hz, hbad⟩ := unhide HC k hlt
      have e0 : wr.cell? ⟨b, o + k * 2, none⟩ = some (.slice au js[k].items.length cu) := by rw [hb.cell (unhide HP b hpb)]; exact hc0
      have e1 : wr.cell? ⟨b, o + k * 2 + 1, none⟩ = some (.int .i64 js[k].bad) := by rw [hb.cell (unhide HP b hpb)]; exact hc1
      have hwk : js[k].items.length ≤ 1048576 := by have := wJ_mem (List.getElem_mem hlt); have := unhide HW; omega
      have HCALL := hide (toCrewJob_any js[k] P _ wr (fun b hb' => Nat.lt_of_lt_of_le (unhide HP b hb') hb.size) (hz.carry (fun b hb' => hb.block b (unhide HP b hb')) (fun _ h => h)) hwk)
      have HBAD := hide hbad
      have HST := hide (fun w' (hb' : Below wr.heap.size wr w') a hr => JLaid.step hlt HL.out hb' a hr hbad)
      clear hz hc0 hc1 hpb hwk hbad
      generalize js[k] = jb at *
      go_wp2_with fail
      refine (unhide HCALL).mono ?_
      rintro e w' ⟨a', rfl, hr, hb'⟩
      clear e0 e1 HCALL
      obtain ⟨f, hrow, hf⟩ := HL.out
      have hrow' := hrow.of_block (hb'.block _ hrow.lt)
      have HS := hide (unhide HST w' hb' a' hr); have HB' := hide hb'
      have z0 := hrow'.frozen (k * 2)
      have z1 := hrow'.frozen (k * 2 + 1)
      have y0 := hrow'.cell (i := k * 2) (by omega)
      have y1 := hrow'.cell (i := k * 2 + 1) (by omega)
      clear hf hrow hrow' hr hb' HST
      go_wp2_with fail
      go_roundw
      case rel =>
        have hb3 := hb.trans (HB'.out.mono hb.size)
        exact ⟨k + 1, by omega, by go_num, unhide HS, (hb3.setCell (Nat.le_refl _) _).setCell (Nat.le_refl _) _⟩
      case measure => simp [intOf]; omega
    · go_wp2_with fail
      go_ret
      obtain rfl : k = js.length := by omega
      exact ⟨_, rfl, HL.out.done hlen, hb⟩

set_option maxHeartbeats 800000 in
theorem eqCrewJob_any (j : Jb) (P Q : Nat → Prop) (v u : Value) (w : World) (hP : ∀ b, P b → b < w.heap.size) (hQ : ∀ b, Q b → b < w.heap.size) (hv : ZsAt P w v j.items) (hu : ZsAt Q w u j.items) :
    Calls Try.prog 64 #[.agg #[v, .int .i64 j.bad], .agg #[u, .int .i64 j.bad]] w fun e w' => e = .returned (.bool true) ∧ Below w.heap.size w w' := by
  have hbx : ∀ o o2, Below w.heap.size w ((w.alloc o).alloc o2) := fun o o2 => ((Below.refl _ _).alloc (Nat.le_refl _) o).alloc (by simp) o2
  have HCALL := hide (fun (W : World) (hW : Below w.heap.size w W) => eqIntS_any v u j.items W (P := P) (Q := Q) (hv.carry (fun b hb => hW.block b (hP b hb)) (fun _ h => h)) (hu.carry (fun b hb => hW.block b (hQ b hb)) (fun _ h => h)) (fun b hb => Nat.lt_of_lt_of_le (hP b hb) hW.size) (fun b hb => Nat.lt_of_lt_of_le (hQ b hb) hW.size))
  have HBX := hide hbx
  obtain ⟨a, cap, rfl, -, -⟩ := hv
  obtain ⟨a2, cap2, rfl, -, -⟩ := hu
  clear hbx hP hQ
  go_enter Try.func64, Try.ntmps64
  go_wp2_with fail
  refine (unhide HCALL _ (unhide HBX _ _)).mono ?_
  rintro e w1 ⟨rfl, hb1⟩
  have k0 : w1.cell? ⟨w.heap.size, 1, none⟩ = some (.int .i64 j.bad) := by rw [hb1.cell (by simp; omega)]; go_simp
  have k1 : w1.cell? ⟨w.heap.size + 1, 1, none⟩ = some (.int .i64 j.bad) := by rw [hb1.cell (by simp)]; go_simp
  have HB := hide ((unhide HBX _ _).trans (hb1.mono (unhide HBX _ _).size))
  clear hb1
  go_wp2_with fail
  go_ret
  exact ⟨rfl, unhide HB⟩

set_option maxRecDepth 100000 in
set_option maxHeartbeats 800000 in
theorem eqCrewJobS_any (js : List Jb) (P Q : Nat → Prop) (v u : Value) (w : World) (hP : ∀ b, P b → b < w.heap.size) (hQ : ∀ b, Q b → b < w.heap.size) (hv : JbsAt P w v js) (hu : JbsAt Q w u js) :
    Calls Try.prog 29 #[v, u] w fun e w' => e = .returned (.bool true) ∧ Below w.heap.size w w' := by
  obtain ⟨a, cap, rfl, hlen, hc⟩ := hv
  obtain ⟨a2, cap2, rfl, -, hc2⟩ := hu
  have HC := hide hc; clear hc
  have HC2 := hide hc2; clear hc2
  have HP := hide hP; clear hP
  have HQ := hide hQ; clear hQ
  go_enter Try.func29, Try.ntmps29
  go_wp2_with fail
  go_loopw [5] (fun i wr => ∃ (k : Nat), k ≤ js.length ∧ i = .int .i64 k ∧ Below w.heap.size w wr) (fun i _ => js.length - (intOf i).toNat)
  case atStart => exact ⟨0, Nat.zero_le _, rfl, Below.refl _ _⟩
  case round =>
    obtain ⟨k, hk, rfl, hb⟩ := hrel
    by_cases hlt : k < js.length
    · obtain ⟨b, o, rfl, hpb, au, cu, hc0, hc1, hz, -⟩ := unhide HC k hlt
      obtain ⟨b2, o2, rfl, hpb2, au2, cu2, hd0, hd1, hz2, -⟩ := unhide HC2 k hlt
      have e0 : wr.cell? ⟨b, o + k * 2, none⟩ = some (.slice au js[k].items.length cu) := by rw [hb.cell (unhide HP b hpb)]; exact hc0
      have e1 : wr.cell? ⟨b, o + k * 2 + 1, none⟩ = some (.int .i64 js[k].bad) := by rw [hb.cell (unhide HP b hpb)]; exact hc1
      have g0 : wr.cell? ⟨b2, o2 + k * 2, none⟩ = some (.slice au2 js[k].items.length cu2) := by rw [hb.cell (unhide HQ b2 hpb2)]; exact hd0
      have g1 : wr.cell? ⟨b2, o2 + k * 2 + 1, none⟩ = some (.int .i64 js[k].bad) := by rw [hb.cell (unhide HQ b2 hpb2)]; exact hd1
      have HCALL := hide (eqCrewJob_any js[k] P Q _ _ wr.drew (fun b hb' => Nat.lt_of_lt_of_le (unhide HP b hb') hb.size) (fun b hb' => Nat.lt_of_lt_of_le (unhide HQ b hb') hb.size) (hz.carry (w' := wr.drew) (fun b hb' => hb.drew.block b (unhide HP b hb')) (fun _ h => h)) (hz2.carry (w' := wr.drew) (fun b hb' => hb.drew.block b (unhide HQ b hb')) (fun _ h => h)))
      clear hz hz2 hc0 hc1 hd0 hd1 hpb hpb2 HC HC2
      generalize js[k] = jb at *
      go_wp2_with fail
      go_region_with (go_at_call 64; refine (unhide HCALL).mono ?_; rintro e w' ⟨rfl, hb'⟩)
      all_goals
        have hb2 := hb.drew.trans (hb'.mono hb.drew.size)
        go_wp2_with fail
        go_roundw
        case rel => exact ⟨k + 1, by omega, by go_num, hb2⟩
        case measure => simp [intOf]; omega
    · go_wp2_with fail
      go_ret
      exact ⟨rfl, hb⟩

/-- The shape of jobs: so many, in blocks of D of which nothing is frozen. -/
def JShp (D : Nat → Prop) (w : World) (v : Value) (ns : List Nat) : Prop :=
  ∃ a cap, v = .slice a ns.length cap ∧ ns.length ≤ 9223372036854775807 ∧ ∀ i, (h : i < ns.length) → ∃ b o au cu s, a = some ⟨b, o, none⟩ ∧ D b ∧ FreeB w b ∧ w.cell? ⟨b, o + i * 2, none⟩ = some (.slice au ns[i] cu) ∧ ZShp D w (.slice au ns[i] cu) ns[i] ∧ w.cell? ⟨b, o + i * 2 + 1, none⟩ = some (.int .i64 s)
theorem JShp.like {D : Nat → Prop} {w w' : World} {v : Value} {ns : List Nat} (h : JShp D w v ns) (hl : Like D w w') : JShp D w' v ns := by
  obtain ⟨a, cap, h1, h2, h3⟩ := h
  refine ⟨a, cap, h1, h2, fun i hi => ?_⟩
  obtain ⟨b, o, au, cu, s, e, hd, hf, hc0, hz, hc1⟩ := h3 i hi
  obtain ⟨v0, hv0, hlk0⟩ := hl.cell _ _ _ hc0
  obtain ⟨v1, hv1, hlk1⟩ := hl.cell _ _ _ hc1
  obtain rfl := hlk0.slice
  obtain ⟨s', rfl⟩ := hlk1.int
  exact ⟨b, o, au, cu, s', e, hd, hl.free b (World.block_lt_of_cell? w _ hc0) hf, hv0, hz.like hl, hv1⟩
theorem JbsAt.shp {D : Nat → Prop} {w : World} {v : Value} {js : List Jb} (h : JbsAt D w v js) (hf : ∀ b, D b → FreeB w b) : JShp D w v (js.map fun j => j.items.length) := by
  obtain ⟨a, cap, h1, h2, h3⟩ := h
  refine ⟨a, cap, by rw [List.length_map]; exact h1, by rw [List.length_map]; exact h2, fun i hi => ?_⟩
  rw [List.length_map] at hi
  obtain ⟨b, o, e, hp, au, cu, hc0, hc1, hz, -⟩ := h3 i hi
  rw [List.getElem_map]
  refine ⟨b, o, au, cu, _, e, hp, hf b hp, hc0, ?_, hc1⟩
  obtain ⟨a', c', e', hl, hc⟩ := hz
  refine ⟨a', c', e', hl, fun q hq => ?_⟩
  obtain ⟨b', o', e2, hp', hcell, -⟩ := hc q hq
  exact ⟨b', o', _, e2, hp', hf b' hp', hcell⟩
/-- How many marks. -/
def mkJ : List Nat → Nat
  | [] => 0
  | n :: r => n + 1 + mkJ r
theorem mkJ_take (ns : List Nat) (k : Nat) (h : k < ns.length) : mkJ (ns.take (k + 1)) = mkJ (ns.take k) + ns[k] + 1 := by
  induction ns generalizing k with
  | nil => simp at h
  | cons a r ih =>
    cases k with
    | zero => simp [mkJ]
    | succ k => simp only [List.take_succ_cons, mkJ, List.getElem_cons_succ]; rw [ih k (by simpa using h)]; omega
theorem mkJ_le (ns : List Nat) (k : Nat) : mkJ (ns.take k) ≤ mkJ ns := by
  induction ns generalizing k with
  | nil => simp [mkJ]
  | cons a r ih =>
    cases k with
    | zero => simp [mkJ]
    | succ k => have := ih k; simp only [List.take_succ_cons, mkJ]; omega
theorem mkJ_wJ (js : List Jb) : mkJ (js.map fun j => j.items.length) = wJ js := by
  induction js with
  | nil => rfl
  | cons j r ih => simp only [List.map_cons, mkJ, wJ, ih]; omega

set_option maxRecDepth 100000 in
set_option maxHeartbeats 1600000 in
theorem markCrewJobS_shp (D : Nat → Prop) (v : Value) (ns : List Nat) (k : Nat) (w : World) (hv : JShp D w v ns) (hk : k + mkJ ns ≤ 1099511627776) :
    Calls Try.prog 30 #[v, .int .i64 k] w fun e w' => e = .returned (.int .i64 (k + mkJ ns : Nat)) ∧ Like D w w' := by
  have HV := hide hv
  obtain ⟨a, cap, rfl, hlen, -⟩ := hv
  go_enter Try.func30, Try.ntmps30
  go_wp2_with fail
  go_loopw [1, 5] (fun kk i wr => ∃ (j m : Nat), j ≤ ns.length ∧ Hid (m = k + mkJ (ns.take j)) ∧ kk = .int .i64 (m : Nat) ∧ i = .int .i64 j ∧ Hid (Like D w wr)) (fun _ i _ => ns.length - (intOf i).toNat)
  case atStart => exact ⟨0, k, Nat.zero_le _, hide (by simp [mkJ]), rfl, rfl, Like.refl _ _⟩
  case round =>
    obtain ⟨j, m, hj, HM, rfl, rfl, HL⟩ := hrel
    by_cases hlt : j < ns.length
    · have hs := (unhide HV).like HL.out
      obtain ⟨a', cap', e, -, hc⟩ := hs
      cases e
      obtain ⟨b, o, au, cu, s, rfl, hd, hf, hc0, hz, hc1⟩ := hc j hlt
      have hmt := mkJ_take ns j hlt
      have hml := mkJ_le ns (j + 1)
      have hm0 := HM.out
      have hmb : m + ns[j] + 1 ≤ 1099511627776 := by omega
      have HMM := hide (show m + ns[j] + 1 = k + mkJ (ns.take (j + 1)) by omega)
      have HCALL := hide (markIntS_shp D _ ns[j] m wr hz (by omega))
      have HD := hide hd; have HF := hide hf; have HC1 := hide hc1
      clear hc hz hd hf hmt hml hm0 hc1
      generalize ns[j] = q at *
      go_wp2_with fail
      refine (unhide HCALL).mono ?_
      rintro e w' ⟨rfl, hlk⟩
      obtain ⟨v1, hv1, hlk1⟩ := hlk.cell _ _ _ (unhide HC1)
      obtain ⟨s', rfl⟩ := hlk1.int
      have z1 := hlk.free b (World.block_lt_of_cell? wr _ (unhide HC1)) (unhide HF) (o + j * 2 + 1)
      obtain ⟨m', hm'⟩ : ∃ m', m' = m + q := ⟨_, rfl⟩
      rw [← hm']
      have HLK := hide (HL.out.trans (hlk.trans (Like.set (v := .int .i64 (m' : Int)) (unhide HD) hv1 (Or.inl ⟨_, _, rfl, rfl⟩))))
      have hmb' : m' + 1 ≤ 1099511627776 := by omega
      have HM' := hide hm'
      clear hlk hlk1 hc0 HCALL HC1 hm' hmb
      go_wp2_with fail
      go_roundw
      case rel => exact ⟨j + 1, m' + 1, by omega, hide (by have h1 := unhide HMM; have h2 := unhide HM'; omega), by go_num, by go_num, unhide HLK⟩
      case measure => simp [intOf]; omega
    · go_wp2_with fail
      go_ret
      obtain rfl : j = ns.length := by omega
      have := HM.out
      rw [List.take_length] at this
      exact ⟨by (rw [this]; rfl), HL.out⟩
end Go.Proofs.Ytchbialjgcejgaa

/- The walks of the law's own functions on what is told: eqCrewTold, markCrewTold, heldCrewTold. The marks count to at most 2^40. -/

namespace Go.Proofs.Ytchbialjgcejgaa
open Go Go.RowKit

def row6 (a b c d e f : Value) : Nat → Value
  | 0 => a
  | 1 => b
  | 2 => c
  | 3 => d
  | 4 => e
  | _ => f
theorem row6_alloc (w : World) (a b c d e f : Value) (t : TypeId) : (w.alloc (.cells #[a, b, c, d, e, f] t)).rowIs w.heap.size t 6 (row6 a b c d e f) :=
  World.rowIs_alloc w #[a, b, c, d, e, f] t _ (fun i hi => by
    have hi' : i < 6 := hi
    match i, hi' with
    | 0, _ => rfl
    | 1, _ => rfl
    | 2, _ => rfl
    | 3, _ => rfl
    | 4, _ => rfl
    | 5, _ => rfl)
theorem sbox1 {w w1 : World} {a b c d e f : Value} {tx : TypeId} (hb : Below (w.alloc (.cells #[a, b, c, d, e, f] tx)).heap.size (w.alloc (.cells #[a, b, c, d, e, f] tx)) w1) :
    w1.rowIs w.heap.size tx 6 (row6 a b c d e f) ∧ w.heap.size + 1 ≤ w1.heap.size ∧ Below w.heap.size w w1 := by
  have r0 := row6_alloc w a b c d e f tx
  have hs := hb.size
  refine ⟨r0.of_block (hb.block _ r0.lt), by simpa using hs, ?_⟩
  exact ((Below.refl _ _).alloc (Nat.le_refl _) _).trans (hb.mono (by simp))
theorem sbox2 {w w1 : World} {a b c d e f a' b' c' d' e' f' : Value} {tx ty : TypeId}
    (hb : Below ((w.alloc (.cells #[a, b, c, d, e, f] tx)).alloc (.cells #[a', b', c', d', e', f'] ty)).heap.size ((w.alloc (.cells #[a, b, c, d, e, f] tx)).alloc (.cells #[a', b', c', d', e', f'] ty)) w1) :
    w1.rowIs w.heap.size tx 6 (row6 a b c d e f) ∧ w1.rowIs (w.heap.size + 1) ty 6 (row6 a' b' c' d' e' f') ∧ w.heap.size + 2 ≤ w1.heap.size ∧ Below w.heap.size w w1 := by
  have e1 : (w.alloc (.cells #[a, b, c, d, e, f] tx)).heap.size = w.heap.size + 1 := by simp
  have r0 := (row6_alloc w a b c d e f tx).alloc (.cells #[a', b', c', d', e', f'] ty)
  have r1 := row6_alloc (w.alloc (.cells #[a, b, c, d, e, f] tx)) a' b' c' d' e' f' ty
  rw [e1] at r1
  have hs := hb.size
  refine ⟨r0.of_block (hb.block _ r0.lt), r1.of_block (hb.block _ r1.lt), by simpa using hs, ?_⟩
  exact (((Below.refl _ _).alloc (Nat.le_refl _) _).alloc (by simp) _).trans (hb.mono (by simp; omega))

set_option maxRecDepth 100000 in
set_option maxHeartbeats 1600000 in
theorem eqCrewTold_any (t : Td) (P Q : Nat → Prop) (vI vD uI uD : Value) (w : World) (hP : ∀ b, P b → b < w.heap.size) (hQ : ∀ b, Q b → b < w.heap.size) (hI : ZAt P w vI t.items) (hD : HAt P w vD t.dead) (kI : ZAt Q w uI t.items) (kD : HAt Q w uD t.dead) :
    Calls Try.prog 28 #[.agg #[.bool t.ok, vI, vD, .int .i64 t.jobs, .int .i64 0, .int .i64 0], .agg #[.bool t.ok, uI, uD, .int .i64 t.jobs, .int .i64 0, .int .i64 0]] w fun e w' => e = .returned (.bool true) ∧ Below w.heap.size w w' := by
  have hbx : ∀ o o2, Below w.heap.size w ((w.alloc o).alloc o2) := fun o o2 => ((Below.refl _ _).alloc (Nat.le_refl _) o).alloc (by simp) o2
  have HE1 := hide (fun (W : World) (hW : Below w.heap.size w W) => eqIntZ_any vI uI t.items W (P := P) (Q := Q) (hI.carry (fun b hb => hW.block b (hP b hb)) (fun _ h => h)) (kI.carry (fun b hb => hW.block b (hQ b hb)) (fun _ h => h)) (fun b hb => Nat.lt_of_lt_of_le (hP b hb) hW.size) (fun b hb => Nat.lt_of_lt_of_le (hQ b hb) hW.size))
  have HE2 := hide (fun (W : World) (hW : Below w.heap.size w W) => eqCrewDeadS_any vD uD t.dead W (P := P) (Q := Q) (hD.carry (fun b hb => hW.block b (hP b hb)) (fun _ h => h)) (kD.carry (fun b hb => hW.block b (hQ b hb)) (fun _ h => h)) (fun b hb => Nat.lt_of_lt_of_le (hP b hb) hW.size) (fun b hb => Nat.lt_of_lt_of_le (hQ b hb) hW.size))
  have HBX := hide hbx
  obtain ⟨a1, c1, rfl, -, -⟩ := hI.open
  obtain ⟨a2, c2, rfl, -, -⟩ := hD.open
  obtain ⟨a3, c3, rfl, -, -⟩ := kI.open
  obtain ⟨a4, c4, rfl, -, -⟩ := kD.open
  have hok : (t.ok != t.ok) = false := by simp
  clear hbx hP hQ hI hD kI kD
  go_enter Try.func28, Try.ntmps28
  go_wp2_with fail
  refine (unhide HE1 _ (unhide HBX _ _)).mono ?_
  rintro e w1 ⟨rfl, hb1⟩
  obtain ⟨q0, q1, hs1, hb01⟩ := sbox2 hb1
  have x2 := q0.cell (i := 2) (by omega); have y2 := q1.cell (i := 2) (by omega)
  simp only [row6] at x2 y2
  have Q0 := hide q0; have Q1 := hide q1; have HB1 := hide hb01
  clear hb1 q0 q1 hb01 hok
  go_wp2_with fail
  refine (unhide HE2 _ (unhide HB1)).mono ?_
  rintro e w2 ⟨rfl, hb2⟩
  have q0 := (unhide Q0).of_block (hb2.block _ (by omega)); have q1 := (unhide Q1).of_block (hb2.block _ (by omega))
  have x3 := q0.cell (i := 3) (by omega); have y3 := q1.cell (i := 3) (by omega); have x4 := q0.cell (i := 4) (by omega); have y4 := q1.cell (i := 4) (by omega); have x5 := q0.cell (i := 5) (by omega); have y5 := q1.cell (i := 5) (by omega)
  simp only [row6] at x3 y3 x4 y4 x5 y5
  have HB2 := hide ((unhide HB1).trans (hb2.mono (unhide HB1).size))
  clear hb2 q0 q1 x2 y2
  go_wp2_with fail
  go_ret
  exact ⟨rfl, unhide HB2⟩

set_option maxRecDepth 100000 in
set_option maxHeartbeats 1600000 in
theorem markCrewTold_own (t : Td) (vI vD : Value) (F0 F1 : List Nat) (k : Nat) (w : World) (hI : ZOwn w vI t.items F0) (hD : HOwn w vD t.dead F1) (hnd : (F0 ++ F1).Nodup) (hF : ∀ b, b ∈ F0 ++ F1 → b < w.heap.size) (hk : k + t.items.length + 2 * t.dead.length ≤ 1099511627776) :
    Calls Try.prog 31 #[.agg #[.bool t.ok, vI, vD, .int .i64 t.jobs, .int .i64 0, .int .i64 0], .int .i64 k] w fun e w' => e = .returned (.int .i64 (k + t.items.length + 2 * t.dead.length : Nat)) ∧ ZOwn w' vI (mZs k t.items.length) F0 ∧ HOwn w' vD (mHs (k + t.items.length) t.dead.length) F1 ∧ Exc (F0 ++ F1) w w' := by
  have hbx : ∀ o, Below w.heap.size w (w.alloc o) := fun o => (Below.refl _ _).alloc (Nat.le_refl _) o
  have HM1 := hide (fun o => markIntZ_own vI t.items F0 k (w.alloc o) (FlatOwn.carry hI (fun b hb => (hbx o).block b (hF b (by simp [hb])))) (by omega))
  obtain ⟨a1, c1, rfl, -, -⟩ := (FlatOwn.at hI)
  obtain ⟨a2, c2, hv2, -, -⟩ := (FlatOwn.at hD)
  rw [List.length_map] at hv2
  subst hv2
  simp only [List.length_map] at *
  have HD := hide hD; have HND := hide (List.nodup_append.1 hnd); have HF := hide hF; have HBX := hide hbx
  clear hbx hI hD hnd hF
  go_enter Try.func31, Try.ntmps31
  go_wp2_with fail
  refine (unhide HM1 _).mono ?_
  rintro e w1 ⟨rfl, hz1, hx1⟩
  have hdis : ∀ b, b ∈ F1 → b ∉ F0 := fun b hb hb0 => (unhide HND).2.2 b hb0 b hb rfl
  have hblk : ∀ b, b ∈ F1 → w1.heap[b]? = w.heap[b]? := fun b hb => by
    have hl := unhide HF b (by simp [hb])
    exact (hx1.block b (by simp; omega) (hdis b hb)).trans ((unhide HBX _).block b hl)
  have hbox : w1.heap[w.heap.size]? = (w.alloc (.cells #[.bool t.ok, .slice a1 t.items.length c1, .slice a2 t.dead.length c2, .int .i64 t.jobs, .int .i64 0, .int .i64 0] 47)).heap[w.heap.size]? := hx1.block _ (by simp) (fun hb => by have := unhide HF _ (show w.heap.size ∈ F0 ++ F1 by simp [hb]); omega)
  have x2 : w1.cell? ⟨w.heap.size, 2, none⟩ = some (.slice a2 t.dead.length c2) := by rw [World.cell?_of_block (a := ⟨w.heap.size, 2, none⟩) hbox]; go_simp
  have hD1 := FlatOwn.carry (unhide HD) hblk
  have HM2 := hide (markCrewDeadS_own (.slice a2 t.dead.length c2) t.dead F1 (k + t.items.length) w1 hD1 (by omega))
  have HZ1 := hide hz1; have HX1 := hide hx1; have HDIS := hide hdis
  clear hz1 hx1 hdis hblk hbox hD1 HM1
  go_wp2_with fail
  refine (unhide HM2).mono ?_
  rintro e w2 ⟨rfl, hz2, hx2⟩
  have HZ2 := hide hz2; have HX2 := hide hx2
  clear hz2 hx2 HM2
  go_wp2_with fail
  go_ret
  refine ⟨rfl, FlatOwn.carry (unhide HZ1) (fun b hb => (unhide HX2).block b ?_ (fun hb1 => unhide HDIS b hb1 hb)), unhide HZ2, ?_⟩
  · have := unhide HF b (by simp [hb]); have := (unhide HX1).size; simp at this; omega
  · refine Exc.trans (b := w1) ?_ ((unhide HX2).mono (fun b hb => by simp [hb]))
    have h1 := (unhide HX1).mono (G := F0 ++ F1) (fun b hb => by simp [hb])
    exact ⟨h1.os, h1.tape, h1.output, Nat.le_trans (unhide HBX _).size h1.size, fun b hb hn => (h1.block b (by simp; omega) hn).trans ((unhide HBX _).block b hb)⟩

set_option maxRecDepth 100000 in
set_option maxHeartbeats 1600000 in
theorem heldCrewTold_any (ok : Bool) (jobs : Int) (vI vD : Value) (n m k : Nat) (P : Nat → Prop) (w : World) (hP : ∀ b, P b → b < w.heap.size) (hI : ZAt P w vI (mZs k n)) (hD : HAt P w vD (mHs (k + n) m)) (hk : k + n + 2 * m ≤ 1099511627776) :
    Calls Try.prog 32 #[.agg #[.bool ok, vI, vD, .int .i64 jobs, .int .i64 0, .int .i64 0], .int .i64 k] w fun e w' => e = .returned (.int .i64 (k + n + 2 * m : Nat)) ∧ Below w.heap.size w w' := by
  have hbx : ∀ o, Below w.heap.size w (w.alloc o) := fun o => (Below.refl _ _).alloc (Nat.le_refl _) o
  have HH1 := hide (fun (W : World) (hW : Below w.heap.size w W) => heldIntZ_any vI n k W (P := P) (hI.carry (fun b hb => hW.block b (hP b hb)) (fun _ h => h)) (fun b hb => Nat.lt_of_lt_of_le (hP b hb) hW.size) (by omega))
  have HH2 := hide (fun (W : World) (hW : Below w.heap.size w W) => heldCrewDeadS_any vD m (k + n) W (P := P) (hD.carry (fun b hb => hW.block b (hP b hb)) (fun _ h => h)) (fun b hb => Nat.lt_of_lt_of_le (hP b hb) hW.size) (by omega))
  have HBX := hide hbx
  obtain ⟨a1, c1, rfl, -, -⟩ := hI.open
  obtain ⟨a2, c2, rfl, -, -⟩ := hD.open
  clear hbx hP hI hD
  generalize (mZs k n).length = l1 at *
  generalize (mHs (k + n) m).length = l2 at *
  obtain ⟨s1, hs1⟩ : ∃ s1, s1 = k + n := ⟨_, rfl⟩
  rw [← hs1] at HH1 HH2 hk ⊢
  obtain ⟨s2, hs2⟩ : ∃ s2, s2 = s1 + 2 * m := ⟨_, rfl⟩
  rw [← hs2] at HH2 hk ⊢
  clear hs1 hs2
  go_enter Try.func32, Try.ntmps32
  go_wp2_with fail
  refine (unhide HH1 _ (unhide HBX _)).mono ?_
  rintro e w1 ⟨rfl, hb1⟩
  obtain ⟨q0, hz1, hb01⟩ := sbox1 hb1
  have x2 := q0.cell (i := 2) (by omega)
  simp only [row6] at x2
  have HB1 := hide hb01
  clear hb1 q0 hb01
  go_wp2_with fail
  refine (unhide HH2 _ (unhide HB1)).mono ?_
  rintro e w2 ⟨rfl, hb2⟩
  have HB2 := hide ((unhide HB1).trans (hb2.mono (unhide HB1).size))
  clear hb2
  go_wp2_with fail
  go_ret
  exact ⟨rfl, unhide HB2⟩
end Go.Proofs.Ytchbialjgcejgaa
