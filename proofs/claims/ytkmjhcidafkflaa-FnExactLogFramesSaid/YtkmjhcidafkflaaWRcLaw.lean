/- The walks of the law's eqLogRecordS, markLogRecordS, heldLogRecordS. The marks count to at most 2^40. -/
import Derived.Test.YtkmjhcidafkflaaRcDat
import Derived.Test.YtkmjhcidafkflaaWMarkDo
import Derived.Test.YtkmjhcidafkflaaWHeldDk
import Derived.Test.YtkmjhcidafkflaaWStr
namespace Go.Proofs.Ytkmjhcidafkflaa
open Go Go.RowKit

set_option maxHeartbeats 400000 in
theorem eqLogRecord_any (m : Rc) (w : World) :
    Calls Try.prog 26 #[.agg #[.int .i64 m.pos, .string m.data], .agg #[.int .i64 m.pos, .string m.data]] w fun e w' => e = .returned (.bool true) ∧ Below w.heap.size w w' := by
  have hb0 : ∀ o o2, Below w.heap.size w ((w.alloc o).alloc o2) := fun o o2 => ((Below.refl _ _).alloc (Nat.le_refl _) o).alloc (by simp) o2
  go_enter Try.func26, Try.ntmps26
  go_wp2_with fail
  go_ret
  exact ⟨rfl, hb0 _ _⟩

set_option maxHeartbeats 800000 in
theorem eqLogRecordS_any (v v2 : Value) (fs : List Rc) (w : World) {P Q : Nat → Prop} (hP : ∀ b, P b → b < w.heap.size) (hQ : ∀ b, Q b → b < w.heap.size) (hv : RcsAt P w v fs) (hv2 : RcsAt Q w v2 fs) :
    Calls Try.prog 11 #[v, v2] w fun e w' => e = .returned (.bool true) ∧ Below w.heap.size w w' := by
  obtain ⟨a, cap, rfl, hlen, hc⟩ := hv.open
  obtain ⟨a2, cap2, rfl, -, hc2⟩ := hv2.open
  have HC := hide hc; have HC2 := hide hc2; have HP := hide hP; have HQ := hide hQ; clear hc hc2 hP hQ hv hv2
  go_enter Try.func11, Try.ntmps11
  go_wp2_with fail
  go_loopw [5] (fun i wr => ∃ (k : Nat), k ≤ fs.length ∧ i = .int .i64 k ∧ Below w.heap.size w wr) (fun i _ => fs.length - (intOf i).toNat)
  case atStart => exact ⟨0, Nat.zero_le _, rfl, Below.refl _ _⟩
  case round =>
    obtain ⟨k, hk, rfl, hb⟩ := hrel
    by_cases hlt : k < fs.length
    · obtain ⟨b, o, rfl, hpb, hc0, hc1, -⟩ := unhide HC k hlt
      obtain ⟨b2, o2, rfl, hpb2, hd0, hd1, -⟩ := unhide HC2 k hlt
      have e0 : wr.cell? ⟨b, o + k * 2, none⟩ = some (.int .i64 fs[k].pos) := by rw [hb.cell (unhide HP b hpb)]; exact hc0
      have e1 : wr.cell? ⟨b, o + k * 2 + 1, none⟩ = some (.string fs[k].data) := by rw [hb.cell (unhide HP b hpb)]; exact hc1
      have g0 : wr.cell? ⟨b2, o2 + k * 2, none⟩ = some (.int .i64 fs[k].pos) := by rw [hb.cell (unhide HQ b2 hpb2)]; exact hd0
      have g1 : wr.cell? ⟨b2, o2 + k * 2 + 1, none⟩ = some (.string fs[k].data) := by rw [hb.cell (unhide HQ b2 hpb2)]; exact hd1
      have HCALL := hide (eqLogRecord_any fs[k] wr.drew)
      clear hc0 hc1 hd0 hd1 hpb hpb2
      generalize fs[k] = f at *
      go_wp2_with fail
      go_region_with (go_at_call 26; refine (unhide HCALL).mono ?_; rintro e w' ⟨rfl, hb'⟩)
      all_goals
        have hb2 := hb.drew.trans (hb'.mono hb.drew.size)
        go_wp2_with fail
        go_roundw
        case rel => exact ⟨k + 1, by omega, by go_num, hb2⟩
        case measure => simp [intOf]; omega
    · go_wp2_with fail
      go_ret
      exact ⟨rfl, hb⟩

/-- What stands in the cells of marked records. -/
def mkR (k q : Nat) : Value := if q % 2 = 0 then .int .i64 ((k + q : Nat) : Int) else .string (mtx (k + q))
def mRs (k n : Nat) : List Rc := (List.range n).map fun i => ⟨((k + 2 * i : Nat) : Int), mtx (k + 2 * i + 1)⟩
theorem mRs_ok {k n : Nat} (hk : k + 2 * n ≤ 1099511627776) : ∀ f, f ∈ mRs k n → f.okM := fun f hf => by
  obtain ⟨i, hi, rfl⟩ := List.mem_map.1 hf
  rw [List.mem_range] at hi
  have h1 := mtx_size (k + 2 * i + 1)
  show (mtx (k + 2 * i + 1)).size ≤ _
  omega
theorem rs_of_cells {w : World} {b cap n k : Nat} {g : Nat → Value} (hlen : n ≤ 9223372036854775807) (h : CellsAre w b (n * 2) (partF (mkR k) g (n * 2))) (hk : k + 2 * n ≤ 1099511627776) : RcsOwn w (.slice (some ⟨b, 0, none⟩) n cap) (mRs k n) [b] := by
  refine ⟨⟨some ⟨b, 0, none⟩, cap, by simp [mRs], by simpa [mRs] using hlen, Or.inr ⟨b, rfl, rfl, h.1, fun i hi j hj => ?_⟩⟩, mRs_ok hk⟩
  have hi' : i < n := by simpa [mRs] using hi
  rw [h.2 (i * 2 + j) (by omega)]
  unfold partF mkR
  rw [if_pos (by omega)]
  rcases (show j = 0 ∨ j = 1 by omega) with rfl | rfl
  · rw [if_pos (by omega)]; simp [mRs, Rc.cs, Nat.mul_comm]
  · rw [if_neg (by omega)]; simp [mRs, Rc.cs, Nat.mul_comm, Nat.add_assoc]

set_option maxHeartbeats 1600000 in
theorem markLogRecordS_own (v : Value) (fs : List Rc) (F : List Nat) (k : Nat) (w : World) (hv : RcsOwn w v fs F) (hk0 : 0 < k) (hk : k + 2 * fs.length ≤ 1099511627776) :
    Calls Try.prog 12 #[v, .int .i64 k] w fun e w' => e = .returned (.int .i64 (k + 2 * fs.length : Nat)) ∧ RcsOwn w' v (mRs k fs.length) F ∧ Exc F w w' := by
  have hmk := mRs_ok hk
  obtain ⟨⟨a, cap, rfl, hlen, hc⟩, -⟩ := hv
  rw [List.length_map] at hlen ⊢
  rcases hc with ⟨hfs, rfl⟩ | ⟨b, rfl, rfl, hfr, hc⟩
  · have hfs' : fs = [] := by simpa using hfs
    subst hfs'
    simp only [List.length_nil] at *
    go_enter Try.func12, Try.ntmps12
    go_wp2_with fail
    go_loopw [1, 5] (fun kk i wr => kk = .int .i64 k ∧ i = .int .i64 0 ∧ wr = w) (fun _ _ _ => 0)
    case atStart => exact ⟨rfl, rfl, rfl⟩
    case round =>
      obtain ⟨rfl, rfl, rfl⟩ := hrel
      go_wp2_with fail
      go_ret
      exact ⟨by simp, ⟨⟨a, cap, by simp [mRs], by simp [mRs], Or.inl ⟨by simp [mRs], rfl⟩⟩, hmk⟩, Exc.refl _ _⟩
  · have hM := FlatOwn.cells (n := 2) (rs := fs.map Rc.cs) hc hfr (by omega)
    rw [List.length_map] at hM
    generalize (fun q => ((fs.map Rc.cs).getD (q / 2) []).getD (q % 2) undef) = g at hM
    have hM0 : CellsAre w b (fs.length * 2) (partF (mkR k) g 0) := by
      have : partF (mkR k) g 0 = g := by funext q; simp [partF]
      rw [this]; exact hM
    have HM := hide hM0
    clear hM hM0 hfr hc hmk
    generalize fs.length = n at *
    go_enter Try.func12, Try.ntmps12
    go_wp2_with fail
    go_loopw [1, 5] (fun kk i wr => ∃ (j m : Nat), j ≤ n ∧ m = k + 2 * j ∧ kk = .int .i64 (m : Nat) ∧ i = .int .i64 j ∧ Hid (CellsAre wr b (n * 2) (partF (mkR k) g (j * 2))) ∧ Hid (Exc [b] w wr)) (fun _ i _ => n - (intOf i).toNat)
    case atStart => exact ⟨0, k, Nat.zero_le _, by omega, rfl, rfl, by rw [Nat.zero_mul]; exact HM, Exc.refl _ _⟩
    case round =>
      obtain ⟨j, m, hj, hm, rfl, rfl, HC, HX⟩ := hrel
      by_cases hlt : j < n
      · have hmb2 : m + 2 ≤ 1099511627776 := by omega
        have hm0 : 0 < m := by omega
        have HMM := hide hm
        have f0 : Value.int .i64 (m : Int) = mkR k (j * 2) := by unfold mkR; rw [if_pos (by omega), hm, show k + 2 * j = k + j * 2 by omega]
        have f1 : Value.string (mtx (m + 1)) = mkR k (j * 2 + 1) := by unfold mkR; rw [if_neg (by omega), hm]; congr 2; omega
        have F1 := hide f1
        have y0 := HC.out.2 (j * 2) (by omega); have z0 := HC.out.1 (j * 2)
        have hs1 := HC.out.step (by omega) _ f0
        have hblt1 : b < (wr.setCell ⟨b, j * 2, none⟩ (.int .i64 (m : Int))).heap.size := World.block_lt_of_cell? _ _ (hs1.2 (j * 2) (by omega))
        have HS1 := hide hs1; have HBL1 := hide hblt1
        have HX1 := hide (HX.out.trans (Exc.set wr b (j * 2) (.int .i64 (m : Int)) (by simp)))
        have hmt : Calls Try.prog 27 #[.int .i64 ((m : Int) + 1)] (wr.setCell ⟨b, j * 2, none⟩ (.int .i64 (m : Int))) fun e w' => e = .returned (.string (mtx (m + 1))) ∧ Below (wr.setCell ⟨b, j * 2, none⟩ (.int .i64 (m : Int))).heap.size (wr.setCell ⟨b, j * 2, none⟩ (.int .i64 (m : Int))) w' := by
          have := markText_any (m + 1) (wr.setCell ⟨b, j * 2, none⟩ (.int .i64 (m : Int))) (by omega) (by omega)
          rwa [show ((m + 1 : Nat) : Int) = (m : Int) + 1 by omega] at this
        have HMT := hide hmt
        clear hmt hs1 hblt1 hm f0 f1
        go_wp2_with fail
        refine (unhide HMT).mono ?_
        rintro e w2 ⟨rfl, hb2⟩
        have hc2 := (unhide HS1).of_block (hb2.block b (unhide HBL1))
        have y1 := hc2.2 (j * 2 + 1) (by omega); have z1 := hc2.1 (j * 2 + 1)
        have hs2 := hc2.step (by omega) _ (unhide F1)
        have HS2 := hide hs2
        have HX2 := hide (((unhide HX1).trans (Exc.of_below hb2)).trans (Exc.set w2 b (j * 2 + 1) (.string (mtx (m + 1))) (by simp)))
        clear hc2 hs2 hb2 HMT HS1 HX1 HBL1 y0 z0
        go_wp2_with fail
        go_roundw
        case rel => exact ⟨j + 1, m + 2, by omega, by have := unhide HMM; omega, by go_num, by go_num, by rw [Nat.add_mul]; exact HS2, unhide HX2⟩
        case measure => simp [intOf]; omega
      · go_wp2_with fail
        go_ret
        obtain rfl : j = n := by omega
        exact ⟨by rw [hm]; rfl, rs_of_cells hlen HC.out hk, HX.out⟩

set_option maxHeartbeats 1600000 in
theorem heldLogRecordS_any (v : Value) (n k : Nat) (w : World) {P : Nat → Prop} (hv : RcsAt P w v (mRs k n)) (hP : ∀ b, P b → b < w.heap.size) (hk0 : 0 < k) (hk : k + 2 * n ≤ 1099511627776) :
    Calls Try.prog 13 #[v, .int .i64 k] w fun e w' => e = .returned (.int .i64 (k + 2 * n : Nat)) ∧ Below w.heap.size w w' := by
  obtain ⟨a, cap, rfl, hlen, hc⟩ := hv.open
  have hml : (mRs k n).length = n := by simp [mRs]
  have hc' : ∀ i, i < n → ∃ b o, a = some ⟨b, o, none⟩ ∧ P b ∧ w.cell? ⟨b, o + i * 2, none⟩ = some (.int .i64 ((k + 2 * i : Nat) : Int)) ∧ w.cell? ⟨b, o + i * 2 + 1, none⟩ = some (.string (mtx (k + 2 * i + 1))) := fun i hi => by
    obtain ⟨b, o, e, hp, h0, h1, _⟩ := hc i (by rw [hml]; exact hi)
    have hg : (mRs k n)[i]'(by rw [hml]; exact hi) = ⟨((k + 2 * i : Nat) : Int), mtx (k + 2 * i + 1)⟩ := by simp [mRs]
    rw [hg] at h0 h1
    exact ⟨b, o, e, hp, h0, h1⟩
  rw [hml] at hlen ⊢
  have HC := hide hc'; have HP := hide hP
  clear hc hc' hP hv hml
  go_enter Try.func13, Try.ntmps13
  go_wp2_with fail
  go_loopw [1, 5] (fun kk i wr => ∃ (j m : Nat), j ≤ n ∧ m = k + 2 * j ∧ kk = .int .i64 (m : Nat) ∧ i = .int .i64 j ∧ Hid (Below w.heap.size w wr)) (fun _ i _ => n - (intOf i).toNat)
  case atStart => exact ⟨0, k, Nat.zero_le _, by omega, rfl, rfl, Below.refl _ _⟩
  case round =>
    obtain ⟨j, m, hj, hm, rfl, rfl, HB⟩ := hrel
    by_cases hlt : j < n
    · obtain ⟨b, o, rfl, hpb, h0, h1⟩ := unhide HC j hlt
      have e0 : wr.cell? ⟨b, o + j * 2, none⟩ = some (.int .i64 (m : Int)) := by rw [HB.out.cell (p := ⟨b, o + j * 2, none⟩) (unhide HP b hpb), hm]; exact h0
      have e1 : wr.cell? ⟨b, o + j * 2 + 1, none⟩ = some (.string (mtx (m + 1))) := by rw [HB.out.cell (p := ⟨b, o + j * 2 + 1, none⟩) (unhide HP b hpb), hm]; exact h1
      have hmb : m + 2 ≤ 1099511627776 := by omega
      have hm0 : 0 < m := by omega
      have hii : (j : Int) < (n : Int) := by omega
      have HMM := hide hm
      have hmt := markText_at (m + 1) wr (by omega) (by omega) b (o + j * 2 + 1) _ e1
      rw [show ((m + 1 : Nat) : Int) = (m : Int) + 1 by omega] at hmt
      have HC1 := hide hmt
      clear h0 h1 hpb hm hmt
      go_wp2_with fail
      go_region_with (go_at_call 27; refine (unhide HC1).mono ?_; rintro e w1 ⟨rfl, hb1, hc1⟩)
      all_goals
        have HB1 := hide (HB.out.trans (hb1.mono HB.out.size))
        clear hb1
        go_wp2_with fail
        go_roundw
        case rel => exact ⟨j + 1, m + 2, by omega, by have := unhide HMM; omega, by go_num, by go_num, unhide HB1⟩
        case measure => simp [intOf]; omega
    · go_wp2_with fail
      go_ret
      obtain rfl : j = n := by omega
      exact ⟨by rw [hm]; rfl, HB.out⟩

end Go.Proofs.Ytkmjhcidafkflaa
