/- The walks of the law's own functions on jobs that are bad: eqCrewDeadS, heldCrewDeadS, markCrewDeadS. The marks count to at most 2^40. -/
import Derived.Test.YtchlbncncipecaaWCwLaw2
namespace Go.Proofs.Ytchlbncncipecaa
open Go Go.RowKit

theorem eqCrewDead_any (h : Hd) (w : World) :
    Calls Try.prog 89 #[.agg #[.int .i64 h.state, .int .i64 h.job], .agg #[.int .i64 h.state, .int .i64 h.job]] w fun e w' => e = .returned (.bool true) ∧ Below w.heap.size w w' := by
  have hb0 : ∀ o o2, Below w.heap.size w ((w.alloc o).alloc o2) := fun o o2 => ((Below.refl _ _).alloc (Nat.le_refl _) o).alloc (by simp) o2
  go_enter Try.func89, Try.ntmps89
  go_wp2_with fail
  go_ret
  exact ⟨rfl, hb0 _ _⟩

set_option maxHeartbeats 800000 in
theorem eqCrewDeadS_any (v v2 : Value) (fs : List Hd) (w : World) {P Q : Nat → Prop} (hv : HAt P w v fs) (hv2 : HAt Q w v2 fs) (hP : ∀ b, P b → b < w.heap.size) (hQ : ∀ b, Q b → b < w.heap.size) :
    Calls Try.prog 63 #[v, v2] w fun e w' => e = .returned (.bool true) ∧ Below w.heap.size w w' := by
  obtain ⟨a, cap, rfl, hlen, hc⟩ := hv.open
  obtain ⟨a2, cap2, rfl, -, hc2⟩ := hv2.open
  have HC := hide hc; have HC2 := hide hc2; have HP := hide hP; have HQ := hide hQ; clear hc hc2 hP hQ hv hv2
  go_enter Try.func63, Try.ntmps63
  go_wp2_with fail
  go_loopw [5] (fun i wr => ∃ (k : Nat), k ≤ fs.length ∧ i = .int .i64 k ∧ Below w.heap.size w wr) (fun i _ => fs.length - (intOf i).toNat)
  case atStart => exact ⟨0, Nat.zero_le _, rfl, Below.refl _ _⟩
  case round =>
    obtain ⟨k, hk, rfl, hb⟩ := hrel
    by_cases hlt : k < fs.length
    · obtain ⟨b, o, rfl, hpb, hc0, hc1⟩ := unhide HC k hlt
      obtain ⟨b2, o2, rfl, hpb2, hd0, hd1⟩ := unhide HC2 k hlt
      have e0 : wr.cell? ⟨b, o + k * 2, none⟩ = some (.int .i64 fs[k].state) := by rw [hb.cell (unhide HP b hpb)]; exact hc0
      have e1 : wr.cell? ⟨b, o + k * 2 + 1, none⟩ = some (.int .i64 fs[k].job) := by rw [hb.cell (unhide HP b hpb)]; exact hc1
      have g0 : wr.cell? ⟨b2, o2 + k * 2, none⟩ = some (.int .i64 fs[k].state) := by rw [hb.cell (unhide HQ b2 hpb2)]; exact hd0
      have g1 : wr.cell? ⟨b2, o2 + k * 2 + 1, none⟩ = some (.int .i64 fs[k].job) := by rw [hb.cell (unhide HQ b2 hpb2)]; exact hd1
      have HCALL := hide (eqCrewDead_any fs[k] wr.drew)
      clear hc0 hc1 hd0 hd1 hpb hpb2
      generalize fs[k] = f at *
      go_wp2_with fail
      go_region_with (go_at_call 89; refine (unhide HCALL).mono ?_; rintro e w' ⟨rfl, hb'⟩)
      all_goals
        have hb2 := hb.drew.trans (hb'.mono hb.drew.size)
        go_wp2_with fail
        go_roundw
        case rel => exact ⟨k + 1, by omega, by go_num, hb2⟩
        case measure => simp [intOf]; omega
    · go_wp2_with fail
      go_ret
      exact ⟨rfl, hb⟩

set_option maxHeartbeats 800000 in
theorem heldCrewDeadS_any (v : Value) (n k : Nat) (w : World) {P : Nat → Prop} (hv : HAt P w v (mHs k n)) (hP : ∀ b, P b → b < w.heap.size) (hk : k + 2 * n ≤ 1099511627776) :
    Calls Try.prog 66 #[v, .int .i64 k] w fun e w' => e = .returned (.int .i64 (k + 2 * n : Nat)) ∧ Below w.heap.size w w' := by
  obtain ⟨a, cap, rfl, hlen, hc⟩ := hv.open
  have hml : (mHs k n).length = n := by simp [mHs]
  have hc' : ∀ i, i < n → ∃ b o, a = some ⟨b, o, none⟩ ∧ P b ∧ w.cell? ⟨b, o + i * 2, none⟩ = some (.int .i64 ((k + 2 * i : Nat) : Int)) ∧ w.cell? ⟨b, o + i * 2 + 1, none⟩ = some (.int .i64 ((k + 2 * i + 1 : Nat) : Int)) := fun i hi => by
    obtain ⟨b, o, e, hp, h0, h1⟩ := hc i (by rw [hml]; exact hi)
    have hg : (mHs k n)[i]'(by rw [hml]; exact hi) = ⟨((k + 2 * i : Nat) : Int), ((k + 2 * i + 1 : Nat) : Int)⟩ := by simp [mHs]
    rw [hg] at h0 h1
    exact ⟨b, o, e, hp, h0, h1⟩
  rw [hml] at hlen ⊢
  have HC := hide hc'; have HP := hide hP
  clear hc hc' hP hv hml
  go_enter Try.func66, Try.ntmps66
  go_wp2_with fail
  go_loopw [1, 5] (fun kk i wr => ∃ (j m : Nat), j ≤ n ∧ m = k + 2 * j ∧ kk = .int .i64 (m : Nat) ∧ i = .int .i64 j ∧ Hid (Below w.heap.size w wr)) (fun _ i _ => n - (intOf i).toNat)
  case atStart => exact ⟨0, k, Nat.zero_le _, by omega, rfl, rfl, Below.refl _ _⟩
  case round =>
    obtain ⟨j, m, hj, hm, rfl, rfl, HB⟩ := hrel
    by_cases hlt : j < n
    · obtain ⟨b, o, rfl, hpb, h0, h1⟩ := unhide HC j hlt
      have e0 : wr.cell? ⟨b, o + j * 2, none⟩ = some (.int .i64 (m : Int)) := by rw [HB.out.cell (p := ⟨b, o + j * 2, none⟩) (unhide HP b hpb), hm]; exact h0
      have e1 : wr.cell? ⟨b, o + j * 2 + 1, none⟩ = some (.int .i64 ((m : Int) + 1)) := by rw [HB.out.cell (p := ⟨b, o + j * 2 + 1, none⟩) (unhide HP b hpb), hm]; exact h1
      have hmb : m + 2 ≤ 1099511627776 := by omega
      have HMM := hide hm
      clear h0 h1 hpb hm
      go_wp2_with fail
      go_roundw
      case rel => exact ⟨j + 1, m + 2, by omega, by have := unhide HMM; omega, by go_num, by go_num, HB⟩
      case measure => simp [intOf]; omega
    · go_wp2_with fail
      go_ret
      obtain rfl : j = n := by omega
      exact ⟨by rw [hm]; rfl, HB.out⟩

set_option maxHeartbeats 1600000 in
theorem markCrewDeadS_own (v : Value) (fs : List Hd) (F : List Nat) (k : Nat) (w : World) (hv : HOwn w v fs F) (hk : k + 2 * fs.length ≤ 1099511627776) :
    Calls Try.prog 65 #[v, .int .i64 k] w fun e w' => e = .returned (.int .i64 (k + 2 * fs.length : Nat)) ∧ HOwn w' v (mHs k fs.length) F ∧ Exc F w w' := by
  obtain ⟨a, cap, rfl, hlen, hc⟩ := hv
  rw [List.length_map] at hlen ⊢
  rcases hc with ⟨hfs, rfl⟩ | ⟨b, rfl, rfl, hfr, hc⟩
  · have hfs' : fs = [] := by simpa using hfs
    subst hfs'
    simp only [List.length_nil] at *
    go_enter Try.func65, Try.ntmps65
    go_wp2_with fail
    go_loopw [1, 5] (fun kk i wr => kk = .int .i64 k ∧ i = .int .i64 0 ∧ wr = w) (fun _ _ _ => 0)
    case atStart => exact ⟨rfl, rfl, rfl⟩
    case round =>
      obtain ⟨rfl, rfl, rfl⟩ := hrel
      go_wp2_with fail
      go_ret
      exact ⟨by simp, ⟨a, cap, by simp [mHs], by simp [mHs], Or.inl ⟨by simp [mHs], rfl⟩⟩, Exc.refl _ _⟩
  · have hM := FlatOwn.cells (n := 2) (rs := fs.map Hd.cs) hc hfr (by omega)
    rw [List.length_map] at hM
    generalize (fun q => ((fs.map Hd.cs).getD (q / 2) []).getD (q % 2) undef) = g at hM
    have hM0 : CellsAre w b (fs.length * 2) (partF (mkI k) g 0) := by
      have : partF (mkI k) g 0 = g := by funext q; simp [partF]
      rw [this]; exact hM
    have HM := hide hM0
    clear hM hM0 hfr hc
    generalize fs.length = n at *
    go_enter Try.func65, Try.ntmps65
    go_wp2_with fail
    go_loopw [1, 5] (fun kk i wr => ∃ (j m : Nat), j ≤ n ∧ m = k + 2 * j ∧ kk = .int .i64 (m : Nat) ∧ i = .int .i64 j ∧ Hid (CellsAre wr b (n * 2) (partF (mkI k) g (j * 2))) ∧ Hid (Exc [b] w wr)) (fun _ i _ => n - (intOf i).toNat)
    case atStart => exact ⟨0, k, Nat.zero_le _, by omega, rfl, rfl, by rw [Nat.zero_mul]; exact HM, Exc.refl _ _⟩
    case round =>
      obtain ⟨j, m, hj, hm, rfl, rfl, HC, HX⟩ := hrel
      by_cases hlt : j < n
      · have hmb2 : m + 2 ≤ 1099511627776 := by omega
        have HMM := hide hm
        have f0 : Value.int .i64 (m : Int) = mkI k (j * 2) := by unfold mkI; rw [hm]; congr 2; omega
        have f1 : Value.int .i64 ((m : Int) + 1) = mkI k (j * 2 + 1) := by unfold mkI; rw [hm]; congr 1; omega
        have y0 := HC.out.2 (j * 2) (by omega); have z0 := HC.out.1 (j * 2)
        have hs1 := HC.out.step (by omega) _ f0
        have y1 := hs1.2 (j * 2 + 1) (by omega); have z1 := hs1.1 (j * 2 + 1)
        have HS2 := hide (hs1.step (by omega) _ f1)
        have HX2 := hide (HX.out.trans ((Exc.set wr b (j * 2) (.int .i64 (m : Int)) (by simp)).trans (Exc.set _ b (j * 2 + 1) (.int .i64 ((m : Int) + 1)) (by simp))))
        clear hm f0 f1 hs1
        go_wp2_with fail
        go_roundw
        case rel => exact ⟨j + 1, m + 2, by omega, by have := unhide HMM; omega, by go_num, by go_num, by rw [Nat.add_mul]; exact HS2, unhide HX2⟩
        case measure => simp [intOf]; omega
      · go_wp2_with fail
        go_ret
        obtain rfl : j = n := by omega
        exact ⟨by rw [hm]; rfl, hs_of_cells hlen HC.out, HX.out⟩

end Go.Proofs.Ytchlbncncipecaa
