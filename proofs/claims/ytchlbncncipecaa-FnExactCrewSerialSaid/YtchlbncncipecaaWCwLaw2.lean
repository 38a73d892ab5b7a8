/- The walks of the law's own heldIntS, markCrewHandS, heldCrewHandS, eqCrewWorld, markCrewWorld, heldCrewWorld. The marks count to at most 2^40. -/
import Derived.Test.YtchlbncncipecaaWCwLaw
namespace Go.Proofs.Ytchlbncncipecaa
open Go Go.RowKit

set_option maxHeartbeats 800000 in
theorem heldIntZ_any (v : Value) (n k : Nat) (w : World) {P : Nat → Prop} (hv : ZAt P w v (mZs k n)) (hP : ∀ b, P b → b < w.heap.size) (hk : k + n ≤ 1099511627776) :
    Calls Try.prog 46 #[v, .int .i64 k] w fun e w' => e = .returned (.int .i64 (k + n : Nat)) ∧ Below w.heap.size w w' := by
  obtain ⟨a, cap, rfl, hlen, hc⟩ := hv.open
  have hml : (mZs k n).length = n := by simp [mZs]
  have hc' : ∀ i, i < n → ∃ b o, a = some ⟨b, o, none⟩ ∧ P b ∧ w.cell? ⟨b, o + i, none⟩ = some (.int .i64 ((k + i : Nat) : Int)) := fun i hi => by
    obtain ⟨b, o, e, hp, h0⟩ := hc i (by rw [hml]; exact hi)
    have hg : (mZs k n)[i]'(by rw [hml]; exact hi) = ((k + i : Nat) : Int) := by simp [mZs]
    rw [hg] at h0
    exact ⟨b, o, e, hp, h0⟩
  rw [hml] at hlen ⊢
  have HC := hide hc'; have HP := hide hP
  clear hc hc' hP hv hml
  go_enter Try.func46, Try.ntmps46
  go_wp2_with fail
  go_loopw [1, 5] (fun kk i wr => ∃ (j m : Nat), j ≤ n ∧ m = k + j ∧ kk = .int .i64 (m : Nat) ∧ i = .int .i64 j ∧ Hid (Below w.heap.size w wr)) (fun _ i _ => n - (intOf i).toNat)
  case atStart => exact ⟨0, k, Nat.zero_le _, by omega, rfl, rfl, Below.refl _ _⟩
  case round =>
    obtain ⟨j, m, hj, hm, rfl, rfl, HB⟩ := hrel
    by_cases hlt : j < n
    · obtain ⟨b, o, rfl, hpb, h0⟩ := unhide HC j hlt
      have e0 : wr.cell? ⟨b, o + j, none⟩ = some (.int .i64 (m : Int)) := by rw [HB.out.cell (p := ⟨b, o + j, none⟩) (unhide HP b hpb), hm]; exact h0
      have hmb : m + 1 ≤ 1099511627776 := by omega
      have HMM := hide hm
      clear h0 hpb hm
      go_wp2_with fail
      go_roundw
      case rel => exact ⟨j + 1, m + 1, by omega, by have := unhide HMM; omega, by go_num, by go_num, HB⟩
      case measure => simp [intOf]; omega
    · go_wp2_with fail
      go_ret
      obtain rfl : j = n := by omega
      exact ⟨by rw [hm]; rfl, HB.out⟩
set_option maxHeartbeats 800000 in
theorem heldCrewHandS_any (v : Value) (n k : Nat) (w : World) {P : Nat → Prop} (hv : HAt P w v (mHs k n)) (hP : ∀ b, P b → b < w.heap.size) (hk : k + 2 * n ≤ 1099511627776) :
    Calls Try.prog 47 #[v, .int .i64 k] w fun e w' => e = .returned (.int .i64 (k + 2 * n : Nat)) ∧ Below w.heap.size w w' := by
  obtain ⟨a, cap, rfl, hlen, hc⟩ := hv.open
  have hml : (mHs k n).length = n := by simp [mHs]
  have hc' : ∀ i, i < n → ∃ b o, a = some ⟨b, o, none⟩ ∧ P b ∧ w.cell? ⟨b, o + i * 2, none⟩ = some (.int .i64 ((k + 2 * i : Nat) : Int)) ∧ w.cell? ⟨b, o + i * 2 + 1, none⟩ = some (.int .i64 ((k + 2 * i + 1 : Nat) : Int)) := fun i hi => by
    obtain ⟨b, o, e, hp, h0, h1⟩ := hc i (by rw [hml]; exact hi)
    have hg : (mHs k n)[i]'(by rw [hml]; exact hi) = ⟨((k + 2 * i : Nat) : Int), ((k + 2 * i + 1 : Nat) : Int)⟩ := by simp [mHs]
    rw [hg] at h0 h1
    exact ⟨b, o, e, hp, h0, h1⟩
  rw [hml] at hlen ⊢
  have HC := hide hc'; have HP := hide hP
  clear hc hc' hP hv hml
  go_enter Try.func47, Try.ntmps47
  go_wp2_with fail
  go_loopw [1, 5] (fun kk i wr => ∃ (j m : Nat), j ≤ n ∧ m = k + 2 * j ∧ kk = .int .i64 (m : Nat) ∧ i = .int .i64 j ∧ Hid (Below w.heap.size w wr)) (fun _ i _ => n - (intOf i).toNat)
  case atStart => exact ⟨0, k, Nat.zero_le _, by omega, rfl, rfl, Below.refl _ _⟩
  case round =>
    obtain ⟨j, m, hj, hm, rfl, rfl, HB⟩ := hrel
    by_cases hlt : j < n
    · obtain ⟨b, o, rfl, hpb, h0, h1⟩ := unhide HC j hlt
      have e0 : wr.cell? ⟨b, o + j * 2, none⟩ = some (.int .i64 (m : Int)) := by rw [HB.out.cell (p := ⟨b, o + j * 2, none⟩) (unhide HP b hpb), hm]; exact h0
      have e1 : wr.cell? ⟨b, o + j * 2 + 1, none⟩ = some (.int .i64 ((m : Int) + 1)) := by rw [HB.out.cell (p := ⟨b, o + j * 2 + 1, none⟩) (unhide HP b hpb), hm]; exact h1
      have hmb : m + 2 ≤ 1099511627776 := by omega
      have HMM := hide hm
      clear h0 h1 hpb hm
      go_wp2_with fail
      go_roundw
      case rel => exact ⟨j + 1, m + 2, by omega, by have := unhide HMM; omega, by go_num, by go_num, HB⟩
      case measure => simp [intOf]; omega
    · go_wp2_with fail
      go_ret
      obtain rfl : j = n := by omega
      exact ⟨by rw [hm]; rfl, HB.out⟩
set_option maxHeartbeats 1600000 in
theorem markCrewHandS_own (v : Value) (fs : List Hd) (F : List Nat) (k : Nat) (w : World) (hv : HOwn w v fs F) (hk : k + 2 * fs.length ≤ 1099511627776) :
    Calls Try.prog 45 #[v, .int .i64 k] w fun e w' => e = .returned (.int .i64 (k + 2 * fs.length : Nat)) ∧ HOwn w' v (mHs k fs.length) F ∧ Exc F w w' := by
  obtain ⟨a, cap, rfl, hlen, hc⟩ := hv
  rw [List.length_map] at hlen ⊢
  rcases hc with ⟨hfs, rfl⟩ | ⟨b, rfl, rfl, hfr, hc⟩
  · have hfs' : fs = [] := by simpa using hfs
    subst hfs'
    simp only [List.length_nil] at *
    go_enter Try.func45, Try.ntmps45
    go_wp2_with fail
    go_loopw [1, 5] (fun kk i wr => kk = .int .i64 k ∧ i = .int .i64 0 ∧ wr = w) (fun _ _ _ => 0)
    case atStart => exact ⟨rfl, rfl, rfl⟩
    case round =>
      obtain ⟨rfl, rfl, rfl⟩ := hrel
      go_wp2_with fail
      go_ret
      exact ⟨by simp, ⟨a, cap, by simp [mHs], by simp [mHs], Or.inl ⟨by simp [mHs], rfl⟩⟩, Exc.refl _ _⟩
  · have hM := FlatOwn.cells (n := 2) (rs := fs.map Hd.cs) hc hfr (by omega)
    rw [List.length_map] at hM
    generalize (fun q => ((fs.map Hd.cs).getD (q / 2) []).getD (q % 2) undef) = g at hM
    have hM0 : CellsAre w b (fs.length * 2) (partF (mkI k) g 0) := by
      have : partF (mkI k) g 0 = g := by funext q; simp [partF]
      rw [this]; exact hM
    have HM := hide hM0
    clear hM hM0 hfr hc
    generalize fs.length = n at *
    go_enter Try.func45, Try.ntmps45
    go_wp2_with fail
    go_loopw [1, 5] (fun kk i wr => ∃ (j m : Nat), j ≤ n ∧ m = k + 2 * j ∧ kk = .int .i64 (m : Nat) ∧ i = .int .i64 j ∧ Hid (CellsAre wr b (n * 2) (partF (mkI k) g (j * 2))) ∧ Hid (Exc [b] w wr)) (fun _ i _ => n - (intOf i).toNat)
    case atStart => exact ⟨0, k, Nat.zero_le _, by omega, rfl, rfl, by rw [Nat.zero_mul]; exact HM, Exc.refl _ _⟩
    case round =>
      obtain ⟨j, m, hj, hm, rfl, rfl, HC, HX⟩ := hrel
      by_cases hlt : j < n
      · have hmb2 : m + 2 ≤ 1099511627776 := by omega
        have HMM := hide hm
        have f0 : Value.int .i64 (m : Int) = mkI k (j * 2) := by unfold mkI; rw [hm]; congr 2; omega
        have f1 : Value.int .i64 ((m : Int) + 1) = mkI k (j * 2 + 1) := by unfold mkI; rw [hm]; congr 1; omega
        have y0 := HC.out.2 (j * 2) (by omega); have z0 := HC.out.1 (j * 2)
        have hs1 := HC.out.step (by omega) _ f0
        have y1 := hs1.2 (j * 2 + 1) (by omega); have z1 := hs1.1 (j * 2 + 1)
        have HS2 := hide (hs1.step (by omega) _ f1)
        have HX2 := hide (HX.out.trans ((Exc.set wr b (j * 2) (.int .i64 (m : Int)) (by simp)).trans (Exc.set _ b (j * 2 + 1) (.int .i64 ((m : Int) + 1)) (by simp))))
        clear hm f0 f1 hs1
        go_wp2_with fail
        go_roundw
        case rel => exact ⟨j + 1, m + 2, by omega, by have := unhide HMM; omega, by go_num, by go_num, by rw [Nat.add_mul]; exact HS2, unhide HX2⟩
        case measure => simp [intOf]; omega
      · go_wp2_with fail
        go_ret
        obtain rfl : j = n := by omega
        exact ⟨by rw [hm]; rfl, hs_of_cells hlen HC.out, HX.out⟩
end Go.Proofs.Ytchlbncncipecaa
