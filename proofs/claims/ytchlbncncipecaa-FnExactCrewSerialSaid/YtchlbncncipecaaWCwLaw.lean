/- The walks of the law's own eqIntS, eqCrewHandS, markIntS, markCrewHandS, heldIntS, heldCrewHandS. The marks count to at most 2^40. -/
import Derived.Test.YtchlbncncipecaaCwDat
import Derived.Test.YtchlbncncipecaaWMarkDo
import Derived.Deep.RegionWith
namespace Go.Proofs.Ytchlbncncipecaa
open Go Go.RowKit

set_option maxHeartbeats 400000 in
theorem eqIntZ_any (v u : Value) (ss : List Int) (w : World) {P Q : Nat → Prop} (hv : ZAt P w v ss) (hu : ZAt Q w u ss) (hP : ∀ b, P b → b < w.heap.size) (hQ : ∀ b, Q b → b < w.heap.size) :
    Calls Try.prog 42 #[v, u] w fun e w' => e = .returned (.bool true) ∧ Below w.heap.size w w' := by
  obtain ⟨a, cap, rfl, hlen, hc⟩ := hv.open
  obtain ⟨a2, cap2, rfl, -, hc2⟩ := hu.open
  have HC := hide hc; have HC2 := hide hc2; have HP := hide hP; have HQ := hide hQ
  clear hc hc2 hP hQ hv hu
  have hne : ((ss.length : Int) != (ss.length : Int)) = false := by simp
  go_enter Try.func42, Try.ntmps42
  go_wp2_with fail
  clear hne
  go_loopw [5] (fun i wr => ∃ (k : Nat), k ≤ ss.length ∧ i = .int .i64 k ∧ Below w.heap.size w wr) (fun i _ => ss.length - (intOf i).toNat)
  case atStart => exact ⟨0, Nat.zero_le _, rfl, Below.refl _ _⟩
  case round =>
    obtain ⟨k, hk, rfl, hb⟩ := hrel
    by_cases hlt : k < ss.length
    · obtain ⟨b, o, rfl, hpb, hcell⟩ := unhide HC k hlt
      obtain ⟨b2, o2, rfl, hpb2, hcell2⟩ := unhide HC2 k hlt
      have e1 : wr.cell? ⟨b, o + k, none⟩ = some (.int .i64 ss[k]) := by rw [hb.cell (unhide HP b hpb)]; exact hcell
      have e2 : wr.cell? ⟨b2, o2 + k, none⟩ = some (.int .i64 ss[k]) := by rw [hb.cell (unhide HQ b2 hpb2)]; exact hcell2
      have hne : (ss[k] != ss[k]) = false := by simp
      clear hcell hcell2 hpb hpb2
      go_wp2_with fail
      go_region
      go_wp2_with fail
      go_roundw
      case rel => exact ⟨k + 1, by omega, by go_num, hb.drew⟩
      case measure => simp [intOf]; omega
    · go_wp2_with fail
      go_ret
      exact ⟨rfl, hb⟩
theorem eqCrewHand_any (h : Hd) (w : World) :
    Calls Try.prog 82 #[.agg #[.int .i64 h.state, .int .i64 h.job], .agg #[.int .i64 h.state, .int .i64 h.job]] w fun e w' => e = .returned (.bool true) ∧ Below w.heap.size w w' := by
  have hb0 : ∀ o o2, Below w.heap.size w ((w.alloc o).alloc o2) := fun o o2 => ((Below.refl _ _).alloc (Nat.le_refl _) o).alloc (by simp) o2
  go_enter Try.func82, Try.ntmps82
  go_wp2_with fail
  go_ret
  exact ⟨rfl, hb0 _ _⟩
set_option maxHeartbeats 800000 in
theorem eqCrewHandS_any (v v2 : Value) (fs : List Hd) (w : World) {P Q : Nat → Prop} (hv : HAt P w v fs) (hv2 : HAt Q w v2 fs) (hP : ∀ b, P b → b < w.heap.size) (hQ : ∀ b, Q b → b < w.heap.size) :
    Calls Try.prog 43 #[v, v2] w fun e w' => e = .returned (.bool true) ∧ Below w.heap.size w w' := by
  obtain ⟨a, cap, rfl, hlen, hc⟩ := hv.open
  obtain ⟨a2, cap2, rfl, -, hc2⟩ := hv2.open
  have HC := hide hc; have HC2 := hide hc2; have HP := hide hP; have HQ := hide hQ; clear hc hc2 hP hQ hv hv2
  go_enter Try.func43, Try.ntmps43
  go_wp2_with fail
  go_loopw [5] (fun i wr => ∃ (k : Nat), k ≤ fs.length ∧ i = .int .i64 k ∧ Below w.heap.size w wr) (fun i _ => fs.length - (intOf i).toNat)
  case atStart => exact ⟨0, Nat.zero_le _, rfl, Below.refl _ _⟩
  case round =>
    obtain ⟨k, hk, rfl, hb⟩ := hrel
    by_cases hlt : k < fs.length
    · obtain ⟨b, o, rfl, hpb, hc0, hc1⟩ := unhide HC k hlt
      obtain ⟨b2, o2, rfl, hpb2, hd0, hd1⟩ := unhide HC2 k hlt
      have e0 : wr.cell? ⟨b, o + k * 2, none⟩ = some (.int .i64 fs[k].state) := by rw [hb.cell (unhide HP b hpb)]; exact hc0
      have e1 : wr.cell? ⟨b, o + k * 2 + 1, none⟩ = some (.int .i64 fs[k].job) := by rw [hb.cell (unhide HP b hpb)]; exact hc1
      have g0 : wr.cell? ⟨b2, o2 + k * 2, none⟩ = some (.int .i64 fs[k].state) := by rw [hb.cell (unhide HQ b2 hpb2)]; exact hd0
      have g1 : wr.cell? ⟨b2, o2 + k * 2 + 1, none⟩ = some (.int .i64 fs[k].job) := by rw [hb.cell (unhide HQ b2 hpb2)]; exact hd1
      have HCALL := hide (eqCrewHand_any fs[k] wr.drew)
      clear hc0 hc1 hd0 hd1 hpb hpb2
      generalize fs[k] = f at *
      go_wp2_with fail
      go_region_with (go_at_call 82; refine (unhide HCALL).mono ?_; rintro e w' ⟨rfl, hb'⟩)
      all_goals
        have hb2 := hb.drew.trans (hb'.mono hb.drew.size)
        go_wp2_with fail
        go_roundw
        case rel => exact ⟨k + 1, by omega, by go_num, hb2⟩
        case measure => simp [intOf]; omega
    · go_wp2_with fail
      go_ret
      exact ⟨rfl, hb⟩

/-- What stands in cells that were marked. -/
def mkI (k q : Nat) : Value := .int .i64 ((k + q : Nat) : Int)
def mZs (k n : Nat) : List Int := (List.range n).map fun i => ((k + i : Nat) : Int)
def mHs (k n : Nat) : List Hd := (List.range n).map fun i => ⟨((k + 2 * i : Nat) : Int), ((k + 2 * i + 1 : Nat) : Int)⟩
theorem zs_of_cells {w : World} {b cap n k : Nat} {g : Nat → Value} (hlen : n ≤ 9223372036854775807) (h : CellsAre w b (n * 1) (partF (mkI k) g (n * 1))) : ZOwn w (.slice (some ⟨b, 0, none⟩) n cap) (mZs k n) [b] := by
  refine ⟨some ⟨b, 0, none⟩, cap, by simp [mZs], by simpa [mZs] using hlen, Or.inr ⟨b, rfl, rfl, h.1, fun i hi j hj => ?_⟩⟩
  have hi' : i < n := by simpa [mZs] using hi
  rw [h.2 (i * 1 + j) (by omega)]
  unfold partF mkI
  rw [if_pos (by omega)]
  obtain rfl : j = 0 := by omega
  simp [mZs, zcs]
theorem hs_of_cells {w : World} {b cap n k : Nat} {g : Nat → Value} (hlen : n ≤ 9223372036854775807) (h : CellsAre w b (n * 2) (partF (mkI k) g (n * 2))) : HOwn w (.slice (some ⟨b, 0, none⟩) n cap) (mHs k n) [b] := by
  refine ⟨some ⟨b, 0, none⟩, cap, by simp [mHs], by simpa [mHs] using hlen, Or.inr ⟨b, rfl, rfl, h.1, fun i hi j hj => ?_⟩⟩
  have hi' : i < n := by simpa [mHs] using hi
  rw [h.2 (i * 2 + j) (by omega)]
  unfold partF mkI
  rw [if_pos (by omega)]
  rcases (show j = 0 ∨ j = 1 by omega) with rfl | rfl
  · simp [mHs, Hd.cs, Nat.mul_comm]
  · simp [mHs, Hd.cs, Nat.mul_comm, Nat.add_assoc]

set_option maxHeartbeats 1600000 in
theorem markIntZ_own (v : Value) (fs : List Int) (F : List Nat) (k : Nat) (w : World) (hv : ZOwn w v fs F) (hk : k + fs.length ≤ 1099511627776) :
    Calls Try.prog 44 #[v, .int .i64 k] w fun e w' => e = .returned (.int .i64 (k + fs.length : Nat)) ∧ ZOwn w' v (mZs k fs.length) F ∧ Exc F w w' := by
  obtain ⟨a, cap, rfl, hlen, hc⟩ := hv
  rw [List.length_map] at hlen ⊢
  rcases hc with ⟨hfs, rfl⟩ | ⟨b, rfl, rfl, hfr, hc⟩
  · have hfs' : fs = [] := by simpa using hfs
    subst hfs'
    simp only [List.length_nil] at *
    go_enter Try.func44, Try.ntmps44
    go_wp2_with fail
    go_loopw [1, 5] (fun kk i wr => kk = .int .i64 k ∧ i = .int .i64 0 ∧ wr = w) (fun _ _ _ => 0)
    case atStart => exact ⟨rfl, rfl, rfl⟩
    case round =>
      obtain ⟨rfl, rfl, rfl⟩ := hrel
      go_wp2_with fail
      go_ret
      exact ⟨by simp, ⟨a, cap, by simp [mZs], by simp [mZs], Or.inl ⟨by simp [mZs], rfl⟩⟩, Exc.refl _ _⟩
  · have hM := FlatOwn.cells (n := 1) (rs := fs.map zcs) hc hfr (by omega)
    rw [List.length_map] at hM
    generalize (fun q => ((fs.map zcs).getD (q / 1) []).getD (q % 1) undef) = g at hM
    have hM0 : CellsAre w b (fs.length * 1) (partF (mkI k) g 0) := by
      have : partF (mkI k) g 0 = g := by funext q; simp [partF]
      rw [this]; exact hM
    have HM := hide hM0
    clear hM hM0 hfr hc
    generalize fs.length = n at *
    go_enter Try.func44, Try.ntmps44
    go_wp2_with fail
    go_loopw [1, 5] (fun kk i wr => ∃ (j m : Nat), j ≤ n ∧ m = k + j ∧ kk = .int .i64 (m : Nat) ∧ i = .int .i64 j ∧ Hid (CellsAre wr b (n * 1) (partF (mkI k) g j)) ∧ Hid (Exc [b] w wr)) (fun _ i _ => n - (intOf i).toNat)
    case atStart => exact ⟨0, k, Nat.zero_le _, by omega, rfl, rfl, HM, Exc.refl _ _⟩
    case round =>
      obtain ⟨j, m, hj, hm, rfl, rfl, HC, HX⟩ := hrel
      by_cases hlt : j < n
      · have hmb2 : m + 1 ≤ 1099511627776 := by omega
        have HMM := hide hm
        have f0 : Value.int .i64 (m : Int) = mkI k j := by unfold mkI; rw [hm]
        have y0 := HC.out.2 j (by omega); have z0 := HC.out.1 j
        have HS1 := hide (HC.out.step (by omega) _ f0)
        have HX1 := hide (HX.out.trans (Exc.set wr b j (.int .i64 (m : Int)) (by simp)))
        clear hm f0
        go_wp2_with fail
        go_roundw
        case rel => exact ⟨j + 1, m + 1, by omega, by have := unhide HMM; omega, by go_num, by go_num, HS1, unhide HX1⟩
        case measure => simp [intOf]; omega
      · go_wp2_with fail
        go_ret
        obtain rfl : j = n := by omega
        exact ⟨by rw [hm]; rfl, zs_of_cells hlen (by rw [Nat.mul_one]; rw [Nat.mul_one] at HC; exact HC.out), HX.out⟩
end Go.Proofs.Ytchlbncncipecaa
