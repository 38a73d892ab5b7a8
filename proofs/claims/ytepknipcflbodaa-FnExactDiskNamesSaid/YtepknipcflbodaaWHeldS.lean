/- The walk of heldStringS: of what was marked it tells the next mark, and turns nothing that was there. For marks up to 2^40. -/
import Derived.Test.YtepknipcflbodaaWMark
import Derived.Deep.RegionWith
namespace Go.Proofs.Ytepknipcflbodaa
open Go Go.RowKit

set_option maxHeartbeats 400000 in
theorem heldStringS_any (v : Value) (ss : List ByteArray) (k : Nat) (w : World) {P : Nat → Prop} (hv : StrsAt P w v (mS k ss)) (hP : ∀ b, P b → b < w.heap.size) (hk0 : 0 < k) (hk : k + ss.length ≤ 1099511627776) :
    Calls Try.prog 16 #[v, .int .i64 k] w fun e w' => e = .returned (.int .i64 (k + ss.length : Nat)) ∧ Below w.heap.size w w' := by
  obtain ⟨a, cap, rfl, hlen, hc⟩ := hv
  rw [mS_len] at hlen
  have hc' : ∀ i, i < ss.length → ∃ b o, a = some ⟨b, o, none⟩ ∧ P b ∧ w.cell? ⟨b, o + i, none⟩ = some (.string (mtx (k + i))) := fun i hi => by
    obtain ⟨b, o, e, hp, hcell, _⟩ := hc i (by rw [mS_len]; exact hi)
    rw [mS_get] at hcell
    exact ⟨b, o, e, hp, hcell⟩
  rw [mS_len]
  have HC := hide hc'; have HP := hide hP
  clear hc hc' hP
  go_enter Try.func16, Try.ntmps16
  go_wp2_with fail
  go_loopw [1, 5] (fun kk i wr => ∃ (j : Nat), j ≤ ss.length ∧ kk = .int .i64 (k + j : Nat) ∧ i = .int .i64 j ∧ Below w.heap.size w wr) (fun _ i _ => ss.length - (intOf i).toNat)
  case atStart => exact ⟨0, Nat.zero_le _, rfl, rfl, Below.refl _ _⟩
  case round =>
    obtain ⟨j, hj, rfl, rfl, hb⟩ := hrel
    by_cases hlt : j < ss.length
    · obtain ⟨b, o, rfl, hpb, hcell⟩ := unhide HC j hlt
      have e1 : wr.cell? ⟨b, o + j, none⟩ = some (.string (mtx (k + j))) := by rw [hb.cell (unhide HP b hpb)]; exact hcell
      have hcall := (markText_any (k + j) wr.drew (by omega) (by omega)).mono (fun e w' (h : e = .returned (.string (mtx (k + j))) ∧ Below wr.drew.heap.size wr.drew w') => (⟨h.1, h.2, by rw [h.2.cell (World.block_lt_of_cell? wr _ e1)]; exact e1⟩ : e = .returned (.string (mtx (k + j))) ∧ Below wr.drew.heap.size wr.drew w' ∧ w'.cell? ⟨b, o + j, none⟩ = some (.string (mtx (k + j)))))
      have HCALL := hide hcall
      clear hcell hpb hcall
      go_wp2_with fail
      go_region_with (go_at_call 38; refine (unhide HCALL).mono ?_; rintro e w' ⟨rfl, hb', hc'⟩)
      all_goals
        have hb2 := hb.drew.trans (hb'.mono hb.drew.size)
        go_wp2_with fail
        go_roundw
        case rel => exact ⟨j + 1, by omega, by go_num, by go_num, hb2⟩
        case measure => simp [intOf]; omega
    · go_wp2_with fail
      go_ret
      obtain rfl : j = ss.length := by omega
      exact ⟨rfl, hb⟩
end Go.Proofs.Ytepknipcflbodaa
