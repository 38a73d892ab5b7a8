/- The walk of markStringS over a shape: it ends, and turns cells of the shape's own blocks alone, each into one of its kind. The marks count to at most 2^40. -/
import Derived.Test.YtepknipcflbodaaWMark
import Derived.Test.YtepknipcflbodaaShp
namespace Go.Proofs.Ytepknipcflbodaa
open Go Go.RowKit

set_option maxHeartbeats 400000 in
theorem markStringS_shp (D : Nat → Prop) (v : Value) (n : Nat) (k : Nat) (w : World) (hv : SShp D w v n) (hk0 : 0 < k) (hk : k + n ≤ 1099511627776) :
    Calls Try.prog 15 #[v, .int .i64 k] w fun e w' => e = .returned (.int .i64 (k + n : Nat)) ∧ Like D w w' := by
  have HV := hide hv
  obtain ⟨a, cap, rfl, hlen, -⟩ := hv
  go_enter Try.func15, Try.ntmps15
  go_wp2_with fail
  go_loopw [1, 5] (fun kk i wr => ∃ (j : Nat), j ≤ n ∧ kk = .int .i64 (k + j : Nat) ∧ i = .int .i64 j ∧ Hid (Like D w wr)) (fun _ i _ => n - (intOf i).toNat)
  case atStart => exact ⟨0, Nat.zero_le _, rfl, rfl, Like.refl _ _⟩
  case round =>
    obtain ⟨j, hj, rfl, rfl, HL⟩ := hrel
    by_cases hlt : j < n
    · have hs := (unhide HV).like HL.out
      obtain ⟨a', cap', e, -, hc⟩ := hs
      cases e
      obtain ⟨b, o, s, rfl, hd, hf, hcell⟩ := hc j hlt
      have hblt : b < wr.heap.size := World.block_lt_of_cell? wr _ hcell
      have HC := hide hcell; have HF := hide hf; have HD := hide hd
      clear hcell hf hd hc
      go_wp2_with fail
      refine (markText_any (k + j) wr (by omega) (by omega)).mono ?_
      rintro e w' ⟨rfl, hb'⟩
      have y0 : w'.cell? ⟨b, o + j, none⟩ = some (.string s) := by rw [hb'.cell hblt]; exact unhide HC
      have z0 := ((unhide HF).of_block (hb'.block b hblt)) (o + j)
      have HB := hide hb'; clear hb'
      go_wp2_with fail
      go_roundw
      case rel =>
        refine ⟨j + 1, by omega, by go_num, by go_num, ?_⟩
        exact (HL.out.trans (Like.of_below (unhide HB))).trans (Like.set (unhide HD) y0 (Or.inr (Or.inl ⟨_, _, rfl, rfl⟩)))
      case measure => simp [intOf]; omega
    · go_wp2_with fail
      go_ret
      obtain rfl : j = n := by omega
      exact ⟨rfl, HL.out⟩

end Go.Proofs.Ytepknipcflbodaa
