/- The walk of the specification's l1TextOk: what it answers. No conditions. -/
import Derived.Test.YtmpfhkjipdhhlaaDoorWSpecS
namespace Go.Proofs.YtmpfhkjipdhhlaaDoor
open Go Go.RowKit

set_option maxHeartbeats 400000 in
theorem l1TextOk_any (s : ByteArray) (w : World) (hs : s.size ≤ 9223372036854775807) :
    Calls Tryd.prog 86 #[.string s] w fun e w' => e = .returned (.bool (textOkB s)) ∧ w' = w := by
  by_cases h60 : 60 < s.size
  · go_enter Tryd.func86, Tryd.ntmps86
    go_wp2_with fail
    go_ret
    exact ⟨by simp [textOkB]; omega, rfl⟩
  · go_enter Tryd.func86, Tryd.ntmps86
    go_wp2_with fail
    go_loop [3] (fun i => ∃ k : Nat, k ≤ s.size ∧ i = .int .i64 k ∧ Hid (allTo textByte s k)) (fun i => s.size - (intOf i).toNat)
    case atStart => exact ⟨0, Nat.zero_le _, rfl, fun j hj => by omega⟩
    case round =>
      obtain ⟨k, hk, rfl, HA⟩ := hrel
      by_cases hlt : k < s.size
      · have hc : s[k].toNat < 32 ∨ 126 < s[k].toNat ∨ s[k].toNat = 34 ∨ (32 ≤ s[k].toNat ∧ s[k].toNat ≤ 126 ∧ s[k].toNat ≠ 34) := by omega
        rcases hc with hc | hc | hc | hc
        · go_wp2_with fail
          go_ret
          exact ⟨ret_bool (textOk_not hlt (textByte_no (Or.inl hc))).symm, rfl⟩
        · go_wp2_with fail
          go_ret
          exact ⟨ret_bool (textOk_not hlt (textByte_no (Or.inr (Or.inl hc)))).symm, rfl⟩
        · have HC := hide (textOk_not hlt (textByte_no (Or.inr (Or.inr hc))))
          go_wp2_with fail
          go_ret
          exact ⟨ret_bool (unhide HC).symm, rfl⟩
        · have HN := hide (allTo_succ HA.out hlt (textByte_yes hc))
          obtain ⟨hc1, hc2, hc3⟩ := hc
          have hb34 : ((s[k].toNat : Int) == 34) = false := by simp; omega
          go_wp2_with fail
          go_round
          case rel => exact ⟨k + 1, by omega, by go_num, HN⟩
          case measure => simp [intOf]; omega
      · go_wp2_with fail
        go_ret
        obtain rfl : k = s.size := by omega
        exact ⟨ret_bool (textOk_yes (by omega) HA.out).symm, rfl⟩
end Go.Proofs.YtmpfhkjipdhhlaaDoor
