/- The walk of the specification's l6Dec: it gives the decimals of a number. For numbers from -999999999 to 999999999. -/
import Derived.Test.YtmaojhacdelleaaDoorWDig
namespace Go.Proofs.YtmaojhacdelleaaDoor
open Go Go.RowKit

set_option maxRecDepth 100000 in
set_option maxHeartbeats 400000 in
theorem l6Dec_nat : ∀ (k : Nat) (n : Int) (w : World), 0 ≤ n → n < k → n ≤ 999999999 →
    Calls Tryd.prog 11 #[.int .i64 n] w fun e w' => e = .returned (.string ⟨(Lib.decDigits n.toNat).toArray⟩) ∧ Below w.heap.size w w' := by
  intro k
  induction k with
  | zero => intro n w h0 h; omega
  | succ k ih =>
    intro n w hn0 hk hu
    by_cases h10 : n < 10
    · have HD := hide (dec_small h10)
      have hconv := fun W b cap => conv_one W b cap n hn0 h10
      clear ih
      go_enter Tryd.func11, Tryd.ntmps11
      go_wp2_with fail
      go_ret
      exact ⟨by rw [unhide HD]; rfl, (Below.refl _ _).alloc (Nat.le_refl _) _⟩
    · have HD := hide (dec_big h10)
      have hconv := fun W b cap => conv_one W b cap (n % 10) (by omega) (by omega)
      have hl := Lib.itoa_length_le (n / 10) (by omega) (by omega)
      have HIH := hide (fun W => (ih (n / 10) W (by omega) (by omega) (by omega)).mono (fun e w' (h : e = .returned (.string ⟨(Lib.decDigits (n / 10).toNat).toArray⟩) ∧ Below W.heap.size W w') => (⟨h.1, h.2, fun b o hb => h.2.cell (p := ⟨b, o, none⟩) hb⟩ : e = .returned (.string ⟨(Lib.decDigits (n / 10).toNat).toArray⟩) ∧ Below W.heap.size W w' ∧ ∀ b o, b < W.heap.size → w'.cell? ⟨b, o, none⟩ = W.cell? ⟨b, o, none⟩)))
      have hq1 := quo10 hn0 hu
      have hq2 := rem10 hn0
      have hq3 := rem10b n
      have hb0 : 0 ≤ n / 10 := by omega
      have hb1 : 0 ≤ n % 10 := by omega
      have hb2 : n % 10 < 10 := by omega
      have hl2 : (Lib.decDigits (n / 10).toNat).length ≤ 21 := by
        have : Lib.itoa (n / 10) = Lib.decDigits (n / 10).toNat := by unfold Lib.itoa; rw [if_neg (by omega)]
        rw [← this]; exact hl
      generalize Lib.decDigits (n / 10).toNat = ds at *
      clear ih hl
      go_enter Tryd.func11, Tryd.ntmps11
      go_wp2_with fail
      go_region_with (go_at_call 11; refine (unhide HIH _).mono ?_; rintro e w1 ⟨rfl, hb, hcell⟩; have HB := hide hb; clear hb)
      all_goals
        go_wp2_with fail
        go_ret
        refine ⟨ret_str ?_, ?_⟩
        · rw [unhide HD]; exact ba_append _ _
        · first | exact bc1 (unhide HB) | exact bc2 (unhide HB)

theorem itoa_lt {n : Int} (h : n < 0) : Lib.itoa n = 45 :: Lib.decDigits (-n).toNat := by
  unfold Lib.itoa; rw [if_pos h, show n.natAbs = (-n).toNat from by omega]
theorem itoa_ge {n : Int} (h : ¬ n < 0) : Lib.itoa n = Lib.decDigits n.toNat := by
  unfold Lib.itoa; rw [if_neg h]

set_option maxRecDepth 100000 in
set_option maxHeartbeats 400000 in
theorem l6Dec_any (n : Int) (w : World) (h0 : -999999999 ≤ n) (h1 : n ≤ 999999999) :
    Calls Tryd.prog 11 #[.int .i64 n] w fun e w' => e = .returned (.string ⟨(Lib.itoa n).toArray⟩) ∧ Below w.heap.size w w' := by
  by_cases hn : n < 0
  · rw [itoa_lt hn]
    have hl := Lib.itoa_length_le (-n) (by omega) (by omega)
    rw [itoa_ge (by omega)] at hl
    have HIH := hide (fun W => l6Dec_nat ((-n).toNat + 1) (-n) W (by omega) (by omega) (by omega))
    generalize Lib.decDigits (-n).toNat = ds at *
    go_enter Tryd.func11, Tryd.ntmps11
    go_wp2_with (go_at_call 11; refine (unhide HIH _).mono ?_; rintro e w1 ⟨rfl, hb⟩)
    go_ret
    exact ⟨ret_str (ba_append [45] ds), hb⟩
  · rw [itoa_ge hn]
    exact l6Dec_nat (n.toNat + 1) n w (by omega) (by omega) h1
end Go.Proofs.YtmaojhacdelleaaDoor
