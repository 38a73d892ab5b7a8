/- Records as bytes: what LogFrame gives, and the walks of both sides' functions. No conditions but that a string's length is one. -/
import Derived.Test.YtkmjhcidafkflaaWDig
import Derived.Test.YtkmjhcidafkflaaRows
import Derived.Test.YtkmjhcidafkflaaRow
namespace Go.Proofs.Ytkmjhcidafkflaa
open Go Go.RowKit

/-- A byte. -/
def hb (x : Int) : UInt8 := UInt8.ofNat x.toNat
theorem hb_nat {x : Int} (h0 : 0 ≤ x) (h1 : x < 256) : ((hb x).toNat : Int) = x := by unfold hb; rw [UInt8.toNat_ofNat']; omega
/-- Whether a record of that position with so many bytes is one. -/
def frOk (p : Int) (n : Nat) : Bool := decide (1 ≤ p ∧ p ≤ 999999 ∧ n ≤ 2000)
def frB (p : Int) (x : ByteArray) : ByteArray := if frOk p x.size = true then (⟨#[hb (x.size / 256), hb (x.size % 256)]⟩ ++ ⟨#[hb (p / 65536), hb (p / 256 % 256), hb (p % 256)]⟩) ++ x else ByteArray.empty

theorem frInS (a b c : Int) (w : World) : Calls Try.prog 25 #[.int .i64 a, .int .i64 b, .int .i64 c] w fun e w' => e = .returned (.bool (decide (b ≤ a ∧ a ≤ c))) ∧ Below w.heap.size w w' := by
  go_enter Try.func25, Try.ntmps25
  by_cases h1 : b ≤ a
  · by_cases h2 : a ≤ c
    · go_wp2_with fail
      go_ret
      exact ⟨by simp [h2]; omega, Below.refl _ _⟩
    · go_wp2_with fail
      go_ret
      exact ⟨by simp; omega, Below.refl _ _⟩
  · go_wp2_with fail
    go_ret
    exact ⟨by simp; omega, Below.refl _ _⟩
theorem frInP (a b c : Int) (w : World) : Calls Try.prog 39 #[.int .i64 a, .int .i64 b, .int .i64 c] w fun e w' => e = .returned (.bool (decide (b ≤ a ∧ a ≤ c))) ∧ Below w.heap.size w w' := by
  go_enter Try.func39, Try.ntmps39
  by_cases h1 : b ≤ a
  · by_cases h2 : a ≤ c
    · go_wp2_with fail
      go_ret
      exact ⟨by simp [h2]; omega, Below.refl _ _⟩
    · go_wp2_with fail
      go_ret
      exact ⟨by simp; omega, Below.refl _ _⟩
  · go_wp2_with fail
    go_ret
    exact ⟨by simp; omega, Below.refl _ _⟩
theorem recordFits_any (p : Int) (n : Nat) (w : World) : Calls Try.prog 21 #[.int .i64 p, .int .i64 n] w fun e w' => e = .returned (.bool (frOk p n)) ∧ Below w.heap.size w w' := by
  have HI := hide (frInP p 1 999999 w)
  go_enter Try.func21, Try.ntmps21
  go_wp2_with fail
  refine (unhide HI).mono ?_
  rintro e w1 ⟨rfl, hb1⟩
  by_cases h1 : 1 ≤ p ∧ p ≤ 999999
  · rw [decide_eq_true h1]
    by_cases h2 : n ≤ 2000
    · go_wp2_with fail
      go_ret
      exact ⟨by simp [frOk, h1] <;> omega, hb1⟩
    · go_wp2_with fail
      go_ret
      exact ⟨by simp [frOk, h1] <;> omega, hb1⟩
  · rw [decide_eq_false h1]
    have HF := hide (show frOk p n = false by unfold frOk; exact decide_eq_false (fun h => h1 ⟨h.1, h.2.1⟩))
    clear h1
    go_wp2_with fail
    go_ret
    exact ⟨by rw [unhide HF]; rfl, hb1⟩
set_option maxHeartbeats 400000 in
theorem l42RecordOk_any (p : Int) (x : ByteArray) (hx : x.size ≤ 9223372036854775807) (w : World) : Calls Try.prog 55 #[.agg #[.int .i64 p, .string x]] w fun e w' => e = .returned (.bool (frOk p x.size)) ∧ Below w.heap.size w w' := by
  have HI := hide (fun o => frInS p 1 999999 (w.alloc o))
  go_enter Try.func55, Try.ntmps55
  go_wp2_with fail
  refine (unhide HI _).mono ?_
  rintro e w1 ⟨rfl, hb1⟩
  have hb01 := ((Below.refl _ w).alloc (Nat.le_refl _) _).trans (hb1.mono (by simp))
  have k1 : w1.cell? ⟨w.heap.size, 1, none⟩ = some (.string x) := by rw [hb1.cell (by simp)]; go_simp
  have HB := hide hb01
  clear hb1 hb01 HI
  by_cases h1 : 1 ≤ p ∧ p ≤ 999999
  · rw [decide_eq_true h1]
    by_cases h2 : x.size ≤ 2000
    · go_wp2_with fail
      go_ret
      exact ⟨by simp [frOk, h1] <;> omega, unhide HB⟩
    · go_wp2_with fail
      go_ret
      exact ⟨by simp [frOk, h1] <;> omega, unhide HB⟩
  · rw [decide_eq_false h1]
    have HF := hide (show frOk p x.size = false by unfold frOk; exact decide_eq_false (fun h => h1 ⟨h.1, h.2.1⟩))
    clear h1
    go_wp2_with fail
    go_ret
    exact ⟨by rw [unhide HF]; rfl, unhide HB⟩
end Go.Proofs.Ytkmjhcidafkflaa
