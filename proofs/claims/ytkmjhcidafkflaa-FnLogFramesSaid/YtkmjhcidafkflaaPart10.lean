/- The walks of the specification's l6Many, l5Bend: some text of at most 300000 bytes. No conditions. -/
import Derived.Test.YtkmjhcidafkflaaPart09
namespace Go.Proofs.Ytkmjhcidafkflaa
open Go Go.RowKit

/-- A short list of texts in a new row. -/
theorem row_of (w : World) (ss : List ByteArray) : (w.alloc (.cells (ss.map Value.string).toArray 9)).rowIs w.heap.size 9 ss.length (fun i => .string (ss.getD i ByteArray.empty)) := by
  have h := World.rowIs_alloc w (ss.map Value.string).toArray 9 (fun i => .string (ss.getD i ByteArray.empty)) (fun i hi => by
    have hi' : i < ss.length := by simpa using hi
    simp [hi'])
  simpa using h

theorem half_even (m X : Nat) (h : m % 2 = 0) : m / 2 * (X + X) = m * X := by
  obtain ⟨q, rfl⟩ : ∃ q, m = 2 * q := ⟨m / 2, by omega⟩
  rw [show 2 * q / 2 = q from by omega, Nat.mul_add, Nat.mul_assoc]; omega
theorem half_odd (m X : Nat) (h : m % 2 = 1) : m / 2 * (X + X) + X = m * X := by
  obtain ⟨q, rfl⟩ : ∃ q, m = 2 * q + 1 := ⟨m / 2, by omega⟩
  rw [show (2 * q + 1) / 2 = q from by omega, Nat.mul_add, Nat.add_mul, Nat.mul_assoc, Nat.one_mul]; omega

set_option maxRecDepth 100000 in
set_option maxHeartbeats 800000 in
theorem l6Many_any (w : World) (s : ByteArray) (n : Nat) (hs : s.size ≤ 2) (hn : n ≤ 1000) :
    Calls Try.prog 52 #[.string s, .int .i64 (n : Int)] w fun e w' => ∃ out : ByteArray, e = .returned (.string out) ∧ out.size ≤ 2000 ∧ w' = w := by
  have h0 : n * s.size ≤ 2000 := Nat.le_trans (Nat.mul_le_mul hn hs) (by decide)
  go_enter Try.func52, Try.ntmps52
  go_wp2_with fail
  go_loopw [0, 1, 5] (fun s0 nn oo wr => ∃ (m : Nat) (x out : ByteArray), s0 = .string x ∧ nn = .int .i64 (m : Int) ∧ oo = .string out ∧ m ≤ 1000 ∧ out.size + m * x.size ≤ 2000 ∧ x.size ≤ 4000 ∧ Hid (wr = w)) (fun _ nn _ _ => (intOf nn).toNat)
  case atStart => exact ⟨n, s, ⟨#[]⟩, rfl, rfl, rfl, hn, by show 0 + _ ≤ _; omega, by omega, rfl⟩
  case round =>
    obtain ⟨m, x, out, rfl, rfl, rfl, hm, hmx, hx, HW⟩ := hrel
    by_cases hm0 : m = 0
    · have hq : decide ((0 : Int) < (m : Int)) = false := by simp; omega
      have hqn : decide (0 < m) = false := by simp; omega
      clear hm0
      go_wp2_with fail
      go_ret
      exact ⟨out, rfl, by omega, HW.out⟩
    · have hq : decide ((0 : Int) < (m : Int)) = true := by simp; omega
      have hqn : decide (0 < m) = true := by simp; omega
      have hxm : x.size ≤ m * x.size := Nat.le_mul_of_pos_left _ (by omega)
      have hl1 : ¬ (9223372036854775807 < x.size + x.size) := by omega
      have hl2 : ¬ (9223372036854775807 < out.size + x.size) := by omega
      have hsx : (x ++ x).size = x.size + x.size := ByteArray.size_append
      have hso : (out ++ x).size = out.size + x.size := ByteArray.size_append
      rcases (show (m : Int) % 2 = 0 ∨ (m : Int) % 2 = 1 by omega) with he | he
      · have hh := half_even m x.size (by omega)
        go_wp2_with fail
        go_roundw
        case rel => exact ⟨m / 2, x ++ x, out, rfl, by go_num, rfl, by omega, by rw [hsx]; omega, by rw [hsx]; omega, HW⟩
        case measure => simp [intOf]; omega
      · have hh := half_odd m x.size (by omega)
        go_wp2_with fail
        go_roundw
        case rel => exact ⟨m / 2, x ++ x, out ++ x, rfl, by go_num, rfl, by omega, by rw [hsx, hso]; omega, by rw [hsx]; omega, HW⟩
        case measure => simp [intOf]; omega

set_option maxRecDepth 100000 in
set_option maxHeartbeats 800000 in
theorem l6Many_big (w : World) (s : ByteArray) (n : Nat) (hs : s.size ≤ 2) (hn : n ≤ 10000) :
    Calls Try.prog 52 #[.string s, .int .i64 (n : Int)] w fun e w' => ∃ out : ByteArray, e = .returned (.string out) ∧ out.size ≤ 20000 ∧ w' = w := by
  have h0 : n * s.size ≤ 20000 := Nat.le_trans (Nat.mul_le_mul hn hs) (by decide)
  go_enter Try.func52, Try.ntmps52
  go_wp2_with fail
  go_loopw [0, 1, 5] (fun s0 nn oo wr => ∃ (m : Nat) (x out : ByteArray), s0 = .string x ∧ nn = .int .i64 (m : Int) ∧ oo = .string out ∧ m ≤ 10000 ∧ out.size + m * x.size ≤ 20000 ∧ x.size ≤ 40000 ∧ Hid (wr = w)) (fun _ nn _ _ => (intOf nn).toNat)
  case atStart => exact ⟨n, s, ⟨#[]⟩, rfl, rfl, rfl, hn, by show 0 + _ ≤ _; omega, by omega, rfl⟩
  case round =>
    obtain ⟨m, x, out, rfl, rfl, rfl, hm, hmx, hx, HW⟩ := hrel
    by_cases hm0 : m = 0
    · have hq : decide ((0 : Int) < (m : Int)) = false := by simp; omega
      have hqn : decide (0 < m) = false := by simp; omega
      clear hm0
      go_wp2_with fail
      go_ret
      exact ⟨out, rfl, by omega, HW.out⟩
    · have hq : decide ((0 : Int) < (m : Int)) = true := by simp; omega
      have hqn : decide (0 < m) = true := by simp; omega
      have hxm : x.size ≤ m * x.size := Nat.le_mul_of_pos_left _ (by omega)
      have hl1 : ¬ (9223372036854775807 < x.size + x.size) := by omega
      have hl2 : ¬ (9223372036854775807 < out.size + x.size) := by omega
      have hsx : (x ++ x).size = x.size + x.size := ByteArray.size_append
      have hso : (out ++ x).size = out.size + x.size := ByteArray.size_append
      rcases (show (m : Int) % 2 = 0 ∨ (m : Int) % 2 = 1 by omega) with he | he
      · have hh := half_even m x.size (by omega)
        go_wp2_with fail
        go_roundw
        case rel => exact ⟨m / 2, x ++ x, out, rfl, by go_num, rfl, by omega, by rw [hsx]; omega, by rw [hsx]; omega, HW⟩
        case measure => simp [intOf]; omega
      · have hh := half_odd m x.size (by omega)
        go_wp2_with fail
        go_roundw
        case rel => exact ⟨m / 2, x ++ x, out ++ x, rfl, by go_num, rfl, by omega, by rw [hsx, hso]; omega, by rw [hsx]; omega, HW⟩
        case measure => simp [intOf]; omega

/-- What bending a text comes to. -/
def BdEnd (R : Nat) (w w' : World) (v : Value) (b : List UInt8) (p : Nat) (e : Ending) : Prop :=
  ∃ (out : ByteArray) (p' : Nat), e = .returned (.string out) ∧ out.size ≤ 300000 ∧ p' ≤ p + 5 ∧ Hid (DR R w' v b p') ∧ Hid (But R w w')

theorem of_row (R : Nat) (w : World) (v : Value) (b : List UInt8) (p : Nat) (h : DR R w v b p) (hp : p ≤ 10000000) (ss : List ByteArray) (h1 : 1 ≤ ss.length) (h2 : ss.length ≤ 100) (hs : ∀ i, i < ss.length → (ss.getD i ByteArray.empty).size ≤ 2000) :
    Calls Try.prog 54 #[.pointer (some ⟨R, 0, none⟩), .slice (some ⟨w.heap.size, 0, none⟩) ss.length ss.length] (w.alloc (.cells (ss.map Value.string).toArray 9)) fun e w' => ∃ x : ByteArray, e = .returned (.string x) ∧ x.size ≤ 2000 ∧ Hid (DR R w' v b (p + 1)) ∧ Hid (But R w w') := by
  refine (of_any R _ v b p (h.on ((Below.refl _ _).alloc (Nat.le_refl _) _)) (by omega) w.heap.size ss.length (fun i => ss.getD i ByteArray.empty) (by omega) (row_of w ss) h.cells.lt).mono ?_
  rintro e w' ⟨r, rfl, hr, hd, hb⟩
  exact ⟨_, rfl, hs r hr, hd, (But.alloc R w _).trans hb.out⟩

end Go.Proofs.Ytkmjhcidafkflaa

/- The walk of the specification's l6Many: how long it is. For at most 10000 times two bytes. -/

namespace Go.Proofs.Ytkmjhcidafkflaa
open Go Go.RowKit

set_option maxRecDepth 100000 in
set_option maxHeartbeats 800000 in
theorem l6Many_le (w : World) (s : ByteArray) (n : Nat) (hs : s.size ≤ 2) (hn : n ≤ 10000) :
    Calls Try.prog 52 #[.string s, .int .i64 (n : Int)] w fun e w' => ∃ out : ByteArray, e = .returned (.string out) ∧ out.size ≤ n * s.size ∧ w' = w := by
  have h0 : n * s.size ≤ 20000 := Nat.le_trans (Nat.mul_le_mul hn hs) (by decide)
  generalize hB : n * s.size = B at *
  have hB' : n * s.size ≤ B := by omega
  go_enter Try.func52, Try.ntmps52
  go_wp2_with fail
  go_loopw [0, 1, 5] (fun s0 nn oo wr => ∃ (m : Nat) (x out : ByteArray), s0 = .string x ∧ nn = .int .i64 (m : Int) ∧ oo = .string out ∧ m ≤ 10000 ∧ out.size + m * x.size ≤ B ∧ x.size ≤ 40000 ∧ Hid (wr = w)) (fun _ nn _ _ => (intOf nn).toNat)
  case atStart => exact ⟨n, s, ⟨#[]⟩, rfl, rfl, rfl, hn, by show 0 + _ ≤ _; omega, by omega, rfl⟩
  case round =>
    obtain ⟨m, x, out, rfl, rfl, rfl, hm, hmx, hx, HW⟩ := hrel
    by_cases hm0 : m = 0
    · have hq : decide ((0 : Int) < (m : Int)) = false := by simp; omega
      have hqn : decide (0 < m) = false := by simp; omega
      clear hm0
      go_wp2_with fail
      go_ret
      exact ⟨out, rfl, by omega, HW.out⟩
    · have hq : decide ((0 : Int) < (m : Int)) = true := by simp; omega
      have hqn : decide (0 < m) = true := by simp; omega
      have hxm : x.size ≤ m * x.size := Nat.le_mul_of_pos_left _ (by omega)
      have hl1 : ¬ (9223372036854775807 < x.size + x.size) := by omega
      have hl2 : ¬ (9223372036854775807 < out.size + x.size) := by omega
      have hsx : (x ++ x).size = x.size + x.size := ByteArray.size_append
      have hso : (out ++ x).size = out.size + x.size := ByteArray.size_append
      rcases (show (m : Int) % 2 = 0 ∨ (m : Int) % 2 = 1 by omega) with he | he
      · have hh := half_even m x.size (by omega)
        go_wp2_with fail
        go_roundw
        case rel => exact ⟨m / 2, x ++ x, out, rfl, by go_num, rfl, by omega, by rw [hsx]; omega, by rw [hsx]; omega, HW⟩
        case measure => simp [intOf]; omega
      · have hh := half_odd m x.size (by omega)
        go_wp2_with fail
        go_roundw
        case rel => exact ⟨m / 2, x ++ x, out ++ x, rfl, by go_num, rfl, by omega, by rw [hsx, hso]; omega, by rw [hsx]; omega, HW⟩
        case measure => simp [intOf]; omega
end Go.Proofs.Ytkmjhcidafkflaa
