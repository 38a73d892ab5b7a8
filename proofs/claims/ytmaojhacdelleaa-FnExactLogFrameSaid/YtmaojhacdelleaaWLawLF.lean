/- The walk of the law on LogFrame: whatever record comes in, it answers true, and turns nothing that was there. No conditions but that a string's length is one. -/
import Derived.Test.YtmaojhacdelleaaWFrm2
import Derived.Test.YtmaojhacdelleaaWFrm3
namespace Go.Proofs.Ytmaojhacdelleaa
open Go Go.RowKit

set_option maxHeartbeats 400000 in
theorem szLogRecord_any (p : Int) (x : ByteArray) (hx : x.size ≤ 9223372036854775807) (w : World) :
    Calls Try.prog 21 #[.agg #[.int .i64 p, .string x], .int .i64 1048576] w fun e w' => (∃ r : Int, e = .returned (.int .i64 r)) ∧ Below w.heap.size w w' := by
  go_enter Try.func21, Try.ntmps21
  by_cases h : (1048576 : Int) - x.size < 0
  · go_wp2_with fail
    go_ret
    exact ⟨⟨_, rfl⟩, (Below.refl _ _).alloc (Nat.le_refl _) _⟩
  · go_wp2_with fail
    go_ret
    exact ⟨⟨_, rfl⟩, (Below.refl _ _).alloc (Nat.le_refl _) _⟩
set_option maxHeartbeats 400000 in
theorem toLogRecord_any (p : Int) (x : ByteArray) (w : World) :
    Calls Try.prog 23 #[.agg #[.int .i64 p, .string x]] w fun e w' => e = .returned (.agg #[.int .i64 p, .string x]) ∧ Below w.heap.size w w' := by
  go_enter Try.func23, Try.ntmps23
  go_wp2_with fail
  go_returns
  refine ⟨rfl, ?_⟩
  go_grown

set_option maxRecDepth 100000 in
set_option maxHeartbeats 1600000 in
theorem lawLogFrame_any (p : Int) (x : ByteArray) (hx : x.size ≤ 9223372036854775807) (w : World) :
    Calls Try.prog 5 #[.agg #[.int .i64 p, .string x]] w fun e w' => e = .returned (.bool true) ∧ Below w.heap.size w w' := by
  have HS := hide (fun W => szLogRecord_any p x hx W)
  have HT := hide (fun W => toLogRecord_any p x W)
  have HP := hide (fun W => specLogFrame_any p x hx W)
  have HI := hide (fun W => implLogFrame_any p x hx W)
  go_enter Try.func5, Try.ntmps5
  go_wp2_with fail
  refine (unhide HS _).mono ?_
  rintro e w1 ⟨⟨r, rfl⟩, hb1⟩
  have hb01 := ((Below.refl _ w).alloc (Nat.le_refl _) _).trans (hb1.mono (by simp))
  have k0 : w1.cell? ⟨w.heap.size, 0, none⟩ = some (.int .i64 p) := by rw [hb1.cell (by simp)]; go_simp
  have k1 : w1.cell? ⟨w.heap.size, 1, none⟩ = some (.string x) := by rw [hb1.cell (by simp)]; go_simp
  have HB := hide hb01
  have hz : w.heap.size < w1.heap.size := World.block_lt_of_cell? w1 _ k1
  clear hb1 hb01 HS
  by_cases h : r < 0
  · go_wp2_with fail
    go_ret
    exact ⟨rfl, unhide HB⟩
  go_wp2_with fail
  refine (unhide HT _).mono ?_
  rintro e w2 ⟨rfl, hb2⟩
  go_wp2_with fail
  refine (unhide HP _).mono ?_
  rintro e w3 ⟨rfl, hb3⟩
  have hB3 := hb2.trans (hb3.mono hb2.size)
  have k03 := (hB3.cell (p := ⟨w.heap.size, 0, none⟩) hz).trans k0
  have k13 := (hB3.cell (p := ⟨w.heap.size, 1, none⟩) hz).trans k1
  have HB3 := hide hB3
  clear hb2 hb3 hB3 k0 k1 HP
  go_wp2_with fail
  refine (unhide HT _).mono ?_
  rintro e w4 ⟨rfl, hb4⟩
  go_wp2_with fail
  refine (unhide HI _).mono ?_
  rintro e w5 ⟨rfl, hb5⟩
  have hB5 := hb4.trans (hb5.mono hb4.size)
  have HB5 := hide ((unhide HB3).trans (hB5.mono (unhide HB3).size))
  clear hb4 hb5 hB5 k03 k13 HI HB3 HT
  generalize frB p x = y at *
  go_wp2_with fail
  go_ret
  exact ⟨rfl, (unhide HB).trans ((unhide HB5).mono (Nat.le_of_lt hz))⟩
end Go.Proofs.Ytmaojhacdelleaa
