/- The walks of both sides' LogFrame. No conditions but that a string's length is one. -/
import Derived.Test.YtkmjhcidafkflaaPart14
import Derived.Deep.OwnRows
namespace Go.Proofs.Ytkmjhcidafkflaa
open Go Go.RowKit

theorem conv_five (W : World) (a b c d e : Int) (ha : 0 ≤ a ∧ a < 256) (hb' : 0 ≤ b ∧ b < 256) (hc : 0 ≤ c ∧ c < 256) (hd : 0 ≤ d ∧ d < 256) (he : 0 ≤ e ∧ e < 256) :
    Sem.run Try.prog (convert 22 9 (.slice (some ⟨W.heap.size, 0, none⟩) 5 5)) (W.alloc (.cells #[.int .u8 a, .int .u8 b, .int .u8 c, .int .u8 d, .int .u8 e] 5)) = .ok (.string ⟨#[hb a, hb b, hb c, hb d, hb e]⟩) (W.alloc (.cells #[.int .u8 a, .int .u8 b, .int .u8 c, .int .u8 d, .int .u8 e] 5)) := by
  have := run_convert_bytes_back (P := Try.prog) (W.alloc (.cells #[.int .u8 a, .int .u8 b, .int .u8 c, .int .u8 d, .int .u8 e] 5)) 22 9 5 ⟨W.heap.size, 0, none⟩ 5 [hb a, hb b, hb c, hb d, hb e] Try.underlying22 Try.underlying5 Try.underlying9 (fun j hj => by
    have hj' : j < 5 := by simpa using hj
    rw [Addr.add_lit]
    rcases (show j = 0 ∨ j = 1 ∨ j = 2 ∨ j = 3 ∨ j = 4 by omega) with rfl | rfl | rfl | rfl | rfl
    · simp only [List.getElem_cons_zero]; rw [hb_nat ha.1 ha.2]; go_simp
    · simp only [List.getElem_cons_zero, List.getElem_cons_succ]; rw [hb_nat hb'.1 hb'.2]; go_simp
    · simp only [List.getElem_cons_zero, List.getElem_cons_succ]; rw [hb_nat hc.1 hc.2]; go_simp
    · simp only [List.getElem_cons_zero, List.getElem_cons_succ]; rw [hb_nat hd.1 hd.2]; go_simp
    · simp only [List.getElem_cons_zero, List.getElem_cons_succ]; rw [hb_nat he.1 he.2]; go_simp)
  simpa using this

set_option maxRecDepth 100000 in
set_option maxHeartbeats 1600000 in
theorem specLogFrame_any (p : Int) (x : ByteArray) (hx : x.size ≤ 9223372036854775807) (w : World) : Calls Try.prog 38 #[.agg #[.int .i64 p, .string x]] w fun e w' => e = .returned (.string (frB p x)) ∧ Below w.heap.size w w' := by
  have HI := hide (fun o => l42RecordOk_any p x hx (w.alloc o))
  go_enter Try.func38, Try.ntmps38
  go_wp2_with fail
  refine (unhide HI _).mono ?_
  rintro e w1 ⟨rfl, hb1⟩
  have hb01 := ((Below.refl _ w).alloc (Nat.le_refl _) _).trans (hb1.mono (by simp))
  have k0 : w1.cell? ⟨w.heap.size, 0, none⟩ = some (.int .i64 p) := by rw [hb1.cell (by simp)]; go_simp
  have k1 : w1.cell? ⟨w.heap.size, 1, none⟩ = some (.string x) := by rw [hb1.cell (by simp)]; go_simp
  have HB := hide hb01
  clear hb1 hb01 HI
  by_cases h : frOk p x.size = true
  · rw [h]
    have hd := of_decide_eq_true h
    have HH := hide h
    have p1 : 1 ≤ p := hd.1
    have p2 : p ≤ 999999 := hd.2.1
    have n2 : (x.size : Int) ≤ 2000 := by have := hd.2.2; omega
    clear h hd
    have hcv := conv_five w1 ((x.size : Int) / 256) (x.size % 256) (p / 65536) (p / 256 % 256) (p % 256) (by omega) (by omega) (by omega) (by omega) (by omega)
    have k1' := fun o => (show (w1.alloc o).cell? ⟨w.heap.size, 1, none⟩ = some (.string x) from (((Below.refl _ w1).alloc (Nat.le_refl _) o).cell (World.block_lt_of_cell? w1 _ k1)).trans k1)
    go_wp2_with fail
    go_ret
    refine ⟨?_, (unhide HB).alloc (unhide HB).size _⟩
    unfold frB
    rw [if_pos (unhide HH)]
    exact ret_str (by rw [show (⟨#[hb (x.size / 256), hb (x.size % 256)]⟩ : ByteArray) ++ ⟨#[hb (p / 65536), hb (p / 256 % 256), hb (p % 256)]⟩ = ⟨#[hb (x.size / 256), hb (x.size % 256), hb (p / 65536), hb (p / 256 % 256), hb (p % 256)]⟩ from by apply ByteArray.ext; simp])
  · have h' : frOk p x.size = false := by simpa using h
    have HH := hide h'
    rw [h']
    clear h h'
    go_wp2_with fail
    go_ret
    exact ⟨by unfold frB; rw [unhide HH]; rfl, unhide HB⟩
end Go.Proofs.Ytkmjhcidafkflaa
