/- The walk of the program's bytesOf, LogFrame. No conditions but that a string's length is one. -/
import Derived.Test.YtkmjhcidafkflaaPart14
import Derived.Deep.OwnRows
import Derived.Handy
namespace Go.Proofs.Ytkmjhcidafkflaa
open Go Go.RowKit

theorem bytes2 (w : World) : Calls Try.prog 73 #[.agg #[]] w fun e w' => e = .returned (.int .i64 2) ∧ Below w.heap.size w w' := by
  go_enter Try.func73, Try.ntmps73
  go_wp2_with fail
  go_ret
  exact ⟨rfl, (Below.refl _ _).alloc (Nat.le_refl _) _⟩

theorem bytes3 (w : World) : Calls Try.prog 74 #[.agg #[]] w fun e w' => e = .returned (.int .i64 3) ∧ Below w.heap.size w w' := by
  go_enter Try.func74, Try.ntmps74
  go_wp2_with fail
  go_ret
  exact ⟨rfl, (Below.refl _ _).alloc (Nat.le_refl _) _⟩


theorem wrapU (x : Int) : IntKind.u8.wrap x = x % 256 := by rw [IntKind.wrap_u8]
/-- So many bytes. -/
def rwB (l : List Int) (k : Nat) : Value := .int .u8 (l.getD k 0)
theorem conv_row (W : World) (b : Nat) (l : List Int) (hl : ∀ x, x ∈ l → 0 ≤ x ∧ x < 256) (h : W.rowIs b 5 l.length (rwB l)) :
    Sem.run Try.prog (convert 22 9 (.slice (some ⟨b, 0, none⟩) l.length l.length)) W = .ok (.string ⟨(l.map hb).toArray⟩) W := by
  have := run_convert_bytes_back (P := Try.prog) W 22 9 5 ⟨b, 0, none⟩ l.length (l.map hb) Try.underlying22 Try.underlying5 Try.underlying9 (fun j hj => by
    have hj' : j < l.length := by simpa using hj
    have hx := hl l[j] (List.getElem_mem hj')
    rw [Addr.add_lit, Nat.zero_add, h.cell hj']
    unfold rwB
    rw [List.getElem_map, hb_nat hx.1 hx.2, List.getD_eq_getElem?_getD, List.getElem?_eq_getElem hj']
    rfl)
  simpa using this

set_option maxRecDepth 100000 in
set_option maxHeartbeats 1600000 in
theorem bytesOf2_any (n : Int) (h0 : 0 ≤ n) (h1 : n < 65536) (w : World) : Calls Try.prog 22 #[.int .i64 n] w fun e w' => e = .returned (.string ⟨#[hb (n / 256), hb (n % 256)]⟩) ∧ Below w.heap.size w w' := by
  have hmk : ∀ W : World, Sem.run Try.prog (Instr.makeSlice 22 (.int .i64 2) (.int .i64 2)) W = .ok (.slice (some ⟨W.heap.size, 0, none⟩) 2 2) (W.alloc (.cells (madeCells #[.int .u8 0] 2) 5)) := run_make_row' (P := Try.prog) 22 5 (.int .u8 0) 1 Try.underlying22 (by kernel_rfl) rfl .i64 .i64 2 (by omega) (by omega)
  go_enter Try.func22, Try.ntmps22
  go_wp2_with fail
  refine (bytes2 _).mono ?_
  rintro e w1 ⟨rfl, hb1⟩
  have hb01 := ((Below.refl _ w).alloc (Nat.le_refl _) _).trans (hb1.mono (by simp))
  have HB := hide hb01
  have hz := hb01.size
  clear hb1 hb01
  go_wp2_with fail
  clear hmk
  go_loopw [0, 5] (fun q i wr => Below w1.heap.size w1 wr ∧ ((q = .int .i64 (n) ∧ i = .int .i64 (1) ∧ Hid (wr.rowIs w1.heap.size 5 2 (rwB [0, 0]))) ∨ (q = .int .i64 (n / 256) ∧ i = .int .i64 (0) ∧ Hid (wr.rowIs w1.heap.size 5 2 (rwB [0, (n) % 256]))) ∨ (q = .int .i64 (n / 256 / 256) ∧ i = .int .i64 (-1) ∧ Hid (wr.rowIs w1.heap.size 5 2 (rwB [(n / 256) % 256, (n) % 256]))))) (fun _ i _ => (intOf i + 1).toNat)
  case atStart => exact ⟨(Below.refl _ _).alloc (Nat.le_refl _) _, Or.inl ⟨rfl, rfl, hide ((World.rowIs_made w1 (.int .u8 0) 2 _).congr (fun k hk => by rcases (show k = 0 ∨ k = 1 by omega) with rfl | rfl <;> rfl))⟩⟩
  case round =>
    obtain ⟨hb, hrel⟩ := hrel
    rcases hrel with ⟨rfl, rfl, HR⟩ | ⟨rfl, rfl, HR⟩ | ⟨rfl, rfl, HR⟩
    · have hf := HR.out.frozen 1
      have hcc := HR.out.cell (i := 1) (by omega)
      go_wp2_with fail
      go_roundw
      case rel =>
        refine ⟨hb.setCell (Nat.le_refl _) _, Or.inr (Or.inl ?_)⟩
        refine ⟨by first | rfl | (go_num), by first | rfl | (go_num), hide ((HR.out.set 1 _).congr (fun k hk => ?_))⟩
        rcases (show k = 0 ∨ k = 1 by omega) with rfl | rfl <;> first | rfl | (unfold rwB; simp; done) | (unfold rwB; simp; omega)
      case measure => simp [intOf]
    · have hf := HR.out.frozen 0
      have hcc := HR.out.cell (i := 0) (by omega)
      go_wp2_with fail
      go_roundw
      case rel =>
        refine ⟨hb.setCell (Nat.le_refl _) _, Or.inr (Or.inr ?_)⟩
        refine ⟨by first | rfl | (go_num), by first | rfl | (go_num), hide ((HR.out.set 0 _).congr (fun k hk => ?_))⟩
        rcases (show k = 0 ∨ k = 1 by omega) with rfl | rfl <;> first | rfl | (unfold rwB; simp; done) | (unfold rwB; simp; omega)
      case measure => simp [intOf]
    · have hcv := conv_row wr w1.heap.size [(n / 256) % 256, (n) % 256] (by intro x hx; simp only [List.mem_cons, List.not_mem_nil, or_false] at hx; rcases hx with rfl | rfl <;> omega) HR.out
      simp only [List.length_cons, List.length_nil, Nat.zero_add, Nat.reduceAdd] at hcv
      go_wp2_with fail
      go_ret
      refine ⟨?_, (unhide HB).trans (hb.mono hz)⟩
      exact ret_str (by rw [show n / 256 % 256 = n / 256 by omega])

set_option maxRecDepth 100000 in
set_option maxHeartbeats 1600000 in
theorem bytesOf3_any (n : Int) (h0 : 0 ≤ n) (h1 : n < 16777216) (w : World) : Calls Try.prog 23 #[.int .i64 n] w fun e w' => e = .returned (.string ⟨#[hb (n / 65536), hb (n / 256 % 256), hb (n % 256)]⟩) ∧ Below w.heap.size w w' := by
  have hmk : ∀ W : World, Sem.run Try.prog (Instr.makeSlice 22 (.int .i64 3) (.int .i64 3)) W = .ok (.slice (some ⟨W.heap.size, 0, none⟩) 3 3) (W.alloc (.cells (madeCells #[.int .u8 0] 3) 5)) := run_make_row' (P := Try.prog) 22 5 (.int .u8 0) 1 Try.underlying22 (by kernel_rfl) rfl .i64 .i64 3 (by omega) (by omega)
  go_enter Try.func23, Try.ntmps23
  go_wp2_with fail
  refine (bytes3 _).mono ?_
  rintro e w1 ⟨rfl, hb1⟩
  have hb01 := ((Below.refl _ w).alloc (Nat.le_refl _) _).trans (hb1.mono (by simp))
  have HB := hide hb01
  have hz := hb01.size
  clear hb1 hb01
  go_wp2_with fail
  clear hmk
  go_loopw [0, 5] (fun q i wr => Below w1.heap.size w1 wr ∧ ((q = .int .i64 (n) ∧ i = .int .i64 (2) ∧ Hid (wr.rowIs w1.heap.size 5 3 (rwB [0, 0, 0]))) ∨ (q = .int .i64 (n / 256) ∧ i = .int .i64 (1) ∧ Hid (wr.rowIs w1.heap.size 5 3 (rwB [0, 0, (n) % 256]))) ∨ (q = .int .i64 (n / 256 / 256) ∧ i = .int .i64 (0) ∧ Hid (wr.rowIs w1.heap.size 5 3 (rwB [0, (n / 256) % 256, (n) % 256]))) ∨ (q = .int .i64 (n / 256 / 256 / 256) ∧ i = .int .i64 (-1) ∧ Hid (wr.rowIs w1.heap.size 5 3 (rwB [(n / 256 / 256) % 256, (n / 256) % 256, (n) % 256]))))) (fun _ i _ => (intOf i + 1).toNat)
  case atStart => exact ⟨(Below.refl _ _).alloc (Nat.le_refl _) _, Or.inl ⟨rfl, rfl, hide ((World.rowIs_made w1 (.int .u8 0) 3 _).congr (fun k hk => by rcases (show k = 0 ∨ k = 1 ∨ k = 2 by omega) with rfl | rfl | rfl <;> rfl))⟩⟩
  case round =>
    obtain ⟨hb, hrel⟩ := hrel
    rcases hrel with ⟨rfl, rfl, HR⟩ | ⟨rfl, rfl, HR⟩ | ⟨rfl, rfl, HR⟩ | ⟨rfl, rfl, HR⟩
    · have hf := HR.out.frozen 2
      have hcc := HR.out.cell (i := 2) (by omega)
      go_wp2_with fail
      go_roundw
      case rel =>
        refine ⟨hb.setCell (Nat.le_refl _) _, Or.inr (Or.inl ?_)⟩
        refine ⟨by first | rfl | (go_num), by first | rfl | (go_num), hide ((HR.out.set 2 _).congr (fun k hk => ?_))⟩
        rcases (show k = 0 ∨ k = 1 ∨ k = 2 by omega) with rfl | rfl | rfl <;> first | rfl | (unfold rwB; simp; done) | (unfold rwB; simp; omega)
      case measure => simp [intOf]
    · have hf := HR.out.frozen 1
      have hcc := HR.out.cell (i := 1) (by omega)
      go_wp2_with fail
      go_roundw
      case rel =>
        refine ⟨hb.setCell (Nat.le_refl _) _, Or.inr (Or.inr (Or.inl ?_))⟩
        refine ⟨by first | rfl | (go_num), by first | rfl | (go_num), hide ((HR.out.set 1 _).congr (fun k hk => ?_))⟩
        rcases (show k = 0 ∨ k = 1 ∨ k = 2 by omega) with rfl | rfl | rfl <;> first | rfl | (unfold rwB; simp; done) | (unfold rwB; simp; omega)
      case measure => simp [intOf]
    · have hf := HR.out.frozen 0
      have hcc := HR.out.cell (i := 0) (by omega)
      go_wp2_with fail
      go_roundw
      case rel =>
        refine ⟨hb.setCell (Nat.le_refl _) _, Or.inr (Or.inr (Or.inr ?_))⟩
        refine ⟨by first | rfl | (go_num), by first | rfl | (go_num), hide ((HR.out.set 0 _).congr (fun k hk => ?_))⟩
        rcases (show k = 0 ∨ k = 1 ∨ k = 2 by omega) with rfl | rfl | rfl <;> first | rfl | (unfold rwB; simp; done) | (unfold rwB; simp; omega)
      case measure => simp [intOf]
    · have hcv := conv_row wr w1.heap.size [(n / 256 / 256) % 256, (n / 256) % 256, (n) % 256] (by intro x hx; simp only [List.mem_cons, List.not_mem_nil, or_false] at hx; rcases hx with rfl | rfl | rfl <;> omega) HR.out
      simp only [List.length_cons, List.length_nil, Nat.zero_add, Nat.reduceAdd] at hcv
      go_wp2_with fail
      go_ret
      refine ⟨?_, (unhide HB).trans (hb.mono hz)⟩
      exact ret_str (by rw [show n / 256 / 256 % 256 = n / 65536 by omega])

set_option maxRecDepth 100000 in
set_option maxHeartbeats 3200000 in
theorem implLogFrame_any (p : Int) (x : ByteArray) (hx : x.size ≤ 9223372036854775807) (w : World) : Calls Try.prog 7 #[.agg #[.int .i64 p, .string x]] w fun e w' => e = .returned (.string (frB p x)) ∧ Below w.heap.size w w' := by
  have HI := hide (fun o => recordFits_any p x.size (w.alloc o))
  go_enter Try.func7, Try.ntmps7
  go_wp2_with fail
  refine (unhide HI _).mono ?_
  rintro e w1 ⟨rfl, hb1⟩
  have hb01 := ((Below.refl _ w).alloc (Nat.le_refl _) _).trans (hb1.mono (by simp))
  have k0 : w1.cell? ⟨w.heap.size, 0, none⟩ = some (.int .i64 p) := by rw [hb1.cell (by simp)]; go_simp
  have k1 : w1.cell? ⟨w.heap.size, 1, none⟩ = some (.string x) := by rw [hb1.cell (by simp)]; go_simp
  have HB := hide hb01
  have hz : w.heap.size < w1.heap.size := World.block_lt_of_cell? w1 _ k1
  clear hb1 hb01 HI
  by_cases h : frOk p x.size = true
  · rw [h]
    have hd := of_decide_eq_true h
    have HH := hide h
    have p1 : 1 ≤ p := hd.1
    have p2 : p ≤ 999999 := hd.2.1
    have n2 : (x.size : Int) ≤ 2000 := by have := hd.2.2; omega
    clear h hd
    have H2 := hide (fun W => bytesOf2_any x.size (by omega) (by omega) W)
    have H3 := hide (fun W => bytesOf3_any p (by omega) (by omega) W)
    go_wp2_with fail
    go_region_with (first
      | (go_at_call 22
         refine (unhide H2 _).mono ?_
         rintro e w2 ⟨rfl, hb2⟩
         have hB2 : Below w1.heap.size w1 w2 := by
           first
           | exact (Below.refl _ w1).drew.trans hb2
           | exact hB3.trans (hb2.mono hB3.size)
         have k02 := (hB2.cell (p := ⟨w.heap.size, 0, none⟩) hz).trans k0
         have k12 := (hB2.cell (p := ⟨w.heap.size, 1, none⟩) hz).trans k1
         clear hb2)
      | (go_at_call 23
         refine (unhide H3 _).mono ?_
         rintro e w3 ⟨rfl, hb3⟩
         have hB3 : Below w1.heap.size w1 w3 := by
           first
           | exact (Below.refl _ w1).drew.trans hb3
           | exact hB2.trans (hb3.mono hB2.size)
         have k03 := (hB3.cell (p := ⟨w.heap.size, 0, none⟩) hz).trans k0
         have k13 := (hB3.cell (p := ⟨w.heap.size, 1, none⟩) hz).trans k1
         clear hb3))
    all_goals
      go_wp2_with fail
      go_ret
      refine ⟨?_, by first | exact (unhide HB).trans (hB3.mono (Nat.le_of_lt hz)) | exact (unhide HB).trans (hB2.mono (Nat.le_of_lt hz))⟩
      unfold frB
      rw [if_pos (unhide HH)]
      rfl
  · have h' : frOk p x.size = false := by simpa using h
    have HH := hide h'
    rw [h']
    clear h h'
    go_wp2_with fail
    go_ret
    exact ⟨by unfold frB; rw [unhide HH]; rfl, unhide HB⟩
end Go.Proofs.Ytkmjhcidafkflaa
