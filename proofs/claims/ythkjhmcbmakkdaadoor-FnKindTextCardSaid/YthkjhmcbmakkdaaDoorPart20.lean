/- The walks of the program's reader of texts, further: end (with a fault), more, run. For texts of at most 2^20 bytes. -/
import Derived.Test.YthkjhmcbmakkdaaDoorPart19
namespace Go.Proofs.YthkjhmcbmakkdaaDoor
open Go Go.RowKit

set_option maxHeartbeats 800000 in
theorem end_no (w : World) (R : Nat) (s : ByteArray) (a : Nat) (h : PRdr w R s a) (ha : a < s.size) :
    Calls Tryd.prog 55 #[.pointer (some ⟨R, 0, none⟩)] w fun e w' => e = fltE ∧ ∃ m, w' = w.drewN m := by
  obtain ⟨c0, c1, f1⟩ := h.cells
  have hne : ¬ ((a : Int) = (s.size : Int)) := by omega
  have hd : decide ((a : Int) = (s.size : Int)) = false := by simp; omega
  have hb : ((a : Int) == (s.size : Int)) = false := by simp; omega
  clear h
  go_enter Tryd.func55, Tryd.ntmps55
  go_region_law (rw [if_pos (by first | rfl | simp [Region.wanted])]; go_simp; refine (treeWant_no _).mono ?_; rintro e w2 ⟨rfl, rfl⟩; refine dead_end (by assumption) { tmps := #[], defers := [] } w (And.intro rfl (And.intro rfl ⟨1, rfl⟩)) (fun HF => ?_))
  all_goals exact (unhide HF).elim

set_option maxHeartbeats 400000 in
theorem more_end (w : World) (R : Nat) (s : ByteArray) (a n : Nat) (hs : s.size ≤ 1048576) (h : PRdr w R s a) (ha : a ≤ s.size) (hp : pre (w1 125) s a = true) :
    Calls Tryd.prog 85 #[.pointer (some ⟨R, 0, none⟩), .string (w1 125), .int .i64 n] w fun e w' => e = .returned (.bool false) ∧ PRdr w' R s (a + 1) ∧ But R w w' := by
  have HS := hide (skip_yes w R s (w1 125) a hs h ha (by decide) (by decide) hp)
  clear h hp
  go_enter Tryd.func85, Tryd.ntmps85
  go_wp2_with (go_at_call 72; refine (unhide HS).mono ?_; rintro e w1 ⟨rfl, hr, hb⟩)
  go_ret
  exact ⟨rfl, hr, hb⟩

set_option maxHeartbeats 400000 in
theorem more_first (w : World) (R : Nat) (s : ByteArray) (a : Nat) (h : PRdr w R s a) (ha : a ≤ s.size) (hp : pre (w1 125) s a = false) :
    Calls Tryd.prog 85 #[.pointer (some ⟨R, 0, none⟩), .string (w1 125), .int .i64 0] w fun e w' => e = .returned (.bool true) ∧ PRdr w' R s a ∧ But R w w' := by
  have HS := hide (skip_no w R s (w1 125) a h ha hp)
  have H := hide h
  clear h hp
  go_enter Tryd.func85, Tryd.ntmps85
  go_wp2_with (go_at_call 72; refine (unhide HS).mono ?_; rintro e w1 ⟨rfl, m, rfl⟩)
  go_ret
  exact ⟨rfl, H.out.drewN m, but_drewN (But.refl _ _) m⟩

set_option maxHeartbeats 400000 in
theorem more_comma (w : World) (R : Nat) (s : ByteArray) (a n : Nat) (hn : 0 < n) (hs : s.size ≤ 1048576) (h : PRdr w R s a) (ha : a ≤ s.size) (hp : pre (w1 125) s a = false) (hp2 : pre (w1 44) s a = true) :
    Calls Tryd.prog 85 #[.pointer (some ⟨R, 0, none⟩), .string (w1 125), .int .i64 n] w fun e w' => e = .returned (.bool true) ∧ PRdr w' R s (a + 1) ∧ But R w w' := by
  have HS := hide (skip_no w R s (w1 125) a h ha hp)
  have HT := hide (fun m => take_yes (w.drewN m) R s (w1 44) a hs (h.drewN m) ha (by decide) (by decide) hp2)
  have hz : decide ((0 : Int) < (n : Int)) = true := by simp; omega
  clear h hp hp2
  go_enter Tryd.func85, Tryd.ntmps85
  go_wp2_with (first
    | (go_at_call 72; refine (unhide HS).mono ?_; rintro e w1 ⟨rfl, m, rfl⟩)
    | (go_at_call 73; refine (unhide HT _).mono ?_; rintro e w2 ⟨rfl, hr, hb⟩))
  go_ret
  exact ⟨rfl, hr, (but_drewN (But.refl _ _) m).trans hb⟩

set_option maxHeartbeats 400000 in
theorem more_none (w : World) (R : Nat) (s : ByteArray) (a n : Nat) (hn : 0 < n) (h : PRdr w R s a) (ha : a ≤ s.size) (hp : pre (w1 125) s a = false) (hp2 : pre (w1 44) s a = false) :
    Calls Tryd.prog 85 #[.pointer (some ⟨R, 0, none⟩), .string (w1 125), .int .i64 n] w fun e w' => e = fltE ∧ ∃ m, w' = w.drewN m := by
  have HS := hide (skip_no w R s (w1 125) a h ha hp)
  have HT := hide (fun m => take_no (w.drewN m) R s (w1 44) a (h.drewN m) ha hp2)
  have hz : decide ((0 : Int) < (n : Int)) = true := by simp; omega
  clear h hp hp2
  go_enter Tryd.func85, Tryd.ntmps85
  go_wp2_with (first
    | (go_at_call 72; refine (unhide HS).mono ?_; rintro e w1 ⟨rfl, m, rfl⟩)
    | (go_at_call 73; refine (unhide HT _).mono ?_; rintro e w2 ⟨rfl, m2, rfl⟩))
  exact ⟨rfl, rfl, _, rfl⟩

/-- The place of a reader, off its block. -/
def patOf (w : World) (R : Nat) : Nat := (intOf ((w.cell? ⟨R, 1, none⟩).getD undef)).toNat
theorem PRdr.atOf {w : World} {R : Nat} {s : ByteArray} {a : Nat} (h : PRdr w R s a) : patOf w R = a := by
  unfold patOf; rw [h.cells.2.1]; simp [intOf]

set_option maxRecDepth 100000 in
set_option maxHeartbeats 1600000 in
theorem run_any (w : World) (R : Nat) (s : ByteArray) (a : Nat) (hs : s.size ≤ 1048576) (h : PRdr w R s a) (ha : a ≤ s.size) :
    Calls Tryd.prog 86 #[.pointer (some ⟨R, 0, none⟩), .func (.func 83) #[] #[]] w fun e w' => e = .returned (.string ⟨((lf s a).takeWhile nameByte).toArray⟩) ∧ PRdr w' R s (a + rn nameByte s a) ∧ But R w w' := by
  have H := hide h
  obtain ⟨c0, c1, f1⟩ := h.cells
  rw [← rn_take]
  have hle := rn_le nameByte s a ha
  generalize hr : rn nameByte s a = r at *
  have HR := hide hr
  have hi0 : (0 : Int) ≤ (a : Int) := by omega
  have hi1 : (a : Int) ≤ (a : Int) + (r : Int) := by omega
  have hi2 : (a : Int) + (r : Int) ≤ (s.size : Int) := by omega
  clear h hr
  go_enter Tryd.func86, Tryd.ntmps86
  go_wp2_with fail
  go_loopw [] (fun wr => ∃ (j : Nat), a ≤ j ∧ j ≤ s.size ∧ Hid (j + rn nameByte s j = a + r) ∧ Hid (PRdr wr R s j) ∧ But R w wr) (fun wr => s.size - patOf wr R)
  case atStart => exact ⟨a, Nat.le_refl _, ha, hide (by show _ = _; rw [HR.out]), H, But.refl _ _⟩
  case round =>
    obtain ⟨j, hj0, hj1, HJ, HRj, hb⟩ := hrel
    obtain ⟨y0, y1, g1⟩ := HRj.out.cells
    have hat := HRj.out.atOf
    by_cases hlt : j < s.size
    · have HNB := hide (isNameByte_any s[j])
      have hdl : decide ((j : Int) < (s.size : Int)) = true := by simp; omega
      have hj2 : (0 : Int) ≤ (j : Int) := by omega
      have hj3 : (j : Int) < (s.size : Int) := by omega
      cases hnb : nameByte s[j]
      · have he : j = a + r := by
          have := HJ.out
          have := rn_stop (p := nameByte) hlt hnb
          omega
        rw [hnb] at HNB
        have HE := hide he
        clear HR H he
        go_wp2_with fail
        go_quiet ((go_at_call 83; exact Calls.quiet_of_same (unhide HNB _)))
        have hk1 : (a : Int) ≤ (j : Int) := by omega
        have hk2 : (j : Int) ≤ (s.size : Int) := by omega
        go_wp2_with fail
        go_quiet (fail)
        go_wp2_with fail
        go_ret
        refine ⟨?_, ?_, but_drewN (but_drewN hb _) _⟩
        · rw [← unhide HE]; rfl
        · rw [← unhide HE]; exact HRj.out.heap rfl
      · have hjn : j + 1 + rn nameByte s (j + 1) = a + r := by
          have := HJ.out
          have := rn_step (p := nameByte) hlt hnb
          omega
        rw [hnb] at HNB
        have HJN := hide hjn
        clear HR H hjn
        go_wp2_with fail
        go_quiet ((go_at_call 83; exact Calls.quiet_of_same (unhide HNB _)))
        go_wp2_with fail
        go_roundw
        case rel => exact ⟨j + 1, by omega, by omega, HJN, hide ((HRj.out.heap rfl).set1 _), (but_drewN hb _).trans (But.set _ _ _)⟩
        case measure =>
          rw [hat]
          have e5 := ((HRj.out.drewN nq).set1 (j + 1)).atOf
          exact Nat.lt_of_le_of_lt (Nat.le_of_eq (congrArg (s.size - ·) e5)) (by omega)
    · have hdl : decide ((j : Int) < (s.size : Int)) = false := by simp; omega
      have he : j = a + r := by
        have := HJ.out
        have := rn_end (p := nameByte) (s := s) (i := j) (by omega)
        omega
      have HE := hide he
      clear HR H he
      have hk1 : (a : Int) ≤ (j : Int) := by omega
      have hk2 : (j : Int) ≤ (s.size : Int) := by omega
      go_wp2_with fail
      go_quiet (fail)
      go_wp2_with fail
      go_quiet (fail)
      go_wp2_with fail
      go_ret
      refine ⟨?_, ?_, but_drewN (but_drewN hb _) _⟩
      · rw [← unhide HE]; rfl
      · rw [← unhide HE]; exact HRj.out.heap rfl
end Go.Proofs.YthkjhmcbmakkdaaDoor
