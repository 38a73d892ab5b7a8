/- The walks of the specification's reader, the small ones: look, eat, name, text, num. For texts of at most 2^20 bytes. -/
import Derived.Test.YtfjiannabnonjaaDoorRows
import Derived.Test.YtfjiannabnonjaaDoorMath
import Derived.Test.YtfjiannabnonjaaDoorKData
import Derived.Test.YtfjiannabnonjaaDoorRow
import Derived.Deep.RegionWith
import Derived.Deep.QuietTactic
import Derived.BigQuiet
namespace Go.Proofs.YtfjiannabnonjaaDoor
open Go Go.RowKit

/-- A reader of the specification lies in block R. -/
def Rdr (w : World) (R : Nat) (s : ByteArray) (at' : Nat) (bad : Bool) : Prop := w.rowIs R 79 3 (row3 (.string s) (.int .i64 at') (.bool bad))

theorem Rdr.cells {w : World} {R : Nat} {s : ByteArray} {at' : Nat} {bad : Bool} (h : Rdr w R s at' bad) :
    w.cell? ⟨R, 0, none⟩ = some (.string s) ∧ w.cell? ⟨R, 1, none⟩ = some (.int .i64 at') ∧ w.cell? ⟨R, 2, none⟩ = some (.bool bad) ∧ w.frozen? ⟨R, 1, none⟩ = false ∧ w.frozen? ⟨R, 2, none⟩ = false :=
  ⟨World.rowIs.cell h (by omega), World.rowIs.cell h (by omega), World.rowIs.cell h (by omega), World.rowIs.frozen h 1, World.rowIs.frozen h 2⟩
theorem Rdr.lt {w : World} {R : Nat} {s : ByteArray} {at' : Nat} {bad : Bool} (h : Rdr w R s at' bad) : R < w.heap.size := World.rowIs.lt h
theorem Rdr.below {w w' : World} {R : Nat} {s : ByteArray} {at' : Nat} {bad : Bool} (h : Rdr w R s at' bad) (hb : Below w.heap.size w w') : Rdr w' R s at' bad := World.rowIs.of_block h (hb.block R h.lt)
theorem Rdr.set1 {w : World} {R : Nat} {s : ByteArray} {at' : Nat} {bad : Bool} (h : Rdr w R s at' bad) (a : Nat) : Rdr (w.setCell ⟨R, 1, none⟩ (.int .i64 a)) R s a bad :=
  (World.rowIs.set h 1 _).congr fun i hi => by
    match i, hi with
    | 0, _ => rfl
    | 1, _ => rfl
    | 2, _ => rfl
theorem Rdr.set2 {w : World} {R : Nat} {s : ByteArray} {at' : Nat} {bad : Bool} (h : Rdr w R s at' bad) (b : Bool) : Rdr (w.setCell ⟨R, 2, none⟩ (.bool b)) R s at' b :=
  (World.rowIs.set h 2 _).congr fun i hi => by
    match i, hi with
    | 0, _ => rfl
    | 1, _ => rfl
    | 2, _ => rfl
theorem Rdr.drew {w : World} {R : Nat} {s : ByteArray} {at' : Nat} {bad : Bool} (h : Rdr w R s at' bad) : Rdr w.drew R s at' bad := h

/-- The byte at a place, 0 behind the end. -/
def bv (s : ByteArray) (i : Nat) : Nat := if h : i < s.size then s[i].toNat else 0

/-- What is still to be read. -/
def lf (s : ByteArray) (i : Nat) : List UInt8 := s.data.toList.drop i

theorem lf_cons {s : ByteArray} {i : Nat} (h : i < s.size) : lf s i = s[i] :: lf s (i + 1) := by
  unfold lf
  rw [List.drop_eq_getElem_cons (by simpa using h)]
  rfl
theorem lf_nil {s : ByteArray} {i : Nat} (h : s.size ≤ i) : lf s i = [] := by
  unfold lf; exact List.drop_eq_nil_of_le (by simpa using h)
theorem lf_len (s : ByteArray) (i : Nat) : (lf s i).length = s.size - i := by unfold lf; rw [List.length_drop]; rfl
theorem bv_head (s : ByteArray) (i : Nat) : ∀ c : UInt8, c ≠ 0 → ((lf s i).head? = some c ↔ bv s i = c.toNat) := by
  intro c hc
  unfold bv
  by_cases h : i < s.size
  · rw [lf_cons h, dif_pos h]
    simp only [List.head?_cons, Option.some.injEq]
    constructor
    · intro e; rw [e]
    · intro e; exact UInt8.toNat_inj.1 e
  · rw [lf_nil (by omega), dif_neg h]
    constructor
    · intro e; simp at e
    · intro e; exfalso; exact hc (UInt8.toNat_inj.1 e.symm)

theorem Rdr.drewN {w : World} {R : Nat} {s : ByteArray} {at' : Nat} {bad : Bool} (h : Rdr w R s at' bad) (n : Nat) : Rdr (w.drewN n) R s at' bad := h

set_option maxHeartbeats 400000 in
theorem look_any (w : World) (R : Nat) (s : ByteArray) (at' : Nat) (bad : Bool) (h : Rdr w R s at' bad) :
    Calls Tryd.prog 72 #[.pointer (some ⟨R, 0, none⟩)] w fun e w' => e = .returned (.int .u8 (bv s at')) ∧ ∃ m, w' = w.drewN m := by
  obtain ⟨c0, c1, c2, f1, f2⟩ := h.cells
  clear h
  by_cases hlt : at' < s.size
  · have hbv : bv s at' = s[at'].toNat := by unfold bv; rw [dif_pos hlt]
    rw [hbv]
    clear hbv
    go_enter Tryd.func72, Tryd.ntmps72
    go_wp2_with fail
    go_quiet (fail)
    go_wp2_with fail
    go_quiet (fail)
    go_wp2_with fail
    go_ret
    exact ⟨rfl, _, by rw [World.drewN_drewN]⟩
  · have hbv : bv s at' = 0 := by unfold bv; rw [dif_neg hlt]
    rw [hbv]
    clear hbv
    go_enter Tryd.func72, Tryd.ntmps72
    go_wp2_with fail
    go_quiet (fail)
    go_wp2_with fail
    go_ret
    exact ⟨rfl, _, rfl⟩

theorem toList_loop (s : ByteArray) (n : Nat) : ∀ (i : Nat) (r : List UInt8), s.size - i = n → ByteArray.toList.loop s i r = r.reverse ++ s.data.toList.drop i := by
  induction n with
  | zero =>
    intro i r h
    unfold ByteArray.toList.loop
    rw [if_neg (by omega), List.drop_eq_nil_of_le (by simp only [Array.length_toList]; show s.size ≤ i; omega), List.append_nil]
  | succ n ih =>
    intro i r h
    unfold ByteArray.toList.loop
    have hi : i < s.size := by omega
    have e : s.get! i = s.data.toList[i]'(by simpa using hi) := by
      obtain ⟨d⟩ := s
      exact getElem!_pos d i hi
    have hdrop : s.data.toList.drop i = s.data.toList[i]'(by simpa using hi) :: s.data.toList.drop (i + 1) := List.drop_eq_getElem_cons (by simpa using hi)
    rw [if_pos hi, ih (i + 1) _ (by omega), hdrop, e, List.reverse_cons, List.append_assoc]
    rfl
theorem toList_data (s : ByteArray) : s.toList = s.data.toList := by
  have := toList_loop s s.size 0 [] (by omega)
  rw [List.drop_zero] at this
  exact this
theorem toList_beq (a b : ByteArray) : (a.toList == b.toList) = decide (a = b) := by
  rw [toList_data, toList_data, Bool.eq_iff_iff]
  simp only [beq_iff_eq, decide_eq_true_eq]
  constructor
  · intro h; exact ByteArray.ext (Array.toList_inj.1 h)
  · intro h; rw [h]

/-- A word stands at a place. -/
def pre (wd : ByteArray) (s : ByteArray) (i : Nat) : Bool := wd.data.toList.isPrefixOf (lf s i)

theorem pre_iff {wd s : ByteArray} {i : Nat} (h0 : 0 < wd.size) : pre wd s i = true ↔ (i + wd.size ≤ s.size ∧ s.extract i (i + wd.size) = wd) := by
  unfold pre
  rw [List.isPrefixOf_iff_prefix, List.prefix_iff_eq_take]
  have hl : wd.data.toList.length = wd.size := rfl
  have he : (s.extract i (i + wd.size)).data.toList = (lf s i).take wd.size := by
    unfold lf
    simp [List.take_drop]
  rw [hl]
  constructor
  · intro h
    have h2 := congrArg List.length h
    rw [List.length_take, lf_len, hl] at h2
    refine ⟨by omega, ?_⟩
    apply ByteArray.ext
    apply Array.toList_inj.1
    rw [he, ← h]
  · rintro ⟨h1, h2⟩
    rw [← he, h2]

theorem lf_after {wd s : ByteArray} {i : Nat} : lf s (i + wd.size) = (lf s i).drop wd.size := by
  unfold lf; rw [List.drop_drop]

theorem but_drewN {B : Nat} {w w' : World} (h : But B w w') (n : Nat) : But B w (w'.drewN n) := ⟨h.os, h.tape, h.output, h.size, h.block⟩

set_option maxHeartbeats 800000 in
theorem eat_yes (w : World) (R : Nat) (s wd : ByteArray) (at' : Nat) (bad : Bool) (hs : s.size ≤ 1048576) (h : Rdr w R s at' bad) (ha : at' ≤ 2097152) (hw0 : 0 < wd.size) (hw : wd.size ≤ 16) (hp : pre wd s at' = true) :
    Calls Tryd.prog 73 #[.pointer (some ⟨R, 0, none⟩), .string wd] w fun e w' => e = .returned (.tuple #[]) ∧ Rdr w' R s (at' + wd.size) bad ∧ But R w w' := by
  obtain ⟨c0, c1, c2, f1, f2⟩ := h.cells
  obtain ⟨h1, h2⟩ := (pre_iff hw0).1 hp
  have H := hide h
  have hd : decide ((s.size : Int) < (at' : Int) + (wd.size : Int)) = false := by simp; omega
  have hi0 : (0 : Int) ≤ (at' : Int) := by omega
  have hi1 : (at' : Int) ≤ (at' : Int) + (wd.size : Int) := by omega
  have hi2 : (at' : Int) + (wd.size : Int) ≤ (s.size : Int) := by omega
  clear h hp
  go_enter Tryd.func73, Tryd.ntmps73
  go_wp2_with fail
  go_quiet (fail)
  go_wp2_with fail
  go_end0
  exact ⟨rfl, (H.out.drewN _).set1 _, (but_drewN (But.refl _ _) _).trans (But.set _ _ _)⟩

set_option maxHeartbeats 800000 in
theorem eat_no (w : World) (R : Nat) (s wd : ByteArray) (at' : Nat) (bad : Bool) (hs : s.size ≤ 1048576) (h : Rdr w R s at' bad) (ha : at' ≤ 2097152) (hw0 : 0 < wd.size) (hw : wd.size ≤ 16) (hp : pre wd s at' = false) :
    Calls Tryd.prog 73 #[.pointer (some ⟨R, 0, none⟩), .string wd] w fun e w' => e = .returned (.tuple #[]) ∧ Rdr w' R s at' true ∧ But R w w' := by
  obtain ⟨c0, c1, c2, f1, f2⟩ := h.cells
  have H := hide h
  clear h
  by_cases h1 : at' + wd.size ≤ s.size
  · have h2 : ¬ s.extract at' (at' + wd.size) = wd := fun e => by rw [(pre_iff hw0).2 ⟨h1, e⟩] at hp; cases hp
    have hd : decide ((s.size : Int) < (at' : Int) + (wd.size : Int)) = false := by simp; omega
    have hi0 : (0 : Int) ≤ (at' : Int) := by omega
    have hi1 : (at' : Int) ≤ (at' : Int) + (wd.size : Int) := by omega
    have hi2 : (at' : Int) + (wd.size : Int) ≤ (s.size : Int) := by omega
    have hbe : ((s.extract at' (at' + wd.size)).toList == wd.toList) = false := by rw [toList_beq]; simpa using h2
    clear hp h2
    go_enter Tryd.func73, Tryd.ntmps73
    go_wp2_with fail
    go_quiet (fail)
    go_wp2_with fail
    (try simp only [Exit.inBlock, Exit.then]); refine bodyPost_ret (results_none rfl _ _ _) rfl ?_
    exact ⟨rfl, (H.out.drewN _).set2 _, (but_drewN (But.refl _ _) _).trans (But.set _ _ _)⟩
  · have hd : decide ((s.size : Int) < (at' : Int) + (wd.size : Int)) = true := by simp; omega
    clear hp
    go_enter Tryd.func73, Tryd.ntmps73
    go_wp2_with fail
    go_quiet (fail)
    go_wp2_with fail
    (try simp only [Exit.inBlock, Exit.then]); refine bodyPost_ret (results_none rfl _ _ _) rfl ?_
    exact ⟨rfl, (H.out.drewN _).set2 _, (but_drewN (But.refl _ _) _).trans (But.set _ _ _)⟩
end Go.Proofs.YtfjiannabnonjaaDoor
