/- The walks of the specification's reader, the small ones: look, eat, name, text, num. For texts of at most 2^20 bytes. -/
import Derived.Test.YtgamonfmgngilaaGreatDoorRows
import Derived.Test.YtgamonfmgngilaaGreatDoorPart00
import Derived.Test.YtgamonfmgngilaaGreatDoorPart01
import Derived.Deep.RegionWith
import Derived.Deep.QuietTactic
import Derived.BigQuiet
import Derived.WalkLawsBesides
import Derived.WalkSmall
namespace Go.Proofs.YtgamonfmgngilaaGreatDoor
open Go Go.RowKit

/-- A reader of the specification lies in block R. -/
def Rdr (w : World) (R : Nat) (s : ByteArray) (at' : Nat) (bad : Bool) : Prop := w.rowIs R 63 3 (row3 (.string s) (.int .i64 at') (.bool bad))

theorem Rdr.cells {w : World} {R : Nat} {s : ByteArray} {at' : Nat} {bad : Bool} (h : Rdr w R s at' bad) :
    w.cell? ⟨R, 0, none⟩ = some (.string s) ∧ w.cell? ⟨R, 1, none⟩ = some (.int .i64 at') ∧ w.cell? ⟨R, 2, none⟩ = some (.bool bad) ∧ w.frozen? ⟨R, 1, none⟩ = false ∧ w.frozen? ⟨R, 2, none⟩ = false :=
  ⟨World.rowIs.cell h (by omega), World.rowIs.cell h (by omega), World.rowIs.cell h (by omega), World.rowIs.frozen h 1, World.rowIs.frozen h 2⟩
theorem Rdr.lt {w : World} {R : Nat} {s : ByteArray} {at' : Nat} {bad : Bool} (h : Rdr w R s at' bad) : R < w.heap.size := World.rowIs.lt h
theorem Rdr.below {w w' : World} {R : Nat} {s : ByteArray} {at' : Nat} {bad : Bool} (h : Rdr w R s at' bad) (hb : Below w.heap.size w w') : Rdr w' R s at' bad := World.rowIs.of_block h (hb.block R h.lt)
theorem Rdr.set1 {w : World} {R : Nat} {s : ByteArray} {at' : Nat} {bad : Bool} (h : Rdr w R s at' bad) (a : Nat) : Rdr (w.setCell ⟨R, 1, none⟩ (.int .i64 a)) R s a bad :=
  (World.rowIs.set h 1 _).congr fun i hi => by
    match i, hi with
    | 0, _ => rfl
    | 1, _ => rfl
    | 2, _ => rfl
theorem Rdr.set2 {w : World} {R : Nat} {s : ByteArray} {at' : Nat} {bad : Bool} (h : Rdr w R s at' bad) (b : Bool) : Rdr (w.setCell ⟨R, 2, none⟩ (.bool b)) R s at' b :=
  (World.rowIs.set h 2 _).congr fun i hi => by
    match i, hi with
    | 0, _ => rfl
    | 1, _ => rfl
    | 2, _ => rfl
theorem Rdr.drew {w : World} {R : Nat} {s : ByteArray} {at' : Nat} {bad : Bool} (h : Rdr w R s at' bad) : Rdr w.drew R s at' bad := h

/-- The byte at a place, 0 behind the end. -/
def bv (s : ByteArray) (i : Nat) : Nat := if h : i < s.size then s[i].toNat else 0

/-- What is still to be read. -/
def lf (s : ByteArray) (i : Nat) : List UInt8 := s.data.toList.drop i

theorem lf_cons {s : ByteArray} {i : Nat} (h : i < s.size) : lf s i = s[i] :: lf s (i + 1) := by
  unfold lf
  rw [List.drop_eq_getElem_cons (by simpa using h)]
  rfl
theorem lf_nil {s : ByteArray} {i : Nat} (h : s.size ≤ i) : lf s i = [] := by
  unfold lf; exact List.drop_eq_nil_of_le (by simpa using h)
theorem lf_len (s : ByteArray) (i : Nat) : (lf s i).length = s.size - i := by unfold lf; rw [List.length_drop]; rfl
theorem bv_head (s : ByteArray) (i : Nat) : ∀ c : UInt8, c ≠ 0 → ((lf s i).head? = some c ↔ bv s i = c.toNat) := by
  intro c hc
  unfold bv
  by_cases h : i < s.size
  · rw [lf_cons h, dif_pos h]
    simp only [List.head?_cons, Option.some.injEq]
    constructor
    · intro e; rw [e]
    · intro e; exact UInt8.toNat_inj.1 e
  · rw [lf_nil (by omega), dif_neg h]
    constructor
    · intro e; simp at e
    · intro e; exfalso; exact hc (UInt8.toNat_inj.1 e.symm)

theorem Rdr.drewN {w : World} {R : Nat} {s : ByteArray} {at' : Nat} {bad : Bool} (h : Rdr w R s at' bad) (n : Nat) : Rdr (w.drewN n) R s at' bad := h

set_option maxHeartbeats 400000 in
theorem look_any (w : World) (R : Nat) (s : ByteArray) (at' : Nat) (bad : Bool) (h : Rdr w R s at' bad) :
    Calls Tryz.prog 68 #[.pointer (some ⟨R, 0, none⟩)] w fun e w' => e = .returned (.int .u8 (bv s at')) ∧ ∃ m, w' = w.drewN m := by
  obtain ⟨c0, c1, c2, f1, f2⟩ := h.cells
  clear h
  by_cases hlt : at' < s.size
  · have hbv : bv s at' = s[at'].toNat := by unfold bv; rw [dif_pos hlt]
    rw [hbv]
    clear hbv
    go_enter Tryz.func68, Tryz.ntmps68
    go_wp2_with fail
    go_quiet (fail)
    go_wp2_with fail
    go_quiet (fail)
    go_wp2_with fail
    go_ret
    exact ⟨rfl, _, by rw [World.drewN_drewN]⟩
  · have hbv : bv s at' = 0 := by unfold bv; rw [dif_neg hlt]
    rw [hbv]
    clear hbv
    go_enter Tryz.func68, Tryz.ntmps68
    go_wp2_with fail
    go_quiet (fail)
    go_wp2_with fail
    go_ret
    exact ⟨rfl, _, rfl⟩

theorem toList_loop (s : ByteArray) (n : Nat) : ∀ (i : Nat) (r : List UInt8), s.size - i = n → ByteArray.toList.loop s i r = r.reverse ++ s.data.toList.drop i := by
  induction n with
  | zero =>
    intro i r h
    unfold ByteArray.toList.loop
    rw [if_neg (by omega), List.drop_eq_nil_of_le (by simp only [Array.length_toList]; show s.size ≤ i; omega), List.append_nil]
  | succ n ih =>
    intro i r h
    unfold ByteArray.toList.loop
    have hi : i < s.size := by omega
    have e : s.get! i = s.data.toList[i]'(by simpa using hi) := by
      obtain ⟨d⟩ := s
      exact getElem!_pos d i hi
    have hdrop : s.data.toList.drop i = s.data.toList[i]'(by simpa using hi) :: s.data.toList.drop (i + 1) := List.drop_eq_getElem_cons (by simpa using hi)
    rw [if_pos hi, ih (i + 1) _ (by omega), hdrop, e, List.reverse_cons, List.append_assoc]
    rfl
theorem toList_data (s : ByteArray) : s.toList = s.data.toList := by
  have := toList_loop s s.size 0 [] (by omega)
  rw [List.drop_zero] at this
  exact this
theorem toList_beq (a b : ByteArray) : (a.toList == b.toList) = decide (a = b) := by
  rw [toList_data, toList_data, Bool.eq_iff_iff]
  simp only [beq_iff_eq, decide_eq_true_eq]
  constructor
  · intro h; exact ByteArray.ext (Array.toList_inj.1 h)
  · intro h; rw [h]

/-- A word stands at a place. -/
def pre (wd : ByteArray) (s : ByteArray) (i : Nat) : Bool := wd.data.toList.isPrefixOf (lf s i)

theorem pre_iff {wd s : ByteArray} {i : Nat} (h0 : 0 < wd.size) : pre wd s i = true ↔ (i + wd.size ≤ s.size ∧ s.extract i (i + wd.size) = wd) := by
  unfold pre
  rw [List.isPrefixOf_iff_prefix, List.prefix_iff_eq_take]
  have hl : wd.data.toList.length = wd.size := rfl
  have he : (s.extract i (i + wd.size)).data.toList = (lf s i).take wd.size := by
    unfold lf
    simp [List.take_drop]
  rw [hl]
  constructor
  · intro h
    have h2 := congrArg List.length h
    rw [List.length_take, lf_len, hl] at h2
    refine ⟨by omega, ?_⟩
    apply ByteArray.ext
    apply Array.toList_inj.1
    rw [he, ← h]
  · rintro ⟨h1, h2⟩
    rw [← he, h2]

theorem lf_after {wd s : ByteArray} {i : Nat} : lf s (i + wd.size) = (lf s i).drop wd.size := by
  unfold lf; rw [List.drop_drop]

theorem but_drewN {B : Nat} {w w' : World} (h : But B w w') (n : Nat) : But B w (w'.drewN n) := ⟨h.os, h.tape, h.output, h.size, h.block⟩

set_option maxHeartbeats 800000 in
theorem eat_yes (w : World) (R : Nat) (s wd : ByteArray) (at' : Nat) (bad : Bool) (hs : s.size ≤ 1048576) (h : Rdr w R s at' bad) (ha : at' ≤ 2097152) (hw0 : 0 < wd.size) (hw : wd.size ≤ 16) (hp : pre wd s at' = true) :
    Calls Tryz.prog 37 #[.pointer (some ⟨R, 0, none⟩), .string wd] w fun e w' => e = .returned (.tuple #[]) ∧ Rdr w' R s (at' + wd.size) bad ∧ But R w w' := by
  obtain ⟨c0, c1, c2, f1, f2⟩ := h.cells
  obtain ⟨h1, h2⟩ := (pre_iff hw0).1 hp
  have H := hide h
  have hd : decide ((s.size : Int) < (at' : Int) + (wd.size : Int)) = false := by simp; omega
  have hi0 : (0 : Int) ≤ (at' : Int) := by omega
  have hi1 : (at' : Int) ≤ (at' : Int) + (wd.size : Int) := by omega
  have hi2 : (at' : Int) + (wd.size : Int) ≤ (s.size : Int) := by omega
  clear h hp
  go_enter Tryz.func37, Tryz.ntmps37
  go_wp2_with fail
  go_quiet (fail)
  go_wp2_with fail
  go_end0
  exact ⟨rfl, (H.out.drewN _).set1 _, (but_drewN (But.refl _ _) _).trans (But.set _ _ _)⟩

set_option maxHeartbeats 800000 in
theorem eat_no (w : World) (R : Nat) (s wd : ByteArray) (at' : Nat) (bad : Bool) (hs : s.size ≤ 1048576) (h : Rdr w R s at' bad) (ha : at' ≤ 2097152) (hw0 : 0 < wd.size) (hw : wd.size ≤ 16) (hp : pre wd s at' = false) :
    Calls Tryz.prog 37 #[.pointer (some ⟨R, 0, none⟩), .string wd] w fun e w' => e = .returned (.tuple #[]) ∧ Rdr w' R s at' true ∧ But R w w' := by
  obtain ⟨c0, c1, c2, f1, f2⟩ := h.cells
  have H := hide h
  clear h
  by_cases h1 : at' + wd.size ≤ s.size
  · have h2 : ¬ s.extract at' (at' + wd.size) = wd := fun e => by rw [(pre_iff hw0).2 ⟨h1, e⟩] at hp; cases hp
    have hd : decide ((s.size : Int) < (at' : Int) + (wd.size : Int)) = false := by simp; omega
    have hi0 : (0 : Int) ≤ (at' : Int) := by omega
    have hi1 : (at' : Int) ≤ (at' : Int) + (wd.size : Int) := by omega
    have hi2 : (at' : Int) + (wd.size : Int) ≤ (s.size : Int) := by omega
    have hbe : ((s.extract at' (at' + wd.size)).toList == wd.toList) = false := by rw [toList_beq]; simpa using h2
    clear hp h2
    go_enter Tryz.func37, Tryz.ntmps37
    go_wp2_with fail
    go_quiet (fail)
    go_wp2_with fail
    (try simp only [Exit.inBlock, Exit.then]); refine bodyPost_ret (results_none rfl _ _ _) rfl ?_
    exact ⟨rfl, (H.out.drewN _).set2 _, (but_drewN (But.refl _ _) _).trans (But.set _ _ _)⟩
  · have hd : decide ((s.size : Int) < (at' : Int) + (wd.size : Int)) = true := by simp; omega
    clear hp
    go_enter Tryz.func37, Tryz.ntmps37
    go_wp2_with fail
    go_quiet (fail)
    go_wp2_with fail
    (try simp only [Exit.inBlock, Exit.then]); refine bodyPost_ret (results_none rfl _ _ _) rfl ?_
    exact ⟨rfl, (H.out.drewN _).set2 _, (but_drewN (But.refl _ _) _).trans (But.set _ _ _)⟩
end Go.Proofs.YtgamonfmgngilaaGreatDoor

/- The walks of the specification's reader, further: name. For texts of at most 2^20 bytes. -/

namespace Go.Proofs.YtgamonfmgngilaaGreatDoor
open Go Go.RowKit

/-- How many bytes from a place on are such. -/
def rn (p : UInt8 → Bool) (s : ByteArray) (i : Nat) : Nat := ((lf s i).takeWhile p).length

theorem rn_step {p : UInt8 → Bool} {s : ByteArray} {i : Nat} (h : i < s.size) (hp : p s[i] = true) : rn p s i = rn p s (i + 1) + 1 := by
  unfold rn; rw [lf_cons h]; simp [hp]
theorem rn_stop {p : UInt8 → Bool} {s : ByteArray} {i : Nat} (h : i < s.size) (hp : p s[i] = false) : rn p s i = 0 := by
  unfold rn; rw [lf_cons h]; simp [hp]
theorem rn_end {p : UInt8 → Bool} {s : ByteArray} {i : Nat} (h : s.size ≤ i) : rn p s i = 0 := by
  unfold rn; rw [lf_nil h]; simp
theorem rn_le (p : UInt8 → Bool) (s : ByteArray) (i : Nat) (h : i ≤ s.size) : i + rn p s i ≤ s.size := by
  unfold rn
  have := (List.takeWhile_prefix (p := p) (l := lf s i)).length_le
  rw [lf_len] at this
  omega
theorem rn_take (p : UInt8 → Bool) (s : ByteArray) (i : Nat) : s.extract i (i + rn p s i) = ⟨((lf s i).takeWhile p).toArray⟩ := by
  apply ByteArray.ext
  apply Array.toList_inj.1
  have h1 : (s.extract i (i + rn p s i)).data.toList = (lf s i).take (rn p s i) := by unfold lf; simp [List.take_drop]
  rw [h1]
  unfold rn
  exact (List.prefix_iff_eq_take.1 (List.takeWhile_prefix p)).symm
theorem rn_drop (p : UInt8 → Bool) (s : ByteArray) (i : Nat) : lf s (i + rn p s i) = (lf s i).dropWhile p := by
  have h1 : lf s (i + rn p s i) = (lf s i).drop (rn p s i) := by unfold lf; rw [List.drop_drop]
  rw [h1]
  unfold rn
  generalize lf s i = l
  have := List.takeWhile_append_dropWhile (p := p) (l := l)
  conv => lhs; arg 2; rw [← this]
  rw [List.drop_left]

theorem Rdr.heap {w w' : World} {R : Nat} {s : ByteArray} {a : Nat} {bad : Bool} (h : Rdr w R s a bad) (e : w'.heap = w.heap) : Rdr w' R s a bad := World.rowIs.of_block h (by rw [e])
theorem but_heap {B : Nat} {w w' : World} (n : Nat) (h : But B w w') : But B w (w'.drewN n) := but_drewN h n

/-- The place of a reader, off its block. -/
def atOf (w : World) (R : Nat) : Nat := (intOf ((w.cell? ⟨R, 1, none⟩).getD undef)).toNat
theorem Rdr.atOf {w : World} {R : Nat} {s : ByteArray} {a : Nat} {bad : Bool} (h : Rdr w R s a bad) : atOf w R = a := by
  unfold Go.Proofs.YtgamonfmgngilaaGreatDoor.atOf; rw [h.cells.2.1]; simp [intOf]

theorem Rdr.meas {w : World} {R : Nat} {s : ByteArray} {a : Nat} {bad : Bool} (h : Rdr w R s a bad) {n : Nat} (h2 : a ≤ s.size) (h3 : n < a) : s.size - Go.Proofs.YtgamonfmgngilaaGreatDoor.atOf w R < s.size - n := by
  rw [h.atOf]; omega

set_option maxHeartbeats 800000 in
theorem name_any (w : World) (R : Nat) (s : ByteArray) (at' : Nat) (bad : Bool) (hs : s.size ≤ 1048576) (h : Rdr w R s at' bad) (ha : at' ≤ s.size) :
    Calls Tryz.prog 36 #[.pointer (some ⟨R, 0, none⟩)] w fun e w' => e = .returned (.string ⟨((lf s at').takeWhile nameByte).toArray⟩) ∧ Rdr w' R s (at' + rn nameByte s at') bad ∧ But R w w' := by
  have H := hide h
  obtain ⟨c0, c1, c2, f1, f2⟩ := h.cells
  rw [← rn_take]
  have hle := rn_le nameByte s at' ha
  generalize hr : rn nameByte s at' = r at *
  have HR := hide hr
  have hi0 : (0 : Int) ≤ (at' : Int) := by omega
  have hi1 : (at' : Int) ≤ (at' : Int) + (r : Int) := by omega
  have hi2 : (at' : Int) + (r : Int) ≤ (s.size : Int) := by omega
  clear h hr
  go_enter Tryz.func36, Tryz.ntmps36
  go_wp2_with fail
  go_loopw [] (fun wr => ∃ (j : Nat), at' ≤ j ∧ j ≤ s.size ∧ Hid (j + rn nameByte s j = at' + r) ∧ Hid (Rdr wr R s j bad) ∧ But R w wr) (fun wr => s.size - atOf wr R)
  case atStart => exact ⟨at', Nat.le_refl _, ha, hide (by show _ = _; rw [HR.out]), H, But.refl _ _⟩
  case round =>
    obtain ⟨j, hj0, hj1, HJ, HRj, hb⟩ := hrel
    obtain ⟨y0, y1, y2, g1, g2⟩ := HRj.out.cells
    have hat := HRj.out.atOf
    have HLK := hide (fun W (hW : W.heap = wr.heap) => look_any W R s j bad (HRj.out.heap hW))
    have hv : (97 ≤ bv s j ∧ bv s j ≤ 122) ∨ 122 < bv s j ∨ (57 < bv s j ∧ bv s j < 97) ∨ (48 ≤ bv s j ∧ bv s j ≤ 57) ∨ bv s j < 48 := by omega
    have hgo : (97 ≤ bv s j ∧ bv s j ≤ 122) ∨ (48 ≤ bv s j ∧ bv s j ≤ 57) → j < s.size ∧ j + 1 + rn nameByte s (j + 1) = at' + r := fun hh => by
      have hlt : j < s.size := by
        by_cases hl : j < s.size
        · exact hl
        · unfold bv at hh; rw [dif_neg hl] at hh; omega
      have hb2 : bv s j = s[j].toNat := by unfold bv; rw [dif_pos hlt]
      rw [hb2] at hh
      have := rn_step (p := nameByte) hlt (nameByte_yes hh)
      have := HJ.out
      exact ⟨hlt, by omega⟩
    have hend : ¬ ((97 ≤ bv s j ∧ bv s j ≤ 122) ∨ (48 ≤ bv s j ∧ bv s j ≤ 57)) → j = at' + r := fun hh => by
      have := HJ.out
      by_cases hlt : j < s.size
      · have hb2 : bv s j = s[j].toNat := by unfold bv; rw [dif_pos hlt]
        rw [hb2] at hh
        have := rn_stop (p := nameByte) hlt (nameByte_no (by omega))
        omega
      · have := rn_end (p := nameByte) (s := s) (i := j) (by omega)
        omega
    have HGO := hide hgo; have HEND := hide hend
    generalize bv s j = v at *
    clear hgo hend HR H
    rcases hv with hv | hv | hv | hv | hv
    · obtain ⟨hlt, hjn⟩ := HGO.out (Or.inl hv)
      have HJN := hide hjn
      obtain ⟨hv1, hv2⟩ := hv
      clear hjn HGO HEND
      go_wp2_with (go_at_call 68; refine (unhide HLK _ (by rfl)).mono ?_; rintro e w' ⟨rfl, m, rfl⟩)
      go_roundw
      case rel => exact ⟨j + 1, by omega, by omega, HJN, hide ((HRj.out.heap rfl).set1 _), (but_drewN hb _).trans (But.set _ _ _)⟩
      case measure => rw [hat]; exact Rdr.meas ((HRj.out.heap rfl).set1 (j + 1)) (by omega) (by omega)
    · have he := HEND.out (by omega)
      have hv2 : 97 ≤ v := by omega
      have hv3 : 48 ≤ v := by omega
      have hv4 : 57 < v := by omega
      subst he
      clear HGO HEND
      go_wp2_with (go_at_call 68; refine (unhide HLK _ (by rfl)).mono ?_; rintro e w' ⟨rfl, m, rfl⟩)
      go_quiet (fail)
      go_wp2_with fail
      go_ret
      exact ⟨rfl, HRj.out.heap rfl, but_drewN (but_drewN hb _) _⟩
    · have he := HEND.out (by omega)
      have hv2 : v < 97 := by omega
      have hv3 : 48 ≤ v := by omega
      have hv4 : 57 < v := by omega
      subst he
      clear HGO HEND hv
      go_wp2_with (go_at_call 68; refine (unhide HLK _ (by rfl)).mono ?_; rintro e w' ⟨rfl, m, rfl⟩)
      go_quiet (fail)
      go_wp2_with fail
      go_ret
      exact ⟨rfl, HRj.out.heap rfl, but_drewN (but_drewN hb _) _⟩
    · obtain ⟨hlt, hjn⟩ := HGO.out (Or.inr hv)
      have HJN := hide hjn
      obtain ⟨hv1, hv2⟩ := hv
      have hv3 : v < 97 := by omega
      clear hjn HGO HEND
      go_wp2_with (go_at_call 68; refine (unhide HLK _ (by rfl)).mono ?_; rintro e w' ⟨rfl, m, rfl⟩)
      go_roundw
      case rel => exact ⟨j + 1, by omega, by omega, HJN, hide ((HRj.out.heap rfl).set1 _), (but_drewN hb _).trans (But.set _ _ _)⟩
      case measure => rw [hat]; exact Rdr.meas ((HRj.out.heap rfl).set1 (j + 1)) (by omega) (by omega)
    · have he := HEND.out (by omega)
      have hv2 : v < 97 := by omega
      subst he
      clear HGO HEND
      go_wp2_with (go_at_call 68; refine (unhide HLK _ (by rfl)).mono ?_; rintro e w' ⟨rfl, m, rfl⟩)
      go_quiet (fail)
      go_wp2_with fail
      go_ret
      exact ⟨rfl, HRj.out.heap rfl, but_drewN (but_drewN hb _) _⟩

def w1 (c : UInt8) : ByteArray := ⟨#[c]⟩
theorem pre_one (c : UInt8) (s : ByteArray) (i : Nat) : pre (w1 c) s i = decide ((lf s i).head? = some c) := by
  unfold pre w1
  cases lf s i with
  | nil => rfl
  | cons a r => simp [List.isPrefixOf, eq_comm, Bool.beq_eq_decide_eq]
theorem lf_next (s : ByteArray) (i : Nat) : lf s (i + 1) = (lf s i).tail := by
  unfold lf; rw [← List.drop_drop]; simp
theorem pre_room {wd s : ByteArray} {i : Nat} (h0 : 0 < wd.size) (h : pre wd s i = true) : i + wd.size ≤ s.size := ((pre_iff h0).1 h).1
end Go.Proofs.YtgamonfmgngilaaGreatDoor

/- The walks of the program's isDigit, isNameByte, nameOk: what they answer. No conditions. -/

namespace Go.Proofs.YtgamonfmgngilaaGreatDoor
open Go Go.RowKit

def digitB (c : UInt8) : Bool := 48 ≤ c.toNat && c.toNat ≤ 57
theorem digit_yes {c : UInt8} (h : 48 ≤ c.toNat ∧ c.toNat ≤ 57) : digitB c = true := by unfold digitB; simp [h.1, h.2]
theorem digit_no {c : UInt8} (h : c.toNat < 48 ∨ 57 < c.toNat) : digitB c = false := by
  unfold digitB; simp only [Bool.and_eq_false_iff, decide_eq_false_iff_not]; omega
theorem nameByte_digit {c : UInt8} (h : c.toNat < 97 ∨ 122 < c.toNat) : nameByte c = digitB c := by
  unfold nameByte digitB
  rw [show (decide (97 ≤ c.toNat) && decide (c.toNat ≤ 122)) = false from by simp only [Bool.and_eq_false_iff, decide_eq_false_iff_not]; omega]
  rfl

set_option maxHeartbeats 400000 in
theorem isDigit_any (c : UInt8) (w : World) : Calls Tryz.prog 107 #[.int .u8 c.toNat] w fun e w' => e = .returned (.bool (digitB c)) ∧ w' = w := by
  have hc : (48 ≤ c.toNat ∧ c.toNat ≤ 57) ∨ c.toNat < 48 ∨ 57 < c.toNat := by omega
  rcases hc with hc | hc | hc
  · have HB := hide (digit_yes hc)
    obtain ⟨h1, h2⟩ := hc
    have d2 : decide ((c.toNat : Int) ≤ 57) = true := by simp; omega
    go_enter Tryz.func107, Tryz.ntmps107
    go_wp2_with fail
    go_ret
    exact ⟨ret_bool (unhide HB).symm, rfl⟩
  · have HB := hide (digit_no (Or.inl hc))
    go_enter Tryz.func107, Tryz.ntmps107
    go_wp2_with fail
    go_ret
    exact ⟨ret_bool (unhide HB).symm, rfl⟩
  · have HB := hide (digit_no (Or.inr hc))
    have d2 : decide ((c.toNat : Int) ≤ 57) = false := by simp; omega
    go_enter Tryz.func107, Tryz.ntmps107
    go_wp2_with fail
    go_ret
    exact ⟨ret_bool (unhide HB).symm, rfl⟩

set_option maxHeartbeats 400000 in
theorem isNameByte_any (c : UInt8) (w : World) : Calls Tryz.prog 101 #[.int .u8 c.toNat] w fun e w' => e = .returned (.bool (nameByte c)) ∧ w' = w := by
  have hc : (97 ≤ c.toNat ∧ c.toNat ≤ 122) ∨ c.toNat < 97 ∨ 122 < c.toNat := by omega
  rcases hc with hc | hc | hc
  · have HN := hide (nameByte_yes (Or.inl hc))
    obtain ⟨h1, h2⟩ := hc
    have d2 : decide ((c.toNat : Int) ≤ 122) = true := by simp; omega
    go_enter Tryz.func101, Tryz.ntmps101
    go_wp2_with (go_at_call 107; refine (isDigit_any _ _).mono ?_; rintro e w' ⟨rfl, rfl⟩)
    go_ret
    exact ⟨ret_bool (unhide HN).symm, rfl⟩
  · have HN := hide (nameByte_digit (Or.inl hc))
    go_enter Tryz.func101, Tryz.ntmps101
    go_wp2_with (go_at_call 107; refine (isDigit_any _ _).mono ?_; rintro e w' ⟨rfl, rfl⟩)
    go_ret
    exact ⟨ret_bool (unhide HN).symm, rfl⟩
  · have HN := hide (nameByte_digit (Or.inr hc))
    have d2 : decide ((c.toNat : Int) ≤ 122) = false := by simp; omega
    go_enter Tryz.func101, Tryz.ntmps101
    go_wp2_with (go_at_call 107; refine (isDigit_any _ _).mono ?_; rintro e w' ⟨rfl, rfl⟩)
    go_ret
    exact ⟨ret_bool (unhide HN).symm, rfl⟩

theorem nameOk_digit {s : ByteArray} (h0 : 0 < s.size) (h : digitB s[0] = true) : nameOkB s = false := by
  refine nameOk_first h0 ?_
  simp only [digitB, Bool.and_eq_true, decide_eq_true_eq] at h
  omega
theorem nameOk_yes2 {s : ByteArray} (h1 : 0 < s.size) (h2 : s.size ≤ 8) (hf : digitB s[0] = false) (ha : allTo nameByte s s.size) : nameOkB s = true := by
  refine nameOk_yes h1 h2 ?_ ha
  have hb := ha 0 h1 h1
  simp only [nameByte, digitB, Bool.or_eq_true, Bool.and_eq_true, Bool.and_eq_false_iff, decide_eq_true_eq, decide_eq_false_iff_not] at hb hf
  omega

set_option maxHeartbeats 400000 in
theorem nameOk_any (s : ByteArray) (w : World) (hs : s.size ≤ 9223372036854775807) :
    Calls Tryz.prog 110 #[.string s] w fun e w' => e = .returned (.bool (nameOkB s)) ∧ w' = w := by
  have hl : s.size < 1 ∨ 8 < s.size ∨ (0 < s.size ∧ s.size ≤ 8) := by omega
  rcases hl with hl | hl | ⟨hl0, hl8⟩
  · have HN := hide (nameOk_len (Or.inl hl))
    go_enter Tryz.func110, Tryz.ntmps110
    go_wp2_with fail
    go_ret
    exact ⟨ret_bool (unhide HN).symm, rfl⟩
  · have HN := hide (nameOk_len (Or.inr hl))
    go_enter Tryz.func110, Tryz.ntmps110
    go_wp2_with fail
    go_ret
    exact ⟨ret_bool (unhide HN).symm, rfl⟩
  · by_cases hf : digitB s[0] = true
    · have HN := hide (nameOk_digit hl0 hf)
      go_enter Tryz.func110, Tryz.ntmps110
      go_wp2_with (go_at_call 107; refine (isDigit_any _ _).mono ?_; rintro e w' ⟨rfl, rfl⟩)
      go_ret
      exact ⟨ret_bool (unhide HN).symm, rfl⟩
    · have hf' : digitB s[0] = false := by simpa using hf
      have HF := hide hf'
      clear hf
      go_enter Tryz.func110, Tryz.ntmps110
      go_wp2_with (go_at_call 107; refine (isDigit_any _ _).mono ?_; rintro e w' ⟨rfl, rfl⟩)
      go_loop [19] (fun i => ∃ k : Nat, k ≤ s.size ∧ i = .int .i64 k ∧ Hid (allTo nameByte s k)) (fun i => s.size - (intOf i).toNat)
      case atStart => exact ⟨0, Nat.zero_le _, rfl, fun j hj => by omega⟩
      case round =>
        obtain ⟨k, hk, rfl, HA⟩ := hrel
        by_cases hlt : k < s.size
        · by_cases hb : nameByte s[k] = true
          · have HN := hide (allTo_succ HA.out hlt hb)
            go_wp2_with (go_at_call 101; refine (isNameByte_any _ _).mono ?_; rintro e w' ⟨rfl, rfl⟩)
            go_round
            case rel => exact ⟨k + 1, by omega, by go_num, HN⟩
            case measure => simp [intOf]; omega
          · have hb' : nameByte s[k] = false := by simpa using hb
            clear hb
            have HN := hide (nameOk_not hlt hb')
            go_wp2_with (go_at_call 101; refine (isNameByte_any _ _).mono ?_; rintro e w' ⟨rfl, rfl⟩)
            go_ret
            exact ⟨ret_bool (unhide HN).symm, rfl⟩
        · go_wp2_with fail
          go_ret
          obtain rfl : k = s.size := by omega
          exact ⟨ret_bool (nameOk_yes2 hl0 hl8 (unhide HF) HA.out).symm, rfl⟩
end Go.Proofs.YtgamonfmgngilaaGreatDoor
