/- The walks of the specification's reader, further: name. For texts of at most 2^20 bytes. -/
import Derived.Test.YtfjiannabnonjaaDoorWRd
namespace Go.Proofs.YtfjiannabnonjaaDoor
open Go Go.RowKit

/-- How many bytes from a place on are such. -/
def rn (p : UInt8 → Bool) (s : ByteArray) (i : Nat) : Nat := ((lf s i).takeWhile p).length

theorem rn_step {p : UInt8 → Bool} {s : ByteArray} {i : Nat} (h : i < s.size) (hp : p s[i] = true) : rn p s i = rn p s (i + 1) + 1 := by
  unfold rn; rw [lf_cons h]; simp [hp]
theorem rn_stop {p : UInt8 → Bool} {s : ByteArray} {i : Nat} (h : i < s.size) (hp : p s[i] = false) : rn p s i = 0 := by
  unfold rn; rw [lf_cons h]; simp [hp]
theorem rn_end {p : UInt8 → Bool} {s : ByteArray} {i : Nat} (h : s.size ≤ i) : rn p s i = 0 := by
  unfold rn; rw [lf_nil h]; simp
theorem rn_le (p : UInt8 → Bool) (s : ByteArray) (i : Nat) (h : i ≤ s.size) : i + rn p s i ≤ s.size := by
  unfold rn
  have := (List.takeWhile_prefix (p := p) (l := lf s i)).length_le
  rw [lf_len] at this
  omega
theorem rn_take (p : UInt8 → Bool) (s : ByteArray) (i : Nat) : s.extract i (i + rn p s i) = ⟨((lf s i).takeWhile p).toArray⟩ := by
  apply ByteArray.ext
  apply Array.toList_inj.1
  have h1 : (s.extract i (i + rn p s i)).data.toList = (lf s i).take (rn p s i) := by unfold lf; simp [List.take_drop]
  rw [h1]
  unfold rn
  exact (List.prefix_iff_eq_take.1 (List.takeWhile_prefix p)).symm
theorem rn_drop (p : UInt8 → Bool) (s : ByteArray) (i : Nat) : lf s (i + rn p s i) = (lf s i).dropWhile p := by
  have h1 : lf s (i + rn p s i) = (lf s i).drop (rn p s i) := by unfold lf; rw [List.drop_drop]
  rw [h1]
  unfold rn
  generalize lf s i = l
  have := List.takeWhile_append_dropWhile (p := p) (l := l)
  conv => lhs; arg 2; rw [← this]
  rw [List.drop_left]

theorem Rdr.heap {w w' : World} {R : Nat} {s : ByteArray} {a : Nat} {bad : Bool} (h : Rdr w R s a bad) (e : w'.heap = w.heap) : Rdr w' R s a bad := World.rowIs.of_block h (by rw [e])
theorem but_heap {B : Nat} {w w' : World} (n : Nat) (h : But B w w') : But B w (w'.drewN n) := but_drewN h n

/-- The place of a reader, off its block. -/
def atOf (w : World) (R : Nat) : Nat := (intOf ((w.cell? ⟨R, 1, none⟩).getD undef)).toNat
theorem Rdr.atOf {w : World} {R : Nat} {s : ByteArray} {a : Nat} {bad : Bool} (h : Rdr w R s a bad) : atOf w R = a := by
  unfold Go.Proofs.YtfjiannabnonjaaDoor.atOf; rw [h.cells.2.1]; simp [intOf]

theorem Rdr.meas {w : World} {R : Nat} {s : ByteArray} {a : Nat} {bad : Bool} (h : Rdr w R s a bad) {n : Nat} (h2 : a ≤ s.size) (h3 : n < a) : s.size - Go.Proofs.YtfjiannabnonjaaDoor.atOf w R < s.size - n := by
  rw [h.atOf]; omega

set_option maxHeartbeats 800000 in
theorem name_any (w : World) (R : Nat) (s : ByteArray) (at' : Nat) (bad : Bool) (hs : s.size ≤ 1048576) (h : Rdr w R s at' bad) (ha : at' ≤ s.size) :
    Calls Tryd.prog 74 #[.pointer (some ⟨R, 0, none⟩)] w fun e w' => e = .returned (.string ⟨((lf s at').takeWhile nameByte).toArray⟩) ∧ Rdr w' R s (at' + rn nameByte s at') bad ∧ But R w w' := by
  have H := hide h
  obtain ⟨c0, c1, c2, f1, f2⟩ := h.cells
  rw [← rn_take]
  have hle := rn_le nameByte s at' ha
  generalize hr : rn nameByte s at' = r at *
  have HR := hide hr
  have hi0 : (0 : Int) ≤ (at' : Int) := by omega
  have hi1 : (at' : Int) ≤ (at' : Int) + (r : Int) := by omega
  have hi2 : (at' : Int) + (r : Int) ≤ (s.size : Int) := by omega
  clear h hr
  go_enter Tryd.func74, Tryd.ntmps74
  go_wp2_with fail
  go_loopw [] (fun wr => ∃ (j : Nat), at' ≤ j ∧ j ≤ s.size ∧ Hid (j + rn nameByte s j = at' + r) ∧ Hid (Rdr wr R s j bad) ∧ But R w wr) (fun wr => s.size - atOf wr R)
  case atStart => exact ⟨at', Nat.le_refl _, ha, hide (by show _ = _; rw [HR.out]), H, But.refl _ _⟩
  case round =>
    obtain ⟨j, hj0, hj1, HJ, HRj, hb⟩ := hrel
    obtain ⟨y0, y1, y2, g1, g2⟩ := HRj.out.cells
    have hat := HRj.out.atOf
    have HLK := hide (fun W (hW : W.heap = wr.heap) => look_any W R s j bad (HRj.out.heap hW))
    have hv : (97 ≤ bv s j ∧ bv s j ≤ 122) ∨ 122 < bv s j ∨ (57 < bv s j ∧ bv s j < 97) ∨ (48 ≤ bv s j ∧ bv s j ≤ 57) ∨ bv s j < 48 := by omega
    have hgo : (97 ≤ bv s j ∧ bv s j ≤ 122) ∨ (48 ≤ bv s j ∧ bv s j ≤ 57) → j < s.size ∧ j + 1 + rn nameByte s (j + 1) = at' + r := fun hh => by
      have hlt : j < s.size := by
        by_cases hl : j < s.size
        · exact hl
        · unfold bv at hh; rw [dif_neg hl] at hh; omega
      have hb2 : bv s j = s[j].toNat := by unfold bv; rw [dif_pos hlt]
      rw [hb2] at hh
      have := rn_step (p := nameByte) hlt (nameByte_yes hh)
      have := HJ.out
      exact ⟨hlt, by omega⟩
    have hend : ¬ ((97 ≤ bv s j ∧ bv s j ≤ 122) ∨ (48 ≤ bv s j ∧ bv s j ≤ 57)) → j = at' + r := fun hh => by
      have := HJ.out
      by_cases hlt : j < s.size
      · have hb2 : bv s j = s[j].toNat := by unfold bv; rw [dif_pos hlt]
        rw [hb2] at hh
        have := rn_stop (p := nameByte) hlt (nameByte_no (by omega))
        omega
      · have := rn_end (p := nameByte) (s := s) (i := j) (by omega)
        omega
    have HGO := hide hgo; have HEND := hide hend
    generalize bv s j = v at *
    clear hgo hend HR H
    rcases hv with hv | hv | hv | hv | hv
    · obtain ⟨hlt, hjn⟩ := HGO.out (Or.inl hv)
      have HJN := hide hjn
      obtain ⟨hv1, hv2⟩ := hv
      clear hjn HGO HEND
      go_wp2_with (go_at_call 72; refine (unhide HLK _ (by rfl)).mono ?_; rintro e w' ⟨rfl, m, rfl⟩)
      go_roundw
      case rel => exact ⟨j + 1, by omega, by omega, HJN, hide ((HRj.out.heap rfl).set1 _), (but_drewN hb _).trans (But.set _ _ _)⟩
      case measure => rw [hat]; exact Rdr.meas ((HRj.out.heap rfl).set1 (j + 1)) (by omega) (by omega)
    · have he := HEND.out (by omega)
      have hv2 : 97 ≤ v := by omega
      have hv3 : 48 ≤ v := by omega
      have hv4 : 57 < v := by omega
      subst he
      clear HGO HEND
      go_wp2_with (go_at_call 72; refine (unhide HLK _ (by rfl)).mono ?_; rintro e w' ⟨rfl, m, rfl⟩)
      go_quiet (fail)
      go_wp2_with fail
      go_ret
      exact ⟨rfl, HRj.out.heap rfl, but_drewN (but_drewN hb _) _⟩
    · have he := HEND.out (by omega)
      have hv2 : v < 97 := by omega
      have hv3 : 48 ≤ v := by omega
      have hv4 : 57 < v := by omega
      subst he
      clear HGO HEND hv
      go_wp2_with (go_at_call 72; refine (unhide HLK _ (by rfl)).mono ?_; rintro e w' ⟨rfl, m, rfl⟩)
      go_quiet (fail)
      go_wp2_with fail
      go_ret
      exact ⟨rfl, HRj.out.heap rfl, but_drewN (but_drewN hb _) _⟩
    · obtain ⟨hlt, hjn⟩ := HGO.out (Or.inr hv)
      have HJN := hide hjn
      obtain ⟨hv1, hv2⟩ := hv
      have hv3 : v < 97 := by omega
      clear hjn HGO HEND
      go_wp2_with (go_at_call 72; refine (unhide HLK _ (by rfl)).mono ?_; rintro e w' ⟨rfl, m, rfl⟩)
      go_roundw
      case rel => exact ⟨j + 1, by omega, by omega, HJN, hide ((HRj.out.heap rfl).set1 _), (but_drewN hb _).trans (But.set _ _ _)⟩
      case measure => rw [hat]; exact Rdr.meas ((HRj.out.heap rfl).set1 (j + 1)) (by omega) (by omega)
    · have he := HEND.out (by omega)
      have hv2 : v < 97 := by omega
      subst he
      clear HGO HEND
      go_wp2_with (go_at_call 72; refine (unhide HLK _ (by rfl)).mono ?_; rintro e w' ⟨rfl, m, rfl⟩)
      go_quiet (fail)
      go_wp2_with fail
      go_ret
      exact ⟨rfl, HRj.out.heap rfl, but_drewN (but_drewN hb _) _⟩
end Go.Proofs.YtfjiannabnonjaaDoor
