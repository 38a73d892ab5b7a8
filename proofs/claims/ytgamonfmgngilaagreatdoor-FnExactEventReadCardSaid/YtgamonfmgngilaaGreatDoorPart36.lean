/- The walk of the specification's num of a reader that is bad already: it stays so. For texts of at most 2^20 bytes. -/
import Derived.Test.YtgamonfmgngilaaGreatDoorPart30
namespace Go.Proofs.YtgamonfmgngilaaGreatDoor
open Go Go.RowKit

def NumBd (w wr : World) (R : Nat) (s : ByteArray) (b : Nat) (n : Value) : Prop :=
  ∃ k, k ≤ (dgs s b).length ∧ n = .int .i64 (dval 0 ((dgs s b).take k) : Nat) ∧ Rdr wr R s (b + k) true ∧ But R w wr

set_option maxRecDepth 100000 in
set_option maxHeartbeats 1600000 in
theorem num_posB (w : World) (R : Nat) (s : ByteArray) (at' : Nat) (hs : s.size ≤ 1048576) (h : Rdr w R s at' true) (hv0 : bv s at' ≠ 45) (ha : at' ≤ s.size) :
    Calls Tryz.prog 38 #[.pointer (some ⟨R, 0, none⟩)] w fun e w' => e = .returned (.int .i64 ((dval 0 (dgs s at') : Nat))) ∧ Rdr w' R s (at' + (dgs s (at')).length) true ∧ But R w w' := by
  have HRD := hide h
  obtain ⟨c0, c1, c2, f1, f2⟩ := h.cells
  have HLK := hide (fun W (hW : W.heap = w.heap) => look_any W R s at' true (h.heap hW))
  have hl := dgs_len s (at')
  have hb45 : ((bv s at' : Int) == 45) = false := by simp; omega
  generalize bv s at' = v0 at *
  obtain ⟨b0, hb0⟩ : ∃ b0, b0 = at' := ⟨_, rfl⟩
  rw [← hb0] at hl ⊢
  have hbs : b0 ≤ s.size := by omega
  have HB0 := hide hb0
  have hl2 := hl.2 hbs
  have hl1 := hl.1
  have hb0i : (at' : Int) = (b0 : Int) := by omega
  clear h hv0 hl hb0
  go_enter Tryz.func38, Tryz.ntmps38
  go_wp2_with (go_at_call 68; refine (unhide HLK _ (by rfl)).mono ?_; rintro e w' ⟨rfl, m, rfl⟩)
  go_loopw [5] (fun n wr => Hid (NumBd w wr R s b0 n)) (fun _ wr => s.size - atOf wr R)
  case atStart =>
    have := HRD.out.drewN m
    rw [← HB0.out] at this
    exact hide ⟨0, Nat.zero_le _, rfl, this, but_drewN (But.refl _ _) _⟩
  case round =>
    obtain ⟨k, hk, rfl, hrk, hb⟩ := hrel.out
    have HRK := hide hrk
    obtain ⟨y0, y1, y2, g1, g2⟩ := hrk.cells
    have hat := hrk.atOf
    have HLK2 := hide (fun W (hW : W.heap = wr.heap) => look_any W R s (b0 + k) true (hrk.heap hW))
    have hbd := dval_bd s b0 k hk
    have hcase := num_round s b0 k hk
    clear hrel hrk HLK c0 c1 c2 f1 f2
    rcases hcase with ⟨⟨v1, v2, v3⟩, hlt, hst, hle⟩ | ⟨he, hstop⟩
    · have HST := hide hst
      have hw48 := sub48 (v := (bv s (b0 + k) : Int)) (by omega) (by omega)
      have hcast : ((dval 0 ((dgs s b0).take (k + 1)) : Nat) : Int) = (dval 0 ((dgs s b0).take k) : Int) * 10 + ((bv s (b0 + k) : Int) - 48) := by rw [hst]; omega
      have HCA := hide hcast
      generalize bv s (b0 + k) = v at *
      generalize dval 0 ((dgs s b0).take k) = n at *
      clear hst hcast
      go_wp2_with (go_at_call 68; refine (unhide HLK2 _ (by rfl)).mono ?_; rintro e w' ⟨rfl, m, rfl⟩)
      go_roundw
      case rel =>
        refine hide ⟨k + 1, hlt, ?_, ?_, (but_drewN hb _).trans (But.set _ _ _)⟩
        · rw [HCA.out]
        · exact (HRK.out.drewN _).set1 (b0 + k + 1)
      case measure => rw [hat]; exact Rdr.meas ((HRK.out.drewN _).set1 (b0 + k + 1)) (by omega) (by omega)
    · subst he
      have htk : (dgs s b0).take (dgs s b0).length = dgs s b0 := List.take_length
      rw [htk] at hbd ⊢
      generalize bv s (b0 + (dgs s b0).length) = v at *
      by_cases hk0 : (dgs s b0).length = 0
      · have HDK := hide (show decide (dgs s b0 = []) = true by simpa using hk0)
        have hbe : (((b0 : Int) + ((dgs s b0).length : Int)) == (b0 : Int)) = true := by simp; omega
        rcases hstop with hv | hv | ⟨hv1, hv2, hv3⟩
        · clear hk0
          go_wp2_with (go_at_call 68; refine (unhide HLK2 _ (by rfl)).mono ?_; rintro e w' ⟨rfl, m, rfl⟩)
          go_ret
          refine ⟨rfl, ?_, (but_drewN hb _).trans (But.set _ _ _)⟩
          exact (HRK.out.drewN _).set2 _
        · clear hk0
          go_wp2_with (go_at_call 68; refine (unhide HLK2 _ (by rfl)).mono ?_; rintro e w' ⟨rfl, m, rfl⟩)
          go_ret
          refine ⟨rfl, ?_, (but_drewN hb _).trans (But.set _ _ _)⟩
          exact (HRK.out.drewN _).set2 _
        · omega
      · have HDK := hide (show decide (dgs s b0 = []) = false by simpa using hk0)
        have hbe : (((b0 : Int) + ((dgs s b0).length : Int)) == (b0 : Int)) = false := by simp; omega
        rcases hstop with hv | hv | ⟨hv1, hv2, hv3⟩
        · clear hk0
          go_wp2_with (go_at_call 68; refine (unhide HLK2 _ (by rfl)).mono ?_; rintro e w' ⟨rfl, m, rfl⟩)
          go_ret
          refine ⟨rfl, ?_, but_drewN hb _⟩
          exact HRK.out.drewN _
        · clear hk0
          go_wp2_with (go_at_call 68; refine (unhide HLK2 _ (by rfl)).mono ?_; rintro e w' ⟨rfl, m, rfl⟩)
          go_ret
          refine ⟨rfl, ?_, but_drewN hb _⟩
          exact HRK.out.drewN _
        · clear hk0
          go_wp2_with (go_at_call 68; refine (unhide HLK2 _ (by rfl)).mono ?_; rintro e w' ⟨rfl, m, rfl⟩)
          go_ret
          refine ⟨rfl, ?_, but_drewN hb _⟩
          exact HRK.out.drewN _

set_option maxRecDepth 100000 in
set_option maxHeartbeats 1600000 in
theorem num_negB (w : World) (R : Nat) (s : ByteArray) (at' : Nat) (hs : s.size ≤ 1048576) (h : Rdr w R s at' true) (hv0 : bv s at' = 45) (ha : at' < s.size) :
    Calls Tryz.prog 38 #[.pointer (some ⟨R, 0, none⟩)] w fun e w' => e = .returned (.int .i64 (-(dval 0 (dgs s (at' + 1)) : Int))) ∧ Rdr w' R s (at' + 1 + (dgs s (at' + 1)).length) true ∧ But R w w' := by
  have HRD := hide h
  obtain ⟨c0, c1, c2, f1, f2⟩ := h.cells
  have HLK := hide (fun W (hW : W.heap = w.heap) => look_any W R s at' true (h.heap hW))
  have hl := dgs_len s (at' + 1)
  have hb45 : ((bv s at' : Int) == 45) = true := by simp; omega
  generalize bv s at' = v0 at *
  obtain ⟨b0, hb0⟩ : ∃ b0, b0 = at' + 1 := ⟨_, rfl⟩
  rw [← hb0] at hl ⊢
  have hbs : b0 ≤ s.size := by omega
  have HB0 := hide hb0
  have hl2 := hl.2 hbs
  have hl1 := hl.1
  have hb0i : (at' : Int) + 1 = (b0 : Int) := by omega
  clear h hv0 hl hb0
  go_enter Tryz.func38, Tryz.ntmps38
  go_wp2_with (go_at_call 68; refine (unhide HLK _ (by rfl)).mono ?_; rintro e w' ⟨rfl, m, rfl⟩)
  go_loopw [5] (fun n wr => Hid (NumBd w wr R s b0 n)) (fun _ wr => s.size - atOf wr R)
  case atStart =>
    refine hide ⟨0, Nat.zero_le _, rfl, ?_, (but_drewN (But.refl _ _) _).trans (But.set _ _ _)⟩
    have := (HRD.out.drewN m).set1 (at' + 1)
    rw [← HB0.out] at this
    exact this
  case round =>
    obtain ⟨k, hk, rfl, hrk, hb⟩ := hrel.out
    have HRK := hide hrk
    obtain ⟨y0, y1, y2, g1, g2⟩ := hrk.cells
    have hat := hrk.atOf
    have HLK2 := hide (fun W (hW : W.heap = wr.heap) => look_any W R s (b0 + k) true (hrk.heap hW))
    have hbd := dval_bd s b0 k hk
    have hcase := num_round s b0 k hk
    clear hrel hrk HLK c0 c1 c2 f1 f2
    rcases hcase with ⟨⟨v1, v2, v3⟩, hlt, hst, hle⟩ | ⟨he, hstop⟩
    · have HST := hide hst
      have hw48 := sub48 (v := (bv s (b0 + k) : Int)) (by omega) (by omega)
      have hcast : ((dval 0 ((dgs s b0).take (k + 1)) : Nat) : Int) = (dval 0 ((dgs s b0).take k) : Int) * 10 + ((bv s (b0 + k) : Int) - 48) := by rw [hst]; omega
      have HCA := hide hcast
      generalize bv s (b0 + k) = v at *
      generalize dval 0 ((dgs s b0).take k) = n at *
      clear hst hcast
      go_wp2_with (go_at_call 68; refine (unhide HLK2 _ (by rfl)).mono ?_; rintro e w' ⟨rfl, m, rfl⟩)
      go_roundw
      case rel =>
        refine hide ⟨k + 1, hlt, ?_, ?_, (but_drewN hb _).trans (But.set _ _ _)⟩
        · rw [HCA.out]
        · exact (HRK.out.drewN _).set1 (b0 + k + 1)
      case measure => rw [hat]; exact Rdr.meas ((HRK.out.drewN _).set1 (b0 + k + 1)) (by omega) (by omega)
    · subst he
      have htk : (dgs s b0).take (dgs s b0).length = dgs s b0 := List.take_length
      rw [htk] at hbd ⊢
      generalize bv s (b0 + (dgs s b0).length) = v at *
      by_cases hk0 : (dgs s b0).length = 0
      · have HDK := hide (show decide (dgs s b0 = []) = true by simpa using hk0)
        have hbe : (((b0 : Int) + ((dgs s b0).length : Int)) == (b0 : Int)) = true := by simp; omega
        rcases hstop with hv | hv | ⟨hv1, hv2, hv3⟩
        · clear hk0
          go_wp2_with (go_at_call 68; refine (unhide HLK2 _ (by rfl)).mono ?_; rintro e w' ⟨rfl, m, rfl⟩)
          go_ret
          refine ⟨rfl, ?_, (but_drewN hb _).trans (But.set _ _ _)⟩
          exact (HRK.out.drewN _).set2 _
        · clear hk0
          go_wp2_with (go_at_call 68; refine (unhide HLK2 _ (by rfl)).mono ?_; rintro e w' ⟨rfl, m, rfl⟩)
          go_ret
          refine ⟨rfl, ?_, (but_drewN hb _).trans (But.set _ _ _)⟩
          exact (HRK.out.drewN _).set2 _
        · omega
      · have HDK := hide (show decide (dgs s b0 = []) = false by simpa using hk0)
        have hbe : (((b0 : Int) + ((dgs s b0).length : Int)) == (b0 : Int)) = false := by simp; omega
        rcases hstop with hv | hv | ⟨hv1, hv2, hv3⟩
        · clear hk0
          go_wp2_with (go_at_call 68; refine (unhide HLK2 _ (by rfl)).mono ?_; rintro e w' ⟨rfl, m, rfl⟩)
          go_ret
          refine ⟨rfl, ?_, but_drewN hb _⟩
          exact HRK.out.drewN _
        · clear hk0
          go_wp2_with (go_at_call 68; refine (unhide HLK2 _ (by rfl)).mono ?_; rintro e w' ⟨rfl, m, rfl⟩)
          go_ret
          refine ⟨rfl, ?_, but_drewN hb _⟩
          exact HRK.out.drewN _
        · clear hk0
          go_wp2_with (go_at_call 68; refine (unhide HLK2 _ (by rfl)).mono ?_; rintro e w' ⟨rfl, m, rfl⟩)
          go_ret
          refine ⟨rfl, ?_, but_drewN hb _⟩
          exact HRK.out.drewN _

theorem num_anyB (w : World) (R : Nat) (s : ByteArray) (at' : Nat) (hs : s.size ≤ 1048576) (h : Rdr w R s at' true) (ha : at' ≤ s.size) :
    Calls Tryz.prog 38 #[.pointer (some ⟨R, 0, none⟩)] w fun e w' => ∃ (n : Int) (a2 : Nat), e = .returned (.int .i64 n) ∧ I64 n ∧ a2 ≤ s.size ∧ Rdr w' R s a2 true ∧ But R w w' := by
  by_cases hv : bv s at' = 45
  · have hlt : at' < s.size := by
      by_cases hl : at' < s.size
      · exact hl
      · unfold bv at hv; rw [dif_neg hl] at hv; omega
    have hl := dgs_len s (at' + 1)
    have hbd := dval_bd s (at' + 1) _ (Nat.le_refl _)
    rw [List.take_length] at hbd
    refine (num_negB w R s at' hs h hv hlt).mono ?_
    rintro e w' ⟨rfl, hr, hbt⟩
    exact ⟨_, _, rfl, ⟨by omega, by omega⟩, hl.2 (by omega), hr, hbt⟩
  · have hl := dgs_len s at'
    have hbd := dval_bd s at' _ (Nat.le_refl _)
    rw [List.take_length] at hbd
    refine (num_posB w R s at' hs h hv ha).mono ?_
    rintro e w' ⟨rfl, hr, hbt⟩
    exact ⟨_, _, rfl, ⟨by omega, by omega⟩, hl.2 (by omega), hr, hbt⟩
end Go.Proofs.YtgamonfmgngilaaGreatDoor
