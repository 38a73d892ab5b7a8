/- The walk of the specification's reader, further: num. For texts of at most 2^20 bytes. -/
import Derived.Test.YtgamonfmgngilaaGreatDoorPart28
namespace Go.Proofs.YtgamonfmgngilaaGreatDoor
open Go Go.RowKit

theorem tw_lt {p : UInt8 → Bool} {l : List UInt8} {k : Nat} (hk : k < (l.takeWhile p).length) : ∃ c, l[k]? = some c ∧ p c = true ∧ (l.takeWhile p)[k]? = some c := by
  induction l generalizing k with
  | nil => simp at hk
  | cons a r ih =>
    by_cases ha : p a = true
    · rw [List.takeWhile_cons_of_pos ha] at hk ⊢
      cases k with
      | zero => exact ⟨a, rfl, ha, rfl⟩
      | succ k => simp only [List.length_cons] at hk; obtain ⟨c, h1, h2, h3⟩ := ih (k := k) (by omega); exact ⟨c, by simpa using h1, h2, by simpa using h3⟩
    · rw [List.takeWhile_cons_of_neg ha] at hk; simp at hk
theorem tw_end {p : UInt8 → Bool} {l : List UInt8} {c : UInt8} (h : l[(l.takeWhile p).length]? = some c) : p c = false := by
  induction l with
  | nil => simp at h
  | cons a r ih =>
    by_cases ha : p a = true
    · rw [List.takeWhile_cons_of_pos ha] at h
      simp only [List.length_cons, List.getElem?_cons_succ] at h
      exact ih h
    · rw [List.takeWhile_cons_of_neg ha] at h
      simp only [List.length_nil, List.getElem?_cons_zero, Option.some.injEq] at h
      subst h; simpa using ha

/-- The digits from a place on, ten at most. -/
def dgs (s : ByteArray) (b : Nat) : List UInt8 := ((lf s b).take 10).takeWhile isDg

theorem lf_get (s : ByteArray) (b k : Nat) : (lf s b)[k]? = if h : b + k < s.size then some s[b + k] else none := by
  unfold lf
  rw [List.getElem?_drop]
  by_cases h : b + k < s.size
  · rw [dif_pos h, List.getElem?_eq_getElem (by simpa using h)]; rfl
  · rw [dif_neg h, List.getElem?_eq_none (by simp only [Array.length_toList]; show s.size ≤ b + k; omega)]

theorem dgs_len (s : ByteArray) (b : Nat) : (dgs s b).length ≤ 10 ∧ (b ≤ s.size → b + (dgs s b).length ≤ s.size) := by
  unfold dgs
  have := (List.takeWhile_prefix (p := isDg) (l := (lf s b).take 10)).length_le
  rw [List.length_take, lf_len] at this
  exact ⟨by omega, fun _ => by omega⟩
theorem dgs_lt {s : ByteArray} {b k : Nat} (hk : k < (dgs s b).length) : k < 10 ∧ ∃ h : b + k < s.size, isDg s[b + k] = true ∧ (dgs s b)[k]? = some s[b + k] := by
  have h10 := (dgs_len s b).1
  obtain ⟨c, h1, h2, h3⟩ := tw_lt hk
  rw [List.getElem?_take_of_lt (by omega), lf_get] at h1
  split at h1
  · rename_i h
    simp only [Option.some.injEq] at h1
    subst h1
    exact ⟨by omega, h, h2, h3⟩
  · cases h1
theorem dgs_end {s : ByteArray} {b : Nat} (h10 : (dgs s b).length < 10) (h : b + (dgs s b).length < s.size) : isDg s[b + (dgs s b).length] = false := by
  refine tw_end (p := isDg) (l := (lf s b).take 10) ?_
  show ((lf s b).take 10)[(dgs s b).length]? = _
  rw [List.getElem?_take_of_lt h10, lf_get, dif_pos h]

theorem dval_take {ds : List UInt8} {k : Nat} {c : UInt8} (h : ds[k]? = some c) : dval 0 (ds.take (k + 1)) = dval 0 (ds.take k) * 10 + (c.toNat - 48) := by
  have hk : k < ds.length := by
    by_cases hk : k < ds.length
    · exact hk
    · rw [List.getElem?_eq_none (by omega)] at h; cases h
  rw [List.getElem?_eq_getElem hk, Option.some.injEq] at h
  unfold dval
  rw [List.take_succ_eq_append_getElem hk, List.foldl_append, h]
  rfl
theorem dval_lt (s : ByteArray) (b k : Nat) (hk : k ≤ (dgs s b).length) : dval 0 ((dgs s b).take k) < 10 ^ k := by
  induction k with
  | zero => simp [dval]
  | succ k ih =>
    obtain ⟨_, h, hd, hg⟩ := dgs_lt (s := s) (b := b) (k := k) (by omega)
    rw [dval_take hg, Nat.pow_succ]
    have := ih (by omega)
    unfold isDg at hd
    simp at hd
    omega
theorem dval_bd (s : ByteArray) (b k : Nat) (hk : k ≤ (dgs s b).length) : dval 0 ((dgs s b).take k) ≤ 10000000000 := by
  have h1 := dval_lt s b k hk
  have h2 := (dgs_len s b).1
  have h3 : 10 ^ k ≤ 10 ^ 10 := Nat.pow_le_pow_right (by omega) (by omega)
  omega

/-- What the loop of num has read. -/
def NumAt (w wr : World) (R : Nat) (s : ByteArray) (b : Nat) (n : Value) : Prop :=
  ∃ k, k ≤ (dgs s b).length ∧ n = .int .i64 (dval 0 ((dgs s b).take k) : Nat) ∧ Rdr wr R s (b + k) false ∧ But R w wr

theorem isDg_iff (c : UInt8) : isDg c = true ↔ (48 ≤ c.toNat ∧ c.toNat ≤ 57) := by unfold isDg; simp

theorem sub48 {v : Int} (h0 : 48 ≤ v) (h1 : v ≤ 57) : IntKind.u8.wrap (v - 48) = v - 48 := by rw [IntKind.wrap_u8]; omega

theorem num_round (s : ByteArray) (b k : Nat) (hk : k ≤ (dgs s b).length) :
    ((48 ≤ bv s (b + k) ∧ bv s (b + k) ≤ 57 ∧ k < 10) ∧ k < (dgs s b).length ∧ dval 0 ((dgs s b).take (k + 1)) = dval 0 ((dgs s b).take k) * 10 + (bv s (b + k) - 48) ∧ b + k + 1 ≤ s.size) ∨
    (k = (dgs s b).length ∧ (bv s (b + k) < 48 ∨ 57 < bv s (b + k) ∨ (48 ≤ bv s (b + k) ∧ bv s (b + k) ≤ 57 ∧ k = 10))) := by
  have hl := dgs_len s b
  by_cases hlt : k < (dgs s b).length
  · obtain ⟨h10, h, hd, hg⟩ := dgs_lt hlt
    have hv : bv s (b + k) = s[b + k].toNat := by unfold bv; rw [dif_pos h]
    rw [isDg_iff] at hd
    rw [hv]
    exact Or.inl ⟨⟨hd.1, hd.2, h10⟩, hlt, dval_take hg, by omega⟩
  · have he : k = (dgs s b).length := by omega
    refine Or.inr ⟨he, ?_⟩
    by_cases h10 : k < 10
    · by_cases h : b + k < s.size
      · have hv : bv s (b + k) = s[b + k].toNat := by unfold bv; rw [dif_pos h]
        subst he
        have hd := dgs_end h10 h
        have hd' : ¬ isDg s[b + (dgs s b).length] = true := by rw [hd]; simp
        rw [isDg_iff] at hd'
        rw [hv]; omega
      · have hv : bv s (b + k) = 0 := by unfold bv; rw [dif_neg h]
        omega
    · omega

set_option maxRecDepth 100000 in
set_option maxHeartbeats 1600000 in
theorem num_pos (w : World) (R : Nat) (s : ByteArray) (at' : Nat) (hs : s.size ≤ 1048576) (h : Rdr w R s at' false) (hv0 : bv s at' ≠ 45) (ha : at' ≤ s.size) :
    Calls Tryz.prog 38 #[.pointer (some ⟨R, 0, none⟩)] w fun e w' => e = .returned (.int .i64 ((dval 0 (dgs s at') : Nat))) ∧ Rdr w' R s (at' + (dgs s (at')).length) (decide (dgs s (at') = [])) ∧ But R w w' := by
  have HRD := hide h
  obtain ⟨c0, c1, c2, f1, f2⟩ := h.cells
  have HLK := hide (fun W (hW : W.heap = w.heap) => look_any W R s at' false (h.heap hW))
  have hl := dgs_len s (at')
  have hb45 : ((bv s at' : Int) == 45) = false := by simp; omega
  generalize bv s at' = v0 at *
  obtain ⟨b0, hb0⟩ : ∃ b0, b0 = at' := ⟨_, rfl⟩
  rw [← hb0] at hl ⊢
  have hbs : b0 ≤ s.size := by omega
  have HB0 := hide hb0
  have hl2 := hl.2 hbs
  have hl1 := hl.1
  have hb0i : (at' : Int) = (b0 : Int) := by omega
  clear h hv0 hl hb0
  go_enter Tryz.func38, Tryz.ntmps38
  go_wp2_with (go_at_call 68; refine (unhide HLK _ (by rfl)).mono ?_; rintro e w' ⟨rfl, m, rfl⟩)
  go_loopw [5] (fun n wr => Hid (NumAt w wr R s b0 n)) (fun _ wr => s.size - atOf wr R)
  case atStart =>
    have := HRD.out.drewN m
    rw [← HB0.out] at this
    exact hide ⟨0, Nat.zero_le _, rfl, this, but_drewN (But.refl _ _) _⟩
  case round =>
    obtain ⟨k, hk, rfl, hrk, hb⟩ := hrel.out
    have HRK := hide hrk
    obtain ⟨y0, y1, y2, g1, g2⟩ := hrk.cells
    have hat := hrk.atOf
    have HLK2 := hide (fun W (hW : W.heap = wr.heap) => look_any W R s (b0 + k) false (hrk.heap hW))
    have hbd := dval_bd s b0 k hk
    have hcase := num_round s b0 k hk
    clear hrel hrk HLK c0 c1 c2 f1 f2
    rcases hcase with ⟨⟨v1, v2, v3⟩, hlt, hst, hle⟩ | ⟨he, hstop⟩
    · have HST := hide hst
      have hw48 := sub48 (v := (bv s (b0 + k) : Int)) (by omega) (by omega)
      have hcast : ((dval 0 ((dgs s b0).take (k + 1)) : Nat) : Int) = (dval 0 ((dgs s b0).take k) : Int) * 10 + ((bv s (b0 + k) : Int) - 48) := by rw [hst]; omega
      have HCA := hide hcast
      generalize bv s (b0 + k) = v at *
      generalize dval 0 ((dgs s b0).take k) = n at *
      clear hst hcast
      go_wp2_with (go_at_call 68; refine (unhide HLK2 _ (by rfl)).mono ?_; rintro e w' ⟨rfl, m, rfl⟩)
      go_roundw
      case rel =>
        refine hide ⟨k + 1, hlt, ?_, ?_, (but_drewN hb _).trans (But.set _ _ _)⟩
        · rw [HCA.out]
        · exact (HRK.out.drewN _).set1 (b0 + k + 1)
      case measure => rw [hat]; exact Rdr.meas ((HRK.out.drewN _).set1 (b0 + k + 1)) (by omega) (by omega)
    · subst he
      have htk : (dgs s b0).take (dgs s b0).length = dgs s b0 := List.take_length
      rw [htk] at hbd ⊢
      generalize bv s (b0 + (dgs s b0).length) = v at *
      by_cases hk0 : (dgs s b0).length = 0
      · have HDK := hide (show decide (dgs s b0 = []) = true by simpa using hk0)
        have hbe : (((b0 : Int) + ((dgs s b0).length : Int)) == (b0 : Int)) = true := by simp; omega
        rcases hstop with hv | hv | ⟨hv1, hv2, hv3⟩
        · clear hk0
          go_wp2_with (go_at_call 68; refine (unhide HLK2 _ (by rfl)).mono ?_; rintro e w' ⟨rfl, m, rfl⟩)
          go_ret
          refine ⟨rfl, ?_, (but_drewN hb _).trans (But.set _ _ _)⟩
          rw [HDK.out]; exact (HRK.out.drewN _).set2 _
        · clear hk0
          go_wp2_with (go_at_call 68; refine (unhide HLK2 _ (by rfl)).mono ?_; rintro e w' ⟨rfl, m, rfl⟩)
          go_ret
          refine ⟨rfl, ?_, (but_drewN hb _).trans (But.set _ _ _)⟩
          rw [HDK.out]; exact (HRK.out.drewN _).set2 _
        · omega
      · have HDK := hide (show decide (dgs s b0 = []) = false by simpa using hk0)
        have hbe : (((b0 : Int) + ((dgs s b0).length : Int)) == (b0 : Int)) = false := by simp; omega
        rcases hstop with hv | hv | ⟨hv1, hv2, hv3⟩
        · clear hk0
          go_wp2_with (go_at_call 68; refine (unhide HLK2 _ (by rfl)).mono ?_; rintro e w' ⟨rfl, m, rfl⟩)
          go_ret
          refine ⟨rfl, ?_, but_drewN hb _⟩
          rw [HDK.out]; exact HRK.out.drewN _
        · clear hk0
          go_wp2_with (go_at_call 68; refine (unhide HLK2 _ (by rfl)).mono ?_; rintro e w' ⟨rfl, m, rfl⟩)
          go_ret
          refine ⟨rfl, ?_, but_drewN hb _⟩
          rw [HDK.out]; exact HRK.out.drewN _
        · clear hk0
          go_wp2_with (go_at_call 68; refine (unhide HLK2 _ (by rfl)).mono ?_; rintro e w' ⟨rfl, m, rfl⟩)
          go_ret
          refine ⟨rfl, ?_, but_drewN hb _⟩
          rw [HDK.out]; exact HRK.out.drewN _

set_option maxRecDepth 100000 in
set_option maxHeartbeats 1600000 in
theorem num_neg (w : World) (R : Nat) (s : ByteArray) (at' : Nat) (hs : s.size ≤ 1048576) (h : Rdr w R s at' false) (hv0 : bv s at' = 45) (ha : at' < s.size) :
    Calls Tryz.prog 38 #[.pointer (some ⟨R, 0, none⟩)] w fun e w' => e = .returned (.int .i64 (-(dval 0 (dgs s (at' + 1)) : Int))) ∧ Rdr w' R s (at' + 1 + (dgs s (at' + 1)).length) (decide (dgs s (at' + 1) = [])) ∧ But R w w' := by
  have HRD := hide h
  obtain ⟨c0, c1, c2, f1, f2⟩ := h.cells
  have HLK := hide (fun W (hW : W.heap = w.heap) => look_any W R s at' false (h.heap hW))
  have hl := dgs_len s (at' + 1)
  have hb45 : ((bv s at' : Int) == 45) = true := by simp; omega
  generalize bv s at' = v0 at *
  obtain ⟨b0, hb0⟩ : ∃ b0, b0 = at' + 1 := ⟨_, rfl⟩
  rw [← hb0] at hl ⊢
  have hbs : b0 ≤ s.size := by omega
  have HB0 := hide hb0
  have hl2 := hl.2 hbs
  have hl1 := hl.1
  have hb0i : (at' : Int) + 1 = (b0 : Int) := by omega
  clear h hv0 hl hb0
  go_enter Tryz.func38, Tryz.ntmps38
  go_wp2_with (go_at_call 68; refine (unhide HLK _ (by rfl)).mono ?_; rintro e w' ⟨rfl, m, rfl⟩)
  go_loopw [5] (fun n wr => Hid (NumAt w wr R s b0 n)) (fun _ wr => s.size - atOf wr R)
  case atStart =>
    refine hide ⟨0, Nat.zero_le _, rfl, ?_, (but_drewN (But.refl _ _) _).trans (But.set _ _ _)⟩
    have := (HRD.out.drewN m).set1 (at' + 1)
    rw [← HB0.out] at this
    exact this
  case round =>
    obtain ⟨k, hk, rfl, hrk, hb⟩ := hrel.out
    have HRK := hide hrk
    obtain ⟨y0, y1, y2, g1, g2⟩ := hrk.cells
    have hat := hrk.atOf
    have HLK2 := hide (fun W (hW : W.heap = wr.heap) => look_any W R s (b0 + k) false (hrk.heap hW))
    have hbd := dval_bd s b0 k hk
    have hcase := num_round s b0 k hk
    clear hrel hrk HLK c0 c1 c2 f1 f2
    rcases hcase with ⟨⟨v1, v2, v3⟩, hlt, hst, hle⟩ | ⟨he, hstop⟩
    · have HST := hide hst
      have hw48 := sub48 (v := (bv s (b0 + k) : Int)) (by omega) (by omega)
      have hcast : ((dval 0 ((dgs s b0).take (k + 1)) : Nat) : Int) = (dval 0 ((dgs s b0).take k) : Int) * 10 + ((bv s (b0 + k) : Int) - 48) := by rw [hst]; omega
      have HCA := hide hcast
      generalize bv s (b0 + k) = v at *
      generalize dval 0 ((dgs s b0).take k) = n at *
      clear hst hcast
      go_wp2_with (go_at_call 68; refine (unhide HLK2 _ (by rfl)).mono ?_; rintro e w' ⟨rfl, m, rfl⟩)
      go_roundw
      case rel =>
        refine hide ⟨k + 1, hlt, ?_, ?_, (but_drewN hb _).trans (But.set _ _ _)⟩
        · rw [HCA.out]
        · exact (HRK.out.drewN _).set1 (b0 + k + 1)
      case measure => rw [hat]; exact Rdr.meas ((HRK.out.drewN _).set1 (b0 + k + 1)) (by omega) (by omega)
    · subst he
      have htk : (dgs s b0).take (dgs s b0).length = dgs s b0 := List.take_length
      rw [htk] at hbd ⊢
      generalize bv s (b0 + (dgs s b0).length) = v at *
      by_cases hk0 : (dgs s b0).length = 0
      · have HDK := hide (show decide (dgs s b0 = []) = true by simpa using hk0)
        have hbe : (((b0 : Int) + ((dgs s b0).length : Int)) == (b0 : Int)) = true := by simp; omega
        rcases hstop with hv | hv | ⟨hv1, hv2, hv3⟩
        · clear hk0
          go_wp2_with (go_at_call 68; refine (unhide HLK2 _ (by rfl)).mono ?_; rintro e w' ⟨rfl, m, rfl⟩)
          go_ret
          refine ⟨rfl, ?_, (but_drewN hb _).trans (But.set _ _ _)⟩
          rw [HDK.out]; exact (HRK.out.drewN _).set2 _
        · clear hk0
          go_wp2_with (go_at_call 68; refine (unhide HLK2 _ (by rfl)).mono ?_; rintro e w' ⟨rfl, m, rfl⟩)
          go_ret
          refine ⟨rfl, ?_, (but_drewN hb _).trans (But.set _ _ _)⟩
          rw [HDK.out]; exact (HRK.out.drewN _).set2 _
        · omega
      · have HDK := hide (show decide (dgs s b0 = []) = false by simpa using hk0)
        have hbe : (((b0 : Int) + ((dgs s b0).length : Int)) == (b0 : Int)) = false := by simp; omega
        rcases hstop with hv | hv | ⟨hv1, hv2, hv3⟩
        · clear hk0
          go_wp2_with (go_at_call 68; refine (unhide HLK2 _ (by rfl)).mono ?_; rintro e w' ⟨rfl, m, rfl⟩)
          go_ret
          refine ⟨rfl, ?_, but_drewN hb _⟩
          rw [HDK.out]; exact HRK.out.drewN _
        · clear hk0
          go_wp2_with (go_at_call 68; refine (unhide HLK2 _ (by rfl)).mono ?_; rintro e w' ⟨rfl, m, rfl⟩)
          go_ret
          refine ⟨rfl, ?_, but_drewN hb _⟩
          rw [HDK.out]; exact HRK.out.drewN _
        · clear hk0
          go_wp2_with (go_at_call 68; refine (unhide HLK2 _ (by rfl)).mono ?_; rintro e w' ⟨rfl, m, rfl⟩)
          go_ret
          refine ⟨rfl, ?_, but_drewN hb _⟩
          rw [HDK.out]; exact HRK.out.drewN _

/-- num, as the specification's function has it: what it reads, or that it is bad. -/
theorem num_any (w : World) (R : Nat) (s : ByteArray) (at' : Nat) (hs : s.size ≤ 1048576) (h : Rdr w R s at' false) (ha : at' ≤ s.size) :
    Calls Tryz.prog 38 #[.pointer (some ⟨R, 0, none⟩)] w fun e w' => ∃ (n : Int) (a2 : Nat) (bad : Bool), e = .returned (.int .i64 n) ∧ I64 n ∧ a2 ≤ s.size ∧ Rdr w' R s a2 bad ∧ But R w w' ∧
      (∀ m rest, spNum (lf s at') = some (m, rest) → n = m ∧ bad = false ∧ lf s a2 = rest) ∧ (spNum (lf s at') = none → bad = true) := by
  have hb := bv_head s at' 45 (by decide)
  by_cases hv : bv s at' = 45
  · have hlt : at' < s.size := by
      by_cases hl : at' < s.size
      · exact hl
      · unfold bv at hv; rw [dif_neg hl] at hv; omega
    have hh : (lf s at').head? = some 45 := hb.2 hv
    have hsp : spNum (lf s at') = if dgs s (at' + 1) = [] then none else some (-(dval 0 (dgs s (at' + 1)) : Int), (lf s (at' + 1)).drop (dgs s (at' + 1)).length) := by
      unfold spNum
      simp only [hh, if_true]
      rw [lf_cons hlt]
      rfl
    have hl := dgs_len s (at' + 1)
    have hbd := dval_bd s (at' + 1) _ (Nat.le_refl _)
    rw [List.take_length] at hbd
    refine (num_neg w R s at' hs h hv hlt).mono ?_
    rintro e w' ⟨rfl, hr, hbt⟩
    refine ⟨_, _, _, rfl, ⟨by omega, by omega⟩, hl.2 (by omega), hr, hbt, fun m rest hm => ?_, fun hm => ?_⟩
    · rw [hsp] at hm
      split at hm
      · cases hm
      · rename_i hne
        simp only [Option.some.injEq, Prod.mk.injEq] at hm
        refine ⟨hm.1, decide_eq_false hne, ?_⟩
        rw [← hm.2]; unfold lf; rw [List.drop_drop]
    · rw [hsp] at hm
      split at hm
      · rename_i he; exact decide_eq_true he
      · cases hm
  · have hh : ¬ (lf s at').head? = some 45 := fun e => hv (hb.1 e)
    have hsp : spNum (lf s at') = if dgs s at' = [] then none else some ((dval 0 (dgs s at') : Int), (lf s at').drop (dgs s at').length) := by
      unfold spNum
      simp only [if_neg hh]
      rfl
    have hl := dgs_len s at'
    have hbd := dval_bd s at' _ (Nat.le_refl _)
    rw [List.take_length] at hbd
    refine (num_pos w R s at' hs h hv ha).mono ?_
    rintro e w' ⟨rfl, hr, hbt⟩
    refine ⟨_, _, _, rfl, ⟨by omega, by omega⟩, hl.2 (by omega), hr, hbt, fun m rest hm => ?_, fun hm => ?_⟩
    · rw [hsp] at hm
      split at hm
      · cases hm
      · rename_i hne
        simp only [Option.some.injEq, Prod.mk.injEq] at hm
        refine ⟨hm.1, decide_eq_false hne, ?_⟩
        rw [← hm.2]; unfold lf; rw [List.drop_drop]
    · rw [hsp] at hm
      split at hm
      · rename_i he; exact decide_eq_true he
      · cases hm
end Go.Proofs.YtgamonfmgngilaaGreatDoor

/- What the specification's reader has gathered of a list or form: its names and kids, in rows of the call's own. Definitions and small laws; no program walked, no conditions. -/

namespace Go.Proofs.YtgamonfmgngilaaGreatDoor
open Go Go.RowKit

def C5.list (c : C5) : List Value := [c.c0, c.c1, c.c2, c.c3, c.c4]

/-- Names and kids, in rows of the call's own. -/
structure GotT (base : Nat) (wr : World) (vN vK : Value) (ns : List ByteArray) (ks : List Tr) (xs : List Value) : Prop where
  names : wr.ownsRow base 9 1 vN ns.length (ns.map Value.string)
  small : ∀ x, x ∈ ns → x.size ≤ 9223372036854775807
  apart : ∀ b, vN.ownBlock = some b → vK.ownBlock ≠ some b
  kids : wr.ownsRow base 26 5 vK ks.length xs
  reps : ∀ i, (hi : i < ks.length) → ∃ c : C5, (xs.drop (i * 5)).take 5 = c.list ∧ Rep (fun b => base ≤ b ∧ b < wr.heap.size ∧ some b ≠ vN.ownBlock ∧ some b ≠ vK.ownBlock) wr ks[i] c

theorem GotT.start (base : Nat) (w : World) : GotT base w (.slice none 0 0) (.slice none 0 0) [] [] [] :=
  ⟨World.ownsRow_nil _ _ _ _, fun _ h => by simp at h, fun _ h => by simp [Value.ownBlock] at h, World.ownsRow_nil _ _ _ _, fun i hi => by simp at hi⟩

/-- A world in which but one block that is none of these has turned. -/
theorem GotT.kept {base : Nat} {wr w' : World} {vN vK : Value} {ns : List ByteArray} {ks : List Tr} {xs : List Value} (h : GotT base wr vN vK ns ks xs) {R : Nat} (hR : R < base) (hb : But R wr w') : GotT base w' vN vK ns ks xs := by
  have hn : vN.ownBlock ≠ some R := fun e => by have := (h.names.lt R e).1; omega
  have hk : vK.ownBlock ≠ some R := fun e => by have := (h.kids.lt R e).1; omega
  refine ⟨h.names.kept hb (Or.inr hn), h.small, h.apart, h.kids.kept hb (Or.inr hk), fun i hi => ?_⟩
  obtain ⟨c, h1, h2⟩ := h.reps i hi
  exact ⟨c, h1, Rep.carry (fun b hb' => hb.at hb'.2.1 (by omega)) (fun b hb' => ⟨hb'.1, Nat.lt_of_lt_of_le hb'.2.1 hb.size, hb'.2.2⟩) _ _ h2⟩

theorem GotT.alloc {base : Nat} {wr : World} {vN vK : Value} {ns : List ByteArray} {ks : List Tr} {xs : List Value} (h : GotT base wr vN vK ns ks xs) (o : Obj) : GotT base (wr.alloc o) vN vK ns ks xs := by
  refine ⟨h.names.alloc o, h.small, h.apart, h.kids.alloc o, fun i hi => ?_⟩
  obtain ⟨c, h1, h2⟩ := h.reps i hi
  exact ⟨c, h1, Rep.carry (fun b hb' => Below.heap_alloc _ _ _ hb'.2.1) (fun b hb' => ⟨hb'.1, by simp; omega, hb'.2.2⟩) _ _ h2⟩

theorem sepK {vN vK : Value} (h : ∀ b, vN.ownBlock = some b → vK.ownBlock ≠ some b) : vK.ownBlock = none ∨ vK.ownBlock ≠ vN.ownBlock := by
  cases hK : vK.ownBlock with
  | none => exact Or.inl rfl
  | some b => exact Or.inr fun e => h b e.symm hK
theorem sepN {vN vK : Value} (h : ∀ b, vN.ownBlock = some b → vK.ownBlock ≠ some b) : vN.ownBlock = none ∨ vN.ownBlock ≠ vK.ownBlock := by
  cases hN : vN.ownBlock with
  | none => exact Or.inl rfl
  | some b => exact Or.inr fun e => h b hN e.symm

/-- A name more. -/
theorem GotT.name {base : Nat} {wr w' : World} {vN vN' vK : Value} {ns : List ByteArray} {ks : List Tr} {xs : List Value} {nm : ByteArray} (h : GotT base wr vN vK ns ks xs) (hnm : nm.size ≤ 9223372036854775807)
    (hown : w'.ownsRow base 9 1 vN' (ns.length + 1) (ns.map Value.string ++ [.string nm])) (hg : wr.grownBy w' vN.ownBlock) (hv : vN'.ownBlock = vN.ownBlock ∨ ∃ g, vN'.ownBlock = some g ∧ wr.heap.size ≤ g) :
    GotT base w' vN' vK (ns ++ [nm]) ks xs := by
  have hkl := h.kids.lt
  refine ⟨by simpa using hown, fun x hx => ?_, fun b hb e => ?_, h.kids.kept hg (sepK h.apart), fun i hi => ?_⟩
  · rcases List.mem_append.1 hx with hx | hx
    · exact h.small x hx
    · simp at hx; subst hx; exact hnm
  · rcases hv with e2 | ⟨g, e2, hgg⟩
    · exact h.apart b (by rw [← e2]; exact hb) e
    · rw [e2] at hb
      simp only [Option.some.injEq] at hb
      have := (hkl b e).2
      omega
  · obtain ⟨c, h1, h2⟩ := h.reps i hi
    refine ⟨c, h1, Rep.carry (fun b hb' => hg.block b hb'.2.1 hb'.2.2.1) (fun b hb' => ⟨hb'.1, Nat.lt_of_lt_of_le hb'.2.1 hg.size, ?_, hb'.2.2.2⟩) _ _ h2⟩
    rcases hv with e2 | ⟨g, e2, hgg⟩
    · rw [e2]; exact hb'.2.2.1
    · rw [e2]; intro e; simp only [Option.some.injEq] at e; have := hb'.2.1; omega

/-- A kid more: it lies in blocks that are newer than all that was gathered, or was gathered by none. -/
theorem GotT.kid {base : Nat} {wr w' : World} {vN vK vK' : Value} {ns : List ByteArray} {ks : List Tr} {xs : List Value} {t : Tr} {c : C5} (h : GotT base wr vN vK ns ks xs)
    (hc : Rep (fun b => base ≤ b ∧ b < wr.heap.size ∧ some b ≠ vN.ownBlock ∧ some b ≠ vK.ownBlock) wr t c)
    (hown : w'.ownsRow base 26 5 vK' (ks.length + 1) (xs ++ c.list)) (hg : wr.grownBy w' vK.ownBlock) (hv : vK'.ownBlock = vK.ownBlock ∨ ∃ g, vK'.ownBlock = some g ∧ wr.heap.size ≤ g) :
    GotT base w' vN vK' ns (ks ++ [t]) (xs ++ c.list) := by
  have hnl := h.names.lt
  have hcar : ∀ (t : Tr) (c : C5), Rep (fun b => base ≤ b ∧ b < wr.heap.size ∧ some b ≠ vN.ownBlock ∧ some b ≠ vK.ownBlock) wr t c → Rep (fun b => base ≤ b ∧ b < w'.heap.size ∧ some b ≠ vN.ownBlock ∧ some b ≠ vK'.ownBlock) w' t c := fun t c h2 => by
    refine Rep.carry (fun b hb' => hg.block b hb'.2.1 hb'.2.2.2) (fun b hb' => ⟨hb'.1, Nat.lt_of_lt_of_le hb'.2.1 hg.size, hb'.2.2.1, ?_⟩) _ _ h2
    rcases hv with e2 | ⟨g, e2, hgg⟩
    · rw [e2]; exact hb'.2.2.2
    · rw [e2]; intro e; simp only [Option.some.injEq] at e; have := hb'.2.1; omega
  have hxl : xs.length = ks.length * 5 := h.kids.1
  refine ⟨h.names.kept hg (sepN h.apart), h.small, fun b hb e => ?_, by simpa using hown, fun i hi => ?_⟩
  · rcases hv with e2 | ⟨g, e2, hgg⟩
    · exact h.apart b hb (by rw [← e2]; exact e)
    · rw [e2] at e
      simp only [Option.some.injEq] at e
      have := (hnl b hb).2
      omega
  · by_cases e : i = ks.length
    · subst e
      refine ⟨c, ?_, ?_⟩
      · rw [← hxl, List.drop_left]; rfl
      · simpa using hcar t c hc
    · have hi' : i < ks.length := by simp at hi; omega
      obtain ⟨d, h1, h2⟩ := h.reps i hi'
      refine ⟨d, ?_, ?_⟩
      · rw [List.drop_append_of_le_length (by omega), List.take_append_of_le_length (by rw [List.length_drop]; omega)]; exact h1
      · rw [List.getElem_append_left hi']; exact hcar _ _ h2

/-- What was gathered is a tree. -/
theorem GotT.done {base : Nat} {wr : World} {vN vK : Value} {ns : List ByteArray} {ks : List Tr} {xs : List Value} (h : GotT base wr vN vK ns ks xs) (s : Int) (hs : I64 s) :
    Rep (fun b => base ≤ b ∧ b < wr.heap.size) wr (.mk s 0 ByteArray.empty ns ks) ⟨.int .i64 s, .int .i64 0, .string ByteArray.empty, vN, vK⟩ := by
  rw [Rep]
  refine ⟨rfl, rfl, rfl, hs, ⟨by omega, by omega⟩, by simp, ?_, ?_⟩
  · rcases h.names.2 with ⟨hv, hn0⟩ | ⟨g, cap, cur, hv, hgb, hh, hle, hm2, hsz, htk⟩
    · refine ⟨none, 0, by rw [hv, hn0], by omega, fun i hi => by omega⟩
    · refine ⟨some ⟨g, 0, none⟩, cap, hv, by unfold maxLen at hm2; omega, fun i hi => ⟨g, 0, rfl, ⟨hgb, (Array.getElem?_eq_some_iff.1 hh).1⟩, ?_, h.small _ (List.getElem_mem hi)⟩⟩
      have h1 : (ns.map Value.string)[i]? = some (.string ns[i]) := by simp [hi]
      rw [← htk, List.getElem?_take_of_lt (by omega)] at h1
      simp only [Nat.zero_add, World.cell?, hh]
      simpa using h1
  · rcases h.kids.2 with ⟨hv, hn0⟩ | ⟨g, cap, cur, hv, hgb, hh, hle, hm2, hsz, htk⟩
    · exact ⟨none, 0, by rw [hv, hn0], by omega, fun hk => absurd (List.eq_nil_of_length_eq_zero hn0) hk⟩
    · refine ⟨some ⟨g, 0, none⟩, cap, hv, by unfold maxLen at hm2; omega, fun _ => ⟨g, 0, rfl, ⟨hgb, (Array.getElem?_eq_some_iff.1 hh).1⟩, RepK.mk fun i hi => ?_⟩⟩
      obtain ⟨c, h1, h2⟩ := h.reps i hi
      refine ⟨c, ?_, Rep.carry (fun _ _ => rfl) (fun b hb => ⟨hb.1, hb.2.1⟩) _ _ h2⟩
      have key : ∀ j, j < 5 → wr.cell? ⟨g, 0 + i * 5 + j, none⟩ = c.list[j]? := fun j hj => by
        rw [← h1, List.getElem?_take_of_lt hj, List.getElem?_drop, ← htk, List.getElem?_take_of_lt (by omega)]
        simp only [Nat.zero_add, World.cell?, hh]
        simp
      exact ⟨key 0 (by omega), key 1 (by omega), key 2 (by omega), key 3 (by omega), key 4 (by omega)⟩
end Go.Proofs.YtgamonfmgngilaaGreatDoor
