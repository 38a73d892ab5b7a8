/- A part. -/
import Derived.Test.YtbkagahmiibclaaGreatDoorPart12
import Derived.Lib.ItoaLen
namespace Go.Proofs.YtbkagahmiibclaaGreatDoor
open Go Go.RowKit
set_option maxRecDepth 100000
set_option maxHeartbeats 6400000
def Rdr (w : World) (R : Nat) (s : ByteArray) (at' : Nat) (bad : Bool) : Prop := w.rowIs R 78 3 (row3 (.string s) (.int .i64 at') (.bool bad))
theorem Rdr.cells {w : World} {R : Nat} {s : ByteArray} {at' : Nat} {bad : Bool} (h : Rdr w R s at' bad) :
 w.cell? ⟨R, 0, none⟩ = some (.string s) ∧ w.cell? ⟨R, 1, none⟩ = some (.int .i64 at') ∧ w.cell? ⟨R, 2, none⟩ = some (.bool bad) ∧ w.frozen? ⟨R, 1, none⟩ = false ∧ w.frozen? ⟨R, 2, none⟩ = false :=
 ⟨World.rowIs.cell h (by omega), World.rowIs.cell h (by omega), World.rowIs.cell h (by omega), World.rowIs.frozen h 1, World.rowIs.frozen h 2⟩
theorem Rdr.lt {w : World} {R : Nat} {s : ByteArray} {at' : Nat} {bad : Bool} (h : Rdr w R s at' bad) : R < w.heap.size := World.rowIs.lt h
theorem Rdr.below {w w' : World} {R : Nat} {s : ByteArray} {at' : Nat} {bad : Bool} (h : Rdr w R s at' bad) (hb : Below w.heap.size w w') : Rdr w' R s at' bad := World.rowIs.of_block h (hb.block R h.lt)
theorem Rdr.set1 {w : World} {R : Nat} {s : ByteArray} {at' : Nat} {bad : Bool} (h : Rdr w R s at' bad) (a : Nat) : Rdr (w.setCell ⟨R, 1, none⟩ (.int .i64 a)) R s a bad :=
 (World.rowIs.set h 1 _).congr fun i hi => by
   match i, hi with
   | 0, _ => rfl
   | 1, _ => rfl
   | 2, _ => rfl
theorem Rdr.set2 {w : World} {R : Nat} {s : ByteArray} {at' : Nat} {bad : Bool} (h : Rdr w R s at' bad) (b : Bool) : Rdr (w.setCell ⟨R, 2, none⟩ (.bool b)) R s at' b :=
 (World.rowIs.set h 2 _).congr fun i hi => by
   match i, hi with
   | 0, _ => rfl
   | 1, _ => rfl
   | 2, _ => rfl
theorem Rdr.drew {w : World} {R : Nat} {s : ByteArray} {at' : Nat} {bad : Bool} (h : Rdr w R s at' bad) : Rdr w.drew R s at' bad := h
def bv (s : ByteArray) (i : Nat) : Nat := if h : i < s.size then s[i].toNat else 0
def lf (s : ByteArray) (i : Nat) : List UInt8 := s.data.toList.drop i
theorem lf_cons {s : ByteArray} {i : Nat} (h : i < s.size) : lf s i = s[i] :: lf s (i + 1) := by
 unfold lf
 rw [List.drop_eq_getElem_cons (by simpa using h)]
 rfl
theorem lf_nil {s : ByteArray} {i : Nat} (h : s.size ≤ i) : lf s i = [] := by
 unfold lf; exact List.drop_eq_nil_of_le (by simpa using h)
theorem lf_len (s : ByteArray) (i : Nat) : (lf s i).length = s.size - i := by unfold lf; rw [List.length_drop]; rfl
theorem bv_head (s : ByteArray) (i : Nat) : ∀ c : UInt8, c ≠ 0 → ((lf s i).head? = some c ↔ bv s i = c.toNat) := by
 intro c hc
 unfold bv
 by_cases h : i < s.size
 · rw [lf_cons h, dif_pos h]
   simp only [List.head?_cons, Option.some.injEq]
   constructor
   · intro e; rw [e]
   · intro e; exact UInt8.toNat_inj.1 e
 · rw [lf_nil (by omega), dif_neg h]
   constructor
   · intro e; simp at e
   · intro e; exfalso; exact hc (UInt8.toNat_inj.1 e.symm)
theorem Rdr.drewN {w : World} {R : Nat} {s : ByteArray} {at' : Nat} {bad : Bool} (h : Rdr w R s at' bad) (n : Nat) : Rdr (w.drewN n) R s at' bad := h
theorem look_any (w : World) (R : Nat) (s : ByteArray) (at' : Nat) (bad : Bool) (h : Rdr w R s at' bad) :
 Calls Tryz.prog 78 #[.pointer (some ⟨R, 0, none⟩)] w fun e w' => e = .returned (.int .u8 (bv s at')) ∧ ∃ m, w' = w.drewN m := by
 obtain ⟨c0, c1, c2, f1, f2⟩ := h.cells
 clear h
 by_cases hlt : at' < s.size
 · have hbv : bv s at' = s[at'].toNat := by unfold bv; rw [dif_pos hlt]
   rw [hbv]
   clear hbv
   go_enter Tryz.func78, Tryz.ntmps78
   go_wp2_with fail
   go_quiet (fail)
   go_wp2_with fail
   go_quiet (fail)
   go_wp2_with fail
   go_ret
   exact ⟨rfl, _, by rw [World.drewN_drewN]⟩
 · have hbv : bv s at' = 0 := by unfold bv; rw [dif_neg hlt]
   rw [hbv]
   clear hbv
   go_enter Tryz.func78, Tryz.ntmps78
   go_wp2_with fail
   go_quiet (fail)
   go_wp2_with fail
   go_ret
   exact ⟨rfl, _, rfl⟩
theorem toList_loop (s : ByteArray) (n : Nat) : ∀ (i : Nat) (r : List UInt8), s.size - i = n → ByteArray.toList.loop s i r = r.reverse ++ s.data.toList.drop i := by
 induction n with
 | zero =>
   intro i r h
   unfold ByteArray.toList.loop
   rw [if_neg (by omega), List.drop_eq_nil_of_le (by simp only [Array.length_toList]; show s.size ≤ i; omega), List.append_nil]
 | succ n ih =>
   intro i r h
   unfold ByteArray.toList.loop
   have hi : i < s.size := by omega
   have e : s.get! i = s.data.toList[i]'(by simpa using hi) := by
    obtain ⟨d⟩ := s
    exact getElem!_pos d i hi
   have hdrop : s.data.toList.drop i = s.data.toList[i]'(by simpa using hi) :: s.data.toList.drop (i + 1) := List.drop_eq_getElem_cons (by simpa using hi)
   rw [if_pos hi, ih (i + 1) _ (by omega), hdrop, e, List.reverse_cons, List.append_assoc]
   rfl
theorem toList_data (s : ByteArray) : s.toList = s.data.toList := by
 have := toList_loop s s.size 0 [] (by omega)
 rw [List.drop_zero] at this
 exact this
theorem toList_beq (a b : ByteArray) : (a.toList == b.toList) = decide (a = b) := by
 rw [toList_data, toList_data, Bool.eq_iff_iff]
 simp only [beq_iff_eq, decide_eq_true_eq]
 constructor
 · intro h; exact ByteArray.ext (Array.toList_inj.1 h)
 · intro h; rw [h]
def pre (wd : ByteArray) (s : ByteArray) (i : Nat) : Bool := wd.data.toList.isPrefixOf (lf s i)
theorem pre_iff {wd s : ByteArray} {i : Nat} (h0 : 0 < wd.size) : pre wd s i = true ↔ (i + wd.size ≤ s.size ∧ s.extract i (i + wd.size) = wd) := by
 unfold pre
 rw [List.isPrefixOf_iff_prefix, List.prefix_iff_eq_take]
 have hl : wd.data.toList.length = wd.size := rfl
 have he : (s.extract i (i + wd.size)).data.toList = (lf s i).take wd.size := by
  unfold lf
  simp [List.take_drop]
 rw [hl]
 constructor
 · intro h
   have h2 := congrArg List.length h
   rw [List.length_take, lf_len, hl] at h2
   refine ⟨by omega, ?_⟩
   apply ByteArray.ext
   apply Array.toList_inj.1
   rw [he, ← h]
 · rintro ⟨h1, h2⟩
   rw [← he, h2]
theorem lf_after {wd s : ByteArray} {i : Nat} : lf s (i + wd.size) = (lf s i).drop wd.size := by
 unfold lf; rw [List.drop_drop]
theorem but_drewN {B : Nat} {w w' : World} (h : But B w w') (n : Nat) : But B w (w'.drewN n) := ⟨h.os, h.tape, h.output, h.size, h.block⟩
theorem eat_yes (w : World) (R : Nat) (s wd : ByteArray) (at' : Nat) (bad : Bool) (hs : s.size ≤ 1048576) (h : Rdr w R s at' bad) (ha : at' ≤ 2097152) (hw0 : 0 < wd.size) (hw : wd.size ≤ 16) (hp : pre wd s at' = true) :
 Calls Tryz.prog 51 #[.pointer (some ⟨R, 0, none⟩), .string wd] w fun e w' => e = .returned (.tuple #[]) ∧ Rdr w' R s (at' + wd.size) bad ∧ But R w w' := by
 obtain ⟨c0, c1, c2, f1, f2⟩ := h.cells
 obtain ⟨h1, h2⟩ := (pre_iff hw0).1 hp
 have H := hH h
 have hd : decide ((s.size : Int) < (at' : Int) + (wd.size : Int)) = false := by simp; omega
 have hi0 : (0 : Int) ≤ (at' : Int) := by omega
 have hi1 : (at' : Int) ≤ (at' : Int) + (wd.size : Int) := by omega
 have hi2 : (at' : Int) + (wd.size : Int) ≤ (s.size : Int) := by omega
 clear h hp
 go_enter Tryz.func51, Tryz.ntmps51
 go_wp2_with fail
 go_quiet (fail)
 go_wp2_with fail
 go_end0
 exact ⟨rfl, (H.out.drewN _).set1 _, (but_drewN (But.refl _ _) _).trans (But.set _ _ _)⟩
theorem eat_no (w : World) (R : Nat) (s wd : ByteArray) (at' : Nat) (bad : Bool) (hs : s.size ≤ 1048576) (h : Rdr w R s at' bad) (ha : at' ≤ 2097152) (hw0 : 0 < wd.size) (hw : wd.size ≤ 16) (hp : pre wd s at' = false) :
 Calls Tryz.prog 51 #[.pointer (some ⟨R, 0, none⟩), .string wd] w fun e w' => e = .returned (.tuple #[]) ∧ Rdr w' R s at' true ∧ But R w w' := by
 obtain ⟨c0, c1, c2, f1, f2⟩ := h.cells
 have H := hH h
 clear h
 by_cases h1 : at' + wd.size ≤ s.size
 · have h2 : ¬ s.extract at' (at' + wd.size) = wd := fun e => by rw [(pre_iff hw0).2 ⟨h1, e⟩] at hp; cases hp
   have hd : decide ((s.size : Int) < (at' : Int) + (wd.size : Int)) = false := by simp; omega
   have hi0 : (0 : Int) ≤ (at' : Int) := by omega
   have hi1 : (at' : Int) ≤ (at' : Int) + (wd.size : Int) := by omega
   have hi2 : (at' : Int) + (wd.size : Int) ≤ (s.size : Int) := by omega
   have hbe : ((s.extract at' (at' + wd.size)).toList == wd.toList) = false := by rw [toList_beq]; simpa using h2
   clear hp h2
   go_enter Tryz.func51, Tryz.ntmps51
   go_wp2_with fail
   go_quiet (fail)
   go_wp2_with fail
   (try simp only [Exit.inBlock, Exit.then]); refine bodyPost_ret (results_none rfl _ _ _) rfl ?_
   exact ⟨rfl, (H.out.drewN _).set2 _, (but_drewN (But.refl _ _) _).trans (But.set _ _ _)⟩
 · have hd : decide ((s.size : Int) < (at' : Int) + (wd.size : Int)) = true := by simp; omega
   clear hp
   go_enter Tryz.func51, Tryz.ntmps51
   go_wp2_with fail
   go_quiet (fail)
   go_wp2_with fail
   (try simp only [Exit.inBlock, Exit.then]); refine bodyPost_ret (results_none rfl _ _ _) rfl ?_
   exact ⟨rfl, (H.out.drewN _).set2 _, (but_drewN (But.refl _ _) _).trans (But.set _ _ _)⟩

def rn (p : UInt8 → Bool) (s : ByteArray) (i : Nat) : Nat := ((lf s i).takeWhile p).length
theorem rn_step {p : UInt8 → Bool} {s : ByteArray} {i : Nat} (h : i < s.size) (hp : p s[i] = true) : rn p s i = rn p s (i + 1) + 1 := by
 unfold rn; rw [lf_cons h]; simp [hp]
theorem rn_stop {p : UInt8 → Bool} {s : ByteArray} {i : Nat} (h : i < s.size) (hp : p s[i] = false) : rn p s i = 0 := by
 unfold rn; rw [lf_cons h]; simp [hp]
theorem rn_end {p : UInt8 → Bool} {s : ByteArray} {i : Nat} (h : s.size ≤ i) : rn p s i = 0 := by
 unfold rn; rw [lf_nil h]; simp
theorem rn_le (p : UInt8 → Bool) (s : ByteArray) (i : Nat) (h : i ≤ s.size) : i + rn p s i ≤ s.size := by
 unfold rn
 have := (List.takeWhile_prefix (p := p) (l := lf s i)).length_le
 rw [lf_len] at this
 omega
theorem rn_take (p : UInt8 → Bool) (s : ByteArray) (i : Nat) : s.extract i (i + rn p s i) = ⟨((lf s i).takeWhile p).toArray⟩ := by
 apply ByteArray.ext
 apply Array.toList_inj.1
 have h1 : (s.extract i (i + rn p s i)).data.toList = (lf s i).take (rn p s i) := by unfold lf; simp [List.take_drop]
 rw [h1]
 unfold rn
 exact (List.prefix_iff_eq_take.1 (List.takeWhile_prefix p)).symm
theorem rn_drop (p : UInt8 → Bool) (s : ByteArray) (i : Nat) : lf s (i + rn p s i) = (lf s i).dropWhile p := by
 have h1 : lf s (i + rn p s i) = (lf s i).drop (rn p s i) := by unfold lf; rw [List.drop_drop]
 rw [h1]
 unfold rn
 generalize lf s i = l
 have := List.takeWhile_append_dropWhile (p := p) (l := l)
 conv => lhs; arg 2; rw [← this]
 rw [List.drop_left]
theorem Rdr.heap {w w' : World} {R : Nat} {s : ByteArray} {a : Nat} {bad : Bool} (h : Rdr w R s a bad) (e : w'.heap = w.heap) : Rdr w' R s a bad := World.rowIs.of_block h (by rw [e])
def atOf (w : World) (R : Nat) : Nat := (intOf ((w.cell? ⟨R, 1, none⟩).getD undef)).toNat
theorem Rdr.atOf {w : World} {R : Nat} {s : ByteArray} {a : Nat} {bad : Bool} (h : Rdr w R s a bad) : atOf w R = a := by
 unfold Go.Proofs.YtbkagahmiibclaaGreatDoor.atOf; rw [h.cells.2.1]; simp [intOf]
theorem Rdr.meas {w : World} {R : Nat} {s : ByteArray} {a : Nat} {bad : Bool} (h : Rdr w R s a bad) {n : Nat} (h2 : a ≤ s.size) (h3 : n < a) : s.size - Go.Proofs.YtbkagahmiibclaaGreatDoor.atOf w R < s.size - n := by
 rw [h.atOf]; omega
theorem name_any (w : World) (R : Nat) (s : ByteArray) (at' : Nat) (bad : Bool) (hs : s.size ≤ 1048576) (h : Rdr w R s at' bad) (ha : at' ≤ s.size) :
 Calls Tryz.prog 50 #[.pointer (some ⟨R, 0, none⟩)] w fun e w' => e = .returned (.string ⟨((lf s at').takeWhile nameByte).toArray⟩) ∧ Rdr w' R s (at' + rn nameByte s at') bad ∧ But R w w' := by
 have H := hH h
 obtain ⟨c0, c1, c2, f1, f2⟩ := h.cells
 rw [← rn_take]
 have hle := rn_le nameByte s at' ha
 generalize hr : rn nameByte s at' = r at *
 have HR := hH hr
 have hi0 : (0 : Int) ≤ (at' : Int) := by omega
 have hi1 : (at' : Int) ≤ (at' : Int) + (r : Int) := by omega
 have hi2 : (at' : Int) + (r : Int) ≤ (s.size : Int) := by omega
 clear h hr
 go_enter Tryz.func50, Tryz.ntmps50
 go_wp2_with fail
 go_loopw [] (fun wr => ∃ (j : Nat), at' ≤ j ∧ j ≤ s.size ∧ Hid (j + rn nameByte s j = at' + r) ∧ Hid (Rdr wr R s j bad) ∧ But R w wr) (fun wr => s.size - atOf wr R)
 case atStart => exact ⟨at', Nat.le_refl _, ha, hH (by show _ = _; rw [HR.out]), H, But.refl _ _⟩
 case round =>
  obtain ⟨j, hj0, hj1, HJ, HRj, hb⟩ := hrel
  obtain ⟨y0, y1, y2, g1, g2⟩ := HRj.out.cells
  have hat := HRj.out.atOf
  have HLK := hH (fun W (hW : W.heap = wr.heap) => look_any W R s j bad (HRj.out.heap hW))
  have hv : (97 ≤ bv s j ∧ bv s j ≤ 122) ∨ 122 < bv s j ∨ (57 < bv s j ∧ bv s j < 97) ∨ (48 ≤ bv s j ∧ bv s j ≤ 57) ∨ bv s j < 48 := by omega
  have hgo : (97 ≤ bv s j ∧ bv s j ≤ 122) ∨ (48 ≤ bv s j ∧ bv s j ≤ 57) → j < s.size ∧ j + 1 + rn nameByte s (j + 1) = at' + r := fun hh => by
   have hlt : j < s.size := by
    by_cases hl : j < s.size
    · exact hl
    · unfold bv at hh; rw [dif_neg hl] at hh; omega
   have hb2 : bv s j = s[j].toNat := by unfold bv; rw [dif_pos hlt]
   rw [hb2] at hh
   have := rn_step (p := nameByte) hlt (nameByte_yes hh)
   have := HJ.out
   exact ⟨hlt, by omega⟩
  have hend : ¬ ((97 ≤ bv s j ∧ bv s j ≤ 122) ∨ (48 ≤ bv s j ∧ bv s j ≤ 57)) → j = at' + r := fun hh => by
   have := HJ.out
   by_cases hlt : j < s.size
   · have hb2 : bv s j = s[j].toNat := by unfold bv; rw [dif_pos hlt]
     rw [hb2] at hh
     have := rn_stop (p := nameByte) hlt (nameByte_no (by omega))
     omega
   · have := rn_end (p := nameByte) (s := s) (i := j) (by omega)
     omega
  have HGO := hH hgo; have HEND := hH hend
  generalize bv s j = v at *
  clear hgo hend HR H
  rcases hv with hv | hv | hv | hv | hv
  · obtain ⟨hlt, hjn⟩ := HGO.out (Or.inl hv)
    have HJN := hH hjn
    obtain ⟨hv1, hv2⟩ := hv
    clear hjn HGO HEND
    go_wp2_with (go_at_call 78; refine (uh HLK _ (by rfl)).mono ?_; rintro e w' ⟨rfl, m, rfl⟩)
    go_roundw
    case rel => exact ⟨j + 1, by omega, by omega, HJN, hH ((HRj.out.heap rfl).set1 _), (but_drewN hb _).trans (But.set _ _ _)⟩
    case measure => rw [hat]; exact Rdr.meas ((HRj.out.heap rfl).set1 (j + 1)) (by omega) (by omega)
  · have he := HEND.out (by omega)
    have hv2 : 97 ≤ v := by omega
    have hv3 : 48 ≤ v := by omega
    have hv4 : 57 < v := by omega
    subst he
    clear HGO HEND
    go_wp2_with (go_at_call 78; refine (uh HLK _ (by rfl)).mono ?_; rintro e w' ⟨rfl, m, rfl⟩)
    go_quiet (fail)
    go_wp2_with fail
    go_ret
    exact ⟨rfl, HRj.out.heap rfl, but_drewN (but_drewN hb _) _⟩
  · have he := HEND.out (by omega)
    have hv2 : v < 97 := by omega
    have hv3 : 48 ≤ v := by omega
    have hv4 : 57 < v := by omega
    subst he
    clear HGO HEND hv
    go_wp2_with (go_at_call 78; refine (uh HLK _ (by rfl)).mono ?_; rintro e w' ⟨rfl, m, rfl⟩)
    go_quiet (fail)
    go_wp2_with fail
    go_ret
    exact ⟨rfl, HRj.out.heap rfl, but_drewN (but_drewN hb _) _⟩
  · obtain ⟨hlt, hjn⟩ := HGO.out (Or.inr hv)
    have HJN := hH hjn
    obtain ⟨hv1, hv2⟩ := hv
    have hv3 : v < 97 := by omega
    clear hjn HGO HEND
    go_wp2_with (go_at_call 78; refine (uh HLK _ (by rfl)).mono ?_; rintro e w' ⟨rfl, m, rfl⟩)
    go_roundw
    case rel => exact ⟨j + 1, by omega, by omega, HJN, hH ((HRj.out.heap rfl).set1 _), (but_drewN hb _).trans (But.set _ _ _)⟩
    case measure => rw [hat]; exact Rdr.meas ((HRj.out.heap rfl).set1 (j + 1)) (by omega) (by omega)
  · have he := HEND.out (by omega)
    have hv2 : v < 97 := by omega
    subst he
    clear HGO HEND
    go_wp2_with (go_at_call 78; refine (uh HLK _ (by rfl)).mono ?_; rintro e w' ⟨rfl, m, rfl⟩)
    go_quiet (fail)
    go_wp2_with fail
    go_ret
    exact ⟨rfl, HRj.out.heap rfl, but_drewN (but_drewN hb _) _⟩
def w1 (c : UInt8) : ByteArray := ⟨#[c]⟩
theorem pre_one (c : UInt8) (s : ByteArray) (i : Nat) : pre (w1 c) s i = decide ((lf s i).head? = some c) := by
 unfold pre w1
 cases lf s i with
 | nil => rfl
 | cons a r => simp [List.isPrefixOf, eq_comm, Bool.beq_eq_decide_eq]
theorem lf_next (s : ByteArray) (i : Nat) : lf s (i + 1) = (lf s i).tail := by
 unfold lf; rw [← List.drop_drop]; simp
theorem pre_room {wd s : ByteArray} {i : Nat} (h0 : 0 < wd.size) (h : pre wd s i = true) : i + wd.size ≤ s.size := ((pre_iff h0).1 h).1

def evT (ty : ByteArray) (v : Int) (t : Tr) : List UInt8 := ty.data.toList ++ 64 :: (Lib.itoa v ++ txT t)
theorem evOk_open {ty : ByteArray} {v : Int} {t : Tr} (h : evOkB ty v t = true) : nameOkB ty = true ∧ 1 ≤ v ∧ v ≤ 12 ∧ t.sort = 5 ∧ wlk t 0 0 = some (pT t 1) := by
 unfold evOkB at h
 simp only [Bool.and_eq_true, decide_eq_true_eq] at h
 exact ⟨h.1.1.1, h.1.1.2.1, h.1.1.2.2, h.1.2, wlk_ok.2 ⟨h.2, rfl⟩⟩
theorem nd_form {t : Tr} (h : t.sort = 5) (rest : List UInt8) : nd (txT t ++ rest) := by
 rw [txT_eq, if_neg (by omega), if_neg (by omega), if_neg (by omega), if_neg (by omega), if_pos h]
 intro c hc
 simp at hc
 subst hc
 rfl
theorem nmty_size {ty : ByteArray} (h : nameOkB ty = true) : ty.size ≤ 8 ∧ 1 ≤ ty.size := by
 unfold nameOkB at h
 simp only [Bool.and_eq_true, decide_eq_true_eq] at h
 omega
theorem ev_parts {ty : ByteArray} {v : Int} {t : Tr} (h : evOkB ty v t = true) {L : List UInt8} (hL : evT ty v t = L) :
 L.takeWhile nameByte = ty.data.toList ∧ ((L.take 8).takeWhile nameByte).length = ty.size ∧ L.drop ty.size = 64 :: (Lib.itoa v ++ txT t) ∧ numRun (Lib.itoa v ++ txT t) = (Lib.itoa v, txT t) ∧ spNum (Lib.itoa v ++ txT t) = some (v, txT t) ∧ rdT 6 (txT t) 0 = some (t, [], pT t 1) ∧ spT 6 (txT t) () = some (t, [], ()) := by
 obtain ⟨h1, h2, h3, h4, h5⟩ := evOk_open h
 obtain ⟨hn, hne⟩ := nameOk_bytes h1
 have hsz := (nmty_size h1).1
 have hls : ty.data.toList.length = ty.size := rfl
 have hnd : nd (txT t) := by have := nd_form h4 []; simpa using this
 have htw := tw_append (p := nameByte) (l := ty.data.toList) (rest := 64 :: (Lib.itoa v ++ txT t)) hn (fun c hc => by simp at hc; subst hc; decide)
 subst hL
 unfold evT
 refine ⟨htw.1, ?_, ?_, num_run v _ hnd, sp_num v (by omega) (by omega) _ hnd, ?_, ?_⟩
 · rw [List.take_append]
   have : (ty.data.toList.take 8) = ty.data.toList := List.take_of_length_le (by omega)
   rw [this, hls]
   have e := tw_append (p := nameByte) (l := ty.data.toList) (rest := (64 :: (Lib.itoa v ++ txT t)).take (8 - ty.size)) hn (fun c hc => by
    cases hk : 8 - ty.size with
    | zero => rw [hk] at hc; simp at hc
    | succ k => rw [hk] at hc; simp at hc; subst hc; decide)
   rw [e.1, hls]
 · rw [← hls, List.drop_left]
 · have := rdT_complete 6 t 0 (pT t 1) [] (by simpa using h5) nd_nil
   rwa [List.append_nil] at this
 · have := spT_complete 6 t 0 (pT t 1) [] (by simpa using h5) nd_nil
   rwa [List.append_nil] at this
theorem ev_unique {ty ty' : ByteArray} {v v' : Int} {t t' : Tr} (h : evOkB ty v t = true) (h' : evOkB ty' v' t' = true) {L : List UInt8} (e : evT ty v t = L) (e' : evT ty' v' t' = L) : (ty, v, t) = (ty', v', t') := by
 obtain ⟨a1, -, a3, a4, -, a6, -⟩ := ev_parts h e
 obtain ⟨b1, -, b3, b4, -, b6, -⟩ := ev_parts h' e'
 have hty : ty = ty' := by
  apply ByteArray.ext
  apply Array.toList_inj.1
  rw [← a1, ← b1]
 subst hty
 rw [a3] at b3
 simp only [List.cons.injEq, true_and] at b3
 rw [b3, b4] at a4
 simp only [Prod.mk.injEq] at a4
 have hv : v' = v := by
  obtain ⟨-, g2, g3, -⟩ := evOk_open h
  obtain ⟨-, k2, k3, -⟩ := evOk_open h'
  exact itoa_inj ⟨by omega, by omega⟩ ⟨by omega, by omega⟩ a4.1
 subst hv
 rw [a4.2, a6] at b6
 simp only [Option.some.injEq, Prod.mk.injEq] at b6
 rw [b6.1]
def EvR (L : List UInt8) (ty : ByteArray) (v : Int) (t : Tr) : Prop := evOkB ty v t = true ∧ evT ty v t = L
theorem numRun_cat (inp : List UInt8) : (numRun inp).1 ++ (numRun inp).2 = inp := by
 unfold numRun
 split
 · rename_i h
   cases inp with
   | nil => simp at h
   | cons c r =>
     simp only [List.head?_cons, Option.some.injEq] at h
     subst h
     simp [List.takeWhile_append_dropWhile]
 · simp [List.takeWhile_append_dropWhile]
theorem ev_all {s ty : ByteArray} {v : Int} {t : Tr} (h : EvR s.data.toList ty v t) :
 s.size ≤ 10000 ∧ s.extract 0 (tE s) = ty ∧ (lf s (tE s)).head? = some 64 ∧ numRun (lf s (tE s + 1)) = (Lib.itoa v, txT t) ∧ Lib.atoiAll (Lib.itoa v) = .ok v ∧ rdT 6 (txT t) 0 = some (t, [], pT t 1) := by
 obtain ⟨h1, h2⟩ := h
 obtain ⟨a1, a2, a3, a4, -, a6, -⟩ := ev_parts h1 h2
 obtain ⟨b1, b2, b3, b4, b5⟩ := evOk_open h1
 have hte : tE s = ty.size := a2
 have hsz : s.data.toList.length = s.size := rfl
 have hty : ty.data.toList.length = ty.size := rfl
 have hl : lf s ty.size = 64 :: (Lib.itoa v ++ txT t) := a3
 refine ⟨?_, ?_, ?_, ?_, atoi_itoa v (by omega) (by omega), a6⟩
 · have hn := (nmty_size b1).1
   have hi := itoa_short (n := v) ⟨by omega, by omega⟩
   have ht := txT_small b5
   rw [← hsz, ← h2]
   unfold evT
   simp only [List.length_append, List.length_cons]
   omega
 · rw [hte]
   apply ByteArray.ext
   apply Array.toList_inj.1
   have e : (s.extract 0 ty.size).data.toList = s.data.toList.take ty.size := by simp
   rw [e, ← h2]
   unfold evT
   rw [← hty, List.take_left]
 · rw [hte, hl]; rfl
 · rw [hte, lf_next, hl]
   exact a4
theorem ev_make {s : ByteArray} {n : Int} {t : Tr} {q : Int} (h64 : (lf s (tE s)).head? = some 64) (hn : Lib.itoa n = (numRun (lf s (tE s + 1))).1) (hr : rdT 6 (numRun (lf s (tE s + 1))).2 0 = some (t, [], q)) : evT (s.extract 0 (tE s)) n t = s.data.toList := by
 have h1 := (rdT_sound 6 _ _ _ _ _ (Nat.le_refl _) hr).1
 rw [List.append_nil] at h1
 unfold evT
 rw [hn, ← h1, numRun_cat, lf_next]
 have e : (s.extract 0 (tE s)).data.toList = s.data.toList.take (tE s) := by simp
 rw [e]
 have e2 : (64 : UInt8) :: (lf s (tE s)).tail = lf s (tE s) := by
  cases hl : lf s (tE s) with
  | nil => rw [hl] at h64; simp at h64
  | cons c r => rw [hl] at h64; simp only [List.head?_cons, Option.some.injEq] at h64; rw [h64]; rfl
 rw [e2]
 exact List.take_append_drop _ _
theorem ev_wlk {t : Tr} {inp rest : List UInt8} {q : Int} (hr : rdT 6 inp 0 = some (t, rest, q)) : wlk t 0 0 = some q := by
 have := (rdT_sound 6 _ _ _ _ _ (Nat.le_refl _) hr).2
 simpa using this

theorem ByRow.take {base : Nat} {w : World} {g n cap : Nat} {l : List UInt8} (h : ByRow base w (.slice (some ⟨g, 0, none⟩) n cap) l) (i : Nat) (hi : i ≤ n) : ByRow base w (.slice (some ⟨g, 0, none⟩) i cap) (l.take i) := by
 rcases h.2 with ⟨hv, _⟩ | ⟨g', cap', cur, hv, hb, hg, hnc, hcm, hcs, htk⟩
 · simp at hv
 · simp only [Value.slice.injEq, Option.some.injEq, Addr.mk.injEq, and_true] at hv
   obtain ⟨rfl, rfl, rfl⟩ := hv
   have hl : (l.take i).length = i := by rw [List.length_take]; omega
   refine ⟨by rw [bc_len, Nat.mul_one], Or.inr ⟨g, cap, cur, by rw [hl], hb, hg, by omega, hcm, hcs, ?_⟩⟩
   rw [hl]
   rw [Nat.mul_one] at htk ⊢
   have e : bc (l.take i) = (bc l).take i := by simp [bc, List.map_take]
   rw [e, ← htk, List.take_take, Nat.min_eq_left hi]
theorem ByRow.keep {base R : Nat} {w w' : World} {g n cap : Nat} {l : List UInt8} (h : ByRow base w (.slice (some ⟨g, 0, none⟩) n cap) l) (hb : But R w w') (hg : g < w.heap.size) (hne : g ≠ R) : ByRow base w' (.slice (some ⟨g, 0, none⟩) n cap) l :=
 h.of_block fun x e => by
  obtain rfl : g = x := by simpa [Value.ownBlock] using e
  exact hb.at hg hne
theorem ByRow.frozen {base : Nat} {w : World} {g n cap : Nat} {l : List UInt8} (h : ByRow base w (.slice (some ⟨g, 0, none⟩) n cap) l) (j : Nat) : w.frozen? ⟨g, j, none⟩ = false := by
 rcases h.2 with ⟨hv, _⟩ | ⟨g', cap', cur, hv, hb, hg, _⟩
 · simp at hv
 · simp only [Value.slice.injEq, Option.some.injEq, Addr.mk.injEq, and_true] at hv
   obtain ⟨rfl, rfl, rfl⟩ := hv
   simp [World.frozen?, hg]
theorem But.low {R m : Nat} {w w1 w2 : World} (h : But R w w1) (hb : Below m w1 w2) (hm : w.heap.size ≤ m) : But R w w2 :=
 ⟨hb.os.trans h.os, hb.tape.trans h.tape, hb.output.trans h.output, Nat.le_trans h.size hb.size, fun x hx hne => (hb.block x (Nat.lt_of_lt_of_le hx hm)).trans (h.block x hx hne)⟩
theorem u8_any (z : Int) : ∃ x : UInt8, IntKind.u8.wrap z = (x.toNat : Int) := by
 refine ⟨UInt8.ofNat (z % 256).toNat, ?_⟩
 rw [IntKind.wrap_u8, u8_nat _ (by omega)]
 omega
theorem ByRow.setU {base : Nat} {w : World} {g n cap : Nat} {l : List UInt8} (h : ByRow base w (.slice (some ⟨g, 0, none⟩) n cap) l) (j : Nat) (z : Int) : ∃ l' : List UInt8, l'.length = l.length ∧ ByRow base (w.setCell ⟨g, j, none⟩ (.int .u8 (IntKind.u8.wrap z))) (.slice (some ⟨g, 0, none⟩) n cap) l' := by
 obtain ⟨x, hx⟩ := u8_any z
 exact ⟨l.set j x, List.length_set, by rw [hx]; exact h.set j x⟩
theorem packB_len (ty : ByteArray) (ver : Int) (t : Tr) : (packB ty ver t).length ≤ 9000 := by
 unfold packB
 split
 · rename_i hok
   obtain ⟨q1, -, -, -, q5⟩ := evOk_open hok
   exact eventB_len (nmty_size q1).1 (wlk_ok.1 q5).1
 · simp
theorem ByRow.nil (W : World) {base : Nat} (hb : base ≤ W.heap.size) : ByRow base (W.alloc (.cells #[] 5)) (.slice (some ⟨W.heap.size, 0, none⟩) 0 0) [] := by
 refine ⟨rfl, Or.inr ⟨W.heap.size, 0, #[], rfl, hb, ?_, Nat.le_refl _, by decide, rfl, rfl⟩⟩
 show (W.heap.push _)[W.heap.size]? = _
 simp
theorem row_cells {W : World} {g : Nat} (l : List UInt8) (o : Nat) (h : ∀ j, (hj : j < l.length) → W.cell? ⟨g, o + j, none⟩ = some (.int .u8 l[j].toNat)) : ∀ j u, (bc l)[j]? = some u → W.cell? ((⟨g, o, none⟩ : Addr).add j) = some u := fun j u hu => by
 obtain ⟨hj, e⟩ := List.getElem?_eq_some_iff.1 hu
 have hj' : j < l.length := by simpa [bc] using hj
 rw [Addr.add_lit, h j hj', ← e]
 simp [bc]
theorem But.cell {R : Nat} {w w' : World} (h : But R w w') {g o : Nat} (hg : g < w.heap.size) (hne : g ≠ R) : w'.cell? ⟨g, o, none⟩ = w.cell? ⟨g, o, none⟩ := World.cell?_of_block (h.at hg hne)
theorem pick_2 {R p : Nat} {w6 : World} {v : Value} {b : List UInt8} (W : World) (hW : Below w6.heap.size w6 W) {f : FuncId} {args : Array Value} (h : Calls Tryz.prog f args W fun e w' => PickEnd R W w' v b p 2 e) (hR : R < w6.heap.size) :
 Calls Tryz.prog f args W fun e w' => ∃ (k : Nat) (x : UInt8), e = .returned (.int .i64 (k : Int)) ∧ k < 2 ∧ IntKind.i64.wrap ((k : Int) * (-128)) = (k : Int) * (-128) ∧ IntKind.i64.wrap (128 + (k : Int) * (-128)) = 128 + (k : Int) * (-128) ∧ IntKind.u8.wrap (128 + (k : Int) * (-128)) = (x.toNat : Int) ∧ Hid (But R w6 w') ∧ Hid (W.heap.size ≤ w'.heap.size) ∧ Hid (∀ v l, ByRow w6.heap.size W v l → ByRow w6.heap.size w' v l) := by
 refine h.mono ?_
 rintro e w' ⟨k, rfl, hk, -, hb⟩
 obtain ⟨x, hx⟩ := u8_any (128 + (k : Int) * (-128))
 refine ⟨k, x, rfl, hk, by rw [IntKind.wrap_i64]; omega, by rw [IntKind.wrap_i64]; omega, hx, (But.of_below hW).trans hb.out, hb.out.size, fun v l hr => hr.of_block fun g e => ?_⟩
 have := hr.own g e
 exact hb.out.at this.2 (by omega)
theorem row_one (W : World) (x : UInt8) : (W.alloc (.cells #[.int .u8 x.toNat] 5)).rowIs W.heap.size 5 1 (fun _ => .int .u8 x.toNat) := World.rowIs_alloc W #[.int .u8 x.toNat] _ _ (fun i hi => by
 obtain rfl : i = 0 := by simp at hi; omega
 rfl)
theorem one_at {W w8 : World} {v : Value} {g : Nat} {x : UInt8} (hG : ∀ y, y < W.heap.size → v.ownBlock ≠ some y → w8.heap[y]? = W.heap[y]?) (hrow : W.rowIs g 5 1 (fun _ => .int .u8 x.toNat)) (hne : v.ownBlock ≠ some g) : ∀ j u, (bc [x])[j]? = some u → w8.cell? ((⟨g, 0, none⟩ : Addr).add j) = some u :=
 row_cells [x] 0 fun j hj => by
  obtain rfl : j = 0 := by simp at hj; omega
  exact (hrow.of_block (hG g hrow.lt hne)).cell (i := 0) (by omega)
theorem step_bytes0 (w : World) {ops : Array Oper} {o : Oper} {a : Act} {K : Act → World → Prop} {Q : Exit → Act → World → Prop} {E : Prop}
 (hg : o.guard = none) (s x : Operand) (hop : o.op = Op.call { callee := Callee.builtin Builtin.append, args := #[s, x], argTypes := #[22, 22] })
 (base : Nat) (v : Value) (l news r : List UInt8) (hr : l ++ news = r) (hown : ByRow base w v l) (hs : a.eval s = v)
 (ad : Addr) (m c : Nat) (hx : a.eval x = .slice (some ad) m c) (hm : m = news.length) (hc : ∀ j u, (bc news)[j]? = some u → w.cell? (ad.add j) = some u)
 (hlen : l.length + news.length ≤ 1099511627776) (hbase : base ≤ w.heap.size)
 (hK : ∀ a' n' cap' w', Hid (n' = r.length) → Hid (ByRow base w' (.slice a' n' cap') r) → Hid (Below base w w') → Hid (∀ g, g < w.heap.size → v.ownBlock ≠ some g → w'.heap[g]? = w.heap[g]?) → K (a.put o.dst (.slice a' n' cap')) w') :
 if Region.wanted o (yielded ops a.tmps) = true then Oper.wp Tryz.prog o a w K Q else E := by
 obtain ⟨i0, hi, hz0, hz1, hz2⟩ := info_parts infoU8
 subst hm hr
 obtain ⟨v', w', hrun, r1, r2, -, -⟩ := run_append_own_at (P := Tryz.prog) w base 22 o.type 5 i0 (.int .u8 0) 1 1 Tryz.underlying22 hi hz0 hz1 hz2 rfl (by decide) v l.length (bc l) hown ad news.length c (bc news) (by rw [bc_len, Nat.mul_one]) hc (fun u hu => by obtain ⟨_, _, rfl⟩ := List.mem_map.1 hu; rfl) (by unfold maxLen; omega) (by omega) hbase
 have hr : ByRow base w' v' (l ++ news) := by
  show w'.ownsRow base 5 1 v' (l ++ news).length (bc (l ++ news))
  rw [bc_append, List.length_append]; exact r1
 obtain ⟨a', cap', rfl⟩ := hr.slice
 have hw : Region.wanted o (yielded ops a.tmps) = true := by simp [Region.wanted, hg]
 rw [if_pos hw]
 unfold Oper.wp execOp
 simp only [hop, resolve, invoke, builtin, Sem.run_bind, Sem.run_pure, Result.andThen_ok, List.map_toArray, List.map_cons, List.map_nil, hs, hx, hrun]
 exact hK a' _ cap' w' rfl hr (hown.below r2 hbase) (fun g hg hne => r2.block g hg (fun e => hne e.symm))
def BuEnd (w w' : World) (e : Ending) : Prop := ∃ (v : Value) (b : List UInt8), e = .returned v ∧ ByRow 0 w' v b ∧ b.length ≤ 9001 ∧ Below w.heap.size w w'
theorem drawEventUnpack_any (w : World) (a : Option Addr) (cap : Nat) (l : List UInt8) (hv : BytesAt w (.slice a l.length cap) l) (hcap : l.length ≤ cap) :
 Calls Tryz.prog 15 #[.slice a l.length cap] w fun e w' => BuEnd w w' e := by
 have HOP := hH (l6Open_any w a cap l hv hcap)
 clear hv
 go_enter Tryz.func15, Tryz.ntmps15
 go_wp2_with fail
 refine (uh HOP).mono ?_
 rintro e w1 ⟨v', b', rfl, hdr, hb1⟩
 have HC := hH (l5Event_any w.heap.size w1 v' b' 0 hdr (by omega))
 have hR1 := hdr.cells.lt
 have HBEL := hH (fun W (hW : But w.heap.size w1 W) => hb1.trans (c := W) ⟨hW.os, hW.tape, hW.output, hW.size, fun i hi => hW.at (by omega) (by omega)⟩)
 clear HOP hdr hb1
 go_wp2_with fail
 refine (uh HC).mono ?_
 rintro e w2 ⟨ty, ver, t, ⟨c0, c1, c2, c3, c4⟩, p2, rfl, hty, hver, hr2, hd2, hp2, hb2⟩
 have HPK := hH (specEventPack_any ty ver t _ ⟨c0, c1, c2, c3, c4⟩ w2 (fun x hx => hx.2) hr2 (by omega) hver)
 have hlen := packB_len ty ver t
 have HD2 := hH hd2; have HB2 := hH hb2
 have hs2 := hb2.size
 generalize packB ty ver t = L at *
 clear HC hr2 hd2 hb2
 go_wp2_with fail
 refine (uh HPK).mono ?_
 rintro e w3 ⟨aB, nB, capB, rfl, rfl, hrB, hb3⟩
 have HD3 := hH ((uh HD2).on hb3)
 have HB3 := hH ((uh HB2).trans (But.of_below hb3))
 have HR3 := hH hrB
 clear HPK HD2 HB2 hb3 hrB
 by_cases h0 : L.length = 0
 · obtain rfl := List.eq_nil_of_length_eq_zero h0
   go_wp2_with fail
   go_ret
   exact ⟨_, [], rfl, (uh HR3).base (Nat.zero_le _), by simp, uh HBEL _ (uh HB3)⟩
 have hz : ((L.length : Int) == 0) = false := beq_eq_false_iff_ne.2 (by omega)
 have HP := hH (pick_any w.heap.size w3 v' b' p2 3 (uh HD3) (by omega) (by omega))
 obtain ⟨g, capB', hvB, hg2, hg3, -⟩ := (uh HR3).form (by omega)
 simp only [Value.slice.injEq] at hvB
 obtain ⟨rfl, -, rfl⟩ := hvB
 have hnc : L.length ≤ capB := by
  rcases (uh HR3).2 with ⟨hv, _⟩ | ⟨g', cap', cur, hv, _, _, h, _⟩
  · simp at hv
  · simp only [Value.slice.injEq] at hv; obtain ⟨-, -, rfl⟩ := hv; exact h
 go_wp2_with fail
 refine (uh HP).mono ?_
 rintro e w4 ⟨r, rfl, hr, HD4, HB4⟩
 have HR4 := hH ((uh HR3).keep HB4.out hg3 (by omega))
 have HBB4 := hH ((uh HB3).trans HB4.out)
 have hg4 : g < w4.heap.size := Nat.lt_of_lt_of_le hg3 HB4.out.size
 clear HP HD3 HB3 HR3 HB4 hg3
 by_cases hr0 : 0 < r
 · have hq : decide ((0 : Int) < (r : Int)) = true := by simp; omega
   go_wp2_with fail
   go_ret
   exact ⟨_, L, rfl, (uh HR4).base (Nat.zero_le _), by omega, uh HBEL _ (uh HBB4)⟩
 obtain rfl : r = 0 := by omega
 have HP := hH (pick_any w.heap.size w4 v' b' (p2 + 1) L.length HD4.out (by omega) (by omega))
 go_wp2_with fail
 refine (uh HP).mono ?_
 rintro e w5 ⟨i, rfl, hi, HD5, HB5⟩
 have HR5 := hH ((uh HR4).keep HB5.out hg4 (by omega))
 have HBB5 := hH ((uh HBB4).trans HB5.out)
 have hg5 : g < w5.heap.size := Nat.lt_of_lt_of_le hg4 HB5.out.size
 have HP2 := hH (pick_any w.heap.size w5 v' b' (p2 + 1 + 1) 5 HD5.out (by omega) (by omega))
 clear HP HD4 HBB4 HR4 HB5 hg4 HD5
 go_wp2_with fail
 refine (uh HP2).mono ?_
 rintro e w6 ⟨q, rfl, hq, HD6, HB6⟩
 have HR6 := hH ((uh HR5).keep HB6.out hg5 (by omega))
 have HBB6 := hH ((uh HBB5).trans HB6.out)
 have hg6 : g < w6.heap.size := Nat.lt_of_lt_of_le hg5 HB6.out.size
 have hs6 : w1.heap.size ≤ w6.heap.size := (uh HBB6).size
 clear HP2 HBB5 HR5 HB6 hg5
 have hi1 : (i : Int) < (L.length : Int) := by omega
 have hi2 : (i : Int) ≤ (capB : Int) := by omega
 rcases (show q = 0 ∨ q = 1 ∨ q = 2 ∨ q = 3 ∨ q = 4 by omega) with rfl | rfl | rfl | rfl | rfl
 · go_wp2_with fail
   go_ret
   exact ⟨_, L.take i, rfl, ((uh HR6).take i (by omega)).base (Nat.zero_le _), by rw [List.length_take]; omega, uh HBEL _ (uh HBB6)⟩
 · have HP := hH (pick_any w.heap.size w6 v' b' (p2 + 1 + 1 + 1) 7 HD6.out (by omega) (by omega))
   go_wp2_with fail
   refine (uh HP).mono ?_
   rintro e w7 ⟨k, rfl, hk, HD7, HB7⟩
   have hu : IntKind.u8.wrap (k : Int) = ((UInt8.ofNat k).toNat : Int) := by rw [IntKind.wrap_u8, u8_nat _ (by omega)]; omega
   have HR7 := hH ((uh HR6).keep HB7.out hg6 (by omega))
   have hg7 : g < w7.heap.size := Nat.lt_of_lt_of_le hg6 HB7.out.size
   have HBB7 := hH ((uh HBB6).trans HB7.out)
   have hz7 := HB7.out.size
   clear HP HD6 HBB6 HR6 HB7
   go_wp2_with (at_builtin; refine append_bytes _ rfl _ _ rfl w2.heap.size (.slice (some ⟨g, 0, none⟩) L.length capB) L [UInt8.ofNat k] rfl (World.ownsRow.alloc (uh HR7) _) ⟨w7.heap.size, 0, none⟩ 1 1 rfl rfl (cell_one _ _ _) (by simp; omega) (by simp; omega) ?_)
   intro a8 n8 cap8 w8 hn8 hr8 hg8
   have hbel := ByRow.below (l := L) (World.ownsRow.alloc (uh HR7) (.cells #[.int .u8 ((UInt8.ofNat k).toNat : Int)] 5)) hg8.out (by simp; omega)
   have HBB8 := hH (((uh HBB7).trans (But.alloc _ w7 _)).low hbel hs2)
   clear hbel hg8
   go_wp2_with fail
   go_ret
   exact ⟨_, _, rfl, hr8.out.base (Nat.zero_le _), by simp; omega, uh HBEL _ (uh HBB8)⟩
 · have HP := hH (pick_any w.heap.size w6 v' b' (p2 + 1 + 1 + 1) 256 HD6.out (by omega) (by omega))
   go_wp2_with fail
   refine (uh HP).mono ?_
   rintro e w7 ⟨k, rfl, hk, HD7, HB7⟩
   have HR7 := hH ((uh HR6).keep HB7.out hg6 (by omega))
   have hg7 : g < w7.heap.size := Nat.lt_of_lt_of_le hg6 HB7.out.size
   have HBB7 := hH ((uh HBB6).trans HB7.out)
   clear HP HD6 HBB6 HR6 HB7
   have fz := (uh HR7).frozen i
   have cz := (uh HR7).part i hi
   go_wp2_with fail
   go_ret
   have h8 := (uh HR7).set i (UInt8.ofNat k)
   rw [u8_nat k hk] at h8
   exact ⟨_, _, rfl, h8.base (Nat.zero_le _), by rw [List.length_set]; omega, uh HBEL _ (but_setx (uh HBB7) (by omega) _ _)⟩
 · have hbd : Below w6.heap.size w6 w6.drew := (Below.refl _ w6).drew
   have HP := hH (pick_any w.heap.size w6.drew v' b' (p2 + 1 + 1 + 1) 3 (HD6.out.on hbd) (by omega) (by omega))
   have c6 := (uh HR6).part i hi
   have f6 := (uh HR6).frozen i
   have HRB := hH ((uh HR6).stay hbd)
   clear HD6 hbd
   go_wp2_with fail
   go_region_law (rw [if_pos (by first | rfl | simp [Region.wanted])]; go_simp; refine (uh HP).mono ?_; rintro e w7 ⟨k, rfl, hk, HD7, HB7⟩; have HR7 := hH ((uh HRB).keep HB7.out hg6 (by omega)); have c7 := (uh HR7).part i hi; have f7 := (uh HR7).frozen i)
   all_goals
    have HBB7 := hH (((uh HBB6).trans (But.of_below (Below.refl _ w6).drew)).trans HB7.out)
    go_wp2_with fail
    go_ret
    obtain ⟨l8, hl8, h8⟩ := (uh HR7).setU i (IntKind.u8.wrap ((L[i].toNat : Int) + IntKind.u8.wrap (k : Int)) - 1)
    exact ⟨_, l8, rfl, h8.base (Nat.zero_le _), by omega, uh HBEL _ (but_setx (uh HBB7) (by omega) _ _)⟩
 · have HP := hH (fun W (hW : Below w6.heap.size w6 W) => pick_2 W hW (pick_any w.heap.size W v' b' (p2 + 1 + 1 + 1) 2 (HD6.out.on hW) (by omega) (by omega)) (by omega))
   have HCL := hH (fun W (hW : But w.heap.size w6 W) => row_cells (L.take i) 0 (fun j hj => by rw [hW.cell hg6 (by omega), Nat.zero_add, (uh HR6).part j (by simp at hj; omega)]; simp))
   have HCR := hH (fun W (hW : But w.heap.size w6 W) => row_cells (L.drop i) i (fun j hj => by rw [hW.cell hg6 (by omega), (uh HR6).part (i + j) (by simp at hj; omega)]; simp))
   have HLT := hH (show (L.take i).length = i by simp; omega)
   have HLD := hH (show (L.drop i).length = L.length - i by simp)
   have hRg : w.heap.size < w6.heap.size := by omega
   have hli : i ≤ L.length := by omega
   have hci : ¬ capB = i := by omega
   have HB0 := hH (Below.refl w6.heap.size w6)
   clear HD6 HR6
   go_wp2_with fail
   go_region_law (first
    | (refine step_bytes0 _ (by rfl) (.tmp 26) (.tmp 29) (by rfl) w6.heap.size _ [] (L.take i) (L.take i) (by rfl) (by first | exact ByRow.nil w6 (Nat.le_refl _) | exact HK7.out _ _ (ByRow.nil w6 (Nat.le_refl _)) | exact World.ownsRow.alloc (HK7.out _ _ (ByRow.nil w6 (Nat.le_refl _))) _ | exact ByRow.nil w7 HN7.out.size | exact World.ownsRow.alloc (ByRow.nil w7 HN7.out.size) _ | exact ByRow.nil (w7.alloc _) (by have := HN7.out.size; simp <;> omega)) (by rfl) ⟨g, 0, none⟩ i _ (by rfl) (uh HLT).symm (by first | exact uh HCL _ (But.of_below ((uh HB0).alloc (Nat.le_refl _) _).drew) | exact uh HCL _ HN7.out | exact uh HCL _ (HN7.out.trans (But.alloc _ _ _)) | exact uh HCL _ ((HN7.out.trans (But.alloc _ _ _)).trans (But.alloc _ _ _))) (by simp <;> omega) (by first | (simp <;> omega) | (have := HN7.out.size; simp <;> omega)) ?_; intro a1 n1 cap1 w8 HM1 HR1 HL1 HG1; have HN8 := hH (But.low (R := w.heap.size) (w := w6) (by first | exact But.of_below ((uh HB0).alloc (Nat.le_refl _) _).drew | exact HN7.out | exact HN7.out.trans (But.alloc _ _ _) | exact (HN7.out.trans (But.alloc _ _ _)).trans (But.alloc _ _ _)) HL1.out (Nat.le_refl _)))
    | (refine step_bytes0 _ (by rfl) (.tmp 30) (.tmp 36) (by rfl) w6.heap.size (.slice a1 n1 cap1) (L.take i) [x] (L.take i ++ [x]) rfl (by first | exact HR1.out | exact World.ownsRow.alloc HR1.out _ | exact World.ownsRow.alloc (HK7.out _ _ HR1.out) _) (by rfl) _ 1 1 (by rfl) rfl (by first | exact cell_one _ _ _ | exact one_at HG1.out (row_one w7 x) (by have := HZ7.out; simp [Value.ownBlock] at this ⊢ <;> omega) | exact one_at HG1.out (row_one (w7.alloc _) x) (by have := HZ7.out; simp [Value.ownBlock] at this ⊢ <;> omega) | exact one_at HG1.out ((row_one w7 x).alloc _) (by have := HZ7.out; simp [Value.ownBlock] at this ⊢ <;> omega)) (by simp <;> omega) (by first | (have := HN8.out.size; simp <;> omega) | (have := HN7.out.size; simp <;> omega)) ?_; intro a2 n2 cap2 w9 HM2 HR2 HL2 HG2; have HN9 := hH (But.low (R := w.heap.size) (w := w6) (by first | exact HN8.out | exact HN8.out.trans (But.alloc _ _ _) | exact HN7.out.trans (But.alloc _ _ _)) HL2.out (Nat.le_refl _)))
    | (refine step_bytes0 _ (by rfl) (.tmp 37) (.tmp 40) (by rfl) w6.heap.size (.slice a2 n2 cap2) (L.take i ++ [x]) (L.drop i) (L.take i ++ [x] ++ L.drop i) rfl HR2.out (by rfl) ⟨g, i, none⟩ (L.length - i) _ (by rfl) (uh HLD).symm (uh HCR _ HN9.out) (by simp <;> omega) (by have := HN9.out.size; omega) ?_; intro a3 n3 cap3 w10 HM3 HR3 HL3 HG3; have HN10 := hH (HN9.out.low HL3.out (Nat.le_refl _)))
    | (rw [if_pos (by first | rfl | simp [Region.wanted])]; go_simp; refine (uh HP _ (by first | exact (uh HB0).drew | exact ((uh HB0).alloc (Nat.le_refl _) _).drew | exact (((uh HB0).alloc (Nat.le_refl _) _).drew).trans HL1.out)).mono ?_; rintro e w7 ⟨k, x, rfl, hk, hw1, hw2, hx, HN7, HZ7, HK7⟩))
   all_goals
    go_wp2_with fail
    go_ret
    exact ⟨_, _, rfl, HR3.out.base (Nat.zero_le _), by simp <;> omega, uh HBEL _ ((uh HBB6).trans HN10.out)⟩

def dg (m : Int) : UInt8 := UInt8.ofNat (48 + m.toNat)
theorem dg_nat {m : Int} (h0 : 0 ≤ m) (h1 : m < 10) : ((dg m).toNat : Int) = 48 + m := by unfold dg; rw [UInt8.toNat_ofNat']; omega
theorem dec_small {n : Int} (h : n < 10) : Lib.decDigits n.toNat = [dg n] := by rw [Lib.decDigits, dif_pos (by omega)]; rfl
theorem dec_big {n : Int} (h : ¬ n < 10) : Lib.decDigits n.toNat = Lib.decDigits (n / 10).toNat ++ [dg (n % 10)] := by
 rw [Lib.decDigits, dif_neg (by omega), show (n / 10).toNat = n.toNat / 10 from by omega, show dg (n % 10) = UInt8.ofNat (48 + n.toNat % 10) from by unfold dg; rw [show (n % 10).toNat = n.toNat % 10 from by omega]]
theorem conv_one (W : World) (b cap : Nat) (m : Int) (h0 : 0 ≤ m) (h1 : m < 10) (hc : W.cell? ⟨b, 0, none⟩ = some (.int .u8 (48 + m))) :
 Sem.run Tryz.prog (convert 22 9 (.slice (some ⟨b, 0, none⟩) 1 cap)) W = .ok (.string ⟨#[dg m]⟩) W := by
 have := run_convert_bytes_back (P := Tryz.prog) W 22 9 5 ⟨b, 0, none⟩ cap [dg m] Tryz.underlying22 Tryz.underlying5 Tryz.underlying9 (fun j hj => by
  have hj0 : j = 0 := by simpa using hj
  subst hj0
  rw [Addr.add_lit, hc]
  simp only [List.getElem_cons_zero]
  rw [dg_nat h0 h1])
 simpa using this
theorem quo10 {n : Int} (h0 : 0 ≤ n) (h1 : n ≤ 999999999) : IntKind.i64.wrap (n.tdiv 10) = n / 10 := by
 rw [IntKind.wrap_i64, Int.tdiv_eq_ediv_of_nonneg h0]; omega
theorem rem10 {n : Int} (h0 : 0 ≤ n) : IntKind.i64.wrap (48 + n.tmod 10) = 48 + n % 10 := by
 rw [IntKind.wrap_i64, Int.tmod_eq_emod_of_nonneg h0]; omega
theorem rem10b (n : Int) : IntKind.u8.wrap (48 + n % 10) = 48 + n % 10 := by
 rw [IntKind.wrap_u8]; omega
theorem ba_append (a b : List UInt8) : ((⟨a.toArray⟩ : ByteArray) ++ (⟨b.toArray⟩ : ByteArray)) = ⟨(a ++ b).toArray⟩ := by
 apply ByteArray.ext
 simp
theorem ret_str {a b : ByteArray} (h : a = b) : Ending.returned (.string a) = .returned (.string b) := by rw [h]
theorem bc1 {w w1 : World} {o : Obj} (h : Below w.drew.heap.size w.drew w1) : Below w.heap.size w (w1.alloc o) :=
 (((Below.refl _ w).drew).trans h).alloc h.size o
theorem bc2 {w w1 : World} {o : Obj} (h : Below (w.alloc o).drew.heap.size (w.alloc o).drew w1) : Below w.heap.size w w1 :=
 (((Below.refl _ w).alloc (Nat.le_refl _) o).drew).trans (h.mono (by simp))

theorem l6Dec_nat : ∀ (k : Nat) (n : Int) (w : World), 0 ≤ n → n < k → n ≤ 999999999 →
 Calls Tryz.prog 34 #[.int .i64 n] w fun e w' => e = .returned (.string ⟨(Lib.decDigits n.toNat).toArray⟩) ∧ Below w.heap.size w w' := by
 intro k
 induction k with
 | zero => intro n w h0 h; omega
 | succ k ih =>
   intro n w hn0 hk hu
   by_cases h10 : n < 10
   · have HD := hH (dec_small h10)
     have hconv := fun W b cap => conv_one W b cap n hn0 h10
     clear ih
     go_enter Tryz.func34, Tryz.ntmps34
     go_wp2_with fail
     go_ret
     exact ⟨by rw [uh HD]; rfl, (Below.refl _ _).alloc (Nat.le_refl _) _⟩
   · have HD := hH (dec_big h10)
     have hconv := fun W b cap => conv_one W b cap (n % 10) (by omega) (by omega)
     have hl := Lib.itoa_length_le (n / 10) (by omega) (by omega)
     have HIH := hH (fun W => (ih (n / 10) W (by omega) (by omega) (by omega)).mono (fun e w' (h : e = .returned (.string ⟨(Lib.decDigits (n / 10).toNat).toArray⟩) ∧ Below W.heap.size W w') => (⟨h.1, h.2, fun b o hb => h.2.cell (p := ⟨b, o, none⟩) hb⟩ : e = .returned (.string ⟨(Lib.decDigits (n / 10).toNat).toArray⟩) ∧ Below W.heap.size W w' ∧ ∀ b o, b < W.heap.size → w'.cell? ⟨b, o, none⟩ = W.cell? ⟨b, o, none⟩)))
     have hq1 := quo10 hn0 hu
     have hq2 := rem10 hn0
     have hq3 := rem10b n
     have hb0 : 0 ≤ n / 10 := by omega
     have hb1 : 0 ≤ n % 10 := by omega
     have hb2 : n % 10 < 10 := by omega
     have hl2 : (Lib.decDigits (n / 10).toNat).length ≤ 21 := by
      have : Lib.itoa (n / 10) = Lib.decDigits (n / 10).toNat := by unfold Lib.itoa; rw [if_neg (by omega)]
      rw [← this]; exact hl
     generalize Lib.decDigits (n / 10).toNat = ds at *
     clear ih hl
     go_enter Tryz.func34, Tryz.ntmps34
     go_wp2_with fail
     go_region_with (go_at_call 34; refine (uh HIH _).mono ?_; rintro e w1 ⟨rfl, hb, hcell⟩; have HB := hH hb; clear hb)
     all_goals
      go_wp2_with fail
      go_ret
      refine ⟨ret_str ?_, ?_⟩
      · rw [uh HD]; exact ba_append _ _
      · first | exact bc1 (uh HB) | exact bc2 (uh HB)
theorem itoa_lt {n : Int} (h : n < 0) : Lib.itoa n = 45 :: Lib.decDigits (-n).toNat := by
 unfold Lib.itoa; rw [if_pos h, show n.natAbs = (-n).toNat from by omega]
theorem itoa_ge {n : Int} (h : ¬ n < 0) : Lib.itoa n = Lib.decDigits n.toNat := by
 unfold Lib.itoa; rw [if_neg h]
theorem l6Dec_any (n : Int) (w : World) (h0 : -999999999 ≤ n) (h1 : n ≤ 999999999) :
 Calls Tryz.prog 34 #[.int .i64 n] w fun e w' => e = .returned (.string ⟨(Lib.itoa n).toArray⟩) ∧ Below w.heap.size w w' := by
 by_cases hn : n < 0
 · rw [itoa_lt hn]
   have hl := Lib.itoa_length_le (-n) (by omega) (by omega)
   rw [itoa_ge (by omega)] at hl
   have HIH := hH (fun W => l6Dec_nat ((-n).toNat + 1) (-n) W (by omega) (by omega) (by omega))
   generalize Lib.decDigits (-n).toNat = ds at *
   go_enter Tryz.func34, Tryz.ntmps34
   go_wp2_with (go_at_call 34; refine (uh HIH _).mono ?_; rintro e w1 ⟨rfl, hb⟩)
   go_ret
   exact ⟨ret_str (ba_append [45] ds), hb⟩
 · rw [itoa_ge hn]
   exact l6Dec_nat (n.toNat + 1) n w (by omega) (by omega) h1
end Go.Proofs.YtbkagahmiibclaaGreatDoor
