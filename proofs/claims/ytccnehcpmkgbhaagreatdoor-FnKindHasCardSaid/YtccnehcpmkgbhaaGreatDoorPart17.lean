/- A part. -/
import Derived.Test.YtccnehcpmkgbhaaGreatDoorPart16
namespace Go.Proofs.YtccnehcpmkgbhaaGreatDoor
open Go Go.RowKit
set_option maxRecDepth 100000
set_option maxHeartbeats 6400000
def row2 (c0 c1 : Value) : Nat → Value
 | 0 => c0
 | _ => c1
theorem row2_alloc (w : World) (c0 c1 : Value) (t : TypeId) : (w.alloc (.cells #[c0, c1] t)).rowIs w.heap.size t 2 (row2 c0 c1) :=
 World.rowIs_alloc w #[c0, c1] t _ (fun i hi => by
  have hi' : i < 2 := hi
  match i, hi' with
  | 0, _ => rfl
  | 1, _ => rfl)
def PRdr (w : World) (R : Nat) (s : ByteArray) (at' : Nat) : Prop := w.rowIs R 121 2 (row2 (.string s) (.int .i64 at'))
theorem PRdr.cells {w : World} {R : Nat} {s : ByteArray} {at' : Nat} (h : PRdr w R s at') : w.cell? ⟨R, 0, none⟩ = some (.string s) ∧ w.cell? ⟨R, 1, none⟩ = some (.int .i64 at') ∧ w.frozen? ⟨R, 1, none⟩ = false :=
 ⟨World.rowIs.cell h (by omega), World.rowIs.cell h (by omega), World.rowIs.frozen h 1⟩
theorem PRdr.lt {w : World} {R : Nat} {s : ByteArray} {at' : Nat} (h : PRdr w R s at') : R < w.heap.size := World.rowIs.lt h
theorem PRdr.set1 {w : World} {R : Nat} {s : ByteArray} {at' : Nat} (h : PRdr w R s at') (a : Nat) : PRdr (w.setCell ⟨R, 1, none⟩ (.int .i64 a)) R s a :=
 (World.rowIs.set h 1 _).congr fun i hi => by
   match i, hi with
   | 0, _ => rfl
   | 1, _ => rfl
theorem PRdr.drewN {w : World} {R : Nat} {s : ByteArray} {at' : Nat} (h : PRdr w R s at') (n : Nat) : PRdr (w.drewN n) R s at' := h
theorem PRdr.heap {w w' : World} {R : Nat} {s : ByteArray} {a : Nat} (h : PRdr w R s a) (e : w'.heap = w.heap) : PRdr w' R s a := World.rowIs.of_block h (by rw [e])
theorem PRdr.alloc {w : World} {R : Nat} {s : ByteArray} {a : Nat} (h : PRdr w R s a) (o : Obj) : PRdr (w.alloc o) R s a := World.rowIs.alloc h o
theorem hasPre (s wd : ByteArray) (a : Nat) : Lib.hasPrefix (s.extract a s.size).data.toList wd.data.toList = pre wd s a := by
 unfold Lib.hasPrefix pre lf
 congr 1
 simp [List.take_of_length_le]
theorem skip_yes (w : World) (R : Nat) (s wd : ByteArray) (a : Nat) (hs : s.size ≤ 1048576) (h : PRdr w R s a) (ha : a ≤ s.size) (hw0 : 0 < wd.size) (hw : wd.size ≤ 16) (hp : pre wd s a = true) :
 Calls Tryz.prog 83 #[.pointer (some ⟨R, 0, none⟩), .string wd] w fun e w' => e = .returned (.bool true) ∧ PRdr w' R s (a + wd.size) ∧ But R w w' := by
 obtain ⟨c0, c1, f1⟩ := h.cells
 have H := hH h
 have hi0 : (0 : Int) ≤ (a : Int) := by omega
 have hi1 : (a : Int) ≤ (s.size : Int) := by omega
 have hpre := Tryz.strings_HasPrefix (s.extract a s.size) wd
 rw [hasPre, hp] at hpre
 have HPRE := hH hpre
 clear h hp hpre
 go_enter Tryz.func83, Tryz.ntmps83
 go_wp2_with fail
 go_quiet ((go_at_call 102; exact Calls.quiet_of_same (uh HPRE _)))
 go_wp2_with fail
 go_ret
 exact ⟨rfl, (H.out.drewN _).set1 _, (but_drewN (But.refl _ _) _).trans (But.set _ _ _)⟩
theorem skip_no (w : World) (R : Nat) (s wd : ByteArray) (a : Nat) (h : PRdr w R s a) (ha : a ≤ s.size) (hp : pre wd s a = false) :
 Calls Tryz.prog 83 #[.pointer (some ⟨R, 0, none⟩), .string wd] w fun e w' => e = .returned (.bool false) ∧ ∃ m, w' = w.drewN m := by
 obtain ⟨c0, c1, f1⟩ := h.cells
 have hi0 : (0 : Int) ≤ (a : Int) := by omega
 have hi1 : (a : Int) ≤ (s.size : Int) := by omega
 have hpre := Tryz.strings_HasPrefix (s.extract a s.size) wd
 rw [hasPre, hp] at hpre
 have HPRE := hH hpre
 clear h hp hpre
 go_enter Tryz.func83, Tryz.ntmps83
 go_wp2_with fail
 go_quiet ((go_at_call 102; exact Calls.quiet_of_same (uh HPRE _)))
 go_wp2_with fail
 go_ret
 exact ⟨rfl, _, rfl⟩
theorem take_yes (w : World) (R : Nat) (s wd : ByteArray) (a : Nat) (hs : s.size ≤ 1048576) (h : PRdr w R s a) (ha : a ≤ s.size) (hw0 : 0 < wd.size) (hw : wd.size ≤ 16) (hp : pre wd s a = true) :
 Calls Tryz.prog 79 #[.pointer (some ⟨R, 0, none⟩), .string wd] w fun e w' => e = .returned (.tuple #[]) ∧ PRdr w' R s (a + wd.size) ∧ But R w w' := by
 have HS := hH (skip_yes w R s wd a hs h ha hw0 hw hp)
 clear h hp
 go_enter Tryz.func79, Tryz.ntmps79
 go_wp2_with (first
  | (go_at_call 83; refine (uh HS).mono ?_; rintro e w1 ⟨rfl, hr, hb⟩)
  | (go_at_call 63; refine (treeWant_yes _).mono ?_; rintro e w2 ⟨rfl, rfl⟩))
 go_end0
 exact ⟨rfl, hr, hb⟩
theorem take_no (w : World) (R : Nat) (s wd : ByteArray) (a : Nat) (h : PRdr w R s a) (ha : a ≤ s.size) (hp : pre wd s a = false) :
 Calls Tryz.prog 79 #[.pointer (some ⟨R, 0, none⟩), .string wd] w fun e w' => e = fltE ∧ ∃ m, w' = w.drewN m := by
 have HS := hH (skip_no w R s wd a h ha hp)
 clear h hp
 go_enter Tryz.func79, Tryz.ntmps79
 go_wp2_with (first
  | (go_at_call 83; refine (uh HS).mono ?_; rintro e w1 ⟨rfl, m, rfl⟩)
  | (go_at_call 63; refine (treeWant_no _).mono ?_; rintro e w2 ⟨rfl, rfl⟩))
 exact ⟨rfl, rfl, _, rfl⟩
theorem end_yes (w : World) (R : Nat) (s : ByteArray) (h : PRdr w R s s.size) :
 Calls Tryz.prog 65 #[.pointer (some ⟨R, 0, none⟩)] w fun e w' => e = .returned (.tuple #[]) ∧ ∃ m, w' = w.drewN m := by
 obtain ⟨c0, c1, f1⟩ := h.cells
 clear h
 go_enter Tryz.func65, Tryz.ntmps65
 go_quiet ((go_at_call 63; exact Calls.quiet_of_same (treeWant_yes _)))
 go_wp2_with fail
 go_end0
 exact ⟨rfl, _, rfl⟩

theorem end_no (w : World) (R : Nat) (s : ByteArray) (a : Nat) (h : PRdr w R s a) (ha : a < s.size) :
 Calls Tryz.prog 65 #[.pointer (some ⟨R, 0, none⟩)] w fun e w' => e = fltE ∧ ∃ m, w' = w.drewN m := by
 obtain ⟨c0, c1, f1⟩ := h.cells
 have hne : ¬ ((a : Int) = (s.size : Int)) := by omega
 have hd : decide ((a : Int) = (s.size : Int)) = false := by simp; omega
 have hb : ((a : Int) == (s.size : Int)) = false := by simp; omega
 clear h
 go_enter Tryz.func65, Tryz.ntmps65
 go_region_law (rw [if_pos (by first | rfl | simp [Region.wanted])]; go_simp; refine (treeWant_no _).mono ?_; rintro e w2 ⟨rfl, rfl⟩; refine dead_end (by assumption) { tmps := #[], defers := [] } w (And.intro rfl (And.intro rfl ⟨1, rfl⟩)) (fun HF => ?_))
 all_goals exact (uh HF).elim
theorem more_end (w : World) (R : Nat) (s : ByteArray) (a n : Nat) (hs : s.size ≤ 1048576) (h : PRdr w R s a) (ha : a ≤ s.size) (hp : pre (w1 125) s a = true) :
 Calls Tryz.prog 84 #[.pointer (some ⟨R, 0, none⟩), .string (w1 125), .int .i64 n] w fun e w' => e = .returned (.bool false) ∧ PRdr w' R s (a + 1) ∧ But R w w' := by
 have HS := hH (skip_yes w R s (w1 125) a hs h ha (by decide) (by decide) hp)
 clear h hp
 go_enter Tryz.func84, Tryz.ntmps84
 go_wp2_with (go_at_call 83; refine (uh HS).mono ?_; rintro e w1 ⟨rfl, hr, hb⟩)
 go_ret
 exact ⟨rfl, hr, hb⟩
theorem more_first (w : World) (R : Nat) (s : ByteArray) (a : Nat) (h : PRdr w R s a) (ha : a ≤ s.size) (hp : pre (w1 125) s a = false) :
 Calls Tryz.prog 84 #[.pointer (some ⟨R, 0, none⟩), .string (w1 125), .int .i64 0] w fun e w' => e = .returned (.bool true) ∧ PRdr w' R s a ∧ But R w w' := by
 have HS := hH (skip_no w R s (w1 125) a h ha hp)
 have H := hH h
 clear h hp
 go_enter Tryz.func84, Tryz.ntmps84
 go_wp2_with (go_at_call 83; refine (uh HS).mono ?_; rintro e w1 ⟨rfl, m, rfl⟩)
 go_ret
 exact ⟨rfl, H.out.drewN m, but_drewN (But.refl _ _) m⟩
theorem more_comma (w : World) (R : Nat) (s : ByteArray) (a n : Nat) (hn : 0 < n) (hs : s.size ≤ 1048576) (h : PRdr w R s a) (ha : a ≤ s.size) (hp : pre (w1 125) s a = false) (hp2 : pre (w1 44) s a = true) :
 Calls Tryz.prog 84 #[.pointer (some ⟨R, 0, none⟩), .string (w1 125), .int .i64 n] w fun e w' => e = .returned (.bool true) ∧ PRdr w' R s (a + 1) ∧ But R w w' := by
 have HS := hH (skip_no w R s (w1 125) a h ha hp)
 have HT := hH (fun m => take_yes (w.drewN m) R s (w1 44) a hs (h.drewN m) ha (by decide) (by decide) hp2)
 have hz : decide ((0 : Int) < (n : Int)) = true := by simp; omega
 clear h hp hp2
 go_enter Tryz.func84, Tryz.ntmps84
 go_wp2_with (first
  | (go_at_call 83; refine (uh HS).mono ?_; rintro e w1 ⟨rfl, m, rfl⟩)
  | (go_at_call 79; refine (uh HT _).mono ?_; rintro e w2 ⟨rfl, hr, hb⟩))
 go_ret
 exact ⟨rfl, hr, (but_drewN (But.refl _ _) m).trans hb⟩
theorem more_none (w : World) (R : Nat) (s : ByteArray) (a n : Nat) (hn : 0 < n) (h : PRdr w R s a) (ha : a ≤ s.size) (hp : pre (w1 125) s a = false) (hp2 : pre (w1 44) s a = false) :
 Calls Tryz.prog 84 #[.pointer (some ⟨R, 0, none⟩), .string (w1 125), .int .i64 n] w fun e w' => e = fltE ∧ ∃ m, w' = w.drewN m := by
 have HS := hH (skip_no w R s (w1 125) a h ha hp)
 have HT := hH (fun m => take_no (w.drewN m) R s (w1 44) a (h.drewN m) ha hp2)
 have hz : decide ((0 : Int) < (n : Int)) = true := by simp; omega
 clear h hp hp2
 go_enter Tryz.func84, Tryz.ntmps84
 go_wp2_with (first
  | (go_at_call 83; refine (uh HS).mono ?_; rintro e w1 ⟨rfl, m, rfl⟩)
  | (go_at_call 79; refine (uh HT _).mono ?_; rintro e w2 ⟨rfl, m2, rfl⟩))
 exact ⟨rfl, rfl, _, rfl⟩
def patOf (w : World) (R : Nat) : Nat := (intOf ((w.cell? ⟨R, 1, none⟩).getD undef)).toNat
theorem PRdr.atOf {w : World} {R : Nat} {s : ByteArray} {a : Nat} (h : PRdr w R s a) : patOf w R = a := by
 unfold patOf; rw [h.cells.2.1]; simp [intOf]
theorem run_any (w : World) (R : Nat) (s : ByteArray) (a : Nat) (hs : s.size ≤ 1048576) (h : PRdr w R s a) (ha : a ≤ s.size) :
 Calls Tryz.prog 80 #[.pointer (some ⟨R, 0, none⟩), .func (.func 86) #[] #[]] w fun e w' => e = .returned (.string ⟨((lf s a).takeWhile nameByte).toArray⟩) ∧ PRdr w' R s (a + rn nameByte s a) ∧ But R w w' := by
 have H := hH h
 obtain ⟨c0, c1, f1⟩ := h.cells
 rw [← rn_take]
 have hle := rn_le nameByte s a ha
 generalize hr : rn nameByte s a = r at *
 have HR := hH hr
 have hi0 : (0 : Int) ≤ (a : Int) := by omega
 have hi1 : (a : Int) ≤ (a : Int) + (r : Int) := by omega
 have hi2 : (a : Int) + (r : Int) ≤ (s.size : Int) := by omega
 clear h hr
 go_enter Tryz.func80, Tryz.ntmps80
 go_wp2_with fail
 go_loopw [] (fun wr => ∃ (j : Nat), a ≤ j ∧ j ≤ s.size ∧ Hid (j + rn nameByte s j = a + r) ∧ Hid (PRdr wr R s j) ∧ But R w wr) (fun wr => s.size - patOf wr R)
 case atStart => exact ⟨a, Nat.le_refl _, ha, hH (by show _ = _; rw [HR.out]), H, But.refl _ _⟩
 case round =>
  obtain ⟨j, hj0, hj1, HJ, HRj, hb⟩ := hrel
  obtain ⟨y0, y1, g1⟩ := HRj.out.cells
  have hat := HRj.out.atOf
  by_cases hlt : j < s.size
  · have HNB := hH (isNameByte_any s[j])
    have hdl : decide ((j : Int) < (s.size : Int)) = true := by simp; omega
    have hj2 : (0 : Int) ≤ (j : Int) := by omega
    have hj3 : (j : Int) < (s.size : Int) := by omega
    cases hnb : nameByte s[j]
    · have he : j = a + r := by
       have := HJ.out
       have := rn_stop (p := nameByte) hlt hnb
       omega
      rw [hnb] at HNB
      have HE := hH he
      clear HR H he
      go_wp2_with fail
      go_quiet ((go_at_call 86; exact Calls.quiet_of_same (uh HNB _)))
      have hk1 : (a : Int) ≤ (j : Int) := by omega
      have hk2 : (j : Int) ≤ (s.size : Int) := by omega
      go_wp2_with fail
      go_quiet (fail)
      go_wp2_with fail
      go_ret
      refine ⟨?_, ?_, but_drewN (but_drewN hb _) _⟩
      · rw [← uh HE]; rfl
      · rw [← uh HE]; exact HRj.out.heap rfl
    · have hjn : j + 1 + rn nameByte s (j + 1) = a + r := by
       have := HJ.out
       have := rn_step (p := nameByte) hlt hnb
       omega
      rw [hnb] at HNB
      have HJN := hH hjn
      clear HR H hjn
      go_wp2_with fail
      go_quiet ((go_at_call 86; exact Calls.quiet_of_same (uh HNB _)))
      go_wp2_with fail
      go_roundw
      case rel => exact ⟨j + 1, by omega, by omega, HJN, hH ((HRj.out.heap rfl).set1 _), (but_drewN hb _).trans (But.set _ _ _)⟩
      case measure =>
       rw [hat]
       have e5 := ((HRj.out.drewN nq).set1 (j + 1)).atOf
       exact Nat.lt_of_le_of_lt (Nat.le_of_eq (congrArg (s.size - ·) e5)) (by omega)
  · have hdl : decide ((j : Int) < (s.size : Int)) = false := by simp; omega
    have he : j = a + r := by
     have := HJ.out
     have := rn_end (p := nameByte) (s := s) (i := j) (by omega)
     omega
    have HE := hH he
    clear HR H he
    have hk1 : (a : Int) ≤ (j : Int) := by omega
    have hk2 : (j : Int) ≤ (s.size : Int) := by omega
    go_wp2_with fail
    go_quiet (fail)
    go_wp2_with fail
    go_quiet (fail)
    go_wp2_with fail
    go_ret
    refine ⟨?_, ?_, but_drewN (but_drewN hb _) _⟩
    · rw [← uh HE]; rfl
    · rw [← uh HE]; exact HRj.out.heap rfl

def FX (d : Nat) (inp : List UInt8) : Option (List ByteArray × List Kd × List UInt8) := if inp.head? = some 123 then klp (krd d) (inp.length + 1) [] [] inp.tail else none
def FRel (X : Option (List ByteArray × List Kd × List UInt8)) (d : Nat) (s : ByteArray) (a : Nat) (bad : Bool) (ns : List ByteArray) (ks : List Kd) : Prop :=
 (bad = false ∧ a ≤ s.size ∧ ks.length ≤ a ∧ ∃ f, (lf s a).length < f ∧ klp (krd d) f ns ks (lf s a) = X) ∨ (bad = true ∧ X = none ∧ a ≤ s.size + d)
theorem FRel.at {X : Option (List ByteArray × List Kd × List UInt8)} {d : Nat} {s : ByteArray} {a : Nat} {bad : Bool} {ns : List ByteArray} {ks : List Kd} (h : FRel X d s a bad ns ks) : a ≤ s.size + d := by
 rcases h with ⟨-, h, -⟩ | ⟨-, -, h⟩ <;> omega
def M1 (X : Option (List ByteArray × List Kd × List UInt8)) (s : ByteArray) (a n a1 : Nat) (bad1 : Bool) : Prop := a1 ≤ s.size ∧ ((bad1 = false ∧ kcma n (lf s a) = some (lf s a1)) ∨ (bad1 = true ∧ X = none))
def M3 (X : Option (List ByteArray × List Kd × List UInt8)) (s : ByteArray) (a n a1 a3 : Nat) (bad3 : Bool) : Prop :=
 a3 ≤ s.size ∧ ((bad3 = false ∧ kcma n (lf s a) = some (lf s a1) ∧ knam (lf s a1) = some (⟨((lf s a1).takeWhile nameByte).toArray⟩, lf s a3)) ∨ (bad3 = true ∧ X = none))
section
variable {X : Option (List ByteArray × List Kd × List UInt8)} {d : Nat} {s : ByteArray} {a : Nat} {ns : List ByteArray} {ks : List Kd}
theorem m1_zero (ha : a ≤ s.size) (h0 : ks.length = 0) : M1 X s a ks.length a false := ⟨ha, Or.inl ⟨rfl, by unfold kcma; rw [if_pos h0]⟩⟩
theorem m1_eat (ha : a ≤ s.size) (hne : (lf s a).head? ≠ some 125) {f : Nat} (hf : (lf s a).length < f) (hX : klp (krd d) f ns ks (lf s a) = X) (h0 : 0 < ks.length) :
 (pre (w1 44) s a = true ∧ M1 X s a ks.length (a + 1) false) ∨ (pre (w1 44) s a = false ∧ M1 X s a ks.length a true) := by
 rw [pre_one]
 obtain ⟨f, rfl⟩ : ∃ g, f = g + 1 := ⟨f - 1, by omega⟩
 rw [klp, if_neg hne] at hX
 by_cases h44 : (lf s a).head? = some 44
 · refine Or.inl ⟨decide_eq_true h44, ?_, Or.inl ⟨rfl, by unfold kcma; rw [if_neg (by omega), if_pos h44, lf_next]⟩⟩
   have := lf_len s a
   cases hl : lf s a with
   | nil => rw [hl] at h44; simp at h44
   | cons c r => rw [hl] at this; simp at this; omega
 · refine Or.inr ⟨decide_eq_false h44, ha, Or.inr ⟨rfl, ?_⟩⟩
   rw [← hX]
   have : kcma ks.length (lf s a) = none := by unfold kcma; rw [if_neg (by omega), if_neg h44]
   rw [this]
theorem m3_eat {a1 : Nat} {bad1 : Bool} (hne : (lf s a).head? ≠ some 125) {f : Nat} (hf : (lf s a).length < f) (hX : klp (krd d) f ns ks (lf s a) = X) (h1 : M1 X s a ks.length a1 bad1) :
 (pre (w1 58) s (a1 + rn nameByte s a1) = true ∧ M3 X s a ks.length a1 (a1 + rn nameByte s a1 + 1) bad1) ∨ (pre (w1 58) s (a1 + rn nameByte s a1) = false ∧ M3 X s a ks.length a1 (a1 + rn nameByte s a1) true) := by
 rw [pre_one]
 obtain ⟨ha1, h1⟩ := h1
 have hle := rn_le nameByte s a1 ha1
 obtain ⟨f, rfl⟩ : ∃ g, f = g + 1 := ⟨f - 1, by omega⟩
 rw [klp, if_neg hne] at hX
 by_cases h58 : (lf s (a1 + rn nameByte s a1)).head? = some 58
 · have hroom : a1 + rn nameByte s a1 + 1 ≤ s.size := by
    have := lf_len s (a1 + rn nameByte s a1)
    cases hl : lf s (a1 + rn nameByte s a1) with
    | nil => rw [hl] at h58; simp at h58
    | cons c r => rw [hl] at this; simp at this; omega
   refine Or.inl ⟨decide_eq_true h58, hroom, ?_⟩
   rcases h1 with ⟨h1, h2⟩ | ⟨h1, h2⟩
   · refine Or.inl ⟨h1, h2, ?_⟩
     unfold knam
     rw [← rn_drop, if_pos h58, lf_next]
   · exact Or.inr ⟨h1, h2⟩
 · refine Or.inr ⟨decide_eq_false h58, hle, Or.inr ⟨rfl, ?_⟩⟩
   rcases h1 with ⟨h1, h2⟩ | ⟨h1, h2⟩
   · rw [← hX, h2]
     have : knam (lf s a1) = none := by unfold knam; rw [← rn_drop, if_neg h58]
     simp only [this]
   · exact h2
theorem m4_bad {a1 a3 : Nat} (h3 : M3 X s a ks.length a1 a3 true) (ns' : List ByteArray) (ks' : List Kd) : FRel X d s a3 true ns' ks' := by
 obtain ⟨h, h3⟩ := h3
 rcases h3 with ⟨h, -⟩ | ⟨-, h2⟩
 · cases h
 · exact Or.inr ⟨rfl, h2, by omega⟩
theorem m4_sub {a1 a3 a4 : Nat} {bad4 : Bool} {k : Kd} (ha : a ≤ s.size) (hka : ks.length ≤ a) (hne : (lf s a).head? ≠ some 125) {f : Nat} (hf : (lf s a).length < f) (hX : klp (krd d) f ns ks (lf s a) = X) (h3 : M3 X s a ks.length a1 a3 false)
 (h4 : KOut d s (lf s a3) k a4 bad4) : FRel X d s a4 bad4 (ns ++ [⟨((lf s a1).takeWhile nameByte).toArray⟩]) (ks ++ [k]) ∧ (bad4 = false → a < a4 ∧ a4 ≤ s.size) := by
 obtain ⟨h, h3⟩ := h3
 rcases h3 with ⟨-, h3, h5⟩ | ⟨h, -⟩
 · obtain ⟨f, rfl⟩ : ∃ g, f = g + 1 := ⟨f - 1, by omega⟩
   rw [klp, if_neg hne, h3] at hX
   simp only [h5] at hX
   rcases h4 with ⟨e1, e2, e3⟩ | ⟨e1, e2, e3⟩
   · rw [e2] at hX
     have l1 := congrArg List.length (kcma_some h3)
     have l2 := congrArg List.length (knam_some h5)
     have l3 := congrArg List.length (krd_sound _ _ _ _ e2)
     simp only [List.length_append, List.length_cons, List.length_nil] at l1 l2 l3
     have q1 := lf_len s a
     have q4 := lf_len s a4
     refine ⟨Or.inl ⟨e1, e3, ?_, f, by omega, hX⟩, fun _ => ⟨by omega, e3⟩⟩
     simp only [List.length_append, List.length_cons, List.length_nil]
     omega
   · rw [e2] at hX
     exact ⟨Or.inr ⟨e1, hX.symm, e3⟩, fun h => by rw [e1] at h; cases h⟩
 · cases h
theorem m_end (hhd : (lf s a).head? = some 125) {f : Nat} (hf : (lf s a).length < f) (hX : klp (krd d) f ns ks (lf s a) = X) : X = some (ns, ks, lf s (a + 1)) ∧ a + 1 ≤ s.size := by
 obtain ⟨f, rfl⟩ : ∃ g, f = g + 1 := ⟨f - 1, by omega⟩
 rw [klp, if_pos hhd] at hX
 refine ⟨by rw [← hX, lf_next], ?_⟩
 have := lf_len s a
 cases hl : lf s a with
 | nil => rw [hl] at hhd; simp at hhd
 | cons c r => rw [hl] at this; simp at this; omega
end
theorem drewN_grown (W : World) (m : Nat) : W.grownBy (W.drewN m) none := ⟨rfl, rfl, rfl, Nat.le_refl _, fun _ _ _ => rfl⟩
theorem infoKindR : (Tryz.prog.info? 26).map (fun i => (i.zero, i.size, i.bytes)) = some (some (.agg #[.int .i64 0, .slice none 0 0, .slice none 0 0]), 3, 56) := by kernel_rfl
theorem infoStrR : (Tryz.prog.info? 9).map (fun i => (i.zero, i.size, i.bytes)) = some (some (.string ByteArray.empty), 1, 16) := by kernel_rfl

def KTab (w : World) : Prop := w.cell? ⟨0, 1, none⟩ = some (.string ⟨#[110, 117, 109]⟩) ∧ w.cell? ⟨0, 2, none⟩ = some (.string ⟨#[116, 101, 120, 116]⟩) ∧ w.cell? ⟨0, 3, none⟩ = some (.string ⟨#[102, 108, 97, 103]⟩)
theorem KTab.lt {w : World} (h : KTab w) : 0 < w.heap.size := World.block_lt_of_cell? w _ h.1
theorem KTab.of_block {w w' : World} (h : KTab w) (e : w'.heap[0]? = w.heap[0]?) : KTab w' := by
 have c : ∀ i, w'.cell? ⟨0, i, none⟩ = w.cell? ⟨0, i, none⟩ := fun i => World.cell?_of_block (w := w) e
 exact ⟨by rw [c]; exact h.1, by rw [c]; exact h.2.1, by rw [c]; exact h.2.2⟩
theorem KTab.below {w w' : World} (h : KTab w) (hb : Below w.heap.size w w') : KTab w' := h.of_block (hb.block _ h.lt)

def KPEnd (o : Option (Kd × List UInt8)) (w : World) (R : Nat) (s : ByteArray) (e : Ending) (w' : World) : Prop :=
 (∃ (k : Kd) (c : C3) (F : List Nat) (a2 : Nat), o = some (k, lf s a2) ∧ a2 ≤ s.size ∧ e = .returned (.agg #[c.c0, c.c1, c.c2]) ∧ OwnD w' k c F ∧ F.Nodup ∧ (∀ b, b ∈ F → w.heap.size ≤ b ∧ b < w'.heap.size) ∧ PRdr w' R s a2 ∧ But R w w') ∨ (o = none ∧ e = fltE ∧ But R w w')
theorem KPEnd.no {o : Option (Kd × List UInt8)} {w : World} {R : Nat} {s : ByteArray} {w' : World} (h : o = none) (hb : But R w w') : KPEnd o w R s fltE w' := Or.inr ⟨h, rfl, hb⟩
def KPSaid (d : Nat) : Prop := ∀ (w : World) (R : Nat) (s : ByteArray) (a : Nat), s.size ≤ 1048576 → PRdr w R s a → a ≤ s.size → KTab w → 0 ≠ R → (lf s a).length < d →
 Calls Tryz.prog 68 #[.pointer (some ⟨R, 0, none⟩)] w fun e w' => KPEnd (krd d (lf s a)) w R s e w'
structure Pw (w : World) (R : Nat) (s : ByteArray) (a : Nat) (W : World) : Prop where
 rdr : PRdr W R s a
 box : W.rowIs w.heap.size 26 3 (row3 (.int .i64 0) (.slice none 0 0) (.slice none 0 0))
 but : But R w W
 ne : w.heap.size ≠ R
 tab : KTab W
 tabR : 0 ≠ R
theorem Pw.start {w : World} {R : Nat} {s : ByteArray} {a : Nat} (h : PRdr w R s a) (ht : KTab w) (hR : 0 ≠ R) : Pw w R s a (w.alloc (.cells #[.int .i64 0, .slice none 0 0, .slice none 0 0] 26)) :=
 ⟨h.alloc _, row3_alloc w _ _ _ _, But.alloc _ _ _, fun e => by have := h.lt; omega, ht.below ((Below.refl _ _).alloc (Nat.le_refl _) _), hR⟩
theorem Pw.next {w W W' : World} {R : Nat} {s : ByteArray} {a a' : Nat} (h : Pw w R s a W) (hb : But R W W') (hr : PRdr W' R s a') : Pw w R s a' W' :=
 ⟨hr, h.box.of_block (hb.at h.box.lt h.ne), h.but.trans hb, h.ne, h.tab.of_block (hb.at h.tab.lt h.tabR), h.tabR⟩
theorem Pw.drewN {w W : World} {R : Nat} {s : ByteArray} {a : Nat} (h : Pw w R s a W) (n : Nat) : Pw w R s a (W.drewN n) := h.next (but_drewN (But.refl _ _) n) (h.rdr.drewN n)
theorem Pw.drew {w W : World} {R : Nat} {s : ByteArray} {a : Nat} (h : Pw w R s a W) : Pw w R s a W.drew := h.drewN 1
theorem Pw.cells {w W : World} {R : Nat} {s : ByteArray} {a : Nat} (h : Pw w R s a W) :
 W.cell? ⟨w.heap.size, 0, none⟩ = some (.int .i64 0) ∧ W.cell? ⟨w.heap.size, 1, none⟩ = some (.slice none 0 0) ∧ W.cell? ⟨w.heap.size, 2, none⟩ = some (.slice none 0 0) ∧ W.frozen? ⟨w.heap.size, 0, none⟩ = false ∧ W.frozen? ⟨w.heap.size, 1, none⟩ = false ∧ W.frozen? ⟨w.heap.size, 2, none⟩ = false :=
 ⟨h.box.cell (i := 0) (by omega), h.box.cell (i := 1) (by omega), h.box.cell (i := 2) (by omega), h.box.frozen 0, h.box.frozen 1, h.box.frozen 2⟩
theorem Pw.touch {w W W' : World} {R : Nat} {s : ByteArray} {a : Nat} {row : Option Nat} (h : Pw w R s a W) (hg : W.grownBy W' row) (hr : ∀ b, row = some b → w.heap.size < b) (hR : R < w.heap.size) (hT : 0 < w.heap.size) : Pw w R s a W' :=
 ⟨World.rowIs.of_block h.rdr (hg.block R h.rdr.lt (fun e => by have := hr R e.symm; omega)), h.box.of_block (hg.block _ h.box.lt (fun e => by have := hr _ e.symm; omega)),
  ⟨hg.os.trans h.but.os, hg.tape.trans h.but.tape, hg.output.trans h.but.output, Nat.le_trans h.but.size hg.size, fun i hi hne => (hg.block i (Nat.lt_of_lt_of_le hi h.but.size) (fun e => by have := hr i e.symm; omega)).trans (h.but.block i hi hne)⟩, h.ne,
  h.tab.of_block (hg.block _ h.tab.lt (fun e => by have := hr _ e.symm; omega)), h.tabR⟩
theorem Pw.fin {w W : World} {R : Nat} {s : ByteArray} {a : Nat} (h : Pw w R s a W) (ha : a ≤ s.size) {k : Kd} {c : C3} {F : List Nat} (ho : OwnD W k c F) (hnd : F.Nodup) (hF : ∀ b, b ∈ F → w.heap.size + 1 ≤ b ∧ b < W.heap.size) {o : Option (Kd × List UInt8)} (hk : o = some (k, lf s a)) :
 KPEnd o w R s (.returned (.agg #[c.c0, c.c1, c.c2])) (set3 W w.heap.size c) := by
 refine Or.inl ⟨k, c, F, a, hk, ha, rfl, OwnD.carry k c F (fun b hb => set3_heap _ _ _ _ (by have := (hF b hb).1; omega)) ho, hnd, fun b hb => ?_, World.rowIs.of_block h.rdr (set3_heap _ _ _ _ h.ne.symm), ?_⟩
 · rw [set3_size]; have := hF b hb; omega
 · exact ⟨h.but.os, h.but.tape, h.but.output, by rw [set3_size]; exact h.but.size, fun i hi hne => (set3_heap _ _ _ _ (by omega)).trans (h.but.block i hi hne)⟩
def FXo (d : Nat) (inp : List UInt8) : Option (Kd × List UInt8) := match FX d inp with
 | none => none
 | some (ns, ks, rest) => some (.mk 5 ns ks, rest)
theorem form_any (d : Nat) (IH : KPSaid d) (w : World) (R : Nat) (s : ByteArray) (at' : Nat) (hs : s.size ≤ 1048576) (h : PRdr w R s at') (ha : at' ≤ s.size) (hT : KTab w) (hTR : 0 ≠ R) (hd : (lf s at').length ≤ d) :
 Calls Tryz.prog 94 #[.pointer (some ⟨R, 0, none⟩)] w fun e w' => KPEnd (FXo d (lf s at')) w R s e w' := by
 have hlt := h.lt
 have hTlt := hT.lt
 have hpw := Pw.start h hT hTR
 have hpw2 := hpw.touch (World.grownBy_alloc _ (.cells #[.int .i64 5, .slice none 0 0, .slice none 0 0] 26) none) (fun b e => by cases e) hlt hTlt
 have HPW := hH hpw2
 clear hpw hpw2
 by_cases h123 : (lf s at').head? = some 123
 · have hroom : at' + 1 ≤ s.size := by
    have := lf_len s at'
    cases hl : lf s at' with
    | nil => rw [hl] at h123; simp at h123
    | cons c r => rw [hl] at this; simp at this; omega
   have hX : FX d (lf s at') = klp (krd d) ((lf s at').length + 1) [] [] (lf s (at' + 1)) := by rw [FX, if_pos h123, lf_next]
   have htk := take_yes _ R s (w1 123) at' hs (uh HPW).rdr ha (by decide) (by decide) (by rw [pre_one, h123]; simp)
   have HTK := hH htk
   have hl1 : (lf s (at' + 1)).length < (lf s at').length + 1 := by rw [lf_len, lf_len]; omega
   have hl2 : (lf s (at' + 1)).length < d := by
    have := lf_len s at'
    have := lf_len s (at' + 1)
    omega
   have hY : FXo d (lf s at') = match FX d (lf s at') with
    | none => none
    | some (ns, ks, rest) => some (.mk 5 ns ks, rest) := rfl
   generalize FXo d (lf s at') = Y at *
   generalize FX d (lf s at') = X at *
   have HY := hH hY; clear hY
   have HX := hH hX
   have HI := hH IH
   clear htk h hT hX IH
   go_enter Tryz.func94, Tryz.ntmps94
   go_wp2_with (go_at_call 79; refine (uh HTK).mono ?_; rintro e w2 ⟨rfl, hr2, hb2⟩; have HW2 := hH ((uh HPW).next hb2 hr2); have hinv0 := (row3_alloc (w.alloc (.cells #[.int .i64 0, .slice none 0 0, .slice none 0 0] 26)) (.int .i64 5) (.slice none 0 0) (.slice none 0 0) 26); rw [World.size_alloc] at hinv0; have hinv1 := hinv0.of_block (hb2.at hinv0.lt (by omega)); have HBX := hH hinv1; have hs2 := hb2.size; simp only [World.size_alloc] at hs2; clear hr2 hb2 hinv0 hinv1 HTK HPW)
   have hbx : w.heap.size < w.heap.size + 1 := by omega
   have hinv : DInv (w.heap.size + 1 + 1) (w.heap.size + 1) w2 5 (.slice none 0 0) (.slice none 0 0) [] [] [] [] :=
    ⟨by omega, uh HBX, World.ownsRow_nil _ _ _ _, GotD.start _ _, fun b hb => by simp [Value.ownBlock] at hb, by omega⟩
   have HINV := hH hinv
   have HF2 := hH (show FRel X d s (at' + 1) false [] [] from Or.inl ⟨rfl, hroom, by simp, _, hl1, (uh HX).symm⟩)
   obtain ⟨i0, hi, hz0, hz1, hz2⟩ := info_parts infoKindR
   obtain ⟨j0, hj, hy0, hy1, hy2⟩ := info_parts infoStrR
   have HII := hH hi; have HZ0 := hH hz0; have HZ1 := hH hz1; have HZ2 := hH hz2
   have HJJ := hH hj; have HY0 := hH hy0; have HY1 := hH hy1; have HY2 := hH hy2
   clear hinv HBX hi hz0 hz1 hz2 hj hy0 hy1 hy2 hs2 HX hl1
   generalize hBB : w.heap.size + 1 = B at *
   clear hBB
   go_loopw [] (fun wr => ∃ (ns : List ByteArray) (ks : List Kd) (n : Nat) (aN : Option Addr) (capN : Nat) (aK : Option Addr) (capK : Nat) (xs : List Value) (G : List Nat) (a : Nat), Hid (ns.length = n ∧ ks.length = n ∧ (∀ x, x ∈ ns → x.size ≤ 1048576) ∧ (lf s a).length < d) ∧ Hid (FRel X d s a false ns ks) ∧ Hid (DInv (B + 1) B wr 5 (.slice aN n capN) (.slice aK n capK) ns ks xs G) ∧ Hid (Pw w R s a wr)) (fun wr => s.size - patOf wr R)
   case atStart => exact ⟨[], [], 0, none, 0, none, 0, [], [], at' + 1, hH ⟨rfl, rfl, fun x hx => by simp at hx, hl2⟩, HF2, HINV, HW2⟩
   case round =>
    obtain ⟨ns, ks, n, aN, capN, aK, capK, xs, G, a, HN, HF, HD, HW⟩ := hrel
    have hf : a ≤ s.size ∧ ks.length ≤ a ∧ ∃ f, (lf s a).length < f ∧ klp (krd d) f ns ks (lf s a) = X := by
     rcases HF.out with ⟨-, h⟩ | ⟨h, -⟩
     · exact h
     · cases h
    obtain ⟨hale, hka, f, hfl, hXf⟩ := hf
    have hat := HW.out.rdr.atOf
    have HAT := hH hat; clear hat
    have b2 := HD.out.cells.cell (i := 2) (by omega)
    simp only [row3] at b2
    have hn1 := HN.out.1
    have hn2 := HN.out.2.1
    have hnb : n ≤ 1048576 := by omega
    have hBlt := HD.out.size
    by_cases h125 : (lf s a).head? = some 125
    · obtain ⟨hxe, hroom2⟩ := m_end h125 hfl hXf
      have hmo : Calls Tryz.prog 84 #[.pointer (some ⟨R, 0, none⟩), .string (w1 125), .int .i64 n] wr.drew fun e w3 => e = .returned (.bool false) ∧ Hid (Pw w R s (a + 1) w3) ∧ Hid (DInv (B + 1) B w3 5 (.slice aN n capN) (.slice aK n capK) ns ks xs G) := by
       refine (more_end wr.drew R s a n hs HW.out.drew.rdr hale (by rw [pre_one, h125]; simp)).mono ?_
       rintro e w3 ⟨rfl, hr3, hb3⟩
       exact ⟨rfl, HW.out.drew.next hb3 hr3, (HD.out.kept (drewN_grown wr 1) (fun b e => by cases e)).kept hb3 (fun b e => by cases e; exact ⟨by omega, by omega⟩)⟩
      have HMO := hH hmo
      have HXE := hH hxe
      clear hmo hxe hXf hfl HI
      go_wp2_with fail
      go_region_law (rw [if_pos (by first | rfl | simp [Region.wanted])]; go_simp; refine (uh HMO).mono ?_; rintro e w3 ⟨rfl, HW3, HD3⟩; obtain ⟨k0, k1, k2⟩ := cs3 ((uh HD3).cells) (by omega); obtain ⟨r0, r1, r2, z0, z1, z2⟩ := (uh HW3).cells; simp only [row3] at k0 k1 k2)
      go_wp2_with fail
      obtain ⟨F, h1, h2, h3⟩ := (uh HD3).done ⟨by decide, by decide⟩ (fun x hx => by have := HN.out.2.2.1 x hx; omega)
      refine bodyPost_ret (v := .agg #[.int .i64 5, .slice aN n capN, .slice aK n capK]) (by simp [results, Tryz.results94, go_sem, r0, r1, r2]) rfl ?_
      exact (uh HW3).fin hroom2 h1 h2 (fun b hb => by have := h3 b hb; omega) (by rw [uh HY, uh HXE])
    · have hmc : (∃ a1, (∀ W, PRdr W R s a → Calls Tryz.prog 84 #[.pointer (some ⟨R, 0, none⟩), .string (w1 125), .int .i64 n] W fun e w' => e = .returned (.bool true) ∧ PRdr w' R s a1 ∧ But R W w') ∧ M1 X s a ks.length a1 false) ∨ ((∀ W, PRdr W R s a → Calls Tryz.prog 84 #[.pointer (some ⟨R, 0, none⟩), .string (w1 125), .int .i64 n] W fun e w' => e = fltE ∧ ∃ m, w' = W.drewN m) ∧ X = none) := by
       have hp : pre (w1 125) s a = false := by rw [pre_one]; simp [h125]
       rcases Nat.eq_zero_or_pos n with h0 | h0
       · exact Or.inl ⟨a, fun W hW => by rw [h0]; exact more_first W R s a hW hale hp, m1_zero hale (by omega)⟩
       · rcases m1_eat hale h125 hfl hXf (by omega) with ⟨hp2, ho⟩ | ⟨hp2, ho⟩
         · exact Or.inl ⟨a + 1, fun W hW => more_comma W R s a n h0 hs hW hale hp hp2, ho⟩
         · refine Or.inr ⟨fun W hW => more_none W R s a n h0 hW hale hp hp2, ?_⟩
           rcases ho.2 with ⟨h, -⟩ | ⟨-, h⟩
           · cases h
           · exact h
      rcases hmc with ⟨a1, hmo, hm1⟩ | ⟨hmo, hxn⟩
      · have hmo2 : Calls Tryz.prog 84 #[.pointer (some ⟨R, 0, none⟩), .string (w1 125), .int .i64 n] wr.drew fun e w3 => e = .returned (.bool true) ∧ Hid (Pw w R s a1 w3) ∧ Hid (DInv (B + 1) B w3 5 (.slice aN n capN) (.slice aK n capK) ns ks xs G) := by
         refine (hmo wr.drew HW.out.drew.rdr).mono ?_
         rintro e w3 ⟨rfl, hr3, hb3⟩
         exact ⟨rfl, HW.out.drew.next hb3 hr3, (HD.out.kept (drewN_grown wr 1) (fun b e => by cases e)).kept hb3 (fun b e => by cases e; exact ⟨by omega, by omega⟩)⟩
        have HMO := hH hmo2
        have hnm : (⟨((lf s a1).takeWhile nameByte).toArray⟩ : ByteArray).size ≤ 1048576 := by
         have h1 := (List.takeWhile_prefix (p := nameByte) (l := lf s a1)).length_le
         have h2 := lf_len s a1
         show ((lf s a1).takeWhile nameByte).toArray.size ≤ _
         simp only [List.size_toArray]
         omega
        have hle2 := rn_le nameByte s a1 hm1.1
        have hrun := fun W (hW : PRdr W R s a1) => run_any W R s a1 hs hW hm1.1
        -- what comes behind the name: a colon and a schema, or a fault
        have hcolon := m3_eat h125 hfl hXf hm1
        have hm4 := fun a3 a4 bad4 k (h3 : M3 X s a ks.length a1 a3 false) (h4 : KOut d s (lf s a3) k a4 bad4) => m4_sub hale hka h125 hfl hXf h3 h4
        have hlen3 : ∀ a3, M3 X s a ks.length a1 a3 false → (lf s a3).length < (lf s a).length := fun a3 h3 => by
         rcases h3.2 with ⟨-, e1, e2⟩ | ⟨h, -⟩
         · have l1 := congrArg List.length (kcma_some e1)
           have l2 := congrArg List.length (knam_some e2)
           simp only [List.length_append, List.length_cons, List.length_nil] at l1 l2
           omega
         · cases h
        have hld := HN.out.2.2.2
        generalize (⟨((lf s a1).takeWhile nameByte).toArray⟩ : ByteArray) = nm at *
        have HNM := hH hnm; have HRUN := hH hrun; have HCO := hH hcolon; have HM4 := hH hm4; have HL3 := hH hlen3; have HLD := hH hld
        clear hmo hmo2 hXf hfl hnm hrun hcolon hm4 hlen3 hm1 h125 hld
        go_wp2_with fail
        go_region_law (rw [if_pos (by first | rfl | simp [Region.wanted])]; go_simp; refine (uh HMO).mono ?_; rintro e W3 ⟨rfl, HK3, HD3⟩)
        have hcallN : Calls Tryz.prog 80 #[.pointer (some ⟨R, 0, none⟩), .func (.func 86) #[] #[]] W3.drew fun e w4 => e = .returned (.string nm) ∧ Hid (Pw w R s (a1 + rn nameByte s a1) w4) ∧ Hid (DInv (B + 1) B w4 5 (.slice aN n capN) (.slice aK n capK) ns ks xs G) ∧ w4.cell? ⟨B, 1, none⟩ = some (.slice aN n capN) ∧ B < w4.heap.size := by
         refine (uh HRUN W3.drew (uh HK3).drew.rdr).mono ?_
         rintro e w4 ⟨rfl, hr4, hb4⟩
         have hk4 := (uh HK3).drew.next hb4 hr4
         have hd4 := ((uh HD3).kept (drewN_grown W3 1) (fun b e => by cases e)).kept hb4 (fun b e => by cases e; exact ⟨by omega, by omega⟩)
         exact ⟨rfl, hk4, hd4, hd4.cells.cell (i := 1) (by omega), by have := hd4.size; omega⟩
        have hcallC : ∀ w4, Pw w R s (a1 + rn nameByte s a1) w4 → DInv (B + 1) B w4 5 (.slice aN n capN) (.slice aK n capK) ns ks xs G → Calls Tryz.prog 54 #[.string nm] w4 fun e w5 => e = .returned (.string nm) ∧ Hid (Pw w R s (a1 + rn nameByte s a1) w5) ∧ Hid (DInv (B + 1) B w5 5 (.slice aN n capN) (.slice aK n capK) ns ks xs G) ∧ w5.cell? ⟨B, 1, none⟩ = some (.slice aN n capN) ∧ (∀ ob, (w5.alloc ob).cell? ⟨B, 1, none⟩ = some (.slice aN n capN)) ∧ B < w5.heap.size := fun w4 hk4 hd4 => by
         refine (clone_any nm w4 (by have := uh HNM; omega)).mono ?_
         rintro e w5 ⟨rfl, hb5⟩
         have hg5 : w4.grownBy w5 none := ⟨hb5.os, hb5.tape, hb5.output, hb5.size, fun i hi _ => hb5.block i hi⟩
         have hd5 := hd4.kept hg5 (fun b e => by cases e)
         exact ⟨rfl, hk4.touch hg5 (fun b e => by cases e) hlt hTlt, hd5, hd5.cells.cell (i := 1) (by omega), fun ob => (hd5.cells.alloc ob).cell (i := 1) (by omega), by have := hd5.size; omega⟩
        have HCN := hH hcallN; have HCC := hH hcallC
        have e1 := (uh HD3).cells.cell (i := 1) (by omega)
        simp only [row3] at e1
        clear hcallN hcallC HD HW HMO b2
        go_wp2_with fail
        go_cut [] from 9 to 36 (fun wx => ∃ g1 cap1, Hid (DInv (B + 1) B wx 5 (.slice (some ⟨g1, 0, none⟩) (n + 1) cap1) (.slice aK n capK) (ns ++ [nm]) ks xs G) ∧ Hid (Pw w R s (a1 + rn nameByte s a1) wx))
        case first =>
         go_region_law (first
          | ((refine step_append_lies _ (by rfl) _ _ _ (by rfl) (B + 1) 9 j0 (.string ByteArray.empty) 1 16 Tryz.underlying23 (uh HJJ) (uh HY0) (uh HY1) (uh HY2) rfl (by decide) (.slice aN n capN) n (ns.map Value.string) (by rfl) (by have := (uh HD5).names; rw [hn1] at this; exact this.alloc _) ⟨w5.heap.size, 0, none⟩ 1 1 [.string nm] (by rfl) (by rfl) (cell_one w5 _ _) (fun u hu => by simp at hu; subst hu; rfl) (by decide) (by unfold maxLen; omega) (by omega) (by simp; omega) (w5.heap.size + 1) (by simp) ?_; intro g1 cap1 w6 hown6 hgrow6 hat6 hlt6; have u1 := (DInv.atN (uh HD5) hgrow6).cell (i := 1) (by omega); have uz := (DInv.atN (uh HD5) hgrow6).frozen 1; simp only [row3] at u1))
          | (rw [if_pos (by first | rfl | simp [Region.wanted])]; go_simp; refine (uh HCN).mono ?_; rintro e w4 ⟨rfl, HK4, HD4, t1, hBlt4⟩)
          | (rw [if_pos (by first | rfl | simp [Region.wanted])]; go_simp; refine (uh HCC _ (uh HK4) (uh HD4)).mono ?_; rintro e w5 ⟨rfl, HK5, HD5, t1b, t1c, hBlt5⟩))
         all_goals
          have hz5 : ∀ o, (w5.alloc o).heap.size = w5.heap.size + 1 := fun o => World.size_alloc _ _
          have hinv6 := DInv.name ((uh HD5).kept (World.grownBy_alloc w5 (.cells #[.string nm] 9) none) (fun b e => by cases e)) (by rw [hn1]; exact hown6) hgrow6 (hat6.elim (fun e => Or.inl (by rw [e]; rfl)) (fun e => Or.inr ⟨g1, rfl, by rw [hz5, e]; exact Nat.le_refl _⟩))
          have hkw6 : Pw w R s (a1 + rn nameByte s a1) (w6.setCell ⟨B, 1, none⟩ (.slice (some ⟨g1, 0, none⟩) (n + 1) cap1)) :=
           (((uh HK5).touch (World.grownBy_alloc w5 (.cells #[.string nm] 9) none) (fun b e => by cases e) hlt hTlt).touch hgrow6 (fun b e => by have := ((uh HD5).names.lt b e).1; omega) hlt hTlt).touch (But.set (B := B) _ _ _) (fun b e => by cases e; exact hbx) hlt hTlt
          have HI6 := hH hinv6; have HKW6 := hH hkw6
          clear hinv6 hkw6 hown6 hgrow6 hat6 hlt6 uz u1
          go_wp2_with fail
          go_meet
          exact ⟨g1, cap1, uh HI6, uh HKW6⟩
        case rest =>
         obtain ⟨g1, cap1, HD5, HK5⟩ := hcut
         clear HD3 HK3 HCN HCC e1
         rcases uh HCO with ⟨hp58, hm3⟩ | ⟨hp58, hm3⟩
         · have HTK := hH (fun W (hW : PRdr W R s (a1 + rn nameByte s a1)) => take_yes W R s (w1 58) (a1 + rn nameByte s a1) hs hW hle2 (by decide) (by decide) hp58)
           have hl3 := uh HL3 _ hm3
           have hld := uh HLD
           have hkind := fun W (hW : Pw w R s (a1 + rn nameByte s a1 + 1) W) => uh HI W R s (a1 + rn nameByte s a1 + 1) hs hW.rdr hm3.1 hW.tab hW.tabR (by omega)
           have HM3 := hH hm3
           generalize ha3 : a1 + rn nameByte s a1 + 1 = a3 at *
           have HA3 := hH ha3
           cases hkr : krd d (lf s a3) with
           | none =>
             have hxn : X = none := by
              rcases (uh HM4 a3 a3 true (.mk 0 [] []) hm3 (Or.inr ⟨rfl, hkr, by have := hm3.1; omega⟩)).1 with ⟨h, -⟩ | ⟨-, h, -⟩
              · cases h
              · exact h
             have HXN := hH (show Y = none by rw [uh HY, hxn])
             have HKI := hH hkind; have HKR := hH hkr
             clear hkind hm3 hkr hxn HM4 HL3 HLD hl3 hld ha3
             go_wp2_with (go_at_call 79; refine (uh HTK _ (uh HK5).rdr).mono ?_; rintro e w6 ⟨rfl, hr6, hb6⟩; have HK6 := hH ((uh HK5).next hb6 hr6); have HD6 := hH ((uh HD5).kept hb6 (fun b e => by cases e; exact ⟨by omega, by omega⟩)); clear hr6 hb6)
             rw [show a1 + rn nameByte s a1 + (w1 58).size = a3 from uh HA3] at HK6
             have hcallK : Calls Tryz.prog 68 #[.pointer (some ⟨R, 0, none⟩)] w6.drew fun e w7 => e = fltE ∧ Hid (But R w w7) := by
              refine (uh HKI w6.drew (uh HK6).drew).mono ?_
              rintro e w7 (⟨k, c, F, a4, hc, -⟩ | ⟨-, rfl, hb⟩)
              · rw [uh HKR] at hc; cases hc
              · exact ⟨rfl, (uh HK6).drew.but.trans hb⟩
             have HCK := hH hcallK
             have e2 := (uh HD6).cells.cell (i := 2) (by omega)
             simp only [row3] at e2
             clear hcallK HKI HTK HD5 HK5
             refine wp_region_any (by kernel_rfl) ?_
             change wpAny _ _ _ _ _ _ _ (World.drew _)
             refine wpAny_take (i := 0) (v := .pointer (some ⟨B, 2, none⟩)) rfl (by kernel_rfl) (by kernel_rfl) (by kernel_rfl) (fun _ _ _ h => h) (Or.inl ⟨by rfl, fun w => by go_simp⟩) ?_
             refine wpAny_take (i := 2) (v := .pointer (some ⟨R, 0, none⟩)) rfl (by kernel_rfl) (by kernel_rfl) (by kernel_rfl) (fun _ _ _ h => h) (Or.inl ⟨by rfl, fun w => by go_simp⟩) ?_
             refine wpAny_ready (rs := [1, 3]) (by kernel_rfl) (by simp) ?_
             refine AllReady.cons rfl (fun K hK => ?_) (AllReady.cons rfl (fun K hK => ?_) AllReady.nil)
             · go_simp
               refine hK _ _ ?_; clear hK K
               refine wpAny_ready (rs := [3]) (by kernel_rfl) (by simp) ?_
               refine AllReady.cons rfl (fun K hK => ?_) AllReady.nil
               go_simp
               refine (uh HCK).mono ?_
               rintro e w7 ⟨rfl, HB7⟩
               exact And.intro rfl (KPEnd.no (uh HXN) (uh HB7))
             · go_simp
               refine (uh HCK).mono ?_
               rintro e w7 ⟨rfl, HB7⟩
               exact And.intro rfl (KPEnd.no (uh HXN) (uh HB7))
           | some kr =>
             obtain ⟨k, rest⟩ := kr
             have hout : ∀ a4, a4 ≤ s.size → rest = lf s a4 → FRel X d s a4 false (ns ++ [nm]) (ks ++ [k]) ∧ a < a4 ∧ (lf s a4).length < d := fun a4 h4 hr => by
              have h5 := uh HM4 a3 a4 false k hm3 (Or.inl ⟨rfl, by rw [hkr, hr], h4⟩)
              refine ⟨h5.1, (h5.2 rfl).1, ?_⟩
              have := congrArg List.length (krd_sound _ _ _ _ hkr)
              rw [hr, List.length_append] at this
              omega
             have HOUT := hH hout
             have HKI := hH hkind; have HKR := hH hkr
             clear hkind hm3 hkr hout HM4 HL3 HLD hl3 hld ha3
             go_wp2_with (go_at_call 79; refine (uh HTK _ (uh HK5).rdr).mono ?_; rintro e w6 ⟨rfl, hr6, hb6⟩; have HK6 := hH ((uh HK5).next hb6 hr6); have HD6 := hH ((uh HD5).kept hb6 (fun b e => by cases e; exact ⟨by omega, by omega⟩)); clear hr6 hb6)
             rw [show a1 + rn nameByte s a1 + (w1 58).size = a3 from uh HA3] at HK6
             have hcallK : Calls Tryz.prog 68 #[.pointer (some ⟨R, 0, none⟩)] w6.drew fun e w7 => ∃ (x0 : Int) (ap : Option Addr) (np cp : Nat) (aq : Option Addr) (nq cq : Nat) (F : List Nat) (a4 : Nat), e = .returned (.agg #[.int .i64 x0, .slice ap np cp, .slice aq nq cq]) ∧ Hid (OwnD w7 k ⟨.int .i64 x0, .slice ap np cp, .slice aq nq cq⟩ F) ∧ F.Nodup ∧ Hid (∀ b, b ∈ F → w6.heap.size ≤ b ∧ b < w7.heap.size) ∧ Hid (Pw w R s a4 w7) ∧ Hid (FRel X d s a4 false (ns ++ [nm]) (ks ++ [k]) ∧ a < a4 ∧ (lf s a4).length < d) ∧ Hid (a4 ≤ s.size) ∧ Hid (DInv (B + 1) B w7 5 (.slice (some ⟨g1, 0, none⟩) (n + 1) cap1) (.slice aK n capK) (ns ++ [nm]) ks xs G) ∧ w7.cell? ⟨B, 2, none⟩ = some (.slice aK n capK) ∧ (∀ ob, (w7.alloc ob).cell? ⟨B, 2, none⟩ = some (.slice aK n capK)) ∧ w6.heap.size ≤ w7.heap.size := by
              refine (uh HKI w6.drew (uh HK6).drew).mono ?_
              rintro e w7 (⟨k', ⟨y0, y1, y2⟩, F, a4, hc, h4, rfl, ho, hnd, hF, hr, hb⟩ | ⟨hc, -⟩)
              · rw [uh HKR] at hc
                simp only [Option.some.injEq, Prod.mk.injEq] at hc
                obtain ⟨rfl, hc⟩ := hc
                have hd7 := ((uh HD6).kept (drewN_grown w6 1) (fun b e => by cases e)).kept hb (fun b e => by cases e; exact ⟨by omega, by omega⟩)
                obtain ⟨p0, -, F1, F2, -, ⟨ap, cp, p1, -⟩, aq, cq, p2, -⟩ := ho.open
                simp only at p0 p1 p2
                subst p0 p1 p2
                exact ⟨_, _, _, _, _, _, _, F, a4, rfl, ho, hnd, hF, (uh HK6).drew.next hb hr, uh HOUT a4 h4 hc, h4, hd7, hd7.cells.cell (i := 2) (by omega), fun ob => (hd7.cells.alloc ob).cell (i := 2) (by omega), hb.size⟩
              · rw [uh HKR] at hc; cases hc
             have HCK := hH hcallK
             have e2 := (uh HD6).cells.cell (i := 2) (by omega)
             simp only [row3] at e2
             have hsz6 := (uh HD6).size
             clear hcallK HKI HTK HD5 HK5 HOUT
             go_region_law (first
              | ((refine step_append_lies _ (by rfl) _ _ _ (by rfl) (B + 1) 26 i0 _ 3 56 Tryz.underlying24 (uh HII) (uh HZ0) (uh HZ1) (uh HZ2) rfl (by decide) (.slice aK n capK) n xs (by rfl) (by have := (uh HD7).got.row; rw [hn2] at this; exact this.alloc _) ⟨w7.heap.size, 0, none⟩ 1 1 (c3l ⟨.int .i64 x0, .slice ap np cp, .slice aq nq cq⟩) (by rfl) (by rfl) (cell_three w7 _ _) (uh HOW).one (by decide) (by unfold maxLen; omega) (by omega) (by simp; omega) (w7.heap.size + 1) (by simp) ?_; intro g2 cap2 w8 hown8 hgrow8 hat8 hlt8; have u2 := (DInv.atK (uh HD7) hgrow8).cell (i := 2) (by omega); have uz2 := (DInv.atK (uh HD7) hgrow8).frozen 2; simp only [row3] at u2))
              | (rw [if_pos (by first | rfl | simp [Region.wanted])]; go_simp; refine (uh HCK).mono ?_; rintro e w7 ⟨x0, ap, np, cp, aq, nq, cq, F, a4, rfl, HOW, hFn, HFL, HK7, HFR, HA4, HD7, t2c, t2d, hs7⟩))
             all_goals
              have hz7 : ∀ o, (w7.alloc o).heap.size = w7.heap.size + 1 := fun o => World.size_alloc _ _
              have hinv8 := DInv.kid (m := w6.heap.size) ((uh HD7).kept (World.grownBy_alloc w7 (.cells #[.int .i64 x0, .slice ap np cp, .slice aq nq cq] 26) none) (fun b e => by cases e)) (OwnD.carry k _ F (fun b hb => Below.heap_alloc _ _ _ (uh HFL b hb).2) (uh HOW)) hFn (fun b hb => ⟨(uh HFL b hb).1, by rw [hz7]; have := (uh HFL b hb).2; omega⟩)
               (fun b hb => ((uh HD6).got.lt b hb).2.1) (fun b hb => ((uh HD6).got.row.lt b hb).2) (fun b hb => ((uh HD6).names.lt b hb).2) (uh HD6).size (by rw [hn2]; exact hown8) hgrow8 (hat8.elim (fun e => Or.inl (by rw [e]; rfl)) (fun e => Or.inr ⟨g2, rfl, by rw [hz7, e]; exact Nat.le_refl _⟩))
              have hkw8 : Pw w R s a4 (w8.setCell ⟨B, 2, none⟩ (.slice (some ⟨g2, 0, none⟩) (n + 1) cap2)) :=
               (((uh HK7).touch (World.grownBy_alloc w7 (.cells #[.int .i64 x0, .slice ap np cp, .slice aq nq cq] 26) none) (fun b e => by cases e) hlt hTlt).touch hgrow8 (fun b e => by have := ((uh HD7).got.row.lt b e).1; omega) hlt hTlt).touch (But.set (B := B) _ _ _) (fun b e => by cases e; exact hbx) hlt hTlt
              have HI8 := hH hinv8; have HKW8 := hH hkw8
              clear hinv8 hkw8 hown8 hgrow8 hat8 hlt8 u2 uz2
              go_wp2_with fail
              go_roundw
              case rel => exact ⟨ns ++ [nm], ks ++ [k], n + 1, some ⟨g1, 0, none⟩, cap1, some ⟨g2, 0, none⟩, cap2, _, _, a4, hH ⟨by simp [hn1], by simp [hn2], fun x hx => by rcases List.mem_append.1 hx with hx | hx; exact HN.out.2.2.1 x hx; simp at hx; rw [hx]; exact uh HNM, (uh HFR).2.2⟩, hH (uh HFR).1, HI8, HKW8⟩
              case measure =>
               rw [(uh HKW8).rdr.atOf, uh HAT]
               have := (uh HFR).2.1
               have := uh HA4
               omega
         · have HTK := hH (fun W (hW : PRdr W R s (a1 + rn nameByte s a1)) => take_no W R s (w1 58) (a1 + rn nameByte s a1) hW hle2 hp58)
           have hxn : X = none := by
            rcases hm3.2 with ⟨h, -⟩ | ⟨-, h⟩
            · cases h
            · exact h
           have HXN := hH (show Y = none by rw [uh HY, hxn])
           clear hm3 hxn HM4 HL3 HLD HI
           go_wp2_with (go_at_call 79; refine (uh HTK _ (uh HK5).rdr).mono ?_; rintro e w6 ⟨rfl, m, rfl⟩)
           exact ⟨rfl, KPEnd.no (uh HXN) (but_drewN (uh HK5).but m)⟩
      · have hmo2 : Calls Tryz.prog 84 #[.pointer (some ⟨R, 0, none⟩), .string (w1 125), .int .i64 n] wr.drew fun e w3 => e = fltE ∧ Hid (But R w w3) := by
         refine (hmo wr.drew HW.out.drew.rdr).mono ?_
         rintro e w3 ⟨rfl, m, rfl⟩
         exact ⟨rfl, but_drewN HW.out.drew.but m⟩
        have HMO := hH hmo2
        have HXN := hH (show Y = none by rw [uh HY, hxn])
        clear hmo hmo2 hxn hXf hfl HI
        go_wp2_with fail
        go_region_law (rw [if_pos (by first | rfl | simp [Region.wanted])]; go_simp; refine (uh HMO).mono ?_; rintro e w3 ⟨rfl, HB3⟩; refine dead_end (by assumption) { tmps := #[], defers := [] } w (And.intro rfl (KPEnd.no (uh HXN) (uh HB3))) (fun HF => ?_))
        all_goals exact (uh HF).elim
 · have hX : FX d (lf s at') = none := by rw [FX, if_neg h123]
   have htk := take_no _ R s (w1 123) at' (uh HPW).rdr ha (by rw [pre_one]; simp [h123])
   have HTK := hH htk
   have HB := hH ((uh HPW).but)
   unfold FXo
   rw [hX]
   clear htk h hT HPW
   go_enter Tryz.func94, Tryz.ntmps94
   go_wp2_with (go_at_call 79; refine (uh HTK).mono ?_; rintro e w2 ⟨rfl, m, rfl⟩)
   exact ⟨rfl, KPEnd.no rfl (but_drewN (uh HB) m)⟩
end Go.Proofs.YtccnehcpmkgbhaaGreatDoor
