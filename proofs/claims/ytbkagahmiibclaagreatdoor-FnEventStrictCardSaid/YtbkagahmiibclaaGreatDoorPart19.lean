/- A part. -/
import Derived.Test.YtbkagahmiibclaaGreatDoorPart13
import Derived.Test.YtbkagahmiibclaaGreatDoorPart18
namespace Go.Proofs.YtbkagahmiibclaaGreatDoor
open Go Go.RowKit
set_option maxRecDepth 100000
set_option maxHeartbeats 25600000
structure Mv (R o : Nat) (w w' : World) : Prop where
 os : w'.os = w.os
 tape : w'.tape = w.tape
 output : w'.output = w.output
 size : w'.heap.size = w.heap.size
 block : ∀ i, i ≠ R → w'.heap[i]? = w.heap[i]?
 cell : ∀ j, j ≠ o → w'.cell? ⟨R, j, none⟩ = w.cell? ⟨R, j, none⟩
 frz : ∀ j, w'.frozen? ⟨R, j, none⟩ = w.frozen? ⟨R, j, none⟩
theorem Mv.refl (R o : Nat) (w : World) : Mv R o w w := ⟨rfl, rfl, rfl, rfl, fun _ _ => rfl, fun _ _ => rfl, fun _ => rfl⟩
theorem Mv.trans {R o : Nat} {a b c : World} (h : Mv R o a b) (k : Mv R o b c) : Mv R o a c :=
 ⟨k.os.trans h.os, k.tape.trans h.tape, k.output.trans h.output, k.size.trans h.size, fun i hi => (k.block i hi).trans (h.block i hi), fun j hj => (k.cell j hj).trans (h.cell j hj), fun j => (k.frz j).trans (h.frz j)⟩
theorem Mv.drewN {R o : Nat} {w w' : World} (h : Mv R o w w') (n : Nat) : Mv R o w (w'.drewN n) := ⟨h.os, h.tape, h.output, h.size, h.block, h.cell, h.frz⟩
theorem Mv.set (R o : Nat) (w : World) (v : Value) : Mv R o w (w.setCell ⟨R, o, none⟩ v) :=
 ⟨rfl, rfl, rfl, by simp, fun i hi => Below.heap_setCell _ _ _ _ hi, fun j hj => World.cell?_setCell_other _ _ _ _ (fun e => hj (by simpa using (congrArg Addr.off e).symm)), fun j => World.frozen?_setCell _ _ _ _⟩
theorem Mv.but {R o : Nat} {w w' : World} (h : Mv R o w w') : But R w w' := ⟨h.os, h.tape, h.output, Nat.le_of_eq h.size.symm, fun i _ hne => h.block i (fun e => hne (by rw [e]))⟩
structure Tx (w : World) (R o : Nat) (s : ByteArray) (a : Nat) : Prop where
 c0 : w.cell? ⟨R, o, none⟩ = some (.string s)
 c1 : w.cell? ⟨R, o + 1, none⟩ = some (.int .i64 a)
 f1 : w.frozen? ⟨R, o + 1, none⟩ = false
theorem Tx.drewN {w : World} {R o : Nat} {s : ByteArray} {a : Nat} (h : Tx w R o s a) (n : Nat) : Tx (w.drewN n) R o s a := ⟨h.c0, h.c1, h.f1⟩
theorem Tx.set {w : World} {R o : Nat} {s : ByteArray} {a : Nat} (h : Tx w R o s a) (b : Nat) : Tx (w.setCell ⟨R, o + 1, none⟩ (.int .i64 b)) R o s b :=
 ⟨by rw [World.cell?_setCell_other _ _ _ _ (fun e => by have := congrArg Addr.off e; simp at this)]; exact h.c0, by apply World.cell?_setCell_same; exact h.c1, by rw [World.frozen?_setCell]; exact h.f1⟩
theorem Tx.of_block {w w' : World} {R o : Nat} {s : ByteArray} {a : Nat} (h : Tx w R o s a) (e : w'.heap[R]? = w.heap[R]?) : Tx w' R o s a :=
 ⟨by rw [World.cell?_of_block (w := w) e]; exact h.c0, by rw [World.cell?_of_block (w := w) e]; exact h.c1, by rw [World.frozen?_of_block (w := w) e]; exact h.f1⟩
theorem xhasPre (s wd : ByteArray) (a : Nat) : Lib.hasPrefix (s.extract a s.size).data.toList wd.data.toList = pre wd s a := by
 unfold Lib.hasPrefix pre lf
 congr 1
 simp [List.take_of_length_le]
theorem xnext_any (w : World) (R o : Nat) (s : ByteArray) (a : Nat) (h : Tx w R o s a) (ha : a ≤ s.size) :
 Calls Tryz.prog 111 #[.pointer (some ⟨R, o, none⟩)] w fun e w' => e = .returned (.int .u8 (bv s a)) ∧ ∃ m, w' = w.drewN m := by
 obtain ⟨c0, c1, f1⟩ := h
 by_cases hlt : a < s.size
 · have hbv : bv s a = s[a].toNat := by unfold bv; rw [dif_pos hlt]
   rw [hbv]
   have hb : ((a : Int) == (s.size : Int)) = false := by simp; omega
   clear hbv
   go_enter Tryz.func111, Tryz.ntmps111
   go_wp2_with fail
   go_quiet (fail)
   go_wp2_with fail
   go_quiet (fail)
   go_wp2_with fail
   go_ret
   exact ⟨rfl, _, by rw [World.drewN_drewN]⟩
 · have hbv : bv s a = 0 := by unfold bv; rw [dif_neg hlt]
   rw [hbv]
   have hb : ((a : Int) == (s.size : Int)) = true := by simp; omega
   clear hbv
   go_enter Tryz.func111, Tryz.ntmps111
   go_wp2_with fail
   go_quiet (fail)
   go_wp2_with fail
   go_ret
   exact ⟨rfl, _, rfl⟩
theorem xskip_yes (w : World) (R o : Nat) (s wd : ByteArray) (a : Nat) (hs : s.size ≤ 1048576) (h : Tx w R o s a) (ha : a ≤ s.size) (hw0 : 0 < wd.size) (hw : wd.size ≤ 16) (hp : pre wd s a = true) :
 Calls Tryz.prog 105 #[.pointer (some ⟨R, o, none⟩), .string wd] w fun e w' => e = .returned (.bool true) ∧ Tx w' R o s (a + wd.size) ∧ Mv R (o + 1) w w' := by
 obtain ⟨c0, c1, f1⟩ := h
 have H := hH (Tx.mk c0 c1 f1)
 have hi0 : (0 : Int) ≤ (a : Int) := by omega
 have hi1 : (a : Int) ≤ (s.size : Int) := by omega
 have hpre := Tryz.strings_HasPrefix (s.extract a s.size) wd
 rw [xhasPre, hp] at hpre
 have HPRE := hH hpre
 clear hp hpre
 go_enter Tryz.func105, Tryz.ntmps105
 go_wp2_with fail
 go_quiet ((go_at_call 136; exact Calls.quiet_of_same (uh HPRE _)))
 go_wp2_with fail
 go_ret
 exact ⟨rfl, (H.out.drewN _).set _, ((Mv.refl _ _ _).drewN _).trans (Mv.set _ _ _ _)⟩
theorem xskip_no (w : World) (R o : Nat) (s wd : ByteArray) (a : Nat) (h : Tx w R o s a) (ha : a ≤ s.size) (hp : pre wd s a = false) :
 Calls Tryz.prog 105 #[.pointer (some ⟨R, o, none⟩), .string wd] w fun e w' => e = .returned (.bool false) ∧ ∃ m, w' = w.drewN m := by
 obtain ⟨c0, c1, f1⟩ := h
 have hi0 : (0 : Int) ≤ (a : Int) := by omega
 have hi1 : (a : Int) ≤ (s.size : Int) := by omega
 have hpre := Tryz.strings_HasPrefix (s.extract a s.size) wd
 rw [xhasPre, hp] at hpre
 have HPRE := hH hpre
 clear hp hpre
 go_enter Tryz.func105, Tryz.ntmps105
 go_wp2_with fail
 go_quiet ((go_at_call 136; exact Calls.quiet_of_same (uh HPRE _)))
 go_wp2_with fail
 go_ret
 exact ⟨rfl, _, rfl⟩
theorem xtake_yes (w : World) (R o : Nat) (s wd : ByteArray) (a : Nat) (hs : s.size ≤ 1048576) (h : Tx w R o s a) (ha : a ≤ s.size) (hw0 : 0 < wd.size) (hw : wd.size ≤ 16) (hp : pre wd s a = true) :
 Calls Tryz.prog 72 #[.pointer (some ⟨R, o, none⟩), .string wd] w fun e w' => e = .returned (.tuple #[]) ∧ Tx w' R o s (a + wd.size) ∧ Mv R (o + 1) w w' := by
 have HS := hH (xskip_yes w R o s wd a hs h ha hw0 hw hp)
 clear h hp
 go_enter Tryz.func72, Tryz.ntmps72
 go_wp2_with (first
  | (go_at_call 105; refine (uh HS).mono ?_; rintro e w1 ⟨rfl, hr, hb⟩)
  | (go_at_call 68; refine (treeWant_yes _).mono ?_; rintro e w2 ⟨rfl, rfl⟩))
 go_end0
 exact ⟨rfl, hr, hb⟩
theorem xtake_no (w : World) (R o : Nat) (s wd : ByteArray) (a : Nat) (h : Tx w R o s a) (ha : a ≤ s.size) (hp : pre wd s a = false) :
 Calls Tryz.prog 72 #[.pointer (some ⟨R, o, none⟩), .string wd] w fun e w' => e = fltE ∧ ∃ m, w' = w.drewN m := by
 have HS := hH (xskip_no w R o s wd a h ha hp)
 clear h hp
 go_enter Tryz.func72, Tryz.ntmps72
 go_wp2_with (first
  | (go_at_call 105; refine (uh HS).mono ?_; rintro e w1 ⟨rfl, m, rfl⟩)
  | (go_at_call 68; refine (treeWant_no _).mono ?_; rintro e w2 ⟨rfl, rfl⟩))
 exact ⟨rfl, rfl, _, rfl⟩
theorem xend_yes (w : World) (R o : Nat) (s : ByteArray) (h : Tx w R o s s.size) :
 Calls Tryz.prog 76 #[.pointer (some ⟨R, o, none⟩)] w fun e w' => e = .returned (.tuple #[]) ∧ ∃ m, w' = w.drewN m := by
 obtain ⟨c0, c1, f1⟩ := h
 go_enter Tryz.func76, Tryz.ntmps76
 go_quiet ((go_at_call 68; exact Calls.quiet_of_same (treeWant_yes _)))
 go_wp2_with fail
 go_end0
 exact ⟨rfl, _, rfl⟩
theorem xend_no (w : World) (R o : Nat) (s : ByteArray) (a : Nat) (h : Tx w R o s a) (ha : a < s.size) :
 Calls Tryz.prog 76 #[.pointer (some ⟨R, o, none⟩)] w fun e w' => e = fltE ∧ ∃ m, w' = w.drewN m := by
 obtain ⟨c0, c1, f1⟩ := h
 have hne : ¬ ((a : Int) = (s.size : Int)) := by omega
 have hd : decide ((a : Int) = (s.size : Int)) = false := by simp; omega
 have hb : ((a : Int) == (s.size : Int)) = false := by simp; omega
 go_enter Tryz.func76, Tryz.ntmps76
 go_region_law (rw [if_pos (by first | rfl | simp [Region.wanted])]; go_simp; refine (treeWant_no _).mono ?_; rintro e w2 ⟨rfl, rfl⟩; refine dead_end (by assumption) { tmps := #[], defers := [] } w (And.intro rfl (And.intro rfl ⟨1, rfl⟩)) (fun HF => ?_))
 all_goals exact (uh HF).elim
theorem xmore_end (w : World) (R o : Nat) (s : ByteArray) (a n : Nat) (e : UInt8) (hs : s.size ≤ 1048576) (h : Tx w R o s a) (ha : a ≤ s.size) (hp : pre (w1 e) s a = true) :
 Calls Tryz.prog 131 #[.pointer (some ⟨R, o, none⟩), .string (w1 e), .int .i64 n] w fun e w' => e = .returned (.bool false) ∧ Tx w' R o s (a + 1) ∧ Mv R (o + 1) w w' := by
 have HS := hH (xskip_yes w R o s (w1 e) a hs h ha (by show 0 < 1; decide) (by show 1 ≤ 16; decide) hp)
 clear h hp
 go_enter Tryz.func131, Tryz.ntmps131
 go_wp2_with (go_at_call 105; refine (uh HS).mono ?_; rintro e w1 ⟨rfl, hr, hb⟩)
 go_ret
 exact ⟨rfl, hr, hb⟩
theorem xmore_first (w : World) (R o : Nat) (s : ByteArray) (a : Nat) (e : UInt8) (h : Tx w R o s a) (ha : a ≤ s.size) (hp : pre (w1 e) s a = false) :
 Calls Tryz.prog 131 #[.pointer (some ⟨R, o, none⟩), .string (w1 e), .int .i64 0] w fun e w' => e = .returned (.bool true) ∧ Tx w' R o s a ∧ Mv R (o + 1) w w' := by
 have HS := hH (xskip_no w R o s (w1 e) a h ha hp)
 have H := hH h
 clear h hp
 go_enter Tryz.func131, Tryz.ntmps131
 go_wp2_with (go_at_call 105; refine (uh HS).mono ?_; rintro e w1 ⟨rfl, m, rfl⟩)
 go_ret
 exact ⟨rfl, H.out.drewN m, (Mv.refl _ _ _).drewN m⟩
theorem xmore_comma (w : World) (R o : Nat) (s : ByteArray) (a n : Nat) (e : UInt8) (hn : 0 < n) (hs : s.size ≤ 1048576) (h : Tx w R o s a) (ha : a ≤ s.size) (hp : pre (w1 e) s a = false) (hp2 : pre (w1 44) s a = true) :
 Calls Tryz.prog 131 #[.pointer (some ⟨R, o, none⟩), .string (w1 e), .int .i64 n] w fun e w' => e = .returned (.bool true) ∧ Tx w' R o s (a + 1) ∧ Mv R (o + 1) w w' := by
 have HS := hH (xskip_no w R o s (w1 e) a h ha hp)
 have HT := hH (fun m => xtake_yes (w.drewN m) R o s (w1 44) a hs (h.drewN m) ha (by decide) (by decide) hp2)
 have hz : decide ((0 : Int) < (n : Int)) = true := by simp; omega
 clear h hp hp2
 go_enter Tryz.func131, Tryz.ntmps131
 go_wp2_with (first
  | (go_at_call 105; refine (uh HS).mono ?_; rintro e w1 ⟨rfl, m, rfl⟩)
  | (go_at_call 72; refine (uh HT _).mono ?_; rintro e w2 ⟨rfl, hr, hb⟩))
 go_ret
 exact ⟨rfl, hr, ((Mv.refl _ _ _).drewN m).trans hb⟩
theorem xmore_none (w : World) (R o : Nat) (s : ByteArray) (a n : Nat) (e : UInt8) (hn : 0 < n) (h : Tx w R o s a) (ha : a ≤ s.size) (hp : pre (w1 e) s a = false) (hp2 : pre (w1 44) s a = false) :
 Calls Tryz.prog 131 #[.pointer (some ⟨R, o, none⟩), .string (w1 e), .int .i64 n] w fun e w' => e = fltE ∧ ∃ m, w' = w.drewN m := by
 have HS := hH (xskip_no w R o s (w1 e) a h ha hp)
 have HT := hH (fun m => xtake_no (w.drewN m) R o s (w1 44) a (h.drewN m) ha hp2)
 have hz : decide ((0 : Int) < (n : Int)) = true := by simp; omega
 clear h hp hp2
 go_enter Tryz.func131, Tryz.ntmps131
 go_wp2_with (first
  | (go_at_call 105; refine (uh HS).mono ?_; rintro e w1 ⟨rfl, m, rfl⟩)
  | (go_at_call 72; refine (uh HT _).mono ?_; rintro e w2 ⟨rfl, m2, rfl⟩))
 exact ⟨rfl, rfl, _, rfl⟩

def txAt (w : World) (R o : Nat) : Nat := (intOf ((w.cell? ⟨R, o + 1, none⟩).getD undef)).toNat
theorem Tx.atOf {w : World} {R o : Nat} {s : ByteArray} {a : Nat} (h : Tx w R o s a) : txAt w R o = a := by
 unfold txAt; rw [h.c1]; simp [intOf]
theorem isDigit_dg (c : UInt8) (w : World) : Calls Tryz.prog 66 #[.int .u8 c.toNat] w fun e w' => e = .returned (.bool (isDg c)) ∧ w' = w := isDigit_any c w
def nqB (c : UInt8) : Bool := c != 34
theorem quote_any (c : UInt8) (w : World) : Calls Tryz.prog 129 #[.int .u8 c.toNat] w fun e w' => e = .returned (.bool (nqB c)) ∧ w' = w := by
 have hb : nqB c = ((c.toNat : Int) != 34) := by
  unfold nqB
  rw [Bool.eq_iff_iff]
  simp only [bne_iff_ne, ne_eq]
  constructor
  · intro h e; exact h (UInt8.toNat_inj.1 (show c.toNat = (34 : UInt8).toNat by show c.toNat = 34; omega))
  · intro h e; subst e; exact h rfl
 rw [hb]
 go_enter Tryz.func129, Tryz.ntmps129
 go_wp2_with fail
 go_ret
 exact ⟨rfl, rfl⟩
theorem xrun_name (w : World) (R o : Nat) (s : ByteArray) (a : Nat) (hs : s.size ≤ 1048576) (h : Tx w R o s a) (ha : a ≤ s.size) :
 Calls Tryz.prog 106 #[.pointer (some ⟨R, o, none⟩), .func (.func 67) #[] #[]] w fun e w' => e = .returned (.string ⟨((lf s a).takeWhile nameByte).toArray⟩) ∧ Tx w' R o s (a + rn nameByte s a) ∧ Mv R (o + 1) w w' := by
 have H := hH h
 obtain ⟨c0, c1, f1⟩ := h
 rw [← rn_take]
 have hle := rn_le nameByte s a ha
 generalize hr : rn nameByte s a = r at *
 have HR := hH hr
 have hi0 : (0 : Int) ≤ (a : Int) := by omega
 have hi1 : (a : Int) ≤ (a : Int) + (r : Int) := by omega
 have hi2 : (a : Int) + (r : Int) ≤ (s.size : Int) := by omega
 clear hr
 go_enter Tryz.func106, Tryz.ntmps106
 go_wp2_with fail
 go_loopw [] (fun wr => ∃ (j : Nat), a ≤ j ∧ j ≤ s.size ∧ Hid (j + rn nameByte s j = a + r) ∧ Hid (Tx wr R o s j) ∧ Hid (Mv R (o + 1) w wr)) (fun wr => s.size - txAt wr R o)
 case atStart => exact ⟨a, Nat.le_refl _, ha, hH (by show _ = _; rw [HR.out]), H, hH (Mv.refl _ _ _)⟩
 case round =>
  obtain ⟨j, hj0, hj1, HJ, HRj, HMV⟩ := hrel
  obtain ⟨y0, y1, g1⟩ := HRj.out
  have hat := HRj.out.atOf
  by_cases hlt : j < s.size
  · have HNB := hH (isNameByte_any s[j])
    have hdl : decide ((j : Int) < (s.size : Int)) = true := by simp; omega
    have hj2 : (0 : Int) ≤ (j : Int) := by omega
    have hj3 : (j : Int) < (s.size : Int) := by omega
    cases hnb : nameByte s[j]
    · have he : j = a + r := by
       have := HJ.out
       have := rn_stop (p := nameByte) hlt (by simpa using hnb)
       omega
      rw [hnb] at HNB
      have HE := hH he
      clear HR H he hnb
      go_wp2_with fail
      go_quiet ((go_at_call 67; exact Calls.quiet_of_same (uh HNB _)))
      have hk1 : (a : Int) ≤ (j : Int) := by omega
      have hk2 : (j : Int) ≤ (s.size : Int) := by omega
      go_wp2_with fail
      go_quiet (fail)
      go_wp2_with fail
      go_ret
      refine ⟨?_, ?_, ((uh HMV).drewN _).drewN _⟩
      · rw [← uh HE]; rfl
      · rw [← uh HE]; exact (HRj.out.drewN _).drewN _
    · have hjn : j + 1 + rn nameByte s (j + 1) = a + r := by
       have := HJ.out
       have := rn_step (p := nameByte) hlt (by simpa using hnb)
       omega
      rw [hnb] at HNB
      have HJN := hH hjn
      clear HR H hjn hnb
      go_wp2_with fail
      go_quiet ((go_at_call 67; exact Calls.quiet_of_same (uh HNB _)))
      go_wp2_with fail
      go_roundw
      case rel => exact ⟨j + 1, by omega, by omega, HJN, hH ((HRj.out.drewN _).set _), hH (((uh HMV).drewN _).trans (Mv.set _ _ _ _))⟩
      case measure =>
       rw [hat]
       have e5 := ((HRj.out.drewN nq).set (j + 1)).atOf
       exact Nat.lt_of_le_of_lt (Nat.le_of_eq (congrArg (s.size - ·) e5)) (by omega)
  · have hdl : decide ((j : Int) < (s.size : Int)) = false := by simp; omega
    have he : j = a + r := by
     have := HJ.out
     have := rn_end (p := nameByte) (s := s) (i := j) (by omega)
     omega
    have HE := hH he
    clear HR H he
    have hk1 : (a : Int) ≤ (j : Int) := by omega
    have hk2 : (j : Int) ≤ (s.size : Int) := by omega
    go_wp2_with fail
    go_quiet (fail)
    go_wp2_with fail
    go_quiet (fail)
    go_wp2_with fail
    go_ret
    refine ⟨?_, ?_, ((uh HMV).drewN _).drewN _⟩
    · rw [← uh HE]; rfl
    · rw [← uh HE]; exact (HRj.out.drewN _).drewN _
theorem xrun_digit (w : World) (R o : Nat) (s : ByteArray) (a : Nat) (hs : s.size ≤ 1048576) (h : Tx w R o s a) (ha : a ≤ s.size) :
 Calls Tryz.prog 106 #[.pointer (some ⟨R, o, none⟩), .func (.func 66) #[] #[]] w fun e w' => e = .returned (.string ⟨((lf s a).takeWhile isDg).toArray⟩) ∧ Tx w' R o s (a + rn isDg s a) ∧ Mv R (o + 1) w w' := by
 have H := hH h
 obtain ⟨c0, c1, f1⟩ := h
 rw [← rn_take]
 have hle := rn_le isDg s a ha
 generalize hr : rn isDg s a = r at *
 have HR := hH hr
 have hi0 : (0 : Int) ≤ (a : Int) := by omega
 have hi1 : (a : Int) ≤ (a : Int) + (r : Int) := by omega
 have hi2 : (a : Int) + (r : Int) ≤ (s.size : Int) := by omega
 clear hr
 go_enter Tryz.func106, Tryz.ntmps106
 go_wp2_with fail
 go_loopw [] (fun wr => ∃ (j : Nat), a ≤ j ∧ j ≤ s.size ∧ Hid (j + rn isDg s j = a + r) ∧ Hid (Tx wr R o s j) ∧ Hid (Mv R (o + 1) w wr)) (fun wr => s.size - txAt wr R o)
 case atStart => exact ⟨a, Nat.le_refl _, ha, hH (by show _ = _; rw [HR.out]), H, hH (Mv.refl _ _ _)⟩
 case round =>
  obtain ⟨j, hj0, hj1, HJ, HRj, HMV⟩ := hrel
  obtain ⟨y0, y1, g1⟩ := HRj.out
  have hat := HRj.out.atOf
  by_cases hlt : j < s.size
  · have HNB := hH (isDigit_dg s[j])
    have hdl : decide ((j : Int) < (s.size : Int)) = true := by simp; omega
    have hj2 : (0 : Int) ≤ (j : Int) := by omega
    have hj3 : (j : Int) < (s.size : Int) := by omega
    cases hnb : isDg s[j]
    · have he : j = a + r := by
       have := HJ.out
       have := rn_stop (p := isDg) hlt (by simpa using hnb)
       omega
      rw [hnb] at HNB
      have HE := hH he
      clear HR H he hnb
      go_wp2_with fail
      go_quiet ((go_at_call 66; exact Calls.quiet_of_same (uh HNB _)))
      have hk1 : (a : Int) ≤ (j : Int) := by omega
      have hk2 : (j : Int) ≤ (s.size : Int) := by omega
      go_wp2_with fail
      go_quiet (fail)
      go_wp2_with fail
      go_ret
      refine ⟨?_, ?_, ((uh HMV).drewN _).drewN _⟩
      · rw [← uh HE]; rfl
      · rw [← uh HE]; exact (HRj.out.drewN _).drewN _
    · have hjn : j + 1 + rn isDg s (j + 1) = a + r := by
       have := HJ.out
       have := rn_step (p := isDg) hlt (by simpa using hnb)
       omega
      rw [hnb] at HNB
      have HJN := hH hjn
      clear HR H hjn hnb
      go_wp2_with fail
      go_quiet ((go_at_call 66; exact Calls.quiet_of_same (uh HNB _)))
      go_wp2_with fail
      go_roundw
      case rel => exact ⟨j + 1, by omega, by omega, HJN, hH ((HRj.out.drewN _).set _), hH (((uh HMV).drewN _).trans (Mv.set _ _ _ _))⟩
      case measure =>
       rw [hat]
       have e5 := ((HRj.out.drewN nq).set (j + 1)).atOf
       exact Nat.lt_of_le_of_lt (Nat.le_of_eq (congrArg (s.size - ·) e5)) (by omega)
  · have hdl : decide ((j : Int) < (s.size : Int)) = false := by simp; omega
    have he : j = a + r := by
     have := HJ.out
     have := rn_end (p := isDg) (s := s) (i := j) (by omega)
     omega
    have HE := hH he
    clear HR H he
    have hk1 : (a : Int) ≤ (j : Int) := by omega
    have hk2 : (j : Int) ≤ (s.size : Int) := by omega
    go_wp2_with fail
    go_quiet (fail)
    go_wp2_with fail
    go_quiet (fail)
    go_wp2_with fail
    go_ret
    refine ⟨?_, ?_, ((uh HMV).drewN _).drewN _⟩
    · rw [← uh HE]; rfl
    · rw [← uh HE]; exact (HRj.out.drewN _).drewN _
theorem xrun_quote (w : World) (R o : Nat) (s : ByteArray) (a : Nat) (hs : s.size ≤ 1048576) (h : Tx w R o s a) (ha : a ≤ s.size) :
 Calls Tryz.prog 106 #[.pointer (some ⟨R, o, none⟩), .func (.func 129) #[] #[]] w fun e w' => e = .returned (.string ⟨((lf s a).takeWhile nqB).toArray⟩) ∧ Tx w' R o s (a + rn nqB s a) ∧ Mv R (o + 1) w w' := by
 have H := hH h
 obtain ⟨c0, c1, f1⟩ := h
 rw [← rn_take]
 have hle := rn_le nqB s a ha
 generalize hr : rn nqB s a = r at *
 have HR := hH hr
 have hi0 : (0 : Int) ≤ (a : Int) := by omega
 have hi1 : (a : Int) ≤ (a : Int) + (r : Int) := by omega
 have hi2 : (a : Int) + (r : Int) ≤ (s.size : Int) := by omega
 clear hr
 go_enter Tryz.func106, Tryz.ntmps106
 go_wp2_with fail
 go_loopw [] (fun wr => ∃ (j : Nat), a ≤ j ∧ j ≤ s.size ∧ Hid (j + rn nqB s j = a + r) ∧ Hid (Tx wr R o s j) ∧ Hid (Mv R (o + 1) w wr)) (fun wr => s.size - txAt wr R o)
 case atStart => exact ⟨a, Nat.le_refl _, ha, hH (by show _ = _; rw [HR.out]), H, hH (Mv.refl _ _ _)⟩
 case round =>
  obtain ⟨j, hj0, hj1, HJ, HRj, HMV⟩ := hrel
  obtain ⟨y0, y1, g1⟩ := HRj.out
  have hat := HRj.out.atOf
  by_cases hlt : j < s.size
  · have HNB := hH (quote_any s[j])
    have hdl : decide ((j : Int) < (s.size : Int)) = true := by simp; omega
    have hj2 : (0 : Int) ≤ (j : Int) := by omega
    have hj3 : (j : Int) < (s.size : Int) := by omega
    cases hnb : nqB s[j]
    · have he : j = a + r := by
       have := HJ.out
       have := rn_stop (p := nqB) hlt (by simpa using hnb)
       omega
      rw [hnb] at HNB
      have HE := hH he
      clear HR H he hnb
      go_wp2_with fail
      go_quiet ((go_at_call 129; exact Calls.quiet_of_same (uh HNB _)))
      have hk1 : (a : Int) ≤ (j : Int) := by omega
      have hk2 : (j : Int) ≤ (s.size : Int) := by omega
      go_wp2_with fail
      go_quiet (fail)
      go_wp2_with fail
      go_ret
      refine ⟨?_, ?_, ((uh HMV).drewN _).drewN _⟩
      · rw [← uh HE]; rfl
      · rw [← uh HE]; exact (HRj.out.drewN _).drewN _
    · have hjn : j + 1 + rn nqB s (j + 1) = a + r := by
       have := HJ.out
       have := rn_step (p := nqB) hlt (by simpa using hnb)
       omega
      rw [hnb] at HNB
      have HJN := hH hjn
      clear HR H hjn hnb
      go_wp2_with fail
      go_quiet ((go_at_call 129; exact Calls.quiet_of_same (uh HNB _)))
      go_wp2_with fail
      go_roundw
      case rel => exact ⟨j + 1, by omega, by omega, HJN, hH ((HRj.out.drewN _).set _), hH (((uh HMV).drewN _).trans (Mv.set _ _ _ _))⟩
      case measure =>
       rw [hat]
       have e5 := ((HRj.out.drewN nq).set (j + 1)).atOf
       exact Nat.lt_of_le_of_lt (Nat.le_of_eq (congrArg (s.size - ·) e5)) (by omega)
  · have hdl : decide ((j : Int) < (s.size : Int)) = false := by simp; omega
    have he : j = a + r := by
     have := HJ.out
     have := rn_end (p := nqB) (s := s) (i := j) (by omega)
     omega
    have HE := hH he
    clear HR H he
    have hk1 : (a : Int) ≤ (j : Int) := by omega
    have hk2 : (j : Int) ≤ (s.size : Int) := by omega
    go_wp2_with fail
    go_quiet (fail)
    go_wp2_with fail
    go_quiet (fail)
    go_wp2_with fail
    go_ret
    refine ⟨?_, ?_, ((uh HMV).drewN _).drewN _⟩
    · rw [← uh HE]; rfl
    · rw [← uh HE]; exact (HRj.out.drewN _).drewN _

def gTop : Nat := max (max 2 3) 0 + 1
theorem gTop_syn : 2 < gTop := by decide
theorem gTop_rng : 3 < gTop := by decide
theorem gTop_pow : 0 < gTop := by decide
theorem gPow : Tryz.prog.globalNamed "internal/strconv.uint64pow10" = some 0 := by kernel_rfl
structure Env (w : World) : Prop where
 pow : Lib.TabIs Tryz.prog w "internal/strconv.uint64pow10" .u64 Lib.pow10Tab
 syn : ∃ ev, w.cell? ⟨2, 0, none⟩ = some ev ∧ (ev = .nilIface ∨ ∃ te pe, ev = .iface te pe)
 rng : ∃ ev, w.cell? ⟨3, 0, none⟩ = some ev ∧ (ev = .nilIface ∨ ∃ te pe, ev = .iface te pe)
theorem Env.keep {w w' : World} (h : Env w) (hb : ∀ b, b < gTop → w'.heap[b]? = w.heap[b]?) : Env w' := by
 refine ⟨?_, ?_, ?_⟩
 · have hp := h.pow
   unfold Lib.TabIs World.var? at hp ⊢
   rw [gPow] at hp ⊢
   simp only [Option.bind_some] at hp ⊢
   rw [hb _ gTop_pow]
   exact hp
 · obtain ⟨ev, h1, h2⟩ := h.syn
   exact ⟨ev, by rw [World.cell?_of_block (w := w) (hb _ gTop_syn)]; exact h1, h2⟩
 · obtain ⟨ev, h1, h2⟩ := h.rng
   exact ⟨ev, by rw [World.cell?_of_block (w := w) (hb _ gTop_rng)]; exact h1, h2⟩
theorem Env.top {w : World} (h : Env w) : gTop ≤ w.heap.size := by
 obtain ⟨e1, h1, -⟩ := h.syn
 obtain ⟨e2, h2, -⟩ := h.rng
 have h3 : 0 < w.heap.size := by
  have hp := h.pow
  unfold Lib.TabIs World.var? at hp
  rw [gPow] at hp
  simp only [Option.bind_some] at hp
  rcases Nat.lt_or_ge 0 w.heap.size with h' | h'
  · exact h'
  · rw [Array.getElem?_eq_none h'] at hp; cases hp
 have h1 := World.block_lt_of_cell? w _ h1
 have h2 := World.block_lt_of_cell? w _ h2
 exact Nat.succ_le_of_lt (Nat.max_lt.2 ⟨Nat.max_lt.2 ⟨h1, h2⟩, h3⟩)
theorem Env.below {w w' : World} (h : Env w) (hb : Below w.heap.size w w') : Env w' := h.keep fun b hl => hb.block b (Nat.lt_of_lt_of_le hl h.top)
theorem Env.but {w w' : World} {R : Nat} (h : Env w) (hb : But R w w') (hR : gTop ≤ R) : Env w' := h.keep fun b hl => hb.at (Nat.lt_of_lt_of_le hl h.top) (by omega)
theorem Env.drewN {w : World} (h : Env w) (n : Nat) : Env (w.drewN n) := h.keep fun _ _ => rfl
theorem atoi_any (W : ByteArray) (hl : W.size ≤ 1048576) (w : World) (hE : Env w) :
 Calls Tryz.prog 107 #[.string W] w fun e w' => Below w.heap.size w w' ∧ ((∃ n, Lib.atoiAll W.data.toList = .ok n ∧ e = .returned (.tuple #[.int .i64 n, .nilIface])) ∨ ((∀ n, Lib.atoiAll W.data.toList ≠ .ok n) ∧ ∃ m N, e = .returned (.tuple #[.int .i64 m, .iface 181 (.pointer (some ⟨N, 0, none⟩))]))) := by
 cases h : Lib.atoiAll W.data.toList with
 | ok n =>
   refine (Tryz.strconv_Atoi_ok W (by omega) n h w).mono ?_
   rintro e w' ⟨rfl, hw⟩
   refine ⟨?_, Or.inl ⟨n, rfl, rfl⟩⟩
   rcases hw with rfl | ⟨t, rfl⟩
   · exact Below.refl _ _
   · exact Lib.bytesWorld_below _ _ _
 | «syntax» =>
   obtain ⟨ev, h1, h2⟩ := hE.syn
   refine (Tryz.strconv_Atoi_syntax W (by omega) h ev w h1 h2).mono ?_
   rintro e w' ⟨N, rfl, -, -, hb⟩
   refine ⟨hb, Or.inr ⟨fun n h => ?_, _, _, rfl⟩⟩
   cases h
 | range =>
   obtain ⟨ev, h1, h2⟩ := hE.rng
   refine (Tryz.strconv_Atoi_range W (by omega) h ev w h1 h2).mono ?_
   rintro e w' ⟨N, rfl, -, -, hb⟩
   refine ⟨hb, Or.inr ⟨fun n h => ?_, _, _, rfl⟩⟩
   cases h
theorem below_grow (w : World) (k : Nat) (os : Array Obj) : Below w.heap.size w (Go.Sort.grow (w.drewN k) os) := by
 refine ⟨rfl, rfl, rfl, ?_, fun i hi => ?_⟩
 · show w.heap.size ≤ (w.heap ++ os).size
   simp
 · show (w.heap ++ os)[i]? = w.heap[i]?
   rw [Array.getElem?_append_left hi]
theorem itoa_walk (n : Int) (h0 : -9223372036854775808 ≤ n) (h1 : n ≤ 9223372036854775807) (w : World) (hE : Env w) :
 Calls Tryz.prog 30 #[.int .i64 n] w fun e w' => e = .returned (.string ⟨(Lib.itoa n).toArray⟩) ∧ Below w.heap.size w w' := by
 refine (Tryz.strconv_Itoa n h0 h1 w hE.pow).mono ?_
 rintro e w' ⟨rfl, k, os, rfl⟩
 exact ⟨rfl, below_grow _ _ _⟩
structure Mg (R o : Nat) (w w' : World) : Prop where
 but : But R w w'
 cell : ∀ j, j ≠ o → w'.cell? ⟨R, j, none⟩ = w.cell? ⟨R, j, none⟩
 frz : ∀ j, w'.frozen? ⟨R, j, none⟩ = w.frozen? ⟨R, j, none⟩
theorem Mv.mg {R o : Nat} {w w' : World} (h : Mv R o w w') : Mg R o w w' := ⟨h.but, h.cell, h.frz⟩
theorem Mg.trans {R o : Nat} {a b c : World} (h : Mg R o a b) (k : Mg R o b c) : Mg R o a c := ⟨h.but.trans k.but, fun j hj => (k.cell j hj).trans (h.cell j hj), fun j => (k.frz j).trans (h.frz j)⟩
theorem Mg.below {R o : Nat} {w w' : World} (hb : Below w.heap.size w w') (hR : R < w.heap.size) : Mg R o w w' :=
 ⟨⟨hb.os, hb.tape, hb.output, hb.size, fun i hi _ => hb.block i hi⟩, fun j _ => World.cell?_of_block (a := ⟨R, j, none⟩) (hb.block R hR), fun j => World.frozen?_of_block (a := ⟨R, j, none⟩) (hb.block R hR)⟩
theorem Tx.lt {w : World} {R o : Nat} {s : ByteArray} {a : Nat} (h : Tx w R o s a) : R < w.heap.size := World.block_lt_of_cell? w _ h.c0
theorem xskip_any (w : World) (R o : Nat) (s : ByteArray) (a : Nat) (c : UInt8) (hs : s.size ≤ 1048576) (h : Tx w R o s a) (ha : a ≤ s.size) :
 Calls Tryz.prog 105 #[.pointer (some ⟨R, o, none⟩), .string (w1 c)] w fun e w' => e = .returned (.bool (decide ((lf s a).head? = some c))) ∧ Tx w' R o s (if (lf s a).head? = some c then a + 1 else a) ∧ Mv R (o + 1) w w' := by
 by_cases hh : (lf s a).head? = some c
 · rw [if_pos hh, decide_eq_true hh]
   exact xskip_yes w R o s (w1 c) a hs h ha (by show 0 < 1; decide) (by show 1 ≤ 16; decide) (by rw [pre_one]; exact decide_eq_true hh)
 · rw [if_neg hh, decide_eq_false hh]
   refine (xskip_no w R o s (w1 c) a h ha (by rw [pre_one]; exact decide_eq_false hh)).mono ?_
   rintro e w' ⟨rfl, m, rfl⟩
   exact ⟨rfl, h.drewN m, (Mv.refl _ _ _).drewN m⟩
theorem ext_take (s : ByteArray) (a n : Nat) : (s.extract a (a + n)).data.toList = (lf s a).take n := by
 unfold lf
 simp [List.take_drop]
theorem tw_take {p : UInt8 → Bool} (l : List UInt8) : l.take (l.takeWhile p).length = l.takeWhile p := (List.prefix_iff_eq_take.1 (List.takeWhile_prefix p)).symm
def nAt (s : ByteArray) (a : Nat) : Nat := if (lf s a).head? = some 45 then a + 1 else a
theorem num_at {s : ByteArray} {a : Nat} (ha : a ≤ s.size) : a ≤ nAt s a ∧ nAt s a ≤ s.size ∧ (s.extract a (nAt s a + rn isDg s (nAt s a))).data.toList = (numRun (lf s a)).1 ∧ lf s (nAt s a + rn isDg s (nAt s a)) = (numRun (lf s a)).2 := by
 unfold nAt numRun
 by_cases hh : (lf s a).head? = some 45
 · rw [if_pos hh, if_pos hh]
   have hlt : a < s.size := by
    have := lf_len s a
    cases hl : lf s a with
    | nil => rw [hl] at hh; simp at hh
    | cons c r => rw [hl] at this; simp at this; omega
   refine ⟨by omega, by omega, ?_, ?_⟩
   · rw [show a + 1 + rn isDg s (a + 1) = a + (rn isDg s (a + 1) + 1) from by omega, ext_take]
     have e := head_tail hh
     rw [← lf_next] at e
     unfold rn
     rw [e, List.take_succ_cons, tw_take]
     simp
   · rw [rn_drop, lf_next]
 · rw [if_neg hh, if_neg hh]
   refine ⟨Nat.le_refl _, ha, ?_, rn_drop _ _ _⟩
   rw [ext_take]
   unfold rn
   rw [tw_take]
theorem str_beq (l : List UInt8) (W : ByteArray) : (l == W.toList) = decide (l = W.data.toList) := by
 rw [toList_data, Bool.eq_iff_iff]
 simp
theorem number_any (w : World) (R o : Nat) (s : ByteArray) (a : Nat) (hs : s.size ≤ 1048576) (h : Tx w R o s a) (ha : a ≤ s.size) (hE : Env w) (hR : gTop ≤ R) :
 Calls Tryz.prog 73 #[.pointer (some ⟨R, o, none⟩)] w fun e w' => Mg R (o + 1) w w' ∧ Tx w' R o s (nAt s a + rn isDg s (nAt s a)) ∧
  ((∃ n, Lib.atoiAll (numRun (lf s a)).1 = .ok n ∧ Lib.itoa n = (numRun (lf s a)).1 ∧ e = .returned (.int .i64 n)) ∨ ((∀ n, Lib.atoiAll (numRun (lf s a)).1 = .ok n → Lib.itoa n ≠ (numRun (lf s a)).1) ∧ e = fltE)) := by
 obtain ⟨h1, h2, h3, -⟩ := num_at (s := s) (a := a) ha
 have hsk := xskip_any w R o s a 45 hs h ha
 have hrl := rn_le isDg s (nAt s a) h2
 rw [show (if (lf s a).head? = some 45 then a + 1 else a) = nAt s a from rfl] at hsk
 rw [← h3]
 have hrn := fun W (hW : Tx W R o s (nAt s a)) => xrun_digit W R o s (nAt s a) hs hW h2
 obtain ⟨c0, c1, f1⟩ := h
 generalize nAt s a = a1 at *
 generalize hr : rn isDg s a1 = r at *
 generalize decide ((lf s a).head? = some 45) = b0 at *
 generalize hX : s.extract a (a1 + r) = X at *
 have hXs : X.size ≤ 1048576 := by
  rw [← hX, ByteArray.size_extract]; omega
 have HSK := hH hsk; have HRN := hH hrn; have HE := hH hE
 have hi0 : (0 : Int) ≤ (a : Int) := by omega
 have hi1 : (a : Int) ≤ (a1 : Int) + (r : Int) := by omega
 have hi2 : (a1 : Int) + (r : Int) ≤ (s.size : Int) := by omega
 have HX := hH hX
 clear hsk hrn hE hr hX h3
 go_enter Tryz.func73, Tryz.ntmps73
 go_wp2_with (first
  | (go_at_call 105; refine (uh HSK).mono ?_; rintro e w2 ⟨rfl, hr2, hm2⟩; have HR2 := hH hr2; have HM2 := hH hm2; clear hr2 hm2)
  | (go_at_call 106; refine (uh HRN _ (uh HR2)).mono ?_; rintro e w3 ⟨rfl, hr3, hm3⟩; have HR3 := hH hr3; have HM3 := hH ((uh HM2).trans hm3); clear hr3 hm3 HSK HRN HR2 HM2 c0 c1 f1; obtain ⟨c0, c1, f1⟩ := uh HR3))
 go_quiet (fail)
 rw [uh HX]
 have hlt := (uh HR3).lt
 have hE3 := ((uh HE).but (uh HM3).mg.but hR).drewN nq
 have HAT := hH (atoi_any X hXs (w3.drewN nq) hE3)
 have HE3 := hH hE3
 clear hE3 HE c0 c1 f1
 go_wp2_with fail
 refine (uh HAT).mono ?_
 rintro e w4 ⟨hb4, ⟨n, hn, rfl⟩ | ⟨hn, m, N, rfl⟩⟩
 · obtain ⟨hn0, hn1⟩ := Lib.atoiAll_bounds hn
   have hmg4 : Mg R (o + 1) w w4 := ((uh HM3).drewN nq).mg.trans (Mg.below hb4 hlt)
   have htx4 : Tx w4 R o s (a1 + r) := ((uh HR3).drewN nq).of_block (hb4.block R hlt)
   have HIT := hH (itoa_walk n hn0 hn1 w4 ((uh HE3).below hb4))
   have HN := hH hn; have HG4 := hH hmg4; have HT4 := hH htx4
   have hlt4 := htx4.lt
   clear hn hmg4 htx4 hb4 HAT HE3 HR3 HM3
   by_cases hx : Lib.itoa n = X.data.toList
   · have hbe : (Lib.itoa n == X.toList) = true := by rw [str_beq]; exact decide_eq_true hx
     have HXX := hH hx
     clear hx
     go_wp2_with (first
      | (go_at_call 30; refine (uh HIT).mono ?_; rintro e w5 ⟨rfl, hb5⟩; have HB5 := hH hb5; clear hb5)
      | (go_at_call 68; refine (treeWant_yes _).mono ?_; rintro e w6 ⟨rfl, rfl⟩))
     go_ret
     exact ⟨(uh HG4).trans (Mg.below (uh HB5) hlt4), (uh HT4).of_block ((uh HB5).block R hlt4), Or.inl ⟨n, uh HN, uh HXX, rfl⟩⟩
   · have hbe : (Lib.itoa n == X.toList) = false := by rw [str_beq]; exact decide_eq_false hx
     have HXX := hH hx
     clear hx
     go_wp2_with (first
      | (go_at_call 30; refine (uh HIT).mono ?_; rintro e w5 ⟨rfl, hb5⟩; have HB5 := hH hb5; clear hb5)
      | (go_at_call 68; refine (treeWant_no _).mono ?_; rintro e w6 ⟨rfl, rfl⟩))
     refine ⟨rfl, (uh HG4).trans (Mg.below (uh HB5) hlt4), (uh HT4).of_block ((uh HB5).block R hlt4), Or.inr ⟨fun k hk => ?_, rfl⟩⟩
     have := (uh HN).symm.trans hk
     cases this
     exact uh HXX
 · have hmg4 : Mg R (o + 1) w w4 := ((uh HM3).drewN nq).mg.trans (Mg.below hb4 hlt)
   have htx4 : Tx w4 R o s (a1 + r) := ((uh HR3).drewN nq).of_block (hb4.block R hlt)
   have HN := hH hn; have HG4 := hH hmg4; have HT4 := hH htx4
   clear hn hmg4 htx4 hb4 HAT HE3 HR3 HM3
   go_wp2_with (go_at_call 68; refine (treeWant_no _).mono ?_; rintro e w6 ⟨rfl, rfl⟩)
   exact ⟨rfl, uh HG4, uh HT4, Or.inr ⟨fun k hk => absurd hk (uh HN k), rfl⟩⟩

def srt (R i : Nat) : Value :=
 if (48 ≤ i ∧ i ≤ 57) ∨ i = 45 then .func (.func 98) #[.pointer (some ⟨R, 0, none⟩)] #[]
 else if i = 34 then .func (.func 99) #[.pointer (some ⟨R, 0, none⟩)] #[]
 else if i = 121 ∨ i = 110 then .func (.func 100) #[.pointer (some ⟨R, 0, none⟩)] #[]
 else if i = 91 then .func (.func 101) #[.pointer (some ⟨R, 0, none⟩)] #[]
 else if i = 123 then .func (.func 102) #[.pointer (some ⟨R, 0, none⟩)] #[]
 else if i = 126 ∨ i = 63 then .func (.func 103) #[.pointer (some ⟨R, 0, none⟩)] #[]
 else .nilFunc
structure TR (w : World) (R : Nat) (s : ByteArray) (a : Nat) (p l : Int) : Prop where
 bnd : Bnd w R p l
 tx : Tx w R 2 s a
 tab : ∀ i, i < 256 → w.cell? ⟨R, 4 + i, none⟩ = some (srt R i)
section
variable {w w' : World} {R : Nat} {s : ByteArray} {a a' : Nat} {p l : Int}
theorem TR.lt (h : TR w R s a p l) : R < w.heap.size := h.tx.lt
theorem TR.of_block (h : TR w R s a p l) (e : w'.heap[R]? = w.heap[R]?) : TR w' R s a p l :=
 ⟨h.bnd.of_block e, h.tx.of_block e, fun i hi => by rw [World.cell?_of_block (w := w) e]; exact h.tab i hi⟩
theorem TR.drewN (h : TR w R s a p l) (n : Nat) : TR (w.drewN n) R s a p l := h.of_block rfl
theorem TR.alloc (h : TR w R s a p l) (o : Obj) : TR (w.alloc o) R s a p l := h.of_block (Below.heap_alloc _ _ _ h.lt)
theorem TR.mg (h : TR w R s a p l) (hm : Mg R 3 w w') (ht : Tx w' R 2 s a') : TR w' R s a' p l := by
 obtain ⟨c0, c1, f0, f1⟩ := h.bnd
 exact ⟨⟨by rw [hm.cell 0 (by decide)]; exact c0, by rw [hm.cell 1 (by decide)]; exact c1, by rw [hm.frz]; exact f0, by rw [hm.frz]; exact f1⟩, ht, fun i hi => by rw [hm.cell (4 + i) (by omega)]; exact h.tab i hi⟩
theorem TR.mv (h : TR w R s a p l) (hm : Mv R 3 w w') (ht : Tx w' R 2 s a') : TR w' R s a' p l := h.mg hm.mg ht
theorem TR.set1 (h : TR w R s a p l) (l' : Int) : TR (w.setCell ⟨R, 1, none⟩ (.int .i64 l')) R s a p l' := by
 refine ⟨h.bnd.set1 l', ⟨?_, ?_, ?_⟩, fun i hi => ?_⟩
 · rw [World.cell?_setCell_other _ _ _ _ (fun e => by have := congrArg Addr.off e; simp at this)]; exact h.tx.c0
 · rw [World.cell?_setCell_other _ _ _ _ (fun e => by have := congrArg Addr.off e; simp at this)]; exact h.tx.c1
 · rw [World.frozen?_setCell]; exact h.tx.f1
 · rw [World.cell?_setCell_other _ _ _ _ (fun e => by have := congrArg Addr.off e; simp at this; omega)]; exact h.tab i hi
theorem TR.set2 (h : TR w R s a p l) (p' l' : Int) : TR ((w.setCell ⟨R, 0, none⟩ (.int .i64 p')).setCell ⟨R, 1, none⟩ (.int .i64 l')) R s a p' l' := by
 refine ⟨h.bnd.set2 p' l', ⟨?_, ?_, ?_⟩, fun i hi => ?_⟩
 · rw [World.cell?_setCell_other _ _ _ _ (fun e => by have := congrArg Addr.off e; simp at this), World.cell?_setCell_other _ _ _ _ (fun e => by have := congrArg Addr.off e; simp at this)]; exact h.tx.c0
 · rw [World.cell?_setCell_other _ _ _ _ (fun e => by have := congrArg Addr.off e; simp at this), World.cell?_setCell_other _ _ _ _ (fun e => by have := congrArg Addr.off e; simp at this)]; exact h.tx.c1
 · rw [World.frozen?_setCell, World.frozen?_setCell]; exact h.tx.f1
 · rw [World.cell?_setCell_other _ _ _ _ (fun e => by have := congrArg Addr.off e; simp at this; omega), World.cell?_setCell_other _ _ _ _ (fun e => by have := congrArg Addr.off e; simp at this; omega)]; exact h.tab i hi
end
def MEnd (o : Option (Tr × List UInt8 × Int)) (w : World) (R : Nat) (s : ByteArray) (l : Int) (e : Ending) (w' : World) : Prop :=
 But R w w' ∧ ((∃ t a2 q v, o = some (t, lf s a2, q) ∧ a2 ≤ s.size ∧ e = .returned v ∧ SRep (fun b => w.heap.size ≤ b ∧ b < w'.heap.size) w' t v ∧ TR w' R s a2 q l ∧ 0 ≤ q ∧ q ≤ 120) ∨ (o = none ∧ e = fltE))
theorem MEnd.no {o : Option (Tr × List UInt8 × Int)} {w w' : World} {R : Nat} {s : ByteArray} {l : Int} (h : o = none) (hb : But R w w') : MEnd o w R s l fltE w' := ⟨hb, Or.inr ⟨h, rfl⟩⟩
theorem MEnd.yes {o : Option (Tr × List UInt8 × Int)} {w w' : World} {R : Nat} {s : ByteArray} {l : Int} {t : Tr} {a2 : Nat} {q : Int} {v : Value} (h : o = some (t, lf s a2, q)) (ha : a2 ≤ s.size) (hb : But R w w') (hr : SRep (fun b => w.heap.size ≤ b ∧ b < w'.heap.size) w' t v) (ht : TR w' R s a2 q l) (hq0 : 0 ≤ q) (hq1 : q ≤ 120) : MEnd o w R s l (.returned v) w' :=
 ⟨hb, Or.inl ⟨t, a2, q, v, h, ha, rfl, hr, ht, hq0, hq1⟩⟩
noncomputable def numO (inp : List UInt8) (p : Int) : Option (Tr × List UInt8 × Int) := match numOf (numRun inp).1 with
 | none => none
 | some n => some (.mk 1 n ByteArray.empty [] [], (numRun inp).2, p)
def quoO (inp : List UInt8) (p : Int) : Option (Tr × List UInt8 × Int) :=
 if (inp.tail.dropWhile nqB).head? = some 34 ∧ textOkB ⟨(inp.tail.takeWhile nqB).toArray⟩ = true then
  some (.mk 2 0 ⟨(inp.tail.takeWhile nqB).toArray⟩ [] [], (inp.tail.dropWhile nqB).tail, p) else none
def flgO (inp : List UInt8) (p : Int) : Option (Tr × List UInt8 × Int) :=
 if [121, 101, 115].isPrefixOf inp = true then some (.mk 3 1 ByteArray.empty [] [], inp.drop 3, p)
 else if [110, 111].isPrefixOf inp = true then some (.mk 3 0 ByteArray.empty [] [], inp.drop 2, p) else none
theorem num_walk (w : World) (R : Nat) (s : ByteArray) (a : Nat) (p l : Int) (hs : s.size ≤ 1048576) (h : TR w R s a p l) (ha : a ≤ s.size) (hE : Env w) (hR : gTop ≤ R) (hp0 : 0 ≤ p) (hp1 : p ≤ 120) :
 Calls Tryz.prog 98 #[.pointer (some ⟨R, 0, none⟩)] w fun e w' => MEnd (numO (lf s a) p) w R s l e w' := by
 have hn := number_any w R 2 s a hs h.tx ha hE hR
 obtain ⟨h1, h2, -, h4⟩ := num_at (s := s) (a := a) ha
 have hle := rn_le isDg s (nAt s a) h2
 have HN := hH hn; have H := hH h; have H4 := hH h4; have HLE := hH hle
 clear hn h hE h4 hle h1 h2
 go_enter Tryz.func98, Tryz.ntmps98
 go_wp2_with fail
 refine (uh HN).mono ?_
 rintro e w2 ⟨hm, ht, ⟨n, hat, hit, rfl⟩ | ⟨hno, rfl⟩⟩
 · have htr := (uh H).mg hm ht
   have HTR := hH htr; have HM := hH hm; have HAT := hH hat; have HIT := hH hit
   clear htr hm ht hat hit HN
   by_cases hb : -999999999 ≤ n ∧ n ≤ 999999999
   · have HB := hH hb
     clear hb
     go_wp2_with (go_at_call 128; refine (newNum_yes _ _ (uh HB)).mono ?_; rintro e w3 ⟨rfl, rfl⟩)
     go_ret
     refine MEnd.yes (t := .mk 1 n ByteArray.empty [] []) ?_ (uh HLE) (uh HM).but (srep1 rfl) (uh HTR) hp0 hp1
     unfold numO
     rw [numOf_yes (uh HB).1 (uh HB).2 (uh HIT), uh H4]
   · have HB := hH hb
     clear hb
     go_wp2_with (go_at_call 128; refine (newNum_no _ _ (uh HB)).mono ?_; rintro e w3 ⟨rfl, rfl⟩)
     refine ⟨rfl, MEnd.no ?_ (uh HM).but⟩
     unfold numO
     rw [numOf_no]
     intro m h0 h1 hm
     have := atoi_itoa m h0 h1
     rw [hm, uh HAT] at this
     cases this
     exact uh HB ⟨h0, h1⟩
 · have HM := hH hm; have HNO := hH hno
   clear hm ht hno HN
   go_wp2_with fail
   refine ⟨rfl, MEnd.no ?_ (uh HM).but⟩
   unfold numO
   rw [numOf_no]
   intro m h0 h1 hm
   refine uh HNO m ?_ hm
   rw [← hm]
   exact atoi_itoa m h0 h1
theorem lf_room {s : ByteArray} {a : Nat} {c : UInt8} (h : (lf s a).head? = some c) : a + 1 ≤ s.size := by
 have := lf_len s a
 cases hl : lf s a with
 | nil => rw [hl] at h; simp at h
 | cons c r => rw [hl] at this; simp at this; omega
theorem quoted_walk (w : World) (R : Nat) (s : ByteArray) (a : Nat) (p l : Int) (hs : s.size ≤ 1048576) (h : TR w R s a p l) (hh : (lf s a).head? = some 34) (hp0 : 0 ≤ p) (hp1 : p ≤ 120) :
 Calls Tryz.prog 99 #[.pointer (some ⟨R, 0, none⟩)] w fun e w' => MEnd (quoO (lf s a) p) w R s l e w' := by
 have hroom := lf_room hh
 have htk := xtake_yes w R 2 s (w1 34) a hs h.tx (by omega) (by decide) (by decide) (by rw [pre_one]; exact decide_eq_true hh)
 have hrn := fun W (hW : Tx W R 2 s (a + 1)) => xrun_quote W R 2 s (a + 1) hs hW hroom
 have hle := rn_le nqB s (a + 1) hroom
 have hdr := rn_drop nqB s (a + 1)
 have hq : quoO (lf s a) p = if (lf s (a + 1 + rn nqB s (a + 1))).head? = some 34 ∧ textOkB ⟨((lf s (a + 1)).takeWhile nqB).toArray⟩ = true then some (.mk 2 0 ⟨((lf s (a + 1)).takeWhile nqB).toArray⟩ [] [], lf s (a + 1 + rn nqB s (a + 1) + 1), p) else none := by
  unfold quoO
  rw [← lf_next, ← hdr, ← lf_next]
 rw [hq]
 have hXs : (⟨((lf s (a + 1)).takeWhile nqB).toArray⟩ : ByteArray).size ≤ 9223372036854775807 := by
  have h1 := (List.takeWhile_prefix (p := nqB) (l := lf s (a + 1))).length_le
  have h2 := lf_len s (a + 1)
  show ((lf s (a + 1)).takeWhile nqB).toArray.size ≤ _
  simp only [List.size_toArray]
  omega
 generalize (⟨((lf s (a + 1)).takeWhile nqB).toArray⟩ : ByteArray) = X at *
 generalize a + 1 + rn nqB s (a + 1) = a2 at *
 generalize hO : (if (lf s a2).head? = some 34 ∧ textOkB X = true then some (Tr.mk 2 0 X [] [], lf s (a2 + 1), p) else none) = O at *
 have HO := hH hO
 clear hO
 have HTK := hH htk; have HRN := hH hrn; have H := hH h
 clear htk hrn h hq hdr
 by_cases h34 : (lf s a2).head? = some 34
 · have hr2 := lf_room h34
   have HT2 := hH (fun W (hW : Tx W R 2 s a2) => xtake_yes W R 2 s (w1 34) a2 hs hW hle (by decide) (by decide) (by rw [pre_one]; exact decide_eq_true h34))
   have H34 := hH h34
   clear h34
   go_enter Tryz.func99, Tryz.ntmps99
   go_wp2_with (first
    | (go_at_call 72; refine (uh HTK).mono ?_; rintro e w2 ⟨rfl, hr2, hm2⟩; have HR2 := hH hr2; have HM2 := hH hm2; clear hr2 hm2 HTK)
    | (go_at_call 106; refine (uh HRN _ (uh HR2)).mono ?_; rintro e w3 ⟨rfl, hr3, hm3⟩; have HR3 := hH hr3; have HM3 := hH ((uh HM2).trans hm3); clear hr3 hm3)
    | (go_at_call 72; refine (uh HT2 _ (uh HR3)).mono ?_; rintro e w4 ⟨rfl, hr4, hm4⟩; have HR4 := hH hr4; have HM4 := hH ((uh HM3).trans hm4); clear hr4 hm4))
   refine (newText_any X _ hXs).mono ?_
   rintro e w5 ⟨⟨hok, rfl⟩ | ⟨hok, rfl⟩, rfl⟩
   · have HOK := hH hok
     clear hok
     go_wp2_with fail
     go_ret
     refine MEnd.yes (t := .mk 2 0 X [] []) (a2 := a2 + 1) ?_ hr2 (uh HM4).but (srep2 rfl) ((uh H).mv (uh HM4) (uh HR4)) hp0 hp1
     rw [← uh HO, if_pos ⟨uh H34, uh HOK⟩]
   · have HOK := hH hok
     clear hok
     go_wp2_with fail
     refine ⟨rfl, MEnd.no ?_ (uh HM4).but⟩
     rw [← uh HO, if_neg (fun h => by have := h.2; rw [uh HOK] at this; cases this)]
 · have HT2 := hH (fun W (hW : Tx W R 2 s a2) => xtake_no W R 2 s (w1 34) a2 hW hle (by rw [pre_one]; exact decide_eq_false h34))
   have H34 := hH h34
   clear h34
   go_enter Tryz.func99, Tryz.ntmps99
   go_wp2_with (first
    | (go_at_call 72; refine (uh HTK).mono ?_; rintro e w2 ⟨rfl, hr2, hm2⟩; have HR2 := hH hr2; have HM2 := hH hm2; clear hr2 hm2 HTK)
    | (go_at_call 106; refine (uh HRN _ (uh HR2)).mono ?_; rintro e w3 ⟨rfl, hr3, hm3⟩; have HR3 := hH hr3; have HM3 := hH ((uh HM2).trans hm3); clear hr3 hm3)
    | (go_at_call 72; refine (uh HT2 _ (uh HR3)).mono ?_; rintro e w4 ⟨rfl, m, rfl⟩))
   refine ⟨rfl, MEnd.no ?_ ((uh HM3).drewN m).but⟩
   rw [← uh HO, if_neg (fun h => uh H34 h.1)]
def wYes : ByteArray := ⟨#[121, 101, 115]⟩
def wNo : ByteArray := ⟨#[110, 111]⟩
theorem flag_walk (w : World) (R : Nat) (s : ByteArray) (a : Nat) (p l : Int) (hs : s.size ≤ 1048576) (h : TR w R s a p l) (ha : a ≤ s.size) (hp0 : 0 ≤ p) (hp1 : p ≤ 120) :
 Calls Tryz.prog 100 #[.pointer (some ⟨R, 0, none⟩)] w fun e w' => MEnd (flgO (lf s a) p) w R s l e w' := by
 have hf : flgO (lf s a) p = if pre wYes s a = true then some (.mk 3 1 ByteArray.empty [] [], lf s (a + 3), p) else if pre wNo s a = true then some (.mk 3 0 ByteArray.empty [] [], lf s (a + 2), p) else none := by
  have e3 : lf s (a + 3) = (lf s a).drop 3 := lf_after (wd := wYes)
  have e2 : lf s (a + 2) = (lf s a).drop 2 := lf_after (wd := wNo)
  unfold flgO
  rw [e3, e2]
  rfl
 rw [hf]
 have H := hH h
 cases hy : pre wYes s a
 · have HS := hH (xskip_no w R 2 s wYes a h.tx ha hy)
   cases hn : pre wNo s a
   · have HT := hH (fun m => xtake_no (w.drewN m) R 2 s wNo a (h.tx.drewN m) ha hn)
     clear h hy hn hf
     go_enter Tryz.func100, Tryz.ntmps100
     go_wp2_with (first
      | (go_at_call 105; refine (uh HS).mono ?_; rintro e w2 ⟨rfl, m, rfl⟩)
      | (go_at_call 72; refine (uh HT _).mono ?_; rintro e w3 ⟨rfl, m2, rfl⟩))
     exact ⟨rfl, MEnd.no (by simp) ((Mv.refl R 3 w).drewN _).but⟩
   · have hroom := pre_room (by decide) hn
     have HT := hH (fun m => xtake_yes (w.drewN m) R 2 s wNo a hs (h.tx.drewN m) ha (by decide) (by decide) hn)
     clear h hy hn hf
     go_enter Tryz.func100, Tryz.ntmps100
     go_wp2_with (first
      | (go_at_call 105; refine (uh HS).mono ?_; rintro e w2 ⟨rfl, m, rfl⟩)
      | (go_at_call 72; refine (uh HT _).mono ?_; rintro e w3 ⟨rfl, hr3, hm3⟩; have HR3 := hH hr3; have HM3 := hH (((Mv.refl R 3 w).drewN m).trans hm3); clear hr3 hm3))
     go_ret
     exact MEnd.yes (t := .mk 3 0 ByteArray.empty [] []) (a2 := a + 2) (by simp) hroom (uh HM3).but (srep3 (t := .mk 3 0 ByteArray.empty [] []) rfl) ((uh H).mv (uh HM3) (uh HR3)) hp0 hp1
 · have hroom := pre_room (by decide) hy
   have HS := hH (xskip_yes w R 2 s wYes a hs h.tx ha (by decide) (by decide) hy)
   clear h hy hf
   go_enter Tryz.func100, Tryz.ntmps100
   go_wp2_with (go_at_call 105; refine (uh HS).mono ?_; rintro e w3 ⟨rfl, hr3, hm3⟩; have HR3 := hH hr3; have HM3 := hH hm3; clear hr3 hm3)
   go_ret
   exact MEnd.yes (t := .mk 3 1 ByteArray.empty [] []) (a2 := a + 3) (by simp) hroom (uh HM3).but (srep3 (t := .mk 3 1 ByteArray.empty [] []) rfl) ((uh H).mv (uh HM3) (uh HR3)) hp0 hp1

theorem clone_any (s : ByteArray) (w : World) (hlim : s.size ≤ 140737488355328) :
 Calls Tryz.prog 104 #[.string s] w fun e w' => e = .returned (.string s) ∧ Below w.heap.size w w' := by
 have hc : ∀ W, Calls Tryz.prog 135 #[.string s] W fun e w' => e = .returned (.string s) ∧ Below W.heap.size W w' := fun W => Tryz.stringslite_Clone s W (by omega)
 have HC := hH hc; clear hc
 go_enter Tryz.func104, Tryz.ntmps104
 go_wp2_with (go_at_call 135; refine (uh HC _).mono ?_; rintro e w' ⟨rfl, hb⟩)
 go_ret
 exact ⟨rfl, hb⟩
theorem infoStrC : (Tryz.prog.info? 9).map (fun i => (i.zero, i.size, i.bytes)) = some (some (.string ByteArray.empty), 1, 16) := by kernel_rfl
theorem copyNames_any (v : Value) (ss : List ByteArray) (w : World) {P : Nat → Prop} (hP : ∀ b, P b → b < w.heap.size) (hv : StrsAt P w v ss) (hl : ss.length ≤ 1048576) (hsz : ∀ x, x ∈ ss → x.size ≤ 1099511627776) :
 Calls Tryz.prog 109 #[v] w fun e w' => ∃ v' F, e = .returned v' ∧ StrsOwn w' v' ss F ∧ F.Nodup ∧ (∀ b, b ∈ F → w.heap.size ≤ b ∧ b < w'.heap.size) ∧ Below w.heap.size w w' := by
 obtain ⟨a, cap, rfl, hlen, hc⟩ := hv
 obtain ⟨i0, hi, hz0, hz1, hz2⟩ := info_parts infoStrC
 have HC := hH hc; have HP := hH hP; have HSZ := hH hsz
 have HII := hH hi; have HZ0 := hH hz0; have HZ1 := hH hz1; have HZ2 := hH hz2
 clear hc hP hsz hi hz0 hz1 hz2
 go_enter Tryz.func109, Tryz.ntmps109
 go_wp2_with fail
 go_loopw [3, 8] (fun s i wr => ∃ (k : Nat) (a' : Option Addr) (cap' : Nat), k ≤ ss.length ∧ i = .int .i64 k ∧ s = .slice a' k cap' ∧ Hid (wr.ownsRow w.heap.size 9 1 (.slice a' k cap') k ((ss.take k).map Value.string)) ∧ Hid (Below w.heap.size w wr)) (fun _ i _ => ss.length - (intOf i).toNat)
 case atStart => exact ⟨0, none, 0, Nat.zero_le _, rfl, rfl, World.ownsRow_nil _ _ _ _, Below.refl _ _⟩
 case round =>
  obtain ⟨k, a', cap', hk, rfl, rfl, HOWN, HB⟩ := hrel
  by_cases hlt : k < ss.length
  · obtain ⟨b, o, rfl, hpb, hcell, -⟩ := uh HC k hlt
    have e1 : wr.cell? ⟨b, o + k, none⟩ = some (.string ss[k]) := by rw [HB.out.cell (uh HP b hpb)]; exact hcell
    have hcl := clone_any ss[k] wr (by have := uh HSZ _ (List.getElem_mem hlt); omega)
    have htk : (ss.take (k + 1)).map Value.string = (ss.take k).map Value.string ++ [.string ss[k]] := by
     rw [List.take_succ_eq_append_getElem hlt, List.map_append]; rfl
    generalize ss[k] = tk at *
    have HCL := hH hcl; have HTK := hH htk
    clear hcl htk hcell hpb
    go_wp2_with fail
    refine (uh HCL).mono ?_
    rintro e w2 ⟨rfl, hb2⟩
    have hs2 := hb2.size
    have hsw := HB.out.size
    have hown2 : w2.ownsRow w.heap.size 9 1 (.slice a' k cap') k ((ss.take k).map Value.string) :=
     HOWN.out.kept (row := none) ⟨hb2.os, hb2.tape, hb2.output, hb2.size, fun i hi _ => hb2.block i hi⟩ (by
      rcases h : (Value.slice a' k cap').ownBlock with _ | g
      · exact Or.inl rfl
      · exact Or.inr (by simp))
    have HOWN2 := hH hown2; have HB2 := hH (HB.out.trans (hb2.mono hsw))
    clear hown2 hb2 HCL e1
    go_wp2_with (at_builtin; refine append_row _ rfl _ _ 23 rfl w.heap.size 9 i0 (.string ByteArray.empty) 1 16 Tryz.underlying23 (uh HII) (uh HZ0) (uh HZ1) (uh HZ2) rfl (by decide) (.slice a' k cap') k ((ss.take k).map Value.string) rfl ((uh HOWN2).alloc _) ⟨w2.heap.size, 0, none⟩ 1 1 [.string tk] rfl rfl (cell_one _ _ _) (fun u hu => by simp at hu; subst hu; rfl) (by decide) (by unfold maxLen; omega) (by omega) (by simp; omega) ?_; intro v' w4 hown4 hgrow4 hv4)
    have hlt4 := (uh HOWN2).lt
    obtain ⟨g', cap'', hv''⟩ : ∃ g' cap'', v' = .slice (some ⟨g', 0, none⟩) (k + 1) cap'' := by
     rcases hown4.2 with ⟨_, h⟩ | ⟨g', cap'', _, h, _⟩
     · omega
     · exact ⟨g', cap'', h⟩
    subst hv''
    have hb4 : Below w.heap.size w2 w4 := (((Below.refl _ w2).alloc (by omega) _)).trans ((Below.refl _ _).grown hgrow4 (by simp; omega) (fun k e => (hlt4 k e).1))
    have HOWN4 : Hid (w4.ownsRow w.heap.size 9 1 (.slice (some ⟨g', 0, none⟩) (k + 1) cap'') (k + 1) ((ss.take (k + 1)).map Value.string)) := by
     show World.ownsRow _ _ _ _ _ _ _
     rw [uh HTK]; exact hown4
    have HB4 := hH ((uh HB2).trans hb4)
    clear hown4 hgrow4 hv4 hb4 hlt4
    go_wp2_with fail
    go_roundw
    case rel => exact ⟨k + 1, some ⟨g', 0, none⟩, cap'', by omega, by go_num, rfl, HOWN4, uh HB4⟩
    case measure => simp [intOf]; omega
  · obtain rfl : k = ss.length := by omega
    have h1 := HOWN.out
    rw [List.take_length] at h1
    obtain ⟨F, hF, hnd, hlt', -⟩ := strsOwn_of_row h1 (fun x hx => by have := uh HSZ x hx; omega)
    have HF := hH hF; have HL := hH hlt'
    clear h1 hF hlt'
    go_wp2_with fail
    go_ret
    exact ⟨_, F, rfl, uh HF, hnd, uh HL, HB.out⟩

theorem tE_le (s : ByteArray) : tE s ≤ s.size := by
 unfold tE
 have h1 := List.takeWhile_prefix (p := nameByte) (l := s.data.toList.take 8)
 have h2 := h1.length_le
 have h3 : (s.data.toList.take 8).length ≤ s.size := by rw [List.length_take]; exact Nat.le_trans (Nat.min_le_right _ _) (Nat.le_of_eq rfl)
 omega
theorem typeName_any (w : World) (R : Nat) (s : ByteArray) (a : Nat) (p l : Int) (hs : s.size ≤ 1048576) (h : TR w R s a p l) (ha : a ≤ s.size) :
 Calls Tryz.prog 71 #[.agg #[.pointer (some ⟨R, 0, none⟩)]] w fun e w' => e = .returned (.string (s.extract a (a + tE (s.extract a s.size)))) ∧ TR w' R s (a + tE (s.extract a s.size)) p l ∧ But R w w' := by
 obtain ⟨W1, hW1⟩ : ∃ W1, w.alloc (.cells #[.pointer (some ⟨R, 0, none⟩)] 63) = W1 := ⟨_, rfl⟩
 have hlt := h.lt
 have hb1 : Below w.heap.size w W1 := by rw [← hW1]; exact (Below.refl _ _).alloc (Nat.le_refl _) _
 have hs1 : W1.heap.size = w.heap.size + 1 := by rw [← hW1]; simp
 have h1 : TR W1 R s a p l := h.of_block (hb1.block R hlt)
 have x0 : W1.cell? ⟨w.heap.size, 0, none⟩ = some (.pointer (some ⟨R, 0, none⟩)) := by rw [← hW1]; simp [go_sem]
 obtain ⟨c0, c1, f1⟩ := h1.tx
 have hXs : (s.extract a s.size).size ≤ s.size - a := by rw [ByteArray.size_extract]; omega
 have hte := tE_le (s.extract a s.size)
 have htc : Calls Tryz.prog 95 #[.string (s.extract a s.size)] W1.drew fun e w' => e = .returned (.int .i64 (tE (s.extract a s.size) : Int)) ∧ Hid (Below W1.heap.size W1 w') := (typeEnd_any (s.extract a s.size) W1.drew (by omega)).mono fun e w' ⟨h1, h2⟩ => ⟨h1, hH ⟨h2.os, h2.tape, h2.output, h2.size, h2.block⟩⟩
 generalize hk : tE (s.extract a s.size) = k at *
 have hk1 : a + k ≤ s.size := by omega
 have hcl := fun W => clone_any (s.extract a (a + k)) W (by rw [ByteArray.size_extract]; omega)
 have hi0 : (0 : Int) ≤ (a : Int) := by omega
 have hi1 : (a : Int) ≤ (s.size : Int) := by omega
 have hi2 : (a : Int) ≤ (a : Int) + (k : Int) := by omega
 have hi3 : (a : Int) + (k : Int) ≤ (s.size : Int) := by omega
 have hwr : IntKind.i64.wrap ((a : Int) + (k : Int)) = (a : Int) + (k : Int) := by rw [IntKind.wrap_i64]; omega
 have HWR := hH hwr
 have HTC := hH htc; have HCL := hH hcl; have HB1 := hH hb1; have HT1 := hH h1
 clear htc hcl hb1 h1 h hte hk hXs
 go_enter Tryz.func71, Tryz.ntmps71
 go_upto_region 2 with fail
 go_cut [] from 10 (fun wx => Hid (TR wx R s (a + k) p l) ∧ Hid (But R w wx) ∧ wx.cell? ⟨w.heap.size, 0, none⟩ = some (.pointer (some ⟨R, 0, none⟩)))
 case first =>
  go_region_with (go_at_call 95
                  refine (uh HTC).mono ?_
                  rintro e w2 ⟨rfl, HB2⟩
                  have y0 : w2.cell? ⟨w.heap.size, 0, none⟩ = some (.pointer (some ⟨R, 0, none⟩)) := by rw [HB2.out.cell (by simp; omega)]; exact x0
                  obtain ⟨d0, d1, g1⟩ := ((uh HT1).of_block (HB2.out.block R (by omega))).tx)
  all_goals
   try rw [uh HWR]
   have ht2 : TR w2 R s a p l := (uh HT1).of_block (HB2.out.block R (by omega))
   have ht3 : TR (w2.setCell ⟨R, 3, none⟩ (.int .i64 ((a : Int) + (k : Int)))) R s (a + k) p l := ht2.mv (Mv.set R 3 w2 _) (ht2.tx.set (a + k))
   have z0 : (w2.setCell ⟨R, 3, none⟩ (.int .i64 ((a : Int) + (k : Int)))).cell? ⟨w.heap.size, 0, none⟩ = some (.pointer (some ⟨R, 0, none⟩)) := by rw [World.cell?_setCell_other _ _ _ _ (fun e => by have := congrArg Addr.block e; simp at this; omega)]; exact y0
   have hbt : But R w (w2.setCell ⟨R, 3, none⟩ (.int .i64 ((a : Int) + (k : Int)))) := (But.of_below ((uh HB1).trans (HB2.out.mono (by omega)))).trans (But.set _ 3 _)
   generalize w2.setCell ⟨R, 3, none⟩ (.int .i64 ((a : Int) + (k : Int))) = W3 at *
   go_wp2_with fail
   go_meet
   case rel => exact ⟨hH ht3, hH hbt, z0⟩
 case rest =>
  obtain ⟨HT3, HBT, z0⟩ := hcut
  obtain ⟨q0, q1, qf⟩ := (uh HT3).tx
  clear HTC HB1 HT1 x0 c0 c1 f1
  have hnat : ((a : Int) + (k : Int)).toNat = a + k := by omega
  go_wp2_with fail
  go_region_with (go_at_call 104; first | (rw [hnat]; refine (uh HCL _).mono ?_) | refine (uh HCL _).mono ?_; rintro e w4 ⟨rfl, hb4⟩)
  all_goals
   go_wp2_with fail
   go_ret
   have hlt3 := (uh HT3).lt
   exact ⟨rfl, (uh HT3).of_block (hb4.block R (by simpa using hlt3)), (uh HBT).trans (But.of_below ⟨hb4.os, hb4.tape, hb4.output, hb4.size, hb4.block⟩)⟩
end Go.Proofs.YtbkagahmiibclaaGreatDoor
