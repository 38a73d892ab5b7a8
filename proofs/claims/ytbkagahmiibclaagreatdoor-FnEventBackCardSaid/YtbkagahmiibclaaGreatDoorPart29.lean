/- The walks of the program's reader of texts, wherever in a block it lies: next, skip, take, more, end. For texts of at most 2^20 bytes. -/
import Derived.Test.YtbkagahmiibclaaGreatDoorPart25
import Derived.Test.YtbkagahmiibclaaGreatDoorPart15
import Derived.Test.YtbkagahmiibclaaGreatDoorPart28
import Derived.Test.YtbkagahmiibclaaGreatDoorPart24
import Derived.Lib.AtoiErrMem
import Derived.Sort.Grow
namespace Go.Proofs.YtbkagahmiibclaaGreatDoor
open Go Go.RowKit

/-- But for one cell of a block nothing has turned. -/
structure Mv (R o : Nat) (w w' : World) : Prop where
  os : w'.os = w.os
  tape : w'.tape = w.tape
  output : w'.output = w.output
  size : w'.heap.size = w.heap.size
  block : ∀ i, i ≠ R → w'.heap[i]? = w.heap[i]?
  cell : ∀ j, j ≠ o → w'.cell? ⟨R, j, none⟩ = w.cell? ⟨R, j, none⟩
  frz : ∀ j, w'.frozen? ⟨R, j, none⟩ = w.frozen? ⟨R, j, none⟩
theorem Mv.refl (R o : Nat) (w : World) : Mv R o w w := ⟨rfl, rfl, rfl, rfl, fun _ _ => rfl, fun _ _ => rfl, fun _ => rfl⟩
theorem Mv.trans {R o : Nat} {a b c : World} (h : Mv R o a b) (k : Mv R o b c) : Mv R o a c :=
  ⟨k.os.trans h.os, k.tape.trans h.tape, k.output.trans h.output, k.size.trans h.size, fun i hi => (k.block i hi).trans (h.block i hi), fun j hj => (k.cell j hj).trans (h.cell j hj), fun j => (k.frz j).trans (h.frz j)⟩
theorem Mv.drewN {R o : Nat} {w w' : World} (h : Mv R o w w') (n : Nat) : Mv R o w (w'.drewN n) := ⟨h.os, h.tape, h.output, h.size, h.block, h.cell, h.frz⟩
theorem Mv.set (R o : Nat) (w : World) (v : Value) : Mv R o w (w.setCell ⟨R, o, none⟩ v) :=
  ⟨rfl, rfl, rfl, by simp, fun i hi => Below.heap_setCell _ _ _ _ hi, fun j hj => World.cell?_setCell_other _ _ _ _ (fun e => hj (by simpa using (congrArg Addr.off e).symm)), fun j => World.frozen?_setCell _ _ _ _⟩
theorem Mv.but {R o : Nat} {w w' : World} (h : Mv R o w w') : But R w w' := ⟨h.os, h.tape, h.output, Nat.le_of_eq h.size.symm, fun i _ hne => h.block i (fun e => hne (by rw [e]))⟩

/-- A reader of texts lies in block R, from cell o on. -/
structure Tx (w : World) (R o : Nat) (s : ByteArray) (a : Nat) : Prop where
  c0 : w.cell? ⟨R, o, none⟩ = some (.string s)
  c1 : w.cell? ⟨R, o + 1, none⟩ = some (.int .i64 a)
  f1 : w.frozen? ⟨R, o + 1, none⟩ = false
theorem Tx.drewN {w : World} {R o : Nat} {s : ByteArray} {a : Nat} (h : Tx w R o s a) (n : Nat) : Tx (w.drewN n) R o s a := ⟨h.c0, h.c1, h.f1⟩
theorem Tx.set {w : World} {R o : Nat} {s : ByteArray} {a : Nat} (h : Tx w R o s a) (b : Nat) : Tx (w.setCell ⟨R, o + 1, none⟩ (.int .i64 b)) R o s b :=
  ⟨by rw [World.cell?_setCell_other _ _ _ _ (fun e => by have := congrArg Addr.off e; simp at this)]; exact h.c0, by apply World.cell?_setCell_same; exact h.c1, by rw [World.frozen?_setCell]; exact h.f1⟩
theorem Tx.of_block {w w' : World} {R o : Nat} {s : ByteArray} {a : Nat} (h : Tx w R o s a) (e : w'.heap[R]? = w.heap[R]?) : Tx w' R o s a :=
  ⟨by rw [World.cell?_of_block (w := w) e]; exact h.c0, by rw [World.cell?_of_block (w := w) e]; exact h.c1, by rw [World.frozen?_of_block (w := w) e]; exact h.f1⟩

theorem xhasPre (s wd : ByteArray) (a : Nat) : Lib.hasPrefix (s.extract a s.size).data.toList wd.data.toList = pre wd s a := by
  unfold Lib.hasPrefix pre lf
  congr 1
  simp [List.take_of_length_le]

set_option maxHeartbeats 400000 in
theorem xnext_any (w : World) (R o : Nat) (s : ByteArray) (a : Nat) (h : Tx w R o s a) (ha : a ≤ s.size) :
    Calls Tryz.prog 111 #[.pointer (some ⟨R, o, none⟩)] w fun e w' => e = .returned (.int .u8 (bv s a)) ∧ ∃ m, w' = w.drewN m := by
  obtain ⟨c0, c1, f1⟩ := h
  by_cases hlt : a < s.size
  · have hbv : bv s a = s[a].toNat := by unfold bv; rw [dif_pos hlt]
    rw [hbv]
    have hb : ((a : Int) == (s.size : Int)) = false := by simp; omega
    clear hbv
    go_enter Tryz.func111, Tryz.ntmps111
    go_wp2_with fail
    go_quiet (fail)
    go_wp2_with fail
    go_quiet (fail)
    go_wp2_with fail
    go_ret
    exact ⟨rfl, _, by rw [World.drewN_drewN]⟩
  · have hbv : bv s a = 0 := by unfold bv; rw [dif_neg hlt]
    rw [hbv]
    have hb : ((a : Int) == (s.size : Int)) = true := by simp; omega
    clear hbv
    go_enter Tryz.func111, Tryz.ntmps111
    go_wp2_with fail
    go_quiet (fail)
    go_wp2_with fail
    go_ret
    exact ⟨rfl, _, rfl⟩

set_option maxHeartbeats 800000 in
theorem xskip_yes (w : World) (R o : Nat) (s wd : ByteArray) (a : Nat) (hs : s.size ≤ 1048576) (h : Tx w R o s a) (ha : a ≤ s.size) (hw0 : 0 < wd.size) (hw : wd.size ≤ 16) (hp : pre wd s a = true) :
    Calls Tryz.prog 105 #[.pointer (some ⟨R, o, none⟩), .string wd] w fun e w' => e = .returned (.bool true) ∧ Tx w' R o s (a + wd.size) ∧ Mv R (o + 1) w w' := by
  obtain ⟨c0, c1, f1⟩ := h
  have H := hide (Tx.mk c0 c1 f1)
  have hi0 : (0 : Int) ≤ (a : Int) := by omega
  have hi1 : (a : Int) ≤ (s.size : Int) := by omega
  have hpre := Tryz.strings_HasPrefix (s.extract a s.size) wd
  rw [xhasPre, hp] at hpre
  have HPRE := hide hpre
  clear hp hpre
  go_enter Tryz.func105, Tryz.ntmps105
  go_wp2_with fail
  go_quiet ((go_at_call 136; exact Calls.quiet_of_same (unhide HPRE _)))
  go_wp2_with fail
  go_ret
  exact ⟨rfl, (H.out.drewN _).set _, ((Mv.refl _ _ _).drewN _).trans (Mv.set _ _ _ _)⟩

set_option maxHeartbeats 800000 in
theorem xskip_no (w : World) (R o : Nat) (s wd : ByteArray) (a : Nat) (h : Tx w R o s a) (ha : a ≤ s.size) (hp : pre wd s a = false) :
    Calls Tryz.prog 105 #[.pointer (some ⟨R, o, none⟩), .string wd] w fun e w' => e = .returned (.bool false) ∧ ∃ m, w' = w.drewN m := by
  obtain ⟨c0, c1, f1⟩ := h
  have hi0 : (0 : Int) ≤ (a : Int) := by omega
  have hi1 : (a : Int) ≤ (s.size : Int) := by omega
  have hpre := Tryz.strings_HasPrefix (s.extract a s.size) wd
  rw [xhasPre, hp] at hpre
  have HPRE := hide hpre
  clear hp hpre
  go_enter Tryz.func105, Tryz.ntmps105
  go_wp2_with fail
  go_quiet ((go_at_call 136; exact Calls.quiet_of_same (unhide HPRE _)))
  go_wp2_with fail
  go_ret
  exact ⟨rfl, _, rfl⟩

set_option maxHeartbeats 400000 in
theorem xtake_yes (w : World) (R o : Nat) (s wd : ByteArray) (a : Nat) (hs : s.size ≤ 1048576) (h : Tx w R o s a) (ha : a ≤ s.size) (hw0 : 0 < wd.size) (hw : wd.size ≤ 16) (hp : pre wd s a = true) :
    Calls Tryz.prog 72 #[.pointer (some ⟨R, o, none⟩), .string wd] w fun e w' => e = .returned (.tuple #[]) ∧ Tx w' R o s (a + wd.size) ∧ Mv R (o + 1) w w' := by
  have HS := hide (xskip_yes w R o s wd a hs h ha hw0 hw hp)
  clear h hp
  go_enter Tryz.func72, Tryz.ntmps72
  go_wp2_with (first
    | (go_at_call 105; refine (unhide HS).mono ?_; rintro e w1 ⟨rfl, hr, hb⟩)
    | (go_at_call 68; refine (treeWant_yes _).mono ?_; rintro e w2 ⟨rfl, rfl⟩))
  go_end0
  exact ⟨rfl, hr, hb⟩

set_option maxHeartbeats 400000 in
theorem xtake_no (w : World) (R o : Nat) (s wd : ByteArray) (a : Nat) (h : Tx w R o s a) (ha : a ≤ s.size) (hp : pre wd s a = false) :
    Calls Tryz.prog 72 #[.pointer (some ⟨R, o, none⟩), .string wd] w fun e w' => e = fltE ∧ ∃ m, w' = w.drewN m := by
  have HS := hide (xskip_no w R o s wd a h ha hp)
  clear h hp
  go_enter Tryz.func72, Tryz.ntmps72
  go_wp2_with (first
    | (go_at_call 105; refine (unhide HS).mono ?_; rintro e w1 ⟨rfl, m, rfl⟩)
    | (go_at_call 68; refine (treeWant_no _).mono ?_; rintro e w2 ⟨rfl, rfl⟩))
  exact ⟨rfl, rfl, _, rfl⟩

set_option maxHeartbeats 400000 in
theorem xend_yes (w : World) (R o : Nat) (s : ByteArray) (h : Tx w R o s s.size) :
    Calls Tryz.prog 76 #[.pointer (some ⟨R, o, none⟩)] w fun e w' => e = .returned (.tuple #[]) ∧ ∃ m, w' = w.drewN m := by
  obtain ⟨c0, c1, f1⟩ := h
  go_enter Tryz.func76, Tryz.ntmps76
  go_quiet ((go_at_call 68; exact Calls.quiet_of_same (treeWant_yes _)))
  go_wp2_with fail
  go_end0
  exact ⟨rfl, _, rfl⟩

set_option maxHeartbeats 800000 in
theorem xend_no (w : World) (R o : Nat) (s : ByteArray) (a : Nat) (h : Tx w R o s a) (ha : a < s.size) :
    Calls Tryz.prog 76 #[.pointer (some ⟨R, o, none⟩)] w fun e w' => e = fltE ∧ ∃ m, w' = w.drewN m := by
  obtain ⟨c0, c1, f1⟩ := h
  have hne : ¬ ((a : Int) = (s.size : Int)) := by omega
  have hd : decide ((a : Int) = (s.size : Int)) = false := by simp; omega
  have hb : ((a : Int) == (s.size : Int)) = false := by simp; omega
  go_enter Tryz.func76, Tryz.ntmps76
  go_region_law (rw [if_pos (by first | rfl | simp [Region.wanted])]; go_simp; refine (treeWant_no _).mono ?_; rintro e w2 ⟨rfl, rfl⟩; refine dead_end (by assumption) { tmps := #[], defers := [] } w (And.intro rfl (And.intro rfl ⟨1, rfl⟩)) (fun HF => ?_))
  all_goals exact (unhide HF).elim

set_option maxHeartbeats 400000 in
theorem xmore_end (w : World) (R o : Nat) (s : ByteArray) (a n : Nat) (e : UInt8) (hs : s.size ≤ 1048576) (h : Tx w R o s a) (ha : a ≤ s.size) (hp : pre (w1 e) s a = true) :
    Calls Tryz.prog 131 #[.pointer (some ⟨R, o, none⟩), .string (w1 e), .int .i64 n] w fun e w' => e = .returned (.bool false) ∧ Tx w' R o s (a + 1) ∧ Mv R (o + 1) w w' := by
  have HS := hide (xskip_yes w R o s (w1 e) a hs h ha (by show 0 < 1; decide) (by show 1 ≤ 16; decide) hp)
  clear h hp
  go_enter Tryz.func131, Tryz.ntmps131
  go_wp2_with (go_at_call 105; refine (unhide HS).mono ?_; rintro e w1 ⟨rfl, hr, hb⟩)
  go_ret
  exact ⟨rfl, hr, hb⟩

set_option maxHeartbeats 400000 in
theorem xmore_first (w : World) (R o : Nat) (s : ByteArray) (a : Nat) (e : UInt8) (h : Tx w R o s a) (ha : a ≤ s.size) (hp : pre (w1 e) s a = false) :
    Calls Tryz.prog 131 #[.pointer (some ⟨R, o, none⟩), .string (w1 e), .int .i64 0] w fun e w' => e = .returned (.bool true) ∧ Tx w' R o s a ∧ Mv R (o + 1) w w' := by
  have HS := hide (xskip_no w R o s (w1 e) a h ha hp)
  have H := hide h
  clear h hp
  go_enter Tryz.func131, Tryz.ntmps131
  go_wp2_with (go_at_call 105; refine (unhide HS).mono ?_; rintro e w1 ⟨rfl, m, rfl⟩)
  go_ret
  exact ⟨rfl, H.out.drewN m, (Mv.refl _ _ _).drewN m⟩

set_option maxHeartbeats 400000 in
theorem xmore_comma (w : World) (R o : Nat) (s : ByteArray) (a n : Nat) (e : UInt8) (hn : 0 < n) (hs : s.size ≤ 1048576) (h : Tx w R o s a) (ha : a ≤ s.size) (hp : pre (w1 e) s a = false) (hp2 : pre (w1 44) s a = true) :
    Calls Tryz.prog 131 #[.pointer (some ⟨R, o, none⟩), .string (w1 e), .int .i64 n] w fun e w' => e = .returned (.bool true) ∧ Tx w' R o s (a + 1) ∧ Mv R (o + 1) w w' := by
  have HS := hide (xskip_no w R o s (w1 e) a h ha hp)
  have HT := hide (fun m => xtake_yes (w.drewN m) R o s (w1 44) a hs (h.drewN m) ha (by decide) (by decide) hp2)
  have hz : decide ((0 : Int) < (n : Int)) = true := by simp; omega
  clear h hp hp2
  go_enter Tryz.func131, Tryz.ntmps131
  go_wp2_with (first
    | (go_at_call 105; refine (unhide HS).mono ?_; rintro e w1 ⟨rfl, m, rfl⟩)
    | (go_at_call 72; refine (unhide HT _).mono ?_; rintro e w2 ⟨rfl, hr, hb⟩))
  go_ret
  exact ⟨rfl, hr, ((Mv.refl _ _ _).drewN m).trans hb⟩

set_option maxHeartbeats 400000 in
theorem xmore_none (w : World) (R o : Nat) (s : ByteArray) (a n : Nat) (e : UInt8) (hn : 0 < n) (h : Tx w R o s a) (ha : a ≤ s.size) (hp : pre (w1 e) s a = false) (hp2 : pre (w1 44) s a = false) :
    Calls Tryz.prog 131 #[.pointer (some ⟨R, o, none⟩), .string (w1 e), .int .i64 n] w fun e w' => e = fltE ∧ ∃ m, w' = w.drewN m := by
  have HS := hide (xskip_no w R o s (w1 e) a h ha hp)
  have HT := hide (fun m => xtake_no (w.drewN m) R o s (w1 44) a (h.drewN m) ha hp2)
  have hz : decide ((0 : Int) < (n : Int)) = true := by simp; omega
  clear h hp hp2
  go_enter Tryz.func131, Tryz.ntmps131
  go_wp2_with (first
    | (go_at_call 105; refine (unhide HS).mono ?_; rintro e w1 ⟨rfl, m, rfl⟩)
    | (go_at_call 72; refine (unhide HT _).mono ?_; rintro e w2 ⟨rfl, m2, rfl⟩))
  exact ⟨rfl, rfl, _, rfl⟩
end Go.Proofs.YtbkagahmiibclaaGreatDoor

/- The walks of the program's reader of texts, further: run, with each of its three conditions. For texts of at most 2^20 bytes. -/

namespace Go.Proofs.YtbkagahmiibclaaGreatDoor
open Go Go.RowKit

/-- The place of a reader, off its block. -/
def txAt (w : World) (R o : Nat) : Nat := (intOf ((w.cell? ⟨R, o + 1, none⟩).getD undef)).toNat
theorem Tx.atOf {w : World} {R o : Nat} {s : ByteArray} {a : Nat} (h : Tx w R o s a) : txAt w R o = a := by
  unfold txAt; rw [h.c1]; simp [intOf]

theorem isDigit_dg (c : UInt8) (w : World) : Calls Tryz.prog 66 #[.int .u8 c.toNat] w fun e w' => e = .returned (.bool (isDg c)) ∧ w' = w := isDigit_any c w

/-- Not a quote. -/
def nqB (c : UInt8) : Bool := c != 34
set_option maxHeartbeats 400000 in
theorem quote_any (c : UInt8) (w : World) : Calls Tryz.prog 129 #[.int .u8 c.toNat] w fun e w' => e = .returned (.bool (nqB c)) ∧ w' = w := by
  have hb : nqB c = ((c.toNat : Int) != 34) := by
    unfold nqB
    rw [Bool.eq_iff_iff]
    simp only [bne_iff_ne, ne_eq]
    constructor
    · intro h e; exact h (UInt8.toNat_inj.1 (show c.toNat = (34 : UInt8).toNat by show c.toNat = 34; omega))
    · intro h e; subst e; exact h rfl
  rw [hb]
  go_enter Tryz.func129, Tryz.ntmps129
  go_wp2_with fail
  go_ret
  exact ⟨rfl, rfl⟩

set_option maxRecDepth 100000 in
set_option maxHeartbeats 1600000 in
theorem xrun_name (w : World) (R o : Nat) (s : ByteArray) (a : Nat) (hs : s.size ≤ 1048576) (h : Tx w R o s a) (ha : a ≤ s.size) :
    Calls Tryz.prog 106 #[.pointer (some ⟨R, o, none⟩), .func (.func 67) #[] #[]] w fun e w' => e = .returned (.string ⟨((lf s a).takeWhile nameByte).toArray⟩) ∧ Tx w' R o s (a + rn nameByte s a) ∧ Mv R (o + 1) w w' := by
  have H := hide h
  obtain ⟨c0, c1, f1⟩ := h
  rw [← rn_take]
  have hle := rn_le nameByte s a ha
  generalize hr : rn nameByte s a = r at *
  have HR := hide hr
  have hi0 : (0 : Int) ≤ (a : Int) := by omega
  have hi1 : (a : Int) ≤ (a : Int) + (r : Int) := by omega
  have hi2 : (a : Int) + (r : Int) ≤ (s.size : Int) := by omega
  clear hr
  go_enter Tryz.func106, Tryz.ntmps106
  go_wp2_with fail
  go_loopw [] (fun wr => ∃ (j : Nat), a ≤ j ∧ j ≤ s.size ∧ Hid (j + rn nameByte s j = a + r) ∧ Hid (Tx wr R o s j) ∧ Hid (Mv R (o + 1) w wr)) (fun wr => s.size - txAt wr R o)
  case atStart => exact ⟨a, Nat.le_refl _, ha, hide (by show _ = _; rw [HR.out]), H, hide (Mv.refl _ _ _)⟩
  case round =>
    obtain ⟨j, hj0, hj1, HJ, HRj, HMV⟩ := hrel
    obtain ⟨y0, y1, g1⟩ := HRj.out
    have hat := HRj.out.atOf
    by_cases hlt : j < s.size
    · have HNB := hide (isNameByte_any s[j])
      have hdl : decide ((j : Int) < (s.size : Int)) = true := by simp; omega
      have hj2 : (0 : Int) ≤ (j : Int) := by omega
      have hj3 : (j : Int) < (s.size : Int) := by omega
      cases hnb : nameByte s[j]
      · have he : j = a + r := by
          have := HJ.out
          have := rn_stop (p := nameByte) hlt (by simpa using hnb)
          omega
        rw [hnb] at HNB
        have HE := hide he
        clear HR H he hnb
        go_wp2_with fail
        go_quiet ((go_at_call 67; exact Calls.quiet_of_same (unhide HNB _)))
        have hk1 : (a : Int) ≤ (j : Int) := by omega
        have hk2 : (j : Int) ≤ (s.size : Int) := by omega
        go_wp2_with fail
        go_quiet (fail)
        go_wp2_with fail
        go_ret
        refine ⟨?_, ?_, ((unhide HMV).drewN _).drewN _⟩
        · rw [← unhide HE]; rfl
        · rw [← unhide HE]; exact (HRj.out.drewN _).drewN _
      · have hjn : j + 1 + rn nameByte s (j + 1) = a + r := by
          have := HJ.out
          have := rn_step (p := nameByte) hlt (by simpa using hnb)
          omega
        rw [hnb] at HNB
        have HJN := hide hjn
        clear HR H hjn hnb
        go_wp2_with fail
        go_quiet ((go_at_call 67; exact Calls.quiet_of_same (unhide HNB _)))
        go_wp2_with fail
        go_roundw
        case rel => exact ⟨j + 1, by omega, by omega, HJN, hide ((HRj.out.drewN _).set _), hide (((unhide HMV).drewN _).trans (Mv.set _ _ _ _))⟩
        case measure =>
          rw [hat]
          have e5 := ((HRj.out.drewN nq).set (j + 1)).atOf
          exact Nat.lt_of_le_of_lt (Nat.le_of_eq (congrArg (s.size - ·) e5)) (by omega)
    · have hdl : decide ((j : Int) < (s.size : Int)) = false := by simp; omega
      have he : j = a + r := by
        have := HJ.out
        have := rn_end (p := nameByte) (s := s) (i := j) (by omega)
        omega
      have HE := hide he
      clear HR H he
      have hk1 : (a : Int) ≤ (j : Int) := by omega
      have hk2 : (j : Int) ≤ (s.size : Int) := by omega
      go_wp2_with fail
      go_quiet (fail)
      go_wp2_with fail
      go_quiet (fail)
      go_wp2_with fail
      go_ret
      refine ⟨?_, ?_, ((unhide HMV).drewN _).drewN _⟩
      · rw [← unhide HE]; rfl
      · rw [← unhide HE]; exact (HRj.out.drewN _).drewN _

set_option maxRecDepth 100000 in
set_option maxHeartbeats 1600000 in
theorem xrun_digit (w : World) (R o : Nat) (s : ByteArray) (a : Nat) (hs : s.size ≤ 1048576) (h : Tx w R o s a) (ha : a ≤ s.size) :
    Calls Tryz.prog 106 #[.pointer (some ⟨R, o, none⟩), .func (.func 66) #[] #[]] w fun e w' => e = .returned (.string ⟨((lf s a).takeWhile isDg).toArray⟩) ∧ Tx w' R o s (a + rn isDg s a) ∧ Mv R (o + 1) w w' := by
  have H := hide h
  obtain ⟨c0, c1, f1⟩ := h
  rw [← rn_take]
  have hle := rn_le isDg s a ha
  generalize hr : rn isDg s a = r at *
  have HR := hide hr
  have hi0 : (0 : Int) ≤ (a : Int) := by omega
  have hi1 : (a : Int) ≤ (a : Int) + (r : Int) := by omega
  have hi2 : (a : Int) + (r : Int) ≤ (s.size : Int) := by omega
  clear hr
  go_enter Tryz.func106, Tryz.ntmps106
  go_wp2_with fail
  go_loopw [] (fun wr => ∃ (j : Nat), a ≤ j ∧ j ≤ s.size ∧ Hid (j + rn isDg s j = a + r) ∧ Hid (Tx wr R o s j) ∧ Hid (Mv R (o + 1) w wr)) (fun wr => s.size - txAt wr R o)
  case atStart => exact ⟨a, Nat.le_refl _, ha, hide (by show _ = _; rw [HR.out]), H, hide (Mv.refl _ _ _)⟩
  case round =>
    obtain ⟨j, hj0, hj1, HJ, HRj, HMV⟩ := hrel
    obtain ⟨y0, y1, g1⟩ := HRj.out
    have hat := HRj.out.atOf
    by_cases hlt : j < s.size
    · have HNB := hide (isDigit_dg s[j])
      have hdl : decide ((j : Int) < (s.size : Int)) = true := by simp; omega
      have hj2 : (0 : Int) ≤ (j : Int) := by omega
      have hj3 : (j : Int) < (s.size : Int) := by omega
      cases hnb : isDg s[j]
      · have he : j = a + r := by
          have := HJ.out
          have := rn_stop (p := isDg) hlt (by simpa using hnb)
          omega
        rw [hnb] at HNB
        have HE := hide he
        clear HR H he hnb
        go_wp2_with fail
        go_quiet ((go_at_call 66; exact Calls.quiet_of_same (unhide HNB _)))
        have hk1 : (a : Int) ≤ (j : Int) := by omega
        have hk2 : (j : Int) ≤ (s.size : Int) := by omega
        go_wp2_with fail
        go_quiet (fail)
        go_wp2_with fail
        go_ret
        refine ⟨?_, ?_, ((unhide HMV).drewN _).drewN _⟩
        · rw [← unhide HE]; rfl
        · rw [← unhide HE]; exact (HRj.out.drewN _).drewN _
      · have hjn : j + 1 + rn isDg s (j + 1) = a + r := by
          have := HJ.out
          have := rn_step (p := isDg) hlt (by simpa using hnb)
          omega
        rw [hnb] at HNB
        have HJN := hide hjn
        clear HR H hjn hnb
        go_wp2_with fail
        go_quiet ((go_at_call 66; exact Calls.quiet_of_same (unhide HNB _)))
        go_wp2_with fail
        go_roundw
        case rel => exact ⟨j + 1, by omega, by omega, HJN, hide ((HRj.out.drewN _).set _), hide (((unhide HMV).drewN _).trans (Mv.set _ _ _ _))⟩
        case measure =>
          rw [hat]
          have e5 := ((HRj.out.drewN nq).set (j + 1)).atOf
          exact Nat.lt_of_le_of_lt (Nat.le_of_eq (congrArg (s.size - ·) e5)) (by omega)
    · have hdl : decide ((j : Int) < (s.size : Int)) = false := by simp; omega
      have he : j = a + r := by
        have := HJ.out
        have := rn_end (p := isDg) (s := s) (i := j) (by omega)
        omega
      have HE := hide he
      clear HR H he
      have hk1 : (a : Int) ≤ (j : Int) := by omega
      have hk2 : (j : Int) ≤ (s.size : Int) := by omega
      go_wp2_with fail
      go_quiet (fail)
      go_wp2_with fail
      go_quiet (fail)
      go_wp2_with fail
      go_ret
      refine ⟨?_, ?_, ((unhide HMV).drewN _).drewN _⟩
      · rw [← unhide HE]; rfl
      · rw [← unhide HE]; exact (HRj.out.drewN _).drewN _

set_option maxRecDepth 100000 in
set_option maxHeartbeats 1600000 in
theorem xrun_quote (w : World) (R o : Nat) (s : ByteArray) (a : Nat) (hs : s.size ≤ 1048576) (h : Tx w R o s a) (ha : a ≤ s.size) :
    Calls Tryz.prog 106 #[.pointer (some ⟨R, o, none⟩), .func (.func 129) #[] #[]] w fun e w' => e = .returned (.string ⟨((lf s a).takeWhile nqB).toArray⟩) ∧ Tx w' R o s (a + rn nqB s a) ∧ Mv R (o + 1) w w' := by
  have H := hide h
  obtain ⟨c0, c1, f1⟩ := h
  rw [← rn_take]
  have hle := rn_le nqB s a ha
  generalize hr : rn nqB s a = r at *
  have HR := hide hr
  have hi0 : (0 : Int) ≤ (a : Int) := by omega
  have hi1 : (a : Int) ≤ (a : Int) + (r : Int) := by omega
  have hi2 : (a : Int) + (r : Int) ≤ (s.size : Int) := by omega
  clear hr
  go_enter Tryz.func106, Tryz.ntmps106
  go_wp2_with fail
  go_loopw [] (fun wr => ∃ (j : Nat), a ≤ j ∧ j ≤ s.size ∧ Hid (j + rn nqB s j = a + r) ∧ Hid (Tx wr R o s j) ∧ Hid (Mv R (o + 1) w wr)) (fun wr => s.size - txAt wr R o)
  case atStart => exact ⟨a, Nat.le_refl _, ha, hide (by show _ = _; rw [HR.out]), H, hide (Mv.refl _ _ _)⟩
  case round =>
    obtain ⟨j, hj0, hj1, HJ, HRj, HMV⟩ := hrel
    obtain ⟨y0, y1, g1⟩ := HRj.out
    have hat := HRj.out.atOf
    by_cases hlt : j < s.size
    · have HNB := hide (quote_any s[j])
      have hdl : decide ((j : Int) < (s.size : Int)) = true := by simp; omega
      have hj2 : (0 : Int) ≤ (j : Int) := by omega
      have hj3 : (j : Int) < (s.size : Int) := by omega
      cases hnb : nqB s[j]
      · have he : j = a + r := by
          have := HJ.out
          have := rn_stop (p := nqB) hlt (by simpa using hnb)
          omega
        rw [hnb] at HNB
        have HE := hide he
        clear HR H he hnb
        go_wp2_with fail
        go_quiet ((go_at_call 129; exact Calls.quiet_of_same (unhide HNB _)))
        have hk1 : (a : Int) ≤ (j : Int) := by omega
        have hk2 : (j : Int) ≤ (s.size : Int) := by omega
        go_wp2_with fail
        go_quiet (fail)
        go_wp2_with fail
        go_ret
        refine ⟨?_, ?_, ((unhide HMV).drewN _).drewN _⟩
        · rw [← unhide HE]; rfl
        · rw [← unhide HE]; exact (HRj.out.drewN _).drewN _
      · have hjn : j + 1 + rn nqB s (j + 1) = a + r := by
          have := HJ.out
          have := rn_step (p := nqB) hlt (by simpa using hnb)
          omega
        rw [hnb] at HNB
        have HJN := hide hjn
        clear HR H hjn hnb
        go_wp2_with fail
        go_quiet ((go_at_call 129; exact Calls.quiet_of_same (unhide HNB _)))
        go_wp2_with fail
        go_roundw
        case rel => exact ⟨j + 1, by omega, by omega, HJN, hide ((HRj.out.drewN _).set _), hide (((unhide HMV).drewN _).trans (Mv.set _ _ _ _))⟩
        case measure =>
          rw [hat]
          have e5 := ((HRj.out.drewN nq).set (j + 1)).atOf
          exact Nat.lt_of_le_of_lt (Nat.le_of_eq (congrArg (s.size - ·) e5)) (by omega)
    · have hdl : decide ((j : Int) < (s.size : Int)) = false := by simp; omega
      have he : j = a + r := by
        have := HJ.out
        have := rn_end (p := nqB) (s := s) (i := j) (by omega)
        omega
      have HE := hide he
      clear HR H he
      have hk1 : (a : Int) ≤ (j : Int) := by omega
      have hk2 : (j : Int) ≤ (s.size : Int) := by omega
      go_wp2_with fail
      go_quiet (fail)
      go_wp2_with fail
      go_quiet (fail)
      go_wp2_with fail
      go_ret
      refine ⟨?_, ?_, ((unhide HMV).drewN _).drewN _⟩
      · rw [← unhide HE]; rfl
      · rw [← unhide HE]; exact (HRj.out.drewN _).drewN _
end Go.Proofs.YtbkagahmiibclaaGreatDoor

/- The walk of the program's reader of numbers: what it answers, or that it raises a fault. The tables of strconv are as the program's text lays them; for texts of at most 2^20 bytes. -/

namespace Go.Proofs.YtbkagahmiibclaaGreatDoor
open Go Go.RowKit

/-- The first block behind the variables that are read. -/
def gTop : Nat := max (max 2 3) 0 + 1
theorem gTop_syn : 2 < gTop := by decide
theorem gTop_rng : 3 < gTop := by decide
theorem gTop_pow : 0 < gTop := by decide
theorem gPow : Tryz.prog.globalNamed "internal/strconv.uint64pow10" = some 0 := by kernel_rfl

/-- What strconv reads: its table of powers, and its two errors, whatever they are. -/
structure Env (w : World) : Prop where
  pow : Lib.TabIs Tryz.prog w "internal/strconv.uint64pow10" .u64 Lib.pow10Tab
  syn : ∃ ev, w.cell? ⟨2, 0, none⟩ = some ev ∧ (ev = .nilIface ∨ ∃ te pe, ev = .iface te pe)
  rng : ∃ ev, w.cell? ⟨3, 0, none⟩ = some ev ∧ (ev = .nilIface ∨ ∃ te pe, ev = .iface te pe)
theorem Env.keep {w w' : World} (h : Env w) (hb : ∀ b, b < gTop → w'.heap[b]? = w.heap[b]?) : Env w' := by
  refine ⟨?_, ?_, ?_⟩
  · have hp := h.pow
    unfold Lib.TabIs World.var? at hp ⊢
    rw [gPow] at hp ⊢
    simp only [Option.bind_some] at hp ⊢
    rw [hb _ gTop_pow]
    exact hp
  · obtain ⟨ev, h1, h2⟩ := h.syn
    exact ⟨ev, by rw [World.cell?_of_block (w := w) (hb _ gTop_syn)]; exact h1, h2⟩
  · obtain ⟨ev, h1, h2⟩ := h.rng
    exact ⟨ev, by rw [World.cell?_of_block (w := w) (hb _ gTop_rng)]; exact h1, h2⟩
theorem Env.top {w : World} (h : Env w) : gTop ≤ w.heap.size := by
  obtain ⟨e1, h1, -⟩ := h.syn
  obtain ⟨e2, h2, -⟩ := h.rng
  have h3 : 0 < w.heap.size := by
    have hp := h.pow
    unfold Lib.TabIs World.var? at hp
    rw [gPow] at hp
    simp only [Option.bind_some] at hp
    rcases Nat.lt_or_ge 0 w.heap.size with h' | h'
    · exact h'
    · rw [Array.getElem?_eq_none h'] at hp; cases hp
  have h1 := World.block_lt_of_cell? w _ h1
  have h2 := World.block_lt_of_cell? w _ h2
  exact Nat.succ_le_of_lt (Nat.max_lt.2 ⟨Nat.max_lt.2 ⟨h1, h2⟩, h3⟩)
theorem Env.below {w w' : World} (h : Env w) (hb : Below w.heap.size w w') : Env w' := h.keep fun b hl => hb.block b (Nat.lt_of_lt_of_le hl h.top)
theorem Env.but {w w' : World} {R : Nat} (h : Env w) (hb : But R w w') (hR : gTop ≤ R) : Env w' := h.keep fun b hl => hb.at (Nat.lt_of_lt_of_le hl h.top) (by omega)
theorem Env.drewN {w : World} (h : Env w) (n : Nat) : Env (w.drewN n) := h.keep fun _ _ => rfl

theorem atoi_any (W : ByteArray) (hl : W.size ≤ 1048576) (w : World) (hE : Env w) :
    Calls Tryz.prog 107 #[.string W] w fun e w' => Below w.heap.size w w' ∧ ((∃ n, Lib.atoiAll W.data.toList = .ok n ∧ e = .returned (.tuple #[.int .i64 n, .nilIface])) ∨ ((∀ n, Lib.atoiAll W.data.toList ≠ .ok n) ∧ ∃ m N, e = .returned (.tuple #[.int .i64 m, .iface 181 (.pointer (some ⟨N, 0, none⟩))]))) := by
  cases h : Lib.atoiAll W.data.toList with
  | ok n =>
    refine (Tryz.strconv_Atoi_ok W (by omega) n h w).mono ?_
    rintro e w' ⟨rfl, hw⟩
    refine ⟨?_, Or.inl ⟨n, rfl, rfl⟩⟩
    rcases hw with rfl | ⟨t, rfl⟩
    · exact Below.refl _ _
    · exact Lib.bytesWorld_below _ _ _
  | «syntax» =>
    obtain ⟨ev, h1, h2⟩ := hE.syn
    refine (Tryz.strconv_Atoi_syntax W (by omega) h ev w h1 h2).mono ?_
    rintro e w' ⟨N, rfl, -, -, hb⟩
    refine ⟨hb, Or.inr ⟨fun n h => ?_, _, _, rfl⟩⟩
    cases h
  | range =>
    obtain ⟨ev, h1, h2⟩ := hE.rng
    refine (Tryz.strconv_Atoi_range W (by omega) h ev w h1 h2).mono ?_
    rintro e w' ⟨N, rfl, -, -, hb⟩
    refine ⟨hb, Or.inr ⟨fun n h => ?_, _, _, rfl⟩⟩
    cases h

theorem below_grow (w : World) (k : Nat) (os : Array Obj) : Below w.heap.size w (Go.Sort.grow (w.drewN k) os) := by
  refine ⟨rfl, rfl, rfl, ?_, fun i hi => ?_⟩
  · show w.heap.size ≤ (w.heap ++ os).size
    simp
  · show (w.heap ++ os)[i]? = w.heap[i]?
    rw [Array.getElem?_append_left hi]

theorem itoa_walk (n : Int) (h0 : -9223372036854775808 ≤ n) (h1 : n ≤ 9223372036854775807) (w : World) (hE : Env w) :
    Calls Tryz.prog 30 #[.int .i64 n] w fun e w' => e = .returned (.string ⟨(Lib.itoa n).toArray⟩) ∧ Below w.heap.size w w' := by
  refine (Tryz.strconv_Itoa n h0 h1 w hE.pow).mono ?_
  rintro e w' ⟨rfl, k, os, rfl⟩
  exact ⟨rfl, below_grow _ _ _⟩

/-- But for one cell of a block nothing that was there has turned. -/
structure Mg (R o : Nat) (w w' : World) : Prop where
  but : But R w w'
  cell : ∀ j, j ≠ o → w'.cell? ⟨R, j, none⟩ = w.cell? ⟨R, j, none⟩
  frz : ∀ j, w'.frozen? ⟨R, j, none⟩ = w.frozen? ⟨R, j, none⟩
theorem Mv.mg {R o : Nat} {w w' : World} (h : Mv R o w w') : Mg R o w w' := ⟨h.but, h.cell, h.frz⟩
theorem Mg.trans {R o : Nat} {a b c : World} (h : Mg R o a b) (k : Mg R o b c) : Mg R o a c := ⟨h.but.trans k.but, fun j hj => (k.cell j hj).trans (h.cell j hj), fun j => (k.frz j).trans (h.frz j)⟩
theorem Mg.below {R o : Nat} {w w' : World} (hb : Below w.heap.size w w') (hR : R < w.heap.size) : Mg R o w w' :=
  ⟨⟨hb.os, hb.tape, hb.output, hb.size, fun i hi _ => hb.block i hi⟩, fun j _ => World.cell?_of_block (a := ⟨R, j, none⟩) (hb.block R hR), fun j => World.frozen?_of_block (a := ⟨R, j, none⟩) (hb.block R hR)⟩
theorem Tx.lt {w : World} {R o : Nat} {s : ByteArray} {a : Nat} (h : Tx w R o s a) : R < w.heap.size := World.block_lt_of_cell? w _ h.c0

theorem xskip_any (w : World) (R o : Nat) (s : ByteArray) (a : Nat) (c : UInt8) (hs : s.size ≤ 1048576) (h : Tx w R o s a) (ha : a ≤ s.size) :
    Calls Tryz.prog 105 #[.pointer (some ⟨R, o, none⟩), .string (w1 c)] w fun e w' => e = .returned (.bool (decide ((lf s a).head? = some c))) ∧ Tx w' R o s (if (lf s a).head? = some c then a + 1 else a) ∧ Mv R (o + 1) w w' := by
  by_cases hh : (lf s a).head? = some c
  · rw [if_pos hh, decide_eq_true hh]
    exact xskip_yes w R o s (w1 c) a hs h ha (by show 0 < 1; decide) (by show 1 ≤ 16; decide) (by rw [pre_one]; exact decide_eq_true hh)
  · rw [if_neg hh, decide_eq_false hh]
    refine (xskip_no w R o s (w1 c) a h ha (by rw [pre_one]; exact decide_eq_false hh)).mono ?_
    rintro e w' ⟨rfl, m, rfl⟩
    exact ⟨rfl, h.drewN m, (Mv.refl _ _ _).drewN m⟩

theorem ext_take (s : ByteArray) (a n : Nat) : (s.extract a (a + n)).data.toList = (lf s a).take n := by
  unfold lf
  simp [List.take_drop]
theorem tw_take {p : UInt8 → Bool} (l : List UInt8) : l.take (l.takeWhile p).length = l.takeWhile p := (List.prefix_iff_eq_take.1 (List.takeWhile_prefix p)).symm

/-- Where a number ends. -/
def nAt (s : ByteArray) (a : Nat) : Nat := if (lf s a).head? = some 45 then a + 1 else a
theorem num_at {s : ByteArray} {a : Nat} (ha : a ≤ s.size) : a ≤ nAt s a ∧ nAt s a ≤ s.size ∧ (s.extract a (nAt s a + rn isDg s (nAt s a))).data.toList = (numRun (lf s a)).1 ∧ lf s (nAt s a + rn isDg s (nAt s a)) = (numRun (lf s a)).2 := by
  unfold nAt numRun
  by_cases hh : (lf s a).head? = some 45
  · rw [if_pos hh, if_pos hh]
    have hlt : a < s.size := by
      have := lf_len s a
      cases hl : lf s a with
      | nil => rw [hl] at hh; simp at hh
      | cons c r => rw [hl] at this; simp at this; omega
    refine ⟨by omega, by omega, ?_, ?_⟩
    · rw [show a + 1 + rn isDg s (a + 1) = a + (rn isDg s (a + 1) + 1) from by omega, ext_take]
      have e := head_tail hh
      rw [← lf_next] at e
      unfold rn
      rw [e, List.take_succ_cons, tw_take]
      simp
    · rw [rn_drop, lf_next]
  · rw [if_neg hh, if_neg hh]
    refine ⟨Nat.le_refl _, ha, ?_, rn_drop _ _ _⟩
    rw [ext_take]
    unfold rn
    rw [tw_take]

theorem str_beq (l : List UInt8) (W : ByteArray) : (l == W.toList) = decide (l = W.data.toList) := by
  rw [toList_data, Bool.eq_iff_iff]
  simp

set_option maxRecDepth 100000 in
set_option maxHeartbeats 1600000 in
theorem number_any (w : World) (R o : Nat) (s : ByteArray) (a : Nat) (hs : s.size ≤ 1048576) (h : Tx w R o s a) (ha : a ≤ s.size) (hE : Env w) (hR : gTop ≤ R) :
    Calls Tryz.prog 73 #[.pointer (some ⟨R, o, none⟩)] w fun e w' => Mg R (o + 1) w w' ∧ Tx w' R o s (nAt s a + rn isDg s (nAt s a)) ∧
      ((∃ n, Lib.atoiAll (numRun (lf s a)).1 = .ok n ∧ Lib.itoa n = (numRun (lf s a)).1 ∧ e = .returned (.int .i64 n)) ∨ ((∀ n, Lib.atoiAll (numRun (lf s a)).1 = .ok n → Lib.itoa n ≠ (numRun (lf s a)).1) ∧ e = fltE)) := by
  obtain ⟨h1, h2, h3, -⟩ := num_at (s := s) (a := a) ha
  have hsk := xskip_any w R o s a 45 hs h ha
  have hrl := rn_le isDg s (nAt s a) h2
  rw [show (if (lf s a).head? = some 45 then a + 1 else a) = nAt s a from rfl] at hsk
  rw [← h3]
  have hrn := fun W (hW : Tx W R o s (nAt s a)) => xrun_digit W R o s (nAt s a) hs hW h2
  obtain ⟨c0, c1, f1⟩ := h
  generalize nAt s a = a1 at *
  generalize hr : rn isDg s a1 = r at *
  generalize decide ((lf s a).head? = some 45) = b0 at *
  generalize hX : s.extract a (a1 + r) = X at *
  have hXs : X.size ≤ 1048576 := by
    rw [← hX, ByteArray.size_extract]; omega
  have HSK := hide hsk; have HRN := hide hrn; have HE := hide hE
  have hi0 : (0 : Int) ≤ (a : Int) := by omega
  have hi1 : (a : Int) ≤ (a1 : Int) + (r : Int) := by omega
  have hi2 : (a1 : Int) + (r : Int) ≤ (s.size : Int) := by omega
  have HX := hide hX
  clear hsk hrn hE hr hX h3
  go_enter Tryz.func73, Tryz.ntmps73
  go_wp2_with (first
    | (go_at_call 105; refine (unhide HSK).mono ?_; rintro e w2 ⟨rfl, hr2, hm2⟩; have HR2 := hide hr2; have HM2 := hide hm2; clear hr2 hm2)
    | (go_at_call 106; refine (unhide HRN _ (unhide HR2)).mono ?_; rintro e w3 ⟨rfl, hr3, hm3⟩; have HR3 := hide hr3; have HM3 := hide ((unhide HM2).trans hm3); clear hr3 hm3 HSK HRN HR2 HM2 c0 c1 f1; obtain ⟨c0, c1, f1⟩ := unhide HR3))
  go_quiet (fail)
  rw [unhide HX]
  have hlt := (unhide HR3).lt
  have hE3 := ((unhide HE).but (unhide HM3).mg.but hR).drewN nq
  have HAT := hide (atoi_any X hXs (w3.drewN nq) hE3)
  have HE3 := hide hE3
  clear hE3 HE c0 c1 f1
  go_wp2_with fail
  refine (unhide HAT).mono ?_
  rintro e w4 ⟨hb4, ⟨n, hn, rfl⟩ | ⟨hn, m, N, rfl⟩⟩
  · obtain ⟨hn0, hn1⟩ := Lib.atoiAll_bounds hn
    have hmg4 : Mg R (o + 1) w w4 := ((unhide HM3).drewN nq).mg.trans (Mg.below hb4 hlt)
    have htx4 : Tx w4 R o s (a1 + r) := ((unhide HR3).drewN nq).of_block (hb4.block R hlt)
    have HIT := hide (itoa_walk n hn0 hn1 w4 ((unhide HE3).below hb4))
    have HN := hide hn; have HG4 := hide hmg4; have HT4 := hide htx4
    have hlt4 := htx4.lt
    clear hn hmg4 htx4 hb4 HAT HE3 HR3 HM3
    by_cases hx : Lib.itoa n = X.data.toList
    · have hbe : (Lib.itoa n == X.toList) = true := by rw [str_beq]; exact decide_eq_true hx
      have HXX := hide hx
      clear hx
      go_wp2_with (first
        | (go_at_call 30; refine (unhide HIT).mono ?_; rintro e w5 ⟨rfl, hb5⟩; have HB5 := hide hb5; clear hb5)
        | (go_at_call 68; refine (treeWant_yes _).mono ?_; rintro e w6 ⟨rfl, rfl⟩))
      go_ret
      exact ⟨(unhide HG4).trans (Mg.below (unhide HB5) hlt4), (unhide HT4).of_block ((unhide HB5).block R hlt4), Or.inl ⟨n, unhide HN, unhide HXX, rfl⟩⟩
    · have hbe : (Lib.itoa n == X.toList) = false := by rw [str_beq]; exact decide_eq_false hx
      have HXX := hide hx
      clear hx
      go_wp2_with (first
        | (go_at_call 30; refine (unhide HIT).mono ?_; rintro e w5 ⟨rfl, hb5⟩; have HB5 := hide hb5; clear hb5)
        | (go_at_call 68; refine (treeWant_no _).mono ?_; rintro e w6 ⟨rfl, rfl⟩))
      refine ⟨rfl, (unhide HG4).trans (Mg.below (unhide HB5) hlt4), (unhide HT4).of_block ((unhide HB5).block R hlt4), Or.inr ⟨fun k hk => ?_, rfl⟩⟩
      have := (unhide HN).symm.trans hk
      cases this
      exact unhide HXX
  · have hmg4 : Mg R (o + 1) w w4 := ((unhide HM3).drewN nq).mg.trans (Mg.below hb4 hlt)
    have htx4 : Tx w4 R o s (a1 + r) := ((unhide HR3).drewN nq).of_block (hb4.block R hlt)
    have HN := hide hn; have HG4 := hide hmg4; have HT4 := hide htx4
    clear hn hmg4 htx4 hb4 HAT HE3 HR3 HM3
    go_wp2_with (go_at_call 68; refine (treeWant_no _).mono ?_; rintro e w6 ⟨rfl, rfl⟩)
    exact ⟨rfl, unhide HG4, unhide HT4, Or.inr ⟨fun k hk => absurd hk (unhide HN k), rfl⟩⟩
end Go.Proofs.YtbkagahmiibclaaGreatDoor
