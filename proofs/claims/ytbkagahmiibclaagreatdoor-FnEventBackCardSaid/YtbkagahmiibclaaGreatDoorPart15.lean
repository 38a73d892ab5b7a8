/- The walks of the program's isDigit, isNameByte, nameOk: what they answer. No conditions. -/
import Derived.Test.YtbkagahmiibclaaGreatDoorRows
import Derived.Test.YtbkagahmiibclaaGreatDoorPart03
import Derived.WalkLawsBesides
import Derived.WalkSmall
import Derived.Test.YtbkagahmiibclaaGreatDoorPart14
import Derived.Test.YtbkagahmiibclaaGreatDoorPart00
import Derived.OneCell
import Derived.Deep.QuietTactic
import Derived.BigQuiet
import Derived.Test.YtbkagahmiibclaaGreatDoorPart12
import Derived.Deep.RegionLaw
import Derived.Test.YtbkagahmiibclaaGreatDoorPart13
namespace Go.Proofs.YtbkagahmiibclaaGreatDoor
open Go Go.RowKit

def digitB (c : UInt8) : Bool := 48 ≤ c.toNat && c.toNat ≤ 57
theorem digit_yes {c : UInt8} (h : 48 ≤ c.toNat ∧ c.toNat ≤ 57) : digitB c = true := by unfold digitB; simp [h.1, h.2]
theorem digit_no {c : UInt8} (h : c.toNat < 48 ∨ 57 < c.toNat) : digitB c = false := by
  unfold digitB; simp only [Bool.and_eq_false_iff, decide_eq_false_iff_not]; omega
theorem nameByte_digit {c : UInt8} (h : c.toNat < 97 ∨ 122 < c.toNat) : nameByte c = digitB c := by
  unfold nameByte digitB
  rw [show (decide (97 ≤ c.toNat) && decide (c.toNat ≤ 122)) = false from by simp only [Bool.and_eq_false_iff, decide_eq_false_iff_not]; omega]
  rfl

set_option maxHeartbeats 400000 in
theorem isDigit_any (c : UInt8) (w : World) : Calls Tryz.prog 66 #[.int .u8 c.toNat] w fun e w' => e = .returned (.bool (digitB c)) ∧ w' = w := by
  have hc : (48 ≤ c.toNat ∧ c.toNat ≤ 57) ∨ c.toNat < 48 ∨ 57 < c.toNat := by omega
  rcases hc with hc | hc | hc
  · have HB := hide (digit_yes hc)
    obtain ⟨h1, h2⟩ := hc
    have d2 : decide ((c.toNat : Int) ≤ 57) = true := by simp; omega
    go_enter Tryz.func66, Tryz.ntmps66
    go_wp2_with fail
    go_ret
    exact ⟨ret_bool (unhide HB).symm, rfl⟩
  · have HB := hide (digit_no (Or.inl hc))
    go_enter Tryz.func66, Tryz.ntmps66
    go_wp2_with fail
    go_ret
    exact ⟨ret_bool (unhide HB).symm, rfl⟩
  · have HB := hide (digit_no (Or.inr hc))
    have d2 : decide ((c.toNat : Int) ≤ 57) = false := by simp; omega
    go_enter Tryz.func66, Tryz.ntmps66
    go_wp2_with fail
    go_ret
    exact ⟨ret_bool (unhide HB).symm, rfl⟩

set_option maxHeartbeats 400000 in
theorem isNameByte_any (c : UInt8) (w : World) : Calls Tryz.prog 67 #[.int .u8 c.toNat] w fun e w' => e = .returned (.bool (nameByte c)) ∧ w' = w := by
  have hc : (97 ≤ c.toNat ∧ c.toNat ≤ 122) ∨ c.toNat < 97 ∨ 122 < c.toNat := by omega
  rcases hc with hc | hc | hc
  · have HN := hide (nameByte_yes (Or.inl hc))
    obtain ⟨h1, h2⟩ := hc
    have d2 : decide ((c.toNat : Int) ≤ 122) = true := by simp; omega
    go_enter Tryz.func67, Tryz.ntmps67
    go_wp2_with (go_at_call 66; refine (isDigit_any _ _).mono ?_; rintro e w' ⟨rfl, rfl⟩)
    go_ret
    exact ⟨ret_bool (unhide HN).symm, rfl⟩
  · have HN := hide (nameByte_digit (Or.inl hc))
    go_enter Tryz.func67, Tryz.ntmps67
    go_wp2_with (go_at_call 66; refine (isDigit_any _ _).mono ?_; rintro e w' ⟨rfl, rfl⟩)
    go_ret
    exact ⟨ret_bool (unhide HN).symm, rfl⟩
  · have HN := hide (nameByte_digit (Or.inr hc))
    have d2 : decide ((c.toNat : Int) ≤ 122) = false := by simp; omega
    go_enter Tryz.func67, Tryz.ntmps67
    go_wp2_with (go_at_call 66; refine (isDigit_any _ _).mono ?_; rintro e w' ⟨rfl, rfl⟩)
    go_ret
    exact ⟨ret_bool (unhide HN).symm, rfl⟩

theorem nameOk_digit {s : ByteArray} (h0 : 0 < s.size) (h : digitB s[0] = true) : nameOkB s = false := by
  refine nameOk_first h0 ?_
  simp only [digitB, Bool.and_eq_true, decide_eq_true_eq] at h
  omega
theorem nameOk_yes2 {s : ByteArray} (h1 : 0 < s.size) (h2 : s.size ≤ 8) (hf : digitB s[0] = false) (ha : allTo nameByte s s.size) : nameOkB s = true := by
  refine nameOk_yes h1 h2 ?_ ha
  have hb := ha 0 h1 h1
  simp only [nameByte, digitB, Bool.or_eq_true, Bool.and_eq_true, Bool.and_eq_false_iff, decide_eq_true_eq, decide_eq_false_iff_not] at hb hf
  omega

set_option maxHeartbeats 400000 in
theorem nameOk_any (s : ByteArray) (w : World) (hs : s.size ≤ 9223372036854775807) :
    Calls Tryz.prog 32 #[.string s] w fun e w' => e = .returned (.bool (nameOkB s)) ∧ w' = w := by
  have hl : s.size < 1 ∨ 8 < s.size ∨ (0 < s.size ∧ s.size ≤ 8) := by omega
  rcases hl with hl | hl | ⟨hl0, hl8⟩
  · have HN := hide (nameOk_len (Or.inl hl))
    go_enter Tryz.func32, Tryz.ntmps32
    go_wp2_with fail
    go_ret
    exact ⟨ret_bool (unhide HN).symm, rfl⟩
  · have HN := hide (nameOk_len (Or.inr hl))
    go_enter Tryz.func32, Tryz.ntmps32
    go_wp2_with fail
    go_ret
    exact ⟨ret_bool (unhide HN).symm, rfl⟩
  · by_cases hf : digitB s[0] = true
    · have HN := hide (nameOk_digit hl0 hf)
      go_enter Tryz.func32, Tryz.ntmps32
      go_wp2_with (go_at_call 66; refine (isDigit_any _ _).mono ?_; rintro e w' ⟨rfl, rfl⟩)
      go_ret
      exact ⟨ret_bool (unhide HN).symm, rfl⟩
    · have hf' : digitB s[0] = false := by simpa using hf
      have HF := hide hf'
      clear hf
      go_enter Tryz.func32, Tryz.ntmps32
      go_wp2_with (go_at_call 66; refine (isDigit_any _ _).mono ?_; rintro e w' ⟨rfl, rfl⟩)
      go_loop [19] (fun i => ∃ k : Nat, k ≤ s.size ∧ i = .int .i64 k ∧ Hid (allTo nameByte s k)) (fun i => s.size - (intOf i).toNat)
      case atStart => exact ⟨0, Nat.zero_le _, rfl, fun j hj => by omega⟩
      case round =>
        obtain ⟨k, hk, rfl, HA⟩ := hrel
        by_cases hlt : k < s.size
        · by_cases hb : nameByte s[k] = true
          · have HN := hide (allTo_succ HA.out hlt hb)
            go_wp2_with (go_at_call 67; refine (isNameByte_any _ _).mono ?_; rintro e w' ⟨rfl, rfl⟩)
            go_round
            case rel => exact ⟨k + 1, by omega, by go_num, HN⟩
            case measure => simp [intOf]; omega
          · have hb' : nameByte s[k] = false := by simpa using hb
            clear hb
            have HN := hide (nameOk_not hlt hb')
            go_wp2_with (go_at_call 67; refine (isNameByte_any _ _).mono ?_; rintro e w' ⟨rfl, rfl⟩)
            go_ret
            exact ⟨ret_bool (unhide HN).symm, rfl⟩
        · go_wp2_with fail
          go_ret
          obtain rfl : k = s.size := by omega
          exact ⟨ret_bool (nameOk_yes2 hl0 hl8 (unhide HF) HA.out).symm, rfl⟩
end Go.Proofs.YtbkagahmiibclaaGreatDoor

/- The walks of the program's treeWant: what it answers, and that it raises a fault. No conditions. -/

namespace Go.Proofs.YtbkagahmiibclaaGreatDoor
open Go Go.RowKit

/-- A fault is raised. -/
abbrev fltE : Ending := .panicked [{ v := .iface 122 (.agg #[]), recovered := false }]

set_option maxHeartbeats 400000 in
theorem treeWant_yes (w : World) : Calls Tryz.prog 68 #[.bool true] w fun e w' => e = .returned (.tuple #[]) ∧ w' = w := by
  go_enter Tryz.func68, Tryz.ntmps68
  go_wp2_with fail
  go_end0
  exact ⟨rfl, rfl⟩

set_option maxHeartbeats 400000 in
theorem treeWant_no (w : World) : Calls Tryz.prog 68 #[.bool false] w fun e w' => e = fltE ∧ w' = w := by
  go_enter Tryz.func68, Tryz.ntmps68
  go_wp2_with fail
  exact ⟨rfl, rfl, rfl⟩
end Go.Proofs.YtbkagahmiibclaaGreatDoor

/- The program's byteWriter in memory, and the walks of its add, put, text, size, num. Conditions: what is put fits in 9000 bytes. -/

namespace Go.Proofs.YtbkagahmiibclaaGreatDoor
open Go Go.RowKit

theorem ByRow.apart {base : Nat} {w : World} {v : Value} {l : List UInt8} {b : Nat} {T : TypeId} {n : Nat} {f : Nat → Value} (h : ByRow base w v l) (hr : w.rowIs b T n f) (hT : T ≠ 5) : v.ownBlock ≠ some b := by
  rcases h.2 with ⟨hv, _⟩ | ⟨g, cap, cur, hv, _, hg, _⟩
  · subst hv; simp [Value.ownBlock]
  · subst hv
    obtain ⟨c, hb, _⟩ := hr
    intro e
    simp [Value.ownBlock] at e
    subst e
    rw [hg] at hb
    simp at hb
    exact hT hb.2.symm

/-- The writer: its counter, and the bytes that were put. -/
structure Wr (base B : Nat) (w : World) (v : Value) (l : List UInt8) : Prop where
  cells : w.rowIs B 55 3 (row3 (.int .i64 l.length) (.int .i64 9000) v)
  row : ByRow base w v l
  lt : base ≤ B

/-- Nothing has turned but the writer and rows of bytes from a base on. -/
structure Sp (base B : Nat) (w w' : World) : Prop where
  os : w'.os = w.os
  tape : w'.tape = w.tape
  output : w'.output = w.output
  size : w.heap.size ≤ w'.heap.size
  block : ∀ b, b < w.heap.size → b ≠ B → (b < base ∨ ∀ cs f, w.heap[b]? ≠ some (.cells cs 5 f)) → w'.heap[b]? = w.heap[b]?

theorem Sp.refl (base B : Nat) (w : World) : Sp base B w w := ⟨rfl, rfl, rfl, Nat.le_refl _, fun _ _ _ _ => rfl⟩
theorem Sp.trans {base B : Nat} {a b c : World} (h : Sp base B a b) (k : Sp base B b c) : Sp base B a c :=
  ⟨k.os.trans h.os, k.tape.trans h.tape, k.output.trans h.output, Nat.le_trans h.size k.size, fun i hi hne hc => by
    have e := h.block i hi hne hc
    exact (k.block i (Nat.lt_of_lt_of_le hi h.size) hne (by rw [e]; exact hc)).trans e⟩
theorem Sp.but {base B : Nat} {w w' : World} (h : But B w w') : Sp base B w w' := ⟨h.os, h.tape, h.output, h.size, fun _ hi hne _ => h.at hi hne⟩
theorem Sp.alloc (base B : Nat) (w : World) (o : Obj) : Sp base B w (w.alloc o) := Sp.but (But.alloc B w o)
theorem Sp.grown {base B : Nat} {w w' : World} {v : Value} {l : List UInt8} (h : ByRow base w v l) (hg : w.grownBy w' v.ownBlock) : Sp base B w w' :=
  ⟨hg.os, hg.tape, hg.output, hg.size, fun b hb _ hc => hg.block b hb (fun e => by
    rcases h.2 with ⟨hv, _⟩ | ⟨g, cap, cur, hv, hbg, hh, _⟩
    · subst hv; simp [Value.ownBlock] at e
    · subst hv
      simp [Value.ownBlock] at e
      subst e
      rcases hc with hc | hc
      · omega
      · exact hc _ _ hh)⟩
theorem Sp.below {base B : Nat} {w w' : World} (h : Sp base B w w') (hb : base ≤ B) (hw : base ≤ w.heap.size) : Below base w w' :=
  ⟨h.os, h.tape, h.output, h.size, fun b hbb => h.block b (by omega) (by omega) (Or.inl hbb)⟩
theorem Sp.box {base B : Nat} {w w' : World} (h : Sp base B w w') {X : Nat} {T : TypeId} {n : Nat} {f : Nat → Value} (hr : w.rowIs X T n f) (hne : X ≠ B) (hT : T ≠ 5) : w'.rowIs X T n f := by
  refine hr.of_block (h.block X hr.lt hne (Or.inr fun cs fz e => ?_))
  obtain ⟨c, hb, _⟩ := hr
  rw [e] at hb
  simp at hb
  exact hT hb.2.1.symm

theorem Wr.but {base B : Nat} {w w' : World} {v : Value} {l : List UInt8} (h : Wr base B w v l) (hb : But B w w') : ByRow base w' v l :=
  World.ownsRow.kept h.row hb (Or.inr (ByRow.apart h.row h.cells (by decide)))
theorem Wr.alloc {base B : Nat} {w : World} {v : Value} {l : List UInt8} (h : Wr base B w v l) (o : Obj) : Wr base B (w.alloc o) v l :=
  ⟨h.cells.alloc o, World.ownsRow.alloc h.row o, h.lt⟩
theorem Wr.size {base B : Nat} {w : World} {v : Value} {l : List UInt8} (h : Wr base B w v l) : base ≤ w.heap.size := by
  have := h.cells.lt; have := h.lt; omega

/-- What a call that puts bytes comes to. -/
def WrEnd (base B : Nat) (w w' : World) (e : Ending) (l : List UInt8) : Prop := e = .returned (.tuple #[]) ∧ Sp base B w w' ∧ ∃ a n cap, n = l.length ∧ Wr base B w' (.slice a n cap) l

theorem row3_set0 {w : World} {B : Nat} {T : TypeId} {x y z : Value} (h : w.rowIs B T 3 (row3 x y z)) (v : Value) : (w.setCell ⟨B, 0, none⟩ v).rowIs B T 3 (row3 v y z) :=
  (h.set 0 v).congr fun i hi => by
    rcases (show i = 0 ∨ i = 1 ∨ i = 2 by omega) with rfl | rfl | rfl <;> rfl
theorem row3_pk2 {w : World} {B : Nat} {T : TypeId} {x y z : Value} (h : w.rowIs B T 3 (row3 x y z)) (v : Value) : (w.setCell ⟨B, 2, none⟩ v).rowIs B T 3 (row3 x y v) :=
  (h.set 2 v).congr fun i hi => by
    rcases (show i = 0 ∨ i = 1 ∨ i = 2 by omega) with rfl | rfl | rfl <;> rfl

set_option maxRecDepth 100000 in
set_option maxHeartbeats 800000 in
theorem add_any (w : World) (B : Nat) (c k : Nat) (v : Value) (h : w.rowIs B 55 3 (row3 (.int .i64 c) (.int .i64 9000) v)) (hc : c + k ≤ 9000) :
    Calls Tryz.prog 88 #[.pointer (some ⟨B, 0, none⟩), .int .i64 k] w fun e w' => e = .returned (.tuple #[]) ∧ w'.rowIs B 55 3 (row3 (.int .i64 ((c + k : Nat) : Int)) (.int .i64 9000) v) ∧ But B w w' := by
  have k0 := h.cell (i := 0) (by omega); have k1 := h.cell (i := 1) (by omega); have f0 := h.frozen 0
  simp only [row3] at k0 k1
  have hle : (c : Int) + k ≤ 9000 := by omega
  have H := hide h
  clear h
  go_enter Tryz.func88, Tryz.ntmps88
  go_wp2_with fail
  go_quiet ((go_at_call 68; exact Calls.quiet_of_same (treeWant_yes _)))
  go_wp2_with fail
  go_end0
  refine ⟨rfl, ?_, ?_⟩
  · have := row3_set0 (unhide H) (.int .i64 ((c : Int) + k))
    rw [Int.natCast_add]
    exact this.of_block (by simp)
  · exact (But.set w 0 _).trans (But.of_below (below_drewN (Below.refl _ _) _))

/-- A row behind the counter's turn. -/
theorem Wr.counted {base B : Nat} {w w1 : World} {v : Value} {l : List UInt8} (h : Wr base B w v l) (hb : But B w w1) :
    ByRow base w1 v l ∧ Sp base B w w1 ∧ base ≤ w1.heap.size := ⟨h.but hb, Sp.but hb, Nat.le_trans h.size hb.size⟩

/-- The new row is stored in the writer. -/
theorem Wr.stored {base B : Nat} {w2 w3 : World} {v v' : Value} {l l' : List UInt8} (hlt : base ≤ B) (hr : w2.rowIs B 55 3 (row3 (.int .i64 (l'.length : Int)) (.int .i64 9000) v)) (h2 : ByRow base w2 v l) (hg : w2.grownBy w3 v.ownBlock) (h3 : ByRow base w3 v' l') :
    w3.rowIs B 55 3 (row3 (.int .i64 (l'.length : Int)) (.int .i64 9000) v) ∧ Wr base B (w3.setCell ⟨B, 2, none⟩ v') v' l' ∧ Sp base B w2 (w3.setCell ⟨B, 2, none⟩ v') := by
  have hr3 : w3.rowIs B 55 3 (row3 (.int .i64 (l'.length : Int)) (.int .i64 9000) v) := hr.of_block (hg.block B hr.lt (fun e => ByRow.apart h2 hr (by decide) e.symm))
  exact ⟨hr3, ⟨row3_pk2 hr3 v', ownsRow_setCell_other h3 (ByRow.apart h3 hr3 (by decide)) v', hlt⟩, (Sp.grown h2 hg).trans (Sp.but (But.set w3 2 v'))⟩

set_option maxRecDepth 100000 in
set_option maxHeartbeats 1600000 in
theorem put_any (base B : Nat) (w : World) (a : Option Addr) (n cap : Nat) (l : List UInt8) (b : Int) (h : Wr base B w (.slice a n cap) l) (hb0 : 0 ≤ b) (hb1 : b < 256) (hl : l.length + 1 ≤ 9000) :
    Calls Tryz.prog 62 #[.pointer (some ⟨B, 0, none⟩), .int .i64 b] w fun e w' => WrEnd base B w w' e (l ++ [UInt8.ofNat b.toNat]) := by
  have HADD := hide (add_any w B l.length 1 _ h.cells hl)
  have HK := hide (bcI b hb0 hb1)
  have H := hide h
  clear h
  go_enter Tryz.func62, Tryz.ntmps62
  go_wp2_with fail
  refine (unhide HADD).mono ?_
  rintro e w1 ⟨rfl, hr1, hb1'⟩
  obtain ⟨hrow1, hsp1, hsz1⟩ := (unhide H).counted hb1'
  have k2 := hr1.cell (i := 2) (by omega)
  simp only [row3] at k2
  have HR1 := hide hr1; have HROW1 := hide hrow1; have HSP1 := hide hsp1
  clear hr1 hrow1 hsp1 hb1' HADD
  go_wp2_with (at_builtin; refine append_bytes _ rfl _ _ rfl base (.slice a n cap) l [UInt8.ofNat b.toNat] rfl (World.ownsRow.alloc (unhide HROW1) _) ⟨w1.heap.size, 0, none⟩ 1 1 rfl rfl (by rw [unhide HK]; exact cell_one _ _ _) (by simp; omega) (by simp; omega) ?_
               intro a' n' cap' w3 HN3 HR3 HG3
               have hst := Wr.stored (l' := l ++ [UInt8.ofNat b.toNat]) (unhide H).lt (by rw [List.length_append]; exact (unhide HR1).alloc (.cells #[.int .u8 b] 5)) (World.ownsRow.alloc (unhide HROW1) (.cells #[.int .u8 b] 5)) HG3.out HR3.out
               obtain ⟨hr3, hw3, hsp3⟩ := hst
               have m2 := hr3.cell (i := 2) (by omega)
               have f2 := hr3.frozen 2
               simp only [row3] at m2
               have HW3 := hide hw3
               have HSP3 := hide (((unhide HSP1).trans (Sp.alloc base B w1 (.cells #[.int .u8 b] 5))).trans hsp3)
               clear hr3 hw3 hsp3 HR3 HG3)
  go_end0
  exact ⟨rfl, unhide HSP3, a', n', cap', HN3.out, unhide HW3⟩

set_option maxRecDepth 100000 in
set_option maxHeartbeats 1600000 in
theorem text_any (base B : Nat) (w : World) (a : Option Addr) (n cap : Nat) (l : List UInt8) (tx : ByteArray) (h : Wr base B w (.slice a n cap) l) (htx : tx.size < 256) (hl : l.length + (shortB tx).length ≤ 9000) :
    Calls Tryz.prog 61 #[.pointer (some ⟨B, 0, none⟩), .string tx] w fun e w' => WrEnd base B w w' e (l ++ shortB tx) := by
  rw [shortB_len] at hl
  have HPUT := hide (put_any base B w a n cap l tx.size h (by omega) (by omega) (by omega))
  have HE : Hid ((l ++ [UInt8.ofNat tx.size]) ++ tx.data.toList = l ++ shortB tx) := by show _ = _; simp [shortB]
  clear h
  go_enter Tryz.func61, Tryz.ntmps61
  go_wp2_with fail
  refine (unhide HPUT).mono ?_
  rintro e w1 ⟨rfl, hsp1, a1, n1, cap1, hn1, hw1⟩
  rw [Int.toNat_natCast] at hw1 hn1
  have HADD := hide (add_any w1 B (l ++ [UInt8.ofNat tx.size]).length tx.size _ hw1.cells (by simp; omega))
  have HW1 := hide hw1; have HSP1 := hide hsp1
  clear hw1 hsp1 hn1 HPUT
  go_wp2_with fail
  refine (unhide HADD).mono ?_
  rintro e w2 ⟨rfl, hr2, hb2⟩
  obtain ⟨hrow2, hsp2, hsz2⟩ := (unhide HW1).counted hb2
  have k2 := hr2.cell (i := 2) (by omega)
  simp only [row3] at k2
  have HR2 := hide hr2; have HROW2 := hide hrow2; have HSP2 := hide ((unhide HSP1).trans hsp2)
  have HLT := hide (unhide HW1).lt
  clear hr2 hrow2 hsp2 hb2 HADD HW1 HSP1
  go_wp2_with (at_builtin; refine append_string _ rfl _ _ rfl base (.slice a1 n1 cap1) (l ++ [UInt8.ofNat tx.size]) tx rfl (unhide HROW2) rfl (by simp; omega) hsz2 ?_
               intro a' n' cap' w3 HN3 HR3 HG3
               rw [HE.out] at HN3 HR3
               have hst := Wr.stored (l' := l ++ shortB tx) (unhide HLT) (by rw [← HE.out, List.length_append (bs := tx.data.toList)]; exact unhide HR2) (unhide HROW2) HG3.out HR3.out
               obtain ⟨hr3, hw3, hsp3⟩ := hst
               have m2 := hr3.cell (i := 2) (by omega)
               have f2 := hr3.frozen 2
               simp only [row3] at m2
               have HW3 := hide hw3
               have HSP3 := hide ((unhide HSP2).trans hsp3)
               clear hr3 hw3 hsp3 HR3 HG3)
  go_end0
  exact ⟨rfl, unhide HSP3, a', n', cap', HN3.out, unhide HW3⟩

set_option maxRecDepth 100000 in
set_option maxHeartbeats 1600000 in
theorem size_any (base B : Nat) (w : World) (a : Option Addr) (n cap : Nat) (l : List UInt8) (m : Nat) (h : Wr base B w (.slice a n cap) l) (hm : m ≤ 999999999) (hl : l.length + (sevB m).length ≤ 9000) :
    Calls Tryz.prog 118 #[.pointer (some ⟨B, 0, none⟩), .int .i64 m] w fun e w' => WrEnd base B w w' e (l ++ sevB m) := by
  obtain ⟨L, hL⟩ : ∃ L, L = l ++ sevB m := ⟨_, rfl⟩
  have H0 : Hid (Wr base B w (.slice a n cap) l ∧ Sp base B w w ∧ l ++ sevB m = L) := ⟨h, Sp.refl _ _ _, hL.symm⟩
  have hlen : L.length ≤ 9000 := by rw [hL, List.length_append]; exact hl
  rw [← hL]
  have HL := hide hlen
  clear h hl hlen hL
  go_enter Tryz.func118, Tryz.ntmps118
  go_wp2_with fail
  go_loopw [1] (fun i wr => ∃ (k : Nat) (ar : Option Addr) (nr cr : Nat) (lr : List UInt8), i = .int .i64 k ∧ k ≤ 999999999 ∧ Hid (Wr base B wr (.slice ar nr cr) lr ∧ Sp base B w wr ∧ lr ++ sevB k = L)) (fun i _ => (intOf i).toNat)
  case atStart => exact ⟨m, a, n, cap, l, rfl, hm, H0⟩
  case round =>
    obtain ⟨k, ar, nr, cr, lr, rfl, hk, HA⟩ := hrel
    have hlr : lr.length + (sevB k).length ≤ 9000 := by have := unhide HL; rw [← HA.out.2.2, List.length_append] at this; exact this
    by_cases h128 : 127 < k
    · have hge : (128 : Int) ≤ k := by omega
      have he := sevB_more h128
      have hn1 : (((k : Int) % 128 + 128).toNat) = 128 + k % 128 := by omega
      have HP := hide (put_any base B wr ar nr cr lr ((k : Int) % 128 + 128) HA.out.1 (by omega) (by omega) (by rw [he] at hlr; simp at hlr; omega))
      rw [hn1] at HP
      have HE := hide he
      clear he hn1 hlr
      go_wp2_with fail
      refine (unhide HP).mono ?_
      rintro e w1 ⟨rfl, hsp1, a1, n1, cap1, -, hw1⟩
      have HN : Hid (Wr base B w1 (.slice a1 n1 cap1) (lr ++ [UInt8.ofNat (128 + k % 128)]) ∧ Sp base B w w1 ∧ (lr ++ [UInt8.ofNat (128 + k % 128)]) ++ sevB (k / 128) = L) := ⟨hw1, HA.out.2.1.trans hsp1, by have := HA.out.2.2; rw [unhide HE] at this; simpa using this⟩
      clear hsp1 hw1 HP HE
      go_wp2_with fail
      go_roundw
      case rel => exact ⟨k / 128, a1, n1, cap1, _, by go_num, by omega, HN⟩
      case measure => simp [intOf]; omega
    · have hge : ¬ ((128 : Int) ≤ k) := by omega
      have he := sevB_last h128
      have HP := hide (put_any base B wr ar nr cr lr (k : Int) HA.out.1 (by omega) (by omega) (by rw [he] at hlr; simp at hlr; omega))
      rw [Int.toNat_natCast, ← he, HA.out.2.2] at HP
      clear he hlr
      go_wp2_with fail
      refine (unhide HP).mono ?_
      rintro e w1 ⟨rfl, hsp1, hend⟩
      have HEND := hide hend; have HSP := hide (HA.out.2.1.trans hsp1)
      clear hend hsp1 HP
      go_wp2_with fail
      go_end0
      exact ⟨rfl, unhide HSP, unhide HEND⟩

set_option maxRecDepth 100000 in
set_option maxHeartbeats 1600000 in
theorem numPk_any (base B : Nat) (w : World) (a : Option Addr) (n cap : Nat) (l : List UInt8) (x : Int) (h : Wr base B w (.slice a n cap) l) (h0 : -999999999 ≤ x) (h1 : x ≤ 999999999) (hl : l.length + (numB x).length ≤ 9000) :
    Calls Tryz.prog 89 #[.pointer (some ⟨B, 0, none⟩), .int .i64 x] w fun e w' => WrEnd base B w w' e (l ++ numB x) := by
  have hln : (numB x).length = (sevB x.natAbs).length + 1 := by simp [numB]
  have HSZ := hide (fun w1 a1 n1 cap1 l1 (h1 : Wr base B w1 (.slice a1 n1 cap1) l1) (hl1 : l1.length = l.length + 1) => size_any base B w1 a1 n1 cap1 l1 x.natAbs h1 (by omega) (by omega))
  have HPU := hide (fun (b : Int) (hb0 : 0 ≤ b) (hb1 : b < 256) => put_any base B w a n cap l b h hb0 hb1 (by omega))
  by_cases hneg : x < 0
  · have hab : -x = (x.natAbs : Int) := by omega
    have HE : Hid ((l ++ [UInt8.ofNat (1 : Int).toNat]) ++ sevB x.natAbs = l ++ numB x) := by show _ = _; simp [numB, hneg]
    clear h hl hln
    go_enter Tryz.func89, Tryz.ntmps89
    go_wp2_with fail
    refine (unhide HPU 1 (by decide) (by decide)).mono ?_
    rintro e w1 ⟨rfl, hsp1, a1, n1, cap1, -, hw1⟩
    have HS := hide (unhide HSZ w1 a1 n1 cap1 _ hw1 (by simp))
    have HSP1 := hide hsp1
    rw [HE.out] at HS
    clear hw1 hsp1 HSZ HPU
    go_wp2_with fail
    refine (unhide HS).mono ?_
    rintro e w2 ⟨rfl, hsp2, hend⟩
    have HEND := hide hend; have HSP := hide ((unhide HSP1).trans hsp2)
    clear hend hsp2 HS
    go_wp2_with fail
    refine bodyPost_ret (results_none rfl _ _ _) rfl ?_
    exact ⟨rfl, unhide HSP, unhide HEND⟩
  · have hab : x = (x.natAbs : Int) := by omega
    have HE : Hid ((l ++ [UInt8.ofNat (0 : Int).toNat]) ++ sevB x.natAbs = l ++ numB x) := by show _ = _; simp [numB, hneg]
    clear h hl hln
    generalize x.natAbs = m at *
    subst hab
    go_enter Tryz.func89, Tryz.ntmps89
    go_wp2_with fail
    refine (unhide HPU 0 (by decide) (by decide)).mono ?_
    rintro e w1 ⟨rfl, hsp1, a1, n1, cap1, -, hw1⟩
    have HS := hide (unhide HSZ w1 a1 n1 cap1 _ hw1 (by simp))
    have HSP1 := hide hsp1
    rw [HE.out] at HS
    clear hw1 hsp1 HSZ HPU
    go_wp2_with fail
    refine (unhide HS).mono ?_
    rintro e w2 ⟨rfl, hsp2, hend⟩
    have HEND := hide hend; have HSP := hide ((unhide HSP1).trans hsp2)
    clear hend hsp2 HS
    go_wp2_with fail
    go_end0
    exact ⟨rfl, unhide HSP, unhide HEND⟩
end Go.Proofs.YtbkagahmiibclaaGreatDoor

/- Rows of bytes of a call's own: as slices of bytes that lie in memory; one byte set. No program walked, no conditions. -/

namespace Go.Proofs.YtbkagahmiibclaaGreatDoor
open Go Go.RowKit

theorem ByRow.at {base : Nat} {w : World} {v : Value} {l : List UInt8} (h : ByRow base w v l) : BytesAt w v l := by
  have h0 := h
  rcases h.2 with ⟨hv, hn⟩ | ⟨g, cap, cur, hv, hb, hg, hnc, hcm, -, -⟩
  · exact ⟨none, 0, by rw [hv, hn], by omega, fun i hi => by omega⟩
  · refine ⟨_, cap, hv, by unfold maxLen at hcm; omega, fun i hi => ?_⟩
    obtain ⟨g', cap', hv', -, hlt, hc⟩ := h0.form (by omega)
    rw [hv] at hv'
    simp only [Value.slice.injEq, Option.some.injEq, Addr.mk.injEq, and_true] at hv'
    obtain ⟨rfl, -⟩ := hv'
    refine ⟨g, 0, rfl, hlt, ?_⟩
    have := hc i (.int .u8 l[i].toNat) (by simp [bc, hi])
    rw [Addr.add_lit] at this
    exact this


theorem ByRow.set {base : Nat} {w : World} {g n cap : Nat} {l : List UInt8} (h : ByRow base w (.slice (some ⟨g, 0, none⟩) n cap) l) (j : Nat) (x : UInt8) : ByRow base (w.setCell ⟨g, j, none⟩ (.int .u8 x.toNat)) (.slice (some ⟨g, 0, none⟩) n cap) (l.set j x) := by
  rcases h.2 with ⟨hv, _⟩ | ⟨g', cap', cur, hv, hb, hg, hnc, hcm, hcs, htk⟩
  · simp at hv
  · simp only [Value.slice.injEq, Option.some.injEq, Addr.mk.injEq, and_true] at hv
    obtain ⟨rfl, rfl, rfl⟩ := hv
    refine ⟨by rw [bc_len, Nat.mul_one], Or.inr ⟨g, cap, cur.setIfInBounds j (.int .u8 x.toNat), by rw [List.length_set], hb, ?_, by rw [List.length_set]; exact hnc, hcm, by rw [Array.size_setIfInBounds]; exact hcs, ?_⟩⟩
    · simp [World.setCell, Array.getElem?_modify, hg]
    · rw [List.length_set, Array.toList_setIfInBounds, List.take_set, htk]
      simp [bc, List.map_set]
end Go.Proofs.YtbkagahmiibclaaGreatDoor

/- A law for a callee that raises a fault in a region that draws its order. No program, no conditions. -/

namespace Go.Proofs.YtbkagahmiibclaaGreatDoor
open Go Go.RowKit

/-- Where a call raises a fault, what follows it is never met. -/
theorem dead_end {G : Prop} {S K : Act → World → Prop} (_ : ∀ a w, S a w → K a w) (a : Act) (w : World) (h : G) (_ : Hid False → K a w) : G := h

end Go.Proofs.YtbkagahmiibclaaGreatDoor

/- The program's byteCursor in memory, and the walks of its add, take, next, text. No conditions. -/

namespace Go.Proofs.YtbkagahmiibclaaGreatDoor
open Go Go.RowKit

/-- The cursor: how many bytes were taken, how many there are, and the bytes. -/
structure Cu (R : Nat) (w : World) (v : Value) (b : List UInt8) (at' : Nat) : Prop where
  cells : w.rowIs R 98 3 (row3 (.int .i64 at') (.int .i64 b.length) v)
  row : ByRow 0 w v b
  own : ∀ g, v.ownBlock = some g → g < R
  le : at' ≤ b.length
  small : b.length ≤ 1048576

theorem Cu.but {R : Nat} {w w' : World} {v : Value} {b : List UInt8} {a a' : Nat} (h : Cu R w v b a) (hb : But R w w') (hc : w'.rowIs R 98 3 (row3 (.int .i64 a') (.int .i64 b.length) v)) (hle : a' ≤ b.length) : Cu R w' v b a' :=
  ⟨hc, World.ownsRow.kept h.row hb (by
    rcases e : v.ownBlock with _ | g
    · exact Or.inl rfl
    · exact Or.inr (fun e2 => by have := h.own g e; simp at e2; omega)), h.own, hle, h.small⟩
theorem Cu.on {R : Nat} {w w' : World} {v : Value} {b : List UInt8} {a : Nat} (h : Cu R w v b a) (hb : Below w.heap.size w w') : Cu R w' v b a :=
  ⟨h.cells.of_block (hb.block _ h.cells.lt), h.row.stay hb, h.own, h.le, h.small⟩

set_option maxRecDepth 100000 in
set_option maxHeartbeats 800000 in
theorem addT_yes (T : TypeId) (w : World) (B : Nat) (c k m : Nat) (v : Value) (h : w.rowIs B T 3 (row3 (.int .i64 c) (.int .i64 m) v)) (hc : c + k ≤ m) (hm : m ≤ 1048576) :
    Calls Tryz.prog 88 #[.pointer (some ⟨B, 0, none⟩), .int .i64 k] w fun e w' => e = .returned (.tuple #[]) ∧ w'.rowIs B T 3 (row3 (.int .i64 ((c + k : Nat) : Int)) (.int .i64 m) v) ∧ But B w w' := by
  have k0 := h.cell (i := 0) (by omega); have k1 := h.cell (i := 1) (by omega); have f0 := h.frozen 0
  simp only [row3] at k0 k1
  have hle : decide ((c : Int) + k ≤ m) = true := by simp; omega
  have H := hide h
  clear h
  go_enter Tryz.func88, Tryz.ntmps88
  go_wp2_with fail
  go_quiet ((go_at_call 68; exact Calls.quiet_of_same (treeWant_yes _)))
  go_wp2_with fail
  go_end0
  refine ⟨rfl, ?_, ?_⟩
  · have := row3_set0 (unhide H) (.int .i64 ((c : Int) + k))
    rw [Int.natCast_add]
    exact this.of_block (by simp)
  · exact (But.set w 0 _).trans (But.of_below (below_drewN (Below.refl _ _) _))

set_option maxRecDepth 100000 in
set_option maxHeartbeats 800000 in
theorem addT_no (T : TypeId) (w : World) (B : Nat) (c k m : Nat) (v : Value) (h : w.rowIs B T 3 (row3 (.int .i64 c) (.int .i64 m) v)) (hc : m < c + k) (hm : c + k ≤ 1099511627776) :
    Calls Tryz.prog 88 #[.pointer (some ⟨B, 0, none⟩), .int .i64 k] w fun e w' => e = fltE ∧ But B w w' := by
  have k0 := h.cell (i := 0) (by omega); have k1 := h.cell (i := 1) (by omega); have f0 := h.frozen 0
  simp only [row3] at k0 k1
  have hle : decide ((c : Int) + k ≤ m) = false := by simp; omega
  clear h
  go_enter Tryz.func88, Tryz.ntmps88
  go_wp2_with fail
  go_region_law (rw [if_pos (by first | rfl | simp [Region.wanted])]; go_simp; refine (treeWant_no _).mono ?_; rintro e w2 ⟨rfl, rfl⟩; refine dead_end (by assumption) { tmps := #[], defers := [] } w (And.intro rfl (And.intro rfl ((But.set w 0 _).trans (But.of_below (Below.refl _ _).drew)))) (fun HF => ?_))
  all_goals exact (unhide HF).elim

theorem ByRow.part {w : World} {g n cap : Nat} {l : List UInt8} {base : Nat} (h : ByRow base w (.slice (some ⟨g, 0, none⟩) n cap) l) (i : Nat) (hi : i < l.length) : w.cell? ⟨g, i, none⟩ = some (.int .u8 l[i].toNat) := by
  obtain ⟨a, cap', e, -, hc⟩ := h.at
  simp only [Value.slice.injEq] at e
  obtain ⟨rfl, -, -⟩ := e
  obtain ⟨b, o, e2, -, hcell⟩ := hc i hi
  simp only [Option.some.injEq, Addr.mk.injEq, and_true] at e2
  obtain ⟨rfl, rfl⟩ := e2
  rw [Nat.zero_add] at hcell
  exact hcell

theorem cut_bytes {base : Nat} {w : World} {av : Option Addr} {capv : Nat} {b : List UInt8} (h : ByRow base w (.slice av b.length capv) b) (a n : Nat) (hn : a + n ≤ b.length) (hcap : b.length ≤ capv) (hsm : b.length ≤ 1048576) :
    BytesAt w (.slice (if capv = a then av else Option.map (fun x => x.add a) av) (a + n - a) (capv - a)) ((b.drop a).take n) := by
  have hl : ((b.drop a).take n).length = n := by simp; omega
  refine ⟨_, _, by rw [hl, Nat.add_sub_cancel_left], by omega, fun i hi => ?_⟩
  rw [hl] at hi
  obtain ⟨g, cap', hv, -, hlt, -⟩ := h.form (by omega)
  simp only [Value.slice.injEq, true_and] at hv
  obtain ⟨rfl, rfl⟩ := hv
  have hc := h.part (a + i) (by omega)
  rw [if_neg (by omega)]
  refine ⟨g, a, by simp [Addr.add_lit], hlt, ?_⟩
  rw [hc]
  simp

theorem BytesAt.str {w : World} {v : Value} {l : List UInt8} (h : BytesAt w v l) : (convert 22 9 v).run Tryz.prog w = .ok (.string ⟨l.toArray⟩) w := by
  obtain ⟨a, cap, rfl, -, hc⟩ := h
  match a, hc with
  | some ad, hc =>
    obtain ⟨g, o, sp⟩ := ad
    refine run_convert_bytes_back w 22 9 5 ⟨g, o, sp⟩ cap l Tryz.underlying22 Tryz.underlying5 Tryz.underlying9 (fun j hj => ?_)
    obtain ⟨b, o', e, -, hcell⟩ := hc j hj
    simp only [Option.some.injEq, Addr.mk.injEq] at e
    obtain ⟨rfl, rfl, rfl⟩ := e
    rw [Addr.add_lit]
    exact hcell
  | none, hc =>
    match l, hc with
    | [], _ =>
      rw [run_convert_bytes_string w 22 9 5 none _ cap Tryz.underlying22 Tryz.underlying5 Tryz.underlying9]
      rfl
    | x :: r, hc =>
      obtain ⟨b, o', e, -⟩ := hc 0 (by simp)
      cases e

set_option maxRecDepth 100000 in
set_option maxHeartbeats 800000 in
theorem takeP_yes (R : Nat) (w : World) (v : Value) (b : List UInt8) (a n : Nat) (h : Cu R w v b a) (hn : a + n ≤ b.length) :
    Calls Tryz.prog 125 #[.pointer (some ⟨R, 0, none⟩), .int .i64 n] w fun e w' => (∃ v', e = .returned v' ∧ BytesAt w' v' ((b.drop a).take n)) ∧ Cu R w' v b (a + n) ∧ But R w w' := by
  have hsm := h.small
  have k0 := h.cells.cell (i := 0) (by omega)
  simp only [row3] at k0
  have HADD := hide (addT_yes 98 w R a n b.length v h.cells hn hsm)
  have H := hide h
  clear h
  go_enter Tryz.func125, Tryz.ntmps125
  go_wp2_with fail
  refine (unhide HADD).mono ?_
  rintro e w1 ⟨rfl, hr1, hb1⟩
  have hcu := (unhide H).but hb1 hr1 (by omega)
  have m0 := hr1.cell (i := 0) (by omega); have m2 := hr1.cell (i := 2) (by omega)
  simp only [row3] at m0 m2
  have HCU := hide hcu; have HB1 := hide hb1
  obtain ⟨av, capv, rfl⟩ := hcu.row.slice
  have hcap : b.length ≤ capv := by
    rcases hcu.row.2 with ⟨hv, h0⟩ | ⟨g, cap', cur, hv, _, _, hle, _⟩
    · omega
    · simp only [Value.slice.injEq] at hv; omega
  clear hcu hr1 hb1 HADD k0
  have hby := cut_bytes (w := w1) (unhide HCU).row a n hn hcap hsm
  have hi1 : (a : Int) ≤ (a : Int) + n := by omega
  have hi2 : (a : Int) + n ≤ capv := by omega
  have hi3 : ((a : Int) + n - a).toNat = n := by omega
  rw [Int.natCast_add] at m0
  by_cases hca : capv = a
  · subst hca
    have hn0 : n = 0 := by omega
    subst hn0
    rw [if_pos rfl, Nat.add_sub_cancel_left, Nat.sub_self] at hby
    have HBY := hide hby
    clear hby
    go_wp2_with fail
    go_region
    all_goals
      go_wp2_with fail
      go_ret
      exact ⟨⟨_, rfl, (unhide HBY).on (Below.refl _ w1).drew⟩, (unhide HCU).on (Below.refl _ w1).drew, (unhide HB1).trans (But.of_below (Below.refl _ w1).drew)⟩
  · rw [if_neg hca] at hby
    have HBY := hide hby
    clear hby
    go_wp2_with fail
    go_region
    all_goals
      go_wp2_with fail
      go_ret
      exact ⟨⟨_, rfl, (unhide HBY).on (Below.refl _ w1).drew⟩, (unhide HCU).on (Below.refl _ w1).drew, (unhide HB1).trans (But.of_below (Below.refl _ w1).drew)⟩

set_option maxRecDepth 100000 in
set_option maxHeartbeats 800000 in
theorem takeP_no (R : Nat) (w : World) (v : Value) (b : List UInt8) (a n : Nat) (h : Cu R w v b a) (hn : b.length < a + n) (hs : n ≤ 1048576) :
    Calls Tryz.prog 125 #[.pointer (some ⟨R, 0, none⟩), .int .i64 n] w fun e w' => e = fltE ∧ But R w w' := by
  have k0 := h.cells.cell (i := 0) (by omega)
  simp only [row3] at k0
  have HADD := hide (addT_no 98 w R a n b.length v h.cells hn (by have := h.small; have := h.le; omega))
  clear h
  go_enter Tryz.func125, Tryz.ntmps125
  go_wp2_with fail
  refine (unhide HADD).mono ?_
  rintro e w1 ⟨rfl, hb1⟩
  exact ⟨rfl, rfl, hb1⟩

set_option maxRecDepth 100000 in
set_option maxHeartbeats 800000 in
theorem nextP_yes (R : Nat) (w : World) (v : Value) (b : List UInt8) (a : Nat) (h : Cu R w v b a) (hn : a < b.length) :
    Calls Tryz.prog 96 #[.pointer (some ⟨R, 0, none⟩)] w fun e w' => e = .returned (.int .i64 (b[a].toNat : Int)) ∧ Cu R w' v b (a + 1) ∧ But R w w' := by
  have HT := hide (takeP_yes R w v b a 1 h (by omega))
  have hx : (b.drop a).take 1 = [b[a]] := by rw [List.drop_eq_getElem_cons hn]; rfl
  rw [hx] at HT
  clear h
  have hlt := b[a].toNat_lt
  generalize b[a] = x at *
  go_enter Tryz.func96, Tryz.ntmps96
  go_wp2_with fail
  refine (unhide HT).mono ?_
  rintro e w1 ⟨⟨v', rfl, a', cap', rfl, -, hc⟩, hcu, hb1⟩
  obtain ⟨g, o, rfl, -, e0⟩ := hc 0 (by simp)
  simp only [List.getElem_cons_zero, Nat.add_zero] at e0
  have HCU := hide hcu; have HB := hide hb1
  clear hcu hb1 hc HT
  go_wp2_with fail
  go_ret
  exact ⟨rfl, unhide HCU, unhide HB⟩

set_option maxRecDepth 100000 in
set_option maxHeartbeats 800000 in
theorem nextP_no (R : Nat) (w : World) (v : Value) (b : List UInt8) (a : Nat) (h : Cu R w v b a) (hn : b.length ≤ a) :
    Calls Tryz.prog 96 #[.pointer (some ⟨R, 0, none⟩)] w fun e w' => e = fltE ∧ But R w w' := by
  have HT := hide (takeP_no R w v b a 1 h (by omega) (by decide))
  clear h
  go_enter Tryz.func96, Tryz.ntmps96
  go_wp2_with fail
  refine (unhide HT).mono ?_
  rintro e w1 ⟨rfl, hb1⟩
  exact ⟨rfl, rfl, hb1⟩

/-- What is left. -/
theorem ptx_yes {b : List UInt8} {a : Nat} {s : ByteArray} {rest : List UInt8} (h : ptx (b.drop a) = some (s, rest)) : ∃ ha : a < b.length, a + 1 + b[a].toNat ≤ b.length ∧ s = ⟨((b.drop (a + 1)).take b[a].toNat).toArray⟩ ∧ rest = b.drop (a + 1 + b[a].toNat) := by
  by_cases ha : a < b.length
  · rw [List.drop_eq_getElem_cons ha, ptx] at h
    split at h
    · rename_i hn
      simp only [Option.some.injEq, Prod.mk.injEq] at h
      refine ⟨ha, by simp at hn; omega, h.1.symm, ?_⟩
      rw [← h.2, List.drop_drop]
    · cases h
  · rw [List.drop_eq_nil_of_le (by omega), ptx] at h
    cases h

set_option maxRecDepth 100000 in
set_option maxHeartbeats 800000 in
theorem textP_yes (R : Nat) (w : World) (v : Value) (b : List UInt8) (a : Nat) (s : ByteArray) (rest : List UInt8) (h : Cu R w v b a) (hp : ptx (b.drop a) = some (s, rest)) :
    Calls Tryz.prog 94 #[.pointer (some ⟨R, 0, none⟩)] w fun e w' => e = .returned (.string s) ∧ (∃ a', a < a' ∧ Cu R w' v b a' ∧ rest = b.drop a') ∧ But R w w' := by
  obtain ⟨ha, hle, hs, hr⟩ := ptx_yes hp
  have HN := hide (nextP_yes R w v b a h ha)
  have HTK := hide (fun (W : World) (hW : Cu R W v b (a + 1)) => takeP_yes R W v b (a + 1) b[a].toNat hW (by omega))
  rw [hs]
  clear h hp
  generalize b[a].toNat = n at *
  have HR := hide hr
  clear hr hs
  generalize (b.drop (a + 1)).take n = L at *
  go_enter Tryz.func94, Tryz.ntmps94
  go_wp2_with fail
  refine (unhide HN).mono ?_
  rintro e w1 ⟨rfl, hcu1, hb1⟩
  have HT1 := hide (unhide HTK w1 hcu1)
  have HB1 := hide hb1
  clear hcu1 hb1 HTK HN
  go_wp2_with fail
  refine (unhide HT1).mono ?_
  rintro e w2 ⟨⟨v', rfl, hby⟩, hcu2, hb2⟩
  have hst := hby.str
  have HB2 := hide ((unhide HB1).trans hb2); have HCU := hide hcu2
  obtain ⟨a', cap', rfl, -⟩ := hby
  clear hcu2 hb2 HT1 HB1
  go_wp2_with fail
  go_ret
  exact ⟨rfl, ⟨a + 1 + n, by omega, unhide HCU, unhide HR⟩, unhide HB2⟩

set_option maxRecDepth 100000 in
set_option maxHeartbeats 800000 in
theorem textP_no (R : Nat) (w : World) (v : Value) (b : List UInt8) (a : Nat) (h : Cu R w v b a) (hp : ptx (b.drop a) = none) :
    Calls Tryz.prog 94 #[.pointer (some ⟨R, 0, none⟩)] w fun e w' => e = fltE ∧ But R w w' := by
  by_cases ha : a < b.length
  · have hgt : b.length < a + 1 + b[a].toNat := by
      rw [List.drop_eq_getElem_cons ha, ptx] at hp
      split at hp
      · cases hp
      · rename_i hn
        simp at hn
        omega
    have hlt := b[a].toNat_lt
    have HN := hide (nextP_yes R w v b a h ha)
    have HTK := hide (fun (W : World) (hW : Cu R W v b (a + 1)) => takeP_no R W v b (a + 1) b[a].toNat hW hgt (by omega))
    clear h hp
    generalize b[a].toNat = n at *
    go_enter Tryz.func94, Tryz.ntmps94
    go_wp2_with fail
    refine (unhide HN).mono ?_
    rintro e w1 ⟨rfl, hcu1, hb1⟩
    have HT1 := hide (unhide HTK w1 hcu1)
    have HB1 := hide hb1
    clear hcu1 hb1 HTK HN
    go_wp2_with fail
    refine (unhide HT1).mono ?_
    rintro e w2 ⟨rfl, hb2⟩
    exact ⟨rfl, rfl, (unhide HB1).trans hb2⟩
  · have HN := hide (nextP_no R w v b a h (by omega))
    clear h hp
    go_enter Tryz.func94, Tryz.ntmps94
    go_wp2_with fail
    refine (unhide HN).mono ?_
    rintro e w1 ⟨rfl, hb1⟩
    exact ⟨rfl, rfl, hb1⟩
end Go.Proofs.YtbkagahmiibclaaGreatDoor
