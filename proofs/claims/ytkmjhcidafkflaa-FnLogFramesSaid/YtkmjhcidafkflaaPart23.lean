/- The walks of the program's cursor over bytes: take, takenNumber. No conditions but that there is as much as is taken. -/
import Derived.Test.YtkmjhcidafkflaaPart15
import Derived.Test.YtkmjhcidafkflaaPart18
import Derived.Test.YtkmjhcidafkflaaPart22
import Derived.Handy
namespace Go.Proofs.Ytkmjhcidafkflaa
open Go Go.RowKit

/-- What stands but for one block. -/
structure ButC (R : Nat) (w w' : World) : Prop where
  os : w'.os = w.os
  tape : w'.tape = w.tape
  output : w'.output = w.output
  size : w.heap.size ≤ w'.heap.size
  block : ∀ b, b < w.heap.size → b ≠ R → w'.heap[b]? = w.heap[b]?
theorem ButC.refl (R : Nat) (w : World) : ButC R w w := ⟨rfl, rfl, rfl, Nat.le_refl _, fun _ _ _ => rfl⟩
theorem ButC.trans {R : Nat} {a b c : World} (h : ButC R a b) (k : ButC R b c) : ButC R a c :=
  ⟨k.os.trans h.os, k.tape.trans h.tape, k.output.trans h.output, Nat.le_trans h.size k.size, fun i hi h1 => (k.block i (Nat.lt_of_lt_of_le hi h.size) h1).trans (h.block i hi h1)⟩
theorem ButC.of_below {R : Nat} {a b : World} (h : Below a.heap.size a b) : ButC R a b := ⟨h.os, h.tape, h.output, h.size, fun i hi _ => h.block i hi⟩
theorem ButC.set (R : Nat) (w : World) (o : Nat) (v : Value) : ButC R w (w.setCell ⟨R, o, none⟩ v) :=
  ⟨rfl, rfl, rfl, by simp, fun b _ hne => Below.heap_setCell _ _ _ _ hne⟩
/-- A cursor lies in block R. -/
def Cur (w : World) (R : Nat) (s : ByteArray) : Prop := w.rowIs R 53 1 (fun _ => .string s)
theorem Cur.on {w w' : World} {R : Nat} {s : ByteArray} (h : Cur w R s) (hb : Below w.heap.size w w') : Cur w' R s := World.rowIs.of_block h (hb.block R (World.rowIs.lt h))
theorem Cur.alloc (w : World) (s : ByteArray) : Cur (w.alloc (.cells #[.string s] 53)) w.heap.size s :=
  World.rowIs_alloc w #[.string s] 53 _ (fun i hi => by
    have h0 : i = 0 := by simpa using hi
    subst h0
    rfl)

set_option maxHeartbeats 800000 in
theorem take_any (s : ByteArray) (n : Nat) (hn : n ≤ s.size) (R : Nat) (w : World) (hc : Cur w R s) :
    Calls Try.prog 43 #[.pointer (some ⟨R, 0, none⟩), .int .i64 n] w fun e w' => e = .returned (.string (s.extract 0 n)) ∧ Cur w' R (s.extract n s.size) ∧ ButC R w w' := by
  have c0 := World.rowIs.cell hc (i := 0) (by omega)
  have f0 := World.rowIs.frozen hc 0
  have HC := hide hc
  clear hc
  go_enter Try.func43, Try.ntmps43
  go_wp2_with fail
  go_ret
  refine ⟨rfl, ?_, ButC.set _ _ _ _⟩
  exact (World.rowIs.set (unhide HC) 0 _).congr fun i hi => by have : i = 0 := by omega
                                                               subst this; rfl
theorem bc_ext {s : ByteArray} {n j : Nat} (hn : n ≤ s.size) (hj : j < n) : (bc (s.extract 0 n).data.toList)[j]? = some (.int .u8 (byB s j)) := by
  unfold bc
  have h1 : j < s.data.size := Nat.lt_of_lt_of_le hj hn
  rw [List.getElem?_map]
  have h2 : (s.extract 0 n).data.toList[j]? = some s.data[j] := by
    rw [ByteArray.data_extract]
    simp [hj]
  rw [h2, byB_at (show j < s.size from h1)]
  rfl
theorem or_nat (a b : Nat) (ha : a < 4611686018427387904) (hb : b < 4611686018427387904) : bits .or .i64 (a : Int) (b : Int) = ((a ||| b : Nat) : Int) := by
  have hx : a ||| b < 2 ^ 62 := Nat.or_lt_two_pow (by omega) (by omega)
  have h1 : (BitVec.ofInt 64 (a : Int)).toNat = a := by
    rw [BitVec.ofInt_natCast, BitVec.toNat_ofNat]; exact Nat.mod_eq_of_lt (by omega)
  have h2 : (BitVec.ofInt 64 (b : Int)).toNat = b := by
    rw [BitVec.ofInt_natCast, BitVec.toNat_ofNat]; exact Nat.mod_eq_of_lt (by omega)
  show IntKind.i64.wrap ((BitVec.ofInt 64 (a : Int) ||| BitVec.ofInt 64 (b : Int)).toNat : Int) = _
  rw [BitVec.toNat_or, h1, h2, IntKind.wrap_i64]
  omega
theorem or_small {a b : Int} (ha0 : 0 ≤ a) (ha : a < 1099511627776) (hb0 : 0 ≤ b) (hb : b < 256) : bits .or .i64 (a * 256) b = a * 256 + b := by
  obtain ⟨x, rfl⟩ : ∃ x : Nat, a = x := ⟨a.toNat, by omega⟩
  obtain ⟨y, rfl⟩ : ∃ y : Nat, b = y := ⟨b.toNat, by omega⟩
  have := or_nat (x * 256) y (by omega) (by omega)
  rw [show ((x * 256 : Nat) : Int) = (x : Int) * 256 by omega] at this
  rw [this, Nat.mul_comm, show 256 = 2 ^ 8 from rfl, ← Nat.two_pow_add_eq_or_of_lt (i := 8) (by omega) x]
  omega
theorem bytes2c (w : World) : Calls Try.prog 73 #[.agg #[]] w fun e w' => e = .returned (.int .i64 2) ∧ Below w.heap.size w w' := by
  go_enter Try.func73, Try.ntmps73
  go_wp2_with fail
  go_ret
  exact ⟨rfl, (Below.refl _ _).alloc (Nat.le_refl _) _⟩
set_option maxRecDepth 100000 in
set_option maxHeartbeats 1600000 in
theorem taken2_any (s : ByteArray) (hn : 2 ≤ s.size) (R : Nat) (w : World) (hc : Cur w R s) :
    Calls Try.prog 40 #[.pointer (some ⟨R, 0, none⟩)] w fun e w' => e = .returned (.int .i64 (szB s 0)) ∧ Cur w' R (s.extract 2 s.size) ∧ ButC R w w' := by
  have HC := hide hc
  have hR := World.rowIs.lt hc
  clear hc
  go_enter Try.func40, Try.ntmps40
  go_wp2_with fail
  refine (bytes2c _).mono ?_
  rintro e w1 ⟨rfl, hb1⟩
  have hb01 := ((Below.refl _ w).alloc (Nat.le_refl _) _).trans (hb1.mono (by simp))
  have HT := hide (take_any s 2 hn R w1 (Cur.on (unhide HC) hb01))
  have HB1 := hide hb01
  clear hb1 hb01
  go_wp2_with fail
  refine (unhide HT).mono ?_
  rintro e w2 ⟨rfl, hc2, hb2⟩
  have HC2 := hide hc2; have HB2 := hide ((ButC.of_below (R := R) (unhide HB1)).trans hb2)
  have hR2 := World.rowIs.lt hc2
  clear hc2 hb2 HT
  obtain ⟨cap, W, hcv, hg, hlt, hce⟩ := bytes_of w2 (s.extract 0 2)
  have hz2 : (s.extract 0 2).size = 2 := by rw [ByteArray.size_extract]; omega
  rw [hz2] at hcv
  have y0 : W.cell? ⟨w2.heap.size, 0, none⟩ = some (.int .u8 (byB s 0)) := by
    have := hce 0 (.int .u8 (byB s 0)) (bc_ext hn (by omega))
    rwa [Addr.add_lit] at this
  have b0 := byB_lt s 0
  have y1 : W.cell? ⟨w2.heap.size, 1, none⟩ = some (.int .u8 (byB s 1)) := by
    have := hce 1 (.int .u8 (byB s 1)) (bc_ext hn (by omega))
    rwa [Addr.add_lit] at this
  have b1 := byB_lt s 1
  have HSZ := hide (show szB s 0 = byB s 0 * 256 + byB s 1 from rfl)
  have HCW : Hid (Cur W R (s.extract 2 s.size)) := World.rowIs.of_block (unhide HC2) (hg.block R hR2 (by simp))
  have HBW := hide ((unhide HB2).trans (⟨hg.os, hg.tape, hg.output, hg.size, fun b hb _ => hg.block b hb (by simp)⟩ : ButC R w2 W))
  clear hg hce hz2
  generalize byB s 0 = x0 at *
  generalize byB s 1 = x1 at *
  go_wp2_with fail
  go_loopw [4, 14] (fun q i wr => wr = W ∧ ((q = .int .i64 (0) ∧ i = .int .i64 0) ∨ (q = .int .i64 (x0) ∧ i = .int .i64 1) ∨ (q = .int .i64 (x0 * 256 + x1) ∧ i = .int .i64 2))) (fun _ i _ => (2 - intOf i).toNat)
  case atStart => exact ⟨rfl, Or.inl ⟨rfl, rfl⟩⟩
  case round =>
    obtain ⟨rfl, hrel⟩ := hrel
    rcases hrel with ⟨rfl, rfl⟩ | ⟨rfl, rfl⟩ | ⟨rfl, rfl⟩
    · have ho : bits BinOp.or IntKind.i64 0 x0 = x0 := by have := or_small (a := 0) (b := x0) (by omega) (by omega) (by omega) (by omega); simpa using this
      go_wp2_with fail
      refine ⟨⟨trivial, Or.inr (Or.inl ⟨by first | rfl | (rw [ho]), rfl⟩)⟩, by simp [intOf]⟩
    · have ho : bits BinOp.or IntKind.i64 (x0 * 256) x1 = x0 * 256 + x1 := or_small (by omega) (by omega) (by omega) (by omega)
      go_wp2_with fail
      refine ⟨⟨trivial, Or.inr (Or.inr ⟨by first | rfl | (rw [ho]), rfl⟩)⟩, by simp [intOf]⟩
    · go_wp2_with fail
      go_ret
      exact ⟨by rw [unhide HSZ]; rfl, unhide HCW, unhide HBW⟩
theorem bytes3c (w : World) : Calls Try.prog 74 #[.agg #[]] w fun e w' => e = .returned (.int .i64 3) ∧ Below w.heap.size w w' := by
  go_enter Try.func74, Try.ntmps74
  go_wp2_with fail
  go_ret
  exact ⟨rfl, (Below.refl _ _).alloc (Nat.le_refl _) _⟩
def pB3 (s : ByteArray) (i : Nat) : Int := (byB s i * 256 + byB s (i + 1)) * 256 + byB s (i + 2)
set_option maxRecDepth 100000 in
set_option maxHeartbeats 1600000 in
theorem taken3_any (s : ByteArray) (hn : 3 ≤ s.size) (R : Nat) (w : World) (hc : Cur w R s) :
    Calls Try.prog 41 #[.pointer (some ⟨R, 0, none⟩)] w fun e w' => e = .returned (.int .i64 (pB3 s 0)) ∧ Cur w' R (s.extract 3 s.size) ∧ ButC R w w' := by
  have HC := hide hc
  have hR := World.rowIs.lt hc
  clear hc
  go_enter Try.func41, Try.ntmps41
  go_wp2_with fail
  refine (bytes3c _).mono ?_
  rintro e w1 ⟨rfl, hb1⟩
  have hb01 := ((Below.refl _ w).alloc (Nat.le_refl _) _).trans (hb1.mono (by simp))
  have HT := hide (take_any s 3 hn R w1 (Cur.on (unhide HC) hb01))
  have HB1 := hide hb01
  clear hb1 hb01
  go_wp2_with fail
  refine (unhide HT).mono ?_
  rintro e w2 ⟨rfl, hc2, hb2⟩
  have HC2 := hide hc2; have HB2 := hide ((ButC.of_below (R := R) (unhide HB1)).trans hb2)
  have hR2 := World.rowIs.lt hc2
  clear hc2 hb2 HT
  obtain ⟨cap, W, hcv, hg, hlt, hce⟩ := bytes_of w2 (s.extract 0 3)
  have hz2 : (s.extract 0 3).size = 3 := by rw [ByteArray.size_extract]; omega
  rw [hz2] at hcv
  have y0 : W.cell? ⟨w2.heap.size, 0, none⟩ = some (.int .u8 (byB s 0)) := by
    have := hce 0 (.int .u8 (byB s 0)) (bc_ext hn (by omega))
    rwa [Addr.add_lit] at this
  have b0 := byB_lt s 0
  have y1 : W.cell? ⟨w2.heap.size, 1, none⟩ = some (.int .u8 (byB s 1)) := by
    have := hce 1 (.int .u8 (byB s 1)) (bc_ext hn (by omega))
    rwa [Addr.add_lit] at this
  have b1 := byB_lt s 1
  have y2 : W.cell? ⟨w2.heap.size, 2, none⟩ = some (.int .u8 (byB s 2)) := by
    have := hce 2 (.int .u8 (byB s 2)) (bc_ext hn (by omega))
    rwa [Addr.add_lit] at this
  have b2 := byB_lt s 2
  have HSZ := hide (show pB3 s 0 = (byB s 0 * 256 + byB s 1) * 256 + byB s 2 from rfl)
  have HCW : Hid (Cur W R (s.extract 3 s.size)) := World.rowIs.of_block (unhide HC2) (hg.block R hR2 (by simp))
  have HBW := hide ((unhide HB2).trans (⟨hg.os, hg.tape, hg.output, hg.size, fun b hb _ => hg.block b hb (by simp)⟩ : ButC R w2 W))
  clear hg hce hz2
  generalize byB s 0 = x0 at *
  generalize byB s 1 = x1 at *
  generalize byB s 2 = x2 at *
  go_wp2_with fail
  go_loopw [4, 14] (fun q i wr => wr = W ∧ ((q = .int .i64 (0) ∧ i = .int .i64 0) ∨ (q = .int .i64 (x0) ∧ i = .int .i64 1) ∨ (q = .int .i64 (x0 * 256 + x1) ∧ i = .int .i64 2) ∨ (q = .int .i64 ((x0 * 256 + x1) * 256 + x2) ∧ i = .int .i64 3))) (fun _ i _ => (3 - intOf i).toNat)
  case atStart => exact ⟨rfl, Or.inl ⟨rfl, rfl⟩⟩
  case round =>
    obtain ⟨rfl, hrel⟩ := hrel
    rcases hrel with ⟨rfl, rfl⟩ | ⟨rfl, rfl⟩ | ⟨rfl, rfl⟩ | ⟨rfl, rfl⟩
    · have ho : bits BinOp.or IntKind.i64 0 x0 = x0 := by have := or_small (a := 0) (b := x0) (by omega) (by omega) (by omega) (by omega); simpa using this
      go_wp2_with fail
      refine ⟨⟨trivial, Or.inr (Or.inl ⟨by first | rfl | (rw [ho]), rfl⟩)⟩, by simp [intOf]⟩
    · have ho : bits BinOp.or IntKind.i64 (x0 * 256) x1 = x0 * 256 + x1 := or_small (by omega) (by omega) (by omega) (by omega)
      go_wp2_with fail
      refine ⟨⟨trivial, Or.inr (Or.inr (Or.inl ⟨by first | rfl | (rw [ho]), rfl⟩))⟩, by simp [intOf]⟩
    · have ho : bits BinOp.or IntKind.i64 ((x0 * 256 + x1) * 256) x2 = (x0 * 256 + x1) * 256 + x2 := or_small (by omega) (by omega) (by omega) (by omega)
      go_wp2_with fail
      refine ⟨⟨trivial, Or.inr (Or.inr (Or.inr ⟨by first | rfl | (rw [ho]), rfl⟩))⟩, by simp [intOf]⟩
    · go_wp2_with fail
      go_ret
      exact ⟨by rw [unhide HSZ]; rfl, unhide HCW, unhide HBW⟩
end Go.Proofs.Ytkmjhcidafkflaa
