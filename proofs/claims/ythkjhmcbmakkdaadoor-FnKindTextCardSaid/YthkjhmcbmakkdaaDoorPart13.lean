/- The walks of the specification's l6Many, l5Bend, DrawKindWrite, DrawKindRead: whatever bytes come in, some schema, some text of at most 10^6 bytes. No conditions. -/
import Derived.Test.YthkjhmcbmakkdaaDoorPart11
import Derived.Test.YthkjhmcbmakkdaaDoorPart12
namespace Go.Proofs.YthkjhmcbmakkdaaDoor
open Go Go.RowKit

/-- A short list of texts in a new row. -/
theorem row_of (w : World) (ss : List ByteArray) : (w.alloc (.cells (ss.map Value.string).toArray 9)).rowIs w.heap.size 9 ss.length (fun i => .string (ss.getD i ByteArray.empty)) := by
  have h := World.rowIs_alloc w (ss.map Value.string).toArray 9 (fun i => .string (ss.getD i ByteArray.empty)) (fun i hi => by
    have hi' : i < ss.length := by simpa using hi
    simp [hi'])
  simpa using h

theorem half_even (m X : Nat) (h : m % 2 = 0) : m / 2 * (X + X) = m * X := by
  obtain ⟨q, rfl⟩ : ∃ q, m = 2 * q := ⟨m / 2, by omega⟩
  rw [show 2 * q / 2 = q from by omega, Nat.mul_add, Nat.mul_assoc]; omega
theorem half_odd (m X : Nat) (h : m % 2 = 1) : m / 2 * (X + X) + X = m * X := by
  obtain ⟨q, rfl⟩ : ∃ q, m = 2 * q + 1 := ⟨m / 2, by omega⟩
  rw [show (2 * q + 1) / 2 = q from by omega, Nat.mul_add, Nat.add_mul, Nat.mul_assoc, Nat.one_mul]; omega

set_option maxRecDepth 100000 in
set_option maxHeartbeats 800000 in
theorem l6Many_any (w : World) (s : ByteArray) (n : Nat) (hs : s.size ≤ 2) (hn : n ≤ 1000) :
    Calls Tryd.prog 33 #[.string s, .int .i64 (n : Int)] w fun e w' => ∃ out : ByteArray, e = .returned (.string out) ∧ out.size ≤ 2000 ∧ w' = w := by
  have h0 : n * s.size ≤ 2000 := Nat.le_trans (Nat.mul_le_mul hn hs) (by decide)
  go_enter Tryd.func33, Tryd.ntmps33
  go_wp2_with fail
  go_loopw [0, 1, 5] (fun s0 nn oo wr => ∃ (m : Nat) (x out : ByteArray), s0 = .string x ∧ nn = .int .i64 (m : Int) ∧ oo = .string out ∧ m ≤ 1000 ∧ out.size + m * x.size ≤ 2000 ∧ x.size ≤ 4000 ∧ Hid (wr = w)) (fun _ nn _ _ => (intOf nn).toNat)
  case atStart => exact ⟨n, s, ⟨#[]⟩, rfl, rfl, rfl, hn, by show 0 + _ ≤ _; omega, by omega, rfl⟩
  case round =>
    obtain ⟨m, x, out, rfl, rfl, rfl, hm, hmx, hx, HW⟩ := hrel
    by_cases hm0 : m = 0
    · have hq : decide ((0 : Int) < (m : Int)) = false := by simp; omega
      have hqn : decide (0 < m) = false := by simp; omega
      clear hm0
      go_wp2_with fail
      go_ret
      exact ⟨out, rfl, by omega, HW.out⟩
    · have hq : decide ((0 : Int) < (m : Int)) = true := by simp; omega
      have hqn : decide (0 < m) = true := by simp; omega
      have hxm : x.size ≤ m * x.size := Nat.le_mul_of_pos_left _ (by omega)
      have hl1 : ¬ (9223372036854775807 < x.size + x.size) := by omega
      have hl2 : ¬ (9223372036854775807 < out.size + x.size) := by omega
      have hsx : (x ++ x).size = x.size + x.size := ByteArray.size_append
      have hso : (out ++ x).size = out.size + x.size := ByteArray.size_append
      rcases (show (m : Int) % 2 = 0 ∨ (m : Int) % 2 = 1 by omega) with he | he
      · have hh := half_even m x.size (by omega)
        go_wp2_with fail
        go_roundw
        case rel => exact ⟨m / 2, x ++ x, out, rfl, by go_num, rfl, by omega, by rw [hsx]; omega, by rw [hsx]; omega, HW⟩
        case measure => simp [intOf]; omega
      · have hh := half_odd m x.size (by omega)
        go_wp2_with fail
        go_roundw
        case rel => exact ⟨m / 2, x ++ x, out ++ x, rfl, by go_num, rfl, by omega, by rw [hsx, hso]; omega, by rw [hsx]; omega, HW⟩
        case measure => simp [intOf]; omega
/-- What bending a text comes to. -/
def BdEnd (R : Nat) (w w' : World) (v : Value) (b : List UInt8) (p : Nat) (e : Ending) : Prop :=
  ∃ (out : ByteArray) (p' : Nat), e = .returned (.string out) ∧ out.size ≤ 300000 ∧ p' ≤ p + 5 ∧ Hid (DR R w' v b p') ∧ Hid (But R w w')

theorem of_row (R : Nat) (w : World) (v : Value) (b : List UInt8) (p : Nat) (h : DR R w v b p) (hp : p ≤ 10000000) (ss : List ByteArray) (h1 : 1 ≤ ss.length) (h2 : ss.length ≤ 100) (hs : ∀ i, i < ss.length → (ss.getD i ByteArray.empty).size ≤ 2000) :
    Calls Tryd.prog 32 #[.pointer (some ⟨R, 0, none⟩), .slice (some ⟨w.heap.size, 0, none⟩) ss.length ss.length] (w.alloc (.cells (ss.map Value.string).toArray 9)) fun e w' => ∃ x : ByteArray, e = .returned (.string x) ∧ x.size ≤ 2000 ∧ Hid (DR R w' v b (p + 1)) ∧ Hid (But R w w') := by
  refine (of_any R _ v b p (h.on ((Below.refl _ _).alloc (Nat.le_refl _) _)) (by omega) w.heap.size ss.length (fun i => ss.getD i ByteArray.empty) (by omega) (row_of w ss) h.cells.lt).mono ?_
  rintro e w' ⟨r, rfl, hr, hd, hb⟩
  exact ⟨_, rfl, hs r hr, hd, (But.alloc R w _).trans hb.out⟩

set_option maxRecDepth 100000 in
set_option maxHeartbeats 3200000 in
theorem l5Bend_any (R : Nat) (w : World) (v : Value) (b : List UInt8) (p : Nat) (s : ByteArray) (h : DR R w v b p) (hp : p ≤ 1000000) (hs : s.size ≤ 100000) :
    Calls Tryd.prog 34 #[.pointer (some ⟨R, 0, none⟩), .string s] w fun e w' => BdEnd R w w' v b p e := by
  by_cases h0 : s.size = 0
  · have hz : ((s.size : Int) == 0) = true := by simp [h0]
    have HOF := hide (of_row R w v b p h (by omega) [⟨#[32]⟩, ⟨#[48]⟩, ⟨#[123, 125]⟩] (by simp) (by simp) (fun i hi => by rcases (show i = 0 ∨ i = 1 ∨ i = 2 by simp at hi; omega) with rfl | rfl | rfl <;> decide))
    clear h h0
    go_enter Tryd.func34, Tryd.ntmps34
    go_wp2_with fail
    refine (unhide HOF).mono ?_
    rintro e w1 ⟨x, rfl, hx, HD, HB⟩
    go_wp2_with fail
    go_ret
    exact ⟨x, p + 1, rfl, by omega, by omega, HD, HB⟩
  · have hz : ((s.size : Int) == 0) = false := beq_eq_false_iff_ne.2 (by omega)
    have HPK := hide (pick_any R w v b p s.size h (by omega) (by omega))
    clear h
    go_enter Tryd.func34, Tryd.ntmps34
    go_wp2_with fail
    refine (unhide HPK).mono ?_
    rintro e w1 ⟨i, rfl, hi, HD1, HB1⟩
    have HP2 := hide (pick_any R w1 v b (p + 1) 6 HD1.out (by omega) (by omega))
    clear HPK HD1
    go_wp2_with fail
    refine (unhide HP2).mono ?_
    rintro e w2 ⟨r, rfl, hr, HD2, HB2⟩
    have HB := hide (HB1.out.trans HB2.out)
    clear HP2 HB1 HB2
    have hi1 : (i : Int) < (s.size : Int) := by omega
    have hi2 : (i : Int) ≤ (s.size : Int) := by omega
    have hi3 : (i : Int) + 1 ≤ (s.size : Int) := by omega
    have hi4 : (0 : Int) ≤ (i : Int) + 1 := by omega
    have hwi : IntKind.i64.wrap ((i : Int) + 1) = (i : Int) + 1 := by rw [IntKind.wrap_i64]; omega
    have hx0 : (s.extract 0 i).size = i := by rw [ByteArray.size_extract]; omega
    have hx1 : (s.extract (i + 1) s.size).size = s.size - (i + 1) := by rw [ByteArray.size_extract]; omega
    have hx2 : (s.extract i s.size).size = s.size - i := by rw [ByteArray.size_extract]; omega
    rcases (show r = 0 ∨ r = 1 ∨ r = 2 ∨ r = 3 ∨ r = 4 ∨ r = 5 by omega) with rfl | rfl | rfl | rfl | rfl | rfl
    · go_wp2_with fail
      go_ret
      exact ⟨_, p + 2, rfl, by omega, by omega, HD2, HB⟩
    · go_wp2_with fail
      go_quiet (fail)
      go_wp2_with fail
      go_ret
      have hbn : Below w2.heap.size w2 (w2.drewN nq) := ⟨rfl, rfl, rfl, Nat.le_refl _, fun _ _ => rfl⟩
      exact ⟨_, p + 2, rfl, by rw [ByteArray.size_append]; omega, by omega, HD2.out.on hbn, (unhide HB).trans (But.of_below hbn)⟩
    · have HOF := hide (of_row R w2.drew v b (p + 1 + 1) (HD2.out.on (Below.refl _ w2).drew) (by omega) [⟨#[32]⟩, ⟨#[44]⟩, ⟨#[48]⟩, ⟨#[45]⟩, ⟨#[34]⟩, ⟨#[126]⟩, ⟨#[63]⟩, ⟨#[93]⟩, ⟨#[125]⟩, ⟨#[97]⟩] (by simp) (by simp) (fun i hi => by rcases (show i = 0 ∨ i = 1 ∨ i = 2 ∨ i = 3 ∨ i = 4 ∨ i = 5 ∨ i = 6 ∨ i = 7 ∨ i = 8 ∨ i = 9 by simp at hi; omega) with rfl | rfl | rfl | rfl | rfl | rfl | rfl | rfl | rfl | rfl <;> decide))
      go_wp2_with fail
      go_region_law (rw [if_pos (by first | rfl | simp [Region.wanted])]; go_simp; refine (unhide HOF).mono ?_; rintro e w3 ⟨x, rfl, hx, HD3, HB3⟩; have hsz : (s.extract 0 i ++ x).size = i + x.size := (by rw [ByteArray.size_append, hx0]); have hl1 : ¬ (9223372036854775807 < i + x.size) := (by omega); have hl2 : ¬ (9223372036854775807 < i + x.size + (s.size - i)) := (by omega); have hl3 : ¬ (9223372036854775807 < i + x.size + (s.size - (i + 1))) := (by omega))
      all_goals
        go_wp2_with fail
        go_ret
        exact ⟨_, p + 3, rfl, by rw [ByteArray.size_append, ByteArray.size_append]; omega, by omega, HD3, (unhide HB).trans ((But.of_below (Below.refl _ w2).drew).trans HB3.out)⟩
    · have HOF := hide (of_row R w2.drew v b (p + 1 + 1) (HD2.out.on (Below.refl _ w2).drew) (by omega) [⟨#[32]⟩, ⟨#[44]⟩, ⟨#[48]⟩, ⟨#[45]⟩, ⟨#[34]⟩, ⟨#[126]⟩, ⟨#[63]⟩, ⟨#[91]⟩, ⟨#[123]⟩, ⟨#[97]⟩, ⟨#[57]⟩] (by simp) (by simp) (fun i hi => by rcases (show i = 0 ∨ i = 1 ∨ i = 2 ∨ i = 3 ∨ i = 4 ∨ i = 5 ∨ i = 6 ∨ i = 7 ∨ i = 8 ∨ i = 9 ∨ i = 10 by simp at hi; omega) with rfl | rfl | rfl | rfl | rfl | rfl | rfl | rfl | rfl | rfl | rfl <;> decide))
      go_wp2_with fail
      go_region_law (rw [if_pos (by first | rfl | simp [Region.wanted])]; go_simp; refine (unhide HOF).mono ?_; rintro e w3 ⟨x, rfl, hx, HD3, HB3⟩; have hsz : (s.extract 0 i ++ x).size = i + x.size := (by rw [ByteArray.size_append, hx0]); have hl1 : ¬ (9223372036854775807 < i + x.size) := (by omega); have hl2 : ¬ (9223372036854775807 < i + x.size + (s.size - i)) := (by omega); have hl3 : ¬ (9223372036854775807 < i + x.size + (s.size - (i + 1))) := (by omega))
      all_goals
        go_wp2_with fail
        go_ret
        exact ⟨_, p + 3, rfl, by rw [ByteArray.size_append, ByteArray.size_append]; omega, by omega, HD3, (unhide HB).trans ((But.of_below (Below.refl _ w2).drew).trans HB3.out)⟩
    · have HOF := hide (of_row R w2 v b (p + 1 + 1) HD2.out (by omega) [⟨#[32]⟩, ⟨#[44]⟩, ⟨#[48]⟩, ⟨#[125]⟩, ⟨#[10]⟩] (by simp) (by simp) (fun i hi => by rcases (show i = 0 ∨ i = 1 ∨ i = 2 ∨ i = 3 ∨ i = 4 by simp at hi; omega) with rfl | rfl | rfl | rfl | rfl <;> decide))
      go_wp2_with fail
      refine (unhide HOF).mono ?_
      rintro e w3 ⟨x, rfl, hx, HD3, HB3⟩
      have hl : ¬ (9223372036854775807 < s.size + x.size) := by omega
      go_wp2_with fail
      go_ret
      exact ⟨_, p + 3, rfl, by rw [ByteArray.size_append]; omega, by omega, HD3, (unhide HB).trans HB3.out⟩
    · have HOF := hide (of_row R w2 v b (p + 1 + 1) HD2.out (by omega) [⟨#[32]⟩, ⟨#[43]⟩, ⟨#[48]⟩] (by simp) (by simp) (fun i hi => by rcases (show i = 0 ∨ i = 1 ∨ i = 2 by simp at hi; omega) with rfl | rfl | rfl <;> decide))
      go_wp2_with fail
      refine (unhide HOF).mono ?_
      rintro e w3 ⟨x, rfl, hx, HD3, HB3⟩
      have hl : ¬ (9223372036854775807 < x.size + s.size) := by omega
      go_wp2_with fail
      go_ret
      exact ⟨_, p + 3, rfl, by rw [ByteArray.size_append]; omega, by omega, HD3, (unhide HB).trans HB3.out⟩
/-- Whatever bytes come in, some schema is drawn. -/
theorem drawKindWrite_any (w : World) (a : Option Addr) (cap : Nat) (l : List UInt8) (hv : BytesAt w (.slice a l.length cap) l) (hcap : l.length ≤ cap) :
    Calls Tryd.prog 5 #[.slice a l.length cap] w fun e w' => ∃ (k : Kd) (c : C3), e = .returned (.agg #[c.c0, c.c1, c.c2]) ∧ KRep (fun x => w.heap.size ≤ x ∧ x < w'.heap.size) w' k c ∧ wKd k ≤ 10000 ∧ Below w.heap.size w w' := by
  have hb0 : ∀ o, Below w.heap.size w (w.alloc o) := fun o => (Below.refl _ _).alloc (Nat.le_refl _) o
  have HOP := hide (fun o => l6Open_any (w.alloc o) a cap l (hv.on (hb0 o)) hcap)
  have HX0 := hide (row3_alloc w (.int .i64 0) (.slice none 0 0) (.slice none 0 0) 26)
  have HB0 := hide hb0
  clear hv hb0
  go_enter Tryd.func5, Tryd.ntmps5
  go_wp2_with fail
  refine (unhide HOP _).mono ?_
  rintro e w1 ⟨v', b', rfl, hdr, hb1⟩
  have hb1' := hb1
  rw [World.size_alloc] at hdr hb1' ⊢
  have HC := hide (l5AnyKind_any (w.heap.size + 1) w1 v' b' 0 hdr (by omega))
  have hX1 := (unhide HX0).of_block (hb1.block _ (by simp))
  have HX1 := hide hX1
  have HB1 := hide ((unhide HB0 (.cells #[.int .i64 0, .slice none 0 0, .slice none 0 0] 26)).trans (hb1.mono (by simp)))
  have hs1 := hb1'.size
  have hR1 := hdr.cells.lt
  clear HOP HX0 hdr hb1 hb1' hX1 HB0
  go_wp2_with fail
  refine (unhide HC).mono ?_
  rintro e w2 ⟨k, ⟨c0, c1, c2⟩, p2, rfl, hr2, hd2, hp2, hw2, hb2⟩
  obtain ⟨g0, -, ⟨a3, cap3, g1, -⟩, a4, cap4, g2, -⟩ := hr2.open
  simp only at g0 g1 g2
  subst g0 g1 g2
  have hX2 := (unhide HX1).of_block (hb2.at (unhide HX1).lt (by omega))
  have p0 := hX2.cell (i := 0) (by omega); have p1 := hX2.cell (i := 1) (by omega); have p2' := hX2.cell (i := 2) (by omega); have pf := hX2.frozen
  simp only [row3] at p0 p1 p2'
  have hbW : Below w.heap.size w w2 := (unhide HB1).trans ⟨hb2.os, hb2.tape, hb2.output, hb2.size, fun i hi => hb2.at (by omega) (by omega)⟩
  have HBW := hide hbW; have HR2 := hide hr2
  clear hX2 hbW hr2 hb2 hd2 HX1 HB1 HC
  go_wp2_with fail
  refine bodyPost_ret (v := .agg #[.int .i64 k.sort, .slice a3 k.names.length cap3, .slice a4 k.kids.length cap4]) (by simp [results, Tryd.results5, go_sem, p0, p1, p2']) rfl ?_
  refine ⟨k, ⟨_, _, _⟩, rfl, KRep.carry (fun x hx => by repeat rw [Below.heap_setCell _ _ _ _ (by simp; omega)]) (fun x hx => ⟨by omega, by simp only [size_setCell]; exact hx.2⟩) k _ (unhide HR2), hw2, ?_⟩
  repeat refine Below.setCell ?_ (by simp) _
  exact unhide HBW

theorem kWr_size (k : Kd) : (kWr k).size ≤ 800 := by
  unfold kWr
  split
  · rename_i hq
    have h1 := kxT_len k (ok_of_qT hq).1
    have h2 := (ok_of_qT hq).2
    show (kxT k).toArray.size ≤ 800
    simp
    omega
  · simp

set_option maxRecDepth 100000 in
set_option maxHeartbeats 1600000 in
theorem drawKindRead_any (w : World) (a : Option Addr) (cap : Nat) (l : List UInt8) (hv : BytesAt w (.slice a l.length cap) l) (hcap : l.length ≤ cap) :
    Calls Tryd.prog 11 #[.slice a l.length cap] w fun e w' => ∃ s : ByteArray, e = .returned (.string s) ∧ s.size ≤ 1048576 ∧ Below w.heap.size w w' := by
  have HOP := hide (l6Open_any w a cap l hv hcap)
  clear hv
  go_enter Tryd.func11, Tryd.ntmps11
  go_wp2_with fail
  refine (unhide HOP).mono ?_
  rintro e w1 ⟨v', b', rfl, hdr, hb1⟩
  have HPK := hide (pick_any w.heap.size w1 v' b' 0 30 hdr (by omega) (by omega))
  have HB1 := hide hb1
  clear HOP hdr hb1
  go_wp2_with fail
  refine (unhide HPK).mono ?_
  rintro e w2 ⟨r, rfl, hr, HD2, HB2⟩
  have hbw : ∀ W, But w.heap.size w1 W → Below w.heap.size w W := fun W hW => (unhide HB1).trans ⟨hW.os, hW.tape, hW.output, hW.size, fun i hi => hW.at (by have := (unhide HB1).size; omega) (by omega)⟩
  have HBW := hide hbw
  clear HPK hbw
  by_cases h0 : r = 0
  · subst h0
    have HM := hide (l6Many_any w2 ⟨#[63]⟩ 801 (by decide) (by decide))
    go_wp2_with fail
    refine (unhide HM).mono ?_
    rintro e w3 ⟨out, rfl, hout, rfl⟩
    have HOF := hide (of_row w.heap.size w3 v' b' (0 + 1) HD2.out (by omega) [⟨#[]⟩, ⟨#[110, 117, 109, 98]⟩, ⟨#[91, 110, 117, 109]⟩, ⟨#[63]⟩, ⟨#[123, 97, 58, 110, 117, 109, 44, 125]⟩, ⟨#[123, 97, 125]⟩, ⟨#[123, 98, 58, 110, 117, 109, 44, 97, 58, 110, 117, 109, 125]⟩, ⟨#[91, 93]⟩, ⟨#[63, 63, 63, 63, 63, 63, 110, 117, 109]⟩, ⟨#[63, 63, 63, 63, 63, 110, 117, 109]⟩, ⟨#[32, 110, 117, 109]⟩, out] (by simp) (by simp) (fun i hi => by rcases (show i = 0 ∨ i = 1 ∨ i = 2 ∨ i = 3 ∨ i = 4 ∨ i = 5 ∨ i = 6 ∨ i = 7 ∨ i = 8 ∨ i = 9 ∨ i = 10 ∨ i = 11 by simp at hi; omega) with rfl | rfl | rfl | rfl | rfl | rfl | rfl | rfl | rfl | rfl | rfl | rfl <;> first | exact hout | exact Nat.le_of_ble_eq_true rfl))
    go_wp2_with fail
    refine (unhide HOF).mono ?_
    rintro e w4 ⟨x, rfl, hx, HD4, HB4⟩
    go_wp2_with fail
    go_ret
    exact ⟨x, rfl, by omega, unhide HBW w4 (HB2.out.trans HB4.out)⟩
  · have hz : ((r : Int) == 0) = false := beq_eq_false_iff_ne.2 (by omega)
    have HC := hide (l5AnyKind_any w.heap.size w2 v' b' (0 + 1) HD2.out (by omega))
    go_wp2_with fail
    refine (unhide HC).mono ?_
    rintro e w3 ⟨k, ⟨c0, c1, c2⟩, p3, rfl, hr3, hd3, hp3, hw3, hb3⟩
    have HKW := hide (specKindWrite_any k _ ⟨c0, c1, c2⟩ w3 (fun x hx => hx.2) hr3)
    have hsz := kWr_size k
    have HD3 := hide hd3; have HB3 := hide (HB2.out.trans hb3)
    generalize kWr k = s at *
    clear HC hr3 hd3 hb3 HD2 HB2
    go_wp2_with fail
    refine (unhide HKW).mono ?_
    rintro e w4 ⟨rfl, hb4⟩
    have hd4 := (unhide HD3).on hb4
    have HB4 := hide ((unhide HB3).trans (But.of_below hb4))
    have HP2 := hide (pick_any w.heap.size w4 v' b' p3 3 hd4 (by omega) (by omega))
    clear HKW HD3 HB3 hb4 hd4
    go_wp2_with fail
    refine (unhide HP2).mono ?_
    rintro e w5 ⟨r3, rfl, hr3, HD5, HB5⟩
    have HB6 := hide ((unhide HB4).trans HB5.out)
    clear HP2 HB4 HB5
    by_cases h3 : r3 = 0
    · subst h3
      have HBE := hide (l5Bend_any w.heap.size w5 v' b' (p3 + 1) s HD5.out (by omega) (by omega))
      go_wp2_with fail
      refine (unhide HBE).mono ?_
      rintro e w6 ⟨out, p6, rfl, hout, hp6, HD6, HB7⟩
      go_wp2_with fail
      go_ret
      exact ⟨out, rfl, by omega, unhide HBW w6 ((unhide HB6).trans HB7.out)⟩
    · have hz3 : ((r3 : Int) == 0) = false := beq_eq_false_iff_ne.2 (by omega)
      go_wp2_with fail
      go_ret
      exact ⟨s, rfl, by omega, unhide HBW w5 (unhide HB6)⟩
end Go.Proofs.YthkjhmcbmakkdaaDoor
