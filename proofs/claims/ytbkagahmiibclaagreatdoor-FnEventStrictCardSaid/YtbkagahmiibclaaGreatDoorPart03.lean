/- A part. -/
import Derived.Test.YtbkagahmiibclaaGreatDoorPart01
import Derived.Test.YtbkagahmiibclaaGreatDoorPart02
namespace Go.Proofs.YtbkagahmiibclaaGreatDoor
open Go Go.RowKit
set_option maxRecDepth 100000
set_option maxHeartbeats 6400000
theorem lk_all : ∀ d, d ≤ 9 → LkSaid d
 | 0, _ => l5Kind_zero
 | d + 1, h => l5Kind_step d (by omega) (lk_all d (by omega))
def SkEnd (N M R : Nat) (w w' : World) (v : Value) (b : List UInt8) (p : Nat) (e : Ending) : Prop :=
 ∃ (k : Kd) (c : C3) (p' : Nat), e = .returned (.agg #[c.c0, c.c1, c.c2]) ∧ KRep (fun x => w.heap.size ≤ x ∧ x < w'.heap.size) w' k c ∧ DR R w' v b p' ∧ p' ≤ p + N ∧ wKd k ≤ M ∧ But R w w'
theorem sk_end {N M R : Nat} {w W : World} {v : Value} {b : List UInt8} {p p' : Nat} {k : Kd} {c : C3} (hR : R < w.heap.size) (ho : KRep (fun x => w.heap.size < x ∧ x < W.heap.size) W k c) (hd : DR R W v b p') (h1 : p' ≤ p + N) (h2 : wKd k ≤ M) (hb : But R w W) (c0 c1 c2 : Value) :
 SkEnd N M R w (((W.setCell ⟨w.heap.size, 0, none⟩ c0).setCell ⟨w.heap.size, 1, none⟩ c1).setCell ⟨w.heap.size, 2, none⟩ c2) v b p (.returned (.agg #[c.c0, c.c1, c.c2])) := by
 refine ⟨k, c, p', rfl, KRep.carry (fun x hx => by repeat rw [Below.heap_setCell _ _ _ _ (by simp; omega)]) (fun x hx => ⟨by omega, by simp only [size_setCell]; exact hx.2⟩) _ _ ho, ?_, h1, h2, ?_⟩
 · repeat refine DR.set ?_ hR _ _
   exact hd
 · repeat refine but_setx ?_ (Nat.le_refl _) _ _
   exact hb
def SoEnd (N M R : Nat) (w w' : World) (v : Value) (b : List UInt8) (p : Nat) (e : Ending) : Prop :=
 ∃ (k : Kd) (c : C3) (p' : Nat), e = .returned (.agg #[c.c0, c.c1, c.c2]) ∧ KRep (fun x => w.heap.size ≤ x ∧ x < w'.heap.size) w' k c ∧ DR R w' v b p' ∧ p' ≤ p + N ∧ wKd k ≤ M ∧ But R w w' ∧ 0 < qT k 1
theorem so_end {N M R : Nat} {w W : World} {v : Value} {b : List UInt8} {p p' : Nat} {k : Kd} {c : C3} (hR : R < w.heap.size) (ho : KRep (fun x => w.heap.size < x ∧ x < W.heap.size) W k c) (hd : DR R W v b p') (h1 : p' ≤ p + N) (h2 : wKd k ≤ M) (hb : But R w W) (hq : 0 < qT k 1) (c0 c1 c2 : Value) :
 SoEnd N M R w (((W.setCell ⟨w.heap.size, 0, none⟩ c0).setCell ⟨w.heap.size, 1, none⟩ c1).setCell ⟨w.heap.size, 2, none⟩ c2) v b p (.returned (.agg #[c.c0, c.c1, c.c2])) := by
 refine ⟨k, c, p', rfl, KRep.carry (fun x hx => by repeat rw [Below.heap_setCell _ _ _ _ (by simp; omega)]) (fun x hx => ⟨by omega, by simp only [size_setCell]; exact hx.2⟩) _ _ ho, ?_, h1, h2, ?_, hq⟩
 · repeat refine DR.set ?_ hR _ _
   exact hd
 · repeat refine but_setx ?_ (Nat.le_refl _) _ _
   exact hb
theorem l5Some_ok (R : Nat) (w : World) (v : Value) (b : List UInt8) (p : Nat) (top : Bool) (h : DR R w v b p) (hp : p ≤ 10000000) :
 Calls Tryz.prog 55 #[.pointer (some ⟨R, 0, none⟩), .bool top] w fun e w' => SoEnd 18724 4680 R w w' v b p e := by
 obtain ⟨hd0, hb0, hR⟩ := box3_start R w v b p h (.cells #[.int .i64 0, .slice none 0 0, .slice none 0 0] 83)
 have hX0 := row3_alloc w (.int .i64 0) (.slice none 0 0) (.slice none 0 0) 83
 have hsub : ∀ (W : World) (p2 r : Nat) (dp : Int), DR R W v b p2 → p2 ≤ 20000000 → r < 3 → dp = 2 + (r : Int) → Calls Tryz.prog 83 #[.pointer (some ⟨R, 0, none⟩), .int .i64 dp, .bool top] W fun e w' => ∃ (k : Kd) (x0 : Int) (ap : Option Addr) (np cp : Nat) (aq : Option Addr) (nq cq : Nat) (F : List Nat) (p' : Nat), e = .returned (.agg #[.int .i64 x0, .slice ap np cp, .slice aq nq cq]) ∧ Hid (OwnD w' k ⟨.int .i64 x0, .slice ap np cp, .slice aq nq cq⟩ F) ∧ Hid (∀ x, x ∈ F → W.heap.size ≤ x ∧ x < w'.heap.size) ∧ Hid (DR R w' v b p') ∧ p' ≤ p2 + 4680 ∧ wKd k ≤ 4680 ∧ Hid (But R W w') ∧ W.heap.size ≤ w'.heap.size := by
  rintro W p2 r dp hW hp2 hr hdp
  have hcd : cd (r + 1) ≤ 4680 := by
   rcases (show r = 0 ∨ r = 1 ∨ r = 2 by omega) with rfl | rfl | rfl <;> decide
  have hc := lk_all (r + 1) (by omega) R W v b p2 top hW (by omega)
  rw [show ((r + 1 : Nat) : Int) + 1 = dp from by omega] at hc
  refine hc.mono ?_
  rintro e w' ⟨k, ⟨x0, x1, x2⟩, F, p', rfl, ho, hnd, hF, hdr, h1, h2, hb⟩
  obtain ⟨g0, -, F1, F2, -, ⟨ap, cp, g1, -⟩, aq, cq, g2, -⟩ := ho.open
  simp only at g0 g1 g2
  subst g0 g1 g2
  exact ⟨k, _, _, _, _, _, _, _, F, p', rfl, ho, hF, hdr, by omega, by omega, hb, hb.size⟩
 have HSUB := hH hsub; have HX0 := hH hX0; have HD0 := hH hd0; have HB0 := hH hb0
 clear h hd0 hb0 hX0 hsub
 go_enter Tryz.func55, Tryz.ntmps55
 go_wp2_with fail
 go_loopw [5] (fun i wr => ∃ (m q : Nat), m ≤ 4 ∧ i = .int .i64 m ∧ q ≤ p + m * 4681 ∧ Hid (DR R wr v b q) ∧ Hid (But R w wr) ∧ Hid (wr.rowIs w.heap.size 83 3 (row3 (.int .i64 0) (.slice none 0 0) (.slice none 0 0)))) (fun i _ => 4 - (intOf i).toNat)
 case atStart => exact ⟨0, p, by omega, rfl, by omega, HD0, HB0, HX0⟩
 case round =>
  clear HD0 HB0 HX0
  obtain ⟨m, q, hm, rfl, hq, HD, HB, HX⟩ := hrel
  by_cases hlt : m < 4
  · have hqm : decide ((m : Int) < 4) = true := by simp; omega
    have HPK := hH (pick_any R wr v b q 3 HD.out (by omega) (by omega))
    go_wp2_with fail
    refine (uh HPK).mono ?_
    rintro e w2 ⟨r3, rfl, hr3, HD2, HB2⟩
    have HB02 := hH (HB.out.trans HB2.out)
    have hXlt := HX.out.lt
    have HX2 := hH (HX.out.of_block (HB2.out.at hXlt (by omega)))
    have HC := hH (fun dp hdp => uh HSUB w2 (q + 1) r3 dp HD2.out (by omega) hr3 hdp)
    have hw2 : IntKind.i64.wrap (2 + (r3 : Int)) = 2 + (r3 : Int) := by rw [IntKind.wrap_i64]; omega
    clear HPK HD HB HX HB2 HD2 hXlt
    go_wp2_with fail
    refine (uh HC _ (by first | rfl | omega)).mono ?_
    rintro e w3 ⟨k, x0, ap, np, cp, aq, nq, cq, F, q', rfl, HO, HF, HD3, hq', hk', HB3, hs3⟩
    have hX2 := (uh HX2).lt
    have HB03 := hH ((uh HB02).trans HB3.out)
    have HX3 := hH ((uh HX2).of_block (HB3.out.at hX2 (by omega)))
    have hs2 := (uh HB02).size
    have hbx : ∀ o, Below w3.heap.size w3 (w3.alloc o) := fun o => (Below.refl _ _).alloc (Nat.le_refl _) o
    have HOK := hH (fun o => specKindOk_any k (· ∈ F) ⟨.int .i64 x0, .slice ap np cp, .slice aq nq cq⟩ (w3.alloc o) (fun x hx => by rw [World.size_alloc]; have := (HF.out x hx).2; omega) (KRep.carry (fun x hx => (hbx o).block x (HF.out x hx).2) (fun _ h => h) _ _ (OwnD.rep k _ F (fun _ h => h) HO.out)))
    have hlt3 : w.heap.size < w3.heap.size := by omega
    clear HC HB02 HX2 HB3 hbx
    cases hok : decide (0 < qT k 1) with
    | true =>
      rw [hok] at HOK
      have HQ := hH (of_decide_eq_true hok)
      clear hok
      go_wp2_with fail
      refine (uh HOK _).mono ?_
      rintro e w4 ⟨rfl, hb4⟩
      have hs4 := hb4.size
      rw [World.size_alloc] at hs4
      have hbA : Below w3.heap.size w3 w4 := ((Below.refl _ w3).alloc (Nat.le_refl _) (.cells #[.int .i64 x0, .slice ap np cp, .slice aq nq cq] 83)).trans (hb4.mono (by simp))
      have hK4 := (row3_alloc w3 (.int .i64 x0) (.slice ap np cp) (.slice aq nq cq) 83).of_block (hb4.block _ (by simp))
      have hX4 := (uh HX3).of_block (hbA.block _ (uh HX3).lt)
      obtain ⟨p0, p1, p2⟩ := cs3 hX4 (by omega); have pf := hX4.frozen
      obtain ⟨q0, q1, q2⟩ := cs3 hK4 (by omega)
      simp only [row3] at p0 p1 p2 q0 q1 q2
      have hne : w.heap.size ≠ w3.heap.size := by omega
      have hne2 : w3.heap.size ≠ w.heap.size := by omega
      have HEND := hH (fun c0 c1 c2 => so_end (N := 18724) (M := 4680) (p := p) (p' := q') (c := ⟨.int .i64 x0, .slice ap np cp, .slice aq nq cq⟩) hR (KRep.carry (fun x hx => hbA.block x (HF.out x hx).2) (fun x (hx : x ∈ F) => ⟨by have := (HF.out x hx).1; omega, by have := (HF.out x hx).2; omega⟩) k _ (OwnD.rep k _ F (fun _ h => h) HO.out)) (HD3.out.on hbA) (by omega) hk' ((uh HB03).trans (But.of_below hbA)) (uh HQ) c0 c1 c2)
      clear hbA hK4 hX4 hb4 HOK HO HF HD3 HB03 HX3
      go_wp2_with fail
      refine bodyPost_ret (v := .agg #[.int .i64 x0, .slice ap np cp, .slice aq nq cq]) (by simp [results, Tryz.results55, go_sem, p0, p1, p2]) rfl ?_
      exact uh HEND _ _ _
    | false =>
      rw [hok] at HOK
      clear hok
      go_wp2_with fail
      refine (uh HOK _).mono ?_
      rintro e w4 ⟨rfl, hb4⟩
      have hbA : Below w3.heap.size w3 w4 := ((Below.refl _ w3).alloc (Nat.le_refl _) (.cells #[.int .i64 x0, .slice ap np cp, .slice aq nq cq] 83)).trans (hb4.mono (by simp))
      have HD4 := hH (HD3.out.on hbA); have HB4 := hH ((uh HB03).trans (But.of_below hbA)); have HX4 := hH ((uh HX3).of_block (hbA.block _ (uh HX3).lt))
      clear hbA hb4 HOK HO HF HD3 HB03 HX3
      go_wp2_with fail
      go_roundw
      case rel => exact ⟨m + 1, q', by omega, by go_num, by omega, HD4, HB4, HX4⟩
      case measure => simp [intOf]; omega
  · have hqm : decide ((m : Int) < 4) = false := by simp; omega
    obtain ⟨p0, p1, p2⟩ := cs3 HX.out (by omega); have pf := HX.out.frozen
    simp only [row3] at p0 p1 p2
    have HEND := hH (fun c0 c1 c2 => so_end (N := 18724) (M := 4680) (p := p) (p' := q) (k := .mk 5 [] []) (c := ⟨.int .i64 5, .slice none 0 0, .slice none 0 0⟩) hR (OwnD.rep _ _ [] (fun _ h => by cases h) (OwnD.leaf wr 5 ⟨by decide, by decide⟩)) HD.out (by omega) (by simp [wKd, wS, wKs]) HB.out (by decide) c0 c1 c2)
    go_wp2_with fail
    refine bodyPost_ret (v := .agg #[.int .i64 5, .slice none 0 0, .slice none 0 0]) (by simp [results, Tryz.results55, go_sem, p0, p1, p2]) rfl ?_
    exact uh HEND _ _ _
theorem of_any (R : Nat) (w : World) (v : Value) (b : List UInt8) (p : Nat) (h : DR R w v b p) (hp : p ≤ 100000000) (g n : Nat) (ss : Nat → ByteArray) (hn : 1 ≤ n ∧ n ≤ 1000) (hrow : w.rowIs g 9 n (fun i => .string (ss i))) (hg : R < g) :
 Calls Tryz.prog 48 #[.pointer (some ⟨R, 0, none⟩), .slice (some ⟨g, 0, none⟩) n n] w fun e w' => ∃ r, e = .returned (.string (ss r)) ∧ r < n ∧ Hid (DR R w' v b (p + 1)) ∧ Hid (But R w w') := by
 obtain ⟨hn1, hn2⟩ := hn
 have HPK := hH (pick_any R w v b p n h (by omega) (by omega))
 have HROW := hH hrow
 clear h hrow
 go_enter Tryz.func48, Tryz.ntmps48
 go_wp2_with fail
 refine (uh HPK).mono ?_
 rintro e w2 ⟨r, rfl, hr, HD2, HB2⟩
 have e1 : w2.cell? ⟨g, r, none⟩ = some (.string (ss r)) := ((uh HROW).of_block (HB2.out.at (uh HROW).lt (by omega))).cell (i := r) hr
 have hix : (r : Int) < (n : Int) := by omega
 clear HROW HPK
 go_wp2_with fail
 go_ret
 exact ⟨r, rfl, hr, HD2, HB2⟩

theorem row_of (w : World) (ss : List ByteArray) : (w.alloc (.cells (ss.map Value.string).toArray 9)).rowIs w.heap.size 9 ss.length (fun i => .string (ss.getD i ByteArray.empty)) := by
 have h := World.rowIs_alloc w (ss.map Value.string).toArray 9 (fun i => .string (ss.getD i ByteArray.empty)) (fun i hi => by
  have hi' : i < ss.length := by simpa using hi
  simp [hi'])
 simpa using h
theorem half_even (m X : Nat) (h : m % 2 = 0) : m / 2 * (X + X) = m * X := by
 obtain ⟨q, rfl⟩ : ∃ q, m = 2 * q := ⟨m / 2, by omega⟩
 rw [show 2 * q / 2 = q from by omega, Nat.mul_add, Nat.mul_assoc]; omega
theorem half_odd (m X : Nat) (h : m % 2 = 1) : m / 2 * (X + X) + X = m * X := by
 obtain ⟨q, rfl⟩ : ∃ q, m = 2 * q + 1 := ⟨m / 2, by omega⟩
 rw [show (2 * q + 1) / 2 = q from by omega, Nat.mul_add, Nat.add_mul, Nat.mul_assoc, Nat.one_mul]; omega
theorem l6Many_any (w : World) (s : ByteArray) (n : Nat) (hs : s.size ≤ 2) (hn : n ≤ 1000) :
 Calls Tryz.prog 113 #[.string s, .int .i64 (n : Int)] w fun e w' => ∃ out : ByteArray, e = .returned (.string out) ∧ out.size ≤ 2000 ∧ w' = w := by
 have h0 : n * s.size ≤ 2000 := Nat.le_trans (Nat.mul_le_mul hn hs) (by decide)
 go_enter Tryz.func113, Tryz.ntmps113
 go_wp2_with fail
 go_loopw [0, 1, 5] (fun s0 nn oo wr => ∃ (m : Nat) (x out : ByteArray), s0 = .string x ∧ nn = .int .i64 (m : Int) ∧ oo = .string out ∧ m ≤ 1000 ∧ out.size + m * x.size ≤ 2000 ∧ x.size ≤ 4000 ∧ Hid (wr = w)) (fun _ nn _ _ => (intOf nn).toNat)
 case atStart => exact ⟨n, s, ⟨#[]⟩, rfl, rfl, rfl, hn, by show 0 + _ ≤ _; omega, by omega, rfl⟩
 case round =>
  obtain ⟨m, x, out, rfl, rfl, rfl, hm, hmx, hx, HW⟩ := hrel
  by_cases hm0 : m = 0
  · have hq : decide ((0 : Int) < (m : Int)) = false := by simp; omega
    have hqn : decide (0 < m) = false := by simp; omega
    clear hm0
    go_wp2_with fail
    go_ret
    exact ⟨out, rfl, by omega, HW.out⟩
  · have hq : decide ((0 : Int) < (m : Int)) = true := by simp; omega
    have hqn : decide (0 < m) = true := by simp; omega
    have hxm : x.size ≤ m * x.size := Nat.le_mul_of_pos_left _ (by omega)
    have hl1 : ¬ (9223372036854775807 < x.size + x.size) := by omega
    have hl2 : ¬ (9223372036854775807 < out.size + x.size) := by omega
    have hsx : (x ++ x).size = x.size + x.size := ByteArray.size_append
    have hso : (out ++ x).size = out.size + x.size := ByteArray.size_append
    rcases (show (m : Int) % 2 = 0 ∨ (m : Int) % 2 = 1 by omega) with he | he
    · have hh := half_even m x.size (by omega)
      go_wp2_with fail
      go_roundw
      case rel => exact ⟨m / 2, x ++ x, out, rfl, by go_num, rfl, by omega, by rw [hsx]; omega, by rw [hsx]; omega, HW⟩
      case measure => simp [intOf]; omega
    · have hh := half_odd m x.size (by omega)
      go_wp2_with fail
      go_roundw
      case rel => exact ⟨m / 2, x ++ x, out ++ x, rfl, by go_num, rfl, by omega, by rw [hsx, hso]; omega, by rw [hsx]; omega, HW⟩
      case measure => simp [intOf]; omega
def BdEnd (R : Nat) (w w' : World) (v : Value) (b : List UInt8) (p : Nat) (e : Ending) : Prop :=
 ∃ (out : ByteArray) (p' : Nat), e = .returned (.string out) ∧ out.size ≤ 300000 ∧ p' ≤ p + 5 ∧ Hid (DR R w' v b p') ∧ Hid (But R w w')
theorem of_row (R : Nat) (w : World) (v : Value) (b : List UInt8) (p : Nat) (h : DR R w v b p) (hp : p ≤ 10000000) (ss : List ByteArray) (h1 : 1 ≤ ss.length) (h2 : ss.length ≤ 100) (hs : ∀ i, i < ss.length → (ss.getD i ByteArray.empty).size ≤ 2000) :
 Calls Tryz.prog 48 #[.pointer (some ⟨R, 0, none⟩), .slice (some ⟨w.heap.size, 0, none⟩) ss.length ss.length] (w.alloc (.cells (ss.map Value.string).toArray 9)) fun e w' => ∃ x : ByteArray, e = .returned (.string x) ∧ x.size ≤ 2000 ∧ Hid (DR R w' v b (p + 1)) ∧ Hid (But R w w') := by
 refine (of_any R _ v b p (h.on ((Below.refl _ _).alloc (Nat.le_refl _) _)) (by omega) w.heap.size ss.length (fun i => ss.getD i ByteArray.empty) (by omega) (row_of w ss) h.cells.lt).mono ?_
 rintro e w' ⟨r, rfl, hr, hd, hb⟩
 exact ⟨_, rfl, hs r hr, hd, (But.alloc R w _).trans hb.out⟩
theorem l5Bend_any (R : Nat) (w : World) (v : Value) (b : List UInt8) (p : Nat) (s : ByteArray) (h : DR R w v b p) (hp : p ≤ 2000000) (hs : s.size ≤ 100000) :
 Calls Tryz.prog 49 #[.pointer (some ⟨R, 0, none⟩), .string s] w fun e w' => BdEnd R w w' v b p e := by
 by_cases h0 : s.size = 0
 · have hz : ((s.size : Int) == 0) = true := by simp [h0]
   have HOF := hH (of_row R w v b p h (by omega) [⟨#[32]⟩, ⟨#[48]⟩, ⟨#[123, 125]⟩] (by simp) (by simp) (fun i hi => by rcases (show i = 0 ∨ i = 1 ∨ i = 2 by simp at hi; omega) with rfl | rfl | rfl <;> decide))
   clear h h0
   go_enter Tryz.func49, Tryz.ntmps49
   go_wp2_with fail
   refine (uh HOF).mono ?_
   rintro e w1 ⟨x, rfl, hx, HD, HB⟩
   go_wp2_with fail
   go_ret
   exact ⟨x, p + 1, rfl, by omega, by omega, HD, HB⟩
 · have hz : ((s.size : Int) == 0) = false := beq_eq_false_iff_ne.2 (by omega)
   have HPK := hH (pick_any R w v b p s.size h (by omega) (by omega))
   clear h
   go_enter Tryz.func49, Tryz.ntmps49
   go_wp2_with fail
   refine (uh HPK).mono ?_
   rintro e w1 ⟨i, rfl, hi, HD1, HB1⟩
   have HP2 := hH (pick_any R w1 v b (p + 1) 6 HD1.out (by omega) (by omega))
   clear HPK HD1
   go_wp2_with fail
   refine (uh HP2).mono ?_
   rintro e w2 ⟨r, rfl, hr, HD2, HB2⟩
   have HB := hH (HB1.out.trans HB2.out)
   clear HP2 HB1 HB2
   have hi1 : (i : Int) < (s.size : Int) := by omega
   have hi2 : (i : Int) ≤ (s.size : Int) := by omega
   have hi3 : (i : Int) + 1 ≤ (s.size : Int) := by omega
   have hi4 : (0 : Int) ≤ (i : Int) + 1 := by omega
   have hwi : IntKind.i64.wrap ((i : Int) + 1) = (i : Int) + 1 := by rw [IntKind.wrap_i64]; omega
   have hx0 : (s.extract 0 i).size = i := by rw [ByteArray.size_extract]; omega
   have hx1 : (s.extract (i + 1) s.size).size = s.size - (i + 1) := by rw [ByteArray.size_extract]; omega
   have hx2 : (s.extract i s.size).size = s.size - i := by rw [ByteArray.size_extract]; omega
   rcases (show r = 0 ∨ r = 1 ∨ r = 2 ∨ r = 3 ∨ r = 4 ∨ r = 5 by omega) with rfl | rfl | rfl | rfl | rfl | rfl
   · go_wp2_with fail
     go_ret
     exact ⟨_, p + 2, rfl, by omega, by omega, HD2, HB⟩
   · go_wp2_with fail
     go_quiet (fail)
     go_wp2_with fail
     go_ret
     have hbn : Below w2.heap.size w2 (w2.drewN nq) := ⟨rfl, rfl, rfl, Nat.le_refl _, fun _ _ => rfl⟩
     exact ⟨_, p + 2, rfl, by rw [ByteArray.size_append]; omega, by omega, HD2.out.on hbn, (uh HB).trans (But.of_below hbn)⟩
   · have HOF := hH (of_row R w2.drew v b (p + 1 + 1) (HD2.out.on (Below.refl _ w2).drew) (by omega) [⟨#[32]⟩, ⟨#[44]⟩, ⟨#[48]⟩, ⟨#[45]⟩, ⟨#[34]⟩, ⟨#[126]⟩, ⟨#[63]⟩, ⟨#[93]⟩, ⟨#[125]⟩, ⟨#[97]⟩] (by simp) (by simp) (fun i hi => by rcases (show i = 0 ∨ i = 1 ∨ i = 2 ∨ i = 3 ∨ i = 4 ∨ i = 5 ∨ i = 6 ∨ i = 7 ∨ i = 8 ∨ i = 9 by simp at hi; omega) with rfl | rfl | rfl | rfl | rfl | rfl | rfl | rfl | rfl | rfl <;> decide))
     go_wp2_with fail
     go_region_law (rw [if_pos (by first | rfl | simp [Region.wanted])]; go_simp; refine (uh HOF).mono ?_; rintro e w3 ⟨x, rfl, hx, HD3, HB3⟩; have hsz : (s.extract 0 i ++ x).size = i + x.size := (by rw [ByteArray.size_append, hx0]); have hl1 : ¬ (9223372036854775807 < i + x.size) := (by omega); have hl2 : ¬ (9223372036854775807 < i + x.size + (s.size - i)) := (by omega); have hl3 : ¬ (9223372036854775807 < i + x.size + (s.size - (i + 1))) := (by omega))
     all_goals
      go_wp2_with fail
      go_ret
      exact ⟨_, p + 3, rfl, by rw [ByteArray.size_append, ByteArray.size_append]; omega, by omega, HD3, (uh HB).trans ((But.of_below (Below.refl _ w2).drew).trans HB3.out)⟩
   · have HOF := hH (of_row R w2.drew v b (p + 1 + 1) (HD2.out.on (Below.refl _ w2).drew) (by omega) [⟨#[32]⟩, ⟨#[44]⟩, ⟨#[48]⟩, ⟨#[45]⟩, ⟨#[34]⟩, ⟨#[126]⟩, ⟨#[63]⟩, ⟨#[91]⟩, ⟨#[123]⟩, ⟨#[97]⟩, ⟨#[57]⟩] (by simp) (by simp) (fun i hi => by rcases (show i = 0 ∨ i = 1 ∨ i = 2 ∨ i = 3 ∨ i = 4 ∨ i = 5 ∨ i = 6 ∨ i = 7 ∨ i = 8 ∨ i = 9 ∨ i = 10 by simp at hi; omega) with rfl | rfl | rfl | rfl | rfl | rfl | rfl | rfl | rfl | rfl | rfl <;> decide))
     go_wp2_with fail
     go_region_law (rw [if_pos (by first | rfl | simp [Region.wanted])]; go_simp; refine (uh HOF).mono ?_; rintro e w3 ⟨x, rfl, hx, HD3, HB3⟩; have hsz : (s.extract 0 i ++ x).size = i + x.size := (by rw [ByteArray.size_append, hx0]); have hl1 : ¬ (9223372036854775807 < i + x.size) := (by omega); have hl2 : ¬ (9223372036854775807 < i + x.size + (s.size - i)) := (by omega); have hl3 : ¬ (9223372036854775807 < i + x.size + (s.size - (i + 1))) := (by omega))
     all_goals
      go_wp2_with fail
      go_ret
      exact ⟨_, p + 3, rfl, by rw [ByteArray.size_append, ByteArray.size_append]; omega, by omega, HD3, (uh HB).trans ((But.of_below (Below.refl _ w2).drew).trans HB3.out)⟩
   · have HOF := hH (of_row R w2 v b (p + 1 + 1) HD2.out (by omega) [⟨#[32]⟩, ⟨#[44]⟩, ⟨#[48]⟩, ⟨#[125]⟩, ⟨#[10]⟩] (by simp) (by simp) (fun i hi => by rcases (show i = 0 ∨ i = 1 ∨ i = 2 ∨ i = 3 ∨ i = 4 by simp at hi; omega) with rfl | rfl | rfl | rfl | rfl <;> decide))
     go_wp2_with fail
     refine (uh HOF).mono ?_
     rintro e w3 ⟨x, rfl, hx, HD3, HB3⟩
     have hl : ¬ (9223372036854775807 < s.size + x.size) := by omega
     go_wp2_with fail
     go_ret
     exact ⟨_, p + 3, rfl, by rw [ByteArray.size_append]; omega, by omega, HD3, (uh HB).trans HB3.out⟩
   · have HOF := hH (of_row R w2 v b (p + 1 + 1) HD2.out (by omega) [⟨#[32]⟩, ⟨#[43]⟩, ⟨#[48]⟩] (by simp) (by simp) (fun i hi => by rcases (show i = 0 ∨ i = 1 ∨ i = 2 by simp at hi; omega) with rfl | rfl | rfl <;> decide))
     go_wp2_with fail
     refine (uh HOF).mono ?_
     rintro e w3 ⟨x, rfl, hx, HD3, HB3⟩
     have hl : ¬ (9223372036854775807 < x.size + s.size) := by omega
     go_wp2_with fail
     go_ret
     exact ⟨_, p + 3, rfl, by rw [ByteArray.size_append]; omega, by omega, HD3, (uh HB).trans HB3.out⟩

theorem GotO.other {base : Nat} {w w' : World} {v : Value} {ks : List Tr} {xs : List Value} {G : List Nat} {row : Option Nat} (h : GotO base w v ks xs G) (hg : w.grownBy w' row) (hr : ∀ b, row = some b → v.ownBlock ≠ some b ∧ b ∉ G) : GotO base w' v ks xs G :=
 ⟨h.row.kept hg (by
  rcases e : v.ownBlock with _ | g
  · exact Or.inl rfl
  · exact Or.inr (fun e2 => (hr g e2.symm).1 e)), h.own.carry (fun b hb => hg.block b (h.lt b hb).2.1 (fun e => (hr b e.symm).2 hb)), h.nodup, fun b hb => ⟨(h.lt b hb).1, Nat.lt_of_lt_of_le (h.lt b hb).2.1 hg.size, (h.lt b hb).2.2⟩⟩
structure SInv (base B : Nat) (wr : World) (s : Int) (vN vK : Value) (ns : List ByteArray) (ks : List Tr) (xs : List Value) (G : List Nat) : Prop where
 hB : B < base
 cells : wr.rowIs B 26 5 (row5 (.int .i64 s) (.int .i64 0) (.string ⟨#[]⟩) vN vK)
 names : wr.ownsRow base 9 1 vN ns.length (ns.map Value.string)
 got : GotO base wr vK ks xs G
 apart : ∀ b, vN.ownBlock = some b → vK.ownBlock ≠ some b ∧ b ∉ G
 size : base ≤ wr.heap.size
theorem row5_set3 {w : World} {B : Nat} {t : TypeId} {c0 c1 c2 c3 c4 : Value} (h : w.rowIs B t 5 (row5 c0 c1 c2 c3 c4)) (v : Value) : (w.setCell ⟨B, 3, none⟩ v).rowIs B t 5 (row5 c0 c1 c2 v c4) :=
 (h.set 3 v).congr (fun i hi => by
   match i, hi with
   | 0, _ => rfl
   | 1, _ => rfl
   | 2, _ => rfl
   | 3, _ => rfl
   | 4, _ => rfl)
theorem row5_set4 {w : World} {B : Nat} {t : TypeId} {c0 c1 c2 c3 c4 : Value} (h : w.rowIs B t 5 (row5 c0 c1 c2 c3 c4)) (v : Value) : (w.setCell ⟨B, 4, none⟩ v).rowIs B t 5 (row5 c0 c1 c2 c3 v) :=
 (h.set 4 v).congr (fun i hi => by
   match i, hi with
   | 0, _ => rfl
   | 1, _ => rfl
   | 2, _ => rfl
   | 3, _ => rfl
   | 4, _ => rfl)
theorem SInv.kept {base B : Nat} {w w' : World} {s : Int} {vN vK : Value} {ns : List ByteArray} {ks : List Tr} {xs : List Value} {G : List Nat} (h : SInv base B w s vN vK ns ks xs G) (hg : w.grownBy w' none) : SInv base B w' s vN vK ns ks xs G :=
 ⟨h.hB, h.cells.of_block (hg.block B h.cells.lt (by simp)), h.names.kept hg (by
  rcases e : vN.ownBlock with _ | g
  · exact Or.inl rfl
  · exact Or.inr (by simp)), h.got.kept hg, h.apart, Nat.le_trans h.size hg.size⟩
theorem SInv.name {base B : Nat} {w w' : World} {s : Int} {vN vK v' : Value} {ns : List ByteArray} {ks : List Tr} {xs : List Value} {G : List Nat} {nm : ByteArray} (h : SInv base B w s vN vK ns ks xs G)
 (hown : w'.ownsRow base 9 1 v' (ns.length + 1) (ns.map Value.string ++ [.string nm])) (hg : w.grownBy w' vN.ownBlock) (hv : v'.ownBlock = vN.ownBlock ∨ ∃ g, v'.ownBlock = some g ∧ w.heap.size ≤ g) :
 SInv base B (w'.setCell ⟨B, 3, none⟩ v') s v' vK (ns ++ [nm]) ks xs G := by
 have hBn : vN.ownBlock ≠ some B := fun e => by have := (h.names.lt B e).1; have := h.hB; omega
 have hBk : vK.ownBlock ≠ some B := fun e => by have := (h.got.row.lt B e).1; have := h.hB; omega
 have hset : w'.grownBy (w'.setCell ⟨B, 3, none⟩ v') (some B) := ⟨rfl, rfl, rfl, by simp [World.setCell], fun k _ hk => Below.heap_setCell _ _ _ _ (fun e => hk (by rw [e]))⟩
 have hBv : v'.ownBlock ≠ some B := fun e => by have := (hown.lt B e).1; have := h.hB; omega
 have hgot1 := h.got.other hg (fun b e => h.apart b e)
 refine ⟨h.hB, row5_set3 (h.cells.of_block (hg.block B h.cells.lt (fun e => hBn e.symm))) v', ?_, hgot1.other hset (fun b e => by cases e; exact ⟨hBk, fun hm => by have := (h.got.lt _ hm).1; have := h.hB; omega⟩), fun b hb => ?_, by have := hg.size; have := h.size; simp [World.setCell]; omega⟩
 · have := hown.kept hset (Or.inr (fun e => hBv e))
   simpa using this
 · rcases hv with e | ⟨g, e, hge⟩
   · exact h.apart b (by rw [← e]; exact hb)
   · rw [e] at hb
     simp only [Option.some.injEq] at hb
     subst hb
     exact ⟨fun e2 => by have := (h.got.row.lt g e2).2; omega, fun hm => by have := (h.got.lt g hm).2.1; omega⟩
theorem SInv.kid {base B m : Nat} {w w' : World} {s : Int} {vN vK v' : Value} {ns : List ByteArray} {ks : List Tr} {xs : List Value} {G F : List Nat} {t : Tr} {c : C5} (h : SInv base B w s vN vK ns ks xs G)
 (ht : Own w t c F) (hnd : F.Nodup) (hF : ∀ b, b ∈ F → m ≤ b ∧ b < w.heap.size) (hGm : ∀ b, b ∈ G → b < m) (hvm : ∀ b, vK.ownBlock = some b → b < m) (hnm : ∀ b, vN.ownBlock = some b → b < m) (hbm : base ≤ m)
 (hown : w'.ownsRow base 26 5 v' (ks.length + 1) (xs ++ c5l c)) (hg : w.grownBy w' vK.ownBlock) (hv : v'.ownBlock = vK.ownBlock ∨ ∃ g, v'.ownBlock = some g ∧ w.heap.size ≤ g) :
 SInv base B (w'.setCell ⟨B, 4, none⟩ v') s vN v' ns (ks ++ [t]) (xs ++ c5l c) (G ++ F) := by
 have hBn : vN.ownBlock ≠ some B := fun e => by have := (h.names.lt B e).1; have := h.hB; omega
 have hBk : vK.ownBlock ≠ some B := fun e => by have := (h.got.row.lt B e).1; have := h.hB; omega
 have hset : w'.grownBy (w'.setCell ⟨B, 4, none⟩ v') (some B) := ⟨rfl, rfl, rfl, by simp [World.setCell], fun k _ hk => Below.heap_setCell _ _ _ _ (fun e => hk (by rw [e]))⟩
 have hBv : v'.ownBlock ≠ some B := fun e => by have := (hown.lt B e).1; have := h.hB; omega
 have hpush := GotO.push h.got ht hnd hF hGm hvm hbm hown hg hv
 refine ⟨h.hB, row5_set4 (h.cells.of_block (hg.block B h.cells.lt (fun e => hBk e.symm))) v', ?_, hpush.other hset (fun b e => by cases e; exact ⟨hBv, fun hm => by have := (hpush.lt _ hm).1; have := h.hB; omega⟩), fun b hb => ?_, by have := hg.size; have := h.size; simp [World.setCell]; omega⟩
 · refine (h.names.kept hg ?_).kept hset (Or.inr (fun e => hBn e))
   rcases e : vN.ownBlock with _ | g
   · exact Or.inl rfl
   · exact Or.inr (fun e2 => (h.apart g e).1 e2.symm)
 · have ha := h.apart b hb
   have hbw := (h.names.lt b hb).2
   refine ⟨?_, fun hm => ?_⟩
   · rcases hv with e | ⟨g, e, hge⟩
     · rw [e]; exact ha.1
     · rw [e]; intro e2; simp only [Option.some.injEq] at e2; omega
   · rcases List.mem_append.1 hm with hm | hm
     · exact ha.2 hm
     · have := (hF b hm).1; have := hnm b hb; omega
theorem SInv.atN {base B : Nat} {w w' : World} {s : Int} {vN vK : Value} {ns : List ByteArray} {ks : List Tr} {xs : List Value} {G : List Nat} (h : SInv base B w s vN vK ns ks xs G) {o : Obj} (hg : (w.alloc o).grownBy w' vN.ownBlock) : w'.rowIs B 26 5 (row5 (.int .i64 s) (.int .i64 0) (.string ⟨#[]⟩) vN vK) :=
 (h.cells.alloc o).of_block (hg.block B (h.cells.alloc o).lt (fun e => by have := (h.names.lt B e.symm).1; have := h.hB; omega))
theorem SInv.atK {base B : Nat} {w w' : World} {s : Int} {vN vK : Value} {ns : List ByteArray} {ks : List Tr} {xs : List Value} {G : List Nat} (h : SInv base B w s vN vK ns ks xs G) {o : Obj} (hg : (w.alloc o).grownBy w' vK.ownBlock) : w'.rowIs B 26 5 (row5 (.int .i64 s) (.int .i64 0) (.string ⟨#[]⟩) vN vK) :=
 (h.cells.alloc o).of_block (hg.block B (h.cells.alloc o).lt (fun e => by have := (h.got.row.lt B e.symm).1; have := h.hB; omega))
theorem SInv.done {base B : Nat} {w : World} {s : Int} {vN vK : Value} {ns : List ByteArray} {ks : List Tr} {xs : List Value} {G : List Nat} (h : SInv base B w s vN vK ns ks xs G) (hs : I64 s) (hns : ∀ x, x ∈ ns → x.size ≤ 9223372036854775807) :
 ∃ F, Own w (.mk s 0 ByteArray.empty ns ks) ⟨.int .i64 s, .int .i64 0, .string ByteArray.empty, vN, vK⟩ F ∧ F.Nodup ∧ ∀ b, b ∈ F → base ≤ b ∧ b < w.heap.size := by
 obtain ⟨F2, h2, n2, l2, m2⟩ := h.got.done
 obtain ⟨F1, h1, n1, l1, m1⟩ := strsOwn_of_row h.names hns
 refine ⟨F1 ++ F2, Own.make (t := .mk s 0 ByteArray.empty ns ks) rfl rfl rfl hs (show I64 0 from ⟨by decide, by decide⟩) (by simp [Tr.text]) h1 h2, List.nodup_append.2 ⟨n1, n2, fun a ha b hb e => ?_⟩, fun b hb => ?_⟩
 · subst e
   have hap := h.apart a (m1 a ha)
   rcases m2 a hb with h3 | h3
   · exact hap.1 h3
   · exact hap.2 h3
 · rcases List.mem_append.1 hb with hb | hb
   · exact l1 b hb
   · exact l2 b hb

def kAhead (ns : List ByteArray) (i : Nat) : List UInt8 := (if 0 < i then [44] else []) ++ ((ns.getD i ByteArray.empty).data.toList ++ [58])
mutual
def kxT : Kd → List UInt8
 | .mk s ns ks =>
   if s = 1 then [110, 117, 109]
   else if s = 2 then [116, 101, 120, 116]
   else if s = 3 then [102, 108, 97, 103]
   else if s = 4 then [91] ++ kxM ks ++ [93]
   else if s = 6 then [63] ++ kxM ks
   else [123] ++ kxK ns 0 ks ++ [125]
def kxM : List Kd → List UInt8
 | [] => []
 | t :: _ => kxT t
def kxK (ns : List ByteArray) (i : Nat) : List Kd → List UInt8
 | [] => []
 | t :: r => kAhead ns i ++ kxT t ++ kxK ns (i + 1) r
end
mutual
def okD : Kd → Bool
 | .mk s ns ks => shB (.mk s ns ks) && okDs ks
def okDs : List Kd → Bool
 | [] => true
 | t :: r => okD t && okDs r
end
theorem okD_eq (t : Kd) : okD t = (shB t && okDs t.kids) := by
 obtain ⟨s, ns, ks⟩ := t; rw [okD]; rfl
theorem okDs_get {ks : List Kd} (h : okDs ks = true) (i : Nat) (hi : i < ks.length) : okD ks[i] = true := by
 induction ks generalizing i with
 | nil => simp at hi
 | cons t r ih =>
   rw [okDs, Bool.and_eq_true] at h
   cases i with
   | zero => exact h.1
   | succ i => exact ih h.2 i (by simpa using hi)
theorem shB_cases {t : Kd} (h : shB t = true) : ((t.sort = 1 ∨ t.sort = 2 ∨ t.sort = 3) ∧ t.kids.length = 0 ∧ t.names.length = 0) ∨ ((t.sort = 4 ∨ t.sort = 6) ∧ t.kids.length = 1 ∧ t.names.length = 0) ∨ (t.sort = 5 ∧ t.kids.length = t.names.length ∧ riseB t.names = true) := by
 unfold shB at h
 by_cases h1 : t.sort = 1 ∨ t.sort = 2 ∨ t.sort = 3
 · rw [if_pos h1] at h; exact Or.inl ⟨h1, of_decide_eq_true h⟩
 · rw [if_neg h1] at h
   by_cases h2 : t.sort = 4 ∨ t.sort = 6
   · rw [if_pos h2] at h; exact Or.inr (Or.inl ⟨h2, of_decide_eq_true h⟩)
   · rw [if_neg h2] at h
     by_cases h3 : t.sort = 5
     · rw [if_pos h3, Bool.and_eq_true] at h; exact Or.inr (Or.inr ⟨h3, of_decide_eq_true h.1, h.2⟩)
     · rw [if_neg h3] at h; cases h
mutual
theorem pord_len : ∀ (t : Kd) (l : Int), (pord t l).length = ksz t
 | .mk s ns ks, l => by rw [pord, ksz, List.length_cons, pordK_len ks (l + 1)]; omega
theorem pordK_len : ∀ (ks : List Kd) (l : Int), (pordK ks l).length = klsz ks
 | [], l => by rw [pordK, klsz]; rfl
 | t :: r, l => by rw [pordK, klsz, List.length_append, pord_len t l, pordK_len r l]
end
mutual
theorem okD_pord : ∀ (t : Kd) (l : Int), (pord t l).all gdB = true → okD t = true
 | .mk s ns ks, l => by
   intro h
   rw [pord, List.all_cons, Bool.and_eq_true] at h
   rw [okD, Bool.and_eq_true]
   refine ⟨?_, okDs_pord ks (l + 1) h.2⟩
   have := h.1
   simp only [gdB, Bool.and_eq_true] at this
   exact this.2
theorem okDs_pord : ∀ (ks : List Kd) (l : Int), (pordK ks l).all gdB = true → okDs ks = true
 | [], l => by intro _; rw [okDs]
 | t :: r, l => by
   intro h
   rw [pordK, List.all_append, Bool.and_eq_true] at h
   rw [okDs, Bool.and_eq_true]
   exact ⟨okD_pord t l h.1, okDs_pord r l h.2⟩
end
theorem ok_of_qT {t : Kd} (h : 0 < qT t 1) : okD t = true ∧ ksz t ≤ 40 := by
 have h' : decide (0 < qT t 1) = true := decide_eq_true h
 rw [qT_start, Bool.and_eq_true] at h'
 refine ⟨okD_pord t 1 h'.1, ?_⟩
 rw [← pord_len t 1]; exact of_decide_eq_true h'.2
theorem name_size {s : ByteArray} (h : nameOkB s = true) : s.size ≤ 8 := by
 unfold nameOkB at h
 simp only [Bool.and_eq_true, decide_eq_true_eq] at h
 omega
theorem rise_size {ss : List ByteArray} (h : riseB ss = true) (i : Nat) (hi : i < ss.length) : ss[i].size ≤ 8 := by
 have hg : good ss i = true := by
  cases hh : good ss i
  · exact absurd (rise_no hi hh) (by rw [h]; simp)
  · rfl
 apply name_size
 cases hn : nameOkB ss[i]
 · rw [good_name hi hn] at hg; cases hg
 · rfl

structure BB (R B : Nat) (w w' : World) : Prop where
 os : w'.os = w.os
 tape : w'.tape = w.tape
 output : w'.output = w.output
 size : w.heap.size ≤ w'.heap.size
 block : ∀ i, i < B → i ≠ R → w'.heap[i]? = w.heap[i]?
theorem BB.refl (R B : Nat) (w : World) : BB R B w w := ⟨rfl, rfl, rfl, Nat.le_refl _, fun _ _ _ => rfl⟩
theorem BB.trans {R B : Nat} {a b c : World} (h : BB R B a b) (k : BB R B b c) : BB R B a c :=
 ⟨k.os.trans h.os, k.tape.trans h.tape, k.output.trans h.output, Nat.le_trans h.size k.size, fun i hi hn => (k.block i hi hn).trans (h.block i hi hn)⟩
theorem But.bb {R B : Nat} {w w' : World} (h : But R w w') (hB : B ≤ w.heap.size) : BB R B w w' := ⟨h.os, h.tape, h.output, h.size, fun _ hi hn => h.at (Nat.lt_of_lt_of_le hi hB) hn⟩
theorem BB.set {R B : Nat} {a w : World} (h : BB R B a w) {X o : Nat} (hX : B ≤ X) (u : Value) : BB R B a (w.setCell ⟨X, o, none⟩ u) :=
 ⟨h.os, h.tape, h.output, by simp only [size_setCell]; exact h.size, fun i hi hn => (Below.heap_setCell _ _ _ _ (by simp; omega)).trans (h.block i hi hn)⟩
theorem BB.grown {R B : Nat} {a w w' : World} {row : Option Nat} (h : BB R B a w) (hg : w.grownBy w' row) (hB : B ≤ w.heap.size) (hr : ∀ x, row = some x → B ≤ x) : BB R B a w' :=
 ⟨hg.os.trans h.os, hg.tape.trans h.tape, hg.output.trans h.output, Nat.le_trans h.size hg.size, fun i hi hn => (hg.block i (Nat.lt_of_lt_of_le hi hB) (fun e => by have := hr i e.symm; omega)).trans (h.block i hi hn)⟩
theorem BB.drew {R B : Nat} {a w : World} (h : BB R B a w) : BB R B a w.drew := ⟨h.os, h.tape, h.output, h.size, h.block⟩
theorem But.gb {R : Nat} {w w' : World} (h : But R w w') : w.grownBy w' (some R) := h
theorem SInv.butD {R base B : Nat} {w w' : World} {s : Int} {vN vK : Value} {ns : List ByteArray} {ks : List Tr} {xs : List Value} {G : List Nat} (h : SInv base B w s vN vK ns ks xs G) (hb : But R w w') (hR : R < B) : SInv base B w' s vN vK ns ks xs G := by
 have hB := h.hB
 refine ⟨h.hB, h.cells.of_block (hb.at h.cells.lt (by omega)), h.names.kept hb.gb ?_, h.got.other hb.gb (fun b e => ?_), h.apart, Nat.le_trans h.size hb.size⟩
 · rcases e : vN.ownBlock with _ | g
   · exact Or.inl rfl
   · exact Or.inr (fun e2 => by have := (h.names.lt g e).1; simp only [Option.some.injEq] at e2; omega)
 · simp only [Option.some.injEq] at e
   subst e
   exact ⟨fun e2 => by have := (h.got.row.lt R e2).1; omega, fun hm => by have := (h.got.lt R hm).1; omega⟩
mutual
def ndr : Kd → Nat
 | .mk _ _ ks => 3 + 3 * nds ks
def nds : List Kd → Nat
 | [] => 0
 | k :: r => ndr k + nds r
end
theorem nd_eq (k : Kd) : ndr k = 3 + 3 * nds k.kids := by obtain ⟨s, ns, ks⟩ := k; rw [ndr]; rfl
theorem nds_take : ∀ (ks : List Kd) (i : Nat), (hi : i < ks.length) → nds (ks.take (i + 1)) = nds (ks.take i) + ndr ks[i]
 | [], i, hi => by simp at hi
 | k :: r, 0, _ => by simp [nds]
 | k :: r, i + 1, hi => by
   have := nds_take r i (by simpa using hi)
   simp only [List.take_succ_cons, nds, List.getElem_cons_succ]
   rw [this]; omega
theorem nds_le : ∀ (ks : List Kd) (i : Nat), nds (ks.take i) ≤ nds ks
 | [], i => by simp
 | k :: r, 0 => by simp [nds]
 | k :: r, i + 1 => by
   have := nds_le r i
   simp only [List.take_succ_cons, nds]; omega
mutual
theorem nd_bd : ∀ (k : Kd) (d : Nat), d ≤ 6 → qT k (7 - (d : Int)) ≠ -1 → ndr k ≤ 3 ^ (d + 1) * ksz k
 | .mk s ns ks, d, hd, hq => by
   rw [qT] at hq
   by_cases h : 6 < 7 - (d : Int) ∨ shB (.mk s ns ks) = false
   · rw [if_pos h] at hq; exact absurd rfl hq
   · rw [if_neg h] at hq
     obtain ⟨d, rfl⟩ : ∃ e, d = e + 1 := ⟨d - 1, by omega⟩
     have := nds_bd ks d (by omega) 1 (by omega) (by rw [show (6 - (d : Int)) = 7 - ((d + 1 : Nat) : Int) from by omega]; exact hq)
     rw [ndr, ksz]
     have e : 3 ^ (d + 1 + 1) = 3 * 3 ^ (d + 1) := by rw [Nat.pow_succ, Nat.mul_comm]
     have h1 : 1 ≤ 3 ^ (d + 1) := Nat.one_le_pow _ _ (by decide)
     have e2 : 3 * 3 ^ (d + 1) * (1 + klsz ks) = 3 * 3 ^ (d + 1) + 3 * (3 ^ (d + 1) * klsz ks) := by rw [Nat.mul_add, Nat.mul_one, Nat.mul_assoc]
     rw [e, e2]
     omega
theorem nds_bd : ∀ (ks : List Kd) (d : Nat), d ≤ 6 → ∀ n : Int, 1 ≤ n → qK ks (6 - (d : Int)) n ≠ -1 → nds ks ≤ 3 ^ (d + 1) * klsz ks
 | [], d, hd, n, hn, hq => by simp [nds]
 | k :: r, d, hd, n, hn, hq => by
   rw [qK] at hq
   split at hq
   · exact absurd rfl hq
   · rename_i h
     have hb := qT_bd k (6 - (d : Int) + 1)
     have h1 := nd_bd k d hd (by rw [show (7 - (d : Int)) = 6 - (d : Int) + 1 from by omega]; omega)
     have h2 := nds_bd r d hd _ (by omega) hq
     rw [nds, klsz, Nat.mul_add]
     omega
end
theorem nd_ok {k : Kd} (h : 0 < qT k 1) : ndr k ≤ 100000 := by
 have h1 := nd_bd k 6 (by omega) (by rw [show (7 - ((6 : Nat) : Int)) = 1 from by omega]; omega)
 have h2 := (ok_of_qT h).2
 have : 3 ^ (6 + 1) * ksz k ≤ 3 ^ (6 + 1) * 40 := Nat.mul_le_mul_left _ h2
 have : 3 ^ (6 + 1) * 40 = 87480 := by decide
 omega
mutual
def nmT : Tr → Prop
 | .mk _ _ _ ns ks => ns.length ≤ 1000000 ∧ nmK ks
def nmK : List Tr → Prop
 | [] => True
 | t :: r => nmT t ∧ nmK r
end
theorem nmT_eq (t : Tr) : nmT t = (t.names.length ≤ 1000000 ∧ nmK t.kids) := by obtain ⟨s, n, x, ns, ks⟩ := t; rw [nmT]; rfl
theorem nmK_snoc {ts : List Tr} {t : Tr} (h : nmK ts) (ht : nmT t) : nmK (ts ++ [t]) := by
 induction ts with
 | nil => rw [List.nil_append, nmK]; exact ⟨ht, by rw [nmK]; trivial⟩
 | cons a r ih => rw [nmK] at h; rw [List.cons_append, nmK]; exact ⟨h.1, ih h.2⟩
theorem nmK_get : ∀ {ts : List Tr}, nmK ts → ∀ (i : Nat) (hi : i < ts.length), nmT ts[i]
 | [], _, i, hi => by simp at hi
 | t :: r, h, 0, _ => by rw [nmK] at h; exact h.1
 | t :: r, h, i + 1, hi => by rw [nmK] at h; exact nmK_get h.2 i (by simpa using hi)
theorem lsz_snoc (ts : List Tr) (t : Tr) : lsz (ts ++ [t]) = lsz ts + tsz t := by
 induction ts with
 | nil => simp [lsz]
 | cons a r ih => rw [List.cons_append, lsz, lsz, ih]; omega
def NmEnd (R : Nat) (w w' : World) (v : Value) (b : List UInt8) (p : Nat) (e : Ending) : Prop :=
 ∃ (z : Int) (p' : Nat), e = .returned (.int .i64 z) ∧ I64 z ∧ p' ≤ p + 3 ∧ Hid (DR R w' v b p') ∧ Hid (But R w w')
theorem l5Num_any (R : Nat) (w : World) (v : Value) (b : List UInt8) (p : Nat) (h : DR R w v b p) (hp : p ≤ 100000000) :
 Calls Tryz.prog 81 #[.pointer (some ⟨R, 0, none⟩)] w fun e w' => NmEnd R w w' v b p e := by
 have HPK := hH (pick_any R w v b p 9 h (by omega) (by omega))
 clear h
 go_enter Tryz.func81, Tryz.ntmps81
 go_wp2_with fail
 refine (uh HPK).mono ?_
 rintro e w1 ⟨r, rfl, hr, HD1, HB1⟩
 have HPN := hH (fun n (hn : 1 ≤ n ∧ n ≤ 1000000) => pick_any R w1 v b (p + 1) n HD1.out hn (by omega))
 clear HPK
 rcases (show r = 0 ∨ r = 1 ∨ r = 2 ∨ r = 3 ∨ 4 ≤ r by omega) with rfl | rfl | rfl | rfl | hr4
 · go_wp2_with fail
   go_ret
   exact ⟨_, p + 1, rfl, ⟨by decide, by decide⟩, by omega, HD1, HB1⟩
 · go_wp2_with fail
   go_ret
   exact ⟨_, p + 1, rfl, ⟨by decide, by decide⟩, by omega, HD1, HB1⟩
 · go_wp2_with fail
   refine (uh HPN 250 (by omega)).mono ?_
   rintro e w2 ⟨r2, rfl, hr2, HD2, HB2⟩
   have HP2 := hH (pick_any R w2 v b (p + 1 + 1) 200 HD2.out (by omega) (by omega))
   have hw1 : IntKind.i64.wrap ((r2 : Int) * 4000000) = (r2 : Int) * 4000000 := by rw [IntKind.wrap_i64]; omega
   go_wp2_with fail
   refine (uh HP2).mono ?_
   rintro e w3 ⟨r3, rfl, hr3, HD3, HB3⟩
   have hw2 : IntKind.i64.wrap ((r2 : Int) * 4000000 + (r3 : Int)) = (r2 : Int) * 4000000 + (r3 : Int) := by rw [IntKind.wrap_i64]; omega
   go_wp2_with fail
   go_ret
   exact ⟨_, p + 1 + 1 + 1, rfl, ⟨by omega, by omega⟩, by omega, HD3, HB1.out.trans (HB2.out.trans HB3.out)⟩
 · go_wp2_with fail
   refine (uh HPN 2 (by omega)).mono ?_
   rintro e w2 ⟨r2, rfl, hr2, HD2, HB2⟩
   have hw1 : IntKind.i64.wrap (127 + (r2 : Int)) = 127 + (r2 : Int) := by rw [IntKind.wrap_i64]; omega
   go_wp2_with fail
   go_ret
   exact ⟨_, p + 1 + 1, rfl, ⟨by omega, by omega⟩, by omega, HD2, HB1.out.trans HB2.out⟩
 · have z0 : ((r : Int) == 0) = false := beq_eq_false_iff_ne.2 (by omega)
   have z1 : ((r : Int) == 1) = false := beq_eq_false_iff_ne.2 (by omega)
   have z2 : ((r : Int) == 2) = false := beq_eq_false_iff_ne.2 (by omega)
   have z3 : ((r : Int) == 3) = false := beq_eq_false_iff_ne.2 (by omega)
   go_wp2_with fail
   refine (uh HPN 12 (by omega)).mono ?_
   rintro e w2 ⟨r2, rfl, hr2, HD2, HB2⟩
   have hw1 : IntKind.i64.wrap ((r2 : Int) - 3) = (r2 : Int) - 3 := by rw [IntKind.wrap_i64]; omega
   go_wp2_with fail
   go_ret
   exact ⟨_, p + 1 + 1, rfl, ⟨by omega, by omega⟩, by omega, HD2, HB1.out.trans HB2.out⟩
def TxEnd (R : Nat) (w w' : World) (v : Value) (b : List UInt8) (p : Nat) (e : Ending) : Prop :=
 ∃ (x : ByteArray) (p' : Nat), e = .returned (.string x) ∧ x.size ≤ 2000 ∧ p' ≤ p + 2 ∧ Hid (DR R w' v b p') ∧ Hid (But R w w')
def tx13 : List ByteArray := [⟨#[]⟩, ⟨#[97]⟩, ⟨#[97, 98]⟩, ⟨#[120, 32, 121]⟩, ⟨#[121, 101, 115]⟩, ⟨#[110, 111]⟩, ⟨#[126]⟩, ⟨#[49, 50]⟩, ⟨#[45, 51]⟩, ⟨#[97, 44, 98, 58, 99]⟩, ⟨#[91, 49, 93]⟩, ⟨#[108, 101, 102, 116]⟩, ⟨#[114, 105, 103, 104, 116]⟩]
theorem l5Text_any (R : Nat) (w : World) (v : Value) (b : List UInt8) (p : Nat) (h : DR R w v b p) (hp : p ≤ 1000000) :
 Calls Tryz.prog 82 #[.pointer (some ⟨R, 0, none⟩)] w fun e w' => TxEnd R w w' v b p e := by
 have HPK := hH (pick_any R w v b p 30 h (by omega) (by omega))
 clear h
 go_enter Tryz.func82, Tryz.ntmps82
 go_wp2_with fail
 refine (uh HPK).mono ?_
 rintro e w1 ⟨r, rfl, hr, HD1, HB1⟩
 clear HPK
 by_cases h0 : r = 0
 · subst h0
   have HM := hH (l6Many_any w1 ⟨#[120]⟩ 60 (by decide) (by omega))
   go_wp2_with fail
   refine (uh HM).mono ?_
   rintro e w2 ⟨out, rfl, ho, rfl⟩
   go_wp2_with fail
   go_ret
   exact ⟨out, p + 1, rfl, ho, by omega, HD1, HB1⟩
 · have z0 : ((r : Int) == 0) = false := beq_eq_false_iff_ne.2 (by omega)
   have HOF := hH (of_row R w1 v b (p + 1) HD1.out (by omega) tx13 (by decide) (by decide) (fun i hi => by
    have hi' : i < 13 := hi
    rcases (show i = 0 ∨ i = 1 ∨ i = 2 ∨ i = 3 ∨ i = 4 ∨ i = 5 ∨ i = 6 ∨ i = 7 ∨ i = 8 ∨ i = 9 ∨ i = 10 ∨ i = 11 ∨ i = 12 by omega) with rfl | rfl | rfl | rfl | rfl | rfl | rfl | rfl | rfl | rfl | rfl | rfl | rfl <;> decide))
   go_wp2_with fail
   refine (uh HOF).mono ?_
   rintro e w2 ⟨x, rfl, hx, HD2, HB2⟩
   go_wp2_with fail
   go_ret
   exact ⟨x, p + 1 + 1, rfl, hx, by omega, HD2, HB1.out.trans HB2.out⟩

theorem infoTreeD : (Tryz.prog.info? 26).map (fun i => (i.zero, i.size, i.bytes)) = some (some (.agg #[.int .i64 0, .int .i64 0, .string ByteArray.empty, .slice none 0 0, .slice none 0 0]), 5, 80) := by kernel_rfl
theorem Own.leafD (w : World) (s n : Int) (tx : ByteArray) (hs : I64 s) (hn : I64 n) (ht : tx.size ≤ 9223372036854775807) : Own w (.mk s n tx [] []) ⟨.int .i64 s, .int .i64 n, .string tx, .slice none 0 0, .slice none 0 0⟩ [] :=
 Own.make (t := .mk s n tx [] []) (F1 := []) (F2 := []) rfl rfl rfl hs hn ht ⟨none, 0, rfl, by simp [Tr.names], Or.inl ⟨rfl, rfl⟩⟩ ⟨none, 0, rfl, by simp [Tr.kids], Or.inl ⟨rfl, rfl⟩⟩
def TsEnd (N R : Nat) (w w' : World) (v : Value) (b : List UInt8) (p : Nat) (e : Ending) : Prop :=
 ∃ (t : Tr) (c : C5) (F : List Nat) (p' : Nat), e = .returned (.agg #[c.c0, c.c1, c.c2, c.c3, c.c4]) ∧ Own w' t c F ∧ F.Nodup ∧ (∀ x, x ∈ F → w.heap.size ≤ x ∧ x < w'.heap.size) ∧ DR R w' v b p' ∧ p' ≤ p + N ∧ But R w w' ∧ tsz t ≤ N ∧ nmT t
def LtSaid (n : Nat) : Prop := ∀ (k : Kd), ksz k < n → ∀ (P : Nat → Prop) (c : C3) (w : World) (R : Nat) (v : Value) (b : List UInt8) (p : Nat), (∀ x, P x → x < w.heap.size ∧ x ≠ R) → KRep P w k c → okD k = true → DR R w v b p → p + ndr k ≤ 1000000 →
 Calls Tryz.prog 54 #[.pointer (some ⟨R, 0, none⟩), .agg #[c.c0, c.c1, c.c2]] w fun e w' => TsEnd (ndr k) R w w' v b p e
theorem ts_end {N R : Nat} {w W : World} {v : Value} {b : List UInt8} {p p' : Nat} {t : Tr} {c : C5} {F : List Nat} (hR : R < w.heap.size) (ho : Own W t c F) (hnd : F.Nodup) (hF : ∀ x, x ∈ F → w.heap.size + 2 < x ∧ x < W.heap.size) (hd : DR R W v b p') (h1 : p' ≤ p + N) (hb : But R w W) (hsz : tsz t ≤ N ∧ nmT t) (c0 c1 c2 c3 c4 : Value) :
 TsEnd N R w (((((W.setCell ⟨w.heap.size + 1, 0, none⟩ c0).setCell ⟨w.heap.size + 1, 1, none⟩ c1).setCell ⟨w.heap.size + 1, 2, none⟩ c2).setCell ⟨w.heap.size + 1, 3, none⟩ c3).setCell ⟨w.heap.size + 1, 4, none⟩ c4) v b p (.returned (.agg #[c.c0, c.c1, c.c2, c.c3, c.c4])) := by
 refine ⟨t, c, F, p', rfl, Own.carry _ _ F (fun y hy => by have := (hF y hy).1; repeat rw [Below.heap_setCell _ _ _ _ (by simp; omega)]) ho, hnd, fun x hx => ⟨by have := (hF x hx).1; omega, by simp only [size_setCell]; exact (hF x hx).2⟩, ?_, h1, ?_, hsz⟩
 · repeat refine DR.set ?_ (by omega) _ _
   exact hd
 · repeat refine but_setx ?_ (by omega) _ _
   exact hb
structure LS (w W0 : World) (s : Int) (vN vK : Value) : Prop where
 size : W0.heap.size = w.heap.size + 3
 bl : Below w.heap.size w W0
 r0 : W0.rowIs w.heap.size 83 3 (row3 (.int .i64 s) vN vK)
 r1 : W0.rowIs (w.heap.size + 1) 26 5 (row5 (.int .i64 0) (.int .i64 0) (.string ⟨#[]⟩) (.slice none 0 0) (.slice none 0 0))
 r2 : W0.rowIs (w.heap.size + 2) 26 5 (row5 (.int .i64 s) (.int .i64 0) (.string ⟨#[]⟩) (.slice none 0 0) (.slice none 0 0))
theorem LS.start (w : World) (s : Int) (vN vK : Value) : LS w (((w.alloc (.cells #[.int .i64 s, vN, vK] 83)).alloc (.cells #[.int .i64 0, .int .i64 0, .string ⟨#[]⟩, .slice none 0 0, .slice none 0 0] 26)).alloc (.cells #[.int .i64 s, .int .i64 0, .string ⟨#[]⟩, .slice none 0 0, .slice none 0 0] 26)) s vN vK := by
 refine ⟨by simp, (((Below.refl _ _).alloc (Nat.le_refl _) _).alloc (by simp) _).alloc (by simp; omega) _, ((row3_alloc w _ _ _ _).alloc _).alloc _, ?_, ?_⟩
 · have q := row5_alloc (w.alloc (.cells #[.int .i64 s, vN, vK] 83)) (.int .i64 0) (.int .i64 0) (.string ⟨#[]⟩) (.slice none 0 0) (.slice none 0 0) 26
   rw [World.size_alloc] at q
   exact q.alloc _
 · have q := row5_alloc ((w.alloc (.cells #[.int .i64 s, vN, vK] 83)).alloc (.cells #[.int .i64 0, .int .i64 0, .string ⟨#[]⟩, .slice none 0 0, .slice none 0 0] 26)) (.int .i64 s) (.int .i64 0) (.string ⟨#[]⟩) (.slice none 0 0) (.slice none 0 0) 26
   rw [World.size_alloc, World.size_alloc] at q
   exact q
theorem lt_leaf {N R : Nat} {w W0 W : World} {v : Value} {b : List UInt8} {p p' : Nat} {s z : Int} {tx : ByteArray} {vN vK : Value} (hs : I64 s) (hz : I64 z) (ht : tx.size ≤ 9223372036854775807) (hR : R < w.heap.size) (hL : LS w W0 s vN vK) (hd : DR R W v b p') (h1 : p' ≤ p + N) (hN : 1 ≤ N) (hb : But R W0 W) (o : Nat) (u : Value) (c0 c1 c2 c3 c4 : Value) :
 TsEnd N R w ((((((W.setCell ⟨w.heap.size + 2, o, none⟩ u).setCell ⟨w.heap.size + 1, 0, none⟩ c0).setCell ⟨w.heap.size + 1, 1, none⟩ c1).setCell ⟨w.heap.size + 1, 2, none⟩ c2).setCell ⟨w.heap.size + 1, 3, none⟩ c3).setCell ⟨w.heap.size + 1, 4, none⟩ c4) v b p (.returned (.agg #[.int .i64 s, .int .i64 z, .string tx, .slice none 0 0, .slice none 0 0])) :=
 ts_end (t := .mk s z tx [] []) (c := ⟨_, _, _, _, _⟩) (F := []) hR (Own.leafD _ s z tx hs hz ht) List.nodup_nil (fun x hx => by cases hx) (hd.set (by omega) _ _) h1 (but_setx ((But.of_below hL.bl).trans hb) (by omega) _ _) ⟨by simp [tsz, lsz]; omega, by simp [nmT, nmK]⟩ c0 c1 c2 c3 c4
theorem lt_123 (k : Kd) (hk : k.sort = 1 ∨ k.sort = 2 ∨ k.sort = 3) (P : Nat → Prop) (c : C3) (w : World) (R : Nat) (v : Value) (b : List UInt8) (p : Nat) (hrep : KRep P w k c) (hd : DR R w v b p) (hp : p + ndr k ≤ 1000000) :
 Calls Tryz.prog 54 #[.pointer (some ⟨R, 0, none⟩), .agg #[c.c0, c.c1, c.c2]] w fun e w' => TsEnd (ndr k) R w w' v b p e := by
 have hnd : 3 ≤ ndr k := by rw [nd_eq]; omega
 have hR := hd.cells.lt
 obtain ⟨c0, c1, c2⟩ := c
 obtain ⟨e0, hi0, hns, a, cap, e2, -, hks⟩ := hrep.open
 simp only at e0 e2 hns
 obtain ⟨a3, cap3, e1, -, hnc⟩ := hns
 subst e0 e1 e2
 have hstart := fun s => LS.start w s (.slice a3 k.names.length cap3) (.slice a k.kids.length cap)
 have HST := hH hstart; have HD := hH hd
 clear hks hnc hrep hd hstart hi0
 generalize k.names.length = nN at *
 generalize k.kids.length = nK at *
 generalize ndr k = N at *
 rcases hk with hk | hk | hk
 all_goals
  rw [hk]
  clear hk
  go_enter Tryz.func54, Tryz.ntmps54
  go_wp2_with fail
 · have hL := uh HST 1
   generalize hW0 : (((w.alloc (.cells #[.int .i64 1, .slice a3 nN cap3, .slice a nK cap] 83)).alloc (.cells #[.int .i64 0, .int .i64 0, .string ⟨#[]⟩, .slice none 0 0, .slice none 0 0] 26)).alloc (.cells #[.int .i64 1, .int .i64 0, .string ⟨#[]⟩, .slice none 0 0, .slice none 0 0] 26)) = W0 at *
   clear hW0
   refine (l5Num_any R W0 v b p ((uh HD).on hL.bl) (by omega)).mono ?_
   rintro e w1 ⟨z, p', rfl, hz, hp', HD1, HB1⟩
   have r1 := hL.r1.of_block (HB1.out.at hL.r1.lt (by omega)); have r2 := hL.r2.of_block (HB1.out.at hL.r2.lt (by omega))
   obtain ⟨y0, y1, y2, y3, y4⟩ := cs5 r1 (by omega); have yf := r1.frozen
   obtain ⟨t0, t1, t2, t3, t4⟩ := cs5 r2 (by omega); have tf := r2.frozen
   simp only [row5] at y0 y1 y2 y3 y4 t0 t1 t2 t3 t4
   have HEND := hH (fun c0 c1 c2 c3 c4 => lt_leaf (N := N) (p := p) (s := 1) (tx := ⟨#[]⟩) ⟨by decide, by decide⟩ hz (by decide) hR hL HD1.out (by omega) (by omega) HB1.out 1 (.int .i64 z) c0 c1 c2 c3 c4)
   clear r1 r2 HD1 HB1 hL HST HD
   go_wp2_with fail
   refine bodyPost_ret (v := .agg #[.int .i64 1, .int .i64 z, .string ⟨#[]⟩, .slice none 0 0, .slice none 0 0]) (by simp [results, Tryz.results54, go_sem, y0, y1, y2, y3, y4]) rfl ?_
   exact uh HEND _ _ _ _ _
 · have hL := uh HST 2
   generalize hW0 : (((w.alloc (.cells #[.int .i64 2, .slice a3 nN cap3, .slice a nK cap] 83)).alloc (.cells #[.int .i64 0, .int .i64 0, .string ⟨#[]⟩, .slice none 0 0, .slice none 0 0] 26)).alloc (.cells #[.int .i64 2, .int .i64 0, .string ⟨#[]⟩, .slice none 0 0, .slice none 0 0] 26)) = W0 at *
   clear hW0
   refine (l5Text_any R W0 v b p ((uh HD).on hL.bl) (by omega)).mono ?_
   rintro e w1 ⟨z, p', rfl, hz, hp', HD1, HB1⟩
   have r1 := hL.r1.of_block (HB1.out.at hL.r1.lt (by omega)); have r2 := hL.r2.of_block (HB1.out.at hL.r2.lt (by omega))
   obtain ⟨y0, y1, y2, y3, y4⟩ := cs5 r1 (by omega); have yf := r1.frozen
   obtain ⟨t0, t1, t2, t3, t4⟩ := cs5 r2 (by omega); have tf := r2.frozen
   simp only [row5] at y0 y1 y2 y3 y4 t0 t1 t2 t3 t4
   have HEND := hH (fun c0 c1 c2 c3 c4 => lt_leaf (N := N) (p := p) (s := 2) (z := 0) (tx := z) ⟨by decide, by decide⟩ ⟨by decide, by decide⟩ (by omega) hR hL HD1.out (by omega) (by omega) HB1.out 2 (.string z) c0 c1 c2 c3 c4)
   clear r1 r2 HD1 HB1 hL HST HD
   go_wp2_with fail
   refine bodyPost_ret (v := .agg #[.int .i64 2, .int .i64 0, .string z, .slice none 0 0, .slice none 0 0]) (by simp [results, Tryz.results54, go_sem, y0, y1, y2, y3, y4]) rfl ?_
   exact uh HEND _ _ _ _ _
 · have hL := uh HST 3
   generalize hW0 : (((w.alloc (.cells #[.int .i64 3, .slice a3 nN cap3, .slice a nK cap] 83)).alloc (.cells #[.int .i64 0, .int .i64 0, .string ⟨#[]⟩, .slice none 0 0, .slice none 0 0] 26)).alloc (.cells #[.int .i64 3, .int .i64 0, .string ⟨#[]⟩, .slice none 0 0, .slice none 0 0] 26)) = W0 at *
   clear hW0
   refine (pick_any R W0 v b p 2 ((uh HD).on hL.bl) (by omega) (by omega)).mono ?_
   rintro e w1 ⟨z, rfl, hz, HD1, HB1⟩
   have r1 := hL.r1.of_block (HB1.out.at hL.r1.lt (by omega)); have r2 := hL.r2.of_block (HB1.out.at hL.r2.lt (by omega))
   obtain ⟨y0, y1, y2, y3, y4⟩ := cs5 r1 (by omega); have yf := r1.frozen
   obtain ⟨t0, t1, t2, t3, t4⟩ := cs5 r2 (by omega); have tf := r2.frozen
   simp only [row5] at y0 y1 y2 y3 y4 t0 t1 t2 t3 t4
   have HEND := hH (fun c0 c1 c2 c3 c4 => lt_leaf (N := N) (p := p) (s := 3) (z := (z : Int)) (tx := ⟨#[]⟩) ⟨by decide, by decide⟩ ⟨by omega, by omega⟩ (by decide) hR hL HD1.out (by omega) (by omega) HB1.out 1 (.int .i64 (z : Int)) c0 c1 c2 c3 c4)
   clear r1 r2 HD1 HB1 hL HST HD
   go_wp2_with fail
   refine bodyPost_ret (v := .agg #[.int .i64 3, .int .i64 (z : Int), .string ⟨#[]⟩, .slice none 0 0, .slice none 0 0]) (by simp [results, Tryz.results54, go_sem, y0, y1, y2, y3, y4]) rfl ?_
   exact uh HEND _ _ _ _ _
end Go.Proofs.YtbkagahmiibclaaGreatDoor
