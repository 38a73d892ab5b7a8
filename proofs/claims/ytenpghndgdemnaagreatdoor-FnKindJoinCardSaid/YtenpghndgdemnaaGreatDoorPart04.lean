/- The walks of the specification's l5Some, l6Rd.of: some schema, some text. Draws at most 10^8. -/
import Derived.Test.YtenpghndgdemnaaGreatDoorPart02
import Derived.Test.YtenpghndgdemnaaGreatDoorPart03
import Derived.Test.YtenpghndgdemnaaGreatDoorPart01
import Derived.Test.YtenpghndgdemnaaGreatDoorRows
import Derived.Test.YtenpghndgdemnaaGreatDoorPart00
import Derived.Lib.ItoaNum
import Derived.Lib.ItoaLen
import Derived.Lib.ItoaMem
import Derived.Deep.RegionWith
import Derived.WalkSmall
namespace Go.Proofs.YtenpghndgdemnaaGreatDoor
open Go Go.RowKit

theorem lk_all : ∀ d, d ≤ 9 → LkSaid d
  | 0, _ => l5Kind_zero
  | d + 1, h => l5Kind_step d (by omega) (lk_all d (by omega))

/-- What drawing a schema, not deep in memory of its own, comes to. -/
def SkEnd (N M R : Nat) (w w' : World) (v : Value) (b : List UInt8) (p : Nat) (e : Ending) : Prop :=
  ∃ (k : Kd) (c : C3) (p' : Nat), e = .returned (.agg #[c.c0, c.c1, c.c2]) ∧ KRep (fun x => w.heap.size ≤ x ∧ x < w'.heap.size) w' k c ∧ DR R w' v b p' ∧ p' ≤ p + N ∧ wKd k ≤ M ∧ But R w w'

/-- The answer is put into its box. -/
theorem sk_end {N M R : Nat} {w W : World} {v : Value} {b : List UInt8} {p p' : Nat} {k : Kd} {c : C3} (hR : R < w.heap.size) (ho : KRep (fun x => w.heap.size < x ∧ x < W.heap.size) W k c) (hd : DR R W v b p') (h1 : p' ≤ p + N) (h2 : wKd k ≤ M) (hb : But R w W) (c0 c1 c2 : Value) :
    SkEnd N M R w (((W.setCell ⟨w.heap.size, 0, none⟩ c0).setCell ⟨w.heap.size, 1, none⟩ c1).setCell ⟨w.heap.size, 2, none⟩ c2) v b p (.returned (.agg #[c.c0, c.c1, c.c2])) := by
  refine ⟨k, c, p', rfl, KRep.carry (fun x hx => by repeat rw [Below.heap_setCell _ _ _ _ (by simp; omega)]) (fun x hx => ⟨by omega, by simp only [size_setCell]; exact hx.2⟩) _ _ ho, ?_, h1, h2, ?_⟩
  · repeat refine DR.set ?_ hR _ _
    exact hd
  · repeat refine but_setx ?_ (Nat.le_refl _) _ _
    exact hb

/-- The same, of a schema that is ok. -/
def SoEnd (N M R : Nat) (w w' : World) (v : Value) (b : List UInt8) (p : Nat) (e : Ending) : Prop :=
  ∃ (k : Kd) (c : C3) (p' : Nat), e = .returned (.agg #[c.c0, c.c1, c.c2]) ∧ KRep (fun x => w.heap.size ≤ x ∧ x < w'.heap.size) w' k c ∧ DR R w' v b p' ∧ p' ≤ p + N ∧ wKd k ≤ M ∧ But R w w' ∧ 0 < qT k 1
theorem so_end {N M R : Nat} {w W : World} {v : Value} {b : List UInt8} {p p' : Nat} {k : Kd} {c : C3} (hR : R < w.heap.size) (ho : KRep (fun x => w.heap.size < x ∧ x < W.heap.size) W k c) (hd : DR R W v b p') (h1 : p' ≤ p + N) (h2 : wKd k ≤ M) (hb : But R w W) (hq : 0 < qT k 1) (c0 c1 c2 : Value) :
    SoEnd N M R w (((W.setCell ⟨w.heap.size, 0, none⟩ c0).setCell ⟨w.heap.size, 1, none⟩ c1).setCell ⟨w.heap.size, 2, none⟩ c2) v b p (.returned (.agg #[c.c0, c.c1, c.c2])) := by
  refine ⟨k, c, p', rfl, KRep.carry (fun x hx => by repeat rw [Below.heap_setCell _ _ _ _ (by simp; omega)]) (fun x hx => ⟨by omega, by simp only [size_setCell]; exact hx.2⟩) _ _ ho, ?_, h1, h2, ?_, hq⟩
  · repeat refine DR.set ?_ hR _ _
    exact hd
  · repeat refine but_setx ?_ (Nat.le_refl _) _ _
    exact hb

set_option maxRecDepth 100000 in
set_option maxHeartbeats 6400000 in
theorem l5Some_ok (R : Nat) (w : World) (v : Value) (b : List UInt8) (p : Nat) (top : Bool) (h : DR R w v b p) (hp : p ≤ 10000000) :
    Calls Tryz.prog 18 #[.pointer (some ⟨R, 0, none⟩), .bool top] w fun e w' => SoEnd 18724 4680 R w w' v b p e := by
  obtain ⟨hd0, hb0, hR⟩ := box3_start R w v b p h (.cells #[.int .i64 0, .slice none 0 0, .slice none 0 0] 26)
  have hX0 := row3_alloc w (.int .i64 0) (.slice none 0 0) (.slice none 0 0) 26
  have hsub : ∀ (W : World) (p2 r : Nat) (dp : Int), DR R W v b p2 → p2 ≤ 20000000 → r < 3 → dp = 2 + (r : Int) → Calls Tryz.prog 40 #[.pointer (some ⟨R, 0, none⟩), .int .i64 dp, .bool top] W fun e w' => ∃ (k : Kd) (x0 : Int) (ap : Option Addr) (np cp : Nat) (aq : Option Addr) (nq cq : Nat) (F : List Nat) (p' : Nat), e = .returned (.agg #[.int .i64 x0, .slice ap np cp, .slice aq nq cq]) ∧ Hid (OwnD w' k ⟨.int .i64 x0, .slice ap np cp, .slice aq nq cq⟩ F) ∧ Hid (∀ x, x ∈ F → W.heap.size ≤ x ∧ x < w'.heap.size) ∧ Hid (DR R w' v b p') ∧ p' ≤ p2 + 4680 ∧ wKd k ≤ 4680 ∧ Hid (But R W w') ∧ W.heap.size ≤ w'.heap.size := by
    rintro W p2 r dp hW hp2 hr hdp
    have hcd : cd (r + 1) ≤ 4680 := by
      rcases (show r = 0 ∨ r = 1 ∨ r = 2 by omega) with rfl | rfl | rfl <;> decide
    have hc := lk_all (r + 1) (by omega) R W v b p2 top hW (by omega)
    rw [show ((r + 1 : Nat) : Int) + 1 = dp from by omega] at hc
    refine hc.mono ?_
    rintro e w' ⟨k, ⟨x0, x1, x2⟩, F, p', rfl, ho, hnd, hF, hdr, h1, h2, hb⟩
    obtain ⟨g0, -, F1, F2, -, ⟨ap, cp, g1, -⟩, aq, cq, g2, -⟩ := ho.open
    simp only at g0 g1 g2
    subst g0 g1 g2
    exact ⟨k, _, _, _, _, _, _, _, F, p', rfl, ho, hF, hdr, by omega, by omega, hb, hb.size⟩
  have HSUB := hide hsub; have HX0 := hide hX0; have HD0 := hide hd0; have HB0 := hide hb0
  clear h hd0 hb0 hX0 hsub
  go_enter Tryz.func18, Tryz.ntmps18
  go_wp2_with fail
  go_loopw [5] (fun i wr => ∃ (m q : Nat), m ≤ 4 ∧ i = .int .i64 m ∧ q ≤ p + m * 4681 ∧ Hid (DR R wr v b q) ∧ Hid (But R w wr) ∧ Hid (wr.rowIs w.heap.size 26 3 (row3 (.int .i64 0) (.slice none 0 0) (.slice none 0 0)))) (fun i _ => 4 - (intOf i).toNat)
  case atStart => exact ⟨0, p, by omega, rfl, by omega, HD0, HB0, HX0⟩
  case round =>
    clear HD0 HB0 HX0
    obtain ⟨m, q, hm, rfl, hq, HD, HB, HX⟩ := hrel
    by_cases hlt : m < 4
    · have hqm : decide ((m : Int) < 4) = true := by simp; omega
      have HPK := hide (pick_any R wr v b q 3 HD.out (by omega) (by omega))
      go_wp2_with fail
      refine (unhide HPK).mono ?_
      rintro e w2 ⟨r3, rfl, hr3, HD2, HB2⟩
      have HB02 := hide (HB.out.trans HB2.out)
      have hXlt := HX.out.lt
      have HX2 := hide (HX.out.of_block (HB2.out.at hXlt (by omega)))
      have HC := hide (fun dp hdp => unhide HSUB w2 (q + 1) r3 dp HD2.out (by omega) hr3 hdp)
      have hw2 : IntKind.i64.wrap (2 + (r3 : Int)) = 2 + (r3 : Int) := by rw [IntKind.wrap_i64]; omega
      clear HPK HD HB HX HB2 HD2 hXlt
      go_wp2_with fail
      refine (unhide HC _ (by first | rfl | omega)).mono ?_
      rintro e w3 ⟨k, x0, ap, np, cp, aq, nq, cq, F, q', rfl, HO, HF, HD3, hq', hk', HB3, hs3⟩
      have hX2 := (unhide HX2).lt
      have HB03 := hide ((unhide HB02).trans HB3.out)
      have HX3 := hide ((unhide HX2).of_block (HB3.out.at hX2 (by omega)))
      have hs2 := (unhide HB02).size
      have hbx : ∀ o, Below w3.heap.size w3 (w3.alloc o) := fun o => (Below.refl _ _).alloc (Nat.le_refl _) o
      have HOK := hide (fun o => specKindOk_any k (· ∈ F) ⟨.int .i64 x0, .slice ap np cp, .slice aq nq cq⟩ (w3.alloc o) (fun x hx => by rw [World.size_alloc]; have := (HF.out x hx).2; omega) (KRep.carry (fun x hx => (hbx o).block x (HF.out x hx).2) (fun _ h => h) _ _ (OwnD.rep k _ F (fun _ h => h) HO.out)))
      have hlt3 : w.heap.size < w3.heap.size := by omega
      clear HC HB02 HX2 HB3 hbx
      cases hok : decide (0 < qT k 1) with
      | true =>
        rw [hok] at HOK
        have HQ := hide (of_decide_eq_true hok)
        clear hok
        go_wp2_with fail
        refine (unhide HOK _).mono ?_
        rintro e w4 ⟨rfl, hb4⟩
        have hs4 := hb4.size
        rw [World.size_alloc] at hs4
        have hbA : Below w3.heap.size w3 w4 := ((Below.refl _ w3).alloc (Nat.le_refl _) (.cells #[.int .i64 x0, .slice ap np cp, .slice aq nq cq] 26)).trans (hb4.mono (by simp))
        have hK4 := (row3_alloc w3 (.int .i64 x0) (.slice ap np cp) (.slice aq nq cq) 26).of_block (hb4.block _ (by simp))
        have hX4 := (unhide HX3).of_block (hbA.block _ (unhide HX3).lt)
        have p0 := hX4.cell (i := 0) (by omega); have p1 := hX4.cell (i := 1) (by omega); have p2 := hX4.cell (i := 2) (by omega); have pf := hX4.frozen
        have q0 := hK4.cell (i := 0) (by omega); have q1 := hK4.cell (i := 1) (by omega); have q2 := hK4.cell (i := 2) (by omega)
        simp only [row3] at p0 p1 p2 q0 q1 q2
        have hne : w.heap.size ≠ w3.heap.size := by omega
        have hne2 : w3.heap.size ≠ w.heap.size := by omega
        have HEND := hide (fun c0 c1 c2 => so_end (N := 18724) (M := 4680) (p := p) (p' := q') (c := ⟨.int .i64 x0, .slice ap np cp, .slice aq nq cq⟩) hR (KRep.carry (fun x hx => hbA.block x (HF.out x hx).2) (fun x (hx : x ∈ F) => ⟨by have := (HF.out x hx).1; omega, by have := (HF.out x hx).2; omega⟩) k _ (OwnD.rep k _ F (fun _ h => h) HO.out)) (HD3.out.on hbA) (by omega) hk' ((unhide HB03).trans (But.of_below hbA)) (unhide HQ) c0 c1 c2)
        clear hbA hK4 hX4 hb4 HOK HO HF HD3 HB03 HX3
        go_wp2_with fail
        refine bodyPost_ret (v := .agg #[.int .i64 x0, .slice ap np cp, .slice aq nq cq]) (by simp [results, Tryz.results18, go_sem, p0, p1, p2]) rfl ?_
        exact unhide HEND _ _ _
      | false =>
        rw [hok] at HOK
        clear hok
        go_wp2_with fail
        refine (unhide HOK _).mono ?_
        rintro e w4 ⟨rfl, hb4⟩
        have hbA : Below w3.heap.size w3 w4 := ((Below.refl _ w3).alloc (Nat.le_refl _) (.cells #[.int .i64 x0, .slice ap np cp, .slice aq nq cq] 26)).trans (hb4.mono (by simp))
        have HD4 := hide (HD3.out.on hbA); have HB4 := hide ((unhide HB03).trans (But.of_below hbA)); have HX4 := hide ((unhide HX3).of_block (hbA.block _ (unhide HX3).lt))
        clear hbA hb4 HOK HO HF HD3 HB03 HX3
        go_wp2_with fail
        go_roundw
        case rel => exact ⟨m + 1, q', by omega, by go_num, by omega, HD4, HB4, HX4⟩
        case measure => simp [intOf]; omega
    · have hqm : decide ((m : Int) < 4) = false := by simp; omega
      have p0 := HX.out.cell (i := 0) (by omega); have p1 := HX.out.cell (i := 1) (by omega); have p2 := HX.out.cell (i := 2) (by omega); have pf := HX.out.frozen
      simp only [row3] at p0 p1 p2
      have HEND := hide (fun c0 c1 c2 => so_end (N := 18724) (M := 4680) (p := p) (p' := q) (k := .mk 5 [] []) (c := ⟨.int .i64 5, .slice none 0 0, .slice none 0 0⟩) hR (OwnD.rep _ _ [] (fun _ h => by cases h) (OwnD.leaf wr 5 ⟨by decide, by decide⟩)) HD.out (by omega) (by simp [wKd, wS, wKs]) HB.out (by decide) c0 c1 c2)
      go_wp2_with fail
      refine bodyPost_ret (v := .agg #[.int .i64 5, .slice none 0 0, .slice none 0 0]) (by simp [results, Tryz.results18, go_sem, p0, p1, p2]) rfl ?_
      exact unhide HEND _ _ _

/-- One text of a list, drawn. -/
theorem of_any (R : Nat) (w : World) (v : Value) (b : List UInt8) (p : Nat) (h : DR R w v b p) (hp : p ≤ 100000000) (g n : Nat) (ss : Nat → ByteArray) (hn : 1 ≤ n ∧ n ≤ 1000) (hrow : w.rowIs g 9 n (fun i => .string (ss i))) (hg : R < g) :
    Calls Tryz.prog 42 #[.pointer (some ⟨R, 0, none⟩), .slice (some ⟨g, 0, none⟩) n n] w fun e w' => ∃ r, e = .returned (.string (ss r)) ∧ r < n ∧ Hid (DR R w' v b (p + 1)) ∧ Hid (But R w w') := by
  obtain ⟨hn1, hn2⟩ := hn
  have HPK := hide (pick_any R w v b p n h (by omega) (by omega))
  have HROW := hide hrow
  clear h hrow
  go_enter Tryz.func42, Tryz.ntmps42
  go_wp2_with fail
  refine (unhide HPK).mono ?_
  rintro e w2 ⟨r, rfl, hr, HD2, HB2⟩
  have e1 : w2.cell? ⟨g, r, none⟩ = some (.string (ss r)) := ((unhide HROW).of_block (HB2.out.at (unhide HROW).lt (by omega))).cell (i := r) hr
  have hix : (r : Int) < (n : Int) := by omega
  clear HROW HPK
  go_wp2_with fail
  go_ret
  exact ⟨r, rfl, hr, HD2, HB2⟩
end Go.Proofs.YtenpghndgdemnaaGreatDoor

/- Rows of schemas that share their memory: what is read of kids, laid in a new row, one kid put in another's place. No program walked; no conditions. -/

namespace Go.Proofs.YtenpghndgdemnaaGreatDoor
open Go Go.RowKit

/-- The cells of a row are those of schemas. -/
def KL3 (P : Nat → Prop) (w : World) (ks : List Kd) (xs : List Value) : Prop :=
  xs.length = ks.length * 3 ∧ ∀ i, (hi : i < ks.length) → ∃ c : C3, xs[i * 3]? = some c.c0 ∧ xs[i * 3 + 1]? = some c.c1 ∧ xs[i * 3 + 2]? = some c.c2 ∧ KRep P w ks[i] c

theorem KL3.carry {P Q : Nat → Prop} {w w' : World} {ks : List Kd} {xs : List Value} (h : KL3 P w ks xs) (hP : ∀ b, P b → w'.heap[b]? = w.heap[b]?) (hQ : ∀ b, P b → Q b) : KL3 Q w' ks xs :=
  ⟨h.1, fun i hi => by obtain ⟨c, h1, h2, h3, h4⟩ := h.2 i hi; exact ⟨c, h1, h2, h3, KRep.carry hP hQ _ _ h4⟩⟩

theorem KL3.of {P : Nat → Prop} {w : World} {b : Nat} : ∀ (ks : List Kd) (o : Nat), KRepK P w b o ks → ∃ xs, KL3 P w ks xs ∧ (∀ j u, xs[j]? = some u → w.cell? ⟨b, o + j, none⟩ = some u) ∧ ∀ u ∈ xs, u.oneCell' = true
  | [], o, _ => ⟨[], ⟨rfl, fun i hi => by simp at hi⟩, fun j u h => by simp at h, fun u h => by cases h⟩
  | t :: r, o, h => by
    rw [KRepK] at h
    obtain ⟨⟨c, ⟨a0, a1, a2⟩, hr⟩, h2⟩ := h
    obtain ⟨ys, ⟨hl, hy⟩, hc, h1c⟩ := KL3.of r (o + 3) h2
    obtain ⟨e0, -, ⟨a3, cap3, e1, -⟩, a4, cap4, e2, -⟩ := hr.open
    refine ⟨c.c0 :: c.c1 :: c.c2 :: ys, ⟨by simp [hl]; omega, fun i hi => ?_⟩, fun j u hj => ?_, fun u hu => ?_⟩
    · cases i with
      | zero => exact ⟨c, rfl, rfl, rfl, hr⟩
      | succ i =>
        obtain ⟨d, q0, q1, q2, q3⟩ := hy i (by simpa using hi)
        refine ⟨d, ?_, ?_, ?_, q3⟩
        · rw [show (i + 1) * 3 = i * 3 + 3 from by omega]; simpa using q0
        · rw [show (i + 1) * 3 + 1 = i * 3 + 1 + 3 from by omega]; simpa using q1
        · rw [show (i + 1) * 3 + 2 = i * 3 + 2 + 3 from by omega]; simpa using q2
    · match j with
      | 0 => simp at hj; subst hj; exact a0
      | 1 => simp at hj; subst hj; exact a1
      | 2 => simp at hj; subst hj; exact a2
      | j + 3 =>
        have := hc j u (by simpa using hj)
        rw [show o + (j + 3) = o + 3 + j from by omega]; exact this
    · rcases List.mem_cons.1 hu with rfl | hu
      · rw [e0]; rfl
      rcases List.mem_cons.1 hu with rfl | hu
      · rw [e1]; rfl
      rcases List.mem_cons.1 hu with rfl | hu
      · rw [e2]; rfl
      exact h1c u hu

theorem KL3.back {P : Nat → Prop} {w : World} {g : Nat} {ks : List Kd} {xs : List Value} (h : KL3 P w ks xs) (hc : ∀ j u, xs[j]? = some u → w.cell? ⟨g, j, none⟩ = some u) : KRepK P w g 0 ks :=
  KRepK.mk fun i hi => by
    obtain ⟨c, h1, h2, h3, h4⟩ := h.2 i hi
    exact ⟨c, ⟨by rw [Nat.zero_add]; exact hc _ _ h1, by rw [Nat.zero_add]; exact hc _ _ h2, by rw [Nat.zero_add]; exact hc _ _ h3⟩, h4⟩

/-- One more behind them. -/
theorem KL3.snoc {P : Nat → Prop} {w : World} {ks : List Kd} {xs : List Value} {k : Kd} {c : C3} (h : KL3 P w ks xs) (hk : KRep P w k c) : KL3 P w (ks ++ [k]) (xs ++ c3l c) := by
  obtain ⟨hl, h2⟩ := h
  refine ⟨by simp [hl, c3l]; omega, fun i hi => ?_⟩
  simp only [List.length_append, List.length_cons, List.length_nil] at hi
  by_cases e : i < ks.length
  · obtain ⟨d, q0, q1, q2, q3⟩ := h2 i e
    refine ⟨d, ?_, ?_, ?_, ?_⟩
    · rw [List.getElem?_append_left (by omega)]; exact q0
    · rw [List.getElem?_append_left (by omega)]; exact q1
    · rw [List.getElem?_append_left (by omega)]; exact q2
    · rw [List.getElem_append_left e]; exact q3
  · obtain rfl : i = ks.length := by omega
    refine ⟨c, ?_, ?_, ?_, ?_⟩
    · rw [List.getElem?_append_right (by omega), hl]; simp [c3l]
    · rw [List.getElem?_append_right (by omega), hl]; simp [c3l, show ks.length * 3 + 1 - ks.length * 3 = 1 from by omega]
    · rw [List.getElem?_append_right (by omega), hl]; simp [c3l, show ks.length * 3 + 2 - ks.length * 3 = 2 from by omega]
    · simpa using hk

/-- One in another's place. -/
theorem KL3.put {P : Nat → Prop} {w : World} {ks : List Kd} {xs : List Value} {k : Kd} {c : C3} {i : Nat} (h : KL3 P w ks xs) (hi : i < ks.length) (hk : KRep P w k c) : KL3 P w (ks.set i k) (((xs.set (i * 3) c.c0).set (i * 3 + 1) c.c1).set (i * 3 + 2) c.c2) := by
  obtain ⟨hl, h2⟩ := h
  refine ⟨by simp [hl], fun j hj => ?_⟩
  rw [List.length_set] at hj
  by_cases e : i = j
  · subst e
    refine ⟨c, ?_, ?_, ?_, by simpa using hk⟩
    · rw [List.getElem?_set_ne (by omega), List.getElem?_set_ne (by omega), List.getElem?_set_self (by omega)]
    · rw [List.getElem?_set_ne (by omega), List.getElem?_set_self (by simp; omega)]
    · rw [List.getElem?_set_self (by simp; omega)]
  · obtain ⟨d, q0, q1, q2, q3⟩ := h2 j hj
    refine ⟨d, ?_, ?_, ?_, by rw [List.getElem_set_ne e]; exact q3⟩
    · rw [List.getElem?_set_ne (by omega), List.getElem?_set_ne (by omega), List.getElem?_set_ne (by omega)]; exact q0
    · rw [List.getElem?_set_ne (by omega), List.getElem?_set_ne (by omega), List.getElem?_set_ne (by omega)]; exact q1
    · rw [List.getElem?_set_ne (by omega), List.getElem?_set_ne (by omega), List.getElem?_set_ne (by omega)]; exact q2

theorem wKs_set : ∀ (ks : List Kd) (i : Nat) (k : Kd) (hi : i < ks.length), wKs (ks.set i k) + wKd ks[i] = wKs ks + wKd k
  | a :: r, 0, k, _ => by simp [wKs]; omega
  | a :: r, i + 1, k, hi => by
    have := wKs_set r i k (by simpa using hi)
    simp only [List.set_cons_succ, wKs, List.getElem_cons_succ]; omega
theorem wKs_get : ∀ (ks : List Kd) (i : Nat) (hi : i < ks.length), wKd ks[i] + 1 ≤ wKs ks
  | a :: r, 0, _ => by simp [wKs]; omega
  | a :: r, i + 1, hi => by
    have := wKs_get r i (by simpa using hi)
    simp only [wKs, List.getElem_cons_succ]; omega
theorem ownsRow_put {w : World} {base : Nat} {e : TypeId} {size g n cap : Nat} {xs : List Value} (h : w.ownsRow base e size (.slice (some ⟨g, 0, none⟩) n cap) n xs) (j : Nat) (u : Value) : (w.setCell ⟨g, j, none⟩ u).ownsRow base e size (.slice (some ⟨g, 0, none⟩) n cap) n (xs.set j u) := by
  rcases h.2 with ⟨hv, _⟩ | ⟨g', cap', cur, hv, hb, hg, hnc, hcm, hcs, htk⟩
  · simp at hv
  · simp only [Value.slice.injEq, Option.some.injEq, Addr.mk.injEq, and_true, true_and] at hv
    obtain ⟨rfl, rfl⟩ := hv
    refine ⟨by rw [List.length_set]; exact h.1, Or.inr ⟨g, cap, cur.setIfInBounds j u, rfl, hb, ?_, hnc, hcm, by rw [Array.size_setIfInBounds]; exact hcs, ?_⟩⟩
    · simp [World.setCell, Array.getElem?_modify, hg]
    · rw [Array.toList_setIfInBounds, List.take_set, htk]

theorem ownsRow_free {w : World} {base : Nat} {e : TypeId} {size g n cap : Nat} {xs : List Value} (h : w.ownsRow base e size (.slice (some ⟨g, 0, none⟩) n cap) n xs) (j : Nat) : w.frozen? ⟨g, j, none⟩ = false := by
  rcases h.2 with ⟨hv, _⟩ | ⟨g', cap', cur, hv, hb, hg, _⟩
  · simp at hv
  · simp only [Value.slice.injEq, Option.some.injEq, Addr.mk.injEq, and_true, true_and] at hv
    obtain ⟨rfl, -⟩ := hv
    simp [World.frozen?, hg]

/-- An empty row of a call's own. -/
theorem empty_row {w : World} {g base : Nat} {e : TypeId} {size : Nat} {f : Nat → Value} (h : w.rowIs g e 0 f) (hb : base ≤ g) : w.ownsRow base e size (.slice (some ⟨g, 0, none⟩) 0 0) 0 [] := by
  obtain ⟨c, h1, h2, -⟩ := h
  exact ⟨by simp, Or.inr ⟨g, 0, c, rfl, hb, h1, Nat.le_refl _, by decide, by omega, by simp⟩⟩
end Go.Proofs.YtenpghndgdemnaaGreatDoor

/- Digits as bytes and strings; small laws. No program walked, no conditions. -/

namespace Go.Proofs.YtenpghndgdemnaaGreatDoor
open Go Go.RowKit

/-- A digit's byte. -/
def dg (m : Int) : UInt8 := UInt8.ofNat (48 + m.toNat)
theorem dg_nat {m : Int} (h0 : 0 ≤ m) (h1 : m < 10) : ((dg m).toNat : Int) = 48 + m := by unfold dg; rw [UInt8.toNat_ofNat']; omega
theorem dec_small {n : Int} (h : n < 10) : Lib.decDigits n.toNat = [dg n] := by rw [Lib.decDigits, dif_pos (by omega)]; rfl
theorem dec_big {n : Int} (h : ¬ n < 10) : Lib.decDigits n.toNat = Lib.decDigits (n / 10).toNat ++ [dg (n % 10)] := by
  rw [Lib.decDigits, dif_neg (by omega), show (n / 10).toNat = n.toNat / 10 from by omega, show dg (n % 10) = UInt8.ofNat (48 + n.toNat % 10) from by unfold dg; rw [show (n % 10).toNat = n.toNat % 10 from by omega]]

/-- One byte, as a string. -/
theorem conv_one (W : World) (b cap : Nat) (m : Int) (h0 : 0 ≤ m) (h1 : m < 10) (hc : W.cell? ⟨b, 0, none⟩ = some (.int .u8 (48 + m))) :
    Sem.run Tryz.prog (convert 22 9 (.slice (some ⟨b, 0, none⟩) 1 cap)) W = .ok (.string ⟨#[dg m]⟩) W := by
  have := run_convert_bytes_back (P := Tryz.prog) W 22 9 5 ⟨b, 0, none⟩ cap [dg m] Tryz.underlying22 Tryz.underlying5 Tryz.underlying9 (fun j hj => by
    have hj0 : j = 0 := by simpa using hj
    subst hj0
    rw [Addr.add_lit, hc]
    simp only [List.getElem_cons_zero]
    rw [dg_nat h0 h1])
  simpa using this

theorem quo10 {n : Int} (h0 : 0 ≤ n) (h1 : n ≤ 999999999) : IntKind.i64.wrap (n.tdiv 10) = n / 10 := by
  rw [IntKind.wrap_i64, Int.tdiv_eq_ediv_of_nonneg h0]; omega
theorem rem10 {n : Int} (h0 : 0 ≤ n) : IntKind.i64.wrap (48 + n.tmod 10) = 48 + n % 10 := by
  rw [IntKind.wrap_i64, Int.tmod_eq_emod_of_nonneg h0]; omega
theorem rem10b (n : Int) : IntKind.u8.wrap (48 + n % 10) = 48 + n % 10 := by
  rw [IntKind.wrap_u8]; omega

theorem ba_append (a b : List UInt8) : ((⟨a.toArray⟩ : ByteArray) ++ (⟨b.toArray⟩ : ByteArray)) = ⟨(a ++ b).toArray⟩ := by
  apply ByteArray.ext
  simp
theorem ret_str {a b : ByteArray} (h : a = b) : Ending.returned (.string a) = .returned (.string b) := by rw [h]
theorem bc1 {w w1 : World} {o : Obj} (h : Below w.drew.heap.size w.drew w1) : Below w.heap.size w (w1.alloc o) :=
  (((Below.refl _ w).drew).trans h).alloc h.size o
theorem bc2 {w w1 : World} {o : Obj} (h : Below (w.alloc o).drew.heap.size (w.alloc o).drew w1) : Below w.heap.size w w1 :=
  (((Below.refl _ w).alloc (Nat.le_refl _) o).drew).trans (h.mono (by simp))
end Go.Proofs.YtenpghndgdemnaaGreatDoor

/- The walk of the specification's l6Dec: it gives the decimals of a number. For numbers from -999999999 to 999999999. -/

namespace Go.Proofs.YtenpghndgdemnaaGreatDoor
open Go Go.RowKit

set_option maxRecDepth 100000 in
set_option maxHeartbeats 400000 in
theorem l6Dec_nat : ∀ (k : Nat) (n : Int) (w : World), 0 ≤ n → n < k → n ≤ 999999999 →
    Calls Tryz.prog 43 #[.int .i64 n] w fun e w' => e = .returned (.string ⟨(Lib.decDigits n.toNat).toArray⟩) ∧ Below w.heap.size w w' := by
  intro k
  induction k with
  | zero => intro n w h0 h; omega
  | succ k ih =>
    intro n w hn0 hk hu
    by_cases h10 : n < 10
    · have HD := hide (dec_small h10)
      have hconv := fun W b cap => conv_one W b cap n hn0 h10
      clear ih
      go_enter Tryz.func43, Tryz.ntmps43
      go_wp2_with fail
      go_ret
      exact ⟨by rw [unhide HD]; rfl, (Below.refl _ _).alloc (Nat.le_refl _) _⟩
    · have HD := hide (dec_big h10)
      have hconv := fun W b cap => conv_one W b cap (n % 10) (by omega) (by omega)
      have hl := Lib.itoa_length_le (n / 10) (by omega) (by omega)
      have HIH := hide (fun W => (ih (n / 10) W (by omega) (by omega) (by omega)).mono (fun e w' (h : e = .returned (.string ⟨(Lib.decDigits (n / 10).toNat).toArray⟩) ∧ Below W.heap.size W w') => (⟨h.1, h.2, fun b o hb => h.2.cell (p := ⟨b, o, none⟩) hb⟩ : e = .returned (.string ⟨(Lib.decDigits (n / 10).toNat).toArray⟩) ∧ Below W.heap.size W w' ∧ ∀ b o, b < W.heap.size → w'.cell? ⟨b, o, none⟩ = W.cell? ⟨b, o, none⟩)))
      have hq1 := quo10 hn0 hu
      have hq2 := rem10 hn0
      have hq3 := rem10b n
      have hb0 : 0 ≤ n / 10 := by omega
      have hb1 : 0 ≤ n % 10 := by omega
      have hb2 : n % 10 < 10 := by omega
      have hl2 : (Lib.decDigits (n / 10).toNat).length ≤ 21 := by
        have : Lib.itoa (n / 10) = Lib.decDigits (n / 10).toNat := by unfold Lib.itoa; rw [if_neg (by omega)]
        rw [← this]; exact hl
      generalize Lib.decDigits (n / 10).toNat = ds at *
      clear ih hl
      go_enter Tryz.func43, Tryz.ntmps43
      go_wp2_with fail
      go_region_with (go_at_call 43; refine (unhide HIH _).mono ?_; rintro e w1 ⟨rfl, hb, hcell⟩; have HB := hide hb; clear hb)
      all_goals
        go_wp2_with fail
        go_ret
        refine ⟨ret_str ?_, ?_⟩
        · rw [unhide HD]; exact ba_append _ _
        · first | exact bc1 (unhide HB) | exact bc2 (unhide HB)

end Go.Proofs.YtenpghndgdemnaaGreatDoor
