/- The walk of the specification's l5Any: some tree, in memory that the call made. Draws at most 10^6. -/
import Derived.Test.YtbkagahmiibclaaGreatDoorPart11
import Derived.Test.YtbkagahmiibclaaGreatDoorPart00
namespace Go.Proofs.YtbkagahmiibclaaGreatDoor
open Go Go.RowKit

theorem spoilT_all : ∀ n, SqSaid n
  | 0 => fun t h => by omega
  | n + 1 => l5SpoilT_step n (spoilT_all n)

/-- What drawing a tree comes to. -/
def AnEnd (N R : Nat) (w w' : World) (v : Value) (b : List UInt8) (p : Nat) (e : Ending) : Prop :=
  ∃ (t : Tr) (c : C5) (p' : Nat), e = .returned (.agg #[c.c0, c.c1, c.c2, c.c3, c.c4]) ∧ Rep (fun x => w.heap.size ≤ x ∧ x < w'.heap.size) w' t c ∧ DR R w' v b p' ∧ p' ≤ p + N ∧ But R w w'
theorem an_end {N R : Nat} {w W : World} {v : Value} {b : List UInt8} {p p' : Nat} {t : Tr} {c : C5} (hR : R < w.heap.size) (hr : Rep (fun x => w.heap.size < x ∧ x < W.heap.size) W t c) (hd : DR R W v b p') (h1 : p' ≤ p + N) (hb : But R w W) (d0 d1 d2 d3 d4 : Value) :
    AnEnd N R w (((((W.setCell ⟨w.heap.size, 0, none⟩ d0).setCell ⟨w.heap.size, 1, none⟩ d1).setCell ⟨w.heap.size, 2, none⟩ d2).setCell ⟨w.heap.size, 3, none⟩ d3).setCell ⟨w.heap.size, 4, none⟩ d4) v b p (.returned (.agg #[c.c0, c.c1, c.c2, c.c3, c.c4])) := by
  refine ⟨t, c, p', rfl, Rep.carry (fun x hx => by repeat rw [Below.heap_setCell _ _ _ _ (by simp; omega)]) (fun x hx => ⟨by omega, by simp only [size_setCell]; exact hx.2⟩) _ _ hr, ?_, h1, ?_⟩
  · repeat refine DR.set ?_ hR _ _
    exact hd
  · repeat refine but_setx ?_ (Nat.le_refl _) _ _
    exact hb

/-- A tree of some schema, drawn. -/
theorem someTree_any (R : Nat) (w : World) (v : Value) (b : List UInt8) (p : Nat) (k : Kd) (c : C3) (lo : Nat) (hlo : R < lo) (hr : KRep (fun x => lo ≤ x ∧ x < w.heap.size) w k c) (hq : 0 < qT k 1) (hd : DR R w v b p) (hp : p ≤ 800000) :
    Calls Tryz.prog 54 #[.pointer (some ⟨R, 0, none⟩), .agg #[c.c0, c.c1, c.c2]] w fun e w' => TsEnd 100000 R w w' v b p e := by
  have hn := nd_ok hq
  refine (lt_all (ksz k + 1) k (by omega) _ c w R v b p (fun x hx => ⟨hx.2, by omega⟩) hr (ok_of_qT hq).1 hd (by omega)).mono ?_
  rintro e w' ⟨t, c, F, p', h1, h2, h3, h4, h5, h6, h7, h8, h9⟩
  exact ⟨t, c, F, p', h1, h2, h3, h4, h5, by omega, h7, by omega, h9⟩

set_option maxRecDepth 100000 in
set_option maxHeartbeats 6400000 in
theorem l5Any_any (R : Nat) (w : World) (v : Value) (b : List UInt8) (p : Nat) (h : DR R w v b p) (hp : p ≤ 200000) :
    Calls Tryz.prog 56 #[.pointer (some ⟨R, 0, none⟩)] w fun e w' => AnEnd 900000 R w w' v b p e := by
  have hR := h.cells.lt
  have hX0 := row5_alloc w (.int .i64 0) (.int .i64 0) (.string ⟨#[]⟩) (.slice none 0 0) (.slice none 0 0) 26
  have hd0 := h.on ((Below.refl _ w).alloc (Nat.le_refl _) (.cells #[.int .i64 0, .int .i64 0, .string ⟨#[]⟩, .slice none 0 0, .slice none 0 0] 26))
  have hb0 := But.alloc R w (.cells #[.int .i64 0, .int .i64 0, .string ⟨#[]⟩, .slice none 0 0, .slice none 0 0] 26)
  have hz0 : (w.alloc (.cells #[.int .i64 0, .int .i64 0, .string ⟨#[]⟩, .slice none 0 0, .slice none 0 0] 26)).heap.size = w.heap.size + 1 := World.size_alloc _ _
  have HX0 := hide hX0; have HB0 := hide hb0; have HD0 := hide hd0; have HZ0 := hide hz0
  clear hX0 hd0 hb0 h hz0
  go_enter Tryz.func56, Tryz.ntmps56
  go_wp2_with fail
  generalize w.alloc (.cells #[.int .i64 0, .int .i64 0, .string ⟨#[]⟩, .slice none 0 0, .slice none 0 0] 26) = W0 at *
  have hz0 := unhide HZ0
  refine (pick_any R W0 v b p 24 (unhide HD0) (by omega) (by omega)).mono ?_
  rintro e w1 ⟨r, rfl, hr, HD1, HB1⟩
  have hs1 := HB1.out.size
  clear HD0 HZ0
  rcases (show r = 0 ∨ r = 1 ∨ r = 2 ∨ r = 3 ∨ 4 ≤ r by omega) with rfl | rfl | rfl | rfl | hr4
  · go_wp2_with fail
    refine (pick_any R w1 v b (p + 1) 2 HD1.out (by omega) (by omega)).mono ?_
    rintro e w2 ⟨r2, rfl, hr2, HD2, HB2⟩
    have hs2 := HB2.out.size
    have hwr : IntKind.i64.wrap (120 + (r2 : Int)) = 120 + (r2 : Int) := by rw [IntKind.wrap_i64]; omega
    have hc := l5Full_any w2 (120 + r2) (by omega)
    rw [show ((120 + r2 : Nat) : Int) = 120 + (r2 : Int) from by omega] at hc
    have HC := hide hc
    clear hc
    go_wp2_with fail
    refine (unhide HC).mono ?_
    rintro e w3 ⟨tt, ⟨x0, x1, x2, x3, x4⟩, rfl, hrep0, hb3⟩
    have hbW : But R W0 w3 := HB1.out.trans (HB2.out.trans (But.of_below hb3))
    have hrep := Rep.carry (w' := w3) (Q := fun x => w.heap.size < x ∧ x < w3.heap.size) (fun _ _ => rfl) (fun x hx => by omega) _ _ hrep0
    have hdf := HD2.out.on hb3
    clear hrep0 HD1 HB1 HD2 HB2 HC hb3
    obtain ⟨g0, g1, g2, -, -, -, ⟨a3, cap3, g3, -⟩, a4, cap4, g4, -⟩ := hrep.open
    simp only at g0 g1 g2 g3 g4
    subst g0 g1 g2 g3 g4
    have hbf : But R w w3 := (unhide HB0).trans hbW
    have hXf := (unhide HX0).of_block (hbW.at (unhide HX0).lt (by omega))
    have y0 := hXf.cell (i := 0) (by omega); have y1 := hXf.cell (i := 1) (by omega); have y2 := hXf.cell (i := 2) (by omega); have y3 := hXf.cell (i := 3) (by omega); have y4 := hXf.cell (i := 4) (by omega); have yf := hXf.frozen
    simp only [row5] at y0 y1 y2 y3 y4
    have HEND := hide (fun d0 d1 d2 d3 d4 => an_end (N := 900000) (p := p) hR hrep hdf (by omega) hbf d0 d1 d2 d3 d4)
    generalize tt.names.length = nN at *
    generalize tt.kids.length = nK at *
    clear hrep hdf hbf hbW hXf HX0 HB0
    go_wp2_with fail
    refine bodyPost_ret (v := .agg #[.int .i64 tt.sort, .int .i64 tt.num, .string tt.text, .slice a3 nN cap3, .slice a4 nK cap4]) (by simp [results, Tryz.results56, go_sem, y0, y1, y2, y3, y4]) rfl ?_
    exact unhide HEND _ _ _ _ _
  · go_wp2_with fail
    refine (pick_any R w1 v b (p + 1) 2 HD1.out (by omega) (by omega)).mono ?_
    rintro e w2 ⟨r2, rfl, hr2, HD2, HB2⟩
    have hs2 := HB2.out.size
    have hwr : IntKind.i64.wrap (6 + (r2 : Int)) = 6 + (r2 : Int) := by rw [IntKind.wrap_i64]; omega
    have hc := l5Deep_any w2 (6 + r2) (by omega)
    rw [show ((6 + r2 : Nat) : Int) = 6 + (r2 : Int) from by omega] at hc
    have HC := hide hc
    clear hc
    go_wp2_with fail
    refine (unhide HC).mono ?_
    rintro e w3 ⟨tt, ⟨x0, x1, x2, x3, x4⟩, rfl, hrep0, hb3⟩
    have hbW : But R W0 w3 := HB1.out.trans (HB2.out.trans (But.of_below hb3))
    have hrep := Rep.carry (w' := w3) (Q := fun x => w.heap.size < x ∧ x < w3.heap.size) (fun _ _ => rfl) (fun x hx => by omega) _ _ hrep0
    have hdf := HD2.out.on hb3
    clear hrep0 HD1 HB1 HD2 HB2 HC hb3
    obtain ⟨g0, g1, g2, -, -, -, ⟨a3, cap3, g3, -⟩, a4, cap4, g4, -⟩ := hrep.open
    simp only at g0 g1 g2 g3 g4
    subst g0 g1 g2 g3 g4
    have hbf : But R w w3 := (unhide HB0).trans hbW
    have hXf := (unhide HX0).of_block (hbW.at (unhide HX0).lt (by omega))
    have y0 := hXf.cell (i := 0) (by omega); have y1 := hXf.cell (i := 1) (by omega); have y2 := hXf.cell (i := 2) (by omega); have y3 := hXf.cell (i := 3) (by omega); have y4 := hXf.cell (i := 4) (by omega); have yf := hXf.frozen
    simp only [row5] at y0 y1 y2 y3 y4
    have HEND := hide (fun d0 d1 d2 d3 d4 => an_end (N := 900000) (p := p) hR hrep hdf (by omega) hbf d0 d1 d2 d3 d4)
    generalize tt.names.length = nN at *
    generalize tt.kids.length = nK at *
    clear hrep hdf hbf hbW hXf HX0 HB0
    go_wp2_with fail
    refine bodyPost_ret (v := .agg #[.int .i64 tt.sort, .int .i64 tt.num, .string tt.text, .slice a3 nN cap3, .slice a4 nK cap4]) (by simp [results, Tryz.results56, go_sem, y0, y1, y2, y3, y4]) rfl ?_
    exact unhide HEND _ _ _ _ _
  · skip
    go_wp2_with fail
    refine (l5Some_ok R w1 v b (p + 1) true HD1.out (by omega)).mono ?_
    rintro e w2 ⟨k, ⟨k0, k1, k2⟩, p2, rfl, hk, hd2, hp2, -, hb2, hq⟩
    have hs2 := hb2.size
    have HC := hide (someTree_any R w2 v b p2 k ⟨k0, k1, k2⟩ w1.heap.size (by omega) hk hq hd2 (by omega))
    clear hk hq hd2
    go_wp2_with fail
    refine (unhide HC).mono ?_
    rintro e w3 ⟨t3, ⟨u0, u1, u2, u3, u4⟩, F, p3, rfl, ho, hnd, hF, hd3, hp3, hb3, hz3, hnm3⟩
    have hs3 := hb3.size
    have HC3 := hide (spoilT_all (tsz t3 + 1) t3 (by omega) (· ∈ F) R w3 v b p3 ⟨u0, u1, u2, u3, u4⟩ hd3 (fun x hx => by have := hF x hx; omega) (Own.rep _ _ F (fun _ h => h) ho) (by omega) (by omega) hnm3)
    have HFF := hide hF
    clear HC ho hnd hF hd3
    go_wp2_with fail
    refine (unhide HC3).mono ?_
    rintro e w4 ⟨tt, ⟨x0, x1, x2, x3, x4⟩, p4, rfl, hrep0, hdf, hp4, hb4⟩
    have hs4 := hb4.size
    have hbW : But R W0 w4 := HB1.out.trans (hb2.trans (hb3.trans hb4))
    have hrep := Rep.carry (w' := w4) (Q := fun x => w.heap.size < x ∧ x < w4.heap.size) (fun _ _ => rfl) (fun x hx => by
      rcases hx with h | h
      · have := unhide HFF x h; omega
      · omega) _ _ hrep0
    clear hrep0 HD1 HB1 hb2 hb3 hb4 HC3 HFF
    obtain ⟨g0, g1, g2, -, -, -, ⟨a3, cap3, g3, -⟩, a4, cap4, g4, -⟩ := hrep.open
    simp only at g0 g1 g2 g3 g4
    subst g0 g1 g2 g3 g4
    have hbf : But R w w4 := (unhide HB0).trans hbW
    have hXf := (unhide HX0).of_block (hbW.at (unhide HX0).lt (by omega))
    have y0 := hXf.cell (i := 0) (by omega); have y1 := hXf.cell (i := 1) (by omega); have y2 := hXf.cell (i := 2) (by omega); have y3 := hXf.cell (i := 3) (by omega); have y4 := hXf.cell (i := 4) (by omega); have yf := hXf.frozen
    simp only [row5] at y0 y1 y2 y3 y4
    have HEND := hide (fun d0 d1 d2 d3 d4 => an_end (N := 900000) (p := p) hR hrep hdf (by omega) hbf d0 d1 d2 d3 d4)
    generalize tt.names.length = nN at *
    generalize tt.kids.length = nK at *
    clear hrep hdf hbf hbW hXf HX0 HB0
    go_wp2_with fail
    refine bodyPost_ret (v := .agg #[.int .i64 tt.sort, .int .i64 tt.num, .string tt.text, .slice a3 nN cap3, .slice a4 nK cap4]) (by simp [results, Tryz.results56, go_sem, y0, y1, y2, y3, y4]) rfl ?_
    exact unhide HEND _ _ _ _ _
  · skip
    go_wp2_with fail
    refine (l5Some_ok R w1 v b (p + 1) true HD1.out (by omega)).mono ?_
    rintro e w2 ⟨k, ⟨k0, k1, k2⟩, p2, rfl, hk, hd2, hp2, -, hb2, hq⟩
    have hs2 := hb2.size
    have HC := hide (someTree_any R w2 v b p2 k ⟨k0, k1, k2⟩ w1.heap.size (by omega) hk hq hd2 (by omega))
    clear hk hq hd2
    go_wp2_with fail
    refine (unhide HC).mono ?_
    rintro e w3 ⟨t3, ⟨u0, u1, u2, u3, u4⟩, F, p3, rfl, ho, hnd, hF, hd3, hp3, hb3, hz3, hnm3⟩
    have hs3 := hb3.size
    have HC3 := hide (spoilT_all (tsz t3 + 1) t3 (by omega) (· ∈ F) R w3 v b p3 ⟨u0, u1, u2, u3, u4⟩ hd3 (fun x hx => by have := hF x hx; omega) (Own.rep _ _ F (fun _ h => h) ho) (by omega) (by omega) hnm3)
    have HFF := hide hF
    clear HC ho hnd hF hd3
    go_wp2_with fail
    refine (unhide HC3).mono ?_
    rintro e w4 ⟨tt, ⟨x0, x1, x2, x3, x4⟩, p4, rfl, hrep0, hdf, hp4, hb4⟩
    have hs4 := hb4.size
    have hbW : But R W0 w4 := HB1.out.trans (hb2.trans (hb3.trans hb4))
    have hrep := Rep.carry (w' := w4) (Q := fun x => w.heap.size < x ∧ x < w4.heap.size) (fun _ _ => rfl) (fun x hx => by
      rcases hx with h | h
      · have := unhide HFF x h; omega
      · omega) _ _ hrep0
    clear hrep0 HD1 HB1 hb2 hb3 hb4 HC3 HFF
    obtain ⟨g0, g1, g2, -, -, -, ⟨a3, cap3, g3, -⟩, a4, cap4, g4, -⟩ := hrep.open
    simp only at g0 g1 g2 g3 g4
    subst g0 g1 g2 g3 g4
    have hbf : But R w w4 := (unhide HB0).trans hbW
    have hXf := (unhide HX0).of_block (hbW.at (unhide HX0).lt (by omega))
    have y0 := hXf.cell (i := 0) (by omega); have y1 := hXf.cell (i := 1) (by omega); have y2 := hXf.cell (i := 2) (by omega); have y3 := hXf.cell (i := 3) (by omega); have y4 := hXf.cell (i := 4) (by omega); have yf := hXf.frozen
    simp only [row5] at y0 y1 y2 y3 y4
    have HEND := hide (fun d0 d1 d2 d3 d4 => an_end (N := 900000) (p := p) hR hrep hdf (by omega) hbf d0 d1 d2 d3 d4)
    generalize tt.names.length = nN at *
    generalize tt.kids.length = nK at *
    clear hrep hdf hbf hbW hXf HX0 HB0
    go_wp2_with fail
    refine bodyPost_ret (v := .agg #[.int .i64 tt.sort, .int .i64 tt.num, .string tt.text, .slice a3 nN cap3, .slice a4 nK cap4]) (by simp [results, Tryz.results56, go_sem, y0, y1, y2, y3, y4]) rfl ?_
    exact unhide HEND _ _ _ _ _
  · have z0 : ((r : Int) == 0) = false := beq_eq_false_iff_ne.2 (by omega)
    have z1 : ((r : Int) == 1) = false := beq_eq_false_iff_ne.2 (by omega)
    have z2 : ((r : Int) == 2) = false := beq_eq_false_iff_ne.2 (by omega)
    have z3 : ((r : Int) == 3) = false := beq_eq_false_iff_ne.2 (by omega)
    go_wp2_with fail
    refine (pick_any R w1 v b (p + 1) 2 HD1.out (by omega) (by omega)).mono ?_
    rintro e w2 ⟨r2, rfl, hr2, HD2, HB2⟩
    have hs2 := HB2.out.size
    have HC := hide (fun top => l5Some_ok R w2 v b (p + 1 + 1) top HD2.out (by omega))
    go_wp2_with fail
    refine (unhide HC _).mono ?_
    rintro e w3 ⟨k, ⟨k0, k1, k2⟩, p2, rfl, hk, hd2, hp2, -, hb3, hq⟩
    have hs3 := hb3.size
    have HC3 := hide (someTree_any R w3 v b p2 k ⟨k0, k1, k2⟩ w2.heap.size (by omega) hk hq hd2 (by omega))
    clear hk hq hd2 HC
    go_wp2_with fail
    refine (unhide HC3).mono ?_
    rintro e w4 ⟨tt, ⟨x0, x1, x2, x3, x4⟩, F, p3, rfl, ho, hnd, hF, hdf, hp3, hb4, hz3, hnm3⟩
    have hs4 := hb4.size
    have hbW : But R W0 w4 := HB1.out.trans (HB2.out.trans (hb3.trans hb4))
    have hrep := Own.rep (P := fun x => w.heap.size < x ∧ x < w4.heap.size) _ _ F (fun x hx => by have := hF x hx; omega) ho
    clear ho hnd hF HD1 HB1 HD2 HB2 hb3 hb4 HC3
    obtain ⟨g0, g1, g2, -, -, -, ⟨a3, cap3, g3, -⟩, a4, cap4, g4, -⟩ := hrep.open
    simp only at g0 g1 g2 g3 g4
    subst g0 g1 g2 g3 g4
    have hbf : But R w w4 := (unhide HB0).trans hbW
    have hXf := (unhide HX0).of_block (hbW.at (unhide HX0).lt (by omega))
    have y0 := hXf.cell (i := 0) (by omega); have y1 := hXf.cell (i := 1) (by omega); have y2 := hXf.cell (i := 2) (by omega); have y3 := hXf.cell (i := 3) (by omega); have y4 := hXf.cell (i := 4) (by omega); have yf := hXf.frozen
    simp only [row5] at y0 y1 y2 y3 y4
    have HEND := hide (fun d0 d1 d2 d3 d4 => an_end (N := 900000) (p := p) hR hrep hdf (by omega) hbf d0 d1 d2 d3 d4)
    generalize tt.names.length = nN at *
    generalize tt.kids.length = nK at *
    clear hrep hdf hbf hbW hXf HX0 HB0
    go_wp2_with fail
    refine bodyPost_ret (v := .agg #[.int .i64 tt.sort, .int .i64 tt.num, .string tt.text, .slice a3 nN cap3, .slice a4 nK cap4]) (by simp [results, Tryz.results56, go_sem, y0, y1, y2, y3, y4]) rfl ?_
    exact unhide HEND _ _ _ _ _
end Go.Proofs.YtbkagahmiibclaaGreatDoor

/- The seven cells of an event in memory. No program, no conditions. -/

namespace Go.Proofs.YtbkagahmiibclaaGreatDoor
open Go Go.RowKit

def row7 (a b c0 c1 c2 c3 c4 : Value) : Nat → Value
  | 0 => a
  | 1 => b
  | 2 => c0
  | 3 => c1
  | 4 => c2
  | 5 => c3
  | _ => c4

theorem row7_alloc (w : World) (a b c0 c1 c2 c3 c4 : Value) (t : TypeId) : (w.alloc (.cells #[a, b, c0, c1, c2, c3, c4] t)).rowIs w.heap.size t 7 (row7 a b c0 c1 c2 c3 c4) :=
  World.rowIs_alloc w #[a, b, c0, c1, c2, c3, c4] t _ (fun i hi => by
    have hi' : i < 7 := hi
    match i, hi' with
    | 0, _ => rfl
    | 1, _ => rfl
    | 2, _ => rfl
    | 3, _ => rfl
    | 4, _ => rfl
    | 5, _ => rfl
    | 6, _ => rfl)

theorem ebox1 {w w1 : World} {a b x0 x1 x2 x3 x4 : Value} {tx : TypeId}
    (hb : Below (w.alloc (.cells #[a, b, x0, x1, x2, x3, x4] tx)).heap.size (w.alloc (.cells #[a, b, x0, x1, x2, x3, x4] tx)) w1) :
    w1.rowIs w.heap.size tx 7 (row7 a b x0 x1 x2 x3 x4) ∧ w.heap.size + 1 ≤ w1.heap.size ∧ Below w.heap.size w w1 := by
  have r0 := row7_alloc w a b x0 x1 x2 x3 x4 tx
  have hs := hb.size
  refine ⟨r0.of_block (hb.block _ r0.lt), by simpa using hs, ?_⟩
  exact ((Below.refl _ _).alloc (Nat.le_refl _) _).trans (hb.mono (by simp))

end Go.Proofs.YtbkagahmiibclaaGreatDoor

/- The walk of the specification's l5Event: some event, in new memory. Draws at most 10^6. -/

namespace Go.Proofs.YtbkagahmiibclaaGreatDoor
open Go Go.RowKit

/-- What drawing an event comes to. -/
def EnEnd (N R : Nat) (w w' : World) (v : Value) (b : List UInt8) (p : Nat) (e : Ending) : Prop :=
  ∃ (ty : ByteArray) (ver : Int) (t : Tr) (c : C5) (p' : Nat), e = .returned (.agg #[.string ty, .int .i64 ver, c.c0, c.c1, c.c2, c.c3, c.c4]) ∧ ty.size ≤ 2000 ∧ I64 ver ∧ Rep (fun x => w.heap.size ≤ x ∧ x < w'.heap.size) w' t c ∧ DR R w' v b p' ∧ p' ≤ p + N ∧ But R w w'

def ev7z : Obj := .cells #[.string ⟨#[]⟩, .int .i64 0, .int .i64 0, .int .i64 0, .string ⟨#[]⟩, .slice none 0 0, .slice none 0 0] 28
theorem en_end {N R B : Nat} {w W : World} {v : Value} {b : List UInt8} {p p' : Nat} {ty : ByteArray} {ver : Int} {t : Tr} {c : C5} (hR : R < w.heap.size) (hty : ty.size ≤ 2000) (hver : I64 ver) (hr : Rep (fun x => w.heap.size < x ∧ x < W.heap.size ∧ x ≠ B) W t c) (hd : DR R W v b p') (h1 : p' ≤ p + N) (hb : But R w W) (d0 d1 d2 d3 d4 d5 d6 : Value) :
    EnEnd N R w (((((((W.setCell ⟨w.heap.size, 0, none⟩ d0).setCell ⟨w.heap.size, 1, none⟩ d1).setCell ⟨w.heap.size, 2, none⟩ d2).setCell ⟨w.heap.size, 3, none⟩ d3).setCell ⟨w.heap.size, 4, none⟩ d4).setCell ⟨w.heap.size, 5, none⟩ d5).setCell ⟨w.heap.size, 6, none⟩ d6) v b p (.returned (.agg #[.string ty, .int .i64 ver, c.c0, c.c1, c.c2, c.c3, c.c4])) := by
  refine ⟨ty, ver, t, c, p', rfl, hty, hver, Rep.carry (fun x hx => by repeat rw [Below.heap_setCell _ _ _ _ (by simp; omega)]) (fun x hx => ⟨by omega, by simp only [size_setCell]; exact hx.2.1⟩) _ _ hr, ?_, h1, ?_⟩
  · repeat refine DR.set ?_ hR _ _
    exact hd
  · repeat refine but_setx ?_ (Nat.le_refl _) _ _
    exact hb

/-- What stands while an event is drawn: its box, the answer's. -/
structure EV (R B : Nat) (w : World) (f : Nat → Value) (t : Tr) (c : C5) (v : Value) (b : List UInt8) (p : Nat) (W : World) : Prop where
  dr : DR R W v b p
  but : But R w W
  bE : W.rowIs B 28 7 f
  bX : W.rowIs w.heap.size 28 7 (row7 (.string ⟨#[]⟩) (.int .i64 0) (.int .i64 0) (.int .i64 0) (.string ⟨#[]⟩) (.slice none 0 0) (.slice none 0 0))
  rep : Rep (fun x => w.heap.size < x ∧ x < B) W t c
  lt : R < w.heap.size ∧ w.heap.size < B
theorem EV.next {R B : Nat} {w W W' : World} {f : Nat → Value} {t : Tr} {c : C5} {v : Value} {b : List UInt8} {p p' : Nat} (h : EV R B w f t c v b p W) (hd : DR R W' v b p') (hb : But R W W') : EV R B w f t c v b p' W' := by
  have hl := h.lt
  have hB := h.bE.lt
  exact ⟨hd, h.but.trans hb, h.bE.of_block (hb.at hB (by omega)), h.bX.of_block (hb.at h.bX.lt (by omega)), Rep.carry (fun x hx => hb.at (by omega) (by omega)) (fun _ h => h) _ _ h.rep, hl⟩
theorem EV.on {R B : Nat} {w W W' : World} {f : Nat → Value} {t : Tr} {c : C5} {v : Value} {b : List UInt8} {p : Nat} (h : EV R B w f t c v b p W) (hb : Below W.heap.size W W') : EV R B w f t c v b p W' := h.next (h.dr.on hb) (But.of_below hb)

set_option maxRecDepth 100000 in
set_option maxHeartbeats 6400000 in
theorem l5Event_any (R : Nat) (w : World) (v : Value) (b : List UInt8) (p : Nat) (h : DR R w v b p) (hp : p ≤ 100) :
    Calls Tryz.prog 19 #[.pointer (some ⟨R, 0, none⟩)] w fun e w' => EnEnd 1200000 R w w' v b p e := by
  have hR := h.cells.lt
  have hX0 := row7_alloc w (.string ⟨#[]⟩) (.int .i64 0) (.int .i64 0) (.int .i64 0) (.string ⟨#[]⟩) (.slice none 0 0) (.slice none 0 0) 28
  have hd0 := h.on ((Below.refl _ w).alloc (Nat.le_refl _) ev7z)
  have hb0 := But.alloc R w ev7z
  have hz0 : (w.alloc ev7z).heap.size = w.heap.size + 1 := World.size_alloc _ _
  unfold ev7z at hd0 hb0 hz0
  have HX0 := hide hX0; have HB0 := hide hb0; have HD0 := hide hd0; have HZ0 := hide hz0
  clear hX0 hd0 hb0 h hz0
  go_enter Tryz.func19, Tryz.ntmps19
  go_wp2_with fail
  generalize w.alloc (.cells #[.string ⟨#[]⟩, .int .i64 0, .int .i64 0, .int .i64 0, .string ⟨#[]⟩, .slice none 0 0, .slice none 0 0] 28) = W0 at *
  have hz0 := unhide HZ0
  try rw [show w.heap.size + 1 = W0.heap.size from hz0.symm]
  refine (of_row R W0 v b p (unhide HD0) (by omega) [⟨#[111, 114, 100, 101, 114]⟩, ⟨#[112, 97, 105, 100]⟩, ⟨#[109, 111, 118, 101, 100]⟩, ⟨#[120]⟩, ⟨#[97, 98, 99, 100, 101, 102, 103, 104]⟩] (by simp) (by simp) (fun i hi => by
    rcases (show i = 0 ∨ i = 1 ∨ i = 2 ∨ i = 3 ∨ i = 4 by simp at hi; omega) with rfl | rfl | rfl | rfl | rfl <;> decide)).mono ?_
  rintro e w1 ⟨ty, rfl, hty, HD1, HB1⟩
  have hs1 := HB1.out.size
  clear HD0 HZ0
  go_wp2_with fail
  refine (pick_any R w1 v b (p + 1) 12 HD1.out (by omega) (by omega)).mono ?_
  rintro e w2 ⟨r, rfl, hr, HD2, HB2⟩
  have hs2 := HB2.out.size
  have hwr : IntKind.i64.wrap (1 + (r : Int)) = 1 + (r : Int) := by rw [IntKind.wrap_i64]; omega
  go_wp2_with fail
  refine (l5Some_ok R w2 v b (p + 1 + 1) true HD2.out (by omega)).mono ?_
  rintro e w3 ⟨k, ⟨k0, k1, k2⟩, p3, rfl, hk, hd3, hp3, -, hb3, hq⟩
  have hs3 := hb3.size
  have HC := hide (someTree_any R w3 v b p3 k ⟨k0, k1, k2⟩ w2.heap.size (by omega) hk hq hd3 (by omega))
  clear hk hq hd3
  go_wp2_with fail
  refine (unhide HC).mono ?_
  rintro e w4 ⟨t4, ⟨u0, u1, u2, u3, u4⟩, F, p4, rfl, ho, hnd, hF, hd4, hp4, hb4, -, -⟩
  have hs4 := hb4.size
  obtain ⟨g0, g1, g2, -, -, -, F1, F2, -, ⟨a3, cap3, g3, -⟩, a4, cap4, g4, -⟩ := ho.open
  simp only at g0 g1 g2 g3 g4
  subst g0 g1 g2 g3 g4
  have hbW : But R W0 w4 := HB1.out.trans (HB2.out.trans (hb3.trans hb4))
  have hev0 : EV R w4.heap.size w (row7 (.string ty) (.int .i64 (1 + (r : Int))) (.int .i64 t4.sort) (.int .i64 t4.num) (.string t4.text) (.slice a3 t4.names.length cap3) (.slice a4 t4.kids.length cap4)) t4 ⟨.int .i64 t4.sort, .int .i64 t4.num, .string t4.text, .slice a3 t4.names.length cap3, .slice a4 t4.kids.length cap4⟩ v b p4 (w4.alloc (.cells #[.string ty, .int .i64 (1 + (r : Int)), .int .i64 t4.sort, .int .i64 t4.num, .string t4.text, .slice a3 t4.names.length cap3, .slice a4 t4.kids.length cap4] 28)) :=
    ⟨hd4.on ((Below.refl _ _).alloc (Nat.le_refl _) _), ((unhide HB0).trans hbW).trans (But.alloc R _ _), row7_alloc w4 _ _ _ _ _ _ _ _, ((unhide HX0).of_block (hbW.at (unhide HX0).lt (by omega))).alloc _, Rep.carry (fun x hx => Below.heap_alloc _ _ _ hx.2) (fun _ h => h) _ _ (Own.rep (P := fun x => w.heap.size < x ∧ x < w4.heap.size) _ _ F (fun x hx => by have := hF x hx; omega) ho), ⟨hR, by omega⟩⟩
  have HEV0 := hide hev0
  clear hev0 ho hnd hF hd4 hb4 hbW HC HB1 HB2 HD1 HD2 hb3 HX0 HB0
  generalize t4.names.length = nN at *
  generalize t4.kids.length = nK at *
  go_wp2_with fail
  generalize hW5 : w4.alloc (.cells #[.string ty, .int .i64 (1 + (r : Int)), .int .i64 t4.sort, .int .i64 t4.num, .string t4.text, .slice a3 nN cap3, .slice a4 nK cap4] 28) = W5 at *
  clear hW5
  generalize w4.heap.size = B at *
  refine (pick_any R W5 v b p4 20 (unhide HEV0).dr (by omega) (by omega)).mono ?_
  rintro e w6 ⟨q, rfl, hq20, HD6, HB6⟩
  have HEV := hide ((unhide HEV0).next HD6.out HB6.out)
  clear HEV0 HD6 HB6
  have hver : I64 (1 + (r : Int)) := ⟨by omega, by omega⟩
  have hBlt := (unhide HEV).bE.lt
  rcases (show q = 0 ∨ q = 1 ∨ q = 2 ∨ q = 3 ∨ 4 ≤ q by omega) with rfl | rfl | rfl | rfl | hq4
  · skip
    have hne : w.heap.size ≠ B := by have := (unhide HEV).lt; omega
    have hne2 : B ≠ w.heap.size := by omega
    have hlB := (unhide HEV).lt
    go_wp2_with fail
    refine (of_row R w6 v b (p4 + 1) (unhide HEV).dr (by omega) [⟨#[]⟩, ⟨#[65]⟩, ⟨#[57, 97]⟩, ⟨#[116, 111, 111, 108, 111, 110, 103, 97, 97]⟩] (by simp) (by simp) (fun i hi => by
      rcases (show i = 0 ∨ i = 1 ∨ i = 2 ∨ i = 3 by simp at hi; omega) with rfl | rfl | rfl | rfl <;> decide)).mono ?_
    rintro e w7 ⟨ty', rfl, hty', HD7, HB7⟩
    have h7 := (unhide HEV).next HD7.out HB7.out
    have m0 := h7.bE.cell (i := 0) (by omega); have m1 := h7.bE.cell (i := 1) (by omega); have m2 := h7.bE.cell (i := 2) (by omega); have m3 := h7.bE.cell (i := 3) (by omega); have m4 := h7.bE.cell (i := 4) (by omega); have m5 := h7.bE.cell (i := 5) (by omega); have m6 := h7.bE.cell (i := 6) (by omega); have mf := h7.bE.frozen
    have y0 := h7.bX.cell (i := 0) (by omega); have y1 := h7.bX.cell (i := 1) (by omega); have y2 := h7.bX.cell (i := 2) (by omega); have y3 := h7.bX.cell (i := 3) (by omega); have y4 := h7.bX.cell (i := 4) (by omega); have y5 := h7.bX.cell (i := 5) (by omega); have y6 := h7.bX.cell (i := 6) (by omega); have yf := h7.bX.frozen
    simp only [row7] at m0 m1 m2 m3 m4 m5 m6 y0 y1 y2 y3 y4 y5 y6
    have HEND := hide (fun d0 d1 d2 d3 d4 d5 d6 => en_end (N := 1200000) (p := p) (B := B) (W := w7.setCell ⟨B, 0, none⟩ (.string ty')) hR hty' hver (Rep.carry (fun x hx => Below.heap_setCell _ _ _ _ (by simp; omega)) (fun x hx => ⟨hx.1, by have := h7.bE.lt; simp only [size_setCell]; omega, by omega⟩) _ _ h7.rep) (h7.dr.set (by omega) _ _) (by omega) (but_setx h7.but (by omega) _ _) d0 d1 d2 d3 d4 d5 d6)
    clear h7 HD7 HB7 HEV
    go_wp2_with fail
    refine bodyPost_ret (v := .agg #[.string ty', .int .i64 (1 + (r : Int)), .int .i64 t4.sort, .int .i64 t4.num, .string t4.text, .slice a3 nN cap3, .slice a4 nK cap4]) (by simp [results, Tryz.results19, go_sem, y0, y1, y2, y3, y4, y5, y6]) rfl ?_
    exact unhide HEND _ _ _ _ _ _ _
  · skip
    have hne : w.heap.size ≠ B := by have := (unhide HEV).lt; omega
    have hne2 : B ≠ w.heap.size := by omega
    have hlB := (unhide HEV).lt
    have hbi := (Below.refl _ w6).alloc (Nat.le_refl _) (.cells #[.int .i64 0, .int .i64 (-1), .int .i64 13, .int .i64 256] 3)
    have HPK := hide (pick_any R _ v b (p4 + 1) 4 ((unhide HEV).on hbi).dr (by omega) (by omega))
    have HEV1 := hide ((unhide HEV).on hbi)
    clear hbi
    go_wp2_with fail
    refine (unhide HPK).mono ?_
    rintro e w7 ⟨r5, rfl, hr5, HD7, HB7⟩
    have h7 := (unhide HEV1).next HD7.out HB7.out
    have hrw : w7.rowIs w6.heap.size 3 4 (fun i => (#[.int .i64 0, .int .i64 (-1), .int .i64 13, .int .i64 256] : Array Value).getD i undef) := World.rowIs.of_block (rowIs_get w6 #[.int .i64 0, .int .i64 (-1), .int .i64 13, .int .i64 256] 3) (HB7.out.at (by simp) (by omega))
    obtain ⟨z, hz, e1⟩ : ∃ z, I64 z ∧ w7.cell? ⟨w6.heap.size, r5, none⟩ = some (.int .i64 z) := by
      have := hrw.cell (i := r5) hr5
      rcases (show r5 = 0 ∨ r5 = 1 ∨ r5 = 2 ∨ r5 = 3 by omega) with rfl | rfl | rfl | rfl
      all_goals exact ⟨_, ⟨by decide, by decide⟩, this⟩
    have hix : (r5 : Int) < 4 := by omega
    have m0 := h7.bE.cell (i := 0) (by omega); have m1 := h7.bE.cell (i := 1) (by omega); have m2 := h7.bE.cell (i := 2) (by omega); have m3 := h7.bE.cell (i := 3) (by omega); have m4 := h7.bE.cell (i := 4) (by omega); have m5 := h7.bE.cell (i := 5) (by omega); have m6 := h7.bE.cell (i := 6) (by omega); have mf := h7.bE.frozen
    have y0 := h7.bX.cell (i := 0) (by omega); have y1 := h7.bX.cell (i := 1) (by omega); have y2 := h7.bX.cell (i := 2) (by omega); have y3 := h7.bX.cell (i := 3) (by omega); have y4 := h7.bX.cell (i := 4) (by omega); have y5 := h7.bX.cell (i := 5) (by omega); have y6 := h7.bX.cell (i := 6) (by omega); have yf := h7.bX.frozen
    simp only [row7] at m0 m1 m2 m3 m4 m5 m6 y0 y1 y2 y3 y4 y5 y6
    have HEND := hide (fun d0 d1 d2 d3 d4 d5 d6 => en_end (N := 1200000) (p := p) (B := B) (W := w7.setCell ⟨B, 1, none⟩ (.int .i64 z)) hR hty hz (Rep.carry (fun x hx => Below.heap_setCell _ _ _ _ (by simp; omega)) (fun x hx => ⟨hx.1, by have := h7.bE.lt; simp only [size_setCell]; omega, by omega⟩) _ _ h7.rep) (h7.dr.set (by omega) _ _) (by omega) (but_setx h7.but (by omega) _ _) d0 d1 d2 d3 d4 d5 d6)
    clear h7 HD7 HB7 HEV HEV1 HPK hrw
    go_wp2_with fail
    refine bodyPost_ret (v := .agg #[.string ty, .int .i64 z, .int .i64 t4.sort, .int .i64 t4.num, .string t4.text, .slice a3 nN cap3, .slice a4 nK cap4]) (by simp [results, Tryz.results19, go_sem, y0, y1, y2, y3, y4, y5, y6]) rfl ?_
    exact unhide HEND _ _ _ _ _ _ _
  · skip
    have hne : w.heap.size ≠ B := by have := (unhide HEV).lt; omega
    have hne2 : B ≠ w.heap.size := by omega
    have hlB := (unhide HEV).lt
    have HC := hide (l5Any_any R w6 v b (p4 + 1) (unhide HEV).dr (by omega))
    go_wp2_with fail
    refine (unhide HC).mono ?_
    rintro e w7 ⟨t7, ⟨x0, x1, x2, x3, x4⟩, p7, rfl, hr7, hd7, hp7, hb7⟩
    have h7 := (unhide HEV).next hd7 hb7
    obtain ⟨q0, q1, q2, -, -, -, ⟨a5, cap5, q3, -⟩, a6, cap6, q4, -⟩ := hr7.open
    simp only at q0 q1 q2 q3 q4
    subst q0 q1 q2 q3 q4
    have m0 := h7.bE.cell (i := 0) (by omega); have m1 := h7.bE.cell (i := 1) (by omega); have m2 := h7.bE.cell (i := 2) (by omega); have m3 := h7.bE.cell (i := 3) (by omega); have m4 := h7.bE.cell (i := 4) (by omega); have m5 := h7.bE.cell (i := 5) (by omega); have m6 := h7.bE.cell (i := 6) (by omega); have mf := h7.bE.frozen
    have y0 := h7.bX.cell (i := 0) (by omega); have y1 := h7.bX.cell (i := 1) (by omega); have y2 := h7.bX.cell (i := 2) (by omega); have y3 := h7.bX.cell (i := 3) (by omega); have y4 := h7.bX.cell (i := 4) (by omega); have y5 := h7.bX.cell (i := 5) (by omega); have y6 := h7.bX.cell (i := 6) (by omega); have yf := h7.bX.frozen
    simp only [row7] at m0 m1 m2 m3 m4 m5 m6 y0 y1 y2 y3 y4 y5 y6
    have hs7 := h7.bE.lt
    have HEND := hide (fun d0 d1 d2 d3 d4 d5 d6 => en_end (N := 1200000) (p := p) (B := B) (W := ((((w7.setCell ⟨B, 2, none⟩ (.int .i64 t7.sort)).setCell ⟨B, 3, none⟩ (.int .i64 t7.num)).setCell ⟨B, 4, none⟩ (.string t7.text)).setCell ⟨B, 5, none⟩ (.slice a5 t7.names.length cap5)).setCell ⟨B, 6, none⟩ (.slice a6 t7.kids.length cap6)) (t := t7) (c := ⟨.int .i64 t7.sort, .int .i64 t7.num, .string t7.text, .slice a5 t7.names.length cap5, .slice a6 t7.kids.length cap6⟩) hR hty hver (Rep.carry (fun x hx => by repeat rw [Below.heap_setCell _ _ _ _ (by simp; omega)]) (fun x hx => ⟨by omega, by simp only [size_setCell]; exact hx.2, by omega⟩) _ _ hr7) (by
      repeat refine DR.set ?_ (by omega) _ _
      exact h7.dr) (by omega) (by
      repeat refine but_setx ?_ (by omega) _ _
      exact h7.but) d0 d1 d2 d3 d4 d5 d6)
    generalize t7.names.length = mN at *
    generalize t7.kids.length = mK at *
    clear h7 hr7 HEV HC
    go_wp2_with fail
    refine bodyPost_ret (v := .agg #[.string ty, .int .i64 (1 + (r : Int)), .int .i64 t7.sort, .int .i64 t7.num, .string t7.text, .slice a5 mN cap5, .slice a6 mK cap6]) (by simp [results, Tryz.results19, go_sem, y0, y1, y2, y3, y4, y5, y6]) rfl ?_
    exact unhide HEND _ _ _ _ _ _ _
  · skip
    have hne : w.heap.size ≠ B := by have := (unhide HEV).lt; omega
    have hne2 : B ≠ w.heap.size := by omega
    have hlB := (unhide HEV).lt
    have HC := hide (l5Full_any w6 120 (by omega))
    go_wp2_with fail
    refine (unhide HC).mono ?_
    rintro e w7 ⟨t7, ⟨x0, x1, x2, x3, x4⟩, rfl, hr7, hb7⟩
    have h7 := (unhide HEV).on hb7
    obtain ⟨q0, q1, q2, -, -, -, ⟨a5, cap5, q3, -⟩, a6, cap6, q4, -⟩ := hr7.open
    simp only at q0 q1 q2 q3 q4
    subst q0 q1 q2 q3 q4
    have m0 := h7.bE.cell (i := 0) (by omega); have m1 := h7.bE.cell (i := 1) (by omega); have m2 := h7.bE.cell (i := 2) (by omega); have m3 := h7.bE.cell (i := 3) (by omega); have m4 := h7.bE.cell (i := 4) (by omega); have m5 := h7.bE.cell (i := 5) (by omega); have m6 := h7.bE.cell (i := 6) (by omega); have mf := h7.bE.frozen
    have y0 := h7.bX.cell (i := 0) (by omega); have y1 := h7.bX.cell (i := 1) (by omega); have y2 := h7.bX.cell (i := 2) (by omega); have y3 := h7.bX.cell (i := 3) (by omega); have y4 := h7.bX.cell (i := 4) (by omega); have y5 := h7.bX.cell (i := 5) (by omega); have y6 := h7.bX.cell (i := 6) (by omega); have yf := h7.bX.frozen
    simp only [row7] at m0 m1 m2 m3 m4 m5 m6 y0 y1 y2 y3 y4 y5 y6
    have hs7 := h7.bE.lt
    have HEND := hide (fun d0 d1 d2 d3 d4 d5 d6 => en_end (N := 1200000) (p := p) (B := B) (W := ((((w7.setCell ⟨B, 2, none⟩ (.int .i64 t7.sort)).setCell ⟨B, 3, none⟩ (.int .i64 t7.num)).setCell ⟨B, 4, none⟩ (.string t7.text)).setCell ⟨B, 5, none⟩ (.slice a5 t7.names.length cap5)).setCell ⟨B, 6, none⟩ (.slice a6 t7.kids.length cap6)) (t := t7) (c := ⟨.int .i64 t7.sort, .int .i64 t7.num, .string t7.text, .slice a5 t7.names.length cap5, .slice a6 t7.kids.length cap6⟩) hR hty hver (Rep.carry (fun x hx => by repeat rw [Below.heap_setCell _ _ _ _ (by simp; omega)]) (fun x hx => ⟨by omega, by simp only [size_setCell]; exact hx.2, by omega⟩) _ _ hr7) (by
      repeat refine DR.set ?_ (by omega) _ _
      exact h7.dr) (by omega) (by
      repeat refine but_setx ?_ (by omega) _ _
      exact h7.but) d0 d1 d2 d3 d4 d5 d6)
    generalize t7.names.length = mN at *
    generalize t7.kids.length = mK at *
    clear h7 hr7 HEV HC
    go_wp2_with fail
    refine bodyPost_ret (v := .agg #[.string ty, .int .i64 (1 + (r : Int)), .int .i64 t7.sort, .int .i64 t7.num, .string t7.text, .slice a5 mN cap5, .slice a6 mK cap6]) (by simp [results, Tryz.results19, go_sem, y0, y1, y2, y3, y4, y5, y6]) rfl ?_
    exact unhide HEND _ _ _ _ _ _ _
  · skip
    have hne : w.heap.size ≠ B := by have := (unhide HEV).lt; omega
    have hne2 : B ≠ w.heap.size := by omega
    have hlB := (unhide HEV).lt
    have z0 : ((q : Int) == 0) = false := beq_eq_false_iff_ne.2 (by omega)
    have z1 : ((q : Int) == 1) = false := beq_eq_false_iff_ne.2 (by omega)
    have z2 : ((q : Int) == 2) = false := beq_eq_false_iff_ne.2 (by omega)
    have z3 : ((q : Int) == 3) = false := beq_eq_false_iff_ne.2 (by omega)
    have h7 := unhide HEV
    have m0 := h7.bE.cell (i := 0) (by omega); have m1 := h7.bE.cell (i := 1) (by omega); have m2 := h7.bE.cell (i := 2) (by omega); have m3 := h7.bE.cell (i := 3) (by omega); have m4 := h7.bE.cell (i := 4) (by omega); have m5 := h7.bE.cell (i := 5) (by omega); have m6 := h7.bE.cell (i := 6) (by omega); have mf := h7.bE.frozen
    have y0 := h7.bX.cell (i := 0) (by omega); have y1 := h7.bX.cell (i := 1) (by omega); have y2 := h7.bX.cell (i := 2) (by omega); have y3 := h7.bX.cell (i := 3) (by omega); have y4 := h7.bX.cell (i := 4) (by omega); have y5 := h7.bX.cell (i := 5) (by omega); have y6 := h7.bX.cell (i := 6) (by omega); have yf := h7.bX.frozen
    simp only [row7] at m0 m1 m2 m3 m4 m5 m6 y0 y1 y2 y3 y4 y5 y6
    have HEND := hide (fun d0 d1 d2 d3 d4 d5 d6 => en_end (N := 1200000) (p := p) (B := B) hR hty hver (Rep.carry (w' := w6) (fun _ _ => rfl) (fun x hx => ⟨hx.1, by omega, by omega⟩) _ _ h7.rep) h7.dr (by omega) h7.but d0 d1 d2 d3 d4 d5 d6)
    clear h7 HEV
    go_wp2_with fail
    refine bodyPost_ret (v := .agg #[.string ty, .int .i64 (1 + (r : Int)), .int .i64 t4.sort, .int .i64 t4.num, .string t4.text, .slice a3 nN cap3, .slice a4 nK cap4]) (by simp [results, Tryz.results19, go_sem, y0, y1, y2, y3, y4, y5, y6]) rfl ?_
    exact unhide HEND _ _ _ _ _ _ _
end Go.Proofs.YtbkagahmiibclaaGreatDoor

/- A row of bytes that lies in the world. Definitions alone. -/

namespace Go.Proofs.YtbkagahmiibclaaGreatDoor
open Go Go.RowKit

/-- A slice value whose bytes lie in the world. -/
def BytesAt (w : World) (v : Value) (l : List UInt8) : Prop :=
  ∃ a cap, v = .slice a l.length cap ∧ l.length ≤ 9223372036854775807 ∧ ∀ i, (h : i < l.length) → ∃ b o, a = some ⟨b, o, none⟩ ∧ b < w.heap.size ∧ w.cell? ⟨b, o + i, none⟩ = some (.int .u8 l[i].toNat)

theorem BytesAt.on {w w' : World} {v : Value} {l : List UInt8} (h : BytesAt w v l) (hb : Below w.heap.size w w') : BytesAt w' v l := by
  obtain ⟨a, cap, h1, h2, h3⟩ := h
  refine ⟨a, cap, h1, h2, fun i hi => ?_⟩
  obtain ⟨b, o, e, hlt, hc⟩ := h3 i hi
  exact ⟨b, o, e, Nat.lt_of_lt_of_le hlt hb.size, by rw [hb.cell hlt]; exact hc⟩

end Go.Proofs.YtbkagahmiibclaaGreatDoor

/- The walk of the specification's l6Open: the reader of draws is opened. No conditions. -/

namespace Go.Proofs.YtbkagahmiibclaaGreatDoor
open Go Go.RowKit

/-- The reader of draws is opened. -/
theorem l6Open_any (w : World) (a : Option Addr) (cap : Nat) (l : List UInt8) (hv : BytesAt w (.slice a l.length cap) l) (hcap : l.length ≤ cap) :
    Calls Tryz.prog 20 #[.slice a l.length cap] w fun e w' => ∃ (v' : Value) (b' : List UInt8), e = .returned (.pointer (some ⟨w.heap.size, 0, none⟩)) ∧ DR w.heap.size w' v' b' 0 ∧ Below w.heap.size w w' := by
  obtain ⟨a', cap', e, hlen, hc⟩ := hv
  simp only [Value.slice.injEq, true_and] at e
  obtain ⟨rfl, rfl⟩ := e
  by_cases h2 : l.length ≤ 2000
  · have hq : decide ((2000 : Int) < (l.length : Int)) = false := by simp; omega
    have HC := hide hc
    clear hc
    go_enter Tryz.func20, Tryz.ntmps20
    go_wp2_with fail
    go_ret
    refine ⟨.slice a l.length cap, l, rfl, ⟨?_, ⟨a, cap, rfl, fun i hi => ?_⟩, h2⟩, (Below.refl _ _).alloc (Nat.le_refl _) _⟩
    · exact World.rowIs_alloc w #[.slice a l.length cap, .int .i64 0] 88 _ (fun i hi => by
        have hi' : i < 2 := by simpa using hi
        rcases (show i = 0 ∨ i = 1 by omega) with rfl | rfl <;> rfl)
    · obtain ⟨g, o, e, hlt, hcell⟩ := unhide HC i hi
      exact ⟨g, o, e, hlt, by rw [World.cell?_of_block (w := w) (Below.heap_alloc _ _ _ hlt)]; exact hcell⟩
  · have hq : decide ((2000 : Int) < (l.length : Int)) = true := by simp; omega
    obtain ⟨g, o, rfl, -, -⟩ := hc 0 (by omega)
    have HC := hide hc
    clear hc
    have hc2 : 2000 ≤ cap := by omega
    have hc3 : (2000 : Int) ≤ (cap : Int) := by omega
    go_enter Tryz.func20, Tryz.ntmps20
    go_wp2_with fail
    go_ret
    have hl2 : (l.take 2000).length = 2000 := by rw [List.length_take]; omega
    refine ⟨.slice (some ⟨g, o, none⟩) 2000 cap, l.take 2000, rfl, ⟨?_, ⟨_, cap, by rw [hl2], fun i hi => ?_⟩, by omega⟩, (Below.refl _ _).alloc (Nat.le_refl _) _⟩
    · exact World.rowIs_alloc w #[.slice (some ⟨g, o, none⟩) 2000 cap, .int .i64 0] 88 _ (fun i hi => by
        have hi' : i < 2 := by simpa using hi
        rcases (show i = 0 ∨ i = 1 by omega) with rfl | rfl <;> rfl)
    · obtain ⟨g', o', e, hlt, hcell⟩ := unhide HC i (by omega)
      exact ⟨g', o', e, hlt, by rw [World.cell?_of_block (w := w) (Below.heap_alloc _ _ _ hlt), List.getElem_take]; exact hcell⟩
end Go.Proofs.YtbkagahmiibclaaGreatDoor
