/- A part. -/
import Derived.Test.YtbkagahmiibclaaGreatDoorPart06
namespace Go.Proofs.YtbkagahmiibclaaGreatDoor
open Go Go.RowKit
set_option maxRecDepth 100000
set_option maxHeartbeats 6400000
theorem spoilT_all : ∀ n, SqSaid n
 | 0 => fun t h => by omega
 | n + 1 => l5SpoilT_step n (spoilT_all n)
def AnEnd (N R : Nat) (w w' : World) (v : Value) (b : List UInt8) (p : Nat) (e : Ending) : Prop :=
 ∃ (t : Tr) (c : C5) (p' : Nat), e = .returned (.agg #[c.c0, c.c1, c.c2, c.c3, c.c4]) ∧ Rep (fun x => w.heap.size ≤ x ∧ x < w'.heap.size) w' t c ∧ DR R w' v b p' ∧ p' ≤ p + N ∧ But R w w'
theorem an_end {N R : Nat} {w W : World} {v : Value} {b : List UInt8} {p p' : Nat} {t : Tr} {c : C5} (hR : R < w.heap.size) (hr : Rep (fun x => w.heap.size < x ∧ x < W.heap.size) W t c) (hd : DR R W v b p') (h1 : p' ≤ p + N) (hb : But R w W) (d0 d1 d2 d3 d4 : Value) :
 AnEnd N R w (((((W.setCell ⟨w.heap.size, 0, none⟩ d0).setCell ⟨w.heap.size, 1, none⟩ d1).setCell ⟨w.heap.size, 2, none⟩ d2).setCell ⟨w.heap.size, 3, none⟩ d3).setCell ⟨w.heap.size, 4, none⟩ d4) v b p (.returned (.agg #[c.c0, c.c1, c.c2, c.c3, c.c4])) := by
 refine ⟨t, c, p', rfl, Rep.carry (fun x hx => by repeat rw [Below.heap_setCell _ _ _ _ (by simp; omega)]) (fun x hx => ⟨by omega, by simp only [size_setCell]; exact hx.2⟩) _ _ hr, ?_, h1, ?_⟩
 · repeat refine DR.set ?_ hR _ _
   exact hd
 · repeat refine but_setx ?_ (Nat.le_refl _) _ _
   exact hb
theorem someTree_any (R : Nat) (w : World) (v : Value) (b : List UInt8) (p : Nat) (k : Kd) (c : C3) (lo : Nat) (hlo : R < lo) (hr : KRep (fun x => lo ≤ x ∧ x < w.heap.size) w k c) (hq : 0 < qT k 1) (hd : DR R w v b p) (hp : p ≤ 800000) :
 Calls Tryz.prog 54 #[.pointer (some ⟨R, 0, none⟩), .agg #[c.c0, c.c1, c.c2]] w fun e w' => TsEnd 100000 R w w' v b p e := by
 have hn := nd_ok hq
 refine (lt_all (ksz k + 1) k (by omega) _ c w R v b p (fun x hx => ⟨hx.2, by omega⟩) hr (ok_of_qT hq).1 hd (by omega)).mono ?_
 rintro e w' ⟨t, c, F, p', h1, h2, h3, h4, h5, h6, h7, h8, h9⟩
 exact ⟨t, c, F, p', h1, h2, h3, h4, h5, by omega, h7, by omega, h9⟩
theorem l5Any_any (R : Nat) (w : World) (v : Value) (b : List UInt8) (p : Nat) (h : DR R w v b p) (hp : p ≤ 200000) :
 Calls Tryz.prog 56 #[.pointer (some ⟨R, 0, none⟩)] w fun e w' => AnEnd 900000 R w w' v b p e := by
 have hR := h.cells.lt
 have hX0 := row5_alloc w (.int .i64 0) (.int .i64 0) (.string ⟨#[]⟩) (.slice none 0 0) (.slice none 0 0) 26
 have hd0 := h.on ((Below.refl _ w).alloc (Nat.le_refl _) (.cells #[.int .i64 0, .int .i64 0, .string ⟨#[]⟩, .slice none 0 0, .slice none 0 0] 26))
 have hb0 := But.alloc R w (.cells #[.int .i64 0, .int .i64 0, .string ⟨#[]⟩, .slice none 0 0, .slice none 0 0] 26)
 have hz0 : (w.alloc (.cells #[.int .i64 0, .int .i64 0, .string ⟨#[]⟩, .slice none 0 0, .slice none 0 0] 26)).heap.size = w.heap.size + 1 := World.size_alloc _ _
 have HX0 := hH hX0; have HB0 := hH hb0; have HD0 := hH hd0; have HZ0 := hH hz0
 clear hX0 hd0 hb0 h hz0
 go_enter Tryz.func56, Tryz.ntmps56
 go_wp2_with fail
 generalize w.alloc (.cells #[.int .i64 0, .int .i64 0, .string ⟨#[]⟩, .slice none 0 0, .slice none 0 0] 26) = W0 at *
 have hz0 := uh HZ0
 refine (pick_any R W0 v b p 24 (uh HD0) (by omega) (by omega)).mono ?_
 rintro e w1 ⟨r, rfl, hr, HD1, HB1⟩
 have hs1 := HB1.out.size
 clear HD0 HZ0
 rcases (show r = 0 ∨ r = 1 ∨ r = 2 ∨ r = 3 ∨ 4 ≤ r by omega) with rfl | rfl | rfl | rfl | hr4
 · go_wp2_with fail
   refine (pick_any R w1 v b (p + 1) 2 HD1.out (by omega) (by omega)).mono ?_
   rintro e w2 ⟨r2, rfl, hr2, HD2, HB2⟩
   have hs2 := HB2.out.size
   have hwr : IntKind.i64.wrap (120 + (r2 : Int)) = 120 + (r2 : Int) := by rw [IntKind.wrap_i64]; omega
   have hc := l5Full_any w2 (120 + r2) (by omega)
   rw [show ((120 + r2 : Nat) : Int) = 120 + (r2 : Int) from by omega] at hc
   have HC := hH hc
   clear hc
   go_wp2_with fail
   refine (uh HC).mono ?_
   rintro e w3 ⟨tt, ⟨x0, x1, x2, x3, x4⟩, rfl, hrep0, hb3⟩
   have hbW : But R W0 w3 := HB1.out.trans (HB2.out.trans (But.of_below hb3))
   have hrep := Rep.carry (w' := w3) (Q := fun x => w.heap.size < x ∧ x < w3.heap.size) (fun _ _ => rfl) (fun x hx => by omega) _ _ hrep0
   have hdf := HD2.out.on hb3
   clear hrep0 HD1 HB1 HD2 HB2 HC hb3
   obtain ⟨g0, g1, g2, -, -, -, ⟨a3, cap3, g3, -⟩, a4, cap4, g4, -⟩ := hrep.open
   simp only at g0 g1 g2 g3 g4
   subst g0 g1 g2 g3 g4
   have hbf : But R w w3 := (uh HB0).trans hbW
   have hXf := (uh HX0).of_block (hbW.at (uh HX0).lt (by omega))
   obtain ⟨y0, y1, y2, y3, y4⟩ := cs5 hXf (by omega); have yf := hXf.frozen
   simp only [row5] at y0 y1 y2 y3 y4
   have HEND := hH (fun d0 d1 d2 d3 d4 => an_end (N := 900000) (p := p) hR hrep hdf (by omega) hbf d0 d1 d2 d3 d4)
   generalize tt.names.length = nN at *
   generalize tt.kids.length = nK at *
   clear hrep hdf hbf hbW hXf HX0 HB0
   go_wp2_with fail
   refine bodyPost_ret (v := .agg #[.int .i64 tt.sort, .int .i64 tt.num, .string tt.text, .slice a3 nN cap3, .slice a4 nK cap4]) (by simp [results, Tryz.results56, go_sem, y0, y1, y2, y3, y4]) rfl ?_
   exact uh HEND _ _ _ _ _
 · go_wp2_with fail
   refine (pick_any R w1 v b (p + 1) 2 HD1.out (by omega) (by omega)).mono ?_
   rintro e w2 ⟨r2, rfl, hr2, HD2, HB2⟩
   have hs2 := HB2.out.size
   have hwr : IntKind.i64.wrap (6 + (r2 : Int)) = 6 + (r2 : Int) := by rw [IntKind.wrap_i64]; omega
   have hc := l5Deep_any w2 (6 + r2) (by omega)
   rw [show ((6 + r2 : Nat) : Int) = 6 + (r2 : Int) from by omega] at hc
   have HC := hH hc
   clear hc
   go_wp2_with fail
   refine (uh HC).mono ?_
   rintro e w3 ⟨tt, ⟨x0, x1, x2, x3, x4⟩, rfl, hrep0, hb3⟩
   have hbW : But R W0 w3 := HB1.out.trans (HB2.out.trans (But.of_below hb3))
   have hrep := Rep.carry (w' := w3) (Q := fun x => w.heap.size < x ∧ x < w3.heap.size) (fun _ _ => rfl) (fun x hx => by omega) _ _ hrep0
   have hdf := HD2.out.on hb3
   clear hrep0 HD1 HB1 HD2 HB2 HC hb3
   obtain ⟨g0, g1, g2, -, -, -, ⟨a3, cap3, g3, -⟩, a4, cap4, g4, -⟩ := hrep.open
   simp only at g0 g1 g2 g3 g4
   subst g0 g1 g2 g3 g4
   have hbf : But R w w3 := (uh HB0).trans hbW
   have hXf := (uh HX0).of_block (hbW.at (uh HX0).lt (by omega))
   obtain ⟨y0, y1, y2, y3, y4⟩ := cs5 hXf (by omega); have yf := hXf.frozen
   simp only [row5] at y0 y1 y2 y3 y4
   have HEND := hH (fun d0 d1 d2 d3 d4 => an_end (N := 900000) (p := p) hR hrep hdf (by omega) hbf d0 d1 d2 d3 d4)
   generalize tt.names.length = nN at *
   generalize tt.kids.length = nK at *
   clear hrep hdf hbf hbW hXf HX0 HB0
   go_wp2_with fail
   refine bodyPost_ret (v := .agg #[.int .i64 tt.sort, .int .i64 tt.num, .string tt.text, .slice a3 nN cap3, .slice a4 nK cap4]) (by simp [results, Tryz.results56, go_sem, y0, y1, y2, y3, y4]) rfl ?_
   exact uh HEND _ _ _ _ _
 · skip
   go_wp2_with fail
   refine (l5Some_ok R w1 v b (p + 1) true HD1.out (by omega)).mono ?_
   rintro e w2 ⟨k, ⟨k0, k1, k2⟩, p2, rfl, hk, hd2, hp2, -, hb2, hq⟩
   have hs2 := hb2.size
   have HC := hH (someTree_any R w2 v b p2 k ⟨k0, k1, k2⟩ w1.heap.size (by omega) hk hq hd2 (by omega))
   clear hk hq hd2
   go_wp2_with fail
   refine (uh HC).mono ?_
   rintro e w3 ⟨t3, ⟨u0, u1, u2, u3, u4⟩, F, p3, rfl, ho, hnd, hF, hd3, hp3, hb3, hz3, hnm3⟩
   have hs3 := hb3.size
   have HC3 := hH (spoilT_all (tsz t3 + 1) t3 (by omega) (· ∈ F) R w3 v b p3 ⟨u0, u1, u2, u3, u4⟩ hd3 (fun x hx => by have := hF x hx; omega) (Own.rep _ _ F (fun _ h => h) ho) (by omega) (by omega) hnm3)
   have HFF := hH hF
   clear HC ho hnd hF hd3
   go_wp2_with fail
   refine (uh HC3).mono ?_
   rintro e w4 ⟨tt, ⟨x0, x1, x2, x3, x4⟩, p4, rfl, hrep0, hdf, hp4, hb4⟩
   have hs4 := hb4.size
   have hbW : But R W0 w4 := HB1.out.trans (hb2.trans (hb3.trans hb4))
   have hrep := Rep.carry (w' := w4) (Q := fun x => w.heap.size < x ∧ x < w4.heap.size) (fun _ _ => rfl) (fun x hx => by
    rcases hx with h | h
    · have := uh HFF x h; omega
    · omega) _ _ hrep0
   clear hrep0 HD1 HB1 hb2 hb3 hb4 HC3 HFF
   obtain ⟨g0, g1, g2, -, -, -, ⟨a3, cap3, g3, -⟩, a4, cap4, g4, -⟩ := hrep.open
   simp only at g0 g1 g2 g3 g4
   subst g0 g1 g2 g3 g4
   have hbf : But R w w4 := (uh HB0).trans hbW
   have hXf := (uh HX0).of_block (hbW.at (uh HX0).lt (by omega))
   obtain ⟨y0, y1, y2, y3, y4⟩ := cs5 hXf (by omega); have yf := hXf.frozen
   simp only [row5] at y0 y1 y2 y3 y4
   have HEND := hH (fun d0 d1 d2 d3 d4 => an_end (N := 900000) (p := p) hR hrep hdf (by omega) hbf d0 d1 d2 d3 d4)
   generalize tt.names.length = nN at *
   generalize tt.kids.length = nK at *
   clear hrep hdf hbf hbW hXf HX0 HB0
   go_wp2_with fail
   refine bodyPost_ret (v := .agg #[.int .i64 tt.sort, .int .i64 tt.num, .string tt.text, .slice a3 nN cap3, .slice a4 nK cap4]) (by simp [results, Tryz.results56, go_sem, y0, y1, y2, y3, y4]) rfl ?_
   exact uh HEND _ _ _ _ _
 · skip
   go_wp2_with fail
   refine (l5Some_ok R w1 v b (p + 1) true HD1.out (by omega)).mono ?_
   rintro e w2 ⟨k, ⟨k0, k1, k2⟩, p2, rfl, hk, hd2, hp2, -, hb2, hq⟩
   have hs2 := hb2.size
   have HC := hH (someTree_any R w2 v b p2 k ⟨k0, k1, k2⟩ w1.heap.size (by omega) hk hq hd2 (by omega))
   clear hk hq hd2
   go_wp2_with fail
   refine (uh HC).mono ?_
   rintro e w3 ⟨t3, ⟨u0, u1, u2, u3, u4⟩, F, p3, rfl, ho, hnd, hF, hd3, hp3, hb3, hz3, hnm3⟩
   have hs3 := hb3.size
   have HC3 := hH (spoilT_all (tsz t3 + 1) t3 (by omega) (· ∈ F) R w3 v b p3 ⟨u0, u1, u2, u3, u4⟩ hd3 (fun x hx => by have := hF x hx; omega) (Own.rep _ _ F (fun _ h => h) ho) (by omega) (by omega) hnm3)
   have HFF := hH hF
   clear HC ho hnd hF hd3
   go_wp2_with fail
   refine (uh HC3).mono ?_
   rintro e w4 ⟨tt, ⟨x0, x1, x2, x3, x4⟩, p4, rfl, hrep0, hdf, hp4, hb4⟩
   have hs4 := hb4.size
   have hbW : But R W0 w4 := HB1.out.trans (hb2.trans (hb3.trans hb4))
   have hrep := Rep.carry (w' := w4) (Q := fun x => w.heap.size < x ∧ x < w4.heap.size) (fun _ _ => rfl) (fun x hx => by
    rcases hx with h | h
    · have := uh HFF x h; omega
    · omega) _ _ hrep0
   clear hrep0 HD1 HB1 hb2 hb3 hb4 HC3 HFF
   obtain ⟨g0, g1, g2, -, -, -, ⟨a3, cap3, g3, -⟩, a4, cap4, g4, -⟩ := hrep.open
   simp only at g0 g1 g2 g3 g4
   subst g0 g1 g2 g3 g4
   have hbf : But R w w4 := (uh HB0).trans hbW
   have hXf := (uh HX0).of_block (hbW.at (uh HX0).lt (by omega))
   obtain ⟨y0, y1, y2, y3, y4⟩ := cs5 hXf (by omega); have yf := hXf.frozen
   simp only [row5] at y0 y1 y2 y3 y4
   have HEND := hH (fun d0 d1 d2 d3 d4 => an_end (N := 900000) (p := p) hR hrep hdf (by omega) hbf d0 d1 d2 d3 d4)
   generalize tt.names.length = nN at *
   generalize tt.kids.length = nK at *
   clear hrep hdf hbf hbW hXf HX0 HB0
   go_wp2_with fail
   refine bodyPost_ret (v := .agg #[.int .i64 tt.sort, .int .i64 tt.num, .string tt.text, .slice a3 nN cap3, .slice a4 nK cap4]) (by simp [results, Tryz.results56, go_sem, y0, y1, y2, y3, y4]) rfl ?_
   exact uh HEND _ _ _ _ _
 · have z0 : ((r : Int) == 0) = false := beq_eq_false_iff_ne.2 (by omega)
   have z1 : ((r : Int) == 1) = false := beq_eq_false_iff_ne.2 (by omega)
   have z2 : ((r : Int) == 2) = false := beq_eq_false_iff_ne.2 (by omega)
   have z3 : ((r : Int) == 3) = false := beq_eq_false_iff_ne.2 (by omega)
   go_wp2_with fail
   refine (pick_any R w1 v b (p + 1) 2 HD1.out (by omega) (by omega)).mono ?_
   rintro e w2 ⟨r2, rfl, hr2, HD2, HB2⟩
   have hs2 := HB2.out.size
   have HC := hH (fun top => l5Some_ok R w2 v b (p + 1 + 1) top HD2.out (by omega))
   go_wp2_with fail
   refine (uh HC _).mono ?_
   rintro e w3 ⟨k, ⟨k0, k1, k2⟩, p2, rfl, hk, hd2, hp2, -, hb3, hq⟩
   have hs3 := hb3.size
   have HC3 := hH (someTree_any R w3 v b p2 k ⟨k0, k1, k2⟩ w2.heap.size (by omega) hk hq hd2 (by omega))
   clear hk hq hd2 HC
   go_wp2_with fail
   refine (uh HC3).mono ?_
   rintro e w4 ⟨tt, ⟨x0, x1, x2, x3, x4⟩, F, p3, rfl, ho, hnd, hF, hdf, hp3, hb4, hz3, hnm3⟩
   have hs4 := hb4.size
   have hbW : But R W0 w4 := HB1.out.trans (HB2.out.trans (hb3.trans hb4))
   have hrep := Own.rep (P := fun x => w.heap.size < x ∧ x < w4.heap.size) _ _ F (fun x hx => by have := hF x hx; omega) ho
   clear ho hnd hF HD1 HB1 HD2 HB2 hb3 hb4 HC3
   obtain ⟨g0, g1, g2, -, -, -, ⟨a3, cap3, g3, -⟩, a4, cap4, g4, -⟩ := hrep.open
   simp only at g0 g1 g2 g3 g4
   subst g0 g1 g2 g3 g4
   have hbf : But R w w4 := (uh HB0).trans hbW
   have hXf := (uh HX0).of_block (hbW.at (uh HX0).lt (by omega))
   obtain ⟨y0, y1, y2, y3, y4⟩ := cs5 hXf (by omega); have yf := hXf.frozen
   simp only [row5] at y0 y1 y2 y3 y4
   have HEND := hH (fun d0 d1 d2 d3 d4 => an_end (N := 900000) (p := p) hR hrep hdf (by omega) hbf d0 d1 d2 d3 d4)
   generalize tt.names.length = nN at *
   generalize tt.kids.length = nK at *
   clear hrep hdf hbf hbW hXf HX0 HB0
   go_wp2_with fail
   refine bodyPost_ret (v := .agg #[.int .i64 tt.sort, .int .i64 tt.num, .string tt.text, .slice a3 nN cap3, .slice a4 nK cap4]) (by simp [results, Tryz.results56, go_sem, y0, y1, y2, y3, y4]) rfl ?_
   exact uh HEND _ _ _ _ _

def row7 (a b c0 c1 c2 c3 c4 : Value) : Nat → Value
 | 0 => a
 | 1 => b
 | 2 => c0
 | 3 => c1
 | 4 => c2
 | 5 => c3
 | _ => c4
theorem row7_alloc (w : World) (a b c0 c1 c2 c3 c4 : Value) (t : TypeId) : (w.alloc (.cells #[a, b, c0, c1, c2, c3, c4] t)).rowIs w.heap.size t 7 (row7 a b c0 c1 c2 c3 c4) :=
 World.rowIs_alloc w #[a, b, c0, c1, c2, c3, c4] t _ (fun i hi => by
  have hi' : i < 7 := hi
  match i, hi' with
  | 0, _ => rfl
  | 1, _ => rfl
  | 2, _ => rfl
  | 3, _ => rfl
  | 4, _ => rfl
  | 5, _ => rfl
  | 6, _ => rfl)
theorem ebox1 {w w1 : World} {a b x0 x1 x2 x3 x4 : Value} {tx : TypeId}
 (hb : Below (w.alloc (.cells #[a, b, x0, x1, x2, x3, x4] tx)).heap.size (w.alloc (.cells #[a, b, x0, x1, x2, x3, x4] tx)) w1) :
 w1.rowIs w.heap.size tx 7 (row7 a b x0 x1 x2 x3 x4) ∧ w.heap.size + 1 ≤ w1.heap.size ∧ Below w.heap.size w w1 := by
 have r0 := row7_alloc w a b x0 x1 x2 x3 x4 tx
 have hs := hb.size
 refine ⟨r0.of_block (hb.block _ r0.lt), by simpa using hs, ?_⟩
 exact ((Below.refl _ _).alloc (Nat.le_refl _) _).trans (hb.mono (by simp))

def EnEnd (N R : Nat) (w w' : World) (v : Value) (b : List UInt8) (p : Nat) (e : Ending) : Prop :=
 ∃ (ty : ByteArray) (ver : Int) (t : Tr) (c : C5) (p' : Nat), e = .returned (.agg #[.string ty, .int .i64 ver, c.c0, c.c1, c.c2, c.c3, c.c4]) ∧ ty.size ≤ 2000 ∧ I64 ver ∧ Rep (fun x => w.heap.size ≤ x ∧ x < w'.heap.size) w' t c ∧ DR R w' v b p' ∧ p' ≤ p + N ∧ But R w w'
def ev7z : Obj := .cells #[.string ⟨#[]⟩, .int .i64 0, .int .i64 0, .int .i64 0, .string ⟨#[]⟩, .slice none 0 0, .slice none 0 0] 28
theorem en_end {N R B : Nat} {w W : World} {v : Value} {b : List UInt8} {p p' : Nat} {ty : ByteArray} {ver : Int} {t : Tr} {c : C5} (hR : R < w.heap.size) (hty : ty.size ≤ 2000) (hver : I64 ver) (hr : Rep (fun x => w.heap.size < x ∧ x < W.heap.size ∧ x ≠ B) W t c) (hd : DR R W v b p') (h1 : p' ≤ p + N) (hb : But R w W) (d0 d1 d2 d3 d4 d5 d6 : Value) :
 EnEnd N R w (((((((W.setCell ⟨w.heap.size, 0, none⟩ d0).setCell ⟨w.heap.size, 1, none⟩ d1).setCell ⟨w.heap.size, 2, none⟩ d2).setCell ⟨w.heap.size, 3, none⟩ d3).setCell ⟨w.heap.size, 4, none⟩ d4).setCell ⟨w.heap.size, 5, none⟩ d5).setCell ⟨w.heap.size, 6, none⟩ d6) v b p (.returned (.agg #[.string ty, .int .i64 ver, c.c0, c.c1, c.c2, c.c3, c.c4])) := by
 refine ⟨ty, ver, t, c, p', rfl, hty, hver, Rep.carry (fun x hx => by repeat rw [Below.heap_setCell _ _ _ _ (by simp; omega)]) (fun x hx => ⟨by omega, by simp only [size_setCell]; exact hx.2.1⟩) _ _ hr, ?_, h1, ?_⟩
 · repeat refine DR.set ?_ hR _ _
   exact hd
 · repeat refine but_setx ?_ (Nat.le_refl _) _ _
   exact hb
structure EV (R B : Nat) (w : World) (f : Nat → Value) (t : Tr) (c : C5) (v : Value) (b : List UInt8) (p : Nat) (W : World) : Prop where
 dr : DR R W v b p
 but : But R w W
 bE : W.rowIs B 28 7 f
 bX : W.rowIs w.heap.size 28 7 (row7 (.string ⟨#[]⟩) (.int .i64 0) (.int .i64 0) (.int .i64 0) (.string ⟨#[]⟩) (.slice none 0 0) (.slice none 0 0))
 rep : Rep (fun x => w.heap.size < x ∧ x < B) W t c
 lt : R < w.heap.size ∧ w.heap.size < B
theorem EV.next {R B : Nat} {w W W' : World} {f : Nat → Value} {t : Tr} {c : C5} {v : Value} {b : List UInt8} {p p' : Nat} (h : EV R B w f t c v b p W) (hd : DR R W' v b p') (hb : But R W W') : EV R B w f t c v b p' W' := by
 have hl := h.lt
 have hB := h.bE.lt
 exact ⟨hd, h.but.trans hb, h.bE.of_block (hb.at hB (by omega)), h.bX.of_block (hb.at h.bX.lt (by omega)), Rep.carry (fun x hx => hb.at (by omega) (by omega)) (fun _ h => h) _ _ h.rep, hl⟩
theorem EV.on {R B : Nat} {w W W' : World} {f : Nat → Value} {t : Tr} {c : C5} {v : Value} {b : List UInt8} {p : Nat} (h : EV R B w f t c v b p W) (hb : Below W.heap.size W W') : EV R B w f t c v b p W' := h.next (h.dr.on hb) (But.of_below hb)
theorem l5Event_any (R : Nat) (w : World) (v : Value) (b : List UInt8) (p : Nat) (h : DR R w v b p) (hp : p ≤ 100) :
 Calls Tryz.prog 19 #[.pointer (some ⟨R, 0, none⟩)] w fun e w' => EnEnd 1200000 R w w' v b p e := by
 have hR := h.cells.lt
 have hX0 := row7_alloc w (.string ⟨#[]⟩) (.int .i64 0) (.int .i64 0) (.int .i64 0) (.string ⟨#[]⟩) (.slice none 0 0) (.slice none 0 0) 28
 have hd0 := h.on ((Below.refl _ w).alloc (Nat.le_refl _) ev7z)
 have hb0 := But.alloc R w ev7z
 have hz0 : (w.alloc ev7z).heap.size = w.heap.size + 1 := World.size_alloc _ _
 unfold ev7z at hd0 hb0 hz0
 have HX0 := hH hX0; have HB0 := hH hb0; have HD0 := hH hd0; have HZ0 := hH hz0
 clear hX0 hd0 hb0 h hz0
 go_enter Tryz.func19, Tryz.ntmps19
 go_wp2_with fail
 generalize w.alloc (.cells #[.string ⟨#[]⟩, .int .i64 0, .int .i64 0, .int .i64 0, .string ⟨#[]⟩, .slice none 0 0, .slice none 0 0] 28) = W0 at *
 have hz0 := uh HZ0
 try rw [show w.heap.size + 1 = W0.heap.size from hz0.symm]
 refine (of_row R W0 v b p (uh HD0) (by omega) [⟨#[111, 114, 100, 101, 114]⟩, ⟨#[112, 97, 105, 100]⟩, ⟨#[109, 111, 118, 101, 100]⟩, ⟨#[120]⟩, ⟨#[97, 98, 99, 100, 101, 102, 103, 104]⟩] (by simp) (by simp) (fun i hi => by
  rcases (show i = 0 ∨ i = 1 ∨ i = 2 ∨ i = 3 ∨ i = 4 by simp at hi; omega) with rfl | rfl | rfl | rfl | rfl <;> decide)).mono ?_
 rintro e w1 ⟨ty, rfl, hty, HD1, HB1⟩
 have hs1 := HB1.out.size
 clear HD0 HZ0
 go_wp2_with fail
 refine (pick_any R w1 v b (p + 1) 12 HD1.out (by omega) (by omega)).mono ?_
 rintro e w2 ⟨r, rfl, hr, HD2, HB2⟩
 have hs2 := HB2.out.size
 have hwr : IntKind.i64.wrap (1 + (r : Int)) = 1 + (r : Int) := by rw [IntKind.wrap_i64]; omega
 go_wp2_with fail
 refine (l5Some_ok R w2 v b (p + 1 + 1) true HD2.out (by omega)).mono ?_
 rintro e w3 ⟨k, ⟨k0, k1, k2⟩, p3, rfl, hk, hd3, hp3, -, hb3, hq⟩
 have hs3 := hb3.size
 have HC := hH (someTree_any R w3 v b p3 k ⟨k0, k1, k2⟩ w2.heap.size (by omega) hk hq hd3 (by omega))
 clear hk hq hd3
 go_wp2_with fail
 refine (uh HC).mono ?_
 rintro e w4 ⟨t4, ⟨u0, u1, u2, u3, u4⟩, F, p4, rfl, ho, hnd, hF, hd4, hp4, hb4, -, -⟩
 have hs4 := hb4.size
 obtain ⟨g0, g1, g2, -, -, -, F1, F2, -, ⟨a3, cap3, g3, -⟩, a4, cap4, g4, -⟩ := ho.open
 simp only at g0 g1 g2 g3 g4
 subst g0 g1 g2 g3 g4
 have hbW : But R W0 w4 := HB1.out.trans (HB2.out.trans (hb3.trans hb4))
 have hev0 : EV R w4.heap.size w (row7 (.string ty) (.int .i64 (1 + (r : Int))) (.int .i64 t4.sort) (.int .i64 t4.num) (.string t4.text) (.slice a3 t4.names.length cap3) (.slice a4 t4.kids.length cap4)) t4 ⟨.int .i64 t4.sort, .int .i64 t4.num, .string t4.text, .slice a3 t4.names.length cap3, .slice a4 t4.kids.length cap4⟩ v b p4 (w4.alloc (.cells #[.string ty, .int .i64 (1 + (r : Int)), .int .i64 t4.sort, .int .i64 t4.num, .string t4.text, .slice a3 t4.names.length cap3, .slice a4 t4.kids.length cap4] 28)) :=
  ⟨hd4.on ((Below.refl _ _).alloc (Nat.le_refl _) _), ((uh HB0).trans hbW).trans (But.alloc R _ _), row7_alloc w4 _ _ _ _ _ _ _ _, ((uh HX0).of_block (hbW.at (uh HX0).lt (by omega))).alloc _, Rep.carry (fun x hx => Below.heap_alloc _ _ _ hx.2) (fun _ h => h) _ _ (Own.rep (P := fun x => w.heap.size < x ∧ x < w4.heap.size) _ _ F (fun x hx => by have := hF x hx; omega) ho), ⟨hR, by omega⟩⟩
 have HEV0 := hH hev0
 clear hev0 ho hnd hF hd4 hb4 hbW HC HB1 HB2 HD1 HD2 hb3 HX0 HB0
 generalize t4.names.length = nN at *
 generalize t4.kids.length = nK at *
 go_wp2_with fail
 generalize hW5 : w4.alloc (.cells #[.string ty, .int .i64 (1 + (r : Int)), .int .i64 t4.sort, .int .i64 t4.num, .string t4.text, .slice a3 nN cap3, .slice a4 nK cap4] 28) = W5 at *
 clear hW5
 generalize w4.heap.size = B at *
 refine (pick_any R W5 v b p4 20 (uh HEV0).dr (by omega) (by omega)).mono ?_
 rintro e w6 ⟨q, rfl, hq20, HD6, HB6⟩
 have HEV := hH ((uh HEV0).next HD6.out HB6.out)
 clear HEV0 HD6 HB6
 have hver : I64 (1 + (r : Int)) := ⟨by omega, by omega⟩
 have hBlt := (uh HEV).bE.lt
 rcases (show q = 0 ∨ q = 1 ∨ q = 2 ∨ q = 3 ∨ 4 ≤ q by omega) with rfl | rfl | rfl | rfl | hq4
 · skip
   have hne : w.heap.size ≠ B := by have := (uh HEV).lt; omega
   have hne2 : B ≠ w.heap.size := by omega
   have hlB := (uh HEV).lt
   go_wp2_with fail
   refine (of_row R w6 v b (p4 + 1) (uh HEV).dr (by omega) [⟨#[]⟩, ⟨#[65]⟩, ⟨#[57, 97]⟩, ⟨#[116, 111, 111, 108, 111, 110, 103, 97, 97]⟩] (by simp) (by simp) (fun i hi => by
    rcases (show i = 0 ∨ i = 1 ∨ i = 2 ∨ i = 3 by simp at hi; omega) with rfl | rfl | rfl | rfl <;> decide)).mono ?_
   rintro e w7 ⟨ty', rfl, hty', HD7, HB7⟩
   have h7 := (uh HEV).next HD7.out HB7.out
   obtain ⟨m0, m1, m2, m3, m4, m5, m6⟩ := cs7 h7.bE (by omega); have mf := h7.bE.frozen
   obtain ⟨y0, y1, y2, y3, y4, y5, y6⟩ := cs7 h7.bX (by omega); have yf := h7.bX.frozen
   simp only [row7] at m0 m1 m2 m3 m4 m5 m6 y0 y1 y2 y3 y4 y5 y6
   have HEND := hH (fun d0 d1 d2 d3 d4 d5 d6 => en_end (N := 1200000) (p := p) (B := B) (W := w7.setCell ⟨B, 0, none⟩ (.string ty')) hR hty' hver (Rep.carry (fun x hx => Below.heap_setCell _ _ _ _ (by simp; omega)) (fun x hx => ⟨hx.1, by have := h7.bE.lt; simp only [size_setCell]; omega, by omega⟩) _ _ h7.rep) (h7.dr.set (by omega) _ _) (by omega) (but_setx h7.but (by omega) _ _) d0 d1 d2 d3 d4 d5 d6)
   clear h7 HD7 HB7 HEV
   go_wp2_with fail
   refine bodyPost_ret (v := .agg #[.string ty', .int .i64 (1 + (r : Int)), .int .i64 t4.sort, .int .i64 t4.num, .string t4.text, .slice a3 nN cap3, .slice a4 nK cap4]) (by simp [results, Tryz.results19, go_sem, y0, y1, y2, y3, y4, y5, y6]) rfl ?_
   exact uh HEND _ _ _ _ _ _ _
 · skip
   have hne : w.heap.size ≠ B := by have := (uh HEV).lt; omega
   have hne2 : B ≠ w.heap.size := by omega
   have hlB := (uh HEV).lt
   have hbi := (Below.refl _ w6).alloc (Nat.le_refl _) (.cells #[.int .i64 0, .int .i64 (-1), .int .i64 13, .int .i64 256] 3)
   have HPK := hH (pick_any R _ v b (p4 + 1) 4 ((uh HEV).on hbi).dr (by omega) (by omega))
   have HEV1 := hH ((uh HEV).on hbi)
   clear hbi
   go_wp2_with fail
   refine (uh HPK).mono ?_
   rintro e w7 ⟨r5, rfl, hr5, HD7, HB7⟩
   have h7 := (uh HEV1).next HD7.out HB7.out
   have hrw : w7.rowIs w6.heap.size 3 4 (fun i => (#[.int .i64 0, .int .i64 (-1), .int .i64 13, .int .i64 256] : Array Value).getD i undef) := World.rowIs.of_block (rowIs_get w6 #[.int .i64 0, .int .i64 (-1), .int .i64 13, .int .i64 256] 3) (HB7.out.at (by simp) (by omega))
   obtain ⟨z, hz, e1⟩ : ∃ z, I64 z ∧ w7.cell? ⟨w6.heap.size, r5, none⟩ = some (.int .i64 z) := by
    have := hrw.cell (i := r5) hr5
    rcases (show r5 = 0 ∨ r5 = 1 ∨ r5 = 2 ∨ r5 = 3 by omega) with rfl | rfl | rfl | rfl
    all_goals exact ⟨_, ⟨by decide, by decide⟩, this⟩
   have hix : (r5 : Int) < 4 := by omega
   obtain ⟨m0, m1, m2, m3, m4, m5, m6⟩ := cs7 h7.bE (by omega); have mf := h7.bE.frozen
   obtain ⟨y0, y1, y2, y3, y4, y5, y6⟩ := cs7 h7.bX (by omega); have yf := h7.bX.frozen
   simp only [row7] at m0 m1 m2 m3 m4 m5 m6 y0 y1 y2 y3 y4 y5 y6
   have HEND := hH (fun d0 d1 d2 d3 d4 d5 d6 => en_end (N := 1200000) (p := p) (B := B) (W := w7.setCell ⟨B, 1, none⟩ (.int .i64 z)) hR hty hz (Rep.carry (fun x hx => Below.heap_setCell _ _ _ _ (by simp; omega)) (fun x hx => ⟨hx.1, by have := h7.bE.lt; simp only [size_setCell]; omega, by omega⟩) _ _ h7.rep) (h7.dr.set (by omega) _ _) (by omega) (but_setx h7.but (by omega) _ _) d0 d1 d2 d3 d4 d5 d6)
   clear h7 HD7 HB7 HEV HEV1 HPK hrw
   go_wp2_with fail
   refine bodyPost_ret (v := .agg #[.string ty, .int .i64 z, .int .i64 t4.sort, .int .i64 t4.num, .string t4.text, .slice a3 nN cap3, .slice a4 nK cap4]) (by simp [results, Tryz.results19, go_sem, y0, y1, y2, y3, y4, y5, y6]) rfl ?_
   exact uh HEND _ _ _ _ _ _ _
 · skip
   have hne : w.heap.size ≠ B := by have := (uh HEV).lt; omega
   have hne2 : B ≠ w.heap.size := by omega
   have hlB := (uh HEV).lt
   have HC := hH (l5Any_any R w6 v b (p4 + 1) (uh HEV).dr (by omega))
   go_wp2_with fail
   refine (uh HC).mono ?_
   rintro e w7 ⟨t7, ⟨x0, x1, x2, x3, x4⟩, p7, rfl, hr7, hd7, hp7, hb7⟩
   have h7 := (uh HEV).next hd7 hb7
   obtain ⟨q0, q1, q2, -, -, -, ⟨a5, cap5, q3, -⟩, a6, cap6, q4, -⟩ := hr7.open
   simp only at q0 q1 q2 q3 q4
   subst q0 q1 q2 q3 q4
   obtain ⟨m0, m1, m2, m3, m4, m5, m6⟩ := cs7 h7.bE (by omega); have mf := h7.bE.frozen
   obtain ⟨y0, y1, y2, y3, y4, y5, y6⟩ := cs7 h7.bX (by omega); have yf := h7.bX.frozen
   simp only [row7] at m0 m1 m2 m3 m4 m5 m6 y0 y1 y2 y3 y4 y5 y6
   have hs7 := h7.bE.lt
   have HEND := hH (fun d0 d1 d2 d3 d4 d5 d6 => en_end (N := 1200000) (p := p) (B := B) (W := ((((w7.setCell ⟨B, 2, none⟩ (.int .i64 t7.sort)).setCell ⟨B, 3, none⟩ (.int .i64 t7.num)).setCell ⟨B, 4, none⟩ (.string t7.text)).setCell ⟨B, 5, none⟩ (.slice a5 t7.names.length cap5)).setCell ⟨B, 6, none⟩ (.slice a6 t7.kids.length cap6)) (t := t7) (c := ⟨.int .i64 t7.sort, .int .i64 t7.num, .string t7.text, .slice a5 t7.names.length cap5, .slice a6 t7.kids.length cap6⟩) hR hty hver (Rep.carry (fun x hx => by repeat rw [Below.heap_setCell _ _ _ _ (by simp; omega)]) (fun x hx => ⟨by omega, by simp only [size_setCell]; exact hx.2, by omega⟩) _ _ hr7) (by
    repeat refine DR.set ?_ (by omega) _ _
    exact h7.dr) (by omega) (by
    repeat refine but_setx ?_ (by omega) _ _
    exact h7.but) d0 d1 d2 d3 d4 d5 d6)
   generalize t7.names.length = mN at *
   generalize t7.kids.length = mK at *
   clear h7 hr7 HEV HC
   go_wp2_with fail
   refine bodyPost_ret (v := .agg #[.string ty, .int .i64 (1 + (r : Int)), .int .i64 t7.sort, .int .i64 t7.num, .string t7.text, .slice a5 mN cap5, .slice a6 mK cap6]) (by simp [results, Tryz.results19, go_sem, y0, y1, y2, y3, y4, y5, y6]) rfl ?_
   exact uh HEND _ _ _ _ _ _ _
 · skip
   have hne : w.heap.size ≠ B := by have := (uh HEV).lt; omega
   have hne2 : B ≠ w.heap.size := by omega
   have hlB := (uh HEV).lt
   have HC := hH (l5Full_any w6 120 (by omega))
   go_wp2_with fail
   refine (uh HC).mono ?_
   rintro e w7 ⟨t7, ⟨x0, x1, x2, x3, x4⟩, rfl, hr7, hb7⟩
   have h7 := (uh HEV).on hb7
   obtain ⟨q0, q1, q2, -, -, -, ⟨a5, cap5, q3, -⟩, a6, cap6, q4, -⟩ := hr7.open
   simp only at q0 q1 q2 q3 q4
   subst q0 q1 q2 q3 q4
   obtain ⟨m0, m1, m2, m3, m4, m5, m6⟩ := cs7 h7.bE (by omega); have mf := h7.bE.frozen
   obtain ⟨y0, y1, y2, y3, y4, y5, y6⟩ := cs7 h7.bX (by omega); have yf := h7.bX.frozen
   simp only [row7] at m0 m1 m2 m3 m4 m5 m6 y0 y1 y2 y3 y4 y5 y6
   have hs7 := h7.bE.lt
   have HEND := hH (fun d0 d1 d2 d3 d4 d5 d6 => en_end (N := 1200000) (p := p) (B := B) (W := ((((w7.setCell ⟨B, 2, none⟩ (.int .i64 t7.sort)).setCell ⟨B, 3, none⟩ (.int .i64 t7.num)).setCell ⟨B, 4, none⟩ (.string t7.text)).setCell ⟨B, 5, none⟩ (.slice a5 t7.names.length cap5)).setCell ⟨B, 6, none⟩ (.slice a6 t7.kids.length cap6)) (t := t7) (c := ⟨.int .i64 t7.sort, .int .i64 t7.num, .string t7.text, .slice a5 t7.names.length cap5, .slice a6 t7.kids.length cap6⟩) hR hty hver (Rep.carry (fun x hx => by repeat rw [Below.heap_setCell _ _ _ _ (by simp; omega)]) (fun x hx => ⟨by omega, by simp only [size_setCell]; exact hx.2, by omega⟩) _ _ hr7) (by
    repeat refine DR.set ?_ (by omega) _ _
    exact h7.dr) (by omega) (by
    repeat refine but_setx ?_ (by omega) _ _
    exact h7.but) d0 d1 d2 d3 d4 d5 d6)
   generalize t7.names.length = mN at *
   generalize t7.kids.length = mK at *
   clear h7 hr7 HEV HC
   go_wp2_with fail
   refine bodyPost_ret (v := .agg #[.string ty, .int .i64 (1 + (r : Int)), .int .i64 t7.sort, .int .i64 t7.num, .string t7.text, .slice a5 mN cap5, .slice a6 mK cap6]) (by simp [results, Tryz.results19, go_sem, y0, y1, y2, y3, y4, y5, y6]) rfl ?_
   exact uh HEND _ _ _ _ _ _ _
 · skip
   have hne : w.heap.size ≠ B := by have := (uh HEV).lt; omega
   have hne2 : B ≠ w.heap.size := by omega
   have hlB := (uh HEV).lt
   have z0 : ((q : Int) == 0) = false := beq_eq_false_iff_ne.2 (by omega)
   have z1 : ((q : Int) == 1) = false := beq_eq_false_iff_ne.2 (by omega)
   have z2 : ((q : Int) == 2) = false := beq_eq_false_iff_ne.2 (by omega)
   have z3 : ((q : Int) == 3) = false := beq_eq_false_iff_ne.2 (by omega)
   have h7 := uh HEV
   obtain ⟨m0, m1, m2, m3, m4, m5, m6⟩ := cs7 h7.bE (by omega); have mf := h7.bE.frozen
   obtain ⟨y0, y1, y2, y3, y4, y5, y6⟩ := cs7 h7.bX (by omega); have yf := h7.bX.frozen
   simp only [row7] at m0 m1 m2 m3 m4 m5 m6 y0 y1 y2 y3 y4 y5 y6
   have HEND := hH (fun d0 d1 d2 d3 d4 d5 d6 => en_end (N := 1200000) (p := p) (B := B) hR hty hver (Rep.carry (w' := w6) (fun _ _ => rfl) (fun x hx => ⟨hx.1, by omega, by omega⟩) _ _ h7.rep) h7.dr (by omega) h7.but d0 d1 d2 d3 d4 d5 d6)
   clear h7 HEV
   go_wp2_with fail
   refine bodyPost_ret (v := .agg #[.string ty, .int .i64 (1 + (r : Int)), .int .i64 t4.sort, .int .i64 t4.num, .string t4.text, .slice a3 nN cap3, .slice a4 nK cap4]) (by simp [results, Tryz.results19, go_sem, y0, y1, y2, y3, y4, y5, y6]) rfl ?_
   exact uh HEND _ _ _ _ _ _ _

def BytesAt (w : World) (v : Value) (l : List UInt8) : Prop :=
 ∃ a cap, v = .slice a l.length cap ∧ l.length ≤ 9223372036854775807 ∧ ∀ i, (h : i < l.length) → ∃ b o, a = some ⟨b, o, none⟩ ∧ b < w.heap.size ∧ w.cell? ⟨b, o + i, none⟩ = some (.int .u8 l[i].toNat)
theorem BytesAt.on {w w' : World} {v : Value} {l : List UInt8} (h : BytesAt w v l) (hb : Below w.heap.size w w') : BytesAt w' v l := by
 obtain ⟨a, cap, h1, h2, h3⟩ := h
 refine ⟨a, cap, h1, h2, fun i hi => ?_⟩
 obtain ⟨b, o, e, hlt, hc⟩ := h3 i hi
 exact ⟨b, o, e, Nat.lt_of_lt_of_le hlt hb.size, by rw [hb.cell hlt]; exact hc⟩

theorem l6Open_any (w : World) (a : Option Addr) (cap : Nat) (l : List UInt8) (hv : BytesAt w (.slice a l.length cap) l) (hcap : l.length ≤ cap) :
 Calls Tryz.prog 20 #[.slice a l.length cap] w fun e w' => ∃ (v' : Value) (b' : List UInt8), e = .returned (.pointer (some ⟨w.heap.size, 0, none⟩)) ∧ DR w.heap.size w' v' b' 0 ∧ Below w.heap.size w w' := by
 obtain ⟨a', cap', e, hlen, hc⟩ := hv
 simp only [Value.slice.injEq, true_and] at e
 obtain ⟨rfl, rfl⟩ := e
 by_cases h2 : l.length ≤ 2000
 · have hq : decide ((2000 : Int) < (l.length : Int)) = false := by simp; omega
   have HC := hH hc
   clear hc
   go_enter Tryz.func20, Tryz.ntmps20
   go_wp2_with fail
   go_ret
   refine ⟨.slice a l.length cap, l, rfl, ⟨?_, ⟨a, cap, rfl, fun i hi => ?_⟩, h2⟩, (Below.refl _ _).alloc (Nat.le_refl _) _⟩
   · exact World.rowIs_alloc w #[.slice a l.length cap, .int .i64 0] 88 _ (fun i hi => by
      have hi' : i < 2 := by simpa using hi
      rcases (show i = 0 ∨ i = 1 by omega) with rfl | rfl <;> rfl)
   · obtain ⟨g, o, e, hlt, hcell⟩ := uh HC i hi
     exact ⟨g, o, e, hlt, by rw [World.cell?_of_block (w := w) (Below.heap_alloc _ _ _ hlt)]; exact hcell⟩
 · have hq : decide ((2000 : Int) < (l.length : Int)) = true := by simp; omega
   obtain ⟨g, o, rfl, -, -⟩ := hc 0 (by omega)
   have HC := hH hc
   clear hc
   have hc2 : 2000 ≤ cap := by omega
   have hc3 : (2000 : Int) ≤ (cap : Int) := by omega
   go_enter Tryz.func20, Tryz.ntmps20
   go_wp2_with fail
   go_ret
   have hl2 : (l.take 2000).length = 2000 := by rw [List.length_take]; omega
   refine ⟨.slice (some ⟨g, o, none⟩) 2000 cap, l.take 2000, rfl, ⟨?_, ⟨_, cap, by rw [hl2], fun i hi => ?_⟩, by omega⟩, (Below.refl _ _).alloc (Nat.le_refl _) _⟩
   · exact World.rowIs_alloc w #[.slice (some ⟨g, o, none⟩) 2000 cap, .int .i64 0] 88 _ (fun i hi => by
      have hi' : i < 2 := by simpa using hi
      rcases (show i = 0 ∨ i = 1 by omega) with rfl | rfl <;> rfl)
   · obtain ⟨g', o', e, hlt, hcell⟩ := uh HC i (by omega)
     exact ⟨g', o', e, hlt, by rw [World.cell?_of_block (w := w) (Below.heap_alloc _ _ _ hlt), List.getElem_take]; exact hcell⟩

def shortB (s : ByteArray) : List UInt8 := UInt8.ofNat s.size :: s.data.toList
theorem shortB_len (s : ByteArray) : (shortB s).length = s.size + 1 := by
 simp [shortB]
def sevB (n : Nat) : List UInt8 := if 127 < n then UInt8.ofNat (128 + n % 128) :: sevB (n / 128) else [UInt8.ofNat n]
termination_by n
decreasing_by omega
theorem sevB_more {n : Nat} (h : 127 < n) : sevB n = UInt8.ofNat (128 + n % 128) :: sevB (n / 128) := by rw [sevB, if_pos h]
theorem sevB_last {n : Nat} (h : ¬ 127 < n) : sevB n = [UInt8.ofNat n] := by rw [sevB, if_neg h]
theorem sevB_len {n : Nat} (h : n ≤ 999999999) : (sevB n).length ≤ 5 := by
 by_cases h1 : 127 < n
 · rw [sevB_more h1]
   by_cases h2 : 127 < n / 128
   · rw [sevB_more h2]
     by_cases h3 : 127 < n / 128 / 128
     · rw [sevB_more h3]
       by_cases h4 : 127 < n / 128 / 128 / 128
       · rw [sevB_more h4, sevB_last (by omega)]; simp
       · rw [sevB_last h4]; simp
     · rw [sevB_last h3]; simp
   · rw [sevB_last h2]; simp
 · rw [sevB_last h1]; simp
def numB (n : Int) : List UInt8 := (if n < 0 then 1 else 0) :: sevB n.natAbs
mutual
def treeB : Tr → List UInt8
 | .mk s n tx ns ks => UInt8.ofNat s.toNat :: (if s = 1 then numB n else if s = 2 then shortB tx else if s = 3 then [UInt8.ofNat n.toNat] else UInt8.ofNat ks.length :: kidsB (decide (s = 5)) ns ks)
def kidsB (form : Bool) : List ByteArray → List Tr → List UInt8
 | _, [] => []
 | ns, k :: r => (if form then shortB (ns.headD ByteArray.empty) else []) ++ (treeB k ++ kidsB form ns.tail r)
end
theorem treeB_eq (t : Tr) : treeB t = UInt8.ofNat t.sort.toNat :: (if t.sort = 1 then numB t.num else if t.sort = 2 then shortB t.text else if t.sort = 3 then [UInt8.ofNat t.num.toNat] else UInt8.ofNat t.kids.length :: kidsB (decide (t.sort = 5)) t.names t.kids) := by
 obtain ⟨s, n, tx, ns, ks⟩ := t
 rw [treeB]; rfl
theorem kidsB_take (form : Bool) : ∀ (ns : List ByteArray) (ks : List Tr) (k : Nat) (hk : k < ks.length), kidsB form ns (ks.take (k + 1)) = kidsB form ns (ks.take k) ++ ((if form then shortB (ns.getD k ByteArray.empty) else []) ++ treeB ks[k])
 | _, [], k, hk => by simp at hk
 | ns, a :: r, 0, _ => by
   simp only [List.take_succ_cons, List.take_zero, kidsB, List.nil_append, List.append_nil, List.getElem_cons_zero]
   cases ns <;> rfl
 | ns, a :: r, k + 1, hk => by
   have ih := kidsB_take form ns.tail r k (by simpa using hk)
   simp only [List.take_succ_cons, kidsB, List.getElem_cons_succ]
   rw [ih]
   have : ns.tail.getD k ByteArray.empty = ns.getD (k + 1) ByteArray.empty := by cases ns <;> simp
   rw [this]
   simp [List.append_assoc]
theorem kidsB_le (form : Bool) : ∀ (ns : List ByteArray) (ks : List Tr) (k : Nat), (kidsB form ns (ks.take k)).length ≤ (kidsB form ns ks).length
 | _, [], k => by simp
 | ns, a :: r, 0 => by simp [kidsB]
 | ns, a :: r, k + 1 => by
   have := kidsB_le form ns.tail r k
   simp only [List.take_succ_cons, kidsB, List.length_append]
   omega
theorem ok_sort {t : Tr} {d : Int} (h : 0 < pT t d) : t.sort = 1 ∨ t.sort = 2 ∨ t.sort = 3 ∨ t.sort = 4 ∨ t.sort = 5 ∨ t.sort = 6 := by
 rw [pT_eq] at h
 split at h
 · omega
 · rename_i hn
   have ha : aloneB t = true := by simpa using (not_or.1 hn).2
   unfold aloneB at ha
   by_cases h1 : t.sort = 1; · omega
   by_cases h2 : t.sort = 2; · omega
   by_cases h3 : t.sort = 3; · omega
   by_cases h4 : t.sort = 4; · omega
   by_cases h5 : t.sort = 5; · omega
   by_cases h6 : t.sort = 6; · omega
   simp [h1, h2, h3, h4, h5, h6] at ha
theorem ok_alone {t : Tr} {d : Int} (h : 0 < pT t d) : aloneB t = true ∧ d ≤ 6 ∧ pT t d = pK t.kids d 1 := by
 rw [pT_eq] at h ⊢
 split at h
 · omega
 · rename_i hn
   have hn' := not_or.1 hn
   rw [if_neg hn]
   exact ⟨by simpa using hn'.2, by omega, rfl⟩
theorem ok_num {t : Tr} {d : Int} (h : 0 < pT t d) (h1 : t.sort = 1) : -999999999 ≤ t.num ∧ t.num ≤ 999999999 := by
 have ha := (ok_alone h).1
 unfold aloneB at ha
 simp [h1] at ha
 omega
theorem ok_text {t : Tr} {d : Int} (h : 0 < pT t d) (h1 : t.sort = 2) : t.text.size ≤ 60 := by
 have ha := (ok_alone h).1
 unfold aloneB at ha
 simp [h1, textOkB] at ha
 omega
theorem ok_flag {t : Tr} {d : Int} (h : 0 < pT t d) (h1 : t.sort = 3) : 0 ≤ t.num ∧ t.num ≤ 1 := by
 have ha := (ok_alone h).1
 unfold aloneB at ha
 simp [h1] at ha
 omega
theorem ok_names {t : Tr} {d : Int} (h : 0 < pT t d) (h1 : t.sort = 5) : t.names.length = t.kids.length ∧ ∀ s ∈ t.names, s.size ≤ 8 := by
 have ha := (ok_alone h).1
 unfold aloneB at ha
 simp [h1] at ha
 refine ⟨ha.1.2, fun s hs => ?_⟩
 obtain ⟨i, hi, rfl⟩ := List.getElem_of_mem hs
 have hg := ha.2
 unfold riseB at hg
 rw [List.all_eq_true] at hg
 have := hg i (List.mem_range.2 hi)
 unfold good nameOkB at this
 rw [getD_lt _ _ hi] at this
 simp at this
 omega
theorem pK_pos : ∀ (ks : List Tr) (d n : Int), 0 < pK ks d n → ∀ k, (hk : k < ks.length) → 0 < pT ks[k] (d + 1)
 | [], _, _, _, k, hk => by simp at hk
 | t :: r, d, n, h, k, hk => by
   rw [pK] at h
   split at h
   · omega
   · rename_i hn
     have hn' := not_or.1 hn
     cases k with
     | zero =>
       have := pT_bd t (d + 1)
       simp only [List.getElem_cons_zero]
       omega
     | succ k => exact pK_pos r d _ h k (by simpa using hk)
theorem pK_count : ∀ (ks : List Tr) (d n : Int), 0 < pK ks d n → n + ks.length ≤ pK ks d n
 | [], _, n, _ => by rw [pK]; simp
 | t :: r, d, n, h => by
   rw [pK] at h ⊢
   split at h
   · omega
   · rename_i hn
     rw [if_neg hn]
     have hn' := not_or.1 hn
     have := pK_count r d _ h
     have := pT_bd t (d + 1)
     simp
     omega
theorem ok_kid {t : Tr} {d : Int} (h : 0 < pT t d) (k : Nat) (hk : k < t.kids.length) : 0 < pT t.kids[k] (d + 1) := by
 rw [(ok_alone h).2.2] at h
 exact pK_pos _ _ _ h k hk
theorem ok_many {t : Tr} {d : Int} (h : 0 < pT t d) : t.kids.length ≤ 119 := by
 have hb := pT_bd t d
 have he := (ok_alone h).2.2
 rw [he] at h hb
 have := pK_count _ _ _ h
 omega
mutual
theorem treeB_len : ∀ (t : Tr) (d : Int), 0 < pT t d → ((treeB t).length : Int) + 9 ≤ 71 * pT t d
 | .mk s n tx ns ks, d => by
   intro h
   have hs := ok_sort h
   have hnum := ok_num h
   have htext := ok_text h
   have hnames := ok_names h
   have he := (ok_alone h).2.2
   have h' := h
   rw [he] at h' ⊢
   have hbase : (1 : Int) ≤ pK ks d 1 := h'
   simp only [Tr.sort, Tr.num, Tr.text, Tr.names, Tr.kids] at *
   rw [treeB]
   by_cases h1 : s = 1
   · subst h1
     have hl := sevB_len (n := n.natAbs) (by have := hnum rfl; omega)
     simp [numB]
     omega
   by_cases h2 : s = 2
   · subst h2
     have := htext rfl
     have := shortB_len tx
     simp [this]
     omega
   by_cases h3 : s = 3
   · subst h3
     simp
     omega
   rw [if_neg h1, if_neg h2, if_neg h3]
   have hk := kidsB_len (decide (s = 5)) ns ks d 1 (fun hf x hx => (hnames (by simpa using hf)).2 x hx) h'
   simp
   omega
theorem kidsB_len (form : Bool) : ∀ (ns : List ByteArray) (ks : List Tr) (d n : Int), (form = true → ∀ s ∈ ns, s.size ≤ 8) → 0 < pK ks d n → ((kidsB form ns ks).length : Int) + 71 * n ≤ 71 * pK ks d n
 | ns, [], d, n, _, h => by rw [kidsB, pK]; simp
 | ns, t :: r, d, n, hn, h => by
   rw [pK] at h ⊢
   split at h
   · omega
   · rename_i hh
     rw [if_neg hh]
     have hh' := not_or.1 hh
     have hp : 0 < pT t (d + 1) := by have := pT_bd t (d + 1); omega
     have i1 := treeB_len t (d + 1) hp
     have i2 := kidsB_len form ns.tail r d _ (fun hf s hs => hn hf s (List.mem_of_mem_tail hs)) h
     rw [kidsB]
     have i3 : (if form then shortB (ns.headD ByteArray.empty) else []).length ≤ 9 := by
      split
      · rename_i hf
        rw [shortB_len]
        cases ns with
        | nil => simp
        | cons a _ => have := hn hf a (by simp); simp; omega
      · simp
     simp only [List.length_append]
     omega
end
def eventB (ty : ByteArray) (ver : Int) (t : Tr) : List UInt8 := (shortB ty ++ [UInt8.ofNat ver.toNat]) ++ treeB t
theorem eventB_len {ty : ByteArray} {ver : Int} {t : Tr} {d : Int} (h1 : ty.size ≤ 8) (h : 0 < pT t d) : (eventB ty ver t).length ≤ 9000 := by
 have a := treeB_len t d h
 have b := pT_bd t d
 have c := shortB_len ty
 simp only [eventB, List.length_append, List.length_cons, List.length_nil, c]
 omega

def bc (l : List UInt8) : List Value := l.map fun b => Value.int .u8 b.toNat
theorem bc_append (a b : List UInt8) : bc (a ++ b) = bc a ++ bc b := List.map_append
theorem bc_str (s : ByteArray) : Lib.strCells s = bc s.data.toList := rfl
theorem bc_len (l : List UInt8) : (bc l).length = l.length := List.length_map _
def ByRow (base : Nat) (w : World) (v : Value) (l : List UInt8) : Prop := w.ownsRow base 5 1 v l.length (bc l)
theorem infoU8 : (Tryz.prog.info? 5).map (fun i => (i.zero, i.size, i.bytes)) = some (some (.int .u8 0), 1, 1) := by kernel_rfl
theorem ByRow.slice {base : Nat} {w : World} {v : Value} {l : List UInt8} (h : ByRow base w v l) : ∃ a cap, v = .slice a l.length cap := by
 rcases h.2 with ⟨hv, h0⟩ | ⟨g, cap, cur, hv, _⟩
 · exact ⟨none, 0, by rw [hv, h0]⟩
 · exact ⟨_, cap, hv⟩
theorem ByRow.below {base : Nat} {w w' : World} {v : Value} {l : List UInt8} (h : ByRow base w v l) (hg : w.grownBy w' v.ownBlock) (hb : base ≤ w.heap.size) : Below base w w' :=
 (Below.refl base w).grown hg hb (fun k e => (h.lt k e).1)
theorem ByRow.str {base : Nat} {w : World} {v : Value} {l : List UInt8} (h : ByRow base w v l) : (convert 22 9 v).run Tryz.prog w = .ok (.string ⟨l.toArray⟩) w := by
 rcases h.2 with ⟨hv, h0⟩ | ⟨g, cap, cur, hv, hgb, hh, hle, hm2, hsz, htk⟩
 · have hl : l = [] := List.eq_nil_of_length_eq_zero h0
   subst hl hv
   rw [run_convert_bytes_string w 22 9 5 none 0 0 Tryz.underlying22 Tryz.underlying5 Tryz.underlying9]
   rfl
 · subst hv
   refine run_convert_bytes_back w 22 9 5 ⟨g, 0, none⟩ cap l Tryz.underlying22 Tryz.underlying5 Tryz.underlying9 (fun j hj => ?_)
   have h1 : (bc l)[j]? = some (.int .u8 (l[j].toNat : Int)) := by simp [bc, hj]
   exact h.cells (g := g) rfl j _ h1
theorem ByRow.form {base : Nat} {w : World} {v : Value} {l : List UInt8} (h : ByRow base w v l) (hl : 0 < l.length) : ∃ g cap, v = .slice (some ⟨g, 0, none⟩) l.length cap ∧ base ≤ g ∧ g < w.heap.size ∧ ∀ j u, (bc l)[j]? = some u → w.cell? ((⟨g, 0, none⟩ : Addr).add j) = some u := by
 rcases h.2 with ⟨hv, h0⟩ | ⟨g, cap, cur, hv, hb, _⟩
 · omega
 · exact ⟨g, cap, hv, hb, (h.lt g (by rw [hv]; rfl)).2, fun j u hj => h.cells (g := g) (by rw [hv]; rfl) j u hj⟩
theorem append_bytes (w : World) {ops : Array Oper} {rest : List Oper} {o : Oper} {a : Act} {Q : Exit → Act → World → Prop}
 (hg : o.guard = none) (s x : Operand) (hop : o.op = Op.call { callee := Callee.builtin Builtin.append, args := #[s, x], argTypes := #[22, 22] })
 (base : Nat) (v : Value) (l news : List UInt8) (hs : a.eval s = v) (hown : ByRow base w v l)
 (ad : Addr) (m c : Nat) (hx : a.eval x = .slice (some ad) m c) (hm : m = news.length) (hc : ∀ j u, (bc news)[j]? = some u → w.cell? (ad.add j) = some u)
 (hlen : l.length + news.length ≤ 1099511627776) (hbase : base ≤ w.heap.size)
 (hK : ∀ a' n' cap' w', Hid (n' = (l ++ news).length) → Hid (ByRow base w' (.slice a' n' cap') (l ++ news)) → Hid (w.grownBy w' v.ownBlock) → wpList Tryz.prog ops Q rest (a.put o.dst (.slice a' n' cap')) w') :
 wpList Tryz.prog ops Q (o :: rest) a w := by
 obtain ⟨i0, hi, hz0, hz1, hz2⟩ := info_parts infoU8
 subst hm
 refine wpList_append_own w hg s x 22 hop base 5 i0 (.int .u8 0) 1 1 Tryz.underlying22 hi hz0 hz1 hz2 rfl (by decide) v l.length (bc l) hs hown ad news.length c (bc news) hx (by rw [bc_len, Nat.mul_one]) hc (fun u hu => ?_) (by unfold maxLen; omega) (by omega) hbase (fun v' w' r1 r2 _ => ?_)
 · obtain ⟨_, _, rfl⟩ := List.mem_map.1 hu
   rfl
 · have hr : ByRow base w' v' (l ++ news) := by
    show w'.ownsRow base 5 1 v' (l ++ news).length (bc (l ++ news))
    rw [bc_append, List.length_append]; exact r1
   obtain ⟨a', cap', rfl⟩ := hr.slice
   exact hK a' _ cap' w' rfl hr r2
theorem step_append_bytes (w : World) {ops : Array Oper} {o : Oper} {a : Act} {K : Act → World → Prop} {Q : Exit → Act → World → Prop} {E : Prop}
 (hg : o.guard = none) (s x : Operand) (hop : o.op = Op.call { callee := Callee.builtin Builtin.append, args := #[s, x], argTypes := #[22, 22] })
 (base : Nat) (v : Value) (l news : List UInt8) (hs : a.eval s = v) (hown : ByRow base w v l)
 (ad : Addr) (m c : Nat) (hx : a.eval x = .slice (some ad) m c) (hm : m = news.length) (hpos : 0 < m) (hc : ∀ j u, (bc news)[j]? = some u → w.cell? (ad.add j) = some u)
 (hlen : l.length + news.length ≤ 1099511627776) (hbase : base ≤ w.heap.size)
 (hK : ∀ a' n' cap' w', Hid (n' = (l ++ news).length) → Hid (ByRow base w' (.slice a' n' cap') (l ++ news)) → Hid (w.grownBy w' v.ownBlock) → K (a.put o.dst (.slice a' n' cap')) w') :
 if Region.wanted o (yielded ops a.tmps) = true then Oper.wp Tryz.prog o a w K Q else E := by
 obtain ⟨i0, hi, hz0, hz1, hz2⟩ := info_parts infoU8
 subst hm
 refine step_append_lies w hg s x 22 hop base 5 i0 (.int .u8 0) 1 1 Tryz.underlying22 hi hz0 hz1 hz2 rfl (by decide) v l.length (bc l) hs hown ad news.length c (bc news) hx (by rw [bc_len, Nat.mul_one]) hc (fun u hu => ?_) hpos (by unfold maxLen; omega) (by omega) hbase _ rfl (fun g cap w' r1 r2 _ _ => ?_)
 · obtain ⟨_, _, rfl⟩ := List.mem_map.1 hu
   rfl
 · refine hK _ _ _ w' (by show _ = _; rw [List.length_append]) ?_ r2
   show w'.ownsRow base 5 1 _ (l ++ news).length (bc (l ++ news))
   rw [bc_append, List.length_append]; exact r1
theorem append_string (w : World) {ops : Array Oper} {rest : List Oper} {o : Oper} {a : Act} {Q : Exit → Act → World → Prop}
 (hg : o.guard = none) (s x : Operand) (hop : o.op = Op.call { callee := Callee.builtin Builtin.append, args := #[s, x], argTypes := #[22, 9] })
 (base : Nat) (v : Value) (l : List UInt8) (tx : ByteArray) (hs : a.eval s = v) (hown : ByRow base w v l) (hx : a.eval x = .string tx)
 (hlen : l.length + tx.size ≤ 1099511627776) (hbase : base ≤ w.heap.size)
 (hK : ∀ a' n' cap' w', Hid (n' = (l ++ tx.data.toList).length) → Hid (ByRow base w' (.slice a' n' cap') (l ++ tx.data.toList)) → Hid (w.grownBy w' v.ownBlock) → wpList Tryz.prog ops Q rest (a.put o.dst (.slice a' n' cap')) w') :
 wpList Tryz.prog ops Q (o :: rest) a w := by
 obtain ⟨i0, hi, hz0, hz1, hz2⟩ := info_parts infoU8
 have hsz : tx.data.toList.length = tx.size := by simp
 refine Lib.wpList_append_own_string w hg s x 22 9 hop base 5 i0 Tryz.underlying22 Tryz.underlying9 hi hz0 hz1 hz2 v l.length (bc l) hs hown tx hx (by unfold maxLen; omega) (by omega) hbase (fun v' w' r1 r2 _ => ?_)
 have hr : ByRow base w' v' (l ++ tx.data.toList) := by
  show w'.ownsRow base 5 1 v' (l ++ tx.data.toList).length (bc (l ++ tx.data.toList))
  rw [bc_append, List.length_append, hsz, ← bc_str]; exact r1
 obtain ⟨a', cap', rfl⟩ := hr.slice
 exact hK a' _ cap' w' rfl hr r2
theorem byte_one (w : World) (x : UInt8) (t : TypeId) : ∀ j u, (bc [x])[j]? = some u → (w.alloc (.cells #[.int .u8 x.toNat] t)).cell? ((⟨w.heap.size, 0, none⟩ : Addr).add j) = some u := cell_one w _ t
theorem ByRow.fresh (w : World) (x : UInt8) : ByRow w.heap.size (w.alloc (.cells #[.int .u8 x.toNat] 5)) (.slice (some ⟨w.heap.size, 0, none⟩) 1 1) [x] := by
 refine ⟨rfl, Or.inr ⟨w.heap.size, 1, #[.int .u8 x.toNat], rfl, Nat.le_refl _, ?_, Nat.le_refl _, by decide, rfl, rfl⟩⟩
 show (w.heap.push _)[w.heap.size]? = _
 simp
theorem ByRow.base {base base' : Nat} {w : World} {v : Value} {l : List UInt8} (h : ByRow base w v l) (hb : base' ≤ base) : ByRow base' w v l := ownsRow_base h hb
theorem bytes_of (w : World) (s : ByteArray) : ∃ cap W, (convert 9 22 (.string s)).run Tryz.prog w = .ok (.slice (some ⟨w.heap.size, 0, none⟩) s.size cap) W ∧ w.grownBy W none ∧ w.heap.size < W.heap.size ∧ ∀ j u, (bc s.data.toList)[j]? = some u → W.cell? ((⟨w.heap.size, 0, none⟩ : Addr).add j) = some u := by
 refine ⟨_, _, run_bytes_of_string w 9 22 5 s Tryz.underlying9 Tryz.underlying22 Tryz.underlying5, ?_, ?_, fun j u hj => ?_⟩
 · have h1 : w.grownBy w.drew none := ⟨rfl, rfl, rfl, Nat.le_refl _, fun _ _ _ => rfl⟩
   have h2 := World.grownBy_alloc w.drew (.cells (bytesRow s (grownCap w s.size 0 5)) 5 ((bytesRow s (grownCap w s.size 0 5)).size, (bytesRow s (grownCap w s.size 0 5)).size + 1)) none
   exact ⟨h2.os.trans h1.os, h2.tape.trans h1.tape, h2.output.trans h1.output, Nat.le_trans h1.size h2.size, fun i hi hne => (h2.block i (Nat.lt_of_lt_of_le hi h1.size) hne).trans (h1.block i hi hne)⟩
 · rw [World.size_alloc]; exact Nat.lt_succ_self _
 · have hj' : j < s.data.size := by
    have := (List.getElem?_eq_some_iff.1 hj).1
    simpa [bc] using this
   rw [Addr.add_lit]
   have hu : u = .int .u8 s.data[j].toNat := by
    simp [bc] at hj
    obtain ⟨a, ha, rfl⟩ := hj
    rw [Array.getElem?_eq_getElem hj'] at ha
    rw [Option.some.inj ha]
   subst hu
   show (w.drew.alloc _).cell? ⟨w.heap.size, 0 + j, none⟩ = _
   rw [Nat.zero_add]
   have hb : (w.drew.alloc (.cells (bytesRow s (grownCap w s.size 0 5)) 5 ((bytesRow s (grownCap w s.size 0 5)).size, (bytesRow s (grownCap w s.size 0 5)).size + 1))).heap[w.heap.size]? = some (.cells (bytesRow s (grownCap w s.size 0 5)) 5 ((bytesRow s (grownCap w s.size 0 5)).size, (bytesRow s (grownCap w s.size 0 5)).size + 1)) := by
    show (w.heap.push _)[w.heap.size]? = _
    simp
   simp only [World.cell?, hb]
   have hj2 : j < s.size := hj'
   simp [bytesRow, Array.getElem?_append, hj2]
theorem ByRow.of_block {base : Nat} {w w' : World} {v : Value} {l : List UInt8} (h : ByRow base w v l) (hb : ∀ g, v.ownBlock = some g → w'.heap[g]? = w.heap[g]?) : ByRow base w' v l := by
 refine ⟨h.1, ?_⟩
 rcases h.2 with h0 | ⟨g, cap, cur, hv, hb', hg, h5⟩
 · exact Or.inl h0
 · exact Or.inr ⟨g, cap, cur, hv, hb', by rw [hb g (by rw [hv]; rfl)]; exact hg, h5⟩
theorem ByRow.own {base : Nat} {w : World} {v : Value} {l : List UInt8} (h : ByRow base w v l) : ∀ g, v.ownBlock = some g → base ≤ g ∧ g < w.heap.size := fun g e => World.ownsRow.lt h g e
end Go.Proofs.YtbkagahmiibclaaGreatDoor
