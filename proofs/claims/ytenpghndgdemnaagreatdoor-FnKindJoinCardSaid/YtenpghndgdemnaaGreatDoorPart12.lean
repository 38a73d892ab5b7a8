/- The walk of the specification's DrawKindJoin: whatever bytes come in, some two schemas in memory that the call made. No conditions. -/
import Derived.Test.YtenpghndgdemnaaGreatDoorPart11
import Derived.Deep.CutRange
import Derived.Deep.RegionHeld3
import Derived.Test.YtenpghndgdemnaaGreatDoorPart07
import Derived.Test.YtenpghndgdemnaaGreatDoorPart08
import Derived.Test.YtenpghndgdemnaaGreatDoorPart03
import Derived.Test.YtenpghndgdemnaaGreatDoorPart01
import Derived.Test.YtenpghndgdemnaaGreatDoorPart00
import Derived.Maps.OwnSet
import Derived.Maps.OwnOps
import Derived.Maps.Views
import Derived.Deep.Draws
namespace Go.Proofs.YtenpghndgdemnaaGreatDoor
open Go Go.RowKit

/-- What is drawn. -/
def DjEnd (w w' : World) (e : Ending) : Prop :=
  ∃ (k m : Kd) (c d : C3), e = .returned (.tuple #[.agg #[c.c0, c.c1, c.c2], .agg #[d.c0, d.c1, d.c2]]) ∧ KRep (fun y => y < w'.heap.size) w' k c ∧ KRep (fun y => y < w'.heap.size) w' m d ∧ wKd k ≤ 200000 ∧ wKd m ≤ 200000 ∧ Below w.heap.size w w'
/-- What stands while they are drawn: the answers' boxes, the reader. -/
structure J8 (w W : World) (v : Value) (b : List UInt8) (p : Nat) : Prop where
  below : Below w.heap.size w W
  bX : W.rowIs w.heap.size 26 3 (row3 (.int .i64 0) (.slice none 0 0) (.slice none 0 0))
  bY : W.rowIs (w.heap.size + 1) 26 3 (row3 (.int .i64 0) (.slice none 0 0) (.slice none 0 0))
  dr : DR (w.heap.size + 2) W v b p
theorem J8.size {w W : World} {v : Value} {b : List UInt8} {p : Nat} (h : J8 w W v b p) : w.heap.size + 2 < W.heap.size := h.dr.cells.lt
theorem J8.next {w W W' : World} {v : Value} {b : List UInt8} {p p' : Nat} (h : J8 w W v b p) (hd : DR (w.heap.size + 2) W' v b p') (hb : But (w.heap.size + 2) W W') : J8 w W' v b p' := by
  have hs := h.size
  exact ⟨h.below.trans ⟨hb.os, hb.tape, hb.output, hb.size, fun i hi => hb.at (by omega) (by omega)⟩, h.bX.of_block (hb.at h.bX.lt (by omega)), h.bY.of_block (hb.at h.bY.lt (by omega)), hd⟩
theorem J8.on {w W W' : World} {v : Value} {b : List UInt8} {p : Nat} (h : J8 w W v b p) (hb : Below W.heap.size W W') : J8 w W' v b p := h.next (h.dr.on hb) (But.of_below hb)
/-- A schema that was drawn, in its box. -/
structure KB8 (w W : World) (k : Kd) (c : C3) (A : Nat) : Prop where
  box : W.rowIs A 26 3 (row3 c.c0 c.c1 c.c2)
  rep : KRep (fun y => w.heap.size + 2 < y ∧ y < A) W k c
  lo : w.heap.size + 2 < A
theorem KB8.next {w W W' : World} {k : Kd} {c : C3} {A : Nat} (h : KB8 w W k c A) (hb : But (w.heap.size + 2) W W') : KB8 w W' k c A := by
  have h1 := h.lo; have h2 := h.box.lt
  exact ⟨h.box.of_block (hb.at h2 (by omega)), KRep.carry (fun y hy => hb.at (by omega) (by omega)) (fun _ h => h) _ _ h.rep, h1⟩
theorem KB8.on {w W W' : World} {k : Kd} {c : C3} {A : Nat} (h : KB8 w W k c A) (hb : Below W.heap.size W W') : KB8 w W' k c A := h.next (But.of_below hb)
theorem KB8.start {w W : World} {k : Kd} {c0 c1 c2 : Value} {n : Nat} (hn : w.heap.size + 2 < n) (h : KRep (fun y => n ≤ y ∧ y < W.heap.size) W k ⟨c0, c1, c2⟩) (hl : n ≤ W.heap.size) : KB8 w (W.alloc (.cells #[c0, c1, c2] 26)) k ⟨c0, c1, c2⟩ W.heap.size :=
  ⟨row3_alloc W c0 c1 c2 _, KRep.carry (fun _ hx => Below.heap_alloc _ _ _ hx.2) (fun _ hy => ⟨Nat.lt_of_lt_of_le hn hy.1, hy.2⟩) _ _ h, Nat.lt_of_lt_of_le hn hl⟩
theorem KB8.wide {w W : World} {k : Kd} {c : C3} {A : Nat} (h : KB8 w W k c A) : KRep (fun y => w.heap.size + 2 < y ∧ y < W.heap.size) W k c := KRep.carry (fun _ _ => rfl) (fun _ hy => ⟨hy.1, Nat.lt_trans hy.2 h.box.lt⟩) _ _ h.rep
theorem KB8.cells {w W : World} {k : Kd} {c : C3} {A : Nat} (h : KB8 w W k c A) : W.cell? ⟨A, 0, none⟩ = some c.c0 ∧ W.cell? ⟨A, 1, none⟩ = some c.c1 ∧ W.cell? ⟨A, 2, none⟩ = some c.c2 := ⟨h.box.cell (i := 0) (by omega), h.box.cell (i := 1) (by omega), h.box.cell (i := 2) (by omega)⟩
/-- What is to be answered, beside the boxes. -/
structure Fin2 (w W : World) (k : Kd) (c : C3) (m : Kd) (d : C3) : Prop where
  below : Below w.heap.size w W
  bX : W.rowIs w.heap.size 26 3 (row3 (.int .i64 0) (.slice none 0 0) (.slice none 0 0))
  bY : W.rowIs (w.heap.size + 1) 26 3 (row3 (.int .i64 0) (.slice none 0 0) (.slice none 0 0))
  kr : KRep (fun y => w.heap.size + 2 < y ∧ y < W.heap.size) W k c
  mr : KRep (fun y => w.heap.size + 2 < y ∧ y < W.heap.size) W m d
  wk : wKd k ≤ 200000
  wm : wKd m ≤ 200000
theorem Fin2.put {w W : World} {k : Kd} {c : C3} {m : Kd} {d : C3} (h : Fin2 w W k c m d) (X' : World) (hX' : X' = pt2 W w.heap.size (w.heap.size + 1) c.c0 c.c1 c.c2 d.c0 d.c1 d.c2) :
    X'.rowIs w.heap.size 26 3 (row3 c.c0 c.c1 c.c2) ∧ X'.rowIs (w.heap.size + 1) 26 3 (row3 d.c0 d.c1 d.c2) ∧ DjEnd w X' (.returned (.tuple #[.agg #[c.c0, c.c1, c.c2], .agg #[d.c0, d.c1, d.c2]])) := by
  obtain ⟨r1, r2, hk, hs, ho, ht, hu⟩ := pt2_facts h.bX h.bY (by omega) c.c0 c.c1 c.c2 d.c0 d.c1 d.c2
  rw [← hX'] at r1 r2 hk hs ho ht hu
  have hk2 : ∀ y, w.heap.size + 2 < y ∧ y < W.heap.size → X'.heap[y]? = W.heap[y]? := fun y hy => hk y hy.2 (by omega) (by omega)
  exact ⟨r1, r2, k, m, c, d, rfl, KRep.carry hk2 (fun y hy => Nat.lt_of_lt_of_le hy.2 hs) _ _ h.kr, KRep.carry hk2 (fun y hy => Nat.lt_of_lt_of_le hy.2 hs) _ _ h.mr, h.wk, h.wm, h.below.trans ⟨ho, ht, hu, hs, fun i hi => hk i (Nat.lt_of_lt_of_le hi h.below.size) (by omega) (by omega)⟩⟩
theorem one38 {P : Nat → Prop} {w : World} {k : Kd} {c : C3} (h : KRep P w k c) : (#[c.c0, c.c1, c.c2] : Array Value).all (·.oneCell') = true := by
  obtain ⟨c0, c1, c2⟩ := c
  obtain ⟨e0, -, ⟨a3, cap3, e1, -⟩, a4, cap4, e2, -⟩ := h.open
  simp only at e0 e1 e2
  subst e0 e1 e2
  rw [← Array.all_toList]; rfl
theorem wm_up8 {a b : Nat} (h : a ≤ b + 1000) (h2 : b ≤ 80000) : a ≤ 200000 := Nat.le_trans h (Nat.le_trans (Nat.add_le_add_right h2 1000) (by decide))
set_option maxRecDepth 100000 in
set_option maxHeartbeats 12800000 in
theorem drawKindJoin_any (w : World) (a : Option Addr) (cap : Nat) (l : List UInt8) (hv : BytesAt w (.slice a l.length cap) l) (hcap : l.length ≤ cap) :
    Calls Tryz.prog 5 #[.slice a l.length cap] w fun e w' => DjEnd w w' e := by
  have hb0 : Below w.heap.size w ((w.alloc (.cells #[.int .i64 0, .slice none 0 0, .slice none 0 0] 26)).alloc (.cells #[.int .i64 0, .slice none 0 0, .slice none 0 0] 26)) := ((Below.refl _ _).alloc (Nat.le_refl _) _).alloc (by simp) _
  have hs0 : ((w.alloc (.cells #[.int .i64 0, .slice none 0 0, .slice none 0 0] 26)).alloc (.cells #[.int .i64 0, .slice none 0 0, .slice none 0 0] 26)).heap.size = w.heap.size + 2 := by simp
  have hop := l6Open_any ((w.alloc (.cells #[.int .i64 0, .slice none 0 0, .slice none 0 0] 26)).alloc (.cells #[.int .i64 0, .slice none 0 0, .slice none 0 0] 26)) a cap l (hv.on hb0) hcap
  rw [hs0] at hop
  have hX := (row3_alloc w (.int .i64 0) (.slice none 0 0) (.slice none 0 0) 26).alloc (.cells #[.int .i64 0, .slice none 0 0, .slice none 0 0] 26)
  have hY := row3_alloc (w.alloc (.cells #[.int .i64 0, .slice none 0 0, .slice none 0 0] 26)) (.int .i64 0) (.slice none 0 0) (.slice none 0 0) 26
  rw [World.size_alloc] at hY
  have HOP := hide hop; have HX := hide hX; have HY := hide hY; have HB0 := hide hb0; have HS0 := hide hs0
  clear hv hb0 hop hX hY hs0 hcap
  go_enter Tryz.func5, Tryz.ntmps5
  go_wp2_with fail
  generalize ((w.alloc (.cells #[.int .i64 0, .slice none 0 0, .slice none 0 0] 26)).alloc (.cells #[.int .i64 0, .slice none 0 0, .slice none 0 0] 26)) = W0 at HOP HX HY HB0 HS0 ⊢
  refine (unhide HOP).mono ?_
  rintro e w1 ⟨v', b', rfl, hdr, hb1⟩
  have hs0 := unhide HS0
  have hj1 : J8 w w1 v' b' 0 := ⟨(unhide HB0).trans ⟨hb1.os, hb1.tape, hb1.output, hb1.size, fun i hi => hb1.block i (by omega)⟩, (unhide HX).of_block (hb1.block _ (by omega)), (unhide HY).of_block (hb1.block _ (by omega)), hdr⟩
  have HJ1 := hide hj1
  have HPK := hide (pick_any (w.heap.size + 2) w1 v' b' 0 3 hdr (by omega) (by omega))
  clear HOP HX HY HB0 HS0 hdr hb1 hj1 hs0
  go_wp2_with fail
  refine (unhide HPK).mono ?_
  rintro e w2 ⟨r, rfl, hr, HD2, HB2⟩
  have HJ2 := hide ((unhide HJ1).next HD2.out HB2.out)
  have HC := hide (fun top => l5Some_ok (w.heap.size + 2) w2 v' b' (0 + 1) top HD2.out (by omega))
  clear HPK HJ1 HD2 HB2
  go_wp2_with fail
  refine (unhide HC _).mono ?_
  rintro e w3 ⟨k, ⟨k0, k1, k2⟩, p3, rfl, hk, hd3, hp3, hwk, hb3, hq⟩
  obtain ⟨g0, -, ⟨a1, aap1, g1, -⟩, a2, aap2, g2, -⟩ := hk.open
  simp only at g0 g1 g2
  subst g0 g1 g2
  have hs2 := (unhide HJ2).size
  have hj3 := (unhide HJ2).next hd3 hb3
  have hbA : Below w3.heap.size w3 (w3.alloc (.cells #[.int .i64 k.sort, .slice a1 k.names.length aap1, .slice a2 k.kids.length aap2] 26)) := (Below.refl _ _).alloc (Nat.le_refl _) _
  have hkb : KB8 w (w3.alloc (.cells #[.int .i64 k.sort, .slice a1 k.names.length aap1, .slice a2 k.kids.length aap2] 26)) k ⟨.int .i64 k.sort, .slice a1 k.names.length aap1, .slice a2 k.kids.length aap2⟩ w3.heap.size := KB8.start hs2 hk hb3.size
  have hj4 := hj3.on hbA
  have hok := ok_of_qT hq
  have HKB := hide hkb; have HJ4 := hide hj4; have HOK := hide hok; have HP3 := hide hp3
  obtain ⟨c0, c1, c2⟩ := hkb.cells
  have lk := hkb.box.lt
  simp only at c0 c1 c2
  have hcall : Hid (∀ (W : World) (p : Nat), J8 w W v' b' p → KB8 w W k ⟨.int .i64 k.sort, .slice a1 k.names.length aap1, .slice a2 k.kids.length aap2⟩ w3.heap.size → p ≤ 1000000 → Calls Tryz.prog 20 #[.pointer (some ⟨w.heap.size + 2, 0, none⟩), .agg #[.int .i64 k.sort, .slice a1 k.names.length aap1, .slice a2 k.kids.length aap2]] W fun e w' => WkEnd (2000 * ksz k) (w.heap.size + 2) W w' v' b' p e) := fun W p hJ hK hp => wd_all (ksz k + 1) k (by omega) _ (w.heap.size + 2) W v' b' p ⟨.int .i64 k.sort, .slice a1 k.names.length aap1, .slice a2 k.kids.length aap2⟩ hJ.dr (fun x hx => ⟨by omega, hx.2⟩) hK.wide (unhide HOK).1 (by have := (unhide HOK).2; omega)
  clear hk hd3 hb3 hq hs2 hj3 hbA hkb hj4 hok hp3 hwk HC HJ2
  go_wp2_with fail
  generalize w3.alloc (.cells #[.int .i64 k.sort, .slice a1 k.names.length aap1, .slice a2 k.kids.length aap2] 26) = W3 at HKB HJ4 lk c0 c1 c2 ⊢
  refine ((unhide hcall) W3 p3 (unhide HJ4) (unhide HKB) (by have := unhide HP3; omega)).mono ?_
  rintro e w4 ⟨m, ⟨m0, m1, m2⟩, p4, rfl, hm, hd4, hp4, hw4, hb4⟩
  obtain ⟨g0, -, ⟨b1, bap1, g1, -⟩, b2, bap2, g2, -⟩ := hm.open
  simp only at g0 g1 g2
  subst g0 g1 g2
  have hs3 := (unhide HJ4).size
  have hj5 := (unhide HJ4).next hd4 hb4
  have hkb5 := (unhide HKB).next hb4
  have hbB : Below w4.heap.size w4 (w4.alloc (.cells #[.int .i64 m.sort, .slice b1 m.names.length bap1, .slice b2 m.kids.length bap2] 26)) := (Below.refl _ _).alloc (Nat.le_refl _) _
  have hmb : KB8 w (w4.alloc (.cells #[.int .i64 m.sort, .slice b1 m.names.length bap1, .slice b2 m.kids.length bap2] 26)) m ⟨.int .i64 m.sort, .slice b1 m.names.length bap1, .slice b2 m.kids.length bap2⟩ w4.heap.size := KB8.start hs3 hm hb4.size
  have hj6 := hj5.on hbB
  have hkb6 := hkb5.on hbB
  have hp4b : p4 ≤ 200000 := by have := unhide HP3; have := (unhide HOK).2; omega
  have hwm : wKd m ≤ 80000 := by have := (unhide HOK).2; omega
  have HMB := hide hmb; have HJ6 := hide hj6; have HK6 := hide hkb6; have HP4 := hide hp4b; have HWM := hide hwm
  clear c0 c1 c2 lk
  obtain ⟨c0, c1, c2⟩ := hkb6.cells
  obtain ⟨e0, e1, e2⟩ := hmb.cells
  have lk := hkb6.box.lt
  have lm := hmb.box.lt
  simp only at c0 c1 c2 e0 e1 e2
  clear hm hd4 hb4 hs3 hj5 hkb5 hbB hmb hj6 hkb6 hp4b hwm hp4 hw4 HJ4 HKB
  go_wp2_with fail
  generalize w4.alloc (.cells #[.int .i64 m.sort, .slice b1 m.names.length bap1, .slice b2 m.kids.length bap2] 26) = W4 at HMB HJ6 HK6 lk lm c0 c1 c2 e0 e1 e2 ⊢
  refine ((unhide hcall) W4 p4 (unhide HJ6) (unhide HK6) (by have := unhide HP4; omega)).mono ?_
  rintro e w5 ⟨n, ⟨n0, n1, n2⟩, p5, rfl, hn, hd5, hp5, hw5, hb5⟩
  obtain ⟨g0, -, ⟨x1, xap1, g1, -⟩, x2, xap2, g2, -⟩ := hn.open
  simp only at g0 g1 g2
  subst g0 g1 g2
  have hs4 := (unhide HJ6).size
  have hj7 := (unhide HJ6).next hd5 hb5
  have hm7 := (unhide HMB).next hb5
  have hbC : Below w5.heap.size w5 (w5.alloc (.cells #[.int .i64 n.sort, .slice x1 n.names.length xap1, .slice x2 n.kids.length xap2] 26)) := (Below.refl _ _).alloc (Nat.le_refl _) _
  have hnb : KB8 w (w5.alloc (.cells #[.int .i64 n.sort, .slice x1 n.names.length xap1, .slice x2 n.kids.length xap2] 26)) n ⟨.int .i64 n.sort, .slice x1 n.names.length xap1, .slice x2 n.kids.length xap2⟩ w5.heap.size := KB8.start hs4 hn hb5.size
  have hj8 := hj7.on hbC
  have hm8 := hm7.on hbC
  have hp5b : p5 ≤ 300000 := by have := unhide HP4; have := (unhide HOK).2; omega
  have hwn : wKd n ≤ 80000 := by have := (unhide HOK).2; omega
  have HNB := hide hnb; have HJ8 := hide hj8; have HM8 := hide hm8; have HP5 := hide hp5b; have HWN := hide hwn
  have HPK := hide (pick_any (w.heap.size + 2) (w5.alloc (.cells #[.int .i64 n.sort, .slice x1 n.names.length xap1, .slice x2 n.kids.length xap2] 26)) v' b' p5 10 hj8.dr (by omega) (by omega))
  clear c0 c1 c2 e0 e1 e2 lk lm hn hd5 hb5 hs4 hj7 hm7 hbC hnb hj8 hm8 hp5b hwn hp5 hw5 HJ6 HK6 HMB hcall
  go_wp2_with fail
  generalize w5.alloc (.cells #[.int .i64 n.sort, .slice x1 n.names.length xap1, .slice x2 n.kids.length xap2] 26) = W5 at HNB HJ8 HM8 HPK ⊢
  refine (unhide HPK).mono ?_
  rintro e w7 ⟨r, rfl, hr, HD7, HB7⟩
  have hj := (unhide HJ8).next HD7.out HB7.out
  have hjd := hj.on (Below.refl _ w7).drew
  have hm := ((unhide HM8).next HB7.out)
  have hmd := hm.on (Below.refl _ w7).drew
  have hn := ((unhide HNB).next HB7.out)
  have hnd := hn.on (Below.refl _ w7).drew
  have HO1 := hide (one38 hm.rep); have HO2 := hide (one38 hn.rep)
  have HF7 : Hid (Fin2 w w7.drew m ⟨.int .i64 m.sort, .slice b1 m.names.length bap1, .slice b2 m.kids.length bap2⟩ n ⟨.int .i64 n.sort, .slice x1 n.names.length xap1, .slice x2 n.kids.length xap2⟩) := ⟨hjd.below, hjd.bX, hjd.bY, hmd.wide, hnd.wide, Nat.le_trans (unhide HWM) (by decide), Nat.le_trans (unhide HWN) (by decide)⟩
  have HJD := hide hjd; have HMD := hide hmd; have HND := hide hnd
  have llm := hmd.lo; have lln := hnd.lo
  have lmm := hmd.box.lt; have lnn := hnd.box.lt
  clear HPK HJ8 HM8 HNB HD7 HB7 hj hjd hm hmd hn hnd
  rcases (show r = 0 ∨ r = 1 ∨ r = 2 ∨ 3 ≤ r by omega) with rfl | rfl | rfl | hr3
  · go_upto_region 7 with fail
    refine wp_swap (c' := Code.region 7 dj7Ops true) (by kernel_rfl) ?_
    refine wp_region_noPanic ?_
    refine dj7 w.heap.size (w.heap.size + 1) (w.heap.size + 2) w4.heap.size w5.heap.size ⟨.int .i64 m.sort, .slice b1 m.names.length bap1, .slice b2 m.kids.length bap2⟩ ⟨.int .i64 n.sort, .slice x1 n.names.length xap1, .slice x2 n.kids.length xap2⟩ w7 _ (fun _ _ _ _ _ h => h) (unhide HMD).box (unhide HND).box (unhide HO1) (by omega) (by omega) (by omega)
      (fun y0 y1 y2 WW => ∃ q : Kd, Fin2 w WW m ⟨.int .i64 m.sort, .slice b1 m.names.length bap1, .slice b2 m.kids.length bap2⟩ q ⟨y0, y1, y2⟩ ∧ (∀ y, y ≠ w.heap.size + 2 → y < w7.heap.size → WW.heap[y]? = w7.drew.heap[y]?)) ?_ ?_ (by kernel_rfl) ?_
    · rintro y0 y1 y2 WW ⟨q, hf, hk⟩
      exact ⟨⟨hf.bX, hf.bY⟩, one38 hf.mr, hk _ (by omega) lmm, hk _ (by omega) lnn⟩
    · refine (l5Some_ok (w.heap.size + 2) w7.drew v' b' (p5 + 1) true (unhide HJD).dr (by have := unhide HP5; omega)).mono ?_
      rintro e w8 ⟨q, ⟨y0, y1, y2⟩, p8, rfl, hr8, hd8, -, hw8, hb8, -⟩
      have h8 := (unhide HJD).next hd8 hb8
      have hs8 : w7.heap.size ≤ w8.heap.size := hb8.size
      refine ⟨y0, y1, y2, rfl, q, ⟨h8.below, h8.bX, h8.bY, ((unhide HMD).next hb8).wide, KRep.carry (fun _ _ => rfl) (fun y hy => ?_) _ _ hr8, (unhide HF7).wk, Nat.le_trans hw8 (by decide)⟩, fun y h1 h2 => hb8.at h2 h1⟩
      have h1 : w7.heap.size ≤ y := hy.1
      exact ⟨by omega, hy.2⟩
    intro u y0 y1 y2 w8 hG
    obtain ⟨q, hf8, -⟩ := hG
    refine NoPanic.normal ?_
    simp only [frL_eq, frG, List.lookup, Nat.reduceBEq, Nat.reduceAdd, Option.getD_some, Option.getD_none]
    have hput := hf8.put _ rfl
    simp only at hput
    generalize pt2 _ _ _ _ _ _ _ _ _ = X9 at hput ⊢
    obtain ⟨r1, r2, hE⟩ := hput
    have qy0 := r1.cell (i := 0) (by omega); have qy1 := r1.cell (i := 1) (by omega); have qy2 := r1.cell (i := 2) (by omega)
    have qz0 := r2.cell (i := 0) (by omega); have qz1 := r2.cell (i := 1) (by omega); have qz2 := r2.cell (i := 2) (by omega)
    simp only [row3] at qy0 qy1 qy2 qz0 qz1 qz2
    have HE := hide hE
    clear r1 r2 hE
    go_wp2_with fail
    exact bodyPost_ret (v := .tuple #[.agg #[.int .i64 m.sort, .slice b1 m.names.length bap1, .slice b2 m.kids.length bap2], .agg #[y0, y1, y2]]) (by simp [results, Tryz.results5, go_sem, qy0, qy1, qy2, qz0, qz1, qz2]) rfl (unhide HE)
  · go_upto_region 9 with fail
    refine wp_swap (c' := Code.region 9 dj9Ops true) (by kernel_rfl) ?_
    refine wp_region_noPanic ?_
    refine dj9 w.heap.size (w.heap.size + 1) (w.heap.size + 2) w4.heap.size w5.heap.size ⟨.int .i64 m.sort, .slice b1 m.names.length bap1, .slice b2 m.kids.length bap2⟩ ⟨.int .i64 n.sort, .slice x1 n.names.length xap1, .slice x2 n.kids.length xap2⟩ w7 _ (fun _ _ _ _ _ h => h) (unhide HMD).box (unhide HND).box (unhide HO2) (by omega) (by omega) (by omega)
      (fun y0 y1 y2 WW => ∃ q : Kd, Fin2 w WW q ⟨y0, y1, y2⟩ n ⟨.int .i64 n.sort, .slice x1 n.names.length xap1, .slice x2 n.kids.length xap2⟩ ∧ (∀ y, y ≠ w.heap.size + 2 → y < w7.heap.size → WW.heap[y]? = w7.drew.heap[y]?)) ?_ ?_ (by kernel_rfl) ?_
    · rintro y0 y1 y2 WW ⟨q, hf, hk⟩
      exact ⟨⟨hf.bX, hf.bY⟩, one38 hf.kr, hk _ (by omega) lmm, hk _ (by omega) lnn⟩
    · have hkw := ksz_wk m
      have hwx := unhide HWM
      refine (l5Spoil_all (ksz m + 1) m (by omega) _ (w.heap.size + 2) w7.drew v' b' (p5 + 1) ⟨.int .i64 m.sort, .slice b1 m.names.length bap1, .slice b2 m.kids.length bap2⟩ (unhide HJD).dr (fun y hy => hy) (unhide HMD).wide (by have := unhide HP5; omega) (Nat.le_trans hwx (by decide))).mono ?_
      rintro e w8 ⟨q, ⟨y0, y1, y2⟩, p8, rfl, hr8, hd8, -, hw8, hb8⟩
      have h8 := (unhide HJD).next hd8 hb8
      have hs8 : w7.heap.size ≤ w8.heap.size := hb8.size
      refine ⟨y0, y1, y2, rfl, q, ⟨h8.below, h8.bX, h8.bY, KRep.carry (fun _ _ => rfl) (fun y hy => ?_) _ _ hr8, ((unhide HND).next hb8).wide, wm_up8 hw8 (unhide HWM), (unhide HF7).wm⟩, fun y h1 h2 => hb8.at h2 h1⟩
      rcases hy with h | h
      · have h2 : y < w7.heap.size := h.2
        exact ⟨h.1, by omega⟩
      · have h1 : w7.heap.size ≤ y := h.1
        exact ⟨by omega, h.2⟩
    intro u y0 y1 y2 w8 hG
    obtain ⟨q, hf8, -⟩ := hG
    refine NoPanic.normal ?_
    simp only [frL_eq, frG, List.lookup, Nat.reduceBEq, Nat.reduceAdd, Option.getD_some, Option.getD_none]
    have hput := hf8.put _ rfl
    simp only at hput
    generalize pt2 _ _ _ _ _ _ _ _ _ = X9 at hput ⊢
    obtain ⟨r1, r2, hE⟩ := hput
    have qy0 := r1.cell (i := 0) (by omega); have qy1 := r1.cell (i := 1) (by omega); have qy2 := r1.cell (i := 2) (by omega)
    have qz0 := r2.cell (i := 0) (by omega); have qz1 := r2.cell (i := 1) (by omega); have qz2 := r2.cell (i := 2) (by omega)
    simp only [row3] at qy0 qy1 qy2 qz0 qz1 qz2
    have HE := hide hE
    clear r1 r2 hE
    go_wp2_with fail
    exact bodyPost_ret (v := .tuple #[.agg #[y0, y1, y2], .agg #[.int .i64 n.sort, .slice x1 n.names.length xap1, .slice x2 n.kids.length xap2]]) (by simp [results, Tryz.results5, go_sem, qy0, qy1, qy2, qz0, qz1, qz2]) rfl (unhide HE)
  · go_upto_region 11 with fail
    refine wp_swap (c' := Code.region 11 dj11Ops true) (by kernel_rfl) ?_
    refine wp_region_noPanic ?_
    refine dj11 w.heap.size (w.heap.size + 1) (w.heap.size + 2) w4.heap.size w5.heap.size ⟨.int .i64 m.sort, .slice b1 m.names.length bap1, .slice b2 m.kids.length bap2⟩ ⟨.int .i64 n.sort, .slice x1 n.names.length xap1, .slice x2 n.kids.length xap2⟩ w7 _ (fun _ _ _ _ _ h => h) (unhide HMD).box (unhide HND).box (unhide HO1) (by omega) (by omega) (by omega)
      (fun y0 y1 y2 WW => ∃ q : Kd, Fin2 w WW m ⟨.int .i64 m.sort, .slice b1 m.names.length bap1, .slice b2 m.kids.length bap2⟩ q ⟨y0, y1, y2⟩ ∧ (∀ y, y ≠ w.heap.size + 2 → y < w7.heap.size → WW.heap[y]? = w7.drew.heap[y]?)) ?_ ?_ (by kernel_rfl) ?_
    · rintro y0 y1 y2 WW ⟨q, hf, hk⟩
      exact ⟨⟨hf.bX, hf.bY⟩, one38 hf.mr, hk _ (by omega) lmm, hk _ (by omega) lnn⟩
    · have hkw := ksz_wk n
      have hwx := unhide HWN
      refine (l5Spoil_all (ksz n + 1) n (by omega) _ (w.heap.size + 2) w7.drew v' b' (p5 + 1) ⟨.int .i64 n.sort, .slice x1 n.names.length xap1, .slice x2 n.kids.length xap2⟩ (unhide HJD).dr (fun y hy => hy) (unhide HND).wide (by have := unhide HP5; omega) (Nat.le_trans hwx (by decide))).mono ?_
      rintro e w8 ⟨q, ⟨y0, y1, y2⟩, p8, rfl, hr8, hd8, -, hw8, hb8⟩
      have h8 := (unhide HJD).next hd8 hb8
      have hs8 : w7.heap.size ≤ w8.heap.size := hb8.size
      refine ⟨y0, y1, y2, rfl, q, ⟨h8.below, h8.bX, h8.bY, ((unhide HMD).next hb8).wide, KRep.carry (fun _ _ => rfl) (fun y hy => ?_) _ _ hr8, (unhide HF7).wk, wm_up8 hw8 (unhide HWN)⟩, fun y h1 h2 => hb8.at h2 h1⟩
      rcases hy with h | h
      · have h2 : y < w7.heap.size := h.2
        exact ⟨h.1, by omega⟩
      · have h1 : w7.heap.size ≤ y := h.1
        exact ⟨by omega, h.2⟩
    intro u y0 y1 y2 w8 hG
    obtain ⟨q, hf8, -⟩ := hG
    refine NoPanic.normal ?_
    simp only [frL_eq, frG, List.lookup, Nat.reduceBEq, Nat.reduceAdd, Option.getD_some, Option.getD_none]
    have hput := hf8.put _ rfl
    simp only at hput
    generalize pt2 _ _ _ _ _ _ _ _ _ = X9 at hput ⊢
    obtain ⟨r1, r2, hE⟩ := hput
    have qy0 := r1.cell (i := 0) (by omega); have qy1 := r1.cell (i := 1) (by omega); have qy2 := r1.cell (i := 2) (by omega)
    have qz0 := r2.cell (i := 0) (by omega); have qz1 := r2.cell (i := 1) (by omega); have qz2 := r2.cell (i := 2) (by omega)
    simp only [row3] at qy0 qy1 qy2 qz0 qz1 qz2
    have HE := hide hE
    clear r1 r2 hE
    go_wp2_with fail
    exact bodyPost_ret (v := .tuple #[.agg #[.int .i64 m.sort, .slice b1 m.names.length bap1, .slice b2 m.kids.length bap2], .agg #[y0, y1, y2]]) (by simp [results, Tryz.results5, go_sem, qy0, qy1, qy2, qz0, qz1, qz2]) rfl (unhide HE)
  · have z0' : ((r : Int) == 0) = false := beq_eq_false_iff_ne.2 (by omega)
    have z1' : ((r : Int) == 1) = false := beq_eq_false_iff_ne.2 (by omega)
    have z2' : ((r : Int) == 2) = false := beq_eq_false_iff_ne.2 (by omega)
    go_upto_region 12 with fail
    refine wp_swap (c' := Code.region 12 dj12Ops true) (by kernel_rfl) ?_
    refine wp_region_noPanic ?_
    refine dj12 w.heap.size (w.heap.size + 1) (w.heap.size + 2) w4.heap.size w5.heap.size ⟨.int .i64 m.sort, .slice b1 m.names.length bap1, .slice b2 m.kids.length bap2⟩ ⟨.int .i64 n.sort, .slice x1 n.names.length xap1, .slice x2 n.kids.length xap2⟩ w7 _ (fun _ _ _ _ _ h => h) (unhide HMD).box (unhide HND).box (unhide HO1) (unhide HO2) (by omega) (by omega) (by omega) ⟨(unhide HJD).bX, (unhide HJD).bY⟩ (by kernel_rfl) ?_
    intro u
    have hf8 := unhide HF7
    refine NoPanic.normal ?_
    simp only [frL_eq, frG, List.lookup, Nat.reduceBEq, Nat.reduceAdd, Option.getD_some, Option.getD_none]
    have hput := hf8.put _ rfl
    simp only at hput
    generalize pt2 _ _ _ _ _ _ _ _ _ = X9 at hput ⊢
    obtain ⟨r1, r2, hE⟩ := hput
    have qy0 := r1.cell (i := 0) (by omega); have qy1 := r1.cell (i := 1) (by omega); have qy2 := r1.cell (i := 2) (by omega)
    have qz0 := r2.cell (i := 0) (by omega); have qz1 := r2.cell (i := 1) (by omega); have qz2 := r2.cell (i := 2) (by omega)
    simp only [row3] at qy0 qy1 qy2 qz0 qz1 qz2
    have HE := hide hE
    clear r1 r2 hE
    go_wp2_with fail
    exact bodyPost_ret (v := .tuple #[.agg #[.int .i64 m.sort, .slice b1 m.names.length bap1, .slice b2 m.kids.length bap2], .agg #[.int .i64 n.sort, .slice x1 n.names.length xap1, .slice x2 n.kids.length xap2]]) (by simp [results, Tryz.results5, go_sem, qy0, qy1, qy2, qz0, qz1, qz2]) rfl (unhide HE)
end Go.Proofs.YtenpghndgdemnaaGreatDoor

/- The walk of the specification's DrawKindWay: the schema that came in, or some schema in memory that the call made. No conditions. -/

namespace Go.Proofs.YtenpghndgdemnaaGreatDoor
open Go Go.RowKit

/-- What is drawn. -/
def WyEnd (P : Nat → Prop) (k : Kd) (w w' : World) (e : Ending) : Prop :=
  ∃ (m : Kd) (d : C3), e = .returned (.agg #[d.c0, d.c1, d.c2]) ∧ KRep (fun x => P x ∨ (w.heap.size ≤ x ∧ x < w'.heap.size)) w' m d ∧ (m = k ∨ wKd m ≤ 80000) ∧ Below w.heap.size w w'
/-- What stands while it is drawn. -/
structure Y7 (P : Nat → Prop) (w W : World) (v : Value) (b : List UInt8) (q : Nat) (k : Kd) (c : C3) : Prop where
  dr : DR (w.heap.size + 2) W v b q
  below : Below w.heap.size w W
  bA : W.rowIs w.heap.size 26 3 (row3 c.c0 c.c1 c.c2)
  bX : W.rowIs (w.heap.size + 1) 26 3 (row3 (.int .i64 0) (.slice none 0 0) (.slice none 0 0))
  kr : KRep P W k c
  hP : ∀ x, P x → x < w.heap.size
theorem Y7.next {P : Nat → Prop} {w W W' : World} {v : Value} {b : List UInt8} {q q' : Nat} {k : Kd} {c : C3} (h : Y7 P w W v b q k c) (hd : DR (w.heap.size + 2) W' v b q') (hb : But (w.heap.size + 2) W W') : Y7 P w W' v b q' k c := by
  have hs := h.dr.cells.lt
  exact ⟨hd, h.below.trans ⟨hb.os, hb.tape, hb.output, hb.size, fun i hi => hb.at (by omega) (by omega)⟩, h.bA.of_block (hb.at (by omega) (by omega)), h.bX.of_block (hb.at (by omega) (by omega)), KRep.carry (fun x hx => by have := h.hP x hx; exact hb.at (by omega) (by omega)) (fun _ h => h) _ _ h.kr, h.hP⟩
theorem Y7.on {P : Nat → Prop} {w W W' : World} {v : Value} {b : List UInt8} {q : Nat} {k : Kd} {c : C3} (h : Y7 P w W v b q k c) (hb : Below W.heap.size W W') : Y7 P w W' v b q k c := h.next (h.dr.on hb) (But.of_below hb)
theorem wy_put {P : Nat → Prop} {w W : World} {v : Value} {b : List UInt8} {q : Nat} {k m : Kd} {c d : C3} (h : Y7 P w W v b q k c) (hm : KRep (fun x => P x ∨ (w.heap.size + 2 ≤ x ∧ x < W.heap.size)) W m d) (hw : m = k ∨ wKd m ≤ 80000) (va vb vc : Value) :
    WyEnd P k w (((W.setCell ⟨w.heap.size + 1, 0, none⟩ va).setCell ⟨w.heap.size + 1, 1, none⟩ vb).setCell ⟨w.heap.size + 1, 2, none⟩ vc) (.returned (.agg #[d.c0, d.c1, d.c2])) := by
  refine ⟨m, d, rfl, KRep.carry (fun x hx => ?_) (fun x hx => ?_) _ _ hm, hw, ?_⟩
  · have hne : x ≠ w.heap.size + 1 := by
      rcases hx with hx | hx
      · have := h.hP x hx; omega
      · omega
    repeat rw [Below.heap_setCell _ _ _ _ (by simp; omega)]
  · rcases hx with hx | hx
    · exact Or.inl hx
    · exact Or.inr ⟨by omega, by simp only [size_setCell]; exact hx.2⟩
  · refine Below.trans h.below ⟨rfl, rfl, rfl, by simp only [size_setCell]; exact Nat.le_refl _, fun i hi => ?_⟩
    repeat rw [Below.heap_setCell _ _ _ _ (by simp; omega)]
set_option maxRecDepth 100000 in
set_option maxHeartbeats 6400000 in
theorem drawKindWay_any (w : World) (P : Nat → Prop) (k : Kd) (c : C3) (hP : ∀ x, P x → x < w.heap.size) (hk : KRep P w k c) (a : Option Addr) (cap : Nat) (l : List UInt8) (hv : BytesAt w (.slice a l.length cap) l) (hcap : l.length ≤ cap) :
    Calls Tryz.prog 9 #[.agg #[c.c0, c.c1, c.c2], .slice a l.length cap] w fun e w' => WyEnd P k w w' e := by
  obtain ⟨c0, c1, c2⟩ := c
  obtain ⟨g0, -, ⟨a1, cap1, g1, -⟩, a2, cap2, g2, -⟩ := hk.open
  simp only at g0 g1 g2
  subst g0 g1 g2
  have hb0 : Below w.heap.size w ((w.alloc (.cells #[.int .i64 k.sort, .slice a1 k.names.length cap1, .slice a2 k.kids.length cap2] 26)).alloc (.cells #[.int .i64 0, .slice none 0 0, .slice none 0 0] 26)) := ((Below.refl _ _).alloc (Nat.le_refl _) _).alloc (by simp) _
  have hs0 : ((w.alloc (.cells #[.int .i64 k.sort, .slice a1 k.names.length cap1, .slice a2 k.kids.length cap2] 26)).alloc (.cells #[.int .i64 0, .slice none 0 0, .slice none 0 0] 26)).heap.size = w.heap.size + 2 := by simp
  have hop := l6Open_any ((w.alloc (.cells #[.int .i64 k.sort, .slice a1 k.names.length cap1, .slice a2 k.kids.length cap2] 26)).alloc (.cells #[.int .i64 0, .slice none 0 0, .slice none 0 0] 26)) a cap l (hv.on hb0) hcap
  rw [hs0] at hop
  have hA := (row3_alloc w (.int .i64 k.sort) (.slice a1 k.names.length cap1) (.slice a2 k.kids.length cap2) 26).alloc (.cells #[.int .i64 0, .slice none 0 0, .slice none 0 0] 26)
  have hX := row3_alloc (w.alloc (.cells #[.int .i64 k.sort, .slice a1 k.names.length cap1, .slice a2 k.kids.length cap2] 26)) (.int .i64 0) (.slice none 0 0) (.slice none 0 0) 26
  rw [World.size_alloc] at hX
  have HOP := hide hop; have HA := hide hA; have HX := hide hX; have HB0 := hide hb0; have HS0 := hide hs0; have HPP := hide hP
  have HK := hide (KRep.carry (w' := ((w.alloc (.cells #[.int .i64 k.sort, .slice a1 k.names.length cap1, .slice a2 k.kids.length cap2] 26)).alloc (.cells #[.int .i64 0, .slice none 0 0, .slice none 0 0] 26))) (fun x hx => hb0.block x (hP x hx)) (fun _ h => h) _ _ hk)
  clear hv hb0 hop hA hX hs0 hcap hk hP
  go_enter Tryz.func9, Tryz.ntmps9
  go_wp2_with fail
  generalize ((w.alloc (.cells #[.int .i64 k.sort, .slice a1 k.names.length cap1, .slice a2 k.kids.length cap2] 26)).alloc (.cells #[.int .i64 0, .slice none 0 0, .slice none 0 0] 26)) = W0 at HOP HA HX HB0 HS0 HK ⊢
  refine (unhide HOP).mono ?_
  rintro e w1 ⟨v', b', rfl, hdr, hb1⟩
  have hs0 := unhide HS0
  have hy1 : Y7 P w w1 v' b' 0 k ⟨.int .i64 k.sort, .slice a1 k.names.length cap1, .slice a2 k.kids.length cap2⟩ := ⟨hdr, (unhide HB0).trans ⟨hb1.os, hb1.tape, hb1.output, hb1.size, fun i hi => hb1.block i (by omega)⟩, (unhide HA).of_block (hb1.block _ (by omega)), (unhide HX).of_block (hb1.block _ (by omega)), KRep.carry (fun x hx => hb1.block x (by have := unhide HPP x hx; omega)) (fun _ h => h) _ _ (unhide HK), unhide HPP⟩
  have HKO := hide (specKindOk_any k P ⟨.int .i64 k.sort, .slice a1 k.names.length cap1, .slice a2 k.kids.length cap2⟩ w1 (fun x hx => by have := unhide HPP x hx; have := hy1.dr.cells.lt; omega) hy1.kr)
  have k0 := hy1.bA.cell (i := 0) (by omega); have k1 := hy1.bA.cell (i := 1) (by omega); have k2 := hy1.bA.cell (i := 2) (by omega)
  simp only [row3] at k0 k1 k2
  have HY1 := hide hy1
  clear HOP HA HX HB0 HS0 HK hdr hb1 hs0 hy1
  go_wp2_with fail
  refine (unhide HKO).mono ?_
  rintro e w2 ⟨rfl, hb2⟩
  have hy2 := (unhide HY1).on hb2
  have HY2 := hide hy2
  clear hb2 HKO HY1 k0 k1 k2
  have k0 := hy2.bA.cell (i := 0) (by omega); have k1 := hy2.bA.cell (i := 1) (by omega); have k2 := hy2.bA.cell (i := 2) (by omega)
  have x0 := hy2.bX.cell (i := 0) (by omega); have x1 := hy2.bX.cell (i := 1) (by omega); have x2 := hy2.bX.cell (i := 2) (by omega); have xf := hy2.bX.frozen
  simp only [row3] at k0 k1 k2 x0 x1 x2
  by_cases hq : 0 < qT k 1
  · rw [decide_eq_true hq]
    have HQ := hide hq
    clear hq hy2 k0 k1 k2 x0 x1 x2 xf
    go_wp2_with fail

    go_loopw [6] (fun vi wr => ∃ (i q : Nat), i ≤ 3 ∧ vi = .int .i64 i ∧ q ≤ 80000 * i ∧ Hid (Y7 P w wr v' b' q k ⟨.int .i64 k.sort, .slice a1 k.names.length cap1, .slice a2 k.kids.length cap2⟩)) (fun vi _ => 3 - (intOf vi).toNat)
    case atStart => exact ⟨0, 0, by omega, rfl, by omega, unhide HY2⟩
    case round =>
      obtain ⟨i, q, hi, rfl, hq, HS⟩ := hrel
      have hRl := HS.out.dr.cells.lt
      have k0 := HS.out.bA.cell (i := 0) (by omega); have k1 := HS.out.bA.cell (i := 1) (by omega); have k2 := HS.out.bA.cell (i := 2) (by omega)
      simp only [row3] at k0 k1 k2
      by_cases hlt : i < 3
      · have hok := ok_of_qT (unhide HQ)
        have hcall := wd_all (ksz k + 1) k (by omega) P (w.heap.size + 2) wr v' b' q ⟨.int .i64 k.sort, .slice a1 k.names.length cap1, .slice a2 k.kids.length cap2⟩ HS.out.dr (fun x hx => by have := unhide HPP x hx; omega) HS.out.kr hok.1 (by omega)
        have HCALL := hide hcall; have HOK := hide hok.2
        clear hcall hok
        have hd3 : decide ((i : Int) < 3) = true := by simp; omega
        go_wp2_with fail
        refine (unhide HCALL).mono ?_
        rintro e w4 ⟨m, ⟨m0, m1, m2⟩, p4, rfl, hm, hd4, hp4, hw4, hb4⟩
        obtain ⟨g0, -, ⟨a3, cap3, g1, -⟩, a4, cap4, g2, -⟩ := hm.open
        simp only at g0 g1 g2
        subst g0 g1 g2
        have hbA : Below w4.heap.size w4 (w4.alloc (.cells #[.int .i64 m.sort, .slice a3 m.names.length cap3, .slice a4 m.kids.length cap4] 26)) := (Below.refl _ _).alloc (Nat.le_refl _) _
        have hs5 := (HS.out.next hd4 hb4).on hbA
        have hm5 : KRep (fun x => wr.heap.size ≤ x ∧ x < w4.heap.size) (w4.alloc (.cells #[.int .i64 m.sort, .slice a3 m.names.length cap3, .slice a4 m.kids.length cap4] 26)) m ⟨.int .i64 m.sort, .slice a3 m.names.length cap3, .slice a4 m.kids.length cap4⟩ := KRep.carry (fun x hx => hbA.block x hx.2) (fun _ h => h) _ _ hm
        have hr5 := row3_alloc w4 (.int .i64 m.sort) (.slice a3 m.names.length cap3) (.slice a4 m.kids.length cap4) 26
        have hkok := specKindOk_any m _ ⟨.int .i64 m.sort, .slice a3 m.names.length cap3, .slice a4 m.kids.length cap4⟩ (w4.alloc (.cells #[.int .i64 m.sort, .slice a3 m.names.length cap3, .slice a4 m.kids.length cap4] 26)) (fun x hx => by rw [World.size_alloc]; omega) hm5
        have hwm : wKd m ≤ 80000 := by have := unhide HOK; omega
        have hpp : p4 ≤ 80000 * (i + 1) := by have := unhide HOK; omega
        have hs45 : wr.heap.size ≤ w4.heap.size := hb4.size
        have HS5 := hide hs5; have HM5 := hide hm5; have HR5 := hide hr5; have HKOK := hide hkok; have HWM := hide hwm; have HP4 := hide hpp
        clear hm hd4 hp4 hw4 hb4 hbA hs5 hm5 hr5 hkok hwm hpp k0 k1 k2 HS HCALL
        go_wp2_with fail
        generalize w4.alloc (.cells #[.int .i64 m.sort, .slice a3 m.names.length cap3, .slice a4 m.kids.length cap4] 26) = W4 at HS5 HM5 HR5 HKOK ⊢
        refine (unhide HKOK).mono ?_
        rintro e w6 ⟨rfl, hb6⟩
        have hs6 := (unhide HS5).on hb6
        have hl5 := (unhide HR5).lt
        have hm6 := KRep.carry (w' := w6) (fun x (hx : wr.heap.size ≤ x ∧ x < w4.heap.size) => hb6.block x (by omega)) (fun _ h => h) _ _ (unhide HM5)
        have hr6 := (unhide HR5).of_block (hb6.block _ hl5)
        by_cases hqm : 0 < qT m 1
        · rw [decide_eq_true hqm]
          have j0 := hr6.cell (i := 0) (by omega); have j1 := hr6.cell (i := 1) (by omega); have j2 := hr6.cell (i := 2) (by omega)
          have x0 := hs6.bX.cell (i := 0) (by omega); have x1 := hs6.bX.cell (i := 1) (by omega); have x2 := hs6.bX.cell (i := 2) (by omega); have xf := hs6.bX.frozen
          simp only [row3] at j0 j1 j2 x0 x1 x2
          have hwl := hr6.lt
          have HFIN := hide (wy_put hs6 (KRep.carry (fun _ _ => rfl) (fun x hx => Or.inr ⟨by have := hx.1; omega, by have := hx.2; omega⟩) _ _ hm6) (Or.inr (unhide HWM)) (.int .i64 m.sort) (.slice a3 m.names.length cap3) (.slice a4 m.kids.length cap4))
          have hne1 : w4.heap.size ≠ w.heap.size + 1 := by omega
          clear hs6 hm6 hr6 hb6 hqm HS5 HM5 HR5 HKOK HP4 HWM
          go_wp2_with fail
          try go_region
          all_goals
            go_wp2_with fail
            refine bodyPost_ret (v := .agg #[.int .i64 m.sort, .slice a3 m.names.length cap3, .slice a4 m.kids.length cap4]) (by simp [results, Tryz.results9, go_sem, x0, x1, x2]) rfl ?_
            have hfin := unhide HFIN
            try simp only at hfin
            with_reducible exact hfin
        · rw [decide_eq_false hqm]
          have HS6 := hide hs6
          have hp6 := unhide HP4
          clear hs6 hm6 hr6 hb6 hqm HS5 HM5 HR5 HKOK
          go_wp2_with fail
          go_roundw
          case rel => exact ⟨i + 1, p4, hlt, by go_num, hp6, unhide HS6⟩
          case measure => simp [intOf]; omega
      · obtain rfl : i = 3 := by omega
        have x0 := HS.out.bX.cell (i := 0) (by omega); have x1 := HS.out.bX.cell (i := 1) (by omega); have x2 := HS.out.bX.cell (i := 2) (by omega); have xf := HS.out.bX.frozen
        simp only [row3] at x0 x1 x2
        have HFIN := hide (wy_put HS.out (KRep.carry (fun _ _ => rfl) (fun x hx => Or.inl hx) _ _ HS.out.kr) (Or.inl rfl) (.int .i64 k.sort) (.slice a1 k.names.length cap1) (.slice a2 k.kids.length cap2))
        clear HS
        go_wp2_with fail
        try go_region
        all_goals
          go_wp2_with fail
          refine bodyPost_ret (v := .agg #[.int .i64 k.sort, .slice a1 k.names.length cap1, .slice a2 k.kids.length cap2]) (by simp [results, Tryz.results9, go_sem, x0, x1, x2]) rfl ?_
          have hfin := unhide HFIN
          try simp only at hfin
          with_reducible exact hfin
  · rw [decide_eq_false hq]
    have HFIN := hide (wy_put hy2 (KRep.carry (fun _ _ => rfl) (fun x hx => Or.inl hx) _ _ hy2.kr) (Or.inl rfl) (.int .i64 k.sort) (.slice a1 k.names.length cap1) (.slice a2 k.kids.length cap2))
    have hl2 := hy2.dr.cells.lt
    clear hq hy2 HY2
    go_wp2_with fail
    try go_region
    all_goals
      go_wp2_with fail
      refine bodyPost_ret (v := .agg #[.int .i64 k.sort, .slice a1 k.names.length cap1, .slice a2 k.kids.length cap2]) (by simp [results, Tryz.results9, go_sem, x0, x1, x2]) rfl ?_
      have hfin := unhide HFIN
      try simp only at hfin
      with_reducible exact hfin
end Go.Proofs.YtenpghndgdemnaaGreatDoor

/- Names with the places at which they stand, in a map of the call's own. No conditions. -/

namespace Go.Proofs.YtenpghndgdemnaaGreatDoor
open Go Go.RowKit Go.WideMaps Go.Maps

end Go.Proofs.YtenpghndgdemnaaGreatDoor

/- The walks of newNameOrder and of nameOrder's hasJust: names with the places at which they stand, in a map of the call's own; whether names are among them, as many. No conditions but the number of names, at most 2^20. -/

namespace Go.Proofs.YtenpghndgdemnaaGreatDoor
open Go Go.RowKit Go.WideMaps Go.Maps

end Go.Proofs.YtenpghndgdemnaaGreatDoor

/- A schema whose kids are found by their names, as it lies in memory: four cells, the third a map. Definitions and small laws; no program walked, no conditions. -/

namespace Go.Proofs.YtenpghndgdemnaaGreatDoor
open Go Go.RowKit Go.Maps

end Go.Proofs.YtenpghndgdemnaaGreatDoor

/- The walk of nameKind: of a schema and its kids with named kids it makes the schema with named kids. No conditions but the number of names, at most 2^20. -/

namespace Go.Proofs.YtenpghndgdemnaaGreatDoor
open Go Go.RowKit Go.Maps

end Go.Proofs.YtenpghndgdemnaaGreatDoor
