/- A part. -/
import Derived.Test.YtbkagahmiibclaaGreatDoorPart27
namespace Go.Proofs.YtbkagahmiibclaaGreatDoor
open Go Go.RowKit
set_option maxRecDepth 100000
set_option maxHeartbeats 6400000
structure UsAt (w wr : World) (v : Value) (b : List UInt8) (a : Nat) (bad : Bool) (Y : Nat) (t0 t1 : Value) (c : C5) : Prop where
 below : Below w.heap.size w wr
 box : wr.rowIs w.heap.size 28 7 (row7 (.string ⟨#[]⟩) (.int .i64 0) (.int .i64 0) (.int .i64 0) (.string ⟨#[]⟩) (.slice none 0 0) (.slice none 0 0))
 sr : SR (w.heap.size + 1) wr v b a bad
 ev : wr.rowIs Y 28 7 (row7 t0 t1 c.c0 c.c1 c.c2 c.c3 c.c4)
 hY : w.heap.size + 1 < Y
theorem below_but {w wr w' : World} {R : Nat} (h : Below w.heap.size w wr) (hb : But R wr w') (hR : w.heap.size ≤ R) : Below w.heap.size w w' :=
 h.trans ⟨hb.os, hb.tape, hb.output, hb.size, fun i hi => hb.at (by have := h.size; omega) (by omega)⟩
theorem UsAt.read {w wr w' : World} {v : Value} {b : List UInt8} {a a2 : Nat} {bad bad2 : Bool} {Y : Nat} {t0 t1 : Value} {c : C5} (h : UsAt w wr v b a bad Y t0 t1 c) (hb : But (w.heap.size + 1) wr w') (hs : SR (w.heap.size + 1) w' v b a2 bad2) : UsAt w w' v b a2 bad2 Y t0 t1 c := by
 have := h.hY
 exact ⟨below_but h.below hb (by omega), h.box.of_block (hb.at h.box.lt (by omega)), hs, h.ev.of_block (hb.at h.ev.lt (by omega)), h.hY⟩
theorem UsAt.on {w wr w' : World} {v : Value} {b : List UInt8} {a : Nat} {bad : Bool} {Y : Nat} {t0 t1 : Value} {c : C5} (h : UsAt w wr v b a bad Y t0 t1 c) (hb : Below wr.heap.size wr w') : UsAt w w' v b a bad Y t0 t1 c :=
 ⟨h.below.trans (hb.mono h.below.size), h.box.of_block (hb.block _ h.box.lt), h.sr.on hb, h.ev.of_block (hb.block _ h.ev.lt), h.hY⟩
theorem UsAt.ver {w wr : World} {v : Value} {b : List UInt8} {a : Nat} {bad : Bool} {Y : Nat} {t0 t1 : Value} {c : C5} (h : UsAt w wr v b a bad Y t0 t1 c) (u : Value) : UsAt w (wr.setCell ⟨Y, 1, none⟩ u) v b a bad Y t0 u c := by
 have := h.hY
 exact ⟨h.below.setCell (by simp; omega) _, h.box.setOther (by simp; omega) _, h.sr.set (by omega) _ _, (h.ev.set 1 u).congr (fun i hi => by rcases (show i = 0 ∨ i = 1 ∨ i = 2 ∨ i = 3 ∨ i = 4 ∨ i = 5 ∨ i = 6 by omega) with rfl | rfl | rfl | rfl | rfl | rfl | rfl <;> rfl), h.hY⟩
theorem UsAt.body {w wr : World} {v : Value} {b : List UInt8} {a : Nat} {bad : Bool} {Y : Nat} {t0 t1 : Value} {c : C5} (h : UsAt w wr v b a bad Y t0 t1 c) (d0 d1 d2 d3 d4 : Value) :
 UsAt w (((((wr.setCell ⟨Y, 2, none⟩ d0).setCell ⟨Y, 3, none⟩ d1).setCell ⟨Y, 4, none⟩ d2).setCell ⟨Y, 5, none⟩ d3).setCell ⟨Y, 6, none⟩ d4) v b a bad Y t0 t1 ⟨d0, d1, d2, d3, d4⟩ := by
 have := h.hY
 refine ⟨?_, ?_, ?_, ?_, h.hY⟩
 · repeat refine Below.setCell ?_ (by simp <;> omega) _
   exact h.below
 · repeat refine World.rowIs.setOther ?_ (by simp <;> omega) _
   exact h.box
 · repeat refine SR.set ?_ (by omega) _ _
   exact h.sr
 · exact (((((h.ev.set 2 d0).set 3 d1).set 4 d2).set 5 d3).set 6 d4).congr (fun i hi => by rcases (show i = 0 ∨ i = 1 ∨ i = 2 ∨ i = 3 ∨ i = 4 ∨ i = 5 ∨ i = 6 by omega) with rfl | rfl | rfl | rfl | rfl | rfl | rfl <;> rfl)
theorem us_start (w w1 : World) (v : Value) (b : List UInt8) (a1 : Nat) (bad1 : Bool) (ty : ByteArray)
 (hb1 : But (w.heap.size + 1) ((w.alloc ev0).alloc (.cells #[v, .int .i64 0, .bool false] 69)) w1) (hs : SR (w.heap.size + 1) w1 v b a1 bad1) :
 UsAt w (w1.alloc (.cells #[.string ty, .int .i64 0, .int .i64 0, .int .i64 0, .string ⟨#[]⟩, .slice none 0 0, .slice none 0 0] 28)) v b a1 bad1 w1.heap.size (.string ty) (.int .i64 0) ⟨.int .i64 0, .int .i64 0, .string ⟨#[]⟩, .slice none 0 0, .slice none 0 0⟩ := by
 have hsz := hb1.size
 simp only [World.size_alloc] at hsz
 have hb0 : Below w.heap.size w ((w.alloc ev0).alloc (.cells #[v, .int .i64 0, .bool false] 69)) := ((Below.refl _ _).alloc (Nat.le_refl _) _).alloc (by simp) _
 have hbA := (Below.refl w1.heap.size w1).alloc (Nat.le_refl _) (.cells #[.string ty, .int .i64 0, .int .i64 0, .int .i64 0, .string ⟨#[]⟩, .slice none 0 0, .slice none 0 0] 28)
 refine ⟨(below_but hb0 hb1 (by omega)).trans (hbA.mono (by omega)), ?_, hs.on hbA, row7_alloc w1 _ _ _ _ _ _ _ _, by omega⟩
 exact (((row7_alloc w (.string ⟨#[]⟩) (.int .i64 0) (.int .i64 0) (.int .i64 0) (.string ⟨#[]⟩) (.slice none 0 0) (.slice none 0 0) 28).alloc _).of_block (hb1.at (by simp; omega) (by omega))).alloc _
theorem sr_start (w : World) (v : Value) (b : List UInt8) (hr : ByRow 0 w v b) (hs : b.length ≤ 1048576) : SR (w.heap.size + 1) ((w.alloc ev0).alloc (.cells #[v, .int .i64 0, .bool false] 69)) v b 0 false := by
 have := row3_alloc (w.alloc ev0) v (.int .i64 0) (.bool false) 69
 rw [World.size_alloc] at this
 exact ⟨this, World.ownsRow.alloc (World.ownsRow.alloc hr _) _, fun g e => by have := (hr.own g e).2; omega, Nat.zero_le _, hs⟩
theorem UsAt.no {w W : World} {v : Value} {b : List UInt8} {a : Nat} {bad : Bool} {Y : Nat} {t0 t1 : Value} {c : C5} (h : UsAt w W v b a bad Y t0 t1 c) (hno : ∀ ty ver t, ¬ UpE b ty ver t) (c0 c1 c2 c3 c4 c5 c6 : Value) :
 UpEnd w (((((((W.setCell ⟨w.heap.size, 0, none⟩ c0).setCell ⟨w.heap.size, 1, none⟩ c1).setCell ⟨w.heap.size, 2, none⟩ c2).setCell ⟨w.heap.size, 3, none⟩ c3).setCell ⟨w.heap.size, 4, none⟩ c4).setCell ⟨w.heap.size, 5, none⟩ c5).setCell ⟨w.heap.size, 6, none⟩ c6) b (.returned (.tuple #[.agg #[.string ⟨#[]⟩, .int .i64 0, .int .i64 0, .int .i64 0, .string ⟨#[]⟩, .slice none 0 0, .slice none 0 0], .bool false])) := by
 refine ⟨?_, Or.inr ⟨rfl, hno⟩⟩
 repeat refine Below.setCell ?_ (by simp <;> omega) _
 exact h.below
theorem UsAt.yes {w W : World} {v : Value} {b : List UInt8} {a : Nat} {bad : Bool} {Y : Nat} {t0 t1 : Value} {c d : C5} {F : List Nat} {ty : ByteArray} {ver : Int} {t : Tr} (h : UsAt w W v b a bad Y t0 t1 c) (ho : Own W t d F) (hnd : F.Nodup) (hF : ∀ y, y ∈ F → Y < y ∧ y < W.heap.size) (hu : UpE b ty ver t) (c0 c1 c2 c3 c4 c5 c6 : Value) :
 UpEnd w (((((((W.setCell ⟨w.heap.size, 0, none⟩ c0).setCell ⟨w.heap.size, 1, none⟩ c1).setCell ⟨w.heap.size, 2, none⟩ c2).setCell ⟨w.heap.size, 3, none⟩ c3).setCell ⟨w.heap.size, 4, none⟩ c4).setCell ⟨w.heap.size, 5, none⟩ c5).setCell ⟨w.heap.size, 6, none⟩ c6) b (.returned (.tuple #[.agg #[.string ty, .int .i64 ver, d.c0, d.c1, d.c2, d.c3, d.c4], .bool true])) := by
 have hY := h.hY
 refine ⟨?_, Or.inl ⟨ty, ver, t, d, F, rfl, Own.carry _ _ F (fun y hy => by have := (hF y hy).1; repeat rw [Below.heap_setCell _ _ _ _ (by simp <;> omega)]) ho, hnd, fun y hy => ⟨by have := (hF y hy).1; omega, by simp only [size_setCell]; exact (hF y hy).2⟩, hu⟩⟩
 repeat refine Below.setCell ?_ (by simp <;> omega) _
 exact h.below
theorem specEventUnpack_any (w : World) (v : Value) (b : List UInt8) (hr : ByRow 0 w v b) (hs : b.length ≤ 1048576) :
 Calls Tryz.prog 16 #[v] w fun e w' => UpEnd w w' b e := by
 obtain ⟨av, cv, hv⟩ := hr.slice
 subst hv
 by_cases h9 : b.length ≤ 9000
 · have hd9 : decide ((9000 : Int) < (b.length : Int)) = false := by simp; omega
   have HSH := hH (short_any (w.heap.size + 1) _ _ b 0 false (sr_start w _ b hr hs))
   have HUS := hH (fun w1 a1 bad1 ty hb1 hs => us_start w w1 (.slice av b.length cv) b a1 bad1 ty hb1 hs)
   have HBY := hH hr.at
   clear hr
   go_enter Tryz.func16, Tryz.ntmps16
   go_wp2_with fail
   refine (uh HSH).mono ?_
   rintro e w1 ⟨ty, a1, bad1, rfl, hty, HS1, HB1, HF1⟩
   have HU1 := hH (uh HUS w1 a1 bad1 ty HB1.out HS1.out)
   have HON := hH (one_any (w.heap.size + 1) _ _ b a1 bad1 (uh HU1).sr)
   clear HSH HUS HS1 HB1
   go_wp2_with fail
   refine (uh HON).mono ?_
   rintro e w2 ⟨x, a2, bad2, rfl, hx, HS2, HB2, HC2⟩
   have hu2 := (uh HU1).read HB2.out HS2.out
   have y1 := hu2.ev.cell (i := 1) (by omega); have yf := hu2.ev.frozen
   simp only [row7] at y1
   have hu3 := hu2.ver (.int .i64 (x : Int))
   have HTR := hH (treeS_all 7 1 (by omega) (by omega) (by omega) (w.heap.size + 1) _ _ b a2 bad2 hu3.sr)
   have HU3 := hH hu3
   clear HON HU1 HS2 HB2 hu2 hu3
   go_wp2_with fail
   refine (uh HTR).mono ?_
   rintro e w3 ⟨t, ⟨d0, d1, d2, d3, d4⟩, F, a3, bad3, rfl, ho, hnd, hF, hs3, hb3, hf3⟩
   have hle3 := hs3.le
   have HRD := hH (RdOk.make (HF1.out (by first | rfl | trivial)) HC2.out hx hf3 hle3)
   obtain ⟨g0, g1, g2, -, -, -, F1, F2, -, ⟨ap, cp, g3, -⟩, aq, cq, g4, -⟩ := ho.open
   simp only at g0 g1 g2 g3 g4
   subst g0 g1 g2 g3 g4
   have hu4 := (uh HU3).read hb3 hs3
   have z2 := hu4.ev.cell (i := 2) (by omega); have z3 := hu4.ev.cell (i := 3) (by omega); have z4 := hu4.ev.cell (i := 4) (by omega); have z5 := hu4.ev.cell (i := 5) (by omega); have z6 := hu4.ev.cell (i := 6) (by omega); have zf := hu4.ev.frozen
   simp only [row7] at z2 z3 z4 z5 z6
   have hFY : ∀ y, y ∈ F → w1.heap.size < y ∧ y < w3.heap.size := fun y hy => ⟨by have := (hF y hy).1; have := (uh HU3).ev.lt; omega, (hF y hy).2⟩
   have hu5 := hu4.body (.int .i64 t.sort) (.int .i64 t.num) (.string t.text) (.slice ap t.names.length cp) (.slice aq t.kids.length cq)
   obtain ⟨W5, hW5⟩ : ∃ W5, W5 = (((((w3.setCell ⟨w1.heap.size, 2, none⟩ (.int .i64 t.sort)).setCell ⟨w1.heap.size, 3, none⟩ (.int .i64 t.num)).setCell ⟨w1.heap.size, 4, none⟩ (.string t.text)).setCell ⟨w1.heap.size, 5, none⟩ (.slice ap t.names.length cp)).setCell ⟨w1.heap.size, 6, none⟩ (.slice aq t.kids.length cq)) := ⟨_, rfl⟩
   have ho5 : Own W5 t ⟨.int .i64 t.sort, .int .i64 t.num, .string t.text, .slice ap t.names.length cp, .slice aq t.kids.length cq⟩ F := by
    rw [hW5]
    exact Own.carry _ _ F (fun y hy => by have := (hFY y hy).1; repeat rw [Below.heap_setCell _ _ _ _ (by simp <;> omega)]) ho
   have hsz5 : W5.heap.size = w3.heap.size := by rw [hW5]; simp only [size_setCell]
   rw [← hW5] at hu5
   have HU5 := hH hu5; have HO5 := hH ho5; have HFY := hH hFY; have HSZ5 := hH hsz5; have HND := hH hnd
   have HW5 := hH hW5
   clear HTR HU3 hu4 hu5 ho hF hs3 hb3 hf3 HF1 HC2 ho5 hFY hsz5 hnd y1 yf hW5
   go_upto_region 7 with fail
   rw [← uh HW5]
   clear HW5 z2 z3 z4 z5 z6 zf
   have hver : I64 (x : Int) := ⟨by omega, by omega⟩
   have hcell := fun (W : World) (hW : UsAt w W (.slice av b.length cv) b a3 bad3 w1.heap.size (.string ty) (.int .i64 (x : Int)) ⟨.int .i64 t.sort, .int .i64 t.num, .string t.text, .slice ap t.names.length cp, .slice aq t.kids.length cq⟩) => hW
   obtain ⟨p0, p1, p2, p3, p4, p5, p6⟩ := cs7 ((uh HU5).box) (by omega); have pf := (uh HU5).box.frozen
   have k1 := (uh HU5).sr.cells.cell (i := 1) (by omega); have k2 := (uh HU5).sr.cells.cell (i := 2) (by omega)
   obtain ⟨q0, q1, q2, q3, q4, q5, q6⟩ := cs7 ((uh HU5).ev) (by omega)
   simp only [row7, row3] at p0 p1 p2 p3 p4 p5 p6 k1 k2 q0 q1 q2 q3 q4 q5 q6
   have hYX := (uh HU5).hY
   have hne1 : w.heap.size ≠ w1.heap.size := by omega
   have hne2 : w1.heap.size ≠ w.heap.size := by omega
   clear hcell
   by_cases hgo : bad3 = false ∧ a3 = b.length
   · obtain ⟨hg1, hg2⟩ := hgo
     subst hg1
     have hcnt : ((a3 : Int) != (b.length : Int)) = false := by simp [hg2]
     have hcnt2 : ((a3 : Int) == (b.length : Int)) = true := by simp [hg2]
     have hr5 : Rep (· ∈ F) W5 t ⟨.int .i64 t.sort, .int .i64 t.num, .string t.text, .slice ap t.names.length cp, .slice aq t.kids.length cq⟩ := Own.rep t _ F (fun _ h => h) (uh HO5)
     have hl5 : ∀ y, y ∈ F → y < W5.heap.size := fun y hy => by rw [uh HSZ5]; exact (uh HFY y hy).2
     have HOK := hH (specEventOk_any ty (x : Int) t (· ∈ F) ⟨.int .i64 t.sort, .int .i64 t.num, .string t.text, .slice ap t.names.length cp, .slice aq t.kids.length cq⟩ W5 hl5 hr5 (by omega) hver)
     have HPK := hH (fun (W : World) (hW : Below W5.heap.size W5 W) => specEventPack_any ty (x : Int) t (· ∈ F) ⟨.int .i64 t.sort, .int .i64 t.num, .string t.text, .slice ap t.names.length cp, .slice aq t.kids.length cq⟩ W (fun y hy => Nat.lt_of_lt_of_le (hl5 y hy) hW.size) (Rep.carry (fun y hy => hW.block y (hl5 y hy)) (fun _ h => h) _ _ hr5) (by omega) hver)
     clear hr5 hl5
     cases hok : evOkB ty (x : Int) t with
     | false =>
       have HNO : Hid (∀ ty ver t, ¬ UpE b ty ver t) := fun ty0 ver0 t0 hu => by
        obtain ⟨rfl, rfl, rfl, -, -⟩ := uh HRD ty0 ver0 t0 hu
        rw [hu.1] at hok; cases hok
       rw [hok] at HOK
       clear hok HPK
       go_wp2_with fail
       refine (uh HOK).mono ?_
       rintro e w6 ⟨rfl, hb6⟩
       have hu6 := (uh HU5).on hb6
       obtain ⟨r0, r1, r2, r3, r4, r5, r6⟩ := cs7 hu6.box (by omega); have rf := hu6.box.frozen
       simp only [row7] at r0 r1 r2 r3 r4 r5 r6
       have HU6 := hH hu6
       clear hu6 hb6 HOK p0 p1 p2 p3 p4 p5 p6 pf k1 k2 q0 q1 q2 q3 q4 q5 q6 HU5
       go_wp2_with fail
       refine bodyPost_ret (v := .tuple #[.agg #[.string ⟨#[]⟩, .int .i64 0, .int .i64 0, .int .i64 0, .string ⟨#[]⟩, .slice none 0 0, .slice none 0 0], .bool false]) (by simp [results, Tryz.results16, go_sem, r0, r1, r2, r3, r4, r5, r6]) rfl ?_
       exact (uh HU6).no HNO.out _ _ _ _ _ _ _
     | true =>
       have hpk : packB ty (x : Int) t = eventB ty (x : Int) t := by rw [packB, if_pos hok]
       rw [hpk] at HPK
       rw [hok] at HOK
       have HEV := hH (show eventB ty (x : Int) t = b → UpE b ty (x : Int) t from fun h => ⟨hok, h⟩)
       clear hpk hok
       have HNO : Hid (eventB ty (x : Int) t ≠ b → ∀ ty ver t, ¬ UpE b ty ver t) := fun hne ty0 ver0 t0 hu => by
        obtain ⟨rfl, rfl, rfl, -, -⟩ := uh HRD ty0 ver0 t0 hu
        exact hne hu.2
       generalize eventB ty (x : Int) t = L at *
       go_wp2_with fail
       refine (uh HOK).mono ?_
       rintro e w6 ⟨rfl, hb6⟩
       have hu6 := (uh HU5).on hb6
       obtain ⟨t0, t1, t2, t3, t4, t5, t6⟩ := cs7 hu6.ev (by omega)
       simp only [row7] at t0 t1 t2 t3 t4 t5 t6
       have HPC := hH (uh HPK w6 hb6)
       have HO6 := hH (Own.carry t _ F (fun y hy => hb6.block y (by rw [uh HSZ5]; exact (uh HFY y hy).2)) (uh HO5))
       have HU6 := hH hu6
       have hs6 := hb6.size
       have HL6 := hH (fun y (hy : y ∈ F) => Nat.lt_of_lt_of_le (show y < W5.heap.size by rw [uh HSZ5]; exact (uh HFY y hy).2) hs6)
       clear hu6 hb6 HOK HPK p0 p1 p2 p3 p4 p5 p6 pf k1 k2 q0 q1 q2 q3 q4 q5 q6 HU5 HO5
       go_wp2_with fail
       refine (uh HPC).mono ?_
       rintro e w7 ⟨aL, nL, cL, rfl, hnL, hrL, hb7⟩
       have HSM := hH (l4Same_any (.slice aL nL cL) (.slice av b.length cv) L b w7 hrL.at ((uh HU6).on hb7).sr.row.at)
       have hu7 := (uh HU6).on hb7
       have HO7 := hH (Own.carry t _ F (fun y hy => hb7.block y (uh HL6 y hy)) (uh HO6))
       obtain ⟨r0, r1, r2, r3, r4, r5, r6⟩ := cs7 hu7.box (by omega); have rf := hu7.box.frozen
       obtain ⟨q0, q1, q2, q3, q4, q5, q6⟩ := cs7 hu7.ev (by omega)
       simp only [row7] at r0 r1 r2 r3 r4 r5 r6 q0 q1 q2 q3 q4 q5 q6
       have HU7 := hH hu7
       have HL7 := hH (fun y (hy : y ∈ F) => (⟨(uh HFY y hy).1, Nat.lt_of_lt_of_le (uh HL6 y hy) hb7.size⟩ : w1.heap.size < y ∧ y < w7.heap.size))
       clear hu7 hb7 hrL hnL HU6 HO6 HL6 HPC t0 t1 t2 t3 t4 t5 t6
       by_cases hLb : L = b
       · have hdL : decide (L = b) = true := decide_eq_true hLb
         rw [hdL] at HSM
         have HUE := hH (uh HEV hLb)
         clear hLb hdL HNO HEV
         go_wp2_with fail
         refine (uh HSM).mono ?_
         rintro e w8 ⟨rfl, rfl⟩
         go_wp2_with fail
         refine bodyPost_ret (v := .tuple #[.agg #[.string ty, .int .i64 (x : Int), .int .i64 t.sort, .int .i64 t.num, .string t.text, .slice ap t.names.length cp, .slice aq t.kids.length cq], .bool true]) (by simp [results, Tryz.results16, go_sem, r0, r1, r2, r3, r4, r5, r6]) rfl ?_
         exact (uh HU7).yes (uh HO7) (uh HND) (uh HL7) (uh HUE) _ _ _ _ _ _ _
       · have hdL : decide (L = b) = false := decide_eq_false hLb
         rw [hdL] at HSM
         have HN := hH (HNO.out hLb)
         clear hLb hdL HNO HEV
         go_wp2_with fail
         refine (uh HSM).mono ?_
         rintro e w8 ⟨rfl, rfl⟩
         go_wp2_with fail
         refine bodyPost_ret (v := .tuple #[.agg #[.string ⟨#[]⟩, .int .i64 0, .int .i64 0, .int .i64 0, .string ⟨#[]⟩, .slice none 0 0, .slice none 0 0], .bool false]) (by simp [results, Tryz.results16, go_sem, r0, r1, r2, r3, r4, r5, r6]) rfl ?_
         exact (uh HU7).no (uh HN) _ _ _ _ _ _ _
   · have HNO : Hid (∀ ty ver t, ¬ UpE b ty ver t) := fun ty0 ver0 t0 hu => by
      obtain ⟨-, -, -, h1, h2⟩ := uh HRD ty0 ver0 t0 hu
      exact hgo ⟨h1, h2⟩
     cases bad3 with
     | true =>
       clear hgo
       go_wp2_with fail
       refine bodyPost_ret (v := .tuple #[.agg #[.string ⟨#[]⟩, .int .i64 0, .int .i64 0, .int .i64 0, .string ⟨#[]⟩, .slice none 0 0, .slice none 0 0], .bool false]) (by simp [results, Tryz.results16, go_sem, p0, p1, p2, p3, p4, p5, p6]) rfl ?_
       exact (uh HU5).no HNO.out _ _ _ _ _ _ _
     | false =>
       have hne : a3 ≠ b.length := fun h => hgo ⟨rfl, h⟩
       have hcnt : ((a3 : Int) != (b.length : Int)) = true := by simp; omega
       have hcnt2 : ((a3 : Int) == (b.length : Int)) = false := by simp; omega
       clear hgo
       go_wp2_with fail
       refine bodyPost_ret (v := .tuple #[.agg #[.string ⟨#[]⟩, .int .i64 0, .int .i64 0, .int .i64 0, .string ⟨#[]⟩, .slice none 0 0, .slice none 0 0], .bool false]) (by simp [results, Tryz.results16, go_sem, p0, p1, p2, p3, p4, p5, p6]) rfl ?_
       exact (uh HU5).no HNO.out _ _ _ _ _ _ _
 · have hd9 : decide ((9000 : Int) < (b.length : Int)) = true := by simp; omega
   have hX := row7_alloc w (.string ⟨#[]⟩) (.int .i64 0) (.int .i64 0) (.int .i64 0) (.string ⟨#[]⟩) (.slice none 0 0) (.slice none 0 0) 28
   have hbX : Below w.heap.size w (w.alloc ev0) := (Below.refl _ _).alloc (Nat.le_refl _) _
   have hno : ∀ ty ver t, ¬ UpE b ty ver t := fun ty ver t hu => by
    have hf := evOk_facts hu.1
    have := eventB_len (ty := ty) (ver := ver) (t := t) (d := 1) hf.2.2.1 hf.2.2.2.2.2.2
    rw [hu.2] at this
    omega
   obtain ⟨p0, p1, p2, p3, p4, p5, p6⟩ := cs7 hX (by omega); have pf := hX.frozen
   simp only [row7] at p0 p1 p2 p3 p4 p5 p6
   have HBX := hH hbX; have HNO := hH hno
   clear hX hbX hno hr
   go_enter Tryz.func16, Tryz.ntmps16
   go_wp2_with fail
   refine bodyPost_ret (v := .tuple #[.agg #[.string ⟨#[]⟩, .int .i64 0, .int .i64 0, .int .i64 0, .string ⟨#[]⟩, .slice none 0 0, .slice none 0 0], .bool false]) (by simp [results, Tryz.results16, go_sem, p0, p1, p2, p3, p4, p5, p6]) rfl ?_
   refine ⟨?_, Or.inr ⟨rfl, uh HNO⟩⟩
   repeat refine Below.setCell ?_ (by simp <;> omega) _
   exact uh HBX

def TrP (n : Nat) : Prop := ∀ (t : Tr), tsz t < n → ∀ (P : Nat → Prop) (c : C5) (d : Int) (base B : Nat) (w : World) (a : Option Addr) (len cap : Nat) (l : List UInt8), (∀ b, P b → b < base) → Rep P w t c → 0 < pT t d → Wr base B w (.slice a len cap) l → l.length + (treeB t).length ≤ 9000 →
    Calls Tryz.prog 63 #[.pointer (some ⟨B, 0, none⟩), .agg #[c.c0, c.c1, c.c2, c.c3, c.c4]] w fun e w' => WrEnd base B w w' e (l ++ treeB t)
theorem Sp.rep {base B : Nat} {w w' : World} {P : Nat → Prop} {t : Tr} {c : C5} (h : Sp base B w w') (hb : base ≤ B) (hw : base ≤ w.heap.size) (hP : ∀ b, P b → b < base) (hr : Rep P w t c) : Rep P w' t c :=
 Rep.carry (fun b hbb => (h.below hb hw).block b (hP b hbb)) (fun _ h => h) _ _ hr
theorem Wr.len {base B : Nat} {w : World} {a : Option Addr} {n cap : Nat} {l : List UInt8} (h : Wr base B w (.slice a n cap) l) : n = l.length := by
 obtain ⟨a', cap', hv⟩ := h.row.slice
 simp only [Value.slice.injEq] at hv
 exact hv.2.1
theorem kids_any (n : Nat) (IH : TrP n) (t : Tr) (hn : tsz t ≤ n) (P : Nat → Prop) (c : C5) (d : Int) (base B : Nat) (w : World) (a : Option Addr) (len cap : Nat) (l : List UInt8) (hP : ∀ b, P b → b < base) (hrep : Rep P w t c) (hok : 0 < pT t d) (h : Wr base B w (.slice a len cap) l)
 (hl : l.length + (UInt8.ofNat t.kids.length :: kidsB (decide (t.sort = 5)) t.names t.kids).length ≤ 9000) :
 Calls Tryz.prog 90 #[.pointer (some ⟨B, 0, none⟩), .agg #[c.c0, c.c1, c.c2, c.c3, c.c4]] w fun e w' => WrEnd base B w w' e (l ++ (UInt8.ofNat t.kids.length :: kidsB (decide (t.sort = 5)) t.names t.kids)) := by
 obtain ⟨c0, c1, c2, c3, c4⟩ := c
 obtain ⟨e0, e1, e2, -, -, -, hns, ak, capk, e4, -, hks⟩ := hrep.open
 simp only at e0 e1 e2 e4 hns
 subst e0 e1 e2 e4
 obtain ⟨a3, cap3, rfl, -, hns⟩ := hns
 have hso := ok_sort hok
 have hmany := ok_many hok
 have hnm := ok_names hok
 have HKID := hH (fun k hk => ok_kid hok k hk)
 have HTS := hH (fun (k : Tr) (hk : k ∈ t.kids) => tsz_kid hk)
 have hbB := h.lt
 have hbw := h.size
 have hBw := h.cells.lt
 have hwa := fun o => h.alloc o
 have HPUT := hH (fun o => put_any base B (w.alloc o) a len cap l t.kids.length (hwa o) (by omega) (by omega) (by simp at hl; omega))
 have HBD : Hid (∀ k, (hk : k < t.kids.length) → ((l ++ [UInt8.ofNat t.kids.length]) ++ kidsB (decide (t.sort = 5)) t.names (t.kids.take k)).length + ((if decide (t.sort = 5) then shortB (t.names.getD k ByteArray.empty) else []).length + (treeB t.kids[k]).length) ≤ 9000) := fun k hk => by
  have h1 := kidsB_le (decide (t.sort = 5)) t.names t.kids (k + 1)
  rw [kidsB_take _ _ _ _ hk] at h1
  simp only [List.length_append, List.length_cons, List.length_nil] at h1 hl ⊢
  omega
 have HE : Hid (∀ ks, (l ++ [UInt8.ofNat t.kids.length]) ++ kidsB (decide (t.sort = 5)) t.names ks = l ++ (UInt8.ofNat t.kids.length :: kidsB (decide (t.sort = 5)) t.names ks)) := fun ks => by simp
 have HP := hH hP; have HKS := hH hks; have HNS := hH hns; have HI := hH IH; have HNM := hH hnm; have HHN := hH hn
 have HLT := hH hbB; have HBW := hH hbw; have HBL := hH hBw
 clear hso hok hnm hks hns IH hP hl hrep h hwa hn
 generalize hd5 : decide (t.sort = 5) = f at *
 have HD5 := hH hd5
 clear hd5
 have hf5 : (t.sort == 5) = f := by rw [← uh HD5]; rfl
 go_enter Tryz.func90, Tryz.ntmps90
 go_wp2_with fail
 refine (uh HPUT _).mono ?_
 rintro e w1 ⟨rfl, hsp1, a1, n1, cap1, hn1, hw1⟩
 rw [Int.toNat_natCast] at hw1 hn1
 have hr1 := hsp1.box (row5_alloc w (.int .i64 t.sort) (.int .i64 t.num) (.string t.text) (.slice a3 t.names.length cap3) (.slice ak t.kids.length capk) 26) (by omega) (by decide)
 have hspw := (Sp.alloc base B w (.cells #[.int .i64 t.sort, .int .i64 t.num, .string t.text, .slice a3 t.names.length cap3, .slice ak t.kids.length capk] 26)).trans hsp1
 have k4 := hr1.cell (i := 4) (by omega)
 simp only [row5] at k4
 have HR1 := hH hr1; have HSP1 := hH hspw; have HW1 := hH hw1
 clear hr1 hspw hw1 hsp1 hn1 HPUT
 go_wp2_with fail
 go_loopw [14] (fun i wr => ∃ (k : Nat) (ar : Option Addr) (nr cr : Nat), k ≤ t.kids.length ∧ i = .int .i64 k ∧ Hid (Wr base B wr (.slice ar nr cr) ((l ++ [UInt8.ofNat t.kids.length]) ++ kidsB f t.names (t.kids.take k))) ∧ Hid (Sp base B w wr) ∧ Hid (wr.rowIs w.heap.size 26 5 (row5 (.int .i64 t.sort) (.int .i64 t.num) (.string t.text) (.slice a3 t.names.length cap3) (.slice ak t.kids.length capk)))) (fun i _ => t.kids.length - (intOf i).toNat)
 case atStart => exact ⟨0, a1, n1, cap1, Nat.zero_le _, rfl, by rw [List.take_zero, kidsB, List.append_nil]; exact HW1, HSP1, HR1⟩
 case round =>
  clear HW1 HSP1 HR1 k4
  obtain ⟨k, ar, nr, cr, hk, rfl, HW, HSP, HBX⟩ := hrel
  by_cases hlt : k < t.kids.length
  · obtain ⟨b, o, ck, rfl, hpb, hcell, hrepk⟩ := uh HKS k hlt
    obtain ⟨x0, x1, x2, x3, x4⟩ := ck
    obtain ⟨g0, g1, g2, -, -, -, ⟨y3, ycap3, g3, -⟩, y4, ycap4, g4, -⟩ := hrepk.open
    simp only at g0 g1 g2 g3 g4
    subst g0 g1 g2 g3 g4
    have hBwr : B < wr.heap.size := HW.out.cells.lt
    have hcw := hcell.carry ((HSP.out.below (uh HLT) (uh HBW)).block b (uh HP b hpb))
    obtain ⟨e0, e1, e2, e3, e4⟩ := hcw
    simp only at e0 e1 e2 e3 e4
    have hsm : tsz t.kids[k] < n := by have := uh HTS t.kids[k] (List.getElem_mem hlt); have := uh HHN; omega
    have HCALL := hH (fun (W : World) (hW : Sp base B w W) (a5 : Option Addr) (n5 cap5 : Nat) (l5 : List UInt8) (hw5 : Wr base B W (.slice a5 n5 cap5) l5) (hl5 : l5.length + (treeB t.kids[k]).length ≤ 9000) => uh HI t.kids[k] hsm P ⟨.int .i64 t.kids[k].sort, .int .i64 t.kids[k].num, .string t.kids[k].text, .slice y3 t.kids[k].names.length ycap3, .slice y4 t.kids[k].kids.length ycap4⟩ (d + 1) base B W a5 n5 cap5 l5 (uh HP) (hW.rep (uh HLT) (uh HBW) (uh HP) hrepk) (uh HKID k hlt) hw5 hl5)
    have hbd := uh HBD k hlt
    have hnext := kidsB_take f t.names t.kids k hlt
    have b0 := HBX.out.cell (i := 0) (by omega); have b3 := HBX.out.cell (i := 3) (by omega)
    simp only [row5] at b0 b3
    have ba0 : ∀ ob, (wr.alloc ob).cell? ⟨w.heap.size, 0, none⟩ = some (.int .i64 t.sort) := fun ob => by have := (HBX.out.alloc ob).cell (i := 0) (by omega); simpa only [row5] using this
    have ba3 : ∀ ob, (wr.alloc ob).cell? ⟨w.heap.size, 3, none⟩ = some (.slice a3 t.names.length cap3) := fun ob => by have := (HBX.out.alloc ob).cell (i := 3) (by omega); simpa only [row5] using this
    have HSPA := hH (HSP.out.trans (Sp.alloc base B wr (.cells #[.int .i64 t.kids[k].sort, .int .i64 t.kids[k].num, .string t.kids[k].text, .slice y3 t.kids[k].names.length ycap3, .slice y4 t.kids[k].kids.length ycap4] 26)))
    have HWA := hH (HW.out.alloc (.cells #[.int .i64 t.kids[k].sort, .int .i64 t.kids[k].num, .string t.kids[k].text, .slice y3 t.kids[k].names.length ycap3, .slice y4 t.kids[k].kids.length ycap4] 26))
    have HBXA := hH (HBX.out.alloc (.cells #[.int .i64 t.kids[k].sort, .int .i64 t.kids[k].num, .string t.kids[k].text, .slice y3 t.kids[k].names.length ycap3, .slice y4 t.kids[k].kids.length ycap4] 26))
    have HKB := hH (row5_alloc wr (.int .i64 t.kids[k].sort) (.int .i64 t.kids[k].num) (.string t.kids[k].text) (.slice y3 t.kids[k].names.length ycap3) (.slice y4 t.kids[k].kids.length ycap4) 26)
    clear hcell hrepk hsm hpb
    cases f with
    | false =>
       have HLB : Hid (((l ++ [UInt8.ofNat t.kids.length]) ++ kidsB false t.names (t.kids.take k)).length + (treeB t.kids[k]).length ≤ 9000) := by
        simp only [Bool.false_eq_true, if_false, List.length_nil, Nat.zero_add] at hbd
        exact hbd
       have HNEXT : Hid (((l ++ [UInt8.ofNat t.kids.length]) ++ kidsB false t.names (t.kids.take k)) ++ treeB t.kids[k] = (l ++ [UInt8.ofNat t.kids.length]) ++ kidsB false t.names (t.kids.take (k + 1))) := by
        show _ = _
        rw [hnext]; simp
       clear hbd hnext
       go_wp2_with fail
       refine (uh HCALL _ (uh HSPA) ar nr cr _ (uh HWA) (uh HLB)).mono ?_
       rintro e w6 ⟨rfl, hsp6, a6, n6, cap6, -, hw6⟩
       have HSP6 := hH ((uh HSPA).trans hsp6)
       have HBX6 := hH (hsp6.box (uh HBXA) (by have := uh HBL; omega) (by decide))
       rw [uh HNEXT] at hw6
       have HW6 := hH hw6
       clear hw6 hsp6
       go_wp2_with fail
       go_roundw
       case rel => exact ⟨k + 1, a6, n6, cap6, by omega, by go_num, HW6, HSP6, HBX6⟩
       case measure => simp [intOf]; omega
    | true =>
       obtain ⟨hnl, hn8⟩ := uh HNM (by simpa using uh HD5)
       have hkn : k < t.names.length := by omega
       obtain ⟨b', o', rfl, hpb', hcell', -⟩ := uh HNS k hkn
       have hpl := uh HP b' hpb'
       have ec : wr.cell? ⟨b', o' + k, none⟩ = some (.string t.names[k]) := by rw [World.cell?_of_block (w := w) ((HSP.out.below (uh HLT) (uh HBW)).block b' hpl)]; exact hcell'
       have eca : ∀ ob, (wr.alloc ob).cell? ⟨b', o' + k, none⟩ = some (.string t.names[k]) := fun ob => by rw [World.cell?_of_block (w := wr) (Below.heap_alloc _ _ _ (by have h1 := uh HBW; have h2 := HSP.out.size; exact Nat.lt_of_lt_of_le hpl (Nat.le_trans h1 h2)))]; exact ec
       have h8 := hn8 _ (List.getElem_mem hkn)
       have hgd := getD_lt t.names k hkn
       rw [hgd] at hbd hnext
       have HLA : Hid (((l ++ [UInt8.ofNat t.kids.length]) ++ kidsB true t.names (t.kids.take k)).length + (shortB t.names[k]).length ≤ 9000) := by
        simp only [if_true] at hbd
        show _ ≤ _
        omega
       have HLB : Hid ((((l ++ [UInt8.ofNat t.kids.length]) ++ kidsB true t.names (t.kids.take k)) ++ shortB t.names[k]).length + (treeB t.kids[k]).length ≤ 9000) := by
        simp only [if_true] at hbd
        show _ ≤ _
        rw [List.length_append]
        omega
       have HNEXT : Hid ((((l ++ [UInt8.ofNat t.kids.length]) ++ kidsB true t.names (t.kids.take k)) ++ shortB t.names[k]) ++ treeB t.kids[k] = (l ++ [UInt8.ofNat t.kids.length]) ++ kidsB true t.names (t.kids.take (k + 1))) := by
        show _ = _
        rw [hnext]; simp
       have HTX := hH (text_any base B _ ar nr cr _ t.names[k] (uh HWA) (by omega) (uh HLA))
       clear hbd hnext hgd h8 hn8 hcell' hpb' hnl hpl ec
       go_wp2_with fail
       refine (uh HTX).mono ?_
       rintro e w4 ⟨rfl, hsp4, a4, n4, cap4, -, hw4⟩
       have hkb4 := hsp4.box (uh HKB) (by omega) (by decide)
       obtain ⟨m0, m1, m2, m3, m4⟩ := cs5 hkb4 (by omega)
       simp only [row5] at m0 m1 m2 m3 m4
       have HSP4 := hH ((uh HSPA).trans hsp4)
       have HBX4 := hH (hsp4.box (uh HBXA) (by have := uh HBL; omega) (by decide))
       have HW4 := hH hw4
       clear hw4 hsp4 hkb4 HTX HSPA HWA HBXA HKB eca ba0 ba3 b0 b3 HSP HW HBX
       go_wp2_with fail
       refine (uh HCALL _ (uh HSP4) a4 n4 cap4 _ (uh HW4) (uh HLB)).mono ?_
       rintro e w6 ⟨rfl, hsp6, a6, n6, cap6, -, hw6⟩
       have HSP6 := hH ((uh HSP4).trans hsp6)
       have HBX6 := hH (hsp6.box (uh HBX4) (by have := uh HBL; omega) (by decide))
       rw [uh HNEXT] at hw6
       have HW6 := hH hw6
       clear hw6 hsp6
       go_wp2_with fail
       go_roundw
       case rel => exact ⟨k + 1, a6, n6, cap6, by omega, by go_num, HW6, HSP6, HBX6⟩
       case measure => simp [intOf]; omega
  · go_wp2_with fail
    go_end0
    have hfin := HW.out
    rw [List.take_of_length_le (by omega), HE.out] at hfin
    exact ⟨rfl, HSP.out, ar, nr, cr, hfin.len, hfin⟩

theorem trP_step (n : Nat) (IH : TrP n) : TrP (n + 1) := by
 intro t hn P c d base B w a len cap l hP hrep hok h hl
 obtain ⟨c0, c1, c2, c3, c4⟩ := c
 have hrep0 := hrep
 obtain ⟨e0, e1, e2, -, -, -, hns, ak, capk, e4, -, hks⟩ := hrep.open
 simp only at e0 e1 e2 e4 hns
 subst e0 e1 e2 e4
 obtain ⟨a3, cap3, rfl, -, hns⟩ := hns
 have hso := ok_sort hok
 have hs1 : 1 ≤ t.sort := by omega
 have hs6 : t.sort ≤ 6 := by omega
 have htb := treeB_eq t
 have hBw := h.cells.lt
 have hbB := h.lt
 have hbw := h.size
 have hl1 : l.length + 1 ≤ 9000 := by rw [htb] at hl; simp at hl; omega
 have HPUT := hH (fun o => put_any base B (w.alloc o) a len cap l t.sort (h.alloc o) (by omega) (by omega) hl1)
 rcases (show t.sort = 1 ∨ t.sort = 2 ∨ t.sort = 3 ∨ (t.sort ≠ 1 ∧ t.sort ≠ 2 ∧ t.sort ≠ 3) by omega) with hs | hs | hs | ⟨hx1, hx2, hx3⟩
 · obtain ⟨hn0, hn9⟩ := ok_num hok hs
   have HE : Hid ((l ++ [UInt8.ofNat t.sort.toNat]) ++ numB t.num = l ++ treeB t) := by show _ = _; rw [htb, if_pos hs]; simp
   have hl2 : (l ++ [UInt8.ofNat t.sort.toNat]).length + (numB t.num).length ≤ 9000 := by rw [← List.length_append, HE.out, List.length_append]; exact hl
   have hq1 : (t.sort == 1) = true := by simpa using hs
   clear hs
   clear h hso htb hok hks hns hrep hrep0 hP
   go_enter Tryz.func63, Tryz.ntmps63
   go_wp2_with fail
   refine (uh HPUT _).mono ?_
   rintro e w1 ⟨rfl, hsp1, a1, n1, cap1, -, hw1⟩
   have hr1 := hsp1.box (row5_alloc w (.int .i64 t.sort) (.int .i64 t.num) (.string t.text) (.slice a3 t.names.length cap3) (.slice ak t.kids.length capk) 26) (by omega) (by decide)
   have HSP1 := hH ((Sp.alloc base B w (.cells #[.int .i64 t.sort, .int .i64 t.num, .string t.text, .slice a3 t.names.length cap3, .slice ak t.kids.length capk] 26)).trans hsp1)
   obtain ⟨k0, k1, k2, k3, k4⟩ := cs5 hr1 (by omega)
   simp only [row5] at k0 k1 k2 k3 k4
   have HC := hH (numPk_any base B w1 a1 n1 cap1 _ t.num hw1 hn0 hn9 hl2)
   clear hr1 hsp1 hw1 HPUT
   go_wp2_with fail
   refine (uh HC).mono ?_
   rintro e w2 ⟨rfl, hsp2, hend⟩
   have HEND := hH hend; have HSP2 := hH ((uh HSP1).trans hsp2)
   clear hend hsp2 HC
   go_wp2_with fail
   go_end0
   rw [HE.out] at HEND
   exact ⟨rfl, uh HSP2, uh HEND⟩
 · have htx := ok_text hok hs
   have HE : Hid ((l ++ [UInt8.ofNat t.sort.toNat]) ++ shortB t.text = l ++ treeB t) := by show _ = _; rw [htb, if_neg (by omega), if_pos hs]; simp
   have hl2 : (l ++ [UInt8.ofNat t.sort.toNat]).length + (shortB t.text).length ≤ 9000 := by rw [← List.length_append, HE.out, List.length_append]; exact hl
   have hq1 : (t.sort == 1) = false := by simp; omega
   have hq2 : (t.sort == 2) = true := by simpa using hs
   clear hs
   clear h hso htb hok hks hns hrep hrep0 hP
   go_enter Tryz.func63, Tryz.ntmps63
   go_wp2_with fail
   refine (uh HPUT _).mono ?_
   rintro e w1 ⟨rfl, hsp1, a1, n1, cap1, -, hw1⟩
   have hr1 := hsp1.box (row5_alloc w (.int .i64 t.sort) (.int .i64 t.num) (.string t.text) (.slice a3 t.names.length cap3) (.slice ak t.kids.length capk) 26) (by omega) (by decide)
   have HSP1 := hH ((Sp.alloc base B w (.cells #[.int .i64 t.sort, .int .i64 t.num, .string t.text, .slice a3 t.names.length cap3, .slice ak t.kids.length capk] 26)).trans hsp1)
   obtain ⟨k0, k1, k2, k3, k4⟩ := cs5 hr1 (by omega)
   simp only [row5] at k0 k1 k2 k3 k4
   have HC := hH (text_any base B w1 a1 n1 cap1 _ t.text hw1 (by omega) hl2)
   clear hr1 hsp1 hw1 HPUT
   go_wp2_with fail
   refine (uh HC).mono ?_
   rintro e w2 ⟨rfl, hsp2, hend⟩
   have HEND := hH hend; have HSP2 := hH ((uh HSP1).trans hsp2)
   clear hend hsp2 HC
   go_wp2_with fail
   go_end0
   rw [HE.out] at HEND
   exact ⟨rfl, uh HSP2, uh HEND⟩
 · obtain ⟨hf0, hf1⟩ := ok_flag hok hs
   have HE : Hid ((l ++ [UInt8.ofNat t.sort.toNat]) ++ [UInt8.ofNat t.num.toNat] = l ++ treeB t) := by show _ = _; rw [htb, if_neg (by omega), if_neg (by omega), if_pos hs]; simp
   have hl2 : (l ++ [UInt8.ofNat t.sort.toNat]).length + 1 ≤ 9000 := by have := congrArg List.length HE.out; simp only [List.length_append, List.length_cons, List.length_nil] at this hl ⊢; omega
   have hq1 : (t.sort == 1) = false := by simp; omega
   have hq2 : (t.sort == 2) = false := by simp; omega
   have hq3 : (t.sort == 3) = true := by simpa using hs
   clear hs
   clear h hso htb hok hks hns hrep hrep0 hP
   go_enter Tryz.func63, Tryz.ntmps63
   go_wp2_with fail
   refine (uh HPUT _).mono ?_
   rintro e w1 ⟨rfl, hsp1, a1, n1, cap1, -, hw1⟩
   have hr1 := hsp1.box (row5_alloc w (.int .i64 t.sort) (.int .i64 t.num) (.string t.text) (.slice a3 t.names.length cap3) (.slice ak t.kids.length capk) 26) (by omega) (by decide)
   have HSP1 := hH ((Sp.alloc base B w (.cells #[.int .i64 t.sort, .int .i64 t.num, .string t.text, .slice a3 t.names.length cap3, .slice ak t.kids.length capk] 26)).trans hsp1)
   obtain ⟨k0, k1, k2, k3, k4⟩ := cs5 hr1 (by omega)
   simp only [row5] at k0 k1 k2 k3 k4
   have HC := hH (put_any base B w1 a1 n1 cap1 _ t.num hw1 hf0 (by omega) hl2)
   clear hr1 hsp1 hw1 HPUT
   go_wp2_with fail
   refine (uh HC).mono ?_
   rintro e w2 ⟨rfl, hsp2, hend⟩
   have HEND := hH hend; have HSP2 := hH ((uh HSP1).trans hsp2)
   clear hend hsp2 HC
   go_wp2_with fail
   go_end0
   rw [HE.out] at HEND
   exact ⟨rfl, uh HSP2, uh HEND⟩
 · have HE : Hid ((l ++ [UInt8.ofNat t.sort.toNat]) ++ (UInt8.ofNat t.kids.length :: kidsB (decide (t.sort = 5)) t.names t.kids) = l ++ treeB t) := by show _ = _; rw [htb, if_neg hx1, if_neg hx2, if_neg hx3]; simp
   have hl2 : (l ++ [UInt8.ofNat t.sort.toNat]).length + (UInt8.ofNat t.kids.length :: kidsB (decide (t.sort = 5)) t.names t.kids).length ≤ 9000 := by rw [← List.length_append, HE.out, List.length_append]; exact hl
   have hq1 : (t.sort == 1) = false := by simp; omega
   have hq2 : (t.sort == 2) = false := by simp; omega
   have hq3 : (t.sort == 3) = false := by simp; omega
   have HKC := hH (fun (w1 : World) (hsp : Sp base B w w1) (a1 : Option Addr) (n1 cap1 : Nat) (l1 : List UInt8) (hw1 : Wr base B w1 (.slice a1 n1 cap1) l1) (hl1 : l1.length + (UInt8.ofNat t.kids.length :: kidsB (decide (t.sort = 5)) t.names t.kids).length ≤ 9000) => kids_any n IH t (by omega) P ⟨.int .i64 t.sort, .int .i64 t.num, .string t.text, .slice a3 t.names.length cap3, .slice ak t.kids.length capk⟩ d base B w1 a1 n1 cap1 l1 hP (hsp.rep hbB hbw hP hrep0) hok hw1 hl1)
   have HL2 := hH hl2
   clear hx1 hx2 hx3 hl2
   clear h hso htb hok hks hns hrep hrep0 hP
   go_enter Tryz.func63, Tryz.ntmps63
   go_wp2_with fail
   refine (uh HPUT _).mono ?_
   rintro e w1 ⟨rfl, hsp1, a1, n1, cap1, -, hw1⟩
   have hr1 := hsp1.box (row5_alloc w (.int .i64 t.sort) (.int .i64 t.num) (.string t.text) (.slice a3 t.names.length cap3) (.slice ak t.kids.length capk) 26) (by omega) (by decide)
   have HSP1 := hH ((Sp.alloc base B w (.cells #[.int .i64 t.sort, .int .i64 t.num, .string t.text, .slice a3 t.names.length cap3, .slice ak t.kids.length capk] 26)).trans hsp1)
   obtain ⟨k0, k1, k2, k3, k4⟩ := cs5 hr1 (by omega)
   simp only [row5] at k0 k1 k2 k3 k4
   have HC := hH (uh HKC w1 (uh HSP1) a1 n1 cap1 _ hw1 (uh HL2))
   clear hr1 hsp1 hw1 HPUT HKC HL2
   go_wp2_with fail
   refine (uh HC).mono ?_
   rintro e w2 ⟨rfl, hsp2, hend⟩
   have HEND := hH hend; have HSP2 := hH ((uh HSP1).trans hsp2)
   clear hend hsp2 HC
   go_wp2_with fail
   go_end0
   rw [HE.out] at HEND
   exact ⟨rfl, uh HSP2, uh HEND⟩
theorem trP_all : ∀ n, TrP n
 | 0 => fun t h => by omega
 | n + 1 => trP_step n (trP_all n)

theorem event_any (ty : ByteArray) (ver : Int) (t : Tr) (P : Nat → Prop) (c : C5) (base B : Nat) (w : World) (a : Option Addr) (len cap : Nat) (l : List UInt8) (hP : ∀ b, P b → b < base) (hrep : Rep P w t c) (hok : evOkB ty ver t = true) (h : Wr base B w (.slice a len cap) l) (hl : l.length + (eventB ty ver t).length ≤ 9000) :
 Calls Tryz.prog 29 #[.pointer (some ⟨B, 0, none⟩), .agg #[.string ty, .int .i64 ver, c.c0, c.c1, c.c2, c.c3, c.c4]] w fun e w' => WrEnd base B w w' e (l ++ eventB ty ver t) := by
 obtain ⟨c0, c1, c2, c3, c4⟩ := c
 obtain ⟨-, h8, hv1, hv12, -, hpt⟩ := evOk_parts hok
 have hBw := h.cells.lt
 have hbB := h.lt
 have hbw := h.size
 simp only [eventB, List.length_append, List.length_cons, List.length_nil] at hl
 have HTX := hH (fun o => text_any base B (w.alloc o) a len cap l ty (h.alloc o) (by omega) (by omega))
 have HE : Hid (((l ++ shortB ty) ++ [UInt8.ofNat ver.toNat]) ++ treeB t = l ++ eventB ty ver t) := by show _ = _; simp [eventB]
 have HTR := hH (fun (w1 : World) (hsp : Sp base B w w1) (a1 : Option Addr) (n1 cap1 : Nat) (l1 : List UInt8) (hw1 : Wr base B w1 (.slice a1 n1 cap1) l1) (hl1 : l1.length + (treeB t).length ≤ 9000) => trP_all (tsz t + 1) t (by omega) P ⟨c0, c1, c2, c3, c4⟩ 1 base B w1 a1 n1 cap1 l1 hP (hsp.rep hbB hbw hP hrep) hpt hw1 hl1)
 clear hrep hok h hpt hP
 go_enter Tryz.func29, Tryz.ntmps29
 go_wp2_with fail
 refine (uh HTX _).mono ?_
 rintro e w1 ⟨rfl, hsp1, a1, n1, cap1, -, hw1⟩
 have hr1 := hsp1.box (row7_alloc w (.string ty) (.int .i64 ver) c0 c1 c2 c3 c4 28) (by omega) (by decide)
 have k1 := hr1.cell (i := 1) (by omega)
 simp only [row7] at k1
 have HPU := hH (put_any base B w1 a1 n1 cap1 _ ver hw1 (by omega) (by omega) (by simp; omega))
 have HSP1 := hH ((Sp.alloc base B w (.cells #[.string ty, .int .i64 ver, c0, c1, c2, c3, c4] 28)).trans hsp1); have HR1 := hH hr1
 clear hr1 hsp1 hw1 HTX
 go_wp2_with fail
 refine (uh HPU).mono ?_
 rintro e w2 ⟨rfl, hsp2, a2, n2, cap2, -, hw2⟩
 have hr2 := hsp2.box (uh HR1) (by omega) (by decide)
 have j2 := hr2.cell (i := 2) (by omega); have j3 := hr2.cell (i := 3) (by omega); have j4 := hr2.cell (i := 4) (by omega); have j5 := hr2.cell (i := 5) (by omega); have j6 := hr2.cell (i := 6) (by omega)
 simp only [row7] at j2 j3 j4 j5 j6
 have HSP2 := hH ((uh HSP1).trans hsp2)
 have HC := hH (uh HTR w2 (uh HSP2) a2 n2 cap2 _ hw2 (by simp; omega))
 rw [HE.out] at HC
 clear hr2 hsp2 hw2 HPU HR1 HSP1 k1 HTR
 go_wp2_with fail
 refine (uh HC).mono ?_
 rintro e w3 ⟨rfl, hsp3, hend⟩
 have HEND := hH hend; have HSP3 := hH ((uh HSP2).trans hsp3)
 clear hend hsp3 HC
 go_wp2_with fail
 go_end0
 exact ⟨rfl, uh HSP3, uh HEND⟩
theorem packWork_any (ty : ByteArray) (ver : Int) (t : Tr) (P : Nat → Prop) (c : C5) (base B X Y : Nat) (w : World) (a : Option Addr) (len cap : Nat) (l : List UInt8) (hP : ∀ b, P b → b < base) (hrep : Rep P w t c) (hok : evOkB ty ver t = true) (h : Wr base B w (.slice a len cap) l) (hl : l.length + (eventB ty ver t).length ≤ 9000)
 (hX : w.rowIs X 28 7 (row7 (.string ty) (.int .i64 ver) c.c0 c.c1 c.c2 c.c3 c.c4)) (hY : w.rowIs Y 48 1 (fun _ => .pointer (some ⟨B, 0, none⟩))) :
 Calls Tryz.prog 28 #[.pointer (some ⟨Y, 0, none⟩), .pointer (some ⟨X, 0, none⟩)] w fun e w' => WrEnd base B w w' e (l ++ eventB ty ver t) := by
 have HC := hH (event_any ty ver t P c base B w a len cap l hP hrep hok h hl)
 obtain ⟨c0, c1, c2, c3, c4⟩ := c
 obtain ⟨j0, j1, j2, j3, j4, j5, j6⟩ := cs7 hX (by omega)
 have y0 := hY.cell (i := 0) (by omega)
 simp only [row7] at j0 j1 j2 j3 j4 j5 j6
 clear hX hY h hrep hP
 go_enter Tryz.func28, Tryz.ntmps28
 go_wp2_with fail
 refine (uh HC).mono ?_
 rintro e w3 ⟨rfl, hsp3, hend⟩
 have HEND := hH hend; have HSP3 := hH hsp3
 clear hend hsp3 HC
 go_wp2_with fail
 go_end0
 exact ⟨rfl, uh HSP3, uh HEND⟩
theorem enterPack (caps : Array Value) (W : World) : Sem.run Tryz.prog (callFunc 28 caps) W = .ok (.enter 28 caps) W := by
 kernel_rfl

structure PkAt (base : Nat) (w : World) (ty : ByteArray) (ver : Int) (c : C5) (v : Value) (l : List UInt8) : Prop where
 box : w.rowIs base 28 7 (row7 (.string ty) (.int .i64 ver) c.c0 c.c1 c.c2 c.c3 c.c4)
 wr : Wr base (base + 1) w v l
 ptr : w.rowIs (base + 1 + 1) 48 1 (fun _ => .pointer (some ⟨base + 1, 0, none⟩))
theorem PkAt.on {base : Nat} {w w' : World} {ty : ByteArray} {ver : Int} {c : C5} {v : Value} {l : List UInt8} (h : PkAt base w ty ver c v l) (hb : Below w.heap.size w w') : PkAt base w' ty ver c v l :=
 ⟨h.box.of_block (hb.block _ h.box.lt), ⟨h.wr.cells.of_block (hb.block _ h.wr.cells.lt), h.wr.row.stay hb, h.wr.lt⟩, h.ptr.of_block (hb.block _ h.ptr.lt)⟩
theorem row1_alloc (w : World) (x : Value) (t : TypeId) : (w.alloc (.cells #[x] t)).rowIs w.heap.size t 1 (fun _ => x) :=
 World.rowIs_alloc w #[x] t _ (fun i hi => by
  have hi' : i < 1 := hi
  match i, hi' with
  | 0, _ => rfl)
theorem PkAt.start (w : World) (ty : ByteArray) (ver : Int) (c0 c1 c2 c3 c4 : Value) : PkAt w.heap.size (((w.alloc (.cells #[.string ty, .int .i64 ver, c0, c1, c2, c3, c4] 28)).alloc (.cells #[.int .i64 0, .int .i64 9000, .slice none 0 0] 55)).alloc (.cells #[.pointer (some ⟨w.heap.size + 1, 0, none⟩)] 48)) ty ver ⟨c0, c1, c2, c3, c4⟩ (.slice none 0 0) [] := by
 refine ⟨((row7_alloc w (.string ty) (.int .i64 ver) c0 c1 c2 c3 c4 _).alloc _).alloc _, ⟨?_, ⟨rfl, Or.inl ⟨rfl, rfl⟩⟩, Nat.le_succ _⟩, ?_⟩
 · have := (row3_alloc (w.alloc (.cells #[.string ty, .int .i64 ver, c0, c1, c2, c3, c4] 28)) (.int .i64 0) (.int .i64 9000) (.slice none 0 0) 55).alloc (.cells #[.pointer (some ⟨w.heap.size + 1, 0, none⟩)] 48)
   rw [World.size_alloc] at this
   exact this
 · have := row1_alloc ((w.alloc (.cells #[.string ty, .int .i64 ver, c0, c1, c2, c3, c4] 28)).alloc (.cells #[.int .i64 0, .int .i64 9000, .slice none 0 0] 55)) (.pointer (some ⟨w.heap.size + 1, 0, none⟩)) 48
   rw [World.size_alloc, World.size_alloc] at this
   exact this
theorem packTry_any (ty : ByteArray) (ver : Int) (t : Tr) (P : Nat → Prop) (c : C5) (base : Nat) (w : World) (hP : ∀ b, P b → b < base) (hrep : Rep P w t c) (hok : evOkB ty ver t = true) (h : PkAt base w ty ver c (.slice none 0 0) []) :
 Calls Tryz.prog 27 #[.func (.func 28) #[] #[.pointer (some ⟨base + 1 + 1, 0, none⟩), .pointer (some ⟨base, 0, none⟩)]] w fun e w' =>
  e = .returned (.bool true) ∧ (∃ a n cap, n = (eventB ty ver t).length ∧ PkAt base w' ty ver c (.slice a n cap) (eventB ty ver t)) ∧ Below base w w' := by
 obtain ⟨-, h8, -, -, -, hpt⟩ := evOk_parts hok
 have hlen : ([] : List UInt8).length + (eventB ty ver t).length ≤ 9000 := by have := eventB_len (ver := ver) h8 hpt; simpa using this
 have hpl := h.ptr.lt
 have hb0 : Below w.heap.size w (w.alloc (.cells #[.bool false] 4)) := (Below.refl _ _).alloc (Nat.le_refl _) _
 have h1 := h.on hb0
 have hrep1 : Rep P (w.alloc (.cells #[.bool false] 4)) t c := Rep.carry (fun b hb => hb0.block b (by have := hP b hb; omega)) (fun _ h => h) _ _ hrep
 have hbl := row1_alloc w (.bool false) 4
 refine (treeTry_yes2 28 _ w (fun w1 => Sp base (base + 1) (w.alloc (.cells #[.bool false] 4)) w1 ∧ ∃ a n cap, n = (eventB ty ver t).length ∧ Wr base (base + 1) w1 (.slice a n cap) (eventB ty ver t)) (enterPack _) ?_).mono ?_
 · refine (packWork_any ty ver t P c base (base + 1) base (base + 1 + 1) _ none 0 0 [] hP hrep1 hok h1.wr hlen h1.box h1.ptr).mono ?_
   rintro e w' ⟨he, hsp, hend⟩
   rw [List.nil_append] at hend
   refine ⟨he, ⟨hsp, hend⟩, ?_⟩
   exact hsp.block _ hbl.lt (by omega) (Or.inr fun cs f e => by
    obtain ⟨c', hb', _⟩ := hbl
    rw [e] at hb'
    simp at hb')
 · rintro e w' ⟨rfl, w1, ⟨hsp, a, n, cap, hn, hw⟩, hb⟩
   have hs1 := hsp.size
   rw [World.size_alloc] at hs1
   have hbl1 : w1.rowIs w.heap.size 4 1 (fun _ => .bool false) := hsp.box hbl (by omega) (by decide)
   have hne : (Value.slice a n cap).ownBlock ≠ some w.heap.size := ByRow.apart hw.row hbl1 (by decide)
   have hbox1 := hsp.box h1.box (by omega) (by decide)
   have hptr1 := hsp.box h1.ptr (by omega) (by decide)
   refine ⟨rfl, ⟨a, n, cap, hn, hbox1.of_block (hb.at hbox1.lt (by omega)), ⟨hw.cells.of_block (hb.at hw.cells.lt (by omega)), World.ownsRow.kept hw.row hb (Or.inr hne), hw.lt⟩, hptr1.of_block (hb.at hptr1.lt (by omega))⟩, ?_⟩
   have hlow : Below base w w1 := ((Below.refl base w).alloc (by omega) (.cells #[.bool false] 4)).trans (hsp.below (by omega) (by simp; omega))
   exact ⟨hb.os.trans hlow.os, hb.tape.trans hlow.tape, hb.output.trans hlow.output, Nat.le_trans hlow.size hb.size, fun b hbb => (hb.at (by omega) (by omega)).trans (hlow.block b hbb)⟩
theorem newWriter_any (w : World) : Calls Tryz.prog 26 #[.int .i64 9000] w fun e w' => e = .returned (.pointer (some ⟨w.heap.size, 0, none⟩)) ∧ w' = w.alloc (.cells #[.int .i64 0, .int .i64 9000, .slice none 0 0] 55) := by
 go_enter Tryz.func26, Tryz.ntmps26
 go_wp2_with fail
 go_ret
 exact ⟨rfl, rfl⟩
theorem implEventPack_any (ty : ByteArray) (ver : Int) (t : Tr) (P : Nat → Prop) (c : C5) (w : World) (hP : ∀ b, P b → b < w.heap.size) (hrep : Rep P w t c) (hty : ty.size ≤ 9223372036854775807) (hver : I64 ver) (hT : Tab w) :
 Calls Tryz.prog 8 #[.agg #[.string ty, .int .i64 ver, c.c0, c.c1, c.c2, c.c3, c.c4]] w fun e w' => ByNew w w' e (packB ty ver t) := by
 have hmf : ∀ (fn : Fn) (first cap : Array Value) (w : World), (Instr.makeFunc fn first cap).run Tryz.prog w = .ok (.func fn first cap) w := fun _ _ _ _ => rfl
 obtain ⟨c0, c1, c2, c3, c4⟩ := c
 have hok := fun (W : World) (hW : Below w.heap.size w W) => implEventOk_any ty ver t P ⟨c0, c1, c2, c3, c4⟩ W (fun b hb => Nat.lt_of_lt_of_le (hP b hb) hW.size) (Rep.carry (fun b hb => hW.block b (hP b hb)) (fun _ h => h) _ _ hrep) hty hver (hT.of_block (hW.block 1 hT.lt))
 have hbx : ∀ o o2 o3, Below w.heap.size w (((w.alloc o).alloc o2).alloc o3) := fun o o2 o3 => (((Below.refl _ _).alloc (Nat.le_refl _) o).alloc (by simp) o2).alloc (by simp; omega) o3
 have HST := hH (PkAt.start w ty ver c0 c1 c2 c3 c4)
 have HTRY := hH (fun (W : World) (hW : Below w.heap.size w W) (hk : evOkB ty ver t = true) (h : PkAt w.heap.size W ty ver ⟨c0, c1, c2, c3, c4⟩ (.slice none 0 0) []) => packTry_any ty ver t P ⟨c0, c1, c2, c3, c4⟩ w.heap.size W hP (Rep.carry (fun b hb => hW.block b (hP b hb)) (fun _ h => h) _ _ hrep) hk h)
 have HOK := hH hok; have HBX := hH hbx
 clear hok hbx hP hrep hT hty hver
 by_cases h : evOkB ty ver t = true
 · have HE : Hid (packB ty ver t = eventB ty ver t) := by show packB ty ver t = _; rw [packB, if_pos h]
   have HK := hH h
   rw [h] at HOK
   clear h
   go_enter Tryz.func8, Tryz.ntmps8
   go_wp2_with (go_at_call 26; refine (newWriter_any _).mono ?_; rintro e w' ⟨rfl, rfl⟩)
   refine (uh HOK _ (uh HBX _ _ _)).mono ?_
   rintro e w2 ⟨rfl, hb2⟩
   have HP2 := hH ((uh HST).on hb2)
   have HB2 := hH ((uh HBX _ _ _).trans (hb2.mono (uh HBX _ _ _).size))
   clear hb2 HOK HST HBX
   have HT := hH (uh HTRY w2 (uh HB2) (uh HK) (uh HP2))
   clear HTRY HP2
   go_wp2_with fail
   refine (uh HT).mono ?_
   rintro e w3 ⟨rfl, ⟨a, n, cap, hn, hp3⟩, hb3⟩
   have y0 := hp3.ptr.cell (i := 0) (by omega)
   have r2 := hp3.wr.cells.cell (i := 2) (by omega)
   simp only [row3] at y0 r2
   have HP3 := hH hp3; have HB3 := hH ((uh HB2).trans hb3); have HN := hH hn
   clear hp3 hb3 hn HT HB2
   go_wp2_with fail
   go_ret
   rw [HE.out]
   exact ⟨a, n, cap, rfl, uh HN, (uh HP3).wr.row, uh HB3⟩
 · have HE : Hid (packB ty ver t = []) := by show packB ty ver t = _; rw [packB, if_neg h]
   have hf : evOkB ty ver t = false := by simpa using h
   rw [hf] at HOK
   clear h hf HTRY
   go_enter Tryz.func8, Tryz.ntmps8
   go_wp2_with (go_at_call 26; refine (newWriter_any _).mono ?_; rintro e w' ⟨rfl, rfl⟩)
   refine (uh HOK _ (uh HBX _ _ _)).mono ?_
   rintro e w2 ⟨rfl, hb2⟩
   have HB2 := hH ((uh HBX _ _ _).trans (hb2.mono (uh HBX _ _ _).size))
   clear hb2 HOK HST HBX
   go_wp2_with fail
   go_ret
   rw [HE.out]
   exact ⟨none, 0, 0, rfl, rfl, ⟨rfl, Or.inl ⟨rfl, rfl⟩⟩, uh HB2⟩
end Go.Proofs.YtbkagahmiibclaaGreatDoor
