/- The walk of the specification's EventUnpack. No conditions. -/
import Derived.Test.YtiflfcjocngiiaaGreatDoorPart31
namespace Go.Proofs.YtiflfcjocngiiaaGreatDoor
open Go Go.RowKit

/-- The boxes of the walk: the answer's, the reader, the event's. -/
structure UsAt (w wr : World) (v : Value) (b : List UInt8) (a : Nat) (bad : Bool) (Y : Nat) (t0 t1 : Value) (c : C5) : Prop where
  below : Below w.heap.size w wr
  box : wr.rowIs w.heap.size 41 7 (row7 (.string ⟨#[]⟩) (.int .i64 0) (.int .i64 0) (.int .i64 0) (.string ⟨#[]⟩) (.slice none 0 0) (.slice none 0 0))
  sr : SR (w.heap.size + 1) wr v b a bad
  ev : wr.rowIs Y 41 7 (row7 t0 t1 c.c0 c.c1 c.c2 c.c3 c.c4)
  hY : w.heap.size + 1 < Y

theorem below_but {w wr w' : World} {R : Nat} (h : Below w.heap.size w wr) (hb : But R wr w') (hR : w.heap.size ≤ R) : Below w.heap.size w w' :=
  h.trans ⟨hb.os, hb.tape, hb.output, hb.size, fun i hi => hb.at (by have := h.size; omega) (by omega)⟩

theorem UsAt.read {w wr w' : World} {v : Value} {b : List UInt8} {a a2 : Nat} {bad bad2 : Bool} {Y : Nat} {t0 t1 : Value} {c : C5} (h : UsAt w wr v b a bad Y t0 t1 c) (hb : But (w.heap.size + 1) wr w') (hs : SR (w.heap.size + 1) w' v b a2 bad2) : UsAt w w' v b a2 bad2 Y t0 t1 c := by
  have := h.hY
  exact ⟨below_but h.below hb (by omega), h.box.of_block (hb.at h.box.lt (by omega)), hs, h.ev.of_block (hb.at h.ev.lt (by omega)), h.hY⟩

theorem UsAt.on {w wr w' : World} {v : Value} {b : List UInt8} {a : Nat} {bad : Bool} {Y : Nat} {t0 t1 : Value} {c : C5} (h : UsAt w wr v b a bad Y t0 t1 c) (hb : Below wr.heap.size wr w') : UsAt w w' v b a bad Y t0 t1 c :=
  ⟨h.below.trans (hb.mono h.below.size), h.box.of_block (hb.block _ h.box.lt), h.sr.on hb, h.ev.of_block (hb.block _ h.ev.lt), h.hY⟩

theorem UsAt.ver {w wr : World} {v : Value} {b : List UInt8} {a : Nat} {bad : Bool} {Y : Nat} {t0 t1 : Value} {c : C5} (h : UsAt w wr v b a bad Y t0 t1 c) (u : Value) : UsAt w (wr.setCell ⟨Y, 1, none⟩ u) v b a bad Y t0 u c := by
  have := h.hY
  exact ⟨h.below.setCell (by simp; omega) _, h.box.setOther (by simp; omega) _, h.sr.set (by omega) _ _, (h.ev.set 1 u).congr (fun i hi => by rcases (show i = 0 ∨ i = 1 ∨ i = 2 ∨ i = 3 ∨ i = 4 ∨ i = 5 ∨ i = 6 by omega) with rfl | rfl | rfl | rfl | rfl | rfl | rfl <;> rfl), h.hY⟩

theorem UsAt.body {w wr : World} {v : Value} {b : List UInt8} {a : Nat} {bad : Bool} {Y : Nat} {t0 t1 : Value} {c : C5} (h : UsAt w wr v b a bad Y t0 t1 c) (d0 d1 d2 d3 d4 : Value) :
    UsAt w (((((wr.setCell ⟨Y, 2, none⟩ d0).setCell ⟨Y, 3, none⟩ d1).setCell ⟨Y, 4, none⟩ d2).setCell ⟨Y, 5, none⟩ d3).setCell ⟨Y, 6, none⟩ d4) v b a bad Y t0 t1 ⟨d0, d1, d2, d3, d4⟩ := by
  have := h.hY
  refine ⟨?_, ?_, ?_, ?_, h.hY⟩
  · repeat refine Below.setCell ?_ (by simp <;> omega) _
    exact h.below
  · repeat refine World.rowIs.setOther ?_ (by simp <;> omega) _
    exact h.box
  · repeat refine SR.set ?_ (by omega) _ _
    exact h.sr
  · exact (((((h.ev.set 2 d0).set 3 d1).set 4 d2).set 5 d3).set 6 d4).congr (fun i hi => by rcases (show i = 0 ∨ i = 1 ∨ i = 2 ∨ i = 3 ∨ i = 4 ∨ i = 5 ∨ i = 6 by omega) with rfl | rfl | rfl | rfl | rfl | rfl | rfl <;> rfl)

theorem us_start (w w1 : World) (v : Value) (b : List UInt8) (a1 : Nat) (bad1 : Bool) (ty : ByteArray)
    (hb1 : But (w.heap.size + 1) ((w.alloc ev0).alloc (.cells #[v, .int .i64 0, .bool false] 33)) w1) (hs : SR (w.heap.size + 1) w1 v b a1 bad1) :
    UsAt w (w1.alloc (.cells #[.string ty, .int .i64 0, .int .i64 0, .int .i64 0, .string ⟨#[]⟩, .slice none 0 0, .slice none 0 0] 41)) v b a1 bad1 w1.heap.size (.string ty) (.int .i64 0) ⟨.int .i64 0, .int .i64 0, .string ⟨#[]⟩, .slice none 0 0, .slice none 0 0⟩ := by
  have hsz := hb1.size
  simp only [World.size_alloc] at hsz
  have hb0 : Below w.heap.size w ((w.alloc ev0).alloc (.cells #[v, .int .i64 0, .bool false] 33)) := ((Below.refl _ _).alloc (Nat.le_refl _) _).alloc (by simp) _
  have hbA := (Below.refl w1.heap.size w1).alloc (Nat.le_refl _) (.cells #[.string ty, .int .i64 0, .int .i64 0, .int .i64 0, .string ⟨#[]⟩, .slice none 0 0, .slice none 0 0] 41)
  refine ⟨(below_but hb0 hb1 (by omega)).trans (hbA.mono (by omega)), ?_, hs.on hbA, row7_alloc w1 _ _ _ _ _ _ _ _, by omega⟩
  exact (((row7_alloc w (.string ⟨#[]⟩) (.int .i64 0) (.int .i64 0) (.int .i64 0) (.string ⟨#[]⟩) (.slice none 0 0) (.slice none 0 0) 41).alloc _).of_block (hb1.at (by simp; omega) (by omega))).alloc _

theorem sr_start (w : World) (v : Value) (b : List UInt8) (hr : ByIn w v b) (hs : b.length ≤ 1048576) : SR (w.heap.size + 1) ((w.alloc ev0).alloc (.cells #[v, .int .i64 0, .bool false] 33)) v b 0 false := by
  have := row3_alloc (w.alloc ev0) v (.int .i64 0) (.bool false) 33
  rw [World.size_alloc] at this
  exact ⟨this, (hr.alloc _).alloc _, fun g e => by have := (hr.own g e).2; omega, Nat.zero_le _, hs⟩

theorem UsAt.no {w W : World} {v : Value} {b : List UInt8} {a : Nat} {bad : Bool} {Y : Nat} {t0 t1 : Value} {c : C5} (h : UsAt w W v b a bad Y t0 t1 c) (hno : ∀ ty ver t, ¬ UpE b ty ver t) (c0 c1 c2 c3 c4 c5 c6 : Value) :
    UpEnd w (((((((W.setCell ⟨w.heap.size, 0, none⟩ c0).setCell ⟨w.heap.size, 1, none⟩ c1).setCell ⟨w.heap.size, 2, none⟩ c2).setCell ⟨w.heap.size, 3, none⟩ c3).setCell ⟨w.heap.size, 4, none⟩ c4).setCell ⟨w.heap.size, 5, none⟩ c5).setCell ⟨w.heap.size, 6, none⟩ c6) b (.returned (.tuple #[.agg #[.string ⟨#[]⟩, .int .i64 0, .int .i64 0, .int .i64 0, .string ⟨#[]⟩, .slice none 0 0, .slice none 0 0], .bool false])) := by
  refine ⟨?_, Or.inr ⟨rfl, hno⟩⟩
  repeat refine Below.setCell ?_ (by simp <;> omega) _
  exact h.below

theorem UsAt.yes {w W : World} {v : Value} {b : List UInt8} {a : Nat} {bad : Bool} {Y : Nat} {t0 t1 : Value} {c d : C5} {F : List Nat} {ty : ByteArray} {ver : Int} {t : Tr} (h : UsAt w W v b a bad Y t0 t1 c) (ho : Own W t d F) (hnd : F.Nodup) (hF : ∀ y, y ∈ F → Y < y ∧ y < W.heap.size) (hu : UpE b ty ver t) (c0 c1 c2 c3 c4 c5 c6 : Value) :
    UpEnd w (((((((W.setCell ⟨w.heap.size, 0, none⟩ c0).setCell ⟨w.heap.size, 1, none⟩ c1).setCell ⟨w.heap.size, 2, none⟩ c2).setCell ⟨w.heap.size, 3, none⟩ c3).setCell ⟨w.heap.size, 4, none⟩ c4).setCell ⟨w.heap.size, 5, none⟩ c5).setCell ⟨w.heap.size, 6, none⟩ c6) b (.returned (.tuple #[.agg #[.string ty, .int .i64 ver, d.c0, d.c1, d.c2, d.c3, d.c4], .bool true])) := by
  have hY := h.hY
  refine ⟨?_, Or.inl ⟨ty, ver, t, d, F, rfl, Own.carry _ _ F (fun y hy => by have := (hF y hy).1; repeat rw [Below.heap_setCell _ _ _ _ (by simp <;> omega)]) ho, hnd, fun y hy => ⟨by have := (hF y hy).1; omega, by simp only [size_setCell]; exact (hF y hy).2⟩, hu⟩⟩
  repeat refine Below.setCell ?_ (by simp <;> omega) _
  exact h.below

set_option maxRecDepth 100000 in
set_option maxHeartbeats 6400000 in
theorem specEventUnpack_in (w : World) (v : Value) (b : List UInt8) (hr : ByIn w v b) (hs : b.length ≤ 1048576) :
    Calls Tryz.prog 11 #[v] w fun e w' => UpEnd w w' b e := by
  obtain ⟨av, cv, hv⟩ := hr.slice
  subst hv
  by_cases h9 : b.length ≤ 9000
  · have hd9 : decide ((9000 : Int) < (b.length : Int)) = false := by simp; omega
    have HSH := hide (short_any (w.heap.size + 1) _ _ b 0 false (sr_start w _ b hr hs))
    have HUS := hide (fun w1 a1 bad1 ty hb1 hs => us_start w w1 (.slice av b.length cv) b a1 bad1 ty hb1 hs)
    have HBY := hide hr.at
    clear hr
    go_enter Tryz.func11, Tryz.ntmps11
    go_wp2_with fail
    refine (unhide HSH).mono ?_
    rintro e w1 ⟨ty, a1, bad1, rfl, hty, HS1, HB1, HF1⟩
    have HU1 := hide (unhide HUS w1 a1 bad1 ty HB1.out HS1.out)
    have HON := hide (one_any (w.heap.size + 1) _ _ b a1 bad1 (unhide HU1).sr)
    clear HSH HUS HS1 HB1
    go_wp2_with fail
    refine (unhide HON).mono ?_
    rintro e w2 ⟨x, a2, bad2, rfl, hx, HS2, HB2, HC2⟩
    have hu2 := (unhide HU1).read HB2.out HS2.out
    have y1 := hu2.ev.cell (i := 1) (by omega); have yf := hu2.ev.frozen
    simp only [row7] at y1
    have hu3 := hu2.ver (.int .i64 (x : Int))
    have HTR := hide (treeS_all 7 1 (by omega) (by omega) (by omega) (w.heap.size + 1) _ _ b a2 bad2 hu3.sr)
    have HU3 := hide hu3
    clear HON HU1 HS2 HB2 hu2 hu3
    go_wp2_with fail
    refine (unhide HTR).mono ?_
    rintro e w3 ⟨t, ⟨d0, d1, d2, d3, d4⟩, F, a3, bad3, rfl, ho, hnd, hF, hs3, hb3, hf3⟩
    have hle3 := hs3.le
    have HRD := hide (RdOk.make (HF1.out (by first | rfl | trivial)) HC2.out hx hf3 hle3)
    obtain ⟨g0, g1, g2, -, -, -, F1, F2, -, ⟨ap, cp, g3, -⟩, aq, cq, g4, -⟩ := ho.open
    simp only at g0 g1 g2 g3 g4
    subst g0 g1 g2 g3 g4
    have hu4 := (unhide HU3).read hb3 hs3
    have z2 := hu4.ev.cell (i := 2) (by omega); have z3 := hu4.ev.cell (i := 3) (by omega); have z4 := hu4.ev.cell (i := 4) (by omega); have z5 := hu4.ev.cell (i := 5) (by omega); have z6 := hu4.ev.cell (i := 6) (by omega); have zf := hu4.ev.frozen
    simp only [row7] at z2 z3 z4 z5 z6
    have hFY : ∀ y, y ∈ F → w1.heap.size < y ∧ y < w3.heap.size := fun y hy => ⟨by have := (hF y hy).1; have := (unhide HU3).ev.lt; omega, (hF y hy).2⟩
    have hu5 := hu4.body (.int .i64 t.sort) (.int .i64 t.num) (.string t.text) (.slice ap t.names.length cp) (.slice aq t.kids.length cq)
    obtain ⟨W5, hW5⟩ : ∃ W5, W5 = (((((w3.setCell ⟨w1.heap.size, 2, none⟩ (.int .i64 t.sort)).setCell ⟨w1.heap.size, 3, none⟩ (.int .i64 t.num)).setCell ⟨w1.heap.size, 4, none⟩ (.string t.text)).setCell ⟨w1.heap.size, 5, none⟩ (.slice ap t.names.length cp)).setCell ⟨w1.heap.size, 6, none⟩ (.slice aq t.kids.length cq)) := ⟨_, rfl⟩
    have ho5 : Own W5 t ⟨.int .i64 t.sort, .int .i64 t.num, .string t.text, .slice ap t.names.length cp, .slice aq t.kids.length cq⟩ F := by
      rw [hW5]
      exact Own.carry _ _ F (fun y hy => by have := (hFY y hy).1; repeat rw [Below.heap_setCell _ _ _ _ (by simp <;> omega)]) ho
    have hsz5 : W5.heap.size = w3.heap.size := by rw [hW5]; simp only [size_setCell]
    rw [← hW5] at hu5
    have HU5 := hide hu5; have HO5 := hide ho5; have HFY := hide hFY; have HSZ5 := hide hsz5; have HND := hide hnd
    have HW5 := hide hW5
    clear HTR HU3 hu4 hu5 ho hF hs3 hb3 hf3 HF1 HC2 ho5 hFY hsz5 hnd y1 yf hW5
    go_upto_region 7 with fail
    rw [← unhide HW5]
    clear HW5 z2 z3 z4 z5 z6 zf
    have hver : I64 (x : Int) := ⟨by omega, by omega⟩
    have hcell := fun (W : World) (hW : UsAt w W (.slice av b.length cv) b a3 bad3 w1.heap.size (.string ty) (.int .i64 (x : Int)) ⟨.int .i64 t.sort, .int .i64 t.num, .string t.text, .slice ap t.names.length cp, .slice aq t.kids.length cq⟩) => hW
    have p0 := (unhide HU5).box.cell (i := 0) (by omega); have p1 := (unhide HU5).box.cell (i := 1) (by omega); have p2 := (unhide HU5).box.cell (i := 2) (by omega); have p3 := (unhide HU5).box.cell (i := 3) (by omega); have p4 := (unhide HU5).box.cell (i := 4) (by omega); have p5 := (unhide HU5).box.cell (i := 5) (by omega); have p6 := (unhide HU5).box.cell (i := 6) (by omega); have pf := (unhide HU5).box.frozen
    have k1 := (unhide HU5).sr.cells.cell (i := 1) (by omega); have k2 := (unhide HU5).sr.cells.cell (i := 2) (by omega)
    have q0 := (unhide HU5).ev.cell (i := 0) (by omega); have q1 := (unhide HU5).ev.cell (i := 1) (by omega); have q2 := (unhide HU5).ev.cell (i := 2) (by omega); have q3 := (unhide HU5).ev.cell (i := 3) (by omega); have q4 := (unhide HU5).ev.cell (i := 4) (by omega); have q5 := (unhide HU5).ev.cell (i := 5) (by omega); have q6 := (unhide HU5).ev.cell (i := 6) (by omega)
    simp only [row7, row3] at p0 p1 p2 p3 p4 p5 p6 k1 k2 q0 q1 q2 q3 q4 q5 q6
    have hYX := (unhide HU5).hY
    have hne1 : w.heap.size ≠ w1.heap.size := by omega
    have hne2 : w1.heap.size ≠ w.heap.size := by omega
    clear hcell
    by_cases hgo : bad3 = false ∧ a3 = b.length
    · obtain ⟨hg1, hg2⟩ := hgo
      subst hg1
      have hcnt : ((a3 : Int) != (b.length : Int)) = false := by simp [hg2]
      have hcnt2 : ((a3 : Int) == (b.length : Int)) = true := by simp [hg2]
      have hr5 : Rep (· ∈ F) W5 t ⟨.int .i64 t.sort, .int .i64 t.num, .string t.text, .slice ap t.names.length cp, .slice aq t.kids.length cq⟩ := Own.rep t _ F (fun _ h => h) (unhide HO5)
      have hl5 : ∀ y, y ∈ F → y < W5.heap.size := fun y hy => by rw [unhide HSZ5]; exact (unhide HFY y hy).2
      have HOK := hide (specEventOk_any ty (x : Int) t (· ∈ F) ⟨.int .i64 t.sort, .int .i64 t.num, .string t.text, .slice ap t.names.length cp, .slice aq t.kids.length cq⟩ W5 hl5 hr5 (by omega) hver)
      have HPK := hide (fun (W : World) (hW : Below W5.heap.size W5 W) => specEventPack_any ty (x : Int) t (· ∈ F) ⟨.int .i64 t.sort, .int .i64 t.num, .string t.text, .slice ap t.names.length cp, .slice aq t.kids.length cq⟩ W (fun y hy => Nat.lt_of_lt_of_le (hl5 y hy) hW.size) (Rep.carry (fun y hy => hW.block y (hl5 y hy)) (fun _ h => h) _ _ hr5) (by omega) hver)
      clear hr5 hl5
      cases hok : evOkB ty (x : Int) t with
      | false =>
        have HNO : Hid (∀ ty ver t, ¬ UpE b ty ver t) := fun ty0 ver0 t0 hu => by
          obtain ⟨rfl, rfl, rfl, -, -⟩ := unhide HRD ty0 ver0 t0 hu
          rw [hu.1] at hok; cases hok
        rw [hok] at HOK
        clear hok HPK
        go_wp2_with fail
        refine (unhide HOK).mono ?_
        rintro e w6 ⟨rfl, hb6⟩
        have hu6 := (unhide HU5).on hb6
        have r0 := hu6.box.cell (i := 0) (by omega); have r1 := hu6.box.cell (i := 1) (by omega); have r2 := hu6.box.cell (i := 2) (by omega); have r3 := hu6.box.cell (i := 3) (by omega); have r4 := hu6.box.cell (i := 4) (by omega); have r5 := hu6.box.cell (i := 5) (by omega); have r6 := hu6.box.cell (i := 6) (by omega); have rf := hu6.box.frozen
        simp only [row7] at r0 r1 r2 r3 r4 r5 r6
        have HU6 := hide hu6
        clear hu6 hb6 HOK p0 p1 p2 p3 p4 p5 p6 pf k1 k2 q0 q1 q2 q3 q4 q5 q6 HU5
        go_wp2_with fail
        refine bodyPost_ret (v := .tuple #[.agg #[.string ⟨#[]⟩, .int .i64 0, .int .i64 0, .int .i64 0, .string ⟨#[]⟩, .slice none 0 0, .slice none 0 0], .bool false]) (by simp [results, Tryz.results11, go_sem, r0, r1, r2, r3, r4, r5, r6]) rfl ?_
        exact (unhide HU6).no HNO.out _ _ _ _ _ _ _
      | true =>
        have hpk : packB ty (x : Int) t = eventB ty (x : Int) t := by rw [packB, if_pos hok]
        rw [hpk] at HPK
        rw [hok] at HOK
        have HEV := hide (show eventB ty (x : Int) t = b → UpE b ty (x : Int) t from fun h => ⟨hok, h⟩)
        clear hpk hok
        have HNO : Hid (eventB ty (x : Int) t ≠ b → ∀ ty ver t, ¬ UpE b ty ver t) := fun hne ty0 ver0 t0 hu => by
          obtain ⟨rfl, rfl, rfl, -, -⟩ := unhide HRD ty0 ver0 t0 hu
          exact hne hu.2
        generalize eventB ty (x : Int) t = L at *
        go_wp2_with fail
        refine (unhide HOK).mono ?_
        rintro e w6 ⟨rfl, hb6⟩
        have hu6 := (unhide HU5).on hb6
        have t0 := hu6.ev.cell (i := 0) (by omega); have t1 := hu6.ev.cell (i := 1) (by omega); have t2 := hu6.ev.cell (i := 2) (by omega); have t3 := hu6.ev.cell (i := 3) (by omega); have t4 := hu6.ev.cell (i := 4) (by omega); have t5 := hu6.ev.cell (i := 5) (by omega); have t6 := hu6.ev.cell (i := 6) (by omega)
        simp only [row7] at t0 t1 t2 t3 t4 t5 t6
        have HPC := hide (unhide HPK w6 hb6)
        have HO6 := hide (Own.carry t _ F (fun y hy => hb6.block y (by rw [unhide HSZ5]; exact (unhide HFY y hy).2)) (unhide HO5))
        have HU6 := hide hu6
        have hs6 := hb6.size
        have HL6 := hide (fun y (hy : y ∈ F) => Nat.lt_of_lt_of_le (show y < W5.heap.size by rw [unhide HSZ5]; exact (unhide HFY y hy).2) hs6)
        clear hu6 hb6 HOK HPK p0 p1 p2 p3 p4 p5 p6 pf k1 k2 q0 q1 q2 q3 q4 q5 q6 HU5 HO5
        go_wp2_with fail
        refine (unhide HPC).mono ?_
        rintro e w7 ⟨aL, nL, cL, rfl, hnL, hrL, hb7⟩
        have HSM := hide (l4Same_any (.slice aL nL cL) (.slice av b.length cv) L b w7 hrL.at ((unhide HU6).on hb7).sr.row.at)
        have hu7 := (unhide HU6).on hb7
        have HO7 := hide (Own.carry t _ F (fun y hy => hb7.block y (unhide HL6 y hy)) (unhide HO6))
        have r0 := hu7.box.cell (i := 0) (by omega); have r1 := hu7.box.cell (i := 1) (by omega); have r2 := hu7.box.cell (i := 2) (by omega); have r3 := hu7.box.cell (i := 3) (by omega); have r4 := hu7.box.cell (i := 4) (by omega); have r5 := hu7.box.cell (i := 5) (by omega); have r6 := hu7.box.cell (i := 6) (by omega); have rf := hu7.box.frozen
        have q0 := hu7.ev.cell (i := 0) (by omega); have q1 := hu7.ev.cell (i := 1) (by omega); have q2 := hu7.ev.cell (i := 2) (by omega); have q3 := hu7.ev.cell (i := 3) (by omega); have q4 := hu7.ev.cell (i := 4) (by omega); have q5 := hu7.ev.cell (i := 5) (by omega); have q6 := hu7.ev.cell (i := 6) (by omega)
        simp only [row7] at r0 r1 r2 r3 r4 r5 r6 q0 q1 q2 q3 q4 q5 q6
        have HU7 := hide hu7
        have HL7 := hide (fun y (hy : y ∈ F) => (⟨(unhide HFY y hy).1, Nat.lt_of_lt_of_le (unhide HL6 y hy) hb7.size⟩ : w1.heap.size < y ∧ y < w7.heap.size))
        clear hu7 hb7 hrL hnL HU6 HO6 HL6 HPC t0 t1 t2 t3 t4 t5 t6
        by_cases hLb : L = b
        · have hdL : decide (L = b) = true := decide_eq_true hLb
          rw [hdL] at HSM
          have HUE := hide (unhide HEV hLb)
          clear hLb hdL HNO HEV
          go_wp2_with fail
          refine (unhide HSM).mono ?_
          rintro e w8 ⟨rfl, rfl⟩
          go_wp2_with fail
          refine bodyPost_ret (v := .tuple #[.agg #[.string ty, .int .i64 (x : Int), .int .i64 t.sort, .int .i64 t.num, .string t.text, .slice ap t.names.length cp, .slice aq t.kids.length cq], .bool true]) (by simp [results, Tryz.results11, go_sem, r0, r1, r2, r3, r4, r5, r6]) rfl ?_
          exact (unhide HU7).yes (unhide HO7) (unhide HND) (unhide HL7) (unhide HUE) _ _ _ _ _ _ _
        · have hdL : decide (L = b) = false := decide_eq_false hLb
          rw [hdL] at HSM
          have HN := hide (HNO.out hLb)
          clear hLb hdL HNO HEV
          go_wp2_with fail
          refine (unhide HSM).mono ?_
          rintro e w8 ⟨rfl, rfl⟩
          go_wp2_with fail
          refine bodyPost_ret (v := .tuple #[.agg #[.string ⟨#[]⟩, .int .i64 0, .int .i64 0, .int .i64 0, .string ⟨#[]⟩, .slice none 0 0, .slice none 0 0], .bool false]) (by simp [results, Tryz.results11, go_sem, r0, r1, r2, r3, r4, r5, r6]) rfl ?_
          exact (unhide HU7).no (unhide HN) _ _ _ _ _ _ _
    · have HNO : Hid (∀ ty ver t, ¬ UpE b ty ver t) := fun ty0 ver0 t0 hu => by
        obtain ⟨-, -, -, h1, h2⟩ := unhide HRD ty0 ver0 t0 hu
        exact hgo ⟨h1, h2⟩
      cases bad3 with
      | true =>
        clear hgo
        go_wp2_with fail
        refine bodyPost_ret (v := .tuple #[.agg #[.string ⟨#[]⟩, .int .i64 0, .int .i64 0, .int .i64 0, .string ⟨#[]⟩, .slice none 0 0, .slice none 0 0], .bool false]) (by simp [results, Tryz.results11, go_sem, p0, p1, p2, p3, p4, p5, p6]) rfl ?_
        exact (unhide HU5).no HNO.out _ _ _ _ _ _ _
      | false =>
        have hne : a3 ≠ b.length := fun h => hgo ⟨rfl, h⟩
        have hcnt : ((a3 : Int) != (b.length : Int)) = true := by simp; omega
        have hcnt2 : ((a3 : Int) == (b.length : Int)) = false := by simp; omega
        clear hgo
        go_wp2_with fail
        refine bodyPost_ret (v := .tuple #[.agg #[.string ⟨#[]⟩, .int .i64 0, .int .i64 0, .int .i64 0, .string ⟨#[]⟩, .slice none 0 0, .slice none 0 0], .bool false]) (by simp [results, Tryz.results11, go_sem, p0, p1, p2, p3, p4, p5, p6]) rfl ?_
        exact (unhide HU5).no HNO.out _ _ _ _ _ _ _
  · have hd9 : decide ((9000 : Int) < (b.length : Int)) = true := by simp; omega
    have hX := row7_alloc w (.string ⟨#[]⟩) (.int .i64 0) (.int .i64 0) (.int .i64 0) (.string ⟨#[]⟩) (.slice none 0 0) (.slice none 0 0) 41
    have hbX : Below w.heap.size w (w.alloc ev0) := (Below.refl _ _).alloc (Nat.le_refl _) _
    have hno : ∀ ty ver t, ¬ UpE b ty ver t := fun ty ver t hu => by
      have hf := evOk_facts hu.1
      have := eventB_len (ty := ty) (ver := ver) (t := t) (d := 1) hf.2.2.1 hf.2.2.2.2.2.2
      rw [hu.2] at this
      omega
    have p0 := hX.cell (i := 0) (by omega); have p1 := hX.cell (i := 1) (by omega); have p2 := hX.cell (i := 2) (by omega); have p3 := hX.cell (i := 3) (by omega); have p4 := hX.cell (i := 4) (by omega); have p5 := hX.cell (i := 5) (by omega); have p6 := hX.cell (i := 6) (by omega); have pf := hX.frozen
    simp only [row7] at p0 p1 p2 p3 p4 p5 p6
    have HBX := hide hbX; have HNO := hide hno
    clear hX hbX hno hr
    go_enter Tryz.func11, Tryz.ntmps11
    go_wp2_with fail
    refine bodyPost_ret (v := .tuple #[.agg #[.string ⟨#[]⟩, .int .i64 0, .int .i64 0, .int .i64 0, .string ⟨#[]⟩, .slice none 0 0, .slice none 0 0], .bool false]) (by simp [results, Tryz.results11, go_sem, p0, p1, p2, p3, p4, p5, p6]) rfl ?_
    refine ⟨?_, Or.inr ⟨rfl, unhide HNO⟩⟩
    repeat refine Below.setCell ?_ (by simp <;> omega) _
    exact unhide HBX
end Go.Proofs.YtiflfcjocngiiaaGreatDoor
