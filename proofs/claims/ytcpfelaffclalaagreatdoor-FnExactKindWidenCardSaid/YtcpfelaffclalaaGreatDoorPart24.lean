/- The walk of the law on KindWiden, the program's and the specification's KindWiden taken by their contracts (hypotheses): whatever two schemas and whatever tree come in, it answers true, and turns nothing that was there. -/
import Derived.Test.YtcpfelaffclalaaGreatDoorPart22
import Derived.Test.YtcpfelaffclalaaGreatDoorPart23
import Derived.Test.YtcpfelaffclalaaGreatDoorPart18
import Derived.Handy
namespace Go.Proofs.YtcpfelaffclalaaGreatDoor
open Go Go.RowKit

/-- What the law's world holds: the boxes of its three arguments. -/
structure Ar3 (w W : World) (c d : C3) (x : C5) : Prop where
  below : Below w.heap.size w W
  size : w.heap.size + 3 ≤ W.heap.size
  bA : W.rowIs w.heap.size 25 3 (row3 c.c0 c.c1 c.c2)
  bB : W.rowIs (w.heap.size + 1) 25 3 (row3 d.c0 d.c1 d.c2)
  bT : W.rowIs (w.heap.size + 2) 35 5 (row5 x.c0 x.c1 x.c2 x.c3 x.c4)
theorem Ar3.on {w W W' : World} {c d : C3} {x : C5} (h : Ar3 w W c d x) (hb : Below W.heap.size W W') : Ar3 w W' c d x := by
  have := h.size
  exact ⟨h.below.trans (hb.mono h.below.size), Nat.le_trans h.size hb.size, h.bA.of_block (hb.block _ (by omega)), h.bB.of_block (hb.block _ (by omega)), h.bT.of_block (hb.block _ (by omega))⟩
theorem Ar3.start (w : World) (c0 c1 c2 d0 d1 d2 x0 x1 x2 x3 x4 : Value) : Ar3 w (((w.alloc (.cells #[c0, c1, c2] 25)).alloc (.cells #[d0, d1, d2] 25)).alloc (.cells #[x0, x1, x2, x3, x4] 35)) ⟨c0, c1, c2⟩ ⟨d0, d1, d2⟩ ⟨x0, x1, x2, x3, x4⟩ := by
  have h2 := row3_alloc (w.alloc (.cells #[c0, c1, c2] 25)) d0 d1 d2 25
  have h3 := row5_alloc ((w.alloc (.cells #[c0, c1, c2] 25)).alloc (.cells #[d0, d1, d2] 25)) x0 x1 x2 x3 x4 35
  simp only [World.size_alloc] at h2 h3
  exact ⟨(((Below.refl _ _).alloc (Nat.le_refl _) _).alloc (by simp) _).alloc (by simp; omega) _, by simp, ((row3_alloc w c0 c1 c2 _).alloc _).alloc _, h2.alloc _, h3⟩
theorem kd_sm {t : Kd} (h : wKd t ≤ 1048576) : 1 + t.names.length + kcK t.kids ≤ 1048578 := by
  have := kcT_le t; rw [kcT_eq] at this; omega
theorem tr_sm {t : Tr} (h : wT t ≤ 1048576) : 1 + t.names.length + cK t.kids ≤ 3145732 := by
  have := cT_w t; rw [cT_eq] at this; omega
theorem newF_new {W w' : World} : ∀ b, NewF W w' b → New W w' b := fun _ h => h.1
set_option maxRecDepth 100000 in
set_option maxHeartbeats 6400000 in
theorem lawKindWiden_of (k m : Kd) (t : Tr) (P : Nat → Prop) (c d : C3) (x : C5) (w : World) (hP : ∀ b, P b → b < w.heap.size) (hrep : KRep P w k c) (hrep2 : KRep P w m d) (hrep3 : Rep P w t x)
    (himpl : ∀ (c d : C3) (x : C5) (W : World), Below w.heap.size w W → KRep (fun b => b < W.heap.size) W k c → KRep (fun b => b < W.heap.size) W m d → Rep (fun b => b < W.heap.size) W t x → wKd k ≤ 1048576 → wKd m ≤ 1048576 →
      Calls Tryz.prog 14 #[.agg #[c.c0, c.c1, c.c2], .agg #[d.c0, d.c1, d.c2], .agg #[x.c0, x.c1, x.c2, x.c3, x.c4]] W (WdE (widA k m t) W))
    (hspec : ∀ (c d : C3) (x : C5) (W : World), KRep (fun b => b < W.heap.size) W k c → KRep (fun b => b < W.heap.size) W m d → Rep (fun b => b < W.heap.size) W t x →
      Calls Tryz.prog 12 #[.agg #[c.c0, c.c1, c.c2], .agg #[d.c0, d.c1, d.c2], .agg #[x.c0, x.c1, x.c2, x.c3, x.c4]] W (WdE (widA k m t) W)) :
    Calls Tryz.prog 4 #[.agg #[c.c0, c.c1, c.c2], .agg #[d.c0, d.c1, d.c2], .agg #[x.c0, x.c1, x.c2, x.c3, x.c4]] w fun e w' => e = .returned (.bool true) ∧ Below w.heap.size w w' := by
  have hka : ∀ W, Below w.heap.size w W → (∀ b, P b → b < W.heap.size) ∧ KRep P W k c ∧ KRep P W m d ∧ Rep P W t x := fun W hW => ⟨fun b hb => Nat.lt_of_lt_of_le (hP b hb) hW.size, KRep.carry (fun b hb => hW.block b (hP b hb)) (fun _ h => h) _ _ hrep, KRep.carry (fun b hb => hW.block b (hP b hb)) (fun _ h => h) _ _ hrep2, Rep.carry (fun b hb => hW.block b (hP b hb)) (fun _ h => h) _ _ hrep3⟩
  have HZ := hide (fun W (hW : Below w.heap.size w W) (l : Int) (h0 : 0 ≤ l) (h1 : l ≤ 1048576) => szKind_any k P c l W (hka W hW).1 (hka W hW).2.1 h0 h1)
  have HZ2 := hide (fun W (hW : Below w.heap.size w W) (l : Int) (h0 : 0 ≤ l) (h1 : l ≤ 1048576) => szKind_any m P d l W (hka W hW).1 (hka W hW).2.2.1 h0 h1)
  have HZ3 := hide (fun W (hW : Below w.heap.size w W) (l : Int) (h0 : 0 ≤ l) (h1 : l ≤ 1048576) => szTree_any t P x l W (hka W hW).1 (hka W hW).2.2.2 h0 h1)
  have HTF := hide (fun W (hW : Below w.heap.size w W) (h : wKd k ≤ 1048576) => toKind_free k P c W (hka W hW).1 (hka W hW).2.1 h)
  have HTF2 := hide (fun W (hW : Below w.heap.size w W) (h : wKd m ≤ 1048576) => toKind_free m P d W (hka W hW).1 (hka W hW).2.2.1 h)
  have HTF3 := hide (fun W (hW : Below w.heap.size w W) (h : wT t ≤ 1048576) => toTree_free t P x W (hka W hW).1 (hka W hW).2.2.2 h)
  have HIMPL := hide himpl; have HSPEC := hide hspec
  obtain ⟨c0, c1, c2⟩ := c
  obtain ⟨d0, d1, d2⟩ := d
  obtain ⟨x0, x1, x2, x3, x4⟩ := x
  obtain ⟨e0, -, ⟨a1, cap1, e1, -, -⟩, a2, cap2, e2, -, -⟩ := hrep.open
  obtain ⟨g0, -, ⟨b1, bap1, g1, -, -⟩, b2, bap2, g2, -, -⟩ := hrep2.open
  obtain ⟨f0, f1, f2, -, -, -, ⟨t1, tap1, f3, -, -⟩, t2, tap2, f4, -, -⟩ := hrep3.open
  simp only at e0 e1 e2 g0 g1 g2 f0 f1 f2 f3 f4
  subst e0 e1 e2 g0 g1 g2 f0 f1 f2 f3 f4
  have HAR := hide (Ar3.start w (.int .i64 k.sort) (.slice a1 k.names.length cap1) (.slice a2 k.kids.length cap2) (.int .i64 m.sort) (.slice b1 m.names.length bap1) (.slice b2 m.kids.length bap2) (.int .i64 t.sort) (.int .i64 t.num) (.string t.text) (.slice t1 t.names.length tap1) (.slice t2 t.kids.length tap2))
  have HMKT := hide (wAn_marks k m t)
  clear hka hrep hrep2 hrep3 hP himpl hspec
  go_enter Tryz.func4, Tryz.ntmps4
  go_wp2_with fail
  refine (unhide HZ _ (unhide HAR).below _ (by omega) (by omega)).mono ?_
  rintro e w1 ⟨r, rfl, hr, hb1⟩
  have har1 := (unhide HAR).on hb1
  clear hb1 HAR HZ
  rcases hr with rfl | ⟨hr0, hr1⟩
  · have HB := hide har1.below; clear har1
    go_wp2_with fail
    go_ret
    exact ⟨rfl, unhide HB⟩
  have hwt : wKd k ≤ 1048576 := by omega
  have hr2 : r ≤ 1048576 := by omega
  have j0 := har1.bB.cell (i := 0) (by omega); have j1 := har1.bB.cell (i := 1) (by omega); have j2 := har1.bB.cell (i := 2) (by omega)
  simp only [row3] at j0 j1 j2
  have HWT := hide hwt; have HAR1 := hide har1
  clear hwt har1 hr1
  go_wp2_with fail
  refine (unhide HZ2 _ (unhide HAR1).below _ hr0 hr2).mono ?_
  rintro e w2 ⟨r2, rfl, hrr, hb2⟩
  have har2 := (unhide HAR1).on hb2
  clear hb2 HAR1 j0 j1 j2 HZ2
  rcases hrr with rfl | ⟨hq0, hq1⟩
  · have HB := hide har2.below; clear har2
    go_wp2_with fail
    go_ret
    exact ⟨rfl, unhide HB⟩
  have hwt2 : wKd m ≤ 1048576 := by omega
  have hq2 : r2 ≤ 1048576 := by omega
  have j0 := har2.bT.cell (i := 0) (by omega); have j1 := har2.bT.cell (i := 1) (by omega); have j2 := har2.bT.cell (i := 2) (by omega); have j3 := har2.bT.cell (i := 3) (by omega); have j4 := har2.bT.cell (i := 4) (by omega)
  simp only [row5] at j0 j1 j2 j3 j4
  have HWT2 := hide hwt2; have HAR2 := hide har2
  clear hwt2 har2 hq1 hr0 hr2
  go_wp2_with fail
  refine (unhide HZ3 _ (unhide HAR2).below _ hq0 hq2).mono ?_
  rintro e w3 ⟨r3, rfl, hr3, hb3⟩
  have har3 := (unhide HAR2).on hb3
  clear hb3 HAR2 j0 j1 j2 j3 j4 HZ3
  rcases hr3 with rfl | ⟨hu0, hu1⟩
  · have HB := hide har3.below; clear har3
    go_wp2_with fail
    go_ret
    exact ⟨rfl, unhide HB⟩
  have hwt3 : wT t ≤ 1048576 := by omega
  have HWT3 := hide hwt3; have HAR3 := hide har3
  clear hwt3 har3 hu1 hq0 hq2
  have HCK := hide (fun W (hW : Below w.heap.size w W) => unhide HTF W hW (unhide HWT))
  have HCM := hide (fun W (hW : Below w.heap.size w W) => unhide HTF2 W hW (unhide HWT2))
  have HCT := hide (fun W (hW : Below w.heap.size w W) => unhide HTF3 W hW (unhide HWT3))
  clear HTF HTF2 HTF3
  have HCK1 := hide (fun W (hW : Below w.heap.size w W) => (unhide HCK W hW).mono fun e w' ⟨c', h1, h2, h3⟩ => (⟨c', h1, KRep.carry (fun _ _ => rfl) newF_new _ _ h2, h3⟩ : ∃ c' : C3, e = Ending.returned (.agg #[c'.c0, c'.c1, c'.c2]) ∧ KRep (New W w') w' k c' ∧ Below W.heap.size W w'))
  have HCM1 := hide (fun W (hW : Below w.heap.size w W) => (unhide HCM W hW).mono fun e w' ⟨c', h1, h2, h3⟩ => (⟨c', h1, KRep.carry (fun _ _ => rfl) newF_new _ _ h2, h3⟩ : ∃ c' : C3, e = Ending.returned (.agg #[c'.c0, c'.c1, c'.c2]) ∧ KRep (New W w') w' m c' ∧ Below W.heap.size W w'))
  have HCT1 := hide (fun W (hW : Below w.heap.size w W) => (unhide HCT W hW).mono fun e w' ⟨c', h1, h2, h3⟩ => (⟨c', h1, Rep.carry (fun _ _ => rfl) newF_new _ _ h2, h3⟩ : ∃ c' : C5, e = Ending.returned (.agg #[c'.c0, c'.c1, c'.c2, c'.c3, c'.c4]) ∧ Rep (New W w') w' t c' ∧ Below W.heap.size W w'))
  go_upto_region 11 with fail
  refine wp_swap (c' := Code.region 11 wd11Ops true) (by kernel_rfl) ?_
  refine wp_region_noPanic ?_
  have hto : ∀ W, Below w3.drew.heap.size w3.drew W → Below w.heap.size w W := fun W hW => (unhide HAR3).below.drew.trans (hW.mono (unhide HAR3).below.drew.size)
  refine wd11 k m t (wAn (widA k m t)) (widA k m t).isSome w3 ⟨.int .i64 k.sort, .slice a1 k.names.length cap1, .slice a2 k.kids.length cap2⟩ ⟨.int .i64 m.sort, .slice b1 m.names.length bap1, .slice b2 m.kids.length bap2⟩ ⟨.int .i64 t.sort, .int .i64 t.num, .string t.text, .slice t1 t.names.length tap1, .slice t2 t.kids.length tap2⟩ w.heap.size (w.heap.size + 1) (w.heap.size + 2) (unhide HAR3).bA.drew (unhide HAR3).bB.drew (unhide HAR3).bT.drew (fun W hW => unhide HCK1 W (hto W hW)) (fun W hW => unhide HCM1 W (hto W hW)) (fun W hW => unhide HCT1 W (hto W hW)) (fun a b y W hW ha hb hy => (unhide HSPEC a b y W ha hb hy).mono fun e w' h => h.rep) _ (fun _ _ _ _ _ h => h) (by kernel_rfl) ?_
  intro v dW g8 W4 hoW hrW hg8 hb4
  refine NoPanic.normal ?_
  simp only [frL_eq, frG, List.lookup, Nat.reduceBEq, Nat.reduceAdd, Option.getD_some, Option.getD_none]
  clear hto
  have hdr : w3.drew.heap.size = w3.heap.size := rfl
  rw [hdr] at hoW hg8 hb4
  have hb34 : Below w3.heap.size w3 W4 := ((Below.refl _ w3).drew).trans hb4
  have har4 := (unhide HAR3).on hb34
  have hs34 := hb34.size
  have hs3 := (unhide HAR3).size
  have hgl := hrW.lt
  generalize hO : widA k m t = o at *
  have HO := hide hO
  clear hO hdr hb4 hb34 HSPEC
  obtain ⟨PW, hPi, hPe⟩ : ∃ PW : Nat → Prop, (∀ b, (w3.heap.size ≤ b ∧ b < W4.heap.size ∧ b ≠ g8) → PW b) ∧ ∀ b, PW b → (w3.heap.size ≤ b ∧ b < W4.heap.size ∧ b ≠ g8) := ⟨_, fun _ h => h, fun _ h => h⟩
  have hoW := Rep.carry (Q := PW) (w' := W4) (fun _ _ => rfl) hPi _ _ hoW
  have j0 := har4.bA.cell (i := 0) (by omega); have j1 := har4.bA.cell (i := 1) (by omega); have j2 := har4.bA.cell (i := 2) (by omega)
  simp only [row3] at j0 j1 j2
  obtain ⟨e0, e1, e2, e3, e4⟩ := dW
  have HOW := hide hoW; have HRW := hide hrW; have HAR4 := hide har4; have HPE := hide hPe
  clear hoW hrW har4 hPi hPe HAR3
  go_wp2_with fail
  refine (unhide HCK _ (unhide HAR4).below).mono ?_
  rintro e w5 ⟨⟨x0, x1, x2⟩, rfl, hrx, hb5⟩
  clear j0 j1 j2
  have hs5 := hb5.size
  obtain ⟨q0, -, ⟨a3, cap3, q1, -, -⟩, a4, cap4, q2, -, -⟩ := hrx.open
  simp only at q0 q1 q2
  subst q0 q1 q2
  have har5 := fun o => ((unhide HAR4).on hb5).on ((Below.refl w5.heap.size w5).alloc (Nat.le_refl _) o)
  have j0 := fun o => (har5 o).bB.cell (i := 0) (by omega); have j1 := fun o => (har5 o).bB.cell (i := 1) (by omega); have j2 := fun o => (har5 o).bB.cell (i := 2) (by omega)
  simp only [row3] at j0 j1 j2
  have HRX := hide hrx; have HB5 := hide hb5; have HAR5 := hide (har5 (.cells #[.int .i64 k.sort, .slice a3 k.names.length cap3, .slice a4 k.kids.length cap4] 30))
  clear hrx hb5 har5
  go_wp2_with fail
  refine (unhide HCM _ (unhide HAR5).below).mono ?_
  rintro e w6 ⟨⟨x0, x1, x2⟩, rfl, hry, hb6⟩
  clear j0 j1 j2
  have hs6 : w5.heap.size + 1 ≤ w6.heap.size := by have := hb6.size; simpa using this
  obtain ⟨q0, -, ⟨b3, bap3, q1, -, -⟩, b4, bap4, q2, -, -⟩ := hry.open
  simp only at q0 q1 q2
  subst q0 q1 q2
  have har6 := fun o => ((unhide HAR5).on hb6).on ((Below.refl w6.heap.size w6).alloc (Nat.le_refl _) o)
  have j0 := fun o => (har6 o).bT.cell (i := 0) (by omega); have j1 := fun o => (har6 o).bT.cell (i := 1) (by omega); have j2 := fun o => (har6 o).bT.cell (i := 2) (by omega); have j3 := fun o => (har6 o).bT.cell (i := 3) (by omega); have j4 := fun o => (har6 o).bT.cell (i := 4) (by omega)
  simp only [row5] at j0 j1 j2 j3 j4
  have pX := (row3_alloc w5 (.int .i64 k.sort) (.slice a3 k.names.length cap3) (.slice a4 k.kids.length cap4) 30).of_block (hb6.block w5.heap.size (by simp))
  have hb56 : Below w5.heap.size w5 w6 := ((Below.refl w5.heap.size w5).alloc (Nat.le_refl _) _).trans (hb6.mono (by simp))
  have HRY := hide (show KRep (fun b => w5.heap.size < b ∧ b < w6.heap.size ∧ FreeB w6 b) w6 m ⟨.int .i64 m.sort, .slice b3 m.names.length bap3, .slice b4 m.kids.length bap4⟩ from KRep.carry (fun _ _ => rfl) (fun b hb => ⟨by have := hb.1.1; rw [World.size_alloc] at this; omega, hb.1.2, hb.2⟩) _ _ hry)
  have HB56 := hide hb56; have HAR6 := hide (har6 (.cells #[.int .i64 m.sort, .slice b3 m.names.length bap3, .slice b4 m.kids.length bap4] 30)); have PX := hide pX
  clear hry hb6 hb56 har6 pX HAR5
  go_wp2_with fail
  refine (unhide HCT _ (unhide HAR6).below).mono ?_
  rintro e w7 ⟨⟨x0, x1, x2, x3, x4⟩, rfl, hrz, hb7⟩
  clear j0 j1 j2 j3 j4
  have hs7 : w6.heap.size + 1 ≤ w7.heap.size := by have := hb7.size; simpa using this
  obtain ⟨q0, q1, q2, -, -, -, ⟨t3, tap3, q3, -, -⟩, t4, tap4, q4, -, -⟩ := hrz.open
  simp only at q0 q1 q2 q3 q4
  subst q0 q1 q2 q3 q4
  have har7 := ((unhide HAR6).on hb7).on ((Below.refl w7.heap.size w7).alloc (Nat.le_refl _) (.cells #[.int .i64 t.sort, .int .i64 t.num, .string t.text, .slice t3 t.names.length tap3, .slice t4 t.kids.length tap4] 39))
  have hb67 : Below w6.heap.size w6 w7 := ((Below.refl w6.heap.size w6).alloc (Nat.le_refl _) _).trans (hb7.mono (by simp))
  have hb57 := (unhide HB56).trans (hb67.mono (unhide HB56).size)
  have hal7 := (Below.refl w7.heap.size w7).alloc (Nat.le_refl _) (.cells #[.int .i64 t.sort, .int .i64 t.num, .string t.text, .slice t3 t.names.length tap3, .slice t4 t.kids.length tap4] 39)
  have hrz' : Rep (fun b => w6.heap.size < b ∧ b < w7.heap.size ∧ FreeB w7 b) w7 t ⟨.int .i64 t.sort, .int .i64 t.num, .string t.text, .slice t3 t.names.length tap3, .slice t4 t.kids.length tap4⟩ := Rep.carry (fun _ _ => rfl) (fun b hb => ⟨by have := hb.1.1; rw [World.size_alloc] at this; omega, hb.1.2, hb.2⟩) _ _ hrz
  have pX := ((unhide PX).of_block (hb67.block w5.heap.size (by omega))).alloc (.cells #[.int .i64 t.sort, .int .i64 t.num, .string t.text, .slice t3 t.names.length tap3, .slice t4 t.kids.length tap4] 39)
  have pY := ((row3_alloc w6 (.int .i64 m.sort) (.slice b3 m.names.length bap3) (.slice b4 m.kids.length bap4) 30).of_block (hb7.block w6.heap.size (by simp))).alloc (.cells #[.int .i64 t.sort, .int .i64 t.num, .string t.text, .slice t3 t.names.length tap3, .slice t4 t.kids.length tap4] 39)
  have pZ := row5_alloc w7 (.int .i64 t.sort) (.int .i64 t.num) (.string t.text) (.slice t3 t.names.length tap3) (.slice t4 t.kids.length tap4) 39
  have HIM := hide (unhide HIMPL _ _ _ _ har7.below
    (KRep.carry (w' := w7.alloc (.cells #[.int .i64 t.sort, .int .i64 t.num, .string t.text, .slice t3 t.names.length tap3, .slice t4 t.kids.length tap4] 39)) (fun b hb => (Below.heap_alloc w7 _ b (by have := hb.1.2; omega)).trans (hb57.block b hb.1.2)) (fun b hb => by have := hb.1.2; rw [World.size_alloc]; omega) _ _ (unhide HRX))
    (KRep.carry (w' := w7.alloc (.cells #[.int .i64 t.sort, .int .i64 t.num, .string t.text, .slice t3 t.names.length tap3, .slice t4 t.kids.length tap4] 39)) (fun b hb => (Below.heap_alloc w7 _ b (by have := hb.2.1; omega)).trans (hb67.block b hb.2.1)) (fun b hb => by have := hb.2.1; rw [World.size_alloc]; omega) _ _ (unhide HRY))
    (Rep.carry (w' := w7.alloc (.cells #[.int .i64 t.sort, .int .i64 t.num, .string t.text, .slice t3 t.names.length tap3, .slice t4 t.kids.length tap4] 39)) (fun b hb => Below.heap_alloc w7 _ b hb.2.1) (fun b hb => by have := hb.2.1; rw [World.size_alloc]; omega) _ _ hrz') (unhide HWT) (unhide HWT2))
  have j0 := pX.cell (i := 0) (by omega); have j1 := pX.cell (i := 1) (by omega); have j2 := pX.cell (i := 2) (by omega)
  simp only [row3] at j0 j1 j2
  have i0 := pY.cell (i := 0) (by omega); have i1 := pY.cell (i := 1) (by omega); have i2 := pY.cell (i := 2) (by omega)
  simp only [row3] at i0 i1 i2
  have HRZ := hide hrz'; have HB67 := hide hb67; have HB57 := hide hb57; have HAL7 := hide hal7; have HAR7 := hide har7; have PX7 := hide pX; have PY7 := hide pY; have PZ7 := hide pZ
  clear hrz hrz' hb7 hb67 hb57 hal7 har7 pX pY pZ PX HAR6
  go_wp2_with fail
  refine (unhide HIM).mono ?_
  rintro e w9 ⟨⟨x0, x1, x2, x3, x4⟩, FG, rfl, hoG, hnd, hlG, hb9⟩
  clear j0 j1 j2 i0 i1 i2
  have hs9 : w7.heap.size + 1 ≤ w9.heap.size := by have := hb9.size; simpa using this
  generalize hT : wAn o = T at *
  have HT := hide hT
  clear hT
  obtain ⟨g3, gap3, g4, gap4, eG⟩ := hoG.forms
  simp only [C5.mk.injEq] at eG
  obtain ⟨rfl, rfl, rfl, rfl, rfl⟩ := eG
  have hb79 := (unhide HAL7).trans (hb9.mono (unhide HAL7).size)
  have hb69 := (unhide HB67).trans (hb79.mono (by omega))
  have hb59 := (unhide HB57).trans (hb79.mono (by omega))
  have hb49 := (unhide HB5).trans (hb59.mono (by omega))
  have har9 := (unhide HAR7).on hb9
  obtain ⟨D, hDi1, hDi2, hDi3, hDe⟩ : ∃ D : Nat → Prop, (∀ b, NewF W4 w5 b → D b) ∧ (∀ b, (w5.heap.size < b ∧ b < w6.heap.size ∧ FreeB w6 b) → D b) ∧ (∀ b, (w6.heap.size < b ∧ b < w7.heap.size ∧ FreeB w7 b) → D b) ∧ ∀ b, D b → W4.heap.size ≤ b ∧ b < w7.heap.size ∧ b ≠ w5.heap.size ∧ b ≠ w6.heap.size ∧ FreeB w7 b :=
    ⟨fun b => W4.heap.size ≤ b ∧ b < w7.heap.size ∧ b ≠ w5.heap.size ∧ b ≠ w6.heap.size ∧ FreeB w7 b,
      fun b hb => ⟨hb.1.1, by have := hb.1.2; omega, by have := hb.1.2; omega, by have := hb.1.2; omega, hb.2.of_block ((unhide HB57).block b hb.1.2)⟩,
      fun b hb => ⟨by omega, by omega, by omega, by omega, hb.2.2.of_block ((unhide HB67).block b hb.2.1)⟩,
      fun b hb => ⟨by omega, by omega, by omega, by omega, hb.2.2⟩, fun _ h => h⟩
  have hst : CWd w (w9.alloc (.cells #[.int .i64 T.sort, .int .i64 T.num, .string T.text, .slice g3 T.names.length gap3, .slice g4 T.kids.length gap4] 39)) ⟨.int .i64 k.sort, .slice a1 k.names.length cap1, .slice a2 k.kids.length cap2⟩ ⟨.int .i64 m.sort, .slice b1 m.names.length bap1, .slice b2 m.kids.length bap2⟩ ⟨.int .i64 t.sort, .int .i64 t.num, .string t.text, .slice t1 t.names.length tap1, .slice t2 t.kids.length tap2⟩ ⟨.int .i64 k.sort, .slice a3 k.names.length cap3, .slice a4 k.kids.length cap4⟩ ⟨.int .i64 m.sort, .slice b3 m.names.length bap3, .slice b4 m.kids.length bap4⟩ ⟨.int .i64 t.sort, .int .i64 t.num, .string t.text, .slice t3 t.names.length tap3, .slice t4 t.kids.length tap4⟩ ⟨e0, e1, e2, e3, e4⟩ ⟨.int .i64 T.sort, .int .i64 T.num, .string T.text, .slice g3 T.names.length gap3, .slice g4 T.kids.length gap4⟩ T T g8 w5.heap.size w6.heap.size w7.heap.size w9.heap.size PW D FG := by
    have hal9 := (Below.refl w9.heap.size w9).alloc (Nat.le_refl _) (.cells #[.int .i64 T.sort, .int .i64 T.num, .string T.text, .slice g3 T.names.length gap3, .slice g4 T.kids.length gap4] 39)
    have har := har9.on hal9
    refine ⟨har.below, har.bA, har.bB, har.bT, ((unhide HRW).of_block (hb49.block _ hgl)).alloc _, ((unhide PX7).of_block (hb9.block _ (unhide PX7).lt)).alloc _, ((unhide PY7).of_block (hb9.block _ (unhide PY7).lt)).alloc _, ((unhide PZ7).of_block (hb9.block _ (unhide PZ7).lt)).alloc _, row5_alloc w9 _ _ _ _ _ _, ?_, ?_, ?_, ?_, hnd, ?_, ?_⟩
    · have := unhide HOW
      exact Rep.carry (fun b hb => (Below.heap_alloc w9 _ b (by have := unhide HPE b hb; omega)).trans (hb49.block b (by have := unhide HPE b hb; omega))) (fun _ h => h) _ _ this
    · exact Own.carry _ _ _ (fun b hb => Below.heap_alloc w9 _ b (hlG b hb).2) hoG
    · intro b hb
      have := unhide HPE b hb
      rw [World.size_alloc]; omega
    · intro b hb
      have := (hlG b hb).2
      rw [World.size_alloc]; omega
    · intro b hb hk
      have hr : W4.heap.size ≤ b ∧ b < w9.heap.size ∧ b ≠ w5.heap.size ∧ b ≠ w6.heap.size ∧ b ≠ w7.heap.size := by
        rcases hb with hb | hb
        · have := hDe b hb
          exact ⟨this.1, by omega, this.2.2.1, this.2.2.2.1, by omega⟩
        · have := hlG b hb
          rw [World.size_alloc] at this
          omega
      rcases hk with h | h | h | h | h | h | h
      · omega
      · omega
      · omega
      · omega
      · omega
      · omega
      · have := unhide HPE b h; omega
    · intro b hb hm
      have := hDe b hb
      have h2 := hlG b hm
      rw [World.size_alloc] at h2
      omega
  have hk9 : ∀ (W : World), Below w9.heap.size w9 W → ∀ b, b < w7.heap.size → W.heap[b]? = w7.heap[b]? := fun W hW b hb => (hW.block b (by omega)).trans (hb79.block b hb)
  have HRX9 := hide (fun (W : World) (hW : Below w9.heap.size w9 W) => KRep.carry (w' := W) (Q := D) (fun b hb => (hk9 W hW b (by have := hb.1.2; omega)).trans ((unhide HB57).block b hb.1.2)) hDi1 _ _ (unhide HRX))
  have HRY9 := hide (fun (W : World) (hW : Below w9.heap.size w9 W) => KRep.carry (w' := W) (Q := D) (fun b hb => (hk9 W hW b (by have := hb.2.1; omega)).trans ((unhide HB67).block b hb.2.1)) hDi2 _ _ (unhide HRY))
  have HRZ9 := hide (fun (W : World) (hW : Below w9.heap.size w9 W) => Rep.carry (w' := W) (Q := D) (fun b hb => hk9 W hW b hb.2.1) hDi3 _ _ (unhide HRZ))
  have HFX9 := hide (fun (W : World) (hW : Below w9.heap.size w9 W) b (hb : D b) => (hDe b hb).2.2.2.2.of_block (hk9 W hW b (hDe b hb).2.1))
  have HD9 := hide (show ∀ b, D b → b < w9.heap.size from fun b hb => by have := (hDe b hb).2.1; omega)
  have HBa := hide ((Below.refl w9.heap.size w9).alloc (Nat.le_refl _) (.cells #[.int .i64 T.sort, .int .i64 T.num, .string T.text, .slice g3 T.names.length gap3, .slice g4 T.kids.length gap4] 39))
  have HST := hide hst
  have j0 := hst.bW.cell (i := 0) (by omega); have j1 := hst.bW.cell (i := 1) (by omega); have j2 := hst.bW.cell (i := 2) (by omega); have j3 := hst.bW.cell (i := 3) (by omega); have j4 := hst.bW.cell (i := 4) (by omega)
  simp only [row5] at j0 j1 j2 j3 j4
  clear hst hoG hnd hlG hb9 hb79 hb69 hb59 hb49 har9 hk9 hDi1 hDi2 hDi3 hDe HRX HRY HRZ HB5 HB56 HB57 HB67 HAL7 HAR7 PX7 PY7 PZ7 HOW HRW HAR4 HPE HIM
  have i0 := (unhide HST).bG.cell (i := 0) (by omega); have i1 := (unhide HST).bG.cell (i := 1) (by omega); have i2 := (unhide HST).bG.cell (i := 2) (by omega); have i3 := (unhide HST).bG.cell (i := 3) (by omega); have i4 := (unhide HST).bG.cell (i := 4) (by omega)
  simp only [row5] at i0 i1 i2 i3 i4
  have hrr : ∀ r : Bool, (r != r) = false := fun r => by cases r <;> rfl
  go_wp2_with fail
  generalize w9.alloc (.cells #[.int .i64 T.sort, .int .i64 T.num, .string T.text, .slice g3 T.names.length gap3, .slice g4 T.kids.length gap4] 39) = wz at HST HBa i0 i1 i2 i3 i4 j0 j1 j2 j3 j4 ⊢
  refine (unhide HST).eq.mono ?_
  rintro e wa ⟨rfl, hba⟩
  have HWA := hide ((unhide HST).on hba)
  have HBWA := hide ((unhide HBa).trans (hba.mono (unhide HBa).size))
  clear hba HST HBa i0 i1 i2 i3 i4 j0 j1 j2 j3 j4
  generalize hr : o.isSome = r
  have HR := hide hr
  clear hr
  have hrr := hrr r
  go_upto_region 18 with fail
  refine wp_swap (c' := Code.region 18 wd18Ops true) (by kernel_rfl) ?_
  refine wp_region_noPanic ?_
  refine wd18 k ⟨.int .i64 k.sort, .slice a1 k.names.length cap1, .slice a2 k.kids.length cap2⟩ ⟨.int .i64 k.sort, .slice a3 k.names.length cap3, .slice a4 k.kids.length cap4⟩ D w.heap.size w5.heap.size wa ((unhide HWA).bA.of_block rfl) ((unhide HWA).bX.of_block rfl) (unhide HRX9 wa.drew (unhide HBWA).drew) (fun b hb => Nat.lt_of_lt_of_le (unhide HD9 b hb) (unhide HBWA).size) (fun W hW => unhide HCK1 W ((unhide HWA).below.drew.trans (hW.mono (unhide HWA).below.drew.size))) (.pointer (some ⟨w.heap.size + 1, 0, none⟩)) (.pointer (some ⟨w.heap.size + 2, 0, none⟩)) (.pointer (some ⟨g8, 0, none⟩)) (.bool r) (.pointer (some ⟨w6.heap.size, 0, none⟩)) (.pointer (some ⟨w7.heap.size, 0, none⟩)) (.pointer (some ⟨w9.heap.size, 0, none⟩)) (.bool r) _ (fun _ _ _ _ _ h => h) (by kernel_rfl) ?_
  intro v18 wb hbb
  refine NoPanic.normal ?_
  simp only [frL_eq, frG, List.lookup, Nat.reduceBEq, Nat.reduceAdd, Option.getD_some, Option.getD_none]
  have hb' : Below wa.heap.size wa wb := (Below.refl _ wa).drew.trans hbb
  have Hwb := hide ((unhide HWA).on hb')
  have HBwb := hide ((unhide HBWA).trans (hb'.mono (unhide HBWA).size))
  clear hbb hb' HWA HBWA
  go_upto_region 20 with fail
  refine wp_swap (c' := Code.region 20 wd20Ops true) (by kernel_rfl) ?_
  refine wp_region_noPanic ?_
  refine wd20 m ⟨.int .i64 m.sort, .slice b1 m.names.length bap1, .slice b2 m.kids.length bap2⟩ ⟨.int .i64 m.sort, .slice b3 m.names.length bap3, .slice b4 m.kids.length bap4⟩ D (w.heap.size + 1) w6.heap.size wb ((unhide Hwb).bB.of_block rfl) ((unhide Hwb).bY.of_block rfl) (unhide HRY9 wb.drew (unhide HBwb).drew) (fun b hb => Nat.lt_of_lt_of_le (unhide HD9 b hb) (unhide HBwb).size) (fun W hW => unhide HCM1 W ((unhide Hwb).below.drew.trans (hW.mono (unhide Hwb).below.drew.size))) (.pointer (some ⟨w.heap.size, 0, none⟩)) (.pointer (some ⟨w.heap.size + 2, 0, none⟩)) (.pointer (some ⟨g8, 0, none⟩)) (.bool r) (.pointer (some ⟨w5.heap.size, 0, none⟩)) (.pointer (some ⟨w7.heap.size, 0, none⟩)) (.pointer (some ⟨w9.heap.size, 0, none⟩)) (.bool r) _ (fun _ _ _ _ _ h => h) (by kernel_rfl) ?_
  intro v20 wc hbb
  refine NoPanic.normal ?_
  simp only [frL_eq, frG, List.lookup, Nat.reduceBEq, Nat.reduceAdd, Option.getD_some, Option.getD_none]
  have hb' : Below wb.heap.size wb wc := (Below.refl _ wb).drew.trans hbb
  have Hwc := hide ((unhide Hwb).on hb')
  have HBwc := hide ((unhide HBwb).trans (hb'.mono (unhide HBwb).size))
  clear hbb hb' Hwb HBwb
  go_upto_region 22 with fail
  refine wp_swap (c' := Code.region 22 wd22Ops true) (by kernel_rfl) ?_
  refine wp_region_noPanic ?_
  refine wd22 t ⟨.int .i64 t.sort, .int .i64 t.num, .string t.text, .slice t1 t.names.length tap1, .slice t2 t.kids.length tap2⟩ ⟨.int .i64 t.sort, .int .i64 t.num, .string t.text, .slice t3 t.names.length tap3, .slice t4 t.kids.length tap4⟩ D (w.heap.size + 2) w7.heap.size wc ((unhide Hwc).bT.of_block rfl) ((unhide Hwc).bZ.of_block rfl) (unhide HRZ9 wc.drew (unhide HBwc).drew) (fun b hb => Nat.lt_of_lt_of_le (unhide HD9 b hb) (unhide HBwc).size) (fun W hW => unhide HCT1 W ((unhide Hwc).below.drew.trans (hW.mono (unhide Hwc).below.drew.size))) (.pointer (some ⟨w.heap.size, 0, none⟩)) (.pointer (some ⟨w.heap.size + 1, 0, none⟩)) (.pointer (some ⟨g8, 0, none⟩)) (.bool r) (.pointer (some ⟨w5.heap.size, 0, none⟩)) (.pointer (some ⟨w6.heap.size, 0, none⟩)) (.pointer (some ⟨w9.heap.size, 0, none⟩)) (.bool r) _ (fun _ _ _ _ _ h => h) (by kernel_rfl) ?_
  intro v22 wd hbb
  refine NoPanic.normal ?_
  simp only [frL_eq, frG, List.lookup, Nat.reduceBEq, Nat.reduceAdd, Option.getD_some, Option.getD_none]
  have hb' : Below wc.heap.size wc wd := (Below.refl _ wc).drew.trans hbb
  have Hwd := hide ((unhide Hwc).on hb')
  have HBwd := hide ((unhide HBwc).trans (hb'.mono (unhide HBwc).size))
  clear hbb hb' Hwc HBwc
  have hFR := fun b (hb : D b) => unhide HFX9 wd (unhide HBwd) b hb
  have hsx : KShp D wd k ⟨.int .i64 k.sort, .slice a3 k.names.length cap3, .slice a4 k.kids.length cap4⟩ := KRep.shp (fun b hb => ⟨hb, hFR b hb⟩) k _ (unhide HRX9 wd (unhide HBwd))
  have hsy : KShp D wd m ⟨.int .i64 m.sort, .slice b3 m.names.length bap3, .slice b4 m.kids.length bap4⟩ := KRep.shp (fun b hb => ⟨hb, hFR b hb⟩) m _ (unhide HRY9 wd (unhide HBwd))
  have hsz : TShp D wd t ⟨.int .i64 t.sort, .int .i64 t.num, .string t.text, .slice t3 t.names.length tap3, .slice t4 t.kids.length tap4⟩ := Rep.shp (fun b hb => ⟨hb, hFR b hb⟩) t _ (unhide HRZ9 wd (unhide HBwd))
  have bm1 := kd_sm (unhide HWT); have bm2 := kd_sm (unhide HWT2); have bm3 := tr_sm (unhide HWT3)
  have hm1 := markKind_shp D k _ 1 wd hsx (by omega) (by omega)
  have k0 := (unhide Hwd).bX.cell (i := 0) (by omega); have k1 := (unhide Hwd).bX.cell (i := 1) (by omega); have k2 := (unhide Hwd).bX.cell (i := 2) (by omega)
  simp only [row3] at k0 k1 k2
  have HM1 := hide hm1; have HSY := hide hsy; have HSZ := hide hsz; have HM2 := hide bm2; have HM3 := hide bm3; have HM0 := hide bm1
  clear hFR hsx hsy hsz hm1 bm1 bm2 bm3 HRX9 HRY9 HRZ9 HFX9 HBwd
  go_wp2_with fail
  refine (unhide HM1).mono ?_
  rintro e we ⟨rfl, hl1⟩
  have hwe := (unhide Hwd).like hl1
  have hsy := KShp.like hl1 m _ _ (alike.refl _) (alike.refl _) (alike.refl _) (unhide HSY)
  have hsz := TShp.like hl1 t _ _ (alike.refl _) (alike.refl _) (alike.refl _) (alike.refl _) (alike.refl _) (unhide HSZ)
  have hb1 := unhide HM0
  clear HM1 HM0 HSY HSZ k0 k1 k2 hl1 Hwd
  generalize hq1 : 1 + k.names.length + kcK k.kids = mk1 at *
  have h11 : 1 ≤ mk1 := by omega
  clear hq1
  have hm2 := markKind_shp D m _ mk1 we hsy (by omega) (by have := unhide HM2; omega)
  have k0 := hwe.bY.cell (i := 0) (by omega); have k1 := hwe.bY.cell (i := 1) (by omega); have k2 := hwe.bY.cell (i := 2) (by omega)
  simp only [row3] at k0 k1 k2
  have HMM2 := hide hm2; have HSZ := hide hsz; have HWE := hide hwe; have HQ1 := hide (show 1 ≤ mk1 ∧ mk1 ≤ 1048578 from ⟨h11, hb1⟩)
  clear hm2 hsy hsz hwe hb1 h11
  go_wp2_with fail
  refine (unhide HMM2).mono ?_
  rintro e wf ⟨rfl, hl2⟩
  have hwf := (unhide HWE).like hl2
  have hsz := TShp.like hl2 t _ _ (alike.refl _) (alike.refl _) (alike.refl _) (alike.refl _) (alike.refl _) (unhide HSZ)
  have hb2 := unhide HM2; have hb1 := unhide HQ1
  clear HMM2 HM2 HSZ k0 k1 k2 hl2 HWE HQ1
  generalize hq2 : mk1 + m.names.length + kcK m.kids = mk2 at *
  have h21 : 1 ≤ mk2 ∧ mk2 ≤ 2097156 := by omega
  clear hq2 hb1 hb2
  have hm3 := markTree_shp D t _ mk2 wf hsz (by omega) (by have := unhide HM3; omega)
  have k0 := hwf.bZ.cell (i := 0) (by omega); have k1 := hwf.bZ.cell (i := 1) (by omega); have k2 := hwf.bZ.cell (i := 2) (by omega); have k3 := hwf.bZ.cell (i := 3) (by omega); have k4 := hwf.bZ.cell (i := 4) (by omega)
  simp only [row5] at k0 k1 k2 k3 k4
  have HMM3 := hide hm3; have HWF := hide hwf
  clear hm3 hsz hwf h21 HM3
  go_wp2_with fail
  refine (unhide HMM3).mono ?_
  rintro e wg ⟨rfl, hl3⟩
  have hwg := (unhide HWF).like hl3
  clear HMM3 k0 k1 k2 k3 k4 hl3 HWF
  generalize mk2 + t.names.length + cK t.kids = mk3 at *
  have g0 := hwg.bG.cell (i := 0) (by omega); have g1 := hwg.bG.cell (i := 1) (by omega); have g2 := hwg.bG.cell (i := 2) (by omega); have gc3 := hwg.bG.cell (i := 3) (by omega); have gc4 := hwg.bG.cell (i := 4) (by omega)
  have v0 := hwg.bW.cell (i := 0) (by omega); have v1 := hwg.bW.cell (i := 1) (by omega); have v2 := hwg.bW.cell (i := 2) (by omega); have v3 := hwg.bW.cell (i := 3) (by omega); have v4 := hwg.bW.cell (i := 4) (by omega)
  simp only [row5] at g0 g1 g2 gc3 gc4 v0 v1 v2 v3 v4
  have HWG := hide hwg
  clear hwg
  go_wp2_with fail
  refine (unhide HWG).eq.mono ?_
  rintro e wh ⟨rfl, hbh⟩
  have hwh := (unhide HWG).on hbh
  clear hbh HWG g0 g1 g2 gc3 gc4 v0 v1 v2 v3 v4
  have g0 := hwh.bG.cell (i := 0) (by omega); have g1 := hwh.bG.cell (i := 1) (by omega); have g2 := hwh.bG.cell (i := 2) (by omega); have gc3 := hwh.bG.cell (i := 3) (by omega); have gc4 := hwh.bG.cell (i := 4) (by omega)
  simp only [row5] at g0 g1 g2 gc3 gc4
  have HMT := hide (hwh.mark (unhide HMKT))
  clear hwh
  go_wp2_with fail
  refine (unhide HMT).mono ?_
  rintro e wi ⟨rfl, hwi⟩
  clear HMT g0 g1 g2 gc3 gc4
  have g0 := hwi.bG.cell (i := 0) (by omega); have g1 := hwi.bG.cell (i := 1) (by omega); have g2 := hwi.bG.cell (i := 2) (by omega); have gc3 := hwi.bG.cell (i := 3) (by omega); have gc4 := hwi.bG.cell (i := 4) (by omega)
  simp only [row5] at g0 g1 g2 gc3 gc4
  have HHT := hide (hwi.held (unhide HMKT))
  clear hwi
  have hmt2 := unhide HMKT
  have HMM := hide hmt2
  generalize hmt : 1 + T.names.length + cK T.kids = mt at *
  have HME := hide hmt
  clear hmt
  go_wp2_with fail
  refine (unhide HHT).mono ?_
  rintro e wj ⟨rfl, hwj⟩
  clear HHT g0 g1 g2 gc3 gc4
  have HWJ := hide hwj
  clear hwj
  go_upto_region 38 with fail
  refine wp_swap (c' := Code.region 38 wd38Ops true) (by kernel_rfl) ?_
  refine wp_region_noPanic ?_
  have hto : ∀ W, Below wj.drew.heap.size wj.drew W → Below w.heap.size w W := fun W hW => (unhide HWJ).below.drew.trans (hW.mono (unhide HWJ).below.drew.size)
  refine wd38 k m t T r wj ⟨.int .i64 k.sort, .slice a1 k.names.length cap1, .slice a2 k.kids.length cap2⟩ ⟨.int .i64 m.sort, .slice b1 m.names.length bap1, .slice b2 m.kids.length bap2⟩ ⟨.int .i64 t.sort, .int .i64 t.num, .string t.text, .slice t1 t.names.length tap1, .slice t2 t.kids.length tap2⟩ w.heap.size (w.heap.size + 1) (w.heap.size + 2) ((unhide HWJ).bA.of_block rfl) ((unhide HWJ).bB.of_block rfl) ((unhide HWJ).bT.of_block rfl) (.pointer (some ⟨g8, 0, none⟩)) (.bool r) (.pointer (some ⟨w9.heap.size, 0, none⟩)) (.int .i64 (mt : Nat)) (fun W hW => unhide HCK1 W (hto W hW)) (fun W hW => unhide HCM1 W (hto W hW)) (fun W hW => unhide HCT1 W (hto W hW))
    (fun a b y W hW ha hb hy => (unhide HIMPL a b y W (hto W hW) ha hb hy (unhide HWT) (unhide HWT2)).mono fun e w' h => by have h1 := h.rep; rw [unhide HT, unhide HR] at h1; exact h1) _ (fun _ _ _ _ _ h => h) (by kernel_rfl) ?_
  intro v38 dH gH wk hoH hrH hgH hbk
  refine NoPanic.normal ?_
  simp only [frL_eq, frG, List.lookup, Nat.reduceBEq, Nat.reduceAdd, Option.getD_some, Option.getD_none]
  clear hto
  have hb' : Below wj.heap.size wj wk := (Below.refl _ wj).drew.trans hbk
  have hwk := (unhide HWJ).on hb'
  have heq := eqTree_any T _ PW dH ⟨e0, e1, e2, e3, e4⟩ wk (fun b hb => hb.2.1) (fun b hb => hwk.lW b hb) hoH hwk.oW
  have g0 := hrH.cell (i := 0) (by omega); have g1 := hrH.cell (i := 1) (by omega); have g2 := hrH.cell (i := 2) (by omega); have gc3 := hrH.cell (i := 3) (by omega); have gc4 := hrH.cell (i := 4) (by omega)
  have v0 := hwk.bW.cell (i := 0) (by omega); have v1 := hwk.bW.cell (i := 1) (by omega); have v2 := hwk.bW.cell (i := 2) (by omega); have v3 := hwk.bW.cell (i := 3) (by omega); have v4 := hwk.bW.cell (i := 4) (by omega)
  simp only [row5] at g0 g1 g2 gc3 gc4 v0 v1 v2 v3 v4
  have HEQ := hide heq; have HWK := hide hwk
  clear heq hwk hoH hrH hgH hbk hb' HWJ HCK1 HCM1 HCT1 HIMPL
  go_wp2_with fail
  refine (unhide HEQ).mono ?_
  rintro e wl ⟨rfl, hbl⟩
  have hwl := (unhide HWK).on hbl
  clear hbl HEQ HWK g0 g1 g2 gc3 gc4 v0 v1 v2 v3 v4
  have g0 := hwl.bG.cell (i := 0) (by omega); have g1 := hwl.bG.cell (i := 1) (by omega); have g2 := hwl.bG.cell (i := 2) (by omega); have gc3 := hwl.bG.cell (i := 3) (by omega); have gc4 := hwl.bG.cell (i := 4) (by omega)
  simp only [row5] at g0 g1 g2 gc3 gc4
  have hht := hwl.held (by rw [unhide HME]; exact unhide HMM)
  rw [unhide HME] at hht
  have HHT := hide hht
  clear hwl hht
  go_wp2_with fail
  refine (unhide HHT).mono ?_
  rintro e wm ⟨rfl, hwm⟩
  have HB := hide hwm.below
  clear hwm HHT g0 g1 g2 gc3 gc4
  go_wp2_with fail
  go_ret
  exact ⟨rfl, unhide HB⟩
end Go.Proofs.YtcpfelaffclalaaGreatDoor
