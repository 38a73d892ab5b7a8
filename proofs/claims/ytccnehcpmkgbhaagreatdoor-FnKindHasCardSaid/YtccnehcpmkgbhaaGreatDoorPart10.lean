/- A part. -/
import Derived.Test.YtccnehcpmkgbhaaGreatDoorPart09
import Derived.WalkLawsBesides
namespace Go.Proofs.YtccnehcpmkgbhaaGreatDoor
open Go Go.RowKit
set_option maxRecDepth 100000
set_option maxHeartbeats 12800000
structure HB (w W : World) (v : Value) (b : List UInt8) (p : Nat) : Prop where
 below : Below w.heap.size w W
 bx : W.rowIs w.heap.size 26 3 (row3 (.int .i64 0) (.slice none 0 0) (.slice none 0 0))
 bz : W.rowIs (w.heap.size + 1) 29 5 (row5 (.int .i64 0) (.int .i64 0) (.string ⟨#[]⟩) (.slice none 0 0) (.slice none 0 0))
 dr : DR (w.heap.size + 2) W v b p
theorem HB.size {w W : World} {v : Value} {b : List UInt8} {p : Nat} (h : HB w W v b p) : w.heap.size + 2 < W.heap.size := h.dr.cells.lt
theorem HB.next {w W W' : World} {v : Value} {b : List UInt8} {p p' : Nat} (h : HB w W v b p) (hd : DR (w.heap.size + 2) W' v b p') (hb : But (w.heap.size + 2) W W') : HB w W' v b p' := by
 have hs := h.size
 exact ⟨h.below.trans ⟨hb.os, hb.tape, hb.output, hb.size, fun i hi => hb.at (by omega) (by omega)⟩, h.bx.of_block (hb.at h.bx.lt (by omega)), h.bz.of_block (hb.at h.bz.lt (by omega)), hd⟩
theorem HB.on {w W W' : World} {v : Value} {b : List UInt8} {p : Nat} (h : HB w W v b p) (hb : Below W.heap.size W W') : HB w W' v b p := h.next (h.dr.on hb) (But.of_below hb)
structure HH (w W : World) (v : Value) (b : List UInt8) (p : Nat) (k : Kd) (c : C3) (BK : Nat) (t : Tr) (d : C5) (BT : Nat) : Prop where
 hb : HB w W v b p
 bK : W.rowIs BK 26 3 (row3 c.c0 c.c1 c.c2)
 kr : KRep (fun x => w.heap.size + 2 < x ∧ x < BK) W k c
 hK : w.heap.size + 2 < BK
 bT : W.rowIs BT 29 5 (row5 d.c0 d.c1 d.c2 d.c3 d.c4)
 tr : Rep (fun x => w.heap.size + 2 < x ∧ x < BT) W t d
 hT : w.heap.size + 2 < BT
theorem HH.next {w W W' : World} {v : Value} {b : List UInt8} {p p' : Nat} {k : Kd} {c : C3} {BK : Nat} {t : Tr} {d : C5} {BT : Nat} (h : HH w W v b p k c BK t d BT) (hd : DR (w.heap.size + 2) W' v b p') (hb : But (w.heap.size + 2) W W') : HH w W' v b p' k c BK t d BT := by
 have h1 := h.hK; have h2 := h.hT; have h3 := h.bK.lt; have h4 := h.bT.lt
 exact ⟨h.hb.next hd hb, h.bK.of_block (hb.at h3 (by omega)), KRep.carry (fun x hx => hb.at (by omega) (by omega)) (fun _ h => h) _ _ h.kr, h1, h.bT.of_block (hb.at h4 (by omega)), Rep.carry (fun x hx => hb.at (by omega) (by omega)) (fun _ h => h) _ _ h.tr, h2⟩
theorem HH.drew {w W : World} {v : Value} {b : List UInt8} {p : Nat} {k : Kd} {c : C3} {BK : Nat} {t : Tr} {d : C5} {BT : Nat} (h : HH w W v b p k c BK t d BT) : HH w W.drew v b p k c BK t d BT :=
 h.next (h.hb.dr.on (Below.refl _ W).drew) (But.of_below (Below.refl _ W).drew)
def HsEnd (w w' : World) (e : Ending) : Prop :=
 ∃ (k : Kd) (c : C3) (t : Tr) (d : C5), e = .returned (.tuple #[.agg #[c.c0, c.c1, c.c2], .agg #[d.c0, d.c1, d.c2, d.c3, d.c4]]) ∧ KRep (fun x => x < w'.heap.size) w' k c ∧ Rep (fun x => x < w'.heap.size) w' t d ∧ wKd k ≤ 200000 ∧ Below w.heap.size w w'
structure Fin2 (w W : World) (k : Kd) (c : C3) (t : Tr) (d : C5) : Prop where
 below : Below w.heap.size w W
 bx : W.rowIs w.heap.size 26 3 (row3 (.int .i64 0) (.slice none 0 0) (.slice none 0 0))
 bz : W.rowIs (w.heap.size + 1) 29 5 (row5 (.int .i64 0) (.int .i64 0) (.string ⟨#[]⟩) (.slice none 0 0) (.slice none 0 0))
 kr : KRep (fun x => w.heap.size + 2 < x ∧ x < W.heap.size) W k c
 tr : Rep (fun x => w.heap.size + 2 < x ∧ x < W.heap.size) W t d
 wk : wKd k ≤ 200000
theorem Fin2.end {w W X : World} {k : Kd} {c : C3} {t : Tr} {d : C5} (h : Fin2 w W k c t d) (hX : ∀ i, i ≠ w.heap.size → i ≠ w.heap.size + 1 → X.heap[i]? = W.heap[i]?) (hsz : X.heap.size = W.heap.size) (hb : Below w.heap.size w X) :
 HsEnd w X (.returned (.tuple #[.agg #[c.c0, c.c1, c.c2], .agg #[d.c0, d.c1, d.c2, d.c3, d.c4]])) :=
 ⟨k, c, t, d, rfl, KRep.carry (fun x hx => hX x (by omega) (by omega)) (fun x hx => by rw [hsz]; exact hx.2) _ _ h.kr, Rep.carry (fun x hx => hX x (by omega) (by omega)) (fun x hx => by rw [hsz]; exact hx.2) _ _ h.tr, h.wk, hb⟩
theorem HsEnd.drew {w X : World} {e : Ending} (h : HsEnd w X e) : HsEnd w X.drew e := by
 obtain ⟨k, c, t, d, h1, h2, h3, h4, h5⟩ := h
 exact ⟨k, c, t, d, h1, KRep.carry (w := X) (w' := X.drew) (P := fun x => x < X.heap.size) (fun _ _ => rfl) (fun _ h => h) _ _ h2, Rep.carry (w := X) (w' := X.drew) (P := fun x => x < X.heap.size) (fun _ _ => rfl) (fun _ h => h) _ _ h3, h4, h5.drew⟩
theorem below_eight {w W : World} {n : Nat} (h : Below n w W) (a b c d e f g : Nat) (ha : n ≤ a) (hb : n ≤ b) (va vb vc vd ve vf vg vh : Value) :
 Below n w ((((((((W.setCell ⟨a, c, none⟩ va).setCell ⟨a, d, none⟩ vb).setCell ⟨a, e, none⟩ vc).setCell ⟨b, c, none⟩ vd).setCell ⟨b, d, none⟩ ve).setCell ⟨b, e, none⟩ vf).setCell ⟨b, f, none⟩ vg).setCell ⟨b, g, none⟩ vh) :=
 (((((((h.setCell ha _).setCell ha _).setCell ha _).setCell hb _).setCell hb _).setCell hb _).setCell hb _).setCell hb _
theorem Fin2.put {w W : World} {k : Kd} {c : C3} {t : Tr} {d : C5} (h : Fin2 w W k c t d) (va vb vc vd ve vf vg vh : Value) :
 HsEnd w ((((((((W.setCell ⟨w.heap.size, 0, none⟩ va).setCell ⟨w.heap.size, 1, none⟩ vb).setCell ⟨w.heap.size, 2, none⟩ vc).setCell ⟨w.heap.size + 1, 0, none⟩ vd).setCell ⟨w.heap.size + 1, 1, none⟩ ve).setCell ⟨w.heap.size + 1, 2, none⟩ vf).setCell ⟨w.heap.size + 1, 3, none⟩ vg).setCell ⟨w.heap.size + 1, 4, none⟩ vh) (.returned (.tuple #[.agg #[c.c0, c.c1, c.c2], .agg #[d.c0, d.c1, d.c2, d.c3, d.c4]])) := by
 refine h.end (fun i h1 h2 => ?_) ?_ (below_eight h.below _ _ 0 1 2 3 4 (Nat.le_refl _) (Nat.le_succ _) _ _ _ _ _ _ _ _)
 · repeat rw [Below.heap_setCell _ _ _ _ (by simp; omega)]
 · simp only [size_setCell]
theorem drawKindHas_any (w : World) (a : Option Addr) (cap : Nat) (l : List UInt8) (hv : BytesAt w (.slice a l.length cap) l) (hcap : l.length ≤ cap) :
 Calls Tryz.prog 4 #[.slice a l.length cap] w fun e w' => HsEnd w w' e := by
 have hb0 : ∀ o o2, Below w.heap.size w ((w.alloc o).alloc o2) := fun o o2 => ((Below.refl _ _).alloc (Nat.le_refl _) o).alloc (by simp) o2
 have HOP := hH (fun o o2 => l6Open_any ((w.alloc o).alloc o2) a cap l (hv.on (hb0 o o2)) hcap)
 have HX0 := hH ((row3_alloc w (.int .i64 0) (.slice none 0 0) (.slice none 0 0) 26).alloc (.cells #[.int .i64 0, .int .i64 0, .string ⟨#[]⟩, .slice none 0 0, .slice none 0 0] 29))
 have HZ0 := hH (row5_alloc (w.alloc (.cells #[.int .i64 0, .slice none 0 0, .slice none 0 0] 26)) (.int .i64 0) (.int .i64 0) (.string ⟨#[]⟩) (.slice none 0 0) (.slice none 0 0) 29)
 have HB0 := hH hb0
 clear hv hb0
 go_enter Tryz.func4, Tryz.ntmps4
 go_wp2_with fail
 refine (uh HOP _ _).mono ?_
 rintro e w1 ⟨v', b', rfl, hdr, hb1⟩
 have hsz : ∀ o o2, ((w.alloc o).alloc o2).heap.size = w.heap.size + 2 := fun o o2 => by simp
 rw [hsz] at hdr ⊢
 have hh1 : HB w w1 v' b' 0 := ⟨(uh HB0 _ _).trans (hb1.mono (by rw [hsz]; omega)), (uh HX0).of_block (hb1.block _ (by rw [hsz]; omega)), by
  have := (uh HZ0).of_block (hb1.block _ (by rw [hsz, World.size_alloc]; omega))
  rw [World.size_alloc] at this
  exact this, hdr⟩
 have HH1 := hH hh1
 have HPK := hH (pick_any (w.heap.size + 2) w1 v' b' 0 2 hdr (by omega) (by omega))
 clear HOP HX0 HZ0 HB0 hdr hb1 hsz hh1
 go_wp2_with fail
 refine (uh HPK).mono ?_
 rintro e w2 ⟨r2, rfl, hr2, HD2, HB2⟩
 have HH2 := hH ((uh HH1).next HD2.out HB2.out)
 have HC := hH (fun top => l5Some_ok (w.heap.size + 2) w2 v' b' (0 + 1) top HD2.out (by omega))
 clear HPK HH1 HD2 HB2
 go_wp2_with fail
 refine (uh HC _).mono ?_
 rintro e w3 ⟨k, ⟨k0, k1, k2⟩, p2, rfl, hk, hd2, hp2, hwk, hb3, hq⟩
 have hs2 := (uh HH2).size
 have HH3 := hH ((uh HH2).next hd2 hb3)
 have hs3 := hb3.size
 obtain ⟨g0, -, ⟨a1, cap1, g1, -⟩, a2, cap2, g2, -⟩ := hk.open
 simp only at g0 g1 g2
 subst g0 g1 g2
 obtain ⟨W3, hW3⟩ : ∃ W3, w3.alloc (.cells #[.int .i64 k.sort, .slice a1 k.names.length cap1, .slice a2 k.kids.length cap2] 26) = W3 := ⟨_, rfl⟩
 have hbA : Below w3.heap.size w3 W3 := by rw [← hW3]; exact (Below.refl _ _).alloc (Nat.le_refl _) _
 have hsW3 : W3.heap.size = w3.heap.size + 1 := by rw [← hW3]; simp
 have hK3 : W3.rowIs w3.heap.size 26 3 (row3 (.int .i64 k.sort) (.slice a1 k.names.length cap1) (.slice a2 k.kids.length cap2)) := by rw [← hW3]; exact row3_alloc w3 _ _ _ _
 have hk3 : KRep (fun x => w.heap.size + 2 < x ∧ x < w3.heap.size) W3 k ⟨.int .i64 k.sort, .slice a1 k.names.length cap1, .slice a2 k.kids.length cap2⟩ := KRep.carry (fun x hx => hbA.block x hx.2) (fun x hx => ⟨by omega, hx.2⟩) k _ hk
 have HHW3 := hH ((uh HH3).on hbA)
 have HC3 := hH (someTree_any (w.heap.size + 2) W3 v' b' p2 k ⟨.int .i64 k.sort, .slice a1 k.names.length cap1, .slice a2 k.kids.length cap2⟩ (w.heap.size + 3) (by omega) (KRep.carry (fun _ _ => rfl) (fun x hx => ⟨by omega, by omega⟩) k _ hk3) hq (uh HHW3).dr (by omega))
 obtain ⟨q0, q1, q2⟩ := cs3 hK3 (by omega)
 simp only [row3] at q0 q1 q2
 have HK3 := hH hK3; have HKR3 := hH hk3; have HW3 := hH hW3; have HOKQ := hH (ok_of_qT hq)
 clear HC HH2 HH3 hk hd2 hb3 hbA hK3 hk3 hW3 hq
 go_wp2_with fail
 rw [uh HW3]
 refine (uh HC3).mono ?_
 rintro e w5 ⟨t, ⟨u0, u1, u2, u3, u4⟩, F, p3, rfl, ho, hnd, hF, hd3, hp3, hb5, hz3, hnm3⟩
 have hs5 := hb5.size
 have HH5 := hH ((uh HHW3).next hd3 hb5)
 have ht5 := Own.rep (P := fun x => w.heap.size + 2 < x ∧ x < w5.heap.size) _ _ F (fun x hx => by have := hF x hx; omega) ho
 obtain ⟨g0, g1, g2, -, -, -, ⟨a3, cap3, g3, -⟩, a4, cap4, g4, -⟩ := ht5.open
 simp only at g0 g1 g2 g3 g4
 subst g0 g1 g2 g3 g4
 obtain ⟨W5, hW5⟩ : ∃ W5, w5.alloc (.cells #[.int .i64 t.sort, .int .i64 t.num, .string t.text, .slice a3 t.names.length cap3, .slice a4 t.kids.length cap4] 29) = W5 := ⟨_, rfl⟩
 have hbA : Below w5.heap.size w5 W5 := by rw [← hW5]; exact (Below.refl _ _).alloc (Nat.le_refl _) _
 have hT5 : W5.rowIs w5.heap.size 29 5 (row5 (.int .i64 t.sort) (.int .i64 t.num) (.string t.text) (.slice a3 t.names.length cap3) (.slice a4 t.kids.length cap4)) := by rw [← hW5]; exact row5_alloc w5 _ _ _ _ _ _
 have hbw : ∀ x, x ≠ w.heap.size + 2 → x < W3.heap.size → W5.heap[x]? = W3.heap[x]? := fun x h1 h2 => (hbA.block x (by omega)).trans (hb5.at h2 h1)
 have hh5 : HH w W5 v' b' p3 k ⟨.int .i64 k.sort, .slice a1 k.names.length cap1, .slice a2 k.kids.length cap2⟩ w3.heap.size t ⟨.int .i64 t.sort, .int .i64 t.num, .string t.text, .slice a3 t.names.length cap3, .slice a4 t.kids.length cap4⟩ w5.heap.size :=
  ⟨(uh HH5).on hbA, (uh HK3).of_block (hbw _ (by omega) (by omega)), KRep.carry (fun x hx => hbw x (by omega) (by omega)) (fun _ h => h) _ _ (uh HKR3), by omega, hT5, Rep.carry (fun x hx => hbA.block x hx.2) (fun _ h => h) _ _ ht5, by omega⟩
 have HPK := hH (pick_any (w.heap.size + 2) W5 v' b' p3 8 hh5.hb.dr (by omega) (by omega))
 have HH6 := hH hh5; have HW5 := hH hW5
 clear HC3 HHW3 HH5 HK3 HKR3 HW3 ho hnd hF hd3 hb5 ht5 hbA hT5 hbw hh5 hW5 q0 q1 q2
 go_wp2_with fail
 rw [uh HW5]
 refine (uh HPK).mono ?_
 rintro e w7 ⟨r, rfl, hr, HD7, HB7⟩
 have HH7 := hH ((uh HH6).next HD7.out HB7.out)
 clear HPK HH6 HW5 HD7 HB7
 obtain ⟨q0, q1, q2⟩ := cs3 ((uh HH7).bK) (by omega)
 have s0 := (uh HH7).bT.cell (i := 0) (by omega); have s1 := (uh HH7).bT.cell (i := 1) (by omega); have s2 := (uh HH7).bT.cell (i := 2) (by omega); have s3 := (uh HH7).bT.cell (i := 3) (by omega); have s4 := (uh HH7).bT.cell (i := 4) (by omega)
 simp only [row3, row5] at q0 q1 q2 s0 s1 s2 s3 s4
 rcases (show r = 0 ∨ r = 1 ∨ r = 2 ∨ 3 ≤ r by omega) with rfl | rfl | rfl | hr3
 · have hcall : ∀ W, HH w W v' b' (p3 + 1) k ⟨.int .i64 k.sort, .slice a1 k.names.length cap1, .slice a2 k.kids.length cap2⟩ w3.heap.size t ⟨.int .i64 t.sort, .int .i64 t.num, .string t.text, .slice a3 t.names.length cap3, .slice a4 t.kids.length cap4⟩ w5.heap.size → Calls Tryz.prog 15 #[.pointer (some ⟨w.heap.size + 2, 0, none⟩), .agg #[.int .i64 t.sort, .int .i64 t.num, .string t.text, .slice a3 t.names.length cap3, .slice a4 t.kids.length cap4]] W fun e w8 => ∃ (t' : Tr) (x0 x1 : Int) (x2 : ByteArray) (a5 : Option Addr) (n5 c5 : Nat) (a6 : Option Addr) (n6 c6 : Nat), e = .returned (.agg #[.int .i64 x0, .int .i64 x1, .string x2, .slice a5 n5 c5, .slice a6 n6 c6]) ∧ Hid (Fin2 w w8 k ⟨.int .i64 k.sort, .slice a1 k.names.length cap1, .slice a2 k.kids.length cap2⟩ t' ⟨.int .i64 x0, .int .i64 x1, .string x2, .slice a5 n5 c5, .slice a6 n6 c6⟩) ∧ Hid (w8.rowIs w3.heap.size 26 3 (row3 (.int .i64 k.sort) (.slice a1 k.names.length cap1) (.slice a2 k.kids.length cap2))) := by
    intro W hW
    have hl := hW.bT.lt; have hlK := hW.bK.lt; have hTT := hW.hT
    refine (spoilT_all (tsz t + 1) t (by omega) _ (w.heap.size + 2) W v' b' (p3 + 1) ⟨.int .i64 t.sort, .int .i64 t.num, .string t.text, .slice a3 t.names.length cap3, .slice a4 t.kids.length cap4⟩ hW.hb.dr (fun x hx => ⟨hx.1, by omega⟩) hW.tr (by omega) (by omega) hnm3).mono ?_
    rintro e w8 ⟨t', ⟨x0, x1, x2, x3, x4⟩, p8, rfl, hr8, hd8, -, hb8⟩
    have h8 := hW.next hd8 hb8
    have hs8 := hb8.size
    obtain ⟨g0, g1, g2, -, -, -, ⟨a5, cap5, g3, -⟩, a6, cap6, g4, -⟩ := hr8.open
    simp only at g0 g1 g2 g3 g4
    subst g0 g1 g2 g3 g4
    refine ⟨t', _, _, _, _, _, _, _, _, _, rfl, ⟨h8.hb.below, h8.hb.bx, h8.hb.bz, KRep.carry (fun _ _ => rfl) (fun x hx => ⟨hx.1, by omega⟩) _ _ h8.kr, Rep.carry (fun _ _ => rfl) (fun x hx => ?_) _ _ hr8, by omega⟩, h8.bK⟩
    rcases hx with h | h
    · exact ⟨h.1, by omega⟩
    · exact ⟨by omega, h.2⟩
   have HCALL := hH hcall
   clear hcall
   go_wp2_with fail
   go_region_with (go_at_call 15; refine (uh HCALL _ (by first | exact uh HH7 | exact (uh HH7).drew)).mono ?_; rintro e w8 ⟨t', x0, x1, x2, a5, n5, c5, a6, n6, c6, rfl, HF8, HK8⟩; have q0' := (uh HK8).cell (i := 0) (by omega); have q1' := (uh HK8).cell (i := 1) (by omega); have q2' := (uh HK8).cell (i := 2) (by omega); simp only [row3] at q0' q1' q2'; have hr8 := (uh HF8).bx; obtain ⟨y0, y1, y2⟩ := cs3 hr8 (by omega); have yf := hr8.frozen; have hz8 := (uh HF8).bz; obtain ⟨z0, z1, z2, z3, z4⟩ := cs5 hz8 (by omega); have zf := hz8.frozen; simp only [row3, row5] at y0 y1 y2 z0 z1 z2 z3 z4; clear hr8 hz8)
   all_goals
    go_wp2_with fail
    refine bodyPost_ret (v := .tuple #[.agg #[.int .i64 k.sort, .slice a1 k.names.length cap1, .slice a2 k.kids.length cap2], .agg #[.int .i64 x0, .int .i64 x1, .string x2, .slice a5 n5 c5, .slice a6 n6 c6]]) (by simp [results, Tryz.results4, go_sem, y0, y1, y2, z0, z1, z2, z3, z4]) rfl ?_
    have hfin := (uh HF8).put (.int .i64 k.sort) (.slice a1 k.names.length cap1) (.slice a2 k.kids.length cap2) (.int .i64 x0) (.int .i64 x1) (.string x2) (.slice a5 n5 c5) (.slice a6 n6 c6)
    simp only at hfin
    with_reducible exact hfin
 · have hcall : ∀ W, HH w W v' b' (p3 + 1) k ⟨.int .i64 k.sort, .slice a1 k.names.length cap1, .slice a2 k.kids.length cap2⟩ w3.heap.size t ⟨.int .i64 t.sort, .int .i64 t.num, .string t.text, .slice a3 t.names.length cap3, .slice a4 t.kids.length cap4⟩ w5.heap.size → Calls Tryz.prog 16 #[.pointer (some ⟨w.heap.size + 2, 0, none⟩), .agg #[.int .i64 k.sort, .slice a1 k.names.length cap1, .slice a2 k.kids.length cap2]] W fun e w8 => ∃ (k' : Kd) (x0 : Int) (a5 : Option Addr) (n5 c5 : Nat) (a6 : Option Addr) (n6 c6 : Nat), e = .returned (.agg #[.int .i64 x0, .slice a5 n5 c5, .slice a6 n6 c6]) ∧ Hid (Fin2 w w8 k' ⟨.int .i64 x0, .slice a5 n5 c5, .slice a6 n6 c6⟩ t ⟨.int .i64 t.sort, .int .i64 t.num, .string t.text, .slice a3 t.names.length cap3, .slice a4 t.kids.length cap4⟩) ∧ Hid (w8.rowIs w5.heap.size 29 5 (row5 (.int .i64 t.sort) (.int .i64 t.num) (.string t.text) (.slice a3 t.names.length cap3) (.slice a4 t.kids.length cap4))) := by
    intro W hW
    have hl := hW.bT.lt; have hlK := hW.bK.lt; have hKK := hW.hK
    have hko := uh HOKQ
    refine (l5Spoil_all (ksz k + 1) k (by omega) _ (w.heap.size + 2) W v' b' (p3 + 1) ⟨.int .i64 k.sort, .slice a1 k.names.length cap1, .slice a2 k.kids.length cap2⟩ hW.hb.dr (fun x hx => ⟨hx.1, by omega⟩) hW.kr (by omega) (by omega)).mono ?_
    rintro e w8 ⟨k', ⟨x0, x1, x2⟩, p8, rfl, hr8, hd8, -, hw8, hb8⟩
    have h8 := hW.next hd8 hb8
    have hs8 := hb8.size
    obtain ⟨g0, -, ⟨a5, cap5, g1, -⟩, a6, cap6, g2, -⟩ := hr8.open
    simp only at g0 g1 g2
    subst g0 g1 g2
    refine ⟨k', _, _, _, _, _, _, _, rfl, ⟨h8.hb.below, h8.hb.bx, h8.hb.bz, KRep.carry (fun _ _ => rfl) (fun x hx => ?_) _ _ hr8, Rep.carry (fun _ _ => rfl) (fun x hx => ⟨hx.1, by omega⟩) _ _ h8.tr, by omega⟩, h8.bT⟩
    rcases hx with h | h
    · exact ⟨h.1, by omega⟩
    · exact ⟨by omega, h.2⟩
   have HCALL := hH hcall
   clear hcall
   go_wp2_with fail
   go_region_with (go_at_call 16; refine (uh HCALL _ (by first | exact uh HH7 | exact (uh HH7).drew)).mono ?_; rintro e w8 ⟨k', x0, a5, n5, c5, a6, n6, c6, rfl, HF8, HT8⟩; have s0' := (uh HT8).cell (i := 0) (by omega); have s1' := (uh HT8).cell (i := 1) (by omega); have s2' := (uh HT8).cell (i := 2) (by omega); have s3' := (uh HT8).cell (i := 3) (by omega); have s4' := (uh HT8).cell (i := 4) (by omega); simp only [row5] at s0' s1' s2' s3' s4'; have hr8 := (uh HF8).bx; obtain ⟨y0, y1, y2⟩ := cs3 hr8 (by omega); have yf := hr8.frozen; have hz8 := (uh HF8).bz; obtain ⟨z0, z1, z2, z3, z4⟩ := cs5 hz8 (by omega); have zf := hz8.frozen; simp only [row3, row5] at y0 y1 y2 z0 z1 z2 z3 z4; clear hr8 hz8)
   all_goals
    go_wp2_with fail
    refine bodyPost_ret (v := .tuple #[.agg #[.int .i64 x0, .slice a5 n5 c5, .slice a6 n6 c6], .agg #[.int .i64 t.sort, .int .i64 t.num, .string t.text, .slice a3 t.names.length cap3, .slice a4 t.kids.length cap4]]) (by simp [results, Tryz.results4, go_sem, y0, y1, y2, z0, z1, z2, z3, z4]) rfl ?_
    have hfin := (uh HF8).put (.int .i64 x0) (.slice a5 n5 c5) (.slice a6 n6 c6) (.int .i64 t.sort) (.int .i64 t.num) (.string t.text) (.slice a3 t.names.length cap3) (.slice a4 t.kids.length cap4)
    simp only at hfin
    with_reducible exact hfin
 · have hcall : ∀ W, HH w W v' b' (p3 + 1) k ⟨.int .i64 k.sort, .slice a1 k.names.length cap1, .slice a2 k.kids.length cap2⟩ w3.heap.size t ⟨.int .i64 t.sort, .int .i64 t.num, .string t.text, .slice a3 t.names.length cap3, .slice a4 t.kids.length cap4⟩ w5.heap.size → Calls Tryz.prog 17 #[.pointer (some ⟨w.heap.size + 2, 0, none⟩), .agg #[.int .i64 k.sort, .slice a1 k.names.length cap1, .slice a2 k.kids.length cap2]] W fun e w8 => ∃ (k' : Kd) (x0 : Int) (a5 : Option Addr) (n5 c5 : Nat) (a6 : Option Addr) (n6 c6 : Nat), e = .returned (.agg #[.int .i64 x0, .slice a5 n5 c5, .slice a6 n6 c6]) ∧ Hid (Fin2 w w8 k' ⟨.int .i64 x0, .slice a5 n5 c5, .slice a6 n6 c6⟩ t ⟨.int .i64 t.sort, .int .i64 t.num, .string t.text, .slice a3 t.names.length cap3, .slice a4 t.kids.length cap4⟩) ∧ Hid (w8.rowIs w5.heap.size 29 5 (row5 (.int .i64 t.sort) (.int .i64 t.num) (.string t.text) (.slice a3 t.names.length cap3) (.slice a4 t.kids.length cap4))) := by
    intro W hW
    have hl := hW.bT.lt; have hlK := hW.bK.lt; have hKK := hW.hK
    have hko := uh HOKQ
    refine (wd_all (ksz k + 1) k (by omega) _ (w.heap.size + 2) W v' b' (p3 + 1) ⟨.int .i64 k.sort, .slice a1 k.names.length cap1, .slice a2 k.kids.length cap2⟩ hW.hb.dr (fun x hx => ⟨hx.1, by omega⟩) hW.kr hko.1 (by omega)).mono ?_
    rintro e w8 ⟨k', ⟨x0, x1, x2⟩, p8, rfl, hr8, hd8, -, hw8, hb8⟩
    have h8 := hW.next hd8 hb8
    have hs8 := hb8.size
    obtain ⟨g0, -, ⟨a5, cap5, g1, -⟩, a6, cap6, g2, -⟩ := hr8.open
    simp only at g0 g1 g2
    subst g0 g1 g2
    refine ⟨k', _, _, _, _, _, _, _, rfl, ⟨h8.hb.below, h8.hb.bx, h8.hb.bz, KRep.carry (fun _ _ => rfl) (fun x hx => ?_) _ _ hr8, Rep.carry (fun _ _ => rfl) (fun x hx => ⟨hx.1, by omega⟩) _ _ h8.tr, by omega⟩, h8.bT⟩
    exact ⟨by omega, hx.2⟩
   have HCALL := hH hcall
   clear hcall
   go_wp2_with fail
   go_region_with (go_at_call 17; refine (uh HCALL _ (by first | exact uh HH7 | exact (uh HH7).drew)).mono ?_; rintro e w8 ⟨k', x0, a5, n5, c5, a6, n6, c6, rfl, HF8, HT8⟩; have s0' := (uh HT8).cell (i := 0) (by omega); have s1' := (uh HT8).cell (i := 1) (by omega); have s2' := (uh HT8).cell (i := 2) (by omega); have s3' := (uh HT8).cell (i := 3) (by omega); have s4' := (uh HT8).cell (i := 4) (by omega); simp only [row5] at s0' s1' s2' s3' s4'; have hr8 := (uh HF8).bx; obtain ⟨y0, y1, y2⟩ := cs3 hr8 (by omega); have yf := hr8.frozen; have hz8 := (uh HF8).bz; obtain ⟨z0, z1, z2, z3, z4⟩ := cs5 hz8 (by omega); have zf := hz8.frozen; simp only [row3, row5] at y0 y1 y2 z0 z1 z2 z3 z4; clear hr8 hz8)
   all_goals
    go_wp2_with fail
    refine bodyPost_ret (v := .tuple #[.agg #[.int .i64 x0, .slice a5 n5 c5, .slice a6 n6 c6], .agg #[.int .i64 t.sort, .int .i64 t.num, .string t.text, .slice a3 t.names.length cap3, .slice a4 t.kids.length cap4]]) (by simp [results, Tryz.results4, go_sem, y0, y1, y2, z0, z1, z2, z3, z4]) rfl ?_
    have hfin := (uh HF8).put (.int .i64 x0) (.slice a5 n5 c5) (.slice a6 n6 c6) (.int .i64 t.sort) (.int .i64 t.num) (.string t.text) (.slice a3 t.names.length cap3) (.slice a4 t.kids.length cap4)
    simp only at hfin
    with_reducible exact hfin
 · have z0' : ((r : Int) == 0) = false := beq_eq_false_iff_ne.2 (by omega)
   have z1' : ((r : Int) == 1) = false := beq_eq_false_iff_ne.2 (by omega)
   have z2' : ((r : Int) == 2) = false := beq_eq_false_iff_ne.2 (by omega)
   have hl := (uh HH7).bT.lt; have hlK := (uh HH7).bK.lt
   have HF8 : Hid (Fin2 w w7 k ⟨.int .i64 k.sort, .slice a1 k.names.length cap1, .slice a2 k.kids.length cap2⟩ t ⟨.int .i64 t.sort, .int .i64 t.num, .string t.text, .slice a3 t.names.length cap3, .slice a4 t.kids.length cap4⟩) := ⟨(uh HH7).hb.below, (uh HH7).hb.bx, (uh HH7).hb.bz, KRep.carry (fun _ _ => rfl) (fun x hx => ⟨hx.1, by omega⟩) _ _ (uh HH7).kr, Rep.carry (fun _ _ => rfl) (fun x hx => ⟨hx.1, by omega⟩) _ _ (uh HH7).tr, by omega⟩
   have hr8 := (uh HF8).bx
   obtain ⟨y0, y1, y2⟩ := cs3 hr8 (by omega)
   have yf := hr8.frozen
   have hz8 := (uh HF8).bz
   obtain ⟨z0, z1, z2, z3, z4⟩ := cs5 hz8 (by omega)
   have zf := hz8.frozen
   simp only [row3, row5] at y0 y1 y2 z0 z1 z2 z3 z4
   clear hr8 hz8
   go_wp2_with fail
   go_region
   go_wp2_with fail
   have hfin := ((uh HF8).put (.int .i64 k.sort) (.slice a1 k.names.length cap1) (.slice a2 k.kids.length cap2) (.int .i64 t.sort) (.int .i64 t.num) (.string t.text) (.slice a3 t.names.length cap3) (.slice a4 t.kids.length cap4)).drew
   simp only at hfin
   refine bodyPost_ret (v := .tuple #[.agg #[.int .i64 k.sort, .slice a1 k.names.length cap1, .slice a2 k.kids.length cap2], .agg #[.int .i64 t.sort, .int .i64 t.num, .string t.text, .slice a3 t.names.length cap3, .slice a4 t.kids.length cap4]]) (by simp [results, Tryz.results4, go_sem, y0, y1, y2, z0, z1, z2, z3, z4]) rfl ?_
   with_reducible exact hfin

def bv (s : ByteArray) (i : Nat) : Nat := if h : i < s.size then s[i].toNat else 0
def lf (s : ByteArray) (i : Nat) : List UInt8 := s.data.toList.drop i
theorem lf_cons {s : ByteArray} {i : Nat} (h : i < s.size) : lf s i = s[i] :: lf s (i + 1) := by
 unfold lf
 rw [List.drop_eq_getElem_cons (by simpa using h)]
 rfl
theorem lf_nil {s : ByteArray} {i : Nat} (h : s.size ≤ i) : lf s i = [] := by
 unfold lf; exact List.drop_eq_nil_of_le (by simpa using h)
theorem lf_len (s : ByteArray) (i : Nat) : (lf s i).length = s.size - i := by unfold lf; rw [List.length_drop]; rfl
theorem toList_loop (s : ByteArray) (n : Nat) : ∀ (i : Nat) (r : List UInt8), s.size - i = n → ByteArray.toList.loop s i r = r.reverse ++ s.data.toList.drop i := by
 induction n with
 | zero =>
   intro i r h
   unfold ByteArray.toList.loop
   rw [if_neg (by omega), List.drop_eq_nil_of_le (by simp only [Array.length_toList]; show s.size ≤ i; omega), List.append_nil]
 | succ n ih =>
   intro i r h
   unfold ByteArray.toList.loop
   have hi : i < s.size := by omega
   have e : s.get! i = s.data.toList[i]'(by simpa using hi) := by
    obtain ⟨d⟩ := s
    exact getElem!_pos d i hi
   have hdrop : s.data.toList.drop i = s.data.toList[i]'(by simpa using hi) :: s.data.toList.drop (i + 1) := List.drop_eq_getElem_cons (by simpa using hi)
   rw [if_pos hi, ih (i + 1) _ (by omega), hdrop, e, List.reverse_cons, List.append_assoc]
   rfl
theorem toList_data (s : ByteArray) : s.toList = s.data.toList := by
 have := toList_loop s s.size 0 [] (by omega)
 rw [List.drop_zero] at this
 exact this
def pre (wd : ByteArray) (s : ByteArray) (i : Nat) : Bool := wd.data.toList.isPrefixOf (lf s i)
theorem pre_iff {wd s : ByteArray} {i : Nat} (h0 : 0 < wd.size) : pre wd s i = true ↔ (i + wd.size ≤ s.size ∧ s.extract i (i + wd.size) = wd) := by
 unfold pre
 rw [List.isPrefixOf_iff_prefix, List.prefix_iff_eq_take]
 have hl : wd.data.toList.length = wd.size := rfl
 have he : (s.extract i (i + wd.size)).data.toList = (lf s i).take wd.size := by
  unfold lf
  simp [List.take_drop]
 rw [hl]
 constructor
 · intro h
   have h2 := congrArg List.length h
   rw [List.length_take, lf_len, hl] at h2
   refine ⟨by omega, ?_⟩
   apply ByteArray.ext
   apply Array.toList_inj.1
   rw [he, ← h]
 · rintro ⟨h1, h2⟩
   rw [← he, h2]
theorem lf_after {wd s : ByteArray} {i : Nat} : lf s (i + wd.size) = (lf s i).drop wd.size := by
 unfold lf; rw [List.drop_drop]
theorem but_drewN {B : Nat} {w w' : World} (h : But B w w') (n : Nat) : But B w (w'.drewN n) := ⟨h.os, h.tape, h.output, h.size, h.block⟩

def rn (p : UInt8 → Bool) (s : ByteArray) (i : Nat) : Nat := ((lf s i).takeWhile p).length
theorem rn_step {p : UInt8 → Bool} {s : ByteArray} {i : Nat} (h : i < s.size) (hp : p s[i] = true) : rn p s i = rn p s (i + 1) + 1 := by
 unfold rn; rw [lf_cons h]; simp [hp]
theorem rn_stop {p : UInt8 → Bool} {s : ByteArray} {i : Nat} (h : i < s.size) (hp : p s[i] = false) : rn p s i = 0 := by
 unfold rn; rw [lf_cons h]; simp [hp]
theorem rn_end {p : UInt8 → Bool} {s : ByteArray} {i : Nat} (h : s.size ≤ i) : rn p s i = 0 := by
 unfold rn; rw [lf_nil h]; simp
theorem rn_le (p : UInt8 → Bool) (s : ByteArray) (i : Nat) (h : i ≤ s.size) : i + rn p s i ≤ s.size := by
 unfold rn
 have := (List.takeWhile_prefix (p := p) (l := lf s i)).length_le
 rw [lf_len] at this
 omega
theorem rn_take (p : UInt8 → Bool) (s : ByteArray) (i : Nat) : s.extract i (i + rn p s i) = ⟨((lf s i).takeWhile p).toArray⟩ := by
 apply ByteArray.ext
 apply Array.toList_inj.1
 have h1 : (s.extract i (i + rn p s i)).data.toList = (lf s i).take (rn p s i) := by unfold lf; simp [List.take_drop]
 rw [h1]
 unfold rn
 exact (List.prefix_iff_eq_take.1 (List.takeWhile_prefix p)).symm
theorem rn_drop (p : UInt8 → Bool) (s : ByteArray) (i : Nat) : lf s (i + rn p s i) = (lf s i).dropWhile p := by
 have h1 : lf s (i + rn p s i) = (lf s i).drop (rn p s i) := by unfold lf; rw [List.drop_drop]
 rw [h1]
 unfold rn
 generalize lf s i = l
 have := List.takeWhile_append_dropWhile (p := p) (l := l)
 conv => lhs; arg 2; rw [← this]
 rw [List.drop_left]
def atOf (w : World) (R : Nat) : Nat := (intOf ((w.cell? ⟨R, 1, none⟩).getD undef)).toNat
def w1 (c : UInt8) : ByteArray := ⟨#[c]⟩
theorem pre_one (c : UInt8) (s : ByteArray) (i : Nat) : pre (w1 c) s i = decide ((lf s i).head? = some c) := by
 unfold pre w1
 cases lf s i with
 | nil => rfl
 | cons a r => simp [List.isPrefixOf, eq_comm, Bool.beq_eq_decide_eq]
theorem lf_next (s : ByteArray) (i : Nat) : lf s (i + 1) = (lf s i).tail := by
 unfold lf; rw [← List.drop_drop]; simp
theorem pre_room {wd s : ByteArray} {i : Nat} (h0 : 0 < wd.size) (h : pre wd s i = true) : i + wd.size ≤ s.size := ((pre_iff h0).1 h).1

def digitB (c : UInt8) : Bool := 48 ≤ c.toNat && c.toNat ≤ 57
theorem digit_yes {c : UInt8} (h : 48 ≤ c.toNat ∧ c.toNat ≤ 57) : digitB c = true := by unfold digitB; simp [h.1, h.2]
theorem digit_no {c : UInt8} (h : c.toNat < 48 ∨ 57 < c.toNat) : digitB c = false := by
 unfold digitB; simp only [Bool.and_eq_false_iff, decide_eq_false_iff_not]; omega
theorem nameByte_digit {c : UInt8} (h : c.toNat < 97 ∨ 122 < c.toNat) : nameByte c = digitB c := by
 unfold nameByte digitB
 rw [show (decide (97 ≤ c.toNat) && decide (c.toNat ≤ 122)) = false from by simp only [Bool.and_eq_false_iff, decide_eq_false_iff_not]; omega]
 rfl
theorem isDigit_any (c : UInt8) (w : World) : Calls Tryz.prog 99 #[.int .u8 c.toNat] w fun e w' => e = .returned (.bool (digitB c)) ∧ w' = w := by
 have hc : (48 ≤ c.toNat ∧ c.toNat ≤ 57) ∨ c.toNat < 48 ∨ 57 < c.toNat := by omega
 rcases hc with hc | hc | hc
 · have HB := hH (digit_yes hc)
   obtain ⟨h1, h2⟩ := hc
   have d2 : decide ((c.toNat : Int) ≤ 57) = true := by simp; omega
   go_enter Tryz.func99, Tryz.ntmps99
   go_wp2_with fail
   go_ret
   exact ⟨ret_bool (uh HB).symm, rfl⟩
 · have HB := hH (digit_no (Or.inl hc))
   go_enter Tryz.func99, Tryz.ntmps99
   go_wp2_with fail
   go_ret
   exact ⟨ret_bool (uh HB).symm, rfl⟩
 · have HB := hH (digit_no (Or.inr hc))
   have d2 : decide ((c.toNat : Int) ≤ 57) = false := by simp; omega
   go_enter Tryz.func99, Tryz.ntmps99
   go_wp2_with fail
   go_ret
   exact ⟨ret_bool (uh HB).symm, rfl⟩
theorem isNameByte_any (c : UInt8) (w : World) : Calls Tryz.prog 86 #[.int .u8 c.toNat] w fun e w' => e = .returned (.bool (nameByte c)) ∧ w' = w := by
 have hc : (97 ≤ c.toNat ∧ c.toNat ≤ 122) ∨ c.toNat < 97 ∨ 122 < c.toNat := by omega
 rcases hc with hc | hc | hc
 · have HN := hH (nameByte_yes (Or.inl hc))
   obtain ⟨h1, h2⟩ := hc
   have d2 : decide ((c.toNat : Int) ≤ 122) = true := by simp; omega
   go_enter Tryz.func86, Tryz.ntmps86
   go_wp2_with (go_at_call 99; refine (isDigit_any _ _).mono ?_; rintro e w' ⟨rfl, rfl⟩)
   go_ret
   exact ⟨ret_bool (uh HN).symm, rfl⟩
 · have HN := hH (nameByte_digit (Or.inl hc))
   go_enter Tryz.func86, Tryz.ntmps86
   go_wp2_with (go_at_call 99; refine (isDigit_any _ _).mono ?_; rintro e w' ⟨rfl, rfl⟩)
   go_ret
   exact ⟨ret_bool (uh HN).symm, rfl⟩
 · have HN := hH (nameByte_digit (Or.inr hc))
   have d2 : decide ((c.toNat : Int) ≤ 122) = false := by simp; omega
   go_enter Tryz.func86, Tryz.ntmps86
   go_wp2_with (go_at_call 99; refine (isDigit_any _ _).mono ?_; rintro e w' ⟨rfl, rfl⟩)
   go_ret
   exact ⟨ret_bool (uh HN).symm, rfl⟩
theorem nameOk_digit {s : ByteArray} (h0 : 0 < s.size) (h : digitB s[0] = true) : nameOkB s = false := by
 refine nameOk_first h0 ?_
 simp only [digitB, Bool.and_eq_true, decide_eq_true_eq] at h
 omega
theorem nameOk_yes2 {s : ByteArray} (h1 : 0 < s.size) (h2 : s.size ≤ 8) (hf : digitB s[0] = false) (ha : allTo nameByte s s.size) : nameOkB s = true := by
 refine nameOk_yes h1 h2 ?_ ha
 have hb := ha 0 h1 h1
 simp only [nameByte, digitB, Bool.or_eq_true, Bool.and_eq_true, Bool.and_eq_false_iff, decide_eq_true_eq, decide_eq_false_iff_not] at hb hf
 omega
theorem nameOk_any (s : ByteArray) (w : World) (hs : s.size ≤ 9223372036854775807) :
 Calls Tryz.prog 98 #[.string s] w fun e w' => e = .returned (.bool (nameOkB s)) ∧ w' = w := by
 have hl : s.size < 1 ∨ 8 < s.size ∨ (0 < s.size ∧ s.size ≤ 8) := by omega
 rcases hl with hl | hl | ⟨hl0, hl8⟩
 · have HN := hH (nameOk_len (Or.inl hl))
   go_enter Tryz.func98, Tryz.ntmps98
   go_wp2_with fail
   go_ret
   exact ⟨ret_bool (uh HN).symm, rfl⟩
 · have HN := hH (nameOk_len (Or.inr hl))
   go_enter Tryz.func98, Tryz.ntmps98
   go_wp2_with fail
   go_ret
   exact ⟨ret_bool (uh HN).symm, rfl⟩
 · by_cases hf : digitB s[0] = true
   · have HN := hH (nameOk_digit hl0 hf)
     go_enter Tryz.func98, Tryz.ntmps98
     go_wp2_with (go_at_call 99; refine (isDigit_any _ _).mono ?_; rintro e w' ⟨rfl, rfl⟩)
     go_ret
     exact ⟨ret_bool (uh HN).symm, rfl⟩
   · have hf' : digitB s[0] = false := by simpa using hf
     have HF := hH hf'
     clear hf
     go_enter Tryz.func98, Tryz.ntmps98
     go_wp2_with (go_at_call 99; refine (isDigit_any _ _).mono ?_; rintro e w' ⟨rfl, rfl⟩)
     go_loop [19] (fun i => ∃ k : Nat, k ≤ s.size ∧ i = .int .i64 k ∧ Hid (allTo nameByte s k)) (fun i => s.size - (intOf i).toNat)
     case atStart => exact ⟨0, Nat.zero_le _, rfl, fun j hj => by omega⟩
     case round =>
      obtain ⟨k, hk, rfl, HA⟩ := hrel
      by_cases hlt : k < s.size
      · by_cases hb : nameByte s[k] = true
        · have HN := hH (allTo_succ HA.out hlt hb)
          go_wp2_with (go_at_call 86; refine (isNameByte_any _ _).mono ?_; rintro e w' ⟨rfl, rfl⟩)
          go_round
          case rel => exact ⟨k + 1, by omega, by go_num, HN⟩
          case measure => simp [intOf]; omega
        · have hb' : nameByte s[k] = false := by simpa using hb
          clear hb
          have HN := hH (nameOk_not hlt hb')
          go_wp2_with (go_at_call 86; refine (isNameByte_any _ _).mono ?_; rintro e w' ⟨rfl, rfl⟩)
          go_ret
          exact ⟨ret_bool (uh HN).symm, rfl⟩
      · go_wp2_with fail
        go_ret
        obtain rfl : k = s.size := by omega
        exact ⟨ret_bool (nameOk_yes2 hl0 hl8 (uh HF) HA.out).symm, rfl⟩

abbrev fltE : Ending := .panicked [{ v := .iface 142 (.agg #[]), recovered := false }]
theorem treeWant_yes (w : World) : Calls Tryz.prog 63 #[.bool true] w fun e w' => e = .returned (.tuple #[]) ∧ w' = w := by
 go_enter Tryz.func63, Tryz.ntmps63
 go_wp2_with fail
 go_end0
 exact ⟨rfl, rfl⟩
theorem treeWant_no (w : World) : Calls Tryz.prog 63 #[.bool false] w fun e w' => e = fltE ∧ w' = w := by
 go_enter Tryz.func63, Tryz.ntmps63
 go_wp2_with fail
 exact ⟨rfl, rfl, rfl⟩
end Go.Proofs.YtccnehcpmkgbhaaGreatDoor
