/- The walk of the program's KindWiden. Conditions: errors.errorType holds the handle of the type error; the table of sorts is laid. -/
import Derived.Test.YtcpfelaffclalaaGreatDoorPart25
import Derived.Test.YtcpfelaffclalaaGreatDoorPart11
import Derived.Test.YtcpfelaffclalaaGreatDoorPart31
import Derived.Test.YtcpfelaffclalaaGreatDoorPart30
import Derived.Test.YtcpfelaffclalaaGreatDoorPart18
import Derived.Test.YtcpfelaffclalaaGreatDoorPart08
namespace Go.Proofs.YtcpfelaffclalaaGreatDoor
open Go Go.RowKit

theorem GWd.at {a b : Kd} {P : Nat → Prop} {W : World} {fv : Value} (h : GWd a b P W fv) (hw : wOk 40 a b) : ∃ (f : Nat) (caps : Array Value), fv = .func (.func f) #[] caps ∧ (∀ args w, (callFunc f args).run Tryz.prog w = .ok (.enter f args) w) ∧
    ∀ W', (∀ x, P x → x < W.heap.size → W'.heap[x]? = W.heap[x]?) → ∀ (t : Tr) (c : C5), Rep (fun x => x < W'.heap.size) W' t c → (a.sort = 0 ∨ (hT t a = true ∧ okH t = true)) →
      Calls Tryz.prog f (#[.agg #[c.c0, c.c1, c.c2, c.c3, c.c4]] ++ caps) W' (TE (widF 40 a b t) W') := by
  obtain ⟨n, h1, f, caps, h2, h3, h4⟩ := h
  refine ⟨f, caps, h2, h3, fun W' hW t c hr ht => ?_⟩
  rw [← wid_fuel n 40 a b t h1 hw]
  exact h4 W' hW t c hr ht
theorem Tab.on {w W : World} (h : Tab w) (hb : Below w.heap.size w W) : Tab W := h.of_block (hb.block _ h.lt)
set_option maxRecDepth 100000 in
set_option maxHeartbeats 3200000 in
theorem implKindWiden_any (a b : Kd) (t : Tr) (P Q R : Nat → Prop) (c d : C3) (x : C5) (w : World) (hE : ErrT w) (hTb : Tab w) (hP : ∀ x, P x → x < w.heap.size) (hQ : ∀ x, Q x → x < w.heap.size) (hR : ∀ x, R x → x < w.heap.size) (ha : KRep P w a c) (hb : KRep Q w b d) (ht : Rep R w t x) (hwa : wKd a ≤ 1048576) (hwb : wKd b ≤ 1048576) :
    Calls Tryz.prog 14 #[.agg #[c.c0, c.c1, c.c2], .agg #[d.c0, d.c1, d.c2], .agg #[x.c0, x.c1, x.c2, x.c3, x.c4]] w (WdE (widA a b t) w) := by
  have ha' : KRep (fun x => x < w.heap.size) w a c := KRep.carry (fun _ _ => rfl) hP _ _ ha
  have hb' : KRep (fun x => x < w.heap.size) w b d := KRep.carry (fun _ _ => rfl) hQ _ _ hb
  have ht' : Rep (fun x => x < w.heap.size) w t x := Rep.carry (fun _ _ => rfl) hR _ _ ht
  have hca : ∀ W, Below w.heap.size w W → KRep (fun x => x < W.heap.size) W a c := fun W hW => KRep.carry (fun x hx => hW.block x hx) (fun _ hx => Nat.lt_of_lt_of_le hx hW.size) _ _ ha'
  have hcb : ∀ W, Below w.heap.size w W → KRep (fun x => x < W.heap.size) W b d := fun W hW => KRep.carry (fun x hx => hW.block x hx) (fun _ hx => Nat.lt_of_lt_of_le hx hW.size) _ _ hb'
  have hct : ∀ W, Below w.heap.size w W → Rep (fun x => x < W.heap.size) W t x := fun W hW => Rep.carry (fun x hx => hW.block x hx) (fun _ hx => Nat.lt_of_lt_of_le hx hW.size) _ _ ht'
  have HW : Hid (∀ W T, Below w.heap.size w W → WT W T → Calls Tryz.prog 29 #[.pointer (some ⟨T, 0, none⟩), .agg #[c.c0, c.c1, c.c2], .agg #[d.c0, d.c1, d.c2]] W fun e w' => Below W.heap.size W w' ∧ WhE GWd a b W w' e) := fun W T hW hT =>
    ofWhole_any gWd a b (fun x => x < W.heap.size) (fun x => x < W.heap.size) c d W T hT (hE.on hW) (fun _ h => h) (fun _ h => h) (hca W hW) (hcb W hW) hwa hwb
  have HHAS : Hid (∀ W, Below w.heap.size w W → Calls Tryz.prog 37 #[.agg #[c.c0, c.c1, c.c2], .agg #[x.c0, x.c1, x.c2, x.c3, x.c4]] W fun e w' => e = .returned (.bool (hasA a t)) ∧ Below W.heap.size W w') := fun W hW =>
    implKindHas_any a t _ _ c x W (fun _ h => h) (fun _ h => h) (hca W hW) (hct W hW) (hTb.on hW) hwa
  have HTB : Hid (∀ W, Below w.heap.size w W → Tab W) := fun W hW => hTb.on hW
  have HCT := hide hct
  obtain ⟨c0, c1, c2⟩ := c
  obtain ⟨d0, d1, d2⟩ := d
  obtain ⟨x0, x1, x2, x3, x4⟩ := x
  obtain ⟨e0, -, ⟨a3, cap3, e1, -⟩, a4, cap4, e2, -⟩ := ha.open
  obtain ⟨g0, -, ⟨b3, bap3, g1, -⟩, b4, bap4, g2, -⟩ := hb.open
  obtain ⟨q0, q1, q2, -, -, -, ⟨t3, tap3, q3, -⟩, t4, tap4, q4, -⟩ := ht.open
  simp only at e0 e1 e2 g0 g1 g2 q0 q1 q2 q3 q4
  subst e0 e1 e2 g0 g1 g2 q0 q1 q2 q3 q4
  have HBX := hide (Bx4.start w (.int .i64 a.sort) (.slice a3 a.names.length cap3) (.slice a4 a.kids.length cap4) (.int .i64 b.sort) (.slice b3 b.names.length bap3) (.slice b4 b.kids.length bap4) (.int .i64 t.sort) (.int .i64 t.num) (.string t.text) (.slice t3 t.names.length tap3) (.slice t4 t.kids.length tap4))
  clear ha hb ht ha' hb' ht' hP hQ hR hE hwa hwb hca hcb hct hTb
  go_enter Tryz.func14, Tryz.ntmps14
  go_upto_region 1 with fail
  generalize ((((w.alloc (.cells #[.int .i64 a.sort, .slice a3 a.names.length cap3, .slice a4 a.kids.length cap4] 30)).alloc (.cells #[.int .i64 b.sort, .slice b3 b.names.length bap3, .slice b4 b.kids.length bap4] 30)).alloc (.cells #[.int .i64 t.sort, .int .i64 t.num, .string t.text, .slice t3 t.names.length tap3, .slice t4 t.kids.length tap4] 39)).alloc (.cells #[.int .i64 0, .int .i64 0, .string ⟨#[]⟩, .slice none 0 0, .slice none 0 0] 39)) = W0 at HBX ⊢
  have x0 := (unhide HBX).bA.cell (i := 0) (by omega); have x1 := (unhide HBX).bA.cell (i := 1) (by omega); have x2 := (unhide HBX).bA.cell (i := 2) (by omega)
  have y0 := (unhide HBX).bB.cell (i := 0) (by omega); have y1 := (unhide HBX).bB.cell (i := 1) (by omega); have y2 := (unhide HBX).bB.cell (i := 2) (by omega)
  simp only [row3] at x0 x1 x2 y0 y1 y2
  go_region_held3 (fun W => W.cell? ⟨w.heap.size, 0, none⟩ = some (.int .i64 a.sort) ∧ W.cell? ⟨w.heap.size, 1, none⟩ = some (.slice a3 a.names.length cap3) ∧ W.cell? ⟨w.heap.size, 2, none⟩ = some (.slice a4 a.kids.length cap4) ∧ W.cell? ⟨w.heap.size + 1, 0, none⟩ = some (.int .i64 b.sort) ∧ W.cell? ⟨w.heap.size + 1, 1, none⟩ = some (.slice b3 b.names.length bap3) ∧ W.cell? ⟨w.heap.size + 1, 2, none⟩ = some (.slice b4 b.kids.length bap4)) (first | exact ⟨x0, x1, x2, y0, y1, y2⟩ | exact HS2 | exact HS1 | go_keep)
    (first
      | (go_at_call 28
         refine (newWidenings_any W0.drew).mono ?_
         rintro e W1 ⟨rfl, hb1, ht1⟩
         have HS1 : W1.cell? ⟨w.heap.size, 0, none⟩ = some (.int .i64 a.sort) ∧ W1.cell? ⟨w.heap.size, 1, none⟩ = some (.slice a3 a.names.length cap3) ∧ W1.cell? ⟨w.heap.size, 2, none⟩ = some (.slice a4 a.kids.length cap4) ∧ W1.cell? ⟨w.heap.size + 1, 0, none⟩ = some (.int .i64 b.sort) ∧ W1.cell? ⟨w.heap.size + 1, 1, none⟩ = some (.slice b3 b.names.length bap3) ∧ W1.cell? ⟨w.heap.size + 1, 2, none⟩ = some (.slice b4 b.kids.length bap4) := ⟨cell_onP hb1 x0, cell_onP hb1 x1, cell_onP hb1 x2, cell_onP hb1 y0, cell_onP hb1 y1, cell_onP hb1 y2⟩
         have HBX1 := hide ((unhide HBX).on ((Below.refl _ W0).drew.trans hb1))
         have HT1 := hide ht1
         clear hb1 ht1)
      | (go_at_call 29
         refine (unhide HW W1 _ (unhide HBX1).below (unhide HT1)).mono ?_
         rintro e W2 ⟨hb2, fv, rfl, hgw⟩
         have HS2 : W2.cell? ⟨w.heap.size, 0, none⟩ = some (.int .i64 a.sort) ∧ W2.cell? ⟨w.heap.size, 1, none⟩ = some (.slice a3 a.names.length cap3) ∧ W2.cell? ⟨w.heap.size, 2, none⟩ = some (.slice a4 a.kids.length cap4) ∧ W2.cell? ⟨w.heap.size + 1, 0, none⟩ = some (.int .i64 b.sort) ∧ W2.cell? ⟨w.heap.size + 1, 1, none⟩ = some (.slice b3 b.names.length bap3) ∧ W2.cell? ⟨w.heap.size + 1, 2, none⟩ = some (.slice b4 b.kids.length bap4) := ⟨cell_onQ hb2 HS1.1, cell_onQ hb2 HS1.2.1, cell_onQ hb2 HS1.2.2.1, cell_onQ hb2 HS1.2.2.2.1, cell_onQ hb2 HS1.2.2.2.2.1, cell_onQ hb2 HS1.2.2.2.2.2⟩
         have HBX2 := hide ((unhide HBX1).on hb2)
         have HGW := hide hgw
         clear hb2 hgw))
  all_goals
    clear HS1 HS2 x0 x1 x2 y0 y1 y2 HW HBX1 HT1 HBX
    have x0 := (unhide HBX2).bA.cell (i := 0) (by omega); have x1 := (unhide HBX2).bA.cell (i := 1) (by omega); have x2 := (unhide HBX2).bA.cell (i := 2) (by omega)
    have y0 := (unhide HBX2).bT.cell (i := 0) (by omega); have y1 := (unhide HBX2).bT.cell (i := 1) (by omega); have y2 := (unhide HBX2).bT.cell (i := 2) (by omega); have y3 := (unhide HBX2).bT.cell (i := 3) (by omega); have y4 := (unhide HBX2).bT.cell (i := 4) (by omega)
    have m0 := (unhide HBX2).bR.cell (i := 0) (by omega); have m1 := (unhide HBX2).bR.cell (i := 1) (by omega); have m2 := (unhide HBX2).bR.cell (i := 2) (by omega); have m3 := (unhide HBX2).bR.cell (i := 3) (by omega); have m4 := (unhide HBX2).bR.cell (i := 4) (by omega); have mf := (unhide HBX2).bR.frozen
    simp only [row3, row5] at x0 x1 x2 y0 y1 y2 y3 y4 m0 m1 m2 m3 m4
    by_cases hfit : fitsD a b = true
    · have HF := hide hfit
      obtain ⟨-, hgw⟩ := unhide HGW hfit
      obtain ⟨f1, f2, f3, f4, f5⟩ := fitsD_open hfit
      obtain ⟨f, caps, rfl, hent, hcall⟩ := hgw.at (wOk_of_fit 40 a b f1 f2 f4 f5)
      have HCALL := hide hcall
      rw [hfit]
      clear hfit hgw f1 f2 f3 f4 f5 hcall HGW
      go_wp2_with fail
      refine (unhide HHAS _ (unhide HBX2).below).mono ?_
      rintro e W3 ⟨rfl, hb3⟩
      have HBX3 := hide ((unhide HBX2).on hb3)
      have HB3 := hide hb3
      clear hb3 x0 x1 x2 y0 y1 y2 y3 y4 m0 m1 m2 m3 m4 mf
      have y0 := (unhide HBX3).bT.cell (i := 0) (by omega); have y1 := (unhide HBX3).bT.cell (i := 1) (by omega); have y2 := (unhide HBX3).bT.cell (i := 2) (by omega); have y3 := (unhide HBX3).bT.cell (i := 3) (by omega); have y4 := (unhide HBX3).bT.cell (i := 4) (by omega)
      have m0 := (unhide HBX3).bR.cell (i := 0) (by omega); have m1 := (unhide HBX3).bR.cell (i := 1) (by omega); have m2 := (unhide HBX3).bR.cell (i := 2) (by omega); have m3 := (unhide HBX3).bR.cell (i := 3) (by omega); have m4 := (unhide HBX3).bR.cell (i := 4) (by omega); have mf := (unhide HBX3).bR.frozen
      simp only [row5] at y0 y1 y2 y3 y4 m0 m1 m2 m3 m4
      by_cases hhas : hasA a t = true
      · have HH := hide hhas
        obtain ⟨hq1, hq2⟩ := hasA_open hhas
        have HC := hide (unhide HCALL W3 (fun x _ hl => (unhide HB3).block x hl) t ⟨_, _, _, _, _⟩ (unhide HCT W3 (unhide HBX3).below) (Or.inr ⟨hq1, hq2⟩))
        rw [hhas]
        clear hhas hq1 hq2 HCALL HB3 HHAS
        generalize hT : widF 40 a b t = T at *
        have HT := hide hT
        clear hT
        go_wp2_with fail
        refine (unhide HC).mono ?_
        rintro e W4 ⟨d, F, rfl, ho, hnd, hF, hb4⟩
        obtain ⟨a7, cap7, a8, cap8, rfl⟩ := ho.forms
        have hbx5 := ((unhide HBX3).on hb4).on ((Below.refl W4.heap.size W4).alloc (Nat.le_refl _) (.cells #[.int .i64 T.sort, .int .i64 T.num, .string T.text, .slice a7 T.names.length cap7, .slice a8 T.kids.length cap8] 39))
        have hr5 := row5_alloc W4 (.int .i64 T.sort) (.int .i64 T.num) (.string T.text) (.slice a7 T.names.length cap7) (.slice a8 T.kids.length cap8) 39
        have ho5 := Own.carry T _ F (fun b hb => Below.heap_alloc W4 (.cells #[.int .i64 T.sort, .int .i64 T.num, .string T.text, .slice a7 T.names.length cap7, .slice a8 T.kids.length cap8] 39) _ (hF b hb).2) ho
        have hlF : ∀ b, b ∈ F → w.heap.size + 4 ≤ b ∧ b < (W4.alloc (.cells #[.int .i64 T.sort, .int .i64 T.num, .string T.text, .slice a7 T.names.length cap7, .slice a8 T.kids.length cap8] 39)).heap.size := fun b hb => by
          have h1 := hF b hb; have h2 := (unhide HBX3).size
          rw [World.size_alloc]; omega
        have htk := implTreeOk_any T (· ∈ F) _ _ (fun b hb => (hlF b hb).2) (Own.rep T _ F (fun _ h => h) ho5) ((unhide HTB) _ hbx5.below)
        have HTK := hide htk; have HBX5 := hide hbx5; have HR5 := hide hr5; have HO5 := hide ho5; have HLF := hide hlF; have HND := hide hnd
        clear ho hnd hF hb4 hbx5 hr5 ho5 hlF htk HC m0 m1 m2 m3 m4 mf y0 y1 y2 y3 y4
        go_wp2_with fail
        generalize W4.alloc (.cells #[.int .i64 T.sort, .int .i64 T.num, .string T.text, .slice a7 T.names.length cap7, .slice a8 T.kids.length cap8] 39) = W5 at HTK HBX5 HR5 HO5 HLF ⊢
        refine (unhide HTK).mono ?_
        rintro e W6 ⟨rfl, hb6⟩
        have hbx6 := (unhide HBX5).on hb6
        have hr6 := (unhide HR5).of_block (hb6.block _ (unhide HR5).lt)
        have ho6 := Own.carry T _ F (fun b hb => hb6.block b (unhide HLF b hb).2) (unhide HO5)
        have hb6s := hb6.size
        have y0 := hr6.cell (i := 0) (by omega); have y1 := hr6.cell (i := 1) (by omega); have y2 := hr6.cell (i := 2) (by omega); have y3 := hr6.cell (i := 3) (by omega); have y4 := hr6.cell (i := 4) (by omega)
        have m0 := hbx6.bR.cell (i := 0) (by omega); have m1 := hbx6.bR.cell (i := 1) (by omega); have m2 := hbx6.bR.cell (i := 2) (by omega); have m3 := hbx6.bR.cell (i := 3) (by omega); have m4 := hbx6.bR.cell (i := 4) (by omega); have mf := hbx6.bR.frozen
        simp only [row5] at y0 y1 y2 y3 y4 m0 m1 m2 m3 m4
        have HBX6 := hide hbx6; have HO6 := hide ho6; have HB6S := hide hb6s
        clear hbx6 hr6 ho6 hb6 hb6s HTK HBX5 HR5 HO5
        by_cases hp : 0 < pT T 1
        · rw [decide_eq_true hp]
          have HP := hide hp
          clear hp
          go_wp2_with fail
          refine bodyPost_ret (v := .tuple #[.agg #[.int .i64 T.sort, .int .i64 T.num, .string T.text, .slice a7 T.names.length cap7, .slice a8 T.kids.length cap8], .bool true]) (by simp [results, Tryz.results14, go_sem, m0, m1, m2, m3, m4]) rfl ?_
          have hA : widA a b t = some T := by
            rw [← unhide HT]
            exact widA_yes (unhide HF) (unhide HH) (by rw [unhide HT]; exact unhide HP)
          rw [hA]
          refine ⟨⟨_, _, _, _, _⟩, F, rfl, Own.carry T _ F (fun b hb => heap_set5s _ _ _ _ _ _ _ _ (by have := (unhide HLF b hb).1; omega)) (unhide HO6), unhide HND, fun b hb => ?_, below_set5s (unhide HBX6).below _ _ _ _ _ _ (by omega)⟩
          rw [size_set5s]
          have := unhide HLF b hb; have := unhide HB6S; omega
        · rw [decide_eq_false hp]
          have HN := hide (show widA a b t = none from widA_no3 (by rw [unhide HT]; exact hp))
          clear hp
          go_wp2_with fail
          exact bodyPost_ret (v := .tuple #[.agg #[.int .i64 0, .int .i64 0, .string ⟨#[]⟩, .slice none 0 0, .slice none 0 0], .bool false]) (by simp [results, Tryz.results14, go_sem, m0, m1, m2, m3, m4]) rfl (WdE.none (unhide HN) (below_set5s (unhide HBX6).below _ _ _ _ _ _ (by omega)))
      · have HN := hide (widA_no2 (b := b) (Bool.eq_false_iff.2 hhas))
        rw [Bool.eq_false_iff.2 hhas]
        clear hhas HCALL HB3 HHAS HF
        go_wp2_with fail
        exact bodyPost_ret (v := .tuple #[.agg #[.int .i64 0, .int .i64 0, .string ⟨#[]⟩, .slice none 0 0, .slice none 0 0], .bool false]) (by simp [results, Tryz.results14, go_sem, m0, m1, m2, m3, m4]) rfl (WdE.none (unhide HN) (below_set5s (unhide HBX3).below _ _ _ _ _ _ (by omega)))
    · have HN := hide (widA_no1 (t := t) (Bool.eq_false_iff.2 hfit))
      rw [Bool.eq_false_iff.2 hfit]
      clear hfit HGW HHAS
      go_wp2_with fail
      exact bodyPost_ret (v := .tuple #[.agg #[.int .i64 0, .int .i64 0, .string ⟨#[]⟩, .slice none 0 0, .slice none 0 0], .bool false]) (by simp [results, Tryz.results14, go_sem, m0, m1, m2, m3, m4]) rfl (WdE.none (unhide HN) (below_set5s (unhide HBX2).below _ _ _ _ _ _ (by omega)))
end Go.Proofs.YtcpfelaffclalaaGreatDoor

/- The specification's l3Widen: its boxes, what is said of it. No program walked, no conditions. -/

namespace Go.Proofs.YtcpfelaffclalaaGreatDoor
open Go Go.RowKit

/-- What l3Widen gives. -/
def WSaid (n : Nat) : Prop := ∀ (a b : Kd) (t : Tr), ksz b ≤ n → n ≤ 40 → fitF n a b = true → hT t a = true → okH t = true → ∀ (c d : C3) (x : C5) (w : World), KW w a c → KW w b d → Rep (fun x => x < w.heap.size) w t x →
    Calls Tryz.prog 34 #[.agg #[c.c0, c.c1, c.c2], .agg #[d.c0, d.c1, d.c2], .agg #[x.c0, x.c1, x.c2, x.c3, x.c4]] w (TE (widF n a b t) w)
/-- The five boxes. -/
theorem l3w_start (w : World) (c0 c1 c2 d0 d1 d2 x0 x1 x2 x3 x4 : Value) : Bx4 w (((((w.alloc (.cells #[c0, c1, c2] 30)).alloc (.cells #[d0, d1, d2] 30)).alloc (.cells #[x0, x1, x2, x3, x4] 39)).alloc (.cells #[.int .i64 0, .int .i64 0, .string ⟨#[]⟩, .slice none 0 0, .slice none 0 0] 39)).alloc (.cells #[d0, x1, x2, .slice none 0 0, .slice none 0 0] 39)) ⟨c0, c1, c2⟩ ⟨d0, d1, d2⟩ ⟨x0, x1, x2, x3, x4⟩ ∧
    (((((w.alloc (.cells #[c0, c1, c2] 30)).alloc (.cells #[d0, d1, d2] 30)).alloc (.cells #[x0, x1, x2, x3, x4] 39)).alloc (.cells #[.int .i64 0, .int .i64 0, .string ⟨#[]⟩, .slice none 0 0, .slice none 0 0] 39)).alloc (.cells #[d0, x1, x2, .slice none 0 0, .slice none 0 0] 39)).rowIs (w.heap.size + 4) 39 5 (row5 d0 x1 x2 (.slice none 0 0) (.slice none 0 0)) ∧
    (((((w.alloc (.cells #[c0, c1, c2] 30)).alloc (.cells #[d0, d1, d2] 30)).alloc (.cells #[x0, x1, x2, x3, x4] 39)).alloc (.cells #[.int .i64 0, .int .i64 0, .string ⟨#[]⟩, .slice none 0 0, .slice none 0 0] 39)).alloc (.cells #[d0, x1, x2, .slice none 0 0, .slice none 0 0] 39)).heap.size = w.heap.size + 5 := by
  have h := Bx4.start w c0 c1 c2 d0 d1 d2 x0 x1 x2 x3 x4
  have hz : ((((w.alloc (.cells #[c0, c1, c2] 30)).alloc (.cells #[d0, d1, d2] 30)).alloc (.cells #[x0, x1, x2, x3, x4] 39)).alloc (.cells #[.int .i64 0, .int .i64 0, .string ⟨#[]⟩, .slice none 0 0, .slice none 0 0] 39)).heap.size = w.heap.size + 4 := by simp
  generalize ((((w.alloc (.cells #[c0, c1, c2] 30)).alloc (.cells #[d0, d1, d2] 30)).alloc (.cells #[x0, x1, x2, x3, x4] 39)).alloc (.cells #[.int .i64 0, .int .i64 0, .string ⟨#[]⟩, .slice none 0 0, .slice none 0 0] 39)) = W at h hz ⊢
  have h5 := row5_alloc W d0 x1 x2 (.slice none 0 0) (.slice none 0 0) 39
  rw [hz] at h5
  exact ⟨h.on ((Below.refl _ _).alloc (Nat.le_refl _) _), h5, by rw [World.size_alloc, hz]⟩
end Go.Proofs.YtcpfelaffclalaaGreatDoor
