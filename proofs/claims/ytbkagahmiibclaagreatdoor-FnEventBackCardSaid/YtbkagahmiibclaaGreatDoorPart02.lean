/- The walk of the specification's l5Names, and of l5Kind where it reads no kids: some schema in new memory. Draws at most 10^8. -/
import Derived.Test.YtbkagahmiibclaaGreatDoorPart00
import Derived.Test.YtbkagahmiibclaaGreatDoorPart01
import Derived.Deep.RegionLaw
import Derived.Deep.AppendLies
import Derived.Deep.CutRange
namespace Go.Proofs.YtbkagahmiibclaaGreatDoor
open Go Go.RowKit

/-- How many draws, and how great a schema, at most. -/
def cd : Nat → Nat
  | 0 => 30
  | d + 1 => 30 + 5 * cd d

/-- What drawing a schema comes to. -/
def LkEnd (d R : Nat) (w w' : World) (v : Value) (b : List UInt8) (p : Nat) (e : Ending) : Prop :=
  ∃ (k : Kd) (c : C3) (F : List Nat) (p' : Nat), e = .returned (.agg #[c.c0, c.c1, c.c2]) ∧ OwnD w' k c F ∧ F.Nodup ∧ (∀ x, x ∈ F → w.heap.size ≤ x ∧ x < w'.heap.size) ∧ DR R w' v b p' ∧ p' ≤ p + cd d ∧ wKd k ≤ cd d ∧ But R w w'

def LkSaid (d : Nat) : Prop := ∀ (R : Nat) (w : World) (v : Value) (b : List UInt8) (p : Nat) (top : Bool), DR R w v b p → p + cd d ≤ 100000000 →
  Calls Tryz.prog 83 #[.pointer (some ⟨R, 0, none⟩), .int .i64 ((d : Int) + 1), .bool top] w fun e w' => LkEnd d R w w' v b p e

theorem DR.set {R X : Nat} {w : World} {v : Value} {b : List UInt8} {p : Nat} (h : DR R w v b p) (hX : R < X) (o : Nat) (u : Value) : DR R (w.setCell ⟨X, o, none⟩ u) v b p :=
  h.block (fun g hg => Below.heap_setCell _ _ _ _ (by simp; omega)) (h.cells.of_block (Below.heap_setCell _ _ _ _ (by simp; omega)))
theorem DR.grown {R : Nat} {w w' : World} {v : Value} {b : List UInt8} {p : Nat} {row : Option Nat} (h : DR R w v b p) (hg : w.grownBy w' row) (hr : ∀ x, row = some x → R < x) : DR R w' v b p :=
  h.block (fun g hlt => hg.block g (by have := h.cells.lt; omega) (fun e => by have := hr g e.symm; omega)) (h.cells.of_block (hg.block R h.cells.lt (fun e => by have := hr R e.symm; omega)))
theorem but_setx {R : Nat} {w w' : World} (h : But R w w') {X : Nat} (hX : w.heap.size ≤ X) (o : Nat) (u : Value) : But R w (w'.setCell ⟨X, o, none⟩ u) :=
  ⟨h.os, h.tape, h.output, by simp only [size_setCell]; exact h.size, fun i hi hne => (Below.heap_setCell _ _ _ _ (by simp; omega)).trans (h.block i hi hne)⟩

/-- The answer is put into its box. -/
theorem lk_end {d R : Nat} {w W : World} {v : Value} {b : List UInt8} {p p' : Nat} {k : Kd} {c : C3} {F : List Nat} (hR : R < w.heap.size) (ho : OwnD W k c F) (hnd : F.Nodup) (hF : ∀ x, x ∈ F → w.heap.size < x ∧ x < W.heap.size) (hd : DR R W v b p') (h1 : p' ≤ p + cd d) (h2 : wKd k ≤ cd d) (hb : But R w W) (c0 c1 c2 : Value) :
    LkEnd d R w (((W.setCell ⟨w.heap.size, 0, none⟩ c0).setCell ⟨w.heap.size, 1, none⟩ c1).setCell ⟨w.heap.size, 2, none⟩ c2) v b p (.returned (.agg #[c.c0, c.c1, c.c2])) := by
  refine ⟨k, c, F, p', rfl, OwnD.carry _ _ F (fun y hy => by have := (hF y hy).1; repeat rw [Below.heap_setCell _ _ _ _ (by simp <;> omega)]) ho, hnd, fun x hx => ⟨by have := (hF x hx).1; omega, by simp only [size_setCell]; exact (hF x hx).2⟩, ?_, h1, h2, ?_⟩
  · repeat refine DR.set ?_ hR _ _
    exact hd
  · repeat refine but_setx ?_ (Nat.le_refl _) _ _
    exact hb

theorem lk_leaf {d R : Nat} {w W : World} {v : Value} {b : List UInt8} {p p' : Nat} {s : Int} (hs : I64 s) (hR : R < w.heap.size) (hd : DR R W v b p') (h1 : p' ≤ p + cd d) (hb : But R w W) (o : Obj) (c0 c1 c2 : Value) :
    LkEnd d R w ((((W.setCell ⟨w.heap.size, 0, none⟩ c0).setCell ⟨w.heap.size, 1, none⟩ c1).setCell ⟨w.heap.size, 2, none⟩ c2).alloc o) v b p (.returned (.agg #[.int .i64 s, .slice none 0 0, .slice none 0 0])) := by
  refine ⟨.mk s [] [], ⟨_, _, _⟩, [], p', rfl, OwnD.leaf _ _ hs, List.nodup_nil, (fun x hx => by cases hx), ?_, h1, by simp [wKd, wS, wKs], ?_⟩
  · refine DR.on ?_ ((Below.refl _ _).alloc (Nat.le_refl _) o)
    repeat refine DR.set ?_ hR _ _
    exact hd
  · refine But.trans ?_ (But.alloc R _ o)
    repeat refine but_setx ?_ (Nat.le_refl _) _ _
    exact hb

/-- A schema with one kid is put into its box. -/
theorem lk_single {d R : Nat} {w W : World} {v : Value} {b : List UInt8} {p p' : Nat} {k : Kd} {c : C3} {F : List Nat} {s : Int} (hs : I64 s) (hR : R < w.heap.size) (ho : OwnD W k c F) (hnd : F.Nodup) (hF : ∀ x, x ∈ F → w.heap.size < x ∧ x < W.heap.size) (hX : w.heap.size < W.heap.size) (hd : DR R W v b p') (h1 : p' ≤ p + cd d) (h2 : wKd k + 1 ≤ cd d) (hb : But R w W) (c0 c1 c2 : Value) :
    LkEnd d R w ((((W.setCell ⟨w.heap.size, 0, none⟩ c0).setCell ⟨w.heap.size, 1, none⟩ c1).setCell ⟨w.heap.size, 2, none⟩ c2).alloc (.cells #[c.c0, c.c1, c.c2] 83)) v b p (.returned (.agg #[.int .i64 s, .slice none 0 0, .slice (some ⟨W.heap.size, 0, none⟩) 1 1])) := by
  have hz : (((W.setCell ⟨w.heap.size, 0, none⟩ c0).setCell ⟨w.heap.size, 1, none⟩ c1).setCell ⟨w.heap.size, 2, none⟩ c2).heap.size = W.heap.size := by simp only [size_setCell]
  have ho2 : OwnD (((W.setCell ⟨w.heap.size, 0, none⟩ c0).setCell ⟨w.heap.size, 1, none⟩ c1).setCell ⟨w.heap.size, 2, none⟩ c2) k c F := OwnD.carry _ _ F (fun y hy => by have := (hF y hy).1; repeat rw [Below.heap_setCell _ _ _ _ (by simp <;> omega)]) ho
  have ho3 := OwnD.single (t := 83) hs ho2 (fun x hx => by rw [hz]; exact (hF x hx).2)
  rw [hz] at ho3
  refine ⟨.mk s [] [k], ⟨_, _, _⟩, W.heap.size :: F, p', rfl, ho3, List.nodup_cons.2 ⟨fun hm => by have := (hF _ hm).2; omega, hnd⟩, fun x hx => ?_, ?_, h1, ?_, ?_⟩
  · rw [World.size_alloc, hz]
    rcases List.mem_cons.1 hx with rfl | hx
    · omega
    · have := hF x hx; omega
  · refine DR.on ?_ ((Below.refl _ _).alloc (Nat.le_refl _) _)
    repeat refine DR.set ?_ hR _ _
    exact hd
  · simp only [wKd, wS, wKs]; omega
  · refine But.trans ?_ (But.alloc R _ _)
    repeat refine but_setx ?_ (Nat.le_refl _) _ _
    exact hb

def nm8 : List ByteArray := [⟨#[97]⟩, ⟨#[98]⟩, ⟨#[105, 100]⟩, ⟨#[108, 105, 115, 116]⟩, ⟨#[110]⟩, ⟨#[115, 117, 109]⟩, ⟨#[116, 97, 103]⟩, ⟨#[119, 104, 111]⟩]

set_option maxRecDepth 100000 in
set_option maxHeartbeats 800000 in
theorem l5Names_any (w : World) : Calls Tryz.prog 114 #[] w fun e w' => e = .returned (.slice (some ⟨w.heap.size, 0, none⟩) 8 8) ∧ w' = w.alloc (.cells (nm8.map Value.string).toArray 9) := by
  go_enter Tryz.func114, Tryz.ntmps114
  go_wp2_with fail
  go_ret
  exact ⟨rfl, rfl⟩

/-- What stands while the fields of a form are drawn. -/
structure KL (R : Nat) (w : World) (B : Nat) (v : Value) (b : List UInt8) (p : Nat) (W : World) : Prop where
  dr : DR R W v b p
  but : But R w W
  box : W.rowIs w.heap.size 83 3 (row3 (.int .i64 0) (.slice none 0 0) (.slice none 0 0))
  nms : W.rowIs (B + 1) 9 8 (fun i => .string (nm8.getD i ByteArray.empty))
  ord : R < w.heap.size ∧ w.heap.size < B ∧ B + 1 < W.heap.size

theorem KL.next {R B : Nat} {w W W' : World} {v : Value} {b : List UInt8} {p p' : Nat} (h : KL R w B v b p W) (hd : DR R W' v b p') (hb : But R W W') : KL R w B v b p' W' := by
  obtain ⟨h1, h2, h3⟩ := h.ord
  exact ⟨hd, h.but.trans hb, h.box.of_block (hb.at h.box.lt (by omega)), h.nms.of_block (hb.at h.nms.lt (by omega)), h1, h2, by have := hb.size; omega⟩
theorem KL.touch {R B : Nat} {w W W' : World} {v : Value} {b : List UInt8} {p : Nat} {row : Option Nat} (h : KL R w B v b p W) (hg : W.grownBy W' row) (hr : ∀ x, row = some x → x = B ∨ B + 1 < x) : KL R w B v b p W' := by
  obtain ⟨h1, h2, h3⟩ := h.ord
  refine ⟨h.dr.grown hg (fun x e => by have := hr x e; omega), ?_, h.box.of_block (hg.block _ h.box.lt (fun e => by have := hr _ e.symm; omega)), h.nms.of_block (hg.block _ h.nms.lt (fun e => by have := hr _ e.symm; omega)), h1, h2, by have := hg.size; omega⟩
  exact ⟨hg.os.trans h.but.os, hg.tape.trans h.but.tape, hg.output.trans h.but.output, Nat.le_trans h.but.size hg.size, fun i hi hne => (hg.block i (Nat.lt_of_lt_of_le hi h.but.size) (fun e => by have := hr i e.symm; omega)).trans (h.but.block i hi hne)⟩

theorem box3_start (R : Nat) (w : World) (v : Value) (b : List UInt8) (p : Nat) (h : DR R w v b p) (o : Obj) : DR R (w.alloc o) v b p ∧ But R w (w.alloc o) ∧ R < w.heap.size :=
  ⟨h.on ((Below.refl _ w).alloc (Nat.le_refl _) o), But.alloc R w o, h.cells.lt⟩

/-- The loop begins. -/
theorem KL.start {R : Nat} {w w1 : World} {v : Value} {b : List UInt8} {p : Nat} (hR : R < w.heap.size) (hd : DR R w1 v b p) (hb : But R (w.alloc (.cells #[.int .i64 0, .slice none 0 0, .slice none 0 0] 83)) w1) :
    KL R w w1.heap.size v b p ((w1.alloc (.cells #[.int .i64 5, .slice none 0 0, .slice none 0 0] 83)).alloc (.cells (nm8.map Value.string).toArray 9)) ∧
    DInv (w1.heap.size + 2) w1.heap.size ((w1.alloc (.cells #[.int .i64 5, .slice none 0 0, .slice none 0 0] 83)).alloc (.cells (nm8.map Value.string).toArray 9)) 5 (.slice none 0 0) (.slice none 0 0) [] [] [] [] := by
  have hs := hb.size
  rw [World.size_alloc] at hs
  have hbA : Below w1.heap.size w1 ((w1.alloc (.cells #[.int .i64 5, .slice none 0 0, .slice none 0 0] 83)).alloc (.cells (nm8.map Value.string).toArray 9)) := ((Below.refl _ _).alloc (Nat.le_refl _) _).alloc (by simp) _
  have hX := (row3_alloc w (.int .i64 0) (.slice none 0 0) (.slice none 0 0) 83).of_block (hb.at (by simp) (by omega))
  have hrow : ((w1.alloc (.cells #[.int .i64 5, .slice none 0 0, .slice none 0 0] 83)).alloc (.cells (nm8.map Value.string).toArray 9)).rowIs (w1.heap.size + 1) 9 8 (fun i => .string (nm8.getD i ByteArray.empty)) := by
    have := World.rowIs_alloc (w1.alloc (.cells #[.int .i64 5, .slice none 0 0, .slice none 0 0] 83)) (nm8.map Value.string).toArray 9 (fun i => .string (nm8.getD i ByteArray.empty)) (fun i hi => by
      have hi' : i < 8 := by simpa [nm8] using hi
      rcases (show i = 0 ∨ i = 1 ∨ i = 2 ∨ i = 3 ∨ i = 4 ∨ i = 5 ∨ i = 6 ∨ i = 7 by omega) with rfl | rfl | rfl | rfl | rfl | rfl | rfl | rfl <;> rfl)
    rw [World.size_alloc] at this
    exact this
  refine ⟨⟨hd.on hbA, ((But.alloc R w _).trans hb).trans (But.of_below hbA), hX.of_block (hbA.block _ hX.lt), hrow, hR, by omega, by simp⟩, ?_⟩
  exact ⟨by omega, (row3_alloc w1 (.int .i64 5) (.slice none 0 0) (.slice none 0 0) 83).alloc _, World.ownsRow_nil _ _ _ _, GotD.start _ _, fun b hb => by simp [Value.ownBlock] at hb, by simp⟩
end Go.Proofs.YtbkagahmiibclaaGreatDoor

/- The walk of the specification's l5Kind at its last level: some schema in new memory. Draws at most 10^8. -/

namespace Go.Proofs.YtbkagahmiibclaaGreatDoor
open Go Go.RowKit

set_option maxRecDepth 100000 in
set_option maxHeartbeats 6400000 in
theorem l5Kind_zero : LkSaid 0 := by
  intro R w v b p top h hp
  have hp : p + 30 ≤ 100000000 := hp
  obtain ⟨hd0, hb0, hR⟩ := box3_start R w v b p h (.cells #[.int .i64 0, .slice none 0 0, .slice none 0 0] 83)
  have HPK := hide (pick_any R _ v b p 10 hd0 (by omega) (by omega))
  have HST := hide (fun w1 p1 hd hb => KL.start (w := w) (w1 := w1) (v := v) (b := b) (p := p1) hR hd hb)
  have HNM := hide l5Names_any
  have hX0 := row3_alloc w (.int .i64 0) (.slice none 0 0) (.slice none 0 0) 83
  have HX0 := hide hX0; have HB0 := hide hb0
  clear h hd0 hb0 hX0
  show Calls Tryz.prog 83 #[.pointer (some ⟨R, 0, none⟩), .int .i64 ((0 : Nat) + 1), .bool top] w _
  simp only [Int.ofNat_zero, Int.zero_add]
  go_enter Tryz.func83, Tryz.ntmps83
  go_wp2_with fail
  refine (unhide HPK).mono ?_
  rintro e w1 ⟨r, rfl, hr, HD1, HB1⟩
  have hs1 := HB1.out.size
  rw [World.size_alloc] at hs1
  have hlt1 : w.heap.size < w1.heap.size := by omega
  have hne1 : w.heap.size ≠ w1.heap.size := by omega
  have hX1 := (unhide HX0).of_block (HB1.out.at (by simp) (by omega))
  have p0 := hX1.cell (i := 0) (by omega); have p1 := hX1.cell (i := 1) (by omega); have p2 := hX1.cell (i := 2) (by omega); have pf := hX1.frozen
  simp only [row3] at p0 p1 p2
  have hr5 : decide ((7 : Int) < (r : Int) % 5) = false := by simp; omega
  have hr6 : decide ((6 : Int) < (r : Int) % 5) = false := by simp; omega
  have hr4 : decide ((4 : Int) < (r : Int) % 5) = false := by simp; omega
  clear HPK hX1
  cases top with
  | false =>
    have HBW := hide ((unhide HB0).trans HB1.out)
    clear HST HNM HX0 HB0
    clear hr4 hr5 hr6
    rcases (show (r : Int) % 5 = 0 ∨ (r : Int) % 5 = 1 ∨ (r : Int) % 5 = 2 ∨ (r : Int) % 5 = 3 ∨ (r : Int) % 5 = 4 by omega) with hn | hn | hn | hn | hn
    · go_wp2_with fail
      refine bodyPost_ret (v := .agg #[.int .i64 1, .slice none 0 0, .slice none 0 0]) (by simp [results, Tryz.results83, go_sem, p0, p1, p2, hlt1]) rfl ?_
      exact lk_leaf (p' := p + 1) ⟨by decide, by decide⟩ hR HD1.out (by simp [cd]) (unhide HBW) _ _ _ _
    · go_wp2_with fail
      refine bodyPost_ret (v := .agg #[.int .i64 1, .slice none 0 0, .slice none 0 0]) (by simp [results, Tryz.results83, go_sem, p0, p1, p2, hlt1]) rfl ?_
      exact lk_leaf (p' := p + 1) ⟨by decide, by decide⟩ hR HD1.out (by simp [cd]) (unhide HBW) _ _ _ _
    · go_wp2_with fail
      refine bodyPost_ret (v := .agg #[.int .i64 2, .slice none 0 0, .slice none 0 0]) (by simp [results, Tryz.results83, go_sem, p0, p1, p2, hlt1]) rfl ?_
      exact lk_leaf (p' := p + 1) ⟨by decide, by decide⟩ hR HD1.out (by simp [cd]) (unhide HBW) _ _ _ _
    · go_wp2_with fail
      refine bodyPost_ret (v := .agg #[.int .i64 2, .slice none 0 0, .slice none 0 0]) (by simp [results, Tryz.results83, go_sem, p0, p1, p2, hlt1]) rfl ?_
      exact lk_leaf (p' := p + 1) ⟨by decide, by decide⟩ hR HD1.out (by simp [cd]) (unhide HBW) _ _ _ _
    · go_wp2_with fail
      refine bodyPost_ret (v := .agg #[.int .i64 3, .slice none 0 0, .slice none 0 0]) (by simp [results, Tryz.results83, go_sem, p0, p1, p2, hlt1]) rfl ?_
      exact lk_leaf (p' := p + 1) ⟨by decide, by decide⟩ hR HD1.out (by simp [cd]) (unhide HBW) _ _ _ _
  | true =>
    clear HX0 HB0
    obtain ⟨hkl, hdi⟩ := unhide HST w1 (p + 1) HD1.out HB1.out
    have HKL := hide hkl; have HDI := hide hdi
    clear HST hkl hdi HD1 HB1
    go_wp2_with fail
    refine (unhide HNM _).mono ?_
    rintro e w2 ⟨rfl, rfl⟩
    rw [World.size_alloc] at *
    generalize w1.heap.size = B at *
    obtain ⟨W2, hW2⟩ : ∃ W2, (w1.alloc (.cells #[.int .i64 5, .slice none 0 0, .slice none 0 0] 83)).alloc (.cells (nm8.map Value.string).toArray 9) = W2 := ⟨_, rfl⟩
    rw [hW2] at HKL HDI ⊢
    clear hW2 HNM p0 p1 p2 pf
    go_wp2_with fail
    go_loopw [10] (fun i wr => ∃ (k : Nat), k ≤ 8 ∧ i = .int .i64 k ∧ Hid (KL R w B v b (p + 1 + k) wr) ∧ Hid (DInv (B + 2) B wr 5 (.slice none 0 0) (.slice none 0 0) [] [] [] [])) (fun i _ => 8 - (intOf i).toNat)
    case atStart => exact ⟨0, by omega, rfl, HKL, HDI⟩
    case round =>
      clear HKL HDI
      obtain ⟨k, hk, rfl, HK, HD⟩ := hrel
      have b0 := HD.out.cells.cell (i := 0) (by omega); have b1 := HD.out.cells.cell (i := 1) (by omega); have b2 := HD.out.cells.cell (i := 2) (by omega)
      simp only [row3] at b0 b1 b2
      by_cases hlt : k < 8
      · have hq : decide ((k : Int) < 8) = true := by simp; omega
        have HPK := hide (pick_any R wr v b (p + 1 + k) 3 HK.out.dr (by omega) (by omega))
        go_wp2_with fail
        refine (unhide HPK).mono ?_
        rintro e w3 ⟨r3, rfl, hr3, HD3, HB3⟩
        obtain ⟨o1, o2, o3⟩ := HK.out.ord
        have HK3 := hide (HK.out.next HD3.out HB3.out)
        have HI3 := hide (HD.out.kept HB3.out (fun b e => by cases e; exact ⟨by omega, by omega⟩))
        clear HD3 HB3 HPK HK HD b0 b1 b2
        by_cases h0 : r3 = 0
        · subst h0
          go_wp2_with fail
          go_roundw
          case rel => exact ⟨k + 1, by omega, by go_num, HK3, HI3⟩
          case measure => simp [intOf]; omega
        · have hz : ((r3 : Int) == 0) = false := beq_eq_false_iff_ne.2 (by omega)
          go_wp2_with fail
          go_roundw
          case rel => exact ⟨k + 1, by omega, by go_num, HK3, HI3⟩
          case measure => simp [intOf]; omega
      · have hq : decide ((k : Int) < 8) = false := by simp; omega
        have q0 := HK.out.box.cell (i := 0) (by omega); have q1 := HK.out.box.cell (i := 1) (by omega); have q2 := HK.out.box.cell (i := 2) (by omega); have qf := HK.out.box.frozen
        simp only [row3] at q0 q1 q2
        obtain ⟨o1, o2, o3⟩ := HK.out.ord
        have hne : w.heap.size ≠ B := by omega
        have hne2 : B ≠ w.heap.size := by omega
        go_wp2_with fail
        refine bodyPost_ret (v := .agg #[.int .i64 5, .slice none 0 0, .slice none 0 0]) (by simp [results, Tryz.results83, go_sem, q0, q1, q2]) rfl ?_
        exact lk_end (c := ⟨_, _, _⟩) (F := []) (p' := p + 1 + k) hR (OwnD.leaf _ _ ⟨by decide, by decide⟩) List.nodup_nil (fun x hx => by cases hx) HK.out.dr (by simp [cd]; omega) (by simp [wKd, wS, wKs]) HK.out.but _ _ _
end Go.Proofs.YtbkagahmiibclaaGreatDoor
