/- A row of bytes that lies in the world. Definitions alone. -/
import Derived.Test.YthkjhmcbmakkdaaDoorPart00
import Derived.Test.YthkjhmcbmakkdaaDoorPart10
import Derived.Test.YthkjhmcbmakkdaaDoorRows
import Derived.Test.YthkjhmcbmakkdaaDoorPart03
import Derived.Test.YthkjhmcbmakkdaaDoorPart02
import Derived.Deep.RegionWith
import Derived.Deep.QuietTactic
import Derived.BigQuiet
namespace Go.Proofs.YthkjhmcbmakkdaaDoor
open Go Go.RowKit

/-- A slice value whose bytes lie in the world. -/
def BytesAt (w : World) (v : Value) (l : List UInt8) : Prop :=
  ∃ a cap, v = .slice a l.length cap ∧ l.length ≤ 9223372036854775807 ∧ ∀ i, (h : i < l.length) → ∃ b o, a = some ⟨b, o, none⟩ ∧ b < w.heap.size ∧ w.cell? ⟨b, o + i, none⟩ = some (.int .u8 l[i].toNat)

theorem BytesAt.on {w w' : World} {v : Value} {l : List UInt8} (h : BytesAt w v l) (hb : Below w.heap.size w w') : BytesAt w' v l := by
  obtain ⟨a, cap, h1, h2, h3⟩ := h
  refine ⟨a, cap, h1, h2, fun i hi => ?_⟩
  obtain ⟨b, o, e, hlt, hc⟩ := h3 i hi
  exact ⟨b, o, e, Nat.lt_of_lt_of_le hlt hb.size, by rw [hb.cell hlt]; exact hc⟩

end Go.Proofs.YthkjhmcbmakkdaaDoor

/- The walks of the specification's l5AnyKind, l6Open, DrawKindFirst: whatever bytes come in, some schema, in memory that the call made. No conditions. -/

namespace Go.Proofs.YthkjhmcbmakkdaaDoor
open Go Go.RowKit

mutual
theorem ksz_wk : ∀ k : Kd, ksz k ≤ wKd k + 1
  | .mk s ns ks => by
    rw [ksz, wKd]
    have := klsz_wk ks
    omega
theorem klsz_wk : ∀ l : List Kd, klsz l ≤ wKs l
  | [] => by rw [klsz]; omega
  | t :: r => by
    rw [klsz, wKs]
    have := ksz_wk t; have := klsz_wk r
    omega
end

set_option maxRecDepth 100000 in
set_option maxHeartbeats 3200000 in
theorem l5AnyKind_any (R : Nat) (w : World) (v : Value) (b : List UInt8) (p : Nat) (h : DR R w v b p) (hp : p ≤ 1000) :
    Calls Tryd.prog 20 #[.pointer (some ⟨R, 0, none⟩)] w fun e w' => SkEnd 100000 10000 R w w' v b p e := by
  obtain ⟨hd0, hb0, hR⟩ := box3_start R w v b p h (.cells #[.int .i64 0, .slice none 0 0, .slice none 0 0] 26)
  have hX0 := row3_alloc w (.int .i64 0) (.slice none 0 0) (.slice none 0 0) 26
  have HPK := hide (pick_any R _ v b p 2 hd0 (by omega) (by omega))
  have HX0 := hide hX0; have HB0 := hide hb0
  clear h hd0 hb0 hX0
  go_enter Tryd.func20, Tryd.ntmps20
  go_wp2_with fail
  refine (unhide HPK).mono ?_
  rintro e w1 ⟨r, rfl, hr, HD1, HB1⟩
  have HB01 := hide ((unhide HB0).trans HB1.out)
  have hX1 := (unhide HX0).of_block (HB1.out.at (by simp) (by omega))
  have HC := hide (fun top => l5Some_any R w1 v b (p + 1) top HD1.out (by omega))
  have HX1 := hide hX1
  have hx1lt := hX1.lt
  clear HPK HX0 HB0 HB1 HD1 hX1
  go_wp2_with fail
  refine (unhide HC _).mono ?_
  rintro e w2 ⟨k, ⟨c0, c1, c2⟩, p2, rfl, hr2, hd2, hp2, hw2, hb2⟩
  obtain ⟨g0, -, ⟨a3, cap3, g1, -⟩, a4, cap4, g2, -⟩ := hr2.open
  simp only at g0 g1 g2
  subst g0 g1 g2
  have hX2 := (unhide HX1).of_block (hb2.at (unhide HX1).lt (by omega))
  have hb02 := (unhide HB01).trans hb2
  have hX2lt := hX2.lt
  obtain ⟨W3, hW3⟩ : ∃ W3, w2.alloc (.cells #[.int .i64 k.sort, .slice a3 k.names.length cap3, .slice a4 k.kids.length cap4] 26) = W3 := ⟨_, rfl⟩
  have hbA : Below w2.heap.size w2 W3 := by rw [← hW3]; exact (Below.refl _ _).alloc (Nat.le_refl _) _
  have hs3 : W3.heap.size = w2.heap.size + 1 := by rw [← hW3]; simp
  have hK3 : W3.rowIs w2.heap.size 26 3 (row3 (.int .i64 k.sort) (.slice a3 k.names.length cap3) (.slice a4 k.kids.length cap4)) := by rw [← hW3]; exact row3_alloc w2 _ _ _ _
  have HPK := hide (pick_any R W3 v b p2 12 (hd2.on hbA) (by omega) (by omega))
  have HK3 := hide hK3; have HX3 := hide (hX2.of_block (hbA.block _ hX2lt)); have HB03 := hide (hb02.trans (But.of_below hbA))
  have HR3 := hide (KRep.carry (Q := fun x => w1.heap.size ≤ x ∧ x < w2.heap.size) (fun x hx => hbA.block x hx.2) (fun _ h => h) k _ hr2)
  have HW3 := hide hW3
  clear HC HX1 HB01 hr2 hd2 hb2 hX2 hb02 hbA hK3 hW3
  go_wp2_with fail
  rw [unhide HW3]
  refine (unhide HPK).mono ?_
  rintro e w4 ⟨r12, rfl, hr12, HD4, HB4⟩
  have hK4 := (unhide HK3).of_block (HB4.out.at (unhide HK3).lt (by omega))
  have hX4 := (unhide HX3).of_block (HB4.out.at (unhide HX3).lt (by omega))
  have hs4 := HB4.out.size
  have hr4 : KRep (fun x => w1.heap.size ≤ x ∧ x < w2.heap.size) w4 k ⟨.int .i64 k.sort, .slice a3 k.names.length cap3, .slice a4 k.kids.length cap4⟩ := KRep.carry (fun x hx => HB4.out.at (by omega) (by omega)) (fun _ h => h) k _ (unhide HR3)
  have p0 := hX4.cell (i := 0) (by omega); have p1 := hX4.cell (i := 1) (by omega); have p2' := hX4.cell (i := 2) (by omega); have pf := hX4.frozen
  have q0 := hK4.cell (i := 0) (by omega); have q1 := hK4.cell (i := 1) (by omega); have q2 := hK4.cell (i := 2) (by omega)
  simp only [row3] at p0 p1 p2' q0 q1 q2
  have hne : w.heap.size ≠ w2.heap.size := by omega
  have hne2 : w2.heap.size ≠ w.heap.size := by omega
  have HB04 := hide ((unhide HB03).trans HB4.out)
  have hbs := (unhide HB04).size
  by_cases h0 : r12 = 0
  · subst h0
    have hkz := ksz_wk k
    have HX4 := hide hX4
    -- the schema's blocks are not the box of the answer: it is carried past it
    have HC := hide (l5Spoil_all (ksz k + 1) k (by omega) (fun x => w1.heap.size ≤ x ∧ x < w2.heap.size) R w4 v b (p2 + 1) ⟨.int .i64 k.sort, .slice a3 k.names.length cap3, .slice a4 k.kids.length cap4⟩ HD4.out (fun x hx => ⟨by omega, by omega⟩) hr4 (by omega) (by omega))
    clear HPK HK3 HX3 HB03 HR3 HW3 hK4 hX4 hr4
    go_wp2_with fail
    refine (unhide HC).mono ?_
    rintro e w5 ⟨k', ⟨d0, d1, d2⟩, p5, rfl, hr5, hd5, hp5, hw5, hb5⟩
    obtain ⟨y0, -, ⟨a5, cap5, y1, -⟩, a6, cap6, y2, -⟩ := hr5.open
    simp only at y0 y1 y2
    subst y0 y1 y2
    have hX5 := (unhide HX4).of_block (hb5.at (unhide HX4).lt (by omega))
    have hs5 := hb5.size
    have p0 := hX5.cell (i := 0) (by omega); have p1 := hX5.cell (i := 1) (by omega); have p2' := hX5.cell (i := 2) (by omega); have pf := hX5.frozen
    simp only [row3] at p0 p1 p2'
    have HEND := hide (fun e0 e1 e2 => sk_end (N := 100000) (M := 10000) (p := p) (p' := p5) hR (KRep.carry (fun _ _ => rfl) (fun x (hx : (w1.heap.size ≤ x ∧ x < w2.heap.size) ∨ (w4.heap.size ≤ x ∧ x < w5.heap.size)) => ⟨by omega, by omega⟩) k' _ hr5) hd5 (by omega) (by omega) ((unhide HB04).trans hb5) e0 e1 e2)
    clear hr5 hd5 hb5 hX5 HC HX4 HB04 HD4 HB4 q0 q1 q2
    go_wp2_with fail
    refine bodyPost_ret (v := .agg #[.int .i64 k'.sort, .slice a5 k'.names.length cap5, .slice a6 k'.kids.length cap6]) (by simp [results, Tryd.results20, go_sem, p0, p1, p2']) rfl ?_
    exact unhide HEND _ _ _
  · have hz : ((r12 : Int) == 0) = false := beq_eq_false_iff_ne.2 (by omega)
    have HEND := hide (fun e0 e1 e2 => sk_end (N := 100000) (M := 10000) (p := p) (p' := p2 + 1) hR (KRep.carry (fun _ _ => rfl) (fun x (hx : w1.heap.size ≤ x ∧ x < w2.heap.size) => ⟨by omega, by omega⟩) k _ hr4) HD4.out (by omega) (by omega) (unhide HB04) e0 e1 e2)
    clear HPK HK3 HX3 HB03 HR3 HW3 hK4 hX4 hr4 HD4 HB4 HB04
    go_wp2_with fail
    refine bodyPost_ret (v := .agg #[.int .i64 k.sort, .slice a3 k.names.length cap3, .slice a4 k.kids.length cap4]) (by simp [results, Tryd.results20, go_sem, p0, p1, p2']) rfl ?_
    exact unhide HEND _ _ _

/-- The reader of draws is opened. -/
theorem l6Open_any (w : World) (a : Option Addr) (cap : Nat) (l : List UInt8) (hv : BytesAt w (.slice a l.length cap) l) (hcap : l.length ≤ cap) :
    Calls Tryd.prog 21 #[.slice a l.length cap] w fun e w' => ∃ (v' : Value) (b' : List UInt8), e = .returned (.pointer (some ⟨w.heap.size, 0, none⟩)) ∧ DR w.heap.size w' v' b' 0 ∧ Below w.heap.size w w' := by
  obtain ⟨a', cap', e, hlen, hc⟩ := hv
  simp only [Value.slice.injEq, true_and] at e
  obtain ⟨rfl, rfl⟩ := e
  by_cases h2 : l.length ≤ 2000
  · have hq : decide ((2000 : Int) < (l.length : Int)) = false := by simp; omega
    have HC := hide hc
    clear hc
    go_enter Tryd.func21, Tryd.ntmps21
    go_wp2_with fail
    go_ret
    refine ⟨.slice a l.length cap, l, rfl, ⟨?_, ⟨a, cap, rfl, fun i hi => ?_⟩, h2⟩, (Below.refl _ _).alloc (Nat.le_refl _) _⟩
    · exact World.rowIs_alloc w #[.slice a l.length cap, .int .i64 0] 87 _ (fun i hi => by
        have hi' : i < 2 := by simpa using hi
        rcases (show i = 0 ∨ i = 1 by omega) with rfl | rfl <;> rfl)
    · obtain ⟨g, o, e, hlt, hcell⟩ := unhide HC i hi
      exact ⟨g, o, e, hlt, by rw [World.cell?_of_block (w := w) (Below.heap_alloc _ _ _ hlt)]; exact hcell⟩
  · have hq : decide ((2000 : Int) < (l.length : Int)) = true := by simp; omega
    obtain ⟨g, o, rfl, -, -⟩ := hc 0 (by omega)
    have HC := hide hc
    clear hc
    have hc2 : 2000 ≤ cap := by omega
    have hc3 : (2000 : Int) ≤ (cap : Int) := by omega
    go_enter Tryd.func21, Tryd.ntmps21
    go_wp2_with fail
    go_ret
    have hl2 : (l.take 2000).length = 2000 := by rw [List.length_take]; omega
    refine ⟨.slice (some ⟨g, o, none⟩) 2000 cap, l.take 2000, rfl, ⟨?_, ⟨_, cap, by rw [hl2], fun i hi => ?_⟩, by omega⟩, (Below.refl _ _).alloc (Nat.le_refl _) _⟩
    · exact World.rowIs_alloc w #[.slice (some ⟨g, o, none⟩) 2000 cap, .int .i64 0] 87 _ (fun i hi => by
        have hi' : i < 2 := by simpa using hi
        rcases (show i = 0 ∨ i = 1 by omega) with rfl | rfl <;> rfl)
    · obtain ⟨g', o', e, hlt, hcell⟩ := unhide HC i (by omega)
      exact ⟨g', o', e, hlt, by rw [World.cell?_of_block (w := w) (Below.heap_alloc _ _ _ hlt), List.getElem_take]; exact hcell⟩

/-- Whatever bytes come in, some schema is drawn. -/
theorem drawKindFirst_any (w : World) (a : Option Addr) (cap : Nat) (l : List UInt8) (hv : BytesAt w (.slice a l.length cap) l) (hcap : l.length ≤ cap) :
    Calls Tryd.prog 13 #[.slice a l.length cap] w fun e w' => ∃ (k : Kd) (c : C3), e = .returned (.agg #[c.c0, c.c1, c.c2]) ∧ KRep (fun x => w.heap.size ≤ x ∧ x < w'.heap.size) w' k c ∧ wKd k ≤ 10000 ∧ Below w.heap.size w w' := by
  have hb0 : ∀ o, Below w.heap.size w (w.alloc o) := fun o => (Below.refl _ _).alloc (Nat.le_refl _) o
  have HOP := hide (fun o => l6Open_any (w.alloc o) a cap l (hv.on (hb0 o)) hcap)
  have HX0 := hide (row3_alloc w (.int .i64 0) (.slice none 0 0) (.slice none 0 0) 26)
  have HB0 := hide hb0
  clear hv hb0
  go_enter Tryd.func13, Tryd.ntmps13
  go_wp2_with fail
  refine (unhide HOP _).mono ?_
  rintro e w1 ⟨v', b', rfl, hdr, hb1⟩
  have hb1' := hb1
  rw [World.size_alloc] at hdr hb1' ⊢
  have HC := hide (l5AnyKind_any (w.heap.size + 1) w1 v' b' 0 hdr (by omega))
  have hX1 := (unhide HX0).of_block (hb1.block _ (by simp))
  have HX1 := hide hX1
  have HB1 := hide ((unhide HB0 (.cells #[.int .i64 0, .slice none 0 0, .slice none 0 0] 26)).trans (hb1.mono (by simp)))
  have hs1 := hb1'.size
  have hR1 := hdr.cells.lt
  clear HOP HX0 hdr hb1 hb1' hX1 HB0
  go_wp2_with fail
  refine (unhide HC).mono ?_
  rintro e w2 ⟨k, ⟨c0, c1, c2⟩, p2, rfl, hr2, hd2, hp2, hw2, hb2⟩
  obtain ⟨g0, -, ⟨a3, cap3, g1, -⟩, a4, cap4, g2, -⟩ := hr2.open
  simp only at g0 g1 g2
  subst g0 g1 g2
  have hX2 := (unhide HX1).of_block (hb2.at (unhide HX1).lt (by omega))
  have p0 := hX2.cell (i := 0) (by omega); have p1 := hX2.cell (i := 1) (by omega); have p2' := hX2.cell (i := 2) (by omega); have pf := hX2.frozen
  simp only [row3] at p0 p1 p2'
  have hbW : Below w.heap.size w w2 := (unhide HB1).trans ⟨hb2.os, hb2.tape, hb2.output, hb2.size, fun i hi => hb2.at (by omega) (by omega)⟩
  have HBW := hide hbW; have HR2 := hide hr2
  clear hX2 hbW hr2 hb2 hd2 HX1 HB1 HC
  go_wp2_with fail
  refine bodyPost_ret (v := .agg #[.int .i64 k.sort, .slice a3 k.names.length cap3, .slice a4 k.kids.length cap4]) (by simp [results, Tryd.results13, go_sem, p0, p1, p2']) rfl ?_
  refine ⟨k, ⟨_, _, _⟩, rfl, KRep.carry (fun x hx => by repeat rw [Below.heap_setCell _ _ _ _ (by simp; omega)]) (fun x hx => ⟨by omega, by simp only [size_setCell]; exact hx.2⟩) k _ (unhide HR2), hw2, ?_⟩
  repeat refine Below.setCell ?_ (by simp) _
  exact unhide HBW
end Go.Proofs.YthkjhmcbmakkdaaDoor

/- The walk of the laws' own ttTree: of two trees that lie in memory as one and the same it answers true, and turns nothing that was there. No conditions. -/

namespace Go.Proofs.YthkjhmcbmakkdaaDoor
open Go Go.RowKit

def TtSaid (n : Nat) : Prop := ∀ (t : Tr), tsz t < n → ∀ (P Q : Nat → Prop) (c d : C5) (w : World), (∀ b, P b → b < w.heap.size) → (∀ b, Q b → b < w.heap.size) → Rep P w t c → Rep Q w t d →
    Calls Tryd.prog 17 #[.agg #[c.c0, c.c1, c.c2, c.c3, c.c4], .agg #[d.c0, d.c1, d.c2, d.c3, d.c4]] w fun e w' => e = .returned (.bool true) ∧ Below w.heap.size w w'

/-- The two boxes. -/
structure TT (w : World) (c d : C5) (wr : World) : Prop where
  below : Below w.heap.size w wr
  a : wr.rowIs w.heap.size 37 5 (row5 c.c0 c.c1 c.c2 c.c3 c.c4)
  b : wr.rowIs (w.heap.size + 1) 37 5 (row5 d.c0 d.c1 d.c2 d.c3 d.c4)
theorem TT.on {w : World} {c d : C5} {wr w' : World} (h : TT w c d wr) (hb : Below wr.heap.size wr w') : TT w c d w' :=
  ⟨h.below.trans (hb.mono h.below.size), h.a.of_block (hb.block _ h.a.lt), h.b.of_block (hb.block _ h.b.lt)⟩
theorem TT.start (w : World) (c0 c1 c2 c3 c4 d0 d1 d2 d3 d4 : Value) : TT w ⟨c0, c1, c2, c3, c4⟩ ⟨d0, d1, d2, d3, d4⟩ ((w.alloc (.cells #[c0, c1, c2, c3, c4] 37)).alloc (.cells #[d0, d1, d2, d3, d4] 37)) := by
  refine ⟨((Below.refl _ _).alloc (Nat.le_refl _) _).alloc (by simp) _, (row5_alloc w c0 c1 c2 c3 c4 37).alloc _, ?_⟩
  have := row5_alloc (w.alloc (.cells #[c0, c1, c2, c3, c4] 37)) d0 d1 d2 d3 d4 37
  rw [World.size_alloc] at this
  exact this

set_option maxRecDepth 100000 in
set_option maxHeartbeats 3200000 in
theorem ttTree_step (n : Nat) (IH : TtSaid n) : TtSaid (n + 1) := by
  intro t hn P Q c d w hP hQ hrep hrep2
  obtain ⟨c0, c1, c2, c3, c4⟩ := c
  obtain ⟨d0, d1, d2, d3, d4⟩ := d
  obtain ⟨e0, e1, e2, -, -, -, hns, a4, cap4, e4, hlen, hks⟩ := hrep.open
  obtain ⟨g0, g1, g2, -, -, -, hns2, b4, dap4, g4, -, hks2⟩ := hrep2.open
  simp only at e0 e1 e2 e4 hns g0 g1 g2 g4 hns2
  obtain ⟨a3, cap3, e3, hnl, hnc⟩ := hns
  obtain ⟨b3, dap3, g3, -, hnc2⟩ := hns2
  subst e0 e1 e2 e3 e4 g0 g1 g2 g3 g4
  have htt := TT.start w (.int .i64 t.sort) (.int .i64 t.num) (.string t.text) (.slice a3 t.names.length cap3) (.slice a4 t.kids.length cap4) (.int .i64 t.sort) (.int .i64 t.num) (.string t.text) (.slice b3 t.names.length dap3) (.slice b4 t.kids.length dap4)
  have HN := hide hnc; have HN2 := hide hnc2; have HK := hide hks; have HK2 := hide hks2; have HP := hide hP; have HQ := hide hQ; have HI := hide IH
  have hkid : ∀ i, (hi : i < t.kids.length) → tsz t.kids[i] < n := fun i hi => by have := tsz_kid (List.getElem_mem hi); omega
  have HKS := hide hkid
  clear hnc hnc2 hks hks2 hP hQ IH hrep hrep2 hkid hn
  generalize t.names = ns at *
  generalize t.kids = ks at *
  generalize t.sort = s0 at *
  generalize t.num = s1 at *
  generalize t.text = s2 at *
  have q0 := htt.a.cell (i := 0) (by omega); have q1 := htt.a.cell (i := 1) (by omega); have q2 := htt.a.cell (i := 2) (by omega); have q3 := htt.a.cell (i := 3) (by omega); have q4 := htt.a.cell (i := 4) (by omega)
  have r0 := htt.b.cell (i := 0) (by omega); have r1 := htt.b.cell (i := 1) (by omega); have r2 := htt.b.cell (i := 2) (by omega); have r3 := htt.b.cell (i := 3) (by omega); have r4 := htt.b.cell (i := 4) (by omega)
  simp only [row5] at q0 q1 q2 q3 q4 r0 r1 r2 r3 r4
  have HT := hide htt
  clear htt
  go_enter Tryd.func17, Tryd.ntmps17
  go_wp2_with fail
  clear q0 q1 q2 q3 q4 r0 r1 r2 r3 r4
  go_loopw [5] (fun i wr => ∃ (k : Nat), k ≤ ns.length ∧ i = .int .i64 k ∧ Hid (TT w ⟨.int .i64 s0, .int .i64 s1, .string s2, .slice a3 ns.length cap3, .slice a4 ks.length cap4⟩ ⟨.int .i64 s0, .int .i64 s1, .string s2, .slice b3 ns.length dap3, .slice b4 ks.length dap4⟩ wr)) (fun i _ => ns.length - (intOf i).toNat)
  case atStart => exact ⟨0, Nat.zero_le _, rfl, HT⟩
  case round =>
    clear HT
    obtain ⟨k, hk, rfl, HT⟩ := hrel
    have q3 := HT.out.a.cell (i := 3) (by omega); have r3 := HT.out.b.cell (i := 3) (by omega)
    simp only [row5] at q3 r3
    by_cases hlt : k < ns.length
    · obtain ⟨x, o, rfl, hpb, hcell, -⟩ := unhide HN k hlt
      obtain ⟨x2, o2, rfl, hpb2, hcell2, -⟩ := unhide HN2 k hlt
      have e1 : wr.cell? ⟨x, o + k, none⟩ = some (.string ns[k]) := by rw [HT.out.below.cell (unhide HP x hpb)]; exact hcell
      have e2 : wr.cell? ⟨x2, o2 + k, none⟩ = some (.string ns[k]) := by rw [HT.out.below.cell (unhide HQ x2 hpb2)]; exact hcell2
      have HT2 := hide (HT.out.on (Below.refl _ wr).drew)
      have HTN := hide (fun m => HT.out.on (show Below wr.heap.size wr (wr.drewN m) from ⟨rfl, rfl, rfl, Nat.le_refl _, fun _ _ => rfl⟩))
      have hix : (k : Int) < (ns.length : Int) := by omega
      clear hcell hcell2 hpb hpb2 HT
      go_wp2_with fail
      go_quiet (fail)
      go_wp2_with fail
      go_roundw
      case rel => exact ⟨k + 1, by omega, by go_num, unhide HTN _⟩
      case measure => simp [intOf]; omega
    · go_wp2_with fail
      go_loopw [6] (fun i wr => ∃ (k : Nat), k ≤ ks.length ∧ i = .int .i64 k ∧ Hid (TT w ⟨.int .i64 s0, .int .i64 s1, .string s2, .slice a3 ns.length cap3, .slice a4 ks.length cap4⟩ ⟨.int .i64 s0, .int .i64 s1, .string s2, .slice b3 ns.length dap3, .slice b4 ks.length dap4⟩ wr)) (fun i _ => ks.length - (intOf i).toNat)
      case atStart => exact ⟨0, Nat.zero_le _, rfl, HT⟩
      case round =>
        clear HT q3 r3
        obtain ⟨k, hk, rfl, HT⟩ := hrel
        have q4 := HT.out.a.cell (i := 4) (by omega); have r4 := HT.out.b.cell (i := 4) (by omega)
        simp only [row5] at q4 r4
        by_cases hlt : k < ks.length
        · obtain ⟨x, o, c, rfl, hpb, hcell, hrep⟩ := unhide HK k hlt
          obtain ⟨x2, o2, d, rfl, hpb2, hcell2, hrep2⟩ := unhide HK2 k hlt
          have hcell' := hcell.carry (HT.out.below.block x (unhide HP x hpb))
          have hcell2' := hcell2.carry (HT.out.below.block x2 (unhide HQ x2 hpb2))
          obtain ⟨c0, c1, c2, c3, c4⟩ := c
          obtain ⟨d0, d1, d2, d3, d4⟩ := d
          obtain ⟨e0, e1, e2, e3, e4⟩ := hcell'
          obtain ⟨g0, g1, g2, g3, g4⟩ := hcell2'
          simp only at e0 e1 e2 e3 e4 g0 g1 g2 g3 g4
          have hbd := HT.out.below.drew
          have hcall := unhide HI ks[k] (unhide HKS k hlt) P Q ⟨c0, c1, c2, c3, c4⟩ ⟨d0, d1, d2, d3, d4⟩ wr.drew (fun b hb' => Nat.lt_of_lt_of_le (unhide HP b hb') hbd.size) (fun b hb' => Nat.lt_of_lt_of_le (unhide HQ b hb') hbd.size) (Rep.carry (w' := wr.drew) (fun b hb' => hbd.block b (unhide HP b hb')) (fun _ h => h) _ _ hrep) (Rep.carry (w' := wr.drew) (fun b hb' => hbd.block b (unhide HQ b hb')) (fun _ h => h) _ _ hrep2)
          have HCALL := hide hcall
          have hix : (k : Int) < (ks.length : Int) := by omega
          clear hrep hcell hpb hrep2 hcell2 hpb2 hcall hbd
          go_wp2_with fail
          go_region_with (go_at_call 17; refine (unhide HCALL).mono ?_; rintro e w' ⟨rfl, hb'⟩)
          all_goals
            have HT2 := hide (HT.out.on ((Below.refl _ wr).drew.trans hb'))
            go_wp2_with fail
            go_roundw
            case rel => exact ⟨k + 1, by omega, by go_num, HT2⟩
            case measure => simp [intOf]; omega
        · go_wp2_with fail
          go_ret
          exact ⟨rfl, HT.out.below⟩

theorem ttTree_all : ∀ n, TtSaid n
  | 0 => fun t h => by omega
  | n + 1 => ttTree_step n (ttTree_all n)
theorem ttTree_any (t : Tr) (P Q : Nat → Prop) (c d : C5) (w : World) (hP : ∀ b, P b → b < w.heap.size) (hQ : ∀ b, Q b → b < w.heap.size) (h1 : Rep P w t c) (h2 : Rep Q w t d) :
    Calls Tryd.prog 17 #[.agg #[c.c0, c.c1, c.c2, c.c3, c.c4], .agg #[d.c0, d.c1, d.c2, d.c3, d.c4]] w fun e w' => e = .returned (.bool true) ∧ Below w.heap.size w w' :=
  ttTree_all (tsz t + 1) t (by omega) P Q c d w hP hQ h1 h2
end Go.Proofs.YthkjhmcbmakkdaaDoor
