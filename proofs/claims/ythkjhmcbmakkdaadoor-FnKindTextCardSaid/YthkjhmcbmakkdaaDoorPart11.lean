/- A row of bytes that lies in the world. Definitions alone. -/
import Derived.Test.YthkjhmcbmakkdaaDoorPart00
import Derived.Test.YthkjhmcbmakkdaaDoorPart10
import Derived.Test.YthkjhmcbmakkdaaDoorPart07
namespace Go.Proofs.YthkjhmcbmakkdaaDoor
open Go Go.RowKit

/-- A slice value whose bytes lie in the world. -/
def BytesAt (w : World) (v : Value) (l : List UInt8) : Prop :=
  ∃ a cap, v = .slice a l.length cap ∧ l.length ≤ 9223372036854775807 ∧ ∀ i, (h : i < l.length) → ∃ b o, a = some ⟨b, o, none⟩ ∧ b < w.heap.size ∧ w.cell? ⟨b, o + i, none⟩ = some (.int .u8 l[i].toNat)

theorem BytesAt.on {w w' : World} {v : Value} {l : List UInt8} (h : BytesAt w v l) (hb : Below w.heap.size w w') : BytesAt w' v l := by
  obtain ⟨a, cap, h1, h2, h3⟩ := h
  refine ⟨a, cap, h1, h2, fun i hi => ?_⟩
  obtain ⟨b, o, e, hlt, hc⟩ := h3 i hi
  exact ⟨b, o, e, Nat.lt_of_lt_of_le hlt hb.size, by rw [hb.cell hlt]; exact hc⟩

end Go.Proofs.YthkjhmcbmakkdaaDoor

/- The walks of the specification's l5AnyKind, l6Open, DrawKindFirst: whatever bytes come in, some schema, in memory that the call made. No conditions. -/

namespace Go.Proofs.YthkjhmcbmakkdaaDoor
open Go Go.RowKit

mutual
theorem ksz_wk : ∀ k : Kd, ksz k ≤ wKd k + 1
  | .mk s ns ks => by
    rw [ksz, wKd]
    have := klsz_wk ks
    omega
theorem klsz_wk : ∀ l : List Kd, klsz l ≤ wKs l
  | [] => by rw [klsz]; omega
  | t :: r => by
    rw [klsz, wKs]
    have := ksz_wk t; have := klsz_wk r
    omega
end

set_option maxRecDepth 100000 in
set_option maxHeartbeats 3200000 in
theorem l5AnyKind_any (R : Nat) (w : World) (v : Value) (b : List UInt8) (p : Nat) (h : DR R w v b p) (hp : p ≤ 1000) :
    Calls Tryd.prog 20 #[.pointer (some ⟨R, 0, none⟩)] w fun e w' => SkEnd 100000 10000 R w w' v b p e := by
  obtain ⟨hd0, hb0, hR⟩ := box3_start R w v b p h (.cells #[.int .i64 0, .slice none 0 0, .slice none 0 0] 26)
  have hX0 := row3_alloc w (.int .i64 0) (.slice none 0 0) (.slice none 0 0) 26
  have HPK := hide (pick_any R _ v b p 2 hd0 (by omega) (by omega))
  have HX0 := hide hX0; have HB0 := hide hb0
  clear h hd0 hb0 hX0
  go_enter Tryd.func20, Tryd.ntmps20
  go_wp2_with fail
  refine (unhide HPK).mono ?_
  rintro e w1 ⟨r, rfl, hr, HD1, HB1⟩
  have HB01 := hide ((unhide HB0).trans HB1.out)
  have hX1 := (unhide HX0).of_block (HB1.out.at (by simp) (by omega))
  have HC := hide (fun top => l5Some_any R w1 v b (p + 1) top HD1.out (by omega))
  have HX1 := hide hX1
  have hx1lt := hX1.lt
  clear HPK HX0 HB0 HB1 HD1 hX1
  go_wp2_with fail
  refine (unhide HC _).mono ?_
  rintro e w2 ⟨k, ⟨c0, c1, c2⟩, p2, rfl, hr2, hd2, hp2, hw2, hb2⟩
  obtain ⟨g0, -, ⟨a3, cap3, g1, -⟩, a4, cap4, g2, -⟩ := hr2.open
  simp only at g0 g1 g2
  subst g0 g1 g2
  have hX2 := (unhide HX1).of_block (hb2.at (unhide HX1).lt (by omega))
  have hb02 := (unhide HB01).trans hb2
  have hX2lt := hX2.lt
  obtain ⟨W3, hW3⟩ : ∃ W3, w2.alloc (.cells #[.int .i64 k.sort, .slice a3 k.names.length cap3, .slice a4 k.kids.length cap4] 26) = W3 := ⟨_, rfl⟩
  have hbA : Below w2.heap.size w2 W3 := by rw [← hW3]; exact (Below.refl _ _).alloc (Nat.le_refl _) _
  have hs3 : W3.heap.size = w2.heap.size + 1 := by rw [← hW3]; simp
  have hK3 : W3.rowIs w2.heap.size 26 3 (row3 (.int .i64 k.sort) (.slice a3 k.names.length cap3) (.slice a4 k.kids.length cap4)) := by rw [← hW3]; exact row3_alloc w2 _ _ _ _
  have HPK := hide (pick_any R W3 v b p2 12 (hd2.on hbA) (by omega) (by omega))
  have HK3 := hide hK3; have HX3 := hide (hX2.of_block (hbA.block _ hX2lt)); have HB03 := hide (hb02.trans (But.of_below hbA))
  have HR3 := hide (KRep.carry (Q := fun x => w1.heap.size ≤ x ∧ x < w2.heap.size) (fun x hx => hbA.block x hx.2) (fun _ h => h) k _ hr2)
  have HW3 := hide hW3
  clear HC HX1 HB01 hr2 hd2 hb2 hX2 hb02 hbA hK3 hW3
  go_wp2_with fail
  rw [unhide HW3]
  refine (unhide HPK).mono ?_
  rintro e w4 ⟨r12, rfl, hr12, HD4, HB4⟩
  have hK4 := (unhide HK3).of_block (HB4.out.at (unhide HK3).lt (by omega))
  have hX4 := (unhide HX3).of_block (HB4.out.at (unhide HX3).lt (by omega))
  have hs4 := HB4.out.size
  have hr4 : KRep (fun x => w1.heap.size ≤ x ∧ x < w2.heap.size) w4 k ⟨.int .i64 k.sort, .slice a3 k.names.length cap3, .slice a4 k.kids.length cap4⟩ := KRep.carry (fun x hx => HB4.out.at (by omega) (by omega)) (fun _ h => h) k _ (unhide HR3)
  have p0 := hX4.cell (i := 0) (by omega); have p1 := hX4.cell (i := 1) (by omega); have p2' := hX4.cell (i := 2) (by omega); have pf := hX4.frozen
  have q0 := hK4.cell (i := 0) (by omega); have q1 := hK4.cell (i := 1) (by omega); have q2 := hK4.cell (i := 2) (by omega)
  simp only [row3] at p0 p1 p2' q0 q1 q2
  have hne : w.heap.size ≠ w2.heap.size := by omega
  have hne2 : w2.heap.size ≠ w.heap.size := by omega
  have HB04 := hide ((unhide HB03).trans HB4.out)
  have hbs := (unhide HB04).size
  by_cases h0 : r12 = 0
  · subst h0
    have hkz := ksz_wk k
    have HX4 := hide hX4
    -- the schema's blocks are not the box of the answer: it is carried past it
    have HC := hide (l5Spoil_all (ksz k + 1) k (by omega) (fun x => w1.heap.size ≤ x ∧ x < w2.heap.size) R w4 v b (p2 + 1) ⟨.int .i64 k.sort, .slice a3 k.names.length cap3, .slice a4 k.kids.length cap4⟩ HD4.out (fun x hx => ⟨by omega, by omega⟩) hr4 (by omega) (by omega))
    clear HPK HK3 HX3 HB03 HR3 HW3 hK4 hX4 hr4
    go_wp2_with fail
    refine (unhide HC).mono ?_
    rintro e w5 ⟨k', ⟨d0, d1, d2⟩, p5, rfl, hr5, hd5, hp5, hw5, hb5⟩
    obtain ⟨y0, -, ⟨a5, cap5, y1, -⟩, a6, cap6, y2, -⟩ := hr5.open
    simp only at y0 y1 y2
    subst y0 y1 y2
    have hX5 := (unhide HX4).of_block (hb5.at (unhide HX4).lt (by omega))
    have hs5 := hb5.size
    have p0 := hX5.cell (i := 0) (by omega); have p1 := hX5.cell (i := 1) (by omega); have p2' := hX5.cell (i := 2) (by omega); have pf := hX5.frozen
    simp only [row3] at p0 p1 p2'
    have HEND := hide (fun e0 e1 e2 => sk_end (N := 100000) (M := 10000) (p := p) (p' := p5) hR (KRep.carry (fun _ _ => rfl) (fun x (hx : (w1.heap.size ≤ x ∧ x < w2.heap.size) ∨ (w4.heap.size ≤ x ∧ x < w5.heap.size)) => ⟨by omega, by omega⟩) k' _ hr5) hd5 (by omega) (by omega) ((unhide HB04).trans hb5) e0 e1 e2)
    clear hr5 hd5 hb5 hX5 HC HX4 HB04 HD4 HB4 q0 q1 q2
    go_wp2_with fail
    refine bodyPost_ret (v := .agg #[.int .i64 k'.sort, .slice a5 k'.names.length cap5, .slice a6 k'.kids.length cap6]) (by simp [results, Tryd.results20, go_sem, p0, p1, p2']) rfl ?_
    exact unhide HEND _ _ _
  · have hz : ((r12 : Int) == 0) = false := beq_eq_false_iff_ne.2 (by omega)
    have HEND := hide (fun e0 e1 e2 => sk_end (N := 100000) (M := 10000) (p := p) (p' := p2 + 1) hR (KRep.carry (fun _ _ => rfl) (fun x (hx : w1.heap.size ≤ x ∧ x < w2.heap.size) => ⟨by omega, by omega⟩) k _ hr4) HD4.out (by omega) (by omega) (unhide HB04) e0 e1 e2)
    clear HPK HK3 HX3 HB03 HR3 HW3 hK4 hX4 hr4 HD4 HB4 HB04
    go_wp2_with fail
    refine bodyPost_ret (v := .agg #[.int .i64 k.sort, .slice a3 k.names.length cap3, .slice a4 k.kids.length cap4]) (by simp [results, Tryd.results20, go_sem, p0, p1, p2']) rfl ?_
    exact unhide HEND _ _ _

/-- The reader of draws is opened. -/
theorem l6Open_any (w : World) (a : Option Addr) (cap : Nat) (l : List UInt8) (hv : BytesAt w (.slice a l.length cap) l) (hcap : l.length ≤ cap) :
    Calls Tryd.prog 21 #[.slice a l.length cap] w fun e w' => ∃ (v' : Value) (b' : List UInt8), e = .returned (.pointer (some ⟨w.heap.size, 0, none⟩)) ∧ DR w.heap.size w' v' b' 0 ∧ Below w.heap.size w w' := by
  obtain ⟨a', cap', e, hlen, hc⟩ := hv
  simp only [Value.slice.injEq, true_and] at e
  obtain ⟨rfl, rfl⟩ := e
  by_cases h2 : l.length ≤ 2000
  · have hq : decide ((2000 : Int) < (l.length : Int)) = false := by simp; omega
    have HC := hide hc
    clear hc
    go_enter Tryd.func21, Tryd.ntmps21
    go_wp2_with fail
    go_ret
    refine ⟨.slice a l.length cap, l, rfl, ⟨?_, ⟨a, cap, rfl, fun i hi => ?_⟩, h2⟩, (Below.refl _ _).alloc (Nat.le_refl _) _⟩
    · exact World.rowIs_alloc w #[.slice a l.length cap, .int .i64 0] 87 _ (fun i hi => by
        have hi' : i < 2 := by simpa using hi
        rcases (show i = 0 ∨ i = 1 by omega) with rfl | rfl <;> rfl)
    · obtain ⟨g, o, e, hlt, hcell⟩ := unhide HC i hi
      exact ⟨g, o, e, hlt, by rw [World.cell?_of_block (w := w) (Below.heap_alloc _ _ _ hlt)]; exact hcell⟩
  · have hq : decide ((2000 : Int) < (l.length : Int)) = true := by simp; omega
    obtain ⟨g, o, rfl, -, -⟩ := hc 0 (by omega)
    have HC := hide hc
    clear hc
    have hc2 : 2000 ≤ cap := by omega
    have hc3 : (2000 : Int) ≤ (cap : Int) := by omega
    go_enter Tryd.func21, Tryd.ntmps21
    go_wp2_with fail
    go_ret
    have hl2 : (l.take 2000).length = 2000 := by rw [List.length_take]; omega
    refine ⟨.slice (some ⟨g, o, none⟩) 2000 cap, l.take 2000, rfl, ⟨?_, ⟨_, cap, by rw [hl2], fun i hi => ?_⟩, by omega⟩, (Below.refl _ _).alloc (Nat.le_refl _) _⟩
    · exact World.rowIs_alloc w #[.slice (some ⟨g, o, none⟩) 2000 cap, .int .i64 0] 87 _ (fun i hi => by
        have hi' : i < 2 := by simpa using hi
        rcases (show i = 0 ∨ i = 1 by omega) with rfl | rfl <;> rfl)
    · obtain ⟨g', o', e, hlt, hcell⟩ := unhide HC i (by omega)
      exact ⟨g', o', e, hlt, by rw [World.cell?_of_block (w := w) (Below.heap_alloc _ _ _ hlt), List.getElem_take]; exact hcell⟩

/-- Whatever bytes come in, some schema is drawn. -/
theorem drawKindFirst_any (w : World) (a : Option Addr) (cap : Nat) (l : List UInt8) (hv : BytesAt w (.slice a l.length cap) l) (hcap : l.length ≤ cap) :
    Calls Tryd.prog 13 #[.slice a l.length cap] w fun e w' => ∃ (k : Kd) (c : C3), e = .returned (.agg #[c.c0, c.c1, c.c2]) ∧ KRep (fun x => w.heap.size ≤ x ∧ x < w'.heap.size) w' k c ∧ wKd k ≤ 10000 ∧ Below w.heap.size w w' := by
  have hb0 : ∀ o, Below w.heap.size w (w.alloc o) := fun o => (Below.refl _ _).alloc (Nat.le_refl _) o
  have HOP := hide (fun o => l6Open_any (w.alloc o) a cap l (hv.on (hb0 o)) hcap)
  have HX0 := hide (row3_alloc w (.int .i64 0) (.slice none 0 0) (.slice none 0 0) 26)
  have HB0 := hide hb0
  clear hv hb0
  go_enter Tryd.func13, Tryd.ntmps13
  go_wp2_with fail
  refine (unhide HOP _).mono ?_
  rintro e w1 ⟨v', b', rfl, hdr, hb1⟩
  have hb1' := hb1
  rw [World.size_alloc] at hdr hb1' ⊢
  have HC := hide (l5AnyKind_any (w.heap.size + 1) w1 v' b' 0 hdr (by omega))
  have hX1 := (unhide HX0).of_block (hb1.block _ (by simp))
  have HX1 := hide hX1
  have HB1 := hide ((unhide HB0 (.cells #[.int .i64 0, .slice none 0 0, .slice none 0 0] 26)).trans (hb1.mono (by simp)))
  have hs1 := hb1'.size
  have hR1 := hdr.cells.lt
  clear HOP HX0 hdr hb1 hb1' hX1 HB0
  go_wp2_with fail
  refine (unhide HC).mono ?_
  rintro e w2 ⟨k, ⟨c0, c1, c2⟩, p2, rfl, hr2, hd2, hp2, hw2, hb2⟩
  obtain ⟨g0, -, ⟨a3, cap3, g1, -⟩, a4, cap4, g2, -⟩ := hr2.open
  simp only at g0 g1 g2
  subst g0 g1 g2
  have hX2 := (unhide HX1).of_block (hb2.at (unhide HX1).lt (by omega))
  have p0 := hX2.cell (i := 0) (by omega); have p1 := hX2.cell (i := 1) (by omega); have p2' := hX2.cell (i := 2) (by omega); have pf := hX2.frozen
  simp only [row3] at p0 p1 p2'
  have hbW : Below w.heap.size w w2 := (unhide HB1).trans ⟨hb2.os, hb2.tape, hb2.output, hb2.size, fun i hi => hb2.at (by omega) (by omega)⟩
  have HBW := hide hbW; have HR2 := hide hr2
  clear hX2 hbW hr2 hb2 hd2 HX1 HB1 HC
  go_wp2_with fail
  refine bodyPost_ret (v := .agg #[.int .i64 k.sort, .slice a3 k.names.length cap3, .slice a4 k.kids.length cap4]) (by simp [results, Tryd.results13, go_sem, p0, p1, p2']) rfl ?_
  refine ⟨k, ⟨_, _, _⟩, rfl, KRep.carry (fun x hx => by repeat rw [Below.heap_setCell _ _ _ _ (by simp; omega)]) (fun x hx => ⟨by omega, by simp only [size_setCell]; exact hx.2⟩) k _ (unhide HR2), hw2, ?_⟩
  repeat refine Below.setCell ?_ (by simp) _
  exact unhide HBW
end Go.Proofs.YthkjhmcbmakkdaaDoor

/- The text of a schema, as a plain function on data, and its length. No program, no conditions. -/

namespace Go.Proofs.YthkjhmcbmakkdaaDoor
open Go Go.RowKit

/-- What stands ahead of kid i of a form. -/
def kAhead (ns : List ByteArray) (i : Nat) : List UInt8 := (if 0 < i then [44] else []) ++ ((ns.getD i ByteArray.empty).data.toList ++ [58])

mutual
def kxT : Kd → List UInt8
  | .mk s ns ks =>
    if s = 1 then [110, 117, 109]
    else if s = 2 then [116, 101, 120, 116]
    else if s = 3 then [102, 108, 97, 103]
    else if s = 4 then [91] ++ kxM ks ++ [93]
    else if s = 6 then [63] ++ kxM ks
    else [123] ++ kxK ns 0 ks ++ [125]
def kxM : List Kd → List UInt8
  | [] => []
  | t :: _ => kxT t
def kxK (ns : List ByteArray) (i : Nat) : List Kd → List UInt8
  | [] => []
  | t :: r => kAhead ns i ++ kxT t ++ kxK ns (i + 1) r
end

mutual
/-- All of its parts are ok, but for their count and levels. -/
def okD : Kd → Bool
  | .mk s ns ks => shB (.mk s ns ks) && okDs ks
def okDs : List Kd → Bool
  | [] => true
  | t :: r => okD t && okDs r
end

theorem okD_eq (t : Kd) : okD t = (shB t && okDs t.kids) := by
  obtain ⟨s, ns, ks⟩ := t; rw [okD]; rfl
theorem okDs_get {ks : List Kd} (h : okDs ks = true) (i : Nat) (hi : i < ks.length) : okD ks[i] = true := by
  induction ks generalizing i with
  | nil => simp at hi
  | cons t r ih =>
    rw [okDs, Bool.and_eq_true] at h
    cases i with
    | zero => exact h.1
    | succ i => exact ih h.2 i (by simpa using hi)

theorem kxT_eq (t : Kd) : kxT t = if t.sort = 1 then [110, 117, 109]
    else if t.sort = 2 then [116, 101, 120, 116]
    else if t.sort = 3 then [102, 108, 97, 103]
    else if t.sort = 4 then [91] ++ kxM t.kids ++ [93]
    else if t.sort = 6 then [63] ++ kxM t.kids
    else [123] ++ kxK t.names 0 t.kids ++ [125] := by
  obtain ⟨s, ns, ks⟩ := t; rw [kxT]; rfl

theorem kxM_get {ks : List Kd} (h : 0 < ks.length) : kxM ks = kxT ks[0] := by
  cases ks with
  | nil => simp at h
  | cons t r => rw [kxM]; rfl

/-- The text of the first k kids. -/
def kxTo (ns : List ByteArray) (ks : List Kd) (k : Nat) : List UInt8 := kxK ns 0 (ks.take k)

theorem kxK_snoc (ns : List ByteArray) (i : Nat) (l : List Kd) (t : Kd) : kxK ns i (l ++ [t]) = kxK ns i l ++ (kAhead ns (i + l.length) ++ kxT t) := by
  induction l generalizing i with
  | nil => simp [kxK]
  | cons a r ih =>
    simp only [List.cons_append, kxK, List.length_cons]
    rw [ih (i + 1), show i + 1 + r.length = i + (r.length + 1) from by omega]
    simp only [List.append_assoc]

theorem kxTo_succ (ns : List ByteArray) (ks : List Kd) (k : Nat) (hk : k < ks.length) : kxTo ns ks (k + 1) = kxTo ns ks k ++ (kAhead ns k ++ kxT ks[k]) := by
  unfold kxTo
  rw [List.take_succ_eq_append_getElem hk, kxK_snoc]
  simp [Nat.min_eq_left (Nat.le_of_lt hk)]

theorem kxTo_all (ns : List ByteArray) (ks : List Kd) : kxTo ns ks ks.length = kxK ns 0 ks := by
  unfold kxTo; rw [List.take_length]

theorem kxTo_le (ns : List ByteArray) (ks : List Kd) (k : Nat) (hk : k ≤ ks.length) : (kxTo ns ks k).length ≤ (kxK ns 0 ks).length := by
  rw [← kxTo_all]
  have : ∀ m, k + m ≤ ks.length → (kxTo ns ks k).length ≤ (kxTo ns ks (k + m)).length := by
    intro m
    induction m with
    | zero => intro _; exact Nat.le_refl _
    | succ m ih =>
      intro h
      rw [show k + (m + 1) = k + m + 1 from by omega, kxTo_succ _ _ _ (by omega), List.length_append]
      have := ih (by omega); omega
  have := this (ks.length - k) (by omega)
  rwa [show k + (ks.length - k) = ks.length from by omega] at this

theorem shB_cases {t : Kd} (h : shB t = true) : ((t.sort = 1 ∨ t.sort = 2 ∨ t.sort = 3) ∧ t.kids.length = 0 ∧ t.names.length = 0) ∨ ((t.sort = 4 ∨ t.sort = 6) ∧ t.kids.length = 1 ∧ t.names.length = 0) ∨ (t.sort = 5 ∧ t.kids.length = t.names.length ∧ riseB t.names = true) := by
  unfold shB at h
  by_cases h1 : t.sort = 1 ∨ t.sort = 2 ∨ t.sort = 3
  · rw [if_pos h1] at h; exact Or.inl ⟨h1, of_decide_eq_true h⟩
  · rw [if_neg h1] at h
    by_cases h2 : t.sort = 4 ∨ t.sort = 6
    · rw [if_pos h2] at h; exact Or.inr (Or.inl ⟨h2, of_decide_eq_true h⟩)
    · rw [if_neg h2] at h
      by_cases h3 : t.sort = 5
      · rw [if_pos h3, Bool.and_eq_true] at h; exact Or.inr (Or.inr ⟨h3, of_decide_eq_true h.1, h.2⟩)
      · rw [if_neg h3] at h; cases h

mutual
theorem pord_len : ∀ (t : Kd) (l : Int), (pord t l).length = ksz t
  | .mk s ns ks, l => by rw [pord, ksz, List.length_cons, pordK_len ks (l + 1)]; omega
theorem pordK_len : ∀ (ks : List Kd) (l : Int), (pordK ks l).length = klsz ks
  | [], l => by rw [pordK, klsz]; rfl
  | t :: r, l => by rw [pordK, klsz, List.length_append, pord_len t l, pordK_len r l]
end
mutual
theorem okD_pord : ∀ (t : Kd) (l : Int), (pord t l).all gdB = true → okD t = true
  | .mk s ns ks, l => by
    intro h
    rw [pord, List.all_cons, Bool.and_eq_true] at h
    rw [okD, Bool.and_eq_true]
    refine ⟨?_, okDs_pord ks (l + 1) h.2⟩
    have := h.1
    simp only [gdB, Bool.and_eq_true] at this
    exact this.2
theorem okDs_pord : ∀ (ks : List Kd) (l : Int), (pordK ks l).all gdB = true → okDs ks = true
  | [], l => by intro _; rw [okDs]
  | t :: r, l => by
    intro h
    rw [pordK, List.all_append, Bool.and_eq_true] at h
    rw [okDs, Bool.and_eq_true]
    exact ⟨okD_pord t l h.1, okDs_pord r l h.2⟩
end

theorem ok_of_qT {t : Kd} (h : 0 < qT t 1) : okD t = true ∧ ksz t ≤ 40 := by
  have h' : decide (0 < qT t 1) = true := decide_eq_true h
  rw [qT_start, Bool.and_eq_true] at h'
  refine ⟨okD_pord t 1 h'.1, ?_⟩
  rw [← pord_len t 1]; exact of_decide_eq_true h'.2

theorem name_size {s : ByteArray} (h : nameOkB s = true) : s.size ≤ 8 := by
  unfold nameOkB at h
  simp only [Bool.and_eq_true, decide_eq_true_eq] at h
  omega

theorem rise_size {ss : List ByteArray} (h : riseB ss = true) (i : Nat) (hi : i < ss.length) : ss[i].size ≤ 8 := by
  have hg : good ss i = true := by
    cases hh : good ss i
    · exact absurd (rise_no hi hh) (by rw [h]; simp)
    · rfl
  apply name_size
  cases hn : nameOkB ss[i]
  · rw [good_name hi hn] at hg; cases hg
  · rfl

theorem kAhead_len {ns : List ByteArray} (h : riseB ns = true) (i : Nat) (hi : i < ns.length) : (kAhead ns i).length ≤ 10 := by
  have h1 := rise_size h i hi
  have e : (ns.getD i ByteArray.empty) = ns[i] := by simp [List.getD, hi]
  unfold kAhead
  rw [e]
  have e2 : ns[i].data.toList.length = ns[i].size := rfl
  simp only [List.length_append, List.length_cons, List.length_nil, e2]
  split <;> simp <;> omega

mutual
theorem kxT_len : ∀ (t : Kd), okD t = true → (kxT t).length + 10 ≤ 14 * ksz t
  | .mk s ns ks => by
    intro h
    rw [okD, Bool.and_eq_true] at h
    rw [ksz]
    rcases shB_cases h.1 with ⟨h1, h2, h3⟩ | ⟨h1, h2, h3⟩ | ⟨h1, h2, h3⟩
    · rw [kxT_eq]
      rcases h1 with h1 | h1 | h1
      · rw [if_pos h1]; simp; omega
      · rw [if_neg (by omega), if_pos h1]; simp; omega
      · rw [if_neg (by omega), if_neg (by omega), if_pos h1]; simp; omega
    · have hm := kxM_len ks h.2
      have h2' : ks.length = 1 := h2
      rw [kxT_eq, if_neg (by omega), if_neg (by omega), if_neg (by omega)]
      by_cases h4 : (Kd.mk s ns ks).sort = 4
      · rw [if_pos h4]
        simp only [List.length_append, List.length_cons, List.length_nil]
        show 1 + (kxM ks).length + 1 + 10 ≤ _
        have := hm (by omega)
        omega
      · rw [if_neg h4, if_pos (by omega)]
        simp only [List.length_append, List.length_cons, List.length_nil]
        show 1 + (kxM ks).length + 10 ≤ _
        have := hm (by omega)
        omega
    · have hk := kxK_len ns h3 ks 0 (by have : ks.length = ns.length := h2; omega) h.2
      rw [kxT_eq, if_neg (by omega), if_neg (by omega), if_neg (by omega), if_neg (by omega), if_neg (by omega)]
      simp only [List.length_append, List.length_cons, List.length_nil]
      show 1 + (kxK ns 0 ks).length + 1 + 10 ≤ _
      omega
theorem kxM_len : ∀ (ks : List Kd), okDs ks = true → 0 < ks.length → (kxM ks).length + 10 ≤ 14 * klsz ks
  | [] => by intro _ h; simp at h
  | t :: r => by
    intro h _
    rw [okDs, Bool.and_eq_true] at h
    rw [kxM, klsz]
    have := kxT_len t h.1
    omega
theorem kxK_len (ns : List ByteArray) (hr : riseB ns = true) : ∀ (ks : List Kd) (i : Nat), i + ks.length ≤ ns.length → okDs ks = true → (kxK ns i ks).length ≤ 14 * klsz ks
  | [], i => by intro _ _; rw [kxK]; simp
  | t :: r, i => by
    intro hi h
    rw [okDs, Bool.and_eq_true] at h
    rw [kxK, klsz]
    simp only [List.length_cons] at hi
    have h1 := kxT_len t h.1
    have h2 := kxK_len ns hr r (i + 1) (by omega) h.2
    have h3 := kAhead_len hr i (by omega)
    simp only [List.length_append]
    omega
end

/-- The text of a schema that is ok is short. -/
theorem kxT_short {t : Kd} (h : 0 < qT t 1) : (kxT t).length ≤ 560 := by
  obtain ⟨h1, h2⟩ := ok_of_qT h
  have := kxT_len t h1
  omega

end Go.Proofs.YthkjhmcbmakkdaaDoor
