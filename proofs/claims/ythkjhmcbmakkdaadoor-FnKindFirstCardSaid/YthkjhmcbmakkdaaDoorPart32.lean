/- The walk of the program's TreeParts. Conditions: the table treeFields is as the program lays it. -/
import Derived.Test.YthkjhmcbmakkdaaDoorPart30
import Derived.Test.YthkjhmcbmakkdaaDoorPart11
import Derived.Test.YthkjhmcbmakkdaaDoorPart12
import Derived.Test.YthkjhmcbmakkdaaDoorPart20
import Derived.Test.YthkjhmcbmakkdaaDoorPart31
import Derived.Test.YthkjhmcbmakkdaaDoorRows
import Derived.ProofKit
import Derived.OpenShut
namespace Go.Proofs.YthkjhmcbmakkdaaDoor
open Go Go.RowKit

set_option maxHeartbeats 800000 in
theorem implTreeParts_any (t : Tr) (P : Nat → Prop) (c : C5) (w : World) (hP : ∀ b, P b → b < w.heap.size) (hrep : Rep P w t c) (hT : Tab w) :
    Calls Tryd.prog 19 #[.agg #[c.c0, c.c1, c.c2, c.c3, c.c4]] w fun e w' => e = .returned (.int .i64 (if pT t 1 < 0 then 0 else pT t 1)) ∧ Below w.heap.size w w' := by
  have hbx : ∀ o, Below w.heap.size w (w.alloc o) := fun o => (Below.refl _ _).alloc (Nat.le_refl _) o
  have hcall : ∀ o, Calls Tryd.prog 45 #[.agg #[c.c0, c.c1, c.c2, c.c3, c.c4]] (w.alloc o) fun e w' => ∃ v, e = .returned (.tuple #[v, .int .i64 (if pT t 1 < 0 then 0 else pT t 1)]) ∧ Below w.heap.size w w' := fun o =>
    (sortTree_parts P (w.alloc o) t c (Rep.carry (fun b hb => (hbx o).block b (hP b hb)) (fun _ h => h) _ _ hrep) (fun b hb => Nat.lt_of_lt_of_le (hP b hb) (hbx o).size) (hT.of_block ((hbx o).block 1 hT.lt))).mono
      fun e w' ⟨v, h1, h2⟩ => ⟨v, h1, (hbx o).trans (h2.mono (hbx o).size)⟩
  generalize (if pT t 1 < 0 then 0 else pT t 1) = r at *
  have HCALL := hide hcall
  clear hbx hcall hP hrep hT
  go_enter Tryd.func19, Tryd.ntmps19
  go_wp2_with (go_at_call 45; refine (unhide HCALL _).mono ?_; rintro e w2 ⟨v, rfl, hb2⟩)
  go_ret
  exact ⟨rfl, hb2⟩
end Go.Proofs.YthkjhmcbmakkdaaDoor

/- The walk of the law on the first trees (FnKindFirst): whatever bytes come in, it answers true, and turns nothing that was there. The table treeFields is as the program lays it. -/

namespace Go.Proofs.YthkjhmcbmakkdaaDoor
open Go Go.RowKit

/-- A schema in its box. -/
structure KS (w wr : World) (k : Kd) (c : C3) (B : Nat) : Prop where
  below : Below w.heap.size w wr
  box : wr.rowIs B 26 3 (row3 c.c0 c.c1 c.c2)
  rep : KRep (fun x => x < B) wr k c
theorem KS.on {w wr w' : World} {k : Kd} {c : C3} {B : Nat} (h : KS w wr k c B) (hb : Below wr.heap.size wr w') : KS w w' k c B :=
  ⟨h.below.trans (hb.mono h.below.size), h.box.of_block (hb.block _ h.box.lt), KRep.carry (fun x hx => hb.block x (Nat.lt_trans hx h.box.lt)) (fun _ h => h) _ _ h.rep⟩
/-- A tree in its box. -/
structure TS (wr : World) (t : Tr) (d : C5) (B : Nat) : Prop where
  box : wr.rowIs B 37 5 (row5 d.c0 d.c1 d.c2 d.c3 d.c4)
  rep : Rep (fun x => x < B) wr t d
theorem TS.on {wr w' : World} {t : Tr} {d : C5} {B : Nat} (h : TS wr t d B) (hb : Below wr.heap.size wr w') : TS w' t d B :=
  ⟨h.box.of_block (hb.block _ h.box.lt), Rep.carry (fun x hx => hb.block x (Nat.lt_trans hx h.box.lt)) (fun _ h => h) _ _ h.rep⟩
theorem TS.start {wr : World} {t : Tr} {d0 d1 d2 d3 d4 : Value} {F : List Nat} (ho : Own wr t ⟨d0, d1, d2, d3, d4⟩ F) (hF : ∀ x, x ∈ F → x < wr.heap.size) : TS (wr.alloc (.cells #[d0, d1, d2, d3, d4] 37)) t ⟨d0, d1, d2, d3, d4⟩ wr.heap.size :=
  ⟨row5_alloc wr d0 d1 d2 d3 d4 _, Rep.carry (fun x hx => Below.heap_alloc _ _ _ (hF x hx)) (fun x hx => hF x hx) _ _ (Own.rep t _ F (fun _ h => h) ho)⟩

theorem first_facts (k : Kd) : (0 < qT k 1 → hasA k (fA k) = true ∧ (if pT (fA k) 1 < 0 then 0 else pT (fA k) 1) ≤ 40) ∧ (¬ 0 < qT k 1 → (fA k).sort = 0) := by
  constructor
  · intro h
    have h1 := first_parts k 1 h
    have h2 := first_has k (ok_of_qT h).1
    have hb := qT_bd k 1
    rw [fA, if_pos h]
    refine ⟨?_, ?_⟩
    · unfold hasA; rw [decide_eq_true h, decide_eq_true h1.1, h2]; rfl
    · split <;> omega
  · intro h
    rw [fA, if_neg h]; rfl

set_option maxRecDepth 100000 in
set_option maxHeartbeats 3200000 in
theorem lawFirst_any (w : World) (a : Option Addr) (cap : Nat) (l : List UInt8) (hv : BytesAt w (.slice a l.length cap) l) (hcap : l.length ≤ cap) (hT : Tab w) :
    Calls Tryd.prog 4 #[.slice a l.length cap] w fun e w' => e = .returned (.bool true) ∧ Below w.heap.size w w' := by
  have hlen : l.length ≤ 9223372036854775807 := by obtain ⟨_, _, _, h, _⟩ := hv; exact h
  by_cases hs : l.length ≤ 1048576
  · have hd : decide ((1048576 : Int) < (l.length : Int)) = false := by simp; omega
    have HDR := hide (drawKindFirst_any w a cap l hv hcap)
    have HT := hide (fun W (hW : Below w.heap.size w W) => hT.of_block (hW.block _ hT.lt))
    clear hv hT
    go_enter Tryd.func4, Tryd.ntmps4
    go_wp2_with fail
    refine (unhide HDR).mono ?_
    rintro e w1 ⟨k, ⟨c0, c1, c2⟩, rfl, hr1, hw1, hb1⟩
    obtain ⟨g0, -, ⟨a3, cap3, g1, -⟩, a4, cap4, g2, -⟩ := hr1.open
    simp only at g0 g1 g2
    subst g0 g1 g2
    obtain ⟨W1, hW1⟩ : ∃ W1, w1.alloc (.cells #[.int .i64 k.sort, .slice a3 k.names.length cap3, .slice a4 k.kids.length cap4] 26) = W1 := ⟨_, rfl⟩
    have hbA : Below w1.heap.size w1 W1 := by rw [← hW1]; exact (Below.refl _ _).alloc (Nat.le_refl _) _
    have hks : KS w W1 k ⟨.int .i64 k.sort, .slice a3 k.names.length cap3, .slice a4 k.kids.length cap4⟩ w1.heap.size :=
      ⟨hb1.trans (hbA.mono hb1.size), by rw [← hW1]; exact row3_alloc w1 _ _ _ _, KRep.carry (fun x hx => hbA.block x hx.2) (fun x hx => hx.2) _ _ hr1⟩
    obtain ⟨hf1, hf2⟩ := first_facts k
    have HF1 := hide hf1; have HF2 := hide hf2
    have hsz1 := hks.box.lt
    have HC := hide (specKindFirst_any k (fun x => x < w1.heap.size) ⟨.int .i64 k.sort, .slice a3 k.names.length cap3, .slice a4 k.kids.length cap4⟩ W1 (fun x hx => by omega) hks.rep)
    have HKS := hide hks; have HW1 := hide hW1
    clear HDR hr1 hb1 hbA hks hW1 hf1 hf2
    have k0 := (unhide HKS).box.cell (i := 0) (by omega); have k1 := (unhide HKS).box.cell (i := 1) (by omega); have k2 := (unhide HKS).box.cell (i := 2) (by omega)
    simp only [row3] at k0 k1 k2
    go_wp2_with fail
    rw [unhide HW1]
    refine (unhide HC).mono ?_
    rintro e w2 ⟨⟨d0, d1, d2, d3, d4⟩, FW, rfl, ho2, -, hF2, hb2⟩
    obtain ⟨p0, p1, p2, -, -, -, F1, F2, -, ⟨ap, cp, p3, -⟩, aq, cq, p4, -⟩ := ho2.open
    simp only at p0 p1 p2 p3 p4
    subst p0 p1 p2 p3 p4
    have hts := TS.start ho2 (fun x hx => (hF2 x hx).2)
    have hks2 := (unhide HKS).on hb2
    obtain ⟨W2, hW2⟩ : ∃ W2, w2.alloc (.cells #[.int .i64 (fA k).sort, .int .i64 (fA k).num, .string (fA k).text, .slice ap (fA k).names.length cp, .slice aq (fA k).kids.length cq] 37) = W2 := ⟨_, rfl⟩
    rw [hW2] at hts
    have hks3 := hks2.on (show Below w2.heap.size w2 W2 by rw [← hW2]; exact (Below.refl _ _).alloc (Nat.le_refl _) _)
    obtain ⟨ok, hok⟩ : ∃ ok, ok = decide (0 < qT k 1) := ⟨_, rfl⟩
    have hC := specKindOk_any k (fun x => x < w1.heap.size) ⟨.int .i64 k.sort, .slice a3 k.names.length cap3, .slice a4 k.kids.length cap4⟩ W2 (fun x hx => Nat.lt_trans hx hks3.box.lt) hks3.rep
    rw [← hok] at hC
    have HC2 := hide hC; have HTW := hide hts; have HKS3 := hide hks3; have HW2 := hide hW2; have HOK := hide hok
    have k0 := hks3.box.cell (i := 0) (by omega); have k1 := hks3.box.cell (i := 1) (by omega); have k2 := hks3.box.cell (i := 2) (by omega)
    have k0' := hks2.box.cell (i := 0) (by omega); have k1' := hks2.box.cell (i := 1) (by omega); have k2' := hks2.box.cell (i := 2) (by omega); have klt := hks2.box.lt
    simp only [row3] at k0 k1 k2 k0' k1' k2'
    clear HC hC hts hks2 hks3 hW2 hok ho2 hF2 hb2 HKS HW1
    go_wp2_with fail
    try rw [unhide HW2]
    refine (unhide HC2).mono ?_
    rintro e w3 ⟨rfl, hb3⟩
    have hks4 := (unhide HKS3).on hb3
    have hts4 := (unhide HTW).on hb3
    have HIM := hide (implKindFirst_any k (fun x => x < w1.heap.size) ⟨.int .i64 k.sort, .slice a3 k.names.length cap3, .slice a4 k.kids.length cap4⟩ w3 (fun x hx => Nat.lt_trans hx hks4.box.lt) hks4.rep (by omega))
    have k0 := hks4.box.cell (i := 0) (by omega); have k1 := hks4.box.cell (i := 1) (by omega); have k2 := hks4.box.cell (i := 2) (by omega)
    simp only [row3] at k0 k1 k2
    have HKS4 := hide hks4; have HTW4 := hide hts4
    clear HC2 hb3 hks4 hts4 HKS3 HTW k0' k1' k2' klt HW2
    go_wp2_with fail
    refine (unhide HIM).mono ?_
    rintro e w4 ⟨⟨e0, e1, e2, e3, e4⟩, FG, rfl, ho4, -, hF4, hb4⟩
    obtain ⟨p0, p1, p2, -, -, -, F3, F4, -, ⟨bp, dp, p3, -⟩, bq, dq, p4, -⟩ := ho4.open
    simp only at p0 p1 p2 p3 p4
    subst p0 p1 p2 p3 p4
    have htg := TS.start ho4 (fun x hx => (hF4 x hx).2)
    have hks5 := (unhide HKS4).on hb4
    have hts5 := (unhide HTW4).on hb4
    obtain ⟨W4, hW4⟩ : ∃ W4, w4.alloc (.cells #[.int .i64 (fA k).sort, .int .i64 (fA k).num, .string (fA k).text, .slice bp (fA k).names.length dp, .slice bq (fA k).kids.length dq] 37) = W4 := ⟨_, rfl⟩
    rw [hW4] at htg
    have hbA4 : Below w4.heap.size w4 W4 := by rw [← hW4]; exact (Below.refl _ _).alloc (Nat.le_refl _) _
    have hks6 := hks5.on hbA4
    have hts6 := hts5.on hbA4
    have HTT := hide (ttTree_any (fA k) (fun x => x < w4.heap.size) (fun x => x < w2.heap.size) ⟨.int .i64 (fA k).sort, .int .i64 (fA k).num, .string (fA k).text, .slice bp (fA k).names.length dp, .slice bq (fA k).kids.length dq⟩ ⟨.int .i64 (fA k).sort, .int .i64 (fA k).num, .string (fA k).text, .slice ap (fA k).names.length cp, .slice aq (fA k).kids.length cq⟩ W4 (fun x hx => Nat.lt_trans hx htg.box.lt) (fun x hx => Nat.lt_trans hx hts6.box.lt) htg.rep hts6.rep)
    have b0 := hts5.box.cell (i := 0) (by omega); have b1 := hts5.box.cell (i := 1) (by omega); have b2 := hts5.box.cell (i := 2) (by omega); have b3 := hts5.box.cell (i := 3) (by omega); have b4 := hts5.box.cell (i := 4) (by omega); have blt := hts5.box.lt
    simp only [row5] at b0 b1 b2 b3 b4
    have HKS6 := hide hks6; have HTG := hide htg; have HW4 := hide hW4
    clear HIM ho4 hF4 hb4 htg hks5 hts5 hW4 hbA4 hks6 hts6 HKS4 HTW4 k0 k1 k2
    go_wp2_with fail
    rw [unhide HW4]
    refine (unhide HTT).mono ?_
    rintro e w5 ⟨rfl, hb5⟩
    have hks7 := (unhide HKS6).on hb5
    have htg7 := (unhide HTG).on hb5
    have f0 := htg7.box.cell (i := 0) (by omega); have f1 := htg7.box.cell (i := 1) (by omega); have f2 := htg7.box.cell (i := 2) (by omega); have f3 := htg7.box.cell (i := 3) (by omega); have f4 := htg7.box.cell (i := 4) (by omega)
    have k0 := hks7.box.cell (i := 0) (by omega); have k1 := hks7.box.cell (i := 1) (by omega); have k2 := hks7.box.cell (i := 2) (by omega)
    simp only [row3, row5] at f0 f1 f2 f3 f4 k0 k1 k2
    have HKS7 := hide hks7; have HTG7 := hide htg7
    clear HTT hb5 hks7 htg7 HKS6 HTG HW4 b0 b1 b2 b3 b4 blt
    by_cases hq : 0 < qT k 1
    · obtain rfl : ok = true := by rw [unhide HOK]; exact decide_eq_true hq
      obtain ⟨hh, hpp⟩ := unhide HF1 hq
      have hC := implKindHas_any k (fA k) (fun x => x < w1.heap.size) (fun x => x < w4.heap.size) ⟨.int .i64 k.sort, .slice a3 k.names.length cap3, .slice a4 k.kids.length cap4⟩ ⟨.int .i64 (fA k).sort, .int .i64 (fA k).num, .string (fA k).text, .slice bp (fA k).names.length dp, .slice bq (fA k).kids.length dq⟩ w5 (fun x hx => Nat.lt_trans hx (unhide HKS7).box.lt) (fun x hx => Nat.lt_trans hx (unhide HTG7).box.lt) (unhide HKS7).rep (unhide HTG7).rep (unhide HT w5 (unhide HKS7).below) (by omega)
      rw [hh] at hC
      have HC := hide hC
      have HTP := hide (fun W (hW : TS W (fA k) ⟨.int .i64 (fA k).sort, .int .i64 (fA k).num, .string (fA k).text, .slice bp (fA k).names.length dp, .slice bq (fA k).kids.length dq⟩ w4.heap.size) (hB : Below w.heap.size w W) => implTreeParts_any (fA k) (fun x => x < w4.heap.size) _ W (fun x hx => Nat.lt_trans hx hW.box.lt) hW.rep (unhide HT W hB))
      generalize (if pT (fA k) 1 < 0 then 0 else pT (fA k) 1) = pp at *
      have hpd : decide (pp ≤ 40) = true := decide_eq_true hpp
      clear hC hh hq HF1 HF2 HOK
      go_wp2_with fail
      refine (unhide HC).mono ?_
      rintro e w6 ⟨rfl, hb6⟩
      have hks8 := (unhide HKS7).on hb6
      have htg8 := (unhide HTG7).on hb6
      have f0 := htg8.box.cell (i := 0) (by omega); have f1 := htg8.box.cell (i := 1) (by omega); have f2 := htg8.box.cell (i := 2) (by omega); have f3 := htg8.box.cell (i := 3) (by omega); have f4 := htg8.box.cell (i := 4) (by omega)
      simp only [row5] at f0 f1 f2 f3 f4
      have HC3 := hide (unhide HTP w6 htg8 hks8.below)
      have HB8 := hide hks8.below
      clear HC HTP hks8 htg8 hb6 HKS7 HTG7
      go_wp2_with fail
      refine (unhide HC3).mono ?_
      rintro e w7 ⟨rfl, hb7⟩
      have HB9 := hide ((unhide HB8).trans (hb7.mono (unhide HB8).size))
      clear HC3 hb7 HB8
      go_wp2_with fail
      go_ret
      exact ⟨rfl, unhide HB9⟩
    · obtain rfl : ok = false := by rw [unhide HOK]; exact decide_eq_false hq
      have hz := unhide HF2 (by omega)
      rw [hz] at f0
      have HB := hide (unhide HKS7).below
      clear HF1 HF2 HOK hq hz
      go_wp2_with fail
      go_ret
      exact ⟨rfl, unhide HB⟩
  · have hd : decide ((1048576 : Int) < (l.length : Int)) = true := by simp; omega
    go_enter Tryd.func4, Tryd.ntmps4
    go_wp2_with fail
    go_ret
    exact ⟨rfl, Below.refl _ _⟩
end Go.Proofs.YthkjhmcbmakkdaaDoor

/- What is read of a row of bytes that comes in is one that lies in memory. No conditions. -/

namespace Go.Proofs.YthkjhmcbmakkdaaDoor
open Go Go.RowKit Go.ChangeShapes Go.WideShapes Go.ChangeAt

theorem cellsU8 : Tryd.prog.cellsOf 5 = 1 := by kernel_rfl

section
variable {H : Type} {enc : TypeId × Value → H} {W : World} {spare : Nat → Bool} {held : Bool}

theorem bytes_cap {fuel : Nat} {a : Option Addr} {len cap : Nat} {x : DataW H × List MemPlace} (h : DataW.trod enc Tryd.prog W 0 spare held fuel 22 [.slice a len cap] = some x) : len ≤ cap := by
  rcases open_ints Tryd.underlying22 Tryd.underlying5 cellsU8 h with ⟨hcs, -⟩ | ⟨a', len', cap', zs, hcs, -, hl, -⟩
  · simp only [List.cons.injEq, Value.slice.injEq, and_true] at hcs
    omega
  · simp only [List.cons.injEq, Value.slice.injEq, and_true] at hcs
    omega
theorem bytes_of_trod {fuel : Nat} {v : Value} {x : DataW H × List MemPlace} (h : DataW.trod enc Tryd.prog W 0 spare held fuel 22 [v] = some x) :
    ∃ l, BytesAt W v l := by
  rcases open_ints Tryd.underlying22 Tryd.underlying5 cellsU8 h with ⟨hcs, -⟩ | ⟨a, len, cap, zs, hcs, -, hl, hm, hz, -, hcell, hws⟩
  · simp only [List.cons.injEq, and_true] at hcs
    exact ⟨[], none, 0, hcs, by simp, fun i hi => by simp at hi⟩
  · simp only [List.cons.injEq, and_true] at hcs
    have hle : len ≤ zs.length := by rw [hz]; split <;> omega
    unfold maxLen at hm
    have hlen : ((zs.take len).map (fun z => UInt8.ofNat z.toNat)).length = len := by simp; omega
    refine ⟨(zs.take len).map (fun z => UInt8.ofNat z.toNat), some a, cap, by rw [hcs, hlen], by rw [hlen]; omega, fun i hi => ?_⟩
    have hi' : i < len := by rw [hlen] at hi; exact hi
    obtain ⟨b, off, spot⟩ := a
    have hspot : spot = none := by simpa [Addr.add] using World.cell?_spot (hcell 0 (by omega))
    subst hspot
    have hc := hcell i (by omega)
    rw [Addr.add_lit] at hc
    refine ⟨b, off, rfl, World.block_lt_of_cell? W _ hc, ?_⟩
    have hb := bounds_u8 (hws (zs[i]'(by omega)) (List.getElem_mem (by omega)))
    rw [hc]
    have e1 : zs.getD i 0 = zs[i]'(by omega) := by simp [show i < zs.length by omega]
    have e2 : (((zs.take len).map (fun z => UInt8.ofNat z.toNat))[i]'hi) = UInt8.ofNat (zs[i]'(by omega)).toNat := by simp
    rw [e1, e2, show (UInt8.ofNat (zs[i]'(by omega)).toNat).toNat = (zs[i]'(by omega)).toNat from by simp; omega, show (((zs[i]'(by omega)).toNat : Nat) : Int) = zs[i]'(by omega) from by omega]
end
end Go.Proofs.YthkjhmcbmakkdaaDoor
