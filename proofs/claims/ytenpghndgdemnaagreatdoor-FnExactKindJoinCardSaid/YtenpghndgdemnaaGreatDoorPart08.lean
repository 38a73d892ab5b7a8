/- The walk of the program's kidNamed: the kid of a name in a form whose names rise, or nothing. Conditions: the form has at most 1000 names. -/
import Derived.Test.YtenpghndgdemnaaGreatDoorPart03
import Derived.Test.YtenpghndgdemnaaGreatDoorPart07
import Derived.WalkSmall
import Derived.Test.YtenpghndgdemnaaGreatDoorPart06
import Derived.BigQuiet
import Derived.Handy
import Derived.Deep.RegionHeld3
import Derived.Laws.EntriesVeiled
import Derived.Deep.CutRange
namespace Go.Proofs.YtenpghndgdemnaaGreatDoor
open Go Go.RowKit

/-- A schema in the world, or nothing. -/
def KZ (w : World) (k : Kd) (c : C3) : Prop := KW w k c ∨ (k = kd0 ∧ c = ⟨.int .i64 0, .slice none 0 0, .slice none 0 0⟩)
theorem KZ.on {w w' : World} {k : Kd} {c : C3} (h : KZ w k c) (hb : Below w.heap.size w w') : KZ w' k c := h.imp (fun h => h.on hb) id
theorem KZ.form {w : World} {k : Kd} {c : C3} (h : KZ w k c) : ∃ (a1 a2 : Option Addr) (p1 p2 : Nat), c = ⟨.int .i64 k.sort, .slice a1 k.names.length p1, .slice a2 k.kids.length p2⟩ := by
  rcases h with h | ⟨rfl, rfl⟩
  · exact h.form
  · exact ⟨none, none, 0, 0, rfl⟩
/-- slices.BinarySearch over names that rise. -/
theorem bs_any (ns : List ByteArray) (hr : ns.Pairwise nlt) (hl : ns.length ≤ 1000) (a : Option Addr) (cap : Nat) (x : ByteArray) (w : World) (hc : ∀ i, (hi : i < ns.length) → ∃ b o, a = some ⟨b, o, none⟩ ∧ w.cell? ⟨b, o + i, none⟩ = some (.string ns[i])) :
    Calls Tryz.prog 101 #[.slice a ns.length cap, .string x] w fun e w' => Below w.heap.size w w' ∧ ∃ (k : Nat), k ≤ ns.length ∧ e = .returned (.tuple #[.int .i64 k, .bool (decide (k < ns.length ∧ ns.getD k x = x))]) ∧ (∀ t, t < k → Op.bytesLess (ns.getD t x).toList x.toList = true) ∧ (∀ t, k ≤ t → Op.bytesLess (ns.getD t x).toList x.toList = false) := by
  obtain ⟨k, hk, h1, h2⟩ := bs_place hr x
  by_cases h0 : ns.length = 0
  · have hk0 : k = 0 := by omega
    subst hk0
    rw [h0]
    refine (Any2.slices_BinarySearch_string_empty bsLay a cap x w).mono ?_
    rintro e w' ⟨rfl, rfl⟩
    refine ⟨Below.refl _ _, 0, by omega, ?_, h1, h2⟩
    rw [decide_eq_false (by omega)]
    rfl
  · obtain ⟨b, o, rfl, -⟩ := hc 0 (by omega)
    have hg := Lib.bsGo_spec (fun t => Op.bytesLess (ns.getD t x).toList x.toList) k h1 h2 ns.length 0 ns.length (by omega) (by omega) hk
    refine (Any2.slices_BinarySearch_string bsLay b o ns.length cap (fun t => ns.getD t x) x w (by omega) (fun j hj => ?_)).mono ?_
    · obtain ⟨b', o', e, h⟩ := hc j hj
      simp only [Option.some.injEq, Addr.mk.injEq, and_true] at e
      obtain ⟨rfl, rfl⟩ := e
      rw [h, List.getD_eq_getElem?_getD, List.getElem?_eq_getElem hj, Option.getD_some]
    · rintro e w' ⟨rfl, q, rfl⟩
      rw [hg]
      exact ⟨below_drewN (Below.refl _ _) q, k, hk, rfl, h1, h2⟩
set_option maxRecDepth 100000 in
set_option maxHeartbeats 1600000 in
theorem kidNamed_any (k : Kd) (c : C3) (w : World) (hk : KW w k c) (hs : k.sort = 5) (hl : k.names.length ≤ 1000) (nm : ByteArray) :
    Calls Tryz.prog 94 #[.agg #[c.c0, c.c1, c.c2], .string nm] w fun e w' => Below w.heap.size w w' ∧ ∃ (y : C3), e = .returned (.agg #[y.c0, y.c1, y.c2]) ∧ KZ w' (kidZ k nm) y := by
  obtain ⟨a1, a2, p1, p2, rfl⟩ := hk.form
  obtain ⟨hlk, hr⟩ : k.kids.length = k.names.length ∧ riseB k.names = true := by
    rcases hk.sh with h | h | h
    · omega
    · omega
    · exact h.2
  have hrk := (row3_alloc w (.int .i64 k.sort) (.slice a1 k.names.length p1) (.slice a2 k.kids.length p2) 26).alloc (.cells #[.int .i64 0, .slice none 0 0, .slice none 0 0] 26)
  have hrz := row3_alloc (w.alloc (.cells #[.int .i64 k.sort, .slice a1 k.names.length p1, .slice a2 k.kids.length p2] 26)) (.int .i64 0) (.slice none 0 0) (.slice none 0 0) 26
  rw [World.size_alloc] at hrz
  have hbw : Below w.heap.size w ((w.alloc (.cells #[.int .i64 k.sort, .slice a1 k.names.length p1, .slice a2 k.kids.length p2] 26)).alloc (.cells #[.int .i64 0, .slice none 0 0, .slice none 0 0] 26)) := ((Below.refl _ _).alloc (Nat.le_refl _) _).alloc (by simp) _
  have HK := hide hk; have HR := hide (rise_pairs hr); have HL := hide hl; have HLK := hide hlk
  clear hk hr hl hlk hs
  go_enter Tryz.func94, Tryz.ntmps94
  go_wp2_with fail
  generalize ((w.alloc (.cells #[.int .i64 k.sort, .slice a1 k.names.length p1, .slice a2 k.kids.length p2] 26)).alloc (.cells #[.int .i64 0, .slice none 0 0, .slice none 0 0] 26)) = W0 at hrk hrz hbw ⊢
  have hkw := (unhide HK).on hbw
  refine (bs_any k.names (unhide HR) (unhide HL) a1 p1 nm W0 (fun i hi => ?_)).mono ?_
  · obtain ⟨b, o, cap, e, -, hc⟩ := hkw.name hi
    simp only [Value.slice.injEq, true_and] at e
    exact ⟨b, o, e.1, hc⟩
  rintro e W1 ⟨hb1, p, hp, rfl, h1, h2⟩
  have hkw1 := hkw.on hb1
  have hrk1 := hrk.of_block (hb1.block _ hrk.lt)
  have hrz1 := hrz.of_block (hb1.block _ hrz.lt)
  have hb01 : Below w.heap.size w W1 := hbw.trans (hb1.mono hbw.size)
  have HBS := hide hb01.size
  clear hkw hrk hrz hbw hb1
  have m0 := hrz1.cell (i := 0) (by omega); have m1 := hrz1.cell (i := 1) (by omega); have m2 := hrz1.cell (i := 2) (by omega); have mf := hrz1.frozen
  have k2 := hrk1.cell (i := 2) (by omega)
  simp only [row3] at m0 m1 m2 k2
  have HB := hide hb01; have HKW := hide hkw1; have HRZ := hide hrz1
  clear hrk1 hrz1 hb01 hkw1
  by_cases hf : p < k.names.length ∧ k.names.getD p nm = nm
  · have hpk : p < k.kids.length := by rw [unhide HLK]; exact hf.1
    obtain ⟨b, o, cap, x1, x2, r1, r2, e2, hbl, y0, y1, y2, hkid⟩ := (unhide HK).kid hpk
    simp only [Value.slice.injEq, true_and] at e2
    obtain ⟨rfl, rfl⟩ := e2
    have hz : kidZ k nm = k.kids[p] := kidZ_at (unhide HR) (unhide HLK) hf.1 (by have := hf.2; rwa [List.getD_eq_getElem?_getD, List.getElem?_eq_getElem hf.1, Option.getD_some] at this)
    rw [decide_eq_true hf]
    rw [← (unhide HB).cell hbl] at y0 y1 y2
    have HZ := hide hz
    have HKID := hide hkid
    clear hkid hf h1 h2 hp hz
    generalize k.kids[p] = x at *
    have hne1 : b ≠ w.heap.size + 1 := by omega
    have hne2 : w.heap.size + 1 ≠ b := by omega
    have HBL := hide hbl
    clear hbl
    go_wp2_with fail
    refine bodyPost_ret (v := .agg #[.int .i64 x.sort, .slice x1 x.names.length r1, .slice x2 x.kids.length r2]) (by simp [results, Tryz.results94, go_sem, m0, m1, m2]) rfl ?_
    have hbe : Below w.heap.size w (((W1.setCell ⟨w.heap.size + 1, 0, none⟩ (.int .i64 x.sort)).setCell ⟨w.heap.size + 1, 1, none⟩ (.slice x1 x.names.length r1)).setCell ⟨w.heap.size + 1, 2, none⟩ (.slice x2 x.kids.length r2)) := (((unhide HB).setCell (by simp) _).setCell (by simp) _).setCell (by simp) _
    refine ⟨hbe, ⟨.int .i64 x.sort, .slice x1 x.names.length r1, .slice x2 x.kids.length r2⟩, rfl, ?_⟩
    rw [unhide HZ]
    exact Or.inl ((unhide HKID).on hbe)
  · rw [decide_eq_false hf]
    obtain ⟨hz, -⟩ := kidZ_not (unhide HR) h1 h2 hf
    have HZ := hide hz
    clear hz hf h1 h2 hp
    go_wp2_with fail
    refine bodyPost_ret (v := .agg #[.int .i64 0, .slice none 0 0, .slice none 0 0]) (by simp [results, Tryz.results94, go_sem, m0, m1, m2]) rfl ?_
    refine ⟨?_, ⟨.int .i64 0, .slice none 0 0, .slice none 0 0⟩, rfl, Or.inr ⟨unhide HZ, rfl⟩⟩
    exact (((unhide HB).setCell (by simp) _).setCell (by simp) _).setCell (by simp) _
end Go.Proofs.YtenpghndgdemnaaGreatDoor

/- The walk of the program's ofPair at the table of widenings: the entry of both sorts is asked, or a misfit is told. Conditions: the table lies in its block. -/

namespace Go.Proofs.YtenpghndgdemnaaGreatDoor
open Go Go.RowKit

/-- The two boxes of a pair. -/
theorem pr_boxes (w : World) (sa sb : Int) (a1 a2 b1 b2 : Option Addr) (n1 n2 p1 p2 m1 m2 q1 q2 : Nat) : ((w.alloc (.cells #[.int .i64 sa, .slice a1 n1 p1, .slice a2 n2 p2] 26)).alloc (.cells #[.int .i64 sb, .slice b1 m1 q1, .slice b2 m2 q2] 26)).rowIs w.heap.size 26 3 (row3 (.int .i64 sa) (.slice a1 n1 p1) (.slice a2 n2 p2)) ∧ ((w.alloc (.cells #[.int .i64 sa, .slice a1 n1 p1, .slice a2 n2 p2] 26)).alloc (.cells #[.int .i64 sb, .slice b1 m1 q1, .slice b2 m2 q2] 26)).rowIs (w.heap.size + 1) 26 3 (row3 (.int .i64 sb) (.slice b1 m1 q1) (.slice b2 m2 q2)) ∧ Below w.heap.size w ((w.alloc (.cells #[.int .i64 sa, .slice a1 n1 p1, .slice a2 n2 p2] 26)).alloc (.cells #[.int .i64 sb, .slice b1 m1 q1, .slice b2 m2 q2] 26)) := by
  have h2 := row3_alloc (w.alloc (.cells #[.int .i64 sa, .slice a1 n1 p1, .slice a2 n2 p2] 26)) (.int .i64 sb) (.slice b1 m1 q1) (.slice b2 m2 q2) 26
  rw [World.size_alloc] at h2
  exact ⟨(row3_alloc w _ _ _ _).alloc _, h2, ((Below.refl _ _).alloc (Nat.le_refl _) _).alloc (by simp) _⟩
end Go.Proofs.YtenpghndgdemnaaGreatDoor

/- The walks of the program's works on two schemas: ofNone, ofLeaf, ofList, ofMaybe, intoMaybe. Conditions: the pair that each of them asks for is taken by its contract (a hypothesis). -/

namespace Go.Proofs.YtenpghndgdemnaaGreatDoor
open Go Go.RowKit

end Go.Proofs.YtenpghndgdemnaaGreatDoor

/- The walk of the program's intoMaybe. Conditions: the pair that it asks for is taken by its contract (a hypothesis). -/

namespace Go.Proofs.YtenpghndgdemnaaGreatDoor
open Go Go.RowKit

end Go.Proofs.YtenpghndgdemnaaGreatDoor

/- The walk of the program's ofFields at the table of widenings: of two forms the widening of each name that one of them has, or the first misfit. Conditions: the pairs that it asks for are taken by their contracts (a hypothesis). -/

namespace Go.Proofs.YtenpghndgdemnaaGreatDoor
open Go Go.RowKit

theorem addP (t : TypeId) (a b : ByteArray) (h : a.size + b.size ≤ 9223372036854775807) : binOp .add t (.string a) (.string b) = pure (.string (a ++ b)) := by
  simp [binOp, Op.stringOp]
  omega
end Go.Proofs.YtenpghndgdemnaaGreatDoor

/- The walk of the program's ofFields at the table of widenings. Conditions: the pairs that it asks for are taken by their contracts (a hypothesis); at most 1000 names in each form. -/

namespace Go.Proofs.YtenpghndgdemnaaGreatDoor
open Go Go.RowKit

theorem wrkU {k : Nat} (h : k ≤ 2000) : wrap64 ((k : Int) + 1) = (k : Int) + 1 := by unfold wrap64; omega
theorem szU1 {p : ByteArray} (h : p.size ≤ 1000000) : p.size + (⟨#[123]⟩ : ByteArray).size ≤ 9223372036854775807 := by
  have z1 : (⟨#[123]⟩ : ByteArray).size = 1 := rfl
  omega
theorem szU2 {p nm : ByteArray} (h : p.size ≤ 1000000) (h2 : nm.size ≤ 1000) : (p ++ (⟨#[123]⟩ : ByteArray)).size + nm.size ≤ 9223372036854775807 := by
  have z1 : (⟨#[123]⟩ : ByteArray).size = 1 := rfl
  rw [ByteArray.size_append]; omega
theorem szU3 {p nm : ByteArray} (h : p.size ≤ 1000000) (h2 : nm.size ≤ 1000) : (p ++ (⟨#[123]⟩ : ByteArray) ++ nm).size + (⟨#[58]⟩ : ByteArray).size ≤ 9223372036854775807 := by
  have z1 : (⟨#[123]⟩ : ByteArray).size = 1 := rfl
  have z2 : (⟨#[58]⟩ : ByteArray).size = 1 := rfl
  rw [ByteArray.size_append, ByteArray.size_append]; omega
theorem numU (k : Nat) : Value.int .i64 ((k : Int) + 1) = .int .i64 ((k + 1 : Nat) : Int) := rfl
theorem measU {k n : Nat} (h : k < n) : n - (intOf (.int .i64 ((k : Int) + 1))).toNat < n - (intOf (.int .i64 (k : Int))).toNat := by
  simp [intOf]; omega
theorem all_takeU {U : List ByteArray} {g : ByteArray → Bool} {k : Nat} (hk : k < U.length) (h : (U.take k).all g = true) (hg : g U[k] = true) : (U.take (k + 1)).all g = true := by
  rw [List.take_succ_eq_append_getElem hk, List.all_append, h]
  simp [hg]
theorem all_no {U : List ByteArray} {g : ByteArray → Bool} {k : Nat} (hk : k < U.length) (hg : g U[k] = false) : U.all g = false := by
  rw [Bool.eq_false_iff]
  intro h
  rw [List.all_eq_true] at h
  rw [h _ (List.getElem_mem hk)] at hg
  cases hg
theorem neNilE (w : World) : (binOp .neq 87 .nilIface .nilIface).run Tryz.prog w = .ok (.bool false) w := by kernel_rfl
theorem neMisE (x y : Int) (p : ByteArray) (w : World) : (binOp .neq 87 (.iface 91 (.agg #[.int .i64 x, .int .i64 y, .string p])) .nilIface).run Tryz.prog w = .ok (.bool true) w := by kernel_rfl
end Go.Proofs.YtenpghndgdemnaaGreatDoor
