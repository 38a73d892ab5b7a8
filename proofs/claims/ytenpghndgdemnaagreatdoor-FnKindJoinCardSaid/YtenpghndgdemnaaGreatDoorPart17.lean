/- The walk of the program's kidNamed: the kid of a name in a form whose names rise, or nothing. Conditions: the form has at most 1000 names. -/
import Derived.Test.YtenpghndgdemnaaGreatDoorPart13
import Derived.Test.YtenpghndgdemnaaGreatDoorPart16
import Derived.WalkSmall
import Derived.BigQuiet
import Derived.Handy
import Derived.Deep.RegionHeld3
import Derived.Laws.EntriesVeiled
namespace Go.Proofs.YtenpghndgdemnaaGreatDoor
open Go Go.RowKit

/-- A schema in the world, or nothing. -/
def KZ (w : World) (k : Kd) (c : C3) : Prop := KW w k c ∨ (k = kd0 ∧ c = ⟨.int .i64 0, .slice none 0 0, .slice none 0 0⟩)
theorem KZ.on {w w' : World} {k : Kd} {c : C3} (h : KZ w k c) (hb : Below w.heap.size w w') : KZ w' k c := h.imp (fun h => h.on hb) id
theorem KZ.form {w : World} {k : Kd} {c : C3} (h : KZ w k c) : ∃ (a1 a2 : Option Addr) (p1 p2 : Nat), c = ⟨.int .i64 k.sort, .slice a1 k.names.length p1, .slice a2 k.kids.length p2⟩ := by
  rcases h with h | ⟨rfl, rfl⟩
  · exact h.form
  · exact ⟨none, none, 0, 0, rfl⟩
/-- slices.BinarySearch over names that rise. -/
theorem bs_any (ns : List ByteArray) (hr : ns.Pairwise nlt) (hl : ns.length ≤ 1000) (a : Option Addr) (cap : Nat) (x : ByteArray) (w : World) (hc : ∀ i, (hi : i < ns.length) → ∃ b o, a = some ⟨b, o, none⟩ ∧ w.cell? ⟨b, o + i, none⟩ = some (.string ns[i])) :
    Calls Tryz.prog 101 #[.slice a ns.length cap, .string x] w fun e w' => Below w.heap.size w w' ∧ ∃ (k : Nat), k ≤ ns.length ∧ e = .returned (.tuple #[.int .i64 k, .bool (decide (k < ns.length ∧ ns.getD k x = x))]) ∧ (∀ t, t < k → Op.bytesLess (ns.getD t x).toList x.toList = true) ∧ (∀ t, k ≤ t → Op.bytesLess (ns.getD t x).toList x.toList = false) := by
  obtain ⟨k, hk, h1, h2⟩ := bs_place hr x
  by_cases h0 : ns.length = 0
  · have hk0 : k = 0 := by omega
    subst hk0
    rw [h0]
    refine (Any2.slices_BinarySearch_string_empty bsLay a cap x w).mono ?_
    rintro e w' ⟨rfl, rfl⟩
    refine ⟨Below.refl _ _, 0, by omega, ?_, h1, h2⟩
    rw [decide_eq_false (by omega)]
    rfl
  · obtain ⟨b, o, rfl, -⟩ := hc 0 (by omega)
    have hg := Lib.bsGo_spec (fun t => Op.bytesLess (ns.getD t x).toList x.toList) k h1 h2 ns.length 0 ns.length (by omega) (by omega) hk
    refine (Any2.slices_BinarySearch_string bsLay b o ns.length cap (fun t => ns.getD t x) x w (by omega) (fun j hj => ?_)).mono ?_
    · obtain ⟨b', o', e, h⟩ := hc j hj
      simp only [Option.some.injEq, Addr.mk.injEq, and_true] at e
      obtain ⟨rfl, rfl⟩ := e
      rw [h, List.getD_eq_getElem?_getD, List.getElem?_eq_getElem hj, Option.getD_some]
    · rintro e w' ⟨rfl, q, rfl⟩
      rw [hg]
      exact ⟨below_drewN (Below.refl _ _) q, k, hk, rfl, h1, h2⟩
set_option maxRecDepth 100000 in
set_option maxHeartbeats 1600000 in
theorem kidNamed_any (k : Kd) (c : C3) (w : World) (hk : KW w k c) (hs : k.sort = 5) (hl : k.names.length ≤ 1000) (nm : ByteArray) :
    Calls Tryz.prog 94 #[.agg #[c.c0, c.c1, c.c2], .string nm] w fun e w' => Below w.heap.size w w' ∧ ∃ (y : C3), e = .returned (.agg #[y.c0, y.c1, y.c2]) ∧ KZ w' (kidZ k nm) y := by
  obtain ⟨a1, a2, p1, p2, rfl⟩ := hk.form
  obtain ⟨hlk, hr⟩ : k.kids.length = k.names.length ∧ riseB k.names = true := by
    rcases hk.sh with h | h | h
    · omega
    · omega
    · exact h.2
  have hrk := (row3_alloc w (.int .i64 k.sort) (.slice a1 k.names.length p1) (.slice a2 k.kids.length p2) 26).alloc (.cells #[.int .i64 0, .slice none 0 0, .slice none 0 0] 26)
  have hrz := row3_alloc (w.alloc (.cells #[.int .i64 k.sort, .slice a1 k.names.length p1, .slice a2 k.kids.length p2] 26)) (.int .i64 0) (.slice none 0 0) (.slice none 0 0) 26
  rw [World.size_alloc] at hrz
  have hbw : Below w.heap.size w ((w.alloc (.cells #[.int .i64 k.sort, .slice a1 k.names.length p1, .slice a2 k.kids.length p2] 26)).alloc (.cells #[.int .i64 0, .slice none 0 0, .slice none 0 0] 26)) := ((Below.refl _ _).alloc (Nat.le_refl _) _).alloc (by simp) _
  have HK := hide hk; have HR := hide (rise_pairs hr); have HL := hide hl; have HLK := hide hlk
  clear hk hr hl hlk hs
  go_enter Tryz.func94, Tryz.ntmps94
  go_wp2_with fail
  generalize ((w.alloc (.cells #[.int .i64 k.sort, .slice a1 k.names.length p1, .slice a2 k.kids.length p2] 26)).alloc (.cells #[.int .i64 0, .slice none 0 0, .slice none 0 0] 26)) = W0 at hrk hrz hbw ⊢
  have hkw := (unhide HK).on hbw
  refine (bs_any k.names (unhide HR) (unhide HL) a1 p1 nm W0 (fun i hi => ?_)).mono ?_
  · obtain ⟨b, o, cap, e, -, hc⟩ := hkw.name hi
    simp only [Value.slice.injEq, true_and] at e
    exact ⟨b, o, e.1, hc⟩
  rintro e W1 ⟨hb1, p, hp, rfl, h1, h2⟩
  have hkw1 := hkw.on hb1
  have hrk1 := hrk.of_block (hb1.block _ hrk.lt)
  have hrz1 := hrz.of_block (hb1.block _ hrz.lt)
  have hb01 : Below w.heap.size w W1 := hbw.trans (hb1.mono hbw.size)
  have HBS := hide hb01.size
  clear hkw hrk hrz hbw hb1
  have m0 := hrz1.cell (i := 0) (by omega); have m1 := hrz1.cell (i := 1) (by omega); have m2 := hrz1.cell (i := 2) (by omega); have mf := hrz1.frozen
  have k2 := hrk1.cell (i := 2) (by omega)
  simp only [row3] at m0 m1 m2 k2
  have HB := hide hb01; have HKW := hide hkw1; have HRZ := hide hrz1
  clear hrk1 hrz1 hb01 hkw1
  by_cases hf : p < k.names.length ∧ k.names.getD p nm = nm
  · have hpk : p < k.kids.length := by rw [unhide HLK]; exact hf.1
    obtain ⟨b, o, cap, x1, x2, r1, r2, e2, hbl, y0, y1, y2, hkid⟩ := (unhide HK).kid hpk
    simp only [Value.slice.injEq, true_and] at e2
    obtain ⟨rfl, rfl⟩ := e2
    have hz : kidZ k nm = k.kids[p] := kidZ_at (unhide HR) (unhide HLK) hf.1 (by have := hf.2; rwa [List.getD_eq_getElem?_getD, List.getElem?_eq_getElem hf.1, Option.getD_some] at this)
    rw [decide_eq_true hf]
    rw [← (unhide HB).cell hbl] at y0 y1 y2
    have HZ := hide hz
    have HKID := hide hkid
    clear hkid hf h1 h2 hp hz
    generalize k.kids[p] = x at *
    have hne1 : b ≠ w.heap.size + 1 := by omega
    have hne2 : w.heap.size + 1 ≠ b := by omega
    have HBL := hide hbl
    clear hbl
    go_wp2_with fail
    refine bodyPost_ret (v := .agg #[.int .i64 x.sort, .slice x1 x.names.length r1, .slice x2 x.kids.length r2]) (by simp [results, Tryz.results94, go_sem, m0, m1, m2]) rfl ?_
    have hbe : Below w.heap.size w (((W1.setCell ⟨w.heap.size + 1, 0, none⟩ (.int .i64 x.sort)).setCell ⟨w.heap.size + 1, 1, none⟩ (.slice x1 x.names.length r1)).setCell ⟨w.heap.size + 1, 2, none⟩ (.slice x2 x.kids.length r2)) := (((unhide HB).setCell (by simp) _).setCell (by simp) _).setCell (by simp) _
    refine ⟨hbe, ⟨.int .i64 x.sort, .slice x1 x.names.length r1, .slice x2 x.kids.length r2⟩, rfl, ?_⟩
    rw [unhide HZ]
    exact Or.inl ((unhide HKID).on hbe)
  · rw [decide_eq_false hf]
    obtain ⟨hz, -⟩ := kidZ_not (unhide HR) h1 h2 hf
    have HZ := hide hz
    clear hz hf h1 h2 hp
    go_wp2_with fail
    refine bodyPost_ret (v := .agg #[.int .i64 0, .slice none 0 0, .slice none 0 0]) (by simp [results, Tryz.results94, go_sem, m0, m1, m2]) rfl ?_
    refine ⟨?_, ⟨.int .i64 0, .slice none 0 0, .slice none 0 0⟩, rfl, Or.inr ⟨unhide HZ, rfl⟩⟩
    exact (((unhide HB).setCell (by simp) _).setCell (by simp) _).setCell (by simp) _
end Go.Proofs.YtenpghndgdemnaaGreatDoor

/- The walk of the program's ofPair at the table of widenings: the entry of both sorts is asked, or a misfit is told. Conditions: the table lies in its block. -/

namespace Go.Proofs.YtenpghndgdemnaaGreatDoor
open Go Go.RowKit

/-- The entry of two sorts. -/
def ent (T sa sb : Nat) : Value := (wRow T).getD (sa * 7 + sb) .nilFunc
theorem WT.cell' {W : World} {T : Nat} (h : WT W T) {sa sb : Nat} (ha : sa ≤ 6) (hb : sb ≤ 6) : W.cell? ⟨T, sa * 7 + sb, none⟩ = some (ent T sa sb) := World.rowIs.cell h (i := sa * 7 + sb) (by omega)
/-- A widening, or nothing. -/
def FnV (v : Value) : Prop := v = .nilFunc ∨ ∃ f b c, v = .func f b c
theorem eqNilW (w : World) : (binOp .eql 63 .nilFunc .nilFunc).run Tryz.prog w = .ok (.bool true) w := by kernel_rfl
theorem eqFunW (fn : Fn) (a b : Array Value) (w : World) : (binOp .eql 63 (.func fn a b) .nilFunc).run Tryz.prog w = .ok (.bool false) w := by kernel_rfl
theorem gNilW (x y : Operand) (w : World) : (eqGuard .eql 63 x y .nilFunc .nilFunc).run Tryz.prog w = .ok () w := by kernel_rfl
theorem gFunW (x y : Operand) (fn : Fn) (a b : Array Value) (w : World) : (eqGuard .eql 63 x y (.func fn a b) .nilFunc).run Tryz.prog w = .ok () w := by kernel_rfl
/-- The two boxes of a pair. -/
theorem pr_boxes (w : World) (sa sb : Int) (a1 a2 b1 b2 : Option Addr) (n1 n2 p1 p2 m1 m2 q1 q2 : Nat) : ((w.alloc (.cells #[.int .i64 sa, .slice a1 n1 p1, .slice a2 n2 p2] 26)).alloc (.cells #[.int .i64 sb, .slice b1 m1 q1, .slice b2 m2 q2] 26)).rowIs w.heap.size 26 3 (row3 (.int .i64 sa) (.slice a1 n1 p1) (.slice a2 n2 p2)) ∧ ((w.alloc (.cells #[.int .i64 sa, .slice a1 n1 p1, .slice a2 n2 p2] 26)).alloc (.cells #[.int .i64 sb, .slice b1 m1 q1, .slice b2 m2 q2] 26)).rowIs (w.heap.size + 1) 26 3 (row3 (.int .i64 sb) (.slice b1 m1 q1) (.slice b2 m2 q2)) ∧ Below w.heap.size w ((w.alloc (.cells #[.int .i64 sa, .slice a1 n1 p1, .slice a2 n2 p2] 26)).alloc (.cells #[.int .i64 sb, .slice b1 m1 q1, .slice b2 m2 q2] 26)) := by
  have h2 := row3_alloc (w.alloc (.cells #[.int .i64 sa, .slice a1 n1 p1, .slice a2 n2 p2] 26)) (.int .i64 sb) (.slice b1 m1 q1) (.slice b2 m2 q2) 26
  rw [World.size_alloc] at h2
  exact ⟨(row3_alloc w _ _ _ _).alloc _, h2, ((Below.refl _ _).alloc (Nat.le_refl _) _).alloc (by simp) _⟩
set_option maxRecDepth 100000 in
set_option maxHeartbeats 1600000 in
theorem ofPair_no (T sa sb : Nat) (hsa : sa ≤ 6) (hsb : sb ≤ 6) (hent : ent T sa sb = .nilFunc) (a1 a2 b1 b2 : Option Addr) (n1 n2 p1 p2 m1 m2 q1 q2 : Nat) (path : ByteArray) (w : World) (hT : WT w T) :
    Calls Tryz.prog 66 #[.pointer (some ⟨T, 0, none⟩), .agg #[.int .i64 sa, .slice a1 n1 p1, .slice a2 n2 p2], .agg #[.int .i64 sb, .slice b1 m1 q1, .slice b2 m2 q2], .string path] w fun e w' => Below w.heap.size w w' ∧ e = .returned (.tuple #[.nilFunc, .iface 91 (.agg #[.int .i64 sa, .int .i64 sb, .string path])]) := by
  obtain ⟨hrx, hry, hbw⟩ := pr_boxes w sa sb a1 a2 b1 b2 n1 n2 p1 p2 m1 m2 q1 q2
  have htc := (hT.on hbw).cell' hsa hsb
  rw [hent] at htc
  have x0 := hrx.cell (i := 0) (by omega)
  have y0 := hry.cell (i := 0) (by omega)
  simp only [row3] at x0 y0
  have g1 : (0 : Int) ≤ (sa : Int) := by omega
  have g2 : (sa : Int) < 7 := by omega
  have g3 : (0 : Int) ≤ (sb : Int) := by omega
  have g4 : (sb : Int) < 7 := by omega
  have eq1 := eqNilW; have eq2 := gNilW
  have HB := hide hbw
  clear hrx hry hent hsa hsb hT
  go_enter Tryz.func66, Tryz.ntmps66
  go_upto_region 1 with fail
  generalize ((w.alloc (.cells #[.int .i64 sa, .slice a1 n1 p1, .slice a2 n2 p2] 26)).alloc (.cells #[.int .i64 sb, .slice b1 m1 q1, .slice b2 m2 q2] 26)) = W0 at htc x0 y0 hbw HB ⊢
  clear hbw
  go_quiet (fail)
  go_wp2_with fail
  go_quiet (fail)
  go_wp2_with fail
  go_ret2
  exact ⟨below_drewN (below_drewN (unhide HB) _) _, rfl⟩
set_option maxRecDepth 100000 in
set_option maxHeartbeats 1600000 in
theorem ofPair_do (T sa sb f : Nat) (hsa : sa ≤ 6) (hsb : sb ≤ 6) (hent : ent T sa sb = wv T f) (hcall : ∀ args w, (callFunc f args).run Tryz.prog w = .ok (.enter f args) w) (a1 a2 b1 b2 : Option Addr) (n1 n2 p1 p2 m1 m2 q1 q2 : Nat) (path : ByteArray) (w : World) (hT : WT w T) (R : (Nat → Prop) → World → Value → Value → Prop) (hon : ∀ P Q W W' fv er, R P W fv er → (∀ b, P b → Q b) → (∀ b, P b → W'.heap[b]? = W.heap[b]?) → R Q W' fv er)
    (hf : ∀ W, Below w.heap.size w W → Calls Tryz.prog f #[.pointer (some ⟨T, 0, none⟩), .agg #[.int .i64 sa, .slice a1 n1 p1, .slice a2 n2 p2], .agg #[.int .i64 sb, .slice b1 m1 q1, .slice b2 m2 q2], .string path] W fun e w' => Below W.heap.size W w' ∧ ∃ fv er, e = .returned (.tuple #[fv, er]) ∧ R (New W w') w' fv er) :
    Calls Tryz.prog 66 #[.pointer (some ⟨T, 0, none⟩), .agg #[.int .i64 sa, .slice a1 n1 p1, .slice a2 n2 p2], .agg #[.int .i64 sb, .slice b1 m1 q1, .slice b2 m2 q2], .string path] w fun e w' => Below w.heap.size w w' ∧ ∃ fv er, e = .returned (.tuple #[fv, er]) ∧ R (New w w') w' fv er := by
  obtain ⟨hrx, hry, hbw⟩ := pr_boxes w sa sb a1 a2 b1 b2 n1 n2 p1 p2 m1 m2 q1 q2
  have htc := (hT.on hbw).cell' hsa hsb
  rw [hent, wv] at htc
  have x0 := hrx.cell (i := 0) (by omega)
  have x1 := hrx.cell (i := 1) (by omega)
  have x2 := hrx.cell (i := 2) (by omega)
  have y0 := hry.cell (i := 0) (by omega)
  have y1 := hry.cell (i := 1) (by omega)
  have y2 := hry.cell (i := 2) (by omega)
  simp only [row3] at x0 y0 x1 x2 y1 y2
  have g1 : (0 : Int) ≤ (sa : Int) := by omega
  have g2 : (sa : Int) < 7 := by omega
  have g3 : (0 : Int) ≤ (sb : Int) := by omega
  have g4 : (sb : Int) < 7 := by omega
  have eq1 := eqFunW; have eq2 := gFunW
  have HB := hide hbw
  have HF := hide hf
  have HMO := hide hon
  clear hrx hry hent hsa hsb hT hf hon
  go_enter Tryz.func66, Tryz.ntmps66
  go_upto_region 1 with fail
  generalize ((w.alloc (.cells #[.int .i64 sa, .slice a1 n1 p1, .slice a2 n2 p2] 26)).alloc (.cells #[.int .i64 sb, .slice b1 m1 q1, .slice b2 m2 q2] 26)) = W0 at htc x0 y0 x1 x2 y1 y2 hbw HB ⊢
  clear hbw
  go_quiet (fail)
  go_wp2_with fail
  refine (unhide HF _ (below_drewN (unhide HB) _)).mono ?_
  rintro e W1 ⟨hb1, fv, er, rfl, hR⟩
  have HB1 := hide ((below_drewN (unhide HB) nq).trans (hb1.mono (unhide HB).size))
  have HR := hide (unhide HMO _ (New w W1) _ _ _ _ hR (fun b hb => ⟨Nat.le_trans (below_drewN (unhide HB) nq).size hb.1, hb.2⟩) (fun _ _ => rfl))
  clear hb1 hR HMO htc x0 y0 x1 x2 y1 y2 HB HF hcall
  go_wp2_with fail
  go_ret2
  exact ⟨unhide HB1, fv, er, rfl, unhide HR⟩
end Go.Proofs.YtenpghndgdemnaaGreatDoor

/- The walks of the program's works on two schemas: ofNone, ofLeaf, ofList, ofMaybe, intoMaybe. Conditions: the pair that each of them asks for is taken by its contract (a hypothesis). -/

namespace Go.Proofs.YtenpghndgdemnaaGreatDoor
open Go Go.RowKit

set_option maxRecDepth 100000 in
set_option maxHeartbeats 1600000 in
theorem ofNone_walk (T : Nat) (sa sb : Int) (a1 a2 b1 b2 : Option Addr) (n1 n2 p1 p2 m1 m2 q1 q2 : Nat) (path : ByteArray) (w : World) :
    Calls Tryz.prog 60 #[.pointer (some ⟨T, 0, none⟩), .agg #[.int .i64 sa, .slice a1 n1 p1, .slice a2 n2 p2], .agg #[.int .i64 sb, .slice b1 m1 q1, .slice b2 m2 q2], .string path] w fun e w' => Below w.heap.size w w' ∧ e = .returned (.tuple #[.func (.func 82) #[] #[], .nilIface]) := by
  obtain ⟨-, -, hbw⟩ := pr_boxes w sa sb a1 a2 b1 b2 n1 n2 p1 p2 m1 m2 q1 q2
  have HB := hide hbw
  clear hbw
  go_enter Tryz.func60, Tryz.ntmps60
  go_wp2_with fail
  go_ret2
  exact ⟨unhide HB, rfl⟩
set_option maxRecDepth 100000 in
set_option maxHeartbeats 1600000 in
theorem ofLeaf_walk (T : Nat) (sa sb : Int) (a1 a2 b1 b2 : Option Addr) (n1 n2 p1 p2 m1 m2 q1 q2 : Nat) (path : ByteArray) (w : World) :
    Calls Tryz.prog 61 #[.pointer (some ⟨T, 0, none⟩), .agg #[.int .i64 sa, .slice a1 n1 p1, .slice a2 n2 p2], .agg #[.int .i64 sb, .slice b1 m1 q1, .slice b2 m2 q2], .string path] w fun e w' => Below w.heap.size w w' ∧ e = .returned (.tuple #[.func (.func 83) #[] #[], .nilIface]) := by
  obtain ⟨-, -, hbw⟩ := pr_boxes w sa sb a1 a2 b1 b2 n1 n2 p1 p2 m1 m2 q1 q2
  have HB := hide hbw
  clear hbw
  go_enter Tryz.func61, Tryz.ntmps61
  go_wp2_with fail
  go_ret2
  exact ⟨unhide HB, rfl⟩
set_option maxRecDepth 100000 in
set_option maxHeartbeats 1600000 in
theorem eachKid_walk (fv : Value) (hfv : FnV fv) (w : World) :
    Calls Tryz.prog 86 #[fv] w fun e w' => Below w.heap.size w w' ∧ e = .returned (.func (.func 100) #[] #[.pointer (some ⟨w.heap.size, 0, none⟩)]) ∧ w'.cell? ⟨w.heap.size, 0, none⟩ = some fv ∧ w.heap.size < w'.heap.size := by
  rcases hfv with rfl | ⟨f, b, c, rfl⟩
  · go_enter Tryz.func86, Tryz.ntmps86
    go_wp2_with fail
    go_ret
    exact ⟨(Below.refl _ _).alloc (Nat.le_refl _) _, rfl, by simp, by simp⟩
  · go_enter Tryz.func86, Tryz.ntmps86
    go_wp2_with fail
    go_ret
    exact ⟨(Below.refl _ _).alloc (Nat.le_refl _) _, rfl, by simp, by simp⟩
/-- A pair that was asked for, in a closure that widens by it. -/
def InBox (f : Nat) (R : (Nat → Prop) → World → Value → Value → Prop) (w w' : World) (e : Ending) : Prop :=
  ∃ fv er B, e = .returned (.tuple #[.func (.func f) #[] #[.pointer (some ⟨B, 0, none⟩)], er]) ∧ R (New w w') w' fv er ∧ w'.cell? ⟨B, 0, none⟩ = some fv ∧ w.heap.size ≤ B ∧ B < w'.heap.size
theorem cell_onP {w w' : World} (hb : Below w.drew.heap.size w.drew w') {a : Addr} {v : Value} (h : w.cell? a = some v) : w'.cell? a = some v := by
  rw [World.cell?_of_block (w := w) (hb.block a.block (World.block_lt_of_cell? w _ h))]
  exact h
set_option maxRecDepth 100000 in
set_option maxHeartbeats 3200000 in
theorem ofList_walk (T : Nat) (sa sb : Int) (a1 b1 : Option Addr) (n1 p1 p2 m1 q1 q2 xb xo yb yo : Nat) (s t : Int) (x1 x2 y1 y2 : Option Addr) (i1 i2 j1 j2 k1 k2 l1 l2 : Nat) (path : ByteArray) (w : World) (R : (Nat → Prop) → World → Value → Value → Prop)
    (hx0 : w.cell? ⟨xb, xo, none⟩ = some (.int .i64 s)) (hx1 : w.cell? ⟨xb, xo + 1, none⟩ = some (.slice x1 i1 j1)) (hx2 : w.cell? ⟨xb, xo + 2, none⟩ = some (.slice x2 i2 j2)) (hxl : xb < w.heap.size)
    (hy0 : w.cell? ⟨yb, yo, none⟩ = some (.int .i64 t)) (hy1 : w.cell? ⟨yb, yo + 1, none⟩ = some (.slice y1 k1 l1)) (hy2 : w.cell? ⟨yb, yo + 2, none⟩ = some (.slice y2 k2 l2)) (hyl : yb < w.heap.size) (hps : path.size ≤ 1000000)
    (hcall : ∀ W, Below w.heap.size w W → Calls Tryz.prog 66 #[.pointer (some ⟨T, 0, none⟩), .agg #[.int .i64 s, .slice x1 i1 j1, .slice x2 i2 j2], .agg #[.int .i64 t, .slice y1 k1 l1, .slice y2 k2 l2], .string (path ++ ⟨#[91]⟩)] W fun e w' => Below W.heap.size W w' ∧ ∃ fv er, e = .returned (.tuple #[fv, er]) ∧ R (New W w') w' fv er)
    (hR : ∀ P W fv er, R P W fv er → FnV fv) (hon : ∀ P Q W W' fv er, R P W fv er → (∀ b, P b → Q b) → (∀ b, P b → W'.heap[b]? = W.heap[b]?) → R Q W' fv er) :
    Calls Tryz.prog 63 #[.pointer (some ⟨T, 0, none⟩), .agg #[.int .i64 sa, .slice a1 n1 p1, .slice (some ⟨xb, xo, none⟩) 1 p2], .agg #[.int .i64 sb, .slice b1 m1 q1, .slice (some ⟨yb, yo, none⟩) 1 q2], .string path] w fun e w' => Below w.heap.size w w' ∧ InBox 100 R w w' e := by
  obtain ⟨hrx, hry, hbw⟩ := pr_boxes w sa sb a1 (some ⟨xb, xo, none⟩) b1 (some ⟨yb, yo, none⟩) n1 1 p1 p2 m1 1 q1 q2
  have x2' := hrx.cell (i := 2) (by omega)
  have y2' := hry.cell (i := 2) (by omega)
  simp only [row3] at x2' y2'
  have g1 : ¬ (9223372036854775807 < path.size + 1) := by omega
  rw [← hbw.cell hxl] at hx0 hx1 hx2
  rw [← hbw.cell hyl] at hy0 hy1 hy2
  have HB := hide hbw
  have HC := hide hcall
  have HR := hide hR
  have HON := hide hon
  clear hrx hry hcall hxl hyl hps hR hon
  go_enter Tryz.func63, Tryz.ntmps63
  go_upto_region 1 with fail
  generalize ((w.alloc (.cells #[.int .i64 sa, .slice a1 n1 p1, .slice (some ⟨xb, xo, none⟩) 1 p2] 26)).alloc (.cells #[.int .i64 sb, .slice b1 m1 q1, .slice (some ⟨yb, yo, none⟩) 1 q2] 26)) = W0 at hx0 hx1 hx2 hy0 hy1 hy2 x2' y2' hbw HB ⊢
  clear hbw
  go_region_held3 (fun W => W.cell? ⟨w.heap.size, 2, none⟩ = some (.slice (some ⟨xb, xo, none⟩) 1 p2) ∧ W.cell? ⟨w.heap.size + 1, 2, none⟩ = some (.slice (some ⟨yb, yo, none⟩) 1 q2) ∧ W.cell? ⟨xb, xo, none⟩ = some (.int .i64 s) ∧ W.cell? ⟨xb, xo + 1, none⟩ = some (.slice x1 i1 j1) ∧ W.cell? ⟨xb, xo + 2, none⟩ = some (.slice x2 i2 j2) ∧ W.cell? ⟨yb, yo, none⟩ = some (.int .i64 t) ∧ W.cell? ⟨yb, yo + 1, none⟩ = some (.slice y1 k1 l1) ∧ W.cell? ⟨yb, yo + 2, none⟩ = some (.slice y2 k2 l2)) (first | exact ⟨x2', y2', hx0, hx1, hx2, hy0, hy1, hy2⟩ | exact HK2 | go_keep)
    (first
      | (go_at_call 66
         refine (unhide HC W0.drew (unhide HB).drew).mono ?_
         rintro e W1 ⟨hb1, fv, er, rfl, hr⟩
         have HB1 := hide ((unhide HB).drew.trans (hb1.mono (unhide HB).size))
         have HK2 : W1.cell? ⟨w.heap.size, 2, none⟩ = some (.slice (some ⟨xb, xo, none⟩) 1 p2) ∧ W1.cell? ⟨w.heap.size + 1, 2, none⟩ = some (.slice (some ⟨yb, yo, none⟩) 1 q2) ∧ W1.cell? ⟨xb, xo, none⟩ = some (.int .i64 s) ∧ W1.cell? ⟨xb, xo + 1, none⟩ = some (.slice x1 i1 j1) ∧ W1.cell? ⟨xb, xo + 2, none⟩ = some (.slice x2 i2 j2) ∧ W1.cell? ⟨yb, yo, none⟩ = some (.int .i64 t) ∧ W1.cell? ⟨yb, yo + 1, none⟩ = some (.slice y1 k1 l1) ∧ W1.cell? ⟨yb, yo + 2, none⟩ = some (.slice y2 k2 l2) :=
           ⟨cell_onP hb1 x2', cell_onP hb1 y2', cell_onP hb1 hx0, cell_onP hb1 hx1, cell_onP hb1 hx2, cell_onP hb1 hy0, cell_onP hb1 hy1, cell_onP hb1 hy2⟩
         have HRR := hide hr
         have HSZ := hide (unhide HB).size
         clear hb1 hr))
  all_goals
    clear HK2 hx0 hx1 hx2 hy0 hy1 hy2 x2' y2' g1 HC HB
    go_wp2_with fail
    refine (eachKid_walk fv (unhide HR _ _ _ _ (unhide HRR)) W1).mono ?_
    rintro e W2 ⟨hb2, rfl, hc2, hl2⟩
    have HE : Hid (Below w.heap.size w W2 ∧ R (New w W2) W2 fv er ∧ W2.cell? ⟨W1.heap.size, 0, none⟩ = some fv ∧ w.heap.size ≤ W1.heap.size ∧ W1.heap.size < W2.heap.size) := ⟨(unhide HB1).trans (hb2.mono (unhide HB1).size), unhide HON _ _ _ _ _ _ (unhide HRR) (fun b hb => ⟨Nat.le_trans (unhide HSZ) hb.1, Nat.lt_of_lt_of_le hb.2 hb2.size⟩) (fun b hb => hb2.block b hb.2), hc2, (unhide HB1).size, hl2⟩
    clear hb2 hc2 hl2 HB1 HRR HR HON HSZ
    go_wp2_with fail
    go_ret2
    exact ⟨(unhide HE).1, fv, er, _, rfl, (unhide HE).2⟩
set_option maxRecDepth 100000 in
set_option maxHeartbeats 3200000 in
theorem ofMaybe_walk (T : Nat) (sa sb : Int) (a1 b1 : Option Addr) (n1 p1 p2 m1 q1 q2 xb xo yb yo : Nat) (s t : Int) (x1 x2 y1 y2 : Option Addr) (i1 i2 j1 j2 k1 k2 l1 l2 : Nat) (path : ByteArray) (w : World) (R : (Nat → Prop) → World → Value → Value → Prop)
    (hx0 : w.cell? ⟨xb, xo, none⟩ = some (.int .i64 s)) (hx1 : w.cell? ⟨xb, xo + 1, none⟩ = some (.slice x1 i1 j1)) (hx2 : w.cell? ⟨xb, xo + 2, none⟩ = some (.slice x2 i2 j2)) (hxl : xb < w.heap.size)
    (hy0 : w.cell? ⟨yb, yo, none⟩ = some (.int .i64 t)) (hy1 : w.cell? ⟨yb, yo + 1, none⟩ = some (.slice y1 k1 l1)) (hy2 : w.cell? ⟨yb, yo + 2, none⟩ = some (.slice y2 k2 l2)) (hyl : yb < w.heap.size) (hps : path.size ≤ 1000000)
    (hcall : ∀ W, Below w.heap.size w W → Calls Tryz.prog 66 #[.pointer (some ⟨T, 0, none⟩), .agg #[.int .i64 s, .slice x1 i1 j1, .slice x2 i2 j2], .agg #[.int .i64 t, .slice y1 k1 l1, .slice y2 k2 l2], .string (path ++ ⟨#[63]⟩)] W fun e w' => Below W.heap.size W w' ∧ ∃ fv er, e = .returned (.tuple #[fv, er]) ∧ R (New W w') w' fv er)
    (hR : ∀ P W fv er, R P W fv er → FnV fv) (hon : ∀ P Q W W' fv er, R P W fv er → (∀ b, P b → Q b) → (∀ b, P b → W'.heap[b]? = W.heap[b]?) → R Q W' fv er) :
    Calls Tryz.prog 65 #[.pointer (some ⟨T, 0, none⟩), .agg #[.int .i64 sa, .slice a1 n1 p1, .slice (some ⟨xb, xo, none⟩) 1 p2], .agg #[.int .i64 sb, .slice b1 m1 q1, .slice (some ⟨yb, yo, none⟩) 1 q2], .string path] w fun e w' => Below w.heap.size w w' ∧ InBox 100 R w w' e := by
  obtain ⟨hrx, hry, hbw⟩ := pr_boxes w sa sb a1 (some ⟨xb, xo, none⟩) b1 (some ⟨yb, yo, none⟩) n1 1 p1 p2 m1 1 q1 q2
  have x2' := hrx.cell (i := 2) (by omega)
  have y2' := hry.cell (i := 2) (by omega)
  simp only [row3] at x2' y2'
  have g1 : ¬ (9223372036854775807 < path.size + 1) := by omega
  rw [← hbw.cell hxl] at hx0 hx1 hx2
  rw [← hbw.cell hyl] at hy0 hy1 hy2
  have HB := hide hbw
  have HC := hide hcall
  have HR := hide hR
  have HON := hide hon
  clear hrx hry hcall hxl hyl hps hR hon
  go_enter Tryz.func65, Tryz.ntmps65
  go_upto_region 1 with fail
  generalize ((w.alloc (.cells #[.int .i64 sa, .slice a1 n1 p1, .slice (some ⟨xb, xo, none⟩) 1 p2] 26)).alloc (.cells #[.int .i64 sb, .slice b1 m1 q1, .slice (some ⟨yb, yo, none⟩) 1 q2] 26)) = W0 at hx0 hx1 hx2 hy0 hy1 hy2 x2' y2' hbw HB ⊢
  clear hbw
  go_region_held3 (fun W => W.cell? ⟨w.heap.size, 2, none⟩ = some (.slice (some ⟨xb, xo, none⟩) 1 p2) ∧ W.cell? ⟨w.heap.size + 1, 2, none⟩ = some (.slice (some ⟨yb, yo, none⟩) 1 q2) ∧ W.cell? ⟨xb, xo, none⟩ = some (.int .i64 s) ∧ W.cell? ⟨xb, xo + 1, none⟩ = some (.slice x1 i1 j1) ∧ W.cell? ⟨xb, xo + 2, none⟩ = some (.slice x2 i2 j2) ∧ W.cell? ⟨yb, yo, none⟩ = some (.int .i64 t) ∧ W.cell? ⟨yb, yo + 1, none⟩ = some (.slice y1 k1 l1) ∧ W.cell? ⟨yb, yo + 2, none⟩ = some (.slice y2 k2 l2)) (first | exact ⟨x2', y2', hx0, hx1, hx2, hy0, hy1, hy2⟩ | exact HK2 | go_keep)
    (first
      | (go_at_call 66
         refine (unhide HC W0.drew (unhide HB).drew).mono ?_
         rintro e W1 ⟨hb1, fv, er, rfl, hr⟩
         have HB1 := hide ((unhide HB).drew.trans (hb1.mono (unhide HB).size))
         have HK2 : W1.cell? ⟨w.heap.size, 2, none⟩ = some (.slice (some ⟨xb, xo, none⟩) 1 p2) ∧ W1.cell? ⟨w.heap.size + 1, 2, none⟩ = some (.slice (some ⟨yb, yo, none⟩) 1 q2) ∧ W1.cell? ⟨xb, xo, none⟩ = some (.int .i64 s) ∧ W1.cell? ⟨xb, xo + 1, none⟩ = some (.slice x1 i1 j1) ∧ W1.cell? ⟨xb, xo + 2, none⟩ = some (.slice x2 i2 j2) ∧ W1.cell? ⟨yb, yo, none⟩ = some (.int .i64 t) ∧ W1.cell? ⟨yb, yo + 1, none⟩ = some (.slice y1 k1 l1) ∧ W1.cell? ⟨yb, yo + 2, none⟩ = some (.slice y2 k2 l2) :=
           ⟨cell_onP hb1 x2', cell_onP hb1 y2', cell_onP hb1 hx0, cell_onP hb1 hx1, cell_onP hb1 hx2, cell_onP hb1 hy0, cell_onP hb1 hy1, cell_onP hb1 hy2⟩
         have HRR := hide hr
         have HSZ := hide (unhide HB).size
         clear hb1 hr))
  all_goals
    clear HK2 hx0 hx1 hx2 hy0 hy1 hy2 x2' y2' g1 HC HB
    go_wp2_with fail
    refine (eachKid_walk fv (unhide HR _ _ _ _ (unhide HRR)) W1).mono ?_
    rintro e W2 ⟨hb2, rfl, hc2, hl2⟩
    have HE : Hid (Below w.heap.size w W2 ∧ R (New w W2) W2 fv er ∧ W2.cell? ⟨W1.heap.size, 0, none⟩ = some fv ∧ w.heap.size ≤ W1.heap.size ∧ W1.heap.size < W2.heap.size) := ⟨(unhide HB1).trans (hb2.mono (unhide HB1).size), unhide HON _ _ _ _ _ _ (unhide HRR) (fun b hb => ⟨Nat.le_trans (unhide HSZ) hb.1, Nat.lt_of_lt_of_le hb.2 hb2.size⟩) (fun b hb => hb2.block b hb.2), hc2, (unhide HB1).size, hl2⟩
    clear hb2 hc2 hl2 HB1 HRR HR HON HSZ
    go_wp2_with fail
    go_ret2
    exact ⟨(unhide HE).1, fv, er, _, rfl, (unhide HE).2⟩
end Go.Proofs.YtenpghndgdemnaaGreatDoor
