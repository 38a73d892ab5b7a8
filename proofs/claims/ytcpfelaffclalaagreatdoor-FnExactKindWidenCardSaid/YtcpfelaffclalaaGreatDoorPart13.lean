/- The walk of the program's ofPair at the table of widenings: the entry of both sorts is asked, or a misfit is told. Conditions: the table lies in its block. -/
import Derived.Test.YtcpfelaffclalaaGreatDoorPart12
import Derived.BigQuiet
import Derived.Handy
import Derived.Deep.RegionHeld3
import Derived.Laws.EntriesVeiled
namespace Go.Proofs.YtcpfelaffclalaaGreatDoor
open Go Go.RowKit

/-- The entry of two sorts. -/
def ent (T sa sb : Nat) : Value := (wRow T).getD (sa * 7 + sb) .nilFunc
theorem WT.cell' {W : World} {T : Nat} (h : WT W T) {sa sb : Nat} (ha : sa ≤ 6) (hb : sb ≤ 6) : W.cell? ⟨T, sa * 7 + sb, none⟩ = some (ent T sa sb) := World.rowIs.cell h (i := sa * 7 + sb) (by omega)
/-- A widening, or nothing. -/
def FnV (v : Value) : Prop := v = .nilFunc ∨ ∃ f b c, v = .func f b c
theorem eqNilW (w : World) : (binOp .eql 61 .nilFunc .nilFunc).run Tryz.prog w = .ok (.bool true) w := by kernel_rfl
theorem eqFunW (fn : Fn) (a b : Array Value) (w : World) : (binOp .eql 61 (.func fn a b) .nilFunc).run Tryz.prog w = .ok (.bool false) w := by kernel_rfl
theorem gNilW (x y : Operand) (w : World) : (eqGuard .eql 61 x y .nilFunc .nilFunc).run Tryz.prog w = .ok () w := by kernel_rfl
theorem gFunW (x y : Operand) (fn : Fn) (a b : Array Value) (w : World) : (eqGuard .eql 61 x y (.func fn a b) .nilFunc).run Tryz.prog w = .ok () w := by kernel_rfl
/-- The two boxes of a pair. -/
theorem pr_boxes (w : World) (sa sb : Int) (a1 a2 b1 b2 : Option Addr) (n1 n2 p1 p2 m1 m2 q1 q2 : Nat) : ((w.alloc (.cells #[.int .i64 sa, .slice a1 n1 p1, .slice a2 n2 p2] 30)).alloc (.cells #[.int .i64 sb, .slice b1 m1 q1, .slice b2 m2 q2] 30)).rowIs w.heap.size 30 3 (row3 (.int .i64 sa) (.slice a1 n1 p1) (.slice a2 n2 p2)) ∧ ((w.alloc (.cells #[.int .i64 sa, .slice a1 n1 p1, .slice a2 n2 p2] 30)).alloc (.cells #[.int .i64 sb, .slice b1 m1 q1, .slice b2 m2 q2] 30)).rowIs (w.heap.size + 1) 30 3 (row3 (.int .i64 sb) (.slice b1 m1 q1) (.slice b2 m2 q2)) ∧ Below w.heap.size w ((w.alloc (.cells #[.int .i64 sa, .slice a1 n1 p1, .slice a2 n2 p2] 30)).alloc (.cells #[.int .i64 sb, .slice b1 m1 q1, .slice b2 m2 q2] 30)) := by
  have h2 := row3_alloc (w.alloc (.cells #[.int .i64 sa, .slice a1 n1 p1, .slice a2 n2 p2] 30)) (.int .i64 sb) (.slice b1 m1 q1) (.slice b2 m2 q2) 30
  rw [World.size_alloc] at h2
  exact ⟨(row3_alloc w _ _ _ _).alloc _, h2, ((Below.refl _ _).alloc (Nat.le_refl _) _).alloc (by simp) _⟩
set_option maxRecDepth 100000 in
set_option maxHeartbeats 1600000 in
theorem ofPair_no (T sa sb : Nat) (hsa : sa ≤ 6) (hsb : sb ≤ 6) (hent : ent T sa sb = .nilFunc) (a1 a2 b1 b2 : Option Addr) (n1 n2 p1 p2 m1 m2 q1 q2 : Nat) (path : ByteArray) (w : World) (hT : WT w T) :
    Calls Tryz.prog 58 #[.pointer (some ⟨T, 0, none⟩), .agg #[.int .i64 sa, .slice a1 n1 p1, .slice a2 n2 p2], .agg #[.int .i64 sb, .slice b1 m1 q1, .slice b2 m2 q2], .string path] w fun e w' => Below w.heap.size w w' ∧ e = .returned (.tuple #[.nilFunc, .iface 93 (.agg #[.int .i64 sa, .int .i64 sb, .string path])]) := by
  obtain ⟨hrx, hry, hbw⟩ := pr_boxes w sa sb a1 a2 b1 b2 n1 n2 p1 p2 m1 m2 q1 q2
  have htc := (hT.on hbw).cell' hsa hsb
  rw [hent] at htc
  have x0 := hrx.cell (i := 0) (by omega)
  have y0 := hry.cell (i := 0) (by omega)
  simp only [row3] at x0 y0
  have g1 : (0 : Int) ≤ (sa : Int) := by omega
  have g2 : (sa : Int) < 7 := by omega
  have g3 : (0 : Int) ≤ (sb : Int) := by omega
  have g4 : (sb : Int) < 7 := by omega
  have eq1 := eqNilW; have eq2 := gNilW
  have HB := hide hbw
  clear hrx hry hent hsa hsb hT
  go_enter Tryz.func58, Tryz.ntmps58
  go_upto_region 1 with fail
  generalize ((w.alloc (.cells #[.int .i64 sa, .slice a1 n1 p1, .slice a2 n2 p2] 30)).alloc (.cells #[.int .i64 sb, .slice b1 m1 q1, .slice b2 m2 q2] 30)) = W0 at htc x0 y0 hbw HB ⊢
  clear hbw
  go_quiet (fail)
  go_wp2_with fail
  go_quiet (fail)
  go_wp2_with fail
  go_ret2
  exact ⟨below_drewN (below_drewN (unhide HB) _) _, rfl⟩
set_option maxRecDepth 100000 in
set_option maxHeartbeats 1600000 in
theorem ofPair_do (T sa sb f : Nat) (hsa : sa ≤ 6) (hsb : sb ≤ 6) (hent : ent T sa sb = wv T f) (hcall : ∀ args w, (callFunc f args).run Tryz.prog w = .ok (.enter f args) w) (a1 a2 b1 b2 : Option Addr) (n1 n2 p1 p2 m1 m2 q1 q2 : Nat) (path : ByteArray) (w : World) (hT : WT w T) (R : (Nat → Prop) → World → Value → Value → Prop) (hon : ∀ P Q W W' fv er, R P W fv er → (∀ b, P b → Q b) → (∀ b, P b → W'.heap[b]? = W.heap[b]?) → R Q W' fv er)
    (hf : ∀ W, Below w.heap.size w W → Calls Tryz.prog f #[.pointer (some ⟨T, 0, none⟩), .agg #[.int .i64 sa, .slice a1 n1 p1, .slice a2 n2 p2], .agg #[.int .i64 sb, .slice b1 m1 q1, .slice b2 m2 q2], .string path] W fun e w' => Below W.heap.size W w' ∧ ∃ fv er, e = .returned (.tuple #[fv, er]) ∧ R (New W w') w' fv er) :
    Calls Tryz.prog 58 #[.pointer (some ⟨T, 0, none⟩), .agg #[.int .i64 sa, .slice a1 n1 p1, .slice a2 n2 p2], .agg #[.int .i64 sb, .slice b1 m1 q1, .slice b2 m2 q2], .string path] w fun e w' => Below w.heap.size w w' ∧ ∃ fv er, e = .returned (.tuple #[fv, er]) ∧ R (New w w') w' fv er := by
  obtain ⟨hrx, hry, hbw⟩ := pr_boxes w sa sb a1 a2 b1 b2 n1 n2 p1 p2 m1 m2 q1 q2
  have htc := (hT.on hbw).cell' hsa hsb
  rw [hent, wv] at htc
  have x0 := hrx.cell (i := 0) (by omega)
  have x1 := hrx.cell (i := 1) (by omega)
  have x2 := hrx.cell (i := 2) (by omega)
  have y0 := hry.cell (i := 0) (by omega)
  have y1 := hry.cell (i := 1) (by omega)
  have y2 := hry.cell (i := 2) (by omega)
  simp only [row3] at x0 y0 x1 x2 y1 y2
  have g1 : (0 : Int) ≤ (sa : Int) := by omega
  have g2 : (sa : Int) < 7 := by omega
  have g3 : (0 : Int) ≤ (sb : Int) := by omega
  have g4 : (sb : Int) < 7 := by omega
  have eq1 := eqFunW; have eq2 := gFunW
  have HB := hide hbw
  have HF := hide hf
  have HMO := hide hon
  clear hrx hry hent hsa hsb hT hf hon
  go_enter Tryz.func58, Tryz.ntmps58
  go_upto_region 1 with fail
  generalize ((w.alloc (.cells #[.int .i64 sa, .slice a1 n1 p1, .slice a2 n2 p2] 30)).alloc (.cells #[.int .i64 sb, .slice b1 m1 q1, .slice b2 m2 q2] 30)) = W0 at htc x0 y0 x1 x2 y1 y2 hbw HB ⊢
  clear hbw
  go_quiet (fail)
  go_wp2_with fail
  refine (unhide HF _ (below_drewN (unhide HB) _)).mono ?_
  rintro e W1 ⟨hb1, fv, er, rfl, hR⟩
  have HB1 := hide ((below_drewN (unhide HB) nq).trans (hb1.mono (unhide HB).size))
  have HR := hide (unhide HMO _ (New w W1) _ _ _ _ hR (fun b hb => ⟨Nat.le_trans (below_drewN (unhide HB) nq).size hb.1, hb.2⟩) (fun _ _ => rfl))
  clear hb1 hR HMO htc x0 y0 x1 x2 y1 y2 HB HF hcall
  go_wp2_with fail
  go_ret2
  exact ⟨unhide HB1, fv, er, rfl, unhide HR⟩
end Go.Proofs.YtcpfelaffclalaaGreatDoor

/- The walks of the program's works on two schemas: ofNone, ofLeaf, ofList, ofMaybe, intoMaybe. Conditions: the pair that each of them asks for is taken by its contract (a hypothesis). -/

namespace Go.Proofs.YtcpfelaffclalaaGreatDoor
open Go Go.RowKit

set_option maxRecDepth 100000 in
set_option maxHeartbeats 1600000 in
theorem ofNone_walk (T : Nat) (sa sb : Int) (a1 a2 b1 b2 : Option Addr) (n1 n2 p1 p2 m1 m2 q1 q2 : Nat) (path : ByteArray) (w : World) :
    Calls Tryz.prog 52 #[.pointer (some ⟨T, 0, none⟩), .agg #[.int .i64 sa, .slice a1 n1 p1, .slice a2 n2 p2], .agg #[.int .i64 sb, .slice b1 m1 q1, .slice b2 m2 q2], .string path] w fun e w' => Below w.heap.size w w' ∧ e = .returned (.tuple #[.func (.func 83) #[] #[], .nilIface]) := by
  obtain ⟨-, -, hbw⟩ := pr_boxes w sa sb a1 a2 b1 b2 n1 n2 p1 p2 m1 m2 q1 q2
  have HB := hide hbw
  clear hbw
  go_enter Tryz.func52, Tryz.ntmps52
  go_wp2_with fail
  go_ret2
  exact ⟨unhide HB, rfl⟩
set_option maxRecDepth 100000 in
set_option maxHeartbeats 1600000 in
theorem ofLeaf_walk (T : Nat) (sa sb : Int) (a1 a2 b1 b2 : Option Addr) (n1 n2 p1 p2 m1 m2 q1 q2 : Nat) (path : ByteArray) (w : World) :
    Calls Tryz.prog 53 #[.pointer (some ⟨T, 0, none⟩), .agg #[.int .i64 sa, .slice a1 n1 p1, .slice a2 n2 p2], .agg #[.int .i64 sb, .slice b1 m1 q1, .slice b2 m2 q2], .string path] w fun e w' => Below w.heap.size w w' ∧ e = .returned (.tuple #[.func (.func 84) #[] #[], .nilIface]) := by
  obtain ⟨-, -, hbw⟩ := pr_boxes w sa sb a1 a2 b1 b2 n1 n2 p1 p2 m1 m2 q1 q2
  have HB := hide hbw
  clear hbw
  go_enter Tryz.func53, Tryz.ntmps53
  go_wp2_with fail
  go_ret2
  exact ⟨unhide HB, rfl⟩
set_option maxRecDepth 100000 in
set_option maxHeartbeats 1600000 in
theorem eachKid_walk (fv : Value) (hfv : FnV fv) (w : World) :
    Calls Tryz.prog 87 #[fv] w fun e w' => Below w.heap.size w w' ∧ e = .returned (.func (.func 113) #[] #[.pointer (some ⟨w.heap.size, 0, none⟩)]) ∧ w'.cell? ⟨w.heap.size, 0, none⟩ = some fv ∧ w.heap.size < w'.heap.size := by
  rcases hfv with rfl | ⟨f, b, c, rfl⟩
  · go_enter Tryz.func87, Tryz.ntmps87
    go_wp2_with fail
    go_ret
    exact ⟨(Below.refl _ _).alloc (Nat.le_refl _) _, rfl, by simp, by simp⟩
  · go_enter Tryz.func87, Tryz.ntmps87
    go_wp2_with fail
    go_ret
    exact ⟨(Below.refl _ _).alloc (Nat.le_refl _) _, rfl, by simp, by simp⟩
/-- A pair that was asked for, in a closure that widens by it. -/
def InBox (f : Nat) (R : (Nat → Prop) → World → Value → Value → Prop) (w w' : World) (e : Ending) : Prop :=
  ∃ fv er B, e = .returned (.tuple #[.func (.func f) #[] #[.pointer (some ⟨B, 0, none⟩)], er]) ∧ R (New w w') w' fv er ∧ w'.cell? ⟨B, 0, none⟩ = some fv ∧ w.heap.size ≤ B ∧ B < w'.heap.size
theorem cell_onP {w w' : World} (hb : Below w.drew.heap.size w.drew w') {a : Addr} {v : Value} (h : w.cell? a = some v) : w'.cell? a = some v := by
  rw [World.cell?_of_block (w := w) (hb.block a.block (World.block_lt_of_cell? w _ h))]
  exact h
set_option maxRecDepth 100000 in
set_option maxHeartbeats 3200000 in
theorem ofList_walk (T : Nat) (sa sb : Int) (a1 b1 : Option Addr) (n1 p1 p2 m1 q1 q2 xb xo yb yo : Nat) (s t : Int) (x1 x2 y1 y2 : Option Addr) (i1 i2 j1 j2 k1 k2 l1 l2 : Nat) (path : ByteArray) (w : World) (R : (Nat → Prop) → World → Value → Value → Prop)
    (hx0 : w.cell? ⟨xb, xo, none⟩ = some (.int .i64 s)) (hx1 : w.cell? ⟨xb, xo + 1, none⟩ = some (.slice x1 i1 j1)) (hx2 : w.cell? ⟨xb, xo + 2, none⟩ = some (.slice x2 i2 j2)) (hxl : xb < w.heap.size)
    (hy0 : w.cell? ⟨yb, yo, none⟩ = some (.int .i64 t)) (hy1 : w.cell? ⟨yb, yo + 1, none⟩ = some (.slice y1 k1 l1)) (hy2 : w.cell? ⟨yb, yo + 2, none⟩ = some (.slice y2 k2 l2)) (hyl : yb < w.heap.size) (hps : path.size ≤ 1000000)
    (hcall : ∀ W, Below w.heap.size w W → Calls Tryz.prog 58 #[.pointer (some ⟨T, 0, none⟩), .agg #[.int .i64 s, .slice x1 i1 j1, .slice x2 i2 j2], .agg #[.int .i64 t, .slice y1 k1 l1, .slice y2 k2 l2], .string (path ++ ⟨#[91]⟩)] W fun e w' => Below W.heap.size W w' ∧ ∃ fv er, e = .returned (.tuple #[fv, er]) ∧ R (New W w') w' fv er)
    (hR : ∀ P W fv er, R P W fv er → FnV fv) (hon : ∀ P Q W W' fv er, R P W fv er → (∀ b, P b → Q b) → (∀ b, P b → W'.heap[b]? = W.heap[b]?) → R Q W' fv er) :
    Calls Tryz.prog 55 #[.pointer (some ⟨T, 0, none⟩), .agg #[.int .i64 sa, .slice a1 n1 p1, .slice (some ⟨xb, xo, none⟩) 1 p2], .agg #[.int .i64 sb, .slice b1 m1 q1, .slice (some ⟨yb, yo, none⟩) 1 q2], .string path] w fun e w' => Below w.heap.size w w' ∧ InBox 113 R w w' e := by
  obtain ⟨hrx, hry, hbw⟩ := pr_boxes w sa sb a1 (some ⟨xb, xo, none⟩) b1 (some ⟨yb, yo, none⟩) n1 1 p1 p2 m1 1 q1 q2
  have x2' := hrx.cell (i := 2) (by omega)
  have y2' := hry.cell (i := 2) (by omega)
  simp only [row3] at x2' y2'
  have g1 : ¬ (9223372036854775807 < path.size + 1) := by omega
  rw [← hbw.cell hxl] at hx0 hx1 hx2
  rw [← hbw.cell hyl] at hy0 hy1 hy2
  have HB := hide hbw
  have HC := hide hcall
  have HR := hide hR
  have HON := hide hon
  clear hrx hry hcall hxl hyl hps hR hon
  go_enter Tryz.func55, Tryz.ntmps55
  go_upto_region 1 with fail
  generalize ((w.alloc (.cells #[.int .i64 sa, .slice a1 n1 p1, .slice (some ⟨xb, xo, none⟩) 1 p2] 30)).alloc (.cells #[.int .i64 sb, .slice b1 m1 q1, .slice (some ⟨yb, yo, none⟩) 1 q2] 30)) = W0 at hx0 hx1 hx2 hy0 hy1 hy2 x2' y2' hbw HB ⊢
  clear hbw
  go_region_held3 (fun W => W.cell? ⟨w.heap.size, 2, none⟩ = some (.slice (some ⟨xb, xo, none⟩) 1 p2) ∧ W.cell? ⟨w.heap.size + 1, 2, none⟩ = some (.slice (some ⟨yb, yo, none⟩) 1 q2) ∧ W.cell? ⟨xb, xo, none⟩ = some (.int .i64 s) ∧ W.cell? ⟨xb, xo + 1, none⟩ = some (.slice x1 i1 j1) ∧ W.cell? ⟨xb, xo + 2, none⟩ = some (.slice x2 i2 j2) ∧ W.cell? ⟨yb, yo, none⟩ = some (.int .i64 t) ∧ W.cell? ⟨yb, yo + 1, none⟩ = some (.slice y1 k1 l1) ∧ W.cell? ⟨yb, yo + 2, none⟩ = some (.slice y2 k2 l2)) (first | exact ⟨x2', y2', hx0, hx1, hx2, hy0, hy1, hy2⟩ | exact HK2 | go_keep)
    (first
      | (go_at_call 58
         refine (unhide HC W0.drew (unhide HB).drew).mono ?_
         rintro e W1 ⟨hb1, fv, er, rfl, hr⟩
         have HB1 := hide ((unhide HB).drew.trans (hb1.mono (unhide HB).size))
         have HK2 : W1.cell? ⟨w.heap.size, 2, none⟩ = some (.slice (some ⟨xb, xo, none⟩) 1 p2) ∧ W1.cell? ⟨w.heap.size + 1, 2, none⟩ = some (.slice (some ⟨yb, yo, none⟩) 1 q2) ∧ W1.cell? ⟨xb, xo, none⟩ = some (.int .i64 s) ∧ W1.cell? ⟨xb, xo + 1, none⟩ = some (.slice x1 i1 j1) ∧ W1.cell? ⟨xb, xo + 2, none⟩ = some (.slice x2 i2 j2) ∧ W1.cell? ⟨yb, yo, none⟩ = some (.int .i64 t) ∧ W1.cell? ⟨yb, yo + 1, none⟩ = some (.slice y1 k1 l1) ∧ W1.cell? ⟨yb, yo + 2, none⟩ = some (.slice y2 k2 l2) :=
           ⟨cell_onP hb1 x2', cell_onP hb1 y2', cell_onP hb1 hx0, cell_onP hb1 hx1, cell_onP hb1 hx2, cell_onP hb1 hy0, cell_onP hb1 hy1, cell_onP hb1 hy2⟩
         have HRR := hide hr
         have HSZ := hide (unhide HB).size
         clear hb1 hr))
  all_goals
    clear HK2 hx0 hx1 hx2 hy0 hy1 hy2 x2' y2' g1 HC HB
    go_wp2_with fail
    refine (eachKid_walk fv (unhide HR _ _ _ _ (unhide HRR)) W1).mono ?_
    rintro e W2 ⟨hb2, rfl, hc2, hl2⟩
    have HE : Hid (Below w.heap.size w W2 ∧ R (New w W2) W2 fv er ∧ W2.cell? ⟨W1.heap.size, 0, none⟩ = some fv ∧ w.heap.size ≤ W1.heap.size ∧ W1.heap.size < W2.heap.size) := ⟨(unhide HB1).trans (hb2.mono (unhide HB1).size), unhide HON _ _ _ _ _ _ (unhide HRR) (fun b hb => ⟨Nat.le_trans (unhide HSZ) hb.1, Nat.lt_of_lt_of_le hb.2 hb2.size⟩) (fun b hb => hb2.block b hb.2), hc2, (unhide HB1).size, hl2⟩
    clear hb2 hc2 hl2 HB1 HRR HR HON HSZ
    go_wp2_with fail
    go_ret2
    exact ⟨(unhide HE).1, fv, er, _, rfl, (unhide HE).2⟩
set_option maxRecDepth 100000 in
set_option maxHeartbeats 3200000 in
theorem ofMaybe_walk (T : Nat) (sa sb : Int) (a1 b1 : Option Addr) (n1 p1 p2 m1 q1 q2 xb xo yb yo : Nat) (s t : Int) (x1 x2 y1 y2 : Option Addr) (i1 i2 j1 j2 k1 k2 l1 l2 : Nat) (path : ByteArray) (w : World) (R : (Nat → Prop) → World → Value → Value → Prop)
    (hx0 : w.cell? ⟨xb, xo, none⟩ = some (.int .i64 s)) (hx1 : w.cell? ⟨xb, xo + 1, none⟩ = some (.slice x1 i1 j1)) (hx2 : w.cell? ⟨xb, xo + 2, none⟩ = some (.slice x2 i2 j2)) (hxl : xb < w.heap.size)
    (hy0 : w.cell? ⟨yb, yo, none⟩ = some (.int .i64 t)) (hy1 : w.cell? ⟨yb, yo + 1, none⟩ = some (.slice y1 k1 l1)) (hy2 : w.cell? ⟨yb, yo + 2, none⟩ = some (.slice y2 k2 l2)) (hyl : yb < w.heap.size) (hps : path.size ≤ 1000000)
    (hcall : ∀ W, Below w.heap.size w W → Calls Tryz.prog 58 #[.pointer (some ⟨T, 0, none⟩), .agg #[.int .i64 s, .slice x1 i1 j1, .slice x2 i2 j2], .agg #[.int .i64 t, .slice y1 k1 l1, .slice y2 k2 l2], .string (path ++ ⟨#[63]⟩)] W fun e w' => Below W.heap.size W w' ∧ ∃ fv er, e = .returned (.tuple #[fv, er]) ∧ R (New W w') w' fv er)
    (hR : ∀ P W fv er, R P W fv er → FnV fv) (hon : ∀ P Q W W' fv er, R P W fv er → (∀ b, P b → Q b) → (∀ b, P b → W'.heap[b]? = W.heap[b]?) → R Q W' fv er) :
    Calls Tryz.prog 57 #[.pointer (some ⟨T, 0, none⟩), .agg #[.int .i64 sa, .slice a1 n1 p1, .slice (some ⟨xb, xo, none⟩) 1 p2], .agg #[.int .i64 sb, .slice b1 m1 q1, .slice (some ⟨yb, yo, none⟩) 1 q2], .string path] w fun e w' => Below w.heap.size w w' ∧ InBox 113 R w w' e := by
  obtain ⟨hrx, hry, hbw⟩ := pr_boxes w sa sb a1 (some ⟨xb, xo, none⟩) b1 (some ⟨yb, yo, none⟩) n1 1 p1 p2 m1 1 q1 q2
  have x2' := hrx.cell (i := 2) (by omega)
  have y2' := hry.cell (i := 2) (by omega)
  simp only [row3] at x2' y2'
  have g1 : ¬ (9223372036854775807 < path.size + 1) := by omega
  rw [← hbw.cell hxl] at hx0 hx1 hx2
  rw [← hbw.cell hyl] at hy0 hy1 hy2
  have HB := hide hbw
  have HC := hide hcall
  have HR := hide hR
  have HON := hide hon
  clear hrx hry hcall hxl hyl hps hR hon
  go_enter Tryz.func57, Tryz.ntmps57
  go_upto_region 1 with fail
  generalize ((w.alloc (.cells #[.int .i64 sa, .slice a1 n1 p1, .slice (some ⟨xb, xo, none⟩) 1 p2] 30)).alloc (.cells #[.int .i64 sb, .slice b1 m1 q1, .slice (some ⟨yb, yo, none⟩) 1 q2] 30)) = W0 at hx0 hx1 hx2 hy0 hy1 hy2 x2' y2' hbw HB ⊢
  clear hbw
  go_region_held3 (fun W => W.cell? ⟨w.heap.size, 2, none⟩ = some (.slice (some ⟨xb, xo, none⟩) 1 p2) ∧ W.cell? ⟨w.heap.size + 1, 2, none⟩ = some (.slice (some ⟨yb, yo, none⟩) 1 q2) ∧ W.cell? ⟨xb, xo, none⟩ = some (.int .i64 s) ∧ W.cell? ⟨xb, xo + 1, none⟩ = some (.slice x1 i1 j1) ∧ W.cell? ⟨xb, xo + 2, none⟩ = some (.slice x2 i2 j2) ∧ W.cell? ⟨yb, yo, none⟩ = some (.int .i64 t) ∧ W.cell? ⟨yb, yo + 1, none⟩ = some (.slice y1 k1 l1) ∧ W.cell? ⟨yb, yo + 2, none⟩ = some (.slice y2 k2 l2)) (first | exact ⟨x2', y2', hx0, hx1, hx2, hy0, hy1, hy2⟩ | exact HK2 | go_keep)
    (first
      | (go_at_call 58
         refine (unhide HC W0.drew (unhide HB).drew).mono ?_
         rintro e W1 ⟨hb1, fv, er, rfl, hr⟩
         have HB1 := hide ((unhide HB).drew.trans (hb1.mono (unhide HB).size))
         have HK2 : W1.cell? ⟨w.heap.size, 2, none⟩ = some (.slice (some ⟨xb, xo, none⟩) 1 p2) ∧ W1.cell? ⟨w.heap.size + 1, 2, none⟩ = some (.slice (some ⟨yb, yo, none⟩) 1 q2) ∧ W1.cell? ⟨xb, xo, none⟩ = some (.int .i64 s) ∧ W1.cell? ⟨xb, xo + 1, none⟩ = some (.slice x1 i1 j1) ∧ W1.cell? ⟨xb, xo + 2, none⟩ = some (.slice x2 i2 j2) ∧ W1.cell? ⟨yb, yo, none⟩ = some (.int .i64 t) ∧ W1.cell? ⟨yb, yo + 1, none⟩ = some (.slice y1 k1 l1) ∧ W1.cell? ⟨yb, yo + 2, none⟩ = some (.slice y2 k2 l2) :=
           ⟨cell_onP hb1 x2', cell_onP hb1 y2', cell_onP hb1 hx0, cell_onP hb1 hx1, cell_onP hb1 hx2, cell_onP hb1 hy0, cell_onP hb1 hy1, cell_onP hb1 hy2⟩
         have HRR := hide hr
         have HSZ := hide (unhide HB).size
         clear hb1 hr))
  all_goals
    clear HK2 hx0 hx1 hx2 hy0 hy1 hy2 x2' y2' g1 HC HB
    go_wp2_with fail
    refine (eachKid_walk fv (unhide HR _ _ _ _ (unhide HRR)) W1).mono ?_
    rintro e W2 ⟨hb2, rfl, hc2, hl2⟩
    have HE : Hid (Below w.heap.size w W2 ∧ R (New w W2) W2 fv er ∧ W2.cell? ⟨W1.heap.size, 0, none⟩ = some fv ∧ w.heap.size ≤ W1.heap.size ∧ W1.heap.size < W2.heap.size) := ⟨(unhide HB1).trans (hb2.mono (unhide HB1).size), unhide HON _ _ _ _ _ _ (unhide HRR) (fun b hb => ⟨Nat.le_trans (unhide HSZ) hb.1, Nat.lt_of_lt_of_le hb.2 hb2.size⟩) (fun b hb => hb2.block b hb.2), hc2, (unhide HB1).size, hl2⟩
    clear hb2 hc2 hl2 HB1 HRR HR HON HSZ
    go_wp2_with fail
    go_ret2
    exact ⟨(unhide HE).1, fv, er, _, rfl, (unhide HE).2⟩
end Go.Proofs.YtcpfelaffclalaaGreatDoor

/- The walk of the program's intoMaybe. Conditions: the pair that it asks for is taken by its contract (a hypothesis). -/

namespace Go.Proofs.YtcpfelaffclalaaGreatDoor
open Go Go.RowKit

theorem box_onP (W : World) (v : Value) (t : TypeId) {W' : World} (hb : Below (W.alloc (.cells #[v] t)).heap.size (W.alloc (.cells #[v] t)) W') : W'.cell? ⟨W.heap.size, 0, none⟩ = some v ∧ W'.frozen? ⟨W.heap.size, 0, none⟩ = false := by
  have h := World.rowIs_alloc W #[v] t (fun _ => v) (fun i hi => by
    have hi' : i < 1 := hi
    obtain rfl : i = 0 := by omega
    rfl)
  have h2 := h.of_block (hb.block _ h.lt)
  exact ⟨h2.cell (i := 0) (by simp), h2.frozen 0⟩
theorem cell_setP {W0 W1 : World} (hb : Below W0.drew.heap.size W0.drew W1) {a : Addr} {v x : Value} (h : W0.cell? a = some x) : (W1.setCell ⟨W0.heap.size, 0, none⟩ v).cell? a = some x := by
  have hl := World.block_lt_of_cell? W0 _ h
  rw [World.cell?_of_block (w := W1) (Below.heap_setCell _ _ _ _ (by
    intro e
    have e2 : a.block = W0.heap.size := by simpa using e
    omega))]
  exact cell_onP hb h
theorem heap_setP {W : World} {g b : Nat} {v : Value} (h : g < b) : (W.setCell ⟨g, 0, none⟩ v).heap[b]? = W.heap[b]? := by
  refine Below.heap_setCell _ _ _ _ ?_
  intro e
  have e2 : b = g := by simpa using e
  omega
theorem set_sameP {W : World} {b : Nat} {v x : Value} (h : W.cell? ⟨b, 0, none⟩ = some x) : (W.setCell ⟨b, 0, none⟩ v).cell? ⟨b, 0, none⟩ = some v := World.cell?_setCell_same _ _ _ h
set_option maxRecDepth 100000 in
set_option maxHeartbeats 3200000 in
theorem intoMaybe_walkN (T : Nat) (sa sb : Int) (a1 a2 b1 : Option Addr) (n1 n2 p1 p2 m1 q1 q2 yb yo : Nat) (t : Int) (y1 y2 : Option Addr) (k1 k2 l1 l2 : Nat) (path : ByteArray) (w : World) (R : (Nat → Prop) → World → Value → Value → Prop)
    (hy0 : w.cell? ⟨yb, yo, none⟩ = some (.int .i64 t)) (hy1 : w.cell? ⟨yb, yo + 1, none⟩ = some (.slice y1 k1 l1)) (hy2 : w.cell? ⟨yb, yo + 2, none⟩ = some (.slice y2 k2 l2)) (hyl : yb < w.heap.size) (hps : path.size ≤ 1000000)
    (hcall : ∀ W, Below w.heap.size w W → Calls Tryz.prog 58 #[.pointer (some ⟨T, 0, none⟩), .agg #[.int .i64 sa, .slice a1 n1 p1, .slice a2 n2 p2], .agg #[.int .i64 t, .slice y1 k1 l1, .slice y2 k2 l2], .string (path ++ ⟨#[63]⟩)] W fun e w' => Below W.heap.size W w' ∧ ∃ er, e = .returned (.tuple #[.nilFunc, er]) ∧ R (New W w') w' (.nilFunc) er)
    (hon : ∀ P Q W W' fv er, R P W fv er → (∀ b, P b → Q b) → (∀ b, P b → W'.heap[b]? = W.heap[b]?) → R Q W' fv er) :
    Calls Tryz.prog 54 #[.pointer (some ⟨T, 0, none⟩), .agg #[.int .i64 sa, .slice a1 n1 p1, .slice a2 n2 p2], .agg #[.int .i64 sb, .slice b1 m1 q1, .slice (some ⟨yb, yo, none⟩) 1 q2], .string path] w fun e w' => Below w.heap.size w w' ∧ InBox 86 R w w' e := by
  obtain ⟨hrx, hry, hbw⟩ := pr_boxes w sa sb a1 a2 b1 (some ⟨yb, yo, none⟩) n1 n2 p1 p2 m1 1 q1 q2
  have x0' := hrx.cell (i := 0) (by omega)
  have x1' := hrx.cell (i := 1) (by omega)
  have x2' := hrx.cell (i := 2) (by omega)
  have y2' := hry.cell (i := 2) (by omega)
  simp only [row3] at x0' x1' x2' y2'
  have g1 : ¬ (9223372036854775807 < path.size + 1) := by omega
  rw [← hbw.cell hyl] at hy0 hy1 hy2
  have HB := hide hbw
  have HC := hide hcall
  have HON := hide hon
  clear hrx hry hcall hyl hps hon
  go_enter Tryz.func54, Tryz.ntmps54
  go_upto_region 1 with fail
  generalize ((w.alloc (.cells #[.int .i64 sa, .slice a1 n1 p1, .slice a2 n2 p2] 30)).alloc (.cells #[.int .i64 sb, .slice b1 m1 q1, .slice (some ⟨yb, yo, none⟩) 1 q2] 30)) = W0 at hy0 hy1 hy2 x0' x1' x2' y2' hbw HB ⊢
  clear hbw
  go_region_held3 (fun W => W.cell? ⟨w.heap.size, 0, none⟩ = some (.int .i64 sa) ∧ W.cell? ⟨w.heap.size, 1, none⟩ = some (.slice a1 n1 p1) ∧ W.cell? ⟨w.heap.size, 2, none⟩ = some (.slice a2 n2 p2) ∧ W.cell? ⟨w.heap.size + 1, 2, none⟩ = some (.slice (some ⟨yb, yo, none⟩) 1 q2) ∧ W.cell? ⟨yb, yo, none⟩ = some (.int .i64 t) ∧ W.cell? ⟨yb, yo + 1, none⟩ = some (.slice y1 k1 l1) ∧ W.cell? ⟨yb, yo + 2, none⟩ = some (.slice y2 k2 l2)) (first | exact ⟨x0', x1', x2', y2', hy0, hy1, hy2⟩ | exact HK2 | exact HK3 | go_keep)
    (first
      | (go_at_call 58
         first
         | (refine (unhide HC W0.drew (unhide HB).drew).mono ?_
            rintro e W1 ⟨hb1, er, rfl, hr⟩
            have HB1 := hide ((unhide HB).drew.trans (hb1.mono (unhide HB).size))
            have HK2 : W1.cell? ⟨w.heap.size, 0, none⟩ = some (.int .i64 sa) ∧ W1.cell? ⟨w.heap.size, 1, none⟩ = some (.slice a1 n1 p1) ∧ W1.cell? ⟨w.heap.size, 2, none⟩ = some (.slice a2 n2 p2) ∧ W1.cell? ⟨w.heap.size + 1, 2, none⟩ = some (.slice (some ⟨yb, yo, none⟩) 1 q2) ∧ W1.cell? ⟨yb, yo, none⟩ = some (.int .i64 t) ∧ W1.cell? ⟨yb, yo + 1, none⟩ = some (.slice y1 k1 l1) ∧ W1.cell? ⟨yb, yo + 2, none⟩ = some (.slice y2 k2 l2) :=
              ⟨cell_onP hb1 x0', cell_onP hb1 x1', cell_onP hb1 x2', cell_onP hb1 y2', cell_onP hb1 hy0, cell_onP hb1 hy1, cell_onP hb1 hy2⟩
            have HRR := hide hr
            have HSZ := hide (unhide HB).size
            clear hb1 hr)
         | (refine (unhide HC (W0.drew.alloc (.cells #[.nilFunc] 55)) ((unhide HB).drew.alloc (unhide HB).size _)).mono ?_
            rintro e W1 ⟨hb1, er, rfl, hr⟩
            have hb0 := (Below.refl W0.drew.heap.size W0.drew).alloc (Nat.le_refl _) (.cells #[.nilFunc] 55)
            have hb2 := hb0.trans (hb1.mono hb0.size)
            have HB1 := hide ((unhide HB).drew.trans (hb2.mono (unhide HB).size))
            have HK2 : W1.cell? ⟨w.heap.size, 0, none⟩ = some (.int .i64 sa) ∧ W1.cell? ⟨w.heap.size, 1, none⟩ = some (.slice a1 n1 p1) ∧ W1.cell? ⟨w.heap.size, 2, none⟩ = some (.slice a2 n2 p2) ∧ W1.cell? ⟨w.heap.size + 1, 2, none⟩ = some (.slice (some ⟨yb, yo, none⟩) 1 q2) ∧ W1.cell? ⟨yb, yo, none⟩ = some (.int .i64 t) ∧ W1.cell? ⟨yb, yo + 1, none⟩ = some (.slice y1 k1 l1) ∧ W1.cell? ⟨yb, yo + 2, none⟩ = some (.slice y2 k2 l2) :=
              ⟨cell_onP hb2 x0', cell_onP hb2 x1', cell_onP hb2 x2', cell_onP hb2 y2', cell_onP hb2 hy0, cell_onP hb2 hy1, cell_onP hb2 hy2⟩
            have HLT := hide (show W0.heap.size < (W0.drew.alloc (.cells #[.nilFunc] 55)).heap.size by rw [World.size_alloc]; exact Nat.lt_succ_self _)
            have HSY := hide (show w.heap.size ≤ (W0.drew.alloc (.cells #[.nilFunc] 55)).heap.size by rw [World.size_alloc]; exact Nat.le_succ_of_le (unhide HB).size)
            have HK3 : (W1.setCell ⟨W0.heap.size, 0, none⟩ (.nilFunc)).cell? ⟨w.heap.size, 0, none⟩ = some (.int .i64 sa) ∧ (W1.setCell ⟨W0.heap.size, 0, none⟩ (.nilFunc)).cell? ⟨w.heap.size, 1, none⟩ = some (.slice a1 n1 p1) ∧ (W1.setCell ⟨W0.heap.size, 0, none⟩ (.nilFunc)).cell? ⟨w.heap.size, 2, none⟩ = some (.slice a2 n2 p2) ∧ (W1.setCell ⟨W0.heap.size, 0, none⟩ (.nilFunc)).cell? ⟨w.heap.size + 1, 2, none⟩ = some (.slice (some ⟨yb, yo, none⟩) 1 q2) ∧ (W1.setCell ⟨W0.heap.size, 0, none⟩ (.nilFunc)).cell? ⟨yb, yo, none⟩ = some (.int .i64 t) ∧ (W1.setCell ⟨W0.heap.size, 0, none⟩ (.nilFunc)).cell? ⟨yb, yo + 1, none⟩ = some (.slice y1 k1 l1) ∧ (W1.setCell ⟨W0.heap.size, 0, none⟩ (.nilFunc)).cell? ⟨yb, yo + 2, none⟩ = some (.slice y2 k2 l2) :=
              ⟨cell_setP hb2 x0', cell_setP hb2 x1', cell_setP hb2 x2', cell_setP hb2 y2', cell_setP hb2 hy0, cell_setP hb2 hy1, cell_setP hb2 hy2⟩
            have hbx := box_onP W0.drew .nilFunc 55 hb1
            have hbc : W1.cell? ⟨W0.heap.size, 0, none⟩ = some .nilFunc := hbx.1
            have hbf : W1.frozen? ⟨W0.heap.size, 0, none⟩ = false := hbx.2
            have HRR := hide hr
            have HSZ := hide (unhide HB).size
            clear hb1 hr hb0 hb2 hbx)))
  all_goals
    clear HK2 hy0 hy1 hy2 x0' x1' x2' y2' g1 HC HB
  · have hbe := (unhide HB1).alloc (unhide HB1).size (.cells #[.nilFunc] 55)
    have HE : Hid (Below w.heap.size w (W1.alloc (.cells #[.nilFunc] 55)) ∧ R (New w (W1.alloc (.cells #[.nilFunc] 55))) (W1.alloc (.cells #[.nilFunc] 55)) (.nilFunc) er ∧ (W1.alloc (.cells #[.nilFunc] 55)).cell? ⟨W1.heap.size, 0, none⟩ = some (.nilFunc) ∧ w.heap.size ≤ W1.heap.size ∧ W1.heap.size < (W1.alloc (.cells #[.nilFunc] 55)).heap.size) := ⟨hbe, unhide HON _ _ _ _ _ _ (unhide HRR) (fun b hb => ⟨Nat.le_trans (unhide HSZ) hb.1, by have := hb.2; simp; omega⟩) (fun b hb => Below.heap_alloc _ _ _ hb.2), by simp, (unhide HB1).size, by simp⟩
    clear hbe HB1 HRR HON HSZ
    go_wp2_with fail
    go_ret2
    exact ⟨(unhide HE).1, .nilFunc, er, _, rfl, (unhide HE).2⟩
  · have HE : Hid (Below w.heap.size w (W1.setCell ⟨W0.heap.size, 0, none⟩ (.nilFunc)) ∧ R (New w (W1.setCell ⟨W0.heap.size, 0, none⟩ (.nilFunc))) (W1.setCell ⟨W0.heap.size, 0, none⟩ (.nilFunc)) (.nilFunc) er ∧ (W1.setCell ⟨W0.heap.size, 0, none⟩ (.nilFunc)).cell? ⟨W0.heap.size, 0, none⟩ = some (.nilFunc) ∧ w.heap.size ≤ W0.heap.size ∧ W0.heap.size < (W1.setCell ⟨W0.heap.size, 0, none⟩ (.nilFunc)).heap.size) := ⟨(unhide HB1).setCell (unhide HSZ) _, unhide HON _ _ _ _ _ _ (unhide HRR) (fun b hb => ⟨Nat.le_trans (unhide HSY) hb.1, by have := hb.2; simpa [World.setCell] using this⟩) (fun b hb => heap_setP (Nat.lt_of_lt_of_le (unhide HLT) hb.1)), set_sameP hbc, unhide HSZ, by have := World.block_lt_of_cell? W1 _ hbc; simpa [World.setCell] using this⟩
    clear HB1 HRR HON HSZ HSY HLT hbc hbf HK3
    go_wp2_with fail
    go_ret2
    exact ⟨(unhide HE).1, .nilFunc, er, _, rfl, (unhide HE).2⟩
set_option maxRecDepth 100000 in
set_option maxHeartbeats 3200000 in
theorem intoMaybe_walkF (T : Nat) (sa sb : Int) (a1 a2 b1 : Option Addr) (n1 n2 p1 p2 m1 q1 q2 yb yo : Nat) (t : Int) (y1 y2 : Option Addr) (k1 k2 l1 l2 : Nat) (path : ByteArray) (w : World) (R : (Nat → Prop) → World → Value → Value → Prop)
    (hy0 : w.cell? ⟨yb, yo, none⟩ = some (.int .i64 t)) (hy1 : w.cell? ⟨yb, yo + 1, none⟩ = some (.slice y1 k1 l1)) (hy2 : w.cell? ⟨yb, yo + 2, none⟩ = some (.slice y2 k2 l2)) (hyl : yb < w.heap.size) (hps : path.size ≤ 1000000)
    (hcall : ∀ W, Below w.heap.size w W → Calls Tryz.prog 58 #[.pointer (some ⟨T, 0, none⟩), .agg #[.int .i64 sa, .slice a1 n1 p1, .slice a2 n2 p2], .agg #[.int .i64 t, .slice y1 k1 l1, .slice y2 k2 l2], .string (path ++ ⟨#[63]⟩)] W fun e w' => Below W.heap.size W w' ∧ ∃ fn bs cs er, e = .returned (.tuple #[.func fn bs cs, er]) ∧ R (New W w') w' (.func fn bs cs) er)
    (hon : ∀ P Q W W' fv er, R P W fv er → (∀ b, P b → Q b) → (∀ b, P b → W'.heap[b]? = W.heap[b]?) → R Q W' fv er) :
    Calls Tryz.prog 54 #[.pointer (some ⟨T, 0, none⟩), .agg #[.int .i64 sa, .slice a1 n1 p1, .slice a2 n2 p2], .agg #[.int .i64 sb, .slice b1 m1 q1, .slice (some ⟨yb, yo, none⟩) 1 q2], .string path] w fun e w' => Below w.heap.size w w' ∧ InBox 86 R w w' e := by
  obtain ⟨hrx, hry, hbw⟩ := pr_boxes w sa sb a1 a2 b1 (some ⟨yb, yo, none⟩) n1 n2 p1 p2 m1 1 q1 q2
  have x0' := hrx.cell (i := 0) (by omega)
  have x1' := hrx.cell (i := 1) (by omega)
  have x2' := hrx.cell (i := 2) (by omega)
  have y2' := hry.cell (i := 2) (by omega)
  simp only [row3] at x0' x1' x2' y2'
  have g1 : ¬ (9223372036854775807 < path.size + 1) := by omega
  rw [← hbw.cell hyl] at hy0 hy1 hy2
  have HB := hide hbw
  have HC := hide hcall
  have HON := hide hon
  clear hrx hry hcall hyl hps hon
  go_enter Tryz.func54, Tryz.ntmps54
  go_upto_region 1 with fail
  generalize ((w.alloc (.cells #[.int .i64 sa, .slice a1 n1 p1, .slice a2 n2 p2] 30)).alloc (.cells #[.int .i64 sb, .slice b1 m1 q1, .slice (some ⟨yb, yo, none⟩) 1 q2] 30)) = W0 at hy0 hy1 hy2 x0' x1' x2' y2' hbw HB ⊢
  clear hbw
  go_region_held3 (fun W => W.cell? ⟨w.heap.size, 0, none⟩ = some (.int .i64 sa) ∧ W.cell? ⟨w.heap.size, 1, none⟩ = some (.slice a1 n1 p1) ∧ W.cell? ⟨w.heap.size, 2, none⟩ = some (.slice a2 n2 p2) ∧ W.cell? ⟨w.heap.size + 1, 2, none⟩ = some (.slice (some ⟨yb, yo, none⟩) 1 q2) ∧ W.cell? ⟨yb, yo, none⟩ = some (.int .i64 t) ∧ W.cell? ⟨yb, yo + 1, none⟩ = some (.slice y1 k1 l1) ∧ W.cell? ⟨yb, yo + 2, none⟩ = some (.slice y2 k2 l2)) (first | exact ⟨x0', x1', x2', y2', hy0, hy1, hy2⟩ | exact HK2 | exact HK3 | go_keep)
    (first
      | (go_at_call 58
         first
         | (refine (unhide HC W0.drew (unhide HB).drew).mono ?_
            rintro e W1 ⟨hb1, fn, bs, cs, er, rfl, hr⟩
            have HB1 := hide ((unhide HB).drew.trans (hb1.mono (unhide HB).size))
            have HK2 : W1.cell? ⟨w.heap.size, 0, none⟩ = some (.int .i64 sa) ∧ W1.cell? ⟨w.heap.size, 1, none⟩ = some (.slice a1 n1 p1) ∧ W1.cell? ⟨w.heap.size, 2, none⟩ = some (.slice a2 n2 p2) ∧ W1.cell? ⟨w.heap.size + 1, 2, none⟩ = some (.slice (some ⟨yb, yo, none⟩) 1 q2) ∧ W1.cell? ⟨yb, yo, none⟩ = some (.int .i64 t) ∧ W1.cell? ⟨yb, yo + 1, none⟩ = some (.slice y1 k1 l1) ∧ W1.cell? ⟨yb, yo + 2, none⟩ = some (.slice y2 k2 l2) :=
              ⟨cell_onP hb1 x0', cell_onP hb1 x1', cell_onP hb1 x2', cell_onP hb1 y2', cell_onP hb1 hy0, cell_onP hb1 hy1, cell_onP hb1 hy2⟩
            have HRR := hide hr
            have HSZ := hide (unhide HB).size
            clear hb1 hr)
         | (refine (unhide HC (W0.drew.alloc (.cells #[.nilFunc] 55)) ((unhide HB).drew.alloc (unhide HB).size _)).mono ?_
            rintro e W1 ⟨hb1, fn, bs, cs, er, rfl, hr⟩
            have hb0 := (Below.refl W0.drew.heap.size W0.drew).alloc (Nat.le_refl _) (.cells #[.nilFunc] 55)
            have hb2 := hb0.trans (hb1.mono hb0.size)
            have HB1 := hide ((unhide HB).drew.trans (hb2.mono (unhide HB).size))
            have HK2 : W1.cell? ⟨w.heap.size, 0, none⟩ = some (.int .i64 sa) ∧ W1.cell? ⟨w.heap.size, 1, none⟩ = some (.slice a1 n1 p1) ∧ W1.cell? ⟨w.heap.size, 2, none⟩ = some (.slice a2 n2 p2) ∧ W1.cell? ⟨w.heap.size + 1, 2, none⟩ = some (.slice (some ⟨yb, yo, none⟩) 1 q2) ∧ W1.cell? ⟨yb, yo, none⟩ = some (.int .i64 t) ∧ W1.cell? ⟨yb, yo + 1, none⟩ = some (.slice y1 k1 l1) ∧ W1.cell? ⟨yb, yo + 2, none⟩ = some (.slice y2 k2 l2) :=
              ⟨cell_onP hb2 x0', cell_onP hb2 x1', cell_onP hb2 x2', cell_onP hb2 y2', cell_onP hb2 hy0, cell_onP hb2 hy1, cell_onP hb2 hy2⟩
            have HLT := hide (show W0.heap.size < (W0.drew.alloc (.cells #[.nilFunc] 55)).heap.size by rw [World.size_alloc]; exact Nat.lt_succ_self _)
            have HSY := hide (show w.heap.size ≤ (W0.drew.alloc (.cells #[.nilFunc] 55)).heap.size by rw [World.size_alloc]; exact Nat.le_succ_of_le (unhide HB).size)
            have HK3 : (W1.setCell ⟨W0.heap.size, 0, none⟩ (.func fn bs cs)).cell? ⟨w.heap.size, 0, none⟩ = some (.int .i64 sa) ∧ (W1.setCell ⟨W0.heap.size, 0, none⟩ (.func fn bs cs)).cell? ⟨w.heap.size, 1, none⟩ = some (.slice a1 n1 p1) ∧ (W1.setCell ⟨W0.heap.size, 0, none⟩ (.func fn bs cs)).cell? ⟨w.heap.size, 2, none⟩ = some (.slice a2 n2 p2) ∧ (W1.setCell ⟨W0.heap.size, 0, none⟩ (.func fn bs cs)).cell? ⟨w.heap.size + 1, 2, none⟩ = some (.slice (some ⟨yb, yo, none⟩) 1 q2) ∧ (W1.setCell ⟨W0.heap.size, 0, none⟩ (.func fn bs cs)).cell? ⟨yb, yo, none⟩ = some (.int .i64 t) ∧ (W1.setCell ⟨W0.heap.size, 0, none⟩ (.func fn bs cs)).cell? ⟨yb, yo + 1, none⟩ = some (.slice y1 k1 l1) ∧ (W1.setCell ⟨W0.heap.size, 0, none⟩ (.func fn bs cs)).cell? ⟨yb, yo + 2, none⟩ = some (.slice y2 k2 l2) :=
              ⟨cell_setP hb2 x0', cell_setP hb2 x1', cell_setP hb2 x2', cell_setP hb2 y2', cell_setP hb2 hy0, cell_setP hb2 hy1, cell_setP hb2 hy2⟩
            have hbx := box_onP W0.drew .nilFunc 55 hb1
            have hbc : W1.cell? ⟨W0.heap.size, 0, none⟩ = some .nilFunc := hbx.1
            have hbf : W1.frozen? ⟨W0.heap.size, 0, none⟩ = false := hbx.2
            have HRR := hide hr
            have HSZ := hide (unhide HB).size
            clear hb1 hr hb0 hb2 hbx)))
  all_goals
    clear HK2 hy0 hy1 hy2 x0' x1' x2' y2' g1 HC HB
  · have hbe := (unhide HB1).alloc (unhide HB1).size (.cells #[.func fn bs cs] 55)
    have HE : Hid (Below w.heap.size w (W1.alloc (.cells #[.func fn bs cs] 55)) ∧ R (New w (W1.alloc (.cells #[.func fn bs cs] 55))) (W1.alloc (.cells #[.func fn bs cs] 55)) (.func fn bs cs) er ∧ (W1.alloc (.cells #[.func fn bs cs] 55)).cell? ⟨W1.heap.size, 0, none⟩ = some (.func fn bs cs) ∧ w.heap.size ≤ W1.heap.size ∧ W1.heap.size < (W1.alloc (.cells #[.func fn bs cs] 55)).heap.size) := ⟨hbe, unhide HON _ _ _ _ _ _ (unhide HRR) (fun b hb => ⟨Nat.le_trans (unhide HSZ) hb.1, by have := hb.2; simp; omega⟩) (fun b hb => Below.heap_alloc _ _ _ hb.2), by simp, (unhide HB1).size, by simp⟩
    clear hbe HB1 HRR HON HSZ
    go_wp2_with fail
    go_ret2
    exact ⟨(unhide HE).1, .func fn bs cs, er, _, rfl, (unhide HE).2⟩
  · have HE : Hid (Below w.heap.size w (W1.setCell ⟨W0.heap.size, 0, none⟩ (.func fn bs cs)) ∧ R (New w (W1.setCell ⟨W0.heap.size, 0, none⟩ (.func fn bs cs))) (W1.setCell ⟨W0.heap.size, 0, none⟩ (.func fn bs cs)) (.func fn bs cs) er ∧ (W1.setCell ⟨W0.heap.size, 0, none⟩ (.func fn bs cs)).cell? ⟨W0.heap.size, 0, none⟩ = some (.func fn bs cs) ∧ w.heap.size ≤ W0.heap.size ∧ W0.heap.size < (W1.setCell ⟨W0.heap.size, 0, none⟩ (.func fn bs cs)).heap.size) := ⟨(unhide HB1).setCell (unhide HSZ) _, unhide HON _ _ _ _ _ _ (unhide HRR) (fun b hb => ⟨Nat.le_trans (unhide HSY) hb.1, by have := hb.2; simpa [World.setCell] using this⟩) (fun b hb => heap_setP (Nat.lt_of_lt_of_le (unhide HLT) hb.1)), set_sameP hbc, unhide HSZ, by have := World.block_lt_of_cell? W1 _ hbc; simpa [World.setCell] using this⟩
    clear HB1 HRR HON HSZ HSY HLT hbc hbf HK3
    go_wp2_with fail
    go_ret2
    exact ⟨(unhide HE).1, .func fn bs cs, er, _, rfl, (unhide HE).2⟩
end Go.Proofs.YtcpfelaffclalaaGreatDoor
