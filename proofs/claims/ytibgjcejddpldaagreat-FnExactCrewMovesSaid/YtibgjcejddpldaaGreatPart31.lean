/- The walks of the program's keeperWays, userWays and of a worker's ways. Conditions: the crew is there, its world is formed. -/
import Derived.Test.YtibgjcejddpldaaGreatPart30
import Derived.Test.YtibgjcejddpldaaGreatPart02
import Derived.RangeFuncNested
import Derived.RangeFuncBound
import Derived.RangeFuncCalls
import Derived.RangeFuncLeaves
import Derived.RangeFuncFrom
import Derived.Shelf.Abstract
import Derived.Shelf.RegionOpen
import Derived.WalkKit
import Derived.OwnWalkIn
import Derived.TacticsInMore
import Derived.LoopNIn
import Derived.LoopIn
namespace Go.Proofs.YtibgjcejddpldaaGreat
open Go Go.RowKit

theorem tri0 (s t : Bool) : [decide (0 < 0), s, decide (0 = 0) && t] = [false, s, t] := rfl
theorem tri1 (n : Nat) (s t : Bool) : [decide (0 < n + 1), s, decide (n + 1 = 0) && t] = [true, s, false] := by
  rw [show decide (0 < n + 1) = true from decide_eq_true (by omega), show decide (n + 1 = 0) = false from decide_eq_false (by omega)]
  rfl
theorem duo0 (t : Bool) : [decide (0 < 0), decide (0 = 0) && t] = [false, t] := rfl
theorem duo1 (n : Nat) (t : Bool) : [decide (0 < n + 1), decide (n + 1 = 0) && t] = [true, false] := by
  rw [show decide (0 < n + 1) = true from decide_eq_true (by omega), show decide (n + 1 = 0) = false from decide_eq_false (by omega)]
  rfl
set_option maxRecDepth 100000 in
set_option maxHeartbeats 3200000 in
theorem keeperWays_any (C : Nat) (c : Cw) (B : CrB) (w : World) (h : CrAt w C c B) (hF : Form c) : Calls Tryz.prog 110 #[.pointer (some ⟨C, 0, none⟩)] w fun e w' => WsEnd w w' e (pwK C c) := by
  have c7 := h.c7; have c10 := h.c10
  have HK := hide (Kc.start h)
  have HF := hide hF
  have HST := hide (fun W (hW : CrAt W C c B) => stop1 (B := B) hF W hW)
  have HEO := hide (empI B.O c.out.length _ w h.o2 rfl)
  have hrg := hF.keeper
  clear h hF
  rcases (show c.keeper = 0 ∨ c.keeper = 1 ∨ c.keeper = 2 ∨ c.keeper = 3 ∨ c.keeper = 4 ∨ c.keeper = 5 by omega) with r0 | r0 | r0 | r0 | r0 | r0
  · rw [r0] at c7
    clear HST HEO c10 hrg
    rcases Nat.eq_zero_or_pos c.results.length with hn | hn
    · have HV := hide (show pwK C c = [(false, fv 132 (pC C)), (stpB c, fv 133 (pC C)), (decide (shZ c 1 = 1), fv 134 (pC C))] from by unfold pwK wayK dvK; rw [if_pos r0, if_pos r0, hn, tri0]; rfl)
      have HN := hide hn
      clear hn r0
      go_enter Tryz.func110, Tryz.ntmps110
      go_upto_region 3 with fail
      refine wp_swap (c' := Code.region 3 cpkOps true) (by kernel_rfl) ?_
      refine wp_region_noPanic ?_
      refine cpk_0 C c B w (unhide HF) (unhide HN) _ _ (fun _ _ _ _ _ h => h) ((unhide HK).on (below_drewN _ 1)) ?_
      intro n9 n10 n11 n12 n13 n14 n15 n16 n17 n18 n19 n20 n21 n22 n23 n24 n25 n26 n27 n28 n29 n30 n31 n32 n33 n34 n35 n36 n37 n38 s W' hbs
      refine NoPanic.normal ?_
      have HBS := hide hbs
      clear hbs
      go_wp2_with fail
      go_ret
      rw [unhide HV]; exact unhide HBS
    · obtain ⟨n, hn⟩ : ∃ n, c.results.length = n + 1 := ⟨c.results.length - 1, by omega⟩
      have HV := hide (show pwK C c = [(true, fv 132 (pC C)), (stpB c, fv 133 (pC C)), (false, fv 134 (pC C))] from by unfold pwK wayK dvK; rw [if_pos r0, if_pos r0, hn, tri1]; rfl)
      have HN := hide hn
      clear hn r0
      go_enter Tryz.func110, Tryz.ntmps110
      go_upto_region 3 with fail
      refine wp_swap (c' := Code.region 3 cpkOps true) (by kernel_rfl) ?_
      refine wp_region_noPanic ?_
      refine cpk_1 C c B w (unhide HF) n (unhide HN) _ _ (fun _ _ _ _ _ h => h) ((unhide HK).on (below_drewN _ 1)) ?_
      intro n9 n10 n11 n12 n13 n14 n15 n16 n17 n18 n19 n20 n21 n22 n23 n24 n25 n26 n27 n28 n29 n30 n31 n32 n33 n34 n35 n36 n37 n38 s W' hbs
      refine NoPanic.normal ?_
      have HBS := hide hbs
      clear hbs
      go_wp2_with fail
      go_ret
      rw [unhide HV]; exact unhide HBS
  · have HV := hide (show pwK C c = [(true, fv 135 (pC C))] from by unfold pwK wayK dvK; simp [r0])
    rw [r0] at c7
    clear HST HEO c10 hrg r0 HF
    go_enter Tryz.func110, Tryz.ntmps110
    go_wp2_with fail
    go_ret
    rw [unhide HV]
    exact ws_new (unhide HK).bel [(true, fv 135 (pC C))] (by simp)
  · have HV := hide (show pwK C c = [(decide (c.out.length = 0), fv 136 (pC C)), (stpB c, fv 133 (pC C))] from by unfold pwK wayK dvK; simp [r0])
    rw [r0] at c7
    clear hrg r0 HF
    have HBX := hide (fun W (hb : Below w.heap.size w W) => (unhide HK).on hb)
    obtain ⟨db, hdb⟩ : ∃ db, decide (c.out.length = 0) = db := ⟨_, rfl⟩
    rw [hdb] at HV HEO
    clear hdb
    go_enter Tryz.func110, Tryz.ntmps110
    go_wp2_with (first | (go_at_call 118; refine (unhide HEO).mono ?_; rintro e w2 ⟨rfl, hb⟩; have HB := hide (unhide HBX _ hb); clear hb) | (go_at_call 115; refine (unhide HST _ (unhide HB).cr).mono ?_; rintro e w3 ⟨rfl, hb⟩; have HB3 := hide ((unhide HB).on hb); clear hb))
    go_ret
    rw [unhide HV]
    exact ws_new (unhide HB3).bel [(db, fv 136 (pC C)), (stpB c, fv 133 (pC C))] (by simp)
  · have HV := hide (show pwK C c = [(true, fv 137 (pC C))] from by unfold pwK wayK dvK; simp [r0])
    rw [r0] at c7
    clear HST HEO c10 hrg r0 HF
    go_enter Tryz.func110, Tryz.ntmps110
    go_wp2_with fail
    go_ret
    rw [unhide HV]
    exact ws_new (unhide HK).bel [(true, fv 137 (pC C))] (by simp)
  · have HV := hide (show pwK C c = [(true, fv 138 (pC C))] from by unfold pwK wayK dvK; simp [r0])
    rw [r0] at c7
    clear HST HEO c10 hrg r0 HF
    go_enter Tryz.func110, Tryz.ntmps110
    go_wp2_with fail
    go_ret
    rw [unhide HV]
    exact ws_new (unhide HK).bel [(true, fv 138 (pC C))] (by simp)
  · have HV := hide (show pwK C c = [] from by unfold pwK wayK dvK; simp [r0])
    rw [r0] at c7
    clear HST HEO c10 hrg r0 HF
    go_enter Tryz.func110, Tryz.ntmps110
    go_wp2_with fail
    go_ret
    rw [unhide HV]
    exact ws_nil (unhide HK).bel
set_option maxRecDepth 100000 in
set_option maxHeartbeats 3200000 in
theorem userWays_any (C : Nat) (c : Cw) (B : CrB) (w : World) (h : CrAt w C c B) (hF : Form c) : Calls Tryz.prog 111 #[.pointer (some ⟨C, 0, none⟩)] w fun e w' => WsEnd w w' e (pwU C c) := by
  have c11 := h.c11
  have HK := hide (Kc.start h)
  have HF := hide hF
  clear h hF
  by_cases r0 : c.user = 1
  · have HV := hide (show pwU C c = [] from by unfold pwU wayU dvU; simp [r0])
    rw [r0] at c11
    clear r0 HF
    go_enter Tryz.func111, Tryz.ntmps111
    go_wp2_with fail
    go_ret
    rw [unhide HV]
    exact ws_nil (unhide HK).bel
  · have z0 : (c.user == 1) = false := by simp [r0]
    rcases Nat.eq_zero_or_pos c.out.length with hn | hn
    · have HV := hide (show pwU C c = [(false, fv 139 (pC C)), (decide (shZ c 2 = 1), fv 140 (pC C))] from by unfold pwU wayU dvU; rw [if_neg r0, if_neg r0, hn, duo0]; rfl)
      have HN := hide hn
      clear hn r0
      generalize c.user = uu at c11 z0
      go_enter Tryz.func111, Tryz.ntmps111
      go_upto_region 3 with fail
      refine wp_swap (c' := Code.region 3 cpuOps true) (by kernel_rfl) ?_
      refine wp_region_noPanic ?_
      refine cpu_0 C c B w (unhide HF) (unhide HN) _ _ (fun _ _ _ _ _ h => h) ((unhide HK).on (below_drewN _ 1)) ?_
      intro n8 n9 n10 n11 n12 n13 n14 n15 n16 n17 n18 n19 n20 n21 n22 n23 n24 n25 n26 n27 n28 n29 n30 n31 n32 s W' hbs
      refine NoPanic.normal ?_
      have HBS := hide hbs
      clear hbs
      go_wp2_with fail
      go_ret
      rw [unhide HV]; exact unhide HBS
    · obtain ⟨n, hn⟩ : ∃ n, c.out.length = n + 1 := ⟨c.out.length - 1, by omega⟩
      have HV := hide (show pwU C c = [(true, fv 139 (pC C)), (false, fv 140 (pC C))] from by unfold pwU wayU dvU; rw [if_neg r0, if_neg r0, hn, duo1]; rfl)
      have HN := hide hn
      clear hn r0
      generalize c.user = uu at c11 z0
      go_enter Tryz.func111, Tryz.ntmps111
      go_upto_region 3 with fail
      refine wp_swap (c' := Code.region 3 cpuOps true) (by kernel_rfl) ?_
      refine wp_region_noPanic ?_
      refine cpu_1 C c B w (unhide HF) n (unhide HN) _ _ (fun _ _ _ _ _ h => h) ((unhide HK).on (below_drewN _ 1)) ?_
      intro n8 n9 n10 n11 n12 n13 n14 n15 n16 n17 n18 n19 n20 n21 n22 n23 n24 n25 n26 n27 n28 n29 n30 n31 n32 s W' hbs
      refine NoPanic.normal ?_
      have HBS := hide hbs
      clear hbs
      go_wp2_with fail
      go_ret
      rw [unhide HV]; exact unhide HBS
set_option maxRecDepth 100000 in
set_option maxHeartbeats 3200000 in
theorem workerWays_any (C : Nat) (c : Cw) (B : CrB) (i : Nat) (w : World) (h : CrAt w C c B) (hF : Form c) (hi : i < c.hands.length) : Calls Tryz.prog 108 #[.agg #[.pointer (some ⟨C, 0, none⟩), .pointer (some ⟨B.H, i * 2, none⟩)]] w fun e w' => WsEnd w w' e (pwW C B.H i c (c.hands.getD i ⟨0, 0⟩)) := by
  have HK0 := hide (Kc.start h)
  have HF := hide hF
  have hrg : 0 ≤ (c.hands.getD i ⟨0, 0⟩).state ∧ (c.hands.getD i ⟨0, 0⟩).state ≤ 3 := by
    rw [List.getD_eq_getElem?_getD, List.getElem?_eq_getElem hi]
    exact (hF.handsOk _ (List.getElem_mem hi)).1
  have HC0 := hide (fun W (hW : CrAt W C c B) => (show W.cell? ⟨B.H, i * 2, none⟩ = some (.int .i64 (c.hands.getD i ⟨0, 0⟩).state) from by
    rw [List.getD_eq_getElem?_getD, List.getElem?_eq_getElem hi]
    exact (hands_at hW.hands i hi).1))
  have HQ := hide (show c.results.length ≤ c.hands.length from by have := hF.results; have := hF.hands; omega)
  clear h hF hi
  generalize c.hands.getD i ⟨0, 0⟩ = hd at *
  have HBX : Hid (Kw w (w.alloc (.cells #[.pointer (some ⟨C, 0, none⟩), .pointer (some ⟨B.H, i * 2, none⟩)] 129)) C c B i) := ⟨(unhide HK0).on ((Below.refl _ _).alloc (Nat.le_refl _) _), World.rowIs_alloc w #[.pointer (some ⟨C, 0, none⟩), .pointer (some ⟨B.H, i * 2, none⟩)] 129 _ (fun j hj => by
    rcases (show j = 0 ∨ j = 1 by simp at hj; omega) with rfl | rfl <;> rfl)⟩
  clear HK0
  go_enter Tryz.func108, Tryz.ntmps108
  go_upto_region 1 with fail
  generalize w.alloc (.cells #[.pointer (some ⟨C, 0, none⟩), .pointer (some ⟨B.H, i * 2, none⟩)] 129) = W0 at HBX ⊢
  have b0 := (unhide HBX).b0; have b1 := (unhide HBX).b1; have s0 := unhide HC0 _ (unhide HBX).k.cr
  rcases (show hd.state = 0 ∨ hd.state = 1 ∨ hd.state = 2 ∨ hd.state = 3 by omega) with r0 | r0 | r0 | r0
  · rw [r0] at s0
    rcases Nat.eq_zero_or_pos c.queue.length with hn | hn
    · have HV := hide (show pwW C B.H i c hd = [(false, fv 126 (rW C B.H i)), (stpB c, fv 127 (rW C B.H i)), (decide (shZ c 0 = 1), fv 128 (rW C B.H i))] from by unfold pwW wayW dvW; rw [if_pos r0, if_pos r0, hn, tri0]; rfl)
      have HN := hide hn
      clear hn r0 hrg b0 HQ HC0
      go_upto_region 3 with fail
      refine wp_swap (c' := Code.region 3 cpwOps true) (by kernel_rfl) ?_
      refine wp_region_noPanic ?_
      refine cpw_0 C c B w i (unhide HF) (unhide HN) _ _ (fun _ _ _ _ _ h => h) ((unhide HBX).on (below_drewN _ 1)) ?_
      intro n10 n11 n12 n13 n14 n15 n16 n17 n18 n19 n20 n21 n22 n23 n24 n25 n26 n27 n28 n29 n30 n31 n32 n33 n34 n35 n36 n37 n38 n39 n40 n41 n42 n43 s W' hbs
      refine NoPanic.normal ?_
      have HBS := hide hbs
      clear hbs
      go_wp2_with fail
      go_ret
      rw [unhide HV]; exact unhide HBS
    · obtain ⟨n, hn⟩ : ∃ n, c.queue.length = n + 1 := ⟨c.queue.length - 1, by omega⟩
      have HV := hide (show pwW C B.H i c hd = [(true, fv 126 (rW C B.H i)), (stpB c, fv 127 (rW C B.H i)), (false, fv 128 (rW C B.H i))] from by unfold pwW wayW dvW; rw [if_pos r0, if_pos r0, hn, tri1]; rfl)
      have HN := hide hn
      clear hn r0 hrg b0 HQ HC0
      go_upto_region 3 with fail
      refine wp_swap (c' := Code.region 3 cpwOps true) (by kernel_rfl) ?_
      refine wp_region_noPanic ?_
      refine cpw_1 C c B w i (unhide HF) n (unhide HN) _ _ (fun _ _ _ _ _ h => h) ((unhide HBX).on (below_drewN _ 1)) ?_
      intro n10 n11 n12 n13 n14 n15 n16 n17 n18 n19 n20 n21 n22 n23 n24 n25 n26 n27 n28 n29 n30 n31 n32 n33 n34 n35 n36 n37 n38 n39 n40 n41 n42 n43 s W' hbs
      refine NoPanic.normal ?_
      have HBS := hide hbs
      clear hbs
      go_wp2_with fail
      go_ret
      rw [unhide HV]; exact unhide HBS
  · have HV := hide (show pwW C B.H i c hd = [(true, fv 129 (rW C B.H i))] from by unfold pwW wayW dvW; simp [r0])
    rw [r0] at s0
    clear r0 hrg HQ HC0 HF
    go_wp2_with fail
    go_ret
    rw [unhide HV]
    exact ws_new (unhide HBX).bel' [(true, fv 129 (rW C B.H i))] (by simp)
  · have HV := hide (show pwW C B.H i c hd = [((!((c.results.length : Int) == (c.hands.length : Int))), fv 130 (rW C B.H i)), (stpB c, fv 127 (rW C B.H i))] from by rw [full_lt (unhide HQ) (unhide HF).hands]; unfold pwW wayW dvW; simp [r0])
    rw [r0] at s0
    clear r0 hrg b0 HQ HC0
    go_upto_region 7 with fail
    refine wp_swap (c' := Code.region 7 cpgOps true) (by kernel_rfl) ?_
    refine wp_region_noPanic ?_
    refine cpg_g C c B w i (unhide HF) _ _ (fun _ _ _ _ _ h => h) ((unhide HBX).on (below_drewN _ 1)) ?_
    intro n52 n53 n54 n55 n56 n57 n58 n59 n60 n61 n62 n63 n64 n65 n66 n67 n68 s W' hbs
    refine NoPanic.normal ?_
    have HBS := hide hbs
    clear hbs
    go_wp2_with fail
    go_ret
    rw [unhide HV]; exact unhide HBS
  · have HV := hide (show pwW C B.H i c hd = [] from by unfold pwW wayW dvW; simp [r0])
    rw [r0] at s0
    clear r0 hrg HQ HC0 HF
    go_wp2_with fail
    go_ret
    rw [unhide HV]
    exact ws_nil (unhide HBX).bel'
end Go.Proofs.YtibgjcejddpldaaGreat

/- The walk of the program's all: the ways of each of a crew, as bound methods. Condition: the crew is there. -/

namespace Go.Proofs.YtibgjcejddpldaaGreat
open Go Go.RowKit

def fx (n : Nat) (r : Value) : Value := .func (.func n) #[r] #[]
def allV (C H n : Nat) : List Value := fx 107 (pC C) :: (List.range n).map (fun i => fx 108 (rW C H i))
theorem allV_len (C H n : Nat) : (allV C H n).length = n + 1 := by simp [allV]
theorem allV_succ (C H n : Nat) : allV C H (n + 1) = allV C H n ++ [fx 108 (rW C H n)] := by
  unfold allV
  rw [List.range_succ, List.map_append]
  rfl
def allF (C H n : Nat) : List Value := allV C H n ++ [fx 109 (pC C), fx 110 (pC C), fx 111 (pC C)]
theorem Kc.grownC {w W W' : World} {C : Nat} {c : Cw} {B : CrB} (h : Kc w W C c B) (hl : ∀ b, b ∈ CrB.blocks C B → b < w.heap.size) {r : Option Nat} (hg : W.grownBy W' r) (hr : ∀ g, r = some g → w.heap.size ≤ g) : Kc w W' C c B :=
  ⟨h.cr.carry (fun b hb => hg.block b (h.cr.lt b hb) (fun e => by have := hr b e.symm; have := hl b hb; omega)), h.bel.grown hg h.bel.size hr⟩
/-- A list of functions that grows beside a crew. -/
structure Gf (w W : World) (C : Nat) (c : Cw) (B : CrB) (a : Option Addr) (n cap : Nat) (l : List Value) : Prop where
  kc : Kc w W C c B
  own : W.ownsRow w.heap.size 114 1 (.slice a n cap) n l
  len : n = l.length
theorem Gf.add {w W W' : World} {C : Nat} {c : Cw} {B : CrB} {a a' : Option Addr} {n cap m cap' : Nat} {l xs : List Value} (h : Gf w W C c B a n cap l) (hl : ∀ b, b ∈ CrB.blocks C B → b < w.heap.size) (ob : Obj) (hm : m = xs.length) (ho : W'.ownsRow w.heap.size 114 1 (.slice a' (n + m) cap') (n + m) (l ++ xs)) (hg : (W.alloc ob).grownBy W' (Value.slice a n cap).ownBlock) : Gf w W' C c B a' (n + m) cap' (l ++ xs) :=
  ⟨(h.kc.on ((Below.refl _ _).alloc (Nat.le_refl _) ob)).grownC hl hg (fun g e => (h.own.lt g e).1), ho, by rw [List.length_append, ← h.len, ← hm]⟩
theorem one_own (W : World) (base t : Nat) (v : Value) (hb : base ≤ W.heap.size) : (W.alloc (.cells #[v] t)).ownsRow base t 1 (.slice (some ⟨W.heap.size, 0, none⟩) 1 1) 1 [v] :=
  ⟨rfl, Or.inr ⟨W.heap.size, 1, #[v], rfl, hb, World.heap_alloc_newC _ _, Nat.le_refl _, by unfold maxLen; omega, rfl, rfl⟩⟩
theorem cell_oneV (w : World) (x : Value) (t : TypeId) : ∀ j u, [x][j]? = some u → (w.alloc (.cells #[x] t)).cell? ((⟨w.heap.size, 0, none⟩ : Addr).add j) = some u := by
  intro j u hj
  match j with
  | 0 => simp only [List.getElem?_cons_zero, Option.some.injEq] at hj; subst hj; rw [Addr.add_lit]; simp [go_sem]
  | j + 1 => simp at hj
theorem cell_threeV (w : World) (x y z : Value) (t : TypeId) : ∀ j u, [x, y, z][j]? = some u → (w.alloc (.cells #[x, y, z] t)).cell? ((⟨w.heap.size, 0, none⟩ : Addr).add j) = some u := by
  intro j u hj
  match j with
  | 0 => simp only [List.getElem?_cons_zero, Option.some.injEq] at hj; subst hj; rw [Addr.add_lit]; simp [go_sem]
  | 1 => simp only [List.getElem?_cons_succ, List.getElem?_cons_zero, Option.some.injEq] at hj; subst hj; rw [Addr.add_lit]; simp [go_sem]
  | 2 => simp only [List.getElem?_cons_succ, List.getElem?_cons_zero, Option.some.injEq] at hj; subst hj; rw [Addr.add_lit]; simp [go_sem]
  | j + 3 => simp at hj
theorem infoWayF : (Tryz.prog.info? 114).map (fun i => (i.zero, i.size, i.bytes)) = some (some .nilFunc, 1, 8) := by kernel_rfl
set_option maxRecDepth 100000 in
set_option maxHeartbeats 3200000 in
theorem allW_any (C : Nat) (c : Cw) (B : CrB) (w : World) (h : CrAt w C c B) : Calls Tryz.prog 88 #[.pointer (some ⟨C, 0, none⟩)] w fun e w' => ∃ a cap, e = .returned (.slice a (c.hands.length + 4) cap) ∧ Gf w w' C c B a (c.hands.length + 4) cap (allF C B.H c.hands.length) := by
  have HS := hide (Kc.start h)
  have HL := hide h.lt
  have h8 := h.szH.2
  have k4 := h.c4
  obtain ⟨j3, hJ, hW0, hW1, hW2⟩ := info_parts infoWayF
  have HJ := hide hJ; have HW0 := hide hW0; have HW1 := hide hW1; have HW2 := hide hW2
  clear hJ hW0 hW1 hW2 h
  obtain ⟨y, hy⟩ : ∃ y : Nat, y = c.hands.length := ⟨_, rfl⟩
  have HY := hide hy
  rw [← hy] at k4 h8 ⊢
  clear hy
  go_enter Tryz.func88, Tryz.ntmps88
  go_upto_region 2 with fail
  have HG0 := hide (show Gf w (w.alloc (.cells #[.func (.func 107) #[.pointer (some ⟨C, 0, none⟩)] #[]] 114)) C c B (some ⟨w.heap.size, 0, none⟩) 1 1 (allV C B.H 0) from ⟨(unhide HS).on ((Below.refl _ _).alloc (Nat.le_refl _) _), one_own w w.heap.size _ _ (Nat.le_refl _), rfl⟩)
  clear HS k4
  generalize w.alloc (.cells #[.func (.func 107) #[.pointer (some ⟨C, 0, none⟩)] #[]] 114) = W0 at HG0 ⊢
  have k4 := (unhide HG0).kc.cr.c4
  rw [← unhide HY] at k4
  go_wp2_with fail
  clear k4
  go_loopw [3, 13] (fun v i wr => ∃ (k : Nat) (a : Option Addr) (n cap : Nat), k ≤ y ∧ Hid (n = k + 1) ∧ i = .int .i64 k ∧ v = .slice a n cap ∧ Hid (Gf w wr C c B a n cap (allV C B.H k))) (fun _ i _ => y - (intOf i).toNat)
  case atStart => exact ⟨0, _, _, _, Nat.zero_le _, hide rfl, rfl, rfl, HG0⟩
  case round =>
    obtain ⟨k, a, n, cap, hk, HNK, rfl, rfl, HG⟩ := hrel
    have hn9 : n ≤ 9 := by have := HNK.out; omega
    have k4 := HG.out.kc.cr.c4
    rw [← unhide HY] at k4
    have HSZ := hide HG.out.kc.bel.size
    by_cases hlt : k < y
    · go_wp2_with (at_builtin; refine append_row _ rfl _ _ 112 rfl w.heap.size 114 j3 .nilFunc 1 8 Tryz.underlying112 (unhide HJ) (unhide HW0) (unhide HW1) (unhide HW2) rfl (by decide) (.slice a n cap) n (allV C B.H k) rfl (World.ownsRow.alloc HG.out.own _) ⟨_, 0, none⟩ 1 1 [fx 108 (rW C B.H k)] rfl rfl (cell_oneV _ _ _) (fun u hu => by simp at hu; subst hu; rfl) (by decide) (by unfold maxLen; omega) (by omega) (by have := unhide HSZ; simp; omega) ?_; intro v' w8 hown8 hgrow8 hat8; obtain ⟨g8, cap8, rfl, hg1, hg2⟩ := hown8.form (by omega); have HM6 := hide (HG.out.add (unhide HL) _ (m := 1) rfl hown8 hgrow8); clear hown8 hgrow8 hat8)
      go_roundw
      case rel => exact ⟨k + 1, _, _, _, by omega, hide (by rw [HNK.out]), by go_num, rfl, by rw [allV_succ]; exact HM6⟩
      case measure => simp [intOf]; omega
    · obtain rfl : k = y := by omega
      go_wp2_with (at_builtin; refine append_row _ rfl _ _ 112 rfl w.heap.size 114 j3 .nilFunc 1 8 Tryz.underlying112 (unhide HJ) (unhide HW0) (unhide HW1) (unhide HW2) rfl (by decide) (.slice a n cap) n (allV C B.H k) rfl (World.ownsRow.alloc HG.out.own _) ⟨_, 0, none⟩ 3 3 [fx 109 (pC C), fx 110 (pC C), fx 111 (pC C)] rfl rfl (cell_threeV _ _ _ _ _) (fun u hu => by simp at hu; rcases hu with rfl | rfl | rfl <;> rfl) (by decide) (by unfold maxLen; omega) (by omega) (by have := unhide HSZ; simp; omega) ?_; intro v' w8 hown8 hgrow8 hat8; obtain ⟨g8, cap8, rfl, hg1, hg2⟩ := hown8.form (by omega); have HM6 := hide (HG.out.add (unhide HL) _ (m := 3) rfl hown8 hgrow8); clear hown8 hgrow8 hat8)
      go_ret
      have hnk := HNK.out
      subst hnk
      exact ⟨_, _, rfl, unhide HM6⟩
theorem allF_at (C H n k : Nat) (hk : k < n + 4) : (allF C H n)[k]? = some (if k = 0 then fx 107 (pC C) else if k ≤ n then fx 108 (rW C H (k - 1)) else if k = n + 1 then fx 109 (pC C) else if k = n + 2 then fx 110 (pC C) else fx 111 (pC C)) := by
  unfold allF
  by_cases h : k < n + 1
  · rw [List.getElem?_append_left (by rw [allV_len]; exact h)]
    unfold allV
    cases k with
    | zero => rfl
    | succ k => rw [List.getElem?_cons_succ, List.getElem?_map, List.getElem?_range (by omega), if_neg (by omega), if_pos (by omega)]; rfl
  · rw [List.getElem?_append_right (by rw [allV_len]; omega), allV_len, if_neg (by omega), if_neg (by omega)]
    rcases (show k = n + 1 ∨ k = n + 2 ∨ k = n + 3 by omega) with rfl | rfl | rfl
    · rw [if_pos rfl, show n + 1 - (n + 1) = 0 by omega]; rfl
    · rw [if_neg (by omega), if_pos rfl, show n + 2 - (n + 1) = 1 by omega]; rfl
    · rw [if_neg (by omega), if_neg (by omega), show n + 3 - (n + 1) = 2 by omega]; rfl
theorem own_at {W : World} {base t : Nat} {a : Option Addr} {n cap : Nat} {l : List Value} (h : W.ownsRow base t 1 (.slice a n cap) n l) (k : Nat) (hk : k < n) : ∃ g, a = some ⟨g, 0, none⟩ ∧ base ≤ g ∧ W.cell? ⟨g, k, none⟩ = l[k]? := by
  rcases h.2 with ⟨_, h0⟩ | ⟨g, cap', cur, hv, hgg, hh, hle, hmx, hsz, htk⟩
  · omega
  · simp only [Value.slice.injEq] at hv
    obtain ⟨rfl, -, rfl⟩ := hv
    refine ⟨g, rfl, hgg, ?_⟩
    have hkc : k < cur.size := by omega
    rw [← htk]
    simp [World.cell?, hh, hkc, hk]
end Go.Proofs.YtibgjcejddpldaaGreat

/- What a round of a range over ready's function may turn, and what the ways of one of the crew are, whoever it is. No program walked. Condition: the crew is there, its world is formed. -/

namespace Go.Proofs.YtibgjcejddpldaaGreat
open Go Go.RowKit Go.Shelf

/-- The block of the row that stands in a box. -/
def obl (b3 : Nat) (W : World) : Option Nat := (W.cell? ⟨b3, 0, none⟩).bind Value.ownBlock
theorem obl_same {b3 : Nat} {A B : World} (h : B.heap[b3]? = A.heap[b3]?) : obl b3 B = obl b3 A := by
  unfold obl
  rw [World.cell?_of_block (a := ⟨b3, 0, none⟩) h]
/-- Nothing of what holds cells has turned but a box and the row that stands in it; a row that stands in it anew is new. -/
structure Kq (b3 : Nat) (W W' : World) : Prop where
  size : W.heap.size ≤ W'.heap.size
  block : ∀ k o, W.heap[k]? = some o → o.isCells = true → k ≠ b3 → obl b3 W ≠ some k → W'.heap[k]? = W.heap[k]?
  ob : obl b3 W' = obl b3 W ∨ ∃ g, obl b3 W' = some g ∧ W.heap.size ≤ g ∧ g < W'.heap.size
theorem Kq.refl (b3 : Nat) (W : World) : Kq b3 W W := ⟨Nat.le_refl _, fun _ _ _ _ _ _ => rfl, Or.inl rfl⟩
theorem Kq.trans {b3 : Nat} {A B C : World} (h : Kq b3 A B) (k : Kq b3 B C) : Kq b3 A C := by
  refine ⟨Nat.le_trans h.size k.size, fun i o hi ho h1 h2 => ?_, ?_⟩
  · have e := h.block i o hi ho h1 h2
    refine (k.block i o (e.trans hi) ho h1 (fun hb => ?_)).trans e
    rcases h.ob with e2 | ⟨g, e2, h3, -⟩
    · exact h2 (e2.symm.trans hb)
    · rw [e2] at hb
      simp only [Option.some.injEq] at hb
      have := (Array.getElem?_eq_some_iff.1 hi).1
      omega
  · rcases k.ob with e | ⟨g, e, h3, h4⟩
    · rcases h.ob with e2 | ⟨g, e2, h3, h4⟩
      · exact Or.inl (e.trans e2)
      · exact Or.inr ⟨g, e.trans e2, h3, Nat.lt_of_lt_of_le h4 k.size⟩
    · exact Or.inr ⟨g, e, Nat.le_trans h.size h3, h4⟩
theorem Kq.of_below {b3 : Nat} {A B : World} (h : Below A.heap.size A B) (hb : b3 < A.heap.size) : Kq b3 A B :=
  ⟨h.size, fun k _ hk _ _ _ => h.block k (Array.getElem?_eq_some_iff.1 hk).1, Or.inl (obl_same (h.block b3 hb))⟩
theorem Kq.putObj {b3 : Nat} {w : World} (hb : b3 < w.heap.size) (W : World) (l : Nat) (o o' : Obj) (hl : w.heap.size ≤ l) (ho : W.heap[l]? = some o) (hc : o.isCells = false) (_ : o.isWalk = false) : Kq b3 W (W.putObj l o') := by
  refine ⟨by simp [World.putObj], fun k o2 hk h2 _ _ => World.putObj_heap_other (fun e => ?_), Or.inl (obl_same (World.putObj_heap_other (by omega)))⟩
  subst e
  rw [ho] at hk
  simp only [Option.some.injEq] at hk
  subst hk
  rw [hc] at h2
  cases h2
theorem Kq.own {b3 : Nat} {A W : World} (h : Kq b3 A W) (h0 : obl b3 A = none) : ∀ g, obl b3 W = some g → A.heap.size ≤ g ∧ g < W.heap.size := fun g e => by
  rcases h.ob with e2 | ⟨g2, e2, h1, h2⟩
  · rw [e2, h0] at e; cases e
  · rw [e2] at e
    simp only [Option.some.injEq] at e
    subst e
    exact ⟨h1, h2⟩
theorem cells_of_cell {W : World} {a : Addr} {v : Value} (h : W.cell? a = some v) : ∃ o : Obj, W.heap[a.block]? = some o ∧ o.isCells = true := by
  unfold World.cell? at h
  cases ho : W.heap[a.block]? with
  | none => simp [ho] at h
  | some o => exact ⟨o, rfl, by cases o <;> simp_all [Obj.isCells]⟩
theorem Kq.cell {b3 : Nat} {A W : World} (h : Kq b3 A W) {a : Addr} {v : Value} (hc : A.cell? a = some v) (h1 : a.block ≠ b3) (h2 : obl b3 A ≠ some a.block) : W.cell? a = some v := by
  obtain ⟨o, ho, hi⟩ := cells_of_cell hc
  rw [World.cell?_of_block (h.block _ o ho hi h1 h2)]
  exact hc
theorem CrAt.cells {W : World} {C : Nat} {c : Cw} {B : CrB} (h : CrAt W C c B) : ∀ b, b ∈ CrB.blocks C B → ∃ o : Obj, W.heap[b]? = some o ∧ o.isCells = true := by
  obtain ⟨⟨_, h1, -⟩, ⟨_, h2, -⟩, h3, h4, ⟨⟨_, _, _, ⟨_, q1, -⟩, ⟨_, q2, -⟩, -⟩, -⟩, ⟨⟨_, _, _, ⟨_, r1, -⟩, ⟨_, r2, -⟩, -⟩, -⟩, ⟨⟨_, _, _, ⟨_, o1, -⟩, ⟨_, o2, -⟩, -⟩, -⟩, ⟨_, _, _, ⟨_, h8, -⟩⟩, ⟨_, ⟨_, h9, -⟩⟩, -⟩ := h
  intro b hb
  simp only [CrB.blocks, List.mem_append, List.mem_cons, List.not_mem_nil, or_false] at hb
  rcases hb with (rfl | rfl | rfl | rfl | rfl | rfl | rfl | rfl | rfl | rfl | rfl) | hb
  · exact ⟨_, h1, rfl⟩
  · exact ⟨_, h2, rfl⟩
  · exact ⟨_, q1, rfl⟩
  · exact ⟨_, q2, rfl⟩
  · exact ⟨_, r1, rfl⟩
  · exact ⟨_, r2, rfl⟩
  · exact ⟨_, o1, rfl⟩
  · exact ⟨_, o2, rfl⟩
  · exact ⟨_, h8, rfl⟩
  · exact ⟨_, h9, rfl⟩
  · rcases h3.2 with ⟨hv, -⟩ | ⟨g, cap, cur, hv, -, hh, -⟩
    · cases hv
    · simp only [Value.slice.injEq, Option.some.injEq, Addr.mk.injEq, and_true] at hv
      rw [hv.1]
      exact ⟨_, hh, rfl⟩
  · rcases h4.2 with ⟨hv, -⟩ | ⟨g, cap, cur, hv, -, hh, -⟩
    · simp only [Value.slice.injEq] at hv
      rw [hv.1] at hb
      simp [Value.ownBlock] at hb
    · simp only [Value.slice.injEq] at hv
      rw [hv.1] at hb
      simp only [Value.ownBlock, Option.toList_some, List.mem_singleton] at hb
      subst hb
      exact ⟨_, hh, rfl⟩
theorem CrAt.kq {W W' : World} {C : Nat} {c : Cw} {B : CrB} {b3 : Nat} (h : CrAt W C c B) (hk : Kq b3 W W') (h3 : b3 ∉ CrB.blocks C B) (h0 : obl b3 W = none) : CrAt W' C c B :=
  h.carry fun b hb => by
    obtain ⟨o, ho, hc⟩ := h.cells b hb
    exact hk.block b o ho hc (fun e => h3 (e ▸ hb)) (by rw [h0]; simp)
/-- The ways of one of the crew, whoever it is. -/
theorem ways_at (C : Nat) (c : Cw) (B : CrB) (hF : Form c) (k : Nat) (hk : k < c.hands.length + 4) : ∃ f r, (allF C B.H c.hands.length)[k]? = some (.func (.func f) #[r] #[]) ∧ (∀ args w, (callFunc f args).run Tryz.prog w = .ok (.enter f args) w) ∧ ∀ W, CrAt W C c B → Calls Tryz.prog f #[r] W (fun e w' => WsEnd W w' e (pw C B.H c k)) := by
  rw [allF_at _ _ _ _ hk]
  unfold pw
  by_cases h0 : k = 0
  · rw [if_pos h0, if_pos h0]
    exact ⟨_, _, rfl, enters_of Tryz.func107 (by kernel_rfl) rfl, fun W hW => readerWays_any C c B W hW hF⟩
  rw [if_neg h0, if_neg h0]
  by_cases h1 : k ≤ c.hands.length
  · rw [if_pos h1, if_pos h1]
    exact ⟨_, _, rfl, enters_of Tryz.func108 (by kernel_rfl) rfl, fun W hW => workerWays_any C c B (k - 1) W hW hF (by omega)⟩
  rw [if_neg h1, if_neg h1]
  by_cases h2 : k = c.hands.length + 1
  · rw [if_pos h2, if_pos h2]
    exact ⟨_, _, rfl, enters_of Tryz.func109 (by kernel_rfl) rfl, fun W hW => closerWays_any C c B W hW⟩
  rw [if_neg h2, if_neg h2]
  by_cases h3 : k = c.hands.length + 2
  · rw [if_pos h3, if_pos h3]
    exact ⟨_, _, rfl, enters_of Tryz.func110 (by kernel_rfl) rfl, fun W hW => keeperWays_any C c B W hW hF⟩
  rw [if_neg h3, if_neg h3]
  exact ⟨_, _, rfl, enters_of Tryz.func111 (by kernel_rfl) rfl, fun W hW => userWays_any C c B W hW hF⟩
end Go.Proofs.YtibgjcejddpldaaGreat
