/- Whether a tree is of a schema, as a function on data; trees all of whose parts are ok. Definitions and small laws; no program, no conditions. -/
import Derived.Test.YtcpfelaffclalaaGreatDoorPart00
import Derived.Test.YtcpfelaffclalaaGreatDoorPart05
import Derived.Test.YtcpfelaffclalaaGreatDoorPart07
import Derived.Deep.RegionHeld3
import Derived.Test.YtcpfelaffclalaaGreatDoorRows
import Derived.Deep.OwnRows
import Derived.Deep.RegionWith
import Derived.Maps.OwnSet
import Derived.Maps.OwnOps
import Derived.Maps.Views
import Derived.Deep.Draws
import Derived.Test.YtcpfelaffclalaaGreatDoorPart04
import Derived.RangeFuncNested
import Derived.RangeFuncBound
import Derived.RangeFuncCalls
import Derived.RangeFuncLeaves
import Derived.Shelf.Abstract
import Derived.Shelf.RegionOpen
import Derived.WalkKit
import Derived.OwnWalkIn
import Derived.TacticsInMore
import Derived.LoopNIn
import Derived.LoopIn
namespace Go.Proofs.YtcpfelaffclalaaGreatDoor
open Go Go.RowKit


/-- The schema of a tree's kid. -/
def kidOf (k : Kd) (i : Nat) : Kd := if k.sort = 5 then k.kids.getD i (.mk 0 [] []) else k.kids.getD 0 (.mk 0 [] [])
mutual
/-- A tree that is ok is of a schema that is ok. -/
def hT : Tr → Kd → Bool
  | .mk s _ _ ns ks, k => decide (k.sort = s) && decide (k.names = ns) && hK ks k 0
def hK : List Tr → Kd → Nat → Bool
  | [], _, _ => true
  | t :: r, k, i => hT t (kidOf k i) && hK r k (i + 1)
end
theorem lst_loop (s : ByteArray) (n : Nat) : ∀ (i : Nat) (r : List UInt8), s.size - i = n → ByteArray.toList.loop s i r = r.reverse ++ s.data.toList.drop i := by
  induction n with
  | zero =>
    intro i r h
    unfold ByteArray.toList.loop
    rw [if_neg (by omega), List.drop_eq_nil_of_le (by simp only [Array.length_toList]; show s.size ≤ i; omega), List.append_nil]
  | succ n ih =>
    intro i r h
    unfold ByteArray.toList.loop
    have hi : i < s.size := by omega
    have e : s.get! i = s.data.toList[i]'(by simpa using hi) := by
      obtain ⟨d⟩ := s
      exact getElem!_pos d i hi
    have hdrop : s.data.toList.drop i = s.data.toList[i]'(by simpa using hi) :: s.data.toList.drop (i + 1) := List.drop_eq_getElem_cons (by simpa using hi)
    rw [if_pos hi, ih (i + 1) _ (by omega), hdrop, e, List.reverse_cons, List.append_assoc]
    rfl
theorem lst_data (s : ByteArray) : s.toList = s.data.toList := by
  have := lst_loop s s.size 0 [] (by omega)
  rw [List.drop_zero] at this
  exact this
theorem lst_beq (a b : ByteArray) : (a.toList == b.toList) = decide (a = b) := by
  rw [lst_data, lst_data, Bool.eq_iff_iff]
  simp only [beq_iff_eq, decide_eq_true_eq]
  constructor
  · intro h; exact ByteArray.ext (Array.toList_inj.1 h)
  · intro h; rw [h]
end Go.Proofs.YtcpfelaffclalaaGreatDoor

/- The walks of the specification's l3Kid, l3Fits, KindFits: whether a schema fits into another one; of what was there nothing has turned. No conditions. -/

namespace Go.Proofs.YtcpfelaffclalaaGreatDoor
open Go Go.RowKit

/-- What l3Kid gives: the schema of a name, where it lies. -/
def KdG (P : Nat → Prop) (w : World) (k : Kd) (nm : ByteArray) (y0 y1 y2 : Value) (ok : Bool) : Prop :=
  (∃ (x : Kd) (a1 a2 : Option Addr) (p1 p2 : Nat), ok = true ∧ kidN k nm = some x ∧ x ∈ k.kids ∧ y0 = .int .i64 x.sort ∧ y1 = .slice a1 x.names.length p1 ∧ y2 = .slice a2 x.kids.length p2 ∧ KRep P w x ⟨.int .i64 x.sort, .slice a1 x.names.length p1, .slice a2 x.kids.length p2⟩) ∨
  (ok = false ∧ kidN k nm = none ∧ y0 = .int .i64 0 ∧ y1 = .slice none 0 0 ∧ y2 = .slice none 0 0)
theorem KdG.one {P : Nat → Prop} {w : World} {k : Kd} {nm : ByteArray} (y0 y1 y2 : Value) (ok : Bool) (h : KdG P w k nm y0 y1 y2 ok) : (#[y0, y1, y2] : Array Value).all (·.oneCell') = true := by
  rw [← Array.all_toList]
  rcases h with ⟨x, a1, a2, p1, p2, -, -, -, rfl, rfl, rfl, -⟩ | ⟨-, -, rfl, rfl, rfl⟩ <;> rfl
set_option maxRecDepth 100000 in
set_option maxHeartbeats 1600000 in
theorem l3Kid_any (k : Kd) (P : Nat → Prop) (c : C3) (w0 w : World) (hP : ∀ b, P b → b < w0.heap.size) (hrep : KRep P w0 k c) (hl : k.kids.length = k.names.length) (nm : ByteArray) (hb0 : Below w0.heap.size w0 w) :
    Calls Tryz.prog 51 #[.agg #[c.c0, c.c1, c.c2], .string nm] w fun e w' => Below w.heap.size w w' ∧ ∃ y0 y1 y2 ok, e = .returned (.tuple #[.agg #[y0, y1, y2], .bool ok]) ∧ KdG P w0 k nm y0 y1 y2 ok := by
  obtain ⟨c0, c1, c2⟩ := c
  obtain ⟨e0, -, ⟨a3, cap3, e1, hl3, hnc⟩, a, cap, e2, hlk, hks⟩ := hrep.open
  simp only at e0 e1 e2
  subst e0 e1 e2
  have hbx : ∀ o1 o2, Below w.heap.size w ((w.alloc o1).alloc o2) := fun o1 o2 => ((Below.refl _ _).alloc (Nat.le_refl _) o1).alloc (by simp) o2
  have hrk := (row3_alloc w (.int .i64 k.sort) (.slice a3 k.names.length cap3) (.slice a k.kids.length cap) 30).alloc (.cells #[.int .i64 0, .slice none 0 0, .slice none 0 0] 30)
  have hrz := row3_alloc (w.alloc (.cells #[.int .i64 k.sort, .slice a3 k.names.length cap3, .slice a k.kids.length cap] 30)) (.int .i64 0) (.slice none 0 0) (.slice none 0 0) 30
  rw [World.size_alloc] at hrz
  have hbw := hbx (.cells #[.int .i64 k.sort, .slice a3 k.names.length cap3, .slice a k.kids.length cap] 30) (.cells #[.int .i64 0, .slice none 0 0, .slice none 0 0] 30)
  have hs2 : ((w.alloc (.cells #[.int .i64 k.sort, .slice a3 k.names.length cap3, .slice a k.kids.length cap] 30)).alloc (.cells #[.int .i64 0, .slice none 0 0, .slice none 0 0] 30)).heap.size = w.heap.size + 2 := by simp
  have HNC := hide hnc; have HKS := hide hks; have HP := hide hP; have HB0 := hide hb0; have HL := hide hl
  clear hnc hks hP hb0 hrep hbx hl
  go_enter Tryz.func51, Tryz.ntmps51
  go_wp2_with fail
  generalize ((w.alloc (.cells #[.int .i64 k.sort, .slice a3 k.names.length cap3, .slice a k.kids.length cap] 30)).alloc (.cells #[.int .i64 0, .slice none 0 0, .slice none 0 0] 30)) = W0 at hrk hrz hbw hs2 ⊢
  have HRK := hide hrk; have HRZ := hide hrz; have HBW := hide hbw; have HS2 := hide hs2
  have m0 := hrz.cell (i := 0) (by omega); have m1 := hrz.cell (i := 1) (by omega); have m2 := hrz.cell (i := 2) (by omega); have mf := hrz.frozen
  have k1 := hrk.cell (i := 1) (by omega); have k2 := hrk.cell (i := 2) (by omega)
  simp only [row3] at m0 m1 m2 k1 k2
  clear hrk hrz hbw hs2
  go_loopw [6] (fun vi wr => ∃ (j : Nat), j ≤ k.names.length ∧ vi = .int .i64 j ∧ Hid (∀ x, (hx : x < j) → (h : x < k.names.length) → k.names[x] ≠ nm) ∧ wr = W0) (fun vi _ => k.names.length - (intOf vi).toNat)
  case atStart => exact ⟨0, Nat.zero_le _, rfl, fun x hx => by omega, rfl⟩
  case round =>
    obtain ⟨j, hj, rfl, HE, rfl⟩ := hrel
    by_cases hlt : j < k.names.length
    · obtain ⟨nb, no, rfl, hpn, hcn, -⟩ := unhide HNC j hlt
      have en : wr.cell? ⟨nb, no + j, none⟩ = some (.string k.names[j]) := by rw [(unhide HBW).cell (Nat.lt_of_lt_of_le (unhide HP nb hpn) (unhide HB0).size), (unhide HB0).cell (unhide HP nb hpn)]; exact hcn
      by_cases hne : k.names[j] = nm
      · have hlt2 : j < k.kids.length := by rw [unhide HL]; exact hlt
        have hkn := kidN_some hlt hlt2 hne (fun x hx => unhide HE x hx (by omega))
        obtain ⟨zb, zo, ⟨z0, z1, z2⟩, rfl, hpz, hcz, hrz⟩ := unhide HKS j hlt2
        have hcz' := (hcz.carry ((unhide HB0).block zb (unhide HP zb hpz))).carry ((unhide HBW).block zb (Nat.lt_of_lt_of_le (unhide HP zb hpz) (unhide HB0).size))
        obtain ⟨f0, -, ⟨a9, cap9, f1, -⟩, b9, cbp9, f2, -⟩ := hrz.open
        simp only at f0 f1 f2
        subst f0 f1 f2
        obtain ⟨y0, y1, y2⟩ := hcz'
        simp only at y0 y1 y2
        have hG : KdG P w0 k nm (.int .i64 k.kids[j].sort) (.slice a9 k.kids[j].names.length cap9) (.slice b9 k.kids[j].kids.length cbp9) true := Or.inl ⟨k.kids[j], a9, b9, cap9, cbp9, rfl, hkn, List.getElem_mem _, rfl, rfl, rfl, hrz⟩
        have HG := hide hG
        rw [hne] at en
        have hzl : zb < w.heap.size := Nat.lt_of_lt_of_le (unhide HP zb hpz) (unhide HB0).size
        have hne1 : zb ≠ w.heap.size + 1 := by omega
        have hne2 : w.heap.size + 1 ≠ zb := by omega
        have hjj : j * 3 + 1 = j * 3 + 1 := rfl
        generalize k.kids[j] = x at *
        clear hcn hpn hne hkn hcz hrz hG hjj
        go_wp2_with fail
        refine bodyPost_ret (v := .tuple #[.agg #[.int .i64 x.sort, .slice a9 x.names.length cap9, .slice b9 x.kids.length cbp9], .bool true]) (by simp [results, Tryz.results51, go_sem, m0, m1, m2]) rfl ?_
        exact ⟨(((unhide HBW).setCell (by simp) _).setCell (by simp) _).setCell (by simp) _, _, _, _, _, rfl, unhide HG⟩
      · have HE2 : Hid (∀ x, (hx : x < j + 1) → (h : x < k.names.length) → k.names[x] ≠ nm) := fun x hx h => by
          by_cases e : x = j
          · subst e; exact hne
          · exact unhide HE x (by omega) h
        have hnb : (k.names[j].toList == nm.toList) = false := by rw [lst_beq]; exact decide_eq_false hne
        generalize k.names[j] = nm2 at *
        clear hcn hpn hne
        go_wp2_with fail
        go_roundw
        case rel => exact ⟨j + 1, by omega, by go_num, HE2, by first | rfl | trivial⟩
        case measure => simp [intOf]; omega
    · have hkn : kidN k nm = none := kidN_none (fun hm => by
        obtain ⟨i, hi, e⟩ := List.mem_iff_getElem.1 hm
        exact unhide HE i (by omega) hi e)
      have HG : Hid (KdG P w0 k nm (.int .i64 0) (.slice none 0 0) (.slice none 0 0) false) := Or.inr ⟨rfl, hkn, rfl, rfl, rfl⟩
      obtain rfl : j = k.names.length := by omega
      clear hkn
      go_wp2_with fail
      refine bodyPost_ret (v := .tuple #[.agg #[.int .i64 0, .slice none 0 0, .slice none 0 0], .bool false]) (by simp [results, Tryz.results51, go_sem, m0, m1, m2]) rfl ?_
      exact ⟨(((unhide HBW).setCell (by simp) _).setCell (by simp) _).setCell (by simp) _, _, _, _, _, rfl, unhide HG⟩
end Go.Proofs.YtcpfelaffclalaaGreatDoor

/- Small laws of lists of strings, of a cell that is set. No program walked but one fact of its types; no conditions. -/

namespace Go.Proofs.YtcpfelaffclalaaGreatDoor
open Go Go.RowKit

theorem wS_take (ss : List ByteArray) (k : Nat) (h : k < ss.length) : wS (ss.take (k + 1)) = wS (ss.take k) + ss[k].size + 1 := by
  induction ss generalizing k with
  | nil => simp at h
  | cons a r ih =>
    cases k with
    | zero => simp [wS]
    | succ k => simp only [List.take_succ_cons, wS, List.getElem_cons_succ]; rw [ih k (by simpa using h)]; omega

theorem infoString : (Tryz.prog.info? 9).map (fun i => (i.zero, i.size, i.bytes)) = some (some (.string ByteArray.empty), 1, 16) := by kernel_rfl
theorem size_setCell (w : World) (a : Addr) (v : Value) : (w.setCell a v).heap.size = w.heap.size := by simp [World.setCell]
end Go.Proofs.YtcpfelaffclalaaGreatDoor

/- Names with the places at which they stand, in a map of the call's own. No conditions. -/

namespace Go.Proofs.YtcpfelaffclalaaGreatDoor
open Go Go.RowKit Go.WideMaps Go.Maps

end Go.Proofs.YtcpfelaffclalaaGreatDoor

/- The walks of newNameOrder and of nameOrder's hasJust: names with the places at which they stand, in a map of the call's own; whether names are among them, as many. No conditions but the number of names, at most 2^20. -/

namespace Go.Proofs.YtcpfelaffclalaaGreatDoor
open Go Go.RowKit Go.WideMaps Go.Maps

end Go.Proofs.YtcpfelaffclalaaGreatDoor

/- A schema whose kids are found by their names, as it lies in memory: four cells, the third a map. Definitions and small laws; no program walked, no conditions. -/

namespace Go.Proofs.YtcpfelaffclalaaGreatDoor
open Go Go.RowKit Go.Maps

end Go.Proofs.YtcpfelaffclalaaGreatDoor

/- The walk of nameKind: of a schema and its kids with named kids it makes the schema with named kids. No conditions but the number of names, at most 2^20. -/

namespace Go.Proofs.YtcpfelaffclalaaGreatDoor
open Go Go.RowKit Go.Maps

end Go.Proofs.YtcpfelaffclalaaGreatDoor

/- The walker over schemas: walkOn, walk's closure and walk itself: they hand a node and all below it to whoever listens, a node ahead of its kids, and turn nothing that was there. No conditions but a bound on the levels. -/

namespace Go.Proofs.YtcpfelaffclalaaGreatDoor
open Go Go.RowKit Go.Shelf

attribute [local go_sem] Oper.semAt_some

/-- A schema that lies in a world, with a level. -/
abbrev KX (n₀ : Nat) (w0 : World) := { x : Int × Kd × C3 // KRep (fun b => b < n₀) w0 x.2.1 x.2.2 }
def kKey {n₀ : Nat} {w0 : World} (x : KX n₀ w0) : Int × Kd := (x.1.1, x.1.2.1)
def kEnc {n₀ : Nat} {w0 : World} (x : KX n₀ w0) : Array Value := #[.int .i64 x.1.1, .agg #[x.1.2.2.c0, x.1.2.2.c1, x.1.2.2.c2]]

/-- Nothing below n₀ has turned, and no cells but those of which S holds. -/
structure Kept (n₀ : Nat) (S : Nat → Prop) (W W' : World) : Prop where
  below : Below n₀ W W'
  same : ∀ k (o : Obj), ¬ S k → W.heap[k]? = some o → o.isCells = true → W'.heap[k]? = some o

theorem Kept.trans {n₀ : Nat} {S : Nat → Prop} {A B C : World} (h : Kept n₀ S A B) (k : Kept n₀ S B C) : Kept n₀ S A C :=
  ⟨h.below.trans k.below, fun i o hs hi ho => k.same i o hs (h.same i o hs hi ho) ho⟩
theorem Kept.grown {n₀ : Nat} {S : Nat → Prop} {A B : World} (hg : A.grownBy B none) (hn : n₀ ≤ A.heap.size) : Kept n₀ S A B :=
  ⟨(Below.refl _ _).grown hg hn (fun k e => by cases e), fun k o _ hk _ => (hg.block k (Array.getElem?_eq_some_iff.1 hk).1 (by simp)).trans hk⟩
theorem Kept.putObj {n₀ : Nat} {S : Nat → Prop} {w : World} (hn : n₀ ≤ w.heap.size) (W : World) (l : Nat) (o o' : Obj) (hl : w.heap.size ≤ l) (h : W.heap[l]? = some o) (hc : o.isCells = false) (hw : o.isWalk = false) : Kept n₀ S W (W.putObj l o') :=
  ⟨belowK_b hn W l o o' hl h hc hw, fun k o2 _ hk hc2 => (World.putObj_heap_other (fun e => by subst e; rw [h] at hk; cases hk; rw [hc] at hc2; cases hc2)).trans hk⟩

theorem depth_any {F : Fence} (hd : F.depth = none) (k : Nat) : F.room k := fun d h => by rw [hd] at h; cases h
theorem round_any {F : Fence} (hd : F.depth = none) {m m' : Nat} {P : Program} {l : Nat} {f : FuncId} {tmps : Array Value} {assign body : Code} {w : World} {R : Ending → World → Prop}
    (h : RoundIn F m P l f tmps assign body w R) : RoundIn F m' P l f tmps assign body w R := ⟨h.1, fun c cs _ => h.2 c cs (depth_any hd _)⟩
theorem yield_any {F : Fence} (hd : F.depth = none) {m : Nat} (m' : Nat) {P : Program} {l : Nat} {args : Array Value} {W : World} {R : Ending → World → Prop} (h : YieldAt F m P l args W R) : YieldAt F m' P l args W R := by
  obtain ⟨fn, tmps, assign, body, hy, hR⟩ := h
  exact ⟨fn, tmps, assign, body, hy, round_any hd hR⟩

theorem pordK_take (ks : List Kd) (k : Nat) (h : k < ks.length) (l : Int) : pordK (ks.take (k + 1)) l = pordK (ks.take k) l ++ pord ks[k] l := by
  induction ks generalizing k with
  | nil => simp at h
  | cons a r ih =>
    cases k with
    | zero => simp [pordK]
    | succ k => simp only [List.take_succ_cons, pordK, List.getElem_cons_succ]; rw [ih k (by simpa using h), List.append_assoc]

theorem pordK_take_pre (ks : List Kd) (k : Nat) (l : Int) : pordK (ks.take k) l <+: pordK ks l := by
  induction ks generalizing k with
  | nil => simp [pordK]
  | cons a r ih =>
    cases k with
    | zero => simp [pordK]
    | succ k => simp only [List.take_succ_cons, pordK]; exact (List.prefix_append_right_inj _).2 (ih k)

set_option maxHeartbeats 1000000 in
theorem kids_in (F : Fence) (n : Nat) (hf : F.fn 181) (hro : F.round = none) (c0 c1 : Value) (a : Option Addr) (len cap : Nat) (w : World) :
    CallsIn F n Tryz.prog 181 #[.agg #[c0, c1, .slice a len cap]] w fun e w' => e = .returned (.slice a len cap) ∧ w' = w.alloc (.cells #[c0, c1, .slice a len cap] 30) := by
  refine callsIn_of_wp Tryz.func181 rfl hf ?_ hro
  simp only [Tryz.ntmps181, List.size_toArray, List.length_cons, List.length_nil, Nat.reduceAdd, Nat.reduceSub, Array.replicate_succ, Array.replicate_zero, List.push_toArray, List.append_toArray, List.nil_append, List.cons_append]
  gi_wp2
  go_ret
  exact ⟨rfl, rfl⟩

def WalkSaid (F : Fence) (l n₀ N M : Nat) (S : Nat → Prop) (w0 : World) (J Jx : List (KX n₀ w0) → World → Prop) (sz : Nat) : Prop :=
  ∀ (T : Kd), ksz T < sz → ∀ (n : Nat) (c : C3) (lv : Int) (pre : List (KX n₀ w0)) (W : World), KRep (fun b => b < n₀) w0 T c → Below n₀ w0 W → M ≤ W.heap.size → J pre W → pre.length + (pord T lv).length ≤ N → 0 ≤ lv → lv + ksz T ≤ 1152921504606846976 →
    CallsIn F n Tryz.prog 109 #[.agg #[c.c0, c.c1, c.c2], .int .i64 lv, .func (.yield l) #[] #[]] W fun e W' =>
      (e = .returned (.bool true) ∧ ∃ q : List (KX n₀ w0), q.map kKey = pord T lv ∧ J (pre ++ q) W' ∧ Kept n₀ S W W') ∨ (e = .returned (.bool false) ∧ ∃ q : List (KX n₀ w0), q.map kKey <+: pord T lv ∧ Jx (pre ++ q) W')

set_option maxRecDepth 100000 in
set_option maxHeartbeats 2000000 in
theorem walkOn_step (F : Fence) (hd : F.depth = none) (hf : F.fn 109) (hk : F.fn 181) (hro : F.round = none) (l n₀ N M : Nat) (S : Nat → Prop) (w0 : World) (hn₀ : n₀ ≤ w0.heap.size)
    (J Jx : List (KX n₀ w0) → World → Prop) (hJ : ∀ s A B, J s A → A.grownBy B none → J s B) (hS : ∀ k, S k → k < M)
    (hY : ∀ m pre (x : KX n₀ w0) W, J pre W → pre.length < N → YieldAt F m Tryz.prog l (kEnc x) W fun e W' =>
      (e = .returned (.bool true) ∧ J (pre ++ [x]) W' ∧ Kept n₀ S W W') ∨ (e = .returned (.bool false) ∧ Jx (pre ++ [x]) W')) (sz : Nat)
    (IH : WalkSaid F l n₀ N M S w0 J Jx sz) : WalkSaid F l n₀ N M S w0 J Jx (sz + 1) := by
  intro T hT n c lv pre W hrep hb hMW hJp hN h0 hlv
  obtain ⟨c0, c1, c2⟩ := c
  have hrep' := hrep
  obtain ⟨e0, -, ⟨a3, cap3, e1, hl3, -⟩, a, cap, e2, hlen, hks⟩ := hrep.open
  simp only at e0 e1 e2
  subst e0 e1 e2
  have hdd : ∀ k : Nat, (F.depth.isSome = true → 1 ≤ k) := fun k h => by rw [hd] at h; cases h
  obtain ⟨x, hx⟩ : ∃ x : KX n₀ w0, x = ⟨(lv, T, ⟨.int .i64 T.sort, .slice a3 T.names.length cap3, .slice a T.kids.length cap⟩), hrep'⟩ := ⟨_, rfl⟩
  have hxk : kKey x = (lv, T) := by rw [hx]; rfl
  have hxe : kEnc x = #[.int .i64 lv, .agg #[.int .i64 T.sort, .slice a3 T.names.length cap3, .slice a T.kids.length cap]] := by rw [hx]; rfl
  have hsz := hb.size
  have hpl : 0 < (pord T lv).length := by rw [pord_eq]; simp
  have hg0 := World.grownBy_alloc W (.cells #[.int .i64 T.sort, .slice a3 T.names.length cap3, .slice a T.kids.length cap] 30) none
  have hJ0 := hJ pre _ _ hJp hg0
  have hK0 : Kept n₀ S W (W.alloc (.cells #[.int .i64 T.sort, .slice a3 T.names.length cap3, .slice a T.kids.length cap] 30)) := Kept.grown hg0 (by omega)
  have hSW : ¬ S W.heap.size := fun h => by have := hS _ h; omega
  have hr0 := row3_alloc W (.int .i64 T.sort) (.slice a3 T.names.length cap3) (.slice a T.kids.length cap) 30
  obtain ⟨fn, tmps, assign, body, hy, hR⟩ := YieldAt.mono (R' := fun e W1 => (e = .returned (.bool true) ∧ Hid (J (pre ++ [x]) W1) ∧ Hid (Kept n₀ S W W1) ∧ W1.cell? ⟨W.heap.size, 0, none⟩ = some (.int .i64 T.sort) ∧ W1.cell? ⟨W.heap.size, 1, none⟩ = some (.slice a3 T.names.length cap3) ∧ W1.cell? ⟨W.heap.size, 2, none⟩ = some (.slice a T.kids.length cap)) ∨ (e = .returned (.bool false) ∧ Hid (Jx (pre ++ [x]) W1)))
    (hY (n - 1) pre x _ hJ0 (by omega)) (fun e W1 h => h.elim (fun ⟨he, hj, hb1⟩ => by
      have q1 := hr0.of_block ((hb1.same W.heap.size _ hSW (World.alloc_heap_new W _) rfl).trans (World.alloc_heap_new W _).symm)
      exact .inl ⟨he, hj, hK0.trans hb1, q1.cell (i := 0) (by omega), q1.cell (i := 1) (by omega), q1.cell (i := 2) (by omega)⟩) (fun ⟨he, hj⟩ => .inr ⟨he, hj⟩))
  rw [hxe] at hy
  have HKS := hide hks; have HI := hide IH; have HB := hide hb; have HJ := hide hJ; have HN := hide hN; have HX := hide hxk; have HREP := hide hrep'; have HYY := hide hY
  clear hx hxe hg0 hJ0 hK0 hks IH hb hJ hSW hN hxk hrep' hrep hY hS hJp hr0 hsz
  have hm : ∀ w, (method 364 30 (.agg #[.int .i64 T.sort, .slice a3 T.names.length cap3, .slice a T.kids.length cap]) "loop.example/teagle/impl.kids").run Tryz.prog w = .ok (181, .agg #[.int .i64 T.sort, .slice a3 T.names.length cap3, .slice a T.kids.length cap]) w := fun _ => by kernel_rfl
  refine callsIn_of_wp Tryz.func109 rfl hf ?_ hro
  simp only [Tryz.ntmps109, List.size_toArray, List.length_cons, List.length_nil, Nat.reduceAdd, Nat.reduceSub, Array.replicate_succ, Array.replicate_zero, List.push_toArray, List.append_toArray, List.nil_append, List.cons_append]
  gi_wp2_with (first
    | ((try refine ⟨hdd _, ?_⟩); refine hR.mono ?_; clear hR hy; rintro e W1 (⟨rfl, HJ1, HK1, k0, k1, k2⟩ | ⟨rfl, HX1⟩))
    | ((try refine ⟨hdd _, ?_⟩); gi_at_call 181; refine (kids_in F (n - 1) hk hro _ _ _ _ _ _).mono ?_; rintro e w' ⟨rfl, rfl⟩))
  · clear hpl hm k0 k1 k2
    have hJL := unhide HJ _ _ _ (unhide HJ1) (World.grownBy_alloc W1 (.cells #[.int .i64 T.sort, .slice a3 T.names.length cap3, .slice a T.kids.length cap] 30) none)
    have hsW : n₀ ≤ W.heap.size := Nat.le_trans hn₀ (unhide HB).size
    have hsW1 := (unhide HK1).below.size
    have hKL : Kept n₀ S W (W1.alloc (.cells #[.int .i64 T.sort, .slice a3 T.names.length cap3, .slice a T.kids.length cap] 30)) := (unhide HK1).trans (Kept.grown (World.grownBy_alloc _ _ none) (by omega))
    have HJL := hide hJL; have HKL := hide hKL
    clear hJL hKL HJ1 HK1
    generalize hks : T.kids = ks at *
    have HKE := hide hks; clear hks
    gi_loopw [18] (fun i wr => ∃ (k : Nat) (q : List (KX n₀ w0)), k ≤ ks.length ∧ i = .int .i64 k ∧ Hid (q.map kKey = (lv, T) :: pordK (ks.take k) (lv + 1)) ∧ Hid (J (pre ++ q) wr) ∧ Hid (Kept n₀ S W wr)) (fun i _ => ks.length - (intOf i).toNat)
    case atStart => exact ⟨0, [x], Nat.zero_le _, rfl, by simp [Hid, pordK, unhide HX], unhide HJL, unhide HKL⟩
    case round =>
      obtain ⟨k, q, hk', rfl, HQ, HJQ, HKQ⟩ := hrel
      by_cases hlt : k < ks.length
      · obtain ⟨b, o, c, rfl, hbn, hat, hrepk⟩ := unhide HKS k hlt
        have hbw := (unhide HB).trans HKQ.out.below
        have hat' := hat.carry (hbw.block b hbn)
        obtain ⟨d0, d1, d2⟩ := c
        have hrepk' := hrepk
        obtain ⟨g0, -, ⟨a5, cap5, g1, -⟩, a6, cap6, g2, -⟩ := hrepk.open
        simp only at g0 g1 g2
        subst g0 g1 g2
        obtain ⟨e0, e1, e2⟩ := hat'
        simp only at e0 e1 e2
        have hmem : ks[k] ∈ T.kids := by rw [unhide HKE]; exact List.getElem_mem hlt
        have hsm : ksz ks[k] < sz := by have := ksz_kid hmem; omega
        have hsm' : ksz ks[k] < ksz T := ksz_kid hmem
        have hnext : q.map kKey ++ pord ks[k] (lv + 1) = (lv, T) :: pordK (ks.take (k + 1)) (lv + 1) := by rw [HQ.out, pordK_take ks k hlt]; simp
        have hpre : q.map kKey ++ pord ks[k] (lv + 1) <+: pord T lv := by
          rw [hnext, pord_eq, unhide HKE]
          exact (List.prefix_cons_inj _).2 (pordK_take_pre ks (k + 1) (lv + 1))
        have hlenq : pre.length + (q.length + (pord ks[k] (lv + 1)).length) ≤ N := by
          have h1 := hpre.length_le
          simp only [List.length_append, List.length_map] at h1
          have h2 := unhide HN
          omega
        have hgw := World.grownBy_alloc wr (.cells #[.int .i64 ks[k].sort, .slice a5 ks[k].names.length cap5, .slice a6 ks[k].kids.length cap6] 30) none
        have hsWr : n₀ ≤ wr.heap.size := Nat.le_trans hsW HKQ.out.below.size
        have hcall := fun m => unhide HI ks[k] hsm m ⟨.int .i64 ks[k].sort, .slice a5 ks[k].names.length cap5, .slice a6 ks[k].kids.length cap6⟩ (lv + 1) (pre ++ q) _ hrepk' (hbw.trans ((Below.refl n₀ wr).grown hgw hsWr (fun k e => by cases e))) (by have h1 := HKQ.out.below.size; have h2 := hgw.size; omega) (unhide HJ _ _ _ HJQ.out hgw) (by rw [List.length_append]; omega) (by omega) (by omega)
        have HCALL := hide hcall
        have HKN := hide (HKQ.out.trans (Kept.grown (S := S) hgw hsWr))
        have HNX := hide hnext; have HPR := hide hpre
        clear hcall hgw hnext hpre hlenq hmem hrepk hrepk' hat hbw hbn hsm
        gi_wp2_with ((try refine ⟨hdd _, ?_⟩); gi_at_call 109; refine (unhide HCALL _).mono ?_; clear HCALL; rintro e W2 (⟨rfl, q2, hq2, hJ2, hk2⟩ | ⟨rfl, q2, hq2, hx2⟩))
        · go_roundw
          case rel =>
            refine ⟨k + 1, q ++ q2, by omega, by go_num, ?_, ?_, (unhide HKN).trans hk2⟩
            · show _ = _
              rw [List.map_append, hq2]; exact unhide HNX
            · show J _ _
              rw [← List.append_assoc]; exact hJ2
          case measure => simp [intOf]; omega
        · go_ret
          refine .inr ⟨rfl, q ++ q2, ?_, by rw [← List.append_assoc]; exact hx2⟩
          rw [List.map_append]
          exact ((List.prefix_append_right_inj _).2 hq2).trans (unhide HPR)
      · gi_wp2
        go_ret
        obtain rfl : k = ks.length := by omega
        refine .inl ⟨rfl, q, ?_, HJQ.out, HKQ.out⟩
        rw [HQ.out, List.take_length, pord_eq, unhide HKE]
  · go_ret
    exact .inr ⟨rfl, [x], by rw [pord_eq]; simp [unhide HX], unhide HX1⟩

theorem walkOn_all (F : Fence) (hd : F.depth = none) (hf : F.fn 109) (hk : F.fn 181) (hro : F.round = none) (l n₀ N M : Nat) (S : Nat → Prop) (w0 : World) (hn₀ : n₀ ≤ w0.heap.size)
    (J Jx : List (KX n₀ w0) → World → Prop) (hJ : ∀ s A B, J s A → A.grownBy B none → J s B) (hS : ∀ k, S k → k < M)
    (hY : ∀ m pre (x : KX n₀ w0) W, J pre W → pre.length < N → YieldAt F m Tryz.prog l (kEnc x) W fun e W' =>
      (e = .returned (.bool true) ∧ J (pre ++ [x]) W' ∧ Kept n₀ S W W') ∨ (e = .returned (.bool false) ∧ Jx (pre ++ [x]) W')) : ∀ sz, WalkSaid F l n₀ N M S w0 J Jx sz
  | 0 => fun T h => by omega
  | sz + 1 => walkOn_step F hd hf hk hro l n₀ N M S w0 hn₀ J Jx hJ hS hY sz (walkOn_all F hd hf hk hro l n₀ N M S w0 hn₀ J Jx hJ hS hY sz)

set_option maxHeartbeats 1000000 in
/-- walk hands back a closure over a box that holds the schema. -/
theorem walk_in (F : Fence) (n : Nat) (hf : F.fn 79) (hro : F.round = none) (c0 c1 : Value) (a : Option Addr) (len cap : Nat) (w : World) :
    CallsIn F n Tryz.prog 79 #[.agg #[c0, c1, .slice a len cap]] w fun e w' => e = .returned (.func (.func 108) #[] #[.pointer (some ⟨w.heap.size, 0, none⟩)]) ∧ w' = w.alloc (.cells #[c0, c1, .slice a len cap] 30) := by
  refine callsIn_of_wp Tryz.func79 rfl hf ?_ hro
  simp only [Tryz.ntmps79, List.size_toArray, List.length_cons, List.length_nil, Nat.reduceAdd, Nat.reduceSub, Array.replicate_succ, Array.replicate_zero, List.push_toArray, List.append_toArray, List.nil_append, List.cons_append]
  gi_wp2
  go_ret
  exact ⟨rfl, rfl⟩

set_option maxHeartbeats 1000000 in
theorem walk1_in (F : Fence) (hd : F.depth = none) (n : Nat) (h1 : F.fn 108) (hf : F.fn 109) (hk : F.fn 181) (hro : F.round = none) (l Bt n₀ M : Nat) (S : Nat → Prop) (w0 : World) (hn₀ : n₀ ≤ w0.heap.size)
    (T : Kd) (c : C3) (hrep : KRep (fun b => b < n₀) w0 T c) (hlv : ksz T ≤ 1152921504606846970) (J Jx : List (KX n₀ w0) → World → Prop) (hJ : ∀ s A B, J s A → A.grownBy B none → J s B) (hS : ∀ k, S k → k < M)
    (hY : ∀ pre (x : KX n₀ w0) W, J pre W → pre.length < (pord T 1).length → YieldAt F (n - 1) Tryz.prog l (kEnc x) W fun e W' =>
      (e = .returned (.bool true) ∧ J (pre ++ [x]) W' ∧ Kept n₀ S W W') ∨ (e = .returned (.bool false) ∧ Jx (pre ++ [x]) W'))
    (W : World) (hBt : C3.at W Bt 0 c) (hb : Below n₀ w0 W) (hMW : M ≤ W.heap.size) (h0 : J [] W) :
    CallsIn F n Tryz.prog 108 #[.func (.yield l) #[] #[], .pointer (some ⟨Bt, 0, none⟩)] W fun e W' => (∃ v, e = .returned v) ∧
      ((∃ ys : List (KX n₀ w0), ys.map kKey = pord T 1 ∧ J ys W') ∨ (∃ pre : List (KX n₀ w0), pre.map kKey <+: pord T 1 ∧ Jx pre W')) := by
  have hdd : ∀ k : Nat, (F.depth.isSome = true → 1 ≤ k) := fun k h => by rw [hd] at h; cases h
  have hp := walkOn_all F hd hf hk hro l n₀ (pord T 1).length M S w0 hn₀ J Jx hJ hS (fun m pre x W hj hl => yield_any hd m (hY pre x W hj hl)) (ksz T + 1) T (by omega) (n - 1) c 1 [] W hrep hb hMW h0 (by simp) (by omega) (by omega)
  obtain ⟨c0, c1, c2⟩ := c
  obtain ⟨e0, e1, e2⟩ := hBt
  simp only at e0 e1 e2 hp
  have HP := hide hp
  clear hp hrep hY hS hJ hb
  refine callsIn_of_wp Tryz.func108 rfl h1 ?_ hro
  simp only [Tryz.ntmps108, List.size_toArray, List.length_cons, List.length_nil, Nat.reduceAdd, Nat.reduceSub, Array.replicate_succ, Array.replicate_zero, List.push_toArray, List.append_toArray, List.nil_append, List.cons_append]
  gi_wp2_with ((try refine ⟨hdd _, ?_⟩); gi_at_call 109; refine (unhide HP).mono ?_; clear HP; rintro e W1 (⟨rfl, q, hq, hJ1, _⟩ | ⟨rfl, q, hq, hx⟩))
  · go_end0
    exact ⟨⟨_, rfl⟩, .inl ⟨q, hq, by simpa using hJ1⟩⟩
  · go_end0
    exact ⟨⟨_, rfl⟩, .inr ⟨q, hq, by simpa using hx⟩⟩

end Go.Proofs.YtcpfelaffclalaaGreatDoor

/- The walk of gather with nameKind: of a schema it makes the schema with named kids, in new blocks beside those of the schema itself. For weights up to 2^20 and up to 10^6 parts. -/

namespace Go.Proofs.YtcpfelaffclalaaGreatDoor
open Go Go.RowKit Go.Maps

end Go.Proofs.YtcpfelaffclalaaGreatDoor
