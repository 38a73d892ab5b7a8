/- The walk of nameKind: of a schema and its kids with named kids it makes the schema with named kids. No conditions but the number of names, at most 2^20. -/
import Derived.Test.YtcpfelaffclalaaGreatDoorPart01
import Derived.RangeFuncNested
import Derived.RangeFuncBound
import Derived.RangeFuncCalls
import Derived.RangeFuncLeaves
import Derived.Shelf.Abstract
import Derived.Shelf.RegionOpen
import Derived.WalkKit
import Derived.OwnWalkIn
import Derived.TacticsInMore
import Derived.LoopNIn
import Derived.LoopIn
import Derived.Test.YtcpfelaffclalaaGreatDoorPart00
import Derived.Test.YtcpfelaffclalaaGreatDoorRows
namespace Go.Proofs.YtcpfelaffclalaaGreatDoor
open Go Go.RowKit Go.Maps

def row4 (c0 c1 c2 c3 : Value) : Nat → Value
  | 0 => c0
  | 1 => c1
  | 2 => c2
  | _ => c3
theorem row4_alloc (w : World) (c0 c1 c2 c3 : Value) (t : TypeId) : (w.alloc (.cells #[c0, c1, c2, c3] t)).rowIs w.heap.size t 4 (row4 c0 c1 c2 c3) :=
  World.rowIs_alloc w #[c0, c1, c2, c3] t _ (fun i hi => by
    have hi' : i < 4 := hi
    match i, hi' with
    | 0, _ => rfl
    | 1, _ => rfl
    | 2, _ => rfl
    | 3, _ => rfl)
theorem heap_set4n (w : World) (b : Nat) (c0 c1 c2 c3 : Value) (k : Nat) (h : k ≠ b) :
    ((((w.setCell ⟨b, 0, none⟩ c0).setCell ⟨b, 1, none⟩ c1).setCell ⟨b, 2, none⟩ c2).setCell ⟨b, 3, none⟩ c3).heap[k]? = w.heap[k]? := by
  rw [Below.heap_setCell _ _ _ _ h, Below.heap_setCell _ _ _ _ h, Below.heap_setCell _ _ _ _ h, Below.heap_setCell _ _ _ _ h]
theorem size_set4 (w : World) (b : Nat) (c0 c1 c2 c3 : Value) :
    ((((w.setCell ⟨b, 0, none⟩ c0).setCell ⟨b, 1, none⟩ c1).setCell ⟨b, 2, none⟩ c2).setCell ⟨b, 3, none⟩ c3).heap.size = w.heap.size := by simp [World.setCell]
theorem below_set4 {B : Nat} {a w : World} (h : Below B a w) (b : Nat) (c0 c1 c2 c3 : Value) (hb : B ≤ b) :
    Below B a ((((w.setCell ⟨b, 0, none⟩ c0).setCell ⟨b, 1, none⟩ c1).setCell ⟨b, 2, none⟩ c2).setCell ⟨b, 3, none⟩ c3) :=
  (((h.setCell hb _).setCell hb _).setCell hb _).setCell hb _

/-- Of old blocks those of which P holds, and all new ones. -/
def OrNew (P : Nat → Prop) (n : Nat) (w' : World) : Nat → Prop := fun b => P b ∨ (n ≤ b ∧ b < w'.heap.size)

set_option maxRecDepth 100000 in
set_option maxHeartbeats 800000 in
theorem nameKind_any (t : Kd) (P : Nat → Prop) (c : C3) (vK : Value) (w : World) (hP : ∀ b, P b → b < w.heap.size) (hrep : KRep P w t c) (hK : NKids P w vK t.kids) (hn : t.names.length ≤ 1048576) :
    Calls Tryz.prog 64 #[.agg #[c.c0, c.c1, c.c2], vK] w fun e w' => ∃ B, e = .returned (.agg #[c.c0, c.c1, .map (some B), vK]) ∧ NRep (OrNew P w.heap.size w') w' t ⟨c.c0, c.c1, .map (some B), vK⟩ ∧ Below w.heap.size w w' := by
  obtain ⟨c0, c1, c2⟩ := c
  obtain ⟨e0, hi0, hns, a, cap, e2, -, -⟩ := hrep.open
  simp only at e0 e2 hns
  have HNS := hide hns; have HK := hide hK
  obtain ⟨a3, cap3, e1, -, -⟩ := hns
  obtain ⟨a4, cap4, e4, -, -⟩ := hK
  subst e0 e1 e2 e4
  obtain ⟨W0, hW0⟩ : ∃ W0, ((w.alloc (.cells #[.int .i64 t.sort, .slice a3 t.names.length cap3, .slice a t.kids.length cap] 30)).alloc (.cells #[.int .i64 0, .slice none 0 0, .map none, .slice none 0 0] 104)) = W0 := ⟨_, rfl⟩
  have hb0 : Below w.heap.size w W0 := by rw [← hW0]; exact ((Below.refl _ _).alloc (Nat.le_refl _) _).alloc (by simp) _
  have hs0 : W0.heap.size = w.heap.size + 2 := by rw [← hW0]; simp
  have hrk : W0.rowIs w.heap.size 30 3 (row3 (.int .i64 t.sort) (.slice a3 t.names.length cap3) (.slice a t.kids.length cap)) := by rw [← hW0]; exact (row3_alloc w _ _ _ _).alloc _
  have hrn : W0.rowIs (w.heap.size + 1) 104 4 (row4 (.int .i64 0) (.slice none 0 0) (.map none) (.slice none 0 0)) := by
    rw [← hW0]
    have q := row4_alloc (w.alloc (.cells #[.int .i64 t.sort, .slice a3 t.names.length cap3, .slice a t.kids.length cap] 30)) (.int .i64 0) (.slice none 0 0) (.map none) (.slice none 0 0) 104
    rw [World.size_alloc] at q
    exact q
  have hcall := newNameOrder_any (.slice a3 t.names.length cap3) t.names W0.drew (P := P) (fun b hb => Nat.lt_of_lt_of_le (hP b hb) hb0.drew.size) ((unhide HNS).carry (w' := W0.drew) (fun b hb => hb0.drew.block b (hP b hb)) (fun _ h => h)) hn
  have k0 := hrk.cell (i := 0) (by omega); have k1 := hrk.cell (i := 1) (by omega)
  simp only [row3] at k0 k1
  have HCALL := hide hcall; have HRK := hide hrk; have HRN := hide hrn; have HB0 := hide hb0; have HP := hide hP; have HI0 := hide hi0
  clear hcall hrk hrn hb0 hP hi0 hrep
  go_enter Tryz.func64, Tryz.ntmps64
  go_wp2_with fail
  go_region_with (go_at_call 99; refine (unhide HCALL).mono ?_; rintro e w2 ⟨B, rfl, hm, hBl, hb2⟩; have hs2 : W0.heap.size ≤ w2.heap.size := hb2.size; have q0 := (unhide HRK).of_block (hb2.block w.heap.size (by show w.heap.size < W0.heap.size; omega)); have q1 := (unhide HRN).of_block (hb2.block (w.heap.size + 1) (by show _ < W0.heap.size; omega)); have k0' := q0.cell (i := 0) (by omega); have k1' := q0.cell (i := 1) (by omega); have z := q1.frozen; have y0 := q1.cell (i := 0) (by omega); have y1 := q1.cell (i := 1) (by omega); have y2 := q1.cell (i := 2) (by omega); have y3 := q1.cell (i := 3) (by omega); simp only [row3, row4] at k0' k1' y0 y1 y2 y3; have HM := hide hm; have HB2 := hide ((unhide HB0).drew.trans (hb2.mono (unhide HB0).size)); clear q0 q1 hm hb2)
  all_goals
    go_wp2_with fail
    have hBl' : w.heap.size + 2 ≤ B := by have h : W0.heap.size ≤ B := hBl; omega
    have hBlt := (unhide HM).lt
    have hbk : ∀ b, P b → ((((w2.setCell ⟨w.heap.size + 1, 0, none⟩ (.int .i64 t.sort)).setCell ⟨w.heap.size + 1, 1, none⟩ (.slice a3 t.names.length cap3)).setCell ⟨w.heap.size + 1, 2, none⟩ (.map (some B))).setCell ⟨w.heap.size + 1, 3, none⟩ (.slice a4 t.kids.length cap4)).heap[b]? = w.heap[b]? := fun b hb => by
      have := unhide HP b hb
      rw [heap_set4n _ _ _ _ _ _ _ (by omega)]; exact (unhide HB2).block b this
    refine bodyPost_ret (v := .agg #[.int .i64 t.sort, .slice a3 t.names.length cap3, .map (some B), .slice a4 t.kids.length cap4]) (by simp [results, Tryz.results64, go_sem, y0, y1, y2, y3]) rfl ⟨B, rfl, ?_, ?_⟩
    · refine NRep.make (unhide HI0) ((unhide HNS).carry hbk (fun b hb => Or.inl hb)) (Or.inr ⟨by omega, by rw [size_set4]; exact hBlt⟩) ((unhide HM).carry (heap_set4n _ _ _ _ _ _ _ (by omega))) ((unhide HK).carry hbk (fun b hb => Or.inl hb))
    · exact below_set4 (unhide HB2) _ _ _ _ _ (by omega)
end Go.Proofs.YtcpfelaffclalaaGreatDoor

/- The walker over schemas: walkOn, walk's closure and walk itself: they hand a node and all below it to whoever listens, a node ahead of its kids, and turn nothing that was there. No conditions but a bound on the levels. -/

namespace Go.Proofs.YtcpfelaffclalaaGreatDoor
open Go Go.RowKit Go.Shelf

attribute [local go_sem] Oper.semAt_some

/-- A schema that lies in a world, with a level. -/
abbrev KX (n₀ : Nat) (w0 : World) := { x : Int × Kd × C3 // KRep (fun b => b < n₀) w0 x.2.1 x.2.2 }
def kKey {n₀ : Nat} {w0 : World} (x : KX n₀ w0) : Int × Kd := (x.1.1, x.1.2.1)
def kEnc {n₀ : Nat} {w0 : World} (x : KX n₀ w0) : Array Value := #[.int .i64 x.1.1, .agg #[x.1.2.2.c0, x.1.2.2.c1, x.1.2.2.c2]]

/-- Nothing below n₀ has turned, and no cells but those of which S holds. -/
structure Kept (n₀ : Nat) (S : Nat → Prop) (W W' : World) : Prop where
  below : Below n₀ W W'
  same : ∀ k (o : Obj), ¬ S k → W.heap[k]? = some o → o.isCells = true → W'.heap[k]? = some o

theorem Kept.refl (n₀ : Nat) (S : Nat → Prop) (W : World) : Kept n₀ S W W := ⟨Below.refl _ _, fun _ _ _ h _ => h⟩
theorem Kept.trans {n₀ : Nat} {S : Nat → Prop} {A B C : World} (h : Kept n₀ S A B) (k : Kept n₀ S B C) : Kept n₀ S A C :=
  ⟨h.below.trans k.below, fun i o hs hi ho => k.same i o hs (h.same i o hs hi ho) ho⟩
theorem Kept.grown {n₀ : Nat} {S : Nat → Prop} {A B : World} (hg : A.grownBy B none) (hn : n₀ ≤ A.heap.size) : Kept n₀ S A B :=
  ⟨(Below.refl _ _).grown hg hn (fun k e => by cases e), fun k o _ hk _ => (hg.block k (Array.getElem?_eq_some_iff.1 hk).1 (by simp)).trans hk⟩
theorem Kept.putObj {n₀ : Nat} {S : Nat → Prop} {w : World} (hn : n₀ ≤ w.heap.size) (W : World) (l : Nat) (o o' : Obj) (hl : w.heap.size ≤ l) (h : W.heap[l]? = some o) (hc : o.isCells = false) (hw : o.isWalk = false) : Kept n₀ S W (W.putObj l o') :=
  ⟨belowK_b hn W l o o' hl h hc hw, fun k o2 _ hk hc2 => (World.putObj_heap_other (fun e => by subst e; rw [h] at hk; cases hk; rw [hc] at hc2; cases hc2)).trans hk⟩

theorem depth_any {F : Fence} (hd : F.depth = none) (k : Nat) : F.room k := fun d h => by rw [hd] at h; cases h
theorem round_any {F : Fence} (hd : F.depth = none) {m m' : Nat} {P : Program} {l : Nat} {f : FuncId} {tmps : Array Value} {assign body : Code} {w : World} {R : Ending → World → Prop}
    (h : RoundIn F m P l f tmps assign body w R) : RoundIn F m' P l f tmps assign body w R := ⟨h.1, fun c cs _ => h.2 c cs (depth_any hd _)⟩
theorem yield_any {F : Fence} (hd : F.depth = none) {m : Nat} (m' : Nat) {P : Program} {l : Nat} {args : Array Value} {W : World} {R : Ending → World → Prop} (h : YieldAt F m P l args W R) : YieldAt F m' P l args W R := by
  obtain ⟨fn, tmps, assign, body, hy, hR⟩ := h
  exact ⟨fn, tmps, assign, body, hy, round_any hd hR⟩

theorem pordK_take (ks : List Kd) (k : Nat) (h : k < ks.length) (l : Int) : pordK (ks.take (k + 1)) l = pordK (ks.take k) l ++ pord ks[k] l := by
  induction ks generalizing k with
  | nil => simp at h
  | cons a r ih =>
    cases k with
    | zero => simp [pordK]
    | succ k => simp only [List.take_succ_cons, pordK, List.getElem_cons_succ]; rw [ih k (by simpa using h), List.append_assoc]

theorem pordK_take_pre (ks : List Kd) (k : Nat) (l : Int) : pordK (ks.take k) l <+: pordK ks l := by
  induction ks generalizing k with
  | nil => simp [pordK]
  | cons a r ih =>
    cases k with
    | zero => simp [pordK]
    | succ k => simp only [List.take_succ_cons, pordK]; exact (List.prefix_append_right_inj _).2 (ih k)

set_option maxHeartbeats 1000000 in
theorem kids_in (F : Fence) (n : Nat) (hf : F.fn 181) (hro : F.round = none) (c0 c1 : Value) (a : Option Addr) (len cap : Nat) (w : World) :
    CallsIn F n Tryz.prog 181 #[.agg #[c0, c1, .slice a len cap]] w fun e w' => e = .returned (.slice a len cap) ∧ w' = w.alloc (.cells #[c0, c1, .slice a len cap] 30) := by
  refine callsIn_of_wp Tryz.func181 rfl hf ?_ hro
  simp only [Tryz.ntmps181, List.size_toArray, List.length_cons, List.length_nil, Nat.reduceAdd, Nat.reduceSub, Array.replicate_succ, Array.replicate_zero, List.push_toArray, List.append_toArray, List.nil_append, List.cons_append]
  gi_wp2
  go_ret
  exact ⟨rfl, rfl⟩

def WalkSaid (F : Fence) (l n₀ N M : Nat) (S : Nat → Prop) (w0 : World) (J Jx : List (KX n₀ w0) → World → Prop) (sz : Nat) : Prop :=
  ∀ (T : Kd), ksz T < sz → ∀ (n : Nat) (c : C3) (lv : Int) (pre : List (KX n₀ w0)) (W : World), KRep (fun b => b < n₀) w0 T c → Below n₀ w0 W → M ≤ W.heap.size → J pre W → pre.length + (pord T lv).length ≤ N → 0 ≤ lv → lv + ksz T ≤ 1152921504606846976 →
    CallsIn F n Tryz.prog 109 #[.agg #[c.c0, c.c1, c.c2], .int .i64 lv, .func (.yield l) #[] #[]] W fun e W' =>
      (e = .returned (.bool true) ∧ ∃ q : List (KX n₀ w0), q.map kKey = pord T lv ∧ J (pre ++ q) W' ∧ Kept n₀ S W W') ∨ (e = .returned (.bool false) ∧ ∃ q : List (KX n₀ w0), q.map kKey <+: pord T lv ∧ Jx (pre ++ q) W')

set_option maxRecDepth 100000 in
set_option maxHeartbeats 2000000 in
theorem walkOn_step (F : Fence) (hd : F.depth = none) (hf : F.fn 109) (hk : F.fn 181) (hro : F.round = none) (l n₀ N M : Nat) (S : Nat → Prop) (w0 : World) (hn₀ : n₀ ≤ w0.heap.size)
    (J Jx : List (KX n₀ w0) → World → Prop) (hJ : ∀ s A B, J s A → A.grownBy B none → J s B) (hS : ∀ k, S k → k < M)
    (hY : ∀ m pre (x : KX n₀ w0) W, J pre W → pre.length < N → YieldAt F m Tryz.prog l (kEnc x) W fun e W' =>
      (e = .returned (.bool true) ∧ J (pre ++ [x]) W' ∧ Kept n₀ S W W') ∨ (e = .returned (.bool false) ∧ Jx (pre ++ [x]) W')) (sz : Nat)
    (IH : WalkSaid F l n₀ N M S w0 J Jx sz) : WalkSaid F l n₀ N M S w0 J Jx (sz + 1) := by
  intro T hT n c lv pre W hrep hb hMW hJp hN h0 hlv
  obtain ⟨c0, c1, c2⟩ := c
  have hrep' := hrep
  obtain ⟨e0, -, ⟨a3, cap3, e1, hl3, -⟩, a, cap, e2, hlen, hks⟩ := hrep.open
  simp only at e0 e1 e2
  subst e0 e1 e2
  have hdd : ∀ k : Nat, (F.depth.isSome = true → 1 ≤ k) := fun k h => by rw [hd] at h; cases h
  obtain ⟨x, hx⟩ : ∃ x : KX n₀ w0, x = ⟨(lv, T, ⟨.int .i64 T.sort, .slice a3 T.names.length cap3, .slice a T.kids.length cap⟩), hrep'⟩ := ⟨_, rfl⟩
  have hxk : kKey x = (lv, T) := by rw [hx]; rfl
  have hxe : kEnc x = #[.int .i64 lv, .agg #[.int .i64 T.sort, .slice a3 T.names.length cap3, .slice a T.kids.length cap]] := by rw [hx]; rfl
  have hsz := hb.size
  have hpl : 0 < (pord T lv).length := by rw [pord_eq]; simp
  have hg0 := World.grownBy_alloc W (.cells #[.int .i64 T.sort, .slice a3 T.names.length cap3, .slice a T.kids.length cap] 30) none
  have hJ0 := hJ pre _ _ hJp hg0
  have hK0 : Kept n₀ S W (W.alloc (.cells #[.int .i64 T.sort, .slice a3 T.names.length cap3, .slice a T.kids.length cap] 30)) := Kept.grown hg0 (by omega)
  have hSW : ¬ S W.heap.size := fun h => by have := hS _ h; omega
  have hr0 := row3_alloc W (.int .i64 T.sort) (.slice a3 T.names.length cap3) (.slice a T.kids.length cap) 30
  obtain ⟨fn, tmps, assign, body, hy, hR⟩ := YieldAt.mono (R' := fun e W1 => (e = .returned (.bool true) ∧ Hid (J (pre ++ [x]) W1) ∧ Hid (Kept n₀ S W W1) ∧ W1.cell? ⟨W.heap.size, 0, none⟩ = some (.int .i64 T.sort) ∧ W1.cell? ⟨W.heap.size, 1, none⟩ = some (.slice a3 T.names.length cap3) ∧ W1.cell? ⟨W.heap.size, 2, none⟩ = some (.slice a T.kids.length cap)) ∨ (e = .returned (.bool false) ∧ Hid (Jx (pre ++ [x]) W1)))
    (hY (n - 1) pre x _ hJ0 (by omega)) (fun e W1 h => h.elim (fun ⟨he, hj, hb1⟩ => by
      have q1 := hr0.of_block ((hb1.same W.heap.size _ hSW (World.alloc_heap_new W _) rfl).trans (World.alloc_heap_new W _).symm)
      exact .inl ⟨he, hj, hK0.trans hb1, q1.cell (i := 0) (by omega), q1.cell (i := 1) (by omega), q1.cell (i := 2) (by omega)⟩) (fun ⟨he, hj⟩ => .inr ⟨he, hj⟩))
  rw [hxe] at hy
  have HKS := hide hks; have HI := hide IH; have HB := hide hb; have HJ := hide hJ; have HN := hide hN; have HX := hide hxk; have HREP := hide hrep'; have HYY := hide hY
  clear hx hxe hg0 hJ0 hK0 hks IH hb hJ hSW hN hxk hrep' hrep hY hS hJp hr0 hsz
  have hm : ∀ w, (method 364 30 (.agg #[.int .i64 T.sort, .slice a3 T.names.length cap3, .slice a T.kids.length cap]) "loop.example/teagle/impl.kids").run Tryz.prog w = .ok (181, .agg #[.int .i64 T.sort, .slice a3 T.names.length cap3, .slice a T.kids.length cap]) w := fun _ => by kernel_rfl
  refine callsIn_of_wp Tryz.func109 rfl hf ?_ hro
  simp only [Tryz.ntmps109, List.size_toArray, List.length_cons, List.length_nil, Nat.reduceAdd, Nat.reduceSub, Array.replicate_succ, Array.replicate_zero, List.push_toArray, List.append_toArray, List.nil_append, List.cons_append]
  gi_wp2_with (first
    | ((try refine ⟨hdd _, ?_⟩); refine hR.mono ?_; clear hR hy; rintro e W1 (⟨rfl, HJ1, HK1, k0, k1, k2⟩ | ⟨rfl, HX1⟩))
    | ((try refine ⟨hdd _, ?_⟩); gi_at_call 181; refine (kids_in F (n - 1) hk hro _ _ _ _ _ _).mono ?_; rintro e w' ⟨rfl, rfl⟩))
  · clear hpl hm k0 k1 k2
    have hJL := unhide HJ _ _ _ (unhide HJ1) (World.grownBy_alloc W1 (.cells #[.int .i64 T.sort, .slice a3 T.names.length cap3, .slice a T.kids.length cap] 30) none)
    have hsW : n₀ ≤ W.heap.size := Nat.le_trans hn₀ (unhide HB).size
    have hsW1 := (unhide HK1).below.size
    have hKL : Kept n₀ S W (W1.alloc (.cells #[.int .i64 T.sort, .slice a3 T.names.length cap3, .slice a T.kids.length cap] 30)) := (unhide HK1).trans (Kept.grown (World.grownBy_alloc _ _ none) (by omega))
    have HJL := hide hJL; have HKL := hide hKL
    clear hJL hKL HJ1 HK1
    generalize hks : T.kids = ks at *
    have HKE := hide hks; clear hks
    gi_loopw [18] (fun i wr => ∃ (k : Nat) (q : List (KX n₀ w0)), k ≤ ks.length ∧ i = .int .i64 k ∧ Hid (q.map kKey = (lv, T) :: pordK (ks.take k) (lv + 1)) ∧ Hid (J (pre ++ q) wr) ∧ Hid (Kept n₀ S W wr)) (fun i _ => ks.length - (intOf i).toNat)
    case atStart => exact ⟨0, [x], Nat.zero_le _, rfl, by simp [Hid, pordK, unhide HX], unhide HJL, unhide HKL⟩
    case round =>
      obtain ⟨k, q, hk', rfl, HQ, HJQ, HKQ⟩ := hrel
      by_cases hlt : k < ks.length
      · obtain ⟨b, o, c, rfl, hbn, hat, hrepk⟩ := unhide HKS k hlt
        have hbw := (unhide HB).trans HKQ.out.below
        have hat' := hat.carry (hbw.block b hbn)
        obtain ⟨d0, d1, d2⟩ := c
        have hrepk' := hrepk
        obtain ⟨g0, -, ⟨a5, cap5, g1, -⟩, a6, cap6, g2, -⟩ := hrepk.open
        simp only at g0 g1 g2
        subst g0 g1 g2
        obtain ⟨e0, e1, e2⟩ := hat'
        simp only at e0 e1 e2
        have hmem : ks[k] ∈ T.kids := by rw [unhide HKE]; exact List.getElem_mem hlt
        have hsm : ksz ks[k] < sz := by have := ksz_kid hmem; omega
        have hsm' : ksz ks[k] < ksz T := ksz_kid hmem
        have hnext : q.map kKey ++ pord ks[k] (lv + 1) = (lv, T) :: pordK (ks.take (k + 1)) (lv + 1) := by rw [HQ.out, pordK_take ks k hlt]; simp
        have hpre : q.map kKey ++ pord ks[k] (lv + 1) <+: pord T lv := by
          rw [hnext, pord_eq, unhide HKE]
          exact (List.prefix_cons_inj _).2 (pordK_take_pre ks (k + 1) (lv + 1))
        have hlenq : pre.length + (q.length + (pord ks[k] (lv + 1)).length) ≤ N := by
          have h1 := hpre.length_le
          simp only [List.length_append, List.length_map] at h1
          have h2 := unhide HN
          omega
        have hgw := World.grownBy_alloc wr (.cells #[.int .i64 ks[k].sort, .slice a5 ks[k].names.length cap5, .slice a6 ks[k].kids.length cap6] 30) none
        have hsWr : n₀ ≤ wr.heap.size := Nat.le_trans hsW HKQ.out.below.size
        have hcall := fun m => unhide HI ks[k] hsm m ⟨.int .i64 ks[k].sort, .slice a5 ks[k].names.length cap5, .slice a6 ks[k].kids.length cap6⟩ (lv + 1) (pre ++ q) _ hrepk' (hbw.trans ((Below.refl n₀ wr).grown hgw hsWr (fun k e => by cases e))) (by have h1 := HKQ.out.below.size; have h2 := hgw.size; omega) (unhide HJ _ _ _ HJQ.out hgw) (by rw [List.length_append]; omega) (by omega) (by omega)
        have HCALL := hide hcall
        have HKN := hide (HKQ.out.trans (Kept.grown (S := S) hgw hsWr))
        have HNX := hide hnext; have HPR := hide hpre
        clear hcall hgw hnext hpre hlenq hmem hrepk hrepk' hat hbw hbn hsm
        gi_wp2_with ((try refine ⟨hdd _, ?_⟩); gi_at_call 109; refine (unhide HCALL _).mono ?_; clear HCALL; rintro e W2 (⟨rfl, q2, hq2, hJ2, hk2⟩ | ⟨rfl, q2, hq2, hx2⟩))
        · go_roundw
          case rel =>
            refine ⟨k + 1, q ++ q2, by omega, by go_num, ?_, ?_, (unhide HKN).trans hk2⟩
            · show _ = _
              rw [List.map_append, hq2]; exact unhide HNX
            · show J _ _
              rw [← List.append_assoc]; exact hJ2
          case measure => simp [intOf]; omega
        · go_ret
          refine .inr ⟨rfl, q ++ q2, ?_, by rw [← List.append_assoc]; exact hx2⟩
          rw [List.map_append]
          exact ((List.prefix_append_right_inj _).2 hq2).trans (unhide HPR)
      · gi_wp2
        go_ret
        obtain rfl : k = ks.length := by omega
        refine .inl ⟨rfl, q, ?_, HJQ.out, HKQ.out⟩
        rw [HQ.out, List.take_length, pord_eq, unhide HKE]
  · go_ret
    exact .inr ⟨rfl, [x], by rw [pord_eq]; simp [unhide HX], unhide HX1⟩

theorem walkOn_all (F : Fence) (hd : F.depth = none) (hf : F.fn 109) (hk : F.fn 181) (hro : F.round = none) (l n₀ N M : Nat) (S : Nat → Prop) (w0 : World) (hn₀ : n₀ ≤ w0.heap.size)
    (J Jx : List (KX n₀ w0) → World → Prop) (hJ : ∀ s A B, J s A → A.grownBy B none → J s B) (hS : ∀ k, S k → k < M)
    (hY : ∀ m pre (x : KX n₀ w0) W, J pre W → pre.length < N → YieldAt F m Tryz.prog l (kEnc x) W fun e W' =>
      (e = .returned (.bool true) ∧ J (pre ++ [x]) W' ∧ Kept n₀ S W W') ∨ (e = .returned (.bool false) ∧ Jx (pre ++ [x]) W')) : ∀ sz, WalkSaid F l n₀ N M S w0 J Jx sz
  | 0 => fun T h => by omega
  | sz + 1 => walkOn_step F hd hf hk hro l n₀ N M S w0 hn₀ J Jx hJ hS hY sz (walkOn_all F hd hf hk hro l n₀ N M S w0 hn₀ J Jx hJ hS hY sz)

set_option maxHeartbeats 1000000 in
/-- walk hands back a closure over a box that holds the schema. -/
theorem walk_in (F : Fence) (n : Nat) (hf : F.fn 79) (hro : F.round = none) (c0 c1 : Value) (a : Option Addr) (len cap : Nat) (w : World) :
    CallsIn F n Tryz.prog 79 #[.agg #[c0, c1, .slice a len cap]] w fun e w' => e = .returned (.func (.func 108) #[] #[.pointer (some ⟨w.heap.size, 0, none⟩)]) ∧ w' = w.alloc (.cells #[c0, c1, .slice a len cap] 30) := by
  refine callsIn_of_wp Tryz.func79 rfl hf ?_ hro
  simp only [Tryz.ntmps79, List.size_toArray, List.length_cons, List.length_nil, Nat.reduceAdd, Nat.reduceSub, Array.replicate_succ, Array.replicate_zero, List.push_toArray, List.append_toArray, List.nil_append, List.cons_append]
  gi_wp2
  go_ret
  exact ⟨rfl, rfl⟩

set_option maxHeartbeats 1000000 in
theorem walk1_in (F : Fence) (hd : F.depth = none) (n : Nat) (h1 : F.fn 108) (hf : F.fn 109) (hk : F.fn 181) (hro : F.round = none) (l Bt n₀ M : Nat) (S : Nat → Prop) (w0 : World) (hn₀ : n₀ ≤ w0.heap.size)
    (T : Kd) (c : C3) (hrep : KRep (fun b => b < n₀) w0 T c) (hlv : ksz T ≤ 1152921504606846970) (J Jx : List (KX n₀ w0) → World → Prop) (hJ : ∀ s A B, J s A → A.grownBy B none → J s B) (hS : ∀ k, S k → k < M)
    (hY : ∀ pre (x : KX n₀ w0) W, J pre W → pre.length < (pord T 1).length → YieldAt F (n - 1) Tryz.prog l (kEnc x) W fun e W' =>
      (e = .returned (.bool true) ∧ J (pre ++ [x]) W' ∧ Kept n₀ S W W') ∨ (e = .returned (.bool false) ∧ Jx (pre ++ [x]) W'))
    (W : World) (hBt : C3.at W Bt 0 c) (hb : Below n₀ w0 W) (hMW : M ≤ W.heap.size) (h0 : J [] W) :
    CallsIn F n Tryz.prog 108 #[.func (.yield l) #[] #[], .pointer (some ⟨Bt, 0, none⟩)] W fun e W' => (∃ v, e = .returned v) ∧
      ((∃ ys : List (KX n₀ w0), ys.map kKey = pord T 1 ∧ J ys W') ∨ (∃ pre : List (KX n₀ w0), pre.map kKey <+: pord T 1 ∧ Jx pre W')) := by
  have hdd : ∀ k : Nat, (F.depth.isSome = true → 1 ≤ k) := fun k h => by rw [hd] at h; cases h
  have hp := walkOn_all F hd hf hk hro l n₀ (pord T 1).length M S w0 hn₀ J Jx hJ hS (fun m pre x W hj hl => yield_any hd m (hY pre x W hj hl)) (ksz T + 1) T (by omega) (n - 1) c 1 [] W hrep hb hMW h0 (by simp) (by omega) (by omega)
  obtain ⟨c0, c1, c2⟩ := c
  obtain ⟨e0, e1, e2⟩ := hBt
  simp only at e0 e1 e2 hp
  have HP := hide hp
  clear hp hrep hY hS hJ hb
  refine callsIn_of_wp Tryz.func108 rfl h1 ?_ hro
  simp only [Tryz.ntmps108, List.size_toArray, List.length_cons, List.length_nil, Nat.reduceAdd, Nat.reduceSub, Array.replicate_succ, Array.replicate_zero, List.push_toArray, List.append_toArray, List.nil_append, List.cons_append]
  gi_wp2_with ((try refine ⟨hdd _, ?_⟩); gi_at_call 109; refine (unhide HP).mono ?_; clear HP; rintro e W1 (⟨rfl, q, hq, hJ1, _⟩ | ⟨rfl, q, hq, hx⟩))
  · go_end0
    exact ⟨⟨_, rfl⟩, .inl ⟨q, hq, by simpa using hJ1⟩⟩
  · go_end0
    exact ⟨⟨_, rfl⟩, .inr ⟨q, hq, by simpa using hx⟩⟩

end Go.Proofs.YtcpfelaffclalaaGreatDoor

/- The walk of gather with nameKind: of a schema it makes the schema with named kids, in new blocks beside those of the schema itself. For weights up to 2^20 and up to 10^6 parts. -/

namespace Go.Proofs.YtcpfelaffclalaaGreatDoor
open Go Go.RowKit Go.Maps

/-- Blocks of P, and new ones but the row's. -/
def RP (P : Nat → Prop) (base : Nat) (w : World) (v : Value) : Nat → Prop := fun b => P b ∨ (base ≤ b ∧ b < w.heap.size ∧ v.ownBlock ≠ some b)
/-- What the loop has gathered. -/
structure GotN (P : Nat → Prop) (base : Nat) (w : World) (v : Value) (ks : List Kd) (xs : List Value) : Prop where
  row : w.ownsRow base 104 4 v ks.length xs
  reps : NRepL (RP P base w v) w ks xs
theorem GotN.start (P : Nat → Prop) (base : Nat) (w : World) : GotN P base w (.slice none 0 0) [] [] := ⟨World.ownsRow_nil _ _ _ _, rfl⟩
theorem GotN.kept {P : Nat → Prop} {base : Nat} {w w' : World} {v : Value} {ks : List Kd} {xs : List Value} (h : GotN P base w v ks xs) (hP : ∀ b, P b → b < w.heap.size) (hg : w.grownBy w' none) : GotN P base w' v ks xs :=
  ⟨h.row.kept hg (by
      rcases e : v.ownBlock with _ | g
      · exact Or.inl rfl
      · exact Or.inr (by simp)),
    h.reps.carry (fun b hb => hg.block b (hb.elim (hP b) (fun h => h.2.1)) (by simp)) (fun b hb => hb.imp id (fun h => ⟨h.1, Nat.lt_of_lt_of_le h.2.1 hg.size, h.2.2⟩))⟩
theorem GotN.push {P : Nat → Prop} {base m : Nat} {w w' : World} {v v' : Value} {ks : List Kd} {xs : List Value} {t : Kd} {c : C4} (h : GotN P base w v ks xs) (hP : ∀ b, P b → b < base) (ht : NRep (OrNew P m w) w t c) (hbm : base ≤ m) (hmw : m ≤ w.heap.size) (hvm : ∀ b, v.ownBlock = some b → b < m)
    (hown : w'.ownsRow base 104 4 v' (ks.length + 1) (xs ++ c4l c)) (hg : w.grownBy w' v.ownBlock) (hv : v'.ownBlock = v.ownBlock ∨ ∃ g, v'.ownBlock = some g ∧ w.heap.size ≤ g) :
    GotN P base w' v' (ks ++ [t]) (xs ++ c4l c) := by
  have hkid : NRep (RP P base w v) w t c := NRep.carry (fun _ _ => rfl) (fun b hb => hb.imp id (fun h => ⟨by omega, h.2, fun e => by have := hvm b e; omega⟩)) t c ht
  refine ⟨by simpa using hown, (h.reps.snoc hkid).carry (fun b hb => hg.block b ?_ ?_) (fun b hb => ?_)⟩
  · rcases hb with hb | hb
    · have := hP b hb; omega
    · exact hb.2.1
  · rcases hb with hb | hb
    · intro e; have := hP b hb; have := (h.row.lt b e.symm).1; omega
    · exact fun e => hb.2.2 e.symm
  · refine hb.imp id (fun hb => ⟨hb.1, Nat.lt_of_lt_of_le hb.2.1 hg.size, ?_⟩)
    rcases hv with e | ⟨g, e, hge⟩
    · rw [e]; exact hb.2.2
    · rw [e]; intro e2; simp only [Option.some.injEq] at e2; have := hb.2.1; omega

theorem infoNamed : (Tryz.prog.info? 104).map (fun i => (i.zero, i.size, i.bytes)) = some (some (.agg #[.int .i64 0, .slice none 0 0, .map none, .slice none 0 0]), 4, 64) := by kernel_rfl
theorem kidsN_any (c0 c1 : Value) (a : Option Addr) (len cap : Nat) (w : World) :
    Calls Tryz.prog 181 #[.agg #[c0, c1, .slice a len cap]] w fun e w' => e = .returned (.slice a len cap) ∧ w' = w.alloc (.cells #[c0, c1, .slice a len cap] 30) :=
  (callsIn_wide (n := 1)).1 (kids_in Fence.wide _ trivial rfl c0 c1 a len cap w)
theorem klszLenN (l : List Kd) : l.length ≤ klsz l := by
  induction l with
  | nil => simp
  | cons a r ih =>
    rw [klsz, List.length_cons]
    have : 1 ≤ ksz a := by obtain ⟨s, ns, ks⟩ := a; rw [ksz]; omega
    omega
theorem cell_four (w : World) (c : C4) (t : TypeId) : ∀ j u, (c4l c)[j]? = some u → (w.alloc (.cells #[c.c0, c.c1, c.c2, c.c3] t)).cell? ((⟨w.heap.size, 0, none⟩ : Addr).add j) = some u := by
  intro j u hj
  have hrow := row4_alloc w c.c0 c.c1 c.c2 c.c3 t
  rw [Addr.add_lit, Nat.zero_add]
  match j with
  | 0 => rw [hrow.cell (by omega)]; exact hj
  | 1 => rw [hrow.cell (by omega)]; exact hj
  | 2 => rw [hrow.cell (by omega)]; exact hj
  | 3 => rw [hrow.cell (by omega)]; exact hj
  | j + 4 => simp [c4l] at hj
theorem NRep.one {P : Nat → Prop} {w : World} {t : Kd} {c : C4} (h : NRep P w t c) : ∀ u ∈ c4l c, u.oneCell' = true := by
  obtain ⟨h0, -, ⟨a, cap, h1, -⟩, ⟨B, h2, -⟩, a2, cap2, h3, -⟩ := h.open
  intro u hu
  simp only [c4l, h0, h1, h2, h3, List.mem_cons, List.not_mem_nil, or_false] at hu
  rcases hu with rfl | rfl | rfl | rfl <;> rfl

def GNSaid (n : Nat) : Prop := ∀ (t : Kd), ksz t < n → ∀ (P : Nat → Prop) (c : C3) (w : World), (∀ b, P b → b < w.heap.size) → KRep P w t c → ksz t ≤ 1000000 → wKd t ≤ 1048576 →
    Calls Tryz.prog 63 #[.agg #[c.c0, c.c1, c.c2], .func (.func 64) #[] #[]] w fun e w' => ∃ d : C4, e = .returned (.agg #[d.c0, d.c1, d.c2, d.c3]) ∧ NRep (OrNew P w.heap.size w') w' t d ∧ Below w.heap.size w w'

set_option maxRecDepth 100000 in
set_option maxHeartbeats 1600000 in
theorem gatherN_step (n : Nat) (IH : GNSaid n) : GNSaid (n + 1) := by
  intro t hn P c w hP hrep hsz hwt
  have hks1 : t.kids.length ≤ 1000000 := by
    have := klszLenN t.kids
    have e : ksz t = 1 + klsz t.kids := by obtain ⟨s, ns, ks⟩ := t; rw [ksz]; rfl
    omega
  have hwe : wKd t = wS t.names + wKs t.kids := by obtain ⟨s, ns, ks⟩ := t; rfl
  have hnl : t.names.length ≤ 1048576 := by have := wS_len t.names; omega
  obtain ⟨c0, c1, c2⟩ := c
  obtain ⟨e0, -, hns, a, cap, e2, -, hks⟩ := hrep.open
  simp only at e0 e2 hns
  obtain ⟨a3, cap3, e1, -, -⟩ := hns
  subst e0 e1 e2
  obtain ⟨i0, hi, hz0, hz1, hz2⟩ := info_parts infoNamed
  have hm : ∀ w, (method 364 30 (.agg #[.int .i64 t.sort, .slice a3 t.names.length cap3, .slice a t.kids.length cap]) "loop.example/teagle/impl.kids").run Tryz.prog w = .ok (181, .agg #[.int .i64 t.sort, .slice a3 t.names.length cap3, .slice a t.kids.length cap]) w := fun _ => by kernel_rfl
  have hft := fun (vK : Value) (W : World) (hW : Below w.heap.size w W) (hK : NKids (OrNew P (w.heap.size + 2) W) W vK t.kids) =>
    nameKind_any t (OrNew P (w.heap.size + 2) W) ⟨.int .i64 t.sort, .slice a3 t.names.length cap3, .slice a t.kids.length cap⟩ vK W (fun b hb => hb.elim (fun h => Nat.lt_of_lt_of_le (hP b h) hW.size) (fun h => h.2)) (KRep.carry (fun b hb => hW.block b (hP b hb)) (fun b hb => Or.inl hb) _ _ hrep) hK hnl
  have HFT := hide hft; have HP := hide hP; have HI := hide IH; have HK := hide hks
  have HII := hide hi; have HZ0 := hide hz0; have HZ1 := hide hz1; have HZ2 := hide hz2
  have hkw : ∀ i (hi : i < t.kids.length), wKd t.kids[i] ≤ 1048576 := fun i hi => by have := wKs_mem (List.getElem_mem hi); omega
  have HKW := hide hkw
  clear hft hP IH hks hi hz0 hz1 hz2 hrep hwt hwe hkw
  go_enter Tryz.func63, Tryz.ntmps63
  go_wp2_with (go_at_call 181; refine (kidsN_any _ _ _ _ _ _).mono ?_; rintro e w' ⟨rfl, rfl⟩)
  clear hm
  obtain ⟨W0, hW0⟩ : ∃ W0, (((w.alloc (.cells #[.int .i64 t.sort, .slice a3 t.names.length cap3, .slice a t.kids.length cap] 30)).alloc (.cells #[.int .i64 0, .slice none 0 0, .map none, .slice none 0 0] 104)).alloc (.cells #[.int .i64 t.sort, .slice a3 t.names.length cap3, .slice a t.kids.length cap] 30)) = W0 := ⟨_, rfl⟩
  have hs0 : W0.heap.size = w.heap.size + 3 := by rw [← hW0]; simp
  have hbl : Below w.heap.size w W0 := by rw [← hW0]; exact (((Below.refl _ _).alloc (Nat.le_refl _) _).alloc (by simp) _).alloc (by simp; omega) _
  have hr0 : W0.rowIs w.heap.size 30 3 (row3 (.int .i64 t.sort) (.slice a3 t.names.length cap3) (.slice a t.kids.length cap)) := by rw [← hW0]; exact ((row3_alloc w _ _ _ _).alloc _).alloc _
  have hr1 : W0.rowIs (w.heap.size + 1) 104 4 (row4 (.int .i64 0) (.slice none 0 0) (.map none) (.slice none 0 0)) := by
    rw [← hW0]
    have q := row4_alloc (w.alloc (.cells #[.int .i64 t.sort, .slice a3 t.names.length cap3, .slice a t.kids.length cap] 30)) (.int .i64 0) (.slice none 0 0) (.map none) (.slice none 0 0) 104
    rw [World.size_alloc] at q
    exact q.alloc _
  rw [hW0]
  have HBL := hide hbl; have HR0 := hide hr0; have HR1 := hide hr1
  clear hW0 hbl hr0 hr1
  generalize hkk : t.kids = ks at *
  have HKS := hide hkk; clear hkk
  go_loopw [5, 12] (fun s i wr => ∃ (k : Nat) (a' : Option Addr) (cap' : Nat) (xs : List Value), k ≤ ks.length ∧ i = .int .i64 k ∧ s = .slice a' k cap' ∧ Hid (GotN P (w.heap.size + 2) wr (.slice a' k cap') (ks.take k) xs) ∧ Hid (Below (w.heap.size + 2) W0 wr)) (fun _ i _ => ks.length - (intOf i).toNat)
  case atStart => exact ⟨0, none, 0, [], Nat.zero_le _, rfl, rfl, GotN.start _ _ _, Below.refl _ _⟩
  case round =>
    obtain ⟨k, a', cap', xs, hk, rfl, rfl, HG, HB⟩ := hrel
    have hsw := HB.out.size
    have hkl : (ks.take k).length = k := by simp; omega
    have HKL := hide hkl; clear hkl
    have hbw : Below w.heap.size w wr := (unhide HBL).trans (HB.out.mono (by omega))
    have HBW := hide hbw; clear hbw
    by_cases hlt : k < ks.length
    · obtain ⟨b, o, c, rfl, hpb, hcell, hrp⟩ := unhide HK k hlt
      have hcell' := hcell.carry ((unhide HBW).block b (unhide HP b hpb))
      obtain ⟨d0, d1, d2⟩ := c
      have hrw : KRep P wr ks[k] ⟨d0, d1, d2⟩ := KRep.carry (fun b hb => (unhide HBW).block b (unhide HP b hb)) (fun _ h => h) _ _ hrp
      obtain ⟨g0, -, ⟨a5, cap5, g1, -⟩, a6, cap6, g2, -⟩ := hrp.open
      simp only at g0 g1 g2
      subst g0 g1 g2
      obtain ⟨f0, f1, f2⟩ := hcell'
      simp only at f0 f1 f2
      have hmem : ks[k] ∈ t.kids := by rw [unhide HKS]; exact List.getElem_mem hlt
      have hsm : ksz ks[k] < n := by have := ksz_kid hmem; omega
      have hsm' : ksz ks[k] < ksz t := ksz_kid hmem
      have hba : ∀ ob, Below wr.heap.size wr (wr.alloc ob) := fun ob => (Below.refl _ _).alloc (Nat.le_refl _) ob
      have hcall : ∀ ob, Calls Tryz.prog 63 #[.agg #[.int .i64 ks[k].sort, .slice a5 ks[k].names.length cap5, .slice a6 ks[k].kids.length cap6], .func (.func 64) #[] #[]] (wr.alloc ob) fun e w' => ∃ d : C4, e = .returned (.agg #[d.c0, d.c1, d.c2, d.c3]) ∧ NRep (OrNew P wr.heap.size w') w' ks[k] d ∧ Below wr.heap.size wr w' := fun ob =>
        (unhide HI ks[k] hsm P ⟨_, _, _⟩ (wr.alloc ob) (fun b hb => by have := unhide HP b hb; simp; omega) (KRep.carry (fun b hb => (hba ob).block b (by have := unhide HP b hb; omega)) (fun _ h => h) _ _ hrw) (by omega) (unhide HKW k hlt)).mono
          fun e w' ⟨d, h1, h2, h3⟩ => ⟨d, h1, NRep.carry (P := OrNew P (wr.alloc ob).heap.size w') (Q := OrNew P wr.heap.size w') (fun _ _ => rfl) (fun b (hb : P b ∨ ((wr.alloc ob).heap.size ≤ b ∧ b < w'.heap.size)) => hb.elim Or.inl (fun h => Or.inr ⟨by have := h.1; simp at this; omega, h.2⟩)) _ _ h2, (hba ob).trans (h3.mono (hba ob).size)⟩
      have htk : ks.take (k + 1) = ks.take k ++ [ks[k]] := List.take_succ_eq_append_getElem hlt
      generalize ks[k] = tk at *
      have HCALL := hide hcall; have HTK := hide htk
      clear hcall htk hcell hrp hrw hmem hsm hsm' hba hpb
      go_wp2_with fail
      refine (unhide HCALL _).mono ?_
      rintro e w2 ⟨⟨d0, d1, d2, d3⟩, rfl, hnr, hb2⟩
      have hs2 := hb2.size
      have hg2 : wr.grownBy w2 none := ⟨hb2.os, hb2.tape, hb2.output, hb2.size, fun i hi _ => hb2.block i hi⟩
      have hgot2 := HG.out.kept (fun b hb => by have := unhide HP b hb; omega) hg2
      have hvm : ∀ b, (Value.slice a' k cap').ownBlock = some b → b < wr.heap.size := fun b hb => (HG.out.row.lt b hb).2
      obtain ⟨y0, -, ⟨a7, cap7, y1, -⟩, ⟨B, y2, -⟩, a8, cap8, y3, -⟩ := hnr.open
      have hone := hnr.one
      simp only at y0 y1 y2 y3
      subst y0 y1 y2 y3
      have HNR := hide hnr; have HGOT := hide hgot2; have HVM := hide hvm; have HONE := hide hone; have HB2 := hide (HB.out.trans (hb2.mono (by omega)))
      clear hnr hb2 hg2 hgot2 hvm hone f0 f1 f2 HCALL
      go_wp2_with (at_builtin; refine append_row _ rfl _ _ 102 rfl (w.heap.size + 2) 104 i0 _ 4 64 Tryz.underlying102 (unhide HII) (unhide HZ0) (unhide HZ1) (unhide HZ2) rfl (by decide) (.slice a' k cap') k xs rfl (by have := (unhide HGOT).row; rw [unhide HKL] at this; exact this.alloc _) ⟨w2.heap.size, 0, none⟩ 1 1 (c4l ⟨_, _, _, _⟩) rfl rfl (cell_four _ _ _) (unhide HONE) (by decide) (by unfold maxLen; omega) (by omega) (by simp; omega) ?_; intro v' w4 hown4 hgrow4 hv4)
      obtain ⟨g', cap'', hv''⟩ : ∃ g' cap'', v' = .slice (some ⟨g', 0, none⟩) (k + 1) cap'' := by
        rcases hown4.2 with ⟨_, h⟩ | ⟨g', cap'', _, h, _⟩
        · omega
        · exact ⟨g', cap'', h⟩
      have hal := World.grownBy_alloc w2 (.cells #[.int .i64 tk.sort, .slice a7 tk.names.length cap7, .map (some B), .slice a8 tk.kids.length cap8] 104) none
      have hlt4 := (unhide HGOT).row.lt
      have hpush := GotN.push (m := wr.heap.size) ((unhide HGOT).kept (fun b hb => by have := unhide HP b hb; omega) hal) (fun b hb => by have := unhide HP b hb; omega) (NRep.carry (fun b hb => hal.block b (hb.elim (fun h => by have := unhide HP b h; omega) (fun h => h.2)) (by simp)) (fun b hb => hb.imp id (fun h => ⟨h.1, by have := h.2; simp; omega⟩)) tk _ (unhide HNR)) (by omega) (by simp; omega) (unhide HVM) (by rw [unhide HKL]; exact hown4) hgrow4 hv4
      rw [← unhide HTK] at hpush
      have hb4 : Below (w.heap.size + 2) w2 w4 := ((Below.refl _ w2).alloc (by omega) _).trans ((Below.refl _ _).grown hgrow4 (by simp; omega) (fun k e => (hlt4 k e).1))
      subst hv''
      have HPU := hide hpush; have HB4 := hide ((unhide HB2).trans hb4)
      clear hown4 hgrow4 hv4 hpush hb4 hlt4 hal
      go_roundw
      case rel => exact ⟨k + 1, some ⟨g', 0, none⟩, cap'', _, by omega, by go_num, rfl, unhide HPU, unhide HB4⟩
      case measure => simp [intOf]; omega
    · obtain rfl : k = ks.length := by omega
      have hg := HG.out
      rw [List.take_length] at hg
      have hKN : NKids (OrNew P (w.heap.size + 2) wr) wr (.slice a' ks.length cap') ks := NKids.of_row hg.row (hg.reps.carry (fun _ _ => rfl) (fun b hb => hb.imp id (fun h => ⟨h.1, h.2.1⟩))) (fun g h1 h2 => Or.inr ⟨h1, h2⟩)
      have hcall := unhide HFT (.slice a' ks.length cap') wr (unhide HBW) hKN
      have q0 := (unhide HR0).of_block (HB.out.block w.heap.size (by omega))
      have q1 := (unhide HR1).of_block (HB.out.block (w.heap.size + 1) (by omega))
      have k0 := q0.cell (i := 0) (by omega); have k1 := q0.cell (i := 1) (by omega); have k2 := q0.cell (i := 2) (by omega)
      simp only [row3] at k0 k1 k2
      have HCALL := hide hcall; have Q1 := hide q1
      clear hcall hKN hg q0 q1
      go_wp2_with fail
      refine (unhide HCALL).mono ?_
      rintro e w2 ⟨B, rfl, hnr, hb2⟩
      have hs2 := hb2.size
      have q2 := (unhide Q1).of_block (hb2.block (w.heap.size + 1) (by omega))
      have z := q2.frozen
      have y0 := q2.cell (i := 0) (by omega); have y1 := q2.cell (i := 1) (by omega); have y2 := q2.cell (i := 2) (by omega); have y3 := q2.cell (i := 3) (by omega)
      simp only [row4] at y0 y1 y2 y3
      have HNR := hide hnr; have HB2 := hide ((unhide HBW).trans (hb2.mono (by omega)))
      clear hnr hb2 q2 HCALL
      go_wp2_with fail
      refine bodyPost_ret (v := .agg #[.int .i64 t.sort, .slice a3 t.names.length cap3, .map (some B), .slice a' ks.length cap']) (by simp [results, Tryz.results63, go_sem, y0, y1, y2, y3]) rfl ⟨⟨_, _, _, _⟩, rfl, ?_, ?_⟩
      · refine NRep.carry (fun b hb => heap_set4n _ _ _ _ _ _ _ ?_) (fun b hb => ?_) t _ (unhide HNR)
        · rcases hb with (h | h) | h
          · have := unhide HP b h; omega
          · have := h.1; omega
          · have := h.1; omega
        · rcases hb with (h | h) | h
          · exact Or.inl h
          · exact Or.inr ⟨by have := h.1; omega, by rw [size_set4]; have := h.2; omega⟩
          · exact Or.inr ⟨by have := h.1; omega, by rw [size_set4]; exact h.2⟩
      · exact below_set4 (unhide HB2) _ _ _ _ _ (by omega)

theorem gatherN_all : ∀ n, GNSaid n
  | 0 => fun t h => by omega
  | n + 1 => gatherN_step n (gatherN_all n)
end Go.Proofs.YtcpfelaffclalaaGreatDoor
