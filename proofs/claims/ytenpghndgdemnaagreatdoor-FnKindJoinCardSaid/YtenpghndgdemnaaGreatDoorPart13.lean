/- The walker over schemas: walkOn, walk's closure and walk itself: they hand a node and all below it to whoever listens, a node ahead of its kids, and turn nothing that was there. No conditions but a bound on the levels. -/
import Derived.RangeFuncNested
import Derived.RangeFuncBound
import Derived.RangeFuncCalls
import Derived.RangeFuncLeaves
import Derived.Shelf.Abstract
import Derived.Shelf.RegionOpen
import Derived.WalkKit
import Derived.OwnWalkIn
import Derived.TacticsInMore
import Derived.LoopNIn
import Derived.LoopIn
import Derived.Test.YtenpghndgdemnaaGreatDoorPart03
import Derived.Test.YtenpghndgdemnaaGreatDoorRows
import Derived.Test.YtenpghndgdemnaaGreatDoorPart12
import Derived.Test.YtenpghndgdemnaaGreatDoorPart06
import Derived.Sort.Walk0
import Derived.Test.YtenpghndgdemnaaGreatDoorPart10
import Derived.Lib.SlicesCompact
import Derived.Lib.Strings
import Derived.Test.YtenpghndgdemnaaGreatDoorProg
import Derived.Shelf.Spec.SearchS
import Derived.Shelf.Spec.SlicesGrow
namespace Go.Proofs.YtenpghndgdemnaaGreatDoor
open Go Go.RowKit Go.Shelf

attribute [local go_sem] Oper.semAt_some

/-- A schema that lies in a world, with a level. -/
abbrev KX (n₀ : Nat) (w0 : World) := { x : Int × Kd × C3 // KRep (fun b => b < n₀) w0 x.2.1 x.2.2 }
def kKey {n₀ : Nat} {w0 : World} (x : KX n₀ w0) : Int × Kd := (x.1.1, x.1.2.1)
def kEnc {n₀ : Nat} {w0 : World} (x : KX n₀ w0) : Array Value := #[.int .i64 x.1.1, .agg #[x.1.2.2.c0, x.1.2.2.c1, x.1.2.2.c2]]

/-- Nothing below n₀ has turned, and no cells but those of which S holds. -/
structure Kept (n₀ : Nat) (S : Nat → Prop) (W W' : World) : Prop where
  below : Below n₀ W W'
  same : ∀ k (o : Obj), ¬ S k → W.heap[k]? = some o → o.isCells = true → W'.heap[k]? = some o

theorem Kept.trans {n₀ : Nat} {S : Nat → Prop} {A B C : World} (h : Kept n₀ S A B) (k : Kept n₀ S B C) : Kept n₀ S A C :=
  ⟨h.below.trans k.below, fun i o hs hi ho => k.same i o hs (h.same i o hs hi ho) ho⟩
theorem Kept.grown {n₀ : Nat} {S : Nat → Prop} {A B : World} (hg : A.grownBy B none) (hn : n₀ ≤ A.heap.size) : Kept n₀ S A B :=
  ⟨(Below.refl _ _).grown hg hn (fun k e => by cases e), fun k o _ hk _ => (hg.block k (Array.getElem?_eq_some_iff.1 hk).1 (by simp)).trans hk⟩
theorem Kept.putObj {n₀ : Nat} {S : Nat → Prop} {w : World} (hn : n₀ ≤ w.heap.size) (W : World) (l : Nat) (o o' : Obj) (hl : w.heap.size ≤ l) (h : W.heap[l]? = some o) (hc : o.isCells = false) (hw : o.isWalk = false) : Kept n₀ S W (W.putObj l o') :=
  ⟨belowK_b hn W l o o' hl h hc hw, fun k o2 _ hk hc2 => (World.putObj_heap_other (fun e => by subst e; rw [h] at hk; cases hk; rw [hc] at hc2; cases hc2)).trans hk⟩

theorem depth_any {F : Fence} (hd : F.depth = none) (k : Nat) : F.room k := fun d h => by rw [hd] at h; cases h
theorem round_any {F : Fence} (hd : F.depth = none) {m m' : Nat} {P : Program} {l : Nat} {f : FuncId} {tmps : Array Value} {assign body : Code} {w : World} {R : Ending → World → Prop}
    (h : RoundIn F m P l f tmps assign body w R) : RoundIn F m' P l f tmps assign body w R := ⟨h.1, fun c cs _ => h.2 c cs (depth_any hd _)⟩
theorem yield_any {F : Fence} (hd : F.depth = none) {m : Nat} (m' : Nat) {P : Program} {l : Nat} {args : Array Value} {W : World} {R : Ending → World → Prop} (h : YieldAt F m P l args W R) : YieldAt F m' P l args W R := by
  obtain ⟨fn, tmps, assign, body, hy, hR⟩ := h
  exact ⟨fn, tmps, assign, body, hy, round_any hd hR⟩

theorem pordK_take (ks : List Kd) (k : Nat) (h : k < ks.length) (l : Int) : pordK (ks.take (k + 1)) l = pordK (ks.take k) l ++ pord ks[k] l := by
  induction ks generalizing k with
  | nil => simp at h
  | cons a r ih =>
    cases k with
    | zero => simp [pordK]
    | succ k => simp only [List.take_succ_cons, pordK, List.getElem_cons_succ]; rw [ih k (by simpa using h), List.append_assoc]

theorem pordK_take_pre (ks : List Kd) (k : Nat) (l : Int) : pordK (ks.take k) l <+: pordK ks l := by
  induction ks generalizing k with
  | nil => simp [pordK]
  | cons a r ih =>
    cases k with
    | zero => simp [pordK]
    | succ k => simp only [List.take_succ_cons, pordK]; exact (List.prefix_append_right_inj _).2 (ih k)

set_option maxHeartbeats 1000000 in
theorem kids_in (F : Fence) (n : Nat) (hf : F.fn 146) (hro : F.round = none) (c0 c1 : Value) (a : Option Addr) (len cap : Nat) (w : World) :
    CallsIn F n Tryz.prog 146 #[.agg #[c0, c1, .slice a len cap]] w fun e w' => e = .returned (.slice a len cap) ∧ w' = w.alloc (.cells #[c0, c1, .slice a len cap] 26) := by
  refine callsIn_of_wp Tryz.func146 rfl hf ?_ hro
  simp only [Tryz.ntmps146, List.size_toArray, List.length_cons, List.length_nil, Nat.reduceAdd, Nat.reduceSub, Array.replicate_succ, Array.replicate_zero, List.push_toArray, List.append_toArray, List.nil_append, List.cons_append]
  gi_wp2
  go_ret
  exact ⟨rfl, rfl⟩

def WalkSaid (F : Fence) (l n₀ N M : Nat) (S : Nat → Prop) (w0 : World) (J Jx : List (KX n₀ w0) → World → Prop) (sz : Nat) : Prop :=
  ∀ (T : Kd), ksz T < sz → ∀ (n : Nat) (c : C3) (lv : Int) (pre : List (KX n₀ w0)) (W : World), KRep (fun b => b < n₀) w0 T c → Below n₀ w0 W → M ≤ W.heap.size → J pre W → pre.length + (pord T lv).length ≤ N → 0 ≤ lv → lv + ksz T ≤ 1152921504606846976 →
    CallsIn F n Tryz.prog 80 #[.agg #[c.c0, c.c1, c.c2], .int .i64 lv, .func (.yield l) #[] #[]] W fun e W' =>
      (e = .returned (.bool true) ∧ ∃ q : List (KX n₀ w0), q.map kKey = pord T lv ∧ J (pre ++ q) W' ∧ Kept n₀ S W W') ∨ (e = .returned (.bool false) ∧ ∃ q : List (KX n₀ w0), q.map kKey <+: pord T lv ∧ Jx (pre ++ q) W')

set_option maxRecDepth 100000 in
set_option maxHeartbeats 2000000 in
theorem walkOn_step (F : Fence) (hd : F.depth = none) (hf : F.fn 80) (hk : F.fn 146) (hro : F.round = none) (l n₀ N M : Nat) (S : Nat → Prop) (w0 : World) (hn₀ : n₀ ≤ w0.heap.size)
    (J Jx : List (KX n₀ w0) → World → Prop) (hJ : ∀ s A B, J s A → A.grownBy B none → J s B) (hS : ∀ k, S k → k < M)
    (hY : ∀ m pre (x : KX n₀ w0) W, J pre W → pre.length < N → YieldAt F m Tryz.prog l (kEnc x) W fun e W' =>
      (e = .returned (.bool true) ∧ J (pre ++ [x]) W' ∧ Kept n₀ S W W') ∨ (e = .returned (.bool false) ∧ Jx (pre ++ [x]) W')) (sz : Nat)
    (IH : WalkSaid F l n₀ N M S w0 J Jx sz) : WalkSaid F l n₀ N M S w0 J Jx (sz + 1) := by
  intro T hT n c lv pre W hrep hb hMW hJp hN h0 hlv
  obtain ⟨c0, c1, c2⟩ := c
  have hrep' := hrep
  obtain ⟨e0, -, ⟨a3, cap3, e1, hl3, -⟩, a, cap, e2, hlen, hks⟩ := hrep.open
  simp only at e0 e1 e2
  subst e0 e1 e2
  have hdd : ∀ k : Nat, (F.depth.isSome = true → 1 ≤ k) := fun k h => by rw [hd] at h; cases h
  obtain ⟨x, hx⟩ : ∃ x : KX n₀ w0, x = ⟨(lv, T, ⟨.int .i64 T.sort, .slice a3 T.names.length cap3, .slice a T.kids.length cap⟩), hrep'⟩ := ⟨_, rfl⟩
  have hxk : kKey x = (lv, T) := by rw [hx]; rfl
  have hxe : kEnc x = #[.int .i64 lv, .agg #[.int .i64 T.sort, .slice a3 T.names.length cap3, .slice a T.kids.length cap]] := by rw [hx]; rfl
  have hsz := hb.size
  have hpl : 0 < (pord T lv).length := by rw [pord_eq]; simp
  have hg0 := World.grownBy_alloc W (.cells #[.int .i64 T.sort, .slice a3 T.names.length cap3, .slice a T.kids.length cap] 26) none
  have hJ0 := hJ pre _ _ hJp hg0
  have hK0 : Kept n₀ S W (W.alloc (.cells #[.int .i64 T.sort, .slice a3 T.names.length cap3, .slice a T.kids.length cap] 26)) := Kept.grown hg0 (by omega)
  have hSW : ¬ S W.heap.size := fun h => by have := hS _ h; omega
  have hr0 := row3_alloc W (.int .i64 T.sort) (.slice a3 T.names.length cap3) (.slice a T.kids.length cap) 26
  obtain ⟨fn, tmps, assign, body, hy, hR⟩ := YieldAt.mono (R' := fun e W1 => (e = .returned (.bool true) ∧ Hid (J (pre ++ [x]) W1) ∧ Hid (Kept n₀ S W W1) ∧ W1.cell? ⟨W.heap.size, 0, none⟩ = some (.int .i64 T.sort) ∧ W1.cell? ⟨W.heap.size, 1, none⟩ = some (.slice a3 T.names.length cap3) ∧ W1.cell? ⟨W.heap.size, 2, none⟩ = some (.slice a T.kids.length cap)) ∨ (e = .returned (.bool false) ∧ Hid (Jx (pre ++ [x]) W1)))
    (hY (n - 1) pre x _ hJ0 (by omega)) (fun e W1 h => h.elim (fun ⟨he, hj, hb1⟩ => by
      have q1 := hr0.of_block ((hb1.same W.heap.size _ hSW (World.alloc_heap_new W _) rfl).trans (World.alloc_heap_new W _).symm)
      exact .inl ⟨he, hj, hK0.trans hb1, q1.cell (i := 0) (by omega), q1.cell (i := 1) (by omega), q1.cell (i := 2) (by omega)⟩) (fun ⟨he, hj⟩ => .inr ⟨he, hj⟩))
  rw [hxe] at hy
  have HKS := hide hks; have HI := hide IH; have HB := hide hb; have HJ := hide hJ; have HN := hide hN; have HX := hide hxk; have HREP := hide hrep'; have HYY := hide hY
  clear hx hxe hg0 hJ0 hK0 hks IH hb hJ hSW hN hxk hrep' hrep hY hS hJp hr0 hsz
  have hm : ∀ w, (method 309 26 (.agg #[.int .i64 T.sort, .slice a3 T.names.length cap3, .slice a T.kids.length cap]) "loop.example/teagle/impl.kids").run Tryz.prog w = .ok (146, .agg #[.int .i64 T.sort, .slice a3 T.names.length cap3, .slice a T.kids.length cap]) w := fun _ => by kernel_rfl
  refine callsIn_of_wp Tryz.func80 rfl hf ?_ hro
  simp only [Tryz.ntmps80, List.size_toArray, List.length_cons, List.length_nil, Nat.reduceAdd, Nat.reduceSub, Array.replicate_succ, Array.replicate_zero, List.push_toArray, List.append_toArray, List.nil_append, List.cons_append]
  gi_wp2_with (first
    | ((try refine ⟨hdd _, ?_⟩); refine hR.mono ?_; clear hR hy; rintro e W1 (⟨rfl, HJ1, HK1, k0, k1, k2⟩ | ⟨rfl, HX1⟩))
    | ((try refine ⟨hdd _, ?_⟩); gi_at_call 146; refine (kids_in F (n - 1) hk hro _ _ _ _ _ _).mono ?_; rintro e w' ⟨rfl, rfl⟩))
  · clear hpl hm k0 k1 k2
    have hJL := unhide HJ _ _ _ (unhide HJ1) (World.grownBy_alloc W1 (.cells #[.int .i64 T.sort, .slice a3 T.names.length cap3, .slice a T.kids.length cap] 26) none)
    have hsW : n₀ ≤ W.heap.size := Nat.le_trans hn₀ (unhide HB).size
    have hsW1 := (unhide HK1).below.size
    have hKL : Kept n₀ S W (W1.alloc (.cells #[.int .i64 T.sort, .slice a3 T.names.length cap3, .slice a T.kids.length cap] 26)) := (unhide HK1).trans (Kept.grown (World.grownBy_alloc _ _ none) (by omega))
    have HJL := hide hJL; have HKL := hide hKL
    clear hJL hKL HJ1 HK1
    generalize hks : T.kids = ks at *
    have HKE := hide hks; clear hks
    gi_loopw [18] (fun i wr => ∃ (k : Nat) (q : List (KX n₀ w0)), k ≤ ks.length ∧ i = .int .i64 k ∧ Hid (q.map kKey = (lv, T) :: pordK (ks.take k) (lv + 1)) ∧ Hid (J (pre ++ q) wr) ∧ Hid (Kept n₀ S W wr)) (fun i _ => ks.length - (intOf i).toNat)
    case atStart => exact ⟨0, [x], Nat.zero_le _, rfl, by simp [Hid, pordK, unhide HX], unhide HJL, unhide HKL⟩
    case round =>
      obtain ⟨k, q, hk', rfl, HQ, HJQ, HKQ⟩ := hrel
      by_cases hlt : k < ks.length
      · obtain ⟨b, o, c, rfl, hbn, hat, hrepk⟩ := unhide HKS k hlt
        have hbw := (unhide HB).trans HKQ.out.below
        have hat' := hat.carry (hbw.block b hbn)
        obtain ⟨d0, d1, d2⟩ := c
        have hrepk' := hrepk
        obtain ⟨g0, -, ⟨a5, cap5, g1, -⟩, a6, cap6, g2, -⟩ := hrepk.open
        simp only at g0 g1 g2
        subst g0 g1 g2
        obtain ⟨e0, e1, e2⟩ := hat'
        simp only at e0 e1 e2
        have hmem : ks[k] ∈ T.kids := by rw [unhide HKE]; exact List.getElem_mem hlt
        have hsm : ksz ks[k] < sz := by have := ksz_kid hmem; omega
        have hsm' : ksz ks[k] < ksz T := ksz_kid hmem
        have hnext : q.map kKey ++ pord ks[k] (lv + 1) = (lv, T) :: pordK (ks.take (k + 1)) (lv + 1) := by rw [HQ.out, pordK_take ks k hlt]; simp
        have hpre : q.map kKey ++ pord ks[k] (lv + 1) <+: pord T lv := by
          rw [hnext, pord_eq, unhide HKE]
          exact (List.prefix_cons_inj _).2 (pordK_take_pre ks (k + 1) (lv + 1))
        have hlenq : pre.length + (q.length + (pord ks[k] (lv + 1)).length) ≤ N := by
          have h1 := hpre.length_le
          simp only [List.length_append, List.length_map] at h1
          have h2 := unhide HN
          omega
        have hgw := World.grownBy_alloc wr (.cells #[.int .i64 ks[k].sort, .slice a5 ks[k].names.length cap5, .slice a6 ks[k].kids.length cap6] 26) none
        have hsWr : n₀ ≤ wr.heap.size := Nat.le_trans hsW HKQ.out.below.size
        have hcall := fun m => unhide HI ks[k] hsm m ⟨.int .i64 ks[k].sort, .slice a5 ks[k].names.length cap5, .slice a6 ks[k].kids.length cap6⟩ (lv + 1) (pre ++ q) _ hrepk' (hbw.trans ((Below.refl n₀ wr).grown hgw hsWr (fun k e => by cases e))) (by have h1 := HKQ.out.below.size; have h2 := hgw.size; omega) (unhide HJ _ _ _ HJQ.out hgw) (by rw [List.length_append]; omega) (by omega) (by omega)
        have HCALL := hide hcall
        have HKN := hide (HKQ.out.trans (Kept.grown (S := S) hgw hsWr))
        have HNX := hide hnext; have HPR := hide hpre
        clear hcall hgw hnext hpre hlenq hmem hrepk hrepk' hat hbw hbn hsm
        gi_wp2_with ((try refine ⟨hdd _, ?_⟩); gi_at_call 80; refine (unhide HCALL _).mono ?_; clear HCALL; rintro e W2 (⟨rfl, q2, hq2, hJ2, hk2⟩ | ⟨rfl, q2, hq2, hx2⟩))
        · go_roundw
          case rel =>
            refine ⟨k + 1, q ++ q2, by omega, by go_num, ?_, ?_, (unhide HKN).trans hk2⟩
            · show _ = _
              rw [List.map_append, hq2]; exact unhide HNX
            · show J _ _
              rw [← List.append_assoc]; exact hJ2
          case measure => simp [intOf]; omega
        · go_ret
          refine .inr ⟨rfl, q ++ q2, ?_, by rw [← List.append_assoc]; exact hx2⟩
          rw [List.map_append]
          exact ((List.prefix_append_right_inj _).2 hq2).trans (unhide HPR)
      · gi_wp2
        go_ret
        obtain rfl : k = ks.length := by omega
        refine .inl ⟨rfl, q, ?_, HJQ.out, HKQ.out⟩
        rw [HQ.out, List.take_length, pord_eq, unhide HKE]
  · go_ret
    exact .inr ⟨rfl, [x], by rw [pord_eq]; simp [unhide HX], unhide HX1⟩

theorem walkOn_all (F : Fence) (hd : F.depth = none) (hf : F.fn 80) (hk : F.fn 146) (hro : F.round = none) (l n₀ N M : Nat) (S : Nat → Prop) (w0 : World) (hn₀ : n₀ ≤ w0.heap.size)
    (J Jx : List (KX n₀ w0) → World → Prop) (hJ : ∀ s A B, J s A → A.grownBy B none → J s B) (hS : ∀ k, S k → k < M)
    (hY : ∀ m pre (x : KX n₀ w0) W, J pre W → pre.length < N → YieldAt F m Tryz.prog l (kEnc x) W fun e W' =>
      (e = .returned (.bool true) ∧ J (pre ++ [x]) W' ∧ Kept n₀ S W W') ∨ (e = .returned (.bool false) ∧ Jx (pre ++ [x]) W')) : ∀ sz, WalkSaid F l n₀ N M S w0 J Jx sz
  | 0 => fun T h => by omega
  | sz + 1 => walkOn_step F hd hf hk hro l n₀ N M S w0 hn₀ J Jx hJ hS hY sz (walkOn_all F hd hf hk hro l n₀ N M S w0 hn₀ J Jx hJ hS hY sz)

set_option maxHeartbeats 1000000 in
/-- walk hands back a closure over a box that holds the schema. -/
theorem walk_in (F : Fence) (n : Nat) (hf : F.fn 57) (hro : F.round = none) (c0 c1 : Value) (a : Option Addr) (len cap : Nat) (w : World) :
    CallsIn F n Tryz.prog 57 #[.agg #[c0, c1, .slice a len cap]] w fun e w' => e = .returned (.func (.func 79) #[] #[.pointer (some ⟨w.heap.size, 0, none⟩)]) ∧ w' = w.alloc (.cells #[c0, c1, .slice a len cap] 26) := by
  refine callsIn_of_wp Tryz.func57 rfl hf ?_ hro
  simp only [Tryz.ntmps57, List.size_toArray, List.length_cons, List.length_nil, Nat.reduceAdd, Nat.reduceSub, Array.replicate_succ, Array.replicate_zero, List.push_toArray, List.append_toArray, List.nil_append, List.cons_append]
  gi_wp2
  go_ret
  exact ⟨rfl, rfl⟩

set_option maxHeartbeats 1000000 in
theorem walk1_in (F : Fence) (hd : F.depth = none) (n : Nat) (h1 : F.fn 79) (hf : F.fn 80) (hk : F.fn 146) (hro : F.round = none) (l Bt n₀ M : Nat) (S : Nat → Prop) (w0 : World) (hn₀ : n₀ ≤ w0.heap.size)
    (T : Kd) (c : C3) (hrep : KRep (fun b => b < n₀) w0 T c) (hlv : ksz T ≤ 1152921504606846970) (J Jx : List (KX n₀ w0) → World → Prop) (hJ : ∀ s A B, J s A → A.grownBy B none → J s B) (hS : ∀ k, S k → k < M)
    (hY : ∀ pre (x : KX n₀ w0) W, J pre W → pre.length < (pord T 1).length → YieldAt F (n - 1) Tryz.prog l (kEnc x) W fun e W' =>
      (e = .returned (.bool true) ∧ J (pre ++ [x]) W' ∧ Kept n₀ S W W') ∨ (e = .returned (.bool false) ∧ Jx (pre ++ [x]) W'))
    (W : World) (hBt : C3.at W Bt 0 c) (hb : Below n₀ w0 W) (hMW : M ≤ W.heap.size) (h0 : J [] W) :
    CallsIn F n Tryz.prog 79 #[.func (.yield l) #[] #[], .pointer (some ⟨Bt, 0, none⟩)] W fun e W' => (∃ v, e = .returned v) ∧
      ((∃ ys : List (KX n₀ w0), ys.map kKey = pord T 1 ∧ J ys W') ∨ (∃ pre : List (KX n₀ w0), pre.map kKey <+: pord T 1 ∧ Jx pre W')) := by
  have hdd : ∀ k : Nat, (F.depth.isSome = true → 1 ≤ k) := fun k h => by rw [hd] at h; cases h
  have hp := walkOn_all F hd hf hk hro l n₀ (pord T 1).length M S w0 hn₀ J Jx hJ hS (fun m pre x W hj hl => yield_any hd m (hY pre x W hj hl)) (ksz T + 1) T (by omega) (n - 1) c 1 [] W hrep hb hMW h0 (by simp) (by omega) (by omega)
  obtain ⟨c0, c1, c2⟩ := c
  obtain ⟨e0, e1, e2⟩ := hBt
  simp only at e0 e1 e2 hp
  have HP := hide hp
  clear hp hrep hY hS hJ hb
  refine callsIn_of_wp Tryz.func79 rfl h1 ?_ hro
  simp only [Tryz.ntmps79, List.size_toArray, List.length_cons, List.length_nil, Nat.reduceAdd, Nat.reduceSub, Array.replicate_succ, Array.replicate_zero, List.push_toArray, List.append_toArray, List.nil_append, List.cons_append]
  gi_wp2_with ((try refine ⟨hdd _, ?_⟩); gi_at_call 80; refine (unhide HP).mono ?_; clear HP; rintro e W1 (⟨rfl, q, hq, hJ1, _⟩ | ⟨rfl, q, hq, hx⟩))
  · go_end0
    exact ⟨⟨_, rfl⟩, .inl ⟨q, hq, by simpa using hJ1⟩⟩
  · go_end0
    exact ⟨⟨_, rfl⟩, .inr ⟨q, hq, by simpa using hx⟩⟩

end Go.Proofs.YtenpghndgdemnaaGreatDoor

/- The walk of gather with nameKind: of a schema it makes the schema with named kids, in new blocks beside those of the schema itself. For weights up to 2^20 and up to 10^6 parts. -/

namespace Go.Proofs.YtenpghndgdemnaaGreatDoor
open Go Go.RowKit Go.Maps

end Go.Proofs.YtenpghndgdemnaaGreatDoor

/- The walks of kindClaim's holds and of namedKind's kidFor. No conditions but those on the trees' and schemas' shapes that are told. -/

namespace Go.Proofs.YtenpghndgdemnaaGreatDoor
open Go Go.RowKit Go.Maps

end Go.Proofs.YtenpghndgdemnaaGreatDoor

/- Of names that rise: they are just the kept ones, if and only if they are the same. No program, no conditions. -/

namespace Go.Proofs.YtenpghndgdemnaaGreatDoor
open Go Go.RowKit Go.Maps

def nlt (a b : ByteArray) : Prop := Op.bytesLess a.toList b.toList = true
theorem nlt_iff (a b : ByteArray) : nlt a b ↔ a.toList < b.toList := by unfold nlt; rw [bytesLess_eq, decide_eq_true_eq]
theorem nlt_irrefl (a : ByteArray) : ¬ nlt a a := by rw [nlt_iff]; exact List.lt_irrefl _
theorem nlt_trans {a b c : ByteArray} (h : nlt a b) (k : nlt b c) : nlt a c := by
  rw [nlt_iff] at *; exact List.lt_trans h k

theorem rise_step {ns : List ByteArray} (h : riseB ns = true) (i : Nat) (hi : i + 1 < ns.length) : nlt ns[i] ns[i + 1] := by
  unfold riseB at h
  rw [List.all_eq_true] at h
  have hg := h (i + 1) (List.mem_range.2 hi)
  unfold good at hg
  rw [Bool.and_eq_true, getD_lt _ _ hi, getD_lt _ _ (show i + 1 - 1 < ns.length by omega)] at hg
  have := hg.2
  rw [decide_eq_false (by omega), Bool.false_or] at this
  exact this
theorem rise_lt {ns : List ByteArray} (h : riseB ns = true) (i : Nat) : ∀ (d : Nat) (hd : i + d + 1 < ns.length), nlt (ns[i]'(by omega)) ns[i + d + 1]
  | 0, hd => rise_step h i hd
  | d + 1, hd => nlt_trans (rise_lt h i d (by omega)) (rise_step h (i + d + 1) hd)
theorem rise_pairs {ns : List ByteArray} (h : riseB ns = true) : ns.Pairwise nlt := by
  rw [List.pairwise_iff_getElem]
  intro i j hi hj hij
  obtain ⟨d, rfl⟩ : ∃ d, j = i + d + 1 := ⟨j - i - 1, by omega⟩
  exact rise_lt h i d hj
theorem rise_nodup {ns : List ByteArray} (h : riseB ns = true) : ns.Nodup :=
  (rise_pairs h).imp (fun {a b} hab e => by subst e; exact nlt_irrefl _ hab)
theorem rise_sub : ∀ (ns ms : List ByteArray), ns.Pairwise nlt → ms.Pairwise nlt → (∀ x, x ∈ ms → x ∈ ns) → ms.Sublist ns
  | [], [], _, _, _ => List.Sublist.slnil
  | [], b :: s, _, _, h => by have := h b (by simp); simp at this
  | a :: r, [], _, _, _ => List.nil_sublist _
  | a :: r, b :: s, h1, h2, h => by
    rw [List.pairwise_cons] at h1
    have h2' := h2
    rw [List.pairwise_cons] at h2'
    by_cases e : b = a
    · subst e
      refine List.Sublist.cons_cons _ (rise_sub r s h1.2 h2'.2 (fun x hx => ?_))
      rcases List.mem_cons.1 (h x (List.mem_cons_of_mem _ hx)) with rfl | hr
      · exact absurd (h2'.1 x hx) (nlt_irrefl _)
      · exact hr
    · have hb : b ∈ r := (List.mem_cons.1 (h b (by simp))).resolve_left e
      refine List.Sublist.cons _ (rise_sub r (b :: s) h1.2 h2 (fun x hx => ?_))
      rcases List.mem_cons.1 (h x hx) with rfl | hr
      · rcases List.mem_cons.1 hx with rfl | hs
        · exact absurd rfl e
        · exact absurd (nlt_trans (h1.1 b hb) (h2'.1 x hs)) (nlt_irrefl _)
      · exact hr
end Go.Proofs.YtenpghndgdemnaaGreatDoor

/- The names of two forms, in order and each once; where a name lies among names that rise. No program, no conditions. -/

namespace Go.Proofs.YtenpghndgdemnaaGreatDoor
open Go Go.RowKit

/-- Of a row whose neighbours' doubles go nothing is lost. -/
theorem cmp_mem_upto (d : Array (List UInt8)) (x : List UInt8) : ∀ m, x ∈ Lib.compactUpTo d m ↔ ∃ j, j < m ∧ d[j]! = x
  | 0 => by simp [Lib.compactUpTo]
  | m + 1 => by
    rw [Lib.compactUpTo_succ, List.mem_append, cmp_mem_upto d x m]
    by_cases hk : Lib.keeps d m = true
    · rw [if_pos hk]
      constructor
      · rintro (⟨j, hj, e⟩ | h)
        · exact ⟨j, by omega, e⟩
        · exact ⟨m, by omega, (List.mem_singleton.1 h).symm⟩
      · rintro ⟨j, hj, e⟩
        by_cases h : j = m
        · subst h; exact Or.inr (List.mem_singleton.2 e.symm)
        · exact Or.inl ⟨j, by omega, e⟩
    · rw [if_neg hk]
      have hk2 : m ≠ 0 ∧ d[m]! = d[m - 1]! := by
        unfold Lib.keeps at hk
        rw [decide_eq_true_eq] at hk
        refine ⟨fun h => hk (Or.inl h), ?_⟩
        by_cases h : d[m]! = d[m - 1]!
        · exact h
        · exact absurd (Or.inr h) hk
      constructor
      · rintro (⟨j, hj, e⟩ | h)
        · exact ⟨j, by omega, e⟩
        · cases h
      · rintro ⟨j, hj, e⟩
        by_cases h : j = m
        · subst h; exact Or.inl ⟨j - 1, by omega, by rw [← hk2.2]; exact e⟩
        · exact Or.inl ⟨j, by omega, e⟩
theorem cmp_mem {zs : List (List UInt8)} {x : List UInt8} : x ∈ Lib.compact zs ↔ x ∈ zs := by
  unfold Lib.compact
  rw [cmp_mem_upto, List.mem_iff_getElem]
  constructor
  · rintro ⟨j, hj, e⟩
    exact ⟨j, hj, by rw [← e]; simp [hj]⟩
  · rintro ⟨j, hj, e⟩
    exact ⟨j, hj, by rw [← e]; simp [hj]⟩
theorem le_ne_lt {a b : List UInt8} (h : a ≤ b) (hne : b ≠ a) : a < b := by
  rcases Classical.em (a < b) with h1 | h1
  · exact h1
  · exact absurd (List.le_antisymm (List.not_lt.1 h1) h) hne
theorem cmp_rise_upto (d : Array (List UInt8)) (hs : ∀ i j, i < j → j < d.size → d[i]! ≤ d[j]!) : ∀ m, m ≤ d.size → (Lib.compactUpTo d m).Pairwise (· < ·) ∧ ∀ x, x ∈ Lib.compactUpTo d m → x ≤ d[m - 1]!
  | 0, _ => by simp [Lib.compactUpTo]
  | m + 1, hm => by
    obtain ⟨h1, h2⟩ := cmp_rise_upto d hs m (by omega)
    have hle : ∀ x, x ∈ Lib.compactUpTo d m → x ≤ d[m]! := fun x hx => by
      have h0 : m ≠ 0 := by rintro rfl; simp [Lib.compactUpTo] at hx
      exact List.le_trans (h2 x hx) (hs (m - 1) m (by omega) (by omega))
    rw [Lib.compactUpTo_succ]
    by_cases hk : Lib.keeps d m = true
    · rw [if_pos hk, List.pairwise_append]
      refine ⟨⟨h1, List.pairwise_singleton _ _, fun x hx y hy => ?_⟩, fun x hx => ?_⟩
      · rw [List.mem_singleton.1 hy]
        have h0 : m ≠ 0 := by rintro rfl; simp [Lib.compactUpTo] at hx
        unfold Lib.keeps at hk
        rw [decide_eq_true_eq] at hk
        have hne := hk.resolve_left h0
        have h3 : d[m - 1]! < d[m]! := le_ne_lt (hs (m - 1) m (by omega) (by omega)) hne
        exact List.lt_of_le_of_lt (h2 x hx) h3
      · rcases List.mem_append.1 hx with h | h
        · exact hle x h
        · rw [List.mem_singleton.1 h]; exact List.le_refl _
    · rw [if_neg hk, List.append_nil]
      exact ⟨h1, fun x hx => hle x hx⟩
theorem cmp_rise {zs : List (List UInt8)} (h : zs.Pairwise fun x y => decide (x ≤ y) = true) : (Lib.compact zs).Pairwise (· < ·) := by
  refine (cmp_rise_upto zs.toArray (fun i j hij hj => ?_) zs.length (by simp)).1
  have hj' : j < zs.length := by simpa using hj
  have := List.pairwise_iff_getElem.1 h i j (by omega) hj' hij
  rw [decide_eq_true_eq] at this
  simpa [hj', show i < zs.length by omega] using this
/-- The names of both, in order, each once. -/
def srtS (zs : List (List UInt8)) : List (List UInt8) := zs.mergeSort fun x y => decide (x ≤ y)
theorem srtS_rise (zs : List (List UInt8)) : (srtS zs).Pairwise fun x y => decide (x ≤ y) = true :=
  List.pairwise_mergeSort (le := fun (x y : List UInt8) => decide (x ≤ y)) (fun a b c h1 h2 => by rw [decide_eq_true_eq] at *; exact List.le_trans h1 h2) (fun a b => by simpa using List.le_total a b) zs
theorem srtS_mem {zs : List (List UInt8)} {x : List UInt8} : x ∈ srtS zs ↔ x ∈ zs := (List.mergeSort_perm zs _).mem_iff
theorem srtS_len (zs : List (List UInt8)) : (srtS zs).length = zs.length := (List.mergeSort_perm zs _).length_eq
def uniL (an bn : List ByteArray) : List (List UInt8) := Lib.compact (srtS ((an ++ bn).map ByteArray.toList))
def uniN (an bn : List ByteArray) : List ByteArray := (uniL an bn).map fun l => ⟨l.toArray⟩
theorem ba_of (x : ByteArray) : (⟨x.toList.toArray⟩ : ByteArray) = x := by rw [Lib.toList_data]
theorem ba_to (l : List UInt8) : (⟨l.toArray⟩ : ByteArray).toList = l := by rw [Lib.toList_data]
theorem uniN_mem {an bn : List ByteArray} (nm : ByteArray) : nm ∈ uniN an bn ↔ nm ∈ an ∨ nm ∈ bn := by
  unfold uniN uniL
  rw [List.mem_map, ← List.mem_append]
  constructor
  · rintro ⟨l, hl, rfl⟩
    rw [cmp_mem, srtS_mem, List.mem_map] at hl
    obtain ⟨y, hy, rfl⟩ := hl
    rw [ba_of]; exact hy
  · intro h
    exact ⟨nm.toList, by rw [cmp_mem, srtS_mem]; exact List.mem_map_of_mem h, ba_of nm⟩
theorem uniN_rise (an bn : List ByteArray) : (uniN an bn).Pairwise nlt := by
  unfold uniN
  rw [List.pairwise_map]
  refine (cmp_rise (srtS_rise _)).imp (fun {a b} h => ?_)
  rw [nlt_iff, ba_to, ba_to]
  exact h
theorem uniL_len (an bn : List ByteArray) : (uniL an bn).length ≤ an.length + bn.length := by
  unfold uniL Lib.compact Lib.compactUpTo
  rw [List.length_map]
  refine Nat.le_trans (List.length_filter_le _ _) ?_
  rw [List.length_range, srtS_len]
  simp
theorem uniN_len (an bn : List ByteArray) : (uniN an bn).length = (uniL an bn).length := by unfold uniN; rw [List.length_map]
/-- Where a name is, or would be, among names that rise. -/
theorem bs_place {ns : List ByteArray} (hr : ns.Pairwise nlt) (x : ByteArray) : ∃ k, k ≤ ns.length ∧ (∀ t, t < k → Op.bytesLess (ns.getD t x).toList x.toList = true) ∧ (∀ t, k ≤ t → Op.bytesLess (ns.getD t x).toList x.toList = false) := by
  refine ⟨ns.findIdx (fun y => !Op.bytesLess y.toList x.toList), List.findIdx_le_length, fun t ht => ?_, fun t ht => ?_⟩
  · have hl : t < ns.length := Nat.lt_of_lt_of_le ht List.findIdx_le_length
    have := List.not_of_lt_findIdx ht
    rw [List.getD_eq_getElem?_getD, List.getElem?_eq_getElem hl, Option.getD_some]
    simpa using this
  · by_cases hl : t < ns.length
    · rw [List.getD_eq_getElem?_getD, List.getElem?_eq_getElem hl, Option.getD_some]
      have hk : ns.findIdx (fun y => !Op.bytesLess y.toList x.toList) < ns.length := by omega
      have h0 := List.findIdx_getElem (w := hk)
      by_cases e : ns.findIdx (fun y => !Op.bytesLess y.toList x.toList) = t
      · subst e; simpa using h0
      · have h1 := List.pairwise_iff_getElem.1 hr _ t hk hl (by omega)
        rw [Bool.eq_false_iff]
        intro h2
        have h3 := nlt_trans h1 h2
        rw [nlt] at h3
        rw [h3] at h0
        cases h0
    · rw [List.getD_eq_getElem?_getD, List.getElem?_eq_none (by omega), Option.getD_none, less_irr]
/-- The kid of a name, found so. -/
theorem kidZ_at {k : Kd} {x : ByteArray} {i : Nat} (hr : k.names.Pairwise nlt) (hl : k.kids.length = k.names.length) (hi : i < k.names.length) (h : k.names[i] = x) : kidZ k x = k.kids[i]'(by omega) := by
  unfold kidZ
  rw [← h, kidN_at (hr.imp (fun {a b} hab e => by subst e; exact nlt_irrefl _ hab)) hl hi]
  rfl
theorem kidZ_not {k : Kd} {x : ByteArray} {i : Nat} (hr : k.names.Pairwise nlt) (h1 : ∀ t, t < i → Op.bytesLess (k.names.getD t x).toList x.toList = true) (h2 : ∀ t, i ≤ t → Op.bytesLess (k.names.getD t x).toList x.toList = false) (hn : ¬ (i < k.names.length ∧ k.names.getD i x = x)) : kidZ k x = kd0 ∧ x ∉ k.names := by
  have hx : x ∉ k.names := fun hm => by
    obtain ⟨j, hj, e⟩ := List.mem_iff_getElem.1 hm
    have ej : k.names.getD j x = x := by rw [List.getD_eq_getElem?_getD, List.getElem?_eq_getElem hj, Option.getD_some, e]
    rcases Nat.lt_trichotomy j i with h | h | h
    · have := h1 j h
      rw [ej, less_irr] at this
      cases this
    · subst h; exact hn ⟨hj, ej⟩
    · have hi : i < k.names.length := by omega
      have h3 := List.pairwise_iff_getElem.1 hr i j hi hj h
      have h4 := h2 i (Nat.le_refl _)
      rw [List.getD_eq_getElem?_getD, List.getElem?_eq_getElem hi, Option.getD_some] at h4
      rw [nlt, e, h4] at h3
      cases h3
  exact ⟨by unfold kidZ; rw [kidN_none hx]; rfl, hx⟩
end Go.Proofs.YtenpghndgdemnaaGreatDoor

/- slices.BinarySearch and slices.Grow at []string: the library's contracts, laid at this program. No conditions. -/

namespace Go.Proofs.YtenpghndgdemnaaGreatDoor
open Go Go.RowKit Go.Shelf

def bsRen : Go.Shelf.Ren := ⟨fun | 26 => 101 | 33 => 107 | 34 => 108 | 38 => 112 | n => n, fun | 24 => 23 | 40 => 154 | n => n, fun | n => n⟩
theorem bsLay : Go.Proofs.Lays2.n26 Tryz.prog bsRen := {
  mixed := by kernel_rfl
  f26 := Tryz.func101.trans (congrArg some (by kernel_rfl))
  f33 := Tryz.func107.trans (congrArg some (by kernel_rfl))
  f34 := Tryz.func108.trans (congrArg some (by kernel_rfl))
  f38 := Tryz.func112.trans (congrArg some (by kernel_rfl))
  t0 := Tryz.underlying0
  a0 := Tryz.isAgg0
  z0 := Tryz.sizeOf0
  v0 := Tryz.zeroValue0
  t3 := Tryz.underlying3
  a3 := Tryz.isAgg3
  z3 := Tryz.sizeOf3
  v3 := Tryz.zeroValue3
  t4 := Tryz.underlying4
  a4 := Tryz.isAgg4
  z4 := Tryz.sizeOf4
  v4 := Tryz.zeroValue4
  t9 := Tryz.underlying9
  a9 := Tryz.isAgg9
  z9 := Tryz.sizeOf9
  v9 := Tryz.zeroValue9
  t24 := Tryz.underlying23
  a24 := Tryz.isAgg23
  z24 := Tryz.sizeOf23
  v24 := Tryz.zeroValue23
  t40 := Tryz.underlying154
  a40 := Tryz.isAgg154
  z40 := Tryz.sizeOf154
  v40 := Tryz.zeroValue154 }
def grRen : Go.Shelf.Ren := ⟨fun | 4 => 109 | n => n, fun | 20 => 20 | 22 => 23 | 25 => 9 | n => n, fun | n => n⟩
theorem grLay : Go.Proofs.Lays8.n4 Tryz.prog grRen := {
  mixed := by kernel_rfl
  f4 := ⟨"slices.Grow[[]string,string]", by kernel_rfl, Tryz.func109.trans (congrArg some (by kernel_rfl))⟩
  t0 := Tryz.underlying0
  a0 := Tryz.isAgg0
  z0 := Tryz.sizeOf0
  v0 := Tryz.zeroValue0
  t3 := Tryz.underlying3
  a3 := Tryz.isAgg3
  z3 := Tryz.sizeOf3
  v3 := Tryz.zeroValue3
  t4 := Tryz.underlying4
  a4 := Tryz.isAgg4
  z4 := Tryz.sizeOf4
  v4 := Tryz.zeroValue4
  t9 := Tryz.underlying9
  a9 := Tryz.isAgg9
  z9 := Tryz.sizeOf9
  v9 := Tryz.zeroValue9
  t20 := Tryz.underlying20
  a20 := Tryz.isAgg20
  z20 := Tryz.sizeOf20
  v20 := Tryz.zeroValue20
  t22 := Tryz.underlying23
  a22 := Tryz.isAgg23
  z22 := Tryz.sizeOf23
  v22 := Tryz.zeroValue23 }
end Go.Proofs.YtenpghndgdemnaaGreatDoor
