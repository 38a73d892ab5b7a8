/- The walker over schemas: walkOn, walk's closure and walk itself: they hand a node and all below it to whoever listens, a node ahead of its kids, and turn nothing that was there. No conditions but a bound on the levels. -/
import Derived.RangeFuncNested
import Derived.RangeFuncBound
import Derived.RangeFuncCalls
import Derived.RangeFuncLeaves
import Derived.Shelf.Abstract
import Derived.Shelf.RegionOpen
import Derived.WalkKit
import Derived.OwnWalkIn
import Derived.TacticsInMore
import Derived.LoopNIn
import Derived.LoopIn
import Derived.Test.YthkjhmcbmakkdaaDoorPart07
import Derived.Test.YthkjhmcbmakkdaaDoorRows
import Derived.Test.YthkjhmcbmakkdaaDoorPart06
import Derived.Test.YthkjhmcbmakkdaaDoorPart15
namespace Go.Proofs.YthkjhmcbmakkdaaDoor
open Go Go.RowKit Go.Shelf

attribute [local go_sem] Oper.semAt_some

/-- A schema that lies in a world, with a level. -/
abbrev KX (n₀ : Nat) (w0 : World) := { x : Int × Kd × C3 // KRep (fun b => b < n₀) w0 x.2.1 x.2.2 }
def kKey {n₀ : Nat} {w0 : World} (x : KX n₀ w0) : Int × Kd := (x.1.1, x.1.2.1)
def kEnc {n₀ : Nat} {w0 : World} (x : KX n₀ w0) : Array Value := #[.int .i64 x.1.1, .agg #[x.1.2.2.c0, x.1.2.2.c1, x.1.2.2.c2]]

/-- Nothing below n₀ has turned, and no cells but those of which S holds. -/
structure Kept (n₀ : Nat) (S : Nat → Prop) (W W' : World) : Prop where
  below : Below n₀ W W'
  same : ∀ k (o : Obj), ¬ S k → W.heap[k]? = some o → o.isCells = true → W'.heap[k]? = some o

theorem Kept.refl (n₀ : Nat) (S : Nat → Prop) (W : World) : Kept n₀ S W W := ⟨Below.refl _ _, fun _ _ _ h _ => h⟩
theorem Kept.trans {n₀ : Nat} {S : Nat → Prop} {A B C : World} (h : Kept n₀ S A B) (k : Kept n₀ S B C) : Kept n₀ S A C :=
  ⟨h.below.trans k.below, fun i o hs hi ho => k.same i o hs (h.same i o hs hi ho) ho⟩
theorem Kept.grown {n₀ : Nat} {S : Nat → Prop} {A B : World} (hg : A.grownBy B none) (hn : n₀ ≤ A.heap.size) : Kept n₀ S A B :=
  ⟨(Below.refl _ _).grown hg hn (fun k e => by cases e), fun k o _ hk _ => (hg.block k (Array.getElem?_eq_some_iff.1 hk).1 (by simp)).trans hk⟩
theorem Kept.putObj {n₀ : Nat} {S : Nat → Prop} {w : World} (hn : n₀ ≤ w.heap.size) (W : World) (l : Nat) (o o' : Obj) (hl : w.heap.size ≤ l) (h : W.heap[l]? = some o) (hc : o.isCells = false) (hw : o.isWalk = false) : Kept n₀ S W (W.putObj l o') :=
  ⟨belowK_b hn W l o o' hl h hc hw, fun k o2 _ hk hc2 => (World.putObj_heap_other (fun e => by subst e; rw [h] at hk; cases hk; rw [hc] at hc2; cases hc2)).trans hk⟩

theorem depth_any {F : Fence} (hd : F.depth = none) (k : Nat) : F.room k := fun d h => by rw [hd] at h; cases h
theorem round_any {F : Fence} (hd : F.depth = none) {m m' : Nat} {P : Program} {l : Nat} {f : FuncId} {tmps : Array Value} {assign body : Code} {w : World} {R : Ending → World → Prop}
    (h : RoundIn F m P l f tmps assign body w R) : RoundIn F m' P l f tmps assign body w R := ⟨h.1, fun c cs _ => h.2 c cs (depth_any hd _)⟩
theorem yield_any {F : Fence} (hd : F.depth = none) {m : Nat} (m' : Nat) {P : Program} {l : Nat} {args : Array Value} {W : World} {R : Ending → World → Prop} (h : YieldAt F m P l args W R) : YieldAt F m' P l args W R := by
  obtain ⟨fn, tmps, assign, body, hy, hR⟩ := h
  exact ⟨fn, tmps, assign, body, hy, round_any hd hR⟩

theorem pordK_take (ks : List Kd) (k : Nat) (h : k < ks.length) (l : Int) : pordK (ks.take (k + 1)) l = pordK (ks.take k) l ++ pord ks[k] l := by
  induction ks generalizing k with
  | nil => simp at h
  | cons a r ih =>
    cases k with
    | zero => simp [pordK]
    | succ k => simp only [List.take_succ_cons, pordK, List.getElem_cons_succ]; rw [ih k (by simpa using h), List.append_assoc]

theorem pordK_take_pre (ks : List Kd) (k : Nat) (l : Int) : pordK (ks.take k) l <+: pordK ks l := by
  induction ks generalizing k with
  | nil => simp [pordK]
  | cons a r ih =>
    cases k with
    | zero => simp [pordK]
    | succ k => simp only [List.take_succ_cons, pordK]; exact (List.prefix_append_right_inj _).2 (ih k)

set_option maxHeartbeats 1000000 in
theorem kids_in (F : Fence) (n : Nat) (hf : F.fn 111) (hro : F.round = none) (c0 c1 : Value) (a : Option Addr) (len cap : Nat) (w : World) :
    CallsIn F n Tryd.prog 111 #[.agg #[c0, c1, .slice a len cap]] w fun e w' => e = .returned (.slice a len cap) ∧ w' = w.alloc (.cells #[c0, c1, .slice a len cap] 26) := by
  refine callsIn_of_wp Tryd.func111 rfl hf ?_ hro
  simp only [Tryd.ntmps111, List.size_toArray, List.length_cons, List.length_nil, Nat.reduceAdd, Nat.reduceSub, Array.replicate_succ, Array.replicate_zero, List.push_toArray, List.append_toArray, List.nil_append, List.cons_append]
  gi_wp2
  go_ret
  exact ⟨rfl, rfl⟩

def WalkSaid (F : Fence) (l n₀ N M : Nat) (S : Nat → Prop) (w0 : World) (J Jx : List (KX n₀ w0) → World → Prop) (sz : Nat) : Prop :=
  ∀ (T : Kd), ksz T < sz → ∀ (n : Nat) (c : C3) (lv : Int) (pre : List (KX n₀ w0)) (W : World), KRep (fun b => b < n₀) w0 T c → Below n₀ w0 W → M ≤ W.heap.size → J pre W → pre.length + (pord T lv).length ≤ N → 0 ≤ lv → lv + ksz T ≤ 1152921504606846976 →
    CallsIn F n Tryd.prog 50 #[.agg #[c.c0, c.c1, c.c2], .int .i64 lv, .func (.yield l) #[] #[]] W fun e W' =>
      (e = .returned (.bool true) ∧ ∃ q : List (KX n₀ w0), q.map kKey = pord T lv ∧ J (pre ++ q) W' ∧ Kept n₀ S W W') ∨ (e = .returned (.bool false) ∧ ∃ q : List (KX n₀ w0), q.map kKey <+: pord T lv ∧ Jx (pre ++ q) W')

set_option maxRecDepth 100000 in
set_option maxHeartbeats 2000000 in
theorem walkOn_step (F : Fence) (hd : F.depth = none) (hf : F.fn 50) (hk : F.fn 111) (hro : F.round = none) (l n₀ N M : Nat) (S : Nat → Prop) (w0 : World) (hn₀ : n₀ ≤ w0.heap.size)
    (J Jx : List (KX n₀ w0) → World → Prop) (hJ : ∀ s A B, J s A → A.grownBy B none → J s B) (hS : ∀ k, S k → k < M)
    (hY : ∀ m pre (x : KX n₀ w0) W, J pre W → pre.length < N → YieldAt F m Tryd.prog l (kEnc x) W fun e W' =>
      (e = .returned (.bool true) ∧ J (pre ++ [x]) W' ∧ Kept n₀ S W W') ∨ (e = .returned (.bool false) ∧ Jx (pre ++ [x]) W')) (sz : Nat)
    (IH : WalkSaid F l n₀ N M S w0 J Jx sz) : WalkSaid F l n₀ N M S w0 J Jx (sz + 1) := by
  intro T hT n c lv pre W hrep hb hMW hJp hN h0 hlv
  obtain ⟨c0, c1, c2⟩ := c
  have hrep' := hrep
  obtain ⟨e0, -, ⟨a3, cap3, e1, hl3, -⟩, a, cap, e2, hlen, hks⟩ := hrep.open
  simp only at e0 e1 e2
  subst e0 e1 e2
  have hdd : ∀ k : Nat, (F.depth.isSome = true → 1 ≤ k) := fun k h => by rw [hd] at h; cases h
  obtain ⟨x, hx⟩ : ∃ x : KX n₀ w0, x = ⟨(lv, T, ⟨.int .i64 T.sort, .slice a3 T.names.length cap3, .slice a T.kids.length cap⟩), hrep'⟩ := ⟨_, rfl⟩
  have hxk : kKey x = (lv, T) := by rw [hx]; rfl
  have hxe : kEnc x = #[.int .i64 lv, .agg #[.int .i64 T.sort, .slice a3 T.names.length cap3, .slice a T.kids.length cap]] := by rw [hx]; rfl
  have hsz := hb.size
  have hpl : 0 < (pord T lv).length := by rw [pord_eq]; simp
  have hg0 := World.grownBy_alloc W (.cells #[.int .i64 T.sort, .slice a3 T.names.length cap3, .slice a T.kids.length cap] 26) none
  have hJ0 := hJ pre _ _ hJp hg0
  have hK0 : Kept n₀ S W (W.alloc (.cells #[.int .i64 T.sort, .slice a3 T.names.length cap3, .slice a T.kids.length cap] 26)) := Kept.grown hg0 (by omega)
  have hSW : ¬ S W.heap.size := fun h => by have := hS _ h; omega
  have hr0 := row3_alloc W (.int .i64 T.sort) (.slice a3 T.names.length cap3) (.slice a T.kids.length cap) 26
  obtain ⟨fn, tmps, assign, body, hy, hR⟩ := YieldAt.mono (R' := fun e W1 => (e = .returned (.bool true) ∧ Hid (J (pre ++ [x]) W1) ∧ Hid (Kept n₀ S W W1) ∧ W1.cell? ⟨W.heap.size, 0, none⟩ = some (.int .i64 T.sort) ∧ W1.cell? ⟨W.heap.size, 1, none⟩ = some (.slice a3 T.names.length cap3) ∧ W1.cell? ⟨W.heap.size, 2, none⟩ = some (.slice a T.kids.length cap)) ∨ (e = .returned (.bool false) ∧ Hid (Jx (pre ++ [x]) W1)))
    (hY (n - 1) pre x _ hJ0 (by omega)) (fun e W1 h => h.elim (fun ⟨he, hj, hb1⟩ => by
      have q1 := hr0.of_block ((hb1.same W.heap.size _ hSW (World.alloc_heap_new W _) rfl).trans (World.alloc_heap_new W _).symm)
      exact .inl ⟨he, hj, hK0.trans hb1, q1.cell (i := 0) (by omega), q1.cell (i := 1) (by omega), q1.cell (i := 2) (by omega)⟩) (fun ⟨he, hj⟩ => .inr ⟨he, hj⟩))
  rw [hxe] at hy
  have HKS := hide hks; have HI := hide IH; have HB := hide hb; have HJ := hide hJ; have HN := hide hN; have HX := hide hxk; have HREP := hide hrep'; have HYY := hide hY
  clear hx hxe hg0 hJ0 hK0 hks IH hb hJ hSW hN hxk hrep' hrep hY hS hJp hr0 hsz
  have hm : ∀ w, (method 267 26 (.agg #[.int .i64 T.sort, .slice a3 T.names.length cap3, .slice a T.kids.length cap]) "loop.example/teagle/impl.kids").run Tryd.prog w = .ok (111, .agg #[.int .i64 T.sort, .slice a3 T.names.length cap3, .slice a T.kids.length cap]) w := fun _ => by kernel_rfl
  refine callsIn_of_wp Tryd.func50 rfl hf ?_ hro
  simp only [Tryd.ntmps50, List.size_toArray, List.length_cons, List.length_nil, Nat.reduceAdd, Nat.reduceSub, Array.replicate_succ, Array.replicate_zero, List.push_toArray, List.append_toArray, List.nil_append, List.cons_append]
  gi_wp2_with (first
    | ((try refine ⟨hdd _, ?_⟩); refine hR.mono ?_; clear hR hy; rintro e W1 (⟨rfl, HJ1, HK1, k0, k1, k2⟩ | ⟨rfl, HX1⟩))
    | ((try refine ⟨hdd _, ?_⟩); gi_at_call 111; refine (kids_in F (n - 1) hk hro _ _ _ _ _ _).mono ?_; rintro e w' ⟨rfl, rfl⟩))
  · clear hpl hm k0 k1 k2
    have hJL := unhide HJ _ _ _ (unhide HJ1) (World.grownBy_alloc W1 (.cells #[.int .i64 T.sort, .slice a3 T.names.length cap3, .slice a T.kids.length cap] 26) none)
    have hsW : n₀ ≤ W.heap.size := Nat.le_trans hn₀ (unhide HB).size
    have hsW1 := (unhide HK1).below.size
    have hKL : Kept n₀ S W (W1.alloc (.cells #[.int .i64 T.sort, .slice a3 T.names.length cap3, .slice a T.kids.length cap] 26)) := (unhide HK1).trans (Kept.grown (World.grownBy_alloc _ _ none) (by omega))
    have HJL := hide hJL; have HKL := hide hKL
    clear hJL hKL HJ1 HK1
    generalize hks : T.kids = ks at *
    have HKE := hide hks; clear hks
    gi_loopw [18] (fun i wr => ∃ (k : Nat) (q : List (KX n₀ w0)), k ≤ ks.length ∧ i = .int .i64 k ∧ Hid (q.map kKey = (lv, T) :: pordK (ks.take k) (lv + 1)) ∧ Hid (J (pre ++ q) wr) ∧ Hid (Kept n₀ S W wr)) (fun i _ => ks.length - (intOf i).toNat)
    case atStart => exact ⟨0, [x], Nat.zero_le _, rfl, by simp [Hid, pordK, unhide HX], unhide HJL, unhide HKL⟩
    case round =>
      obtain ⟨k, q, hk', rfl, HQ, HJQ, HKQ⟩ := hrel
      by_cases hlt : k < ks.length
      · obtain ⟨b, o, c, rfl, hbn, hat, hrepk⟩ := unhide HKS k hlt
        have hbw := (unhide HB).trans HKQ.out.below
        have hat' := hat.carry (hbw.block b hbn)
        obtain ⟨d0, d1, d2⟩ := c
        have hrepk' := hrepk
        obtain ⟨g0, -, ⟨a5, cap5, g1, -⟩, a6, cap6, g2, -⟩ := hrepk.open
        simp only at g0 g1 g2
        subst g0 g1 g2
        obtain ⟨e0, e1, e2⟩ := hat'
        simp only at e0 e1 e2
        have hmem : ks[k] ∈ T.kids := by rw [unhide HKE]; exact List.getElem_mem hlt
        have hsm : ksz ks[k] < sz := by have := ksz_kid hmem; omega
        have hsm' : ksz ks[k] < ksz T := ksz_kid hmem
        have hnext : q.map kKey ++ pord ks[k] (lv + 1) = (lv, T) :: pordK (ks.take (k + 1)) (lv + 1) := by rw [HQ.out, pordK_take ks k hlt]; simp
        have hpre : q.map kKey ++ pord ks[k] (lv + 1) <+: pord T lv := by
          rw [hnext, pord_eq, unhide HKE]
          exact (List.prefix_cons_inj _).2 (pordK_take_pre ks (k + 1) (lv + 1))
        have hlenq : pre.length + (q.length + (pord ks[k] (lv + 1)).length) ≤ N := by
          have h1 := hpre.length_le
          simp only [List.length_append, List.length_map] at h1
          have h2 := unhide HN
          omega
        have hgw := World.grownBy_alloc wr (.cells #[.int .i64 ks[k].sort, .slice a5 ks[k].names.length cap5, .slice a6 ks[k].kids.length cap6] 26) none
        have hsWr : n₀ ≤ wr.heap.size := Nat.le_trans hsW HKQ.out.below.size
        have hcall := fun m => unhide HI ks[k] hsm m ⟨.int .i64 ks[k].sort, .slice a5 ks[k].names.length cap5, .slice a6 ks[k].kids.length cap6⟩ (lv + 1) (pre ++ q) _ hrepk' (hbw.trans ((Below.refl n₀ wr).grown hgw hsWr (fun k e => by cases e))) (by have h1 := HKQ.out.below.size; have h2 := hgw.size; omega) (unhide HJ _ _ _ HJQ.out hgw) (by rw [List.length_append]; omega) (by omega) (by omega)
        have HCALL := hide hcall
        have HKN := hide (HKQ.out.trans (Kept.grown (S := S) hgw hsWr))
        have HNX := hide hnext; have HPR := hide hpre
        clear hcall hgw hnext hpre hlenq hmem hrepk hrepk' hat hbw hbn hsm
        gi_wp2_with ((try refine ⟨hdd _, ?_⟩); gi_at_call 50; refine (unhide HCALL _).mono ?_; clear HCALL; rintro e W2 (⟨rfl, q2, hq2, hJ2, hk2⟩ | ⟨rfl, q2, hq2, hx2⟩))
        · go_roundw
          case rel =>
            refine ⟨k + 1, q ++ q2, by omega, by go_num, ?_, ?_, (unhide HKN).trans hk2⟩
            · show _ = _
              rw [List.map_append, hq2]; exact unhide HNX
            · show J _ _
              rw [← List.append_assoc]; exact hJ2
          case measure => simp [intOf]; omega
        · go_ret
          refine .inr ⟨rfl, q ++ q2, ?_, by rw [← List.append_assoc]; exact hx2⟩
          rw [List.map_append]
          exact ((List.prefix_append_right_inj _).2 hq2).trans (unhide HPR)
      · gi_wp2
        go_ret
        obtain rfl : k = ks.length := by omega
        refine .inl ⟨rfl, q, ?_, HJQ.out, HKQ.out⟩
        rw [HQ.out, List.take_length, pord_eq, unhide HKE]
  · go_ret
    exact .inr ⟨rfl, [x], by rw [pord_eq]; simp [unhide HX], unhide HX1⟩

theorem walkOn_all (F : Fence) (hd : F.depth = none) (hf : F.fn 50) (hk : F.fn 111) (hro : F.round = none) (l n₀ N M : Nat) (S : Nat → Prop) (w0 : World) (hn₀ : n₀ ≤ w0.heap.size)
    (J Jx : List (KX n₀ w0) → World → Prop) (hJ : ∀ s A B, J s A → A.grownBy B none → J s B) (hS : ∀ k, S k → k < M)
    (hY : ∀ m pre (x : KX n₀ w0) W, J pre W → pre.length < N → YieldAt F m Tryd.prog l (kEnc x) W fun e W' =>
      (e = .returned (.bool true) ∧ J (pre ++ [x]) W' ∧ Kept n₀ S W W') ∨ (e = .returned (.bool false) ∧ Jx (pre ++ [x]) W')) : ∀ sz, WalkSaid F l n₀ N M S w0 J Jx sz
  | 0 => fun T h => by omega
  | sz + 1 => walkOn_step F hd hf hk hro l n₀ N M S w0 hn₀ J Jx hJ hS hY sz (walkOn_all F hd hf hk hro l n₀ N M S w0 hn₀ J Jx hJ hS hY sz)

set_option maxHeartbeats 1000000 in
/-- walk hands back a closure over a box that holds the schema. -/
theorem walk_in (F : Fence) (n : Nat) (hf : F.fn 25) (hro : F.round = none) (c0 c1 : Value) (a : Option Addr) (len cap : Nat) (w : World) :
    CallsIn F n Tryd.prog 25 #[.agg #[c0, c1, .slice a len cap]] w fun e w' => e = .returned (.func (.func 49) #[] #[.pointer (some ⟨w.heap.size, 0, none⟩)]) ∧ w' = w.alloc (.cells #[c0, c1, .slice a len cap] 26) := by
  refine callsIn_of_wp Tryd.func25 rfl hf ?_ hro
  simp only [Tryd.ntmps25, List.size_toArray, List.length_cons, List.length_nil, Nat.reduceAdd, Nat.reduceSub, Array.replicate_succ, Array.replicate_zero, List.push_toArray, List.append_toArray, List.nil_append, List.cons_append]
  gi_wp2
  go_ret
  exact ⟨rfl, rfl⟩

set_option maxHeartbeats 1000000 in
theorem walk1_in (F : Fence) (hd : F.depth = none) (n : Nat) (h1 : F.fn 49) (hf : F.fn 50) (hk : F.fn 111) (hro : F.round = none) (l Bt n₀ M : Nat) (S : Nat → Prop) (w0 : World) (hn₀ : n₀ ≤ w0.heap.size)
    (T : Kd) (c : C3) (hrep : KRep (fun b => b < n₀) w0 T c) (hlv : ksz T ≤ 1152921504606846970) (J Jx : List (KX n₀ w0) → World → Prop) (hJ : ∀ s A B, J s A → A.grownBy B none → J s B) (hS : ∀ k, S k → k < M)
    (hY : ∀ pre (x : KX n₀ w0) W, J pre W → pre.length < (pord T 1).length → YieldAt F (n - 1) Tryd.prog l (kEnc x) W fun e W' =>
      (e = .returned (.bool true) ∧ J (pre ++ [x]) W' ∧ Kept n₀ S W W') ∨ (e = .returned (.bool false) ∧ Jx (pre ++ [x]) W'))
    (W : World) (hBt : C3.at W Bt 0 c) (hb : Below n₀ w0 W) (hMW : M ≤ W.heap.size) (h0 : J [] W) :
    CallsIn F n Tryd.prog 49 #[.func (.yield l) #[] #[], .pointer (some ⟨Bt, 0, none⟩)] W fun e W' => (∃ v, e = .returned v) ∧
      ((∃ ys : List (KX n₀ w0), ys.map kKey = pord T 1 ∧ J ys W') ∨ (∃ pre : List (KX n₀ w0), pre.map kKey <+: pord T 1 ∧ Jx pre W')) := by
  have hdd : ∀ k : Nat, (F.depth.isSome = true → 1 ≤ k) := fun k h => by rw [hd] at h; cases h
  have hp := walkOn_all F hd hf hk hro l n₀ (pord T 1).length M S w0 hn₀ J Jx hJ hS (fun m pre x W hj hl => yield_any hd m (hY pre x W hj hl)) (ksz T + 1) T (by omega) (n - 1) c 1 [] W hrep hb hMW h0 (by simp) (by omega) (by omega)
  obtain ⟨c0, c1, c2⟩ := c
  obtain ⟨e0, e1, e2⟩ := hBt
  simp only at e0 e1 e2 hp
  have HP := hide hp
  clear hp hrep hY hS hJ hb
  refine callsIn_of_wp Tryd.func49 rfl h1 ?_ hro
  simp only [Tryd.ntmps49, List.size_toArray, List.length_cons, List.length_nil, Nat.reduceAdd, Nat.reduceSub, Array.replicate_succ, Array.replicate_zero, List.push_toArray, List.append_toArray, List.nil_append, List.cons_append]
  gi_wp2_with ((try refine ⟨hdd _, ?_⟩); gi_at_call 50; refine (unhide HP).mono ?_; clear HP; rintro e W1 (⟨rfl, q, hq, hJ1, _⟩ | ⟨rfl, q, hq, hx⟩))
  · go_end0
    exact ⟨⟨_, rfl⟩, .inl ⟨q, hq, by simpa using hJ1⟩⟩
  · go_end0
    exact ⟨⟨_, rfl⟩, .inr ⟨q, hq, by simpa using hx⟩⟩

end Go.Proofs.YthkjhmcbmakkdaaDoor

/- The walk of the program's namesAscend: what it answers. No conditions. -/

namespace Go.Proofs.YthkjhmcbmakkdaaDoor
open Go Go.RowKit

set_option maxHeartbeats 400000 in
theorem namesAscend_any (v : Value) (ss : List ByteArray) (w : World) {P : Nat → Prop} (hP : ∀ b, P b → b < w.heap.size) (hv : StrsAt P w v ss) :
    Calls Tryd.prog 51 #[v] w fun e w' => e = .returned (.bool (riseB ss)) ∧ w' = w := by
  obtain ⟨a, cap, rfl, hlen, hc⟩ := hv
  have HC := hide hc; have HP := hide hP
  clear hc hP
  go_enter Tryd.func51, Tryd.ntmps51
  go_wp2_with fail
  go_loop [7] (fun i => ∃ (k : Nat), k ≤ ss.length ∧ i = .int .i64 k ∧ Hid (∀ j, j < k → good ss j = true)) (fun i => ss.length - (intOf i).toNat)
  case atStart => exact ⟨0, Nat.zero_le _, rfl, hide (fun j hj => by omega)⟩
  case round =>
    obtain ⟨k, hk, rfl, HG⟩ := hrel
    by_cases hlt : k < ss.length
    · obtain ⟨b, o, rfl, hpb, hcell, hsz⟩ := unhide HC k hlt
      have hname := fun w => nameOk_any ss[k] w hsz
      have HN := hide hname; clear hname hpb
      by_cases hn : nameOkB ss[k] = true
      · by_cases h0 : 0 < k
        · obtain ⟨b', o', he, -, e0, -⟩ := unhide HC (k - 1) (by omega)
          simp only [Option.some.injEq, Addr.mk.injEq, and_true] at he
          obtain ⟨rfl, rfl⟩ := he
          have hd0 : decide ((0 : Int) < k) = true := by simp; omega
          have hgd := good_pos hlt h0 hn
          generalize hlb : Op.bytesLess (ss[k - 1]'(by omega)).toList ss[k].toList = lb at hgd
          have hi1 : ((k : Int) - 1).toNat = k - 1 := by omega
          have HGD := hide hgd
          clear hgd
          have hge := geqS
          cases lb
          · have HR := hide (rise_no hlt (unhide HGD))
            go_wp2_with (go_at_call 71; refine (unhide HN _).mono ?_; rintro e w' ⟨rfl, rfl⟩)
            go_ret
            exact ⟨ret_bool (unhide HR).symm, rfl⟩
          · go_wp2_with (go_at_call 71; refine (unhide HN _).mono ?_; rintro e w' ⟨rfl, rfl⟩)
            go_round
            case rel => exact ⟨k + 1, by omega, by go_num, hide (fun j hj => by
              by_cases e : j = k
              · subst e; exact unhide HGD
              · exact HG.out j (by omega))⟩
            case measure => simp [intOf]; omega
        · have hd0 : decide (0 < k) = false := by simp; omega
          have HK0 : Hid (k = 0) := by show k = 0; omega
          clear h0
          go_wp2_with (go_at_call 71; refine (unhide HN _).mono ?_; rintro e w' ⟨rfl, rfl⟩)
          go_round
          case rel => exact ⟨k + 1, by omega, by go_num, hide (fun j hj => by have := HK0.out; subst this; obtain rfl : j = 0 := by omega
                                                                              exact good_zero hlt hn)⟩
          case measure => simp [intOf]; omega
      · have hn' : nameOkB ss[k] = false := by simpa using hn
        have HR := hide (rise_no hlt (good_name hlt hn'))
        clear hn
        go_wp2_with (go_at_call 71; refine (unhide HN _).mono ?_; rintro e w' ⟨rfl, rfl⟩)
        go_ret
        exact ⟨ret_bool (unhide HR).symm, rfl⟩
    · go_wp2_with fail
      go_ret
      exact ⟨ret_bool (rise_yes (fun i hi => HG.out i (by omega))).symm, rfl⟩
end Go.Proofs.YthkjhmcbmakkdaaDoor
