/- A part. -/
import Derived.RangeFuncNested
import Derived.RangeFuncBound
import Derived.Shelf.RegionOpen
import Derived.OwnWalkIn
import Derived.LoopNIn
import Derived.Test.YtibgjcejddpldaaGreatPart30
import Derived.Sort.CutIn
import Derived.Laws.EntriesVeiled
import Derived.Test.YtibgjcejddpldaaGreatPart23
set_option maxRecDepth 100000
set_option maxHeartbeats 6400000
namespace Go.Proofs.YtibgjcejddpldaaGreat
open Go Go.RowKit Go.Shelf
def obl (b3 : Nat) (W : World) : Option Nat := (W.cell? ⟨b3, 0, none⟩).bind Value.ownBlock
theorem obl_same {b3 : Nat} {A B : World} (h : B.heap[b3]? = A.heap[b3]?) : obl b3 B = obl b3 A := by
 unfold obl
 rw [World.cell?_of_block (a := ⟨b3, 0, none⟩) h]
structure Kq (b3 : Nat) (W W' : World) : Prop where
 size : W.heap.size ≤ W'.heap.size
 block : ∀ k o, W.heap[k]? = some o → o.isCells = true → k ≠ b3 → obl b3 W ≠ some k → W'.heap[k]? = W.heap[k]?
 ob : obl b3 W' = obl b3 W ∨ ∃ g, obl b3 W' = some g ∧ W.heap.size ≤ g ∧ g < W'.heap.size
theorem Kq.refl (b3 : Nat) (W : World) : Kq b3 W W := ⟨Nat.le_refl _, fun _ _ _ _ _ _ => rfl, Or.inl rfl⟩
theorem Kq.trans {b3 : Nat} {A B C : World} (h : Kq b3 A B) (k : Kq b3 B C) : Kq b3 A C := by
 refine ⟨Nat.le_trans h.size k.size, fun i o hi ho h1 h2 => ?_, ?_⟩
 · have e := h.block i o hi ho h1 h2
   refine (k.block i o (e.trans hi) ho h1 (fun hb => ?_)).trans e
   rcases h.ob with e2 | ⟨g, e2, h3, -⟩
   · exact h2 (e2.symm.trans hb)
   · rw [e2] at hb
     simp only [Option.some.injEq] at hb
     have := (Array.getElem?_eq_some_iff.1 hi).1
     omega
 · rcases k.ob with e | ⟨g, e, h3, h4⟩
   · rcases h.ob with e2 | ⟨g, e2, h3, h4⟩
     · exact Or.inl (e.trans e2)
     · exact Or.inr ⟨g, e.trans e2, h3, Nat.lt_of_lt_of_le h4 k.size⟩
   · exact Or.inr ⟨g, e, Nat.le_trans h.size h3, h4⟩
theorem Kq.of_below {b3 : Nat} {A B : World} (h : Below A.heap.size A B) (hb : b3 < A.heap.size) : Kq b3 A B :=
 ⟨h.size, fun k _ hk _ _ _ => h.block k (Array.getElem?_eq_some_iff.1 hk).1, Or.inl (obl_same (h.block b3 hb))⟩
theorem Kq.putObj {b3 : Nat} {w : World} (hb : b3 < w.heap.size) (W : World) (l : Nat) (o o' : Obj) (hl : w.heap.size ≤ l) (ho : W.heap[l]? = some o) (hc : o.isCells = false) (_ : o.isWalk = false) : Kq b3 W (W.putObj l o') := by
 refine ⟨by simp [World.putObj], fun k o2 hk h2 _ _ => World.putObj_heap_other (fun e => ?_), Or.inl (obl_same (World.putObj_heap_other (by omega)))⟩
 subst e
 rw [ho] at hk
 simp only [Option.some.injEq] at hk
 subst hk
 rw [hc] at h2
 cases h2
theorem Kq.own {b3 : Nat} {A W : World} (h : Kq b3 A W) (h0 : obl b3 A = none) : ∀ g, obl b3 W = some g → A.heap.size ≤ g ∧ g < W.heap.size := fun g e => by
 rcases h.ob with e2 | ⟨g2, e2, h1, h2⟩
 · rw [e2, h0] at e; cases e
 · rw [e2] at e
   simp only [Option.some.injEq] at e
   subst e
   exact ⟨h1, h2⟩
theorem cells_of_cell {W : World} {a : Addr} {v : Value} (h : W.cell? a = some v) : ∃ o : Obj, W.heap[a.block]? = some o ∧ o.isCells = true := by
 unfold World.cell? at h
 cases ho : W.heap[a.block]? with
 | none => simp [ho] at h
 | some o => exact ⟨o, rfl, by cases o <;> simp_all [Obj.isCells]⟩
theorem Kq.cell {b3 : Nat} {A W : World} (h : Kq b3 A W) {a : Addr} {v : Value} (hc : A.cell? a = some v) (h1 : a.block ≠ b3) (h2 : obl b3 A ≠ some a.block) : W.cell? a = some v := by
 obtain ⟨o, ho, hi⟩ := cells_of_cell hc
 rw [World.cell?_of_block (h.block _ o ho hi h1 h2)]
 exact hc
theorem CrAt.cells {W : World} {C : Nat} {c : Cw} {B : CrB} (h : CrAt W C c B) : ∀ b, b ∈ CrB.blocks C B → ∃ o : Obj, W.heap[b]? = some o ∧ o.isCells = true := by
 obtain ⟨⟨_, h1, -⟩, ⟨_, h2, -⟩, h3, h4, ⟨⟨_, _, _, ⟨_, q1, -⟩, ⟨_, q2, -⟩, -⟩, -⟩, ⟨⟨_, _, _, ⟨_, r1, -⟩, ⟨_, r2, -⟩, -⟩, -⟩, ⟨⟨_, _, _, ⟨_, o1, -⟩, ⟨_, o2, -⟩, -⟩, -⟩, ⟨_, _, _, ⟨_, h8, -⟩⟩, ⟨_, ⟨_, h9, -⟩⟩, -⟩ := h
 intro b hb
 simp only [CrB.blocks, List.mem_append, List.mem_cons, List.not_mem_nil, or_false] at hb
 rcases hb with (rfl | rfl | rfl | rfl | rfl | rfl | rfl | rfl | rfl | rfl | rfl) | hb
 · exact ⟨_, h1, rfl⟩
 · exact ⟨_, h2, rfl⟩
 · exact ⟨_, q1, rfl⟩
 · exact ⟨_, q2, rfl⟩
 · exact ⟨_, r1, rfl⟩
 · exact ⟨_, r2, rfl⟩
 · exact ⟨_, o1, rfl⟩
 · exact ⟨_, o2, rfl⟩
 · exact ⟨_, h8, rfl⟩
 · exact ⟨_, h9, rfl⟩
 · rcases h3.2 with ⟨hv, -⟩ | ⟨g, cap, cur, hv, -, hh, -⟩
   · cases hv
   · simp only [Value.slice.injEq, Option.some.injEq, Addr.mk.injEq, and_true] at hv
     rw [hv.1]
     exact ⟨_, hh, rfl⟩
 · rcases h4.2 with ⟨hv, -⟩ | ⟨g, cap, cur, hv, -, hh, -⟩
   · simp only [Value.slice.injEq] at hv
     rw [hv.1] at hb
     simp [Value.ownBlock] at hb
   · simp only [Value.slice.injEq] at hv
     rw [hv.1] at hb
     simp only [Value.ownBlock, Option.toList_some, List.mem_singleton] at hb
     subst hb
     exact ⟨_, hh, rfl⟩
theorem CrAt.kq {W W' : World} {C : Nat} {c : Cw} {B : CrB} {b3 : Nat} (h : CrAt W C c B) (hk : Kq b3 W W') (h3 : b3 ∉ CrB.blocks C B) (h0 : obl b3 W = none) : CrAt W' C c B :=
 h.carry fun b hb => by
  obtain ⟨o, ho, hc⟩ := h.cells b hb
  exact hk.block b o ho hc (fun e => h3 (e ▸ hb)) (by rw [h0]; simp)
theorem ways_at (C : Nat) (c : Cw) (B : CrB) (hF : Form c) (k : Nat) (hk : k < c.hands.length + 4) : ∃ f r, (allF C B.H c.hands.length)[k]? = some (.func (.func f) #[r] #[]) ∧ (∀ args w, (callFunc f args).run Tryz.prog w = .ok (.enter f args) w) ∧ ∀ W, CrAt W C c B → Calls Tryz.prog f #[r] W (fun e w' => WsEnd W w' e (pw C B.H c k)) := by
 rw [allF_at _ _ _ _ hk]
 unfold pw
 by_cases h0 : k = 0
 · rw [if_pos h0, if_pos h0]
   exact ⟨_, _, rfl, enters_of Tryz.func107 (by kernel_rfl) rfl, fun W hW => readerWays_any C c B W hW hF⟩
 rw [if_neg h0, if_neg h0]
 by_cases h1 : k ≤ c.hands.length
 · rw [if_pos h1, if_pos h1]
   exact ⟨_, _, rfl, enters_of Tryz.func108 (by kernel_rfl) rfl, fun W hW => workerWays_any C c B (k - 1) W hW hF (by omega)⟩
 rw [if_neg h1, if_neg h1]
 by_cases h2 : k = c.hands.length + 1
 · rw [if_pos h2, if_pos h2]
   exact ⟨_, _, rfl, enters_of Tryz.func109 (by kernel_rfl) rfl, fun W hW => closerWays_any C c B W hW⟩
 rw [if_neg h2, if_neg h2]
 by_cases h3 : k = c.hands.length + 2
 · rw [if_pos h3, if_pos h3]
   exact ⟨_, _, rfl, enters_of Tryz.func110 (by kernel_rfl) rfl, fun W hW => keeperWays_any C c B W hW hF⟩
 rw [if_neg h3, if_neg h3]
 exact ⟨_, _, rfl, enters_of Tryz.func111 (by kernel_rfl) rfl, fun W hW => userWays_any C c B W hW hF⟩
end Go.Proofs.YtibgjcejddpldaaGreat

namespace Go.Proofs.YtibgjcejddpldaaGreat
open Go Go.RowKit Go.Shelf
attribute [local go_sem] Oper.semAt_some
theorem WyAt.at2 {P : Nat → Prop} {W : World} {a : Option Addr} {cap : Nat} {xs : List (Bool × Nat × Value)} (h : WyAt P W (.slice a xs.length cap) xs) (j : Nat) (hj : j < xs.length) : ∃ b o, a = some ⟨b, o, none⟩ ∧ P b ∧ W.cell? ⟨b, o + j * 2, none⟩ = some (.bool xs[j].1) ∧ W.cell? ⟨b, o + j * 2 + 1, none⟩ = some (fw xs[j].2) := by
 obtain ⟨a', p', e, -, hc⟩ := h
 simp only [Value.slice.injEq] at e
 obtain ⟨rfl, -, rfl⟩ := e
 obtain ⟨b, o, rfl, hp, h3⟩ := hc j (by rw [List.length_map]; exact hj)
 have h0 := h3 0 (by omega); have h1 := h3 1 (by omega)
 rw [Nat.add_zero, List.getElem_map] at h0
 rw [List.getElem_map] at h1
 exact ⟨b, o, rfl, hp, h0, h1⟩
theorem belG {A B : World} (h : Below A.heap.size A B) : A.grownBy B none := ⟨h.os, h.tape, h.output, h.size, fun i hi _ => h.block i hi⟩
def mvEnc (x : Mv) : Array Value := #[.agg #[.int .i64 (x.who : Int), .int .i64 (x.case : Int)], .func (.func x.f.1) #[x.f.2] #[]]
theorem ready_in (n C : Nat) (w : World) : CallsIn Fence.wide n Tryz.prog 54 #[.pointer (some ⟨C, 0, none⟩)] w fun e w' => e = .returned (.func (.func 87) #[] #[.pointer (some ⟨w.heap.size, 0, none⟩)]) ∧ w' = w.alloc (.cells #[.pointer (some ⟨C, 0, none⟩)] 67) := by
 refine callsIn_of_wp Tryz.func54 rfl trivial ?_ rfl
 simp only [Tryz.ntmps54, List.size_toArray, List.length_cons, List.length_nil, Nat.reduceAdd, Nat.reduceSub, Array.replicate_succ, Array.replicate_zero, List.push_toArray, List.append_toArray, List.nil_append, List.cons_append]
 gi_wp2
 go_ret
 exact ⟨rfl, rfl⟩
structure RyAt (w0 : World) (C : Nat) (c : Cw) (B : CrB) (b3 Bp : Nat) : Prop where
 cr : CrAt w0 C c B
 form : Form c
 bx : w0.cell? ⟨Bp, 0, none⟩ = some (.pointer (some ⟨C, 0, none⟩))
 b3lt : b3 < w0.heap.size
 nb : b3 ∉ CrB.blocks C B
 ob : obl b3 w0 = none
theorem movesP_pre (C H : Nat) (c : Cw) {k m : Nat} (h : k ≤ m) : movesP C H c k <+: movesP C H c m := by
 induction m with
 | zero => obtain rfl : k = 0 := by omega
           exact List.prefix_refl _
 | succ m ih =>
   by_cases e : k = m + 1
   · subst e; exact List.prefix_refl _
   · rw [movesP_succ]
     exact (ih (by omega)).trans (List.prefix_append _ _)
theorem mvp_pre (who : Nat) {xs : List (Bool × Nat × Value)} {k m : Nat} (hm : m ≤ xs.length) (h : k ≤ m) : mvp who 0 (xs.take k) <+: mvp who 0 (xs.take m) := by
 induction m with
 | zero => obtain rfl : k = 0 := by omega
           exact List.prefix_refl _
 | succ m ih =>
   by_cases e : k = m + 1
   · subst e; exact List.prefix_refl _
   · rw [mvp_take (by omega)]
     exact (ih (by omega) (by omega)).trans (List.prefix_append _ _)
theorem ready1_in (n l C : Nat) (c : Cw) (B : CrB) (b3 Bp : Nat) (w0 : World) (hA : RyAt w0 C c B b3 Bp) (J Jx : List Mv → World → Prop) (hJ : ∀ s A B, J s A → A.grownBy B none → J s B)
 (hY : ∀ pre x W, J pre W → pre.length < 36 → YieldAt Fence.wide (n - 1) Tryz.prog l (mvEnc x) W fun e W' => (e = .returned (.bool true) ∧ J (pre ++ [x]) W' ∧ Kq b3 W W') ∨ (e = .returned (.bool false) ∧ Jx (pre ++ [x]) W'))
 (W : World) (hW : Below w0.heap.size w0 W) (h0 : J [] W) :
 CallsIn Fence.wide n Tryz.prog 87 #[.func (.yield l) #[] #[], .pointer (some ⟨Bp, 0, none⟩)] W fun e W' => (∃ v, e = .returned v) ∧ ((∃ ys : List Mv, ys = movesP C B.H c (c.hands.length + 4) ∧ J ys W') ∨ (∃ pre : List Mv, pre <+: movesP C B.H c (c.hands.length + 4) ∧ Jx pre W')) := by
 have hdd : ∀ k : Nat, (Fence.wide.depth.isSome = true → 1 ≤ k) := fun k h => by cases h
 have hBp : Bp < w0.heap.size := by
  obtain ⟨o, ho, -⟩ := cells_of_cell hA.bx
  exact (Array.getElem?_eq_some_iff.1 ho).1
 have k0 : W.cell? ⟨Bp, 0, none⟩ = some (.pointer (some ⟨C, 0, none⟩)) := by
  rw [World.cell?_of_block (a := ⟨Bp, 0, none⟩) (hW.block Bp hBp)]; exact hA.bx
 have hcW : CrAt W C c B := hA.cr.below hW
 have HOB := xH (show obl b3 W = none from (obl_same (hW.block b3 hA.b3lt)).trans hA.ob)
 have HB3 := xH (Nat.lt_of_lt_of_le hA.b3lt hW.size)
 have HNB := xH hA.nb
 have HF := xH hA.form
 have h8 := hcW.szH.2
 have HAL := xH (allW_any C c B W hcW)
 have HLB := xH hcW.lt
 have HJ := xH hJ; have HY := xH hY; have H0 := xH h0
 clear hBp hA hJ hY hW h0 hcW
 obtain ⟨y, hy⟩ : ∃ y : Nat, y = c.hands.length := ⟨_, rfl⟩
 have HYE := xH hy
 rw [← hy] at HAL h8 ⊢
 clear hy
 refine callsIn_of_wp Tryz.func87 rfl trivial ?_ rfl
 simp only [Tryz.ntmps87, List.size_toArray, List.length_cons, List.length_nil, Nat.reduceAdd, Nat.reduceSub, Array.replicate_succ, Array.replicate_zero, List.push_toArray, List.append_toArray, List.nil_append, List.cons_append]
 gi_wp2_with ((try refine ⟨trivial, ?_⟩); (try refine ⟨hdd _, ?_⟩); gi_at_call 88; refine (callsIn_wide.2 (xU HAL)).mono ?_; rintro e W1 ⟨aF, cF, rfl, hgf⟩; have HGF := xH hgf; clear hgf HAL)
 clear k0
 have HOB1 := xH (show obl b3 W1 = none from (obl_same ((xU HGF).kc.bel.block b3 (xU HB3))).trans (xU HOB))
 have HJ1 := xH (xU HJ _ _ _ (xU H0) (belG (xU HGF).kc.bel))
 clear HOB H0
 gi_loopw [10] (fun i wr => ∃ (k : Nat), k ≤ y + 4 ∧ i = .int .i64 k ∧ Hid (J (movesP C B.H c k) wr) ∧ Hid (Kq b3 W1 wr)) (fun i _ => y + 4 - (intOf i).toNat)
 case atStart => exact ⟨0, Nat.zero_le _, rfl, HJ1, xH (Kq.refl _ _)⟩
 case round =>
  clear HJ1
  obtain ⟨k, hk, rfl, HJK, HKQ⟩ := hrel
  by_cases hlt : k < y + 4
  · obtain ⟨f, r, hfk, hen, hcall⟩ := ways_at C c B (xU HF) k (by rw [← xU HYE]; exact hlt)
    have hcr : CrAt wr C c B := (xU HGF).kc.cr.kq HKQ.out (xU HNB) (xU HOB1)
    have HCALL := xH (hcall wr hcr)
    obtain ⟨gF, rfl, hgF, hcF⟩ := own_at (xU HGF).own k hlt
    rw [xU HYE, hfk] at hcF
    have e0 : wr.cell? ⟨gF, k, none⟩ = some (.func (.func f) #[r] #[]) := HKQ.out.cell hcF (by have := xU HB3; show gF ≠ b3; omega) (by rw [xU HOB1]; simp)
    clear hcall hcr hcF hfk
    gi_wp2_with ((try refine ⟨trivial, ?_⟩); (try refine ⟨hdd _, ?_⟩); refine (callsIn_wide.2 (xU HCALL)).mono ?_; rintro e W2 ⟨aX, cX, rfl, hxs, hb⟩; have HXS := xH hxs; have HB2 := xH hb; clear hxs hb HCALL)
    clear e0 hen
    have HJ2 := xH (xU HJ _ _ _ HJK.out (belG (xU HB2)))
    have HB3r := xH (show b3 < wr.heap.size from by have := xU HB3; have := (xU HGF).kc.bel.size; have := HKQ.out.size; omega)
    have HKQ2 := xH (HKQ.out.trans (Kq.of_below (xU HB2) (xU HB3r)))
    have HOBW := xH (show ∀ b, wr.heap.size ≤ b → b ≠ b3 ∧ obl b3 W2 ≠ some b from fun b hb => ⟨by have := xU HB3r; omega, fun e => by
     rw [obl_same ((xU HB2).block b3 (xU HB3r))] at e
     have := (HKQ.out.own (xU HOB1) b e).2
     omega⟩)
    have hxl := pw_len C B.H c k
    have HSU := xH (movesP_succ C B.H c k)
    have HML := xH (movesP_len C B.H c k)
    have HPR := xH (movesP_pre C B.H c (show k + 1 ≤ y + 4 by omega))
    generalize pw C B.H c k = xs at HXS hxl HSU ⊢
    obtain ⟨l1, hl1⟩ : ∃ l1, movesP C B.H c (k + 1) = l1 := ⟨_, rfl⟩
    rw [hl1] at HSU HPR
    have HL1 := xH hl1
    clear hl1
    generalize movesP C B.H c k = l0 at HJ2 HSU HML
    have HSZ2 := xH (show b3 < W2.heap.size from by have := xU HB3; have := (xU HGF).kc.bel.size; have := (xU HKQ2).size; omega)
    clear HJK HB3r HB2
    gi_loopw [18] (fun i ws => ∃ (j : Nat), j ≤ xs.length ∧ i = .int .i64 j ∧ Hid (J (l0 ++ mvp k 0 (xs.take j)) ws) ∧ Hid (Kq b3 W2 ws)) (fun i _ => xs.length - (intOf i).toNat)
    case atStart => exact ⟨0, Nat.zero_le _, rfl, by rw [List.take_zero, mvp, List.append_nil]; exact HJ2, xH (Kq.refl _ _)⟩
    case round =>
     clear HJ2
     obtain ⟨j, hj, rfl, HJJ, HKJ⟩ := hrel
     by_cases hjl : j < xs.length
     · obtain ⟨bX, oX, rfl, hbX, e0, e1⟩ := (xU HXS).at2 j hjl
       have e0 := HKJ.out.cell e0 (xU HOBW bX hbX.1).1 (xU HOBW bX hbX.1).2
       have e1 := HKJ.out.cell e1 (xU HOBW bX hbX.1).1 (xU HOBW bX hbX.1).2
       have HTK := xH (mvp_take (who := k) hjl)
       have HFX := xH (show fw xs[j].2 = .func (.func xs[j].2.1) #[xs[j].2.2] #[] from rfl)
       rw [xU HFX] at e1
       generalize xs[j].2 = fX at e1 HTK
       clear HFX
       cases hx : xs[j].1 with
       | true =>
         rw [hx] at e0 HTK
         gi_upto_region 6 with fail
         have HBV := xH (show Below wr.heap.size wr (wr.alloc (.cells #[.bool true, .func (.func fX.1) #[fX.2] #[]] 117)) from (Below.refl _ _).alloc (Nat.le_refl _) _)
         have v0 : (wr.alloc (.cells #[.bool true, .func (.func fX.1) #[fX.2] #[]] 117)).cell? ⟨wr.heap.size, 0, none⟩ = some (.bool true) := by rw [World.cell?_alloc_mark]; rfl
         have v1 : (wr.alloc (.cells #[.bool true, .func (.func fX.1) #[fX.2] #[]] 117)).cell? ⟨wr.heap.size, 1, none⟩ = some (.func (.func fX.1) #[fX.2] #[]) := by rw [World.cell?_alloc_mark]; rfl
         generalize wr.alloc (.cells #[.bool true, .func (.func fX.1) #[fX.2] #[]] 117) = V at HBV v0 v1 ⊢
         have HJV := xH (xU HJ _ _ _ HJJ.out (belG (xU HBV)))
         have HKV := xH (HKJ.out.trans (Kq.of_below (xU HBV) (by have := xU HSZ2; have := HKJ.out.size; omega)))
         clear HJJ HKJ HBV e0 e1 hx
         obtain ⟨fn, tmps, assign, body, hy, hR⟩ := xU HY _ ⟨k, j, fX⟩ V (xU HJV) (by
          rw [List.length_append]
          have h1 := mvp_len k (xs.take j) 0
          rw [List.length_take] at h1
          have h2 := xU HML
          omega)
         simp only [mvEnc] at hy
         have HPX := xH (show (l0 ++ mvp k 0 (xs.take j)) ++ [⟨k, j, fX⟩] <+: movesP C B.H c (y + 4) from by
          rw [List.append_assoc, ← (show mvp k 0 (xs.take (j + 1)) = mvp k 0 (xs.take j) ++ [⟨k, j, fX⟩] from xU HTK)]
          refine List.IsPrefix.trans ?_ (xU HPR)
          rw [xU HSU]
          refine List.prefix_append_right_inj _ |>.2 ?_
          have := mvp_pre k (xs := xs) (Nat.le_refl _) (show j + 1 ≤ xs.length from hjl)
          rw [List.take_length] at this
          exact this)
         gi_wp2_with ((try refine ⟨hdd _, ?_⟩); refine hR.mono ?_; clear hR hy; rintro e W4 (⟨rfl, HJ4, HK4⟩ | ⟨rfl, HX4⟩))
         · go_roundw
           case rel => exact ⟨j + 1, by omega, by go_num, xH (by rw [(show mvp k 0 (xs.take (j + 1)) = mvp k 0 (xs.take j) ++ [⟨k, j, fX⟩] from xU HTK), ← List.append_assoc]; exact HJ4), xH ((xU HKV).trans HK4)⟩
           case measure => simp [intOf]; omega
         · refine bodyPost_ret (results_none rfl _ _ _) rfl ?_
           exact ⟨⟨_, rfl⟩, .inr ⟨_, xU HPX, HX4⟩⟩
       | false =>
         rw [hx] at e0 HTK
         have HBV := xH (fun ob => (show Below wr.heap.size wr (wr.alloc ob) from (Below.refl _ _).alloc (Nat.le_refl _) _))
         have HKV := xH (fun ob => HKJ.out.trans (Kq.of_below (xU HBV ob) (by have := xU HSZ2; have := HKJ.out.size; omega)))
         have HJV := xH (fun ob => xU HJ _ _ _ HJJ.out (belG (xU HBV ob)))
         clear HJJ HKJ hx
         gi_wp2_with fail
         refine And.intro (fun _ h => (nomatch h)) ?_
         gi_wp2_with fail
         go_roundw
         case rel => exact ⟨j + 1, by omega, by go_num, xH (by rw [(show mvp k 0 (xs.take (j + 1)) = mvp k 0 (xs.take j) ++ [] from xU HTK), List.append_nil]; exact xU HJV _), xH (xU HKV _)⟩
         case measure => simp [intOf]; omega
     · obtain rfl : j = xs.length := by omega
       have HJE := xH (show J l1 wr from by rw [xU HSU]; have := HJJ.out; rw [List.take_length] at this; exact this)
       have HKE := xH ((xU HKQ2).trans HKJ.out)
       clear HJJ HKJ
       gi_wp2_with fail
       go_roundw
       case rel => exact ⟨k + 1, by omega, by go_num, by rw [xU HL1]; exact HJE, HKE⟩
       case measure => simp [intOf]; omega
  · obtain rfl : k = y + 4 := by omega
    gi_wp2_with fail
    go_end0
    exact ⟨⟨_, rfl⟩, .inl ⟨_, rfl, HJK.out⟩⟩
end Go.Proofs.YtibgjcejddpldaaGreat

namespace Go.Proofs.YtibgjcejddpldaaGreat
open Go Go.RowKit
end Go.Proofs.YtibgjcejddpldaaGreat

namespace Go.Proofs.YtibgjcejddpldaaGreat
open Go Go.RowKit
theorem BAt.at' {P : Nat → Prop} {W : World} {a : Option Addr} {cap : Nat} {bs : List Bool} (h : BAt P W (.slice a bs.length cap) bs) (j : Nat) (hj : j < bs.length) : ∃ b o, a = some ⟨b, o, none⟩ ∧ W.cell? ⟨b, o + j, none⟩ = some (.bool bs[j]) := by
 obtain ⟨a', p', e, -, hc⟩ := h
 simp only [Value.slice.injEq] at e
 obtain ⟨rfl, -, rfl⟩ := e
 obtain ⟨b, o, rfl, -, h3⟩ := hc j (by rw [List.length_map]; exact hj)
 have := h3 0 (by omega)
 rw [Nat.mul_one, Nat.add_zero, List.getElem_map] at this
 exact ⟨b, o, rfl, this⟩
end Go.Proofs.YtibgjcejddpldaaGreat

namespace Go.Proofs.YtibgjcejddpldaaGreat
open Go Go.RowKit Go.Shelf
attribute [local go_sem] Oper.semAt_some
theorem ax_own {B : Nat} {g : Nat} {u0 u1 : Value} {p : Prop} : OwnFrom B (fun (_ : Unit) W => p ∧ W.cell? ⟨g, 0, none⟩ = some u0 ∧ W.cell? ⟨g, 1, none⟩ = some u1) := fun s W W' row ⟨h, h0, h1⟩ hg hr => by
 obtain ⟨o, ho, hc⟩ := cells_of_cell h0
 have hb : W'.heap[g]? = W.heap[g]? := hg.block g (Array.getElem?_eq_some_iff.1 ho).1 (fun e => by
  obtain ⟨-, o', ho', hc'⟩ := hr g e.symm
  have ho2 : W.heap[g]? = some o := ho
  rw [ho2] at ho'
  simp only [Option.some.injEq] at ho'
  subst ho'
  rw [hc] at hc'
  cases hc')
 exact ⟨h, by rw [World.cell?_of_block (a := ⟨g, 0, none⟩) hb]; exact h0, by rw [World.cell?_of_block (a := ⟨g, 1, none⟩) hb]; exact h1⟩
end Go.Proofs.YtibgjcejddpldaaGreat

namespace Go.Proofs.YtibgjcejddpldaaGreat
open Go Go.RowKit Go.Shelf
attribute [local go_sem] Oper.semAt_some
theorem fieldsMove : Tryz.prog.underlying 28 = some (.struct (Tryz.prog.fieldsOf 28)) := by kernel_rfl
theorem heldMove : Tryz.prog.stoodInHeld 28 = false := by kernel_rfl
theorem guardMove : Tryz.prog.eqGuardType Tryz.prog.depth 28 = false := by kernel_rfl
theorem listMove : (Tryz.prog.fieldsOf 28).toList.map (fun f => (f.name == "_", f.type, f.offset)) = [(false, 3, 0), (false, 3, 1)] := by kernel_rfl
theorem gMove (x y : Operand) (s j s2 j2 : Int) (w : World) : (eqGuard .eql 28 x y (.agg #[.int .i64 s, .int .i64 j]) (.agg #[.int .i64 s2, .int .i64 j2])).run Tryz.prog w = .ok () w := run_eqGuard_agg w .eql _ x y _ _ guardMove
theorem partMove (i : Nat) (s j : Int) (hi : i < 2) (w : World) : (part 3 #[.int .i64 s, .int .i64 j] i).run Tryz.prog w = .ok (.int .i64 (if i = 0 then s else j)) w := by
 rcases (show i = 0 ∨ i = 1 by omega) with rfl | rfl <;> kernel_rfl
theorem eMove (a b c d : Int) (w : World) : (binOp .eql 28 (.agg #[.int .i64 a, .int .i64 b]) (.agg #[.int .i64 c, .int .i64 d])).run Tryz.prog w = .ok (.bool (decide (a = c ∧ b = d))) w := by
 rw [run_eql_struct, run_equalIn_agg w 9999 _ _ _ fieldsMove heldMove]
 have hl := listMove
 generalize (Tryz.prog.fieldsOf 28).toList = fs at hl
 have hlen : fs.length = 2 := by have := congrArg List.length hl; simpa using this
 match fs, hlen with
 | [f0, f1], _ =>
   simp only [List.map_cons, List.map_nil, List.cons.injEq, Prod.mk.injEq, beq_eq_false_iff_ne, and_true] at hl
   obtain ⟨⟨n0, t0, o0⟩, n1, t1, o1⟩ := hl
   have e : ∀ (y z : Int) (W : World), (Op.equalIn 9999 3 (.int .i64 y) (.int .i64 z)).run Tryz.prog W = .ok (y == z) W := fun y z W => run_equalIn_int (P := Tryz.prog) W 9998 3 .i64 .i64 y z Tryz.underlying3
   by_cases h1 : a = c
   · subst h1
     simp only [Op.eqFields, n0, n1, t0, t1, o0, o1, ne_eq, not_false_eq_true, if_true, Sem.run_bind, partMove _ _ _ (by omega : 0 < 2), partMove _ _ _ (by omega : 1 < 2), Result.andThen_ok, e, BEq.rfl, Bool.not_true, Bool.false_eq_true, if_false]
     by_cases h2 : b = d
     · simp [h2]
     · simp [h2]
   · have h3 : (a == c) = false := by simp [h1]
     simp only [Op.eqFields, n0, t0, o0, ne_eq, not_false_eq_true, if_true, Sem.run_bind, partMove _ _ _ (by omega : 0 < 2), Result.andThen_ok, e, h3]
     simp [h1]
theorem mvp_who (who : Nat) : ∀ (xs : List (Bool × Nat × Value)) (i : Nat) (x : Mv), x ∈ mvp who i xs → x.who = who
 | [], _, x, h => by cases h
 | y :: xs, i, x, h => by
   rw [mvp, List.mem_append] at h
   rcases h with h | h
   · cases hy : y.1 with
     | true => rw [hy] at h; simp at h; rw [h]
     | false => rw [hy] at h; simp at h
   · exact mvp_who who xs (i + 1) x h
theorem movesP_lt (C H : Nat) (c : Cw) : ∀ (k : Nat) (x : Mv), x ∈ movesP C H c k → x.who < k
 | 0, x, h => by simp [movesP] at h
 | k + 1, x, h => by
   rw [movesP_succ, List.mem_append] at h
   rcases h with h | h
   · have := movesP_lt C H c k x h; omega
   · rw [mvp_who k _ _ x h]; omega
theorem pw_same {l : List Mv} {k : Nat} (h : ∀ x, x ∈ l → x.who = k) : l.Pairwise (fun a b => a.who ≤ b.who) := by
 induction l with
 | nil => exact List.Pairwise.nil
 | cons a l ih =>
   refine List.Pairwise.cons (fun b hb => ?_) (ih fun x hx => h x (by simp [hx]))
   rw [h a (by simp), h b (by simp [hb])]
   exact Nat.le_refl _
theorem movesP_sorted (C H : Nat) (c : Cw) : ∀ k, (movesP C H c k).Pairwise (fun a b => a.who ≤ b.who)
 | 0 => by simp [movesP]
 | k + 1 => by
   rw [movesP_succ, List.pairwise_append]
   refine ⟨movesP_sorted C H c k, pw_same (fun x hx => mvp_who k _ _ x hx), fun a ha b hb => ?_⟩
   have := movesP_lt C H c k a ha
   rw [mvp_who k _ _ b hb]
   omega
def DfEnd (w w' : World) (e : Ending) (C : Nat) (c : Cw) (B : CrB) (mw mk : Int) : Prop := Kc w w' C c B ∧ ((∃ x, x ∈ movesP C B.H c (c.hands.length + 4) ∧ (x.who : Int) = mw ∧ (x.case : Int) = mk ∧ e = .returned (.func (.func x.f.1) #[x.f.2] #[])) ∨ ((∀ x, x ∈ movesP C B.H c (c.hands.length + 4) → ¬ ((x.who : Int) = mw ∧ (x.case : Int) = mk)) ∧ e = .returned .nilFunc))
def noMv (mw mk : Int) (pre : List Mv) : Prop := ∀ x, x ∈ pre → ¬ (mw < (x.who : Int)) ∧ ¬ ((x.who : Int) = mw ∧ (x.case : Int) = mk)
theorem noMv.snoc {mw mk : Int} {pre : List Mv} (h : noMv mw mk pre) {x : Mv} (h1 : ¬ (mw < (x.who : Int))) (h2 : ¬ ((x.who : Int) = mw ∧ (x.case : Int) = mk)) : noMv mw mk (pre ++ [x]) := fun y hy => by
 rcases List.mem_append.1 hy with hy | hy
 · exact h y hy
 · simp only [List.mem_singleton] at hy
   subst hy
   exact ⟨h1, h2⟩
theorem noMv.pass {C H : Nat} {c : Cw} {k : Nat} {mw mk : Int} {pre : List Mv} {x : Mv} (h : noMv mw mk pre) (hx : mw < (x.who : Int)) (hp : pre ++ [x] <+: movesP C H c k) : ∀ y, y ∈ movesP C H c k → ¬ ((y.who : Int) = mw ∧ (y.case : Int) = mk) := by
 obtain ⟨r, hr⟩ := hp
 have hs := movesP_sorted C H c k
 rw [← hr] at hs ⊢
 rw [List.pairwise_append] at hs
 intro y hy
 rcases List.mem_append.1 hy with hy | hy
 · rcases List.mem_append.1 hy with hy | hy
   · exact (h y hy).2
   · simp only [List.mem_singleton] at hy
     subst hy
     rintro ⟨e, -⟩
     omega
 · have := hs.2.2 x (by simp) y hy
   rintro ⟨e, -⟩
   omega
theorem doingOf_any (C : Nat) (c : Cw) (B : CrB) (mw mk : Int) (w : World) (h : CrAt w C c B) (hF : Form c) : Calls Tryz.prog 43 #[.pointer (some ⟨C, 0, none⟩), .agg #[.int .i64 mw, .int .i64 mk]] w fun e w' => DfEnd w w' e C c B mw mk := by
 have HK0 := xH (Kc.start h)
 have HF := xH hF
 clear h hF
 refine (callsIn_wide (n := 8)).1 ?_
 refine callsIn_of_wp_marks Tryz.func43 rfl trivial ?_ rfl
 simp only [Tryz.ntmps43, List.size_toArray, List.length_cons, List.length_nil, Nat.reduceAdd, Nat.reduceSub, Array.replicate_succ, Array.replicate_zero, List.push_toArray, List.append_toArray, List.nil_append, List.cons_append]
 refine wpIn_wide.2 ?_
 go_wp2_with fail
 refine wp_scope_straight ?_
 go_wp2_with fail
 refine wp_label ?_
 go_wp2_with (go_at_call 54; refine (callsIn_wide.1 (ready_in 8 C _)).mono ?_; rintro e w' ⟨rfl, rfl⟩)
 have hb1 : Below w.heap.size w (w.alloc (.cells #[.int .i64 mw, .int .i64 mk] 28)) := (Below.refl _ _).alloc (Nat.le_refl _) _
 have hbW : Below w.heap.size w (((w.alloc (.cells #[.int .i64 mw, .int .i64 mk] 28)).alloc (.cells #[.nilFunc] 1)).alloc (.cells #[.pointer (some ⟨C, 0, none⟩)] 67)) := (hb1.alloc (by simp) _).alloc (by simp; omega) _
 have hs0 : (((w.alloc (.cells #[.int .i64 mw, .int .i64 mk] 28)).alloc (.cells #[.nilFunc] 1)).alloc (.cells #[.pointer (some ⟨C, 0, none⟩)] 67)).heap.size = w.heap.size + 3 := by simp
 have bO : Boxed (((w.alloc (.cells #[.int .i64 mw, .int .i64 mk] 28)).alloc (.cells #[.nilFunc] 1)).alloc (.cells #[.pointer (some ⟨C, 0, none⟩)] 67)) (w.heap.size + 1) 1 .nilFunc := by
  have := (Boxed.new (w.alloc (.cells #[.int .i64 mw, .int .i64 mk] 28)) 1 .nilFunc).alloc (.cells #[.pointer (some ⟨C, 0, none⟩)] 67)
  rw [World.size_alloc] at this
  exact this
 have hcB : (((w.alloc (.cells #[.int .i64 mw, .int .i64 mk] 28)).alloc (.cells #[.nilFunc] 1)).alloc (.cells #[.pointer (some ⟨C, 0, none⟩)] 67)).cell? ⟨w.heap.size + 1 + 1, 0, none⟩ = some (.pointer (some ⟨C, 0, none⟩)) := by
  have := (Boxed.new ((w.alloc (.cells #[.int .i64 mw, .int .i64 mk] 28)).alloc (.cells #[.nilFunc] 1)) 67 (.pointer (some ⟨C, 0, none⟩))).cell
  rw [World.size_alloc, World.size_alloc] at this
  exact this
 have hbk : (((w.alloc (.cells #[.int .i64 mw, .int .i64 mk] 28)).alloc (.cells #[.nilFunc] 1)).alloc (.cells #[.pointer (some ⟨C, 0, none⟩)] 67)).heap[w.heap.size]? = (w.alloc (.cells #[.int .i64 mw, .int .i64 mk] 28)).heap[w.heap.size]? := by
  rw [Below.heap_alloc _ _ _ (by simp; omega), Below.heap_alloc _ _ _ (by simp)]
 have hm0 : (((w.alloc (.cells #[.int .i64 mw, .int .i64 mk] 28)).alloc (.cells #[.nilFunc] 1)).alloc (.cells #[.pointer (some ⟨C, 0, none⟩)] 67)).cell? ⟨w.heap.size, 0, none⟩ = some (.int .i64 mw) := by
  rw [World.cell?_of_block (a := ⟨w.heap.size, 0, none⟩) hbk, World.cell?_alloc_mark]; rfl
 have hm1 : (((w.alloc (.cells #[.int .i64 mw, .int .i64 mk] 28)).alloc (.cells #[.nilFunc] 1)).alloc (.cells #[.pointer (some ⟨C, 0, none⟩)] 67)).cell? ⟨w.heap.size, 1, none⟩ = some (.int .i64 mk) := by
  rw [World.cell?_of_block (a := ⟨w.heap.size, 1, none⟩) hbk, World.cell?_alloc_mark]; rfl
 have hA : RyAt (((w.alloc (.cells #[.int .i64 mw, .int .i64 mk] 28)).alloc (.cells #[.nilFunc] 1)).alloc (.cells #[.pointer (some ⟨C, 0, none⟩)] 67)) C c B (w.heap.size + 1) (w.heap.size + 1 + 1) := ⟨(xU HK0).cr.below hbW, xU HF, hcB, by rw [hs0]; omega, fun hm => by have := (xU HK0).cr.lt _ hm; omega, by unfold obl; rw [bO.cell]; rfl⟩
 obtain ⟨WL, hWL⟩ : ∃ WL, (((w.alloc (.cells #[.int .i64 mw, .int .i64 mk] 28)).alloc (.cells #[.nilFunc] 1)).alloc (.cells #[.pointer (some ⟨C, 0, none⟩)] 67)) = WL := ⟨_, rfl⟩
 rw [hWL] at hbW bO hs0 hA hm0 hm1 ⊢
 have HA := xH hA; have HBW := xH hbW; have HBO := xH bO; have HM0 := xH hm0; have HM1 := xH hm1
 clear hWL hcB hA hb1 hbk hbW bO hm0 hm1 HF
 replace hs0 := Nat.le_of_eq hs0.symm
 refine (wpIn_wide (n := 8)).1 ?_
 refine wpIn_rangeFunc_ownH (α := Mv) (encs := mvEnc) (Kp := Kq (w.heap.size + 1)) (S := fun ys => ys = movesP C B.H c (c.hands.length + 4)) (Sp := fun pre => pre <+: movesP C B.H c (c.hands.length + 4)) (N := 36) (w0 := WL) rfl (by omega)
  (gf := 87) (lb := #[.pointer (some ⟨w.heap.size + 1 + 1, 0, none⟩)]) rfl trivial (enters_of Tryz.func87 (by kernel_rfl) rfl)
  (fun L J Jx W hW hJ _ hY h0 => ready1_in _ L C c B (w.heap.size + 1) (w.heap.size + 1 + 1) WL (xU HA) J Jx (fun s A B hs hg => hJ s A B none hs hg (fun r e => by cases e)) hY W hW h0)
  Kq.trans (Kq.putObj (by omega)) (Below.refl _ _) (fun _ => rfl)
  (fun pre W => noMv mw mk pre ∧ Below WL.heap.size WL W)
  (fun cd pre W => ∃ v, (cd = .exit 0 ∧ ∃ pre' x, pre = pre' ++ [x] ∧ noMv mw mk pre' ∧ ((mw < (x.who : Int) ∧ v = .nilFunc) ∨ ((x.who : Int) = mw ∧ (x.case : Int) = mk ∧ v = .func (.func x.f.1) #[x.f.2] #[]))) ∧ Boxed W (w.heap.size + 1) 1 v ∧ Below w.heap.size w W)
  (OwnFrom.and (ownFrom_pure _ (fun pre => noMv mw mk pre)) (ownFrom_below (Nat.le_refl _) (Nat.le_refl _)))
  (fun cd s W W' row hs hg hr => by
    obtain ⟨v, hp, hb, hbel⟩ := hs
    exact ⟨v, hp, hb.kept hg (fun e => by have := (hr _ e.symm).1; omega), hbel.grown hg hbel.size (fun k e => by have := (hr k e).1; omega)⟩)
  ⟨fun x hx => (by cases hx), Below.refl _ _⟩
  (fun x a' W => ∃ g, a' = { tmps := #[.pointer (some ⟨C, 0, none⟩), .agg #[.int .i64 mw, .int .i64 mk], undef, .pointer (some ⟨w.heap.size, 0, none⟩), .nilFunc, .pointer (some ⟨w.heap.size + 1, 0, none⟩), .pointer (some ⟨g, 0, none⟩), .func (.func x.f.1) #[x.f.2] #[], .pointer (some ⟨C, 0, none⟩), .func (.func 87) #[] #[.pointer (some ⟨w.heap.size + 1 + 1, 0, none⟩)], .agg #[.int .i64 (x.who : Int), .int .i64 (x.case : Int)], .func (.func x.f.1) #[x.f.2] #[], undef, undef, undef, undef, undef, undef, undef, undef, undef, undef, undef, undef], defers := [] } ∧ W.cell? ⟨g, 0, none⟩ = some (.int .i64 (x.who : Int)) ∧ W.cell? ⟨g, 1, none⟩ = some (.int .i64 (x.case : Int)))
  (fun x a' s W W' row hs hg hr => by obtain ⟨g, hs⟩ := hs; exact ⟨g, ax_own () W W' row hs hg hr⟩) ?assign ?body ?done ?stop
 case assign =>
  rintro l' pre x W K ⟨hN, hB⟩ hK
  simp only [mvEnc]
  have hb0 : ∀ ob, Below W.heap.size W (W.alloc ob) := fun ob => (Below.refl _ _).alloc (Nat.le_refl _) _
  have HKK := xH (fun a' ob => hK a' (W.alloc ob) ((KeepsOthers.mk (hb0 ob).size (fun j o hj _ => ((hb0 ob).block j (Array.getElem?_eq_some_iff.1 hj).1).trans hj)).from _) (Kq.of_below (hb0 ob) (by have := hB.size; omega)) ⟨hN, hB.trans ((hb0 ob).mono hB.size)⟩)
  clear hK hb0 hB hN
  gi_wp2
  exact xU HKK _ _ ⟨W.heap.size, rfl, by rw [World.cell?_alloc_mark]; rfl, by rw [World.cell?_alloc_mark]; rfl⟩
 case body =>
  rintro l' pre x a' W - - ⟨hN, hB⟩ ⟨g, rfl, e0, e1⟩ hlt
  have m0 : W.cell? ⟨w.heap.size, 0, none⟩ = some (.int .i64 mw) := by rw [World.cell?_of_block (a := ⟨w.heap.size, 0, none⟩) (hB.block _ (by show w.heap.size < WL.heap.size; omega))]; exact xU HM0
  have m1 : W.cell? ⟨w.heap.size, 1, none⟩ = some (.int .i64 mk) := by rw [World.cell?_of_block (a := ⟨w.heap.size, 1, none⟩) (hB.block _ (by show w.heap.size < WL.heap.size; omega))]; exact xU HM1
  have HBX := xH (show Boxed W (w.heap.size + 1) 1 .nilFunc from (hB.block _ (by omega)).trans (xU HBO))
  have HBL := xH (show Below w.heap.size w W from (xU HBW).trans (hB.mono (xU HBW).size))
  have HN := xH hN; have HBB := xH hB
  have HG := xH (fun y z V => gMove y z (x.who : Int) (x.case : Int) mw mk V)
  have HE := xH (fun V => eMove (x.who : Int) (x.case : Int) mw mk V)
  clear hN hB
  by_cases h1 : mw < (x.who : Int)
  · have HH1 := xH h1
    gi_wp2
    exact ⟨KeepsFrom.refl _ _, .nilFunc, ⟨rfl, pre, x, rfl, xU HN, Or.inl ⟨xU HH1, rfl⟩⟩, xU HBX, xU HBL⟩
  · have hg2 := xU HG
    by_cases h2 : (x.who : Int) = mw ∧ (x.case : Int) = mk
    · have he2 := xU HE
      rw [show decide ((x.who : Int) = mw ∧ (x.case : Int) = mk) = true from decide_eq_true h2] at he2
      have HH2 := xH h2
      have hc3 := (xU HBX).cell; have hf3 := (xU HBX).frozen
      have HB2 := xH ((xU HBX).set (.func (.func x.f.1) #[x.f.2] #[]))
      have HB4 := xH (show Below w.heap.size w (W.setCell ⟨w.heap.size + 1, 0, none⟩ (.func (.func x.f.1) #[x.f.2] #[])) from (xU HBL).setCell (by show w.heap.size ≤ w.heap.size + 1; omega) _)
      clear h2 HG HE
      gi_wp2
      exact ⟨(KeepsOthers.setCell _ _ _).from _, _, ⟨rfl, pre, x, rfl, xU HN, Or.inr ⟨(xU HH2).1, (xU HH2).2, rfl⟩⟩, xU HB2, xU HB4⟩
    · have he2 := xU HE
      rw [show decide ((x.who : Int) = mw ∧ (x.case : Int) = mk) = false from decide_eq_false h2] at he2
      have HSN := xH ((xU HN).snoc h1 h2)
      clear h2 HG HE
      gi_wp2
      exact ⟨KeepsFrom.refl _ _, Kq.refl _ _, xU HSN, xU HBB⟩
 case done =>
  rintro D ys W hD hS ⟨hN, hB⟩ hK
  have hc := (show Boxed W (w.heap.size + 1) 1 .nilFunc from (hB.block _ (by omega)).trans (xU HBO)).cell
  have HH := xH (And.intro hD (And.intro hS (And.intro hN (And.intro hB hK))))
  clear hD hS hN hB hK
  go_wp2_with fail
  obtain ⟨hD, hS, hN, hB, hK⟩ := xU HH
  refine ⟨by simp, .inl ⟨_, _, rfl, run_takeDeferred hK, ?_⟩⟩
  have hbl : Below w.heap.size w W := (xU HBW).trans (hB.mono (xU HBW).size)
  refine ⟨_, results_tmp rfl _ _ _, (xU HK0).on (hbl.trans (belowK_b (w := w) (Nat.le_refl _) W D _ _ (by omega) hK rfl rfl)), Or.inr ⟨fun x hx => (hN x (by rw [hS]; exact hx)).2, rfl⟩⟩
 case stop =>
  rintro D cd pre W hD hSp ⟨v, ⟨rfl, pre', x, hpe, hN, hv⟩, hbx, hbl⟩ hK
  have hc := hbx.cell
  have HH := xH (And.intro hD (And.intro hSp (And.intro hpe (And.intro hN (And.intro hv (And.intro hbl hK))))))
  clear hD hSp hN hbl hK hv hpe
  refine wpIn_wide.2 ?_
  go_wp2_with fail
  obtain ⟨hD, hSp, hpe, hN, hv, hbl, hK⟩ := xU HH
  refine ⟨by simp, .inl ⟨_, _, rfl, run_takeDeferred hK, ?_⟩⟩
  refine ⟨_, results_tmp rfl _ _ _, (xU HK0).on (hbl.trans (belowK_b (w := w) (Nat.le_refl _) W D _ _ (by omega) hK rfl rfl)), ?_⟩
  rw [hpe] at hSp
  rcases hv with ⟨h1, rfl⟩ | ⟨h1, h2, rfl⟩
  · exact Or.inr ⟨hN.pass h1 hSp, rfl⟩
  · exact Or.inl ⟨x, hSp.subset (by simp), h1, h2, rfl⟩
end Go.Proofs.YtibgjcejddpldaaGreat
