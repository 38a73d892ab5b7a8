/- The walk of the program's ready and of its function: the moves that are ready are told one behind the other, as long as one listens. Conditions: the crew is there, its world is formed. -/
import Derived.Sort.CutIn
import Derived.Laws.EntriesVeiled
import Derived.Test.YtibgjcejddpldaaGreatPart31
import Derived.Test.YtibgjcejddpldaaGreatPart00
import Derived.OwnWalkIn
import Derived.Test.YtibgjcejddpldaaGreatPart28
import Derived.Test.YtibgjcejddpldaaGreatPart25
namespace Go.Proofs.YtibgjcejddpldaaGreat
open Go Go.RowKit Go.Shelf

attribute [local go_sem] Oper.semAt_some

theorem WyAt.at2 {P : Nat → Prop} {W : World} {a : Option Addr} {cap : Nat} {xs : List (Bool × Nat × Value)} (h : WyAt P W (.slice a xs.length cap) xs) (j : Nat) (hj : j < xs.length) : ∃ b o, a = some ⟨b, o, none⟩ ∧ P b ∧ W.cell? ⟨b, o + j * 2, none⟩ = some (.bool xs[j].1) ∧ W.cell? ⟨b, o + j * 2 + 1, none⟩ = some (fw xs[j].2) := by
  obtain ⟨a', p', e, -, hc⟩ := h
  simp only [Value.slice.injEq] at e
  obtain ⟨rfl, -, rfl⟩ := e
  obtain ⟨b, o, rfl, hp, h3⟩ := hc j (by rw [List.length_map]; exact hj)
  have h0 := h3 0 (by omega); have h1 := h3 1 (by omega)
  rw [Nat.add_zero, List.getElem_map] at h0
  rw [List.getElem_map] at h1
  exact ⟨b, o, rfl, hp, h0, h1⟩

theorem belG {A B : World} (h : Below A.heap.size A B) : A.grownBy B none := ⟨h.os, h.tape, h.output, h.size, fun i hi _ => h.block i hi⟩
def mvEnc (x : Mv) : Array Value := #[.agg #[.int .i64 (x.who : Int), .int .i64 (x.case : Int)], .func (.func x.f.1) #[x.f.2] #[]]
theorem ready_in (n C : Nat) (w : World) : CallsIn Fence.wide n Tryz.prog 54 #[.pointer (some ⟨C, 0, none⟩)] w fun e w' => e = .returned (.func (.func 87) #[] #[.pointer (some ⟨w.heap.size, 0, none⟩)]) ∧ w' = w.alloc (.cells #[.pointer (some ⟨C, 0, none⟩)] 67) := by
  refine callsIn_of_wp Tryz.func54 rfl trivial ?_ rfl
  simp only [Tryz.ntmps54, List.size_toArray, List.length_cons, List.length_nil, Nat.reduceAdd, Nat.reduceSub, Array.replicate_succ, Array.replicate_zero, List.push_toArray, List.append_toArray, List.nil_append, List.cons_append]
  gi_wp2
  go_ret
  exact ⟨rfl, rfl⟩
/-- What ready's function stands on. -/
structure RyAt (w0 : World) (C : Nat) (c : Cw) (B : CrB) (b3 Bp : Nat) : Prop where
  cr : CrAt w0 C c B
  form : Form c
  bx : w0.cell? ⟨Bp, 0, none⟩ = some (.pointer (some ⟨C, 0, none⟩))
  b3lt : b3 < w0.heap.size
  nb : b3 ∉ CrB.blocks C B
  ob : obl b3 w0 = none
theorem movesP_pre (C H : Nat) (c : Cw) {k m : Nat} (h : k ≤ m) : movesP C H c k <+: movesP C H c m := by
  induction m with
  | zero => obtain rfl : k = 0 := by omega
            exact List.prefix_refl _
  | succ m ih =>
    by_cases e : k = m + 1
    · subst e; exact List.prefix_refl _
    · rw [movesP_succ]
      exact (ih (by omega)).trans (List.prefix_append _ _)
theorem mvp_pre (who : Nat) {xs : List (Bool × Nat × Value)} {k m : Nat} (hm : m ≤ xs.length) (h : k ≤ m) : mvp who 0 (xs.take k) <+: mvp who 0 (xs.take m) := by
  induction m with
  | zero => obtain rfl : k = 0 := by omega
            exact List.prefix_refl _
  | succ m ih =>
    by_cases e : k = m + 1
    · subst e; exact List.prefix_refl _
    · rw [mvp_take (by omega)]
      exact (ih (by omega) (by omega)).trans (List.prefix_append _ _)
set_option maxRecDepth 100000 in
set_option maxHeartbeats 6400000 in
theorem ready1_in (n l C : Nat) (c : Cw) (B : CrB) (b3 Bp : Nat) (w0 : World) (hA : RyAt w0 C c B b3 Bp) (J Jx : List Mv → World → Prop) (hJ : ∀ s A B, J s A → A.grownBy B none → J s B)
    (hY : ∀ pre x W, J pre W → pre.length < 36 → YieldAt Fence.wide (n - 1) Tryz.prog l (mvEnc x) W fun e W' => (e = .returned (.bool true) ∧ J (pre ++ [x]) W' ∧ Kq b3 W W') ∨ (e = .returned (.bool false) ∧ Jx (pre ++ [x]) W'))
    (W : World) (hW : Below w0.heap.size w0 W) (h0 : J [] W) :
    CallsIn Fence.wide n Tryz.prog 87 #[.func (.yield l) #[] #[], .pointer (some ⟨Bp, 0, none⟩)] W fun e W' => (∃ v, e = .returned v) ∧ ((∃ ys : List Mv, ys = movesP C B.H c (c.hands.length + 4) ∧ J ys W') ∨ (∃ pre : List Mv, pre <+: movesP C B.H c (c.hands.length + 4) ∧ Jx pre W')) := by
  have hdd : ∀ k : Nat, (Fence.wide.depth.isSome = true → 1 ≤ k) := fun k h => by cases h
  have hBp : Bp < w0.heap.size := by
    obtain ⟨o, ho, -⟩ := cells_of_cell hA.bx
    exact (Array.getElem?_eq_some_iff.1 ho).1
  have k0 : W.cell? ⟨Bp, 0, none⟩ = some (.pointer (some ⟨C, 0, none⟩)) := by
    rw [World.cell?_of_block (a := ⟨Bp, 0, none⟩) (hW.block Bp hBp)]; exact hA.bx
  have hcW : CrAt W C c B := hA.cr.below hW
  have HOB := hide (show obl b3 W = none from (obl_same (hW.block b3 hA.b3lt)).trans hA.ob)
  have HB3 := hide (Nat.lt_of_lt_of_le hA.b3lt hW.size)
  have HNB := hide hA.nb
  have HF := hide hA.form
  have h8 := hcW.szH.2
  have HAL := hide (allW_any C c B W hcW)
  have HLB := hide hcW.lt
  have HJ := hide hJ; have HY := hide hY; have H0 := hide h0
  clear hBp hA hJ hY hW h0 hcW
  obtain ⟨y, hy⟩ : ∃ y : Nat, y = c.hands.length := ⟨_, rfl⟩
  have HYE := hide hy
  rw [← hy] at HAL h8 ⊢
  clear hy
  refine callsIn_of_wp Tryz.func87 rfl trivial ?_ rfl
  simp only [Tryz.ntmps87, List.size_toArray, List.length_cons, List.length_nil, Nat.reduceAdd, Nat.reduceSub, Array.replicate_succ, Array.replicate_zero, List.push_toArray, List.append_toArray, List.nil_append, List.cons_append]
  gi_wp2_with ((try refine ⟨trivial, ?_⟩); (try refine ⟨hdd _, ?_⟩); gi_at_call 88; refine (callsIn_wide.2 (unhide HAL)).mono ?_; rintro e W1 ⟨aF, cF, rfl, hgf⟩; have HGF := hide hgf; clear hgf HAL)
  clear k0
  have HOB1 := hide (show obl b3 W1 = none from (obl_same ((unhide HGF).kc.bel.block b3 (unhide HB3))).trans (unhide HOB))
  have HJ1 := hide (unhide HJ _ _ _ (unhide H0) (belG (unhide HGF).kc.bel))
  clear HOB H0
  gi_loopw [10] (fun i wr => ∃ (k : Nat), k ≤ y + 4 ∧ i = .int .i64 k ∧ Hid (J (movesP C B.H c k) wr) ∧ Hid (Kq b3 W1 wr)) (fun i _ => y + 4 - (intOf i).toNat)
  case atStart => exact ⟨0, Nat.zero_le _, rfl, HJ1, hide (Kq.refl _ _)⟩
  case round =>
    clear HJ1
    obtain ⟨k, hk, rfl, HJK, HKQ⟩ := hrel
    by_cases hlt : k < y + 4
    · obtain ⟨f, r, hfk, hen, hcall⟩ := ways_at C c B (unhide HF) k (by rw [← unhide HYE]; exact hlt)
      have hcr : CrAt wr C c B := (unhide HGF).kc.cr.kq HKQ.out (unhide HNB) (unhide HOB1)
      have HCALL := hide (hcall wr hcr)
      obtain ⟨gF, rfl, hgF, hcF⟩ := own_at (unhide HGF).own k hlt
      rw [unhide HYE, hfk] at hcF
      have e0 : wr.cell? ⟨gF, k, none⟩ = some (.func (.func f) #[r] #[]) := HKQ.out.cell hcF (by have := unhide HB3; show gF ≠ b3; omega) (by rw [unhide HOB1]; simp)
      clear hcall hcr hcF hfk
      gi_wp2_with ((try refine ⟨trivial, ?_⟩); (try refine ⟨hdd _, ?_⟩); refine (callsIn_wide.2 (unhide HCALL)).mono ?_; rintro e W2 ⟨aX, cX, rfl, hxs, hb⟩; have HXS := hide hxs; have HB2 := hide hb; clear hxs hb HCALL)
      clear e0 hen
      have HJ2 := hide (unhide HJ _ _ _ HJK.out (belG (unhide HB2)))
      have HB3r := hide (show b3 < wr.heap.size from by have := unhide HB3; have := (unhide HGF).kc.bel.size; have := HKQ.out.size; omega)
      have HKQ2 := hide (HKQ.out.trans (Kq.of_below (unhide HB2) (unhide HB3r)))
      have HOBW := hide (show ∀ b, wr.heap.size ≤ b → b ≠ b3 ∧ obl b3 W2 ≠ some b from fun b hb => ⟨by have := unhide HB3r; omega, fun e => by
        rw [obl_same ((unhide HB2).block b3 (unhide HB3r))] at e
        have := (HKQ.out.own (unhide HOB1) b e).2
        omega⟩)
      have hxl := pw_len C B.H c k
      have HSU := hide (movesP_succ C B.H c k)
      have HML := hide (movesP_len C B.H c k)
      have HPR := hide (movesP_pre C B.H c (show k + 1 ≤ y + 4 by omega))
      generalize pw C B.H c k = xs at HXS hxl HSU ⊢
      obtain ⟨l1, hl1⟩ : ∃ l1, movesP C B.H c (k + 1) = l1 := ⟨_, rfl⟩
      rw [hl1] at HSU HPR
      have HL1 := hide hl1
      clear hl1
      generalize movesP C B.H c k = l0 at HJ2 HSU HML
      have HSZ2 := hide (show b3 < W2.heap.size from by have := unhide HB3; have := (unhide HGF).kc.bel.size; have := (unhide HKQ2).size; omega)
      clear HJK HB3r HB2
      gi_loopw [18] (fun i ws => ∃ (j : Nat), j ≤ xs.length ∧ i = .int .i64 j ∧ Hid (J (l0 ++ mvp k 0 (xs.take j)) ws) ∧ Hid (Kq b3 W2 ws)) (fun i _ => xs.length - (intOf i).toNat)
      case atStart => exact ⟨0, Nat.zero_le _, rfl, by rw [List.take_zero, mvp, List.append_nil]; exact HJ2, hide (Kq.refl _ _)⟩
      case round =>
        clear HJ2
        obtain ⟨j, hj, rfl, HJJ, HKJ⟩ := hrel
        by_cases hjl : j < xs.length
        · obtain ⟨bX, oX, rfl, hbX, e0, e1⟩ := (unhide HXS).at2 j hjl
          have e0 := HKJ.out.cell e0 (unhide HOBW bX hbX.1).1 (unhide HOBW bX hbX.1).2
          have e1 := HKJ.out.cell e1 (unhide HOBW bX hbX.1).1 (unhide HOBW bX hbX.1).2
          have HTK := hide (mvp_take (who := k) hjl)
          have HFX := hide (show fw xs[j].2 = .func (.func xs[j].2.1) #[xs[j].2.2] #[] from rfl)
          rw [unhide HFX] at e1
          generalize xs[j].2 = fX at e1 HTK
          clear HFX
          cases hx : xs[j].1 with
          | true =>
            rw [hx] at e0 HTK
            gi_upto_region 6 with fail
            have HBV := hide (show Below wr.heap.size wr (wr.alloc (.cells #[.bool true, .func (.func fX.1) #[fX.2] #[]] 117)) from (Below.refl _ _).alloc (Nat.le_refl _) _)
            have v0 : (wr.alloc (.cells #[.bool true, .func (.func fX.1) #[fX.2] #[]] 117)).cell? ⟨wr.heap.size, 0, none⟩ = some (.bool true) := by rw [World.cell?_alloc_mark]; rfl
            have v1 : (wr.alloc (.cells #[.bool true, .func (.func fX.1) #[fX.2] #[]] 117)).cell? ⟨wr.heap.size, 1, none⟩ = some (.func (.func fX.1) #[fX.2] #[]) := by rw [World.cell?_alloc_mark]; rfl
            generalize wr.alloc (.cells #[.bool true, .func (.func fX.1) #[fX.2] #[]] 117) = V at HBV v0 v1 ⊢
            have HJV := hide (unhide HJ _ _ _ HJJ.out (belG (unhide HBV)))
            have HKV := hide (HKJ.out.trans (Kq.of_below (unhide HBV) (by have := unhide HSZ2; have := HKJ.out.size; omega)))
            clear HJJ HKJ HBV e0 e1 hx
            obtain ⟨fn, tmps, assign, body, hy, hR⟩ := unhide HY _ ⟨k, j, fX⟩ V (unhide HJV) (by
              rw [List.length_append]
              have h1 := mvp_len k (xs.take j) 0
              rw [List.length_take] at h1
              have h2 := unhide HML
              omega)
            simp only [mvEnc] at hy
            have HPX := hide (show (l0 ++ mvp k 0 (xs.take j)) ++ [⟨k, j, fX⟩] <+: movesP C B.H c (y + 4) from by
              rw [List.append_assoc, ← (show mvp k 0 (xs.take (j + 1)) = mvp k 0 (xs.take j) ++ [⟨k, j, fX⟩] from unhide HTK)]
              refine List.IsPrefix.trans ?_ (unhide HPR)
              rw [unhide HSU]
              refine List.prefix_append_right_inj _ |>.2 ?_
              have := mvp_pre k (xs := xs) (Nat.le_refl _) (show j + 1 ≤ xs.length from hjl)
              rw [List.take_length] at this
              exact this)
            gi_wp2_with ((try refine ⟨hdd _, ?_⟩); refine hR.mono ?_; clear hR hy; rintro e W4 (⟨rfl, HJ4, HK4⟩ | ⟨rfl, HX4⟩))
            · go_roundw
              case rel => exact ⟨j + 1, by omega, by go_num, hide (by rw [(show mvp k 0 (xs.take (j + 1)) = mvp k 0 (xs.take j) ++ [⟨k, j, fX⟩] from unhide HTK), ← List.append_assoc]; exact HJ4), hide ((unhide HKV).trans HK4)⟩
              case measure => simp [intOf]; omega
            · refine bodyPost_ret (results_none rfl _ _ _) rfl ?_
              exact ⟨⟨_, rfl⟩, .inr ⟨_, unhide HPX, HX4⟩⟩
          | false =>
            rw [hx] at e0 HTK
            have HBV := hide (fun ob => (show Below wr.heap.size wr (wr.alloc ob) from (Below.refl _ _).alloc (Nat.le_refl _) _))
            have HKV := hide (fun ob => HKJ.out.trans (Kq.of_below (unhide HBV ob) (by have := unhide HSZ2; have := HKJ.out.size; omega)))
            have HJV := hide (fun ob => unhide HJ _ _ _ HJJ.out (belG (unhide HBV ob)))
            clear HJJ HKJ hx
            gi_wp2_with fail
            refine And.intro (fun _ h => (nomatch h)) ?_
            gi_wp2_with fail
            go_roundw
            case rel => exact ⟨j + 1, by omega, by go_num, hide (by rw [(show mvp k 0 (xs.take (j + 1)) = mvp k 0 (xs.take j) ++ [] from unhide HTK), List.append_nil]; exact unhide HJV _), hide (unhide HKV _)⟩
            case measure => simp [intOf]; omega
        · obtain rfl : j = xs.length := by omega
          have HJE := hide (show J l1 wr from by rw [unhide HSU]; have := HJJ.out; rw [List.take_length] at this; exact this)
          have HKE := hide ((unhide HKQ2).trans HKJ.out)
          clear HJJ HKJ
          gi_wp2_with fail
          go_roundw
          case rel => exact ⟨k + 1, by omega, by go_num, by rw [unhide HL1]; exact HJE, HKE⟩
          case measure => simp [intOf]; omega
    · obtain rfl : k = y + 4 := by omega
      gi_wp2_with fail
      go_end0
      exact ⟨⟨_, rfl⟩, .inl ⟨_, rfl, HJK.out⟩⟩
end Go.Proofs.YtibgjcejddpldaaGreat

/- append onto a row of one's own, inside a fence: where the row stands afterwards. No program. No conditions. -/

namespace Go.Proofs.YtibgjcejddpldaaGreat
open Go Go.RowKit

theorem appendIn_row {F : Fence} {fn : Nat} {P : Program} (w : World) {ops : Array Oper} {rest : List Oper} {o : Oper} {a : Act} {Q : Exit → Act → World → Prop}
    (hg : o.guard = none) (s x : Operand) (t : TypeId) (hop : o.op = Op.call { callee := Callee.builtin Builtin.append, args := #[s, x], argTypes := #[t, t] })
    (base : Nat) (e : TypeId) (i : TypeInfo) (z : Value) (size bytes : Nat) (h1 : P.underlying t = some (.slice e)) (h2 : P.info? e = some i) (h3 : i.zero = some z) (h4 : i.size = size) (h5 : i.bytes = bytes) (h6 : z.cells.size = size) (h7 : 0 < size)
    (v : Value) (n : Nat) (xs : List Value) (hs : a.eval s = v) (hown : w.ownsRow base e size v n xs)
    (ad : Addr) (m c : Nat) (news : List Value) (hx : a.eval x = .slice (some ad) m c) (hn : news.length = m * size) (hc : ∀ j u, news[j]? = some u → w.cell? (ad.add j) = some u) (h1c : ∀ u ∈ news, u.oneCell' = true)
    (hm : 0 < m) (b1 : n + m ≤ maxLen) (b2 : (n + m) * bytes ≤ 140737488355328) (hbase : base ≤ w.heap.size)
    (hK : ∀ v' w', w'.ownsRow base e size v' (n + m) (xs ++ news) → w.grownBy w' v.ownBlock → (v'.ownBlock = v.ownBlock ∨ ∃ g, v'.ownBlock = some g ∧ w.heap.size ≤ g ∧ g < w'.heap.size) → wpListIn F fn P ops Q rest (a.put o.dst v') w') :
    wpListIn F fn P ops Q (o :: rest) a w := by
  have hgrow : ∀ v' w', w'.ownsRow w.heap.size e size v' (n + m) (xs ++ news) → w.grownBy w' none → wpListIn F fn P ops Q rest (a.put o.dst v') w' := fun v' w' r1 r2 => by
    refine hK v' w' (ownsRow_base r1 hbase) ⟨r2.os, r2.tape, r2.output, r2.size, fun k hk _ => r2.block k hk (by simp)⟩ (Or.inr ?_)
    rcases r1.2 with ⟨_, h⟩ | ⟨g, cap, cur, hv, hgg, hh, _⟩
    · omega
    · exact ⟨g, by rw [hv]; rfl, hgg, (Array.getElem?_eq_some_iff.1 hh).1⟩
  refine wpListIn_plain hg fun K hK' => ?_
  unfold Oper.wpIn
  refine ⟨?_, ?_⟩
  · simp [Oper.about, hop, resolve, Target.leads, Sem.run_pure]
  rw [Oper.semAt_plain F _ _ (by rw [hop]; intro c hc'; cases hc')]
  rcases hown.2 with ⟨hv, hn0⟩ | ⟨g, cap, cur, hv, hgb, hh, hle, hm2, hsz, htk⟩
  · obtain ⟨v', w', hrun, r1, r2, -⟩ := run_append_own (P := P) w w.heap.size t o.type e i z size bytes h1 h2 h3 h4 h5 h6 h7 v n xs ⟨hown.1, Or.inl ⟨hv, hn0⟩⟩ ad m c news hn hc h1c b1 b2 (Nat.le_refl _)
    simp [execOp, hop, resolve, invoke, builtin, hs, hx, hrun, Result.andThen]
    exact hK' _ _ (hgrow v' w' r1 (by rw [hv] at r2; exact r2))
  · by_cases hr : n + m ≤ cap
    · subst hv
      obtain ⟨w', hrun, r1, r2⟩ := run_append_fits (P := P) w base t o.type e i size h1 h2 h4 g n cap xs hown ad m c news hn hc h1c hr
      simp [execOp, hop, resolve, invoke, builtin, hs, hx, hrun, Result.andThen]
      exact hK' _ _ (hK _ w' r1 r2 (Or.inl rfl))
    · have holds : ∀ j u, xs[j]? = some u → w.cell? ((⟨g, 0, none⟩ : Addr).add j) = some u := fun j u hj => by
        have hj' : cur.toList[j]? = some u := by
          rw [← htk] at hj
          rw [List.getElem?_take] at hj
          split at hj
          · exact hj
          · cases hj
        rw [Addr.add_lit]
        simp only [Nat.zero_add, World.cell?, hh]
        simpa using hj'
      subst hv
      obtain ⟨v', w', hrun, r1, r2⟩ := run_append_arg_grows (P := P) w t o.type e i z size bytes h1 h2 h3 h4 h5 h6 h7 ⟨g, 0, none⟩ n cap xs hown.1 holds ad m c news hn hc (by omega) b1 b2
      simp [execOp, hop, resolve, invoke, builtin, hs, hx, hrun, Result.andThen]
      exact hK' _ _ (hgrow v' w' r1 r2)
end Go.Proofs.YtibgjcejddpldaaGreat

/- The walk of the specification's CrewMoves. No conditions. -/

namespace Go.Proofs.YtibgjcejddpldaaGreat
open Go Go.RowKit

/-- A list of moves that grows, beside a list of truths. -/
structure Mb (P : Nat → Prop) (w W : World) (c : Cw) (A : A7) (a : Option Addr) (n cap : Nat) (l : List (Nat × Nat)) (lo hi : Nat) (u : Value) (bs : List Bool) : Prop where
  mo : Mo P w W c A a n cap l
  bt : BAt (fun x => lo ≤ x ∧ x < hi) W u bs
  sz : hi ≤ W.heap.size
  ap : ∀ g, (Value.slice a n cap).ownBlock = some g → g < lo ∨ hi ≤ g
theorem Mb.add {P : Nat → Prop} {w W : World} {c : Cw} {A : A7} {a : Option Addr} {n cap : Nat} {l : List (Nat × Nat)} {lo hi : Nat} {u : Value} {bs : List Bool} {W' : World} {a' : Option Addr} {cap' : Nat} (h : Mb P w W c A a n cap l lo hi u bs) (ob : Obj) (m : Nat × Nat) (ho : W'.ownsRow (w.heap.size + 1) 28 2 (.slice a' (n + 1) cap') (n + 1) ((l.map mcs).flatten ++ [.int .i64 (m.1 : Int), .int .i64 (m.2 : Int)])) (hg : (W.alloc ob).grownBy W' (Value.slice a n cap).ownBlock) (hat : (Value.slice a' (n + 1) cap').ownBlock = (Value.slice a n cap).ownBlock ∨ ∃ g, (Value.slice a' (n + 1) cap').ownBlock = some g ∧ (W.alloc ob).heap.size ≤ g) : Mb P w W' c A a' (n + 1) cap' (l ++ [m]) lo hi u bs := by
  have hb : Below W.heap.size W (W.alloc ob) := (Below.refl _ _).alloc (Nat.le_refl _) ob
  have hs := h.sz
  have hsa : (W.alloc ob).heap.size = W.heap.size + 1 := by simp
  refine ⟨(h.mo.on hb).add m ho hg, h.bt.carry (fun x hx => ?_) (fun _ h => h), by have := hg.size; omega, fun g e => ?_⟩
  · rw [hg.block x (by omega) (fun e => by have := h.ap x e.symm; omega)]
    exact hb.block x (by omega)
  · rcases hat with e2 | ⟨g2, e2, h2⟩
    · exact h.ap g (e2.symm.trans e)
    · rw [e2] at e
      simp only [Option.some.injEq] at e
      omega
theorem BAt.at' {P : Nat → Prop} {W : World} {a : Option Addr} {cap : Nat} {bs : List Bool} (h : BAt P W (.slice a bs.length cap) bs) (j : Nat) (hj : j < bs.length) : ∃ b o, a = some ⟨b, o, none⟩ ∧ W.cell? ⟨b, o + j, none⟩ = some (.bool bs[j]) := by
  obtain ⟨a', p', e, -, hc⟩ := h
  simp only [Value.slice.injEq] at e
  obtain ⟨rfl, -, rfl⟩ := e
  obtain ⟨b, o, rfl, -, h3⟩ := hc j (by rw [List.length_map]; exact hj)
  have := h3 0 (by omega)
  rw [Nat.mul_one, Nat.add_zero, List.getElem_map] at this
  exact ⟨b, o, rfl, this⟩
def MvEnd (w w' : World) (e : Ending) (l : List (Nat × Nat)) : Prop := ∃ a cap, e = .returned (.slice a l.length cap) ∧ w'.ownsRow (w.heap.size + 1) 28 2 (.slice a l.length cap) l.length (l.map mcs).flatten ∧ Below w.heap.size w w'
theorem Mo.fin {P : Nat → Prop} {w W : World} {c : Cw} {A : A7} {a : Option Addr} {n cap : Nat} {l : List (Nat × Nat)} (h : Mo P w W c A a n cap l) : MvEnd w W (.returned (.slice a n cap)) l := by
  obtain ⟨h1, h2, rfl⟩ := h
  exact ⟨a, cap, rfl, h2, h1.bel⟩
set_option maxRecDepth 100000 in
set_option maxHeartbeats 6400000 in
theorem specCrewMoves_any (c : Cw) (A : A7) (P : Nat → Prop) (w : World) (h : CwAt P w c (A.v c)) (hP : ∀ b, P b → b < w.heap.size) : Calls Tryz.prog 22 #[.agg #[.int .i64 c.jobs, .int .i64 c.workers, .int .i64 c.window, .int .i64 c.next, .int .i64 c.reader, .slice A.q c.queue.length A.pq, .slice A.h c.hands.length A.ph, .int .i64 c.closer, .slice A.r c.results.length A.pr, .int .i64 c.keeper, .slice A.g c.ring.length A.pg, .int .i64 c.due, .slice A.o c.out.length A.po, .int .i64 c.user, .slice A.t c.got.length A.pt, .int .i64 c.room, .slice A.s c.shut.length A.ps, .int .i64 c.ops]] w fun e w' => ∃ l, (okS c → l = movesD c) ∧ (¬ okS c → l = []) ∧ MvEnd w w' e l := by
  have HS := hide (Ag.start h hP)
  have HSZ := hide (show (w.alloc (.cells #[.int .i64 c.jobs, .int .i64 c.workers, .int .i64 c.window, .int .i64 c.next, .int .i64 c.reader, .slice A.q c.queue.length A.pq, .slice A.h c.hands.length A.ph, .int .i64 c.closer, .slice A.r c.results.length A.pr, .int .i64 c.keeper, .slice A.g c.ring.length A.pg, .int .i64 c.due, .slice A.o c.out.length A.po, .int .i64 c.user, .slice A.t c.got.length A.pt, .int .i64 c.room, .slice A.s c.shut.length A.ps, .int .i64 c.ops] 26)).heap.size = w.heap.size + 1 by simp)
  have HCF := hide (fun W (hW : Ag P w W c A) => specCrewOk_any c A P W hW.at' hW.hand.2)
  obtain ⟨dd, hdu, hdr⟩ := rowWorld
  obtain ⟨j3, hJ, hW0, hW1, hW2⟩ := info_parts infoMoveM
  have HJ := hide hJ; have HW0 := hide hW0; have HW1 := hide hW1; have HW2 := hide hW2
  clear hJ hW0 hW1 hW2 h hP
  go_enter Tryz.func22, Tryz.ntmps22
  go_upto_region 1 with fail
  generalize w.alloc (.cells #[.int .i64 c.jobs, .int .i64 c.workers, .int .i64 c.window, .int .i64 c.next, .int .i64 c.reader, .slice A.q c.queue.length A.pq, .slice A.h c.hands.length A.ph, .int .i64 c.closer, .slice A.r c.results.length A.pr, .int .i64 c.keeper, .slice A.g c.ring.length A.pg, .int .i64 c.due, .slice A.o c.out.length A.po, .int .i64 c.user, .slice A.t c.got.length A.pt, .int .i64 c.room, .slice A.s c.shut.length A.ps, .int .i64 c.ops] 26) = W0 at HS HSZ ⊢
  have HM0 := hide (Mo.start (unhide HS) (unhide HSZ))
  clear HS HSZ
  go_upto_region 2 with fail
  generalize W0.alloc (.cells #[] 28) = W1 at HM0 ⊢
  generalize W0.heap.size = g0 at HM0 ⊢
  refine wp_region_list ?_
  refine wpList_load_mid rfl _ _ rfl w.heap.size 0 rfl [.int .i64 c.jobs, .int .i64 c.workers, .int .i64 c.window, .int .i64 c.next, .int .i64 c.reader, .slice A.q c.queue.length A.pq, .slice A.h c.hands.length A.ph, .int .i64 c.closer, .slice A.r c.results.length A.pr, .int .i64 c.keeper, .slice A.g c.ring.length A.pg, .int .i64 c.due, .slice A.o c.out.length A.po, .int .i64 c.user, .slice A.t c.got.length A.pt, .int .i64 c.room, .slice A.s c.shut.length A.ps, .int .i64 c.ops] dd (unhide HM0).ag.range hdu hdr info18 ?_
  refine wpList_plain rfl (fun K hK => ?_)
  go_simp
  refine (unhide HCF _ (unhide HM0).ag).mono ?_
  rintro e w2 ⟨⟨r, rfl, hr⟩, hb⟩
  refine hK _ _ ?_
  clear hK K
  have HM2 := hide ((unhide HM0).on hb)
  have HR := hide hr
  clear hb hr HCF HM0
  cases r with
  | false =>
    have HNO := hide (show ¬ okS c from fun h => Bool.false_ne_true ((unhide HR).2 h))
    clear HR
    go_wp2_with fail
    go_ret
    exact ⟨[], fun h => absurd h (unhide HNO), fun _ => rfl, (unhide HM2).fin⟩
  | true =>
    have HOK := hide ((unhide HR).1 rfl)
    have HF := hide ((formS_iff c).1 (unhide HOK).1).1
    have hh8 := (unhide HF).small.1
    clear HR
    obtain ⟨y, hy⟩ : ∃ y : Nat, y = c.hands.length := ⟨_, rfl⟩
    have HY := hide hy
    rw [← hy] at hh8
    clear hy
    have hw3 : IntKind.i64.wrap ((y : Int) + 3) = (y : Int) + 3 := by rw [IntKind.wrap_i64]; omega
    go_wp2_with fail
    go_loopw [3, 4] (fun v i wr => ∃ (k : Nat) (a : Option Addr) (n cap : Nat), k ≤ y + 4 ∧ i = .int .i64 k ∧ v = .slice a n cap ∧ Hid (Mo P w wr c A a n cap (movesU c k))) (fun _ i _ => y + 4 - (intOf i).toNat)
    case atStart => exact ⟨0, _, _, _, Nat.zero_le _, rfl, rfl, HM2⟩
    case round =>
      obtain ⟨k, a, n, cap, hk, rfl, rfl, HM⟩ := hrel
      have k1 := HM.out.ag.k1
      rw [← (unhide HF).hands, ← unhide HY] at k1
      by_cases hlt : k ≤ y + 3
      · have hle : decide ((k : Int) ≤ (y : Int) + 3) = true := decide_eq_true (by omega)
        have HWY := hide (l52Ways_any c A P wr HM.out.ag.at' HM.out.ag.hand.2 (unhide HF) k (by have := unhide HY; omega))
        go_upto_region 7 with fail
        refine wp_region_list ?_
        refine wpList_load_mid rfl _ _ rfl w.heap.size 0 rfl [.int .i64 c.jobs, .int .i64 c.workers, .int .i64 c.window, .int .i64 c.next, .int .i64 c.reader, .slice A.q c.queue.length A.pq, .slice A.h c.hands.length A.ph, .int .i64 c.closer, .slice A.r c.results.length A.pr, .int .i64 c.keeper, .slice A.g c.ring.length A.pg, .int .i64 c.due, .slice A.o c.out.length A.po, .int .i64 c.user, .slice A.t c.got.length A.pt, .int .i64 c.room, .slice A.s c.shut.length A.ps, .int .i64 c.ops] dd HM.out.ag.range hdu hdr info18 ?_
        refine wpList_plain rfl (fun K hK => ?_); go_simp; refine hK _ _ ?_; clear hK K
        refine wpList_plain rfl (fun K hK => ?_)
        go_simp
        refine (unhide HWY).mono ?_
        rintro e w3 ⟨a2, cap2, rfl, hbt, hb⟩
        refine hK _ _ ?_
        clear hK K HWY
        have HB0 := hide (show Mb P w w3 c A a n cap (movesU c k ++ mvs k 0 ((ways c k).take 0)) wr.heap.size w3.heap.size (.slice a2 (ways c k).length cap2) (ways c k) from
          ⟨by rw [List.take_zero]; simp only [mvs, List.append_nil]; exact HM.out.on hb, hbt, Nat.le_refl _, fun g e => Or.inl (HM.out.own.lt g e).2⟩)
        have hwl := ways_len c k
        have HMU := hide (movesU_len c k)
        have HSU := hide (movesU_succ c k)
        clear hbt hb HM k1
        generalize wr.heap.size = lo at HB0
        generalize w3.heap.size = hi at HB0
        generalize ways c k = bs at HB0 hwl HSU ⊢
        generalize movesU c k = l0 at HB0 HMU HSU
        go_wp2_with fail
        go_loopw [3, 6] (fun v i ws => ∃ (j : Nat) (a : Option Addr) (n cap : Nat), j ≤ bs.length ∧ i = .int .i64 j ∧ v = .slice a n cap ∧ Hid (Mb P w ws c A a n cap (l0 ++ mvs k 0 (bs.take j)) lo hi (.slice a2 bs.length cap2) bs)) (fun _ i _ => bs.length - (intOf i).toNat)
        case atStart => exact ⟨0, _, _, _, Nat.zero_le _, rfl, rfl, HB0⟩
        case round =>
          obtain ⟨j, a, n, cap, hj, rfl, rfl, HMB⟩ := hrel
          by_cases hjl : j < bs.length
          · obtain ⟨b, o, rfl, e0⟩ := HMB.out.bt.at' j hjl
            have HTK := hide (mvs_take (who := k) hjl)
            have hnn : n ≤ 100 := by
              have h1 := HMB.out.mo.len
              rw [List.length_append] at h1
              have h2 := mvs_len k (bs.take j) 0
              rw [List.length_take] at h2
              have h3 := unhide HMU
              omega
            cases hbj : bs[j] with
            | true =>
              rw [hbj] at HTK e0
              generalize mvs k 0 (bs.take j) = l1 at HMB HTK
              go_wp2_with (at_builtin; refine append_row _ rfl _ _ 47 rfl (w.heap.size + 1) 28 j3 (.agg #[.int .i64 0, .int .i64 0]) 2 16 Tryz.underlying47 (unhide HJ) (unhide HW0) (unhide HW1) (unhide HW2) rfl (by decide) (.slice a n cap) n ((l0 ++ l1).map mcs).flatten rfl (World.ownsRow.alloc HMB.out.mo.own _) ⟨_, 0, none⟩ 1 1 [.int .i64 (k : Int), .int .i64 (j : Int)] rfl rfl (cell_twoT _ _ _ _) (fun u hu => by simp at hu; rcases hu with rfl | rfl <;> rfl) (by decide) (by unfold maxLen; omega) (by omega) (by have := HMB.out.mo.ag.bel.size; have := HMB.out.mo.ag.box.lt; simp; omega) ?_; intro v' w8 hown8 hgrow8 hat8; obtain ⟨g8, cap8, rfl, hg1, hg2⟩ := hown8.form (by omega); have HM6 := hide (HMB.out.add _ (k, j) hown8 hgrow8 hat8); clear hown8 hgrow8 hat8)
              go_roundw
              case rel => exact ⟨j + 1, _, _, _, by omega, by go_num, rfl, by rw [unhide HTK, if_pos rfl, ← List.append_assoc]; exact HM6⟩
              case measure => simp [intOf]; omega
            | false =>
              rw [hbj] at HTK e0
              generalize mvs k 0 (bs.take j) = l1 at HMB HTK
              go_wp2_with fail
              go_roundw
              case rel => exact ⟨j + 1, _, _, _, by omega, by go_num, rfl, by rw [unhide HTK, if_neg Bool.false_ne_true, List.append_nil]; exact HMB⟩
              case measure => simp [intOf]; omega
          · obtain rfl : j = bs.length := by omega
            have HMS := hide (show Mo P w _ c A a n cap (movesU c (k + 1)) from by rw [unhide HSU]; have := HMB.out.mo; rw [List.take_length] at this; exact this)
            clear HMB
            go_wp2_with fail
            go_roundw
            case rel => exact ⟨k + 1, _, _, _, by omega, by go_num, rfl, HMS⟩
            case measure => simp [intOf]; omega
      · obtain rfl : k = y + 4 := by omega
        have hle : decide (((y + 4 : Nat) : Int) ≤ (y : Int) + 3) = false := decide_eq_false (by omega)
        go_wp2_with fail
        go_ret
        refine ⟨movesD c, fun _ => rfl, fun h => absurd (unhide HOK) h, ?_⟩
        have := HM.out.fin
        rw [unhide HY] at this
        exact this
end Go.Proofs.YtibgjcejddpldaaGreat
