/- The walk of the specification's l45Plan: some plan is drawn, of at most 41 parts, in memory of its own; nothing turns but the reader. No conditions. -/
import Derived.Test.YtcnkkegpckibbaaDoorPart11
import Derived.Test.YtcnkkegpckibbaaDoorPart08
import Derived.Deep.Cut
import Derived.Test.YtcnkkegpckibbaaDoorPart00
import Derived.Test.YtcnkkegpckibbaaDoorPart09
import Derived.Test.YtcnkkegpckibbaaDoorRows
import Derived.Laws.StructEq
namespace Go.Proofs.YtcnkkegpckibbaaDoor
open Go Go.RowKit

/-- A plan has been drawn. -/
def PlDr (R : Nat) (w w' : World) (e : Ending) : Prop :=
  ∃ (l : Pl) (v : Value) (F : List Nat), e = .returned (.agg #[v, .int .i64 l.op, .int .i64 l.fi]) ∧ l.parts.length ≤ 41 ∧ FlatOwn w' v 4 (l.parts.map Pt.cs) F ∧ (∀ b, b ∈ F → w.heap.size ≤ b ∧ b < w'.heap.size) ∧ But R w w'
theorem PnD.fin {R : Nat} {rv : Value} {bs : List UInt8} {w W : World} {k : Nat} {v : Value} {ps : List Pt} {x y : Int} (h : PnD R rv bs w W k v ps x y) (hl : ps.length ≤ 41) (a b c : Value) : PlDr R w (((W.setCell ⟨w.heap.size, 0, none⟩ a).setCell ⟨w.heap.size, 1, none⟩ b).setCell ⟨w.heap.size, 2, none⟩ c) (.returned (.agg #[v, .int .i64 x, .int .i64 y])) := by
  obtain ⟨F, g1, g2, g3, -⟩ := FlatOwn.of_row (rs := ps.map Pt.cs) (n := 4) (by rw [List.length_map]; exact h.own) (fun r hr => by obtain ⟨f, -, rfl⟩ := List.mem_map.1 hr; rfl)
  have hb : But w.heap.size W (((W.setCell ⟨w.heap.size, 0, none⟩ a).setCell ⟨w.heap.size, 1, none⟩ b).setCell ⟨w.heap.size, 2, none⟩ c) := ((But.set W 0 a).trans (But.set _ 1 b)).trans (But.set _ 2 c)
  refine ⟨⟨ps, x, y⟩, v, F, rfl, hl, FlatOwn.carry g1 (fun b hb' => hb.at (g3 b hb').2 (by have := (g3 b hb').1; omega)), fun b hb' => ?_, (h.rest hb (Nat.le_refl _)).1⟩
  have := g3 b hb'
  simp only [World.size_setCell]; omega
/-- What its boxes hold. -/
theorem PnD.cs {R : Nat} {rv : Value} {bs : List UInt8} {w W : World} {k : Nat} {v : Value} {ps : List Pt} {x y : Int} (h : PnD R rv bs w W k v ps x y) : (W.cell? ⟨w.heap.size + 1, 0, none⟩ = some v ∧ W.cell? ⟨w.heap.size + 1, 1, none⟩ = some (.int .i64 x) ∧ W.cell? ⟨w.heap.size + 1, 2, none⟩ = some (.int .i64 y)) ∧ (W.frozen? ⟨w.heap.size + 1, 0, none⟩ = false ∧ W.frozen? ⟨w.heap.size + 1, 1, none⟩ = false ∧ W.frozen? ⟨w.heap.size + 1, 2, none⟩ = false) ∧ (W.cell? ⟨w.heap.size, 0, none⟩ = some (.slice none 0 0) ∧ W.cell? ⟨w.heap.size, 1, none⟩ = some (.int .i64 0) ∧ W.cell? ⟨w.heap.size, 2, none⟩ = some (.int .i64 0)) ∧ (W.frozen? ⟨w.heap.size, 0, none⟩ = false ∧ W.frozen? ⟨w.heap.size, 1, none⟩ = false ∧ W.frozen? ⟨w.heap.size, 2, none⟩ = false) :=
  ⟨⟨h.b3.cell (i := 0) (by omega), h.b3.cell (i := 1) (by omega), h.b3.cell (i := 2) (by omega)⟩, ⟨h.b3.frozen 0, h.b3.frozen 1, h.b3.frozen 2⟩, ⟨h.b2.cell (i := 0) (by omega), h.b2.cell (i := 1) (by omega), h.b2.cell (i := 2) (by omega)⟩, ⟨h.b2.frozen 0, h.b2.frozen 1, h.b2.frozen 2⟩⟩
theorem wr_small {m : Nat} (h : m ≤ 40) : IntKind.i64.wrap ((m : Int) + 1 - 1) = (m : Int) ∧ wrap64 (m : Int) = (m : Int) ∧ IntKind.i64.wrap (m : Int) = (m : Int) ∧ (m : Int) + 1 - 1 = (m : Int) ∧ (m : Int) < (m : Int) + 1 := by
  refine ⟨by rw [IntKind.wrap_i64]; omega, by unfold wrap64; omega, by rw [IntKind.wrap_i64]; omega, by omega, by omega⟩
theorem wr_back {m n : Nat} (h : m + 1 = n) (hn : n ≤ 41) : Value.int .i64 (IntKind.i64.wrap (((m + 1 : Nat) : Int) - 1)) = .int .i64 (m : Nat) := by
  rw [IntKind.wrap_i64]; congr 1; omega
theorem wr_one (y Y1 : Int) (h : wrap64 (y + 1) = Y1) : IntKind.i64.wrap (y + 1) = Y1 := by
  rw [← h, IntKind.wrap_i64]; unfold wrap64; try omega
theorem int4 (W : World) (a b c d : Int) : ∀ i, i < 4 → ∃ z : Int, (W.alloc (.cells #[.int .i64 a, .int .i64 b, .int .i64 c, .int .i64 d] 3)).cell? ⟨W.heap.size, i, none⟩ = some (.int .i64 z) := fun i hi => by
  rcases (show i = 0 ∨ i = 1 ∨ i = 2 ∨ i = 3 by omega) with rfl | rfl | rfl | rfl
  · exact ⟨a, by rw [World.cell?_alloc_mark]; rfl⟩
  · exact ⟨b, by rw [World.cell?_alloc_mark]; rfl⟩
  · exact ⟨c, by rw [World.cell?_alloc_mark]; rfl⟩
  · exact ⟨d, by rw [World.cell?_alloc_mark]; rfl⟩
theorem PnD.start {R : Nat} {rv : Value} {bs : List UInt8} {w : World} (h : DR R w rv bs 0) : PnD R rv bs w ((w.alloc (.cells #[.slice none 0 0, .int .i64 0, .int .i64 0] 25)).alloc (.cells #[.slice none 0 0, .int .i64 0, .int .i64 1] 25)) 0 (.slice none 0 0) [] 0 1 := by
  have hb : Below w.heap.size w ((w.alloc (.cells #[.slice none 0 0, .int .i64 0, .int .i64 0] 25)).alloc (.cells #[.slice none 0 0, .int .i64 0, .int .i64 1] 25)) := ((Below.refl _ _).alloc (Nat.le_refl _) _).alloc (by simp) _
  refine ⟨h.cells.lt, But.of_below hb, h.on hb, (row3_alloc w _ _ _ _).alloc _, ?_, ⟨rfl, Or.inl ⟨rfl, rfl⟩⟩⟩
  have := row3_alloc (w.alloc (.cells #[.slice none 0 0, .int .i64 0, .int .i64 0] 25)) (.slice none 0 0) (.int .i64 0) (.int .i64 1) 25
  rw [World.size_alloc] at this; exact this
set_option maxRecDepth 100000 in
set_option maxHeartbeats 3200000 in
theorem l45Plan_any (R : Nat) (w : World) (rv : Value) (bs : List UInt8) (h : DR R w rv bs 0) :
    Calls Tryd.prog 15 #[.pointer (some ⟨R, 0, none⟩)] w fun e w' => PlDr R w w' e := by
  obtain ⟨i0, hi0, hi1, hi2, hi3⟩ := infoPartRD
  have HI0 := hide hi0; have HI1 := hide hi1; have HI2 := hide hi2; have HI3 := hide hi3
  have HP0 := hide (PnD.start h)
  have HPK : Hid (∀ (W : World) (k n : Nat) (v : Value) (ps : List Pt) (x y : Int), PnD R rv bs w W k v ps x y → 1 ≤ n → n ≤ 1000 → k ≤ 10000 → Calls Tryd.prog 27 #[.pointer (some ⟨R, 0, none⟩), .int .i64 (n : Int)] W fun e w' => ∃ r : Nat, e = .returned (.int .i64 (r : Int)) ∧ r < n ∧ Hid (PnD R rv bs w w' (k + 1) v ps x y) ∧ Hid (But R W w')) := fun W k n v ps x y hp h1 h2 h3 =>
    (pick_any R W rv bs k n hp.rd ⟨h1, by omega⟩ (by omega)).mono fun e w' ⟨r, he, hr, hD, hB⟩ => ⟨r, he, hr, hp.pick hD.out hB.out, hB⟩
  clear hi0 hi1 hi2 hi3 h
  go_enter Tryd.func15, Tryd.ntmps15
  go_wp2_with fail
  refine (unhide HPK _ 0 5 _ _ _ _ (unhide HP0) (by omega) (by omega) (by omega)).mono ?_
  rintro e w1 ⟨r1, rfl, hr1, H1, -⟩
  clear HP0
  go_wp2_with fail
  refine (unhide HPK _ 1 20 _ _ _ _ H1.out (by omega) (by omega) (by omega)).mono ?_
  rintro e w2 ⟨r2, rfl, hr2, H2, -⟩
  clear H1
  go_upto_if 13 with fail
  go_cut [4] from 8 (fun s wx => ∃ (n k : Nat), s = .int .i64 n ∧ n ≤ 41 ∧ k ≤ 3 ∧ Hid (PnD R rv bs w wx k (.slice none 0 0) [] 0 1))
  case first =>
    by_cases hz : r2 = 0
    · have hb : ((r2 : Int) == 0) = true := by rw [hz]; rfl
      clear hz
      go_wp2_with fail
      refine (unhide HPK _ 2 2 _ _ _ _ H2.out (by omega) (by omega) (by omega)).mono ?_
      rintro e w3 ⟨r3, rfl, hr3, H3, -⟩
      clear H2
      go_wp2_with fail
      go_meet
      case rel => exact ⟨40 + r3, 3, by go_num, by omega, by omega, H3⟩
    · have hb : ((r2 : Int) == 0) = false := by rw [beq_eq_false_iff_ne]; omega
      clear hz
      go_wp2_with fail
      go_meet
      case rel => exact ⟨r1, 2, rfl, by omega, by omega, H2⟩
  case rest =>
  obtain ⟨n, k3, rfl, hn, hk3, H3⟩ := hcut
  clear H2
  go_wp2_with fail
  refine (unhide HPK _ k3 3 _ _ _ _ H3.out (by omega) (by omega) (by omega)).mono ?_
  rintro e w4 ⟨r4, rfl, hr4, H4, -⟩
  clear H3
  go_wp2_with fail
  go_loopw [5, 6] (fun vn vi wr => ∃ (i k : Nat) (num y : Int) (v : Value) (ps : List Pt), i ≤ n ∧ k ≤ 4 + 5 * i ∧ vn = .int .i64 num ∧ vi = .int .i64 i ∧ Hid (i = ps.length) ∧ Hid (PnD R rv bs w wr k v ps 0 y)) (fun _ vi _ => n - (intOf vi).toNat)
  case atStart => exact ⟨0, k3 + 1, _, 1, _, [], by omega, by omega, rfl, rfl, rfl, H4⟩
  case round =>
    clear H4
    obtain ⟨i, k, num, y, v, ps, hin, hk, rfl, rfl, HL, HN⟩ := hrel
    by_cases hlt : i < n
    · go_upto_region 9 with fail
      refine wp_swap (c' := Code.region 9 lp9Ops true) (by kernel_rfl) ?_
      refine wp_region_noPanic ?_
      refine lp9 R rv bs w k v ps 0 y num (.int .i64 (n : Int)) (.int .i64 (i : Int)) (by omega) wr _ (fun _ _ _ _ _ h => h) (HN.out.on ⟨rfl, rfl, rfl, Nat.le_refl _, fun _ _ => rfl⟩) (by kernel_rfl) (fun u g => by kernel_rfl) ?_
      intro u nx sz g W9 h9 hg hgb hgn
      refine NoPanic.normal ?_
      simp only [List.take_succ_cons, List.take_zero, List.drop_succ_cons, List.drop_zero, List.cons_append, List.nil_append]
      obtain ⟨a, cap, rfl⟩ := h9.form
      have c0 := h9.b3.cell (i := 0) (by omega); have g0 := hg.cell (i := 0) (by omega); have g1 := hg.cell (i := 1) (by omega); have g2 := hg.cell (i := 2) (by omega); have g3 := hg.cell (i := 3) (by omega)
      simp only [row3, rw4] at c0 g0 g1 g2 g3
      have HG := hide hg; have H9 := hide h9
      have hgl := hg.lt
      have htop := h9.top
      have hln : ps.length ≤ 41 := by have := HL.out; omega
      clear h9 hg HN
      go_wp2_with (at_builtin; (refine append_row _ rfl _ _ 23 rfl (w.heap.size + 2) 32 i0 (.agg #[.int .i64 0, .int .i64 0, .int .i64 0, .int .i64 0]) 4 32 Tryd.underlying23 (unhide HI0) (unhide HI1) (unhide HI2) (unhide HI3) rfl (by decide) (.slice a ps.length cap) ps.length (ps.map Pt.cs).flatten rfl (World.ownsRow.alloc (unhide H9).own _) ⟨W9.heap.size, 0, none⟩ 1 1 [.int .i64 num, .int .i64 y, .int .i64 nx, .int .i64 sz] rfl rfl (cell_4R W9 _ _ _ _ _) (fun u hu => by simp at hu; rcases hu with rfl | rfl | rfl | rfl <;> rfl) (by decide) (by unfold maxLen; omega) (by omega) (by rw [World.size_alloc]; omega) ?_; intro v' w6 hown6 hgrow6 hat6; obtain ⟨g6, cap6, rfl, -, -⟩ := hown6.form (by omega); have hadd := (unhide H9).add ⟨num, y, nx, sz⟩ hown6 hgrow6; have d0 := hadd.1.cell (i := 0) (by omega); have f0 := hadd.1.frozen; have d2 := hadd.2.b3.cell (i := 2) (by omega); have f2 := hadd.2.b3.frozen 2; have hgk : w6.heap[g]? = W9.heap[g]? := (by rw [hgrow6.block g (by rw [World.size_alloc]; omega) (fun e => hgn e.symm), Below.heap_alloc _ _ _ hgl]); have hg6 := (unhide HG).of_block hgk; have e2 := hg6.cell (i := 2) (by omega); simp only [row3, rw4] at d0 d2 e2; have hne : g ≠ w.heap.size + 1 := (by omega); have hne2 : w.heap.size + 1 ≠ g := (by omega); have HADD := hide (hadd.2.set2 nx); clear hadd hown6 hgrow6 hat6 hgk hg6 c0 g0 g1 g2 g3))
      go_wp2_with fail
      refine (unhide HPK _ (k + 4) 3 _ _ _ _ (unhide HADD) (by omega) (by omega) (by omega)).mono ?_
      rintro e w7 ⟨r7, rfl, hr7, H7, -⟩
      clear HADD H9 HG d0 d2 f0 f2 e2
      go_wp2_with fail
      go_roundw
      case rel => exact ⟨i + 1, k + 4 + 1, _, nx, _, ps ++ [⟨num, y, nx, sz⟩], by omega, by omega, rfl, by go_num, hide (by have := HL.out; simp; omega), H7⟩
      case measure => simp [intOf]; omega
    · have hl41 : ps.length ≤ 41 := by have := HL.out; omega
      obtain ⟨a, cap, rfl⟩ := HN.out.form
      have c1 := HN.out.b3.cell (i := 1) (by omega); have f1 := HN.out.b3.frozen 1
      simp only [row3] at c1
      have HS := hide (HN.out.set1 num)
      clear HN
      go_wp2_with fail
      refine (unhide HPK _ k 12 _ _ _ _ (unhide HS) (by omega) (by omega) (by omega)).mono ?_
      rintro e wA ⟨rA, rfl, hrA, HA, -⟩
      clear HS c1 f1
      have htA := HA.out.top
      have hlA := HA.out.lt
      rcases (show rA = 0 ∨ rA = 1 ∨ rA = 2 ∨ rA = 3 ∨ rA = 4 ∨ 5 ≤ rA by omega) with rfl | rfl | rfl | rfl | rfl | h5
      · go_wp2_with fail
        refine (unhide HPK _ (k + 1) 4 _ _ _ _ (HA.out.al _) (by omega) (by omega) (by omega)).mono ?_
        rintro e wB ⟨rB, rfl, hrB, HB, HBB⟩
        obtain ⟨z, hz⟩ := int4 wA 0 1 999999 1000000 rB hrB
        have hz2 : wB.cell? ⟨wA.heap.size, rB, none⟩ = some (.int .i64 z) := by
          rw [World.cell?_of_block (HBB.out.at (by rw [World.size_alloc]; exact Nat.lt_succ_self _) (show wA.heap.size ≠ R by omega))]; exact hz
        have hrB4 : (rB : Int) < 4 := by omega
        have c1 := HB.out.b3.cell (i := 1) (by omega); have f1 := HB.out.b3.frozen 1
        simp only [row3] at c1
        have HC := hide (HB.out.set1 z)
        obtain ⟨⟨d0, d1, d2⟩, -, ⟨m0, m1, m2⟩, ⟨q0, q1, q2⟩⟩ := (unhide HC).cs
        clear HB HBB hz HA
        go_wp2_with fail
        try simp only [Exit.inBlock, Exit.then]
        refine bodyPost_ret (v := .agg #[.slice a ps.length cap, .int .i64 z, .int .i64 y]) (by simp [results, Tryd.results15, go_sem, m0, m1, m2]) rfl ?_
        with_reducible exact (unhide HC).fin hl41 _ _ _
      · obtain ⟨Y1, hw2⟩ : ∃ Y1, wrap64 (y + 1) = Y1 := ⟨_, rfl⟩
        have hw1 : IntKind.i64.wrap (y + 1) = Y1 := wr_one y Y1 hw2
        have HC := hide (HA.out.set2 Y1)
        obtain ⟨⟨c0, c1, c2⟩, ⟨f0, f1, f2⟩, ⟨n0, n1, n2⟩, ⟨s0, s1, s2⟩⟩ := HA.out.cs
        obtain ⟨⟨d0, d1, d2⟩, -, ⟨m0, m1, m2⟩, ⟨q0, q1, q2⟩⟩ := (unhide HC).cs
        clear HA
        go_wp2_with fail
        try simp only [Exit.inBlock, Exit.then]
        refine bodyPost_ret (v := .agg #[.slice a ps.length cap, .int .i64 num, .int .i64 Y1]) (by simp [results, Tryd.results15, go_sem, m0, m1, m2]) rfl ?_
        with_reducible exact (unhide HC).fin hl41 _ _ _
      · by_cases hl0 : 0 < ps.length
        · obtain ⟨gp, cap', hv, -, -⟩ := HA.out.own.form (by omega)
          simp only [Value.slice.injEq, true_and] at hv
          obtain ⟨rfl, rfl⟩ := hv
          obtain ⟨m, hm⟩ : ∃ m, m + 1 = ps.length := ⟨ps.length - 1, by omega⟩
          have HM := hide hm
          have hwr : Value.int .i64 (IntKind.i64.wrap (((m + 1 : Nat) : Int) - 1)) = .int .i64 (m : Nat) := wr_back hm hl41
          have HWR := hide hwr
          have HA2 : Hid (PnD R rv bs w wA (k + 1) (.slice (some ⟨gp, 0, none⟩) (m + 1) cap) ps num y) := by rw [hm]; exact HA
          rw [← hm] at hl0
          have hl1 : decide ((0 : Int) < (m : Int) + 1) = true := decide_eq_true (by omega)
          have hl2 : (0 : Int) < (m : Int) + 1 := by omega
          have c0 := HA2.out.b3.cell (i := 0) (by omega)
          simp only [row3] at c0
          clear HA hm hwr
          go_upto_region 21 with fail
          refine wp_swap (c' := Code.region 21 lp21Ops true) (by kernel_rfl) ?_
          refine wp_region_noPanic ?_
          refine lp21 R rv bs w (k + 1) gp m cap ps num y (unhide HM) (by omega) wA _ (fun _ _ _ _ _ h => h) (HA2.out.on ⟨rfl, rfl, rfl, Nat.le_refl _, fun _ _ => rfl⟩) (by kernel_rfl) ?_
          intro u ps' W9 hlp h9
          refine NoPanic.normal ?_
          simp only [frL_eq, frG, List.lookup, Nat.reduceBEq, Nat.reduceAdd, Option.getD_some, Option.getD_none]
          have hl41' : ps'.length ≤ 41 := by omega
          have H9 := hide h9
          clear c0 HA2
          clear h9
          obtain ⟨⟨c0, c1, c2⟩, -, ⟨m0, m1, m2⟩, ⟨q0, q1, q2⟩⟩ := (unhide H9).cs
          go_wp2_with fail
          try simp only [Exit.inBlock, Exit.then]
          refine bodyPost_ret (v := .agg #[.slice (some ⟨gp, 0, none⟩) (m + 1) cap, .int .i64 num, .int .i64 y]) (by simp [results, Tryd.results15, go_sem, m0, m1, m2]) rfl ?_
          with_reducible exact (unhide H9).fin hl41' _ _ _
        · have hl1 : decide ((0 : Int) < (ps.length : Int)) = false := decide_eq_false (by omega)
          have hl2 : ¬ ((0 : Int) < (ps.length : Int)) := by omega
          obtain ⟨⟨c0, c1, c2⟩, -, ⟨m0, m1, m2⟩, ⟨q0, q1, q2⟩⟩ := (unhide HA).cs
          go_wp2_with fail
          try simp only [Exit.inBlock, Exit.then]
          refine bodyPost_ret (v := .agg #[.slice a ps.length cap, .int .i64 num, .int .i64 y]) (by simp [results, Tryd.results15, go_sem, m0, m1, m2]) rfl ?_
          with_reducible exact (unhide HA).fin hl41 _ _ _
      · by_cases hl0 : 0 < ps.length
        · obtain ⟨gp, cap', hv, -, -⟩ := HA.out.own.form (by omega)
          simp only [Value.slice.injEq, true_and] at hv
          obtain ⟨rfl, rfl⟩ := hv
          obtain ⟨m, hm⟩ : ∃ m, m + 1 = ps.length := ⟨ps.length - 1, by omega⟩
          have HM := hide hm
          have hwr : Value.int .i64 (IntKind.i64.wrap (((m + 1 : Nat) : Int) - 1)) = .int .i64 (m : Nat) := wr_back hm hl41
          have HWR := hide hwr
          have HA2 : Hid (PnD R rv bs w wA (k + 1) (.slice (some ⟨gp, 0, none⟩) (m + 1) cap) ps num y) := by rw [hm]; exact HA
          rw [← hm] at hl0
          have hl1 : decide ((0 : Int) < (m : Int) + 1) = true := decide_eq_true (by omega)
          have hl2 : (0 : Int) < (m : Int) + 1 := by omega
          have c0 := HA2.out.b3.cell (i := 0) (by omega)
          simp only [row3] at c0
          clear HA hm hwr
          go_upto_region 24 with fail
          refine wp_swap (c' := Code.region 24 lp24Ops true) (by kernel_rfl) ?_
          refine wp_region_noPanic ?_
          refine lp24 R rv bs w (k + 1) gp m cap ps num y (unhide HM) (by omega) (unhide HWR) wA _ (fun _ _ _ _ _ h => h) (HA2.out.on ⟨rfl, rfl, rfl, Nat.le_refl _, fun _ _ => rfl⟩) (by kernel_rfl) ?_
          intro u ps' W9 hlp h9
          refine NoPanic.normal ?_
          simp only [frL_eq, frG, List.lookup, Nat.reduceBEq, Nat.reduceAdd, Option.getD_some, Option.getD_none]
          have hl41' : ps'.length ≤ 41 := by omega
          have H9 := hide h9
          clear c0 HA2
          obtain ⟨z, hz⟩ := part_int (j := m * 4 + 2) h9.own (show m + 1 = ps'.length by have := unhide HM; omega) (by omega)
          have hc0 := h9.b3.cell (i := 0) (by omega); have hc2 := h9.b3.cell (i := 2) (by omega); have hf2 := h9.b3.frozen 2
          simp only [row3] at hc0 hc2
          have hm40 : m ≤ 40 := by have := unhide HM; omega
          obtain ⟨hw1, hw3, hw4, hw2, hml⟩ := wr_small hm40
          have n0 := h9.b2.cell (i := 0) (by omega); have n1 := h9.b2.cell (i := 1) (by omega); have n2 := h9.b2.cell (i := 2) (by omega); have s0 := h9.b2.frozen 0; have s1 := h9.b2.frozen 1; have s2 := h9.b2.frozen 2; have hc1 := h9.b3.cell (i := 1) (by omega)
          simp only [row3] at n0 n1 n2 hc1
          have HC := hide (h9.set2 z)
          obtain ⟨⟨d0, d1, d2⟩, -, ⟨m0, m1, m2⟩, ⟨q0, q1, q2⟩⟩ := (unhide HC).cs
          clear h9 H9
          go_wp2_with fail
          try simp only [Exit.inBlock, Exit.then]
          refine bodyPost_ret (v := .agg #[.slice (some ⟨gp, 0, none⟩) (m + 1) cap, .int .i64 num, .int .i64 z]) (by simp [results, Tryd.results15, go_sem, m0, m1, m2]) rfl ?_
          with_reducible exact (unhide HC).fin hl41' _ _ _
        · have hl1 : decide ((0 : Int) < (ps.length : Int)) = false := decide_eq_false (by omega)
          have hl2 : ¬ ((0 : Int) < (ps.length : Int)) := by omega
          obtain ⟨⟨c0, c1, c2⟩, -, ⟨m0, m1, m2⟩, ⟨q0, q1, q2⟩⟩ := (unhide HA).cs
          go_wp2_with fail
          try simp only [Exit.inBlock, Exit.then]
          refine bodyPost_ret (v := .agg #[.slice a ps.length cap, .int .i64 num, .int .i64 y]) (by simp [results, Tryd.results15, go_sem, m0, m1, m2]) rfl ?_
          with_reducible exact (unhide HA).fin hl41 _ _ _
      · by_cases hl0 : 1 < ps.length
        · obtain ⟨gp, cap', hv, -, -⟩ := HA.out.own.form (by omega)
          simp only [Value.slice.injEq, true_and] at hv
          obtain ⟨rfl, rfl⟩ := hv
          obtain ⟨m, hm⟩ : ∃ m, m + 1 = ps.length := ⟨ps.length - 1, by omega⟩
          have HM := hide hm
          have hwr : Value.int .i64 (IntKind.i64.wrap (((m + 1 : Nat) : Int) - 1)) = .int .i64 (m : Nat) := wr_back hm hl41
          have HWR := hide hwr
          have HA2 : Hid (PnD R rv bs w wA (k + 1) (.slice (some ⟨gp, 0, none⟩) (m + 1) cap) ps num y) := by rw [hm]; exact HA
          rw [← hm] at hl0
          have hl1 : decide ((1 : Int) < (m : Int) + 1) = true := decide_eq_true (by omega)
          have hl2 : (1 : Int) < (m : Int) + 1 := by omega
          have c0 := HA2.out.b3.cell (i := 0) (by omega)
          simp only [row3] at c0
          clear HA hm hwr
          go_upto_region 28 with fail
          refine wp_swap (c' := Code.region 28 lp28Ops true) (by kernel_rfl) ?_
          refine wp_region_noPanic ?_
          refine lp28 R rv bs w (k + 1) gp m cap ps num y (unhide HM) (by omega) wA _ (fun _ _ _ _ _ h => h) (HA2.out.on ⟨rfl, rfl, rfl, Nat.le_refl _, fun _ _ => rfl⟩) (by kernel_rfl) ?_
          intro u ps' W9 hlp h9
          refine NoPanic.normal ?_
          simp only [frL_eq, frG, List.lookup, Nat.reduceBEq, Nat.reduceAdd, Option.getD_some, Option.getD_none]
          have hl41' : ps'.length ≤ 41 := by omega
          have H9 := hide h9
          clear c0 HA2
          clear h9
          obtain ⟨⟨c0, c1, c2⟩, -, ⟨m0, m1, m2⟩, ⟨q0, q1, q2⟩⟩ := (unhide H9).cs
          go_wp2_with fail
          try simp only [Exit.inBlock, Exit.then]
          refine bodyPost_ret (v := .agg #[.slice (some ⟨gp, 0, none⟩) (m + 1) cap, .int .i64 num, .int .i64 y]) (by simp [results, Tryd.results15, go_sem, m0, m1, m2]) rfl ?_
          with_reducible exact (unhide H9).fin hl41' _ _ _
        · have hl1 : decide ((1 : Int) < (ps.length : Int)) = false := decide_eq_false (by omega)
          have hl2 : ¬ ((1 : Int) < (ps.length : Int)) := by omega
          obtain ⟨⟨c0, c1, c2⟩, -, ⟨m0, m1, m2⟩, ⟨q0, q1, q2⟩⟩ := (unhide HA).cs
          go_wp2_with fail
          try simp only [Exit.inBlock, Exit.then]
          refine bodyPost_ret (v := .agg #[.slice a ps.length cap, .int .i64 num, .int .i64 y]) (by simp [results, Tryd.results15, go_sem, m0, m1, m2]) rfl ?_
          with_reducible exact (unhide HA).fin hl41 _ _ _
      · have t0 : ((rA : Int) == 0) = false := by rw [beq_eq_false_iff_ne]; omega
        have t1 : ((rA : Int) == 1) = false := by rw [beq_eq_false_iff_ne]; omega
        have t2 : ((rA : Int) == 2) = false := by rw [beq_eq_false_iff_ne]; omega
        have t3 : ((rA : Int) == 3) = false := by rw [beq_eq_false_iff_ne]; omega
        have t4 : ((rA : Int) == 4) = false := by rw [beq_eq_false_iff_ne]; omega
        obtain ⟨⟨c0, c1, c2⟩, -, ⟨m0, m1, m2⟩, ⟨q0, q1, q2⟩⟩ := (unhide HA).cs
        go_wp2_with fail
        try simp only [Exit.inBlock, Exit.then]
        refine bodyPost_ret (v := .agg #[.slice a ps.length cap, .int .i64 num, .int .i64 y]) (by simp [results, Tryd.results15, go_sem, m0, m1, m2]) rfl ?_
        with_reducible exact (unhide HA).fin hl41 _ _ _
end Go.Proofs.YtcnkkegpckibbaaDoor

/- A row of bytes that lies in the world. Definitions alone. -/

namespace Go.Proofs.YtcnkkegpckibbaaDoor
open Go Go.RowKit

/-- A slice value whose bytes lie in the world. -/
def BytesAt (w : World) (v : Value) (l : List UInt8) : Prop :=
  ∃ a cap, v = .slice a l.length cap ∧ l.length ≤ 9223372036854775807 ∧ ∀ i, (h : i < l.length) → ∃ b o, a = some ⟨b, o, none⟩ ∧ b < w.heap.size ∧ w.cell? ⟨b, o + i, none⟩ = some (.int .u8 l[i].toNat)

end Go.Proofs.YtcnkkegpckibbaaDoor

/- The walk of the specification's l6Open: the reader of draws is opened. No conditions. -/

namespace Go.Proofs.YtcnkkegpckibbaaDoor
open Go Go.RowKit

/-- The reader of draws is opened. -/
theorem l6Open_any (w : World) (a : Option Addr) (cap : Nat) (l : List UInt8) (hv : BytesAt w (.slice a l.length cap) l) (hcap : l.length ≤ cap) :
    Calls Tryd.prog 16 #[.slice a l.length cap] w fun e w' => ∃ (v' : Value) (b' : List UInt8), e = .returned (.pointer (some ⟨w.heap.size, 0, none⟩)) ∧ DR w.heap.size w' v' b' 0 ∧ Below w.heap.size w w' := by
  obtain ⟨a', cap', e, hlen, hc⟩ := hv
  simp only [Value.slice.injEq, true_and] at e
  obtain ⟨rfl, rfl⟩ := e
  by_cases h2 : l.length ≤ 2000
  · have hq : decide ((2000 : Int) < (l.length : Int)) = false := by simp; omega
    have HC := hide hc
    clear hc
    go_enter Tryd.func16, Tryd.ntmps16
    go_wp2_with fail
    go_ret
    refine ⟨.slice a l.length cap, l, rfl, ⟨?_, ⟨a, cap, rfl, fun i hi => ?_⟩, h2⟩, (Below.refl _ _).alloc (Nat.le_refl _) _⟩
    · exact World.rowIs_alloc w #[.slice a l.length cap, .int .i64 0] 52 _ (fun i hi => by
        have hi' : i < 2 := by simpa using hi
        rcases (show i = 0 ∨ i = 1 by omega) with rfl | rfl <;> rfl)
    · obtain ⟨g, o, e, hlt, hcell⟩ := unhide HC i hi
      exact ⟨g, o, e, hlt, by rw [World.cell?_of_block (w := w) (Below.heap_alloc _ _ _ hlt)]; exact hcell⟩
  · have hq : decide ((2000 : Int) < (l.length : Int)) = true := by simp; omega
    obtain ⟨g, o, rfl, -, -⟩ := hc 0 (by omega)
    have HC := hide hc
    clear hc
    have hc2 : 2000 ≤ cap := by omega
    have hc3 : (2000 : Int) ≤ (cap : Int) := by omega
    go_enter Tryd.func16, Tryd.ntmps16
    go_wp2_with fail
    go_ret
    have hl2 : (l.take 2000).length = 2000 := by rw [List.length_take]; omega
    refine ⟨.slice (some ⟨g, o, none⟩) 2000 cap, l.take 2000, rfl, ⟨?_, ⟨_, cap, by rw [hl2], fun i hi => ?_⟩, by omega⟩, (Below.refl _ _).alloc (Nat.le_refl _) _⟩
    · exact World.rowIs_alloc w #[.slice (some ⟨g, o, none⟩) 2000 cap, .int .i64 0] 52 _ (fun i hi => by
        have hi' : i < 2 := by simpa using hi
        rcases (show i = 0 ∨ i = 1 by omega) with rfl | rfl <;> rfl)
    · obtain ⟨g', o', e, hlt, hcell⟩ := unhide HC i (by omega)
      exact ⟨g', o', e, hlt, by rw [World.cell?_of_block (w := w) (Below.heap_alloc _ _ _ hlt), List.getElem_take]; exact hcell⟩
end Go.Proofs.YtcnkkegpckibbaaDoor

/- The walk of the specification's DrawLogPlanWrite: some plan is drawn, in memory of its own. No conditions. -/

namespace Go.Proofs.YtcnkkegpckibbaaDoor
open Go Go.RowKit

/-- A plan has been drawn from bytes. -/
def PlDn (w w' : World) (e : Ending) : Prop :=
  ∃ (l : Pl) (a : Option Addr) (cap : Nat) (F : List Nat), e = .returned (.agg #[.slice a l.parts.length cap, .int .i64 l.op, .int .i64 l.fi]) ∧ l.parts.length ≤ 41 ∧ FlatOwn w' (.slice a l.parts.length cap) 4 (l.parts.map Pt.cs) F ∧ (∀ b, b ∈ F → w.heap.size ≤ b ∧ b < w'.heap.size) ∧ Below w.heap.size w w'
set_option maxHeartbeats 800000 in
theorem drawLogPlanWrite_any (w : World) (a : Option Addr) (cap : Nat) (l : List UInt8) (hv : BytesAt w (.slice a l.length cap) l) (hcap : l.length ≤ cap) :
    Calls Tryd.prog 5 #[.slice a l.length cap] w fun e w' => PlDn w w' e := by
  have hbx : ∀ o, Below w.heap.size w (w.alloc o) := fun o => (Below.refl _ _).alloc (Nat.le_refl _) o
  have hv2 : ∀ o, BytesAt (w.alloc o) (.slice a l.length cap) l := fun o => by
    obtain ⟨a', cap', e, hlen, hc⟩ := hv
    refine ⟨a', cap', e, hlen, fun i hi => ?_⟩
    obtain ⟨g, o', e2, hlt, hcell⟩ := hc i hi
    exact ⟨g, o', e2, by rw [World.size_alloc]; omega, by rw [World.cell?_of_block (w := w) (Below.heap_alloc _ _ _ hlt)]; exact hcell⟩
  have HO := hide (fun o => l6Open_any (w.alloc o) a cap l (hv2 o) hcap)
  have HROW := hide (row3_alloc w (.slice none 0 0) (.int .i64 0) (.int .i64 0) 25)
  have HBX := hide hbx
  clear hv hv2 hbx
  go_enter Tryd.func5, Tryd.ntmps5
  go_wp2_with fail
  refine (unhide HO _).mono ?_
  rintro e w1 ⟨v1, b1, rfl, hd, hb⟩
  have hs := hb.size
  rw [World.size_alloc] at hd hs
  have hr1 := (unhide HROW).of_block (hb.block w.heap.size (by simp))
  have hb1 : Below w.heap.size w w1 := (unhide HBX _).trans (hb.mono (by simp))
  have HF := hide (l45Plan_any (w.heap.size + 1) w1 v1 b1 hd)
  have HB1 := hide hb1; have HR1 := hide hr1
  clear hd hb HO HROW HBX hb1 hr1
  go_wp2_with fail
  refine (unhide HF).mono ?_
  rintro e w2 ⟨p, v, F, rfl, hl, ho, hF, hbt⟩
  have hr2 := (unhide HR1).of_block (hbt.at (unhide HR1).lt (by omega))
  have hb2 : Below w.heap.size w w2 := (unhide HB1).trans ⟨hbt.os, hbt.tape, hbt.output, hbt.size, fun k hk => hbt.at (by omega) (by omega)⟩
  have m0 := hr2.cell (i := 0) (by omega); have m1 := hr2.cell (i := 1) (by omega); have m2 := hr2.cell (i := 2) (by omega)
  have f2 := hr2.frozen
  simp only [row3] at m0 m1 m2
  obtain ⟨a2, cap2, rfl, hlen2, -⟩ := FlatOwn.at ho
  rw [List.length_map] at hlen2 ho ⊢
  have HH := hide (show PlDn w (((w2.setCell ⟨w.heap.size, 0, none⟩ (.slice a2 p.parts.length cap2)).setCell ⟨w.heap.size, 1, none⟩ (.int .i64 p.op)).setCell ⟨w.heap.size, 2, none⟩ (.int .i64 p.fi)) (.returned (.agg #[.slice a2 p.parts.length cap2, .int .i64 p.op, .int .i64 p.fi])) from by
    refine ⟨p, a2, cap2, F, rfl, hl, FlatOwn.carry ho (fun b hb => ?_), fun b hb => ⟨by have := (hF b hb).1; omega, by have := (hF b hb).2; simp only [World.size_setCell]; omega⟩, ((hb2.setCell (by simp) _).setCell (by simp) _).setCell (by simp) _⟩
    have := (hF b hb).1
    rw [Below.heap_setCell _ _ _ _ (by simp; omega), Below.heap_setCell _ _ _ _ (by simp; omega), Below.heap_setCell _ _ _ _ (by simp; omega)])
  clear hl ho hF hbt HF HB1 HR1 hr2 hb2
  go_wp2_with fail
  refine bodyPost_ret (v := .agg #[.slice a2 p.parts.length cap2, .int .i64 p.op, .int .i64 p.fi]) (by simp [results, Tryd.results5, go_sem, m0, m1, m2]) rfl ?_
  with_reducible exact unhide HH
end Go.Proofs.YtcnkkegpckibbaaDoor

/- Two parts that are the same, held against one another by '!=': false. No conditions. -/

namespace Go.Proofs.YtcnkkegpckibbaaDoor
open Go Go.RowKit

theorem fieldsPart : Tryd.prog.underlying 32 = some (.struct (Tryd.prog.fieldsOf 32)) := by kernel_rfl
theorem heldPart : Tryd.prog.stoodInHeld 32 = false := by kernel_rfl
theorem guardPart : Tryd.prog.eqGuardType Tryd.prog.depth 32 = false := by kernel_rfl
theorem listPart : (Tryd.prog.fieldsOf 32).toList.map (fun f => (f.name == "_", f.type, f.offset)) = [(false, 3, 0), (false, 3, 1), (false, 3, 2), (false, 3, 3)] := by kernel_rfl
theorem gPart (x y : Operand) (a b c d a2 b2 c2 d2 : Int) (w : World) : (eqGuard .neq 32 x y (.agg #[.int .i64 a, .int .i64 b, .int .i64 c, .int .i64 d]) (.agg #[.int .i64 a2, .int .i64 b2, .int .i64 c2, .int .i64 d2])).run Tryd.prog w = .ok () w := run_eqGuard_agg w .neq _ x y _ _ guardPart
theorem partPart (i : Nat) (a b c d : Int) (hi : i < 4) (w : World) : (part 3 #[.int .i64 a, .int .i64 b, .int .i64 c, .int .i64 d] i).run Tryd.prog w = .ok (.int .i64 (if i = 0 then a else if i = 1 then b else if i = 2 then c else d)) w := by
  rcases (show i = 0 ∨ i = 1 ∨ i = 2 ∨ i = 3 by omega) with rfl | rfl | rfl | rfl <;> kernel_rfl
theorem nPart (a b c d : Int) (w : World) : (binOp .neq 32 (.agg #[.int .i64 a, .int .i64 b, .int .i64 c, .int .i64 d]) (.agg #[.int .i64 a, .int .i64 b, .int .i64 c, .int .i64 d])).run Tryd.prog w = .ok (.bool false) w := by
  rw [run_neq_struct, run_equalIn_agg w 9999 _ _ _ fieldsPart heldPart]
  have hl := listPart
  generalize (Tryd.prog.fieldsOf 32).toList = fs at hl
  have hlen : fs.length = 4 := by have := congrArg List.length hl; simpa using this
  match fs, hlen with
  | [f0, f1, f2, f3], _ =>
    simp only [List.map_cons, List.map_nil, List.cons.injEq, Prod.mk.injEq, beq_eq_false_iff_ne, and_true] at hl
    obtain ⟨⟨n0, t0, o0⟩, ⟨n1, t1, o1⟩, ⟨n2, t2, o2⟩, n3, t3, o3⟩ := hl
    have e : ∀ (z : Int) (W : World), (Op.equalIn 9999 3 (.int .i64 z) (.int .i64 z)).run Tryd.prog W = .ok true W := fun z W => by
      have := run_equalIn_int (P := Tryd.prog) W 9998 3 .i64 .i64 z z Tryd.underlying3
      simpa using this
    simp only [Op.eqFields, n0, n1, n2, n3, t0, t1, t2, t3, o0, o1, o2, o3, ne_eq, not_false_eq_true, if_true, Sem.run_bind, partPart _ _ _ _ _ (by omega : 0 < 4), partPart _ _ _ _ _ (by omega : 1 < 4), partPart _ _ _ _ _ (by omega : 2 < 4), partPart _ _ _ _ _ (by omega : 3 < 4), Result.andThen_ok, e, Bool.not_true, Bool.false_eq_true, if_false, Sem.run_pure]
end Go.Proofs.YtcnkkegpckibbaaDoor
