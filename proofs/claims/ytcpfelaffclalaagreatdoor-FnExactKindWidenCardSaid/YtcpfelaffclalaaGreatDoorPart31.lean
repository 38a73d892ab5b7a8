/- The walk of the program's KindHas: it answers as the specification does. Conditions: the schema's weight is at most 2^20; the table treeFields lies as it was laid. -/
import Derived.Test.YtcpfelaffclalaaGreatDoorPart27
import Derived.Test.YtcpfelaffclalaaGreatDoorPart26
import Derived.Stop.RegionWithIn
import Derived.Test.YtcpfelaffclalaaGreatDoorPart11
import Derived.Test.YtcpfelaffclalaaGreatDoorPart03
import Derived.Test.YtcpfelaffclalaaGreatDoorPart01
import Derived.Deep.CutRange
import Derived.Test.YtcpfelaffclalaaGreatDoorPart30
namespace Go.Proofs.YtcpfelaffclalaaGreatDoor
open Go Go.RowKit Go.Shelf Go.Maps

attribute [local go_sem] Oper.semAt_some

mutual
theorem tsz_pT : ∀ (t : Tr) (d : Int), 0 ≤ pT t d → pT t d = (tsz t : Int)
  | .mk s n tx ns ks, d => by
    intro h
    rw [pT] at h ⊢
    split at h
    · omega
    · rename_i hn
      rw [if_neg hn, lsz_pK ks d 1 h, tsz]; omega
theorem lsz_pK : ∀ (ks : List Tr) (d n : Int), 0 ≤ pK ks d n → pK ks d n = n + (lsz ks : Int)
  | [], d, n => by intro h; rw [pK, lsz]; omega
  | t :: r, d, n => by
    intro h
    rw [pK] at h ⊢
    split at h
    · omega
    · rename_i hn
      rw [if_neg hn, lsz_pK r d _ h, lsz, tsz_pT t (d + 1) (by omega)]; omega
end

set_option maxRecDepth 100000 in
set_option maxHeartbeats 4000000 in
theorem implKindHas_any (k : Kd) (t : Tr) (P Q : Nat → Prop) (c : C3) (d : C5) (w : World) (hP : ∀ b, P b → b < w.heap.size) (hQ : ∀ b, Q b → b < w.heap.size) (hrep : KRep P w k c) (hrep2 : Rep Q w t d) (hTb : Tab w) (hwt : wKd k ≤ 1048576) :
    Calls Tryz.prog 37 #[.agg #[c.c0, c.c1, c.c2], .agg #[d.c0, d.c1, d.c2, d.c3, d.c4]] w fun e w' => e = .returned (.bool (hasA k t)) ∧ Below w.heap.size w w' := by
  obtain ⟨c0, c1, c2⟩ := c
  obtain ⟨d0, d1, d2, d3, d4⟩ := d
  obtain ⟨W0, hW0⟩ : ∃ W0, (((w.alloc (.cells #[c0, c1, c2] 30)).alloc (.cells #[d0, d1, d2, d3, d4] 39)).alloc (.cells #[.bool false] 4)) = W0 := ⟨_, rfl⟩
  have hb0 : Below w.heap.size w W0 := by rw [← hW0]; exact (((Below.refl _ _).alloc (Nat.le_refl _) _).alloc (by simp) _).alloc (by simp; omega) _
  have hs0 : W0.heap.size = w.heap.size + 3 := by rw [← hW0]; simp
  have hrk : W0.rowIs w.heap.size 30 3 (row3 c0 c1 c2) := by rw [← hW0]; exact ((row3_alloc w c0 c1 c2 _).alloc _).alloc _
  have hrt : W0.rowIs (w.heap.size + 1) 39 5 (row5 d0 d1 d2 d3 d4) := by
    rw [← hW0]
    have q := row5_alloc (w.alloc (.cells #[c0, c1, c2] 30)) d0 d1 d2 d3 d4 39
    rw [World.size_alloc] at q
    exact q.alloc _
  have hbr : Boxed W0 (w.heap.size + 1 + 1) 4 (.bool false) := by
    rw [← hW0]
    have := (Boxed.new ((w.alloc (.cells #[c0, c1, c2] 30)).alloc (.cells #[d0, d1, d2, d3, d4] 39)) 4 (.bool false))
    rw [World.size_alloc, World.size_alloc] at this
    exact this
  have hok := implKindOk_any k P ⟨c0, c1, c2⟩ W0 (fun b hb => Nat.lt_of_lt_of_le (hP b hb) hb0.size) (KRep.carry (fun b hb => hb0.block b (hP b hb)) (fun _ h => h) _ _ hrep) hwt
  have hot := fun W (hW : Below w.heap.size w W) => implTreeOk_any t Q ⟨d0, d1, d2, d3, d4⟩ W (fun b hb => Nat.lt_of_lt_of_le (hQ b hb) hW.size) (Rep.carry (fun b hb => hW.block b (hQ b hb)) (fun _ h => h) _ _ hrep2) (hTb.of_block (hW.block _ hTb.lt))
  have hga := fun W (hW : Below w.heap.size w W) (h : ksz k ≤ 1000000) => gatherN_all (ksz k + 1) k (by omega) P ⟨c0, c1, c2⟩ W (fun b hb => Nat.lt_of_lt_of_le (hP b hb) hW.size) (KRep.carry (fun b hb => hW.block b (hP b hb)) (fun _ h => h) _ _ hrep) h hwt
  have hrt2 := fun W (hW : Below w.heap.size w W) => Rep.carry (Q := Q) (w' := W) (fun b hb => hW.block b (hQ b hb)) (fun _ h => h) _ _ hrep2
  obtain ⟨e0, -, ⟨a3, cap3, e1, -, -⟩, a, cap, e2, -, -⟩ := hrep.open
  obtain ⟨g0, g1, g2, -, -, -, ⟨a5, cap5, g3, -, -⟩, a6, cap6, g4, -, -⟩ := hrep2.open
  simp only at e0 e1 e2 g0 g1 g2 g3 g4
  subst e0 e1 e2 g0 g1 g2 g3 g4
  have hA : hasA k t = (decide (0 < qT k 1) && decide (0 < pT t 1) && hT t k) := rfl
  have h1 : 0 < qT k 1 → okD k = true ∧ ksz k ≤ 40 := fun h => ok_of_qT h
  have h2 : 0 < pT t 1 → okH t = true ∧ tsz t ≤ 120 := fun h => ⟨okH_of_pT t 1 (by omega), by have e := tsz_pT t 1 (by omega); have := pT_bd t 1; omega⟩
  have k0 := hrk.cell (i := 0) (by omega); have k1 := hrk.cell (i := 1) (by omega); have k2 := hrk.cell (i := 2) (by omega)
  simp only [row3] at k0 k1 k2
  have HRK := hide hrk; have HRT := hide hrt; have HB0 := hide hb0; have HOK := hide hok; have HOT := hide hot; have HGA := hide hga; have HR2 := hide hrt2; have HBR := hide hbr
  clear hrk hrt hb0 hok hot hga hrt2 hrep hrep2 hbr
  refine (callsIn_wide (n := 8)).1 ?_
  refine callsIn_of_wp_marks Tryz.func37 rfl trivial ?_ rfl
  simp only [Tryz.ntmps37, List.size_toArray, List.length_cons, List.length_nil, Nat.reduceAdd, Nat.reduceSub, Array.replicate_succ, Array.replicate_zero, List.push_toArray, List.append_toArray, List.nil_append, List.cons_append]
  by_cases hq : 0 < qT k 1
  · have hd : decide (0 < qT k 1) = true := decide_eq_true hq
    by_cases hp : 0 < pT t 1
    · have hd2 : decide (0 < pT t 1) = true := decide_eq_true hp
      rw [hd, hd2, Bool.true_and, Bool.true_and] at hA
      have HOK2 := unhide HOK; rw [hd] at HOK2
      have HOT2 := unhide HOT; rw [hd2] at HOT2
      have H1 := hide (h1 hq); have H2 := hide (h2 hp)
      have HO := hide HOK2; have HTT := hide HOT2
      have HA := hide hA
      clear HOK2 HOT2 h1 h2 hd hd2 hq hp HOK HOT hA
      gi_wp2_with (first
        | ((try refine ⟨trivial, ?_⟩); gi_at_call 48
           try rw [hW0]
           refine (callsIn_wide.2 (unhide HO)).mono ?_
           rintro e w1 ⟨rfl, hb1⟩
           have HB1 := hide ((unhide HB0).trans (hb1.mono (unhide HB0).size))
           have q1 := (unhide HRT).of_block (hb1.block _ (by omega))
           have q0 := (unhide HRK).of_block (hb1.block _ (by omega))
           have hs1 := hb1.size
           have Q1 := hide q1
           have Q0 := hide q0
           have HX1 := hide ((hb1.block _ (by omega)).trans (unhide HBR))
           have t0 := q1.cell (i := 0) (by omega)
           have t1 := q1.cell (i := 1) (by omega)
           have t2 := q1.cell (i := 2) (by omega)
           have t3 := q1.cell (i := 3) (by omega)
           have t4 := q1.cell (i := 4) (by omega)
           simp only [row5] at t0 t1 t2 t3 t4
           clear hb1 q1 q0)
        | ((try refine ⟨trivial, ?_⟩); gi_at_call 38
           refine (callsIn_wide.2 (unhide HTT _ (unhide HB1))).mono ?_
           rintro e w2 ⟨rfl, hb2⟩
           have HB2 := hide ((unhide HB1).trans (hb2.mono (unhide HB1).size))
           have q1 := (unhide Q1).of_block (hb2.block _ (by omega))
           have q0 := (unhide Q0).of_block (hb2.block _ (by omega))
           have hs2 := hb2.size
           have Q12 := hide q1
           have Q02 := hide q0
           have HX2 := hide ((hb2.block _ (by omega)).trans (unhide HX1))
           clear hb2 q1 q0))
      have q02 := unhide Q02; have q12 := unhide Q12
      have m0 := q02.cell (i := 0) (by omega); have m1 := q02.cell (i := 1) (by omega); have m2 := q02.cell (i := 2) (by omega)
      have n0 := q12.cell (i := 0) (by omega); have n1 := q12.cell (i := 1) (by omega); have n2 := q12.cell (i := 2) (by omega); have n3 := q12.cell (i := 3) (by omega); have n4 := q12.cell (i := 4) (by omega)
      simp only [row3] at m0 m1 m2
      simp only [row5] at n0 n1 n2 n3 n4
      clear q02 q12 t0 t1 t2 t3 t4 k0 k1 k2
      rename_i K1 hK1 K0 hK0
      have hrest : ∀ (w3 : World) (y : C4), NRep (OrNew P w2.heap.size w3) w3 k y → Below w2.heap.size w2 w3 → K0 { tmps := #[.agg #[.int .i64 k.sort, .slice a3 k.names.length cap3, .slice a k.kids.length cap], .agg #[.int .i64 t.sort, .int .i64 t.num, .string t.text, .slice a5 t.names.length cap5, .slice a6 t.kids.length cap6], .pointer (some ⟨w.heap.size, 0, none⟩), .pointer (some ⟨w.heap.size + 1, 0, none⟩), .pointer (some ⟨w.heap.size + 1 + 1, 0, none⟩), undef, undef, .agg #[.int .i64 k.sort, .slice a3 k.names.length cap3, .slice a k.kids.length cap], .bool true, .bool false, .bool false, .agg #[.int .i64 t.sort, .int .i64 t.num, .string t.text, .slice a5 t.names.length cap5, .slice a6 t.kids.length cap6], .bool true, .bool false, .bool false, .agg #[.int .i64 k.sort, .slice a3 k.names.length cap3, .slice a k.kids.length cap], .agg #[y.c0, y.c1, y.c2, y.c3], .agg #[.int .i64 t.sort, .int .i64 t.num, .string t.text, .slice a5 t.names.length cap5, .slice a6 t.kids.length cap6], .agg #[y.c0, y.c1, y.c2, y.c3, .int .i64 t.sort, .int .i64 t.num, .string t.text, .slice a5 t.names.length cap5, .slice a6 t.kids.length cap6], .func (.func 97) #[] #[.pointer (some ⟨w3.heap.size, 0, none⟩)], undef, undef, undef, undef, undef], defers := [] } (w3.alloc (.cells #[y.c0, y.c1, y.c2, y.c3, .int .i64 t.sort, .int .i64 t.num, .string t.text, .slice a5 t.names.length cap5, .slice a6 t.kids.length cap6] 106)) := by
        intro w3 y hn3 hb3
        refine hK0 _ _ ?_
        clear hK0 m0 m1 m2 n0 n1 n2 n3 n4
        gi_wp2_with fail
        obtain ⟨W5, hW5⟩ : ∃ W5, w3.alloc (.cells #[y.c0, y.c1, y.c2, y.c3, .int .i64 t.sort, .int .i64 t.num, .string t.text, .slice a5 t.names.length cap5, .slice a6 t.kids.length cap6] 106) = W5 := ⟨_, rfl⟩
        have hsz5 : W5.heap.size = w3.heap.size + 1 := by rw [← hW5]; simp
        have hs3 := hb3.size
        have hsw2 := (unhide HB2).size
        have hb35 : Below w3.heap.size w3 W5 := by rw [← hW5]; exact (Below.refl _ _).alloc (Nat.le_refl _) _
        have hbw3 : Below w.heap.size w w3 := (unhide HB2).trans (hb3.mono hsw2)
        have hb5 : Below w.heap.size w W5 := hbw3.trans (hb35.mono hbw3.size)
        have hs5 := hbw3.size
        have hlt3 : ∀ b, OrNew P w2.heap.size w3 b → b < w3.heap.size := fun b hb => hb.elim (fun h => by have := hP b h; omega) (fun h => h.2)
        have hN5 : NRep (fun b => b < w3.heap.size) W5 k y := NRep.carry (fun b hb => hb35.block b (hlt3 b hb)) hlt3 _ _ hn3
        have hR5 : Rep (fun b => b < w3.heap.size) W5 t ⟨.int .i64 t.sort, .int .i64 t.num, .string t.text, .slice a5 t.names.length cap5, .slice a6 t.kids.length cap6⟩ := Rep.carry (fun _ _ => rfl) (fun b hb => by have := hQ b hb; omega) _ _ (unhide HR2 W5 hb5)
        have hr9 := row9_alloc w3 y ⟨.int .i64 t.sort, .int .i64 t.num, .string t.text, .slice a5 t.names.length cap5, .slice a6 t.kids.length cap6⟩ 106
        simp only at hr9
        rw [hW5] at hr9
        have hat4 : C4.at W5 w3.heap.size 0 y := ⟨hr9.cell (i := 0) (by omega), hr9.cell (i := 1) (by omega), hr9.cell (i := 2) (by omega), hr9.cell (i := 3) (by omega)⟩
        have hat5 : C5.at W5 w3.heap.size 4 ⟨.int .i64 t.sort, .int .i64 t.num, .string t.text, .slice a5 t.names.length cap5, .slice a6 t.kids.length cap6⟩ := ⟨hr9.cell (i := 4) (by omega), hr9.cell (i := 5) (by omega), hr9.cell (i := 6) (by omega), hr9.cell (i := 7) (by omega), hr9.cell (i := 8) (by omega)⟩
        have hlt2 : w.heap.size + 1 + 1 < w2.heap.size := (Array.getElem?_eq_some_iff.1 (unhide HX2)).1
        have hbr5 : Boxed W5 (w.heap.size + 1 + 1) 4 (.bool false) := ((hb35.block _ (by omega)).trans (hb3.block _ hlt2)).trans (unhide HX2)
        have hts : tsz t ≤ 999990 := by have := (unhide H2).2; omega
        have hoK := (unhide H1).1
        have hoT := (unhide H2).1
        rw [hW5]
        clear hW5 hr9
        refine range_H (α := CX w3.heap.size W5) (encs := cEnc) (H := fun x => clB (cKey x) = true) (Kp := KeptC w3.heap.size) (S := fun ys => ys.map cKey = cord t k) (Sp := fun pre => pre.map cKey <+: cord t k) (by omega)
          (gf := 97) (lb := #[.pointer (some ⟨w3.heap.size, 0, none⟩)]) rfl (enters_of Tryz.func97 (by kernel_rfl) rfl)
          (fun l J Jx W hW hJ hHy hY h0 => walkC1_in _ l w3.heap.size w3.heap.size W5 (by omega) t k y ⟨.int .i64 t.sort, .int .i64 t.num, .string t.text, .slice a5 t.names.length cap5, .slice a6 t.kids.length cap6⟩ hN5 hR5 hoK hoT hts J Jx hJ hHy hY W (hat4.carry (hW.block _ (by omega))) (hat5.carry (hW.block _ (by omega))) (hW.mono (by omega)) h0)
          Kept.trans (Kept.putObj (by omega)) (fun _ => rfl)
          (fun pre W => (pre.map cKey).all clB = true ∧ Boxed W (w.heap.size + 1 + 1) 4 (.bool false) ∧ Below w3.heap.size W5 W)
          (fun pre W => (pre.map cKey).all clB = false ∧ Boxed W (w.heap.size + 1 + 1) 4 (.bool false) ∧ Below w.heap.size w W)
          ?hI ?hIx ?hHy ?h0
          (fun x a' W => ∃ Bx, W5.heap.size ≤ Bx ∧ C4.at W Bx 0 x.1.2.2.1 ∧ C5.at W Bx 4 x.1.2.2.2 ∧ a' = { tmps := #[.agg #[.int .i64 k.sort, .slice a3 k.names.length cap3, .slice a k.kids.length cap], .agg #[.int .i64 t.sort, .int .i64 t.num, .string t.text, .slice a5 t.names.length cap5, .slice a6 t.kids.length cap6], .pointer (some ⟨w.heap.size, 0, none⟩), .pointer (some ⟨w.heap.size + 1, 0, none⟩), .pointer (some ⟨w.heap.size + 1 + 1, 0, none⟩), undef, .pointer (some ⟨Bx, 0, none⟩), .agg #[.int .i64 k.sort, .slice a3 k.names.length cap3, .slice a k.kids.length cap], .bool true, .bool false, .bool false, .agg #[.int .i64 t.sort, .int .i64 t.num, .string t.text, .slice a5 t.names.length cap5, .slice a6 t.kids.length cap6], .bool true, .bool false, .bool false, .agg #[.int .i64 k.sort, .slice a3 k.names.length cap3, .slice a k.kids.length cap], .agg #[y.c0, y.c1, y.c2, y.c3], .agg #[.int .i64 t.sort, .int .i64 t.num, .string t.text, .slice a5 t.names.length cap5, .slice a6 t.kids.length cap6], .agg #[y.c0, y.c1, y.c2, y.c3, .int .i64 t.sort, .int .i64 t.num, .string t.text, .slice a5 t.names.length cap5, .slice a6 t.kids.length cap6], .func (.func 97) #[] #[.pointer (some ⟨w3.heap.size, 0, none⟩)], .int .i64 x.1.1, .agg #[x.1.2.2.1.c0, x.1.2.2.1.c1, x.1.2.2.1.c2, x.1.2.2.1.c3, x.1.2.2.2.c0, x.1.2.2.2.c1, x.1.2.2.2.c2, x.1.2.2.2.c3, x.1.2.2.2.c4], undef, undef, undef], defers := [] })
          ?hAx ?assign ?body ?done ?stop
        case hI =>
          exact fun s W W' row hs hg hr => ⟨hs.1, boxed_own _ _ (fun _ => .bool false) s W W' row hs.2.1 hg (fun r e => (hr r e).2), ownFrom_below (by omega) (by omega) s W W' row hs.2.2 hg hr⟩
        case hIx =>
          exact fun s W W' row hs hg hr => ⟨hs.1, boxed_own _ _ (fun _ => .bool false) s W W' row hs.2.1 hg (fun r e => (hr r e).2), ownFrom_below (Nat.le_refl _) (by omega) s W W' row hs.2.2 hg hr⟩
        case hHy =>
          rintro pre x W ⟨h, -⟩
          rw [List.map_append, List.all_append, Bool.and_eq_true] at h
          simpa using h.2
        case h0 => exact ⟨by simp, hbr5, Below.refl _ _⟩
        case hAx =>
          rintro x a' s W W' row ⟨Bx, hBx, ⟨f0, f1, f2, f3⟩, ⟨f4, f5, f6, f7, f8⟩, rfl⟩ hg hr
          have hh := fun r (e : row = some r) => (hr r e).2
          exact ⟨Bx, hBx, ⟨cell_kept f0 hg hh, cell_kept f1 hg hh, cell_kept f2 hg hh, cell_kept f3 hg hh⟩, ⟨cell_kept f4 hg hh, cell_kept f5 hg hh, cell_kept f6 hg hh, cell_kept f7 hg hh, cell_kept f8 hg hh⟩, rfl⟩
        case assign =>
          rintro l pre ⟨⟨lv, ⟨K, T⟩, ⟨x0, x1, x2, x3⟩, ⟨u0, u1, u2, u3, u4⟩⟩, hxk, hxt, hx1, hx2⟩ W K2 hi hK2
          obtain ⟨g0, -, ⟨b3, cpa, g1, -, -⟩, ⟨B2, g2, -, -⟩, b4, cpb, g3, -, -⟩ := hxk.open
          obtain ⟨v0, v1, v2, -, -, -, ⟨b5, cpc, v3, -, -⟩, b6, cpd, v4, -, -⟩ := hxt.open
          simp only at g0 g1 g2 g3 v0 v1 v2 v3 v4
          subst g0 g1 g2 g3 v0 v1 v2 v3 v4
          have HK2 := hide hK2; have HI := hide hi
          clear hK2 hi hK1
          simp only [cEnc]
          gi_wp2
          obtain ⟨h1, h3, h5⟩ := unhide HI
          have q := row9_alloc W ⟨.int .i64 K.sort, .slice b3 K.names.length cpa, .map (some B2), .slice b4 K.kids.length cpb⟩ ⟨.int .i64 T.sort, .int .i64 T.num, .string T.text, .slice b5 T.names.length cpc, .slice b6 T.kids.length cpd⟩ 106
          have hsW := h5.size
          exact unhide HK2 _ _ ((KeepsOthers.alloc _ _).from _) (Kept.grown (World.grownBy_alloc _ _ none) (by omega)) ⟨h1, h3.alloc _, h5.alloc (by omega) _⟩ ⟨W.heap.size, by omega, ⟨q.cell (i := 0) (by omega), q.cell (i := 1) (by omega), q.cell (i := 2) (by omega), q.cell (i := 3) (by omega)⟩, ⟨q.cell (i := 4) (by omega), q.cell (i := 5) (by omega), q.cell (i := 6) (by omega), q.cell (i := 7) (by omega), q.cell (i := 8) (by omega)⟩, rfl⟩
        case body =>
          rintro l pre x a' W ⟨hall, hbr', hB⟩ ⟨Bx, hBx, h4, h5, rfl⟩
          have hxx := x.2
          have hkey : cKey x = x.1.2.1 := rfl
          obtain ⟨lv, K, T, x0, x1, x2, x3, u0, u1, u2, u3, u4, hxe⟩ : ∃ lv K T x0 x1 x2 x3 u0 u1 u2 u3 u4, x.1 = (lv, (K, T), ⟨x0, x1, x2, x3⟩, ⟨u0, u1, u2, u3, u4⟩) := by obtain ⟨⟨lv, ⟨K, T⟩, ⟨x0, x1, x2, x3⟩, ⟨u0, u1, u2, u3, u4⟩⟩, _⟩ := x; exact ⟨_, _, _, _, _, _, _, _, _, _, _, _, rfl⟩
          rw [hxe] at hxx
          simp only [hxe] at hkey h4 h5 ⊢
          obtain ⟨hxk, hxt, hx1, hx2⟩ := hxx
          simp only at hx1 hx2 hxk hxt
          clear hxe
          have hshK : shB K = true := by rw [okD_eq, Bool.and_eq_true] at hx1; exact hx1.1
          have halT : aloneB T = true := by rw [okH_eq, Bool.and_eq_true] at hx2; exact hx2.1
          have hhold : holdB K T = clB (K, T) := hold_eq hshK halT
          have hsW := hB.size
          have hcall := holds_any K T (fun b => b < w3.heap.size) (fun b => b < w3.heap.size) ⟨x0, x1, x2, x3⟩ ⟨u0, u1, u2, u3, u4⟩ W (fun b hb => by omega) (fun b hb => by omega) (NRep.carry (fun b hb => hB.block b hb) (fun _ h => h) _ _ hxk) (Rep.carry (fun b hb => hB.block b hb) (fun _ h => h) _ _ hxt)
          rw [hhold] at hcall
          obtain ⟨g0, -, ⟨b3, cpa, g1, -, -⟩, ⟨B2, g2, -, -⟩, b4, cpb, g3, -, -⟩ := hxk.open
          obtain ⟨v0, v1, v2, -, -, -, ⟨b5, cpc, v3, -, -⟩, b6, cpd, v4, -, -⟩ := hxt.open
          simp only at g0 g1 g2 g3 v0 v1 v2 v3 v4
          subst g0 g1 g2 g3 v0 v1 v2 v3 v4
          obtain ⟨f0, f1, f2, f3⟩ := h4
          obtain ⟨f4, f5, f6, f7, f8⟩ := h5
          simp only [Nat.reduceAdd, Nat.zero_add] at f0 f1 f2 f3 f4 f5 f6 f7 f8 hcall
          have hans : ((pre ++ [x]).map cKey).all clB = clB (K, T) := by
            rw [List.map_append, List.all_append, hall]
            simp [hkey]
          have HCALL := hide hcall; have HB := hide hB; have HBR := hide hbr'; have HANS := hide hans
          clear hcall hB hbr' hall hxk hxt hans hkey hhold hK1
          cases hcl : clB (K, T)
          · rw [hcl] at HCALL HANS
            gi_wp2_with ((try refine ⟨trivial, ?_⟩); gi_at_call 65; refine (CallsIn.inRound l (callsIn_wide.2 (unhide HCALL))).mono ?_; clear HCALL; rintro e w6 ⟨rfl, hb6⟩; have HBR6 := hide (show Boxed w6 (w.heap.size + 1 + 1) 4 (.bool false) from (hb6.block _ (by omega)).trans (unhide HBR)); have r0 := (unhide HBR6).cell; have r1 := (unhide HBR6).frozen; have HB6 := hide hb6; clear hb6)
            have hb6 := unhide HB6
            refine ⟨KeepsFrom.trans ⟨hb6.size, fun k o _ hk _ => (hb6.block k (Array.getElem?_eq_some_iff.1 hk).1).trans hk⟩ ((KeepsOthers.setCell _ _ _).from _), unhide HANS, (unhide HBR6).set _, ?_⟩
            exact (hb5.trans (((unhide HB).mono (by omega)).trans (hb6.mono (by omega)))).setCell (by simp; omega) _
          · rw [hcl] at HCALL HANS
            gi_wp2_with ((try refine ⟨trivial, ?_⟩); gi_at_call 65; refine (CallsIn.inRound l (callsIn_wide.2 (unhide HCALL))).mono ?_; clear HCALL; rintro e w6 ⟨rfl, hb6⟩; have HB6 := hide hb6; clear hb6)
            have hb6 := unhide HB6
            exact ⟨⟨hb6.size, fun k o _ hk _ => (hb6.block k (Array.getElem?_eq_some_iff.1 hk).1).trans hk⟩, keptC_of hb6 (by omega), unhide HANS, (hb6.block _ (by omega)).trans (unhide HBR), (unhide HB).trans (hb6.mono (by omega))⟩
        case done =>
          rintro ys W hS ⟨hall, hbr', hB⟩ hK
          have hans : hasA k t = true := by rw [unhide HA, hT_cord, ← hS]; exact hall
          have r0 := hbr'.cell
          have r1 := hbr'.frozen
          gi_wp2_with fail
          have hK' := (KeepsOthers.setCell W ⟨w.heap.size + 1 + 1, 0, none⟩ (.bool true)).same _ _ hK rfl
          refine ⟨by simp, .inl ⟨_, _, rfl, run_takeDeferred hK', ?_⟩⟩
          have hc5 := cell_kept (hbr'.set (.bool true)).cell (grownBy_putObj' _ _ (.deferred none)) (fun r e => by cases e; exact ⟨_, hK', rfl⟩)
          refine ⟨.bool true, ?_, by rw [hans], ((hb5.trans (hB.mono (by omega))).setCell (p := ⟨w.heap.size + 1 + 1, 0, none⟩) (by simp; omega) _).trans (belowK_b (w := w) (Nat.le_refl _) _ _ _ _ (by omega) hK' rfl rfl)⟩
          simp [results, Tryz.results37, go_sem, hc5]
        case stop =>
          rintro pre W hpre ⟨hbad, hbr', hB⟩ hK
          have hans : hasA k t = false := by
            rw [unhide HA, hT_cord]
            obtain ⟨r, hr⟩ := hpre
            rw [← hr, List.all_append, hbad]; rfl
          gi_wp2_with fail
          refine ⟨by simp, .inl ⟨_, _, rfl, run_takeDeferred hK, ?_⟩⟩
          have hc5 := cell_kept hbr'.cell (grownBy_putObj' _ _ (.deferred none)) (fun r e => by cases e; exact ⟨_, hK, rfl⟩)
          refine ⟨.bool false, ?_, by rw [hans], hB.trans (belowK_b (w := w) (Nat.le_refl _) W _ _ _ (by omega) hK rfl rfl)⟩
          simp [results, Tryz.results37, go_sem, hc5]
      have HREST := hide hrest; clear hrest hK0 hK1
      refine wpIn_mono (Q := Exit.then K0 (fun _ _ _ => False)) ?_ (fun e a w h => by cases e <;> first | exact h | exact h.elim)
      gi_region_with (first
        | ((try refine ⟨trivial, ?_⟩); gi_at_call 63
           refine (callsIn_wide.2 (unhide HGA w2.drew (unhide HB2).drew (by have := (unhide H1).2; omega))).mono ?_
           rintro e w3 ⟨⟨y0, y1, y2, y3⟩, rfl, hn3, hb3⟩
           have HN3 := hide hn3
           have HB3 := hide (((Below.refl w2.heap.size w2).drew).trans hb3)
           obtain ⟨z0, -, ⟨b3, cpa, z1, -, -⟩, ⟨B2, z2, -, -⟩, b4, cpb, z3, -, -⟩ := hn3.open
           simp only at z0 z1 z2 z3
           subst z0 z1 z2 z3
           have q13 := (unhide Q12).of_block ((unhide HB3).block _ (by omega))
           have o0 := q13.cell (i := 0) (by omega); have o1 := q13.cell (i := 1) (by omega); have o2 := q13.cell (i := 2) (by omega); have o3 := q13.cell (i := 3) (by omega); have o4 := q13.cell (i := 4) (by omega)
           simp only [row5] at o0 o1 o2 o3 o4
           clear hn3 hb3 q13)
        | ((try refine ⟨trivial, ?_⟩); gi_at_call 62
           refine (walkC_in _ _ _ _ _ _ _ _ _ _ _ _ _ _ _ _ _ _ _).mono ?_
           rintro e w5 ⟨rfl, rfl⟩))
      all_goals exact unhide HREST _ ⟨_, _, _, _⟩ (unhide HN3) (unhide HB3)
    · have hd2 : decide (0 < pT t 1) = false := decide_eq_false hp
      rw [hd, hd2, Bool.true_and, Bool.false_and] at hA
      have HOK2 := unhide HOK; rw [hd] at HOK2
      have HOT2 := unhide HOT; rw [hd2] at HOT2
      have HO := hide HOK2; have HTT := hide HOT2
      have HA := hide hA
      clear HOK2 HOT2 h1 h2 hd hd2 hq hp HOK HOT hA HGA HR2
      gi_wp2_with (first
        | ((try refine ⟨trivial, ?_⟩); gi_at_call 48
           try rw [hW0]
           refine (callsIn_wide.2 (unhide HO)).mono ?_
           rintro e w1 ⟨rfl, hb1⟩
           have HB1 := hide ((unhide HB0).trans (hb1.mono (unhide HB0).size))
           have q1 := (unhide HRT).of_block (hb1.block _ (by omega))
           have hs1 := hb1.size
           have HX1 := hide ((hb1.block _ (by omega)).trans (unhide HBR))
           have hx1 : Boxed w1 (w.heap.size + 1 + 1) 4 (.bool false) := unhide HX1
           have r0 := hx1.cell
           have r1 := hx1.frozen
           have t0 := q1.cell (i := 0) (by omega)
           have t1 := q1.cell (i := 1) (by omega)
           have t2 := q1.cell (i := 2) (by omega)
           have t3 := q1.cell (i := 3) (by omega)
           have t4 := q1.cell (i := 4) (by omega)
           simp only [row5] at t0 t1 t2 t3 t4
           clear hb1 q1 hx1)
        | ((try refine ⟨trivial, ?_⟩); gi_at_call 38
           refine (callsIn_wide.2 (unhide HTT _ (unhide HB1))).mono ?_
           rintro e w2 ⟨rfl, hb2⟩
           have HB2 := hide ((unhide HB1).trans (hb2.mono (unhide HB1).size))
           have hs2 := hb2.size
           have HX2 := hide ((hb2.block _ (by omega)).trans (unhide HX1))
           have hx2 : Boxed w2 (w.heap.size + 1 + 1) 4 (.bool false) := unhide HX2
           have r2 := hx2.cell
           have r3 := hx2.frozen
           clear hb2 hx2))
      have hc5 := (show Boxed w2 (w.heap.size + 1 + 1) 4 (.bool false) from unhide HX2).set (.bool false) |>.cell
      refine ⟨.bool false, ?_, by rw [unhide HA], (unhide HB2).setCell (p := ⟨w.heap.size + 1 + 1, 0, none⟩) (by simp; omega) _⟩
      simp [results, Tryz.results37, go_sem, hc5]
  · have hd : decide (0 < qT k 1) = false := decide_eq_false hq
    rw [hd, Bool.false_and, Bool.false_and] at hA
    have HOK2 := unhide HOK; rw [hd] at HOK2
    have HO := hide HOK2
    have HA := hide hA
    clear HOK2 h1 h2 hd hq HOK HOT hA HGA HR2
    gi_wp2_with (first
        | ((try refine ⟨trivial, ?_⟩); gi_at_call 48
           try rw [hW0]
           refine (callsIn_wide.2 (unhide HO)).mono ?_
           rintro e w1 ⟨rfl, hb1⟩
           have HB1 := hide ((unhide HB0).trans (hb1.mono (unhide HB0).size))
           have q1 := (unhide HRT).of_block (hb1.block _ (by omega))
           have hs1 := hb1.size
           have HX1 := hide ((hb1.block _ (by omega)).trans (unhide HBR))
           have hx1 : Boxed w1 (w.heap.size + 1 + 1) 4 (.bool false) := unhide HX1
           have r0 := hx1.cell
           have r1 := hx1.frozen
           have t0 := q1.cell (i := 0) (by omega)
           have t1 := q1.cell (i := 1) (by omega)
           have t2 := q1.cell (i := 2) (by omega)
           have t3 := q1.cell (i := 3) (by omega)
           have t4 := q1.cell (i := 4) (by omega)
           simp only [row5] at t0 t1 t2 t3 t4
           clear hb1 q1 hx1))
    refine ⟨trivial, ?_⟩
    gi_wp2_with fail
    have hc5 := (show Boxed w1 (w.heap.size + 1 + 1) 4 (.bool false) from unhide HX1).set (.bool false) |>.cell
    refine ⟨.bool false, ?_, by rw [unhide HA], (unhide HB1).setCell (p := ⟨w.heap.size + 1 + 1, 0, none⟩) (by simp; omega) _⟩
    simp [results, Tryz.results37, go_sem, hc5]
end Go.Proofs.YtcpfelaffclalaaGreatDoor
