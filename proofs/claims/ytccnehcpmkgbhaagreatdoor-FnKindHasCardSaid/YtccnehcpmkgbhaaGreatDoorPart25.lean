/- A part. -/
import Derived.Test.YtccnehcpmkgbhaaGreatDoorPart24
import Derived.Test.YtccnehcpmkgbhaaGreatDoorPart21
set_option maxRecDepth 100000
set_option maxHeartbeats 4000000
namespace Go.Proofs.YtccnehcpmkgbhaaGreatDoor
open Go Go.RowKit Go.Shelf Go.Maps
attribute [local go_sem] Oper.semAt_some
mutual
theorem tsz_pT : ∀ (t : Tr) (d : Int), 0 ≤ pT t d → pT t d = (tsz t : Int)
 | .mk s n tx ns ks, d => by
   intro h
   rw [pT] at h ⊢
   split at h
   · omega
   · rename_i hn
     rw [if_neg hn, lsz_pK ks d 1 h, tsz]; omega
theorem lsz_pK : ∀ (ks : List Tr) (d n : Int), 0 ≤ pK ks d n → pK ks d n = n + (lsz ks : Int)
 | [], d, n => by intro h; rw [pK, lsz]; omega
 | t :: r, d, n => by
   intro h
   rw [pK] at h ⊢
   split at h
   · omega
   · rename_i hn
     rw [if_neg hn, lsz_pK r d _ h, lsz, tsz_pT t (d + 1) (by omega)]; omega
end
theorem implKindHas_any (k : Kd) (t : Tr) (P Q : Nat → Prop) (c : C3) (d : C5) (w : World) (hP : ∀ b, P b → b < w.heap.size) (hQ : ∀ b, Q b → b < w.heap.size) (hrep : KRep P w k c) (hrep2 : Rep Q w t d) (hTb : Tab w) (hwt : wKd k ≤ 1048576) :
 Calls Tryz.prog 6 #[.agg #[c.c0, c.c1, c.c2], .agg #[d.c0, d.c1, d.c2, d.c3, d.c4]] w fun e w' => e = .returned (.bool (hasA k t)) ∧ Below w.heap.size w w' := by
 obtain ⟨c0, c1, c2⟩ := c
 obtain ⟨d0, d1, d2, d3, d4⟩ := d
 obtain ⟨W0, hW0⟩ : ∃ W0, (((w.alloc (.cells #[c0, c1, c2] 26)).alloc (.cells #[d0, d1, d2, d3, d4] 29)).alloc (.cells #[.bool false] 4)) = W0 := ⟨_, rfl⟩
 have hb0 : Below w.heap.size w W0 := by rw [← hW0]; exact (((Below.refl _ _).alloc (Nat.le_refl _) _).alloc (by simp) _).alloc (by simp; omega) _
 have hs0 : W0.heap.size = w.heap.size + 3 := by rw [← hW0]; simp
 have hrk : W0.rowIs w.heap.size 26 3 (row3 c0 c1 c2) := by rw [← hW0]; exact ((row3_alloc w c0 c1 c2 _).alloc _).alloc _
 have hrt : W0.rowIs (w.heap.size + 1) 29 5 (row5 d0 d1 d2 d3 d4) := by
  rw [← hW0]
  have q := row5_alloc (w.alloc (.cells #[c0, c1, c2] 26)) d0 d1 d2 d3 d4 29
  rw [World.size_alloc] at q
  exact q.alloc _
 have hbr : Boxed W0 (w.heap.size + 1 + 1) 4 (.bool false) := by
  rw [← hW0]
  have := (Boxed.new ((w.alloc (.cells #[c0, c1, c2] 26)).alloc (.cells #[d0, d1, d2, d3, d4] 29)) 4 (.bool false))
  rw [World.size_alloc, World.size_alloc] at this
  exact this
 have hok := implKindOk_any k P ⟨c0, c1, c2⟩ W0 (fun b hb => Nat.lt_of_lt_of_le (hP b hb) hb0.size) (KRep.carry (fun b hb => hb0.block b (hP b hb)) (fun _ h => h) _ _ hrep) hwt
 have hot := fun W (hW : Below w.heap.size w W) => implTreeOk_any t Q ⟨d0, d1, d2, d3, d4⟩ W (fun b hb => Nat.lt_of_lt_of_le (hQ b hb) hW.size) (Rep.carry (fun b hb => hW.block b (hQ b hb)) (fun _ h => h) _ _ hrep2) (hTb.of_block (hW.block _ hTb.lt))
 have hga := fun W (hW : Below w.heap.size w W) (h : ksz k ≤ 1000000) => gatherN_all (ksz k + 1) k (by omega) P ⟨c0, c1, c2⟩ W (fun b hb => Nat.lt_of_lt_of_le (hP b hb) hW.size) (KRep.carry (fun b hb => hW.block b (hP b hb)) (fun _ h => h) _ _ hrep) h hwt
 have hrt2 := fun W (hW : Below w.heap.size w W) => Rep.carry (Q := Q) (w' := W) (fun b hb => hW.block b (hQ b hb)) (fun _ h => h) _ _ hrep2
 obtain ⟨e0, -, ⟨a3, cap3, e1, -, -⟩, a, cap, e2, -, -⟩ := hrep.open
 obtain ⟨g0, g1, g2, -, -, -, ⟨a5, cap5, g3, -, -⟩, a6, cap6, g4, -, -⟩ := hrep2.open
 simp only at e0 e1 e2 g0 g1 g2 g3 g4
 subst e0 e1 e2 g0 g1 g2 g3 g4
 have hA : hasA k t = (decide (0 < qT k 1) && decide (0 < pT t 1) && hT t k) := rfl
 have h1 : 0 < qT k 1 → okD k = true ∧ ksz k ≤ 40 := fun h => ok_of_qT h
 have h2 : 0 < pT t 1 → okH t = true ∧ tsz t ≤ 120 := fun h => ⟨okH_of_pT t 1 (by omega), by have e := tsz_pT t 1 (by omega); have := pT_bd t 1; omega⟩
 obtain ⟨k0, k1, k2⟩ := cs3 hrk (by omega)
 simp only [row3] at k0 k1 k2
 have HRK := hH hrk; have HRT := hH hrt; have HB0 := hH hb0; have HOK := hH hok; have HOT := hH hot; have HGA := hH hga; have HR2 := hH hrt2; have HBR := hH hbr
 clear hrk hrt hb0 hok hot hga hrt2 hrep hrep2 hbr
 refine (callsIn_wide (n := 8)).1 ?_
 refine callsIn_of_wp_marks Tryz.func6 rfl trivial ?_ rfl
 simp only [Tryz.ntmps6, List.size_toArray, List.length_cons, List.length_nil, Nat.reduceAdd, Nat.reduceSub, Array.replicate_succ, Array.replicate_zero, List.push_toArray, List.append_toArray, List.nil_append, List.cons_append]
 by_cases hq : 0 < qT k 1
 · have hd : decide (0 < qT k 1) = true := decide_eq_true hq
   by_cases hp : 0 < pT t 1
   · have hd2 : decide (0 < pT t 1) = true := decide_eq_true hp
     rw [hd, hd2, Bool.true_and, Bool.true_and] at hA
     have HOK2 := uh HOK; rw [hd] at HOK2
     have HOT2 := uh HOT; rw [hd2] at HOT2
     have H1 := hH (h1 hq); have H2 := hH (h2 hp)
     have HO := hH HOK2; have HTT := hH HOT2
     have HA := hH hA
     clear HOK2 HOT2 h1 h2 hd hd2 hq hp HOK HOT hA
     gi_wp2_with (first
      | ((try refine ⟨trivial, ?_⟩); gi_at_call 21
         try rw [hW0]
         refine (callsIn_wide.2 (uh HO)).mono ?_
         rintro e w1 ⟨rfl, hb1⟩
         have HB1 := hH ((uh HB0).trans (hb1.mono (uh HB0).size))
         have q1 := (uh HRT).of_block (hb1.block _ (by omega))
         have q0 := (uh HRK).of_block (hb1.block _ (by omega))
         have hs1 := hb1.size
         have Q1 := hH q1
         have Q0 := hH q0
         have HX1 := hH ((hb1.block _ (by omega)).trans (uh HBR))
         obtain ⟨t0, t1, t2, t3, t4⟩ := cs5 q1 (by omega)
         simp only [row5] at t0 t1 t2 t3 t4
         clear hb1 q1 q0)
      | ((try refine ⟨trivial, ?_⟩); gi_at_call 22
         refine (callsIn_wide.2 (uh HTT _ (uh HB1))).mono ?_
         rintro e w2 ⟨rfl, hb2⟩
         have HB2 := hH ((uh HB1).trans (hb2.mono (uh HB1).size))
         have q1 := (uh Q1).of_block (hb2.block _ (by omega))
         have q0 := (uh Q0).of_block (hb2.block _ (by omega))
         have hs2 := hb2.size
         have Q12 := hH q1
         have Q02 := hH q0
         have HX2 := hH ((hb2.block _ (by omega)).trans (uh HX1))
         clear hb2 q1 q0))
     have q02 := uh Q02; have q12 := uh Q12
     obtain ⟨m0, m1, m2⟩ := cs3 q02 (by omega)
     have n0 := q12.cell (i := 0) (by omega); have n1 := q12.cell (i := 1) (by omega); have n2 := q12.cell (i := 2) (by omega); have n3 := q12.cell (i := 3) (by omega); have n4 := q12.cell (i := 4) (by omega)
     simp only [row3] at m0 m1 m2
     simp only [row5] at n0 n1 n2 n3 n4
     clear q02 q12 t0 t1 t2 t3 t4 k0 k1 k2
     rename_i K1 hK1 K0 hK0
     have hrest : ∀ (w3 : World) (y : C4), NRep (OrNew P w2.heap.size w3) w3 k y → Below w2.heap.size w2 w3 → K0 { tmps := #[.agg #[.int .i64 k.sort, .slice a3 k.names.length cap3, .slice a k.kids.length cap], .agg #[.int .i64 t.sort, .int .i64 t.num, .string t.text, .slice a5 t.names.length cap5, .slice a6 t.kids.length cap6], .pointer (some ⟨w.heap.size, 0, none⟩), .pointer (some ⟨w.heap.size + 1, 0, none⟩), .pointer (some ⟨w.heap.size + 1 + 1, 0, none⟩), undef, undef, .agg #[.int .i64 k.sort, .slice a3 k.names.length cap3, .slice a k.kids.length cap], .bool true, .bool false, .bool false, .agg #[.int .i64 t.sort, .int .i64 t.num, .string t.text, .slice a5 t.names.length cap5, .slice a6 t.kids.length cap6], .bool true, .bool false, .bool false, .agg #[.int .i64 k.sort, .slice a3 k.names.length cap3, .slice a k.kids.length cap], .agg #[y.c0, y.c1, y.c2, y.c3], .agg #[.int .i64 t.sort, .int .i64 t.num, .string t.text, .slice a5 t.names.length cap5, .slice a6 t.kids.length cap6], .agg #[y.c0, y.c1, y.c2, y.c3, .int .i64 t.sort, .int .i64 t.num, .string t.text, .slice a5 t.names.length cap5, .slice a6 t.kids.length cap6], .func (.func 49) #[] #[.pointer (some ⟨w3.heap.size, 0, none⟩)], undef, undef, undef, undef, undef], defers := [] } (w3.alloc (.cells #[y.c0, y.c1, y.c2, y.c3, .int .i64 t.sort, .int .i64 t.num, .string t.text, .slice a5 t.names.length cap5, .slice a6 t.kids.length cap6] 59)) := by
      intro w3 y hn3 hb3
      refine hK0 _ _ ?_
      clear hK0 m0 m1 m2 n0 n1 n2 n3 n4
      gi_wp2_with fail
      obtain ⟨W5, hW5⟩ : ∃ W5, w3.alloc (.cells #[y.c0, y.c1, y.c2, y.c3, .int .i64 t.sort, .int .i64 t.num, .string t.text, .slice a5 t.names.length cap5, .slice a6 t.kids.length cap6] 59) = W5 := ⟨_, rfl⟩
      have hsz5 : W5.heap.size = w3.heap.size + 1 := by rw [← hW5]; simp
      have hs3 := hb3.size
      have hsw2 := (uh HB2).size
      have hb35 : Below w3.heap.size w3 W5 := by rw [← hW5]; exact (Below.refl _ _).alloc (Nat.le_refl _) _
      have hbw3 : Below w.heap.size w w3 := (uh HB2).trans (hb3.mono hsw2)
      have hb5 : Below w.heap.size w W5 := hbw3.trans (hb35.mono hbw3.size)
      have hs5 := hbw3.size
      have hlt3 : ∀ b, OrNew P w2.heap.size w3 b → b < w3.heap.size := fun b hb => hb.elim (fun h => by have := hP b h; omega) (fun h => h.2)
      have hN5 : NRep (fun b => b < w3.heap.size) W5 k y := NRep.carry (fun b hb => hb35.block b (hlt3 b hb)) hlt3 _ _ hn3
      have hR5 : Rep (fun b => b < w3.heap.size) W5 t ⟨.int .i64 t.sort, .int .i64 t.num, .string t.text, .slice a5 t.names.length cap5, .slice a6 t.kids.length cap6⟩ := Rep.carry (fun _ _ => rfl) (fun b hb => by have := hQ b hb; omega) _ _ (uh HR2 W5 hb5)
      have hr9 := row9_alloc w3 y ⟨.int .i64 t.sort, .int .i64 t.num, .string t.text, .slice a5 t.names.length cap5, .slice a6 t.kids.length cap6⟩ 59
      simp only at hr9
      rw [hW5] at hr9
      have hat4 : C4.at W5 w3.heap.size 0 y := ⟨hr9.cell (i := 0) (by omega), hr9.cell (i := 1) (by omega), hr9.cell (i := 2) (by omega), hr9.cell (i := 3) (by omega)⟩
      have hat5 : C5.at W5 w3.heap.size 4 ⟨.int .i64 t.sort, .int .i64 t.num, .string t.text, .slice a5 t.names.length cap5, .slice a6 t.kids.length cap6⟩ := ⟨hr9.cell (i := 4) (by omega), hr9.cell (i := 5) (by omega), hr9.cell (i := 6) (by omega), hr9.cell (i := 7) (by omega), hr9.cell (i := 8) (by omega)⟩
      have hlt2 : w.heap.size + 1 + 1 < w2.heap.size := (Array.getElem?_eq_some_iff.1 (uh HX2)).1
      have hbr5 : Boxed W5 (w.heap.size + 1 + 1) 4 (.bool false) := ((hb35.block _ (by omega)).trans (hb3.block _ hlt2)).trans (uh HX2)
      have hts : tsz t ≤ 999990 := by have := (uh H2).2; omega
      have hoK := (uh H1).1
      have hoT := (uh H2).1
      rw [hW5]
      clear hW5 hr9
      refine range_H (α := CX w3.heap.size W5) (encs := cEnc) (H := fun x => clB (cKey x) = true) (Kp := KeptC w3.heap.size) (S := fun ys => ys.map cKey = cord t k) (Sp := fun pre => pre.map cKey <+: cord t k) (by omega)
       (gf := 49) (lb := #[.pointer (some ⟨w3.heap.size, 0, none⟩)]) rfl (enters_of Tryz.func49 (by kernel_rfl) rfl)
       (fun l J Jx W hW hJ hHy hY h0 => walkC1_in _ l w3.heap.size w3.heap.size W5 (by omega) t k y ⟨.int .i64 t.sort, .int .i64 t.num, .string t.text, .slice a5 t.names.length cap5, .slice a6 t.kids.length cap6⟩ hN5 hR5 hoK hoT hts J Jx hJ hHy hY W (hat4.carry (hW.block _ (by omega))) (hat5.carry (hW.block _ (by omega))) (hW.mono (by omega)) h0)
       Kept.trans (Kept.putObj (by omega)) (fun _ => rfl)
       (fun pre W => (pre.map cKey).all clB = true ∧ Boxed W (w.heap.size + 1 + 1) 4 (.bool false) ∧ Below w3.heap.size W5 W)
       (fun pre W => (pre.map cKey).all clB = false ∧ Boxed W (w.heap.size + 1 + 1) 4 (.bool false) ∧ Below w.heap.size w W)
       ?hI ?hIx ?hHy ?h0
       (fun x a' W => ∃ Bx, W5.heap.size ≤ Bx ∧ C4.at W Bx 0 x.1.2.2.1 ∧ C5.at W Bx 4 x.1.2.2.2 ∧ a' = { tmps := #[.agg #[.int .i64 k.sort, .slice a3 k.names.length cap3, .slice a k.kids.length cap], .agg #[.int .i64 t.sort, .int .i64 t.num, .string t.text, .slice a5 t.names.length cap5, .slice a6 t.kids.length cap6], .pointer (some ⟨w.heap.size, 0, none⟩), .pointer (some ⟨w.heap.size + 1, 0, none⟩), .pointer (some ⟨w.heap.size + 1 + 1, 0, none⟩), undef, .pointer (some ⟨Bx, 0, none⟩), .agg #[.int .i64 k.sort, .slice a3 k.names.length cap3, .slice a k.kids.length cap], .bool true, .bool false, .bool false, .agg #[.int .i64 t.sort, .int .i64 t.num, .string t.text, .slice a5 t.names.length cap5, .slice a6 t.kids.length cap6], .bool true, .bool false, .bool false, .agg #[.int .i64 k.sort, .slice a3 k.names.length cap3, .slice a k.kids.length cap], .agg #[y.c0, y.c1, y.c2, y.c3], .agg #[.int .i64 t.sort, .int .i64 t.num, .string t.text, .slice a5 t.names.length cap5, .slice a6 t.kids.length cap6], .agg #[y.c0, y.c1, y.c2, y.c3, .int .i64 t.sort, .int .i64 t.num, .string t.text, .slice a5 t.names.length cap5, .slice a6 t.kids.length cap6], .func (.func 49) #[] #[.pointer (some ⟨w3.heap.size, 0, none⟩)], .int .i64 x.1.1, .agg #[x.1.2.2.1.c0, x.1.2.2.1.c1, x.1.2.2.1.c2, x.1.2.2.1.c3, x.1.2.2.2.c0, x.1.2.2.2.c1, x.1.2.2.2.c2, x.1.2.2.2.c3, x.1.2.2.2.c4], undef, undef, undef], defers := [] })
       ?hAx ?assign ?body ?done ?stop
      case hI =>
       exact fun s W W' row hs hg hr => ⟨hs.1, boxed_own _ _ (fun _ => .bool false) s W W' row hs.2.1 hg (fun r e => (hr r e).2), ownFrom_below (by omega) (by omega) s W W' row hs.2.2 hg hr⟩
      case hIx =>
       exact fun s W W' row hs hg hr => ⟨hs.1, boxed_own _ _ (fun _ => .bool false) s W W' row hs.2.1 hg (fun r e => (hr r e).2), ownFrom_below (Nat.le_refl _) (by omega) s W W' row hs.2.2 hg hr⟩
      case hHy =>
       rintro pre x W ⟨h, -⟩
       rw [List.map_append, List.all_append, Bool.and_eq_true] at h
       simpa using h.2
      case h0 => exact ⟨by simp, hbr5, Below.refl _ _⟩
      case hAx =>
       rintro x a' s W W' row ⟨Bx, hBx, ⟨f0, f1, f2, f3⟩, ⟨f4, f5, f6, f7, f8⟩, rfl⟩ hg hr
       have hh := fun r (e : row = some r) => (hr r e).2
       exact ⟨Bx, hBx, ⟨cell_kept f0 hg hh, cell_kept f1 hg hh, cell_kept f2 hg hh, cell_kept f3 hg hh⟩, ⟨cell_kept f4 hg hh, cell_kept f5 hg hh, cell_kept f6 hg hh, cell_kept f7 hg hh, cell_kept f8 hg hh⟩, rfl⟩
      case assign =>
       rintro l pre ⟨⟨lv, ⟨K, T⟩, ⟨x0, x1, x2, x3⟩, ⟨u0, u1, u2, u3, u4⟩⟩, hxk, hxt, hx1, hx2⟩ W K2 hi hK2
       obtain ⟨g0, -, ⟨b3, cpa, g1, -, -⟩, ⟨B2, g2, -, -⟩, b4, cpb, g3, -, -⟩ := hxk.open
       obtain ⟨v0, v1, v2, -, -, -, ⟨b5, cpc, v3, -, -⟩, b6, cpd, v4, -, -⟩ := hxt.open
       simp only at g0 g1 g2 g3 v0 v1 v2 v3 v4
       subst g0 g1 g2 g3 v0 v1 v2 v3 v4
       have HK2 := hH hK2; have HI := hH hi
       clear hK2 hi hK1
       simp only [cEnc]
       gi_wp2
       obtain ⟨h1, h3, h5⟩ := uh HI
       have q := row9_alloc W ⟨.int .i64 K.sort, .slice b3 K.names.length cpa, .map (some B2), .slice b4 K.kids.length cpb⟩ ⟨.int .i64 T.sort, .int .i64 T.num, .string T.text, .slice b5 T.names.length cpc, .slice b6 T.kids.length cpd⟩ 59
       have hsW := h5.size
       exact uh HK2 _ _ ((KeepsOthers.alloc _ _).from _) (Kept.grown (World.grownBy_alloc _ _ none) (by omega)) ⟨h1, h3.alloc _, h5.alloc (by omega) _⟩ ⟨W.heap.size, by omega, ⟨q.cell (i := 0) (by omega), q.cell (i := 1) (by omega), q.cell (i := 2) (by omega), q.cell (i := 3) (by omega)⟩, ⟨q.cell (i := 4) (by omega), q.cell (i := 5) (by omega), q.cell (i := 6) (by omega), q.cell (i := 7) (by omega), q.cell (i := 8) (by omega)⟩, rfl⟩
      case body =>
       rintro l pre x a' W ⟨hall, hbr', hB⟩ ⟨Bx, hBx, h4, h5, rfl⟩
       have hxx := x.2
       have hkey : cKey x = x.1.2.1 := rfl
       obtain ⟨lv, K, T, x0, x1, x2, x3, u0, u1, u2, u3, u4, hxe⟩ : ∃ lv K T x0 x1 x2 x3 u0 u1 u2 u3 u4, x.1 = (lv, (K, T), ⟨x0, x1, x2, x3⟩, ⟨u0, u1, u2, u3, u4⟩) := by obtain ⟨⟨lv, ⟨K, T⟩, ⟨x0, x1, x2, x3⟩, ⟨u0, u1, u2, u3, u4⟩⟩, _⟩ := x; exact ⟨_, _, _, _, _, _, _, _, _, _, _, _, rfl⟩
       rw [hxe] at hxx
       simp only [hxe] at hkey h4 h5 ⊢
       obtain ⟨hxk, hxt, hx1, hx2⟩ := hxx
       simp only at hx1 hx2 hxk hxt
       clear hxe
       have hshK : shB K = true := by rw [okD_eq, Bool.and_eq_true] at hx1; exact hx1.1
       have halT : aloneB T = true := by rw [okH_eq, Bool.and_eq_true] at hx2; exact hx2.1
       have hhold : holdB K T = clB (K, T) := hold_eq hshK halT
       have hsW := hB.size
       have hcall := holds_any K T (fun b => b < w3.heap.size) (fun b => b < w3.heap.size) ⟨x0, x1, x2, x3⟩ ⟨u0, u1, u2, u3, u4⟩ W (fun b hb => by omega) (fun b hb => by omega) (NRep.carry (fun b hb => hB.block b hb) (fun _ h => h) _ _ hxk) (Rep.carry (fun b hb => hB.block b hb) (fun _ h => h) _ _ hxt)
       rw [hhold] at hcall
       obtain ⟨g0, -, ⟨b3, cpa, g1, -, -⟩, ⟨B2, g2, -, -⟩, b4, cpb, g3, -, -⟩ := hxk.open
       obtain ⟨v0, v1, v2, -, -, -, ⟨b5, cpc, v3, -, -⟩, b6, cpd, v4, -, -⟩ := hxt.open
       simp only at g0 g1 g2 g3 v0 v1 v2 v3 v4
       subst g0 g1 g2 g3 v0 v1 v2 v3 v4
       obtain ⟨f0, f1, f2, f3⟩ := h4
       obtain ⟨f4, f5, f6, f7, f8⟩ := h5
       simp only [Nat.reduceAdd, Nat.zero_add] at f0 f1 f2 f3 f4 f5 f6 f7 f8 hcall
       have hans : ((pre ++ [x]).map cKey).all clB = clB (K, T) := by
        rw [List.map_append, List.all_append, hall]
        simp [hkey]
       have HCALL := hH hcall; have HB := hH hB; have HBR := hH hbr'; have HANS := hH hans
       clear hcall hB hbr' hall hxk hxt hans hkey hhold hK1
       cases hcl : clB (K, T)
       · rw [hcl] at HCALL HANS
         gi_wp2_with ((try refine ⟨trivial, ?_⟩); gi_at_call 26; refine (CallsIn.inRound l (callsIn_wide.2 (uh HCALL))).mono ?_; clear HCALL; rintro e w6 ⟨rfl, hb6⟩; have HBR6 := hH (show Boxed w6 (w.heap.size + 1 + 1) 4 (.bool false) from (hb6.block _ (by omega)).trans (uh HBR)); have r0 := (uh HBR6).cell; have r1 := (uh HBR6).frozen; have HB6 := hH hb6; clear hb6)
         have hb6 := uh HB6
         refine ⟨KeepsFrom.trans ⟨hb6.size, fun k o _ hk _ => (hb6.block k (Array.getElem?_eq_some_iff.1 hk).1).trans hk⟩ ((KeepsOthers.setCell _ _ _).from _), uh HANS, (uh HBR6).set _, ?_⟩
         exact (hb5.trans (((uh HB).mono (by omega)).trans (hb6.mono (by omega)))).setCell (by simp; omega) _
       · rw [hcl] at HCALL HANS
         gi_wp2_with ((try refine ⟨trivial, ?_⟩); gi_at_call 26; refine (CallsIn.inRound l (callsIn_wide.2 (uh HCALL))).mono ?_; clear HCALL; rintro e w6 ⟨rfl, hb6⟩; have HB6 := hH hb6; clear hb6)
         have hb6 := uh HB6
         exact ⟨⟨hb6.size, fun k o _ hk _ => (hb6.block k (Array.getElem?_eq_some_iff.1 hk).1).trans hk⟩, keptC_of hb6 (by omega), uh HANS, (hb6.block _ (by omega)).trans (uh HBR), (uh HB).trans (hb6.mono (by omega))⟩
      case done =>
       rintro ys W hS ⟨hall, hbr', hB⟩ hK
       have hans : hasA k t = true := by rw [uh HA, hT_cord, ← hS]; exact hall
       have r0 := hbr'.cell
       have r1 := hbr'.frozen
       gi_wp2_with fail
       have hK' := (KeepsOthers.setCell W ⟨w.heap.size + 1 + 1, 0, none⟩ (.bool true)).same _ _ hK rfl
       refine ⟨by simp, .inl ⟨_, _, rfl, run_takeDeferred hK', ?_⟩⟩
       have hc5 := cell_kept (hbr'.set (.bool true)).cell (grownBy_putObj' _ _ (.deferred none)) (fun r e => by cases e; exact ⟨_, hK', rfl⟩)
       refine ⟨.bool true, ?_, by rw [hans], ((hb5.trans (hB.mono (by omega))).setCell (p := ⟨w.heap.size + 1 + 1, 0, none⟩) (by simp; omega) _).trans (belowK_b (w := w) (Nat.le_refl _) _ _ _ _ (by omega) hK' rfl rfl)⟩
       simp [results, Tryz.results6, go_sem, hc5]
      case stop =>
       rintro pre W hpre ⟨hbad, hbr', hB⟩ hK
       have hans : hasA k t = false := by
        rw [uh HA, hT_cord]
        obtain ⟨r, hr⟩ := hpre
        rw [← hr, List.all_append, hbad]; rfl
       gi_wp2_with fail
       refine ⟨by simp, .inl ⟨_, _, rfl, run_takeDeferred hK, ?_⟩⟩
       have hc5 := cell_kept hbr'.cell (grownBy_putObj' _ _ (.deferred none)) (fun r e => by cases e; exact ⟨_, hK, rfl⟩)
       refine ⟨.bool false, ?_, by rw [hans], hB.trans (belowK_b (w := w) (Nat.le_refl _) W _ _ _ (by omega) hK rfl rfl)⟩
       simp [results, Tryz.results6, go_sem, hc5]
     have HREST := hH hrest; clear hrest hK0 hK1
     refine wpIn_mono (Q := Exit.then K0 (fun _ _ _ => False)) ?_ (fun e a w h => by cases e <;> first | exact h | exact h.elim)
     gi_region_with (first
      | ((try refine ⟨trivial, ?_⟩); gi_at_call 24
         refine (callsIn_wide.2 (uh HGA w2.drew (uh HB2).drew (by have := (uh H1).2; omega))).mono ?_
         rintro e w3 ⟨⟨y0, y1, y2, y3⟩, rfl, hn3, hb3⟩
         have HN3 := hH hn3
         have HB3 := hH (((Below.refl w2.heap.size w2).drew).trans hb3)
         obtain ⟨z0, -, ⟨b3, cpa, z1, -, -⟩, ⟨B2, z2, -, -⟩, b4, cpb, z3, -, -⟩ := hn3.open
         simp only at z0 z1 z2 z3
         subst z0 z1 z2 z3
         have q13 := (uh Q12).of_block ((uh HB3).block _ (by omega))
         obtain ⟨o0, o1, o2, o3, o4⟩ := cs5 q13 (by omega)
         simp only [row5] at o0 o1 o2 o3 o4
         clear hn3 hb3 q13)
      | ((try refine ⟨trivial, ?_⟩); gi_at_call 23
         refine (walkC_in _ _ _ _ _ _ _ _ _ _ _ _ _ _ _ _ _ _ _).mono ?_
         rintro e w5 ⟨rfl, rfl⟩))
     all_goals exact uh HREST _ ⟨_, _, _, _⟩ (uh HN3) (uh HB3)
   · have hd2 : decide (0 < pT t 1) = false := decide_eq_false hp
     rw [hd, hd2, Bool.true_and, Bool.false_and] at hA
     have HOK2 := uh HOK; rw [hd] at HOK2
     have HOT2 := uh HOT; rw [hd2] at HOT2
     have HO := hH HOK2; have HTT := hH HOT2
     have HA := hH hA
     clear HOK2 HOT2 h1 h2 hd hd2 hq hp HOK HOT hA HGA HR2
     gi_wp2_with (first
      | ((try refine ⟨trivial, ?_⟩); gi_at_call 21
         try rw [hW0]
         refine (callsIn_wide.2 (uh HO)).mono ?_
         rintro e w1 ⟨rfl, hb1⟩
         have HB1 := hH ((uh HB0).trans (hb1.mono (uh HB0).size))
         have q1 := (uh HRT).of_block (hb1.block _ (by omega))
         have hs1 := hb1.size
         have HX1 := hH ((hb1.block _ (by omega)).trans (uh HBR))
         have hx1 : Boxed w1 (w.heap.size + 1 + 1) 4 (.bool false) := uh HX1
         have r0 := hx1.cell
         have r1 := hx1.frozen
         obtain ⟨t0, t1, t2, t3, t4⟩ := cs5 q1 (by omega)
         simp only [row5] at t0 t1 t2 t3 t4
         clear hb1 q1 hx1)
      | ((try refine ⟨trivial, ?_⟩); gi_at_call 22
         refine (callsIn_wide.2 (uh HTT _ (uh HB1))).mono ?_
         rintro e w2 ⟨rfl, hb2⟩
         have HB2 := hH ((uh HB1).trans (hb2.mono (uh HB1).size))
         have hs2 := hb2.size
         have HX2 := hH ((hb2.block _ (by omega)).trans (uh HX1))
         have hx2 : Boxed w2 (w.heap.size + 1 + 1) 4 (.bool false) := uh HX2
         have r2 := hx2.cell
         have r3 := hx2.frozen
         clear hb2 hx2))
     have hc5 := (show Boxed w2 (w.heap.size + 1 + 1) 4 (.bool false) from uh HX2).set (.bool false) |>.cell
     refine ⟨.bool false, ?_, by rw [uh HA], (uh HB2).setCell (p := ⟨w.heap.size + 1 + 1, 0, none⟩) (by simp; omega) _⟩
     simp [results, Tryz.results6, go_sem, hc5]
 · have hd : decide (0 < qT k 1) = false := decide_eq_false hq
   rw [hd, Bool.false_and, Bool.false_and] at hA
   have HOK2 := uh HOK; rw [hd] at HOK2
   have HO := hH HOK2
   have HA := hH hA
   clear HOK2 h1 h2 hd hq HOK HOT hA HGA HR2
   gi_wp2_with (first
    | ((try refine ⟨trivial, ?_⟩); gi_at_call 21
       try rw [hW0]
       refine (callsIn_wide.2 (uh HO)).mono ?_
       rintro e w1 ⟨rfl, hb1⟩
       have HB1 := hH ((uh HB0).trans (hb1.mono (uh HB0).size))
       have q1 := (uh HRT).of_block (hb1.block _ (by omega))
       have hs1 := hb1.size
       have HX1 := hH ((hb1.block _ (by omega)).trans (uh HBR))
       have hx1 : Boxed w1 (w.heap.size + 1 + 1) 4 (.bool false) := uh HX1
       have r0 := hx1.cell
       have r1 := hx1.frozen
       obtain ⟨t0, t1, t2, t3, t4⟩ := cs5 q1 (by omega)
       simp only [row5] at t0 t1 t2 t3 t4
       clear hb1 q1 hx1))
   refine ⟨trivial, ?_⟩
   gi_wp2_with fail
   have hc5 := (show Boxed w1 (w.heap.size + 1 + 1) 4 (.bool false) from uh HX1).set (.bool false) |>.cell
   refine ⟨.bool false, ?_, by rw [uh HA], (uh HB1).setCell (p := ⟨w.heap.size + 1 + 1, 0, none⟩) (by simp; omega) _⟩
   simp [results, Tryz.results6, go_sem, hc5]
end Go.Proofs.YtccnehcpmkgbhaaGreatDoor

namespace Go.Proofs.YtccnehcpmkgbhaaGreatDoor
open Go Go.RowKit
def HasSaid (n : Nat) : Prop := ∀ (t : Tr), tsz t < n → ∀ (k : Kd) (P Q : Nat → Prop) (c : C3) (d : C5) (w : World), (∀ b, P b → b < w.heap.size) → (∀ b, Q b → b < w.heap.size) → KRep P w k c → Rep Q w t d → okD k = true → okH t = true →
    Calls Tryz.prog 20 #[.agg #[c.c0, c.c1, c.c2], .agg #[d.c0, d.c1, d.c2, d.c3, d.c4]] w fun e w' => e = .returned (.bool (hT t k)) ∧ Below w.heap.size w w'
theorem l2Has_step (n : Nat) (IH : HasSaid n) : HasSaid (n + 1) := by
 intro t hn k P Q c d w hP hQ hrep hrep2 hok hot
 rw [okD_eq, Bool.and_eq_true] at hok
 rw [okH_eq, Bool.and_eq_true] at hot
 obtain ⟨c0, c1, c2⟩ := c
 obtain ⟨d0, d1, d2, d3, d4⟩ := d
 obtain ⟨e0, -, ⟨a3, cap3, e1, hl3, hnc⟩, a, cap, e2, hl, hks⟩ := hrep.open
 obtain ⟨g0, g1, g2, -, -, -, ⟨a5, cap5, g3, hl5, hnc2⟩, a6, cap6, g4, hl6, hks2⟩ := hrep2.open
 simp only at e0 e1 e2 g0 g1 g2 g3 g4
 subst e0 e1 e2 g0 g1 g2 g3 g4
 have hbl0 : ∀ o1 o2, Below w.heap.size w ((w.alloc o1).alloc o2) := fun o1 o2 => ((Below.refl _ _).alloc (Nat.le_refl _) o1).alloc (by simp) o2
 by_cases hs : k.sort = t.sort
 · by_cases hnl : k.names.length = t.names.length
   · have HP := hH hP; have HQ := hH hQ; have HI := hH IH; have HK := hH hks; have HK2 := hH hks2; have HNC := hH hnc; have HNC2 := hH hnc2; have HOK := hH hok; have HOT := hH hot
     clear hP hQ IH hks hks2 hnc hnc2 hok hot hrep hrep2
     have hrk := row3_alloc w (.int .i64 t.sort) (.slice a3 t.names.length cap3) (.slice a k.kids.length cap) 26
     have hrt := row5_alloc (w.alloc (.cells #[.int .i64 t.sort, .slice a3 t.names.length cap3, .slice a k.kids.length cap] 26)) (.int .i64 t.sort) (.int .i64 t.num) (.string t.text) (.slice a5 t.names.length cap5) (.slice a6 t.kids.length cap6) 29
     rw [World.size_alloc] at hrt
     have hbw := hbl0 (.cells #[.int .i64 t.sort, .slice a3 t.names.length cap3, .slice a k.kids.length cap] 26) (.cells #[.int .i64 t.sort, .int .i64 t.num, .string t.text, .slice a5 t.names.length cap5, .slice a6 t.kids.length cap6] 29)
     have hrk := hrk.alloc (.cells #[.int .i64 t.sort, .int .i64 t.num, .string t.text, .slice a5 t.names.length cap5, .slice a6 t.kids.length cap6] 29)
     simp only [hs, hnl]
     have HS := hH hs; have HNL := hH hnl
     clear hs hnl hbl0
     have h2 : ((w.alloc (.cells #[.int .i64 t.sort, .slice a3 t.names.length cap3, .slice a k.kids.length cap] 26)).alloc (.cells #[.int .i64 t.sort, .int .i64 t.num, .string t.text, .slice a5 t.names.length cap5, .slice a6 t.kids.length cap6] 29)).heap.size = w.heap.size + 2 := by simp
     go_enter Tryz.func20, Tryz.ntmps20
     go_wp2_with fail
     generalize ((w.alloc (.cells #[.int .i64 t.sort, .slice a3 t.names.length cap3, .slice a k.kids.length cap] 26)).alloc (.cells #[.int .i64 t.sort, .int .i64 t.num, .string t.text, .slice a5 t.names.length cap5, .slice a6 t.kids.length cap6] 29)) = W0 at *
     have HRK := hH hrk; have HRT := hH hrt; have HBW := hH hbw
     clear hrk hrt hbw
     go_loopw [5] (fun i wr => ∃ (j : Nat), j ≤ t.names.length ∧ i = .int .i64 j ∧ Hid (∀ x, x < j → (h1 : x < k.names.length) → (h2 : x < t.names.length) → k.names[x] = t.names[x]) ∧ Hid (Below W0.heap.size W0 wr)) (fun i _ => t.names.length - (intOf i).toNat)
     case atStart => exact ⟨0, Nat.zero_le _, rfl, fun x hx => by omega, Below.refl _ _⟩
     case round =>
      obtain ⟨j, hj, rfl, HE, HB⟩ := hrel
      have q0 := (uh HRK).of_block (HB.out.block w.heap.size (by omega))
      have q1 := (uh HRT).of_block (HB.out.block (w.heap.size + 1) (by omega))
      have k1 := q0.cell (i := 1) (by omega); have t3 := q1.cell (i := 3) (by omega); have t4 := q1.cell (i := 4) (by omega)
      simp only [row3, row5] at k1 t3 t4
      have hbw := (uh HBW).trans (HB.out.mono (by omega))
      by_cases hlt : j < t.names.length
      · have hlk : j < k.names.length := by have := uh HNL; omega
        obtain ⟨nb, no, rfl, hpn, hcn, -⟩ := uh HNC j hlk
        obtain ⟨mb, mo, rfl, hpm, hcm, -⟩ := uh HNC2 j hlt
        have en : wr.cell? ⟨nb, no + j, none⟩ = some (.string k.names[j]) := by rw [hbw.cell (uh HP nb hpn)]; exact hcn
        have em : wr.cell? ⟨mb, mo + j, none⟩ = some (.string t.names[j]) := by rw [hbw.cell (uh HQ mb hpm)]; exact hcm
        have HBW2 := hH hbw
        by_cases hne : k.names[j] = t.names[j]
        · rw [hne] at en
          have HE2 : Hid (∀ x, x < j + 1 → (h1 : x < k.names.length) → (h2 : x < t.names.length) → k.names[x] = t.names[x]) := fun x hx h1 h2 => by
           by_cases e : x = j
           · subst e; exact hne
           · exact uh HE x (by omega) h1 h2
          generalize t.names[j] = nm at *
          clear hcn hcm hpn hpm hbw hne q0 q1 HBW2
          go_wp2_with fail
          go_region
          all_goals
           go_wp2_with fail
           go_roundw
           case rel => exact ⟨j + 1, by omega, by go_num, uh HE2, HB.out.drew⟩
           case measure => simp [intOf]; omega
        · have hf : hT t k = false := by
           rw [hT_eq]
           have : k.names ≠ t.names := names_ne hlk hlt hne
           simp [this]
          have HF := hH hf
          have hnb : (k.names[j].toList == t.names[j].toList) = false := by rw [lst_beq]; exact decide_eq_false hne
          generalize t.names[j] = nm at *
          generalize k.names[j] = nm2 at *
          clear hcn hcm hpn hpm hbw q0 q1 hf
          go_wp2_with fail
          go_region
          all_goals
           go_wp2_with fail
           go_ret
           exact ⟨by rw [uh HF]; rfl, (uh HBW2).drew⟩
      · obtain rfl : j = t.names.length := by omega
        have hne : k.names = t.names := names_eq (uh HNL) (fun x h1 h2 => uh HE x h2 h1 h2)
        have hh : hT t k = hK t.kids k 0 := by rw [hT_eq]; simp [hne, uh HS]
        have HH := hH hh; have HNE := hH hne; have HBW2 := hH hbw
        clear q0 q1 hbw hh hne
        go_wp2_with fail
        go_loopw [6] (fun i wx => ∃ (j : Nat), j ≤ t.kids.length ∧ i = .int .i64 j ∧ Hid (hT t k = hK (t.kids.drop j) k j) ∧ Hid (Below W0.heap.size W0 wx)) (fun i _ => t.kids.length - (intOf i).toNat)
        case atStart => exact ⟨0, Nat.zero_le _, rfl, uh HH, HB.out⟩
        case round =>
         clear t3 t4 k1 HE HB HBW2
         obtain ⟨j, hj, rfl, HH2, HB⟩ := hrel
         have q0 := (uh HRK).of_block (HB.out.block w.heap.size (by omega))
         have q1 := (uh HRT).of_block (HB.out.block (w.heap.size + 1) (by omega))
         have k0 := q0.cell (i := 0) (by omega); have k2 := q0.cell (i := 2) (by omega); have t4 := q1.cell (i := 4) (by omega)
         have k0a := fun ob => (q0.alloc ob).cell (i := 0) (by omega); have k2a := fun ob => (q0.alloc ob).cell (i := 2) (by omega); have t4a := fun ob => (q1.alloc ob).cell (i := 4) (by omega)
         simp only [row3, row5] at k0 k2 t4 k0a k2a t4a
         have hbw := (uh HBW).trans (HB.out.mono (by omega))
         by_cases hlt : j < t.kids.length
         · obtain ⟨hk0, hk5⟩ := kid_at (uh HOK).1 (uh HOT).1 (uh HS) (uh HNE) hlt
           obtain ⟨zb, zo, zc, rfl, hpz, hcz, hrz⟩ := uh HK 0 hk0
           obtain ⟨mb, mo, mc, rfl, hpm, hcm, hrm⟩ := uh HK2 j hlt
           have hcz' := hcz.carry (hbw.block zb (uh HP zb hpz))
           have hba : ∀ ob, Below w.heap.size w (wr.alloc ob) := fun ob => hbw.alloc hbw.size ob
           have hcm' := fun ob => hcm.carry ((hba ob).block mb (uh HQ mb hpm))
           obtain ⟨z0, z1, z2⟩ := zc
           obtain ⟨m0, m1, m2, m3, m4⟩ := mc
           obtain ⟨f0, -, ⟨a9, cap9, f1, -⟩, b9, cbp9, f2, -⟩ := hrz.open
           obtain ⟨r0, r1, r2, -, -, -, ⟨aa, capa, r3, -⟩, ab, capb, r4, -⟩ := hrm.open
           simp only at f0 f1 f2 r0 r1 r2 r3 r4
           subst f0 f1 f2 r0 r1 r2 r3 r4
           obtain ⟨y0, y1, y2⟩ := hcz'
           have x0 := fun ob => (hcm' ob).1; have x1 := fun ob => (hcm' ob).2.1; have x2 := fun ob => (hcm' ob).2.2.1; have x3 := fun ob => (hcm' ob).2.2.2.1; have x4 := fun ob => (hcm' ob).2.2.2.2
           simp only [Nat.zero_mul, Nat.add_zero] at y0 y1 y2 x0 x1 x2 x3 x4
           clear hcm'
           have HBW2 := hH hbw
           have hsm : tsz t.kids[j] < n := by have := tsz_kid (List.getElem_mem hlt); omega
           by_cases h5 : t.sort = 5
           · have hkj := hk5 ((uh HS).trans h5)
             have hd5 : (t.sort == 5) = true := by rw [h5]; rfl
             obtain ⟨vb, vo, vc, ev, hpv, hcv, hrv⟩ := uh HK j hkj
             simp only [Option.some.injEq, Addr.mk.injEq, and_true] at ev
             obtain ⟨rfl, rfl⟩ := ev
             have hcv' := fun ob => hcv.carry ((hba ob).block zb (uh HP zb hpz))
             obtain ⟨v0, v1, v2⟩ := vc
             obtain ⟨f0, -, ⟨ac, capc, f1, -⟩, ad, capd, f2, -⟩ := hrv.open
             simp only at f0 f1 f2
             subst f0 f1 f2
             have u0 := fun ob => (hcv' ob).1; have u1 := fun ob => (hcv' ob).2.1; have u2 := fun ob => (hcv' ob).2.2
             simp only at u0 u1 u2
             clear hcv'
             have hcall : ∀ ob, Calls Tryz.prog 20 #[.agg #[.int .i64 k.kids[j].sort, .slice ac k.kids[j].names.length capc, .slice ad k.kids[j].kids.length capd], .agg #[.int .i64 t.kids[j].sort, .int .i64 t.kids[j].num, .string t.kids[j].text, .slice aa t.kids[j].names.length capa, .slice ab t.kids[j].kids.length capb]] (wr.alloc ob).drew fun e w6 => e = .returned (.bool (hT t.kids[j] (kidOf k j))) ∧ Below wr.heap.size wr w6 := fun ob => by
              rw [kidOf_form ((uh HS).trans h5) hkj]
              exact (uh HI t.kids[j] hsm _ P Q ⟨_, _, _⟩ ⟨_, _, _, _, _⟩ (wr.alloc ob).drew (fun b hb => Nat.lt_of_lt_of_le (uh HP b hb) (hba ob).drew.size) (fun b hb => Nat.lt_of_lt_of_le (uh HQ b hb) (hba ob).drew.size) (KRep.carry (w' := (wr.alloc ob).drew) (fun b hb => (hba ob).drew.block b (uh HP b hb)) (fun _ h => h) _ _ hrv) (Rep.carry (w' := (wr.alloc ob).drew) (fun b hb => (hba ob).drew.block b (uh HQ b hb)) (fun _ h => h) _ _ hrm) (okDs_get (uh HOK).2 j hkj) (okHs_get (uh HOT).2 j hlt)).mono
               fun e w' ⟨h1, h2⟩ => ⟨h1, (((Below.refl wr.heap.size wr).alloc (Nat.le_refl _) ob).drew).trans (h2.mono (((Below.refl wr.heap.size wr).alloc (Nat.le_refl _) ob).drew).size)⟩
             have hst := hK_step hlt k
             cases hv : hT t.kids[j] (kidOf k j)
             · rw [hv] at hcall hst
               have HF := hH ((uh HH2).trans hst)
               have HCALL := hH hcall
               clear hcz hcm hbw q0 q1 hcv hrv hrm hrz hba hcall hst hv hpz hpm hpv hsm h5
               go_wp2_with fail
               go_region_with (go_at_call 20; refine (uh HCALL _).mono ?_; rintro e w6 ⟨rfl, hb6⟩)
               all_goals
                go_wp2_with fail
                go_ret
                exact ⟨by rw [uh HF]; rfl, (uh HBW2).trans (hb6.mono (uh HBW2).size)⟩
             · rw [hv] at hcall hst
               have HF : Hid (hT t k = hK (t.kids.drop (j + 1)) k (j + 1)) := by
                show _ = _
                rw [uh HH2, hst, Bool.true_and]
               have HCALL := hH hcall
               clear hcz hcm hbw q0 q1 hcv hrv hrm hrz hba hcall hst hv hpz hpm hpv hsm h5
               go_wp2_with fail
               go_region_with (go_at_call 20; refine (uh HCALL _).mono ?_; rintro e w6 ⟨rfl, hb6⟩)
               all_goals
                have hb7 : Below W0.heap.size W0 w6 := HB.out.trans (hb6.mono HB.out.size)
                go_wp2_with fail
                go_roundw
                case rel => exact ⟨j + 1, by omega, by go_num, uh HF, hb7⟩
                case measure => simp [intOf]; omega
           · have hcall : ∀ ob, Calls Tryz.prog 20 #[.agg #[.int .i64 k.kids[0].sort, .slice a9 k.kids[0].names.length cap9, .slice b9 k.kids[0].kids.length cbp9], .agg #[.int .i64 t.kids[j].sort, .int .i64 t.kids[j].num, .string t.kids[j].text, .slice aa t.kids[j].names.length capa, .slice ab t.kids[j].kids.length capb]] (wr.alloc ob).drew fun e w6 => e = .returned (.bool (hT t.kids[j] (kidOf k j))) ∧ Below wr.heap.size wr w6 := fun ob => by
              rw [kidOf_else (fun h => h5 ((uh HS).symm.trans h)) j hk0]
              exact (uh HI t.kids[j] hsm _ P Q ⟨_, _, _⟩ ⟨_, _, _, _, _⟩ (wr.alloc ob).drew (fun b hb => Nat.lt_of_lt_of_le (uh HP b hb) (hba ob).drew.size) (fun b hb => Nat.lt_of_lt_of_le (uh HQ b hb) (hba ob).drew.size) (KRep.carry (w' := (wr.alloc ob).drew) (fun b hb => (hba ob).drew.block b (uh HP b hb)) (fun _ h => h) _ _ hrz) (Rep.carry (w' := (wr.alloc ob).drew) (fun b hb => (hba ob).drew.block b (uh HQ b hb)) (fun _ h => h) _ _ hrm) (okDs_get (uh HOK).2 0 hk0) (okHs_get (uh HOT).2 j hlt)).mono
               fun e w' ⟨h1, h2⟩ => ⟨h1, (((Below.refl wr.heap.size wr).alloc (Nat.le_refl _) ob).drew).trans (h2.mono (((Below.refl wr.heap.size wr).alloc (Nat.le_refl _) ob).drew).size)⟩
             have hst := hK_step hlt k
             cases hv : hT t.kids[j] (kidOf k j)
             · rw [hv] at hcall hst
               have HF := hH ((uh HH2).trans hst)
               have HCALL := hH hcall
               clear hcz hcm hbw q0 q1 hrm hrz hba hcall hst hv hpz hpm hsm
               go_wp2_with fail
               go_region_with (go_at_call 20; refine (uh HCALL _).mono ?_; rintro e w6 ⟨rfl, hb6⟩)
               all_goals
                go_wp2_with fail
                go_ret
                exact ⟨by rw [uh HF]; rfl, (uh HBW2).trans (hb6.mono (uh HBW2).size)⟩
             · rw [hv] at hcall hst
               have HF : Hid (hT t k = hK (t.kids.drop (j + 1)) k (j + 1)) := by
                show _ = _
                rw [uh HH2, hst, Bool.true_and]
               have HCALL := hH hcall
               clear hcz hcm hbw q0 q1 hrm hrz hba hcall hst hv hpz hpm hsm
               go_wp2_with fail
               go_region_with (go_at_call 20; refine (uh HCALL _).mono ?_; rintro e w6 ⟨rfl, hb6⟩)
               all_goals
                have hb7 : Below W0.heap.size W0 w6 := HB.out.trans (hb6.mono HB.out.size)
                go_wp2_with fail
                go_roundw
                case rel => exact ⟨j + 1, by omega, by go_num, uh HF, hb7⟩
                case measure => simp [intOf]; omega
         · obtain rfl : j = t.kids.length := by omega
           have hf : hT t k = true := by rw [uh HH2, hK_done]
           have HF := hH hf
           clear q0 q1 hf
           go_wp2_with fail
           go_ret
           exact ⟨by rw [uh HF]; rfl, hbw⟩
   · have hf : hT t k = false := by
      rw [hT_eq]
      have : k.names ≠ t.names := fun e => hnl (by rw [e])
      simp [this]
     rw [hf]
     have HB0 := hH hbl0
     clear hP hQ IH hks hks2 hnc hnc2 hok hot hrep hrep2 hbl0 hf
     go_enter Tryz.func20, Tryz.ntmps20
     go_wp2_with fail
     go_ret
     exact ⟨rfl, uh HB0 _ _⟩
 · have hf : hT t k = false := by rw [hT_eq]; simp [hs]
   rw [hf]
   have HB0 := hH hbl0
   clear hP hQ IH hks hks2 hnc hnc2 hok hot hrep hrep2 hbl0 hf
   go_enter Tryz.func20, Tryz.ntmps20
   go_wp2_with fail
   go_ret
   exact ⟨rfl, uh HB0 _ _⟩
theorem l2Has_all : ∀ n, HasSaid n
 | 0 => fun t h => by omega
 | n + 1 => l2Has_step n (l2Has_all n)
end Go.Proofs.YtccnehcpmkgbhaaGreatDoor

namespace Go.Proofs.YtccnehcpmkgbhaaGreatDoor
open Go Go.RowKit
theorem l1TextOk_any (s : ByteArray) (w : World) (hs : s.size ≤ 9223372036854775807) :
 Calls Tryz.prog 97 #[.string s] w fun e w' => e = .returned (.bool (textOkB s)) ∧ w' = w := by
 by_cases h60 : 60 < s.size
 · go_enter Tryz.func97, Tryz.ntmps97
   go_wp2_with fail
   go_ret
   exact ⟨by simp [textOkB]; omega, rfl⟩
 · go_enter Tryz.func97, Tryz.ntmps97
   go_wp2_with fail
   go_loop [3] (fun i => ∃ k : Nat, k ≤ s.size ∧ i = .int .i64 k ∧ Hid (allTo textByte s k)) (fun i => s.size - (intOf i).toNat)
   case atStart => exact ⟨0, Nat.zero_le _, rfl, fun j hj => by omega⟩
   case round =>
    obtain ⟨k, hk, rfl, HA⟩ := hrel
    by_cases hlt : k < s.size
    · have hc : s[k].toNat < 32 ∨ 126 < s[k].toNat ∨ s[k].toNat = 34 ∨ (32 ≤ s[k].toNat ∧ s[k].toNat ≤ 126 ∧ s[k].toNat ≠ 34) := by omega
      rcases hc with hc | hc | hc | hc
      · go_wp2_with fail
        go_ret
        exact ⟨ret_bool (textOk_not hlt (textByte_no (Or.inl hc))).symm, rfl⟩
      · go_wp2_with fail
        go_ret
        exact ⟨ret_bool (textOk_not hlt (textByte_no (Or.inr (Or.inl hc)))).symm, rfl⟩
      · have HC := hH (textOk_not hlt (textByte_no (Or.inr (Or.inr hc))))
        go_wp2_with fail
        go_ret
        exact ⟨ret_bool (uh HC).symm, rfl⟩
      · have HN := hH (allTo_succ HA.out hlt (textByte_yes hc))
        obtain ⟨hc1, hc2, hc3⟩ := hc
        have hb34 : ((s[k].toNat : Int) == 34) = false := by simp; omega
        go_wp2_with fail
        go_round
        case rel => exact ⟨k + 1, by omega, by go_num, HN⟩
        case measure => simp [intOf]; omega
    · go_wp2_with fail
      go_ret
      obtain rfl : k = s.size := by omega
      exact ⟨ret_bool (textOk_yes (by omega) HA.out).symm, rfl⟩
end Go.Proofs.YtccnehcpmkgbhaaGreatDoor

namespace Go.Proofs.YtccnehcpmkgbhaaGreatDoor
open Go Go.RowKit
theorem l1Alone_1 (t : Tr) (P : Nat → Prop) (c : C5) (w : World) (hP : ∀ b, P b → b < w.heap.size) (hrep : Rep P w t c) (hs : t.sort = 1) :
 Calls Tryz.prog 72 #[.agg #[c.c0, c.c1, c.c2, c.c3, c.c4]] w fun e w' => e = .returned (.bool (aloneB t)) ∧ Below w.heap.size w w' := by
 obtain ⟨c0, c1, c2, c3, c4⟩ := c
 obtain ⟨e0, e1, e2, -, -, htx, hns, a, cap, e4, hlen, -⟩ := hrep.open
 simp only at e0 e1 e2 e4 hns
 have HN := hH hns
 obtain ⟨a3, cap3, e3, hl3, -⟩ := hns
 subst e0 e1 e2 e3 e4
 clear hrep
 have HP := hH hP; clear hP
 have hbx : ∀ o, Below w.heap.size w (w.alloc o) := fun o => (Below.refl _ _).alloc (Nat.le_refl _) o
 have HBX := hH hbx; clear hbx
 go_enter Tryz.func72, Tryz.ntmps72
 go_wp2_with (first
  | (go_at_call 70; refine (l6In_any _ _ _ _).mono ?_; rintro e w' ⟨rfl, rfl⟩)
  | (go_at_call 97; refine (l1TextOk_any _ _ htx).mono ?_; rintro e w' ⟨rfl, rfl⟩))
 all_goals
  go_ret
  refine ⟨ret_bool ?_, uh HBX _⟩
  try simp_all [aloneB]
 all_goals first | (rw [Bool.eq_iff_iff]; simp; done) | (intros; omega)
theorem l1Alone_2 (t : Tr) (P : Nat → Prop) (c : C5) (w : World) (hP : ∀ b, P b → b < w.heap.size) (hrep : Rep P w t c) (hs : t.sort = 2) :
 Calls Tryz.prog 72 #[.agg #[c.c0, c.c1, c.c2, c.c3, c.c4]] w fun e w' => e = .returned (.bool (aloneB t)) ∧ Below w.heap.size w w' := by
 obtain ⟨c0, c1, c2, c3, c4⟩ := c
 obtain ⟨e0, e1, e2, -, -, htx, hns, a, cap, e4, hlen, -⟩ := hrep.open
 simp only at e0 e1 e2 e4 hns
 have HN := hH hns
 obtain ⟨a3, cap3, e3, hl3, -⟩ := hns
 subst e0 e1 e2 e3 e4
 clear hrep
 have HP := hH hP; clear hP
 have hbx : ∀ o, Below w.heap.size w (w.alloc o) := fun o => (Below.refl _ _).alloc (Nat.le_refl _) o
 have HBX := hH hbx; clear hbx
 go_enter Tryz.func72, Tryz.ntmps72
 go_wp2_with (first
  | (go_at_call 70; refine (l6In_any _ _ _ _).mono ?_; rintro e w' ⟨rfl, rfl⟩)
  | (go_at_call 97; refine (l1TextOk_any _ _ htx).mono ?_; rintro e w' ⟨rfl, rfl⟩))
 all_goals
  go_ret
  refine ⟨ret_bool ?_, uh HBX _⟩
  try simp_all [aloneB]
 all_goals first | (rw [Bool.eq_iff_iff]; simp; done) | (intros; omega)
theorem l1Alone_3 (t : Tr) (P : Nat → Prop) (c : C5) (w : World) (hP : ∀ b, P b → b < w.heap.size) (hrep : Rep P w t c) (hs : t.sort = 3) :
 Calls Tryz.prog 72 #[.agg #[c.c0, c.c1, c.c2, c.c3, c.c4]] w fun e w' => e = .returned (.bool (aloneB t)) ∧ Below w.heap.size w w' := by
 obtain ⟨c0, c1, c2, c3, c4⟩ := c
 obtain ⟨e0, e1, e2, -, -, htx, hns, a, cap, e4, hlen, -⟩ := hrep.open
 simp only at e0 e1 e2 e4 hns
 have HN := hH hns
 obtain ⟨a3, cap3, e3, hl3, -⟩ := hns
 subst e0 e1 e2 e3 e4
 clear hrep
 have HP := hH hP; clear hP
 have hbx : ∀ o, Below w.heap.size w (w.alloc o) := fun o => (Below.refl _ _).alloc (Nat.le_refl _) o
 have HBX := hH hbx; clear hbx
 go_enter Tryz.func72, Tryz.ntmps72
 go_wp2_with (first
  | (go_at_call 70; refine (l6In_any _ _ _ _).mono ?_; rintro e w' ⟨rfl, rfl⟩)
  | (go_at_call 97; refine (l1TextOk_any _ _ htx).mono ?_; rintro e w' ⟨rfl, rfl⟩))
 all_goals
  go_ret
  refine ⟨ret_bool ?_, uh HBX _⟩
  try simp_all [aloneB]
 all_goals first | (rw [Bool.eq_iff_iff]; simp; done) | (intros; omega)
theorem l1Alone_4 (t : Tr) (P : Nat → Prop) (c : C5) (w : World) (hP : ∀ b, P b → b < w.heap.size) (hrep : Rep P w t c) (hs : t.sort = 4) :
 Calls Tryz.prog 72 #[.agg #[c.c0, c.c1, c.c2, c.c3, c.c4]] w fun e w' => e = .returned (.bool (aloneB t)) ∧ Below w.heap.size w w' := by
 obtain ⟨c0, c1, c2, c3, c4⟩ := c
 obtain ⟨e0, e1, e2, -, -, htx, hns, a, cap, e4, hlen, -⟩ := hrep.open
 simp only at e0 e1 e2 e4 hns
 have HN := hH hns
 obtain ⟨a3, cap3, e3, hl3, -⟩ := hns
 subst e0 e1 e2 e3 e4
 clear hrep
 have HP := hH hP; clear hP
 have hbx : ∀ o, Below w.heap.size w (w.alloc o) := fun o => (Below.refl _ _).alloc (Nat.le_refl _) o
 have HBX := hH hbx; clear hbx
 go_enter Tryz.func72, Tryz.ntmps72
 go_wp2_with (first
  | (go_at_call 70; refine (l6In_any _ _ _ _).mono ?_; rintro e w' ⟨rfl, rfl⟩)
  | (go_at_call 97; refine (l1TextOk_any _ _ htx).mono ?_; rintro e w' ⟨rfl, rfl⟩))
 all_goals
  go_ret
  refine ⟨ret_bool ?_, uh HBX _⟩
  try simp_all [aloneB]
 all_goals first | (rw [Bool.eq_iff_iff]; simp; done) | (intros; omega)
theorem l1Alone_6 (t : Tr) (P : Nat → Prop) (c : C5) (w : World) (hP : ∀ b, P b → b < w.heap.size) (hrep : Rep P w t c) (hs : t.sort = 6) :
 Calls Tryz.prog 72 #[.agg #[c.c0, c.c1, c.c2, c.c3, c.c4]] w fun e w' => e = .returned (.bool (aloneB t)) ∧ Below w.heap.size w w' := by
 obtain ⟨c0, c1, c2, c3, c4⟩ := c
 obtain ⟨e0, e1, e2, -, -, htx, hns, a, cap, e4, hlen, -⟩ := hrep.open
 simp only at e0 e1 e2 e4 hns
 have HN := hH hns
 obtain ⟨a3, cap3, e3, hl3, -⟩ := hns
 subst e0 e1 e2 e3 e4
 clear hrep
 have HP := hH hP; clear hP
 have hbx : ∀ o, Below w.heap.size w (w.alloc o) := fun o => (Below.refl _ _).alloc (Nat.le_refl _) o
 have HBX := hH hbx; clear hbx
 go_enter Tryz.func72, Tryz.ntmps72
 go_wp2_with (first
  | (go_at_call 70; refine (l6In_any _ _ _ _).mono ?_; rintro e w' ⟨rfl, rfl⟩)
  | (go_at_call 97; refine (l1TextOk_any _ _ htx).mono ?_; rintro e w' ⟨rfl, rfl⟩))
 all_goals
  go_ret
  refine ⟨ret_bool ?_, uh HBX _⟩
  try simp_all [aloneB]
 all_goals first | (rw [Bool.eq_iff_iff]; simp; done) | (intros; omega)
theorem l1Alone_0 (t : Tr) (P : Nat → Prop) (c : C5) (w : World) (hP : ∀ b, P b → b < w.heap.size) (hrep : Rep P w t c) (h1 : t.sort ≠ 1) (h2 : t.sort ≠ 2) (h3 : t.sort ≠ 3) (h4 : t.sort ≠ 4) (h5 : t.sort ≠ 5) (h6 : t.sort ≠ 6) :
 Calls Tryz.prog 72 #[.agg #[c.c0, c.c1, c.c2, c.c3, c.c4]] w fun e w' => e = .returned (.bool (aloneB t)) ∧ Below w.heap.size w w' := by
 obtain ⟨c0, c1, c2, c3, c4⟩ := c
 obtain ⟨e0, e1, e2, -, -, htx, hns, a, cap, e4, hlen, -⟩ := hrep.open
 simp only at e0 e1 e2 e4 hns
 have HN := hH hns
 obtain ⟨a3, cap3, e3, hl3, -⟩ := hns
 subst e0 e1 e2 e3 e4
 clear hrep
 have HP := hH hP; clear hP
 have hbx : ∀ o, Below w.heap.size w (w.alloc o) := fun o => (Below.refl _ _).alloc (Nat.le_refl _) o
 have HBX := hH hbx; clear hbx
 go_enter Tryz.func72, Tryz.ntmps72
 go_wp2_with (first
  | (go_at_call 70; refine (l6In_any _ _ _ _).mono ?_; rintro e w' ⟨rfl, rfl⟩)
  | (go_at_call 97; refine (l1TextOk_any _ _ htx).mono ?_; rintro e w' ⟨rfl, rfl⟩))
 all_goals
  go_ret
  refine ⟨ret_bool ?_, uh HBX _⟩
  try simp_all [aloneB]
 all_goals first | (rw [Bool.eq_iff_iff]; simp; done) | (intros; omega)
theorem l1Alone_5 (t : Tr) (P : Nat → Prop) (c : C5) (w : World) (hP : ∀ b, P b → b < w.heap.size) (hrep : Rep P w t c) (hs : t.sort = 5) :
 Calls Tryz.prog 72 #[.agg #[c.c0, c.c1, c.c2, c.c3, c.c4]] w fun e w' => e = .returned (.bool (aloneB t)) ∧ Below w.heap.size w w' := by
 obtain ⟨c0, c1, c2, c3, c4⟩ := c
 obtain ⟨e0, e1, e2, -, -, htx, hns, a, cap, e4, hlen, -⟩ := hrep.open
 simp only at e0 e1 e2 e4 hns
 have HN := hH hns
 obtain ⟨a3, cap3, e3, hl3, -⟩ := hns
 subst e0 e1 e2 e3 e4
 clear hrep
 have HP := hH hP; clear hP
 have hbx : ∀ o, Below w.heap.size w (w.alloc o) := fun o => (Below.refl _ _).alloc (Nat.le_refl _) o
 have HBX := hH hbx; clear hbx
 have hcall : ∀ o, Calls Tryz.prog 71 #[.slice a3 t.names.length cap3] (w.alloc o) fun e w' => e = .returned (.bool (riseB t.names)) ∧ Below w.heap.size w w' := fun o =>
  (l1Rise_any _ t.names (w.alloc o) (P := P) (fun b hb => Nat.lt_of_lt_of_le (uh HP b hb) (uh HBX o).size) ((uh HN).carry (fun b hb => (uh HBX o).block b (uh HP b hb)) (fun _ h => h))).mono
    fun e w' ⟨h1, h2⟩ => ⟨h1, (uh HBX o).trans (h2.mono (uh HBX o).size)⟩
 have HC := hH hcall; clear hcall
 go_enter Tryz.func72, Tryz.ntmps72
 go_wp2_with (go_at_call 71; refine (uh HC _).mono ?_; rintro e w' ⟨rfl, hb'⟩)
 all_goals
  go_ret
  refine ⟨ret_bool ?_, by first | assumption | exact uh HBX _⟩
  try simp_all [aloneB]
 all_goals first | (rw [Bool.eq_iff_iff]; simp; done) | (intros; omega)
theorem l1Alone_any (t : Tr) (P : Nat → Prop) (c : C5) (w : World) (hP : ∀ b, P b → b < w.heap.size) (hrep : Rep P w t c) :
 Calls Tryz.prog 72 #[.agg #[c.c0, c.c1, c.c2, c.c3, c.c4]] w fun e w' => e = .returned (.bool (aloneB t)) ∧ Below w.heap.size w w' := by
 by_cases h1 : t.sort = 1
 · exact l1Alone_1 t P c w hP hrep h1
 by_cases h2 : t.sort = 2
 · exact l1Alone_2 t P c w hP hrep h2
 by_cases h3 : t.sort = 3
 · exact l1Alone_3 t P c w hP hrep h3
 by_cases h4 : t.sort = 4
 · exact l1Alone_4 t P c w hP hrep h4
 by_cases h5 : t.sort = 5
 · exact l1Alone_5 t P c w hP hrep h5
 by_cases h6 : t.sort = 6
 · exact l1Alone_6 t P c w hP hrep h6
 exact l1Alone_0 t P c w hP hrep h1 h2 h3 h4 h5 h6
end Go.Proofs.YtccnehcpmkgbhaaGreatDoor

namespace Go.Proofs.YtccnehcpmkgbhaaGreatDoor
open Go Go.RowKit
def PartsSaid (n : Nat) : Prop := ∀ (t : Tr), tsz t < n → ∀ (P : Nat → Prop) (c : C5) (d : Int) (w : World), (∀ b, P b → b < w.heap.size) → Rep P w t c → 1 ≤ d → d ≤ 7 →
    Calls Tryz.prog 46 #[.agg #[c.c0, c.c1, c.c2, c.c3, c.c4], .int .i64 d] w fun e w' => e = .returned (.int .i64 (pT t d)) ∧ Below w.heap.size w w'
theorem l1Parts_step (n : Nat) (IH : PartsSaid n) : PartsSaid (n + 1) := by
 intro t hn P c d w hP hrep hd0 hd1
 have HREP := hH hrep
 have HEQ := hH (pT_eq t d)
 obtain ⟨c0, c1, c2, c3, c4⟩ := c
 obtain ⟨e0, e1, e2, -, -, -, ⟨a3, cap3, e3, -, -⟩, a, cap, e4, hlen, hks⟩ := hrep.open
 simp only at e0 e1 e2 e3 e4
 subst e0 e1 e2 e3 e4
 have HP := hH hP; have HI := hH IH; have HK := hH hks
 clear hrep hP IH hks
 have hbx : ∀ o, Below w.heap.size w (w.alloc o) := fun o => (Below.refl _ _).alloc (Nat.le_refl _) o
 have HBX := hH hbx; clear hbx
 by_cases h6 : 6 < d
 · go_enter Tryz.func46, Tryz.ntmps46
   go_wp2_with fail
   go_ret
   refine ⟨?_, uh HBX _⟩
   rw [uh HEQ, if_pos (Or.inl h6)]
   rfl
 · have hal : ∀ o, Calls Tryz.prog 72 #[.agg #[.int .i64 t.sort, .int .i64 t.num, .string t.text, .slice a3 t.names.length cap3, .slice a t.kids.length cap]] (w.alloc o) fun e w' => e = .returned (.bool (aloneB t)) ∧ Below (w.alloc o).heap.size (w.alloc o) w' := fun o =>
    l1Alone_any t P ⟨_, _, _, _, _⟩ (w.alloc o) (fun b hb => Nat.lt_of_lt_of_le (uh HP b hb) (uh HBX o).size) (Rep.carry (fun b hb => (uh HBX o).block b (uh HP b hb)) (fun _ h => h) _ _ (uh HREP))
   have HAL := hH hal; clear hal
   by_cases ha : aloneB t = true
   · go_enter Tryz.func46, Tryz.ntmps46
     go_wp2_with (go_at_call 72; refine (uh HAL _).mono ?_; rintro e w' ⟨rfl, hb'⟩)
     obtain ⟨q0, -, hb0⟩ := box1 hb'
     have hpk : pT t d = pK t.kids d 1 := by rw [uh HEQ, if_neg (by simp [ha]; omega)]
     have HPK := hH hpk
     clear hb' hpk HEQ HAL
     generalize hks : t.kids = ks at *
     have HKS := hH hks; clear hks
     go_loopw [5, 6] (fun m i wr => ∃ (k : Nat) (q : Int), k ≤ ks.length ∧ i = .int .i64 k ∧ m = .int .i64 q ∧ 1 ≤ q ∧ q ≤ 120 ∧ Hid (pK (ks.drop k) d q = pK ks d 1) ∧ wr.cell? ⟨w.heap.size, 4, none⟩ = some (.slice a ks.length cap) ∧ w.heap.size < wr.heap.size ∧ Below w.heap.size w wr) (fun _ i _ => ks.length - (intOf i).toNat)
     case atStart => exact ⟨0, 1, Nat.zero_le _, rfl, rfl, by omega, by omega, rfl, q0.cell (i := 4) (by omega), q0.lt, hb0⟩
     case round =>
      obtain ⟨k, q, hk, rfl, rfl, hq0, hq1, HQ, hbox, hbs, hb⟩ := hrel
      by_cases hlt : k < ks.length
      · obtain ⟨b, o, c, rfl, hpb, hcell, hrep⟩ := uh HK k hlt
        have hcell' := hcell.carry (hb.block b (uh HP b hpb))
        obtain ⟨c0, c1, c2, c3, c4⟩ := c
        obtain ⟨e0, e1, e2, e3, e4⟩ := hcell'
        simp only at e0 e1 e2 e3 e4
        have hmem : ks[k] ∈ t.kids := by rw [uh HKS]; exact List.getElem_mem hlt
        have hsm : tsz ks[k] < n := by have := tsz_kid hmem; omega
        have hcall := uh HI ks[k] hsm P ⟨c0, c1, c2, c3, c4⟩ (d + 1) wr (fun b hb' => Nat.lt_of_lt_of_le (uh HP b hb') hb.size) (Rep.carry (fun b hb' => hb.block b (uh HP b hb')) (fun _ h => h) _ _ hrep) (by omega) (by omega)
        have hst := pK_step hlt d q
        have hbd := pT_bd ks[k] (d + 1)
        generalize pT ks[k] (d + 1) = r at hcall hst hbd
        have HCALL := hH hcall; have HST := hH hst
        clear hrep hcell hpb hmem hcall hst
        by_cases hbad : r < 0 ∨ 120 < q + r
        · have hfin : pT t d = -1 := by rw [uh HPK, ← HQ.out, uh HST, if_pos hbad]
          have HFIN := hH hfin; clear hfin
          rcases hbad with hbad | hbad
          · go_wp2_with (go_at_call 46; refine (uh HCALL).mono ?_; rintro e w2 ⟨rfl, hb2⟩)
            go_ret
            exact ⟨by rw [uh HFIN]; rfl, hb.trans (hb2.mono hb.size)⟩
          · have hr0 : 0 ≤ r := by omega
            go_wp2_with (go_at_call 46; refine (uh HCALL).mono ?_; rintro e w2 ⟨rfl, hb2⟩)
            go_ret
            exact ⟨by rw [uh HFIN]; rfl, hb.trans (hb2.mono hb.size)⟩
        · have hr0 : 0 ≤ r := by omega
          have hr1 : q + r ≤ 120 := by omega
          have hfin : pK (ks.drop (k + 1)) d (q + r) = pK ks d 1 := by rw [← HQ.out, uh HST, if_neg hbad]
          have HFIN := hH hfin
          clear hfin hbad
          go_wp2_with (go_at_call 46; refine (uh HCALL).mono ?_; rintro e w2 ⟨rfl, hb2⟩)
          go_roundw
          case rel => exact ⟨k + 1, _, by omega, by go_num, rfl, by omega, by omega, uh HFIN, by rw [hb2.cell hbs]; exact hbox, Nat.lt_of_lt_of_le hbs hb2.size, hb.trans (hb2.mono hb.size)⟩
          case measure => simp [intOf]; omega
      · go_wp2_with fail
        go_ret
        refine ⟨?_, hb⟩
        rw [uh HPK, ← HQ.out, List.drop_of_length_le (by omega), pK]
        rfl
   · have ha' : aloneB t = false := by simpa using ha
     clear ha
     go_enter Tryz.func46, Tryz.ntmps46
     go_wp2_with (go_at_call 72; refine (uh HAL _).mono ?_; rintro e w' ⟨rfl, hb'⟩)
     go_ret
     refine ⟨?_, (box1 hb').2.2⟩
     rw [uh HEQ, if_pos (Or.inr ha')]
     rfl
theorem l1Parts_all : ∀ n, PartsSaid n
 | 0 => fun t h => by omega
 | n + 1 => l1Parts_step n (l1Parts_all n)
theorem specTreeOk_any (t : Tr) (P : Nat → Prop) (c : C5) (w : World) (hP : ∀ b, P b → b < w.heap.size) (hrep : Rep P w t c) :
 Calls Tryz.prog 19 #[.agg #[c.c0, c.c1, c.c2, c.c3, c.c4]] w fun e w' => e = .returned (.bool (decide (0 < pT t 1))) ∧ Below w.heap.size w w' := by
 have hbx : ∀ o, Below w.heap.size w (w.alloc o) := fun o => (Below.refl _ _).alloc (Nat.le_refl _) o
 have hcall : ∀ o, Calls Tryz.prog 46 #[.agg #[c.c0, c.c1, c.c2, c.c3, c.c4], .int .i64 1] (w.alloc o) fun e w' => e = .returned (.int .i64 (pT t 1)) ∧ Below w.heap.size w w' := fun o =>
  (l1Parts_all (tsz t + 1) t (by omega) P c 1 (w.alloc o) (fun b hb => Nat.lt_of_lt_of_le (hP b hb) (hbx o).size) (Rep.carry (fun b hb => (hbx o).block b (hP b hb)) (fun _ h => h) _ _ hrep) (by omega) (by omega)).mono
    fun e w' ⟨h1, h2⟩ => ⟨h1, (hbx o).trans (h2.mono (hbx o).size)⟩
 generalize pT t 1 = r at *
 have HCALL := hH hcall
 clear hbx hcall hP hrep
 go_enter Tryz.func19, Tryz.ntmps19
 go_wp2_with (go_at_call 46; refine (uh HCALL _).mono ?_; rintro e w2 ⟨rfl, hb2⟩)
 go_ret
 exact ⟨rfl, hb2⟩
end Go.Proofs.YtccnehcpmkgbhaaGreatDoor
