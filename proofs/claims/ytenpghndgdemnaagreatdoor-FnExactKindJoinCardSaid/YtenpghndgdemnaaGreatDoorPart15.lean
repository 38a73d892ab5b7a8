/- The walk of the program's KindOk: it answers as the specification does. No conditions but the schema's weight, at most 2^20. -/
import Derived.Test.YtenpghndgdemnaaGreatDoorPart03
import Derived.Test.YtenpghndgdemnaaGreatDoorPart14
import Derived.Test.YtenpghndgdemnaaGreatDoorPart07
import Derived.Test.YtenpghndgdemnaaGreatDoorPart12
import Derived.Test.YtenpghndgdemnaaGreatDoorPart10
import Derived.Test.YtenpghndgdemnaaGreatDoorRows
import Derived.Test.YtenpghndgdemnaaGreatDoorPart01
import Derived.Deep.OwnRows
import Derived.Deep.RegionWith
import Derived.Test.YtenpghndgdemnaaGreatDoorPart02
import Derived.BigQuiet
import Derived.Deep.QuietTactic
import Derived.Deep.CutRange
namespace Go.Proofs.YtenpghndgdemnaaGreatDoor
open Go Go.RowKit Go.Shelf

attribute [local go_sem] Oper.semAt_some

theorem Kept.setCell {n₀ : Nat} {S : Nat → Prop} (W : World) (p : Addr) (v : Value) (hS : S p.block) (hn : n₀ ≤ p.block) : Kept n₀ S W (W.setCell p v) :=
  ⟨(Below.refl _ W).setCell hn _, fun k o hk ho _ => (Below.heap_setCell _ _ _ _ (fun e => hk (by rw [e]; exact hS))).trans ho⟩

set_option maxRecDepth 100000 in
set_option maxHeartbeats 2000000 in
theorem implKindOk_any (t : Kd) (P : Nat → Prop) (c : C3) (w : World) (hP : ∀ b, P b → b < w.heap.size) (hrep : KRep P w t c) (hwt : wKd t ≤ 1048576) :
    Calls Tryz.prog 26 #[.agg #[c.c0, c.c1, c.c2]] w fun e w' => e = .returned (.bool (decide (0 < qT t 1))) ∧ Below w.heap.size w w' := by
  obtain ⟨c0, c1, c2⟩ := c
  have hrep' : KRep (fun b => b < w.heap.size) w t ⟨c0, c1, c2⟩ := KRep.carry (fun _ _ => rfl) hP _ _ hrep
  obtain ⟨e0, -, ⟨a3, cap3, e1, hl3, -⟩, a, cap, e2, hlen, -⟩ := hrep.open
  simp only at e0 e1 e2
  subst e0 e1 e2
  have HREP := hide hrep'
  clear hrep hrep' hP
  have hksz : ksz t ≤ 1152921504606846970 := by have := ksz_w t; omega
  refine (callsIn_wide (n := 8)).1 ?_
  refine callsIn_of_wp_marks Tryz.func26 rfl trivial ?_ rfl
  simp only [Tryz.ntmps26, List.size_toArray, List.length_cons, List.length_nil, Nat.reduceAdd, Nat.reduceSub, Array.replicate_succ, Array.replicate_zero, List.push_toArray, List.append_toArray, List.nil_append, List.cons_append]
  gi_wp2_with ((try refine ⟨trivial, ?_⟩); gi_at_call 57; refine (walk_in Fence.wide _ trivial rfl _ _ _ _ _ _).mono ?_; rintro e w' ⟨rfl, rfl⟩)
  obtain ⟨W0, hW0⟩ : ∃ W0, ((((w.alloc (.cells #[.int .i64 t.sort, .slice a3 t.names.length cap3, .slice a t.kids.length cap] 26)).alloc (.cells #[.bool false] 4)).alloc (.cells #[.int .i64 0] 3)).alloc (.cells #[.int .i64 t.sort, .slice a3 t.names.length cap3, .slice a t.kids.length cap] 26)) = W0 := ⟨_, rfl⟩
  have hsz : W0.heap.size = w.heap.size + 4 := by rw [← hW0]; simp
  have hB0 : Below w.heap.size w W0 := by rw [← hW0]; exact ((((Below.refl _ w).alloc (Nat.le_refl _) _).alloc (by simp) _).alloc (by simp; omega) _).alloc (by simp; omega) _
  have hbr : Boxed W0 (w.heap.size + 1) 4 (.bool false) := by
    rw [← hW0]
    have := (Boxed.new (w.alloc (.cells #[.int .i64 t.sort, .slice a3 t.names.length cap3, .slice a t.kids.length cap] 26)) 4 (.bool false))
    rw [World.size_alloc] at this
    exact (this.alloc _).alloc _
  have hbp : Boxed W0 (w.heap.size + 1 + 1) 3 (.int .i64 0) := by
    rw [← hW0]
    have := (Boxed.new ((w.alloc (.cells #[.int .i64 t.sort, .slice a3 t.names.length cap3, .slice a t.kids.length cap] 26)).alloc (.cells #[.bool false] 4)) 3 (.int .i64 0))
    rw [World.size_alloc, World.size_alloc] at this
    exact this.alloc _
  have hbt : C3.at W0 (w.heap.size + 1 + 1 + 1) 0 ⟨.int .i64 t.sort, .slice a3 t.names.length cap3, .slice a t.kids.length cap⟩ := by
    rw [← hW0]
    have q := row3_alloc (((w.alloc (.cells #[.int .i64 t.sort, .slice a3 t.names.length cap3, .slice a t.kids.length cap] 26)).alloc (.cells #[.bool false] 4)).alloc (.cells #[.int .i64 0] 3)) (.int .i64 t.sort) (.slice a3 t.names.length cap3) (.slice a t.kids.length cap) 26
    rw [World.size_alloc, World.size_alloc, World.size_alloc] at q
    exact ⟨q.cell (i := 0) (by omega), q.cell (i := 1) (by omega), q.cell (i := 2) (by omega)⟩
  rw [hW0]
  clear hW0
  refine wpIn_rangeFunc_ownH (α := KX w.heap.size w) (encs := kEnc) (Kp := Kept w.heap.size (fun k => k = w.heap.size + 1 ∨ k = w.heap.size + 1 + 1)) (S := fun ys => ys.map kKey = pord t 1) (Sp := fun pre => pre.map kKey <+: pord t 1) (N := (pord t 1).length) (w0 := W0) rfl (by omega)
    (gf := 79) (lb := #[.pointer (some ⟨w.heap.size + 1 + 1 + 1, 0, none⟩)]) rfl trivial (enters_of Tryz.func79 (by kernel_rfl) rfl)
    (fun l J Jx W hW hJ hJx hY h0 => walk1_in Fence.wide rfl _ trivial trivial trivial rfl l (w.heap.size + 1 + 1 + 1) w.heap.size (w.heap.size + 4) _ w (Nat.le_refl _) t _ (unhide HREP) hksz J Jx (fun s A B hs hg => hJ s A B none hs hg (fun r e => by cases e)) (fun k hk => by omega) hY W (hbt.carry (hW.block _ (by omega))) (hB0.trans (hW.mono hB0.size)) (by have := hW.size; omega) h0)
    Kept.trans (Kept.putObj (by omega)) (Below.refl _ _) (fun _ => rfl)
    (fun pre W => (pre.map kKey).all gdB = true ∧ pre.length ≤ 40 ∧ (Boxed W (w.heap.size + 1) 4 (.bool false) ∧ Boxed W (w.heap.size + 1 + 1) 3 (.int .i64 pre.length)) ∧ Below w.heap.size w W)
    (fun c pre W => c = .ret ∧ ((pre.map kKey).all gdB = false ∨ 40 < pre.length) ∧ Boxed W (w.heap.size + 1) 4 (.bool false) ∧ Below w.heap.size w W)
    ?hI ?hIx ?h0
    (fun x a' W => ∃ Bx, w.heap.size + 1 + 1 < Bx ∧ C3.at W Bx 0 x.1.2.2 ∧ a' = { tmps := #[.agg #[.int .i64 t.sort, .slice a3 t.names.length cap3, .slice a t.kids.length cap], .pointer (some ⟨w.heap.size, 0, none⟩), .pointer (some ⟨w.heap.size + 1, 0, none⟩), .pointer (some ⟨w.heap.size + 1 + 1, 0, none⟩), .int .i64 x.1.1, .pointer (some ⟨Bx, 0, none⟩), .agg #[.int .i64 t.sort, .slice a3 t.names.length cap3, .slice a t.kids.length cap], .func (.func 79) #[] #[.pointer (some ⟨w.heap.size + 1 + 1 + 1, 0, none⟩)], .int .i64 x.1.1, .agg #[x.1.2.2.c0, x.1.2.2.c1, x.1.2.2.c2], undef, undef, undef, undef, undef, undef, undef, undef, undef, undef, undef, undef, undef], defers := [] })
    ?hAx ?assign ?body ?done ?stop
  case hI =>
    exact fun s W W' row hs hg hr => ⟨hs.1, hs.2.1, ⟨boxed_own _ _ (fun _ => .bool false) s W W' row hs.2.2.1.1 hg (fun r e => (hr r e).2), boxed_own _ _ (fun pre : List (KX w.heap.size w) => .int .i64 pre.length) s W W' row hs.2.2.1.2 hg (fun r e => (hr r e).2)⟩, ownFrom_below (Nat.le_refl _) (by omega) s W W' row hs.2.2.2 hg hr⟩
  case hIx =>
    exact fun c s W W' row hs hg hr => ⟨hs.1, hs.2.1, boxed_own _ _ (fun _ => .bool false) s W W' row hs.2.2.1 hg (fun r e => (hr r e).2), ownFrom_below (Nat.le_refl _) (by omega) s W W' row hs.2.2.2 hg hr⟩
  case h0 => exact ⟨by simp, by simp, ⟨hbr, by simpa using hbp⟩, hB0⟩
  case hAx =>
    rintro x a' s W W' row ⟨Bx, hBx, ⟨f0, f1, f2⟩, rfl⟩ hg hr
    exact ⟨Bx, hBx, ⟨cell_kept f0 hg (fun r e => (hr r e).2), cell_kept f1 hg (fun r e => (hr r e).2), cell_kept f2 hg (fun r e => (hr r e).2)⟩, rfl⟩
  case assign =>
    rintro l pre ⟨⟨lv, T, ⟨d0, d1, d2⟩⟩, hx⟩ W K hi hK
    obtain ⟨g0, -, ⟨a5, cap5, g1, -⟩, a6, cap6, g2, -⟩ := hx.open
    simp only at g0 g1 g2
    subst g0 g1 g2
    have HK := hide hK; have HI := hide hi
    clear hK hi
    simp only [kEnc]
    gi_wp2
    obtain ⟨h1, h2, ⟨h3, h4⟩, h5⟩ := unhide HI
    have q := row3_alloc W (.int .i64 T.sort) (.slice a5 T.names.length cap5) (.slice a6 T.kids.length cap6) 26
    exact unhide HK _ _ ((KeepsOthers.alloc _ _).from _) (Kept.grown (World.grownBy_alloc _ _ none) h5.size) ⟨h1, h2, ⟨h3.alloc _, h4.alloc _⟩, h5.alloc h5.size _⟩ ⟨W.heap.size, h4.lt, ⟨q.cell (i := 0) (by omega), q.cell (i := 1) (by omega), q.cell (i := 2) (by omega)⟩, rfl⟩
  case body =>
    rintro l pre x a' W hl - ⟨hall, h40, ⟨hbr', hbp'⟩, hB⟩ ⟨Bx, hBx, hat, rfl⟩ hlt
    have hx := x.2
    have hk : kKey x = (x.1.1, x.1.2.1) := rfl
    obtain ⟨lv, T, d0, d1, d2, hxe⟩ : ∃ lv T d0 d1 d2, x.1 = (lv, T, ⟨d0, d1, d2⟩) := by obtain ⟨⟨lv, T, ⟨d0, d1, d2⟩⟩, _⟩ := x; exact ⟨_, _, _, _, _, rfl⟩
    rw [hxe] at hx
    simp only [hxe] at hk hat ⊢
    obtain ⟨g0, -, ⟨a5, cap5, g1, -⟩, a6, cap6, g2, -⟩ := hx.open
    simp only at g0 g1 g2
    clear hxe
    subst g0 g1 g2
    obtain ⟨f0, f1, f2⟩ := hat
    simp only at f0 f1 f2
    have p0 := hbp'.cell
    have p1 := hbp'.frozen
    have r0 := hbr'.cell
    have r1 := hbr'.frozen
    have hB1 : ∀ v, Below w.heap.size w (W.setCell ⟨w.heap.size + 1 + 1, 0, none⟩ v) := fun v => hB.setCell (by simp; omega) _
    have hcall : ∀ v, Calls Tryz.prog 58 #[.agg #[.int .i64 T.sort, .slice a5 T.names.length cap5, .slice a6 T.kids.length cap6]] (W.setCell ⟨w.heap.size + 1 + 1, 0, none⟩ v) fun e w' => e = .returned (.bool (shB T)) ∧ ∃ o, w' = (W.setCell ⟨w.heap.size + 1 + 1, 0, none⟩ v).alloc o := fun v =>
      kindShaped_any T (fun b => b < w.heap.size) ⟨_, _, _⟩ _ (fun b hb => Nat.lt_of_lt_of_le hb (hB1 v).size) (KRep.carry (fun b hb => (hB1 v).block b hb) (fun _ h => h) _ _ hx)
    have HCALL := hide hcall; have HB := hide hB; have HBR := hide hbr'; have HBP := hide hbp'; have HALL := hide hall
    have HK := hide hk
    clear hcall hB1 hB hbr' hbp' hall hx hk
    have hkp : ∀ v, Kept w.heap.size (fun k => k = w.heap.size + 1 ∨ k = w.heap.size + 1 + 1) W (W.setCell ⟨w.heap.size + 1 + 1, 0, none⟩ v) := fun v => Kept.setCell W _ _ (Or.inr rfl) (by simp; omega)
    have HKP := hide hkp; clear hkp
    have hbr2 : ∀ v o, Boxed ((W.setCell ⟨w.heap.size + 1 + 1, 0, none⟩ v).alloc o) (w.heap.size + 1) 4 (.bool false) := fun v o => ((unhide HBR).other (by omega) v).alloc o
    have r2 : ∀ v o, ((W.setCell ⟨w.heap.size + 1 + 1, 0, none⟩ v).alloc o).cell? ⟨w.heap.size + 1, 0, none⟩ = some (.bool false) := fun v o => (hbr2 v o).cell
    have r3 : ∀ v o, ((W.setCell ⟨w.heap.size + 1 + 1, 0, none⟩ v).alloc o).frozen? ⟨w.heap.size + 1, 0, none⟩ = false := fun v o => (hbr2 v o).frozen
    have HBR2 := hide hbr2; clear hbr2
    have hnx : (((pre ++ [x]).length : Nat) : Int) = (pre.length : Int) + 1 := by simp
    have HNX := hide hnx; clear hnx
    by_cases hp : 40 < pre.length + 1
    · have b1 : decide ((40 : Int) < (pre.length : Int) + 1) = true := by simp; omega
      gi_wp2_with fail
      refine ⟨trivial, ?_⟩
      gi_wp2_with fail
      refine ⟨((KeepsOthers.setCell _ _ _).trans (KeepsOthers.setCell _ _ _)).from _, rfl, Or.inr (by simp; omega), ?_, ?_⟩
      · exact ((unhide HBR).other (by omega) _).set _
      · exact ((unhide HB).setCell (by simp; omega) _).setCell (by simp) _
    · have b1 : decide ((40 : Int) < (pre.length : Int) + 1) = false := by simp; omega
      by_cases h6 : 6 < lv
      · have hbad : ((pre ++ [x]).map kKey).all gdB = false := by
          rw [List.map_append, List.all_append]
          simp [unhide HK, gdB]; omega
        have HBAD := hide hbad; clear hbad
        gi_wp2_with fail
        refine ⟨trivial, ?_⟩
        gi_wp2_with fail
        refine ⟨((KeepsOthers.setCell _ _ _).trans (KeepsOthers.setCell _ _ _)).from _, rfl, Or.inl (unhide HBAD), ?_, ?_⟩
        · exact ((unhide HBR).other (by omega) _).set _
        · exact ((unhide HB).setCell (by simp; omega) _).setCell (by simp) _
      · cases hsh : shB T
        · have hbad : ((pre ++ [x]).map kKey).all gdB = false := by
            rw [List.map_append, List.all_append]
            simp [unhide HK, gdB, hsh]
          have HBAD := hide hbad; clear hbad
          rw [hsh] at HCALL
          gi_wp2_with ((try refine ⟨trivial, ?_⟩); gi_at_call 58; refine (CallsIn.inRound l (callsIn_wide.2 (unhide HCALL _))).mono ?_; rintro e w' ⟨rfl, o, rfl⟩)
          refine ⟨(((KeepsOthers.setCell _ _ _).trans (KeepsOthers.alloc _ _)).trans (KeepsOthers.setCell _ _ _)).from _, rfl, Or.inl (unhide HBAD), ?_, ?_⟩
          · exact (unhide HBR2 _ _).set _
          · exact (((unhide HB).setCell (by simp; omega) _).alloc (by have := (unhide HB).size; simp [World.setCell]; omega) _).setCell (by simp) _
        · have hgood : ((pre ++ [x]).map kKey).all gdB = true := by
            rw [List.map_append, List.all_append, unhide HALL]
            simp [unhide HK, gdB, hsh]; omega
          have HGOOD := hide hgood; clear hgood
          rw [hsh] at HCALL
          gi_wp2_with ((try refine ⟨trivial, ?_⟩); gi_at_call 58; refine (CallsIn.inRound l (callsIn_wide.2 (unhide HCALL _))).mono ?_; rintro e w' ⟨rfl, o, rfl⟩)
          have hsw := (unhide HB).size
          refine ⟨((KeepsOthers.setCell _ _ _).trans (KeepsOthers.alloc _ _)).from _, (unhide HKP _).trans (Kept.grown (World.grownBy_alloc _ _ none) (by simp [World.setCell]; omega)), unhide HGOOD, by simp; omega, ⟨unhide HBR2 _ _, ?_⟩, ?_⟩
          · rw [unhide HNX]; exact ((unhide HBP).set _).alloc _
          · exact ((unhide HB).setCell (by simp; omega) _).alloc (by simp [World.setCell]; omega) _
  case done =>
    rintro D ys W hD hS ⟨hall, h40, ⟨hbr', -⟩, hB⟩ hK
    have hans : decide (0 < qT t 1) = true := by
      rw [qT_start, ← hS, hall]
      simp; omega
    have r0 := hbr'.cell
    have r1 := hbr'.frozen
    gi_wp2_with fail
    have hK' := (KeepsOthers.setCell W ⟨w.heap.size + 1, 0, none⟩ (.bool true)).same D _ hK rfl
    refine ⟨by simp, .inl ⟨_, _, rfl, run_takeDeferred hK', ?_⟩⟩
    have hc5 := cell_kept (hbr'.set (.bool true)).cell (grownBy_putObj' _ D (.deferred none)) (fun r e => by cases e; exact ⟨_, hK', rfl⟩)
    refine ⟨.bool true, ?_, by rw [hans], (hB.setCell (p := ⟨w.heap.size + 1, 0, none⟩) (by simp) _).trans (belowK_b (w := w) (Nat.le_refl _) _ D _ _ (by omega) hK' rfl rfl)⟩
    simp [results, Tryz.results26, go_sem, hc5]
  case stop =>
    rintro D c pre W hD hpre ⟨rfl, hbad, hbr', hB⟩ hK
    have hans : decide (0 < qT t 1) = false := by
      rw [qT_start]
      rcases hbad with h | h
      · have : (pord t 1).all gdB = false := by
          obtain ⟨r, hr⟩ := hpre
          rw [← hr, List.all_append, h]; rfl
        rw [this]; rfl
      · have := hpre.length_le
        simp only [List.length_map] at this
        simp; intro _; omega
    gi_wp2_with fail
    refine ⟨by simp, .inl ⟨_, _, rfl, run_takeDeferred hK, ?_⟩⟩
    have hc5 := cell_kept hbr'.cell (grownBy_putObj' _ D (.deferred none)) (fun r e => by cases e; exact ⟨_, hK, rfl⟩)
    refine ⟨.bool false, ?_, by rw [hans], hB.trans (belowK_b (w := w) (Nat.le_refl _) W D _ _ (by omega) hK rfl rfl)⟩
    simp [results, Tryz.results26, go_sem, hc5]

end Go.Proofs.YtenpghndgdemnaaGreatDoor

/- The walks of the specification's KindFirst and of the program's: both give the first tree of a schema that is ok, and else the zero tree, in blocks of its own. Of what was there nothing has turned. -/

namespace Go.Proofs.YtenpghndgdemnaaGreatDoor
open Go Go.RowKit

theorem boxes {w w1 : World} {a b : Obj} (h : Below ((w.alloc a).alloc b).heap.size ((w.alloc a).alloc b) w1) : Below w.heap.size w w1 ∧ w.heap.size + 2 ≤ w1.heap.size := by
  have h1 := h.size
  refine ⟨(((Below.refl w.heap.size w).alloc (Nat.le_refl _) a).alloc (by simp) b).trans (h.mono (by simp; omega)), by simp at h1; omega⟩

end Go.Proofs.YtenpghndgdemnaaGreatDoor

/- For the law on KindFirst: how many marks its trees and schemas take, and what its world holds between the calls. Definitions and small laws; no program walked, no conditions. -/

namespace Go.Proofs.YtenpghndgdemnaaGreatDoor
open Go Go.RowKit

mutual
theorem kcT_le : ∀ t : Kd, kcT t ≤ wKd t + 1
  | .mk s ns ks => by
    rw [kcT, wKd]
    have := wS_len ns; have := kcK_le ks
    omega
theorem kcK_le : ∀ l : List Kd, kcK l ≤ wKs l
  | [] => by rw [kcK]; omega
  | t :: r => by
    rw [kcK, wKs]
    have := kcT_le t; have := kcK_le r
    omega
end
theorem kd_marks {t : Kd} (h : wKd t ≤ 1048576) : 1 + t.names.length + kcK t.kids ≤ 1099511627776 := by
  have := kcT_le t; rw [kcT_eq] at this; omega

end Go.Proofs.YtenpghndgdemnaaGreatDoor

/- The walks of szStringS, toStringS, eqStringS: what they answer, and that they turn nothing that was there. No conditions but toStringS's on the number of strings. -/

namespace Go.Proofs.YtenpghndgdemnaaGreatDoor
open Go Go.RowKit

set_option maxHeartbeats 400000 in
theorem szStringS_any (v : Value) (ss : List ByteArray) (left : Int) (w : World) {P : Nat → Prop} (hv : StrsAt P w v ss) (h0 : 0 ≤ left) (h1 : left ≤ 1048576) :
    Calls Tryz.prog 30 #[v, .int .i64 left] w fun e w' => ∃ r : Int, e = .returned (.int .i64 r) ∧ (r = -1 ∨ (0 ≤ r ∧ r + wS ss = left)) ∧ w' = w := by
  obtain ⟨a, cap, rfl, hlen, hc⟩ := hv
  have HC := hide hc; clear hc
  by_cases hneg : left - ss.length < 0
  · go_enter Tryz.func30, Tryz.ntmps30
    go_wp2
    go_ret
    exact ⟨_, rfl, Or.inl rfl, rfl⟩
  · go_enter Tryz.func30, Tryz.ntmps30
    go_wp2
    go_loop [1, 5] (fun l i => ∃ (k : Nat) (q : Int), k ≤ ss.length ∧ i = .int .i64 k ∧ l = .int .i64 q ∧ 0 ≤ q ∧ q ≤ 1048576 ∧ Hid (q + ss.length + wS (ss.take k) = left + k)) (fun _ i => ss.length - (intOf i).toNat)
    case atStart => exact ⟨0, _, Nat.zero_le _, rfl, rfl, by omega, by omega, by simp [Hid, wS]⟩
    case round =>
      obtain ⟨k, q, hk, rfl, rfl, hq0, hq1, HQ⟩ := hrel
      by_cases hlt : k < ss.length
      · obtain ⟨b, o, rfl, _, hcell, hsz⟩ := unhide HC k hlt
        have hts := wS_take ss k hlt
        have HT := hide hts; clear hts
        by_cases hn : q - ss[k].size < 0
        · go_wp2
          go_ret
          exact ⟨_, rfl, Or.inl rfl, rfl⟩
        · go_wp2
          go_round
          case rel => exact ⟨k + 1, _, by omega, by go_num, rfl, by omega, by omega, by have := HQ.out; have := unhide HT; show _ = _; omega⟩
          case measure => simp [intOf]; omega
      · go_wp2
        go_ret
        refine ⟨_, rfl, Or.inr ⟨hq0, ?_⟩, rfl⟩
        have := HQ.out
        rw [List.take_of_length_le (by omega)] at this
        omega


end Go.Proofs.YtenpghndgdemnaaGreatDoor

/- The walks of toKind, toKindS: they make a new copy of a schema, and turn nothing that was there. No conditions but the schema's weight, at most 2^20. -/

namespace Go.Proofs.YtenpghndgdemnaaGreatDoor
open Go Go.RowKit

/-- The three zero cells of a schema. -/
def z3 : Array Value := #[.int .i64 0, .slice none 0 0, .slice none 0 0]

theorem infoKind : (Tryz.prog.info? 26).map (fun i => (i.zero, i.size, i.bytes)) = some (some (.agg z3), 3, 56) := by kernel_rfl

theorem run_make_kind (n : Nat) (h : n ≤ 1048576) (w : World) :
    (Instr.makeSlice 24 (.int .i64 (n : Int)) (.int .i64 (n : Int))).run Tryz.prog w = .ok (.slice (some ⟨w.heap.size, 0, none⟩) n n) (w.alloc (.cells (madeCells z3 (n * 3)) 26)) := by
  obtain ⟨i, hi, he⟩ : ∃ i, Tryz.prog.info? 26 = some i ∧ (i.zero, i.size, i.bytes) = (some (.agg z3), 3, 56) := by
    have := infoKind
    cases h : Tryz.prog.info? 26 with
    | none => rw [h] at this; simp at this
    | some i => rw [h] at this; exact ⟨i, rfl, by simpa using this⟩
  simp only [Prod.mk.injEq] at he
  obtain ⟨e1, e2, e3⟩ := he
  have := run_make (P := Tryz.prog) w 24 26 i (.agg z3) Tryz.underlying24 hi e1 .i64 .i64 n n (by omega) (by omega) (by rw [e3]; omega) (by omega)
  rw [this, e2]
  simp [Value.cells]

theorem heap_set3 (w : World) (b o : Nat) (c0 c1 c2 : Value) (k : Nat) (h : k ≠ b) :
    (((w.setCell ⟨b, o, none⟩ c0).setCell ⟨b, o + 1, none⟩ c1).setCell ⟨b, o + 2, none⟩ c2).heap[k]? = w.heap[k]? := by
  rw [Below.heap_setCell _ _ _ _ h, Below.heap_setCell _ _ _ _ h, Below.heap_setCell _ _ _ _ h]

theorem heap_set4 (w : World) (b b2 : Nat) (v c0 c1 c2 : Value) (k : Nat) (h : k ≠ b) (h2 : k ≠ b2) :
    ((((w.setCell ⟨b2, 2, none⟩ v).setCell ⟨b, 0, none⟩ c0).setCell ⟨b, 1, none⟩ c1).setCell ⟨b, 2, none⟩ c2).heap[k]? = w.heap[k]? := by
  rw [Below.heap_setCell _ _ _ _ h, Below.heap_setCell _ _ _ _ h, Below.heap_setCell _ _ _ _ h, Below.heap_setCell _ _ _ _ h2]

end Go.Proofs.YtenpghndgdemnaaGreatDoor

/- The walk of toStringS once more: the copy lies in new blocks of which nothing is frozen. No conditions but the number of strings, at most 2^20. -/

namespace Go.Proofs.YtenpghndgdemnaaGreatDoor
open Go Go.RowKit

/-- In blocks that are new between two worlds, and of which nothing is frozen. -/
def NewF (w w' : World) : Nat → Prop := fun b => New w w' b ∧ FreeB w' b

set_option maxHeartbeats 400000 in
theorem toStringS_free (v : Value) (ss : List ByteArray) (w : World) {P : Nat → Prop} (hP : ∀ b, P b → b < w.heap.size) (hv : StrsAt P w v ss) (h1 : ss.length ≤ 1048576) :
    Calls Tryz.prog 32 #[v] w fun e w' => ∃ v', e = .returned v' ∧ (∃ a, v' = .slice a ss.length ss.length) ∧ StrsAt (NewF w w') w' v' ss ∧ Below w.heap.size w w' := by
  obtain ⟨a, cap, rfl, hlen, hc⟩ := hv
  have HC := hide hc; have HP := hide hP; clear hc hP
  have hmk := run_make_row' (P := Tryz.prog) 23 9 (.string ByteArray.empty) 16 Tryz.underlying23 infoString rfl .i64 .i64 ss.length (by omega) (by omega)
  go_enter Tryz.func32, Tryz.ntmps32
  go_wp2_with fail
  clear hmk
  go_loopw [4] (fun i wr => ∃ (k : Nat), k ≤ ss.length ∧ i = .int .i64 k ∧ Hid (wr.rowIs w.heap.size 9 ss.length (fun j => .string (if j < k then (ss[j]?).getD ByteArray.empty else ByteArray.empty))) ∧ Below w.heap.size w wr) (fun i _ => ss.length - (intOf i).toNat)
  case atStart => exact ⟨0, Nat.zero_le _, rfl, hide (by simpa using World.rowIs_made w (.string ByteArray.empty) ss.length _), (Below.refl _ _).alloc (Nat.le_refl _) _⟩
  case round =>
    obtain ⟨k, hk, rfl, HR, hb⟩ := hrel
    by_cases hlt : k < ss.length
    · obtain ⟨b, o, rfl, hpb, hcell, hsz⟩ := unhide HC k hlt
      have hcell' : wr.cell? ⟨b, o + k, none⟩ = some (.string ss[k]) := by rw [hb.cell (unhide HP b hpb)]; exact hcell
      have hf := HR.out.frozen k
      have hcc := HR.out.cell hlt
      simp only [Nat.lt_irrefl, if_false] at hcc
      clear hcell hpb
      go_wp2_with fail
      go_roundw
      case rel =>
        refine ⟨k + 1, by omega, by go_num, ?_, hb.setCell (Nat.le_refl _) _⟩
        refine (HR.out.set k _).congr fun i hi => ?_
        by_cases e : i = k
        · subst e; simp [hi]
        · simp only [if_neg e]
          by_cases e2 : i < k
          · rw [if_pos e2, if_pos (by omega)]
          · rw [if_neg e2, if_neg (by omega)]
      case measure => simp [intOf]; omega
    · go_wp2_with fail
      go_ret
      have hrow := HR.out
      refine ⟨_, rfl, ⟨_, rfl⟩, ⟨_, _, rfl, by omega, fun i hi => ⟨w.heap.size, 0, rfl, ⟨⟨Nat.le_refl _, hrow.lt⟩, fun o => hrow.frozen o⟩, ?_, ?_⟩⟩, hb⟩
      · rw [Nat.zero_add, hrow.cell hi, if_pos (by omega)]; simp [hi]
      · obtain ⟨_, _, _, _, _, h⟩ := unhide HC i hi; exact h

end Go.Proofs.YtenpghndgdemnaaGreatDoor

/- The walks of toKind, toKindS once more: the copy that they make lies in new blocks of which nothing is frozen. No conditions but the schema's weight, at most 2^20. -/

namespace Go.Proofs.YtenpghndgdemnaaGreatDoor
open Go Go.RowKit

def ToFSaid (n : Nat) : Prop := ∀ (t : Kd), ksz t < n → ∀ (P : Nat → Prop) (c : C3) (w : World), (∀ b, P b → b < w.heap.size) → KRep P w t c → wKd t ≤ 1048576 →
    Calls Tryz.prog 13 #[.agg #[c.c0, c.c1, c.c2]] w fun e w' => ∃ c' : C3, e = .returned (.agg #[c'.c0, c'.c1, c'.c2]) ∧ KRep (NewF w w') w' t c' ∧ Below w.heap.size w w'

/-- What the loop of toKindS has laid after k rounds: the row, and the schemas that its first cells are. -/
def FLaid (w wr : World) (ks : List Kd) (k : Nat) : Prop :=
  ∃ f, wr.rowIs w.heap.size 26 (ks.length * 3) f ∧ ∀ j, j < k → (hj : j < ks.length) → ∃ c : C3, f (j * 3) = c.c0 ∧ f (j * 3 + 1) = c.c1 ∧ f (j * 3 + 2) = c.c2 ∧
    KRep (fun b => (w.heap.size + 1 ≤ b ∧ b < wr.heap.size) ∧ FreeB wr b) wr ks[j] c

theorem FLaid.step {w wr w' : World} {ks : List Kd} {k : Nat} (hlt : k < ks.length) (hL : FLaid w wr ks k) (hb' : Below wr.heap.size wr w') (c : C3) (hr : KRep (NewF wr w') w' ks[k] c) :
    FLaid w (((w'.setCell ⟨w.heap.size, k * 3, none⟩ c.c0).setCell ⟨w.heap.size, k * 3 + 1, none⟩ c.c1).setCell ⟨w.heap.size, k * 3 + 2, none⟩ c.c2) ks (k + 1) := by
  obtain ⟨f, hrow, hf⟩ := hL
  have hlt0 := hrow.lt
  have hrow' := hrow.of_block (hb'.block _ hrow.lt)
  have hs := hb'.size
  refine ⟨_, ((hrow'.set (k * 3) c.c0).set (k * 3 + 1) c.c1).set (k * 3 + 2) c.c2, fun j hj hjl => ?_⟩
  by_cases e : j = k
  · subst e
    refine ⟨c, by simp, by simp, by simp, ?_⟩
    refine KRep.carry (fun b hb => heap_set3 _ _ _ _ _ _ _ (by have := hb.1.1; omega)) (fun b hb => ⟨?_, hb.2.of_block (heap_set3 _ _ _ _ _ _ _ (by have := hb.1.1; omega))⟩) _ _ hr
    simp only [size_setCell]
    have := hb.1.1; have := hb.1.2
    omega
  · obtain ⟨d, g0, g1, g2, hd⟩ := hf j (by omega) hjl
    refine ⟨d, ?_, ?_, ?_, ?_⟩
    · repeat rw [if_neg (by omega)]
      exact g0
    · repeat rw [if_neg (by omega)]
      exact g1
    · repeat rw [if_neg (by omega)]
      exact g2
    · refine KRep.carry (fun b hb => ?_) (fun b hb => ?_) _ _ hd
      · rw [heap_set3 _ _ _ _ _ _ _ (by omega), hb'.block b hb.1.2]
      · exact ⟨by simp only [size_setCell]; omega, hb.2.of_block (by rw [heap_set3 _ _ _ _ _ _ _ (by omega), hb'.block b hb.1.2])⟩

theorem FLaid.done {w wr : World} {ks : List Kd} (hL : FLaid w wr ks ks.length) : NewF w wr w.heap.size ∧ KRepK (NewF w wr) wr w.heap.size 0 ks := by
  obtain ⟨f, hrow, hf⟩ := hL
  refine ⟨⟨⟨Nat.le_refl _, hrow.lt⟩, fun o => hrow.frozen o⟩, KRepK.mk fun i hi => ?_⟩
  obtain ⟨d, g0, g1, g2, hd⟩ := hf i hi hi
  refine ⟨d, ?_, KRep.carry (fun _ _ => rfl) (fun b hb => ⟨⟨by omega, hb.1.2⟩, hb.2⟩) _ _ hd⟩
  simp only [Nat.zero_add, C3.at]
  rw [hrow.cell (i := i * 3) (by omega), hrow.cell (i := i * 3 + 1) (by omega), hrow.cell (i := i * 3 + 2) (by omega), g0, g1, g2]
  exact ⟨rfl, rfl, rfl⟩

set_option maxHeartbeats 400000 in
theorem toKindS_free (n : Nat) (IH : ToFSaid n) (t : Kd) (hn : ksz t ≤ n) (P : Nat → Prop) (a : Option Addr) (cap : Nat) (w : World) (hP : ∀ b, P b → b < w.heap.size)
    (hlen : t.kids.length ≤ 1048576) (hwt : wKs t.kids ≤ 1048576)
    (hc : ∀ i, (hi : i < t.kids.length) → ∃ b o c, a = some ⟨b, o, none⟩ ∧ P b ∧ C3.at w b (o + i * 3) c ∧ KRep P w t.kids[i] c) :
    Calls Tryz.prog 33 #[.slice a t.kids.length cap] w fun e w' => ∃ b, e = .returned (.slice (some ⟨b, 0, none⟩) t.kids.length t.kids.length) ∧ NewF w w' b ∧ KRepK (NewF w w') w' b 0 t.kids ∧ Below w.heap.size w w' := by
  generalize hks : t.kids = ks at *
  have HK := hide hks; clear hks
  have HC := hide hc; clear hc
  have HP := hide hP; clear hP
  have HI := hide IH; clear IH
  have HW := hide hwt; clear hwt
  have hmk := run_make_kind ks.length hlen
  go_enter Tryz.func33, Tryz.ntmps33
  go_wp2_with fail
  clear hmk
  go_loopw [4] (fun i wr => ∃ (k : Nat), k ≤ ks.length ∧ i = .int .i64 k ∧ Hid (FLaid w wr ks k) ∧ Below w.heap.size w wr) (fun i _ => ks.length - (intOf i).toNat)
  case atStart =>
    have hrow := World.rowIs_alloc w (madeCells z3 (ks.length * 3)) 26 (fun i => (madeCells z3 (ks.length * 3))[i]?.getD undef) (fun i hi => by simp [hi])
    rw [size_madeCells] at hrow
    exact ⟨0, Nat.zero_le _, rfl, hide ⟨_, hrow, fun j hj => by omega⟩, (Below.refl _ _).alloc (Nat.le_refl _) _⟩
  case round =>
    obtain ⟨k, hk, rfl, HL, hb⟩ := hrel
    by_cases hlt : k < ks.length
    · obtain ⟨b, o, c, rfl, hpb, hcell, hrep⟩ := unhide HC k hlt
      have hcell' := hcell.carry (hb.block b (unhide HP b hpb))
      obtain ⟨c0, c1, c2⟩ := c
      obtain ⟨e0, e1, e2⟩ := hcell'
      simp only at e0 e1 e2
      have HR := hide hrep; clear hrep hcell hpb
      have hmem : ks[k] ∈ t.kids := by rw [unhide HK]; exact List.getElem_mem hlt
      have hsm : ksz ks[k] < n := by have := ksz_kid hmem; omega
      have hwk : wKd ks[k] ≤ 1048576 := by have := wKs_mem (List.getElem_mem hlt); have := unhide HW; omega
      clear hmem
      go_wp2_with fail
      refine (unhide HI ks[k] hsm P ⟨c0, c1, c2⟩ wr (fun b hb' => Nat.lt_of_lt_of_le (unhide HP b hb') hb.size) (KRep.carry (fun b hb' => hb.block b (unhide HP b hb')) (fun _ h => h) _ _ (unhide HR)) hwk).mono ?_
      rintro e w' ⟨⟨d0, d1, d2⟩, rfl, hr, hb'⟩
      clear e0 e1 e2
      obtain ⟨f, hrow, hf⟩ := HL.out
      have hrow' := hrow.of_block (hb'.block _ hrow.lt)
      have HR' := hide hr; have HB' := hide hb'
      have z0 := hrow'.frozen (k * 3)
      have z1 := hrow'.frozen (k * 3 + 1)
      have z2 := hrow'.frozen (k * 3 + 2)
      have y0 := hrow'.cell (i := k * 3) (by omega)
      have y1 := hrow'.cell (i := k * 3 + 1) (by omega)
      have y2 := hrow'.cell (i := k * 3 + 2) (by omega)
      obtain ⟨g0, -, ⟨a3, cap3, g3, -⟩, a4, cap4, g4, -⟩ := hr.open
      simp only at g0 g3 g4
      subst g0 g3 g4
      clear hf hrow hrow' hr hb'
      go_wp2_with fail
      go_roundw
      case rel =>
        have hst := FLaid.step hlt HL.out HB'.out _ HR'.out
        have hb3 := hb.trans (HB'.out.mono hb.size)
        refine ⟨k + 1, by omega, by go_num, hst, ?_⟩
        exact ((hb3.setCell (Nat.le_refl _) _).setCell (Nat.le_refl _) _).setCell (Nat.le_refl _) _
      case measure => simp [intOf]; omega
    · go_wp2_with fail
      go_ret
      obtain rfl : k = ks.length := by omega
      exact ⟨w.heap.size, rfl, HL.out.done.1, HL.out.done.2, hb⟩

set_option maxHeartbeats 400000 in
theorem toKindF_step (n : Nat) (IH : ToFSaid n) : ToFSaid (n + 1) := by
  intro t hn P c w hP hrep hwt
  obtain ⟨c0, c1, c2⟩ := c
  obtain ⟨e0, hi0, hns, a, cap, e4, hlen, hks⟩ := hrep.open
  simp only at e0 e4 hns
  subst e0 e4
  have hw : wKd t = wS t.names + wKs t.kids := by obtain ⟨s, ns, ks⟩ := t; rfl
  have hl1 := wS_len t.names
  have hl2 := wKs_len t.kids
  have hnl : t.names.length ≤ 1048576 := by omega
  have hkl : t.kids.length ≤ 1048576 := by omega
  have hkw : wKs t.kids ≤ 1048576 := by omega
  clear hl1 hl2 hw hwt
  have HP := hide hP; have HK := hide hks; have HN := hide hns; have HI := hide IH; have H0 := hide hi0; have HKW := hide hkw
  clear hP hks hns IH hrep hi0 hkw
  have hbx : ∀ o o2 o3, Below w.heap.size w (((w.alloc o).alloc o2).alloc o3) := fun o o2 o3 => (((Below.refl _ _).alloc (Nat.le_refl _) o).alloc (by simp) o2).alloc (by simp; omega) o3
  have HBX := hide hbx; clear hbx
  go_enter Tryz.func13, Tryz.ntmps13
  go_wp2_with fail
  refine (toStringS_free c1 t.names _ (P := P) (fun b hb => Nat.lt_of_lt_of_le (unhide HP b hb) (unhide HBX _ _ _).size) ((unhide HN).carry (fun b hb => (unhide HBX _ _ _).block b (unhide HP b hb)) (fun _ h => h)) hnl).mono ?_
  rintro e w1 ⟨v', rfl, ⟨a', rfl⟩, hs, hb1⟩
  obtain ⟨q0, q1, q2, hsz1, hb01⟩ := kbox3 hb1
  have k0 := q0.cell (i := 2) (by omega)
  have f2 := q2.frozen 1
  have k2 := q2.cell (i := 1) (by omega)
  simp only [row3] at k0 k2
  have HS := hide hs; have HB1 := hide hb01; have Q1 := hide q1; have Q2 := hide q2
  clear hs hb1 hb01 q0 q1 q2
  go_wp2_with fail
  have q2 := (unhide Q2).set 1 (.slice a' t.names.length t.names.length)
  have q1 := (unhide Q1).setOther (a := ⟨w.heap.size + 1 + 1, 1, none⟩) (by simp) (.slice a' t.names.length t.names.length)
  have hb2 := (unhide HB1).setCell (p := ⟨w.heap.size + 1 + 1, 1, none⟩) (by simp; omega) (.slice a' t.names.length t.names.length)
  refine (toKindS_free n (unhide HI) t (by omega) P a cap _ (fun b hb => Nat.lt_of_lt_of_le (unhide HP b hb) hb2.size) hkl (unhide HKW) (fun i hi => ?_)).mono ?_
  · obtain ⟨b, o, c, h1, h2, h3, h4⟩ := unhide HK i hi
    exact ⟨b, o, c, h1, h2, h3.carry (hb2.block b (unhide HP b h2)), KRep.carry (fun b hb => hb2.block b (unhide HP b hb)) (fun _ h => h) _ _ h4⟩
  rintro e w3 ⟨bk, rfl, hbk, hrk, hb3⟩
  have hsz2 : (w1.setCell ⟨w.heap.size + 1 + 1, 1, none⟩ (.slice a' t.names.length t.names.length)).heap.size = w1.heap.size := size_setCell _ _ _
  have p1 := q1.of_block (hb3.block _ (by omega))
  have p2 := q2.of_block (hb3.block _ (by omega))
  have hb03 := hb2.trans (hb3.mono hb2.size)
  have hblk : ∀ b, w.heap.size + 3 ≤ b → b < w1.heap.size → w3.heap[b]? = w1.heap[b]? := fun b h1 h2 => by
    rw [hb3.block b (by rw [hsz2]; exact h2), Below.heap_setCell _ _ _ _ (by simp; omega)]
  have hs3 : StrsAt (fun b => (w.heap.size + 3 ≤ b ∧ b < w1.heap.size) ∧ FreeB w3 b) w3 (.slice a' t.names.length t.names.length) t.names :=
    (unhide HS).carry (fun b hb => hblk b (by have := hb.1.1; simpa using this) hb.1.2) (fun b hb => ⟨⟨by have := hb.1.1; simpa using this, hb.1.2⟩, hb.2.of_block (hblk b (by have := hb.1.1; simpa using this) hb.1.2)⟩)
  have hk3 : KRepK (fun b => (w.heap.size + 3 ≤ b ∧ b < w3.heap.size) ∧ FreeB w3 b) w3 bk 0 t.kids :=
    KRepK.carry (fun _ _ => rfl) (fun b hb => ⟨⟨by have := hb.1.1; omega, hb.1.2⟩, hb.2⟩) _ _ rfl _ hrk
  have hbk3 : (w.heap.size + 3 ≤ bk ∧ bk < w3.heap.size) ∧ FreeB w3 bk := ⟨⟨by have := hbk.1.1; omega, hbk.1.2⟩, hbk.2⟩
  have hs13 : w1.heap.size ≤ w3.heap.size := by have := hb3.size; omega
  have a0 := p1.cell (i := 0) (by omega); have a1 := p1.cell (i := 1) (by omega); have a2 := p1.cell (i := 2) (by omega)
  have b0 := p2.cell (i := 0) (by omega); have b1 := p2.cell (i := 1) (by omega); have b2 := p2.cell (i := 2) (by omega)
  have fa := p1.frozen; have fb := p2.frozen
  simp [row3] at a0 a1 a2 b0 b1 b2
  clear q1 q2 hb2 hbk hrk hblk hb3 hsz2 p1 p2 k0 k2 f2 Q1 Q2 HB1 HS HN HI HK HP HBX HKW
  have HS3 := hide hs3; have HK3 := hide hk3; have HBK3 := hide hbk3; have HB03 := hide hb03; have HS13 := hide hs13
  clear hs3 hk3 hbk3 hb03 hs13
  go_wp2_with fail
  refine bodyPost_ret (v := .agg #[.int .i64 t.sort, .slice a' t.names.length t.names.length, .slice (some ⟨bk, 0, none⟩) t.kids.length t.kids.length]) (by simp [results, Tryz.results13, go_sem, a0, a1, a2]) rfl ⟨⟨_, _, _⟩, rfl, ?_, ?_⟩
  · refine KRep.make (unhide H0) ((unhide HS3).carry (fun b hb => ?_) (fun b hb => ?_)) hlen ?_ (KRepK.carry (P := fun b => (w.heap.size + 3 ≤ b ∧ b < w3.heap.size) ∧ FreeB w3 b) (fun b hb => ?_) (fun b hb => ?_) _ _ ?_ _ (unhide HK3))
    · exact heap_set4 _ _ _ _ _ _ _ _ (by omega) (by omega)
    · have := unhide HS13; exact ⟨⟨by omega, by simp only [size_setCell]; omega⟩, hb.2.of_block (heap_set4 _ _ _ _ _ _ _ _ (by omega) (by omega))⟩
    · have := (unhide HBK3).1; exact ⟨⟨by omega, by simp only [size_setCell]; omega⟩, (unhide HBK3).2.of_block (heap_set4 _ _ _ _ _ _ _ _ (by omega) (by omega))⟩
    · exact heap_set4 _ _ _ _ _ _ _ _ (by omega) (by omega)
    · exact ⟨⟨by omega, by simp only [size_setCell]; omega⟩, hb.2.of_block (heap_set4 _ _ _ _ _ _ _ _ (by omega) (by omega))⟩
    · have := (unhide HBK3).1; exact heap_set4 _ _ _ _ _ _ _ _ (by omega) (by omega)
  · exact ((((unhide HB03).setCell (by simp; omega) _).setCell (by simp) _).setCell (by simp) _).setCell (by simp) _

theorem toKindF_all : ∀ n, ToFSaid n
  | 0 => fun t h => by omega
  | n + 1 => toKindF_step n (toKindF_all n)

theorem toKind_free (t : Kd) (P : Nat → Prop) (c : C3) (w : World) (hP : ∀ b, P b → b < w.heap.size) (hrep : KRep P w t c) (hwt : wKd t ≤ 1048576) :
    Calls Tryz.prog 13 #[.agg #[c.c0, c.c1, c.c2]] w fun e w' => ∃ c' : C3, e = .returned (.agg #[c'.c0, c'.c1, c'.c2]) ∧ KRep (NewF w w') w' t c' ∧ Below w.heap.size w w' :=
  toKindF_all (ksz t + 1) t (by omega) P c w hP hrep hwt
end Go.Proofs.YtenpghndgdemnaaGreatDoor

/- What a tree is widened to, as a function on data. No program, no conditions. -/

namespace Go.Proofs.YtenpghndgdemnaaGreatDoor
open Go Go.RowKit

end Go.Proofs.YtenpghndgdemnaaGreatDoor

/- Two schemas that fit: what widening asks for, and the names of a form that another one fits into. No program, no conditions. -/

namespace Go.Proofs.YtenpghndgdemnaaGreatDoor
open Go Go.RowKit

theorem okD_sh {k : Kd} (h : okD k = true) : ((k.sort = 1 ∨ k.sort = 2 ∨ k.sort = 3) ∧ k.kids.length = 0 ∧ k.names.length = 0) ∨ ((k.sort = 4 ∨ k.sort = 6) ∧ k.kids.length = 1 ∧ k.names.length = 0) ∨ (k.sort = 5 ∧ k.kids.length = k.names.length ∧ riseB k.names = true) := by
  rw [okD_eq, Bool.and_eq_true] at h
  have h := h.1
  unfold shB at h
  split at h
  · exact Or.inl ⟨by assumption, of_decide_eq_true h⟩
  split at h
  · exact Or.inr (Or.inl ⟨by assumption, of_decide_eq_true h⟩)
  split at h
  · rw [Bool.and_eq_true] at h
    exact Or.inr (Or.inr ⟨by assumption, of_decide_eq_true h.1, h.2⟩)
  · cases h
theorem okD_kid {k : Kd} (h : okD k = true) (i : Nat) (hi : i < k.kids.length) : okD k.kids[i] = true := by
  rw [okD_eq, Bool.and_eq_true] at h
  exact okDs_get h.2 i hi
theorem okD_ne {k : Kd} (h : okD k = true) : k.sort ≠ 0 := by rcases okD_sh h with h | h | h <;> omega
theorem getD_kid {k : Kd} {i : Nat} (hi : i < k.kids.length) : k.kids.getD i kd0 = k.kids[i] := by simp [List.getD_eq_getElem?_getD, List.getElem?_eq_getElem hi]
theorem kidZ_none {k : Kd} {nm : ByteArray} (h : nm ∉ k.names) : kidZ k nm = kd0 := by
  unfold kidZ
  rw [kidN_none h]
  rfl
theorem kidZ_in {k : Kd} {nm : ByteArray} (h : okD k = true) (h5 : k.sort = 5) (hm : nm ∈ k.names) : kidZ k nm ∈ k.kids := by
  rcases okD_sh h with h' | h' | h'
  · omega
  · omega
  obtain ⟨i, hi, e⟩ := List.mem_iff_getElem.1 hm
  rw [kidZ_at (rise_pairs h'.2.2) h'.2.1 hi e]
  exact List.getElem_mem _
theorem okD_mem {k x : Kd} (h : okD k = true) (hx : x ∈ k.kids) : okD x = true := by
  obtain ⟨i, hi, rfl⟩ := List.mem_iff_getElem.1 hx
  exact okD_kid h i hi
theorem ksz_pos (k : Kd) : 0 < ksz k := by
  obtain ⟨s, ns, ks⟩ := k
  rw [ksz]
  omega
end Go.Proofs.YtenpghndgdemnaaGreatDoor

/- The walk of the specification's l3Fits at two schemas of one sort, name by name; KindFits whole. No conditions. -/

namespace Go.Proofs.YtenpghndgdemnaaGreatDoor
open Go Go.RowKit

end Go.Proofs.YtenpghndgdemnaaGreatDoor

/- What KindWiden answers, and the boxes of its arguments; no program walked, no conditions. -/

namespace Go.Proofs.YtenpghndgdemnaaGreatDoor
open Go Go.RowKit

end Go.Proofs.YtenpghndgdemnaaGreatDoor
