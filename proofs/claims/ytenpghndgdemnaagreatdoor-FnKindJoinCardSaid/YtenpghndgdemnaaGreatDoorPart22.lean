/- The walk of the program's KindOk: it answers as the specification does. No conditions but the schema's weight, at most 2^20. -/
import Derived.Test.YtenpghndgdemnaaGreatDoorPart13
import Derived.Test.YtenpghndgdemnaaGreatDoorPart21
import Derived.Test.YtenpghndgdemnaaGreatDoorPart03
import Derived.Test.YtenpghndgdemnaaGreatDoorPart01
import Derived.Test.YtenpghndgdemnaaGreatDoorRows
import Derived.Test.YtenpghndgdemnaaGreatDoorPart00
import Derived.Deep.OwnRows
import Derived.Deep.RegionWith
import Derived.Test.YtenpghndgdemnaaGreatDoorPart06
namespace Go.Proofs.YtenpghndgdemnaaGreatDoor
open Go Go.RowKit Go.Shelf

attribute [local go_sem] Oper.semAt_some

theorem Kept.setCell {n₀ : Nat} {S : Nat → Prop} (W : World) (p : Addr) (v : Value) (hS : S p.block) (hn : n₀ ≤ p.block) : Kept n₀ S W (W.setCell p v) :=
  ⟨(Below.refl _ W).setCell hn _, fun k o hk ho _ => (Below.heap_setCell _ _ _ _ (fun e => hk (by rw [e]; exact hS))).trans ho⟩

set_option maxRecDepth 100000 in
set_option maxHeartbeats 2000000 in
theorem implKindOk_any (t : Kd) (P : Nat → Prop) (c : C3) (w : World) (hP : ∀ b, P b → b < w.heap.size) (hrep : KRep P w t c) (hwt : wKd t ≤ 1048576) :
    Calls Tryz.prog 26 #[.agg #[c.c0, c.c1, c.c2]] w fun e w' => e = .returned (.bool (decide (0 < qT t 1))) ∧ Below w.heap.size w w' := by
  obtain ⟨c0, c1, c2⟩ := c
  have hrep' : KRep (fun b => b < w.heap.size) w t ⟨c0, c1, c2⟩ := KRep.carry (fun _ _ => rfl) hP _ _ hrep
  obtain ⟨e0, -, ⟨a3, cap3, e1, hl3, -⟩, a, cap, e2, hlen, -⟩ := hrep.open
  simp only at e0 e1 e2
  subst e0 e1 e2
  have HREP := hide hrep'
  clear hrep hrep' hP
  have hksz : ksz t ≤ 1152921504606846970 := by have := ksz_w t; omega
  refine (callsIn_wide (n := 8)).1 ?_
  refine callsIn_of_wp_marks Tryz.func26 rfl trivial ?_ rfl
  simp only [Tryz.ntmps26, List.size_toArray, List.length_cons, List.length_nil, Nat.reduceAdd, Nat.reduceSub, Array.replicate_succ, Array.replicate_zero, List.push_toArray, List.append_toArray, List.nil_append, List.cons_append]
  gi_wp2_with ((try refine ⟨trivial, ?_⟩); gi_at_call 57; refine (walk_in Fence.wide _ trivial rfl _ _ _ _ _ _).mono ?_; rintro e w' ⟨rfl, rfl⟩)
  obtain ⟨W0, hW0⟩ : ∃ W0, ((((w.alloc (.cells #[.int .i64 t.sort, .slice a3 t.names.length cap3, .slice a t.kids.length cap] 26)).alloc (.cells #[.bool false] 4)).alloc (.cells #[.int .i64 0] 3)).alloc (.cells #[.int .i64 t.sort, .slice a3 t.names.length cap3, .slice a t.kids.length cap] 26)) = W0 := ⟨_, rfl⟩
  have hsz : W0.heap.size = w.heap.size + 4 := by rw [← hW0]; simp
  have hB0 : Below w.heap.size w W0 := by rw [← hW0]; exact ((((Below.refl _ w).alloc (Nat.le_refl _) _).alloc (by simp) _).alloc (by simp; omega) _).alloc (by simp; omega) _
  have hbr : Boxed W0 (w.heap.size + 1) 4 (.bool false) := by
    rw [← hW0]
    have := (Boxed.new (w.alloc (.cells #[.int .i64 t.sort, .slice a3 t.names.length cap3, .slice a t.kids.length cap] 26)) 4 (.bool false))
    rw [World.size_alloc] at this
    exact (this.alloc _).alloc _
  have hbp : Boxed W0 (w.heap.size + 1 + 1) 3 (.int .i64 0) := by
    rw [← hW0]
    have := (Boxed.new ((w.alloc (.cells #[.int .i64 t.sort, .slice a3 t.names.length cap3, .slice a t.kids.length cap] 26)).alloc (.cells #[.bool false] 4)) 3 (.int .i64 0))
    rw [World.size_alloc, World.size_alloc] at this
    exact this.alloc _
  have hbt : C3.at W0 (w.heap.size + 1 + 1 + 1) 0 ⟨.int .i64 t.sort, .slice a3 t.names.length cap3, .slice a t.kids.length cap⟩ := by
    rw [← hW0]
    have q := row3_alloc (((w.alloc (.cells #[.int .i64 t.sort, .slice a3 t.names.length cap3, .slice a t.kids.length cap] 26)).alloc (.cells #[.bool false] 4)).alloc (.cells #[.int .i64 0] 3)) (.int .i64 t.sort) (.slice a3 t.names.length cap3) (.slice a t.kids.length cap) 26
    rw [World.size_alloc, World.size_alloc, World.size_alloc] at q
    exact ⟨q.cell (i := 0) (by omega), q.cell (i := 1) (by omega), q.cell (i := 2) (by omega)⟩
  rw [hW0]
  clear hW0
  refine wpIn_rangeFunc_ownH (α := KX w.heap.size w) (encs := kEnc) (Kp := Kept w.heap.size (fun k => k = w.heap.size + 1 ∨ k = w.heap.size + 1 + 1)) (S := fun ys => ys.map kKey = pord t 1) (Sp := fun pre => pre.map kKey <+: pord t 1) (N := (pord t 1).length) (w0 := W0) rfl (by omega)
    (gf := 79) (lb := #[.pointer (some ⟨w.heap.size + 1 + 1 + 1, 0, none⟩)]) rfl trivial (enters_of Tryz.func79 (by kernel_rfl) rfl)
    (fun l J Jx W hW hJ hJx hY h0 => walk1_in Fence.wide rfl _ trivial trivial trivial rfl l (w.heap.size + 1 + 1 + 1) w.heap.size (w.heap.size + 4) _ w (Nat.le_refl _) t _ (unhide HREP) hksz J Jx (fun s A B hs hg => hJ s A B none hs hg (fun r e => by cases e)) (fun k hk => by omega) hY W (hbt.carry (hW.block _ (by omega))) (hB0.trans (hW.mono hB0.size)) (by have := hW.size; omega) h0)
    Kept.trans (Kept.putObj (by omega)) (Below.refl _ _) (fun _ => rfl)
    (fun pre W => (pre.map kKey).all gdB = true ∧ pre.length ≤ 40 ∧ (Boxed W (w.heap.size + 1) 4 (.bool false) ∧ Boxed W (w.heap.size + 1 + 1) 3 (.int .i64 pre.length)) ∧ Below w.heap.size w W)
    (fun c pre W => c = .ret ∧ ((pre.map kKey).all gdB = false ∨ 40 < pre.length) ∧ Boxed W (w.heap.size + 1) 4 (.bool false) ∧ Below w.heap.size w W)
    ?hI ?hIx ?h0
    (fun x a' W => ∃ Bx, w.heap.size + 1 + 1 < Bx ∧ C3.at W Bx 0 x.1.2.2 ∧ a' = { tmps := #[.agg #[.int .i64 t.sort, .slice a3 t.names.length cap3, .slice a t.kids.length cap], .pointer (some ⟨w.heap.size, 0, none⟩), .pointer (some ⟨w.heap.size + 1, 0, none⟩), .pointer (some ⟨w.heap.size + 1 + 1, 0, none⟩), .int .i64 x.1.1, .pointer (some ⟨Bx, 0, none⟩), .agg #[.int .i64 t.sort, .slice a3 t.names.length cap3, .slice a t.kids.length cap], .func (.func 79) #[] #[.pointer (some ⟨w.heap.size + 1 + 1 + 1, 0, none⟩)], .int .i64 x.1.1, .agg #[x.1.2.2.c0, x.1.2.2.c1, x.1.2.2.c2], undef, undef, undef, undef, undef, undef, undef, undef, undef, undef, undef, undef, undef], defers := [] })
    ?hAx ?assign ?body ?done ?stop
  case hI =>
    exact fun s W W' row hs hg hr => ⟨hs.1, hs.2.1, ⟨boxed_own _ _ (fun _ => .bool false) s W W' row hs.2.2.1.1 hg (fun r e => (hr r e).2), boxed_own _ _ (fun pre : List (KX w.heap.size w) => .int .i64 pre.length) s W W' row hs.2.2.1.2 hg (fun r e => (hr r e).2)⟩, ownFrom_below (Nat.le_refl _) (by omega) s W W' row hs.2.2.2 hg hr⟩
  case hIx =>
    exact fun c s W W' row hs hg hr => ⟨hs.1, hs.2.1, boxed_own _ _ (fun _ => .bool false) s W W' row hs.2.2.1 hg (fun r e => (hr r e).2), ownFrom_below (Nat.le_refl _) (by omega) s W W' row hs.2.2.2 hg hr⟩
  case h0 => exact ⟨by simp, by simp, ⟨hbr, by simpa using hbp⟩, hB0⟩
  case hAx =>
    rintro x a' s W W' row ⟨Bx, hBx, ⟨f0, f1, f2⟩, rfl⟩ hg hr
    exact ⟨Bx, hBx, ⟨cell_kept f0 hg (fun r e => (hr r e).2), cell_kept f1 hg (fun r e => (hr r e).2), cell_kept f2 hg (fun r e => (hr r e).2)⟩, rfl⟩
  case assign =>
    rintro l pre ⟨⟨lv, T, ⟨d0, d1, d2⟩⟩, hx⟩ W K hi hK
    obtain ⟨g0, -, ⟨a5, cap5, g1, -⟩, a6, cap6, g2, -⟩ := hx.open
    simp only at g0 g1 g2
    subst g0 g1 g2
    have HK := hide hK; have HI := hide hi
    clear hK hi
    simp only [kEnc]
    gi_wp2
    obtain ⟨h1, h2, ⟨h3, h4⟩, h5⟩ := unhide HI
    have q := row3_alloc W (.int .i64 T.sort) (.slice a5 T.names.length cap5) (.slice a6 T.kids.length cap6) 26
    exact unhide HK _ _ ((KeepsOthers.alloc _ _).from _) (Kept.grown (World.grownBy_alloc _ _ none) h5.size) ⟨h1, h2, ⟨h3.alloc _, h4.alloc _⟩, h5.alloc h5.size _⟩ ⟨W.heap.size, h4.lt, ⟨q.cell (i := 0) (by omega), q.cell (i := 1) (by omega), q.cell (i := 2) (by omega)⟩, rfl⟩
  case body =>
    rintro l pre x a' W hl - ⟨hall, h40, ⟨hbr', hbp'⟩, hB⟩ ⟨Bx, hBx, hat, rfl⟩ hlt
    have hx := x.2
    have hk : kKey x = (x.1.1, x.1.2.1) := rfl
    obtain ⟨lv, T, d0, d1, d2, hxe⟩ : ∃ lv T d0 d1 d2, x.1 = (lv, T, ⟨d0, d1, d2⟩) := by obtain ⟨⟨lv, T, ⟨d0, d1, d2⟩⟩, _⟩ := x; exact ⟨_, _, _, _, _, rfl⟩
    rw [hxe] at hx
    simp only [hxe] at hk hat ⊢
    obtain ⟨g0, -, ⟨a5, cap5, g1, -⟩, a6, cap6, g2, -⟩ := hx.open
    simp only at g0 g1 g2
    clear hxe
    subst g0 g1 g2
    obtain ⟨f0, f1, f2⟩ := hat
    simp only at f0 f1 f2
    have p0 := hbp'.cell
    have p1 := hbp'.frozen
    have r0 := hbr'.cell
    have r1 := hbr'.frozen
    have hB1 : ∀ v, Below w.heap.size w (W.setCell ⟨w.heap.size + 1 + 1, 0, none⟩ v) := fun v => hB.setCell (by simp; omega) _
    have hcall : ∀ v, Calls Tryz.prog 58 #[.agg #[.int .i64 T.sort, .slice a5 T.names.length cap5, .slice a6 T.kids.length cap6]] (W.setCell ⟨w.heap.size + 1 + 1, 0, none⟩ v) fun e w' => e = .returned (.bool (shB T)) ∧ ∃ o, w' = (W.setCell ⟨w.heap.size + 1 + 1, 0, none⟩ v).alloc o := fun v =>
      kindShaped_any T (fun b => b < w.heap.size) ⟨_, _, _⟩ _ (fun b hb => Nat.lt_of_lt_of_le hb (hB1 v).size) (KRep.carry (fun b hb => (hB1 v).block b hb) (fun _ h => h) _ _ hx)
    have HCALL := hide hcall; have HB := hide hB; have HBR := hide hbr'; have HBP := hide hbp'; have HALL := hide hall
    have HK := hide hk
    clear hcall hB1 hB hbr' hbp' hall hx hk
    have hkp : ∀ v, Kept w.heap.size (fun k => k = w.heap.size + 1 ∨ k = w.heap.size + 1 + 1) W (W.setCell ⟨w.heap.size + 1 + 1, 0, none⟩ v) := fun v => Kept.setCell W _ _ (Or.inr rfl) (by simp; omega)
    have HKP := hide hkp; clear hkp
    have hbr2 : ∀ v o, Boxed ((W.setCell ⟨w.heap.size + 1 + 1, 0, none⟩ v).alloc o) (w.heap.size + 1) 4 (.bool false) := fun v o => ((unhide HBR).other (by omega) v).alloc o
    have r2 : ∀ v o, ((W.setCell ⟨w.heap.size + 1 + 1, 0, none⟩ v).alloc o).cell? ⟨w.heap.size + 1, 0, none⟩ = some (.bool false) := fun v o => (hbr2 v o).cell
    have r3 : ∀ v o, ((W.setCell ⟨w.heap.size + 1 + 1, 0, none⟩ v).alloc o).frozen? ⟨w.heap.size + 1, 0, none⟩ = false := fun v o => (hbr2 v o).frozen
    have HBR2 := hide hbr2; clear hbr2
    have hnx : (((pre ++ [x]).length : Nat) : Int) = (pre.length : Int) + 1 := by simp
    have HNX := hide hnx; clear hnx
    by_cases hp : 40 < pre.length + 1
    · have b1 : decide ((40 : Int) < (pre.length : Int) + 1) = true := by simp; omega
      gi_wp2_with fail
      refine ⟨trivial, ?_⟩
      gi_wp2_with fail
      refine ⟨((KeepsOthers.setCell _ _ _).trans (KeepsOthers.setCell _ _ _)).from _, rfl, Or.inr (by simp; omega), ?_, ?_⟩
      · exact ((unhide HBR).other (by omega) _).set _
      · exact ((unhide HB).setCell (by simp; omega) _).setCell (by simp) _
    · have b1 : decide ((40 : Int) < (pre.length : Int) + 1) = false := by simp; omega
      by_cases h6 : 6 < lv
      · have hbad : ((pre ++ [x]).map kKey).all gdB = false := by
          rw [List.map_append, List.all_append]
          simp [unhide HK, gdB]; omega
        have HBAD := hide hbad; clear hbad
        gi_wp2_with fail
        refine ⟨trivial, ?_⟩
        gi_wp2_with fail
        refine ⟨((KeepsOthers.setCell _ _ _).trans (KeepsOthers.setCell _ _ _)).from _, rfl, Or.inl (unhide HBAD), ?_, ?_⟩
        · exact ((unhide HBR).other (by omega) _).set _
        · exact ((unhide HB).setCell (by simp; omega) _).setCell (by simp) _
      · cases hsh : shB T
        · have hbad : ((pre ++ [x]).map kKey).all gdB = false := by
            rw [List.map_append, List.all_append]
            simp [unhide HK, gdB, hsh]
          have HBAD := hide hbad; clear hbad
          rw [hsh] at HCALL
          gi_wp2_with ((try refine ⟨trivial, ?_⟩); gi_at_call 58; refine (CallsIn.inRound l (callsIn_wide.2 (unhide HCALL _))).mono ?_; rintro e w' ⟨rfl, o, rfl⟩)
          refine ⟨(((KeepsOthers.setCell _ _ _).trans (KeepsOthers.alloc _ _)).trans (KeepsOthers.setCell _ _ _)).from _, rfl, Or.inl (unhide HBAD), ?_, ?_⟩
          · exact (unhide HBR2 _ _).set _
          · exact (((unhide HB).setCell (by simp; omega) _).alloc (by have := (unhide HB).size; simp [World.setCell]; omega) _).setCell (by simp) _
        · have hgood : ((pre ++ [x]).map kKey).all gdB = true := by
            rw [List.map_append, List.all_append, unhide HALL]
            simp [unhide HK, gdB, hsh]; omega
          have HGOOD := hide hgood; clear hgood
          rw [hsh] at HCALL
          gi_wp2_with ((try refine ⟨trivial, ?_⟩); gi_at_call 58; refine (CallsIn.inRound l (callsIn_wide.2 (unhide HCALL _))).mono ?_; rintro e w' ⟨rfl, o, rfl⟩)
          have hsw := (unhide HB).size
          refine ⟨((KeepsOthers.setCell _ _ _).trans (KeepsOthers.alloc _ _)).from _, (unhide HKP _).trans (Kept.grown (World.grownBy_alloc _ _ none) (by simp [World.setCell]; omega)), unhide HGOOD, by simp; omega, ⟨unhide HBR2 _ _, ?_⟩, ?_⟩
          · rw [unhide HNX]; exact ((unhide HBP).set _).alloc _
          · exact ((unhide HB).setCell (by simp; omega) _).alloc (by simp [World.setCell]; omega) _
  case done =>
    rintro D ys W hD hS ⟨hall, h40, ⟨hbr', -⟩, hB⟩ hK
    have hans : decide (0 < qT t 1) = true := by
      rw [qT_start, ← hS, hall]
      simp; omega
    have r0 := hbr'.cell
    have r1 := hbr'.frozen
    gi_wp2_with fail
    have hK' := (KeepsOthers.setCell W ⟨w.heap.size + 1, 0, none⟩ (.bool true)).same D _ hK rfl
    refine ⟨by simp, .inl ⟨_, _, rfl, run_takeDeferred hK', ?_⟩⟩
    have hc5 := cell_kept (hbr'.set (.bool true)).cell (grownBy_putObj' _ D (.deferred none)) (fun r e => by cases e; exact ⟨_, hK', rfl⟩)
    refine ⟨.bool true, ?_, by rw [hans], (hB.setCell (p := ⟨w.heap.size + 1, 0, none⟩) (by simp) _).trans (belowK_b (w := w) (Nat.le_refl _) _ D _ _ (by omega) hK' rfl rfl)⟩
    simp [results, Tryz.results26, go_sem, hc5]
  case stop =>
    rintro D c pre W hD hpre ⟨rfl, hbad, hbr', hB⟩ hK
    have hans : decide (0 < qT t 1) = false := by
      rw [qT_start]
      rcases hbad with h | h
      · have : (pord t 1).all gdB = false := by
          obtain ⟨r, hr⟩ := hpre
          rw [← hr, List.all_append, h]; rfl
        rw [this]; rfl
      · have := hpre.length_le
        simp only [List.length_map] at this
        simp; intro _; omega
    gi_wp2_with fail
    refine ⟨by simp, .inl ⟨_, _, rfl, run_takeDeferred hK, ?_⟩⟩
    have hc5 := cell_kept hbr'.cell (grownBy_putObj' _ D (.deferred none)) (fun r e => by cases e; exact ⟨_, hK, rfl⟩)
    refine ⟨.bool false, ?_, by rw [hans], hB.trans (belowK_b (w := w) (Nat.le_refl _) W D _ _ (by omega) hK rfl rfl)⟩
    simp [results, Tryz.results26, go_sem, hc5]

end Go.Proofs.YtenpghndgdemnaaGreatDoor

/- The walks of the specification's KindFirst and of the program's: both give the first tree of a schema that is ok, and else the zero tree, in blocks of its own. Of what was there nothing has turned. -/

namespace Go.Proofs.YtenpghndgdemnaaGreatDoor
open Go Go.RowKit

theorem boxes {w w1 : World} {a b : Obj} (h : Below ((w.alloc a).alloc b).heap.size ((w.alloc a).alloc b) w1) : Below w.heap.size w w1 ∧ w.heap.size + 2 ≤ w1.heap.size := by
  have h1 := h.size
  refine ⟨(((Below.refl w.heap.size w).alloc (Nat.le_refl _) a).alloc (by simp) b).trans (h.mono (by simp; omega)), by simp at h1; omega⟩

end Go.Proofs.YtenpghndgdemnaaGreatDoor

/- For the law on KindFirst: how many marks its trees and schemas take, and what its world holds between the calls. Definitions and small laws; no program walked, no conditions. -/

namespace Go.Proofs.YtenpghndgdemnaaGreatDoor
open Go Go.RowKit

end Go.Proofs.YtenpghndgdemnaaGreatDoor

/- The walks of szStringS, toStringS, eqStringS: what they answer, and that they turn nothing that was there. No conditions but toStringS's on the number of strings. -/

namespace Go.Proofs.YtenpghndgdemnaaGreatDoor
open Go Go.RowKit

end Go.Proofs.YtenpghndgdemnaaGreatDoor

/- The walks of toKind, toKindS: they make a new copy of a schema, and turn nothing that was there. No conditions but the schema's weight, at most 2^20. -/

namespace Go.Proofs.YtenpghndgdemnaaGreatDoor
open Go Go.RowKit

/-- The three zero cells of a schema. -/
def z3 : Array Value := #[.int .i64 0, .slice none 0 0, .slice none 0 0]

end Go.Proofs.YtenpghndgdemnaaGreatDoor

/- The walk of toStringS once more: the copy lies in new blocks of which nothing is frozen. No conditions but the number of strings, at most 2^20. -/

namespace Go.Proofs.YtenpghndgdemnaaGreatDoor
open Go Go.RowKit

end Go.Proofs.YtenpghndgdemnaaGreatDoor

/- The walks of toKind, toKindS once more: the copy that they make lies in new blocks of which nothing is frozen. No conditions but the schema's weight, at most 2^20. -/

namespace Go.Proofs.YtenpghndgdemnaaGreatDoor
open Go Go.RowKit

end Go.Proofs.YtenpghndgdemnaaGreatDoor

/- What a tree is widened to, as a function on data. No program, no conditions. -/

namespace Go.Proofs.YtenpghndgdemnaaGreatDoor
open Go Go.RowKit

end Go.Proofs.YtenpghndgdemnaaGreatDoor

/- Two schemas that fit: what widening asks for, and the names of a form that another one fits into. No program, no conditions. -/

namespace Go.Proofs.YtenpghndgdemnaaGreatDoor
open Go Go.RowKit

theorem okD_sh {k : Kd} (h : okD k = true) : ((k.sort = 1 ∨ k.sort = 2 ∨ k.sort = 3) ∧ k.kids.length = 0 ∧ k.names.length = 0) ∨ ((k.sort = 4 ∨ k.sort = 6) ∧ k.kids.length = 1 ∧ k.names.length = 0) ∨ (k.sort = 5 ∧ k.kids.length = k.names.length ∧ riseB k.names = true) := by
  rw [okD_eq, Bool.and_eq_true] at h
  have h := h.1
  unfold shB at h
  split at h
  · exact Or.inl ⟨by assumption, of_decide_eq_true h⟩
  split at h
  · exact Or.inr (Or.inl ⟨by assumption, of_decide_eq_true h⟩)
  split at h
  · rw [Bool.and_eq_true] at h
    exact Or.inr (Or.inr ⟨by assumption, of_decide_eq_true h.1, h.2⟩)
  · cases h
theorem okD_kid {k : Kd} (h : okD k = true) (i : Nat) (hi : i < k.kids.length) : okD k.kids[i] = true := by
  rw [okD_eq, Bool.and_eq_true] at h
  exact okDs_get h.2 i hi
theorem okD_ne {k : Kd} (h : okD k = true) : k.sort ≠ 0 := by rcases okD_sh h with h | h | h <;> omega
theorem getD_kid {k : Kd} {i : Nat} (hi : i < k.kids.length) : k.kids.getD i kd0 = k.kids[i] := by simp [List.getD_eq_getElem?_getD, List.getElem?_eq_getElem hi]
theorem kidZ_none {k : Kd} {nm : ByteArray} (h : nm ∉ k.names) : kidZ k nm = kd0 := by
  unfold kidZ
  rw [kidN_none h]
  rfl
theorem kidZ_in {k : Kd} {nm : ByteArray} (h : okD k = true) (h5 : k.sort = 5) (hm : nm ∈ k.names) : kidZ k nm ∈ k.kids := by
  rcases okD_sh h with h' | h' | h'
  · omega
  · omega
  obtain ⟨i, hi, e⟩ := List.mem_iff_getElem.1 hm
  rw [kidZ_at (rise_pairs h'.2.2) h'.2.1 hi e]
  exact List.getElem_mem _
theorem okD_mem {k x : Kd} (h : okD k = true) (hx : x ∈ k.kids) : okD x = true := by
  obtain ⟨i, hi, rfl⟩ := List.mem_iff_getElem.1 hx
  exact okD_kid h i hi
/-- Under each name the pair fits. -/
theorem fit_names {n : Nat} {a b : Kd} (hoa : okD a = true) (hob : okD b = true) (ha : a.sort = 5) (hb : b.sort = 5) (hf : fitF (n + 1) a b = true) (nm : ByteArray) (hm : nm ∈ uniN a.names b.names) :
    nm ∈ b.names ∧ ((kidZ a nm).sort = 0 ∧ (kidZ b nm).sort = 6 ∨ ((kidZ a nm).sort ≠ 0 ∧ nm ∈ a.names ∧ fitF n (kidZ a nm) (kidZ b nm) = true)) := by
  have sa := okD_sh hoa
  have sb := okD_sh hob
  obtain ⟨-, hla, hra⟩ : a.sort = 5 ∧ a.kids.length = a.names.length ∧ riseB a.names = true := by rcases sa with h | h | h; omega; omega; exact h
  obtain ⟨-, hlb, hrb⟩ : b.sort = 5 ∧ b.kids.length = b.names.length ∧ riseB b.names = true := by rcases sb with h | h | h; omega; omega; exact h
  rw [fit_union ha hb hla hlb (rise_nodup hra) (rise_nodup hrb) (fun k hk => okD_ne (okD_mem hoa hk)) (fun k hk => okD_ne (okD_mem hob hk)) _ (fun nm => uniN_mem nm), List.all_eq_true] at hf
  have := hf nm hm
  unfold pF at this
  have hbm : (kidZ b nm).sort ≠ 0 → nm ∈ b.names := fun h => Classical.byContradiction fun h' => h (by rw [kidZ_none h']; rfl)
  split at this
  · next h0 =>
    have h6 := of_decide_eq_true this
    exact ⟨hbm (by omega), Or.inl ⟨h0, h6⟩⟩
  · next h0 =>
    split at this
    · cases this
    · next h1 => exact ⟨hbm h1, Or.inr ⟨h0, Classical.byContradiction fun h' => h0 (by rw [kidZ_none h']; rfl), this⟩⟩
theorem ksz_pos (k : Kd) : 0 < ksz k := by
  obtain ⟨s, ns, ks⟩ := k
  rw [ksz]
  omega
/-- The names of both are those of the wider form. -/
theorem uni_wider {n : Nat} {a b : Kd} (hoa : okD a = true) (hob : okD b = true) (ha : a.sort = 5) (hb : b.sort = 5) (hf : fitF (n + 1) a b = true) : uniN a.names b.names = b.names := by
  have hrb : riseB b.names = true := by rcases okD_sh hob with h | h | h; omega; omega; exact h.2.2
  have h1 := rise_sub b.names (uniN a.names b.names) (rise_pairs hrb) (uniN_rise _ _) (fun x hx => (fit_names hoa hob ha hb hf x hx).1)
  have h2 := rise_sub (uniN a.names b.names) b.names (uniN_rise _ _) (rise_pairs hrb) (fun x hx => (uniN_mem x).2 (Or.inr hx))
  exact h1.eq_of_length_le h2.length_le
end Go.Proofs.YtenpghndgdemnaaGreatDoor
