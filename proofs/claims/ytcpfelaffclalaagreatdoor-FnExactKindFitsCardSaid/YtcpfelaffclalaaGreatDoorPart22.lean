/- The walk of the program's KindOk: it answers as the specification does. No conditions but the schema's weight, at most 2^20. -/
import Derived.Test.YtcpfelaffclalaaGreatDoorPart08
import Derived.Test.YtcpfelaffclalaaGreatDoorPart21
import Derived.Test.YtcpfelaffclalaaGreatDoorPart20
namespace Go.Proofs.YtcpfelaffclalaaGreatDoor
open Go Go.RowKit Go.Shelf

attribute [local go_sem] Oper.semAt_some

theorem Kept.setCell {n₀ : Nat} {S : Nat → Prop} (W : World) (p : Addr) (v : Value) (hS : S p.block) (hn : n₀ ≤ p.block) : Kept n₀ S W (W.setCell p v) :=
  ⟨(Below.refl _ W).setCell hn _, fun k o hk ho _ => (Below.heap_setCell _ _ _ _ (fun e => hk (by rw [e]; exact hS))).trans ho⟩

set_option maxRecDepth 100000 in
set_option maxHeartbeats 2000000 in
theorem implKindOk_any (t : Kd) (P : Nat → Prop) (c : C3) (w : World) (hP : ∀ b, P b → b < w.heap.size) (hrep : KRep P w t c) (hwt : wKd t ≤ 1048576) :
    Calls Tryz.prog 48 #[.agg #[c.c0, c.c1, c.c2]] w fun e w' => e = .returned (.bool (decide (0 < qT t 1))) ∧ Below w.heap.size w w' := by
  obtain ⟨c0, c1, c2⟩ := c
  have hrep' : KRep (fun b => b < w.heap.size) w t ⟨c0, c1, c2⟩ := KRep.carry (fun _ _ => rfl) hP _ _ hrep
  obtain ⟨e0, -, ⟨a3, cap3, e1, hl3, -⟩, a, cap, e2, hlen, -⟩ := hrep.open
  simp only at e0 e1 e2
  subst e0 e1 e2
  have HREP := hide hrep'
  clear hrep hrep' hP
  have hksz : ksz t ≤ 1152921504606846970 := by have := ksz_w t; omega
  refine (callsIn_wide (n := 8)).1 ?_
  refine callsIn_of_wp_marks Tryz.func48 rfl trivial ?_ rfl
  simp only [Tryz.ntmps48, List.size_toArray, List.length_cons, List.length_nil, Nat.reduceAdd, Nat.reduceSub, Array.replicate_succ, Array.replicate_zero, List.push_toArray, List.append_toArray, List.nil_append, List.cons_append]
  gi_wp2_with ((try refine ⟨trivial, ?_⟩); gi_at_call 79; refine (walk_in Fence.wide _ trivial rfl _ _ _ _ _ _).mono ?_; rintro e w' ⟨rfl, rfl⟩)
  obtain ⟨W0, hW0⟩ : ∃ W0, ((((w.alloc (.cells #[.int .i64 t.sort, .slice a3 t.names.length cap3, .slice a t.kids.length cap] 30)).alloc (.cells #[.bool false] 4)).alloc (.cells #[.int .i64 0] 3)).alloc (.cells #[.int .i64 t.sort, .slice a3 t.names.length cap3, .slice a t.kids.length cap] 30)) = W0 := ⟨_, rfl⟩
  have hsz : W0.heap.size = w.heap.size + 4 := by rw [← hW0]; simp
  have hB0 : Below w.heap.size w W0 := by rw [← hW0]; exact ((((Below.refl _ w).alloc (Nat.le_refl _) _).alloc (by simp) _).alloc (by simp; omega) _).alloc (by simp; omega) _
  have hbr : Boxed W0 (w.heap.size + 1) 4 (.bool false) := by
    rw [← hW0]
    have := (Boxed.new (w.alloc (.cells #[.int .i64 t.sort, .slice a3 t.names.length cap3, .slice a t.kids.length cap] 30)) 4 (.bool false))
    rw [World.size_alloc] at this
    exact (this.alloc _).alloc _
  have hbp : Boxed W0 (w.heap.size + 1 + 1) 3 (.int .i64 0) := by
    rw [← hW0]
    have := (Boxed.new ((w.alloc (.cells #[.int .i64 t.sort, .slice a3 t.names.length cap3, .slice a t.kids.length cap] 30)).alloc (.cells #[.bool false] 4)) 3 (.int .i64 0))
    rw [World.size_alloc, World.size_alloc] at this
    exact this.alloc _
  have hbt : C3.at W0 (w.heap.size + 1 + 1 + 1) 0 ⟨.int .i64 t.sort, .slice a3 t.names.length cap3, .slice a t.kids.length cap⟩ := by
    rw [← hW0]
    have q := row3_alloc (((w.alloc (.cells #[.int .i64 t.sort, .slice a3 t.names.length cap3, .slice a t.kids.length cap] 30)).alloc (.cells #[.bool false] 4)).alloc (.cells #[.int .i64 0] 3)) (.int .i64 t.sort) (.slice a3 t.names.length cap3) (.slice a t.kids.length cap) 30
    rw [World.size_alloc, World.size_alloc, World.size_alloc] at q
    exact ⟨q.cell (i := 0) (by omega), q.cell (i := 1) (by omega), q.cell (i := 2) (by omega)⟩
  rw [hW0]
  clear hW0
  refine wpIn_rangeFunc_ownH (α := KX w.heap.size w) (encs := kEnc) (Kp := Kept w.heap.size (fun k => k = w.heap.size + 1 ∨ k = w.heap.size + 1 + 1)) (S := fun ys => ys.map kKey = pord t 1) (Sp := fun pre => pre.map kKey <+: pord t 1) (N := (pord t 1).length) (w0 := W0) rfl (by omega)
    (gf := 108) (lb := #[.pointer (some ⟨w.heap.size + 1 + 1 + 1, 0, none⟩)]) rfl trivial (enters_of Tryz.func108 (by kernel_rfl) rfl)
    (fun l J Jx W hW hJ hJx hY h0 => walk1_in Fence.wide rfl _ trivial trivial trivial rfl l (w.heap.size + 1 + 1 + 1) w.heap.size (w.heap.size + 4) _ w (Nat.le_refl _) t _ (unhide HREP) hksz J Jx (fun s A B hs hg => hJ s A B none hs hg (fun r e => by cases e)) (fun k hk => by omega) hY W (hbt.carry (hW.block _ (by omega))) (hB0.trans (hW.mono hB0.size)) (by have := hW.size; omega) h0)
    Kept.trans (Kept.putObj (by omega)) (Below.refl _ _) (fun _ => rfl)
    (fun pre W => (pre.map kKey).all gdB = true ∧ pre.length ≤ 40 ∧ (Boxed W (w.heap.size + 1) 4 (.bool false) ∧ Boxed W (w.heap.size + 1 + 1) 3 (.int .i64 pre.length)) ∧ Below w.heap.size w W)
    (fun c pre W => c = .ret ∧ ((pre.map kKey).all gdB = false ∨ 40 < pre.length) ∧ Boxed W (w.heap.size + 1) 4 (.bool false) ∧ Below w.heap.size w W)
    ?hI ?hIx ?h0
    (fun x a' W => ∃ Bx, w.heap.size + 1 + 1 < Bx ∧ C3.at W Bx 0 x.1.2.2 ∧ a' = { tmps := #[.agg #[.int .i64 t.sort, .slice a3 t.names.length cap3, .slice a t.kids.length cap], .pointer (some ⟨w.heap.size, 0, none⟩), .pointer (some ⟨w.heap.size + 1, 0, none⟩), .pointer (some ⟨w.heap.size + 1 + 1, 0, none⟩), .int .i64 x.1.1, .pointer (some ⟨Bx, 0, none⟩), .agg #[.int .i64 t.sort, .slice a3 t.names.length cap3, .slice a t.kids.length cap], .func (.func 108) #[] #[.pointer (some ⟨w.heap.size + 1 + 1 + 1, 0, none⟩)], .int .i64 x.1.1, .agg #[x.1.2.2.c0, x.1.2.2.c1, x.1.2.2.c2], undef, undef, undef, undef, undef, undef, undef, undef, undef, undef, undef, undef, undef], defers := [] })
    ?hAx ?assign ?body ?done ?stop
  case hI =>
    exact fun s W W' row hs hg hr => ⟨hs.1, hs.2.1, ⟨boxed_own _ _ (fun _ => .bool false) s W W' row hs.2.2.1.1 hg (fun r e => (hr r e).2), boxed_own _ _ (fun pre : List (KX w.heap.size w) => .int .i64 pre.length) s W W' row hs.2.2.1.2 hg (fun r e => (hr r e).2)⟩, ownFrom_below (Nat.le_refl _) (by omega) s W W' row hs.2.2.2 hg hr⟩
  case hIx =>
    exact fun c s W W' row hs hg hr => ⟨hs.1, hs.2.1, boxed_own _ _ (fun _ => .bool false) s W W' row hs.2.2.1 hg (fun r e => (hr r e).2), ownFrom_below (Nat.le_refl _) (by omega) s W W' row hs.2.2.2 hg hr⟩
  case h0 => exact ⟨by simp, by simp, ⟨hbr, by simpa using hbp⟩, hB0⟩
  case hAx =>
    rintro x a' s W W' row ⟨Bx, hBx, ⟨f0, f1, f2⟩, rfl⟩ hg hr
    exact ⟨Bx, hBx, ⟨cell_kept f0 hg (fun r e => (hr r e).2), cell_kept f1 hg (fun r e => (hr r e).2), cell_kept f2 hg (fun r e => (hr r e).2)⟩, rfl⟩
  case assign =>
    rintro l pre ⟨⟨lv, T, ⟨d0, d1, d2⟩⟩, hx⟩ W K hi hK
    obtain ⟨g0, -, ⟨a5, cap5, g1, -⟩, a6, cap6, g2, -⟩ := hx.open
    simp only at g0 g1 g2
    subst g0 g1 g2
    have HK := hide hK; have HI := hide hi
    clear hK hi
    simp only [kEnc]
    gi_wp2
    obtain ⟨h1, h2, ⟨h3, h4⟩, h5⟩ := unhide HI
    have q := row3_alloc W (.int .i64 T.sort) (.slice a5 T.names.length cap5) (.slice a6 T.kids.length cap6) 30
    exact unhide HK _ _ ((KeepsOthers.alloc _ _).from _) (Kept.grown (World.grownBy_alloc _ _ none) h5.size) ⟨h1, h2, ⟨h3.alloc _, h4.alloc _⟩, h5.alloc h5.size _⟩ ⟨W.heap.size, h4.lt, ⟨q.cell (i := 0) (by omega), q.cell (i := 1) (by omega), q.cell (i := 2) (by omega)⟩, rfl⟩
  case body =>
    rintro l pre x a' W hl - ⟨hall, h40, ⟨hbr', hbp'⟩, hB⟩ ⟨Bx, hBx, hat, rfl⟩ hlt
    have hx := x.2
    have hk : kKey x = (x.1.1, x.1.2.1) := rfl
    obtain ⟨lv, T, d0, d1, d2, hxe⟩ : ∃ lv T d0 d1 d2, x.1 = (lv, T, ⟨d0, d1, d2⟩) := by obtain ⟨⟨lv, T, ⟨d0, d1, d2⟩⟩, _⟩ := x; exact ⟨_, _, _, _, _, rfl⟩
    rw [hxe] at hx
    simp only [hxe] at hk hat ⊢
    obtain ⟨g0, -, ⟨a5, cap5, g1, -⟩, a6, cap6, g2, -⟩ := hx.open
    simp only at g0 g1 g2
    clear hxe
    subst g0 g1 g2
    obtain ⟨f0, f1, f2⟩ := hat
    simp only at f0 f1 f2
    have p0 := hbp'.cell
    have p1 := hbp'.frozen
    have r0 := hbr'.cell
    have r1 := hbr'.frozen
    have hB1 : ∀ v, Below w.heap.size w (W.setCell ⟨w.heap.size + 1 + 1, 0, none⟩ v) := fun v => hB.setCell (by simp; omega) _
    have hcall : ∀ v, Calls Tryz.prog 80 #[.agg #[.int .i64 T.sort, .slice a5 T.names.length cap5, .slice a6 T.kids.length cap6]] (W.setCell ⟨w.heap.size + 1 + 1, 0, none⟩ v) fun e w' => e = .returned (.bool (shB T)) ∧ ∃ o, w' = (W.setCell ⟨w.heap.size + 1 + 1, 0, none⟩ v).alloc o := fun v =>
      kindShaped_any T (fun b => b < w.heap.size) ⟨_, _, _⟩ _ (fun b hb => Nat.lt_of_lt_of_le hb (hB1 v).size) (KRep.carry (fun b hb => (hB1 v).block b hb) (fun _ h => h) _ _ hx)
    have HCALL := hide hcall; have HB := hide hB; have HBR := hide hbr'; have HBP := hide hbp'; have HALL := hide hall
    have HK := hide hk
    clear hcall hB1 hB hbr' hbp' hall hx hk
    have hkp : ∀ v, Kept w.heap.size (fun k => k = w.heap.size + 1 ∨ k = w.heap.size + 1 + 1) W (W.setCell ⟨w.heap.size + 1 + 1, 0, none⟩ v) := fun v => Kept.setCell W _ _ (Or.inr rfl) (by simp; omega)
    have HKP := hide hkp; clear hkp
    have hbr2 : ∀ v o, Boxed ((W.setCell ⟨w.heap.size + 1 + 1, 0, none⟩ v).alloc o) (w.heap.size + 1) 4 (.bool false) := fun v o => ((unhide HBR).other (by omega) v).alloc o
    have r2 : ∀ v o, ((W.setCell ⟨w.heap.size + 1 + 1, 0, none⟩ v).alloc o).cell? ⟨w.heap.size + 1, 0, none⟩ = some (.bool false) := fun v o => (hbr2 v o).cell
    have r3 : ∀ v o, ((W.setCell ⟨w.heap.size + 1 + 1, 0, none⟩ v).alloc o).frozen? ⟨w.heap.size + 1, 0, none⟩ = false := fun v o => (hbr2 v o).frozen
    have HBR2 := hide hbr2; clear hbr2
    have hnx : (((pre ++ [x]).length : Nat) : Int) = (pre.length : Int) + 1 := by simp
    have HNX := hide hnx; clear hnx
    by_cases hp : 40 < pre.length + 1
    · have b1 : decide ((40 : Int) < (pre.length : Int) + 1) = true := by simp; omega
      gi_wp2_with fail
      refine ⟨trivial, ?_⟩
      gi_wp2_with fail
      refine ⟨((KeepsOthers.setCell _ _ _).trans (KeepsOthers.setCell _ _ _)).from _, rfl, Or.inr (by simp; omega), ?_, ?_⟩
      · exact ((unhide HBR).other (by omega) _).set _
      · exact ((unhide HB).setCell (by simp; omega) _).setCell (by simp) _
    · have b1 : decide ((40 : Int) < (pre.length : Int) + 1) = false := by simp; omega
      by_cases h6 : 6 < lv
      · have hbad : ((pre ++ [x]).map kKey).all gdB = false := by
          rw [List.map_append, List.all_append]
          simp [unhide HK, gdB]; omega
        have HBAD := hide hbad; clear hbad
        gi_wp2_with fail
        refine ⟨trivial, ?_⟩
        gi_wp2_with fail
        refine ⟨((KeepsOthers.setCell _ _ _).trans (KeepsOthers.setCell _ _ _)).from _, rfl, Or.inl (unhide HBAD), ?_, ?_⟩
        · exact ((unhide HBR).other (by omega) _).set _
        · exact ((unhide HB).setCell (by simp; omega) _).setCell (by simp) _
      · cases hsh : shB T
        · have hbad : ((pre ++ [x]).map kKey).all gdB = false := by
            rw [List.map_append, List.all_append]
            simp [unhide HK, gdB, hsh]
          have HBAD := hide hbad; clear hbad
          rw [hsh] at HCALL
          gi_wp2_with ((try refine ⟨trivial, ?_⟩); gi_at_call 80; refine (CallsIn.inRound l (callsIn_wide.2 (unhide HCALL _))).mono ?_; rintro e w' ⟨rfl, o, rfl⟩)
          refine ⟨(((KeepsOthers.setCell _ _ _).trans (KeepsOthers.alloc _ _)).trans (KeepsOthers.setCell _ _ _)).from _, rfl, Or.inl (unhide HBAD), ?_, ?_⟩
          · exact (unhide HBR2 _ _).set _
          · exact (((unhide HB).setCell (by simp; omega) _).alloc (by have := (unhide HB).size; simp [World.setCell]; omega) _).setCell (by simp) _
        · have hgood : ((pre ++ [x]).map kKey).all gdB = true := by
            rw [List.map_append, List.all_append, unhide HALL]
            simp [unhide HK, gdB, hsh]; omega
          have HGOOD := hide hgood; clear hgood
          rw [hsh] at HCALL
          gi_wp2_with ((try refine ⟨trivial, ?_⟩); gi_at_call 80; refine (CallsIn.inRound l (callsIn_wide.2 (unhide HCALL _))).mono ?_; rintro e w' ⟨rfl, o, rfl⟩)
          have hsw := (unhide HB).size
          refine ⟨((KeepsOthers.setCell _ _ _).trans (KeepsOthers.alloc _ _)).from _, (unhide HKP _).trans (Kept.grown (World.grownBy_alloc _ _ none) (by simp [World.setCell]; omega)), unhide HGOOD, by simp; omega, ⟨unhide HBR2 _ _, ?_⟩, ?_⟩
          · rw [unhide HNX]; exact ((unhide HBP).set _).alloc _
          · exact ((unhide HB).setCell (by simp; omega) _).alloc (by simp [World.setCell]; omega) _
  case done =>
    rintro D ys W hD hS ⟨hall, h40, ⟨hbr', -⟩, hB⟩ hK
    have hans : decide (0 < qT t 1) = true := by
      rw [qT_start, ← hS, hall]
      simp; omega
    have r0 := hbr'.cell
    have r1 := hbr'.frozen
    gi_wp2_with fail
    have hK' := (KeepsOthers.setCell W ⟨w.heap.size + 1, 0, none⟩ (.bool true)).same D _ hK rfl
    refine ⟨by simp, .inl ⟨_, _, rfl, run_takeDeferred hK', ?_⟩⟩
    have hc5 := cell_kept (hbr'.set (.bool true)).cell (grownBy_putObj' _ D (.deferred none)) (fun r e => by cases e; exact ⟨_, hK', rfl⟩)
    refine ⟨.bool true, ?_, by rw [hans], (hB.setCell (p := ⟨w.heap.size + 1, 0, none⟩) (by simp) _).trans (belowK_b (w := w) (Nat.le_refl _) _ D _ _ (by omega) hK' rfl rfl)⟩
    simp [results, Tryz.results48, go_sem, hc5]
  case stop =>
    rintro D c pre W hD hpre ⟨rfl, hbad, hbr', hB⟩ hK
    have hans : decide (0 < qT t 1) = false := by
      rw [qT_start]
      rcases hbad with h | h
      · have : (pord t 1).all gdB = false := by
          obtain ⟨r, hr⟩ := hpre
          rw [← hr, List.all_append, h]; rfl
        rw [this]; rfl
      · have := hpre.length_le
        simp only [List.length_map] at this
        simp; intro _; omega
    gi_wp2_with fail
    refine ⟨by simp, .inl ⟨_, _, rfl, run_takeDeferred hK, ?_⟩⟩
    have hc5 := cell_kept hbr'.cell (grownBy_putObj' _ D (.deferred none)) (fun r e => by cases e; exact ⟨_, hK, rfl⟩)
    refine ⟨.bool false, ?_, by rw [hans], hB.trans (belowK_b (w := w) (Nat.le_refl _) W D _ _ (by omega) hK rfl rfl)⟩
    simp [results, Tryz.results48, go_sem, hc5]

end Go.Proofs.YtcpfelaffclalaaGreatDoor

/- The program's ofPair at the table of widenings, whatever the two schemas (the other sorts), and ofWhole, KindFits. Conditions: the table of widenings lies in its block. -/

namespace Go.Proofs.YtcpfelaffclalaaGreatDoor
open Go Go.RowKit

theorem ksz_lenU (k : Kd) : k.kids.length < ksz k := by
  have : ∀ l : List Kd, l.length ≤ klsz l := fun l => by
    induction l with
    | nil => simp
    | cons a r ih =>
      obtain ⟨s, ns, ks⟩ := a
      rw [klsz, ksz, List.length_cons]
      omega
  obtain ⟨s, ns, ks⟩ := k
  have := this ks
  rw [ksz]
  show ks.length < _
  omega
theorem fit_leaf {n : Nat} {a b : Kd} (hb : b.sort ≠ 6) (h : a.sort = b.sort) (h4 : a.sort ≠ 4) (hna : a.names.length = 0) (hnb : b.names.length = 0) : fitF (n + 1) a b = true := by
  rw [fit_eq hb h h4, hna, hnb]
  rfl
section
variable {GW : Kd → Kd → (Nat → Prop) → World → Value → Prop} (HG : GLaws GW) (n : Nat) (IH : PairSaid GW n) (a b : Kd) (hna : ksz a ≤ 40) (hnb : ksz b ≤ 40) (hn : ksz b ≤ n + 1) (a1 a2 b1 b2 : Option Addr) (p1 p2 q1 q2 : Nat) (w : World) (T : Nat) (path : ByteArray) (hT : WT w T) (hps : path.size + (n + 1) * 100 ≤ 900000)
  (ha : KW w a ⟨.int .i64 a.sort, .slice a1 a.names.length p1, .slice a2 a.kids.length p2⟩) (hb : KW w b ⟨.int .i64 b.sort, .slice b1 b.names.length q1, .slice b2 b.kids.length q2⟩)
include HG IH hna hnb hn hT hps ha hb
theorem pair_into (sa : Nat) (hsa : a.sort = (sa : Int)) (h0 : sa ≠ 0) (h6 : sa ≤ 5) (h5 : b.sort = 6) :
    Calls Tryz.prog 58 #[.pointer (some ⟨T, 0, none⟩), .agg #[.int .i64 a.sort, .slice a1 a.names.length p1, .slice a2 a.kids.length p2], .agg #[.int .i64 b.sort, .slice b1 b.names.length q1, .slice b2 b.kids.length q2], .string path] w fun e w' => Below w.heap.size w w' ∧ ∃ fv er, e = .returned (.tuple #[fv, er]) ∧ PFR GW (n + 1) a b T (New w w') w' fv er := by
  have hkb : b.kids.length = 1 := by rcases hb.sh with h' | h' | h' <;> omega
  obtain ⟨yb, yo, yc, y1, y2, s1, s2, ey, hyl, y0, y3, y4, hy⟩ := hb.kid (i := 0) (by omega)
  simp only [Value.slice.injEq, true_and] at ey
  obtain ⟨rfl, rfl⟩ := ey
  have hmb : b.kids[0]'(by omega) ∈ b.kids := List.getElem_mem _
  have hzb := ksz_kid hmb
  have hsy : (b.kids[0]'(by omega)).sort ≠ 0 := by rcases hy.sh with h' | h' | h' <;> omega
  have hp : pF (n + 1) a b = pF n a (b.kids[0]'(by omega)) := by
    rw [pF_fit (by omega) hsy, pF_fit (by omega) (by omega)]
    exact fit_xm h5 (by omega) _
  have hps2 : path.size ≤ 1000000 := by omega
  have hoka := ha.ok
  have hokb := hb.ok
  have hent : ent T sa 6 = wv T 54 := by
    rcases (show sa = 1 ∨ sa = 2 ∨ sa = 3 ∨ sa = 4 ∨ sa = 5 by omega) with rfl | rfl | rfl | rfl | rfl <;> rfl
  refine pair_do HG (n + 1) a b sa 6 54 hsa h5 (by omega) (by omega) T hent enInto _ _ _ _ _ _ _ _ w path hT fun W hW => ?_
  rw [hkb]
  have hIH : ∀ V, Below W.heap.size W V → Calls Tryz.prog 58 #[.pointer (some ⟨T, 0, none⟩), .agg #[.int .i64 a.sort, .slice a1 a.names.length p1, .slice a2 a.kids.length p2], .agg #[.int .i64 (b.kids[0]'(by omega)).sort, .slice y1 (b.kids[0]'(by omega)).names.length s1, .slice y2 (b.kids[0]'(by omega)).kids.length s2], .string (path ++ ⟨#[63]⟩)] V fun e w' => Below V.heap.size V w' ∧ ∃ fv er, e = .returned (.tuple #[fv, er]) ∧ PFR GW n a (b.kids[0]'(by omega)) T (New V w') w' fv er := fun V hV => by
    have hwV : Below w.heap.size w V := hW.trans (hV.mono hW.size)
    exact IH _ _ (fun _ => by omega) (by omega) (by omega) ⟨_, _, _⟩ ⟨_, _, _⟩ V T _ (hT.on hwV) (Or.inl (ha.on hwV)) (Or.inl (hy.on hwV)) (szP1 _ hps)
  have hbox : ∀ e w', InBox 86 (PFR GW n a (b.kids[0]'(by omega)) T) W w' e → ∃ fv er, e = .returned (.tuple #[fv, er]) ∧ PFR GW (n + 1) a b T (New W w') w' fv er := fun e w' h7 =>
    h7.pfr hp (ent_ne hsa h5 hent) (fun B fv h8 h9 h10 h11 => HG.into a b _ _ B fv h5 (by omega) (by omega) (by omega) hoka hokb h8 h9 h10 h11)
  by_cases hne : ent T a.sort.toNat (b.kids[0]'(by omega)).sort.toNat = .nilFunc
  · refine (intoMaybe_walkN T a.sort b.sort a1 a2 b1 a.names.length a.kids.length p1 p2 b.names.length q1 q2 yb yo _ y1 y2 _ _ s1 s2 path W (PFR GW n a (b.kids[0]'(by omega)) T) (by rw [hW.cell hyl]; exact y0) (by rw [hW.cell hyl]; exact y3) (by rw [hW.cell hyl]; exact y4) (Nat.lt_of_lt_of_le hyl hW.size) hps2 (fun V hV => ?_) (PFR.on HG)).mono fun e w' ⟨h8, h7⟩ => ⟨h8, hbox e w' h7⟩
    refine (hIH V hV).mono fun e w' ⟨k1, fv, er, k2, k3⟩ => ?_
    have k4 := k3.2.1 hne
    subst k4
    exact ⟨k1, er, k2, k3⟩
  · refine (intoMaybe_walkF T a.sort b.sort a1 a2 b1 a.names.length a.kids.length p1 p2 b.names.length q1 q2 yb yo _ y1 y2 _ _ s1 s2 path W (PFR GW n a (b.kids[0]'(by omega)) T) (by rw [hW.cell hyl]; exact y0) (by rw [hW.cell hyl]; exact y3) (by rw [hW.cell hyl]; exact y4) (Nat.lt_of_lt_of_le hyl hW.size) hps2 (fun V hV => ?_) (PFR.on HG)).mono fun e w' ⟨h8, h7⟩ => ⟨h8, hbox e w' h7⟩
    refine (hIH V hV).mono fun e w' ⟨k1, fv, er, k2, k3⟩ => ?_
    obtain ⟨f, bs, cs, k4⟩ := k3.2.2 hne
    subst k4
    exact ⟨k1, f, bs, cs, er, k2, k3⟩
theorem pair_form (h4 : a.sort = 5) (h5 : b.sort = 5) :
    Calls Tryz.prog 58 #[.pointer (some ⟨T, 0, none⟩), .agg #[.int .i64 a.sort, .slice a1 a.names.length p1, .slice a2 a.kids.length p2], .agg #[.int .i64 b.sort, .slice b1 b.names.length q1, .slice b2 b.kids.length q2], .string path] w fun e w' => Below w.heap.size w w' ∧ ∃ fv er, e = .returned (.tuple #[fv, er]) ∧ PFR GW (n + 1) a b T (New w w') w' fv er := by
  obtain ⟨hla, hra⟩ : a.kids.length = a.names.length ∧ riseB a.names = true := by
    rcases ha.sh with h' | h' | h'
    · omega
    · omega
    · exact h'.2
  obtain ⟨hlb, hrb⟩ : b.kids.length = b.names.length ∧ riseB b.names = true := by
    rcases hb.sh with h' | h' | h'
    · omega
    · omega
    · exact h'.2
  have hza : ∀ k, k ∈ a.kids → k.sort ≠ 0 := fun k hk => by
    obtain ⟨i, hi, rfl⟩ := List.mem_iff_getElem.1 hk
    obtain ⟨_, _, _, _, _, _, _, _, _, _, _, _, hx⟩ := ha.kid hi
    rcases hx.sh with h' | h' | h' <;> omega
  have hzb : ∀ k, k ∈ b.kids → k.sort ≠ 0 := fun k hk => by
    obtain ⟨i, hi, rfl⟩ := List.mem_iff_getElem.1 hk
    obtain ⟨_, _, _, _, _, _, _, _, _, _, _, _, hx⟩ := hb.kid hi
    rcases hx.sh with h' | h' | h' <;> omega
  have hp : pF (n + 1) a b = (uniN a.names b.names).all fun nm => pF n (kidZ a nm) (kidZ b nm) := by
    rw [pF_fit (by omega) (by omega)]
    exact fit_union h4 h5 hla hlb (rise_nodup hra) (rise_nodup hrb) hza hzb _ (fun nm => uniN_mem nm)
  have hnm : ∀ nm, nm ∈ uniN a.names b.names → nm.size ≤ 8 := fun nm hm => by
    rcases (uniN_mem nm).1 hm with h | h
    · exact rise_szU hra h
    · exact rise_szU hrb h
  have hlA : a.names.length ≤ 1000 := by have := ksz_lenU a; omega
  have hlB : b.names.length ≤ 1000 := by have := ksz_lenU b; omega
  have hent : ent T 5 5 = wv T 56 := rfl
  have hoka := ha.ok
  have hokb := hb.ok
  refine pair_do HG (n + 1) a b 5 5 56 h4 h5 (by omega) (by omega) T hent enForm _ _ _ _ _ _ _ _ w path hT fun W hW => ?_
  refine (ofForm_walk a b T a1 a2 b1 b2 p1 p2 q1 q2 path W (fun nm => pF n (kidZ a nm) (kidZ b nm)) (fun nm => GW (kidZ a nm) (kidZ b nm)) (fun nm => HG.on (kidZ a nm) (kidZ b nm)) (ha.on hW) (hb.on hW) h4 h5 hlA hlB (by omega) (fun nm hm => by have := hnm nm hm; omega) (fun nm hm V x y hV hx hy => ?_)).mono fun e w' ⟨h6, h7⟩ => ⟨h6, ?_⟩
  · have hwV : Below w.heap.size w V := hW.trans (hV.mono hW.size)
    exact (IH _ _ (kidZ_lt hn nm) (kidZ_sz hna nm) (kidZ_sz hnb nm) x y V T _ (hT.on hwV) hx hy (szP3 hps (hnm nm hm))).mono fun e w' ⟨k1, fv, er, k2, k3⟩ => ⟨k1, fv, er, k2, k3.1⟩
  · obtain ⟨g1, g2, er, rfl, h8⟩ := h7
    refine ⟨_, _, rfl, ?_, fun h => absurd h (ent_ne h4 h5 hent), fun _ => ⟨_, _, _, rfl⟩⟩
    rcases h8 with ⟨e1, e2, e3⟩ | ⟨e1, e2⟩
    · exact Or.inl ⟨hp.trans e1, e2, ⟨_, _, _, rfl⟩, HG.form a b _ _ g1 g2 h4 h5 hoka hokb e3⟩
    · exact Or.inr ⟨hp.trans e1, Or.inr ⟨_, _, _, rfl⟩, e2⟩
end
theorem pair_leaf {GW : Kd → Kd → (Nat → Prop) → World → Value → Prop} (HG : GLaws GW) (n : Nat) (a b : Kd) (s : Nat) (hsa : a.sort = (s : Int)) (hsb : b.sort = (s : Int)) (h1 : 1 ≤ s) (h3 : s ≤ 3) (hp : pF n a b = true) (a1 a2 b1 b2 : Option Addr) (p1 p2 q1 q2 : Nat) (w : World) (T : Nat) (path : ByteArray) (hT : WT w T) :
    Calls Tryz.prog 58 #[.pointer (some ⟨T, 0, none⟩), .agg #[.int .i64 a.sort, .slice a1 a.names.length p1, .slice a2 a.kids.length p2], .agg #[.int .i64 b.sort, .slice b1 b.names.length q1, .slice b2 b.kids.length q2], .string path] w fun e w' => Below w.heap.size w w' ∧ ∃ fv er, e = .returned (.tuple #[fv, er]) ∧ PFR GW n a b T (New w w') w' fv er := by
  have hent : ent T s s = wv T 53 := by
    rcases (show s = 1 ∨ s = 2 ∨ s = 3 by omega) with rfl | rfl | rfl <;> rfl
  refine pair_do HG n a b s s 53 hsa hsb (by omega) (by omega) T hent enLeaf _ _ _ _ _ _ _ _ w path hT fun W hW => ?_
  exact (ofLeaf_walk T _ _ _ _ _ _ _ _ _ _ _ _ _ _ path W).mono fun e w' ⟨k1, k2⟩ => ⟨k1, _, _, k2, Or.inl ⟨hp, rfl, ⟨_, _, _, rfl⟩, HG.leaf a b _ _ (by omega) (by omega)⟩, fun h => absurd h (ent_ne hsa hsb hent), fun _ => ⟨_, _, _, rfl⟩⟩
theorem pair_none {GW : Kd → Kd → (Nat → Prop) → World → Value → Prop} (HG : GLaws GW) (n : Nat) (a b : Kd) (hsa : a.sort = 0) (hsb : b.sort = 6) (a1 a2 b1 b2 : Option Addr) (p1 p2 q1 q2 : Nat) (w : World) (T : Nat) (path : ByteArray) (hT : WT w T) :
    Calls Tryz.prog 58 #[.pointer (some ⟨T, 0, none⟩), .agg #[.int .i64 a.sort, .slice a1 a.names.length p1, .slice a2 a.kids.length p2], .agg #[.int .i64 b.sort, .slice b1 b.names.length q1, .slice b2 b.kids.length q2], .string path] w fun e w' => Below w.heap.size w w' ∧ ∃ fv er, e = .returned (.tuple #[fv, er]) ∧ PFR GW n a b T (New w w') w' fv er := by
  have hent : ent T 0 6 = wv T 52 := rfl
  have hp : pF n a b = true := by unfold pF; rw [if_pos hsa]; exact decide_eq_true hsb
  refine pair_do HG n a b 0 6 52 hsa hsb (by omega) (by omega) T hent enNone _ _ _ _ _ _ _ _ w path hT fun W hW => ?_
  exact (ofNone_walk T _ _ _ _ _ _ _ _ _ _ _ _ _ _ path W).mono fun e w' ⟨k1, k2⟩ => ⟨k1, _, _, k2, Or.inl ⟨hp, rfl, ⟨_, _, _, rfl⟩, HG.zero a b _ _ hsa hsb⟩, fun h => absurd h (ent_ne (sa := 0) (sb := 6) hsa hsb hent), fun _ => ⟨_, _, _, rfl⟩⟩
theorem pair_step {GW : Kd → Kd → (Nat → Prop) → World → Value → Prop} (HG : GLaws GW) (n : Nat) (IH : ∀ m, n = m + 1 → PairSaid GW m) : PairSaid GW n := by
  intro a b hbn hna hnb c d w T path hT hc hd hps
  obtain ⟨sa, hsa, ha6, ha0, haw⟩ := hc.sort
  obtain ⟨sb, hsb, hb6, hb0, hbw⟩ := hd.sort
  obtain ⟨a1, a2, p1, p2, rfl⟩ := hc.form
  obtain ⟨b1, b2, q1, q2, rfl⟩ := hd.form
  by_cases h0b : sb = 0
  · refine pair_no n a b sa sb hsa hsb ha6 hb6 (by omega) ?_ a1 a2 b1 b2 p1 p2 q1 q2 w T path hT
    unfold pF
    split
    · exact decide_eq_false (by omega)
    · rw [if_pos (by omega)]
  by_cases h0a : sa = 0
  · by_cases h6 : sb = 6
    · exact pair_none HG n a b (by omega) (by omega) a1 a2 b1 b2 p1 p2 q1 q2 w T path hT
    · refine pair_no n a b sa sb hsa hsb ha6 hb6 (by omega) ?_ a1 a2 b1 b2 p1 p2 q1 q2 w T path hT
      unfold pF
      rw [if_pos (by omega)]
      exact decide_eq_false (by omega)
  have ha := haw h0a
  have hb := hbw h0b
  have hkn := hbn (by omega)
  have hpos := ksz_lenU b
  obtain ⟨m, rfl⟩ : ∃ m, n = m + 1 := ⟨n - 1, by omega⟩
  have IHm := IH m rfl
  by_cases h6 : sb = 6
  · by_cases h6a : sa = 6
    · exact pair_each HG m IHm a b hna hnb hkn a1 a2 b1 b2 p1 p2 q1 q2 w T path hT hps ha hb _ (Or.inr ⟨rfl, by omega, by omega⟩)
    · exact pair_into HG m IHm a b hna hnb hkn a1 a2 b1 b2 p1 p2 q1 q2 w T path hT hps ha hb sa hsa h0a (by omega) (by omega)
  by_cases hab : sa = sb
  · subst hab
    by_cases h4 : sa = 4
    · exact pair_each HG m IHm a b hna hnb hkn a1 a2 b1 b2 p1 p2 q1 q2 w T path hT hps ha hb _ (Or.inl ⟨rfl, by omega, by omega⟩)
    by_cases h5 : sa = 5
    · exact pair_form HG m IHm a b hna hnb hkn a1 a2 b1 b2 p1 p2 q1 q2 w T path hT hps ha hb (by omega) (by omega)
    · refine pair_leaf HG (m + 1) a b sa hsa hsb (by omega) (by omega) ?_ a1 a2 b1 b2 p1 p2 q1 q2 w T path hT
      rw [pF_fit (by omega) (by omega)]
      refine fit_leaf (by omega) (by omega) (by omega) ?_ ?_
      · rcases ha.sh with h' | h' | h' <;> omega
      · rcases hb.sh with h' | h' | h' <;> omega
  · refine pair_no (m + 1) a b sa sb hsa hsb ha6 hb6 (by omega) ?_ a1 a2 b1 b2 p1 p2 q1 q2 w T path hT
    rw [pF_fit (by omega) (by omega)]
    exact fit_ne (by omega) (by omega)
theorem pair_all {GW : Kd → Kd → (Nat → Prop) → World → Value → Prop} (HG : GLaws GW) (n : Nat) : PairSaid GW n := by
  induction n with
  | zero => exact pair_step HG 0 (fun m h => by omega)
  | succ n IH =>
    refine pair_step HG (n + 1) (fun m h => ?_)
    obtain rfl : n = m := by omega
    exact IH
end Go.Proofs.YtcpfelaffclalaaGreatDoor
