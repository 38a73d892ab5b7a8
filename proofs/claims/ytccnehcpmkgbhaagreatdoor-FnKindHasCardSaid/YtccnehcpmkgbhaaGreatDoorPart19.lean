/- A part. -/
import Derived.Test.YtccnehcpmkgbhaaGreatDoorPart18
set_option maxRecDepth 100000
set_option maxHeartbeats 3200000
namespace Go.Proofs.YtccnehcpmkgbhaaGreatDoor
open Go Go.RowKit Go.Shelf
attribute [local go_sem] Oper.semAt_some
theorem Kept.setCell {n₀ : Nat} {S : Nat → Prop} (W : World) (p : Addr) (v : Value) (hS : S p.block) (hn : n₀ ≤ p.block) : Kept n₀ S W (W.setCell p v) :=
 ⟨(Below.refl _ W).setCell hn _, fun k o hk ho _ => (Below.heap_setCell _ _ _ _ (fun e => hk (by rw [e]; exact hS))).trans ho⟩
theorem implKindOk_any (t : Kd) (P : Nat → Prop) (c : C3) (w : World) (hP : ∀ b, P b → b < w.heap.size) (hrep : KRep P w t c) (hwt : wKd t ≤ 1048576) :
 Calls Tryz.prog 21 #[.agg #[c.c0, c.c1, c.c2]] w fun e w' => e = .returned (.bool (decide (0 < qT t 1))) ∧ Below w.heap.size w w' := by
 obtain ⟨c0, c1, c2⟩ := c
 have hrep' : KRep (fun b => b < w.heap.size) w t ⟨c0, c1, c2⟩ := KRep.carry (fun _ _ => rfl) hP _ _ hrep
 obtain ⟨e0, -, ⟨a3, cap3, e1, hl3, -⟩, a, cap, e2, hlen, -⟩ := hrep.open
 simp only at e0 e1 e2
 subst e0 e1 e2
 have HREP := hH hrep'
 clear hrep hrep' hP
 have hksz : ksz t ≤ 1152921504606846970 := by have := ksz_w t; omega
 refine (callsIn_wide (n := 8)).1 ?_
 refine callsIn_of_wp_marks Tryz.func21 rfl trivial ?_ rfl
 simp only [Tryz.ntmps21, List.size_toArray, List.length_cons, List.length_nil, Nat.reduceAdd, Nat.reduceSub, Array.replicate_succ, Array.replicate_zero, List.push_toArray, List.append_toArray, List.nil_append, List.cons_append]
 gi_wp2_with ((try refine ⟨trivial, ?_⟩); gi_at_call 47; refine (walk_in Fence.wide _ trivial rfl _ _ _ _ _ _).mono ?_; rintro e w' ⟨rfl, rfl⟩)
 obtain ⟨W0, hW0⟩ : ∃ W0, ((((w.alloc (.cells #[.int .i64 t.sort, .slice a3 t.names.length cap3, .slice a t.kids.length cap] 26)).alloc (.cells #[.bool false] 4)).alloc (.cells #[.int .i64 0] 3)).alloc (.cells #[.int .i64 t.sort, .slice a3 t.names.length cap3, .slice a t.kids.length cap] 26)) = W0 := ⟨_, rfl⟩
 have hsz : W0.heap.size = w.heap.size + 4 := by rw [← hW0]; simp
 have hB0 : Below w.heap.size w W0 := by rw [← hW0]; exact ((((Below.refl _ w).alloc (Nat.le_refl _) _).alloc (by simp) _).alloc (by simp; omega) _).alloc (by simp; omega) _
 have hbr : Boxed W0 (w.heap.size + 1) 4 (.bool false) := by
  rw [← hW0]
  have := (Boxed.new (w.alloc (.cells #[.int .i64 t.sort, .slice a3 t.names.length cap3, .slice a t.kids.length cap] 26)) 4 (.bool false))
  rw [World.size_alloc] at this
  exact (this.alloc _).alloc _
 have hbp : Boxed W0 (w.heap.size + 1 + 1) 3 (.int .i64 0) := by
  rw [← hW0]
  have := (Boxed.new ((w.alloc (.cells #[.int .i64 t.sort, .slice a3 t.names.length cap3, .slice a t.kids.length cap] 26)).alloc (.cells #[.bool false] 4)) 3 (.int .i64 0))
  rw [World.size_alloc, World.size_alloc] at this
  exact this.alloc _
 have hbt : C3.at W0 (w.heap.size + 1 + 1 + 1) 0 ⟨.int .i64 t.sort, .slice a3 t.names.length cap3, .slice a t.kids.length cap⟩ := by
  rw [← hW0]
  have q := row3_alloc (((w.alloc (.cells #[.int .i64 t.sort, .slice a3 t.names.length cap3, .slice a t.kids.length cap] 26)).alloc (.cells #[.bool false] 4)).alloc (.cells #[.int .i64 0] 3)) (.int .i64 t.sort) (.slice a3 t.names.length cap3) (.slice a t.kids.length cap) 26
  rw [World.size_alloc, World.size_alloc, World.size_alloc] at q
  exact ⟨q.cell (i := 0) (by omega), q.cell (i := 1) (by omega), q.cell (i := 2) (by omega)⟩
 rw [hW0]
 clear hW0
 refine wpIn_rangeFunc_ownH (α := KX w.heap.size w) (encs := kEnc) (Kp := Kept w.heap.size (fun k => k = w.heap.size + 1 ∨ k = w.heap.size + 1 + 1)) (S := fun ys => ys.map kKey = pord t 1) (Sp := fun pre => pre.map kKey <+: pord t 1) (N := (pord t 1).length) (w0 := W0) rfl (by omega)
  (gf := 73) (lb := #[.pointer (some ⟨w.heap.size + 1 + 1 + 1, 0, none⟩)]) rfl trivial (enters_of Tryz.func73 (by kernel_rfl) rfl)
  (fun l J Jx W hW hJ hJx hY h0 => walk1_in Fence.wide rfl _ trivial trivial trivial rfl l (w.heap.size + 1 + 1 + 1) w.heap.size (w.heap.size + 4) _ w (Nat.le_refl _) t _ (uh HREP) hksz J Jx (fun s A B hs hg => hJ s A B none hs hg (fun r e => by cases e)) (fun k hk => by omega) hY W (hbt.carry (hW.block _ (by omega))) (hB0.trans (hW.mono hB0.size)) (by have := hW.size; omega) h0)
  Kept.trans (Kept.putObj (by omega)) (Below.refl _ _) (fun _ => rfl)
  (fun pre W => (pre.map kKey).all gdB = true ∧ pre.length ≤ 40 ∧ (Boxed W (w.heap.size + 1) 4 (.bool false) ∧ Boxed W (w.heap.size + 1 + 1) 3 (.int .i64 pre.length)) ∧ Below w.heap.size w W)
  (fun c pre W => c = .ret ∧ ((pre.map kKey).all gdB = false ∨ 40 < pre.length) ∧ Boxed W (w.heap.size + 1) 4 (.bool false) ∧ Below w.heap.size w W)
  ?hI ?hIx ?h0
  (fun x a' W => ∃ Bx, w.heap.size + 1 + 1 < Bx ∧ C3.at W Bx 0 x.1.2.2 ∧ a' = { tmps := #[.agg #[.int .i64 t.sort, .slice a3 t.names.length cap3, .slice a t.kids.length cap], .pointer (some ⟨w.heap.size, 0, none⟩), .pointer (some ⟨w.heap.size + 1, 0, none⟩), .pointer (some ⟨w.heap.size + 1 + 1, 0, none⟩), .int .i64 x.1.1, .pointer (some ⟨Bx, 0, none⟩), .agg #[.int .i64 t.sort, .slice a3 t.names.length cap3, .slice a t.kids.length cap], .func (.func 73) #[] #[.pointer (some ⟨w.heap.size + 1 + 1 + 1, 0, none⟩)], .int .i64 x.1.1, .agg #[x.1.2.2.c0, x.1.2.2.c1, x.1.2.2.c2], undef, undef, undef, undef, undef, undef, undef, undef, undef, undef, undef, undef, undef], defers := [] })
  ?hAx ?assign ?body ?done ?stop
 case hI =>
  exact fun s W W' row hs hg hr => ⟨hs.1, hs.2.1, ⟨boxed_own _ _ (fun _ => .bool false) s W W' row hs.2.2.1.1 hg (fun r e => (hr r e).2), boxed_own _ _ (fun pre : List (KX w.heap.size w) => .int .i64 pre.length) s W W' row hs.2.2.1.2 hg (fun r e => (hr r e).2)⟩, ownFrom_below (Nat.le_refl _) (by omega) s W W' row hs.2.2.2 hg hr⟩
 case hIx =>
  exact fun c s W W' row hs hg hr => ⟨hs.1, hs.2.1, boxed_own _ _ (fun _ => .bool false) s W W' row hs.2.2.1 hg (fun r e => (hr r e).2), ownFrom_below (Nat.le_refl _) (by omega) s W W' row hs.2.2.2 hg hr⟩
 case h0 => exact ⟨by simp, by simp, ⟨hbr, by simpa using hbp⟩, hB0⟩
 case hAx =>
  rintro x a' s W W' row ⟨Bx, hBx, ⟨f0, f1, f2⟩, rfl⟩ hg hr
  exact ⟨Bx, hBx, ⟨cell_kept f0 hg (fun r e => (hr r e).2), cell_kept f1 hg (fun r e => (hr r e).2), cell_kept f2 hg (fun r e => (hr r e).2)⟩, rfl⟩
 case assign =>
  rintro l pre ⟨⟨lv, T, ⟨d0, d1, d2⟩⟩, hx⟩ W K hi hK
  obtain ⟨g0, -, ⟨a5, cap5, g1, -⟩, a6, cap6, g2, -⟩ := hx.open
  simp only at g0 g1 g2
  subst g0 g1 g2
  have HK := hH hK; have HI := hH hi
  clear hK hi
  simp only [kEnc]
  gi_wp2
  obtain ⟨h1, h2, ⟨h3, h4⟩, h5⟩ := uh HI
  have q := row3_alloc W (.int .i64 T.sort) (.slice a5 T.names.length cap5) (.slice a6 T.kids.length cap6) 26
  exact uh HK _ _ ((KeepsOthers.alloc _ _).from _) (Kept.grown (World.grownBy_alloc _ _ none) h5.size) ⟨h1, h2, ⟨h3.alloc _, h4.alloc _⟩, h5.alloc h5.size _⟩ ⟨W.heap.size, h4.lt, ⟨q.cell (i := 0) (by omega), q.cell (i := 1) (by omega), q.cell (i := 2) (by omega)⟩, rfl⟩
 case body =>
  rintro l pre x a' W hl - ⟨hall, h40, ⟨hbr', hbp'⟩, hB⟩ ⟨Bx, hBx, hat, rfl⟩ hlt
  have hx := x.2
  have hk : kKey x = (x.1.1, x.1.2.1) := rfl
  obtain ⟨lv, T, d0, d1, d2, hxe⟩ : ∃ lv T d0 d1 d2, x.1 = (lv, T, ⟨d0, d1, d2⟩) := by obtain ⟨⟨lv, T, ⟨d0, d1, d2⟩⟩, _⟩ := x; exact ⟨_, _, _, _, _, rfl⟩
  rw [hxe] at hx
  simp only [hxe] at hk hat ⊢
  obtain ⟨g0, -, ⟨a5, cap5, g1, -⟩, a6, cap6, g2, -⟩ := hx.open
  simp only at g0 g1 g2
  clear hxe
  subst g0 g1 g2
  obtain ⟨f0, f1, f2⟩ := hat
  simp only at f0 f1 f2
  have p0 := hbp'.cell
  have p1 := hbp'.frozen
  have r0 := hbr'.cell
  have r1 := hbr'.frozen
  have hB1 : ∀ v, Below w.heap.size w (W.setCell ⟨w.heap.size + 1 + 1, 0, none⟩ v) := fun v => hB.setCell (by simp; omega) _
  have hcall : ∀ v, Calls Tryz.prog 48 #[.agg #[.int .i64 T.sort, .slice a5 T.names.length cap5, .slice a6 T.kids.length cap6]] (W.setCell ⟨w.heap.size + 1 + 1, 0, none⟩ v) fun e w' => e = .returned (.bool (shB T)) ∧ ∃ o, w' = (W.setCell ⟨w.heap.size + 1 + 1, 0, none⟩ v).alloc o := fun v =>
   kindShaped_any T (fun b => b < w.heap.size) ⟨_, _, _⟩ _ (fun b hb => Nat.lt_of_lt_of_le hb (hB1 v).size) (KRep.carry (fun b hb => (hB1 v).block b hb) (fun _ h => h) _ _ hx)
  have HCALL := hH hcall; have HB := hH hB; have HBR := hH hbr'; have HBP := hH hbp'; have HALL := hH hall
  have HK := hH hk
  clear hcall hB1 hB hbr' hbp' hall hx hk
  have hkp : ∀ v, Kept w.heap.size (fun k => k = w.heap.size + 1 ∨ k = w.heap.size + 1 + 1) W (W.setCell ⟨w.heap.size + 1 + 1, 0, none⟩ v) := fun v => Kept.setCell W _ _ (Or.inr rfl) (by simp; omega)
  have HKP := hH hkp; clear hkp
  have hbr2 : ∀ v o, Boxed ((W.setCell ⟨w.heap.size + 1 + 1, 0, none⟩ v).alloc o) (w.heap.size + 1) 4 (.bool false) := fun v o => ((uh HBR).other (by omega) v).alloc o
  have r2 : ∀ v o, ((W.setCell ⟨w.heap.size + 1 + 1, 0, none⟩ v).alloc o).cell? ⟨w.heap.size + 1, 0, none⟩ = some (.bool false) := fun v o => (hbr2 v o).cell
  have r3 : ∀ v o, ((W.setCell ⟨w.heap.size + 1 + 1, 0, none⟩ v).alloc o).frozen? ⟨w.heap.size + 1, 0, none⟩ = false := fun v o => (hbr2 v o).frozen
  have HBR2 := hH hbr2; clear hbr2
  have hnx : (((pre ++ [x]).length : Nat) : Int) = (pre.length : Int) + 1 := by simp
  have HNX := hH hnx; clear hnx
  by_cases hp : 40 < pre.length + 1
  · have b1 : decide ((40 : Int) < (pre.length : Int) + 1) = true := by simp; omega
    gi_wp2_with fail
    refine ⟨trivial, ?_⟩
    gi_wp2_with fail
    refine ⟨((KeepsOthers.setCell _ _ _).trans (KeepsOthers.setCell _ _ _)).from _, rfl, Or.inr (by simp; omega), ?_, ?_⟩
    · exact ((uh HBR).other (by omega) _).set _
    · exact ((uh HB).setCell (by simp; omega) _).setCell (by simp) _
  · have b1 : decide ((40 : Int) < (pre.length : Int) + 1) = false := by simp; omega
    by_cases h6 : 6 < lv
    · have hbad : ((pre ++ [x]).map kKey).all gdB = false := by
       rw [List.map_append, List.all_append]
       simp [uh HK, gdB]; omega
      have HBAD := hH hbad; clear hbad
      gi_wp2_with fail
      refine ⟨trivial, ?_⟩
      gi_wp2_with fail
      refine ⟨((KeepsOthers.setCell _ _ _).trans (KeepsOthers.setCell _ _ _)).from _, rfl, Or.inl (uh HBAD), ?_, ?_⟩
      · exact ((uh HBR).other (by omega) _).set _
      · exact ((uh HB).setCell (by simp; omega) _).setCell (by simp) _
    · cases hsh : shB T
      · have hbad : ((pre ++ [x]).map kKey).all gdB = false := by
         rw [List.map_append, List.all_append]
         simp [uh HK, gdB, hsh]
        have HBAD := hH hbad; clear hbad
        rw [hsh] at HCALL
        gi_wp2_with ((try refine ⟨trivial, ?_⟩); gi_at_call 48; refine (CallsIn.inRound l (callsIn_wide.2 (uh HCALL _))).mono ?_; rintro e w' ⟨rfl, o, rfl⟩)
        refine ⟨(((KeepsOthers.setCell _ _ _).trans (KeepsOthers.alloc _ _)).trans (KeepsOthers.setCell _ _ _)).from _, rfl, Or.inl (uh HBAD), ?_, ?_⟩
        · exact (uh HBR2 _ _).set _
        · exact (((uh HB).setCell (by simp; omega) _).alloc (by have := (uh HB).size; simp [World.setCell]; omega) _).setCell (by simp) _
      · have hgood : ((pre ++ [x]).map kKey).all gdB = true := by
         rw [List.map_append, List.all_append, uh HALL]
         simp [uh HK, gdB, hsh]; omega
        have HGOOD := hH hgood; clear hgood
        rw [hsh] at HCALL
        gi_wp2_with ((try refine ⟨trivial, ?_⟩); gi_at_call 48; refine (CallsIn.inRound l (callsIn_wide.2 (uh HCALL _))).mono ?_; rintro e w' ⟨rfl, o, rfl⟩)
        have hsw := (uh HB).size
        refine ⟨((KeepsOthers.setCell _ _ _).trans (KeepsOthers.alloc _ _)).from _, (uh HKP _).trans (Kept.grown (World.grownBy_alloc _ _ none) (by simp [World.setCell]; omega)), uh HGOOD, by simp; omega, ⟨uh HBR2 _ _, ?_⟩, ?_⟩
        · rw [uh HNX]; exact ((uh HBP).set _).alloc _
        · exact ((uh HB).setCell (by simp; omega) _).alloc (by simp [World.setCell]; omega) _
 case done =>
  rintro D ys W hD hS ⟨hall, h40, ⟨hbr', -⟩, hB⟩ hK
  have hans : decide (0 < qT t 1) = true := by
   rw [qT_start, ← hS, hall]
   simp; omega
  have r0 := hbr'.cell
  have r1 := hbr'.frozen
  gi_wp2_with fail
  have hK' := (KeepsOthers.setCell W ⟨w.heap.size + 1, 0, none⟩ (.bool true)).same D _ hK rfl
  refine ⟨by simp, .inl ⟨_, _, rfl, run_takeDeferred hK', ?_⟩⟩
  have hc5 := cell_kept (hbr'.set (.bool true)).cell (grownBy_putObj' _ D (.deferred none)) (fun r e => by cases e; exact ⟨_, hK', rfl⟩)
  refine ⟨.bool true, ?_, by rw [hans], (hB.setCell (p := ⟨w.heap.size + 1, 0, none⟩) (by simp) _).trans (belowK_b (w := w) (Nat.le_refl _) _ D _ _ (by omega) hK' rfl rfl)⟩
  simp [results, Tryz.results21, go_sem, hc5]
 case stop =>
  rintro D c pre W hD hpre ⟨rfl, hbad, hbr', hB⟩ hK
  have hans : decide (0 < qT t 1) = false := by
   rw [qT_start]
   rcases hbad with h | h
   · have : (pord t 1).all gdB = false := by
      obtain ⟨r, hr⟩ := hpre
      rw [← hr, List.all_append, h]; rfl
     rw [this]; rfl
   · have := hpre.length_le
     simp only [List.length_map] at this
     simp; intro _; omega
  gi_wp2_with fail
  refine ⟨by simp, .inl ⟨_, _, rfl, run_takeDeferred hK, ?_⟩⟩
  have hc5 := cell_kept hbr'.cell (grownBy_putObj' _ D (.deferred none)) (fun r e => by cases e; exact ⟨_, hK, rfl⟩)
  refine ⟨.bool false, ?_, by rw [hans], hB.trans (belowK_b (w := w) (Nat.le_refl _) W D _ _ (by omega) hK rfl rfl)⟩
  simp [results, Tryz.results21, go_sem, hc5]
end Go.Proofs.YtccnehcpmkgbhaaGreatDoor

namespace Go.Proofs.YtccnehcpmkgbhaaGreatDoor
open Go Go.RowKit
theorem newReader_any (s : ByteArray) (w : World) :
 Calls Tryz.prog 34 #[.string s] w fun e w' => e = .returned (.pointer (some ⟨w.heap.size, 0, none⟩)) ∧ w' = w.alloc (.cells #[.string s, .int .i64 0] 121) := by
 go_enter Tryz.func34, Tryz.ntmps34
 go_wp2_with fail
 go_ret
 exact ⟨rfl, rfl⟩
def KPW (o : Option Kd) (w : World) (R : Nat) (e : Ending) (w' : World) : Prop :=
 (∃ (k : Kd) (c : C3) (F : List Nat), o = some k ∧ e = .returned (.agg #[c.c0, c.c1, c.c2]) ∧ OwnD w' k c F ∧ F.Nodup ∧ (∀ b, b ∈ F → w.heap.size ≤ b ∧ b < w'.heap.size) ∧ But R w w') ∨ (o = none ∧ e = fltE ∧ But R w w')
theorem KPW.no {o : Option Kd} {w w' : World} {R : Nat} (h : o = none) (hb : But R w w') : KPW o w R fltE w' := Or.inr ⟨h, rfl, hb⟩
theorem progK_cases {s : ByteArray} (h8 : ¬ 800 < s.size) : progK s.data.toList = match krd (s.size + 7) (lf s 0) with
 | some (k, []) => if 0 < qT k 1 then some k else none
 | _ => none := by unfold progK; rw [if_neg (by rw [size_data]; exact h8), lf_zero, size_data]; rfl
theorem whole_any (w : World) (R : Nat) (s : ByteArray) (hs : s.size ≤ 1048576) (h : PRdr w R s 0) (hT : KTab w) (hTR : 0 ≠ R) :
 Calls Tryz.prog 35 #[.pointer (some ⟨R, 0, none⟩)] w fun e w' => KPW (progK s.data.toList) w R e w' := by
 have hlt := h.lt
 have hTlt := hT.lt
 obtain ⟨c0, c1, f1⟩ := h.cells
 by_cases h8 : 800 < s.size
 · have hY : progK s.data.toList = none := by unfold progK; rw [if_pos (by rw [size_data]; exact h8)]
   have hd : decide ((s.size : Int) ≤ 800) = false := by simp; omega
   have HY := hH hY
   clear hY h hT
   go_enter Tryz.func35, Tryz.ntmps35
   go_wp2_with (go_at_call 63; refine (treeWant_no _).mono ?_; rintro e w2 ⟨rfl, rfl⟩)
   exact And.intro rfl (KPW.no (uh HY) (But.alloc _ _ _))
 · have hd : decide ((s.size : Int) ≤ 800) = true := by simp; omega
   have hpw := Pw.start h hT hTR
   have hkind := kind_all (s.size + 7) _ R s 0 hs hpw.rdr (Nat.zero_le _) hpw.tab hTR (by rw [lf_len]; omega)
   have hpc := progK_cases h8
   generalize hYY : progK s.data.toList = Y at *
   have HPW := hH hpw
   clear hpw h hT hYY
   cases hkr : krd (s.size + 7) (lf s 0) with
   | none =>
     rw [hkr] at hpc
     simp only at hpc
     have hk2 : Calls Tryz.prog 68 #[.pointer (some ⟨R, 0, none⟩)] (w.alloc (.cells #[.int .i64 0, .slice none 0 0, .slice none 0 0] 26)) fun e w' => e = fltE ∧ Hid (But R w w') := hkind.mono (by
      rintro e w' (⟨k, c, F, a4, hc, -⟩ | ⟨-, rfl, hb⟩)
      · rw [hkr] at hc; cases hc
      · exact ⟨rfl, (uh HPW).but.trans hb⟩)
     have HKI := hH hk2; have HYN := hH hpc
     clear hk2 hkind hkr hpc
     go_enter Tryz.func35, Tryz.ntmps35
     go_wp2_with (first
      | (go_at_call 63; refine (treeWant_yes _).mono ?_; rintro e w2 ⟨rfl, hw⟩; have hw2 := hw.symm; subst hw2; clear hw)
      | (go_at_call 68; refine (uh HKI).mono ?_; rintro e w3 ⟨rfl, HB3⟩))
     exact And.intro rfl (KPW.no (uh HYN) (uh HB3))
   | some kr =>
     obtain ⟨k, rest⟩ := kr
     have hwt := krd_wt _ _ _ _ hkr
     rw [lf_len] at hwt
     have hk2 : Calls Tryz.prog 68 #[.pointer (some ⟨R, 0, none⟩)] (w.alloc (.cells #[.int .i64 0, .slice none 0 0, .slice none 0 0] 26)) fun e w4 => ∃ (x0 : Int) (ap : Option Addr) (np cp : Nat) (aq : Option Addr) (nq cq : Nat) (F : List Nat) (a4 : Nat), e = .returned (.agg #[.int .i64 x0, .slice ap np cp, .slice aq nq cq]) ∧ Hid (OwnD w4 k ⟨.int .i64 x0, .slice ap np cp, .slice aq nq cq⟩ F) ∧ F.Nodup ∧ Hid (∀ b, b ∈ F → w.heap.size + 1 ≤ b ∧ b < w4.heap.size) ∧ Hid (Pw w R s a4 w4) ∧ a4 ≤ s.size ∧ Hid (rest = lf s a4) := hkind.mono (by
      rintro e w4 (⟨k', ⟨y0, y1, y2⟩, F, a4, hc, h4, rfl, ho, hnd, hF, hr, hb⟩ | ⟨hc, -⟩)
      · rw [hkr] at hc
        simp only [Option.some.injEq, Prod.mk.injEq] at hc
        obtain ⟨rfl, hc⟩ := hc
        obtain ⟨p0, -, F1, F2, -, ⟨ap, cp, p1, -⟩, aq, cq, p2, -⟩ := ho.open
        simp only at p0 p1 p2
        subst p0 p1 p2
        exact ⟨_, _, _, _, _, _, _, F, a4, rfl, ho, hnd, fun b hb' => by have := hF b hb'; rw [World.size_alloc] at this; exact this, (uh HPW).next hb hr, h4, hc⟩
      · rw [hkr] at hc; cases hc)
     rw [hkr] at hpc
     have HKI := hH hk2; have HPC := hH hpc
     clear hk2 hkind hkr hpc
     cases hrest : rest with
     | cons c r =>
       have hy : Y = none := by rw [uh HPC, hrest]
       have HYN := hH hy
       have HRR := hH hrest
       clear hy hrest
       go_enter Tryz.func35, Tryz.ntmps35
       go_wp2_with (first
        | (go_at_call 63; refine (treeWant_yes _).mono ?_; rintro e w2 ⟨rfl, hw⟩; have hw2 := hw.symm; subst hw2; clear hw)
        | (go_at_call 68; refine (uh HKI).mono ?_; rintro e w4 ⟨x0, ap, np, cp, aq, nq, cq, F, a4, rfl, HOW, hFn, HFL, HW4, ha4, HRS⟩)
        | (go_at_call 65
           have ha5 : a4 < s.size := by
            rcases Nat.lt_or_ge a4 s.size with h | h
            · exact h
            · have := uh HRS; rw [uh HRR, lf_nil h] at this; cases this
           refine (end_no _ R s a4 ((uh HW4).rdr.alloc _) ha5).mono ?_
           rintro e w5 ⟨rfl, m5, rfl⟩))
       exact And.intro rfl (KPW.no (uh HYN) (but_drewN ((uh HW4).but.trans (But.alloc _ _ _)) m5))
     | nil =>
       have hy : Y = if 0 < qT k 1 then some k else none := by rw [uh HPC, hrest]
       have HRR := hH hrest; have HY := hH hy
       clear hy hrest
       cases hq : decide (0 < qT k 1)
       · have hy : Y = none := by rw [uh HY, if_neg (of_decide_eq_false hq)]
         have HYN := hH hy; have HQ := hH hq
         clear hy hq
         go_enter Tryz.func35, Tryz.ntmps35
         go_wp2_with (first
          | (go_at_call 63; refine (treeWant_yes _).mono ?_; rintro e w2 ⟨rfl, hw⟩; have hw2 := hw.symm; subst hw2; clear hw)
          | (go_at_call 68; refine (uh HKI).mono ?_; rintro e w4 ⟨x0, ap, np, cp, aq, nq, cq, F, a4, rfl, HOW, hFn, HFL, HW4, ha4, HRS⟩)
          | (go_at_call 65
             have ha5 : a4 = s.size := by
              rcases Nat.lt_or_ge a4 s.size with h | h
              · have := uh HRS; rw [uh HRR, lf_cons h] at this; cases this
              · omega
             subst ha5
             refine (end_yes _ R s ((uh HW4).rdr.alloc _)).mono ?_
             rintro e w5 ⟨rfl, m5, rfl⟩
             have hl4 := (uh HW4).box.lt)
          | (go_at_call 21
             have hba := ((Below.refl w4.heap.size w4).alloc (Nat.le_refl _) (.cells #[.int .i64 x0, .slice ap np cp, .slice aq nq cq] 26))
             have hrep := OwnD.rep (P := fun b => b < w4.heap.size) k _ F (fun b hb => (uh HFL b hb).2) (uh HOW)
             have hok := implKindOk_any k (fun b => b < w4.heap.size) ⟨.int .i64 x0, .slice ap np cp, .slice aq nq cq⟩ ((w4.alloc (.cells #[.int .i64 x0, .slice ap np cp, .slice aq nq cq] 26)).drewN m5) (fun b hb => by show b < (w4.alloc _).heap.size; rw [World.size_alloc]; omega) (KRep.carry (w' := (w4.alloc (.cells #[.int .i64 x0, .slice ap np cp, .slice aq nq cq] 26)).drewN m5) (fun b hb => hba.block b hb) (fun _ h => h) _ _ hrep) (by omega)
             rw [uh HQ] at hok
             refine hok.mono ?_
             rintro e w6 ⟨rfl, hb6⟩
             have hb46 : Below w4.heap.size w4 w6 := (show Below w4.heap.size w4 ((w4.alloc (.cells #[.int .i64 x0, .slice ap np cp, .slice aq nq cq] 26)).drewN m5) from ⟨hba.os, hba.tape, hba.output, hba.size, hba.block⟩).trans (hb6.mono (by show w4.heap.size ≤ (w4.alloc _).heap.size; rw [World.size_alloc]; omega))
             have q6 := (row3_alloc w4 (.int .i64 x0) (.slice ap np cp) (.slice aq nq cq) 26).of_block (hb6.block w4.heap.size (by show w4.heap.size < (w4.alloc _).heap.size; rw [World.size_alloc]; omega))
             obtain ⟨l0, l1, l2⟩ := cs3 q6 (by omega)
             simp only [row3] at l0 l1 l2
             have hbx := (uh HW4).box.of_block (hb46.block _ hl4)
             obtain ⟨r0, r1, r2⟩ := cs3 hbx (by omega)
             have z0 := hbx.frozen 0; have z1 := hbx.frozen 1; have z2 := hbx.frozen 2
             simp only [row3] at r0 r1 r2
             have HB6 := hH ((uh HW4).but.trans (But.of_below hb46))
             have HOW6 := hH (OwnD.carry k _ F (fun b hb => hb46.block b (uh HFL b hb).2) (uh HOW))
             have hs6 := hb46.size
             clear hba hrep hok hb6 hb46 q6 hbx)
          | (go_at_call 63; refine (treeWant_no _).mono ?_; rintro e w7 ⟨rfl, rfl⟩))
         exact And.intro rfl (KPW.no (uh HYN) (uh HB6))
       · have hy : Y = some k := by rw [uh HY, if_pos (of_decide_eq_true hq)]
         have HYS := hH hy; have HQ := hH hq
         clear hy hq
         go_enter Tryz.func35, Tryz.ntmps35
         go_wp2_with (first
          | (go_at_call 63; refine (treeWant_yes _).mono ?_; rintro e w2 ⟨rfl, hw⟩; have hw2 := hw.symm; subst hw2; clear hw)
          | (go_at_call 68; refine (uh HKI).mono ?_; rintro e w4 ⟨x0, ap, np, cp, aq, nq, cq, F, a4, rfl, HOW, hFn, HFL, HW4, ha4, HRS⟩)
          | (go_at_call 65
             have ha5 : a4 = s.size := by
              rcases Nat.lt_or_ge a4 s.size with h | h
              · have := uh HRS; rw [uh HRR, lf_cons h] at this; cases this
              · omega
             subst ha5
             refine (end_yes _ R s ((uh HW4).rdr.alloc _)).mono ?_
             rintro e w5 ⟨rfl, m5, rfl⟩
             have hl4 := (uh HW4).box.lt)
          | (go_at_call 21
             have hba := ((Below.refl w4.heap.size w4).alloc (Nat.le_refl _) (.cells #[.int .i64 x0, .slice ap np cp, .slice aq nq cq] 26))
             have hrep := OwnD.rep (P := fun b => b < w4.heap.size) k _ F (fun b hb => (uh HFL b hb).2) (uh HOW)
             have hok := implKindOk_any k (fun b => b < w4.heap.size) ⟨.int .i64 x0, .slice ap np cp, .slice aq nq cq⟩ ((w4.alloc (.cells #[.int .i64 x0, .slice ap np cp, .slice aq nq cq] 26)).drewN m5) (fun b hb => by show b < (w4.alloc _).heap.size; rw [World.size_alloc]; omega) (KRep.carry (w' := (w4.alloc (.cells #[.int .i64 x0, .slice ap np cp, .slice aq nq cq] 26)).drewN m5) (fun b hb => hba.block b hb) (fun _ h => h) _ _ hrep) (by omega)
             rw [uh HQ] at hok
             refine hok.mono ?_
             rintro e w6 ⟨rfl, hb6⟩
             have hb46 : Below w4.heap.size w4 w6 := (show Below w4.heap.size w4 ((w4.alloc (.cells #[.int .i64 x0, .slice ap np cp, .slice aq nq cq] 26)).drewN m5) from ⟨hba.os, hba.tape, hba.output, hba.size, hba.block⟩).trans (hb6.mono (by show w4.heap.size ≤ (w4.alloc _).heap.size; rw [World.size_alloc]; omega))
             have q6 := (row3_alloc w4 (.int .i64 x0) (.slice ap np cp) (.slice aq nq cq) 26).of_block (hb6.block w4.heap.size (by show w4.heap.size < (w4.alloc _).heap.size; rw [World.size_alloc]; omega))
             obtain ⟨l0, l1, l2⟩ := cs3 q6 (by omega)
             simp only [row3] at l0 l1 l2
             have hbx := (uh HW4).box.of_block (hb46.block _ hl4)
             obtain ⟨r0, r1, r2⟩ := cs3 hbx (by omega)
             have z0 := hbx.frozen 0; have z1 := hbx.frozen 1; have z2 := hbx.frozen 2
             simp only [row3] at r0 r1 r2
             have HB6 := hH ((uh HW4).but.trans (But.of_below hb46))
             have HOW6 := hH (OwnD.carry k _ F (fun b hb => hb46.block b (uh HFL b hb).2) (uh HOW))
             have hs6 := hb46.size
             clear hba hrep hok hb6 hb46 q6 hbx))
         refine bodyPost_ret (v := .agg #[.int .i64 x0, .slice ap np cp, .slice aq nq cq]) (by simp [results, Tryz.results35, go_sem, r0, r1, r2]) rfl ?_
         refine Or.inl ⟨k, ⟨_, _, _⟩, F, uh HYS, rfl, OwnD.carry k _ F (fun b hb => set3_heap w6 w.heap.size ⟨_, _, _⟩ b (by have := (uh HFL b hb).1; omega)) (uh HOW6), hFn, fun b hb => ?_, ?_⟩
         · have h2 := set3_size w6 w.heap.size ⟨.int .i64 x0, .slice ap np cp, .slice aq nq cq⟩
           unfold set3 at h2
           simp only at h2
           rw [h2]
           have := uh HFL b hb
           omega
         · have hb6 := uh HB6
           exact ⟨hb6.os, hb6.tape, hb6.output, by have h2 := set3_size w6 w.heap.size ⟨.int .i64 x0, .slice ap np cp, .slice aq nq cq⟩; unfold set3 at h2; simp only at h2; rw [h2]; exact hb6.size, fun i hi hne => (set3_heap w6 w.heap.size ⟨.int .i64 x0, .slice ap np cp, .slice aq nq cq⟩ i (by omega)).trans (hb6.block i hi hne)⟩
end Go.Proofs.YtccnehcpmkgbhaaGreatDoor

namespace Go.Proofs.YtccnehcpmkgbhaaGreatDoor
open Go Go.RowKit
structure Bx (w : World) (n : Nat) (s : ByteArray) (c : C3) (W : World) : Prop where
 text : W.cell? ⟨n, 0, none⟩ = some (.string s)
 ans : W.rowIs (n + 1) 26 3 (row3 (.int .i64 0) (.slice none 0 0) (.slice none 0 0))
 read : W.rowIs (n + 2) 26 3 (row3 c.c0 c.c1 c.c2)
 below : Below n w W
 size : n + 3 ≤ W.heap.size
theorem Bx.kept {w W W' : World} {n : Nat} {s : ByteArray} {c : C3} {row : Option Nat} (h : Bx w n s c W) (hg : W.grownBy W' row) (hr : ∀ b, row = some b → n + 3 ≤ b) : Bx w n s c W' := by
 have hs := h.size
 have hb : ∀ i, i < n + 3 → W'.heap[i]? = W.heap[i]? := fun i hi => hg.block i (by omega) (fun e => by have := hr i e.symm; omega)
 exact ⟨by rw [World.cell?_of_block (w := W) (hb n (by omega))]; exact h.text, h.ans.of_block (hb _ (by omega)), h.read.of_block (hb _ (by omega)),
  ⟨hg.os.trans h.below.os, hg.tape.trans h.below.tape, hg.output.trans h.below.output, Nat.le_trans h.below.size hg.size, fun k hk => (hb k (by omega)).trans (h.below.block k hk)⟩, Nat.le_trans h.size hg.size⟩
theorem Bx.put {w W : World} {n : Nat} {s : ByteArray} {c c' : C3} (h : Bx w n s c W) : Bx w n s c' (set3 W (n + 2) c') := by
 have hb : ∀ i, i < n + 2 → (set3 W (n + 2) c').heap[i]? = W.heap[i]? := fun i hi => set3_heap _ _ _ _ (by omega)
 refine ⟨by rw [World.cell?_of_block (w := W) (hb n (by omega))]; exact h.text, h.ans.of_block (hb _ (by omega)), ?_, below_set3 h.below _ _ (by omega), by rw [set3_size]; exact h.size⟩
 exact (((h.read.set 0 c'.c0).set 1 c'.c1).set 2 c'.c2).congr (fun i hi => by
  match i, hi with
  | 0, _ => rfl
  | 1, _ => rfl
  | 2, _ => rfl)
def zK : C3 := ⟨.int .i64 0, .slice none 0 0, .slice none 0 0⟩
theorem work_yes (w : World) (n : Nat) (s : ByteArray) (hs : s.size ≤ 1048576) (W : World) (h : Bx w n s zK W) (hT : KTab W) {k : Kd} (hY : progK s.data.toList = some k) :
 Calls Tryz.prog 33 #[.pointer (some ⟨n, 0, none⟩), .pointer (some ⟨n + 2, 0, none⟩)] W fun e w' => e = .returned (.tuple #[]) ∧ (∃ c F, OwnD w' k c F ∧ F.Nodup ∧ (∀ b, b ∈ F → W.heap.size ≤ b ∧ b < w'.heap.size) ∧ Bx w n s c w') ∧ ∀ i, n + 3 ≤ i → i < W.heap.size → w'.heap[i]? = W.heap[i]? := by
 have hrd : PRdr (W.alloc (.cells #[.string s, .int .i64 0] 121)) W.heap.size s 0 := row2_alloc W _ _ _
 have hwh := whole_any _ W.heap.size s hs hrd (hT.below ((Below.refl _ _).alloc (Nat.le_refl _) _)) (by have := hT.lt; omega)
 rw [hY] at hwh
 have c0 := h.text
 have HBX := hH (h.kept (World.grownBy_alloc W (.cells #[.string s, .int .i64 0] 121) none) (fun b e => by cases e))
 have hsz := h.size
 have hwh2 : Calls Tryz.prog 35 #[.pointer (some ⟨W.heap.size, 0, none⟩)] (W.alloc (.cells #[.string s, .int .i64 0] 121)) fun e w2 => ∃ (y0 : Int) (ap : Option Addr) (np cp : Nat) (aq : Option Addr) (nq cq : Nat) (F : List Nat), e = .returned (.agg #[.int .i64 y0, .slice ap np cp, .slice aq nq cq]) ∧ Hid (OwnD w2 k ⟨.int .i64 y0, .slice ap np cp, .slice aq nq cq⟩ F) ∧ F.Nodup ∧ Hid (∀ b, b ∈ F → W.heap.size + 1 ≤ b ∧ b < w2.heap.size) ∧ Hid (But W.heap.size (W.alloc (.cells #[.string s, .int .i64 0] 121)) w2) ∧ w2.cell? ⟨n + 2, 0, none⟩ = some (.int .i64 0) ∧ w2.cell? ⟨n + 2, 1, none⟩ = some (.slice none 0 0) ∧ w2.cell? ⟨n + 2, 2, none⟩ = some (.slice none 0 0) ∧ w2.frozen? ⟨n + 2, 0, none⟩ = false ∧ w2.frozen? ⟨n + 2, 1, none⟩ = false ∧ w2.frozen? ⟨n + 2, 2, none⟩ = false := hwh.mono (by
  rintro e w2 (⟨k', ⟨y0, y1, y2⟩, F, hk, rfl, ho, hnd, hF, hb⟩ | ⟨hk, -⟩)
  · cases hk
    obtain ⟨p0, -, F1, F2, -, ⟨ap, cp, p1, -⟩, aq, cq, p2, -⟩ := ho.open
    simp only at p0 p1 p2
    subst p0 p1 p2
    have hr := ((uh HBX).kept hb (fun b e => by cases e; omega)).read
    exact ⟨_, _, _, _, _, _, _, F, rfl, ho, hnd, fun b hb' => by have := hF b hb'; rw [World.size_alloc] at this; exact this, hb, hr.cell (i := 0) (by omega), hr.cell (i := 1) (by omega), hr.cell (i := 2) (by omega), hr.frozen 0, hr.frozen 1, hr.frozen 2⟩
  · cases hk)
 have HWH := hH hwh2
 clear h hwh hwh2 hrd hT hY
 go_enter Tryz.func33, Tryz.ntmps33
 go_wp2_with (first
  | (go_at_call 34; refine (newReader_any s W).mono ?_; rintro e w1 ⟨rfl, rfl⟩)
  | (go_at_call 35
     refine (uh HWH).mono ?_
     rintro e w2 ⟨y0, ap, np, cp, aq, nq, cq, F, rfl, HO, hnd, HF, HB, b0, b1, b2, z0, z1, z2⟩))
 go_end0
 have hb2 := (uh HBX).kept (uh HB) (fun b e => by cases e; omega)
 refine ⟨rfl, ⟨⟨_, _, _⟩, F, OwnD.carry k _ F (fun b hb => set3_heap w2 (n + 2) ⟨_, _, _⟩ b (by have := (uh HF b hb).1; omega)) (uh HO), hnd, fun b hb => ?_, hb2.put⟩, fun i h1 h2 => ?_⟩
 · have h2 := set3_size w2 (n + 2) ⟨.int .i64 y0, .slice ap np cp, .slice aq nq cq⟩
   unfold set3 at h2
   simp only at h2
   rw [h2]
   have := uh HF b hb
   omega
 · exact (set3_heap w2 (n + 2) ⟨_, _, _⟩ i (by omega)).trans (((uh HB).at (by rw [World.size_alloc]; omega) (by omega)).trans (Below.heap_alloc _ _ _ h2))
theorem work_no (w : World) (n : Nat) (s : ByteArray) (hs : s.size ≤ 1048576) (W : World) (h : Bx w n s zK W) (hT : KTab W) (hY : progK s.data.toList = none) :
 Calls Tryz.prog 33 #[.pointer (some ⟨n, 0, none⟩), .pointer (some ⟨n + 2, 0, none⟩)] W fun e w' => e = fltE ∧ Bx w n s zK w' ∧ ∀ i, n + 3 ≤ i → i < W.heap.size → w'.heap[i]? = W.heap[i]? := by
 have hrd : PRdr (W.alloc (.cells #[.string s, .int .i64 0] 121)) W.heap.size s 0 := row2_alloc W _ _ _
 have hwh := whole_any _ W.heap.size s hs hrd (hT.below ((Below.refl _ _).alloc (Nat.le_refl _) _)) (by have := hT.lt; omega)
 rw [hY] at hwh
 have c0 := h.text
 have HBX := hH (h.kept (World.grownBy_alloc W (.cells #[.string s, .int .i64 0] 121) none) (fun b e => by cases e))
 have hsz := h.size
 have hwh2 : Calls Tryz.prog 35 #[.pointer (some ⟨W.heap.size, 0, none⟩)] (W.alloc (.cells #[.string s, .int .i64 0] 121)) fun e w2 => e = fltE ∧ Hid (But W.heap.size (W.alloc (.cells #[.string s, .int .i64 0] 121)) w2) := hwh.mono (by
  rintro e w2 (⟨k', c, F, hk, -⟩ | ⟨-, rfl, hb⟩)
  · cases hk
  · exact ⟨rfl, hb⟩)
 have HWH := hH hwh2
 clear h hwh hwh2 hrd hT hY
 go_enter Tryz.func33, Tryz.ntmps33
 go_wp2_with (first
  | (go_at_call 34; refine (newReader_any s W).mono ?_; rintro e w1 ⟨rfl, rfl⟩)
  | (go_at_call 35; refine (uh HWH).mono ?_; rintro e w2 ⟨rfl, HB⟩))
 refine And.intro rfl ⟨rfl, (uh HBX).kept (uh HB) (fun b e => by cases e; omega), fun i h1 h2 => ?_⟩
 exact ((uh HB).at (by rw [World.size_alloc]; omega) (by omega)).trans (Below.heap_alloc _ _ _ h2)
theorem implKindRead_any (w : World) (s : ByteArray) (hs : s.size ≤ 1048576) (hT : KTab w) :
 Calls Tryz.prog 9 #[.string s] w fun e w' => KAns (progK s.data.toList) w e w' := by
 obtain ⟨W0, hW0⟩ : ∃ W0, ((w.alloc (.cells #[.string s] 9)).alloc (.cells #[.int .i64 0, .slice none 0 0, .slice none 0 0] 26)).alloc (.cells #[.int .i64 0, .slice none 0 0, .slice none 0 0] 26) = W0 := ⟨_, rfl⟩
 have hbl : Below w.heap.size w W0 := by rw [← hW0]; exact (((Below.refl _ _).alloc (Nat.le_refl _) _).alloc (by simp) _).alloc (by simp; omega) _
 have hs0 : W0.heap.size = w.heap.size + 3 := by rw [← hW0]; simp
 have hbx : Bx w w.heap.size s zK W0 := by
  refine ⟨?_, ?_, ?_, hbl, by omega⟩
  · rw [← hW0]; simp [go_sem]
  · rw [← hW0]
    have q := row3_alloc (w.alloc (.cells #[.string s] 9)) (.int .i64 0) (.slice none 0 0) (.slice none 0 0) 26
    rw [World.size_alloc] at q
    exact q.alloc _
  · rw [← hW0]
    have q := row3_alloc ((w.alloc (.cells #[.string s] 9)).alloc (.cells #[.int .i64 0, .slice none 0 0, .slice none 0 0] 26)) (.int .i64 0) (.slice none 0 0) (.slice none 0 0) 26
    rw [World.size_alloc, World.size_alloc] at q
    exact q
 have hT0 : KTab W0 := hT.below hbl
 have hent : ∀ W, Sem.run Tryz.prog (callFunc 33 #[.pointer (some ⟨w.heap.size, 0, none⟩), .pointer (some ⟨w.heap.size + 2, 0, none⟩)]) W = .ok (.enter 33 #[.pointer (some ⟨w.heap.size, 0, none⟩), .pointer (some ⟨w.heap.size + 2, 0, none⟩)]) W := fun W => enters_of Tryz.func33 (by kernel_rfl) rfl _ W
 have hmf : ∀ (fn : Fn) (first cap : Array Value) (w : World), (Instr.makeFunc fn first cap).run Tryz.prog w = .ok (.func fn first cap) w := fun _ _ _ _ => rfl
 cases hY : progK s.data.toList with
 | none =>
   have htry := treeTry_no 33 #[.pointer (some ⟨w.heap.size, 0, none⟩), .pointer (some ⟨w.heap.size + 2, 0, none⟩)] W0 (fun w1 => Bx w w.heap.size s zK w1) hent (fun o => (work_no w w.heap.size s hs (W0.alloc o) (hbx.kept (World.grownBy_alloc W0 o none) (fun b e => by cases e)) (hT0.below ((Below.refl _ _).alloc (Nat.le_refl _) o)) hY).mono fun e w' ⟨h1, h2, h3⟩ => ⟨h1, h2, h3 _ (by omega) (by rw [World.size_alloc]; omega)⟩)
   have htry2 : Calls Tryz.prog 27 #[.func (.func 33) #[] #[.pointer (some ⟨w.heap.size, 0, none⟩), .pointer (some ⟨w.heap.size + 2, 0, none⟩)]] W0 fun e w' => e = .returned (.bool false) ∧ Bx w w.heap.size s zK w' := htry.mono fun e w' ⟨h1, w1, h2, h3⟩ => ⟨h1, h2.kept h3 (fun b e => by cases e; omega)⟩
   have HTR := hH htry2
   clear htry htry2 hbx hT0 hent hbl hY
   go_enter Tryz.func9, Tryz.ntmps9
   go_wp2_with (go_at_call 27
                refine (uh HTR).mono ?_
                rintro e w1 ⟨rfl, hb1⟩
                have HB1 := hH hb1
                obtain ⟨a0, a1, a2⟩ := cs3 hb1.ans (by omega)
                have z0 := hb1.ans.frozen 0; have z1 := hb1.ans.frozen 1; have z2 := hb1.ans.frozen 2
                have r0 : w1.cell? ⟨w.heap.size + 1 + 1, 0, none⟩ = some (.int .i64 0) := hb1.read.cell (i := 0) (by omega)
                have r1 : w1.cell? ⟨w.heap.size + 1 + 1, 1, none⟩ = some (.slice none 0 0) := hb1.read.cell (i := 1) (by omega)
                have r2 : w1.cell? ⟨w.heap.size + 1 + 1, 2, none⟩ = some (.slice none 0 0) := hb1.read.cell (i := 2) (by omega)
                simp only [row3] at a0 a1 a2
                clear hb1)
   refine bodyPost_ret (v := .tuple #[.agg #[.int .i64 0, .slice none 0 0, .slice none 0 0], .bool false]) (by simp [results, Tryz.results9, go_sem, a0, a1, a2]) rfl ?_
   exact KAns.no rfl (below_set3 (uh HB1).below _ ⟨_, _, _⟩ (by omega))
 | some k =>
   have htry := treeTry_yes 33 #[.pointer (some ⟨w.heap.size, 0, none⟩), .pointer (some ⟨w.heap.size + 2, 0, none⟩)] W0 (fun w1 => ∃ c F, OwnD w1 k c F ∧ F.Nodup ∧ (∀ b, b ∈ F → W0.heap.size + 1 ≤ b ∧ b < w1.heap.size) ∧ Bx w w.heap.size s c w1) hent (fun o => (work_yes w w.heap.size s hs (W0.alloc o) (hbx.kept (World.grownBy_alloc W0 o none) (fun b e => by cases e)) (hT0.below ((Below.refl _ _).alloc (Nat.le_refl _) o)) hY).mono fun e w' ⟨h1, ⟨c, F, h2, h3, h4, h5⟩, h6⟩ => ⟨h1, ⟨c, F, h2, h3, fun b hb => by have := h4 b hb; rw [World.size_alloc] at this; exact this, h5⟩, h6 _ (by omega) (by rw [World.size_alloc]; omega)⟩)
   have htry2 : Calls Tryz.prog 27 #[.func (.func 33) #[] #[.pointer (some ⟨w.heap.size, 0, none⟩), .pointer (some ⟨w.heap.size + 2, 0, none⟩)]] W0 fun e w1 => ∃ (y0 : Int) (ap : Option Addr) (np cp : Nat) (aq : Option Addr) (nq cq : Nat) (F : List Nat), e = .returned (.bool true) ∧ Hid (OwnD w1 k ⟨.int .i64 y0, .slice ap np cp, .slice aq nq cq⟩ F) ∧ F.Nodup ∧ Hid (∀ b, b ∈ F → w.heap.size + 4 ≤ b ∧ b < w1.heap.size) ∧ Bx w w.heap.size s ⟨.int .i64 y0, .slice ap np cp, .slice aq nq cq⟩ w1 := htry.mono (by
    rintro e w' ⟨rfl, w1, ⟨⟨y0, y1, y2⟩, F, ho, hnd, hF, hb⟩, hbut⟩
    obtain ⟨p0, -, F1, F2, -, ⟨ap, cp, p1, -⟩, aq, cq, p2, -⟩ := ho.open
    simp only at p0 p1 p2
    subst p0 p1 p2
    exact ⟨_, _, _, _, _, _, _, F, rfl, ho.but hbut (fun b hb => by have := hF b hb; omega), hnd, fun b hb => by have := hF b hb; have := hbut.size; omega, hb.kept hbut (fun b e => by cases e; omega)⟩)
   have HTR := hH htry2
   clear htry htry2 hbx hT0 hent hbl hY
   go_enter Tryz.func9, Tryz.ntmps9
   go_wp2_with (go_at_call 27
                refine (uh HTR).mono ?_
                rintro e w1 ⟨y0, ap, np, cp, aq, nq, cq, F, rfl, HO, hnd, HF, hb1⟩
                have HB1 := hH hb1
                obtain ⟨a0, a1, a2⟩ := cs3 hb1.ans (by omega)
                have z0 := hb1.ans.frozen 0; have z1 := hb1.ans.frozen 1; have z2 := hb1.ans.frozen 2
                have r0 : w1.cell? ⟨w.heap.size + 1 + 1, 0, none⟩ = some (.int .i64 y0) := hb1.read.cell (i := 0) (by omega)
                have r1 : w1.cell? ⟨w.heap.size + 1 + 1, 1, none⟩ = some (.slice ap np cp) := hb1.read.cell (i := 1) (by omega)
                have r2 : w1.cell? ⟨w.heap.size + 1 + 1, 2, none⟩ = some (.slice aq nq cq) := hb1.read.cell (i := 2) (by omega)
                simp only [row3] at a0 a1 a2
                clear hb1)
   refine bodyPost_ret (v := .tuple #[.agg #[.int .i64 y0, .slice ap np cp, .slice aq nq cq], .bool true]) (by simp [results, Tryz.results9, go_sem, a0, a1, a2]) rfl ?_
   refine ⟨k, true, ⟨_, _, _⟩, F, Or.inl ⟨rfl, rfl⟩, rfl, OwnD.carry k _ F (fun b hb => set3_heap w1 (w.heap.size + 1) ⟨_, _, _⟩ b (by have := (uh HF b hb).1; omega)) (uh HO), hnd, fun b hb => ?_, below_set3 (uh HB1).below _ ⟨_, _, _⟩ (by omega)⟩
   have h2 := set3_size w1 (w.heap.size + 1) ⟨.int .i64 y0, .slice ap np cp, .slice aq nq cq⟩
   unfold set3 at h2
   simp only at h2
   rw [h2]
   have := uh HF b hb
   omega
end Go.Proofs.YtccnehcpmkgbhaaGreatDoor

namespace Go.Proofs.YtccnehcpmkgbhaaGreatDoor
open Go Go.RowKit
def bc (l : List UInt8) : List Value := l.map fun b => Value.int .u8 b.toNat
theorem bc_append (a b : List UInt8) : bc (a ++ b) = bc a ++ bc b := List.map_append
theorem bc_str (s : ByteArray) : Lib.strCells s = bc s.data.toList := rfl
theorem bc_len (l : List UInt8) : (bc l).length = l.length := List.length_map _
def ByRow (base : Nat) (w : World) (v : Value) (l : List UInt8) : Prop := w.ownsRow base 5 1 v l.length (bc l)
theorem infoU8 : (Tryz.prog.info? 5).map (fun i => (i.zero, i.size, i.bytes)) = some (some (.int .u8 0), 1, 1) := by kernel_rfl
theorem ByRow.slice {base : Nat} {w : World} {v : Value} {l : List UInt8} (h : ByRow base w v l) : ∃ a cap, v = .slice a l.length cap := by
 rcases h.2 with ⟨hv, h0⟩ | ⟨g, cap, cur, hv, _⟩
 · exact ⟨none, 0, by rw [hv, h0]⟩
 · exact ⟨_, cap, hv⟩
theorem ByRow.below {base : Nat} {w w' : World} {v : Value} {l : List UInt8} (h : ByRow base w v l) (hg : w.grownBy w' v.ownBlock) (hb : base ≤ w.heap.size) : Below base w w' :=
 (Below.refl base w).grown hg hb (fun k e => (h.lt k e).1)
theorem ByRow.str {base : Nat} {w : World} {v : Value} {l : List UInt8} (h : ByRow base w v l) : (convert 22 9 v).run Tryz.prog w = .ok (.string ⟨l.toArray⟩) w := by
 rcases h.2 with ⟨hv, h0⟩ | ⟨g, cap, cur, hv, hgb, hh, hle, hm2, hsz, htk⟩
 · have hl : l = [] := List.eq_nil_of_length_eq_zero h0
   subst hl hv
   rw [run_convert_bytes_string w 22 9 5 none 0 0 Tryz.underlying22 Tryz.underlying5 Tryz.underlying9]
   rfl
 · subst hv
   refine run_convert_bytes_back w 22 9 5 ⟨g, 0, none⟩ cap l Tryz.underlying22 Tryz.underlying5 Tryz.underlying9 (fun j hj => ?_)
   have h1 : (bc l)[j]? = some (.int .u8 (l[j].toNat : Int)) := by simp [bc, hj]
   exact h.cells (g := g) rfl j _ h1
theorem append_bytes (w : World) {ops : Array Oper} {rest : List Oper} {o : Oper} {a : Act} {Q : Exit → Act → World → Prop}
 (hg : o.guard = none) (s x : Operand) (hop : o.op = Op.call { callee := Callee.builtin Builtin.append, args := #[s, x], argTypes := #[22, 22] })
 (base : Nat) (v : Value) (l news : List UInt8) (hs : a.eval s = v) (hown : ByRow base w v l)
 (ad : Addr) (m c : Nat) (hx : a.eval x = .slice (some ad) m c) (hm : m = news.length) (hc : ∀ j u, (bc news)[j]? = some u → w.cell? (ad.add j) = some u)
 (hlen : l.length + news.length ≤ 1099511627776) (hbase : base ≤ w.heap.size)
 (hK : ∀ a' n' cap' w', Hid (n' = (l ++ news).length) → Hid (ByRow base w' (.slice a' n' cap') (l ++ news)) → Hid (w.grownBy w' v.ownBlock) → wpList Tryz.prog ops Q rest (a.put o.dst (.slice a' n' cap')) w') :
 wpList Tryz.prog ops Q (o :: rest) a w := by
 obtain ⟨i0, hi, hz0, hz1, hz2⟩ := info_parts infoU8
 subst hm
 refine wpList_append_own w hg s x 22 hop base 5 i0 (.int .u8 0) 1 1 Tryz.underlying22 hi hz0 hz1 hz2 rfl (by decide) v l.length (bc l) hs hown ad news.length c (bc news) hx (by rw [bc_len, Nat.mul_one]) hc (fun u hu => ?_) (by unfold maxLen; omega) (by omega) hbase (fun v' w' r1 r2 _ => ?_)
 · obtain ⟨_, _, rfl⟩ := List.mem_map.1 hu
   rfl
 · have hr : ByRow base w' v' (l ++ news) := by
    show w'.ownsRow base 5 1 v' (l ++ news).length (bc (l ++ news))
    rw [bc_append, List.length_append]; exact r1
   obtain ⟨a', cap', rfl⟩ := hr.slice
   exact hK a' _ cap' w' rfl hr r2
theorem step_append_bytes (w : World) {ops : Array Oper} {o : Oper} {a : Act} {K : Act → World → Prop} {Q : Exit → Act → World → Prop} {E : Prop}
 (hg : o.guard = none) (s x : Operand) (hop : o.op = Op.call { callee := Callee.builtin Builtin.append, args := #[s, x], argTypes := #[22, 22] })
 (base : Nat) (v : Value) (l news : List UInt8) (hs : a.eval s = v) (hown : ByRow base w v l)
 (ad : Addr) (m c : Nat) (hx : a.eval x = .slice (some ad) m c) (hm : m = news.length) (hpos : 0 < m) (hc : ∀ j u, (bc news)[j]? = some u → w.cell? (ad.add j) = some u)
 (hlen : l.length + news.length ≤ 1099511627776) (hbase : base ≤ w.heap.size)
 (hK : ∀ a' n' cap' w', Hid (n' = (l ++ news).length) → Hid (ByRow base w' (.slice a' n' cap') (l ++ news)) → Hid (w.grownBy w' v.ownBlock) → K (a.put o.dst (.slice a' n' cap')) w') :
 if Region.wanted o (yielded ops a.tmps) = true then Oper.wp Tryz.prog o a w K Q else E := by
 obtain ⟨i0, hi, hz0, hz1, hz2⟩ := info_parts infoU8
 subst hm
 refine step_append_lies w hg s x 22 hop base 5 i0 (.int .u8 0) 1 1 Tryz.underlying22 hi hz0 hz1 hz2 rfl (by decide) v l.length (bc l) hs hown ad news.length c (bc news) hx (by rw [bc_len, Nat.mul_one]) hc (fun u hu => ?_) hpos (by unfold maxLen; omega) (by omega) hbase _ rfl (fun g cap w' r1 r2 _ _ => ?_)
 · obtain ⟨_, _, rfl⟩ := List.mem_map.1 hu
   rfl
 · refine hK _ _ _ w' (by show _ = _; rw [List.length_append]) ?_ r2
   show w'.ownsRow base 5 1 _ (l ++ news).length (bc (l ++ news))
   rw [bc_append, List.length_append]; exact r1
theorem append_string (w : World) {ops : Array Oper} {rest : List Oper} {o : Oper} {a : Act} {Q : Exit → Act → World → Prop}
 (hg : o.guard = none) (s x : Operand) (hop : o.op = Op.call { callee := Callee.builtin Builtin.append, args := #[s, x], argTypes := #[22, 9] })
 (base : Nat) (v : Value) (l : List UInt8) (tx : ByteArray) (hs : a.eval s = v) (hown : ByRow base w v l) (hx : a.eval x = .string tx)
 (hlen : l.length + tx.size ≤ 1099511627776) (hbase : base ≤ w.heap.size)
 (hK : ∀ a' n' cap' w', Hid (n' = (l ++ tx.data.toList).length) → Hid (ByRow base w' (.slice a' n' cap') (l ++ tx.data.toList)) → Hid (w.grownBy w' v.ownBlock) → wpList Tryz.prog ops Q rest (a.put o.dst (.slice a' n' cap')) w') :
 wpList Tryz.prog ops Q (o :: rest) a w := by
 obtain ⟨i0, hi, hz0, hz1, hz2⟩ := info_parts infoU8
 have hsz : tx.data.toList.length = tx.size := by simp
 refine Lib.wpList_append_own_string w hg s x 22 9 hop base 5 i0 Tryz.underlying22 Tryz.underlying9 hi hz0 hz1 hz2 v l.length (bc l) hs hown tx hx (by unfold maxLen; omega) (by omega) hbase (fun v' w' r1 r2 _ => ?_)
 have hr : ByRow base w' v' (l ++ tx.data.toList) := by
  show w'.ownsRow base 5 1 v' (l ++ tx.data.toList).length (bc (l ++ tx.data.toList))
  rw [bc_append, List.length_append, hsz, ← bc_str]; exact r1
 obtain ⟨a', cap', rfl⟩ := hr.slice
 exact hK a' _ cap' w' rfl hr r2
theorem byte_one (w : World) (x : UInt8) (t : TypeId) : ∀ j u, (bc [x])[j]? = some u → (w.alloc (.cells #[.int .u8 x.toNat] t)).cell? ((⟨w.heap.size, 0, none⟩ : Addr).add j) = some u := cell_one w _ t
end Go.Proofs.YtccnehcpmkgbhaaGreatDoor
