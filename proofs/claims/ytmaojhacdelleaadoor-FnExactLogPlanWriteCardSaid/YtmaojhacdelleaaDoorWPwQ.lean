/- The walk of the program's LogPlanWrite, whole. The table of powers is as strconv's text lays it. -/
import Derived.Test.YtmaojhacdelleaaDoorWPwP
namespace Go.Proofs.YtmaojhacdelleaaDoor
open Go Go.RowKit Go.Shelf

attribute [local go_sem] Oper.semAt_some

set_option maxRecDepth 100000 in
set_option maxHeartbeats 3200000 in
theorem implLogPlanWrite_any (l : Pl) (P : Nat → Prop) (v : Value) (w : World) (hP : ∀ b, P b → b < w.heap.size) (hv : PtsAt P w v l.parts) (htab : Lib.TabIs Tryd.prog w "internal/strconv.uint64pow10" .u64 Lib.pow10Tab) (hglob : 0 < w.heap.size) :
    Calls Tryd.prog 7 #[.agg #[v, .int .i64 l.op, .int .i64 l.fi]] w fun e w' => e = .returned (.string (plW l)) ∧ Below w.heap.size w w' := by
  have hbx : ∀ o, Below w.heap.size w (w.alloc o) := fun o => (Below.refl _ _).alloc (Nat.le_refl _) o
  have HOK := hide (fun o => implLogPlanOk_any l P v (w.alloc o) (fun b hb => Nat.lt_of_lt_of_le (hP b hb) (hbx o).size) (hv.carry (fun b hb => (hbx o).block b (hP b hb)) (fun _ h => h)))
  obtain ⟨a, cap, rfl, hlen, hc⟩ := hv.open
  have hrow := row3_alloc w (.slice a l.parts.length cap) (.int .i64 l.op) (.int .i64 l.fi) 29
  have HOK2 : Hid (∀ (n : Nat), CallsIn Fence.wide n Tryd.prog 13 #[.agg #[.slice a l.parts.length cap, .int .i64 l.op, .int .i64 l.fi]] (w.alloc (.cells #[.slice a l.parts.length cap, .int .i64 l.op, .int .i64 l.fi] 29)) fun e w1 => ((plOk l ∧ e = .returned (.bool true)) ∨ (¬ plOk l ∧ e = .returned (.bool false))) ∧ Hid (Below w.heap.size w w1) ∧ w1.rowIs w.heap.size 29 3 (row3 (.slice a l.parts.length cap) (.int .i64 l.op) (.int .i64 l.fi)) ∧ w.heap.size < w1.heap.size) := fun n => by
    refine callsIn_wide.2 ((unhide HOK _).mono ?_)
    rintro e w1 ⟨⟨r, h1, h2⟩, h3⟩
    have q1 := hrow.of_block (h3.block w.heap.size (by simp))
    refine ⟨?_, hide ((hbx _).trans (h3.mono (hbx _).size)), q1, q1.lt⟩
    rcases Bool.eq_false_or_eq_true r with hr | hr
    · subst hr; exact Or.inl ⟨h2.1 rfl, h1⟩
    · subst hr; exact Or.inr ⟨fun h => (by have := h2.2 h; cases this), h1⟩
  have HC := hide hc; have HP := hide hP; have HT := hide htab; have HGL := hide hglob
  clear hv hc hP hrow hbx HOK htab hglob
  refine (callsIn_wide (n := 8)).1 ?_
  refine callsIn_of_wp_marks Tryd.func7 rfl trivial ?_ rfl
  simp only [Tryd.ntmps7, List.size_toArray, List.length_cons, List.length_nil, Nat.reduceAdd, Nat.reduceSub, Array.replicate_succ, Array.replicate_zero, List.push_toArray, List.append_toArray, List.nil_append, List.cons_append]
  gi_wp2_with (first
    | ((try refine ⟨trivial, ?_⟩); gi_at_call 13; refine (unhide HOK2 _).mono ?_; clear HOK2; rintro e w1 ⟨⟨hok, rfl⟩ | ⟨hok, rfl⟩, HB1, q1, hlt1⟩
        <;> (have k0 := q1.cell (i := 0) (by omega); have k1 := q1.cell (i := 1) (by omega); have k2 := q1.cell (i := 2) (by omega); simp only [row3] at k0 k1 k2; have Q1 := hide q1; have HOKK := hide hok; clear q1 hok))
    | ((try refine ⟨trivial, ?_⟩); gi_at_call 14; refine (planLines_in _ _ _ _ _ ⟨_, _, _, rfl⟩ ⟨_, rfl⟩ ⟨_, rfl⟩).mono ?_; rintro e w' ⟨rfl, rfl⟩))
  · clear k0 k1 k2
    have hbB : Below w.heap.size w ((w1.alloc (.cells #[.slice none 0 0] 39)).alloc (.cells #[.slice a l.parts.length cap, .int .i64 l.op, .int .i64 l.fi] 29)) := ((unhide HB1).alloc (unhide HB1).size _).alloc (by have := (unhide HB1).size; simp; omega) _
    have bO := (Boxed.new w1 39 (.slice none 0 0)).alloc (.cells #[.slice a l.parts.length cap, .int .i64 l.op, .int .i64 l.fi] 29)
    have hrB := row3_alloc (w1.alloc (.cells #[.slice none 0 0] 39)) (.slice a l.parts.length cap) (.int .i64 l.op) (.int .i64 l.fi) 29
    rw [World.size_alloc] at hrB
    obtain ⟨W0, hW0⟩ : ∃ W0, ((w1.alloc (.cells #[.slice none 0 0] 39)).alloc (.cells #[.slice a l.parts.length cap, .int .i64 l.op, .int .i64 l.fi] 29)) = W0 := ⟨_, rfl⟩
    have hs0 : W0.heap.size = w1.heap.size + 2 := by rw [← hW0]; simp
    rw [hW0] at hbB bO hrB ⊢
    have hA : LnAt l a cap w.heap.size w1.heap.size (w1.heap.size + 1) W0 := ⟨unhide HOKK, fun i h => by
      obtain ⟨b, o, e, hb, hcell⟩ := unhide HC i h
      exact ⟨b, o, e, unhide HP b hb, hcell.carry (hbB.block b (unhide HP b hb))⟩, tab_keep (unhide HT) (hbB.block _ (unhide HGL)), unhide HGL, by omega, by omega, by omega, hrB⟩
    have HA := hide hA
    have h40 : l.parts.length ≤ 40 := (unhide HOKK).1
    clear hW0 hrB hA
    refine wpIn_rangeFunc_ownF (α := LX) (encs := lEnc) (Kp := KpL (w1.heap.size + 1 + 1) w1.heap.size) (S := fun ys => ys.map lKey = lines l) (Sp := fun _ => True) (N := l.parts.length + 2) (w0 := W0) rfl (by omega)
      (gf := 20) (lb := #[.pointer (some ⟨w1.heap.size + 1, 0, none⟩)]) rfl trivial (enters_of Tryd.func20 (by kernel_rfl) rfl)
      (fun L J Jx W hW hJ _ hY h0 => planLines1_in _ L l a cap w.heap.size w1.heap.size (w1.heap.size + 1) W0 (unhide HA) J Jx (fun s A B hs hg => hJ s A B none hs hg (fun r e => by cases e)) hY W (KpL.of_below hW (by omega)) h0)
      KpL.trans (KpL.putObj (by omega)) (Below.refl _ _) (fun _ => rfl)
      (fun pre W => ((∃ v, Boxed W w1.heap.size 39 v ∧ W.ownsRow (w1.heap.size + 1 + 1) 5 1 v (catL pre).length (bc (catL pre)) ∧ True) ∧ w1.heap.size + 1 + 1 ≤ W.heap.size) ∧ Below w.heap.size w W)
      (fun _ _ _ => False)
      (OwnFrom.and (OwnFrom.and (Own.from (holdsRow_own (w1.heap.size + 1 + 1) w1.heap.size 39 5 1 (fun pre => (catL pre).length) (fun pre => bc (catL pre)) (fun _ _ => True)) _) (fun _ _ _ _ hs hg _ => Nat.le_trans hs hg.size)) (ownFrom_below (Nat.le_refl _) (by omega)))
      (fun _ _ _ _ _ hs _ _ => hs)
      ⟨⟨⟨_, bO, World.ownsRow_nil _ _ _ _, trivial⟩, by omega⟩, hbB⟩
      (fun x => { tmps := #[.agg #[.slice a l.parts.length cap, .int .i64 l.op, .int .i64 l.fi], .pointer (some ⟨w.heap.size, 0, none⟩), .string ⟨#[]⟩, .pointer (some ⟨w1.heap.size, 0, none⟩), .string x.1, .agg #[.slice a l.parts.length cap, .int .i64 l.op, .int .i64 l.fi], .bool true, .bool false, .agg #[.slice a l.parts.length cap, .int .i64 l.op, .int .i64 l.fi], .func (.func 20) #[] #[.pointer (some ⟨w1.heap.size + 1, 0, none⟩)], .string x.1, undef, undef, undef, undef, undef], defers := [] }) ?assign ?body ?done ?stop
    case assign =>
      intro l' x W K hK
      simp only [lEnc]
      gi_wp2
      exact hK
    case body =>
      rintro l' pre x W ⟨⟨⟨u, hu, hrow, -⟩, hM⟩, hB⟩ hlt
      have hx := x.2
      have hcl := catL_len pre
      have hc := hu.cell
      have HROW := hide hrow; have HU := hide hu; have HBB := hide hB
      have hll : (catL pre).length + x.1.size ≤ 1099511627776 := by omega
      have HSN := hide (catL_snoc pre x)
      clear hrow hu hB hcl hx
      gi_wp2_with (gi_at_builtin; refine appendIn_string _ rfl _ _ rfl (w1.heap.size + 1 + 1) u (catL pre) x.1 rfl (unhide HROW) rfl hll hM ?_
                   intro a' n' cap' w2 HN HR HG
                   have hre := round_ends (unhide HU) (unhide HROW) HR.out HG.out hM
                   have hc1 := hre.1.cell; have hf1 := hre.1.frozen
                   have HRE := hide hre
                   clear hre)
      obtain ⟨-, r2, r3, r4, r5, r6⟩ := unhide HRE
      refine ⟨r4, r5, ⟨⟨_, r2, ?_, trivial⟩, Nat.le_trans hM r5.size⟩, (unhide HBB).trans (r6 _ (by omega) (by omega))⟩
      have r3' : ByRow _ _ _ _ := r3
      rw [unhide HSN]
      exact r3'
    case done =>
      rintro D ys W hD hS ⟨⟨⟨u, hu, hrow, -⟩, hM⟩, hB⟩ hK
      have hc := hu.cell
      have hconv := ByRow.str hrow
      gi_wp2
      refine ⟨by simp, .inl ⟨_, _, rfl, run_takeDeferred hK, ?_⟩⟩
      refine ⟨_, results_tmp rfl _ _ _, ?_, hB.trans (belowK_b (w := w) (Nat.le_refl _) W D _ _ (by omega) hK rfl rfl)⟩
      rw [plW_yes (unhide HOKK), ← lines_text, ← hS]
      rfl
    case stop =>
      rintro D c pre W _ _ h _
      exact h.elim
  · refine ⟨_, results_tmp rfl _ _ _, ?_, unhide HB1⟩
    rw [plW_no (unhide HOKK)]
    rfl
end Go.Proofs.YtmaojhacdelleaaDoor
