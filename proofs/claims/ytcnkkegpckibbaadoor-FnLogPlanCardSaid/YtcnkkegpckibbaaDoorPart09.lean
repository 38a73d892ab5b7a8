/- The walk of the program's LogPlanWrite, whole. The table of powers is as strconv's text lays it. -/
import Derived.Test.YtcnkkegpckibbaaDoorPart08
import Derived.Test.YtcnkkegpckibbaaDoorRows
import Derived.Test.YtcnkkegpckibbaaDoorPart07
import Derived.Test.YtcnkkegpckibbaaDoorPart00
import Derived.Deep.RegionWith
import Derived.Handy
import Derived.Deep.QuietTactic
import Derived.BigQuiet
namespace Go.Proofs.YtcnkkegpckibbaaDoor
open Go Go.RowKit Go.Shelf

attribute [local go_sem] Oper.semAt_some

set_option maxRecDepth 100000 in
set_option maxHeartbeats 3200000 in
theorem implLogPlanWrite_any (l : Pl) (P : Nat → Prop) (v : Value) (w : World) (hP : ∀ b, P b → b < w.heap.size) (hv : PtsAt P w v l.parts) (htab : Lib.TabIs Tryd.prog w "internal/strconv.uint64pow10" .u64 Lib.pow10Tab) (hglob : 3 < w.heap.size) :
    Calls Tryd.prog 8 #[.agg #[v, .int .i64 l.op, .int .i64 l.fi]] w fun e w' => e = .returned (.string (plW l)) ∧ Below w.heap.size w w' := by
  have hbx : ∀ o, Below w.heap.size w (w.alloc o) := fun o => (Below.refl _ _).alloc (Nat.le_refl _) o
  have HOK := hide (fun o => implLogPlanOk_any l P v (w.alloc o) (fun b hb => Nat.lt_of_lt_of_le (hP b hb) (hbx o).size) (hv.carry (fun b hb => (hbx o).block b (hP b hb)) (fun _ h => h)))
  obtain ⟨a, cap, rfl, hlen, hc⟩ := hv.open
  have hrow := row3_alloc w (.slice a l.parts.length cap) (.int .i64 l.op) (.int .i64 l.fi) 25
  have HOK2 : Hid (∀ (n : Nat), CallsIn Fence.wide n Tryd.prog 9 #[.agg #[.slice a l.parts.length cap, .int .i64 l.op, .int .i64 l.fi]] (w.alloc (.cells #[.slice a l.parts.length cap, .int .i64 l.op, .int .i64 l.fi] 25)) fun e w1 => ((plOk l ∧ e = .returned (.bool true)) ∨ (¬ plOk l ∧ e = .returned (.bool false))) ∧ Hid (Below w.heap.size w w1) ∧ w1.rowIs w.heap.size 25 3 (row3 (.slice a l.parts.length cap) (.int .i64 l.op) (.int .i64 l.fi)) ∧ w.heap.size < w1.heap.size) := fun n => by
    refine callsIn_wide.2 ((unhide HOK _).mono ?_)
    rintro e w1 ⟨⟨r, h1, h2⟩, h3⟩
    have q1 := hrow.of_block (h3.block w.heap.size (by simp))
    refine ⟨?_, hide ((hbx _).trans (h3.mono (hbx _).size)), q1, q1.lt⟩
    rcases Bool.eq_false_or_eq_true r with hr | hr
    · subst hr; exact Or.inl ⟨h2.1 rfl, h1⟩
    · subst hr; exact Or.inr ⟨fun h => (by have := h2.2 h; cases this), h1⟩
  have HC := hide hc; have HP := hide hP; have HT := hide htab; have HGL := hide hglob
  clear hv hc hP hrow hbx HOK htab hglob
  refine (callsIn_wide (n := 8)).1 ?_
  refine callsIn_of_wp_marks Tryd.func8 rfl trivial ?_ rfl
  simp only [Tryd.ntmps8, List.size_toArray, List.length_cons, List.length_nil, Nat.reduceAdd, Nat.reduceSub, Array.replicate_succ, Array.replicate_zero, List.push_toArray, List.append_toArray, List.nil_append, List.cons_append]
  gi_wp2_with (first
    | ((try refine ⟨trivial, ?_⟩); gi_at_call 9; refine (unhide HOK2 _).mono ?_; clear HOK2; rintro e w1 ⟨⟨hok, rfl⟩ | ⟨hok, rfl⟩, HB1, q1, hlt1⟩
        <;> (have k0 := q1.cell (i := 0) (by omega); have k1 := q1.cell (i := 1) (by omega); have k2 := q1.cell (i := 2) (by omega); simp only [row3] at k0 k1 k2; have Q1 := hide q1; have HOKK := hide hok; clear q1 hok))
    | ((try refine ⟨trivial, ?_⟩); gi_at_call 19; refine (planLines_in _ _ _ _ _ ⟨_, _, _, rfl⟩ ⟨_, rfl⟩ ⟨_, rfl⟩).mono ?_; rintro e w' ⟨rfl, rfl⟩))
  · clear k0 k1 k2
    have hbB : Below w.heap.size w ((w1.alloc (.cells #[.slice none 0 0] 22)).alloc (.cells #[.slice a l.parts.length cap, .int .i64 l.op, .int .i64 l.fi] 25)) := ((unhide HB1).alloc (unhide HB1).size _).alloc (by have := (unhide HB1).size; simp; omega) _
    have bO := (Boxed.new w1 22 (.slice none 0 0)).alloc (.cells #[.slice a l.parts.length cap, .int .i64 l.op, .int .i64 l.fi] 25)
    have hrB := row3_alloc (w1.alloc (.cells #[.slice none 0 0] 22)) (.slice a l.parts.length cap) (.int .i64 l.op) (.int .i64 l.fi) 25
    rw [World.size_alloc] at hrB
    obtain ⟨W0, hW0⟩ : ∃ W0, ((w1.alloc (.cells #[.slice none 0 0] 22)).alloc (.cells #[.slice a l.parts.length cap, .int .i64 l.op, .int .i64 l.fi] 25)) = W0 := ⟨_, rfl⟩
    have hs0 : W0.heap.size = w1.heap.size + 2 := by rw [← hW0]; simp
    rw [hW0] at hbB bO hrB ⊢
    have hA : LnAt l a cap w.heap.size w1.heap.size (w1.heap.size + 1) W0 := ⟨unhide HOKK, fun i h => by
      obtain ⟨b, o, e, hb, hcell⟩ := unhide HC i h
      exact ⟨b, o, e, unhide HP b hb, hcell.carry (hbB.block b (unhide HP b hb))⟩, tab_keep (unhide HT) (hbB.block _ (unhide HGL)), unhide HGL, by omega, by omega, by omega, hrB⟩
    have HA := hide hA
    have h40 : l.parts.length ≤ 40 := (unhide HOKK).1
    clear hW0 hrB hA
    refine wpIn_rangeFunc_ownF (α := LX) (encs := lEnc) (Kp := KpL (w1.heap.size + 1 + 1) w1.heap.size) (S := fun ys => ys.map lKey = lines l) (Sp := fun _ => True) (N := l.parts.length + 2) (w0 := W0) rfl (by omega)
      (gf := 28) (lb := #[.pointer (some ⟨w1.heap.size + 1, 0, none⟩)]) rfl trivial (enters_of Tryd.func28 (by kernel_rfl) rfl)
      (fun L J Jx W hW hJ _ hY h0 => planLines1_in _ L l a cap w.heap.size w1.heap.size (w1.heap.size + 1) W0 (unhide HA) J Jx (fun s A B hs hg => hJ s A B none hs hg (fun r e => by cases e)) hY W (KpL.of_below hW (by omega)) h0)
      KpL.trans (KpL.putObj (by omega)) (Below.refl _ _) (fun _ => rfl)
      (fun pre W => ((∃ v, Boxed W w1.heap.size 22 v ∧ W.ownsRow (w1.heap.size + 1 + 1) 5 1 v (catL pre).length (bc (catL pre)) ∧ True) ∧ w1.heap.size + 1 + 1 ≤ W.heap.size) ∧ Below w.heap.size w W)
      (fun _ _ _ => False)
      (OwnFrom.and (OwnFrom.and (Own.from (holdsRow_own (w1.heap.size + 1 + 1) w1.heap.size 22 5 1 (fun pre => (catL pre).length) (fun pre => bc (catL pre)) (fun _ _ => True)) _) (fun _ _ _ _ hs hg _ => Nat.le_trans hs hg.size)) (ownFrom_below (Nat.le_refl _) (by omega)))
      (fun _ _ _ _ _ hs _ _ => hs)
      ⟨⟨⟨_, bO, World.ownsRow_nil _ _ _ _, trivial⟩, by omega⟩, hbB⟩
      (fun x => { tmps := #[.agg #[.slice a l.parts.length cap, .int .i64 l.op, .int .i64 l.fi], .pointer (some ⟨w.heap.size, 0, none⟩), .string ⟨#[]⟩, .pointer (some ⟨w1.heap.size, 0, none⟩), .string x.1, .agg #[.slice a l.parts.length cap, .int .i64 l.op, .int .i64 l.fi], .bool true, .bool false, .agg #[.slice a l.parts.length cap, .int .i64 l.op, .int .i64 l.fi], .func (.func 28) #[] #[.pointer (some ⟨w1.heap.size + 1, 0, none⟩)], .string x.1, undef, undef, undef, undef, undef], defers := [] }) ?assign ?body ?done ?stop
    case assign =>
      intro l' x W K hK
      simp only [lEnc]
      gi_wp2
      exact hK
    case body =>
      rintro l' pre x W ⟨⟨⟨u, hu, hrow, -⟩, hM⟩, hB⟩ hlt
      have hx := x.2
      have hcl := catL_len pre
      have hc := hu.cell
      have HROW := hide hrow; have HU := hide hu; have HBB := hide hB
      have hll : (catL pre).length + x.1.size ≤ 1099511627776 := by omega
      have HSN := hide (catL_snoc pre x)
      clear hrow hu hB hcl hx
      gi_wp2_with (gi_at_builtin; refine appendIn_string _ rfl _ _ rfl (w1.heap.size + 1 + 1) u (catL pre) x.1 rfl (unhide HROW) rfl hll hM ?_
                   intro a' n' cap' w2 HN HR HG
                   have hre := round_ends (unhide HU) (unhide HROW) HR.out HG.out hM
                   have hc1 := hre.1.cell; have hf1 := hre.1.frozen
                   have HRE := hide hre
                   clear hre)
      obtain ⟨-, r2, r3, r4, r5, r6⟩ := unhide HRE
      refine ⟨r4, r5, ⟨⟨_, r2, ?_, trivial⟩, Nat.le_trans hM r5.size⟩, (unhide HBB).trans (r6 _ (by omega) (by omega))⟩
      have r3' : ByRow _ _ _ _ := r3
      rw [unhide HSN]
      exact r3'
    case done =>
      rintro D ys W hD hS ⟨⟨⟨u, hu, hrow, -⟩, hM⟩, hB⟩ hK
      have hc := hu.cell
      have hconv := ByRow.str hrow
      gi_wp2
      refine ⟨by simp, .inl ⟨_, _, rfl, run_takeDeferred hK, ?_⟩⟩
      refine ⟨_, results_tmp rfl _ _ _, ?_, hB.trans (belowK_b (w := w) (Nat.le_refl _) W D _ _ (by omega) hK rfl rfl)⟩
      rw [plW_yes (unhide HOKK), ← lines_text, ← hS]
      rfl
    case stop =>
      rintro D c pre W _ _ h _
      exact h.elim
  · refine ⟨_, results_tmp rfl _ _ _, ?_, unhide HB1⟩
    rw [plW_no (unhide HOKK)]
    rfl
end Go.Proofs.YtcnkkegpckibbaaDoor

/- The walk of the program's LogPlanRead: it gives the plan whose text it is, if there is one. Conditions: the text is bounded; strings' bound is some number, strconv's two errors are some errors; the table of powers is as strconv's text lays it. -/

namespace Go.Proofs.YtcnkkegpckibbaaDoor
open Go Go.RowKit Go.Shelf

theorem rd_fold {X : List UInt8} {l' : Pl} (h : plOk l') (e : plT l' = X) : foldP ⟨[], 0, 0⟩ (lnsT X) = some l' := by rw [← e]; exact foldP_plT h
/-- The plan that the lines said, in its box, beside the result's. -/
structure LR (w W : World) (g : Nat) (l : Pl) (a : Option Addr) (cap : Nat) (F : List Nat) : Prop where
  bel : Below w.heap.size w W
  b2 : W.rowIs w.heap.size 25 3 (row3 (.slice none 0 0) (.int .i64 0) (.int .i64 0))
  b4 : W.rowIs g 25 3 (row3 (.slice a l.parts.length cap) (.int .i64 l.op) (.int .i64 l.fi))
  own : FlatOwn W (.slice a l.parts.length cap) 4 (l.parts.map Pt.cs) F
  lts : ∀ b, b ∈ F → w.heap.size < b ∧ b < g
theorem LR.lt {w W : World} {g : Nat} {l : Pl} {a : Option Addr} {cap : Nat} {F : List Nat} (h : LR w W g l a cap F) (b : Nat) (hb : b ∈ F) : b < W.heap.size := Nat.lt_trans (h.lts b hb).2 h.b4.lt
theorem LR.on {w W W' : World} {g : Nat} {l : Pl} {a : Option Addr} {cap : Nat} {F : List Nat} (h : LR w W g l a cap F) (hb : Below W.heap.size W W') : LR w W' g l a cap F :=
  ⟨h.bel.trans (hb.mono h.bel.size), h.b2.of_block (hb.block _ h.b2.lt), h.b4.of_block (hb.block _ h.b4.lt), FlatOwn.carry h.own (fun b hF => hb.block b (h.lt b hF)), h.lts⟩
theorem LR.sto {w W : World} {g : Nat} {l : Pl} {a : Option Addr} {cap : Nat} {F : List Nat} (h : LR w W g l a cap F) (x y z : Value) : Below w.heap.size w (((W.setCell ⟨w.heap.size, 0, none⟩ x).setCell ⟨w.heap.size, 1, none⟩ y).setCell ⟨w.heap.size, 2, none⟩ z) ∧ (∃ F', FlatOwn (((W.setCell ⟨w.heap.size, 0, none⟩ x).setCell ⟨w.heap.size, 1, none⟩ y).setCell ⟨w.heap.size, 2, none⟩ z) (.slice a l.parts.length cap) 4 (l.parts.map Pt.cs) F' ∧ ∀ b, b ∈ F' → w.heap.size ≤ b ∧ b < (((W.setCell ⟨w.heap.size, 0, none⟩ x).setCell ⟨w.heap.size, 1, none⟩ y).setCell ⟨w.heap.size, 2, none⟩ z).heap.size) := by
  refine ⟨((h.bel.setCell (by simp) _).setCell (by simp) _).setCell (by simp) _, F, FlatOwn.carry h.own (fun b hb => ?_), fun b hb => ?_⟩
  · have := (h.lts b hb).1
    rw [Below.heap_setCell _ _ _ _ (by simp; omega), Below.heap_setCell _ _ _ _ (by simp; omega), Below.heap_setCell _ _ _ _ (by simp; omega)]
  · have := (h.lts b hb).1
    have := h.lt b hb
    simp only [World.size_setCell]; omega
set_option maxRecDepth 100000 in
set_option maxHeartbeats 3200000 in
theorem implLogPlanRead_any (s : ByteArray) (w : World) (hs : s.size ≤ 1048576) (hE : EnvP w) (hG : gTopP ≤ w.heap.size) (htab : Lib.TabIs Tryd.prog w "internal/strconv.uint64pow10" .u64 Lib.pow10Tab) (hglob : 3 < w.heap.size) :
    Calls Tryd.prog 10 #[.string s] w fun e w' => RdEnd w w' e s.data.toList := by
  have hbx : ∀ o, Below w.heap.size w (w.alloc o) := fun o => (Below.refl _ _).alloc (Nat.le_refl _) o
  have HPI := hide (fun o => planIn_any s (w.alloc o) hs (hE.below (hbx o)) (Nat.le_trans hG (hbx o).size))
  have HT := hide htab; have HGL := hide hglob
  clear hE hG htab hglob
  go_enter Tryd.func10, Tryd.ntmps10
  go_wp2_with fail
  refine (unhide HPI _).mono ?_
  rintro e w1 ⟨hb1, ⟨l, v, ho, -, rfl, F, hF, hFl⟩ | ⟨ho, rfl⟩⟩
  · clear HPI
    obtain ⟨a, cap, rfl, hlen, -⟩ := (FlatOwn.at hF)
    rw [List.length_map] at hlen hF ⊢
    have hs1 := hb1.size
    rw [World.size_alloc] at hs1
    have hr1 := (row3_alloc w (.slice none 0 0) (.int .i64 0) (.int .i64 0) 25).of_block (hb1.block _ (by rw [World.size_alloc]; omega))
    have hB2 : ∀ o, Below w.heap.size w (w1.alloc o) := fun o => (((hbx _).trans (hb1.mono (hbx _).size)).alloc (by omega) o)
    have hrA : ∀ o, (w1.alloc o).rowIs w.heap.size 25 3 (row3 (.slice none 0 0) (.int .i64 0) (.int .i64 0)) := fun o => hr1.alloc o
    have hrB := row3_alloc w1 (.slice a l.parts.length cap) (.int .i64 l.op) (.int .i64 l.fi) 25
    have hFA : ∀ o, FlatOwn (w1.alloc o) (.slice a l.parts.length cap) 4 (l.parts.map Pt.cs) F := fun o => FlatOwn.carry hF (fun b hb => Below.heap_alloc _ _ _ (hFl b hb).2)
    have hFl2 : ∀ b, b ∈ F → w.heap.size < b ∧ b < w1.heap.size := fun b hb => ⟨by have := (hFl b hb).1; rw [World.size_alloc] at this; omega, (hFl b hb).2⟩
    have HST : Hid (LR w (w1.alloc (.cells #[.slice a l.parts.length cap, .int .i64 l.op, .int .i64 l.fi] 25)) w1.heap.size l a cap F) := ⟨hB2 _, hrA _, hrB, hFA _, hFl2⟩
    have HO := hide ho
    have hlt : w.heap.size < w1.heap.size := by omega
    clear hF hFl hb1 hr1 hB2 hrA hrB hFA hFl2 ho hbx hs1
    go_wp2_with fail
    refine (implLogPlanOk_any l _ (.slice a l.parts.length cap) _ (fun b hb => (unhide HST).lt b hb) (FlatOwn.at (unhide HST).own)).mono ?_
    rintro e w2 ⟨⟨r, rfl, hr⟩, hb2⟩
    have h2 := (unhide HST).on hb2
    have hT2 : Lib.TabIs Tryd.prog w2 "internal/strconv.uint64pow10" .u64 Lib.pow10Tab := tab_keep (unhide HT) (h2.bel.block _ (unhide HGL))
    have hG2 : 3 < w2.heap.size := Nat.lt_of_lt_of_le (unhide HGL) h2.bel.size
    have HT2 := hide hT2; have HG2 := hide hG2; have H2 := hide h2
    have c0 := h2.b4.cell (i := 0) (by omega); have c1 := h2.b4.cell (i := 1) (by omega); have c2 := h2.b4.cell (i := 2) (by omega)
    have m0 := h2.b2.cell (i := 0) (by omega); have m1 := h2.b2.cell (i := 1) (by omega); have m2 := h2.b2.cell (i := 2) (by omega)
    have f2 := h2.b2.frozen
    simp only [row3] at c0 c1 c2 m0 m1 m2
    clear HST hb2 HT HGL hT2 hG2 h2
    cases r with
    | false =>
      have HN := hide (show RdIs s.data.toList none from fun l' h1 h3 => by
        have := rd_fold h1 h3
        rw [unhide HO] at this
        cases this
        have := hr.2 h1
        cases this)
      clear hr
      go_wp2_with fail
      refine bodyPost_ret (v := .tuple #[.agg #[.slice none 0 0, .int .i64 0, .int .i64 0], .bool false]) (by simp [results, Tryd.results10, go_sem, m0, m1, m2]) rfl ?_
      exact Or.inr ⟨unhide HN, rfl, ((unhide H2).sto _ _ _).1⟩
    | true =>
      have hok := hr.1 rfl
      have HOK := hide hok
      clear hr
      go_wp2_with fail
      refine (implLogPlanWrite_any l _ (.slice a l.parts.length cap) w2 (fun b hb => (unhide H2).lt b hb) (FlatOwn.at (unhide H2).own) (unhide HT2) (unhide HG2)).mono ?_
      rintro e w3 ⟨rfl, hb3⟩
      have h3 := (unhide H2).on hb3
      have H3 := hide h3
      clear c0 c1 c2 m0 m1 m2 f2 H2 hb3 hok
      have c0 := h3.b4.cell (i := 0) (by omega); have c1 := h3.b4.cell (i := 1) (by omega); have c2 := h3.b4.cell (i := 2) (by omega)
      have m0 := h3.b2.cell (i := 0) (by omega); have m1 := h3.b2.cell (i := 1) (by omega); have m2 := h3.b2.cell (i := 2) (by omega)
      have f2 := h3.b2.frozen
      simp only [row3] at c0 c1 c2 m0 m1 m2
      clear h3
      by_cases hq : plW l = s
      · have hbn : ((plW l).toList == s.toList) = true := by rw [hq]; simp
        have HQ := hide (show RdIs s.data.toList (some l) from ⟨unhide HOK, by rw [← hq, plW_yes (unhide HOK)]⟩)
        clear hq
        go_wp2_with fail
        refine bodyPost_ret (v := .tuple #[.agg #[.slice a l.parts.length cap, .int .i64 l.op, .int .i64 l.fi], .bool true]) (by simp [results, Tryd.results10, go_sem, m0, m1, m2]) rfl ?_
        exact Or.inl ⟨l, .slice a l.parts.length cap, unhide HQ, rfl, ((unhide H3).sto _ _ _).2, ((unhide H3).sto _ _ _).1⟩
      · have hbn : ((plW l).toList == s.toList) = false := by have := neq_str.2 hq; simpa [bne] using this
        have HQ := hide (show RdIs s.data.toList none from fun l' h1 h3 => by
          have := rd_fold h1 h3
          rw [unhide HO] at this
          cases this
          refine hq ?_
          rw [plW_yes h1, h3])
        clear hq
        go_wp2_with fail
        refine bodyPost_ret (v := .tuple #[.agg #[.slice none 0 0, .int .i64 0, .int .i64 0], .bool false]) (by simp [results, Tryd.results10, go_sem, m0, m1, m2]) rfl ?_
        exact Or.inr ⟨unhide HQ, rfl, ((unhide H3).sto _ _ _).1⟩
  · have hs1 := hb1.size
    rw [World.size_alloc] at hs1
    have hr1 := (row3_alloc w (.slice none 0 0) (.int .i64 0) (.int .i64 0) 25).of_block (hb1.block _ (by rw [World.size_alloc]; omega))
    have hB2 : Below w.heap.size w w1 := (hbx _).trans (hb1.mono (hbx _).size)
    have HR1 := hide hr1
    have m0 := hr1.cell (i := 0) (by omega); have m1 := hr1.cell (i := 1) (by omega); have m2 := hr1.cell (i := 2) (by omega)
    have f2 := hr1.frozen
    simp only [row3] at m0 m1 m2
    have hlt : w.heap.size < w1.heap.size := by omega
    have HB2 := hide hB2
    have HN := hide (show RdIs s.data.toList none from fun l' h1 h3 => by
      have := rd_fold h1 h3
      rw [ho] at this
      cases this)
    clear HPI hr1 hB2 hbx hb1 ho hs1
    go_wp2_with fail
    have rA := (row3_pi2 (row3_pi1 (row3_set0 (unhide HR1) (.slice none 0 0)) (.int .i64 0)) (.int .i64 0)).alloc (.cells #[.slice none 0 0, .int .i64 0, .int .i64 0] 25)
    have e0 := rA.cell (i := 0) (by omega); have e1 := rA.cell (i := 1) (by omega); have e2 := rA.cell (i := 2) (by omega)
    simp only [row3] at e0 e1 e2
    refine bodyPost_ret (v := .tuple #[.agg #[.slice none 0 0, .int .i64 0, .int .i64 0], .bool false]) (by simp [results, Tryd.results10, go_sem, e0, e1, e2]) rfl ?_
    exact Or.inr ⟨unhide HN, rfl, ((((unhide HB2).setCell (by simp) _).setCell (by simp) _).setCell (by simp) _).alloc (by simp only [World.size_setCell]; omega) _⟩
end Go.Proofs.YtcnkkegpckibbaaDoor

/- The walks of markText and markStringS: the text of a mark; strings that own their memory are marked in place, and nothing else turns. For marks up to 2^40. -/

namespace Go.Proofs.YtcnkkegpckibbaaDoor
open Go Go.RowKit

end Go.Proofs.YtcnkkegpckibbaaDoor

/- The shape of a schema in memory: of what kind its cells are, whatever they hold; worlds whose cells are of the same kinds. Definitions and small laws, no program. No conditions. -/

namespace Go.Proofs.YtcnkkegpckibbaaDoor
open Go Go.RowKit




end Go.Proofs.YtcnkkegpckibbaaDoor

/- The walk of markStringS over a shape: it ends, and turns cells of the shape's own blocks alone, each into one of its kind. The marks count to at most 2^40. -/

namespace Go.Proofs.YtcnkkegpckibbaaDoor
open Go Go.RowKit

end Go.Proofs.YtcnkkegpckibbaaDoor

/- The walks of the law's markDiskFileS, markDiskMoveS, markDisk over a shape: they end, and turn cells of the shape's own blocks alone, each into one of its kind. The marks count to at most 2^40. -/

namespace Go.Proofs.YtcnkkegpckibbaaDoor
open Go Go.RowKit

end Go.Proofs.YtcnkkegpckibbaaDoor

/- The walks of the law's markDiskFileS, markDiskMoveS, markDisk over a disk that owns its memory: what is marked then, and that nothing else turns. The marks count to at most 2^40. -/

namespace Go.Proofs.YtcnkkegpckibbaaDoor
open Go Go.RowKit

end Go.Proofs.YtcnkkegpckibbaaDoor

/- The walks of the law's markLogPartS, heldLogPartS, markLogPlan, heldLogPlan over a plan that owns its memory. The marks count to at most 2^40. -/

namespace Go.Proofs.YtcnkkegpckibbaaDoor
open Go Go.RowKit

def PtsOwn (w : World) (v : Value) (ps : List Pt) (F : List Nat) : Prop := FlatOwn w v 4 (ps.map Pt.cs) F
theorem PtsOwn.at {w : World} {v : Value} {ps : List Pt} {F : List Nat} (h : PtsOwn w v ps F) : PtsAt (· ∈ F) w v ps := FlatOwn.at h
end Go.Proofs.YtcnkkegpckibbaaDoor

/- The walks of toKind, toKindS: they make a new copy of a schema, and turn nothing that was there. No conditions but the schema's weight, at most 2^20. -/

namespace Go.Proofs.YtcnkkegpckibbaaDoor
open Go Go.RowKit

/-- The three zero cells of a schema. -/
def z3 : Array Value := #[.int .i64 0, .slice none 0 0, .slice none 0 0]

end Go.Proofs.YtcnkkegpckibbaaDoor

/- The walk of toStringS once more: the copy lies in new blocks of which nothing is frozen. No conditions but the number of strings, at most 2^20. -/

namespace Go.Proofs.YtcnkkegpckibbaaDoor
open Go Go.RowKit

end Go.Proofs.YtcnkkegpckibbaaDoor

/- The walks of the law's toDiskFile, toDiskFileS, toDiskMove, toDiskMoveS, toDisk: they make a new copy of a disk, and turn nothing that was there. No conditions but the disk's weight, at most 2^20. -/

namespace Go.Proofs.YtcnkkegpckibbaaDoor
open Go Go.RowKit

end Go.Proofs.YtcnkkegpckibbaaDoor

/- The walks of the law's own szLogPlan, toLogPlan, eqLogPlan. No conditions but toLogPlan's on how many parts. -/

namespace Go.Proofs.YtcnkkegpckibbaaDoor
open Go Go.RowKit

end Go.Proofs.YtcnkkegpckibbaaDoor

/- The walk of the law on LogPlanRead: whatever text comes in, it answers true, and turns nothing that was there. Conditions: strings' bound is some number, strconv's two errors are some errors; the table of powers is as strconv's text lays it. -/

namespace Go.Proofs.YtcnkkegpckibbaaDoor
open Go Go.RowKit

/-- What is read of a text: a plan, and whether it is one's. -/
noncomputable def rdA (X : List UInt8) : Pl × Bool := by
  classical
  exact if ∃ l, RdIs X (some l) then (((foldP ⟨[], 0, 0⟩ (lnsT X)).getD ⟨[], 0, 0⟩), true) else (⟨[], 0, 0⟩, false)
theorem rdA_yes {X : List UInt8} {l : Pl} (h : RdIs X (some l)) : rdA X = (l, true) := by
  unfold rdA
  rw [if_pos ⟨l, h⟩, rd_fold h.1 h.2]
  rfl
theorem rdA_no {X : List UInt8} (h : RdIs X none) : rdA X = (⟨[], 0, 0⟩, false) := by
  unfold rdA
  rw [if_neg]
  rintro ⟨l, h1, h2⟩
  exact h l h1 h2
/-- A plan that was read, as one answer. -/
def RdOne (w w' : World) (e : Ending) (p : Pl) (t : Bool) : Prop := ∃ v F, e = .returned (.tuple #[.agg #[v, .int .i64 p.op, .int .i64 p.fi], .bool t]) ∧ PtsOwn w' v p.parts F ∧ (∀ b, b ∈ F → w.heap.size ≤ b ∧ b < w'.heap.size) ∧ Below w.heap.size w w'
theorem RdEnd.one {w w' : World} {e : Ending} {X : List UInt8} (h : RdEnd w w' e X) : RdOne w w' e (rdA X).1 (rdA X).2 := by
  rcases h with ⟨l, v, h1, rfl, ⟨F, h2, h3⟩, h4⟩ | ⟨h1, rfl, h4⟩
  · rw [rdA_yes h1]; exact ⟨v, F, rfl, h2, h3, h4⟩
  · rw [rdA_no h1]; exact ⟨_, [], rfl, FlatOwn.nil _ _, fun b hb => (by cases hb), h4⟩

end Go.Proofs.YtcnkkegpckibbaaDoor

/- A plan's text is short, and no shorter beginning of it is a plan's text. No program, no conditions. -/

namespace Go.Proofs.YtcnkkegpckibbaaDoor
open Go Go.RowKit

theorem plT_short {l : Pl} (h : plOk l) : (plT l).length ≤ 20000 := by
  have h1 := plX_len h l.parts.length (Nat.le_refl _)
  have ho := op_nn h
  have h2 := opnL_len (l := l) ⟨⟨by have := ho.1.1; omega, by have := ho.1.2; omega⟩, ⟨by have := ho.2.1; omega, by have := ho.2.2; omega⟩⟩
  have h3 := h.1
  unfold plT
  rw [List.length_append, List.length_append]
  have : endL.length = 4 := rfl
  omega
theorem itoa_no {n : Int} (h0 : 0 ≤ n) : ∀ b, b ∈ Lib.itoa n → b ≠ 100 := fun b hb e => by
  have := itoa_bytes h0 b hb
  rw [e] at this
  revert this
  decide
theorem seal_no {p : Pt} (h : (0 ≤ p.num ∧ p.num ≤ 9999999) ∧ (0 ≤ p.first ∧ p.first ≤ 9999999) ∧ (0 ≤ p.next ∧ p.next ≤ 9999999) ∧ (0 ≤ p.size ∧ p.size ≤ 9999999)) : ∀ b, b ∈ sealL p → b ≠ 100 := fun b hb => by
  unfold sealL at hb
  simp only [List.mem_append, List.mem_cons, List.not_mem_nil, or_false] at hb
  have n1 := itoa_no h.1.1 b; have n2 := itoa_no h.2.1.1 b; have n3 := itoa_no h.2.2.1.1 b; have n4 := itoa_no h.2.2.2.1 b
  rcases hb with ((((((((rfl | rfl | rfl | rfl | rfl) | hb) | rfl) | hb) | rfl) | hb) | rfl) | hb) | rfl
  all_goals first | decide | exact n1 hb | exact n2 hb | exact n3 hb | exact n4 hb
theorem opn_no {l : Pl} (h : (0 ≤ l.op ∧ l.op ≤ 9999999) ∧ (0 ≤ l.fi ∧ l.fi ≤ 9999999)) : ∀ b, b ∈ opnL l → b ≠ 100 := fun b hb => by
  unfold opnL at hb
  simp only [List.mem_append, List.mem_cons, List.not_mem_nil, or_false] at hb
  have n1 := itoa_no h.1.1 b; have n2 := itoa_no h.2.1 b
  rcases hb with ((((rfl | rfl | rfl | rfl | rfl) | hb) | rfl) | hb) | rfl
  all_goals first | decide | exact n1 hb | exact n2 hb
/-- A plan's text: what has no `d`, and the last line. -/
theorem plT_form {l : Pl} (h : plOk l) : ∃ A : List UInt8, plT l = A ++ [101, 110, 100, 10] ∧ ∀ b, b ∈ A → b ≠ 100 := by
  refine ⟨plX l l.parts.length ++ opnL l, by unfold plT; rw [List.append_assoc]; rfl, fun b hb => ?_⟩
  rcases List.mem_append.1 hb with hb | hb
  · unfold plX at hb
    rw [List.take_length] at hb
    obtain ⟨x, hx, hbx⟩ := List.mem_flatten.1 hb
    obtain ⟨p, hp, rfl⟩ := List.mem_map.1 hx
    obtain ⟨i, hi, rfl⟩ := List.getElem_of_mem hp
    exact seal_no (pt_nn h hi) b hbx
  · exact opn_no (op_nn h) b hb
/-- No shorter beginning of a plan's text is a plan's text. -/
theorem plT_torn {l : Pl} (h : plOk l) {n : Nat} (hn : n < (plT l).length) : RdIs ((plT l).take n) none := fun l' h' e => by
  obtain ⟨A, hA, hA1⟩ := plT_form h
  obtain ⟨B, hB, hB1⟩ := plT_form h'
  rw [hA] at e hn
  rw [hB] at e
  have hlen := congrArg List.length e
  simp only [List.length_append, List.length_take, List.length_cons, List.length_nil] at hlen hn
  have hd : (B ++ [101, 110, 100, 10])[B.length + 2]? = some 100 := by
    rw [List.getElem?_append_right (by omega)]
    simp
  rw [e, List.getElem?_take_of_lt (by omega)] at hd
  by_cases h2 : B.length + 2 < A.length
  · rw [List.getElem?_append_left h2] at hd
    obtain ⟨hi, hv⟩ := List.getElem?_eq_some_iff.1 hd
    exact hA1 _ (List.getElem_mem hi) hv
  · rw [List.getElem?_append_right (by omega)] at hd
    rcases (show B.length + 2 - A.length = 0 ∨ B.length + 2 - A.length = 1 by omega) with h3 | h3 <;> rw [h3] at hd <;> simp at hd
end Go.Proofs.YtcnkkegpckibbaaDoor

/- The specification's reader of draws in memory, and the walk of its pick: some number below the bound. The reader's bytes are at most 2000; draws so far at most 10^9. -/

namespace Go.Proofs.YtcnkkegpckibbaaDoor
open Go Go.RowKit

def rowD (c0 c1 : Value) : Nat → Value
  | 0 => c0
  | _ => c1

/-- The reader of draws: its bytes, how many draws there were. -/
structure DR (R : Nat) (w : World) (v : Value) (b : List UInt8) (p : Nat) : Prop where
  cells : w.rowIs R 52 2 (rowD v (.int .i64 p))
  bytes : ∃ a cap, v = .slice a b.length cap ∧ ∀ i, (h : i < b.length) → ∃ g o, a = some ⟨g, o, none⟩ ∧ g < R ∧ w.cell? ⟨g, o + i, none⟩ = some (.int .u8 b[i].toNat)
  small : b.length ≤ 2000

theorem DR.block {R : Nat} {w w' : World} {v : Value} {b : List UInt8} {p p' : Nat} (h : DR R w v b p) (hb : ∀ g, g < R → w'.heap[g]? = w.heap[g]?) (hc : w'.rowIs R 52 2 (rowD v (.int .i64 p'))) : DR R w' v b p' := by
  obtain ⟨a, cap, h1, h2⟩ := h.bytes
  refine ⟨hc, ⟨a, cap, h1, fun i hi => ?_⟩, h.small⟩
  obtain ⟨g, o, e, hlt, hcell⟩ := h2 i hi
  exact ⟨g, o, e, hlt, by rw [World.cell?_of_block (w := w) (hb g hlt)]; exact hcell⟩
theorem DR.on {R : Nat} {w w' : World} {v : Value} {b : List UInt8} {p : Nat} (h : DR R w v b p) (hb : Below w.heap.size w w') : DR R w' v b p :=
  h.block (fun g hg => hb.block g (by have := h.cells.lt; omega)) (h.cells.of_block (hb.block _ h.cells.lt))
theorem DR.but {R : Nat} {w w' : World} {v : Value} {b : List UInt8} {p p' : Nat} (h : DR R w v b p) (hb : But R w w') (hc : w'.rowIs R 52 2 (rowD v (.int .i64 p'))) : DR R w' v b p' :=
  h.block (fun g hg => hb.at (by have := h.cells.lt; omega) (by omega)) hc
theorem rowD_set1 {w : World} {B : Nat} {T : TypeId} {x y : Value} (h : w.rowIs B T 2 (rowD x y)) (v : Value) : (w.setCell ⟨B, 1, none⟩ v).rowIs B T 2 (rowD x v) :=
  (h.set 1 v).congr fun i hi => by
    rcases (show i = 0 ∨ i = 1 by omega) with rfl | rfl <;> rfl

theorem i64_xor_nat (a b : Nat) (ha : a < 4611686018427387904) (hb : b < 4611686018427387904) : bits .xor .i64 (a : Int) (b : Int) = ((a ^^^ b : Nat) : Int) := by
  have hx : a ^^^ b < 2 ^ 62 := Nat.xor_lt_two_pow (by omega) (by omega)
  have h1 : (BitVec.ofInt 64 (a : Int)).toNat = a := by
    rw [BitVec.ofInt_natCast, BitVec.toNat_ofNat]; exact Nat.mod_eq_of_lt (by omega)
  have h2 : (BitVec.ofInt 64 (b : Int)).toNat = b := by
    rw [BitVec.ofInt_natCast, BitVec.toNat_ofNat]; exact Nat.mod_eq_of_lt (by omega)
  show IntKind.i64.wrap ((BitVec.ofInt 64 (a : Int) ^^^ BitVec.ofInt 64 (b : Int)).toNat : Int) = _
  rw [BitVec.toNat_xor, h1, h2, IntKind.wrap_i64]
  omega

/-- What a draw comes to. -/
def PickEnd (R : Nat) (w w' : World) (v : Value) (b : List UInt8) (p n : Nat) (e : Ending) : Prop :=
  ∃ r : Nat, e = .returned (.int .i64 (r : Int)) ∧ r < n ∧ Hid (DR R w' v b (p + 1)) ∧ Hid (But R w w')

set_option maxRecDepth 100000 in
set_option maxHeartbeats 3200000 in
theorem pick_any (R : Nat) (w : World) (v : Value) (b : List UInt8) (p n : Nat) (h : DR R w v b p) (hn : 1 ≤ n ∧ n ≤ 1000000) (hp : p ≤ 1000000000) :
    Calls Tryd.prog 27 #[.pointer (some ⟨R, 0, none⟩), .int .i64 (n : Int)] w fun e w' => PickEnd R w w' v b p n e := by
  obtain ⟨hn1, hn2⟩ := hn
  obtain ⟨a, cap, hv, hby⟩ := h.bytes
  subst hv
  have k0 := h.cells.cell (i := 0) (by omega); have k1 := h.cells.cell (i := 1) (by omega); have f1 := h.cells.frozen 1
  simp only [rowD] at k0 k1
  have hsm := h.small
  have hq1 : decide ((n : Int) < 1) = false := by simp; omega
  have hend : ∀ m, DR R ((w.setCell ⟨R, 1, none⟩ (.int .i64 ((p : Int) + 1))).drewN m) (.slice a b.length cap) b (p + 1) ∧ But R w ((w.setCell ⟨R, 1, none⟩ (.int .i64 ((p : Int) + 1))).drewN m) := fun m => by
    have hb : But R w ((w.setCell ⟨R, 1, none⟩ (.int .i64 ((p : Int) + 1))).drewN m) := (But.set w 1 _).trans ⟨rfl, rfl, rfl, Nat.le_refl _, fun _ _ _ => rfl⟩
    exact ⟨h.but hb (by have := rowD_set1 h.cells (.int .i64 ((p : Int) + 1)); exact this.of_block rfl), hb⟩
  have HEND := hide hend
  clear hend
  by_cases h0 : b.length = 0
  · have hz : ((b.length : Int) == 0) = true := by simp [h0]
    clear hby h h0
    go_enter Tryd.func27, Tryd.ntmps27
    go_wp2_with fail
    go_ret
    exact ⟨0, rfl, by omega, (unhide HEND 0).1, (unhide HEND 0).2⟩
  · have hz : ((b.length : Int) == 0) = false := beq_eq_false_iff_ne.2 (by omega)
    by_cases hlt : p < b.length
    · have hq2 : decide ((p : Int) < (b.length : Int)) = true := by simp; omega
      obtain ⟨g, o, rfl, hg, hc⟩ := hby p hlt
      have hx8 := b[p].toNat_lt
      generalize b[p].toNat = x at *
      have hi1 : (p : Int) < (b.length : Int) := by omega
      have hne : g ≠ R := by omega
      have hne2 : R ≠ g := by omega
      clear hby h
      go_enter Tryd.func27, Tryd.ntmps27
      go_wp2_with fail
      go_ret
      refine ⟨x % n, by simp, Nat.mod_lt _ (by omega), (unhide HEND 0).1, (unhide HEND 0).2⟩
    · have hq2 : decide ((p : Int) < (b.length : Int)) = false := by simp; omega
      have hb1 : 0 < b.length := by omega
      obtain ⟨g, o, rfl, hg, -⟩ := hby 0 hb1
      have hm1 : p % b.length < b.length := Nat.mod_lt _ hb1
      have hm2 : (p * 7 + 3) % b.length < b.length := Nat.mod_lt _ hb1
      obtain ⟨g1, o1, e1, -, c1⟩ := hby (p % b.length) hm1
      obtain ⟨g2, o2, e2, -, c2⟩ := hby ((p * 7 + 3) % b.length) hm2
      simp only [Option.some.injEq, Addr.mk.injEq, and_true] at e1 e2
      obtain ⟨rfl, rfl⟩ := e1
      obtain ⟨rfl, rfl⟩ := e2
      have hx8 := (b[p % b.length]'hm1).toNat_lt
      have hy8 := (b[(p * 7 + 3) % b.length]'hm2).toNat_lt
      generalize (b[p % b.length]'hm1).toNat = x at *
      generalize (b[(p * 7 + 3) % b.length]'hm2).toNat = y at *
      have hi1 : (p : Int) % (b.length : Int) < (b.length : Int) := by omega
      have hi2 : ((p : Int) * 7 + 3) % (b.length : Int) < (b.length : Int) := Int.emod_lt_of_pos _ (by omega)
      have hj1 : 0 ≤ (p : Int) % (b.length : Int) := Int.emod_nonneg _ (by omega)
      have hj2 : 0 ≤ ((p : Int) * 7 + 3) % (b.length : Int) := Int.emod_nonneg _ (by omega)
      have ht1 : ((p : Int) % (b.length : Int)).toNat = p % b.length := by rw [← Int.natCast_emod]; rfl
      have ht2 : (((p : Int) * 7 + 3) % (b.length : Int)).toNat = (p * 7 + 3) % b.length := by
        rw [show (p : Int) * 7 + 3 = ((p * 7 + 3 : Nat) : Int) from by omega, ← Int.natCast_emod]; rfl
      have hne : g ≠ R := by omega
      have hne2 : R ≠ g := by omega
      clear hby h
      go_enter Tryd.func27, Tryd.ntmps27
      go_wp2_with fail
      go_quiet (fail)
      obtain ⟨z, hz, hzb⟩ : ∃ z : Nat, wrap64 ((x : Int) * 131 + (y : Int) * 1117 + (p : Int) * 29 + wrap64 (wrap64 ((p : Int) / (b.length : Int)) * 53)) = (z : Int) ∧ z ≤ 1000000000000 := by
        have q0 : 0 ≤ (p : Int) / (b.length : Int) := Int.ediv_nonneg (by omega) (by omega)
        have q1 : (p : Int) / (b.length : Int) ≤ p := Int.ediv_le_self _ (by omega)
        generalize (p : Int) / (b.length : Int) = q at *
        refine ⟨(x * 131 + y * 1117 + p * 29 + q.toNat * 53), ?_, ?_⟩
        · unfold wrap64; omega
        · omega
      rw [hz]
      clear hz
      go_wp2_with fail
      go_ret
      refine ⟨(z ^^^ z / 64) % n, ?_, Nat.mod_lt _ (by omega), (unhide HEND nq).1, (unhide HEND nq).2⟩
      have hx : bits BinOp.xor IntKind.i64 (z : Int) ((z : Int) / 64) = ((z ^^^ z / 64 : Nat) : Int) := i64_xor_nat z (z / 64) (by omega) (by omega)
      rw [hx, Int.tmod_eq_emod_of_nonneg (by omega)]
      simp
end Go.Proofs.YtcnkkegpckibbaaDoor
