/- How much a schema that was read weighs: no more than its text. No program, no conditions. -/
import Derived.Test.YthkjhmcbmakkdaaDoorPart17
import Derived.Test.YthkjhmcbmakkdaaDoorPart21
import Derived.Test.YthkjhmcbmakkdaaDoorPart12
import Derived.Test.YthkjhmcbmakkdaaDoorPart08
namespace Go.Proofs.YthkjhmcbmakkdaaDoor
open Go Go.RowKit

theorem wS_snoc (l : List ByteArray) (x : ByteArray) : wS (l ++ [x]) = wS l + (x.size + 1) := by
  induction l with
  | nil => simp [wS]
  | cons a r ih => simp only [List.cons_append, wS, ih]; omega
theorem wKs_snoc (l : List Kd) (x : Kd) : wKs (l ++ [x]) = wKs l + (wKd x + 1) := by
  induction l with
  | nil => simp [wKs]; omega
  | cons a r ih => simp only [List.cons_append, wKs, ih]; omega

theorem klp_wt (rd : List UInt8 → Option (Kd × List UInt8)) (hrd : ∀ i k r, rd i = some (k, r) → wKd k + 1 + r.length ≤ i.length) :
    ∀ (f : Nat) (ns : List ByteArray) (ks : List Kd) (inp : List UInt8) (ns' : List ByteArray) (ks' : List Kd) (rest : List UInt8), klp rd f ns ks inp = some (ns', ks', rest) →
      wS ns' + wKs ks' + rest.length + 1 ≤ wS ns + wKs ks + inp.length
  | 0, ns, ks, inp, ns', ks', rest => by intro h; rw [klp] at h; cases h
  | f + 1, ns, ks, inp, ns', ks', rest => by
    intro h
    rw [klp] at h
    split at h
    · rename_i h1
      cases h
      have := congrArg List.length (khead h1)
      simp only [List.length_cons] at this
      omega
    · split at h
      · cases h
      · rename_i i1 hc
        split at h
        · cases h
        · rename_i nm i2 hn
          split at h
          · cases h
          · rename_i t i3 hr
            have h1 := klp_wt rd hrd f _ _ _ _ _ _ h
            have h2 := hrd _ _ _ hr
            have l1 := congrArg List.length (kcma_some hc)
            have l2 := congrArg List.length (knam_some hn)
            rw [wS_snoc, wKs_snoc] at h1
            simp only [List.length_append, List.length_cons, List.length_nil] at l1 l2
            have l3 : nm.data.toList.length = nm.size := rfl
            omega

theorem krd_wt : ∀ (d : Nat) (inp : List UInt8) (k : Kd) (rest : List UInt8), krd d inp = some (k, rest) → wKd k + 1 + rest.length ≤ inp.length
  | 0, inp, k, rest => by intro h; rw [krd] at h; cases h
  | d + 1, inp, k, rest => by
    intro h
    have hwk : ∀ s (k : Kd), wKd (.mk s [] [k]) = wKd k + 1 := fun s k => by simp [wKd, wKs, wS]; omega
    have hw0 : ∀ s, wKd (.mk s [] []) = 0 := fun s => by simp [wKd, wKs, wS]
    rw [krd] at h
    split at h
    · rename_i h1
      cases h
      have := congrArg List.length (kpre h1)
      simp only [List.length_append, List.length_cons, List.length_nil, Nat.reduceAdd, Nat.zero_add] at this
      rw [hw0]; omega
    · split at h
      · rename_i h1
        cases h
        have := congrArg List.length (kpre h1)
        simp only [List.length_append, List.length_cons, List.length_nil, Nat.reduceAdd, Nat.zero_add] at this
        rw [hw0]; omega
      · split at h
        · rename_i h1
          cases h
          have := congrArg List.length (kpre h1)
          simp only [List.length_append, List.length_cons, List.length_nil, Nat.reduceAdd, Nat.zero_add] at this
          rw [hw0]; omega
        · split at h
          · rename_i h1
            split at h
            · cases h
            · rename_i k' r' hk
              split at h
              · rename_i h2
                cases h
                have e := krd_wt d _ _ _ hk
                have e1 := congrArg List.length (khead h1)
                have e2 := congrArg List.length (khead h2)
                simp only [List.length_cons] at e1 e2
                rw [hwk]; omega
              · cases h
          · split at h
            · rename_i h1
              split at h
              · cases h
              · rename_i k' r' hk
                cases h
                have e := krd_wt d _ _ _ hk
                have e1 := congrArg List.length (khead h1)
                simp only [List.length_cons] at e1
                rw [hwk]; omega
            · split at h
              · rename_i h1
                split at h
                · cases h
                · rename_i ns ks r' hk
                  cases h
                  have e := klp_wt (krd d) (krd_wt d) _ _ _ _ _ _ _ hk
                  have e1 := congrArg List.length (khead h1)
                  simp only [List.length_cons, wS, wKs] at e1 e
                  rw [wKd]; omega
              · cases h
end Go.Proofs.YthkjhmcbmakkdaaDoor

/- The walk of the specification's KindRead: it answers as the function specK does, in blocks of the answer's own. For texts of at most 2^20 bytes. -/

namespace Go.Proofs.YthkjhmcbmakkdaaDoor
open Go Go.RowKit

/-- An answer of KindRead: a schema in blocks of its own and true, or nothing and false. -/
def KAns (o : Option Kd) (w : World) (e : Ending) (w' : World) : Prop :=
  ∃ (k : Kd) (b : Bool) (c : C3) (F : List Nat), ((o = some k ∧ b = true) ∨ (o = none ∧ b = false ∧ k = .mk 0 [] [])) ∧ e = .returned (.tuple #[.agg #[c.c0, c.c1, c.c2], .bool b]) ∧ OwnD w' k c F ∧ F.Nodup ∧ (∀ b, b ∈ F → w.heap.size ≤ b ∧ b < w'.heap.size) ∧ Below w.heap.size w w'
theorem KAns.no {o : Option Kd} {w w' : World} (h : o = none) (hb : Below w.heap.size w w') : KAns o w (.returned (.tuple #[.agg #[.int .i64 0, .slice none 0 0, .slice none 0 0], .bool false])) w' :=
  ⟨.mk 0 [] [], false, ⟨_, _, _⟩, [], Or.inr ⟨h, rfl, rfl⟩, rfl, OwnD.leaf _ _ ⟨by decide, by decide⟩, List.nodup_nil, fun b hb => by simp at hb, hb⟩

theorem lf_zero (s : ByteArray) : lf s 0 = s.data.toList := by unfold lf; simp
theorem size_data (s : ByteArray) : s.data.toList.length = s.size := rfl

theorem below_set3 {B : Nat} {a w : World} (h : Below B a w) (b : Nat) (c : C3) (hb : B ≤ b) : Below B a (set3 w b c) := ((h.setCell hb _).setCell hb _).setCell hb _
theorem below_but {R : Nat} {w W : World} (h : But R w W) {n : Nat} (hn : n ≤ w.heap.size) (hR : n ≤ R) : Below n w W := ⟨h.os, h.tape, h.output, h.size, fun k hk => h.at (by omega) (by omega)⟩

theorem specK_cases {s : ByteArray} (h8 : ¬ 800 < s.size) {k : Kd} {a2 : Nat} {bad2 : Bool} (h : KOut 6 s (lf s 0) k a2 bad2) :
    (bad2 = false ∧ a2 = s.size ∧ krd 6 (lf s 0) = some (k, [])) ∨ (bad2 = false ∧ ¬ ((a2 : Int) = (s.size : Int)) ∧ specK s.data.toList = none) ∨ (bad2 = true ∧ specK s.data.toList = none) := by
  have hu : specK s.data.toList = match krd 6 (lf s 0) with
      | some (k, []) => if 0 < qT k 1 ∧ kxT k = s.data.toList then some k else none
      | _ => none := by unfold specK; rw [if_neg (by rw [size_data]; exact h8), lf_zero]; rfl
  rcases h with ⟨h1, h2, h3⟩ | ⟨h1, h2, h3⟩
  · by_cases he : a2 = s.size
    · exact Or.inl ⟨h1, he, by rw [h2, lf_nil (by omega)]⟩
    · refine Or.inr (Or.inl ⟨h1, by omega, ?_⟩)
      rw [hu, h2, lf_cons (by omega)]
  · exact Or.inr (Or.inr ⟨h1, by rw [hu, h2]⟩)
theorem specK_end {s : ByteArray} (h8 : ¬ 800 < s.size) {k : Kd} (h : krd 6 (lf s 0) = some (k, [])) : specK s.data.toList = if 0 < qT k 1 ∧ kxT k = s.data.toList then some k else none := by
  unfold specK; rw [if_neg (by rw [size_data]; exact h8), ← lf_zero, h]
theorem bytes_same {l : List UInt8} {s : ByteArray} : (⟨l.toArray⟩ : ByteArray) = s ↔ l = s.data.toList := by
  constructor
  · intro h; rw [← h]
  · intro h; rw [h]

theorem list_beq (l : List UInt8) (s : ByteArray) : (l == s.toList) = decide ((⟨l.toArray⟩ : ByteArray) = s) := by
  rw [toList_data, Bool.eq_iff_iff, decide_eq_true_eq, bytes_same]
  simp

set_option maxRecDepth 100000 in
set_option maxHeartbeats 3200000 in
theorem specKindRead_any (w : World) (s : ByteArray) (hs : s.size ≤ 1048576) :
    Calls Tryd.prog 12 #[.string s] w fun e w' => KAns (specK s.data.toList) w e w' := by
  by_cases h8 : 800 < s.size
  · have hsp : specK s.data.toList = none := by unfold specK; rw [if_pos (by rw [size_data]; exact h8)]
    go_enter Tryd.func12, Tryd.ntmps12
    go_wp2_with fail
    refine bodyPost_ret (v := .tuple #[.agg #[.int .i64 0, .slice none 0 0, .slice none 0 0], .bool false]) (by simp [results, Tryd.results12, go_sem]) rfl ?_
    exact KAns.no hsp ((Below.refl _ _).alloc (Nat.le_refl _) _)
  · have hrd : Rdr ((w.alloc (.cells #[.int .i64 0, .slice none 0 0, .slice none 0 0] 26)).alloc (.cells #[.string s, .int .i64 0, .bool false] 60)) (w.heap.size + 1) s 0 false := by
      have q := row3_alloc (w.alloc (.cells #[.int .i64 0, .slice none 0 0, .slice none 0 0] 26)) (.string s) (.int .i64 (0 : Nat)) (.bool false) 60
      rw [World.size_alloc] at q
      exact q
    have hsub := l2Kind_all 6 _ (w.heap.size + 1) s 0 hs hrd (Nat.zero_le _) (Nat.le_refl _)
    rw [show (7 : Int) - ((6 : Nat) : Int) = 1 from by omega] at hsub
    have HSUB := hide hsub
    clear hsub hrd
    go_enter Tryd.func12, Tryd.ntmps12
    go_wp2_with (first
      | (go_at_call 35
         refine (unhide HSUB).mono ?_
         clear HSUB
         rintro e w2 ⟨k, ⟨x0, x1, x2⟩, F, a2, bad2, rfl, ho, hnd, hF, hr, hout, hb⟩
         have hbx : w2.rowIs w.heap.size 26 3 (row3 (.int .i64 0) (.slice none 0 0) (.slice none 0 0)) := (World.rowIs.alloc (row3_alloc w _ _ _ _) _).of_block (hb.at (by simp; omega) (by omega))
         have hb0 : Below w.heap.size w w2 := (((Below.refl _ w).alloc (Nat.le_refl _) _).alloc (by simp) _).trans (below_but hb (by simp; omega) (by omega))
         have hs2 : w.heap.size + 1 < w2.heap.size := by have := hb.size; simp at this; omega
         obtain ⟨p0, -, F1, F2, -, ⟨ap, cp, p1, -⟩, aq, cq, p2, -⟩ := ho.open
         simp only at p0 p1 p2
         subst p0 p1 p2
         obtain ⟨y0, y1, y2, -, -⟩ := hr.cells
         have r0 := hbx.cell (i := 0) (by omega); have r1 := hbx.cell (i := 1) (by omega); have r2 := hbx.cell (i := 2) (by omega)
         have z0 := hbx.frozen 0; have z1 := hbx.frozen 1; have z2 := hbx.frozen 2
         simp only [row3] at r0 r1 r2
         have hF2 : ∀ b, b ∈ F → w.heap.size + 2 ≤ b ∧ b < w2.heap.size := fun b hb' => by have := hF b hb'; simp only [World.size_alloc] at this; omega
         have HO := hide ho; have HF := hide hF2; have HB0 := hide hb0; have HBX := hide hbx; have HR := hide hr
         clear ho hF hF2 hb hb0 hbx hr
         have hs3 : w.heap.size < w2.heap.size := by omega
         have hcase : (bad2 = false ∧ a2 = s.size ∧ krd 6 (lf s 0) = some (k, [])) ∨ (bad2 = false ∧ ¬ ((a2 : Int) = (s.size : Int)) ∧ specK s.data.toList = none) ∨ (bad2 = true ∧ specK s.data.toList = none) := specK_cases h8 hout
         rcases hcase with ⟨rfl, hend, hk⟩ | ⟨rfl, hne, hk⟩ | ⟨rfl, hk⟩)
      | (go_at_call 15
         subst hend
         have hrep := OwnD.rep (P := fun b => b < w2.heap.size) k _ F (fun b hb => (unhide HF b hb).2) (unhide HO)
         have hba := (Below.refl w2.heap.size w2).alloc (Nat.le_refl _) (.cells #[.int .i64 k.sort, .slice ap k.names.length cp, .slice aq k.kids.length cq] 26)
         have hrep3 := KRep.carry (w' := w2.alloc (.cells #[.int .i64 k.sort, .slice ap k.names.length cp, .slice aq k.kids.length cq] 26)) (fun b hb => hba.block b hb) (fun _ h => h) _ _ hrep
         refine (specKindOk_any k _ ⟨_, _, _⟩ _ (fun b hb => by rw [World.size_alloc]; omega) hrep3).mono ?_
         rintro e w4 ⟨rfl, hb4⟩
         have hb24 : Below w2.heap.size w2 w4 := hba.trans (hb4.mono (by simp))
         have q5 := (row3_alloc w2 (.int .i64 k.sort) (.slice ap k.names.length cp) (.slice aq k.kids.length cq) 26).of_block (hb4.block _ (by simp))
         have k0 := q5.cell (i := 0) (by omega); have k1 := q5.cell (i := 1) (by omega); have k2 := q5.cell (i := 2) (by omega)
         simp only [row3] at k0 k1 k2
         have hbx4 := (unhide HBX).of_block (hb24.block _ (by omega))
         have s0 := hbx4.cell (i := 0) (by omega); have s1 := hbx4.cell (i := 1) (by omega); have s2 := hbx4.cell (i := 2) (by omega)
         have t0 := hbx4.frozen 0; have t1 := hbx4.frozen 1; have t2 := hbx4.frozen 2
         simp only [row3] at s0 s1 s2
         have hs4 := hb24.size
         have HB24 := hide hb24; have HBX4 := hide hbx4; have HQ5 := hide q5
         have HREP4 := hide (KRep.carry (w' := w4) (fun b hb => hb24.block b hb) (fun _ h => h) _ _ hrep)
         clear hrep hba hrep3 hb4 hb24 q5 hbx4 r0 r1 r2 z0 z1 z2 y0 y1 y2
         cases hq : decide (0 < qT k 1))
      | (go_at_call 22
         have hq' := of_decide_eq_true hq
         refine (l2Text_any k _ ⟨_, _, _⟩ w4 (fun b hb => by omega) (unhide HREP4) (ok_of_qT hq').1 (by have := kxT_short hq'; omega)).mono ?_
         rintro e w5 ⟨rfl, hb5⟩
         have q5 := (unhide HQ5).of_block (hb5.block _ ((unhide HQ5).lt))
         have l0 := q5.cell (i := 0) (by omega); have l1 := q5.cell (i := 1) (by omega); have l2 := q5.cell (i := 2) (by omega)
         simp only [row3] at l0 l1 l2
         have hbx5 := (unhide HBX4).of_block (hb5.block _ (unhide HBX4).lt)
         have v0 := hbx5.cell (i := 0) (by omega); have v1 := hbx5.cell (i := 1) (by omega); have v2 := hbx5.cell (i := 2) (by omega)
         have u0 := hbx5.frozen 0; have u1 := hbx5.frozen 1; have u2 := hbx5.frozen 2
         simp only [row3] at v0 v1 v2
         have hs5 := hb5.size
         have HB25 := hide ((unhide HB24).trans (hb5.mono (by omega)))
         clear q5 hbx5 hb5 k0 k1 k2 s0 s1 s2 t0 t1 t2
         have hbe := list_beq (kxT k) s
         cases hsame : decide ((⟨(kxT k).toArray⟩ : ByteArray) = s)
         all_goals rw [hsame] at hbe))
    all_goals first
      | (have hq0 : decide (0 < qT k 1) = false := hq
         have hsp : specK s.data.toList = none := by rw [specK_end h8 hk, if_neg (fun h => by rw [decide_eq_true h.1] at hq0; cases hq0)]
         refine bodyPost_ret (v := .tuple #[.agg #[.int .i64 0, .slice none 0 0, .slice none 0 0], .bool false]) (by simp [results, Tryd.results12, go_sem, s0, s1, s2]) rfl ?_
         exact KAns.no hsp (below_set3 ((unhide HB0).trans ((unhide HB24).mono (by omega))) _ ⟨_, _, _⟩ (Nat.le_refl _)))
      | (have hk0 : specK s.data.toList = none := hk
         refine bodyPost_ret (v := .tuple #[.agg #[.int .i64 0, .slice none 0 0, .slice none 0 0], .bool false]) (by simp [results, Tryd.results12, go_sem, r0, r1, r2, hs3]) rfl ?_
         exact KAns.no hk ((below_set3 (unhide HB0) _ ⟨_, _, _⟩ (Nat.le_refl _)).alloc (by simp only [set3_size]; omega) _))
      | (have hsame0 : decide ((⟨(kxT k).toArray⟩ : ByteArray) = s) = false := hsame
         have hsp : specK s.data.toList = none := by rw [specK_end h8 hk, if_neg (fun h => by rw [decide_eq_true (bytes_same.2 h.2)] at hsame0; cases hsame0)]
         refine bodyPost_ret (v := .tuple #[.agg #[.int .i64 0, .slice none 0 0, .slice none 0 0], .bool false]) (by simp [results, Tryd.results12, go_sem, v0, v1, v2]) rfl ?_
         exact KAns.no hsp (below_set3 ((unhide HB0).trans ((unhide HB25).mono (by omega))) _ ⟨_, _, _⟩ (Nat.le_refl _)))
      | (have hsp : specK s.data.toList = some k := by rw [specK_end h8 hk, if_pos ⟨of_decide_eq_true hq, bytes_same.1 (of_decide_eq_true hsame)⟩]
         refine bodyPost_ret (v := .tuple #[.agg #[.int .i64 k.sort, .slice ap k.names.length cp, .slice aq k.kids.length cq], .bool true]) (by simp [results, Tryd.results12, go_sem, v0, v1, v2]) rfl ?_
         refine ⟨k, true, ⟨_, _, _⟩, F, Or.inl ⟨hsp, rfl⟩, rfl, OwnD.carry k _ F (fun b hb => (set3_heap w5 w.heap.size ⟨_, _, _⟩ b (by have := (unhide HF b hb).1; omega)).trans ((unhide HB25).block b (unhide HF b hb).2)) (unhide HO), hnd, fun b hb => ?_, below_set3 ((unhide HB0).trans ((unhide HB25).mono (by omega))) _ ⟨_, _, _⟩ (Nat.le_refl _)⟩
         have := unhide HF b hb
         have h2 := set3_size w5 w.heap.size ⟨.int .i64 k.sort, .slice ap k.names.length cp, .slice aq k.kids.length cq⟩
         unfold set3 at h2
         simp only at h2
         rw [h2]
         omega)
end Go.Proofs.YthkjhmcbmakkdaaDoor
