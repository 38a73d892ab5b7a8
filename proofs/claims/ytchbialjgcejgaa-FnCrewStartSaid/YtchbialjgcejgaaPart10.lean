/- When a crew is ok, as plain data: the program's way, and that it is the specification's. No program, no conditions. -/
import Derived.Test.YtchbialjgcejgaaPart09
import Derived.Test.YtchbialjgcejgaaPart07
import Derived.Handy
import Derived.BigRegion
import Derived.BigQuiet
import Derived.Test.YtchbialjgcejgaaRows
import Derived.Laws.CopyOwn
import Derived.WalkKit
namespace Go.Proofs.Ytchbialjgcejgaa
open Go Go.RowKit

/-- What is told of one place of the ring. -/
def rg1 (n : Nat) (z : Int) (k : Nat) : List Int := if z = -1 then [] else if z.tmod (n : Int) = (k : Int) then [z] else [-1]
def rgL (n : Nat) (l : List Int) : List Int := l.zipIdx.flatMap (fun p => rg1 n p.1 p.2)
theorem rgL_take (n : Nat) (l : List Int) (k : Nat) (hk : k < l.length) : rgL n (l.take (k + 1)) = rgL n (l.take k) ++ rg1 n l[k] k := by
  unfold rgL
  rw [List.take_succ_eq_append_getElem hk, List.zipIdx_append, List.flatMap_append]
  simp only [List.zipIdx_cons, List.zipIdx_nil, List.flatMap_cons, List.flatMap_nil, List.append_nil, List.length_take, Nat.zero_add]
  rw [Nat.min_eq_left (Nat.le_of_lt hk)]
theorem rg1_len (n : Nat) (z : Int) (k : Nat) : (rg1 n z k).length ≤ 1 := by unfold rg1; split; · simp
                                                                             split <;> simp
theorem rgL_len (n : Nat) (l : List Int) : (rgL n l).length ≤ l.length := by
  have : ∀ m, m ≤ l.length → (rgL n (l.take m)).length ≤ m := fun m => by
    induction m with
    | zero => intro _; simp [rgL]
    | succ m ih =>
      intro hm
      rw [rgL_take n l m (by omega), List.length_append]
      have := ih (by omega); have := rg1_len n (l[m]'(by omega)) m
      omega
  have := this l.length (Nat.le_refl _)
  rwa [List.take_length] at this
/-- The jobs under way, as the program gathers them. -/
def underL (c : Cw) : List Int := c.queue ++ c.results ++ rd1 c ++ ((c.hands.filter busyH).map Hd.job) ++ rgL c.ring.length c.ring
theorem rgL_mem {n : Nat} {l : List Int} {z : Int} : z ∈ rgL n l ↔ ∃ i, ∃ h : i < l.length, z ∈ rg1 n l[i] i := by
  unfold rgL
  simp only [List.mem_flatMap, Prod.exists, List.mem_zipIdx_iff_getElem?]
  constructor
  · rintro ⟨a, b, h1, h2⟩
    obtain ⟨hb, rfl⟩ := List.getElem?_eq_some_iff.1 h1
    exact ⟨b, hb, h2⟩
  · rintro ⟨i, h, h2⟩
    exact ⟨l[i], i, List.getElem?_eq_some_iff.2 ⟨h, rfl⟩, h2⟩
theorem rg_yes {c : Cw} (hw : (c.ring.length : Int) = c.window) (h : jR c) : rgL c.ring.length c.ring = c.ring.filter (fun z => decide (0 ≤ z)) := by
  have : ∀ m, m ≤ c.ring.length → rgL c.ring.length (c.ring.take m) = (c.ring.take m).filter (fun z => decide (0 ≤ z)) := fun m => by
    induction m with
    | zero => intro _; simp [rgL]
    | succ m ih =>
      intro hm
      rw [rgL_take _ _ m (by omega), ih (by omega), List.take_succ_eq_append_getElem (by omega : m < c.ring.length), List.filter_append]
      congr 1
      obtain ⟨h1, h2⟩ := h m (by omega)
      unfold rg1
      by_cases e : c.ring[m] = -1
      · simp [e]
      · have h0 : 0 ≤ c.ring[m] := by omega
        rw [if_neg e, hw, if_pos (h2 h0)]
        simp [h0]
  have := this c.ring.length (Nat.le_refl _)
  rwa [List.take_length] at this
theorem rg_back {c : Cw} (hw : (c.ring.length : Int) = c.window) (h : ∀ z ∈ rgL c.ring.length c.ring, 0 ≤ z) : jR c := by
  intro i hi
  have hz : ∀ z ∈ rg1 c.ring.length c.ring[i] i, 0 ≤ z := fun z hz => h z (rgL_mem.2 ⟨i, hi, hz⟩)
  unfold rg1 at hz
  by_cases e : c.ring[i] = -1
  · exact ⟨by omega, fun h0 => by omega⟩
  · rw [if_neg e] at hz
    by_cases e2 : c.ring[i].tmod (c.ring.length : Int) = (i : Int)
    · rw [if_pos e2] at hz
      have := hz _ (List.mem_singleton.2 rfl)
      exact ⟨by omega, fun _ => by rw [← hw]; exact e2⟩
    · rw [if_neg e2] at hz
      have := hz _ (List.mem_singleton.2 rfl)
      omega
theorem under_perm {c : Cw} (hw : (c.ring.length : Int) = c.window) (h : jR c) : (underL c).Perm (placesL c) := by
  unfold underL placesL
  rw [rg_yes hw h]
  rw [List.perm_iff_count]
  intro a
  have : rd1 c = if c.reader = 1 then [c.next - 1] else [] := rfl
  rw [this]
  simp only [List.count_append]
  omega
theorem jA_mem {c : Cw} {l : List Int} : jA c l ↔ ∀ z ∈ l, c.due ≤ z ∧ z ≤ c.next - 1 := by
  unfold jA
  constructor
  · intro h z hz
    obtain ⟨i, hi, rfl⟩ := List.mem_iff_getElem.1 hz
    exact h i hi
  · intro h i hi
    exact h _ (List.getElem_mem hi)
theorem jD_nodup {l : List Int} : jD l ↔ l.Nodup := by
  unfold jD List.Nodup
  rw [List.pairwise_iff_getElem]
  constructor
  · intro h i j hi hj hlt e
    exact h j i hj hlt e.symm
  · intro h i j hi hj e
    exact h j i (by omega) hi hj e.symm
/-- The jobs, as the program looks. -/
def jobsP (c : Cw) : Prop := jA c (underL c) ∧ jD (underL c) ∧ (0 < shZ c 3 ∨ ((underL c).length : Int) = c.next - c.due)
def givP (c : Cw) : Prop := (∀ i, (h : i < (c.got ++ c.out).length) → (c.got ++ c.out)[i] = i) ∧ c.room + (c.next - c.due + backZ c) = c.ring.length
def clsB (c : Cw) : Bool := (decide (0 < shZ c 0) == decide (c.reader = 3)) && (decide (0 < shZ c 1) == decide (c.closer = 1)) && (decide (0 < shZ c 2) == decide (c.keeper = 5))
def endB (c : Cw) : Bool := !(decide (c.closer = 1) && !allE c.hands) && (if 0 < shZ c 3 then decide (c.user = 1) else
  (decide (c.reader < 2) || decide (c.next = c.jobs)) && (!anyE c.hands || decide (c.reader = 3) && decide (c.queue.length = 0)) &&
  (decide (c.keeper < 4) || decide (c.closer = 1) && decide (c.results.length = 0)) && (!decide (c.user = 1) || decide (c.keeper = 5) && decide (c.out.length = 0)))
def sumP (gs : List Int) : Int := (gs.map (fun z => if z = -1 then (0 : Int) else 4)).sum
/-- What is left, as the program counts. -/
def leftP (c : Cw) : Int := 11 * (c.jobs - c.next) + 9 * c.queue.length + 6 * c.results.length + c.out.length + sumH c.hands + sumP c.ring + (if c.closer = 0 then 1 else 0) + (if c.user = 0 then 1 else 0) + rdL c.reader + kpL c.keeper
theorem sumP_bound : ∀ (gs : List Int), 0 ≤ sumP gs ∧ sumP gs ≤ 4 * gs.length
  | [] => by simp [sumP]
  | h :: r => by
      have := sumP_bound r
      simp only [sumP, List.map_cons, List.sum_cons, List.length_cons] at *
      split <;> omega
theorem sumP_take (gs : List Int) (k : Nat) (hk : k < gs.length) : sumP (gs.take (k + 1)) = sumP (gs.take k) + (if gs[k] = -1 then 0 else 4) := by
  rw [List.take_succ_eq_append_getElem hk]
  unfold sumP
  rw [List.map_append, List.sum_append]
  simp only [List.map_cons, List.map_nil, List.sum_cons, List.sum_nil, Int.add_zero]
def okP (c : Cw) : Prop := jobsP c ∧ givP c ∧ clsB c = true ∧ endB c = true ∧ eK c = true ∧ c.ops + leftP c ≤ 11 * c.jobs + c.hands.length + 7
def bndP (c : Cw) : Prop := Form c ∧ ((c.got.length : Int) + (c.out.length : Int) = c.due)
theorem sumP_eq {c : Cw} (h : jR c) : sumP c.ring = sumG c.ring := by
  unfold sumP sumG
  congr 1
  refine List.map_congr_left fun z hz => ?_
  obtain ⟨i, hi, rfl⟩ := List.mem_iff_getElem.1 hz
  have := (h i hi).1
  by_cases e : c.ring[i] = -1
  · rw [if_pos e, if_neg (by omega)]
  · rw [if_neg e, if_pos (by omega)]
theorem left_eq {c : Cw} (hF : Form c) (h : jR c) : leftP c = leftZ c := by
  unfold leftP leftZ
  rw [sumP_eq h]
  have h1 := hF.closer; have h2 := hF.user
  have a1 : (if c.closer = 0 then (1 : Int) else 0) = 1 - c.closer := by split <;> omega
  have a2 : (if c.user = 0 then (1 : Int) else 0) = 1 - c.user := by split <;> omega
  rw [a1, a2]
  omega
theorem jobsP_ring {c : Cw} (hF : Form c) (h : jobsP c) : jR c := by
  refine rg_back hF.ring fun z hz => ?_
  have := jA_mem.1 h.1 z (by unfold underL; exact List.mem_append_right _ hz)
  have := hF.due
  omega
theorem shut_at {c : Cw} (hF : Form c) (i : Nat) (hi : i < 4) : 0 ≤ shZ c i ∧ shZ c i ≤ 1 := by
  have hl := hF.shut
  unfold shZ
  rw [List.getD_eq_getElem?_getD, List.getElem?_eq_getElem (by omega)]
  exact hF.shuts _ (List.getElem_mem _)
theorem jobs_iff {c : Cw} (hF : Form c) : jobsP c ↔ jA c (placesL c) ∧ jD (placesL c) ∧ jN c (placesL c) ∧ jR c := by
  have hs := shut_at hF 3 (by omega)
  have hN : ∀ l : List Int, (0 < shZ c 3 ∨ (l.length : Int) = c.next - c.due) ↔ jN c l := fun l => by
    unfold jN
    have : c.shut.getD 3 0 = shZ c 3 := rfl
    rw [this]
    constructor
    · rintro (h | h) h0
      · omega
      · exact h
    · intro h
      by_cases e : shZ c 3 = 0
      · exact Or.inr (h e)
      · exact Or.inl (by omega)
  constructor
  · intro h
    have hr := jobsP_ring hF h
    have hp := under_perm hF.ring hr
    obtain ⟨h1, h2, h3⟩ := h
    refine ⟨jA_mem.2 fun z hz => jA_mem.1 h1 z (hp.mem_iff.2 hz), jD_nodup.2 (hp.nodup_iff.1 (jD_nodup.1 h2)), ?_, hr⟩
    rw [hN, jN, hp.length_eq] at h3
    exact h3
  · rintro ⟨h1, h2, h3, hr⟩
    have hp := under_perm hF.ring hr
    refine ⟨jA_mem.2 fun z hz => jA_mem.1 h1 z (hp.mem_iff.1 hz), jD_nodup.2 (hp.nodup_iff.2 (jD_nodup.1 h2)), ?_⟩
    rw [hN, jN, hp.length_eq]
    exact h3
theorem giv_iff {c : Cw} (hF : Form c) (hd : (c.got.length : Int) + (c.out.length : Int) = c.due) : givP c ↔ jG c ∧ jT c := by
  have ho := hF.out
  have hw := hF.ring
  unfold givP jG jT
  constructor
  · rintro ⟨h1, h2⟩
    refine ⟨fun i hi => ?_, by omega, ?_, by omega⟩
    · have := h1 i (by rw [List.length_append]; omega)
      rw [List.getElem_append_left hi] at this
      exact this
    · rcases Nat.eq_zero_or_pos c.out.length with h | h
      · exact Or.inl h
      · right
        have := h1 c.got.length (by rw [List.length_append]; omega)
        rw [List.getElem_append_right (Nat.le_refl _)] at this
        simp only [Nat.sub_self] at this
        rw [List.getD_eq_getElem?_getD, List.getElem?_eq_getElem h]
        exact this
  · rintro ⟨h1, h2, h3, h4⟩
    refine ⟨fun i hi => ?_, by omega⟩
    rw [List.length_append] at hi
    by_cases e : i < c.got.length
    · rw [List.getElem_append_left e]
      exact h1 i e
    · obtain rfl : i = c.got.length := by omega
      rw [List.getElem_append_right (Nat.le_refl _)]
      simp only [Nat.sub_self]
      rcases h3 with h3 | h3
      · omega
      · rw [List.getD_eq_getElem?_getD, List.getElem?_eq_getElem (by omega)] at h3
        exact h3
theorem cls_eq {c : Cw} (hF : Form c) : clsB c = (!e1 c && !e2 c && !e3 c) := by
  have h0 := shut_at hF 0 (by omega); have h1 := shut_at hF 1 (by omega); have h2 := shut_at hF 2 (by omega)
  have a0 : decide (0 < shZ c 0) = decide (shZ c 0 = 1) := decide_eq_decide.2 (by omega)
  have a1 : decide (0 < shZ c 1) = decide (shZ c 1 = 1) := decide_eq_decide.2 (by omega)
  have a2 : decide (0 < shZ c 2) = decide (shZ c 2 = 1) := decide_eq_decide.2 (by omega)
  unfold clsB e1 e2 e3
  rw [a0, a1, a2]
  simp only [bne, Bool.not_not]
theorem end_eq {c : Cw} (hF : Form c) : endB c = (!e4 c && !e5 c && !e6 c && !e7 c && !e8 c && !e9 c) := by
  have h3 := shut_at hF 3 (by omega)
  have hk := hF.keeper
  unfold endB e4 e5 e6 e7 e8 e9 stpB dnB
  have q1 : decide (c.reader < 2) = !decide (2 ≤ c.reader) := by by_cases e : c.reader < 2 <;> simp [e] <;> omega
  have q2 : decide (c.keeper < 4) = !decide (c.keeper = 4 ∨ c.keeper = 5) := by by_cases e : c.keeper < 4 <;> simp [e] <;> omega
  have z1 : decide (c.queue.length = 0) = !decide (0 < c.queue.length) := by by_cases e : c.queue.length = 0 <;> simp [e] <;> omega
  have z2 : decide (c.results.length = 0) = !decide (0 < c.results.length) := by by_cases e : c.results.length = 0 <;> simp [e] <;> omega
  have z3 : decide (c.out.length = 0) = !decide (0 < c.out.length) := by by_cases e : c.out.length = 0 <;> simp [e] <;> omega
  rw [q1, q2, z1, z2, z3]
  by_cases e : shZ c 3 = 1
  · rw [if_pos (by omega), decide_eq_true e]
    generalize decide (c.closer = 1) = b1; generalize allE c.hands = b2; generalize decide (c.user = 1) = b3
    cases b1 <;> cases b2 <;> cases b3 <;> rfl
  · rw [if_neg (by omega), decide_eq_false e]
    generalize decide (c.closer = 1) = b1; generalize allE c.hands = b2; generalize decide (c.user = 1) = b3; generalize decide (2 ≤ c.reader) = b4; generalize decide (c.next = c.jobs) = b5; generalize anyE c.hands = b6; generalize decide (c.reader = 3) = b7; generalize decide (0 < c.queue.length) = b8; generalize decide (c.keeper = 4 ∨ c.keeper = 5) = b9; generalize decide (0 < c.results.length) = b10; generalize decide (c.keeper = 5) = b11; generalize decide (0 < c.out.length) = b12
    revert b1 b2 b3 b4 b5 b6 b7 b8 b9 b10 b11 b12
    decide
/-- When a world is ok. -/
def okS (c : Cw) : Prop := formS c ∧ jobsS c ∧ endsB c = true ∧ c.ops + leftZ c ≤ 11 * c.jobs + c.workers + 7
theorem ok_iff (c : Cw) : okS c ↔ bndP c ∧ okP c := by
  constructor
  · rintro ⟨hf, ⟨j1, j2, j3, j4, j5, j6⟩, he, hl⟩
    have hF := ((formS_iff c).1 hf).1
    have hd : (c.got.length : Int) + (c.out.length : Int) = c.due := by have := j6.1; omega
    have hh := hF.hands
    refine ⟨⟨hF, hd⟩, (jobs_iff hF).2 ⟨j1, j2, j3, j4⟩, (giv_iff hF hd).2 ⟨j5, j6⟩, ?_, ?_, ?_, ?_⟩
    · rw [cls_eq hF]; unfold endsB at he; simp only [Bool.and_eq_true] at he ⊢; exact ⟨⟨he.1.1.1.1.1.1.1.1.1, he.1.1.1.1.1.1.1.1.2⟩, he.1.1.1.1.1.1.1.2⟩
    · rw [end_eq hF]; unfold endsB at he; simp only [Bool.and_eq_true] at he ⊢; exact ⟨⟨⟨⟨⟨he.1.1.1.1.1.1.2, he.1.1.1.1.1.2⟩, he.1.1.1.1.2⟩, he.1.1.1.2⟩, he.1.1.2⟩, he.1.2⟩
    · unfold endsB at he; simp only [Bool.and_eq_true] at he; exact he.2
    · rw [left_eq hF j4]; omega
  · rintro ⟨⟨hF, hd⟩, hj, hg, hc, he, hk, hl⟩
    obtain ⟨j1, j2, j3, j4⟩ := (jobs_iff hF).1 hj
    obtain ⟨j5, j6⟩ := (giv_iff hF hd).1 hg
    have hh := hF.hands
    refine ⟨(formS_iff c).2 ⟨hF, ?_⟩, ⟨j1, j2, j3, j4, j5, j6⟩, ?_, ?_⟩
    · have := hF.due; have := hF.next; omega
    · rw [cls_eq hF] at hc; rw [end_eq hF] at he
      unfold endsB; simp only [Bool.and_eq_true] at hc he ⊢
      exact ⟨⟨⟨⟨⟨⟨⟨⟨⟨hc.1.1, hc.1.2⟩, hc.2⟩, he.1.1.1.1.1⟩, he.1.1.1.1.2⟩, he.1.1.1.2⟩, he.1.1.2⟩, he.1.2⟩, he.2⟩, hk⟩
    · rw [left_eq hF j4] at hl; omega
end Go.Proofs.Ytchbialjgcejgaa

/- The walks of the program's small functions on crews: hasJob, leftOf.., isShut, isEmpty, isStopped, allHold, workersEnded, aWorkerEnded, dueInRing, keeperOk. No conditions but that the crew is there. -/

namespace Go.Proofs.Ytchbialjgcejgaa
open Go Go.RowKit

theorem isIn_same (a b c : Int) (w : World) : Calls Try.prog 90 #[.int .i64 a, .int .i64 b, .int .i64 c] w fun e w' => e = .returned (.bool (decide (b ≤ a ∧ a ≤ c))) ∧ w' = w := by
  by_cases h : b ≤ a ∧ a ≤ c
  · rw [decide_eq_true h]
    obtain ⟨h1, h2⟩ := h
    go_enter Try.func90, Try.ntmps90
    go_wp2_with fail
    go_ret
    exact ⟨rfl, rfl⟩
  · rw [decide_eq_false h]
    by_cases h1 : b ≤ a
    · have h2 : ¬ a ≤ c := fun h2 => h ⟨h1, h2⟩
      clear h
      go_enter Try.func90, Try.ntmps90
      go_wp2_with fail
      go_ret
      exact ⟨rfl, rfl⟩
    · clear h
      go_enter Try.func90, Try.ntmps90
      go_wp2_with fail
      go_ret
      exact ⟨rfl, rfl⟩
set_option maxHeartbeats 800000 in
theorem hasJob_any (s j : Int) (w : World) : Calls Try.prog 103 #[.agg #[.int .i64 s, .int .i64 j]] w fun e w' => e = .returned (.bool (busyH ⟨s, j⟩)) ∧ Below w.heap.size w w' := by
  have HBX := hide (fun o => (show Below w.heap.size w (w.alloc o) from (Below.refl _ _).alloc (Nat.le_refl _) o))
  by_cases h1 : s = 1
  · have q : (s == 1) = true := by simp [h1]
    have HV := hide (show busyH ⟨s, j⟩ = true from by simp [busyH, h1])
    clear h1
    go_enter Try.func103, Try.ntmps103
    go_wp2_with fail
    go_ret
    exact ⟨by rw [unhide HV]; rfl, unhide HBX _⟩
  · have q : (s == 1) = false := by simp [h1]
    have HV := hide (show busyH ⟨s, j⟩ = (s == 2) from by simp [busyH, h1])
    clear h1
    go_enter Try.func103, Try.ntmps103
    go_wp2_with fail
    go_ret
    exact ⟨by rw [unhide HV]; rfl, unhide HBX _⟩
set_option maxHeartbeats 800000 in
theorem lefW_any (s : Int) (w : World) : Calls Try.prog 79 #[.int .i64 s] w fun e w' => e = .returned (.int .i64 (wkL s)) ∧ w' = w := by
  by_cases h0 : s = 0
  · subst h0
    go_enter Try.func79, Try.ntmps79
    go_wp2_with fail
    go_ret
    exact ⟨rfl, rfl⟩
  by_cases h1 : s = 1
  · subst h1
    go_enter Try.func79, Try.ntmps79
    go_wp2_with fail
    go_ret
    exact ⟨rfl, rfl⟩
  by_cases h2 : s = 2
  · subst h2
    go_enter Try.func79, Try.ntmps79
    go_wp2_with fail
    go_ret
    exact ⟨rfl, rfl⟩
  have q0 : (s == 0) = false := by simp [h0]
  have q1 : (s == 1) = false := by simp [h1]
  have q2 : (s == 2) = false := by simp [h2]
  have HV := hide (show wkL s = 0 from by simp [wkL, h0, h1, h2])
  clear h0 h1 h2
  go_enter Try.func79, Try.ntmps79
  go_wp2_with fail
  go_ret
  exact ⟨by rw [unhide HV]; rfl, rfl⟩
set_option maxHeartbeats 800000 in
theorem lefR_any (s : Int) (w : World) : Calls Try.prog 80 #[.int .i64 s] w fun e w' => e = .returned (.int .i64 (rdL s)) ∧ w' = w := by
  by_cases h0 : s = 0
  · subst h0
    go_enter Try.func80, Try.ntmps80
    go_wp2_with fail
    go_ret
    exact ⟨rfl, rfl⟩
  by_cases h1 : s = 1
  · subst h1
    go_enter Try.func80, Try.ntmps80
    go_wp2_with fail
    go_ret
    exact ⟨rfl, rfl⟩
  by_cases h2 : s = 2
  · subst h2
    go_enter Try.func80, Try.ntmps80
    go_wp2_with fail
    go_ret
    exact ⟨rfl, rfl⟩
  have q0 : (s == 0) = false := by simp [h0]
  have q1 : (s == 1) = false := by simp [h1]
  have q2 : (s == 2) = false := by simp [h2]
  have HV := hide (show rdL s = 0 from by simp [rdL, h0, h1, h2])
  clear h0 h1 h2
  go_enter Try.func80, Try.ntmps80
  go_wp2_with fail
  go_ret
  exact ⟨by rw [unhide HV]; rfl, rfl⟩
set_option maxHeartbeats 800000 in
theorem lefK_any (s : Int) (w : World) : Calls Try.prog 81 #[.int .i64 s] w fun e w' => e = .returned (.int .i64 (kpL s)) ∧ w' = w := by
  by_cases h0 : s = 0
  · subst h0
    go_enter Try.func81, Try.ntmps81
    go_wp2_with fail
    go_ret
    exact ⟨rfl, rfl⟩
  by_cases h2 : s = 2
  · subst h2
    go_enter Try.func81, Try.ntmps81
    go_wp2_with fail
    go_ret
    exact ⟨rfl, rfl⟩
  by_cases h1 : s = 1
  · subst h1
    go_enter Try.func81, Try.ntmps81
    go_wp2_with fail
    go_ret
    exact ⟨rfl, rfl⟩
  by_cases h3 : s = 3
  · subst h3
    go_enter Try.func81, Try.ntmps81
    go_wp2_with fail
    go_ret
    exact ⟨rfl, rfl⟩
  by_cases h4 : s = 4
  · subst h4
    go_enter Try.func81, Try.ntmps81
    go_wp2_with fail
    go_ret
    exact ⟨rfl, rfl⟩
  have q0 : (s == 0) = false := by simp [h0]
  have q2 : (s == 2) = false := by simp [h2]
  have q1 : (s == 1) = false := by simp [h1]
  have q3 : (s == 3) = false := by simp [h3]
  have q4 : (s == 4) = false := by simp [h4]
  have HV := hide (show kpL s = 0 from by simp [kpL, h0, h2, h1, h3, h4])
  clear h0 h2 h1 h3 h4
  go_enter Try.func81, Try.ntmps81
  go_wp2_with fail
  go_ret
  exact ⟨by rw [unhide HV]; rfl, rfl⟩
theorem shutI_any (b : Nat) (z : Int) (w : World) (h : w.cell? ⟨b, 3, none⟩ = some (.int .i64 z)) : Calls Try.prog 106 #[.pointer (some ⟨b, 0, none⟩)] w fun e w' => e = .returned (.bool (decide (0 < z))) ∧ w' = w := by
  go_enter Try.func106, Try.ntmps106
  go_wp2_with fail
  go_ret
  exact ⟨rfl, rfl⟩
theorem shutP_any (b : Nat) (z : Int) (w : World) (h : w.cell? ⟨b, 3, none⟩ = some (.int .i64 z)) : Calls Try.prog 110 #[.pointer (some ⟨b, 0, none⟩)] w fun e w' => e = .returned (.bool (decide (0 < z))) ∧ w' = w := by
  go_enter Try.func110, Try.ntmps110
  go_wp2_with fail
  go_ret
  exact ⟨rfl, rfl⟩
theorem emptyI_any (b : Nat) (n : Nat) (w : World) (h : w.cell? ⟨b, 2, none⟩ = some (.int .i64 n)) : Calls Try.prog 108 #[.pointer (some ⟨b, 0, none⟩)] w fun e w' => e = .returned (.bool (decide (n = 0))) ∧ w' = w := by
  by_cases h0 : n = 0
  · subst h0
    go_enter Try.func108, Try.ntmps108
    go_wp2_with fail
    go_ret
    exact ⟨rfl, rfl⟩
  · have HV := hide (show ((n : Int) == 0) = false from by simp [h0])
    have HV2 := hide (show decide (n = 0) = false from by simp [h0])
    clear h0
    go_enter Try.func108, Try.ntmps108
    go_wp2_with fail
    go_ret
    exact ⟨by rw [unhide HV2, unhide HV]; rfl, rfl⟩
theorem CrAt.q2 {W : World} {C : Nat} {c : Cw} {B : CrB} (h : CrAt W C c B) : W.cell? ⟨B.Q, 2, none⟩ = some (.int .i64 c.queue.length) := by
  obtain ⟨_, _, _, hm, _, _⟩ := h.q.ex
  exact hm.cell (i := 2) (by omega)
theorem CrAt.r2 {W : World} {C : Nat} {c : Cw} {B : CrB} (h : CrAt W C c B) : W.cell? ⟨B.R, 2, none⟩ = some (.int .i64 c.results.length) := by
  obtain ⟨_, _, _, hm, _, _⟩ := h.r.ex
  exact hm.cell (i := 2) (by omega)
theorem CrAt.o2 {W : World} {C : Nat} {c : Cw} {B : CrB} (h : CrAt W C c B) : W.cell? ⟨B.O, 2, none⟩ = some (.int .i64 c.out.length) := by
  obtain ⟨_, _, _, hm, _, _⟩ := h.o.ex
  exact hm.cell (i := 2) (by omega)
theorem stopped_any (C : Nat) (c : Cw) (B : CrB) (w : World) (h : CrAt w C c B) : Calls Try.prog 105 #[.pointer (some ⟨C, 0, none⟩)] w fun e w' => e = .returned (.bool (decide (0 < shZ c 3))) ∧ w' = w := by
  have c14 := h.c14
  have HSH := hide (shutP_any B.T (c.shut.getD 3 0) w h.t3)
  clear h
  go_enter Try.func105, Try.ntmps105
  go_wp2_with (go_at_call 110; refine (unhide HSH).mono ?_; rintro e w2 ⟨rfl, h2⟩; have h3 := h2.symm; subst h3; clear h2)
  go_ret
  exact ⟨rfl, rfl⟩
theorem hflat_at : ∀ (hs : List Hd) (i : Nat) (hi : i < hs.length), r18 (hs.map Hd.cs).flatten (i * 2) = .int .i64 hs[i].state ∧ r18 (hs.map Hd.cs).flatten (i * 2 + 1) = .int .i64 hs[i].job
  | [], i, hi => by cases hi
  | h :: r, 0, hi => ⟨rfl, rfl⟩
  | h :: r, i + 1, hi => by
      have := hflat_at r i (by simpa using hi)
      rw [show (i + 1) * 2 = i * 2 + 2 by omega]
      exact this
theorem hands_at {W : World} {b : Nat} {hs : List Hd} (h : W.rowIs b 60 (hs.length * 2) (r18 (hs.map Hd.cs).flatten)) (i : Nat) (hi : i < hs.length) : W.cell? ⟨b, i * 2, none⟩ = some (.int .i64 hs[i].state) ∧ W.cell? ⟨b, i * 2 + 1, none⟩ = some (.int .i64 hs[i].job) := by
  obtain ⟨h1, h2⟩ := hflat_at hs i hi
  have a1 := h.cell (i := i * 2) (by omega); have a2 := h.cell (i := i * 2 + 1) (by omega)
  rw [h1] at a1; rw [h2] at a2
  exact ⟨a1, a2⟩
theorem endC_any (s j : Int) (w : World) : Calls Try.prog 78 #[.agg #[.int .i64 s, .int .i64 j]] w fun e w' => e = .returned (.bool (s == 3)) ∧ Below w.heap.size w w' := by
  have HBX := hide (fun o => (show Below w.heap.size w (w.alloc o) from (Below.refl _ _).alloc (Nat.le_refl _) o))
  go_enter Try.func78, Try.ntmps78
  go_wp2_with fail
  go_ret
  exact ⟨rfl, unhide HBX _⟩
set_option maxRecDepth 100000 in
set_option maxHeartbeats 1600000 in
theorem allendC_any (b cap : Nat) (hs : List Hd) (w : World) (h : w.rowIs b 60 (hs.length * 2) (r18 (hs.map Hd.cs).flatten)) (hl : hs.length ≤ 1000) : Calls Try.prog 77 #[.slice (some ⟨b, 0, none⟩) hs.length cap, .func (.func 78) #[] #[]] w fun e w' => e = .returned (.bool (hs.all (fun h => h.state == 3))) ∧ Below w.heap.size w w' := by
  have HR := hide h
  clear h
  go_enter Try.func77, Try.ntmps77
  go_wp2_with fail
  go_loopw [9] (fun i wr => ∃ (k : Nat), k ≤ hs.length ∧ i = .int .i64 k ∧ Hid (Below w.heap.size w wr) ∧ Hid (∀ j, (hj : j < hs.length) → j < k → (hs[j].state == 3) = true)) (fun i _ => hs.length - (intOf i).toNat)
  case atStart => exact ⟨0, Nat.zero_le _, rfl, hide (Below.refl _ _), hide (fun j _ hj => absurd hj (by omega))⟩
  case round =>
    obtain ⟨k, hk, rfl, HB, HA⟩ := hrel
    by_cases hlt : k < hs.length
    · obtain ⟨e0, e1⟩ := hands_at ((unhide HR).of_block (HB.out.block b (unhide HR).lt)) k hlt
      have HBA := hide (fun o' => HB.out.alloc HB.out.size o')
      have HNA := hide (fun W => endC_any hs[k].state hs[k].job W)
      cases h3 : (hs[k].state == 3) with
      | true =>
        have HN := hide (show ∀ j, (hj : j < hs.length) → j < k + 1 → (hs[j].state == 3) = true from fun j hj hjk => by
          by_cases e : j = k
          · subst e; exact h3
          · exact HA.out j hj (by omega))
        rw [h3] at HNA
        clear h3
        generalize hs[k].state = zs at *
        generalize hs[k].job = zj at *
        go_wp2_with (go_at_call 78; refine (unhide HNA _).mono ?_; rintro e w5 ⟨rfl, hb5⟩; have HB5 := hide ((unhide HBA _).trans (hb5.mono (unhide HBA _).size)); clear hb5)
        go_roundw
        case rel => exact ⟨k + 1, by omega, by go_num, HB5, HN⟩
        case measure => simp [intOf]; omega
      | false =>
        have HV := hide (show hs.all (fun h => h.state == 3) = false from by
          rw [List.all_eq_false]; exact ⟨_, List.getElem_mem hlt, by rw [h3]; simp⟩)
        rw [h3] at HNA
        clear h3
        generalize hs[k].state = zs at *
        generalize hs[k].job = zj at *
        go_wp2_with (go_at_call 78; refine (unhide HNA _).mono ?_; rintro e w5 ⟨rfl, hb5⟩; have HB5 := hide ((unhide HBA _).trans (hb5.mono (unhide HBA _).size)); clear hb5)
        go_ret
        exact ⟨by rw [unhide HV]; rfl, unhide HB5⟩
    · have HV := hide (show hs.all (fun h => h.state == 3) = true from by
        rw [List.all_eq_true]
        intro x hx
        obtain ⟨j, hj, rfl⟩ := List.getElem_of_mem hx
        exact HA.out j hj (by omega))
      obtain rfl : k = hs.length := by omega
      go_wp2_with fail
      go_ret
      exact ⟨by rw [unhide HV]; rfl, HB.out⟩
theorem notC_any (s j : Int) (w : World) : Calls Try.prog 111 #[.agg #[.int .i64 s, .int .i64 j]] w fun e w' => e = .returned (.bool (s != 3)) ∧ Below w.heap.size w w' := by
  have HBX := hide (fun o => (show Below w.heap.size w (w.alloc o) from (Below.refl _ _).alloc (Nat.le_refl _) o))
  go_enter Try.func111, Try.ntmps111
  go_wp2_with fail
  go_ret
  exact ⟨rfl, unhide HBX _⟩
set_option maxRecDepth 100000 in
set_option maxHeartbeats 1600000 in
theorem allnotC_any (b cap : Nat) (hs : List Hd) (w : World) (h : w.rowIs b 60 (hs.length * 2) (r18 (hs.map Hd.cs).flatten)) (hl : hs.length ≤ 1000) : Calls Try.prog 77 #[.slice (some ⟨b, 0, none⟩) hs.length cap, .func (.func 111) #[] #[]] w fun e w' => e = .returned (.bool (hs.all (fun h => h.state != 3))) ∧ Below w.heap.size w w' := by
  have HR := hide h
  clear h
  go_enter Try.func77, Try.ntmps77
  go_wp2_with fail
  go_loopw [9] (fun i wr => ∃ (k : Nat), k ≤ hs.length ∧ i = .int .i64 k ∧ Hid (Below w.heap.size w wr) ∧ Hid (∀ j, (hj : j < hs.length) → j < k → (hs[j].state != 3) = true)) (fun i _ => hs.length - (intOf i).toNat)
  case atStart => exact ⟨0, Nat.zero_le _, rfl, hide (Below.refl _ _), hide (fun j _ hj => absurd hj (by omega))⟩
  case round =>
    obtain ⟨k, hk, rfl, HB, HA⟩ := hrel
    by_cases hlt : k < hs.length
    · obtain ⟨e0, e1⟩ := hands_at ((unhide HR).of_block (HB.out.block b (unhide HR).lt)) k hlt
      have HBA := hide (fun o' => HB.out.alloc HB.out.size o')
      have HNA := hide (fun W => notC_any hs[k].state hs[k].job W)
      cases h3 : (hs[k].state != 3) with
      | true =>
        have HN := hide (show ∀ j, (hj : j < hs.length) → j < k + 1 → (hs[j].state != 3) = true from fun j hj hjk => by
          by_cases e : j = k
          · subst e; exact h3
          · exact HA.out j hj (by omega))
        rw [h3] at HNA
        clear h3
        generalize hs[k].state = zs at *
        generalize hs[k].job = zj at *
        go_wp2_with (go_at_call 111; refine (unhide HNA _).mono ?_; rintro e w5 ⟨rfl, hb5⟩; have HB5 := hide ((unhide HBA _).trans (hb5.mono (unhide HBA _).size)); clear hb5)
        go_roundw
        case rel => exact ⟨k + 1, by omega, by go_num, HB5, HN⟩
        case measure => simp [intOf]; omega
      | false =>
        have HV := hide (show hs.all (fun h => h.state != 3) = false from by
          rw [List.all_eq_false]; exact ⟨_, List.getElem_mem hlt, by rw [h3]; simp⟩)
        rw [h3] at HNA
        clear h3
        generalize hs[k].state = zs at *
        generalize hs[k].job = zj at *
        go_wp2_with (go_at_call 111; refine (unhide HNA _).mono ?_; rintro e w5 ⟨rfl, hb5⟩; have HB5 := hide ((unhide HBA _).trans (hb5.mono (unhide HBA _).size)); clear hb5)
        go_ret
        exact ⟨by rw [unhide HV]; rfl, unhide HB5⟩
    · have HV := hide (show hs.all (fun h => h.state != 3) = true from by
        rw [List.all_eq_true]
        intro x hx
        obtain ⟨j, hj, rfl⟩ := List.getElem_of_mem hx
        exact HA.out j hj (by omega))
      obtain rfl : k = hs.length := by omega
      go_wp2_with fail
      go_ret
      exact ⟨by rw [unhide HV]; rfl, HB.out⟩
theorem any_not (hs : List Hd) : (!hs.all (fun h => h.state != 3)) = anyE hs := by
  unfold anyE
  induction hs with
  | nil => rfl
  | cons h r ih => 
    rw [List.all_cons, List.any_cons, ← ih]
    show (!((!(h.state == 3)) && r.all (fun h => h.state != 3))) = ((h.state == 3) || !r.all (fun h => h.state != 3))
    rw [Bool.not_and, Bool.not_not]
theorem wEnded_any (C : Nat) (c : Cw) (B : CrB) (w : World) (h : CrAt w C c B) : Calls Try.prog 40 #[.pointer (some ⟨C, 0, none⟩)] w fun e w' => e = .returned (.bool (allE c.hands)) ∧ Below w.heap.size w w' := by
  have c4 := h.c4
  have HSH := hide (allendC_any B.H c.hands.length c.hands w h.hands (by have := h.szH; omega))
  clear h
  go_enter Try.func40, Try.ntmps40
  go_wp2_with (go_at_call 77; refine (unhide HSH).mono ?_; rintro e w2 ⟨rfl, h2⟩; have HB := hide h2; clear h2)
  go_ret
  exact ⟨rfl, unhide HB⟩
theorem aEnded_any (C : Nat) (c : Cw) (B : CrB) (w : World) (h : CrAt w C c B) : Calls Try.prog 107 #[.pointer (some ⟨C, 0, none⟩)] w fun e w' => e = .returned (.bool (anyE c.hands)) ∧ Below w.heap.size w w' := by
  have c4 := h.c4
  have HSH := hide (allnotC_any B.H c.hands.length c.hands w h.hands (by have := h.szH; omega))
  rw [← any_not]
  clear h
  generalize (c.hands.all fun h => h.state != 3) = bb at *
  go_enter Try.func107, Try.ntmps107
  go_wp2_with (go_at_call 77; refine (unhide HSH).mono ?_; rintro e w2 ⟨rfl, h2⟩; have HB := hide h2; clear h2)
  go_ret
  exact ⟨rfl, unhide HB⟩
/-- A place of the ring. -/
theorem CrAt.g_at {W : World} {C : Nat} {c : Cw} {B : CrB} (h : CrAt W C c B) (i : Nat) (hi : i < c.ring.length) : W.cell? ⟨B.G, i, none⟩ = some (.int .i64 c.ring[i]) := by
  rw [World.ownsRow.cellAt h.ring i (by omega), zflat_map, List.getElem?_map, List.getElem?_eq_getElem hi]
  rfl
end Go.Proofs.Ytchbialjgcejgaa

/- A crew that is still as it was, while other memory grows. No program. No conditions. -/

namespace Go.Proofs.Ytchbialjgcejgaa
open Go Go.RowKit

theorem CrAt.dn {W : World} {C : Nat} {c : Cw} {B : CrB} (h : CrAt W C c B) (m : Nat) : CrAt (W.drewN m) C c B := h.below (below_drewN W m)
/-- A crew that is still as it was, behind w. -/
structure Kc (w W : World) (C : Nat) (c : Cw) (B : CrB) : Prop where
  cr : CrAt W C c B
  bel : Below w.heap.size w W
theorem Kc.on {w W W' : World} {C : Nat} {c : Cw} {B : CrB} (h : Kc w W C c B) (hb : Below W.heap.size W W') : Kc w W' C c B := ⟨h.cr.below hb, h.bel.trans (hb.mono h.bel.size)⟩
theorem Kc.dn {w W : World} {C : Nat} {c : Cw} {B : CrB} (h : Kc w W C c B) (m : Nat) : Kc w (W.drewN m) C c B := h.on (below_drewN W m)
theorem Kc.start {w : World} {C : Nat} {c : Cw} {B : CrB} (h : CrAt w C c B) : Kc w w C c B := ⟨h, Below.refl _ _⟩
end Go.Proofs.Ytchbialjgcejgaa

/- copy onto a whole row of the call's own, the elements being of several cells. No program walked, no conditions. -/

namespace Go.Proofs.Ytchbialjgcejgaa
open Go Go.RowKit

theorem run_copy_whole {P : Program} (w : World) (T ty elem : TypeId) (i : TypeInfo) (g m cap : Nat) (a : Addr) (sCap : Nat) (cur : Array Value) (t : TypeId) (cs : List Value)
    (hu : P.underlying T = some (.slice elem)) (hi : P.info? elem = some i) (hg : w.heap[g]? = some (.cells cur t (0, 0))) (hn : cs.length = m * i.size) (hc : cur.size = m * i.size)
    (hsrc : ∀ j v, cs[j]? = some v → w.cell? (a.add j) = some v) (h1 : ∀ v ∈ cs, v.oneCell' = true) :
    (Builtin.copy_ #[T, T] ty #[.slice (some ⟨g, 0, none⟩) m cap, .slice (some a) m sCap]).run P w = .ok (goInt m) (w.setRow g cs.toArray) := by
  have hl := run_loadCells_list (P := P) w a cs hsrc
  have hst := run_storeCells_at P g 0 t cs 0 cur w hg (by omega) h1
  have he : (cur.toList.take (0 + 0) ++ cs ++ cur.toList.drop (0 + 0 + cs.length)) = cs := by
    rw [List.drop_eq_nil_of_le (by simp; omega)]; simp
  rw [he] at hst
  rw [hn] at hl
  simp [Builtin.copy_, run_underlying hu, Builtin.lenOf, Builtin.firstCells, sizeOf, typeInfo, hi, hl, hst]

/-- The operation, for the walk. -/
theorem wpList_copyW {P : Program} {w : World} {ops : Array Oper} {rest : List Oper} {o : Oper} {ac : Act} {Q : Exit → Act → World → Prop} (hgd : o.guard = none) (d s : Operand) (T : TypeId)
    (ho : o.op = .call { callee := .builtin .copy, args := #[d, s], argTypes := #[T, T] }) (elem : TypeId) (i : TypeInfo) (hu : P.underlying T = some (.slice elem)) (hi : P.info? elem = some i)
    (g m cap : Nat) (a : Addr) (sCap : Nat) (hd : ac.eval d = .slice (some ⟨g, 0, none⟩) m cap) (hs : ac.eval s = .slice (some a) m sCap) (cur : Array Value) (t : TypeId) (cs : List Value)
    (hg : w.heap[g]? = some (.cells cur t (0, 0))) (hn : cs.length = m * i.size) (hc : cur.size = m * i.size) (hsrc : ∀ j v, cs[j]? = some v → w.cell? (a.add j) = some v) (h1 : ∀ v ∈ cs, v.oneCell' = true)
    (h : ∀ W, Hid (W.heap[g]? = some (.cells cs.toArray t (0, 0))) → Hid (w.grownBy W (some g)) → wpList P ops Q rest (ac.put o.dst (goInt m)) W) : wpList P ops Q (o :: rest) ac w := by
  refine wpList_plain hgd fun K hK => ?_
  have hrun := run_copy_whole (P := P) w T o.type elem i g m cap a sCap cur t cs hu hi hg hn hc hsrc h1
  unfold Oper.wp
  simp [execOp, ho, resolve, invoke, builtin, hd, hs, hrun, Result.andThen]
  exact hK _ _ (h _ (setRow_heap w g cur _ t _ hg) ⟨rfl, rfl, rfl, by simp [World.setRow], fun k _ hk => setRow_other w g k _ (fun e => hk (by rw [e]))⟩)

end Go.Proofs.Ytchbialjgcejgaa
