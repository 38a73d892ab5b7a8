/- When a crew is ok, as plain data: the program's way, and that it is the specification's. No program, no conditions. -/
import Derived.Test.YtibgjcejddpldaaGreatPart09
import Derived.Test.YtibgjcejddpldaaGreatPart10
import Derived.Test.YtibgjcejddpldaaGreatRows
import Derived.OrdersHeld
import Derived.WalkKit
import Derived.Deep.MidRow
import Derived.Test.YtibgjcejddpldaaGreatPart06
namespace Go.Proofs.YtibgjcejddpldaaGreat
open Go Go.RowKit

/-- What is told of one place of the ring. -/
def rg1 (n : Nat) (z : Int) (k : Nat) : List Int := if z = -1 then [] else if z.tmod (n : Int) = (k : Int) then [z] else [-1]
def rgL (n : Nat) (l : List Int) : List Int := l.zipIdx.flatMap (fun p => rg1 n p.1 p.2)
theorem rgL_take (n : Nat) (l : List Int) (k : Nat) (hk : k < l.length) : rgL n (l.take (k + 1)) = rgL n (l.take k) ++ rg1 n l[k] k := by
  unfold rgL
  rw [List.take_succ_eq_append_getElem hk, List.zipIdx_append, List.flatMap_append]
  simp only [List.zipIdx_cons, List.zipIdx_nil, List.flatMap_cons, List.flatMap_nil, List.append_nil, List.length_take, Nat.zero_add]
  rw [Nat.min_eq_left (Nat.le_of_lt hk)]
theorem rg1_len (n : Nat) (z : Int) (k : Nat) : (rg1 n z k).length ≤ 1 := by unfold rg1; split; · simp
                                                                             split <;> simp
theorem rgL_len (n : Nat) (l : List Int) : (rgL n l).length ≤ l.length := by
  have : ∀ m, m ≤ l.length → (rgL n (l.take m)).length ≤ m := fun m => by
    induction m with
    | zero => intro _; simp [rgL]
    | succ m ih =>
      intro hm
      rw [rgL_take n l m (by omega), List.length_append]
      have := ih (by omega); have := rg1_len n (l[m]'(by omega)) m
      omega
  have := this l.length (Nat.le_refl _)
  rwa [List.take_length] at this
/-- The jobs under way, as the program gathers them. -/
def underL (c : Cw) : List Int := c.queue ++ c.results ++ rd1 c ++ ((c.hands.filter busyH).map Hd.job) ++ rgL c.ring.length c.ring
theorem rgL_mem {n : Nat} {l : List Int} {z : Int} : z ∈ rgL n l ↔ ∃ i, ∃ h : i < l.length, z ∈ rg1 n l[i] i := by
  unfold rgL
  simp only [List.mem_flatMap, Prod.exists, List.mem_zipIdx_iff_getElem?]
  constructor
  · rintro ⟨a, b, h1, h2⟩
    obtain ⟨hb, rfl⟩ := List.getElem?_eq_some_iff.1 h1
    exact ⟨b, hb, h2⟩
  · rintro ⟨i, h, h2⟩
    exact ⟨l[i], i, List.getElem?_eq_some_iff.2 ⟨h, rfl⟩, h2⟩
theorem rg_yes {c : Cw} (hw : (c.ring.length : Int) = c.window) (h : jR c) : rgL c.ring.length c.ring = c.ring.filter (fun z => decide (0 ≤ z)) := by
  have : ∀ m, m ≤ c.ring.length → rgL c.ring.length (c.ring.take m) = (c.ring.take m).filter (fun z => decide (0 ≤ z)) := fun m => by
    induction m with
    | zero => intro _; simp [rgL]
    | succ m ih =>
      intro hm
      rw [rgL_take _ _ m (by omega), ih (by omega), List.take_succ_eq_append_getElem (by omega : m < c.ring.length), List.filter_append]
      congr 1
      obtain ⟨h1, h2⟩ := h m (by omega)
      unfold rg1
      by_cases e : c.ring[m] = -1
      · simp [e]
      · have h0 : 0 ≤ c.ring[m] := by omega
        rw [if_neg e, hw, if_pos (h2 h0)]
        simp [h0]
  have := this c.ring.length (Nat.le_refl _)
  rwa [List.take_length] at this
theorem rg_back {c : Cw} (hw : (c.ring.length : Int) = c.window) (h : ∀ z ∈ rgL c.ring.length c.ring, 0 ≤ z) : jR c := by
  intro i hi
  have hz : ∀ z ∈ rg1 c.ring.length c.ring[i] i, 0 ≤ z := fun z hz => h z (rgL_mem.2 ⟨i, hi, hz⟩)
  unfold rg1 at hz
  by_cases e : c.ring[i] = -1
  · exact ⟨by omega, fun h0 => by omega⟩
  · rw [if_neg e] at hz
    by_cases e2 : c.ring[i].tmod (c.ring.length : Int) = (i : Int)
    · rw [if_pos e2] at hz
      have := hz _ (List.mem_singleton.2 rfl)
      exact ⟨by omega, fun _ => by rw [← hw]; exact e2⟩
    · rw [if_neg e2] at hz
      have := hz _ (List.mem_singleton.2 rfl)
      omega
theorem under_perm {c : Cw} (hw : (c.ring.length : Int) = c.window) (h : jR c) : (underL c).Perm (placesL c) := by
  unfold underL placesL
  rw [rg_yes hw h]
  rw [List.perm_iff_count]
  intro a
  have : rd1 c = if c.reader = 1 then [c.next - 1] else [] := rfl
  rw [this]
  simp only [List.count_append]
  omega
theorem jA_mem {c : Cw} {l : List Int} : jA c l ↔ ∀ z ∈ l, c.due ≤ z ∧ z ≤ c.next - 1 := by
  unfold jA
  constructor
  · intro h z hz
    obtain ⟨i, hi, rfl⟩ := List.mem_iff_getElem.1 hz
    exact h i hi
  · intro h i hi
    exact h _ (List.getElem_mem hi)
theorem jD_nodup {l : List Int} : jD l ↔ l.Nodup := by
  unfold jD List.Nodup
  rw [List.pairwise_iff_getElem]
  constructor
  · intro h i j hi hj hlt e
    exact h j i hj hlt e.symm
  · intro h i j hi hj e
    exact h j i (by omega) hi hj e.symm
/-- The jobs, as the program looks. -/
def jobsP (c : Cw) : Prop := jA c (underL c) ∧ jD (underL c) ∧ (0 < shZ c 3 ∨ ((underL c).length : Int) = c.next - c.due)
def givP (c : Cw) : Prop := (∀ i, (h : i < (c.got ++ c.out).length) → (c.got ++ c.out)[i] = i) ∧ c.room + (c.next - c.due + backZ c) = c.ring.length
def clsB (c : Cw) : Bool := (decide (0 < shZ c 0) == decide (c.reader = 3)) && (decide (0 < shZ c 1) == decide (c.closer = 1)) && (decide (0 < shZ c 2) == decide (c.keeper = 5))
def endB (c : Cw) : Bool := !(decide (c.closer = 1) && !allE c.hands) && (if 0 < shZ c 3 then decide (c.user = 1) else
  (decide (c.reader < 2) || decide (c.next = c.jobs)) && (!anyE c.hands || decide (c.reader = 3) && decide (c.queue.length = 0)) &&
  (decide (c.keeper < 4) || decide (c.closer = 1) && decide (c.results.length = 0)) && (!decide (c.user = 1) || decide (c.keeper = 5) && decide (c.out.length = 0)))
def sumP (gs : List Int) : Int := (gs.map (fun z => if z = -1 then (0 : Int) else 4)).sum
/-- What is left, as the program counts. -/
def leftP (c : Cw) : Int := 11 * (c.jobs - c.next) + 9 * c.queue.length + 6 * c.results.length + c.out.length + sumH c.hands + sumP c.ring + (if c.closer = 0 then 1 else 0) + (if c.user = 0 then 1 else 0) + rdL c.reader + kpL c.keeper
theorem sumP_bound : ∀ (gs : List Int), 0 ≤ sumP gs ∧ sumP gs ≤ 4 * gs.length
  | [] => by simp [sumP]
  | h :: r => by
      have := sumP_bound r
      simp only [sumP, List.map_cons, List.sum_cons, List.length_cons] at *
      split <;> omega
theorem sumP_take (gs : List Int) (k : Nat) (hk : k < gs.length) : sumP (gs.take (k + 1)) = sumP (gs.take k) + (if gs[k] = -1 then 0 else 4) := by
  rw [List.take_succ_eq_append_getElem hk]
  unfold sumP
  rw [List.map_append, List.sum_append]
  simp only [List.map_cons, List.map_nil, List.sum_cons, List.sum_nil, Int.add_zero]
def okP (c : Cw) : Prop := jobsP c ∧ givP c ∧ clsB c = true ∧ endB c = true ∧ eK c = true ∧ c.ops + leftP c ≤ 11 * c.jobs + c.hands.length + 7
def bndP (c : Cw) : Prop := Form c ∧ ((c.got.length : Int) + (c.out.length : Int) = c.due)
theorem sumP_eq {c : Cw} (h : jR c) : sumP c.ring = sumG c.ring := by
  unfold sumP sumG
  congr 1
  refine List.map_congr_left fun z hz => ?_
  obtain ⟨i, hi, rfl⟩ := List.mem_iff_getElem.1 hz
  have := (h i hi).1
  by_cases e : c.ring[i] = -1
  · rw [if_pos e, if_neg (by omega)]
  · rw [if_neg e, if_pos (by omega)]
theorem left_eq {c : Cw} (hF : Form c) (h : jR c) : leftP c = leftZ c := by
  unfold leftP leftZ
  rw [sumP_eq h]
  have h1 := hF.closer; have h2 := hF.user
  have a1 : (if c.closer = 0 then (1 : Int) else 0) = 1 - c.closer := by split <;> omega
  have a2 : (if c.user = 0 then (1 : Int) else 0) = 1 - c.user := by split <;> omega
  rw [a1, a2]
  omega
theorem jobsP_ring {c : Cw} (hF : Form c) (h : jobsP c) : jR c := by
  refine rg_back hF.ring fun z hz => ?_
  have := jA_mem.1 h.1 z (by unfold underL; exact List.mem_append_right _ hz)
  have := hF.due
  omega
theorem shut_at {c : Cw} (hF : Form c) (i : Nat) (hi : i < 4) : 0 ≤ shZ c i ∧ shZ c i ≤ 1 := by
  have hl := hF.shut
  unfold shZ
  rw [List.getD_eq_getElem?_getD, List.getElem?_eq_getElem (by omega)]
  exact hF.shuts _ (List.getElem_mem _)
theorem jobs_iff {c : Cw} (hF : Form c) : jobsP c ↔ jA c (placesL c) ∧ jD (placesL c) ∧ jN c (placesL c) ∧ jR c := by
  have hs := shut_at hF 3 (by omega)
  have hN : ∀ l : List Int, (0 < shZ c 3 ∨ (l.length : Int) = c.next - c.due) ↔ jN c l := fun l => by
    unfold jN
    have : c.shut.getD 3 0 = shZ c 3 := rfl
    rw [this]
    constructor
    · rintro (h | h) h0
      · omega
      · exact h
    · intro h
      by_cases e : shZ c 3 = 0
      · exact Or.inr (h e)
      · exact Or.inl (by omega)
  constructor
  · intro h
    have hr := jobsP_ring hF h
    have hp := under_perm hF.ring hr
    obtain ⟨h1, h2, h3⟩ := h
    refine ⟨jA_mem.2 fun z hz => jA_mem.1 h1 z (hp.mem_iff.2 hz), jD_nodup.2 (hp.nodup_iff.1 (jD_nodup.1 h2)), ?_, hr⟩
    rw [hN, jN, hp.length_eq] at h3
    exact h3
  · rintro ⟨h1, h2, h3, hr⟩
    have hp := under_perm hF.ring hr
    refine ⟨jA_mem.2 fun z hz => jA_mem.1 h1 z (hp.mem_iff.1 hz), jD_nodup.2 (hp.nodup_iff.2 (jD_nodup.1 h2)), ?_⟩
    rw [hN, jN, hp.length_eq]
    exact h3
theorem giv_iff {c : Cw} (hF : Form c) (hd : (c.got.length : Int) + (c.out.length : Int) = c.due) : givP c ↔ jG c ∧ jT c := by
  have ho := hF.out
  have hw := hF.ring
  unfold givP jG jT
  constructor
  · rintro ⟨h1, h2⟩
    refine ⟨fun i hi => ?_, by omega, ?_, by omega⟩
    · have := h1 i (by rw [List.length_append]; omega)
      rw [List.getElem_append_left hi] at this
      exact this
    · rcases Nat.eq_zero_or_pos c.out.length with h | h
      · exact Or.inl h
      · right
        have := h1 c.got.length (by rw [List.length_append]; omega)
        rw [List.getElem_append_right (Nat.le_refl _)] at this
        simp only [Nat.sub_self] at this
        rw [List.getD_eq_getElem?_getD, List.getElem?_eq_getElem h]
        exact this
  · rintro ⟨h1, h2, h3, h4⟩
    refine ⟨fun i hi => ?_, by omega⟩
    rw [List.length_append] at hi
    by_cases e : i < c.got.length
    · rw [List.getElem_append_left e]
      exact h1 i e
    · obtain rfl : i = c.got.length := by omega
      rw [List.getElem_append_right (Nat.le_refl _)]
      simp only [Nat.sub_self]
      rcases h3 with h3 | h3
      · omega
      · rw [List.getD_eq_getElem?_getD, List.getElem?_eq_getElem (by omega)] at h3
        exact h3
theorem cls_eq {c : Cw} (hF : Form c) : clsB c = (!e1 c && !e2 c && !e3 c) := by
  have h0 := shut_at hF 0 (by omega); have h1 := shut_at hF 1 (by omega); have h2 := shut_at hF 2 (by omega)
  have a0 : decide (0 < shZ c 0) = decide (shZ c 0 = 1) := decide_eq_decide.2 (by omega)
  have a1 : decide (0 < shZ c 1) = decide (shZ c 1 = 1) := decide_eq_decide.2 (by omega)
  have a2 : decide (0 < shZ c 2) = decide (shZ c 2 = 1) := decide_eq_decide.2 (by omega)
  unfold clsB e1 e2 e3
  rw [a0, a1, a2]
  simp only [bne, Bool.not_not]
theorem end_eq {c : Cw} (hF : Form c) : endB c = (!e4 c && !e5 c && !e6 c && !e7 c && !e8 c && !e9 c) := by
  have h3 := shut_at hF 3 (by omega)
  have hk := hF.keeper
  unfold endB e4 e5 e6 e7 e8 e9 stpB dnB
  have q1 : decide (c.reader < 2) = !decide (2 ≤ c.reader) := by by_cases e : c.reader < 2 <;> simp [e] <;> omega
  have q2 : decide (c.keeper < 4) = !decide (c.keeper = 4 ∨ c.keeper = 5) := by by_cases e : c.keeper < 4 <;> simp [e] <;> omega
  have z1 : decide (c.queue.length = 0) = !decide (0 < c.queue.length) := by by_cases e : c.queue.length = 0 <;> simp [e] <;> omega
  have z2 : decide (c.results.length = 0) = !decide (0 < c.results.length) := by by_cases e : c.results.length = 0 <;> simp [e] <;> omega
  have z3 : decide (c.out.length = 0) = !decide (0 < c.out.length) := by by_cases e : c.out.length = 0 <;> simp [e] <;> omega
  rw [q1, q2, z1, z2, z3]
  by_cases e : shZ c 3 = 1
  · rw [if_pos (by omega), decide_eq_true e]
    generalize decide (c.closer = 1) = b1; generalize allE c.hands = b2; generalize decide (c.user = 1) = b3
    cases b1 <;> cases b2 <;> cases b3 <;> rfl
  · rw [if_neg (by omega), decide_eq_false e]
    generalize decide (c.closer = 1) = b1; generalize allE c.hands = b2; generalize decide (c.user = 1) = b3; generalize decide (2 ≤ c.reader) = b4; generalize decide (c.next = c.jobs) = b5; generalize anyE c.hands = b6; generalize decide (c.reader = 3) = b7; generalize decide (0 < c.queue.length) = b8; generalize decide (c.keeper = 4 ∨ c.keeper = 5) = b9; generalize decide (0 < c.results.length) = b10; generalize decide (c.keeper = 5) = b11; generalize decide (0 < c.out.length) = b12
    revert b1 b2 b3 b4 b5 b6 b7 b8 b9 b10 b11 b12
    decide
/-- When a world is ok. -/
def okS (c : Cw) : Prop := formS c ∧ jobsS c ∧ endsB c = true ∧ c.ops + leftZ c ≤ 11 * c.jobs + c.workers + 7
theorem ok_iff (c : Cw) : okS c ↔ bndP c ∧ okP c := by
  constructor
  · rintro ⟨hf, ⟨j1, j2, j3, j4, j5, j6⟩, he, hl⟩
    have hF := ((formS_iff c).1 hf).1
    have hd : (c.got.length : Int) + (c.out.length : Int) = c.due := by have := j6.1; omega
    have hh := hF.hands
    refine ⟨⟨hF, hd⟩, (jobs_iff hF).2 ⟨j1, j2, j3, j4⟩, (giv_iff hF hd).2 ⟨j5, j6⟩, ?_, ?_, ?_, ?_⟩
    · rw [cls_eq hF]; unfold endsB at he; simp only [Bool.and_eq_true] at he ⊢; exact ⟨⟨he.1.1.1.1.1.1.1.1.1, he.1.1.1.1.1.1.1.1.2⟩, he.1.1.1.1.1.1.1.2⟩
    · rw [end_eq hF]; unfold endsB at he; simp only [Bool.and_eq_true] at he ⊢; exact ⟨⟨⟨⟨⟨he.1.1.1.1.1.1.2, he.1.1.1.1.1.2⟩, he.1.1.1.1.2⟩, he.1.1.1.2⟩, he.1.1.2⟩, he.1.2⟩
    · unfold endsB at he; simp only [Bool.and_eq_true] at he; exact he.2
    · rw [left_eq hF j4]; omega
  · rintro ⟨⟨hF, hd⟩, hj, hg, hc, he, hk, hl⟩
    obtain ⟨j1, j2, j3, j4⟩ := (jobs_iff hF).1 hj
    obtain ⟨j5, j6⟩ := (giv_iff hF hd).1 hg
    have hh := hF.hands
    refine ⟨(formS_iff c).2 ⟨hF, ?_⟩, ⟨j1, j2, j3, j4, j5, j6⟩, ?_, ?_⟩
    · have := hF.due; have := hF.next; omega
    · rw [cls_eq hF] at hc; rw [end_eq hF] at he
      unfold endsB; simp only [Bool.and_eq_true] at hc he ⊢
      exact ⟨⟨⟨⟨⟨⟨⟨⟨⟨hc.1.1, hc.1.2⟩, hc.2⟩, he.1.1.1.1.1⟩, he.1.1.1.1.2⟩, he.1.1.1.2⟩, he.1.1.2⟩, he.1.2⟩, he.2⟩, hk⟩
    · rw [left_eq hF j4] at hl; omega
theorem left_bound {c : Cw} (hF : Form c) : 0 ≤ leftZ c ∧ leftZ c ≤ 5000 := by
  obtain ⟨s1, s2, s3, s4, s5, s6, s7, s8⟩ := hF.small
  have := hF.next; have := hF.out; have := hF.closer; have := hF.user
  have := rdL_bound c.reader; have := kpL_bound c.keeper; have := sumH_bound c.hands; have := sumG_bound c.ring
  unfold leftZ
  omega
end Go.Proofs.YtibgjcejddpldaaGreat

/- Great regions that draw their order, operation by operation, each side condition by one look of the kernel's: no program. No conditions. -/

namespace Go.Proofs.YtibgjcejddpldaaGreat
open Go Go.RowKit

/-- The operations of a region of a code. -/
def rops (k : Nat) : Code → Option (Array Oper)
  | .region i ops _ => if i == k then some ops else none
  | .seq a b => match rops k a with | some o => some o | none => rops k b
  | .cond _ a b => match rops k a with | some o => some o | none => rops k b
  | .block _ b => rops k b
  | .loop b => rops k b
  | .scope b => rops k b
  | .rangeFunc _ _ a b => match rops k a with | some o => some o | none => rops k b
  | _ => none
/-- The operations of a region of a function. -/
def fops (f : Func) (k : Nat) : Array Oper := match f.body with | some c => (rops k c).getD #[] | none => #[]
theorem wp_swap {P : Program} {c c' : Code} {Q : Exit → Act → World → Prop} {a : Act} {w : World} (h : c = c') (hw : c'.wp P Q a w) : c.wp P Q a w := h ▸ hw

section
variable {P : Program} {ops : Array Oper} {Q : Exit → Act → World → Prop} {S : World → Prop}
def opI (ops : Array Oper) (i : Nat) : Oper := (ops[i]?).getD default
theorem opI_get {i : Nat} (h : i < ops.size) : ops[i]? = some (opI ops i) := by
  unfold opI
  rw [Array.getElem?_eq_getElem h]
  rfl
/-- Each operation looks only at what those yield for which it waits, and no two yield into one slot. -/
def neat (ops : Array Oper) : Bool :=
  (ops.toList.all fun o => (o.looksAt ops).all fun d => ((ops.toList.map (·.dst)).zipIdx).all fun p => p.1 != some d || o.after.any fun e => Region.binds .any e && e.on == p.2) &&
  (((ops.toList.map (·.dst)).zipIdx).all fun p => p.1.isNone || ((ops.toList.map (·.dst)).zipIdx).all fun q => p.2 == q.2 || p.1 != q.1)
theorem mem_zip {i : Nat} {o : Oper} (h : ops[i]? = some o) : (o.dst, i) ∈ (ops.toList.map (·.dst)).zipIdx := by
  rw [List.mem_zipIdx_iff_getElem?]
  simp [h]
theorem neat_looks (hn : neat ops = true) {i j : Nat} {oi oj : Oper} (hi : ops[i]? = some oi) (hj : ops[j]? = some oj) {d : Tmp} (hd : oi.dst = some d) (hl : d ∈ oj.looksAt ops) : ∃ e ∈ oj.after, Region.binds .any e = true ∧ e.on = i := by
  unfold neat at hn
  simp only [Bool.and_eq_true, List.all_eq_true] at hn
  have h1 := hn.1 oj (by simpa using Array.mem_of_getElem? hj) d hl _ (mem_zip hi)
  simp only [hd, bne_self_eq_false, Bool.false_or, Array.any_eq_true', Bool.and_eq_true, beq_iff_eq] at h1
  obtain ⟨e, he, h2, h3⟩ := h1
  exact ⟨e, he, h2, h3⟩
theorem neat_dst (hn : neat ops = true) {i j : Nat} {oi oj : Oper} (hi : ops[i]? = some oi) (hj : ops[j]? = some oj) (hne : j ≠ i) {d : Tmp} (hd : oi.dst = some d) : oj.dst ≠ some d := by
  unfold neat at hn
  simp only [Bool.and_eq_true, List.all_eq_true] at hn
  have h1 := hn.2 _ (mem_zip hi)
  simp only [hd, Option.isNone_some, Bool.false_or, List.all_eq_true] at h1
  have h2 := h1 _ (mem_zip hj)
  intro e
  simp [e] at h2
  exact hne h2.symm
theorem neat_apart (hn : neat ops = true) {listed : Array Bool} {i : Nat} {oi : Oper} (hi : ops[i]? = some oi) (hr : ∀ e ∈ oi.after, Region.binds .any e = true → listed.getD e.on false = true) (j : Nat) (oj : Oper) (hj : ops[j]? = some oj) (hne : j ≠ i) (hun : listed.getD j true = false) (hno : ∀ e ∈ oj.after, Region.binds .any e = true → e.on ≠ i) : oi.apart ops oj = true := by
  unfold Oper.apart
  rw [Bool.and_eq_true]
  constructor
  · cases hd : oi.dst with
    | none => rfl
    | some d =>
      have h1 : d ∉ oj.looksAt ops := fun hl => by
        obtain ⟨e, he, hb, ho⟩ := neat_looks hn hi hj hd hl
        exact hno e he hb ho
      have h2 := neat_dst hn hi hj hne hd
      simp [h1, h2]
  · cases hd : oj.dst with
    | none => rfl
    | some d =>
      have h1 : d ∉ oi.looksAt ops := fun hl => by
        obtain ⟨e, he, hb, ho⟩ := neat_looks hn hj hi hd hl
        have h2 := hr e he hb
        rw [ho] at h2
        rw [Array.getD_eq_getD_getElem?] at hun h2
        cases hx : listed[j]? with
        | none => rw [hx] at h2; simp at h2
        | some b => rw [hx] at h2 hun; simp at h2 hun; rw [h2] at hun; cases hun
      simp [h1]
/-- Number i may come up now, and yields into slot d. -/
def tkB (ops : Array Oper) (listed : Array Bool) (i : Nat) (d : Option Tmp) : Bool :=
  match ops[i]? with
  | none => false
  | some o => decide (o.dst = d) && o.guard.isNone && !listed.getD i true && o.after.all (fun e => !Region.binds .any e || listed.getD e.on false)
theorem wanted_none {o : Oper} (f : Nat → Option Bool) (h : o.guard.isNone = true) : Region.wanted o f = true := by
  have : o.guard = none := by simpa using h
  simp [Region.wanted, this]
theorem take_any {fuel : Nat} {listed : Array Bool} {a : Act} {w : World} (i : Nat) (d : Option Tmp) (v : Value) (hs : Region.noSelect ops = true ∧ neat ops = true) (hQ : ∀ c a d v w, Q (.panic c) (Act.put a d v) w → Q (.panic c) a w) (hb : tkB ops listed i d = true)
    (hy : ∀ w, S w → (execOp a.eval (opI ops i)).run P w = .ok (.value v) w) (hS : S w) (h : wpAnyH P .any ops Q S fuel (listed.setIfInBounds i true) (a.put d v) w) : wpAnyH P .any ops Q S (fuel + 1) listed a w := by
  unfold tkB at hb
  cases hi : ops[i]? with
  | none => rw [hi] at hb; cases hb
  | some o =>
    rw [hi] at hb
    simp only [Bool.and_eq_true, decide_eq_true_eq] at hb
    obtain ⟨⟨⟨h2, h3⟩, h4⟩, h5⟩ := hb
    subst h2
    have ho : opI ops i = o := by unfold opI; rw [hi]; rfl
    rw [ho] at hy
    have h6 : ∀ e ∈ o.after, Region.binds .any e = true → listed.getD e.on false = true := fun e he hb => by
      have := Array.all_eq_true_iff_forall_mem.1 h5 e he
      simpa [hb] using this
    have hlt : i < ops.size := (Array.getElem?_eq_some_iff.1 hi).1
    refine wpAnyH_first hi (Region.noSelect_spec hs.1) (fun c a w => hQ c a _ _ w) fuel listed a w (fun j oj hj hne hun hno => neat_apart hs.2 hi h6 j oj hj hne hun hno) ?_ (Or.inl ⟨wanted_none _ h3, hy⟩) hS h
    unfold Region.ready
    rw [List.mem_filter]
    refine ⟨List.mem_range.2 hlt, ?_⟩
    rw [hi, h4]
    simpa using h5
/-- Number i may come up now, guarded or not, and yields into slot d. -/
def tkG (ops : Array Oper) (listed : Array Bool) (i : Nat) (d : Option Tmp) : Bool :=
  match ops[i]? with
  | none => false
  | some o => decide (o.dst = d) && !listed.getD i true && o.after.all (fun e => !Region.binds .any e || listed.getD e.on false)
theorem take_yld {fuel : Nat} {listed : Array Bool} {a : Act} {w : World} (i : Nat) (d : Option Tmp) (v : Value) (hs : Region.noSelect ops = true ∧ neat ops = true) (hQ : ∀ c a d v w, Q (.panic c) (Act.put a d v) w → Q (.panic c) a w) (hb : tkG ops listed i d = true)
    (hy : YieldsIf P ops S (opI ops i) v a) (hS : S w) (h : wpAnyH P .any ops Q S fuel (listed.setIfInBounds i true) (a.put d v) w) : wpAnyH P .any ops Q S (fuel + 1) listed a w := by
  unfold tkG at hb
  cases hi : ops[i]? with
  | none => rw [hi] at hb; cases hb
  | some o =>
    rw [hi] at hb
    simp only [Bool.and_eq_true, decide_eq_true_eq] at hb
    obtain ⟨⟨h2, h4⟩, h5⟩ := hb
    subst h2
    have ho : opI ops i = o := by unfold opI; rw [hi]; rfl
    rw [ho] at hy
    have h6 : ∀ e ∈ o.after, Region.binds .any e = true → listed.getD e.on false = true := fun e he hb => by
      have := Array.all_eq_true_iff_forall_mem.1 h5 e he
      simpa [hb] using this
    have hlt : i < ops.size := (Array.getElem?_eq_some_iff.1 hi).1
    refine wpAnyH_first hi (Region.noSelect_spec hs.1) (fun c a w => hQ c a _ _ w) fuel listed a w (fun j oj hj hne hun hno => neat_apart hs.2 hi h6 j oj hj hne hun hno) ?_ hy hS h
    unfold Region.ready
    rw [List.mem_filter]
    refine ⟨List.mem_range.2 hlt, ?_⟩
    rw [hi, h4]
    simpa using h5
theorem take_skip {fuel : Nat} {listed : Array Bool} {a : Act} {w : World} (i : Nat) (d : Option Tmp) (hs : Region.noSelect ops = true ∧ neat ops = true) (hQ : ∀ c a d v w, Q (.panic c) (Act.put a d v) w → Q (.panic c) a w) (hb : tkG ops listed i d = true)
    (hw : Region.wanted (opI ops i) (yielded ops a.tmps) = false) (hS : S w) (h : wpAnyH P .any ops Q S fuel (listed.setIfInBounds i true) (a.put d undef) w) : wpAnyH P .any ops Q S (fuel + 1) listed a w :=
  take_yld i d undef hs hQ hb (Or.inr ⟨hw, rfl⟩) hS h
theorem take_anyG {fuel : Nat} {listed : Array Bool} {a : Act} {w : World} (i : Nat) (d : Option Tmp) (v : Value) (hs : Region.noSelect ops = true ∧ neat ops = true) (hQ : ∀ c a d v w, Q (.panic c) (Act.put a d v) w → Q (.panic c) a w) (hb : tkG ops listed i d = true)
    (hw : Region.wanted (opI ops i) (yielded ops a.tmps) = true) (hy : ∀ w, S w → (execOp a.eval (opI ops i)).run P w = .ok (.value v) w) (hS : S w) (h : wpAnyH P .any ops Q S fuel (listed.setIfInBounds i true) (a.put d v) w) : wpAnyH P .any ops Q S (fuel + 1) listed a w :=
  take_yld i d v hs hQ hb (Or.inl ⟨hw, hy⟩) hS h
theorem take_loadG {fuel : Nat} {listed : Array Bool} {a : Act} {w : World} (i : Nat) (d : Option Tmp) (T : TypeId) (x : Operand) (ad : Addr) (v : Value) (hs : Region.noSelect ops = true ∧ neat ops = true) (hQ : ∀ c a d v w, Q (.panic c) (Act.put a d v) w → Q (.panic c) a w) (hb : tkG ops listed i d = true)
    (hw : Region.wanted (opI ops i) (yielded ops a.tmps) = true) (ho : (opI ops i).op = .load T x) (hx : a.eval x = .pointer (some ad)) (hl : ∀ w, S w → (Instr.loadAt T (.pointer (some ad))).run P w = .ok v w) (hS : S w) (h : wpAnyH P .any ops Q S fuel (listed.setIfInBounds i true) (a.put d v) w) : wpAnyH P .any ops Q S (fuel + 1) listed a w := by
  refine take_anyG i d v hs hQ hb hw (fun w hw => ?_) hS h
  unfold execOp
  simp only [ho, hx, Sem.run_bind, Sem.run_pure, Result.andThen_ok, hl w hw]
theorem take_load {fuel : Nat} {listed : Array Bool} {a : Act} {w : World} (i : Nat) (d : Option Tmp) (T : TypeId) (x : Operand) (ad : Addr) (v : Value) (hs : Region.noSelect ops = true ∧ neat ops = true) (hQ : ∀ c a d v w, Q (.panic c) (Act.put a d v) w → Q (.panic c) a w) (hb : tkB ops listed i d = true)
    (ho : (opI ops i).op = .load T x) (hx : a.eval x = .pointer (some ad)) (hl : ∀ w, S w → (Instr.loadAt T (.pointer (some ad))).run P w = .ok v w) (hS : S w) (h : wpAnyH P .any ops Q S fuel (listed.setIfInBounds i true) (a.put d v) w) : wpAnyH P .any ops Q S (fuel + 1) listed a w := by
  refine take_any i d v hs hQ hb (fun w hw => ?_) hS h
  unfold execOp
  simp only [ho, hx, Sem.run_bind, Sem.run_pure, Result.andThen_ok, hl w hw]
theorem any_eq {fuel : Nat} {l l' : Array Bool} {a a' : Act} {w : World} (hl : l = l') (ha : a = a') (h : wpAnyH P .any ops Q S fuel l' a' w) : wpAnyH P .any ops Q S fuel l a w := by rw [hl, ha]; exact h
theorem ready_one {fuel : Nat} {listed : Array Bool} {a : Act} {w : World} (i : Nat) (hr : Region.ready .any ops listed = [i]) (h : wpOp P ops Q i (fun a' w' => S w' ∧ wpAnyH P .any ops Q S fuel (listed.setIfInBounds i true) a' w') a w) : wpAnyH P .any ops Q S (fuel + 1) listed a w :=
  wpAnyH_all hr (by simp) (fun j hj => by simp only [List.mem_singleton] at hj; subst hj; exact h)
theorem ready_two {fuel : Nat} {listed : Array Bool} {a : Act} {w : World} (i k : Nat) (hr : Region.ready .any ops listed = [i, k]) (h : wpOp P ops Q i (fun a' w' => S w' ∧ wpAnyH P .any ops Q S fuel (listed.setIfInBounds i true) a' w') a w)
    (h2 : wpOp P ops Q k (fun a' w' => S w' ∧ wpAnyH P .any ops Q S fuel (listed.setIfInBounds k true) a' w') a w) : wpAnyH P .any ops Q S (fuel + 1) listed a w :=
  wpAnyH_all hr (by simp) (fun j hj => by
    simp only [List.mem_cons, List.not_mem_nil, or_false] at hj
    rcases hj with rfl | rfl
    · exact h
    · exact h2)
/-- Number i is there, unguarded, and yields into slot d. -/
def opB (ops : Array Oper) (i : Nat) (d : Option Tmp) : Bool := decide (i < ops.size) && decide ((opI ops i).dst = d) && (opI ops i).guard.isNone
theorem op_val {i : Nat} {K : Act → World → Prop} {a : Act} {w w' : World} (d : Option Tmp) (v : Value) (hb : opB ops i d = true) (hr : (execOp a.eval (opI ops i)).run P w = .ok (.value v) w') (h : K (a.put d v) w') : wpOp P ops Q i K a w := by
  unfold opB at hb
  simp only [Bool.and_eq_true, decide_eq_true_eq] at hb
  obtain ⟨⟨h1, h2⟩, h3⟩ := hb
  subst h2
  unfold wpOp
  rw [opI_get h1]
  simp only [wanted_none _ h3, if_true]
  exact Or.inl (by unfold Oper.wp; rw [hr]; exact h)
theorem op_skip {i : Nat} {K : Act → World → Prop} {a : Act} {w w' : World} (d : Option Tmp) (hb : opB ops i d = true) (hr : (execOp a.eval (opI ops i)).run P w = .ok .skip w') (h : K (a.put d undef) w') : wpOp P ops Q i K a w := by
  unfold opB at hb
  simp only [Bool.and_eq_true, decide_eq_true_eq] at hb
  obtain ⟨⟨h1, h2⟩, h3⟩ := hb
  subst h2
  unfold wpOp
  rw [opI_get h1]
  simp only [wanted_none _ h3, if_true]
  exact Or.inl (by unfold Oper.wp; rw [hr]; exact h)
theorem op_enter {i : Nat} {K : Act → World → Prop} {a : Act} {w : World} (d : Option Tmp) (f : FuncId) (args : Array Value) {R : Ending → World → Prop} (hb : opB ops i d = true) (hr : (execOp a.eval (opI ops i)).run P w = .ok (.enter f args) w) (hc : Calls P f args w R) (h : ∀ e w', R e w' → ∃ u, e = .returned u ∧ K (a.put d u) w') : wpOp P ops Q i K a w := by
  unfold opB at hb
  simp only [Bool.and_eq_true, decide_eq_true_eq] at hb
  obtain ⟨⟨h1, h2⟩, h3⟩ := hb
  subst h2
  unfold wpOp
  rw [opI_get h1]
  simp only [wanted_none _ h3, if_true]
  refine Or.inl ?_
  unfold Oper.wp
  rw [hr]
  refine Calls.mono hc fun e w' he => ?_
  obtain ⟨u, rfl, hK⟩ := h e w' he
  exact hK
/-- The same, guarded or not. -/
def opG (ops : Array Oper) (i : Nat) (d : Option Tmp) : Bool := decide (i < ops.size) && decide ((opI ops i).dst = d)
theorem op_enterG {i : Nat} {K : Act → World → Prop} {a : Act} {w : World} (d : Option Tmp) (f : FuncId) (args : Array Value) {R : Ending → World → Prop} (hb : opG ops i d = true) (hw : Region.wanted (opI ops i) (yielded ops a.tmps) = true) (hr : (execOp a.eval (opI ops i)).run P w = .ok (.enter f args) w) (hc : Calls P f args w R) (h : ∀ e w', R e w' → ∃ u, e = .returned u ∧ K (a.put d u) w') : wpOp P ops Q i K a w := by
  unfold opG at hb
  simp only [Bool.and_eq_true, decide_eq_true_eq] at hb
  obtain ⟨h1, h2⟩ := hb
  subst h2
  unfold wpOp
  rw [opI_get h1]
  simp only [hw, if_true]
  refine Or.inl ?_
  unfold Oper.wp
  rw [hr]
  refine Calls.mono hc fun e w' he => ?_
  obtain ⟨u, rfl, hK⟩ := h e w' he
  exact hK
/-- A store of a struct of many cells. -/
theorem op_store_mid {i : Nat} {K : Act → World → Prop} {a : Act} {w : World} (d : Option Tmp) (ty : TypeId) (x y : Operand) (b o : Nat) (cells : Array Value) (hb : opB ops i d = true) (ho : (opI ops i).op = .store ty x y) (hx : a.eval x = .pointer (some ⟨b, o, none⟩)) (hy : a.eval y = .agg cells)
    (ht : w.there b o cells.size) (hi : (P.info? ty).map (·.size) = some cells.size) (h1 : cells.all (·.oneCell') = true) (h : K (a.put d undef) (w.setCells b o cells.toList)) : wpOp P ops Q i K a w := by
  refine op_skip d hb ?_ h
  unfold execOp
  simp only [ho, hx, hy, Instr.storeAt, Instr.sureAddr, Sem.run_bind, Sem.run_pure, Result.andThen_ok, run_storeVar_mid w b o ty cells ht hi h1]
/-- A store of one cell. -/
theorem op_store {i : Nat} {K : Act → World → Prop} {a : Act} {w : World} (d : Option Tmp) (ty : TypeId) (x y : Operand) (ad : Addr) (v : Value) (w' : World) (hb : opB ops i d = true) (ho : (opI ops i).op = .store ty x y) (hx : a.eval x = .pointer (some ad)) (hy : a.eval y = v)
    (hr : (Instr.storeAt ty (.pointer (some ad)) v).run P w = .ok () w') (h : K (a.put d undef) w') : wpOp P ops Q i K a w := by
  refine op_skip d hb ?_ h
  unfold execOp
  simp only [ho, hx, hy, Sem.run_bind, Sem.run_pure, Result.andThen_ok, hr]
end
end Go.Proofs.YtibgjcejddpldaaGreat

/- A crew's cells, one by one; loads of one cell. No conditions. -/

namespace Go.Proofs.YtibgjcejddpldaaGreat
open Go Go.RowKit

theorem ld3 (w : World) (ad : Addr) (v : Value) (h : w.cell? ad = some v) : (Instr.loadAt 3 (.pointer (some ad))).run Tryz.prog w = .ok v w := by
  simp [Instr.loadAt, Instr.sureAddr, loadVar, Tryz.isAgg3, h, go_sem]
theorem ld25 (w : World) (ad : Addr) (v : Value) (h : w.cell? ad = some v) : (Instr.loadAt 23 (.pointer (some ad))).run Tryz.prog w = .ok v w := by
  simp [Instr.loadAt, Instr.sureAddr, loadVar, Tryz.isAgg23, h, go_sem]
theorem ld26 (w : World) (ad : Addr) (v : Value) (h : w.cell? ad = some v) : (Instr.loadAt 24 (.pointer (some ad))).run Tryz.prog w = .ok v w := by
  simp [Instr.loadAt, Instr.sureAddr, loadVar, Tryz.isAgg24, h, go_sem]
theorem ld67 (w : World) (ad : Addr) (v : Value) (h : w.cell? ad = some v) : (Instr.loadAt 75 (.pointer (some ad))).run Tryz.prog w = .ok v w := by
  simp [Instr.loadAt, Instr.sureAddr, loadVar, Tryz.isAgg75, h, go_sem]
theorem ld68 (w : World) (ad : Addr) (v : Value) (h : w.cell? ad = some v) : (Instr.loadAt 76 (.pointer (some ad))).run Tryz.prog w = .ok v w := by
  simp [Instr.loadAt, Instr.sureAddr, loadVar, Tryz.isAgg76, h, go_sem]
theorem CrAt.c0 {W : World} {C : Nat} {c : Cw} {B : CrB} (h : CrAt W C c B) : W.cell? ⟨C, 0, none⟩ = some (.int .i64 c.jobs) := h.row.cell (i := 0) (by omega)
theorem CrAt.c1 {W : World} {C : Nat} {c : Cw} {B : CrB} (h : CrAt W C c B) : W.cell? ⟨C, 1, none⟩ = some (.int .i64 c.next) := h.row.cell (i := 1) (by omega)
theorem CrAt.c2 {W : World} {C : Nat} {c : Cw} {B : CrB} (h : CrAt W C c B) : W.cell? ⟨C, 2, none⟩ = some (.int .i64 c.reader) := h.row.cell (i := 2) (by omega)
theorem CrAt.c3 {W : World} {C : Nat} {c : Cw} {B : CrB} (h : CrAt W C c B) : W.cell? ⟨C, 3, none⟩ = some (.pointer (some ⟨B.Q, 0, none⟩)) := h.row.cell (i := 3) (by omega)
theorem CrAt.c4 {W : World} {C : Nat} {c : Cw} {B : CrB} (h : CrAt W C c B) : W.cell? ⟨C, 4, none⟩ = some (.slice (some ⟨B.H, 0, none⟩) c.hands.length c.hands.length) := h.row.cell (i := 4) (by omega)
theorem CrAt.c5 {W : World} {C : Nat} {c : Cw} {B : CrB} (h : CrAt W C c B) : W.cell? ⟨C, 5, none⟩ = some (.int .i64 c.closer) := h.row.cell (i := 5) (by omega)
theorem CrAt.c6 {W : World} {C : Nat} {c : Cw} {B : CrB} (h : CrAt W C c B) : W.cell? ⟨C, 6, none⟩ = some (.pointer (some ⟨B.R, 0, none⟩)) := h.row.cell (i := 6) (by omega)
theorem CrAt.c7 {W : World} {C : Nat} {c : Cw} {B : CrB} (h : CrAt W C c B) : W.cell? ⟨C, 7, none⟩ = some (.int .i64 c.keeper) := h.row.cell (i := 7) (by omega)
theorem CrAt.c8 {W : World} {C : Nat} {c : Cw} {B : CrB} (h : CrAt W C c B) : W.cell? ⟨C, 8, none⟩ = some (.slice (some ⟨B.G, 0, none⟩) c.ring.length B.cg) := h.row.cell (i := 8) (by omega)
theorem CrAt.c9 {W : World} {C : Nat} {c : Cw} {B : CrB} (h : CrAt W C c B) : W.cell? ⟨C, 9, none⟩ = some (.int .i64 c.due) := h.row.cell (i := 9) (by omega)
theorem CrAt.c10 {W : World} {C : Nat} {c : Cw} {B : CrB} (h : CrAt W C c B) : W.cell? ⟨C, 10, none⟩ = some (.pointer (some ⟨B.O, 0, none⟩)) := h.row.cell (i := 10) (by omega)
theorem CrAt.c11 {W : World} {C : Nat} {c : Cw} {B : CrB} (h : CrAt W C c B) : W.cell? ⟨C, 11, none⟩ = some (.int .i64 c.user) := h.row.cell (i := 11) (by omega)
theorem CrAt.c12 {W : World} {C : Nat} {c : Cw} {B : CrB} (h : CrAt W C c B) : W.cell? ⟨C, 12, none⟩ = some (.slice B.aT c.got.length B.cT) := h.row.cell (i := 12) (by omega)
theorem CrAt.c13 {W : World} {C : Nat} {c : Cw} {B : CrB} (h : CrAt W C c B) : W.cell? ⟨C, 13, none⟩ = some (.pointer (some ⟨B.M, 0, none⟩)) := h.row.cell (i := 13) (by omega)
theorem CrAt.c14 {W : World} {C : Nat} {c : Cw} {B : CrB} (h : CrAt W C c B) : W.cell? ⟨C, 14, none⟩ = some (.pointer (some ⟨B.T, 0, none⟩)) := h.row.cell (i := 14) (by omega)
theorem CrAt.c15 {W : World} {C : Nat} {c : Cw} {B : CrB} (h : CrAt W C c B) : W.cell? ⟨C, 15, none⟩ = some (.int .i64 c.ops) := h.row.cell (i := 15) (by omega)
theorem CrAt.m2 {W : World} {C : Nat} {c : Cw} {B : CrB} (h : CrAt W C c B) : W.cell? ⟨B.M, 2, none⟩ = some (.int .i64 c.room) := by
  obtain ⟨_, _, _, hm⟩ := h.m
  exact hm.cell (i := 2) (by omega)
theorem CrAt.t3 {W : World} {C : Nat} {c : Cw} {B : CrB} (h : CrAt W C c B) : W.cell? ⟨B.T, 3, none⟩ = some (.int .i64 (c.shut.getD 3 0)) := by
  obtain ⟨_, hm⟩ := h.t
  exact hm.cell (i := 3) (by omega)
theorem CrAt.q3 {W : World} {C : Nat} {c : Cw} {B : CrB} (h : CrAt W C c B) : W.cell? ⟨B.Q, 3, none⟩ = some (.int .i64 (c.shut.getD 0 0)) := by
  obtain ⟨_, _, _, hm, _, _⟩ := h.q.ex
  exact hm.cell (i := 3) (by omega)
theorem CrAt.r3 {W : World} {C : Nat} {c : Cw} {B : CrB} (h : CrAt W C c B) : W.cell? ⟨B.R, 3, none⟩ = some (.int .i64 (c.shut.getD 1 0)) := by
  obtain ⟨_, _, _, hm, _, _⟩ := h.r.ex
  exact hm.cell (i := 3) (by omega)
theorem CrAt.o3 {W : World} {C : Nat} {c : Cw} {B : CrB} (h : CrAt W C c B) : W.cell? ⟨B.O, 3, none⟩ = some (.int .i64 (c.shut.getD 2 0)) := by
  obtain ⟨_, _, _, hm, _, _⟩ := h.o.ex
  exact hm.cell (i := 3) (by omega)
end Go.Proofs.YtibgjcejddpldaaGreat
