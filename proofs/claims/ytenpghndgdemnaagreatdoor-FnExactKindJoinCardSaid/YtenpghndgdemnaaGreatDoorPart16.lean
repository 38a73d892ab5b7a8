/- What widening keeps: a schema fits into itself, and nothing changes then; what comes of it is of the wider schema, and has no fewer parts. No program, no conditions. -/
import Derived.Test.YtenpghndgdemnaaGreatDoorPart15
import Derived.Test.YtenpghndgdemnaaGreatDoorPart08
import Derived.Test.YtenpghndgdemnaaGreatDoorPart02
namespace Go.Proofs.YtenpghndgdemnaaGreatDoor
open Go Go.RowKit

theorem rise_names {k : Kd} (h : okD k = true) (h5 : k.sort = 5) : k.kids.length = k.names.length ∧ riseB k.names = true := by
  rcases okD_sh h with h' | h' | h'
  · omega
  · omega
  · exact h'.2
/-- A schema that is ok fits into itself. -/
theorem fit_refl : ∀ (n : Nat) (a : Kd), okD a = true → ksz a ≤ n → fitF n a a = true
  | 0, a, _, h => by have := ksz_pos a; omega
  | n + 1, a, ho, hn => by
    have sa := okD_sh ho
    by_cases h6 : a.sort = 6
    · have hk : 0 < a.kids.length := by rcases sa with h | h | h <;> omega
      have := ksz_kid (List.getElem_mem hk)
      rw [fit_mm h6 h6 hk hk]
      exact fit_refl n _ (okD_kid ho 0 hk) (by omega)
    by_cases h4 : a.sort = 4
    · have hk : 0 < a.kids.length := by rcases sa with h | h | h <;> omega
      have := ksz_kid (List.getElem_mem hk)
      rw [fit_ll h4 h4 hk hk]
      exact fit_refl n _ (okD_kid ho 0 hk) (by omega)
    by_cases h5 : a.sort = 5
    · obtain ⟨hl, hr⟩ := rise_names ho h5
      rw [fit_union h5 h5 hl hl (rise_nodup hr) (rise_nodup hr) (fun k hk => okD_ne (okD_mem ho hk)) (fun k hk => okD_ne (okD_mem ho hk)) _ (fun nm => uniN_mem nm), List.all_eq_true]
      intro nm hm
      have hma : nm ∈ a.names := by rcases (uniN_mem nm).1 hm with h | h <;> exact h
      have hin := kidZ_in ho h5 hma
      have hok := okD_mem ho hin
      have := ksz_kid hin
      unfold pF
      rw [if_neg (okD_ne hok), if_neg (okD_ne hok)]
      exact fit_refl n _ hok (by omega)
    · have h1 : a.sort = 1 ∨ a.sort = 2 ∨ a.sort = 3 := by rcases sa with h | h | h <;> omega
      have hl : a.kids.length = 0 ∧ a.names.length = 0 := by rcases sa with h | h | h <;> omega
      refine fit_yes (n := n) h6 rfl h4 (by omega) (by omega) (fun i hi => by omega) (fun i hi => by omega)
end Go.Proofs.YtenpghndgdemnaaGreatDoor

/- Of two schemas the least into which both fit, as a function on data, and how two lists of names that rise are merged. No program, no conditions. -/

namespace Go.Proofs.YtenpghndgdemnaaGreatDoor
open Go Go.RowKit

/-- A schema without the first maybe; a maybe of it; a schema that may be nothing. -/
def bareK (k : Kd) : Kd := if k.sort = 6 then k.kids.getD 0 kd0 else k
def mbK (k : Kd) : Kd := .mk 6 [] [k]
def liK (k : Kd) : Kd := .mk 4 [] [k]
def loneK (k : Kd) : Kd := if k.sort = 6 then k else mbK k
/-- The least schema of two of which one may be nothing, so deep. -/
def jnP : Nat → Kd → Kd → Option Kd
  | 0, _, _ => none
  | n + 1, a, b =>
    if a.sort = 0 then (if b.sort = 0 then none else some (loneK b))
    else if b.sort = 0 then some (loneK a)
    else if a.sort = 6 ∨ b.sort = 6 then (jnP n (bareK a) (bareK b)).map mbK
    else if a.sort ≠ b.sort then none
    else if a.sort = 4 then (jnP n (a.kids.getD 0 kd0) (b.kids.getD 0 kd0)).map liK
    else if a.sort = 5 then
      if (uniN a.names b.names).all (fun nm => (jnP n (kidZ a nm) (kidZ b nm)).isSome) = true
      then some (.mk 5 (uniN a.names b.names) ((uniN a.names b.names).map fun nm => (jnP n (kidZ a nm) (kidZ b nm)).getD kd0)) else none
    else some (.mk a.sort [] [])
/-- The least schema of two, if it is ok. -/
def okO : Option Kd → Option Kd
  | some x => if 0 < qT x 1 then some x else none
  | none => none
def joinD (a b : Kd) : Option Kd := if 0 < qT a 1 ∧ 0 < qT b 1 then okO (jnP 80 a b) else none
section
variable {n : Nat} {a b : Kd}
theorem jn_00 (h1 : a.sort = 0) (h2 : b.sort = 0) : jnP n a b = none := by
  cases n with
  | zero => rfl
  | succ n => rw [jnP, if_pos h1, if_pos h2]
theorem jn_0b (h1 : a.sort = 0) (h2 : b.sort ≠ 0) : jnP (n + 1) a b = some (loneK b) := by rw [jnP, if_pos h1, if_neg h2]
theorem jn_a0 (h1 : a.sort ≠ 0) (h2 : b.sort = 0) : jnP (n + 1) a b = some (loneK a) := by rw [jnP, if_neg h1, if_pos h2]
theorem jn_mb (h1 : a.sort ≠ 0) (h2 : b.sort ≠ 0) (h3 : a.sort = 6 ∨ b.sort = 6) : jnP (n + 1) a b = (jnP n (bareK a) (bareK b)).map mbK := by rw [jnP, if_neg h1, if_neg h2, if_pos h3]
theorem jn_ne (h1 : a.sort ≠ 0) (h2 : b.sort ≠ 0) (h3 : a.sort ≠ 6) (h4 : b.sort ≠ 6) (h : a.sort ≠ b.sort) : jnP (n + 1) a b = none := by rw [jnP, if_neg h1, if_neg h2, if_neg (by omega), if_pos h]
theorem jn_li (h1 : a.sort = 4) (h2 : b.sort = 4) (ha : 0 < a.kids.length) (hb : 0 < b.kids.length) : jnP (n + 1) a b = (jnP n a.kids[0] b.kids[0]).map liK := by
  rw [jnP, if_neg (by omega), if_neg (by omega), if_neg (by omega), if_neg (by omega), if_pos h1, getD_kid ha, getD_kid hb]
theorem jn_fm (h1 : a.sort = 5) (h2 : b.sort = 5) : jnP (n + 1) a b = if (uniN a.names b.names).all (fun nm => (jnP n (kidZ a nm) (kidZ b nm)).isSome) = true
      then some (.mk 5 (uniN a.names b.names) ((uniN a.names b.names).map fun nm => (jnP n (kidZ a nm) (kidZ b nm)).getD kd0)) else none := by
  rw [jnP, if_neg (by omega), if_neg (by omega), if_neg (by omega), if_neg (by omega), if_neg (by omega), if_pos h1]
theorem jn_lf (h1 : a.sort = 1 ∨ a.sort = 2 ∨ a.sort = 3) (h2 : a.sort = b.sort) : jnP (n + 1) a b = some (.mk a.sort [] []) := by
  rw [jnP, if_neg (by omega), if_neg (by omega), if_neg (by omega), if_neg (by omega), if_neg (by omega), if_neg (by omega)]
end
theorem bare_mb {k : Kd} (h : k.sort = 6) (hk : 0 < k.kids.length) : bareK k = k.kids[0] := by unfold bareK; rw [if_pos h, getD_kid hk]
theorem bare_no {k : Kd} (h : k.sort ≠ 6) : bareK k = k := by unfold bareK; rw [if_neg h]
/-- Two lists that rise and have the same names are one. -/
theorem rise_ext {l m : List ByteArray} (hl : l.Pairwise nlt) (hm : m.Pairwise nlt) (h : ∀ x, x ∈ l ↔ x ∈ m) : l = m := by
  have h1 := rise_sub l m hl hm (fun x hx => (h x).2 hx)
  have h2 := rise_sub m l hm hl (fun x hx => (h x).1 hx)
  exact (h1.eq_of_length_le h2.length_le).symm
theorem uniN_comm (l m : List ByteArray) : uniN l m = uniN m l := rise_ext (uniN_rise _ _) (uniN_rise _ _) fun x => by rw [uniN_mem, uniN_mem]; exact Or.comm
theorem jn_comm : ∀ (n : Nat) (a b : Kd), jnP n a b = jnP n b a
  | 0, _, _ => rfl
  | n + 1, a, b => by
    by_cases ha : a.sort = 0
    · by_cases hb : b.sort = 0
      · rw [jn_00 ha hb, jn_00 hb ha]
      · rw [jn_0b ha hb, jn_a0 hb ha]
    by_cases hb : b.sort = 0
    · rw [jn_a0 ha hb, jn_0b hb ha]
    by_cases h6 : a.sort = 6 ∨ b.sort = 6
    · rw [jn_mb ha hb h6, jn_mb hb ha (Or.comm.1 h6), jn_comm n]
    by_cases hne : a.sort = b.sort
    · by_cases h4 : a.sort = 4
      · rw [jnP, jnP, if_neg ha, if_neg hb, if_neg h6, if_neg (by omega), if_pos h4, if_neg hb, if_neg ha, if_neg (by omega), if_neg (by omega), if_pos (by omega), jn_comm n]
      by_cases h5 : a.sort = 5
      · rw [jn_fm h5 (by omega), jn_fm (by omega) h5, uniN_comm b.names a.names]
        simp only [jn_comm n (kidZ b _) (kidZ a _)]
      · rw [jnP, jnP, if_neg ha, if_neg hb, if_neg h6, if_neg (by omega), if_neg h4, if_neg h5, if_neg hb, if_neg ha, if_neg (by omega), if_neg (by omega), if_neg (by omega), if_neg (by omega), hne]
    · rw [jn_ne ha hb (by omega) (by omega) hne, jn_ne hb ha (by omega) (by omega) (fun h => hne h.symm)]
theorem nlt_head {x : ByteArray} {l : List ByteArray} (h : (x :: l).Pairwise nlt) : ∀ y, y ∈ l → nlt x y := fun y hy => (List.pairwise_cons.1 h).1 y hy
theorem uni_left {x : ByteArray} {l m : List ByteArray} (hl : (x :: l).Pairwise nlt) (h : ∀ y, y ∈ m → nlt x y) : uniN (x :: l) m = x :: uniN l m := by
  refine rise_ext (uniN_rise _ _) (List.pairwise_cons.2 ⟨fun y hy => ?_, uniN_rise _ _⟩) fun y => ?_
  · rcases (uniN_mem y).1 hy with hy | hy
    · exact nlt_head hl y hy
    · exact h y hy
  · rw [uniN_mem, List.mem_cons, List.mem_cons, uniN_mem]
    exact or_assoc
theorem uni_both {x : ByteArray} {l m : List ByteArray} (hl : (x :: l).Pairwise nlt) (hm : (x :: m).Pairwise nlt) : uniN (x :: l) (x :: m) = x :: uniN l m := by
  refine rise_ext (uniN_rise _ _) (List.pairwise_cons.2 ⟨fun y hy => ?_, uniN_rise _ _⟩) fun y => ?_
  · rcases (uniN_mem y).1 hy with hy | hy
    · exact nlt_head hl y hy
    · exact nlt_head hm y hy
  · simp only [uniN_mem, List.mem_cons]
    constructor
    · rintro ((h | h) | (h | h))
      · exact Or.inl h
      · exact Or.inr (Or.inl h)
      · exact Or.inl h
      · exact Or.inr (Or.inr h)
    · rintro (h | h | h)
      · exact Or.inl (Or.inl h)
      · exact Or.inl (Or.inr h)
      · exact Or.inr (Or.inr h)
theorem uni_nil : uniN [] [] = [] := rise_ext (uniN_rise _ _) List.Pairwise.nil fun x => by rw [uniN_mem]; simp
/-- How far two lists of names are merged: what came of them, and what is left. -/
structure Mg (an bn : List ByteArray) (i j : Nat) (out : List ByteArray) : Prop where
  hi : i ≤ an.length
  hj : j ≤ bn.length
  all : uniN an bn = out ++ uniN (an.drop i) (bn.drop j)
  mem : ∀ x, x ∈ out ↔ x ∈ an.take i ∨ x ∈ bn.take j
section
variable {an bn : List ByteArray} {i j : Nat} {out : List ByteArray}
theorem Mg.start (an bn : List ByteArray) : Mg an bn 0 0 [] := ⟨Nat.zero_le _, Nat.zero_le _, rfl, fun x => by simp⟩
theorem Mg.done (h : Mg an bn i j out) (hi : an.length ≤ i) (hj : bn.length ≤ j) : uniN an bn = out := by
  rw [h.all, List.drop_eq_nil_of_le hi, List.drop_eq_nil_of_le hj, uni_nil, List.append_nil]
theorem Mg.len (h : Mg an bn i j out) : out.length ≤ an.length + bn.length := by
  have h1 := uniN_len an bn
  have h2 := uniL_len an bn
  have h3 := congrArg List.length h.all
  rw [List.length_append] at h3
  omega
/-- What comes next is not among what came. -/
theorem Mg.new (h : Mg an bn i j out) {x : ByteArray} {r : List ByteArray} (e : uniN (an.drop i) (bn.drop j) = x :: r) : x ∉ out := fun hx => by
  have h1 := uniN_rise an bn
  rw [h.all, e, List.pairwise_append] at h1
  exact nlt_irrefl x (h1.2.2 x hx x (by simp))
theorem drop_rise (h : an.Pairwise nlt) (i : Nat) : (an.drop i).Pairwise nlt := h.sublist (List.drop_sublist _ _)
theorem rise_mono (h : an.Pairwise nlt) {i j : Nat} (hij : i < j) (hj : j < an.length) : nlt (an[i]'(by omega)) an[j] := List.pairwise_iff_getElem.1 h i j (by omega) hj hij
theorem take_snoc_mem {l : List ByteArray} {i : Nat} (hi : i < l.length) (x : ByteArray) : x ∈ l.take (i + 1) ↔ x ∈ l.take i ∨ x = l[i] := by
  rw [List.take_succ_eq_append_getElem hi, List.mem_append, List.mem_singleton]
/-- The next name is of the first alone. -/
theorem Mg.left (ha : an.Pairwise nlt) (hb : bn.Pairwise nlt) (h : Mg an bn i j out) (hi : i < an.length) (hlt : ∀ hj : j < bn.length, nlt an[i] bn[j]) : Mg an bn (i + 1) j (out ++ [an[i]]) ∧ an[i] ∉ bn := by
  have hd : ∀ y, y ∈ bn.drop j → nlt an[i] y := fun y hy => by
    by_cases hj : j < bn.length
    · rw [List.drop_eq_getElem_cons hj, List.mem_cons] at hy
      rcases hy with rfl | hy
      · exact hlt hj
      · have := drop_rise hb j
        rw [List.drop_eq_getElem_cons hj] at this
        exact nlt_trans (hlt hj) (nlt_head this y hy)
    · rw [List.drop_eq_nil_of_le (by omega)] at hy; cases hy
  have e : uniN (an.drop i) (bn.drop j) = an[i] :: uniN (an.drop (i + 1)) (bn.drop j) := by
    have h1 := drop_rise ha i
    rw [List.drop_eq_getElem_cons hi] at h1 ⊢
    exact uni_left h1 hd
  refine ⟨⟨hi, h.hj, by rw [h.all, e, List.append_assoc]; rfl, fun x => ?_⟩, fun hx => ?_⟩
  · rw [List.mem_append, h.mem, take_snoc_mem hi, List.mem_singleton]
    constructor
    · rintro ((h | h) | h)
      · exact Or.inl (Or.inl h)
      · exact Or.inr h
      · exact Or.inl (Or.inr h)
    · rintro ((h | h) | h)
      · exact Or.inl (Or.inl h)
      · exact Or.inr h
      · exact Or.inl (Or.inr h)
  · rw [← List.take_append_drop j bn, List.mem_append] at hx
    rcases hx with hx | hx
    · exact h.new e ((h.mem _).2 (Or.inr hx))
    · exact nlt_irrefl _ (hd _ hx)
theorem Mg.swap (h : Mg an bn i j out) : Mg bn an j i out := ⟨h.hj, h.hi, by rw [uniN_comm, h.all, uniN_comm (an.drop i)], fun x => by rw [h.mem]; exact Or.comm⟩
theorem Mg.right (ha : an.Pairwise nlt) (hb : bn.Pairwise nlt) (h : Mg an bn i j out) (hj : j < bn.length) (hlt : ∀ hi : i < an.length, nlt bn[j] an[i]) : Mg an bn i (j + 1) (out ++ [bn[j]]) ∧ bn[j] ∉ an := by
  obtain ⟨h1, h2⟩ := h.swap.left hb ha hj hlt
  exact ⟨h1.swap, h2⟩
/-- The next name is of both. -/
theorem Mg.both (ha : an.Pairwise nlt) (hb : bn.Pairwise nlt) (h : Mg an bn i j out) (hi : i < an.length) (hj : j < bn.length) (hx : bn[j] = an[i]) : Mg an bn (i + 1) (j + 1) (out ++ [an[i]]) := by
  have e : uniN (an.drop i) (bn.drop j) = an[i] :: uniN (an.drop (i + 1)) (bn.drop (j + 1)) := by
    have h1 := drop_rise ha i
    have h2 := drop_rise hb j
    rw [List.drop_eq_getElem_cons hi] at h1 ⊢
    rw [List.drop_eq_getElem_cons hj, hx] at h2 ⊢
    exact uni_both h1 h2
  refine ⟨hi, hj, by rw [h.all, e, List.append_assoc]; rfl, fun x => ?_⟩
  rw [List.mem_append, h.mem, take_snoc_mem hi, take_snoc_mem hj, List.mem_singleton, hx]
  constructor
  · rintro ((h | h) | h)
    · exact Or.inl (Or.inl h)
    · exact Or.inr (Or.inl h)
    · exact Or.inl (Or.inr h)
  · rintro ((h | h) | (h | h))
    · exact Or.inl (Or.inl h)
    · exact Or.inr h
    · exact Or.inl (Or.inr h)
    · exact Or.inr h
end
end Go.Proofs.YtenpghndgdemnaaGreatDoor

/- Widening in two steps: what fits into what fits, fits; once is as good as twice. No program, no conditions. -/

namespace Go.Proofs.YtenpghndgdemnaaGreatDoor
open Go Go.RowKit

theorem kidZ_ok {k : Kd} {nm : ByteArray} (h : okD k = true) (h5 : k.sort = 5) (hm : nm ∈ k.names) : okD (kidZ k nm) = true ∧ ksz (kidZ k nm) < ksz k := ⟨okD_mem h (kidZ_in h h5 hm), ksz_kid (kidZ_in h h5 hm)⟩
end Go.Proofs.YtenpghndgdemnaaGreatDoor

/- Of two schemas the least into which both fit: both fit into it, and it fits into each into which both fit, if there is one. No program, no conditions. -/

namespace Go.Proofs.YtenpghndgdemnaaGreatDoor
open Go Go.RowKit

theorem sort_mk (s : Int) (ns : List ByteArray) (ks : List Kd) : (Kd.mk s ns ks).sort = s := rfl
theorem names_mk (s : Int) (ns : List ByteArray) (ks : List Kd) : (Kd.mk s ns ks).names = ns := rfl
theorem kkids_mk (s : Int) (ns : List ByteArray) (ks : List Kd) : (Kd.mk s ns ks).kids = ks := rfl
theorem okDs_all : ∀ (ks : List Kd), (∀ x, x ∈ ks → okD x = true) → okDs ks = true
  | [], _ => by rw [okDs]
  | t :: r, h => by
    rw [okDs, Bool.and_eq_true]
    exact ⟨h t (by simp), okDs_all r fun x hx => h x (by simp [hx])⟩
theorem okD_mk {k : Kd} (h1 : shB k = true) (h2 : ∀ x, x ∈ k.kids → okD x = true) : okD k = true := by
  rw [okD_eq, Bool.and_eq_true]
  exact ⟨h1, okDs_all _ h2⟩
theorem okD_one {s : Int} {x : Kd} (hs : s = 4 ∨ s = 6) (h : okD x = true) : okD (.mk s [] [x]) = true := by
  refine okD_mk ?_ fun y hy => ?_
  · unfold shB
    rw [if_neg (by rw [sort_mk]; omega), if_pos (by rw [sort_mk]; exact hs)]
    simp [kkids_mk, names_mk]
  · rw [kkids_mk, List.mem_singleton] at hy
    rw [hy]; exact h
theorem okD_leaf {s : Int} (h : s = 1 ∨ s = 2 ∨ s = 3) : okD (.mk s [] []) = true := by
  refine okD_mk ?_ fun y hy => by simp [kkids_mk] at hy
  unfold shB
  rw [if_pos (by rw [sort_mk]; exact h)]
  simp [kkids_mk, names_mk]
theorem okD_form {U : List ByteArray} {ks : List Kd} (hr : riseB U = true) (hl : ks.length = U.length) (h : ∀ x, x ∈ ks → okD x = true) : okD (.mk 5 U ks) = true := by
  refine okD_mk ?_ fun y hy => h y hy
  unfold shB
  rw [if_neg (by rw [sort_mk]; omega), if_neg (by rw [sort_mk]; omega), if_pos (by rw [sort_mk]), kkids_mk, names_mk, hr, hl]
  simp
theorem okD_lone {k : Kd} (h : okD k = true) : okD (loneK k) = true := by
  unfold loneK
  split
  · exact h
  · exact okD_one (Or.inr rfl) h
theorem lone_sort (k : Kd) : (loneK k).sort = 6 := by
  unfold loneK
  split
  · assumption
  · rfl
/-- Names that rise, one by one. -/
theorem rise_iff {ns : List ByteArray} : riseB ns = true ↔ ns.Pairwise nlt ∧ ∀ x, x ∈ ns → nameOkB x = true := by
  constructor
  · intro h
    refine ⟨rise_pairs h, fun x hx => ?_⟩
    obtain ⟨i, hi, rfl⟩ := List.mem_iff_getElem.1 hx
    unfold riseB at h
    rw [List.all_eq_true] at h
    have := h i (List.mem_range.2 hi)
    unfold good at this
    rw [Bool.and_eq_true, getD_lt _ _ hi] at this
    exact this.1
  · rintro ⟨h1, h2⟩
    refine rise_yes fun i hi => ?_
    unfold good
    rw [getD_lt _ _ hi, h2 _ (List.getElem_mem hi), Bool.true_and]
    by_cases h0 : i = 0
    · rw [decide_eq_true h0]; rfl
    · rw [getD_lt _ _ (show i - 1 < ns.length by omega)]
      have := List.pairwise_iff_getElem.1 h1 (i - 1) i (by omega) hi (by omega)
      unfold nlt at this
      rw [this, Bool.or_true]
theorem rise_uni {a b : List ByteArray} (ha : riseB a = true) (hb : riseB b = true) : riseB (uniN a b) = true :=
  rise_iff.2 ⟨uniN_rise _ _, fun x hx => by
    rcases (uniN_mem x).1 hx with h | h
    · exact (rise_iff.1 ha).2 x h
    · exact (rise_iff.1 hb).2 x h⟩
theorem mb_pos (k : Kd) : 0 < (mbK k).kids.length := Nat.zero_lt_one
theorem li_pos (k : Kd) : 0 < (liK k).kids.length := Nat.zero_lt_one
theorem fit_up {m : Nat} {k : Kd} (h : okD k = true) (hm : ksz (loneK k) ≤ m) : fitF m k (loneK k) = true := by
  unfold loneK at *
  split at hm
  · next h6 => rw [if_pos h6]; exact fit_refl m k h hm
  · next h6 =>
    rw [if_neg h6]
    obtain ⟨m, rfl⟩ : ∃ q, m = q + 1 := ⟨m - 1, by have := ksz_pos (mbK k); omega⟩
    have hk := mb_pos k
    rw [fit_xm rfl h6 hk]
    exact fit_refl m k h (by have := ksz_kid (k := k) (t := mbK k) (by simp [mbK, kkids_mk]); omega)
theorem fit_lone {m : Nat} {k c : Kd} (hc : okD c = true) (h6 : c.sort = 6) (hf : fitF m k c = true) : fitF m (loneK k) c = true := by
  unfold loneK
  split
  · exact hf
  · next hk =>
    cases m with
    | zero => cases hf
    | succ m =>
      have h0 : 0 < c.kids.length := by rcases okD_sh hc with h | h | h <;> omega
      rw [fit_xm h6 hk h0] at hf
      rw [fit_mm h6 rfl (mb_pos k) h0]
      exact hf
/-- A form's kids by its names. -/
theorem kidZ_map {U : List ByteArray} {f : ByteArray → Kd} {nm : ByteArray} (hr : U.Pairwise nlt) (h : nm ∈ U) : kidZ (.mk 5 U (U.map f)) nm = f nm := by
  obtain ⟨i, hi, rfl⟩ := List.mem_iff_getElem.1 h
  refine (kidZ_at (k := .mk 5 U (U.map f)) (x := U[i]) (i := i) hr (by simp [kkids_mk, names_mk]) hi rfl).trans ?_
  simp [kkids_mk]
theorem ksz_map {U : List ByteArray} {f : ByteArray → Kd} {nm : ByteArray} (h : nm ∈ U) : ksz (f nm) < ksz (.mk 5 U (U.map f)) := ksz_kid (by rw [kkids_mk]; exact List.mem_map_of_mem h)
theorem kidZ_out {k : Kd} {nm : ByteArray} (h : nm ∉ k.names) : (kidZ k nm).sort = 0 := by rw [kidZ_none h]; rfl
theorem kidZ_ne {k : Kd} {nm : ByteArray} (h : okD k = true) (h5 : k.sort = 5) (hm : nm ∈ k.names) : (kidZ k nm).sort ≠ 0 := okD_ne (kidZ_ok h h5 hm).1
/-- A form into one with more names, name by name. -/
theorem fit_into {m : Nat} {a : Kd} {U : List ByteArray} {f : ByteArray → Kd} (ha : okD a = true) (h5 : a.sort = 5) (hx : okD (.mk 5 U (U.map f)) = true) (hr : U.Pairwise nlt) (hs : ∀ nm, nm ∈ a.names → nm ∈ U) (h : ∀ nm, nm ∈ U → pF m (kidZ a nm) (f nm) = true) : fitF (m + 1) a (.mk 5 U (U.map f)) = true := by
  obtain ⟨hla, hra⟩ := rise_names ha h5
  obtain ⟨hlx, hrx⟩ := rise_names hx rfl
  rw [fit_union h5 rfl hla hlx (rise_nodup hra) (rise_nodup hrx) (fun k hk => okD_ne (okD_mem ha hk)) (fun k hk => okD_ne (okD_mem hx hk)) U (fun nm => ⟨fun h => Or.inr h, fun h => by rcases h with h | h; exact hs nm h; exact h⟩), List.all_eq_true]
  intro nm hm
  rw [kidZ_map hr hm]
  exact h nm hm
theorem pF_zero {m : Nat} {a b : Kd} (h : a.sort = 0) (h6 : b.sort = 6) : pF m a b = true := by unfold pF; rw [if_pos h]; exact decide_eq_true h6
theorem pF_two {m : Nat} {a b : Kd} (h : a.sort ≠ 0) (h2 : b.sort ≠ 0) : pF m a b = fitF m a b := by unfold pF; rw [if_neg h, if_neg h2]
/-- What two schemas join to is ok, and both fit into it. -/
theorem jn_up : ∀ (n : Nat) (a b x : Kd), okD a = true → okD b = true → jnP n a b = some x → okD x = true ∧ ∀ m, ksz x ≤ m → fitF m a x = true ∧ fitF m b x = true
  | 0, _, _, _, _, _, h => by cases h
  | n + 1, a, b, x, hoa, hob, h => by
    have sa := okD_sh hoa
    have sb := okD_sh hob
    have na := okD_ne hoa
    have nb := okD_ne hob
    by_cases h6 : a.sort = 6 ∨ b.sort = 6
    · rw [jn_mb na nb h6, Option.map_eq_some_iff] at h
      obtain ⟨y, hy, rfl⟩ := h
      have oa : okD (bareK a) = true := by
        by_cases g : a.sort = 6
        · have h0 : 0 < a.kids.length := by rcases sa with h | h | h <;> omega
          rw [bare_mb g h0]; exact okD_kid hoa 0 h0
        · rw [bare_no g]; exact hoa
      have ob : okD (bareK b) = true := by
        by_cases g : b.sort = 6
        · have h0 : 0 < b.kids.length := by rcases sb with h | h | h <;> omega
          rw [bare_mb g h0]; exact okD_kid hob 0 h0
        · rw [bare_no g]; exact hob
      obtain ⟨h1, h2⟩ := jn_up n _ _ y oa ob hy
      refine ⟨okD_one (Or.inr rfl) h1, fun m hm => ?_⟩
      have hz := ksz_kid (k := y) (t := mbK y) (by simp [mbK, kkids_mk])
      obtain ⟨m, rfl⟩ : ∃ q, m = q + 1 := ⟨m - 1, by omega⟩
      obtain ⟨h3, h4⟩ := h2 m (by omega)
      have hk := mb_pos y
      constructor
      · by_cases g : a.sort = 6
        · have h0 : 0 < a.kids.length := by rcases sa with h | h | h <;> omega
          rw [bare_mb g h0] at h3
          rw [fit_mm rfl g h0 hk]; exact h3
        · rw [bare_no g] at h3
          rw [fit_xm rfl g hk]; exact h3
      · by_cases g : b.sort = 6
        · have h0 : 0 < b.kids.length := by rcases sb with h | h | h <;> omega
          rw [bare_mb g h0] at h4
          rw [fit_mm rfl g h0 hk]; exact h4
        · rw [bare_no g] at h4
          rw [fit_xm rfl g hk]; exact h4
    by_cases hne : a.sort = b.sort
    · by_cases h4 : a.sort = 4
      · have ha0 : 0 < a.kids.length := by rcases sa with h | h | h <;> omega
        have hb0 : 0 < b.kids.length := by rcases sb with h | h | h <;> omega
        rw [jn_li h4 (by omega) ha0 hb0, Option.map_eq_some_iff] at h
        obtain ⟨y, hy, rfl⟩ := h
        obtain ⟨h1, h2⟩ := jn_up n _ _ y (okD_kid hoa 0 ha0) (okD_kid hob 0 hb0) hy
        refine ⟨okD_one (Or.inl rfl) h1, fun m hm => ?_⟩
        have hz := ksz_kid (k := y) (t := liK y) (by simp [liK, kkids_mk])
        obtain ⟨m, rfl⟩ : ∃ q, m = q + 1 := ⟨m - 1, by omega⟩
        obtain ⟨h3, h5⟩ := h2 m (by omega)
        have hk := li_pos y
        rw [fit_ll rfl h4 ha0 hk, fit_ll rfl (show b.sort = 4 by omega) hb0 hk]
        exact ⟨h3, h5⟩
      by_cases h5 : a.sort = 5
      · rw [jn_fm h5 (by omega)] at h
        split at h
        · next hall =>
          rw [List.all_eq_true] at hall
          have hx := (Option.some.inj h).symm
          subst hx
          obtain ⟨hla, hra⟩ := rise_names hoa h5
          obtain ⟨hlb, hrb⟩ := rise_names hob (by omega)
          have key : ∀ nm, nm ∈ uniN a.names b.names → okD ((jnP n (kidZ a nm) (kidZ b nm)).getD kd0) = true ∧ ∀ m, ksz ((jnP n (kidZ a nm) (kidZ b nm)).getD kd0) ≤ m → pF m (kidZ a nm) ((jnP n (kidZ a nm) (kidZ b nm)).getD kd0) = true ∧ pF m (kidZ b nm) ((jnP n (kidZ a nm) (kidZ b nm)).getD kd0) = true := fun nm hm => by
            have hs := hall nm hm
            obtain ⟨y, hy⟩ := Option.isSome_iff_exists.1 hs
            rw [hy, Option.getD_some]
            cases n with
            | zero => cases hy
            | succ n =>
              by_cases ma : nm ∈ a.names
              · have oka := (kidZ_ok hoa h5 ma).1
                by_cases mb : nm ∈ b.names
                · have okb := (kidZ_ok hob (by omega) mb).1
                  obtain ⟨k1, k2⟩ := jn_up (n + 1) _ _ y oka okb hy
                  refine ⟨k1, fun m hm => ?_⟩
                  rw [pF_two (okD_ne oka) (okD_ne k1), pF_two (okD_ne okb) (okD_ne k1)]
                  exact k2 m hm
                · rw [jn_a0 (okD_ne oka) (kidZ_out mb)] at hy
                  obtain rfl := Option.some.inj hy
                  refine ⟨okD_lone oka, fun m hm => ?_⟩
                  rw [pF_two (okD_ne oka) (okD_ne (okD_lone oka))]
                  exact ⟨fit_up oka hm, pF_zero (kidZ_out mb) (lone_sort _)⟩
              · have mb : nm ∈ b.names := ((uniN_mem nm).1 hm).resolve_left ma
                have okb := (kidZ_ok hob (by omega) mb).1
                rw [jn_0b (kidZ_out ma) (okD_ne okb)] at hy
                obtain rfl := Option.some.inj hy
                refine ⟨okD_lone okb, fun m hm => ?_⟩
                rw [pF_two (okD_ne okb) (okD_ne (okD_lone okb))]
                exact ⟨pF_zero (kidZ_out ma) (lone_sort _), fit_up okb hm⟩
          have hok : okD (.mk 5 (uniN a.names b.names) ((uniN a.names b.names).map fun nm => (jnP n (kidZ a nm) (kidZ b nm)).getD kd0)) = true := okD_form (rise_uni hra hrb) (by simp) fun y hy => by
            obtain ⟨nm, hm, rfl⟩ := List.mem_map.1 hy
            exact (key nm hm).1
          refine ⟨hok, fun m hm => ?_⟩
          obtain ⟨m, rfl⟩ : ∃ q, m = q + 1 := ⟨m - 1, by have := ksz_pos (.mk 5 (uniN a.names b.names) ((uniN a.names b.names).map fun nm => (jnP n (kidZ a nm) (kidZ b nm)).getD kd0)); omega⟩
          have hz : ∀ nm, nm ∈ uniN a.names b.names → ksz ((jnP n (kidZ a nm) (kidZ b nm)).getD kd0) ≤ m := fun nm h => by
            have := ksz_map (f := fun nm => (jnP n (kidZ a nm) (kidZ b nm)).getD kd0) h
            omega
          exact ⟨fit_into hoa h5 hok (uniN_rise _ _) (fun nm h => (uniN_mem nm).2 (Or.inl h)) (fun nm h => ((key nm h).2 m (hz nm h)).1), fit_into hob (by omega) hok (uniN_rise _ _) (fun nm h => (uniN_mem nm).2 (Or.inr h)) (fun nm h => ((key nm h).2 m (hz nm h)).2)⟩
        · cases h
      · have h1 : a.sort = 1 ∨ a.sort = 2 ∨ a.sort = 3 := by rcases sa with h | h | h <;> omega
        rw [jn_lf h1 hne] at h
        obtain rfl := Option.some.inj h
        refine ⟨okD_leaf h1, fun m hm => ?_⟩
        have hp := ksz_pos (.mk a.sort [] [])
        obtain ⟨m, rfl⟩ : ∃ q, m = q + 1 := ⟨m - 1, by omega⟩
        have z : (0 : Nat) = ([] : List ByteArray).length := rfl
        have za : a.kids.length = 0 ∧ a.names.length = 0 := by rcases sa with h | h | h <;> omega
        have zb : b.kids.length = 0 ∧ b.names.length = 0 := by rcases sb with h | h | h <;> omega
        constructor
        · exact fit_yes (n := m) (b := .mk a.sort [] []) (by rw [sort_mk]; omega) rfl h4 (by omega) rfl (fun i hi => by omega) (fun i hi => by simp [names_mk] at hi)
        · exact fit_yes (n := m) (b := .mk a.sort [] []) (by rw [sort_mk]; omega) hne.symm (by omega) (by omega) rfl (fun i hi => by omega) (fun i hi => by simp [names_mk] at hi)
    · rw [jn_ne na nb (by omega) (by omega) hne] at h
      cases h
theorem ksz_eq (t : Kd) : ksz t = 1 + klsz t.kids := by obtain ⟨s, ns, ks⟩ := t; rw [ksz]; rfl
theorem kids_map {k : Kd} (h : okD k = true) (h5 : k.sort = 5) : k.kids = k.names.map (kidZ k) := by
  obtain ⟨hl, hr⟩ := rise_names h h5
  refine List.ext_getElem (by simp [hl]) fun i h1 h2 => ?_
  rw [List.getElem_map]
  exact (kidZ_at (rise_pairs hr) hl (by rw [← hl]; exact h1) rfl).symm
end Go.Proofs.YtenpghndgdemnaaGreatDoor

/- What two schemas join to is not great. No program, no conditions. -/

namespace Go.Proofs.YtenpghndgdemnaaGreatDoor
open Go Go.RowKit

/-- The size of a schema, none for nothing. -/
def kz (k : Kd) : Nat := if k.sort = 0 then 0 else ksz k
theorem kz_zero {k : Kd} (h : k.sort = 0) : kz k = 0 := if_pos h
theorem kz_ne {k : Kd} (h : k.sort ≠ 0) : kz k = ksz k := if_neg h
theorem klsz_map (g : ByteArray → Kd) : ∀ U : List ByteArray, klsz (U.map g) = (U.map fun nm => ksz (g nm)).sum
  | [] => by simp [klsz]
  | a :: r => by rw [List.map_cons, klsz, klsz_map g r, List.map_cons, List.sum_cons]
theorem sum_sup (f : ByteArray → Nat) : ∀ {A U : List ByteArray}, A.Sublist U → U.Nodup → (∀ x, x ∈ U → x ∉ A → f x = 0) → (U.map f).sum = (A.map f).sum
  | _, _, .slnil, _, _ => rfl
  | A, _, .cons (l₂ := U) a h, hn, hz => by
    have h1 := List.nodup_cons.1 hn
    have ha : a ∉ A := fun hm => h1.1 (h.subset hm)
    rw [List.map_cons, List.sum_cons, hz a (by simp) ha, Nat.zero_add]
    exact sum_sup f h h1.2 fun x hx hx2 => hz x (by simp [hx]) hx2
  | _, _, .cons_cons (l₁ := A) (l₂ := U) a h, hn, hz => by
    have h1 := List.nodup_cons.1 hn
    rw [List.map_cons, List.sum_cons, List.map_cons, List.sum_cons, sum_sup f h h1.2 fun x hx hx2 => hz x (by simp [hx]) (fun hm => by
      rcases List.mem_cons.1 hm with rfl | hm
      · exact h1.1 hx
      · exact hx2 hm)]
theorem sum_le (f g : ByteArray → Nat) : ∀ U : List ByteArray, (∀ x, x ∈ U → f x ≤ g x) → (U.map f).sum ≤ (U.map g).sum
  | [], _ => Nat.le_refl _
  | a :: r, h => by
    rw [List.map_cons, List.sum_cons, List.map_cons, List.sum_cons]
    have h1 := h a (by simp)
    have h2 := sum_le f g r fun x hx => h x (by simp [hx])
    omega
theorem sum_two (f g : ByteArray → Nat) : ∀ U : List ByteArray, (U.map fun x => 2 * (f x + g x)).sum = 2 * ((U.map f).sum + (U.map g).sum)
  | [] => rfl
  | a :: r => by
    simp only [List.map_cons, List.sum_cons]
    rw [sum_two f g r]
    omega
theorem nodup_uni (a b : List ByteArray) : (uniN a b).Nodup := (uniN_rise a b).imp (fun {a b} hab e => by subst e; exact nlt_irrefl _ hab)
/-- The kids of a form, counted over more names. -/
theorem kz_names {a : Kd} (h : okD a = true) (h5 : a.sort = 5) {U : List ByteArray} (hU : U.Nodup) (hr : U.Pairwise nlt) (hs : ∀ x, x ∈ a.names → x ∈ U) : (U.map fun nm => kz (kidZ a nm)).sum = klsz a.kids := by
  obtain ⟨hl, hra⟩ := rise_names h h5
  rw [sum_sup (fun nm => kz (kidZ a nm)) (rise_sub _ _ hr (rise_pairs hra) hs) hU fun x _ hx => kz_zero (kidZ_out hx)]
  rw [kids_map h h5, klsz_map]
  refine congrArg List.sum (List.map_congr_left fun nm hm => ?_)
  exact kz_ne (kidZ_ne h h5 hm)
theorem jn_size : ∀ (n : Nat) (a b x : Kd), (a.sort = 0 ∨ okD a = true) → (b.sort = 0 ∨ okD b = true) → jnP n a b = some x → ksz x ≤ 2 * (kz a + kz b)
  | 0, _, _, _, _, _, h => by cases h
  | n + 1, a, b, x, ha, hb, h => by
    have lone : ∀ k : Kd, okD k = true → ksz (loneK k) ≤ 2 * ksz k := fun k hk => by
      have := ksz_pos k
      unfold loneK
      split
      · omega
      · rw [mbK, ksz, klsz, klsz]; omega
    by_cases na : a.sort = 0
    · by_cases nb : b.sort = 0
      · rw [jn_00 na nb] at h; cases h
      · rw [jn_0b na nb] at h
        obtain rfl := Option.some.inj h
        have := lone b (hb.resolve_left nb)
        rw [kz_zero na, kz_ne nb]; omega
    have hoa := ha.resolve_left na
    by_cases nb : b.sort = 0
    · rw [jn_a0 na nb] at h
      obtain rfl := Option.some.inj h
      have := lone a hoa
      rw [kz_ne na, kz_zero nb]; omega
    have hob := hb.resolve_left nb
    have sa := okD_sh hoa
    have sb := okD_sh hob
    rw [kz_ne na, kz_ne nb]
    by_cases h6 : a.sort = 6 ∨ b.sort = 6
    · rw [jn_mb na nb h6, Option.map_eq_some_iff] at h
      obtain ⟨y, hy, rfl⟩ := h
      have ba : okD (bareK a) = true ∧ ksz (bareK a) ≤ ksz a ∧ (a.sort = 6 → ksz (bareK a) < ksz a) := by
        by_cases g : a.sort = 6
        · have h0 : 0 < a.kids.length := by rcases sa with h | h | h <;> omega
          have hz := ksz_kid (List.getElem_mem h0)
          rw [bare_mb g h0]
          exact ⟨okD_kid hoa 0 h0, by omega, fun _ => hz⟩
        · rw [bare_no g]; exact ⟨hoa, Nat.le_refl _, fun h => absurd h g⟩
      have bb : okD (bareK b) = true ∧ ksz (bareK b) ≤ ksz b ∧ (b.sort = 6 → ksz (bareK b) < ksz b) := by
        by_cases g : b.sort = 6
        · have h0 : 0 < b.kids.length := by rcases sb with h | h | h <;> omega
          have hz := ksz_kid (List.getElem_mem h0)
          rw [bare_mb g h0]
          exact ⟨okD_kid hob 0 h0, by omega, fun _ => hz⟩
        · rw [bare_no g]; exact ⟨hob, Nat.le_refl _, fun h => absurd h g⟩
      have := jn_size n _ _ y (Or.inr ba.1) (Or.inr bb.1) hy
      rw [kz_ne (okD_ne ba.1), kz_ne (okD_ne bb.1)] at this
      rw [mbK, ksz, klsz, klsz]
      have h1 := ba.2; have h2 := bb.2
      rcases h6 with h6 | h6
      · have := h1.2 h6; omega
      · have := h2.2 h6; omega
    by_cases hne : a.sort = b.sort
    · by_cases h4 : a.sort = 4
      · have ha0 : 0 < a.kids.length := by rcases sa with h | h | h <;> omega
        have hb0 : 0 < b.kids.length := by rcases sb with h | h | h <;> omega
        have hza := ksz_kid (List.getElem_mem ha0)
        have hzb := ksz_kid (List.getElem_mem hb0)
        rw [jn_li h4 (by omega) ha0 hb0, Option.map_eq_some_iff] at h
        obtain ⟨y, hy, rfl⟩ := h
        have oa := okD_kid hoa 0 ha0
        have ob := okD_kid hob 0 hb0
        have := jn_size n _ _ y (Or.inr oa) (Or.inr ob) hy
        rw [kz_ne (okD_ne oa), kz_ne (okD_ne ob)] at this
        rw [liK, ksz, klsz, klsz]
        omega
      by_cases h5 : a.sort = 5
      · rw [jn_fm h5 (by omega)] at h
        split at h
        · next hall =>
          rw [List.all_eq_true] at hall
          obtain rfl := (Option.some.inj h).symm
          have key : ∀ nm, nm ∈ uniN a.names b.names → ksz ((jnP n (kidZ a nm) (kidZ b nm)).getD kd0) ≤ 2 * (kz (kidZ a nm) + kz (kidZ b nm)) := fun nm hm => by
            obtain ⟨y, hy⟩ := Option.isSome_iff_exists.1 (hall nm hm)
            rw [hy, Option.getD_some]
            refine jn_size n _ _ y ?_ ?_ hy
            · by_cases ma : nm ∈ a.names
              · exact Or.inr (kidZ_ok hoa h5 ma).1
              · exact Or.inl (kidZ_out ma)
            · by_cases mb : nm ∈ b.names
              · exact Or.inr (kidZ_ok hob (by omega) mb).1
              · exact Or.inl (kidZ_out mb)
          have hs := sum_le _ _ _ key
          rw [sum_two, kz_names hoa h5 (nodup_uni _ _) (uniN_rise _ _) (fun x hx => (uniN_mem x).2 (Or.inl hx)), kz_names hob (by omega) (nodup_uni _ _) (uniN_rise _ _) (fun x hx => (uniN_mem x).2 (Or.inr hx))] at hs
          rw [ksz, klsz_map, ksz_eq a, ksz_eq b]
          omega
        · cases h
      · have h1 : a.sort = 1 ∨ a.sort = 2 ∨ a.sort = 3 := by rcases sa with h | h | h <;> omega
        rw [jn_lf h1 hne] at h
        obtain rfl := Option.some.inj h
        have := ksz_pos a
        rw [ksz, klsz]; omega
    · rw [jn_ne na nb (by omega) (by omega) hne] at h
      cases h
theorem wS_ok : ∀ {ns : List ByteArray}, (∀ x, x ∈ ns → x.size ≤ 8) → wS ns ≤ 9 * ns.length
  | [], _ => by simp [wS]
  | a :: r, h => by
    rw [wS, List.length_cons]
    have h1 := h a (by simp)
    have h2 := wS_ok (ns := r) fun x hx => h x (by simp [hx])
    omega
mutual
/-- The weight of a schema that is ok. -/
theorem wKd_ok : ∀ k : Kd, okD k = true → wKd k + 10 ≤ 10 * ksz k
  | .mk s ns ks, h => by
    have sh := okD_sh h
    rw [okD, Bool.and_eq_true] at h
    have h2 := wKs_ok ks h.2
    rw [wKd, ksz]
    simp only [sort_mk, names_mk, kkids_mk] at sh
    have h3 : wS ns ≤ 9 * ks.length := by
      rcases sh with h' | h' | h'
      · have : ns = [] := List.eq_nil_of_length_eq_zero h'.2.2
        rw [this]; simp [wS]
      · have : ns = [] := List.eq_nil_of_length_eq_zero h'.2.2
        rw [this]; simp [wS]
      · rw [h'.2.1]
        exact wS_ok fun x hx => name_size ((rise_iff.1 h'.2.2).2 x hx)
    omega
theorem wKs_ok : ∀ ks : List Kd, okDs ks = true → wKs ks + 9 * ks.length ≤ 10 * klsz ks
  | [], _ => by simp [wKs, klsz]
  | t :: r, h => by
    rw [okDs, Bool.and_eq_true] at h
    have h1 := wKd_ok t h.1
    have h2 := wKs_ok r h.2
    rw [wKs, klsz, List.length_cons]
    omega
end
/-- What two schemas that are ok join to is light. -/
theorem jn_light {a b x : Kd} {n : Nat} (ha : 0 < qT a 1) (hb : 0 < qT b 1) (h : jnP n a b = some x) : wKd x ≤ 2000 := by
  have oa := ok_of_qT ha
  have ob := ok_of_qT hb
  have h1 := jn_size n a b x (Or.inr oa.1) (Or.inr ob.1) h
  rw [kz_ne (okD_ne oa.1), kz_ne (okD_ne ob.1)] at h1
  have h2 := wKd_ok x (jn_up n a b x oa.1 ob.1 h).1
  omega
end Go.Proofs.YtenpghndgdemnaaGreatDoor

/- The program's ofForm at the table of widenings: its drawn region. Conditions: the fields are taken by their contract (a hypothesis). -/

namespace Go.Proofs.YtenpghndgdemnaaGreatDoor
open Go Go.RowKit

theorem row1_alloc (w : World) (v : Value) (t : TypeId) : (w.alloc (.cells #[v] t)).rowIs w.heap.size t 1 (fun _ => v) := World.rowIs_alloc w #[v] t (fun _ => v) (fun i hi => by
  have hi' : i < 1 := hi
  obtain rfl : i = 0 := by omega
  rfl)
end Go.Proofs.YtenpghndgdemnaaGreatDoor
