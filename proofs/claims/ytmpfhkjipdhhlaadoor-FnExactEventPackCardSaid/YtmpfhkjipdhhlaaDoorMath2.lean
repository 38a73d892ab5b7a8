/- What the program's sorter does, as a plain function on data, and that it counts as the specification counts. No program, no conditions. -/
import Derived.Test.YtmpfhkjipdhhlaaDoorMath
namespace Go.Proofs.YtmpfhkjipdhhlaaDoor
open Go Go.RowKit

mutual
/-- The parts behind a tree, those ahead of it being p, at the level l; none, if a fault is raised. -/
def wlk : Tr → Int → Int → Option Int
  | .mk s n tx ns ks, p, l =>
    if p + 1 ≤ 120 ∧ l + 1 ≤ 6 then
      if ownB (.mk s n tx ns ks) = true then
        match wlkK ks (p + 1) (l + 1) with
        | none => none
        | some q => if newB (.mk s n tx ns ks) = true then some q else none
      else none
    else none
def wlkK : List Tr → Int → Int → Option Int
  | [], p, _ => some p
  | t :: r, p, l => match wlk t p l with
    | none => none
    | some q => wlkK r q l
end

theorem wlk_eq (t : Tr) (p l : Int) : wlk t p l = if p + 1 ≤ 120 ∧ l + 1 ≤ 6 then
      if ownB t = true then
        match wlkK t.kids (p + 1) (l + 1) with
        | none => none
        | some q => if newB t = true then some q else none
      else none
    else none := by
  obtain ⟨s, n, tx, ns, ks⟩ := t
  rw [wlk]; rfl

/-- What a count comes to, so much being ahead of it. -/
def onto (p k : Int) : Option Int := if k < 0 ∨ 120 < p + k then none else some (p + k)

mutual
theorem wlk_is : ∀ (t : Tr) (p l : Int), 0 ≤ p → p ≤ 120 → wlk t p l = onto p (pT t (l + 1))
  | .mk s n tx ns ks, p, l => by
    intro hp hp1
    rw [wlk, pT]
    by_cases h : p + 1 ≤ 120 ∧ l + 1 ≤ 6
    · rw [if_pos h]
      rw [alone_eq]
      by_cases ho : ownB (.mk s n tx ns ks) = true
      · rw [if_pos ho, ho, wlkK_is ks (p + 1) (l + 1) 1 (by omega) (by omega) (by omega)]
        have hbd := pK_bd ks (l + 1) 1 (by omega) (by omega)
        generalize pK ks (l + 1) 1 = r at hbd
        by_cases hn : newB (.mk s n tx ns ks) = true
        · rw [hn]
          simp only [Bool.and_self, Bool.true_eq_false, or_false]
          rw [if_neg (by omega)]
          unfold onto
          by_cases hx : r < 0 ∨ 120 < p + r
          · rw [if_pos (by omega), if_pos hx]
          · rw [if_neg (by omega), if_neg hx]
            simp
        · have hn' : newB (.mk s n tx ns ks) = false := by simpa using hn
          rw [hn']
          simp only [Bool.and_false, or_true, if_true]
          have : onto p (-1) = none := by unfold onto; rw [if_pos (by omega)]
          rw [this]
          unfold onto
          split <;> rfl
      · have ho' : ownB (.mk s n tx ns ks) = false := by simpa using ho
        rw [if_neg ho, ho']
        simp only [Bool.false_and, or_true, if_true]
        unfold onto; rw [if_pos (by omega)]
    · rw [if_neg h]
      unfold onto
      by_cases h6 : 6 < l + 1
      · rw [if_pos (Or.inl h6), if_pos (by omega)]
      · split
        · rw [if_pos (by omega)]
        · have hbd := pK_bd ks (l + 1) 1 (by omega) (by omega)
          rw [if_pos (by omega)]
theorem wlkK_is : ∀ (ks : List Tr) (p l n : Int), 1 ≤ n → n ≤ p → p ≤ 120 → wlkK ks p l = onto (p - n) (pK ks l n)
  | [], p, l, n => by
    intro h1 h2 h3
    rw [wlkK, pK]
    unfold onto
    rw [if_neg (by omega)]
    congr 1; omega
  | t :: r, p, l, n => by
    intro h1 h2 h3
    rw [wlkK, pK, wlk_is t p l (by omega) h3]
    have hbd := pT_bd t (l + 1)
    generalize pT t (l + 1) = k at hbd
    by_cases hx : k < 0 ∨ 120 < p + k
    · have : onto p k = none := by unfold onto; rw [if_pos hx]
      rw [this]
      simp only
      by_cases hy : k < 0 ∨ 120 < n + k
      · rw [if_pos hy]; unfold onto; rw [if_pos (by omega)]
      · rw [if_neg hy]
        have hbd2 := pK_bd r l (n + k) (by omega) (by omega)
        have hge := pK_ge r l (n + k)
        unfold onto; rw [if_pos (by omega)]
    · have : onto p k = some (p + k) := by unfold onto; rw [if_neg hx]
      rw [this]
      simp only
      rw [wlkK_is r (p + k) l (n + k) (by omega) (by omega) (by omega), if_neg (by omega), show p + k - (n + k) = p - n from by omega]
theorem pK_ge : ∀ (ks : List Tr) (l n : Int), pK ks l n = -1 ∨ n ≤ pK ks l n
  | [], l, n => by rw [pK]; exact Or.inr (Int.le_refl _)
  | t :: r, l, n => by
    rw [pK]
    split
    · exact Or.inl rfl
    · have := pK_ge r l (n + pT t (l + 1)); omega
end

/-- The sorter counts from the start as the specification counts. -/
theorem wlk_start (t : Tr) : wlk t 0 0 = if pT t 1 < 0 then none else some (pT t 1) := by
  rw [wlk_is t 0 0 (by omega) (by omega)]
  have hbd := pT_bd t 1
  unfold onto
  rw [show (0 : Int) + 1 = 1 from rfl]
  by_cases h : pT t 1 < 0
  · rw [if_pos (Or.inl h), if_pos h]
  · rw [if_neg (by omega), if_neg h]; simp

theorem wlk_bd (t : Tr) (p l q : Int) (hp : 0 ≤ p) (hp1 : p ≤ 120) (h : wlk t p l = some q) : p + 1 ≤ q ∧ q ≤ 120 := by
  rw [wlk_is t p l hp hp1] at h
  have hbd := pT_bd t (l + 1)
  unfold onto at h
  split at h
  · cases h
  · simp only [Option.some.injEq] at h; omega

theorem wlkK_step {ks : List Tr} {k : Nat} (hk : k < ks.length) (p l : Int) : wlkK (ks.drop k) p l = match wlk ks[k] p l with
    | none => none
    | some q => wlkK (ks.drop (k + 1)) q l := by
  rw [List.drop_eq_getElem_cons hk, wlkK]

end Go.Proofs.YtmpfhkjipdhhlaaDoor
