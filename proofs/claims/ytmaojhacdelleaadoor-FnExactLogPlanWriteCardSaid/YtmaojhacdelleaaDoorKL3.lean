/- Rows of schemas that share their memory: what is read of kids, laid in a new row, one kid put in another's place. No program walked; no conditions. -/
import Derived.Test.YtmaojhacdelleaaDoorKOwn
namespace Go.Proofs.YtmaojhacdelleaaDoor
open Go Go.RowKit

/-- The cells of a row are those of schemas. -/
def KL3 (P : Nat → Prop) (w : World) (ks : List Kd) (xs : List Value) : Prop :=
  xs.length = ks.length * 3 ∧ ∀ i, (hi : i < ks.length) → ∃ c : C3, xs[i * 3]? = some c.c0 ∧ xs[i * 3 + 1]? = some c.c1 ∧ xs[i * 3 + 2]? = some c.c2 ∧ KRep P w ks[i] c

theorem KL3.carry {P Q : Nat → Prop} {w w' : World} {ks : List Kd} {xs : List Value} (h : KL3 P w ks xs) (hP : ∀ b, P b → w'.heap[b]? = w.heap[b]?) (hQ : ∀ b, P b → Q b) : KL3 Q w' ks xs :=
  ⟨h.1, fun i hi => by obtain ⟨c, h1, h2, h3, h4⟩ := h.2 i hi; exact ⟨c, h1, h2, h3, KRep.carry hP hQ _ _ h4⟩⟩

theorem KL3.of {P : Nat → Prop} {w : World} {b : Nat} : ∀ (ks : List Kd) (o : Nat), KRepK P w b o ks → ∃ xs, KL3 P w ks xs ∧ (∀ j u, xs[j]? = some u → w.cell? ⟨b, o + j, none⟩ = some u) ∧ ∀ u ∈ xs, u.oneCell' = true
  | [], o, _ => ⟨[], ⟨rfl, fun i hi => by simp at hi⟩, fun j u h => by simp at h, fun u h => by cases h⟩
  | t :: r, o, h => by
    rw [KRepK] at h
    obtain ⟨⟨c, ⟨a0, a1, a2⟩, hr⟩, h2⟩ := h
    obtain ⟨ys, ⟨hl, hy⟩, hc, h1c⟩ := KL3.of r (o + 3) h2
    obtain ⟨e0, -, ⟨a3, cap3, e1, -⟩, a4, cap4, e2, -⟩ := hr.open
    refine ⟨c.c0 :: c.c1 :: c.c2 :: ys, ⟨by simp [hl]; omega, fun i hi => ?_⟩, fun j u hj => ?_, fun u hu => ?_⟩
    · cases i with
      | zero => exact ⟨c, rfl, rfl, rfl, hr⟩
      | succ i =>
        obtain ⟨d, q0, q1, q2, q3⟩ := hy i (by simpa using hi)
        refine ⟨d, ?_, ?_, ?_, q3⟩
        · rw [show (i + 1) * 3 = i * 3 + 3 from by omega]; simpa using q0
        · rw [show (i + 1) * 3 + 1 = i * 3 + 1 + 3 from by omega]; simpa using q1
        · rw [show (i + 1) * 3 + 2 = i * 3 + 2 + 3 from by omega]; simpa using q2
    · match j with
      | 0 => simp at hj; subst hj; exact a0
      | 1 => simp at hj; subst hj; exact a1
      | 2 => simp at hj; subst hj; exact a2
      | j + 3 =>
        have := hc j u (by simpa using hj)
        rw [show o + (j + 3) = o + 3 + j from by omega]; exact this
    · rcases List.mem_cons.1 hu with rfl | hu
      · rw [e0]; rfl
      rcases List.mem_cons.1 hu with rfl | hu
      · rw [e1]; rfl
      rcases List.mem_cons.1 hu with rfl | hu
      · rw [e2]; rfl
      exact h1c u hu

theorem KL3.back {P : Nat → Prop} {w : World} {g : Nat} {ks : List Kd} {xs : List Value} (h : KL3 P w ks xs) (hc : ∀ j u, xs[j]? = some u → w.cell? ⟨g, j, none⟩ = some u) : KRepK P w g 0 ks :=
  KRepK.mk fun i hi => by
    obtain ⟨c, h1, h2, h3, h4⟩ := h.2 i hi
    exact ⟨c, ⟨by rw [Nat.zero_add]; exact hc _ _ h1, by rw [Nat.zero_add]; exact hc _ _ h2, by rw [Nat.zero_add]; exact hc _ _ h3⟩, h4⟩

/-- One more behind them. -/
theorem KL3.snoc {P : Nat → Prop} {w : World} {ks : List Kd} {xs : List Value} {k : Kd} {c : C3} (h : KL3 P w ks xs) (hk : KRep P w k c) : KL3 P w (ks ++ [k]) (xs ++ c3l c) := by
  obtain ⟨hl, h2⟩ := h
  refine ⟨by simp [hl, c3l]; omega, fun i hi => ?_⟩
  simp only [List.length_append, List.length_cons, List.length_nil] at hi
  by_cases e : i < ks.length
  · obtain ⟨d, q0, q1, q2, q3⟩ := h2 i e
    refine ⟨d, ?_, ?_, ?_, ?_⟩
    · rw [List.getElem?_append_left (by omega)]; exact q0
    · rw [List.getElem?_append_left (by omega)]; exact q1
    · rw [List.getElem?_append_left (by omega)]; exact q2
    · rw [List.getElem_append_left e]; exact q3
  · obtain rfl : i = ks.length := by omega
    refine ⟨c, ?_, ?_, ?_, ?_⟩
    · rw [List.getElem?_append_right (by omega), hl]; simp [c3l]
    · rw [List.getElem?_append_right (by omega), hl]; simp [c3l, show ks.length * 3 + 1 - ks.length * 3 = 1 from by omega]
    · rw [List.getElem?_append_right (by omega), hl]; simp [c3l, show ks.length * 3 + 2 - ks.length * 3 = 2 from by omega]
    · simpa using hk

/-- One in another's place. -/
theorem KL3.put {P : Nat → Prop} {w : World} {ks : List Kd} {xs : List Value} {k : Kd} {c : C3} {i : Nat} (h : KL3 P w ks xs) (hi : i < ks.length) (hk : KRep P w k c) : KL3 P w (ks.set i k) (((xs.set (i * 3) c.c0).set (i * 3 + 1) c.c1).set (i * 3 + 2) c.c2) := by
  obtain ⟨hl, h2⟩ := h
  refine ⟨by simp [hl], fun j hj => ?_⟩
  rw [List.length_set] at hj
  by_cases e : i = j
  · subst e
    refine ⟨c, ?_, ?_, ?_, by simpa using hk⟩
    · rw [List.getElem?_set_ne (by omega), List.getElem?_set_ne (by omega), List.getElem?_set_self (by omega)]
    · rw [List.getElem?_set_ne (by omega), List.getElem?_set_self (by simp; omega)]
    · rw [List.getElem?_set_self (by simp; omega)]
  · obtain ⟨d, q0, q1, q2, q3⟩ := h2 j hj
    refine ⟨d, ?_, ?_, ?_, by rw [List.getElem_set_ne e]; exact q3⟩
    · rw [List.getElem?_set_ne (by omega), List.getElem?_set_ne (by omega), List.getElem?_set_ne (by omega)]; exact q0
    · rw [List.getElem?_set_ne (by omega), List.getElem?_set_ne (by omega), List.getElem?_set_ne (by omega)]; exact q1
    · rw [List.getElem?_set_ne (by omega), List.getElem?_set_ne (by omega), List.getElem?_set_ne (by omega)]; exact q2

theorem wKs_set : ∀ (ks : List Kd) (i : Nat) (k : Kd) (hi : i < ks.length), wKs (ks.set i k) + wKd ks[i] = wKs ks + wKd k
  | a :: r, 0, k, _ => by simp [wKs]; omega
  | a :: r, i + 1, k, hi => by
    have := wKs_set r i k (by simpa using hi)
    simp only [List.set_cons_succ, wKs, List.getElem_cons_succ]; omega
theorem wKs_get : ∀ (ks : List Kd) (i : Nat) (hi : i < ks.length), wKd ks[i] + 1 ≤ wKs ks
  | a :: r, 0, _ => by simp [wKs]; omega
  | a :: r, i + 1, hi => by
    have := wKs_get r i (by simpa using hi)
    simp only [wKs, List.getElem_cons_succ]; omega
theorem ownsRow_put {w : World} {base : Nat} {e : TypeId} {size g n cap : Nat} {xs : List Value} (h : w.ownsRow base e size (.slice (some ⟨g, 0, none⟩) n cap) n xs) (j : Nat) (u : Value) : (w.setCell ⟨g, j, none⟩ u).ownsRow base e size (.slice (some ⟨g, 0, none⟩) n cap) n (xs.set j u) := by
  rcases h.2 with ⟨hv, _⟩ | ⟨g', cap', cur, hv, hb, hg, hnc, hcm, hcs, htk⟩
  · simp at hv
  · simp only [Value.slice.injEq, Option.some.injEq, Addr.mk.injEq, and_true, true_and] at hv
    obtain ⟨rfl, rfl⟩ := hv
    refine ⟨by rw [List.length_set]; exact h.1, Or.inr ⟨g, cap, cur.setIfInBounds j u, rfl, hb, ?_, hnc, hcm, by rw [Array.size_setIfInBounds]; exact hcs, ?_⟩⟩
    · simp [World.setCell, Array.getElem?_modify, hg]
    · rw [Array.toList_setIfInBounds, List.take_set, htk]

theorem ownsRow_free {w : World} {base : Nat} {e : TypeId} {size g n cap : Nat} {xs : List Value} (h : w.ownsRow base e size (.slice (some ⟨g, 0, none⟩) n cap) n xs) (j : Nat) : w.frozen? ⟨g, j, none⟩ = false := by
  rcases h.2 with ⟨hv, _⟩ | ⟨g', cap', cur, hv, hb, hg, _⟩
  · simp at hv
  · simp only [Value.slice.injEq, Option.some.injEq, Addr.mk.injEq, and_true, true_and] at hv
    obtain ⟨rfl, -⟩ := hv
    simp [World.frozen?, hg]

/-- An empty row of a call's own. -/
theorem empty_row {w : World} {g base : Nat} {e : TypeId} {size : Nat} {f : Nat → Value} (h : w.rowIs g e 0 f) (hb : base ≤ g) : w.ownsRow base e size (.slice (some ⟨g, 0, none⟩) 0 0) 0 [] := by
  obtain ⟨c, h1, h2, -⟩ := h
  exact ⟨by simp, Or.inr ⟨g, 0, c, rfl, hb, h1, Nat.le_refl _, by decide, by omega, by simp⟩⟩
end Go.Proofs.YtmaojhacdelleaaDoor
