/- Claims (a schema with named kids, and a tree) in a row of cells. Definitions and small laws; no program walked, no conditions. -/
import Derived.Test.YtfjiannabnonjaaDoorWKidFor
namespace Go.Proofs.YtfjiannabnonjaaDoor
open Go Go.RowKit Go.Maps

def d5l (d : C5) : List Value := [d.c0, d.c1, d.c2, d.c3, d.c4]
def c9l (c : C4) (d : C5) : List Value := c4l c ++ d5l d
/-- The claims on a tree's kids. -/
def clm (K : Kd) : List Tr → Nat → List (Kd × Tr)
  | [], _ => []
  | t :: r, i => (kidOf K i, t) :: clm K r (i + 1)
theorem clm_len (K : Kd) : ∀ (l : List Tr) (i : Nat), (clm K l i).length = l.length
  | [], _ => rfl
  | t :: r, i => by rw [clm, List.length_cons, clm_len K r, List.length_cons]
theorem clm_snoc (K : Kd) (t : Tr) : ∀ (l : List Tr) (i : Nat), clm K (l ++ [t]) i = clm K l i ++ [(kidOf K (i + l.length), t)]
  | [], i => by simp [clm]
  | a :: r, i => by
    rw [List.cons_append, clm, clm_snoc K t r (i + 1), clm, List.cons_append, List.length_cons, show i + 1 + r.length = i + (r.length + 1) from by omega]
theorem clm_take (K : Kd) (l : List Tr) (k : Nat) (h : k < l.length) : clm K (l.take (k + 1)) 0 = clm K (l.take k) 0 ++ [(kidOf K k, l[k])] := by
  rw [List.take_succ_eq_append_getElem h, clm_snoc]
  congr 4
  simp; omega

/-- Claims whose cells stand in a row. -/
def CRepL (P : Nat → Prop) (w : World) : List (Kd × Tr) → List Value → Prop
  | [], xs => xs = []
  | p :: r, xs => ∃ c d xs', xs = c9l c d ++ xs' ∧ NRep P w p.1 c ∧ Rep P w p.2 d ∧ CRepL P w r xs'
theorem CRepL.snoc {P : Nat → Prop} {w : World} {ps : List (Kd × Tr)} {xs : List Value} {k : Kd} {t : Tr} {c : C4} {d : C5} (h : CRepL P w ps xs) (hk : NRep P w k c) (ht : Rep P w t d) : CRepL P w (ps ++ [(k, t)]) (xs ++ c9l c d) := by
  induction ps generalizing xs with
  | nil =>
    have h' : xs = [] := h
    subst h'
    exact ⟨c, d, [], by simp, hk, ht, rfl⟩
  | cons a r ih =>
    obtain ⟨c', d', xs', rfl, h1, h2, h3⟩ := h
    exact ⟨c', d', xs' ++ c9l c d, by simp, h1, h2, ih h3⟩
theorem CRepL.carry {P Q : Nat → Prop} {w w' : World} {ps : List (Kd × Tr)} {xs : List Value} (h : CRepL P w ps xs) (hP : ∀ b, P b → w'.heap[b]? = w.heap[b]?) (hQ : ∀ b, P b → Q b) : CRepL Q w' ps xs := by
  induction ps generalizing xs with
  | nil => exact h
  | cons a r ih =>
    obtain ⟨c', d', xs', rfl, h1, h2, h3⟩ := h
    exact ⟨c', d', xs', rfl, NRep.carry hP hQ _ _ h1, Rep.carry hP hQ _ _ h2, ih h3⟩
/-- Claim i of a row. -/
theorem CRepL.get {P : Nat → Prop} {w : World} {g : Nat} {ps : List (Kd × Tr)} {xs : List Value} {o : Nat} (h : CRepL P w ps xs) (hc : ∀ j u, xs[j]? = some u → w.cell? ⟨g, o + j, none⟩ = some u) (i : Nat) (hi : i < ps.length) :
    ∃ c d, C4.at w g (o + i * 9) c ∧ C5.at w g (o + i * 9 + 4) d ∧ NRep P w ps[i].1 c ∧ Rep P w ps[i].2 d := by
  induction ps generalizing xs o i with
  | nil => simp at hi
  | cons a r ih =>
    obtain ⟨c', d', xs', rfl, h1, h2, h3⟩ := h
    match i with
    | 0 =>
      refine ⟨c', d', ?_, ?_, h1, h2⟩
      · rw [Nat.zero_mul, Nat.add_zero]; exact ⟨hc 0 _ rfl, hc 1 _ rfl, hc 2 _ rfl, hc 3 _ rfl⟩
      · rw [Nat.zero_mul, Nat.add_zero]; exact ⟨hc 4 _ rfl, hc 5 _ rfl, hc 6 _ rfl, hc 7 _ rfl, hc 8 _ rfl⟩
    | i + 1 =>
      obtain ⟨c, d, q1, q2, q3, q4⟩ := ih (o := o + 9) h3 (fun j u hj => by
        have := hc (9 + j) u (by
          rw [List.getElem?_append_right (by simp [c9l, c4l, d5l]), show 9 + j - (c9l c' d').length = j from by simp [c9l, c4l, d5l]]; exact hj)
        rw [show o + 9 + j = o + (9 + j) from by omega]; exact this) i (by simpa using hi)
      exact ⟨c, d, by rw [show o + (i + 1) * 9 = o + 9 + i * 9 from by omega]; exact q1, by rw [show o + (i + 1) * 9 + 4 = o + 9 + i * 9 + 4 from by omega]; exact q2, q3, q4⟩
theorem cell_nine (w : World) (c : C4) (d : C5) (t : TypeId) : ∀ j u, (c9l c d)[j]? = some u → (w.alloc (.cells #[c.c0, c.c1, c.c2, c.c3, d.c0, d.c1, d.c2, d.c3, d.c4] t)).cell? ((⟨w.heap.size, 0, none⟩ : Addr).add j) = some u := by
  intro j u hj
  have hrow := row9_alloc w c d t
  rw [Addr.add_lit, Nat.zero_add]
  match j with
  | 0 => rw [hrow.cell (by omega)]; exact hj
  | 1 => rw [hrow.cell (by omega)]; exact hj
  | 2 => rw [hrow.cell (by omega)]; exact hj
  | 3 => rw [hrow.cell (by omega)]; exact hj
  | 4 => rw [hrow.cell (by omega)]; exact hj
  | 5 => rw [hrow.cell (by omega)]; exact hj
  | 6 => rw [hrow.cell (by omega)]; exact hj
  | 7 => rw [hrow.cell (by omega)]; exact hj
  | 8 => rw [hrow.cell (by omega)]; exact hj
  | j + 9 => simp [c9l, c4l, d5l] at hj
end Go.Proofs.YtfjiannabnonjaaDoor
