/- A schema whose kids are found by their names, as it lies in memory: four cells, the third a map. Definitions and small laws; no program walked, no conditions. -/
import Derived.Test.YtfjiannabnonjaaDoorWOrd
import Derived.Test.YtfjiannabnonjaaDoorRow
namespace Go.Proofs.YtfjiannabnonjaaDoor
open Go Go.RowKit Go.Maps

theorem NMap.carry {w w' : World} {B : Nat} {ns : List ByteArray} (h : NMap w B ns) (e : w'.heap[B]? = w.heap[B]?) : NMap w' B ns := by
  obtain ⟨es, clock, hb, r⟩ := h
  exact ⟨es, clock, e.trans hb, r⟩

/-- The four cells of a schema with named kids. -/
structure C4 where
  (c0 c1 c2 c3 : Value)
def c4l (c : C4) : List Value := [c.c0, c.c1, c.c2, c.c3]
def C4.at (w : World) (b o : Nat) (c : C4) : Prop :=
  w.cell? ⟨b, o, none⟩ = some c.c0 ∧ w.cell? ⟨b, o + 1, none⟩ = some c.c1 ∧ w.cell? ⟨b, o + 2, none⟩ = some c.c2 ∧ w.cell? ⟨b, o + 3, none⟩ = some c.c3
theorem C4.at.carry {w w' : World} {b o : Nat} {c : C4} (h : C4.at w b o c) (hb : w'.heap[b]? = w.heap[b]?) : C4.at w' b o c := by
  have e : ∀ o', w'.cell? ⟨b, o', none⟩ = w.cell? ⟨b, o', none⟩ := fun o' => World.cell?_of_block (w := w) hb
  obtain ⟨h0, h1, h2, h3⟩ := h
  exact ⟨by rw [e]; exact h0, by rw [e]; exact h1, by rw [e]; exact h2, by rw [e]; exact h3⟩

mutual
/-- Four cells are a schema with named kids: all that they lead to lies in blocks of which 'P' holds. -/
def NRep (P : Nat → Prop) (w : World) : Kd → C4 → Prop
  | .mk s ns ks, c => c.c0 = .int .i64 s ∧ I64 s ∧ StrsAt P w c.c1 ns ∧ (∃ B, c.c2 = .map (some B) ∧ P B ∧ NMap w B ns) ∧
    ∃ a cap, c.c3 = .slice a ks.length cap ∧ ks.length ≤ 9223372036854775807 ∧ (ks ≠ [] → ∃ b o, a = some ⟨b, o, none⟩ ∧ P b ∧ NRepK P w b o ks)
def NRepK (P : Nat → Prop) (w : World) (b : Nat) (o : Nat) : List Kd → Prop
  | [] => True
  | t :: r => (∃ c, C4.at w b o c ∧ NRep P w t c) ∧ NRepK P w b (o + 4) r
end
theorem NRepK.get {P : Nat → Prop} {w : World} {b o : Nat} {ks : List Kd} (h : NRepK P w b o ks) (i : Nat) (hi : i < ks.length) :
    ∃ c, C4.at w b (o + i * 4) c ∧ NRep P w ks[i] c := by
  induction ks generalizing o i with
  | nil => simp at hi
  | cons t r ih =>
    rw [NRepK] at h
    cases i with
    | zero => exact h.1
    | succ i =>
      obtain ⟨c, h1, h2⟩ := ih h.2 i (by simpa using hi)
      exact ⟨c, by rw [show o + (i + 1) * 4 = o + 4 + i * 4 from by omega]; exact h1, h2⟩
mutual
theorem NRep.carry {P Q : Nat → Prop} {w w' : World} (hP : ∀ b, P b → w'.heap[b]? = w.heap[b]?) (hQ : ∀ b, P b → Q b) : ∀ (t : Kd) (c : C4), NRep P w t c → NRep Q w' t c
  | .mk s ns ks, c => by
    intro h
    rw [NRep] at h ⊢
    obtain ⟨h0, h3, h6, ⟨B, hB1, hB2, hB3⟩, a, cap, h7, h8, h9⟩ := h
    refine ⟨h0, h3, h6.carry hP hQ, ⟨B, hB1, hQ B hB2, hB3.carry (hP B hB2)⟩, a, cap, h7, h8, fun hk => ?_⟩
    obtain ⟨b, o, e, p, hr⟩ := h9 hk
    exact ⟨b, o, e, hQ b p, NRepK.carry hP hQ b o (hP b p) ks hr⟩
theorem NRepK.carry {P Q : Nat → Prop} {w w' : World} (hP : ∀ b, P b → w'.heap[b]? = w.heap[b]?) (hQ : ∀ b, P b → Q b) (b : Nat) (o : Nat) (hb : w'.heap[b]? = w.heap[b]?) : ∀ (ks : List Kd), NRepK P w b o ks → NRepK Q w' b o ks
  | [] => by intro _; rw [NRepK]; trivial
  | t :: r => by
    intro h
    rw [NRepK] at h ⊢
    obtain ⟨⟨c, h1, h2⟩, h3⟩ := h
    exact ⟨⟨c, h1.carry hb, NRep.carry hP hQ t c h2⟩, NRepK.carry hP hQ b (o + 4) hb r h3⟩
end
theorem NRep.open {P : Nat → Prop} {w : World} {t : Kd} {c : C4} (h : NRep P w t c) :
    c.c0 = .int .i64 t.sort ∧ I64 t.sort ∧ StrsAt P w c.c1 t.names ∧ (∃ B, c.c2 = .map (some B) ∧ P B ∧ NMap w B t.names) ∧
    ∃ a cap, c.c3 = .slice a t.kids.length cap ∧ t.kids.length ≤ 9223372036854775807 ∧
      ∀ i, (hi : i < t.kids.length) → ∃ b o c, a = some ⟨b, o, none⟩ ∧ P b ∧ C4.at w b (o + i * 4) c ∧ NRep P w t.kids[i] c := by
  obtain ⟨s, ns, ks⟩ := t
  rw [NRep] at h
  obtain ⟨h0, h3, h6, hB, a, cap, h7, h8, h9⟩ := h
  refine ⟨h0, h3, h6, hB, a, cap, h7, h8, fun i hi => ?_⟩
  obtain ⟨b, o, e, p, hr⟩ := h9 (fun hh => by subst hh; simp [Kd.kids] at hi)
  obtain ⟨c', h1', h2'⟩ := hr.get i hi
  exact ⟨b, o, c', e, p, h1', h2'⟩

/-- Schemas with named kids whose cells stand in a row. -/
def NRepL (P : Nat → Prop) (w : World) : List Kd → List Value → Prop
  | [], xs => xs = []
  | t :: r, xs => ∃ c xs', xs = c4l c ++ xs' ∧ NRep P w t c ∧ NRepL P w r xs'
theorem NRepL.snoc {P : Nat → Prop} {w : World} {ks : List Kd} {xs : List Value} {t : Kd} {c : C4} (h : NRepL P w ks xs) (ht : NRep P w t c) : NRepL P w (ks ++ [t]) (xs ++ c4l c) := by
  induction ks generalizing xs with
  | nil =>
    have h' : xs = [] := h
    subst h'
    exact ⟨c, [], by simp, ht, rfl⟩
  | cons a r ih =>
    obtain ⟨d, xs', rfl, h1, h2⟩ := h
    exact ⟨d, xs' ++ c4l c, by simp, h1, ih h2⟩
theorem NRepL.carry {P Q : Nat → Prop} {w w' : World} {ks : List Kd} {xs : List Value} (h : NRepL P w ks xs) (hP : ∀ b, P b → w'.heap[b]? = w.heap[b]?) (hQ : ∀ b, P b → Q b) : NRepL Q w' ks xs := by
  induction ks generalizing xs with
  | nil => exact h
  | cons a r ih =>
    obtain ⟨d, xs', rfl, h1, h2⟩ := h
    exact ⟨d, xs', rfl, NRep.carry hP hQ a d h1, ih h2⟩
theorem NRepL.repK {P : Nat → Prop} {w : World} {g : Nat} {ks : List Kd} {xs : List Value} {o : Nat} (h : NRepL P w ks xs) (hc : ∀ j u, xs[j]? = some u → w.cell? ⟨g, o + j, none⟩ = some u) : NRepK P w g o ks := by
  induction ks generalizing xs o with
  | nil => rw [NRepK]; trivial
  | cons a r ih =>
    obtain ⟨d, xs', rfl, h1, h2⟩ := h
    rw [NRepK]
    refine ⟨⟨d, ⟨hc 0 _ rfl, hc 1 _ rfl, hc 2 _ rfl, hc 3 _ rfl⟩, h1⟩, ih h2 (fun j u hj => ?_)⟩
    have := hc (4 + j) u (by
      rw [List.getElem?_append_right (by simp [c4l]), show 4 + j - (c4l d).length = j from by simp [c4l]]; exact hj)
    rw [show o + 4 + j = o + (4 + j) from by omega]; exact this

/-- A slice of schemas with named kids, as gathered in a row of the call's own. -/
def NKids (P : Nat → Prop) (w : World) (v : Value) (ks : List Kd) : Prop := ∃ a cap, v = .slice a ks.length cap ∧ ks.length ≤ 9223372036854775807 ∧ (ks ≠ [] → ∃ b o, a = some ⟨b, o, none⟩ ∧ P b ∧ NRepK P w b o ks)
theorem NKids.of_row {P : Nat → Prop} {base : Nat} {w : World} {v : Value} {ks : List Kd} {xs : List Value} (h : w.ownsRow base 67 4 v ks.length xs) (hl : NRepL P w ks xs) (hP : ∀ g, base ≤ g → g < w.heap.size → P g) : NKids P w v ks := by
  rcases h.2 with ⟨hv, hn0⟩ | ⟨g, cap, cur, hv, hgb, hh, hle, hm2, hsz, htk⟩
  · have hks : ks = [] := List.eq_nil_of_length_eq_zero hn0
    subst hks
    exact ⟨none, 0, hv, by simp, fun h => absurd rfl h⟩
  · refine ⟨some ⟨g, 0, none⟩, cap, hv, by unfold maxLen at hm2; omega, fun _ => ⟨g, 0, rfl, hP g hgb (Array.getElem?_eq_some_iff.1 hh).1, hl.repK (fun j u hj => ?_)⟩⟩
    have hj' : cur.toList[j]? = some u := by
      rw [← htk] at hj
      rw [List.getElem?_take] at hj
      split at hj
      · exact hj
      · cases hj
    simp only [Nat.zero_add, World.cell?, hh]
    simpa using hj'
theorem NRep.make {P : Nat → Prop} {w : World} {t : Kd} {v1 v3 : Value} {B : Nat} (h0 : I64 t.sort) (h1 : StrsAt P w v1 t.names) (h2 : P B) (h3 : NMap w B t.names) (h4 : NKids P w v3 t.kids) : NRep P w t ⟨.int .i64 t.sort, v1, .map (some B), v3⟩ := by
  obtain ⟨s, ns, ks⟩ := t
  rw [NRep]
  exact ⟨rfl, h0, h1, ⟨B, rfl, h2, h3⟩, h4⟩
theorem NKids.carry {P Q : Nat → Prop} {w w' : World} {v : Value} {ks : List Kd} (h : NKids P w v ks) (hP : ∀ b, P b → w'.heap[b]? = w.heap[b]?) (hQ : ∀ b, P b → Q b) : NKids Q w' v ks := by
  obtain ⟨a, cap, h1, h2, h3⟩ := h
  refine ⟨a, cap, h1, h2, fun hk => ?_⟩
  obtain ⟨b, o, e, p, hr⟩ := h3 hk
  exact ⟨b, o, e, hQ b p, NRepK.carry hP hQ b o (hP b p) ks hr⟩
end Go.Proofs.YtfjiannabnonjaaDoor
