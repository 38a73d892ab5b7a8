/- The shape of a tree in memory: of what kind its cells are, whatever they hold. Definitions and small laws, no program. No conditions. -/
import Derived.Test.YtmpfhkjipdhhlaaDoorShp
namespace Go.Proofs.YtmpfhkjipdhhlaaDoor
open Go Go.RowKit

mutual
/-- Five cells are of a tree's shape. -/
def TShp (D : Nat → Prop) (w : World) : Tr → C5 → Prop
  | .mk _ _ _ ns ks, c => (∃ n, c.c0 = .int .i64 n) ∧ (∃ n, c.c1 = .int .i64 n) ∧ (∃ s, c.c2 = .string s) ∧ SShp D w c.c3 ns.length ∧
    ∃ a cap, c.c4 = .slice a ks.length cap ∧ ks.length ≤ 9223372036854775807 ∧ (ks ≠ [] → ∃ b o, a = some ⟨b, o, none⟩ ∧ D b ∧ FreeB w b ∧ TShpK D w b o ks)
def TShpK (D : Nat → Prop) (w : World) (b : Nat) (o : Nat) : List Tr → Prop
  | [] => True
  | t :: r => (∃ c, C5.at w b o c ∧ TShp D w t c) ∧ TShpK D w b (o + 5) r
end

mutual
theorem TShp.like {D : Nat → Prop} {w w' : World} (hl : Like D w w') : ∀ (t : Tr) (c c' : C5), alike c.c0 c'.c0 → alike c.c1 c'.c1 → alike c.c2 c'.c2 → alike c.c3 c'.c3 → alike c.c4 c'.c4 → TShp D w t c → TShp D w' t c'
  | .mk s n tx ns ks, c, c' => by
    intro l0 l1 l2 l3 l4 h
    rw [TShp] at h ⊢
    obtain ⟨⟨n0, h0⟩, ⟨n1, h1⟩, ⟨s2, h2⟩, h3, a, cap, h4, h5, h6⟩ := h
    rw [h0] at l0
    rw [h1] at l1
    rw [h2] at l2
    rw [h4] at l4
    have e3 : c'.c3 = c.c3 := by obtain ⟨a1, cap1, e, -⟩ := h3; rw [e] at l3 ⊢; exact l3.slice
    refine ⟨l0.int, l1.int, l2.str, by rw [e3]; exact h3.like hl, a, cap, l4.slice, h5, fun hk => ?_⟩
    obtain ⟨b, o, e, hd, hf, hr⟩ := h6 hk
    obtain ⟨k0, kr, hkk⟩ : ∃ k0 kr, ks = k0 :: kr := by
      cases ks with
      | nil => exact absurd rfl hk
      | cons x y => exact ⟨x, y, rfl⟩
    have hb : b < w.heap.size := by
      rw [hkk, TShpK] at hr
      obtain ⟨⟨c0, hat, -⟩, -⟩ := hr
      exact World.block_lt_of_cell? w _ hat.1
    exact ⟨b, o, e, hd, hl.free b hb hf, TShpK.like hl b o ks hr⟩
theorem TShpK.like {D : Nat → Prop} {w w' : World} (hl : Like D w w') (b : Nat) (o : Nat) : ∀ (ks : List Tr), TShpK D w b o ks → TShpK D w' b o ks
  | [] => by intro _; rw [TShpK]; trivial
  | t :: r => by
    intro h
    rw [TShpK] at h ⊢
    obtain ⟨⟨c, h1, h2⟩, h3⟩ := h
    obtain ⟨v0, g0, l0⟩ := hl.cell _ _ _ h1.1
    obtain ⟨v1, g1, l1⟩ := hl.cell _ _ _ h1.2.1
    obtain ⟨v2, g2, l2⟩ := hl.cell _ _ _ h1.2.2.1
    obtain ⟨v3, g3, l3⟩ := hl.cell _ _ _ h1.2.2.2.1
    obtain ⟨v4, g4, l4⟩ := hl.cell _ _ _ h1.2.2.2.2
    exact ⟨⟨⟨v0, v1, v2, v3, v4⟩, ⟨g0, g1, g2, g3, g4⟩, TShp.like hl t c ⟨v0, v1, v2, v3, v4⟩ l0 l1 l2 l3 l4 h2⟩, TShpK.like hl b (o + 5) r h3⟩
end

mutual
theorem Rep.shp {P D : Nat → Prop} {w : World} (hD : ∀ b, P b → D b ∧ FreeB w b) : ∀ (t : Tr) (c : C5), Rep P w t c → TShp D w t c
  | .mk s n tx ns ks, c => by
    intro h
    rw [Rep] at h
    rw [TShp]
    obtain ⟨h0, h1, h2, -, -, -, ⟨a1, cap1, g1, g2, g3⟩, a, cap, h4, h5, h6⟩ := h
    refine ⟨⟨s, h0⟩, ⟨n, h1⟩, ⟨tx, h2⟩, ⟨a1, cap1, g1, g2, fun i hi => ?_⟩, a, cap, h4, h5, fun hk => ?_⟩
    · obtain ⟨b, o, e, hp, hc, -⟩ := g3 i hi
      exact ⟨b, o, _, e, (hD b hp).1, (hD b hp).2, hc⟩
    · obtain ⟨b, o, e, hp, hr⟩ := h6 hk
      exact ⟨b, o, e, (hD b hp).1, (hD b hp).2, RepK.shp hD b o ks hr⟩
theorem RepK.shp {P D : Nat → Prop} {w : World} (hD : ∀ b, P b → D b ∧ FreeB w b) (b : Nat) (o : Nat) : ∀ (ks : List Tr), RepK P w b o ks → TShpK D w b o ks
  | [] => by intro _; rw [TShpK]; trivial
  | t :: r => by
    intro h
    rw [RepK] at h
    rw [TShpK]
    obtain ⟨⟨c, h1, h2⟩, h3⟩ := h
    exact ⟨⟨c, h1, Rep.shp hD t c h2⟩, RepK.shp hD b (o + 5) r h3⟩
end

theorem TShpK.get {D : Nat → Prop} {w : World} {b o : Nat} {ks : List Tr} (h : TShpK D w b o ks) (i : Nat) (hi : i < ks.length) :
    ∃ c, C5.at w b (o + i * 5) c ∧ TShp D w ks[i] c := by
  induction ks generalizing o i with
  | nil => simp at hi
  | cons t r ih =>
    rw [TShpK] at h
    cases i with
    | zero => exact h.1
    | succ i =>
      obtain ⟨c, h1, h2⟩ := ih h.2 i (by simpa using hi)
      exact ⟨c, by rw [show o + (i + 1) * 5 = o + 5 + i * 5 from by omega]; exact h1, h2⟩

theorem TShp.open {D : Nat → Prop} {w : World} {t : Tr} {c : C5} (h : TShp D w t c) : (∃ n, c.c0 = .int .i64 n) ∧ (∃ n, c.c1 = .int .i64 n) ∧ (∃ s, c.c2 = .string s) ∧ SShp D w c.c3 t.names.length ∧
    ∃ a cap, c.c4 = .slice a t.kids.length cap ∧ t.kids.length ≤ 9223372036854775807 ∧ (t.kids ≠ [] → ∃ b o, a = some ⟨b, o, none⟩ ∧ D b ∧ FreeB w b ∧ TShpK D w b o t.kids) := by
  obtain ⟨s, n, tx, ns, ks⟩ := t
  rw [TShp] at h
  exact h
end Go.Proofs.YtmpfhkjipdhhlaaDoor
