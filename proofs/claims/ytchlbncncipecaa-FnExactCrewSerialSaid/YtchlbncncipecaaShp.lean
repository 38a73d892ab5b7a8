/- The shape of a schema in memory: of what kind its cells are, whatever they hold; worlds whose cells are of the same kinds. Definitions and small laws, no program. No conditions. -/
import Derived.Test.YtchlbncncipecaaKData
import Derived.Test.YtchlbncncipecaaOwn
namespace Go.Proofs.Ytchlbncncipecaa
open Go Go.RowKit

/-- Two values of one kind: numbers, strings, flags, or the same. -/
def alike (v v' : Value) : Prop := (∃ n m, v = .int .i64 n ∧ v' = .int .i64 m) ∨ (∃ s s', v = .string s ∧ v' = .string s') ∨ v' = v ∨ (∃ x y, v = .bool x ∧ v' = .bool y)
theorem alike.refl (v : Value) : alike v v := Or.inr (Or.inr (Or.inl rfl))
theorem alike.slice {a : Option Addr} {n cap : Nat} {v : Value} (h : alike (.slice a n cap) v) : v = .slice a n cap := by
  rcases h with ⟨_, _, e, _⟩ | ⟨_, _, e, _⟩ | h | ⟨_, _, e, _⟩
  · cases e
  · cases e
  · exact h
  · cases e
theorem alike.int {n : Int} {v : Value} (h : alike (.int .i64 n) v) : ∃ m, v = .int .i64 m := by
  rcases h with ⟨_, m, _, e⟩ | ⟨_, _, e, _⟩ | h | ⟨_, _, e, _⟩
  · exact ⟨m, e⟩
  · cases e
  · exact ⟨n, h⟩
  · cases e
theorem alike.str {s : ByteArray} {v : Value} (h : alike (.string s) v) : ∃ s', v = .string s' := by
  rcases h with ⟨_, m, e, _⟩ | ⟨_, s', _, e⟩ | h | ⟨_, _, e, _⟩
  · cases e
  · exact ⟨s', e⟩
  · exact ⟨s, h⟩
  · cases e
theorem alike.bool {x : Bool} {v : Value} (h : alike (.bool x) v) : ∃ y, v = .bool y := by
  rcases h with ⟨_, m, e, _⟩ | ⟨_, s', e, _⟩ | h | ⟨_, y, _, e⟩
  · cases e
  · cases e
  · exact ⟨x, h⟩
  · exact ⟨y, e⟩
theorem alike.trans {a b c : Value} (h : alike a b) (k : alike b c) : alike a c := by
  rcases h with ⟨n, m, rfl, rfl⟩ | ⟨s, s', rfl, rfl⟩ | rfl | ⟨x, y, rfl, rfl⟩
  · obtain ⟨m', rfl⟩ := k.int; exact Or.inl ⟨n, m', rfl, rfl⟩
  · obtain ⟨m', rfl⟩ := k.str; exact Or.inr (Or.inl ⟨s, m', rfl, rfl⟩)
  · exact k
  · obtain ⟨m', rfl⟩ := k.bool; exact Or.inr (Or.inr (Or.inr ⟨x, m', rfl, rfl⟩))

/-- Blocks that are not of D are as they were; cells are of the kinds of which they were; nothing has become frozen. -/
structure Like (D : Nat → Prop) (w w' : World) : Prop where
  os : w'.os = w.os
  tape : w'.tape = w.tape
  output : w'.output = w.output
  size : w.heap.size ≤ w'.heap.size
  block : ∀ k, k < w.heap.size → ¬ D k → w'.heap[k]? = w.heap[k]?
  cell : ∀ b o v, w.cell? ⟨b, o, none⟩ = some v → ∃ v', w'.cell? ⟨b, o, none⟩ = some v' ∧ alike v v'
  free : ∀ b, b < w.heap.size → FreeB w b → FreeB w' b

theorem Like.refl (D : Nat → Prop) (w : World) : Like D w w := ⟨rfl, rfl, rfl, Nat.le_refl _, fun _ _ _ => rfl, fun _ _ v h => ⟨v, h, alike.refl v⟩, fun _ _ h => h⟩
theorem Like.trans {D : Nat → Prop} {a b c : World} (h : Like D a b) (k : Like D b c) : Like D a c :=
  ⟨k.os.trans h.os, k.tape.trans h.tape, k.output.trans h.output, Nat.le_trans h.size k.size, fun i hi hn => (k.block i (Nat.lt_of_lt_of_le hi h.size) hn).trans (h.block i hi hn),
    fun p o v hv => by
      obtain ⟨v1, h1, l1⟩ := h.cell p o v hv
      obtain ⟨v2, h2, l2⟩ := k.cell p o v1 h1
      exact ⟨v2, h2, l1.trans l2⟩, fun p hp hf => k.free p (Nat.lt_of_lt_of_le hp h.size) (h.free p hp hf)⟩
theorem Like.of_below {D : Nat → Prop} {w w' : World} (h : Below w.heap.size w w') : Like D w w' :=
  ⟨h.os, h.tape, h.output, h.size, fun k hk _ => h.block k hk, fun b o v hv => ⟨v, by rw [h.cell (World.block_lt_of_cell? w _ hv)]; exact hv, alike.refl v⟩, fun b hb hf => hf.of_block (h.block b hb)⟩
theorem Like.set {D : Nat → Prop} {w : World} {b o : Nat} {v u : Value} (hb : D b) (hc : w.cell? ⟨b, o, none⟩ = some u) (hl : alike u v) : Like D w (w.setCell ⟨b, o, none⟩ v) :=
  ⟨rfl, rfl, rfl, by simp [World.setCell], fun k _ hn => Below.heap_setCell _ _ _ _ (fun e => hn (by rw [e]; exact hb)), fun b' o' v' hv' => by
    by_cases e : b' = b ∧ o' = o
    · obtain ⟨rfl, rfl⟩ := e
      rw [hc] at hv'
      cases hv'
      exact ⟨v, World.cell?_setCell_same w _ v hc, hl⟩
    · refine ⟨v', ?_, alike.refl v'⟩
      rw [World.cell?_setCell_other w _ _ v (by intro e2; cases e2; exact e ⟨rfl, rfl⟩)]; exact hv', fun b' _ hf o' => by
    have := hf o'
    rw [World.frozen?_setCell]; exact this⟩

/-- A slice of so many strings, in blocks of D of which nothing is frozen. -/
def SShp (D : Nat → Prop) (w : World) (v : Value) (n : Nat) : Prop :=
  ∃ a cap, v = .slice a n cap ∧ n ≤ 9223372036854775807 ∧ ∀ i, i < n → ∃ b o s, a = some ⟨b, o, none⟩ ∧ D b ∧ FreeB w b ∧ w.cell? ⟨b, o + i, none⟩ = some (.string s)

theorem SShp.like {D : Nat → Prop} {w w' : World} {v : Value} {n : Nat} (h : SShp D w v n) (hl : Like D w w') : SShp D w' v n := by
  obtain ⟨a, cap, h1, h2, h3⟩ := h
  refine ⟨a, cap, h1, h2, fun i hi => ?_⟩
  obtain ⟨b, o, s, e, hd, hf, hc⟩ := h3 i hi
  obtain ⟨v', hv', hlk⟩ := hl.cell _ _ _ hc
  obtain ⟨s', rfl⟩ := hlk.str
  exact ⟨b, o, s', e, hd, hl.free b (World.block_lt_of_cell? w _ hc) hf, hv'⟩

mutual
/-- Three cells are of a schema's shape. -/
def KShp (D : Nat → Prop) (w : World) : Kd → C3 → Prop
  | .mk _ ns ks, c => (∃ n, c.c0 = .int .i64 n) ∧ SShp D w c.c1 ns.length ∧
    ∃ a cap, c.c2 = .slice a ks.length cap ∧ ks.length ≤ 9223372036854775807 ∧ (ks ≠ [] → ∃ b o, a = some ⟨b, o, none⟩ ∧ D b ∧ FreeB w b ∧ KShpK D w b o ks)
def KShpK (D : Nat → Prop) (w : World) (b : Nat) (o : Nat) : List Kd → Prop
  | [] => True
  | t :: r => (∃ c, C3.at w b o c ∧ KShp D w t c) ∧ KShpK D w b (o + 3) r
end

mutual
theorem KShp.like {D : Nat → Prop} {w w' : World} (hl : Like D w w') : ∀ (t : Kd) (c c' : C3), alike c.c0 c'.c0 → alike c.c1 c'.c1 → alike c.c2 c'.c2 → KShp D w t c → KShp D w' t c'
  | .mk s ns ks, c, c' => by
    intro l0 l1 l2 h
    rw [KShp] at h ⊢
    obtain ⟨⟨n, h0⟩, h1, a, cap, h2, h3, h4⟩ := h
    rw [h0] at l0
    rw [h2] at l2
    have e1 : c'.c1 = c.c1 := by obtain ⟨a1, cap1, e, -⟩ := h1; rw [e] at l1 ⊢; exact l1.slice
    refine ⟨l0.int, by rw [e1]; exact h1.like hl, a, cap, l2.slice, h3, fun hk => ?_⟩
    obtain ⟨b, o, e, hd, hf, hr⟩ := h4 hk
    obtain ⟨k0, kr, hkk⟩ : ∃ k0 kr, ks = k0 :: kr := by
      cases ks with
      | nil => exact absurd rfl hk
      | cons x y => exact ⟨x, y, rfl⟩
    have hb : b < w.heap.size := by
      rw [hkk, KShpK] at hr
      obtain ⟨⟨c0, hat, -⟩, -⟩ := hr
      exact World.block_lt_of_cell? w _ hat.1
    exact ⟨b, o, e, hd, hl.free b hb hf, KShpK.like hl b o ks hr⟩
theorem KShpK.like {D : Nat → Prop} {w w' : World} (hl : Like D w w') (b : Nat) (o : Nat) : ∀ (ks : List Kd), KShpK D w b o ks → KShpK D w' b o ks
  | [] => by intro _; rw [KShpK]; trivial
  | t :: r => by
    intro h
    rw [KShpK] at h ⊢
    obtain ⟨⟨c, h1, h2⟩, h3⟩ := h
    obtain ⟨v0, g0, l0⟩ := hl.cell _ _ _ h1.1
    obtain ⟨v1, g1, l1⟩ := hl.cell _ _ _ h1.2.1
    obtain ⟨v2, g2, l2⟩ := hl.cell _ _ _ h1.2.2
    exact ⟨⟨⟨v0, v1, v2⟩, ⟨g0, g1, g2⟩, KShp.like hl t c ⟨v0, v1, v2⟩ l0 l1 l2 h2⟩, KShpK.like hl b (o + 3) r h3⟩
end

mutual
theorem KRep.shp {P D : Nat → Prop} {w : World} (hD : ∀ b, P b → D b ∧ FreeB w b) : ∀ (t : Kd) (c : C3), KRep P w t c → KShp D w t c
  | .mk s ns ks, c => by
    intro h
    rw [KRep] at h
    rw [KShp]
    obtain ⟨h0, -, ⟨a1, cap1, h1, h2, h3⟩, a, cap, h4, h5, h6⟩ := h
    refine ⟨⟨s, h0⟩, ⟨a1, cap1, h1, h2, fun i hi => ?_⟩, a, cap, h4, h5, fun hk => ?_⟩
    · obtain ⟨b, o, e, hp, hc, -⟩ := h3 i hi
      exact ⟨b, o, _, e, (hD b hp).1, (hD b hp).2, hc⟩
    · obtain ⟨b, o, e, hp, hr⟩ := h6 hk
      exact ⟨b, o, e, (hD b hp).1, (hD b hp).2, KRepK.shp hD b o ks hr⟩
theorem KRepK.shp {P D : Nat → Prop} {w : World} (hD : ∀ b, P b → D b ∧ FreeB w b) (b : Nat) (o : Nat) : ∀ (ks : List Kd), KRepK P w b o ks → KShpK D w b o ks
  | [] => by intro _; rw [KShpK]; trivial
  | t :: r => by
    intro h
    rw [KRepK] at h
    rw [KShpK]
    obtain ⟨⟨c, h1, h2⟩, h3⟩ := h
    exact ⟨⟨c, h1, KRep.shp hD t c h2⟩, KRepK.shp hD b (o + 3) r h3⟩
end

theorem KShpK.get {D : Nat → Prop} {w : World} {b o : Nat} {ks : List Kd} (h : KShpK D w b o ks) (i : Nat) (hi : i < ks.length) :
    ∃ c, C3.at w b (o + i * 3) c ∧ KShp D w ks[i] c := by
  induction ks generalizing o i with
  | nil => simp at hi
  | cons t r ih =>
    rw [KShpK] at h
    cases i with
    | zero => exact h.1
    | succ i =>
      obtain ⟨c, h1, h2⟩ := ih h.2 i (by simpa using hi)
      exact ⟨c, by rw [show o + (i + 1) * 3 = o + 3 + i * 3 from by omega]; exact h1, h2⟩

theorem KShp.open {D : Nat → Prop} {w : World} {t : Kd} {c : C3} (h : KShp D w t c) : (∃ n, c.c0 = .int .i64 n) ∧ SShp D w c.c1 t.names.length ∧
    ∃ a cap, c.c2 = .slice a t.kids.length cap ∧ t.kids.length ≤ 9223372036854775807 ∧ (t.kids ≠ [] → ∃ b o, a = some ⟨b, o, none⟩ ∧ D b ∧ FreeB w b ∧ KShpK D w b o t.kids) := by
  obtain ⟨s, ns, ks⟩ := t
  rw [KShp] at h
  exact h

mutual
/-- How many marks a kid takes. -/
def kcT : Kd → Nat
  | .mk _ ns ks => 1 + ns.length + kcK ks
def kcK : List Kd → Nat
  | [] => 0
  | t :: r => kcT t + kcK r
end
theorem kcT_eq (t : Kd) : kcT t = 1 + t.names.length + kcK t.kids := by obtain ⟨s, ns, ks⟩ := t; rw [kcT]; rfl
theorem kcK_take (l : List Kd) (i : Nat) (h : i < l.length) : kcK (l.take (i + 1)) = kcK (l.take i) + kcT l[i] := by
  induction l generalizing i with
  | nil => simp at h
  | cons a r ih =>
    cases i with
    | zero => simp [kcK]
    | succ i => simp only [List.take_succ_cons, kcK, List.getElem_cons_succ]; rw [ih i (by simpa using h)]; omega
theorem kcK_take_le (l : List Kd) (i : Nat) : kcK (l.take i) ≤ kcK l := by
  induction l generalizing i with
  | nil => simp [kcK]
  | cons a r ih =>
    cases i with
    | zero => simp [kcK]
    | succ i => simp only [List.take_succ_cons, kcK]; have := ih i; omega
theorem klsz_kid {t : Kd} {l : List Kd} (h : t ∈ l) : klsz t.kids < klsz l := by
  induction l with
  | nil => cases h
  | cons a r ih =>
    rw [klsz]
    rcases List.mem_cons.1 h with rfl | h
    · obtain ⟨s, ns, ks⟩ := t
      rw [ksz]; show klsz ks < _; omega
    · have := ih h; omega
end Go.Proofs.Ytchlbncncipecaa
