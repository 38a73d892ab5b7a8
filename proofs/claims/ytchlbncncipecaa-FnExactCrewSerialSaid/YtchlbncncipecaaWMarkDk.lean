/- The walks of the law's markDiskFileS, markDiskMoveS, markDisk over a shape: they end, and turn cells of the shape's own blocks alone, each into one of its kind. The marks count to at most 2^40. -/
import Derived.Test.YtchlbncncipecaaWMarkS
import Derived.Test.YtchlbncncipecaaDkDat
namespace Go.Proofs.Ytchlbncncipecaa
open Go Go.RowKit

/-- A slice of so many files, in blocks of D of which nothing is frozen. -/
def FShp (D : Nat → Prop) (w : World) (v : Value) (n : Nat) : Prop :=
  ∃ a cap, v = .slice a n cap ∧ n ≤ 9223372036854775807 ∧ ∀ i, i < n → ∃ b o s1 s2 k, a = some ⟨b, o, none⟩ ∧ D b ∧ FreeB w b ∧ w.cell? ⟨b, o + i * 3, none⟩ = some (.string s1) ∧ w.cell? ⟨b, o + i * 3 + 1, none⟩ = some (.string s2) ∧ w.cell? ⟨b, o + i * 3 + 2, none⟩ = some (.int .i64 k)
theorem FShp.like {D : Nat → Prop} {w w' : World} {v : Value} {n : Nat} (h : FShp D w v n) (hl : Like D w w') : FShp D w' v n := by
  obtain ⟨a, cap, h1, h2, h3⟩ := h
  refine ⟨a, cap, h1, h2, fun i hi => ?_⟩
  obtain ⟨b, o, s1, s2, k, e, hd, hf, c0, c1, c2⟩ := h3 i hi
  obtain ⟨v0, hv0, l0⟩ := hl.cell _ _ _ c0
  obtain ⟨v1, hv1, l1⟩ := hl.cell _ _ _ c1
  obtain ⟨v2, hv2, l2⟩ := hl.cell _ _ _ c2
  obtain ⟨s1', rfl⟩ := l0.str
  obtain ⟨s2', rfl⟩ := l1.str
  obtain ⟨k', rfl⟩ := l2.int
  exact ⟨b, o, s1', s2', k', e, hd, hl.free b (World.block_lt_of_cell? w _ c0) hf, hv0, hv1, hv2⟩
/-- A slice of so many moves, likewise. -/
def MShp (D : Nat → Prop) (w : World) (v : Value) (n : Nat) : Prop :=
  ∃ a cap, v = .slice a n cap ∧ n ≤ 9223372036854775807 ∧ ∀ i, i < n → ∃ b o x s, a = some ⟨b, o, none⟩ ∧ D b ∧ FreeB w b ∧ w.cell? ⟨b, o + i * 2, none⟩ = some (.bool x) ∧ w.cell? ⟨b, o + i * 2 + 1, none⟩ = some (.string s)
theorem MShp.like {D : Nat → Prop} {w w' : World} {v : Value} {n : Nat} (h : MShp D w v n) (hl : Like D w w') : MShp D w' v n := by
  obtain ⟨a, cap, h1, h2, h3⟩ := h
  refine ⟨a, cap, h1, h2, fun i hi => ?_⟩
  obtain ⟨b, o, x, s, e, hd, hf, c0, c1⟩ := h3 i hi
  obtain ⟨v0, hv0, l0⟩ := hl.cell _ _ _ c0
  obtain ⟨v1, hv1, l1⟩ := hl.cell _ _ _ c1
  obtain ⟨x', rfl⟩ := l0.bool
  obtain ⟨s', rfl⟩ := l1.str
  exact ⟨b, o, x', s', e, hd, hl.free b (World.block_lt_of_cell? w _ c0) hf, hv0, hv1⟩
/-- Three cells are the shape of a disk. -/
structure DShp (D : Nat → Prop) (w : World) (d : Dk) (c : C3) : Prop where
  fs : FShp D w c.c0 d.files.length
  ns : SShp D w c.c1 d.names.length
  ms : MShp D w c.c2 d.moves.length
theorem DkAt.shp {D : Nat → Prop} {w : World} {d : Dk} {c : C3} (h : DkAt D w d c) (hf : ∀ b, D b → FreeB w b) : DShp D w d c := by
  refine ⟨?_, ?_, ?_⟩
  · obtain ⟨a, cap, h1, h2, h3⟩ := h.fs.open
    refine ⟨a, cap, h1, h2, fun i hi => ?_⟩
    obtain ⟨b, o, e, hb, ⟨c0, c1, c2⟩, -⟩ := h3 i hi
    exact ⟨b, o, _, _, _, e, hb, hf b hb, c0, c1, c2⟩
  · obtain ⟨a, cap, h1, h2, h3⟩ := h.ns
    refine ⟨a, cap, h1, h2, fun i hi => ?_⟩
    obtain ⟨b, o, e, hb, hc, -⟩ := h3 i hi
    exact ⟨b, o, _, e, hb, hf b hb, hc⟩
  · obtain ⟨a, cap, h1, h2, h3⟩ := h.ms.open
    refine ⟨a, cap, h1, h2, fun i hi => ?_⟩
    obtain ⟨b, o, e, hb, c0, c1, -⟩ := h3 i hi
    exact ⟨b, o, _, _, e, hb, hf b hb, c0, c1⟩
theorem DShp.like {D : Nat → Prop} {w w' : World} {d : Dk} {c : C3} (h : DShp D w d c) (hl : Like D w w') : DShp D w' d c := ⟨h.fs.like hl, h.ns.like hl, h.ms.like hl⟩

/-- How many marks a disk takes. -/
def mkD (d : Dk) : Nat := 3 * d.files.length + d.names.length + 2 * d.moves.length

end Go.Proofs.Ytchlbncncipecaa
