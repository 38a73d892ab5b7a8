/- What a plan is as plain data, how it lies in memory, when it is ok. No program, no conditions. -/
import Derived.Test.YtmaojhacdelleaaDoorDkDat
namespace Go.Proofs.YtmaojhacdelleaaDoor
open Go Go.RowKit

structure Pt where
  (num first next size : Int)
structure Pl where
  (parts : List Pt) (op fi : Int)
instance : Inhabited Pt := ⟨⟨0, 0, 0, 0⟩⟩
def Pt.cs (p : Pt) : List Value := [.int .i64 p.num, .int .i64 p.first, .int .i64 p.next, .int .i64 p.size]
/-- Parts lie in memory. -/
def PtsAt (P : Nat → Prop) (w : World) (v : Value) (ps : List Pt) : Prop := FlatAt P w v 4 (ps.map Pt.cs)
theorem PtsAt.carry {P Q : Nat → Prop} {w w' : World} {v : Value} {ps : List Pt} (h : PtsAt P w v ps) (hP : ∀ b, P b → w'.heap[b]? = w.heap[b]?) (hQ : ∀ b, P b → Q b) : PtsAt Q w' v ps := FlatAt.carry h hP hQ
structure P4At (w : World) (b o : Nat) (p : Pt) : Prop where
  e0 : w.cell? ⟨b, o, none⟩ = some (.int .i64 p.num)
  e1 : w.cell? ⟨b, o + 1, none⟩ = some (.int .i64 p.first)
  e2 : w.cell? ⟨b, o + 2, none⟩ = some (.int .i64 p.next)
  e3 : w.cell? ⟨b, o + 3, none⟩ = some (.int .i64 p.size)
theorem P4At.carry {w w' : World} {b o : Nat} {p : Pt} (h : P4At w b o p) (hb : w'.heap[b]? = w.heap[b]?) : P4At w' b o p :=
  ⟨(World.cell?_of_block (w := w) (a := ⟨b, o, none⟩) hb).trans h.e0, (World.cell?_of_block (w := w) (a := ⟨b, o + 1, none⟩) hb).trans h.e1, (World.cell?_of_block (w := w) (a := ⟨b, o + 2, none⟩) hb).trans h.e2, (World.cell?_of_block (w := w) (a := ⟨b, o + 3, none⟩) hb).trans h.e3⟩
theorem PtsAt.open {P : Nat → Prop} {w : World} {v : Value} {ps : List Pt} (h : PtsAt P w v ps) : ∃ a cap, v = .slice a ps.length cap ∧ ps.length ≤ 9223372036854775807 ∧
    ∀ i, (hi : i < ps.length) → ∃ b o, a = some ⟨b, o, none⟩ ∧ P b ∧ P4At w b (o + i * 4) ps[i] := by
  obtain ⟨a, cap, h1, h2, h3⟩ := h
  rw [List.length_map] at h1 h2
  refine ⟨a, cap, h1, h2, fun i hi => ?_⟩
  obtain ⟨b, o, e, hb, hc⟩ := h3 i (by rw [List.length_map]; exact hi)
  have c0 := hc 0 (by omega); have c1 := hc 1 (by omega); have c2 := hc 2 (by omega); have c3 := hc 3 (by omega)
  simp only [List.getElem_map, Pt.cs, Nat.add_zero, List.getD_cons_zero, List.getD_cons_succ] at c0 c1 c2 c3
  exact ⟨b, o, e, hb, ⟨c0, c1, c2, c3⟩⟩

/-- Where a part begins: behind the one ahead. -/
def nx (ps : List Pt) : Nat → Int
  | 0 => 1
  | i + 1 => (ps.getD i default).next
theorem nx_succ {ps : List Pt} {i : Nat} (h : i < ps.length) : nx ps (i + 1) = ps[i].next := by
  show (ps.getD i default).next = _
  rw [List.getD_eq_getElem?_getD, List.getElem?_eq_getElem h]; rfl
def ptOk (p : Pt) (n : Int) : Prop := p.first = n ∧ p.first ≤ p.next ∧ p.next ≤ 1000000 ∧ 0 ≤ p.size ∧ p.size ≤ 20000
def numsOk (zs : List Int) : Prop := (∀ x, x ∈ zs → 1 ≤ x ∧ x ≤ 999999) ∧ zs.Nodup
/-- A plan that is ok, as the program asks it. -/
def plOk (l : Pl) : Prop := l.parts.length ≤ 40 ∧ numsOk (l.op :: l.parts.map Pt.num) ∧ (∀ i, (h : i < l.parts.length) → ptOk l.parts[i] (nx l.parts i)) ∧ l.fi = nx l.parts l.parts.length
/-- What the specification asks of a part. -/
def sPt (l : Pl) (i : Nat) (h : i < l.parts.length) : Prop := (1 ≤ l.parts[i].num ∧ l.parts[i].num ≤ 999999) ∧ l.parts[i].num ≠ l.op ∧ ptOk l.parts[i] (nx l.parts i) ∧ ∀ j, (hj : j < i) → (l.parts[j]'(by omega)).num ≠ l.parts[i].num
theorem plOk_iff (l : Pl) : plOk l ↔ l.parts.length ≤ 40 ∧ (1 ≤ l.op ∧ l.op ≤ 999999) ∧ (∀ i, (h : i < l.parts.length) → sPt l i h) ∧ l.fi = nx l.parts l.parts.length := by
  constructor
  · rintro ⟨h1, ⟨h2, h3⟩, h4, h5⟩
    rw [List.nodup_cons] at h3
    refine ⟨h1, h2 _ (by simp), fun i h => ⟨h2 _ (by simp only [List.mem_cons, List.mem_map]; exact Or.inr ⟨_, List.getElem_mem h, rfl⟩), fun e => h3.1 (by rw [← e]; exact List.mem_map.2 ⟨_, List.getElem_mem h, rfl⟩), h4 i h, fun j hj => ?_⟩, h5⟩
    have := (List.pairwise_iff_getElem.1 h3.2) j i (by rw [List.length_map]; omega) (by rw [List.length_map]; omega) hj
    simpa using this
  · rintro ⟨h1, h2, h3, h4⟩
    refine ⟨h1, ⟨fun x hx => ?_, List.nodup_cons.2 ⟨fun hm => ?_, ?_⟩⟩, fun i h => (h3 i h).2.2.1, h4⟩
    · rcases List.mem_cons.1 hx with rfl | hx
      · exact h2
      · obtain ⟨p, hp, rfl⟩ := List.mem_map.1 hx
        obtain ⟨i, hi, rfl⟩ := List.getElem_of_mem hp
        exact (h3 i hi).1
    · obtain ⟨p, hp, he⟩ := List.mem_map.1 hm
      obtain ⟨i, hi, rfl⟩ := List.getElem_of_mem hp
      exact (h3 i hi).2.1 he
    · refine List.pairwise_iff_getElem.2 fun i j hi hj hij => ?_
      rw [List.length_map] at hj
      have := (h3 j hj).2.2.2 i hij
      simpa using this
end Go.Proofs.YtmaojhacdelleaaDoor
