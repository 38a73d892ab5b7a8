/- What a tree is as plain data, its weight, and how it lies in memory: definitions and small laws, no program. No conditions. -/
import Derived.WalkKit
import Derived.Deep.OwnRows
namespace Go.Proofs.Ytchlbncncipecaa
open Go Go.RowKit

theorem hide {p : Prop} (h : p) : Hid p := h
theorem unhide {p : Prop} (h : Hid p) : p := h

/-- A tree as plain data. -/
inductive Tr where
  | mk (sort num : Int) (text : ByteArray) (names : List ByteArray) (kids : List Tr)

namespace Tr
def sort : Tr → Int | mk s _ _ _ _ => s
def num : Tr → Int | mk _ n _ _ _ => n
def text : Tr → ByteArray | mk _ _ t _ _ => t
def names : Tr → List ByteArray | mk _ _ _ n _ => n
def kids : Tr → List Tr | mk _ _ _ _ k => k
end Tr

/-- A string list's weight. -/
def wS : List ByteArray → Nat
  | [] => 0
  | s :: r => s.size + 1 + wS r

mutual
def wT : Tr → Nat
  | .mk _ _ t n k => t.size + wS n + wK k
def wK : List Tr → Nat
  | [] => 0
  | t :: r => 1 + wT t + wK r
end

theorem wK_mem {t : Tr} {l : List Tr} (h : t ∈ l) : wT t + 1 ≤ wK l := by
  induction l with
  | nil => cases h
  | cons a r ih =>
    rw [wK]
    rcases List.mem_cons.1 h with rfl | h
    · omega
    · have := ih h; omega

theorem wK_len (l : List Tr) : l.length ≤ wK l := by
  induction l with
  | nil => simp [wK]
  | cons a r ih => rw [wK]; simp; omega

theorem wS_len (l : List ByteArray) : l.length ≤ wS l := by
  induction l with
  | nil => simp [wS]
  | cons a r ih => rw [wS]; simp; omega

/-- A slice value whose strings lie in the world, in blocks of which 'P' holds. -/
def StrsAt (P : Nat → Prop) (w : World) (v : Value) (ss : List ByteArray) : Prop :=
  ∃ a cap, v = .slice a ss.length cap ∧ ss.length ≤ 9223372036854775807 ∧
    ∀ i, (h : i < ss.length) → ∃ b o, a = some ⟨b, o, none⟩ ∧ P b ∧ w.cell? ⟨b, o + i, none⟩ = some (.string ss[i]) ∧ ss[i].size ≤ 9223372036854775807

/-- The five cells of a tree. -/
structure C5 where
  (c0 c1 c2 c3 c4 : Value)

/-- Five cells lie at an offset of a block. -/
def C5.at (w : World) (b o : Nat) (c : C5) : Prop :=
  w.cell? ⟨b, o, none⟩ = some c.c0 ∧ w.cell? ⟨b, o + 1, none⟩ = some c.c1 ∧ w.cell? ⟨b, o + 2, none⟩ = some c.c2 ∧ w.cell? ⟨b, o + 3, none⟩ = some c.c3 ∧ w.cell? ⟨b, o + 4, none⟩ = some c.c4

def I64 (n : Int) : Prop := -9223372036854775808 ≤ n ∧ n ≤ 9223372036854775807

mutual
/-- Five cells are a tree: all that they lead to lies in the world, in blocks of which 'P' holds. -/
def Rep (P : Nat → Prop) (w : World) : Tr → C5 → Prop
  | .mk s n t ns ks, c => c.c0 = .int .i64 s ∧ c.c1 = .int .i64 n ∧ c.c2 = .string t ∧ I64 s ∧ I64 n ∧ t.size ≤ 9223372036854775807 ∧ StrsAt P w c.c3 ns ∧
    ∃ a cap, c.c4 = .slice a ks.length cap ∧ ks.length ≤ 9223372036854775807 ∧ (ks ≠ [] → ∃ b o, a = some ⟨b, o, none⟩ ∧ P b ∧ RepK P w b o ks)
def RepK (P : Nat → Prop) (w : World) (b : Nat) (o : Nat) : List Tr → Prop
  | [] => True
  | t :: r => (∃ c, C5.at w b o c ∧ Rep P w t c) ∧ RepK P w b (o + 5) r
end

theorem RepK.get {P : Nat → Prop} {w : World} {b o : Nat} {ks : List Tr} (h : RepK P w b o ks) (i : Nat) (hi : i < ks.length) :
    ∃ c, C5.at w b (o + i * 5) c ∧ Rep P w ks[i] c := by
  induction ks generalizing o i with
  | nil => simp at hi
  | cons t r ih =>
    rw [RepK] at h
    cases i with
    | zero => exact h.1
    | succ i =>
      obtain ⟨c, h1, h2⟩ := ih h.2 i (by simpa using hi)
      exact ⟨c, by rw [show o + (i + 1) * 5 = o + 5 + i * 5 from by omega]; exact h1, h2⟩

theorem RepK.mk {P : Nat → Prop} {w : World} {b o : Nat} {ks : List Tr} (h : ∀ i, (hi : i < ks.length) → ∃ c, C5.at w b (o + i * 5) c ∧ Rep P w ks[i] c) : RepK P w b o ks := by
  induction ks generalizing o with
  | nil => rw [RepK]; trivial
  | cons t r ih =>
    rw [RepK]
    refine ⟨h 0 (by simp), ih fun i hi => ?_⟩
    obtain ⟨c, h1, h2⟩ := h (i + 1) (by simpa using hi)
    exact ⟨c, by rw [show o + 5 + i * 5 = o + (i + 1) * 5 from by omega]; exact h1, h2⟩

theorem C5.at.carry {w w' : World} {b o : Nat} {c : C5} (h : C5.at w b o c) (hb : w'.heap[b]? = w.heap[b]?) : C5.at w' b o c := by
  have e : ∀ o', w'.cell? ⟨b, o', none⟩ = w.cell? ⟨b, o', none⟩ := fun o' => World.cell?_of_block (w := w) hb
  obtain ⟨h0, h1, h2, h3, h4⟩ := h
  exact ⟨by rw [e]; exact h0, by rw [e]; exact h1, by rw [e]; exact h2, by rw [e]; exact h3, by rw [e]; exact h4⟩

theorem StrsAt.carry {P Q : Nat → Prop} {w w' : World} {v : Value} {ss : List ByteArray} (h : StrsAt P w v ss) (hP : ∀ b, P b → w'.heap[b]? = w.heap[b]?) (hQ : ∀ b, P b → Q b) : StrsAt Q w' v ss := by
  obtain ⟨a, cap, h1, h2, h3⟩ := h
  refine ⟨a, cap, h1, h2, fun i hi => ?_⟩
  obtain ⟨b, o, e, p, hc, hs⟩ := h3 i hi
  exact ⟨b, o, e, hQ b p, by rw [World.cell?_of_block (w := w) (hP b p)]; exact hc, hs⟩

mutual
theorem Rep.carry {P Q : Nat → Prop} {w w' : World} (hP : ∀ b, P b → w'.heap[b]? = w.heap[b]?) (hQ : ∀ b, P b → Q b) : ∀ (t : Tr) (c : C5), Rep P w t c → Rep Q w' t c
  | .mk s n t ns ks, c => by
    intro h
    rw [Rep] at h ⊢
    obtain ⟨h0, h1, h2, h3, h4, h5, h6, a, cap, h7, h8, h9⟩ := h
    refine ⟨h0, h1, h2, h3, h4, h5, h6.carry hP hQ, a, cap, h7, h8, fun hk => ?_⟩
    obtain ⟨b, o, e, p, hr⟩ := h9 hk
    exact ⟨b, o, e, hQ b p, RepK.carry hP hQ b o (hP b p) ks hr⟩
theorem RepK.carry {P Q : Nat → Prop} {w w' : World} (hP : ∀ b, P b → w'.heap[b]? = w.heap[b]?) (hQ : ∀ b, P b → Q b) (b : Nat) (o : Nat) (hb : w'.heap[b]? = w.heap[b]?) : ∀ (ks : List Tr), RepK P w b o ks → RepK Q w' b o ks
  | [] => by intro _; rw [RepK]; trivial
  | t :: r => by
    intro h
    rw [RepK] at h ⊢
    obtain ⟨⟨c, h1, h2⟩, h3⟩ := h
    exact ⟨⟨c, h1.carry hb, Rep.carry hP hQ t c h2⟩, RepK.carry hP hQ b (o + 5) hb r h3⟩
end

/-- A tree as the walks take it: what its kids' slice is, and each kid. -/
theorem Rep.open {P : Nat → Prop} {w : World} {t : Tr} {c : C5} (h : Rep P w t c) :
    c.c0 = .int .i64 t.sort ∧ c.c1 = .int .i64 t.num ∧ c.c2 = .string t.text ∧ I64 t.sort ∧ I64 t.num ∧ t.text.size ≤ 9223372036854775807 ∧ StrsAt P w c.c3 t.names ∧
    ∃ a cap, c.c4 = .slice a t.kids.length cap ∧ t.kids.length ≤ 9223372036854775807 ∧
      ∀ i, (hi : i < t.kids.length) → ∃ b o c, a = some ⟨b, o, none⟩ ∧ P b ∧ C5.at w b (o + i * 5) c ∧ Rep P w t.kids[i] c := by
  obtain ⟨s, n, tx, ns, ks⟩ := t
  rw [Rep] at h
  obtain ⟨h0, h1, h2, h3, h4, h5, h6, a, cap, h7, h8, h9⟩ := h
  refine ⟨h0, h1, h2, h3, h4, h5, h6, a, cap, h7, h8, fun i hi => ?_⟩
  obtain ⟨b, o, e, p, hr⟩ := h9 (fun hh => by subst hh; simp [Tr.kids] at hi)
  obtain ⟨c', h1', h2'⟩ := hr.get i hi
  exact ⟨b, o, c', e, p, h1', h2'⟩

theorem Rep.make {P : Nat → Prop} {w : World} {t : Tr} {v3 : Value} {b o cap : Nat} (h0 : I64 t.sort) (h1 : I64 t.num) (h2 : t.text.size ≤ 9223372036854775807) (h3 : StrsAt P w v3 t.names) (h4 : t.kids.length ≤ 9223372036854775807) (h5 : P b) (h6 : RepK P w b o t.kids) :
    Rep P w t ⟨.int .i64 t.sort, .int .i64 t.num, .string t.text, v3, .slice (some ⟨b, o, none⟩) t.kids.length cap⟩ := by
  obtain ⟨s, n, tx, ns, ks⟩ := t
  rw [Rep]
  exact ⟨rfl, rfl, rfl, h0, h1, h2, h3, _, _, rfl, h4, fun _ => ⟨b, o, rfl, h5, h6⟩⟩

mutual
def tsz : Tr → Nat
  | .mk _ _ _ _ k => 1 + lsz k
def lsz : List Tr → Nat
  | [] => 0
  | t :: r => tsz t + lsz r
end
theorem tsz_kid {t k : Tr} (h : k ∈ t.kids) : tsz k < tsz t := by
  obtain ⟨s, n, tx, ns, ks⟩ := t
  have : ∀ l : List Tr, k ∈ l → tsz k ≤ lsz l := by
    intro l
    induction l with
    | nil => intro h; cases h
    | cons a r ih =>
      intro h
      rw [lsz]
      rcases List.mem_cons.1 h with rfl | h
      · omega
      · have := ih h; omega
  have := this ks h
  rw [tsz]; omega

/-- In blocks that are new between two worlds. -/
def New (w w' : World) : Nat → Prop := fun b => w.heap.size ≤ b ∧ b < w'.heap.size

def row5 (c0 c1 c2 c3 c4 : Value) : Nat → Value
  | 0 => c0
  | 1 => c1
  | 2 => c2
  | 3 => c3
  | _ => c4

theorem row5_alloc (w : World) (c0 c1 c2 c3 c4 : Value) (t : TypeId) : (w.alloc (.cells #[c0, c1, c2, c3, c4] t)).rowIs w.heap.size t 5 (row5 c0 c1 c2 c3 c4) :=
  World.rowIs_alloc w #[c0, c1, c2, c3, c4] t _ (fun i hi => by
    have hi' : i < 5 := hi
    match i, hi' with
    | 0, _ => rfl
    | 1, _ => rfl
    | 2, _ => rfl
    | 3, _ => rfl
    | 4, _ => rfl)

theorem box1 {w w1 : World} {x0 x1 x2 x3 x4 : Value} {tx : TypeId}
    (hb : Below (w.alloc (.cells #[x0, x1, x2, x3, x4] tx)).heap.size (w.alloc (.cells #[x0, x1, x2, x3, x4] tx)) w1) :
    w1.rowIs w.heap.size tx 5 (row5 x0 x1 x2 x3 x4) ∧ w.heap.size + 1 ≤ w1.heap.size ∧ Below w.heap.size w w1 := by
  have r0 := row5_alloc w x0 x1 x2 x3 x4 tx
  have hs := hb.size
  refine ⟨r0.of_block (hb.block _ r0.lt), by simpa using hs, ?_⟩
  exact ((Below.refl _ _).alloc (Nat.le_refl _) _).trans (hb.mono (by simp))

theorem box2 {w w1 : World} {x0 x1 x2 x3 x4 y0 y1 y2 y3 y4 : Value} {tx ty : TypeId}
    (hb : Below ((w.alloc (.cells #[x0, x1, x2, x3, x4] tx)).alloc (.cells #[y0, y1, y2, y3, y4] ty)).heap.size ((w.alloc (.cells #[x0, x1, x2, x3, x4] tx)).alloc (.cells #[y0, y1, y2, y3, y4] ty)) w1) :
    w1.rowIs w.heap.size tx 5 (row5 x0 x1 x2 x3 x4) ∧ w1.rowIs (w.heap.size + 1) ty 5 (row5 y0 y1 y2 y3 y4) ∧ w.heap.size + 2 ≤ w1.heap.size ∧ Below w.heap.size w w1 := by
  have e1 : (w.alloc (.cells #[x0, x1, x2, x3, x4] tx)).heap.size = w.heap.size + 1 := by simp
  have r0 := (row5_alloc w x0 x1 x2 x3 x4 tx).alloc (.cells #[y0, y1, y2, y3, y4] ty)
  have r1 := row5_alloc (w.alloc (.cells #[x0, x1, x2, x3, x4] tx)) y0 y1 y2 y3 y4 ty
  rw [e1] at r1
  have hs := hb.size
  refine ⟨r0.of_block (hb.block _ r0.lt), r1.of_block (hb.block _ r1.lt), by simpa using hs, ?_⟩
  exact (((Below.refl _ _).alloc (Nat.le_refl _) _).alloc (by simp) _).trans (hb.mono (by simp; omega))

end Go.Proofs.Ytchlbncncipecaa
