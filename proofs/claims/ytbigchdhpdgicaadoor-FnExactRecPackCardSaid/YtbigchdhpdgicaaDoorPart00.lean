/- What a tree is as plain data, its weight, and how it lies in memory: definitions and small laws, no program. No conditions. -/
import Derived.WalkKit
import Derived.Deep.OwnRows
import Derived.Test.YtbigchdhpdgicaaDoorRows
import Derived.Lib.AppendStr
import Derived.Laws.IdiomStrings
import Derived.Deep.AppendLies
namespace Go.Proofs.YtbigchdhpdgicaaDoor
open Go Go.RowKit

theorem hide {p : Prop} (h : p) : Hid p := h
theorem unhide {p : Prop} (h : Hid p) : p := h

/-- A tree as plain data. -/
inductive Tr where
  | mk (sort num : Int) (text : ByteArray) (names : List ByteArray) (kids : List Tr)

namespace Tr
def sort : Tr → Int | mk s _ _ _ _ => s
def num : Tr → Int | mk _ n _ _ _ => n
def text : Tr → ByteArray | mk _ _ t _ _ => t
def names : Tr → List ByteArray | mk _ _ _ n _ => n
def kids : Tr → List Tr | mk _ _ _ _ k => k
end Tr

/-- A string list's weight. -/
def wS : List ByteArray → Nat
  | [] => 0
  | s :: r => s.size + 1 + wS r

mutual
def wT : Tr → Nat
  | .mk _ _ t n k => t.size + wS n + wK k
def wK : List Tr → Nat
  | [] => 0
  | t :: r => 1 + wT t + wK r
end

theorem wK_mem {t : Tr} {l : List Tr} (h : t ∈ l) : wT t + 1 ≤ wK l := by
  induction l with
  | nil => cases h
  | cons a r ih =>
    rw [wK]
    rcases List.mem_cons.1 h with rfl | h
    · omega
    · have := ih h; omega

theorem wK_len (l : List Tr) : l.length ≤ wK l := by
  induction l with
  | nil => simp [wK]
  | cons a r ih => rw [wK]; simp; omega

theorem wS_len (l : List ByteArray) : l.length ≤ wS l := by
  induction l with
  | nil => simp [wS]
  | cons a r ih => rw [wS]; simp; omega

/-- A slice value whose strings lie in the world, in blocks of which 'P' holds. -/
def StrsAt (P : Nat → Prop) (w : World) (v : Value) (ss : List ByteArray) : Prop :=
  ∃ a cap, v = .slice a ss.length cap ∧ ss.length ≤ 9223372036854775807 ∧
    ∀ i, (h : i < ss.length) → ∃ b o, a = some ⟨b, o, none⟩ ∧ P b ∧ w.cell? ⟨b, o + i, none⟩ = some (.string ss[i]) ∧ ss[i].size ≤ 9223372036854775807

/-- The five cells of a tree. -/
structure C5 where
  (c0 c1 c2 c3 c4 : Value)

/-- Five cells lie at an offset of a block. -/
def C5.at (w : World) (b o : Nat) (c : C5) : Prop :=
  w.cell? ⟨b, o, none⟩ = some c.c0 ∧ w.cell? ⟨b, o + 1, none⟩ = some c.c1 ∧ w.cell? ⟨b, o + 2, none⟩ = some c.c2 ∧ w.cell? ⟨b, o + 3, none⟩ = some c.c3 ∧ w.cell? ⟨b, o + 4, none⟩ = some c.c4

def I64 (n : Int) : Prop := -9223372036854775808 ≤ n ∧ n ≤ 9223372036854775807

mutual
/-- Five cells are a tree: all that they lead to lies in the world, in blocks of which 'P' holds. -/
def Rep (P : Nat → Prop) (w : World) : Tr → C5 → Prop
  | .mk s n t ns ks, c => c.c0 = .int .i64 s ∧ c.c1 = .int .i64 n ∧ c.c2 = .string t ∧ I64 s ∧ I64 n ∧ t.size ≤ 9223372036854775807 ∧ StrsAt P w c.c3 ns ∧
    ∃ a cap, c.c4 = .slice a ks.length cap ∧ ks.length ≤ 9223372036854775807 ∧ (ks ≠ [] → ∃ b o, a = some ⟨b, o, none⟩ ∧ P b ∧ RepK P w b o ks)
def RepK (P : Nat → Prop) (w : World) (b : Nat) (o : Nat) : List Tr → Prop
  | [] => True
  | t :: r => (∃ c, C5.at w b o c ∧ Rep P w t c) ∧ RepK P w b (o + 5) r
end

theorem RepK.get {P : Nat → Prop} {w : World} {b o : Nat} {ks : List Tr} (h : RepK P w b o ks) (i : Nat) (hi : i < ks.length) :
    ∃ c, C5.at w b (o + i * 5) c ∧ Rep P w ks[i] c := by
  induction ks generalizing o i with
  | nil => simp at hi
  | cons t r ih =>
    rw [RepK] at h
    cases i with
    | zero => exact h.1
    | succ i =>
      obtain ⟨c, h1, h2⟩ := ih h.2 i (by simpa using hi)
      exact ⟨c, by rw [show o + (i + 1) * 5 = o + 5 + i * 5 from by omega]; exact h1, h2⟩

theorem RepK.mk {P : Nat → Prop} {w : World} {b o : Nat} {ks : List Tr} (h : ∀ i, (hi : i < ks.length) → ∃ c, C5.at w b (o + i * 5) c ∧ Rep P w ks[i] c) : RepK P w b o ks := by
  induction ks generalizing o with
  | nil => rw [RepK]; trivial
  | cons t r ih =>
    rw [RepK]
    refine ⟨h 0 (by simp), ih fun i hi => ?_⟩
    obtain ⟨c, h1, h2⟩ := h (i + 1) (by simpa using hi)
    exact ⟨c, by rw [show o + 5 + i * 5 = o + (i + 1) * 5 from by omega]; exact h1, h2⟩

theorem C5.at.carry {w w' : World} {b o : Nat} {c : C5} (h : C5.at w b o c) (hb : w'.heap[b]? = w.heap[b]?) : C5.at w' b o c := by
  have e : ∀ o', w'.cell? ⟨b, o', none⟩ = w.cell? ⟨b, o', none⟩ := fun o' => World.cell?_of_block (w := w) hb
  obtain ⟨h0, h1, h2, h3, h4⟩ := h
  exact ⟨by rw [e]; exact h0, by rw [e]; exact h1, by rw [e]; exact h2, by rw [e]; exact h3, by rw [e]; exact h4⟩

theorem StrsAt.carry {P Q : Nat → Prop} {w w' : World} {v : Value} {ss : List ByteArray} (h : StrsAt P w v ss) (hP : ∀ b, P b → w'.heap[b]? = w.heap[b]?) (hQ : ∀ b, P b → Q b) : StrsAt Q w' v ss := by
  obtain ⟨a, cap, h1, h2, h3⟩ := h
  refine ⟨a, cap, h1, h2, fun i hi => ?_⟩
  obtain ⟨b, o, e, p, hc, hs⟩ := h3 i hi
  exact ⟨b, o, e, hQ b p, by rw [World.cell?_of_block (w := w) (hP b p)]; exact hc, hs⟩

mutual
theorem Rep.carry {P Q : Nat → Prop} {w w' : World} (hP : ∀ b, P b → w'.heap[b]? = w.heap[b]?) (hQ : ∀ b, P b → Q b) : ∀ (t : Tr) (c : C5), Rep P w t c → Rep Q w' t c
  | .mk s n t ns ks, c => by
    intro h
    rw [Rep] at h ⊢
    obtain ⟨h0, h1, h2, h3, h4, h5, h6, a, cap, h7, h8, h9⟩ := h
    refine ⟨h0, h1, h2, h3, h4, h5, h6.carry hP hQ, a, cap, h7, h8, fun hk => ?_⟩
    obtain ⟨b, o, e, p, hr⟩ := h9 hk
    exact ⟨b, o, e, hQ b p, RepK.carry hP hQ b o (hP b p) ks hr⟩
theorem RepK.carry {P Q : Nat → Prop} {w w' : World} (hP : ∀ b, P b → w'.heap[b]? = w.heap[b]?) (hQ : ∀ b, P b → Q b) (b : Nat) (o : Nat) (hb : w'.heap[b]? = w.heap[b]?) : ∀ (ks : List Tr), RepK P w b o ks → RepK Q w' b o ks
  | [] => by intro _; rw [RepK]; trivial
  | t :: r => by
    intro h
    rw [RepK] at h ⊢
    obtain ⟨⟨c, h1, h2⟩, h3⟩ := h
    exact ⟨⟨c, h1.carry hb, Rep.carry hP hQ t c h2⟩, RepK.carry hP hQ b (o + 5) hb r h3⟩
end

/-- A tree as the walks take it: what its kids' slice is, and each kid. -/
theorem Rep.open {P : Nat → Prop} {w : World} {t : Tr} {c : C5} (h : Rep P w t c) :
    c.c0 = .int .i64 t.sort ∧ c.c1 = .int .i64 t.num ∧ c.c2 = .string t.text ∧ I64 t.sort ∧ I64 t.num ∧ t.text.size ≤ 9223372036854775807 ∧ StrsAt P w c.c3 t.names ∧
    ∃ a cap, c.c4 = .slice a t.kids.length cap ∧ t.kids.length ≤ 9223372036854775807 ∧
      ∀ i, (hi : i < t.kids.length) → ∃ b o c, a = some ⟨b, o, none⟩ ∧ P b ∧ C5.at w b (o + i * 5) c ∧ Rep P w t.kids[i] c := by
  obtain ⟨s, n, tx, ns, ks⟩ := t
  rw [Rep] at h
  obtain ⟨h0, h1, h2, h3, h4, h5, h6, a, cap, h7, h8, h9⟩ := h
  refine ⟨h0, h1, h2, h3, h4, h5, h6, a, cap, h7, h8, fun i hi => ?_⟩
  obtain ⟨b, o, e, p, hr⟩ := h9 (fun hh => by subst hh; simp [Tr.kids] at hi)
  obtain ⟨c', h1', h2'⟩ := hr.get i hi
  exact ⟨b, o, c', e, p, h1', h2'⟩

theorem Rep.make {P : Nat → Prop} {w : World} {t : Tr} {v3 : Value} {b o cap : Nat} (h0 : I64 t.sort) (h1 : I64 t.num) (h2 : t.text.size ≤ 9223372036854775807) (h3 : StrsAt P w v3 t.names) (h4 : t.kids.length ≤ 9223372036854775807) (h5 : P b) (h6 : RepK P w b o t.kids) :
    Rep P w t ⟨.int .i64 t.sort, .int .i64 t.num, .string t.text, v3, .slice (some ⟨b, o, none⟩) t.kids.length cap⟩ := by
  obtain ⟨s, n, tx, ns, ks⟩ := t
  rw [Rep]
  exact ⟨rfl, rfl, rfl, h0, h1, h2, h3, _, _, rfl, h4, fun _ => ⟨b, o, rfl, h5, h6⟩⟩

mutual
def tsz : Tr → Nat
  | .mk _ _ _ _ k => 1 + lsz k
def lsz : List Tr → Nat
  | [] => 0
  | t :: r => tsz t + lsz r
end
theorem tsz_kid {t k : Tr} (h : k ∈ t.kids) : tsz k < tsz t := by
  obtain ⟨s, n, tx, ns, ks⟩ := t
  have : ∀ l : List Tr, k ∈ l → tsz k ≤ lsz l := by
    intro l
    induction l with
    | nil => intro h; cases h
    | cons a r ih =>
      intro h
      rw [lsz]
      rcases List.mem_cons.1 h with rfl | h
      · omega
      · have := ih h; omega
  have := this ks h
  rw [tsz]; omega

/-- In blocks that are new between two worlds. -/
def New (w w' : World) : Nat → Prop := fun b => w.heap.size ≤ b ∧ b < w'.heap.size

def row5 (c0 c1 c2 c3 c4 : Value) : Nat → Value
  | 0 => c0
  | 1 => c1
  | 2 => c2
  | 3 => c3
  | _ => c4

theorem row5_alloc (w : World) (c0 c1 c2 c3 c4 : Value) (t : TypeId) : (w.alloc (.cells #[c0, c1, c2, c3, c4] t)).rowIs w.heap.size t 5 (row5 c0 c1 c2 c3 c4) :=
  World.rowIs_alloc w #[c0, c1, c2, c3, c4] t _ (fun i hi => by
    have hi' : i < 5 := hi
    match i, hi' with
    | 0, _ => rfl
    | 1, _ => rfl
    | 2, _ => rfl
    | 3, _ => rfl
    | 4, _ => rfl)

theorem box1 {w w1 : World} {x0 x1 x2 x3 x4 : Value} {tx : TypeId}
    (hb : Below (w.alloc (.cells #[x0, x1, x2, x3, x4] tx)).heap.size (w.alloc (.cells #[x0, x1, x2, x3, x4] tx)) w1) :
    w1.rowIs w.heap.size tx 5 (row5 x0 x1 x2 x3 x4) ∧ w.heap.size + 1 ≤ w1.heap.size ∧ Below w.heap.size w w1 := by
  have r0 := row5_alloc w x0 x1 x2 x3 x4 tx
  have hs := hb.size
  refine ⟨r0.of_block (hb.block _ r0.lt), by simpa using hs, ?_⟩
  exact ((Below.refl _ _).alloc (Nat.le_refl _) _).trans (hb.mono (by simp))

theorem box2 {w w1 : World} {x0 x1 x2 x3 x4 y0 y1 y2 y3 y4 : Value} {tx ty : TypeId}
    (hb : Below ((w.alloc (.cells #[x0, x1, x2, x3, x4] tx)).alloc (.cells #[y0, y1, y2, y3, y4] ty)).heap.size ((w.alloc (.cells #[x0, x1, x2, x3, x4] tx)).alloc (.cells #[y0, y1, y2, y3, y4] ty)) w1) :
    w1.rowIs w.heap.size tx 5 (row5 x0 x1 x2 x3 x4) ∧ w1.rowIs (w.heap.size + 1) ty 5 (row5 y0 y1 y2 y3 y4) ∧ w.heap.size + 2 ≤ w1.heap.size ∧ Below w.heap.size w w1 := by
  have e1 : (w.alloc (.cells #[x0, x1, x2, x3, x4] tx)).heap.size = w.heap.size + 1 := by simp
  have r0 := (row5_alloc w x0 x1 x2 x3 x4 tx).alloc (.cells #[y0, y1, y2, y3, y4] ty)
  have r1 := row5_alloc (w.alloc (.cells #[x0, x1, x2, x3, x4] tx)) y0 y1 y2 y3 y4 ty
  rw [e1] at r1
  have hs := hb.size
  refine ⟨r0.of_block (hb.block _ r0.lt), r1.of_block (hb.block _ r1.lt), by simpa using hs, ?_⟩
  exact (((Below.refl _ _).alloc (Nat.le_refl _) _).alloc (by simp) _).trans (hb.mono (by simp; omega))

end Go.Proofs.YtbigchdhpdgicaaDoor

/- The seven cells of an event in memory. No program, no conditions. -/

namespace Go.Proofs.YtbigchdhpdgicaaDoor
open Go Go.RowKit

def row7 (a b c0 c1 c2 c3 c4 : Value) : Nat → Value
  | 0 => a
  | 1 => b
  | 2 => c0
  | 3 => c1
  | 4 => c2
  | 5 => c3
  | _ => c4

theorem row7_alloc (w : World) (a b c0 c1 c2 c3 c4 : Value) (t : TypeId) : (w.alloc (.cells #[a, b, c0, c1, c2, c3, c4] t)).rowIs w.heap.size t 7 (row7 a b c0 c1 c2 c3 c4) :=
  World.rowIs_alloc w #[a, b, c0, c1, c2, c3, c4] t _ (fun i hi => by
    have hi' : i < 7 := hi
    match i, hi' with
    | 0, _ => rfl
    | 1, _ => rfl
    | 2, _ => rfl
    | 3, _ => rfl
    | 4, _ => rfl
    | 5, _ => rfl
    | 6, _ => rfl)

theorem ebox1 {w w1 : World} {a b x0 x1 x2 x3 x4 : Value} {tx : TypeId}
    (hb : Below (w.alloc (.cells #[a, b, x0, x1, x2, x3, x4] tx)).heap.size (w.alloc (.cells #[a, b, x0, x1, x2, x3, x4] tx)) w1) :
    w1.rowIs w.heap.size tx 7 (row7 a b x0 x1 x2 x3 x4) ∧ w.heap.size + 1 ≤ w1.heap.size ∧ Below w.heap.size w w1 := by
  have r0 := row7_alloc w a b x0 x1 x2 x3 x4 tx
  have hs := hb.size
  refine ⟨r0.of_block (hb.block _ r0.lt), by simpa using hs, ?_⟩
  exact ((Below.refl _ _).alloc (Nat.le_refl _) _).trans (hb.mono (by simp))

theorem ebox3 {w w1 : World} {xa xb x0 x1 x2 x3 x4 ya yb y0 y1 y2 y3 y4 za zb z0 z1 z2 z3 z4 : Value} {tx ty tz : TypeId}
    (hb : Below (((w.alloc (.cells #[xa, xb, x0, x1, x2, x3, x4] tx)).alloc (.cells #[ya, yb, y0, y1, y2, y3, y4] ty)).alloc (.cells #[za, zb, z0, z1, z2, z3, z4] tz)).heap.size (((w.alloc (.cells #[xa, xb, x0, x1, x2, x3, x4] tx)).alloc (.cells #[ya, yb, y0, y1, y2, y3, y4] ty)).alloc (.cells #[za, zb, z0, z1, z2, z3, z4] tz)) w1) :
    w1.rowIs (w.heap.size + 1) ty 7 (row7 ya yb y0 y1 y2 y3 y4) ∧ w1.rowIs (w.heap.size + 1 + 1) tz 7 (row7 za zb z0 z1 z2 z3 z4) ∧ w.heap.size + 3 ≤ w1.heap.size ∧ Below w.heap.size w w1 := by
  have e1 : (w.alloc (.cells #[xa, xb, x0, x1, x2, x3, x4] tx)).heap.size = w.heap.size + 1 := by simp
  have e2 : ((w.alloc (.cells #[xa, xb, x0, x1, x2, x3, x4] tx)).alloc (.cells #[ya, yb, y0, y1, y2, y3, y4] ty)).heap.size = w.heap.size + 1 + 1 := by simp
  have r1 := (row7_alloc (w.alloc (.cells #[xa, xb, x0, x1, x2, x3, x4] tx)) ya yb y0 y1 y2 y3 y4 ty).alloc (.cells #[za, zb, z0, z1, z2, z3, z4] tz)
  have r2 := row7_alloc ((w.alloc (.cells #[xa, xb, x0, x1, x2, x3, x4] tx)).alloc (.cells #[ya, yb, y0, y1, y2, y3, y4] ty)) za zb z0 z1 z2 z3 z4 tz
  rw [e1] at r1
  rw [e2] at r2
  have hs := hb.size
  refine ⟨r1.of_block (hb.block _ r1.lt), r2.of_block (hb.block _ r2.lt), by simpa using hs, ?_⟩
  exact ((((Below.refl _ _).alloc (Nat.le_refl _) _).alloc (by simp) _).alloc (by simp; omega) _).trans (hb.mono (by simp; omega))
end Go.Proofs.YtbigchdhpdgicaaDoor

/- Lists of events as plain data, and how they lie in memory. No program, no conditions. -/

namespace Go.Proofs.YtbigchdhpdgicaaDoor
open Go Go.RowKit

structure Ev where
  ty : ByteArray
  ver : Int
  t : Tr
/-- The weight of a list of events. -/
def wE : List Ev → Nat
  | [] => 0
  | e :: r => 1 + (e.ty.size + wT e.t) + wE r
theorem wE_len (l : List Ev) : l.length ≤ wE l := by
  induction l with
  | nil => simp [wE]
  | cons a r ih => rw [wE]; simp; omega
theorem wE_mem {e : Ev} {l : List Ev} (h : e ∈ l) : wT e.t + e.ty.size + 1 ≤ wE l := by
  induction l with
  | nil => cases h
  | cons a r ih =>
    rw [wE]
    rcases List.mem_cons.1 h with rfl | h
    · omega
    · have := ih h; omega
theorem wE_take (es : List Ev) (k : Nat) (h : k < es.length) : wE (es.take (k + 1)) = wE (es.take k) + (es[k].ty.size + wT es[k].t) + 1 := by
  induction es generalizing k with
  | nil => simp at h
  | cons a r ih =>
    cases k with
    | zero => simp [wE]; omega
    | succ k => simp only [List.take_succ_cons, wE, List.getElem_cons_succ]; rw [ih k (by simpa using h)]; omega

/-- Seven cells lie at an offset of a block. -/
def E7at (w : World) (b o : Nat) (ty : ByteArray) (ver : Int) (c : C5) : Prop :=
  w.cell? ⟨b, o, none⟩ = some (.string ty) ∧ w.cell? ⟨b, o + 1, none⟩ = some (.int .i64 ver) ∧ w.cell? ⟨b, o + 2, none⟩ = some c.c0 ∧ w.cell? ⟨b, o + 3, none⟩ = some c.c1 ∧ w.cell? ⟨b, o + 4, none⟩ = some c.c2 ∧ w.cell? ⟨b, o + 5, none⟩ = some c.c3 ∧ w.cell? ⟨b, o + 6, none⟩ = some c.c4
theorem E7at.carry {w w' : World} {b o : Nat} {ty : ByteArray} {ver : Int} {c : C5} (h : E7at w b o ty ver c) (hb : w'.heap[b]? = w.heap[b]?) : E7at w' b o ty ver c := by
  have e : ∀ o', w'.cell? ⟨b, o', none⟩ = w.cell? ⟨b, o', none⟩ := fun o' => World.cell?_of_block (w := w) hb
  obtain ⟨h0, h1, h2, h3, h4, h5, h6⟩ := h
  exact ⟨by rw [e]; exact h0, by rw [e]; exact h1, by rw [e]; exact h2, by rw [e]; exact h3, by rw [e]; exact h4, by rw [e]; exact h5, by rw [e]; exact h6⟩

/-- One event of a list. -/
def EvOne (P : Nat → Prop) (w : World) (b o : Nat) (e : Ev) : Prop := ∃ c : C5, E7at w b o e.ty e.ver c ∧ Rep P w e.t c ∧ e.ty.size ≤ 9223372036854775807 ∧ I64 e.ver
theorem EvOne.carry {P Q : Nat → Prop} {w w' : World} {b o : Nat} {e : Ev} (h : EvOne P w b o e) (hb : w'.heap[b]? = w.heap[b]?) (hP : ∀ b, P b → w'.heap[b]? = w.heap[b]?) (hQ : ∀ b, P b → Q b) : EvOne Q w' b o e := by
  obtain ⟨c, h1, h2, h3, h4⟩ := h
  exact ⟨c, h1.carry hb, Rep.carry hP hQ _ _ h2, h3, h4⟩

/-- A slice value whose events lie in the world, in blocks of which 'P' holds. -/
def EvsAt (P : Nat → Prop) (w : World) (v : Value) (es : List Ev) : Prop :=
  ∃ a cap, v = .slice a es.length cap ∧ es.length ≤ 9223372036854775807 ∧ ∀ i, (h : i < es.length) → ∃ b o, a = some ⟨b, o, none⟩ ∧ P b ∧ EvOne P w b (o + i * 7) es[i]
theorem EvsAt.carry {P Q : Nat → Prop} {w w' : World} {v : Value} {es : List Ev} (h : EvsAt P w v es) (hP : ∀ b, P b → w'.heap[b]? = w.heap[b]?) (hQ : ∀ b, P b → Q b) : EvsAt Q w' v es := by
  obtain ⟨a, cap, h1, h2, h3⟩ := h
  refine ⟨a, cap, h1, h2, fun i hi => ?_⟩
  obtain ⟨b, o, e, p, hc⟩ := h3 i hi
  exact ⟨b, o, e, hQ b p, hc.carry (hP b p) hP hQ⟩
end Go.Proofs.YtbigchdhpdgicaaDoor

/- When a tree is ok, as plain functions on data: names, texts, a tree without its kids, its parts. Definitions and small laws, no program. No conditions. -/

namespace Go.Proofs.YtbigchdhpdgicaaDoor
open Go Go.RowKit

def nameByte (c : UInt8) : Bool := (97 ≤ c.toNat && c.toNat ≤ 122) || (48 ≤ c.toNat && c.toNat ≤ 57)
def nameFirst (c : UInt8) : Bool := 97 ≤ c.toNat && c.toNat ≤ 122
def textByte (c : UInt8) : Bool := 32 ≤ c.toNat && c.toNat ≤ 126 && c.toNat != 34

/-- The first k bytes are such. -/
def allTo (p : UInt8 → Bool) (s : ByteArray) (k : Nat) : Prop := ∀ j, j < k → (h : j < s.size) → p s[j] = true

def nameOkB (s : ByteArray) : Bool := 1 ≤ s.size && s.size ≤ 8 && nameFirst s[0]! && s.data.toList.all nameByte
def textOkB (s : ByteArray) : Bool := s.size ≤ 60 && s.data.toList.all textByte

theorem all_of {p : UInt8 → Bool} {s : ByteArray} (h : allTo p s s.size) : s.data.toList.all p = true := by
  rw [List.all_eq_true]
  intro x hx
  obtain ⟨i, hi, rfl⟩ := List.getElem_of_mem hx
  have hi' : i < s.size := by simpa using hi
  exact h i hi' hi'

theorem all_not {p : UInt8 → Bool} {s : ByteArray} {k : Nat} (hk : k < s.size) (h : p s[k] = false) : s.data.toList.all p = false := by
  rw [Bool.eq_false_iff]
  intro ha
  rw [List.all_eq_true] at ha
  have := ha s[k] (by have : s[k] = s.data.toList[k]'(by simpa using hk) := rfl; rw [this]; exact List.getElem_mem _)
  rw [h] at this
  cases this

theorem ret_bool {b c : Bool} (h : b = c) : Ending.returned (.bool b) = .returned (.bool c) := by rw [h]

theorem textOk_not {s : ByteArray} {k : Nat} (hk : k < s.size) (h : textByte s[k] = false) : textOkB s = false := by
  simp [textOkB, all_not hk h]
theorem textOk_yes {s : ByteArray} (h : s.size ≤ 60) (ha : allTo textByte s s.size) : textOkB s = true := by
  simp [textOkB, h]; simpa using all_of ha
theorem textByte_no {c : UInt8} (h : c.toNat < 32 ∨ 126 < c.toNat ∨ c.toNat = 34) : textByte c = false := by
  unfold textByte; rcases h with h | h | h
  · rw [show decide (32 ≤ c.toNat) = false from by simp; omega]; rfl
  · rw [show decide (c.toNat ≤ 126) = false from by simp; omega]; simp
  · rw [h]; rfl
theorem textByte_yes {c : UInt8} (h : 32 ≤ c.toNat ∧ c.toNat ≤ 126 ∧ c.toNat ≠ 34) : textByte c = true := by
  unfold textByte; simp [h.1, h.2.1, h.2.2]
theorem allTo_succ {p : UInt8 → Bool} {s : ByteArray} {k : Nat} (h : allTo p s k) (hk : k < s.size) (hp : p s[k] = true) : allTo p s (k + 1) := by
  intro j hj hs
  by_cases e : j = k
  · subst e; exact hp
  · exact h j (by omega) hs

theorem nameByte_yes {c : UInt8} (h : (97 ≤ c.toNat ∧ c.toNat ≤ 122) ∨ (48 ≤ c.toNat ∧ c.toNat ≤ 57)) : nameByte c = true := by
  unfold nameByte; rcases h with h | h <;> simp [h.1, h.2]
theorem nameByte_no {c : UInt8} (h : c.toNat < 48 ∨ (57 < c.toNat ∧ c.toNat < 97) ∨ 122 < c.toNat) : nameByte c = false := by
  unfold nameByte
  simp only [Bool.or_eq_false_iff, Bool.and_eq_false_iff, decide_eq_false_iff_not]
  omega
theorem nameOk_len {s : ByteArray} (h : s.size < 1 ∨ 8 < s.size) : nameOkB s = false := by
  unfold nameOkB
  rcases h with h | h
  · rw [show decide (1 ≤ s.size) = false from decide_eq_false (by omega)]; rfl
  · rw [show decide (s.size ≤ 8) = false from decide_eq_false (by omega)]; simp
theorem nameOk_first {s : ByteArray} (h0 : 0 < s.size) (h : s[0].toNat < 97 ∨ 122 < s[0].toNat) : nameOkB s = false := by
  unfold nameOkB
  rw [getElem!_pos s 0 h0, show nameFirst s[0] = false from by unfold nameFirst; simp only [Bool.and_eq_false_iff, decide_eq_false_iff_not]; omega]
  simp
theorem nameOk_not {s : ByteArray} {k : Nat} (hk : k < s.size) (h : nameByte s[k] = false) : nameOkB s = false := by
  simp [nameOkB, all_not hk h]
theorem nameOk_yes {s : ByteArray} (h1 : 0 < s.size) (h2 : s.size ≤ 8) (hf : 97 ≤ s[0].toNat ∧ s[0].toNat ≤ 122) (ha : allTo nameByte s s.size) : nameOkB s = true := by
  unfold nameOkB
  rw [all_of ha, getElem!_pos s 0 h1, show nameFirst s[0] = true from by unfold nameFirst; simp [hf.1, hf.2]]
  simp; omega

theorem getD_lt (l : List ByteArray) (i : Nat) (h : i < l.length) : l.getD i ByteArray.empty = l[i] := by simp [h]

/-- Name i of a list is a name, and comes behind the one ahead of it. -/
def good (ns : List ByteArray) (i : Nat) : Bool := nameOkB (ns.getD i ByteArray.empty) && (decide (i = 0) || Op.bytesLess (ns.getD (i - 1) ByteArray.empty).toList (ns.getD i ByteArray.empty).toList)
def riseB (ns : List ByteArray) : Bool := (List.range ns.length).all (good ns)
theorem rise_yes {ns : List ByteArray} (h : ∀ i, i < ns.length → good ns i = true) : riseB ns = true := by
  unfold riseB; rw [List.all_eq_true]; intro i hi; exact h i (List.mem_range.1 hi)
theorem rise_no {ns : List ByteArray} {i : Nat} (hi : i < ns.length) (h : good ns i = false) : riseB ns = false := by
  unfold riseB; rw [Bool.eq_false_iff]; intro ha; rw [List.all_eq_true] at ha
  have := ha i (List.mem_range.2 hi); rw [h] at this; cases this
theorem good_name {ns : List ByteArray} {i : Nat} (hi : i < ns.length) (h : nameOkB ns[i] = false) : good ns i = false := by
  unfold good; rw [getD_lt _ _ hi, h]; rfl
theorem good_zero {ns : List ByteArray} (hi : 0 < ns.length) (h : nameOkB ns[0] = true) : good ns 0 = true := by
  unfold good; rw [getD_lt _ _ hi, h]; rfl
theorem good_pos {ns : List ByteArray} {i : Nat} (hi : i < ns.length) (h0 : 0 < i) (h : nameOkB ns[i] = true) : good ns i = Op.bytesLess (ns[i - 1]'(by omega)).toList ns[i].toList := by
  unfold good; rw [getD_lt _ _ hi, getD_lt _ _ (show i - 1 < ns.length by omega), h, decide_eq_false (by omega)]; simp

/-- A tree is ok, but for its kids. -/
def aloneB (t : Tr) : Bool :=
  if t.sort = 1 then decide (-999999999 ≤ t.num ∧ t.num ≤ 999999999) && decide (t.text.toList = []) && decide (t.names.length = 0) && decide (t.kids.length = 0)
  else if t.sort = 2 then decide (t.num = 0) && textOkB t.text && decide (t.names.length = 0) && decide (t.kids.length = 0)
  else if t.sort = 3 then decide (0 ≤ t.num ∧ t.num ≤ 1) && decide (t.text.toList = []) && decide (t.names.length = 0) && decide (t.kids.length = 0)
  else if t.sort = 4 then decide (t.num = 0) && decide (t.text.toList = []) && decide (t.names.length = 0) && decide (t.kids.length ≤ 20)
  else if t.sort = 5 then decide (t.num = 0) && decide (t.text.toList = []) && decide (t.names.length = t.kids.length) && riseB t.names
  else if t.sort = 6 then decide (t.num = 0) && decide (t.text.toList = []) && decide (t.names.length = 0) && decide (t.kids.length ≤ 1)
  else false

mutual
/-- The parts of a tree that is so deep, as the specification counts them; -1, if it is not ok. -/
def pT : Tr → Int → Int
  | .mk s n tx ns ks, d => if 6 < d ∨ aloneB (.mk s n tx ns ks) = false then -1 else pK ks d 1
def pK : List Tr → Int → Int → Int
  | [], _, n => n
  | t :: r, d, n => if pT t (d + 1) < 0 ∨ 120 < n + pT t (d + 1) then -1 else pK r d (n + pT t (d + 1))
end

theorem pT_eq (t : Tr) (d : Int) : pT t d = if 6 < d ∨ aloneB t = false then -1 else pK t.kids d 1 := by
  obtain ⟨s, n, tx, ns, ks⟩ := t
  rw [pT]; rfl

theorem pK_bd (ks : List Tr) (d n : Int) (h0 : 1 ≤ n) (h1 : n ≤ 120) : pK ks d n = -1 ∨ (1 ≤ pK ks d n ∧ pK ks d n ≤ 120) := by
  induction ks generalizing n with
  | nil => rw [pK]; omega
  | cons t r ih =>
    rw [pK]
    split
    · exact Or.inl rfl
    · exact ih _ (by omega) (by omega)

theorem pT_bd (t : Tr) (d : Int) : pT t d = -1 ∨ (1 ≤ pT t d ∧ pT t d ≤ 120) := by
  rw [pT_eq]
  split
  · exact Or.inl rfl
  · exact pK_bd _ _ _ (by omega) (by omega)

theorem pK_step {ks : List Tr} {k : Nat} (hk : k < ks.length) (d n : Int) : pK (ks.drop k) d n = if pT ks[k] (d + 1) < 0 ∨ 120 < n + pT ks[k] (d + 1) then -1 else pK (ks.drop (k + 1)) d (n + pT ks[k] (d + 1)) := by
  rw [List.drop_eq_getElem_cons hk, pK]

/-- A tree has just what its sort has. -/
def ownB (t : Tr) : Bool :=
  if t.sort = 1 then decide (t.text.toList = []) && decide (t.names = []) && decide (t.kids.length = 0)
  else if t.sort = 2 then decide (t.num = 0) && decide (t.names = []) && decide (t.kids.length = 0)
  else if t.sort = 3 then decide (t.text.toList = []) && decide (t.names = []) && decide (t.kids.length = 0)
  else if t.sort = 4 then decide (t.num = 0) && decide (t.text.toList = []) && decide (t.names = [])
  else if t.sort = 5 then decide (t.num = 0) && decide (t.text.toList = [])
  else if t.sort = 6 then decide (t.num = 0) && decide (t.text.toList = []) && decide (t.names = [])
  else false

/-- What a tree has is as its sort wants it. -/
def newB (t : Tr) : Bool :=
  if t.sort = 1 then decide (-999999999 ≤ t.num ∧ t.num ≤ 999999999)
  else if t.sort = 2 then textOkB t.text
  else if t.sort = 3 then decide (0 ≤ t.num ∧ t.num ≤ 1)
  else if t.sort = 4 then decide (t.kids.length ≤ 20)
  else if t.sort = 5 then decide (t.names.length = t.kids.length) && riseB t.names
  else if t.sort = 6 then decide (t.kids.length ≤ 1)
  else false

theorem alone_eq (t : Tr) : aloneB t = (ownB t && newB t) := by
  unfold aloneB ownB newB
  split
  · rw [Bool.eq_iff_iff]; simp; grind
  split
  · rw [Bool.eq_iff_iff]; simp; grind
  split
  · rw [Bool.eq_iff_iff]; simp; grind
  split
  · rw [Bool.eq_iff_iff]; simp
  split
  · rw [Bool.eq_iff_iff]; simp; grind
  split
  · rw [Bool.eq_iff_iff]; simp
  rfl

end Go.Proofs.YtbigchdhpdgicaaDoor

/- The bytes of texts, numbers, trees and events, and how many they are. No program, no conditions. -/

namespace Go.Proofs.YtbigchdhpdgicaaDoor
open Go Go.RowKit

def shortB (s : ByteArray) : List UInt8 := UInt8.ofNat s.size :: s.data.toList
theorem shortB_len (s : ByteArray) : (shortB s).length = s.size + 1 := by
  simp [shortB]

/-- Seven bits a byte, the lowest first. -/
def sevB (n : Nat) : List UInt8 := if 127 < n then UInt8.ofNat (128 + n % 128) :: sevB (n / 128) else [UInt8.ofNat n]
termination_by n
decreasing_by omega
theorem sevB_more {n : Nat} (h : 127 < n) : sevB n = UInt8.ofNat (128 + n % 128) :: sevB (n / 128) := by rw [sevB, if_pos h]
theorem sevB_last {n : Nat} (h : ¬ 127 < n) : sevB n = [UInt8.ofNat n] := by rw [sevB, if_neg h]
theorem sevB_len {n : Nat} (h : n ≤ 999999999) : (sevB n).length ≤ 5 := by
  by_cases h1 : 127 < n
  · rw [sevB_more h1]
    by_cases h2 : 127 < n / 128
    · rw [sevB_more h2]
      by_cases h3 : 127 < n / 128 / 128
      · rw [sevB_more h3]
        by_cases h4 : 127 < n / 128 / 128 / 128
        · rw [sevB_more h4, sevB_last (by omega)]; simp
        · rw [sevB_last h4]; simp
      · rw [sevB_last h3]; simp
    · rw [sevB_last h2]; simp
  · rw [sevB_last h1]; simp

def numB (n : Int) : List UInt8 := (if n < 0 then 1 else 0) :: sevB n.natAbs

mutual
def treeB : Tr → List UInt8
  | .mk s n tx ns ks => UInt8.ofNat s.toNat :: (if s = 1 then numB n else if s = 2 then shortB tx else if s = 3 then [UInt8.ofNat n.toNat] else UInt8.ofNat ks.length :: kidsB (decide (s = 5)) ns ks)
def kidsB (form : Bool) : List ByteArray → List Tr → List UInt8
  | _, [] => []
  | ns, k :: r => (if form then shortB (ns.headD ByteArray.empty) else []) ++ (treeB k ++ kidsB form ns.tail r)
end

theorem treeB_eq (t : Tr) : treeB t = UInt8.ofNat t.sort.toNat :: (if t.sort = 1 then numB t.num else if t.sort = 2 then shortB t.text else if t.sort = 3 then [UInt8.ofNat t.num.toNat] else UInt8.ofNat t.kids.length :: kidsB (decide (t.sort = 5)) t.names t.kids) := by
  obtain ⟨s, n, tx, ns, ks⟩ := t
  rw [treeB]; rfl

theorem kidsB_take (form : Bool) : ∀ (ns : List ByteArray) (ks : List Tr) (k : Nat) (hk : k < ks.length), kidsB form ns (ks.take (k + 1)) = kidsB form ns (ks.take k) ++ ((if form then shortB (ns.getD k ByteArray.empty) else []) ++ treeB ks[k])
  | _, [], k, hk => by simp at hk
  | ns, a :: r, 0, _ => by
    simp only [List.take_succ_cons, List.take_zero, kidsB, List.nil_append, List.append_nil, List.getElem_cons_zero]
    cases ns <;> rfl
  | ns, a :: r, k + 1, hk => by
    have ih := kidsB_take form ns.tail r k (by simpa using hk)
    simp only [List.take_succ_cons, kidsB, List.getElem_cons_succ]
    rw [ih]
    have : ns.tail.getD k ByteArray.empty = ns.getD (k + 1) ByteArray.empty := by cases ns <;> simp
    rw [this]
    simp [List.append_assoc]

theorem kidsB_le (form : Bool) : ∀ (ns : List ByteArray) (ks : List Tr) (k : Nat), (kidsB form ns (ks.take k)).length ≤ (kidsB form ns ks).length
  | _, [], k => by simp
  | ns, a :: r, 0 => by simp [kidsB]
  | ns, a :: r, k + 1 => by
    have := kidsB_le form ns.tail r k
    simp only [List.take_succ_cons, kidsB, List.length_append]
    omega

/-- What is known of a tree that is ok, by its sort. -/
theorem ok_sort {t : Tr} {d : Int} (h : 0 < pT t d) : t.sort = 1 ∨ t.sort = 2 ∨ t.sort = 3 ∨ t.sort = 4 ∨ t.sort = 5 ∨ t.sort = 6 := by
  rw [pT_eq] at h
  split at h
  · omega
  · rename_i hn
    have ha : aloneB t = true := by simpa using (not_or.1 hn).2
    unfold aloneB at ha
    by_cases h1 : t.sort = 1; · omega
    by_cases h2 : t.sort = 2; · omega
    by_cases h3 : t.sort = 3; · omega
    by_cases h4 : t.sort = 4; · omega
    by_cases h5 : t.sort = 5; · omega
    by_cases h6 : t.sort = 6; · omega
    simp [h1, h2, h3, h4, h5, h6] at ha

theorem ok_alone {t : Tr} {d : Int} (h : 0 < pT t d) : aloneB t = true ∧ d ≤ 6 ∧ pT t d = pK t.kids d 1 := by
  rw [pT_eq] at h ⊢
  split at h
  · omega
  · rename_i hn
    have hn' := not_or.1 hn
    rw [if_neg hn]
    exact ⟨by simpa using hn'.2, by omega, rfl⟩

theorem ok_num {t : Tr} {d : Int} (h : 0 < pT t d) (h1 : t.sort = 1) : -999999999 ≤ t.num ∧ t.num ≤ 999999999 := by
  have ha := (ok_alone h).1
  unfold aloneB at ha
  simp [h1] at ha
  omega
theorem ok_text {t : Tr} {d : Int} (h : 0 < pT t d) (h1 : t.sort = 2) : t.text.size ≤ 60 := by
  have ha := (ok_alone h).1
  unfold aloneB at ha
  simp [h1, textOkB] at ha
  omega
theorem ok_flag {t : Tr} {d : Int} (h : 0 < pT t d) (h1 : t.sort = 3) : 0 ≤ t.num ∧ t.num ≤ 1 := by
  have ha := (ok_alone h).1
  unfold aloneB at ha
  simp [h1] at ha
  omega
theorem ok_names {t : Tr} {d : Int} (h : 0 < pT t d) (h1 : t.sort = 5) : t.names.length = t.kids.length ∧ ∀ s ∈ t.names, s.size ≤ 8 := by
  have ha := (ok_alone h).1
  unfold aloneB at ha
  simp [h1] at ha
  refine ⟨ha.1.2, fun s hs => ?_⟩
  obtain ⟨i, hi, rfl⟩ := List.getElem_of_mem hs
  have hg := ha.2
  unfold riseB at hg
  rw [List.all_eq_true] at hg
  have := hg i (List.mem_range.2 hi)
  unfold good nameOkB at this
  rw [getD_lt _ _ hi] at this
  simp at this
  omega

theorem pK_pos : ∀ (ks : List Tr) (d n : Int), 0 < pK ks d n → ∀ k, (hk : k < ks.length) → 0 < pT ks[k] (d + 1)
  | [], _, _, _, k, hk => by simp at hk
  | t :: r, d, n, h, k, hk => by
    rw [pK] at h
    split at h
    · omega
    · rename_i hn
      have hn' := not_or.1 hn
      cases k with
      | zero =>
        have := pT_bd t (d + 1)
        simp only [List.getElem_cons_zero]
        omega
      | succ k => exact pK_pos r d _ h k (by simpa using hk)
theorem pK_count : ∀ (ks : List Tr) (d n : Int), 0 < pK ks d n → n + ks.length ≤ pK ks d n
  | [], _, n, _ => by rw [pK]; simp
  | t :: r, d, n, h => by
    rw [pK] at h ⊢
    split at h
    · omega
    · rename_i hn
      rw [if_neg hn]
      have hn' := not_or.1 hn
      have := pK_count r d _ h
      have := pT_bd t (d + 1)
      simp
      omega
theorem ok_kid {t : Tr} {d : Int} (h : 0 < pT t d) (k : Nat) (hk : k < t.kids.length) : 0 < pT t.kids[k] (d + 1) := by
  rw [(ok_alone h).2.2] at h
  exact pK_pos _ _ _ h k hk
theorem ok_many {t : Tr} {d : Int} (h : 0 < pT t d) : t.kids.length ≤ 119 := by
  have hb := pT_bd t d
  have he := (ok_alone h).2.2
  rw [he] at h hb
  have := pK_count _ _ _ h
  omega

mutual
theorem treeB_len : ∀ (t : Tr) (d : Int), 0 < pT t d → ((treeB t).length : Int) + 9 ≤ 71 * pT t d
  | .mk s n tx ns ks, d => by
    intro h
    have hs := ok_sort h
    have hnum := ok_num h
    have htext := ok_text h
    have hnames := ok_names h
    have he := (ok_alone h).2.2
    have h' := h
    rw [he] at h' ⊢
    have hbase : (1 : Int) ≤ pK ks d 1 := h'
    simp only [Tr.sort, Tr.num, Tr.text, Tr.names, Tr.kids] at *
    rw [treeB]
    by_cases h1 : s = 1
    · subst h1
      have hl := sevB_len (n := n.natAbs) (by have := hnum rfl; omega)
      simp [numB]
      omega
    by_cases h2 : s = 2
    · subst h2
      have := htext rfl
      have := shortB_len tx
      simp [this]
      omega
    by_cases h3 : s = 3
    · subst h3
      simp
      omega
    rw [if_neg h1, if_neg h2, if_neg h3]
    have hk := kidsB_len (decide (s = 5)) ns ks d 1 (fun hf x hx => (hnames (by simpa using hf)).2 x hx) h'
    simp
    omega
theorem kidsB_len (form : Bool) : ∀ (ns : List ByteArray) (ks : List Tr) (d n : Int), (form = true → ∀ s ∈ ns, s.size ≤ 8) → 0 < pK ks d n → ((kidsB form ns ks).length : Int) + 71 * n ≤ 71 * pK ks d n
  | ns, [], d, n, _, h => by rw [kidsB, pK]; simp
  | ns, t :: r, d, n, hn, h => by
    rw [pK] at h ⊢
    split at h
    · omega
    · rename_i hh
      rw [if_neg hh]
      have hh' := not_or.1 hh
      have hp : 0 < pT t (d + 1) := by have := pT_bd t (d + 1); omega
      have i1 := treeB_len t (d + 1) hp
      have i2 := kidsB_len form ns.tail r d _ (fun hf s hs => hn hf s (List.mem_of_mem_tail hs)) h
      rw [kidsB]
      have i3 : (if form then shortB (ns.headD ByteArray.empty) else []).length ≤ 9 := by
        split
        · rename_i hf
          rw [shortB_len]
          cases ns with
          | nil => simp
          | cons a _ => have := hn hf a (by simp); simp; omega
        · simp
      simp only [List.length_append]
      omega
end

def eventB (ty : ByteArray) (ver : Int) (t : Tr) : List UInt8 := (shortB ty ++ [UInt8.ofNat ver.toNat]) ++ treeB t
theorem eventB_len {ty : ByteArray} {ver : Int} {t : Tr} {d : Int} (h1 : ty.size ≤ 8) (h : 0 < pT t d) : (eventB ty ver t).length ≤ 9000 := by
  have a := treeB_len t d h
  have b := pT_bd t d
  have c := shortB_len ty
  simp only [eventB, List.length_append, List.length_cons, List.length_nil, c]
  omega
end Go.Proofs.YtbigchdhpdgicaaDoor

/- Worlds of which but one block is as it was; append onto a row of the call's own. No program walked, no conditions. -/

namespace Go.Proofs.YtbigchdhpdgicaaDoor
open Go Go.RowKit

/-- All blocks but B that were there are as they were. -/
abbrev But (B : Nat) (w w' : World) : Prop := w.grownBy w' (some B)

theorem But.refl (B : Nat) (w : World) : But B w w := World.grownBy.refl w _
theorem But.trans {B : Nat} {a b c : World} (h : But B a b) (k : But B b c) : But B a c :=
  ⟨k.os.trans h.os, k.tape.trans h.tape, k.output.trans h.output, Nat.le_trans h.size k.size, fun i hi hne => (k.block i (Nat.lt_of_lt_of_le hi h.size) hne).trans (h.block i hi hne)⟩
theorem But.of_below {B : Nat} {w w' : World} (h : Below w.heap.size w w') : But B w w' :=
  ⟨h.os, h.tape, h.output, h.size, fun i hi _ => h.block i hi⟩
theorem But.alloc (B : Nat) (w : World) (o : Obj) : But B w (w.alloc o) := But.of_below ((Below.refl _ _).alloc (Nat.le_refl _) o)
theorem But.set {B : Nat} (w : World) (o : Nat) (v : Value) : But B w (w.setCell ⟨B, o, none⟩ v) :=
  ⟨rfl, rfl, rfl, by simp [World.setCell], fun i _ hne => Below.heap_setCell _ _ _ _ (fun e => hne (by rw [e]))⟩
theorem But.at {B : Nat} {w w' : World} (h : But B w w') {b : Nat} (hb : b < w.heap.size) (hne : b ≠ B) : w'.heap[b]? = w.heap[b]? :=
  h.block b hb (fun e => hne (by simpa using e))

theorem ownsRow_base {w : World} {base base' : Nat} {e : TypeId} {size : Nat} {v : Value} {n : Nat} {xs : List Value} (h : w.ownsRow base e size v n xs) (hb : base' ≤ base) : w.ownsRow base' e size v n xs := by
  refine ⟨h.1, ?_⟩
  rcases h.2 with h | ⟨g, cap, cur, h1, h2, h3⟩
  · exact Or.inl h
  · exact Or.inr ⟨g, cap, cur, h1, Nat.le_trans hb h2, h3⟩

/-- append onto a row of the call's own: behind it the value lies in the same block, or in a new one. -/
theorem append_row {P : Program} (w : World) {ops : Array Oper} {rest : List Oper} {o : Oper} {a : Act} {Q : Exit → Act → World → Prop}
    (hg : o.guard = none) (s x : Operand) (t : TypeId) (hop : o.op = Op.call { callee := Callee.builtin Builtin.append, args := #[s, x], argTypes := #[t, t] })
    (base : Nat) (e : TypeId) (i : TypeInfo) (z : Value) (size bytes : Nat) (h1 : P.underlying t = some (.slice e)) (h2 : P.info? e = some i) (h3 : i.zero = some z) (h4 : i.size = size) (h5 : i.bytes = bytes) (h6 : z.cells.size = size) (h7 : 0 < size)
    (v : Value) (n : Nat) (xs : List Value) (hs : a.eval s = v) (hown : w.ownsRow base e size v n xs)
    (ad : Addr) (m c : Nat) (news : List Value) (hx : a.eval x = .slice (some ad) m c) (hn : news.length = m * size) (hc : ∀ j u, news[j]? = some u → w.cell? (ad.add j) = some u) (h1c : ∀ u ∈ news, u.oneCell' = true)
    (hm : 0 < m) (b1 : n + m ≤ maxLen) (b2 : (n + m) * bytes ≤ 140737488355328) (hbase : base ≤ w.heap.size)
    (hK : ∀ v' w', w'.ownsRow base e size v' (n + m) (xs ++ news) → w.grownBy w' v.ownBlock → (v'.ownBlock = v.ownBlock ∨ ∃ g, v'.ownBlock = some g ∧ w.heap.size ≤ g) → wpList P ops Q rest (a.put o.dst v') w') :
    wpList P ops Q (o :: rest) a w := by
  have hgrow : ∀ v' w', w'.ownsRow w.heap.size e size v' (n + m) (xs ++ news) → w.grownBy w' none → wpList P ops Q rest (a.put o.dst v') w' := fun v' w' r1 r2 => by
    refine hK v' w' (ownsRow_base r1 hbase) ⟨r2.os, r2.tape, r2.output, r2.size, fun k hk _ => r2.block k hk (by simp)⟩ (Or.inr ?_)
    rcases r1.2 with ⟨_, h⟩ | ⟨g, cap, cur, hv, hgg, _⟩
    · omega
    · exact ⟨g, by rw [hv]; rfl, hgg⟩
  rcases hown.2 with ⟨hv, hn0⟩ | ⟨g, cap, cur, hv, hgb, hh, hle, hm2, hsz, htk⟩
  · subst hv; subst hn0
    have hxs : xs = [] := List.eq_nil_of_length_eq_zero (by have := hown.1; simpa using this)
    subst hxs
    exact wpList_append_grows w hg s x t hop e i z size bytes h1 h2 h3 h4 h5 h6 h7 none 0 0 [] hs (fun _ => ⟨rfl, rfl⟩) (by simp) (fun b hb => by cases hb) ad m c news hx hn hc h1c (by omega) b1 b2 hgrow
  · by_cases hr : n + m ≤ cap
    · subst hv
      exact wpList_append_fits w hg s x t hop base e i size h1 h2 h4 g n cap xs hs hown ad m c news hx hn hc h1c hr fun w' r1 r2 => hK _ w' r1 r2 (Or.inl rfl)
    · refine wpList_append_grows w hg s x t hop e i z size bytes h1 h2 h3 h4 h5 h6 h7 (some ⟨g, 0, none⟩) n cap xs (by rw [hs, hv]) (fun hb => by cases hb) hown.1 (fun b hb j u hj => ?_) ad m c news hx hn hc h1c (by omega) b1 b2 hgrow
      simp only [Option.some.injEq] at hb
      subst hb
      have hj' : cur.toList[j]? = some u := by
        rw [← htk] at hj
        rw [List.getElem?_take] at hj
        split at hj
        · exact hj
        · cases hj
      rw [Addr.add_lit]
      simp only [Nat.zero_add, World.cell?, hh]
      simpa using hj'

theorem cell_one (w : World) (x : Value) (t : TypeId) : ∀ j u, [x][j]? = some u → (w.alloc (.cells #[x] t)).cell? ((⟨w.heap.size, 0, none⟩ : Addr).add j) = some u := by
  intro j u hj
  match j with
  | 0 => simp only [List.getElem?_cons_zero, Option.some.injEq] at hj; subst hj; rw [Addr.add_lit]; simp [go_sem]
  | j + 1 => simp at hj
end Go.Proofs.YtbigchdhpdgicaaDoor

/- Rows of bytes of a call's own, and appends onto them. No program walked, no conditions. -/

namespace Go.Proofs.YtbigchdhpdgicaaDoor
open Go Go.RowKit

/-- Bytes as cells. -/
def bc (l : List UInt8) : List Value := l.map fun b => Value.int .u8 b.toNat
theorem bc_append (a b : List UInt8) : bc (a ++ b) = bc a ++ bc b := List.map_append
theorem bc_str (s : ByteArray) : Lib.strCells s = bc s.data.toList := rfl
theorem bc_len (l : List UInt8) : (bc l).length = l.length := List.length_map _

/-- A row of bytes of the call's own. -/
def ByRow (base : Nat) (w : World) (v : Value) (l : List UInt8) : Prop := w.ownsRow base 5 1 v l.length (bc l)

theorem infoU8 : (Tryd.prog.info? 5).map (fun i => (i.zero, i.size, i.bytes)) = some (some (.int .u8 0), 1, 1) := by kernel_rfl

theorem ByRow.slice {base : Nat} {w : World} {v : Value} {l : List UInt8} (h : ByRow base w v l) : ∃ a cap, v = .slice a l.length cap := by
  rcases h.2 with ⟨hv, h0⟩ | ⟨g, cap, cur, hv, _⟩
  · exact ⟨none, 0, by rw [hv, h0]⟩
  · exact ⟨_, cap, hv⟩

theorem ByRow.below {base : Nat} {w w' : World} {v : Value} {l : List UInt8} (h : ByRow base w v l) (hg : w.grownBy w' v.ownBlock) (hb : base ≤ w.heap.size) : Below base w w' :=
  (Below.refl base w).grown hg hb (fun k e => (h.lt k e).1)

theorem ByRow.str {base : Nat} {w : World} {v : Value} {l : List UInt8} (h : ByRow base w v l) : (convert 55 9 v).run Tryd.prog w = .ok (.string ⟨l.toArray⟩) w := by
  rcases h.2 with ⟨hv, h0⟩ | ⟨g, cap, cur, hv, hgb, hh, hle, hm2, hsz, htk⟩
  · have hl : l = [] := List.eq_nil_of_length_eq_zero h0
    subst hl hv
    rw [run_convert_bytes_string w 55 9 5 none 0 0 Tryd.underlying55 Tryd.underlying5 Tryd.underlying9]
    rfl
  · subst hv
    refine run_convert_bytes_back w 55 9 5 ⟨g, 0, none⟩ cap l Tryd.underlying55 Tryd.underlying5 Tryd.underlying9 (fun j hj => ?_)
    have h1 : (bc l)[j]? = some (.int .u8 (l[j].toNat : Int)) := by simp [bc, hj]
    exact h.cells (g := g) rfl j _ h1

theorem ByRow.form {base : Nat} {w : World} {v : Value} {l : List UInt8} (h : ByRow base w v l) (hl : 0 < l.length) : ∃ g cap, v = .slice (some ⟨g, 0, none⟩) l.length cap ∧ base ≤ g ∧ g < w.heap.size ∧ ∀ j u, (bc l)[j]? = some u → w.cell? ((⟨g, 0, none⟩ : Addr).add j) = some u := by
  rcases h.2 with ⟨hv, h0⟩ | ⟨g, cap, cur, hv, hb, _⟩
  · omega
  · exact ⟨g, cap, hv, hb, (h.lt g (by rw [hv]; rfl)).2, fun j u hj => h.cells (g := g) (by rw [hv]; rfl) j u hj⟩

/-- append onto a row of bytes, what is appended lying behind an address. -/
theorem append_bytes (w : World) {ops : Array Oper} {rest : List Oper} {o : Oper} {a : Act} {Q : Exit → Act → World → Prop}
    (hg : o.guard = none) (s x : Operand) (hop : o.op = Op.call { callee := Callee.builtin Builtin.append, args := #[s, x], argTypes := #[55, 55] })
    (base : Nat) (v : Value) (l news : List UInt8) (hs : a.eval s = v) (hown : ByRow base w v l)
    (ad : Addr) (m c : Nat) (hx : a.eval x = .slice (some ad) m c) (hm : m = news.length) (hc : ∀ j u, (bc news)[j]? = some u → w.cell? (ad.add j) = some u)
    (hlen : l.length + news.length ≤ 1099511627776) (hbase : base ≤ w.heap.size)
    (hK : ∀ a' n' cap' w', Hid (n' = (l ++ news).length) → Hid (ByRow base w' (.slice a' n' cap') (l ++ news)) → Hid (w.grownBy w' v.ownBlock) → wpList Tryd.prog ops Q rest (a.put o.dst (.slice a' n' cap')) w') :
    wpList Tryd.prog ops Q (o :: rest) a w := by
  obtain ⟨i0, hi, hz0, hz1, hz2⟩ := info_parts infoU8
  subst hm
  refine wpList_append_own w hg s x 55 hop base 5 i0 (.int .u8 0) 1 1 Tryd.underlying55 hi hz0 hz1 hz2 rfl (by decide) v l.length (bc l) hs hown ad news.length c (bc news) hx (by rw [bc_len, Nat.mul_one]) hc (fun u hu => ?_) (by unfold maxLen; omega) (by omega) hbase (fun v' w' r1 r2 _ => ?_)
  · obtain ⟨_, _, rfl⟩ := List.mem_map.1 hu
    rfl
  · have hr : ByRow base w' v' (l ++ news) := by
      show w'.ownsRow base 5 1 v' (l ++ news).length (bc (l ++ news))
      rw [bc_append, List.length_append]; exact r1
    obtain ⟨a', cap', rfl⟩ := hr.slice
    exact hK a' _ cap' w' rfl hr r2

/-- The same in a region that draws its order. -/
theorem step_append_bytes (w : World) {ops : Array Oper} {o : Oper} {a : Act} {K : Act → World → Prop} {Q : Exit → Act → World → Prop} {E : Prop}
    (hg : o.guard = none) (s x : Operand) (hop : o.op = Op.call { callee := Callee.builtin Builtin.append, args := #[s, x], argTypes := #[55, 55] })
    (base : Nat) (v : Value) (l news : List UInt8) (hs : a.eval s = v) (hown : ByRow base w v l)
    (ad : Addr) (m c : Nat) (hx : a.eval x = .slice (some ad) m c) (hm : m = news.length) (hpos : 0 < m) (hc : ∀ j u, (bc news)[j]? = some u → w.cell? (ad.add j) = some u)
    (hlen : l.length + news.length ≤ 1099511627776) (hbase : base ≤ w.heap.size)
    (hK : ∀ a' n' cap' w', Hid (n' = (l ++ news).length) → Hid (ByRow base w' (.slice a' n' cap') (l ++ news)) → Hid (w.grownBy w' v.ownBlock) → K (a.put o.dst (.slice a' n' cap')) w') :
    if Region.wanted o (yielded ops a.tmps) = true then Oper.wp Tryd.prog o a w K Q else E := by
  obtain ⟨i0, hi, hz0, hz1, hz2⟩ := info_parts infoU8
  subst hm
  refine step_append_lies w hg s x 55 hop base 5 i0 (.int .u8 0) 1 1 Tryd.underlying55 hi hz0 hz1 hz2 rfl (by decide) v l.length (bc l) hs hown ad news.length c (bc news) hx (by rw [bc_len, Nat.mul_one]) hc (fun u hu => ?_) hpos (by unfold maxLen; omega) (by omega) hbase _ rfl (fun g cap w' r1 r2 _ _ => ?_)
  · obtain ⟨_, _, rfl⟩ := List.mem_map.1 hu
    rfl
  · refine hK _ _ _ w' (by show _ = _; rw [List.length_append]) ?_ r2
    show w'.ownsRow base 5 1 _ (l ++ news).length (bc (l ++ news))
    rw [bc_append, List.length_append]; exact r1

/-- append of a string's bytes onto a row of bytes. -/
theorem append_string (w : World) {ops : Array Oper} {rest : List Oper} {o : Oper} {a : Act} {Q : Exit → Act → World → Prop}
    (hg : o.guard = none) (s x : Operand) (hop : o.op = Op.call { callee := Callee.builtin Builtin.append, args := #[s, x], argTypes := #[55, 9] })
    (base : Nat) (v : Value) (l : List UInt8) (tx : ByteArray) (hs : a.eval s = v) (hown : ByRow base w v l) (hx : a.eval x = .string tx)
    (hlen : l.length + tx.size ≤ 1099511627776) (hbase : base ≤ w.heap.size)
    (hK : ∀ a' n' cap' w', Hid (n' = (l ++ tx.data.toList).length) → Hid (ByRow base w' (.slice a' n' cap') (l ++ tx.data.toList)) → Hid (w.grownBy w' v.ownBlock) → wpList Tryd.prog ops Q rest (a.put o.dst (.slice a' n' cap')) w') :
    wpList Tryd.prog ops Q (o :: rest) a w := by
  obtain ⟨i0, hi, hz0, hz1, hz2⟩ := info_parts infoU8
  have hsz : tx.data.toList.length = tx.size := by simp
  refine Lib.wpList_append_own_string w hg s x 55 9 hop base 5 i0 Tryd.underlying55 Tryd.underlying9 hi hz0 hz1 hz2 v l.length (bc l) hs hown tx hx (by unfold maxLen; omega) (by omega) hbase (fun v' w' r1 r2 _ => ?_)
  have hr : ByRow base w' v' (l ++ tx.data.toList) := by
    show w'.ownsRow base 5 1 v' (l ++ tx.data.toList).length (bc (l ++ tx.data.toList))
    rw [bc_append, List.length_append, hsz, ← bc_str]; exact r1
  obtain ⟨a', cap', rfl⟩ := hr.slice
  exact hK a' _ cap' w' rfl hr r2

/-- One byte that was just built as a slice. -/
theorem byte_one (w : World) (x : UInt8) (t : TypeId) : ∀ j u, (bc [x])[j]? = some u → (w.alloc (.cells #[.int .u8 x.toNat] t)).cell? ((⟨w.heap.size, 0, none⟩ : Addr).add j) = some u := cell_one w _ t

theorem ByRow.fresh (w : World) (x : UInt8) : ByRow w.heap.size (w.alloc (.cells #[.int .u8 x.toNat] 5)) (.slice (some ⟨w.heap.size, 0, none⟩) 1 1) [x] := by
  refine ⟨rfl, Or.inr ⟨w.heap.size, 1, #[.int .u8 x.toNat], rfl, Nat.le_refl _, ?_, Nat.le_refl _, by decide, rfl, rfl⟩⟩
  show (w.heap.push _)[w.heap.size]? = _
  simp

theorem ByRow.of_one {w : World} {g base : Nat} {f : Nat → Value} (x : UInt8) (h : w.rowIs g 5 1 f) (hf : f 0 = .int .u8 x.toNat) (hb : base ≤ g) : ByRow base w (.slice (some ⟨g, 0, none⟩) 1 1) [x] := by
  obtain ⟨c, h1, h2, h3⟩ := h
  refine ⟨rfl, Or.inr ⟨g, 1, c, rfl, hb, h1, Nat.le_refl _, by decide, h2, ?_⟩⟩
  have h0 := h3 0 (by decide)
  rw [hf] at h0
  match c, h2, h0 with
  | ⟨[a]⟩, _, h0 => simp at h0; subst h0; rfl

theorem ByRow.base {base base' : Nat} {w : World} {v : Value} {l : List UInt8} (h : ByRow base w v l) (hb : base' ≤ base) : ByRow base' w v l := ownsRow_base h hb

/-- What '[]byte(s)' gives. -/
theorem bytes_of (w : World) (s : ByteArray) : ∃ cap W, (convert 9 55 (.string s)).run Tryd.prog w = .ok (.slice (some ⟨w.heap.size, 0, none⟩) s.size cap) W ∧ w.grownBy W none ∧ w.heap.size < W.heap.size ∧ ∀ j u, (bc s.data.toList)[j]? = some u → W.cell? ((⟨w.heap.size, 0, none⟩ : Addr).add j) = some u := by
  refine ⟨_, _, run_bytes_of_string w 9 55 5 s Tryd.underlying9 Tryd.underlying55 Tryd.underlying5, ?_, ?_, fun j u hj => ?_⟩
  · have h1 : w.grownBy w.drew none := ⟨rfl, rfl, rfl, Nat.le_refl _, fun _ _ _ => rfl⟩
    have h2 := World.grownBy_alloc w.drew (.cells (bytesRow s (grownCap w s.size 0 5)) 5 ((bytesRow s (grownCap w s.size 0 5)).size, (bytesRow s (grownCap w s.size 0 5)).size + 1)) none
    exact ⟨h2.os.trans h1.os, h2.tape.trans h1.tape, h2.output.trans h1.output, Nat.le_trans h1.size h2.size, fun i hi hne => (h2.block i (Nat.lt_of_lt_of_le hi h1.size) hne).trans (h1.block i hi hne)⟩
  · rw [World.size_alloc]; exact Nat.lt_succ_self _
  · have hj' : j < s.data.size := by
      have := (List.getElem?_eq_some_iff.1 hj).1
      simpa [bc] using this
    rw [Addr.add_lit]
    have hu : u = .int .u8 s.data[j].toNat := by
      simp [bc] at hj
      obtain ⟨a, ha, rfl⟩ := hj
      rw [Array.getElem?_eq_getElem hj'] at ha
      rw [Option.some.inj ha]
    subst hu
    show (w.drew.alloc _).cell? ⟨w.heap.size, 0 + j, none⟩ = _
    rw [Nat.zero_add]
    have hb : (w.drew.alloc (.cells (bytesRow s (grownCap w s.size 0 5)) 5 ((bytesRow s (grownCap w s.size 0 5)).size, (bytesRow s (grownCap w s.size 0 5)).size + 1))).heap[w.heap.size]? = some (.cells (bytesRow s (grownCap w s.size 0 5)) 5 ((bytesRow s (grownCap w s.size 0 5)).size, (bytesRow s (grownCap w s.size 0 5)).size + 1)) := by
      show (w.heap.push _)[w.heap.size]? = _
      simp
    simp only [World.cell?, hb]
    have hj2 : j < s.size := hj'
    simp [bytesRow, Array.getElem?_append, hj2]

theorem ByRow.of_block {base : Nat} {w w' : World} {v : Value} {l : List UInt8} (h : ByRow base w v l) (hb : ∀ g, v.ownBlock = some g → w'.heap[g]? = w.heap[g]?) : ByRow base w' v l := by
  refine ⟨h.1, ?_⟩
  rcases h.2 with h0 | ⟨g, cap, cur, hv, hb', hg, h5⟩
  · exact Or.inl h0
  · exact Or.inr ⟨g, cap, cur, hv, hb', by rw [hb g (by rw [hv]; rfl)]; exact hg, h5⟩
theorem ByRow.own {base : Nat} {w : World} {v : Value} {l : List UInt8} (h : ByRow base w v l) : ∀ g, v.ownBlock = some g → base ≤ g ∧ g < w.heap.size := fun g e => World.ownsRow.lt h g e
end Go.Proofs.YtbigchdhpdgicaaDoor
