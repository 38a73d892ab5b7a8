/- What a tree is as plain data, its weight, and how it lies in memory: definitions and small laws, no program. No conditions. -/
import Derived.WalkKit
import Derived.Deep.OwnRows
namespace Go.Proofs.YtcpfelaffclalaaGreatDoor
open Go Go.RowKit

theorem hide {p : Prop} (h : p) : Hid p := h
theorem unhide {p : Prop} (h : Hid p) : p := h

/-- A tree as plain data. -/
inductive Tr where
  | mk (sort num : Int) (text : ByteArray) (names : List ByteArray) (kids : List Tr)

namespace Tr
def sort : Tr → Int | mk s _ _ _ _ => s
def num : Tr → Int | mk _ n _ _ _ => n
def text : Tr → ByteArray | mk _ _ t _ _ => t
def names : Tr → List ByteArray | mk _ _ _ n _ => n
def kids : Tr → List Tr | mk _ _ _ _ k => k
end Tr

/-- A string list's weight. -/
def wS : List ByteArray → Nat
  | [] => 0
  | s :: r => s.size + 1 + wS r

mutual
def wT : Tr → Nat
  | .mk _ _ t n k => t.size + wS n + wK k
def wK : List Tr → Nat
  | [] => 0
  | t :: r => 1 + wT t + wK r
end

theorem wK_mem {t : Tr} {l : List Tr} (h : t ∈ l) : wT t + 1 ≤ wK l := by
  induction l with
  | nil => cases h
  | cons a r ih =>
    rw [wK]
    rcases List.mem_cons.1 h with rfl | h
    · omega
    · have := ih h; omega

theorem wK_len (l : List Tr) : l.length ≤ wK l := by
  induction l with
  | nil => simp [wK]
  | cons a r ih => rw [wK]; simp; omega

theorem wS_len (l : List ByteArray) : l.length ≤ wS l := by
  induction l with
  | nil => simp [wS]
  | cons a r ih => rw [wS]; simp; omega

/-- A slice value whose strings lie in the world, in blocks of which 'P' holds. -/
def StrsAt (P : Nat → Prop) (w : World) (v : Value) (ss : List ByteArray) : Prop :=
  ∃ a cap, v = .slice a ss.length cap ∧ ss.length ≤ 9223372036854775807 ∧
    ∀ i, (h : i < ss.length) → ∃ b o, a = some ⟨b, o, none⟩ ∧ P b ∧ w.cell? ⟨b, o + i, none⟩ = some (.string ss[i]) ∧ ss[i].size ≤ 9223372036854775807

/-- The five cells of a tree. -/
structure C5 where
  (c0 c1 c2 c3 c4 : Value)

/-- Five cells lie at an offset of a block. -/
def C5.at (w : World) (b o : Nat) (c : C5) : Prop :=
  w.cell? ⟨b, o, none⟩ = some c.c0 ∧ w.cell? ⟨b, o + 1, none⟩ = some c.c1 ∧ w.cell? ⟨b, o + 2, none⟩ = some c.c2 ∧ w.cell? ⟨b, o + 3, none⟩ = some c.c3 ∧ w.cell? ⟨b, o + 4, none⟩ = some c.c4

def I64 (n : Int) : Prop := -9223372036854775808 ≤ n ∧ n ≤ 9223372036854775807

mutual
/-- Five cells are a tree: all that they lead to lies in the world, in blocks of which 'P' holds. -/
def Rep (P : Nat → Prop) (w : World) : Tr → C5 → Prop
  | .mk s n t ns ks, c => c.c0 = .int .i64 s ∧ c.c1 = .int .i64 n ∧ c.c2 = .string t ∧ I64 s ∧ I64 n ∧ t.size ≤ 9223372036854775807 ∧ StrsAt P w c.c3 ns ∧
    ∃ a cap, c.c4 = .slice a ks.length cap ∧ ks.length ≤ 9223372036854775807 ∧ (ks ≠ [] → ∃ b o, a = some ⟨b, o, none⟩ ∧ P b ∧ RepK P w b o ks)
def RepK (P : Nat → Prop) (w : World) (b : Nat) (o : Nat) : List Tr → Prop
  | [] => True
  | t :: r => (∃ c, C5.at w b o c ∧ Rep P w t c) ∧ RepK P w b (o + 5) r
end

theorem RepK.get {P : Nat → Prop} {w : World} {b o : Nat} {ks : List Tr} (h : RepK P w b o ks) (i : Nat) (hi : i < ks.length) :
    ∃ c, C5.at w b (o + i * 5) c ∧ Rep P w ks[i] c := by
  induction ks generalizing o i with
  | nil => simp at hi
  | cons t r ih =>
    rw [RepK] at h
    cases i with
    | zero => exact h.1
    | succ i =>
      obtain ⟨c, h1, h2⟩ := ih h.2 i (by simpa using hi)
      exact ⟨c, by rw [show o + (i + 1) * 5 = o + 5 + i * 5 from by omega]; exact h1, h2⟩

theorem RepK.mk {P : Nat → Prop} {w : World} {b o : Nat} {ks : List Tr} (h : ∀ i, (hi : i < ks.length) → ∃ c, C5.at w b (o + i * 5) c ∧ Rep P w ks[i] c) : RepK P w b o ks := by
  induction ks generalizing o with
  | nil => rw [RepK]; trivial
  | cons t r ih =>
    rw [RepK]
    refine ⟨h 0 (by simp), ih fun i hi => ?_⟩
    obtain ⟨c, h1, h2⟩ := h (i + 1) (by simpa using hi)
    exact ⟨c, by rw [show o + 5 + i * 5 = o + (i + 1) * 5 from by omega]; exact h1, h2⟩

theorem C5.at.carry {w w' : World} {b o : Nat} {c : C5} (h : C5.at w b o c) (hb : w'.heap[b]? = w.heap[b]?) : C5.at w' b o c := by
  have e : ∀ o', w'.cell? ⟨b, o', none⟩ = w.cell? ⟨b, o', none⟩ := fun o' => World.cell?_of_block (w := w) hb
  obtain ⟨h0, h1, h2, h3, h4⟩ := h
  exact ⟨by rw [e]; exact h0, by rw [e]; exact h1, by rw [e]; exact h2, by rw [e]; exact h3, by rw [e]; exact h4⟩

theorem StrsAt.carry {P Q : Nat → Prop} {w w' : World} {v : Value} {ss : List ByteArray} (h : StrsAt P w v ss) (hP : ∀ b, P b → w'.heap[b]? = w.heap[b]?) (hQ : ∀ b, P b → Q b) : StrsAt Q w' v ss := by
  obtain ⟨a, cap, h1, h2, h3⟩ := h
  refine ⟨a, cap, h1, h2, fun i hi => ?_⟩
  obtain ⟨b, o, e, p, hc, hs⟩ := h3 i hi
  exact ⟨b, o, e, hQ b p, by rw [World.cell?_of_block (w := w) (hP b p)]; exact hc, hs⟩

mutual
theorem Rep.carry {P Q : Nat → Prop} {w w' : World} (hP : ∀ b, P b → w'.heap[b]? = w.heap[b]?) (hQ : ∀ b, P b → Q b) : ∀ (t : Tr) (c : C5), Rep P w t c → Rep Q w' t c
  | .mk s n t ns ks, c => by
    intro h
    rw [Rep] at h ⊢
    obtain ⟨h0, h1, h2, h3, h4, h5, h6, a, cap, h7, h8, h9⟩ := h
    refine ⟨h0, h1, h2, h3, h4, h5, h6.carry hP hQ, a, cap, h7, h8, fun hk => ?_⟩
    obtain ⟨b, o, e, p, hr⟩ := h9 hk
    exact ⟨b, o, e, hQ b p, RepK.carry hP hQ b o (hP b p) ks hr⟩
theorem RepK.carry {P Q : Nat → Prop} {w w' : World} (hP : ∀ b, P b → w'.heap[b]? = w.heap[b]?) (hQ : ∀ b, P b → Q b) (b : Nat) (o : Nat) (hb : w'.heap[b]? = w.heap[b]?) : ∀ (ks : List Tr), RepK P w b o ks → RepK Q w' b o ks
  | [] => by intro _; rw [RepK]; trivial
  | t :: r => by
    intro h
    rw [RepK] at h ⊢
    obtain ⟨⟨c, h1, h2⟩, h3⟩ := h
    exact ⟨⟨c, h1.carry hb, Rep.carry hP hQ t c h2⟩, RepK.carry hP hQ b (o + 5) hb r h3⟩
end

/-- A tree as the walks take it: what its kids' slice is, and each kid. -/
theorem Rep.open {P : Nat → Prop} {w : World} {t : Tr} {c : C5} (h : Rep P w t c) :
    c.c0 = .int .i64 t.sort ∧ c.c1 = .int .i64 t.num ∧ c.c2 = .string t.text ∧ I64 t.sort ∧ I64 t.num ∧ t.text.size ≤ 9223372036854775807 ∧ StrsAt P w c.c3 t.names ∧
    ∃ a cap, c.c4 = .slice a t.kids.length cap ∧ t.kids.length ≤ 9223372036854775807 ∧
      ∀ i, (hi : i < t.kids.length) → ∃ b o c, a = some ⟨b, o, none⟩ ∧ P b ∧ C5.at w b (o + i * 5) c ∧ Rep P w t.kids[i] c := by
  obtain ⟨s, n, tx, ns, ks⟩ := t
  rw [Rep] at h
  obtain ⟨h0, h1, h2, h3, h4, h5, h6, a, cap, h7, h8, h9⟩ := h
  refine ⟨h0, h1, h2, h3, h4, h5, h6, a, cap, h7, h8, fun i hi => ?_⟩
  obtain ⟨b, o, e, p, hr⟩ := h9 (fun hh => by subst hh; simp [Tr.kids] at hi)
  obtain ⟨c', h1', h2'⟩ := hr.get i hi
  exact ⟨b, o, c', e, p, h1', h2'⟩

theorem Rep.make {P : Nat → Prop} {w : World} {t : Tr} {v3 : Value} {b o cap : Nat} (h0 : I64 t.sort) (h1 : I64 t.num) (h2 : t.text.size ≤ 9223372036854775807) (h3 : StrsAt P w v3 t.names) (h4 : t.kids.length ≤ 9223372036854775807) (h5 : P b) (h6 : RepK P w b o t.kids) :
    Rep P w t ⟨.int .i64 t.sort, .int .i64 t.num, .string t.text, v3, .slice (some ⟨b, o, none⟩) t.kids.length cap⟩ := by
  obtain ⟨s, n, tx, ns, ks⟩ := t
  rw [Rep]
  exact ⟨rfl, rfl, rfl, h0, h1, h2, h3, _, _, rfl, h4, fun _ => ⟨b, o, rfl, h5, h6⟩⟩

mutual
def tsz : Tr → Nat
  | .mk _ _ _ _ k => 1 + lsz k
def lsz : List Tr → Nat
  | [] => 0
  | t :: r => tsz t + lsz r
end
theorem tsz_kid {t k : Tr} (h : k ∈ t.kids) : tsz k < tsz t := by
  obtain ⟨s, n, tx, ns, ks⟩ := t
  have : ∀ l : List Tr, k ∈ l → tsz k ≤ lsz l := by
    intro l
    induction l with
    | nil => intro h; cases h
    | cons a r ih =>
      intro h
      rw [lsz]
      rcases List.mem_cons.1 h with rfl | h
      · omega
      · have := ih h; omega
  have := this ks h
  rw [tsz]; omega

/-- In blocks that are new between two worlds. -/
def New (w w' : World) : Nat → Prop := fun b => w.heap.size ≤ b ∧ b < w'.heap.size

def row5 (c0 c1 c2 c3 c4 : Value) : Nat → Value
  | 0 => c0
  | 1 => c1
  | 2 => c2
  | 3 => c3
  | _ => c4

theorem row5_alloc (w : World) (c0 c1 c2 c3 c4 : Value) (t : TypeId) : (w.alloc (.cells #[c0, c1, c2, c3, c4] t)).rowIs w.heap.size t 5 (row5 c0 c1 c2 c3 c4) :=
  World.rowIs_alloc w #[c0, c1, c2, c3, c4] t _ (fun i hi => by
    have hi' : i < 5 := hi
    match i, hi' with
    | 0, _ => rfl
    | 1, _ => rfl
    | 2, _ => rfl
    | 3, _ => rfl
    | 4, _ => rfl)

theorem box1 {w w1 : World} {x0 x1 x2 x3 x4 : Value} {tx : TypeId}
    (hb : Below (w.alloc (.cells #[x0, x1, x2, x3, x4] tx)).heap.size (w.alloc (.cells #[x0, x1, x2, x3, x4] tx)) w1) :
    w1.rowIs w.heap.size tx 5 (row5 x0 x1 x2 x3 x4) ∧ w.heap.size + 1 ≤ w1.heap.size ∧ Below w.heap.size w w1 := by
  have r0 := row5_alloc w x0 x1 x2 x3 x4 tx
  have hs := hb.size
  refine ⟨r0.of_block (hb.block _ r0.lt), by simpa using hs, ?_⟩
  exact ((Below.refl _ _).alloc (Nat.le_refl _) _).trans (hb.mono (by simp))

theorem box2 {w w1 : World} {x0 x1 x2 x3 x4 y0 y1 y2 y3 y4 : Value} {tx ty : TypeId}
    (hb : Below ((w.alloc (.cells #[x0, x1, x2, x3, x4] tx)).alloc (.cells #[y0, y1, y2, y3, y4] ty)).heap.size ((w.alloc (.cells #[x0, x1, x2, x3, x4] tx)).alloc (.cells #[y0, y1, y2, y3, y4] ty)) w1) :
    w1.rowIs w.heap.size tx 5 (row5 x0 x1 x2 x3 x4) ∧ w1.rowIs (w.heap.size + 1) ty 5 (row5 y0 y1 y2 y3 y4) ∧ w.heap.size + 2 ≤ w1.heap.size ∧ Below w.heap.size w w1 := by
  have e1 : (w.alloc (.cells #[x0, x1, x2, x3, x4] tx)).heap.size = w.heap.size + 1 := by simp
  have r0 := (row5_alloc w x0 x1 x2 x3 x4 tx).alloc (.cells #[y0, y1, y2, y3, y4] ty)
  have r1 := row5_alloc (w.alloc (.cells #[x0, x1, x2, x3, x4] tx)) y0 y1 y2 y3 y4 ty
  rw [e1] at r1
  have hs := hb.size
  refine ⟨r0.of_block (hb.block _ r0.lt), r1.of_block (hb.block _ r1.lt), by simpa using hs, ?_⟩
  exact (((Below.refl _ _).alloc (Nat.le_refl _) _).alloc (by simp) _).trans (hb.mono (by simp; omega))

end Go.Proofs.YtcpfelaffclalaaGreatDoor

/- When a tree is ok, as plain functions on data: names, texts, a tree without its kids, its parts. Definitions and small laws, no program. No conditions. -/

namespace Go.Proofs.YtcpfelaffclalaaGreatDoor
open Go Go.RowKit

def nameByte (c : UInt8) : Bool := (97 ≤ c.toNat && c.toNat ≤ 122) || (48 ≤ c.toNat && c.toNat ≤ 57)
def nameFirst (c : UInt8) : Bool := 97 ≤ c.toNat && c.toNat ≤ 122
def textByte (c : UInt8) : Bool := 32 ≤ c.toNat && c.toNat ≤ 126 && c.toNat != 34

/-- The first k bytes are such. -/
def allTo (p : UInt8 → Bool) (s : ByteArray) (k : Nat) : Prop := ∀ j, j < k → (h : j < s.size) → p s[j] = true

def nameOkB (s : ByteArray) : Bool := 1 ≤ s.size && s.size ≤ 8 && nameFirst s[0]! && s.data.toList.all nameByte
def textOkB (s : ByteArray) : Bool := s.size ≤ 60 && s.data.toList.all textByte

theorem all_of {p : UInt8 → Bool} {s : ByteArray} (h : allTo p s s.size) : s.data.toList.all p = true := by
  rw [List.all_eq_true]
  intro x hx
  obtain ⟨i, hi, rfl⟩ := List.getElem_of_mem hx
  have hi' : i < s.size := by simpa using hi
  exact h i hi' hi'

theorem all_not {p : UInt8 → Bool} {s : ByteArray} {k : Nat} (hk : k < s.size) (h : p s[k] = false) : s.data.toList.all p = false := by
  rw [Bool.eq_false_iff]
  intro ha
  rw [List.all_eq_true] at ha
  have := ha s[k] (by have : s[k] = s.data.toList[k]'(by simpa using hk) := rfl; rw [this]; exact List.getElem_mem _)
  rw [h] at this
  cases this

theorem ret_bool {b c : Bool} (h : b = c) : Ending.returned (.bool b) = .returned (.bool c) := by rw [h]

theorem textOk_not {s : ByteArray} {k : Nat} (hk : k < s.size) (h : textByte s[k] = false) : textOkB s = false := by
  simp [textOkB, all_not hk h]
theorem textOk_yes {s : ByteArray} (h : s.size ≤ 60) (ha : allTo textByte s s.size) : textOkB s = true := by
  simp [textOkB, h]; simpa using all_of ha
theorem textByte_no {c : UInt8} (h : c.toNat < 32 ∨ 126 < c.toNat ∨ c.toNat = 34) : textByte c = false := by
  unfold textByte; rcases h with h | h | h
  · rw [show decide (32 ≤ c.toNat) = false from by simp; omega]; rfl
  · rw [show decide (c.toNat ≤ 126) = false from by simp; omega]; simp
  · rw [h]; rfl
theorem textByte_yes {c : UInt8} (h : 32 ≤ c.toNat ∧ c.toNat ≤ 126 ∧ c.toNat ≠ 34) : textByte c = true := by
  unfold textByte; simp [h.1, h.2.1, h.2.2]
theorem allTo_succ {p : UInt8 → Bool} {s : ByteArray} {k : Nat} (h : allTo p s k) (hk : k < s.size) (hp : p s[k] = true) : allTo p s (k + 1) := by
  intro j hj hs
  by_cases e : j = k
  · subst e; exact hp
  · exact h j (by omega) hs

theorem nameByte_yes {c : UInt8} (h : (97 ≤ c.toNat ∧ c.toNat ≤ 122) ∨ (48 ≤ c.toNat ∧ c.toNat ≤ 57)) : nameByte c = true := by
  unfold nameByte; rcases h with h | h <;> simp [h.1, h.2]
theorem nameByte_no {c : UInt8} (h : c.toNat < 48 ∨ (57 < c.toNat ∧ c.toNat < 97) ∨ 122 < c.toNat) : nameByte c = false := by
  unfold nameByte
  simp only [Bool.or_eq_false_iff, Bool.and_eq_false_iff, decide_eq_false_iff_not]
  omega
theorem nameOk_len {s : ByteArray} (h : s.size < 1 ∨ 8 < s.size) : nameOkB s = false := by
  unfold nameOkB
  rcases h with h | h
  · rw [show decide (1 ≤ s.size) = false from decide_eq_false (by omega)]; rfl
  · rw [show decide (s.size ≤ 8) = false from decide_eq_false (by omega)]; simp
theorem nameOk_first {s : ByteArray} (h0 : 0 < s.size) (h : s[0].toNat < 97 ∨ 122 < s[0].toNat) : nameOkB s = false := by
  unfold nameOkB
  rw [getElem!_pos s 0 h0, show nameFirst s[0] = false from by unfold nameFirst; simp only [Bool.and_eq_false_iff, decide_eq_false_iff_not]; omega]
  simp
theorem nameOk_not {s : ByteArray} {k : Nat} (hk : k < s.size) (h : nameByte s[k] = false) : nameOkB s = false := by
  simp [nameOkB, all_not hk h]
theorem nameOk_yes {s : ByteArray} (h1 : 0 < s.size) (h2 : s.size ≤ 8) (hf : 97 ≤ s[0].toNat ∧ s[0].toNat ≤ 122) (ha : allTo nameByte s s.size) : nameOkB s = true := by
  unfold nameOkB
  rw [all_of ha, getElem!_pos s 0 h1, show nameFirst s[0] = true from by unfold nameFirst; simp [hf.1, hf.2]]
  simp; omega

theorem getD_lt (l : List ByteArray) (i : Nat) (h : i < l.length) : l.getD i ByteArray.empty = l[i] := by simp [h]

/-- Name i of a list is a name, and comes behind the one ahead of it. -/
def good (ns : List ByteArray) (i : Nat) : Bool := nameOkB (ns.getD i ByteArray.empty) && (decide (i = 0) || Op.bytesLess (ns.getD (i - 1) ByteArray.empty).toList (ns.getD i ByteArray.empty).toList)
def riseB (ns : List ByteArray) : Bool := (List.range ns.length).all (good ns)
theorem rise_yes {ns : List ByteArray} (h : ∀ i, i < ns.length → good ns i = true) : riseB ns = true := by
  unfold riseB; rw [List.all_eq_true]; intro i hi; exact h i (List.mem_range.1 hi)
theorem rise_no {ns : List ByteArray} {i : Nat} (hi : i < ns.length) (h : good ns i = false) : riseB ns = false := by
  unfold riseB; rw [Bool.eq_false_iff]; intro ha; rw [List.all_eq_true] at ha
  have := ha i (List.mem_range.2 hi); rw [h] at this; cases this
theorem good_name {ns : List ByteArray} {i : Nat} (hi : i < ns.length) (h : nameOkB ns[i] = false) : good ns i = false := by
  unfold good; rw [getD_lt _ _ hi, h]; rfl
theorem good_zero {ns : List ByteArray} (hi : 0 < ns.length) (h : nameOkB ns[0] = true) : good ns 0 = true := by
  unfold good; rw [getD_lt _ _ hi, h]; rfl
theorem good_pos {ns : List ByteArray} {i : Nat} (hi : i < ns.length) (h0 : 0 < i) (h : nameOkB ns[i] = true) : good ns i = Op.bytesLess (ns[i - 1]'(by omega)).toList ns[i].toList := by
  unfold good; rw [getD_lt _ _ hi, getD_lt _ _ (show i - 1 < ns.length by omega), h, decide_eq_false (by omega)]; simp

/-- A tree is ok, but for its kids. -/
def aloneB (t : Tr) : Bool :=
  if t.sort = 1 then decide (-999999999 ≤ t.num ∧ t.num ≤ 999999999) && decide (t.text.toList = []) && decide (t.names.length = 0) && decide (t.kids.length = 0)
  else if t.sort = 2 then decide (t.num = 0) && textOkB t.text && decide (t.names.length = 0) && decide (t.kids.length = 0)
  else if t.sort = 3 then decide (0 ≤ t.num ∧ t.num ≤ 1) && decide (t.text.toList = []) && decide (t.names.length = 0) && decide (t.kids.length = 0)
  else if t.sort = 4 then decide (t.num = 0) && decide (t.text.toList = []) && decide (t.names.length = 0) && decide (t.kids.length ≤ 20)
  else if t.sort = 5 then decide (t.num = 0) && decide (t.text.toList = []) && decide (t.names.length = t.kids.length) && riseB t.names
  else if t.sort = 6 then decide (t.num = 0) && decide (t.text.toList = []) && decide (t.names.length = 0) && decide (t.kids.length ≤ 1)
  else false

mutual
/-- The parts of a tree that is so deep, as the specification counts them; -1, if it is not ok. -/
def pT : Tr → Int → Int
  | .mk s n tx ns ks, d => if 6 < d ∨ aloneB (.mk s n tx ns ks) = false then -1 else pK ks d 1
def pK : List Tr → Int → Int → Int
  | [], _, n => n
  | t :: r, d, n => if pT t (d + 1) < 0 ∨ 120 < n + pT t (d + 1) then -1 else pK r d (n + pT t (d + 1))
end

theorem pT_eq (t : Tr) (d : Int) : pT t d = if 6 < d ∨ aloneB t = false then -1 else pK t.kids d 1 := by
  obtain ⟨s, n, tx, ns, ks⟩ := t
  rw [pT]; rfl

theorem pK_bd (ks : List Tr) (d n : Int) (h0 : 1 ≤ n) (h1 : n ≤ 120) : pK ks d n = -1 ∨ (1 ≤ pK ks d n ∧ pK ks d n ≤ 120) := by
  induction ks generalizing n with
  | nil => rw [pK]; omega
  | cons t r ih =>
    rw [pK]
    split
    · exact Or.inl rfl
    · exact ih _ (by omega) (by omega)

theorem pT_bd (t : Tr) (d : Int) : pT t d = -1 ∨ (1 ≤ pT t d ∧ pT t d ≤ 120) := by
  rw [pT_eq]
  split
  · exact Or.inl rfl
  · exact pK_bd _ _ _ (by omega) (by omega)

theorem pK_step {ks : List Tr} {k : Nat} (hk : k < ks.length) (d n : Int) : pK (ks.drop k) d n = if pT ks[k] (d + 1) < 0 ∨ 120 < n + pT ks[k] (d + 1) then -1 else pK (ks.drop (k + 1)) d (n + pT ks[k] (d + 1)) := by
  rw [List.drop_eq_getElem_cons hk, pK]

/-- A tree has just what its sort has. -/
def ownB (t : Tr) : Bool :=
  if t.sort = 1 then decide (t.text.toList = []) && decide (t.names = []) && decide (t.kids.length = 0)
  else if t.sort = 2 then decide (t.num = 0) && decide (t.names = []) && decide (t.kids.length = 0)
  else if t.sort = 3 then decide (t.text.toList = []) && decide (t.names = []) && decide (t.kids.length = 0)
  else if t.sort = 4 then decide (t.num = 0) && decide (t.text.toList = []) && decide (t.names = [])
  else if t.sort = 5 then decide (t.num = 0) && decide (t.text.toList = [])
  else if t.sort = 6 then decide (t.num = 0) && decide (t.text.toList = []) && decide (t.names = [])
  else false

/-- What a tree has is as its sort wants it. -/
def newB (t : Tr) : Bool :=
  if t.sort = 1 then decide (-999999999 ≤ t.num ∧ t.num ≤ 999999999)
  else if t.sort = 2 then textOkB t.text
  else if t.sort = 3 then decide (0 ≤ t.num ∧ t.num ≤ 1)
  else if t.sort = 4 then decide (t.kids.length ≤ 20)
  else if t.sort = 5 then decide (t.names.length = t.kids.length) && riseB t.names
  else if t.sort = 6 then decide (t.kids.length ≤ 1)
  else false

theorem alone_eq (t : Tr) : aloneB t = (ownB t && newB t) := by
  unfold aloneB ownB newB
  split
  · rw [Bool.eq_iff_iff]; simp; grind
  split
  · rw [Bool.eq_iff_iff]; simp; grind
  split
  · rw [Bool.eq_iff_iff]; simp; grind
  split
  · rw [Bool.eq_iff_iff]; simp
  split
  · rw [Bool.eq_iff_iff]; simp; grind
  split
  · rw [Bool.eq_iff_iff]; simp
  rfl

end Go.Proofs.YtcpfelaffclalaaGreatDoor

/- What a schema is as plain data, its weight, and how it lies in memory: definitions and small laws, no program. No conditions. -/

namespace Go.Proofs.YtcpfelaffclalaaGreatDoor
open Go Go.RowKit

/-- A schema as plain data. -/
inductive Kd where
  | mk (sort : Int) (names : List ByteArray) (kids : List Kd)

namespace Kd
def sort : Kd → Int | mk s _ _ => s
def names : Kd → List ByteArray | mk _ n _ => n
def kids : Kd → List Kd | mk _ _ k => k
end Kd

mutual
def wKd : Kd → Nat
  | .mk _ n k => wS n + wKs k
def wKs : List Kd → Nat
  | [] => 0
  | t :: r => 1 + wKd t + wKs r
end

theorem wKs_mem {t : Kd} {l : List Kd} (h : t ∈ l) : wKd t + 1 ≤ wKs l := by
  induction l with
  | nil => cases h
  | cons a r ih =>
    rw [wKs]
    rcases List.mem_cons.1 h with rfl | h
    · omega
    · have := ih h; omega

theorem wKs_len (l : List Kd) : l.length ≤ wKs l := by
  induction l with
  | nil => simp [wKs]
  | cons a r ih => rw [wKs]; simp; omega

theorem wKs_take (ks : List Kd) (k : Nat) (h : k < ks.length) : wKs (ks.take (k + 1)) = wKs (ks.take k) + wKd ks[k] + 1 := by
  induction ks generalizing k with
  | nil => simp at h
  | cons a r ih =>
    cases k with
    | zero => simp [wKs]; omega
    | succ k => simp only [List.take_succ_cons, wKs, List.getElem_cons_succ]; rw [ih k (by simpa using h)]; omega

/-- The three cells of a schema. -/
structure C3 where
  (c0 c1 c2 : Value)

/-- Three cells lie at an offset of a block. -/
def C3.at (w : World) (b o : Nat) (c : C3) : Prop :=
  w.cell? ⟨b, o, none⟩ = some c.c0 ∧ w.cell? ⟨b, o + 1, none⟩ = some c.c1 ∧ w.cell? ⟨b, o + 2, none⟩ = some c.c2

mutual
/-- Three cells are a schema: all that they lead to lies in the world, in blocks of which 'P' holds. -/
def KRep (P : Nat → Prop) (w : World) : Kd → C3 → Prop
  | .mk s ns ks, c => c.c0 = .int .i64 s ∧ I64 s ∧ StrsAt P w c.c1 ns ∧
    ∃ a cap, c.c2 = .slice a ks.length cap ∧ ks.length ≤ 9223372036854775807 ∧ (ks ≠ [] → ∃ b o, a = some ⟨b, o, none⟩ ∧ P b ∧ KRepK P w b o ks)
def KRepK (P : Nat → Prop) (w : World) (b : Nat) (o : Nat) : List Kd → Prop
  | [] => True
  | t :: r => (∃ c, C3.at w b o c ∧ KRep P w t c) ∧ KRepK P w b (o + 3) r
end

theorem KRepK.get {P : Nat → Prop} {w : World} {b o : Nat} {ks : List Kd} (h : KRepK P w b o ks) (i : Nat) (hi : i < ks.length) :
    ∃ c, C3.at w b (o + i * 3) c ∧ KRep P w ks[i] c := by
  induction ks generalizing o i with
  | nil => simp at hi
  | cons t r ih =>
    rw [KRepK] at h
    cases i with
    | zero => exact h.1
    | succ i =>
      obtain ⟨c, h1, h2⟩ := ih h.2 i (by simpa using hi)
      exact ⟨c, by rw [show o + (i + 1) * 3 = o + 3 + i * 3 from by omega]; exact h1, h2⟩

theorem KRepK.mk {P : Nat → Prop} {w : World} {b o : Nat} {ks : List Kd} (h : ∀ i, (hi : i < ks.length) → ∃ c, C3.at w b (o + i * 3) c ∧ KRep P w ks[i] c) : KRepK P w b o ks := by
  induction ks generalizing o with
  | nil => rw [KRepK]; trivial
  | cons t r ih =>
    rw [KRepK]
    refine ⟨h 0 (by simp), ih fun i hi => ?_⟩
    obtain ⟨c, h1, h2⟩ := h (i + 1) (by simpa using hi)
    exact ⟨c, by rw [show o + 3 + i * 3 = o + (i + 1) * 3 from by omega]; exact h1, h2⟩

theorem C3.at.carry {w w' : World} {b o : Nat} {c : C3} (h : C3.at w b o c) (hb : w'.heap[b]? = w.heap[b]?) : C3.at w' b o c := by
  have e : ∀ o', w'.cell? ⟨b, o', none⟩ = w.cell? ⟨b, o', none⟩ := fun o' => World.cell?_of_block (w := w) hb
  obtain ⟨h0, h1, h2⟩ := h
  exact ⟨by rw [e]; exact h0, by rw [e]; exact h1, by rw [e]; exact h2⟩

mutual
theorem KRep.carry {P Q : Nat → Prop} {w w' : World} (hP : ∀ b, P b → w'.heap[b]? = w.heap[b]?) (hQ : ∀ b, P b → Q b) : ∀ (t : Kd) (c : C3), KRep P w t c → KRep Q w' t c
  | .mk s ns ks, c => by
    intro h
    rw [KRep] at h ⊢
    obtain ⟨h0, h3, h6, a, cap, h7, h8, h9⟩ := h
    refine ⟨h0, h3, h6.carry hP hQ, a, cap, h7, h8, fun hk => ?_⟩
    obtain ⟨b, o, e, p, hr⟩ := h9 hk
    exact ⟨b, o, e, hQ b p, KRepK.carry hP hQ b o (hP b p) ks hr⟩
theorem KRepK.carry {P Q : Nat → Prop} {w w' : World} (hP : ∀ b, P b → w'.heap[b]? = w.heap[b]?) (hQ : ∀ b, P b → Q b) (b : Nat) (o : Nat) (hb : w'.heap[b]? = w.heap[b]?) : ∀ (ks : List Kd), KRepK P w b o ks → KRepK Q w' b o ks
  | [] => by intro _; rw [KRepK]; trivial
  | t :: r => by
    intro h
    rw [KRepK] at h ⊢
    obtain ⟨⟨c, h1, h2⟩, h3⟩ := h
    exact ⟨⟨c, h1.carry hb, KRep.carry hP hQ t c h2⟩, KRepK.carry hP hQ b (o + 3) hb r h3⟩
end

/-- A schema as the walks take it: what its kids' slice is, and each kid. -/
theorem KRep.open {P : Nat → Prop} {w : World} {t : Kd} {c : C3} (h : KRep P w t c) :
    c.c0 = .int .i64 t.sort ∧ I64 t.sort ∧ StrsAt P w c.c1 t.names ∧
    ∃ a cap, c.c2 = .slice a t.kids.length cap ∧ t.kids.length ≤ 9223372036854775807 ∧
      ∀ i, (hi : i < t.kids.length) → ∃ b o c, a = some ⟨b, o, none⟩ ∧ P b ∧ C3.at w b (o + i * 3) c ∧ KRep P w t.kids[i] c := by
  obtain ⟨s, ns, ks⟩ := t
  rw [KRep] at h
  obtain ⟨h0, h3, h6, a, cap, h7, h8, h9⟩ := h
  refine ⟨h0, h3, h6, a, cap, h7, h8, fun i hi => ?_⟩
  obtain ⟨b, o, e, p, hr⟩ := h9 (fun hh => by subst hh; simp [Kd.kids] at hi)
  obtain ⟨c', h1', h2'⟩ := hr.get i hi
  exact ⟨b, o, c', e, p, h1', h2'⟩

theorem KRep.make {P : Nat → Prop} {w : World} {t : Kd} {v3 : Value} {b o cap : Nat} (h0 : I64 t.sort) (h3 : StrsAt P w v3 t.names) (h4 : t.kids.length ≤ 9223372036854775807) (h5 : P b) (h6 : KRepK P w b o t.kids) :
    KRep P w t ⟨.int .i64 t.sort, v3, .slice (some ⟨b, o, none⟩) t.kids.length cap⟩ := by
  obtain ⟨s, ns, ks⟩ := t
  rw [KRep]
  exact ⟨rfl, h0, h3, _, _, rfl, h4, fun _ => ⟨b, o, rfl, h5, h6⟩⟩

mutual
def ksz : Kd → Nat
  | .mk _ _ k => 1 + klsz k
def klsz : List Kd → Nat
  | [] => 0
  | t :: r => ksz t + klsz r
end
theorem ksz_kid {t k : Kd} (h : k ∈ t.kids) : ksz k < ksz t := by
  obtain ⟨s, ns, ks⟩ := t
  have : ∀ l : List Kd, k ∈ l → ksz k ≤ klsz l := by
    intro l
    induction l with
    | nil => intro h; cases h
    | cons a r ih =>
      intro h
      rw [klsz]
      rcases List.mem_cons.1 h with rfl | h
      · omega
      · have := ih h; omega
  have := this ks h
  rw [ksz]; omega

def row3 (c0 c1 c2 : Value) : Nat → Value
  | 0 => c0
  | 1 => c1
  | _ => c2

theorem row3_alloc (w : World) (c0 c1 c2 : Value) (t : TypeId) : (w.alloc (.cells #[c0, c1, c2] t)).rowIs w.heap.size t 3 (row3 c0 c1 c2) :=
  World.rowIs_alloc w #[c0, c1, c2] t _ (fun i hi => by
    have hi' : i < 3 := hi
    match i, hi' with
    | 0, _ => rfl
    | 1, _ => rfl
    | 2, _ => rfl)

theorem kbox1 {w w1 : World} {x0 x1 x2 : Value} {tx : TypeId}
    (hb : Below (w.alloc (.cells #[x0, x1, x2] tx)).heap.size (w.alloc (.cells #[x0, x1, x2] tx)) w1) :
    w1.rowIs w.heap.size tx 3 (row3 x0 x1 x2) ∧ w.heap.size + 1 ≤ w1.heap.size ∧ Below w.heap.size w w1 := by
  have r0 := row3_alloc w x0 x1 x2 tx
  have hs := hb.size
  refine ⟨r0.of_block (hb.block _ r0.lt), by simpa using hs, ?_⟩
  exact ((Below.refl _ _).alloc (Nat.le_refl _) _).trans (hb.mono (by simp))

theorem kbox2 {w w1 : World} {x0 x1 x2 y0 y1 y2 : Value} {tx ty : TypeId}
    (hb : Below ((w.alloc (.cells #[x0, x1, x2] tx)).alloc (.cells #[y0, y1, y2] ty)).heap.size ((w.alloc (.cells #[x0, x1, x2] tx)).alloc (.cells #[y0, y1, y2] ty)) w1) :
    w1.rowIs w.heap.size tx 3 (row3 x0 x1 x2) ∧ w1.rowIs (w.heap.size + 1) ty 3 (row3 y0 y1 y2) ∧ w.heap.size + 2 ≤ w1.heap.size ∧ Below w.heap.size w w1 := by
  have e1 : (w.alloc (.cells #[x0, x1, x2] tx)).heap.size = w.heap.size + 1 := by simp
  have r0 := (row3_alloc w x0 x1 x2 tx).alloc (.cells #[y0, y1, y2] ty)
  have r1 := row3_alloc (w.alloc (.cells #[x0, x1, x2] tx)) y0 y1 y2 ty
  rw [e1] at r1
  have hs := hb.size
  refine ⟨r0.of_block (hb.block _ r0.lt), r1.of_block (hb.block _ r1.lt), by simpa using hs, ?_⟩
  exact (((Below.refl _ _).alloc (Nat.le_refl _) _).alloc (by simp) _).trans (hb.mono (by simp; omega))

theorem kbox3 {w w1 : World} {x0 x1 x2 y0 y1 y2 z0 z1 z2 : Value} {tx ty tz : TypeId}
    (hb : Below (((w.alloc (.cells #[x0, x1, x2] tx)).alloc (.cells #[y0, y1, y2] ty)).alloc (.cells #[z0, z1, z2] tz)).heap.size (((w.alloc (.cells #[x0, x1, x2] tx)).alloc (.cells #[y0, y1, y2] ty)).alloc (.cells #[z0, z1, z2] tz)) w1) :
    w1.rowIs w.heap.size tx 3 (row3 x0 x1 x2) ∧ w1.rowIs (w.heap.size + 1) ty 3 (row3 y0 y1 y2) ∧ w1.rowIs (w.heap.size + 1 + 1) tz 3 (row3 z0 z1 z2) ∧ w.heap.size + 3 ≤ w1.heap.size ∧ Below w.heap.size w w1 := by
  have e1 : (w.alloc (.cells #[x0, x1, x2] tx)).heap.size = w.heap.size + 1 := by simp
  have e2 : ((w.alloc (.cells #[x0, x1, x2] tx)).alloc (.cells #[y0, y1, y2] ty)).heap.size = w.heap.size + 1 + 1 := by simp
  have r0 := ((row3_alloc w x0 x1 x2 tx).alloc (.cells #[y0, y1, y2] ty)).alloc (.cells #[z0, z1, z2] tz)
  have r1 := (row3_alloc (w.alloc (.cells #[x0, x1, x2] tx)) y0 y1 y2 ty).alloc (.cells #[z0, z1, z2] tz)
  have r2 := row3_alloc ((w.alloc (.cells #[x0, x1, x2] tx)).alloc (.cells #[y0, y1, y2] ty)) z0 z1 z2 tz
  rw [e1] at r1
  rw [e2] at r2
  have hs := hb.size
  refine ⟨r0.of_block (hb.block _ r0.lt), r1.of_block (hb.block _ r1.lt), r2.of_block (hb.block _ r2.lt), by simpa using hs, ?_⟩
  exact ((((Below.refl _ _).alloc (Nat.le_refl _) _).alloc (by simp) _).alloc (by simp; omega) _).trans (hb.mono (by simp; omega))

end Go.Proofs.YtcpfelaffclalaaGreatDoor

/- What a schema's parts are by the specification, and by the program's walk: they count alike. Plain functions on data; no program, no conditions. -/

namespace Go.Proofs.YtcpfelaffclalaaGreatDoor
open Go Go.RowKit

/-- A schema is ok, but for its kids and the bounds. -/
def shB (k : Kd) : Bool :=
  if k.sort = 1 ∨ k.sort = 2 ∨ k.sort = 3 then decide (k.kids.length = 0 ∧ k.names.length = 0)
  else if k.sort = 4 ∨ k.sort = 6 then decide (k.kids.length = 1 ∧ k.names.length = 0)
  else if k.sort = 5 then decide (k.kids.length = k.names.length) && riseB k.names
  else false

mutual
/-- The parts of a schema at a level, -1 if it is not ok: by the specification. -/
def qT : Kd → Int → Int
  | .mk s ns ks, d => if 6 < d ∨ shB (.mk s ns ks) = false then -1 else qK ks d 1
def qK : List Kd → Int → Int → Int
  | [], _, n => n
  | t :: r, d, n => if qT t (d + 1) < 0 ∨ 40 < n + qT t (d + 1) then -1 else qK r d (n + qT t (d + 1))
end

theorem qT_eq (t : Kd) (d : Int) : qT t d = if 6 < d ∨ shB t = false then -1 else qK t.kids d 1 := by
  obtain ⟨s, ns, ks⟩ := t
  rw [qT]; rfl

theorem qK_bd (ks : List Kd) (d n : Int) (h0 : 1 ≤ n) (h1 : n ≤ 40) : qK ks d n = -1 ∨ (1 ≤ qK ks d n ∧ qK ks d n ≤ 40) := by
  induction ks generalizing n with
  | nil => rw [qK]; omega
  | cons t r ih =>
    rw [qK]
    split
    · exact Or.inl rfl
    · exact ih _ (by omega) (by omega)

theorem qT_bd (t : Kd) (d : Int) : qT t d = -1 ∨ (1 ≤ qT t d ∧ qT t d ≤ 40) := by
  rw [qT_eq]
  split
  · exact Or.inl rfl
  · exact qK_bd _ _ _ (by omega) (by omega)

theorem qK_step {ks : List Kd} {k : Nat} (hk : k < ks.length) (d n : Int) : qK (ks.drop k) d n = if qT ks[k] (d + 1) < 0 ∨ 40 < n + qT ks[k] (d + 1) then -1 else qK (ks.drop (k + 1)) d (n + qT ks[k] (d + 1)) := by
  rw [List.drop_eq_getElem_cons hk, qK]

mutual
/-- A schema and all below it, with their levels, a node ahead of its kids. -/
def pord : Kd → Int → List (Int × Kd)
  | .mk s ns ks, l => (l, .mk s ns ks) :: pordK ks (l + 1)
def pordK : List Kd → Int → List (Int × Kd)
  | [], _ => []
  | t :: r, l => pord t l ++ pordK r l
end

theorem pord_eq (t : Kd) (l : Int) : pord t l = (l, t) :: pordK t.kids (l + 1) := by
  obtain ⟨s, ns, ks⟩ := t
  rw [pord]; rfl

/-- What is asked of a node. -/
def gdB (x : Int × Kd) : Bool := decide (x.1 ≤ 6) && shB x.2

mutual
theorem qT_pord : ∀ (t : Kd) (d : Int), qT t d = if (pord t d).all gdB = true ∧ (pord t d).length ≤ 40 then ((pord t d).length : Int) else -1
  | .mk s ns ks, d => by
    rw [qT, pord]
    by_cases h : 6 < d ∨ shB (.mk s ns ks) = false
    · rw [if_pos h, if_neg]
      rintro ⟨h1, -⟩
      simp only [List.all_cons, Bool.and_eq_true, gdB, decide_eq_true_eq] at h1
      rcases h with h | h
      · omega
      · rw [h] at h1; simp at h1
    · have h1 : d ≤ 6 := by omega
      have h2 : shB (.mk s ns ks) = true := by
        cases hh : shB (.mk s ns ks)
        · exact absurd (Or.inr hh) h
        · rfl
      have hg : gdB (d, .mk s ns ks) = true := by simp [gdB, h1, h2]
      rw [if_neg h, qK_pord ks d 1 (by omega) (by omega)]
      simp only [List.all_cons, hg, Bool.true_and, List.length_cons]
      by_cases hx : (pordK ks (d + 1)).all gdB = true ∧ (1 : Int) + (pordK ks (d + 1)).length ≤ 40
      · rw [if_pos hx, if_pos ⟨hx.1, by omega⟩]; omega
      · rw [if_neg hx, if_neg (fun hy => hx ⟨hy.1, by omega⟩)]
theorem qK_pord : ∀ (ks : List Kd) (d n : Int), 1 ≤ n → n ≤ 40 → qK ks d n = if (pordK ks (d + 1)).all gdB = true ∧ n + (pordK ks (d + 1)).length ≤ 40 then n + ((pordK ks (d + 1)).length : Int) else -1
  | [], d, n => by
    intro h1 h2
    rw [qK, pordK]
    simp [h2]
  | t :: r, d, n => by
    intro h1 h2
    rw [qK, pordK, qT_pord t (d + 1)]
    simp only [List.all_append, List.length_append, Bool.and_eq_true]
    by_cases ha : (pord t (d + 1)).all gdB = true ∧ (pord t (d + 1)).length ≤ 40
    · rw [if_pos ha]
      by_cases hb : n + ((pord t (d + 1)).length : Int) ≤ 40
      · rw [if_neg (by omega), qK_pord r d _ (by omega) hb]
        by_cases hx : (pordK r (d + 1)).all gdB = true ∧ n + ((pord t (d + 1)).length : Int) + (pordK r (d + 1)).length ≤ 40
        · rw [if_pos hx, if_pos ⟨⟨ha.1, hx.1⟩, by omega⟩]; omega
        · rw [if_neg hx, if_neg (fun hy => hx ⟨hy.1.2, by omega⟩)]
      · rw [if_pos (by omega), if_neg (fun hy => by omega)]
    · rw [if_neg ha, if_pos (by omega), if_neg (fun hy => ha ⟨hy.1.1, by omega⟩)]
end

/-- The walk ends just if the schema is ok. -/
theorem qT_start (t : Kd) : decide (0 < qT t 1) = ((pord t 1).all gdB && decide ((pord t 1).length ≤ 40)) := by
  have hl : 0 < (pord t 1).length := by rw [pord_eq]; simp
  rw [qT_pord]
  by_cases h : (pord t 1).all gdB = true ∧ (pord t 1).length ≤ 40
  · rw [if_pos h]; simp only [h.1, h.2, decide_true, Bool.and_self]; simp; omega
  · rw [if_neg h]
    symm
    rw [show decide ((0 : Int) < -1) = false from rfl]
    cases hh : (pord t 1).all gdB
    · rfl
    · simp only [Bool.true_and, decide_eq_false_iff_not]; exact fun hy => h ⟨hh, hy⟩

theorem ksz_w (t : Kd) : ksz t ≤ wKd t + 1 := by
  have key : ∀ n, ∀ t : Kd, ksz t ≤ n → ksz t ≤ wKd t + 1 := by
    intro n
    induction n with
    | zero => intro t h; obtain ⟨s, ns, ks⟩ := t; rw [ksz] at h; omega
    | succ n ih =>
      intro t h
      obtain ⟨s, ns, ks⟩ := t
      rw [ksz] at h ⊢
      rw [wKd]
      have : ∀ l : List Kd, klsz l ≤ n → klsz l ≤ wKs l := by
        intro l
        induction l with
        | nil => intro _; simp [klsz]
        | cons a r ihl =>
          intro hl
          rw [klsz] at hl ⊢
          rw [wKs]
          have h1 := ih a (by omega)
          have h2 := ihl (by omega)
          omega
      have := this ks (by omega)
      omega
  exact key _ t (Nat.le_refl _)

end Go.Proofs.YtcpfelaffclalaaGreatDoor

/- The text of a schema, as a plain function on data, and its length. No program, no conditions. -/

namespace Go.Proofs.YtcpfelaffclalaaGreatDoor
open Go Go.RowKit

/-- What stands ahead of kid i of a form. -/
def kAhead (ns : List ByteArray) (i : Nat) : List UInt8 := (if 0 < i then [44] else []) ++ ((ns.getD i ByteArray.empty).data.toList ++ [58])

mutual
def kxT : Kd → List UInt8
  | .mk s ns ks =>
    if s = 1 then [110, 117, 109]
    else if s = 2 then [116, 101, 120, 116]
    else if s = 3 then [102, 108, 97, 103]
    else if s = 4 then [91] ++ kxM ks ++ [93]
    else if s = 6 then [63] ++ kxM ks
    else [123] ++ kxK ns 0 ks ++ [125]
def kxM : List Kd → List UInt8
  | [] => []
  | t :: _ => kxT t
def kxK (ns : List ByteArray) (i : Nat) : List Kd → List UInt8
  | [] => []
  | t :: r => kAhead ns i ++ kxT t ++ kxK ns (i + 1) r
end

mutual
/-- All of its parts are ok, but for their count and levels. -/
def okD : Kd → Bool
  | .mk s ns ks => shB (.mk s ns ks) && okDs ks
def okDs : List Kd → Bool
  | [] => true
  | t :: r => okD t && okDs r
end

theorem okD_eq (t : Kd) : okD t = (shB t && okDs t.kids) := by
  obtain ⟨s, ns, ks⟩ := t; rw [okD]; rfl
theorem okDs_get {ks : List Kd} (h : okDs ks = true) (i : Nat) (hi : i < ks.length) : okD ks[i] = true := by
  induction ks generalizing i with
  | nil => simp at hi
  | cons t r ih =>
    rw [okDs, Bool.and_eq_true] at h
    cases i with
    | zero => exact h.1
    | succ i => exact ih h.2 i (by simpa using hi)

theorem shB_cases {t : Kd} (h : shB t = true) : ((t.sort = 1 ∨ t.sort = 2 ∨ t.sort = 3) ∧ t.kids.length = 0 ∧ t.names.length = 0) ∨ ((t.sort = 4 ∨ t.sort = 6) ∧ t.kids.length = 1 ∧ t.names.length = 0) ∨ (t.sort = 5 ∧ t.kids.length = t.names.length ∧ riseB t.names = true) := by
  unfold shB at h
  by_cases h1 : t.sort = 1 ∨ t.sort = 2 ∨ t.sort = 3
  · rw [if_pos h1] at h; exact Or.inl ⟨h1, of_decide_eq_true h⟩
  · rw [if_neg h1] at h
    by_cases h2 : t.sort = 4 ∨ t.sort = 6
    · rw [if_pos h2] at h; exact Or.inr (Or.inl ⟨h2, of_decide_eq_true h⟩)
    · rw [if_neg h2] at h
      by_cases h3 : t.sort = 5
      · rw [if_pos h3, Bool.and_eq_true] at h; exact Or.inr (Or.inr ⟨h3, of_decide_eq_true h.1, h.2⟩)
      · rw [if_neg h3] at h; cases h

mutual
theorem pord_len : ∀ (t : Kd) (l : Int), (pord t l).length = ksz t
  | .mk s ns ks, l => by rw [pord, ksz, List.length_cons, pordK_len ks (l + 1)]; omega
theorem pordK_len : ∀ (ks : List Kd) (l : Int), (pordK ks l).length = klsz ks
  | [], l => by rw [pordK, klsz]; rfl
  | t :: r, l => by rw [pordK, klsz, List.length_append, pord_len t l, pordK_len r l]
end
mutual
theorem okD_pord : ∀ (t : Kd) (l : Int), (pord t l).all gdB = true → okD t = true
  | .mk s ns ks, l => by
    intro h
    rw [pord, List.all_cons, Bool.and_eq_true] at h
    rw [okD, Bool.and_eq_true]
    refine ⟨?_, okDs_pord ks (l + 1) h.2⟩
    have := h.1
    simp only [gdB, Bool.and_eq_true] at this
    exact this.2
theorem okDs_pord : ∀ (ks : List Kd) (l : Int), (pordK ks l).all gdB = true → okDs ks = true
  | [], l => by intro _; rw [okDs]
  | t :: r, l => by
    intro h
    rw [pordK, List.all_append, Bool.and_eq_true] at h
    rw [okDs, Bool.and_eq_true]
    exact ⟨okD_pord t l h.1, okDs_pord r l h.2⟩
end

theorem ok_of_qT {t : Kd} (h : 0 < qT t 1) : okD t = true ∧ ksz t ≤ 40 := by
  have h' : decide (0 < qT t 1) = true := decide_eq_true h
  rw [qT_start, Bool.and_eq_true] at h'
  refine ⟨okD_pord t 1 h'.1, ?_⟩
  rw [← pord_len t 1]; exact of_decide_eq_true h'.2

theorem name_size {s : ByteArray} (h : nameOkB s = true) : s.size ≤ 8 := by
  unfold nameOkB at h
  simp only [Bool.and_eq_true, decide_eq_true_eq] at h
  omega

theorem rise_size {ss : List ByteArray} (h : riseB ss = true) (i : Nat) (hi : i < ss.length) : ss[i].size ≤ 8 := by
  have hg : good ss i = true := by
    cases hh : good ss i
    · exact absurd (rise_no hi hh) (by rw [h]; simp)
    · rfl
  apply name_size
  cases hn : nameOkB ss[i]
  · rw [good_name hi hn] at hg; cases hg
  · rfl


end Go.Proofs.YtcpfelaffclalaaGreatDoor
