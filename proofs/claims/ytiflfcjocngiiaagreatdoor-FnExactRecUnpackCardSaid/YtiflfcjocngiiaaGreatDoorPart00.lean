/- What a tree is as plain data, its weight, and how it lies in memory: definitions and small laws, no program. No conditions. -/
import Derived.WalkKit
import Derived.Deep.OwnRows
namespace Go.Proofs.YtiflfcjocngiiaaGreatDoor
open Go Go.RowKit

theorem hide {p : Prop} (h : p) : Hid p := h
theorem unhide {p : Prop} (h : Hid p) : p := h

/-- A tree as plain data. -/
inductive Tr where
  | mk (sort num : Int) (text : ByteArray) (names : List ByteArray) (kids : List Tr)

namespace Tr
def sort : Tr → Int | mk s _ _ _ _ => s
def num : Tr → Int | mk _ n _ _ _ => n
def text : Tr → ByteArray | mk _ _ t _ _ => t
def names : Tr → List ByteArray | mk _ _ _ n _ => n
def kids : Tr → List Tr | mk _ _ _ _ k => k
end Tr

/-- A string list's weight. -/
def wS : List ByteArray → Nat
  | [] => 0
  | s :: r => s.size + 1 + wS r

mutual
def wT : Tr → Nat
  | .mk _ _ t n k => t.size + wS n + wK k
def wK : List Tr → Nat
  | [] => 0
  | t :: r => 1 + wT t + wK r
end

/-- A slice value whose strings lie in the world, in blocks of which 'P' holds. -/
def StrsAt (P : Nat → Prop) (w : World) (v : Value) (ss : List ByteArray) : Prop :=
  ∃ a cap, v = .slice a ss.length cap ∧ ss.length ≤ 9223372036854775807 ∧
    ∀ i, (h : i < ss.length) → ∃ b o, a = some ⟨b, o, none⟩ ∧ P b ∧ w.cell? ⟨b, o + i, none⟩ = some (.string ss[i]) ∧ ss[i].size ≤ 9223372036854775807

/-- The five cells of a tree. -/
structure C5 where
  (c0 c1 c2 c3 c4 : Value)

/-- Five cells lie at an offset of a block. -/
def C5.at (w : World) (b o : Nat) (c : C5) : Prop :=
  w.cell? ⟨b, o, none⟩ = some c.c0 ∧ w.cell? ⟨b, o + 1, none⟩ = some c.c1 ∧ w.cell? ⟨b, o + 2, none⟩ = some c.c2 ∧ w.cell? ⟨b, o + 3, none⟩ = some c.c3 ∧ w.cell? ⟨b, o + 4, none⟩ = some c.c4

def I64 (n : Int) : Prop := -9223372036854775808 ≤ n ∧ n ≤ 9223372036854775807

mutual
/-- Five cells are a tree: all that they lead to lies in the world, in blocks of which 'P' holds. -/
def Rep (P : Nat → Prop) (w : World) : Tr → C5 → Prop
  | .mk s n t ns ks, c => c.c0 = .int .i64 s ∧ c.c1 = .int .i64 n ∧ c.c2 = .string t ∧ I64 s ∧ I64 n ∧ t.size ≤ 9223372036854775807 ∧ StrsAt P w c.c3 ns ∧
    ∃ a cap, c.c4 = .slice a ks.length cap ∧ ks.length ≤ 9223372036854775807 ∧ (ks ≠ [] → ∃ b o, a = some ⟨b, o, none⟩ ∧ P b ∧ RepK P w b o ks)
def RepK (P : Nat → Prop) (w : World) (b : Nat) (o : Nat) : List Tr → Prop
  | [] => True
  | t :: r => (∃ c, C5.at w b o c ∧ Rep P w t c) ∧ RepK P w b (o + 5) r
end

theorem RepK.get {P : Nat → Prop} {w : World} {b o : Nat} {ks : List Tr} (h : RepK P w b o ks) (i : Nat) (hi : i < ks.length) :
    ∃ c, C5.at w b (o + i * 5) c ∧ Rep P w ks[i] c := by
  induction ks generalizing o i with
  | nil => simp at hi
  | cons t r ih =>
    rw [RepK] at h
    cases i with
    | zero => exact h.1
    | succ i =>
      obtain ⟨c, h1, h2⟩ := ih h.2 i (by simpa using hi)
      exact ⟨c, by rw [show o + (i + 1) * 5 = o + 5 + i * 5 from by omega]; exact h1, h2⟩

theorem C5.at.carry {w w' : World} {b o : Nat} {c : C5} (h : C5.at w b o c) (hb : w'.heap[b]? = w.heap[b]?) : C5.at w' b o c := by
  have e : ∀ o', w'.cell? ⟨b, o', none⟩ = w.cell? ⟨b, o', none⟩ := fun o' => World.cell?_of_block (w := w) hb
  obtain ⟨h0, h1, h2, h3, h4⟩ := h
  exact ⟨by rw [e]; exact h0, by rw [e]; exact h1, by rw [e]; exact h2, by rw [e]; exact h3, by rw [e]; exact h4⟩

theorem StrsAt.carry {P Q : Nat → Prop} {w w' : World} {v : Value} {ss : List ByteArray} (h : StrsAt P w v ss) (hP : ∀ b, P b → w'.heap[b]? = w.heap[b]?) (hQ : ∀ b, P b → Q b) : StrsAt Q w' v ss := by
  obtain ⟨a, cap, h1, h2, h3⟩ := h
  refine ⟨a, cap, h1, h2, fun i hi => ?_⟩
  obtain ⟨b, o, e, p, hc, hs⟩ := h3 i hi
  exact ⟨b, o, e, hQ b p, by rw [World.cell?_of_block (w := w) (hP b p)]; exact hc, hs⟩

mutual
theorem Rep.carry {P Q : Nat → Prop} {w w' : World} (hP : ∀ b, P b → w'.heap[b]? = w.heap[b]?) (hQ : ∀ b, P b → Q b) : ∀ (t : Tr) (c : C5), Rep P w t c → Rep Q w' t c
  | .mk s n t ns ks, c => by
    intro h
    rw [Rep] at h ⊢
    obtain ⟨h0, h1, h2, h3, h4, h5, h6, a, cap, h7, h8, h9⟩ := h
    refine ⟨h0, h1, h2, h3, h4, h5, h6.carry hP hQ, a, cap, h7, h8, fun hk => ?_⟩
    obtain ⟨b, o, e, p, hr⟩ := h9 hk
    exact ⟨b, o, e, hQ b p, RepK.carry hP hQ b o (hP b p) ks hr⟩
theorem RepK.carry {P Q : Nat → Prop} {w w' : World} (hP : ∀ b, P b → w'.heap[b]? = w.heap[b]?) (hQ : ∀ b, P b → Q b) (b : Nat) (o : Nat) (hb : w'.heap[b]? = w.heap[b]?) : ∀ (ks : List Tr), RepK P w b o ks → RepK Q w' b o ks
  | [] => by intro _; rw [RepK]; trivial
  | t :: r => by
    intro h
    rw [RepK] at h ⊢
    obtain ⟨⟨c, h1, h2⟩, h3⟩ := h
    exact ⟨⟨c, h1.carry hb, Rep.carry hP hQ t c h2⟩, RepK.carry hP hQ b (o + 5) hb r h3⟩
end

/-- A tree as the walks take it: what its kids' slice is, and each kid. -/
theorem Rep.open {P : Nat → Prop} {w : World} {t : Tr} {c : C5} (h : Rep P w t c) :
    c.c0 = .int .i64 t.sort ∧ c.c1 = .int .i64 t.num ∧ c.c2 = .string t.text ∧ I64 t.sort ∧ I64 t.num ∧ t.text.size ≤ 9223372036854775807 ∧ StrsAt P w c.c3 t.names ∧
    ∃ a cap, c.c4 = .slice a t.kids.length cap ∧ t.kids.length ≤ 9223372036854775807 ∧
      ∀ i, (hi : i < t.kids.length) → ∃ b o c, a = some ⟨b, o, none⟩ ∧ P b ∧ C5.at w b (o + i * 5) c ∧ Rep P w t.kids[i] c := by
  obtain ⟨s, n, tx, ns, ks⟩ := t
  rw [Rep] at h
  obtain ⟨h0, h1, h2, h3, h4, h5, h6, a, cap, h7, h8, h9⟩ := h
  refine ⟨h0, h1, h2, h3, h4, h5, h6, a, cap, h7, h8, fun i hi => ?_⟩
  obtain ⟨b, o, e, p, hr⟩ := h9 (fun hh => by subst hh; simp [Tr.kids] at hi)
  obtain ⟨c', h1', h2'⟩ := hr.get i hi
  exact ⟨b, o, c', e, p, h1', h2'⟩

mutual
def tsz : Tr → Nat
  | .mk _ _ _ _ k => 1 + lsz k
def lsz : List Tr → Nat
  | [] => 0
  | t :: r => tsz t + lsz r
end
theorem tsz_kid {t k : Tr} (h : k ∈ t.kids) : tsz k < tsz t := by
  obtain ⟨s, n, tx, ns, ks⟩ := t
  have : ∀ l : List Tr, k ∈ l → tsz k ≤ lsz l := by
    intro l
    induction l with
    | nil => intro h; cases h
    | cons a r ih =>
      intro h
      rw [lsz]
      rcases List.mem_cons.1 h with rfl | h
      · omega
      · have := ih h; omega
  have := this ks h
  rw [tsz]; omega

def row5 (c0 c1 c2 c3 c4 : Value) : Nat → Value
  | 0 => c0
  | 1 => c1
  | 2 => c2
  | 3 => c3
  | _ => c4

theorem row5_alloc (w : World) (c0 c1 c2 c3 c4 : Value) (t : TypeId) : (w.alloc (.cells #[c0, c1, c2, c3, c4] t)).rowIs w.heap.size t 5 (row5 c0 c1 c2 c3 c4) :=
  World.rowIs_alloc w #[c0, c1, c2, c3, c4] t _ (fun i hi => by
    have hi' : i < 5 := hi
    match i, hi' with
    | 0, _ => rfl
    | 1, _ => rfl
    | 2, _ => rfl
    | 3, _ => rfl
    | 4, _ => rfl)

theorem box1 {w w1 : World} {x0 x1 x2 x3 x4 : Value} {tx : TypeId}
    (hb : Below (w.alloc (.cells #[x0, x1, x2, x3, x4] tx)).heap.size (w.alloc (.cells #[x0, x1, x2, x3, x4] tx)) w1) :
    w1.rowIs w.heap.size tx 5 (row5 x0 x1 x2 x3 x4) ∧ w.heap.size + 1 ≤ w1.heap.size ∧ Below w.heap.size w w1 := by
  have r0 := row5_alloc w x0 x1 x2 x3 x4 tx
  have hs := hb.size
  refine ⟨r0.of_block (hb.block _ r0.lt), by simpa using hs, ?_⟩
  exact ((Below.refl _ _).alloc (Nat.le_refl _) _).trans (hb.mono (by simp))

theorem box2 {w w1 : World} {x0 x1 x2 x3 x4 y0 y1 y2 y3 y4 : Value} {tx ty : TypeId}
    (hb : Below ((w.alloc (.cells #[x0, x1, x2, x3, x4] tx)).alloc (.cells #[y0, y1, y2, y3, y4] ty)).heap.size ((w.alloc (.cells #[x0, x1, x2, x3, x4] tx)).alloc (.cells #[y0, y1, y2, y3, y4] ty)) w1) :
    w1.rowIs w.heap.size tx 5 (row5 x0 x1 x2 x3 x4) ∧ w1.rowIs (w.heap.size + 1) ty 5 (row5 y0 y1 y2 y3 y4) ∧ w.heap.size + 2 ≤ w1.heap.size ∧ Below w.heap.size w w1 := by
  have e1 : (w.alloc (.cells #[x0, x1, x2, x3, x4] tx)).heap.size = w.heap.size + 1 := by simp
  have r0 := (row5_alloc w x0 x1 x2 x3 x4 tx).alloc (.cells #[y0, y1, y2, y3, y4] ty)
  have r1 := row5_alloc (w.alloc (.cells #[x0, x1, x2, x3, x4] tx)) y0 y1 y2 y3 y4 ty
  rw [e1] at r1
  have hs := hb.size
  refine ⟨r0.of_block (hb.block _ r0.lt), r1.of_block (hb.block _ r1.lt), by simpa using hs, ?_⟩
  exact (((Below.refl _ _).alloc (Nat.le_refl _) _).alloc (by simp) _).trans (hb.mono (by simp; omega))

end Go.Proofs.YtiflfcjocngiiaaGreatDoor

/- When a tree is ok, as plain functions on data: names, texts, a tree without its kids, its parts. Definitions and small laws, no program. No conditions. -/

namespace Go.Proofs.YtiflfcjocngiiaaGreatDoor
open Go Go.RowKit

def nameByte (c : UInt8) : Bool := (97 ≤ c.toNat && c.toNat ≤ 122) || (48 ≤ c.toNat && c.toNat ≤ 57)
def nameFirst (c : UInt8) : Bool := 97 ≤ c.toNat && c.toNat ≤ 122
def textByte (c : UInt8) : Bool := 32 ≤ c.toNat && c.toNat ≤ 126 && c.toNat != 34

/-- The first k bytes are such. -/
def allTo (p : UInt8 → Bool) (s : ByteArray) (k : Nat) : Prop := ∀ j, j < k → (h : j < s.size) → p s[j] = true

def nameOkB (s : ByteArray) : Bool := 1 ≤ s.size && s.size ≤ 8 && nameFirst s[0]! && s.data.toList.all nameByte
def textOkB (s : ByteArray) : Bool := s.size ≤ 60 && s.data.toList.all textByte

theorem all_of {p : UInt8 → Bool} {s : ByteArray} (h : allTo p s s.size) : s.data.toList.all p = true := by
  rw [List.all_eq_true]
  intro x hx
  obtain ⟨i, hi, rfl⟩ := List.getElem_of_mem hx
  have hi' : i < s.size := by simpa using hi
  exact h i hi' hi'

theorem all_not {p : UInt8 → Bool} {s : ByteArray} {k : Nat} (hk : k < s.size) (h : p s[k] = false) : s.data.toList.all p = false := by
  rw [Bool.eq_false_iff]
  intro ha
  rw [List.all_eq_true] at ha
  have := ha s[k] (by have : s[k] = s.data.toList[k]'(by simpa using hk) := rfl; rw [this]; exact List.getElem_mem _)
  rw [h] at this
  cases this

theorem ret_bool {b c : Bool} (h : b = c) : Ending.returned (.bool b) = .returned (.bool c) := by rw [h]

theorem textOk_not {s : ByteArray} {k : Nat} (hk : k < s.size) (h : textByte s[k] = false) : textOkB s = false := by
  simp [textOkB, all_not hk h]
theorem textOk_yes {s : ByteArray} (h : s.size ≤ 60) (ha : allTo textByte s s.size) : textOkB s = true := by
  simp [textOkB, h]; simpa using all_of ha
theorem textByte_no {c : UInt8} (h : c.toNat < 32 ∨ 126 < c.toNat ∨ c.toNat = 34) : textByte c = false := by
  unfold textByte; rcases h with h | h | h
  · rw [show decide (32 ≤ c.toNat) = false from by simp; omega]; rfl
  · rw [show decide (c.toNat ≤ 126) = false from by simp; omega]; simp
  · rw [h]; rfl
theorem textByte_yes {c : UInt8} (h : 32 ≤ c.toNat ∧ c.toNat ≤ 126 ∧ c.toNat ≠ 34) : textByte c = true := by
  unfold textByte; simp [h.1, h.2.1, h.2.2]
theorem allTo_succ {p : UInt8 → Bool} {s : ByteArray} {k : Nat} (h : allTo p s k) (hk : k < s.size) (hp : p s[k] = true) : allTo p s (k + 1) := by
  intro j hj hs
  by_cases e : j = k
  · subst e; exact hp
  · exact h j (by omega) hs

theorem nameByte_yes {c : UInt8} (h : (97 ≤ c.toNat ∧ c.toNat ≤ 122) ∨ (48 ≤ c.toNat ∧ c.toNat ≤ 57)) : nameByte c = true := by
  unfold nameByte; rcases h with h | h <;> simp [h.1, h.2]
theorem nameByte_no {c : UInt8} (h : c.toNat < 48 ∨ (57 < c.toNat ∧ c.toNat < 97) ∨ 122 < c.toNat) : nameByte c = false := by
  unfold nameByte
  simp only [Bool.or_eq_false_iff, Bool.and_eq_false_iff, decide_eq_false_iff_not]
  omega
theorem nameOk_len {s : ByteArray} (h : s.size < 1 ∨ 8 < s.size) : nameOkB s = false := by
  unfold nameOkB
  rcases h with h | h
  · rw [show decide (1 ≤ s.size) = false from decide_eq_false (by omega)]; rfl
  · rw [show decide (s.size ≤ 8) = false from decide_eq_false (by omega)]; simp
theorem nameOk_first {s : ByteArray} (h0 : 0 < s.size) (h : s[0].toNat < 97 ∨ 122 < s[0].toNat) : nameOkB s = false := by
  unfold nameOkB
  rw [getElem!_pos s 0 h0, show nameFirst s[0] = false from by unfold nameFirst; simp only [Bool.and_eq_false_iff, decide_eq_false_iff_not]; omega]
  simp
theorem nameOk_not {s : ByteArray} {k : Nat} (hk : k < s.size) (h : nameByte s[k] = false) : nameOkB s = false := by
  simp [nameOkB, all_not hk h]
theorem nameOk_yes {s : ByteArray} (h1 : 0 < s.size) (h2 : s.size ≤ 8) (hf : 97 ≤ s[0].toNat ∧ s[0].toNat ≤ 122) (ha : allTo nameByte s s.size) : nameOkB s = true := by
  unfold nameOkB
  rw [all_of ha, getElem!_pos s 0 h1, show nameFirst s[0] = true from by unfold nameFirst; simp [hf.1, hf.2]]
  simp; omega

theorem getD_lt (l : List ByteArray) (i : Nat) (h : i < l.length) : l.getD i ByteArray.empty = l[i] := by simp [h]

/-- Name i of a list is a name, and comes behind the one ahead of it. -/
def good (ns : List ByteArray) (i : Nat) : Bool := nameOkB (ns.getD i ByteArray.empty) && (decide (i = 0) || Op.bytesLess (ns.getD (i - 1) ByteArray.empty).toList (ns.getD i ByteArray.empty).toList)
def riseB (ns : List ByteArray) : Bool := (List.range ns.length).all (good ns)
theorem rise_yes {ns : List ByteArray} (h : ∀ i, i < ns.length → good ns i = true) : riseB ns = true := by
  unfold riseB; rw [List.all_eq_true]; intro i hi; exact h i (List.mem_range.1 hi)
theorem rise_no {ns : List ByteArray} {i : Nat} (hi : i < ns.length) (h : good ns i = false) : riseB ns = false := by
  unfold riseB; rw [Bool.eq_false_iff]; intro ha; rw [List.all_eq_true] at ha
  have := ha i (List.mem_range.2 hi); rw [h] at this; cases this
theorem good_name {ns : List ByteArray} {i : Nat} (hi : i < ns.length) (h : nameOkB ns[i] = false) : good ns i = false := by
  unfold good; rw [getD_lt _ _ hi, h]; rfl
theorem good_zero {ns : List ByteArray} (hi : 0 < ns.length) (h : nameOkB ns[0] = true) : good ns 0 = true := by
  unfold good; rw [getD_lt _ _ hi, h]; rfl
theorem good_pos {ns : List ByteArray} {i : Nat} (hi : i < ns.length) (h0 : 0 < i) (h : nameOkB ns[i] = true) : good ns i = Op.bytesLess (ns[i - 1]'(by omega)).toList ns[i].toList := by
  unfold good; rw [getD_lt _ _ hi, getD_lt _ _ (show i - 1 < ns.length by omega), h, decide_eq_false (by omega)]; simp

/-- A tree is ok, but for its kids. -/
def aloneB (t : Tr) : Bool :=
  if t.sort = 1 then decide (-999999999 ≤ t.num ∧ t.num ≤ 999999999) && decide (t.text.toList = []) && decide (t.names.length = 0) && decide (t.kids.length = 0)
  else if t.sort = 2 then decide (t.num = 0) && textOkB t.text && decide (t.names.length = 0) && decide (t.kids.length = 0)
  else if t.sort = 3 then decide (0 ≤ t.num ∧ t.num ≤ 1) && decide (t.text.toList = []) && decide (t.names.length = 0) && decide (t.kids.length = 0)
  else if t.sort = 4 then decide (t.num = 0) && decide (t.text.toList = []) && decide (t.names.length = 0) && decide (t.kids.length ≤ 20)
  else if t.sort = 5 then decide (t.num = 0) && decide (t.text.toList = []) && decide (t.names.length = t.kids.length) && riseB t.names
  else if t.sort = 6 then decide (t.num = 0) && decide (t.text.toList = []) && decide (t.names.length = 0) && decide (t.kids.length ≤ 1)
  else false

mutual
/-- The parts of a tree that is so deep, as the specification counts them; -1, if it is not ok. -/
def pT : Tr → Int → Int
  | .mk s n tx ns ks, d => if 6 < d ∨ aloneB (.mk s n tx ns ks) = false then -1 else pK ks d 1
def pK : List Tr → Int → Int → Int
  | [], _, n => n
  | t :: r, d, n => if pT t (d + 1) < 0 ∨ 120 < n + pT t (d + 1) then -1 else pK r d (n + pT t (d + 1))
end

theorem pT_eq (t : Tr) (d : Int) : pT t d = if 6 < d ∨ aloneB t = false then -1 else pK t.kids d 1 := by
  obtain ⟨s, n, tx, ns, ks⟩ := t
  rw [pT]; rfl

theorem pK_bd (ks : List Tr) (d n : Int) (h0 : 1 ≤ n) (h1 : n ≤ 120) : pK ks d n = -1 ∨ (1 ≤ pK ks d n ∧ pK ks d n ≤ 120) := by
  induction ks generalizing n with
  | nil => rw [pK]; omega
  | cons t r ih =>
    rw [pK]
    split
    · exact Or.inl rfl
    · exact ih _ (by omega) (by omega)

theorem pT_bd (t : Tr) (d : Int) : pT t d = -1 ∨ (1 ≤ pT t d ∧ pT t d ≤ 120) := by
  rw [pT_eq]
  split
  · exact Or.inl rfl
  · exact pK_bd _ _ _ (by omega) (by omega)

theorem pK_step {ks : List Tr} {k : Nat} (hk : k < ks.length) (d n : Int) : pK (ks.drop k) d n = if pT ks[k] (d + 1) < 0 ∨ 120 < n + pT ks[k] (d + 1) then -1 else pK (ks.drop (k + 1)) d (n + pT ks[k] (d + 1)) := by
  rw [List.drop_eq_getElem_cons hk, pK]

/-- A tree has just what its sort has. -/
def ownB (t : Tr) : Bool :=
  if t.sort = 1 then decide (t.text.toList = []) && decide (t.names = []) && decide (t.kids.length = 0)
  else if t.sort = 2 then decide (t.num = 0) && decide (t.names = []) && decide (t.kids.length = 0)
  else if t.sort = 3 then decide (t.text.toList = []) && decide (t.names = []) && decide (t.kids.length = 0)
  else if t.sort = 4 then decide (t.num = 0) && decide (t.text.toList = []) && decide (t.names = [])
  else if t.sort = 5 then decide (t.num = 0) && decide (t.text.toList = [])
  else if t.sort = 6 then decide (t.num = 0) && decide (t.text.toList = []) && decide (t.names = [])
  else false

/-- What a tree has is as its sort wants it. -/
def newB (t : Tr) : Bool :=
  if t.sort = 1 then decide (-999999999 ≤ t.num ∧ t.num ≤ 999999999)
  else if t.sort = 2 then textOkB t.text
  else if t.sort = 3 then decide (0 ≤ t.num ∧ t.num ≤ 1)
  else if t.sort = 4 then decide (t.kids.length ≤ 20)
  else if t.sort = 5 then decide (t.names.length = t.kids.length) && riseB t.names
  else if t.sort = 6 then decide (t.kids.length ≤ 1)
  else false

theorem alone_eq (t : Tr) : aloneB t = (ownB t && newB t) := by
  unfold aloneB ownB newB
  split
  · rw [Bool.eq_iff_iff]; simp; grind
  split
  · rw [Bool.eq_iff_iff]; simp; grind
  split
  · rw [Bool.eq_iff_iff]; simp; grind
  split
  · rw [Bool.eq_iff_iff]; simp
  split
  · rw [Bool.eq_iff_iff]; simp; grind
  split
  · rw [Bool.eq_iff_iff]; simp
  rfl

end Go.Proofs.YtiflfcjocngiiaaGreatDoor

/- The bytes of texts, numbers, trees and events, and how many they are. No program, no conditions. -/

namespace Go.Proofs.YtiflfcjocngiiaaGreatDoor
open Go Go.RowKit

def shortB (s : ByteArray) : List UInt8 := UInt8.ofNat s.size :: s.data.toList
theorem shortB_len (s : ByteArray) : (shortB s).length = s.size + 1 := by
  simp [shortB]

/-- Seven bits a byte, the lowest first. -/
def sevB (n : Nat) : List UInt8 := if 127 < n then UInt8.ofNat (128 + n % 128) :: sevB (n / 128) else [UInt8.ofNat n]
termination_by n
decreasing_by omega
theorem sevB_more {n : Nat} (h : 127 < n) : sevB n = UInt8.ofNat (128 + n % 128) :: sevB (n / 128) := by rw [sevB, if_pos h]
theorem sevB_last {n : Nat} (h : ¬ 127 < n) : sevB n = [UInt8.ofNat n] := by rw [sevB, if_neg h]
theorem sevB_len {n : Nat} (h : n ≤ 999999999) : (sevB n).length ≤ 5 := by
  by_cases h1 : 127 < n
  · rw [sevB_more h1]
    by_cases h2 : 127 < n / 128
    · rw [sevB_more h2]
      by_cases h3 : 127 < n / 128 / 128
      · rw [sevB_more h3]
        by_cases h4 : 127 < n / 128 / 128 / 128
        · rw [sevB_more h4, sevB_last (by omega)]; simp
        · rw [sevB_last h4]; simp
      · rw [sevB_last h3]; simp
    · rw [sevB_last h2]; simp
  · rw [sevB_last h1]; simp

def numB (n : Int) : List UInt8 := (if n < 0 then 1 else 0) :: sevB n.natAbs

mutual
def treeB : Tr → List UInt8
  | .mk s n tx ns ks => UInt8.ofNat s.toNat :: (if s = 1 then numB n else if s = 2 then shortB tx else if s = 3 then [UInt8.ofNat n.toNat] else UInt8.ofNat ks.length :: kidsB (decide (s = 5)) ns ks)
def kidsB (form : Bool) : List ByteArray → List Tr → List UInt8
  | _, [] => []
  | ns, k :: r => (if form then shortB (ns.headD ByteArray.empty) else []) ++ (treeB k ++ kidsB form ns.tail r)
end

theorem treeB_eq (t : Tr) : treeB t = UInt8.ofNat t.sort.toNat :: (if t.sort = 1 then numB t.num else if t.sort = 2 then shortB t.text else if t.sort = 3 then [UInt8.ofNat t.num.toNat] else UInt8.ofNat t.kids.length :: kidsB (decide (t.sort = 5)) t.names t.kids) := by
  obtain ⟨s, n, tx, ns, ks⟩ := t
  rw [treeB]; rfl

theorem kidsB_take (form : Bool) : ∀ (ns : List ByteArray) (ks : List Tr) (k : Nat) (hk : k < ks.length), kidsB form ns (ks.take (k + 1)) = kidsB form ns (ks.take k) ++ ((if form then shortB (ns.getD k ByteArray.empty) else []) ++ treeB ks[k])
  | _, [], k, hk => by simp at hk
  | ns, a :: r, 0, _ => by
    simp only [List.take_succ_cons, List.take_zero, kidsB, List.nil_append, List.append_nil, List.getElem_cons_zero]
    cases ns <;> rfl
  | ns, a :: r, k + 1, hk => by
    have ih := kidsB_take form ns.tail r k (by simpa using hk)
    simp only [List.take_succ_cons, kidsB, List.getElem_cons_succ]
    rw [ih]
    have : ns.tail.getD k ByteArray.empty = ns.getD (k + 1) ByteArray.empty := by cases ns <;> simp
    rw [this]
    simp [List.append_assoc]

theorem kidsB_le (form : Bool) : ∀ (ns : List ByteArray) (ks : List Tr) (k : Nat), (kidsB form ns (ks.take k)).length ≤ (kidsB form ns ks).length
  | _, [], k => by simp
  | ns, a :: r, 0 => by simp [kidsB]
  | ns, a :: r, k + 1 => by
    have := kidsB_le form ns.tail r k
    simp only [List.take_succ_cons, kidsB, List.length_append]
    omega

/-- What is known of a tree that is ok, by its sort. -/
theorem ok_sort {t : Tr} {d : Int} (h : 0 < pT t d) : t.sort = 1 ∨ t.sort = 2 ∨ t.sort = 3 ∨ t.sort = 4 ∨ t.sort = 5 ∨ t.sort = 6 := by
  rw [pT_eq] at h
  split at h
  · omega
  · rename_i hn
    have ha : aloneB t = true := by simpa using (not_or.1 hn).2
    unfold aloneB at ha
    by_cases h1 : t.sort = 1; · omega
    by_cases h2 : t.sort = 2; · omega
    by_cases h3 : t.sort = 3; · omega
    by_cases h4 : t.sort = 4; · omega
    by_cases h5 : t.sort = 5; · omega
    by_cases h6 : t.sort = 6; · omega
    simp [h1, h2, h3, h4, h5, h6] at ha

theorem ok_alone {t : Tr} {d : Int} (h : 0 < pT t d) : aloneB t = true ∧ d ≤ 6 ∧ pT t d = pK t.kids d 1 := by
  rw [pT_eq] at h ⊢
  split at h
  · omega
  · rename_i hn
    have hn' := not_or.1 hn
    rw [if_neg hn]
    exact ⟨by simpa using hn'.2, by omega, rfl⟩

theorem ok_num {t : Tr} {d : Int} (h : 0 < pT t d) (h1 : t.sort = 1) : -999999999 ≤ t.num ∧ t.num ≤ 999999999 := by
  have ha := (ok_alone h).1
  unfold aloneB at ha
  simp [h1] at ha
  omega
theorem ok_text {t : Tr} {d : Int} (h : 0 < pT t d) (h1 : t.sort = 2) : t.text.size ≤ 60 := by
  have ha := (ok_alone h).1
  unfold aloneB at ha
  simp [h1, textOkB] at ha
  omega
theorem ok_flag {t : Tr} {d : Int} (h : 0 < pT t d) (h1 : t.sort = 3) : 0 ≤ t.num ∧ t.num ≤ 1 := by
  have ha := (ok_alone h).1
  unfold aloneB at ha
  simp [h1] at ha
  omega
theorem ok_names {t : Tr} {d : Int} (h : 0 < pT t d) (h1 : t.sort = 5) : t.names.length = t.kids.length ∧ ∀ s ∈ t.names, s.size ≤ 8 := by
  have ha := (ok_alone h).1
  unfold aloneB at ha
  simp [h1] at ha
  refine ⟨ha.1.2, fun s hs => ?_⟩
  obtain ⟨i, hi, rfl⟩ := List.getElem_of_mem hs
  have hg := ha.2
  unfold riseB at hg
  rw [List.all_eq_true] at hg
  have := hg i (List.mem_range.2 hi)
  unfold good nameOkB at this
  rw [getD_lt _ _ hi] at this
  simp at this
  omega

theorem pK_pos : ∀ (ks : List Tr) (d n : Int), 0 < pK ks d n → ∀ k, (hk : k < ks.length) → 0 < pT ks[k] (d + 1)
  | [], _, _, _, k, hk => by simp at hk
  | t :: r, d, n, h, k, hk => by
    rw [pK] at h
    split at h
    · omega
    · rename_i hn
      have hn' := not_or.1 hn
      cases k with
      | zero =>
        have := pT_bd t (d + 1)
        simp only [List.getElem_cons_zero]
        omega
      | succ k => exact pK_pos r d _ h k (by simpa using hk)
theorem pK_count : ∀ (ks : List Tr) (d n : Int), 0 < pK ks d n → n + ks.length ≤ pK ks d n
  | [], _, n, _ => by rw [pK]; simp
  | t :: r, d, n, h => by
    rw [pK] at h ⊢
    split at h
    · omega
    · rename_i hn
      rw [if_neg hn]
      have hn' := not_or.1 hn
      have := pK_count r d _ h
      have := pT_bd t (d + 1)
      simp
      omega
theorem ok_kid {t : Tr} {d : Int} (h : 0 < pT t d) (k : Nat) (hk : k < t.kids.length) : 0 < pT t.kids[k] (d + 1) := by
  rw [(ok_alone h).2.2] at h
  exact pK_pos _ _ _ h k hk
theorem ok_many {t : Tr} {d : Int} (h : 0 < pT t d) : t.kids.length ≤ 119 := by
  have hb := pT_bd t d
  have he := (ok_alone h).2.2
  rw [he] at h hb
  have := pK_count _ _ _ h
  omega

mutual
theorem treeB_len : ∀ (t : Tr) (d : Int), 0 < pT t d → ((treeB t).length : Int) + 9 ≤ 71 * pT t d
  | .mk s n tx ns ks, d => by
    intro h
    have hs := ok_sort h
    have hnum := ok_num h
    have htext := ok_text h
    have hnames := ok_names h
    have he := (ok_alone h).2.2
    have h' := h
    rw [he] at h' ⊢
    have hbase : (1 : Int) ≤ pK ks d 1 := h'
    simp only [Tr.sort, Tr.num, Tr.text, Tr.names, Tr.kids] at *
    rw [treeB]
    by_cases h1 : s = 1
    · subst h1
      have hl := sevB_len (n := n.natAbs) (by have := hnum rfl; omega)
      simp [numB]
      omega
    by_cases h2 : s = 2
    · subst h2
      have := htext rfl
      have := shortB_len tx
      simp [this]
      omega
    by_cases h3 : s = 3
    · subst h3
      simp
      omega
    rw [if_neg h1, if_neg h2, if_neg h3]
    have hk := kidsB_len (decide (s = 5)) ns ks d 1 (fun hf x hx => (hnames (by simpa using hf)).2 x hx) h'
    simp
    omega
theorem kidsB_len (form : Bool) : ∀ (ns : List ByteArray) (ks : List Tr) (d n : Int), (form = true → ∀ s ∈ ns, s.size ≤ 8) → 0 < pK ks d n → ((kidsB form ns ks).length : Int) + 71 * n ≤ 71 * pK ks d n
  | ns, [], d, n, _, h => by rw [kidsB, pK]; simp
  | ns, t :: r, d, n, hn, h => by
    rw [pK] at h ⊢
    split at h
    · omega
    · rename_i hh
      rw [if_neg hh]
      have hh' := not_or.1 hh
      have hp : 0 < pT t (d + 1) := by have := pT_bd t (d + 1); omega
      have i1 := treeB_len t (d + 1) hp
      have i2 := kidsB_len form ns.tail r d _ (fun hf s hs => hn hf s (List.mem_of_mem_tail hs)) h
      rw [kidsB]
      have i3 : (if form then shortB (ns.headD ByteArray.empty) else []).length ≤ 9 := by
        split
        · rename_i hf
          rw [shortB_len]
          cases ns with
          | nil => simp
          | cons a _ => have := hn hf a (by simp); simp; omega
        · simp
      simp only [List.length_append]
      omega
end

def eventB (ty : ByteArray) (ver : Int) (t : Tr) : List UInt8 := (shortB ty ++ [UInt8.ofNat ver.toNat]) ++ treeB t
theorem eventB_len {ty : ByteArray} {ver : Int} {t : Tr} {d : Int} (h1 : ty.size ≤ 8) (h : 0 < pT t d) : (eventB ty ver t).length ≤ 9000 := by
  have a := treeB_len t d h
  have b := pT_bd t d
  have c := shortB_len ty
  simp only [eventB, List.length_append, List.length_cons, List.length_nil, c]
  omega
end Go.Proofs.YtiflfcjocngiiaaGreatDoor
