/- When a tree is ok, as plain functions on data: names, texts, a tree without its kids, its parts. Definitions and small laws, no program. No conditions. -/
import Derived.Test.YtenpghndgdemnaaGreatDoorPart01
namespace Go.Proofs.YtenpghndgdemnaaGreatDoor
open Go Go.RowKit

def nameByte (c : UInt8) : Bool := (97 ≤ c.toNat && c.toNat ≤ 122) || (48 ≤ c.toNat && c.toNat ≤ 57)
def nameFirst (c : UInt8) : Bool := 97 ≤ c.toNat && c.toNat ≤ 122
/-- The first k bytes are such. -/
def allTo (p : UInt8 → Bool) (s : ByteArray) (k : Nat) : Prop := ∀ j, j < k → (h : j < s.size) → p s[j] = true

def nameOkB (s : ByteArray) : Bool := 1 ≤ s.size && s.size ≤ 8 && nameFirst s[0]! && s.data.toList.all nameByte
theorem all_of {p : UInt8 → Bool} {s : ByteArray} (h : allTo p s s.size) : s.data.toList.all p = true := by
  rw [List.all_eq_true]
  intro x hx
  obtain ⟨i, hi, rfl⟩ := List.getElem_of_mem hx
  have hi' : i < s.size := by simpa using hi
  exact h i hi' hi'

theorem all_not {p : UInt8 → Bool} {s : ByteArray} {k : Nat} (hk : k < s.size) (h : p s[k] = false) : s.data.toList.all p = false := by
  rw [Bool.eq_false_iff]
  intro ha
  rw [List.all_eq_true] at ha
  have := ha s[k] (by have : s[k] = s.data.toList[k]'(by simpa using hk) := rfl; rw [this]; exact List.getElem_mem _)
  rw [h] at this
  cases this

theorem ret_bool {b c : Bool} (h : b = c) : Ending.returned (.bool b) = .returned (.bool c) := by rw [h]

theorem allTo_succ {p : UInt8 → Bool} {s : ByteArray} {k : Nat} (h : allTo p s k) (hk : k < s.size) (hp : p s[k] = true) : allTo p s (k + 1) := by
  intro j hj hs
  by_cases e : j = k
  · subst e; exact hp
  · exact h j (by omega) hs

theorem nameByte_yes {c : UInt8} (h : (97 ≤ c.toNat ∧ c.toNat ≤ 122) ∨ (48 ≤ c.toNat ∧ c.toNat ≤ 57)) : nameByte c = true := by
  unfold nameByte; rcases h with h | h <;> simp [h.1, h.2]
theorem nameByte_no {c : UInt8} (h : c.toNat < 48 ∨ (57 < c.toNat ∧ c.toNat < 97) ∨ 122 < c.toNat) : nameByte c = false := by
  unfold nameByte
  simp only [Bool.or_eq_false_iff, Bool.and_eq_false_iff, decide_eq_false_iff_not]
  omega
theorem nameOk_len {s : ByteArray} (h : s.size < 1 ∨ 8 < s.size) : nameOkB s = false := by
  unfold nameOkB
  rcases h with h | h
  · rw [show decide (1 ≤ s.size) = false from decide_eq_false (by omega)]; rfl
  · rw [show decide (s.size ≤ 8) = false from decide_eq_false (by omega)]; simp
theorem nameOk_first {s : ByteArray} (h0 : 0 < s.size) (h : s[0].toNat < 97 ∨ 122 < s[0].toNat) : nameOkB s = false := by
  unfold nameOkB
  rw [getElem!_pos s 0 h0, show nameFirst s[0] = false from by unfold nameFirst; simp only [Bool.and_eq_false_iff, decide_eq_false_iff_not]; omega]
  simp
theorem nameOk_not {s : ByteArray} {k : Nat} (hk : k < s.size) (h : nameByte s[k] = false) : nameOkB s = false := by
  simp [nameOkB, all_not hk h]
theorem nameOk_yes {s : ByteArray} (h1 : 0 < s.size) (h2 : s.size ≤ 8) (hf : 97 ≤ s[0].toNat ∧ s[0].toNat ≤ 122) (ha : allTo nameByte s s.size) : nameOkB s = true := by
  unfold nameOkB
  rw [all_of ha, getElem!_pos s 0 h1, show nameFirst s[0] = true from by unfold nameFirst; simp [hf.1, hf.2]]
  simp; omega

theorem getD_lt (l : List ByteArray) (i : Nat) (h : i < l.length) : l.getD i ByteArray.empty = l[i] := by simp [h]

/-- Name i of a list is a name, and comes behind the one ahead of it. -/
def good (ns : List ByteArray) (i : Nat) : Bool := nameOkB (ns.getD i ByteArray.empty) && (decide (i = 0) || Op.bytesLess (ns.getD (i - 1) ByteArray.empty).toList (ns.getD i ByteArray.empty).toList)
def riseB (ns : List ByteArray) : Bool := (List.range ns.length).all (good ns)
theorem rise_yes {ns : List ByteArray} (h : ∀ i, i < ns.length → good ns i = true) : riseB ns = true := by
  unfold riseB; rw [List.all_eq_true]; intro i hi; exact h i (List.mem_range.1 hi)
theorem rise_no {ns : List ByteArray} {i : Nat} (hi : i < ns.length) (h : good ns i = false) : riseB ns = false := by
  unfold riseB; rw [Bool.eq_false_iff]; intro ha; rw [List.all_eq_true] at ha
  have := ha i (List.mem_range.2 hi); rw [h] at this; cases this
theorem good_name {ns : List ByteArray} {i : Nat} (hi : i < ns.length) (h : nameOkB ns[i] = false) : good ns i = false := by
  unfold good; rw [getD_lt _ _ hi, h]; rfl
theorem good_zero {ns : List ByteArray} (hi : 0 < ns.length) (h : nameOkB ns[0] = true) : good ns 0 = true := by
  unfold good; rw [getD_lt _ _ hi, h]; rfl
theorem good_pos {ns : List ByteArray} {i : Nat} (hi : i < ns.length) (h0 : 0 < i) (h : nameOkB ns[i] = true) : good ns i = Op.bytesLess (ns[i - 1]'(by omega)).toList ns[i].toList := by
  unfold good; rw [getD_lt _ _ hi, getD_lt _ _ (show i - 1 < ns.length by omega), h, decide_eq_false (by omega)]; simp


end Go.Proofs.YtenpghndgdemnaaGreatDoor

/- What a schema is as plain data, its weight, and how it lies in memory: definitions and small laws, no program. No conditions. -/

namespace Go.Proofs.YtenpghndgdemnaaGreatDoor
open Go Go.RowKit

/-- A schema as plain data. -/
inductive Kd where
  | mk (sort : Int) (names : List ByteArray) (kids : List Kd)

namespace Kd
def sort : Kd → Int | mk s _ _ => s
def names : Kd → List ByteArray | mk _ n _ => n
def kids : Kd → List Kd | mk _ _ k => k
end Kd

mutual
def wKd : Kd → Nat
  | .mk _ n k => wS n + wKs k
def wKs : List Kd → Nat
  | [] => 0
  | t :: r => 1 + wKd t + wKs r
end

theorem wKs_mem {t : Kd} {l : List Kd} (h : t ∈ l) : wKd t + 1 ≤ wKs l := by
  induction l with
  | nil => cases h
  | cons a r ih =>
    rw [wKs]
    rcases List.mem_cons.1 h with rfl | h
    · omega
    · have := ih h; omega

theorem wKs_len (l : List Kd) : l.length ≤ wKs l := by
  induction l with
  | nil => simp [wKs]
  | cons a r ih => rw [wKs]; simp; omega

theorem wKs_take (ks : List Kd) (k : Nat) (h : k < ks.length) : wKs (ks.take (k + 1)) = wKs (ks.take k) + wKd ks[k] + 1 := by
  induction ks generalizing k with
  | nil => simp at h
  | cons a r ih =>
    cases k with
    | zero => simp [wKs]; omega
    | succ k => simp only [List.take_succ_cons, wKs, List.getElem_cons_succ]; rw [ih k (by simpa using h)]; omega

/-- The three cells of a schema. -/
structure C3 where
  (c0 c1 c2 : Value)

/-- Three cells lie at an offset of a block. -/
def C3.at (w : World) (b o : Nat) (c : C3) : Prop :=
  w.cell? ⟨b, o, none⟩ = some c.c0 ∧ w.cell? ⟨b, o + 1, none⟩ = some c.c1 ∧ w.cell? ⟨b, o + 2, none⟩ = some c.c2

mutual
/-- Three cells are a schema: all that they lead to lies in the world, in blocks of which 'P' holds. -/
def KRep (P : Nat → Prop) (w : World) : Kd → C3 → Prop
  | .mk s ns ks, c => c.c0 = .int .i64 s ∧ I64 s ∧ StrsAt P w c.c1 ns ∧
    ∃ a cap, c.c2 = .slice a ks.length cap ∧ ks.length ≤ 9223372036854775807 ∧ (ks ≠ [] → ∃ b o, a = some ⟨b, o, none⟩ ∧ P b ∧ KRepK P w b o ks)
def KRepK (P : Nat → Prop) (w : World) (b : Nat) (o : Nat) : List Kd → Prop
  | [] => True
  | t :: r => (∃ c, C3.at w b o c ∧ KRep P w t c) ∧ KRepK P w b (o + 3) r
end

theorem KRepK.get {P : Nat → Prop} {w : World} {b o : Nat} {ks : List Kd} (h : KRepK P w b o ks) (i : Nat) (hi : i < ks.length) :
    ∃ c, C3.at w b (o + i * 3) c ∧ KRep P w ks[i] c := by
  induction ks generalizing o i with
  | nil => simp at hi
  | cons t r ih =>
    rw [KRepK] at h
    cases i with
    | zero => exact h.1
    | succ i =>
      obtain ⟨c, h1, h2⟩ := ih h.2 i (by simpa using hi)
      exact ⟨c, by rw [show o + (i + 1) * 3 = o + 3 + i * 3 from by omega]; exact h1, h2⟩

theorem KRepK.mk {P : Nat → Prop} {w : World} {b o : Nat} {ks : List Kd} (h : ∀ i, (hi : i < ks.length) → ∃ c, C3.at w b (o + i * 3) c ∧ KRep P w ks[i] c) : KRepK P w b o ks := by
  induction ks generalizing o with
  | nil => rw [KRepK]; trivial
  | cons t r ih =>
    rw [KRepK]
    refine ⟨h 0 (by simp), ih fun i hi => ?_⟩
    obtain ⟨c, h1, h2⟩ := h (i + 1) (by simpa using hi)
    exact ⟨c, by rw [show o + 3 + i * 3 = o + (i + 1) * 3 from by omega]; exact h1, h2⟩

theorem C3.at.carry {w w' : World} {b o : Nat} {c : C3} (h : C3.at w b o c) (hb : w'.heap[b]? = w.heap[b]?) : C3.at w' b o c := by
  have e : ∀ o', w'.cell? ⟨b, o', none⟩ = w.cell? ⟨b, o', none⟩ := fun o' => World.cell?_of_block (w := w) hb
  obtain ⟨h0, h1, h2⟩ := h
  exact ⟨by rw [e]; exact h0, by rw [e]; exact h1, by rw [e]; exact h2⟩

mutual
theorem KRep.carry {P Q : Nat → Prop} {w w' : World} (hP : ∀ b, P b → w'.heap[b]? = w.heap[b]?) (hQ : ∀ b, P b → Q b) : ∀ (t : Kd) (c : C3), KRep P w t c → KRep Q w' t c
  | .mk s ns ks, c => by
    intro h
    rw [KRep] at h ⊢
    obtain ⟨h0, h3, h6, a, cap, h7, h8, h9⟩ := h
    refine ⟨h0, h3, h6.carry hP hQ, a, cap, h7, h8, fun hk => ?_⟩
    obtain ⟨b, o, e, p, hr⟩ := h9 hk
    exact ⟨b, o, e, hQ b p, KRepK.carry hP hQ b o (hP b p) ks hr⟩
theorem KRepK.carry {P Q : Nat → Prop} {w w' : World} (hP : ∀ b, P b → w'.heap[b]? = w.heap[b]?) (hQ : ∀ b, P b → Q b) (b : Nat) (o : Nat) (hb : w'.heap[b]? = w.heap[b]?) : ∀ (ks : List Kd), KRepK P w b o ks → KRepK Q w' b o ks
  | [] => by intro _; rw [KRepK]; trivial
  | t :: r => by
    intro h
    rw [KRepK] at h ⊢
    obtain ⟨⟨c, h1, h2⟩, h3⟩ := h
    exact ⟨⟨c, h1.carry hb, KRep.carry hP hQ t c h2⟩, KRepK.carry hP hQ b (o + 3) hb r h3⟩
end

/-- A schema as the walks take it: what its kids' slice is, and each kid. -/
theorem KRep.open {P : Nat → Prop} {w : World} {t : Kd} {c : C3} (h : KRep P w t c) :
    c.c0 = .int .i64 t.sort ∧ I64 t.sort ∧ StrsAt P w c.c1 t.names ∧
    ∃ a cap, c.c2 = .slice a t.kids.length cap ∧ t.kids.length ≤ 9223372036854775807 ∧
      ∀ i, (hi : i < t.kids.length) → ∃ b o c, a = some ⟨b, o, none⟩ ∧ P b ∧ C3.at w b (o + i * 3) c ∧ KRep P w t.kids[i] c := by
  obtain ⟨s, ns, ks⟩ := t
  rw [KRep] at h
  obtain ⟨h0, h3, h6, a, cap, h7, h8, h9⟩ := h
  refine ⟨h0, h3, h6, a, cap, h7, h8, fun i hi => ?_⟩
  obtain ⟨b, o, e, p, hr⟩ := h9 (fun hh => by subst hh; simp [Kd.kids] at hi)
  obtain ⟨c', h1', h2'⟩ := hr.get i hi
  exact ⟨b, o, c', e, p, h1', h2'⟩

theorem KRep.make {P : Nat → Prop} {w : World} {t : Kd} {v3 : Value} {b o cap : Nat} (h0 : I64 t.sort) (h3 : StrsAt P w v3 t.names) (h4 : t.kids.length ≤ 9223372036854775807) (h5 : P b) (h6 : KRepK P w b o t.kids) :
    KRep P w t ⟨.int .i64 t.sort, v3, .slice (some ⟨b, o, none⟩) t.kids.length cap⟩ := by
  obtain ⟨s, ns, ks⟩ := t
  rw [KRep]
  exact ⟨rfl, h0, h3, _, _, rfl, h4, fun _ => ⟨b, o, rfl, h5, h6⟩⟩

mutual
def ksz : Kd → Nat
  | .mk _ _ k => 1 + klsz k
def klsz : List Kd → Nat
  | [] => 0
  | t :: r => ksz t + klsz r
end
theorem ksz_kid {t k : Kd} (h : k ∈ t.kids) : ksz k < ksz t := by
  obtain ⟨s, ns, ks⟩ := t
  have : ∀ l : List Kd, k ∈ l → ksz k ≤ klsz l := by
    intro l
    induction l with
    | nil => intro h; cases h
    | cons a r ih =>
      intro h
      rw [klsz]
      rcases List.mem_cons.1 h with rfl | h
      · omega
      · have := ih h; omega
  have := this ks h
  rw [ksz]; omega

def row3 (c0 c1 c2 : Value) : Nat → Value
  | 0 => c0
  | 1 => c1
  | _ => c2

theorem row3_alloc (w : World) (c0 c1 c2 : Value) (t : TypeId) : (w.alloc (.cells #[c0, c1, c2] t)).rowIs w.heap.size t 3 (row3 c0 c1 c2) :=
  World.rowIs_alloc w #[c0, c1, c2] t _ (fun i hi => by
    have hi' : i < 3 := hi
    match i, hi' with
    | 0, _ => rfl
    | 1, _ => rfl
    | 2, _ => rfl)

theorem kbox1 {w w1 : World} {x0 x1 x2 : Value} {tx : TypeId}
    (hb : Below (w.alloc (.cells #[x0, x1, x2] tx)).heap.size (w.alloc (.cells #[x0, x1, x2] tx)) w1) :
    w1.rowIs w.heap.size tx 3 (row3 x0 x1 x2) ∧ w.heap.size + 1 ≤ w1.heap.size ∧ Below w.heap.size w w1 := by
  have r0 := row3_alloc w x0 x1 x2 tx
  have hs := hb.size
  refine ⟨r0.of_block (hb.block _ r0.lt), by simpa using hs, ?_⟩
  exact ((Below.refl _ _).alloc (Nat.le_refl _) _).trans (hb.mono (by simp))

theorem kbox2 {w w1 : World} {x0 x1 x2 y0 y1 y2 : Value} {tx ty : TypeId}
    (hb : Below ((w.alloc (.cells #[x0, x1, x2] tx)).alloc (.cells #[y0, y1, y2] ty)).heap.size ((w.alloc (.cells #[x0, x1, x2] tx)).alloc (.cells #[y0, y1, y2] ty)) w1) :
    w1.rowIs w.heap.size tx 3 (row3 x0 x1 x2) ∧ w1.rowIs (w.heap.size + 1) ty 3 (row3 y0 y1 y2) ∧ w.heap.size + 2 ≤ w1.heap.size ∧ Below w.heap.size w w1 := by
  have e1 : (w.alloc (.cells #[x0, x1, x2] tx)).heap.size = w.heap.size + 1 := by simp
  have r0 := (row3_alloc w x0 x1 x2 tx).alloc (.cells #[y0, y1, y2] ty)
  have r1 := row3_alloc (w.alloc (.cells #[x0, x1, x2] tx)) y0 y1 y2 ty
  rw [e1] at r1
  have hs := hb.size
  refine ⟨r0.of_block (hb.block _ r0.lt), r1.of_block (hb.block _ r1.lt), by simpa using hs, ?_⟩
  exact (((Below.refl _ _).alloc (Nat.le_refl _) _).alloc (by simp) _).trans (hb.mono (by simp; omega))

theorem kbox3 {w w1 : World} {x0 x1 x2 y0 y1 y2 z0 z1 z2 : Value} {tx ty tz : TypeId}
    (hb : Below (((w.alloc (.cells #[x0, x1, x2] tx)).alloc (.cells #[y0, y1, y2] ty)).alloc (.cells #[z0, z1, z2] tz)).heap.size (((w.alloc (.cells #[x0, x1, x2] tx)).alloc (.cells #[y0, y1, y2] ty)).alloc (.cells #[z0, z1, z2] tz)) w1) :
    w1.rowIs w.heap.size tx 3 (row3 x0 x1 x2) ∧ w1.rowIs (w.heap.size + 1) ty 3 (row3 y0 y1 y2) ∧ w1.rowIs (w.heap.size + 1 + 1) tz 3 (row3 z0 z1 z2) ∧ w.heap.size + 3 ≤ w1.heap.size ∧ Below w.heap.size w w1 := by
  have e1 : (w.alloc (.cells #[x0, x1, x2] tx)).heap.size = w.heap.size + 1 := by simp
  have e2 : ((w.alloc (.cells #[x0, x1, x2] tx)).alloc (.cells #[y0, y1, y2] ty)).heap.size = w.heap.size + 1 + 1 := by simp
  have r0 := ((row3_alloc w x0 x1 x2 tx).alloc (.cells #[y0, y1, y2] ty)).alloc (.cells #[z0, z1, z2] tz)
  have r1 := (row3_alloc (w.alloc (.cells #[x0, x1, x2] tx)) y0 y1 y2 ty).alloc (.cells #[z0, z1, z2] tz)
  have r2 := row3_alloc ((w.alloc (.cells #[x0, x1, x2] tx)).alloc (.cells #[y0, y1, y2] ty)) z0 z1 z2 tz
  rw [e1] at r1
  rw [e2] at r2
  have hs := hb.size
  refine ⟨r0.of_block (hb.block _ r0.lt), r1.of_block (hb.block _ r1.lt), r2.of_block (hb.block _ r2.lt), by simpa using hs, ?_⟩
  exact ((((Below.refl _ _).alloc (Nat.le_refl _) _).alloc (by simp) _).alloc (by simp; omega) _).trans (hb.mono (by simp; omega))

end Go.Proofs.YtenpghndgdemnaaGreatDoor

/- What a schema's parts are by the specification, and by the program's walk: they count alike. Plain functions on data; no program, no conditions. -/

namespace Go.Proofs.YtenpghndgdemnaaGreatDoor
open Go Go.RowKit

/-- A schema is ok, but for its kids and the bounds. -/
def shB (k : Kd) : Bool :=
  if k.sort = 1 ∨ k.sort = 2 ∨ k.sort = 3 then decide (k.kids.length = 0 ∧ k.names.length = 0)
  else if k.sort = 4 ∨ k.sort = 6 then decide (k.kids.length = 1 ∧ k.names.length = 0)
  else if k.sort = 5 then decide (k.kids.length = k.names.length) && riseB k.names
  else false

mutual
/-- The parts of a schema at a level, -1 if it is not ok: by the specification. -/
def qT : Kd → Int → Int
  | .mk s ns ks, d => if 6 < d ∨ shB (.mk s ns ks) = false then -1 else qK ks d 1
def qK : List Kd → Int → Int → Int
  | [], _, n => n
  | t :: r, d, n => if qT t (d + 1) < 0 ∨ 40 < n + qT t (d + 1) then -1 else qK r d (n + qT t (d + 1))
end

theorem qT_eq (t : Kd) (d : Int) : qT t d = if 6 < d ∨ shB t = false then -1 else qK t.kids d 1 := by
  obtain ⟨s, ns, ks⟩ := t
  rw [qT]; rfl

theorem qK_bd (ks : List Kd) (d n : Int) (h0 : 1 ≤ n) (h1 : n ≤ 40) : qK ks d n = -1 ∨ (1 ≤ qK ks d n ∧ qK ks d n ≤ 40) := by
  induction ks generalizing n with
  | nil => rw [qK]; omega
  | cons t r ih =>
    rw [qK]
    split
    · exact Or.inl rfl
    · exact ih _ (by omega) (by omega)

theorem qT_bd (t : Kd) (d : Int) : qT t d = -1 ∨ (1 ≤ qT t d ∧ qT t d ≤ 40) := by
  rw [qT_eq]
  split
  · exact Or.inl rfl
  · exact qK_bd _ _ _ (by omega) (by omega)

theorem qK_step {ks : List Kd} {k : Nat} (hk : k < ks.length) (d n : Int) : qK (ks.drop k) d n = if qT ks[k] (d + 1) < 0 ∨ 40 < n + qT ks[k] (d + 1) then -1 else qK (ks.drop (k + 1)) d (n + qT ks[k] (d + 1)) := by
  rw [List.drop_eq_getElem_cons hk, qK]

mutual
/-- A schema and all below it, with their levels, a node ahead of its kids. -/
def pord : Kd → Int → List (Int × Kd)
  | .mk s ns ks, l => (l, .mk s ns ks) :: pordK ks (l + 1)
def pordK : List Kd → Int → List (Int × Kd)
  | [], _ => []
  | t :: r, l => pord t l ++ pordK r l
end

theorem pord_eq (t : Kd) (l : Int) : pord t l = (l, t) :: pordK t.kids (l + 1) := by
  obtain ⟨s, ns, ks⟩ := t
  rw [pord]; rfl

/-- What is asked of a node. -/
def gdB (x : Int × Kd) : Bool := decide (x.1 ≤ 6) && shB x.2

mutual
theorem qT_pord : ∀ (t : Kd) (d : Int), qT t d = if (pord t d).all gdB = true ∧ (pord t d).length ≤ 40 then ((pord t d).length : Int) else -1
  | .mk s ns ks, d => by
    rw [qT, pord]
    by_cases h : 6 < d ∨ shB (.mk s ns ks) = false
    · rw [if_pos h, if_neg]
      rintro ⟨h1, -⟩
      simp only [List.all_cons, Bool.and_eq_true, gdB, decide_eq_true_eq] at h1
      rcases h with h | h
      · omega
      · rw [h] at h1; simp at h1
    · have h1 : d ≤ 6 := by omega
      have h2 : shB (.mk s ns ks) = true := by
        cases hh : shB (.mk s ns ks)
        · exact absurd (Or.inr hh) h
        · rfl
      have hg : gdB (d, .mk s ns ks) = true := by simp [gdB, h1, h2]
      rw [if_neg h, qK_pord ks d 1 (by omega) (by omega)]
      simp only [List.all_cons, hg, Bool.true_and, List.length_cons]
      by_cases hx : (pordK ks (d + 1)).all gdB = true ∧ (1 : Int) + (pordK ks (d + 1)).length ≤ 40
      · rw [if_pos hx, if_pos ⟨hx.1, by omega⟩]; omega
      · rw [if_neg hx, if_neg (fun hy => hx ⟨hy.1, by omega⟩)]
theorem qK_pord : ∀ (ks : List Kd) (d n : Int), 1 ≤ n → n ≤ 40 → qK ks d n = if (pordK ks (d + 1)).all gdB = true ∧ n + (pordK ks (d + 1)).length ≤ 40 then n + ((pordK ks (d + 1)).length : Int) else -1
  | [], d, n => by
    intro h1 h2
    rw [qK, pordK]
    simp [h2]
  | t :: r, d, n => by
    intro h1 h2
    rw [qK, pordK, qT_pord t (d + 1)]
    simp only [List.all_append, List.length_append, Bool.and_eq_true]
    by_cases ha : (pord t (d + 1)).all gdB = true ∧ (pord t (d + 1)).length ≤ 40
    · rw [if_pos ha]
      by_cases hb : n + ((pord t (d + 1)).length : Int) ≤ 40
      · rw [if_neg (by omega), qK_pord r d _ (by omega) hb]
        by_cases hx : (pordK r (d + 1)).all gdB = true ∧ n + ((pord t (d + 1)).length : Int) + (pordK r (d + 1)).length ≤ 40
        · rw [if_pos hx, if_pos ⟨⟨ha.1, hx.1⟩, by omega⟩]; omega
        · rw [if_neg hx, if_neg (fun hy => hx ⟨hy.1.2, by omega⟩)]
      · rw [if_pos (by omega), if_neg (fun hy => by omega)]
    · rw [if_neg ha, if_pos (by omega), if_neg (fun hy => ha ⟨hy.1.1, by omega⟩)]
end

/-- The walk ends just if the schema is ok. -/
theorem qT_start (t : Kd) : decide (0 < qT t 1) = ((pord t 1).all gdB && decide ((pord t 1).length ≤ 40)) := by
  have hl : 0 < (pord t 1).length := by rw [pord_eq]; simp
  rw [qT_pord]
  by_cases h : (pord t 1).all gdB = true ∧ (pord t 1).length ≤ 40
  · rw [if_pos h]; simp only [h.1, h.2, decide_true, Bool.and_self]; simp; omega
  · rw [if_neg h]
    symm
    rw [show decide ((0 : Int) < -1) = false from rfl]
    cases hh : (pord t 1).all gdB
    · rfl
    · simp only [Bool.true_and, decide_eq_false_iff_not]; exact fun hy => h ⟨hh, hy⟩

theorem ksz_w (t : Kd) : ksz t ≤ wKd t + 1 := by
  have key : ∀ n, ∀ t : Kd, ksz t ≤ n → ksz t ≤ wKd t + 1 := by
    intro n
    induction n with
    | zero => intro t h; obtain ⟨s, ns, ks⟩ := t; rw [ksz] at h; omega
    | succ n ih =>
      intro t h
      obtain ⟨s, ns, ks⟩ := t
      rw [ksz] at h ⊢
      rw [wKd]
      have : ∀ l : List Kd, klsz l ≤ n → klsz l ≤ wKs l := by
        intro l
        induction l with
        | nil => intro _; simp [klsz]
        | cons a r ihl =>
          intro hl
          rw [klsz] at hl ⊢
          rw [wKs]
          have h1 := ih a (by omega)
          have h2 := ihl (by omega)
          omega
      have := this ks (by omega)
      omega
  exact key _ t (Nat.le_refl _)

end Go.Proofs.YtenpghndgdemnaaGreatDoor

/- The text of a schema, as a plain function on data, and its length. No program, no conditions. -/

namespace Go.Proofs.YtenpghndgdemnaaGreatDoor
open Go Go.RowKit

/-- What stands ahead of kid i of a form. -/
def kAhead (ns : List ByteArray) (i : Nat) : List UInt8 := (if 0 < i then [44] else []) ++ ((ns.getD i ByteArray.empty).data.toList ++ [58])

mutual
def kxT : Kd → List UInt8
  | .mk s ns ks =>
    if s = 1 then [110, 117, 109]
    else if s = 2 then [116, 101, 120, 116]
    else if s = 3 then [102, 108, 97, 103]
    else if s = 4 then [91] ++ kxM ks ++ [93]
    else if s = 6 then [63] ++ kxM ks
    else [123] ++ kxK ns 0 ks ++ [125]
def kxM : List Kd → List UInt8
  | [] => []
  | t :: _ => kxT t
def kxK (ns : List ByteArray) (i : Nat) : List Kd → List UInt8
  | [] => []
  | t :: r => kAhead ns i ++ kxT t ++ kxK ns (i + 1) r
end

mutual
/-- All of its parts are ok, but for their count and levels. -/
def okD : Kd → Bool
  | .mk s ns ks => shB (.mk s ns ks) && okDs ks
def okDs : List Kd → Bool
  | [] => true
  | t :: r => okD t && okDs r
end

theorem okD_eq (t : Kd) : okD t = (shB t && okDs t.kids) := by
  obtain ⟨s, ns, ks⟩ := t; rw [okD]; rfl
theorem okDs_get {ks : List Kd} (h : okDs ks = true) (i : Nat) (hi : i < ks.length) : okD ks[i] = true := by
  induction ks generalizing i with
  | nil => simp at hi
  | cons t r ih =>
    rw [okDs, Bool.and_eq_true] at h
    cases i with
    | zero => exact h.1
    | succ i => exact ih h.2 i (by simpa using hi)

theorem shB_cases {t : Kd} (h : shB t = true) : ((t.sort = 1 ∨ t.sort = 2 ∨ t.sort = 3) ∧ t.kids.length = 0 ∧ t.names.length = 0) ∨ ((t.sort = 4 ∨ t.sort = 6) ∧ t.kids.length = 1 ∧ t.names.length = 0) ∨ (t.sort = 5 ∧ t.kids.length = t.names.length ∧ riseB t.names = true) := by
  unfold shB at h
  by_cases h1 : t.sort = 1 ∨ t.sort = 2 ∨ t.sort = 3
  · rw [if_pos h1] at h; exact Or.inl ⟨h1, of_decide_eq_true h⟩
  · rw [if_neg h1] at h
    by_cases h2 : t.sort = 4 ∨ t.sort = 6
    · rw [if_pos h2] at h; exact Or.inr (Or.inl ⟨h2, of_decide_eq_true h⟩)
    · rw [if_neg h2] at h
      by_cases h3 : t.sort = 5
      · rw [if_pos h3, Bool.and_eq_true] at h; exact Or.inr (Or.inr ⟨h3, of_decide_eq_true h.1, h.2⟩)
      · rw [if_neg h3] at h; cases h

mutual
theorem pord_len : ∀ (t : Kd) (l : Int), (pord t l).length = ksz t
  | .mk s ns ks, l => by rw [pord, ksz, List.length_cons, pordK_len ks (l + 1)]; omega
theorem pordK_len : ∀ (ks : List Kd) (l : Int), (pordK ks l).length = klsz ks
  | [], l => by rw [pordK, klsz]; rfl
  | t :: r, l => by rw [pordK, klsz, List.length_append, pord_len t l, pordK_len r l]
end
mutual
theorem okD_pord : ∀ (t : Kd) (l : Int), (pord t l).all gdB = true → okD t = true
  | .mk s ns ks, l => by
    intro h
    rw [pord, List.all_cons, Bool.and_eq_true] at h
    rw [okD, Bool.and_eq_true]
    refine ⟨?_, okDs_pord ks (l + 1) h.2⟩
    have := h.1
    simp only [gdB, Bool.and_eq_true] at this
    exact this.2
theorem okDs_pord : ∀ (ks : List Kd) (l : Int), (pordK ks l).all gdB = true → okDs ks = true
  | [], l => by intro _; rw [okDs]
  | t :: r, l => by
    intro h
    rw [pordK, List.all_append, Bool.and_eq_true] at h
    rw [okDs, Bool.and_eq_true]
    exact ⟨okD_pord t l h.1, okDs_pord r l h.2⟩
end

theorem ok_of_qT {t : Kd} (h : 0 < qT t 1) : okD t = true ∧ ksz t ≤ 40 := by
  have h' : decide (0 < qT t 1) = true := decide_eq_true h
  rw [qT_start, Bool.and_eq_true] at h'
  refine ⟨okD_pord t 1 h'.1, ?_⟩
  rw [← pord_len t 1]; exact of_decide_eq_true h'.2

theorem name_size {s : ByteArray} (h : nameOkB s = true) : s.size ≤ 8 := by
  unfold nameOkB at h
  simp only [Bool.and_eq_true, decide_eq_true_eq] at h
  omega


end Go.Proofs.YtenpghndgdemnaaGreatDoor

/- Whether a schema fits into another one, as a function on data, and part by part over the names of both forms. No program, no conditions. -/

namespace Go.Proofs.YtenpghndgdemnaaGreatDoor
open Go Go.RowKit

/-- No schema: the sort of what a form has under a name that it has not. -/
def kd0 : Kd := .mk 0 [] []
/-- The place of a name among names. -/
def plN (ns : List ByteArray) (nm : ByteArray) : Nat := ns.findIdx (fun x => decide (x = nm))
/-- The schema of a name in a form. -/
def kidN (k : Kd) (nm : ByteArray) : Option Kd := if plN k.names nm < k.names.length then some (k.kids.getD (plN k.names nm) kd0) else none
theorem plN_at {ns : List ByteArray} {nm : ByteArray} {i : Nat} (hi : i < ns.length) (h : ns[i] = nm) (hb : ∀ j, (hj : j < i) → ns[j]'(by omega) ≠ nm) : plN ns nm = i := by
  unfold plN
  rw [List.findIdx_eq hi]
  exact ⟨by simpa using h, fun j hj => by simpa using hb j hj⟩
theorem plN_none {ns : List ByteArray} {nm : ByteArray} (h : nm ∉ ns) : plN ns nm = ns.length := by
  unfold plN
  rw [List.findIdx_eq_length]
  intro x hx
  simp only [decide_eq_false_iff_not]
  exact fun e => h (e ▸ hx)
theorem kidN_some {k : Kd} {nm : ByteArray} {i : Nat} (hi : i < k.names.length) (hk : i < k.kids.length) (h : k.names[i] = nm) (hb : ∀ j, (hj : j < i) → k.names[j]'(by omega) ≠ nm) : kidN k nm = some k.kids[i] := by
  unfold kidN
  rw [plN_at hi h hb, if_pos hi]
  simp [List.getD_eq_getElem?_getD, List.getElem?_eq_getElem hk]
theorem kidN_none {k : Kd} {nm : ByteArray} (h : nm ∉ k.names) : kidN k nm = none := by
  unfold kidN
  rw [plN_none h, if_neg (by omega)]
/-- Names that rise are all different. -/
theorem less_irr (l : List UInt8) : Op.bytesLess l l = false := by
  induction l with
  | nil => rfl
  | cons a r ih => simp [Op.bytesLess, ih]
theorem kidN_is {k : Kd} {nm : ByteArray} (h : (kidN k nm).isSome = true) : nm ∈ k.names := by
  unfold kidN at h
  split at h
  · next hp =>
    have h2 : plN k.names nm < k.names.length := hp
    unfold plN at h2
    have := List.findIdx_getElem (w := h2)
    simp only [decide_eq_true_eq] at this
    rw [← this]
    exact List.getElem_mem _
  · cases h
theorem kidN_has {k : Kd} {nm : ByteArray} (h : nm ∈ k.names) : (kidN k nm).isSome = true := by
  unfold kidN
  have : plN k.names nm < k.names.length := by
    unfold plN
    rw [List.findIdx_lt_length]
    exact ⟨nm, h, by simp⟩
  rw [if_pos this]; rfl
/-- Whether a schema fits into another one, so deep. -/
def fitF : Nat → Kd → Kd → Bool
  | 0, _, _ => false
  | n + 1, a, b =>
    if b.sort = 6 then (if a.sort = 6 then fitF n (a.kids.getD 0 kd0) (b.kids.getD 0 kd0) else fitF n a (b.kids.getD 0 kd0))
    else if a.sort ≠ b.sort then false
    else if a.sort = 4 then fitF n (a.kids.getD 0 kd0) (b.kids.getD 0 kd0)
    else (List.range a.names.length).all (fun i => match kidN b (a.names.getD i ByteArray.empty) with | some x => fitF n (a.kids.getD i kd0) x | none => false)
      && (List.range b.names.length).all (fun i => (kidN a (b.names.getD i ByteArray.empty)).isSome || decide ((b.kids.getD i kd0).sort = 6))
section
variable {n : Nat} {a b : Kd}
theorem fit_mm (hb : b.sort = 6) (ha : a.sort = 6) (hka : 0 < a.kids.length) (hkb : 0 < b.kids.length) : fitF (n + 1) a b = fitF n a.kids[0] b.kids[0] := by
  rw [fitF, if_pos hb, if_pos ha]
  simp [List.getD_eq_getElem?_getD, List.getElem?_eq_getElem hka, List.getElem?_eq_getElem hkb]
theorem fit_xm (hb : b.sort = 6) (ha : a.sort ≠ 6) (hkb : 0 < b.kids.length) : fitF (n + 1) a b = fitF n a b.kids[0] := by
  rw [fitF, if_pos hb, if_neg ha]
  simp [List.getD_eq_getElem?_getD, List.getElem?_eq_getElem hkb]
theorem fit_ne (hb : b.sort ≠ 6) (h : a.sort ≠ b.sort) : fitF (n + 1) a b = false := by
  rw [fitF, if_neg hb, if_pos h]
theorem fit_ll (hb : b.sort = 4) (ha : a.sort = 4) (hka : 0 < a.kids.length) (hkb : 0 < b.kids.length) : fitF (n + 1) a b = fitF n a.kids[0] b.kids[0] := by
  rw [fitF, if_neg (by omega), if_neg (by omega), if_pos ha]
  simp [List.getD_eq_getElem?_getD, List.getElem?_eq_getElem hka, List.getElem?_eq_getElem hkb]
theorem fit_eq (hb : b.sort ≠ 6) (h : a.sort = b.sort) (h4 : a.sort ≠ 4) : fitF (n + 1) a b = ((List.range a.names.length).all (fun i => match kidN b (a.names.getD i ByteArray.empty) with | some x => fitF n (a.kids.getD i kd0) x | none => false)
      && (List.range b.names.length).all (fun i => (kidN a (b.names.getD i ByteArray.empty)).isSome || decide ((b.kids.getD i kd0).sort = 6))) := by
  rw [fitF, if_neg hb, if_neg (by simpa using h), if_neg h4]
/-- Name by name. -/
theorem fit_no1 (hb : b.sort ≠ 6) (h : a.sort = b.sort) (h4 : a.sort ≠ 4) {i : Nat} (hi : i < a.names.length) (hk : kidN b a.names[i] = none) : fitF (n + 1) a b = false := by
  rw [fit_eq hb h h4, Bool.and_eq_false_iff]
  left
  rw [Bool.eq_false_iff]
  intro hh
  rw [List.all_eq_true] at hh
  have := hh i (List.mem_range.2 hi)
  simp [List.getD_eq_getElem?_getD, List.getElem?_eq_getElem hi, hk] at this
theorem fit_no2 (hb : b.sort ≠ 6) (h : a.sort = b.sort) (h4 : a.sort ≠ 4) {i : Nat} (hi : i < a.names.length) (hi2 : i < a.kids.length) {x : Kd} (hk : kidN b a.names[i] = some x) (hf : fitF n a.kids[i] x = false) : fitF (n + 1) a b = false := by
  rw [fit_eq hb h h4, Bool.and_eq_false_iff]
  left
  rw [Bool.eq_false_iff]
  intro hh
  rw [List.all_eq_true] at hh
  have := hh i (List.mem_range.2 hi)
  simp [List.getD_eq_getElem?_getD, List.getElem?_eq_getElem hi, List.getElem?_eq_getElem hi2, hk, hf] at this
theorem fit_no3 (hb : b.sort ≠ 6) (h : a.sort = b.sort) (h4 : a.sort ≠ 4) {i : Nat} (hi : i < b.names.length) (hi2 : i < b.kids.length) (hk : kidN a b.names[i] = none) (hs : b.kids[i].sort ≠ 6) : fitF (n + 1) a b = false := by
  rw [fit_eq hb h h4, Bool.and_eq_false_iff]
  right
  rw [Bool.eq_false_iff]
  intro hh
  rw [List.all_eq_true] at hh
  have := hh i (List.mem_range.2 hi)
  simp [List.getD_eq_getElem?_getD, List.getElem?_eq_getElem hi, List.getElem?_eq_getElem hi2, hk, hs] at this
theorem fit_yes (hb : b.sort ≠ 6) (h : a.sort = b.sort) (h4 : a.sort ≠ 4) (hla : a.kids.length = a.names.length) (hlb : b.kids.length = b.names.length)
    (h1 : ∀ i, (hi : i < a.names.length) → ∃ x, kidN b a.names[i] = some x ∧ fitF n (a.kids[i]'(by omega)) x = true)
    (h2 : ∀ i, (hi : i < b.names.length) → (kidN a b.names[i]).isSome = true ∨ (b.kids[i]'(by omega)).sort = 6) : fitF (n + 1) a b = true := by
  rw [fit_eq hb h h4, Bool.and_eq_true]
  constructor
  · rw [List.all_eq_true]
    intro i hi
    have hi := List.mem_range.1 hi
    obtain ⟨x, hx, hf⟩ := h1 i hi
    simp [List.getD_eq_getElem?_getD, List.getElem?_eq_getElem hi, List.getElem?_eq_getElem (show i < a.kids.length by omega), hx, hf]
  · rw [List.all_eq_true]
    intro i hi
    have hi := List.mem_range.1 hi
    have := h2 i hi
    simp only [List.getD_eq_getElem?_getD, List.getElem?_eq_getElem hi, List.getElem?_eq_getElem (show i < b.kids.length by omega), Option.getD_some, Bool.or_eq_true, decide_eq_true_eq]
    exact this
end
/-- A pair of which one may be nothing. -/
def pF (n : Nat) (a b : Kd) : Bool := if a.sort = 0 then decide (b.sort = 6) else if b.sort = 0 then false else fitF n a b
/-- The schema of a name, or nothing. -/
def kidZ (k : Kd) (nm : ByteArray) : Kd := (kidN k nm).getD kd0
theorem nodup_at {ns : List ByteArray} (h : ns.Nodup) {i j : Nat} (hi : i < ns.length) (hj : j < ns.length) (e : ns[i] = ns[j]) : i = j := by
  have hp := List.pairwise_iff_getElem.1 h
  rcases Nat.lt_trichotomy i j with h1 | h1 | h1
  · exact absurd e (hp i j hi hj h1)
  · exact h1
  · exact absurd e.symm (hp j i hj hi h1)
/-- In a form that is ok the schema of its i-th name is its i-th kid. -/
theorem kidN_at {k : Kd} (hn : k.names.Nodup) (hl : k.kids.length = k.names.length) {i : Nat} (hi : i < k.names.length) : kidN k k.names[i] = some (k.kids[i]'(by omega)) :=
  kidN_some hi (by omega) rfl (fun j hj e => by have := nodup_at hn (by omega) hi e; omega)
theorem fit_open {n : Nat} {a b : Kd} (hb : b.sort ≠ 6) (h : a.sort = b.sort) (h4 : a.sort ≠ 4) (hla : a.kids.length = a.names.length) (hlb : b.kids.length = b.names.length) (hf : fitF (n + 1) a b = true) :
    (∀ i, (hi : i < a.names.length) → ∃ x, kidN b a.names[i] = some x ∧ fitF n (a.kids[i]'(by omega)) x = true) ∧ (∀ i, (hi : i < b.names.length) → (kidN a b.names[i]).isSome = true ∨ (b.kids[i]'(by omega)).sort = 6) := by
  constructor
  · intro i hi
    cases hk : kidN b a.names[i] with
    | none => rw [fit_no1 hb h h4 hi hk] at hf; cases hf
    | some x =>
      refine ⟨x, rfl, ?_⟩
      cases hx : fitF n (a.kids[i]'(by omega)) x with
      | true => rfl
      | false => rw [fit_no2 hb h h4 hi (by omega) hk hx] at hf; cases hf
  · intro i hi
    cases hk : kidN a b.names[i] with
    | some x => exact Or.inl rfl
    | none =>
      by_cases hs : (b.kids[i]'(by omega)).sort = 6
      · exact Or.inr hs
      · rw [fit_no3 hb h h4 hi (by omega) hk hs] at hf; cases hf
/-- Two forms fit if they do under each name that one of them has. -/
theorem fit_union {n : Nat} {a b : Kd} (ha5 : a.sort = 5) (hb5 : b.sort = 5) (hla : a.kids.length = a.names.length) (hlb : b.kids.length = b.names.length) (hna : a.names.Nodup) (hnb : b.names.Nodup)
    (hza : ∀ k, k ∈ a.kids → k.sort ≠ 0) (hzb : ∀ k, k ∈ b.kids → k.sort ≠ 0) (U : List ByteArray) (hU : ∀ nm, nm ∈ U ↔ nm ∈ a.names ∨ nm ∈ b.names) :
    fitF (n + 1) a b = U.all fun nm => pF n (kidZ a nm) (kidZ b nm) := by
  have hb6 : b.sort ≠ 6 := by omega
  have hab : a.sort = b.sort := by omega
  have ha4 : a.sort ≠ 4 := by omega
  rw [Bool.eq_iff_iff, List.all_eq_true]
  constructor
  · intro hf nm hm
    obtain ⟨h1, h2⟩ := fit_open hb6 hab ha4 hla hlb hf
    by_cases hma : nm ∈ a.names
    · obtain ⟨i, hi, rfl⟩ := List.mem_iff_getElem.1 hma
      obtain ⟨x, hx, hfx⟩ := h1 i hi
      have hx0 : x.sort ≠ 0 := by
        obtain ⟨j, hj, e⟩ := List.mem_iff_getElem.1 (kidN_is (by rw [hx]; rfl))
        rw [← e, kidN_at hnb hlb hj] at hx
        rw [← Option.some.inj hx]
        exact hzb _ (List.getElem_mem _)
      unfold pF kidZ
      rw [kidN_at hna hla hi, hx]
      simp only [Option.getD_some]
      rw [if_neg (hza _ (List.getElem_mem _)), if_neg hx0]
      exact hfx
    · have hmb : nm ∈ b.names := ((hU nm).1 hm).resolve_left hma
      obtain ⟨i, hi, rfl⟩ := List.mem_iff_getElem.1 hmb
      have := (h2 i hi).resolve_left (fun h => hma (kidN_is h))
      unfold pF kidZ
      rw [kidN_none hma, kidN_at hnb hlb hi]
      simp only [Option.getD_some, Option.getD_none]
      rw [if_pos (show kd0.sort = 0 from rfl)]
      exact decide_eq_true this
  · intro hall
    refine fit_yes hb6 hab ha4 hla hlb (fun i hi => ?_) (fun i hi => ?_)
    · have := hall a.names[i] ((hU _).2 (Or.inl (List.getElem_mem _)))
      unfold pF kidZ at this
      rw [kidN_at hna hla hi] at this
      simp only [Option.getD_some] at this
      rw [if_neg (hza _ (List.getElem_mem _))] at this
      cases hk : kidN b a.names[i] with
      | none => rw [hk] at this; simp [kd0, Kd.sort] at this
      | some x =>
        rw [hk] at this
        simp only [Option.getD_some] at this
        split at this
        · cases this
        · exact ⟨x, rfl, this⟩
    · by_cases hma : b.names[i] ∈ a.names
      · exact Or.inl (kidN_has hma)
      · have := hall b.names[i] ((hU _).2 (Or.inr (List.getElem_mem _)))
        unfold pF kidZ at this
        rw [kidN_none hma, kidN_at hnb hlb hi] at this
        simp only [Option.getD_some, Option.getD_none] at this
        rw [if_pos (show kd0.sort = 0 from rfl)] at this
        exact Or.inr (of_decide_eq_true this)
end Go.Proofs.YtenpghndgdemnaaGreatDoor

/- The specification's l3Fits: the drawn regions in which the schema of a name is looked up. No conditions. -/

namespace Go.Proofs.YtenpghndgdemnaaGreatDoor
open Go Go.RowKit

theorem sizeKd : (Tryz.prog.info? 26).map (·.size) = some 3 := by kernel_rfl
theorem ldKd (w : World) (b : Nat) (x y z : Value) (h : w.rowIs b 26 3 (row3 x y z)) : (Instr.loadAt 26 (.pointer (some ⟨b, 0, none⟩))).run Tryz.prog w = .ok (.agg #[x, y, z]) w := by
  have h0 := h.cell (i := 0) (by omega); have h1 := h.cell (i := 1) (by omega); have h2 := h.cell (i := 2) (by omega)
  simp only [row3] at h0 h1 h2
  have hr : w.rangeAt b 0 [x, y, z] := fun j v hv => by
    rw [Nat.zero_add]
    match j, hv with
    | 0, hv => simp at hv; subst hv; exact h0
    | 1, hv => simp at hv; subst hv; exact h1
    | 2, hv => simp at hv; subst hv; exact h2
    | j + 3, hv => simp at hv
  unfold Instr.loadAt
  simp only [Instr.sureAddr, Sem.run_bind, Sem.run_pure, Result.andThen_ok, run_loadVar_mid w b 0 26 [x, y, z] _ hr Tryz.underlying26 rfl sizeKd]
theorem ldStrsF (w : World) (ad : Addr) (v : Value) (h : w.cell? ad = some v) : (Instr.loadAt 23 (.pointer (some ad))).run Tryz.prog w = .ok v w := by
  simp [Instr.loadAt, Instr.sureAddr, loadVar, Tryz.isAgg23, h, go_sem]
theorem ldStrF (w : World) (ad : Addr) (v : Value) (h : w.cell? ad = some v) : (Instr.loadAt 9 (.pointer (some ad))).run Tryz.prog w = .ok v w := by
  simp [Instr.loadAt, Instr.sureAddr, loadVar, Tryz.isAgg9, h, go_sem]
theorem ixRunF {o : Oper} {a : Act} {X I : Operand} {g p n cap i : Nat} (ho : o.op = .indexAddr 23 X I) (hx : a.eval X = .slice (some ⟨g, p, none⟩) n cap) (hi : a.eval I = .int .i64 (i : Nat)) (h : i < n) (w : World) : (execOp a.eval o).run Tryz.prog w = .ok (.value (.pointer (some ⟨g, p + i, none⟩))) w := by
  have h1 : (0 : Int) ≤ (i : Int) ∧ (i : Int) < (n : Int) := ⟨by omega, by omega⟩
  have h2 : (Instr.indexAt 23 (.slice (some ⟨g, p, none⟩) n cap) (.int .i64 (i : Nat))).run Tryz.prog w = .ok (.pointer (some ⟨g, p + i, none⟩)) w := by
    have e : (⟨g, p + i, none⟩ : Addr) = (⟨g, p, none⟩ : Addr).add i := by simp [Addr.add]
    rw [e]
    simp [go_sem, h1]
  unfold execOp
  simp only [ho, hx, hi, Sem.run_bind, Sem.run_pure, Result.andThen_ok, h2]
theorem set3f (W : World) (b : Nat) (x y z : Value) : But b W (W.setCells b 0 [x, y, z]) ∧ (∀ T f, W.rowIs b T 3 f → (W.setCells b 0 [x, y, z]).rowIs b T 3 (row3 x y z)) := by
  show But b W (((W.setCell ⟨b, 0, none⟩ x).setCell ⟨b, 1, none⟩ y).setCell ⟨b, 2, none⟩ z) ∧ (∀ T f, W.rowIs b T 3 f → (((W.setCell ⟨b, 0, none⟩ x).setCell ⟨b, 1, none⟩ y).setCell ⟨b, 2, none⟩ z).rowIs b T 3 (row3 x y z))
  exact ⟨((But.set W 0 x).trans (But.set _ 1 y)).trans (But.set _ 2 z), fun T f h => (((h.set 0 x).set 1 y).set 2 z).congr (fun i hi => by rcases (show i = 0 ∨ i = 1 ∨ i = 2 by omega) with rfl | rfl | rfl <;> rfl)⟩
theorem there3f {w : World} {b : Nat} {T : TypeId} {n : Nat} {f : Nat → Value} (h : w.rowIs b T n f) : w.there b 0 n := fun j hj => by
  rw [Nat.zero_add]
  exact ⟨by rw [h.cell hj]; rfl, h.frozen j⟩
theorem below_boxf {B W : World} {g : Nat} (h : Below B.heap.size B W) (hg : B.heap.size ≤ g) {W' : World} (hb : But g W W') : Below B.heap.size B W' := h.trans ⟨hb.os, hb.tape, hb.output, hb.size, fun i hi => hb.at (by have := h.size; omega) (by omega)⟩
theorem below_onf {B W W' : World} (h : Below B.heap.size B W) (hb : Below W.heap.size W W') : Below B.heap.size B W' := h.trans (hb.mono h.size)
end Go.Proofs.YtenpghndgdemnaaGreatDoor
