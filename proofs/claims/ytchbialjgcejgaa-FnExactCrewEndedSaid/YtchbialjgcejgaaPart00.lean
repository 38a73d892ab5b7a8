/- What a tree is as plain data, its weight, and how it lies in memory: definitions and small laws, no program. No conditions. -/
import Derived.WalkKit
import Derived.Deep.OwnRows
import Derived.Test.YtchbialjgcejgaaRows
import Derived.Lib.ItoaNum
import Derived.Lib.ItoaLen
import Derived.Lib.ItoaMem
import Derived.Deep.RegionWith
import Derived.WalkSmall
namespace Go.Proofs.Ytchbialjgcejgaa
open Go Go.RowKit

theorem hide {p : Prop} (h : p) : Hid p := h
theorem unhide {p : Prop} (h : Hid p) : p := h

/-- A tree as plain data. -/
inductive Tr where
  | mk (sort num : Int) (text : ByteArray) (names : List ByteArray) (kids : List Tr)

namespace Tr
def sort : Tr → Int | mk s _ _ _ _ => s
def num : Tr → Int | mk _ n _ _ _ => n
def text : Tr → ByteArray | mk _ _ t _ _ => t
def names : Tr → List ByteArray | mk _ _ _ n _ => n
def kids : Tr → List Tr | mk _ _ _ _ k => k
end Tr

/-- A string list's weight. -/
def wS : List ByteArray → Nat
  | [] => 0
  | s :: r => s.size + 1 + wS r

mutual
def wT : Tr → Nat
  | .mk _ _ t n k => t.size + wS n + wK k
def wK : List Tr → Nat
  | [] => 0
  | t :: r => 1 + wT t + wK r
end

theorem wK_mem {t : Tr} {l : List Tr} (h : t ∈ l) : wT t + 1 ≤ wK l := by
  induction l with
  | nil => cases h
  | cons a r ih =>
    rw [wK]
    rcases List.mem_cons.1 h with rfl | h
    · omega
    · have := ih h; omega

theorem wK_len (l : List Tr) : l.length ≤ wK l := by
  induction l with
  | nil => simp [wK]
  | cons a r ih => rw [wK]; simp; omega

theorem wS_len (l : List ByteArray) : l.length ≤ wS l := by
  induction l with
  | nil => simp [wS]
  | cons a r ih => rw [wS]; simp; omega

/-- A slice value whose strings lie in the world, in blocks of which 'P' holds. -/
def StrsAt (P : Nat → Prop) (w : World) (v : Value) (ss : List ByteArray) : Prop :=
  ∃ a cap, v = .slice a ss.length cap ∧ ss.length ≤ 9223372036854775807 ∧
    ∀ i, (h : i < ss.length) → ∃ b o, a = some ⟨b, o, none⟩ ∧ P b ∧ w.cell? ⟨b, o + i, none⟩ = some (.string ss[i]) ∧ ss[i].size ≤ 9223372036854775807

/-- The five cells of a tree. -/
structure C5 where
  (c0 c1 c2 c3 c4 : Value)

/-- Five cells lie at an offset of a block. -/
def C5.at (w : World) (b o : Nat) (c : C5) : Prop :=
  w.cell? ⟨b, o, none⟩ = some c.c0 ∧ w.cell? ⟨b, o + 1, none⟩ = some c.c1 ∧ w.cell? ⟨b, o + 2, none⟩ = some c.c2 ∧ w.cell? ⟨b, o + 3, none⟩ = some c.c3 ∧ w.cell? ⟨b, o + 4, none⟩ = some c.c4

def I64 (n : Int) : Prop := -9223372036854775808 ≤ n ∧ n ≤ 9223372036854775807

mutual
/-- Five cells are a tree: all that they lead to lies in the world, in blocks of which 'P' holds. -/
def Rep (P : Nat → Prop) (w : World) : Tr → C5 → Prop
  | .mk s n t ns ks, c => c.c0 = .int .i64 s ∧ c.c1 = .int .i64 n ∧ c.c2 = .string t ∧ I64 s ∧ I64 n ∧ t.size ≤ 9223372036854775807 ∧ StrsAt P w c.c3 ns ∧
    ∃ a cap, c.c4 = .slice a ks.length cap ∧ ks.length ≤ 9223372036854775807 ∧ (ks ≠ [] → ∃ b o, a = some ⟨b, o, none⟩ ∧ P b ∧ RepK P w b o ks)
def RepK (P : Nat → Prop) (w : World) (b : Nat) (o : Nat) : List Tr → Prop
  | [] => True
  | t :: r => (∃ c, C5.at w b o c ∧ Rep P w t c) ∧ RepK P w b (o + 5) r
end

theorem RepK.get {P : Nat → Prop} {w : World} {b o : Nat} {ks : List Tr} (h : RepK P w b o ks) (i : Nat) (hi : i < ks.length) :
    ∃ c, C5.at w b (o + i * 5) c ∧ Rep P w ks[i] c := by
  induction ks generalizing o i with
  | nil => simp at hi
  | cons t r ih =>
    rw [RepK] at h
    cases i with
    | zero => exact h.1
    | succ i =>
      obtain ⟨c, h1, h2⟩ := ih h.2 i (by simpa using hi)
      exact ⟨c, by rw [show o + (i + 1) * 5 = o + 5 + i * 5 from by omega]; exact h1, h2⟩

theorem RepK.mk {P : Nat → Prop} {w : World} {b o : Nat} {ks : List Tr} (h : ∀ i, (hi : i < ks.length) → ∃ c, C5.at w b (o + i * 5) c ∧ Rep P w ks[i] c) : RepK P w b o ks := by
  induction ks generalizing o with
  | nil => rw [RepK]; trivial
  | cons t r ih =>
    rw [RepK]
    refine ⟨h 0 (by simp), ih fun i hi => ?_⟩
    obtain ⟨c, h1, h2⟩ := h (i + 1) (by simpa using hi)
    exact ⟨c, by rw [show o + 5 + i * 5 = o + (i + 1) * 5 from by omega]; exact h1, h2⟩

theorem C5.at.carry {w w' : World} {b o : Nat} {c : C5} (h : C5.at w b o c) (hb : w'.heap[b]? = w.heap[b]?) : C5.at w' b o c := by
  have e : ∀ o', w'.cell? ⟨b, o', none⟩ = w.cell? ⟨b, o', none⟩ := fun o' => World.cell?_of_block (w := w) hb
  obtain ⟨h0, h1, h2, h3, h4⟩ := h
  exact ⟨by rw [e]; exact h0, by rw [e]; exact h1, by rw [e]; exact h2, by rw [e]; exact h3, by rw [e]; exact h4⟩

theorem StrsAt.carry {P Q : Nat → Prop} {w w' : World} {v : Value} {ss : List ByteArray} (h : StrsAt P w v ss) (hP : ∀ b, P b → w'.heap[b]? = w.heap[b]?) (hQ : ∀ b, P b → Q b) : StrsAt Q w' v ss := by
  obtain ⟨a, cap, h1, h2, h3⟩ := h
  refine ⟨a, cap, h1, h2, fun i hi => ?_⟩
  obtain ⟨b, o, e, p, hc, hs⟩ := h3 i hi
  exact ⟨b, o, e, hQ b p, by rw [World.cell?_of_block (w := w) (hP b p)]; exact hc, hs⟩

mutual
theorem Rep.carry {P Q : Nat → Prop} {w w' : World} (hP : ∀ b, P b → w'.heap[b]? = w.heap[b]?) (hQ : ∀ b, P b → Q b) : ∀ (t : Tr) (c : C5), Rep P w t c → Rep Q w' t c
  | .mk s n t ns ks, c => by
    intro h
    rw [Rep] at h ⊢
    obtain ⟨h0, h1, h2, h3, h4, h5, h6, a, cap, h7, h8, h9⟩ := h
    refine ⟨h0, h1, h2, h3, h4, h5, h6.carry hP hQ, a, cap, h7, h8, fun hk => ?_⟩
    obtain ⟨b, o, e, p, hr⟩ := h9 hk
    exact ⟨b, o, e, hQ b p, RepK.carry hP hQ b o (hP b p) ks hr⟩
theorem RepK.carry {P Q : Nat → Prop} {w w' : World} (hP : ∀ b, P b → w'.heap[b]? = w.heap[b]?) (hQ : ∀ b, P b → Q b) (b : Nat) (o : Nat) (hb : w'.heap[b]? = w.heap[b]?) : ∀ (ks : List Tr), RepK P w b o ks → RepK Q w' b o ks
  | [] => by intro _; rw [RepK]; trivial
  | t :: r => by
    intro h
    rw [RepK] at h ⊢
    obtain ⟨⟨c, h1, h2⟩, h3⟩ := h
    exact ⟨⟨c, h1.carry hb, Rep.carry hP hQ t c h2⟩, RepK.carry hP hQ b (o + 5) hb r h3⟩
end

/-- A tree as the walks take it: what its kids' slice is, and each kid. -/
theorem Rep.open {P : Nat → Prop} {w : World} {t : Tr} {c : C5} (h : Rep P w t c) :
    c.c0 = .int .i64 t.sort ∧ c.c1 = .int .i64 t.num ∧ c.c2 = .string t.text ∧ I64 t.sort ∧ I64 t.num ∧ t.text.size ≤ 9223372036854775807 ∧ StrsAt P w c.c3 t.names ∧
    ∃ a cap, c.c4 = .slice a t.kids.length cap ∧ t.kids.length ≤ 9223372036854775807 ∧
      ∀ i, (hi : i < t.kids.length) → ∃ b o c, a = some ⟨b, o, none⟩ ∧ P b ∧ C5.at w b (o + i * 5) c ∧ Rep P w t.kids[i] c := by
  obtain ⟨s, n, tx, ns, ks⟩ := t
  rw [Rep] at h
  obtain ⟨h0, h1, h2, h3, h4, h5, h6, a, cap, h7, h8, h9⟩ := h
  refine ⟨h0, h1, h2, h3, h4, h5, h6, a, cap, h7, h8, fun i hi => ?_⟩
  obtain ⟨b, o, e, p, hr⟩ := h9 (fun hh => by subst hh; simp [Tr.kids] at hi)
  obtain ⟨c', h1', h2'⟩ := hr.get i hi
  exact ⟨b, o, c', e, p, h1', h2'⟩

theorem Rep.make {P : Nat → Prop} {w : World} {t : Tr} {v3 : Value} {b o cap : Nat} (h0 : I64 t.sort) (h1 : I64 t.num) (h2 : t.text.size ≤ 9223372036854775807) (h3 : StrsAt P w v3 t.names) (h4 : t.kids.length ≤ 9223372036854775807) (h5 : P b) (h6 : RepK P w b o t.kids) :
    Rep P w t ⟨.int .i64 t.sort, .int .i64 t.num, .string t.text, v3, .slice (some ⟨b, o, none⟩) t.kids.length cap⟩ := by
  obtain ⟨s, n, tx, ns, ks⟩ := t
  rw [Rep]
  exact ⟨rfl, rfl, rfl, h0, h1, h2, h3, _, _, rfl, h4, fun _ => ⟨b, o, rfl, h5, h6⟩⟩

mutual
def tsz : Tr → Nat
  | .mk _ _ _ _ k => 1 + lsz k
def lsz : List Tr → Nat
  | [] => 0
  | t :: r => tsz t + lsz r
end
theorem tsz_kid {t k : Tr} (h : k ∈ t.kids) : tsz k < tsz t := by
  obtain ⟨s, n, tx, ns, ks⟩ := t
  have : ∀ l : List Tr, k ∈ l → tsz k ≤ lsz l := by
    intro l
    induction l with
    | nil => intro h; cases h
    | cons a r ih =>
      intro h
      rw [lsz]
      rcases List.mem_cons.1 h with rfl | h
      · omega
      · have := ih h; omega
  have := this ks h
  rw [tsz]; omega

/-- In blocks that are new between two worlds. -/
def New (w w' : World) : Nat → Prop := fun b => w.heap.size ≤ b ∧ b < w'.heap.size

def row5 (c0 c1 c2 c3 c4 : Value) : Nat → Value
  | 0 => c0
  | 1 => c1
  | 2 => c2
  | 3 => c3
  | _ => c4

theorem row5_alloc (w : World) (c0 c1 c2 c3 c4 : Value) (t : TypeId) : (w.alloc (.cells #[c0, c1, c2, c3, c4] t)).rowIs w.heap.size t 5 (row5 c0 c1 c2 c3 c4) :=
  World.rowIs_alloc w #[c0, c1, c2, c3, c4] t _ (fun i hi => by
    have hi' : i < 5 := hi
    match i, hi' with
    | 0, _ => rfl
    | 1, _ => rfl
    | 2, _ => rfl
    | 3, _ => rfl
    | 4, _ => rfl)

theorem box1 {w w1 : World} {x0 x1 x2 x3 x4 : Value} {tx : TypeId}
    (hb : Below (w.alloc (.cells #[x0, x1, x2, x3, x4] tx)).heap.size (w.alloc (.cells #[x0, x1, x2, x3, x4] tx)) w1) :
    w1.rowIs w.heap.size tx 5 (row5 x0 x1 x2 x3 x4) ∧ w.heap.size + 1 ≤ w1.heap.size ∧ Below w.heap.size w w1 := by
  have r0 := row5_alloc w x0 x1 x2 x3 x4 tx
  have hs := hb.size
  refine ⟨r0.of_block (hb.block _ r0.lt), by simpa using hs, ?_⟩
  exact ((Below.refl _ _).alloc (Nat.le_refl _) _).trans (hb.mono (by simp))

theorem box2 {w w1 : World} {x0 x1 x2 x3 x4 y0 y1 y2 y3 y4 : Value} {tx ty : TypeId}
    (hb : Below ((w.alloc (.cells #[x0, x1, x2, x3, x4] tx)).alloc (.cells #[y0, y1, y2, y3, y4] ty)).heap.size ((w.alloc (.cells #[x0, x1, x2, x3, x4] tx)).alloc (.cells #[y0, y1, y2, y3, y4] ty)) w1) :
    w1.rowIs w.heap.size tx 5 (row5 x0 x1 x2 x3 x4) ∧ w1.rowIs (w.heap.size + 1) ty 5 (row5 y0 y1 y2 y3 y4) ∧ w.heap.size + 2 ≤ w1.heap.size ∧ Below w.heap.size w w1 := by
  have e1 : (w.alloc (.cells #[x0, x1, x2, x3, x4] tx)).heap.size = w.heap.size + 1 := by simp
  have r0 := (row5_alloc w x0 x1 x2 x3 x4 tx).alloc (.cells #[y0, y1, y2, y3, y4] ty)
  have r1 := row5_alloc (w.alloc (.cells #[x0, x1, x2, x3, x4] tx)) y0 y1 y2 y3 y4 ty
  rw [e1] at r1
  have hs := hb.size
  refine ⟨r0.of_block (hb.block _ r0.lt), r1.of_block (hb.block _ r1.lt), by simpa using hs, ?_⟩
  exact (((Below.refl _ _).alloc (Nat.le_refl _) _).alloc (by simp) _).trans (hb.mono (by simp; omega))

end Go.Proofs.Ytchbialjgcejgaa

/- Digits as bytes and strings; small laws. No program walked, no conditions. -/

namespace Go.Proofs.Ytchbialjgcejgaa
open Go Go.RowKit

/-- A digit's byte. -/
def dg (m : Int) : UInt8 := UInt8.ofNat (48 + m.toNat)
theorem dg_nat {m : Int} (h0 : 0 ≤ m) (h1 : m < 10) : ((dg m).toNat : Int) = 48 + m := by unfold dg; rw [UInt8.toNat_ofNat']; omega
theorem dec_small {n : Int} (h : n < 10) : Lib.decDigits n.toNat = [dg n] := by rw [Lib.decDigits, dif_pos (by omega)]; rfl
theorem dec_big {n : Int} (h : ¬ n < 10) : Lib.decDigits n.toNat = Lib.decDigits (n / 10).toNat ++ [dg (n % 10)] := by
  rw [Lib.decDigits, dif_neg (by omega), show (n / 10).toNat = n.toNat / 10 from by omega, show dg (n % 10) = UInt8.ofNat (48 + n.toNat % 10) from by unfold dg; rw [show (n % 10).toNat = n.toNat % 10 from by omega]]

/-- One byte, as a string. -/
theorem conv_one (W : World) (b cap : Nat) (m : Int) (h0 : 0 ≤ m) (h1 : m < 10) (hc : W.cell? ⟨b, 0, none⟩ = some (.int .u8 (48 + m))) :
    Sem.run Try.prog (convert 22 9 (.slice (some ⟨b, 0, none⟩) 1 cap)) W = .ok (.string ⟨#[dg m]⟩) W := by
  have := run_convert_bytes_back (P := Try.prog) W 22 9 5 ⟨b, 0, none⟩ cap [dg m] Try.underlying22 Try.underlying5 Try.underlying9 (fun j hj => by
    have hj0 : j = 0 := by simpa using hj
    subst hj0
    rw [Addr.add_lit, hc]
    simp only [List.getElem_cons_zero]
    rw [dg_nat h0 h1])
  simpa using this

theorem quo10 {n : Int} (h0 : 0 ≤ n) (h1 : n ≤ 999999999) : IntKind.i64.wrap (n.tdiv 10) = n / 10 := by
  rw [IntKind.wrap_i64, Int.tdiv_eq_ediv_of_nonneg h0]; omega
theorem rem10 {n : Int} (h0 : 0 ≤ n) : IntKind.i64.wrap (48 + n.tmod 10) = 48 + n % 10 := by
  rw [IntKind.wrap_i64, Int.tmod_eq_emod_of_nonneg h0]; omega
theorem rem10b (n : Int) : IntKind.u8.wrap (48 + n % 10) = 48 + n % 10 := by
  rw [IntKind.wrap_u8]; omega

theorem ba_append (a b : List UInt8) : ((⟨a.toArray⟩ : ByteArray) ++ (⟨b.toArray⟩ : ByteArray)) = ⟨(a ++ b).toArray⟩ := by
  apply ByteArray.ext
  simp
theorem ret_str {a b : ByteArray} (h : a = b) : Ending.returned (.string a) = .returned (.string b) := by rw [h]
theorem bc1 {w w1 : World} {o : Obj} (h : Below w.drew.heap.size w.drew w1) : Below w.heap.size w (w1.alloc o) :=
  (((Below.refl _ w).drew).trans h).alloc h.size o
theorem bc2 {w w1 : World} {o : Obj} (h : Below (w.alloc o).drew.heap.size (w.alloc o).drew w1) : Below w.heap.size w w1 :=
  (((Below.refl _ w).alloc (Nat.le_refl _) o).drew).trans (h.mono (by simp))
end Go.Proofs.Ytchbialjgcejgaa

/- Worlds of which but one block is as it was; append onto a row of the call's own. No program walked, no conditions. -/

namespace Go.Proofs.Ytchbialjgcejgaa
open Go Go.RowKit

/-- All blocks but B that were there are as they were. -/
abbrev But (B : Nat) (w w' : World) : Prop := w.grownBy w' (some B)

theorem But.refl (B : Nat) (w : World) : But B w w := World.grownBy.refl w _
theorem But.trans {B : Nat} {a b c : World} (h : But B a b) (k : But B b c) : But B a c :=
  ⟨k.os.trans h.os, k.tape.trans h.tape, k.output.trans h.output, Nat.le_trans h.size k.size, fun i hi hne => (k.block i (Nat.lt_of_lt_of_le hi h.size) hne).trans (h.block i hi hne)⟩
theorem But.of_below {B : Nat} {w w' : World} (h : Below w.heap.size w w') : But B w w' :=
  ⟨h.os, h.tape, h.output, h.size, fun i hi _ => h.block i hi⟩
theorem But.alloc (B : Nat) (w : World) (o : Obj) : But B w (w.alloc o) := But.of_below ((Below.refl _ _).alloc (Nat.le_refl _) o)
theorem But.set {B : Nat} (w : World) (o : Nat) (v : Value) : But B w (w.setCell ⟨B, o, none⟩ v) :=
  ⟨rfl, rfl, rfl, by simp [World.setCell], fun i _ hne => Below.heap_setCell _ _ _ _ (fun e => hne (by rw [e]))⟩
theorem But.at {B : Nat} {w w' : World} (h : But B w w') {b : Nat} (hb : b < w.heap.size) (hne : b ≠ B) : w'.heap[b]? = w.heap[b]? :=
  h.block b hb (fun e => hne (by simpa using e))

theorem ownsRow_base {w : World} {base base' : Nat} {e : TypeId} {size : Nat} {v : Value} {n : Nat} {xs : List Value} (h : w.ownsRow base e size v n xs) (hb : base' ≤ base) : w.ownsRow base' e size v n xs := by
  refine ⟨h.1, ?_⟩
  rcases h.2 with h | ⟨g, cap, cur, h1, h2, h3⟩
  · exact Or.inl h
  · exact Or.inr ⟨g, cap, cur, h1, Nat.le_trans hb h2, h3⟩

/-- append onto a row of the call's own: behind it the value lies in the same block, or in a new one. -/
theorem append_row {P : Program} (w : World) {ops : Array Oper} {rest : List Oper} {o : Oper} {a : Act} {Q : Exit → Act → World → Prop}
    (hg : o.guard = none) (s x : Operand) (t : TypeId) (hop : o.op = Op.call { callee := Callee.builtin Builtin.append, args := #[s, x], argTypes := #[t, t] })
    (base : Nat) (e : TypeId) (i : TypeInfo) (z : Value) (size bytes : Nat) (h1 : P.underlying t = some (.slice e)) (h2 : P.info? e = some i) (h3 : i.zero = some z) (h4 : i.size = size) (h5 : i.bytes = bytes) (h6 : z.cells.size = size) (h7 : 0 < size)
    (v : Value) (n : Nat) (xs : List Value) (hs : a.eval s = v) (hown : w.ownsRow base e size v n xs)
    (ad : Addr) (m c : Nat) (news : List Value) (hx : a.eval x = .slice (some ad) m c) (hn : news.length = m * size) (hc : ∀ j u, news[j]? = some u → w.cell? (ad.add j) = some u) (h1c : ∀ u ∈ news, u.oneCell' = true)
    (hm : 0 < m) (b1 : n + m ≤ maxLen) (b2 : (n + m) * bytes ≤ 140737488355328) (hbase : base ≤ w.heap.size)
    (hK : ∀ v' w', w'.ownsRow base e size v' (n + m) (xs ++ news) → w.grownBy w' v.ownBlock → (v'.ownBlock = v.ownBlock ∨ ∃ g, v'.ownBlock = some g ∧ w.heap.size ≤ g) → wpList P ops Q rest (a.put o.dst v') w') :
    wpList P ops Q (o :: rest) a w := by
  have hgrow : ∀ v' w', w'.ownsRow w.heap.size e size v' (n + m) (xs ++ news) → w.grownBy w' none → wpList P ops Q rest (a.put o.dst v') w' := fun v' w' r1 r2 => by
    refine hK v' w' (ownsRow_base r1 hbase) ⟨r2.os, r2.tape, r2.output, r2.size, fun k hk _ => r2.block k hk (by simp)⟩ (Or.inr ?_)
    rcases r1.2 with ⟨_, h⟩ | ⟨g, cap, cur, hv, hgg, _⟩
    · omega
    · exact ⟨g, by rw [hv]; rfl, hgg⟩
  rcases hown.2 with ⟨hv, hn0⟩ | ⟨g, cap, cur, hv, hgb, hh, hle, hm2, hsz, htk⟩
  · subst hv; subst hn0
    have hxs : xs = [] := List.eq_nil_of_length_eq_zero (by have := hown.1; simpa using this)
    subst hxs
    exact wpList_append_grows w hg s x t hop e i z size bytes h1 h2 h3 h4 h5 h6 h7 none 0 0 [] hs (fun _ => ⟨rfl, rfl⟩) (by simp) (fun b hb => by cases hb) ad m c news hx hn hc h1c (by omega) b1 b2 hgrow
  · by_cases hr : n + m ≤ cap
    · subst hv
      exact wpList_append_fits w hg s x t hop base e i size h1 h2 h4 g n cap xs hs hown ad m c news hx hn hc h1c hr fun w' r1 r2 => hK _ w' r1 r2 (Or.inl rfl)
    · refine wpList_append_grows w hg s x t hop e i z size bytes h1 h2 h3 h4 h5 h6 h7 (some ⟨g, 0, none⟩) n cap xs (by rw [hs, hv]) (fun hb => by cases hb) hown.1 (fun b hb j u hj => ?_) ad m c news hx hn hc h1c (by omega) b1 b2 hgrow
      simp only [Option.some.injEq] at hb
      subst hb
      have hj' : cur.toList[j]? = some u := by
        rw [← htk] at hj
        rw [List.getElem?_take] at hj
        split at hj
        · exact hj
        · cases hj
      rw [Addr.add_lit]
      simp only [Nat.zero_add, World.cell?, hh]
      simpa using hj'

theorem cell_one (w : World) (x : Value) (t : TypeId) : ∀ j u, [x][j]? = some u → (w.alloc (.cells #[x] t)).cell? ((⟨w.heap.size, 0, none⟩ : Addr).add j) = some u := by
  intro j u hj
  match j with
  | 0 => simp only [List.getElem?_cons_zero, Option.some.injEq] at hj; subst hj; rw [Addr.add_lit]; simp [go_sem]
  | j + 1 => simp at hj
end Go.Proofs.Ytchbialjgcejgaa

/- Records as bytes: what LogFrame gives, and the walks of both sides' functions. No conditions but that a string's length is one. -/

namespace Go.Proofs.Ytchbialjgcejgaa
open Go Go.RowKit

/-- A byte. -/
def hb (x : Int) : UInt8 := UInt8.ofNat x.toNat
theorem hb_nat {x : Int} (h0 : 0 ≤ x) (h1 : x < 256) : ((hb x).toNat : Int) = x := by unfold hb; rw [UInt8.toNat_ofNat']; omega
/-- Whether a record of that position with so many bytes is one. -/
def frOk (p : Int) (n : Nat) : Bool := decide (1 ≤ p ∧ p ≤ 999999 ∧ n ≤ 2000)
def frB (p : Int) (x : ByteArray) : ByteArray := if frOk p x.size = true then (⟨#[hb (x.size / 256), hb (x.size % 256)]⟩ ++ ⟨#[hb (p / 65536), hb (p / 256 % 256), hb (p % 256)]⟩) ++ x else ByteArray.empty

theorem frInS (a b c : Int) (w : World) : Calls Try.prog 35 #[.int .i64 a, .int .i64 b, .int .i64 c] w fun e w' => e = .returned (.bool (decide (b ≤ a ∧ a ≤ c))) ∧ Below w.heap.size w w' := by
  go_enter Try.func35, Try.ntmps35
  by_cases h1 : b ≤ a
  · by_cases h2 : a ≤ c
    · go_wp2_with fail
      go_ret
      exact ⟨by simp [h2]; omega, Below.refl _ _⟩
    · go_wp2_with fail
      go_ret
      exact ⟨by simp; omega, Below.refl _ _⟩
  · go_wp2_with fail
    go_ret
    exact ⟨by simp; omega, Below.refl _ _⟩
theorem frInP (a b c : Int) (w : World) : Calls Try.prog 90 #[.int .i64 a, .int .i64 b, .int .i64 c] w fun e w' => e = .returned (.bool (decide (b ≤ a ∧ a ≤ c))) ∧ Below w.heap.size w w' := by
  go_enter Try.func90, Try.ntmps90
  by_cases h1 : b ≤ a
  · by_cases h2 : a ≤ c
    · go_wp2_with fail
      go_ret
      exact ⟨by simp [h2]; omega, Below.refl _ _⟩
    · go_wp2_with fail
      go_ret
      exact ⟨by simp; omega, Below.refl _ _⟩
  · go_wp2_with fail
    go_ret
    exact ⟨by simp; omega, Below.refl _ _⟩
end Go.Proofs.Ytchbialjgcejgaa

/- Numbers in memory. No program, no conditions. -/

namespace Go.Proofs.Ytchbialjgcejgaa
open Go Go.RowKit

/-- Numbers lie in memory. -/
def ZsAt (P : Nat → Prop) (w : World) (v : Value) (zs : List Int) : Prop :=
  ∃ a cap, v = .slice a zs.length cap ∧ zs.length ≤ 9223372036854775807 ∧ ∀ i, (h : i < zs.length) → ∃ b o, a = some ⟨b, o, none⟩ ∧ P b ∧ w.cell? ⟨b, o + i, none⟩ = some (.int .i64 zs[i]) ∧ I64 zs[i]
theorem ZsAt.carry {P Q : Nat → Prop} {w w' : World} {v : Value} {zs : List Int} (h : ZsAt P w v zs) (hP : ∀ b, P b → w'.heap[b]? = w.heap[b]?) (hQ : ∀ b, P b → Q b) : ZsAt Q w' v zs := by
  obtain ⟨a, cap, h1, h2, h3⟩ := h
  refine ⟨a, cap, h1, h2, fun i hi => ?_⟩
  obtain ⟨b, o, e, hb, hc, hz⟩ := h3 i hi
  exact ⟨b, o, e, hQ b hb, by rw [World.cell?_of_block (w := w) (hP b hb)]; exact hc, hz⟩
end Go.Proofs.Ytchbialjgcejgaa

/- Small laws of lists of strings, of a cell that is set. No program walked but one fact of its types; no conditions. -/

namespace Go.Proofs.Ytchbialjgcejgaa
open Go Go.RowKit

theorem wS_take (ss : List ByteArray) (k : Nat) (h : k < ss.length) : wS (ss.take (k + 1)) = wS (ss.take k) + ss[k].size + 1 := by
  induction ss generalizing k with
  | nil => simp at h
  | cons a r ih =>
    cases k with
    | zero => simp [wS]
    | succ k => simp only [List.take_succ_cons, wS, List.getElem_cons_succ]; rw [ih k (by simpa using h)]; omega

theorem infoString : (Try.prog.info? 9).map (fun i => (i.zero, i.size, i.bytes)) = some (some (.string ByteArray.empty), 1, 16) := by kernel_rfl
theorem size_setCell (w : World) (a : Addr) (v : Value) : (w.setCell a v).heap.size = w.heap.size := by simp [World.setCell]
end Go.Proofs.Ytchbialjgcejgaa

/- What a schema is as plain data, its weight, and how it lies in memory: definitions and small laws, no program. No conditions. -/

namespace Go.Proofs.Ytchbialjgcejgaa
open Go Go.RowKit

/-- A schema as plain data. -/
inductive Kd where
  | mk (sort : Int) (names : List ByteArray) (kids : List Kd)

namespace Kd
def sort : Kd → Int | mk s _ _ => s
def names : Kd → List ByteArray | mk _ n _ => n
def kids : Kd → List Kd | mk _ _ k => k
end Kd

mutual
def wKd : Kd → Nat
  | .mk _ n k => wS n + wKs k
def wKs : List Kd → Nat
  | [] => 0
  | t :: r => 1 + wKd t + wKs r
end

theorem wKs_mem {t : Kd} {l : List Kd} (h : t ∈ l) : wKd t + 1 ≤ wKs l := by
  induction l with
  | nil => cases h
  | cons a r ih =>
    rw [wKs]
    rcases List.mem_cons.1 h with rfl | h
    · omega
    · have := ih h; omega

theorem wKs_len (l : List Kd) : l.length ≤ wKs l := by
  induction l with
  | nil => simp [wKs]
  | cons a r ih => rw [wKs]; simp; omega

theorem wKs_take (ks : List Kd) (k : Nat) (h : k < ks.length) : wKs (ks.take (k + 1)) = wKs (ks.take k) + wKd ks[k] + 1 := by
  induction ks generalizing k with
  | nil => simp at h
  | cons a r ih =>
    cases k with
    | zero => simp [wKs]; omega
    | succ k => simp only [List.take_succ_cons, wKs, List.getElem_cons_succ]; rw [ih k (by simpa using h)]; omega

/-- The three cells of a schema. -/
structure C3 where
  (c0 c1 c2 : Value)

/-- Three cells lie at an offset of a block. -/
def C3.at (w : World) (b o : Nat) (c : C3) : Prop :=
  w.cell? ⟨b, o, none⟩ = some c.c0 ∧ w.cell? ⟨b, o + 1, none⟩ = some c.c1 ∧ w.cell? ⟨b, o + 2, none⟩ = some c.c2

mutual
/-- Three cells are a schema: all that they lead to lies in the world, in blocks of which 'P' holds. -/
def KRep (P : Nat → Prop) (w : World) : Kd → C3 → Prop
  | .mk s ns ks, c => c.c0 = .int .i64 s ∧ I64 s ∧ StrsAt P w c.c1 ns ∧
    ∃ a cap, c.c2 = .slice a ks.length cap ∧ ks.length ≤ 9223372036854775807 ∧ (ks ≠ [] → ∃ b o, a = some ⟨b, o, none⟩ ∧ P b ∧ KRepK P w b o ks)
def KRepK (P : Nat → Prop) (w : World) (b : Nat) (o : Nat) : List Kd → Prop
  | [] => True
  | t :: r => (∃ c, C3.at w b o c ∧ KRep P w t c) ∧ KRepK P w b (o + 3) r
end

theorem KRepK.get {P : Nat → Prop} {w : World} {b o : Nat} {ks : List Kd} (h : KRepK P w b o ks) (i : Nat) (hi : i < ks.length) :
    ∃ c, C3.at w b (o + i * 3) c ∧ KRep P w ks[i] c := by
  induction ks generalizing o i with
  | nil => simp at hi
  | cons t r ih =>
    rw [KRepK] at h
    cases i with
    | zero => exact h.1
    | succ i =>
      obtain ⟨c, h1, h2⟩ := ih h.2 i (by simpa using hi)
      exact ⟨c, by rw [show o + (i + 1) * 3 = o + 3 + i * 3 from by omega]; exact h1, h2⟩

theorem KRepK.mk {P : Nat → Prop} {w : World} {b o : Nat} {ks : List Kd} (h : ∀ i, (hi : i < ks.length) → ∃ c, C3.at w b (o + i * 3) c ∧ KRep P w ks[i] c) : KRepK P w b o ks := by
  induction ks generalizing o with
  | nil => rw [KRepK]; trivial
  | cons t r ih =>
    rw [KRepK]
    refine ⟨h 0 (by simp), ih fun i hi => ?_⟩
    obtain ⟨c, h1, h2⟩ := h (i + 1) (by simpa using hi)
    exact ⟨c, by rw [show o + 3 + i * 3 = o + (i + 1) * 3 from by omega]; exact h1, h2⟩

theorem C3.at.carry {w w' : World} {b o : Nat} {c : C3} (h : C3.at w b o c) (hb : w'.heap[b]? = w.heap[b]?) : C3.at w' b o c := by
  have e : ∀ o', w'.cell? ⟨b, o', none⟩ = w.cell? ⟨b, o', none⟩ := fun o' => World.cell?_of_block (w := w) hb
  obtain ⟨h0, h1, h2⟩ := h
  exact ⟨by rw [e]; exact h0, by rw [e]; exact h1, by rw [e]; exact h2⟩

mutual
theorem KRep.carry {P Q : Nat → Prop} {w w' : World} (hP : ∀ b, P b → w'.heap[b]? = w.heap[b]?) (hQ : ∀ b, P b → Q b) : ∀ (t : Kd) (c : C3), KRep P w t c → KRep Q w' t c
  | .mk s ns ks, c => by
    intro h
    rw [KRep] at h ⊢
    obtain ⟨h0, h3, h6, a, cap, h7, h8, h9⟩ := h
    refine ⟨h0, h3, h6.carry hP hQ, a, cap, h7, h8, fun hk => ?_⟩
    obtain ⟨b, o, e, p, hr⟩ := h9 hk
    exact ⟨b, o, e, hQ b p, KRepK.carry hP hQ b o (hP b p) ks hr⟩
theorem KRepK.carry {P Q : Nat → Prop} {w w' : World} (hP : ∀ b, P b → w'.heap[b]? = w.heap[b]?) (hQ : ∀ b, P b → Q b) (b : Nat) (o : Nat) (hb : w'.heap[b]? = w.heap[b]?) : ∀ (ks : List Kd), KRepK P w b o ks → KRepK Q w' b o ks
  | [] => by intro _; rw [KRepK]; trivial
  | t :: r => by
    intro h
    rw [KRepK] at h ⊢
    obtain ⟨⟨c, h1, h2⟩, h3⟩ := h
    exact ⟨⟨c, h1.carry hb, KRep.carry hP hQ t c h2⟩, KRepK.carry hP hQ b (o + 3) hb r h3⟩
end

/-- A schema as the walks take it: what its kids' slice is, and each kid. -/
theorem KRep.open {P : Nat → Prop} {w : World} {t : Kd} {c : C3} (h : KRep P w t c) :
    c.c0 = .int .i64 t.sort ∧ I64 t.sort ∧ StrsAt P w c.c1 t.names ∧
    ∃ a cap, c.c2 = .slice a t.kids.length cap ∧ t.kids.length ≤ 9223372036854775807 ∧
      ∀ i, (hi : i < t.kids.length) → ∃ b o c, a = some ⟨b, o, none⟩ ∧ P b ∧ C3.at w b (o + i * 3) c ∧ KRep P w t.kids[i] c := by
  obtain ⟨s, ns, ks⟩ := t
  rw [KRep] at h
  obtain ⟨h0, h3, h6, a, cap, h7, h8, h9⟩ := h
  refine ⟨h0, h3, h6, a, cap, h7, h8, fun i hi => ?_⟩
  obtain ⟨b, o, e, p, hr⟩ := h9 (fun hh => by subst hh; simp [Kd.kids] at hi)
  obtain ⟨c', h1', h2'⟩ := hr.get i hi
  exact ⟨b, o, c', e, p, h1', h2'⟩

theorem KRep.make {P : Nat → Prop} {w : World} {t : Kd} {v3 : Value} {b o cap : Nat} (h0 : I64 t.sort) (h3 : StrsAt P w v3 t.names) (h4 : t.kids.length ≤ 9223372036854775807) (h5 : P b) (h6 : KRepK P w b o t.kids) :
    KRep P w t ⟨.int .i64 t.sort, v3, .slice (some ⟨b, o, none⟩) t.kids.length cap⟩ := by
  obtain ⟨s, ns, ks⟩ := t
  rw [KRep]
  exact ⟨rfl, h0, h3, _, _, rfl, h4, fun _ => ⟨b, o, rfl, h5, h6⟩⟩

mutual
def ksz : Kd → Nat
  | .mk _ _ k => 1 + klsz k
def klsz : List Kd → Nat
  | [] => 0
  | t :: r => ksz t + klsz r
end
theorem ksz_kid {t k : Kd} (h : k ∈ t.kids) : ksz k < ksz t := by
  obtain ⟨s, ns, ks⟩ := t
  have : ∀ l : List Kd, k ∈ l → ksz k ≤ klsz l := by
    intro l
    induction l with
    | nil => intro h; cases h
    | cons a r ih =>
      intro h
      rw [klsz]
      rcases List.mem_cons.1 h with rfl | h
      · omega
      · have := ih h; omega
  have := this ks h
  rw [ksz]; omega

def row3 (c0 c1 c2 : Value) : Nat → Value
  | 0 => c0
  | 1 => c1
  | _ => c2

theorem row3_alloc (w : World) (c0 c1 c2 : Value) (t : TypeId) : (w.alloc (.cells #[c0, c1, c2] t)).rowIs w.heap.size t 3 (row3 c0 c1 c2) :=
  World.rowIs_alloc w #[c0, c1, c2] t _ (fun i hi => by
    have hi' : i < 3 := hi
    match i, hi' with
    | 0, _ => rfl
    | 1, _ => rfl
    | 2, _ => rfl)

theorem kbox1 {w w1 : World} {x0 x1 x2 : Value} {tx : TypeId}
    (hb : Below (w.alloc (.cells #[x0, x1, x2] tx)).heap.size (w.alloc (.cells #[x0, x1, x2] tx)) w1) :
    w1.rowIs w.heap.size tx 3 (row3 x0 x1 x2) ∧ w.heap.size + 1 ≤ w1.heap.size ∧ Below w.heap.size w w1 := by
  have r0 := row3_alloc w x0 x1 x2 tx
  have hs := hb.size
  refine ⟨r0.of_block (hb.block _ r0.lt), by simpa using hs, ?_⟩
  exact ((Below.refl _ _).alloc (Nat.le_refl _) _).trans (hb.mono (by simp))

theorem kbox2 {w w1 : World} {x0 x1 x2 y0 y1 y2 : Value} {tx ty : TypeId}
    (hb : Below ((w.alloc (.cells #[x0, x1, x2] tx)).alloc (.cells #[y0, y1, y2] ty)).heap.size ((w.alloc (.cells #[x0, x1, x2] tx)).alloc (.cells #[y0, y1, y2] ty)) w1) :
    w1.rowIs w.heap.size tx 3 (row3 x0 x1 x2) ∧ w1.rowIs (w.heap.size + 1) ty 3 (row3 y0 y1 y2) ∧ w.heap.size + 2 ≤ w1.heap.size ∧ Below w.heap.size w w1 := by
  have e1 : (w.alloc (.cells #[x0, x1, x2] tx)).heap.size = w.heap.size + 1 := by simp
  have r0 := (row3_alloc w x0 x1 x2 tx).alloc (.cells #[y0, y1, y2] ty)
  have r1 := row3_alloc (w.alloc (.cells #[x0, x1, x2] tx)) y0 y1 y2 ty
  rw [e1] at r1
  have hs := hb.size
  refine ⟨r0.of_block (hb.block _ r0.lt), r1.of_block (hb.block _ r1.lt), by simpa using hs, ?_⟩
  exact (((Below.refl _ _).alloc (Nat.le_refl _) _).alloc (by simp) _).trans (hb.mono (by simp; omega))

theorem kbox3 {w w1 : World} {x0 x1 x2 y0 y1 y2 z0 z1 z2 : Value} {tx ty tz : TypeId}
    (hb : Below (((w.alloc (.cells #[x0, x1, x2] tx)).alloc (.cells #[y0, y1, y2] ty)).alloc (.cells #[z0, z1, z2] tz)).heap.size (((w.alloc (.cells #[x0, x1, x2] tx)).alloc (.cells #[y0, y1, y2] ty)).alloc (.cells #[z0, z1, z2] tz)) w1) :
    w1.rowIs w.heap.size tx 3 (row3 x0 x1 x2) ∧ w1.rowIs (w.heap.size + 1) ty 3 (row3 y0 y1 y2) ∧ w1.rowIs (w.heap.size + 1 + 1) tz 3 (row3 z0 z1 z2) ∧ w.heap.size + 3 ≤ w1.heap.size ∧ Below w.heap.size w w1 := by
  have e1 : (w.alloc (.cells #[x0, x1, x2] tx)).heap.size = w.heap.size + 1 := by simp
  have e2 : ((w.alloc (.cells #[x0, x1, x2] tx)).alloc (.cells #[y0, y1, y2] ty)).heap.size = w.heap.size + 1 + 1 := by simp
  have r0 := ((row3_alloc w x0 x1 x2 tx).alloc (.cells #[y0, y1, y2] ty)).alloc (.cells #[z0, z1, z2] tz)
  have r1 := (row3_alloc (w.alloc (.cells #[x0, x1, x2] tx)) y0 y1 y2 ty).alloc (.cells #[z0, z1, z2] tz)
  have r2 := row3_alloc ((w.alloc (.cells #[x0, x1, x2] tx)).alloc (.cells #[y0, y1, y2] ty)) z0 z1 z2 tz
  rw [e1] at r1
  rw [e2] at r2
  have hs := hb.size
  refine ⟨r0.of_block (hb.block _ r0.lt), r1.of_block (hb.block _ r1.lt), r2.of_block (hb.block _ r2.lt), by simpa using hs, ?_⟩
  exact ((((Below.refl _ _).alloc (Nat.le_refl _) _).alloc (by simp) _).alloc (by simp; omega) _).trans (hb.mono (by simp; omega))

end Go.Proofs.Ytchbialjgcejgaa
