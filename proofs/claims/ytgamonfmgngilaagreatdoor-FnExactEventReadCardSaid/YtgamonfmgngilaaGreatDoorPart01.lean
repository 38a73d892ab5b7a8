/- What a schema is as plain data, its weight, and how it lies in memory: definitions and small laws, no program. No conditions. -/
import Derived.Test.YtgamonfmgngilaaGreatDoorPart00
import Derived.WalkKit
import Derived.Deep.OwnRows
namespace Go.Proofs.YtgamonfmgngilaaGreatDoor
open Go Go.RowKit

/-- A schema as plain data. -/
inductive Kd where
  | mk (sort : Int) (names : List ByteArray) (kids : List Kd)

namespace Kd
def sort : Kd → Int | mk s _ _ => s
def names : Kd → List ByteArray | mk _ n _ => n
def kids : Kd → List Kd | mk _ _ k => k
end Kd

mutual
def wKd : Kd → Nat
  | .mk _ n k => wS n + wKs k
def wKs : List Kd → Nat
  | [] => 0
  | t :: r => 1 + wKd t + wKs r
end

theorem wKs_mem {t : Kd} {l : List Kd} (h : t ∈ l) : wKd t + 1 ≤ wKs l := by
  induction l with
  | nil => cases h
  | cons a r ih =>
    rw [wKs]
    rcases List.mem_cons.1 h with rfl | h
    · omega
    · have := ih h; omega

theorem wKs_len (l : List Kd) : l.length ≤ wKs l := by
  induction l with
  | nil => simp [wKs]
  | cons a r ih => rw [wKs]; simp; omega

theorem wKs_take (ks : List Kd) (k : Nat) (h : k < ks.length) : wKs (ks.take (k + 1)) = wKs (ks.take k) + wKd ks[k] + 1 := by
  induction ks generalizing k with
  | nil => simp at h
  | cons a r ih =>
    cases k with
    | zero => simp [wKs]; omega
    | succ k => simp only [List.take_succ_cons, wKs, List.getElem_cons_succ]; rw [ih k (by simpa using h)]; omega

/-- The three cells of a schema. -/
structure C3 where
  (c0 c1 c2 : Value)

/-- Three cells lie at an offset of a block. -/
def C3.at (w : World) (b o : Nat) (c : C3) : Prop :=
  w.cell? ⟨b, o, none⟩ = some c.c0 ∧ w.cell? ⟨b, o + 1, none⟩ = some c.c1 ∧ w.cell? ⟨b, o + 2, none⟩ = some c.c2

mutual
/-- Three cells are a schema: all that they lead to lies in the world, in blocks of which 'P' holds. -/
def KRep (P : Nat → Prop) (w : World) : Kd → C3 → Prop
  | .mk s ns ks, c => c.c0 = .int .i64 s ∧ I64 s ∧ StrsAt P w c.c1 ns ∧
    ∃ a cap, c.c2 = .slice a ks.length cap ∧ ks.length ≤ 9223372036854775807 ∧ (ks ≠ [] → ∃ b o, a = some ⟨b, o, none⟩ ∧ P b ∧ KRepK P w b o ks)
def KRepK (P : Nat → Prop) (w : World) (b : Nat) (o : Nat) : List Kd → Prop
  | [] => True
  | t :: r => (∃ c, C3.at w b o c ∧ KRep P w t c) ∧ KRepK P w b (o + 3) r
end

theorem KRepK.get {P : Nat → Prop} {w : World} {b o : Nat} {ks : List Kd} (h : KRepK P w b o ks) (i : Nat) (hi : i < ks.length) :
    ∃ c, C3.at w b (o + i * 3) c ∧ KRep P w ks[i] c := by
  induction ks generalizing o i with
  | nil => simp at hi
  | cons t r ih =>
    rw [KRepK] at h
    cases i with
    | zero => exact h.1
    | succ i =>
      obtain ⟨c, h1, h2⟩ := ih h.2 i (by simpa using hi)
      exact ⟨c, by rw [show o + (i + 1) * 3 = o + 3 + i * 3 from by omega]; exact h1, h2⟩

theorem KRepK.mk {P : Nat → Prop} {w : World} {b o : Nat} {ks : List Kd} (h : ∀ i, (hi : i < ks.length) → ∃ c, C3.at w b (o + i * 3) c ∧ KRep P w ks[i] c) : KRepK P w b o ks := by
  induction ks generalizing o with
  | nil => rw [KRepK]; trivial
  | cons t r ih =>
    rw [KRepK]
    refine ⟨h 0 (by simp), ih fun i hi => ?_⟩
    obtain ⟨c, h1, h2⟩ := h (i + 1) (by simpa using hi)
    exact ⟨c, by rw [show o + 3 + i * 3 = o + (i + 1) * 3 from by omega]; exact h1, h2⟩

theorem C3.at.carry {w w' : World} {b o : Nat} {c : C3} (h : C3.at w b o c) (hb : w'.heap[b]? = w.heap[b]?) : C3.at w' b o c := by
  have e : ∀ o', w'.cell? ⟨b, o', none⟩ = w.cell? ⟨b, o', none⟩ := fun o' => World.cell?_of_block (w := w) hb
  obtain ⟨h0, h1, h2⟩ := h
  exact ⟨by rw [e]; exact h0, by rw [e]; exact h1, by rw [e]; exact h2⟩

mutual
theorem KRep.carry {P Q : Nat → Prop} {w w' : World} (hP : ∀ b, P b → w'.heap[b]? = w.heap[b]?) (hQ : ∀ b, P b → Q b) : ∀ (t : Kd) (c : C3), KRep P w t c → KRep Q w' t c
  | .mk s ns ks, c => by
    intro h
    rw [KRep] at h ⊢
    obtain ⟨h0, h3, h6, a, cap, h7, h8, h9⟩ := h
    refine ⟨h0, h3, h6.carry hP hQ, a, cap, h7, h8, fun hk => ?_⟩
    obtain ⟨b, o, e, p, hr⟩ := h9 hk
    exact ⟨b, o, e, hQ b p, KRepK.carry hP hQ b o (hP b p) ks hr⟩
theorem KRepK.carry {P Q : Nat → Prop} {w w' : World} (hP : ∀ b, P b → w'.heap[b]? = w.heap[b]?) (hQ : ∀ b, P b → Q b) (b : Nat) (o : Nat) (hb : w'.heap[b]? = w.heap[b]?) : ∀ (ks : List Kd), KRepK P w b o ks → KRepK Q w' b o ks
  | [] => by intro _; rw [KRepK]; trivial
  | t :: r => by
    intro h
    rw [KRepK] at h ⊢
    obtain ⟨⟨c, h1, h2⟩, h3⟩ := h
    exact ⟨⟨c, h1.carry hb, KRep.carry hP hQ t c h2⟩, KRepK.carry hP hQ b (o + 3) hb r h3⟩
end

/-- A schema as the walks take it: what its kids' slice is, and each kid. -/
theorem KRep.open {P : Nat → Prop} {w : World} {t : Kd} {c : C3} (h : KRep P w t c) :
    c.c0 = .int .i64 t.sort ∧ I64 t.sort ∧ StrsAt P w c.c1 t.names ∧
    ∃ a cap, c.c2 = .slice a t.kids.length cap ∧ t.kids.length ≤ 9223372036854775807 ∧
      ∀ i, (hi : i < t.kids.length) → ∃ b o c, a = some ⟨b, o, none⟩ ∧ P b ∧ C3.at w b (o + i * 3) c ∧ KRep P w t.kids[i] c := by
  obtain ⟨s, ns, ks⟩ := t
  rw [KRep] at h
  obtain ⟨h0, h3, h6, a, cap, h7, h8, h9⟩ := h
  refine ⟨h0, h3, h6, a, cap, h7, h8, fun i hi => ?_⟩
  obtain ⟨b, o, e, p, hr⟩ := h9 (fun hh => by subst hh; simp [Kd.kids] at hi)
  obtain ⟨c', h1', h2'⟩ := hr.get i hi
  exact ⟨b, o, c', e, p, h1', h2'⟩

theorem KRep.make {P : Nat → Prop} {w : World} {t : Kd} {v3 : Value} {b o cap : Nat} (h0 : I64 t.sort) (h3 : StrsAt P w v3 t.names) (h4 : t.kids.length ≤ 9223372036854775807) (h5 : P b) (h6 : KRepK P w b o t.kids) :
    KRep P w t ⟨.int .i64 t.sort, v3, .slice (some ⟨b, o, none⟩) t.kids.length cap⟩ := by
  obtain ⟨s, ns, ks⟩ := t
  rw [KRep]
  exact ⟨rfl, h0, h3, _, _, rfl, h4, fun _ => ⟨b, o, rfl, h5, h6⟩⟩

mutual
def ksz : Kd → Nat
  | .mk _ _ k => 1 + klsz k
def klsz : List Kd → Nat
  | [] => 0
  | t :: r => ksz t + klsz r
end
theorem ksz_kid {t k : Kd} (h : k ∈ t.kids) : ksz k < ksz t := by
  obtain ⟨s, ns, ks⟩ := t
  have : ∀ l : List Kd, k ∈ l → ksz k ≤ klsz l := by
    intro l
    induction l with
    | nil => intro h; cases h
    | cons a r ih =>
      intro h
      rw [klsz]
      rcases List.mem_cons.1 h with rfl | h
      · omega
      · have := ih h; omega
  have := this ks h
  rw [ksz]; omega

def row3 (c0 c1 c2 : Value) : Nat → Value
  | 0 => c0
  | 1 => c1
  | _ => c2

theorem row3_alloc (w : World) (c0 c1 c2 : Value) (t : TypeId) : (w.alloc (.cells #[c0, c1, c2] t)).rowIs w.heap.size t 3 (row3 c0 c1 c2) :=
  World.rowIs_alloc w #[c0, c1, c2] t _ (fun i hi => by
    have hi' : i < 3 := hi
    match i, hi' with
    | 0, _ => rfl
    | 1, _ => rfl
    | 2, _ => rfl)

theorem kbox1 {w w1 : World} {x0 x1 x2 : Value} {tx : TypeId}
    (hb : Below (w.alloc (.cells #[x0, x1, x2] tx)).heap.size (w.alloc (.cells #[x0, x1, x2] tx)) w1) :
    w1.rowIs w.heap.size tx 3 (row3 x0 x1 x2) ∧ w.heap.size + 1 ≤ w1.heap.size ∧ Below w.heap.size w w1 := by
  have r0 := row3_alloc w x0 x1 x2 tx
  have hs := hb.size
  refine ⟨r0.of_block (hb.block _ r0.lt), by simpa using hs, ?_⟩
  exact ((Below.refl _ _).alloc (Nat.le_refl _) _).trans (hb.mono (by simp))

theorem kbox2 {w w1 : World} {x0 x1 x2 y0 y1 y2 : Value} {tx ty : TypeId}
    (hb : Below ((w.alloc (.cells #[x0, x1, x2] tx)).alloc (.cells #[y0, y1, y2] ty)).heap.size ((w.alloc (.cells #[x0, x1, x2] tx)).alloc (.cells #[y0, y1, y2] ty)) w1) :
    w1.rowIs w.heap.size tx 3 (row3 x0 x1 x2) ∧ w1.rowIs (w.heap.size + 1) ty 3 (row3 y0 y1 y2) ∧ w.heap.size + 2 ≤ w1.heap.size ∧ Below w.heap.size w w1 := by
  have e1 : (w.alloc (.cells #[x0, x1, x2] tx)).heap.size = w.heap.size + 1 := by simp
  have r0 := (row3_alloc w x0 x1 x2 tx).alloc (.cells #[y0, y1, y2] ty)
  have r1 := row3_alloc (w.alloc (.cells #[x0, x1, x2] tx)) y0 y1 y2 ty
  rw [e1] at r1
  have hs := hb.size
  refine ⟨r0.of_block (hb.block _ r0.lt), r1.of_block (hb.block _ r1.lt), by simpa using hs, ?_⟩
  exact (((Below.refl _ _).alloc (Nat.le_refl _) _).alloc (by simp) _).trans (hb.mono (by simp; omega))

theorem kbox3 {w w1 : World} {x0 x1 x2 y0 y1 y2 z0 z1 z2 : Value} {tx ty tz : TypeId}
    (hb : Below (((w.alloc (.cells #[x0, x1, x2] tx)).alloc (.cells #[y0, y1, y2] ty)).alloc (.cells #[z0, z1, z2] tz)).heap.size (((w.alloc (.cells #[x0, x1, x2] tx)).alloc (.cells #[y0, y1, y2] ty)).alloc (.cells #[z0, z1, z2] tz)) w1) :
    w1.rowIs w.heap.size tx 3 (row3 x0 x1 x2) ∧ w1.rowIs (w.heap.size + 1) ty 3 (row3 y0 y1 y2) ∧ w1.rowIs (w.heap.size + 1 + 1) tz 3 (row3 z0 z1 z2) ∧ w.heap.size + 3 ≤ w1.heap.size ∧ Below w.heap.size w w1 := by
  have e1 : (w.alloc (.cells #[x0, x1, x2] tx)).heap.size = w.heap.size + 1 := by simp
  have e2 : ((w.alloc (.cells #[x0, x1, x2] tx)).alloc (.cells #[y0, y1, y2] ty)).heap.size = w.heap.size + 1 + 1 := by simp
  have r0 := ((row3_alloc w x0 x1 x2 tx).alloc (.cells #[y0, y1, y2] ty)).alloc (.cells #[z0, z1, z2] tz)
  have r1 := (row3_alloc (w.alloc (.cells #[x0, x1, x2] tx)) y0 y1 y2 ty).alloc (.cells #[z0, z1, z2] tz)
  have r2 := row3_alloc ((w.alloc (.cells #[x0, x1, x2] tx)).alloc (.cells #[y0, y1, y2] ty)) z0 z1 z2 tz
  rw [e1] at r1
  rw [e2] at r2
  have hs := hb.size
  refine ⟨r0.of_block (hb.block _ r0.lt), r1.of_block (hb.block _ r1.lt), r2.of_block (hb.block _ r2.lt), by simpa using hs, ?_⟩
  exact ((((Below.refl _ _).alloc (Nat.le_refl _) _).alloc (by simp) _).alloc (by simp; omega) _).trans (hb.mono (by simp; omega))

end Go.Proofs.YtgamonfmgngilaaGreatDoor

/- Worlds of which but one block is as it was; append onto a row of the call's own. No program walked, no conditions. -/

namespace Go.Proofs.YtgamonfmgngilaaGreatDoor
open Go Go.RowKit

/-- All blocks but B that were there are as they were. -/
abbrev But (B : Nat) (w w' : World) : Prop := w.grownBy w' (some B)

theorem But.refl (B : Nat) (w : World) : But B w w := World.grownBy.refl w _
theorem But.trans {B : Nat} {a b c : World} (h : But B a b) (k : But B b c) : But B a c :=
  ⟨k.os.trans h.os, k.tape.trans h.tape, k.output.trans h.output, Nat.le_trans h.size k.size, fun i hi hne => (k.block i (Nat.lt_of_lt_of_le hi h.size) hne).trans (h.block i hi hne)⟩
theorem But.of_below {B : Nat} {w w' : World} (h : Below w.heap.size w w') : But B w w' :=
  ⟨h.os, h.tape, h.output, h.size, fun i hi _ => h.block i hi⟩
theorem But.alloc (B : Nat) (w : World) (o : Obj) : But B w (w.alloc o) := But.of_below ((Below.refl _ _).alloc (Nat.le_refl _) o)
theorem But.set {B : Nat} (w : World) (o : Nat) (v : Value) : But B w (w.setCell ⟨B, o, none⟩ v) :=
  ⟨rfl, rfl, rfl, by simp [World.setCell], fun i _ hne => Below.heap_setCell _ _ _ _ (fun e => hne (by rw [e]))⟩
theorem But.at {B : Nat} {w w' : World} (h : But B w w') {b : Nat} (hb : b < w.heap.size) (hne : b ≠ B) : w'.heap[b]? = w.heap[b]? :=
  h.block b hb (fun e => hne (by simpa using e))

theorem ownsRow_base {w : World} {base base' : Nat} {e : TypeId} {size : Nat} {v : Value} {n : Nat} {xs : List Value} (h : w.ownsRow base e size v n xs) (hb : base' ≤ base) : w.ownsRow base' e size v n xs := by
  refine ⟨h.1, ?_⟩
  rcases h.2 with h | ⟨g, cap, cur, h1, h2, h3⟩
  · exact Or.inl h
  · exact Or.inr ⟨g, cap, cur, h1, Nat.le_trans hb h2, h3⟩

/-- append onto a row of the call's own: behind it the value lies in the same block, or in a new one. -/
theorem append_row {P : Program} (w : World) {ops : Array Oper} {rest : List Oper} {o : Oper} {a : Act} {Q : Exit → Act → World → Prop}
    (hg : o.guard = none) (s x : Operand) (t : TypeId) (hop : o.op = Op.call { callee := Callee.builtin Builtin.append, args := #[s, x], argTypes := #[t, t] })
    (base : Nat) (e : TypeId) (i : TypeInfo) (z : Value) (size bytes : Nat) (h1 : P.underlying t = some (.slice e)) (h2 : P.info? e = some i) (h3 : i.zero = some z) (h4 : i.size = size) (h5 : i.bytes = bytes) (h6 : z.cells.size = size) (h7 : 0 < size)
    (v : Value) (n : Nat) (xs : List Value) (hs : a.eval s = v) (hown : w.ownsRow base e size v n xs)
    (ad : Addr) (m c : Nat) (news : List Value) (hx : a.eval x = .slice (some ad) m c) (hn : news.length = m * size) (hc : ∀ j u, news[j]? = some u → w.cell? (ad.add j) = some u) (h1c : ∀ u ∈ news, u.oneCell' = true)
    (hm : 0 < m) (b1 : n + m ≤ maxLen) (b2 : (n + m) * bytes ≤ 140737488355328) (hbase : base ≤ w.heap.size)
    (hK : ∀ v' w', w'.ownsRow base e size v' (n + m) (xs ++ news) → w.grownBy w' v.ownBlock → (v'.ownBlock = v.ownBlock ∨ ∃ g, v'.ownBlock = some g ∧ w.heap.size ≤ g) → wpList P ops Q rest (a.put o.dst v') w') :
    wpList P ops Q (o :: rest) a w := by
  have hgrow : ∀ v' w', w'.ownsRow w.heap.size e size v' (n + m) (xs ++ news) → w.grownBy w' none → wpList P ops Q rest (a.put o.dst v') w' := fun v' w' r1 r2 => by
    refine hK v' w' (ownsRow_base r1 hbase) ⟨r2.os, r2.tape, r2.output, r2.size, fun k hk _ => r2.block k hk (by simp)⟩ (Or.inr ?_)
    rcases r1.2 with ⟨_, h⟩ | ⟨g, cap, cur, hv, hgg, _⟩
    · omega
    · exact ⟨g, by rw [hv]; rfl, hgg⟩
  rcases hown.2 with ⟨hv, hn0⟩ | ⟨g, cap, cur, hv, hgb, hh, hle, hm2, hsz, htk⟩
  · subst hv; subst hn0
    have hxs : xs = [] := List.eq_nil_of_length_eq_zero (by have := hown.1; simpa using this)
    subst hxs
    exact wpList_append_grows w hg s x t hop e i z size bytes h1 h2 h3 h4 h5 h6 h7 none 0 0 [] hs (fun _ => ⟨rfl, rfl⟩) (by simp) (fun b hb => by cases hb) ad m c news hx hn hc h1c (by omega) b1 b2 hgrow
  · by_cases hr : n + m ≤ cap
    · subst hv
      exact wpList_append_fits w hg s x t hop base e i size h1 h2 h4 g n cap xs hs hown ad m c news hx hn hc h1c hr fun w' r1 r2 => hK _ w' r1 r2 (Or.inl rfl)
    · refine wpList_append_grows w hg s x t hop e i z size bytes h1 h2 h3 h4 h5 h6 h7 (some ⟨g, 0, none⟩) n cap xs (by rw [hs, hv]) (fun hb => by cases hb) hown.1 (fun b hb j u hj => ?_) ad m c news hx hn hc h1c (by omega) b1 b2 hgrow
      simp only [Option.some.injEq] at hb
      subst hb
      have hj' : cur.toList[j]? = some u := by
        rw [← htk] at hj
        rw [List.getElem?_take] at hj
        split at hj
        · exact hj
        · cases hj
      rw [Addr.add_lit]
      simp only [Nat.zero_add, World.cell?, hh]
      simpa using hj'

theorem cell_one (w : World) (x : Value) (t : TypeId) : ∀ j u, [x][j]? = some u → (w.alloc (.cells #[x] t)).cell? ((⟨w.heap.size, 0, none⟩ : Addr).add j) = some u := by
  intro j u hj
  match j with
  | 0 => simp only [List.getElem?_cons_zero, Option.some.injEq] at hj; subst hj; rw [Addr.add_lit]; simp [go_sem]
  | j + 1 => simp at hj
end Go.Proofs.YtgamonfmgngilaaGreatDoor
