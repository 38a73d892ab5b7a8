/- Trees that own their memory: what blocks they lie in, each named once; what marking them makes of them. Definitions and small laws, no program. No conditions. -/
import Derived.Test.YtiflfcjocngiiaaGreatDoorPart00
import Derived.Test.YtiflfcjocngiiaaGreatDoorPart03
import Derived.Test.YtiflfcjocngiiaaGreatDoorPart01
namespace Go.Proofs.YtiflfcjocngiiaaGreatDoor
open Go Go.RowKit

/-- All blocks that were there, but those in F, are as they were. -/
structure Exc (F : List Nat) (w w' : World) : Prop where
  os : w'.os = w.os
  tape : w'.tape = w.tape
  output : w'.output = w.output
  size : w.heap.size ≤ w'.heap.size
  block : ∀ k, k < w.heap.size → k ∉ F → w'.heap[k]? = w.heap[k]?

theorem Exc.refl (F : List Nat) (w : World) : Exc F w w := ⟨rfl, rfl, rfl, Nat.le_refl _, fun _ _ _ => rfl⟩
theorem Exc.trans {F : List Nat} {a b c : World} (h : Exc F a b) (k : Exc F b c) : Exc F a c :=
  ⟨k.os.trans h.os, k.tape.trans h.tape, k.output.trans h.output, Nat.le_trans h.size k.size, fun i hi hn => (k.block i (Nat.lt_of_lt_of_le hi h.size) hn).trans (h.block i hi hn)⟩
theorem Exc.mono {F G : List Nat} {w w' : World} (h : Exc F w w') (hs : ∀ b, b ∈ F → b ∈ G) : Exc G w w' := ⟨h.os, h.tape, h.output, h.size, fun k hk hn => h.block k hk (fun hm => hn (hs k hm))⟩
theorem Exc.of_below {F : List Nat} {w w' : World} (h : Below w.heap.size w w') : Exc F w w' := ⟨h.os, h.tape, h.output, h.size, fun k hk _ => h.block k hk⟩
theorem Exc.set {F : List Nat} (w : World) (b o : Nat) (v : Value) (hb : b ∈ F) : Exc F w (w.setCell ⟨b, o, none⟩ v) :=
  ⟨rfl, rfl, rfl, by simp [World.setCell], fun k _ hn => Below.heap_setCell _ _ _ _ (fun e => hn (by rw [e]; exact hb))⟩
/-- Where all blocks of F are new since a world, that world is as it was. -/
theorem Exc.below {F : List Nat} {B : Nat} {w w' : World} (h : Exc F w w') (hB : B ≤ w.heap.size) (hF : ∀ b, b ∈ F → B ≤ b) : Below B w w' :=
  ⟨h.os, h.tape, h.output, h.size, fun k hk => h.block k (by omega) (fun hm => by have := hF k hm; omega)⟩

/-- No cell of a block is frozen. -/
def FreeB (w : World) (b : Nat) : Prop := ∀ o, w.frozen? ⟨b, o, none⟩ = false
theorem FreeB.of_block {w w' : World} {b : Nat} (h : FreeB w b) (e : w'.heap[b]? = w.heap[b]?) : FreeB w' b := fun o => by
  rw [World.frozen?_of_block (w := w) (a := ⟨b, o, none⟩) e]; exact h o
theorem FreeB.set {w : World} {b : Nat} (h : FreeB w b) (o : Nat) (v : Value) : FreeB (w.setCell ⟨b, o, none⟩ v) b := fun o' => by
  have := h o'
  simpa [go_sem] using this

/-- A slice of strings in a block of its own. -/
def StrsOwn (w : World) (v : Value) (ss : List ByteArray) (F : List Nat) : Prop :=
  ∃ a cap, v = .slice a ss.length cap ∧ ss.length ≤ 9223372036854775807 ∧ ((ss = [] ∧ F = []) ∨ ∃ b, a = some ⟨b, 0, none⟩ ∧ F = [b] ∧ FreeB w b ∧ ∀ i, (h : i < ss.length) → w.cell? ⟨b, i, none⟩ = some (.string ss[i]) ∧ ss[i].size ≤ 9223372036854775807)

mutual
/-- Five cells are a tree, and all that they lead to lies in the blocks F, in this order. -/
def Own (w : World) : Tr → C5 → List Nat → Prop
  | .mk s n t ns ks, c, F => c.c0 = .int .i64 s ∧ c.c1 = .int .i64 n ∧ c.c2 = .string t ∧ I64 s ∧ I64 n ∧ t.size ≤ 9223372036854775807 ∧
    ∃ F1 F2, F = F1 ++ F2 ∧ StrsOwn w c.c3 ns F1 ∧ ∃ a cap, c.c4 = .slice a ks.length cap ∧ ks.length ≤ 9223372036854775807 ∧
      ((ks = [] ∧ F2 = []) ∨ ∃ b G, a = some ⟨b, 0, none⟩ ∧ F2 = b :: G ∧ FreeB w b ∧ OwnK w b 0 ks G)
def OwnK (w : World) (b : Nat) (o : Nat) : List Tr → List Nat → Prop
  | [], F => F = []
  | t :: r, F => ∃ F1 F2 c, F = F1 ++ F2 ∧ C5.at w b o c ∧ Own w t c F1 ∧ OwnK w b (o + 5) r F2
end

/-- A slice of trees in a block of its own. -/
def KidsOwn (w : World) (v : Value) (ks : List Tr) (F : List Nat) : Prop :=
  ∃ a cap, v = .slice a ks.length cap ∧ ks.length ≤ 9223372036854775807 ∧
      ((ks = [] ∧ F = []) ∨ ∃ b G, a = some ⟨b, 0, none⟩ ∧ F = b :: G ∧ FreeB w b ∧ OwnK w b 0 ks G)

theorem Own.open {w : World} {t : Tr} {c : C5} {F : List Nat} (h : Own w t c F) :
    c.c0 = .int .i64 t.sort ∧ c.c1 = .int .i64 t.num ∧ c.c2 = .string t.text ∧ I64 t.sort ∧ I64 t.num ∧ t.text.size ≤ 9223372036854775807 ∧
    ∃ F1 F2, F = F1 ++ F2 ∧ StrsOwn w c.c3 t.names F1 ∧ KidsOwn w c.c4 t.kids F2 := by
  obtain ⟨s, n, tx, ns, ks⟩ := t
  rw [Own] at h
  exact h

theorem Own.make {w : World} {t : Tr} {c : C5} {F1 F2 : List Nat} (h0 : c.c0 = .int .i64 t.sort) (h1 : c.c1 = .int .i64 t.num) (h2 : c.c2 = .string t.text) (h3 : I64 t.sort) (h4 : I64 t.num) (h5 : t.text.size ≤ 9223372036854775807)
    (h6 : StrsOwn w c.c3 t.names F1) (h7 : KidsOwn w c.c4 t.kids F2) : Own w t c (F1 ++ F2) := by
  obtain ⟨s, n, tx, ns, ks⟩ := t
  rw [Own]
  exact ⟨h0, h1, h2, h3, h4, h5, F1, F2, rfl, h6, h7⟩

theorem StrsOwn.carry {w w' : World} {v : Value} {ss : List ByteArray} {F : List Nat} (h : StrsOwn w v ss F) (hF : ∀ b, b ∈ F → w'.heap[b]? = w.heap[b]?) : StrsOwn w' v ss F := by
  obtain ⟨a, cap, h1, h2, h3⟩ := h
  refine ⟨a, cap, h1, h2, ?_⟩
  rcases h3 with h | ⟨b, e, hf, hfr, hc⟩
  · exact Or.inl h
  · have hb := hF b (by rw [hf]; simp)
    exact Or.inr ⟨b, e, hf, hfr.of_block hb, fun i hi => ⟨by rw [World.cell?_of_block (w := w) hb]; exact (hc i hi).1, (hc i hi).2⟩⟩

mutual
theorem Own.carry {w w' : World} : ∀ (t : Tr) (c : C5) (F : List Nat), (∀ b, b ∈ F → w'.heap[b]? = w.heap[b]?) → Own w t c F → Own w' t c F
  | .mk s n t ns ks, c, F => by
    intro hF h
    rw [Own] at h ⊢
    obtain ⟨h0, h1, h2, h3, h4, h5, F1, F2, rfl, h6, a, cap, h7, h8, h9⟩ := h
    refine ⟨h0, h1, h2, h3, h4, h5, F1, F2, rfl, h6.carry (fun b hb => hF b (by simp [hb])), a, cap, h7, h8, ?_⟩
    rcases h9 with h | ⟨b, G, e, rfl, hfr, hk⟩
    · exact Or.inl h
    · have hb := hF b (by simp)
      exact Or.inr ⟨b, G, e, rfl, hfr.of_block hb, OwnK.carry b 0 ks G (fun b' hb' => hF b' (by simp [hb'])) (fun j _ _ => World.cell?_of_block (w := w) hb) hk⟩
theorem OwnK.carry {w w' : World} (b : Nat) (o : Nat) : ∀ (ks : List Tr) (F : List Nat), (∀ b, b ∈ F → w'.heap[b]? = w.heap[b]?) → (∀ j, o ≤ j → j < o + 5 * ks.length → w'.cell? ⟨b, j, none⟩ = w.cell? ⟨b, j, none⟩) → OwnK w b o ks F → OwnK w' b o ks F
  | [], F => by intro _ _ h; rw [OwnK] at h ⊢; exact h
  | t :: r, F => by
    intro hF hc h
    rw [OwnK] at h ⊢
    obtain ⟨F1, F2, c, rfl, h1, h2, h3⟩ := h
    have hl : o + 5 ≤ o + 5 * (t :: r).length := by simp [List.length_cons]; omega
    refine ⟨F1, F2, c, rfl, ?_, Own.carry t c F1 (fun b hb => hF b (by simp [hb])) h2, OwnK.carry b (o + 5) r F2 (fun b hb => hF b (by simp [hb])) (fun j h1 h2 => hc j (by omega) (by simp only [List.length_cons]; omega)) h3⟩
    obtain ⟨g0, g1, g2, g3, g4⟩ := h1
    exact ⟨by rw [hc _ (by omega) (by omega)]; exact g0, by rw [hc _ (by omega) (by omega)]; exact g1, by rw [hc _ (by omega) (by omega)]; exact g2, by rw [hc _ (by omega) (by omega)]; exact g3, by rw [hc _ (by omega) (by omega)]; exact g4⟩
end

theorem KidsOwn.carry {w w' : World} {v : Value} {ks : List Tr} {F : List Nat} (h : KidsOwn w v ks F) (hF : ∀ b, b ∈ F → w'.heap[b]? = w.heap[b]?) : KidsOwn w' v ks F := by
  obtain ⟨a, cap, h1, h2, h3⟩ := h
  refine ⟨a, cap, h1, h2, ?_⟩
  rcases h3 with h | ⟨b, G, e, rfl, hfr, hk⟩
  · exact Or.inl h
  · have hb := hF b (by simp)
    exact Or.inr ⟨b, G, e, rfl, hfr.of_block hb, OwnK.carry b 0 ks G (fun b' hb' => hF b' (by simp [hb'])) (fun j _ _ => World.cell?_of_block (w := w) hb) hk⟩

theorem OwnK.snoc {w : World} {b o : Nat} {xs : List Tr} {F G : List Nat} {t : Tr} {c : C5} (h : OwnK w b o xs F) (hc : C5.at w b (o + 5 * xs.length) c) (ht : Own w t c G) : OwnK w b o (xs ++ [t]) (F ++ G) := by
  induction xs generalizing o F with
  | nil =>
    rw [OwnK] at h
    subst h
    simp only [List.nil_append]
    rw [OwnK]
    exact ⟨G, [], c, by simp, by simpa using hc, ht, by rw [OwnK]⟩
  | cons x r ih =>
    rw [OwnK] at h
    obtain ⟨F1, F2, d, rfl, h1, h2, h3⟩ := h
    rw [List.cons_append, OwnK]
    refine ⟨F1, F2 ++ G, d, by simp, h1, h2, ih h3 ?_⟩
    rw [show o + 5 + 5 * r.length = o + 5 * (x :: r).length from by simp only [List.length_cons]; omega]
    exact hc

theorem StrsOwn.at {w : World} {v : Value} {ss : List ByteArray} {F : List Nat} (h : StrsOwn w v ss F) : StrsAt (· ∈ F) w v ss := by
  obtain ⟨a, cap, h1, h2, h3⟩ := h
  refine ⟨a, cap, h1, h2, fun i hi => ?_⟩
  rcases h3 with ⟨rfl, _⟩ | ⟨b, e, hf, hfr, hc⟩
  · simp at hi
  · exact ⟨b, 0, e, by rw [hf]; simp, by rw [Nat.zero_add]; exact (hc i hi).1, (hc i hi).2⟩

mutual
theorem Own.rep {w : World} {P : Nat → Prop} : ∀ (t : Tr) (c : C5) (F : List Nat), (∀ b, b ∈ F → P b) → Own w t c F → Rep P w t c
  | .mk s n t ns ks, c, F => by
    intro hF h
    rw [Own] at h
    obtain ⟨h0, h1, h2, h3, h4, h5, F1, F2, rfl, h6, a, cap, h7, h8, h9⟩ := h
    rw [Rep]
    refine ⟨h0, h1, h2, h3, h4, h5, h6.at.carry (fun _ _ => rfl) (fun b hb => hF b (by simp [hb])), a, cap, h7, h8, fun hk => ?_⟩
    rcases h9 with h | ⟨b, G, e, rfl, hfr, hk2⟩
    · exact absurd h.1 hk
    · exact ⟨b, 0, e, hF b (by simp), OwnK.rep b 0 ks G (fun b' hb' => hF b' (by simp [hb'])) hk2⟩
theorem OwnK.rep {w : World} {P : Nat → Prop} (b : Nat) (o : Nat) : ∀ (ks : List Tr) (F : List Nat), (∀ b, b ∈ F → P b) → OwnK w b o ks F → RepK P w b o ks
  | [], F => by intro _ _; rw [RepK]; trivial
  | t :: r, F => by
    intro hF h
    rw [OwnK] at h
    obtain ⟨F1, F2, c, rfl, h1, h2, h3⟩ := h
    rw [RepK]
    exact ⟨⟨c, h1, Own.rep t c F1 (fun b hb => hF b (by simp [hb])) h2⟩, OwnK.rep b (o + 5) r F2 (fun b hb => hF b (by simp [hb])) h3⟩
end

/-- The text of a mark: 'm' and the number. -/
def mtl (k : Nat) (o : ByteArray) : ByteArray := if _h : k = 0 then o else mtl (k / 10) (ByteArray.mk #[UInt8.ofNat (48 + k % 10)] ++ o)
termination_by k
decreasing_by omega
def mtx (k : Nat) : ByteArray := ByteArray.mk #[109] ++ mtl k ByteArray.empty

theorem mtl_size (k : Nat) (o : ByteArray) : (mtl k o).size ≤ o.size + k := by
  induction k using Nat.strongRecOn generalizing o with
  | _ k ih =>
    rw [mtl]
    split
    · omega
    · have := ih (k / 10) (by omega) (ByteArray.mk #[UInt8.ofNat (48 + k % 10)] ++ o)
      rw [ByteArray.size_append] at this
      have e : (ByteArray.mk #[UInt8.ofNat (48 + k % 10)]).size = 1 := rfl
      omega
theorem mtx_size (k : Nat) : (mtx k).size ≤ k + 1 := by
  have := mtl_size k ByteArray.empty
  rw [mtx, ByteArray.size_append]
  have e : (ByteArray.mk #[109]).size = 1 := rfl
  have e2 : ByteArray.empty.size = 0 := rfl
  omega

/-- What marking makes of strings. -/
def mS (k : Nat) : List ByteArray → List ByteArray
  | [] => []
  | _ :: r => mtx k :: mS (k + 1) r
theorem mS_len (k : Nat) (l : List ByteArray) : (mS k l).length = l.length := by
  induction l generalizing k with
  | nil => rfl
  | cons a r ih => simp [mS, ih]
theorem mS_get (k : Nat) (l : List ByteArray) (i : Nat) (h : i < (mS k l).length) : (mS k l)[i] = mtx (k + i) := by
  induction l generalizing k i with
  | nil => simp [mS] at h
  | cons a r ih =>
    cases i with
    | zero => rfl
    | succ i =>
      simp only [mS, List.getElem_cons_succ]
      rw [ih]; congr 1; omega

mutual
/-- How many marks a kid takes. -/
def cT : Tr → Nat
  | .mk _ _ _ ns ks => 3 + ns.length + cK ks
def cK : List Tr → Nat
  | [] => 0
  | t :: r => cT t + cK r
end
mutual
/-- What marking makes of a kid. -/
def mT (k : Nat) : Tr → Tr
  | .mk _ _ _ ns ks => .mk k (k + 1 : Nat) (mtx (k + 2)) (mS (k + 3) ns) (mK (k + 3 + ns.length) ks)
def mK (k : Nat) : List Tr → List Tr
  | [] => []
  | t :: r => mT k t :: mK (k + cT t) r
end
theorem cT_eq (t : Tr) : cT t = 3 + t.names.length + cK t.kids := by obtain ⟨s, n, tx, ns, ks⟩ := t; rw [cT]; rfl
theorem mT_eq (k : Nat) (t : Tr) : mT k t = .mk k (k + 1 : Nat) (mtx (k + 2)) (mS (k + 3) t.names) (mK (k + 3 + t.names.length) t.kids) := by obtain ⟨s, n, tx, ns, ks⟩ := t; rw [mT]; rfl
theorem mK_len (k : Nat) (l : List Tr) : (mK k l).length = l.length := by
  induction l generalizing k with
  | nil => rw [mK]
  | cons a r ih => rw [mK]; simp [ih]
theorem cK_append (a b : List Tr) : cK (a ++ b) = cK a + cK b := by
  induction a with
  | nil => simp [cK]
  | cons x r ih => rw [List.cons_append, cK, cK, ih]; omega
theorem mK_append (k : Nat) (a b : List Tr) : mK k (a ++ b) = mK k a ++ mK (k + cK a) b := by
  induction a generalizing k with
  | nil => simp [mK, cK]
  | cons x r ih => rw [List.cons_append, mK, mK, ih, cK]; simp [Nat.add_assoc]
theorem mK_snoc (k : Nat) (a : List Tr) (t : Tr) : mK k (a ++ [t]) = mK k a ++ [mT (k + cK a) t] := by
  rw [mK_append, mK, mK]
theorem cK_take_succ (l : List Tr) (i : Nat) (h : i < l.length) : cK (l.take (i + 1)) = cK (l.take i) + cT l[i] := by
  rw [List.take_succ_eq_append_getElem h, cK_append, cK, cK]; omega
theorem cK_take_le (l : List Tr) (i : Nat) : cK (l.take i) ≤ cK l := by
  conv => rhs; rw [← List.take_append_drop i l, cK_append]
  omega
theorem mK_get (k : Nat) (l : List Tr) (i : Nat) (h : i < (mK k l).length) : (mK k l)[i] = mT (k + cK (l.take i)) (l[i]'(by rw [mK_len] at h; exact h)) := by
  induction l generalizing k i with
  | nil => rw [mK_len] at h; simp at h
  | cons a r ih =>
    cases i with
    | zero => simp [mK, cK]
    | succ i =>
      simp only [mK, List.getElem_cons_succ, List.take_succ_cons]
      rw [ih, cK]; congr 1; omega
theorem lsz_kid {t : Tr} {l : List Tr} (h : t ∈ l) : lsz t.kids < lsz l := by
  induction l with
  | nil => cases h
  | cons a r ih =>
    rw [lsz]
    rcases List.mem_cons.1 h with rfl | h
    · obtain ⟨s, n, tx, ns, ks⟩ := t
      rw [tsz]; show lsz ks < _; omega
    · have := ih h; omega
end Go.Proofs.YtiflfcjocngiiaaGreatDoor

/- The first tree of a schema, as plain data; trees gathered in a row of the call's own. Definitions and small laws; no program walked, no conditions. -/

namespace Go.Proofs.YtiflfcjocngiiaaGreatDoor
open Go Go.RowKit

def c5l (c : C5) : List Value := [c.c0, c.c1, c.c2, c.c3, c.c4]

/-- Trees whose cells stand in a row, each in blocks of its own. -/
def OwnL (w : World) : List Tr → List Value → List Nat → Prop
  | [], xs, G => xs = [] ∧ G = []
  | t :: r, xs, G => ∃ c F G' xs', xs = c5l c ++ xs' ∧ G = F ++ G' ∧ Own w t c F ∧ OwnL w r xs' G'

theorem OwnL.snoc {w : World} {ks : List Tr} {xs : List Value} {G F : List Nat} {t : Tr} {c : C5} (h : OwnL w ks xs G) (ht : Own w t c F) : OwnL w (ks ++ [t]) (xs ++ c5l c) (G ++ F) := by
  induction ks generalizing xs G with
  | nil =>
    obtain ⟨rfl, rfl⟩ := h
    exact ⟨c, F, [], [], by simp, by simp, ht, rfl, rfl⟩
  | cons a r ih =>
    obtain ⟨d, F1, G', xs', rfl, rfl, h1, h2⟩ := h
    exact ⟨d, F1, G' ++ F, xs' ++ c5l c, by simp, by simp, h1, ih h2⟩

theorem OwnL.carry {w w' : World} {ks : List Tr} {xs : List Value} {G : List Nat} (h : OwnL w ks xs G) (hb : ∀ b, b ∈ G → w'.heap[b]? = w.heap[b]?) : OwnL w' ks xs G := by
  induction ks generalizing xs G with
  | nil => exact h
  | cons a r ih =>
    obtain ⟨d, F1, G', xs', rfl, rfl, h1, h2⟩ := h
    exact ⟨d, F1, G', xs', rfl, rfl, Own.carry a d F1 (fun b hb' => hb b (by simp [hb'])) h1, ih h2 (fun b hb' => hb b (by simp [hb']))⟩

theorem OwnL.ownK {w : World} {g : Nat} {ks : List Tr} {xs : List Value} {G : List Nat} {o : Nat} (h : OwnL w ks xs G) (hc : ∀ j u, xs[j]? = some u → w.cell? ⟨g, o + j, none⟩ = some u) : OwnK w g o ks G := by
  induction ks generalizing xs G o with
  | nil => rw [OwnK]; exact h.2
  | cons a r ih =>
    obtain ⟨d, F1, G', xs', rfl, rfl, h1, h2⟩ := h
    rw [OwnK]
    refine ⟨F1, G', d, rfl, ⟨hc 0 _ rfl, hc 1 _ rfl, hc 2 _ rfl, hc 3 _ rfl, hc 4 _ rfl⟩, h1, ih h2 (fun j u hj => ?_)⟩
    have := hc (5 + j) u (by
      rw [List.getElem?_append_right (by simp [c5l]), show 5 + j - (c5l d).length = j from by simp [c5l]]; exact hj)
    rw [show o + 5 + j = o + (5 + j) from by omega]; exact this

/-- What the loop has gathered: trees in a row of the call's own. -/
structure GotO (base : Nat) (w : World) (v : Value) (ks : List Tr) (xs : List Value) (G : List Nat) : Prop where
  row : w.ownsRow base 39 5 v ks.length xs
  own : OwnL w ks xs G
  nodup : G.Nodup
  lt : ∀ b, b ∈ G → base ≤ b ∧ b < w.heap.size ∧ v.ownBlock ≠ some b

/-- A world in which nothing at or beyond the base has turned that was there. -/
theorem GotO.kept {base : Nat} {w w' : World} {v : Value} {ks : List Tr} {xs : List Value} {G : List Nat} (h : GotO base w v ks xs G) (hg : w.grownBy w' none) : GotO base w' v ks xs G :=
  ⟨h.row.kept hg (by
      rcases e : v.ownBlock with _ | g
      · exact Or.inl rfl
      · exact Or.inr (by simp)), h.own.carry (fun b hb => hg.block b (h.lt b hb).2.1 (by simp)), h.nodup, fun b hb => ⟨(h.lt b hb).1, Nat.lt_of_lt_of_le (h.lt b hb).2.1 hg.size, (h.lt b hb).2.2⟩⟩

/-- One tree more: its blocks are newer than all that was gathered. -/
theorem GotO.push {base m : Nat} {w w' : World} {v v' : Value} {ks : List Tr} {xs : List Value} {G F : List Nat} {t : Tr} {c : C5} (h : GotO base w v ks xs G) (ht : Own w t c F) (hnd : F.Nodup) (hF : ∀ b, b ∈ F → m ≤ b ∧ b < w.heap.size)
    (hGm : ∀ b, b ∈ G → b < m) (hvm : ∀ b, v.ownBlock = some b → b < m) (hbm : base ≤ m)
    (hown : w'.ownsRow base 39 5 v' (ks.length + 1) (xs ++ c5l c)) (hg : w.grownBy w' v.ownBlock) (hv : v'.ownBlock = v.ownBlock ∨ ∃ g, v'.ownBlock = some g ∧ w.heap.size ≤ g) :
    GotO base w' v' (ks ++ [t]) (xs ++ c5l c) (G ++ F) := by
  have hkG : ∀ b, b ∈ G → w'.heap[b]? = w.heap[b]? := fun b hb => hg.block b (h.lt b hb).2.1 (fun e => (h.lt b hb).2.2 e.symm)
  have hkF : ∀ b, b ∈ F → w'.heap[b]? = w.heap[b]? := fun b hb => hg.block b (hF b hb).2 (fun e => by have := hvm b e.symm; have := (hF b hb).1; omega)
  refine ⟨by simpa using hown, (h.own.carry hkG).snoc (Own.carry t c F hkF ht), List.nodup_append.2 ⟨h.nodup, hnd, fun a ha b hb e => by have := hGm a ha; have := (hF b hb).1; omega⟩, fun b hb => ?_⟩
  rcases List.mem_append.1 hb with hb | hb
  · refine ⟨(h.lt b hb).1, Nat.lt_of_lt_of_le (h.lt b hb).2.1 hg.size, ?_⟩
    rcases hv with e | ⟨g, e, hge⟩
    · rw [e]; exact (h.lt b hb).2.2
    · rw [e]; intro e2; simp only [Option.some.injEq] at e2; have := (h.lt b hb).2.1; omega
  · refine ⟨by have := (hF b hb).1; omega, Nat.lt_of_lt_of_le (hF b hb).2 hg.size, ?_⟩
    rcases hv with e | ⟨g, e, hge⟩
    · rw [e]; intro e2; have := hvm b e2; have := (hF b hb).1; omega
    · rw [e]; intro e2; simp only [Option.some.injEq] at e2; have := (hF b hb).2; omega

theorem freeOfHeap {w : World} {g : Nat} {cur : Array Value} {e : TypeId} (h : w.heap[g]? = some (.cells cur e (0, 0))) : FreeB w g := fun o => by simp [World.frozen?, h]

/-- A row of strings of the call's own. -/
theorem strsOwn_of_row {base : Nat} {w : World} {v : Value} {ss : List ByteArray} (h : w.ownsRow base 9 1 v ss.length (ss.map Value.string)) (hs : ∀ x, x ∈ ss → x.size ≤ 9223372036854775807) :
    ∃ F, StrsOwn w v ss F ∧ F.Nodup ∧ (∀ b, b ∈ F → base ≤ b ∧ b < w.heap.size) ∧ ∀ b, b ∈ F → v.ownBlock = some b := by
  rcases h.2 with ⟨hv, hn0⟩ | ⟨g, cap, cur, hv, hgb, hh, hle, hm2, hsz, htk⟩
  · have hss : ss = [] := List.eq_nil_of_length_eq_zero hn0
    subst hss
    exact ⟨[], ⟨none, 0, hv, by simp, Or.inl ⟨rfl, rfl⟩⟩, List.nodup_nil, fun b hb => by simp at hb, fun b hb => by simp at hb⟩
  · refine ⟨[g], ⟨some ⟨g, 0, none⟩, cap, hv, by unfold maxLen at hm2; omega, Or.inr ⟨g, rfl, rfl, freeOfHeap hh, fun i hi => ⟨?_, hs _ (List.getElem_mem hi)⟩⟩⟩, by simp, fun b hb => ?_, fun b hb => by simp at hb; subst hb; rw [hv]; rfl⟩
    · have h1 : (ss.map Value.string)[i]? = some (.string ss[i]) := by simp [hi]
      rw [← htk, List.getElem?_take_of_lt (by omega)] at h1
      simp only [World.cell?, hh]
      simpa using h1
    · simp at hb; subst hb
      exact ⟨hgb, (Array.getElem?_eq_some_iff.1 hh).1⟩

/-- What was gathered is a slice of trees in blocks of its own. -/
theorem GotO.done {base : Nat} {w : World} {v : Value} {ks : List Tr} {xs : List Value} {G : List Nat} (h : GotO base w v ks xs G) :
    ∃ F, KidsOwn w v ks F ∧ F.Nodup ∧ (∀ b, b ∈ F → base ≤ b ∧ b < w.heap.size) ∧ ∀ b, b ∈ F → v.ownBlock = some b ∨ b ∈ G := by
  rcases h.row.2 with ⟨hv, hn0⟩ | ⟨g, cap, cur, hv, hgb, hh, hle, hm2, hsz, htk⟩
  · have hks : ks = [] := List.eq_nil_of_length_eq_zero hn0
    subst hks
    exact ⟨[], ⟨none, 0, hv, by simp, Or.inl ⟨rfl, rfl⟩⟩, List.nodup_nil, fun b hb => by simp at hb, fun b hb => by simp at hb⟩
  · have hob : v.ownBlock = some g := by rw [hv]; rfl
    refine ⟨g :: G, ⟨some ⟨g, 0, none⟩, cap, hv, by unfold maxLen at hm2; omega, Or.inr ⟨g, G, rfl, rfl, freeOfHeap hh, h.own.ownK (fun j u hj => ?_)⟩⟩, List.nodup_cons.2 ⟨fun hm => (h.lt g hm).2.2 hob, h.nodup⟩, fun b hb => ?_, fun b hb => by
        rcases List.mem_cons.1 hb with rfl | hb
        · exact Or.inl hob
        · exact Or.inr hb⟩
    · have hj' : cur.toList[j]? = some u := by
        rw [← htk] at hj
        rw [List.getElem?_take] at hj
        split at hj
        · exact hj
        · cases hj
      simp only [Nat.zero_add, World.cell?, hh]
      simpa using hj'
    · rcases List.mem_cons.1 hb with rfl | hb
      · exact ⟨hgb, (Array.getElem?_eq_some_iff.1 hh).1⟩
      · exact ⟨(h.lt b hb).1, (h.lt b hb).2.1⟩

theorem cell_five (w : World) (c : C5) (t : TypeId) : ∀ j u, (c5l c)[j]? = some u → (w.alloc (.cells #[c.c0, c.c1, c.c2, c.c3, c.c4] t)).cell? ((⟨w.heap.size, 0, none⟩ : Addr).add j) = some u := by
  intro j u hj
  have hrow := row5_alloc w c.c0 c.c1 c.c2 c.c3 c.c4 t
  rw [Addr.add_lit, Nat.zero_add]
  match j with
  | 0 => rw [hrow.cell (by omega)]; exact hj
  | 1 => rw [hrow.cell (by omega)]; exact hj
  | 2 => rw [hrow.cell (by omega)]; exact hj
  | 3 => rw [hrow.cell (by omega)]; exact hj
  | 4 => rw [hrow.cell (by omega)]; exact hj
  | j + 5 => simp [c5l] at hj

theorem Own.one {w : World} {t : Tr} {c : C5} {F : List Nat} (h : Own w t c F) : ∀ u ∈ c5l c, u.oneCell' = true := by
  obtain ⟨h0, h1, h2, -, -, -, F1, F2, -, ⟨a, cap, h3, -⟩, a2, cap2, h4, -⟩ := h.open
  intro u hu
  simp only [c5l, h0, h1, h2, h3, h4, List.mem_cons, List.not_mem_nil, or_false] at hu
  rcases hu with rfl | rfl | rfl | rfl | rfl <;> rfl
end Go.Proofs.YtiflfcjocngiiaaGreatDoor
