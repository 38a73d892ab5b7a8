/- Trees that own their memory: what blocks they lie in, each named once; what marking them makes of them. Definitions and small laws, no program. No conditions. -/
import Derived.Test.YtcpfelaffclalaaGreatDoorPart00
import Derived.Test.YtcpfelaffclalaaGreatDoorPart01
import Derived.Test.YtcpfelaffclalaaGreatDoorPart09
import Derived.Test.YtcpfelaffclalaaGreatDoorRows
import Derived.Test.YtcpfelaffclalaaGreatDoorPart02
namespace Go.Proofs.YtcpfelaffclalaaGreatDoor
open Go Go.RowKit

/-- All blocks that were there, but those in F, are as they were. -/
structure Exc (F : List Nat) (w w' : World) : Prop where
  os : w'.os = w.os
  tape : w'.tape = w.tape
  output : w'.output = w.output
  size : w.heap.size ≤ w'.heap.size
  block : ∀ k, k < w.heap.size → k ∉ F → w'.heap[k]? = w.heap[k]?

theorem Exc.refl (F : List Nat) (w : World) : Exc F w w := ⟨rfl, rfl, rfl, Nat.le_refl _, fun _ _ _ => rfl⟩
theorem Exc.trans {F : List Nat} {a b c : World} (h : Exc F a b) (k : Exc F b c) : Exc F a c :=
  ⟨k.os.trans h.os, k.tape.trans h.tape, k.output.trans h.output, Nat.le_trans h.size k.size, fun i hi hn => (k.block i (Nat.lt_of_lt_of_le hi h.size) hn).trans (h.block i hi hn)⟩
theorem Exc.mono {F G : List Nat} {w w' : World} (h : Exc F w w') (hs : ∀ b, b ∈ F → b ∈ G) : Exc G w w' := ⟨h.os, h.tape, h.output, h.size, fun k hk hn => h.block k hk (fun hm => hn (hs k hm))⟩
theorem Exc.of_below {F : List Nat} {w w' : World} (h : Below w.heap.size w w') : Exc F w w' := ⟨h.os, h.tape, h.output, h.size, fun k hk _ => h.block k hk⟩
theorem Exc.set {F : List Nat} (w : World) (b o : Nat) (v : Value) (hb : b ∈ F) : Exc F w (w.setCell ⟨b, o, none⟩ v) :=
  ⟨rfl, rfl, rfl, by simp [World.setCell], fun k _ hn => Below.heap_setCell _ _ _ _ (fun e => hn (by rw [e]; exact hb))⟩
/-- No cell of a block is frozen. -/
def FreeB (w : World) (b : Nat) : Prop := ∀ o, w.frozen? ⟨b, o, none⟩ = false
theorem FreeB.of_block {w w' : World} {b : Nat} (h : FreeB w b) (e : w'.heap[b]? = w.heap[b]?) : FreeB w' b := fun o => by
  rw [World.frozen?_of_block (w := w) (a := ⟨b, o, none⟩) e]; exact h o
theorem FreeB.set {w : World} {b : Nat} (h : FreeB w b) (o : Nat) (v : Value) : FreeB (w.setCell ⟨b, o, none⟩ v) b := fun o' => by
  have := h o'
  simpa [go_sem] using this

/-- A slice of strings in a block of its own. -/
def StrsOwn (w : World) (v : Value) (ss : List ByteArray) (F : List Nat) : Prop :=
  ∃ a cap, v = .slice a ss.length cap ∧ ss.length ≤ 9223372036854775807 ∧ ((ss = [] ∧ F = []) ∨ ∃ b, a = some ⟨b, 0, none⟩ ∧ F = [b] ∧ FreeB w b ∧ ∀ i, (h : i < ss.length) → w.cell? ⟨b, i, none⟩ = some (.string ss[i]) ∧ ss[i].size ≤ 9223372036854775807)

mutual
/-- Five cells are a tree, and all that they lead to lies in the blocks F, in this order. -/
def Own (w : World) : Tr → C5 → List Nat → Prop
  | .mk s n t ns ks, c, F => c.c0 = .int .i64 s ∧ c.c1 = .int .i64 n ∧ c.c2 = .string t ∧ I64 s ∧ I64 n ∧ t.size ≤ 9223372036854775807 ∧
    ∃ F1 F2, F = F1 ++ F2 ∧ StrsOwn w c.c3 ns F1 ∧ ∃ a cap, c.c4 = .slice a ks.length cap ∧ ks.length ≤ 9223372036854775807 ∧
      ((ks = [] ∧ F2 = []) ∨ ∃ b G, a = some ⟨b, 0, none⟩ ∧ F2 = b :: G ∧ FreeB w b ∧ OwnK w b 0 ks G)
def OwnK (w : World) (b : Nat) (o : Nat) : List Tr → List Nat → Prop
  | [], F => F = []
  | t :: r, F => ∃ F1 F2 c, F = F1 ++ F2 ∧ C5.at w b o c ∧ Own w t c F1 ∧ OwnK w b (o + 5) r F2
end

/-- A slice of trees in a block of its own. -/
def KidsOwn (w : World) (v : Value) (ks : List Tr) (F : List Nat) : Prop :=
  ∃ a cap, v = .slice a ks.length cap ∧ ks.length ≤ 9223372036854775807 ∧
      ((ks = [] ∧ F = []) ∨ ∃ b G, a = some ⟨b, 0, none⟩ ∧ F = b :: G ∧ FreeB w b ∧ OwnK w b 0 ks G)

theorem Own.open {w : World} {t : Tr} {c : C5} {F : List Nat} (h : Own w t c F) :
    c.c0 = .int .i64 t.sort ∧ c.c1 = .int .i64 t.num ∧ c.c2 = .string t.text ∧ I64 t.sort ∧ I64 t.num ∧ t.text.size ≤ 9223372036854775807 ∧
    ∃ F1 F2, F = F1 ++ F2 ∧ StrsOwn w c.c3 t.names F1 ∧ KidsOwn w c.c4 t.kids F2 := by
  obtain ⟨s, n, tx, ns, ks⟩ := t
  rw [Own] at h
  exact h

theorem Own.make {w : World} {t : Tr} {c : C5} {F1 F2 : List Nat} (h0 : c.c0 = .int .i64 t.sort) (h1 : c.c1 = .int .i64 t.num) (h2 : c.c2 = .string t.text) (h3 : I64 t.sort) (h4 : I64 t.num) (h5 : t.text.size ≤ 9223372036854775807)
    (h6 : StrsOwn w c.c3 t.names F1) (h7 : KidsOwn w c.c4 t.kids F2) : Own w t c (F1 ++ F2) := by
  obtain ⟨s, n, tx, ns, ks⟩ := t
  rw [Own]
  exact ⟨h0, h1, h2, h3, h4, h5, F1, F2, rfl, h6, h7⟩

theorem StrsOwn.carry {w w' : World} {v : Value} {ss : List ByteArray} {F : List Nat} (h : StrsOwn w v ss F) (hF : ∀ b, b ∈ F → w'.heap[b]? = w.heap[b]?) : StrsOwn w' v ss F := by
  obtain ⟨a, cap, h1, h2, h3⟩ := h
  refine ⟨a, cap, h1, h2, ?_⟩
  rcases h3 with h | ⟨b, e, hf, hfr, hc⟩
  · exact Or.inl h
  · have hb := hF b (by rw [hf]; simp)
    exact Or.inr ⟨b, e, hf, hfr.of_block hb, fun i hi => ⟨by rw [World.cell?_of_block (w := w) hb]; exact (hc i hi).1, (hc i hi).2⟩⟩

mutual
theorem Own.carry {w w' : World} : ∀ (t : Tr) (c : C5) (F : List Nat), (∀ b, b ∈ F → w'.heap[b]? = w.heap[b]?) → Own w t c F → Own w' t c F
  | .mk s n t ns ks, c, F => by
    intro hF h
    rw [Own] at h ⊢
    obtain ⟨h0, h1, h2, h3, h4, h5, F1, F2, rfl, h6, a, cap, h7, h8, h9⟩ := h
    refine ⟨h0, h1, h2, h3, h4, h5, F1, F2, rfl, h6.carry (fun b hb => hF b (by simp [hb])), a, cap, h7, h8, ?_⟩
    rcases h9 with h | ⟨b, G, e, rfl, hfr, hk⟩
    · exact Or.inl h
    · have hb := hF b (by simp)
      exact Or.inr ⟨b, G, e, rfl, hfr.of_block hb, OwnK.carry b 0 ks G (fun b' hb' => hF b' (by simp [hb'])) (fun j _ _ => World.cell?_of_block (w := w) hb) hk⟩
theorem OwnK.carry {w w' : World} (b : Nat) (o : Nat) : ∀ (ks : List Tr) (F : List Nat), (∀ b, b ∈ F → w'.heap[b]? = w.heap[b]?) → (∀ j, o ≤ j → j < o + 5 * ks.length → w'.cell? ⟨b, j, none⟩ = w.cell? ⟨b, j, none⟩) → OwnK w b o ks F → OwnK w' b o ks F
  | [], F => by intro _ _ h; rw [OwnK] at h ⊢; exact h
  | t :: r, F => by
    intro hF hc h
    rw [OwnK] at h ⊢
    obtain ⟨F1, F2, c, rfl, h1, h2, h3⟩ := h
    have hl : o + 5 ≤ o + 5 * (t :: r).length := by simp [List.length_cons]; omega
    refine ⟨F1, F2, c, rfl, ?_, Own.carry t c F1 (fun b hb => hF b (by simp [hb])) h2, OwnK.carry b (o + 5) r F2 (fun b hb => hF b (by simp [hb])) (fun j h1 h2 => hc j (by omega) (by simp only [List.length_cons]; omega)) h3⟩
    obtain ⟨g0, g1, g2, g3, g4⟩ := h1
    exact ⟨by rw [hc _ (by omega) (by omega)]; exact g0, by rw [hc _ (by omega) (by omega)]; exact g1, by rw [hc _ (by omega) (by omega)]; exact g2, by rw [hc _ (by omega) (by omega)]; exact g3, by rw [hc _ (by omega) (by omega)]; exact g4⟩
end

theorem KidsOwn.carry {w w' : World} {v : Value} {ks : List Tr} {F : List Nat} (h : KidsOwn w v ks F) (hF : ∀ b, b ∈ F → w'.heap[b]? = w.heap[b]?) : KidsOwn w' v ks F := by
  obtain ⟨a, cap, h1, h2, h3⟩ := h
  refine ⟨a, cap, h1, h2, ?_⟩
  rcases h3 with h | ⟨b, G, e, rfl, hfr, hk⟩
  · exact Or.inl h
  · have hb := hF b (by simp)
    exact Or.inr ⟨b, G, e, rfl, hfr.of_block hb, OwnK.carry b 0 ks G (fun b' hb' => hF b' (by simp [hb'])) (fun j _ _ => World.cell?_of_block (w := w) hb) hk⟩

theorem OwnK.snoc {w : World} {b o : Nat} {xs : List Tr} {F G : List Nat} {t : Tr} {c : C5} (h : OwnK w b o xs F) (hc : C5.at w b (o + 5 * xs.length) c) (ht : Own w t c G) : OwnK w b o (xs ++ [t]) (F ++ G) := by
  induction xs generalizing o F with
  | nil =>
    rw [OwnK] at h
    subst h
    simp only [List.nil_append]
    rw [OwnK]
    exact ⟨G, [], c, by simp, by simpa using hc, ht, by rw [OwnK]⟩
  | cons x r ih =>
    rw [OwnK] at h
    obtain ⟨F1, F2, d, rfl, h1, h2, h3⟩ := h
    rw [List.cons_append, OwnK]
    refine ⟨F1, F2 ++ G, d, by simp, h1, h2, ih h3 ?_⟩
    rw [show o + 5 + 5 * r.length = o + 5 * (x :: r).length from by simp only [List.length_cons]; omega]
    exact hc

theorem StrsOwn.at {w : World} {v : Value} {ss : List ByteArray} {F : List Nat} (h : StrsOwn w v ss F) : StrsAt (· ∈ F) w v ss := by
  obtain ⟨a, cap, h1, h2, h3⟩ := h
  refine ⟨a, cap, h1, h2, fun i hi => ?_⟩
  rcases h3 with ⟨rfl, _⟩ | ⟨b, e, hf, hfr, hc⟩
  · simp at hi
  · exact ⟨b, 0, e, by rw [hf]; simp, by rw [Nat.zero_add]; exact (hc i hi).1, (hc i hi).2⟩

mutual
theorem Own.rep {w : World} {P : Nat → Prop} : ∀ (t : Tr) (c : C5) (F : List Nat), (∀ b, b ∈ F → P b) → Own w t c F → Rep P w t c
  | .mk s n t ns ks, c, F => by
    intro hF h
    rw [Own] at h
    obtain ⟨h0, h1, h2, h3, h4, h5, F1, F2, rfl, h6, a, cap, h7, h8, h9⟩ := h
    rw [Rep]
    refine ⟨h0, h1, h2, h3, h4, h5, h6.at.carry (fun _ _ => rfl) (fun b hb => hF b (by simp [hb])), a, cap, h7, h8, fun hk => ?_⟩
    rcases h9 with h | ⟨b, G, e, rfl, hfr, hk2⟩
    · exact absurd h.1 hk
    · exact ⟨b, 0, e, hF b (by simp), OwnK.rep b 0 ks G (fun b' hb' => hF b' (by simp [hb'])) hk2⟩
theorem OwnK.rep {w : World} {P : Nat → Prop} (b : Nat) (o : Nat) : ∀ (ks : List Tr) (F : List Nat), (∀ b, b ∈ F → P b) → OwnK w b o ks F → RepK P w b o ks
  | [], F => by intro _ _; rw [RepK]; trivial
  | t :: r, F => by
    intro hF h
    rw [OwnK] at h
    obtain ⟨F1, F2, c, rfl, h1, h2, h3⟩ := h
    rw [RepK]
    exact ⟨⟨c, h1, Own.rep t c F1 (fun b hb => hF b (by simp [hb])) h2⟩, OwnK.rep b (o + 5) r F2 (fun b hb => hF b (by simp [hb])) h3⟩
end

/-- The text of a mark: 'm' and the number. -/
def mtl (k : Nat) (o : ByteArray) : ByteArray := if _h : k = 0 then o else mtl (k / 10) (ByteArray.mk #[UInt8.ofNat (48 + k % 10)] ++ o)
termination_by k
decreasing_by omega
def mtx (k : Nat) : ByteArray := ByteArray.mk #[109] ++ mtl k ByteArray.empty

theorem mtl_size (k : Nat) (o : ByteArray) : (mtl k o).size ≤ o.size + k := by
  induction k using Nat.strongRecOn generalizing o with
  | _ k ih =>
    rw [mtl]
    split
    · omega
    · have := ih (k / 10) (by omega) (ByteArray.mk #[UInt8.ofNat (48 + k % 10)] ++ o)
      rw [ByteArray.size_append] at this
      have e : (ByteArray.mk #[UInt8.ofNat (48 + k % 10)]).size = 1 := rfl
      omega
theorem mtx_size (k : Nat) : (mtx k).size ≤ k + 1 := by
  have := mtl_size k ByteArray.empty
  rw [mtx, ByteArray.size_append]
  have e : (ByteArray.mk #[109]).size = 1 := rfl
  have e2 : ByteArray.empty.size = 0 := rfl
  omega

/-- What marking makes of strings. -/
def mS (k : Nat) : List ByteArray → List ByteArray
  | [] => []
  | _ :: r => mtx k :: mS (k + 1) r
theorem mS_len (k : Nat) (l : List ByteArray) : (mS k l).length = l.length := by
  induction l generalizing k with
  | nil => rfl
  | cons a r ih => simp [mS, ih]
theorem mS_get (k : Nat) (l : List ByteArray) (i : Nat) (h : i < (mS k l).length) : (mS k l)[i] = mtx (k + i) := by
  induction l generalizing k i with
  | nil => simp [mS] at h
  | cons a r ih =>
    cases i with
    | zero => rfl
    | succ i =>
      simp only [mS, List.getElem_cons_succ]
      rw [ih]; congr 1; omega

mutual
/-- How many marks a kid takes. -/
def cT : Tr → Nat
  | .mk _ _ _ ns ks => 3 + ns.length + cK ks
def cK : List Tr → Nat
  | [] => 0
  | t :: r => cT t + cK r
end
mutual
/-- What marking makes of a kid. -/
def mT (k : Nat) : Tr → Tr
  | .mk _ _ _ ns ks => .mk k (k + 1 : Nat) (mtx (k + 2)) (mS (k + 3) ns) (mK (k + 3 + ns.length) ks)
def mK (k : Nat) : List Tr → List Tr
  | [] => []
  | t :: r => mT k t :: mK (k + cT t) r
end
theorem cT_eq (t : Tr) : cT t = 3 + t.names.length + cK t.kids := by obtain ⟨s, n, tx, ns, ks⟩ := t; rw [cT]; rfl
theorem mT_eq (k : Nat) (t : Tr) : mT k t = .mk k (k + 1 : Nat) (mtx (k + 2)) (mS (k + 3) t.names) (mK (k + 3 + t.names.length) t.kids) := by obtain ⟨s, n, tx, ns, ks⟩ := t; rw [mT]; rfl
theorem mK_len (k : Nat) (l : List Tr) : (mK k l).length = l.length := by
  induction l generalizing k with
  | nil => rw [mK]
  | cons a r ih => rw [mK]; simp [ih]
theorem cK_append (a b : List Tr) : cK (a ++ b) = cK a + cK b := by
  induction a with
  | nil => simp [cK]
  | cons x r ih => rw [List.cons_append, cK, cK, ih]; omega
theorem mK_append (k : Nat) (a b : List Tr) : mK k (a ++ b) = mK k a ++ mK (k + cK a) b := by
  induction a generalizing k with
  | nil => simp [mK, cK]
  | cons x r ih => rw [List.cons_append, mK, mK, ih, cK]; simp [Nat.add_assoc]
theorem mK_snoc (k : Nat) (a : List Tr) (t : Tr) : mK k (a ++ [t]) = mK k a ++ [mT (k + cK a) t] := by
  rw [mK_append, mK, mK]
theorem cK_take_succ (l : List Tr) (i : Nat) (h : i < l.length) : cK (l.take (i + 1)) = cK (l.take i) + cT l[i] := by
  rw [List.take_succ_eq_append_getElem h, cK_append, cK, cK]; omega
theorem cK_take_le (l : List Tr) (i : Nat) : cK (l.take i) ≤ cK l := by
  conv => rhs; rw [← List.take_append_drop i l, cK_append]
  omega
theorem mK_get (k : Nat) (l : List Tr) (i : Nat) (h : i < (mK k l).length) : (mK k l)[i] = mT (k + cK (l.take i)) (l[i]'(by rw [mK_len] at h; exact h)) := by
  induction l generalizing k i with
  | nil => rw [mK_len] at h; simp at h
  | cons a r ih =>
    cases i with
    | zero => simp [mK, cK]
    | succ i =>
      simp only [mK, List.getElem_cons_succ, List.take_succ_cons]
      rw [ih, cK]; congr 1; omega
theorem lsz_kid {t : Tr} {l : List Tr} (h : t ∈ l) : lsz t.kids < lsz l := by
  induction l with
  | nil => cases h
  | cons a r ih =>
    rw [lsz]
    rcases List.mem_cons.1 h with rfl | h
    · obtain ⟨s, n, tx, ns, ks⟩ := t
      rw [tsz]; show lsz ks < _; omega
    · have := ih h; omega
end Go.Proofs.YtcpfelaffclalaaGreatDoor

/- The first tree of a schema, as plain data; trees gathered in a row of the call's own. Definitions and small laws; no program walked, no conditions. -/

namespace Go.Proofs.YtcpfelaffclalaaGreatDoor
open Go Go.RowKit

def c5l (c : C5) : List Value := [c.c0, c.c1, c.c2, c.c3, c.c4]

/-- Trees whose cells stand in a row, each in blocks of its own. -/
def OwnL (w : World) : List Tr → List Value → List Nat → Prop
  | [], xs, G => xs = [] ∧ G = []
  | t :: r, xs, G => ∃ c F G' xs', xs = c5l c ++ xs' ∧ G = F ++ G' ∧ Own w t c F ∧ OwnL w r xs' G'

theorem OwnL.snoc {w : World} {ks : List Tr} {xs : List Value} {G F : List Nat} {t : Tr} {c : C5} (h : OwnL w ks xs G) (ht : Own w t c F) : OwnL w (ks ++ [t]) (xs ++ c5l c) (G ++ F) := by
  induction ks generalizing xs G with
  | nil =>
    obtain ⟨rfl, rfl⟩ := h
    exact ⟨c, F, [], [], by simp, by simp, ht, rfl, rfl⟩
  | cons a r ih =>
    obtain ⟨d, F1, G', xs', rfl, rfl, h1, h2⟩ := h
    exact ⟨d, F1, G' ++ F, xs' ++ c5l c, by simp, by simp, h1, ih h2⟩

theorem OwnL.carry {w w' : World} {ks : List Tr} {xs : List Value} {G : List Nat} (h : OwnL w ks xs G) (hb : ∀ b, b ∈ G → w'.heap[b]? = w.heap[b]?) : OwnL w' ks xs G := by
  induction ks generalizing xs G with
  | nil => exact h
  | cons a r ih =>
    obtain ⟨d, F1, G', xs', rfl, rfl, h1, h2⟩ := h
    exact ⟨d, F1, G', xs', rfl, rfl, Own.carry a d F1 (fun b hb' => hb b (by simp [hb'])) h1, ih h2 (fun b hb' => hb b (by simp [hb']))⟩

theorem OwnL.ownK {w : World} {g : Nat} {ks : List Tr} {xs : List Value} {G : List Nat} {o : Nat} (h : OwnL w ks xs G) (hc : ∀ j u, xs[j]? = some u → w.cell? ⟨g, o + j, none⟩ = some u) : OwnK w g o ks G := by
  induction ks generalizing xs G o with
  | nil => rw [OwnK]; exact h.2
  | cons a r ih =>
    obtain ⟨d, F1, G', xs', rfl, rfl, h1, h2⟩ := h
    rw [OwnK]
    refine ⟨F1, G', d, rfl, ⟨hc 0 _ rfl, hc 1 _ rfl, hc 2 _ rfl, hc 3 _ rfl, hc 4 _ rfl⟩, h1, ih h2 (fun j u hj => ?_)⟩
    have := hc (5 + j) u (by
      rw [List.getElem?_append_right (by simp [c5l]), show 5 + j - (c5l d).length = j from by simp [c5l]]; exact hj)
    rw [show o + 5 + j = o + (5 + j) from by omega]; exact this

/-- What the loop has gathered: trees in a row of the call's own. -/
structure GotO (base : Nat) (w : World) (v : Value) (ks : List Tr) (xs : List Value) (G : List Nat) : Prop where
  row : w.ownsRow base 39 5 v ks.length xs
  own : OwnL w ks xs G
  nodup : G.Nodup
  lt : ∀ b, b ∈ G → base ≤ b ∧ b < w.heap.size ∧ v.ownBlock ≠ some b

theorem GotO.start (base : Nat) (w : World) : GotO base w (.slice none 0 0) [] [] [] :=
  ⟨World.ownsRow_nil _ _ _ _, ⟨rfl, rfl⟩, List.nodup_nil, fun b hb => by simp at hb⟩

/-- A world in which nothing at or beyond the base has turned that was there. -/
theorem GotO.kept {base : Nat} {w w' : World} {v : Value} {ks : List Tr} {xs : List Value} {G : List Nat} (h : GotO base w v ks xs G) (hg : w.grownBy w' none) : GotO base w' v ks xs G :=
  ⟨h.row.kept hg (by
      rcases e : v.ownBlock with _ | g
      · exact Or.inl rfl
      · exact Or.inr (by simp)), h.own.carry (fun b hb => hg.block b (h.lt b hb).2.1 (by simp)), h.nodup, fun b hb => ⟨(h.lt b hb).1, Nat.lt_of_lt_of_le (h.lt b hb).2.1 hg.size, (h.lt b hb).2.2⟩⟩

/-- One tree more: its blocks are newer than all that was gathered. -/
theorem GotO.push {base m : Nat} {w w' : World} {v v' : Value} {ks : List Tr} {xs : List Value} {G F : List Nat} {t : Tr} {c : C5} (h : GotO base w v ks xs G) (ht : Own w t c F) (hnd : F.Nodup) (hF : ∀ b, b ∈ F → m ≤ b ∧ b < w.heap.size)
    (hGm : ∀ b, b ∈ G → b < m) (hvm : ∀ b, v.ownBlock = some b → b < m) (hbm : base ≤ m)
    (hown : w'.ownsRow base 39 5 v' (ks.length + 1) (xs ++ c5l c)) (hg : w.grownBy w' v.ownBlock) (hv : v'.ownBlock = v.ownBlock ∨ ∃ g, v'.ownBlock = some g ∧ w.heap.size ≤ g) :
    GotO base w' v' (ks ++ [t]) (xs ++ c5l c) (G ++ F) := by
  have hkG : ∀ b, b ∈ G → w'.heap[b]? = w.heap[b]? := fun b hb => hg.block b (h.lt b hb).2.1 (fun e => (h.lt b hb).2.2 e.symm)
  have hkF : ∀ b, b ∈ F → w'.heap[b]? = w.heap[b]? := fun b hb => hg.block b (hF b hb).2 (fun e => by have := hvm b e.symm; have := (hF b hb).1; omega)
  refine ⟨by simpa using hown, (h.own.carry hkG).snoc (Own.carry t c F hkF ht), List.nodup_append.2 ⟨h.nodup, hnd, fun a ha b hb e => by have := hGm a ha; have := (hF b hb).1; omega⟩, fun b hb => ?_⟩
  rcases List.mem_append.1 hb with hb | hb
  · refine ⟨(h.lt b hb).1, Nat.lt_of_lt_of_le (h.lt b hb).2.1 hg.size, ?_⟩
    rcases hv with e | ⟨g, e, hge⟩
    · rw [e]; exact (h.lt b hb).2.2
    · rw [e]; intro e2; simp only [Option.some.injEq] at e2; have := (h.lt b hb).2.1; omega
  · refine ⟨by have := (hF b hb).1; omega, Nat.lt_of_lt_of_le (hF b hb).2 hg.size, ?_⟩
    rcases hv with e | ⟨g, e, hge⟩
    · rw [e]; intro e2; have := hvm b e2; have := (hF b hb).1; omega
    · rw [e]; intro e2; simp only [Option.some.injEq] at e2; have := (hF b hb).2; omega

theorem freeOfHeap {w : World} {g : Nat} {cur : Array Value} {e : TypeId} (h : w.heap[g]? = some (.cells cur e (0, 0))) : FreeB w g := fun o => by simp [World.frozen?, h]

/-- A row of strings of the call's own. -/
theorem strsOwn_of_row {base : Nat} {w : World} {v : Value} {ss : List ByteArray} (h : w.ownsRow base 9 1 v ss.length (ss.map Value.string)) (hs : ∀ x, x ∈ ss → x.size ≤ 9223372036854775807) :
    ∃ F, StrsOwn w v ss F ∧ F.Nodup ∧ (∀ b, b ∈ F → base ≤ b ∧ b < w.heap.size) ∧ ∀ b, b ∈ F → v.ownBlock = some b := by
  rcases h.2 with ⟨hv, hn0⟩ | ⟨g, cap, cur, hv, hgb, hh, hle, hm2, hsz, htk⟩
  · have hss : ss = [] := List.eq_nil_of_length_eq_zero hn0
    subst hss
    exact ⟨[], ⟨none, 0, hv, by simp, Or.inl ⟨rfl, rfl⟩⟩, List.nodup_nil, fun b hb => by simp at hb, fun b hb => by simp at hb⟩
  · refine ⟨[g], ⟨some ⟨g, 0, none⟩, cap, hv, by unfold maxLen at hm2; omega, Or.inr ⟨g, rfl, rfl, freeOfHeap hh, fun i hi => ⟨?_, hs _ (List.getElem_mem hi)⟩⟩⟩, by simp, fun b hb => ?_, fun b hb => by simp at hb; subst hb; rw [hv]; rfl⟩
    · have h1 : (ss.map Value.string)[i]? = some (.string ss[i]) := by simp [hi]
      rw [← htk, List.getElem?_take_of_lt (by omega)] at h1
      simp only [World.cell?, hh]
      simpa using h1
    · simp at hb; subst hb
      exact ⟨hgb, (Array.getElem?_eq_some_iff.1 hh).1⟩

/-- What was gathered is a slice of trees in blocks of its own. -/
theorem GotO.done {base : Nat} {w : World} {v : Value} {ks : List Tr} {xs : List Value} {G : List Nat} (h : GotO base w v ks xs G) :
    ∃ F, KidsOwn w v ks F ∧ F.Nodup ∧ (∀ b, b ∈ F → base ≤ b ∧ b < w.heap.size) ∧ ∀ b, b ∈ F → v.ownBlock = some b ∨ b ∈ G := by
  rcases h.row.2 with ⟨hv, hn0⟩ | ⟨g, cap, cur, hv, hgb, hh, hle, hm2, hsz, htk⟩
  · have hks : ks = [] := List.eq_nil_of_length_eq_zero hn0
    subst hks
    exact ⟨[], ⟨none, 0, hv, by simp, Or.inl ⟨rfl, rfl⟩⟩, List.nodup_nil, fun b hb => by simp at hb, fun b hb => by simp at hb⟩
  · have hob : v.ownBlock = some g := by rw [hv]; rfl
    refine ⟨g :: G, ⟨some ⟨g, 0, none⟩, cap, hv, by unfold maxLen at hm2; omega, Or.inr ⟨g, G, rfl, rfl, freeOfHeap hh, h.own.ownK (fun j u hj => ?_)⟩⟩, List.nodup_cons.2 ⟨fun hm => (h.lt g hm).2.2 hob, h.nodup⟩, fun b hb => ?_, fun b hb => by
        rcases List.mem_cons.1 hb with rfl | hb
        · exact Or.inl hob
        · exact Or.inr hb⟩
    · have hj' : cur.toList[j]? = some u := by
        rw [← htk] at hj
        rw [List.getElem?_take] at hj
        split at hj
        · exact hj
        · cases hj
      simp only [Nat.zero_add, World.cell?, hh]
      simpa using hj'
    · rcases List.mem_cons.1 hb with rfl | hb
      · exact ⟨hgb, (Array.getElem?_eq_some_iff.1 hh).1⟩
      · exact ⟨(h.lt b hb).1, (h.lt b hb).2.1⟩

theorem cell_five (w : World) (c : C5) (t : TypeId) : ∀ j u, (c5l c)[j]? = some u → (w.alloc (.cells #[c.c0, c.c1, c.c2, c.c3, c.c4] t)).cell? ((⟨w.heap.size, 0, none⟩ : Addr).add j) = some u := by
  intro j u hj
  have hrow := row5_alloc w c.c0 c.c1 c.c2 c.c3 c.c4 t
  rw [Addr.add_lit, Nat.zero_add]
  match j with
  | 0 => rw [hrow.cell (by omega)]; exact hj
  | 1 => rw [hrow.cell (by omega)]; exact hj
  | 2 => rw [hrow.cell (by omega)]; exact hj
  | 3 => rw [hrow.cell (by omega)]; exact hj
  | 4 => rw [hrow.cell (by omega)]; exact hj
  | j + 5 => simp [c5l] at hj

theorem Own.one {w : World} {t : Tr} {c : C5} {F : List Nat} (h : Own w t c F) : ∀ u ∈ c5l c, u.oneCell' = true := by
  obtain ⟨h0, h1, h2, -, -, -, F1, F2, -, ⟨a, cap, h3, -⟩, a2, cap2, h4, -⟩ := h.open
  intro u hu
  simp only [c5l, h0, h1, h2, h3, h4, List.mem_cons, List.not_mem_nil, or_false] at hu
  rcases hu with rfl | rfl | rfl | rfl | rfl <;> rfl
end Go.Proofs.YtcpfelaffclalaaGreatDoor

/- The walks of the library's strings.Clone and of the program's copyNames: the same bytes; the same names, in a row of the call's own. Of what was there nothing has turned. The strings have at most 2^47 bytes. -/

namespace Go.Proofs.YtcpfelaffclalaaGreatDoor
open Go Go.RowKit

set_option maxHeartbeats 400000 in
theorem clone_any (s : ByteArray) (w : World) (hlim : s.size ≤ 140737488355328) :
    Calls Tryz.prog 85 #[.string s] w fun e w' => e = .returned (.string s) ∧ Below w.heap.size w w' := by
  have hc : ∀ W, Calls Tryz.prog 112 #[.string s] W fun e w' => e = .returned (.string s) ∧ Below W.heap.size W w' := fun W => Tryz.stringslite_Clone s W (by omega)
  have HC := hide hc; clear hc
  go_enter Tryz.func85, Tryz.ntmps85
  go_wp2_with (go_at_call 112; refine (unhide HC _).mono ?_; rintro e w' ⟨rfl, hb⟩)
  go_ret
  exact ⟨rfl, hb⟩

theorem infoStrC : (Tryz.prog.info? 9).map (fun i => (i.zero, i.size, i.bytes)) = some (some (.string ByteArray.empty), 1, 16) := by kernel_rfl

set_option maxRecDepth 100000 in
set_option maxHeartbeats 800000 in
theorem copyNames_row (v : Value) (ss : List ByteArray) (w : World) {P : Nat → Prop} (hP : ∀ b, P b → b < w.heap.size) (hv : StrsAt P w v ss) (hl : ss.length ≤ 1048576) (hsz : ∀ x, x ∈ ss → x.size ≤ 1099511627776) :
    Calls Tryz.prog 90 #[v] w fun e w' => ∃ v', e = .returned v' ∧ w'.ownsRow w.heap.size 9 1 v' ss.length (ss.map Value.string) ∧ Below w.heap.size w w' := by
  obtain ⟨a, cap, rfl, hlen, hc⟩ := hv
  obtain ⟨i0, hi, hz0, hz1, hz2⟩ := info_parts infoStrC
  have HC := hide hc; have HP := hide hP; have HSZ := hide hsz
  have HII := hide hi; have HZ0 := hide hz0; have HZ1 := hide hz1; have HZ2 := hide hz2
  clear hc hP hsz hi hz0 hz1 hz2
  go_enter Tryz.func90, Tryz.ntmps90
  go_wp2_with fail
  go_loopw [3, 8] (fun s i wr => ∃ (k : Nat) (a' : Option Addr) (cap' : Nat), k ≤ ss.length ∧ i = .int .i64 k ∧ s = .slice a' k cap' ∧ Hid (wr.ownsRow w.heap.size 9 1 (.slice a' k cap') k ((ss.take k).map Value.string)) ∧ Hid (Below w.heap.size w wr)) (fun _ i _ => ss.length - (intOf i).toNat)
  case atStart => exact ⟨0, none, 0, Nat.zero_le _, rfl, rfl, World.ownsRow_nil _ _ _ _, Below.refl _ _⟩
  case round =>
    obtain ⟨k, a', cap', hk, rfl, rfl, HOWN, HB⟩ := hrel
    by_cases hlt : k < ss.length
    · obtain ⟨b, o, rfl, hpb, hcell, -⟩ := unhide HC k hlt
      have e1 : wr.cell? ⟨b, o + k, none⟩ = some (.string ss[k]) := by rw [HB.out.cell (unhide HP b hpb)]; exact hcell
      have hcl := clone_any ss[k] wr (by have := unhide HSZ _ (List.getElem_mem hlt); omega)
      have htk : (ss.take (k + 1)).map Value.string = (ss.take k).map Value.string ++ [.string ss[k]] := by
        rw [List.take_succ_eq_append_getElem hlt, List.map_append]; rfl
      generalize ss[k] = tk at *
      have HCL := hide hcl; have HTK := hide htk
      clear hcl htk hcell hpb
      go_wp2_with fail
      refine (unhide HCL).mono ?_
      rintro e w2 ⟨rfl, hb2⟩
      have hs2 := hb2.size
      have hsw := HB.out.size
      have hown2 : w2.ownsRow w.heap.size 9 1 (.slice a' k cap') k ((ss.take k).map Value.string) :=
        HOWN.out.kept (row := none) ⟨hb2.os, hb2.tape, hb2.output, hb2.size, fun i hi _ => hb2.block i hi⟩ (by
          rcases h : (Value.slice a' k cap').ownBlock with _ | g
          · exact Or.inl rfl
          · exact Or.inr (by simp))
      have HOWN2 := hide hown2; have HB2 := hide (HB.out.trans (hb2.mono hsw))
      clear hown2 hb2 HCL e1
      go_wp2_with (at_builtin; refine append_row _ rfl _ _ 22 rfl w.heap.size 9 i0 (.string ByteArray.empty) 1 16 Tryz.underlying22 (unhide HII) (unhide HZ0) (unhide HZ1) (unhide HZ2) rfl (by decide) (.slice a' k cap') k ((ss.take k).map Value.string) rfl ((unhide HOWN2).alloc _) ⟨w2.heap.size, 0, none⟩ 1 1 [.string tk] rfl rfl (cell_one _ _ _) (fun u hu => by simp at hu; subst hu; rfl) (by decide) (by unfold maxLen; omega) (by omega) (by simp; omega) ?_; intro v' w4 hown4 hgrow4 hv4)
      have hlt4 := (unhide HOWN2).lt
      obtain ⟨g', cap'', hv''⟩ : ∃ g' cap'', v' = .slice (some ⟨g', 0, none⟩) (k + 1) cap'' := by
        rcases hown4.2 with ⟨_, h⟩ | ⟨g', cap'', _, h, _⟩
        · omega
        · exact ⟨g', cap'', h⟩
      subst hv''
      have hb4 : Below w.heap.size w2 w4 := (((Below.refl _ w2).alloc (by omega) _)).trans ((Below.refl _ _).grown hgrow4 (by simp; omega) (fun k e => (hlt4 k e).1))
      have HOWN4 : Hid (w4.ownsRow w.heap.size 9 1 (.slice (some ⟨g', 0, none⟩) (k + 1) cap'') (k + 1) ((ss.take (k + 1)).map Value.string)) := by
        show World.ownsRow _ _ _ _ _ _ _
        rw [unhide HTK]; exact hown4
      have HB4 := hide ((unhide HB2).trans hb4)
      clear hown4 hgrow4 hv4 hb4 hlt4
      go_wp2_with fail
      go_roundw
      case rel => exact ⟨k + 1, some ⟨g', 0, none⟩, cap'', by omega, by go_num, rfl, HOWN4, unhide HB4⟩
      case measure => simp [intOf]; omega
    · obtain rfl : k = ss.length := by omega
      have h1 := HOWN.out
      rw [List.take_length] at h1
      have HF := hide h1
      clear h1
      go_wp2_with fail
      go_ret
      exact ⟨_, rfl, unhide HF, HB.out⟩
theorem copyNames_any (v : Value) (ss : List ByteArray) (w : World) {P : Nat → Prop} (hP : ∀ b, P b → b < w.heap.size) (hv : StrsAt P w v ss) (hl : ss.length ≤ 1048576) (hsz : ∀ x, x ∈ ss → x.size ≤ 1099511627776) :
    Calls Tryz.prog 90 #[v] w fun e w' => ∃ v' F, e = .returned v' ∧ StrsOwn w' v' ss F ∧ F.Nodup ∧ (∀ b, b ∈ F → w.heap.size ≤ b ∧ b < w'.heap.size) ∧ Below w.heap.size w w' :=
  (copyNames_row v ss w hP hv hl hsz).mono fun e w' ⟨v', h1, h2, h3⟩ => by
    obtain ⟨F, hF, hnd, hlt', -⟩ := strsOwn_of_row h2 (fun x hx => by have := hsz x hx; omega)
    exact ⟨v', F, h1, hF, hnd, hlt', h3⟩

end Go.Proofs.YtcpfelaffclalaaGreatDoor

/- The walks of the program's firstTree and of gather with it: the first tree of a schema, in blocks of its own. Of what was there nothing has turned. -/

namespace Go.Proofs.YtcpfelaffclalaaGreatDoor
open Go Go.RowKit

end Go.Proofs.YtcpfelaffclalaaGreatDoor

/- The walk of the program's gather with firstTree: the first tree of a schema all of whose parts are ok, in blocks of its own. Of what was there nothing has turned. -/

namespace Go.Proofs.YtcpfelaffclalaaGreatDoor
open Go Go.RowKit

end Go.Proofs.YtcpfelaffclalaaGreatDoor

/- What the specification's first tree has gathered: its names and kids, in rows of the call's own, and the tree's own cells. Definitions and small laws; no program walked, no conditions. -/

namespace Go.Proofs.YtcpfelaffclalaaGreatDoor
open Go Go.RowKit

theorem GotO.other {base : Nat} {w w' : World} {v : Value} {ks : List Tr} {xs : List Value} {G : List Nat} {row : Option Nat} (h : GotO base w v ks xs G) (hg : w.grownBy w' row) (hr : ∀ b, row = some b → v.ownBlock ≠ some b ∧ b ∉ G) : GotO base w' v ks xs G :=
  ⟨h.row.kept hg (by
      rcases e : v.ownBlock with _ | g
      · exact Or.inl rfl
      · exact Or.inr (fun e2 => (hr g e2.symm).1 e)), h.own.carry (fun b hb => hg.block b (h.lt b hb).2.1 (fun e => (hr b e.symm).2 hb)), h.nodup, fun b hb => ⟨(h.lt b hb).1, Nat.lt_of_lt_of_le (h.lt b hb).2.1 hg.size, (h.lt b hb).2.2⟩⟩

/-- Names and kids so far; the cells of the tree that they are put into lie in block B, below the base. -/
structure SInv (base B : Nat) (wr : World) (s : Int) (vN vK : Value) (ns : List ByteArray) (ks : List Tr) (xs : List Value) (G : List Nat) : Prop where
  hB : B < base
  cells : wr.rowIs B 39 5 (row5 (.int .i64 s) (.int .i64 0) (.string ⟨#[]⟩) vN vK)
  names : wr.ownsRow base 9 1 vN ns.length (ns.map Value.string)
  got : GotO base wr vK ks xs G
  apart : ∀ b, vN.ownBlock = some b → vK.ownBlock ≠ some b ∧ b ∉ G
  size : base ≤ wr.heap.size

theorem row5_set3 {w : World} {B : Nat} {t : TypeId} {c0 c1 c2 c3 c4 : Value} (h : w.rowIs B t 5 (row5 c0 c1 c2 c3 c4)) (v : Value) : (w.setCell ⟨B, 3, none⟩ v).rowIs B t 5 (row5 c0 c1 c2 v c4) :=
  (h.set 3 v).congr (fun i hi => by
    match i, hi with
    | 0, _ => rfl
    | 1, _ => rfl
    | 2, _ => rfl
    | 3, _ => rfl
    | 4, _ => rfl)
theorem row5_set4 {w : World} {B : Nat} {t : TypeId} {c0 c1 c2 c3 c4 : Value} (h : w.rowIs B t 5 (row5 c0 c1 c2 c3 c4)) (v : Value) : (w.setCell ⟨B, 4, none⟩ v).rowIs B t 5 (row5 c0 c1 c2 c3 v) :=
  (h.set 4 v).congr (fun i hi => by
    match i, hi with
    | 0, _ => rfl
    | 1, _ => rfl
    | 2, _ => rfl
    | 3, _ => rfl
    | 4, _ => rfl)

/-- A world in which but new blocks were laid. -/
theorem SInv.kept {base B : Nat} {w w' : World} {s : Int} {vN vK : Value} {ns : List ByteArray} {ks : List Tr} {xs : List Value} {G : List Nat} (h : SInv base B w s vN vK ns ks xs G) (hg : w.grownBy w' none) : SInv base B w' s vN vK ns ks xs G :=
  ⟨h.hB, h.cells.of_block (hg.block B h.cells.lt (by simp)), h.names.kept hg (by
      rcases e : vN.ownBlock with _ | g
      · exact Or.inl rfl
      · exact Or.inr (by simp)), h.got.kept hg, h.apart, Nat.le_trans h.size hg.size⟩

/-- A name more, put into the tree's cell. -/
theorem SInv.name {base B : Nat} {w w' : World} {s : Int} {vN vK v' : Value} {ns : List ByteArray} {ks : List Tr} {xs : List Value} {G : List Nat} {nm : ByteArray} (h : SInv base B w s vN vK ns ks xs G)
    (hown : w'.ownsRow base 9 1 v' (ns.length + 1) (ns.map Value.string ++ [.string nm])) (hg : w.grownBy w' vN.ownBlock) (hv : v'.ownBlock = vN.ownBlock ∨ ∃ g, v'.ownBlock = some g ∧ w.heap.size ≤ g) :
    SInv base B (w'.setCell ⟨B, 3, none⟩ v') s v' vK (ns ++ [nm]) ks xs G := by
  have hBn : vN.ownBlock ≠ some B := fun e => by have := (h.names.lt B e).1; have := h.hB; omega
  have hBk : vK.ownBlock ≠ some B := fun e => by have := (h.got.row.lt B e).1; have := h.hB; omega
  have hset : w'.grownBy (w'.setCell ⟨B, 3, none⟩ v') (some B) := ⟨rfl, rfl, rfl, by simp [World.setCell], fun k _ hk => Below.heap_setCell _ _ _ _ (fun e => hk (by rw [e]))⟩
  have hBv : v'.ownBlock ≠ some B := fun e => by have := (hown.lt B e).1; have := h.hB; omega
  have hgot1 := h.got.other hg (fun b e => h.apart b e)
  refine ⟨h.hB, row5_set3 (h.cells.of_block (hg.block B h.cells.lt (fun e => hBn e.symm))) v', ?_, hgot1.other hset (fun b e => by cases e; exact ⟨hBk, fun hm => by have := (h.got.lt _ hm).1; have := h.hB; omega⟩), fun b hb => ?_, by have := hg.size; have := h.size; simp [World.setCell]; omega⟩
  · have := hown.kept hset (Or.inr (fun e => hBv e))
    simpa using this
  · rcases hv with e | ⟨g, e, hge⟩
    · exact h.apart b (by rw [← e]; exact hb)
    · rw [e] at hb
      simp only [Option.some.injEq] at hb
      subst hb
      exact ⟨fun e2 => by have := (h.got.row.lt g e2).2; omega, fun hm => by have := (h.got.lt g hm).2.1; omega⟩

/-- A kid more, put into the tree's cell. -/
theorem SInv.kid {base B m : Nat} {w w' : World} {s : Int} {vN vK v' : Value} {ns : List ByteArray} {ks : List Tr} {xs : List Value} {G F : List Nat} {t : Tr} {c : C5} (h : SInv base B w s vN vK ns ks xs G)
    (ht : Own w t c F) (hnd : F.Nodup) (hF : ∀ b, b ∈ F → m ≤ b ∧ b < w.heap.size) (hGm : ∀ b, b ∈ G → b < m) (hvm : ∀ b, vK.ownBlock = some b → b < m) (hnm : ∀ b, vN.ownBlock = some b → b < m) (hbm : base ≤ m)
    (hown : w'.ownsRow base 39 5 v' (ks.length + 1) (xs ++ c5l c)) (hg : w.grownBy w' vK.ownBlock) (hv : v'.ownBlock = vK.ownBlock ∨ ∃ g, v'.ownBlock = some g ∧ w.heap.size ≤ g) :
    SInv base B (w'.setCell ⟨B, 4, none⟩ v') s vN v' ns (ks ++ [t]) (xs ++ c5l c) (G ++ F) := by
  have hBn : vN.ownBlock ≠ some B := fun e => by have := (h.names.lt B e).1; have := h.hB; omega
  have hBk : vK.ownBlock ≠ some B := fun e => by have := (h.got.row.lt B e).1; have := h.hB; omega
  have hset : w'.grownBy (w'.setCell ⟨B, 4, none⟩ v') (some B) := ⟨rfl, rfl, rfl, by simp [World.setCell], fun k _ hk => Below.heap_setCell _ _ _ _ (fun e => hk (by rw [e]))⟩
  have hBv : v'.ownBlock ≠ some B := fun e => by have := (hown.lt B e).1; have := h.hB; omega
  have hpush := GotO.push h.got ht hnd hF hGm hvm hbm hown hg hv
  refine ⟨h.hB, row5_set4 (h.cells.of_block (hg.block B h.cells.lt (fun e => hBk e.symm))) v', ?_, hpush.other hset (fun b e => by cases e; exact ⟨hBv, fun hm => by have := (hpush.lt _ hm).1; have := h.hB; omega⟩), fun b hb => ?_, by have := hg.size; have := h.size; simp [World.setCell]; omega⟩
  · refine (h.names.kept hg ?_).kept hset (Or.inr (fun e => hBn e))
    rcases e : vN.ownBlock with _ | g
    · exact Or.inl rfl
    · exact Or.inr (fun e2 => (h.apart g e).1 e2.symm)
  · have ha := h.apart b hb
    have hbw := (h.names.lt b hb).2
    refine ⟨?_, fun hm => ?_⟩
    · rcases hv with e | ⟨g, e, hge⟩
      · rw [e]; exact ha.1
      · rw [e]; intro e2; simp only [Option.some.injEq] at e2; omega
    · rcases List.mem_append.1 hm with hm | hm
      · exact ha.2 hm
      · have := (hF b hm).1; have := hnm b hb; omega

theorem SInv.atN {base B : Nat} {w w' : World} {s : Int} {vN vK : Value} {ns : List ByteArray} {ks : List Tr} {xs : List Value} {G : List Nat} (h : SInv base B w s vN vK ns ks xs G) {o : Obj} (hg : (w.alloc o).grownBy w' vN.ownBlock) : w'.rowIs B 39 5 (row5 (.int .i64 s) (.int .i64 0) (.string ⟨#[]⟩) vN vK) :=
  (h.cells.alloc o).of_block (hg.block B (h.cells.alloc o).lt (fun e => by have := (h.names.lt B e.symm).1; have := h.hB; omega))
theorem SInv.atK {base B : Nat} {w w' : World} {s : Int} {vN vK : Value} {ns : List ByteArray} {ks : List Tr} {xs : List Value} {G : List Nat} (h : SInv base B w s vN vK ns ks xs G) {o : Obj} (hg : (w.alloc o).grownBy w' vK.ownBlock) : w'.rowIs B 39 5 (row5 (.int .i64 s) (.int .i64 0) (.string ⟨#[]⟩) vN vK) :=
  (h.cells.alloc o).of_block (hg.block B (h.cells.alloc o).lt (fun e => by have := (h.got.row.lt B e.symm).1; have := h.hB; omega))

/-- What was gathered is a tree in blocks of its own. -/
theorem SInv.done {base B : Nat} {w : World} {s : Int} {vN vK : Value} {ns : List ByteArray} {ks : List Tr} {xs : List Value} {G : List Nat} (h : SInv base B w s vN vK ns ks xs G) (hs : I64 s) (hns : ∀ x, x ∈ ns → x.size ≤ 9223372036854775807) :
    ∃ F, Own w (.mk s 0 ByteArray.empty ns ks) ⟨.int .i64 s, .int .i64 0, .string ByteArray.empty, vN, vK⟩ F ∧ F.Nodup ∧ ∀ b, b ∈ F → base ≤ b ∧ b < w.heap.size := by
  obtain ⟨F2, h2, n2, l2, m2⟩ := h.got.done
  obtain ⟨F1, h1, n1, l1, m1⟩ := strsOwn_of_row h.names hns
  refine ⟨F1 ++ F2, Own.make (t := .mk s 0 ByteArray.empty ns ks) rfl rfl rfl hs (show I64 0 from ⟨by decide, by decide⟩) (by simp [Tr.text]) h1 h2, List.nodup_append.2 ⟨n1, n2, fun a ha b hb e => ?_⟩, fun b hb => ?_⟩
  · subst e
    have hap := h.apart a (m1 a ha)
    rcases m2 a hb with h3 | h3
    · exact hap.1 h3
    · exact hap.2 h3
  · rcases List.mem_append.1 hb with hb | hb
    · exact l1 b hb
    · exact l2 b hb
end Go.Proofs.YtcpfelaffclalaaGreatDoor
