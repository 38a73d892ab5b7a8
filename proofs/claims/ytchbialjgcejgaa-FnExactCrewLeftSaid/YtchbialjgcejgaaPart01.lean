/- Trees that own their memory: what blocks they lie in, each named once; what marking them makes of them. Definitions and small laws, no program. No conditions. -/
import Derived.Test.YtchbialjgcejgaaPart00
import Derived.Test.YtchbialjgcejgaaRows
import Derived.Deep.OwnRows
import Derived.Deep.RegionWith
namespace Go.Proofs.Ytchbialjgcejgaa
open Go Go.RowKit

/-- All blocks that were there, but those in F, are as they were. -/
structure Exc (F : List Nat) (w w' : World) : Prop where
  os : w'.os = w.os
  tape : w'.tape = w.tape
  output : w'.output = w.output
  size : w.heap.size ≤ w'.heap.size
  block : ∀ k, k < w.heap.size → k ∉ F → w'.heap[k]? = w.heap[k]?

theorem Exc.refl (F : List Nat) (w : World) : Exc F w w := ⟨rfl, rfl, rfl, Nat.le_refl _, fun _ _ _ => rfl⟩
theorem Exc.trans {F : List Nat} {a b c : World} (h : Exc F a b) (k : Exc F b c) : Exc F a c :=
  ⟨k.os.trans h.os, k.tape.trans h.tape, k.output.trans h.output, Nat.le_trans h.size k.size, fun i hi hn => (k.block i (Nat.lt_of_lt_of_le hi h.size) hn).trans (h.block i hi hn)⟩
theorem Exc.mono {F G : List Nat} {w w' : World} (h : Exc F w w') (hs : ∀ b, b ∈ F → b ∈ G) : Exc G w w' := ⟨h.os, h.tape, h.output, h.size, fun k hk hn => h.block k hk (fun hm => hn (hs k hm))⟩
theorem Exc.of_below {F : List Nat} {w w' : World} (h : Below w.heap.size w w') : Exc F w w' := ⟨h.os, h.tape, h.output, h.size, fun k hk _ => h.block k hk⟩
theorem Exc.set {F : List Nat} (w : World) (b o : Nat) (v : Value) (hb : b ∈ F) : Exc F w (w.setCell ⟨b, o, none⟩ v) :=
  ⟨rfl, rfl, rfl, by simp [World.setCell], fun k _ hn => Below.heap_setCell _ _ _ _ (fun e => hn (by rw [e]; exact hb))⟩
/-- Where all blocks of F are new since a world, that world is as it was. -/
theorem Exc.below {F : List Nat} {B : Nat} {w w' : World} (h : Exc F w w') (hB : B ≤ w.heap.size) (hF : ∀ b, b ∈ F → B ≤ b) : Below B w w' :=
  ⟨h.os, h.tape, h.output, h.size, fun k hk => h.block k (by omega) (fun hm => by have := hF k hm; omega)⟩

/-- No cell of a block is frozen. -/
def FreeB (w : World) (b : Nat) : Prop := ∀ o, w.frozen? ⟨b, o, none⟩ = false
theorem FreeB.of_block {w w' : World} {b : Nat} (h : FreeB w b) (e : w'.heap[b]? = w.heap[b]?) : FreeB w' b := fun o => by
  rw [World.frozen?_of_block (w := w) (a := ⟨b, o, none⟩) e]; exact h o
theorem FreeB.set {w : World} {b : Nat} (h : FreeB w b) (o : Nat) (v : Value) : FreeB (w.setCell ⟨b, o, none⟩ v) b := fun o' => by
  have := h o'
  simpa [go_sem] using this

/-- A slice of strings in a block of its own. -/
def StrsOwn (w : World) (v : Value) (ss : List ByteArray) (F : List Nat) : Prop :=
  ∃ a cap, v = .slice a ss.length cap ∧ ss.length ≤ 9223372036854775807 ∧ ((ss = [] ∧ F = []) ∨ ∃ b, a = some ⟨b, 0, none⟩ ∧ F = [b] ∧ FreeB w b ∧ ∀ i, (h : i < ss.length) → w.cell? ⟨b, i, none⟩ = some (.string ss[i]) ∧ ss[i].size ≤ 9223372036854775807)

mutual
/-- Five cells are a tree, and all that they lead to lies in the blocks F, in this order. -/
def Own (w : World) : Tr → C5 → List Nat → Prop
  | .mk s n t ns ks, c, F => c.c0 = .int .i64 s ∧ c.c1 = .int .i64 n ∧ c.c2 = .string t ∧ I64 s ∧ I64 n ∧ t.size ≤ 9223372036854775807 ∧
    ∃ F1 F2, F = F1 ++ F2 ∧ StrsOwn w c.c3 ns F1 ∧ ∃ a cap, c.c4 = .slice a ks.length cap ∧ ks.length ≤ 9223372036854775807 ∧
      ((ks = [] ∧ F2 = []) ∨ ∃ b G, a = some ⟨b, 0, none⟩ ∧ F2 = b :: G ∧ FreeB w b ∧ OwnK w b 0 ks G)
def OwnK (w : World) (b : Nat) (o : Nat) : List Tr → List Nat → Prop
  | [], F => F = []
  | t :: r, F => ∃ F1 F2 c, F = F1 ++ F2 ∧ C5.at w b o c ∧ Own w t c F1 ∧ OwnK w b (o + 5) r F2
end

/-- A slice of trees in a block of its own. -/
def KidsOwn (w : World) (v : Value) (ks : List Tr) (F : List Nat) : Prop :=
  ∃ a cap, v = .slice a ks.length cap ∧ ks.length ≤ 9223372036854775807 ∧
      ((ks = [] ∧ F = []) ∨ ∃ b G, a = some ⟨b, 0, none⟩ ∧ F = b :: G ∧ FreeB w b ∧ OwnK w b 0 ks G)

theorem Own.open {w : World} {t : Tr} {c : C5} {F : List Nat} (h : Own w t c F) :
    c.c0 = .int .i64 t.sort ∧ c.c1 = .int .i64 t.num ∧ c.c2 = .string t.text ∧ I64 t.sort ∧ I64 t.num ∧ t.text.size ≤ 9223372036854775807 ∧
    ∃ F1 F2, F = F1 ++ F2 ∧ StrsOwn w c.c3 t.names F1 ∧ KidsOwn w c.c4 t.kids F2 := by
  obtain ⟨s, n, tx, ns, ks⟩ := t
  rw [Own] at h
  exact h

theorem Own.make {w : World} {t : Tr} {c : C5} {F1 F2 : List Nat} (h0 : c.c0 = .int .i64 t.sort) (h1 : c.c1 = .int .i64 t.num) (h2 : c.c2 = .string t.text) (h3 : I64 t.sort) (h4 : I64 t.num) (h5 : t.text.size ≤ 9223372036854775807)
    (h6 : StrsOwn w c.c3 t.names F1) (h7 : KidsOwn w c.c4 t.kids F2) : Own w t c (F1 ++ F2) := by
  obtain ⟨s, n, tx, ns, ks⟩ := t
  rw [Own]
  exact ⟨h0, h1, h2, h3, h4, h5, F1, F2, rfl, h6, h7⟩

theorem StrsOwn.carry {w w' : World} {v : Value} {ss : List ByteArray} {F : List Nat} (h : StrsOwn w v ss F) (hF : ∀ b, b ∈ F → w'.heap[b]? = w.heap[b]?) : StrsOwn w' v ss F := by
  obtain ⟨a, cap, h1, h2, h3⟩ := h
  refine ⟨a, cap, h1, h2, ?_⟩
  rcases h3 with h | ⟨b, e, hf, hfr, hc⟩
  · exact Or.inl h
  · have hb := hF b (by rw [hf]; simp)
    exact Or.inr ⟨b, e, hf, hfr.of_block hb, fun i hi => ⟨by rw [World.cell?_of_block (w := w) hb]; exact (hc i hi).1, (hc i hi).2⟩⟩

mutual
theorem Own.carry {w w' : World} : ∀ (t : Tr) (c : C5) (F : List Nat), (∀ b, b ∈ F → w'.heap[b]? = w.heap[b]?) → Own w t c F → Own w' t c F
  | .mk s n t ns ks, c, F => by
    intro hF h
    rw [Own] at h ⊢
    obtain ⟨h0, h1, h2, h3, h4, h5, F1, F2, rfl, h6, a, cap, h7, h8, h9⟩ := h
    refine ⟨h0, h1, h2, h3, h4, h5, F1, F2, rfl, h6.carry (fun b hb => hF b (by simp [hb])), a, cap, h7, h8, ?_⟩
    rcases h9 with h | ⟨b, G, e, rfl, hfr, hk⟩
    · exact Or.inl h
    · have hb := hF b (by simp)
      exact Or.inr ⟨b, G, e, rfl, hfr.of_block hb, OwnK.carry b 0 ks G (fun b' hb' => hF b' (by simp [hb'])) (fun j _ _ => World.cell?_of_block (w := w) hb) hk⟩
theorem OwnK.carry {w w' : World} (b : Nat) (o : Nat) : ∀ (ks : List Tr) (F : List Nat), (∀ b, b ∈ F → w'.heap[b]? = w.heap[b]?) → (∀ j, o ≤ j → j < o + 5 * ks.length → w'.cell? ⟨b, j, none⟩ = w.cell? ⟨b, j, none⟩) → OwnK w b o ks F → OwnK w' b o ks F
  | [], F => by intro _ _ h; rw [OwnK] at h ⊢; exact h
  | t :: r, F => by
    intro hF hc h
    rw [OwnK] at h ⊢
    obtain ⟨F1, F2, c, rfl, h1, h2, h3⟩ := h
    have hl : o + 5 ≤ o + 5 * (t :: r).length := by simp [List.length_cons]; omega
    refine ⟨F1, F2, c, rfl, ?_, Own.carry t c F1 (fun b hb => hF b (by simp [hb])) h2, OwnK.carry b (o + 5) r F2 (fun b hb => hF b (by simp [hb])) (fun j h1 h2 => hc j (by omega) (by simp only [List.length_cons]; omega)) h3⟩
    obtain ⟨g0, g1, g2, g3, g4⟩ := h1
    exact ⟨by rw [hc _ (by omega) (by omega)]; exact g0, by rw [hc _ (by omega) (by omega)]; exact g1, by rw [hc _ (by omega) (by omega)]; exact g2, by rw [hc _ (by omega) (by omega)]; exact g3, by rw [hc _ (by omega) (by omega)]; exact g4⟩
end

theorem KidsOwn.carry {w w' : World} {v : Value} {ks : List Tr} {F : List Nat} (h : KidsOwn w v ks F) (hF : ∀ b, b ∈ F → w'.heap[b]? = w.heap[b]?) : KidsOwn w' v ks F := by
  obtain ⟨a, cap, h1, h2, h3⟩ := h
  refine ⟨a, cap, h1, h2, ?_⟩
  rcases h3 with h | ⟨b, G, e, rfl, hfr, hk⟩
  · exact Or.inl h
  · have hb := hF b (by simp)
    exact Or.inr ⟨b, G, e, rfl, hfr.of_block hb, OwnK.carry b 0 ks G (fun b' hb' => hF b' (by simp [hb'])) (fun j _ _ => World.cell?_of_block (w := w) hb) hk⟩

theorem OwnK.snoc {w : World} {b o : Nat} {xs : List Tr} {F G : List Nat} {t : Tr} {c : C5} (h : OwnK w b o xs F) (hc : C5.at w b (o + 5 * xs.length) c) (ht : Own w t c G) : OwnK w b o (xs ++ [t]) (F ++ G) := by
  induction xs generalizing o F with
  | nil =>
    rw [OwnK] at h
    subst h
    simp only [List.nil_append]
    rw [OwnK]
    exact ⟨G, [], c, by simp, by simpa using hc, ht, by rw [OwnK]⟩
  | cons x r ih =>
    rw [OwnK] at h
    obtain ⟨F1, F2, d, rfl, h1, h2, h3⟩ := h
    rw [List.cons_append, OwnK]
    refine ⟨F1, F2 ++ G, d, by simp, h1, h2, ih h3 ?_⟩
    rw [show o + 5 + 5 * r.length = o + 5 * (x :: r).length from by simp only [List.length_cons]; omega]
    exact hc

theorem StrsOwn.at {w : World} {v : Value} {ss : List ByteArray} {F : List Nat} (h : StrsOwn w v ss F) : StrsAt (· ∈ F) w v ss := by
  obtain ⟨a, cap, h1, h2, h3⟩ := h
  refine ⟨a, cap, h1, h2, fun i hi => ?_⟩
  rcases h3 with ⟨rfl, _⟩ | ⟨b, e, hf, hfr, hc⟩
  · simp at hi
  · exact ⟨b, 0, e, by rw [hf]; simp, by rw [Nat.zero_add]; exact (hc i hi).1, (hc i hi).2⟩

mutual
theorem Own.rep {w : World} {P : Nat → Prop} : ∀ (t : Tr) (c : C5) (F : List Nat), (∀ b, b ∈ F → P b) → Own w t c F → Rep P w t c
  | .mk s n t ns ks, c, F => by
    intro hF h
    rw [Own] at h
    obtain ⟨h0, h1, h2, h3, h4, h5, F1, F2, rfl, h6, a, cap, h7, h8, h9⟩ := h
    rw [Rep]
    refine ⟨h0, h1, h2, h3, h4, h5, h6.at.carry (fun _ _ => rfl) (fun b hb => hF b (by simp [hb])), a, cap, h7, h8, fun hk => ?_⟩
    rcases h9 with h | ⟨b, G, e, rfl, hfr, hk2⟩
    · exact absurd h.1 hk
    · exact ⟨b, 0, e, hF b (by simp), OwnK.rep b 0 ks G (fun b' hb' => hF b' (by simp [hb'])) hk2⟩
theorem OwnK.rep {w : World} {P : Nat → Prop} (b : Nat) (o : Nat) : ∀ (ks : List Tr) (F : List Nat), (∀ b, b ∈ F → P b) → OwnK w b o ks F → RepK P w b o ks
  | [], F => by intro _ _; rw [RepK]; trivial
  | t :: r, F => by
    intro hF h
    rw [OwnK] at h
    obtain ⟨F1, F2, c, rfl, h1, h2, h3⟩ := h
    rw [RepK]
    exact ⟨⟨c, h1, Own.rep t c F1 (fun b hb => hF b (by simp [hb])) h2⟩, OwnK.rep b (o + 5) r F2 (fun b hb => hF b (by simp [hb])) h3⟩
end

/-- The text of a mark: 'm' and the number. -/
def mtl (k : Nat) (o : ByteArray) : ByteArray := if _h : k = 0 then o else mtl (k / 10) (ByteArray.mk #[UInt8.ofNat (48 + k % 10)] ++ o)
termination_by k
decreasing_by omega
def mtx (k : Nat) : ByteArray := ByteArray.mk #[109] ++ mtl k ByteArray.empty

theorem mtl_size (k : Nat) (o : ByteArray) : (mtl k o).size ≤ o.size + k := by
  induction k using Nat.strongRecOn generalizing o with
  | _ k ih =>
    rw [mtl]
    split
    · omega
    · have := ih (k / 10) (by omega) (ByteArray.mk #[UInt8.ofNat (48 + k % 10)] ++ o)
      rw [ByteArray.size_append] at this
      have e : (ByteArray.mk #[UInt8.ofNat (48 + k % 10)]).size = 1 := rfl
      omega
theorem mtx_size (k : Nat) : (mtx k).size ≤ k + 1 := by
  have := mtl_size k ByteArray.empty
  rw [mtx, ByteArray.size_append]
  have e : (ByteArray.mk #[109]).size = 1 := rfl
  have e2 : ByteArray.empty.size = 0 := rfl
  omega

/-- What marking makes of strings. -/
def mS (k : Nat) : List ByteArray → List ByteArray
  | [] => []
  | _ :: r => mtx k :: mS (k + 1) r
theorem mS_len (k : Nat) (l : List ByteArray) : (mS k l).length = l.length := by
  induction l generalizing k with
  | nil => rfl
  | cons a r ih => simp [mS, ih]
theorem mS_get (k : Nat) (l : List ByteArray) (i : Nat) (h : i < (mS k l).length) : (mS k l)[i] = mtx (k + i) := by
  induction l generalizing k i with
  | nil => simp [mS] at h
  | cons a r ih =>
    cases i with
    | zero => rfl
    | succ i =>
      simp only [mS, List.getElem_cons_succ]
      rw [ih]; congr 1; omega

mutual
/-- How many marks a kid takes. -/
def cT : Tr → Nat
  | .mk _ _ _ ns ks => 3 + ns.length + cK ks
def cK : List Tr → Nat
  | [] => 0
  | t :: r => cT t + cK r
end
mutual
/-- What marking makes of a kid. -/
def mT (k : Nat) : Tr → Tr
  | .mk _ _ _ ns ks => .mk k (k + 1 : Nat) (mtx (k + 2)) (mS (k + 3) ns) (mK (k + 3 + ns.length) ks)
def mK (k : Nat) : List Tr → List Tr
  | [] => []
  | t :: r => mT k t :: mK (k + cT t) r
end
theorem cT_eq (t : Tr) : cT t = 3 + t.names.length + cK t.kids := by obtain ⟨s, n, tx, ns, ks⟩ := t; rw [cT]; rfl
theorem mT_eq (k : Nat) (t : Tr) : mT k t = .mk k (k + 1 : Nat) (mtx (k + 2)) (mS (k + 3) t.names) (mK (k + 3 + t.names.length) t.kids) := by obtain ⟨s, n, tx, ns, ks⟩ := t; rw [mT]; rfl
theorem mK_len (k : Nat) (l : List Tr) : (mK k l).length = l.length := by
  induction l generalizing k with
  | nil => rw [mK]
  | cons a r ih => rw [mK]; simp [ih]
theorem cK_append (a b : List Tr) : cK (a ++ b) = cK a + cK b := by
  induction a with
  | nil => simp [cK]
  | cons x r ih => rw [List.cons_append, cK, cK, ih]; omega
theorem mK_append (k : Nat) (a b : List Tr) : mK k (a ++ b) = mK k a ++ mK (k + cK a) b := by
  induction a generalizing k with
  | nil => simp [mK, cK]
  | cons x r ih => rw [List.cons_append, mK, mK, ih, cK]; simp [Nat.add_assoc]
theorem mK_snoc (k : Nat) (a : List Tr) (t : Tr) : mK k (a ++ [t]) = mK k a ++ [mT (k + cK a) t] := by
  rw [mK_append, mK, mK]
theorem cK_take_succ (l : List Tr) (i : Nat) (h : i < l.length) : cK (l.take (i + 1)) = cK (l.take i) + cT l[i] := by
  rw [List.take_succ_eq_append_getElem h, cK_append, cK, cK]; omega
theorem cK_take_le (l : List Tr) (i : Nat) : cK (l.take i) ≤ cK l := by
  conv => rhs; rw [← List.take_append_drop i l, cK_append]
  omega
theorem mK_get (k : Nat) (l : List Tr) (i : Nat) (h : i < (mK k l).length) : (mK k l)[i] = mT (k + cK (l.take i)) (l[i]'(by rw [mK_len] at h; exact h)) := by
  induction l generalizing k i with
  | nil => rw [mK_len] at h; simp at h
  | cons a r ih =>
    cases i with
    | zero => simp [mK, cK]
    | succ i =>
      simp only [mK, List.getElem_cons_succ, List.take_succ_cons]
      rw [ih, cK]; congr 1; omega
theorem lsz_kid {t : Tr} {l : List Tr} (h : t ∈ l) : lsz t.kids < lsz l := by
  induction l with
  | nil => cases h
  | cons a r ih =>
    rw [lsz]
    rcases List.mem_cons.1 h with rfl | h
    · obtain ⟨s, n, tx, ns, ks⟩ := t
      rw [tsz]; show lsz ks < _; omega
    · have := ih h; omega
end Go.Proofs.Ytchbialjgcejgaa

/- The shape of a schema in memory: of what kind its cells are, whatever they hold; worlds whose cells are of the same kinds. Definitions and small laws, no program. No conditions. -/

namespace Go.Proofs.Ytchbialjgcejgaa
open Go Go.RowKit

/-- Two values of one kind: numbers, strings, flags, or the same. -/
def alike (v v' : Value) : Prop := (∃ n m, v = .int .i64 n ∧ v' = .int .i64 m) ∨ (∃ s s', v = .string s ∧ v' = .string s') ∨ v' = v ∨ (∃ x y, v = .bool x ∧ v' = .bool y)
theorem alike.refl (v : Value) : alike v v := Or.inr (Or.inr (Or.inl rfl))
theorem alike.slice {a : Option Addr} {n cap : Nat} {v : Value} (h : alike (.slice a n cap) v) : v = .slice a n cap := by
  rcases h with ⟨_, _, e, _⟩ | ⟨_, _, e, _⟩ | h | ⟨_, _, e, _⟩
  · cases e
  · cases e
  · exact h
  · cases e
theorem alike.int {n : Int} {v : Value} (h : alike (.int .i64 n) v) : ∃ m, v = .int .i64 m := by
  rcases h with ⟨_, m, _, e⟩ | ⟨_, _, e, _⟩ | h | ⟨_, _, e, _⟩
  · exact ⟨m, e⟩
  · cases e
  · exact ⟨n, h⟩
  · cases e
theorem alike.str {s : ByteArray} {v : Value} (h : alike (.string s) v) : ∃ s', v = .string s' := by
  rcases h with ⟨_, m, e, _⟩ | ⟨_, s', _, e⟩ | h | ⟨_, _, e, _⟩
  · cases e
  · exact ⟨s', e⟩
  · exact ⟨s, h⟩
  · cases e
theorem alike.bool {x : Bool} {v : Value} (h : alike (.bool x) v) : ∃ y, v = .bool y := by
  rcases h with ⟨_, m, e, _⟩ | ⟨_, s', e, _⟩ | h | ⟨_, y, _, e⟩
  · cases e
  · cases e
  · exact ⟨x, h⟩
  · exact ⟨y, e⟩
theorem alike.trans {a b c : Value} (h : alike a b) (k : alike b c) : alike a c := by
  rcases h with ⟨n, m, rfl, rfl⟩ | ⟨s, s', rfl, rfl⟩ | rfl | ⟨x, y, rfl, rfl⟩
  · obtain ⟨m', rfl⟩ := k.int; exact Or.inl ⟨n, m', rfl, rfl⟩
  · obtain ⟨m', rfl⟩ := k.str; exact Or.inr (Or.inl ⟨s, m', rfl, rfl⟩)
  · exact k
  · obtain ⟨m', rfl⟩ := k.bool; exact Or.inr (Or.inr (Or.inr ⟨x, m', rfl, rfl⟩))

/-- Blocks that are not of D are as they were; cells are of the kinds of which they were; nothing has become frozen. -/
structure Like (D : Nat → Prop) (w w' : World) : Prop where
  os : w'.os = w.os
  tape : w'.tape = w.tape
  output : w'.output = w.output
  size : w.heap.size ≤ w'.heap.size
  block : ∀ k, k < w.heap.size → ¬ D k → w'.heap[k]? = w.heap[k]?
  cell : ∀ b o v, w.cell? ⟨b, o, none⟩ = some v → ∃ v', w'.cell? ⟨b, o, none⟩ = some v' ∧ alike v v'
  free : ∀ b, b < w.heap.size → FreeB w b → FreeB w' b

theorem Like.refl (D : Nat → Prop) (w : World) : Like D w w := ⟨rfl, rfl, rfl, Nat.le_refl _, fun _ _ _ => rfl, fun _ _ v h => ⟨v, h, alike.refl v⟩, fun _ _ h => h⟩
theorem Like.trans {D : Nat → Prop} {a b c : World} (h : Like D a b) (k : Like D b c) : Like D a c :=
  ⟨k.os.trans h.os, k.tape.trans h.tape, k.output.trans h.output, Nat.le_trans h.size k.size, fun i hi hn => (k.block i (Nat.lt_of_lt_of_le hi h.size) hn).trans (h.block i hi hn),
    fun p o v hv => by
      obtain ⟨v1, h1, l1⟩ := h.cell p o v hv
      obtain ⟨v2, h2, l2⟩ := k.cell p o v1 h1
      exact ⟨v2, h2, l1.trans l2⟩, fun p hp hf => k.free p (Nat.lt_of_lt_of_le hp h.size) (h.free p hp hf)⟩
theorem Like.of_below {D : Nat → Prop} {w w' : World} (h : Below w.heap.size w w') : Like D w w' :=
  ⟨h.os, h.tape, h.output, h.size, fun k hk _ => h.block k hk, fun b o v hv => ⟨v, by rw [h.cell (World.block_lt_of_cell? w _ hv)]; exact hv, alike.refl v⟩, fun b hb hf => hf.of_block (h.block b hb)⟩
theorem Like.set {D : Nat → Prop} {w : World} {b o : Nat} {v u : Value} (hb : D b) (hc : w.cell? ⟨b, o, none⟩ = some u) (hl : alike u v) : Like D w (w.setCell ⟨b, o, none⟩ v) :=
  ⟨rfl, rfl, rfl, by simp [World.setCell], fun k _ hn => Below.heap_setCell _ _ _ _ (fun e => hn (by rw [e]; exact hb)), fun b' o' v' hv' => by
    by_cases e : b' = b ∧ o' = o
    · obtain ⟨rfl, rfl⟩ := e
      rw [hc] at hv'
      cases hv'
      exact ⟨v, World.cell?_setCell_same w _ v hc, hl⟩
    · refine ⟨v', ?_, alike.refl v'⟩
      rw [World.cell?_setCell_other w _ _ v (by intro e2; cases e2; exact e ⟨rfl, rfl⟩)]; exact hv', fun b' _ hf o' => by
    have := hf o'
    rw [World.frozen?_setCell]; exact this⟩

/-- A slice of so many strings, in blocks of D of which nothing is frozen. -/
def SShp (D : Nat → Prop) (w : World) (v : Value) (n : Nat) : Prop :=
  ∃ a cap, v = .slice a n cap ∧ n ≤ 9223372036854775807 ∧ ∀ i, i < n → ∃ b o s, a = some ⟨b, o, none⟩ ∧ D b ∧ FreeB w b ∧ w.cell? ⟨b, o + i, none⟩ = some (.string s)

theorem SShp.like {D : Nat → Prop} {w w' : World} {v : Value} {n : Nat} (h : SShp D w v n) (hl : Like D w w') : SShp D w' v n := by
  obtain ⟨a, cap, h1, h2, h3⟩ := h
  refine ⟨a, cap, h1, h2, fun i hi => ?_⟩
  obtain ⟨b, o, s, e, hd, hf, hc⟩ := h3 i hi
  obtain ⟨v', hv', hlk⟩ := hl.cell _ _ _ hc
  obtain ⟨s', rfl⟩ := hlk.str
  exact ⟨b, o, s', e, hd, hl.free b (World.block_lt_of_cell? w _ hc) hf, hv'⟩

mutual
/-- Three cells are of a schema's shape. -/
def KShp (D : Nat → Prop) (w : World) : Kd → C3 → Prop
  | .mk _ ns ks, c => (∃ n, c.c0 = .int .i64 n) ∧ SShp D w c.c1 ns.length ∧
    ∃ a cap, c.c2 = .slice a ks.length cap ∧ ks.length ≤ 9223372036854775807 ∧ (ks ≠ [] → ∃ b o, a = some ⟨b, o, none⟩ ∧ D b ∧ FreeB w b ∧ KShpK D w b o ks)
def KShpK (D : Nat → Prop) (w : World) (b : Nat) (o : Nat) : List Kd → Prop
  | [] => True
  | t :: r => (∃ c, C3.at w b o c ∧ KShp D w t c) ∧ KShpK D w b (o + 3) r
end

mutual
theorem KShp.like {D : Nat → Prop} {w w' : World} (hl : Like D w w') : ∀ (t : Kd) (c c' : C3), alike c.c0 c'.c0 → alike c.c1 c'.c1 → alike c.c2 c'.c2 → KShp D w t c → KShp D w' t c'
  | .mk s ns ks, c, c' => by
    intro l0 l1 l2 h
    rw [KShp] at h ⊢
    obtain ⟨⟨n, h0⟩, h1, a, cap, h2, h3, h4⟩ := h
    rw [h0] at l0
    rw [h2] at l2
    have e1 : c'.c1 = c.c1 := by obtain ⟨a1, cap1, e, -⟩ := h1; rw [e] at l1 ⊢; exact l1.slice
    refine ⟨l0.int, by rw [e1]; exact h1.like hl, a, cap, l2.slice, h3, fun hk => ?_⟩
    obtain ⟨b, o, e, hd, hf, hr⟩ := h4 hk
    obtain ⟨k0, kr, hkk⟩ : ∃ k0 kr, ks = k0 :: kr := by
      cases ks with
      | nil => exact absurd rfl hk
      | cons x y => exact ⟨x, y, rfl⟩
    have hb : b < w.heap.size := by
      rw [hkk, KShpK] at hr
      obtain ⟨⟨c0, hat, -⟩, -⟩ := hr
      exact World.block_lt_of_cell? w _ hat.1
    exact ⟨b, o, e, hd, hl.free b hb hf, KShpK.like hl b o ks hr⟩
theorem KShpK.like {D : Nat → Prop} {w w' : World} (hl : Like D w w') (b : Nat) (o : Nat) : ∀ (ks : List Kd), KShpK D w b o ks → KShpK D w' b o ks
  | [] => by intro _; rw [KShpK]; trivial
  | t :: r => by
    intro h
    rw [KShpK] at h ⊢
    obtain ⟨⟨c, h1, h2⟩, h3⟩ := h
    obtain ⟨v0, g0, l0⟩ := hl.cell _ _ _ h1.1
    obtain ⟨v1, g1, l1⟩ := hl.cell _ _ _ h1.2.1
    obtain ⟨v2, g2, l2⟩ := hl.cell _ _ _ h1.2.2
    exact ⟨⟨⟨v0, v1, v2⟩, ⟨g0, g1, g2⟩, KShp.like hl t c ⟨v0, v1, v2⟩ l0 l1 l2 h2⟩, KShpK.like hl b (o + 3) r h3⟩
end

mutual
theorem KRep.shp {P D : Nat → Prop} {w : World} (hD : ∀ b, P b → D b ∧ FreeB w b) : ∀ (t : Kd) (c : C3), KRep P w t c → KShp D w t c
  | .mk s ns ks, c => by
    intro h
    rw [KRep] at h
    rw [KShp]
    obtain ⟨h0, -, ⟨a1, cap1, h1, h2, h3⟩, a, cap, h4, h5, h6⟩ := h
    refine ⟨⟨s, h0⟩, ⟨a1, cap1, h1, h2, fun i hi => ?_⟩, a, cap, h4, h5, fun hk => ?_⟩
    · obtain ⟨b, o, e, hp, hc, -⟩ := h3 i hi
      exact ⟨b, o, _, e, (hD b hp).1, (hD b hp).2, hc⟩
    · obtain ⟨b, o, e, hp, hr⟩ := h6 hk
      exact ⟨b, o, e, (hD b hp).1, (hD b hp).2, KRepK.shp hD b o ks hr⟩
theorem KRepK.shp {P D : Nat → Prop} {w : World} (hD : ∀ b, P b → D b ∧ FreeB w b) (b : Nat) (o : Nat) : ∀ (ks : List Kd), KRepK P w b o ks → KShpK D w b o ks
  | [] => by intro _; rw [KShpK]; trivial
  | t :: r => by
    intro h
    rw [KRepK] at h
    rw [KShpK]
    obtain ⟨⟨c, h1, h2⟩, h3⟩ := h
    exact ⟨⟨c, h1, KRep.shp hD t c h2⟩, KRepK.shp hD b (o + 3) r h3⟩
end

theorem KShpK.get {D : Nat → Prop} {w : World} {b o : Nat} {ks : List Kd} (h : KShpK D w b o ks) (i : Nat) (hi : i < ks.length) :
    ∃ c, C3.at w b (o + i * 3) c ∧ KShp D w ks[i] c := by
  induction ks generalizing o i with
  | nil => simp at hi
  | cons t r ih =>
    rw [KShpK] at h
    cases i with
    | zero => exact h.1
    | succ i =>
      obtain ⟨c, h1, h2⟩ := ih h.2 i (by simpa using hi)
      exact ⟨c, by rw [show o + (i + 1) * 3 = o + 3 + i * 3 from by omega]; exact h1, h2⟩

theorem KShp.open {D : Nat → Prop} {w : World} {t : Kd} {c : C3} (h : KShp D w t c) : (∃ n, c.c0 = .int .i64 n) ∧ SShp D w c.c1 t.names.length ∧
    ∃ a cap, c.c2 = .slice a t.kids.length cap ∧ t.kids.length ≤ 9223372036854775807 ∧ (t.kids ≠ [] → ∃ b o, a = some ⟨b, o, none⟩ ∧ D b ∧ FreeB w b ∧ KShpK D w b o t.kids) := by
  obtain ⟨s, ns, ks⟩ := t
  rw [KShp] at h
  exact h

mutual
/-- How many marks a kid takes. -/
def kcT : Kd → Nat
  | .mk _ ns ks => 1 + ns.length + kcK ks
def kcK : List Kd → Nat
  | [] => 0
  | t :: r => kcT t + kcK r
end
theorem kcT_eq (t : Kd) : kcT t = 1 + t.names.length + kcK t.kids := by obtain ⟨s, ns, ks⟩ := t; rw [kcT]; rfl
theorem kcK_take (l : List Kd) (i : Nat) (h : i < l.length) : kcK (l.take (i + 1)) = kcK (l.take i) + kcT l[i] := by
  induction l generalizing i with
  | nil => simp at h
  | cons a r ih =>
    cases i with
    | zero => simp [kcK]
    | succ i => simp only [List.take_succ_cons, kcK, List.getElem_cons_succ]; rw [ih i (by simpa using h)]; omega
theorem kcK_take_le (l : List Kd) (i : Nat) : kcK (l.take i) ≤ kcK l := by
  induction l generalizing i with
  | nil => simp [kcK]
  | cons a r ih =>
    cases i with
    | zero => simp [kcK]
    | succ i => simp only [List.take_succ_cons, kcK]; have := ih i; omega
theorem klsz_kid {t : Kd} {l : List Kd} (h : t ∈ l) : klsz t.kids < klsz l := by
  induction l with
  | nil => cases h
  | cons a r ih =>
    rw [klsz]
    rcases List.mem_cons.1 h with rfl | h
    · obtain ⟨s, ns, ks⟩ := t
      rw [ksz]; show klsz ks < _; omega
    · have := ih h; omega
end Go.Proofs.Ytchbialjgcejgaa

/- The walks of the law's own toIntS, eqIntS, markIntS. No conditions but toIntS's on how many, and that the marks count to at most 2^40. -/

namespace Go.Proofs.Ytchbialjgcejgaa
open Go Go.RowKit

theorem infoIntM : (Try.prog.info? 3).map (fun i => (i.zero, i.size, i.bytes)) = some (some (.int .i64 0), 1, 8) := by kernel_rfl
set_option maxHeartbeats 400000 in
theorem eqIntS_any (v u : Value) (ss : List Int) (w : World) {P Q : Nat → Prop} (hv : ZsAt P w v ss) (hu : ZsAt Q w u ss) (hP : ∀ b, P b → b < w.heap.size) (hQ : ∀ b, Q b → b < w.heap.size) :
    Calls Try.prog 42 #[v, u] w fun e w' => e = .returned (.bool true) ∧ Below w.heap.size w w' := by
  obtain ⟨a, cap, rfl, hlen, hc⟩ := hv
  obtain ⟨a2, cap2, rfl, -, hc2⟩ := hu
  have HC := hide hc; have HC2 := hide hc2; have HP := hide hP; have HQ := hide hQ
  clear hc hc2 hP hQ
  have hne : ((ss.length : Int) != (ss.length : Int)) = false := by simp
  go_enter Try.func42, Try.ntmps42
  go_wp2_with fail
  clear hne
  go_loopw [5] (fun i wr => ∃ (k : Nat), k ≤ ss.length ∧ i = .int .i64 k ∧ Below w.heap.size w wr) (fun i _ => ss.length - (intOf i).toNat)
  case atStart => exact ⟨0, Nat.zero_le _, rfl, Below.refl _ _⟩
  case round =>
    obtain ⟨k, hk, rfl, hb⟩ := hrel
    by_cases hlt : k < ss.length
    · obtain ⟨b, o, rfl, hpb, hcell, -⟩ := unhide HC k hlt
      obtain ⟨b2, o2, rfl, hpb2, hcell2, -⟩ := unhide HC2 k hlt
      have e1 : wr.cell? ⟨b, o + k, none⟩ = some (.int .i64 ss[k]) := by rw [hb.cell (unhide HP b hpb)]; exact hcell
      have e2 : wr.cell? ⟨b2, o2 + k, none⟩ = some (.int .i64 ss[k]) := by rw [hb.cell (unhide HQ b2 hpb2)]; exact hcell2
      have hne : (ss[k] != ss[k]) = false := by simp
      clear hcell hcell2 hpb hpb2
      go_wp2_with fail
      go_region
      go_wp2_with fail
      go_roundw
      case rel => exact ⟨k + 1, by omega, by go_num, hb.drew⟩
      case measure => simp [intOf]; omega
    · go_wp2_with fail
      go_ret
      exact ⟨rfl, hb⟩

set_option maxHeartbeats 400000 in
theorem toIntS_any (v : Value) (ss : List Int) (w : World) {P : Nat → Prop} (hP : ∀ b, P b → b < w.heap.size) (hv : ZsAt P w v ss) (h1 : ss.length ≤ 1048576) :
    Calls Try.prog 51 #[v] w fun e w' => ∃ v', e = .returned v' ∧ v' = .slice (some ⟨w.heap.size, 0, none⟩) ss.length ss.length ∧ w'.rowIs w.heap.size 3 ss.length (fun j => .int .i64 (ss.getD j 0)) ∧ ZsAt (New w w') w' v' ss ∧ Below w.heap.size w w' := by
  obtain ⟨a, cap, rfl, hlen, hc⟩ := hv
  have HC := hide hc; have HP := hide hP; clear hc hP
  have hmk := run_make_row' (P := Try.prog) 25 3 (.int .i64 0) 8 Try.underlying25 infoIntM rfl .i64 .i64 ss.length (by omega) (by omega)
  go_enter Try.func51, Try.ntmps51
  go_wp2_with fail
  clear hmk
  go_loopw [4] (fun i wr => ∃ (k : Nat), k ≤ ss.length ∧ i = .int .i64 k ∧ Hid (wr.rowIs w.heap.size 3 ss.length (fun j => .int .i64 (if j < k then ss.getD j 0 else 0))) ∧ Below w.heap.size w wr) (fun i _ => ss.length - (intOf i).toNat)
  case atStart => exact ⟨0, Nat.zero_le _, rfl, hide (by simpa using World.rowIs_made w (.int .i64 0) ss.length _), (Below.refl _ _).alloc (Nat.le_refl _) _⟩
  case round =>
    obtain ⟨k, hk, rfl, HR, hb⟩ := hrel
    by_cases hlt : k < ss.length
    · obtain ⟨b, o, rfl, hpb, hcell, hsz⟩ := unhide HC k hlt
      have hcell' : wr.cell? ⟨b, o + k, none⟩ = some (.int .i64 ss[k]) := by rw [hb.cell (unhide HP b hpb)]; exact hcell
      have hf := HR.out.frozen k
      have hcc := HR.out.cell hlt
      simp only [Nat.lt_irrefl, if_false] at hcc
      have HGD := hide (show ss.getD k 0 = ss[k] by rw [List.getD_eq_getElem?_getD, List.getElem?_eq_getElem hlt]; rfl)
      clear hcell hpb hsz
      generalize ss[k] = x at *
      go_wp2_with fail
      go_roundw
      case rel =>
        refine ⟨k + 1, by omega, by go_num, ?_, hb.setCell (Nat.le_refl _) _⟩
        refine (HR.out.set k _).congr fun i hi => ?_
        by_cases e : i = k
        · subst e; simp only [if_true]; rw [if_pos (by omega), unhide HGD]
        · simp only [if_neg e]
          by_cases e2 : i < k
          · rw [if_pos e2, if_pos (by omega)]
          · rw [if_neg e2, if_neg (by omega)]
      case measure => simp [intOf]; omega
    · go_wp2_with fail
      go_ret
      obtain rfl : k = ss.length := by omega
      have hrow : wr.rowIs w.heap.size 3 ss.length (fun j => .int .i64 (ss.getD j 0)) := HR.out.congr (fun i hi => by rw [if_pos hi])
      refine ⟨_, rfl, rfl, hrow, ⟨_, _, rfl, by omega, fun i hi => ⟨w.heap.size, 0, rfl, ⟨Nat.le_refl _, hrow.lt⟩, ?_, ?_⟩⟩, hb⟩
      · rw [Nat.zero_add, hrow.cell hi, List.getD_eq_getElem?_getD, List.getElem?_eq_getElem hi]; rfl
      · obtain ⟨_, _, _, _, _, h⟩ := unhide HC i hi; exact h

/-- A slice of so many numbers, in blocks of D of which nothing is frozen. -/
def ZShp (D : Nat → Prop) (w : World) (v : Value) (n : Nat) : Prop :=
  ∃ a cap, v = .slice a n cap ∧ n ≤ 9223372036854775807 ∧ ∀ i, i < n → ∃ b o s, a = some ⟨b, o, none⟩ ∧ D b ∧ FreeB w b ∧ w.cell? ⟨b, o + i, none⟩ = some (.int .i64 s)
theorem ZShp.like {D : Nat → Prop} {w w' : World} {v : Value} {n : Nat} (h : ZShp D w v n) (hl : Like D w w') : ZShp D w' v n := by
  obtain ⟨a, cap, h1, h2, h3⟩ := h
  refine ⟨a, cap, h1, h2, fun i hi => ?_⟩
  obtain ⟨b, o, s, e, hd, hf, hc⟩ := h3 i hi
  obtain ⟨v', hv', hlk⟩ := hl.cell _ _ _ hc
  obtain ⟨s', rfl⟩ := hlk.int
  exact ⟨b, o, s', e, hd, hl.free b (World.block_lt_of_cell? w _ hc) hf, hv'⟩
set_option maxHeartbeats 400000 in
theorem markIntS_shp (D : Nat → Prop) (v : Value) (n : Nat) (k : Nat) (w : World) (hv : ZShp D w v n) (hk : k + n ≤ 1099511627776) :
    Calls Try.prog 44 #[v, .int .i64 k] w fun e w' => e = .returned (.int .i64 (k + n : Nat)) ∧ Like D w w' := by
  have HV := hide hv
  obtain ⟨a, cap, rfl, hlen, -⟩ := hv
  go_enter Try.func44, Try.ntmps44
  go_wp2_with fail
  go_loopw [1, 5] (fun kk i wr => ∃ (j : Nat), j ≤ n ∧ kk = .int .i64 (k + j : Nat) ∧ i = .int .i64 j ∧ Hid (Like D w wr)) (fun _ i _ => n - (intOf i).toNat)
  case atStart => exact ⟨0, Nat.zero_le _, rfl, rfl, Like.refl _ _⟩
  case round =>
    obtain ⟨j, hj, rfl, rfl, HL⟩ := hrel
    by_cases hlt : j < n
    · have hs := (unhide HV).like HL.out
      obtain ⟨a', cap', e, -, hc⟩ := hs
      cases e
      obtain ⟨b, o, s, rfl, hd, hf, hcell⟩ := hc j hlt
      have z0 := hf (o + j)
      have HC := hide hcell; have HD := hide hd
      clear hf hd hc
      go_wp2_with fail
      go_roundw
      case rel =>
        refine ⟨j + 1, by omega, by go_num, by go_num, ?_⟩
        exact HL.out.trans (Like.set (unhide HD) (unhide HC) (Or.inl ⟨_, _, rfl, rfl⟩))
      case measure => simp [intOf]; omega
    · go_wp2_with fail
      go_ret
      obtain rfl : j = n := by omega
      exact ⟨rfl, HL.out⟩
end Go.Proofs.Ytchbialjgcejgaa

/- What a disk is as plain data, its weight, and how it lies in memory: definitions and small laws, no program. No conditions. -/

namespace Go.Proofs.Ytchbialjgcejgaa
open Go Go.RowKit

/-- Rows of n cells each, one behind the other, behind a slice: each row's cells are as told. -/
def FlatAt (P : Nat → Prop) (w : World) (v : Value) (n : Nat) (rs : List (List Value)) : Prop :=
  ∃ a cap, v = .slice a rs.length cap ∧ rs.length ≤ 9223372036854775807 ∧
    ∀ i, (h : i < rs.length) → ∃ b o, a = some ⟨b, o, none⟩ ∧ P b ∧ ∀ j, j < n → w.cell? ⟨b, o + i * n + j, none⟩ = some (rs[i].getD j undef)
theorem FlatAt.carry {P Q : Nat → Prop} {w w' : World} {v : Value} {n : Nat} {rs : List (List Value)} (h : FlatAt P w v n rs) (hP : ∀ b, P b → w'.heap[b]? = w.heap[b]?) (hQ : ∀ b, P b → Q b) : FlatAt Q w' v n rs := by
  obtain ⟨a, cap, h1, h2, h3⟩ := h
  refine ⟨a, cap, h1, h2, fun i hi => ?_⟩
  obtain ⟨b, o, e, hb, hc⟩ := h3 i hi
  exact ⟨b, o, e, hQ b hb, fun j hj => by rw [World.cell?_of_block (w := w) (hP b hb)]; exact hc j hj⟩
/-- A row that the program has laid is such. -/
theorem FlatAt.of_row {P : Nat → Prop} {w : World} {g t n m : Nat} {f : Nat → Value} {rs : List (List Value)} (hrow : w.rowIs g t (m * n) f) (hm : m = rs.length) (hb : m ≤ 9223372036854775807) (hP : P g) (hf : ∀ i, (h : i < rs.length) → ∀ j, j < n → f (i * n + j) = rs[i].getD j undef) :
    FlatAt P w (.slice (some ⟨g, 0, none⟩) m m) n rs := by
  subst hm
  refine ⟨_, _, rfl, hb, fun i hi => ⟨g, 0, rfl, hP, fun j hj => ?_⟩⟩
  have hlt : i * n + j < rs.length * n := by
    have : (i + 1) * n ≤ rs.length * n := Nat.mul_le_mul_right n hi
    rw [Nat.add_mul, Nat.one_mul] at this
    omega
  rw [Nat.zero_add, hrow.cell hlt, hf i hi j hj]

/-- A file, a move, a disk as plain data. -/
structure Df where
  (name data : ByteArray) (kept : Int)
structure Dm where
  (gone : Bool) (name : ByteArray)
structure Dk where
  (files : List Df) (names : List ByteArray) (moves : List Dm)
def Df.cs (f : Df) : List Value := [.string f.name, .string f.data, .int .i64 f.kept]
def Dm.cs (m : Dm) : List Value := [.bool m.gone, .string m.name]
def Df.okM (f : Df) : Prop := f.name.size ≤ 9223372036854775807 ∧ f.data.size ≤ 9223372036854775807 ∧ I64 f.kept
def Dm.okM (m : Dm) : Prop := m.name.size ≤ 9223372036854775807

/-- Files lie in memory. -/
def FsAt (P : Nat → Prop) (w : World) (v : Value) (fs : List Df) : Prop := FlatAt P w v 3 (fs.map Df.cs) ∧ ∀ f, f ∈ fs → f.okM
/-- Moves lie in memory. -/
def MsAt (P : Nat → Prop) (w : World) (v : Value) (ms : List Dm) : Prop := FlatAt P w v 2 (ms.map Dm.cs) ∧ ∀ m, m ∈ ms → m.okM
theorem FsAt.carry {P Q : Nat → Prop} {w w' : World} {v : Value} {fs : List Df} (h : FsAt P w v fs) (hP : ∀ b, P b → w'.heap[b]? = w.heap[b]?) (hQ : ∀ b, P b → Q b) : FsAt Q w' v fs := ⟨h.1.carry hP hQ, h.2⟩
theorem MsAt.carry {P Q : Nat → Prop} {w w' : World} {v : Value} {ms : List Dm} (h : MsAt P w v ms) (hP : ∀ b, P b → w'.heap[b]? = w.heap[b]?) (hQ : ∀ b, P b → Q b) : MsAt Q w' v ms := ⟨h.1.carry hP hQ, h.2⟩
theorem FsAt.open {P : Nat → Prop} {w : World} {v : Value} {fs : List Df} (h : FsAt P w v fs) : ∃ a cap, v = .slice a fs.length cap ∧ fs.length ≤ 9223372036854775807 ∧
    ∀ i, (hi : i < fs.length) → ∃ b o, a = some ⟨b, o, none⟩ ∧ P b ∧ C3.at w b (o + i * 3) ⟨.string fs[i].name, .string fs[i].data, .int .i64 fs[i].kept⟩ ∧ fs[i].okM := by
  obtain ⟨⟨a, cap, h1, h2, h3⟩, h4⟩ := h
  rw [List.length_map] at h1 h2
  refine ⟨a, cap, h1, h2, fun i hi => ?_⟩
  obtain ⟨b, o, e, hb, hc⟩ := h3 i (by rw [List.length_map]; exact hi)
  have c0 := hc 0 (by omega); have c1 := hc 1 (by omega); have c2 := hc 2 (by omega)
  simp only [List.getElem_map, Df.cs, Nat.add_zero, List.getD_cons_zero, List.getD_cons_succ] at c0 c1 c2
  exact ⟨b, o, e, hb, ⟨c0, c1, c2⟩, h4 _ (List.getElem_mem hi)⟩
theorem MsAt.open {P : Nat → Prop} {w : World} {v : Value} {ms : List Dm} (h : MsAt P w v ms) : ∃ a cap, v = .slice a ms.length cap ∧ ms.length ≤ 9223372036854775807 ∧
    ∀ i, (hi : i < ms.length) → ∃ b o, a = some ⟨b, o, none⟩ ∧ P b ∧ w.cell? ⟨b, o + i * 2, none⟩ = some (.bool ms[i].gone) ∧ w.cell? ⟨b, o + i * 2 + 1, none⟩ = some (.string ms[i].name) ∧ ms[i].okM := by
  obtain ⟨⟨a, cap, h1, h2, h3⟩, h4⟩ := h
  rw [List.length_map] at h1 h2
  refine ⟨a, cap, h1, h2, fun i hi => ?_⟩
  obtain ⟨b, o, e, hb, hc⟩ := h3 i (by rw [List.length_map]; exact hi)
  have c0 := hc 0 (by omega); have c1 := hc 1 (by omega)
  simp only [List.getElem_map, Dm.cs, Nat.add_zero, List.getD_cons_zero, List.getD_cons_succ] at c0 c1
  exact ⟨b, o, e, hb, c0, c1, h4 _ (List.getElem_mem hi)⟩

/-- Three cells are a disk. -/
structure DkAt (P : Nat → Prop) (w : World) (d : Dk) (c : C3) : Prop where
  fs : FsAt P w c.c0 d.files
  ns : StrsAt P w c.c1 d.names
  ms : MsAt P w c.c2 d.moves
theorem DkAt.carry {P Q : Nat → Prop} {w w' : World} {d : Dk} {c : C3} (h : DkAt P w d c) (hP : ∀ b, P b → w'.heap[b]? = w.heap[b]?) (hQ : ∀ b, P b → Q b) : DkAt Q w' d c := ⟨h.fs.carry hP hQ, h.ns.carry hP hQ, h.ms.carry hP hQ⟩

/-- What the law's szDisk counts. -/
def wF : List Df → Nat
  | [] => 0
  | f :: r => f.name.size + f.data.size + 1 + wF r
def wM : List Dm → Nat
  | [] => 0
  | m :: r => m.name.size + 1 + wM r
def wDk (d : Dk) : Nat := wF d.files + wS d.names + wM d.moves
theorem wF_take (l : List Df) (k : Nat) (h : k < l.length) : wF (l.take (k + 1)) = wF (l.take k) + l[k].name.size + l[k].data.size + 1 := by
  induction l generalizing k with
  | nil => simp at h
  | cons a r ih =>
    cases k with
    | zero => simp [wF]
    | succ k => simp only [List.take_succ_cons, wF, List.getElem_cons_succ]; rw [ih k (by simpa using h)]; omega
theorem wM_take (l : List Dm) (k : Nat) (h : k < l.length) : wM (l.take (k + 1)) = wM (l.take k) + l[k].name.size + 1 := by
  induction l generalizing k with
  | nil => simp at h
  | cons a r ih =>
    cases k with
    | zero => simp [wM]
    | succ k => simp only [List.take_succ_cons, wM, List.getElem_cons_succ]; rw [ih k (by simpa using h)]; omega
theorem wF_len (l : List Df) : l.length ≤ wF l := by
  induction l with
  | nil => simp
  | cons a r ih => rw [wF, List.length_cons]; omega
theorem wM_len (l : List Dm) : l.length ≤ wM l := by
  induction l with
  | nil => simp
  | cons a r ih => rw [wM, List.length_cons]; omega
end Go.Proofs.Ytchbialjgcejgaa
