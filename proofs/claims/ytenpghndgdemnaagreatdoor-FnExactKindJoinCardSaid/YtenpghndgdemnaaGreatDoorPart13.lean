/- Schemas that own their memory: what blocks they lie in, each named once; schemas gathered in a row of the call's own. Definitions and small laws; no program walked, no conditions. -/
import Derived.Test.YtenpghndgdemnaaGreatDoorPart02
import Derived.Test.YtenpghndgdemnaaGreatDoorPart12
import Derived.Deep.RegionWith
namespace Go.Proofs.YtenpghndgdemnaaGreatDoor
open Go Go.RowKit

mutual
/-- Three cells are a schema, and all that they lead to lies in the blocks F, in this order. -/
def OwnD (w : World) : Kd → C3 → List Nat → Prop
  | .mk s ns ks, c, F => c.c0 = .int .i64 s ∧ I64 s ∧
    ∃ F1 F2, F = F1 ++ F2 ∧ StrsOwn w c.c1 ns F1 ∧ ∃ a cap, c.c2 = .slice a ks.length cap ∧ ks.length ≤ 9223372036854775807 ∧
      ((ks = [] ∧ F2 = []) ∨ ∃ b G, a = some ⟨b, 0, none⟩ ∧ F2 = b :: G ∧ FreeB w b ∧ OwnDK w b 0 ks G)
def OwnDK (w : World) (b : Nat) (o : Nat) : List Kd → List Nat → Prop
  | [], F => F = []
  | t :: r, F => ∃ F1 F2 c, F = F1 ++ F2 ∧ C3.at w b o c ∧ OwnD w t c F1 ∧ OwnDK w b (o + 3) r F2
end

/-- A slice of schemas in a block of its own. -/
def KidsD (w : World) (v : Value) (ks : List Kd) (F : List Nat) : Prop :=
  ∃ a cap, v = .slice a ks.length cap ∧ ks.length ≤ 9223372036854775807 ∧
      ((ks = [] ∧ F = []) ∨ ∃ b G, a = some ⟨b, 0, none⟩ ∧ F = b :: G ∧ FreeB w b ∧ OwnDK w b 0 ks G)

theorem OwnD.open {w : World} {t : Kd} {c : C3} {F : List Nat} (h : OwnD w t c F) :
    c.c0 = .int .i64 t.sort ∧ I64 t.sort ∧ ∃ F1 F2, F = F1 ++ F2 ∧ StrsOwn w c.c1 t.names F1 ∧ KidsD w c.c2 t.kids F2 := by
  obtain ⟨s, ns, ks⟩ := t
  rw [OwnD] at h
  exact h

theorem OwnD.make {w : World} {t : Kd} {c : C3} {F1 F2 : List Nat} (h0 : c.c0 = .int .i64 t.sort) (h3 : I64 t.sort) (h6 : StrsOwn w c.c1 t.names F1) (h7 : KidsD w c.c2 t.kids F2) : OwnD w t c (F1 ++ F2) := by
  obtain ⟨s, ns, ks⟩ := t
  rw [OwnD]
  exact ⟨h0, h3, F1, F2, rfl, h6, h7⟩

mutual
theorem OwnD.carry {w w' : World} : ∀ (t : Kd) (c : C3) (F : List Nat), (∀ b, b ∈ F → w'.heap[b]? = w.heap[b]?) → OwnD w t c F → OwnD w' t c F
  | .mk s ns ks, c, F => by
    intro hF h
    rw [OwnD] at h ⊢
    obtain ⟨h0, h3, F1, F2, rfl, h6, a, cap, h7, h8, h9⟩ := h
    refine ⟨h0, h3, F1, F2, rfl, h6.carry (fun b hb => hF b (by simp [hb])), a, cap, h7, h8, ?_⟩
    rcases h9 with h | ⟨b, G, e, rfl, hfr, hk⟩
    · exact Or.inl h
    · have hb := hF b (by simp)
      exact Or.inr ⟨b, G, e, rfl, hfr.of_block hb, OwnDK.carry b 0 ks G (fun b' hb' => hF b' (by simp [hb'])) (fun j _ _ => World.cell?_of_block (w := w) hb) hk⟩
theorem OwnDK.carry {w w' : World} (b : Nat) (o : Nat) : ∀ (ks : List Kd) (F : List Nat), (∀ b, b ∈ F → w'.heap[b]? = w.heap[b]?) → (∀ j, o ≤ j → j < o + 3 * ks.length → w'.cell? ⟨b, j, none⟩ = w.cell? ⟨b, j, none⟩) → OwnDK w b o ks F → OwnDK w' b o ks F
  | [], F => by intro _ _ h; rw [OwnDK] at h ⊢; exact h
  | t :: r, F => by
    intro hF hc h
    rw [OwnDK] at h ⊢
    obtain ⟨F1, F2, c, rfl, h1, h2, h3⟩ := h
    have hl : o + 3 ≤ o + 3 * (t :: r).length := by simp [List.length_cons]; omega
    refine ⟨F1, F2, c, rfl, ?_, OwnD.carry t c F1 (fun b hb => hF b (by simp [hb])) h2, OwnDK.carry b (o + 3) r F2 (fun b hb => hF b (by simp [hb])) (fun j h1 h2 => hc j (by omega) (by simp only [List.length_cons]; omega)) h3⟩
    obtain ⟨g0, g1, g2⟩ := h1
    exact ⟨by rw [hc _ (by omega) (by omega)]; exact g0, by rw [hc _ (by omega) (by omega)]; exact g1, by rw [hc _ (by omega) (by omega)]; exact g2⟩
end

theorem KidsD.carry {w w' : World} {v : Value} {ks : List Kd} {F : List Nat} (h : KidsD w v ks F) (hF : ∀ b, b ∈ F → w'.heap[b]? = w.heap[b]?) : KidsD w' v ks F := by
  obtain ⟨a, cap, h1, h2, h3⟩ := h
  refine ⟨a, cap, h1, h2, ?_⟩
  rcases h3 with h | ⟨b, G, e, rfl, hfr, hk⟩
  · exact Or.inl h
  · have hb := hF b (by simp)
    exact Or.inr ⟨b, G, e, rfl, hfr.of_block hb, OwnDK.carry b 0 ks G (fun b' hb' => hF b' (by simp [hb'])) (fun j _ _ => World.cell?_of_block (w := w) hb) hk⟩

mutual
theorem OwnD.rep {w : World} {P : Nat → Prop} : ∀ (t : Kd) (c : C3) (F : List Nat), (∀ b, b ∈ F → P b) → OwnD w t c F → KRep P w t c
  | .mk s ns ks, c, F => by
    intro hF h
    rw [OwnD] at h
    obtain ⟨h0, h3, F1, F2, rfl, h6, a, cap, h7, h8, h9⟩ := h
    rw [KRep]
    refine ⟨h0, h3, h6.at.carry (fun _ _ => rfl) (fun b hb => hF b (by simp [hb])), a, cap, h7, h8, fun hk => ?_⟩
    rcases h9 with h | ⟨b, G, e, rfl, hfr, hk2⟩
    · exact absurd h.1 hk
    · exact ⟨b, 0, e, hF b (by simp), OwnDK.rep b 0 ks G (fun b' hb' => hF b' (by simp [hb'])) hk2⟩
theorem OwnDK.rep {w : World} {P : Nat → Prop} (b : Nat) (o : Nat) : ∀ (ks : List Kd) (F : List Nat), (∀ b, b ∈ F → P b) → OwnDK w b o ks F → KRepK P w b o ks
  | [], F => by intro _ _; rw [KRepK]; trivial
  | t :: r, F => by
    intro hF h
    rw [OwnDK] at h
    obtain ⟨F1, F2, c, rfl, h1, h2, h3⟩ := h
    rw [KRepK]
    exact ⟨⟨c, h1, OwnD.rep t c F1 (fun b hb => hF b (by simp [hb])) h2⟩, OwnDK.rep b (o + 3) r F2 (fun b hb => hF b (by simp [hb])) h3⟩
end

def c3l (c : C3) : List Value := [c.c0, c.c1, c.c2]

/-- Schemas whose cells stand in a row, each in blocks of its own. -/
def OwnLD (w : World) : List Kd → List Value → List Nat → Prop
  | [], xs, G => xs = [] ∧ G = []
  | t :: r, xs, G => ∃ c F G' xs', xs = c3l c ++ xs' ∧ G = F ++ G' ∧ OwnD w t c F ∧ OwnLD w r xs' G'

theorem OwnLD.snoc {w : World} {ks : List Kd} {xs : List Value} {G F : List Nat} {t : Kd} {c : C3} (h : OwnLD w ks xs G) (ht : OwnD w t c F) : OwnLD w (ks ++ [t]) (xs ++ c3l c) (G ++ F) := by
  induction ks generalizing xs G with
  | nil =>
    obtain ⟨rfl, rfl⟩ := h
    exact ⟨c, F, [], [], by simp, by simp, ht, rfl, rfl⟩
  | cons a r ih =>
    obtain ⟨d, F1, G', xs', rfl, rfl, h1, h2⟩ := h
    exact ⟨d, F1, G' ++ F, xs' ++ c3l c, by simp, by simp, h1, ih h2⟩

theorem OwnLD.carry {w w' : World} {ks : List Kd} {xs : List Value} {G : List Nat} (h : OwnLD w ks xs G) (hb : ∀ b, b ∈ G → w'.heap[b]? = w.heap[b]?) : OwnLD w' ks xs G := by
  induction ks generalizing xs G with
  | nil => exact h
  | cons a r ih =>
    obtain ⟨d, F1, G', xs', rfl, rfl, h1, h2⟩ := h
    exact ⟨d, F1, G', xs', rfl, rfl, OwnD.carry a d F1 (fun b hb' => hb b (by simp [hb'])) h1, ih h2 (fun b hb' => hb b (by simp [hb']))⟩

theorem OwnLD.ownK {w : World} {g : Nat} {ks : List Kd} {xs : List Value} {G : List Nat} {o : Nat} (h : OwnLD w ks xs G) (hc : ∀ j u, xs[j]? = some u → w.cell? ⟨g, o + j, none⟩ = some u) : OwnDK w g o ks G := by
  induction ks generalizing xs G o with
  | nil => rw [OwnDK]; exact h.2
  | cons a r ih =>
    obtain ⟨d, F1, G', xs', rfl, rfl, h1, h2⟩ := h
    rw [OwnDK]
    refine ⟨F1, G', d, rfl, ⟨hc 0 _ rfl, hc 1 _ rfl, hc 2 _ rfl⟩, h1, ih h2 (fun j u hj => ?_)⟩
    have := hc (3 + j) u (by
      rw [List.getElem?_append_right (by simp [c3l]), show 3 + j - (c3l d).length = j from by simp [c3l]]; exact hj)
    rw [show o + 3 + j = o + (3 + j) from by omega]; exact this

/-- What the loop has gathered: schemas in a row of the call's own. -/
structure GotD (base : Nat) (w : World) (v : Value) (ks : List Kd) (xs : List Value) (G : List Nat) : Prop where
  row : w.ownsRow base 26 3 v ks.length xs
  own : OwnLD w ks xs G
  nodup : G.Nodup
  lt : ∀ b, b ∈ G → base ≤ b ∧ b < w.heap.size ∧ v.ownBlock ≠ some b

theorem GotD.start (base : Nat) (w : World) : GotD base w (.slice none 0 0) [] [] [] :=
  ⟨World.ownsRow_nil _ _ _ _, ⟨rfl, rfl⟩, List.nodup_nil, fun b hb => by simp at hb⟩

theorem GotD.other {base : Nat} {w w' : World} {v : Value} {ks : List Kd} {xs : List Value} {G : List Nat} {row : Option Nat} (h : GotD base w v ks xs G) (hg : w.grownBy w' row) (hr : ∀ b, row = some b → v.ownBlock ≠ some b ∧ b ∉ G) : GotD base w' v ks xs G :=
  ⟨h.row.kept hg (by
      rcases e : v.ownBlock with _ | g
      · exact Or.inl rfl
      · exact Or.inr (fun e2 => (hr g e2.symm).1 e)), h.own.carry (fun b hb => hg.block b (h.lt b hb).2.1 (fun e => (hr b e.symm).2 hb)), h.nodup, fun b hb => ⟨(h.lt b hb).1, Nat.lt_of_lt_of_le (h.lt b hb).2.1 hg.size, (h.lt b hb).2.2⟩⟩

/-- One schema more: its blocks are newer than all that was gathered. -/
theorem GotD.push {base m : Nat} {w w' : World} {v v' : Value} {ks : List Kd} {xs : List Value} {G F : List Nat} {t : Kd} {c : C3} (h : GotD base w v ks xs G) (ht : OwnD w t c F) (hnd : F.Nodup) (hF : ∀ b, b ∈ F → m ≤ b ∧ b < w.heap.size)
    (hGm : ∀ b, b ∈ G → b < m) (hvm : ∀ b, v.ownBlock = some b → b < m) (hbm : base ≤ m)
    (hown : w'.ownsRow base 26 3 v' (ks.length + 1) (xs ++ c3l c)) (hg : w.grownBy w' v.ownBlock) (hv : v'.ownBlock = v.ownBlock ∨ ∃ g, v'.ownBlock = some g ∧ w.heap.size ≤ g) :
    GotD base w' v' (ks ++ [t]) (xs ++ c3l c) (G ++ F) := by
  have hkG : ∀ b, b ∈ G → w'.heap[b]? = w.heap[b]? := fun b hb => hg.block b (h.lt b hb).2.1 (fun e => (h.lt b hb).2.2 e.symm)
  have hkF : ∀ b, b ∈ F → w'.heap[b]? = w.heap[b]? := fun b hb => hg.block b (hF b hb).2 (fun e => by have := hvm b e.symm; have := (hF b hb).1; omega)
  refine ⟨by simpa using hown, (h.own.carry hkG).snoc (OwnD.carry t c F hkF ht), List.nodup_append.2 ⟨h.nodup, hnd, fun a ha b hb e => by have := hGm a ha; have := (hF b hb).1; omega⟩, fun b hb => ?_⟩
  rcases List.mem_append.1 hb with hb | hb
  · refine ⟨(h.lt b hb).1, Nat.lt_of_lt_of_le (h.lt b hb).2.1 hg.size, ?_⟩
    rcases hv with e | ⟨g, e, hge⟩
    · rw [e]; exact (h.lt b hb).2.2
    · rw [e]; intro e2; simp only [Option.some.injEq] at e2; have := (h.lt b hb).2.1; omega
  · refine ⟨by have := (hF b hb).1; omega, Nat.lt_of_lt_of_le (hF b hb).2 hg.size, ?_⟩
    rcases hv with e | ⟨g, e, hge⟩
    · rw [e]; intro e2; have := hvm b e2; have := (hF b hb).1; omega
    · rw [e]; intro e2; simp only [Option.some.injEq] at e2; have := (hF b hb).2; omega

/-- What was gathered is a slice of schemas in blocks of its own. -/
theorem GotD.done {base : Nat} {w : World} {v : Value} {ks : List Kd} {xs : List Value} {G : List Nat} (h : GotD base w v ks xs G) :
    ∃ F, KidsD w v ks F ∧ F.Nodup ∧ (∀ b, b ∈ F → base ≤ b ∧ b < w.heap.size) ∧ ∀ b, b ∈ F → v.ownBlock = some b ∨ b ∈ G := by
  rcases h.row.2 with ⟨hv, hn0⟩ | ⟨g, cap, cur, hv, hgb, hh, hle, hm2, hsz, htk⟩
  · have hks : ks = [] := List.eq_nil_of_length_eq_zero hn0
    subst hks
    exact ⟨[], ⟨none, 0, hv, by simp, Or.inl ⟨rfl, rfl⟩⟩, List.nodup_nil, fun b hb => by simp at hb, fun b hb => by simp at hb⟩
  · have hob : v.ownBlock = some g := by rw [hv]; rfl
    refine ⟨g :: G, ⟨some ⟨g, 0, none⟩, cap, hv, by unfold maxLen at hm2; omega, Or.inr ⟨g, G, rfl, rfl, freeOfHeap hh, h.own.ownK (fun j u hj => ?_)⟩⟩, List.nodup_cons.2 ⟨fun hm => (h.lt g hm).2.2 hob, h.nodup⟩, fun b hb => ?_, fun b hb => by
        rcases List.mem_cons.1 hb with rfl | hb
        · exact Or.inl hob
        · exact Or.inr hb⟩
    · have hj' : cur.toList[j]? = some u := by
        rw [← htk] at hj
        rw [List.getElem?_take] at hj
        split at hj
        · exact hj
        · cases hj
      simp only [Nat.zero_add, World.cell?, hh]
      simpa using hj'
    · rcases List.mem_cons.1 hb with rfl | hb
      · exact ⟨hgb, (Array.getElem?_eq_some_iff.1 hh).1⟩
      · exact ⟨(h.lt b hb).1, (h.lt b hb).2.1⟩

theorem cell_three (w : World) (c : C3) (t : TypeId) : ∀ j u, (c3l c)[j]? = some u → (w.alloc (.cells #[c.c0, c.c1, c.c2] t)).cell? ((⟨w.heap.size, 0, none⟩ : Addr).add j) = some u := by
  intro j u hj
  have hrow := row3_alloc w c.c0 c.c1 c.c2 t
  rw [Addr.add_lit, Nat.zero_add]
  match j with
  | 0 => rw [hrow.cell (by omega)]; exact hj
  | 1 => rw [hrow.cell (by omega)]; exact hj
  | 2 => rw [hrow.cell (by omega)]; exact hj
  | j + 3 => simp [c3l] at hj

theorem OwnD.one {w : World} {t : Kd} {c : C3} {F : List Nat} (h : OwnD w t c F) : ∀ u ∈ c3l c, u.oneCell' = true := by
  obtain ⟨h0, -, F1, F2, -, ⟨a, cap, h3, -⟩, a2, cap2, h4, -⟩ := h.open
  intro u hu
  simp only [c3l, h0, h3, h4, List.mem_cons, List.not_mem_nil, or_false] at hu
  rcases hu with rfl | rfl | rfl <;> rfl

/-- Schemas without names and kids. -/
theorem OwnD.leaf (w : World) (s : Int) (hs : I64 s) : OwnD w (.mk s [] []) ⟨.int .i64 s, .slice none 0 0, .slice none 0 0⟩ [] := by
  rw [OwnD]
  exact ⟨rfl, hs, [], [], rfl, ⟨none, 0, rfl, by simp, Or.inl ⟨rfl, rfl⟩⟩, none, 0, rfl, by simp, Or.inl ⟨rfl, rfl⟩⟩
/-- A schema with one kid, laid as a new row. -/
theorem OwnD.single {w : World} {s : Int} {k : Kd} {c : C3} {F : List Nat} {t : TypeId} (hs : I64 s) (h : OwnD w k c F) (hF : ∀ b, b ∈ F → b < w.heap.size) : OwnD (w.alloc (.cells #[c.c0, c.c1, c.c2] t)) (.mk s [] [k]) ⟨.int .i64 s, .slice none 0 0, .slice (some ⟨w.heap.size, 0, none⟩) 1 1⟩ (w.heap.size :: F) := by
  rw [OwnD]
  have q := row3_alloc w c.c0 c.c1 c.c2 t
  refine ⟨rfl, hs, [], w.heap.size :: F, rfl, ⟨none, 0, rfl, by simp, Or.inl ⟨rfl, rfl⟩⟩, some ⟨w.heap.size, 0, none⟩, 1, rfl, by simp, Or.inr ⟨w.heap.size, F, rfl, rfl, fun o => q.frozen o, ?_⟩⟩
  rw [OwnDK]
  exact ⟨F, [], c, by simp, ⟨q.cell (i := 0) (by omega), q.cell (i := 1) (by omega), q.cell (i := 2) (by omega)⟩, OwnD.carry k c F (fun b hb => Below.heap_alloc _ _ _ (hF b hb)) h, by rw [OwnDK]⟩

theorem row3_set1 {w : World} {B : Nat} {t : TypeId} {c0 c1 c2 : Value} (h : w.rowIs B t 3 (row3 c0 c1 c2)) (v : Value) : (w.setCell ⟨B, 1, none⟩ v).rowIs B t 3 (row3 c0 v c2) :=
  (h.set 1 v).congr (fun i hi => by
    match i, hi with
    | 0, _ => rfl
    | 1, _ => rfl
    | 2, _ => rfl)
theorem row3_set2 {w : World} {B : Nat} {t : TypeId} {c0 c1 c2 : Value} (h : w.rowIs B t 3 (row3 c0 c1 c2)) (v : Value) : (w.setCell ⟨B, 2, none⟩ v).rowIs B t 3 (row3 c0 c1 v) :=
  (h.set 2 v).congr (fun i hi => by
    match i, hi with
    | 0, _ => rfl
    | 1, _ => rfl
    | 2, _ => rfl)

end Go.Proofs.YtenpghndgdemnaaGreatDoor

/- The walks of markKindS and markKind over schemas that own their memory: they are marked in place, and nothing else turns. For marks up to 2^40. -/

namespace Go.Proofs.YtenpghndgdemnaaGreatDoor
open Go Go.RowKit

mutual
/-- What marking makes of a kid. -/
def mD (k : Nat) : Kd → Kd
  | .mk _ ns ks => .mk k (mS (k + 1) ns) (mDs (k + 1 + ns.length) ks)
def mDs (k : Nat) : List Kd → List Kd
  | [] => []
  | t :: r => mD k t :: mDs (k + kcT t) r
end
theorem mD_eq (k : Nat) (t : Kd) : mD k t = .mk k (mS (k + 1) t.names) (mDs (k + 1 + t.names.length) t.kids) := by obtain ⟨s, ns, ks⟩ := t; rw [mD]; rfl
theorem mDs_len (k : Nat) (l : List Kd) : (mDs k l).length = l.length := by
  induction l generalizing k with
  | nil => rw [mDs]
  | cons a r ih => rw [mDs]; simp [ih]
theorem mDs_snoc (k : Nat) (a : List Kd) (t : Kd) : mDs k (a ++ [t]) = mDs k a ++ [mD (k + kcK a) t] := by
  induction a generalizing k with
  | nil => simp [mDs, kcK]
  | cons x r ih => rw [List.cons_append, mDs, mDs, ih, kcK]; simp [Nat.add_assoc]
theorem mDs_get (k : Nat) (l : List Kd) (i : Nat) (h : i < (mDs k l).length) : (mDs k l)[i] = mD (k + kcK (l.take i)) (l[i]'(by rw [mDs_len] at h; exact h)) := by
  induction l generalizing k i with
  | nil => rw [mDs_len] at h; simp at h
  | cons a r ih =>
    cases i with
    | zero => simp [mDs, kcK]
    | succ i =>
      simp only [mDs, List.getElem_cons_succ, List.take_succ_cons]
      rw [ih, kcK]; congr 1; omega

theorem OwnDK.snoc {w : World} {b o : Nat} {xs : List Kd} {F G : List Nat} {t : Kd} {c : C3} (h : OwnDK w b o xs F) (hc : C3.at w b (o + 3 * xs.length) c) (ht : OwnD w t c G) : OwnDK w b o (xs ++ [t]) (F ++ G) := by
  induction xs generalizing o F with
  | nil =>
    rw [OwnDK] at h
    subst h
    simp only [List.nil_append]
    rw [OwnDK]
    exact ⟨G, [], c, by simp, by simpa using hc, ht, by rw [OwnDK]⟩
  | cons x r ih =>
    rw [OwnDK] at h
    obtain ⟨F1, F2, d, rfl, h1, h2, h3⟩ := h
    rw [List.cons_append, OwnDK]
    refine ⟨F1, F2 ++ G, d, by simp, h1, h2, ih h3 ?_⟩
    rw [show o + 3 + 3 * r.length = o + 3 * (x :: r).length from by simp only [List.length_cons]; omega]
    exact hc

/-- What the loop of markKindS has marked after i rounds. -/
def MrkD (w : World) (b : Nat) (ks : List Kd) (k0 i : Nat) (G : List Nat) : Prop :=
  FreeB w b ∧ ∃ G1 G2, G = G1 ++ G2 ∧ OwnDK w b 0 (mDs k0 (ks.take i)) G1 ∧ OwnDK w b (i * 3) (ks.drop i) G2

theorem MrkD.start {w : World} {b : Nat} {ks : List Kd} {k0 : Nat} {G : List Nat} (hf : FreeB w b) (h : OwnDK w b 0 ks G) : MrkD w b ks k0 0 G :=
  ⟨hf, [], G, rfl, by simp [mDs, OwnDK], by simpa using h⟩

theorem MrkD.open {w : World} {b : Nat} {ks : List Kd} {k0 i : Nat} {G : List Nat} (h : MrkD w b ks k0 i G) (hlt : i < ks.length) :
    ∃ G1 N1 K1 H2 c, G = G1 ++ ((N1 ++ K1) ++ H2) ∧ FreeB w b ∧ OwnDK w b 0 (mDs k0 (ks.take i)) G1 ∧ OwnDK w b (i * 3 + 3) (ks.drop (i + 1)) H2 ∧ C3.at w b (i * 3) c ∧
      c.c0 = .int .i64 ks[i].sort ∧ StrsOwn w c.c1 ks[i].names N1 ∧ KidsD w c.c2 ks[i].kids K1 := by
  obtain ⟨hf, G1, G2, rfl, h1, h2⟩ := h
  rw [List.drop_eq_getElem_cons hlt, OwnDK] at h2
  obtain ⟨F1, F2, c, rfl, hc, ho, hr⟩ := h2
  obtain ⟨e0, -, N1, K1, rfl, hn, hk⟩ := ho.open
  exact ⟨G1, N1, K1, F2, c, rfl, hf, h1, hr, hc, e0, hn, hk⟩

theorem MrkD.step {w w' : World} {b : Nat} {ks : List Kd} {k0 i : Nat} {G1 N1 K1 H2 : List Nat} {c1 c2 : Value} (hlt : i < ks.length) (hbig : k0 + kcK ks ≤ 1099511627776)
    (hd : OwnDK w b 0 (mDs k0 (ks.take i)) G1) (hr : OwnDK w b (i * 3 + 3) (ks.drop (i + 1)) H2) (hf : FreeB w' b)
    (hcell : ∀ j, j < i * 3 ∨ i * 3 + 3 ≤ j → w'.cell? ⟨b, j, none⟩ = w.cell? ⟨b, j, none⟩)
    (hblk : ∀ x, x ∈ G1 ∨ x ∈ H2 → w'.heap[x]? = w.heap[x]?)
    (hc : C3.at w' b (i * 3) ⟨.int .i64 (k0 + kcK (ks.take i) : Nat), c1, c2⟩)
    (hn : StrsOwn w' c1 (mS (k0 + kcK (ks.take i) + 1) ks[i].names) N1) (hk : KidsD w' c2 (mDs (k0 + kcK (ks.take i) + 1 + ks[i].names.length) ks[i].kids) K1) :
    MrkD w' b ks k0 (i + 1) (G1 ++ ((N1 ++ K1) ++ H2)) := by
  have hle := kcK_take_le ks (i + 1)
  rw [kcK_take ks i hlt, kcT_eq] at hle
  refine ⟨hf, G1 ++ (N1 ++ K1), H2, by simp, ?_, ?_⟩
  · rw [List.take_succ_eq_append_getElem hlt, mDs_snoc]
    refine OwnDK.snoc (OwnDK.carry b 0 _ G1 (fun x hx => hblk x (Or.inl hx)) (fun j _ hj => hcell j (Or.inl ?_)) hd) ?_ (c := ⟨.int .i64 (k0 + kcK (ks.take i) : Nat), c1, c2⟩) ?_
    · rw [mDs_len, List.length_take] at hj; omega
    · rw [mDs_len, List.length_take, Nat.min_eq_left (by omega), show 0 + 3 * i = i * 3 from by omega]; exact hc
    · rw [mD_eq]
      exact OwnD.make rfl ⟨by simp [Kd.sort]; omega, by simp [Kd.sort]; omega⟩ hn hk
  · rw [show (i + 1) * 3 = i * 3 + 3 from by omega]
    exact OwnDK.carry b _ _ H2 (fun x hx => hblk x (Or.inr hx)) (fun j hj _ => hcell j (Or.inr hj)) hr

def MkDSaid (n : Nat) : Prop := ∀ (ks : List Kd), klsz ks < n → ∀ (v : Value) (F : List Nat) (k : Nat) (w : World), KidsD w v ks F → F.Nodup → (∀ x, x ∈ F → x < w.heap.size) → 0 < k → k + kcK ks ≤ 1099511627776 →
    Calls Tryz.prog 37 #[v, .int .i64 k] w fun e w' => e = .returned (.int .i64 (k + kcK ks : Nat)) ∧ KidsD w' v (mDs k ks) F ∧ Exc F w w'

/-- One place of a row has turned, and blocks of F; the rest of the row is as it was. -/
structure Part3 (F : List Nat) (w w' : World) (b o : Nat) (c : C3) : Prop where
  at' : C3.at w' b o c
  free : FreeB w' b
  cells : ∀ j, j < o ∨ o + 3 ≤ j → w'.cell? ⟨b, j, none⟩ = w.cell? ⟨b, j, none⟩
  exc : Exc F w w'
  mem : b ∈ F
theorem Part3.start {w : World} {b o : Nat} {c : C3} (h : C3.at w b o c) (hf : FreeB w b) : Part3 [b] w w b o c := ⟨h, hf, fun _ _ => rfl, Exc.refl _ _, by simp⟩
theorem Part3.mono {F G : List Nat} {w w' : World} {b o : Nat} {c : C3} (h : Part3 F w w' b o c) (hs : ∀ x, x ∈ F → x ∈ G) : Part3 G w w' b o c := ⟨h.at', h.free, h.cells, h.exc.mono hs, hs b h.mem⟩
theorem Part3.set0 {F : List Nat} {w w' : World} {b o : Nat} {c0 c1 c2 : Value} (h : Part3 F w w' b o ⟨c0, c1, c2⟩) (v : Value) : Part3 F w (w'.setCell ⟨b, o, none⟩ v) b o ⟨v, c1, c2⟩ := by
  obtain ⟨h0, h1, h2⟩ := h.at'
  refine ⟨⟨by simp [go_sem, h0], by simpa [go_sem] using h1, by simpa [go_sem] using h2⟩, h.free.set _ _, fun j hj => ?_, h.exc.trans (Exc.set _ _ _ _ h.mem), h.mem⟩
  rw [← h.cells j hj]
  have e : j ≠ o := by omega
  simp [go_sem]
theorem Part3.lt {F : List Nat} {w w' : World} {b o : Nat} {c : C3} (h : Part3 F w w' b o c) : b < w'.heap.size := World.block_lt_of_cell? w' _ h.at'.1
theorem Part3.on {F H : List Nat} {w w' w2 : World} {b o : Nat} {c : C3} (h : Part3 F w w' b o c) (hx : Exc H w' w2) (hb : b ∉ H) (hs : ∀ x, x ∈ H → x ∈ F) : Part3 F w w2 b o c := by
  have hblk := hx.block b h.lt hb
  exact ⟨h.at'.carry hblk, h.free.of_block hblk, fun j hj => by rw [World.cell?_of_block (w := w') (a := ⟨b, j, none⟩) hblk]; exact h.cells j hj, h.exc.trans (hx.mono hs), h.mem⟩

set_option maxHeartbeats 800000 in
theorem markKindS_own (n : Nat) (IH : MkDSaid n) : MkDSaid (n + 1) := by
  intro ks hn v F k w hv hnd hlt0 hk0 hk
  obtain ⟨a, cap, rfl, hlen, hc⟩ := hv
  rcases hc with ⟨rfl, rfl⟩ | ⟨b, G, rfl, rfl, hfr, hc⟩
  · simp only [List.length_nil, kcK, Nat.add_zero] at *
    clear IH
    go_enter Tryz.func37, Tryz.ntmps37
    go_wp2_with fail
    go_loopw [1, 5] (fun kk i wr => kk = .int .i64 k ∧ i = .int .i64 0 ∧ wr = w) (fun _ _ _ => 0)
    case atStart => exact ⟨rfl, rfl, rfl⟩
    case round =>
      obtain ⟨rfl, rfl, rfl⟩ := hrel
      go_wp2_with fail
      go_ret
      exact ⟨rfl, ⟨a, cap, by simp [mDs], by simp [mDs], Or.inl ⟨by rw [mDs], rfl⟩⟩, Exc.refl _ _⟩
  · have HM := hide (MrkD.start (k0 := k) hfr hc)
    have HI := hide IH
    have HND := hide hnd
    have HLT := hide hlt0
    clear hfr hc IH hnd hlt0
    go_enter Tryz.func37, Tryz.ntmps37
    go_wp2_with fail
    go_loopw [1, 5] (fun kk i wr => ∃ (j : Nat), j ≤ ks.length ∧ kk = .int .i64 (k + kcK (ks.take j) : Nat) ∧ i = .int .i64 j ∧ Hid (MrkD wr b ks k j G) ∧ Exc (b :: G) w wr) (fun _ i _ => ks.length - (intOf i).toNat)
    case atStart => exact ⟨0, Nat.zero_le _, by simp [kcK], rfl, HM, Exc.refl _ _⟩
    case round =>
      obtain ⟨j, hj, rfl, rfl, HMj, hex⟩ := hrel
      by_cases hlt : j < ks.length
      · have hle := kcK_take_le ks (j + 1)
        have hsuc := kcK_take ks j hlt
        rw [kcT_eq] at hsuc
        obtain ⟨G1, N1, K1, H2, c, hG, hf, hd, hr, hat, e0, hnm, hkd⟩ := HMj.out.open hlt
        obtain ⟨c0, c1, c2⟩ := c
        have hblt : b < wr.heap.size := Nat.lt_of_lt_of_le (unhide HLT b (by simp)) hex.size
        have hGlt : ∀ x, x ∈ G → x < wr.heap.size := fun x hx => Nat.lt_of_lt_of_le (unhide HLT x (by simp [hx])) hex.size
        have hnd := unhide HND
        rw [hG] at hnd hGlt
        rw [List.nodup_cons] at hnd
        obtain ⟨hbn, hnd⟩ := hnd
        have hle2 : kcK (ks.take j) + (1 + ks[j].names.length + kcK ks[j].kids) ≤ kcK ks := by omega
        have hsm : klsz ks[j].kids < n := by have := klsz_kid (List.getElem_mem hlt); omega
        have HS := hide hsuc
        generalize hq : k + kcK (ks.take j) = q at *
        have HQ := hide hq
        have hq1 : 0 < q := by omega
        have hq2 : q + 1 + ks[j].names.length + kcK ks[j].kids ≤ 1099511627776 := by omega
        generalize hnames : ks[j].names = nms at *
        generalize hkids : ks[j].kids = kds at *
        have HNM := hide hnm; have HKD := hide hkd; have HD := hide hd; have HR := hide hr; have HGL := hide hGlt; have HBN := hide hbn; have HN2 := hide hnd; have HG := hide hG; have HF := hide hf; have HAT := hide hat
        have HNE := hide hnames; have HKE := hide hkids
        obtain ⟨y0, y1, y2⟩ := hat
        simp only at e0 y0 y1 y2
        have z0 := hf (j * 3)
        clear hnm hkd hd hr hGlt hbn hnd hG hf hsuc hle hle2 hnames hkids hq e0 HM HMj
        go_wp2_with fail
        have p3 := (Part3.start HAT.out HF.out).set0 (.int .i64 q)
        have hbn := HBN.out
        simp only [List.mem_append, not_or] at hbn
        have hd3 : ∀ x, x ≠ b → x < wr.heap.size → (wr.setCell ⟨b, j * 3, none⟩ (.int .i64 q)).heap[x]? = wr.heap[x]? := fun x hx hxl => p3.exc.block x hxl (by simpa using hx)
        have hne : ∀ x, x ∈ G1 ++ ((N1 ++ K1) ++ H2) → x ≠ b := fun x hx e => HBN.out (e ▸ hx)
        refine (markStringS_any c1 nms N1 (q + 1) _ (HNM.out.carry fun x hx => hd3 x (hne x (by simp [hx])) (HGL.out x (by simp [hx]))) (by omega) (by omega)).mono ?_
        rintro e w3 ⟨rfl, hs3, hx3⟩
        have p4 := (p3.mono (G := b :: N1) (by simp)).on hx3 (by simp [hbn.2.1.1]) (fun x hx => by simp [hx])
        obtain ⟨-, -, x4'⟩ := p4.at'
        simp only at x4'
        have HP4 := hide p4; have HS3 := hide hs3
        clear p3 p4 hs3 hd3 hne hx3 hbn y0 y1 y2 z0 HAT
        go_wp2_with fail
        have hnd := HN2.out
        rw [List.nodup_append] at hnd
        obtain ⟨hnd1, hnd2, hnd3⟩ := hnd
        rw [List.nodup_append] at hnd2
        obtain ⟨hnd4, hnd5, hnd6⟩ := hnd2
        rw [List.nodup_append] at hnd4
        obtain ⟨hnd7, hnd8, hnd9⟩ := hnd4
        refine (HI.out kds hsm c2 K1 (q + 1 + nms.length) w3 (HKD.out.carry fun x hx => HP4.out.exc.block x (HGL.out x (by simp [hx])) ?_) hnd8 (fun x hx => Nat.lt_of_lt_of_le (HGL.out x (by simp [hx])) HP4.out.exc.size) (by omega) (by omega)).mono ?_
        · simp only [List.mem_cons, not_or]
          exact ⟨fun e => HBN.out (by rw [← e]; simp [hx]), fun hm => hnd9 x hm x hx rfl⟩
        rintro e w4 ⟨rfl, hk4, hx4⟩
        go_wp2_with fail
        go_roundw
        case rel =>
          have hbK : b ∉ K1 := fun hm => HBN.out (by simp [hm])
          have p5 := (HP4.out.mono (G := b :: (N1 ++ K1)) (fun x hx => by simp only [List.mem_cons, List.mem_append] at *; rcases hx with h | h; exact Or.inl h; exact Or.inr (Or.inl h))).on hx4 hbK (fun x hx => by simp [hx])
          have hs4 := HS3.out.carry (w' := w4) fun x hx => hx4.block x (Nat.lt_of_lt_of_le (HGL.out x (by simp [hx])) HP4.out.exc.size) (fun hm => hnd9 x hx x hm rfl)
          have hq := HQ.out
          subst hq
          have hnmE := HNE.out; have hkdE := HKE.out
          subst hnmE hkdE
          have hst := MrkD.step (w := wr) (w' := w4) (c1 := c1) (c2 := c2) hlt hk HD.out HR.out p5.free p5.cells (fun x hx => p5.exc.block x (HGL.out x (by rcases hx with h | h <;> simp [h])) (by
            simp only [List.mem_cons, List.mem_append, not_or]
            rcases hx with h | h
            · exact ⟨fun e => HBN.out (by rw [← e]; simp [h]), fun hm => hnd3 x h x (by simp [hm]) rfl, fun hm => hnd3 x h x (by simp [hm]) rfl⟩
            · exact ⟨fun e => HBN.out (by rw [← e]; simp [h]), fun hm => hnd6 x (by simp [hm]) x h rfl, fun hm => hnd6 x (by simp [hm]) x h rfl⟩)) (by simpa using p5.at') hs4 hk4
          refine ⟨j + 1, by omega, ?_, by go_num, hide (by rw [HG.out]; exact hst), hex.trans (p5.exc.mono fun x hx => ?_)⟩
          · rw [HS.out]; congr 2; omega
          · rw [HG.out]
            simp only [List.mem_cons, List.mem_append] at *
            rcases hx with h | h | h
            · exact Or.inl h
            · exact Or.inr (Or.inr (Or.inl (Or.inl h)))
            · exact Or.inr (Or.inr (Or.inl (Or.inr h)))
        case measure => simp [intOf]; omega
      · go_wp2_with fail
        go_ret
        obtain rfl : j = ks.length := by omega
        obtain ⟨hf, G1, G2, hG, h1, h2⟩ := HMj.out
        rw [List.take_length] at h1
        rw [List.drop_length, OwnDK] at h2
        subst h2
        rw [List.append_nil] at hG
        subst hG
        rw [List.take_length]
        exact ⟨rfl, ⟨_, cap, by rw [mDs_len], by rw [mDs_len]; exact hlen, Or.inr ⟨b, G, rfl, rfl, hf, h1⟩⟩, hex⟩

theorem markKindS_ownAll : ∀ n, MkDSaid n
  | 0 => fun t h => by omega
  | n + 1 => markKindS_own n (markKindS_ownAll n)

set_option maxHeartbeats 400000 in
/-- Marking a schema: its own three cells are the caller's, and stay. -/
theorem markKind_own (t : Kd) (c : C3) (F : List Nat) (k : Nat) (w : World) (h : OwnD w t c F) (hnd : F.Nodup) (hlt : ∀ x, x ∈ F → x < w.heap.size) (hk0 : 0 < k) (hk : k + t.names.length + kcK t.kids ≤ 1099511627776) :
    Calls Tryz.prog 15 #[.agg #[c.c0, c.c1, c.c2], .int .i64 k] w fun e w' => e = .returned (.int .i64 (k + t.names.length + kcK t.kids : Nat)) ∧ OwnD w' (.mk t.sort (mS k t.names) (mDs (k + t.names.length) t.kids)) c F ∧ Exc F w w' := by
  obtain ⟨e0, i0, N1, K1, rfl, hn, hkd⟩ := h.open
  obtain ⟨c0, c1, c2⟩ := c
  simp only at e0 hn hkd
  have HN := hide hn; have HK := hide hkd; have HND := hide hnd; have HLT := hide hlt; have H := hide h
  have HE := hide e0
  have HI := hide i0
  clear hn hkd hnd hlt h e0 i0
  go_enter Tryz.func15, Tryz.ntmps15
  go_wp2_with fail
  have hal : ∀ x, x < w.heap.size → (w.alloc (.cells #[c0, c1, c2] 26)).heap[x]? = w.heap[x]? := fun x hx => Below.heap_alloc _ _ _ hx
  refine (markStringS_any c1 t.names N1 k _ (HN.out.carry fun x hx => hal x (HLT.out x (by simp [hx]))) hk0 (by omega)).mono ?_
  rintro e w1 ⟨rfl, hs1, hx1⟩
  have hwn : w.heap.size ∉ N1 := fun hm => by have := HLT.out _ (List.mem_append_left K1 hm); omega
  have r0 := (row3_alloc w c0 c1 c2 26).of_block (hx1.block w.heap.size (by simp) hwn)
  have k4 := r0.cell (i := 2) (by omega)
  simp only [row3] at k4
  have hnd := HND.out
  rw [List.nodup_append] at hnd
  obtain ⟨hnd1, hnd2, hnd3⟩ := hnd
  have HS1 := hide hs1; have HX1 := hide hx1; have HD3 := hide hnd3; have HD2 := hide hnd2
  clear hs1 hx1 r0 hal hnd1 hnd2 hnd3
  go_wp2_with fail
  refine (markKindS_ownAll (klsz t.kids + 1) t.kids (by omega) c2 K1 (k + t.names.length) w1 (HK.out.carry fun x hx => ?_) HD2.out (fun x hx => ?_) (by omega) (by omega)).mono ?_
  · rw [HX1.out.block x (by have := HLT.out x (by simp [hx]); simp; omega) (fun hm => HD3.out x hm x hx rfl)]
    exact Below.heap_alloc _ _ _ (HLT.out x (by simp [hx]))
  · have := HLT.out x (by simp [hx]); have := HX1.out.size; simp at this; omega
  rintro e w2 ⟨rfl, hk2, hx2⟩
  go_wp2_with fail
  go_ret
  refine ⟨rfl, ?_, ?_⟩
  · refine OwnD.make HE.out HI.out (HS1.out.carry fun x hx => hx2.block x ?_ (fun hm => HD3.out x hx x hm rfl)) hk2
    have := HLT.out x (by simp [hx]); have := HX1.out.size; simp at this; omega
  · exact ((Exc.of_below ((Below.refl _ _).alloc (Nat.le_refl _) _)).trans (HX1.out.mono fun x hx => by simp [hx])).trans (hx2.mono fun x hx => by simp [hx])
end Go.Proofs.YtenpghndgdemnaaGreatDoor

/- The walk of heldStringS: of what was marked it tells the next mark, and turns nothing that was there. For marks up to 2^40. -/

namespace Go.Proofs.YtenpghndgdemnaaGreatDoor
open Go Go.RowKit

set_option maxHeartbeats 400000 in
theorem heldStringS_any (v : Value) (ss : List ByteArray) (k : Nat) (w : World) {P : Nat → Prop} (hv : StrsAt P w v (mS k ss)) (hP : ∀ b, P b → b < w.heap.size) (hk0 : 0 < k) (hk : k + ss.length ≤ 1099511627776) :
    Calls Tryz.prog 38 #[v, .int .i64 k] w fun e w' => e = .returned (.int .i64 (k + ss.length : Nat)) ∧ Below w.heap.size w w' := by
  obtain ⟨a, cap, rfl, hlen, hc⟩ := hv
  rw [mS_len] at hlen
  have hc' : ∀ i, i < ss.length → ∃ b o, a = some ⟨b, o, none⟩ ∧ P b ∧ w.cell? ⟨b, o + i, none⟩ = some (.string (mtx (k + i))) := fun i hi => by
    obtain ⟨b, o, e, hp, hcell, _⟩ := hc i (by rw [mS_len]; exact hi)
    rw [mS_get] at hcell
    exact ⟨b, o, e, hp, hcell⟩
  rw [mS_len]
  have HC := hide hc'; have HP := hide hP
  clear hc hc' hP
  go_enter Tryz.func38, Tryz.ntmps38
  go_wp2_with fail
  go_loopw [1, 5] (fun kk i wr => ∃ (j : Nat), j ≤ ss.length ∧ kk = .int .i64 (k + j : Nat) ∧ i = .int .i64 j ∧ Below w.heap.size w wr) (fun _ i _ => ss.length - (intOf i).toNat)
  case atStart => exact ⟨0, Nat.zero_le _, rfl, rfl, Below.refl _ _⟩
  case round =>
    obtain ⟨j, hj, rfl, rfl, hb⟩ := hrel
    by_cases hlt : j < ss.length
    · obtain ⟨b, o, rfl, hpb, hcell⟩ := unhide HC j hlt
      have e1 : wr.cell? ⟨b, o + j, none⟩ = some (.string (mtx (k + j))) := by rw [hb.cell (unhide HP b hpb)]; exact hcell
      have hcall := (markText_any (k + j) wr.drew (by omega) (by omega)).mono (fun e w' (h : e = .returned (.string (mtx (k + j))) ∧ Below wr.drew.heap.size wr.drew w') => (⟨h.1, h.2, by rw [h.2.cell (World.block_lt_of_cell? wr _ e1)]; exact e1⟩ : e = .returned (.string (mtx (k + j))) ∧ Below wr.drew.heap.size wr.drew w' ∧ w'.cell? ⟨b, o + j, none⟩ = some (.string (mtx (k + j)))))
      have HCALL := hide hcall
      clear hcell hpb hcall
      go_wp2_with fail
      go_region_with (go_at_call 67; refine (unhide HCALL).mono ?_; rintro e w' ⟨rfl, hb', hc'⟩)
      all_goals
        have hb2 := hb.drew.trans (hb'.mono hb.drew.size)
        go_wp2_with fail
        go_roundw
        case rel => exact ⟨j + 1, by omega, by go_num, by go_num, hb2⟩
        case measure => simp [intOf]; omega
    · go_wp2_with fail
      go_ret
      obtain rfl : j = ss.length := by omega
      exact ⟨rfl, hb⟩
end Go.Proofs.YtenpghndgdemnaaGreatDoor
