/- Schemas that own their memory: what blocks they lie in, each named once; schemas gathered in a row of the call's own. Definitions and small laws; no program walked, no conditions. -/
import Derived.Test.YtmaojhacdelleaaDoorKData
import Derived.Test.YtmaojhacdelleaaDoorFirst
namespace Go.Proofs.YtmaojhacdelleaaDoor
open Go Go.RowKit

mutual
/-- Three cells are a schema, and all that they lead to lies in the blocks F, in this order. -/
def OwnD (w : World) : Kd → C3 → List Nat → Prop
  | .mk s ns ks, c, F => c.c0 = .int .i64 s ∧ I64 s ∧
    ∃ F1 F2, F = F1 ++ F2 ∧ StrsOwn w c.c1 ns F1 ∧ ∃ a cap, c.c2 = .slice a ks.length cap ∧ ks.length ≤ 9223372036854775807 ∧
      ((ks = [] ∧ F2 = []) ∨ ∃ b G, a = some ⟨b, 0, none⟩ ∧ F2 = b :: G ∧ FreeB w b ∧ OwnDK w b 0 ks G)
def OwnDK (w : World) (b : Nat) (o : Nat) : List Kd → List Nat → Prop
  | [], F => F = []
  | t :: r, F => ∃ F1 F2 c, F = F1 ++ F2 ∧ C3.at w b o c ∧ OwnD w t c F1 ∧ OwnDK w b (o + 3) r F2
end

/-- A slice of schemas in a block of its own. -/
def KidsD (w : World) (v : Value) (ks : List Kd) (F : List Nat) : Prop :=
  ∃ a cap, v = .slice a ks.length cap ∧ ks.length ≤ 9223372036854775807 ∧
      ((ks = [] ∧ F = []) ∨ ∃ b G, a = some ⟨b, 0, none⟩ ∧ F = b :: G ∧ FreeB w b ∧ OwnDK w b 0 ks G)

theorem OwnD.open {w : World} {t : Kd} {c : C3} {F : List Nat} (h : OwnD w t c F) :
    c.c0 = .int .i64 t.sort ∧ I64 t.sort ∧ ∃ F1 F2, F = F1 ++ F2 ∧ StrsOwn w c.c1 t.names F1 ∧ KidsD w c.c2 t.kids F2 := by
  obtain ⟨s, ns, ks⟩ := t
  rw [OwnD] at h
  exact h

theorem OwnD.make {w : World} {t : Kd} {c : C3} {F1 F2 : List Nat} (h0 : c.c0 = .int .i64 t.sort) (h3 : I64 t.sort) (h6 : StrsOwn w c.c1 t.names F1) (h7 : KidsD w c.c2 t.kids F2) : OwnD w t c (F1 ++ F2) := by
  obtain ⟨s, ns, ks⟩ := t
  rw [OwnD]
  exact ⟨h0, h3, F1, F2, rfl, h6, h7⟩

mutual
theorem OwnD.carry {w w' : World} : ∀ (t : Kd) (c : C3) (F : List Nat), (∀ b, b ∈ F → w'.heap[b]? = w.heap[b]?) → OwnD w t c F → OwnD w' t c F
  | .mk s ns ks, c, F => by
    intro hF h
    rw [OwnD] at h ⊢
    obtain ⟨h0, h3, F1, F2, rfl, h6, a, cap, h7, h8, h9⟩ := h
    refine ⟨h0, h3, F1, F2, rfl, h6.carry (fun b hb => hF b (by simp [hb])), a, cap, h7, h8, ?_⟩
    rcases h9 with h | ⟨b, G, e, rfl, hfr, hk⟩
    · exact Or.inl h
    · have hb := hF b (by simp)
      exact Or.inr ⟨b, G, e, rfl, hfr.of_block hb, OwnDK.carry b 0 ks G (fun b' hb' => hF b' (by simp [hb'])) (fun j _ _ => World.cell?_of_block (w := w) hb) hk⟩
theorem OwnDK.carry {w w' : World} (b : Nat) (o : Nat) : ∀ (ks : List Kd) (F : List Nat), (∀ b, b ∈ F → w'.heap[b]? = w.heap[b]?) → (∀ j, o ≤ j → j < o + 3 * ks.length → w'.cell? ⟨b, j, none⟩ = w.cell? ⟨b, j, none⟩) → OwnDK w b o ks F → OwnDK w' b o ks F
  | [], F => by intro _ _ h; rw [OwnDK] at h ⊢; exact h
  | t :: r, F => by
    intro hF hc h
    rw [OwnDK] at h ⊢
    obtain ⟨F1, F2, c, rfl, h1, h2, h3⟩ := h
    have hl : o + 3 ≤ o + 3 * (t :: r).length := by simp [List.length_cons]; omega
    refine ⟨F1, F2, c, rfl, ?_, OwnD.carry t c F1 (fun b hb => hF b (by simp [hb])) h2, OwnDK.carry b (o + 3) r F2 (fun b hb => hF b (by simp [hb])) (fun j h1 h2 => hc j (by omega) (by simp only [List.length_cons]; omega)) h3⟩
    obtain ⟨g0, g1, g2⟩ := h1
    exact ⟨by rw [hc _ (by omega) (by omega)]; exact g0, by rw [hc _ (by omega) (by omega)]; exact g1, by rw [hc _ (by omega) (by omega)]; exact g2⟩
end

theorem KidsD.carry {w w' : World} {v : Value} {ks : List Kd} {F : List Nat} (h : KidsD w v ks F) (hF : ∀ b, b ∈ F → w'.heap[b]? = w.heap[b]?) : KidsD w' v ks F := by
  obtain ⟨a, cap, h1, h2, h3⟩ := h
  refine ⟨a, cap, h1, h2, ?_⟩
  rcases h3 with h | ⟨b, G, e, rfl, hfr, hk⟩
  · exact Or.inl h
  · have hb := hF b (by simp)
    exact Or.inr ⟨b, G, e, rfl, hfr.of_block hb, OwnDK.carry b 0 ks G (fun b' hb' => hF b' (by simp [hb'])) (fun j _ _ => World.cell?_of_block (w := w) hb) hk⟩

mutual
theorem OwnD.rep {w : World} {P : Nat → Prop} : ∀ (t : Kd) (c : C3) (F : List Nat), (∀ b, b ∈ F → P b) → OwnD w t c F → KRep P w t c
  | .mk s ns ks, c, F => by
    intro hF h
    rw [OwnD] at h
    obtain ⟨h0, h3, F1, F2, rfl, h6, a, cap, h7, h8, h9⟩ := h
    rw [KRep]
    refine ⟨h0, h3, h6.at.carry (fun _ _ => rfl) (fun b hb => hF b (by simp [hb])), a, cap, h7, h8, fun hk => ?_⟩
    rcases h9 with h | ⟨b, G, e, rfl, hfr, hk2⟩
    · exact absurd h.1 hk
    · exact ⟨b, 0, e, hF b (by simp), OwnDK.rep b 0 ks G (fun b' hb' => hF b' (by simp [hb'])) hk2⟩
theorem OwnDK.rep {w : World} {P : Nat → Prop} (b : Nat) (o : Nat) : ∀ (ks : List Kd) (F : List Nat), (∀ b, b ∈ F → P b) → OwnDK w b o ks F → KRepK P w b o ks
  | [], F => by intro _ _; rw [KRepK]; trivial
  | t :: r, F => by
    intro hF h
    rw [OwnDK] at h
    obtain ⟨F1, F2, c, rfl, h1, h2, h3⟩ := h
    rw [KRepK]
    exact ⟨⟨c, h1, OwnD.rep t c F1 (fun b hb => hF b (by simp [hb])) h2⟩, OwnDK.rep b (o + 3) r F2 (fun b hb => hF b (by simp [hb])) h3⟩
end

def c3l (c : C3) : List Value := [c.c0, c.c1, c.c2]

/-- Schemas whose cells stand in a row, each in blocks of its own. -/
def OwnLD (w : World) : List Kd → List Value → List Nat → Prop
  | [], xs, G => xs = [] ∧ G = []
  | t :: r, xs, G => ∃ c F G' xs', xs = c3l c ++ xs' ∧ G = F ++ G' ∧ OwnD w t c F ∧ OwnLD w r xs' G'

theorem OwnLD.snoc {w : World} {ks : List Kd} {xs : List Value} {G F : List Nat} {t : Kd} {c : C3} (h : OwnLD w ks xs G) (ht : OwnD w t c F) : OwnLD w (ks ++ [t]) (xs ++ c3l c) (G ++ F) := by
  induction ks generalizing xs G with
  | nil =>
    obtain ⟨rfl, rfl⟩ := h
    exact ⟨c, F, [], [], by simp, by simp, ht, rfl, rfl⟩
  | cons a r ih =>
    obtain ⟨d, F1, G', xs', rfl, rfl, h1, h2⟩ := h
    exact ⟨d, F1, G' ++ F, xs' ++ c3l c, by simp, by simp, h1, ih h2⟩

theorem OwnLD.carry {w w' : World} {ks : List Kd} {xs : List Value} {G : List Nat} (h : OwnLD w ks xs G) (hb : ∀ b, b ∈ G → w'.heap[b]? = w.heap[b]?) : OwnLD w' ks xs G := by
  induction ks generalizing xs G with
  | nil => exact h
  | cons a r ih =>
    obtain ⟨d, F1, G', xs', rfl, rfl, h1, h2⟩ := h
    exact ⟨d, F1, G', xs', rfl, rfl, OwnD.carry a d F1 (fun b hb' => hb b (by simp [hb'])) h1, ih h2 (fun b hb' => hb b (by simp [hb']))⟩

theorem OwnLD.ownK {w : World} {g : Nat} {ks : List Kd} {xs : List Value} {G : List Nat} {o : Nat} (h : OwnLD w ks xs G) (hc : ∀ j u, xs[j]? = some u → w.cell? ⟨g, o + j, none⟩ = some u) : OwnDK w g o ks G := by
  induction ks generalizing xs G o with
  | nil => rw [OwnDK]; exact h.2
  | cons a r ih =>
    obtain ⟨d, F1, G', xs', rfl, rfl, h1, h2⟩ := h
    rw [OwnDK]
    refine ⟨F1, G', d, rfl, ⟨hc 0 _ rfl, hc 1 _ rfl, hc 2 _ rfl⟩, h1, ih h2 (fun j u hj => ?_)⟩
    have := hc (3 + j) u (by
      rw [List.getElem?_append_right (by simp [c3l]), show 3 + j - (c3l d).length = j from by simp [c3l]]; exact hj)
    rw [show o + 3 + j = o + (3 + j) from by omega]; exact this

theorem cell_three (w : World) (c : C3) (t : TypeId) : ∀ j u, (c3l c)[j]? = some u → (w.alloc (.cells #[c.c0, c.c1, c.c2] t)).cell? ((⟨w.heap.size, 0, none⟩ : Addr).add j) = some u := by
  intro j u hj
  have hrow := row3_alloc w c.c0 c.c1 c.c2 t
  rw [Addr.add_lit, Nat.zero_add]
  match j with
  | 0 => rw [hrow.cell (by omega)]; exact hj
  | 1 => rw [hrow.cell (by omega)]; exact hj
  | 2 => rw [hrow.cell (by omega)]; exact hj
  | j + 3 => simp [c3l] at hj

theorem OwnD.one {w : World} {t : Kd} {c : C3} {F : List Nat} (h : OwnD w t c F) : ∀ u ∈ c3l c, u.oneCell' = true := by
  obtain ⟨h0, -, F1, F2, -, ⟨a, cap, h3, -⟩, a2, cap2, h4, -⟩ := h.open
  intro u hu
  simp only [c3l, h0, h3, h4, List.mem_cons, List.not_mem_nil, or_false] at hu
  rcases hu with rfl | rfl | rfl <;> rfl

/-- Schemas without names and kids. -/
theorem OwnD.leaf (w : World) (s : Int) (hs : I64 s) : OwnD w (.mk s [] []) ⟨.int .i64 s, .slice none 0 0, .slice none 0 0⟩ [] := by
  rw [OwnD]
  exact ⟨rfl, hs, [], [], rfl, ⟨none, 0, rfl, by simp, Or.inl ⟨rfl, rfl⟩⟩, none, 0, rfl, by simp, Or.inl ⟨rfl, rfl⟩⟩
/-- A schema with one kid, laid as a new row. -/
theorem OwnD.single {w : World} {s : Int} {k : Kd} {c : C3} {F : List Nat} {t : TypeId} (hs : I64 s) (h : OwnD w k c F) (hF : ∀ b, b ∈ F → b < w.heap.size) : OwnD (w.alloc (.cells #[c.c0, c.c1, c.c2] t)) (.mk s [] [k]) ⟨.int .i64 s, .slice none 0 0, .slice (some ⟨w.heap.size, 0, none⟩) 1 1⟩ (w.heap.size :: F) := by
  rw [OwnD]
  have q := row3_alloc w c.c0 c.c1 c.c2 t
  refine ⟨rfl, hs, [], w.heap.size :: F, rfl, ⟨none, 0, rfl, by simp, Or.inl ⟨rfl, rfl⟩⟩, some ⟨w.heap.size, 0, none⟩, 1, rfl, by simp, Or.inr ⟨w.heap.size, F, rfl, rfl, fun o => q.frozen o, ?_⟩⟩
  rw [OwnDK]
  exact ⟨F, [], c, by simp, ⟨q.cell (i := 0) (by omega), q.cell (i := 1) (by omega), q.cell (i := 2) (by omega)⟩, OwnD.carry k c F (fun b hb => Below.heap_alloc _ _ _ (hF b hb)) h, by rw [OwnDK]⟩

theorem row3_set1 {w : World} {B : Nat} {t : TypeId} {c0 c1 c2 : Value} (h : w.rowIs B t 3 (row3 c0 c1 c2)) (v : Value) : (w.setCell ⟨B, 1, none⟩ v).rowIs B t 3 (row3 c0 v c2) :=
  (h.set 1 v).congr (fun i hi => by
    match i, hi with
    | 0, _ => rfl
    | 1, _ => rfl
    | 2, _ => rfl)
theorem row3_set2 {w : World} {B : Nat} {t : TypeId} {c0 c1 c2 : Value} (h : w.rowIs B t 3 (row3 c0 c1 c2)) (v : Value) : (w.setCell ⟨B, 2, none⟩ v).rowIs B t 3 (row3 c0 c1 v) :=
  (h.set 2 v).congr (fun i hi => by
    match i, hi with
    | 0, _ => rfl
    | 1, _ => rfl
    | 2, _ => rfl)

end Go.Proofs.YtmaojhacdelleaaDoor
