/- The first tree of a schema, as plain data; trees gathered in a row of the call's own. Definitions and small laws; no program walked, no conditions. -/
import Derived.Test.YtmaojhacdelleaaPart01
import Derived.Test.YtmaojhacdelleaaPart02
namespace Go.Proofs.Ytmaojhacdelleaa
open Go Go.RowKit

mutual
/-- The first tree of a schema that is ok. -/
def fT : Kd → Tr
  | .mk s ns ks => if s = 5 then .mk 5 0 ByteArray.empty ns (fTs ks) else .mk s 0 ByteArray.empty [] []
def fTs : List Kd → List Tr
  | [] => []
  | t :: r => fT t :: fTs r
end
theorem fT_form {t : Kd} (h : t.sort = 5) : fT t = .mk 5 0 ByteArray.empty t.names (fTs t.kids) := by
  obtain ⟨s, ns, ks⟩ := t; have h' : s = 5 := h; rw [fT, if_pos h']; rfl
theorem fT_else {t : Kd} (h : t.sort ≠ 5) : fT t = .mk t.sort 0 ByteArray.empty [] [] := by
  obtain ⟨s, ns, ks⟩ := t; have h' : s ≠ 5 := h; rw [fT, if_neg h']; rfl
theorem fTs_map (ks : List Kd) : fTs ks = ks.map fT := by
  induction ks with
  | nil => rw [fTs]; rfl
  | cons a r ih => rw [fTs, ih]; rfl

def c5l (c : C5) : List Value := [c.c0, c.c1, c.c2, c.c3, c.c4]

/-- Trees whose cells stand in a row, each in blocks of its own. -/
def OwnL (w : World) : List Tr → List Value → List Nat → Prop
  | [], xs, G => xs = [] ∧ G = []
  | t :: r, xs, G => ∃ c F G' xs', xs = c5l c ++ xs' ∧ G = F ++ G' ∧ Own w t c F ∧ OwnL w r xs' G'

theorem OwnL.snoc {w : World} {ks : List Tr} {xs : List Value} {G F : List Nat} {t : Tr} {c : C5} (h : OwnL w ks xs G) (ht : Own w t c F) : OwnL w (ks ++ [t]) (xs ++ c5l c) (G ++ F) := by
  induction ks generalizing xs G with
  | nil =>
    obtain ⟨rfl, rfl⟩ := h
    exact ⟨c, F, [], [], by simp, by simp, ht, rfl, rfl⟩
  | cons a r ih =>
    obtain ⟨d, F1, G', xs', rfl, rfl, h1, h2⟩ := h
    exact ⟨d, F1, G' ++ F, xs' ++ c5l c, by simp, by simp, h1, ih h2⟩

theorem OwnL.carry {w w' : World} {ks : List Tr} {xs : List Value} {G : List Nat} (h : OwnL w ks xs G) (hb : ∀ b, b ∈ G → w'.heap[b]? = w.heap[b]?) : OwnL w' ks xs G := by
  induction ks generalizing xs G with
  | nil => exact h
  | cons a r ih =>
    obtain ⟨d, F1, G', xs', rfl, rfl, h1, h2⟩ := h
    exact ⟨d, F1, G', xs', rfl, rfl, Own.carry a d F1 (fun b hb' => hb b (by simp [hb'])) h1, ih h2 (fun b hb' => hb b (by simp [hb']))⟩

theorem OwnL.ownK {w : World} {g : Nat} {ks : List Tr} {xs : List Value} {G : List Nat} {o : Nat} (h : OwnL w ks xs G) (hc : ∀ j u, xs[j]? = some u → w.cell? ⟨g, o + j, none⟩ = some u) : OwnK w g o ks G := by
  induction ks generalizing xs G o with
  | nil => rw [OwnK]; exact h.2
  | cons a r ih =>
    obtain ⟨d, F1, G', xs', rfl, rfl, h1, h2⟩ := h
    rw [OwnK]
    refine ⟨F1, G', d, rfl, ⟨hc 0 _ rfl, hc 1 _ rfl, hc 2 _ rfl, hc 3 _ rfl, hc 4 _ rfl⟩, h1, ih h2 (fun j u hj => ?_)⟩
    have := hc (5 + j) u (by
      rw [List.getElem?_append_right (by simp [c5l]), show 5 + j - (c5l d).length = j from by simp [c5l]]; exact hj)
    rw [show o + 5 + j = o + (5 + j) from by omega]; exact this

theorem freeOfHeap {w : World} {g : Nat} {cur : Array Value} {e : TypeId} (h : w.heap[g]? = some (.cells cur e (0, 0))) : FreeB w g := fun o => by simp [World.frozen?, h]

/-- A row of strings of the call's own. -/
theorem strsOwn_of_row {base : Nat} {w : World} {v : Value} {ss : List ByteArray} (h : w.ownsRow base 9 1 v ss.length (ss.map Value.string)) (hs : ∀ x, x ∈ ss → x.size ≤ 9223372036854775807) :
    ∃ F, StrsOwn w v ss F ∧ F.Nodup ∧ (∀ b, b ∈ F → base ≤ b ∧ b < w.heap.size) ∧ ∀ b, b ∈ F → v.ownBlock = some b := by
  rcases h.2 with ⟨hv, hn0⟩ | ⟨g, cap, cur, hv, hgb, hh, hle, hm2, hsz, htk⟩
  · have hss : ss = [] := List.eq_nil_of_length_eq_zero hn0
    subst hss
    exact ⟨[], ⟨none, 0, hv, by simp, Or.inl ⟨rfl, rfl⟩⟩, List.nodup_nil, fun b hb => by simp at hb, fun b hb => by simp at hb⟩
  · refine ⟨[g], ⟨some ⟨g, 0, none⟩, cap, hv, by unfold maxLen at hm2; omega, Or.inr ⟨g, rfl, rfl, freeOfHeap hh, fun i hi => ⟨?_, hs _ (List.getElem_mem hi)⟩⟩⟩, by simp, fun b hb => ?_, fun b hb => by simp at hb; subst hb; rw [hv]; rfl⟩
    · have h1 : (ss.map Value.string)[i]? = some (.string ss[i]) := by simp [hi]
      rw [← htk, List.getElem?_take_of_lt (by omega)] at h1
      simp only [World.cell?, hh]
      simpa using h1
    · simp at hb; subst hb
      exact ⟨hgb, (Array.getElem?_eq_some_iff.1 hh).1⟩

theorem cell_five (w : World) (c : C5) (t : TypeId) : ∀ j u, (c5l c)[j]? = some u → (w.alloc (.cells #[c.c0, c.c1, c.c2, c.c3, c.c4] t)).cell? ((⟨w.heap.size, 0, none⟩ : Addr).add j) = some u := by
  intro j u hj
  have hrow := row5_alloc w c.c0 c.c1 c.c2 c.c3 c.c4 t
  rw [Addr.add_lit, Nat.zero_add]
  match j with
  | 0 => rw [hrow.cell (by omega)]; exact hj
  | 1 => rw [hrow.cell (by omega)]; exact hj
  | 2 => rw [hrow.cell (by omega)]; exact hj
  | 3 => rw [hrow.cell (by omega)]; exact hj
  | 4 => rw [hrow.cell (by omega)]; exact hj
  | j + 5 => simp [c5l] at hj

theorem Own.one {w : World} {t : Tr} {c : C5} {F : List Nat} (h : Own w t c F) : ∀ u ∈ c5l c, u.oneCell' = true := by
  obtain ⟨h0, h1, h2, -, -, -, F1, F2, -, ⟨a, cap, h3, -⟩, a2, cap2, h4, -⟩ := h.open
  intro u hu
  simp only [c5l, h0, h1, h2, h3, h4, List.mem_cons, List.not_mem_nil, or_false] at hu
  rcases hu with rfl | rfl | rfl | rfl | rfl <;> rfl
end Go.Proofs.Ytmaojhacdelleaa

/- Schemas that own their memory: what blocks they lie in, each named once; schemas gathered in a row of the call's own. Definitions and small laws; no program walked, no conditions. -/

namespace Go.Proofs.Ytmaojhacdelleaa
open Go Go.RowKit

mutual
/-- Three cells are a schema, and all that they lead to lies in the blocks F, in this order. -/
def OwnD (w : World) : Kd → C3 → List Nat → Prop
  | .mk s ns ks, c, F => c.c0 = .int .i64 s ∧ I64 s ∧
    ∃ F1 F2, F = F1 ++ F2 ∧ StrsOwn w c.c1 ns F1 ∧ ∃ a cap, c.c2 = .slice a ks.length cap ∧ ks.length ≤ 9223372036854775807 ∧
      ((ks = [] ∧ F2 = []) ∨ ∃ b G, a = some ⟨b, 0, none⟩ ∧ F2 = b :: G ∧ FreeB w b ∧ OwnDK w b 0 ks G)
def OwnDK (w : World) (b : Nat) (o : Nat) : List Kd → List Nat → Prop
  | [], F => F = []
  | t :: r, F => ∃ F1 F2 c, F = F1 ++ F2 ∧ C3.at w b o c ∧ OwnD w t c F1 ∧ OwnDK w b (o + 3) r F2
end

/-- A slice of schemas in a block of its own. -/
def KidsD (w : World) (v : Value) (ks : List Kd) (F : List Nat) : Prop :=
  ∃ a cap, v = .slice a ks.length cap ∧ ks.length ≤ 9223372036854775807 ∧
      ((ks = [] ∧ F = []) ∨ ∃ b G, a = some ⟨b, 0, none⟩ ∧ F = b :: G ∧ FreeB w b ∧ OwnDK w b 0 ks G)

theorem OwnD.open {w : World} {t : Kd} {c : C3} {F : List Nat} (h : OwnD w t c F) :
    c.c0 = .int .i64 t.sort ∧ I64 t.sort ∧ ∃ F1 F2, F = F1 ++ F2 ∧ StrsOwn w c.c1 t.names F1 ∧ KidsD w c.c2 t.kids F2 := by
  obtain ⟨s, ns, ks⟩ := t
  rw [OwnD] at h
  exact h

theorem OwnD.make {w : World} {t : Kd} {c : C3} {F1 F2 : List Nat} (h0 : c.c0 = .int .i64 t.sort) (h3 : I64 t.sort) (h6 : StrsOwn w c.c1 t.names F1) (h7 : KidsD w c.c2 t.kids F2) : OwnD w t c (F1 ++ F2) := by
  obtain ⟨s, ns, ks⟩ := t
  rw [OwnD]
  exact ⟨h0, h3, F1, F2, rfl, h6, h7⟩

mutual
theorem OwnD.carry {w w' : World} : ∀ (t : Kd) (c : C3) (F : List Nat), (∀ b, b ∈ F → w'.heap[b]? = w.heap[b]?) → OwnD w t c F → OwnD w' t c F
  | .mk s ns ks, c, F => by
    intro hF h
    rw [OwnD] at h ⊢
    obtain ⟨h0, h3, F1, F2, rfl, h6, a, cap, h7, h8, h9⟩ := h
    refine ⟨h0, h3, F1, F2, rfl, h6.carry (fun b hb => hF b (by simp [hb])), a, cap, h7, h8, ?_⟩
    rcases h9 with h | ⟨b, G, e, rfl, hfr, hk⟩
    · exact Or.inl h
    · have hb := hF b (by simp)
      exact Or.inr ⟨b, G, e, rfl, hfr.of_block hb, OwnDK.carry b 0 ks G (fun b' hb' => hF b' (by simp [hb'])) (fun j _ _ => World.cell?_of_block (w := w) hb) hk⟩
theorem OwnDK.carry {w w' : World} (b : Nat) (o : Nat) : ∀ (ks : List Kd) (F : List Nat), (∀ b, b ∈ F → w'.heap[b]? = w.heap[b]?) → (∀ j, o ≤ j → j < o + 3 * ks.length → w'.cell? ⟨b, j, none⟩ = w.cell? ⟨b, j, none⟩) → OwnDK w b o ks F → OwnDK w' b o ks F
  | [], F => by intro _ _ h; rw [OwnDK] at h ⊢; exact h
  | t :: r, F => by
    intro hF hc h
    rw [OwnDK] at h ⊢
    obtain ⟨F1, F2, c, rfl, h1, h2, h3⟩ := h
    have hl : o + 3 ≤ o + 3 * (t :: r).length := by simp [List.length_cons]; omega
    refine ⟨F1, F2, c, rfl, ?_, OwnD.carry t c F1 (fun b hb => hF b (by simp [hb])) h2, OwnDK.carry b (o + 3) r F2 (fun b hb => hF b (by simp [hb])) (fun j h1 h2 => hc j (by omega) (by simp only [List.length_cons]; omega)) h3⟩
    obtain ⟨g0, g1, g2⟩ := h1
    exact ⟨by rw [hc _ (by omega) (by omega)]; exact g0, by rw [hc _ (by omega) (by omega)]; exact g1, by rw [hc _ (by omega) (by omega)]; exact g2⟩
end

theorem KidsD.carry {w w' : World} {v : Value} {ks : List Kd} {F : List Nat} (h : KidsD w v ks F) (hF : ∀ b, b ∈ F → w'.heap[b]? = w.heap[b]?) : KidsD w' v ks F := by
  obtain ⟨a, cap, h1, h2, h3⟩ := h
  refine ⟨a, cap, h1, h2, ?_⟩
  rcases h3 with h | ⟨b, G, e, rfl, hfr, hk⟩
  · exact Or.inl h
  · have hb := hF b (by simp)
    exact Or.inr ⟨b, G, e, rfl, hfr.of_block hb, OwnDK.carry b 0 ks G (fun b' hb' => hF b' (by simp [hb'])) (fun j _ _ => World.cell?_of_block (w := w) hb) hk⟩

mutual
theorem OwnD.rep {w : World} {P : Nat → Prop} : ∀ (t : Kd) (c : C3) (F : List Nat), (∀ b, b ∈ F → P b) → OwnD w t c F → KRep P w t c
  | .mk s ns ks, c, F => by
    intro hF h
    rw [OwnD] at h
    obtain ⟨h0, h3, F1, F2, rfl, h6, a, cap, h7, h8, h9⟩ := h
    rw [KRep]
    refine ⟨h0, h3, h6.at.carry (fun _ _ => rfl) (fun b hb => hF b (by simp [hb])), a, cap, h7, h8, fun hk => ?_⟩
    rcases h9 with h | ⟨b, G, e, rfl, hfr, hk2⟩
    · exact absurd h.1 hk
    · exact ⟨b, 0, e, hF b (by simp), OwnDK.rep b 0 ks G (fun b' hb' => hF b' (by simp [hb'])) hk2⟩
theorem OwnDK.rep {w : World} {P : Nat → Prop} (b : Nat) (o : Nat) : ∀ (ks : List Kd) (F : List Nat), (∀ b, b ∈ F → P b) → OwnDK w b o ks F → KRepK P w b o ks
  | [], F => by intro _ _; rw [KRepK]; trivial
  | t :: r, F => by
    intro hF h
    rw [OwnDK] at h
    obtain ⟨F1, F2, c, rfl, h1, h2, h3⟩ := h
    rw [KRepK]
    exact ⟨⟨c, h1, OwnD.rep t c F1 (fun b hb => hF b (by simp [hb])) h2⟩, OwnDK.rep b (o + 3) r F2 (fun b hb => hF b (by simp [hb])) h3⟩
end

def c3l (c : C3) : List Value := [c.c0, c.c1, c.c2]

/-- Schemas whose cells stand in a row, each in blocks of its own. -/
def OwnLD (w : World) : List Kd → List Value → List Nat → Prop
  | [], xs, G => xs = [] ∧ G = []
  | t :: r, xs, G => ∃ c F G' xs', xs = c3l c ++ xs' ∧ G = F ++ G' ∧ OwnD w t c F ∧ OwnLD w r xs' G'

theorem OwnLD.snoc {w : World} {ks : List Kd} {xs : List Value} {G F : List Nat} {t : Kd} {c : C3} (h : OwnLD w ks xs G) (ht : OwnD w t c F) : OwnLD w (ks ++ [t]) (xs ++ c3l c) (G ++ F) := by
  induction ks generalizing xs G with
  | nil =>
    obtain ⟨rfl, rfl⟩ := h
    exact ⟨c, F, [], [], by simp, by simp, ht, rfl, rfl⟩
  | cons a r ih =>
    obtain ⟨d, F1, G', xs', rfl, rfl, h1, h2⟩ := h
    exact ⟨d, F1, G' ++ F, xs' ++ c3l c, by simp, by simp, h1, ih h2⟩

theorem OwnLD.carry {w w' : World} {ks : List Kd} {xs : List Value} {G : List Nat} (h : OwnLD w ks xs G) (hb : ∀ b, b ∈ G → w'.heap[b]? = w.heap[b]?) : OwnLD w' ks xs G := by
  induction ks generalizing xs G with
  | nil => exact h
  | cons a r ih =>
    obtain ⟨d, F1, G', xs', rfl, rfl, h1, h2⟩ := h
    exact ⟨d, F1, G', xs', rfl, rfl, OwnD.carry a d F1 (fun b hb' => hb b (by simp [hb'])) h1, ih h2 (fun b hb' => hb b (by simp [hb']))⟩

theorem OwnLD.ownK {w : World} {g : Nat} {ks : List Kd} {xs : List Value} {G : List Nat} {o : Nat} (h : OwnLD w ks xs G) (hc : ∀ j u, xs[j]? = some u → w.cell? ⟨g, o + j, none⟩ = some u) : OwnDK w g o ks G := by
  induction ks generalizing xs G o with
  | nil => rw [OwnDK]; exact h.2
  | cons a r ih =>
    obtain ⟨d, F1, G', xs', rfl, rfl, h1, h2⟩ := h
    rw [OwnDK]
    refine ⟨F1, G', d, rfl, ⟨hc 0 _ rfl, hc 1 _ rfl, hc 2 _ rfl⟩, h1, ih h2 (fun j u hj => ?_)⟩
    have := hc (3 + j) u (by
      rw [List.getElem?_append_right (by simp [c3l]), show 3 + j - (c3l d).length = j from by simp [c3l]]; exact hj)
    rw [show o + 3 + j = o + (3 + j) from by omega]; exact this

theorem cell_three (w : World) (c : C3) (t : TypeId) : ∀ j u, (c3l c)[j]? = some u → (w.alloc (.cells #[c.c0, c.c1, c.c2] t)).cell? ((⟨w.heap.size, 0, none⟩ : Addr).add j) = some u := by
  intro j u hj
  have hrow := row3_alloc w c.c0 c.c1 c.c2 t
  rw [Addr.add_lit, Nat.zero_add]
  match j with
  | 0 => rw [hrow.cell (by omega)]; exact hj
  | 1 => rw [hrow.cell (by omega)]; exact hj
  | 2 => rw [hrow.cell (by omega)]; exact hj
  | j + 3 => simp [c3l] at hj

theorem OwnD.one {w : World} {t : Kd} {c : C3} {F : List Nat} (h : OwnD w t c F) : ∀ u ∈ c3l c, u.oneCell' = true := by
  obtain ⟨h0, -, F1, F2, -, ⟨a, cap, h3, -⟩, a2, cap2, h4, -⟩ := h.open
  intro u hu
  simp only [c3l, h0, h3, h4, List.mem_cons, List.not_mem_nil, or_false] at hu
  rcases hu with rfl | rfl | rfl <;> rfl

/-- Schemas without names and kids. -/
theorem OwnD.leaf (w : World) (s : Int) (hs : I64 s) : OwnD w (.mk s [] []) ⟨.int .i64 s, .slice none 0 0, .slice none 0 0⟩ [] := by
  rw [OwnD]
  exact ⟨rfl, hs, [], [], rfl, ⟨none, 0, rfl, by simp, Or.inl ⟨rfl, rfl⟩⟩, none, 0, rfl, by simp, Or.inl ⟨rfl, rfl⟩⟩
/-- A schema with one kid, laid as a new row. -/
theorem OwnD.single {w : World} {s : Int} {k : Kd} {c : C3} {F : List Nat} {t : TypeId} (hs : I64 s) (h : OwnD w k c F) (hF : ∀ b, b ∈ F → b < w.heap.size) : OwnD (w.alloc (.cells #[c.c0, c.c1, c.c2] t)) (.mk s [] [k]) ⟨.int .i64 s, .slice none 0 0, .slice (some ⟨w.heap.size, 0, none⟩) 1 1⟩ (w.heap.size :: F) := by
  rw [OwnD]
  have q := row3_alloc w c.c0 c.c1 c.c2 t
  refine ⟨rfl, hs, [], w.heap.size :: F, rfl, ⟨none, 0, rfl, by simp, Or.inl ⟨rfl, rfl⟩⟩, some ⟨w.heap.size, 0, none⟩, 1, rfl, by simp, Or.inr ⟨w.heap.size, F, rfl, rfl, fun o => q.frozen o, ?_⟩⟩
  rw [OwnDK]
  exact ⟨F, [], c, by simp, ⟨q.cell (i := 0) (by omega), q.cell (i := 1) (by omega), q.cell (i := 2) (by omega)⟩, OwnD.carry k c F (fun b hb => Below.heap_alloc _ _ _ (hF b hb)) h, by rw [OwnDK]⟩

theorem row3_set1 {w : World} {B : Nat} {t : TypeId} {c0 c1 c2 : Value} (h : w.rowIs B t 3 (row3 c0 c1 c2)) (v : Value) : (w.setCell ⟨B, 1, none⟩ v).rowIs B t 3 (row3 c0 v c2) :=
  (h.set 1 v).congr (fun i hi => by
    match i, hi with
    | 0, _ => rfl
    | 1, _ => rfl
    | 2, _ => rfl)
theorem row3_set2 {w : World} {B : Nat} {t : TypeId} {c0 c1 c2 : Value} (h : w.rowIs B t 3 (row3 c0 c1 c2)) (v : Value) : (w.setCell ⟨B, 2, none⟩ v).rowIs B t 3 (row3 c0 c1 v) :=
  (h.set 2 v).congr (fun i hi => by
    match i, hi with
    | 0, _ => rfl
    | 1, _ => rfl
    | 2, _ => rfl)

end Go.Proofs.Ytmaojhacdelleaa

/- Rows of schemas that share their memory: what is read of kids, laid in a new row, one kid put in another's place. No program walked; no conditions. -/

namespace Go.Proofs.Ytmaojhacdelleaa
open Go Go.RowKit

/-- The cells of a row are those of schemas. -/
def KL3 (P : Nat → Prop) (w : World) (ks : List Kd) (xs : List Value) : Prop :=
  xs.length = ks.length * 3 ∧ ∀ i, (hi : i < ks.length) → ∃ c : C3, xs[i * 3]? = some c.c0 ∧ xs[i * 3 + 1]? = some c.c1 ∧ xs[i * 3 + 2]? = some c.c2 ∧ KRep P w ks[i] c

theorem KL3.carry {P Q : Nat → Prop} {w w' : World} {ks : List Kd} {xs : List Value} (h : KL3 P w ks xs) (hP : ∀ b, P b → w'.heap[b]? = w.heap[b]?) (hQ : ∀ b, P b → Q b) : KL3 Q w' ks xs :=
  ⟨h.1, fun i hi => by obtain ⟨c, h1, h2, h3, h4⟩ := h.2 i hi; exact ⟨c, h1, h2, h3, KRep.carry hP hQ _ _ h4⟩⟩

theorem KL3.of {P : Nat → Prop} {w : World} {b : Nat} : ∀ (ks : List Kd) (o : Nat), KRepK P w b o ks → ∃ xs, KL3 P w ks xs ∧ (∀ j u, xs[j]? = some u → w.cell? ⟨b, o + j, none⟩ = some u) ∧ ∀ u ∈ xs, u.oneCell' = true
  | [], o, _ => ⟨[], ⟨rfl, fun i hi => by simp at hi⟩, fun j u h => by simp at h, fun u h => by cases h⟩
  | t :: r, o, h => by
    rw [KRepK] at h
    obtain ⟨⟨c, ⟨a0, a1, a2⟩, hr⟩, h2⟩ := h
    obtain ⟨ys, ⟨hl, hy⟩, hc, h1c⟩ := KL3.of r (o + 3) h2
    obtain ⟨e0, -, ⟨a3, cap3, e1, -⟩, a4, cap4, e2, -⟩ := hr.open
    refine ⟨c.c0 :: c.c1 :: c.c2 :: ys, ⟨by simp [hl]; omega, fun i hi => ?_⟩, fun j u hj => ?_, fun u hu => ?_⟩
    · cases i with
      | zero => exact ⟨c, rfl, rfl, rfl, hr⟩
      | succ i =>
        obtain ⟨d, q0, q1, q2, q3⟩ := hy i (by simpa using hi)
        refine ⟨d, ?_, ?_, ?_, q3⟩
        · rw [show (i + 1) * 3 = i * 3 + 3 from by omega]; simpa using q0
        · rw [show (i + 1) * 3 + 1 = i * 3 + 1 + 3 from by omega]; simpa using q1
        · rw [show (i + 1) * 3 + 2 = i * 3 + 2 + 3 from by omega]; simpa using q2
    · match j with
      | 0 => simp at hj; subst hj; exact a0
      | 1 => simp at hj; subst hj; exact a1
      | 2 => simp at hj; subst hj; exact a2
      | j + 3 =>
        have := hc j u (by simpa using hj)
        rw [show o + (j + 3) = o + 3 + j from by omega]; exact this
    · rcases List.mem_cons.1 hu with rfl | hu
      · rw [e0]; rfl
      rcases List.mem_cons.1 hu with rfl | hu
      · rw [e1]; rfl
      rcases List.mem_cons.1 hu with rfl | hu
      · rw [e2]; rfl
      exact h1c u hu

theorem KL3.back {P : Nat → Prop} {w : World} {g : Nat} {ks : List Kd} {xs : List Value} (h : KL3 P w ks xs) (hc : ∀ j u, xs[j]? = some u → w.cell? ⟨g, j, none⟩ = some u) : KRepK P w g 0 ks :=
  KRepK.mk fun i hi => by
    obtain ⟨c, h1, h2, h3, h4⟩ := h.2 i hi
    exact ⟨c, ⟨by rw [Nat.zero_add]; exact hc _ _ h1, by rw [Nat.zero_add]; exact hc _ _ h2, by rw [Nat.zero_add]; exact hc _ _ h3⟩, h4⟩

/-- One more behind them. -/
theorem KL3.snoc {P : Nat → Prop} {w : World} {ks : List Kd} {xs : List Value} {k : Kd} {c : C3} (h : KL3 P w ks xs) (hk : KRep P w k c) : KL3 P w (ks ++ [k]) (xs ++ c3l c) := by
  obtain ⟨hl, h2⟩ := h
  refine ⟨by simp [hl, c3l]; omega, fun i hi => ?_⟩
  simp only [List.length_append, List.length_cons, List.length_nil] at hi
  by_cases e : i < ks.length
  · obtain ⟨d, q0, q1, q2, q3⟩ := h2 i e
    refine ⟨d, ?_, ?_, ?_, ?_⟩
    · rw [List.getElem?_append_left (by omega)]; exact q0
    · rw [List.getElem?_append_left (by omega)]; exact q1
    · rw [List.getElem?_append_left (by omega)]; exact q2
    · rw [List.getElem_append_left e]; exact q3
  · obtain rfl : i = ks.length := by omega
    refine ⟨c, ?_, ?_, ?_, ?_⟩
    · rw [List.getElem?_append_right (by omega), hl]; simp [c3l]
    · rw [List.getElem?_append_right (by omega), hl]; simp [c3l, show ks.length * 3 + 1 - ks.length * 3 = 1 from by omega]
    · rw [List.getElem?_append_right (by omega), hl]; simp [c3l, show ks.length * 3 + 2 - ks.length * 3 = 2 from by omega]
    · simpa using hk

/-- One in another's place. -/
theorem KL3.put {P : Nat → Prop} {w : World} {ks : List Kd} {xs : List Value} {k : Kd} {c : C3} {i : Nat} (h : KL3 P w ks xs) (hi : i < ks.length) (hk : KRep P w k c) : KL3 P w (ks.set i k) (((xs.set (i * 3) c.c0).set (i * 3 + 1) c.c1).set (i * 3 + 2) c.c2) := by
  obtain ⟨hl, h2⟩ := h
  refine ⟨by simp [hl], fun j hj => ?_⟩
  rw [List.length_set] at hj
  by_cases e : i = j
  · subst e
    refine ⟨c, ?_, ?_, ?_, by simpa using hk⟩
    · rw [List.getElem?_set_ne (by omega), List.getElem?_set_ne (by omega), List.getElem?_set_self (by omega)]
    · rw [List.getElem?_set_ne (by omega), List.getElem?_set_self (by simp; omega)]
    · rw [List.getElem?_set_self (by simp; omega)]
  · obtain ⟨d, q0, q1, q2, q3⟩ := h2 j hj
    refine ⟨d, ?_, ?_, ?_, by rw [List.getElem_set_ne e]; exact q3⟩
    · rw [List.getElem?_set_ne (by omega), List.getElem?_set_ne (by omega), List.getElem?_set_ne (by omega)]; exact q0
    · rw [List.getElem?_set_ne (by omega), List.getElem?_set_ne (by omega), List.getElem?_set_ne (by omega)]; exact q1
    · rw [List.getElem?_set_ne (by omega), List.getElem?_set_ne (by omega), List.getElem?_set_ne (by omega)]; exact q2

theorem wKs_set : ∀ (ks : List Kd) (i : Nat) (k : Kd) (hi : i < ks.length), wKs (ks.set i k) + wKd ks[i] = wKs ks + wKd k
  | a :: r, 0, k, _ => by simp [wKs]; omega
  | a :: r, i + 1, k, hi => by
    have := wKs_set r i k (by simpa using hi)
    simp only [List.set_cons_succ, wKs, List.getElem_cons_succ]; omega
theorem wKs_get : ∀ (ks : List Kd) (i : Nat) (hi : i < ks.length), wKd ks[i] + 1 ≤ wKs ks
  | a :: r, 0, _ => by simp [wKs]; omega
  | a :: r, i + 1, hi => by
    have := wKs_get r i (by simpa using hi)
    simp only [wKs, List.getElem_cons_succ]; omega
theorem ownsRow_put {w : World} {base : Nat} {e : TypeId} {size g n cap : Nat} {xs : List Value} (h : w.ownsRow base e size (.slice (some ⟨g, 0, none⟩) n cap) n xs) (j : Nat) (u : Value) : (w.setCell ⟨g, j, none⟩ u).ownsRow base e size (.slice (some ⟨g, 0, none⟩) n cap) n (xs.set j u) := by
  rcases h.2 with ⟨hv, _⟩ | ⟨g', cap', cur, hv, hb, hg, hnc, hcm, hcs, htk⟩
  · simp at hv
  · simp only [Value.slice.injEq, Option.some.injEq, Addr.mk.injEq, and_true, true_and] at hv
    obtain ⟨rfl, rfl⟩ := hv
    refine ⟨by rw [List.length_set]; exact h.1, Or.inr ⟨g, cap, cur.setIfInBounds j u, rfl, hb, ?_, hnc, hcm, by rw [Array.size_setIfInBounds]; exact hcs, ?_⟩⟩
    · simp [World.setCell, Array.getElem?_modify, hg]
    · rw [Array.toList_setIfInBounds, List.take_set, htk]

theorem ownsRow_free {w : World} {base : Nat} {e : TypeId} {size g n cap : Nat} {xs : List Value} (h : w.ownsRow base e size (.slice (some ⟨g, 0, none⟩) n cap) n xs) (j : Nat) : w.frozen? ⟨g, j, none⟩ = false := by
  rcases h.2 with ⟨hv, _⟩ | ⟨g', cap', cur, hv, hb, hg, _⟩
  · simp at hv
  · simp only [Value.slice.injEq, Option.some.injEq, Addr.mk.injEq, and_true, true_and] at hv
    obtain ⟨rfl, -⟩ := hv
    simp [World.frozen?, hg]

/-- An empty row of a call's own. -/
theorem empty_row {w : World} {g base : Nat} {e : TypeId} {size : Nat} {f : Nat → Value} (h : w.rowIs g e 0 f) (hb : base ≤ g) : w.ownsRow base e size (.slice (some ⟨g, 0, none⟩) 0 0) 0 [] := by
  obtain ⟨c, h1, h2, -⟩ := h
  exact ⟨by simp, Or.inr ⟨g, 0, c, rfl, hb, h1, Nat.le_refl _, by decide, by omega, by simp⟩⟩
end Go.Proofs.Ytmaojhacdelleaa
