/- The first tree of a schema, as plain data; trees gathered in a row of the call's own. Definitions and small laws; no program walked, no conditions. -/
import Derived.Test.YtbkagahmiibclaaGreatDoorPart00
import Derived.Test.YtbkagahmiibclaaGreatDoorRows
import Derived.Deep.OwnRows
import Derived.Deep.RegionWith
namespace Go.Proofs.YtbkagahmiibclaaGreatDoor
open Go Go.RowKit

def c5l (c : C5) : List Value := [c.c0, c.c1, c.c2, c.c3, c.c4]

/-- Trees whose cells stand in a row, each in blocks of its own. -/
def OwnL (w : World) : List Tr → List Value → List Nat → Prop
  | [], xs, G => xs = [] ∧ G = []
  | t :: r, xs, G => ∃ c F G' xs', xs = c5l c ++ xs' ∧ G = F ++ G' ∧ Own w t c F ∧ OwnL w r xs' G'

theorem OwnL.snoc {w : World} {ks : List Tr} {xs : List Value} {G F : List Nat} {t : Tr} {c : C5} (h : OwnL w ks xs G) (ht : Own w t c F) : OwnL w (ks ++ [t]) (xs ++ c5l c) (G ++ F) := by
  induction ks generalizing xs G with
  | nil =>
    obtain ⟨rfl, rfl⟩ := h
    exact ⟨c, F, [], [], by simp, by simp, ht, rfl, rfl⟩
  | cons a r ih =>
    obtain ⟨d, F1, G', xs', rfl, rfl, h1, h2⟩ := h
    exact ⟨d, F1, G' ++ F, xs' ++ c5l c, by simp, by simp, h1, ih h2⟩

theorem OwnL.carry {w w' : World} {ks : List Tr} {xs : List Value} {G : List Nat} (h : OwnL w ks xs G) (hb : ∀ b, b ∈ G → w'.heap[b]? = w.heap[b]?) : OwnL w' ks xs G := by
  induction ks generalizing xs G with
  | nil => exact h
  | cons a r ih =>
    obtain ⟨d, F1, G', xs', rfl, rfl, h1, h2⟩ := h
    exact ⟨d, F1, G', xs', rfl, rfl, Own.carry a d F1 (fun b hb' => hb b (by simp [hb'])) h1, ih h2 (fun b hb' => hb b (by simp [hb']))⟩

theorem OwnL.ownK {w : World} {g : Nat} {ks : List Tr} {xs : List Value} {G : List Nat} {o : Nat} (h : OwnL w ks xs G) (hc : ∀ j u, xs[j]? = some u → w.cell? ⟨g, o + j, none⟩ = some u) : OwnK w g o ks G := by
  induction ks generalizing xs G o with
  | nil => rw [OwnK]; exact h.2
  | cons a r ih =>
    obtain ⟨d, F1, G', xs', rfl, rfl, h1, h2⟩ := h
    rw [OwnK]
    refine ⟨F1, G', d, rfl, ⟨hc 0 _ rfl, hc 1 _ rfl, hc 2 _ rfl, hc 3 _ rfl, hc 4 _ rfl⟩, h1, ih h2 (fun j u hj => ?_)⟩
    have := hc (5 + j) u (by
      rw [List.getElem?_append_right (by simp [c5l]), show 5 + j - (c5l d).length = j from by simp [c5l]]; exact hj)
    rw [show o + 5 + j = o + (5 + j) from by omega]; exact this

/-- What the loop has gathered: trees in a row of the call's own. -/
structure GotO (base : Nat) (w : World) (v : Value) (ks : List Tr) (xs : List Value) (G : List Nat) : Prop where
  row : w.ownsRow base 26 5 v ks.length xs
  own : OwnL w ks xs G
  nodup : G.Nodup
  lt : ∀ b, b ∈ G → base ≤ b ∧ b < w.heap.size ∧ v.ownBlock ≠ some b

theorem GotO.start (base : Nat) (w : World) : GotO base w (.slice none 0 0) [] [] [] :=
  ⟨World.ownsRow_nil _ _ _ _, ⟨rfl, rfl⟩, List.nodup_nil, fun b hb => by simp at hb⟩

/-- A world in which nothing at or beyond the base has turned that was there. -/
theorem GotO.kept {base : Nat} {w w' : World} {v : Value} {ks : List Tr} {xs : List Value} {G : List Nat} (h : GotO base w v ks xs G) (hg : w.grownBy w' none) : GotO base w' v ks xs G :=
  ⟨h.row.kept hg (by
      rcases e : v.ownBlock with _ | g
      · exact Or.inl rfl
      · exact Or.inr (by simp)), h.own.carry (fun b hb => hg.block b (h.lt b hb).2.1 (by simp)), h.nodup, fun b hb => ⟨(h.lt b hb).1, Nat.lt_of_lt_of_le (h.lt b hb).2.1 hg.size, (h.lt b hb).2.2⟩⟩

/-- One tree more: its blocks are newer than all that was gathered. -/
theorem GotO.push {base m : Nat} {w w' : World} {v v' : Value} {ks : List Tr} {xs : List Value} {G F : List Nat} {t : Tr} {c : C5} (h : GotO base w v ks xs G) (ht : Own w t c F) (hnd : F.Nodup) (hF : ∀ b, b ∈ F → m ≤ b ∧ b < w.heap.size)
    (hGm : ∀ b, b ∈ G → b < m) (hvm : ∀ b, v.ownBlock = some b → b < m) (hbm : base ≤ m)
    (hown : w'.ownsRow base 26 5 v' (ks.length + 1) (xs ++ c5l c)) (hg : w.grownBy w' v.ownBlock) (hv : v'.ownBlock = v.ownBlock ∨ ∃ g, v'.ownBlock = some g ∧ w.heap.size ≤ g) :
    GotO base w' v' (ks ++ [t]) (xs ++ c5l c) (G ++ F) := by
  have hkG : ∀ b, b ∈ G → w'.heap[b]? = w.heap[b]? := fun b hb => hg.block b (h.lt b hb).2.1 (fun e => (h.lt b hb).2.2 e.symm)
  have hkF : ∀ b, b ∈ F → w'.heap[b]? = w.heap[b]? := fun b hb => hg.block b (hF b hb).2 (fun e => by have := hvm b e.symm; have := (hF b hb).1; omega)
  refine ⟨by simpa using hown, (h.own.carry hkG).snoc (Own.carry t c F hkF ht), List.nodup_append.2 ⟨h.nodup, hnd, fun a ha b hb e => by have := hGm a ha; have := (hF b hb).1; omega⟩, fun b hb => ?_⟩
  rcases List.mem_append.1 hb with hb | hb
  · refine ⟨(h.lt b hb).1, Nat.lt_of_lt_of_le (h.lt b hb).2.1 hg.size, ?_⟩
    rcases hv with e | ⟨g, e, hge⟩
    · rw [e]; exact (h.lt b hb).2.2
    · rw [e]; intro e2; simp only [Option.some.injEq] at e2; have := (h.lt b hb).2.1; omega
  · refine ⟨by have := (hF b hb).1; omega, Nat.lt_of_lt_of_le (hF b hb).2 hg.size, ?_⟩
    rcases hv with e | ⟨g, e, hge⟩
    · rw [e]; intro e2; have := hvm b e2; have := (hF b hb).1; omega
    · rw [e]; intro e2; simp only [Option.some.injEq] at e2; have := (hF b hb).2; omega

theorem freeOfHeap {w : World} {g : Nat} {cur : Array Value} {e : TypeId} (h : w.heap[g]? = some (.cells cur e (0, 0))) : FreeB w g := fun o => by simp [World.frozen?, h]

/-- A row of strings of the call's own. -/
theorem strsOwn_of_row {base : Nat} {w : World} {v : Value} {ss : List ByteArray} (h : w.ownsRow base 9 1 v ss.length (ss.map Value.string)) (hs : ∀ x, x ∈ ss → x.size ≤ 9223372036854775807) :
    ∃ F, StrsOwn w v ss F ∧ F.Nodup ∧ (∀ b, b ∈ F → base ≤ b ∧ b < w.heap.size) ∧ ∀ b, b ∈ F → v.ownBlock = some b := by
  rcases h.2 with ⟨hv, hn0⟩ | ⟨g, cap, cur, hv, hgb, hh, hle, hm2, hsz, htk⟩
  · have hss : ss = [] := List.eq_nil_of_length_eq_zero hn0
    subst hss
    exact ⟨[], ⟨none, 0, hv, by simp, Or.inl ⟨rfl, rfl⟩⟩, List.nodup_nil, fun b hb => by simp at hb, fun b hb => by simp at hb⟩
  · refine ⟨[g], ⟨some ⟨g, 0, none⟩, cap, hv, by unfold maxLen at hm2; omega, Or.inr ⟨g, rfl, rfl, freeOfHeap hh, fun i hi => ⟨?_, hs _ (List.getElem_mem hi)⟩⟩⟩, by simp, fun b hb => ?_, fun b hb => by simp at hb; subst hb; rw [hv]; rfl⟩
    · have h1 : (ss.map Value.string)[i]? = some (.string ss[i]) := by simp [hi]
      rw [← htk, List.getElem?_take_of_lt (by omega)] at h1
      simp only [World.cell?, hh]
      simpa using h1
    · simp at hb; subst hb
      exact ⟨hgb, (Array.getElem?_eq_some_iff.1 hh).1⟩

/-- What was gathered is a slice of trees in blocks of its own. -/
theorem GotO.done {base : Nat} {w : World} {v : Value} {ks : List Tr} {xs : List Value} {G : List Nat} (h : GotO base w v ks xs G) :
    ∃ F, KidsOwn w v ks F ∧ F.Nodup ∧ (∀ b, b ∈ F → base ≤ b ∧ b < w.heap.size) ∧ ∀ b, b ∈ F → v.ownBlock = some b ∨ b ∈ G := by
  rcases h.row.2 with ⟨hv, hn0⟩ | ⟨g, cap, cur, hv, hgb, hh, hle, hm2, hsz, htk⟩
  · have hks : ks = [] := List.eq_nil_of_length_eq_zero hn0
    subst hks
    exact ⟨[], ⟨none, 0, hv, by simp, Or.inl ⟨rfl, rfl⟩⟩, List.nodup_nil, fun b hb => by simp at hb, fun b hb => by simp at hb⟩
  · have hob : v.ownBlock = some g := by rw [hv]; rfl
    refine ⟨g :: G, ⟨some ⟨g, 0, none⟩, cap, hv, by unfold maxLen at hm2; omega, Or.inr ⟨g, G, rfl, rfl, freeOfHeap hh, h.own.ownK (fun j u hj => ?_)⟩⟩, List.nodup_cons.2 ⟨fun hm => (h.lt g hm).2.2 hob, h.nodup⟩, fun b hb => ?_, fun b hb => by
        rcases List.mem_cons.1 hb with rfl | hb
        · exact Or.inl hob
        · exact Or.inr hb⟩
    · have hj' : cur.toList[j]? = some u := by
        rw [← htk] at hj
        rw [List.getElem?_take] at hj
        split at hj
        · exact hj
        · cases hj
      simp only [Nat.zero_add, World.cell?, hh]
      simpa using hj'
    · rcases List.mem_cons.1 hb with rfl | hb
      · exact ⟨hgb, (Array.getElem?_eq_some_iff.1 hh).1⟩
      · exact ⟨(h.lt b hb).1, (h.lt b hb).2.1⟩

theorem cell_five (w : World) (c : C5) (t : TypeId) : ∀ j u, (c5l c)[j]? = some u → (w.alloc (.cells #[c.c0, c.c1, c.c2, c.c3, c.c4] t)).cell? ((⟨w.heap.size, 0, none⟩ : Addr).add j) = some u := by
  intro j u hj
  have hrow := row5_alloc w c.c0 c.c1 c.c2 c.c3 c.c4 t
  rw [Addr.add_lit, Nat.zero_add]
  match j with
  | 0 => rw [hrow.cell (by omega)]; exact hj
  | 1 => rw [hrow.cell (by omega)]; exact hj
  | 2 => rw [hrow.cell (by omega)]; exact hj
  | 3 => rw [hrow.cell (by omega)]; exact hj
  | 4 => rw [hrow.cell (by omega)]; exact hj
  | j + 5 => simp [c5l] at hj

theorem Own.one {w : World} {t : Tr} {c : C5} {F : List Nat} (h : Own w t c F) : ∀ u ∈ c5l c, u.oneCell' = true := by
  obtain ⟨h0, h1, h2, -, -, -, F1, F2, -, ⟨a, cap, h3, -⟩, a2, cap2, h4, -⟩ := h.open
  intro u hu
  simp only [c5l, h0, h1, h2, h3, h4, List.mem_cons, List.not_mem_nil, or_false] at hu
  rcases hu with rfl | rfl | rfl | rfl | rfl <;> rfl
end Go.Proofs.YtbkagahmiibclaaGreatDoor

/- Schemas that own their memory: what blocks they lie in, each named once; schemas gathered in a row of the call's own. Definitions and small laws; no program walked, no conditions. -/

namespace Go.Proofs.YtbkagahmiibclaaGreatDoor
open Go Go.RowKit

mutual
/-- Three cells are a schema, and all that they lead to lies in the blocks F, in this order. -/
def OwnD (w : World) : Kd → C3 → List Nat → Prop
  | .mk s ns ks, c, F => c.c0 = .int .i64 s ∧ I64 s ∧
    ∃ F1 F2, F = F1 ++ F2 ∧ StrsOwn w c.c1 ns F1 ∧ ∃ a cap, c.c2 = .slice a ks.length cap ∧ ks.length ≤ 9223372036854775807 ∧
      ((ks = [] ∧ F2 = []) ∨ ∃ b G, a = some ⟨b, 0, none⟩ ∧ F2 = b :: G ∧ FreeB w b ∧ OwnDK w b 0 ks G)
def OwnDK (w : World) (b : Nat) (o : Nat) : List Kd → List Nat → Prop
  | [], F => F = []
  | t :: r, F => ∃ F1 F2 c, F = F1 ++ F2 ∧ C3.at w b o c ∧ OwnD w t c F1 ∧ OwnDK w b (o + 3) r F2
end

/-- A slice of schemas in a block of its own. -/
def KidsD (w : World) (v : Value) (ks : List Kd) (F : List Nat) : Prop :=
  ∃ a cap, v = .slice a ks.length cap ∧ ks.length ≤ 9223372036854775807 ∧
      ((ks = [] ∧ F = []) ∨ ∃ b G, a = some ⟨b, 0, none⟩ ∧ F = b :: G ∧ FreeB w b ∧ OwnDK w b 0 ks G)

theorem OwnD.open {w : World} {t : Kd} {c : C3} {F : List Nat} (h : OwnD w t c F) :
    c.c0 = .int .i64 t.sort ∧ I64 t.sort ∧ ∃ F1 F2, F = F1 ++ F2 ∧ StrsOwn w c.c1 t.names F1 ∧ KidsD w c.c2 t.kids F2 := by
  obtain ⟨s, ns, ks⟩ := t
  rw [OwnD] at h
  exact h

theorem OwnD.make {w : World} {t : Kd} {c : C3} {F1 F2 : List Nat} (h0 : c.c0 = .int .i64 t.sort) (h3 : I64 t.sort) (h6 : StrsOwn w c.c1 t.names F1) (h7 : KidsD w c.c2 t.kids F2) : OwnD w t c (F1 ++ F2) := by
  obtain ⟨s, ns, ks⟩ := t
  rw [OwnD]
  exact ⟨h0, h3, F1, F2, rfl, h6, h7⟩

mutual
theorem OwnD.carry {w w' : World} : ∀ (t : Kd) (c : C3) (F : List Nat), (∀ b, b ∈ F → w'.heap[b]? = w.heap[b]?) → OwnD w t c F → OwnD w' t c F
  | .mk s ns ks, c, F => by
    intro hF h
    rw [OwnD] at h ⊢
    obtain ⟨h0, h3, F1, F2, rfl, h6, a, cap, h7, h8, h9⟩ := h
    refine ⟨h0, h3, F1, F2, rfl, h6.carry (fun b hb => hF b (by simp [hb])), a, cap, h7, h8, ?_⟩
    rcases h9 with h | ⟨b, G, e, rfl, hfr, hk⟩
    · exact Or.inl h
    · have hb := hF b (by simp)
      exact Or.inr ⟨b, G, e, rfl, hfr.of_block hb, OwnDK.carry b 0 ks G (fun b' hb' => hF b' (by simp [hb'])) (fun j _ _ => World.cell?_of_block (w := w) hb) hk⟩
theorem OwnDK.carry {w w' : World} (b : Nat) (o : Nat) : ∀ (ks : List Kd) (F : List Nat), (∀ b, b ∈ F → w'.heap[b]? = w.heap[b]?) → (∀ j, o ≤ j → j < o + 3 * ks.length → w'.cell? ⟨b, j, none⟩ = w.cell? ⟨b, j, none⟩) → OwnDK w b o ks F → OwnDK w' b o ks F
  | [], F => by intro _ _ h; rw [OwnDK] at h ⊢; exact h
  | t :: r, F => by
    intro hF hc h
    rw [OwnDK] at h ⊢
    obtain ⟨F1, F2, c, rfl, h1, h2, h3⟩ := h
    have hl : o + 3 ≤ o + 3 * (t :: r).length := by simp [List.length_cons]; omega
    refine ⟨F1, F2, c, rfl, ?_, OwnD.carry t c F1 (fun b hb => hF b (by simp [hb])) h2, OwnDK.carry b (o + 3) r F2 (fun b hb => hF b (by simp [hb])) (fun j h1 h2 => hc j (by omega) (by simp only [List.length_cons]; omega)) h3⟩
    obtain ⟨g0, g1, g2⟩ := h1
    exact ⟨by rw [hc _ (by omega) (by omega)]; exact g0, by rw [hc _ (by omega) (by omega)]; exact g1, by rw [hc _ (by omega) (by omega)]; exact g2⟩
end

theorem KidsD.carry {w w' : World} {v : Value} {ks : List Kd} {F : List Nat} (h : KidsD w v ks F) (hF : ∀ b, b ∈ F → w'.heap[b]? = w.heap[b]?) : KidsD w' v ks F := by
  obtain ⟨a, cap, h1, h2, h3⟩ := h
  refine ⟨a, cap, h1, h2, ?_⟩
  rcases h3 with h | ⟨b, G, e, rfl, hfr, hk⟩
  · exact Or.inl h
  · have hb := hF b (by simp)
    exact Or.inr ⟨b, G, e, rfl, hfr.of_block hb, OwnDK.carry b 0 ks G (fun b' hb' => hF b' (by simp [hb'])) (fun j _ _ => World.cell?_of_block (w := w) hb) hk⟩

mutual
theorem OwnD.rep {w : World} {P : Nat → Prop} : ∀ (t : Kd) (c : C3) (F : List Nat), (∀ b, b ∈ F → P b) → OwnD w t c F → KRep P w t c
  | .mk s ns ks, c, F => by
    intro hF h
    rw [OwnD] at h
    obtain ⟨h0, h3, F1, F2, rfl, h6, a, cap, h7, h8, h9⟩ := h
    rw [KRep]
    refine ⟨h0, h3, h6.at.carry (fun _ _ => rfl) (fun b hb => hF b (by simp [hb])), a, cap, h7, h8, fun hk => ?_⟩
    rcases h9 with h | ⟨b, G, e, rfl, hfr, hk2⟩
    · exact absurd h.1 hk
    · exact ⟨b, 0, e, hF b (by simp), OwnDK.rep b 0 ks G (fun b' hb' => hF b' (by simp [hb'])) hk2⟩
theorem OwnDK.rep {w : World} {P : Nat → Prop} (b : Nat) (o : Nat) : ∀ (ks : List Kd) (F : List Nat), (∀ b, b ∈ F → P b) → OwnDK w b o ks F → KRepK P w b o ks
  | [], F => by intro _ _; rw [KRepK]; trivial
  | t :: r, F => by
    intro hF h
    rw [OwnDK] at h
    obtain ⟨F1, F2, c, rfl, h1, h2, h3⟩ := h
    rw [KRepK]
    exact ⟨⟨c, h1, OwnD.rep t c F1 (fun b hb => hF b (by simp [hb])) h2⟩, OwnDK.rep b (o + 3) r F2 (fun b hb => hF b (by simp [hb])) h3⟩
end

def c3l (c : C3) : List Value := [c.c0, c.c1, c.c2]

/-- Schemas whose cells stand in a row, each in blocks of its own. -/
def OwnLD (w : World) : List Kd → List Value → List Nat → Prop
  | [], xs, G => xs = [] ∧ G = []
  | t :: r, xs, G => ∃ c F G' xs', xs = c3l c ++ xs' ∧ G = F ++ G' ∧ OwnD w t c F ∧ OwnLD w r xs' G'

theorem OwnLD.snoc {w : World} {ks : List Kd} {xs : List Value} {G F : List Nat} {t : Kd} {c : C3} (h : OwnLD w ks xs G) (ht : OwnD w t c F) : OwnLD w (ks ++ [t]) (xs ++ c3l c) (G ++ F) := by
  induction ks generalizing xs G with
  | nil =>
    obtain ⟨rfl, rfl⟩ := h
    exact ⟨c, F, [], [], by simp, by simp, ht, rfl, rfl⟩
  | cons a r ih =>
    obtain ⟨d, F1, G', xs', rfl, rfl, h1, h2⟩ := h
    exact ⟨d, F1, G' ++ F, xs' ++ c3l c, by simp, by simp, h1, ih h2⟩

theorem OwnLD.carry {w w' : World} {ks : List Kd} {xs : List Value} {G : List Nat} (h : OwnLD w ks xs G) (hb : ∀ b, b ∈ G → w'.heap[b]? = w.heap[b]?) : OwnLD w' ks xs G := by
  induction ks generalizing xs G with
  | nil => exact h
  | cons a r ih =>
    obtain ⟨d, F1, G', xs', rfl, rfl, h1, h2⟩ := h
    exact ⟨d, F1, G', xs', rfl, rfl, OwnD.carry a d F1 (fun b hb' => hb b (by simp [hb'])) h1, ih h2 (fun b hb' => hb b (by simp [hb']))⟩

theorem OwnLD.ownK {w : World} {g : Nat} {ks : List Kd} {xs : List Value} {G : List Nat} {o : Nat} (h : OwnLD w ks xs G) (hc : ∀ j u, xs[j]? = some u → w.cell? ⟨g, o + j, none⟩ = some u) : OwnDK w g o ks G := by
  induction ks generalizing xs G o with
  | nil => rw [OwnDK]; exact h.2
  | cons a r ih =>
    obtain ⟨d, F1, G', xs', rfl, rfl, h1, h2⟩ := h
    rw [OwnDK]
    refine ⟨F1, G', d, rfl, ⟨hc 0 _ rfl, hc 1 _ rfl, hc 2 _ rfl⟩, h1, ih h2 (fun j u hj => ?_)⟩
    have := hc (3 + j) u (by
      rw [List.getElem?_append_right (by simp [c3l]), show 3 + j - (c3l d).length = j from by simp [c3l]]; exact hj)
    rw [show o + 3 + j = o + (3 + j) from by omega]; exact this

/-- What the loop has gathered: schemas in a row of the call's own. -/
structure GotD (base : Nat) (w : World) (v : Value) (ks : List Kd) (xs : List Value) (G : List Nat) : Prop where
  row : w.ownsRow base 83 3 v ks.length xs
  own : OwnLD w ks xs G
  nodup : G.Nodup
  lt : ∀ b, b ∈ G → base ≤ b ∧ b < w.heap.size ∧ v.ownBlock ≠ some b

theorem GotD.start (base : Nat) (w : World) : GotD base w (.slice none 0 0) [] [] [] :=
  ⟨World.ownsRow_nil _ _ _ _, ⟨rfl, rfl⟩, List.nodup_nil, fun b hb => by simp at hb⟩

theorem GotD.other {base : Nat} {w w' : World} {v : Value} {ks : List Kd} {xs : List Value} {G : List Nat} {row : Option Nat} (h : GotD base w v ks xs G) (hg : w.grownBy w' row) (hr : ∀ b, row = some b → v.ownBlock ≠ some b ∧ b ∉ G) : GotD base w' v ks xs G :=
  ⟨h.row.kept hg (by
      rcases e : v.ownBlock with _ | g
      · exact Or.inl rfl
      · exact Or.inr (fun e2 => (hr g e2.symm).1 e)), h.own.carry (fun b hb => hg.block b (h.lt b hb).2.1 (fun e => (hr b e.symm).2 hb)), h.nodup, fun b hb => ⟨(h.lt b hb).1, Nat.lt_of_lt_of_le (h.lt b hb).2.1 hg.size, (h.lt b hb).2.2⟩⟩

/-- One schema more: its blocks are newer than all that was gathered. -/
theorem GotD.push {base m : Nat} {w w' : World} {v v' : Value} {ks : List Kd} {xs : List Value} {G F : List Nat} {t : Kd} {c : C3} (h : GotD base w v ks xs G) (ht : OwnD w t c F) (hnd : F.Nodup) (hF : ∀ b, b ∈ F → m ≤ b ∧ b < w.heap.size)
    (hGm : ∀ b, b ∈ G → b < m) (hvm : ∀ b, v.ownBlock = some b → b < m) (hbm : base ≤ m)
    (hown : w'.ownsRow base 83 3 v' (ks.length + 1) (xs ++ c3l c)) (hg : w.grownBy w' v.ownBlock) (hv : v'.ownBlock = v.ownBlock ∨ ∃ g, v'.ownBlock = some g ∧ w.heap.size ≤ g) :
    GotD base w' v' (ks ++ [t]) (xs ++ c3l c) (G ++ F) := by
  have hkG : ∀ b, b ∈ G → w'.heap[b]? = w.heap[b]? := fun b hb => hg.block b (h.lt b hb).2.1 (fun e => (h.lt b hb).2.2 e.symm)
  have hkF : ∀ b, b ∈ F → w'.heap[b]? = w.heap[b]? := fun b hb => hg.block b (hF b hb).2 (fun e => by have := hvm b e.symm; have := (hF b hb).1; omega)
  refine ⟨by simpa using hown, (h.own.carry hkG).snoc (OwnD.carry t c F hkF ht), List.nodup_append.2 ⟨h.nodup, hnd, fun a ha b hb e => by have := hGm a ha; have := (hF b hb).1; omega⟩, fun b hb => ?_⟩
  rcases List.mem_append.1 hb with hb | hb
  · refine ⟨(h.lt b hb).1, Nat.lt_of_lt_of_le (h.lt b hb).2.1 hg.size, ?_⟩
    rcases hv with e | ⟨g, e, hge⟩
    · rw [e]; exact (h.lt b hb).2.2
    · rw [e]; intro e2; simp only [Option.some.injEq] at e2; have := (h.lt b hb).2.1; omega
  · refine ⟨by have := (hF b hb).1; omega, Nat.lt_of_lt_of_le (hF b hb).2 hg.size, ?_⟩
    rcases hv with e | ⟨g, e, hge⟩
    · rw [e]; intro e2; have := hvm b e2; have := (hF b hb).1; omega
    · rw [e]; intro e2; simp only [Option.some.injEq] at e2; have := (hF b hb).2; omega

/-- What was gathered is a slice of schemas in blocks of its own. -/
theorem GotD.done {base : Nat} {w : World} {v : Value} {ks : List Kd} {xs : List Value} {G : List Nat} (h : GotD base w v ks xs G) :
    ∃ F, KidsD w v ks F ∧ F.Nodup ∧ (∀ b, b ∈ F → base ≤ b ∧ b < w.heap.size) ∧ ∀ b, b ∈ F → v.ownBlock = some b ∨ b ∈ G := by
  rcases h.row.2 with ⟨hv, hn0⟩ | ⟨g, cap, cur, hv, hgb, hh, hle, hm2, hsz, htk⟩
  · have hks : ks = [] := List.eq_nil_of_length_eq_zero hn0
    subst hks
    exact ⟨[], ⟨none, 0, hv, by simp, Or.inl ⟨rfl, rfl⟩⟩, List.nodup_nil, fun b hb => by simp at hb, fun b hb => by simp at hb⟩
  · have hob : v.ownBlock = some g := by rw [hv]; rfl
    refine ⟨g :: G, ⟨some ⟨g, 0, none⟩, cap, hv, by unfold maxLen at hm2; omega, Or.inr ⟨g, G, rfl, rfl, freeOfHeap hh, h.own.ownK (fun j u hj => ?_)⟩⟩, List.nodup_cons.2 ⟨fun hm => (h.lt g hm).2.2 hob, h.nodup⟩, fun b hb => ?_, fun b hb => by
        rcases List.mem_cons.1 hb with rfl | hb
        · exact Or.inl hob
        · exact Or.inr hb⟩
    · have hj' : cur.toList[j]? = some u := by
        rw [← htk] at hj
        rw [List.getElem?_take] at hj
        split at hj
        · exact hj
        · cases hj
      simp only [Nat.zero_add, World.cell?, hh]
      simpa using hj'
    · rcases List.mem_cons.1 hb with rfl | hb
      · exact ⟨hgb, (Array.getElem?_eq_some_iff.1 hh).1⟩
      · exact ⟨(h.lt b hb).1, (h.lt b hb).2.1⟩

theorem cell_three (w : World) (c : C3) (t : TypeId) : ∀ j u, (c3l c)[j]? = some u → (w.alloc (.cells #[c.c0, c.c1, c.c2] t)).cell? ((⟨w.heap.size, 0, none⟩ : Addr).add j) = some u := by
  intro j u hj
  have hrow := row3_alloc w c.c0 c.c1 c.c2 t
  rw [Addr.add_lit, Nat.zero_add]
  match j with
  | 0 => rw [hrow.cell (by omega)]; exact hj
  | 1 => rw [hrow.cell (by omega)]; exact hj
  | 2 => rw [hrow.cell (by omega)]; exact hj
  | j + 3 => simp [c3l] at hj

theorem OwnD.one {w : World} {t : Kd} {c : C3} {F : List Nat} (h : OwnD w t c F) : ∀ u ∈ c3l c, u.oneCell' = true := by
  obtain ⟨h0, -, F1, F2, -, ⟨a, cap, h3, -⟩, a2, cap2, h4, -⟩ := h.open
  intro u hu
  simp only [c3l, h0, h3, h4, List.mem_cons, List.not_mem_nil, or_false] at hu
  rcases hu with rfl | rfl | rfl <;> rfl

/-- Schemas without names and kids. -/
theorem OwnD.leaf (w : World) (s : Int) (hs : I64 s) : OwnD w (.mk s [] []) ⟨.int .i64 s, .slice none 0 0, .slice none 0 0⟩ [] := by
  rw [OwnD]
  exact ⟨rfl, hs, [], [], rfl, ⟨none, 0, rfl, by simp, Or.inl ⟨rfl, rfl⟩⟩, none, 0, rfl, by simp, Or.inl ⟨rfl, rfl⟩⟩
/-- A schema with one kid, laid as a new row. -/
theorem OwnD.single {w : World} {s : Int} {k : Kd} {c : C3} {F : List Nat} {t : TypeId} (hs : I64 s) (h : OwnD w k c F) (hF : ∀ b, b ∈ F → b < w.heap.size) : OwnD (w.alloc (.cells #[c.c0, c.c1, c.c2] t)) (.mk s [] [k]) ⟨.int .i64 s, .slice none 0 0, .slice (some ⟨w.heap.size, 0, none⟩) 1 1⟩ (w.heap.size :: F) := by
  rw [OwnD]
  have q := row3_alloc w c.c0 c.c1 c.c2 t
  refine ⟨rfl, hs, [], w.heap.size :: F, rfl, ⟨none, 0, rfl, by simp, Or.inl ⟨rfl, rfl⟩⟩, some ⟨w.heap.size, 0, none⟩, 1, rfl, by simp, Or.inr ⟨w.heap.size, F, rfl, rfl, fun o => q.frozen o, ?_⟩⟩
  rw [OwnDK]
  exact ⟨F, [], c, by simp, ⟨q.cell (i := 0) (by omega), q.cell (i := 1) (by omega), q.cell (i := 2) (by omega)⟩, OwnD.carry k c F (fun b hb => Below.heap_alloc _ _ _ (hF b hb)) h, by rw [OwnDK]⟩

theorem row3_set1 {w : World} {B : Nat} {t : TypeId} {c0 c1 c2 : Value} (h : w.rowIs B t 3 (row3 c0 c1 c2)) (v : Value) : (w.setCell ⟨B, 1, none⟩ v).rowIs B t 3 (row3 c0 v c2) :=
  (h.set 1 v).congr (fun i hi => by
    match i, hi with
    | 0, _ => rfl
    | 1, _ => rfl
    | 2, _ => rfl)
theorem row3_set2 {w : World} {B : Nat} {t : TypeId} {c0 c1 c2 : Value} (h : w.rowIs B t 3 (row3 c0 c1 c2)) (v : Value) : (w.setCell ⟨B, 2, none⟩ v).rowIs B t 3 (row3 c0 c1 v) :=
  (h.set 2 v).congr (fun i hi => by
    match i, hi with
    | 0, _ => rfl
    | 1, _ => rfl
    | 2, _ => rfl)

/-- Names and kids so far; the cells of the schema that they are put into lie in block B, below the base. -/
structure DInv (base B : Nat) (wr : World) (s : Int) (vN vK : Value) (ns : List ByteArray) (ks : List Kd) (xs : List Value) (G : List Nat) : Prop where
  hB : B < base
  cells : wr.rowIs B 83 3 (row3 (.int .i64 s) vN vK)
  names : wr.ownsRow base 9 1 vN ns.length (ns.map Value.string)
  got : GotD base wr vK ks xs G
  apart : ∀ b, vN.ownBlock = some b → vK.ownBlock ≠ some b ∧ b ∉ G
  size : base ≤ wr.heap.size

/-- A world in which but new blocks were laid, and one below the base has turned. -/
theorem DInv.kept {base B : Nat} {w w' : World} {s : Int} {vN vK : Value} {ns : List ByteArray} {ks : List Kd} {xs : List Value} {G : List Nat} {row : Option Nat} (h : DInv base B w s vN vK ns ks xs G) (hg : w.grownBy w' row) (hr : ∀ b, row = some b → b < base ∧ b ≠ B) : DInv base B w' s vN vK ns ks xs G :=
  ⟨h.hB, h.cells.of_block (hg.block B h.cells.lt (fun e => (hr B e.symm).2 rfl)), h.names.kept hg (by
      rcases e : vN.ownBlock with _ | g
      · exact Or.inl rfl
      · exact Or.inr (fun e2 => by have h1 := (h.names.lt g e).1; have := (hr g e2.symm).1; omega)),
    h.got.other hg (fun b e => ⟨fun e2 => by have h1 := (h.got.row.lt b e2).1; have := (hr b e).1; omega, fun hm => by have h1 := (h.got.lt b hm).1; have := (hr b e).1; omega⟩), h.apart, Nat.le_trans h.size hg.size⟩

/-- A name more, put into the schema's cell. -/
theorem DInv.name {base B : Nat} {w w' : World} {s : Int} {vN vK v' : Value} {ns : List ByteArray} {ks : List Kd} {xs : List Value} {G : List Nat} {nm : ByteArray} (h : DInv base B w s vN vK ns ks xs G)
    (hown : w'.ownsRow base 9 1 v' (ns.length + 1) (ns.map Value.string ++ [.string nm])) (hg : w.grownBy w' vN.ownBlock) (hv : v'.ownBlock = vN.ownBlock ∨ ∃ g, v'.ownBlock = some g ∧ w.heap.size ≤ g) :
    DInv base B (w'.setCell ⟨B, 1, none⟩ v') s v' vK (ns ++ [nm]) ks xs G := by
  have hBn : vN.ownBlock ≠ some B := fun e => by have := (h.names.lt B e).1; have := h.hB; omega
  have hBk : vK.ownBlock ≠ some B := fun e => by have := (h.got.row.lt B e).1; have := h.hB; omega
  have hset : w'.grownBy (w'.setCell ⟨B, 1, none⟩ v') (some B) := ⟨rfl, rfl, rfl, by simp [World.setCell], fun k _ hk => Below.heap_setCell _ _ _ _ (fun e => hk (by rw [e]))⟩
  have hBv : v'.ownBlock ≠ some B := fun e => by have := (hown.lt B e).1; have := h.hB; omega
  have hgot1 := h.got.other hg (fun b e => h.apart b e)
  refine ⟨h.hB, row3_set1 (h.cells.of_block (hg.block B h.cells.lt (fun e => hBn e.symm))) v', ?_, hgot1.other hset (fun b e => by cases e; exact ⟨hBk, fun hm => by have := (h.got.lt _ hm).1; have := h.hB; omega⟩), fun b hb => ?_, by have := hg.size; have := h.size; simp [World.setCell]; omega⟩
  · have := hown.kept hset (Or.inr (fun e => hBv e))
    simpa using this
  · rcases hv with e | ⟨g, e, hge⟩
    · exact h.apart b (by rw [← e]; exact hb)
    · rw [e] at hb
      simp only [Option.some.injEq] at hb
      subst hb
      exact ⟨fun e2 => by have := (h.got.row.lt g e2).2; omega, fun hm => by have := (h.got.lt g hm).2.1; omega⟩

/-- A kid more, put into the schema's cell. -/
theorem DInv.kid {base B m : Nat} {w w' : World} {s : Int} {vN vK v' : Value} {ns : List ByteArray} {ks : List Kd} {xs : List Value} {G F : List Nat} {t : Kd} {c : C3} (h : DInv base B w s vN vK ns ks xs G)
    (ht : OwnD w t c F) (hnd : F.Nodup) (hF : ∀ b, b ∈ F → m ≤ b ∧ b < w.heap.size) (hGm : ∀ b, b ∈ G → b < m) (hvm : ∀ b, vK.ownBlock = some b → b < m) (hnm : ∀ b, vN.ownBlock = some b → b < m) (hbm : base ≤ m)
    (hown : w'.ownsRow base 83 3 v' (ks.length + 1) (xs ++ c3l c)) (hg : w.grownBy w' vK.ownBlock) (hv : v'.ownBlock = vK.ownBlock ∨ ∃ g, v'.ownBlock = some g ∧ w.heap.size ≤ g) :
    DInv base B (w'.setCell ⟨B, 2, none⟩ v') s vN v' ns (ks ++ [t]) (xs ++ c3l c) (G ++ F) := by
  have hBn : vN.ownBlock ≠ some B := fun e => by have := (h.names.lt B e).1; have := h.hB; omega
  have hBk : vK.ownBlock ≠ some B := fun e => by have := (h.got.row.lt B e).1; have := h.hB; omega
  have hset : w'.grownBy (w'.setCell ⟨B, 2, none⟩ v') (some B) := ⟨rfl, rfl, rfl, by simp [World.setCell], fun k _ hk => Below.heap_setCell _ _ _ _ (fun e => hk (by rw [e]))⟩
  have hBv : v'.ownBlock ≠ some B := fun e => by have := (hown.lt B e).1; have := h.hB; omega
  have hpush := GotD.push h.got ht hnd hF hGm hvm hbm hown hg hv
  refine ⟨h.hB, row3_set2 (h.cells.of_block (hg.block B h.cells.lt (fun e => hBk e.symm))) v', ?_, hpush.other hset (fun b e => by cases e; exact ⟨hBv, fun hm => by have := (hpush.lt _ hm).1; have := h.hB; omega⟩), fun b hb => ?_, by have := hg.size; have := h.size; simp [World.setCell]; omega⟩
  · refine (h.names.kept hg ?_).kept hset (Or.inr (fun e => hBn e))
    rcases e : vN.ownBlock with _ | g
    · exact Or.inl rfl
    · exact Or.inr (fun e2 => (h.apart g e).1 e2.symm)
  · have ha := h.apart b hb
    have hbw := (h.names.lt b hb).2
    refine ⟨?_, fun hm => ?_⟩
    · rcases hv with e | ⟨g, e, hge⟩
      · rw [e]; exact ha.1
      · rw [e]; intro e2; simp only [Option.some.injEq] at e2; omega
    · rcases List.mem_append.1 hm with hm | hm
      · exact ha.2 hm
      · have := (hF b hm).1; have := hnm b hb; omega

theorem DInv.atN {base B : Nat} {w w' : World} {s : Int} {vN vK : Value} {ns : List ByteArray} {ks : List Kd} {xs : List Value} {G : List Nat} (h : DInv base B w s vN vK ns ks xs G) {o : Obj} (hg : (w.alloc o).grownBy w' vN.ownBlock) : w'.rowIs B 83 3 (row3 (.int .i64 s) vN vK) :=
  (h.cells.alloc o).of_block (hg.block B (h.cells.alloc o).lt (fun e => by have := (h.names.lt B e.symm).1; have := h.hB; omega))
theorem DInv.atK {base B : Nat} {w w' : World} {s : Int} {vN vK : Value} {ns : List ByteArray} {ks : List Kd} {xs : List Value} {G : List Nat} (h : DInv base B w s vN vK ns ks xs G) {o : Obj} (hg : (w.alloc o).grownBy w' vK.ownBlock) : w'.rowIs B 83 3 (row3 (.int .i64 s) vN vK) :=
  (h.cells.alloc o).of_block (hg.block B (h.cells.alloc o).lt (fun e => by have := (h.got.row.lt B e.symm).1; have := h.hB; omega))

/-- What was gathered is a schema in blocks of its own. -/
theorem DInv.done {base B : Nat} {w : World} {s : Int} {vN vK : Value} {ns : List ByteArray} {ks : List Kd} {xs : List Value} {G : List Nat} (h : DInv base B w s vN vK ns ks xs G) (hs : I64 s) (hns : ∀ x, x ∈ ns → x.size ≤ 9223372036854775807) :
    ∃ F, OwnD w (.mk s ns ks) ⟨.int .i64 s, vN, vK⟩ F ∧ F.Nodup ∧ ∀ b, b ∈ F → base ≤ b ∧ b < w.heap.size := by
  obtain ⟨F2, h2, n2, l2, m2⟩ := h.got.done
  obtain ⟨F1, h1, n1, l1, m1⟩ := strsOwn_of_row h.names hns
  refine ⟨F1 ++ F2, OwnD.make (t := .mk s ns ks) rfl hs h1 h2, List.nodup_append.2 ⟨n1, n2, fun a ha b hb e => ?_⟩, fun b hb => ?_⟩
  · subst e
    have hap := h.apart a (m1 a ha)
    rcases m2 a hb with h3 | h3
    · exact hap.1 h3
    · exact hap.2 h3
  · rcases List.mem_append.1 hb with hb | hb
    · exact l1 b hb
    · exact l2 b hb
end Go.Proofs.YtbkagahmiibclaaGreatDoor

/- Small laws of lists of strings, of a cell that is set. No program walked but one fact of its types; no conditions. -/

namespace Go.Proofs.YtbkagahmiibclaaGreatDoor
open Go Go.RowKit

theorem size_setCell (w : World) (a : Addr) (v : Value) : (w.setCell a v).heap.size = w.heap.size := by simp [World.setCell]
end Go.Proofs.YtbkagahmiibclaaGreatDoor
