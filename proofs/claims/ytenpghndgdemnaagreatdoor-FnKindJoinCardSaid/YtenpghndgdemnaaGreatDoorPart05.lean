/- The walk of the specification's l5SpoilKind: some schema. Draws at most 4 * 10^7. -/
import Derived.Test.YtenpghndgdemnaaGreatDoorPart04
namespace Go.Proofs.YtenpghndgdemnaaGreatDoor
open Go Go.RowKit

/-- What spoiling a schema comes to: what there was, and new blocks. -/
def QkEnd (P : Nat → Prop) (N M R : Nat) (w w' : World) (v : Value) (b : List UInt8) (p : Nat) (e : Ending) : Prop :=
  ∃ (k : Kd) (c : C3) (p' : Nat), e = .returned (.agg #[c.c0, c.c1, c.c2]) ∧ KRep (fun x => P x ∨ (w.heap.size ≤ x ∧ x < w'.heap.size)) w' k c ∧ DR R w' v b p' ∧ p' ≤ p + N ∧ wKd k ≤ M ∧ But R w w'

/-- The answer is put into its box. -/
theorem qk_end {P : Nat → Prop} {N M R X : Nat} {w W : World} {v : Value} {b : List UInt8} {p p' : Nat} {k : Kd} {c : C3} (hR : R < w.heap.size) (hX : w.heap.size ≤ X) (hP : ∀ x, P x → x < w.heap.size) (ho : KRep (fun x => P x ∨ (w.heap.size ≤ x ∧ x ≠ X ∧ x < W.heap.size)) W k c) (hd : DR R W v b p') (h1 : p' ≤ p + N) (h2 : wKd k ≤ M) (hb : But R w W) (c0 c1 c2 : Value) :
    QkEnd P N M R w (((W.setCell ⟨X, 0, none⟩ c0).setCell ⟨X, 1, none⟩ c1).setCell ⟨X, 2, none⟩ c2) v b p (.returned (.agg #[c.c0, c.c1, c.c2])) := by
  have hne : ∀ x, (P x ∨ (w.heap.size ≤ x ∧ x ≠ X ∧ x < W.heap.size)) → x ≠ X := fun x hx => by
    rcases hx with h | h
    · have := hP x h; omega
    · exact h.2.1
  refine ⟨k, c, p', rfl, KRep.carry (fun x hx => by repeat rw [Below.heap_setCell _ _ _ _ (by simp; exact hne x hx)]) (fun x hx => ?_) _ _ ho, ?_, h1, h2, ?_⟩
  · simp only [size_setCell]
    rcases hx with h | h
    · exact Or.inl h
    · exact Or.inr ⟨h.1, h.2.2⟩
  · repeat refine DR.set ?_ (by omega) _ _
    exact hd
  · repeat refine but_setx ?_ hX _ _
    exact hb

/-- What stands while a schema is spoilt: its box, the answer's. -/
structure SP (R : Nat) (w : World) (c : C3) (v : Value) (b : List UInt8) (p : Nat) (W : World) : Prop where
  dr : DR R W v b p
  but : But R w W
  bK : W.rowIs w.heap.size 26 3 (row3 c.c0 c.c1 c.c2)
  bX : W.rowIs (w.heap.size + 1) 26 3 (row3 (.int .i64 0) (.slice none 0 0) (.slice none 0 0))
  hR : R < w.heap.size

theorem SP.size {R : Nat} {w W : World} {c : C3} {v : Value} {b : List UInt8} {p : Nat} (h : SP R w c v b p W) : w.heap.size + 2 ≤ W.heap.size := h.bX.lt
theorem SP.next {R : Nat} {w W W' : World} {c : C3} {v : Value} {b : List UInt8} {p p' : Nat} (h : SP R w c v b p W) (hd : DR R W' v b p') (hb : But R W W') : SP R w c v b p' W' := by
  have hR := h.hR
  exact ⟨hd, h.but.trans hb, h.bK.of_block (hb.at h.bK.lt (by omega)), h.bX.of_block (hb.at h.bX.lt (by omega)), hR⟩
theorem SP.touch {R : Nat} {w W W' : World} {c : C3} {v : Value} {b : List UInt8} {p : Nat} {row : Option Nat} (h : SP R w c v b p W) (hg : W.grownBy W' row) (hr : ∀ x, row = some x → w.heap.size + 2 ≤ x) : SP R w c v b p W' := by
  have hR := h.hR
  refine ⟨h.dr.grown hg (fun x e => by have := hr x e; omega), ?_, h.bK.of_block (hg.block _ h.bK.lt (fun e => by have := hr _ e.symm; omega)), h.bX.of_block (hg.block _ h.bX.lt (fun e => by have := hr _ e.symm; omega)), hR⟩
  exact ⟨hg.os.trans h.but.os, hg.tape.trans h.but.tape, hg.output.trans h.but.output, Nat.le_trans h.but.size hg.size, fun i hi hne => (hg.block i (Nat.lt_of_lt_of_le hi h.but.size) (fun e => by have := hr i e.symm; omega)).trans (h.but.block i hi hne)⟩
theorem SP.on {R : Nat} {w W W' : World} {c : C3} {v : Value} {b : List UInt8} {p : Nat} (h : SP R w c v b p W) (hb : Below W.heap.size W W') : SP R w c v b p W' := h.next (h.dr.on hb) (But.of_below hb)
theorem SP.set0 {R : Nat} {w W : World} {c0 c1 c2 : Value} {v : Value} {b : List UInt8} {p : Nat} (h : SP R w ⟨c0, c1, c2⟩ v b p W) (u : Value) : SP R w ⟨u, c1, c2⟩ v b p (W.setCell ⟨w.heap.size, 0, none⟩ u) := by
  have hR := h.hR
  exact ⟨h.dr.set (by omega) _ _, but_setx h.but (Nat.le_refl _) _ _, (h.bK.set 0 u).congr (fun i hi => by rcases (show i = 0 ∨ i = 1 ∨ i = 2 by omega) with rfl | rfl | rfl <;> rfl), h.bX.setOther (by simp) _, hR⟩
theorem SP.set1 {R : Nat} {w W : World} {c0 c1 c2 : Value} {v : Value} {b : List UInt8} {p : Nat} (h : SP R w ⟨c0, c1, c2⟩ v b p W) (u : Value) : SP R w ⟨c0, u, c2⟩ v b p (W.setCell ⟨w.heap.size, 1, none⟩ u) := by
  have hR := h.hR
  exact ⟨h.dr.set (by omega) _ _, but_setx h.but (Nat.le_refl _) _ _, (h.bK.set 1 u).congr (fun i hi => by rcases (show i = 0 ∨ i = 1 ∨ i = 2 by omega) with rfl | rfl | rfl <;> rfl), h.bX.setOther (by simp) _, hR⟩
theorem SP.set2 {R : Nat} {w W : World} {c0 c1 c2 : Value} {v : Value} {b : List UInt8} {p : Nat} (h : SP R w ⟨c0, c1, c2⟩ v b p W) (u : Value) : SP R w ⟨c0, c1, u⟩ v b p (W.setCell ⟨w.heap.size, 2, none⟩ u) := by
  have hR := h.hR
  exact ⟨h.dr.set (by omega) _ _, but_setx h.but (Nat.le_refl _) _ _, (h.bK.set 2 u).congr (fun i hi => by rcases (show i = 0 ∨ i = 1 ∨ i = 2 by omega) with rfl | rfl | rfl <;> rfl), h.bX.setOther (by simp) _, hR⟩
theorem SP.start {R : Nat} {w : World} {c0 c1 c2 : Value} {v : Value} {b : List UInt8} {p : Nat} (h : DR R w v b p) : SP R w ⟨c0, c1, c2⟩ v b p ((w.alloc (.cells #[c0, c1, c2] 26)).alloc (.cells #[.int .i64 0, .slice none 0 0, .slice none 0 0] 26)) := by
  have hb : Below w.heap.size w ((w.alloc (.cells #[c0, c1, c2] 26)).alloc (.cells #[.int .i64 0, .slice none 0 0, .slice none 0 0] 26)) := ((Below.refl _ _).alloc (Nat.le_refl _) _).alloc (by simp) _
  have hx := row3_alloc (w.alloc (.cells #[c0, c1, c2] 26)) (.int .i64 0) (.slice none 0 0) (.slice none 0 0) 26
  rw [World.size_alloc] at hx
  exact ⟨h.on hb, But.of_below hb, (row3_alloc w c0 c1 c2 26).alloc _, hx, h.cells.lt⟩

/-- What spoiling says, for schemas that are small enough. -/
def SpSaid (n : Nat) : Prop := ∀ (k : Kd), ksz k < n → ∀ (P : Nat → Prop) (R : Nat) (w : World) (v : Value) (b : List UInt8) (p : Nat) (c : C3), DR R w v b p → (∀ x, P x → R < x ∧ x < w.heap.size) → KRep P w k c → p + 3 * ksz k ≤ 40000000 → wKd k ≤ 100000 →
  Calls Tryz.prog 21 #[.pointer (some ⟨R, 0, none⟩), .agg #[c.c0, c.c1, c.c2]] w fun e w' => QkEnd P (3 * ksz k + 100) (wKd k + 1000) R w w' v b p e

/-- One kid was put in another's place. -/
theorem spoil_kid {P : Nat → Prop} {N M R g i nK nN cap capN p p' : Nat} {aN : Option Addr} {w w4 w5 : World} {v : Value} {b : List UInt8} {k k' : Kd} {c c' : C3} {xs : List Value} (hP : ∀ x, P x → R < x ∧ x < w.heap.size) (hS : SP R w c v b p' w5) (hO : w5.ownsRow (w.heap.size + 2) 26 3 (.slice (some ⟨g, 0, none⟩) nK cap) nK xs) (h45 : w4.heap.size ≤ w5.heap.size) (hg : w.heap.size + 2 ≤ g ∧ g < w4.heap.size)
    (hput : KL3 (fun x => P x ∨ (w4.heap.size ≤ x ∧ x < w5.heap.size)) w5 (k.kids.set i k') (((xs.set (i * 3) c'.c0).set (i * 3 + 1) c'.c1).set (i * 3 + 2) c'.c2)) (hns : StrsAt P w5 (.slice aN nN capN) k.names) (hi0 : I64 k.sort) (hnK : nK = k.kids.length) (hnb : nK ≤ 100000) (h1 : p' ≤ p + N) (h2 : wS k.names + wKs (k.kids.set i k') ≤ M) (d0 d1 d2 : Value) :
    QkEnd P N M R w (((((((w5.setCell ⟨g, i * 3, none⟩ c'.c0).setCell ⟨g, i * 3 + 1, none⟩ c'.c1).setCell ⟨g, i * 3 + 2, none⟩ c'.c2).setCell ⟨w.heap.size, 2, none⟩ (.slice (some ⟨g, 0, none⟩) nK cap)).setCell ⟨w.heap.size + 1, 0, none⟩ d0).setCell ⟨w.heap.size + 1, 1, none⟩ d1).setCell ⟨w.heap.size + 1, 2, none⟩ d2) v b p (.returned (.agg #[.int .i64 k.sort, .slice aN nN capN, .slice (some ⟨g, 0, none⟩) nK cap])) := by
  have hR := hS.hR
  have hsz := hS.size
  have hrow := ownsRow_put (ownsRow_put (ownsRow_put hO (i * 3) c'.c0) (i * 3 + 1) c'.c1) (i * 3 + 2) c'.c2
  have hoth : ∀ x, x ≠ g → x ≠ w.heap.size → ((((w5.setCell ⟨g, i * 3, none⟩ c'.c0).setCell ⟨g, i * 3 + 1, none⟩ c'.c1).setCell ⟨g, i * 3 + 2, none⟩ c'.c2).setCell ⟨w.heap.size, 2, none⟩ (.slice (some ⟨g, 0, none⟩) nK cap)).heap[x]? = w5.heap[x]? := fun x h1 h2 => by
    rw [Below.heap_setCell _ _ _ _ (by simpa using h2), Below.heap_setCell _ _ _ _ (by simpa using h1), Below.heap_setCell _ _ _ _ (by simpa using h1), Below.heap_setCell _ _ _ _ (by simpa using h1)]
  refine qk_end (X := w.heap.size + 1) (k := .mk k.sort k.names (k.kids.set i k')) (c := ⟨_, _, _⟩) hR (by omega) (fun x hx => (hP x hx).2) ?_ ?_ h1 (by rw [wKd]; exact h2) ?_ d0 d1 d2
  · rw [KRep]
    refine ⟨rfl, hi0, hns.carry (fun x hx => hoth x (by have := hP x hx; omega) (by have := hP x hx; omega)) (fun x hx => Or.inl hx), some ⟨g, 0, none⟩, cap, by rw [List.length_set, hnK], by rw [List.length_set]; omega, fun _ => ⟨g, 0, rfl, Or.inr ⟨by omega, by omega, by simp only [size_setCell]; omega⟩, ?_⟩⟩
    refine KL3.back (hput.carry (fun x hx => hoth x ?_ ?_) (fun x hx => ?_)) (fun j u hj => ?_)
    · rcases hx with h | h
      · have := hP x h; omega
      · omega
    · rcases hx with h | h
      · have := hP x h; omega
      · omega
    · rcases hx with h | h
      · exact Or.inl h
      · exact Or.inr ⟨by omega, by omega, by simp only [size_setCell]; omega⟩
    · have hc := hrow.cells (g := g) rfl j u hj
      rw [Addr.add_lit, Nat.zero_add] at hc
      rw [World.cell?_of_block (w := ((w5.setCell ⟨g, i * 3, none⟩ c'.c0).setCell ⟨g, i * 3 + 1, none⟩ c'.c1).setCell ⟨g, i * 3 + 2, none⟩ c'.c2) (Below.heap_setCell _ _ _ _ (by simp; omega))]
      exact hc
  · repeat refine DR.set ?_ (by omega) _ _
    exact hS.dr
  · refine but_setx ?_ (Nat.le_refl _) _ _
    repeat refine but_setx ?_ (by omega) _ _
    exact hS.but

/-- The sort alone was turned. -/
theorem spoil_sort {P : Nat → Prop} {N M R p p' : Nat} {w W : World} {v : Value} {b : List UInt8} {k : Kd} {c : C3} {s : Int} {vN vK : Value} (hP : ∀ x, P x → R < x ∧ x < w.heap.size) (hS : SP R w c v b p' W) (hr : KRep P W k ⟨.int .i64 k.sort, vN, vK⟩) (hs : I64 s) (h1 : p' ≤ p + N) (h2 : wKd k ≤ M) (d0 d1 d2 : Value) :
    QkEnd P N M R w ((((W.setCell ⟨w.heap.size, 0, none⟩ (.int .i64 s)).setCell ⟨w.heap.size + 1, 0, none⟩ d0).setCell ⟨w.heap.size + 1, 1, none⟩ d1).setCell ⟨w.heap.size + 1, 2, none⟩ d2) v b p (.returned (.agg #[.int .i64 s, vN, vK])) := by
  have hR := hS.hR
  obtain ⟨s0, ns, ks⟩ := k
  rw [KRep] at hr
  obtain ⟨-, -, h3, a, cap, h4, h5, h6⟩ := hr
  simp only at h3 h4
  have hoth : ∀ x, P x → (W.setCell ⟨w.heap.size, 0, none⟩ (.int .i64 s)).heap[x]? = W.heap[x]? := fun x hx => Below.heap_setCell _ _ _ _ (by have := hP x hx; simp; omega)
  refine qk_end (X := w.heap.size + 1) (k := .mk s ns ks) (c := ⟨_, _, _⟩) hR (by omega) (fun x hx => (hP x hx).2) ?_ (hS.dr.set (by omega) _ _) h1 (by rw [wKd] at h2 ⊢; exact h2) (but_setx hS.but (Nat.le_refl _) _ _) d0 d1 d2
  rw [KRep]
  refine ⟨rfl, hs, h3.carry hoth (fun _ h => Or.inl h), a, cap, h4, h5, fun hk => ?_⟩
  obtain ⟨b', o', e, hpb, hkr⟩ := h6 hk
  exact ⟨b', o', e, Or.inl hpb, KRepK.carry hoth (fun _ h => Or.inl h) b' o' (hoth b' hpb) ks hkr⟩

/-- A schema with one kid, the kid's cells being laid in a new row. -/
theorem krep_single {lo G : Nat} {V W' : World} {kk : Kd} {c : C3} {s : Int} (hs : I64 s) (hb : Below V.heap.size V W') (hrow : W'.rowIs G 26 3 (row3 c.c0 c.c1 c.c2)) (hG : lo ≤ G) (hk : KRep (fun x => lo ≤ x ∧ x < V.heap.size) V kk c) : KRep (fun x => lo ≤ x ∧ x < W'.heap.size) W' (.mk s [] [kk]) ⟨.int .i64 s, .slice none 0 0, .slice (some ⟨G, 0, none⟩) 1 1⟩ := by
  rw [KRep]
  refine ⟨rfl, hs, ⟨none, 0, rfl, by simp, fun i hi => by simp at hi⟩, _, _, rfl, by simp, fun _ => ⟨G, 0, rfl, ⟨hG, hrow.lt⟩, ?_⟩⟩
  rw [KRepK]
  exact ⟨⟨c, ⟨hrow.cell (i := 0) (by omega), hrow.cell (i := 1) (by omega), hrow.cell (i := 2) (by omega)⟩, KRep.carry (fun x hx => hb.block x hx.2) (fun x hx => ⟨hx.1, Nat.lt_of_lt_of_le hx.2 hb.size⟩) _ _ hk⟩, by rw [KRepK]; trivial⟩

/-- A round of the nest: what is laid in the box, in either order of the two new rows. -/
theorem nest_round {R q : Nat} {w wr : World} {c0 c1 c2 : Value} {v : Value} {b : List UInt8} {kk : Kd} {s : Int} (hs : I64 s) (o : Obj) (hS : SP R w ⟨c0, c1, c2⟩ v b q wr) (hk : KRep (fun x => w.heap.size + 2 ≤ x ∧ x < wr.heap.size) wr kk ⟨c0, c1, c2⟩) :
    (SP R w ⟨.int .i64 s, .slice none 0 0, .slice (some ⟨wr.heap.size + 1, 0, none⟩) 1 1⟩ v b q ((((((wr.setCell ⟨w.heap.size, 0, none⟩ (.int .i64 s)).setCell ⟨w.heap.size, 1, none⟩ (.slice none 0 0)).setCell ⟨w.heap.size, 2, none⟩ (.slice (some ⟨wr.heap.size + 1, 0, none⟩) 1 1)).alloc o).alloc (.cells #[c0, c1, c2] 26)).drew) ∧
     KRep (fun x => w.heap.size + 2 ≤ x ∧ x < ((((((wr.setCell ⟨w.heap.size, 0, none⟩ (.int .i64 s)).setCell ⟨w.heap.size, 1, none⟩ (.slice none 0 0)).setCell ⟨w.heap.size, 2, none⟩ (.slice (some ⟨wr.heap.size + 1, 0, none⟩) 1 1)).alloc o).alloc (.cells #[c0, c1, c2] 26)).drew).heap.size) ((((((wr.setCell ⟨w.heap.size, 0, none⟩ (.int .i64 s)).setCell ⟨w.heap.size, 1, none⟩ (.slice none 0 0)).setCell ⟨w.heap.size, 2, none⟩ (.slice (some ⟨wr.heap.size + 1, 0, none⟩) 1 1)).alloc o).alloc (.cells #[c0, c1, c2] 26)).drew) (.mk s [] [kk]) ⟨.int .i64 s, .slice none 0 0, .slice (some ⟨wr.heap.size + 1, 0, none⟩) 1 1⟩) ∧
    (SP R w ⟨.int .i64 s, .slice none 0 0, .slice (some ⟨wr.heap.size, 0, none⟩) 1 1⟩ v b q ((((((wr.setCell ⟨w.heap.size, 0, none⟩ (.int .i64 s)).setCell ⟨w.heap.size, 1, none⟩ (.slice none 0 0)).setCell ⟨w.heap.size, 2, none⟩ (.slice (some ⟨wr.heap.size, 0, none⟩) 1 1)).alloc (.cells #[c0, c1, c2] 26)).alloc o).drew) ∧
     KRep (fun x => w.heap.size + 2 ≤ x ∧ x < ((((((wr.setCell ⟨w.heap.size, 0, none⟩ (.int .i64 s)).setCell ⟨w.heap.size, 1, none⟩ (.slice none 0 0)).setCell ⟨w.heap.size, 2, none⟩ (.slice (some ⟨wr.heap.size, 0, none⟩) 1 1)).alloc (.cells #[c0, c1, c2] 26)).alloc o).drew).heap.size) ((((((wr.setCell ⟨w.heap.size, 0, none⟩ (.int .i64 s)).setCell ⟨w.heap.size, 1, none⟩ (.slice none 0 0)).setCell ⟨w.heap.size, 2, none⟩ (.slice (some ⟨wr.heap.size, 0, none⟩) 1 1)).alloc (.cells #[c0, c1, c2] 26)).alloc o).drew) (.mk s [] [kk]) ⟨.int .i64 s, .slice none 0 0, .slice (some ⟨wr.heap.size, 0, none⟩) 1 1⟩) := by
  have hsz := hS.size
  have hV : ∀ u, SP R w ⟨.int .i64 s, .slice none 0 0, u⟩ v b q (((wr.setCell ⟨w.heap.size, 0, none⟩ (.int .i64 s)).setCell ⟨w.heap.size, 1, none⟩ (.slice none 0 0)).setCell ⟨w.heap.size, 2, none⟩ u) := fun u => ((hS.set0 _).set1 _).set2 _
  have hz : ∀ u, (((wr.setCell ⟨w.heap.size, 0, none⟩ (.int .i64 s)).setCell ⟨w.heap.size, 1, none⟩ (.slice none 0 0)).setCell ⟨w.heap.size, 2, none⟩ u).heap.size = wr.heap.size := fun u => by simp only [size_setCell]
  have hk2 : ∀ u, KRep (fun x => w.heap.size + 2 ≤ x ∧ x < (((wr.setCell ⟨w.heap.size, 0, none⟩ (.int .i64 s)).setCell ⟨w.heap.size, 1, none⟩ (.slice none 0 0)).setCell ⟨w.heap.size, 2, none⟩ u).heap.size) (((wr.setCell ⟨w.heap.size, 0, none⟩ (.int .i64 s)).setCell ⟨w.heap.size, 1, none⟩ (.slice none 0 0)).setCell ⟨w.heap.size, 2, none⟩ u) kk ⟨c0, c1, c2⟩ := fun u =>
    KRep.carry (fun x hx => by repeat rw [Below.heap_setCell _ _ _ _ (by simp; omega)]) (fun x hx => by rw [hz]; exact hx) _ _ hk
  have hrr : ∀ (V : World) (o1 o2 : Obj), Below V.heap.size V ((V.alloc o1).alloc o2).drew := fun V o1 o2 => (((Below.refl _ _).alloc (Nat.le_refl _) _).alloc (by simp) _).drew
  refine ⟨⟨(hV _).on (hrr _ _ _), krep_single hs (hrr _ _ _) ?_ (by omega) (hk2 _)⟩, (hV _).on (hrr _ _ _), krep_single hs (hrr _ _ _) ?_ (by omega) (hk2 _)⟩
  · have := row3_alloc ((((wr.setCell ⟨w.heap.size, 0, none⟩ (.int .i64 s)).setCell ⟨w.heap.size, 1, none⟩ (.slice none 0 0)).setCell ⟨w.heap.size, 2, none⟩ (.slice (some ⟨wr.heap.size + 1, 0, none⟩) 1 1)).alloc o) c0 c1 c2 26
    rw [World.size_alloc, hz] at this
    exact this.of_block rfl
  · have := (row3_alloc (((wr.setCell ⟨w.heap.size, 0, none⟩ (.int .i64 s)).setCell ⟨w.heap.size, 1, none⟩ (.slice none 0 0)).setCell ⟨w.heap.size, 2, none⟩ (.slice (some ⟨wr.heap.size, 0, none⟩) 1 1)) c0 c1 c2 26).alloc o
    rw [hz] at this
    exact this.of_block rfl

theorem dec_len3 (k u : Nat) (h : u < 10 ^ (k + 1)) : (Lib.decDigits u).length ≤ k + 1 := by
  induction k generalizing u with
  | zero => rw [Lib.decDigits, dif_pos (by simpa using h)]; simp
  | succ k ih =>
    rw [Lib.decDigits]
    split
    · simp
    · have := ih (u / 10) (by rw [Nat.pow_succ] at h; omega)
      simp; omega

/-- What is gathered while a wide form is made. -/
def WB (m : Nat) (ns : List ByteArray) (ks : List Kd) : Prop := ns.length = m ∧ ks.length = m ∧ (∀ x, x ∈ ns → x.size ≤ 4) ∧ wS ns + wKs ks ≤ m * 6
theorem WB.more {m : Nat} {ns : List ByteArray} {ks : List Kd} {x : ByteArray} {s : Int} (h : WB m ns ks) (hx : x.size ≤ 4) : WB (m + 1) (ns ++ [x]) (ks ++ [.mk s [] []]) := by
  obtain ⟨h1, h2, h3, h4⟩ := h
  refine ⟨by simp [h1], by simp [h2], fun y hy => ?_, ?_⟩
  · rcases List.mem_append.1 hy with hy | hy
    · exact h3 y hy
    · simp at hy; rw [hy]; exact hx
  · rw [wS_snoc1, wKs_snoc1]; simp only [wKd, wS, wKs]; omega

/-- The names alone were turned. -/
theorem spoil_names {P : Nat → Prop} {N M R p p' g n cap : Nat} {w W : World} {v : Value} {b : List UInt8} {k : Kd} {c : C3} {v1 vK : Value} {ns : List ByteArray} (hP : ∀ x, P x → R < x ∧ x < w.heap.size) (hS : SP R w c v b p' W) (hr : KRep P W k ⟨.int .i64 k.sort, v1, vK⟩) (hO : W.ownsRow (w.heap.size + 2) 9 1 (.slice (some ⟨g, 0, none⟩) n cap) ns.length (ns.map Value.string)) (hns : ∀ x, x ∈ ns → x.size ≤ 9223372036854775807) (h1 : p' ≤ p + N) (h2 : wS ns + wKs k.kids ≤ M) (d0 d1 d2 : Value) :
    QkEnd P N M R w ((((W.setCell ⟨w.heap.size, 1, none⟩ (.slice (some ⟨g, 0, none⟩) n cap)).setCell ⟨w.heap.size + 1, 0, none⟩ d0).setCell ⟨w.heap.size + 1, 1, none⟩ d1).setCell ⟨w.heap.size + 1, 2, none⟩ d2) v b p (.returned (.agg #[.int .i64 k.sort, .slice (some ⟨g, 0, none⟩) n cap, vK])) := by
  have hR := hS.hR
  obtain ⟨s0, ns0, ks⟩ := k
  rw [KRep] at hr
  obtain ⟨-, hs, -, a, cap', h4, h5, h6⟩ := hr
  simp only at h4
  obtain ⟨F, hst, -, hF, -⟩ := strsOwn_of_row hO hns
  have hoth : ∀ x, x ≠ w.heap.size → (W.setCell ⟨w.heap.size, 1, none⟩ (.slice (some ⟨g, 0, none⟩) n cap)).heap[x]? = W.heap[x]? := fun x hx => Below.heap_setCell _ _ _ _ (by simpa using hx)
  have hothP : ∀ x, P x → (W.setCell ⟨w.heap.size, 1, none⟩ (.slice (some ⟨g, 0, none⟩) n cap)).heap[x]? = W.heap[x]? := fun x hx => hoth x (by have := hP x hx; omega)
  refine qk_end (X := w.heap.size + 1) (k := .mk s0 ns ks) (c := ⟨_, _, _⟩) hR (by omega) (fun x hx => (hP x hx).2) ?_ (hS.dr.set (by omega) _ _) h1 (by rw [wKd]; exact h2) (but_setx hS.but (Nat.le_refl _) _ _) d0 d1 d2
  rw [KRep]
  refine ⟨rfl, hs, hst.at.carry (fun x hx => hoth x (by have := (hF x hx).1; omega)) (fun x hx => Or.inr ⟨by have := (hF x hx).1; omega, by have := (hF x hx).1; omega, by simp only [size_setCell]; exact (hF x hx).2⟩), a, cap', h4, h5, fun hk => ?_⟩
  obtain ⟨b', o', e, hpb, hkr⟩ := h6 hk
  exact ⟨b', o', e, Or.inl hpb, KRepK.carry hothP (fun _ h => Or.inl h) b' o' (hothP b' hpb) ks hkr⟩

/-- The kids alone were turned. -/
theorem spoil_kids {P : Nat → Prop} {N M R p p' g n cap : Nat} {w W : World} {v : Value} {b : List UInt8} {k : Kd} {c : C3} {vN v2 : Value} {ks : List Kd} {xs : List Value} (hP : ∀ x, P x → R < x ∧ x < w.heap.size) (hS : SP R w c v b p' W) (hr : KRep P W k ⟨.int .i64 k.sort, vN, v2⟩) (hO : W.ownsRow (w.heap.size + 2) 26 3 (.slice (some ⟨g, 0, none⟩) n cap) n xs) (hL : KL3 P W ks xs) (hn : n = ks.length) (hnb : n ≤ 1000000) (h1 : p' ≤ p + N) (h2 : wS k.names + wKs ks ≤ M) (d0 d1 d2 : Value) :
    QkEnd P N M R w ((((W.setCell ⟨w.heap.size, 2, none⟩ (.slice (some ⟨g, 0, none⟩) n cap)).setCell ⟨w.heap.size + 1, 0, none⟩ d0).setCell ⟨w.heap.size + 1, 1, none⟩ d1).setCell ⟨w.heap.size + 1, 2, none⟩ d2) v b p (.returned (.agg #[.int .i64 k.sort, vN, .slice (some ⟨g, 0, none⟩) n cap])) := by
  have hR := hS.hR
  obtain ⟨s0, ns0, ks0⟩ := k
  rw [KRep] at hr
  obtain ⟨-, hs, h3, -⟩ := hr
  simp only at h3
  have hg := hO.lt g rfl
  have hoth : ∀ x, x ≠ w.heap.size → (W.setCell ⟨w.heap.size, 2, none⟩ (.slice (some ⟨g, 0, none⟩) n cap)).heap[x]? = W.heap[x]? := fun x hx => Below.heap_setCell _ _ _ _ (by simpa using hx)
  have hothP : ∀ x, P x → (W.setCell ⟨w.heap.size, 2, none⟩ (.slice (some ⟨g, 0, none⟩) n cap)).heap[x]? = W.heap[x]? := fun x hx => hoth x (by have := hP x hx; omega)
  refine qk_end (X := w.heap.size + 1) (k := .mk s0 ns0 ks) (c := ⟨_, _, _⟩) hR (by omega) (fun x hx => (hP x hx).2) ?_ (hS.dr.set (by omega) _ _) h1 (by rw [wKd]; exact h2) (but_setx hS.but (Nat.le_refl _) _ _) d0 d1 d2
  rw [KRep]
  refine ⟨rfl, hs, h3.carry hothP (fun _ h => Or.inl h), some ⟨g, 0, none⟩, cap, by rw [hn], by omega, fun _ => ⟨g, 0, rfl, Or.inr ⟨by omega, by omega, by simp only [size_setCell]; exact hg.2⟩, ?_⟩⟩
  refine KL3.back (hL.carry hothP (fun _ h => Or.inl h)) (fun j u hj => ?_)
  have hc := hO.cells (g := g) rfl j u hj
  rw [Addr.add_lit, Nat.zero_add] at hc
  rw [World.cell?_of_block (w := W) (hoth g (by omega))]
  exact hc

def of3 : List ByteArray := [⟨#[97]⟩, ⟨#[122]⟩, ⟨#[65]⟩]
theorem of3_size (i : Nat) (h : i < 3) : (of3.getD i ByteArray.empty).size ≤ 1 := by
  rcases (show i = 0 ∨ i = 1 ∨ i = 2 by omega) with rfl | rfl | rfl <;> decide
theorem of3_row (w : World) : (w.alloc (.cells #[.string ⟨#[97]⟩, .string ⟨#[122]⟩, .string ⟨#[65]⟩] 9)).rowIs w.heap.size 9 3 (fun i => .string (of3.getD i ByteArray.empty)) :=
  World.rowIs_alloc w #[.string ⟨#[97]⟩, .string ⟨#[122]⟩, .string ⟨#[65]⟩] 9 _ (fun i hi => by
    have hi' : i < 3 := by simpa using hi
    rcases (show i = 0 ∨ i = 1 ∨ i = 2 by omega) with rfl | rfl | rfl <;> rfl)

theorem ksz_posW (k : Kd) : 1 ≤ ksz k := by obtain ⟨s, ns, ks⟩ := k; rw [ksz]; omega

set_option maxRecDepth 100000 in
set_option maxHeartbeats 12800000 in
theorem l5Spoil_step (n : Nat) (IH : SpSaid n) : SpSaid (n + 1) := by
  intro k hk P R w v b p c h hP hrep hp hwk
  obtain ⟨c0, c1, c2⟩ := c
  have hrep0 := hrep
  obtain ⟨e0, hi0, hns, aK, capK, e2, hkl, hks⟩ := hrep.open
  simp only at e0 e2 hns
  obtain ⟨aN, capN, e1, hnl, hnc⟩ := hns
  subst e0 e1 e2
  have hnk : k.kids.length ≤ 100000 ∧ k.names.length ≤ 100000 := by
    have h1 := wKs_len k.kids
    have h2 := wS_len k.names
    have e : wKd k = wS k.names + wKs k.kids := by obtain ⟨s, ns, ks⟩ := k; rw [wKd]; rfl
    omega
  obtain ⟨nK, hnK⟩ : ∃ nK, nK = k.kids.length := ⟨_, rfl⟩
  obtain ⟨nN, hnN⟩ : ∃ nN, nN = k.names.length := ⟨_, rfl⟩
  rw [← hnK, ← hnN] at hnk
  rw [← hnK] at hrep0 hkl ⊢
  rw [← hnN] at hrep0 hnl ⊢
  have hsp := SP.start (c0 := .int .i64 k.sort) (c1 := .slice aN nN capN) (c2 := .slice aK nK capK) h
  have hkp := ksz_posW k
  have hcar : ∀ W, But R w W → KRep P W k ⟨.int .i64 k.sort, .slice aN nN capN, .slice aK nK capK⟩ := fun W hW => KRep.carry (fun x hx => hW.at (hP x hx).2 (by have := (hP x hx).1; omega)) (fun _ h => h) _ _ hrep0
  have HSP := hide hsp; have HNK := hide hnK; have HNN := hide hnN; have HP := hide hP; have HI := hide IH; have HCAR := hide hcar
  have HNC := hide hnc; have HKS := hide hks
  obtain ⟨hnk1, hnk2⟩ := hnk
  clear hsp hrep hrep0 IH h hP hnc hks hcar hnK hnN hkl hnl
  go_enter Tryz.func21, Tryz.ntmps21
  go_upto_region 1 with fail
  go_cut [17] from 9 (fun s wx => ∃ (bv : Bool) (q : Nat), s = .bool bv ∧ (bv = true → 0 < nK) ∧ q ≤ p + 1 ∧ Hid (SP R w ⟨.int .i64 k.sort, .slice aN nN capN, .slice aK nK capK⟩ v b q wx))
  case first =>
    have k2 := (unhide HSP).bK.cell (i := 2) (by omega)
    simp only [row3] at k2
    by_cases hk0 : nK = 0
    · have hq : decide ((0 : Int) < (nK : Int)) = false := by simp; omega
      have hqn : decide (0 < nK) = false := by simp; omega
      clear hk0
      go_wp2_with fail
      go_meet
      case rel => exact ⟨false, p, rfl, (fun h => by cases h), by omega, HSP⟩
    · have hq : decide ((0 : Int) < (nK : Int)) = true := by simp; omega
      have HPK := hide (pick_any R _ v b p 3 (unhide HSP).dr (by omega) (by omega))
      go_wp2_with fail
      refine (unhide HPK).mono ?_
      rintro e w2 ⟨r3, rfl, hr3, HD2, HB2⟩
      have HS2 := hide ((unhide HSP).next HD2.out HB2.out)
      clear HPK HD2 HB2 k2
      by_cases h0 : r3 = 0
      · have hq3 : decide ((0 : Int) < (r3 : Int)) = false := by simp; omega
        go_wp2_with fail
        go_meet
        case rel => exact ⟨false, p + 1, by first | rfl | (simp; done) | (simp; omega), (fun h => by cases h), by omega, HS2⟩
      · have hq3 : decide ((0 : Int) < (r3 : Int)) = true := by simp; omega
        go_wp2_with fail
        go_meet
        case rel => exact ⟨true, p + 1, by first | rfl | (simp; done) | (simp; omega), (fun _ => by omega), by omega, HS2⟩
  case rest =>
    clear HSP
    obtain ⟨bv, q, rfl, hbv, hq, HS⟩ := hcut
    cases bv with
    | true =>
      have hn0 := hbv rfl
      clear hbv
      obtain ⟨bK, oK, -, rfl, -, -, -⟩ := unhide HKS 0 (by rw [← unhide HNK]; exact hn0)
      have hkr : KRepK P wc bK oK k.kids := by
        have h1 := unhide HCAR wc HS.out.but
        obtain ⟨s0, ns0, ks0⟩ := k
        rw [KRep] at h1
        obtain ⟨-, -, -, a, cap, e, -, h2⟩ := h1
        simp only [Value.slice.injEq] at e
        obtain ⟨e1, -, -⟩ := e
        obtain ⟨b', o', e3, -, h3⟩ := h2 (fun hh => by have := unhide HNK; simp only [Kd.kids] at this; rw [hh] at this; simp at this; omega)
        rw [← e1] at e3
        simp only [Option.some.injEq, Addr.mk.injEq, and_true] at e3
        obtain ⟨rfl, rfl⟩ := e3
        exact h3
      obtain ⟨xs, hkl3, hcx, h1x⟩ := KL3.of k.kids oK hkr
      have hbK : bK < wc.heap.size := World.block_lt_of_cell? wc _ (hcx 0 (xs[0]'(by rw [hkl3.1, ← unhide HNK]; omega)) (by simp))
      have hxl : xs.length = nK * 3 := by rw [hkl3.1, ← unhide HNK]
      have hbx : ∀ o, Below wc.heap.size wc (wc.alloc o) := fun o => (Below.refl _ _).alloc (Nat.le_refl _) o
      have HSZ := HS.out.size
      have k2 := HS.out.bK.cell (i := 2) (by omega)
      have k2a : ∀ ob, (wc.alloc ob).cell? ⟨w.heap.size, 2, none⟩ = some (.slice (some ⟨bK, oK, none⟩) nK capK) := fun ob => (HS.out.bK.alloc ob).cell (i := 2) (by omega)
      simp only [row3] at k2
      obtain ⟨i0, hi, hz0, hz1, hz2⟩ := info_parts infoKind3
      have HII := hide hi; have HZ0 := hide hz0; have HZ1 := hide hz1; have HZ2 := hide hz2
      have HEMP := hide (empty_row (base := w.heap.size + 2) (size := 3) (World.rowIs_alloc wc #[] 26 (fun _ => .bool false) (fun i hi => by simp at hi)) HSZ)
      have HCX : Hid (∀ j u, xs[j]? = some u → (wc.alloc (.cells #[] 26)).cell? ((⟨bK, oK, none⟩ : Addr).add j) = some u) := fun j u hj => by
        rw [Addr.add_lit, World.cell?_of_block (w := wc) ((hbx _).block bK hbK)]; exact hcx j u hj
      have HXL := hide hxl; have H1X := hide h1x; have HL3 := hide hkl3
      clear hi hz0 hz1 hz2 hkr hcx hkl3 hxl h1x
      go_wp2_with (at_builtin; refine append_row _ rfl _ _ 24 rfl (w.heap.size + 2) 26 i0 _ 3 56 Tryz.underlying24 (unhide HII) (unhide HZ0) (unhide HZ1) (unhide HZ2) rfl (by decide) (.slice (some ⟨wc.heap.size, 0, none⟩) 0 0) 0 [] rfl (unhide HEMP) ⟨bK, oK, none⟩ nK capK xs rfl (unhide HXL) (unhide HCX) (unhide H1X) hn0 (by unfold maxLen; omega) (by omega) (by simp; omega) ?_; intro v' w3 hown3 hgrow3 hat3; rw [Nat.zero_add, List.nil_append] at hown3; obtain ⟨g, cap, rfl, hg1, hg2⟩ := hown3.form hn0; have HG := hide hgrow3; have HO := hide hown3; clear hgrow3 hown3 hat3)
      have hs3 : SP R w ⟨.int .i64 k.sort, .slice aN nN capN, .slice (some ⟨bK, oK, none⟩) nK capK⟩ v b q w3 :=
        (HS.out.touch (World.grownBy_alloc wc (.cells #[] 26) none) (fun b e => by cases e)).touch (unhide HG) (fun b e => by have := ((unhide HEMP).lt b e).1; omega)
      have HS3 := hide hs3
      have HL33 := hide ((unhide HL3).carry (w' := w3) (Q := P) (fun x hx => by
        have hp := unhide HP x hx
        have h1 := hs3.but.at hp.2 (by omega)
        have h2 := HS.out.but.at hp.2 (by omega)
        exact h1.trans h2.symm) (fun _ h => h))
      have HPK := hide (pick_any R w3 v b q nK hs3.dr (by omega) (by omega))
      clear hs3 HG HEMP HCX HXL H1X HL3 HS k2 k2a hbx hbK HKS
      go_wp2_with fail
      refine (unhide HPK).mono ?_
      rintro e w4 ⟨i, rfl, hi4, HD4, HB4⟩
      have hsz3 := (unhide HS3).size
      have hR := (unhide HS3).hR
      have HS4 := hide ((unhide HS3).next HD4.out HB4.out)
      have HO4 := hide ((unhide HO).kept HB4.out (Or.inr (fun e => by simp [Value.ownBlock] at e; omega)))
      have HL4 := hide ((unhide HL33).carry (w' := w4) (Q := P) (fun x hx => HB4.out.at (by have := unhide HP x hx; omega) (by have := unhide HP x hx; omega)) (fun _ h => h))
      clear HPK HD4 HB4 HO HL33 HS3
      have hik : i < k.kids.length := by rw [← unhide HNK]; exact hi4
      obtain ⟨⟨y0, y1, y2⟩, x0, x1, x2, hkr⟩ := (unhide HL4).2 i hik
      obtain ⟨z0, -, ⟨a5, cap5, z1, -⟩, a6, cap6, z2, -⟩ := hkr.open
      simp only at z0 z1 z2
      subst z0 z1 z2
      have f0 := (unhide HO4).cells (g := g) rfl _ _ x0
      have f1 := (unhide HO4).cells (g := g) rfl _ _ x1
      have f2 := (unhide HO4).cells (g := g) rfl _ _ x2
      simp only [Addr.add_lit, Nat.zero_add] at f0 f1 f2
      have hsm := ksz_kid (List.getElem_mem hik)
      have hwkid := wKs_get k.kids i hik
      have hwe : wKd k = wS k.names + wKs k.kids := by obtain ⟨s, ns, ks⟩ := k; rw [wKd]; rfl
      have HC := hide (unhide HI k.kids[i] (by omega) P R w4 v b (q + 1) ⟨_, _, _⟩ (unhide HS4).dr (fun x hx => ⟨(unhide HP x hx).1, by have := (unhide HP x hx).2; have := (unhide HS4).size; omega⟩) hkr (by omega) (by omega))
      have hix : (i : Int) < (nK : Int) := by omega
      have hwset : ∀ k', wKs (k.kids.set i k') + wKd k.kids[i] = wKs k.kids + wKd k' := fun k' => wKs_set k.kids i k' hik
      have HKI := hide hik; have HWS := hide hwset
      generalize k.kids[i] = kk at *
      clear hkr x0 x1 x2 hwset hik
      go_wp2_with fail
      refine (unhide HC).mono ?_
      rintro e w5 ⟨k', ⟨t0, t1, t2⟩, p', rfl, hr5, hd5, hp5, hw5, hb5⟩
      have hs5 := (unhide HS4).next hd5 hb5
      have ho5 := (unhide HO4).kept hb5 (Or.inr (fun e => by simp [Value.ownBlock] at e; omega))
      have hsz4 := (unhide HO4).lt g rfl
      have hz5 := hb5.size
      have hl5 : KL3 (fun x => P x ∨ (w4.heap.size ≤ x ∧ x < w5.heap.size)) w5 k.kids xs := (unhide HL4).carry (fun x hx => hb5.at (by have := unhide HP x hx; omega) (by have := unhide HP x hx; omega)) (fun _ h => Or.inl h)
      have hput := hl5.put (unhide HKI) hr5
      obtain ⟨g0, -, ⟨a7, cap7, g1', -⟩, a8, cap8, g2', -⟩ := hr5.open
      simp only at g0 g1' g2' hput
      subst g0 g1' g2'
      obtain ⟨uf0, huf0⟩ : ∃ u, xs[i * 3]? = some u := ⟨_, List.getElem?_eq_getElem (by rw [hl5.1]; have := unhide HKI; omega)⟩
      have f0 := ho5.cells (g := g) rfl _ _ huf0
      obtain ⟨uf1, huf1⟩ : ∃ u, xs[i * 3 + 1]? = some u := ⟨_, List.getElem?_eq_getElem (by rw [hl5.1]; have := unhide HKI; omega)⟩
      have f1 := ho5.cells (g := g) rfl _ _ huf1
      obtain ⟨uf2, huf2⟩ : ∃ u, xs[i * 3 + 2]? = some u := ⟨_, List.getElem?_eq_getElem (by rw [hl5.1]; have := unhide HKI; omega)⟩
      have f2 := ho5.cells (g := g) rfl _ _ huf2
      simp only [Addr.add_lit, Nat.zero_add] at f0 f1 f2
      have fz := ownsRow_free ho5
      have m0 := hs5.bK.cell (i := 0) (by omega); have m1 := hs5.bK.cell (i := 1) (by omega); have m2 := hs5.bK.cell (i := 2) (by omega); have mf := hs5.bK.frozen
      have n0 := hs5.bX.cell (i := 0) (by omega); have n1 := hs5.bX.cell (i := 1) (by omega); have n2 := hs5.bX.cell (i := 2) (by omega); have nf := hs5.bX.frozen
      simp only [row3] at m0 m1 m2 n0 n1 n2
      have hgK : g ≠ w.heap.size := by omega
      have hgK2 : w.heap.size ≠ g := by omega
      have hgX : g ≠ w.heap.size + 1 := by omega
      have hgX2 : w.heap.size + 1 ≠ g := by omega
      have hkx : w.heap.size ≠ w.heap.size + 1 := by omega
      have hkx2 : w.heap.size + 1 ≠ w.heap.size := by omega
      have HS5 := hide hs5; have HO5 := hide ho5; have HPUT := hide hput
      clear hs5 ho5 hput hl5 hd5 hb5 hr5 HC HS4 HO4 HL4 huf0 huf1 huf2
      have HNS : Hid (StrsAt P w5 (.slice aN nN capN) k.names) := by
        have h1 := unhide HCAR w5 (unhide HS5).but
        exact h1.open.2.2.1
      have hwk' := unhide HWS k'
      have HEND := hide (fun d0 d1 d2 => spoil_kid (N := 3 * ksz k + 100) (M := wKd k + 1000) (p := p) (c' := ⟨.int .i64 k'.sort, .slice a7 k'.names.length cap7, .slice a8 k'.kids.length cap8⟩) (unhide HP) (unhide HS5) (unhide HO5) hz5 hsz4 (unhide HPUT) (unhide HNS) hi0 (unhide HNK) hnk1 (by omega) (by omega) d0 d1 d2)
      clear HNS hwk' HS5 HO5 HPUT
      go_wp2_with fail
      refine bodyPost_ret (v := .agg #[.int .i64 k.sort, .slice aN nN capN, .slice (some ⟨g, 0, none⟩) nK cap]) (by simp [results, Tryz.results21, go_sem, n0, n1, n2]) rfl ?_
      exact unhide HEND _ _ _
    | false =>
      clear hbv
      have HPK := hide (pick_any R wc v b q 5 HS.out.dr (by omega) (by omega))
      have hR := HS.out.hR
      go_wp2_with fail
      refine (unhide HPK).mono ?_
      rintro e w2 ⟨r, rfl, hr, HD2, HB2⟩
      have HS2 := hide (HS.out.next HD2.out HB2.out)
      clear HPK HD2 HB2 HS
      rcases (show r = 0 ∨ r = 1 ∨ r = 2 ∨ r = 3 ∨ r = 4 by omega) with rfl | rfl | rfl | rfl | rfl
      · have HPK := hide (pick_any R w2 v b (q + 1) 8 (unhide HS2).dr (by omega) (by omega))
        go_wp2_with fail
        refine (unhide HPK).mono ?_
        rintro e w3 ⟨s8, rfl, hs8, HD3, HB3⟩
        have hs3 := (unhide HS2).next HD3.out HB3.out
        have m0 := hs3.bK.cell (i := 0) (by omega); have m1 := hs3.bK.cell (i := 1) (by omega); have m2 := hs3.bK.cell (i := 2) (by omega); have mf := hs3.bK.frozen
        have n0 := hs3.bX.cell (i := 0) (by omega); have n1 := hs3.bX.cell (i := 1) (by omega); have n2 := hs3.bX.cell (i := 2) (by omega); have nf := hs3.bX.frozen
        simp only [row3] at m0 m1 m2 n0 n1 n2
        have hkx : w.heap.size ≠ w.heap.size + 1 := by omega
        have hkx2 : w.heap.size + 1 ≠ w.heap.size := by omega
        have HEND := hide (fun d0 d1 d2 => spoil_sort (N := 3 * ksz k + 100) (M := wKd k + 1000) (p := p) (s := (s8 : Int)) (unhide HP) hs3 (unhide HCAR w3 hs3.but) ⟨by omega, by omega⟩ (by omega) (by omega) d0 d1 d2)
        clear hs3 HD3 HB3 HPK HS2
        go_wp2_with fail
        refine bodyPost_ret (v := .agg #[.int .i64 (s8 : Int), .slice aN nN capN, .slice aK nK capK]) (by simp [results, Tryz.results21, go_sem, n0, n1, n2]) rfl ?_
        exact unhide HEND _ _ _
      · have m1 := (unhide HS2).bK.cell (i := 1) (by omega)
        simp only [row3] at m1
        have m1a : ∀ ob, (w2.alloc ob).cell? ⟨w.heap.size, 1, none⟩ = some (.slice aN nN capN) := fun ob => ((unhide HS2).bK.alloc ob).cell (i := 1) (by omega)
        have hsz2 := (unhide HS2).size
        rcases Nat.eq_zero_or_pos nN with h0 | h0
        · subst h0
          rcases aN with _ | aN
          all_goals
            have hnm0 : k.names = [] := List.eq_nil_of_length_eq_zero (unhide HNN).symm
            have HO : Hid ((w2.alloc (.cells #[] 9)).ownsRow (w.heap.size + 2) 9 1 (.slice (some ⟨w2.heap.size, 0, none⟩) 0 0) 0 (k.names.map Value.string)) := by
              rw [hnm0]
              exact empty_row (World.rowIs_alloc w2 #[] 9 (fun _ => .bool false) (fun i hi => by simp at hi)) hsz2
            have HS3 := hide ((unhide HS2).on ((Below.refl _ _).alloc (Nat.le_refl _) (.cells #[] 9)))
            go_wp2_with fail
            clear hnm0 m1 m1a HS2
            obtain ⟨w3, hw3⟩ : ∃ w3, w2.alloc (.cells #[] 9) = w3 := ⟨_, rfl⟩
            rw [show w2.heap.size + 1 = w3.heap.size from by rw [← hw3, World.size_alloc]]
            rw [hw3] at HO HS3 ⊢
            clear hw3
            have hsz3 := (unhide HS3).size
            have hlenN : k.names.length = 0 := (unhide HNN).symm
            have HOF := hide (of_any R _ v b (q + 1) ((unhide HS3).dr.on ((Below.refl _ _).alloc (Nat.le_refl _) (.cells #[.string ⟨#[97]⟩, .string ⟨#[122]⟩, .string ⟨#[65]⟩] 9))) (by omega) w3.heap.size 3 (fun i => of3.getD i ByteArray.empty) (by omega) (of3_row w3) (by omega))
            refine (unhide HOF).mono ?_
            rintro e w4 ⟨r3, rfl, hr3, HD4, HB4⟩
            have hnm := of3_size r3 hr3
            generalize of3.getD r3 ByteArray.empty = nm at *
            have hbA : Below w3.heap.size w3 (w3.alloc (.cells #[.string ⟨#[97]⟩, .string ⟨#[122]⟩, .string ⟨#[65]⟩] 9)) := (Below.refl _ _).alloc (Nat.le_refl _) _
            have HS4 := hide (((unhide HS3).on hbA).next HD4.out HB4.out)
            have HO4 := hide (World.ownsRow.kept (World.ownsRow.alloc (unhide HO) (.cells #[.string ⟨#[97]⟩, .string ⟨#[122]⟩, .string ⟨#[65]⟩] 9)) HB4.out (Or.inr (fun e => by simp [Value.ownBlock] at e; omega)))
            obtain ⟨j0, hj, hy0, hy1, hy2⟩ := info_parts infoStr1
            have HJJ := hide hj; have HY0 := hide hy0; have HY1 := hide hy1; have HY2 := hide hy2
            have hsz4 := (unhide HS4).size
            clear HOF HD4 HB4 hbA HS3 HO hj hy0 hy1 hy2
            go_wp2_with (at_builtin; refine append_row _ rfl _ _ 23 rfl (w.heap.size + 2) 9 j0 (.string ByteArray.empty) 1 16 Tryz.underlying23 (unhide HJJ) (unhide HY0) (unhide HY1) (unhide HY2) rfl (by decide) (.slice (some ⟨w2.heap.size, 0, none⟩) 0 0) 0 (k.names.map Value.string) rfl (World.ownsRow.alloc (unhide HO4) _) ⟨w4.heap.size, 0, none⟩ 1 1 [.string nm] rfl rfl (cell_one w4 _ _) (fun u hu => by simp at hu; subst hu; rfl) (by decide) (by unfold maxLen; omega) (by omega) (by simp; omega) ?_; intro v' w5 hown5 hgrow5 hat5; obtain ⟨g5, cap5, rfl, hg51, hg52⟩ := hown5.form (by omega); have HG5 := hide hgrow5; have HO5 := hide hown5; have hs5 := ((unhide HS4).touch (World.grownBy_alloc w4 (.cells #[.string nm] 9) none) (fun b e => by cases e)).touch hgrow5 (fun b e => ((unhide HO4).lt b e).1); have m0 := hs5.bK.cell (i := 0) (by omega); have m1 := hs5.bK.cell (i := 1) (by omega); have m2 := hs5.bK.cell (i := 2) (by omega); have mf := hs5.bK.frozen; have n0 := hs5.bX.cell (i := 0) (by omega); have n1 := hs5.bX.cell (i := 1) (by omega); have n2 := hs5.bX.cell (i := 2) (by omega); have nf := hs5.bX.frozen; simp only [row3] at m0 m1 m2 n0 n1 n2; have HS5 := hide hs5; clear hs5 hown5 hgrow5 hat5; have hkx : w.heap.size ≠ w.heap.size + 1 := (by omega); have hkx2 : w.heap.size + 1 ≠ w.heap.size := (by omega))
            have hwe : wKd k = wS k.names + wKs k.kids := by obtain ⟨s, ns, ks⟩ := k; rw [wKd]; rfl
            have HEND := hide (fun d0 d1 d2 => spoil_names (N := 3 * ksz k + 100) (M := wKd k + 1000) (p := p) (ns := k.names ++ [nm]) (unhide HP) (unhide HS5) (unhide HCAR w5 (unhide HS5).but) (by rw [List.map_append, List.length_append, hlenN]; exact unhide HO5) (fun x hx => by rcases List.mem_append.1 hx with hx | hx; (obtain ⟨i, hi, rfl⟩ := List.getElem_of_mem hx; obtain ⟨_, _, _, _, _, hh⟩ := unhide HNC i hi; exact hh); (simp at hx; rw [hx]; omega)) (by omega) (by rw [wS_snoc1]; omega) d0 d1 d2)
            clear HS5 HO5 HG5 HS4 HO4
            refine bodyPost_ret (v := .agg #[.int .i64 k.sort, .slice (some ⟨g5, 0, none⟩) (0 + 1) cap5, .slice aK nK capK]) (by simp [results, Tryz.results21, go_sem, n0, n1, n2]) rfl ?_
            exact unhide HEND _ _ _
        · obtain ⟨bN, oN, rfl, -, -, -⟩ := unhide HNC 0 (by rw [← unhide HNN]; exact h0)
          have hst := (unhide HCAR w2 (unhide HS2).but).open.2.2.1
          obtain ⟨j0, hj, hy0, hy1, hy2⟩ := info_parts infoStr1
          have HJJ := hide hj; have HY0 := hide hy0; have HY1 := hide hy1; have HY2 := hide hy2
          have HEMP := hide (empty_row (base := w.heap.size + 2) (size := 1) (World.rowIs_alloc w2 #[] 9 (fun _ => .bool false) (fun i hi => by simp at hi)) hsz2)
          have HCX : Hid (∀ j u, (k.names.map Value.string)[j]? = some u → (w2.alloc (.cells #[] 9)).cell? ((⟨bN, oN, none⟩ : Addr).add j) = some u) := fun j u hj => by
            rw [List.getElem?_map] at hj
            obtain ⟨x, hx, rfl⟩ := Option.map_eq_some_iff.1 hj
            obtain ⟨hlt, rfl⟩ := List.getElem?_eq_some_iff.1 hx
            obtain ⟨a', cap', e, -, hc⟩ := hst
            simp only [Value.slice.injEq] at e
            obtain ⟨e1, -, -⟩ := e
            obtain ⟨b', o', e2, hpb, hcell, -⟩ := hc j hlt
            rw [← e1] at e2
            simp only [Option.some.injEq, Addr.mk.injEq, and_true] at e2
            obtain ⟨rfl, rfl⟩ := e2
            rw [Addr.add_lit, World.cell?_of_block (w := w2) (Below.heap_alloc _ _ _ (World.block_lt_of_cell? w2 _ hcell))]
            exact hcell
          clear hst hj hy0 hy1 hy2
          go_wp2_with (at_builtin; refine append_row _ rfl _ _ 23 rfl (w.heap.size + 2) 9 j0 (.string ByteArray.empty) 1 16 Tryz.underlying23 (unhide HJJ) (unhide HY0) (unhide HY1) (unhide HY2) rfl (by decide) (.slice (some ⟨w2.heap.size, 0, none⟩) 0 0) 0 [] rfl (unhide HEMP) ⟨bN, oN, none⟩ nN capN (k.names.map Value.string) rfl (by rw [List.length_map, ← unhide HNN, Nat.mul_one]) (unhide HCX) (fun u hu => by obtain ⟨x, -, rfl⟩ := List.mem_map.1 hu; rfl) h0 (by unfold maxLen; omega) (by omega) (by simp; omega) ?_; intro v' w3 hown3 hgrow3 hat3; rw [Nat.zero_add, List.nil_append] at hown3; obtain ⟨g, cap, rfl, hg1, hg2⟩ := hown3.form h0; have HO := hide hown3; have HS3 := hide (((unhide HS2).on ((Below.refl _ _).alloc (Nat.le_refl _) (.cells #[] 9))).touch hgrow3 (fun b e => ((unhide HEMP).lt b e).1)); clear hgrow3 hown3 hat3)
          clear HJJ HY0 HY1 HY2 HEMP HCX m1 m1a HS2
          have hsz3 := (unhide HS3).size
          have hlenN : k.names.length = nN := (unhide HNN).symm
          have HOF := hide (of_any R _ v b (q + 1) ((unhide HS3).dr.on ((Below.refl _ _).alloc (Nat.le_refl _) (.cells #[.string ⟨#[97]⟩, .string ⟨#[122]⟩, .string ⟨#[65]⟩] 9))) (by omega) w3.heap.size 3 (fun i => of3.getD i ByteArray.empty) (by omega) (of3_row w3) (by omega))
          refine (unhide HOF).mono ?_
          rintro e w4 ⟨r3, rfl, hr3, HD4, HB4⟩
          have hnm := of3_size r3 hr3
          generalize of3.getD r3 ByteArray.empty = nm at *
          have hbA : Below w3.heap.size w3 (w3.alloc (.cells #[.string ⟨#[97]⟩, .string ⟨#[122]⟩, .string ⟨#[65]⟩] 9)) := (Below.refl _ _).alloc (Nat.le_refl _) _
          have HS4 := hide (((unhide HS3).on hbA).next HD4.out HB4.out)
          have HO4 := hide (World.ownsRow.kept (World.ownsRow.alloc (unhide HO) (.cells #[.string ⟨#[97]⟩, .string ⟨#[122]⟩, .string ⟨#[65]⟩] 9)) HB4.out (Or.inr (fun e => by simp [Value.ownBlock] at e; omega)))
          obtain ⟨j0, hj, hy0, hy1, hy2⟩ := info_parts infoStr1
          have HJJ := hide hj; have HY0 := hide hy0; have HY1 := hide hy1; have HY2 := hide hy2
          have hsz4 := (unhide HS4).size
          clear HOF HD4 HB4 hbA HS3 HO hj hy0 hy1 hy2
          go_wp2_with (at_builtin; refine append_row _ rfl _ _ 23 rfl (w.heap.size + 2) 9 j0 (.string ByteArray.empty) 1 16 Tryz.underlying23 (unhide HJJ) (unhide HY0) (unhide HY1) (unhide HY2) rfl (by decide) (.slice (some ⟨g, 0, none⟩) nN cap) nN (k.names.map Value.string) rfl (World.ownsRow.alloc (unhide HO4) _) ⟨w4.heap.size, 0, none⟩ 1 1 [.string nm] rfl rfl (cell_one w4 _ _) (fun u hu => by simp at hu; subst hu; rfl) (by decide) (by unfold maxLen; omega) (by omega) (by simp; omega) ?_; intro v' w5 hown5 hgrow5 hat5; obtain ⟨g5, cap5, rfl, hg51, hg52⟩ := hown5.form (by omega); have HG5 := hide hgrow5; have HO5 := hide hown5; have hs5 := ((unhide HS4).touch (World.grownBy_alloc w4 (.cells #[.string nm] 9) none) (fun b e => by cases e)).touch hgrow5 (fun b e => ((unhide HO4).lt b e).1); have m0 := hs5.bK.cell (i := 0) (by omega); have m1 := hs5.bK.cell (i := 1) (by omega); have m2 := hs5.bK.cell (i := 2) (by omega); have mf := hs5.bK.frozen; have n0 := hs5.bX.cell (i := 0) (by omega); have n1 := hs5.bX.cell (i := 1) (by omega); have n2 := hs5.bX.cell (i := 2) (by omega); have nf := hs5.bX.frozen; simp only [row3] at m0 m1 m2 n0 n1 n2; have HS5 := hide hs5; clear hs5 hown5 hgrow5 hat5; have hkx : w.heap.size ≠ w.heap.size + 1 := (by omega); have hkx2 : w.heap.size + 1 ≠ w.heap.size := (by omega))
          have hwe : wKd k = wS k.names + wKs k.kids := by obtain ⟨s, ns, ks⟩ := k; rw [wKd]; rfl
          have HEND := hide (fun d0 d1 d2 => spoil_names (N := 3 * ksz k + 100) (M := wKd k + 1000) (p := p) (ns := k.names ++ [nm]) (unhide HP) (unhide HS5) (unhide HCAR w5 (unhide HS5).but) (by rw [List.map_append, List.length_append, hlenN]; exact unhide HO5) (fun x hx => by rcases List.mem_append.1 hx with hx | hx; (obtain ⟨i, hi, rfl⟩ := List.getElem_of_mem hx; obtain ⟨_, _, _, _, _, hh⟩ := unhide HNC i hi; exact hh); (simp at hx; rw [hx]; omega)) (by omega) (by rw [wS_snoc1]; omega) d0 d1 d2)
          clear HS5 HO5 HG5 HS4 HO4
          refine bodyPost_ret (v := .agg #[.int .i64 k.sort, .slice (some ⟨g5, 0, none⟩) (nN + 1) cap5, .slice aK nK capK]) (by simp [results, Tryz.results21, go_sem, n0, n1, n2]) rfl ?_
          exact unhide HEND _ _ _
      · have m2 := (unhide HS2).bK.cell (i := 2) (by omega)
        simp only [row3] at m2
        have m2a : ∀ ob, (w2.alloc ob).cell? ⟨w.heap.size, 2, none⟩ = some (.slice aK nK capK) := fun ob => ((unhide HS2).bK.alloc ob).cell (i := 2) (by omega)
        have hsz2 := (unhide HS2).size
        have HBW2 := hide (unhide HS2).but
        obtain ⟨i0, hi, hz0, hz1, hz2⟩ := info_parts infoKind3
        have HII := hide hi; have HZ0 := hide hz0; have HZ1 := hide hz1; have HZ2 := hide hz2
        clear hi hz0 hz1 hz2
        rcases Nat.eq_zero_or_pos nK with h0 | h0
        · subst h0
          rcases aK with _ | aK
          all_goals
            have hkn : k.kids = [] := List.eq_nil_of_length_eq_zero (unhide HNK).symm
            have HO : Hid ((w2.alloc (.cells #[] 26)).ownsRow (w.heap.size + 2) 26 3 (.slice (some ⟨w2.heap.size, 0, none⟩) 0 0) 0 []) := empty_row (World.rowIs_alloc w2 #[] 26 (fun _ => .bool false) (fun i hi => by simp at hi)) hsz2
            have HS3 := hide ((unhide HS2).on ((Below.refl _ _).alloc (Nat.le_refl _) (.cells #[] 26)))
            have HL2 : Hid (KL3 P w2 k.kids []) := by show KL3 P w2 k.kids []; rw [hkn]; exact ⟨rfl, fun i hi => by simp at hi⟩
            clear hkn HS2
            go_wp2_with (at_builtin; refine append_row _ rfl _ _ 24 rfl (w.heap.size + 2) 26 i0 _ 3 56 Tryz.underlying24 (unhide HII) (unhide HZ0) (unhide HZ1) (unhide HZ2) rfl (by decide) (.slice (some ⟨w2.heap.size, 0, none⟩) 0 0) 0 [] rfl (World.ownsRow.alloc (unhide HO) _) ⟨w2.heap.size + 1, 0, none⟩ 1 1 (c3l ⟨.int .i64 1, .slice none 0 0, .slice none 0 0⟩) rfl rfl (by have := cell_three (w2.alloc (.cells #[] 26)) ⟨.int .i64 1, .slice none 0 0, .slice none 0 0⟩ 26; rw [World.size_alloc] at this; exact this) (OwnD.leaf (w2.alloc (.cells #[] 26)) 1 ⟨by decide, by decide⟩).one (by decide) (by unfold maxLen; omega) (by omega) (by simp; omega) ?_; intro v' w5 hown5 hgrow5 hat5; obtain ⟨g5, cap5, rfl, hg51, hg52⟩ := hown5.form (by omega); have HO5 := hide hown5; have hs5 := ((unhide HS3).touch (World.grownBy_alloc (w2.alloc (.cells #[] 26)) (.cells #[.int .i64 1, .slice none 0 0, .slice none 0 0] 26) none) (fun b e => by cases e)).touch hgrow5 (fun b e => ((unhide HO).lt b e).1); have m0 := hs5.bK.cell (i := 0) (by omega); have m1 := hs5.bK.cell (i := 1) (by omega); have m2 := hs5.bK.cell (i := 2) (by omega); have mf := hs5.bK.frozen; have n0 := hs5.bX.cell (i := 0) (by omega); have n1 := hs5.bX.cell (i := 1) (by omega); have n2 := hs5.bX.cell (i := 2) (by omega); have nf := hs5.bX.frozen; simp only [row3] at m0 m1 m2 n0 n1 n2; have HS5 := hide hs5; clear hs5 hown5 hgrow5 hat5; have hkx : w.heap.size ≠ w.heap.size + 1 := (by omega); have hkx2 : w.heap.size + 1 ≠ w.heap.size := (by omega))
            have hwe : wKd k = wS k.names + wKs k.kids := by obtain ⟨s, ns, ks⟩ := k; rw [wKd]; rfl
            have hl5 : KL3 P w5 k.kids [] := (unhide HL2).carry (fun x hx => by
              have hp := unhide HP x hx
              exact ((unhide HS5).but.at hp.2 (by omega)).trans ((unhide HBW2).at hp.2 (by omega)).symm) (fun _ h => h)
            have HEND := hide (fun d0 d1 d2 => spoil_kids (N := 3 * ksz k + 100) (M := wKd k + 1000) (p := p) (ks := k.kids ++ [.mk 1 [] []]) (unhide HP) (unhide HS5) (unhide HCAR w5 (unhide HS5).but) (unhide HO5) (hl5.snoc (OwnD.rep _ _ [] (fun _ h => by cases h) (OwnD.leaf w5 1 ⟨by decide, by decide⟩))) (by rw [List.length_append, ← unhide HNK]; rfl) (by omega) (by omega) (by rw [wKs_snoc1]; simp only [wKd, wS, wKs]; omega) d0 d1 d2)
            clear HS5 HO5 hl5
            refine bodyPost_ret (v := .agg #[.int .i64 k.sort, .slice aN nN capN, .slice (some ⟨g5, 0, none⟩) (0 + 1) cap5]) (by simp [results, Tryz.results21, go_sem, n0, n1, n2]) rfl ?_
            exact unhide HEND _ _ _
        · skip
          obtain ⟨bK, oK, -, rfl, -, -, -⟩ := unhide HKS 0 (by rw [← unhide HNK]; exact h0)
          have hkr : KRepK P w2 bK oK k.kids := by
            have h1 := unhide HCAR w2 (unhide HS2).but
            obtain ⟨s0, ns0, ks0⟩ := k
            rw [KRep] at h1
            obtain ⟨-, -, -, a, cap, e, -, h2⟩ := h1
            simp only [Value.slice.injEq] at e
            obtain ⟨e1, -, -⟩ := e
            obtain ⟨b', o', e3, -, h3⟩ := h2 (fun hh => by have := unhide HNK; simp only [Kd.kids] at this; rw [hh] at this; simp at this; omega)
            rw [← e1] at e3
            simp only [Option.some.injEq, Addr.mk.injEq, and_true] at e3
            obtain ⟨rfl, rfl⟩ := e3
            exact h3
          obtain ⟨xs, hkl3, hcx, h1x⟩ := KL3.of k.kids oK hkr
          have hxl : xs.length = nK * 3 := by rw [hkl3.1, ← unhide HNK]
          have hbK : bK < w2.heap.size := World.block_lt_of_cell? w2 _ (hcx 0 (xs[0]'(by rw [hxl]; omega)) (by simp))
          have HEMP := hide (empty_row (base := w.heap.size + 2) (size := 3) (World.rowIs_alloc w2 #[] 26 (fun _ => .bool false) (fun i hi => by simp at hi)) hsz2)
          have HCX : Hid (∀ j u, xs[j]? = some u → (w2.alloc (.cells #[] 26)).cell? ((⟨bK, oK, none⟩ : Addr).add j) = some u) := fun j u hj => by
            rw [Addr.add_lit, World.cell?_of_block (w := w2) (Below.heap_alloc _ _ _ hbK)]; exact hcx j u hj
          have HXL := hide hxl; have H1X := hide h1x; have HL2 := hide hkl3
          clear hkr hcx hkl3 hxl h1x
          go_wp2_with (first
            | (at_builtin; refine append_row _ rfl _ _ 24 rfl (w.heap.size + 2) 26 i0 _ 3 56 Tryz.underlying24 (unhide HII) (unhide HZ0) (unhide HZ1) (unhide HZ2) rfl (by decide) (.slice (some ⟨w2.heap.size, 0, none⟩) 0 0) 0 [] rfl (unhide HEMP) ⟨bK, oK, none⟩ nK capK xs rfl (unhide HXL) (unhide HCX) (unhide H1X) h0 (by unfold maxLen; omega) (by omega) (by simp; omega) ?_; intro v' w3 hown3 hgrow3 hat3; rw [Nat.zero_add, List.nil_append] at hown3; obtain ⟨g, cap, rfl, hg1, hg2⟩ := hown3.form h0; have HO := hide hown3; have HS3 := hide (((unhide HS2).on ((Below.refl _ _).alloc (Nat.le_refl _) (.cells #[] 26))).touch hgrow3 (fun b e => ((unhide HEMP).lt b e).1)); have hsz3 := (unhide HS3).size; clear hgrow3 hown3 hat3)
            | (at_builtin; refine append_row _ rfl _ _ 24 rfl (w.heap.size + 2) 26 i0 _ 3 56 Tryz.underlying24 (unhide HII) (unhide HZ0) (unhide HZ1) (unhide HZ2) rfl (by decide) (.slice (some ⟨g, 0, none⟩) nK cap) nK xs rfl (World.ownsRow.alloc (unhide HO) _) ⟨w3.heap.size, 0, none⟩ 1 1 (c3l ⟨.int .i64 1, .slice none 0 0, .slice none 0 0⟩) rfl rfl (cell_three w3 _ _) (OwnD.leaf (w3) 1 ⟨by decide, by decide⟩).one (by decide) (by unfold maxLen; omega) (by omega) (by simp; omega) ?_; intro v' w5 hown5 hgrow5 hat5; obtain ⟨g5, cap5, rfl, hg51, hg52⟩ := hown5.form (by omega); have HO5 := hide hown5; have hs5 := ((unhide HS3).touch (World.grownBy_alloc (w3) (.cells #[.int .i64 1, .slice none 0 0, .slice none 0 0] 26) none) (fun b e => by cases e)).touch hgrow5 (fun b e => ((unhide HO).lt b e).1); have m0 := hs5.bK.cell (i := 0) (by omega); have m1 := hs5.bK.cell (i := 1) (by omega); have m2 := hs5.bK.cell (i := 2) (by omega); have mf := hs5.bK.frozen; have n0 := hs5.bX.cell (i := 0) (by omega); have n1 := hs5.bX.cell (i := 1) (by omega); have n2 := hs5.bX.cell (i := 2) (by omega); have nf := hs5.bX.frozen; simp only [row3] at m0 m1 m2 n0 n1 n2; have HS5 := hide hs5; clear hs5 hown5 hgrow5 hat5; have hkx : w.heap.size ≠ w.heap.size + 1 := (by omega); have hkx2 : w.heap.size + 1 ≠ w.heap.size := (by omega)))
          have hwe : wKd k = wS k.names + wKs k.kids := by obtain ⟨s, ns, ks⟩ := k; rw [wKd]; rfl
          have hl5 : KL3 P w5 k.kids xs := (unhide HL2).carry (fun x hx => by
            have hp := unhide HP x hx
            exact ((unhide HS5).but.at hp.2 (by omega)).trans ((unhide HBW2).at hp.2 (by omega)).symm) (fun _ h => h)
          have HEND := hide (fun d0 d1 d2 => spoil_kids (N := 3 * ksz k + 100) (M := wKd k + 1000) (p := p) (ks := k.kids ++ [.mk 1 [] []]) (unhide HP) (unhide HS5) (unhide HCAR w5 (unhide HS5).but) (unhide HO5) (hl5.snoc (OwnD.rep _ _ [] (fun _ h => by cases h) (OwnD.leaf w5 1 ⟨by decide, by decide⟩))) (by rw [List.length_append, ← unhide HNK]; rfl) (by omega) (by omega) (by rw [wKs_snoc1]; simp only [wKd, wS, wKs]; omega) d0 d1 d2)
          clear HS5 HO5 hl5
          refine bodyPost_ret (v := .agg #[.int .i64 k.sort, .slice aN nN capN, .slice (some ⟨g5, 0, none⟩) (nK + 1) cap5]) (by simp [results, Tryz.results21, go_sem, n0, n1, n2]) rfl ?_
          exact unhide HEND _ _ _
      · have m0 := (unhide HS2).bK.cell (i := 0) (by omega); have m1 := (unhide HS2).bK.cell (i := 1) (by omega); have m2 := (unhide HS2).bK.cell (i := 2) (by omega); have mf := (unhide HS2).bK.frozen
        simp only [row3] at m0 m1 m2
        have hs3 := (((unhide HS2).set0 (.int .i64 5)).set1 (.slice none 0 0)).set2 (.slice none 0 0)
        have hdi : DInv (w.heap.size + 2) w.heap.size (((w2.setCell ⟨w.heap.size, 0, none⟩ (.int .i64 5)).setCell ⟨w.heap.size, 1, none⟩ (.slice none 0 0)).setCell ⟨w.heap.size, 2, none⟩ (.slice none 0 0)) 5 (.slice none 0 0) (.slice none 0 0) [] [] [] [] :=
          ⟨by omega, hs3.bK, World.ownsRow_nil _ _ _ _, GotD.start _ _, fun b hb => by simp [Value.ownBlock] at hb, hs3.size⟩
        have HS3 := hide hs3; have HDI := hide hdi
        obtain ⟨i0, hi, hz0, hz1, hz2⟩ := info_parts infoKind3
        obtain ⟨j0, hj, hy0, hy1, hy2⟩ := info_parts infoStr1
        have HII := hide hi; have HZ0 := hide hz0; have HZ1 := hide hz1; have HZ2 := hide hz2
        have HJJ := hide hj; have HY0 := hide hy0; have HY1 := hide hy1; have HY2 := hide hy2
        clear hs3 hdi HS2 hi hz0 hz1 hz2 hj hy0 hy1 hy2
        go_wp2_with fail
        go_loopw [7] (fun nn wr => ∃ (m q2 : Nat) (a1 : Option Addr) (cap1 : Nat) (a2 : Option Addr) (cap2 : Nat) (ns : List ByteArray) (ks : List Kd) (xs : List Value) (G : List Nat), m ≤ 40 ∧ nn = .int .i64 m ∧ q2 ≤ q + 1 + m ∧ Hid (WB m ns ks) ∧ Hid (SP R w ⟨.int .i64 5, .slice a1 m cap1, .slice a2 m cap2⟩ v b q2 wr) ∧ Hid (DInv (w.heap.size + 2) w.heap.size wr 5 (.slice a1 m cap1) (.slice a2 m cap2) ns ks xs G)) (fun nn _ => 40 - (intOf nn).toNat)
        case atStart => exact ⟨0, q + 1, none, 0, none, 0, [], [], [], [], by omega, rfl, by omega, hide ⟨rfl, rfl, (fun x hx => by cases hx), by simp [wS, wKs]⟩, HS3, HDI⟩
        case round =>
          clear HS3 HDI m0 m1 m2 mf
          obtain ⟨m, q2, a1, cap1, a2, cap2, ns, ks, xs, G, hm, rfl, hq2, HWB, HS, HD⟩ := hrel
          have HPK := hide (pick_any R wr v b q2 2 HS.out.dr (by omega) (by omega))
          go_wp2_with fail
          refine (unhide HPK).mono ?_
          rintro e w3 ⟨r2, rfl, hr2, HD3, HB3⟩
          have HS3 := hide (HS.out.next HD3.out HB3.out)
          have HI3 := hide (HD.out.kept HB3.out (fun b e => by cases e; exact ⟨by omega, by omega⟩))
          have hsz3 := (unhide HS3).size
          have hw39 : IntKind.i64.wrap (39 + (r2 : Int)) = 39 + (r2 : Int) := by rw [IntKind.wrap_i64]; omega
          clear HPK HD3 HB3 HS HD
          by_cases hlt : m < 39 + r2
          · have hqm : decide ((m : Int) < 39 + (r2 : Int)) = true := by simp; omega
            have hcallN : Calls Tryz.prog 43 #[.int .i64 (100 + (m : Int))] w3.drew fun e w4 => ∃ dg : ByteArray, e = .returned (.string dg) ∧ dg.size ≤ 3 ∧ Hid (SP R w ⟨.int .i64 5, .slice a1 m cap1, .slice a2 m cap2⟩ v b (q2 + 1) w4) ∧ Hid (DInv (w.heap.size + 2) w.heap.size w4 5 (.slice a1 m cap1) (.slice a2 m cap2) ns ks xs G) ∧ w4.cell? ⟨w.heap.size, 1, none⟩ = some (.slice a1 m cap1) ∧ (∀ ob, (w4.alloc ob).cell? ⟨w.heap.size, 1, none⟩ = some (.slice a1 m cap1)) ∧ w.heap.size + 2 ≤ w4.heap.size := by
              refine (l6Dec_nat 200 (100 + (m : Int)) w3.drew (by omega) (by omega) (by omega)).mono ?_
              rintro e w4 ⟨rfl, hb4⟩
              have hb34 : Below w3.heap.size w3 w4 := (Below.refl _ w3).drew.trans hb4
              have hs4 := (unhide HS3).on hb34
              have hd4 := (unhide HI3).kept (row := none) ⟨hb34.os, hb34.tape, hb34.output, hb34.size, fun i hi _ => hb34.block i hi⟩ (fun b e => by cases e)
              refine ⟨_, rfl, ?_, hs4, hd4, hs4.bK.cell (i := 1) (by omega), fun ob => (hs4.bK.alloc ob).cell (i := 1) (by omega), hs4.size⟩
              have hl := dec_len3 2 (100 + (m : Int)).toNat (by omega)
              show (Lib.decDigits (100 + (m : Int)).toNat).toArray.size ≤ 3
              simpa using hl
            have HCN := hide hcallN
            have e1 := (unhide HS3).bK.cell (i := 1) (by omega)
            simp only [row3] at e1
            have e1a : ∀ ob, (w3.alloc ob).cell? ⟨w.heap.size, 1, none⟩ = some (.slice a1 m cap1) := fun ob => ((unhide HS3).bK.alloc ob).cell (i := 1) (by omega)
            have hw100 : IntKind.i64.wrap (100 + (m : Int)) = 100 + (m : Int) := by rw [IntKind.wrap_i64]; omega
            clear hcallN
            go_wp2_with fail
            go_cut [] from 86 to 107 (fun wx => ∃ (nm : ByteArray) (g1 capx : Nat), nm.size ≤ 4 ∧ Hid (DInv (w.heap.size + 2) w.heap.size wx 5 (.slice (some ⟨g1, 0, none⟩) (m + 1) capx) (.slice a2 m cap2) (ns ++ [nm]) ks xs G) ∧ Hid (SP R w ⟨.int .i64 5, .slice (some ⟨g1, 0, none⟩) (m + 1) capx, .slice a2 m cap2⟩ v b (q2 + 1) wx))
            case first =>
              go_region_law (first
                | ((refine step_append_lies _ (by rfl) _ _ _ (by rfl) (w.heap.size + 2) 9 j0 (.string ByteArray.empty) 1 16 Tryz.underlying23 (unhide HJJ) (unhide HY0) (unhide HY1) (unhide HY2) rfl (by decide) (.slice a1 m cap1) m (ns.map Value.string) (by rfl) (by have := (unhide HD4).names; rw [HWB.out.1] at this; exact this.alloc _) ⟨w4.heap.size, 0, none⟩ 1 1 [.string (⟨#[110]⟩ ++ dg)] (by rfl) (by rfl) (cell_one w4 _ _) (fun u hu => by simp at hu; subst hu; rfl) (by decide) (by unfold maxLen; omega) (by omega) (by simp; omega) (w4.heap.size + 1) (by simp) ?_; intro g1 capx w5 hown5 hgrow5 hat5 hlt5; have u1 := (DInv.atN (unhide HD4) hgrow5).cell (i := 1) (by omega); have uz := (DInv.atN (unhide HD4) hgrow5).frozen 1; simp only [row3] at u1))
                | (rw [if_pos (by first | rfl | simp [Region.wanted])]; go_simp; refine (unhide HCN).mono ?_; rintro e w4 ⟨dg, rfl, hdg, HS4, HD4, t1, t1a, hsz4⟩; have hdgn : ¬ (9223372036854775807 < 1 + dg.size) := by omega))
              all_goals
                have hz4 : ∀ o, (w4.alloc o).heap.size = w4.heap.size + 1 := fun o => World.size_alloc _ _
                have hinv5 := DInv.name ((unhide HD4).kept (World.grownBy_alloc w4 (.cells #[.string (⟨#[110]⟩ ++ dg)] 9) none) (fun b e => by cases e)) (by rw [HWB.out.1]; exact hown5) hgrow5 (hat5.elim (fun e => Or.inl (by rw [e]; rfl)) (fun e => Or.inr ⟨g1, rfl, by rw [hz4, e]; exact Nat.le_refl _⟩))
                have hkw5 : SP R w ⟨.int .i64 5, .slice (some ⟨g1, 0, none⟩) (m + 1) capx, .slice a2 m cap2⟩ v b (q2 + 1) (w5.setCell ⟨w.heap.size, 1, none⟩ (.slice (some ⟨g1, 0, none⟩) (m + 1) capx)) :=
                  (((unhide HS4).touch (World.grownBy_alloc w4 (.cells #[.string (⟨#[110]⟩ ++ dg)] 9) none) (fun b e => by cases e)).touch hgrow5 (fun b e => ((unhide HD4).names.lt b e).1)).set1 _
                have HI5 := hide hinv5; have HKW5 := hide hkw5
                clear hinv5 hkw5 hown5 hgrow5 hat5 hlt5 uz u1
                go_wp2_with fail
                go_meet
                exact ⟨_, g1, capx, by have : ((⟨#[110]⟩ : ByteArray) ++ dg).size = 1 + dg.size := by simp [ByteArray.size_append]; rfl
                                       omega, HI5, HKW5⟩
            case rest =>
              obtain ⟨nm, g1, capx, hnm, HD5, HS5⟩ := hcut
              clear HS3 HI3 HCN e1 e1a
              have e2 := (unhide HS5).bK.cell (i := 2) (by omega); have ef := (unhide HS5).bK.frozen
              simp only [row3] at e2
              have e2a : ∀ ob, (wc.alloc ob).cell? ⟨w.heap.size, 2, none⟩ = some (.slice a2 m cap2) := fun ob => ((unhide HS5).bK.alloc ob).cell (i := 2) (by omega)
              have hszc := (unhide HS5).size
              go_wp2_with (at_builtin; refine append_row _ rfl _ _ 24 rfl (w.heap.size + 2) 26 i0 _ 3 56 Tryz.underlying24 (unhide HII) (unhide HZ0) (unhide HZ1) (unhide HZ2) rfl (by decide) (.slice a2 m cap2) m xs rfl (by have := (unhide HD5).got.row; rw [HWB.out.2.1] at this; exact this.alloc _) ⟨wc.heap.size, 0, none⟩ 1 1 (c3l ⟨.int .i64 1, .slice none 0 0, .slice none 0 0⟩) rfl rfl (cell_three wc _ _) (OwnD.leaf wc 1 ⟨by decide, by decide⟩).one (by decide) (by unfold maxLen; omega) (by omega) (by simp; omega) ?_; intro v' w8 hown8 hgrow8 hat8; obtain ⟨g2, capy, rfl, -, -⟩ := hown8.form (by omega); have u2 := (DInv.atK (unhide HD5) hgrow8).cell (i := 2) (by omega); have uz2 := (DInv.atK (unhide HD5) hgrow8).frozen 2; simp only [row3] at u2)
              have hinv8 := DInv.kid (m := wc.heap.size) (F := []) ((unhide HD5).kept (World.grownBy_alloc wc (.cells #[.int .i64 1, .slice none 0 0, .slice none 0 0] 26) none) (fun b e => by cases e)) (OwnD.leaf _ 1 ⟨by decide, by decide⟩) List.nodup_nil (fun b hb => by cases hb)
                (fun b hb => ((unhide HD5).got.lt b hb).2.1) (fun b hb => ((unhide HD5).got.row.lt b hb).2) (fun b hb => ((unhide HD5).names.lt b hb).2) (unhide HD5).size (by rw [HWB.out.2.1]; exact hown8) hgrow8 (hat8.elim (fun e => Or.inl e) (fun e => Or.inr (by obtain ⟨g, e1, e2⟩ := e; exact ⟨g, e1, e2⟩)))
              have hkw8 := (((unhide HS5).touch (World.grownBy_alloc wc (.cells #[.int .i64 1, .slice none 0 0, .slice none 0 0] 26) none) (fun b e => by cases e)).touch hgrow8 (fun b e => ((unhide HD5).got.row.lt b e).1)).set2 (.slice (some ⟨g2, 0, none⟩) (m + 1) capy)
              have HI8 := hide hinv8; have HKW8 := hide hkw8
              clear hinv8 hkw8 hown8 hgrow8 hat8 HD5 HS5 e2 e2a
              go_wp2_with fail
              go_roundw
              case rel => exact ⟨m + 1, q2 + 1, some ⟨g1, 0, none⟩, capx, some ⟨g2, 0, none⟩, capy, ns ++ [nm], ks ++ [.mk 1 [] []], _, _, by omega, by go_num, by omega, hide (HWB.out.more hnm), HKW8, HI8⟩
              case measure => simp [intOf]; omega
          · have hqm : decide ((m : Int) < 39 + (r2 : Int)) = false := by simp; omega
            obtain ⟨F, ho, hnd, hF⟩ := (unhide HI3).done ⟨by decide, by decide⟩ (fun x hx => by have := HWB.out.2.2.1 x hx; omega)
            have m0 := (unhide HS3).bK.cell (i := 0) (by omega); have m1 := (unhide HS3).bK.cell (i := 1) (by omega); have m2 := (unhide HS3).bK.cell (i := 2) (by omega)
            have n0 := (unhide HS3).bX.cell (i := 0) (by omega); have n1 := (unhide HS3).bX.cell (i := 1) (by omega); have n2 := (unhide HS3).bX.cell (i := 2) (by omega); have nf := (unhide HS3).bX.frozen
            simp only [row3] at m0 m1 m2 n0 n1 n2
            have hkx : w.heap.size ≠ w.heap.size + 1 := by omega
            have hkx2 : w.heap.size + 1 ≠ w.heap.size := by omega
            have hwb := HWB.out.2.2.2
            have HEND := hide (fun d0 d1 d2 => qk_end (P := P) (N := 3 * ksz k + 100) (M := wKd k + 1000) (p := p) (X := w.heap.size + 1) (k := .mk 5 ns ks) hR (by omega) (fun x hx => (unhide HP x hx).2) (OwnD.rep _ _ F (fun x hx => Or.inr ⟨by have := (hF x hx).1; omega, by have := (hF x hx).1; omega, (hF x hx).2⟩) ho) (unhide HS3).dr (by omega) (by rw [wKd]; omega) (unhide HS3).but d0 d1 d2)
            clear ho hF hnd HS3 HI3
            go_wp2_with fail
            refine bodyPost_ret (v := .agg #[.int .i64 5, .slice a1 m cap1, .slice a2 m cap2]) (by simp [results, Tryz.results21, go_sem, n0, n1, n2]) rfl ?_
            exact unhide HEND _ _ _
      · have m0 := (unhide HS2).bK.cell (i := 0) (by omega); have m1 := (unhide HS2).bK.cell (i := 1) (by omega); have m2 := (unhide HS2).bK.cell (i := 2) (by omega); have mf := (unhide HS2).bK.frozen
        simp only [row3] at m0 m1 m2
        have hs3 := (((unhide HS2).set0 (.int .i64 3)).set1 (.slice none 0 0)).set2 (.slice none 0 0)
        have HPK := hide (pick_any R _ v b (q + 1) 2 hs3.dr (by omega) (by omega))
        have HS3 := hide hs3
        clear hs3 HS2
        go_wp2_with fail
        refine (unhide HPK).mono ?_
        rintro e w3 ⟨r2, rfl, hr2, HD3, HB3⟩
        have HS4 := hide ((unhide HS3).next HD3.out HB3.out)
        clear HPK HD3 HB3 HS3 m0 m1 m2 mf
        go_wp2_with fail
        go_loopw [8] (fun nn wr => ∃ (m : Nat) (kk : Kd) (s0 : Int) (aq : Option Addr) (nq cq : Nat), m ≤ 6 ∧ nn = .int .i64 m ∧ Hid (wKd kk + m ≤ 6) ∧ Hid (SP R w ⟨.int .i64 s0, .slice none 0 0, .slice aq nq cq⟩ v b (q + 2) wr) ∧ Hid (KRep (fun x => w.heap.size + 2 ≤ x ∧ x < wr.heap.size) wr kk ⟨.int .i64 s0, .slice none 0 0, .slice aq nq cq⟩)) (fun nn _ => (intOf nn).toNat)
        case atStart => exact ⟨5 + r2, .mk 3 [] [], 3, none, 0, 0, by omega, by go_num, by show wKd _ + _ ≤ 6; simp [wKd, wS, wKs]; omega, HS4, OwnD.rep _ _ [] (fun _ h => by cases h) (OwnD.leaf w3 3 ⟨by decide, by decide⟩)⟩
        case round =>
          clear HS4
          obtain ⟨m, kk, s0, aq, nq, cq, hm, rfl, HW, HS, HK⟩ := hrel
          have m0 := HS.out.bK.cell (i := 0) (by omega); have m1 := HS.out.bK.cell (i := 1) (by omega); have m2 := HS.out.bK.cell (i := 2) (by omega); have mf := HS.out.bK.frozen
          simp only [row3] at m0 m1 m2
          have hsz := HS.out.size
          have hKlt : w.heap.size < wr.heap.size := by omega
          by_cases hm0 : m = 0
          · have hqm : decide ((0 : Int) < (m : Int)) = false := by simp; omega
            have hqn : decide (0 < m) = false := by simp; omega
            have n0 := HS.out.bX.cell (i := 0) (by omega); have n1 := HS.out.bX.cell (i := 1) (by omega); have n2 := HS.out.bX.cell (i := 2) (by omega); have nf := HS.out.bX.frozen
            simp only [row3] at n0 n1 n2
            have hkx : w.heap.size ≠ w.heap.size + 1 := by omega
            have hkx2 : w.heap.size + 1 ≠ w.heap.size := by omega
            have HEND := hide (fun d0 d1 d2 => qk_end (P := P) (N := 3 * ksz k + 100) (M := wKd k + 1000) (p := p) (X := w.heap.size + 1) hR (by omega) (fun x hx => (unhide HP x hx).2) (KRep.carry (fun _ _ => rfl) (fun x hx => Or.inr ⟨by omega, by omega, hx.2⟩) kk _ HK.out) HS.out.dr (by omega) (by have := HW.out; omega) HS.out.but d0 d1 d2)
            clear HS HK HW hm0
            go_wp2_with fail
            refine bodyPost_ret (v := .agg #[.int .i64 s0, .slice none 0 0, .slice aq nq cq]) (by simp [results, Tryz.results21, go_sem, n0, n1, n2]) rfl ?_
            exact unhide HEND _ _ _
          · have hqm : decide ((0 : Int) < (m : Int)) = true := by simp; omega
            have hqn : decide (0 < m) = true := by simp; omega
            rcases (show (m : Int) % 2 = 0 ∨ (m : Int) % 2 = 1 by omega) with he | he
            · have HNX := hide (nest_round (s := 4) ⟨by decide, by decide⟩ (.cells #[.int .i64 4, .int .i64 6] 3) HS.out HK.out)
              clear HS HK
              go_wp2_with fail
              go_region
              all_goals
                go_wp2_with fail
                go_roundw
                case rel =>
                  first
                    | exact ⟨m - 1, .mk 4 [] [kk], 4, _, _, _, by omega, by go_num, by show wKd _ + _ ≤ 6; have := HW.out; simp only [wKd, wS, wKs]; omega, (unhide HNX).1.1, (unhide HNX).1.2⟩
                    | exact ⟨m - 1, .mk 4 [] [kk], 4, _, _, _, by omega, by go_num, by show wKd _ + _ ≤ 6; have := HW.out; simp only [wKd, wS, wKs]; omega, (unhide HNX).2.1, (unhide HNX).2.2⟩
                case measure => simp [intOf]; omega
            · have HNX := hide (nest_round (s := 6) ⟨by decide, by decide⟩ (.cells #[.int .i64 4, .int .i64 6] 3) HS.out HK.out)
              clear HS HK
              go_wp2_with fail
              go_region
              all_goals
                go_wp2_with fail
                go_roundw
                case rel =>
                  first
                    | exact ⟨m - 1, .mk 6 [] [kk], 6, _, _, _, by omega, by go_num, by show wKd _ + _ ≤ 6; have := HW.out; simp only [wKd, wS, wKs]; omega, (unhide HNX).1.1, (unhide HNX).1.2⟩
                    | exact ⟨m - 1, .mk 6 [] [kk], 6, _, _, _, by omega, by go_num, by show wKd _ + _ ≤ 6; have := HW.out; simp only [wKd, wS, wKs]; omega, (unhide HNX).2.1, (unhide HNX).2.2⟩
                case measure => simp [intOf]; omega
theorem l5Spoil_all : ∀ n, SpSaid n
  | 0 => fun k h => by omega
  | n + 1 => l5Spoil_step n (l5Spoil_all n)
end Go.Proofs.YtenpghndgdemnaaGreatDoor
