/- For the walk of the specification's l5Spoil: what stands while a tree is spoilt; what it comes to; an append of a whole slice onto an empty one. No conditions. -/
import Derived.Test.YtbkagahmiibclaaGreatDoorPart09
namespace Go.Proofs.YtbkagahmiibclaaGreatDoor
open Go Go.RowKit

/-- What spoiling a tree comes to: what there was, and new blocks. -/
def RtEnd (P : Nat → Prop) (N R : Nat) (w w' : World) (v : Value) (b : List UInt8) (p : Nat) (e : Ending) : Prop :=
  ∃ (t : Tr) (c : C5) (p' : Nat), e = .returned (.agg #[c.c0, c.c1, c.c2, c.c3, c.c4]) ∧ Rep (fun x => P x ∨ (w.heap.size ≤ x ∧ x < w'.heap.size)) w' t c ∧ DR R w' v b p' ∧ p' ≤ p + N ∧ But R w w'

/-- What stands while a tree is spoilt: its box, the answer's. -/
structure ST (R : Nat) (w : World) (c : C5) (v : Value) (b : List UInt8) (p : Nat) (W : World) : Prop where
  dr : DR R W v b p
  but : But R w W
  bT : W.rowIs w.heap.size 26 5 (row5 c.c0 c.c1 c.c2 c.c3 c.c4)
  bX : W.rowIs (w.heap.size + 1) 26 5 (row5 (.int .i64 0) (.int .i64 0) (.string ⟨#[]⟩) (.slice none 0 0) (.slice none 0 0))
  hR : R < w.heap.size
section
variable {R : Nat} {w W W' : World} {c : C5} {c0 c1 c2 c3 c4 : Value} {v : Value} {b : List UInt8} {p p' : Nat}
theorem ST.size (h : ST R w c v b p W) : w.heap.size + 2 ≤ W.heap.size := h.bX.lt
theorem ST.next (h : ST R w c v b p W) (hd : DR R W' v b p') (hb : But R W W') : ST R w c v b p' W' := by
  have hR := h.hR
  exact ⟨hd, h.but.trans hb, h.bT.of_block (hb.at h.bT.lt (by omega)), h.bX.of_block (hb.at h.bX.lt (by omega)), hR⟩
theorem ST.touch {row : Option Nat} (h : ST R w c v b p W) (hg : W.grownBy W' row) (hr : ∀ x, row = some x → w.heap.size + 2 ≤ x) : ST R w c v b p W' := by
  have hR := h.hR
  refine ⟨h.dr.grown hg (fun x e => by have := hr x e; omega), ?_, h.bT.of_block (hg.block _ h.bT.lt (fun e => by have := hr _ e.symm; omega)), h.bX.of_block (hg.block _ h.bX.lt (fun e => by have := hr _ e.symm; omega)), hR⟩
  exact ⟨hg.os.trans h.but.os, hg.tape.trans h.but.tape, hg.output.trans h.but.output, Nat.le_trans h.but.size hg.size, fun i hi hne => (hg.block i (Nat.lt_of_lt_of_le hi h.but.size) (fun e => by have := hr i e.symm; omega)).trans (h.but.block i hi hne)⟩
theorem ST.on (h : ST R w c v b p W) (hb : Below W.heap.size W W') : ST R w c v b p W' := h.next (h.dr.on hb) (But.of_below hb)
theorem ST.set0 (h : ST R w ⟨c0, c1, c2, c3, c4⟩ v b p W) (u : Value) : ST R w ⟨u, c1, c2, c3, c4⟩ v b p (W.setCell ⟨w.heap.size, 0, none⟩ u) := by
  have hR := h.hR
  exact ⟨h.dr.set (by omega) _ _, but_setx h.but (Nat.le_refl _) _ _, (h.bT.set 0 u).congr (fun i hi => by rcases (show i = 0 ∨ i = 1 ∨ i = 2 ∨ i = 3 ∨ i = 4 by omega) with rfl | rfl | rfl | rfl | rfl <;> rfl), h.bX.setOther (by simp) _, hR⟩
theorem ST.set1 (h : ST R w ⟨c0, c1, c2, c3, c4⟩ v b p W) (u : Value) : ST R w ⟨c0, u, c2, c3, c4⟩ v b p (W.setCell ⟨w.heap.size, 1, none⟩ u) := by
  have hR := h.hR
  exact ⟨h.dr.set (by omega) _ _, but_setx h.but (Nat.le_refl _) _ _, (h.bT.set 1 u).congr (fun i hi => by rcases (show i = 0 ∨ i = 1 ∨ i = 2 ∨ i = 3 ∨ i = 4 by omega) with rfl | rfl | rfl | rfl | rfl <;> rfl), h.bX.setOther (by simp) _, hR⟩
theorem ST.set2 (h : ST R w ⟨c0, c1, c2, c3, c4⟩ v b p W) (u : Value) : ST R w ⟨c0, c1, u, c3, c4⟩ v b p (W.setCell ⟨w.heap.size, 2, none⟩ u) := by
  have hR := h.hR
  exact ⟨h.dr.set (by omega) _ _, but_setx h.but (Nat.le_refl _) _ _, (h.bT.set 2 u).congr (fun i hi => by rcases (show i = 0 ∨ i = 1 ∨ i = 2 ∨ i = 3 ∨ i = 4 by omega) with rfl | rfl | rfl | rfl | rfl <;> rfl), h.bX.setOther (by simp) _, hR⟩
theorem ST.set3 (h : ST R w ⟨c0, c1, c2, c3, c4⟩ v b p W) (u : Value) : ST R w ⟨c0, c1, c2, u, c4⟩ v b p (W.setCell ⟨w.heap.size, 3, none⟩ u) := by
  have hR := h.hR
  exact ⟨h.dr.set (by omega) _ _, but_setx h.but (Nat.le_refl _) _ _, (h.bT.set 3 u).congr (fun i hi => by rcases (show i = 0 ∨ i = 1 ∨ i = 2 ∨ i = 3 ∨ i = 4 by omega) with rfl | rfl | rfl | rfl | rfl <;> rfl), h.bX.setOther (by simp) _, hR⟩
theorem ST.set4 (h : ST R w ⟨c0, c1, c2, c3, c4⟩ v b p W) (u : Value) : ST R w ⟨c0, c1, c2, c3, u⟩ v b p (W.setCell ⟨w.heap.size, 4, none⟩ u) := by
  have hR := h.hR
  exact ⟨h.dr.set (by omega) _ _, but_setx h.but (Nat.le_refl _) _ _, (h.bT.set 4 u).congr (fun i hi => by rcases (show i = 0 ∨ i = 1 ∨ i = 2 ∨ i = 3 ∨ i = 4 by omega) with rfl | rfl | rfl | rfl | rfl <;> rfl), h.bX.setOther (by simp) _, hR⟩
theorem ST.start (h : DR R w v b p) : ST R w ⟨c0, c1, c2, c3, c4⟩ v b p ((w.alloc (.cells #[c0, c1, c2, c3, c4] 26)).alloc (.cells #[.int .i64 0, .int .i64 0, .string ⟨#[]⟩, .slice none 0 0, .slice none 0 0] 26)) := by
  have hb : Below w.heap.size w ((w.alloc (.cells #[c0, c1, c2, c3, c4] 26)).alloc (.cells #[.int .i64 0, .int .i64 0, .string ⟨#[]⟩, .slice none 0 0, .slice none 0 0] 26)) := ((Below.refl _ _).alloc (Nat.le_refl _) _).alloc (by simp) _
  have hx := row5_alloc (w.alloc (.cells #[c0, c1, c2, c3, c4] 26)) (.int .i64 0) (.int .i64 0) (.string ⟨#[]⟩) (.slice none 0 0) (.slice none 0 0) 26
  rw [World.size_alloc] at hx
  exact ⟨h.on hb, But.of_below hb, (row5_alloc w c0 c1 c2 c3 c4 26).alloc _, hx, h.cells.lt⟩
end

/-- A slice of trees lies in memory. -/
def KA (Q : Nat → Prop) (w : World) (v : Value) (ks : List Tr) : Prop := ∃ a cap, v = .slice a ks.length cap ∧ ks.length ≤ 9223372036854775807 ∧ (ks ≠ [] → ∃ b o, a = some ⟨b, o, none⟩ ∧ Q b ∧ RepK Q w b o ks)
theorem KA.carry {P Q : Nat → Prop} {w w' : World} {v : Value} {ks : List Tr} (h : KA P w v ks) (hP : ∀ b, P b → w'.heap[b]? = w.heap[b]?) (hQ : ∀ b, P b → Q b) : KA Q w' v ks := by
  obtain ⟨a, cap, h1, h2, h3⟩ := h
  refine ⟨a, cap, h1, h2, fun hk => ?_⟩
  obtain ⟨b, o, e, hb, hr⟩ := h3 hk
  exact ⟨b, o, e, hQ b hb, RepK.carry hP hQ b o (hP b hb) ks hr⟩
theorem rep_of {Q : Nat → Prop} {w : World} {s n : Int} {x : ByteArray} {ns : List ByteArray} {ks : List Tr} {vN vK : Value} (hs : I64 s) (hn : I64 n) (hx : x.size ≤ 9223372036854775807) (hN : StrsAt Q w vN ns) (hK : KA Q w vK ks) : Rep Q w (.mk s n x ns ks) ⟨.int .i64 s, .int .i64 n, .string x, vN, vK⟩ := by
  obtain ⟨a, cap, h1, h2, h3⟩ := hK
  rw [Rep]
  exact ⟨rfl, rfl, rfl, hs, hn, hx, hN, a, cap, h1, h2, h3⟩
theorem rep_un {Q : Nat → Prop} {w : World} {t : Tr} {c : C5} (h : Rep Q w t c) : StrsAt Q w c.c3 t.names ∧ KA Q w c.c4 t.kids := by
  obtain ⟨s, n, x, ns, ks⟩ := t
  rw [Rep] at h
  obtain ⟨-, -, -, -, -, -, h6, a, cap, h7, h8, h9⟩ := h
  exact ⟨h6, a, cap, h7, h8, h9⟩
theorem KA.of_row {P : Nat → Prop} {W : World} {base g n cap : Nat} {ks : List Tr} {xs : List Value} (hO : W.ownsRow base 26 5 (.slice (some ⟨g, 0, none⟩) n cap) n xs) (hL : TL5 P W ks xs) (hn : n = ks.length) (hnb : n ≤ 2000000) : KA (fun x => P x ∨ (base ≤ x ∧ x < W.heap.size)) W (.slice (some ⟨g, 0, none⟩) n cap) ks := by
  have hg := hO.lt g rfl
  refine ⟨some ⟨g, 0, none⟩, cap, by rw [hn], by omega, fun _ => ⟨g, 0, rfl, Or.inr hg, TL5.back (hL.carry (fun _ _ => rfl) (fun _ h => Or.inl h)) (fun j u hj => ?_)⟩⟩
  have hc := hO.cells (g := g) rfl j u hj
  rw [Addr.add_lit, Nat.zero_add] at hc
  exact hc

/-- The answer is put into its box. -/
theorem rt_end {P : Nat → Prop} {N R : Nat} {w W : World} {v : Value} {b : List UInt8} {p p' : Nat} {t : Tr} {c : C5} (hP : ∀ x, P x → R < x ∧ x < w.heap.size) (hS : ST R w c v b p' W) (h1 : p' ≤ p + N) (hr : Rep (fun x => P x ∨ (w.heap.size + 2 ≤ x ∧ x < W.heap.size)) W t c) (d0 d1 d2 d3 d4 : Value) :
    RtEnd P N R w (((((W.setCell ⟨w.heap.size + 1, 0, none⟩ d0).setCell ⟨w.heap.size + 1, 1, none⟩ d1).setCell ⟨w.heap.size + 1, 2, none⟩ d2).setCell ⟨w.heap.size + 1, 3, none⟩ d3).setCell ⟨w.heap.size + 1, 4, none⟩ d4) v b p (.returned (.agg #[c.c0, c.c1, c.c2, c.c3, c.c4])) := by
  have hR := hS.hR
  refine ⟨t, c, p', rfl, Rep.carry (fun x hx => ?_) (fun x hx => ?_) _ _ hr, ?_, h1, ?_⟩
  · have hne : x ≠ w.heap.size + 1 := by
      rcases hx with h | h
      · have := hP x h; omega
      · omega
    repeat rw [Below.heap_setCell _ _ _ _ (by simpa using hne)]
  · simp only [size_setCell]
    rcases hx with h | h
    · exact Or.inl h
    · exact Or.inr ⟨by omega, h.2⟩
  · repeat refine DR.set ?_ (by omega) _ _
    exact hS.dr
  · repeat refine but_setx ?_ (by omega) _ _
    exact hS.but

/-- append of a whole slice onto an empty one. -/
theorem append_copy {P : Program} (w : World) {ops : Array Oper} {rest : List Oper} {o : Oper} {a : Act} {Q : Exit → Act → World → Prop}
    (hg : o.guard = none) (s x : Operand) (t : TypeId) (hop : o.op = Op.call { callee := Callee.builtin Builtin.append, args := #[s, x], argTypes := #[t, t] })
    (base : Nat) (e : TypeId) (i : TypeInfo) (z : Value) (size bytes : Nat) (h1 : P.underlying t = some (.slice e)) (h2 : P.info? e = some i) (h3 : i.zero = some z) (h4 : i.size = size) (h5 : i.bytes = bytes) (h6 : z.cells.size = size) (h7 : 0 < size)
    (g0 : Nat) (hs : a.eval s = .slice (some ⟨g0, 0, none⟩) 0 0) (hown : w.ownsRow base e size (.slice (some ⟨g0, 0, none⟩) 0 0) 0 [])
    (ax : Option Addr) (m c : Nat) (xs : List Value) (hx : a.eval x = .slice ax m c) (hn : xs.length = m * size) (hc : 0 < m → ∃ ad, ax = some ad ∧ ∀ j u, xs[j]? = some u → w.cell? (ad.add j) = some u) (h1c : ∀ u ∈ xs, u.oneCell' = true)
    (b1 : m ≤ maxLen) (b2 : m * bytes ≤ 140737488355328) (hbase : base ≤ w.heap.size)
    (hK : ∀ g cap w', Hid (w'.ownsRow base e size (.slice (some ⟨g, 0, none⟩) m cap) m xs) → Hid (w.grownBy w' (some g0)) → wpList P ops Q rest (a.put o.dst (.slice (some ⟨g, 0, none⟩) m cap)) w') :
    wpList P ops Q (o :: rest) a w := by
  rcases Nat.eq_zero_or_pos m with h0 | h0
  · subst h0
    have hxs : xs = [] := List.eq_nil_of_length_eq_zero (by rw [hn]; omega)
    subst hxs
    have hrun : ∀ ty, (Builtin.append_ #[t, t] ty #[.slice (some ⟨g0, 0, none⟩) 0 0, .slice ax 0 c]).run P w = .ok (.slice (some ⟨g0, 0, none⟩) 0 0) w := fun ty => by
      cases ax with
      | none => simp [Builtin.append_, run_underlying h1, sizeOf, typeInfo, h2, Builtin.lenOf, Builtin.firstCells, go_sem]
      | some ad => simp [Builtin.append_, run_underlying h1, sizeOf, typeInfo, h2, Builtin.lenOf, Builtin.firstCells, go_sem]
    refine wpList_plain hg fun K hKK => ?_
    unfold Oper.wp execOp
    simp only [hop, resolve, invoke, builtin, Sem.run_bind, Sem.run_pure, Result.andThen_ok, List.map_toArray, List.map_cons, List.map_nil, hs, hx, hrun]
    exact hKK _ _ (hK g0 0 w hown (World.grownBy.refl w _))
  · obtain ⟨ad, rfl, hcc⟩ := hc h0
    refine append_row w hg s x t hop base e i z size bytes h1 h2 h3 h4 h5 h6 h7 (.slice (some ⟨g0, 0, none⟩) 0 0) 0 [] hs hown ad m c xs hx hn hcc h1c h0 (by omega) (by rw [Nat.zero_add]; exact b2) hbase (fun v' w' r1 r2 _ => ?_)
    rw [Nat.zero_add, List.nil_append] at r1
    obtain ⟨g, cap, rfl, -, -⟩ := r1.form h0
    exact hK g cap w' r1 r2
end Go.Proofs.YtbkagahmiibclaaGreatDoor
