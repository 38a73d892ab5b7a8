/- What the law of promise 8 keeps: schemas in their boxes; its cases. No program is walked; no conditions. -/
import Derived.Test.YtenpghndgdemnaaGreatDoorPart34
import Derived.Test.YtenpghndgdemnaaGreatDoorPart24
import Derived.Test.YtenpghndgdemnaaGreatDoorPart04
import Derived.Test.YtenpghndgdemnaaGreatDoorPart00
import Derived.Test.YtenpghndgdemnaaGreatDoorPart01
import Derived.Test.YtenpghndgdemnaaGreatDoorPart21
import Derived.Test.YtenpghndgdemnaaGreatDoorPart02
import Derived.Deep.AppendLies
namespace Go.Proofs.YtenpghndgdemnaaGreatDoor
open Go Go.RowKit

/-- A schema in its box. -/
structure KT8 (w wr : World) (k : Kd) (c : C3) (B : Nat) : Prop where
  below : Below w.heap.size w wr
  box : wr.rowIs B 26 3 (row3 c.c0 c.c1 c.c2)
  rep : KRep (fun x => x < B) wr k c
theorem KT8.on {w wr w' : World} {k : Kd} {c : C3} {B : Nat} (h : KT8 w wr k c B) (hb : Below wr.heap.size wr w') : KT8 w w' k c B :=
  ⟨h.below.trans (hb.mono h.below.size), h.box.of_block (hb.block _ h.box.lt), KRep.carry (fun x hx => hb.block x (Nat.lt_trans hx h.box.lt)) (fun _ h => h) _ _ h.rep⟩
theorem KT8.start {w wr : World} {k : Kd} {c0 c1 c2 : Value} (hb : Below w.heap.size w wr) (h : KRep (fun x => x < wr.heap.size) wr k ⟨c0, c1, c2⟩) : KT8 w (wr.alloc (.cells #[c0, c1, c2] 26)) k ⟨c0, c1, c2⟩ wr.heap.size :=
  ⟨hb.alloc hb.size _, row3_alloc wr c0 c1 c2 _, KRep.carry (fun _ hx => Below.heap_alloc _ _ _ hx) (fun _ h => h) _ _ h⟩
theorem KT8.cells {w wr : World} {k : Kd} {c : C3} {B : Nat} (h : KT8 w wr k c B) : wr.cell? ⟨B, 0, none⟩ = some c.c0 ∧ wr.cell? ⟨B, 1, none⟩ = some c.c1 ∧ wr.cell? ⟨B, 2, none⟩ = some c.c2 :=
  ⟨h.box.cell (i := 0) (by omega), h.box.cell (i := 1) (by omega), h.box.cell (i := 2) (by omega)⟩
theorem KT8.in {w wr : World} {k : Kd} {c : C3} {B : Nat} (h : KT8 w wr k c B) : ∀ x, x < B → x < wr.heap.size := fun _ hx => Nat.lt_trans hx h.box.lt
theorem kform8 {P : Nat → Prop} {w : World} {k : Kd} {c : C3} (h : KRep P w k c) : ∃ (a1 : Option Addr) (p1 : Nat) (a2 : Option Addr) (p2 : Nat), c = ⟨.int .i64 k.sort, .slice a1 k.names.length p1, .slice a2 k.kids.length p2⟩ := by
  obtain ⟨c0, c1, c2⟩ := c
  obtain ⟨g0, -, ⟨a1, cap1, g1, -⟩, a2, cap2, g2, -⟩ := h.open
  simp only at g0 g1 g2
  exact ⟨a1, cap1, a2, cap2, by rw [g0, g1, g2]⟩
theorem p8_none {k m n : Kd} (h : joinD k m = none) (h1 : fitsD k n = true) : fitsD m n = false := by
  cases h2 : fitsD m n
  · rfl
  · obtain ⟨x, hx, -⟩ := join_least h1 h2
    rw [h] at hx; cases hx
theorem p8_some {k m n c : Kd} (h : joinD k m = some n) (h1 : fitsD k c = true) (h2 : fitsD m c = true) : fitsD n c = true := by
  obtain ⟨x, hx, hf⟩ := join_least h1 h2
  rw [h] at hx
  injection hx with hx
  rw [hx]; exact hf
theorem p8_light {k m n : Kd} (h : joinD k m = some n) : wKd n ≤ 1048576 := by
  have := jAn_light k m
  rw [h] at this
  exact this
end Go.Proofs.YtenpghndgdemnaaGreatDoor

/- A schema while the specification makes it: its box, its names, its kids, which may share memory. No program walked, no conditions. -/

namespace Go.Proofs.YtenpghndgdemnaaGreatDoor
open Go Go.RowKit

structure SK (lo g : Nat) (W : World) (s : Int) (vN vK : Value) (ns : List ByteArray) (ks : List Kd) (xs : List Value) (P : Nat → Prop) : Prop where
  glo : lo ≤ g
  box : W.rowIs g 26 3 (row3 (.int .i64 s) vN vK)
  names : W.ownsRow lo 9 1 vN ns.length (ns.map Value.string)
  kids : W.ownsRow lo 26 3 vK ks.length xs
  nk : ∀ b, vN.ownBlock = some b → b ≠ g ∧ vK.ownBlock ≠ some b
  gk : vK.ownBlock ≠ some g
  kl : KL3 P W ks xs
  pP : ∀ b, P b → lo ≤ b ∧ b < W.heap.size ∧ b ≠ g ∧ vN.ownBlock ≠ some b ∧ vK.ownBlock ≠ some b
section
variable {lo g : Nat} {W : World} {s : Int} {vN vK : Value} {ns : List ByteArray} {ks : List Kd} {xs : List Value} {P : Nat → Prop}
theorem SK.lt (h : SK lo g W s vN vK ns ks xs P) : g < W.heap.size := h.box.lt
theorem own_below {base : Nat} {e : TypeId} {size n : Nat} {v : Value} {us : List Value} {W W' : World} (h : W.ownsRow base e size v n us) (hb : Below W.heap.size W W') : W'.ownsRow base e size v n us :=
  h.kept (row := none) ⟨hb.os, hb.tape, hb.output, hb.size, fun i hi _ => hb.block i hi⟩ (by
    cases hv : v.ownBlock with
    | none => exact Or.inl rfl
    | some g => exact Or.inr (by simp))
theorem SK.on (h : SK lo g W s vN vK ns ks xs P) {W' : World} (hb : Below W.heap.size W W') : SK lo g W' s vN vK ns ks xs P :=
  ⟨h.glo, h.box.of_block (hb.block _ h.lt), own_below h.names hb, own_below h.kids hb, h.nk, h.gk, h.kl.carry (fun b hb' => hb.block b (h.pP b hb').2.1) (fun _ h => h), fun b hb' => by
    obtain ⟨h1, h2, h3⟩ := h.pP b hb'
    exact ⟨h1, Nat.lt_of_lt_of_le h2 hb.size, h3⟩⟩
theorem own_kept {base : Nat} {e : TypeId} {size n : Nat} {v : Value} {us : List Value} {W W' : World} {row : Option Nat} (h : W.ownsRow base e size v n us) (hg : W.grownBy W' row) (hne : ∀ b, v.ownBlock = some b → row ≠ some b) : W'.ownsRow base e size v n us :=
  h.kept hg (by
    cases hv : v.ownBlock with
    | none => exact Or.inl rfl
    | some g => exact Or.inr (fun e => hne g hv e.symm))
theorem own_set {base : Nat} {e : TypeId} {size n : Nat} {v : Value} {us : List Value} {W : World} {g o : Nat} (h : W.ownsRow base e size v n us) (hne : v.ownBlock ≠ some g) (u : Value) : (W.setCell ⟨g, o, none⟩ u).ownsRow base e size v n us :=
  own_kept h (But.set W o u) (fun b hb e => hne (by rw [hb, ← e]))
/-- A kid more, put into the schema's cell. -/
theorem SK.kid (h : SK lo g W s vN vK ns ks xs P) {Q : Nat → Prop} {t : Kd} {c : C3} (ht : KRep Q W t c) (hQ : ∀ b, Q b → lo ≤ b ∧ b < W.heap.size ∧ b ≠ g ∧ vN.ownBlock ≠ some b ∧ vK.ownBlock ≠ some b)
    {W' : World} {v' : Value} (hown : W'.ownsRow lo 26 3 v' (ks.length + 1) (xs ++ c3l c)) (hg : W.grownBy W' vK.ownBlock) (hv : v'.ownBlock = vK.ownBlock ∨ ∃ q, v'.ownBlock = some q ∧ W.heap.size ≤ q) :
    SK lo g (W'.setCell ⟨g, 2, none⟩ v') s vN v' ns (ks ++ [t]) (xs ++ c3l c) (fun b => P b ∨ Q b) := by
  have hlt := h.lt
  have hgv : v'.ownBlock ≠ some g := fun e => by
    rcases hv with hv | ⟨q, hv, hq⟩
    · exact h.gk (by rw [← hv]; exact e)
    · rw [hv] at e
      have : q = g := by simpa using e
      omega
  have hgb : W'.heap[g]? = W.heap[g]? := hg.block g hlt (fun e => h.gk e.symm)
  have hnv : ∀ b, vN.ownBlock = some b → v'.ownBlock ≠ some b := fun b hb e => by
    rcases hv with hv | ⟨q, hv, hq⟩
    · exact (h.nk b hb).2 (by rw [← hv]; exact e)
    · rw [hv] at e
      have h1 : q = b := by simpa using e
      have h2 := (h.names.lt b hb).2
      omega
  have hk : ∀ b, (lo ≤ b ∧ b < W.heap.size ∧ b ≠ g ∧ vN.ownBlock ≠ some b ∧ vK.ownBlock ≠ some b) → (W'.setCell ⟨g, 2, none⟩ v').heap[b]? = W.heap[b]? := fun b hb =>
    (Below.heap_setCell _ _ _ _ (fun e => hb.2.2.1 (by simpa using e))).trans (hg.block b hb.2.1 (fun e => hb.2.2.2.2 e.symm))
  refine ⟨h.glo, row3_set2 (h.box.of_block hgb) v', own_set (own_kept h.names hg (fun b hb e => (h.nk b hb).2 e)) (fun e => (h.nk g e).1 rfl) _, ?_, fun b hb => ⟨(h.nk b hb).1, hnv b hb⟩, hgv, ?_, fun b hb => ?_⟩
  · rw [List.length_append, List.length_singleton]
    exact own_set hown hgv _
  · exact (h.kl.carry (fun b hb => hk b (h.pP b hb)) (fun _ h => Or.inl h)).snoc (KRep.carry (fun b hb => hk b (hQ b hb)) (fun _ h => Or.inr h) _ _ ht)
  · have hq : lo ≤ b ∧ b < W.heap.size ∧ b ≠ g ∧ vN.ownBlock ≠ some b ∧ vK.ownBlock ≠ some b := by
      rcases hb with hb | hb
      · exact h.pP b hb
      · exact hQ b hb
    refine ⟨hq.1, by rw [size_setCell]; exact Nat.lt_of_lt_of_le hq.2.1 hg.size, hq.2.2.1, hq.2.2.2.1, fun e => ?_⟩
    rcases hv with hv | ⟨q, hv, hl⟩
    · exact hq.2.2.2.2 (by rw [← hv]; exact e)
    · rw [hv] at e
      have h1 : q = b := by simpa using e
      have := hq.2.1
      omega
/-- A name more. -/
theorem SK.name (h : SK lo g W s vN vK ns ks xs P) {nm : ByteArray} {W' : World} {v' : Value} (hown : W'.ownsRow lo 9 1 v' (ns.length + 1) (ns.map Value.string ++ [.string nm])) (hg : W.grownBy W' vN.ownBlock) (hv : v'.ownBlock = vN.ownBlock ∨ ∃ q, v'.ownBlock = some q ∧ W.heap.size ≤ q) :
    SK lo g (W'.setCell ⟨g, 1, none⟩ v') s v' vK (ns ++ [nm]) ks xs P := by
  have hlt := h.lt
  have hgN : vN.ownBlock ≠ some g := fun e => (h.nk g e).1 rfl
  have hgv : v'.ownBlock ≠ some g := fun e => by
    rcases hv with hv | ⟨q, hv, hq⟩
    · exact hgN (by rw [← hv]; exact e)
    · rw [hv] at e
      have : q = g := by simpa using e
      omega
  have hgb : W'.heap[g]? = W.heap[g]? := hg.block g hlt (fun e => hgN e.symm)
  have hnv : ∀ b, v'.ownBlock = some b → b ≠ g ∧ vK.ownBlock ≠ some b := fun b hb => ⟨fun e => hgv (by rw [hb, e]), fun e => by
    rcases hv with hv | ⟨q, hv, hq⟩
    · exact (h.nk b (by rw [← hv]; exact hb)).2 e
    · rw [hv] at hb
      have h1 : q = b := by simpa using hb
      have h2 := (h.kids.lt b e).2
      omega⟩
  have hk : ∀ b, P b → (W'.setCell ⟨g, 1, none⟩ v').heap[b]? = W.heap[b]? := fun b hb => by
    obtain ⟨p1, p2, p3, p4, p5⟩ := h.pP b hb
    exact (Below.heap_setCell _ _ _ _ (fun e => p3 (by simpa using e))).trans (hg.block b p2 (fun e => p4 e.symm))
  refine ⟨h.glo, row3_set1 (h.box.of_block hgb) v', ?_, own_set (own_kept h.kids hg (fun b hb e => (h.nk b e).2 hb)) h.gk _, hnv, h.gk, h.kl.carry hk (fun _ h => h), fun b hb => ?_⟩
  · rw [List.length_append, List.length_singleton, List.map_append, List.map_singleton]
    exact own_set hown hgv _
  · obtain ⟨p1, p2, p3, p4, p5⟩ := h.pP b hb
    refine ⟨p1, by rw [size_setCell]; exact Nat.lt_of_lt_of_le p2 hg.size, p3, fun e => ?_, p5⟩
    rcases hv with hv | ⟨q, hv, hl⟩
    · exact p4 (by rw [← hv]; exact e)
    · rw [hv] at e
      have h1 : q = b := by simpa using e
      omega
/-- What was made, as a schema in memory from lo on. -/
theorem SK.rep (h : SK lo g W s vN vK ns ks xs P) (hs : I64 s) (hns : ∀ x, x ∈ ns → x.size ≤ 9223372036854775807) (hk : ks.length ≤ 1000000) : ∃ (a1 : Option Addr) (p1 : Nat) (a2 : Option Addr) (p2 : Nat), vN = .slice a1 ns.length p1 ∧ vK = .slice a2 ks.length p2 ∧ KRep (fun b => lo ≤ b ∧ b < W.heap.size ∧ b ≠ g) W (.mk s ns ks) ⟨.int .i64 s, vN, vK⟩ := by
  have hst : StrsAt (fun b => lo ≤ b ∧ b < W.heap.size ∧ b ≠ g) W vN ns := by
    obtain ⟨F, ho, -, hF, hm⟩ := strsOwn_of_row h.names hns
    exact ho.at.carry (fun _ _ => rfl) (fun b hb => ⟨(hF b hb).1, (hF b hb).2, fun e => by
      subst e
      exact (h.nk b (hm b hb)).1 rfl⟩)
  obtain ⟨a1, p1, e1, hl1, hc1⟩ := id hst
  have hkd : ∃ (a2 : Option Addr) (p2 : Nat), vK = .slice a2 ks.length p2 ∧ (ks ≠ [] → ∃ b, a2 = some ⟨b, 0, none⟩ ∧ lo ≤ b ∧ b < W.heap.size ∧ b ≠ g ∧ KRepK (fun b => lo ≤ b ∧ b < W.heap.size ∧ b ≠ g) W b 0 ks) := by
    rcases h.kids.2 with ⟨hv, h0⟩ | ⟨q, cap, cur, hv, -⟩
    · refine ⟨none, 0, by rw [hv, h0], fun hne => absurd (List.eq_nil_of_length_eq_zero h0) hne⟩
    · refine ⟨some ⟨q, 0, none⟩, cap, hv, fun _ => ?_⟩
      have hob : vK.ownBlock = some q := by rw [hv]; rfl
      have hq := h.kids.lt q hob
      refine ⟨q, rfl, hq.1, hq.2, fun e => h.gk (by rw [hob, e]), (h.kl.carry (fun _ _ => rfl) (fun b hb => by
        obtain ⟨p1, p2, p3, -⟩ := h.pP b hb
        exact ⟨p1, p2, p3⟩)).back fun j u hj => ?_⟩
      have := h.kids.cells hob j u hj
      rwa [Addr.add_lit, Nat.zero_add] at this
  obtain ⟨a2, p2, e2, hk2⟩ := hkd
  refine ⟨a1, p1, a2, p2, e1, e2, ?_⟩
  rw [KRep]
  refine ⟨rfl, hs, hst, a2, p2, e2, by omega, fun hne => ?_⟩
  obtain ⟨b, rfl, q1, q2, q3, hr⟩ := hk2 hne
  exact ⟨b, 0, rfl, ⟨q1, q2, q3⟩, hr⟩
end
end Go.Proofs.YtenpghndgdemnaaGreatDoor

/- The walks of the program's treeWant: what it answers, and that it raises a fault. No conditions. -/

namespace Go.Proofs.YtenpghndgdemnaaGreatDoor
open Go Go.RowKit

end Go.Proofs.YtenpghndgdemnaaGreatDoor

/- The walks of the program's newNumTree, newTextTree, newListTree, newMaybeTree, newFormTree, enter and leave: what they answer, or that they raise a fault. No conditions. -/

namespace Go.Proofs.YtenpghndgdemnaaGreatDoor
open Go Go.RowKit

end Go.Proofs.YtenpghndgdemnaaGreatDoor

/- What the program's sorter does, as a plain function on data, and that it counts as the specification counts. No program, no conditions. -/

namespace Go.Proofs.YtenpghndgdemnaaGreatDoor
open Go Go.RowKit


/-- What a count comes to, so much being ahead of it. -/
def onto (p k : Int) : Option Int := if k < 0 ∨ 120 < p + k then none else some (p + k)


end Go.Proofs.YtenpghndgdemnaaGreatDoor

/- How a sorted tree lies in memory, and small laws on that; worlds of which but one block is as it was. No program walked, no conditions. -/

namespace Go.Proofs.YtenpghndgdemnaaGreatDoor
open Go Go.RowKit

end Go.Proofs.YtenpghndgdemnaaGreatDoor

/- The walk of the program's hasJustItsOwn: whether a tree has just what its sort has. The table treeFields is as the program lays it. -/

namespace Go.Proofs.YtenpghndgdemnaaGreatDoor
open Go Go.RowKit

end Go.Proofs.YtenpghndgdemnaaGreatDoor

/- How a sorted tree lies in memory, and the table of what trees have. No program walked, no conditions. -/

namespace Go.Proofs.YtenpghndgdemnaaGreatDoor
open Go Go.RowKit

end Go.Proofs.YtenpghndgdemnaaGreatDoor

/- append of a whole slice onto an empty one: no program. No conditions. -/

namespace Go.Proofs.YtenpghndgdemnaaGreatDoor
open Go Go.RowKit

/-- append of a whole slice onto an empty one. -/
theorem append_copy {P : Program} (w : World) {ops : Array Oper} {rest : List Oper} {o : Oper} {a : Act} {Q : Exit → Act → World → Prop}
    (hg : o.guard = none) (s x : Operand) (t : TypeId) (hop : o.op = Op.call { callee := Callee.builtin Builtin.append, args := #[s, x], argTypes := #[t, t] })
    (base : Nat) (e : TypeId) (i : TypeInfo) (z : Value) (size bytes : Nat) (h1 : P.underlying t = some (.slice e)) (h2 : P.info? e = some i) (h3 : i.zero = some z) (h4 : i.size = size) (h5 : i.bytes = bytes) (h6 : z.cells.size = size) (h7 : 0 < size)
    (g0 : Nat) (hs : a.eval s = .slice (some ⟨g0, 0, none⟩) 0 0) (hown : w.ownsRow base e size (.slice (some ⟨g0, 0, none⟩) 0 0) 0 [])
    (ax : Option Addr) (m c : Nat) (xs : List Value) (hx : a.eval x = .slice ax m c) (hn : xs.length = m * size) (hc : 0 < m → ∃ ad, ax = some ad ∧ ∀ j u, xs[j]? = some u → w.cell? (ad.add j) = some u) (h1c : ∀ u ∈ xs, u.oneCell' = true)
    (b1 : m ≤ maxLen) (b2 : m * bytes ≤ 140737488355328) (hbase : base ≤ w.heap.size)
    (hK : ∀ g cap w', Hid (w'.ownsRow base e size (.slice (some ⟨g, 0, none⟩) m cap) m xs) → Hid (w.grownBy w' (some g0)) → wpList P ops Q rest (a.put o.dst (.slice (some ⟨g, 0, none⟩) m cap)) w') :
    wpList P ops Q (o :: rest) a w := by
  rcases Nat.eq_zero_or_pos m with h0 | h0
  · subst h0
    have hxs : xs = [] := List.eq_nil_of_length_eq_zero (by rw [hn]; omega)
    subst hxs
    have hrun : ∀ ty, (Builtin.append_ #[t, t] ty #[.slice (some ⟨g0, 0, none⟩) 0 0, .slice ax 0 c]).run P w = .ok (.slice (some ⟨g0, 0, none⟩) 0 0) w := fun ty => by
      cases ax with
      | none => simp [Builtin.append_, run_underlying h1, sizeOf, typeInfo, h2, Builtin.lenOf, Builtin.firstCells, go_sem]
      | some ad => simp [Builtin.append_, run_underlying h1, sizeOf, typeInfo, h2, Builtin.lenOf, Builtin.firstCells, go_sem]
    refine wpList_plain hg fun K hKK => ?_
    unfold Oper.wp execOp
    simp only [hop, resolve, invoke, builtin, Sem.run_bind, Sem.run_pure, Result.andThen_ok, List.map_toArray, List.map_cons, List.map_nil, hs, hx, hrun]
    exact hKK _ _ (hK g0 0 w hown (World.grownBy.refl w _))
  · obtain ⟨ad, rfl, hcc⟩ := hc h0
    refine append_row w hg s x t hop base e i z size bytes h1 h2 h3 h4 h5 h6 h7 (.slice (some ⟨g0, 0, none⟩) 0 0) 0 [] hs hown ad m c xs hx hn hcc h1c h0 (by omega) (by rw [Nat.zero_add]; exact b2) hbase (fun v' w' r1 r2 _ => ?_)
    rw [Nat.zero_add, List.nil_append] at r1
    obtain ⟨g, cap, rfl, -, -⟩ := r1.form h0
    exact hK g cap w' r1 r2
end Go.Proofs.YtenpghndgdemnaaGreatDoor
