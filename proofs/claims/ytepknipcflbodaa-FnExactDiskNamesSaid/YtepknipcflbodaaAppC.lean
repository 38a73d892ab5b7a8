/- append of a whole list onto an empty one; the cells of a list of names, to be copied. No program, no conditions. -/
import Derived.Test.YtepknipcflbodaaData
import Derived.Test.YtepknipcflbodaaRow
import Derived.Test.YtepknipcflbodaaKL3
import Derived.Deep.AppendLies
namespace Go.Proofs.Ytepknipcflbodaa
open Go Go.RowKit

theorem append_copyD {P : Program} (w : World) {ops : Array Oper} {rest : List Oper} {o : Oper} {a : Act} {Q : Exit → Act → World → Prop}
    (hg : o.guard = none) (s x : Operand) (t : TypeId) (hop : o.op = Op.call { callee := Callee.builtin Builtin.append, args := #[s, x], argTypes := #[t, t] })
    (base : Nat) (e : TypeId) (i : TypeInfo) (z : Value) (size bytes : Nat) (h1 : P.underlying t = some (.slice e)) (h2 : P.info? e = some i) (h3 : i.zero = some z) (h4 : i.size = size) (h5 : i.bytes = bytes) (h6 : z.cells.size = size) (h7 : 0 < size)
    (g0 : Nat) (hs : a.eval s = .slice (some ⟨g0, 0, none⟩) 0 0) (hown : w.ownsRow base e size (.slice (some ⟨g0, 0, none⟩) 0 0) 0 [])
    (ax : Option Addr) (m c : Nat) (xs : List Value) (hx : a.eval x = .slice ax m c) (hn : xs.length = m * size) (hc : 0 < m → ∃ ad, ax = some ad ∧ ∀ j u, xs[j]? = some u → w.cell? (ad.add j) = some u) (h1c : ∀ u ∈ xs, u.oneCell' = true)
    (b1 : m ≤ maxLen) (b2 : m * bytes ≤ 140737488355328) (hbase : base ≤ w.heap.size)
    (hK : ∀ g cap w', Hid (w'.ownsRow base e size (.slice (some ⟨g, 0, none⟩) m cap) m xs) → Hid (w.grownBy w' (some g0)) → wpList P ops Q rest (a.put o.dst (.slice (some ⟨g, 0, none⟩) m cap)) w') :
    wpList P ops Q (o :: rest) a w := by
  rcases Nat.eq_zero_or_pos m with h0 | h0
  · subst h0
    have hxs : xs = [] := List.eq_nil_of_length_eq_zero (by rw [hn]; omega)
    subst hxs
    have hrun : ∀ ty, (Builtin.append_ #[t, t] ty #[.slice (some ⟨g0, 0, none⟩) 0 0, .slice ax 0 c]).run P w = .ok (.slice (some ⟨g0, 0, none⟩) 0 0) w := fun ty => by
      cases ax with
      | none => simp [Builtin.append_, run_underlying h1, sizeOf, typeInfo, h2, Builtin.lenOf, Builtin.firstCells, go_sem]
      | some ad => simp [Builtin.append_, run_underlying h1, sizeOf, typeInfo, h2, Builtin.lenOf, Builtin.firstCells, go_sem]
    refine wpList_plain hg fun K hKK => ?_
    unfold Oper.wp execOp
    simp only [hop, resolve, invoke, builtin, Sem.run_bind, Sem.run_pure, Result.andThen_ok, List.map_toArray, List.map_cons, List.map_nil, hs, hx, hrun]
    exact hKK _ _ (hK g0 0 w hown (World.grownBy.refl w _))
  · obtain ⟨ad, rfl, hcc⟩ := hc h0
    refine append_row w hg s x t hop base e i z size bytes h1 h2 h3 h4 h5 h6 h7 (.slice (some ⟨g0, 0, none⟩) 0 0) 0 [] hs hown ad m c xs hx hn hcc h1c h0 (by omega) (by rw [Nat.zero_add]; exact b2) hbase (fun v' w' r1 r2 _ => ?_)
    rw [Nat.zero_add, List.nil_append] at r1
    obtain ⟨g, cap, rfl, -, -⟩ := r1.form h0
    exact hK g cap w' r1 r2

/-- The names' cells, to be copied. -/
theorem names_srcD {P : Nat → Prop} {W : World} {aN : Option Addr} {nN capN : Nat} {ns : List ByteArray} (h : StrsAt P W (.slice aN nN capN) ns) (o : Obj) : 0 < nN → ∃ ad, aN = some ad ∧ ∀ j u, (ns.map Value.string)[j]? = some u → (W.alloc o).cell? (ad.add j) = some u := by
  obtain ⟨a, cap, e, -, h3⟩ := h
  simp only [Value.slice.injEq] at e
  obtain ⟨rfl, e2, -⟩ := e
  intro h0
  obtain ⟨b, o', rfl, -, -, -⟩ := h3 0 (by omega)
  refine ⟨_, rfl, fun j u hj => ?_⟩
  rw [List.getElem?_map] at hj
  obtain ⟨x, hx, rfl⟩ := Option.map_eq_some_iff.1 hj
  obtain ⟨hlt, rfl⟩ := List.getElem?_eq_some_iff.1 hx
  obtain ⟨b', o'', e3, -, hcell, -⟩ := h3 j hlt
  simp only [Option.some.injEq, Addr.mk.injEq, and_true] at e3
  obtain ⟨rfl, rfl⟩ := e3
  rw [Addr.add_lit, World.cell?_of_block (w := W) (Below.heap_alloc _ _ _ (World.block_lt_of_cell? W _ hcell))]
  exact hcell
end Go.Proofs.Ytepknipcflbodaa
