/- The walk of the program's LogPlanWrite: the text of a plan that is ok, else nothing. The table of powers is as strconv's text lays it. -/
import Derived.Test.YtmaojhacdelleaaDoorWPwJ
import Derived.Test.YtmaojhacdelleaaDoorWPlP
import Derived.RangeFuncFrom
namespace Go.Proofs.YtmaojhacdelleaaDoor
open Go Go.RowKit Go.Shelf

attribute [local go_sem] Oper.semAt_some

/-- append of a string's bytes, inside a fence. -/
theorem appendIn_string {F : Fence} {n : Nat} (w : World) {ops : Array Oper} {rest : List Oper} {o : Oper} {a : Act} {Q : Exit → Act → World → Prop}
    (hg : o.guard = none) (s x : Operand) (hop : o.op = Op.call { callee := Callee.builtin Builtin.append, args := #[s, x], argTypes := #[39, 9] })
    (base : Nat) (v : Value) (l : List UInt8) (tx : ByteArray) (hs : a.eval s = v) (hown : ByRow base w v l) (hx : a.eval x = .string tx)
    (hlen : l.length + tx.size ≤ 1099511627776) (hbase : base ≤ w.heap.size)
    (hK : ∀ a' n' cap' w', Hid (n' = (l ++ tx.data.toList).length) → Hid (ByRow base w' (.slice a' n' cap') (l ++ tx.data.toList)) → Hid (w.grownBy w' v.ownBlock) → wpListIn F n Tryd.prog ops Q rest (a.put o.dst (.slice a' n' cap')) w') :
    wpListIn F n Tryd.prog ops Q (o :: rest) a w := by
  obtain ⟨i0, hi, hz0, hz1, hz2⟩ := info_parts infoU8
  have hsz : tx.data.toList.length = tx.size := by simp
  refine wpListIn_plain hg fun K hK' => ?_
  obtain ⟨v', w', hr, r1, r2, -⟩ := Lib.run_append_own_string (P := Tryd.prog) w base 39 9 o.type 5 i0 Tryd.underlying39 Tryd.underlying9 hi hz0 hz1 hz2 v l.length (bc l) hown tx (by unfold maxLen; omega) (by omega) hbase
  have hrow : ByRow base w' v' (l ++ tx.data.toList) := by
    show w'.ownsRow base 5 1 v' (l ++ tx.data.toList).length (bc (l ++ tx.data.toList))
    rw [bc_append, List.length_append, hsz, ← bc_str]; exact r1
  obtain ⟨a', cap', rfl⟩ := hrow.slice
  unfold Oper.wpIn
  refine ⟨?_, ?_⟩
  · simp [Oper.about, hop, resolve, Target.leads, Sem.run_pure]
  · rw [Oper.semAt_plain F _ _ (by rw [hop]; intro c hc'; cases hc')]
    simp only [execOp, hop, resolve, invoke, builtin, Sem.run_bind, Sem.run_pure, Result.andThen_ok, List.map_toArray, List.map_cons, List.map_nil, hs, hx, hr]
    exact hK' _ _ (hK a' _ cap' w' rfl hrow r2)

def catL (pre : List LX) : List UInt8 := (pre.map lKey).flatten
theorem catL_snoc (pre : List LX) (x : LX) : catL (pre ++ [x]) = catL pre ++ x.1.data.toList := by
  unfold catL; rw [List.map_append, List.flatten_append]; simp [lKey]
theorem catL_len : ∀ pre : List LX, (catL pre).length ≤ 200 * pre.length
  | [] => by simp [catL]
  | x :: r => by
    have ih := catL_len r
    have hx : x.1.data.toList.length ≤ 200 := by have := x.2; simpa using this
    have : catL (x :: r) = x.1.data.toList ++ catL r := by simp [catL, lKey]
    rw [this, List.length_append, List.length_cons]
    omega

/-- A round's append and store. -/
theorem round_ends {W w1 : World} {M B : Nat} {v v' : Value} {l l' : List UInt8} (hv : Boxed W B 39 v) (hrow : ByRow M W v l) (hown' : ByRow M w1 v' l') (hg : W.grownBy w1 v.ownBlock) (hM : M ≤ W.heap.size) :
    Boxed w1 B 39 v ∧ Boxed (w1.setCell ⟨B, 0, none⟩ v') B 39 v' ∧ ByRow M (w1.setCell ⟨B, 0, none⟩ v') v' l' ∧ KeepsOthers W (w1.setCell ⟨B, 0, none⟩ v') ∧ KpL M B W (w1.setCell ⟨B, 0, none⟩ v') ∧ (∀ n0, n0 ≤ B → n0 ≤ M → Below n0 W (w1.setCell ⟨B, 0, none⟩ v')) := by
  have hte : 39 ≠ 5 := by decide
  have hv1 : Boxed w1 B 39 v := hv.kept hg (hv.not_row hte hrow)
  refine ⟨hv1, hv1.set v', hown'.kept (grownBy_setCell' w1 B v') (.inr (hv1.not_row hte hown').symm), ?_, ⟨?_, fun k h1 h2 => ?_⟩, fun n0 h1 h2 => ?_⟩
  · refine (KeepsOthers.of_grownBy hg fun j o ej hj => ?_).trans (KeepsOthers.setCell _ _ _)
    rcases hrow.2 with ⟨rfl, _⟩ | ⟨g, cap, cur, rfl, _, hgb, _⟩
    · simp [Value.ownBlock] at ej
    · obtain rfl : g = j := by simpa [Value.ownBlock] using ej
      rw [hgb] at hj; cases hj; rfl
  · show W.heap.size ≤ (w1.setCell _ _).heap.size
    have := hg.size
    simp [World.setCell]; omega
  · refine (Below.heap_setCell _ _ _ _ (fun e => h2 ?_)).trans (hg.block k (by omega) (fun e => ?_))
    · first | exact e | exact e.symm
    · have := (hrow.lt k e.symm).1; omega
  · exact ((Below.refl n0 W).grown hg (by omega) (fun k e => by have := (hrow.lt k e).1; omega)).setCell (p := ⟨B, 0, none⟩) h1 v'
end Go.Proofs.YtmaojhacdelleaaDoor
