/- The walk of the law on records that are read back: whatever bytes come in, it answers true, and turns nothing that was there. No conditions. -/
import Derived.Test.YtkmjhcidafkflaaPart21
import Derived.Test.YtkmjhcidafkflaaPart27
import Derived.Test.YtkmjhcidafkflaaPart28
import Derived.Test.YtkmjhcidafkflaaRows
import Derived.Test.YtkmjhcidafkflaaPart00
namespace Go.Proofs.Ytkmjhcidafkflaa
open Go Go.RowKit

theorem RcsAt.take {P : Nat → Prop} {w : World} {a : Option Addr} {cap : Nat} {rs : List Rc} (h : RcsAt P w (.slice a rs.length cap) rs) {n : Nat} (hn : n ≤ rs.length) (cap' : Nat) : RcsAt P w (.slice a n cap') (rs.take n) := by
  obtain ⟨⟨a', c', e, h2, h3⟩, h4⟩ := h
  simp only [List.length_map, Value.slice.injEq] at e
  obtain ⟨rfl, -, rfl⟩ := e
  rw [List.length_map] at h2
  refine ⟨⟨a, cap', by rw [List.length_map, List.length_take, Nat.min_eq_left hn], by rw [List.length_map, List.length_take]; omega, fun i hi => ?_⟩, fun r hr => h4 r (List.mem_of_mem_take hr)⟩
  rw [List.length_map, List.length_take] at hi
  obtain ⟨b, o, e, hb, hc⟩ := h3 i (by rw [List.length_map]; omega)
  refine ⟨b, o, e, hb, fun j hj => ?_⟩
  rw [hc j hj]
  simp
theorem enB_small {L : List Rc} (hok : ∀ r, r ∈ L → okR r) : ∀ i, i ≤ L.length → enB L i ≤ 2005 * i
  | 0, _ => by rw [enB_zero]; omega
  | i + 1, h => by
    have ho := hok _ (List.getElem_mem (show i < L.length by omega))
    rw [enB_succ (by omega) ho]
    have := enB_small hok i (by omega)
    have hd := of_decide_eq_true ho
    omega
theorem cat_take {L : List Rc} {k : Nat} (h : k < L.length) : catB (L.take (k + 1)) = catB (L.take k) ++ frB L[k].pos L[k].data := by
  rw [List.take_succ_eq_append_getElem h, catB_snoc]
/-- The ends, as cells. -/
def enL (L : List Rc) (k : Nat) : List Value := (List.range (k + 1)).map fun j => .int .i64 (enB L j)
theorem enL_succ (L : List Rc) (k : Nat) : enL L (k + 1) = enL L k ++ [.int .i64 (enB L (k + 1))] := by
  unfold enL; rw [List.range_succ, List.map_append]; rfl
end Go.Proofs.Ytkmjhcidafkflaa

/- What is laid for an int. No conditions. -/

namespace Go.Proofs.Ytkmjhcidafkflaa
open Go Go.RowKit
theorem infoIntW : (Try.prog.info? 3).map (fun i => (i.zero, i.size, i.bytes)) = some (some (.int .i64 0), 1, 8) := by kernel_rfl
theorem infoIntD : ∃ i, Try.prog.info? 3 = some i ∧ i.zero = some (.int .i64 0) ∧ i.size = 1 ∧ i.bytes = 8 := by
  have := infoIntW
  cases h : Try.prog.info? 3 with
  | none => rw [h] at this; simp at this
  | some i => rw [h] at this; exact ⟨i, rfl, by simpa using this⟩
end Go.Proofs.Ytkmjhcidafkflaa
