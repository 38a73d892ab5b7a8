/- What is read of a row of numbers that comes in is one that lies in memory. No conditions. -/
import Derived.Test.YtchlbncncipecaaRows
import Derived.Test.YtchlbncncipecaaZsDat
import Derived.ProofKit
import Derived.OpenShut
namespace Go.Proofs.Ytchlbncncipecaa
open Go Go.RowKit Go.ChangeShapes Go.WideShapes Go.ChangeAt

theorem cellsIntZ : Try.prog.cellsOf 3 = 1 := by kernel_rfl

section
variable {H : Type} {enc : TypeId × Value → H} {W : World} {spare : Nat → Bool} {held : Bool}

theorem ints_of_trod {fuel : Nat} {v : Value} {x : DataW H × List MemPlace} (h : DataW.trod enc Try.prog W 0 spare held fuel 25 [v] = some x) :
    ∃ l, ZsAt (fun b => b < W.heap.size) W v l := by
  rcases open_ints Try.underlying25 Try.underlying3 cellsIntZ h with ⟨hcs, -⟩ | ⟨a, len, cap, zs, hcs, -, hl, hm, hz, -, hcell, hws⟩
  · simp only [List.cons.injEq, and_true] at hcs
    exact ⟨[], none, 0, hcs, by simp, fun i hi => by simp at hi⟩
  · simp only [List.cons.injEq, and_true] at hcs
    have hle : len ≤ zs.length := by rw [hz]; split <;> omega
    unfold maxLen at hm
    have hlen : (zs.take len).length = len := by simp; omega
    refine ⟨zs.take len, some a, cap, by rw [hcs, hlen], by rw [hlen]; omega, fun i hi => ?_⟩
    have hi' : i < len := by rw [hlen] at hi; exact hi
    obtain ⟨b, off, spot⟩ := a
    have hspot : spot = none := by simpa [Addr.add] using World.cell?_spot (hcell 0 (by omega))
    subst hspot
    have hc := hcell i (by omega)
    rw [Addr.add_lit] at hc
    have hb := bounds_i64 (hws (zs[i]'(by omega)) (List.getElem_mem (by omega)))
    have e1 : zs.getD i 0 = zs[i]'(by omega) := by simp [show i < zs.length by omega]
    have e2 : ((zs.take len)[i]'hi) = zs[i]'(by omega) := by simp
    refine ⟨b, off, rfl, World.block_lt_of_cell? W _ hc, ?_, ?_⟩
    · rw [hc, e1, e2]
    · rw [e2]; exact ⟨by omega, by omega⟩
end
end Go.Proofs.Ytchlbncncipecaa
