/- Small laws of lists of strings, of a cell that is set. No program walked but one fact of its types; no conditions. -/
import Derived.Test.YtchlbncncipecaaRows
import Derived.Test.YtchlbncncipecaaData
import Derived.Deep.OwnRows
import Derived.Deep.RegionWith
namespace Go.Proofs.Ytchlbncncipecaa
open Go Go.RowKit

theorem wS_take (ss : List ByteArray) (k : Nat) (h : k < ss.length) : wS (ss.take (k + 1)) = wS (ss.take k) + ss[k].size + 1 := by
  induction ss generalizing k with
  | nil => simp at h
  | cons a r ih =>
    cases k with
    | zero => simp [wS]
    | succ k => simp only [List.take_succ_cons, wS, List.getElem_cons_succ]; rw [ih k (by simpa using h)]; omega

theorem infoString : (Try.prog.info? 9).map (fun i => (i.zero, i.size, i.bytes)) = some (some (.string ByteArray.empty), 1, 16) := by kernel_rfl
theorem size_setCell (w : World) (a : Addr) (v : Value) : (w.setCell a v).heap.size = w.heap.size := by simp [World.setCell]
end Go.Proofs.Ytchlbncncipecaa
