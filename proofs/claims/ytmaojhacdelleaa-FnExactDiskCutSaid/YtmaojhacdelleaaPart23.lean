/- The specification's DiskCut, whatever the number of moves. No conditions. -/
import Derived.Test.YtmaojhacdelleaaPart21
import Derived.Test.YtmaojhacdelleaaPart22
namespace Go.Proofs.Ytmaojhacdelleaa
open Go Go.RowKit

theorem specDiskCut_any (d : Dk) (m : Int) (zs : List Int) (P : Nat → Prop) (c : C3) (v : Value) (w : World) (hP : ∀ b, P b → b < w.heap.size) (hd : DkAt P w d c) (hz : ZsAt P w v zs) :
    Calls Try.prog 16 #[.agg #[c.c0, c.c1, c.c2], .int .i64 m, v] w fun e w' => DkEnd w w' e (cutD d m zs) := by
  by_cases h0 : m < 0
  · exact specDiskCut_low d m zs P c v w hP hd hz h0
  · by_cases h1 : (d.moves.length : Int) < m
    · exact specDiskCut_high d m zs P c v w hP hd hz h1
    · exact specDiskCut_mid d m zs P c v w hP hd hz (by omega) (by omega)
end Go.Proofs.Ytmaojhacdelleaa
