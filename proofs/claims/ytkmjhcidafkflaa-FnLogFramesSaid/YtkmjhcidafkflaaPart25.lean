/- The walks of the library's strings.Clone and of the program's copyNames: the same bytes; the same names, in a row of the call's own. Of what was there nothing has turned. The strings have at most 2^47 bytes. -/
import Derived.Test.YtkmjhcidafkflaaPart24
import Derived.Test.YtkmjhcidafkflaaRows
import Derived.Test.YtkmjhcidafkflaaPart01
import Derived.Test.YtkmjhcidafkflaaPart05
namespace Go.Proofs.Ytkmjhcidafkflaa
open Go Go.RowKit

set_option maxHeartbeats 400000 in
theorem clone_any (s : ByteArray) (w : World) (hlim : s.size ≤ 140737488355328) :
    Calls Try.prog 42 #[.string s] w fun e w' => e = .returned (.string s) ∧ Below w.heap.size w w' := by
  have hc : ∀ W, Calls Try.prog 56 #[.string s] W fun e w' => e = .returned (.string s) ∧ Below W.heap.size W w' := fun W => Try.stringslite_Clone s W (by omega)
  have HC := hide hc; clear hc
  go_enter Try.func42, Try.ntmps42
  go_wp2_with (go_at_call 56; refine (unhide HC _).mono ?_; rintro e w' ⟨rfl, hb⟩)
  go_ret
  exact ⟨rfl, hb⟩

theorem infoStrC : (Try.prog.info? 9).map (fun i => (i.zero, i.size, i.bytes)) = some (some (.string ByteArray.empty), 1, 16) := by kernel_rfl

end Go.Proofs.Ytkmjhcidafkflaa
