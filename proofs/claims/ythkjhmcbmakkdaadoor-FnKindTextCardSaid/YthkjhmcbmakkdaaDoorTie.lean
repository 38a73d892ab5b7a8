/-
  DERIVED. GIVEN WITH THE SEED: THE PROGRAM's TIES (one call each: nine closed facts by the kernel) AND EACH ROW's TIE, after the 31st guide's Derived/Test/Toyas{Tie, Card}.lean. No idea stands in it: it is a product of the set-up. Laid BY PROGRAM, IN A SANDBOX (cutbox-door.mjs). By AI agents, Wed Nov 11 2026. No macro, syntax, notation, axiom, sorry.
-/
import Derived.Test.YthkjhmcbmakkdaaDoorRows
import Derived.LaidByTextLater
import Derived.SevenTiedAt
import Derived.LaidSub
import Derived.LaidOnce
namespace Go.Proofs.YthkjhmcbmakkdaaDoor
open Go
set_option maxRecDepth 100000
theorem seatTie1 : Tryd.prog.laidByTextLater [("loop.example/teagle/impl.treeFields", Rows.laid_loop_example_teagle_impl_treeFields), ("loop.example/teagle/impl.kindWords", Rows.laid_loop_example_teagle_impl_kindWords)] [.data, .data] true :=
  Program.laidByTextLater_by_one 25 8 29 (by kernel_rfl) (by kernel_rfl) (by kernel_rfl) (by kernel_rfl) (by kernel_rfl) (by kernel_rfl) (fun _ _ => by kernel_rfl)
theorem noOwnUnsafe : Tryd.pinned.checked.prog.headLifts.contains "ownunsafe" = false := by kernel_rfl
theorem tie : Tryd.prog.laidByTextLater [("loop.example/teagle/impl.kindWords", Rows.laid_loop_example_teagle_impl_kindWords)] [.data] true :=
  Program.laidByTextLater.sub seatTie1 ["loop.example/teagle/impl.kindWords"] (by kernel_rfl) (by kernel_rfl)
theorem fnKindText_row_tie : Rows.fnKindTextRow.laidByTextAt .later Tryd.pinned [.data] true :=
  OpenClaim.laidByTextAt_later rfl rfl tie noOwnUnsafe
theorem tie2 : Tryd.prog.laidByTextLater [("loop.example/teagle/impl.treeFields", Rows.laid_loop_example_teagle_impl_treeFields)] [.data] true :=
  Program.laidByTextLater.sub seatTie1 ["loop.example/teagle/impl.treeFields"] (by kernel_rfl) (by kernel_rfl)
theorem fnKindFirst_row_tie : Rows.fnKindFirstRow.laidByTextAt .later Tryd.pinned [.data] true :=
  OpenClaim.laidByTextAt_later rfl rfl tie2 noOwnUnsafe
theorem fnKindTextUpto_row_tie : Rows.fnKindTextUptoRow.laidByTextAt .later Tryd.pinned [.data] true :=
  OpenClaim.laidByTextAt_later rfl rfl tie noOwnUnsafe
theorem fnKindFirstUpto_row_tie : Rows.fnKindFirstUptoRow.laidByTextAt .later Tryd.pinned [.data] true :=
  OpenClaim.laidByTextAt_later rfl rfl tie2 noOwnUnsafe
end Go.Proofs.YthkjhmcbmakkdaaDoor
