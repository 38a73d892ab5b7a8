/- The program's DiskOk: what it answers, and that it turns nothing that was there. No conditions. -/
import Derived.Test.YtepknipcflbodaaPkD5
namespace Go.Proofs.Ytepknipcflbodaa
open Go Go.RowKit

set_option maxRecDepth 100000 in
set_option maxHeartbeats 1600000 in
theorem implDiskOk_any (d : Dk) (P : Nat → Prop) (c : C3) (w : World) (hP : ∀ b, P b → b < w.heap.size) (hd : DkAt P w d c) :
    Calls Try.prog 9 #[.agg #[c.c0, c.c1, c.c2]] w fun e w' => RetIff e (DkOkP d) ∧ Below w.heap.size w w' := by
  obtain ⟨c0, c1, c2⟩ := c
  have hbx : ∀ o, Below w.heap.size w (w.alloc o) := fun o => (Below.refl _ _).alloc (Nat.le_refl _) o
  have HV := hide (fun o => viewsOf_any d P ⟨c0, c1, c2⟩ (w.alloc o) (fun b hb => Nat.lt_of_lt_of_le (hP b hb) (hbx o).size) (hd.carry (fun b hb => (hbx o).block b (hP b hb)) (fun _ h => h)))
  have HBX := hide hbx
  clear hd hP hbx
  go_enter Try.func9, Try.ntmps9
  go_wp2_with fail
  refine (unhide HV _).mono ?_
  rintro e w1 ⟨r, q0, q1, x2, n2, m2, q3, x4, n4, m4, rfl, hr, hb1, -⟩
  have HR := hide hr; have HB1 := hide ((unhide HBX _).trans (hb1.mono (unhide HBX _).size))
  clear hr hb1
  go_wp2_with fail
  go_ret
  exact ⟨⟨r, rfl, unhide HR⟩, (unhide HB1).alloc (unhide HB1).size _⟩
end Go.Proofs.Ytepknipcflbodaa
