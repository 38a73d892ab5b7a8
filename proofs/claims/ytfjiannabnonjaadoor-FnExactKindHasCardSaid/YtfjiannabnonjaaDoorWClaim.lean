/- The walks of kindClaim's holds and of namedKind's kidFor. No conditions but those on the trees' and schemas' shapes that are told. -/
import Derived.Test.YtfjiannabnonjaaDoorWGathN
import Derived.Test.YtfjiannabnonjaaDoorHas
namespace Go.Proofs.YtfjiannabnonjaaDoor
open Go Go.RowKit Go.Maps

def row9 (c : C4) (d : C5) : Nat → Value
  | 0 => c.c0
  | 1 => c.c1
  | 2 => c.c2
  | 3 => c.c3
  | 4 => d.c0
  | 5 => d.c1
  | 6 => d.c2
  | 7 => d.c3
  | _ => d.c4
theorem row9_alloc (w : World) (c : C4) (d : C5) (t : TypeId) : (w.alloc (.cells #[c.c0, c.c1, c.c2, c.c3, d.c0, d.c1, d.c2, d.c3, d.c4] t)).rowIs w.heap.size t 9 (row9 c d) :=
  World.rowIs_alloc w #[c.c0, c.c1, c.c2, c.c3, d.c0, d.c1, d.c2, d.c3, d.c4] t _ (fun i hi => by
    have hi' : i < 9 := hi
    match i, hi' with
    | 0, _ => rfl
    | 1, _ => rfl
    | 2, _ => rfl
    | 3, _ => rfl
    | 4, _ => rfl
    | 5, _ => rfl
    | 6, _ => rfl
    | 7, _ => rfl
    | 8, _ => rfl)

/-- A claim holds, its kids aside. -/
def holdB (k : Kd) (t : Tr) : Bool := decide (k.sort = t.sort) && justB k.names t.names

set_option maxRecDepth 100000 in
set_option maxHeartbeats 800000 in
theorem holds_any (k : Kd) (t : Tr) (P Q : Nat → Prop) (c : C4) (d : C5) (w : World) (hP : ∀ b, P b → b < w.heap.size) (hQ : ∀ b, Q b → b < w.heap.size) (hrep : NRep P w k c) (hrep2 : Rep Q w t d) :
    Calls Tryd.prog 35 #[.agg #[c.c0, c.c1, c.c2, c.c3, d.c0, d.c1, d.c2, d.c3, d.c4]] w fun e w' => e = .returned (.bool (holdB k t)) ∧ Below w.heap.size w w' := by
  obtain ⟨c0, c1, c2, c3⟩ := c
  obtain ⟨d0, d1, d2, d3, d4⟩ := d
  obtain ⟨e0, -, ⟨a3, cap3, e1, -, -⟩, ⟨B, e2, hPB, hm⟩, a, cap, e3, -, -⟩ := hrep.open
  obtain ⟨g0, g1, g2, -, -, -, hns, a6, cap6, g4, -, -⟩ := hrep2.open
  simp only at e0 e1 e2 e3 g0 g1 g2 g4 hns
  have HNS := hide hns
  obtain ⟨a5, cap5, g3, -, -⟩ := hns
  subst e0 e1 e2 e3 g0 g1 g2 g3 g4
  have hb0 : ∀ o, Below w.heap.size w (w.alloc o) := fun o => (Below.refl _ _).alloc (Nat.le_refl _) o
  have hcall := fun o => hasJust_any a3 cap3 B k.names (.slice a5 t.names.length cap5) t.names (w.alloc o) (P := Q) (fun b hb => Nat.lt_of_lt_of_le (hQ b hb) (hb0 o).size) ((unhide HNS).carry (fun b hb => (hb0 o).block b (hQ b hb)) (fun _ h => h)) (hm.carry ((hb0 o).block B (hP B hPB)))
  have HCALL := hide hcall; have HB0 := hide hb0
  clear hcall hb0 hrep hrep2 hP hQ hPB hm
  by_cases hs : k.sort = t.sort
  · have hh : holdB k t = justB k.names t.names := by rw [holdB, decide_eq_true hs, Bool.true_and]
    rw [hh]
    simp only [hs]
    clear hs hh
    generalize justB k.names t.names = r at *
    go_enter Tryd.func35, Tryd.ntmps35
    go_wp2_with (go_at_call 69; refine (unhide HCALL _).mono ?_; rintro e w1 ⟨rfl, hb1⟩)
    go_ret
    exact ⟨rfl, (unhide HB0 _).trans (hb1.mono (unhide HB0 _).size)⟩
  · have hh : holdB k t = false := by rw [holdB, decide_eq_false hs, Bool.false_and]
    rw [hh]
    clear hh HCALL
    go_enter Tryd.func35, Tryd.ntmps35
    go_wp2_with fail
    go_ret
    exact ⟨rfl, unhide HB0 _⟩
end Go.Proofs.YtfjiannabnonjaaDoor
