/- The cells of the table treeFields, off what the row lists of it. No conditions. -/
import Derived.Test.YtcpfelaffclalaaGreatDoorPart28
import Derived.ProofKit
import Derived.OpenShut
import Derived.MakeChecks
import Derived.Deep.Fields
namespace Go.Proofs.YtcpfelaffclalaaGreatDoor
open Go Go.RowKit Go.ChangeShapes Go.WideShapes Go.ChangeAt Go.Deep

theorem gTab : Tryz.prog.globalNamed "loop.example/teagle/impl.treeFields" = some 1 := by kernel_rfl
theorem gTabType : (Tryz.prog.globals[1]?).map (·.type) = some 192 := by kernel_rfl
theorem cellsHas : Tryz.prog.cellsOf 191 = 4 := by kernel_rfl
theorem cellsTab : Tryz.prog.cellsOf 192 = 28 := by kernel_rfl
theorem oneHas : ∃ fs : Array Field, Tryz.prog.underlying 191 = some (.struct fs) ∧ oneCellFields Tryz.prog fs = true ∧ fs.map (·.type) = #[4, 4, 4, 4] := ⟨_, Tryz.underlying191, by kernel_rfl, by kernel_rfl⟩

section
variable {H : Type} {enc : TypeId × Value → H} {W : World} {spare : Nat → Bool} {held : Bool}
set_option maxRecDepth 100000 in
theorem has_of_trod {fuel : Nat} {cs : List Value} {x : DataW H × List MemPlace} (h : DataW.trod enc Tryz.prog W 0 spare held fuel 191 cs = some x) :
    ∃ b0 b1 b2 b3 : Bool, cs = [.bool b0, .bool b1, .bool b2, .bool b3] ∧ x.1 = .agg [.lit (.bool b0), .lit (.bool b1), .lit (.bool b2), .lit (.bool b3)] := by
  obtain ⟨fs, hu, hone, hty⟩ := oneHas
  obtain ⟨xs, n, hn, hx, hlen, hxl, hf⟩ := DataW.trod_struct hu h
  rw [cellsHas] at hlen
  match cs, hlen with
  | [c0, c1, c2, c3], _ =>
    have hsz : fs.size = 4 := by have := congrArg Array.size hty; simpa using this
    have hfield : ∀ (i : Nat), (hi : i < 4) → DataW.trod enc Tryz.prog W 0 spare held n 4 (([c0, c1, c2, c3].drop i).take 1) = some (xs[i]'(by omega)) := by
      intro i hi
      have hfi : fs[i]? = some (fs[i]'(by omega)) := Array.getElem?_eq_getElem (by omega)
      obtain ⟨ho, hc⟩ := hone_of hone i _ hfi
      have := hf i _ hfi
      rw [ho, hc] at this
      have hTT : (fs[i]'(by omega)).type = 4 := by
        have e : (fs.map (·.type))[i]? = some ((fs[i]'(by omega)).type) := by simp [hsz, hi]
        rw [hty] at e
        rcases (show i = 0 ∨ i = 1 ∨ i = 2 ∨ i = 3 by omega) with rfl | rfl | rfl | rfl <;> simpa using e.symm
      rw [hTT] at this
      rw [this]; exact List.getElem?_eq_getElem (by omega)
    obtain ⟨b0, e0, f0⟩ := DataW.trod_bool Tryz.underlying4 (hfield 0 (by omega))
    obtain ⟨b1, e1, f1⟩ := DataW.trod_bool Tryz.underlying4 (hfield 1 (by omega))
    obtain ⟨b2, e2, f2⟩ := DataW.trod_bool Tryz.underlying4 (hfield 2 (by omega))
    obtain ⟨b3, e3, f3⟩ := DataW.trod_bool Tryz.underlying4 (hfield 3 (by omega))
    simp only [List.drop_succ_cons, List.drop_zero, List.take_succ_cons, List.take_zero, List.cons.injEq, and_true] at e0 e1 e2 e3
    refine ⟨b0, b1, b2, b3, by rw [e0, e1, e2, e3], ?_⟩
    obtain ⟨x0, x1, x2, x3, hxs⟩ : ∃ x0 x1 x2 x3, xs = [x0, x1, x2, x3] := by
      match xs, hxl.trans hsz with
      | [x0, x1, x2, x3], _ => exact ⟨x0, x1, x2, x3, rfl⟩
    subst hxs
    simp only [List.getElem_cons_zero, List.getElem_cons_succ] at f0 f1 f2 f3
    rw [hx, f0, f1, f2, f3]
    rfl
end

set_option maxRecDepth 100000 in
theorem tab_of_laid {W : World} (h : laidMetH Tryz.prog [("loop.example/teagle/impl.treeFields", Rows.laid_loop_example_teagle_impl_treeFields)] W) : Tab W := by
  rw [MakeChecks.laidMetH_plain _ _ _ (by kernel_rfl)] at h
  obtain ⟨ps, ⟨g0, t0, cs0, f0, p0, q0, hg0, ht0, hv0, hd0, _, _⟩, _, _⟩ := h
  obtain rfl := Option.some.inj (gTab.symm.trans hg0)
  obtain rfl := Option.some.inj (gTabType.symm.trans ht0)
  obtain ⟨xs, m, -, hx, hlen, hxl, hel⟩ := DataW.trod_array Tryz.underlying192 hd0
  rw [cellsHas] at hel
  rw [cellsTab] at hlen
  have hcell := World.var?_cell hg0 hv0
  have key : ∀ i, (hi : i < 7) → ∃ b0 b1 b2 b3 : Bool, (cs0.toList.drop (i * 4)).take 4 = [.bool b0, .bool b1, .bool b2, .bool b3] ∧ (xs[i]'(by omega)).1 = .agg [.lit (.bool b0), .lit (.bool b1), .lit (.bool b2), .lit (.bool b3)] := fun i hi => by
    have := hel i hi
    rw [List.getElem?_eq_getElem (by omega)] at this
    exact has_of_trod this
  obtain ⟨x0, x1, x2, x3, x4, x5, x6, hxs⟩ : ∃ x0 x1 x2 x3 x4 x5 x6, xs = [x0, x1, x2, x3, x4, x5, x6] := by
    match xs, hxl with
    | [x0, x1, x2, x3, x4, x5, x6], _ => exact ⟨x0, x1, x2, x3, x4, x5, x6, rfl⟩
  subst hxs
  simp only [Prod.mk.injEq, Rows.laid_loop_example_teagle_impl_treeFields, DataW.agg.injEq, List.map_cons, List.map_nil, List.cons.injEq, and_true] at hx
  obtain ⟨⟨g0, g1, g2, g3, g4, g5, g6⟩, -⟩ := hx
  obtain ⟨l⟩ := cs0
  simp only at hlen hcell key
  have cellk : ∀ i j, j < 4 → l[i * 4 + j]? = ((l.drop (i * 4)).take 4)[j]? := fun i j hj => by
    rw [List.getElem?_take_of_lt hj, List.getElem?_drop]
  obtain ⟨a0, a1, a2, a3, l0, d0⟩ := key 0 (by omega)
  simp only [List.getElem_cons_zero] at d0
  rw [d0] at g0
  simp only [DataW.agg.injEq, List.cons.injEq, DataW.lit.injEq, Lit.bool.injEq, and_true] at g0
  obtain ⟨rfl, rfl, rfl, rfl⟩ := g0
  obtain ⟨a0, a1, a2, a3, l1, d1⟩ := key 1 (by omega)
  simp only [List.getElem_cons_zero, List.getElem_cons_succ] at d1
  rw [d1] at g1
  simp only [DataW.agg.injEq, List.cons.injEq, DataW.lit.injEq, Lit.bool.injEq, and_true] at g1
  obtain ⟨rfl, rfl, rfl, rfl⟩ := g1
  obtain ⟨a0, a1, a2, a3, l2, d2⟩ := key 2 (by omega)
  simp only [List.getElem_cons_zero, List.getElem_cons_succ] at d2
  rw [d2] at g2
  simp only [DataW.agg.injEq, List.cons.injEq, DataW.lit.injEq, Lit.bool.injEq, and_true] at g2
  obtain ⟨rfl, rfl, rfl, rfl⟩ := g2
  obtain ⟨a0, a1, a2, a3, l3, d3⟩ := key 3 (by omega)
  simp only [List.getElem_cons_zero, List.getElem_cons_succ] at d3
  rw [d3] at g3
  simp only [DataW.agg.injEq, List.cons.injEq, DataW.lit.injEq, Lit.bool.injEq, and_true] at g3
  obtain ⟨rfl, rfl, rfl, rfl⟩ := g3
  obtain ⟨a0, a1, a2, a3, l4, d4⟩ := key 4 (by omega)
  simp only [List.getElem_cons_zero, List.getElem_cons_succ] at d4
  rw [d4] at g4
  simp only [DataW.agg.injEq, List.cons.injEq, DataW.lit.injEq, Lit.bool.injEq, and_true] at g4
  obtain ⟨rfl, rfl, rfl, rfl⟩ := g4
  obtain ⟨a0, a1, a2, a3, l5, d5⟩ := key 5 (by omega)
  simp only [List.getElem_cons_zero, List.getElem_cons_succ] at d5
  rw [d5] at g5
  simp only [DataW.agg.injEq, List.cons.injEq, DataW.lit.injEq, Lit.bool.injEq, and_true] at g5
  obtain ⟨rfl, rfl, rfl, rfl⟩ := g5
  obtain ⟨a0, a1, a2, a3, l6, d6⟩ := key 6 (by omega)
  simp only [List.getElem_cons_zero, List.getElem_cons_succ] at d6
  rw [d6] at g6
  simp only [DataW.agg.injEq, List.cons.injEq, DataW.lit.injEq, Lit.bool.injEq, and_true] at g6
  obtain ⟨rfl, rfl, rfl, rfl⟩ := g6
  have hc' : ∀ k, W.cell? ⟨1, k, none⟩ = l[k]? := fun k => (hcell k).trans (by simp)
  intro k hk
  rw [hc' k]
  have hcase : k = 0 ∨ k = 1 ∨ k = 2 ∨ k = 3 ∨ k = 4 ∨ k = 5 ∨ k = 6 ∨ k = 7 ∨ k = 8 ∨ k = 9 ∨ k = 10 ∨ k = 11 ∨ k = 12 ∨ k = 13 ∨ k = 14 ∨ k = 15 ∨ k = 16 ∨ k = 17 ∨ k = 18 ∨ k = 19 ∨ k = 20 ∨ k = 21 ∨ k = 22 ∨ k = 23 ∨ k = 24 ∨ k = 25 ∨ k = 26 ∨ k = 27 := by omega
  rcases hcase with rfl | rfl | rfl | rfl | rfl | rfl | rfl | rfl | rfl | rfl | rfl | rfl | rfl | rfl | rfl | rfl | rfl | rfl | rfl | rfl | rfl | rfl | rfl | rfl | rfl | rfl | rfl | rfl
  · exact (cellk 0 0 (by omega)).trans (congrArg (fun q => q[0]?) l0)
  · exact (cellk 0 1 (by omega)).trans (congrArg (fun q => q[1]?) l0)
  · exact (cellk 0 2 (by omega)).trans (congrArg (fun q => q[2]?) l0)
  · exact (cellk 0 3 (by omega)).trans (congrArg (fun q => q[3]?) l0)
  · exact (cellk 1 0 (by omega)).trans (congrArg (fun q => q[0]?) l1)
  · exact (cellk 1 1 (by omega)).trans (congrArg (fun q => q[1]?) l1)
  · exact (cellk 1 2 (by omega)).trans (congrArg (fun q => q[2]?) l1)
  · exact (cellk 1 3 (by omega)).trans (congrArg (fun q => q[3]?) l1)
  · exact (cellk 2 0 (by omega)).trans (congrArg (fun q => q[0]?) l2)
  · exact (cellk 2 1 (by omega)).trans (congrArg (fun q => q[1]?) l2)
  · exact (cellk 2 2 (by omega)).trans (congrArg (fun q => q[2]?) l2)
  · exact (cellk 2 3 (by omega)).trans (congrArg (fun q => q[3]?) l2)
  · exact (cellk 3 0 (by omega)).trans (congrArg (fun q => q[0]?) l3)
  · exact (cellk 3 1 (by omega)).trans (congrArg (fun q => q[1]?) l3)
  · exact (cellk 3 2 (by omega)).trans (congrArg (fun q => q[2]?) l3)
  · exact (cellk 3 3 (by omega)).trans (congrArg (fun q => q[3]?) l3)
  · exact (cellk 4 0 (by omega)).trans (congrArg (fun q => q[0]?) l4)
  · exact (cellk 4 1 (by omega)).trans (congrArg (fun q => q[1]?) l4)
  · exact (cellk 4 2 (by omega)).trans (congrArg (fun q => q[2]?) l4)
  · exact (cellk 4 3 (by omega)).trans (congrArg (fun q => q[3]?) l4)
  · exact (cellk 5 0 (by omega)).trans (congrArg (fun q => q[0]?) l5)
  · exact (cellk 5 1 (by omega)).trans (congrArg (fun q => q[1]?) l5)
  · exact (cellk 5 2 (by omega)).trans (congrArg (fun q => q[2]?) l5)
  · exact (cellk 5 3 (by omega)).trans (congrArg (fun q => q[3]?) l5)
  · exact (cellk 6 0 (by omega)).trans (congrArg (fun q => q[0]?) l6)
  · exact (cellk 6 1 (by omega)).trans (congrArg (fun q => q[1]?) l6)
  · exact (cellk 6 2 (by omega)).trans (congrArg (fun q => q[2]?) l6)
  · exact (cellk 6 3 (by omega)).trans (congrArg (fun q => q[3]?) l6)
end Go.Proofs.YtcpfelaffclalaaGreatDoor
