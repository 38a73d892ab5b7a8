/- What is read of a record that comes in is a record that lies in memory. No conditions. -/
import Derived.Test.YtbigchdhpdgicaaDoorPart21
import Derived.Test.YtbigchdhpdgicaaDoorPart00
import Derived.Test.YtbigchdhpdgicaaDoorPart09
import Derived.ProofKit
import Derived.OpenShut
import Derived.MakeChecks
import Derived.Deep.Fields
namespace Go.Proofs.YtbigchdhpdgicaaDoor
open Go Go.RowKit Go.ChangeShapes Go.WideShapes Go.ChangeAt Go.Deep

theorem cellsRecord : Tryd.prog.cellsOf 24 = 3 := by kernel_rfl
theorem oneRecord : ∃ fs : Array Field, Tryd.prog.underlying 24 = some (.struct fs) ∧ oneCellFields Tryd.prog fs = true ∧ fs.map (·.type) = #[3, 9, 22] := ⟨_, Tryd.underlying24, by kernel_rfl, by kernel_rfl⟩

section
variable {H : Type} {enc : TypeId × Value → H} {W : World} {spare : Nat → Bool} {held : Bool}

set_option maxRecDepth 100000 in
theorem evs_of_trod {fuel : Nat} {v : Value} {x : DataW H × List MemPlace} (h : DataW.trod enc Tryd.prog W 0 spare held fuel 22 [v] = some x) :
    ∃ es : List Ev, EvsAt (fun b => b < W.heap.size) W v es := by
  rcases DataW.trod_slice Tryd.underlying22 h with ⟨hcs, -⟩ | ⟨a, len, cap, elems, rest, n', hn', hcs, -, -, hl, hm, hel, hget, -⟩
  · simp only [List.cons.injEq, and_true] at hcs
    exact ⟨[], none, 0, hcs, by simp, fun i hi => by simp at hi⟩
  · simp only [List.cons.injEq, and_true] at hcs
    unfold maxLen at hm
    rw [cellsEvent] at hget
    have hspot : 0 < len → a.spot = none := fun h0 => by
      have hgi := hget 0 h0
      rw [List.getElem?_eq_getElem (by omega)] at hgi
      obtain ⟨cs', hcs', htr⟩ := Option.bind_eq_some_iff.1 hgi
      obtain ⟨-, hl5, hcell⟩ := World.cells?_some hcs'
      have hc0 := hcell 0 (by omega)
      rw [List.getElem?_eq_getElem (by omega)] at hc0
      simpa [Addr.add] using World.cell?_spot hc0
    have hkid : ∀ i, i < len → ∃ e : Ev, ∃ b o, a = ⟨b, o, none⟩ ∧ b < W.heap.size ∧ EvOne (fun b => b < W.heap.size) W b (o + i * 7) e := by
      intro i hi
      have hgi := hget i hi
      rw [List.getElem?_eq_getElem (by omega)] at hgi
      obtain ⟨cs', hcs', htr⟩ := Option.bind_eq_some_iff.1 hgi
      obtain ⟨ty, ver, t, c, rfl, hty, hver, hrep⟩ := event_of_trod htr
      obtain ⟨-, -, hcell⟩ := World.cells?_some hcs'
      obtain ⟨b, off, spot⟩ := a
      have hsp : spot = none := hspot (by omega)
      subst hsp
      have hc0 := hcell 0 (by omega)
      have hc1 := hcell 1 (by omega); have hc2 := hcell 2 (by omega); have hc3 := hcell 3 (by omega); have hc4 := hcell 4 (by omega); have hc5 := hcell 5 (by omega); have hc6 := hcell 6 (by omega)
      simp only [Addr.add_lit, List.getElem?_cons_zero, List.getElem?_cons_succ, Nat.add_zero] at hc0 hc1 hc2 hc3 hc4 hc5 hc6
      exact ⟨⟨ty, ver, t⟩, b, off, rfl, World.block_lt_of_cell? W _ hc0, c, ⟨hc0, hc1, hc2, hc3, hc4, hc5, hc6⟩, hrep, hty, hver⟩
    obtain ⟨K, hK⟩ : ∃ K : Nat → Ev, ∀ i, i < len → ∃ b o, a = ⟨b, o, none⟩ ∧ b < W.heap.size ∧ EvOne (fun b => b < W.heap.size) W b (o + i * 7) (K i) :=
      ⟨fun i => if h : i < len then (hkid i h).choose else ⟨ByteArray.empty, 0, .mk 0 0 ByteArray.empty [] []⟩, fun i hi => by simp only [hi, dif_pos]; exact (hkid i hi).choose_spec⟩
    refine ⟨(List.range len).map K, some a, cap, by simpa using hcs, by simp; omega, fun i hi => ?_⟩
    have hi' : i < len := by simpa using hi
    obtain ⟨b, o, ha, hb, hj⟩ := hK i hi'
    exact ⟨b, o, by rw [ha], hb, by simpa using hj⟩

set_option maxRecDepth 100000 in
theorem record_of_trod {fuel : Nat} {cs : List Value} {x : DataW H × List MemPlace} (h : DataW.trod enc Tryd.prog W 0 spare held fuel 24 cs = some x) :
    ∃ (pos : Int) (key : ByteArray) (v : Value) (es : List Ev), cs = [.int .i64 pos, .string key, v] ∧ key.size ≤ 9223372036854775807 ∧ I64 pos ∧ EvsAt (fun b => b < W.heap.size) W v es := by
  obtain ⟨fs, hu, hone, hty⟩ := oneRecord
  obtain ⟨xs, n, hn, -, hlen, hxl, hf⟩ := DataW.trod_struct hu h
  rw [cellsRecord] at hlen
  match cs, hlen with
  | [c0, c1, c2], _ =>
    have hsz : fs.size = 3 := by have := congrArg Array.size hty; simpa using this
    have hfield : ∀ (i : Nat) (T : TypeId), i < 3 → (#[3, 9, 22] : Array TypeId)[i]? = some T → ∃ y, DataW.trod enc Tryd.prog W 0 spare held n T (([c0, c1, c2].drop i).take 1) = some y := by
      intro i T hi hT
      have hfi : fs[i]? = some (fs[i]'(by omega)) := Array.getElem?_eq_getElem (by omega)
      obtain ⟨ho, hc⟩ := hone_of hone i _ hfi
      have := hf i _ hfi
      rw [ho, hc] at this
      have hTT : (fs[i]'(by omega)).type = T := by
        rw [← hty] at hT
        simpa [hsz, hi] using hT
      rw [hTT] at this
      exact ⟨xs[i]'(by omega), by rw [this]; exact List.getElem?_eq_getElem (by omega)⟩
    obtain ⟨y0, h0⟩ := hfield 0 _ (by omega) rfl
    obtain ⟨y1, h1⟩ := hfield 1 _ (by omega) rfl
    obtain ⟨y2, h2⟩ := hfield 2 _ (by omega) rfl
    simp only [List.drop_succ_cons, List.drop_zero, List.take_succ_cons, List.take_zero] at h0 h1 h2
    obtain ⟨p, e0, -, w0⟩ := DataW.trod_int Tryd.underlying3 h0
    obtain ⟨k, e1, -, w1⟩ := DataW.trod_string Tryd.underlying9 h1
    obtain ⟨es, h2'⟩ := evs_of_trod h2
    simp only [List.cons.injEq, and_true] at e0 e1
    subst e0 e1
    unfold maxLen at w1
    have hw0 : I64 p := by have := bounds_i64 w0; exact ⟨by omega, by omega⟩
    exact ⟨p, k, c2, es, rfl, by simpa using w1, hw0, h2'⟩
end
end Go.Proofs.YtbigchdhpdgicaaDoor

/- The cells of the table treeFields, off what the row lists of it. No conditions. -/

namespace Go.Proofs.YtbigchdhpdgicaaDoor
open Go Go.RowKit Go.ChangeShapes Go.WideShapes Go.ChangeAt Go.Deep

theorem gTab : Tryd.prog.globalNamed "loop.example/teagle/impl.treeFields" = some 0 := by kernel_rfl
theorem gTabType : (Tryd.prog.globals[0]?).map (·.type) = some 116 := by kernel_rfl
theorem cellsHas : Tryd.prog.cellsOf 115 = 4 := by kernel_rfl
theorem cellsTab : Tryd.prog.cellsOf 116 = 28 := by kernel_rfl
theorem oneHas : ∃ fs : Array Field, Tryd.prog.underlying 115 = some (.struct fs) ∧ oneCellFields Tryd.prog fs = true ∧ fs.map (·.type) = #[4, 4, 4, 4] := ⟨_, Tryd.underlying115, by kernel_rfl, by kernel_rfl⟩

section
variable {H : Type} {enc : TypeId × Value → H} {W : World} {spare : Nat → Bool} {held : Bool}
set_option maxRecDepth 100000 in
theorem has_of_trod {fuel : Nat} {cs : List Value} {x : DataW H × List MemPlace} (h : DataW.trod enc Tryd.prog W 0 spare held fuel 115 cs = some x) :
    ∃ b0 b1 b2 b3 : Bool, cs = [.bool b0, .bool b1, .bool b2, .bool b3] ∧ x.1 = .agg [.lit (.bool b0), .lit (.bool b1), .lit (.bool b2), .lit (.bool b3)] := by
  obtain ⟨fs, hu, hone, hty⟩ := oneHas
  obtain ⟨xs, n, hn, hx, hlen, hxl, hf⟩ := DataW.trod_struct hu h
  rw [cellsHas] at hlen
  match cs, hlen with
  | [c0, c1, c2, c3], _ =>
    have hsz : fs.size = 4 := by have := congrArg Array.size hty; simpa using this
    have hfield : ∀ (i : Nat), (hi : i < 4) → DataW.trod enc Tryd.prog W 0 spare held n 4 (([c0, c1, c2, c3].drop i).take 1) = some (xs[i]'(by omega)) := by
      intro i hi
      have hfi : fs[i]? = some (fs[i]'(by omega)) := Array.getElem?_eq_getElem (by omega)
      obtain ⟨ho, hc⟩ := hone_of hone i _ hfi
      have := hf i _ hfi
      rw [ho, hc] at this
      have hTT : (fs[i]'(by omega)).type = 4 := by
        have e : (fs.map (·.type))[i]? = some ((fs[i]'(by omega)).type) := by simp [hsz, hi]
        rw [hty] at e
        rcases (show i = 0 ∨ i = 1 ∨ i = 2 ∨ i = 3 by omega) with rfl | rfl | rfl | rfl <;> simpa using e.symm
      rw [hTT] at this
      rw [this]; exact List.getElem?_eq_getElem (by omega)
    obtain ⟨b0, e0, f0⟩ := DataW.trod_bool Tryd.underlying4 (hfield 0 (by omega))
    obtain ⟨b1, e1, f1⟩ := DataW.trod_bool Tryd.underlying4 (hfield 1 (by omega))
    obtain ⟨b2, e2, f2⟩ := DataW.trod_bool Tryd.underlying4 (hfield 2 (by omega))
    obtain ⟨b3, e3, f3⟩ := DataW.trod_bool Tryd.underlying4 (hfield 3 (by omega))
    simp only [List.drop_succ_cons, List.drop_zero, List.take_succ_cons, List.take_zero, List.cons.injEq, and_true] at e0 e1 e2 e3
    refine ⟨b0, b1, b2, b3, by rw [e0, e1, e2, e3], ?_⟩
    obtain ⟨x0, x1, x2, x3, hxs⟩ : ∃ x0 x1 x2 x3, xs = [x0, x1, x2, x3] := by
      match xs, hxl.trans hsz with
      | [x0, x1, x2, x3], _ => exact ⟨x0, x1, x2, x3, rfl⟩
    subst hxs
    simp only [List.getElem_cons_zero, List.getElem_cons_succ] at f0 f1 f2 f3
    rw [hx, f0, f1, f2, f3]
    rfl
end

set_option maxRecDepth 100000 in
theorem tab_of_laid {W : World} (h : laidMetH Tryd.prog [("loop.example/teagle/impl.treeFields", Rows.laid_loop_example_teagle_impl_treeFields)] W) : Tab W := by
  rw [MakeChecks.laidMetH_plain _ _ _ (by kernel_rfl)] at h
  obtain ⟨ps, ⟨g0, t0, cs0, f0, p0, q0, hg0, ht0, hv0, hd0, _, _⟩, _, _⟩ := h
  obtain rfl := Option.some.inj (gTab.symm.trans hg0)
  obtain rfl := Option.some.inj (gTabType.symm.trans ht0)
  obtain ⟨xs, m, -, hx, hlen, hxl, hel⟩ := DataW.trod_array Tryd.underlying116 hd0
  rw [cellsHas] at hel
  rw [cellsTab] at hlen
  have hcell := World.var?_cell hg0 hv0
  have key : ∀ i, (hi : i < 7) → ∃ b0 b1 b2 b3 : Bool, (cs0.toList.drop (i * 4)).take 4 = [.bool b0, .bool b1, .bool b2, .bool b3] ∧ (xs[i]'(by omega)).1 = .agg [.lit (.bool b0), .lit (.bool b1), .lit (.bool b2), .lit (.bool b3)] := fun i hi => by
    have := hel i hi
    rw [List.getElem?_eq_getElem (by omega)] at this
    exact has_of_trod this
  obtain ⟨x0, x1, x2, x3, x4, x5, x6, hxs⟩ : ∃ x0 x1 x2 x3 x4 x5 x6, xs = [x0, x1, x2, x3, x4, x5, x6] := by
    match xs, hxl with
    | [x0, x1, x2, x3, x4, x5, x6], _ => exact ⟨x0, x1, x2, x3, x4, x5, x6, rfl⟩
  subst hxs
  simp only [Prod.mk.injEq, Rows.laid_loop_example_teagle_impl_treeFields, DataW.agg.injEq, List.map_cons, List.map_nil, List.cons.injEq, and_true] at hx
  obtain ⟨⟨g0, g1, g2, g3, g4, g5, g6⟩, -⟩ := hx
  obtain ⟨l⟩ := cs0
  simp only at hlen hcell key
  have cellk : ∀ i j, j < 4 → l[i * 4 + j]? = ((l.drop (i * 4)).take 4)[j]? := fun i j hj => by
    rw [List.getElem?_take_of_lt hj, List.getElem?_drop]
  obtain ⟨a0, a1, a2, a3, l0, d0⟩ := key 0 (by omega)
  simp only [List.getElem_cons_zero] at d0
  rw [d0] at g0
  simp only [DataW.agg.injEq, List.cons.injEq, DataW.lit.injEq, Lit.bool.injEq, and_true] at g0
  obtain ⟨rfl, rfl, rfl, rfl⟩ := g0
  obtain ⟨a0, a1, a2, a3, l1, d1⟩ := key 1 (by omega)
  simp only [List.getElem_cons_zero, List.getElem_cons_succ] at d1
  rw [d1] at g1
  simp only [DataW.agg.injEq, List.cons.injEq, DataW.lit.injEq, Lit.bool.injEq, and_true] at g1
  obtain ⟨rfl, rfl, rfl, rfl⟩ := g1
  obtain ⟨a0, a1, a2, a3, l2, d2⟩ := key 2 (by omega)
  simp only [List.getElem_cons_zero, List.getElem_cons_succ] at d2
  rw [d2] at g2
  simp only [DataW.agg.injEq, List.cons.injEq, DataW.lit.injEq, Lit.bool.injEq, and_true] at g2
  obtain ⟨rfl, rfl, rfl, rfl⟩ := g2
  obtain ⟨a0, a1, a2, a3, l3, d3⟩ := key 3 (by omega)
  simp only [List.getElem_cons_zero, List.getElem_cons_succ] at d3
  rw [d3] at g3
  simp only [DataW.agg.injEq, List.cons.injEq, DataW.lit.injEq, Lit.bool.injEq, and_true] at g3
  obtain ⟨rfl, rfl, rfl, rfl⟩ := g3
  obtain ⟨a0, a1, a2, a3, l4, d4⟩ := key 4 (by omega)
  simp only [List.getElem_cons_zero, List.getElem_cons_succ] at d4
  rw [d4] at g4
  simp only [DataW.agg.injEq, List.cons.injEq, DataW.lit.injEq, Lit.bool.injEq, and_true] at g4
  obtain ⟨rfl, rfl, rfl, rfl⟩ := g4
  obtain ⟨a0, a1, a2, a3, l5, d5⟩ := key 5 (by omega)
  simp only [List.getElem_cons_zero, List.getElem_cons_succ] at d5
  rw [d5] at g5
  simp only [DataW.agg.injEq, List.cons.injEq, DataW.lit.injEq, Lit.bool.injEq, and_true] at g5
  obtain ⟨rfl, rfl, rfl, rfl⟩ := g5
  obtain ⟨a0, a1, a2, a3, l6, d6⟩ := key 6 (by omega)
  simp only [List.getElem_cons_zero, List.getElem_cons_succ] at d6
  rw [d6] at g6
  simp only [DataW.agg.injEq, List.cons.injEq, DataW.lit.injEq, Lit.bool.injEq, and_true] at g6
  obtain ⟨rfl, rfl, rfl, rfl⟩ := g6
  have hc' : ∀ k, W.cell? ⟨0, k, none⟩ = l[k]? := fun k => (hcell k).trans (by simp)
  intro k hk
  rw [hc' k]
  have hcase : k = 0 ∨ k = 1 ∨ k = 2 ∨ k = 3 ∨ k = 4 ∨ k = 5 ∨ k = 6 ∨ k = 7 ∨ k = 8 ∨ k = 9 ∨ k = 10 ∨ k = 11 ∨ k = 12 ∨ k = 13 ∨ k = 14 ∨ k = 15 ∨ k = 16 ∨ k = 17 ∨ k = 18 ∨ k = 19 ∨ k = 20 ∨ k = 21 ∨ k = 22 ∨ k = 23 ∨ k = 24 ∨ k = 25 ∨ k = 26 ∨ k = 27 := by omega
  rcases hcase with rfl | rfl | rfl | rfl | rfl | rfl | rfl | rfl | rfl | rfl | rfl | rfl | rfl | rfl | rfl | rfl | rfl | rfl | rfl | rfl | rfl | rfl | rfl | rfl | rfl | rfl | rfl | rfl
  · exact (cellk 0 0 (by omega)).trans (congrArg (fun q => q[0]?) l0)
  · exact (cellk 0 1 (by omega)).trans (congrArg (fun q => q[1]?) l0)
  · exact (cellk 0 2 (by omega)).trans (congrArg (fun q => q[2]?) l0)
  · exact (cellk 0 3 (by omega)).trans (congrArg (fun q => q[3]?) l0)
  · exact (cellk 1 0 (by omega)).trans (congrArg (fun q => q[0]?) l1)
  · exact (cellk 1 1 (by omega)).trans (congrArg (fun q => q[1]?) l1)
  · exact (cellk 1 2 (by omega)).trans (congrArg (fun q => q[2]?) l1)
  · exact (cellk 1 3 (by omega)).trans (congrArg (fun q => q[3]?) l1)
  · exact (cellk 2 0 (by omega)).trans (congrArg (fun q => q[0]?) l2)
  · exact (cellk 2 1 (by omega)).trans (congrArg (fun q => q[1]?) l2)
  · exact (cellk 2 2 (by omega)).trans (congrArg (fun q => q[2]?) l2)
  · exact (cellk 2 3 (by omega)).trans (congrArg (fun q => q[3]?) l2)
  · exact (cellk 3 0 (by omega)).trans (congrArg (fun q => q[0]?) l3)
  · exact (cellk 3 1 (by omega)).trans (congrArg (fun q => q[1]?) l3)
  · exact (cellk 3 2 (by omega)).trans (congrArg (fun q => q[2]?) l3)
  · exact (cellk 3 3 (by omega)).trans (congrArg (fun q => q[3]?) l3)
  · exact (cellk 4 0 (by omega)).trans (congrArg (fun q => q[0]?) l4)
  · exact (cellk 4 1 (by omega)).trans (congrArg (fun q => q[1]?) l4)
  · exact (cellk 4 2 (by omega)).trans (congrArg (fun q => q[2]?) l4)
  · exact (cellk 4 3 (by omega)).trans (congrArg (fun q => q[3]?) l4)
  · exact (cellk 5 0 (by omega)).trans (congrArg (fun q => q[0]?) l5)
  · exact (cellk 5 1 (by omega)).trans (congrArg (fun q => q[1]?) l5)
  · exact (cellk 5 2 (by omega)).trans (congrArg (fun q => q[2]?) l5)
  · exact (cellk 5 3 (by omega)).trans (congrArg (fun q => q[3]?) l5)
  · exact (cellk 6 0 (by omega)).trans (congrArg (fun q => q[0]?) l6)
  · exact (cellk 6 1 (by omega)).trans (congrArg (fun q => q[1]?) l6)
  · exact (cellk 6 2 (by omega)).trans (congrArg (fun q => q[2]?) l6)
  · exact (cellk 6 3 (by omega)).trans (congrArg (fun q => q[3]?) l6)
end Go.Proofs.YtbigchdhpdgicaaDoor
