/- What is read of an event that comes in is an event that lies in memory. No conditions. -/
import Derived.Test.YtmpfhkjipdhhlaaDoorOpen
namespace Go.Proofs.YtmpfhkjipdhhlaaDoor
open Go Go.RowKit Go.ChangeShapes Go.WideShapes Go.ChangeAt Go.Deep

theorem cellsEvent : Tryd.prog.cellsOf 27 = 7 := by kernel_rfl
theorem cellsStr1 : Tryd.prog.cellsOf 9 = 1 := by kernel_rfl
theorem cellsInt1 : Tryd.prog.cellsOf 3 = 1 := by kernel_rfl
theorem fieldsEvent : ∃ fs : Array Field, Tryd.prog.underlying 27 = some (.struct fs) ∧ fs.size = 3 ∧ (fs[0]?).map (fun f => (f.type, f.offset)) = some (9, 0) ∧ (fs[1]?).map (fun f => (f.type, f.offset)) = some (3, 1) ∧ (fs[2]?).map (fun f => (f.type, f.offset)) = some (25, 2) := ⟨_, Tryd.underlying27, by kernel_rfl, by kernel_rfl, by kernel_rfl, by kernel_rfl⟩

section
variable {H : Type} {enc : TypeId × Value → H} {W : World} {spare : Nat → Bool} {held : Bool}

set_option maxRecDepth 100000 in
theorem event_of_trod {fuel : Nat} {cs : List Value} {x : DataW H × List MemPlace} (h : DataW.trod enc Tryd.prog W 0 spare held fuel 27 cs = some x) :
    ∃ (ty : ByteArray) (ver : Int) (t : Tr) (c : C5), cs = [.string ty, .int .i64 ver, c.c0, c.c1, c.c2, c.c3, c.c4] ∧ ty.size ≤ 9223372036854775807 ∧ I64 ver ∧ Rep (fun b => b < W.heap.size) W t c := by
  obtain ⟨fs, hu, hsz, f0, f1, f2⟩ := fieldsEvent
  obtain ⟨xs, n, hn, hx, hlen, hxl, hf⟩ := DataW.trod_struct hu h
  rw [cellsEvent] at hlen
  match cs, hlen with
  | [a, b, c0, c1, c2, c3, c4], _ =>
    simp only [Option.map_eq_some_iff, Prod.mk.injEq] at f0 f1 f2
    obtain ⟨g0, h0, t0, o0⟩ := f0
    obtain ⟨g1, h1, t1, o1⟩ := f1
    obtain ⟨g2, h2, t2, o2⟩ := f2
    have e0 := hf 0 _ h0
    have e1 := hf 1 _ h1
    have e2 := hf 2 _ h2
    rw [t0, o0, cellsStr1, List.getElem?_eq_getElem (by omega)] at e0
    rw [t1, o1, cellsInt1, List.getElem?_eq_getElem (by omega)] at e1
    rw [t2, o2, cellsTree, List.getElem?_eq_getElem (by omega)] at e2
    simp only [List.drop_succ_cons, List.drop_zero, List.take_succ_cons, List.take_zero] at e0 e1 e2
    obtain ⟨ty, r0, -, w0⟩ := DataW.trod_string Tryd.underlying9 e0
    obtain ⟨ver, r1, -, w1⟩ := DataW.trod_int Tryd.underlying3 e1
    obtain ⟨t, c, r2, hrep⟩ := rep_of_trod n _ _ e2
    simp only [List.cons.injEq, and_true] at r0 r1
    subst r0 r1
    unfold maxLen at w0
    refine ⟨ty, ver, t, c, by rw [r2], by simpa using w0, ?_, hrep⟩
    have := bounds_i64 w1
    exact ⟨by omega, by omega⟩
end
end Go.Proofs.YtmpfhkjipdhhlaaDoor
