/- What is read of a crew's world that comes in is one that lies in memory. No conditions. -/
import Derived.Test.YtibgjcejddpldaaGreatPart34
import Derived.Test.YtibgjcejddpldaaGreatPart07
namespace Go.Proofs.YtibgjcejddpldaaGreat
open Go Go.RowKit Go.ChangeShapes Go.WideShapes Go.ChangeAt Go.Deep

theorem cellsIntC : Tryz.prog.cellsOf 3 = 1 := by kernel_rfl
theorem cellsHandC : Tryz.prog.cellsOf 110 = 2 := by kernel_rfl
theorem cellsWorldC : Tryz.prog.cellsOf 45 = 18 := by kernel_rfl
theorem oneHandC : ∃ fs : Array Field, Tryz.prog.underlying 110 = some (.struct fs) ∧ oneCellFields Tryz.prog fs = true ∧ fs.map (·.type) = #[3, 3] := ⟨_, Tryz.underlying110, by kernel_rfl, by kernel_rfl⟩
theorem oneWorldC : ∃ fs : Array Field, Tryz.prog.underlying 45 = some (.struct fs) ∧ oneCellFields Tryz.prog fs = true ∧ fs.map (·.type) = #[3, 3, 3, 3, 3, 23, 43, 3, 23, 3, 23, 3, 23, 3, 23, 3, 23, 3] := ⟨_, Tryz.underlying45, by kernel_rfl, by kernel_rfl⟩
section
variable {H : Type} {enc : TypeId × Value → H} {W : World} {spare : Nat → Bool} {held : Bool}
theorem int_of_trodC (fuel : Nat) (l : List Value) (x : DataW H × List MemPlace) (h : DataW.trod enc Tryz.prog W 0 spare held fuel 3 l = some x) : ∃ e : Int, l = zcs e ∧ True := by
  obtain ⟨k, e, -, -⟩ := DataW.trod_int Tryz.underlying3 h
  exact ⟨k, e, trivial⟩
theorem hand_of_trodC (fuel : Nat) (l : List Value) (x : DataW H × List MemPlace) (h : DataW.trod enc Tryz.prog W 0 spare held fuel 110 l = some x) : ∃ e : Hd, l = e.cs ∧ True := by
  obtain ⟨hl, n, hf⟩ := fields_of (k := 2) rfl oneHandC h
  rw [cellsHandC] at hl
  match l, hl with
  | [c0, c1], _ =>
    obtain ⟨y0, h0⟩ := hf 0 _ (by omega) rfl
    obtain ⟨y1, h1⟩ := hf 1 _ (by omega) rfl
    simp only [List.drop_succ_cons, List.drop_zero, List.take_succ_cons, List.take_zero] at h0 h1
    obtain ⟨s, e0, -, -⟩ := DataW.trod_int Tryz.underlying3 h0
    obtain ⟨j, e1, -, -⟩ := DataW.trod_int Tryz.underlying3 h1
    simp only [List.cons.injEq, and_true] at e0 e1
    subst e0 e1
    exact ⟨⟨s, j⟩, rfl, trivial⟩
theorem ints_of_trodC {fuel : Nat} {v : Value} {x : DataW H × List MemPlace} (h : DataW.trod enc Tryz.prog W 0 spare held fuel 23 [v] = some x) : ∃ zs : List Int, ZAt (fun b => b < W.heap.size) W v zs := by
  obtain ⟨es, h1, -⟩ := flat_of_trod zcs (fun _ => True) 3 23 1 (by omega) (fun _ => rfl) Tryz.underlying23 cellsIntC int_of_trodC h
  exact ⟨es, h1⟩
theorem hands_of_trodC {fuel : Nat} {v : Value} {x : DataW H × List MemPlace} (h : DataW.trod enc Tryz.prog W 0 spare held fuel 43 [v] = some x) : ∃ zs : List Hd, HAt (fun b => b < W.heap.size) W v zs := by
  obtain ⟨es, h1, -⟩ := flat_of_trod Hd.cs (fun _ => True) 110 43 2 (by omega) (fun _ => rfl) Tryz.underlying43 cellsHandC hand_of_trodC h
  exact ⟨es, h1⟩
set_option maxRecDepth 100000 in
set_option maxHeartbeats 1600000 in
theorem cw_of_trod (fuel : Nat) (cs : List Value) (x : DataW H × List MemPlace) (h : DataW.trod enc Tryz.prog W 0 spare held fuel 45 cs = some x) : ∃ (c : Cw) (A : A7), cs = [.int .i64 c.jobs, .int .i64 c.workers, .int .i64 c.window, .int .i64 c.next, .int .i64 c.reader, .slice A.q c.queue.length A.pq, .slice A.h c.hands.length A.ph, .int .i64 c.closer, .slice A.r c.results.length A.pr, .int .i64 c.keeper, .slice A.g c.ring.length A.pg, .int .i64 c.due, .slice A.o c.out.length A.po, .int .i64 c.user, .slice A.t c.got.length A.pt, .int .i64 c.room, .slice A.s c.shut.length A.ps, .int .i64 c.ops] ∧ CwAt (fun b => b < W.heap.size) W c (A.v c) := by
  obtain ⟨hl, n, hf⟩ := fields_of (k := 18) rfl oneWorldC h
  rw [cellsWorldC] at hl
  match cs, hl with
  | [c0, c1, c2, c3, c4, c5, c6, c7, c8, c9, c10, c11, c12, c13, c14, c15, c16, c17], _ =>
    obtain ⟨y0, h0⟩ := hf 0 _ (by omega) rfl
    obtain ⟨y1, h1⟩ := hf 1 _ (by omega) rfl
    obtain ⟨y2, h2⟩ := hf 2 _ (by omega) rfl
    obtain ⟨y3, h3⟩ := hf 3 _ (by omega) rfl
    obtain ⟨y4, h4⟩ := hf 4 _ (by omega) rfl
    obtain ⟨y5, h5⟩ := hf 5 _ (by omega) rfl
    obtain ⟨y6, h6⟩ := hf 6 _ (by omega) rfl
    obtain ⟨y7, h7⟩ := hf 7 _ (by omega) rfl
    obtain ⟨y8, h8⟩ := hf 8 _ (by omega) rfl
    obtain ⟨y9, h9⟩ := hf 9 _ (by omega) rfl
    obtain ⟨y10, h10⟩ := hf 10 _ (by omega) rfl
    obtain ⟨y11, h11⟩ := hf 11 _ (by omega) rfl
    obtain ⟨y12, h12⟩ := hf 12 _ (by omega) rfl
    obtain ⟨y13, h13⟩ := hf 13 _ (by omega) rfl
    obtain ⟨y14, h14⟩ := hf 14 _ (by omega) rfl
    obtain ⟨y15, h15⟩ := hf 15 _ (by omega) rfl
    obtain ⟨y16, h16⟩ := hf 16 _ (by omega) rfl
    obtain ⟨y17, h17⟩ := hf 17 _ (by omega) rfl
    clear hf h
    simp only [List.drop_succ_cons, List.drop_zero, List.take_succ_cons, List.take_zero] at h0 h1 h2 h3 h4 h5 h6 h7 h8 h9 h10 h11 h12 h13 h14 h15 h16 h17
    obtain ⟨x0, e0, -, -⟩ := DataW.trod_int Tryz.underlying3 h0
    obtain ⟨x1, e1, -, -⟩ := DataW.trod_int Tryz.underlying3 h1
    obtain ⟨x2, e2, -, -⟩ := DataW.trod_int Tryz.underlying3 h2
    obtain ⟨x3, e3, -, -⟩ := DataW.trod_int Tryz.underlying3 h3
    obtain ⟨x4, e4, -, -⟩ := DataW.trod_int Tryz.underlying3 h4
    obtain ⟨x5, z5⟩ := ints_of_trodC h5
    obtain ⟨x6, z6⟩ := hands_of_trodC h6
    obtain ⟨x7, e7, -, -⟩ := DataW.trod_int Tryz.underlying3 h7
    obtain ⟨x8, z8⟩ := ints_of_trodC h8
    obtain ⟨x9, e9, -, -⟩ := DataW.trod_int Tryz.underlying3 h9
    obtain ⟨x10, z10⟩ := ints_of_trodC h10
    obtain ⟨x11, e11, -, -⟩ := DataW.trod_int Tryz.underlying3 h11
    obtain ⟨x12, z12⟩ := ints_of_trodC h12
    obtain ⟨x13, e13, -, -⟩ := DataW.trod_int Tryz.underlying3 h13
    obtain ⟨x14, z14⟩ := ints_of_trodC h14
    obtain ⟨x15, e15, -, -⟩ := DataW.trod_int Tryz.underlying3 h15
    obtain ⟨x16, z16⟩ := ints_of_trodC h16
    obtain ⟨x17, e17, -, -⟩ := DataW.trod_int Tryz.underlying3 h17
    simp only [List.cons.injEq, and_true] at e0 e1 e2 e3 e4 e7 e9 e11 e13 e15 e17
    subst e0 e1 e2 e3 e4 e7 e9 e11 e13 e15 e17
    have hc : CwAt (fun b => b < W.heap.size) W ⟨x0, x1, x2, x3, x4, x5, x6, x7, x8, x9, x10, x11, x12, x13, x14, x15, x16, x17⟩ ⟨c5, c6, c8, c10, c12, c14, c16⟩ := ⟨z5, z6, z8, z10, z12, z14, z16⟩
    obtain ⟨A, hA⟩ := hc.addr
    rw [hA] at hc
    simp only [A7.v, C7.mk.injEq] at hA
    obtain ⟨a5, a6, a8, a10, a12, a14, a16⟩ := hA
    subst a5 a6 a8 a10 a12 a14 a16
    exact ⟨_, A, rfl, hc⟩
end
end Go.Proofs.YtibgjcejddpldaaGreat
