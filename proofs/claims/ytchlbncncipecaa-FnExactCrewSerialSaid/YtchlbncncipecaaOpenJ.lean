/- What is read of jobs that come in are jobs that lie in memory. No conditions. -/
import Derived.Test.YtchlbncncipecaaOpenZ
import Derived.Test.YtchlbncncipecaaJbDat
import Derived.Deep.Fields
import Derived.Deep.Slices
namespace Go.Proofs.Ytchlbncncipecaa
open Go Go.RowKit Go.ChangeShapes Go.WideShapes Go.ChangeAt Go.Deep

theorem cellsJob : Try.prog.cellsOf 81 = 2 := by kernel_rfl
theorem oneJob : ∃ fs : Array Field, Try.prog.underlying 81 = some (.struct fs) ∧ oneCellFields Try.prog fs = true ∧ fs.map (·.type) = #[25, 3] := ⟨_, Try.underlying81, by kernel_rfl, by kernel_rfl⟩

section
variable {H : Type} {enc : TypeId × Value → H} {W : World} {spare : Nat → Bool} {held : Bool}

set_option maxRecDepth 100000 in
theorem job_of_trod {fuel : Nat} {cs : List Value} {x : DataW H × List MemPlace} (h : DataW.trod enc Try.prog W 0 spare held fuel 81 cs = some x) :
    ∃ (j : Jb) (a : Option Addr) (c : Nat), cs = [.slice a j.items.length c, .int .i64 j.bad] ∧ ZsAt (fun b => b < W.heap.size) W (.slice a j.items.length c) j.items ∧ I64 j.bad := by
  obtain ⟨fs, hu, hone, hty⟩ := oneJob
  obtain ⟨xs, n, hn, -, hlen, hxl, hf⟩ := DataW.trod_struct hu h
  rw [cellsJob] at hlen
  match cs, hlen with
  | [c0, c1], _ =>
    have hsz : fs.size = 2 := by have := congrArg Array.size hty; simpa using this
    have hfield : ∀ (i : Nat) (T : TypeId), i < 2 → (#[25, 3] : Array TypeId)[i]? = some T → ∃ y, DataW.trod enc Try.prog W 0 spare held n T (([c0, c1].drop i).take 1) = some y := by
      intro i T hi hT
      have hfi : fs[i]? = some (fs[i]'(by omega)) := Array.getElem?_eq_getElem (by omega)
      obtain ⟨ho, hc⟩ := hone_of hone i _ hfi
      have := hf i _ hfi
      rw [ho, hc] at this
      have hTT : (fs[i]'(by omega)).type = T := by
        rw [← hty] at hT
        simpa [hsz, hi] using hT
      rw [hTT] at this
      exact ⟨xs[i]'(by omega), by rw [this]; exact List.getElem?_eq_getElem (by omega)⟩
    obtain ⟨y0, h0⟩ := hfield 0 _ (by omega) rfl
    obtain ⟨y1, h1⟩ := hfield 1 _ (by omega) rfl
    simp only [List.drop_succ_cons, List.drop_zero, List.take_succ_cons, List.take_zero] at h0 h1
    obtain ⟨zs, hz⟩ := ints_of_trod h0
    obtain ⟨m, e1, -, w1⟩ := DataW.trod_int Try.underlying3 h1
    simp only [List.cons.injEq, and_true] at e1
    subst e1
    have hz' := hz
    obtain ⟨a, c, rfl, -, -⟩ := hz'
    have hw1 : I64 m := by have := bounds_i64 w1; exact ⟨by omega, by omega⟩
    exact ⟨⟨zs, m⟩, a, c, rfl, hz, hw1⟩

set_option maxRecDepth 100000 in
theorem jobs_of_trod {fuel : Nat} {v : Value} {x : DataW H × List MemPlace} (h : DataW.trod enc Try.prog W 0 spare held fuel 43 [v] = some x) :
    ∃ js : List Jb, JbsAt (fun b => b < W.heap.size) W v js := by
  rcases DataW.trod_slice Try.underlying43 h with ⟨hcs, -⟩ | ⟨a, len, cap, elems, rest, n', hn', hcs, -, -, hl, hm, hel, hget, -⟩
  · simp only [List.cons.injEq, and_true] at hcs
    exact ⟨[], none, 0, hcs, by simp, fun i hi => by simp at hi⟩
  · simp only [List.cons.injEq, and_true] at hcs
    unfold maxLen at hm
    rw [cellsJob] at hget
    have hspot : 0 < len → a.spot = none := fun h0 => by
      have hgi := hget 0 h0
      rw [List.getElem?_eq_getElem (by omega)] at hgi
      obtain ⟨cs', hcs', htr⟩ := Option.bind_eq_some_iff.1 hgi
      obtain ⟨-, hl5, hcell⟩ := World.cells?_some hcs'
      have hc0 := hcell 0 (by omega)
      rw [List.getElem?_eq_getElem (by omega)] at hc0
      simpa [Addr.add] using World.cell?_spot hc0
    have hkid : ∀ i, i < len → ∃ j : Jb, ∃ b o, a = ⟨b, o, none⟩ ∧ b < W.heap.size ∧ JbOne (fun b => b < W.heap.size) W b (o + i * 2) j := by
      intro i hi
      have hgi := hget i hi
      rw [List.getElem?_eq_getElem (by omega)] at hgi
      obtain ⟨cs', hcs', htr⟩ := Option.bind_eq_some_iff.1 hgi
      obtain ⟨j, au, cu, rfl, hz, hbad⟩ := job_of_trod htr
      obtain ⟨-, -, hcell⟩ := World.cells?_some hcs'
      obtain ⟨b, off, spot⟩ := a
      have hsp : spot = none := hspot (by omega)
      subst hsp
      have hc0 := hcell 0 (by omega)
      have hc1 := hcell 1 (by omega)
      simp only [Addr.add_lit, List.getElem?_cons_zero, List.getElem?_cons_succ, Nat.add_zero] at hc0 hc1
      exact ⟨j, b, off, rfl, World.block_lt_of_cell? W _ hc0, au, cu, hc0, hc1, hz, hbad⟩
    obtain ⟨K, hK⟩ : ∃ K : Nat → Jb, ∀ i, i < len → ∃ b o, a = ⟨b, o, none⟩ ∧ b < W.heap.size ∧ JbOne (fun b => b < W.heap.size) W b (o + i * 2) (K i) :=
      ⟨fun i => if h : i < len then (hkid i h).choose else ⟨[], 0⟩, fun i hi => by simp only [hi, dif_pos]; exact (hkid i hi).choose_spec⟩
    refine ⟨(List.range len).map K, some a, cap, by simpa using hcs, by simp; omega, fun i hi => ?_⟩
    have hi' : i < len := by simpa using hi
    obtain ⟨b, o, ha, hb, hj⟩ := hK i hi'
    exact ⟨b, o, by rw [ha], hb, by simpa using hj⟩
end
end Go.Proofs.Ytchlbncncipecaa
