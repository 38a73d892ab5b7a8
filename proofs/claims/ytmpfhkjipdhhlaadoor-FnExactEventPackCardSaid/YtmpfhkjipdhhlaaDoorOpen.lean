/- What is read of a tree that comes in is a tree that lies in memory. No conditions. -/
import Derived.Test.YtmpfhkjipdhhlaaDoorOpenS
namespace Go.Proofs.YtmpfhkjipdhhlaaDoor
open Go Go.RowKit Go.ChangeShapes Go.WideShapes Go.ChangeAt Go.Deep

theorem cellsTree : Tryd.prog.cellsOf 25 = 5 := by kernel_rfl
theorem oneTree : ∃ fs : Array Field, Tryd.prog.underlying 25 = some (.struct fs) ∧ oneCellFields Tryd.prog fs = true ∧ fs.map (·.type) = #[3, 3, 9, 22, 23] := ⟨_, Tryd.underlying25, by kernel_rfl, by kernel_rfl⟩

section
variable {H : Type} {enc : TypeId × Value → H} {W : World} {spare : Nat → Bool} {held : Bool}

set_option maxRecDepth 100000 in
theorem rep_of_trod : ∀ (fuel : Nat) (cs : List Value) (x : DataW H × List MemPlace), DataW.trod enc Tryd.prog W 0 spare held fuel 25 cs = some x →
    ∃ (t : Tr) (c : C5), cs = [c.c0, c.c1, c.c2, c.c3, c.c4] ∧ Rep (fun b => b < W.heap.size) W t c := by
  intro fuel
  induction fuel using Nat.strongRecOn with
  | ind fuel ih =>
    intro cs x h
    obtain ⟨fs, hu, hone, hty⟩ := oneTree
    obtain ⟨xs, n, hn, -, hlen, hxl, hf⟩ := DataW.trod_struct hu h
    rw [cellsTree] at hlen
    match cs, hlen with
    | [c0, c1, c2, c3, c4], _ =>
      have hsz : fs.size = 5 := by have := congrArg Array.size hty; simpa using this
      have hfield : ∀ (i : Nat) (T : TypeId), i < 5 → (#[3, 3, 9, 22, 23] : Array TypeId)[i]? = some T → ∃ y, DataW.trod enc Tryd.prog W 0 spare held n T (([c0, c1, c2, c3, c4].drop i).take 1) = some y := by
        intro i T hi hT
        have hfi : fs[i]? = some (fs[i]'(by omega)) := Array.getElem?_eq_getElem (by omega)
        obtain ⟨ho, hc⟩ := hone_of hone i _ hfi
        have := hf i _ hfi
        rw [ho, hc] at this
        have hTT : (fs[i]'(by omega)).type = T := by
          rw [← hty] at hT
          simpa [hsz, hi] using hT
        rw [hTT] at this
        exact ⟨xs[i]'(by omega), by rw [this]; exact List.getElem?_eq_getElem (by omega)⟩
      obtain ⟨y0, h0⟩ := hfield 0 _ (by omega) rfl
      obtain ⟨y1, h1⟩ := hfield 1 _ (by omega) rfl
      obtain ⟨y2, h2⟩ := hfield 2 _ (by omega) rfl
      obtain ⟨y3, h3⟩ := hfield 3 _ (by omega) rfl
      obtain ⟨y4, h4⟩ := hfield 4 _ (by omega) rfl
      simp only [List.drop_succ_cons, List.drop_zero, List.take_succ_cons, List.take_zero] at h0 h1 h2 h3 h4
      obtain ⟨s, e0, -, w0⟩ := DataW.trod_int Tryd.underlying3 h0
      obtain ⟨m, e1, -, w1⟩ := DataW.trod_int Tryd.underlying3 h1
      obtain ⟨tx, e2, -, w2⟩ := DataW.trod_string Tryd.underlying9 h2
      obtain ⟨ss, h3'⟩ := strs_of_trod h3
      simp only [List.cons.injEq, and_true] at e0 e1 e2
      have hw0 : I64 s := by have := bounds_i64 w0; exact ⟨by omega, by omega⟩
      have hw1 : I64 m := by have := bounds_i64 w1; exact ⟨by omega, by omega⟩
      unfold maxLen at w2
      rcases DataW.trod_slice Tryd.underlying23 h4 with ⟨hcs, -⟩ | ⟨a, len, cap, elems, rest, n', hn', hcs, -, -, hl, hm, hel, hget, -⟩
      · simp only [List.cons.injEq, and_true] at hcs
        refine ⟨.mk s m tx ss [], ⟨c0, c1, c2, c3, c4⟩, rfl, ?_⟩
        rw [Rep]
        exact ⟨e0, e1, e2, hw0, hw1, by simpa using w2, h3', none, 0, hcs, by simp, fun h => absurd rfl h⟩
      · simp only [List.cons.injEq, and_true] at hcs
        unfold maxLen at hm
        rw [cellsTree] at hget
        have hspot : 0 < len → a.spot = none := fun h0 => by
          have hgi := hget 0 h0
          rw [List.getElem?_eq_getElem (by omega)] at hgi
          obtain ⟨cs', hcs', htr⟩ := Option.bind_eq_some_iff.1 hgi
          obtain ⟨-, hl5, hcell⟩ := World.cells?_some hcs'
          have hc0 := hcell 0 (by omega)
          rw [List.getElem?_eq_getElem (by omega)] at hc0
          simpa [Addr.add] using World.cell?_spot hc0
        have hkid : ∀ i, i < len → ∃ (t : Tr) (c : C5), (∃ b o, a = ⟨b, o, none⟩ ∧ b < W.heap.size ∧ C5.at W b (o + i * 5) c) ∧ Rep (fun b => b < W.heap.size) W t c := by
          intro i hi
          have hgi := hget i hi
          rw [List.getElem?_eq_getElem (by omega)] at hgi
          obtain ⟨cs', hcs', htr⟩ := Option.bind_eq_some_iff.1 hgi
          obtain ⟨t, c, rfl, hrep⟩ := ih n' (by omega) cs' _ htr
          obtain ⟨-, -, hcell⟩ := World.cells?_some hcs'
          obtain ⟨b, off, spot⟩ := a
          have hsp : spot = none := hspot (by omega)
          subst hsp
          have hc0 := hcell 0 (by omega)
          have hc1 := hcell 1 (by omega); have hc2 := hcell 2 (by omega); have hc3 := hcell 3 (by omega); have hc4 := hcell 4 (by omega)
          simp only [Addr.add_lit, List.getElem?_cons_zero, List.getElem?_cons_succ, Nat.add_zero] at hc0 hc1 hc2 hc3 hc4
          exact ⟨t, c, ⟨b, off, rfl, World.block_lt_of_cell? W _ hc0, hc0, hc1, hc2, hc3, hc4⟩, hrep⟩
        obtain ⟨K, hK⟩ : ∃ K : Nat → Tr, ∀ i, i < len → ∃ c : C5, (∃ b o, a = ⟨b, o, none⟩ ∧ b < W.heap.size ∧ C5.at W b (o + i * 5) c) ∧ Rep (fun b => b < W.heap.size) W (K i) c :=
          ⟨fun i => if h : i < len then (hkid i h).choose else .mk 0 0 tx [] [], fun i hi => by simp only [hi, dif_pos]; exact (hkid i hi).choose_spec⟩
        refine ⟨.mk s m tx ss ((List.range len).map K), ⟨c0, c1, c2, c3, c4⟩, rfl, ?_⟩
        rw [Rep]
        refine ⟨e0, e1, e2, hw0, hw1, by simpa using w2, h3', some a, cap, by simpa using hcs, by simp; omega, fun hne => ?_⟩
        have h0len : 0 < len := by
          rcases Nat.eq_zero_or_pos len with h | h
          · subst h; exact absurd rfl hne
          · exact h
        obtain ⟨_, ⟨b, o, ha, hb, -⟩, -⟩ := hK 0 h0len
        subst ha
        refine ⟨b, o, rfl, hb, RepK.mk fun i hi => ?_⟩
        have hi' : i < len := by simpa using hi
        obtain ⟨c, ⟨b', o', ha', -, hat⟩, hr⟩ := hK i hi'
        simp only [Addr.mk.injEq, and_true] at ha'
        obtain ⟨rfl, rfl⟩ := ha'
        exact ⟨c, hat, by simpa using hr⟩
end
end Go.Proofs.YtmpfhkjipdhhlaaDoor
