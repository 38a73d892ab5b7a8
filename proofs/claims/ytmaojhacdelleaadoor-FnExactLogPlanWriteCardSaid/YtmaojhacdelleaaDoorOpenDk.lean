/- What is read of a disk that comes in is a disk that lies in memory. No conditions. -/
import Derived.Test.YtmaojhacdelleaaDoorOpenS
import Derived.Test.YtmaojhacdelleaaDoorDkDat
namespace Go.Proofs.YtmaojhacdelleaaDoor
open Go Go.RowKit Go.ChangeShapes Go.WideShapes Go.ChangeAt Go.Deep

section
variable {H : Type} {enc : TypeId × Value → H} {W : World} {spare : Nat → Bool} {held : Bool}

/-- A slice of rows of n cells each, whose elements are opened by 'op'. -/
theorem flat_of_trod {E : Type} [Inhabited E] (cs : E → List Value) (ok : E → Prop) (T S n : Nat) (hn : 0 < n) (hcl : ∀ e, (cs e).length = n) (hu : Tryd.prog.underlying S = some (.slice T)) (hc : Tryd.prog.cellsOf T = n)
    (op : ∀ (fuel : Nat) (l : List Value) (x : DataW H × List MemPlace), DataW.trod enc Tryd.prog W 0 spare held fuel T l = some x → ∃ e : E, l = cs e ∧ ok e)
    {fuel : Nat} {v : Value} {x : DataW H × List MemPlace} (h : DataW.trod enc Tryd.prog W 0 spare held fuel S [v] = some x) :
    ∃ es : List E, FlatAt (fun b => b < W.heap.size) W v n (es.map cs) ∧ ∀ e, e ∈ es → ok e := by
  rcases DataW.trod_slice hu h with ⟨hcs, -⟩ | ⟨a, len, cap, elems, rest, n', hn', hcs, -, -, hl, hm, hel, hget, -⟩
  · simp only [List.cons.injEq, and_true] at hcs
    exact ⟨[], ⟨none, 0, hcs, by simp, fun i hi => by simp at hi⟩, fun e he => by cases he⟩
  · simp only [List.cons.injEq, and_true] at hcs
    unfold maxLen at hm
    rw [hc] at hget
    have hspot : 0 < len → a.spot = none := fun h0 => by
      have hgi := hget 0 h0
      rw [List.getElem?_eq_getElem (by omega)] at hgi
      obtain ⟨cs', hcs', htr⟩ := Option.bind_eq_some_iff.1 hgi
      obtain ⟨-, hl5, hcell⟩ := World.cells?_some hcs'
      have hc0 := hcell 0 (by omega)
      rw [List.getElem?_eq_getElem (by omega)] at hc0
      simpa [Addr.add] using World.cell?_spot hc0
    have hkid : ∀ i, i < len → ∃ e : E, ok e ∧ ∃ b o, a = ⟨b, o, none⟩ ∧ b < W.heap.size ∧ ∀ j, j < n → W.cell? ⟨b, o + i * n + j, none⟩ = some ((cs e).getD j undef) := by
      intro i hi
      have hgi := hget i hi
      rw [List.getElem?_eq_getElem (by omega)] at hgi
      obtain ⟨cs', hcs', htr⟩ := Option.bind_eq_some_iff.1 hgi
      obtain ⟨e, rfl, he⟩ := op n' cs' _ htr
      obtain ⟨-, -, hcell⟩ := World.cells?_some hcs'
      obtain ⟨b, off, spot⟩ := a
      have hsp : spot = none := hspot (by omega)
      subst hsp
      have hj : ∀ j, j < n → W.cell? ⟨b, off + i * n + j, none⟩ = some ((cs e).getD j undef) := fun j hj => by
        have h1 := hcell j hj
        simp only [Addr.add_lit] at h1
        rw [h1, List.getElem?_eq_getElem (by rw [hcl]; exact hj), List.getD_eq_getElem?_getD, List.getElem?_eq_getElem (by rw [hcl]; exact hj)]
        rfl
      exact ⟨e, he, b, off, rfl, World.block_lt_of_cell? W _ (hj 0 hn), hj⟩
    obtain ⟨K, hK⟩ : ∃ K : Nat → E, ∀ i, i < len → ok (K i) ∧ ∃ b o, a = ⟨b, o, none⟩ ∧ b < W.heap.size ∧ ∀ j, j < n → W.cell? ⟨b, o + i * n + j, none⟩ = some ((cs (K i)).getD j undef) :=
      ⟨fun i => if h : i < len then (hkid i h).choose else default, fun i hi => by simp only [hi, dif_pos]; exact (hkid i hi).choose_spec⟩
    refine ⟨(List.range len).map K, ⟨some a, cap, by simpa using hcs, by simp; omega, fun i hi => ?_⟩, fun e he => ?_⟩
    · have hi' : i < len := by simpa using hi
      obtain ⟨-, b, o, ha, hb, hj⟩ := hK i hi'
      exact ⟨b, o, by rw [ha], hb, fun j hj' => by rw [hj j hj']; simp⟩
    · obtain ⟨i, hi, rfl⟩ := List.mem_map.1 he
      exact (hK i (by simpa using hi)).1

/-- The fields of a struct whose fields are one cell each. -/
theorem fields_of {T : Nat} {ts : Array TypeId} {k : Nat} (hk : ts.size = k) (hone : ∃ fs : Array Field, Tryd.prog.underlying T = some (.struct fs) ∧ oneCellFields Tryd.prog fs = true ∧ fs.map (·.type) = ts) {fuel : Nat} {cs : List Value} {x : DataW H × List MemPlace} (h : DataW.trod enc Tryd.prog W 0 spare held fuel T cs = some x) :
    cs.length = Tryd.prog.cellsOf T ∧ ∃ n, ∀ (i : Nat) (U : TypeId), i < k → ts[i]? = some U → ∃ y, DataW.trod enc Tryd.prog W 0 spare held n U ((cs.drop i).take 1) = some y := by
  obtain ⟨fs, hu, hone, hty⟩ := hone
  obtain ⟨xs, n, hn, -, hlen, hxl, hf⟩ := DataW.trod_struct hu h
  refine ⟨hlen, n, fun i U hi hT => ?_⟩
  have hsz : fs.size = k := by have := congrArg Array.size hty; rw [hk] at this; simpa using this
  have hfi : fs[i]? = some (fs[i]'(by omega)) := Array.getElem?_eq_getElem (by omega)
  obtain ⟨ho, hc⟩ := hone_of hone i _ hfi
  have := hf i _ hfi
  rw [ho, hc] at this
  have hTT : (fs[i]'(by omega)).type = U := by
    rw [← hty] at hT
    simpa [hsz, hi] using hT
  rw [hTT] at this
  exact ⟨xs[i]'(by omega), by rw [this]; exact List.getElem?_eq_getElem (by omega)⟩

instance : Inhabited Df := ⟨⟨ByteArray.empty, ByteArray.empty, 0⟩⟩
instance : Inhabited Dm := ⟨⟨false, ByteArray.empty⟩⟩
end
end Go.Proofs.YtmaojhacdelleaaDoor
