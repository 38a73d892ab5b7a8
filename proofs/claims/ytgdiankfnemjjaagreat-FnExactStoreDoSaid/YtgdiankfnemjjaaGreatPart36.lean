/- What is read of a disk that comes in is a disk that lies in memory. No conditions. -/
import Derived.Test.YtgdiankfnemjjaaGreatPart35
import Derived.Test.YtgdiankfnemjjaaGreatPart00
import Derived.Test.YtgdiankfnemjjaaGreatRows
import Derived.Test.YtgdiankfnemjjaaGreatPart07
import Derived.ProofKit
import Derived.OpenShut
namespace Go.Proofs.YtgdiankfnemjjaaGreat
open Go Go.RowKit Go.ChangeShapes Go.WideShapes Go.ChangeAt Go.Deep

section
variable {H : Type} {enc : TypeId × Value → H} {W : World} {spare : Nat → Bool} {held : Bool}

/-- A slice of rows of n cells each, whose elements are opened by 'op'. -/
theorem flat_of_trod {E : Type} [Inhabited E] (cs : E → List Value) (ok : E → Prop) (T S n : Nat) (hn : 0 < n) (hcl : ∀ e, (cs e).length = n) (hu : Tryz.prog.underlying S = some (.slice T)) (hc : Tryz.prog.cellsOf T = n)
    (op : ∀ (fuel : Nat) (l : List Value) (x : DataW H × List MemPlace), DataW.trod enc Tryz.prog W 0 spare held fuel T l = some x → ∃ e : E, l = cs e ∧ ok e)
    {fuel : Nat} {v : Value} {x : DataW H × List MemPlace} (h : DataW.trod enc Tryz.prog W 0 spare held fuel S [v] = some x) :
    ∃ es : List E, FlatAt (fun b => b < W.heap.size) W v n (es.map cs) ∧ ∀ e, e ∈ es → ok e := by
  rcases DataW.trod_slice hu h with ⟨hcs, -⟩ | ⟨a, len, cap, elems, rest, n', hn', hcs, -, -, hl, hm, hel, hget, -⟩
  · simp only [List.cons.injEq, and_true] at hcs
    exact ⟨[], ⟨none, 0, hcs, by simp, fun i hi => by simp at hi⟩, fun e he => by cases he⟩
  · simp only [List.cons.injEq, and_true] at hcs
    unfold maxLen at hm
    rw [hc] at hget
    have hspot : 0 < len → a.spot = none := fun h0 => by
      have hgi := hget 0 h0
      rw [List.getElem?_eq_getElem (by omega)] at hgi
      obtain ⟨cs', hcs', htr⟩ := Option.bind_eq_some_iff.1 hgi
      obtain ⟨-, hl5, hcell⟩ := World.cells?_some hcs'
      have hc0 := hcell 0 (by omega)
      rw [List.getElem?_eq_getElem (by omega)] at hc0
      simpa [Addr.add] using World.cell?_spot hc0
    have hkid : ∀ i, i < len → ∃ e : E, ok e ∧ ∃ b o, a = ⟨b, o, none⟩ ∧ b < W.heap.size ∧ ∀ j, j < n → W.cell? ⟨b, o + i * n + j, none⟩ = some ((cs e).getD j undef) := by
      intro i hi
      have hgi := hget i hi
      rw [List.getElem?_eq_getElem (by omega)] at hgi
      obtain ⟨cs', hcs', htr⟩ := Option.bind_eq_some_iff.1 hgi
      obtain ⟨e, rfl, he⟩ := op n' cs' _ htr
      obtain ⟨-, -, hcell⟩ := World.cells?_some hcs'
      obtain ⟨b, off, spot⟩ := a
      have hsp : spot = none := hspot (by omega)
      subst hsp
      have hj : ∀ j, j < n → W.cell? ⟨b, off + i * n + j, none⟩ = some ((cs e).getD j undef) := fun j hj => by
        have h1 := hcell j hj
        simp only [Addr.add_lit] at h1
        rw [h1, List.getElem?_eq_getElem (by rw [hcl]; exact hj), List.getD_eq_getElem?_getD, List.getElem?_eq_getElem (by rw [hcl]; exact hj)]
        rfl
      exact ⟨e, he, b, off, rfl, World.block_lt_of_cell? W _ (hj 0 hn), hj⟩
    obtain ⟨K, hK⟩ : ∃ K : Nat → E, ∀ i, i < len → ok (K i) ∧ ∃ b o, a = ⟨b, o, none⟩ ∧ b < W.heap.size ∧ ∀ j, j < n → W.cell? ⟨b, o + i * n + j, none⟩ = some ((cs (K i)).getD j undef) :=
      ⟨fun i => if h : i < len then (hkid i h).choose else default, fun i hi => by simp only [hi, dif_pos]; exact (hkid i hi).choose_spec⟩
    refine ⟨(List.range len).map K, ⟨some a, cap, by simpa using hcs, by simp; omega, fun i hi => ?_⟩, fun e he => ?_⟩
    · have hi' : i < len := by simpa using hi
      obtain ⟨-, b, o, ha, hb, hj⟩ := hK i hi'
      exact ⟨b, o, by rw [ha], hb, fun j hj' => by rw [hj j hj']; simp⟩
    · obtain ⟨i, hi, rfl⟩ := List.mem_map.1 he
      exact (hK i (by simpa using hi)).1

theorem cellsFile : Tryz.prog.cellsOf 79 = 3 := by kernel_rfl
theorem cellsMove : Tryz.prog.cellsOf 82 = 2 := by kernel_rfl
theorem cellsDisk : Tryz.prog.cellsOf 26 = 3 := by kernel_rfl
theorem oneFile : ∃ fs : Array Field, Tryz.prog.underlying 79 = some (.struct fs) ∧ oneCellFields Tryz.prog fs = true ∧ fs.map (·.type) = #[9, 9, 3] := ⟨_, Tryz.underlying79, by kernel_rfl, by kernel_rfl⟩
theorem oneMove : ∃ fs : Array Field, Tryz.prog.underlying 82 = some (.struct fs) ∧ oneCellFields Tryz.prog fs = true ∧ fs.map (·.type) = #[4, 9] := ⟨_, Tryz.underlying82, by kernel_rfl, by kernel_rfl⟩
theorem oneDisk : ∃ fs : Array Field, Tryz.prog.underlying 26 = some (.struct fs) ∧ oneCellFields Tryz.prog fs = true ∧ fs.map (·.type) = #[22, 23, 24] := ⟨_, Tryz.underlying26, by kernel_rfl, by kernel_rfl⟩

/-- The fields of a struct whose fields are one cell each. -/
theorem fields_of {T : Nat} {ts : Array TypeId} {k : Nat} (hk : ts.size = k) (hone : ∃ fs : Array Field, Tryz.prog.underlying T = some (.struct fs) ∧ oneCellFields Tryz.prog fs = true ∧ fs.map (·.type) = ts) {fuel : Nat} {cs : List Value} {x : DataW H × List MemPlace} (h : DataW.trod enc Tryz.prog W 0 spare held fuel T cs = some x) :
    cs.length = Tryz.prog.cellsOf T ∧ ∃ n, ∀ (i : Nat) (U : TypeId), i < k → ts[i]? = some U → ∃ y, DataW.trod enc Tryz.prog W 0 spare held n U ((cs.drop i).take 1) = some y := by
  obtain ⟨fs, hu, hone, hty⟩ := hone
  obtain ⟨xs, n, hn, -, hlen, hxl, hf⟩ := DataW.trod_struct hu h
  refine ⟨hlen, n, fun i U hi hT => ?_⟩
  have hsz : fs.size = k := by have := congrArg Array.size hty; rw [hk] at this; simpa using this
  have hfi : fs[i]? = some (fs[i]'(by omega)) := Array.getElem?_eq_getElem (by omega)
  obtain ⟨ho, hc⟩ := hone_of hone i _ hfi
  have := hf i _ hfi
  rw [ho, hc] at this
  have hTT : (fs[i]'(by omega)).type = U := by
    rw [← hty] at hT
    simpa [hsz, hi] using hT
  rw [hTT] at this
  exact ⟨xs[i]'(by omega), by rw [this]; exact List.getElem?_eq_getElem (by omega)⟩

instance : Inhabited Df := ⟨⟨ByteArray.empty, ByteArray.empty, 0⟩⟩
instance : Inhabited Dm := ⟨⟨false, ByteArray.empty⟩⟩
theorem file_of_trod (fuel : Nat) (l : List Value) (x : DataW H × List MemPlace) (h : DataW.trod enc Tryz.prog W 0 spare held fuel 79 l = some x) : ∃ e : Df, l = e.cs ∧ e.okM := by
  obtain ⟨hl, n, hf⟩ := fields_of (k := 3) rfl oneFile h
  rw [cellsFile] at hl
  match l, hl with
  | [c0, c1, c2], _ =>
    obtain ⟨y0, h0⟩ := hf 0 _ (by omega) rfl
    obtain ⟨y1, h1⟩ := hf 1 _ (by omega) rfl
    obtain ⟨y2, h2⟩ := hf 2 _ (by omega) rfl
    simp only [List.drop_succ_cons, List.drop_zero, List.take_succ_cons, List.take_zero] at h0 h1 h2
    obtain ⟨s0, e0, -, w0⟩ := DataW.trod_string Tryz.underlying9 h0
    obtain ⟨s1, e1, -, w1⟩ := DataW.trod_string Tryz.underlying9 h1
    obtain ⟨k, e2, -, w2⟩ := DataW.trod_int Tryz.underlying3 h2
    simp only [List.cons.injEq, and_true] at e0 e1 e2
    subst e0 e1 e2
    unfold maxLen at w0 w1
    have hw := bounds_i64 w2
    exact ⟨⟨s0, s1, k⟩, rfl, by simp only; omega, by simp only; omega, ⟨by simp only; omega, by simp only; omega⟩⟩
theorem move_of_trod (fuel : Nat) (l : List Value) (x : DataW H × List MemPlace) (h : DataW.trod enc Tryz.prog W 0 spare held fuel 82 l = some x) : ∃ e : Dm, l = e.cs ∧ e.okM := by
  obtain ⟨hl, n, hf⟩ := fields_of (k := 2) rfl oneMove h
  rw [cellsMove] at hl
  match l, hl with
  | [c0, c1], _ =>
    obtain ⟨y0, h0⟩ := hf 0 _ (by omega) rfl
    obtain ⟨y1, h1⟩ := hf 1 _ (by omega) rfl
    simp only [List.drop_succ_cons, List.drop_zero, List.take_succ_cons, List.take_zero] at h0 h1
    obtain ⟨g, e0, -⟩ := DataW.trod_bool Tryz.underlying4 h0
    obtain ⟨s1, e1, -, w1⟩ := DataW.trod_string Tryz.underlying9 h1
    simp only [List.cons.injEq, and_true] at e0 e1
    subst e0 e1
    unfold maxLen at w1
    exact ⟨⟨g, s1⟩, rfl, by show s1.size ≤ _; omega⟩
/-- What is read of a disk that comes in is one that lies in memory. -/
theorem dk_of_trod (fuel : Nat) (cs : List Value) (x : DataW H × List MemPlace) (h : DataW.trod enc Tryz.prog W 0 spare held fuel 26 cs = some x) : ∃ (d : Dk) (c : C3), cs = [c.c0, c.c1, c.c2] ∧ DkAt (fun b => b < W.heap.size) W d c := by
  obtain ⟨hl, n, hf⟩ := fields_of (k := 3) rfl oneDisk h
  rw [cellsDisk] at hl
  match cs, hl with
  | [c0, c1, c2], _ =>
    obtain ⟨y0, h0⟩ := hf 0 _ (by omega) rfl
    obtain ⟨y1, h1⟩ := hf 1 _ (by omega) rfl
    obtain ⟨y2, h2⟩ := hf 2 _ (by omega) rfl
    simp only [List.drop_succ_cons, List.drop_zero, List.take_succ_cons, List.take_zero] at h0 h1 h2
    obtain ⟨fs, hfs⟩ := flat_of_trod Df.cs Df.okM 79 22 3 (by omega) (fun _ => rfl) Tryz.underlying22 cellsFile file_of_trod h0
    obtain ⟨ns, hns⟩ := strs_of_trod h1
    obtain ⟨ms, hms⟩ := flat_of_trod Dm.cs Dm.okM 82 24 2 (by omega) (fun _ => rfl) Tryz.underlying24 cellsMove move_of_trod h2
    exact ⟨⟨fs, ns, ms⟩, ⟨c0, c1, c2⟩, rfl, ⟨hfs, hns, hms⟩⟩
end
end Go.Proofs.YtgdiankfnemjjaaGreat

/- What is read of a row of numbers that comes in is one that lies in memory. No conditions. -/

namespace Go.Proofs.YtgdiankfnemjjaaGreat
open Go Go.RowKit Go.ChangeShapes Go.WideShapes Go.ChangeAt

theorem cellsIntZ : Tryz.prog.cellsOf 3 = 1 := by kernel_rfl

section
variable {H : Type} {enc : TypeId × Value → H} {W : World} {spare : Nat → Bool} {held : Bool}

theorem ints_of_trod {fuel : Nat} {v : Value} {x : DataW H × List MemPlace} (h : DataW.trod enc Tryz.prog W 0 spare held fuel 28 [v] = some x) :
    ∃ l, ZsAt (fun b => b < W.heap.size) W v l := by
  rcases open_ints Tryz.underlying28 Tryz.underlying3 cellsIntZ h with ⟨hcs, -⟩ | ⟨a, len, cap, zs, hcs, -, hl, hm, hz, -, hcell, hws⟩
  · simp only [List.cons.injEq, and_true] at hcs
    exact ⟨[], none, 0, hcs, by simp, fun i hi => by simp at hi⟩
  · simp only [List.cons.injEq, and_true] at hcs
    have hle : len ≤ zs.length := by rw [hz]; split <;> omega
    unfold maxLen at hm
    have hlen : (zs.take len).length = len := by simp; omega
    refine ⟨zs.take len, some a, cap, by rw [hcs, hlen], by rw [hlen]; omega, fun i hi => ?_⟩
    have hi' : i < len := by rw [hlen] at hi; exact hi
    obtain ⟨b, off, spot⟩ := a
    have hspot : spot = none := by simpa [Addr.add] using World.cell?_spot (hcell 0 (by omega))
    subst hspot
    have hc := hcell i (by omega)
    rw [Addr.add_lit] at hc
    have hb := bounds_i64 (hws (zs[i]'(by omega)) (List.getElem_mem (by omega)))
    have e1 : zs.getD i 0 = zs[i]'(by omega) := by simp [show i < zs.length by omega]
    have e2 : ((zs.take len)[i]'hi) = zs[i]'(by omega) := by simp
    refine ⟨b, off, rfl, World.block_lt_of_cell? W _ hc, ?_, ?_⟩
    · rw [hc, e1, e2]
    · rw [e2]; exact ⟨by omega, by omega⟩
end
end Go.Proofs.YtgdiankfnemjjaaGreat
