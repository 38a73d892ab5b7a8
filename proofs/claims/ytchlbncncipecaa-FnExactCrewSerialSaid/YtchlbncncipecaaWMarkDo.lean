/- The walks of the law's markDiskFileS, markDiskMoveS, markDisk over a disk that owns its memory: what is marked then, and that nothing else turns. The marks count to at most 2^40. -/
import Derived.Test.YtchlbncncipecaaWMark
import Derived.Test.YtchlbncncipecaaDkOwn
import Derived.Test.YtchlbncncipecaaWMarkDk
namespace Go.Proofs.Ytchlbncncipecaa
open Go Go.RowKit

/-- The cells of a block, none of them frozen. -/
def CellsAre (w : World) (b N : Nat) (f : Nat → Value) : Prop := FreeB w b ∧ ∀ q, q < N → w.cell? ⟨b, q, none⟩ = some (f q)
theorem CellsAre.of_block {w w' : World} {b N : Nat} {f : Nat → Value} (h : CellsAre w b N f) (e : w'.heap[b]? = w.heap[b]?) : CellsAre w' b N f :=
  ⟨h.1.of_block e, fun q hq => by rw [World.cell?_of_block (w := w) (a := ⟨b, q, none⟩) e]; exact h.2 q hq⟩
def partF (f g : Nat → Value) (p : Nat) : Nat → Value := fun q => if q < p then f q else g q
theorem CellsAre.step {w : World} {b N : Nat} {f g : Nat → Value} {p : Nat} (h : CellsAre w b N (partF f g p)) (hp : p < N) (u : Value) (hu : u = f p) : CellsAre (w.setCell ⟨b, p, none⟩ u) b N (partF f g (p + 1)) := by
  refine ⟨h.1.set _ _, fun q hq => ?_⟩
  by_cases e : q = p
  · subst e
    rw [World.cell?_setCell_same w _ u (h.2 q hq)]
    unfold partF; rw [if_pos (by omega), hu]
  · rw [World.cell?_setCell_other w _ _ u (by intro e2; cases e2; exact e rfl), h.2 q hq]
    unfold partF
    by_cases h2 : q < p
    · rw [if_pos h2, if_pos (by omega)]
    · rw [if_neg h2, if_neg (by omega)]

/-- What stands in the cells of marked files, of marked moves. -/
def mkF (k q : Nat) : Value := if q % 3 = 2 then .int .i64 ((k + q : Nat) : Int) else .string (mtx (k + q))
def mkM (k q : Nat) : Value := if q % 2 = 0 then .bool (((k + q : Nat) : Int).tmod 3 == 0) else .string (mtx (k + q))
/-- Marked files, moves. -/
def mFs (k n : Nat) : List Df := (List.range n).map fun i => ⟨mtx (k + 3 * i), mtx (k + 3 * i + 1), ((k + 3 * i + 2 : Nat) : Int)⟩
def mMs (k n : Nat) : List Dm := (List.range n).map fun i => ⟨((k + 2 * i : Nat) : Int).tmod 3 == 0, mtx (k + 2 * i + 1)⟩
def mDk (k : Nat) (d : Dk) : Dk := ⟨mFs k d.files.length, mS (k + 3 * d.files.length) d.names, mMs (k + 3 * d.files.length + d.names.length) d.moves.length⟩

theorem FlatOwn.cells {w : World} {b n : Nat} {rs : List (List Value)} (h : ∀ i, (h : i < rs.length) → ∀ j, j < n → w.cell? ⟨b, i * n + j, none⟩ = some (rs[i].getD j undef)) (hf : FreeB w b) (hn : 0 < n) : CellsAre w b (rs.length * n) (fun q => (rs.getD (q / n) []).getD (q % n) undef) := by
  refine ⟨hf, fun q hq => ?_⟩
  have hi : q / n < rs.length := (Nat.div_lt_iff_lt_mul hn).2 hq
  have := h (q / n) hi (q % n) (Nat.mod_lt _ hn)
  rw [show q / n * n + q % n = q by rw [Nat.mul_comm]; exact Nat.div_add_mod q n] at this
  rw [this]
  simp [List.getD, hi]

theorem mFs_ok {k n : Nat} (hk : k + 3 * n ≤ 1099511627776) : ∀ f, f ∈ mFs k n → f.okM := fun f hf => by
  obtain ⟨i, hi, rfl⟩ := List.mem_map.1 hf
  rw [List.mem_range] at hi
  have h1 := mtx_size (k + 3 * i); have h2 := mtx_size (k + 3 * i + 1)
  exact ⟨by simp only; omega, by simp only; omega, ⟨by simp only; omega, by simp only; omega⟩⟩
theorem mMs_ok {k n : Nat} (hk : k + 2 * n ≤ 1099511627776) : ∀ f, f ∈ mMs k n → f.okM := fun f hf => by
  obtain ⟨i, hi, rfl⟩ := List.mem_map.1 hf
  rw [List.mem_range] at hi
  have h1 := mtx_size (k + 2 * i + 1)
  show (mtx (k + 2 * i + 1)).size ≤ _
  omega
theorem fs_of_cells {w : World} {b cap n k : Nat} {g : Nat → Value} (hlen : n ≤ 9223372036854775807) (h : CellsAre w b (n * 3) (partF (mkF k) g (n * 3))) (hk : k + 3 * n ≤ 1099511627776) : FsOwn w (.slice (some ⟨b, 0, none⟩) n cap) (mFs k n) [b] := by
  refine ⟨⟨some ⟨b, 0, none⟩, cap, by simp [mFs], by simpa [mFs] using hlen, Or.inr ⟨b, rfl, rfl, h.1, fun i hi j hj => ?_⟩⟩, mFs_ok hk⟩
  have hi' : i < n := by simpa [mFs] using hi
  rw [h.2 (i * 3 + j) (by omega)]
  unfold partF mkF
  rw [if_pos (by omega)]
  rcases (show j = 0 ∨ j = 1 ∨ j = 2 by omega) with rfl | rfl | rfl
  · rw [if_neg (by omega)]; simp [mFs, Df.cs, Nat.mul_comm]
  · rw [if_neg (by omega)]; simp [mFs, Df.cs, Nat.mul_comm, Nat.add_assoc]
  · rw [if_pos (by omega)]; simp [mFs, Df.cs, Nat.mul_comm, Nat.add_assoc]
theorem ms_of_cells {w : World} {b cap n k : Nat} {g : Nat → Value} (hlen : n ≤ 9223372036854775807) (h : CellsAre w b (n * 2) (partF (mkM k) g (n * 2))) (hk : k + 2 * n ≤ 1099511627776) : MsOwn w (.slice (some ⟨b, 0, none⟩) n cap) (mMs k n) [b] := by
  refine ⟨⟨some ⟨b, 0, none⟩, cap, by simp [mMs], by simpa [mMs] using hlen, Or.inr ⟨b, rfl, rfl, h.1, fun i hi j hj => ?_⟩⟩, mMs_ok hk⟩
  have hi' : i < n := by simpa [mMs] using hi
  rw [h.2 (i * 2 + j) (by omega)]
  unfold partF mkM
  rw [if_pos (by omega)]
  rcases (show j = 0 ∨ j = 1 by omega) with rfl | rfl
  · rw [if_pos (by omega)]; simp [mMs, Dm.cs, Nat.mul_comm]
  · rw [if_neg (by omega)]; simp [mMs, Dm.cs, Nat.mul_comm, Nat.add_assoc]

end Go.Proofs.Ytchlbncncipecaa
