/- The numbers of a plan, sorted; the walk of the program's numbersOk. No conditions but that there are at most 40 parts. -/
import Derived.Test.YtmaojhacdelleaaDoorPlDat
import Derived.Test.YtmaojhacdelleaaDoorWPlS
import Derived.Test.YtmaojhacdelleaaDoorRow
import Derived.Test.YtmaojhacdelleaaDoorShelf
import Derived.Sort.Grow
import Derived.Handy
namespace Go.Proofs.YtmaojhacdelleaaDoor
open Go Go.RowKit

/-- The numbers in order. -/
def srt (zs : List Int) : List Int := zs.mergeSort fun x y => decide (x ≤ y)
theorem srt_len (zs : List Int) : (srt zs).length = zs.length := (List.mergeSort_perm zs _).length_eq
theorem nums_of {zs S : List Int} (hp : S.Perm zs) (hs : S.Pairwise fun (x y : Int) => decide (x ≤ y) = true) : numsOk zs ↔ ∀ i, (h : i < S.length) → (1 ≤ S[i] ∧ S[i] ≤ 999999) ∧ ∀ j, (hj : j + 1 = i) → S[j] ≠ S[i] := by
  have hs' := List.pairwise_iff_getElem.1 hs
  unfold numsOk
  constructor
  · rintro ⟨h1, h2⟩ i h
    have hnd := List.pairwise_iff_getElem.1 (hp.nodup_iff.2 h2)
    exact ⟨h1 _ (hp.mem_iff.1 (List.getElem_mem h)), fun j hj => hnd j i (by omega) h (by omega)⟩
  · intro h
    refine ⟨fun x hx => ?_, hp.nodup_iff.1 (List.pairwise_iff_getElem.2 fun i j hi hj hij => ?_)⟩
    · obtain ⟨i, hi, rfl⟩ := List.getElem_of_mem (hp.mem_iff.2 hx)
      exact (h i hi).1
    · have h1 := (h j hj).2 (j - 1) (by omega)
      have h2 := hs' (j - 1) j (by omega) hj (by omega)
      simp only [decide_eq_true_eq] at h2
      by_cases e : i = j - 1
      · subst e; exact h1
      · have h3 := hs' i (j - 1) (by omega) (by omega) (by omega)
        simp only [decide_eq_true_eq] at h3
        omega

theorem nums_sorted (zs : List Int) : numsOk zs ↔ ∀ i, (h : i < (srt zs).length) → (1 ≤ (srt zs)[i] ∧ (srt zs)[i] ≤ 999999) ∧ ∀ j, (hj : j + 1 = i) → (srt zs)[j] ≠ (srt zs)[i] :=
  nums_of (List.mergeSort_perm zs _) (List.pairwise_mergeSort (le := fun (x y : Int) => decide (x ≤ y)) (fun a b c h1 h2 => by simp at *; omega) (fun a b => by simp; omega) zs)

theorem infoIntW : (Tryd.prog.info? 3).map (fun i => (i.zero, i.size, i.bytes)) = some (some (.int .i64 0), 1, 8) := by kernel_rfl
theorem infoIntD : ∃ i, Tryd.prog.info? 3 = some i ∧ i.zero = some (.int .i64 0) ∧ i.size = 1 ∧ i.bytes = 8 := by
  have := infoIntW
  cases h : Tryd.prog.info? 3 with
  | none => rw [h] at this; simp at this
  | some i => rw [h] at this; exact ⟨i, rfl, by simpa using this⟩

/-- What has turned behind a sort: its row alone. -/
structure Sorted1 (g : Nat) (zs : List Int) (w w' : World) : Prop where
  os : w'.os = w.os
  tape : w'.tape = w.tape
  output : w'.output = w.output
  size : w.heap.size ≤ w'.heap.size
  block : ∀ b, b < w.heap.size → b ≠ g → w'.heap[b]? = w.heap[b]?
  cell : ∀ i, (h : i < zs.length) → w'.cell? ⟨g, i, none⟩ = some (.int .i64 zs[i])
theorem sort_any {base g n cap : Nat} {zs : List Int} {W : World} (h : W.ownsRow base 3 1 (.slice (some ⟨g, 0, none⟩) n cap) n (zs.map (Value.int .i64))) (hn : n = zs.length) (hl : zs.length ≤ 1000) :
    Calls Tryd.prog 23 #[.slice (some ⟨g, 0, none⟩) n cap] W fun e w' => e = .returned (.tuple #[]) ∧ Sorted1 g (srt zs) W w' := by
  subst hn
  have hg : g < W.heap.size := (h.lt g rfl).2
  have hH : Sort.Holds (Value.int .i64) W g 0 zs.toArray := fun j hj => by
    have hj' : j < zs.length := by simpa using hj
    have hc := h.cells (g := g) rfl j (.int .i64 zs[j]) (by simp [hj'])
    rw [Addr.add_lit] at hc
    refine ⟨by rw [hc]; simp [hj'], ?_⟩
    rcases h.2 with ⟨hv, _⟩ | ⟨g', c', u', hv, _, hh, _⟩
    · cases hv
    · simp only [Value.slice.injEq, Option.some.injEq, Addr.mk.injEq] at hv
      obtain ⟨⟨rfl, -, -⟩, -, -⟩ := hv
      unfold World.frozen?
      rw [hh]
      simp
  refine (Tryd.slices_Sort_int g 0 cap zs W hH hg (by omega)).mono ?_
  rintro e w' ⟨rfl, m, os, rfl⟩
  refine ⟨rfl, rfl, rfl, rfl, by simp [Sort.ahead], fun b hb hne => ?_, fun i hi => ?_⟩
  · rw [Sort.heap_grow_old _ _ (by simpa [Sort.ahead] using hb)]
    unfold Sort.putRow Sort.mapBlock
    simp only [Sort.ahead]
    rw [Array.getElem?_modify]
    simp [Ne.symm hne]
  · have hsz : (srt zs).toArray.size = zs.toArray.size := by simp [srt_len]
    have hlt : i < (srt zs).toArray.size := by simpa using hi
    rw [Sort.cell?_grow _ _ _ (by simpa [Sort.ahead] using hg)]
    have := Sort.cell?_putRow (Value.int .i64) (Sort.ahead W m) g 0 zs.toArray (srt zs).toArray (fun j hj => hH j hj) hsz i hlt
    rw [Nat.zero_add] at this
    show (Sort.putRow (Value.int .i64) (Sort.ahead W m) g 0 (srt zs).toArray).cell? ⟨g, i, none⟩ = _
    rw [this]
    simp [List.getElem?_eq_getElem hi]
end Go.Proofs.YtmaojhacdelleaaDoor
