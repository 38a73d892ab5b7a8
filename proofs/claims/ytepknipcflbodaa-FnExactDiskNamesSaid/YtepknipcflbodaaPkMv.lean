/- The list of the moves' function values while it grows: each with the box of its move. No conditions. -/
import Derived.Test.YtepknipcflbodaaPkD3
namespace Go.Proofs.Ytepknipcflbodaa
open Go Go.RowKit

def fcells (ms : List Dm) (Bs : List Nat) : List Value := List.zipWith (fun m B => mvF m.gone B) ms Bs
theorem fcells_len {ms : List Dm} {Bs : List Nat} (h : Bs.length = ms.length) : (fcells ms Bs).length = ms.length := by
  unfold fcells; rw [List.length_zipWith, h, Nat.min_self]
theorem fcells_snoc {ms : List Dm} {Bs : List Nat} (h : Bs.length = ms.length) (m : Dm) (B : Nat) : fcells (ms ++ [m]) (Bs ++ [B]) = fcells ms Bs ++ [mvF m.gone B] := by
  unfold fcells
  rw [List.zipWith_append h.symm]; rfl

structure Mvs (V : Nat) (W : World) (vm : Value) (ms : List Dm) (Bs : List Nat) : Prop where
  len : Bs.length = ms.length
  own : W.ownsRow (V + 1) 88 1 vm ms.length (fcells ms Bs)
  box : ∀ j (h : j < ms.length) (h2 : j < Bs.length), V + 1 ≤ Bs[j] ∧ W.heap[Bs[j]]? = some (.cells #[.bool ms[j].gone, .string ms[j].name] 51)
theorem Mvs.start (V : Nat) (W : World) : Mvs V W (.slice none 0 0) [] [] := ⟨rfl, ⟨rfl, Or.inl ⟨rfl, rfl⟩⟩, fun j h => by simp at h⟩
theorem Mvs.alloc {V : Nat} {W : World} {vm : Value} {ms : List Dm} {Bs : List Nat} (h : Mvs V W vm ms Bs) (o : Obj) : Mvs V (W.alloc o) vm ms Bs :=
  ⟨h.len, h.own.alloc o, fun j h1 h2 => ⟨(h.box j h1 h2).1, by
    have h3 := (h.box j h1 h2).2
    rw [Below.heap_alloc _ _ _ (Array.getElem?_eq_some_iff.1 h3).1]; exact h3⟩⟩
theorem Mvs.drew {V : Nat} {W : World} {vm : Value} {ms : List Dm} {Bs : List Nat} (h : Mvs V W vm ms Bs) : Mvs V W.drew vm ms Bs := ⟨h.len, h.own, h.box⟩
theorem Mvs.set {V : Nat} {W : World} {vm : Value} {ms : List Dm} {Bs : List Nat} (h : Mvs V W vm ms Bs) (o : Nat) (u : Value) : Mvs V (W.setCell ⟨V, o, none⟩ u) vm ms Bs :=
  ⟨h.len, ownsRow_setCell_below h.own (a := ⟨V, o, none⟩) (Nat.lt_succ_self V) u, fun j h1 h2 => ⟨(h.box j h1 h2).1, by
    rw [Below.heap_setCell _ _ _ _ (by have := (h.box j h1 h2).1; show Bs[j] ≠ V; omega)]; exact (h.box j h1 h2).2⟩⟩
theorem Mvs.snoc {V : Nat} {W W' : World} {vm vm' : Value} {ms : List Dm} {Bs : List Nat} (h : Mvs V W vm ms Bs) (m : Dm) (B : Nat) (hB : V + 1 ≤ B) (hbox : W.heap[B]? = some (.cells #[.bool m.gone, .string m.name] 51))
    (hown : W'.ownsRow (V + 1) 88 1 vm' (ms.length + 1) (fcells ms Bs ++ [mvF m.gone B])) (hg : W.grownBy W' vm.ownBlock) : Mvs V W' vm' (ms ++ [m]) (Bs ++ [B]) := by
  have hne : ∀ b m', W.heap[b]? = some (Obj.cells m' 51 (0, 0)) → vm.ownBlock ≠ some b := fun b m' hb e => by
    rcases h.own.2 with ⟨hv, _⟩ | ⟨g, cap, cur, hv, _, hh, _⟩
    · rw [hv] at e; cases e
    · rw [hv] at e
      simp only [Value.ownBlock, Option.some.injEq] at e
      subst e
      rw [hh] at hb
      simp only [Option.some.injEq, Obj.cells.injEq] at hb
      exact absurd hb.2.1 (by decide)
  have keep : ∀ (b : Nat) (m' : Array Value), W.heap[b]? = some (Obj.cells m' 51 (0, 0)) → W'.heap[b]? = some (Obj.cells m' 51 (0, 0)) := fun b m' hb => by
    rw [hg.block b (Array.getElem?_eq_some_iff.1 hb).1 (fun e => hne b m' hb e.symm)]; exact hb
  refine ⟨by simp [h.len], ?_, fun j h1 h2 => ?_⟩
  · rw [List.length_append, fcells_snoc h.len]; exact hown
  · by_cases hj : j < ms.length
    · have hj2 : j < Bs.length := by rw [h.len]; exact hj
      rw [List.getElem_append_left hj, List.getElem_append_left hj2]
      exact ⟨(h.box j hj hj2).1, keep _ _ (h.box j hj hj2).2⟩
    · have e : j = ms.length := by simp at h1; omega
      subst e
      have e2 : (Bs ++ [B])[ms.length]'h2 = B := by
        rw [List.getElem_append_right (by rw [h.len]; exact Nat.le_refl _)]; simp [h.len]
      have e3 : (ms ++ [m])[ms.length]'h1 = m := by simp
      rw [e2, e3]
      exact ⟨hB, keep _ _ hbox⟩
theorem Mvs.fns {V : Nat} {w W : World} {vm : Value} {ms : List Dm} {Bs : List Nat} (h : Mvs V W vm ms Bs) (hV : w.heap.size ≤ V) (hok : ∀ m, m ∈ ms → m.okM) : FnAt (New w W) W vm ms := by
  rcases h.own.2 with ⟨hv, h0⟩ | ⟨g, cap, cur, hv, hb, hh, hle, hm, hsz, htk⟩
  · exact ⟨none, 0, by rw [h0]; exact hv, ⟨by omega, fun _ => rfl⟩, by omega, fun i hi => by omega⟩
  · refine ⟨some ⟨g, 0, none⟩, cap, hv, ⟨hle, fun e => by cases e⟩, by unfold maxLen at hm; omega, fun i hi => ?_⟩
    have hi2 : i < Bs.length := by rw [h.len]; exact hi
    obtain ⟨b1, b2⟩ := h.box i hi hi2
    have b3 := (Array.getElem?_eq_some_iff.1 b2).1
    refine ⟨g, Bs[i], rfl, ⟨by omega, (Array.getElem?_eq_some_iff.1 hh).1⟩, ⟨by omega, b3⟩, ?_, ?_, hok _ (List.getElem_mem hi)⟩
    · have h1 : (fcells ms Bs)[i]? = some (mvF ms[i].gone Bs[i]) := by
        unfold fcells
        rw [List.getElem?_eq_getElem (by rw [List.length_zipWith]; omega), List.getElem_zipWith]
      rw [← htk, List.getElem?_take_of_lt (by omega)] at h1
      simp only [World.cell?, hh]
      simpa using h1
    · simp [World.cell?, b2]
end Go.Proofs.Ytepknipcflbodaa
