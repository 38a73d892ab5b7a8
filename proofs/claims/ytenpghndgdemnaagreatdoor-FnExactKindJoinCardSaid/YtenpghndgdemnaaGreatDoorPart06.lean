/- The walk of the program's namesOfBoth: the names of two lists, in order and each once. Conditions: at most 1000 names in each. -/
import Derived.Test.YtenpghndgdemnaaGreatDoorPart03
import Derived.Test.YtenpghndgdemnaaGreatDoorPart04
import Derived.Test.YtenpghndgdemnaaGreatDoorPart05
import Derived.Sort.Grow
import Derived.Handy
import Derived.Test.YtenpghndgdemnaaGreatDoorPart01
import Derived.Laws.EntriesVeiled
import Derived.Deep.CutRange
namespace Go.Proofs.YtenpghndgdemnaaGreatDoor
open Go Go.RowKit

theorem below_put {α : Type} [Inhabited α] {n0 : Nat} {w W : World} (h : Below n0 w W) (enc : α → Value) (g off : Nat) (d : Array α) (hg : n0 ≤ g) : Below n0 w (Sort.putRow enc W g off d) :=
  ⟨h.os, h.tape, h.output, by rw [Sort.size_putRow]; exact h.size, fun b hb => by
    unfold Sort.putRow Sort.mapBlock
    simp only
    rw [Array.getElem?_modify, if_neg (by omega)]
    exact h.block b hb⟩
theorem below_ahead {n0 : Nat} {w W : World} (h : Below n0 w W) (m : Nat) : Below n0 w (Sort.ahead W m) := ⟨h.os, h.tape, h.output, h.size, h.block⟩
theorem below_grow {n0 : Nat} {w W : World} (h : Below n0 w W) (hn : n0 ≤ W.heap.size) (os : Array Obj) : Below n0 w (Sort.grow W os) :=
  ⟨h.os, h.tape, h.output, by rw [Sort.size_grow]; have := h.size; omega, fun b hb => by rw [Sort.heap_grow_old _ _ (by omega)]; exact h.block b hb⟩
theorem own_holds {W : World} {base g n cap : Nat} {ns : List ByteArray} (h : W.ownsRow base 9 1 (.slice (some ⟨g, 0, none⟩) n cap) n (ns.map Value.string)) : Sort.Holds encStr W g 0 (ns.map ByteArray.toList).toArray := fun j hj => by
  have hj' : j < ns.length := by simpa using hj
  have hc := h.cells (g := g) rfl j (.string ns[j]) (by simp [hj'])
  rw [Addr.add_lit] at hc
  refine ⟨?_, ?_⟩
  · rw [hc]
    simp [hj', encStr, ba_of]
  · rcases h.2 with ⟨hv, _⟩ | ⟨g', c', u', hv, _, hh, _⟩
    · cases hv
    · simp only [Value.slice.injEq, Option.some.injEq, Addr.mk.injEq] at hv
      obtain ⟨⟨rfl, -, -⟩, -, -⟩ := hv
      unfold World.frozen?
      rw [hh]
      simp
theorem uniN_get {an bn : List ByteArray} {i : Nat} (hi : i < (uniN an bn).length) (hi' : i < (uniL an bn).length) : (uniN an bn)[i] = ⟨((uniL an bn)[i]).toArray⟩ := by
  unfold uniN
  exact List.getElem_map _
theorem uniL_le (an bn : List ByteArray) : (uniL an bn).length ≤ (srtS ((an ++ bn).map ByteArray.toList)).length := by
  have := uniL_len an bn
  rw [srtS_len]
  simpa using this
set_option maxRecDepth 100000 in
set_option maxHeartbeats 1600000 in
theorem namesOfBoth_any (an bn : List ByteArray) (a1 a2 : Option Addr) (n1 n2 p1 p2 : Nat) (w : World)
    (h1 : StrsAt (fun b => b < w.heap.size) w (.slice a1 n1 p1) an) (h2 : StrsAt (fun b => b < w.heap.size) w (.slice a2 n2 p2) bn) (hn1 : n1 ≤ 1000) (hn2 : n2 ≤ 1000) :
    Calls Tryz.prog 93 #[.slice a1 n1 p1, .slice a2 n2 p2] w fun e w' => Below w.heap.size w w' ∧ ∃ a cap, e = .returned (.slice a (uniN an bn).length cap) ∧ StrsAt (New w w') w' (.slice a (uniN an bn).length cap) (uniN an bn) := by
  have hb0 : Below w.heap.size w (w.alloc (.cells #[.slice a1 n1 p1, .slice a2 n2 p2] 23)) := (Below.refl _ _).alloc (Nat.le_refl _) _
  have hs0 : (w.alloc (.cells #[.slice a1 n1 p1, .slice a2 n2 p2] 23)).heap.size = w.heap.size + 1 := by simp
  have hS0 : (w.alloc (.cells #[.slice a1 n1 p1, .slice a2 n2 p2] 23)).cell? ⟨w.heap.size, 0, none⟩ = some (.slice a1 n1 p1) := by simp
  have hS1 : (w.alloc (.cells #[.slice a1 n1 p1, .slice a2 n2 p2] 23)).cell? ⟨w.heap.size, 1, none⟩ = some (.slice a2 n2 p2) := by simp
  have hnn1 := (strs_src h1).1
  have hnn2 := (strs_src h2).1
  have hzs : ∀ nm, nm ∈ uniN an bn → nm.size ≤ 9223372036854775807 := fun nm hm => by
    rcases (uniN_mem nm).1 hm with h | h
    · obtain ⟨_, _, _, _, hc⟩ := h1
      obtain ⟨i, hi, rfl⟩ := List.mem_iff_getElem.1 h
      obtain ⟨_, _, _, _, _, hz⟩ := hc i hi
      exact hz
    · obtain ⟨_, _, _, _, hc⟩ := h2
      obtain ⟨i, hi, rfl⟩ := List.mem_iff_getElem.1 h
      obtain ⟨_, _, _, _, _, hz⟩ := hc i hi
      exact hz
  have hcc := concat_two an bn w.heap.size a1 a2 n1 n2 p1 p2 (w.alloc (.cells #[.slice a1 n1 p1, .slice a2 n2 p2] 23)) hS0 hS1 (by omega) (h1.carry (fun b hb => hb0.block b hb) (fun _ h => by omega)) (h2.carry (fun b hb => hb0.block b hb) (fun _ h => by omega)) hn1 hn2
  have HCC := hide hcc; have HB0 := hide hb0; have HS0 := hide hs0; have HN1 := hide hnn1; have HN2 := hide hnn2; have HL1 := hide hn1; have HL2 := hide hn2; have HZS := hide hzs
  clear hcc hb0 hs0 hS0 hS1 hnn1 hnn2 hn1 hn2 h1 h2 hzs
  go_enter Tryz.func93, Tryz.ntmps93
  go_wp2_with fail
  refine (unhide HCC).mono ?_
  rintro e W1 ⟨hb1, a, cap, rfl, ho1⟩
  have hb1' : Below w.heap.size w W1 := (unhide HB0).trans (hb1.mono (by rw [unhide HS0]; omega))
  have hW1 : w.heap.size + 1 ≤ W1.heap.size := by have := hb1.size; rw [unhide HS0] at this; exact this
  rw [unhide HS0] at ho1
  rcases Nat.eq_zero_or_pos (n1 + n2) with h0 | h0
  · have hu : uniN an bn = [] := by
      have h3 := uniN_len an bn
      have h4 := uniL_len an bn
      have := unhide HN1; have := unhide HN2
      exact List.eq_nil_of_length_eq_zero (by omega)
    rw [h0]
    have HB1 := hide hb1'
    have HU := hide hu
    clear hb1 hb1' ho1 hu HCC HB0
    go_wp2_with (first
      | (go_at_call 103; refine (Tryz.slices_Sort_string_none a cap W1).mono ?_; rintro e W2 ⟨rfl, hw2⟩; have hw3 := hw2.symm; subst hw3)
      | (go_at_call 104; refine (Tryz.slices_Compact_string_empty a cap W1).mono ?_; rintro e W2 ⟨rfl, hw2⟩; have hw3 := hw2.symm; subst hw3))
    go_ret
    rw [unhide HU]
    exact ⟨unhide HB1, a, cap, rfl, a, cap, rfl, by simp, fun i hi => by simp at hi⟩
  · obtain ⟨g, rfl⟩ : ∃ g, a = some ⟨g, 0, none⟩ := by
      rcases ho1.2 with ⟨-, h⟩ | ⟨g, _, _, hv, _⟩
      · omega
      · simp only [Value.slice.injEq] at hv
        exact ⟨g, hv.1⟩
    have hgl := ho1.lt g rfl
    have hcap : n1 + n2 ≤ cap := own_capU ho1
    have hlen : n1 + n2 = ((an ++ bn).map ByteArray.toList).length := by
      have := unhide HN1; have := unhide HN2
      simp; omega
    have hH := own_holds ho1
    have HB1 := hide hb1'; have HH := hide hH; have HGL := hide hgl; have HCAP := hide hcap; have HLEN := hide hlen
    have hsrt := Tryz.slices_Sort_string g 0 cap ((an ++ bn).map ByteArray.toList) W1 hH hgl.2 (by have := unhide HL1; have := unhide HL2; omega)
    rw [← hlen] at hsrt
    have hcmp : ∀ W, Sort.Holds encStr W g 0 (srtS ((an ++ bn).map ByteArray.toList)).toArray → Calls Tryz.prog 104 #[.slice (some ⟨g, 0, none⟩) (n1 + n2) cap] W fun e w' => e = .returned (.slice (some ⟨g, 0, none⟩) (uniL an bn).length cap) ∧ ∃ q, w' = Sort.putRow encStr (Sort.ahead W q) g 0 (uniL an bn ++ List.replicate ((srtS ((an ++ bn).map ByteArray.toList)).length - (uniL an bn).length) []).toArray := fun W hW => by
      have := Tryz.slices_Compact_string g 0 cap (srtS ((an ++ bn).map ByteArray.toList)) W hW (by rw [srtS_len, ← hlen]; have := unhide HL1; have := unhide HL2; omega) (by rw [srtS_len, ← hlen]; exact hcap)
      rw [srtS_len, ← hlen] at this
      rw [srtS_len, ← hlen]
      exact this
    have HSRT := hide hsrt; have HCMP := hide hcmp
    clear hsrt hcmp hH hgl hcap hlen hb1 hb1' ho1 HCC HB0 h0
    go_wp2_with fail
    refine (unhide HSRT).mono ?_
    rintro e W2 ⟨rfl, m, os, hW2⟩
    have hlt1 : g < (Sort.putRow encStr (Sort.ahead W1 m) g 0 (srtS ((an ++ bn).map ByteArray.toList)).toArray).heap.size := by rw [Sort.size_putRow]; exact (unhide HGL).2
    have hsz1 : (srtS ((an ++ bn).map ByteArray.toList)).toArray.size = ((an ++ bn).map ByteArray.toList).toArray.size := by rw [List.size_toArray, List.size_toArray, srtS_len]
    have hH2 : Sort.Holds encStr W2 g 0 (srtS ((an ++ bn).map ByteArray.toList)).toArray := by
      rw [hW2]
      exact Sort.holds_grow encStr _ os g 0 _ hlt1 (Sort.holds_putRow encStr (Sort.ahead W1 m) g 0 _ (srtS ((an ++ bn).map ByteArray.toList)).toArray (unhide HH) hsz1)
    have hb2 : Below w.heap.size w W2 := by
      rw [hW2]
      exact below_grow (below_put (below_ahead (unhide HB1) m) encStr g 0 _ (by have := (unhide HGL).1; omega)) (by rw [Sort.size_putRow]; exact (unhide HB1).size) os
    have hlt2 : g < W2.heap.size := by rw [hW2, Sort.size_grow]; exact Nat.lt_of_lt_of_le hlt1 (Nat.le_add_right _ _)
    have HH2 := hide hH2; have HB2 := hide hb2; have HLT2 := hide hlt2
    clear hW2 hlt1 hsz1 hH2 hb2 hlt2 HSRT HH HB1
    go_wp2_with fail
    refine (unhide HCMP W2 (unhide HH2)).mono ?_
    rintro e W3 ⟨rfl, q, hW3⟩
    have hul := uniL_le an bn
    have hsz2 : (uniL an bn ++ List.replicate ((srtS ((an ++ bn).map ByteArray.toList)).length - (uniL an bn).length) []).toArray.size = (srtS ((an ++ bn).map ByteArray.toList)).toArray.size := by
      rw [List.size_toArray, List.size_toArray, List.length_append, List.length_replicate]; omega
    have hH3 : Sort.Holds encStr W3 g 0 (uniL an bn ++ List.replicate ((srtS ((an ++ bn).map ByteArray.toList)).length - (uniL an bn).length) []).toArray := by
      rw [hW3]
      exact Sort.holds_putRow encStr (Sort.ahead W2 q) g 0 _ _ (unhide HH2) hsz2
    have hb3 : Below w.heap.size w W3 := by
      rw [hW3]
      exact below_put (below_ahead (unhide HB2) q) encStr g 0 _ (by have := (unhide HGL).1; omega)
    have hlt3 : g < W3.heap.size := by rw [hW3, Sort.size_putRow]; exact unhide HLT2
    have HB3 := hide hb3
    have HST : Hid (StrsAt (New w W3) W3 (.slice (some ⟨g, 0, none⟩) (uniN an bn).length cap) (uniN an bn)) := by
      have h5 := uniN_len an bn
      have h6 := uniL_len an bn
      refine ⟨_, _, rfl, by have := unhide HN1; have := unhide HN2; have := unhide HL1; have := unhide HL2; omega, fun i hi => ⟨g, 0, rfl, ⟨by have := (unhide HGL).1; omega, hlt3⟩, ?_, unhide HZS _ (List.getElem_mem hi)⟩⟩
      have hi' : i < (uniL an bn).length := by omega
      have h7 := (hH3 i (by rw [hsz2, List.size_toArray]; omega)).1
      rw [h7, uniN_get hi hi']
      simp [hi', List.getElem!_eq_getElem?_getD, List.getElem?_append_left hi']
    have HUN := hide (uniN_len an bn)
    clear hW3 hul hsz2 hH3 hb3 hlt3 HB2 HCMP HH2 HLT2
    go_wp2_with fail
    go_ret
    rw [← unhide HUN]
    exact ⟨unhide HB3, _, _, rfl, unhide HST⟩
end Go.Proofs.YtenpghndgdemnaaGreatDoor

/- The table of the program's widenings, as newWidenings lays it. No conditions. -/

namespace Go.Proofs.YtenpghndgdemnaaGreatDoor
open Go Go.RowKit

theorem row_rep (w : World) (n : Nat) (v : Value) (t : TypeId) : (w.alloc (.cells (List.replicate n v).toArray t)).rowIs w.heap.size t n (fun _ => v) := by
  have h := World.rowIs_alloc w (List.replicate n v).toArray t (fun _ => v) (fun i hi => by
    have hi' : i < n := by simpa using hi
    simp [hi'])
  simpa using h
end Go.Proofs.YtenpghndgdemnaaGreatDoor
