/- The walk of the program's namesOfBoth: the names of two lists, in order and each once. Conditions: at most 1000 names in each. -/
import Derived.Test.YtenpghndgdemnaaGreatDoorPart13
import Derived.Test.YtenpghndgdemnaaGreatDoorPart14
import Derived.Test.YtenpghndgdemnaaGreatDoorPart15
import Derived.Sort.Grow
import Derived.Handy
import Derived.Test.YtenpghndgdemnaaGreatDoorPart09
import Derived.Test.YtenpghndgdemnaaGreatDoorPart00
import Derived.Laws.EntriesVeiled
import Derived.Deep.CutRange
import Derived.Test.YtenpghndgdemnaaGreatDoorPart10
import Derived.Test.YtenpghndgdemnaaGreatDoorPart03
import Derived.Test.YtenpghndgdemnaaGreatDoorPart06
import Derived.Deep.RegionHeld3
import Derived.Deep.RegionWith
namespace Go.Proofs.YtenpghndgdemnaaGreatDoor
open Go Go.RowKit

theorem below_put {α : Type} [Inhabited α] {n0 : Nat} {w W : World} (h : Below n0 w W) (enc : α → Value) (g off : Nat) (d : Array α) (hg : n0 ≤ g) : Below n0 w (Sort.putRow enc W g off d) :=
  ⟨h.os, h.tape, h.output, by rw [Sort.size_putRow]; exact h.size, fun b hb => by
    unfold Sort.putRow Sort.mapBlock
    simp only
    rw [Array.getElem?_modify, if_neg (by omega)]
    exact h.block b hb⟩
theorem below_ahead {n0 : Nat} {w W : World} (h : Below n0 w W) (m : Nat) : Below n0 w (Sort.ahead W m) := ⟨h.os, h.tape, h.output, h.size, h.block⟩
theorem below_grow {n0 : Nat} {w W : World} (h : Below n0 w W) (hn : n0 ≤ W.heap.size) (os : Array Obj) : Below n0 w (Sort.grow W os) :=
  ⟨h.os, h.tape, h.output, by rw [Sort.size_grow]; have := h.size; omega, fun b hb => by rw [Sort.heap_grow_old _ _ (by omega)]; exact h.block b hb⟩
theorem own_holds {W : World} {base g n cap : Nat} {ns : List ByteArray} (h : W.ownsRow base 9 1 (.slice (some ⟨g, 0, none⟩) n cap) n (ns.map Value.string)) : Sort.Holds encStr W g 0 (ns.map ByteArray.toList).toArray := fun j hj => by
  have hj' : j < ns.length := by simpa using hj
  have hc := h.cells (g := g) rfl j (.string ns[j]) (by simp [hj'])
  rw [Addr.add_lit] at hc
  refine ⟨?_, ?_⟩
  · rw [hc]
    simp [hj', encStr, ba_of]
  · rcases h.2 with ⟨hv, _⟩ | ⟨g', c', u', hv, _, hh, _⟩
    · cases hv
    · simp only [Value.slice.injEq, Option.some.injEq, Addr.mk.injEq] at hv
      obtain ⟨⟨rfl, -, -⟩, -, -⟩ := hv
      unfold World.frozen?
      rw [hh]
      simp
theorem uniN_get {an bn : List ByteArray} {i : Nat} (hi : i < (uniN an bn).length) (hi' : i < (uniL an bn).length) : (uniN an bn)[i] = ⟨((uniL an bn)[i]).toArray⟩ := by
  unfold uniN
  exact List.getElem_map _
theorem uniL_le (an bn : List ByteArray) : (uniL an bn).length ≤ (srtS ((an ++ bn).map ByteArray.toList)).length := by
  have := uniL_len an bn
  rw [srtS_len]
  simpa using this
set_option maxRecDepth 100000 in
set_option maxHeartbeats 1600000 in
theorem namesOfBoth_any (an bn : List ByteArray) (a1 a2 : Option Addr) (n1 n2 p1 p2 : Nat) (w : World)
    (h1 : StrsAt (fun b => b < w.heap.size) w (.slice a1 n1 p1) an) (h2 : StrsAt (fun b => b < w.heap.size) w (.slice a2 n2 p2) bn) (hn1 : n1 ≤ 1000) (hn2 : n2 ≤ 1000) :
    Calls Tryz.prog 93 #[.slice a1 n1 p1, .slice a2 n2 p2] w fun e w' => Below w.heap.size w w' ∧ ∃ a cap, e = .returned (.slice a (uniN an bn).length cap) ∧ StrsAt (New w w') w' (.slice a (uniN an bn).length cap) (uniN an bn) := by
  have hb0 : Below w.heap.size w (w.alloc (.cells #[.slice a1 n1 p1, .slice a2 n2 p2] 23)) := (Below.refl _ _).alloc (Nat.le_refl _) _
  have hs0 : (w.alloc (.cells #[.slice a1 n1 p1, .slice a2 n2 p2] 23)).heap.size = w.heap.size + 1 := by simp
  have hS0 : (w.alloc (.cells #[.slice a1 n1 p1, .slice a2 n2 p2] 23)).cell? ⟨w.heap.size, 0, none⟩ = some (.slice a1 n1 p1) := by simp
  have hS1 : (w.alloc (.cells #[.slice a1 n1 p1, .slice a2 n2 p2] 23)).cell? ⟨w.heap.size, 1, none⟩ = some (.slice a2 n2 p2) := by simp
  have hnn1 := (strs_src h1).1
  have hnn2 := (strs_src h2).1
  have hzs : ∀ nm, nm ∈ uniN an bn → nm.size ≤ 9223372036854775807 := fun nm hm => by
    rcases (uniN_mem nm).1 hm with h | h
    · obtain ⟨_, _, _, _, hc⟩ := h1
      obtain ⟨i, hi, rfl⟩ := List.mem_iff_getElem.1 h
      obtain ⟨_, _, _, _, _, hz⟩ := hc i hi
      exact hz
    · obtain ⟨_, _, _, _, hc⟩ := h2
      obtain ⟨i, hi, rfl⟩ := List.mem_iff_getElem.1 h
      obtain ⟨_, _, _, _, _, hz⟩ := hc i hi
      exact hz
  have hcc := concat_two an bn w.heap.size a1 a2 n1 n2 p1 p2 (w.alloc (.cells #[.slice a1 n1 p1, .slice a2 n2 p2] 23)) hS0 hS1 (by omega) (h1.carry (fun b hb => hb0.block b hb) (fun _ h => by omega)) (h2.carry (fun b hb => hb0.block b hb) (fun _ h => by omega)) hn1 hn2
  have HCC := hide hcc; have HB0 := hide hb0; have HS0 := hide hs0; have HN1 := hide hnn1; have HN2 := hide hnn2; have HL1 := hide hn1; have HL2 := hide hn2; have HZS := hide hzs
  clear hcc hb0 hs0 hS0 hS1 hnn1 hnn2 hn1 hn2 h1 h2 hzs
  go_enter Tryz.func93, Tryz.ntmps93
  go_wp2_with fail
  refine (unhide HCC).mono ?_
  rintro e W1 ⟨hb1, a, cap, rfl, ho1⟩
  have hb1' : Below w.heap.size w W1 := (unhide HB0).trans (hb1.mono (by rw [unhide HS0]; omega))
  have hW1 : w.heap.size + 1 ≤ W1.heap.size := by have := hb1.size; rw [unhide HS0] at this; exact this
  rw [unhide HS0] at ho1
  rcases Nat.eq_zero_or_pos (n1 + n2) with h0 | h0
  · have hu : uniN an bn = [] := by
      have h3 := uniN_len an bn
      have h4 := uniL_len an bn
      have := unhide HN1; have := unhide HN2
      exact List.eq_nil_of_length_eq_zero (by omega)
    rw [h0]
    have HB1 := hide hb1'
    have HU := hide hu
    clear hb1 hb1' ho1 hu HCC HB0
    go_wp2_with (first
      | (go_at_call 103; refine (Tryz.slices_Sort_string_none a cap W1).mono ?_; rintro e W2 ⟨rfl, hw2⟩; have hw3 := hw2.symm; subst hw3)
      | (go_at_call 104; refine (Tryz.slices_Compact_string_empty a cap W1).mono ?_; rintro e W2 ⟨rfl, hw2⟩; have hw3 := hw2.symm; subst hw3))
    go_ret
    rw [unhide HU]
    exact ⟨unhide HB1, a, cap, rfl, a, cap, rfl, by simp, fun i hi => by simp at hi⟩
  · obtain ⟨g, rfl⟩ : ∃ g, a = some ⟨g, 0, none⟩ := by
      rcases ho1.2 with ⟨-, h⟩ | ⟨g, _, _, hv, _⟩
      · omega
      · simp only [Value.slice.injEq] at hv
        exact ⟨g, hv.1⟩
    have hgl := ho1.lt g rfl
    have hcap : n1 + n2 ≤ cap := own_capU ho1
    have hlen : n1 + n2 = ((an ++ bn).map ByteArray.toList).length := by
      have := unhide HN1; have := unhide HN2
      simp; omega
    have hH := own_holds ho1
    have HB1 := hide hb1'; have HH := hide hH; have HGL := hide hgl; have HCAP := hide hcap; have HLEN := hide hlen
    have hsrt := Tryz.slices_Sort_string g 0 cap ((an ++ bn).map ByteArray.toList) W1 hH hgl.2 (by have := unhide HL1; have := unhide HL2; omega)
    rw [← hlen] at hsrt
    have hcmp : ∀ W, Sort.Holds encStr W g 0 (srtS ((an ++ bn).map ByteArray.toList)).toArray → Calls Tryz.prog 104 #[.slice (some ⟨g, 0, none⟩) (n1 + n2) cap] W fun e w' => e = .returned (.slice (some ⟨g, 0, none⟩) (uniL an bn).length cap) ∧ ∃ q, w' = Sort.putRow encStr (Sort.ahead W q) g 0 (uniL an bn ++ List.replicate ((srtS ((an ++ bn).map ByteArray.toList)).length - (uniL an bn).length) []).toArray := fun W hW => by
      have := Tryz.slices_Compact_string g 0 cap (srtS ((an ++ bn).map ByteArray.toList)) W hW (by rw [srtS_len, ← hlen]; have := unhide HL1; have := unhide HL2; omega) (by rw [srtS_len, ← hlen]; exact hcap)
      rw [srtS_len, ← hlen] at this
      rw [srtS_len, ← hlen]
      exact this
    have HSRT := hide hsrt; have HCMP := hide hcmp
    clear hsrt hcmp hH hgl hcap hlen hb1 hb1' ho1 HCC HB0 h0
    go_wp2_with fail
    refine (unhide HSRT).mono ?_
    rintro e W2 ⟨rfl, m, os, hW2⟩
    have hlt1 : g < (Sort.putRow encStr (Sort.ahead W1 m) g 0 (srtS ((an ++ bn).map ByteArray.toList)).toArray).heap.size := by rw [Sort.size_putRow]; exact (unhide HGL).2
    have hsz1 : (srtS ((an ++ bn).map ByteArray.toList)).toArray.size = ((an ++ bn).map ByteArray.toList).toArray.size := by rw [List.size_toArray, List.size_toArray, srtS_len]
    have hH2 : Sort.Holds encStr W2 g 0 (srtS ((an ++ bn).map ByteArray.toList)).toArray := by
      rw [hW2]
      exact Sort.holds_grow encStr _ os g 0 _ hlt1 (Sort.holds_putRow encStr (Sort.ahead W1 m) g 0 _ (srtS ((an ++ bn).map ByteArray.toList)).toArray (unhide HH) hsz1)
    have hb2 : Below w.heap.size w W2 := by
      rw [hW2]
      exact below_grow (below_put (below_ahead (unhide HB1) m) encStr g 0 _ (by have := (unhide HGL).1; omega)) (by rw [Sort.size_putRow]; exact (unhide HB1).size) os
    have hlt2 : g < W2.heap.size := by rw [hW2, Sort.size_grow]; exact Nat.lt_of_lt_of_le hlt1 (Nat.le_add_right _ _)
    have HH2 := hide hH2; have HB2 := hide hb2; have HLT2 := hide hlt2
    clear hW2 hlt1 hsz1 hH2 hb2 hlt2 HSRT HH HB1
    go_wp2_with fail
    refine (unhide HCMP W2 (unhide HH2)).mono ?_
    rintro e W3 ⟨rfl, q, hW3⟩
    have hul := uniL_le an bn
    have hsz2 : (uniL an bn ++ List.replicate ((srtS ((an ++ bn).map ByteArray.toList)).length - (uniL an bn).length) []).toArray.size = (srtS ((an ++ bn).map ByteArray.toList)).toArray.size := by
      rw [List.size_toArray, List.size_toArray, List.length_append, List.length_replicate]; omega
    have hH3 : Sort.Holds encStr W3 g 0 (uniL an bn ++ List.replicate ((srtS ((an ++ bn).map ByteArray.toList)).length - (uniL an bn).length) []).toArray := by
      rw [hW3]
      exact Sort.holds_putRow encStr (Sort.ahead W2 q) g 0 _ _ (unhide HH2) hsz2
    have hb3 : Below w.heap.size w W3 := by
      rw [hW3]
      exact below_put (below_ahead (unhide HB2) q) encStr g 0 _ (by have := (unhide HGL).1; omega)
    have hlt3 : g < W3.heap.size := by rw [hW3, Sort.size_putRow]; exact unhide HLT2
    have HB3 := hide hb3
    have HST : Hid (StrsAt (New w W3) W3 (.slice (some ⟨g, 0, none⟩) (uniN an bn).length cap) (uniN an bn)) := by
      have h5 := uniN_len an bn
      have h6 := uniL_len an bn
      refine ⟨_, _, rfl, by have := unhide HN1; have := unhide HN2; have := unhide HL1; have := unhide HL2; omega, fun i hi => ⟨g, 0, rfl, ⟨by have := (unhide HGL).1; omega, hlt3⟩, ?_, unhide HZS _ (List.getElem_mem hi)⟩⟩
      have hi' : i < (uniL an bn).length := by omega
      have h7 := (hH3 i (by rw [hsz2, List.size_toArray]; omega)).1
      rw [h7, uniN_get hi hi']
      simp [hi', List.getElem!_eq_getElem?_getD, List.getElem?_append_left hi']
    have HUN := hide (uniN_len an bn)
    clear hW3 hul hsz2 hH3 hb3 hlt3 HB2 HCMP HH2 HLT2
    go_wp2_with fail
    go_ret
    rw [← unhide HUN]
    exact ⟨unhide HB3, _, _, rfl, unhide HST⟩
end Go.Proofs.YtenpghndgdemnaaGreatDoor

/- The table of the program's widenings, as newWidenings lays it. No conditions. -/

namespace Go.Proofs.YtenpghndgdemnaaGreatDoor
open Go Go.RowKit

/-- A method of the widenings, bound to them. -/
def wv (T : Nat) (f : Nat) : Value := .func (.func f) #[.pointer (some ⟨T, 0, none⟩)] #[]
/-- What is done from each sort into each. -/
def wRow (T : Nat) : List Value := [Value.nilFunc, Value.nilFunc, Value.nilFunc, Value.nilFunc, Value.nilFunc, Value.nilFunc, wv T 60, Value.nilFunc, wv T 61, Value.nilFunc, Value.nilFunc, Value.nilFunc, Value.nilFunc, wv T 62, Value.nilFunc, Value.nilFunc, wv T 61, Value.nilFunc, Value.nilFunc, Value.nilFunc, wv T 62, Value.nilFunc, Value.nilFunc, Value.nilFunc, wv T 61, Value.nilFunc, Value.nilFunc, wv T 62, Value.nilFunc, Value.nilFunc, Value.nilFunc, Value.nilFunc, wv T 63, Value.nilFunc, wv T 62, Value.nilFunc, Value.nilFunc, Value.nilFunc, Value.nilFunc, Value.nilFunc, wv T 64, wv T 62, Value.nilFunc, Value.nilFunc, Value.nilFunc, Value.nilFunc, Value.nilFunc, Value.nilFunc, wv T 65]
/-- The table lies in a block. -/
def WT (W : World) (T : Nat) : Prop := W.rowIs T 68 49 (fun i => (wRow T).getD i .nilFunc)
theorem WT.on {W W' : World} {T : Nat} (h : WT W T) (hb : Below W.heap.size W W') : WT W' T := h.of_block (hb.block _ h.lt)
theorem wRow_len (T : Nat) : (wRow T).length = 49 := rfl
theorem wRow_one (T : Nat) : (wRow T).toArray.all (·.oneCell') = true := by rw [← Array.all_toList]; rfl
theorem there49 {w : World} {b : Nat} {T : TypeId} {n : Nat} {f : Nat → Value} (h : w.rowIs b T n f) : w.there b 0 n := fun j hj => by
  rw [Nat.zero_add]
  exact ⟨by rw [h.cell hj]; rfl, h.frozen j⟩
theorem sizeTab : (Tryz.prog.info? 66).map (·.size) = some 49 := by kernel_rfl
/-- All cells of a row are set. -/
theorem set_row (b : Nat) : ∀ (vs : List Value) (o : Nat) (W : World) (T : TypeId) (n : Nat) (f : Nat → Value), W.rowIs b T n f → o + vs.length ≤ n → But b W (W.setCells b o vs) ∧ (W.setCells b o vs).rowIs b T n (fun i => if o ≤ i then (vs[i - o]?).getD (f i) else f i)
  | [], o, W, T, n, f, h, _ => ⟨But.of_below (Below.refl _ _), h.congr (fun i hi => by simp)⟩
  | v :: r, o, W, T, n, f, h, hl => by
    simp only [List.length_cons] at hl
    obtain ⟨h1, h2⟩ := set_row b r (o + 1) (W.setCell ⟨b, o, none⟩ v) T n _ (h.set o v) (by omega)
    refine ⟨(But.set W o v).trans h1, World.rowIs.congr (w := W.setCells b o (v :: r)) h2 (fun i hi => ?_)⟩
    by_cases h1 : o + 1 ≤ i
    · have e : i - o = (i - (o + 1)) + 1 := by omega
      rw [if_pos h1, if_pos (show o ≤ i by omega), e, List.getElem?_cons_succ]
      have : i ≠ o := by omega
      simp [this]
    · rw [if_neg h1]
      by_cases h3 : o ≤ i
      · have e : i = o := by omega
        subst e
        simp
      · rw [if_neg h3]
        have : i ≠ o := by omega
        simp [this]
theorem row_rep (w : World) (n : Nat) (v : Value) (t : TypeId) : (w.alloc (.cells (List.replicate n v).toArray t)).rowIs w.heap.size t n (fun _ => v) := by
  have h := World.rowIs_alloc w (List.replicate n v).toArray t (fun _ => v) (fun i hi => by
    have hi' : i < n := by simpa using hi
    simp [hi'])
  simpa using h
noncomputable def nwOps : Array Oper := fops Tryz.f28 2
theorem F_skipW {P : Program} {ops : Array Oper} {Q : Exit → Act → World → Prop} {k : Nat} {l : List Value} {ds : List Deferred} {w w' : World} (d : Option Tmp) (hb : opG ops k d = true) (hw : Region.wanted (opI ops k) (yielded ops l.toArray) = true) (hr : (execOp (⟨l.toArray, ds⟩ : Act).eval (opI ops k)).run P w = .ok .skip w') (H : wpFrom P ops Q (k + 1) ⟨(putL l d undef).toArray, ds⟩ w') : wpFrom P ops Q k ⟨l.toArray, ds⟩ w := by
  have hd : (opI ops k).dst = d := by unfold opG at hb; simp only [Bool.and_eq_true, decide_eq_true_eq] at hb; exact hb.2
  refine from_step hb ?_
  rw [if_pos hw]
  unfold Oper.wp
  rw [hr]
  show wpFrom P ops Q (k + 1) ((⟨l.toArray, ds⟩ : Act).put (opI ops k).dst undef) w'
  rw [hd, put_putL]
  exact H
set_option maxRecDepth 100000 in
set_option maxHeartbeats 3200000 in
theorem nw2 (T : Nat) (W0 : World) {l : List Value} (Q : Exit → Act → World → Prop) {f : Nat → Value} (hl : lookL [(1, .pointer (some ⟨T, 0, none⟩))] l = (40, [.pointer (some ⟨T, 0, none⟩)])) (hT : W0.rowIs T 68 49 f)
    (hend : ∀ u, Q .normal ⟨(frL u 40 [(1, .pointer (some ⟨T, 0, none⟩))]).toArray, []⟩ (W0.setCells T 0 (wRow T))) : (Code.region 2 nwOps false).wp Tryz.prog Q ⟨l.toArray, []⟩ W0 := by
  obtain ⟨v0, rfl⟩ := look_fr (s := [(1, .pointer (some ⟨T, 0, none⟩))]) hl
  refine wp_region_from ?_
  refine from_q 35 40 [(1, .pointer (some ⟨T, 0, none⟩)), (36, .agg (wRow T).toArray), (38, .pointer (some ⟨T, 0, none⟩))] [] (by kernel_rfl) Lds.nil fun u => ?_
  refine F_skipW (w' := W0.setCells T 0 (wRow T)) none (by kernel_rfl) (by kernel_rfl) ?_ ?_
  · have h1 : (opI nwOps 35).op = .store 66 (.tmp 38) (.tmp 36) := by kernel_rfl
    have h2 : (⟨(frL u 40 [(1, .pointer (some ⟨T, 0, none⟩)), (36, .agg (wRow T).toArray), (38, .pointer (some ⟨T, 0, none⟩))]).toArray, []⟩ : Act).eval (.tmp 38) = .pointer (some ⟨T, 0, none⟩) := by kernel_rfl
    have h3 : (⟨(frL u 40 [(1, .pointer (some ⟨T, 0, none⟩)), (36, .agg (wRow T).toArray), (38, .pointer (some ⟨T, 0, none⟩))]).toArray, []⟩ : Act).eval (.tmp 36) = .agg (wRow T).toArray := by kernel_rfl
    unfold execOp
    simp only [h1, h2, h3, Instr.storeAt, Instr.sureAddr, Sem.run_bind, Sem.run_pure, Result.andThen_ok, run_storeVar_mid W0 T 0 66 (wRow T).toArray (there49 hT) sizeTab (wRow_one T)]
  · refine from_fr 40 [(1, .pointer (some ⟨T, 0, none⟩))] (by kernel_rfl) fun u => ?_
    exact from_end (by kernel_rfl) (hend u)
theorem WT.start {W : World} {T : Nat} {f : Nat → Value} (h : W.rowIs T 68 49 f) : But T W (W.setCells T 0 (wRow T)) ∧ WT (W.setCells T 0 (wRow T)) T := by
  obtain ⟨h1, h2⟩ := set_row T (wRow T) 0 W _ 49 f h (by rw [wRow_len]; omega)
  refine ⟨h1, World.rowIs.congr h2 (fun i hi => ?_)⟩
  have hi' : i < (wRow T).length := by rw [wRow_len]; exact hi
  simp only [Nat.zero_le, if_true, Nat.sub_zero, List.getElem?_eq_getElem hi', Option.getD_some, List.getD_eq_getElem?_getD]
set_option maxRecDepth 100000 in
set_option maxHeartbeats 3200000 in
theorem newWidenings_any (w : World) :
    Calls Tryz.prog 28 #[] w fun e w' => e = .returned (.pointer (some ⟨w.heap.size, 0, none⟩)) ∧ Below w.heap.size w w' ∧ WT w' w.heap.size := by
  go_enter Tryz.func28, Tryz.ntmps28
  go_upto_region 2 with fail
  refine wp_swap (c' := Code.region 2 nwOps false) (by kernel_rfl) ?_
  generalize hob : Obj.cells _ _ _ = ob
  have hob2 : ob = .cells (List.replicate 49 Value.nilFunc).toArray 68 := by rw [← hob]; rfl
  clear hob
  subst hob2
  have hrow := row_rep w 49 Value.nilFunc 68
  have hbA : Below w.heap.size w (w.alloc (.cells (List.replicate 49 Value.nilFunc).toArray 68)) := (Below.refl _ _).alloc (Nat.le_refl _) _
  generalize w.alloc (.cells (List.replicate 49 Value.nilFunc).toArray 68) = W0 at hrow hbA ⊢
  refine nw2 w.heap.size W0 _ (by kernel_rfl) hrow fun u => ?_
  obtain ⟨hb1, hw1⟩ := WT.start hrow
  have hb2 : Below w.heap.size w (W0.setCells w.heap.size 0 (wRow w.heap.size)) := hbA.trans ⟨hb1.os, hb1.tape, hb1.output, hb1.size, fun i hi => hb1.at (by have := hbA.size; omega) (by omega)⟩
  generalize W0.setCells w.heap.size 0 (wRow w.heap.size) = W1 at hw1 hb2 ⊢
  clear hb1 hrow hbA
  have HW1 := hide hw1; have HB2 := hide hb2
  clear hw1 hb2
  have hfr : frL u 40 [(1, .pointer (some ⟨w.heap.size, 0, none⟩))] = u 0 :: .pointer (some ⟨w.heap.size, 0, none⟩) :: (List.range 38).map (fun i => u (i + 2)) := by kernel_rfl
  rw [hfr]
  simp only [List.range, List.range.loop, List.map_cons, List.map_nil]
  go_wp2_with fail
  go_ret
  exact ⟨rfl, unhide HB2, unhide HW1⟩
end Go.Proofs.YtenpghndgdemnaaGreatDoor

/- The walks of the specification's l3Kid, l3Fits, KindFits: whether a schema fits into another one; of what was there nothing has turned. No conditions. -/

namespace Go.Proofs.YtenpghndgdemnaaGreatDoor
open Go Go.RowKit

/-- What l3Kid gives: the schema of a name, where it lies. -/
def KdG (P : Nat → Prop) (w : World) (k : Kd) (nm : ByteArray) (y0 y1 y2 : Value) (ok : Bool) : Prop :=
  (∃ (x : Kd) (a1 a2 : Option Addr) (p1 p2 : Nat), ok = true ∧ kidN k nm = some x ∧ x ∈ k.kids ∧ y0 = .int .i64 x.sort ∧ y1 = .slice a1 x.names.length p1 ∧ y2 = .slice a2 x.kids.length p2 ∧ KRep P w x ⟨.int .i64 x.sort, .slice a1 x.names.length p1, .slice a2 x.kids.length p2⟩) ∨
  (ok = false ∧ kidN k nm = none ∧ y0 = .int .i64 0 ∧ y1 = .slice none 0 0 ∧ y2 = .slice none 0 0)
theorem KdG.one {P : Nat → Prop} {w : World} {k : Kd} {nm : ByteArray} (y0 y1 y2 : Value) (ok : Bool) (h : KdG P w k nm y0 y1 y2 ok) : (#[y0, y1, y2] : Array Value).all (·.oneCell') = true := by
  rw [← Array.all_toList]
  rcases h with ⟨x, a1, a2, p1, p2, -, -, -, rfl, rfl, rfl, -⟩ | ⟨-, -, rfl, rfl, rfl⟩ <;> rfl
set_option maxRecDepth 100000 in
set_option maxHeartbeats 1600000 in
theorem l3Kid_any (k : Kd) (P : Nat → Prop) (c : C3) (w0 w : World) (hP : ∀ b, P b → b < w0.heap.size) (hrep : KRep P w0 k c) (hl : k.kids.length = k.names.length) (nm : ByteArray) (hb0 : Below w0.heap.size w0 w) :
    Calls Tryz.prog 59 #[.agg #[c.c0, c.c1, c.c2], .string nm] w fun e w' => Below w.heap.size w w' ∧ ∃ y0 y1 y2 ok, e = .returned (.tuple #[.agg #[y0, y1, y2], .bool ok]) ∧ KdG P w0 k nm y0 y1 y2 ok := by
  obtain ⟨c0, c1, c2⟩ := c
  obtain ⟨e0, -, ⟨a3, cap3, e1, hl3, hnc⟩, a, cap, e2, hlk, hks⟩ := hrep.open
  simp only at e0 e1 e2
  subst e0 e1 e2
  have hbx : ∀ o1 o2, Below w.heap.size w ((w.alloc o1).alloc o2) := fun o1 o2 => ((Below.refl _ _).alloc (Nat.le_refl _) o1).alloc (by simp) o2
  have hrk := (row3_alloc w (.int .i64 k.sort) (.slice a3 k.names.length cap3) (.slice a k.kids.length cap) 26).alloc (.cells #[.int .i64 0, .slice none 0 0, .slice none 0 0] 26)
  have hrz := row3_alloc (w.alloc (.cells #[.int .i64 k.sort, .slice a3 k.names.length cap3, .slice a k.kids.length cap] 26)) (.int .i64 0) (.slice none 0 0) (.slice none 0 0) 26
  rw [World.size_alloc] at hrz
  have hbw := hbx (.cells #[.int .i64 k.sort, .slice a3 k.names.length cap3, .slice a k.kids.length cap] 26) (.cells #[.int .i64 0, .slice none 0 0, .slice none 0 0] 26)
  have hs2 : ((w.alloc (.cells #[.int .i64 k.sort, .slice a3 k.names.length cap3, .slice a k.kids.length cap] 26)).alloc (.cells #[.int .i64 0, .slice none 0 0, .slice none 0 0] 26)).heap.size = w.heap.size + 2 := by simp
  have HNC := hide hnc; have HKS := hide hks; have HP := hide hP; have HB0 := hide hb0; have HL := hide hl
  clear hnc hks hP hb0 hrep hbx hl
  go_enter Tryz.func59, Tryz.ntmps59
  go_wp2_with fail
  generalize ((w.alloc (.cells #[.int .i64 k.sort, .slice a3 k.names.length cap3, .slice a k.kids.length cap] 26)).alloc (.cells #[.int .i64 0, .slice none 0 0, .slice none 0 0] 26)) = W0 at hrk hrz hbw hs2 ⊢
  have HRK := hide hrk; have HRZ := hide hrz; have HBW := hide hbw; have HS2 := hide hs2
  have m0 := hrz.cell (i := 0) (by omega); have m1 := hrz.cell (i := 1) (by omega); have m2 := hrz.cell (i := 2) (by omega); have mf := hrz.frozen
  have k1 := hrk.cell (i := 1) (by omega); have k2 := hrk.cell (i := 2) (by omega)
  simp only [row3] at m0 m1 m2 k1 k2
  clear hrk hrz hbw hs2
  go_loopw [6] (fun vi wr => ∃ (j : Nat), j ≤ k.names.length ∧ vi = .int .i64 j ∧ Hid (∀ x, (hx : x < j) → (h : x < k.names.length) → k.names[x] ≠ nm) ∧ wr = W0) (fun vi _ => k.names.length - (intOf vi).toNat)
  case atStart => exact ⟨0, Nat.zero_le _, rfl, fun x hx => by omega, rfl⟩
  case round =>
    obtain ⟨j, hj, rfl, HE, rfl⟩ := hrel
    by_cases hlt : j < k.names.length
    · obtain ⟨nb, no, rfl, hpn, hcn, -⟩ := unhide HNC j hlt
      have en : wr.cell? ⟨nb, no + j, none⟩ = some (.string k.names[j]) := by rw [(unhide HBW).cell (Nat.lt_of_lt_of_le (unhide HP nb hpn) (unhide HB0).size), (unhide HB0).cell (unhide HP nb hpn)]; exact hcn
      by_cases hne : k.names[j] = nm
      · have hlt2 : j < k.kids.length := by rw [unhide HL]; exact hlt
        have hkn := kidN_some hlt hlt2 hne (fun x hx => unhide HE x hx (by omega))
        obtain ⟨zb, zo, ⟨z0, z1, z2⟩, rfl, hpz, hcz, hrz⟩ := unhide HKS j hlt2
        have hcz' := (hcz.carry ((unhide HB0).block zb (unhide HP zb hpz))).carry ((unhide HBW).block zb (Nat.lt_of_lt_of_le (unhide HP zb hpz) (unhide HB0).size))
        obtain ⟨f0, -, ⟨a9, cap9, f1, -⟩, b9, cbp9, f2, -⟩ := hrz.open
        simp only at f0 f1 f2
        subst f0 f1 f2
        obtain ⟨y0, y1, y2⟩ := hcz'
        simp only at y0 y1 y2
        have hG : KdG P w0 k nm (.int .i64 k.kids[j].sort) (.slice a9 k.kids[j].names.length cap9) (.slice b9 k.kids[j].kids.length cbp9) true := Or.inl ⟨k.kids[j], a9, b9, cap9, cbp9, rfl, hkn, List.getElem_mem _, rfl, rfl, rfl, hrz⟩
        have HG := hide hG
        rw [hne] at en
        have hzl : zb < w.heap.size := Nat.lt_of_lt_of_le (unhide HP zb hpz) (unhide HB0).size
        have hne1 : zb ≠ w.heap.size + 1 := by omega
        have hne2 : w.heap.size + 1 ≠ zb := by omega
        have hjj : j * 3 + 1 = j * 3 + 1 := rfl
        generalize k.kids[j] = x at *
        clear hcn hpn hne hkn hcz hrz hG hjj
        go_wp2_with fail
        refine bodyPost_ret (v := .tuple #[.agg #[.int .i64 x.sort, .slice a9 x.names.length cap9, .slice b9 x.kids.length cbp9], .bool true]) (by simp [results, Tryz.results59, go_sem, m0, m1, m2]) rfl ?_
        exact ⟨(((unhide HBW).setCell (by simp) _).setCell (by simp) _).setCell (by simp) _, _, _, _, _, rfl, unhide HG⟩
      · have HE2 : Hid (∀ x, (hx : x < j + 1) → (h : x < k.names.length) → k.names[x] ≠ nm) := fun x hx h => by
          by_cases e : x = j
          · subst e; exact hne
          · exact unhide HE x (by omega) h
        have hnb : (k.names[j].toList == nm.toList) = false := by rw [lst_beq]; exact decide_eq_false hne
        generalize k.names[j] = nm2 at *
        clear hcn hpn hne
        go_wp2_with fail
        go_roundw
        case rel => exact ⟨j + 1, by omega, by go_num, HE2, by first | rfl | trivial⟩
        case measure => simp [intOf]; omega
    · have hkn : kidN k nm = none := kidN_none (fun hm => by
        obtain ⟨i, hi, e⟩ := List.mem_iff_getElem.1 hm
        exact unhide HE i (by omega) hi e)
      have HG : Hid (KdG P w0 k nm (.int .i64 0) (.slice none 0 0) (.slice none 0 0) false) := Or.inr ⟨rfl, hkn, rfl, rfl, rfl⟩
      obtain rfl : j = k.names.length := by omega
      clear hkn
      go_wp2_with fail
      refine bodyPost_ret (v := .tuple #[.agg #[.int .i64 0, .slice none 0 0, .slice none 0 0], .bool false]) (by simp [results, Tryz.results59, go_sem, m0, m1, m2]) rfl ?_
      exact ⟨(((unhide HBW).setCell (by simp) _).setCell (by simp) _).setCell (by simp) _, _, _, _, _, rfl, unhide HG⟩
end Go.Proofs.YtenpghndgdemnaaGreatDoor

/- The walks of the specification's l3Fits, KindFits: whether a schema fits into another one; of what was there nothing has turned. No conditions. -/

namespace Go.Proofs.YtenpghndgdemnaaGreatDoor
open Go Go.RowKit

/-- A schema in the world, whose parts are ok. -/
structure KW (w : World) (k : Kd) (c : C3) : Prop where
  rep : KRep (fun x => x < w.heap.size) w k c
  ok : okD k = true
theorem KW.on {w w' : World} {k : Kd} {c : C3} (h : KW w k c) (hb : Below w.heap.size w w') : KW w' k c :=
  ⟨KRep.carry (fun x hx => hb.block x hx) (fun _ hx => Nat.lt_of_lt_of_le hx hb.size) _ _ h.rep, h.ok⟩
/-- A kid of a schema. -/
theorem KW.kid {w : World} {k : Kd} {c : C3} (h : KW w k c) {i : Nat} (hi : i < k.kids.length) : ∃ (b o cap : Nat) (a1 a2 : Option Addr) (p1 p2 : Nat), c.c2 = .slice (some ⟨b, o, none⟩) k.kids.length cap ∧ b < w.heap.size ∧ w.cell? ⟨b, o + i * 3, none⟩ = some (.int .i64 k.kids[i].sort) ∧ w.cell? ⟨b, o + i * 3 + 1, none⟩ = some (.slice a1 k.kids[i].names.length p1) ∧ w.cell? ⟨b, o + i * 3 + 2, none⟩ = some (.slice a2 k.kids[i].kids.length p2) ∧ KW w k.kids[i] ⟨.int .i64 k.kids[i].sort, .slice a1 k.kids[i].names.length p1, .slice a2 k.kids[i].kids.length p2⟩ := by
  have hok := h.ok
  rw [okD_eq, Bool.and_eq_true] at hok
  obtain ⟨-, -, -, a, cap, e2, -, hks⟩ := h.rep.open
  obtain ⟨zb, zo, ⟨z0, z1, z2⟩, rfl, hpz, ⟨y0, y1, y2⟩, hrz⟩ := hks i hi
  obtain ⟨f0, -, ⟨a9, cap9, f1, -⟩, b9, cbp9, f2, -⟩ := hrz.open
  simp only at f0 f1 f2 y0 y1 y2
  subst f0 f1 f2
  exact ⟨zb, zo, cap, a9, b9, cap9, cbp9, e2, hpz, y0, y1, y2, hrz, okDs_get hok.2 i hi⟩
theorem KW.form {w : World} {k : Kd} {c : C3} (h : KW w k c) : ∃ (a1 a2 : Option Addr) (p1 p2 : Nat), c = ⟨.int .i64 k.sort, .slice a1 k.names.length p1, .slice a2 k.kids.length p2⟩ := by
  obtain ⟨c0, c1, c2⟩ := c
  obtain ⟨e0, -, ⟨a3, cap3, e1, -⟩, a, cap, e2, -⟩ := h.rep.open
  simp only at e0 e1 e2
  exact ⟨a3, a, cap3, cap, by rw [e0, e1, e2]⟩
theorem KW.name {w : World} {k : Kd} {c : C3} (h : KW w k c) {i : Nat} (hi : i < k.names.length) : ∃ (b o cap : Nat), c.c1 = .slice (some ⟨b, o, none⟩) k.names.length cap ∧ b < w.heap.size ∧ w.cell? ⟨b, o + i, none⟩ = some (.string k.names[i]) := by
  obtain ⟨-, -, ⟨a3, cap3, e1, -, hnc⟩, -⟩ := h.rep.open
  obtain ⟨nb, no, rfl, hpn, hcn, -⟩ := hnc i hi
  exact ⟨nb, no, cap3, e1, hpn, hcn⟩
theorem KW.sh {w : World} {k : Kd} {c : C3} (h : KW w k c) : ((k.sort = 1 ∨ k.sort = 2 ∨ k.sort = 3) ∧ k.kids.length = 0 ∧ k.names.length = 0) ∨ ((k.sort = 4 ∨ k.sort = 6) ∧ k.kids.length = 1 ∧ k.names.length = 0) ∨ (k.sort = 5 ∧ k.kids.length = k.names.length ∧ riseB k.names = true) := by
  have hok := h.ok
  rw [okD_eq, Bool.and_eq_true] at hok
  exact shB_cases hok.1
def FitsSaid (n : Nat) : Prop := ∀ (a b : Kd), ksz b ≤ n → ∀ (c d : C3) (w : World), KW w a c → KW w b d →
    Calls Tryz.prog 27 #[.agg #[c.c0, c.c1, c.c2], .agg #[d.c0, d.c1, d.c2]] w fun e w' => e = .returned (.bool (fitF n a b)) ∧ Below w.heap.size w w'
/-- The two boxes of l3Fits. -/
theorem ft_boxes (w : World) (a b : Kd) (a1 a2 b1 b2 : Option Addr) (p1 p2 q1 q2 : Nat) : ((w.alloc (.cells #[.int .i64 a.sort, .slice a1 a.names.length p1, .slice a2 a.kids.length p2] 26)).alloc (.cells #[.int .i64 b.sort, .slice b1 b.names.length q1, .slice b2 b.kids.length q2] 26)).rowIs w.heap.size 26 3 (row3 (.int .i64 a.sort) (.slice a1 a.names.length p1) (.slice a2 a.kids.length p2)) ∧ ((w.alloc (.cells #[.int .i64 a.sort, .slice a1 a.names.length p1, .slice a2 a.kids.length p2] 26)).alloc (.cells #[.int .i64 b.sort, .slice b1 b.names.length q1, .slice b2 b.kids.length q2] 26)).rowIs (w.heap.size + 1) 26 3 (row3 (.int .i64 b.sort) (.slice b1 b.names.length q1) (.slice b2 b.kids.length q2)) ∧ Below w.heap.size w ((w.alloc (.cells #[.int .i64 a.sort, .slice a1 a.names.length p1, .slice a2 a.kids.length p2] 26)).alloc (.cells #[.int .i64 b.sort, .slice b1 b.names.length q1, .slice b2 b.kids.length q2] 26)) := by
  have h2 := row3_alloc (w.alloc (.cells #[.int .i64 a.sort, .slice a1 a.names.length p1, .slice a2 a.kids.length p2] 26)) (.int .i64 b.sort) (.slice b1 b.names.length q1) (.slice b2 b.kids.length q2) 26
  rw [World.size_alloc] at h2
  exact ⟨(row3_alloc w _ _ _ _).alloc _, h2, ((Below.refl _ _).alloc (Nat.le_refl _) _).alloc (by simp) _⟩
section
variable (n : Nat) (IH : FitsSaid n) (a b : Kd) (hn : ksz b ≤ n + 1) (w : World) (a1 a2 b1 b2 : Option Addr) (p1 p2 q1 q2 : Nat)
  (ha : KW w a ⟨.int .i64 a.sort, .slice a1 a.names.length p1, .slice a2 a.kids.length p2⟩) (hb : KW w b ⟨.int .i64 b.sort, .slice b1 b.names.length q1, .slice b2 b.kids.length q2⟩)
include IH hn ha hb
set_option maxRecDepth 100000 in
set_option maxHeartbeats 1600000 in
theorem fits_46 (h : (a.sort = 6 ∧ b.sort = 6) ∨ (a.sort = 4 ∧ b.sort = 4)) :
    Calls Tryz.prog 27 #[.agg #[.int .i64 a.sort, .slice a1 a.names.length p1, .slice a2 a.kids.length p2], .agg #[.int .i64 b.sort, .slice b1 b.names.length q1, .slice b2 b.kids.length q2]] w fun e w' => e = .returned (.bool (fitF (n + 1) a b)) ∧ Below w.heap.size w w' := by
  have hka : a.kids.length = 1 := by rcases ha.sh with h | h | h <;> omega
  have hkb : b.kids.length = 1 := by rcases hb.sh with h | h | h <;> omega
  have hfit : fitF (n + 1) a b = fitF n (a.kids[0]'(by omega)) (b.kids[0]'(by omega)) := by
    rcases h with h | h
    · exact fit_mm h.2 h.1 _ _
    · exact fit_ll h.2 h.1 _ _
  obtain ⟨hra, hrb, hbw⟩ := ft_boxes w a b a1 a2 b1 b2 p1 p2 q1 q2
  obtain ⟨xb, xo, xc, x1, x2, r1, r2, ex, hxl, x0, x3, x4, hx⟩ := ha.kid (i := 0) (by omega)
  obtain ⟨yb, yo, yc, y1, y2, s1, s2, ey, hyl, y0, y3, y4, hy⟩ := hb.kid (i := 0) (by omega)
  simp only [Value.slice.injEq] at ex ey
  obtain ⟨rfl, -, rfl⟩ := ex
  obtain ⟨rfl, -, rfl⟩ := ey
  rw [hfit]
  have hsm : ksz (b.kids[0]'(by omega)) ≤ n := by have := ksz_kid (List.getElem_mem (show 0 < b.kids.length by omega)); omega
  have hcall : ∀ W, Below w.heap.size w W → Calls Tryz.prog 27 #[.agg #[.int .i64 (a.kids[0]'(by omega)).sort, .slice x1 (a.kids[0]'(by omega)).names.length r1, .slice x2 (a.kids[0]'(by omega)).kids.length r2], .agg #[.int .i64 (b.kids[0]'(by omega)).sort, .slice y1 (b.kids[0]'(by omega)).names.length s1, .slice y2 (b.kids[0]'(by omega)).kids.length s2]] W fun e w' => e = .returned (.bool (fitF n (a.kids[0]'(by omega)) (b.kids[0]'(by omega)))) ∧ Hid (Below w.heap.size w w') := fun W hW =>
    (IH _ _ hsm ⟨_, _, _⟩ ⟨_, _, _⟩ W (hx.on hW) (hy.on hW)).mono fun e w' ⟨h1, h2⟩ => ⟨h1, hW.trans (h2.mono hW.size)⟩
  generalize (a.kids[0]'(by omega)) = ka at *
  generalize (b.kids[0]'(by omega)) = kb at *
  rw [hka] at hra hbw ⊢
  rw [hkb] at hrb hbw ⊢
  rw [hkb] at hra
  rw [hka] at hrb
  have HCALL := hide hcall
  clear IH hn ha hb hx hy hsm hcall hfit
  have hxl' : xb ≠ w.heap.size ∧ xb ≠ w.heap.size + 1 := ⟨by omega, by omega⟩
  have g0 := (hbw.cell (show (⟨xb, xo + 0 * 3, none⟩ : Addr).block < w.heap.size from hxl)); have g1 := (hbw.cell (show (⟨xb, xo + 0 * 3 + 1, none⟩ : Addr).block < w.heap.size from hxl)); have g2 := (hbw.cell (show (⟨xb, xo + 0 * 3 + 2, none⟩ : Addr).block < w.heap.size from hxl))
  have h0 := (hbw.cell (show (⟨yb, yo + 0 * 3, none⟩ : Addr).block < w.heap.size from hyl)); have h1 := (hbw.cell (show (⟨yb, yo + 0 * 3 + 1, none⟩ : Addr).block < w.heap.size from hyl)); have h2 := (hbw.cell (show (⟨yb, yo + 0 * 3 + 2, none⟩ : Addr).block < w.heap.size from hyl))
  rw [x0] at g0; rw [x3] at g1; rw [x4] at g2; rw [y0] at h0; rw [y3] at h1; rw [y4] at h2
  simp only [Nat.zero_mul, Nat.add_zero] at g0 g1 g2 h0 h1 h2
  have HBW := hide hbw
  have e0 := hra.cell (i := 0) (by omega); have e2 := hra.cell (i := 2) (by omega); have f0 := hrb.cell (i := 0) (by omega); have f2 := hrb.cell (i := 2) (by omega)
  simp only [row3] at e0 e2 f0 f2
  clear x0 x3 x4 y0 y3 y4 hra hrb hxl'
  rcases h with ⟨hs1, hs2⟩ | ⟨hs1, hs2⟩
  · have ht1 : (b.sort == 6) = true := by rw [hs2]; rfl
    have ht2 : (a.sort == 6) = true := by rw [hs1]; rfl
    clear hs1 hs2 hka hkb hbw
    go_enter Tryz.func27, Tryz.ntmps27
    go_wp2_with fail
    generalize ((w.alloc (.cells #[.int .i64 a.sort, .slice a1 a.names.length p1, .slice (some ⟨xb, xo, none⟩) 1 p2] 26)).alloc (.cells #[.int .i64 b.sort, .slice b1 b.names.length q1, .slice (some ⟨yb, yo, none⟩) 1 q2] 26)) = W0 at *
    go_region_with (go_at_call 27; refine (unhide HCALL _ ((unhide HBW).drew)).mono ?_; rintro e w6 ⟨rfl, HB6⟩)
    all_goals
      go_wp2_with fail
      go_ret
      exact ⟨rfl, unhide HB6⟩
  · have ht1 : (b.sort == 6) = false := by rw [hs2]; rfl
    have ht2 : (a.sort != b.sort) = false := by rw [hs1, hs2]; rfl
    have ht3 : (a.sort == 4) = true := by rw [hs1]; rfl
    clear hs1 hs2 hka hkb hbw
    go_enter Tryz.func27, Tryz.ntmps27
    go_wp2_with fail
    generalize ((w.alloc (.cells #[.int .i64 a.sort, .slice a1 a.names.length p1, .slice (some ⟨xb, xo, none⟩) 1 p2] 26)).alloc (.cells #[.int .i64 b.sort, .slice b1 b.names.length q1, .slice (some ⟨yb, yo, none⟩) 1 q2] 26)) = W0 at *
    go_region_with (go_at_call 27; refine (unhide HCALL _ ((unhide HBW).drew)).mono ?_; rintro e w6 ⟨rfl, HB6⟩)
    all_goals
      go_wp2_with fail
      go_ret
      exact ⟨rfl, unhide HB6⟩
set_option maxRecDepth 100000 in
set_option maxHeartbeats 1600000 in
theorem fits_xm (hs1 : a.sort ≠ 6) (hs2 : b.sort = 6) :
    Calls Tryz.prog 27 #[.agg #[.int .i64 a.sort, .slice a1 a.names.length p1, .slice a2 a.kids.length p2], .agg #[.int .i64 b.sort, .slice b1 b.names.length q1, .slice b2 b.kids.length q2]] w fun e w' => e = .returned (.bool (fitF (n + 1) a b)) ∧ Below w.heap.size w w' := by
  have hkb : b.kids.length = 1 := by rcases hb.sh with h | h | h <;> omega
  have hfit : fitF (n + 1) a b = fitF n a (b.kids[0]'(by omega)) := fit_xm hs2 hs1 _
  obtain ⟨hra, hrb, hbw⟩ := ft_boxes w a b a1 a2 b1 b2 p1 p2 q1 q2
  obtain ⟨yb, yo, yc, y1, y2, s1, s2, ey, hyl, y0, y3, y4, hy⟩ := hb.kid (i := 0) (by omega)
  simp only [Value.slice.injEq] at ey
  obtain ⟨rfl, -, rfl⟩ := ey
  rw [hfit]
  have hsm : ksz (b.kids[0]'(by omega)) ≤ n := by have := ksz_kid (List.getElem_mem (show 0 < b.kids.length by omega)); omega
  have hcall : ∀ W, Below w.heap.size w W → Calls Tryz.prog 27 #[.agg #[.int .i64 a.sort, .slice a1 a.names.length p1, .slice a2 a.kids.length p2], .agg #[.int .i64 (b.kids[0]'(by omega)).sort, .slice y1 (b.kids[0]'(by omega)).names.length s1, .slice y2 (b.kids[0]'(by omega)).kids.length s2]] W fun e w' => e = .returned (.bool (fitF n a (b.kids[0]'(by omega)))) ∧ Hid (Below w.heap.size w w') := fun W hW =>
    (IH _ _ hsm ⟨_, _, _⟩ ⟨_, _, _⟩ W (ha.on hW) (hy.on hW)).mono fun e w' ⟨h1, h2⟩ => ⟨h1, hW.trans (h2.mono hW.size)⟩
  generalize (b.kids[0]'(by omega)) = kb at *
  rw [hkb] at hra hrb hbw ⊢
  have HCALL := hide hcall
  clear IH hn ha hb hy hsm hcall hfit
  have h0 := (hbw.cell (show (⟨yb, yo + 0 * 3, none⟩ : Addr).block < w.heap.size from hyl)); have h1 := (hbw.cell (show (⟨yb, yo + 0 * 3 + 1, none⟩ : Addr).block < w.heap.size from hyl)); have h2 := (hbw.cell (show (⟨yb, yo + 0 * 3 + 2, none⟩ : Addr).block < w.heap.size from hyl))
  rw [y0] at h0; rw [y3] at h1; rw [y4] at h2
  simp only [Nat.zero_mul, Nat.add_zero] at h0 h1 h2
  have HBW := hide hbw
  have e0 := hra.cell (i := 0) (by omega); have e1 := hra.cell (i := 1) (by omega); have e2 := hra.cell (i := 2) (by omega); have f0 := hrb.cell (i := 0) (by omega); have f2 := hrb.cell (i := 2) (by omega)
  simp only [row3] at e0 e1 e2 f0 f2
  have ht1 : (b.sort == 6) = true := by rw [hs2]; rfl
  have ht2 : (a.sort == 6) = false := by rw [beq_eq_false_iff_ne]; exact hs1
  clear y0 y3 y4 hra hrb hs1 hs2 hkb hbw
  go_enter Tryz.func27, Tryz.ntmps27
  go_wp2_with fail
  generalize ((w.alloc (.cells #[.int .i64 a.sort, .slice a1 a.names.length p1, .slice a2 a.kids.length p2] 26)).alloc (.cells #[.int .i64 b.sort, .slice b1 b.names.length q1, .slice (some ⟨yb, yo, none⟩) 1 q2] 26)) = W0 at *
  go_region_with (go_at_call 27; refine (unhide HCALL _ ((unhide HBW).drew)).mono ?_; rintro e w6 ⟨rfl, HB6⟩)
  all_goals
    go_wp2_with fail
    go_ret
    exact ⟨rfl, unhide HB6⟩
end
set_option maxRecDepth 100000 in
set_option maxHeartbeats 1600000 in
theorem fits_ne (n : Nat) (a b : Kd) (w : World) (a1 a2 b1 b2 : Option Addr) (p1 p2 q1 q2 : Nat) (hs1 : a.sort ≠ b.sort) (hs2 : b.sort ≠ 6) :
    Calls Tryz.prog 27 #[.agg #[.int .i64 a.sort, .slice a1 a.names.length p1, .slice a2 a.kids.length p2], .agg #[.int .i64 b.sort, .slice b1 b.names.length q1, .slice b2 b.kids.length q2]] w fun e w' => e = .returned (.bool (fitF (n + 1) a b)) ∧ Below w.heap.size w w' := by
  rw [fit_ne hs2 hs1]
  obtain ⟨hra, hrb, hbw⟩ := ft_boxes w a b a1 a2 b1 b2 p1 p2 q1 q2
  have ht1 : (b.sort == 6) = false := by rw [beq_eq_false_iff_ne]; exact hs2
  have ht2 : (a.sort != b.sort) = true := by simpa using hs1
  have HBW := hide hbw
  clear hra hrb hbw hs1 hs2
  go_enter Tryz.func27, Tryz.ntmps27
  go_wp2_with fail
  go_ret
  exact ⟨rfl, unhide HBW⟩
end Go.Proofs.YtenpghndgdemnaaGreatDoor
