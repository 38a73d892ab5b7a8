/- Names in memory of the call's own, as the program handles them: a copy (slices.Clone), the place of one (slices.Index), one that is struck (slices.Delete). Conditions: at most 3000 names. -/
import Derived.Test.YtepknipcflbodaaWDkS3
import Derived.Test.YtepknipcflbodaaShelf
import Derived.Deep.Upon
import Derived.WalkSmall
namespace Go.Proofs.Ytepknipcflbodaa
open Go Go.RowKit

theorem NmOwn.lenle {w wr : World} {v : Value} {n : Nat} {ns : List ByteArray} (h : NmOwn w wr v n ns) : ns.length = n := h.len.symm

theorem cloneNs_any (v : Value) (ss : List ByteArray) (w : World) {P : Nat → Prop} (hv : StrsAt P w v ss) (hl : ss.length ≤ 3000) :
    Calls Try.prog 56 #[v] w fun e w' => ∃ v', e = .returned v' ∧ NmOwn w w' v' ss.length ss := by
  obtain ⟨a, cap, rfl, hlen, hc⟩ := hv
  have hsz : ∀ x, x ∈ ss → x.size ≤ 9223372036854775807 := fun x hx => by
    obtain ⟨i, hi, rfl⟩ := List.getElem_of_mem hx
    obtain ⟨_, _, _, _, _, h⟩ := hc i hi
    exact h
  rcases Nat.eq_zero_or_pos ss.length with h0 | h0
  · have hss : ss = [] := List.eq_nil_of_length_eq_zero h0
    subst hss
    cases a with
    | none =>
      refine (Try.slices_Clone_string_nil 0 cap w).mono ?_
      rintro e w' ⟨rfl, rfl⟩
      exact ⟨_, rfl, ⟨by simp, Or.inl ⟨rfl, rfl⟩⟩, rfl, hsz, Below.refl _ _⟩
    | some ad =>
      refine (Try.slices_Clone_string_zero ad cap w).mono ?_
      rintro e w' ⟨v', rfl, h1, -, h2⟩
      exact ⟨_, rfl, h1, rfl, hsz, h2⟩
  · obtain ⟨b, o, rfl, -, -, -⟩ := hc 0 h0
    refine (Try.slices_Clone_string b o ss.length cap ss w (Nat.le_refl _) (by omega) (fun j hj => ?_)).mono ?_
    · obtain ⟨b', o', e, -, hcell, -⟩ := hc j hj
      simp only [Option.some.injEq, Addr.mk.injEq, and_true] at e
      obtain ⟨rfl, rfl⟩ := e
      rw [hcell]
      simp [List.getD, hj]
    · rintro e w' ⟨v', rfl, h1, -, h2⟩
      rw [List.take_of_length_le (Nat.le_refl _)] at h1
      exact ⟨_, rfl, h1, rfl, hsz, h2⟩

/-- The place of the first that is the same; -1 if there is none. -/
def idxB (ss : List ByteArray) (x : ByteArray) : Int := match ss.findIdx? (fun y => sameB y x) with | some i => i | none => -1
theorem sameB_symm (x y : ByteArray) : sameB x y = sameB y x := by
  unfold sameB
  rw [Bool.eq_iff_iff, beq_iff_eq, beq_iff_eq]
  exact ⟨Eq.symm, Eq.symm⟩
theorem idxB_yes {ss : List ByteArray} {x : ByteArray} (k : Nat) (hk : k < ss.length) (h : sameB ss[k] x = true) (hno : ∀ j, j < k → (hj : j < ss.length) → sameB ss[j] x = false) : idxB ss x = k := by
  unfold idxB
  have : ss.findIdx? (fun y => sameB y x) = some k := by
    rw [List.findIdx?_eq_some_iff_getElem]
    exact ⟨hk, h, fun j hj => by rw [hno j hj (by omega)]; decide⟩
  rw [this]
theorem idxB_no {ss : List ByteArray} {x : ByteArray} (hno : ∀ j, (hj : j < ss.length) → sameB ss[j] x = false) : idxB ss x = -1 := by
  unfold idxB
  have : ss.findIdx? (fun y => sameB y x) = none := by
    rw [List.findIdx?_eq_none_iff]
    intro f hf
    obtain ⟨j, hj, rfl⟩ := List.getElem_of_mem hf
    exact hno j hj
  rw [this]

set_option maxHeartbeats 400000 in
theorem index_any (v : Value) (ss : List ByteArray) (x : ByteArray) (w : World) {P : Nat → Prop} (hv : StrsAt P w v ss) :
    Calls Try.prog 63 #[v, .string x] w fun e w' => e = .returned (.int .i64 (idxB ss x)) ∧ w' = w := by
  obtain ⟨a, cap, rfl, hlen, hc⟩ := hv
  have HC := hide hc; clear hc
  go_enter Try.func63, Try.ntmps63
  go_wp2
  go_loop [8] (fun i => ∃ (k : Nat), k ≤ ss.length ∧ i = .int .i64 k ∧ Hid (∀ j, j < k → (hj : j < ss.length) → sameB ss[j] x = false)) (fun i => ss.length - (intOf i).toNat)
  case atStart => exact ⟨0, Nat.zero_le _, rfl, fun j hj => by omega⟩
  case round =>
    obtain ⟨k, hk, rfl, HQ⟩ := hrel
    by_cases hlt : k < ss.length
    · obtain ⟨b, o, rfl, _, hcell, hsz⟩ := unhide HC k hlt
      cases e : sameB ss[k] x with
      | true =>
        have hd := hide (idxB_yes k hlt e HQ.out)
        rw [sameB_symm] at e
        unfold sameB at e
        go_wp2
        go_ret
        exact ⟨by rw [unhide hd]; rfl, rfl⟩
      | false =>
        have HE := hide e
        rw [sameB_symm] at e
        unfold sameB at e
        go_wp2
        go_round
        case rel => exact ⟨k + 1, by omega, by go_num, fun j hj hjl => by
          by_cases h : j = k
          · subst h; exact unhide HE
          · exact HQ.out j (by omega) hjl⟩
        case measure => simp [intOf]; omega
    · go_wp2
      go_ret
      exact ⟨by rw [idxB_no (fun j hj => HQ.out j (by omega) hj)]; rfl, rfl⟩

/-- Cells that are laid one behind the other into a row of the call's own. -/
theorem ownsRow_sets {base : Nat} {e : TypeId} {g n cap : Nat} : ∀ (vs a b : List Value) (w : World), w.ownsRow base e 1 (.slice (some ⟨g, 0, none⟩) n cap) n (a ++ b) → b.length = vs.length →
    (w.setCells g a.length vs).ownsRow base e 1 (.slice (some ⟨g, 0, none⟩) n cap) n (a ++ vs)
  | [], a, b, w, h, hb => by
    have : b = [] := List.eq_nil_of_length_eq_zero (by simpa using hb)
    subst this; exact h
  | v :: r, a, b, w, h, hb => by
    match b, hb with
    | x :: b', hb =>
      have h1 := ownsRow_put h a.length v
      have h2 : (a ++ x :: b').set a.length v = (a ++ [v]) ++ b' := by simp
      rw [h2] at h1
      have h3 := ownsRow_sets r (a ++ [v]) b' _ h1 (by simpa using hb)
      rw [List.length_append, List.append_assoc] at h3
      exact h3

theorem encS (y : ByteArray) : encStr y.data.toList = Value.string y := rfl

theorem delete_any (ns : List ByteArray) (i : Nat) (w0 w : World) (v : Value) (n : Nat) (h : NmOwn w0 w v n ns) (hi : i < n) (hw : w0.heap.size ≤ w.heap.size) :
    Calls Try.prog 64 #[v, .int .i64 (i : Int), .int .i64 ((i : Int) + 1)] w fun e w' => ∃ v', e = .returned v' ∧ NmOwn w0 w' v' (n - 1) (ns.take i ++ ns.drop (i + 1)) := by
  obtain ⟨g, cap, rfl, hg, hlt⟩ := h.own.form (by omega)
  have hn := h.len
  rcases h.own.2 with ⟨hno, _⟩ | ⟨g', cap', cur, hv, hb, hh, hle, hm, hsz, htk⟩
  · cases hno
  simp only [Value.slice.injEq, Option.some.injEq, Addr.mk.injEq, and_true, true_and] at hv
  obtain ⟨rfl, rfl⟩ := hv
  have hcell : ∀ j, j < n → w.cell? ⟨g, 0 + j, none⟩ = some (.string (ns.getD j ByteArray.empty)) := fun j hj => by
    have h1 : (ns.map Value.string)[j]? = some (.string ns[j]) := by simp [show j < ns.length by omega]
    rw [← htk, List.getElem?_take_of_lt (by omega)] at h1
    simp only [World.cell?, hh, Nat.zero_add]
    rw [List.getD_eq_getElem?_getD, List.getElem?_eq_getElem (by omega)]
    simpa using h1
  have hfr : ∀ j, j < n → w.frozen? ⟨g, 0 + j, none⟩ = false := fun j _ => freeOfHeap hh _
  have hd := Try.slices_Delete_string_cells g 0 n cap i (i + 1) (fun j => ns.getD j ByteArray.empty) w hle (by unfold maxLen at hm; omega) (by omega) (by omega) hcell hfr
  have hs : Lib.strsOf (fun j => ns.getD j ByteArray.empty) n = ns.map fun (y : ByteArray) => y.data.toList := by
    unfold Lib.strsOf
    apply List.ext_getElem
    · simp [hn]
    · intro k h1 h2
      simp at h1 h2
      simp [List.getD, h2]
  rw [hs] at hd
  refine hd.mono ?_
  rintro e w' ⟨rfl, q, rfl⟩
  have hvs : (((ns.map fun (y : ByteArray) => y.data.toList).take i ++ (ns.map fun (y : ByteArray) => y.data.toList).drop (i + 1) ++ List.replicate (i + 1 - i) []).map encStr) = ((ns.take i ++ ns.drop (i + 1)).map Value.string) ++ [.string ByteArray.empty] := by
    rw [show i + 1 - i = 1 by omega, List.map_append, List.map_append, ← List.map_take, ← List.map_drop, List.map_map, List.map_map, List.map_append]
    rfl
  rw [hvs]
  have hlen : ((ns.take i ++ ns.drop (i + 1)).map Value.string).length = n - 1 := by simp; omega
  have hrow := ownsRow_sets (((ns.take i ++ ns.drop (i + 1)).map Value.string) ++ [.string ByteArray.empty]) [] (ns.map Value.string) (w.drewN q) h.own (by rw [List.length_append, hlen, List.length_map]; simp; omega)
  rw [List.nil_append, List.length_nil] at hrow
  refine ⟨_, by rw [show n - (i + 1 - i) = n - 1 by omega], ?_, ?_, ?_, ?_⟩
  · obtain ⟨m, rfl⟩ : ∃ m, n = m + 1 := ⟨n - 1, by omega⟩
    exact ownsRow_pop (by rw [hlen]; omega) hrow
  · rw [List.length_map] at hlen; exact hlen.symm
  · intro y hy
    rcases List.mem_append.1 hy with h1 | h1
    · exact h.sz y (List.mem_of_mem_take h1)
    · exact h.sz y (List.mem_of_mem_drop h1)
  · have hsz2 : ∀ (vs : List Value) (o : Nat) (W : World), (W.setCells g o vs).heap.size = W.heap.size := fun vs => by
      induction vs with
      | nil => intro o W; rfl
      | cons a r ih => intro o W; rw [World.setCells, ih]; simp [World.setCell]
    refine h.below.trans ⟨?_, ?_, ?_, ?_, fun k hk => ?_⟩
    · exact World.os_setCells _ _ _ _
    · have : ∀ (vs : List Value) (o : Nat) (W : World), (W.setCells g o vs).tape = W.tape := fun vs => by
        induction vs with
        | nil => intro o W; rfl
        | cons a r ih => intro o W; rw [World.setCells, ih]; rfl
      exact this _ _ _
    · exact World.output_setCells _ _ _ _
    · rw [hsz2]; exact Nat.le_refl _
    · rw [World.heap_setCells_other _ _ _ _ (by show k < w.heap.size; omega) (by omega)]; rfl
end Go.Proofs.Ytepknipcflbodaa
