/- The walks of the specification's l41Copy, l41Keep: disks in new memory. Conditions: the disk is ok, or of at most 1000 of each. -/
import Derived.Test.YtmaojhacdelleaaPart15
import Derived.Test.YtmaojhacdelleaaPart04
import Derived.Deep.CutRange
import Derived.Test.YtmaojhacdelleaaRows
import Derived.Orders
import Derived.WalkKit
namespace Go.Proofs.Ytmaojhacdelleaa
open Go Go.RowKit

theorem infoMoveM : (Try.prog.info? 77).map (fun i => (i.zero, i.size, i.bytes)) = some (some (.agg #[.bool false, .string ByteArray.empty]), 2, 24) := by kernel_rfl
theorem infoMoveD : ∃ i, Try.prog.info? 77 = some i ∧ i.zero = some (.agg #[.bool false, .string ByteArray.empty]) ∧ i.size = 2 ∧ i.bytes = 24 := by
  have := infoMoveM
  cases h : Try.prog.info? 77 with
  | none => rw [h] at this; simp at this
  | some i => rw [h] at this; exact ⟨i, rfl, by simpa using this⟩
/-- Cells of rows that lie in memory, to be copied. -/
theorem flat_src {P : Nat → Prop} {W : World} {a : Option Addr} {m cap n : Nat} {rs : List (List Value)} (h : FlatAt P W (.slice a m cap) n rs) (hn : ∀ r, r ∈ rs → r.length = n) : 0 < m → ∃ ad, a = some ad ∧ ∀ j u, rs.flatten[j]? = some u → W.cell? (ad.add j) = some u := by
  obtain ⟨a', cap', e, -, hc⟩ := h
  simp only [Value.slice.injEq] at e
  obtain ⟨rfl, hm, -⟩ := e
  intro h0
  obtain ⟨b, o, rfl, -, -⟩ := hc 0 (by omega)
  refine ⟨_, rfl, fun j u hj => ?_⟩
  have hjl := (List.getElem?_eq_some_iff.1 hj).1
  rw [flat_len rs hn] at hjl
  rcases Nat.eq_zero_or_pos n with hn0 | hn0
  · subst hn0; omega
  have hi : j / n < rs.length := (Nat.div_lt_iff_lt_mul hn0).2 hjl
  obtain ⟨b', o', e3, -, hcell⟩ := hc (j / n) hi
  simp only [Option.some.injEq, Addr.mk.injEq, and_true] at e3
  obtain ⟨rfl, rfl⟩ := e3
  have h1 := flat_get rs hn (j / n) hi (j % n) (Nat.mod_lt _ hn0)
  have hdm : j / n * n + j % n = j := by rw [Nat.mul_comm]; exact Nat.div_add_mod j n
  rw [hdm] at h1
  rw [h1] at hj
  rw [Addr.add_lit]
  have h2 := hcell (j % n) (Nat.mod_lt _ hn0)
  rw [Nat.add_assoc, hdm] at h2
  rw [h2]; exact hj
/-- A copy of rows, onto an empty row, in a region that draws. -/
theorem run_copyD {P : Program} (w : World) (t ty : TypeId) (base : Nat) (e : TypeId) (i : TypeInfo) (z : Value) (size bytes : Nat) (h1 : P.underlying t = some (.slice e)) (h2 : P.info? e = some i) (h3 : i.zero = some z) (h4 : i.size = size) (h5 : i.bytes = bytes) (h6 : z.cells.size = size) (h7 : 0 < size)
    (g0 : Nat) (hown : w.ownsRow base e size (.slice (some ⟨g0, 0, none⟩) 0 0) 0 [])
    (ax : Option Addr) (m c : Nat) (xs : List Value) (hn : xs.length = m * size) (hc : 0 < m → ∃ ad, ax = some ad ∧ ∀ j u, xs[j]? = some u → w.cell? (ad.add j) = some u) (h1c : ∀ u ∈ xs, u.oneCell' = true)
    (b1 : m ≤ maxLen) (b2 : m * bytes ≤ 140737488355328) (hbase : base ≤ w.heap.size) :
    ∃ g cap w', (Builtin.append_ #[t, t] ty #[.slice (some ⟨g0, 0, none⟩) 0 0, .slice ax m c]).run P w = .ok (.slice (some ⟨g, 0, none⟩) m cap) w' ∧ w'.ownsRow base e size (.slice (some ⟨g, 0, none⟩) m cap) m xs ∧ w.grownBy w' (some g0) := by
  rcases Nat.eq_zero_or_pos m with h0 | h0
  · subst h0
    have hxs : xs = [] := List.eq_nil_of_length_eq_zero (by rw [hn]; omega)
    subst hxs
    refine ⟨g0, 0, w, ?_, hown, World.grownBy.refl w _⟩
    cases ax with
    | none => simp [Builtin.append_, run_underlying h1, sizeOf, typeInfo, h2, Builtin.lenOf, Builtin.firstCells, go_sem]
    | some ad => simp [Builtin.append_, run_underlying h1, sizeOf, typeInfo, h2, Builtin.lenOf, Builtin.firstCells, go_sem]
  · obtain ⟨ad, rfl, hcc⟩ := hc h0
    obtain ⟨g, cap, w', hr, ho, hg, -, -⟩ := run_append_lies (P := P) w t ty base e i z size bytes h1 h2 h3 h4 h5 h6 h7 (.slice (some ⟨g0, 0, none⟩) 0 0) 0 [] hown ad m c xs hn hcc h1c h0 (by omega) (by rw [Nat.zero_add]; exact b2) hbase w.heap.size rfl
    rw [Nat.zero_add, List.nil_append] at ho
    rw [Nat.zero_add] at hr
    exact ⟨g, cap, w', hr, ho, hg⟩
end Go.Proofs.Ytmaojhacdelleaa

/- A region that draws its order, by an invariant over what is done already: no program. No conditions. -/

namespace Go.Proofs.Ytmaojhacdelleaa
open Go Go.RowKit

theorem count_set {l : List Bool} {i : Nat} (h : l[i]? = some false) : (l.set i true).count false + 1 = l.count false := by
  induction l generalizing i with
  | nil => simp at h
  | cons b r ih =>
    cases i with
    | zero =>
      simp at h
      subst h
      simp
    | succ i =>
      have := ih (i := i) (by simpa using h)
      cases b <;> simp <;> omega
theorem ready_false {md : Region.Mode} {ops : Array Oper} {l : Array Bool} {i : Nat} (h : i ∈ Region.ready md ops l) : l.toList[i]? = some false := by
  unfold Region.ready at h
  rw [List.mem_filter] at h
  have h2 := h.2
  simp only [Bool.and_eq_true, Bool.not_eq_true'] at h2
  have h3 := h2.1
  rw [Array.getD_eq_getD_getElem?] at h3
  cases e : l[i]? with
  | none => rw [e] at h3; simp at h3
  | some b => rw [e] at h3; simp at h3; subst h3; simpa using e
theorem wpAny_inv {P : Program} {md : Region.Mode} {ops : Array Oper} {Q : Exit → Act → World → Prop} (Inv : Array Bool → Act → World → Prop)
    (hend : ∀ l a w, Inv l a w → Region.ready md ops l = [] → Q .normal a w)
    (hstep : ∀ l a w i, Inv l a w → i ∈ Region.ready md ops l → wpOp P ops Q i (fun a' w' => Inv (l.setIfInBounds i true) a' w') a w) :
    ∀ (fuel : Nat) (l : Array Bool) (a : Act) (w : World), Inv l a w → l.toList.count false ≤ fuel → wpAny P md ops Q fuel l a w
  | 0, l, a, w, h, hc => by
    have hr : Region.ready md ops l = [] := by
      cases e : Region.ready md ops l with
      | nil => rfl
      | cons i r =>
        have h1 := ready_false (md := md) (ops := ops) (l := l) (i := i) (by rw [e]; simp)
        have h2 := count_set h1
        omega
    exact ⟨hr, hend l a w h hr⟩
  | fuel + 1, l, a, w, h, hc => by
    refine ⟨fun hr => hend l a w h hr, fun i hi => ?_⟩
    refine wpOp_mono (fun a' w' h' => wpAny_inv Inv hend hstep fuel _ a' w' h' ?_) (hstep l a w i h hi)
    have h1 := count_set (ready_false hi)
    rw [Array.toList_setIfInBounds]
    omega
/-- A region, by an invariant. -/
theorem wp_region_inv {P : Program} {ops : Array Oper} {Q : Exit → Act → World → Prop} {id : Nat} {a : Act} {w : World} (hm : P.follows .mixedOrders = true) (Inv : Array Bool → Act → World → Prop)
    (h0 : Inv (Array.replicate ops.size false) a w.drew)
    (hend : ∀ l a w, Inv l a w → Region.ready .any ops l = [] → Q .normal a w)
    (hstep : ∀ l a w i, Inv l a w → i ∈ Region.ready .any ops l → wpOp P ops Q i (fun a' w' => Inv (l.setIfInBounds i true) a' w') a w) : (Code.region id ops true).wp P Q a w :=
  wp_region_any hm (wpAny_inv Inv hend hstep ops.size _ a _ h0 (by simp))
end Go.Proofs.Ytmaojhacdelleaa
