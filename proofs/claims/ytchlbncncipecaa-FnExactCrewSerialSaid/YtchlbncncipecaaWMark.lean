/- The walks of markText and markStringS: the text of a mark; strings that own their memory are marked in place, and nothing else turns. For marks up to 2^40. -/
import Derived.Test.YtchlbncncipecaaRows
import Derived.Test.YtchlbncncipecaaOwn
import Derived.Test.YtchlbncncipecaaWDig
namespace Go.Proofs.Ytchlbncncipecaa
open Go Go.RowKit

theorem mtl_step {j : Nat} (h : j ≠ 0) (o : ByteArray) : mtl j o = mtl (j / 10) (⟨#[dg ((j : Int) % 10)]⟩ ++ o) := by
  conv => lhs; rw [mtl]
  rw [dif_neg h]
  have : dg ((j : Int) % 10) = UInt8.ofNat (48 + j % 10) := by unfold dg; rw [show ((j : Int) % 10).toNat = j % 10 from by omega]
  rw [this]
theorem mtl_zero (o : ByteArray) : mtl 0 o = o := by rw [mtl]; simp

theorem quo10' {n : Int} (h0 : 0 ≤ n) (h1 : n ≤ 1099511627776) : IntKind.i64.wrap (n.tdiv 10) = n / 10 := by
  rw [IntKind.wrap_i64, Int.tdiv_eq_ediv_of_nonneg h0]; omega

/-- What the loop of markStringS has marked after k rounds. -/
def MrkS (w : World) (b : Nat) (ss : List ByteArray) (k0 k : Nat) : Prop :=
  FreeB w b ∧ ∀ i, (h : i < ss.length) → w.cell? ⟨b, i, none⟩ = some (.string (if i < k then mtx (k0 + i) else ss[i])) ∧ ss[i].size ≤ 9223372036854775807

theorem MrkS.step {w : World} {b : Nat} {ss : List ByteArray} {k0 k : Nat} (h : MrkS w b ss k0 k) (hk : k < ss.length) : MrkS (w.setCell ⟨b, k, none⟩ (.string (mtx (k0 + k)))) b ss k0 (k + 1) := by
  refine ⟨h.1.set _ _, fun i hi => ⟨?_, (h.2 i hi).2⟩⟩
  by_cases e : i = k
  · subst e
    have := (h.2 i hi).1
    rw [if_pos (by omega)]
    simp [go_sem, this]
  · have := (h.2 i hi).1
    rw [show (if i < k + 1 then mtx (k0 + i) else ss[i]) = (if i < k then mtx (k0 + i) else ss[i]) from by
      by_cases e2 : i < k
      · rw [if_pos e2, if_pos (by omega)]
      · rw [if_neg e2, if_neg (by omega)]]
    rw [← this]
    simp [go_sem]
theorem MrkS.of_block {w w' : World} {b : Nat} {ss : List ByteArray} {k0 k : Nat} (h : MrkS w b ss k0 k) (e : w'.heap[b]? = w.heap[b]?) : MrkS w' b ss k0 k :=
  ⟨h.1.of_block e, fun i hi => ⟨by rw [World.cell?_of_block (w := w) (a := ⟨b, i, none⟩) e]; exact (h.2 i hi).1, (h.2 i hi).2⟩⟩

end Go.Proofs.Ytchlbncncipecaa
