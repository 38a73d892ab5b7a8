/- The specification's l4Reader.tree as a whole; small laws of the walk of its EventUnpack. No conditions. -/
import Derived.Test.YtffdofllebbcgaaDoorWUnO
import Derived.Test.YtffdofllebbcgaaDoorMerged38
namespace Go.Proofs.YtffdofllebbcgaaDoor
open Go Go.RowKit

theorem treeS_all : ∀ (n : Nat) (deep : Int), 0 ≤ deep → deep ≤ 7 → 7 - deep ≤ n → TreeS deep
  | 0, deep, h0, h7, hn => fun R w v b a bad h => treeS_stop R w v b a bad deep h ⟨h0, h7⟩ (Or.inr (Or.inl (by omega)))
  | n + 1, deep, h0, h7, hn => fun R w v b a bad h => by
    by_cases hd : 6 < deep
    · exact treeS_stop R w v b a bad deep h ⟨h0, h7⟩ (Or.inr (Or.inl hd))
    cases bad with
    | true => exact treeS_stop R w v b a true deep h ⟨h0, h7⟩ (Or.inl rfl)
    | false =>
      by_cases hlt : a < b.length
      · by_cases h1 : b[a].toNat = 1
        · exact treeS_num R w v b a deep h ⟨h0, by omega⟩ hlt h1
        by_cases h2 : b[a].toNat = 2
        · exact treeS_text R w v b a deep h ⟨h0, by omega⟩ hlt h2
        by_cases h3 : b[a].toNat = 3
        · exact treeS_flag R w v b a deep h ⟨h0, by omega⟩ hlt h3
        exact treeS_kids deep ⟨h0, by omega⟩ (treeS_all n (deep + 1) (by omega) (by omega) (by omega)) R w v b a h hlt h1 h2 h3
      · exact treeS_stop R w v b a false deep h ⟨h0, h7⟩ (Or.inr (Or.inr (by omega)))

/-- What was read, if the bytes are those of an event that is ok. -/
def RdOk (b : List UInt8) (ty : ByteArray) (x : Nat) (t : Tr) (a3 : Nat) (bad3 : Bool) : Prop :=
  ∀ ty0 ver0 t0, UpE b ty0 ver0 t0 → ty0 = ty ∧ ver0 = (x : Int) ∧ t0 = t ∧ bad3 = false ∧ a3 = b.length

theorem RdOk.make {b : List UInt8} {ty : ByteArray} {a1 a2 a3 x : Nat} {bad1 bad2 bad3 : Bool} {t : Tr}
    (h1 : ∀ (s0 : ByteArray) rest, s0.size < 256 → b.drop 0 = shortB s0 ++ rest → ty = s0 ∧ bad1 = false ∧ b.drop a1 = rest)
    (h2 : (∃ l, b.drop a1 = UInt8.ofNat x :: l ∧ l = b.drop a2 ∧ bad2 = bad1 ∧ a1 < a2) ∨ (b.drop a1 = [] ∧ x = 0 ∧ bad2 = true ∧ a2 = a1)) (hx : x ≤ 255)
    (h3 : bad2 = false → ∀ t0 rest, 0 < pT t0 1 → b.drop a2 = treeB t0 ++ rest → t = t0 ∧ bad3 = false ∧ b.drop a3 = rest) (hle : a3 ≤ b.length) : RdOk b ty x t a3 bad3 := by
  rintro ty0 ver0 t0 ⟨ho, he⟩
  have hf := evOk_facts ho
  have hE : b.drop 0 = shortB ty0 ++ (UInt8.ofNat ver0.toNat :: (treeB t0 ++ [])) := by rw [List.drop_zero, ← he, eventB]; simp
  obtain ⟨e1, e2, e3⟩ := h1 ty0 _ (by omega) hE
  rcases h2 with ⟨l, g1, g2, g3, -⟩ | ⟨g1, -⟩
  · rw [e3] at g1
    simp only [List.cons.injEq] at g1
    have hv := congrArg UInt8.toNat g1.1
    rw [show (UInt8.ofNat x).toNat = x from by simp; omega, show (UInt8.ofNat ver0.toNat).toNat = ver0.toNat from by simp; omega] at hv
    obtain ⟨q1, q2, q3⟩ := h3 (by rw [g3]; exact e2) t0 [] hf.2.2.2.2.2.2 (by rw [← g2, g1.2])
    have : b.length ≤ a3 := by simpa [List.drop_eq_nil_iff] using q3
    exact ⟨e1.symm, by omega, q1.symm, q2, by omega⟩
  · rw [e3] at g1; cases g1

set_option maxRecDepth 100000 in
set_option maxHeartbeats 800000 in
theorem l4Same_any (v1 v2 : Value) (l1 l2 : List UInt8) (w : World) (h1 : BytesAt w v1 l1) (h2 : BytesAt w v2 l2) :
    Calls Tryd.prog 39 #[v1, v2] w fun e w' => e = .returned (.bool (decide (l1 = l2))) ∧ w' = w := by
  have c1 := h1.str
  have c2 := h2.str
  clear h1 h2
  go_enter Tryd.func39, Tryd.ntmps39
  go_wp2_with fail
  go_ret
  refine ⟨?_, rfl⟩
  by_cases h : l1 = l2
  · subst h; simp
  · simp [h]
end Go.Proofs.YtffdofllebbcgaaDoor
