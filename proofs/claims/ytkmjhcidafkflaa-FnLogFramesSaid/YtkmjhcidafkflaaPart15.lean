/- Records as plain data, how they lie in memory, and what stands in a row of bytes. No program, no conditions. -/
import Derived.Test.YtkmjhcidafkflaaPart14
namespace Go.Proofs.Ytkmjhcidafkflaa
open Go Go.RowKit

structure Rc where
  (pos : Int) (data : ByteArray)
instance : Inhabited Rc := ⟨⟨0, ByteArray.empty⟩⟩
def Rc.cs (r : Rc) : List Value := [.int .i64 r.pos, .string r.data]
def Rc.okM (r : Rc) : Prop := r.data.size ≤ 9223372036854775807
def RcsAt (P : Nat → Prop) (w : World) (v : Value) (rs : List Rc) : Prop := FlatAt P w v 2 (rs.map Rc.cs) ∧ ∀ r, r ∈ rs → r.okM
def RcsOwn (w : World) (v : Value) (rs : List Rc) (F : List Nat) : Prop := FlatOwn w v 2 (rs.map Rc.cs) F ∧ ∀ r, r ∈ rs → r.okM
theorem RcsAt.carry {P Q : Nat → Prop} {w w' : World} {v : Value} {rs : List Rc} (h : RcsAt P w v rs) (hP : ∀ b, P b → w'.heap[b]? = w.heap[b]?) (hQ : ∀ b, P b → Q b) : RcsAt Q w' v rs := ⟨h.1.carry hP hQ, h.2⟩
theorem RcsOwn.carry {w w' : World} {v : Value} {rs : List Rc} {F : List Nat} (h : RcsOwn w v rs F) (hF : ∀ b, b ∈ F → w'.heap[b]? = w.heap[b]?) : RcsOwn w' v rs F := ⟨h.1.carry hF, h.2⟩
theorem RcsOwn.at {w : World} {v : Value} {rs : List Rc} {F : List Nat} (h : RcsOwn w v rs F) : RcsAt (· ∈ F) w v rs := ⟨h.1.at, h.2⟩
theorem RcsAt.open {P : Nat → Prop} {w : World} {v : Value} {rs : List Rc} (h : RcsAt P w v rs) : ∃ a cap, v = .slice a rs.length cap ∧ rs.length ≤ 9223372036854775807 ∧
    ∀ i, (hi : i < rs.length) → ∃ b o, a = some ⟨b, o, none⟩ ∧ P b ∧ w.cell? ⟨b, o + i * 2, none⟩ = some (.int .i64 rs[i].pos) ∧ w.cell? ⟨b, o + i * 2 + 1, none⟩ = some (.string rs[i].data) ∧ rs[i].okM := by
  obtain ⟨⟨a, cap, h1, h2, h3⟩, h4⟩ := h
  rw [List.length_map] at h1 h2
  refine ⟨a, cap, h1, h2, fun i hi => ?_⟩
  obtain ⟨b, o, e, hb, hc⟩ := h3 i (by rw [List.length_map]; exact hi)
  have c0 := hc 0 (by omega); have c1 := hc 1 (by omega)
  simp only [List.getElem_map, Rc.cs, Nat.add_zero, List.getD_cons_zero, List.getD_cons_succ] at c0 c1
  exact ⟨b, o, e, hb, c0, c1, h4 _ (List.getElem_mem hi)⟩

/-- A byte of a row. -/
def byB (s : ByteArray) (i : Nat) : Int := ((s.data.toList.getD i 0).toNat : Int)
theorem byB_lt (s : ByteArray) (i : Nat) : 0 ≤ byB s i ∧ byB s i < 256 := by
  unfold byB; have := (s.data.toList.getD i 0).toNat_lt; omega
def szB (s : ByteArray) (i : Nat) : Int := byB s i * 256 + byB s (i + 1)
def psB (s : ByteArray) (i : Nat) : Int := byB s (i + 2) * 65536 + byB s (i + 3) * 256 + byB s (i + 4)
/-- Whether a whole record stands at a place. -/
def whB (s : ByteArray) (i : Nat) : Prop := i + 5 ≤ s.size ∧ szB s i ≤ 2000 ∧ (1 ≤ psB s i ∧ psB s i ≤ 999999) ∧ (i : Int) + 5 + szB s i ≤ s.size
instance (s : ByteArray) (i : Nat) : Decidable (whB s i) := by unfold whB; infer_instance
def rcB (s : ByteArray) (i : Nat) : Rc := ⟨psB s i, s.extract (i + 5) (i + 5 + (szB s i).toNat)⟩
theorem szB_nn (s : ByteArray) (i : Nat) : 0 ≤ szB s i := by
  have h1 := byB_lt s i; have h2 := byB_lt s (i + 1); unfold szB; omega
/-- The whole records from a place on, and where they end. -/
def frs (s : ByteArray) (i : Nat) : List Rc × Nat :=
  if h : whB s i then (rcB s i :: (frs s (i + 5 + (szB s i).toNat)).1, (frs s (i + 5 + (szB s i).toNat)).2) else ([], i)
termination_by s.size - i
decreasing_by all_goals (have := h.1; omega)
theorem frs_yes {s : ByteArray} {i : Nat} (h : whB s i) : frs s i = (rcB s i :: (frs s (i + 5 + (szB s i).toNat)).1, (frs s (i + 5 + (szB s i).toNat)).2) := by
  rw [frs]; simp only [h, dif_pos]
theorem frs_no {s : ByteArray} {i : Nat} (h : ¬ whB s i) : frs s i = ([], i) := by
  rw [frs]; simp only [h, dif_neg, not_false_eq_true]
/-- What has been read, what is left. -/
def FrI (s : ByteArray) (L : List Rc) (i : Nat) : Prop := frs s 0 = (L ++ (frs s i).1, (frs s i).2) ∧ i ≤ s.size ∧ L.length * 5 ≤ i
theorem FrI.start (s : ByteArray) : FrI s [] 0 := ⟨by simp, Nat.zero_le _, by simp⟩
theorem FrI.next {s : ByteArray} {L : List Rc} {i : Nat} (h : FrI s L i) (hw : whB s i) : FrI s (L ++ [rcB s i]) (i + 5 + (szB s i).toNat) := by
  obtain ⟨h1, h2, h3⟩ := h
  rw [frs_yes hw] at h1
  have := szB_nn s i
  exact ⟨by rw [h1]; simp, by have := hw.2.2.2; omega, by simp; omega⟩
theorem FrI.done {s : ByteArray} {L : List Rc} {i : Nat} (h : FrI s L i) (hw : ¬ whB s i) : frs s 0 = (L, i) := by
  rw [h.1, frs_no hw]; simp
end Go.Proofs.Ytkmjhcidafkflaa

/- Pieces of rows of bytes. No program, no conditions. -/

namespace Go.Proofs.Ytkmjhcidafkflaa
open Go Go.RowKit

theorem ba_inj {a b : ByteArray} (h : a.data.toList = b.data.toList) : a = b := by
  apply ByteArray.ext
  exact Array.toList_inj.1 h
theorem ext_list (s : ByteArray) (a b : Nat) : (s.extract a b).data.toList = (s.data.toList.drop a).take (b - a) := by
  rw [ByteArray.data_extract, Array.toList_extract]
theorem size_list (s : ByteArray) : s.data.toList.length = s.size := by simp
theorem drp_list (s : ByteArray) (a : Nat) : (s.extract a s.size).data.toList = s.data.toList.drop a := by
  rw [ext_list, List.take_of_length_le (by rw [List.length_drop, size_list]; omega)]
theorem drp_size (s : ByteArray) (a : Nat) : (s.extract a s.size).size = s.size - a := by
  rw [ByteArray.size_extract]; omega
theorem drp_drp (s : ByteArray) (a b : Nat) : (s.extract a s.size).extract b (s.extract a s.size).size = s.extract (a + b) s.size := by
  apply ba_inj
  rw [drp_list, drp_list, drp_list, List.drop_drop]
theorem drp_zero (s : ByteArray) : s.extract 0 s.size = s := by
  apply ba_inj
  rw [drp_list]; rfl
theorem drp_ext (s : ByteArray) (a b c : Nat) : (s.extract a s.size).extract b c = s.extract (a + b) (a + c) := by
  apply ba_inj
  rw [ext_list, drp_list, ext_list, List.drop_drop]
  congr 1; omega
theorem byB_drp (s : ByteArray) (a j : Nat) : byB (s.extract a s.size) j = byB s (a + j) := by
  unfold byB
  rw [drp_list]
  simp [List.getD_eq_getElem?_getD, List.getElem?_drop]
theorem szB_drp (s : ByteArray) (a j : Nat) : szB (s.extract a s.size) j = szB s (a + j) := by
  unfold szB; rw [byB_drp, byB_drp, Nat.add_assoc]
theorem psB_drp (s : ByteArray) (a j : Nat) : psB (s.extract a s.size) j = psB s (a + j) := by
  unfold psB; rw [byB_drp, byB_drp, byB_drp]; simp only [Nat.add_assoc]
theorem whB_drp {s : ByteArray} {a : Nat} (ha : a ≤ s.size) : whB (s.extract a s.size) 0 ↔ whB s a := by
  have hz : (s.extract a s.size).size + a = s.size := by rw [drp_size]; omega
  unfold whB
  rw [szB_drp, psB_drp]
  simp only [Nat.add_zero]
  generalize (s.extract a s.size).size = k at *
  constructor
  · rintro ⟨h1, h2, h3, h4⟩; exact ⟨by omega, h2, h3, by omega⟩
  · rintro ⟨h1, h2, h3, h4⟩; exact ⟨by omega, h2, h3, by omega⟩
end Go.Proofs.Ytkmjhcidafkflaa
