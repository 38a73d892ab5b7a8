/- Pieces of rows of bytes. No program, no conditions. -/
import Derived.Test.YtkmjhcidafkflaaRcDat
namespace Go.Proofs.Ytkmjhcidafkflaa
open Go Go.RowKit

theorem ba_inj {a b : ByteArray} (h : a.data.toList = b.data.toList) : a = b := by
  apply ByteArray.ext
  exact Array.toList_inj.1 h
theorem ext_list (s : ByteArray) (a b : Nat) : (s.extract a b).data.toList = (s.data.toList.drop a).take (b - a) := by
  rw [ByteArray.data_extract, Array.toList_extract]
theorem size_list (s : ByteArray) : s.data.toList.length = s.size := by simp
theorem drp_list (s : ByteArray) (a : Nat) : (s.extract a s.size).data.toList = s.data.toList.drop a := by
  rw [ext_list, List.take_of_length_le (by rw [List.length_drop, size_list]; omega)]
theorem drp_size (s : ByteArray) (a : Nat) : (s.extract a s.size).size = s.size - a := by
  rw [ByteArray.size_extract]; omega
theorem drp_drp (s : ByteArray) (a b : Nat) : (s.extract a s.size).extract b (s.extract a s.size).size = s.extract (a + b) s.size := by
  apply ba_inj
  rw [drp_list, drp_list, drp_list, List.drop_drop]
theorem drp_zero (s : ByteArray) : s.extract 0 s.size = s := by
  apply ba_inj
  rw [drp_list]; rfl
theorem drp_ext (s : ByteArray) (a b c : Nat) : (s.extract a s.size).extract b c = s.extract (a + b) (a + c) := by
  apply ba_inj
  rw [ext_list, drp_list, ext_list, List.drop_drop]
  congr 1; omega
theorem byB_drp (s : ByteArray) (a j : Nat) : byB (s.extract a s.size) j = byB s (a + j) := by
  unfold byB
  rw [drp_list]
  simp [List.getD_eq_getElem?_getD, List.getElem?_drop]
theorem szB_drp (s : ByteArray) (a j : Nat) : szB (s.extract a s.size) j = szB s (a + j) := by
  unfold szB; rw [byB_drp, byB_drp, Nat.add_assoc]
theorem psB_drp (s : ByteArray) (a j : Nat) : psB (s.extract a s.size) j = psB s (a + j) := by
  unfold psB; rw [byB_drp, byB_drp, byB_drp]; simp only [Nat.add_assoc]
theorem whB_drp {s : ByteArray} {a : Nat} (ha : a ≤ s.size) : whB (s.extract a s.size) 0 ↔ whB s a := by
  have hz : (s.extract a s.size).size + a = s.size := by rw [drp_size]; omega
  unfold whB
  rw [szB_drp, psB_drp]
  simp only [Nat.add_zero]
  generalize (s.extract a s.size).size = k at *
  constructor
  · rintro ⟨h1, h2, h3, h4⟩; exact ⟨by omega, h2, h3, by omega⟩
  · rintro ⟨h1, h2, h3, h4⟩; exact ⟨by omega, h2, h3, by omega⟩
end Go.Proofs.Ytkmjhcidafkflaa
