/- The text of a plan, as bytes. No program, no conditions. -/
import Derived.Test.YtmaojhacdelleaaDoorPlDat
import Derived.Lib.ItoaLen
import Derived.Lib.ItoaMem
namespace Go.Proofs.YtmaojhacdelleaaDoor
open Go Go.RowKit

def decB (n : Int) : ByteArray := ⟨(Lib.itoa n).toArray⟩
def Sm (n : Int) : Prop := -999999999 ≤ n ∧ n ≤ 999999999
theorem Sm.len {n : Int} (h : Sm n) : (Lib.itoa n).length ≤ 21 := Lib.itoa_length_le n (by have := h.1; omega) (by have := h.2; omega)
theorem decB_size {n : Int} (h : Sm n) : (decB n).size ≤ 21 := by
  have := h.len
  simpa [decB, ByteArray.size] using this
def sealL (p : Pt) : List UInt8 := [115, 101, 97, 108, 32] ++ Lib.itoa p.num ++ [32] ++ Lib.itoa p.first ++ [32] ++ Lib.itoa p.next ++ [32] ++ Lib.itoa p.size ++ [10]
def openL (l : Pl) : List UInt8 := [111, 112, 101, 110, 32] ++ Lib.itoa l.op ++ [32] ++ Lib.itoa l.fi ++ [10]
def endL : List UInt8 := [101, 110, 100, 10]
def plX (l : Pl) (k : Nat) : List UInt8 := ((l.parts.take k).map sealL).flatten
def plT (l : Pl) : List UInt8 := plX l l.parts.length ++ (openL l ++ endL)
theorem plX_succ {l : Pl} {k : Nat} (h : k < l.parts.length) : plX l (k + 1) = plX l k ++ sealL l.parts[k] := by
  unfold plX
  rw [List.take_succ_eq_append_getElem h, List.map_append, List.flatten_append]
  simp
open Classical in
/-- What LogPlanWrite comes to. -/
noncomputable def plW (l : Pl) : ByteArray := if plOk l then ⟨(plT l).toArray⟩ else ⟨#[]⟩
theorem plW_yes {l : Pl} (h : plOk l) : plW l = ⟨(plT l).toArray⟩ := if_pos h
theorem plW_no {l : Pl} (h : ¬ plOk l) : plW l = ⟨#[]⟩ := if_neg h
theorem nx_bd {l : Pl} (h : plOk l) : ∀ i, i ≤ l.parts.length → 1 ≤ nx l.parts i ∧ nx l.parts i ≤ 1000000
  | 0, _ => ⟨by show (1 : Int) ≤ 1; omega, by show (1 : Int) ≤ 1000000; omega⟩
  | i + 1, hi => by
    have ih := nx_bd h i (by omega)
    obtain ⟨h1, h2, h3, -, -⟩ := h.2.2.1 i (by omega)
    rw [nx_succ (by omega)]
    omega
theorem pt_sm {l : Pl} (h : plOk l) {i : Nat} (hi : i < l.parts.length) : Sm l.parts[i].num ∧ Sm l.parts[i].first ∧ Sm l.parts[i].next ∧ Sm l.parts[i].size := by
  have h0 := nx_bd h i (by omega)
  obtain ⟨h1, h2, h3, h4, h5⟩ := h.2.2.1 i hi
  have h6 := h.2.1.1 l.parts[i].num (by simp only [List.mem_cons, List.mem_map]; exact Or.inr ⟨_, List.getElem_mem hi, rfl⟩)
  unfold Sm
  omega
theorem op_sm {l : Pl} (h : plOk l) : Sm l.op ∧ Sm l.fi := by
  have h0 := nx_bd h l.parts.length (Nat.le_refl _)
  have h1 := h.2.2.2
  have h6 := h.2.1.1 l.op (by simp)
  unfold Sm
  omega
theorem sealL_len {p : Pt} (h : Sm p.num ∧ Sm p.first ∧ Sm p.next ∧ Sm p.size) : (sealL p).length ≤ 100 := by
  have a := h.1.len; have b := h.2.1.len; have c := h.2.2.1.len; have d := h.2.2.2.len
  unfold sealL
  simp only [List.length_append, List.length_cons, List.length_nil]
  omega
theorem openL_len {l : Pl} (h : Sm l.op ∧ Sm l.fi) : (openL l).length ≤ 100 := by
  have a := h.1.len; have b := h.2.len
  unfold openL
  simp only [List.length_append, List.length_cons, List.length_nil]
  omega
theorem plX_len {l : Pl} (h : plOk l) : ∀ k, k ≤ l.parts.length → (plX l k).length ≤ 100 * k
  | 0, _ => by unfold plX; simp
  | k + 1, hk => by
    have ih := plX_len h k (by omega)
    have h1 := sealL_len (pt_sm h (i := k) (by omega))
    rw [plX_succ (by omega), List.length_append]
    omega
theorem seal_bytes (s : List UInt8) (p : Pt) : ((((((((((⟨s.toArray⟩ : ByteArray) ++ ⟨#[115, 101, 97, 108, 32]⟩) ++ decB p.num) ++ ⟨#[32]⟩) ++ decB p.first) ++ ⟨#[32]⟩) ++ decB p.next) ++ ⟨#[32]⟩) ++ decB p.size) ++ ⟨#[10]⟩ : ByteArray) = ⟨(s ++ sealL p).toArray⟩ := by
  apply ByteArray.ext
  unfold sealL decB
  simp
theorem open_bytes (s : List UInt8) (l : Pl) : ((((((⟨s.toArray⟩ : ByteArray) ++ ⟨#[111, 112, 101, 110, 32]⟩) ++ decB l.op) ++ ⟨#[32]⟩) ++ decB l.fi) ++ ⟨#[10, 101, 110, 100, 10]⟩ : ByteArray) = ⟨(s ++ (openL l ++ endL)).toArray⟩ := by
  apply ByteArray.ext
  unfold openL endL decB
  simp
end Go.Proofs.YtmaojhacdelleaaDoor
