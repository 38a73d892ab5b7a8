/- What a tree is as plain data, its weight, and how it lies in memory: definitions and small laws, no program. No conditions. -/
import Derived.WalkKit
import Derived.Deep.OwnRows
import Derived.Lib.ItoaLen
import Derived.Lib.ItoaMem
import Derived.Test.YtcnkkegpckibbaaDoorRows
import Derived.Lib.ItoaNum
import Derived.Deep.RegionWith
import Derived.WalkSmall
namespace Go.Proofs.YtcnkkegpckibbaaDoor
open Go Go.RowKit

theorem hide {p : Prop} (h : p) : Hid p := h
theorem unhide {p : Prop} (h : Hid p) : p := h

/-- A tree as plain data. -/
inductive Tr where
  | mk (sort num : Int) (text : ByteArray) (names : List ByteArray) (kids : List Tr)

namespace Tr
end Tr




end Go.Proofs.YtcnkkegpckibbaaDoor

/- What a schema is as plain data, its weight, and how it lies in memory: definitions and small laws, no program. No conditions. -/

namespace Go.Proofs.YtcnkkegpckibbaaDoor
open Go Go.RowKit

/-- A schema as plain data. -/
inductive Kd where
  | mk (sort : Int) (names : List ByteArray) (kids : List Kd)

namespace Kd
end Kd




def row3 (c0 c1 c2 : Value) : Nat → Value
  | 0 => c0
  | 1 => c1
  | _ => c2

theorem row3_alloc (w : World) (c0 c1 c2 : Value) (t : TypeId) : (w.alloc (.cells #[c0, c1, c2] t)).rowIs w.heap.size t 3 (row3 c0 c1 c2) :=
  World.rowIs_alloc w #[c0, c1, c2] t _ (fun i hi => by
    have hi' : i < 3 := hi
    match i, hi' with
    | 0, _ => rfl
    | 1, _ => rfl
    | 2, _ => rfl)

end Go.Proofs.YtcnkkegpckibbaaDoor

/- What a disk is as plain data, its weight, and how it lies in memory: definitions and small laws, no program. No conditions. -/

namespace Go.Proofs.YtcnkkegpckibbaaDoor
open Go Go.RowKit

/-- Rows of n cells each, one behind the other, behind a slice: each row's cells are as told. -/
def FlatAt (P : Nat → Prop) (w : World) (v : Value) (n : Nat) (rs : List (List Value)) : Prop :=
  ∃ a cap, v = .slice a rs.length cap ∧ rs.length ≤ 9223372036854775807 ∧
    ∀ i, (h : i < rs.length) → ∃ b o, a = some ⟨b, o, none⟩ ∧ P b ∧ ∀ j, j < n → w.cell? ⟨b, o + i * n + j, none⟩ = some (rs[i].getD j undef)
theorem FlatAt.carry {P Q : Nat → Prop} {w w' : World} {v : Value} {n : Nat} {rs : List (List Value)} (h : FlatAt P w v n rs) (hP : ∀ b, P b → w'.heap[b]? = w.heap[b]?) (hQ : ∀ b, P b → Q b) : FlatAt Q w' v n rs := by
  obtain ⟨a, cap, h1, h2, h3⟩ := h
  refine ⟨a, cap, h1, h2, fun i hi => ?_⟩
  obtain ⟨b, o, e, hb, hc⟩ := h3 i hi
  exact ⟨b, o, e, hQ b hb, fun j hj => by rw [World.cell?_of_block (w := w) (hP b hb)]; exact hc j hj⟩
end Go.Proofs.YtcnkkegpckibbaaDoor

/- What a plan is as plain data, how it lies in memory, when it is ok. No program, no conditions. -/

namespace Go.Proofs.YtcnkkegpckibbaaDoor
open Go Go.RowKit

structure Pt where
  (num first next size : Int)
structure Pl where
  (parts : List Pt) (op fi : Int)
instance : Inhabited Pt := ⟨⟨0, 0, 0, 0⟩⟩
def Pt.cs (p : Pt) : List Value := [.int .i64 p.num, .int .i64 p.first, .int .i64 p.next, .int .i64 p.size]
/-- Parts lie in memory. -/
def PtsAt (P : Nat → Prop) (w : World) (v : Value) (ps : List Pt) : Prop := FlatAt P w v 4 (ps.map Pt.cs)
theorem PtsAt.carry {P Q : Nat → Prop} {w w' : World} {v : Value} {ps : List Pt} (h : PtsAt P w v ps) (hP : ∀ b, P b → w'.heap[b]? = w.heap[b]?) (hQ : ∀ b, P b → Q b) : PtsAt Q w' v ps := FlatAt.carry h hP hQ
structure P4At (w : World) (b o : Nat) (p : Pt) : Prop where
  e0 : w.cell? ⟨b, o, none⟩ = some (.int .i64 p.num)
  e1 : w.cell? ⟨b, o + 1, none⟩ = some (.int .i64 p.first)
  e2 : w.cell? ⟨b, o + 2, none⟩ = some (.int .i64 p.next)
  e3 : w.cell? ⟨b, o + 3, none⟩ = some (.int .i64 p.size)
theorem P4At.carry {w w' : World} {b o : Nat} {p : Pt} (h : P4At w b o p) (hb : w'.heap[b]? = w.heap[b]?) : P4At w' b o p :=
  ⟨(World.cell?_of_block (w := w) (a := ⟨b, o, none⟩) hb).trans h.e0, (World.cell?_of_block (w := w) (a := ⟨b, o + 1, none⟩) hb).trans h.e1, (World.cell?_of_block (w := w) (a := ⟨b, o + 2, none⟩) hb).trans h.e2, (World.cell?_of_block (w := w) (a := ⟨b, o + 3, none⟩) hb).trans h.e3⟩
theorem PtsAt.open {P : Nat → Prop} {w : World} {v : Value} {ps : List Pt} (h : PtsAt P w v ps) : ∃ a cap, v = .slice a ps.length cap ∧ ps.length ≤ 9223372036854775807 ∧
    ∀ i, (hi : i < ps.length) → ∃ b o, a = some ⟨b, o, none⟩ ∧ P b ∧ P4At w b (o + i * 4) ps[i] := by
  obtain ⟨a, cap, h1, h2, h3⟩ := h
  rw [List.length_map] at h1 h2
  refine ⟨a, cap, h1, h2, fun i hi => ?_⟩
  obtain ⟨b, o, e, hb, hc⟩ := h3 i (by rw [List.length_map]; exact hi)
  have c0 := hc 0 (by omega); have c1 := hc 1 (by omega); have c2 := hc 2 (by omega); have c3 := hc 3 (by omega)
  simp only [List.getElem_map, Pt.cs, Nat.add_zero, List.getD_cons_zero, List.getD_cons_succ] at c0 c1 c2 c3
  exact ⟨b, o, e, hb, ⟨c0, c1, c2, c3⟩⟩

/-- Where a part begins: behind the one ahead. -/
def nx (ps : List Pt) : Nat → Int
  | 0 => 1
  | i + 1 => (ps.getD i default).next
theorem nx_succ {ps : List Pt} {i : Nat} (h : i < ps.length) : nx ps (i + 1) = ps[i].next := by
  show (ps.getD i default).next = _
  rw [List.getD_eq_getElem?_getD, List.getElem?_eq_getElem h]; rfl
def ptOk (p : Pt) (n : Int) : Prop := p.first = n ∧ p.first ≤ p.next ∧ p.next ≤ 1000000 ∧ 0 ≤ p.size ∧ p.size ≤ 20000
def numsOk (zs : List Int) : Prop := (∀ x, x ∈ zs → 1 ≤ x ∧ x ≤ 999999) ∧ zs.Nodup
/-- A plan that is ok, as the program asks it. -/
def plOk (l : Pl) : Prop := l.parts.length ≤ 40 ∧ numsOk (l.op :: l.parts.map Pt.num) ∧ (∀ i, (h : i < l.parts.length) → ptOk l.parts[i] (nx l.parts i)) ∧ l.fi = nx l.parts l.parts.length
/-- What the specification asks of a part. -/
def sPt (l : Pl) (i : Nat) (h : i < l.parts.length) : Prop := (1 ≤ l.parts[i].num ∧ l.parts[i].num ≤ 999999) ∧ l.parts[i].num ≠ l.op ∧ ptOk l.parts[i] (nx l.parts i) ∧ ∀ j, (hj : j < i) → (l.parts[j]'(by omega)).num ≠ l.parts[i].num
theorem plOk_iff (l : Pl) : plOk l ↔ l.parts.length ≤ 40 ∧ (1 ≤ l.op ∧ l.op ≤ 999999) ∧ (∀ i, (h : i < l.parts.length) → sPt l i h) ∧ l.fi = nx l.parts l.parts.length := by
  constructor
  · rintro ⟨h1, ⟨h2, h3⟩, h4, h5⟩
    rw [List.nodup_cons] at h3
    refine ⟨h1, h2 _ (by simp), fun i h => ⟨h2 _ (by simp only [List.mem_cons, List.mem_map]; exact Or.inr ⟨_, List.getElem_mem h, rfl⟩), fun e => h3.1 (by rw [← e]; exact List.mem_map.2 ⟨_, List.getElem_mem h, rfl⟩), h4 i h, fun j hj => ?_⟩, h5⟩
    have := (List.pairwise_iff_getElem.1 h3.2) j i (by rw [List.length_map]; omega) (by rw [List.length_map]; omega) hj
    simpa using this
  · rintro ⟨h1, h2, h3, h4⟩
    refine ⟨h1, ⟨fun x hx => ?_, List.nodup_cons.2 ⟨fun hm => ?_, ?_⟩⟩, fun i h => (h3 i h).2.2.1, h4⟩
    · rcases List.mem_cons.1 hx with rfl | hx
      · exact h2
      · obtain ⟨p, hp, rfl⟩ := List.mem_map.1 hx
        obtain ⟨i, hi, rfl⟩ := List.getElem_of_mem hp
        exact (h3 i hi).1
    · obtain ⟨p, hp, he⟩ := List.mem_map.1 hm
      obtain ⟨i, hi, rfl⟩ := List.getElem_of_mem hp
      exact (h3 i hi).2.1 he
    · refine List.pairwise_iff_getElem.2 fun i j hi hj hij => ?_
      rw [List.length_map] at hj
      have := (h3 j hj).2.2.2 i hij
      simpa using this
end Go.Proofs.YtcnkkegpckibbaaDoor

/- The text of a plan, as bytes. No program, no conditions. -/

namespace Go.Proofs.YtcnkkegpckibbaaDoor
open Go Go.RowKit

def decB (n : Int) : ByteArray := ⟨(Lib.itoa n).toArray⟩
def Sm (n : Int) : Prop := -999999999 ≤ n ∧ n ≤ 999999999
theorem Sm.len {n : Int} (h : Sm n) : (Lib.itoa n).length ≤ 21 := Lib.itoa_length_le n (by have := h.1; omega) (by have := h.2; omega)
theorem decB_size {n : Int} (h : Sm n) : (decB n).size ≤ 21 := by
  have := h.len
  simpa [decB, ByteArray.size] using this
def sealL (p : Pt) : List UInt8 := [115, 101, 97, 108, 32] ++ Lib.itoa p.num ++ [32] ++ Lib.itoa p.first ++ [32] ++ Lib.itoa p.next ++ [32] ++ Lib.itoa p.size ++ [10]
def opnL (l : Pl) : List UInt8 := [111, 112, 101, 110, 32] ++ Lib.itoa l.op ++ [32] ++ Lib.itoa l.fi ++ [10]
def endL : List UInt8 := [101, 110, 100, 10]
def plX (l : Pl) (k : Nat) : List UInt8 := ((l.parts.take k).map sealL).flatten
def plT (l : Pl) : List UInt8 := plX l l.parts.length ++ (opnL l ++ endL)
theorem plX_succ {l : Pl} {k : Nat} (h : k < l.parts.length) : plX l (k + 1) = plX l k ++ sealL l.parts[k] := by
  unfold plX
  rw [List.take_succ_eq_append_getElem h, List.map_append, List.flatten_append]
  simp
open Classical in
/-- What LogPlanWrite comes to. -/
noncomputable def plW (l : Pl) : ByteArray := if plOk l then ⟨(plT l).toArray⟩ else ⟨#[]⟩
theorem plW_yes {l : Pl} (h : plOk l) : plW l = ⟨(plT l).toArray⟩ := if_pos h
theorem plW_no {l : Pl} (h : ¬ plOk l) : plW l = ⟨#[]⟩ := if_neg h
theorem nx_bd {l : Pl} (h : plOk l) : ∀ i, i ≤ l.parts.length → 1 ≤ nx l.parts i ∧ nx l.parts i ≤ 1000000
  | 0, _ => ⟨by show (1 : Int) ≤ 1; omega, by show (1 : Int) ≤ 1000000; omega⟩
  | i + 1, hi => by
    have ih := nx_bd h i (by omega)
    obtain ⟨h1, h2, h3, -, -⟩ := h.2.2.1 i (by omega)
    rw [nx_succ (by omega)]
    omega
theorem pt_sm {l : Pl} (h : plOk l) {i : Nat} (hi : i < l.parts.length) : Sm l.parts[i].num ∧ Sm l.parts[i].first ∧ Sm l.parts[i].next ∧ Sm l.parts[i].size := by
  have h0 := nx_bd h i (by omega)
  obtain ⟨h1, h2, h3, h4, h5⟩ := h.2.2.1 i hi
  have h6 := h.2.1.1 l.parts[i].num (by simp only [List.mem_cons, List.mem_map]; exact Or.inr ⟨_, List.getElem_mem hi, rfl⟩)
  unfold Sm
  omega
theorem op_sm {l : Pl} (h : plOk l) : Sm l.op ∧ Sm l.fi := by
  have h0 := nx_bd h l.parts.length (Nat.le_refl _)
  have h1 := h.2.2.2
  have h6 := h.2.1.1 l.op (by simp)
  unfold Sm
  omega
theorem sealL_len {p : Pt} (h : Sm p.num ∧ Sm p.first ∧ Sm p.next ∧ Sm p.size) : (sealL p).length ≤ 100 := by
  have a := h.1.len; have b := h.2.1.len; have c := h.2.2.1.len; have d := h.2.2.2.len
  unfold sealL
  simp only [List.length_append, List.length_cons, List.length_nil]
  omega
theorem opnL_len {l : Pl} (h : Sm l.op ∧ Sm l.fi) : (opnL l).length ≤ 100 := by
  have a := h.1.len; have b := h.2.len
  unfold opnL
  simp only [List.length_append, List.length_cons, List.length_nil]
  omega
theorem plX_len {l : Pl} (h : plOk l) : ∀ k, k ≤ l.parts.length → (plX l k).length ≤ 100 * k
  | 0, _ => by unfold plX; simp
  | k + 1, hk => by
    have ih := plX_len h k (by omega)
    have h1 := sealL_len (pt_sm h (i := k) (by omega))
    rw [plX_succ (by omega), List.length_append]
    omega
theorem seal_bytes (s : List UInt8) (p : Pt) : ((((((((((⟨s.toArray⟩ : ByteArray) ++ ⟨#[115, 101, 97, 108, 32]⟩) ++ decB p.num) ++ ⟨#[32]⟩) ++ decB p.first) ++ ⟨#[32]⟩) ++ decB p.next) ++ ⟨#[32]⟩) ++ decB p.size) ++ ⟨#[10]⟩ : ByteArray) = ⟨(s ++ sealL p).toArray⟩ := by
  apply ByteArray.ext
  unfold sealL decB
  simp
theorem open_bytes (s : List UInt8) (l : Pl) : ((((((⟨s.toArray⟩ : ByteArray) ++ ⟨#[111, 112, 101, 110, 32]⟩) ++ decB l.op) ++ ⟨#[32]⟩) ++ decB l.fi) ++ ⟨#[10, 101, 110, 100, 10]⟩ : ByteArray) = ⟨(s ++ (opnL l ++ endL)).toArray⟩ := by
  apply ByteArray.ext
  unfold opnL endL decB
  simp
end Go.Proofs.YtcnkkegpckibbaaDoor

/- How the specification reads a plan's text, as plain functions on bytes; that of a plan's own text it reads that plan. No program, no conditions. -/

namespace Go.Proofs.YtcnkkegpckibbaaDoor
open Go Go.RowKit

/-- A number of at most so many digits, from a place on. -/
def numS (X : List UInt8) : Nat → Int → Nat → Int × Nat
  | 0, n, i => (n, i)
  | f + 1, n, i => match X[i]? with
    | some b => if 48 ≤ b.toNat ∧ b.toNat ≤ 57 then numS X f (n * 10 + ((b.toNat : Int) - 48)) (i + 1) else (n, i)
    | none => (n, i)
theorem numS_yes {X : List UInt8} {f : Nat} {n : Int} {i : Nat} (hi : i < X.length) (h : 48 ≤ X[i].toNat ∧ X[i].toNat ≤ 57) : numS X (f + 1) n i = numS X f (n * 10 + ((X[i].toNat : Int) - 48)) (i + 1) := by
  simp only [numS, List.getElem?_eq_getElem hi, if_pos h]
theorem numS_no {X : List UInt8} {f : Nat} {n : Int} {i : Nat} (hi : i < X.length) (h : ¬ (48 ≤ X[i].toNat ∧ X[i].toNat ≤ 57)) : numS X f n i = (n, i) := by
  cases f with
  | zero => rfl
  | succ f => simp only [numS, List.getElem?_eq_getElem hi, if_neg h]
theorem numS_end {X : List UInt8} {f : Nat} {n : Int} {i : Nat} (hi : X.length ≤ i) : numS X f n i = (n, i) := by
  cases f with
  | zero => rfl
  | succ f => simp only [numS, List.getElem?_eq_none hi]
theorem numS_bd (X : List UInt8) : ∀ (f : Nat) (n : Int) (i : Nat) (B : Int), 0 ≤ n → n ≤ B → 1 ≤ B → 0 ≤ (numS X f n i).1 ∧ (numS X f n i).1 + 1 ≤ (B + 1) * 10 ^ f ∧ i ≤ (numS X f n i).2 ∧ (numS X f n i).2 ≤ i + f
  | 0, n, i, B, h0, h1, h2 => by simp only [numS]; omega
  | f + 1, n, i, B, h0, h1, h2 => by
    have hp : (1 : Int) ≤ 10 ^ f := by
      have : (0 : Int) < 10 ^ f := Int.pow_pos (by decide)
      omega
    have hs : (n, i).1 + 1 ≤ (B + 1) * 10 ^ (f + 1) := by
      have h3 : (B + 1) * 1 ≤ (B + 1) * 10 ^ (f + 1) := Int.mul_le_mul_of_nonneg_left (by have : (0 : Int) < 10 ^ (f + 1) := Int.pow_pos (by decide); omega) (by omega)
      simp only; omega
    by_cases hi : i < X.length
    · by_cases hd : 48 ≤ X[i].toNat ∧ X[i].toNat ≤ 57
      · rw [numS_yes hi hd]
        have ih := numS_bd X f (n * 10 + ((X[i].toNat : Int) - 48)) (i + 1) (B * 10 + 9) (by omega) (by omega) (by omega)
        refine ⟨ih.1, ?_, by omega, by omega⟩
        have : (B * 10 + 9 + 1) * 10 ^ f = (B + 1) * 10 ^ (f + 1) := by
          rw [Int.pow_succ, show B * 10 + 9 + 1 = (B + 1) * 10 by omega, Int.mul_assoc, Int.mul_comm 10]
        rw [← this]; exact ih.2.1
      · rw [numS_no hi hd]; exact ⟨h0, hs, by simp only; omega, by simp only; omega⟩
    · rw [numS_end (by omega)]; exact ⟨h0, hs, by simp only; omega, by simp only; omega⟩
/-- What digits come to. -/
def valD (n : Int) (ds : List UInt8) : Int := ds.foldl (fun n b => n * 10 + ((b.toNat : Int) - 48)) n
theorem numS_ds : ∀ (ds A Y : List UInt8) (f : Nat) (n : Int), (∀ b, b ∈ ds → 48 ≤ b.toNat ∧ b.toNat ≤ 57) → ds.length ≤ f → (∀ b, Y.head? = some b → ¬ (48 ≤ b.toNat ∧ b.toNat ≤ 57)) → numS (A ++ ds ++ Y) f n A.length = (valD n ds, A.length + ds.length)
  | [], A, Y, f, n, _, _, hY => by
    simp only [List.append_nil, valD, List.foldl_nil, List.length_nil, Nat.add_zero]
    cases Y with
    | nil => exact numS_end (by simp)
    | cons y Y =>
      refine numS_no (by simp) ?_
      have := hY y rfl
      simpa using this
  | b :: ds, A, Y, f, n, hd, hl, hY => by
    cases f with
    | zero => simp at hl
    | succ f =>
      have hi : A.length < (A ++ (b :: ds) ++ Y).length := by simp
      have hb : (A ++ (b :: ds) ++ Y)[A.length] = b := by simp
      rw [numS_yes hi (by rw [hb]; exact hd b (by simp)), hb]
      have e : A ++ (b :: ds) ++ Y = (A ++ [b]) ++ ds ++ Y := by simp
      have ih := numS_ds ds (A ++ [b]) Y f (n * 10 + ((b.toNat : Int) - 48)) (fun c hc => hd c (by simp [hc])) (by simpa using hl) hY
      rw [List.length_append, List.length_singleton] at ih
      rw [e, ih]
      simp only [valD, List.foldl_cons, List.length_cons, Prod.mk.injEq, true_and]
      omega
theorem dec_digits (u : Nat) : ∀ b, b ∈ Lib.decDigits u → 48 ≤ b.toNat ∧ b.toNat ≤ 57 := by
  induction u using Nat.strongRecOn with
  | ind u ih =>
    intro b hb
    rw [Lib.decDigits] at hb
    split at hb
    · next h =>
      simp only [List.mem_singleton] at hb
      subst hb
      simp only [UInt8.toNat_ofNat']
      omega
    · next h =>
      rcases List.mem_append.1 hb with hb | hb
      · exact ih (u / 10) (by omega) b hb
      · simp only [List.mem_singleton] at hb
        subst hb
        simp only [UInt8.toNat_ofNat']
        omega
theorem dec_val (u : Nat) : valD 0 (Lib.decDigits u) = u := by
  induction u using Nat.strongRecOn with
  | ind u ih =>
    rw [Lib.decDigits]
    split
    · next h =>
      simp only [valD, List.foldl_cons, List.foldl_nil, UInt8.toNat_ofNat']
      omega
    · next h =>
      have := ih (u / 10) (by omega)
      unfold valD at this ⊢
      rw [List.foldl_append, this]
      simp only [List.foldl_cons, List.foldl_nil, UInt8.toNat_ofNat']
      omega
theorem dec_len : ∀ (k u : Nat), u < 10 ^ (k + 1) → (Lib.decDigits u).length ≤ k + 1
  | 0, u, h => by rw [Lib.decDigits, dif_pos (by simpa using h)]; simp
  | k + 1, u, h => by
    rw [Lib.decDigits]
    split
    · simp
    · rw [List.length_append, List.length_singleton]
      have := dec_len k (u / 10) (by rw [Nat.pow_succ] at h; omega)
      omega
theorem itoa_dec {n : Int} (h0 : 0 ≤ n) : Lib.itoa n = Lib.decDigits n.toNat := by unfold Lib.itoa; rw [if_neg (by omega)]
/-- A number that is written is read. -/
theorem numS_itoa {A Y : List UInt8} {n : Int} (h0 : 0 ≤ n) (h1 : n ≤ 9999999) (hY : ∀ b, Y.head? = some b → ¬ (48 ≤ b.toNat ∧ b.toNat ≤ 57)) : numS (A ++ Lib.itoa n ++ Y) 7 0 A.length = (n, A.length + (Lib.itoa n).length) := by
  rw [itoa_dec h0, numS_ds _ A Y 7 0 (dec_digits _) (dec_len 6 _ (by omega)) hY, dec_val]
  simp only [Prod.mk.injEq, and_true]
  omega
/-- So many numbers, a byte behind each. -/
def numsI (X : List UInt8) (i : Nat) : Nat → List Int × Nat
  | 0 => ([], i)
  | j + 1 => ((numsI X i j).1 ++ [(numS X 7 0 (numsI X i j).2).1], (numS X 7 0 (numsI X i j).2).2 + 1)
theorem numsI_len (X : List UInt8) (i : Nat) : ∀ j, (numsI X i j).1.length = j
  | 0 => rfl
  | j + 1 => by simp [numsI, numsI_len X i j]
theorem numsI_bd (X : List UInt8) (i : Nat) : ∀ j, i ≤ (numsI X i j).2 ∧ (numsI X i j).2 ≤ i + 8 * j ∧ ∀ z, z ∈ (numsI X i j).1 → 0 ≤ z ∧ z ≤ 99999999
  | 0 => ⟨Nat.le_refl _, Nat.le_refl _, fun z hz => (by cases hz)⟩
  | j + 1 => by
    obtain ⟨h1, h2, h3⟩ := numsI_bd X i j
    have h4 := numS_bd X 7 0 (numsI X i j).2 1 (by omega) (by omega) (by omega)
    have h5 : ((1 : Int) + 1) * 10 ^ 7 = 20000000 := by decide
    rw [h5] at h4
    simp only [numsI]
    refine ⟨by omega, by omega, fun z hz => ?_⟩
    rcases List.mem_append.1 hz with hz | hz
    · exact h3 z hz
    · simp only [List.mem_singleton] at hz; subst hz; omega
/-- What stands behind so many lines of sealed parts. -/
def sealI (X : List UInt8) : Nat → List Pt × Nat
  | 0 => ([], 0)
  | j + 1 => ((sealI X j).1 ++ [⟨(numsI X ((sealI X j).2 + 5) 4).1.getD 0 0, (numsI X ((sealI X j).2 + 5) 4).1.getD 1 0, (numsI X ((sealI X j).2 + 5) 4).1.getD 2 0, (numsI X ((sealI X j).2 + 5) 4).1.getD 3 0⟩], (numsI X ((sealI X j).2 + 5) 4).2)
theorem sealI_len (X : List UInt8) : ∀ j, (sealI X j).1.length = j
  | 0 => rfl
  | j + 1 => by simp [sealI, sealI_len X j]
theorem sealI_bd (X : List UInt8) : ∀ j, (sealI X j).2 ≤ 100 * j
  | 0 => Nat.le_refl _
  | j + 1 => by
    have := sealI_bd X j
    have h := (numsI_bd X ((sealI X j).2 + 5) 4).2.1
    simp only [sealI]; omega
/-- Another sealed part is read. -/
def sealC (X : List UInt8) (j : Nat) : Prop := (sealI X j).2 + 5 ≤ X.length ∧ (X.drop (sealI X j).2).take 5 = [115, 101, 97, 108, 32] ∧ j ≤ 40
/-- What was read behind j sealed parts. -/
def readP (X : List UInt8) (j : Nat) : Pl := ⟨(sealI X j).1, (numsI X ((sealI X j).2 + 5) 2).1.getD 0 0, (numsI X ((sealI X j).2 + 5) 2).1.getD 1 0⟩
theorem nums4 {A Y : List UInt8} {a b c d : Int} (ha : 0 ≤ a ∧ a ≤ 9999999) (hb : 0 ≤ b ∧ b ≤ 9999999) (hc : 0 ≤ c ∧ c ≤ 9999999) (hd : 0 ≤ d ∧ d ≤ 9999999) : numsI (A ++ (Lib.itoa a ++ [32] ++ Lib.itoa b ++ [32] ++ Lib.itoa c ++ [32] ++ Lib.itoa d ++ [10]) ++ Y) A.length 4 = ([a, b, c, d], (A ++ (Lib.itoa a ++ [32] ++ Lib.itoa b ++ [32] ++ Lib.itoa c ++ [32] ++ Lib.itoa d ++ [10])).length) := by
  have hsp : ∀ (Z : List UInt8) (x : UInt8), ([32] ++ Z).head? = some x → ¬ (48 ≤ x.toNat ∧ x.toNat ≤ 57) := fun Z x h => by simp at h; subst h; decide
  have hnl : ∀ (Z : List UInt8) (x : UInt8), ([10] ++ Z).head? = some x → ¬ (48 ≤ x.toNat ∧ x.toNat ≤ 57) := fun Z x h => by simp at h; subst h; decide
  have e1 : A ++ (Lib.itoa a ++ [32] ++ Lib.itoa b ++ [32] ++ Lib.itoa c ++ [32] ++ Lib.itoa d ++ [10]) ++ Y = A ++ Lib.itoa a ++ ([32] ++ (Lib.itoa b ++ [32] ++ Lib.itoa c ++ [32] ++ Lib.itoa d ++ [10] ++ Y)) := by simp
  have e2 : A ++ (Lib.itoa a ++ [32] ++ Lib.itoa b ++ [32] ++ Lib.itoa c ++ [32] ++ Lib.itoa d ++ [10]) ++ Y = (A ++ Lib.itoa a ++ [32]) ++ Lib.itoa b ++ ([32] ++ (Lib.itoa c ++ [32] ++ Lib.itoa d ++ [10] ++ Y)) := by simp
  have e3 : A ++ (Lib.itoa a ++ [32] ++ Lib.itoa b ++ [32] ++ Lib.itoa c ++ [32] ++ Lib.itoa d ++ [10]) ++ Y = (A ++ Lib.itoa a ++ [32] ++ Lib.itoa b ++ [32]) ++ Lib.itoa c ++ ([32] ++ (Lib.itoa d ++ [10] ++ Y)) := by simp
  have e4 : A ++ (Lib.itoa a ++ [32] ++ Lib.itoa b ++ [32] ++ Lib.itoa c ++ [32] ++ Lib.itoa d ++ [10]) ++ Y = (A ++ Lib.itoa a ++ [32] ++ Lib.itoa b ++ [32] ++ Lib.itoa c ++ [32]) ++ Lib.itoa d ++ ([10] ++ Y) := by simp
  have n1 := numS_itoa (A := A) ha.1 ha.2 (hsp (Lib.itoa b ++ [32] ++ Lib.itoa c ++ [32] ++ Lib.itoa d ++ [10] ++ Y))
  have n2 := numS_itoa (A := A ++ Lib.itoa a ++ [32]) hb.1 hb.2 (hsp (Lib.itoa c ++ [32] ++ Lib.itoa d ++ [10] ++ Y))
  have n3 := numS_itoa (A := A ++ Lib.itoa a ++ [32] ++ Lib.itoa b ++ [32]) hc.1 hc.2 (hsp (Lib.itoa d ++ [10] ++ Y))
  have n4 := numS_itoa (A := A ++ Lib.itoa a ++ [32] ++ Lib.itoa b ++ [32] ++ Lib.itoa c ++ [32]) hd.1 hd.2 (hnl Y)
  rw [← e1] at n1; rw [← e2] at n2; rw [← e3] at n3; rw [← e4] at n4
  generalize A ++ (Lib.itoa a ++ [32] ++ Lib.itoa b ++ [32] ++ Lib.itoa c ++ [32] ++ Lib.itoa d ++ [10]) ++ Y = X at *
  simp only [List.length_append, List.length_singleton] at n1 n2 n3 n4
  simp only [numsI, n1]
  simp only [n2, n3, n4, List.nil_append, List.cons_append, List.length_append, List.length_singleton, Prod.mk.injEq, true_and]
  omega
theorem nums2 {A Y : List UInt8} {a b : Int} (ha : 0 ≤ a ∧ a ≤ 9999999) (hb : 0 ≤ b ∧ b ≤ 9999999) : (numsI (A ++ (Lib.itoa a ++ [32] ++ Lib.itoa b ++ [10]) ++ Y) A.length 2).1 = [a, b] := by
  have hsp : ∀ (Z : List UInt8) (x : UInt8), ([32] ++ Z).head? = some x → ¬ (48 ≤ x.toNat ∧ x.toNat ≤ 57) := fun Z x h => by simp at h; subst h; decide
  have hnl : ∀ (Z : List UInt8) (x : UInt8), ([10] ++ Z).head? = some x → ¬ (48 ≤ x.toNat ∧ x.toNat ≤ 57) := fun Z x h => by simp at h; subst h; decide
  have e1 : A ++ (Lib.itoa a ++ [32] ++ Lib.itoa b ++ [10]) ++ Y = A ++ Lib.itoa a ++ ([32] ++ (Lib.itoa b ++ [10] ++ Y)) := by simp
  have e2 : A ++ (Lib.itoa a ++ [32] ++ Lib.itoa b ++ [10]) ++ Y = (A ++ Lib.itoa a ++ [32]) ++ Lib.itoa b ++ ([10] ++ Y) := by simp
  have n1 := numS_itoa (A := A) ha.1 ha.2 (hsp (Lib.itoa b ++ [10] ++ Y))
  have n2 := numS_itoa (A := A ++ Lib.itoa a ++ [32]) hb.1 hb.2 (hnl Y)
  rw [← e1] at n1; rw [← e2] at n2
  generalize A ++ (Lib.itoa a ++ [32] ++ Lib.itoa b ++ [10]) ++ Y = X at *
  simp only [List.length_append, List.length_singleton] at n1 n2
  simp only [numsI, n1]
  simp only [n2, List.nil_append, List.cons_append]
/-- The numbers of a plan that is ok are read. -/
theorem pt_nn {l : Pl} (h : plOk l) {i : Nat} (hi : i < l.parts.length) : (0 ≤ l.parts[i].num ∧ l.parts[i].num ≤ 9999999) ∧ (0 ≤ l.parts[i].first ∧ l.parts[i].first ≤ 9999999) ∧ (0 ≤ l.parts[i].next ∧ l.parts[i].next ≤ 9999999) ∧ (0 ≤ l.parts[i].size ∧ l.parts[i].size ≤ 9999999) := by
  have h0 := nx_bd h i (by omega)
  obtain ⟨h1, h2, h3, h4, h5⟩ := h.2.2.1 i hi
  have h6 := h.2.1.1 l.parts[i].num (by simp only [List.mem_cons, List.mem_map]; exact Or.inr ⟨_, List.getElem_mem hi, rfl⟩)
  omega
theorem op_nn {l : Pl} (h : plOk l) : (0 ≤ l.op ∧ l.op ≤ 9999999) ∧ (0 ≤ l.fi ∧ l.fi ≤ 9999999) := by
  have h0 := nx_bd h l.parts.length (Nat.le_refl _)
  have h1 := h.2.2.2
  have h6 := h.2.1.1 l.op (by simp)
  omega
theorem plT_cut {l : Pl} {j : Nat} (hj : j < l.parts.length) : ∃ Y, plT l = plX l j ++ sealL l.parts[j] ++ Y := by
  have h : ∀ k, j < k → k ≤ l.parts.length → ∃ Y, plX l k = plX l j ++ sealL l.parts[j] ++ Y := by
    intro k hk hkl
    induction k with
    | zero => omega
    | succ k ih =>
      rw [plX_succ (by omega)]
      by_cases e : j = k
      · subst e; exact ⟨[], by simp⟩
      · obtain ⟨Y, hY⟩ := ih (by omega) (by omega)
        exact ⟨Y ++ sealL l.parts[k], by rw [hY]; simp⟩
  obtain ⟨Y, hY⟩ := h l.parts.length hj (Nat.le_refl _)
  exact ⟨Y ++ (opnL l ++ endL), by unfold plT; rw [hY]; simp⟩
/-- Behind j lines of a plan's own text its first j parts have been read. -/
theorem sealI_plT {l : Pl} (h : plOk l) : ∀ j, j ≤ l.parts.length → sealI (plT l) j = (l.parts.take j, (plX l j).length)
  | 0, _ => by simp [sealI, plX]
  | j + 1, hj => by
    have ih := sealI_plT h j (by omega)
    obtain ⟨Y, hY⟩ := plT_cut (l := l) (j := j) (by omega)
    obtain ⟨p1, p2, p3, p4⟩ := pt_nn h (i := j) (by omega)
    have e : plT l = (plX l j ++ [115, 101, 97, 108, 32]) ++ (Lib.itoa l.parts[j].num ++ [32] ++ Lib.itoa l.parts[j].first ++ [32] ++ Lib.itoa l.parts[j].next ++ [32] ++ Lib.itoa l.parts[j].size ++ [10]) ++ Y := by rw [hY]; unfold sealL; simp
    have hn := nums4 (A := plX l j ++ [115, 101, 97, 108, 32]) (Y := Y) p1 p2 p3 p4
    rw [← e] at hn
    have hl5 : (plX l j ++ [115, 101, 97, 108, 32]).length = (plX l j).length + 5 := by simp
    rw [hl5] at hn
    simp only [sealI, ih, hn]
    rw [List.take_succ_eq_append_getElem (by omega), plX_succ (by omega)]
    simp only [List.getD_cons_zero, List.getD_cons_succ, Prod.mk.injEq, true_and]
    unfold sealL
    simp only [List.length_append, List.length_cons, List.length_nil]
    omega
theorem sealC_plT {l : Pl} (h : plOk l) {j : Nat} (hj : j < l.parts.length) : sealC (plT l) j := by
  obtain ⟨Y, hY⟩ := plT_cut hj
  have e : plT l = plX l j ++ ([115, 101, 97, 108, 32] ++ ((Lib.itoa l.parts[j].num ++ [32] ++ Lib.itoa l.parts[j].first ++ [32] ++ Lib.itoa l.parts[j].next ++ [32] ++ Lib.itoa l.parts[j].size ++ [10]) ++ Y)) := by rw [hY]; unfold sealL; simp
  unfold sealC
  rw [sealI_plT h j (by omega)]
  refine ⟨?_, ?_, by have := h.1; omega⟩
  · rw [e]; simp
  · rw [e, List.drop_left]; rfl
theorem not_sealC_plT {l : Pl} (h : plOk l) : ¬ sealC (plT l) l.parts.length ∧ (sealI (plT l) l.parts.length).2 + 5 ≤ (plT l).length ∧ readP (plT l) l.parts.length = l := by
  have hs := sealI_plT h l.parts.length (Nat.le_refl _)
  have e : plT l = plX l l.parts.length ++ ([111, 112, 101, 110, 32] ++ (Lib.itoa l.op ++ [32] ++ Lib.itoa l.fi ++ [10] ++ endL)) := by unfold plT opnL; simp
  have e2 : plT l = (plX l l.parts.length ++ [111, 112, 101, 110, 32]) ++ (Lib.itoa l.op ++ [32] ++ Lib.itoa l.fi ++ [10]) ++ endL := by rw [e]; simp
  obtain ⟨o1, o2⟩ := op_nn h
  have hn := nums2 (A := plX l l.parts.length ++ [111, 112, 101, 110, 32]) (Y := endL) o1 o2
  rw [← e2] at hn
  have hl5 : (plX l l.parts.length ++ [111, 112, 101, 110, 32]).length = (plX l l.parts.length).length + 5 := by simp
  rw [hl5] at hn
  refine ⟨fun hc => ?_, ?_, ?_⟩
  · have h2 := hc.2.1
    rw [hs] at h2
    simp only at h2
    rw [e, List.drop_left] at h2
    simp at h2
  · rw [hs, e]; simp
  · unfold readP
    rw [hs]
    simp only [hn, List.take_length]
    rfl
/-- The specification's reading of a plan's own text stops behind its parts, and has read that plan. -/
theorem read_plT {l : Pl} (h : plOk l) {j : Nat} (h1 : ∀ i, i < j → sealC (plT l) i) (h2 : ¬ sealC (plT l) j) : (sealI (plT l) j).2 + 5 ≤ (plT l).length ∧ readP (plT l) j = l := by
  obtain ⟨n1, n2, n3⟩ := not_sealC_plT h
  have hj : j = l.parts.length := by
    rcases Nat.lt_trichotomy j l.parts.length with hlt | rfl | hgt
    · exact absurd (sealC_plT h hlt) h2
    · rfl
    · exact absurd (h1 _ hgt) n1
  subst hj
  exact ⟨n2, n3⟩
end Go.Proofs.YtcnkkegpckibbaaDoor

/- Digits as bytes and strings; small laws. No program walked, no conditions. -/

namespace Go.Proofs.YtcnkkegpckibbaaDoor
open Go Go.RowKit

/-- A digit's byte. -/
def dg (m : Int) : UInt8 := UInt8.ofNat (48 + m.toNat)
theorem dg_nat {m : Int} (h0 : 0 ≤ m) (h1 : m < 10) : ((dg m).toNat : Int) = 48 + m := by unfold dg; rw [UInt8.toNat_ofNat']; omega
theorem dec_small {n : Int} (h : n < 10) : Lib.decDigits n.toNat = [dg n] := by rw [Lib.decDigits, dif_pos (by omega)]; rfl
theorem dec_big {n : Int} (h : ¬ n < 10) : Lib.decDigits n.toNat = Lib.decDigits (n / 10).toNat ++ [dg (n % 10)] := by
  rw [Lib.decDigits, dif_neg (by omega), show (n / 10).toNat = n.toNat / 10 from by omega, show dg (n % 10) = UInt8.ofNat (48 + n.toNat % 10) from by unfold dg; rw [show (n % 10).toNat = n.toNat % 10 from by omega]]

/-- One byte, as a string. -/
theorem conv_one (W : World) (b cap : Nat) (m : Int) (h0 : 0 ≤ m) (h1 : m < 10) (hc : W.cell? ⟨b, 0, none⟩ = some (.int .u8 (48 + m))) :
    Sem.run Tryd.prog (convert 22 9 (.slice (some ⟨b, 0, none⟩) 1 cap)) W = .ok (.string ⟨#[dg m]⟩) W := by
  have := run_convert_bytes_back (P := Tryd.prog) W 22 9 5 ⟨b, 0, none⟩ cap [dg m] Tryd.underlying22 Tryd.underlying5 Tryd.underlying9 (fun j hj => by
    have hj0 : j = 0 := by simpa using hj
    subst hj0
    rw [Addr.add_lit, hc]
    simp only [List.getElem_cons_zero]
    rw [dg_nat h0 h1])
  simpa using this

theorem quo10 {n : Int} (h0 : 0 ≤ n) (h1 : n ≤ 999999999) : IntKind.i64.wrap (n.tdiv 10) = n / 10 := by
  rw [IntKind.wrap_i64, Int.tdiv_eq_ediv_of_nonneg h0]; omega
theorem rem10 {n : Int} (h0 : 0 ≤ n) : IntKind.i64.wrap (48 + n.tmod 10) = 48 + n % 10 := by
  rw [IntKind.wrap_i64, Int.tmod_eq_emod_of_nonneg h0]; omega
theorem rem10b (n : Int) : IntKind.u8.wrap (48 + n % 10) = 48 + n % 10 := by
  rw [IntKind.wrap_u8]; omega

theorem ba_append (a b : List UInt8) : ((⟨a.toArray⟩ : ByteArray) ++ (⟨b.toArray⟩ : ByteArray)) = ⟨(a ++ b).toArray⟩ := by
  apply ByteArray.ext
  simp
theorem ret_str {a b : ByteArray} (h : a = b) : Ending.returned (.string a) = .returned (.string b) := by rw [h]
theorem bc1 {w w1 : World} {o : Obj} (h : Below w.drew.heap.size w.drew w1) : Below w.heap.size w (w1.alloc o) :=
  (((Below.refl _ w).drew).trans h).alloc h.size o
theorem bc2 {w w1 : World} {o : Obj} (h : Below (w.alloc o).drew.heap.size (w.alloc o).drew w1) : Below w.heap.size w w1 :=
  (((Below.refl _ w).alloc (Nat.le_refl _) o).drew).trans (h.mono (by simp))
end Go.Proofs.YtcnkkegpckibbaaDoor

/- Worlds of which but one block is as it was; append onto a row of the call's own. No program walked, no conditions. -/

namespace Go.Proofs.YtcnkkegpckibbaaDoor
open Go Go.RowKit

theorem ownsRow_base {w : World} {base base' : Nat} {e : TypeId} {size : Nat} {v : Value} {n : Nat} {xs : List Value} (h : w.ownsRow base e size v n xs) (hb : base' ≤ base) : w.ownsRow base' e size v n xs := by
  refine ⟨h.1, ?_⟩
  rcases h.2 with h | ⟨g, cap, cur, h1, h2, h3⟩
  · exact Or.inl h
  · exact Or.inr ⟨g, cap, cur, h1, Nat.le_trans hb h2, h3⟩

/-- append onto a row of the call's own: behind it the value lies in the same block, or in a new one. -/
theorem append_row {P : Program} (w : World) {ops : Array Oper} {rest : List Oper} {o : Oper} {a : Act} {Q : Exit → Act → World → Prop}
    (hg : o.guard = none) (s x : Operand) (t : TypeId) (hop : o.op = Op.call { callee := Callee.builtin Builtin.append, args := #[s, x], argTypes := #[t, t] })
    (base : Nat) (e : TypeId) (i : TypeInfo) (z : Value) (size bytes : Nat) (h1 : P.underlying t = some (.slice e)) (h2 : P.info? e = some i) (h3 : i.zero = some z) (h4 : i.size = size) (h5 : i.bytes = bytes) (h6 : z.cells.size = size) (h7 : 0 < size)
    (v : Value) (n : Nat) (xs : List Value) (hs : a.eval s = v) (hown : w.ownsRow base e size v n xs)
    (ad : Addr) (m c : Nat) (news : List Value) (hx : a.eval x = .slice (some ad) m c) (hn : news.length = m * size) (hc : ∀ j u, news[j]? = some u → w.cell? (ad.add j) = some u) (h1c : ∀ u ∈ news, u.oneCell' = true)
    (hm : 0 < m) (b1 : n + m ≤ maxLen) (b2 : (n + m) * bytes ≤ 140737488355328) (hbase : base ≤ w.heap.size)
    (hK : ∀ v' w', w'.ownsRow base e size v' (n + m) (xs ++ news) → w.grownBy w' v.ownBlock → (v'.ownBlock = v.ownBlock ∨ ∃ g, v'.ownBlock = some g ∧ w.heap.size ≤ g) → wpList P ops Q rest (a.put o.dst v') w') :
    wpList P ops Q (o :: rest) a w := by
  have hgrow : ∀ v' w', w'.ownsRow w.heap.size e size v' (n + m) (xs ++ news) → w.grownBy w' none → wpList P ops Q rest (a.put o.dst v') w' := fun v' w' r1 r2 => by
    refine hK v' w' (ownsRow_base r1 hbase) ⟨r2.os, r2.tape, r2.output, r2.size, fun k hk _ => r2.block k hk (by simp)⟩ (Or.inr ?_)
    rcases r1.2 with ⟨_, h⟩ | ⟨g, cap, cur, hv, hgg, _⟩
    · omega
    · exact ⟨g, by rw [hv]; rfl, hgg⟩
  rcases hown.2 with ⟨hv, hn0⟩ | ⟨g, cap, cur, hv, hgb, hh, hle, hm2, hsz, htk⟩
  · subst hv; subst hn0
    have hxs : xs = [] := List.eq_nil_of_length_eq_zero (by have := hown.1; simpa using this)
    subst hxs
    exact wpList_append_grows w hg s x t hop e i z size bytes h1 h2 h3 h4 h5 h6 h7 none 0 0 [] hs (fun _ => ⟨rfl, rfl⟩) (by simp) (fun b hb => by cases hb) ad m c news hx hn hc h1c (by omega) b1 b2 hgrow
  · by_cases hr : n + m ≤ cap
    · subst hv
      exact wpList_append_fits w hg s x t hop base e i size h1 h2 h4 g n cap xs hs hown ad m c news hx hn hc h1c hr fun w' r1 r2 => hK _ w' r1 r2 (Or.inl rfl)
    · refine wpList_append_grows w hg s x t hop e i z size bytes h1 h2 h3 h4 h5 h6 h7 (some ⟨g, 0, none⟩) n cap xs (by rw [hs, hv]) (fun hb => by cases hb) hown.1 (fun b hb j u hj => ?_) ad m c news hx hn hc h1c (by omega) b1 b2 hgrow
      simp only [Option.some.injEq] at hb
      subst hb
      have hj' : cur.toList[j]? = some u := by
        rw [← htk] at hj
        rw [List.getElem?_take] at hj
        split at hj
        · exact hj
        · cases hj
      rw [Addr.add_lit]
      simp only [Nat.zero_add, World.cell?, hh]
      simpa using hj'

theorem cell_one (w : World) (x : Value) (t : TypeId) : ∀ j u, [x][j]? = some u → (w.alloc (.cells #[x] t)).cell? ((⟨w.heap.size, 0, none⟩ : Addr).add j) = some u := by
  intro j u hj
  match j with
  | 0 => simp only [List.getElem?_cons_zero, Option.some.injEq] at hj; subst hj; rw [Addr.add_lit]; simp [go_sem]
  | j + 1 => simp at hj
end Go.Proofs.YtcnkkegpckibbaaDoor

/- Records as bytes: what LogFrame gives, and the walks of both sides' functions. No conditions but that a string's length is one. -/

namespace Go.Proofs.YtcnkkegpckibbaaDoor
open Go Go.RowKit

/-- A byte. -/
def hb (x : Int) : UInt8 := UInt8.ofNat x.toNat
theorem frInS (a b c : Int) (w : World) : Calls Tryd.prog 18 #[.int .i64 a, .int .i64 b, .int .i64 c] w fun e w' => e = .returned (.bool (decide (b ≤ a ∧ a ≤ c))) ∧ Below w.heap.size w w' := by
  go_enter Tryd.func18, Tryd.ntmps18
  by_cases h1 : b ≤ a
  · by_cases h2 : a ≤ c
    · go_wp2_with fail
      go_ret
      exact ⟨by simp [h2]; omega, Below.refl _ _⟩
    · go_wp2_with fail
      go_ret
      exact ⟨by simp; omega, Below.refl _ _⟩
  · go_wp2_with fail
    go_ret
    exact ⟨by simp; omega, Below.refl _ _⟩
theorem frInP (a b c : Int) (w : World) : Calls Tryd.prog 21 #[.int .i64 a, .int .i64 b, .int .i64 c] w fun e w' => e = .returned (.bool (decide (b ≤ a ∧ a ≤ c))) ∧ Below w.heap.size w w' := by
  go_enter Tryd.func21, Tryd.ntmps21
  by_cases h1 : b ≤ a
  · by_cases h2 : a ≤ c
    · go_wp2_with fail
      go_ret
      exact ⟨by simp [h2]; omega, Below.refl _ _⟩
    · go_wp2_with fail
      go_ret
      exact ⟨by simp; omega, Below.refl _ _⟩
  · go_wp2_with fail
    go_ret
    exact ⟨by simp; omega, Below.refl _ _⟩
end Go.Proofs.YtcnkkegpckibbaaDoor
