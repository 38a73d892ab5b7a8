/- The walk of the specification's l5Names, and of l5Kind where it reads no kids: some schema in new memory. Draws at most 10^8. -/
import Derived.Test.YtkmjhcidafkflaaPart02
import Derived.Test.YtkmjhcidafkflaaPart06
import Derived.Deep.RegionLaw
import Derived.Deep.AppendLies
import Derived.Deep.CutRange
namespace Go.Proofs.Ytkmjhcidafkflaa
open Go Go.RowKit

/-- How many draws, and how great a schema, at most. -/
def cd : Nat → Nat
  | 0 => 30
  | d + 1 => 30 + 5 * cd d

/-- What drawing a schema comes to. -/
def LkEnd (d R : Nat) (w w' : World) (v : Value) (b : List UInt8) (p : Nat) (e : Ending) : Prop :=
  ∃ (k : Kd) (c : C3) (F : List Nat) (p' : Nat), e = .returned (.agg #[c.c0, c.c1, c.c2]) ∧ OwnD w' k c F ∧ F.Nodup ∧ (∀ x, x ∈ F → w.heap.size ≤ x ∧ x < w'.heap.size) ∧ DR R w' v b p' ∧ p' ≤ p + cd d ∧ wKd k ≤ cd d ∧ But R w w'

theorem DR.set {R X : Nat} {w : World} {v : Value} {b : List UInt8} {p : Nat} (h : DR R w v b p) (hX : R < X) (o : Nat) (u : Value) : DR R (w.setCell ⟨X, o, none⟩ u) v b p :=
  h.block (fun g hg => Below.heap_setCell _ _ _ _ (by simp; omega)) (h.cells.of_block (Below.heap_setCell _ _ _ _ (by simp; omega)))
theorem DR.grown {R : Nat} {w w' : World} {v : Value} {b : List UInt8} {p : Nat} {row : Option Nat} (h : DR R w v b p) (hg : w.grownBy w' row) (hr : ∀ x, row = some x → R < x) : DR R w' v b p :=
  h.block (fun g hlt => hg.block g (by have := h.cells.lt; omega) (fun e => by have := hr g e.symm; omega)) (h.cells.of_block (hg.block R h.cells.lt (fun e => by have := hr R e.symm; omega)))
theorem but_setx {R : Nat} {w w' : World} (h : But R w w') {X : Nat} (hX : w.heap.size ≤ X) (o : Nat) (u : Value) : But R w (w'.setCell ⟨X, o, none⟩ u) :=
  ⟨h.os, h.tape, h.output, by simp only [size_setCell]; exact h.size, fun i hi hne => (Below.heap_setCell _ _ _ _ (by simp; omega)).trans (h.block i hi hne)⟩

/-- The answer is put into its box. -/
theorem lk_end {d R : Nat} {w W : World} {v : Value} {b : List UInt8} {p p' : Nat} {k : Kd} {c : C3} {F : List Nat} (hR : R < w.heap.size) (ho : OwnD W k c F) (hnd : F.Nodup) (hF : ∀ x, x ∈ F → w.heap.size < x ∧ x < W.heap.size) (hd : DR R W v b p') (h1 : p' ≤ p + cd d) (h2 : wKd k ≤ cd d) (hb : But R w W) (c0 c1 c2 : Value) :
    LkEnd d R w (((W.setCell ⟨w.heap.size, 0, none⟩ c0).setCell ⟨w.heap.size, 1, none⟩ c1).setCell ⟨w.heap.size, 2, none⟩ c2) v b p (.returned (.agg #[c.c0, c.c1, c.c2])) := by
  refine ⟨k, c, F, p', rfl, OwnD.carry _ _ F (fun y hy => by have := (hF y hy).1; repeat rw [Below.heap_setCell _ _ _ _ (by simp <;> omega)]) ho, hnd, fun x hx => ⟨by have := (hF x hx).1; omega, by simp only [size_setCell]; exact (hF x hx).2⟩, ?_, h1, h2, ?_⟩
  · repeat refine DR.set ?_ hR _ _
    exact hd
  · repeat refine but_setx ?_ (Nat.le_refl _) _ _
    exact hb

theorem lk_leaf {d R : Nat} {w W : World} {v : Value} {b : List UInt8} {p p' : Nat} {s : Int} (hs : I64 s) (hR : R < w.heap.size) (hd : DR R W v b p') (h1 : p' ≤ p + cd d) (hb : But R w W) (o : Obj) (c0 c1 c2 : Value) :
    LkEnd d R w ((((W.setCell ⟨w.heap.size, 0, none⟩ c0).setCell ⟨w.heap.size, 1, none⟩ c1).setCell ⟨w.heap.size, 2, none⟩ c2).alloc o) v b p (.returned (.agg #[.int .i64 s, .slice none 0 0, .slice none 0 0])) := by
  refine ⟨.mk s [] [], ⟨_, _, _⟩, [], p', rfl, OwnD.leaf _ _ hs, List.nodup_nil, (fun x hx => by cases hx), ?_, h1, by simp [wKd, wS, wKs], ?_⟩
  · refine DR.on ?_ ((Below.refl _ _).alloc (Nat.le_refl _) o)
    repeat refine DR.set ?_ hR _ _
    exact hd
  · refine But.trans ?_ (But.alloc R _ o)
    repeat refine but_setx ?_ (Nat.le_refl _) _ _
    exact hb

def nm8 : List ByteArray := [⟨#[97]⟩, ⟨#[98]⟩, ⟨#[105, 100]⟩, ⟨#[108, 105, 115, 116]⟩, ⟨#[110]⟩, ⟨#[115, 117, 109]⟩, ⟨#[116, 97, 103]⟩, ⟨#[119, 104, 111]⟩]

theorem box3_start (R : Nat) (w : World) (v : Value) (b : List UInt8) (p : Nat) (h : DR R w v b p) (o : Obj) : DR R (w.alloc o) v b p ∧ But R w (w.alloc o) ∧ R < w.heap.size :=
  ⟨h.on ((Below.refl _ w).alloc (Nat.le_refl _) o), But.alloc R w o, h.cells.lt⟩

end Go.Proofs.Ytkmjhcidafkflaa

/- The walk of the specification's l5Kind at its last level: some schema in new memory. Draws at most 10^8. -/

namespace Go.Proofs.Ytkmjhcidafkflaa
open Go Go.RowKit

end Go.Proofs.Ytkmjhcidafkflaa

/- The walk of the specification's l5Kind at any level: some schema in new memory. Draws at most 10^8. -/

namespace Go.Proofs.Ytkmjhcidafkflaa
open Go Go.RowKit

theorem infoStr1 : (Try.prog.info? 9).map (fun i => (i.zero, i.size, i.bytes)) = some (some (.string ByteArray.empty), 1, 16) := by kernel_rfl
theorem wS_snoc1 (ns : List ByteArray) (x : ByteArray) : wS (ns ++ [x]) = wS ns + x.size + 1 := by
  induction ns with
  | nil => simp [wS]
  | cons a r ih => simp only [List.cons_append, wS, ih]; omega
theorem wKs_snoc1 (ks : List Kd) (k : Kd) : wKs (ks ++ [k]) = wKs ks + wKd k + 1 := by
  induction ks with
  | nil => simp [wKs]; omega
  | cons a r ih => simp only [List.cons_append, wKs, ih]; omega
theorem nm8_size (i : Nat) : (nm8.getD i ByteArray.empty).size ≤ 4 := by
  by_cases h : i < 8
  · rcases (show i = 0 ∨ i = 1 ∨ i = 2 ∨ i = 3 ∨ i = 4 ∨ i = 5 ∨ i = 6 ∨ i = 7 by omega) with rfl | rfl | rfl | rfl | rfl | rfl | rfl | rfl <;> decide
  · rw [List.getD_eq_getElem?_getD, List.getElem?_eq_none (by simp [nm8]; omega)]; decide

theorem World.grownBy.refl_drew (w : World) : w.grownBy w.drew none := ⟨rfl, rfl, rfl, Nat.le_refl _, fun _ _ _ => rfl⟩

/-- The bounds of what is gathered. -/
def LB (D p m n q : Nat) (ns : List ByteArray) (ks : List Kd) : Prop :=
  ns.length = n ∧ ks.length = n ∧ (∀ x, x ∈ ns → x.size ≤ 4) ∧ wS ns + wKs ks ≤ n * (6 + D) ∧ q ≤ p + 1 + m + n * D
theorem LB.pass {D p m n q : Nat} {ns : List ByteArray} {ks : List Kd} (h : LB D p m n q ns ks) : LB D p (m + 1) n (q + 1) ns ks := by
  obtain ⟨h1, h2, h3, h4, h5⟩ := h
  exact ⟨h1, h2, h3, h4, by omega⟩
theorem LB.more {D p m n q q' : Nat} {ns : List ByteArray} {ks : List Kd} {x : ByteArray} {k : Kd} (h : LB D p m n q ns ks) (hx : x.size ≤ 4) (hk : wKd k ≤ D) (hq : q' ≤ q + 1 + D) : LB D p (m + 1) (n + 1) q' (ns ++ [x]) (ks ++ [k]) := by
  obtain ⟨h1, h2, h3, h4, h5⟩ := h
  refine ⟨by simp [h1], by simp [h2], fun y hy => ?_, ?_, ?_⟩
  · rcases List.mem_append.1 hy with hy | hy
    · exact h3 y hy
    · simp at hy; rw [hy]; exact hx
  · rw [wS_snoc1, wKs_snoc1, Nat.succ_mul]; omega
  · rw [Nat.succ_mul]; omega
theorem LB.draws {D p m n q : Nat} {ns : List ByteArray} {ks : List Kd} (h : LB D p m n q ns ks) (hn : n ≤ 3) (hm : m ≤ 8) : q ≤ p + 9 + 3 * D := by
  have := Nat.mul_le_mul_right D hn
  have := h.2.2.2.2
  omega
theorem LB.fin {D p m n q : Nat} {ns : List ByteArray} {ks : List Kd} (h : LB D p m n q ns ks) (hn : n ≤ 4) (hm : m ≤ 8) : q ≤ p + (30 + 5 * D) ∧ wS ns + wKs ks ≤ 30 + 5 * D := by
  have h1 := Nat.mul_le_mul_right D hn
  have h2 := Nat.mul_le_mul_right (6 + D) hn
  have := h.2.2.2.2
  have := h.2.2.2.1
  omega

end Go.Proofs.Ytkmjhcidafkflaa
