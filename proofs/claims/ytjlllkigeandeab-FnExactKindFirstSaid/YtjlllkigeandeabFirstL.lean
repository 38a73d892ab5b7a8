/- For the law on KindFirst: how many marks its trees and schemas take, and what its world holds between the calls. Definitions and small laws; no program walked, no conditions. -/
import Derived.Test.YtjlllkigeandeabWFirst3
import Derived.Test.YtjlllkigeandeabShp
namespace Go.Proofs.Ytjlllkigeandeab
open Go Go.RowKit

mutual
theorem kcT_le : ∀ t : Kd, kcT t ≤ wKd t + 1
  | .mk s ns ks => by
    rw [kcT, wKd]
    have := wS_len ns; have := kcK_le ks
    omega
theorem kcK_le : ∀ l : List Kd, kcK l ≤ wKs l
  | [] => by rw [kcK]; omega
  | t :: r => by
    rw [kcK, wKs]
    have := kcT_le t; have := kcK_le r
    omega
end
mutual
theorem cT_le : ∀ t : Kd, cT (fT t) ≤ 3 * (wKd t + 1)
  | .mk s ns ks => by
    rw [fT, wKd]
    split
    · rw [cT]
      have := wS_len ns; have := cK_le ks
      omega
    · rw [cT, cK]; simp; omega
theorem cK_le : ∀ l : List Kd, cK (fTs l) ≤ 3 * wKs l
  | [] => by rw [fTs, cK]; omega
  | t :: r => by
    rw [fTs, cK, wKs]
    have := cT_le t; have := cK_le r
    omega
end
theorem fA_marks {t : Kd} (h : wKd t ≤ 1048576) : 1 + (fA t).names.length + cK (fA t).kids ≤ 1099511627776 := by
  unfold fA
  split
  · have := cT_le t; rw [cT_eq] at this; omega
  · simp [Tr.names, Tr.kids, cK]
theorem kd_marks {t : Kd} (h : wKd t ≤ 1048576) : 1 + t.names.length + kcK t.kids ≤ 1099511627776 := by
  have := kcT_le t; rw [kcT_eq] at this; omega

/-- What the law's world holds behind the first call: the boxes of its variables, the two trees. -/
structure St (w wr : World) (T T' : Tr) (c dX : C3) (BW BX BG : Nat) (dW dG : C5) (FW FG : List Nat) : Prop where
  below : Below w.heap.size w wr
  lt : w.heap.size < BW ∧ BW < BX ∧ BX < BG ∧ BG < wr.heap.size
  bA : wr.rowIs w.heap.size 25 3 (row3 c.c0 c.c1 c.c2)
  bW : wr.rowIs BW 29 5 (row5 dW.c0 dW.c1 dW.c2 dW.c3 dW.c4)
  bX : wr.rowIs BX 33 3 (row3 dX.c0 dX.c1 dX.c2)
  bG : wr.rowIs BG 29 5 (row5 dG.c0 dG.c1 dG.c2 dG.c3 dG.c4)
  oW : Own wr T dW FW
  oG : Own wr T' dG FG
  lW : ∀ b, b ∈ FW → w.heap.size < b ∧ b < BW
  lG : ∀ b, b ∈ FG → BX < b ∧ b < BG
  nd : FG.Nodup

theorem St.on {w wr w' : World} {T T' : Tr} {c dX : C3} {BW BX BG : Nat} {dW dG : C5} {FW FG : List Nat} (h : St w wr T T' c dX BW BX BG dW dG FW FG) (hb : Below wr.heap.size wr w') : St w w' T T' c dX BW BX BG dW dG FW FG := by
  have hl := h.lt
  have hs := hb.size
  exact ⟨h.below.trans (hb.mono h.below.size), by omega, h.bA.of_block (hb.block _ (by omega)), h.bW.of_block (hb.block _ (by omega)), h.bX.of_block (hb.block _ (by omega)), h.bG.of_block (hb.block _ (by omega)),
    Own.carry T _ _ (fun b hm => hb.block b (by have := h.lW b hm; omega)) h.oW, Own.carry T' _ _ (fun b hm => hb.block b (by have := h.lG b hm; omega)) h.oG, h.lW, h.lG, h.nd⟩

theorem St.like {w wr w' : World} {T T' : Tr} {c dX : C3} {BW BX BG : Nat} {dW dG : C5} {FW FG : List Nat} {D : Nat → Prop} (h : St w wr T T' c dX BW BX BG dW dG FW FG) (hb : Like D wr w') (hD : ∀ b, D b → BW < b ∧ b < BX) : St w w' T T' c dX BW BX BG dW dG FW FG := by
  have hl := h.lt
  have hs := hb.size
  have hz := h.below.size
  refine ⟨h.below.trans ⟨hb.os, hb.tape, hb.output, hb.size, fun k hk => hb.block k (by omega) (fun hd => by have := hD k hd; omega)⟩, by omega, h.bA.of_block (hb.block _ (by omega) (fun hd => by have := hD _ hd; omega)), h.bW.of_block (hb.block _ (by omega) (fun hd => by have := hD _ hd; omega)), h.bX.of_block (hb.block _ (by omega) (fun hd => by have := hD _ hd; omega)), h.bG.of_block (hb.block _ (by omega) (fun hd => by have := hD _ hd; omega)),
    Own.carry T _ _ (fun b hm => hb.block b (by have := h.lW b hm; omega) (fun hd => by have := hD _ hd; have := h.lW b hm; omega)) h.oW, Own.carry T' _ _ (fun b hm => hb.block b (by have := h.lG b hm; omega) (fun hd => by have := hD _ hd; have := h.lG b hm; omega)) h.oG, h.lW, h.lG, h.nd⟩

theorem St.exc {w wr w' : World} {T T' T2 : Tr} {c dX : C3} {BW BX BG : Nat} {dW dG : C5} {FW FG : List Nat} (h : St w wr T T' c dX BW BX BG dW dG FW FG) (hb : Exc FG wr w') (hG : Own w' T2 dG FG) : St w w' T T2 c dX BW BX BG dW dG FW FG := by
  have hl := h.lt
  have hs := hb.size
  have hz := h.below.size
  have hn : ∀ b, (b ≤ BX ∨ BG ≤ b) → b ∉ FG := fun b hb hm => by have := h.lG b hm; omega
  exact ⟨h.below.trans (hb.below hz (fun b hm => by have := h.lG b hm; omega)), by omega, h.bA.of_block (hb.block _ (by omega) (hn _ (by omega))), h.bW.of_block (hb.block _ (by omega) (hn _ (by omega))), h.bX.of_block (hb.block _ (by omega) (hn _ (by omega))), h.bG.of_block (hb.block _ (by omega) (hn _ (by omega))),
    Own.carry T _ _ (fun b hm => hb.block b (by have := h.lW b hm; omega) (hn _ (by have := h.lW b hm; omega))) h.oW, hG, h.lW, h.lG, h.nd⟩
end Go.Proofs.Ytjlllkigeandeab
