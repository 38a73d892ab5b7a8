/- The specification's reader of draws in memory, and the walk of its pick: some number below the bound. The reader's bytes are at most 2000; draws so far at most 10^9. -/
import Derived.Test.YtkmjhcidafkflaaRows
import Derived.Test.YtkmjhcidafkflaaPart00
import Derived.Test.YtkmjhcidafkflaaPart01
import Derived.Deep.RegionWith
import Derived.Deep.QuietTactic
import Derived.BigQuiet
namespace Go.Proofs.Ytkmjhcidafkflaa
open Go Go.RowKit

def rowD (c0 c1 : Value) : Nat → Value
  | 0 => c0
  | _ => c1

/-- The reader of draws: its bytes, how many draws there were. -/
structure DR (R : Nat) (w : World) (v : Value) (b : List UInt8) (p : Nat) : Prop where
  cells : w.rowIs R 70 2 (rowD v (.int .i64 p))
  bytes : ∃ a cap, v = .slice a b.length cap ∧ ∀ i, (h : i < b.length) → ∃ g o, a = some ⟨g, o, none⟩ ∧ g < R ∧ w.cell? ⟨g, o + i, none⟩ = some (.int .u8 b[i].toNat)
  small : b.length ≤ 2000

theorem DR.block {R : Nat} {w w' : World} {v : Value} {b : List UInt8} {p p' : Nat} (h : DR R w v b p) (hb : ∀ g, g < R → w'.heap[g]? = w.heap[g]?) (hc : w'.rowIs R 70 2 (rowD v (.int .i64 p'))) : DR R w' v b p' := by
  obtain ⟨a, cap, h1, h2⟩ := h.bytes
  refine ⟨hc, ⟨a, cap, h1, fun i hi => ?_⟩, h.small⟩
  obtain ⟨g, o, e, hlt, hcell⟩ := h2 i hi
  exact ⟨g, o, e, hlt, by rw [World.cell?_of_block (w := w) (hb g hlt)]; exact hcell⟩
theorem DR.on {R : Nat} {w w' : World} {v : Value} {b : List UInt8} {p : Nat} (h : DR R w v b p) (hb : Below w.heap.size w w') : DR R w' v b p :=
  h.block (fun g hg => hb.block g (by have := h.cells.lt; omega)) (h.cells.of_block (hb.block _ h.cells.lt))
theorem DR.but {R : Nat} {w w' : World} {v : Value} {b : List UInt8} {p p' : Nat} (h : DR R w v b p) (hb : But R w w') (hc : w'.rowIs R 70 2 (rowD v (.int .i64 p'))) : DR R w' v b p' :=
  h.block (fun g hg => hb.at (by have := h.cells.lt; omega) (by omega)) hc
theorem rowD_set1 {w : World} {B : Nat} {T : TypeId} {x y : Value} (h : w.rowIs B T 2 (rowD x y)) (v : Value) : (w.setCell ⟨B, 1, none⟩ v).rowIs B T 2 (rowD x v) :=
  (h.set 1 v).congr fun i hi => by
    rcases (show i = 0 ∨ i = 1 by omega) with rfl | rfl <;> rfl

theorem i64_xor_nat (a b : Nat) (ha : a < 4611686018427387904) (hb : b < 4611686018427387904) : bits .xor .i64 (a : Int) (b : Int) = ((a ^^^ b : Nat) : Int) := by
  have hx : a ^^^ b < 2 ^ 62 := Nat.xor_lt_two_pow (by omega) (by omega)
  have h1 : (BitVec.ofInt 64 (a : Int)).toNat = a := by
    rw [BitVec.ofInt_natCast, BitVec.toNat_ofNat]; exact Nat.mod_eq_of_lt (by omega)
  have h2 : (BitVec.ofInt 64 (b : Int)).toNat = b := by
    rw [BitVec.ofInt_natCast, BitVec.toNat_ofNat]; exact Nat.mod_eq_of_lt (by omega)
  show IntKind.i64.wrap ((BitVec.ofInt 64 (a : Int) ^^^ BitVec.ofInt 64 (b : Int)).toNat : Int) = _
  rw [BitVec.toNat_xor, h1, h2, IntKind.wrap_i64]
  omega

/-- What a draw comes to. -/
def PickEnd (R : Nat) (w w' : World) (v : Value) (b : List UInt8) (p n : Nat) (e : Ending) : Prop :=
  ∃ r : Nat, e = .returned (.int .i64 (r : Int)) ∧ r < n ∧ Hid (DR R w' v b (p + 1)) ∧ Hid (But R w w')

set_option maxRecDepth 100000 in
set_option maxHeartbeats 3200000 in
theorem pick_any (R : Nat) (w : World) (v : Value) (b : List UInt8) (p n : Nat) (h : DR R w v b p) (hn : 1 ≤ n ∧ n ≤ 1000000) (hp : p ≤ 1000000000) :
    Calls Try.prog 36 #[.pointer (some ⟨R, 0, none⟩), .int .i64 (n : Int)] w fun e w' => PickEnd R w w' v b p n e := by
  obtain ⟨hn1, hn2⟩ := hn
  obtain ⟨a, cap, hv, hby⟩ := h.bytes
  subst hv
  have k0 := h.cells.cell (i := 0) (by omega); have k1 := h.cells.cell (i := 1) (by omega); have f1 := h.cells.frozen 1
  simp only [rowD] at k0 k1
  have hsm := h.small
  have hq1 : decide ((n : Int) < 1) = false := by simp; omega
  have hend : ∀ m, DR R ((w.setCell ⟨R, 1, none⟩ (.int .i64 ((p : Int) + 1))).drewN m) (.slice a b.length cap) b (p + 1) ∧ But R w ((w.setCell ⟨R, 1, none⟩ (.int .i64 ((p : Int) + 1))).drewN m) := fun m => by
    have hb : But R w ((w.setCell ⟨R, 1, none⟩ (.int .i64 ((p : Int) + 1))).drewN m) := (But.set w 1 _).trans ⟨rfl, rfl, rfl, Nat.le_refl _, fun _ _ _ => rfl⟩
    exact ⟨h.but hb (by have := rowD_set1 h.cells (.int .i64 ((p : Int) + 1)); exact this.of_block rfl), hb⟩
  have HEND := hide hend
  clear hend
  by_cases h0 : b.length = 0
  · have hz : ((b.length : Int) == 0) = true := by simp [h0]
    clear hby h h0
    go_enter Try.func36, Try.ntmps36
    go_wp2_with fail
    go_ret
    exact ⟨0, rfl, by omega, (unhide HEND 0).1, (unhide HEND 0).2⟩
  · have hz : ((b.length : Int) == 0) = false := beq_eq_false_iff_ne.2 (by omega)
    by_cases hlt : p < b.length
    · have hq2 : decide ((p : Int) < (b.length : Int)) = true := by simp; omega
      obtain ⟨g, o, rfl, hg, hc⟩ := hby p hlt
      have hx8 := b[p].toNat_lt
      generalize b[p].toNat = x at *
      have hi1 : (p : Int) < (b.length : Int) := by omega
      have hne : g ≠ R := by omega
      have hne2 : R ≠ g := by omega
      clear hby h
      go_enter Try.func36, Try.ntmps36
      go_wp2_with fail
      go_ret
      refine ⟨x % n, by simp, Nat.mod_lt _ (by omega), (unhide HEND 0).1, (unhide HEND 0).2⟩
    · have hq2 : decide ((p : Int) < (b.length : Int)) = false := by simp; omega
      have hb1 : 0 < b.length := by omega
      obtain ⟨g, o, rfl, hg, -⟩ := hby 0 hb1
      have hm1 : p % b.length < b.length := Nat.mod_lt _ hb1
      have hm2 : (p * 7 + 3) % b.length < b.length := Nat.mod_lt _ hb1
      obtain ⟨g1, o1, e1, -, c1⟩ := hby (p % b.length) hm1
      obtain ⟨g2, o2, e2, -, c2⟩ := hby ((p * 7 + 3) % b.length) hm2
      simp only [Option.some.injEq, Addr.mk.injEq, and_true] at e1 e2
      obtain ⟨rfl, rfl⟩ := e1
      obtain ⟨rfl, rfl⟩ := e2
      have hx8 := (b[p % b.length]'hm1).toNat_lt
      have hy8 := (b[(p * 7 + 3) % b.length]'hm2).toNat_lt
      generalize (b[p % b.length]'hm1).toNat = x at *
      generalize (b[(p * 7 + 3) % b.length]'hm2).toNat = y at *
      have hi1 : (p : Int) % (b.length : Int) < (b.length : Int) := by omega
      have hi2 : ((p : Int) * 7 + 3) % (b.length : Int) < (b.length : Int) := Int.emod_lt_of_pos _ (by omega)
      have hj1 : 0 ≤ (p : Int) % (b.length : Int) := Int.emod_nonneg _ (by omega)
      have hj2 : 0 ≤ ((p : Int) * 7 + 3) % (b.length : Int) := Int.emod_nonneg _ (by omega)
      have ht1 : ((p : Int) % (b.length : Int)).toNat = p % b.length := by rw [← Int.natCast_emod]; rfl
      have ht2 : (((p : Int) * 7 + 3) % (b.length : Int)).toNat = (p * 7 + 3) % b.length := by
        rw [show (p : Int) * 7 + 3 = ((p * 7 + 3 : Nat) : Int) from by omega, ← Int.natCast_emod]; rfl
      have hne : g ≠ R := by omega
      have hne2 : R ≠ g := by omega
      clear hby h
      go_enter Try.func36, Try.ntmps36
      go_wp2_with fail
      go_quiet (fail)
      obtain ⟨z, hz, hzb⟩ : ∃ z : Nat, wrap64 ((x : Int) * 131 + (y : Int) * 1117 + (p : Int) * 29 + wrap64 (wrap64 ((p : Int) / (b.length : Int)) * 53)) = (z : Int) ∧ z ≤ 1000000000000 := by
        have q0 : 0 ≤ (p : Int) / (b.length : Int) := Int.ediv_nonneg (by omega) (by omega)
        have q1 : (p : Int) / (b.length : Int) ≤ p := Int.ediv_le_self _ (by omega)
        generalize (p : Int) / (b.length : Int) = q at *
        refine ⟨(x * 131 + y * 1117 + p * 29 + q.toNat * 53), ?_, ?_⟩
        · unfold wrap64; omega
        · omega
      rw [hz]
      clear hz
      go_wp2_with fail
      go_ret
      refine ⟨(z ^^^ z / 64) % n, ?_, Nat.mod_lt _ (by omega), (unhide HEND nq).1, (unhide HEND nq).2⟩
      have hx : bits BinOp.xor IntKind.i64 (z : Int) ((z : Int) / 64) = ((z ^^^ z / 64 : Nat) : Int) := i64_xor_nat z (z / 64) (by omega) (by omega)
      rw [hx, Int.tmod_eq_emod_of_nonneg (by omega)]
      simp
end Go.Proofs.Ytkmjhcidafkflaa
