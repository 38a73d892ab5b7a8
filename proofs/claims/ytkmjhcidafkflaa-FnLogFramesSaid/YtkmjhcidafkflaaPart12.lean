/- The walk of the specification's l45Data: some text of at most 2000 bytes; nothing turns but the reader. For numbers from 0 to 999999. -/
import Derived.Test.YtkmjhcidafkflaaPart10
import Derived.Test.YtkmjhcidafkflaaPart11
import Derived.Lib.ItoaLen
import Derived.Test.YtkmjhcidafkflaaPart00
import Derived.Test.YtkmjhcidafkflaaPart02
namespace Go.Proofs.Ytkmjhcidafkflaa
open Go Go.RowKit

/-- A text has been drawn. -/
def TxEnd (R : Nat) (w w' : World) (v : Value) (b : List UInt8) (p most : Nat) (e : Ending) : Prop :=
  ∃ (d : ByteArray) (p' : Nat), e = .returned (.string d) ∧ d.size ≤ most ∧ p' ≤ p + 3 ∧ Hid (DR R w' v b p') ∧ Hid (But R w w')
theorem dl_len : ∀ (k u : Nat), u < 10 ^ (k + 1) → (Lib.decDigits u).length ≤ k + 1
  | 0, u, h => by
    rw [Lib.decDigits, dif_pos (by omega)]; simp
  | k + 1, u, h => by
    rw [Lib.decDigits]
    by_cases hu : u < 10
    · rw [dif_pos hu]; simp
    · rw [dif_neg hu]
      have := dl_len k (u / 10) (by rw [Nat.pow_succ] at h; omega)
      simp only [List.length_append, List.length_cons, List.length_nil]; omega
theorem dig_len (n : Int) (h0 : 0 ≤ n) (h1 : n ≤ 999999) : (Lib.decDigits n.toNat).length ≤ 6 := dl_len 5 n.toNat (by omega)
theorem of_five (R : Nat) (W : World) (v : Value) (b : List UInt8) (p : Nat) (h : DR R W v b p) (hp : p ≤ 100000000) (x0 x1 x2 x3 x4 : ByteArray) (hx : x0.size ≤ 100 ∧ x1.size ≤ 100 ∧ x2.size ≤ 100 ∧ x3.size ≤ 100 ∧ x4.size ≤ 100) :
    Calls Try.prog 54 #[.pointer (some ⟨R, 0, none⟩), .slice (some ⟨W.heap.size, 0, none⟩) 5 5] (W.alloc (.cells #[.string x0, .string x1, .string x2, .string x3, .string x4] 9)) fun e w' => ∃ y, e = .returned (.string y) ∧ y.size ≤ 100 ∧ Hid (DR R w' v b (p + 1)) ∧ Hid (But R W w') := by
  have hrow := World.rowIs_alloc W #[.string x0, .string x1, .string x2, .string x3, .string x4] 9 (fun i => .string ([x0, x1, x2, x3, x4].getD i ByteArray.empty)) (fun i hi => by
    have hi5 : i < 5 := by simpa using hi
    rcases (show i = 0 ∨ i = 1 ∨ i = 2 ∨ i = 3 ∨ i = 4 by omega) with rfl | rfl | rfl | rfl | rfl <;> rfl)
  refine (of_any R _ v b p (h.on ((Below.refl _ _).alloc (Nat.le_refl _) _)) hp W.heap.size 5 (fun i => [x0, x1, x2, x3, x4].getD i ByteArray.empty) (by omega) hrow h.cells.lt).mono ?_
  rintro e w' ⟨r, rfl, hr, HD, HB⟩
  refine ⟨_, rfl, ?_, HD, (But.alloc R W _).trans HB.out⟩
  rcases (show r = 0 ∨ r = 1 ∨ r = 2 ∨ r = 3 ∨ r = 4 by omega) with rfl | rfl | rfl | rfl | rfl
  · exact hx.1
  · exact hx.2.1
  · exact hx.2.2.1
  · exact hx.2.2.2.1
  · exact hx.2.2.2.2

set_option maxRecDepth 100000 in
set_option maxHeartbeats 3200000 in
theorem l45Data_any (R : Nat) (w : World) (v : Value) (b : List UInt8) (p : Nat) (i : Int) (h : DR R w v b p) (hp : p ≤ 10000000) (h0 : 0 ≤ i) (h1 : i ≤ 999999) :
    Calls Try.prog 37 #[.pointer (some ⟨R, 0, none⟩), .int .i64 i] w fun e w' => TxEnd R w w' v b p 2000 e := by
  have HPK := hide (fun (W : World) (q n : Nat) (hD : DR R W v b q) (hn : 1 ≤ n ∧ n ≤ 1000000) (hq : q ≤ 100000000) => pick_any R W v b q n hD hn (by omega))
  have HP1 := hide (pick_any R w v b p 14 h (by omega) (by omega))
  have HDC := hide (fun W => l6Dec_nat (i.toNat + 1) i W h0 (by omega) (by omega))
  have HDL := hide (dig_len i h0 h1)
  have hR := h.cells.lt
  clear h
  go_enter Try.func37, Try.ntmps37
  go_wp2_with fail
  refine (unhide HP1).mono ?_
  rintro e w1 ⟨r, rfl, hr, HD1, HB1⟩
  clear HP1
  by_cases r0 : (r : Int) = 0
  · go_wp2_with fail
    go_ret
    exact ⟨_, p + 1, rfl, by show 0 ≤ 2000; omega, by omega, HD1, HB1⟩
  by_cases r1 : (r : Int) = 1
  · have HP2 := hide (unhide HPK w1 (p + 1) 3 HD1.out (by omega) (by omega))
    go_wp2_with fail
    refine (unhide HP2).mono ?_
    rintro e w2 ⟨r2, rfl, hr2, HD2, HB2⟩
    obtain ⟨k, hk, hk1⟩ : ∃ k : Nat, (2000 : Int) - (r2 : Int) * 900 = (k : Int) ∧ k ≤ 2000 := ⟨2000 - r2 * 900, by omega, by omega⟩
    have HM := hide (l6Many_le w2 ⟨#[121]⟩ k (by decide) (by omega))
    clear HP2
    go_wp2_with fail
    refine (unhide HM).mono ?_
    rintro e w3 ⟨out, rfl, hout, rfl⟩
    go_wp2_with fail
    go_ret
    exact ⟨out, p + 2, rfl, by have : (⟨#[121]⟩ : ByteArray).size = 1 := rfl; rw [this] at hout; omega, by omega, HD2, HB1.out.trans HB2.out⟩
  by_cases r2 : (r : Int) = 2
  · have HP2 := hide (unhide HPK w1 (p + 1) 10 HD1.out (by omega) (by omega))
    go_wp2_with fail
    refine (unhide HP2).mono ?_
    rintro e w2 ⟨r3, rfl, hr3, HD2, HB2⟩
    obtain ⟨k, hk, hk1⟩ : ∃ k : Nat, (250 : Int) + (r3 : Int) = (k : Int) ∧ k ≤ 2000 := ⟨250 + r3, by omega, by omega⟩
    have HM := hide (l6Many_le w2 ⟨#[122]⟩ k (by decide) (by omega))
    clear HP2
    go_wp2_with fail
    refine (unhide HM).mono ?_
    rintro e w3 ⟨out, rfl, hout, rfl⟩
    go_wp2_with fail
    go_ret
    exact ⟨out, p + 2, rfl, by have : (⟨#[122]⟩ : ByteArray).size = 1 := rfl; rw [this] at hout; omega, by omega, HD2, HB1.out.trans HB2.out⟩
  go_wp2_with fail
  refine (unhide HDC _).mono ?_
  rintro e w2 ⟨rfl, hb2⟩
  have hd2 := HD1.out.on hb2
  have HOF := hide (of_five R w2 v b (p + 1) hd2 (by omega))
  have HB2 := hide (HB1.out.trans (But.of_below hb2))
  have hdl := unhide HDL
  have hds : (⟨(Lib.decDigits i.toNat).toArray⟩ : ByteArray).size ≤ 6 := by show (Lib.decDigits i.toNat).toArray.size ≤ 6; simpa using hdl
  clear hb2 hd2 HDC hdl HDL
  generalize (⟨(Lib.decDigits i.toNat).toArray⟩ : ByteArray) = dd at *
  go_wp2_with fail
  refine (unhide HOF _ _ _ _ _ (by decide)).mono ?_
  rintro e w3 ⟨y, rfl, hy, HD3, HB3⟩
  go_wp2_with fail
  go_ret
  refine ⟨_, p + 1 + 1, rfl, ?_, by omega, HD3, HB2.out.trans HB3.out⟩
  rw [ByteArray.size_append, ByteArray.size_append]
  have : (⟨#[114]⟩ : ByteArray).size = 1 := rfl
  omega
end Go.Proofs.Ytkmjhcidafkflaa

/- A row of bytes that lies in the world. Definitions alone. -/

namespace Go.Proofs.Ytkmjhcidafkflaa
open Go Go.RowKit

/-- A slice value whose bytes lie in the world. -/
def BytesAt (w : World) (v : Value) (l : List UInt8) : Prop :=
  ∃ a cap, v = .slice a l.length cap ∧ l.length ≤ 9223372036854775807 ∧ ∀ i, (h : i < l.length) → ∃ b o, a = some ⟨b, o, none⟩ ∧ b < w.heap.size ∧ w.cell? ⟨b, o + i, none⟩ = some (.int .u8 l[i].toNat)

theorem BytesAt.on {w w' : World} {v : Value} {l : List UInt8} (h : BytesAt w v l) (hb : Below w.heap.size w w') : BytesAt w' v l := by
  obtain ⟨a, cap, h1, h2, h3⟩ := h
  refine ⟨a, cap, h1, h2, fun i hi => ?_⟩
  obtain ⟨b, o, e, hlt, hc⟩ := h3 i hi
  exact ⟨b, o, e, Nat.lt_of_lt_of_le hlt hb.size, by rw [hb.cell hlt]; exact hc⟩

end Go.Proofs.Ytkmjhcidafkflaa

/- The walk of the specification's l6Open: the reader of draws is opened. No conditions. -/

namespace Go.Proofs.Ytkmjhcidafkflaa
open Go Go.RowKit

/-- The reader of draws is opened. -/
theorem l6Open_any (w : World) (a : Option Addr) (cap : Nat) (l : List UInt8) (hv : BytesAt w (.slice a l.length cap) l) (hcap : l.length ≤ cap) :
    Calls Try.prog 20 #[.slice a l.length cap] w fun e w' => ∃ (v' : Value) (b' : List UInt8), e = .returned (.pointer (some ⟨w.heap.size, 0, none⟩)) ∧ DR w.heap.size w' v' b' 0 ∧ Below w.heap.size w w' := by
  obtain ⟨a', cap', e, hlen, hc⟩ := hv
  simp only [Value.slice.injEq, true_and] at e
  obtain ⟨rfl, rfl⟩ := e
  by_cases h2 : l.length ≤ 2000
  · have hq : decide ((2000 : Int) < (l.length : Int)) = false := by simp; omega
    have HC := hide hc
    clear hc
    go_enter Try.func20, Try.ntmps20
    go_wp2_with fail
    go_ret
    refine ⟨.slice a l.length cap, l, rfl, ⟨?_, ⟨a, cap, rfl, fun i hi => ?_⟩, h2⟩, (Below.refl _ _).alloc (Nat.le_refl _) _⟩
    · exact World.rowIs_alloc w #[.slice a l.length cap, .int .i64 0] 70 _ (fun i hi => by
        have hi' : i < 2 := by simpa using hi
        rcases (show i = 0 ∨ i = 1 by omega) with rfl | rfl <;> rfl)
    · obtain ⟨g, o, e, hlt, hcell⟩ := unhide HC i hi
      exact ⟨g, o, e, hlt, by rw [World.cell?_of_block (w := w) (Below.heap_alloc _ _ _ hlt)]; exact hcell⟩
  · have hq : decide ((2000 : Int) < (l.length : Int)) = true := by simp; omega
    obtain ⟨g, o, rfl, -, -⟩ := hc 0 (by omega)
    have HC := hide hc
    clear hc
    have hc2 : 2000 ≤ cap := by omega
    have hc3 : (2000 : Int) ≤ (cap : Int) := by omega
    go_enter Try.func20, Try.ntmps20
    go_wp2_with fail
    go_ret
    have hl2 : (l.take 2000).length = 2000 := by rw [List.length_take]; omega
    refine ⟨.slice (some ⟨g, o, none⟩) 2000 cap, l.take 2000, rfl, ⟨?_, ⟨_, cap, by rw [hl2], fun i hi => ?_⟩, by omega⟩, (Below.refl _ _).alloc (Nat.le_refl _) _⟩
    · exact World.rowIs_alloc w #[.slice (some ⟨g, o, none⟩) 2000 cap, .int .i64 0] 70 _ (fun i hi => by
        have hi' : i < 2 := by simpa using hi
        rcases (show i = 0 ∨ i = 1 by omega) with rfl | rfl <;> rfl)
    · obtain ⟨g', o', e, hlt, hcell⟩ := unhide HC i (by omega)
      exact ⟨g', o', e, hlt, by rw [World.cell?_of_block (w := w) (Below.heap_alloc _ _ _ hlt), List.getElem_take]; exact hcell⟩
end Go.Proofs.Ytkmjhcidafkflaa
