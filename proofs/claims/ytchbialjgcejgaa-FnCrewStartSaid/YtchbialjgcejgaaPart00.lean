/- What a tree is as plain data, its weight, and how it lies in memory: definitions and small laws, no program. No conditions. -/
import Derived.WalkKit
import Derived.Deep.OwnRows
import Derived.Test.YtchbialjgcejgaaRows
import Derived.Deep.RegionWith
import Derived.Deep.QuietTactic
import Derived.BigQuiet
import Derived.Lib.ItoaNum
import Derived.Lib.ItoaLen
import Derived.Lib.ItoaMem
import Derived.WalkSmall
namespace Go.Proofs.Ytchbialjgcejgaa
open Go Go.RowKit

theorem hide {p : Prop} (h : p) : Hid p := h
theorem unhide {p : Prop} (h : Hid p) : p := h

/-- A tree as plain data. -/
inductive Tr where
  | mk (sort num : Int) (text : ByteArray) (names : List ByteArray) (kids : List Tr)

namespace Tr
end Tr




end Go.Proofs.Ytchbialjgcejgaa

/- Worlds of which but one block is as it was; append onto a row of the call's own. No program walked, no conditions. -/

namespace Go.Proofs.Ytchbialjgcejgaa
open Go Go.RowKit

/-- All blocks but B that were there are as they were. -/
abbrev But (B : Nat) (w w' : World) : Prop := w.grownBy w' (some B)

theorem But.trans {B : Nat} {a b c : World} (h : But B a b) (k : But B b c) : But B a c :=
  ⟨k.os.trans h.os, k.tape.trans h.tape, k.output.trans h.output, Nat.le_trans h.size k.size, fun i hi hne => (k.block i (Nat.lt_of_lt_of_le hi h.size) hne).trans (h.block i hi hne)⟩
theorem But.set {B : Nat} (w : World) (o : Nat) (v : Value) : But B w (w.setCell ⟨B, o, none⟩ v) :=
  ⟨rfl, rfl, rfl, by simp [World.setCell], fun i _ hne => Below.heap_setCell _ _ _ _ (fun e => hne (by rw [e]))⟩
theorem But.at {B : Nat} {w w' : World} (h : But B w w') {b : Nat} (hb : b < w.heap.size) (hne : b ≠ B) : w'.heap[b]? = w.heap[b]? :=
  h.block b hb (fun e => hne (by simpa using e))

theorem ownsRow_base {w : World} {base base' : Nat} {e : TypeId} {size : Nat} {v : Value} {n : Nat} {xs : List Value} (h : w.ownsRow base e size v n xs) (hb : base' ≤ base) : w.ownsRow base' e size v n xs := by
  refine ⟨h.1, ?_⟩
  rcases h.2 with h | ⟨g, cap, cur, h1, h2, h3⟩
  · exact Or.inl h
  · exact Or.inr ⟨g, cap, cur, h1, Nat.le_trans hb h2, h3⟩

/-- append onto a row of the call's own: behind it the value lies in the same block, or in a new one. -/
theorem append_row {P : Program} (w : World) {ops : Array Oper} {rest : List Oper} {o : Oper} {a : Act} {Q : Exit → Act → World → Prop}
    (hg : o.guard = none) (s x : Operand) (t : TypeId) (hop : o.op = Op.call { callee := Callee.builtin Builtin.append, args := #[s, x], argTypes := #[t, t] })
    (base : Nat) (e : TypeId) (i : TypeInfo) (z : Value) (size bytes : Nat) (h1 : P.underlying t = some (.slice e)) (h2 : P.info? e = some i) (h3 : i.zero = some z) (h4 : i.size = size) (h5 : i.bytes = bytes) (h6 : z.cells.size = size) (h7 : 0 < size)
    (v : Value) (n : Nat) (xs : List Value) (hs : a.eval s = v) (hown : w.ownsRow base e size v n xs)
    (ad : Addr) (m c : Nat) (news : List Value) (hx : a.eval x = .slice (some ad) m c) (hn : news.length = m * size) (hc : ∀ j u, news[j]? = some u → w.cell? (ad.add j) = some u) (h1c : ∀ u ∈ news, u.oneCell' = true)
    (hm : 0 < m) (b1 : n + m ≤ maxLen) (b2 : (n + m) * bytes ≤ 140737488355328) (hbase : base ≤ w.heap.size)
    (hK : ∀ v' w', w'.ownsRow base e size v' (n + m) (xs ++ news) → w.grownBy w' v.ownBlock → (v'.ownBlock = v.ownBlock ∨ ∃ g, v'.ownBlock = some g ∧ w.heap.size ≤ g) → wpList P ops Q rest (a.put o.dst v') w') :
    wpList P ops Q (o :: rest) a w := by
  have hgrow : ∀ v' w', w'.ownsRow w.heap.size e size v' (n + m) (xs ++ news) → w.grownBy w' none → wpList P ops Q rest (a.put o.dst v') w' := fun v' w' r1 r2 => by
    refine hK v' w' (ownsRow_base r1 hbase) ⟨r2.os, r2.tape, r2.output, r2.size, fun k hk _ => r2.block k hk (by simp)⟩ (Or.inr ?_)
    rcases r1.2 with ⟨_, h⟩ | ⟨g, cap, cur, hv, hgg, _⟩
    · omega
    · exact ⟨g, by rw [hv]; rfl, hgg⟩
  rcases hown.2 with ⟨hv, hn0⟩ | ⟨g, cap, cur, hv, hgb, hh, hle, hm2, hsz, htk⟩
  · subst hv; subst hn0
    have hxs : xs = [] := List.eq_nil_of_length_eq_zero (by have := hown.1; simpa using this)
    subst hxs
    exact wpList_append_grows w hg s x t hop e i z size bytes h1 h2 h3 h4 h5 h6 h7 none 0 0 [] hs (fun _ => ⟨rfl, rfl⟩) (by simp) (fun b hb => by cases hb) ad m c news hx hn hc h1c (by omega) b1 b2 hgrow
  · by_cases hr : n + m ≤ cap
    · subst hv
      exact wpList_append_fits w hg s x t hop base e i size h1 h2 h4 g n cap xs hs hown ad m c news hx hn hc h1c hr fun w' r1 r2 => hK _ w' r1 r2 (Or.inl rfl)
    · refine wpList_append_grows w hg s x t hop e i z size bytes h1 h2 h3 h4 h5 h6 h7 (some ⟨g, 0, none⟩) n cap xs (by rw [hs, hv]) (fun hb => by cases hb) hown.1 (fun b hb j u hj => ?_) ad m c news hx hn hc h1c (by omega) b1 b2 hgrow
      simp only [Option.some.injEq] at hb
      subst hb
      have hj' : cur.toList[j]? = some u := by
        rw [← htk] at hj
        rw [List.getElem?_take] at hj
        split at hj
        · exact hj
        · cases hj
      rw [Addr.add_lit]
      simp only [Nat.zero_add, World.cell?, hh]
      simpa using hj'

theorem cell_one (w : World) (x : Value) (t : TypeId) : ∀ j u, [x][j]? = some u → (w.alloc (.cells #[x] t)).cell? ((⟨w.heap.size, 0, none⟩ : Addr).add j) = some u := by
  intro j u hj
  match j with
  | 0 => simp only [List.getElem?_cons_zero, Option.some.injEq] at hj; subst hj; rw [Addr.add_lit]; simp [go_sem]
  | j + 1 => simp at hj
end Go.Proofs.Ytchbialjgcejgaa

/- The specification's reader of draws in memory, and the walk of its pick: some number below the bound. The reader's bytes are at most 2000; draws so far at most 10^9. -/

namespace Go.Proofs.Ytchbialjgcejgaa
open Go Go.RowKit

def rowD (c0 c1 : Value) : Nat → Value
  | 0 => c0
  | _ => c1

/-- The reader of draws: its bytes, how many draws there were. -/
structure DR (R : Nat) (w : World) (v : Value) (b : List UInt8) (p : Nat) : Prop where
  cells : w.rowIs R 90 2 (rowD v (.int .i64 p))
  bytes : ∃ a cap, v = .slice a b.length cap ∧ ∀ i, (h : i < b.length) → ∃ g o, a = some ⟨g, o, none⟩ ∧ g < R ∧ w.cell? ⟨g, o + i, none⟩ = some (.int .u8 b[i].toNat)
  small : b.length ≤ 2000

theorem DR.block {R : Nat} {w w' : World} {v : Value} {b : List UInt8} {p p' : Nat} (h : DR R w v b p) (hb : ∀ g, g < R → w'.heap[g]? = w.heap[g]?) (hc : w'.rowIs R 90 2 (rowD v (.int .i64 p'))) : DR R w' v b p' := by
  obtain ⟨a, cap, h1, h2⟩ := h.bytes
  refine ⟨hc, ⟨a, cap, h1, fun i hi => ?_⟩, h.small⟩
  obtain ⟨g, o, e, hlt, hcell⟩ := h2 i hi
  exact ⟨g, o, e, hlt, by rw [World.cell?_of_block (w := w) (hb g hlt)]; exact hcell⟩
theorem DR.on {R : Nat} {w w' : World} {v : Value} {b : List UInt8} {p : Nat} (h : DR R w v b p) (hb : Below w.heap.size w w') : DR R w' v b p :=
  h.block (fun g hg => hb.block g (by have := h.cells.lt; omega)) (h.cells.of_block (hb.block _ h.cells.lt))
theorem DR.but {R : Nat} {w w' : World} {v : Value} {b : List UInt8} {p p' : Nat} (h : DR R w v b p) (hb : But R w w') (hc : w'.rowIs R 90 2 (rowD v (.int .i64 p'))) : DR R w' v b p' :=
  h.block (fun g hg => hb.at (by have := h.cells.lt; omega) (by omega)) hc
theorem rowD_set1 {w : World} {B : Nat} {T : TypeId} {x y : Value} (h : w.rowIs B T 2 (rowD x y)) (v : Value) : (w.setCell ⟨B, 1, none⟩ v).rowIs B T 2 (rowD x v) :=
  (h.set 1 v).congr fun i hi => by
    rcases (show i = 0 ∨ i = 1 by omega) with rfl | rfl <;> rfl

theorem i64_xor_nat (a b : Nat) (ha : a < 4611686018427387904) (hb : b < 4611686018427387904) : bits .xor .i64 (a : Int) (b : Int) = ((a ^^^ b : Nat) : Int) := by
  have hx : a ^^^ b < 2 ^ 62 := Nat.xor_lt_two_pow (by omega) (by omega)
  have h1 : (BitVec.ofInt 64 (a : Int)).toNat = a := by
    rw [BitVec.ofInt_natCast, BitVec.toNat_ofNat]; exact Nat.mod_eq_of_lt (by omega)
  have h2 : (BitVec.ofInt 64 (b : Int)).toNat = b := by
    rw [BitVec.ofInt_natCast, BitVec.toNat_ofNat]; exact Nat.mod_eq_of_lt (by omega)
  show IntKind.i64.wrap ((BitVec.ofInt 64 (a : Int) ^^^ BitVec.ofInt 64 (b : Int)).toNat : Int) = _
  rw [BitVec.toNat_xor, h1, h2, IntKind.wrap_i64]
  omega

/-- What a draw comes to. -/
def PickEnd (R : Nat) (w w' : World) (v : Value) (b : List UInt8) (p n : Nat) (e : Ending) : Prop :=
  ∃ r : Nat, e = .returned (.int .i64 (r : Int)) ∧ r < n ∧ Hid (DR R w' v b (p + 1)) ∧ Hid (But R w w')

set_option maxRecDepth 100000 in
set_option maxHeartbeats 3200000 in
theorem pick_any (R : Nat) (w : World) (v : Value) (b : List UInt8) (p n : Nat) (h : DR R w v b p) (hn : 1 ≤ n ∧ n ≤ 1000000) (hp : p ≤ 1000000000) :
    Calls Try.prog 34 #[.pointer (some ⟨R, 0, none⟩), .int .i64 (n : Int)] w fun e w' => PickEnd R w w' v b p n e := by
  obtain ⟨hn1, hn2⟩ := hn
  obtain ⟨a, cap, hv, hby⟩ := h.bytes
  subst hv
  have k0 := h.cells.cell (i := 0) (by omega); have k1 := h.cells.cell (i := 1) (by omega); have f1 := h.cells.frozen 1
  simp only [rowD] at k0 k1
  have hsm := h.small
  have hq1 : decide ((n : Int) < 1) = false := by simp; omega
  have hend : ∀ m, DR R ((w.setCell ⟨R, 1, none⟩ (.int .i64 ((p : Int) + 1))).drewN m) (.slice a b.length cap) b (p + 1) ∧ But R w ((w.setCell ⟨R, 1, none⟩ (.int .i64 ((p : Int) + 1))).drewN m) := fun m => by
    have hb : But R w ((w.setCell ⟨R, 1, none⟩ (.int .i64 ((p : Int) + 1))).drewN m) := (But.set w 1 _).trans ⟨rfl, rfl, rfl, Nat.le_refl _, fun _ _ _ => rfl⟩
    exact ⟨h.but hb (by have := rowD_set1 h.cells (.int .i64 ((p : Int) + 1)); exact this.of_block rfl), hb⟩
  have HEND := hide hend
  clear hend
  by_cases h0 : b.length = 0
  · have hz : ((b.length : Int) == 0) = true := by simp [h0]
    clear hby h h0
    go_enter Try.func34, Try.ntmps34
    go_wp2_with fail
    go_ret
    exact ⟨0, rfl, by omega, (unhide HEND 0).1, (unhide HEND 0).2⟩
  · have hz : ((b.length : Int) == 0) = false := beq_eq_false_iff_ne.2 (by omega)
    by_cases hlt : p < b.length
    · have hq2 : decide ((p : Int) < (b.length : Int)) = true := by simp; omega
      obtain ⟨g, o, rfl, hg, hc⟩ := hby p hlt
      have hx8 := b[p].toNat_lt
      generalize b[p].toNat = x at *
      have hi1 : (p : Int) < (b.length : Int) := by omega
      have hne : g ≠ R := by omega
      have hne2 : R ≠ g := by omega
      clear hby h
      go_enter Try.func34, Try.ntmps34
      go_wp2_with fail
      go_ret
      refine ⟨x % n, by simp, Nat.mod_lt _ (by omega), (unhide HEND 0).1, (unhide HEND 0).2⟩
    · have hq2 : decide ((p : Int) < (b.length : Int)) = false := by simp; omega
      have hb1 : 0 < b.length := by omega
      obtain ⟨g, o, rfl, hg, -⟩ := hby 0 hb1
      have hm1 : p % b.length < b.length := Nat.mod_lt _ hb1
      have hm2 : (p * 7 + 3) % b.length < b.length := Nat.mod_lt _ hb1
      obtain ⟨g1, o1, e1, -, c1⟩ := hby (p % b.length) hm1
      obtain ⟨g2, o2, e2, -, c2⟩ := hby ((p * 7 + 3) % b.length) hm2
      simp only [Option.some.injEq, Addr.mk.injEq, and_true] at e1 e2
      obtain ⟨rfl, rfl⟩ := e1
      obtain ⟨rfl, rfl⟩ := e2
      have hx8 := (b[p % b.length]'hm1).toNat_lt
      have hy8 := (b[(p * 7 + 3) % b.length]'hm2).toNat_lt
      generalize (b[p % b.length]'hm1).toNat = x at *
      generalize (b[(p * 7 + 3) % b.length]'hm2).toNat = y at *
      have hi1 : (p : Int) % (b.length : Int) < (b.length : Int) := by omega
      have hi2 : ((p : Int) * 7 + 3) % (b.length : Int) < (b.length : Int) := Int.emod_lt_of_pos _ (by omega)
      have hj1 : 0 ≤ (p : Int) % (b.length : Int) := Int.emod_nonneg _ (by omega)
      have hj2 : 0 ≤ ((p : Int) * 7 + 3) % (b.length : Int) := Int.emod_nonneg _ (by omega)
      have ht1 : ((p : Int) % (b.length : Int)).toNat = p % b.length := by rw [← Int.natCast_emod]; rfl
      have ht2 : (((p : Int) * 7 + 3) % (b.length : Int)).toNat = (p * 7 + 3) % b.length := by
        rw [show (p : Int) * 7 + 3 = ((p * 7 + 3 : Nat) : Int) from by omega, ← Int.natCast_emod]; rfl
      have hne : g ≠ R := by omega
      have hne2 : R ≠ g := by omega
      clear hby h
      go_enter Try.func34, Try.ntmps34
      go_wp2_with fail
      go_quiet (fail)
      obtain ⟨z, hz, hzb⟩ : ∃ z : Nat, wrap64 ((x : Int) * 131 + (y : Int) * 1117 + (p : Int) * 29 + wrap64 (wrap64 ((p : Int) / (b.length : Int)) * 53)) = (z : Int) ∧ z ≤ 1000000000000 := by
        have q0 : 0 ≤ (p : Int) / (b.length : Int) := Int.ediv_nonneg (by omega) (by omega)
        have q1 : (p : Int) / (b.length : Int) ≤ p := Int.ediv_le_self _ (by omega)
        generalize (p : Int) / (b.length : Int) = q at *
        refine ⟨(x * 131 + y * 1117 + p * 29 + q.toNat * 53), ?_, ?_⟩
        · unfold wrap64; omega
        · omega
      rw [hz]
      clear hz
      go_wp2_with fail
      go_ret
      refine ⟨(z ^^^ z / 64) % n, ?_, Nat.mod_lt _ (by omega), (unhide HEND nq).1, (unhide HEND nq).2⟩
      have hx : bits BinOp.xor IntKind.i64 (z : Int) ((z : Int) / 64) = ((z ^^^ z / 64 : Nat) : Int) := i64_xor_nat z (z / 64) (by omega) (by omega)
      rw [hx, Int.tmod_eq_emod_of_nonneg (by omega)]
      simp
end Go.Proofs.Ytchbialjgcejgaa

/- A row of bytes that lies in the world. Definitions alone. -/

namespace Go.Proofs.Ytchbialjgcejgaa
open Go Go.RowKit

/-- A slice value whose bytes lie in the world. -/
def BytesAt (w : World) (v : Value) (l : List UInt8) : Prop :=
  ∃ a cap, v = .slice a l.length cap ∧ l.length ≤ 9223372036854775807 ∧ ∀ i, (h : i < l.length) → ∃ b o, a = some ⟨b, o, none⟩ ∧ b < w.heap.size ∧ w.cell? ⟨b, o + i, none⟩ = some (.int .u8 l[i].toNat)

end Go.Proofs.Ytchbialjgcejgaa

/- The walk of the specification's l6Open: the reader of draws is opened. No conditions. -/

namespace Go.Proofs.Ytchbialjgcejgaa
open Go Go.RowKit

/-- The reader of draws is opened. -/
theorem l6Open_any (w : World) (a : Option Addr) (cap : Nat) (l : List UInt8) (hv : BytesAt w (.slice a l.length cap) l) (hcap : l.length ≤ cap) :
    Calls Try.prog 33 #[.slice a l.length cap] w fun e w' => ∃ (v' : Value) (b' : List UInt8), e = .returned (.pointer (some ⟨w.heap.size, 0, none⟩)) ∧ DR w.heap.size w' v' b' 0 ∧ Below w.heap.size w w' := by
  obtain ⟨a', cap', e, hlen, hc⟩ := hv
  simp only [Value.slice.injEq, true_and] at e
  obtain ⟨rfl, rfl⟩ := e
  by_cases h2 : l.length ≤ 2000
  · have hq : decide ((2000 : Int) < (l.length : Int)) = false := by simp; omega
    have HC := hide hc
    clear hc
    go_enter Try.func33, Try.ntmps33
    go_wp2_with fail
    go_ret
    refine ⟨.slice a l.length cap, l, rfl, ⟨?_, ⟨a, cap, rfl, fun i hi => ?_⟩, h2⟩, (Below.refl _ _).alloc (Nat.le_refl _) _⟩
    · exact World.rowIs_alloc w #[.slice a l.length cap, .int .i64 0] 90 _ (fun i hi => by
        have hi' : i < 2 := by simpa using hi
        rcases (show i = 0 ∨ i = 1 by omega) with rfl | rfl <;> rfl)
    · obtain ⟨g, o, e, hlt, hcell⟩ := unhide HC i hi
      exact ⟨g, o, e, hlt, by rw [World.cell?_of_block (w := w) (Below.heap_alloc _ _ _ hlt)]; exact hcell⟩
  · have hq : decide ((2000 : Int) < (l.length : Int)) = true := by simp; omega
    obtain ⟨g, o, rfl, -, -⟩ := hc 0 (by omega)
    have HC := hide hc
    clear hc
    have hc2 : 2000 ≤ cap := by omega
    have hc3 : (2000 : Int) ≤ (cap : Int) := by omega
    go_enter Try.func33, Try.ntmps33
    go_wp2_with fail
    go_ret
    have hl2 : (l.take 2000).length = 2000 := by rw [List.length_take]; omega
    refine ⟨.slice (some ⟨g, o, none⟩) 2000 cap, l.take 2000, rfl, ⟨?_, ⟨_, cap, by rw [hl2], fun i hi => ?_⟩, by omega⟩, (Below.refl _ _).alloc (Nat.le_refl _) _⟩
    · exact World.rowIs_alloc w #[.slice (some ⟨g, o, none⟩) 2000 cap, .int .i64 0] 90 _ (fun i hi => by
        have hi' : i < 2 := by simpa using hi
        rcases (show i = 0 ∨ i = 1 by omega) with rfl | rfl <;> rfl)
    · obtain ⟨g', o', e, hlt, hcell⟩ := unhide HC i (by omega)
      exact ⟨g', o', e, hlt, by rw [World.cell?_of_block (w := w) (Below.heap_alloc _ _ _ hlt), List.getElem_take]; exact hcell⟩
end Go.Proofs.Ytchbialjgcejgaa

/- Digits as bytes and strings; small laws. No program walked, no conditions. -/

namespace Go.Proofs.Ytchbialjgcejgaa
open Go Go.RowKit

end Go.Proofs.Ytchbialjgcejgaa

/- Records as bytes: what LogFrame gives, and the walks of both sides' functions. No conditions but that a string's length is one. -/

namespace Go.Proofs.Ytchbialjgcejgaa
open Go Go.RowKit

/-- A byte. -/
def hb (x : Int) : UInt8 := UInt8.ofNat x.toNat
theorem frInS (a b c : Int) (w : World) : Calls Try.prog 35 #[.int .i64 a, .int .i64 b, .int .i64 c] w fun e w' => e = .returned (.bool (decide (b ≤ a ∧ a ≤ c))) ∧ Below w.heap.size w w' := by
  go_enter Try.func35, Try.ntmps35
  by_cases h1 : b ≤ a
  · by_cases h2 : a ≤ c
    · go_wp2_with fail
      go_ret
      exact ⟨by simp [h2]; omega, Below.refl _ _⟩
    · go_wp2_with fail
      go_ret
      exact ⟨by simp; omega, Below.refl _ _⟩
  · go_wp2_with fail
    go_ret
    exact ⟨by simp; omega, Below.refl _ _⟩
theorem frInP (a b c : Int) (w : World) : Calls Try.prog 90 #[.int .i64 a, .int .i64 b, .int .i64 c] w fun e w' => e = .returned (.bool (decide (b ≤ a ∧ a ≤ c))) ∧ Below w.heap.size w w' := by
  go_enter Try.func90, Try.ntmps90
  by_cases h1 : b ≤ a
  · by_cases h2 : a ≤ c
    · go_wp2_with fail
      go_ret
      exact ⟨by simp [h2]; omega, Below.refl _ _⟩
    · go_wp2_with fail
      go_ret
      exact ⟨by simp; omega, Below.refl _ _⟩
  · go_wp2_with fail
    go_ret
    exact ⟨by simp; omega, Below.refl _ _⟩
end Go.Proofs.Ytchbialjgcejgaa

/- Numbers in memory. No program, no conditions. -/

namespace Go.Proofs.Ytchbialjgcejgaa
open Go Go.RowKit

end Go.Proofs.Ytchbialjgcejgaa

/- Small laws of lists of strings, of a cell that is set. No program walked but one fact of its types; no conditions. -/

namespace Go.Proofs.Ytchbialjgcejgaa
open Go Go.RowKit

theorem size_setCell (w : World) (a : Addr) (v : Value) : (w.setCell a v).heap.size = w.heap.size := by simp [World.setCell]
end Go.Proofs.Ytchbialjgcejgaa

/- What a schema is as plain data, its weight, and how it lies in memory: definitions and small laws, no program. No conditions. -/

namespace Go.Proofs.Ytchbialjgcejgaa
open Go Go.RowKit

/-- A schema as plain data. -/
inductive Kd where
  | mk (sort : Int) (names : List ByteArray) (kids : List Kd)

namespace Kd
end Kd




end Go.Proofs.Ytchbialjgcejgaa

/- Trees that own their memory: what blocks they lie in, each named once; what marking them makes of them. Definitions and small laws, no program. No conditions. -/

namespace Go.Proofs.Ytchbialjgcejgaa
open Go Go.RowKit

/-- All blocks that were there, but those in F, are as they were. -/
structure Exc (F : List Nat) (w w' : World) : Prop where
  os : w'.os = w.os
  tape : w'.tape = w.tape
  output : w'.output = w.output
  size : w.heap.size ≤ w'.heap.size
  block : ∀ k, k < w.heap.size → k ∉ F → w'.heap[k]? = w.heap[k]?

theorem Exc.refl (F : List Nat) (w : World) : Exc F w w := ⟨rfl, rfl, rfl, Nat.le_refl _, fun _ _ _ => rfl⟩
theorem Exc.trans {F : List Nat} {a b c : World} (h : Exc F a b) (k : Exc F b c) : Exc F a c :=
  ⟨k.os.trans h.os, k.tape.trans h.tape, k.output.trans h.output, Nat.le_trans h.size k.size, fun i hi hn => (k.block i (Nat.lt_of_lt_of_le hi h.size) hn).trans (h.block i hi hn)⟩
theorem Exc.of_below {F : List Nat} {w w' : World} (h : Below w.heap.size w w') : Exc F w w' := ⟨h.os, h.tape, h.output, h.size, fun k hk _ => h.block k hk⟩
theorem Exc.set {F : List Nat} (w : World) (b o : Nat) (v : Value) (hb : b ∈ F) : Exc F w (w.setCell ⟨b, o, none⟩ v) :=
  ⟨rfl, rfl, rfl, by simp [World.setCell], fun k _ hn => Below.heap_setCell _ _ _ _ (fun e => hn (by rw [e]; exact hb))⟩
/-- Where all blocks of F are new since a world, that world is as it was. -/
theorem Exc.below {F : List Nat} {B : Nat} {w w' : World} (h : Exc F w w') (hB : B ≤ w.heap.size) (hF : ∀ b, b ∈ F → B ≤ b) : Below B w w' :=
  ⟨h.os, h.tape, h.output, h.size, fun k hk => h.block k (by omega) (fun hm => by have := hF k hm; omega)⟩

/-- No cell of a block is frozen. -/
def FreeB (w : World) (b : Nat) : Prop := ∀ o, w.frozen? ⟨b, o, none⟩ = false
theorem FreeB.of_block {w w' : World} {b : Nat} (h : FreeB w b) (e : w'.heap[b]? = w.heap[b]?) : FreeB w' b := fun o => by
  rw [World.frozen?_of_block (w := w) (a := ⟨b, o, none⟩) e]; exact h o



mutual
/-- How many marks a kid takes. -/
def cT : Tr → Nat
  | .mk _ _ _ ns ks => 3 + ns.length + cK ks
def cK : List Tr → Nat
  | [] => 0
  | t :: r => cT t + cK r
end
end Go.Proofs.Ytchbialjgcejgaa

/- The shape of a schema in memory: of what kind its cells are, whatever they hold; worlds whose cells are of the same kinds. Definitions and small laws, no program. No conditions. -/

namespace Go.Proofs.Ytchbialjgcejgaa
open Go Go.RowKit




end Go.Proofs.Ytchbialjgcejgaa

/- The walks of the law's own toIntS, eqIntS, markIntS. No conditions but toIntS's on how many, and that the marks count to at most 2^40. -/

namespace Go.Proofs.Ytchbialjgcejgaa
open Go Go.RowKit

theorem infoIntM : (Try.prog.info? 3).map (fun i => (i.zero, i.size, i.bytes)) = some (some (.int .i64 0), 1, 8) := by kernel_rfl
end Go.Proofs.Ytchbialjgcejgaa

/- What a disk is as plain data, its weight, and how it lies in memory: definitions and small laws, no program. No conditions. -/

namespace Go.Proofs.Ytchbialjgcejgaa
open Go Go.RowKit

/-- Rows of n cells each, one behind the other, behind a slice: each row's cells are as told. -/
def FlatAt (P : Nat → Prop) (w : World) (v : Value) (n : Nat) (rs : List (List Value)) : Prop :=
  ∃ a cap, v = .slice a rs.length cap ∧ rs.length ≤ 9223372036854775807 ∧
    ∀ i, (h : i < rs.length) → ∃ b o, a = some ⟨b, o, none⟩ ∧ P b ∧ ∀ j, j < n → w.cell? ⟨b, o + i * n + j, none⟩ = some (rs[i].getD j undef)
theorem FlatAt.carry {P Q : Nat → Prop} {w w' : World} {v : Value} {n : Nat} {rs : List (List Value)} (h : FlatAt P w v n rs) (hP : ∀ b, P b → w'.heap[b]? = w.heap[b]?) (hQ : ∀ b, P b → Q b) : FlatAt Q w' v n rs := by
  obtain ⟨a, cap, h1, h2, h3⟩ := h
  refine ⟨a, cap, h1, h2, fun i hi => ?_⟩
  obtain ⟨b, o, e, hb, hc⟩ := h3 i hi
  exact ⟨b, o, e, hQ b hb, fun j hj => by rw [World.cell?_of_block (w := w) (hP b hb)]; exact hc j hj⟩
end Go.Proofs.Ytchbialjgcejgaa

/- The first tree of a schema, as plain data; trees gathered in a row of the call's own. Definitions and small laws; no program walked, no conditions. -/

namespace Go.Proofs.Ytchbialjgcejgaa
open Go Go.RowKit

theorem freeOfHeap {w : World} {g : Nat} {cur : Array Value} {e : TypeId} (h : w.heap[g]? = some (.cells cur e (0, 0))) : FreeB w g := fun o => by simp [World.frozen?, h]

end Go.Proofs.Ytchbialjgcejgaa

/- Disks that own their memory: definitions and small laws, no program. No conditions. -/

namespace Go.Proofs.Ytchbialjgcejgaa
open Go Go.RowKit

/-- Rows of n cells each, in a block of their own. -/
def FlatOwn (w : World) (v : Value) (n : Nat) (rs : List (List Value)) (F : List Nat) : Prop :=
  ∃ a cap, v = .slice a rs.length cap ∧ rs.length ≤ 9223372036854775807 ∧ ((rs = [] ∧ F = []) ∨ ∃ b, a = some ⟨b, 0, none⟩ ∧ F = [b] ∧ FreeB w b ∧ ∀ i, (h : i < rs.length) → ∀ j, j < n → w.cell? ⟨b, i * n + j, none⟩ = some (rs[i].getD j undef))
theorem FlatOwn.carry {w w' : World} {v : Value} {n : Nat} {rs : List (List Value)} {F : List Nat} (h : FlatOwn w v n rs F) (hF : ∀ b, b ∈ F → w'.heap[b]? = w.heap[b]?) : FlatOwn w' v n rs F := by
  obtain ⟨a, cap, h1, h2, h3⟩ := h
  refine ⟨a, cap, h1, h2, ?_⟩
  rcases h3 with h | ⟨b, e, rfl, hf, hc⟩
  · exact Or.inl h
  · have hb := hF b (by simp)
    exact Or.inr ⟨b, e, rfl, hf.of_block hb, fun i hi j hj => by rw [World.cell?_of_block (w := w) hb]; exact hc i hi j hj⟩
theorem FlatOwn.at {w : World} {v : Value} {n : Nat} {rs : List (List Value)} {F : List Nat} (h : FlatOwn w v n rs F) : FlatAt (· ∈ F) w v n rs := by
  obtain ⟨a, cap, h1, h2, h3⟩ := h
  refine ⟨a, cap, h1, h2, fun i hi => ?_⟩
  rcases h3 with ⟨rfl, -⟩ | ⟨b, e, rfl, hf, hc⟩
  · simp at hi
  · exact ⟨b, 0, e, by simp, fun j hj => by rw [Nat.zero_add]; exact hc i hi j hj⟩
theorem FlatOwn.nil (w : World) (n : Nat) : FlatOwn w (.slice none 0 0) n [] [] := ⟨none, 0, rfl, by simp, Or.inl ⟨rfl, rfl⟩⟩
theorem flat_get {n : Nat} : ∀ (rs : List (List Value)), (∀ r, r ∈ rs → r.length = n) → ∀ (i : Nat) (hi : i < rs.length) (j : Nat), j < n → rs.flatten[i * n + j]? = some (rs[i].getD j undef)
  | r :: rest, hn, 0, _, j, hj => by
    have hr : r.length = n := hn r List.mem_cons_self
    rw [List.flatten_cons, Nat.zero_mul, Nat.zero_add, List.getElem?_append_left (by omega), List.getElem?_eq_getElem (by omega)]
    simp [hr, hj]
  | r :: rest, hn, i + 1, hi, j, hj => by
    have hr : r.length = n := hn r List.mem_cons_self
    rw [List.flatten_cons, List.getElem?_append_right (by rw [hr, Nat.add_mul]; omega), hr, show (i + 1) * n + j - n = i * n + j by rw [Nat.add_mul]; omega, flat_get rest (fun x hx => hn x (List.mem_cons_of_mem _ hx)) i (by simpa using hi) j hj]
    rfl
/-- A row of the call's own is such. -/
theorem FlatOwn.of_row {base : Nat} {w : World} {v : Value} {e : TypeId} {n : Nat} {rs : List (List Value)} (h : w.ownsRow base e n v rs.length rs.flatten) (hn : ∀ r, r ∈ rs → r.length = n) :
    ∃ F, FlatOwn w v n rs F ∧ (∀ b, b ∈ F → v.ownBlock = some b) ∧ (∀ b, b ∈ F → base ≤ b ∧ b < w.heap.size) ∧ F.Nodup := by
  rcases h.2 with ⟨hv, h0⟩ | ⟨g, cap, cur, hv, hb, hh, hle, hm, hsz, htk⟩
  · have : rs = [] := List.eq_nil_of_length_eq_zero h0
    subst this
    exact ⟨[], ⟨none, 0, hv, by simp, Or.inl ⟨rfl, rfl⟩⟩, fun b hb => (by cases hb), fun b hb => (by cases hb), List.nodup_nil⟩
  · refine ⟨[g], ⟨some ⟨g, 0, none⟩, cap, hv, by unfold maxLen at hm; omega, Or.inr ⟨g, rfl, rfl, freeOfHeap hh, fun i hi j hj => ?_⟩⟩, fun b hb => ?_, fun b hb => ?_, by simp⟩
    · have h1 := flat_get rs hn i hi j hj
      have hlt : i * n + j < rs.length * n := by
        have : (i + 1) * n ≤ rs.length * n := Nat.mul_le_mul_right n hi
        rw [Nat.add_mul] at this; omega
      rw [← htk, List.getElem?_take_of_lt hlt] at h1
      simp only [World.cell?, hh]
      simpa using h1
    · simp at hb; subst hb; rw [hv]; rfl
    · simp at hb; subst hb
      exact ⟨by assumption, (Array.getElem?_eq_some_iff.1 hh).1⟩

end Go.Proofs.Ytchbialjgcejgaa

/- A crew's world as plain data, and how it lies in memory. No program, no conditions. -/

namespace Go.Proofs.Ytchbialjgcejgaa
open Go Go.RowKit

structure Hd where
  (state job : Int)
instance : Inhabited Hd := ⟨⟨0, 0⟩⟩
def Hd.cs (h : Hd) : List Value := [.int .i64 h.state, .int .i64 h.job]
def zcs (z : Int) : List Value := [.int .i64 z]
def ZAt (P : Nat → Prop) (w : World) (v : Value) (zs : List Int) : Prop := FlatAt P w v 1 (zs.map zcs)
def HAt (P : Nat → Prop) (w : World) (v : Value) (hs : List Hd) : Prop := FlatAt P w v 2 (hs.map Hd.cs)
def ZOwn (w : World) (v : Value) (zs : List Int) (F : List Nat) : Prop := FlatOwn w v 1 (zs.map zcs) F
def HOwn (w : World) (v : Value) (hs : List Hd) (F : List Nat) : Prop := FlatOwn w v 2 (hs.map Hd.cs) F
theorem ZAt.carry {P Q : Nat → Prop} {w w' : World} {v : Value} {zs : List Int} (h : ZAt P w v zs) (hP : ∀ b, P b → w'.heap[b]? = w.heap[b]?) (hQ : ∀ b, P b → Q b) : ZAt Q w' v zs := FlatAt.carry h hP hQ
theorem HAt.carry {P Q : Nat → Prop} {w w' : World} {v : Value} {hs : List Hd} (h : HAt P w v hs) (hP : ∀ b, P b → w'.heap[b]? = w.heap[b]?) (hQ : ∀ b, P b → Q b) : HAt Q w' v hs := FlatAt.carry h hP hQ
theorem ZAt.open {P : Nat → Prop} {w : World} {v : Value} {zs : List Int} (h : ZAt P w v zs) : ∃ a cap, v = .slice a zs.length cap ∧ zs.length ≤ 9223372036854775807 ∧
    ∀ i, (hi : i < zs.length) → ∃ b o, a = some ⟨b, o, none⟩ ∧ P b ∧ w.cell? ⟨b, o + i, none⟩ = some (.int .i64 zs[i]) := by
  obtain ⟨a, cap, h1, h2, h3⟩ := h
  rw [List.length_map] at h1 h2
  refine ⟨a, cap, h1, h2, fun i hi => ?_⟩
  obtain ⟨b, o, e, hb, hc⟩ := h3 i (by rw [List.length_map]; exact hi)
  have c0 := hc 0 (by omega)
  simp only [List.getElem_map, zcs, Nat.add_zero, Nat.mul_one, List.getD_cons_zero] at c0
  exact ⟨b, o, e, hb, c0⟩
theorem HAt.open {P : Nat → Prop} {w : World} {v : Value} {hs : List Hd} (h : HAt P w v hs) : ∃ a cap, v = .slice a hs.length cap ∧ hs.length ≤ 9223372036854775807 ∧
    ∀ i, (hi : i < hs.length) → ∃ b o, a = some ⟨b, o, none⟩ ∧ P b ∧ w.cell? ⟨b, o + i * 2, none⟩ = some (.int .i64 hs[i].state) ∧ w.cell? ⟨b, o + i * 2 + 1, none⟩ = some (.int .i64 hs[i].job) := by
  obtain ⟨a, cap, h1, h2, h3⟩ := h
  rw [List.length_map] at h1 h2
  refine ⟨a, cap, h1, h2, fun i hi => ?_⟩
  obtain ⟨b, o, e, hb, hc⟩ := h3 i (by rw [List.length_map]; exact hi)
  have c0 := hc 0 (by omega); have c1 := hc 1 (by omega)
  simp only [List.getElem_map, Hd.cs, Nat.add_zero, List.getD_cons_zero, List.getD_cons_succ] at c0 c1
  exact ⟨b, o, e, hb, c0, c1⟩

/-- A world. -/
structure Cw where
  (jobs workers window next reader : Int) (queue : List Int) (hands : List Hd) (closer : Int) (results : List Int) (keeper : Int) (ring : List Int) (due : Int) (out : List Int) (user : Int) (got : List Int) (room : Int) (shut : List Int) (ops : Int)
/-- The values of its seven lists. -/
structure C7 where
  (q h r g o t s : Value)
structure CwAt (P : Nat → Prop) (w : World) (c : Cw) (v : C7) : Prop where
  q : ZAt P w v.q c.queue
  h : HAt P w v.h c.hands
  r : ZAt P w v.r c.results
  g : ZAt P w v.g c.ring
  o : ZAt P w v.o c.out
  t : ZAt P w v.t c.got
  s : ZAt P w v.s c.shut
theorem CwAt.carry {P Q : Nat → Prop} {w w' : World} {c : Cw} {v : C7} (h : CwAt P w c v) (hP : ∀ b, P b → w'.heap[b]? = w.heap[b]?) (hQ : ∀ b, P b → Q b) : CwAt Q w' c v :=
  ⟨h.q.carry hP hQ, h.h.carry hP hQ, h.r.carry hP hQ, h.g.carry hP hQ, h.o.carry hP hQ, h.t.carry hP hQ, h.s.carry hP hQ⟩
/-- A world in blocks of its own: seven lists of them. -/
structure CwOwn (w : World) (c : Cw) (v : C7) (Fq Fh Fr Fg Fo Ft Fs : List Nat) : Prop where
  q : ZOwn w v.q c.queue Fq
  h : HOwn w v.h c.hands Fh
  r : ZOwn w v.r c.results Fr
  g : ZOwn w v.g c.ring Fg
  o : ZOwn w v.o c.out Fo
  t : ZOwn w v.t c.got Ft
  s : ZOwn w v.s c.shut Fs
def F7 (Fq Fh Fr Fg Fo Ft Fs : List Nat) : List Nat := Fq ++ (Fh ++ (Fr ++ (Fg ++ (Fo ++ (Ft ++ Fs)))))
theorem CwOwn.carry {w w' : World} {c : Cw} {v : C7} {Fq Fh Fr Fg Fo Ft Fs : List Nat} (h : CwOwn w c v Fq Fh Fr Fg Fo Ft Fs) (hF : ∀ b, b ∈ F7 Fq Fh Fr Fg Fo Ft Fs → w'.heap[b]? = w.heap[b]?) : CwOwn w' c v Fq Fh Fr Fg Fo Ft Fs :=
  ⟨FlatOwn.carry h.q (fun b hb => hF b (by simp [F7, hb])), FlatOwn.carry h.h (fun b hb => hF b (by simp [F7, hb])), FlatOwn.carry h.r (fun b hb => hF b (by simp [F7, hb])), FlatOwn.carry h.g (fun b hb => hF b (by simp [F7, hb])), FlatOwn.carry h.o (fun b hb => hF b (by simp [F7, hb])), FlatOwn.carry h.t (fun b hb => hF b (by simp [F7, hb])), FlatOwn.carry h.s (fun b hb => hF b (by simp [F7, hb]))⟩
theorem CwOwn.at {w : World} {c : Cw} {v : C7} {Fq Fh Fr Fg Fo Ft Fs : List Nat} (h : CwOwn w c v Fq Fh Fr Fg Fo Ft Fs) : CwAt (· ∈ F7 Fq Fh Fr Fg Fo Ft Fs) w c v :=
  ⟨(FlatOwn.at h.q).carry (fun _ _ => rfl) (fun b hb => by simp [F7, hb]), (FlatOwn.at h.h).carry (fun _ _ => rfl) (fun b hb => by simp [F7, hb]), (FlatOwn.at h.r).carry (fun _ _ => rfl) (fun b hb => by simp [F7, hb]), (FlatOwn.at h.g).carry (fun _ _ => rfl) (fun b hb => by simp [F7, hb]), (FlatOwn.at h.o).carry (fun _ _ => rfl) (fun b hb => by simp [F7, hb]), (FlatOwn.at h.t).carry (fun _ _ => rfl) (fun b hb => by simp [F7, hb]), (FlatOwn.at h.s).carry (fun _ _ => rfl) (fun b hb => by simp [F7, hb])⟩
end Go.Proofs.Ytchbialjgcejgaa

/- The walks of markText and markStringS: the text of a mark; strings that own their memory are marked in place, and nothing else turns. For marks up to 2^40. -/

namespace Go.Proofs.Ytchbialjgcejgaa
open Go Go.RowKit

end Go.Proofs.Ytchbialjgcejgaa

/- The walk of markStringS over a shape: it ends, and turns cells of the shape's own blocks alone, each into one of its kind. The marks count to at most 2^40. -/

namespace Go.Proofs.Ytchbialjgcejgaa
open Go Go.RowKit

end Go.Proofs.Ytchbialjgcejgaa

/- The walks of the law's markDiskFileS, markDiskMoveS, markDisk over a shape: they end, and turn cells of the shape's own blocks alone, each into one of its kind. The marks count to at most 2^40. -/

namespace Go.Proofs.Ytchbialjgcejgaa
open Go Go.RowKit

end Go.Proofs.Ytchbialjgcejgaa

/- The walks of the law's markDiskFileS, markDiskMoveS, markDisk over a disk that owns its memory: what is marked then, and that nothing else turns. The marks count to at most 2^40. -/

namespace Go.Proofs.Ytchbialjgcejgaa
open Go Go.RowKit

end Go.Proofs.Ytchbialjgcejgaa

/- The walks of the law's own eqIntS, eqCrewHandS, markIntS, markCrewHandS, heldIntS, heldCrewHandS. The marks count to at most 2^40. -/

namespace Go.Proofs.Ytchbialjgcejgaa
open Go Go.RowKit

end Go.Proofs.Ytchbialjgcejgaa

/- The walks of the law's own heldIntS, markCrewHandS, heldCrewHandS, eqCrewWorld, markCrewWorld, heldCrewWorld. The marks count to at most 2^40. -/

namespace Go.Proofs.Ytchbialjgcejgaa
open Go Go.RowKit

end Go.Proofs.Ytchbialjgcejgaa

/- The walks of the law's own eqCrewWorld, markCrewWorld, heldCrewWorld. The marks count to at most 2^40. -/

namespace Go.Proofs.Ytchbialjgcejgaa
open Go Go.RowKit

def r18 (l : List Value) (i : Nat) : Value := l.getD i undef
theorem box18 (w : World) (c : Cw) (v : C7) (t : TypeId) : (w.alloc (.cells #[.int .i64 c.jobs, .int .i64 c.workers, .int .i64 c.window, .int .i64 c.next, .int .i64 c.reader, v.q, v.h, .int .i64 c.closer, v.r, .int .i64 c.keeper, v.g, .int .i64 c.due, v.o, .int .i64 c.user, v.t, .int .i64 c.room, v.s, .int .i64 c.ops] t)).rowIs w.heap.size t 18 (r18 [.int .i64 c.jobs, .int .i64 c.workers, .int .i64 c.window, .int .i64 c.next, .int .i64 c.reader, v.q, v.h, .int .i64 c.closer, v.r, .int .i64 c.keeper, v.g, .int .i64 c.due, v.o, .int .i64 c.user, v.t, .int .i64 c.room, v.s, .int .i64 c.ops]) :=
  World.rowIs_alloc w #[.int .i64 c.jobs, .int .i64 c.workers, .int .i64 c.window, .int .i64 c.next, .int .i64 c.reader, v.q, v.h, .int .i64 c.closer, v.r, .int .i64 c.keeper, v.g, .int .i64 c.due, v.o, .int .i64 c.user, v.t, .int .i64 c.room, v.s, .int .i64 c.ops] t _ (fun i hi => by
    have hi' : i < 18 := by simpa using hi
    rcases (show i = 0 ∨ i = 1 ∨ i = 2 ∨ i = 3 ∨ i = 4 ∨ i = 5 ∨ i = 6 ∨ i = 7 ∨ i = 8 ∨ i = 9 ∨ i = 10 ∨ i = 11 ∨ i = 12 ∨ i = 13 ∨ i = 14 ∨ i = 15 ∨ i = 16 ∨ i = 17 by omega) with rfl | rfl | rfl | rfl | rfl | rfl | rfl | rfl | rfl | rfl | rfl | rfl | rfl | rfl | rfl | rfl | rfl | rfl <;> rfl)
end Go.Proofs.Ytchbialjgcejgaa

/- The walks of the law's own markCrewWorld, heldCrewWorld over a world that owns its memory. The marks count to at most 2^40. -/

namespace Go.Proofs.Ytchbialjgcejgaa
open Go Go.RowKit

/-- Seven lists of blocks, none of which has one of another. -/
structure Dj7 (Fq Fh Fr Fg Fo Ft Fs : List Nat) : Prop where
  d0 : ∀ b, b ∈ Fq → b ∉ Fh ++ (Fr ++ (Fg ++ (Fo ++ (Ft ++ (Fs)))))
  d1 : ∀ b, b ∈ Fh → b ∉ Fr ++ (Fg ++ (Fo ++ (Ft ++ (Fs))))
  d2 : ∀ b, b ∈ Fr → b ∉ Fg ++ (Fo ++ (Ft ++ (Fs)))
  d3 : ∀ b, b ∈ Fg → b ∉ Fo ++ (Ft ++ (Fs))
  d4 : ∀ b, b ∈ Fo → b ∉ Ft ++ (Fs)
  d5 : ∀ b, b ∈ Ft → b ∉ Fs
end Go.Proofs.Ytchbialjgcejgaa
