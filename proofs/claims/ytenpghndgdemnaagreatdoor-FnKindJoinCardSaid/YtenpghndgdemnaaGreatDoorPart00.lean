/- What a tree is as plain data, its weight, and how it lies in memory: definitions and small laws, no program. No conditions. -/
import Derived.WalkKit
import Derived.Deep.OwnRows
import Derived.Test.YtenpghndgdemnaaGreatDoorRows
import Derived.Deep.RegionWith
import Derived.Deep.QuietTactic
import Derived.BigQuiet
namespace Go.Proofs.YtenpghndgdemnaaGreatDoor
open Go Go.RowKit

theorem hide {p : Prop} (h : p) : Hid p := h
theorem unhide {p : Prop} (h : Hid p) : p := h

/-- A tree as plain data. -/
inductive Tr where
  | mk (sort num : Int) (text : ByteArray) (names : List ByteArray) (kids : List Tr)

namespace Tr
end Tr

/-- A string list's weight. -/
def wS : List ByteArray → Nat
  | [] => 0
  | s :: r => s.size + 1 + wS r


theorem wS_len (l : List ByteArray) : l.length ≤ wS l := by
  induction l with
  | nil => simp [wS]
  | cons a r ih => rw [wS]; simp; omega

/-- A slice value whose strings lie in the world, in blocks of which 'P' holds. -/
def StrsAt (P : Nat → Prop) (w : World) (v : Value) (ss : List ByteArray) : Prop :=
  ∃ a cap, v = .slice a ss.length cap ∧ ss.length ≤ 9223372036854775807 ∧
    ∀ i, (h : i < ss.length) → ∃ b o, a = some ⟨b, o, none⟩ ∧ P b ∧ w.cell? ⟨b, o + i, none⟩ = some (.string ss[i]) ∧ ss[i].size ≤ 9223372036854775807

def I64 (n : Int) : Prop := -9223372036854775808 ≤ n ∧ n ≤ 9223372036854775807


theorem StrsAt.carry {P Q : Nat → Prop} {w w' : World} {v : Value} {ss : List ByteArray} (h : StrsAt P w v ss) (hP : ∀ b, P b → w'.heap[b]? = w.heap[b]?) (hQ : ∀ b, P b → Q b) : StrsAt Q w' v ss := by
  obtain ⟨a, cap, h1, h2, h3⟩ := h
  refine ⟨a, cap, h1, h2, fun i hi => ?_⟩
  obtain ⟨b, o, e, p, hc, hs⟩ := h3 i hi
  exact ⟨b, o, e, hQ b p, by rw [World.cell?_of_block (w := w) (hP b p)]; exact hc, hs⟩


/-- In blocks that are new between two worlds. -/
def New (w w' : World) : Nat → Prop := fun b => w.heap.size ≤ b ∧ b < w'.heap.size

end Go.Proofs.YtenpghndgdemnaaGreatDoor

/- Worlds of which but one block is as it was; append onto a row of the call's own. No program walked, no conditions. -/

namespace Go.Proofs.YtenpghndgdemnaaGreatDoor
open Go Go.RowKit

/-- All blocks but B that were there are as they were. -/
abbrev But (B : Nat) (w w' : World) : Prop := w.grownBy w' (some B)

theorem But.refl (B : Nat) (w : World) : But B w w := World.grownBy.refl w _
theorem But.trans {B : Nat} {a b c : World} (h : But B a b) (k : But B b c) : But B a c :=
  ⟨k.os.trans h.os, k.tape.trans h.tape, k.output.trans h.output, Nat.le_trans h.size k.size, fun i hi hne => (k.block i (Nat.lt_of_lt_of_le hi h.size) hne).trans (h.block i hi hne)⟩
theorem But.of_below {B : Nat} {w w' : World} (h : Below w.heap.size w w') : But B w w' :=
  ⟨h.os, h.tape, h.output, h.size, fun i hi _ => h.block i hi⟩
theorem But.alloc (B : Nat) (w : World) (o : Obj) : But B w (w.alloc o) := But.of_below ((Below.refl _ _).alloc (Nat.le_refl _) o)
theorem But.set {B : Nat} (w : World) (o : Nat) (v : Value) : But B w (w.setCell ⟨B, o, none⟩ v) :=
  ⟨rfl, rfl, rfl, by simp [World.setCell], fun i _ hne => Below.heap_setCell _ _ _ _ (fun e => hne (by rw [e]))⟩
theorem But.at {B : Nat} {w w' : World} (h : But B w w') {b : Nat} (hb : b < w.heap.size) (hne : b ≠ B) : w'.heap[b]? = w.heap[b]? :=
  h.block b hb (fun e => hne (by simpa using e))

theorem ownsRow_base {w : World} {base base' : Nat} {e : TypeId} {size : Nat} {v : Value} {n : Nat} {xs : List Value} (h : w.ownsRow base e size v n xs) (hb : base' ≤ base) : w.ownsRow base' e size v n xs := by
  refine ⟨h.1, ?_⟩
  rcases h.2 with h | ⟨g, cap, cur, h1, h2, h3⟩
  · exact Or.inl h
  · exact Or.inr ⟨g, cap, cur, h1, Nat.le_trans hb h2, h3⟩

/-- append onto a row of the call's own: behind it the value lies in the same block, or in a new one. -/
theorem append_row {P : Program} (w : World) {ops : Array Oper} {rest : List Oper} {o : Oper} {a : Act} {Q : Exit → Act → World → Prop}
    (hg : o.guard = none) (s x : Operand) (t : TypeId) (hop : o.op = Op.call { callee := Callee.builtin Builtin.append, args := #[s, x], argTypes := #[t, t] })
    (base : Nat) (e : TypeId) (i : TypeInfo) (z : Value) (size bytes : Nat) (h1 : P.underlying t = some (.slice e)) (h2 : P.info? e = some i) (h3 : i.zero = some z) (h4 : i.size = size) (h5 : i.bytes = bytes) (h6 : z.cells.size = size) (h7 : 0 < size)
    (v : Value) (n : Nat) (xs : List Value) (hs : a.eval s = v) (hown : w.ownsRow base e size v n xs)
    (ad : Addr) (m c : Nat) (news : List Value) (hx : a.eval x = .slice (some ad) m c) (hn : news.length = m * size) (hc : ∀ j u, news[j]? = some u → w.cell? (ad.add j) = some u) (h1c : ∀ u ∈ news, u.oneCell' = true)
    (hm : 0 < m) (b1 : n + m ≤ maxLen) (b2 : (n + m) * bytes ≤ 140737488355328) (hbase : base ≤ w.heap.size)
    (hK : ∀ v' w', w'.ownsRow base e size v' (n + m) (xs ++ news) → w.grownBy w' v.ownBlock → (v'.ownBlock = v.ownBlock ∨ ∃ g, v'.ownBlock = some g ∧ w.heap.size ≤ g) → wpList P ops Q rest (a.put o.dst v') w') :
    wpList P ops Q (o :: rest) a w := by
  have hgrow : ∀ v' w', w'.ownsRow w.heap.size e size v' (n + m) (xs ++ news) → w.grownBy w' none → wpList P ops Q rest (a.put o.dst v') w' := fun v' w' r1 r2 => by
    refine hK v' w' (ownsRow_base r1 hbase) ⟨r2.os, r2.tape, r2.output, r2.size, fun k hk _ => r2.block k hk (by simp)⟩ (Or.inr ?_)
    rcases r1.2 with ⟨_, h⟩ | ⟨g, cap, cur, hv, hgg, _⟩
    · omega
    · exact ⟨g, by rw [hv]; rfl, hgg⟩
  rcases hown.2 with ⟨hv, hn0⟩ | ⟨g, cap, cur, hv, hgb, hh, hle, hm2, hsz, htk⟩
  · subst hv; subst hn0
    have hxs : xs = [] := List.eq_nil_of_length_eq_zero (by have := hown.1; simpa using this)
    subst hxs
    exact wpList_append_grows w hg s x t hop e i z size bytes h1 h2 h3 h4 h5 h6 h7 none 0 0 [] hs (fun _ => ⟨rfl, rfl⟩) (by simp) (fun b hb => by cases hb) ad m c news hx hn hc h1c (by omega) b1 b2 hgrow
  · by_cases hr : n + m ≤ cap
    · subst hv
      exact wpList_append_fits w hg s x t hop base e i size h1 h2 h4 g n cap xs hs hown ad m c news hx hn hc h1c hr fun w' r1 r2 => hK _ w' r1 r2 (Or.inl rfl)
    · refine wpList_append_grows w hg s x t hop e i z size bytes h1 h2 h3 h4 h5 h6 h7 (some ⟨g, 0, none⟩) n cap xs (by rw [hs, hv]) (fun hb => by cases hb) hown.1 (fun b hb j u hj => ?_) ad m c news hx hn hc h1c (by omega) b1 b2 hgrow
      simp only [Option.some.injEq] at hb
      subst hb
      have hj' : cur.toList[j]? = some u := by
        rw [← htk] at hj
        rw [List.getElem?_take] at hj
        split at hj
        · exact hj
        · cases hj
      rw [Addr.add_lit]
      simp only [Nat.zero_add, World.cell?, hh]
      simpa using hj'

theorem cell_one (w : World) (x : Value) (t : TypeId) : ∀ j u, [x][j]? = some u → (w.alloc (.cells #[x] t)).cell? ((⟨w.heap.size, 0, none⟩ : Addr).add j) = some u := by
  intro j u hj
  match j with
  | 0 => simp only [List.getElem?_cons_zero, Option.some.injEq] at hj; subst hj; rw [Addr.add_lit]; simp [go_sem]
  | j + 1 => simp at hj
end Go.Proofs.YtenpghndgdemnaaGreatDoor

/- The specification's reader of draws in memory, and the walk of its pick: some number below the bound. The reader's bytes are at most 2000; draws so far at most 10^9. -/

namespace Go.Proofs.YtenpghndgdemnaaGreatDoor
open Go Go.RowKit

def rowD (c0 c1 : Value) : Nat → Value
  | 0 => c0
  | _ => c1

/-- The reader of draws: its bytes, how many draws there were. -/
structure DR (R : Nat) (w : World) (v : Value) (b : List UInt8) (p : Nat) : Prop where
  cells : w.rowIs R 77 2 (rowD v (.int .i64 p))
  bytes : ∃ a cap, v = .slice a b.length cap ∧ ∀ i, (h : i < b.length) → ∃ g o, a = some ⟨g, o, none⟩ ∧ g < R ∧ w.cell? ⟨g, o + i, none⟩ = some (.int .u8 b[i].toNat)
  small : b.length ≤ 2000

theorem DR.block {R : Nat} {w w' : World} {v : Value} {b : List UInt8} {p p' : Nat} (h : DR R w v b p) (hb : ∀ g, g < R → w'.heap[g]? = w.heap[g]?) (hc : w'.rowIs R 77 2 (rowD v (.int .i64 p'))) : DR R w' v b p' := by
  obtain ⟨a, cap, h1, h2⟩ := h.bytes
  refine ⟨hc, ⟨a, cap, h1, fun i hi => ?_⟩, h.small⟩
  obtain ⟨g, o, e, hlt, hcell⟩ := h2 i hi
  exact ⟨g, o, e, hlt, by rw [World.cell?_of_block (w := w) (hb g hlt)]; exact hcell⟩
theorem DR.on {R : Nat} {w w' : World} {v : Value} {b : List UInt8} {p : Nat} (h : DR R w v b p) (hb : Below w.heap.size w w') : DR R w' v b p :=
  h.block (fun g hg => hb.block g (by have := h.cells.lt; omega)) (h.cells.of_block (hb.block _ h.cells.lt))
theorem DR.but {R : Nat} {w w' : World} {v : Value} {b : List UInt8} {p p' : Nat} (h : DR R w v b p) (hb : But R w w') (hc : w'.rowIs R 77 2 (rowD v (.int .i64 p'))) : DR R w' v b p' :=
  h.block (fun g hg => hb.at (by have := h.cells.lt; omega) (by omega)) hc
theorem rowD_set1 {w : World} {B : Nat} {T : TypeId} {x y : Value} (h : w.rowIs B T 2 (rowD x y)) (v : Value) : (w.setCell ⟨B, 1, none⟩ v).rowIs B T 2 (rowD x v) :=
  (h.set 1 v).congr fun i hi => by
    rcases (show i = 0 ∨ i = 1 by omega) with rfl | rfl <;> rfl

theorem i64_xor_nat (a b : Nat) (ha : a < 4611686018427387904) (hb : b < 4611686018427387904) : bits .xor .i64 (a : Int) (b : Int) = ((a ^^^ b : Nat) : Int) := by
  have hx : a ^^^ b < 2 ^ 62 := Nat.xor_lt_two_pow (by omega) (by omega)
  have h1 : (BitVec.ofInt 64 (a : Int)).toNat = a := by
    rw [BitVec.ofInt_natCast, BitVec.toNat_ofNat]; exact Nat.mod_eq_of_lt (by omega)
  have h2 : (BitVec.ofInt 64 (b : Int)).toNat = b := by
    rw [BitVec.ofInt_natCast, BitVec.toNat_ofNat]; exact Nat.mod_eq_of_lt (by omega)
  show IntKind.i64.wrap ((BitVec.ofInt 64 (a : Int) ^^^ BitVec.ofInt 64 (b : Int)).toNat : Int) = _
  rw [BitVec.toNat_xor, h1, h2, IntKind.wrap_i64]
  omega

/-- What a draw comes to. -/
def PickEnd (R : Nat) (w w' : World) (v : Value) (b : List UInt8) (p n : Nat) (e : Ending) : Prop :=
  ∃ r : Nat, e = .returned (.int .i64 (r : Int)) ∧ r < n ∧ Hid (DR R w' v b (p + 1)) ∧ Hid (But R w w')

set_option maxRecDepth 100000 in
set_option maxHeartbeats 3200000 in
theorem pick_any (R : Nat) (w : World) (v : Value) (b : List UInt8) (p n : Nat) (h : DR R w v b p) (hn : 1 ≤ n ∧ n ≤ 1000000) (hp : p ≤ 1000000000) :
    Calls Tryz.prog 19 #[.pointer (some ⟨R, 0, none⟩), .int .i64 (n : Int)] w fun e w' => PickEnd R w w' v b p n e := by
  obtain ⟨hn1, hn2⟩ := hn
  obtain ⟨a, cap, hv, hby⟩ := h.bytes
  subst hv
  have k0 := h.cells.cell (i := 0) (by omega); have k1 := h.cells.cell (i := 1) (by omega); have f1 := h.cells.frozen 1
  simp only [rowD] at k0 k1
  have hsm := h.small
  have hq1 : decide ((n : Int) < 1) = false := by simp; omega
  have hend : ∀ m, DR R ((w.setCell ⟨R, 1, none⟩ (.int .i64 ((p : Int) + 1))).drewN m) (.slice a b.length cap) b (p + 1) ∧ But R w ((w.setCell ⟨R, 1, none⟩ (.int .i64 ((p : Int) + 1))).drewN m) := fun m => by
    have hb : But R w ((w.setCell ⟨R, 1, none⟩ (.int .i64 ((p : Int) + 1))).drewN m) := (But.set w 1 _).trans ⟨rfl, rfl, rfl, Nat.le_refl _, fun _ _ _ => rfl⟩
    exact ⟨h.but hb (by have := rowD_set1 h.cells (.int .i64 ((p : Int) + 1)); exact this.of_block rfl), hb⟩
  have HEND := hide hend
  clear hend
  by_cases h0 : b.length = 0
  · have hz : ((b.length : Int) == 0) = true := by simp [h0]
    clear hby h h0
    go_enter Tryz.func19, Tryz.ntmps19
    go_wp2_with fail
    go_ret
    exact ⟨0, rfl, by omega, (unhide HEND 0).1, (unhide HEND 0).2⟩
  · have hz : ((b.length : Int) == 0) = false := beq_eq_false_iff_ne.2 (by omega)
    by_cases hlt : p < b.length
    · have hq2 : decide ((p : Int) < (b.length : Int)) = true := by simp; omega
      obtain ⟨g, o, rfl, hg, hc⟩ := hby p hlt
      have hx8 := b[p].toNat_lt
      generalize b[p].toNat = x at *
      have hi1 : (p : Int) < (b.length : Int) := by omega
      have hne : g ≠ R := by omega
      have hne2 : R ≠ g := by omega
      clear hby h
      go_enter Tryz.func19, Tryz.ntmps19
      go_wp2_with fail
      go_ret
      refine ⟨x % n, by simp, Nat.mod_lt _ (by omega), (unhide HEND 0).1, (unhide HEND 0).2⟩
    · have hq2 : decide ((p : Int) < (b.length : Int)) = false := by simp; omega
      have hb1 : 0 < b.length := by omega
      obtain ⟨g, o, rfl, hg, -⟩ := hby 0 hb1
      have hm1 : p % b.length < b.length := Nat.mod_lt _ hb1
      have hm2 : (p * 7 + 3) % b.length < b.length := Nat.mod_lt _ hb1
      obtain ⟨g1, o1, e1, -, c1⟩ := hby (p % b.length) hm1
      obtain ⟨g2, o2, e2, -, c2⟩ := hby ((p * 7 + 3) % b.length) hm2
      simp only [Option.some.injEq, Addr.mk.injEq, and_true] at e1 e2
      obtain ⟨rfl, rfl⟩ := e1
      obtain ⟨rfl, rfl⟩ := e2
      have hx8 := (b[p % b.length]'hm1).toNat_lt
      have hy8 := (b[(p * 7 + 3) % b.length]'hm2).toNat_lt
      generalize (b[p % b.length]'hm1).toNat = x at *
      generalize (b[(p * 7 + 3) % b.length]'hm2).toNat = y at *
      have hi1 : (p : Int) % (b.length : Int) < (b.length : Int) := by omega
      have hi2 : ((p : Int) * 7 + 3) % (b.length : Int) < (b.length : Int) := Int.emod_lt_of_pos _ (by omega)
      have hj1 : 0 ≤ (p : Int) % (b.length : Int) := Int.emod_nonneg _ (by omega)
      have hj2 : 0 ≤ ((p : Int) * 7 + 3) % (b.length : Int) := Int.emod_nonneg _ (by omega)
      have ht1 : ((p : Int) % (b.length : Int)).toNat = p % b.length := by rw [← Int.natCast_emod]; rfl
      have ht2 : (((p : Int) * 7 + 3) % (b.length : Int)).toNat = (p * 7 + 3) % b.length := by
        rw [show (p : Int) * 7 + 3 = ((p * 7 + 3 : Nat) : Int) from by omega, ← Int.natCast_emod]; rfl
      have hne : g ≠ R := by omega
      have hne2 : R ≠ g := by omega
      clear hby h
      go_enter Tryz.func19, Tryz.ntmps19
      go_wp2_with fail
      go_quiet (fail)
      obtain ⟨z, hz, hzb⟩ : ∃ z : Nat, wrap64 ((x : Int) * 131 + (y : Int) * 1117 + (p : Int) * 29 + wrap64 (wrap64 ((p : Int) / (b.length : Int)) * 53)) = (z : Int) ∧ z ≤ 1000000000000 := by
        have q0 : 0 ≤ (p : Int) / (b.length : Int) := Int.ediv_nonneg (by omega) (by omega)
        have q1 : (p : Int) / (b.length : Int) ≤ p := Int.ediv_le_self _ (by omega)
        generalize (p : Int) / (b.length : Int) = q at *
        refine ⟨(x * 131 + y * 1117 + p * 29 + q.toNat * 53), ?_, ?_⟩
        · unfold wrap64; omega
        · omega
      rw [hz]
      clear hz
      go_wp2_with fail
      go_ret
      refine ⟨(z ^^^ z / 64) % n, ?_, Nat.mod_lt _ (by omega), (unhide HEND nq).1, (unhide HEND nq).2⟩
      have hx : bits BinOp.xor IntKind.i64 (z : Int) ((z : Int) / 64) = ((z ^^^ z / 64 : Nat) : Int) := i64_xor_nat z (z / 64) (by omega) (by omega)
      rw [hx, Int.tmod_eq_emod_of_nonneg (by omega)]
      simp
end Go.Proofs.YtenpghndgdemnaaGreatDoor

/- What a schema is as plain data, its weight, and how it lies in memory: definitions and small laws, no program. No conditions. -/

namespace Go.Proofs.YtenpghndgdemnaaGreatDoor
open Go Go.RowKit

/-- A schema as plain data. -/
inductive Kd where
  | mk (sort : Int) (names : List ByteArray) (kids : List Kd)

namespace Kd
def sort : Kd → Int | mk s _ _ => s
def names : Kd → List ByteArray | mk _ n _ => n
def kids : Kd → List Kd | mk _ _ k => k
end Kd

mutual
def wKd : Kd → Nat
  | .mk _ n k => wS n + wKs k
def wKs : List Kd → Nat
  | [] => 0
  | t :: r => 1 + wKd t + wKs r
end

theorem wKs_mem {t : Kd} {l : List Kd} (h : t ∈ l) : wKd t + 1 ≤ wKs l := by
  induction l with
  | nil => cases h
  | cons a r ih =>
    rw [wKs]
    rcases List.mem_cons.1 h with rfl | h
    · omega
    · have := ih h; omega

theorem wKs_len (l : List Kd) : l.length ≤ wKs l := by
  induction l with
  | nil => simp [wKs]
  | cons a r ih => rw [wKs]; simp; omega

/-- The three cells of a schema. -/
structure C3 where
  (c0 c1 c2 : Value)

/-- Three cells lie at an offset of a block. -/
def C3.at (w : World) (b o : Nat) (c : C3) : Prop :=
  w.cell? ⟨b, o, none⟩ = some c.c0 ∧ w.cell? ⟨b, o + 1, none⟩ = some c.c1 ∧ w.cell? ⟨b, o + 2, none⟩ = some c.c2

mutual
/-- Three cells are a schema: all that they lead to lies in the world, in blocks of which 'P' holds. -/
def KRep (P : Nat → Prop) (w : World) : Kd → C3 → Prop
  | .mk s ns ks, c => c.c0 = .int .i64 s ∧ I64 s ∧ StrsAt P w c.c1 ns ∧
    ∃ a cap, c.c2 = .slice a ks.length cap ∧ ks.length ≤ 9223372036854775807 ∧ (ks ≠ [] → ∃ b o, a = some ⟨b, o, none⟩ ∧ P b ∧ KRepK P w b o ks)
def KRepK (P : Nat → Prop) (w : World) (b : Nat) (o : Nat) : List Kd → Prop
  | [] => True
  | t :: r => (∃ c, C3.at w b o c ∧ KRep P w t c) ∧ KRepK P w b (o + 3) r
end

theorem KRepK.get {P : Nat → Prop} {w : World} {b o : Nat} {ks : List Kd} (h : KRepK P w b o ks) (i : Nat) (hi : i < ks.length) :
    ∃ c, C3.at w b (o + i * 3) c ∧ KRep P w ks[i] c := by
  induction ks generalizing o i with
  | nil => simp at hi
  | cons t r ih =>
    rw [KRepK] at h
    cases i with
    | zero => exact h.1
    | succ i =>
      obtain ⟨c, h1, h2⟩ := ih h.2 i (by simpa using hi)
      exact ⟨c, by rw [show o + (i + 1) * 3 = o + 3 + i * 3 from by omega]; exact h1, h2⟩

theorem KRepK.mk {P : Nat → Prop} {w : World} {b o : Nat} {ks : List Kd} (h : ∀ i, (hi : i < ks.length) → ∃ c, C3.at w b (o + i * 3) c ∧ KRep P w ks[i] c) : KRepK P w b o ks := by
  induction ks generalizing o with
  | nil => rw [KRepK]; trivial
  | cons t r ih =>
    rw [KRepK]
    refine ⟨h 0 (by simp), ih fun i hi => ?_⟩
    obtain ⟨c, h1, h2⟩ := h (i + 1) (by simpa using hi)
    exact ⟨c, by rw [show o + 3 + i * 3 = o + (i + 1) * 3 from by omega]; exact h1, h2⟩

theorem C3.at.carry {w w' : World} {b o : Nat} {c : C3} (h : C3.at w b o c) (hb : w'.heap[b]? = w.heap[b]?) : C3.at w' b o c := by
  have e : ∀ o', w'.cell? ⟨b, o', none⟩ = w.cell? ⟨b, o', none⟩ := fun o' => World.cell?_of_block (w := w) hb
  obtain ⟨h0, h1, h2⟩ := h
  exact ⟨by rw [e]; exact h0, by rw [e]; exact h1, by rw [e]; exact h2⟩

mutual
theorem KRep.carry {P Q : Nat → Prop} {w w' : World} (hP : ∀ b, P b → w'.heap[b]? = w.heap[b]?) (hQ : ∀ b, P b → Q b) : ∀ (t : Kd) (c : C3), KRep P w t c → KRep Q w' t c
  | .mk s ns ks, c => by
    intro h
    rw [KRep] at h ⊢
    obtain ⟨h0, h3, h6, a, cap, h7, h8, h9⟩ := h
    refine ⟨h0, h3, h6.carry hP hQ, a, cap, h7, h8, fun hk => ?_⟩
    obtain ⟨b, o, e, p, hr⟩ := h9 hk
    exact ⟨b, o, e, hQ b p, KRepK.carry hP hQ b o (hP b p) ks hr⟩
theorem KRepK.carry {P Q : Nat → Prop} {w w' : World} (hP : ∀ b, P b → w'.heap[b]? = w.heap[b]?) (hQ : ∀ b, P b → Q b) (b : Nat) (o : Nat) (hb : w'.heap[b]? = w.heap[b]?) : ∀ (ks : List Kd), KRepK P w b o ks → KRepK Q w' b o ks
  | [] => by intro _; rw [KRepK]; trivial
  | t :: r => by
    intro h
    rw [KRepK] at h ⊢
    obtain ⟨⟨c, h1, h2⟩, h3⟩ := h
    exact ⟨⟨c, h1.carry hb, KRep.carry hP hQ t c h2⟩, KRepK.carry hP hQ b (o + 3) hb r h3⟩
end

/-- A schema as the walks take it: what its kids' slice is, and each kid. -/
theorem KRep.open {P : Nat → Prop} {w : World} {t : Kd} {c : C3} (h : KRep P w t c) :
    c.c0 = .int .i64 t.sort ∧ I64 t.sort ∧ StrsAt P w c.c1 t.names ∧
    ∃ a cap, c.c2 = .slice a t.kids.length cap ∧ t.kids.length ≤ 9223372036854775807 ∧
      ∀ i, (hi : i < t.kids.length) → ∃ b o c, a = some ⟨b, o, none⟩ ∧ P b ∧ C3.at w b (o + i * 3) c ∧ KRep P w t.kids[i] c := by
  obtain ⟨s, ns, ks⟩ := t
  rw [KRep] at h
  obtain ⟨h0, h3, h6, a, cap, h7, h8, h9⟩ := h
  refine ⟨h0, h3, h6, a, cap, h7, h8, fun i hi => ?_⟩
  obtain ⟨b, o, e, p, hr⟩ := h9 (fun hh => by subst hh; simp [Kd.kids] at hi)
  obtain ⟨c', h1', h2'⟩ := hr.get i hi
  exact ⟨b, o, c', e, p, h1', h2'⟩

mutual
def ksz : Kd → Nat
  | .mk _ _ k => 1 + klsz k
def klsz : List Kd → Nat
  | [] => 0
  | t :: r => ksz t + klsz r
end
theorem ksz_kid {t k : Kd} (h : k ∈ t.kids) : ksz k < ksz t := by
  obtain ⟨s, ns, ks⟩ := t
  have : ∀ l : List Kd, k ∈ l → ksz k ≤ klsz l := by
    intro l
    induction l with
    | nil => intro h; cases h
    | cons a r ih =>
      intro h
      rw [klsz]
      rcases List.mem_cons.1 h with rfl | h
      · omega
      · have := ih h; omega
  have := this ks h
  rw [ksz]; omega

def row3 (c0 c1 c2 : Value) : Nat → Value
  | 0 => c0
  | 1 => c1
  | _ => c2

theorem row3_alloc (w : World) (c0 c1 c2 : Value) (t : TypeId) : (w.alloc (.cells #[c0, c1, c2] t)).rowIs w.heap.size t 3 (row3 c0 c1 c2) :=
  World.rowIs_alloc w #[c0, c1, c2] t _ (fun i hi => by
    have hi' : i < 3 := hi
    match i, hi' with
    | 0, _ => rfl
    | 1, _ => rfl
    | 2, _ => rfl)

theorem kbox1 {w w1 : World} {x0 x1 x2 : Value} {tx : TypeId}
    (hb : Below (w.alloc (.cells #[x0, x1, x2] tx)).heap.size (w.alloc (.cells #[x0, x1, x2] tx)) w1) :
    w1.rowIs w.heap.size tx 3 (row3 x0 x1 x2) ∧ w.heap.size + 1 ≤ w1.heap.size ∧ Below w.heap.size w w1 := by
  have r0 := row3_alloc w x0 x1 x2 tx
  have hs := hb.size
  refine ⟨r0.of_block (hb.block _ r0.lt), by simpa using hs, ?_⟩
  exact ((Below.refl _ _).alloc (Nat.le_refl _) _).trans (hb.mono (by simp))

end Go.Proofs.YtenpghndgdemnaaGreatDoor

/- Trees that own their memory: what blocks they lie in, each named once; what marking them makes of them. Definitions and small laws, no program. No conditions. -/

namespace Go.Proofs.YtenpghndgdemnaaGreatDoor
open Go Go.RowKit

/-- No cell of a block is frozen. -/
def FreeB (w : World) (b : Nat) : Prop := ∀ o, w.frozen? ⟨b, o, none⟩ = false
theorem FreeB.of_block {w w' : World} {b : Nat} (h : FreeB w b) (e : w'.heap[b]? = w.heap[b]?) : FreeB w' b := fun o => by
  rw [World.frozen?_of_block (w := w) (a := ⟨b, o, none⟩) e]; exact h o
/-- A slice of strings in a block of its own. -/
def StrsOwn (w : World) (v : Value) (ss : List ByteArray) (F : List Nat) : Prop :=
  ∃ a cap, v = .slice a ss.length cap ∧ ss.length ≤ 9223372036854775807 ∧ ((ss = [] ∧ F = []) ∨ ∃ b, a = some ⟨b, 0, none⟩ ∧ F = [b] ∧ FreeB w b ∧ ∀ i, (h : i < ss.length) → w.cell? ⟨b, i, none⟩ = some (.string ss[i]) ∧ ss[i].size ≤ 9223372036854775807)


theorem StrsOwn.carry {w w' : World} {v : Value} {ss : List ByteArray} {F : List Nat} (h : StrsOwn w v ss F) (hF : ∀ b, b ∈ F → w'.heap[b]? = w.heap[b]?) : StrsOwn w' v ss F := by
  obtain ⟨a, cap, h1, h2, h3⟩ := h
  refine ⟨a, cap, h1, h2, ?_⟩
  rcases h3 with h | ⟨b, e, hf, hfr, hc⟩
  · exact Or.inl h
  · have hb := hF b (by rw [hf]; simp)
    exact Or.inr ⟨b, e, hf, hfr.of_block hb, fun i hi => ⟨by rw [World.cell?_of_block (w := w) hb]; exact (hc i hi).1, (hc i hi).2⟩⟩


theorem StrsOwn.at {w : World} {v : Value} {ss : List ByteArray} {F : List Nat} (h : StrsOwn w v ss F) : StrsAt (· ∈ F) w v ss := by
  obtain ⟨a, cap, h1, h2, h3⟩ := h
  refine ⟨a, cap, h1, h2, fun i hi => ?_⟩
  rcases h3 with ⟨rfl, _⟩ | ⟨b, e, hf, hfr, hc⟩
  · simp at hi
  · exact ⟨b, 0, e, by rw [hf]; simp, by rw [Nat.zero_add]; exact (hc i hi).1, (hc i hi).2⟩


mutual
/-- How many marks a kid takes. -/
def cT : Tr → Nat
  | .mk _ _ _ ns ks => 3 + ns.length + cK ks
def cK : List Tr → Nat
  | [] => 0
  | t :: r => cT t + cK r
end
end Go.Proofs.YtenpghndgdemnaaGreatDoor

/- The first tree of a schema, as plain data; trees gathered in a row of the call's own. Definitions and small laws; no program walked, no conditions. -/

namespace Go.Proofs.YtenpghndgdemnaaGreatDoor
open Go Go.RowKit

theorem freeOfHeap {w : World} {g : Nat} {cur : Array Value} {e : TypeId} (h : w.heap[g]? = some (.cells cur e (0, 0))) : FreeB w g := fun o => by simp [World.frozen?, h]

/-- A row of strings of the call's own. -/
theorem strsOwn_of_row {base : Nat} {w : World} {v : Value} {ss : List ByteArray} (h : w.ownsRow base 9 1 v ss.length (ss.map Value.string)) (hs : ∀ x, x ∈ ss → x.size ≤ 9223372036854775807) :
    ∃ F, StrsOwn w v ss F ∧ F.Nodup ∧ (∀ b, b ∈ F → base ≤ b ∧ b < w.heap.size) ∧ ∀ b, b ∈ F → v.ownBlock = some b := by
  rcases h.2 with ⟨hv, hn0⟩ | ⟨g, cap, cur, hv, hgb, hh, hle, hm2, hsz, htk⟩
  · have hss : ss = [] := List.eq_nil_of_length_eq_zero hn0
    subst hss
    exact ⟨[], ⟨none, 0, hv, by simp, Or.inl ⟨rfl, rfl⟩⟩, List.nodup_nil, fun b hb => by simp at hb, fun b hb => by simp at hb⟩
  · refine ⟨[g], ⟨some ⟨g, 0, none⟩, cap, hv, by unfold maxLen at hm2; omega, Or.inr ⟨g, rfl, rfl, freeOfHeap hh, fun i hi => ⟨?_, hs _ (List.getElem_mem hi)⟩⟩⟩, by simp, fun b hb => ?_, fun b hb => by simp at hb; subst hb; rw [hv]; rfl⟩
    · have h1 : (ss.map Value.string)[i]? = some (.string ss[i]) := by simp [hi]
      rw [← htk, List.getElem?_take_of_lt (by omega)] at h1
      simp only [World.cell?, hh]
      simpa using h1
    · simp at hb; subst hb
      exact ⟨hgb, (Array.getElem?_eq_some_iff.1 hh).1⟩

end Go.Proofs.YtenpghndgdemnaaGreatDoor
