/- A row of bytes that lies in the world. Definitions alone. -/
import Derived.Test.YtgamonfmgngilaaGreatDoorPart00
import Derived.Test.YtgamonfmgngilaaGreatDoorRows
import Derived.Lib.AppendStr
import Derived.Laws.IdiomStrings
import Derived.Deep.AppendLies
import Derived.Test.YtgamonfmgngilaaGreatDoorPart03
import Derived.WalkLawsBesides
import Derived.WalkSmall
import Derived.Test.YtgamonfmgngilaaGreatDoorPart04
namespace Go.Proofs.YtgamonfmgngilaaGreatDoor
open Go Go.RowKit

/-- A slice value whose bytes lie in the world. -/
def BytesAt (w : World) (v : Value) (l : List UInt8) : Prop :=
  ∃ a cap, v = .slice a l.length cap ∧ l.length ≤ 9223372036854775807 ∧ ∀ i, (h : i < l.length) → ∃ b o, a = some ⟨b, o, none⟩ ∧ b < w.heap.size ∧ w.cell? ⟨b, o + i, none⟩ = some (.int .u8 l[i].toNat)

theorem BytesAt.on {w w' : World} {v : Value} {l : List UInt8} (h : BytesAt w v l) (hb : Below w.heap.size w w') : BytesAt w' v l := by
  obtain ⟨a, cap, h1, h2, h3⟩ := h
  refine ⟨a, cap, h1, h2, fun i hi => ?_⟩
  obtain ⟨b, o, e, hlt, hc⟩ := h3 i hi
  exact ⟨b, o, e, Nat.lt_of_lt_of_le hlt hb.size, by rw [hb.cell hlt]; exact hc⟩

end Go.Proofs.YtgamonfmgngilaaGreatDoor

/- The walk of the specification's l6Open: the reader of draws is opened. No conditions. -/

namespace Go.Proofs.YtgamonfmgngilaaGreatDoor
open Go Go.RowKit

/-- The reader of draws is opened. -/
theorem l6Open_any (w : World) (a : Option Addr) (cap : Nat) (l : List UInt8) (hv : BytesAt w (.slice a l.length cap) l) (hcap : l.length ≤ cap) :
    Calls Tryz.prog 22 #[.slice a l.length cap] w fun e w' => ∃ (v' : Value) (b' : List UInt8), e = .returned (.pointer (some ⟨w.heap.size, 0, none⟩)) ∧ DR w.heap.size w' v' b' 0 ∧ Below w.heap.size w w' := by
  obtain ⟨a', cap', e, hlen, hc⟩ := hv
  simp only [Value.slice.injEq, true_and] at e
  obtain ⟨rfl, rfl⟩ := e
  by_cases h2 : l.length ≤ 2000
  · have hq : decide ((2000 : Int) < (l.length : Int)) = false := by simp; omega
    have HC := hide hc
    clear hc
    go_enter Tryz.func22, Tryz.ntmps22
    go_wp2_with fail
    go_ret
    refine ⟨.slice a l.length cap, l, rfl, ⟨?_, ⟨a, cap, rfl, fun i hi => ?_⟩, h2⟩, (Below.refl _ _).alloc (Nat.le_refl _) _⟩
    · exact World.rowIs_alloc w #[.slice a l.length cap, .int .i64 0] 80 _ (fun i hi => by
        have hi' : i < 2 := by simpa using hi
        rcases (show i = 0 ∨ i = 1 by omega) with rfl | rfl <;> rfl)
    · obtain ⟨g, o, e, hlt, hcell⟩ := unhide HC i hi
      exact ⟨g, o, e, hlt, by rw [World.cell?_of_block (w := w) (Below.heap_alloc _ _ _ hlt)]; exact hcell⟩
  · have hq : decide ((2000 : Int) < (l.length : Int)) = true := by simp; omega
    obtain ⟨g, o, rfl, -, -⟩ := hc 0 (by omega)
    have HC := hide hc
    clear hc
    have hc2 : 2000 ≤ cap := by omega
    have hc3 : (2000 : Int) ≤ (cap : Int) := by omega
    go_enter Tryz.func22, Tryz.ntmps22
    go_wp2_with fail
    go_ret
    have hl2 : (l.take 2000).length = 2000 := by rw [List.length_take]; omega
    refine ⟨.slice (some ⟨g, o, none⟩) 2000 cap, l.take 2000, rfl, ⟨?_, ⟨_, cap, by rw [hl2], fun i hi => ?_⟩, by omega⟩, (Below.refl _ _).alloc (Nat.le_refl _) _⟩
    · exact World.rowIs_alloc w #[.slice (some ⟨g, o, none⟩) 2000 cap, .int .i64 0] 80 _ (fun i hi => by
        have hi' : i < 2 := by simpa using hi
        rcases (show i = 0 ∨ i = 1 by omega) with rfl | rfl <;> rfl)
    · obtain ⟨g', o', e, hlt, hcell⟩ := unhide HC i (by omega)
      exact ⟨g', o', e, hlt, by rw [World.cell?_of_block (w := w) (Below.heap_alloc _ _ _ hlt), List.getElem_take]; exact hcell⟩
end Go.Proofs.YtgamonfmgngilaaGreatDoor

/- Rows of bytes of a call's own, and appends onto them. No program walked, no conditions. -/

namespace Go.Proofs.YtgamonfmgngilaaGreatDoor
open Go Go.RowKit

/-- Bytes as cells. -/
def bc (l : List UInt8) : List Value := l.map fun b => Value.int .u8 b.toNat
theorem bc_append (a b : List UInt8) : bc (a ++ b) = bc a ++ bc b := List.map_append
theorem bc_str (s : ByteArray) : Lib.strCells s = bc s.data.toList := rfl
theorem bc_len (l : List UInt8) : (bc l).length = l.length := List.length_map _

/-- A row of bytes of the call's own. -/
def ByRow (base : Nat) (w : World) (v : Value) (l : List UInt8) : Prop := w.ownsRow base 5 1 v l.length (bc l)

theorem infoU8 : (Tryz.prog.info? 5).map (fun i => (i.zero, i.size, i.bytes)) = some (some (.int .u8 0), 1, 1) := by kernel_rfl

theorem ByRow.slice {base : Nat} {w : World} {v : Value} {l : List UInt8} (h : ByRow base w v l) : ∃ a cap, v = .slice a l.length cap := by
  rcases h.2 with ⟨hv, h0⟩ | ⟨g, cap, cur, hv, _⟩
  · exact ⟨none, 0, by rw [hv, h0]⟩
  · exact ⟨_, cap, hv⟩

theorem ByRow.below {base : Nat} {w w' : World} {v : Value} {l : List UInt8} (h : ByRow base w v l) (hg : w.grownBy w' v.ownBlock) (hb : base ≤ w.heap.size) : Below base w w' :=
  (Below.refl base w).grown hg hb (fun k e => (h.lt k e).1)

theorem ByRow.str {base : Nat} {w : World} {v : Value} {l : List UInt8} (h : ByRow base w v l) : (convert 22 9 v).run Tryz.prog w = .ok (.string ⟨l.toArray⟩) w := by
  rcases h.2 with ⟨hv, h0⟩ | ⟨g, cap, cur, hv, hgb, hh, hle, hm2, hsz, htk⟩
  · have hl : l = [] := List.eq_nil_of_length_eq_zero h0
    subst hl hv
    rw [run_convert_bytes_string w 22 9 5 none 0 0 Tryz.underlying22 Tryz.underlying5 Tryz.underlying9]
    rfl
  · subst hv
    refine run_convert_bytes_back w 22 9 5 ⟨g, 0, none⟩ cap l Tryz.underlying22 Tryz.underlying5 Tryz.underlying9 (fun j hj => ?_)
    have h1 : (bc l)[j]? = some (.int .u8 (l[j].toNat : Int)) := by simp [bc, hj]
    exact h.cells (g := g) rfl j _ h1

theorem ByRow.form {base : Nat} {w : World} {v : Value} {l : List UInt8} (h : ByRow base w v l) (hl : 0 < l.length) : ∃ g cap, v = .slice (some ⟨g, 0, none⟩) l.length cap ∧ base ≤ g ∧ g < w.heap.size ∧ ∀ j u, (bc l)[j]? = some u → w.cell? ((⟨g, 0, none⟩ : Addr).add j) = some u := by
  rcases h.2 with ⟨hv, h0⟩ | ⟨g, cap, cur, hv, hb, _⟩
  · omega
  · exact ⟨g, cap, hv, hb, (h.lt g (by rw [hv]; rfl)).2, fun j u hj => h.cells (g := g) (by rw [hv]; rfl) j u hj⟩

/-- append onto a row of bytes, what is appended lying behind an address. -/
theorem append_bytes (w : World) {ops : Array Oper} {rest : List Oper} {o : Oper} {a : Act} {Q : Exit → Act → World → Prop}
    (hg : o.guard = none) (s x : Operand) (hop : o.op = Op.call { callee := Callee.builtin Builtin.append, args := #[s, x], argTypes := #[22, 22] })
    (base : Nat) (v : Value) (l news : List UInt8) (hs : a.eval s = v) (hown : ByRow base w v l)
    (ad : Addr) (m c : Nat) (hx : a.eval x = .slice (some ad) m c) (hm : m = news.length) (hc : ∀ j u, (bc news)[j]? = some u → w.cell? (ad.add j) = some u)
    (hlen : l.length + news.length ≤ 1099511627776) (hbase : base ≤ w.heap.size)
    (hK : ∀ a' n' cap' w', Hid (n' = (l ++ news).length) → Hid (ByRow base w' (.slice a' n' cap') (l ++ news)) → Hid (w.grownBy w' v.ownBlock) → wpList Tryz.prog ops Q rest (a.put o.dst (.slice a' n' cap')) w') :
    wpList Tryz.prog ops Q (o :: rest) a w := by
  obtain ⟨i0, hi, hz0, hz1, hz2⟩ := info_parts infoU8
  subst hm
  refine wpList_append_own w hg s x 22 hop base 5 i0 (.int .u8 0) 1 1 Tryz.underlying22 hi hz0 hz1 hz2 rfl (by decide) v l.length (bc l) hs hown ad news.length c (bc news) hx (by rw [bc_len, Nat.mul_one]) hc (fun u hu => ?_) (by unfold maxLen; omega) (by omega) hbase (fun v' w' r1 r2 _ => ?_)
  · obtain ⟨_, _, rfl⟩ := List.mem_map.1 hu
    rfl
  · have hr : ByRow base w' v' (l ++ news) := by
      show w'.ownsRow base 5 1 v' (l ++ news).length (bc (l ++ news))
      rw [bc_append, List.length_append]; exact r1
    obtain ⟨a', cap', rfl⟩ := hr.slice
    exact hK a' _ cap' w' rfl hr r2

/-- The same in a region that draws its order. -/
theorem step_append_bytes (w : World) {ops : Array Oper} {o : Oper} {a : Act} {K : Act → World → Prop} {Q : Exit → Act → World → Prop} {E : Prop}
    (hg : o.guard = none) (s x : Operand) (hop : o.op = Op.call { callee := Callee.builtin Builtin.append, args := #[s, x], argTypes := #[22, 22] })
    (base : Nat) (v : Value) (l news : List UInt8) (hs : a.eval s = v) (hown : ByRow base w v l)
    (ad : Addr) (m c : Nat) (hx : a.eval x = .slice (some ad) m c) (hm : m = news.length) (hpos : 0 < m) (hc : ∀ j u, (bc news)[j]? = some u → w.cell? (ad.add j) = some u)
    (hlen : l.length + news.length ≤ 1099511627776) (hbase : base ≤ w.heap.size)
    (hK : ∀ a' n' cap' w', Hid (n' = (l ++ news).length) → Hid (ByRow base w' (.slice a' n' cap') (l ++ news)) → Hid (w.grownBy w' v.ownBlock) → K (a.put o.dst (.slice a' n' cap')) w') :
    if Region.wanted o (yielded ops a.tmps) = true then Oper.wp Tryz.prog o a w K Q else E := by
  obtain ⟨i0, hi, hz0, hz1, hz2⟩ := info_parts infoU8
  subst hm
  refine step_append_lies w hg s x 22 hop base 5 i0 (.int .u8 0) 1 1 Tryz.underlying22 hi hz0 hz1 hz2 rfl (by decide) v l.length (bc l) hs hown ad news.length c (bc news) hx (by rw [bc_len, Nat.mul_one]) hc (fun u hu => ?_) hpos (by unfold maxLen; omega) (by omega) hbase _ rfl (fun g cap w' r1 r2 _ _ => ?_)
  · obtain ⟨_, _, rfl⟩ := List.mem_map.1 hu
    rfl
  · refine hK _ _ _ w' (by show _ = _; rw [List.length_append]) ?_ r2
    show w'.ownsRow base 5 1 _ (l ++ news).length (bc (l ++ news))
    rw [bc_append, List.length_append]; exact r1

/-- append of a string's bytes onto a row of bytes. -/
theorem append_string (w : World) {ops : Array Oper} {rest : List Oper} {o : Oper} {a : Act} {Q : Exit → Act → World → Prop}
    (hg : o.guard = none) (s x : Operand) (hop : o.op = Op.call { callee := Callee.builtin Builtin.append, args := #[s, x], argTypes := #[22, 9] })
    (base : Nat) (v : Value) (l : List UInt8) (tx : ByteArray) (hs : a.eval s = v) (hown : ByRow base w v l) (hx : a.eval x = .string tx)
    (hlen : l.length + tx.size ≤ 1099511627776) (hbase : base ≤ w.heap.size)
    (hK : ∀ a' n' cap' w', Hid (n' = (l ++ tx.data.toList).length) → Hid (ByRow base w' (.slice a' n' cap') (l ++ tx.data.toList)) → Hid (w.grownBy w' v.ownBlock) → wpList Tryz.prog ops Q rest (a.put o.dst (.slice a' n' cap')) w') :
    wpList Tryz.prog ops Q (o :: rest) a w := by
  obtain ⟨i0, hi, hz0, hz1, hz2⟩ := info_parts infoU8
  have hsz : tx.data.toList.length = tx.size := by simp
  refine Lib.wpList_append_own_string w hg s x 22 9 hop base 5 i0 Tryz.underlying22 Tryz.underlying9 hi hz0 hz1 hz2 v l.length (bc l) hs hown tx hx (by unfold maxLen; omega) (by omega) hbase (fun v' w' r1 r2 _ => ?_)
  have hr : ByRow base w' v' (l ++ tx.data.toList) := by
    show w'.ownsRow base 5 1 v' (l ++ tx.data.toList).length (bc (l ++ tx.data.toList))
    rw [bc_append, List.length_append, hsz, ← bc_str]; exact r1
  obtain ⟨a', cap', rfl⟩ := hr.slice
  exact hK a' _ cap' w' rfl hr r2

/-- One byte that was just built as a slice. -/
theorem byte_one (w : World) (x : UInt8) (t : TypeId) : ∀ j u, (bc [x])[j]? = some u → (w.alloc (.cells #[.int .u8 x.toNat] t)).cell? ((⟨w.heap.size, 0, none⟩ : Addr).add j) = some u := cell_one w _ t

theorem ByRow.fresh (w : World) (x : UInt8) : ByRow w.heap.size (w.alloc (.cells #[.int .u8 x.toNat] 5)) (.slice (some ⟨w.heap.size, 0, none⟩) 1 1) [x] := by
  refine ⟨rfl, Or.inr ⟨w.heap.size, 1, #[.int .u8 x.toNat], rfl, Nat.le_refl _, ?_, Nat.le_refl _, by decide, rfl, rfl⟩⟩
  show (w.heap.push _)[w.heap.size]? = _
  simp

theorem ByRow.of_one {w : World} {g base : Nat} {f : Nat → Value} (x : UInt8) (h : w.rowIs g 5 1 f) (hf : f 0 = .int .u8 x.toNat) (hb : base ≤ g) : ByRow base w (.slice (some ⟨g, 0, none⟩) 1 1) [x] := by
  obtain ⟨c, h1, h2, h3⟩ := h
  refine ⟨rfl, Or.inr ⟨g, 1, c, rfl, hb, h1, Nat.le_refl _, by decide, h2, ?_⟩⟩
  have h0 := h3 0 (by decide)
  rw [hf] at h0
  match c, h2, h0 with
  | ⟨[a]⟩, _, h0 => simp at h0; subst h0; rfl

theorem ByRow.base {base base' : Nat} {w : World} {v : Value} {l : List UInt8} (h : ByRow base w v l) (hb : base' ≤ base) : ByRow base' w v l := ownsRow_base h hb

/-- What '[]byte(s)' gives. -/
theorem bytes_of (w : World) (s : ByteArray) : ∃ cap W, (convert 9 22 (.string s)).run Tryz.prog w = .ok (.slice (some ⟨w.heap.size, 0, none⟩) s.size cap) W ∧ w.grownBy W none ∧ w.heap.size < W.heap.size ∧ ∀ j u, (bc s.data.toList)[j]? = some u → W.cell? ((⟨w.heap.size, 0, none⟩ : Addr).add j) = some u := by
  refine ⟨_, _, run_bytes_of_string w 9 22 5 s Tryz.underlying9 Tryz.underlying22 Tryz.underlying5, ?_, ?_, fun j u hj => ?_⟩
  · have h1 : w.grownBy w.drew none := ⟨rfl, rfl, rfl, Nat.le_refl _, fun _ _ _ => rfl⟩
    have h2 := World.grownBy_alloc w.drew (.cells (bytesRow s (grownCap w s.size 0 5)) 5 ((bytesRow s (grownCap w s.size 0 5)).size, (bytesRow s (grownCap w s.size 0 5)).size + 1)) none
    exact ⟨h2.os.trans h1.os, h2.tape.trans h1.tape, h2.output.trans h1.output, Nat.le_trans h1.size h2.size, fun i hi hne => (h2.block i (Nat.lt_of_lt_of_le hi h1.size) hne).trans (h1.block i hi hne)⟩
  · rw [World.size_alloc]; exact Nat.lt_succ_self _
  · have hj' : j < s.data.size := by
      have := (List.getElem?_eq_some_iff.1 hj).1
      simpa [bc] using this
    rw [Addr.add_lit]
    have hu : u = .int .u8 s.data[j].toNat := by
      simp [bc] at hj
      obtain ⟨a, ha, rfl⟩ := hj
      rw [Array.getElem?_eq_getElem hj'] at ha
      rw [Option.some.inj ha]
    subst hu
    show (w.drew.alloc _).cell? ⟨w.heap.size, 0 + j, none⟩ = _
    rw [Nat.zero_add]
    have hb : (w.drew.alloc (.cells (bytesRow s (grownCap w s.size 0 5)) 5 ((bytesRow s (grownCap w s.size 0 5)).size, (bytesRow s (grownCap w s.size 0 5)).size + 1))).heap[w.heap.size]? = some (.cells (bytesRow s (grownCap w s.size 0 5)) 5 ((bytesRow s (grownCap w s.size 0 5)).size, (bytesRow s (grownCap w s.size 0 5)).size + 1)) := by
      show (w.heap.push _)[w.heap.size]? = _
      simp
    simp only [World.cell?, hb]
    have hj2 : j < s.size := hj'
    simp [bytesRow, Array.getElem?_append, hj2]

theorem ByRow.of_block {base : Nat} {w w' : World} {v : Value} {l : List UInt8} (h : ByRow base w v l) (hb : ∀ g, v.ownBlock = some g → w'.heap[g]? = w.heap[g]?) : ByRow base w' v l := by
  refine ⟨h.1, ?_⟩
  rcases h.2 with h0 | ⟨g, cap, cur, hv, hb', hg, h5⟩
  · exact Or.inl h0
  · exact Or.inr ⟨g, cap, cur, hv, hb', by rw [hb g (by rw [hv]; rfl)]; exact hg, h5⟩
theorem ByRow.own {base : Nat} {w : World} {v : Value} {l : List UInt8} (h : ByRow base w v l) : ∀ g, v.ownBlock = some g → base ≤ g ∧ g < w.heap.size := fun g e => World.ownsRow.lt h g e
end Go.Proofs.YtgamonfmgngilaaGreatDoor

/- The walks of the program's isDigit, isNameByte, nameOk: what they answer. No conditions. -/

namespace Go.Proofs.YtgamonfmgngilaaGreatDoor
open Go Go.RowKit

def digitB (c : UInt8) : Bool := 48 ≤ c.toNat && c.toNat ≤ 57
theorem digit_yes {c : UInt8} (h : 48 ≤ c.toNat ∧ c.toNat ≤ 57) : digitB c = true := by unfold digitB; simp [h.1, h.2]
theorem digit_no {c : UInt8} (h : c.toNat < 48 ∨ 57 < c.toNat) : digitB c = false := by
  unfold digitB; simp only [Bool.and_eq_false_iff, decide_eq_false_iff_not]; omega
theorem nameByte_digit {c : UInt8} (h : c.toNat < 97 ∨ 122 < c.toNat) : nameByte c = digitB c := by
  unfold nameByte digitB
  rw [show (decide (97 ≤ c.toNat) && decide (c.toNat ≤ 122)) = false from by simp only [Bool.and_eq_false_iff, decide_eq_false_iff_not]; omega]
  rfl

set_option maxHeartbeats 400000 in
theorem isDigit_any (c : UInt8) (w : World) : Calls Tryz.prog 107 #[.int .u8 c.toNat] w fun e w' => e = .returned (.bool (digitB c)) ∧ w' = w := by
  have hc : (48 ≤ c.toNat ∧ c.toNat ≤ 57) ∨ c.toNat < 48 ∨ 57 < c.toNat := by omega
  rcases hc with hc | hc | hc
  · have HB := hide (digit_yes hc)
    obtain ⟨h1, h2⟩ := hc
    have d2 : decide ((c.toNat : Int) ≤ 57) = true := by simp; omega
    go_enter Tryz.func107, Tryz.ntmps107
    go_wp2_with fail
    go_ret
    exact ⟨ret_bool (unhide HB).symm, rfl⟩
  · have HB := hide (digit_no (Or.inl hc))
    go_enter Tryz.func107, Tryz.ntmps107
    go_wp2_with fail
    go_ret
    exact ⟨ret_bool (unhide HB).symm, rfl⟩
  · have HB := hide (digit_no (Or.inr hc))
    have d2 : decide ((c.toNat : Int) ≤ 57) = false := by simp; omega
    go_enter Tryz.func107, Tryz.ntmps107
    go_wp2_with fail
    go_ret
    exact ⟨ret_bool (unhide HB).symm, rfl⟩

set_option maxHeartbeats 400000 in
theorem isNameByte_any (c : UInt8) (w : World) : Calls Tryz.prog 101 #[.int .u8 c.toNat] w fun e w' => e = .returned (.bool (nameByte c)) ∧ w' = w := by
  have hc : (97 ≤ c.toNat ∧ c.toNat ≤ 122) ∨ c.toNat < 97 ∨ 122 < c.toNat := by omega
  rcases hc with hc | hc | hc
  · have HN := hide (nameByte_yes (Or.inl hc))
    obtain ⟨h1, h2⟩ := hc
    have d2 : decide ((c.toNat : Int) ≤ 122) = true := by simp; omega
    go_enter Tryz.func101, Tryz.ntmps101
    go_wp2_with (go_at_call 107; refine (isDigit_any _ _).mono ?_; rintro e w' ⟨rfl, rfl⟩)
    go_ret
    exact ⟨ret_bool (unhide HN).symm, rfl⟩
  · have HN := hide (nameByte_digit (Or.inl hc))
    go_enter Tryz.func101, Tryz.ntmps101
    go_wp2_with (go_at_call 107; refine (isDigit_any _ _).mono ?_; rintro e w' ⟨rfl, rfl⟩)
    go_ret
    exact ⟨ret_bool (unhide HN).symm, rfl⟩
  · have HN := hide (nameByte_digit (Or.inr hc))
    have d2 : decide ((c.toNat : Int) ≤ 122) = false := by simp; omega
    go_enter Tryz.func101, Tryz.ntmps101
    go_wp2_with (go_at_call 107; refine (isDigit_any _ _).mono ?_; rintro e w' ⟨rfl, rfl⟩)
    go_ret
    exact ⟨ret_bool (unhide HN).symm, rfl⟩

theorem nameOk_digit {s : ByteArray} (h0 : 0 < s.size) (h : digitB s[0] = true) : nameOkB s = false := by
  refine nameOk_first h0 ?_
  simp only [digitB, Bool.and_eq_true, decide_eq_true_eq] at h
  omega
theorem nameOk_yes2 {s : ByteArray} (h1 : 0 < s.size) (h2 : s.size ≤ 8) (hf : digitB s[0] = false) (ha : allTo nameByte s s.size) : nameOkB s = true := by
  refine nameOk_yes h1 h2 ?_ ha
  have hb := ha 0 h1 h1
  simp only [nameByte, digitB, Bool.or_eq_true, Bool.and_eq_true, Bool.and_eq_false_iff, decide_eq_true_eq, decide_eq_false_iff_not] at hb hf
  omega

set_option maxHeartbeats 400000 in
theorem nameOk_any (s : ByteArray) (w : World) (hs : s.size ≤ 9223372036854775807) :
    Calls Tryz.prog 110 #[.string s] w fun e w' => e = .returned (.bool (nameOkB s)) ∧ w' = w := by
  have hl : s.size < 1 ∨ 8 < s.size ∨ (0 < s.size ∧ s.size ≤ 8) := by omega
  rcases hl with hl | hl | ⟨hl0, hl8⟩
  · have HN := hide (nameOk_len (Or.inl hl))
    go_enter Tryz.func110, Tryz.ntmps110
    go_wp2_with fail
    go_ret
    exact ⟨ret_bool (unhide HN).symm, rfl⟩
  · have HN := hide (nameOk_len (Or.inr hl))
    go_enter Tryz.func110, Tryz.ntmps110
    go_wp2_with fail
    go_ret
    exact ⟨ret_bool (unhide HN).symm, rfl⟩
  · by_cases hf : digitB s[0] = true
    · have HN := hide (nameOk_digit hl0 hf)
      go_enter Tryz.func110, Tryz.ntmps110
      go_wp2_with (go_at_call 107; refine (isDigit_any _ _).mono ?_; rintro e w' ⟨rfl, rfl⟩)
      go_ret
      exact ⟨ret_bool (unhide HN).symm, rfl⟩
    · have hf' : digitB s[0] = false := by simpa using hf
      have HF := hide hf'
      clear hf
      go_enter Tryz.func110, Tryz.ntmps110
      go_wp2_with (go_at_call 107; refine (isDigit_any _ _).mono ?_; rintro e w' ⟨rfl, rfl⟩)
      go_loop [19] (fun i => ∃ k : Nat, k ≤ s.size ∧ i = .int .i64 k ∧ Hid (allTo nameByte s k)) (fun i => s.size - (intOf i).toNat)
      case atStart => exact ⟨0, Nat.zero_le _, rfl, fun j hj => by omega⟩
      case round =>
        obtain ⟨k, hk, rfl, HA⟩ := hrel
        by_cases hlt : k < s.size
        · by_cases hb : nameByte s[k] = true
          · have HN := hide (allTo_succ HA.out hlt hb)
            go_wp2_with (go_at_call 101; refine (isNameByte_any _ _).mono ?_; rintro e w' ⟨rfl, rfl⟩)
            go_round
            case rel => exact ⟨k + 1, by omega, by go_num, HN⟩
            case measure => simp [intOf]; omega
          · have hb' : nameByte s[k] = false := by simpa using hb
            clear hb
            have HN := hide (nameOk_not hlt hb')
            go_wp2_with (go_at_call 101; refine (isNameByte_any _ _).mono ?_; rintro e w' ⟨rfl, rfl⟩)
            go_ret
            exact ⟨ret_bool (unhide HN).symm, rfl⟩
        · go_wp2_with fail
          go_ret
          obtain rfl : k = s.size := by omega
          exact ⟨ret_bool (nameOk_yes2 hl0 hl8 (unhide HF) HA.out).symm, rfl⟩
end Go.Proofs.YtgamonfmgngilaaGreatDoor

/- The walks of the program's treeWant: what it answers, and that it raises a fault. No conditions. -/

namespace Go.Proofs.YtgamonfmgngilaaGreatDoor
open Go Go.RowKit

/-- A fault is raised. -/
abbrev fltE : Ending := .panicked [{ v := .iface 128 (.agg #[]), recovered := false }]

set_option maxHeartbeats 400000 in
theorem treeWant_yes (w : World) : Calls Tryz.prog 65 #[.bool true] w fun e w' => e = .returned (.tuple #[]) ∧ w' = w := by
  go_enter Tryz.func65, Tryz.ntmps65
  go_wp2_with fail
  go_end0
  exact ⟨rfl, rfl⟩

set_option maxHeartbeats 400000 in
theorem treeWant_no (w : World) : Calls Tryz.prog 65 #[.bool false] w fun e w' => e = fltE ∧ w' = w := by
  go_enter Tryz.func65, Tryz.ntmps65
  go_wp2_with fail
  exact ⟨rfl, rfl, rfl⟩
end Go.Proofs.YtgamonfmgngilaaGreatDoor

/- The walk of the program's namesAscend: what it answers. No conditions. -/

namespace Go.Proofs.YtgamonfmgngilaaGreatDoor
open Go Go.RowKit

set_option maxHeartbeats 400000 in
theorem namesAscend_any (v : Value) (ss : List ByteArray) (w : World) {P : Nat → Prop} (hP : ∀ b, P b → b < w.heap.size) (hv : StrsAt P w v ss) :
    Calls Tryz.prog 117 #[v] w fun e w' => e = .returned (.bool (riseB ss)) ∧ w' = w := by
  obtain ⟨a, cap, rfl, hlen, hc⟩ := hv
  have HC := hide hc; have HP := hide hP
  clear hc hP
  go_enter Tryz.func117, Tryz.ntmps117
  go_wp2_with fail
  go_loop [7] (fun i => ∃ (k : Nat), k ≤ ss.length ∧ i = .int .i64 k ∧ Hid (∀ j, j < k → good ss j = true)) (fun i => ss.length - (intOf i).toNat)
  case atStart => exact ⟨0, Nat.zero_le _, rfl, hide (fun j hj => by omega)⟩
  case round =>
    obtain ⟨k, hk, rfl, HG⟩ := hrel
    by_cases hlt : k < ss.length
    · obtain ⟨b, o, rfl, hpb, hcell, hsz⟩ := unhide HC k hlt
      have hname := fun w => nameOk_any ss[k] w hsz
      have HN := hide hname; clear hname hpb
      by_cases hn : nameOkB ss[k] = true
      · by_cases h0 : 0 < k
        · obtain ⟨b', o', he, -, e0, -⟩ := unhide HC (k - 1) (by omega)
          simp only [Option.some.injEq, Addr.mk.injEq, and_true] at he
          obtain ⟨rfl, rfl⟩ := he
          have hd0 : decide ((0 : Int) < k) = true := by simp; omega
          have hgd := good_pos hlt h0 hn
          generalize hlb : Op.bytesLess (ss[k - 1]'(by omega)).toList ss[k].toList = lb at hgd
          have hi1 : ((k : Int) - 1).toNat = k - 1 := by omega
          have HGD := hide hgd
          clear hgd
          have hge := geqS
          cases lb
          · have HR := hide (rise_no hlt (unhide HGD))
            go_wp2_with (go_at_call 110; refine (unhide HN _).mono ?_; rintro e w' ⟨rfl, rfl⟩)
            go_ret
            exact ⟨ret_bool (unhide HR).symm, rfl⟩
          · go_wp2_with (go_at_call 110; refine (unhide HN _).mono ?_; rintro e w' ⟨rfl, rfl⟩)
            go_round
            case rel => exact ⟨k + 1, by omega, by go_num, hide (fun j hj => by
              by_cases e : j = k
              · subst e; exact unhide HGD
              · exact HG.out j (by omega))⟩
            case measure => simp [intOf]; omega
        · have hd0 : decide (0 < k) = false := by simp; omega
          have HK0 : Hid (k = 0) := by show k = 0; omega
          clear h0
          go_wp2_with (go_at_call 110; refine (unhide HN _).mono ?_; rintro e w' ⟨rfl, rfl⟩)
          go_round
          case rel => exact ⟨k + 1, by omega, by go_num, hide (fun j hj => by have := HK0.out; subst this; obtain rfl : j = 0 := by omega
                                                                              exact good_zero hlt hn)⟩
          case measure => simp [intOf]; omega
      · have hn' : nameOkB ss[k] = false := by simpa using hn
        have HR := hide (rise_no hlt (good_name hlt hn'))
        clear hn
        go_wp2_with (go_at_call 110; refine (unhide HN _).mono ?_; rintro e w' ⟨rfl, rfl⟩)
        go_ret
        exact ⟨ret_bool (unhide HR).symm, rfl⟩
    · go_wp2_with fail
      go_ret
      exact ⟨ret_bool (rise_yes (fun i hi => HG.out i (by omega))).symm, rfl⟩
end Go.Proofs.YtgamonfmgngilaaGreatDoor

/- The walks of the program's newNumTree, newTextTree, newListTree, newMaybeTree, newFormTree, enter and leave: what they answer, or that they raise a fault. No conditions. -/

namespace Go.Proofs.YtgamonfmgngilaaGreatDoor
open Go Go.RowKit

set_option maxHeartbeats 400000 in
theorem newNum_yes (n : Int) (w : World) (h : -999999999 ≤ n ∧ n ≤ 999999999) : Calls Tryz.prog 94 #[.int .i64 n] w fun e w' => e = .returned (.int .i64 n) ∧ w' = w := by
  obtain ⟨h1, h2⟩ := h
  have d2 : decide (n ≤ 999999999) = true := by simp; omega
  go_enter Tryz.func94, Tryz.ntmps94
  go_wp2_with (go_at_call 65; refine (treeWant_yes _).mono ?_; rintro e w' ⟨rfl, rfl⟩)
  go_ret
  exact ⟨rfl, rfl⟩

set_option maxHeartbeats 400000 in
theorem newNum_no (n : Int) (w : World) (h : ¬ (-999999999 ≤ n ∧ n ≤ 999999999)) : Calls Tryz.prog 94 #[.int .i64 n] w fun e w' => e = fltE ∧ w' = w := by
  have h' : n < -999999999 ∨ 999999999 < n := by omega
  clear h
  rcases h' with h | h
  · go_enter Tryz.func94, Tryz.ntmps94
    go_wp2_with (go_at_call 65; refine (treeWant_no _).mono ?_; rintro e w' ⟨rfl, rfl⟩)
    exact ⟨rfl, rfl, rfl⟩
  · have d2 : decide (n ≤ 999999999) = false := by simp; omega
    go_enter Tryz.func94, Tryz.ntmps94
    go_wp2_with (go_at_call 65; refine (treeWant_no _).mono ?_; rintro e w' ⟨rfl, rfl⟩)
    exact ⟨rfl, rfl, rfl⟩

set_option maxHeartbeats 400000 in
theorem newList_yes (a : Option Addr) (n cap : Nat) (w : World) (h : n ≤ 20) : Calls Tryz.prog 100 #[.slice a n cap] w fun e w' => e = .returned (.slice a n cap) ∧ w' = w := by
  have d : decide ((n : Int) ≤ 20) = true := by simp; omega
  go_enter Tryz.func100, Tryz.ntmps100
  go_wp2_with (go_at_call 65; refine (treeWant_yes _).mono ?_; rintro e w' ⟨rfl, rfl⟩)
  go_ret
  exact ⟨rfl, rfl⟩

set_option maxHeartbeats 400000 in
theorem newList_no (a : Option Addr) (n cap : Nat) (w : World) (h : ¬ n ≤ 20) : Calls Tryz.prog 100 #[.slice a n cap] w fun e w' => e = fltE ∧ w' = w := by
  have d : decide ((n : Int) ≤ 20) = false := by simp; omega
  go_enter Tryz.func100, Tryz.ntmps100
  go_wp2_with (go_at_call 65; refine (treeWant_no _).mono ?_; rintro e w' ⟨rfl, rfl⟩)
  exact ⟨rfl, rfl, rfl⟩

set_option maxHeartbeats 400000 in
theorem newMaybe_yes (a : Option Addr) (n cap : Nat) (w : World) (h : n ≤ 1) : Calls Tryz.prog 103 #[.slice a n cap] w fun e w' => e = .returned (.slice a n cap) ∧ w' = w := by
  have d : decide ((n : Int) ≤ 1) = true := by simp; omega
  go_enter Tryz.func103, Tryz.ntmps103
  go_wp2_with (go_at_call 65; refine (treeWant_yes _).mono ?_; rintro e w' ⟨rfl, rfl⟩)
  go_ret
  exact ⟨rfl, rfl⟩

set_option maxHeartbeats 400000 in
theorem newMaybe_no (a : Option Addr) (n cap : Nat) (w : World) (h : ¬ n ≤ 1) : Calls Tryz.prog 103 #[.slice a n cap] w fun e w' => e = fltE ∧ w' = w := by
  have d : decide ((n : Int) ≤ 1) = false := by simp; omega
  go_enter Tryz.func103, Tryz.ntmps103
  go_wp2_with (go_at_call 65; refine (treeWant_no _).mono ?_; rintro e w' ⟨rfl, rfl⟩)
  exact ⟨rfl, rfl, rfl⟩

set_option maxHeartbeats 400000 in
theorem newText_any (s : ByteArray) (w : World) (hs : s.size ≤ 9223372036854775807) :
    Calls Tryz.prog 97 #[.string s] w fun e w' => (textOkB s = true ∧ e = .returned (.string s) ∨ textOkB s = false ∧ e = fltE) ∧ w' = w := by
  by_cases h60 : s.size ≤ 60
  · have d : decide ((s.size : Int) ≤ 60) = true := by simp; omega
    go_enter Tryz.func97, Tryz.ntmps97
    go_wp2_with (go_at_call 65; refine (treeWant_yes _).mono ?_; rintro e w' ⟨rfl, rfl⟩)
    go_loop [10] (fun i => ∃ k : Nat, k ≤ s.size ∧ i = .int .i64 k ∧ Hid (allTo textByte s k)) (fun i => s.size - (intOf i).toNat)
    case atStart => exact ⟨0, Nat.zero_le _, rfl, fun j hj => by omega⟩
    case round =>
      obtain ⟨k, hk, rfl, HA⟩ := hrel
      by_cases hlt : k < s.size
      · have hc : s[k].toNat < 32 ∨ 126 < s[k].toNat ∨ s[k].toNat = 34 ∨ (32 ≤ s[k].toNat ∧ s[k].toNat ≤ 126 ∧ s[k].toNat ≠ 34) := by omega
        rcases hc with hc | hc | hc | hc
        · have HN := hide (textOk_not hlt (textByte_no (Or.inl hc)))
          go_wp2_with (go_at_call 65; refine (treeWant_no _).mono ?_; rintro e w' ⟨rfl, rfl⟩)
          exact ⟨rfl, Or.inr ⟨unhide HN, rfl⟩, rfl⟩
        · have HN := hide (textOk_not hlt (textByte_no (Or.inr (Or.inl hc))))
          have d1 : decide ((32 : Int) ≤ s[k].toNat) = true := by simp; omega
          have d2 : decide ((s[k].toNat : Int) ≤ 126) = false := by simp; omega
          go_wp2_with (go_at_call 65; refine (treeWant_no _).mono ?_; rintro e w' ⟨rfl, rfl⟩)
          exact ⟨rfl, Or.inr ⟨unhide HN, rfl⟩, rfl⟩
        · have HN := hide (textOk_not hlt (textByte_no (Or.inr (Or.inr hc))))
          have d1 : decide ((32 : Int) ≤ s[k].toNat) = true := by simp; omega
          have d2 : decide ((s[k].toNat : Int) ≤ 126) = true := by simp; omega
          have d3 : ((s[k].toNat : Int) != 34) = false := by simp; omega
          clear hc
          go_wp2_with (go_at_call 65; refine (treeWant_no _).mono ?_; rintro e w' ⟨rfl, rfl⟩)
          exact ⟨rfl, Or.inr ⟨unhide HN, rfl⟩, rfl⟩
        · have HN := hide (allTo_succ HA.out hlt (textByte_yes hc))
          obtain ⟨hc1, hc2, hc3⟩ := hc
          have d1 : decide ((32 : Int) ≤ s[k].toNat) = true := by simp; omega
          have d2 : decide ((s[k].toNat : Int) ≤ 126) = true := by simp; omega
          have d3 : ((s[k].toNat : Int) != 34) = true := by simp; omega
          go_wp2_with (go_at_call 65; refine (treeWant_yes _).mono ?_; rintro e w' ⟨rfl, rfl⟩)
          go_round
          case rel => exact ⟨k + 1, by omega, by go_num, HN⟩
          case measure => simp [intOf]; omega
      · go_wp2_with fail
        go_ret
        obtain rfl : k = s.size := by omega
        exact ⟨Or.inl ⟨textOk_yes h60 HA.out, rfl⟩, rfl⟩
  · have HN : Hid (textOkB s = false) := by show _ = _; unfold textOkB; rw [decide_eq_false h60]; rfl
    have d : decide ((s.size : Int) ≤ 60) = false := by simp; omega
    go_enter Tryz.func97, Tryz.ntmps97
    go_wp2_with (go_at_call 65; refine (treeWant_no _).mono ?_; rintro e w' ⟨rfl, rfl⟩)
    exact ⟨rfl, Or.inr ⟨unhide HN, rfl⟩, rfl⟩

/-- What the bounds of a sorter or reader hold. -/
structure Bnd (w : World) (B : Nat) (p l : Int) : Prop where
  c0 : w.cell? ⟨B, 0, none⟩ = some (.int .i64 p)
  c1 : w.cell? ⟨B, 1, none⟩ = some (.int .i64 l)
  f0 : w.frozen? ⟨B, 0, none⟩ = false
  f1 : w.frozen? ⟨B, 1, none⟩ = false

theorem Bnd.lt {w : World} {B : Nat} {p l : Int} (h : Bnd w B p l) : B < w.heap.size := World.block_lt_of_cell? w _ h.c0
theorem Bnd.of_block {w w' : World} {B : Nat} {p l : Int} (h : Bnd w B p l) (e : w'.heap[B]? = w.heap[B]?) : Bnd w' B p l :=
  ⟨by rw [World.cell?_of_block (w := w) e]; exact h.c0, by rw [World.cell?_of_block (w := w) e]; exact h.c1, by rw [World.frozen?_of_block (w := w) e]; exact h.f0, by rw [World.frozen?_of_block (w := w) e]; exact h.f1⟩

set_option maxHeartbeats 400000 in
theorem enter_yes (B : Nat) (p l : Int) (w : World) (hB : Bnd w B p l) (hp : 0 ≤ p) (hl : 0 ≤ l) (h1 : p + 1 ≤ 120) (h2 : l + 1 ≤ 6) :
    Calls Tryz.prog 89 #[.pointer (some ⟨B, 0, none⟩)] w fun e w' => e = .returned (.tuple #[]) ∧ w' = (w.setCell ⟨B, 0, none⟩ (.int .i64 (p + 1))).setCell ⟨B, 1, none⟩ (.int .i64 (l + 1)) := by
  obtain ⟨c0, c1, f0, f1⟩ := hB
  have d1 : decide (p + 1 ≤ 120) = true := by simp; omega
  have d2 : decide (l + 1 ≤ 6) = true := by simp; omega
  go_enter Tryz.func89, Tryz.ntmps89
  go_wp2_with (go_at_call 65; refine (treeWant_yes _).mono ?_; rintro e w' ⟨rfl, rfl⟩)
  go_end0
  exact ⟨rfl, rfl⟩

set_option maxHeartbeats 400000 in
theorem enter_no (B : Nat) (p l : Int) (w : World) (hB : Bnd w B p l) (hp : 0 ≤ p) (hl : 0 ≤ l) (hp1 : p ≤ 120) (hl1 : l ≤ 6) (h : ¬ (p + 1 ≤ 120 ∧ l + 1 ≤ 6)) :
    Calls Tryz.prog 89 #[.pointer (some ⟨B, 0, none⟩)] w fun e w' => e = fltE ∧ w' = (w.setCell ⟨B, 0, none⟩ (.int .i64 (p + 1))).setCell ⟨B, 1, none⟩ (.int .i64 (l + 1)) := by
  obtain ⟨c0, c1, f0, f1⟩ := hB
  by_cases h1 : p + 1 ≤ 120
  · have d1 : decide (p + 1 ≤ 120) = true := by simp; omega
    have d2 : decide (l + 1 ≤ 6) = false := by simp; omega
    clear h
    go_enter Tryz.func89, Tryz.ntmps89
    go_wp2_with (go_at_call 65; refine (treeWant_no _).mono ?_; rintro e w' ⟨rfl, rfl⟩)
    exact ⟨rfl, rfl, rfl⟩
  · have d1 : decide (p + 1 ≤ 120) = false := by simp; omega
    clear h
    go_enter Tryz.func89, Tryz.ntmps89
    go_wp2_with (go_at_call 65; refine (treeWant_no _).mono ?_; rintro e w' ⟨rfl, rfl⟩)
    exact ⟨rfl, rfl, rfl⟩

set_option maxHeartbeats 400000 in
theorem leave_any (B : Nat) (p l : Int) (w : World) (hB : Bnd w B p l) (hl : 0 ≤ l) (hl1 : l ≤ 10) :
    Calls Tryz.prog 92 #[.pointer (some ⟨B, 0, none⟩)] w fun e w' => e = .returned (.tuple #[]) ∧ w' = w.setCell ⟨B, 1, none⟩ (.int .i64 (l - 1)) := by
  obtain ⟨c0, c1, f0, f1⟩ := hB
  go_enter Tryz.func92, Tryz.ntmps92
  go_wp2_with fail
  go_end0
  exact ⟨rfl, rfl⟩

set_option maxHeartbeats 400000 in
theorem newForm_any (v : Value) (ss : List ByteArray) (a : Option Addr) (n cap : Nat) (w : World) {P : Nat → Prop} (hP : ∀ b, P b → b < w.heap.size) (hv : StrsAt P w v ss) :
    Calls Tryz.prog 102 #[v, .slice a n cap] w fun e w' => ((ss.length = n ∧ riseB ss = true) ∧ e = .returned (.agg #[v, .slice a n cap]) ∨ ¬ (ss.length = n ∧ riseB ss = true) ∧ e = fltE) ∧ Below w.heap.size w w' := by
  have hbx : ∀ o, Below w.heap.size w (w.alloc o) := fun o => (Below.refl _ _).alloc (Nat.le_refl _) o
  have hasc : ∀ o, Calls Tryz.prog 117 #[v] (w.alloc o) fun e w' => e = .returned (.bool (riseB ss)) ∧ w' = w.alloc o := fun o =>
    namesAscend_any v ss (w.alloc o) (P := P) (fun b hb => Nat.lt_of_lt_of_le (hP b hb) (hbx o).size) (hv.carry (fun b hb => (hbx o).block b (hP b hb)) (fun _ h => h))
  have HA := hide hasc; have HBX := hide hbx
  obtain ⟨a3, cap3, rfl, hlen, -⟩ := hv
  clear hasc hbx hP
  by_cases hnl : ss.length = n
  · have d : ((ss.length : Int) == (n : Int)) = true := by simp; omega
    have HNL := hide hnl; clear hnl
    cases hr : riseB ss
    · rw [hr] at HA
      go_enter Tryz.func102, Tryz.ntmps102
      go_wp2_with (first | (go_at_call 117; refine (unhide HA _).mono ?_; rintro e w' ⟨rfl, rfl⟩) | (go_at_call 65; refine (treeWant_no _).mono ?_; rintro e w' ⟨rfl, rfl⟩))
      exact ⟨rfl, Or.inr ⟨fun h => Bool.false_ne_true h.2, rfl⟩, unhide HBX _⟩
    · rw [hr] at HA
      go_enter Tryz.func102, Tryz.ntmps102
      go_wp2_with (first | (go_at_call 117; refine (unhide HA _).mono ?_; rintro e w' ⟨rfl, rfl⟩) | (go_at_call 65; refine (treeWant_yes _).mono ?_; rintro e w' ⟨rfl, rfl⟩))
      refine bodyPost_ret (v := .agg #[.slice a3 ss.length cap3, .slice a n cap]) (by simp [results, Tryz.results102, go_sem]) rfl ⟨Or.inl ⟨⟨unhide HNL, by simp⟩, rfl⟩, unhide HBX _⟩
  · have d : ((ss.length : Int) == (n : Int)) = false := by simp; omega
    have HNL := hide hnl; clear hnl
    go_enter Tryz.func102, Tryz.ntmps102
    go_wp2_with (go_at_call 65; refine (treeWant_no _).mono ?_; rintro e w' ⟨rfl, rfl⟩)
    exact ⟨rfl, Or.inr ⟨fun h => unhide HNL h.1, rfl⟩, unhide HBX _⟩
end Go.Proofs.YtgamonfmgngilaaGreatDoor
