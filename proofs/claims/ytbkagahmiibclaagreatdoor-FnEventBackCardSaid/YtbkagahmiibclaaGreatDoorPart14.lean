/- Rows of bytes of a call's own, and appends onto them. No program walked, no conditions. -/
import Derived.Test.YtbkagahmiibclaaGreatDoorPart00
import Derived.Test.YtbkagahmiibclaaGreatDoorRows
import Derived.Lib.AppendStr
import Derived.Laws.IdiomStrings
import Derived.Deep.AppendLies
import Derived.Test.YtbkagahmiibclaaGreatDoorPart13
import Derived.Deep.RegionWith
import Derived.Test.YtbkagahmiibclaaGreatDoorPart01
import Derived.Deep.OwnRows
namespace Go.Proofs.YtbkagahmiibclaaGreatDoor
open Go Go.RowKit

/-- Bytes as cells. -/
def bc (l : List UInt8) : List Value := l.map fun b => Value.int .u8 b.toNat
theorem bc_append (a b : List UInt8) : bc (a ++ b) = bc a ++ bc b := List.map_append
theorem bc_str (s : ByteArray) : Lib.strCells s = bc s.data.toList := rfl
theorem bc_len (l : List UInt8) : (bc l).length = l.length := List.length_map _

/-- A row of bytes of the call's own. -/
def ByRow (base : Nat) (w : World) (v : Value) (l : List UInt8) : Prop := w.ownsRow base 5 1 v l.length (bc l)

theorem infoU8 : (Tryz.prog.info? 5).map (fun i => (i.zero, i.size, i.bytes)) = some (some (.int .u8 0), 1, 1) := by kernel_rfl

theorem ByRow.slice {base : Nat} {w : World} {v : Value} {l : List UInt8} (h : ByRow base w v l) : ∃ a cap, v = .slice a l.length cap := by
  rcases h.2 with ⟨hv, h0⟩ | ⟨g, cap, cur, hv, _⟩
  · exact ⟨none, 0, by rw [hv, h0]⟩
  · exact ⟨_, cap, hv⟩

theorem ByRow.below {base : Nat} {w w' : World} {v : Value} {l : List UInt8} (h : ByRow base w v l) (hg : w.grownBy w' v.ownBlock) (hb : base ≤ w.heap.size) : Below base w w' :=
  (Below.refl base w).grown hg hb (fun k e => (h.lt k e).1)

theorem ByRow.str {base : Nat} {w : World} {v : Value} {l : List UInt8} (h : ByRow base w v l) : (convert 22 9 v).run Tryz.prog w = .ok (.string ⟨l.toArray⟩) w := by
  rcases h.2 with ⟨hv, h0⟩ | ⟨g, cap, cur, hv, hgb, hh, hle, hm2, hsz, htk⟩
  · have hl : l = [] := List.eq_nil_of_length_eq_zero h0
    subst hl hv
    rw [run_convert_bytes_string w 22 9 5 none 0 0 Tryz.underlying22 Tryz.underlying5 Tryz.underlying9]
    rfl
  · subst hv
    refine run_convert_bytes_back w 22 9 5 ⟨g, 0, none⟩ cap l Tryz.underlying22 Tryz.underlying5 Tryz.underlying9 (fun j hj => ?_)
    have h1 : (bc l)[j]? = some (.int .u8 (l[j].toNat : Int)) := by simp [bc, hj]
    exact h.cells (g := g) rfl j _ h1

theorem ByRow.form {base : Nat} {w : World} {v : Value} {l : List UInt8} (h : ByRow base w v l) (hl : 0 < l.length) : ∃ g cap, v = .slice (some ⟨g, 0, none⟩) l.length cap ∧ base ≤ g ∧ g < w.heap.size ∧ ∀ j u, (bc l)[j]? = some u → w.cell? ((⟨g, 0, none⟩ : Addr).add j) = some u := by
  rcases h.2 with ⟨hv, h0⟩ | ⟨g, cap, cur, hv, hb, _⟩
  · omega
  · exact ⟨g, cap, hv, hb, (h.lt g (by rw [hv]; rfl)).2, fun j u hj => h.cells (g := g) (by rw [hv]; rfl) j u hj⟩

/-- append onto a row of bytes, what is appended lying behind an address. -/
theorem append_bytes (w : World) {ops : Array Oper} {rest : List Oper} {o : Oper} {a : Act} {Q : Exit → Act → World → Prop}
    (hg : o.guard = none) (s x : Operand) (hop : o.op = Op.call { callee := Callee.builtin Builtin.append, args := #[s, x], argTypes := #[22, 22] })
    (base : Nat) (v : Value) (l news : List UInt8) (hs : a.eval s = v) (hown : ByRow base w v l)
    (ad : Addr) (m c : Nat) (hx : a.eval x = .slice (some ad) m c) (hm : m = news.length) (hc : ∀ j u, (bc news)[j]? = some u → w.cell? (ad.add j) = some u)
    (hlen : l.length + news.length ≤ 1099511627776) (hbase : base ≤ w.heap.size)
    (hK : ∀ a' n' cap' w', Hid (n' = (l ++ news).length) → Hid (ByRow base w' (.slice a' n' cap') (l ++ news)) → Hid (w.grownBy w' v.ownBlock) → wpList Tryz.prog ops Q rest (a.put o.dst (.slice a' n' cap')) w') :
    wpList Tryz.prog ops Q (o :: rest) a w := by
  obtain ⟨i0, hi, hz0, hz1, hz2⟩ := info_parts infoU8
  subst hm
  refine wpList_append_own w hg s x 22 hop base 5 i0 (.int .u8 0) 1 1 Tryz.underlying22 hi hz0 hz1 hz2 rfl (by decide) v l.length (bc l) hs hown ad news.length c (bc news) hx (by rw [bc_len, Nat.mul_one]) hc (fun u hu => ?_) (by unfold maxLen; omega) (by omega) hbase (fun v' w' r1 r2 _ => ?_)
  · obtain ⟨_, _, rfl⟩ := List.mem_map.1 hu
    rfl
  · have hr : ByRow base w' v' (l ++ news) := by
      show w'.ownsRow base 5 1 v' (l ++ news).length (bc (l ++ news))
      rw [bc_append, List.length_append]; exact r1
    obtain ⟨a', cap', rfl⟩ := hr.slice
    exact hK a' _ cap' w' rfl hr r2

/-- The same in a region that draws its order. -/
theorem step_append_bytes (w : World) {ops : Array Oper} {o : Oper} {a : Act} {K : Act → World → Prop} {Q : Exit → Act → World → Prop} {E : Prop}
    (hg : o.guard = none) (s x : Operand) (hop : o.op = Op.call { callee := Callee.builtin Builtin.append, args := #[s, x], argTypes := #[22, 22] })
    (base : Nat) (v : Value) (l news : List UInt8) (hs : a.eval s = v) (hown : ByRow base w v l)
    (ad : Addr) (m c : Nat) (hx : a.eval x = .slice (some ad) m c) (hm : m = news.length) (hpos : 0 < m) (hc : ∀ j u, (bc news)[j]? = some u → w.cell? (ad.add j) = some u)
    (hlen : l.length + news.length ≤ 1099511627776) (hbase : base ≤ w.heap.size)
    (hK : ∀ a' n' cap' w', Hid (n' = (l ++ news).length) → Hid (ByRow base w' (.slice a' n' cap') (l ++ news)) → Hid (w.grownBy w' v.ownBlock) → K (a.put o.dst (.slice a' n' cap')) w') :
    if Region.wanted o (yielded ops a.tmps) = true then Oper.wp Tryz.prog o a w K Q else E := by
  obtain ⟨i0, hi, hz0, hz1, hz2⟩ := info_parts infoU8
  subst hm
  refine step_append_lies w hg s x 22 hop base 5 i0 (.int .u8 0) 1 1 Tryz.underlying22 hi hz0 hz1 hz2 rfl (by decide) v l.length (bc l) hs hown ad news.length c (bc news) hx (by rw [bc_len, Nat.mul_one]) hc (fun u hu => ?_) hpos (by unfold maxLen; omega) (by omega) hbase _ rfl (fun g cap w' r1 r2 _ _ => ?_)
  · obtain ⟨_, _, rfl⟩ := List.mem_map.1 hu
    rfl
  · refine hK _ _ _ w' (by show _ = _; rw [List.length_append]) ?_ r2
    show w'.ownsRow base 5 1 _ (l ++ news).length (bc (l ++ news))
    rw [bc_append, List.length_append]; exact r1

/-- append of a string's bytes onto a row of bytes. -/
theorem append_string (w : World) {ops : Array Oper} {rest : List Oper} {o : Oper} {a : Act} {Q : Exit → Act → World → Prop}
    (hg : o.guard = none) (s x : Operand) (hop : o.op = Op.call { callee := Callee.builtin Builtin.append, args := #[s, x], argTypes := #[22, 9] })
    (base : Nat) (v : Value) (l : List UInt8) (tx : ByteArray) (hs : a.eval s = v) (hown : ByRow base w v l) (hx : a.eval x = .string tx)
    (hlen : l.length + tx.size ≤ 1099511627776) (hbase : base ≤ w.heap.size)
    (hK : ∀ a' n' cap' w', Hid (n' = (l ++ tx.data.toList).length) → Hid (ByRow base w' (.slice a' n' cap') (l ++ tx.data.toList)) → Hid (w.grownBy w' v.ownBlock) → wpList Tryz.prog ops Q rest (a.put o.dst (.slice a' n' cap')) w') :
    wpList Tryz.prog ops Q (o :: rest) a w := by
  obtain ⟨i0, hi, hz0, hz1, hz2⟩ := info_parts infoU8
  have hsz : tx.data.toList.length = tx.size := by simp
  refine Lib.wpList_append_own_string w hg s x 22 9 hop base 5 i0 Tryz.underlying22 Tryz.underlying9 hi hz0 hz1 hz2 v l.length (bc l) hs hown tx hx (by unfold maxLen; omega) (by omega) hbase (fun v' w' r1 r2 _ => ?_)
  have hr : ByRow base w' v' (l ++ tx.data.toList) := by
    show w'.ownsRow base 5 1 v' (l ++ tx.data.toList).length (bc (l ++ tx.data.toList))
    rw [bc_append, List.length_append, hsz, ← bc_str]; exact r1
  obtain ⟨a', cap', rfl⟩ := hr.slice
  exact hK a' _ cap' w' rfl hr r2

/-- One byte that was just built as a slice. -/
theorem byte_one (w : World) (x : UInt8) (t : TypeId) : ∀ j u, (bc [x])[j]? = some u → (w.alloc (.cells #[.int .u8 x.toNat] t)).cell? ((⟨w.heap.size, 0, none⟩ : Addr).add j) = some u := cell_one w _ t

theorem ByRow.fresh (w : World) (x : UInt8) : ByRow w.heap.size (w.alloc (.cells #[.int .u8 x.toNat] 5)) (.slice (some ⟨w.heap.size, 0, none⟩) 1 1) [x] := by
  refine ⟨rfl, Or.inr ⟨w.heap.size, 1, #[.int .u8 x.toNat], rfl, Nat.le_refl _, ?_, Nat.le_refl _, by decide, rfl, rfl⟩⟩
  show (w.heap.push _)[w.heap.size]? = _
  simp

theorem ByRow.base {base base' : Nat} {w : World} {v : Value} {l : List UInt8} (h : ByRow base w v l) (hb : base' ≤ base) : ByRow base' w v l := ownsRow_base h hb

/-- What '[]byte(s)' gives. -/
theorem bytes_of (w : World) (s : ByteArray) : ∃ cap W, (convert 9 22 (.string s)).run Tryz.prog w = .ok (.slice (some ⟨w.heap.size, 0, none⟩) s.size cap) W ∧ w.grownBy W none ∧ w.heap.size < W.heap.size ∧ ∀ j u, (bc s.data.toList)[j]? = some u → W.cell? ((⟨w.heap.size, 0, none⟩ : Addr).add j) = some u := by
  refine ⟨_, _, run_bytes_of_string w 9 22 5 s Tryz.underlying9 Tryz.underlying22 Tryz.underlying5, ?_, ?_, fun j u hj => ?_⟩
  · have h1 : w.grownBy w.drew none := ⟨rfl, rfl, rfl, Nat.le_refl _, fun _ _ _ => rfl⟩
    have h2 := World.grownBy_alloc w.drew (.cells (bytesRow s (grownCap w s.size 0 5)) 5 ((bytesRow s (grownCap w s.size 0 5)).size, (bytesRow s (grownCap w s.size 0 5)).size + 1)) none
    exact ⟨h2.os.trans h1.os, h2.tape.trans h1.tape, h2.output.trans h1.output, Nat.le_trans h1.size h2.size, fun i hi hne => (h2.block i (Nat.lt_of_lt_of_le hi h1.size) hne).trans (h1.block i hi hne)⟩
  · rw [World.size_alloc]; exact Nat.lt_succ_self _
  · have hj' : j < s.data.size := by
      have := (List.getElem?_eq_some_iff.1 hj).1
      simpa [bc] using this
    rw [Addr.add_lit]
    have hu : u = .int .u8 s.data[j].toNat := by
      simp [bc] at hj
      obtain ⟨a, ha, rfl⟩ := hj
      rw [Array.getElem?_eq_getElem hj'] at ha
      rw [Option.some.inj ha]
    subst hu
    show (w.drew.alloc _).cell? ⟨w.heap.size, 0 + j, none⟩ = _
    rw [Nat.zero_add]
    have hb : (w.drew.alloc (.cells (bytesRow s (grownCap w s.size 0 5)) 5 ((bytesRow s (grownCap w s.size 0 5)).size, (bytesRow s (grownCap w s.size 0 5)).size + 1))).heap[w.heap.size]? = some (.cells (bytesRow s (grownCap w s.size 0 5)) 5 ((bytesRow s (grownCap w s.size 0 5)).size, (bytesRow s (grownCap w s.size 0 5)).size + 1)) := by
      show (w.heap.push _)[w.heap.size]? = _
      simp
    simp only [World.cell?, hb]
    have hj2 : j < s.size := hj'
    simp [bytesRow, Array.getElem?_append, hj2]

theorem ByRow.of_block {base : Nat} {w w' : World} {v : Value} {l : List UInt8} (h : ByRow base w v l) (hb : ∀ g, v.ownBlock = some g → w'.heap[g]? = w.heap[g]?) : ByRow base w' v l := by
  refine ⟨h.1, ?_⟩
  rcases h.2 with h0 | ⟨g, cap, cur, hv, hb', hg, h5⟩
  · exact Or.inl h0
  · exact Or.inr ⟨g, cap, cur, hv, hb', by rw [hb g (by rw [hv]; rfl)]; exact hg, h5⟩
theorem ByRow.own {base : Nat} {w : World} {v : Value} {l : List UInt8} (h : ByRow base w v l) : ∀ g, v.ownBlock = some g → base ≤ g ∧ g < w.heap.size := fun g e => World.ownsRow.lt h g e
end Go.Proofs.YtbkagahmiibclaaGreatDoor

/- The walks of the specification's l4Short, l4Num: what they answer lies in new memory. Conditions: the text has at most 255 bytes, the number at most nine digits. -/

namespace Go.Proofs.YtbkagahmiibclaaGreatDoor
open Go Go.RowKit

/-- What is told of an answer that is a row of bytes: it lies in new memory, and nothing that was there has turned. -/
def ByNew (w w' : World) (e : Ending) (l : List UInt8) : Prop := ∃ a n cap, e = .returned (.slice a n cap) ∧ n = l.length ∧ ByRow w.heap.size w' (.slice a n cap) l ∧ Below w.heap.size w w'

theorem u8_nat (n : Nat) (h : n < 256) : (UInt8.ofNat n).toNat = n := by simp; omega

set_option maxRecDepth 100000 in
set_option maxHeartbeats 800000 in
theorem l4Short_any (s : ByteArray) (w : World) (hs : s.size ≤ 255) :
    Calls Tryz.prog 24 #[.string s] w fun e w' => ByNew w w' e (shortB s) := by
  have hu : (UInt8.ofNat s.size).toNat = s.size := u8_nat _ (by omega)
  obtain ⟨cap, W, hrun, hgrow, hlt, hcell⟩ := bytes_of (w.alloc (.cells #[.int .u8 s.size] 5)) s
  have hsz : s.data.toList.length = s.size := by simp
  rw [World.size_alloc] at hrun hcell hlt
  have hrow : ByRow w.heap.size W (.slice (some ⟨w.heap.size, 0, none⟩) 1 1) [UInt8.ofNat s.size] := by
    have := ByRow.fresh w (UInt8.ofNat s.size)
    rw [hu] at this
    exact World.ownsRow.kept this hgrow (by simp [Value.ownBlock])
  have hbl : Below w.heap.size w W := ((Below.refl _ _).alloc (Nat.le_refl _) _).grown hgrow (by simp) (by simp)
  have HROW := hide hrow; have HBL := hide hbl; have HCELL := hide hcell; have HSZ := hide hsz; have HU := hide hu
  clear hrow hbl hcell hsz hu hgrow
  go_enter Tryz.func24, Tryz.ntmps24
  go_wp2_with (at_builtin; refine append_bytes _ rfl _ _ rfl w.heap.size (.slice (some ⟨w.heap.size, 0, none⟩) 1 1) [UInt8.ofNat s.size] s.data.toList rfl (unhide HROW) ⟨w.heap.size + 1, 0, none⟩ s.size cap rfl (unhide HSZ).symm (unhide HCELL) (by rw [unhide HSZ]; simp; omega) (unhide HBL).size ?_; intro a' n' cap' w2 HN HR HG)
  have hbl2 := (unhide HBL).trans (ByRow.below (unhide HROW) (unhide HG) (unhide HBL).size)
  go_ret
  exact ⟨a', n', cap', rfl, HN.out, HR.out, hbl2⟩

theorem numB_len {n : Int} (h : n.natAbs ≤ 999999999) : (numB n).length ≤ 6 := by
  have := sevB_len h
  simp [numB]; omega

/-- The loop of l4Num holds. -/
structure NumPk (w wr : World) (n : Int) (m : Nat) (v : Value) (len : Nat) (l : List UInt8) : Prop where
  row : ByRow w.heap.size wr v l
  below : Below w.heap.size w wr
  len : len = l.length
  goal : l ++ sevB m = numB n

theorem NumPk.short {w wr : World} {n : Int} {m : Nat} {v : Value} {len : Nat} {l : List UInt8} (h : NumPk w wr n m v len l) (hn : n.natAbs ≤ 999999999) : l.length ≤ 6 := by
  have := numB_len hn
  rw [← h.goal, List.length_append] at this
  omega

theorem bcN (k : Nat) (h : k < 256) : bc [UInt8.ofNat k] = [.int .u8 (k : Int)] := by simp [bc]; omega

set_option maxRecDepth 100000 in
set_option maxHeartbeats 1600000 in
theorem l4Num_any (n : Int) (w : World) (hn : n.natAbs ≤ 999999999) :
    Calls Tryz.prog 59 #[.int .i64 n] w fun e w' => ByNew w w' e (numB n) := by
  have hI : -999999999 ≤ n ∧ n ≤ 999999999 := by omega
  obtain ⟨hI1, hI2⟩ := hI
  have hb0 : ∀ o, Below w.heap.size w (w.alloc o) := fun o => (Below.refl _ _).alloc (Nat.le_refl _) o
  have H0 : Hid (0 ≤ n → NumPk w (w.alloc (.cells #[.int .u8 0] 5)) n n.natAbs (.slice (some ⟨w.heap.size, 0, none⟩) 1 1) 1 [0]) := fun h =>
    ⟨ByRow.fresh w 0, hb0 _, rfl, by simp [numB]; omega⟩
  have H1 : Hid (n < 0 → NumPk w (w.alloc (.cells #[.int .u8 1] 5)) n n.natAbs (.slice (some ⟨w.heap.size, 0, none⟩) 1 1) 1 [1]) := fun h =>
    ⟨ByRow.fresh w 1, hb0 _, rfl, by simp [numB, h]⟩
  have HN := hide hn
  clear hb0
  by_cases hneg : n < 0
  · have HA := hide (unhide H1 hneg)
    have hab : -n = (n.natAbs : Int) := by omega
    clear H0 H1
    go_enter Tryz.func59, Tryz.ntmps59
    go_wp2_with fail
    go_loopw [0, 3] (fun i o wr => ∃ (m : Nat) (a : Option Addr) (len cap : Nat) (l : List UInt8), i = .int .i64 m ∧ o = .slice a len cap ∧ m ≤ 999999999 ∧ Hid (NumPk w wr n m (.slice a len cap) len l)) (fun i _ _ => (intOf i).toNat)
    case atStart => exact ⟨n.natAbs, _, _, _, _, rfl, rfl, hn, HA⟩
    case round =>
      clear HA
      obtain ⟨m, a, len, cap, l, rfl, rfl, hm, HA⟩ := hrel
      have hl6 := HA.out.short (unhide HN)
      have hsz := HA.out.below.size
      by_cases h127 : 127 < m
      · have hk : 128 + m % 128 < 256 := by omega
        have HK := hide (bcN _ hk)
        have hcast : ((128 + m % 128 : Nat) : Int) = 128 + (m : Int) % 128 := by omega
        rw [hcast] at HK
        have HC := hide hcast
        clear hcast
        go_wp2_with (at_builtin; refine append_bytes _ rfl _ _ rfl w.heap.size (.slice a len cap) l [UInt8.ofNat (128 + m % 128)] rfl (World.ownsRow.alloc HA.out.row _) ⟨wr.heap.size, 0, none⟩ 1 1 rfl rfl (by rw [unhide HK]; exact cell_one _ _ _) (by simp; omega) (by simp; omega) ?_; intro a' n' cap' w2 HN2 HR HG)
        have hbl := HA.out.below.trans (((Below.refl _ wr).alloc hsz (.cells #[.int .u8 (128 + (m : Int) % 128)] 5)).trans (ByRow.below (World.ownsRow.alloc HA.out.row (.cells #[.int .u8 (128 + (m : Int) % 128)] 5)) HG.out (by simp; omega)))
        have HAN : Hid (NumPk w w2 n (m / 128) (.slice a' n' cap') n' (l ++ [UInt8.ofNat (128 + m % 128)])) := ⟨HR.out, hbl, HN2.out, by have := HA.out.goal; rw [sevB_more h127] at this; simpa using this⟩
        clear hbl HG HR HN2
        go_wp2_with fail
        go_roundw
        case rel => exact ⟨m / 128, a', n', cap', _, by go_num, rfl, by omega, HAN⟩
        case measure => simp [intOf]; omega
      · have hk : m < 256 := by omega
        have HK := hide (bcN _ hk)
        go_wp2_with (at_builtin; refine append_bytes _ rfl _ _ rfl w.heap.size (.slice a len cap) l [UInt8.ofNat m] rfl (World.ownsRow.alloc HA.out.row _) ⟨wr.heap.size, 0, none⟩ 1 1 rfl rfl (by rw [unhide HK]; exact cell_one _ _ _) (by simp; omega) (by simp; omega) ?_; intro a' n' cap' w2 HN2 HR HG)
        have hbl := HA.out.below.trans (((Below.refl _ wr).alloc hsz (.cells #[.int .u8 (m : Int)] 5)).trans (ByRow.below (World.ownsRow.alloc HA.out.row (.cells #[.int .u8 (m : Int)] 5)) HG.out (by simp; omega)))
        have hgoal : l ++ [UInt8.ofNat m] = numB n := by have := HA.out.goal; rw [sevB_last h127] at this; exact this
        rw [hgoal] at HR HN2
        have HBL := hide hbl
        clear hbl HG
        go_ret
        exact ⟨a', n', cap', rfl, HN2.out, HR.out, unhide HBL⟩
  · have HA := hide (unhide H0 (by omega))
    have hab : n = (n.natAbs : Int) := by omega
    have HAB := hide hab
    clear H0 H1 hab
    go_enter Tryz.func59, Tryz.ntmps59
    go_wp2_with fail
    go_loopw [0, 3] (fun i o wr => ∃ (m : Nat) (a : Option Addr) (len cap : Nat) (l : List UInt8), i = .int .i64 m ∧ o = .slice a len cap ∧ m ≤ 999999999 ∧ Hid (NumPk w wr n m (.slice a len cap) len l)) (fun i _ _ => (intOf i).toNat)
    case atStart => exact ⟨n.natAbs, _, _, _, _, by rw [← unhide HAB], rfl, hn, HA⟩
    case round =>
      clear HA
      obtain ⟨m, a, len, cap, l, rfl, rfl, hm, HA⟩ := hrel
      have hl6 := HA.out.short (unhide HN)
      have hsz := HA.out.below.size
      by_cases h127 : 127 < m
      · have hk : 128 + m % 128 < 256 := by omega
        have HK := hide (bcN _ hk)
        have hcast : ((128 + m % 128 : Nat) : Int) = 128 + (m : Int) % 128 := by omega
        rw [hcast] at HK
        have HC := hide hcast
        clear hcast
        go_wp2_with (at_builtin; refine append_bytes _ rfl _ _ rfl w.heap.size (.slice a len cap) l [UInt8.ofNat (128 + m % 128)] rfl (World.ownsRow.alloc HA.out.row _) ⟨wr.heap.size, 0, none⟩ 1 1 rfl rfl (by rw [unhide HK]; exact cell_one _ _ _) (by simp; omega) (by simp; omega) ?_; intro a' n' cap' w2 HN2 HR HG)
        have hbl := HA.out.below.trans (((Below.refl _ wr).alloc hsz (.cells #[.int .u8 (128 + (m : Int) % 128)] 5)).trans (ByRow.below (World.ownsRow.alloc HA.out.row (.cells #[.int .u8 (128 + (m : Int) % 128)] 5)) HG.out (by simp; omega)))
        have HAN : Hid (NumPk w w2 n (m / 128) (.slice a' n' cap') n' (l ++ [UInt8.ofNat (128 + m % 128)])) := ⟨HR.out, hbl, HN2.out, by have := HA.out.goal; rw [sevB_more h127] at this; simpa using this⟩
        clear hbl HG HR HN2
        go_wp2_with fail
        go_roundw
        case rel => exact ⟨m / 128, a', n', cap', _, by go_num, rfl, by omega, HAN⟩
        case measure => simp [intOf]; omega
      · have hk : m < 256 := by omega
        have HK := hide (bcN _ hk)
        go_wp2_with (at_builtin; refine append_bytes _ rfl _ _ rfl w.heap.size (.slice a len cap) l [UInt8.ofNat m] rfl (World.ownsRow.alloc HA.out.row _) ⟨wr.heap.size, 0, none⟩ 1 1 rfl rfl (by rw [unhide HK]; exact cell_one _ _ _) (by simp; omega) (by simp; omega) ?_; intro a' n' cap' w2 HN2 HR HG)
        have hbl := HA.out.below.trans (((Below.refl _ wr).alloc hsz (.cells #[.int .u8 (m : Int)] 5)).trans (ByRow.below (World.ownsRow.alloc HA.out.row (.cells #[.int .u8 (m : Int)] 5)) HG.out (by simp; omega)))
        have hgoal : l ++ [UInt8.ofNat m] = numB n := by have := HA.out.goal; rw [sevB_last h127] at this; exact this
        rw [hgoal] at HR HN2
        have HBL := hide hbl
        clear hbl HG
        go_ret
        exact ⟨a', n', cap', rfl, HN2.out, HR.out, unhide HBL⟩
end Go.Proofs.YtbkagahmiibclaaGreatDoor

/- The walk of the specification's l4Tree: the bytes of a tree that is ok, in new memory. Conditions: the tree is ok. -/

namespace Go.Proofs.YtbkagahmiibclaaGreatDoor
open Go Go.RowKit

theorem bcI (x : Int) (h0 : 0 ≤ x) (h1 : x < 256) : bc [UInt8.ofNat x.toNat] = [.int .u8 x] := by
  rw [bcN _ (by omega)]
  have : ((x.toNat : Nat) : Int) = x := by omega
  rw [this]

theorem ByRow.freshI (w : World) (x : Int) (h0 : 0 ≤ x) (h1 : x < 256) : ByRow w.heap.size (w.alloc (.cells #[.int .u8 x] 5)) (.slice (some ⟨w.heap.size, 0, none⟩) 1 1) [UInt8.ofNat x.toNat] := by
  have := ByRow.fresh w (UInt8.ofNat x.toNat)
  have e : (((UInt8.ofNat x.toNat).toNat : Nat) : Int) = x := by rw [u8_nat _ (by omega)]; omega
  rw [e] at this
  exact this

theorem ByRow.stay {base : Nat} {w w' : World} {v : Value} {l : List UInt8} (h : ByRow base w v l) (hb : Below w.heap.size w w') : ByRow base w' v l :=
  World.ownsRow.kept h (row := none) ⟨hb.os, hb.tape, hb.output, hb.size, fun i hi _ => hb.block i hi⟩ (by cases hv : v.ownBlock <;> simp)

/-- What there is of the bytes of a tree, behind a box. -/
structure TAt (w : World) (box : Obj) (wr : World) (v : Value) (len : Nat) (l : List UInt8) : Prop where
  row : ByRow (w.heap.size + 1) wr v l
  below : Below (w.heap.size + 1) (w.alloc box) wr
  len : len = l.length

theorem TAt.size {w : World} {box : Obj} {wr : World} {v : Value} {len : Nat} {l : List UInt8} (h : TAt w box wr v len l) : w.heap.size + 1 ≤ wr.heap.size := by
  have := h.below.size; simpa using this

theorem TAt.app {w : World} {box : Obj} {wr w2 w3 : World} {v v' : Value} {len n' : Nat} {l news : List UInt8} (h : TAt w box wr v len l) (hb : Below wr.heap.size wr w2)
    (hn : n' = (l ++ news).length) (hr : ByRow (w.heap.size + 1) w3 v' (l ++ news)) (hg : w2.grownBy w3 v.ownBlock) : TAt w box w3 v' n' (l ++ news) :=
  ⟨hr, h.below.trans ((hb.mono h.size).trans (ByRow.below (h.row.stay hb) hg (Nat.le_trans h.size hb.size))), hn⟩

theorem TAt.end {w : World} {box : Obj} {wr : World} {a : Option Addr} {len cap : Nat} {l : List UInt8} (h : TAt w box wr (.slice a len cap) len l) : ByNew w wr (.returned (.slice a len cap)) l :=
  ⟨a, len, cap, rfl, h.len, h.row.base (Nat.le_succ _), ((Below.refl _ _).alloc (Nat.le_refl _) box).trans (h.below.mono (by omega))⟩

theorem TAt.start (w : World) (box : Obj) (x : Int) (h0 : 0 ≤ x) (h1 : x < 256) : TAt w box ((w.alloc box).alloc (.cells #[.int .u8 x] 5)) (.slice (some ⟨w.heap.size + 1, 0, none⟩) 1 1) 1 [UInt8.ofNat x.toNat] := by
  have hr := ByRow.freshI (w.alloc box) x h0 h1
  rw [World.size_alloc] at hr
  exact ⟨hr, (Below.refl _ _).alloc (by simp) _, rfl⟩

theorem TAt.old {w : World} {box : Obj} {wr : World} {v : Value} {len : Nat} {l : List UInt8} (h : TAt w box wr v len l) : Below w.heap.size w wr :=
  ((Below.refl _ _).alloc (Nat.le_refl _) box).trans (h.below.mono (by omega))

theorem ByNew.form {w w' : World} {e : Ending} {l : List UInt8} (h : ByNew w w' e l) (hl : 0 < l.length) : ∃ g n cap, e = .returned (.slice (some ⟨g, 0, none⟩) n cap) ∧ n = l.length ∧ (∀ j u, (bc l)[j]? = some u → w'.cell? ((⟨g, 0, none⟩ : Addr).add j) = some u) ∧ Below w.heap.size w w' := by
  obtain ⟨a, n, cap, rfl, hn, hr, hb⟩ := h
  obtain ⟨g, cap', hv, -, -, hc⟩ := hr.form hl
  simp only [Value.slice.injEq] at hv
  obtain ⟨rfl, rfl, rfl⟩ := hv
  exact ⟨g, _, _, rfl, rfl, hc, hb⟩

def TrSaid (n : Nat) : Prop := ∀ (t : Tr), tsz t < n → ∀ (P : Nat → Prop) (c : C5) (d : Int) (w : World), (∀ b, P b → b < w.heap.size) → Rep P w t c → 0 < pT t d →
    Calls Tryz.prog 25 #[.agg #[c.c0, c.c1, c.c2, c.c3, c.c4]] w fun e w' => ByNew w w' e (treeB t)

set_option maxRecDepth 100000 in
set_option maxHeartbeats 3200000 in
theorem l4Tree_step (n : Nat) (IH : TrSaid n) : TrSaid (n + 1) := by
  intro t hn P c d w hP hrep hok
  obtain ⟨c0, c1, c2, c3, c4⟩ := c
  obtain ⟨e0, e1, e2, -, -, -, hns, a, cap, e4, -, hks⟩ := hrep.open
  simp only at e0 e1 e2 e4 hns
  subst e0 e1 e2 e4
  obtain ⟨a3, cap3, rfl, -, hns⟩ := hns
  have hso := ok_sort hok
  have hs1 : 1 ≤ t.sort := by omega
  have hs6 : t.sort ≤ 6 := by omega
  have htb := treeB_eq t
  have hlen : (treeB t).length ≤ 8520 := by have := treeB_len t d hok; have := pT_bd t d; omega
  have HT0 := hide (fun box => TAt.start w box t.sort (by omega) (by omega))
  have HLEN := hide hlen; have HOK := hide hok; have HP := hide hP
  clear hlen hP hrep
  rcases (show t.sort = 1 ∨ t.sort = 2 ∨ t.sort = 3 ∨ (t.sort ≠ 1 ∧ t.sort ≠ 2 ∧ t.sort ≠ 3) by omega) with h | h | h | ⟨hx1, hx2, hx3⟩
  · have hnum := ok_num hok h
    have HE : Hid (treeB t = [UInt8.ofNat t.sort.toNat] ++ numB t.num) := by show treeB t = _; rw [htb, if_pos h]; rfl
    have h1 : (t.sort == 1) = true := by simpa using h
    have hnl := numB_len (n := t.num) (by omega)
    have HC := hide (fun W => l4Num_any t.num W (by omega))
    clear h hso htb hok hks hns hnum
    go_enter Tryz.func25, Tryz.ntmps25
    go_wp2_with fail
    refine (unhide HC _).mono ?_
    intro e w2 hnew
    obtain ⟨g2, n2, cap2, rfl, hn2, hc2, hb2⟩ := hnew.form (by simp [numB])
    have hsz2 := hb2.size
    have HC2 := hide hc2; have HB2 := hide hb2; have HN2 := hide hn2
    clear hnew hc2 hb2 hn2 HC
    go_wp2_with (at_builtin; refine append_bytes _ rfl _ _ rfl (w.heap.size + 1) (.slice (some ⟨w.heap.size + 1, 0, none⟩) 1 1) [UInt8.ofNat t.sort.toNat] (numB t.num) rfl ((unhide HT0 _).row.stay (unhide HB2)) ⟨g2, 0, none⟩ n2 cap2 rfl (unhide HN2) (unhide HC2) (by simp; omega) (by simp at hsz2; omega) ?_; intro a' n' cap' w3 HN HR HG)
    have hfin := (unhide HT0 _).app (unhide HB2) HN.out HR.out HG.out
    rw [← HE.out] at hfin
    have HF := hide hfin
    clear hfin HN HR HG HT0 HB2
    go_ret
    exact (unhide HF).end
  · have htx := ok_text hok h
    have HE : Hid (treeB t = [UInt8.ofNat t.sort.toNat] ++ shortB t.text) := by show treeB t = _; rw [htb, if_neg (by omega), if_pos h]; rfl
    have h1 : (t.sort == 1) = false := by simp; omega
    have h2 : (t.sort == 2) = true := by simpa using h
    have hnl := shortB_len t.text
    have HC := hide (fun W => l4Short_any t.text W (by omega))
    clear h hso htb hok hks hns 
    go_enter Tryz.func25, Tryz.ntmps25
    go_wp2_with fail
    refine (unhide HC _).mono ?_
    intro e w2 hnew
    obtain ⟨g2, n2, cap2, rfl, hn2, hc2, hb2⟩ := hnew.form (by rw [hnl]; omega)
    have hsz2 := hb2.size
    have HC2 := hide hc2; have HB2 := hide hb2; have HN2 := hide hn2
    clear hnew hc2 hb2 hn2 HC
    go_wp2_with (at_builtin; refine append_bytes _ rfl _ _ rfl (w.heap.size + 1) (.slice (some ⟨w.heap.size + 1, 0, none⟩) 1 1) [UInt8.ofNat t.sort.toNat] (shortB t.text) rfl ((unhide HT0 _).row.stay (unhide HB2)) ⟨g2, 0, none⟩ n2 cap2 rfl (unhide HN2) (unhide HC2) (by simp; omega) (by simp at hsz2; omega) ?_; intro a' n' cap' w3 HN HR HG)
    have hfin := (unhide HT0 _).app (unhide HB2) HN.out HR.out HG.out
    rw [← HE.out] at hfin
    have HF := hide hfin
    clear hfin HN HR HG HT0 HB2
    go_ret
    exact (unhide HF).end
  · have hfl := ok_flag hok h
    have HE : Hid (treeB t = [UInt8.ofNat t.sort.toNat] ++ [UInt8.ofNat t.num.toNat]) := by show treeB t = _; rw [htb, if_neg (by omega), if_neg (by omega), if_pos h]; rfl
    have h1 : (t.sort == 1) = false := by simp; omega
    have h2 : (t.sort == 2) = false := by simp; omega
    have h3 : (t.sort == 3) = true := by simpa using h
    obtain ⟨hf0, hf1⟩ := hfl
    have HK := hide (bcI t.num hf0 (by omega))
    clear h hso htb hok hks hns
    have hbx : ∀ (W : World) o, Below W.heap.size W (W.alloc o) := fun W o => (Below.refl _ _).alloc (Nat.le_refl _) o
    have HBX := hide hbx
    clear hbx
    go_enter Tryz.func25, Tryz.ntmps25
    go_wp2_with (at_builtin; refine append_bytes _ rfl _ _ rfl (w.heap.size + 1) (.slice (some ⟨w.heap.size + 1, 0, none⟩) 1 1) [UInt8.ofNat t.sort.toNat] [UInt8.ofNat t.num.toNat] rfl ((unhide HT0 _).row.stay (unhide HBX _ _)) ⟨w.heap.size + 1 + 1, 0, none⟩ 1 1 rfl rfl (by rw [unhide HK]; have := cell_one ((w.alloc (.cells #[.int .i64 t.sort, .int .i64 t.num, .string t.text, .slice a3 t.names.length cap3, .slice a t.kids.length cap] 26)).alloc (.cells #[.int .u8 t.sort] 5)) (.int .u8 t.num) 5; simpa using this) (by simp) (by simp only [World.size_alloc]; omega) ?_; intro a' n' cap' w3 HN HR HG)
    have hfin := (unhide HT0 _).app (unhide HBX _ _) HN.out HR.out HG.out
    rw [← HE.out] at hfin
    have HF := hide hfin
    clear hfin HN HR HG HT0 HBX
    go_ret
    exact (unhide HF).end
  · have hmany := ok_many hok
    have h1 : (t.sort == 1) = false := by simp; omega
    have h2 : (t.sort == 2) = false := by simp; omega
    have h3 : (t.sort == 3) = false := by simp; omega
    have HE : Hid (treeB t = ([UInt8.ofNat t.sort.toNat] ++ [UInt8.ofNat t.kids.length]) ++ kidsB (decide (t.sort = 5)) t.names t.kids) := by show treeB t = _; rw [htb, if_neg hx1, if_neg hx2, if_neg hx3]; rfl
    have HK := hide (bcN t.kids.length (by omega))
    have hnm := ok_names hok
    have HKID := hide (fun k hk => ok_kid hok k hk)
    have HBD : Hid (∀ k, (hk : k < t.kids.length) → ((([UInt8.ofNat t.sort.toNat] ++ [UInt8.ofNat t.kids.length]) ++ kidsB (decide (t.sort = 5)) t.names (t.kids.take k)) ++ ((if decide (t.sort = 5) then shortB (t.names.getD k ByteArray.empty) else []) ++ treeB t.kids[k])).length ≤ 8520) := fun k hk => by
      have h1 := kidsB_le (decide (t.sort = 5)) t.names t.kids (k + 1)
      have h2 := HLEN.out
      rw [HE.out] at h2
      rw [List.append_assoc, ← kidsB_take _ _ _ _ hk]
      simp only [List.length_append] at h2 ⊢
      omega
    have HTS := hide (fun (k : Tr) (hk : k ∈ t.kids) => tsz_kid hk)
    have HHN := hide hn
    have hbx : ∀ (W : World) o, Below W.heap.size W (W.alloc o) := fun W o => (Below.refl _ _).alloc (Nat.le_refl _) o
    have HBX := hide hbx; have HNM := hide hnm; have HKS := hide hks; have HNS := hide hns; have HI := hide IH
    clear hso htb hok hbx hx1 hx2 hx3 hnm hks hns IH hn
    generalize hd5 : decide (t.sort = 5) = f at *
    have HD5 := hide hd5
    clear hd5
    have hf5 : (t.sort == 5) = f := by rw [← unhide HD5]; rfl
    go_enter Tryz.func25, Tryz.ntmps25
    go_wp2_with (at_builtin; refine append_bytes _ rfl _ _ rfl (w.heap.size + 1) (.slice (some ⟨w.heap.size + 1, 0, none⟩) 1 1) [UInt8.ofNat t.sort.toNat] [UInt8.ofNat t.kids.length] rfl ((unhide HT0 _).row.stay (unhide HBX _ _)) ⟨w.heap.size + 1 + 1, 0, none⟩ 1 1 rfl rfl (by rw [unhide HK]; have := cell_one ((w.alloc (.cells #[.int .i64 t.sort, .int .i64 t.num, .string t.text, .slice a3 t.names.length cap3, .slice a t.kids.length cap] 26)).alloc (.cells #[.int .u8 t.sort] 5)) (.int .u8 t.kids.length) 5; simpa using this) (by simp) (by simp only [World.size_alloc]; omega) ?_; intro a' n' cap' w3 HN HR HG)
    have hst := (unhide HT0 _).app (unhide HBX _ _) HN.out HR.out HG.out
    have HST := hide hst
    clear hst HN HR HG HT0 HK
    go_loopw [3, 4] (fun o i wr => ∃ (k : Nat) (ar : Option Addr) (len cp : Nat), k ≤ t.kids.length ∧ i = .int .i64 k ∧ o = .slice ar len cp ∧ Hid (TAt w (.cells #[.int .i64 t.sort, .int .i64 t.num, .string t.text, .slice a3 t.names.length cap3, .slice a t.kids.length cap] 26) wr (.slice ar len cp) len (([UInt8.ofNat t.sort.toNat] ++ [UInt8.ofNat t.kids.length]) ++ kidsB f t.names (t.kids.take k)))) (fun _ i _ => t.kids.length - (intOf i).toNat)
    case atStart => exact ⟨0, _, _, _, Nat.zero_le _, rfl, rfl, by rw [List.take_zero, kidsB, List.append_nil]; exact HST⟩
    case round =>
      clear HST
      obtain ⟨k, ar, len, cp, hk, rfl, rfl, HA⟩ := hrel
      have hbxr := (row5_alloc w (.int .i64 t.sort) (.int .i64 t.num) (.string t.text) (.slice a3 t.names.length cap3) (.slice a t.kids.length cap) 26).of_block (HA.out.below.block _ (by omega))
      have k0 := hbxr.cell (i := 0) (by omega); have k3 := hbxr.cell (i := 3) (by omega); have k4 := hbxr.cell (i := 4) (by omega)
      simp only [row5] at k0 k3 k4
      clear hbxr
      by_cases hlt : k < t.kids.length
      · obtain ⟨b, o, c, rfl, hpb, hcell, hrepk⟩ := unhide HKS k hlt
        have HC5 := hide (fun (W : World) (hW : Below w.heap.size w W) => hcell.carry (hW.block b (unhide HP b hpb)))
        have hsm : tsz t.kids[k] < n := by have := unhide HTS t.kids[k] (List.getElem_mem hlt); have := unhide HHN; omega
        have HCALL := hide (fun (W : World) (hW : Below w.heap.size w W) => unhide HI t.kids[k] hsm P c (d + 1) W (fun b hb => Nat.lt_of_lt_of_le (unhide HP b hb) hW.size) (Rep.carry (fun b hb => hW.block b (unhide HP b hb)) (fun _ h => h) _ _ hrepk) (unhide HKID k hlt))
        have hbd := unhide HBD k hlt
        have hnext := kidsB_take f t.names t.kids k hlt
        obtain ⟨c0, c1, c2, c3, c4⟩ := c
        clear hpb hcell hrepk hsm
        cases f with
        | false =>
          have HLB : Hid ((([UInt8.ofNat t.sort.toNat] ++ [UInt8.ofNat t.kids.length]) ++ kidsB false t.names (t.kids.take k)).length + (treeB t.kids[k]).length ≤ 8520) := by
            simp only [Bool.false_eq_true, if_false, List.nil_append] at hbd
            rw [List.length_append] at hbd
            exact hbd
          have HNEXT : Hid ((([UInt8.ofNat t.sort.toNat] ++ [UInt8.ofNat t.kids.length]) ++ kidsB false t.names (t.kids.take k)) ++ treeB t.kids[k] = ([UInt8.ofNat t.sort.toNat] ++ [UInt8.ofNat t.kids.length]) ++ kidsB false t.names (t.kids.take (k + 1))) := by
            show _ = _
            rw [hnext]; simp
          obtain ⟨e0, e1, e2, e3, e4⟩ := unhide HC5 wr HA.out.old
          simp only at e0 e1 e2 e3 e4
          clear hbd hnext HC5
          go_wp2_with fail
          refine (unhide HCALL wr (HA.out).old).mono ?_
          intro e w6 hnew6
          obtain ⟨g6, n6, cap6, rfl, hn6, hc6, hb6⟩ := hnew6.form (by rw [treeB_eq]; simp)
          have hsz6 := hb6.size
          have HC6 := hide hc6; have HB6 := hide hb6; have HN6 := hide hn6; have HBS := hide (Nat.le_trans (HA.out).size hsz6)
          clear hnew6 hc6 hb6 hn6 hsz6
          go_wp2_with (at_builtin; refine append_bytes _ rfl _ _ rfl (w.heap.size + 1) (.slice ar len cp) (([UInt8.ofNat t.sort.toNat] ++ [UInt8.ofNat t.kids.length]) ++ kidsB false t.names (t.kids.take k)) (treeB t.kids[k]) rfl ((HA.out).row.stay (unhide HB6)) ⟨g6, 0, none⟩ n6 cap6 rfl (unhide HN6) (unhide HC6) (Nat.le_trans (unhide HLB) (by decide)) (unhide HBS) ?_; intro a7 n7 cap7 w7 HN7 HR7 HG7)
          have hst7 := (HA.out).app (unhide HB6) HN7.out HR7.out HG7.out
          rw [unhide HNEXT] at hst7
          have HST7 := hide hst7
          clear hst7 HN7 HR7 HG7 HB6 HN6 HC6 HBS
          go_roundw
          case rel => exact ⟨k + 1, a7, n7, cap7, by omega, by go_num, rfl, HST7⟩
          case measure => simp [intOf]; omega
        | true =>
          obtain ⟨hnl, hn8⟩ := unhide HNM (by simpa using unhide HD5)
          have hkn : k < t.names.length := by omega
          obtain ⟨b', o', rfl, hpb', hcell', -⟩ := unhide HNS k hkn
          have ec : wr.cell? ⟨b', o' + k, none⟩ = some (.string t.names[k]) := by rw [World.cell?_of_block (w := w) (HA.out.old.block b' (unhide HP b' hpb'))]; exact hcell'
          have h8 := hn8 _ (List.getElem_mem hkn)
          have hgd := getD_lt t.names k hkn
          rw [hgd] at hbd hnext
          have HSH := hide (fun W => l4Short_any t.names[k] W (by omega))
          have HLA : Hid ((([UInt8.ofNat t.sort.toNat] ++ [UInt8.ofNat t.kids.length]) ++ kidsB true t.names (t.kids.take k)).length + (shortB t.names[k]).length ≤ 8520) := by
            simp only [if_true, List.length_append] at hbd ⊢
            show _ ≤ _
            omega
          have HLB : Hid (((([UInt8.ofNat t.sort.toNat] ++ [UInt8.ofNat t.kids.length]) ++ kidsB true t.names (t.kids.take k)) ++ shortB t.names[k]).length + (treeB t.kids[k]).length ≤ 8520) := by
            simp only [if_true, List.length_append] at hbd ⊢
            show _ ≤ _
            omega
          have HNEXT : Hid (((([UInt8.ofNat t.sort.toNat] ++ [UInt8.ofNat t.kids.length]) ++ kidsB true t.names (t.kids.take k)) ++ shortB t.names[k]) ++ treeB t.kids[k] = ([UInt8.ofNat t.sort.toNat] ++ [UInt8.ofNat t.kids.length]) ++ kidsB true t.names (t.kids.take (k + 1))) := by
            show _ = _
            rw [hnext]; simp
          have hsl := shortB_len t.names[k]
          have HSL := hide hsl
          clear hbd hnext hgd h8 hn8 hcell' hpb' hsl hnl
          go_wp2_with fail
          refine (unhide HSH _).mono ?_
          intro e w2 hnew
          obtain ⟨g2, n2, cap2, rfl, hn2, hc2, hb2⟩ := hnew.form (by rw [unhide HSL]; omega)
          have HC2 := hide hc2; have HB2 := hide hb2; have HN2 := hide hn2; have HBS := hide (Nat.le_trans HA.out.size hb2.size)
          clear hnew hc2 hb2 hn2 HSH
          go_wp2_with (at_builtin; refine append_bytes _ rfl _ _ rfl (w.heap.size + 1) (.slice ar len cp) (([UInt8.ofNat t.sort.toNat] ++ [UInt8.ofNat t.kids.length]) ++ kidsB true t.names (t.kids.take k)) (shortB t.names[k]) rfl (HA.out.row.stay (unhide HB2)) ⟨g2, 0, none⟩ n2 cap2 rfl (unhide HN2) (unhide HC2) (Nat.le_trans (unhide HLA) (by decide)) (unhide HBS) ?_; intro a4 n4 cap4 w4 HN4 HR4 HG4
                       have hst4 := HA.out.app (unhide HB2) HN4.out HR4.out HG4.out
                       have hbx4 := (row5_alloc w (.int .i64 t.sort) (.int .i64 t.num) (.string t.text) (.slice (some ⟨b', o', none⟩) t.names.length cap3) (.slice (some ⟨b, o, none⟩) t.kids.length cap) 26).of_block (hst4.below.block _ (by omega))
                       have m4 := hbx4.cell (i := 4) (by omega)
                       simp only [row5] at m4
                       obtain ⟨e0, e1, e2, e3, e4⟩ := unhide HC5 w4 hst4.old
                       simp only at e0 e1 e2 e3 e4
                       have HST4 := hide hst4
                       clear hst4 hbx4 HN4 HR4 HG4 HB2 HN2 HC2 HBS)
          refine (unhide HCALL w4 (unhide HST4).old).mono ?_
          intro e w6 hnew6
          obtain ⟨g6, n6, cap6, rfl, hn6, hc6, hb6⟩ := hnew6.form (by rw [treeB_eq]; simp)
          have hsz6 := hb6.size
          have HC6 := hide hc6; have HB6 := hide hb6; have HN6 := hide hn6; have HBS := hide (Nat.le_trans (unhide HST4).size hsz6)
          clear hnew6 hc6 hb6 hn6 hsz6
          go_wp2_with (at_builtin; refine append_bytes _ rfl _ _ rfl (w.heap.size + 1) (.slice a4 n4 cap4) ((([UInt8.ofNat t.sort.toNat] ++ [UInt8.ofNat t.kids.length]) ++ kidsB true t.names (t.kids.take k)) ++ shortB t.names[k]) (treeB t.kids[k]) rfl ((unhide HST4).row.stay (unhide HB6)) ⟨g6, 0, none⟩ n6 cap6 rfl (unhide HN6) (unhide HC6) (Nat.le_trans (unhide HLB) (by decide)) (unhide HBS) ?_; intro a7 n7 cap7 w7 HN7 HR7 HG7)
          have hst7 := (unhide HST4).app (unhide HB6) HN7.out HR7.out HG7.out
          rw [unhide HNEXT] at hst7
          have HST7 := hide hst7
          clear hst7 HN7 HR7 HG7 HB6 HN6 HC6 HBS
          go_roundw
          case rel => exact ⟨k + 1, a7, n7, cap7, by omega, by go_num, rfl, HST7⟩
          case measure => simp [intOf]; omega
      · go_wp2_with fail
        go_ret
        have hfin := HA.out
        rw [List.take_of_length_le (by omega), ← HE.out] at hfin
        exact hfin.end
end Go.Proofs.YtbkagahmiibclaaGreatDoor
