/- Rows of bytes of a call's own, and appends onto them. No program walked, no conditions. -/
import Derived.Test.YtiflfcjocngiiaaGreatDoorPart01
import Derived.Test.YtiflfcjocngiiaaGreatDoorRows
import Derived.Lib.AppendStr
import Derived.Laws.IdiomStrings
import Derived.Deep.AppendLies
import Derived.Test.YtiflfcjocngiiaaGreatDoorPart00
import Derived.Deep.RegionWith
import Derived.Deep.OwnRows
namespace Go.Proofs.YtiflfcjocngiiaaGreatDoor
open Go Go.RowKit

/-- Bytes as cells. -/
def bc (l : List UInt8) : List Value := l.map fun b => Value.int .u8 b.toNat
theorem bc_append (a b : List UInt8) : bc (a ++ b) = bc a ++ bc b := List.map_append
theorem bc_str (s : ByteArray) : Lib.strCells s = bc s.data.toList := rfl
theorem bc_len (l : List UInt8) : (bc l).length = l.length := List.length_map _

/-- A row of bytes of the call's own. -/
def ByRow (base : Nat) (w : World) (v : Value) (l : List UInt8) : Prop := w.ownsRow base 5 1 v l.length (bc l)

theorem infoU8 : (Tryz.prog.info? 5).map (fun i => (i.zero, i.size, i.bytes)) = some (some (.int .u8 0), 1, 1) := by kernel_rfl

theorem ByRow.slice {base : Nat} {w : World} {v : Value} {l : List UInt8} (h : ByRow base w v l) : ∃ a cap, v = .slice a l.length cap := by
  rcases h.2 with ⟨hv, h0⟩ | ⟨g, cap, cur, hv, _⟩
  · exact ⟨none, 0, by rw [hv, h0]⟩
  · exact ⟨_, cap, hv⟩

theorem ByRow.below {base : Nat} {w w' : World} {v : Value} {l : List UInt8} (h : ByRow base w v l) (hg : w.grownBy w' v.ownBlock) (hb : base ≤ w.heap.size) : Below base w w' :=
  (Below.refl base w).grown hg hb (fun k e => (h.lt k e).1)

theorem ByRow.str {base : Nat} {w : World} {v : Value} {l : List UInt8} (h : ByRow base w v l) : (convert 31 9 v).run Tryz.prog w = .ok (.string ⟨l.toArray⟩) w := by
  rcases h.2 with ⟨hv, h0⟩ | ⟨g, cap, cur, hv, hgb, hh, hle, hm2, hsz, htk⟩
  · have hl : l = [] := List.eq_nil_of_length_eq_zero h0
    subst hl hv
    rw [run_convert_bytes_string w 31 9 5 none 0 0 Tryz.underlying31 Tryz.underlying5 Tryz.underlying9]
    rfl
  · subst hv
    refine run_convert_bytes_back w 31 9 5 ⟨g, 0, none⟩ cap l Tryz.underlying31 Tryz.underlying5 Tryz.underlying9 (fun j hj => ?_)
    have h1 : (bc l)[j]? = some (.int .u8 (l[j].toNat : Int)) := by simp [bc, hj]
    exact h.cells (g := g) rfl j _ h1

theorem ByRow.form {base : Nat} {w : World} {v : Value} {l : List UInt8} (h : ByRow base w v l) (hl : 0 < l.length) : ∃ g cap, v = .slice (some ⟨g, 0, none⟩) l.length cap ∧ base ≤ g ∧ g < w.heap.size ∧ ∀ j u, (bc l)[j]? = some u → w.cell? ((⟨g, 0, none⟩ : Addr).add j) = some u := by
  rcases h.2 with ⟨hv, h0⟩ | ⟨g, cap, cur, hv, hb, _⟩
  · omega
  · exact ⟨g, cap, hv, hb, (h.lt g (by rw [hv]; rfl)).2, fun j u hj => h.cells (g := g) (by rw [hv]; rfl) j u hj⟩

/-- append onto a row of bytes, what is appended lying behind an address. -/
theorem append_bytes (w : World) {ops : Array Oper} {rest : List Oper} {o : Oper} {a : Act} {Q : Exit → Act → World → Prop}
    (hg : o.guard = none) (s x : Operand) (hop : o.op = Op.call { callee := Callee.builtin Builtin.append, args := #[s, x], argTypes := #[31, 31] })
    (base : Nat) (v : Value) (l news : List UInt8) (hs : a.eval s = v) (hown : ByRow base w v l)
    (ad : Addr) (m c : Nat) (hx : a.eval x = .slice (some ad) m c) (hm : m = news.length) (hc : ∀ j u, (bc news)[j]? = some u → w.cell? (ad.add j) = some u)
    (hlen : l.length + news.length ≤ 1099511627776) (hbase : base ≤ w.heap.size)
    (hK : ∀ a' n' cap' w', Hid (n' = (l ++ news).length) → Hid (ByRow base w' (.slice a' n' cap') (l ++ news)) → Hid (w.grownBy w' v.ownBlock) → wpList Tryz.prog ops Q rest (a.put o.dst (.slice a' n' cap')) w') :
    wpList Tryz.prog ops Q (o :: rest) a w := by
  obtain ⟨i0, hi, hz0, hz1, hz2⟩ := info_parts infoU8
  subst hm
  refine wpList_append_own w hg s x 31 hop base 5 i0 (.int .u8 0) 1 1 Tryz.underlying31 hi hz0 hz1 hz2 rfl (by decide) v l.length (bc l) hs hown ad news.length c (bc news) hx (by rw [bc_len, Nat.mul_one]) hc (fun u hu => ?_) (by unfold maxLen; omega) (by omega) hbase (fun v' w' r1 r2 _ => ?_)
  · obtain ⟨_, _, rfl⟩ := List.mem_map.1 hu
    rfl
  · have hr : ByRow base w' v' (l ++ news) := by
      show w'.ownsRow base 5 1 v' (l ++ news).length (bc (l ++ news))
      rw [bc_append, List.length_append]; exact r1
    obtain ⟨a', cap', rfl⟩ := hr.slice
    exact hK a' _ cap' w' rfl hr r2

/-- The same in a region that draws its order. -/
theorem step_append_bytes (w : World) {ops : Array Oper} {o : Oper} {a : Act} {K : Act → World → Prop} {Q : Exit → Act → World → Prop} {E : Prop}
    (hg : o.guard = none) (s x : Operand) (hop : o.op = Op.call { callee := Callee.builtin Builtin.append, args := #[s, x], argTypes := #[31, 31] })
    (base : Nat) (v : Value) (l news : List UInt8) (hs : a.eval s = v) (hown : ByRow base w v l)
    (ad : Addr) (m c : Nat) (hx : a.eval x = .slice (some ad) m c) (hm : m = news.length) (hpos : 0 < m) (hc : ∀ j u, (bc news)[j]? = some u → w.cell? (ad.add j) = some u)
    (hlen : l.length + news.length ≤ 1099511627776) (hbase : base ≤ w.heap.size)
    (hK : ∀ a' n' cap' w', Hid (n' = (l ++ news).length) → Hid (ByRow base w' (.slice a' n' cap') (l ++ news)) → Hid (w.grownBy w' v.ownBlock) → K (a.put o.dst (.slice a' n' cap')) w') :
    if Region.wanted o (yielded ops a.tmps) = true then Oper.wp Tryz.prog o a w K Q else E := by
  obtain ⟨i0, hi, hz0, hz1, hz2⟩ := info_parts infoU8
  subst hm
  refine step_append_lies w hg s x 31 hop base 5 i0 (.int .u8 0) 1 1 Tryz.underlying31 hi hz0 hz1 hz2 rfl (by decide) v l.length (bc l) hs hown ad news.length c (bc news) hx (by rw [bc_len, Nat.mul_one]) hc (fun u hu => ?_) hpos (by unfold maxLen; omega) (by omega) hbase _ rfl (fun g cap w' r1 r2 _ _ => ?_)
  · obtain ⟨_, _, rfl⟩ := List.mem_map.1 hu
    rfl
  · refine hK _ _ _ w' (by show _ = _; rw [List.length_append]) ?_ r2
    show w'.ownsRow base 5 1 _ (l ++ news).length (bc (l ++ news))
    rw [bc_append, List.length_append]; exact r1

/-- append of a string's bytes onto a row of bytes. -/
theorem append_string (w : World) {ops : Array Oper} {rest : List Oper} {o : Oper} {a : Act} {Q : Exit → Act → World → Prop}
    (hg : o.guard = none) (s x : Operand) (hop : o.op = Op.call { callee := Callee.builtin Builtin.append, args := #[s, x], argTypes := #[31, 9] })
    (base : Nat) (v : Value) (l : List UInt8) (tx : ByteArray) (hs : a.eval s = v) (hown : ByRow base w v l) (hx : a.eval x = .string tx)
    (hlen : l.length + tx.size ≤ 1099511627776) (hbase : base ≤ w.heap.size)
    (hK : ∀ a' n' cap' w', Hid (n' = (l ++ tx.data.toList).length) → Hid (ByRow base w' (.slice a' n' cap') (l ++ tx.data.toList)) → Hid (w.grownBy w' v.ownBlock) → wpList Tryz.prog ops Q rest (a.put o.dst (.slice a' n' cap')) w') :
    wpList Tryz.prog ops Q (o :: rest) a w := by
  obtain ⟨i0, hi, hz0, hz1, hz2⟩ := info_parts infoU8
  have hsz : tx.data.toList.length = tx.size := by simp
  refine Lib.wpList_append_own_string w hg s x 31 9 hop base 5 i0 Tryz.underlying31 Tryz.underlying9 hi hz0 hz1 hz2 v l.length (bc l) hs hown tx hx (by unfold maxLen; omega) (by omega) hbase (fun v' w' r1 r2 _ => ?_)
  have hr : ByRow base w' v' (l ++ tx.data.toList) := by
    show w'.ownsRow base 5 1 v' (l ++ tx.data.toList).length (bc (l ++ tx.data.toList))
    rw [bc_append, List.length_append, hsz, ← bc_str]; exact r1
  obtain ⟨a', cap', rfl⟩ := hr.slice
  exact hK a' _ cap' w' rfl hr r2

/-- One byte that was just built as a slice. -/
theorem byte_one (w : World) (x : UInt8) (t : TypeId) : ∀ j u, (bc [x])[j]? = some u → (w.alloc (.cells #[.int .u8 x.toNat] t)).cell? ((⟨w.heap.size, 0, none⟩ : Addr).add j) = some u := cell_one w _ t

theorem ByRow.fresh (w : World) (x : UInt8) : ByRow w.heap.size (w.alloc (.cells #[.int .u8 x.toNat] 5)) (.slice (some ⟨w.heap.size, 0, none⟩) 1 1) [x] := by
  refine ⟨rfl, Or.inr ⟨w.heap.size, 1, #[.int .u8 x.toNat], rfl, Nat.le_refl _, ?_, Nat.le_refl _, by decide, rfl, rfl⟩⟩
  show (w.heap.push _)[w.heap.size]? = _
  simp

theorem ByRow.base {base base' : Nat} {w : World} {v : Value} {l : List UInt8} (h : ByRow base w v l) (hb : base' ≤ base) : ByRow base' w v l := ownsRow_base h hb

/-- What '[]byte(s)' gives. -/
theorem bytes_of (w : World) (s : ByteArray) : ∃ cap W, (convert 9 31 (.string s)).run Tryz.prog w = .ok (.slice (some ⟨w.heap.size, 0, none⟩) s.size cap) W ∧ w.grownBy W none ∧ w.heap.size < W.heap.size ∧ ∀ j u, (bc s.data.toList)[j]? = some u → W.cell? ((⟨w.heap.size, 0, none⟩ : Addr).add j) = some u := by
  refine ⟨_, _, run_bytes_of_string w 9 31 5 s Tryz.underlying9 Tryz.underlying31 Tryz.underlying5, ?_, ?_, fun j u hj => ?_⟩
  · have h1 : w.grownBy w.drew none := ⟨rfl, rfl, rfl, Nat.le_refl _, fun _ _ _ => rfl⟩
    have h2 := World.grownBy_alloc w.drew (.cells (bytesRow s (grownCap w s.size 0 5)) 5 ((bytesRow s (grownCap w s.size 0 5)).size, (bytesRow s (grownCap w s.size 0 5)).size + 1)) none
    exact ⟨h2.os.trans h1.os, h2.tape.trans h1.tape, h2.output.trans h1.output, Nat.le_trans h1.size h2.size, fun i hi hne => (h2.block i (Nat.lt_of_lt_of_le hi h1.size) hne).trans (h1.block i hi hne)⟩
  · rw [World.size_alloc]; exact Nat.lt_succ_self _
  · have hj' : j < s.data.size := by
      have := (List.getElem?_eq_some_iff.1 hj).1
      simpa [bc] using this
    rw [Addr.add_lit]
    have hu : u = .int .u8 s.data[j].toNat := by
      simp [bc] at hj
      obtain ⟨a, ha, rfl⟩ := hj
      rw [Array.getElem?_eq_getElem hj'] at ha
      rw [Option.some.inj ha]
    subst hu
    show (w.drew.alloc _).cell? ⟨w.heap.size, 0 + j, none⟩ = _
    rw [Nat.zero_add]
    have hb : (w.drew.alloc (.cells (bytesRow s (grownCap w s.size 0 5)) 5 ((bytesRow s (grownCap w s.size 0 5)).size, (bytesRow s (grownCap w s.size 0 5)).size + 1))).heap[w.heap.size]? = some (.cells (bytesRow s (grownCap w s.size 0 5)) 5 ((bytesRow s (grownCap w s.size 0 5)).size, (bytesRow s (grownCap w s.size 0 5)).size + 1)) := by
      show (w.heap.push _)[w.heap.size]? = _
      simp
    simp only [World.cell?, hb]
    have hj2 : j < s.size := hj'
    simp [bytesRow, Array.getElem?_append, hj2]

theorem ByRow.own {base : Nat} {w : World} {v : Value} {l : List UInt8} (h : ByRow base w v l) : ∀ g, v.ownBlock = some g → base ≤ g ∧ g < w.heap.size := fun g e => World.ownsRow.lt h g e
end Go.Proofs.YtiflfcjocngiiaaGreatDoor

/- The walks of the specification's l4Short, l4Num: what they answer lies in new memory. Conditions: the text has at most 255 bytes, the number at most nine digits. -/

namespace Go.Proofs.YtiflfcjocngiiaaGreatDoor
open Go Go.RowKit

/-- What is told of an answer that is a row of bytes: it lies in new memory, and nothing that was there has turned. -/
def ByNew (w w' : World) (e : Ending) (l : List UInt8) : Prop := ∃ a n cap, e = .returned (.slice a n cap) ∧ n = l.length ∧ ByRow w.heap.size w' (.slice a n cap) l ∧ Below w.heap.size w w'

theorem u8_nat (n : Nat) (h : n < 256) : (UInt8.ofNat n).toNat = n := by simp; omega

set_option maxRecDepth 100000 in
set_option maxHeartbeats 800000 in
theorem l4Short_any (s : ByteArray) (w : World) (hs : s.size ≤ 255) :
    Calls Tryz.prog 44 #[.string s] w fun e w' => ByNew w w' e (shortB s) := by
  have hu : (UInt8.ofNat s.size).toNat = s.size := u8_nat _ (by omega)
  obtain ⟨cap, W, hrun, hgrow, hlt, hcell⟩ := bytes_of (w.alloc (.cells #[.int .u8 s.size] 5)) s
  have hsz : s.data.toList.length = s.size := by simp
  rw [World.size_alloc] at hrun hcell hlt
  have hrow : ByRow w.heap.size W (.slice (some ⟨w.heap.size, 0, none⟩) 1 1) [UInt8.ofNat s.size] := by
    have := ByRow.fresh w (UInt8.ofNat s.size)
    rw [hu] at this
    exact World.ownsRow.kept this hgrow (by simp [Value.ownBlock])
  have hbl : Below w.heap.size w W := ((Below.refl _ _).alloc (Nat.le_refl _) _).grown hgrow (by simp) (by simp)
  have HROW := hide hrow; have HBL := hide hbl; have HCELL := hide hcell; have HSZ := hide hsz; have HU := hide hu
  clear hrow hbl hcell hsz hu hgrow
  go_enter Tryz.func44, Tryz.ntmps44
  go_wp2_with (at_builtin; refine append_bytes _ rfl _ _ rfl w.heap.size (.slice (some ⟨w.heap.size, 0, none⟩) 1 1) [UInt8.ofNat s.size] s.data.toList rfl (unhide HROW) ⟨w.heap.size + 1, 0, none⟩ s.size cap rfl (unhide HSZ).symm (unhide HCELL) (by rw [unhide HSZ]; simp; omega) (unhide HBL).size ?_; intro a' n' cap' w2 HN HR HG)
  have hbl2 := (unhide HBL).trans (ByRow.below (unhide HROW) (unhide HG) (unhide HBL).size)
  go_ret
  exact ⟨a', n', cap', rfl, HN.out, HR.out, hbl2⟩

theorem numB_len {n : Int} (h : n.natAbs ≤ 999999999) : (numB n).length ≤ 6 := by
  have := sevB_len h
  simp [numB]; omega

/-- The loop of l4Num holds. -/
structure NumPk (w wr : World) (n : Int) (m : Nat) (v : Value) (len : Nat) (l : List UInt8) : Prop where
  row : ByRow w.heap.size wr v l
  below : Below w.heap.size w wr
  len : len = l.length
  goal : l ++ sevB m = numB n

theorem NumPk.short {w wr : World} {n : Int} {m : Nat} {v : Value} {len : Nat} {l : List UInt8} (h : NumPk w wr n m v len l) (hn : n.natAbs ≤ 999999999) : l.length ≤ 6 := by
  have := numB_len hn
  rw [← h.goal, List.length_append] at this
  omega

theorem bcN (k : Nat) (h : k < 256) : bc [UInt8.ofNat k] = [.int .u8 (k : Int)] := by simp [bc]; omega

set_option maxRecDepth 100000 in
set_option maxHeartbeats 1600000 in
theorem l4Num_any (n : Int) (w : World) (hn : n.natAbs ≤ 999999999) :
    Calls Tryz.prog 53 #[.int .i64 n] w fun e w' => ByNew w w' e (numB n) := by
  have hI : -999999999 ≤ n ∧ n ≤ 999999999 := by omega
  obtain ⟨hI1, hI2⟩ := hI
  have hb0 : ∀ o, Below w.heap.size w (w.alloc o) := fun o => (Below.refl _ _).alloc (Nat.le_refl _) o
  have H0 : Hid (0 ≤ n → NumPk w (w.alloc (.cells #[.int .u8 0] 5)) n n.natAbs (.slice (some ⟨w.heap.size, 0, none⟩) 1 1) 1 [0]) := fun h =>
    ⟨ByRow.fresh w 0, hb0 _, rfl, by simp [numB]; omega⟩
  have H1 : Hid (n < 0 → NumPk w (w.alloc (.cells #[.int .u8 1] 5)) n n.natAbs (.slice (some ⟨w.heap.size, 0, none⟩) 1 1) 1 [1]) := fun h =>
    ⟨ByRow.fresh w 1, hb0 _, rfl, by simp [numB, h]⟩
  have HN := hide hn
  clear hb0
  by_cases hneg : n < 0
  · have HA := hide (unhide H1 hneg)
    have hab : -n = (n.natAbs : Int) := by omega
    clear H0 H1
    go_enter Tryz.func53, Tryz.ntmps53
    go_wp2_with fail
    go_loopw [0, 3] (fun i o wr => ∃ (m : Nat) (a : Option Addr) (len cap : Nat) (l : List UInt8), i = .int .i64 m ∧ o = .slice a len cap ∧ m ≤ 999999999 ∧ Hid (NumPk w wr n m (.slice a len cap) len l)) (fun i _ _ => (intOf i).toNat)
    case atStart => exact ⟨n.natAbs, _, _, _, _, rfl, rfl, hn, HA⟩
    case round =>
      clear HA
      obtain ⟨m, a, len, cap, l, rfl, rfl, hm, HA⟩ := hrel
      have hl6 := HA.out.short (unhide HN)
      have hsz := HA.out.below.size
      by_cases h127 : 127 < m
      · have hk : 128 + m % 128 < 256 := by omega
        have HK := hide (bcN _ hk)
        have hcast : ((128 + m % 128 : Nat) : Int) = 128 + (m : Int) % 128 := by omega
        rw [hcast] at HK
        have HC := hide hcast
        clear hcast
        go_wp2_with (at_builtin; refine append_bytes _ rfl _ _ rfl w.heap.size (.slice a len cap) l [UInt8.ofNat (128 + m % 128)] rfl (World.ownsRow.alloc HA.out.row _) ⟨wr.heap.size, 0, none⟩ 1 1 rfl rfl (by rw [unhide HK]; exact cell_one _ _ _) (by simp; omega) (by simp; omega) ?_; intro a' n' cap' w2 HN2 HR HG)
        have hbl := HA.out.below.trans (((Below.refl _ wr).alloc hsz (.cells #[.int .u8 (128 + (m : Int) % 128)] 5)).trans (ByRow.below (World.ownsRow.alloc HA.out.row (.cells #[.int .u8 (128 + (m : Int) % 128)] 5)) HG.out (by simp; omega)))
        have HAN : Hid (NumPk w w2 n (m / 128) (.slice a' n' cap') n' (l ++ [UInt8.ofNat (128 + m % 128)])) := ⟨HR.out, hbl, HN2.out, by have := HA.out.goal; rw [sevB_more h127] at this; simpa using this⟩
        clear hbl HG HR HN2
        go_wp2_with fail
        go_roundw
        case rel => exact ⟨m / 128, a', n', cap', _, by go_num, rfl, by omega, HAN⟩
        case measure => simp [intOf]; omega
      · have hk : m < 256 := by omega
        have HK := hide (bcN _ hk)
        go_wp2_with (at_builtin; refine append_bytes _ rfl _ _ rfl w.heap.size (.slice a len cap) l [UInt8.ofNat m] rfl (World.ownsRow.alloc HA.out.row _) ⟨wr.heap.size, 0, none⟩ 1 1 rfl rfl (by rw [unhide HK]; exact cell_one _ _ _) (by simp; omega) (by simp; omega) ?_; intro a' n' cap' w2 HN2 HR HG)
        have hbl := HA.out.below.trans (((Below.refl _ wr).alloc hsz (.cells #[.int .u8 (m : Int)] 5)).trans (ByRow.below (World.ownsRow.alloc HA.out.row (.cells #[.int .u8 (m : Int)] 5)) HG.out (by simp; omega)))
        have hgoal : l ++ [UInt8.ofNat m] = numB n := by have := HA.out.goal; rw [sevB_last h127] at this; exact this
        rw [hgoal] at HR HN2
        have HBL := hide hbl
        clear hbl HG
        go_ret
        exact ⟨a', n', cap', rfl, HN2.out, HR.out, unhide HBL⟩
  · have HA := hide (unhide H0 (by omega))
    have hab : n = (n.natAbs : Int) := by omega
    have HAB := hide hab
    clear H0 H1 hab
    go_enter Tryz.func53, Tryz.ntmps53
    go_wp2_with fail
    go_loopw [0, 3] (fun i o wr => ∃ (m : Nat) (a : Option Addr) (len cap : Nat) (l : List UInt8), i = .int .i64 m ∧ o = .slice a len cap ∧ m ≤ 999999999 ∧ Hid (NumPk w wr n m (.slice a len cap) len l)) (fun i _ _ => (intOf i).toNat)
    case atStart => exact ⟨n.natAbs, _, _, _, _, by rw [← unhide HAB], rfl, hn, HA⟩
    case round =>
      clear HA
      obtain ⟨m, a, len, cap, l, rfl, rfl, hm, HA⟩ := hrel
      have hl6 := HA.out.short (unhide HN)
      have hsz := HA.out.below.size
      by_cases h127 : 127 < m
      · have hk : 128 + m % 128 < 256 := by omega
        have HK := hide (bcN _ hk)
        have hcast : ((128 + m % 128 : Nat) : Int) = 128 + (m : Int) % 128 := by omega
        rw [hcast] at HK
        have HC := hide hcast
        clear hcast
        go_wp2_with (at_builtin; refine append_bytes _ rfl _ _ rfl w.heap.size (.slice a len cap) l [UInt8.ofNat (128 + m % 128)] rfl (World.ownsRow.alloc HA.out.row _) ⟨wr.heap.size, 0, none⟩ 1 1 rfl rfl (by rw [unhide HK]; exact cell_one _ _ _) (by simp; omega) (by simp; omega) ?_; intro a' n' cap' w2 HN2 HR HG)
        have hbl := HA.out.below.trans (((Below.refl _ wr).alloc hsz (.cells #[.int .u8 (128 + (m : Int) % 128)] 5)).trans (ByRow.below (World.ownsRow.alloc HA.out.row (.cells #[.int .u8 (128 + (m : Int) % 128)] 5)) HG.out (by simp; omega)))
        have HAN : Hid (NumPk w w2 n (m / 128) (.slice a' n' cap') n' (l ++ [UInt8.ofNat (128 + m % 128)])) := ⟨HR.out, hbl, HN2.out, by have := HA.out.goal; rw [sevB_more h127] at this; simpa using this⟩
        clear hbl HG HR HN2
        go_wp2_with fail
        go_roundw
        case rel => exact ⟨m / 128, a', n', cap', _, by go_num, rfl, by omega, HAN⟩
        case measure => simp [intOf]; omega
      · have hk : m < 256 := by omega
        have HK := hide (bcN _ hk)
        go_wp2_with (at_builtin; refine append_bytes _ rfl _ _ rfl w.heap.size (.slice a len cap) l [UInt8.ofNat m] rfl (World.ownsRow.alloc HA.out.row _) ⟨wr.heap.size, 0, none⟩ 1 1 rfl rfl (by rw [unhide HK]; exact cell_one _ _ _) (by simp; omega) (by simp; omega) ?_; intro a' n' cap' w2 HN2 HR HG)
        have hbl := HA.out.below.trans (((Below.refl _ wr).alloc hsz (.cells #[.int .u8 (m : Int)] 5)).trans (ByRow.below (World.ownsRow.alloc HA.out.row (.cells #[.int .u8 (m : Int)] 5)) HG.out (by simp; omega)))
        have hgoal : l ++ [UInt8.ofNat m] = numB n := by have := HA.out.goal; rw [sevB_last h127] at this; exact this
        rw [hgoal] at HR HN2
        have HBL := hide hbl
        clear hbl HG
        go_ret
        exact ⟨a', n', cap', rfl, HN2.out, HR.out, unhide HBL⟩
end Go.Proofs.YtiflfcjocngiiaaGreatDoor

/- Small laws of lists of strings, of a cell that is set. No program walked but one fact of its types; no conditions. -/

namespace Go.Proofs.YtiflfcjocngiiaaGreatDoor
open Go Go.RowKit

theorem size_setCell (w : World) (a : Addr) (v : Value) : (w.setCell a v).heap.size = w.heap.size := by simp [World.setCell]
end Go.Proofs.YtiflfcjocngiiaaGreatDoor
