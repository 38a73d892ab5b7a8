/- The walks of the specification's l4Short, l4Num: what they answer lies in new memory. Conditions: the text has at most 255 bytes, the number at most nine digits. -/
import Derived.Test.YtffdofllebbcgaaDoorEvMath
import Derived.Test.YtffdofllebbcgaaDoorMerged03
import Derived.Deep.RegionWith
import Derived.Test.YtffdofllebbcgaaDoorRows
import Derived.Test.YtffdofllebbcgaaDoorMerged00
import Derived.Deep.OwnRows
namespace Go.Proofs.YtffdofllebbcgaaDoor
open Go Go.RowKit

/-- What is told of an answer that is a row of bytes: it lies in new memory, and nothing that was there has turned. -/
def ByNew (w w' : World) (e : Ending) (l : List UInt8) : Prop := ∃ a n cap, e = .returned (.slice a n cap) ∧ n = l.length ∧ ByRow w.heap.size w' (.slice a n cap) l ∧ Below w.heap.size w w'

theorem u8_nat (n : Nat) (h : n < 256) : (UInt8.ofNat n).toNat = n := by simp; omega

set_option maxRecDepth 100000 in
set_option maxHeartbeats 800000 in
theorem l4Short_any (s : ByteArray) (w : World) (hs : s.size ≤ 255) :
    Calls Tryd.prog 29 #[.string s] w fun e w' => ByNew w w' e (shortB s) := by
  have hu : (UInt8.ofNat s.size).toNat = s.size := u8_nat _ (by omega)
  obtain ⟨cap, W, hrun, hgrow, hlt, hcell⟩ := bytes_of (w.alloc (.cells #[.int .u8 s.size] 5)) s
  have hsz : s.data.toList.length = s.size := by simp
  rw [World.size_alloc] at hrun hcell hlt
  have hrow : ByRow w.heap.size W (.slice (some ⟨w.heap.size, 0, none⟩) 1 1) [UInt8.ofNat s.size] := by
    have := ByRow.fresh w (UInt8.ofNat s.size)
    rw [hu] at this
    exact World.ownsRow.kept this hgrow (by simp [Value.ownBlock])
  have hbl : Below w.heap.size w W := ((Below.refl _ _).alloc (Nat.le_refl _) _).grown hgrow (by simp) (by simp)
  have HROW := hide hrow; have HBL := hide hbl; have HCELL := hide hcell; have HSZ := hide hsz; have HU := hide hu
  clear hrow hbl hcell hsz hu hgrow
  go_enter Tryd.func29, Tryd.ntmps29
  go_wp2_with (at_builtin; refine append_bytes _ rfl _ _ rfl w.heap.size (.slice (some ⟨w.heap.size, 0, none⟩) 1 1) [UInt8.ofNat s.size] s.data.toList rfl (unhide HROW) ⟨w.heap.size + 1, 0, none⟩ s.size cap rfl (unhide HSZ).symm (unhide HCELL) (by rw [unhide HSZ]; simp; omega) (unhide HBL).size ?_; intro a' n' cap' w2 HN HR HG)
  have hbl2 := (unhide HBL).trans (ByRow.below (unhide HROW) (unhide HG) (unhide HBL).size)
  go_ret
  exact ⟨a', n', cap', rfl, HN.out, HR.out, hbl2⟩

theorem numB_len {n : Int} (h : n.natAbs ≤ 999999999) : (numB n).length ≤ 6 := by
  have := sevB_len h
  simp [numB]; omega

/-- The loop of l4Num holds. -/
structure NumAt (w wr : World) (n : Int) (m : Nat) (v : Value) (len : Nat) (l : List UInt8) : Prop where
  row : ByRow w.heap.size wr v l
  below : Below w.heap.size w wr
  len : len = l.length
  goal : l ++ sevB m = numB n

theorem NumAt.short {w wr : World} {n : Int} {m : Nat} {v : Value} {len : Nat} {l : List UInt8} (h : NumAt w wr n m v len l) (hn : n.natAbs ≤ 999999999) : l.length ≤ 6 := by
  have := numB_len hn
  rw [← h.goal, List.length_append] at this
  omega

theorem bcN (k : Nat) (h : k < 256) : bc [UInt8.ofNat k] = [.int .u8 (k : Int)] := by simp [bc]; omega

set_option maxRecDepth 100000 in
set_option maxHeartbeats 1600000 in
theorem l4Num_any (n : Int) (w : World) (hn : n.natAbs ≤ 999999999) :
    Calls Tryd.prog 54 #[.int .i64 n] w fun e w' => ByNew w w' e (numB n) := by
  have hI : -999999999 ≤ n ∧ n ≤ 999999999 := by omega
  obtain ⟨hI1, hI2⟩ := hI
  have hb0 : ∀ o, Below w.heap.size w (w.alloc o) := fun o => (Below.refl _ _).alloc (Nat.le_refl _) o
  have H0 : Hid (0 ≤ n → NumAt w (w.alloc (.cells #[.int .u8 0] 5)) n n.natAbs (.slice (some ⟨w.heap.size, 0, none⟩) 1 1) 1 [0]) := fun h =>
    ⟨ByRow.fresh w 0, hb0 _, rfl, by simp [numB]; omega⟩
  have H1 : Hid (n < 0 → NumAt w (w.alloc (.cells #[.int .u8 1] 5)) n n.natAbs (.slice (some ⟨w.heap.size, 0, none⟩) 1 1) 1 [1]) := fun h =>
    ⟨ByRow.fresh w 1, hb0 _, rfl, by simp [numB, h]⟩
  have HN := hide hn
  clear hb0
  by_cases hneg : n < 0
  · have HA := hide (unhide H1 hneg)
    have hab : -n = (n.natAbs : Int) := by omega
    clear H0 H1
    go_enter Tryd.func54, Tryd.ntmps54
    go_wp2_with fail
    go_loopw [0, 3] (fun i o wr => ∃ (m : Nat) (a : Option Addr) (len cap : Nat) (l : List UInt8), i = .int .i64 m ∧ o = .slice a len cap ∧ m ≤ 999999999 ∧ Hid (NumAt w wr n m (.slice a len cap) len l)) (fun i _ _ => (intOf i).toNat)
    case atStart => exact ⟨n.natAbs, _, _, _, _, rfl, rfl, hn, HA⟩
    case round =>
      clear HA
      obtain ⟨m, a, len, cap, l, rfl, rfl, hm, HA⟩ := hrel
      have hl6 := HA.out.short (unhide HN)
      have hsz := HA.out.below.size
      by_cases h127 : 127 < m
      · have hk : 128 + m % 128 < 256 := by omega
        have HK := hide (bcN _ hk)
        have hcast : ((128 + m % 128 : Nat) : Int) = 128 + (m : Int) % 128 := by omega
        rw [hcast] at HK
        have HC := hide hcast
        clear hcast
        go_wp2_with (at_builtin; refine append_bytes _ rfl _ _ rfl w.heap.size (.slice a len cap) l [UInt8.ofNat (128 + m % 128)] rfl (World.ownsRow.alloc HA.out.row _) ⟨wr.heap.size, 0, none⟩ 1 1 rfl rfl (by rw [unhide HK]; exact cell_one _ _ _) (by simp; omega) (by simp; omega) ?_; intro a' n' cap' w2 HN2 HR HG)
        have hbl := HA.out.below.trans (((Below.refl _ wr).alloc hsz (.cells #[.int .u8 (128 + (m : Int) % 128)] 5)).trans (ByRow.below (World.ownsRow.alloc HA.out.row (.cells #[.int .u8 (128 + (m : Int) % 128)] 5)) HG.out (by simp; omega)))
        have HAN : Hid (NumAt w w2 n (m / 128) (.slice a' n' cap') n' (l ++ [UInt8.ofNat (128 + m % 128)])) := ⟨HR.out, hbl, HN2.out, by have := HA.out.goal; rw [sevB_more h127] at this; simpa using this⟩
        clear hbl HG HR HN2
        go_wp2_with fail
        go_roundw
        case rel => exact ⟨m / 128, a', n', cap', _, by go_num, rfl, by omega, HAN⟩
        case measure => simp [intOf]; omega
      · have hk : m < 256 := by omega
        have HK := hide (bcN _ hk)
        go_wp2_with (at_builtin; refine append_bytes _ rfl _ _ rfl w.heap.size (.slice a len cap) l [UInt8.ofNat m] rfl (World.ownsRow.alloc HA.out.row _) ⟨wr.heap.size, 0, none⟩ 1 1 rfl rfl (by rw [unhide HK]; exact cell_one _ _ _) (by simp; omega) (by simp; omega) ?_; intro a' n' cap' w2 HN2 HR HG)
        have hbl := HA.out.below.trans (((Below.refl _ wr).alloc hsz (.cells #[.int .u8 (m : Int)] 5)).trans (ByRow.below (World.ownsRow.alloc HA.out.row (.cells #[.int .u8 (m : Int)] 5)) HG.out (by simp; omega)))
        have hgoal : l ++ [UInt8.ofNat m] = numB n := by have := HA.out.goal; rw [sevB_last h127] at this; exact this
        rw [hgoal] at HR HN2
        have HBL := hide hbl
        clear hbl HG
        go_ret
        exact ⟨a', n', cap', rfl, HN2.out, HR.out, unhide HBL⟩
  · have HA := hide (unhide H0 (by omega))
    have hab : n = (n.natAbs : Int) := by omega
    have HAB := hide hab
    clear H0 H1 hab
    go_enter Tryd.func54, Tryd.ntmps54
    go_wp2_with fail
    go_loopw [0, 3] (fun i o wr => ∃ (m : Nat) (a : Option Addr) (len cap : Nat) (l : List UInt8), i = .int .i64 m ∧ o = .slice a len cap ∧ m ≤ 999999999 ∧ Hid (NumAt w wr n m (.slice a len cap) len l)) (fun i _ _ => (intOf i).toNat)
    case atStart => exact ⟨n.natAbs, _, _, _, _, by rw [← unhide HAB], rfl, hn, HA⟩
    case round =>
      clear HA
      obtain ⟨m, a, len, cap, l, rfl, rfl, hm, HA⟩ := hrel
      have hl6 := HA.out.short (unhide HN)
      have hsz := HA.out.below.size
      by_cases h127 : 127 < m
      · have hk : 128 + m % 128 < 256 := by omega
        have HK := hide (bcN _ hk)
        have hcast : ((128 + m % 128 : Nat) : Int) = 128 + (m : Int) % 128 := by omega
        rw [hcast] at HK
        have HC := hide hcast
        clear hcast
        go_wp2_with (at_builtin; refine append_bytes _ rfl _ _ rfl w.heap.size (.slice a len cap) l [UInt8.ofNat (128 + m % 128)] rfl (World.ownsRow.alloc HA.out.row _) ⟨wr.heap.size, 0, none⟩ 1 1 rfl rfl (by rw [unhide HK]; exact cell_one _ _ _) (by simp; omega) (by simp; omega) ?_; intro a' n' cap' w2 HN2 HR HG)
        have hbl := HA.out.below.trans (((Below.refl _ wr).alloc hsz (.cells #[.int .u8 (128 + (m : Int) % 128)] 5)).trans (ByRow.below (World.ownsRow.alloc HA.out.row (.cells #[.int .u8 (128 + (m : Int) % 128)] 5)) HG.out (by simp; omega)))
        have HAN : Hid (NumAt w w2 n (m / 128) (.slice a' n' cap') n' (l ++ [UInt8.ofNat (128 + m % 128)])) := ⟨HR.out, hbl, HN2.out, by have := HA.out.goal; rw [sevB_more h127] at this; simpa using this⟩
        clear hbl HG HR HN2
        go_wp2_with fail
        go_roundw
        case rel => exact ⟨m / 128, a', n', cap', _, by go_num, rfl, by omega, HAN⟩
        case measure => simp [intOf]; omega
      · have hk : m < 256 := by omega
        have HK := hide (bcN _ hk)
        go_wp2_with (at_builtin; refine append_bytes _ rfl _ _ rfl w.heap.size (.slice a len cap) l [UInt8.ofNat m] rfl (World.ownsRow.alloc HA.out.row _) ⟨wr.heap.size, 0, none⟩ 1 1 rfl rfl (by rw [unhide HK]; exact cell_one _ _ _) (by simp; omega) (by simp; omega) ?_; intro a' n' cap' w2 HN2 HR HG)
        have hbl := HA.out.below.trans (((Below.refl _ wr).alloc hsz (.cells #[.int .u8 (m : Int)] 5)).trans (ByRow.below (World.ownsRow.alloc HA.out.row (.cells #[.int .u8 (m : Int)] 5)) HG.out (by simp; omega)))
        have hgoal : l ++ [UInt8.ofNat m] = numB n := by have := HA.out.goal; rw [sevB_last h127] at this; exact this
        rw [hgoal] at HR HN2
        have HBL := hide hbl
        clear hbl HG
        go_ret
        exact ⟨a', n', cap', rfl, HN2.out, HR.out, unhide HBL⟩
end Go.Proofs.YtffdofllebbcgaaDoor

/- The walks of szStringS, toStringS, eqStringS: what they answer, and that they turn nothing that was there. No conditions but toStringS's on the number of strings. -/

namespace Go.Proofs.YtffdofllebbcgaaDoor
open Go Go.RowKit

theorem wS_take (ss : List ByteArray) (k : Nat) (h : k < ss.length) : wS (ss.take (k + 1)) = wS (ss.take k) + ss[k].size + 1 := by
  induction ss generalizing k with
  | nil => simp at h
  | cons a r ih =>
    cases k with
    | zero => simp [wS]
    | succ k => simp only [List.take_succ_cons, wS, List.getElem_cons_succ]; rw [ih k (by simpa using h)]; omega

set_option maxHeartbeats 400000 in
theorem szStringS_any (v : Value) (ss : List ByteArray) (left : Int) (w : World) {P : Nat → Prop} (hv : StrsAt P w v ss) (h0 : 0 ≤ left) (h1 : left ≤ 1048576) :
    Calls Tryd.prog 44 #[v, .int .i64 left] w fun e w' => ∃ r : Int, e = .returned (.int .i64 r) ∧ (r = -1 ∨ (0 ≤ r ∧ r + wS ss = left)) ∧ w' = w := by
  obtain ⟨a, cap, rfl, hlen, hc⟩ := hv
  have HC := hide hc; clear hc
  by_cases hneg : left - ss.length < 0
  · go_enter Tryd.func44, Tryd.ntmps44
    go_wp2
    go_ret
    exact ⟨_, rfl, Or.inl rfl, rfl⟩
  · go_enter Tryd.func44, Tryd.ntmps44
    go_wp2
    go_loop [1, 5] (fun l i => ∃ (k : Nat) (q : Int), k ≤ ss.length ∧ i = .int .i64 k ∧ l = .int .i64 q ∧ 0 ≤ q ∧ q ≤ 1048576 ∧ Hid (q + ss.length + wS (ss.take k) = left + k)) (fun _ i => ss.length - (intOf i).toNat)
    case atStart => exact ⟨0, _, Nat.zero_le _, rfl, rfl, by omega, by omega, by simp [Hid, wS]⟩
    case round =>
      obtain ⟨k, q, hk, rfl, rfl, hq0, hq1, HQ⟩ := hrel
      by_cases hlt : k < ss.length
      · obtain ⟨b, o, rfl, _, hcell, hsz⟩ := unhide HC k hlt
        have hts := wS_take ss k hlt
        have HT := hide hts; clear hts
        by_cases hn : q - ss[k].size < 0
        · go_wp2
          go_ret
          exact ⟨_, rfl, Or.inl rfl, rfl⟩
        · go_wp2
          go_round
          case rel => exact ⟨k + 1, _, by omega, by go_num, rfl, by omega, by omega, by have := HQ.out; have := unhide HT; show _ = _; omega⟩
          case measure => simp [intOf]; omega
      · go_wp2
        go_ret
        refine ⟨_, rfl, Or.inr ⟨hq0, ?_⟩, rfl⟩
        have := HQ.out
        rw [List.take_of_length_le (by omega)] at this
        omega

theorem infoString : (Tryd.prog.info? 9).map (fun i => (i.zero, i.size, i.bytes)) = some (some (.string ByteArray.empty), 1, 16) := by kernel_rfl

set_option maxHeartbeats 400000 in
theorem toStringS_any (v : Value) (ss : List ByteArray) (w : World) {P : Nat → Prop} (hP : ∀ b, P b → b < w.heap.size) (hv : StrsAt P w v ss) (h1 : ss.length ≤ 1048576) :
    Calls Tryd.prog 47 #[v] w fun e w' => ∃ v', e = .returned v' ∧ (∃ a, v' = .slice a ss.length ss.length) ∧ StrsAt (New w w') w' v' ss ∧ Below w.heap.size w w' := by
  obtain ⟨a, cap, rfl, hlen, hc⟩ := hv
  have HC := hide hc; have HP := hide hP; clear hc hP
  have hmk := run_make_row' (P := Tryd.prog) 22 9 (.string ByteArray.empty) 16 Tryd.underlying22 infoString rfl .i64 .i64 ss.length (by omega) (by omega)
  go_enter Tryd.func47, Tryd.ntmps47
  go_wp2_with fail
  clear hmk
  go_loopw [4] (fun i wr => ∃ (k : Nat), k ≤ ss.length ∧ i = .int .i64 k ∧ Hid (wr.rowIs w.heap.size 9 ss.length (fun j => .string (if j < k then (ss[j]?).getD ByteArray.empty else ByteArray.empty))) ∧ Below w.heap.size w wr) (fun i _ => ss.length - (intOf i).toNat)
  case atStart => exact ⟨0, Nat.zero_le _, rfl, hide (by simpa using World.rowIs_made w (.string ByteArray.empty) ss.length _), (Below.refl _ _).alloc (Nat.le_refl _) _⟩
  case round =>
    obtain ⟨k, hk, rfl, HR, hb⟩ := hrel
    by_cases hlt : k < ss.length
    · obtain ⟨b, o, rfl, hpb, hcell, hsz⟩ := unhide HC k hlt
      have hcell' : wr.cell? ⟨b, o + k, none⟩ = some (.string ss[k]) := by rw [hb.cell (unhide HP b hpb)]; exact hcell
      have hf := HR.out.frozen k
      have hcc := HR.out.cell hlt
      simp only [Nat.lt_irrefl, if_false] at hcc
      clear hcell hpb
      go_wp2_with fail
      go_roundw
      case rel =>
        refine ⟨k + 1, by omega, by go_num, ?_, hb.setCell (Nat.le_refl _) _⟩
        refine (HR.out.set k _).congr fun i hi => ?_
        by_cases e : i = k
        · subst e; simp [hi]
        · simp only [if_neg e]
          by_cases e2 : i < k
          · rw [if_pos e2, if_pos (by omega)]
          · rw [if_neg e2, if_neg (by omega)]
      case measure => simp [intOf]; omega
    · go_wp2_with fail
      go_ret
      have hrow := HR.out
      refine ⟨_, rfl, ⟨_, rfl⟩, ⟨_, _, rfl, by omega, fun i hi => ⟨w.heap.size, 0, rfl, ⟨Nat.le_refl _, hrow.lt⟩, ?_, ?_⟩⟩, hb⟩
      · rw [Nat.zero_add, hrow.cell hi, if_pos (by omega)]; simp [hi]
      · obtain ⟨_, _, _, _, _, h⟩ := unhide HC i hi; exact h

theorem size_setCell (w : World) (a : Addr) (v : Value) : (w.setCell a v).heap.size = w.heap.size := by simp [World.setCell]

set_option maxHeartbeats 400000 in
theorem eqStringS_any (v u : Value) (ss : List ByteArray) (w : World) {P Q : Nat → Prop} (hv : StrsAt P w v ss) (hu : StrsAt Q w u ss) (hP : ∀ b, P b → b < w.heap.size) (hQ : ∀ b, Q b → b < w.heap.size) :
    Calls Tryd.prog 52 #[v, u] w fun e w' => e = .returned (.bool true) ∧ Below w.heap.size w w' := by
  obtain ⟨a, cap, rfl, hlen, hc⟩ := hv
  obtain ⟨a2, cap2, rfl, -, hc2⟩ := hu
  have HC := hide hc; have HC2 := hide hc2; have HP := hide hP; have HQ := hide hQ
  clear hc hc2 hP hQ
  have hne : ((ss.length : Int) != (ss.length : Int)) = false := by simp
  go_enter Tryd.func52, Tryd.ntmps52
  go_wp2_with fail
  clear hne
  go_loopw [5] (fun i wr => ∃ (k : Nat), k ≤ ss.length ∧ i = .int .i64 k ∧ Below w.heap.size w wr) (fun i _ => ss.length - (intOf i).toNat)
  case atStart => exact ⟨0, Nat.zero_le _, rfl, Below.refl _ _⟩
  case round =>
    obtain ⟨k, hk, rfl, hb⟩ := hrel
    by_cases hlt : k < ss.length
    · obtain ⟨b, o, rfl, hpb, hcell, -⟩ := unhide HC k hlt
      obtain ⟨b2, o2, rfl, hpb2, hcell2, -⟩ := unhide HC2 k hlt
      have e1 : wr.cell? ⟨b, o + k, none⟩ = some (.string ss[k]) := by rw [hb.cell (unhide HP b hpb)]; exact hcell
      have e2 : wr.cell? ⟨b2, o2 + k, none⟩ = some (.string ss[k]) := by rw [hb.cell (unhide HQ b2 hpb2)]; exact hcell2
      clear hcell hcell2 hpb hpb2
      go_wp2_with fail
      go_region
      go_wp2_with fail
      go_roundw
      case rel => exact ⟨k + 1, by omega, by go_num, hb.drew⟩
      case measure => simp [intOf]; omega
    · go_wp2_with fail
      go_ret
      exact ⟨rfl, hb⟩
end Go.Proofs.YtffdofllebbcgaaDoor
