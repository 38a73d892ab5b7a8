/- The walks of the specification's l4Short, l4Num: what they answer lies in new memory. Conditions: the text has at most 255 bytes, the number at most nine digits. -/
import Derived.Test.YtmpfhkjipdhhlaaDoorEvMath
import Derived.Test.YtmpfhkjipdhhlaaDoorByRow
import Derived.Deep.RegionWith
namespace Go.Proofs.YtmpfhkjipdhhlaaDoor
open Go Go.RowKit

/-- What is told of an answer that is a row of bytes: it lies in new memory, and nothing that was there has turned. -/
def ByNew (w w' : World) (e : Ending) (l : List UInt8) : Prop := ∃ a n cap, e = .returned (.slice a n cap) ∧ n = l.length ∧ ByRow w.heap.size w' (.slice a n cap) l ∧ Below w.heap.size w w'

theorem u8_nat (n : Nat) (h : n < 256) : (UInt8.ofNat n).toNat = n := by simp; omega

set_option maxRecDepth 100000 in
set_option maxHeartbeats 800000 in
theorem l4Short_any (s : ByteArray) (w : World) (hs : s.size ≤ 255) :
    Calls Tryd.prog 32 #[.string s] w fun e w' => ByNew w w' e (shortB s) := by
  have hu : (UInt8.ofNat s.size).toNat = s.size := u8_nat _ (by omega)
  obtain ⟨cap, W, hrun, hgrow, hlt, hcell⟩ := bytes_of (w.alloc (.cells #[.int .u8 s.size] 5)) s
  have hsz : s.data.toList.length = s.size := by simp
  rw [World.size_alloc] at hrun hcell hlt
  have hrow : ByRow w.heap.size W (.slice (some ⟨w.heap.size, 0, none⟩) 1 1) [UInt8.ofNat s.size] := by
    have := ByRow.fresh w (UInt8.ofNat s.size)
    rw [hu] at this
    exact World.ownsRow.kept this hgrow (by simp [Value.ownBlock])
  have hbl : Below w.heap.size w W := ((Below.refl _ _).alloc (Nat.le_refl _) _).grown hgrow (by simp) (by simp)
  have HROW := hide hrow; have HBL := hide hbl; have HCELL := hide hcell; have HSZ := hide hsz; have HU := hide hu
  clear hrow hbl hcell hsz hu hgrow
  go_enter Tryd.func32, Tryd.ntmps32
  go_wp2_with (at_builtin; refine append_bytes _ rfl _ _ rfl w.heap.size (.slice (some ⟨w.heap.size, 0, none⟩) 1 1) [UInt8.ofNat s.size] s.data.toList rfl (unhide HROW) ⟨w.heap.size + 1, 0, none⟩ s.size cap rfl (unhide HSZ).symm (unhide HCELL) (by rw [unhide HSZ]; simp; omega) (unhide HBL).size ?_; intro a' n' cap' w2 HN HR HG)
  have hbl2 := (unhide HBL).trans (ByRow.below (unhide HROW) (unhide HG) (unhide HBL).size)
  go_ret
  exact ⟨a', n', cap', rfl, HN.out, HR.out, hbl2⟩

theorem numB_len {n : Int} (h : n.natAbs ≤ 999999999) : (numB n).length ≤ 6 := by
  have := sevB_len h
  simp [numB]; omega

/-- The loop of l4Num holds. -/
structure NumAt (w wr : World) (n : Int) (m : Nat) (v : Value) (len : Nat) (l : List UInt8) : Prop where
  row : ByRow w.heap.size wr v l
  below : Below w.heap.size w wr
  len : len = l.length
  goal : l ++ sevB m = numB n

theorem NumAt.short {w wr : World} {n : Int} {m : Nat} {v : Value} {len : Nat} {l : List UInt8} (h : NumAt w wr n m v len l) (hn : n.natAbs ≤ 999999999) : l.length ≤ 6 := by
  have := numB_len hn
  rw [← h.goal, List.length_append] at this
  omega

theorem bcN (k : Nat) (h : k < 256) : bc [UInt8.ofNat k] = [.int .u8 (k : Int)] := by simp [bc]; omega

set_option maxRecDepth 100000 in
set_option maxHeartbeats 1600000 in
theorem l4Num_any (n : Int) (w : World) (hn : n.natAbs ≤ 999999999) :
    Calls Tryd.prog 61 #[.int .i64 n] w fun e w' => ByNew w w' e (numB n) := by
  have hI : -999999999 ≤ n ∧ n ≤ 999999999 := by omega
  obtain ⟨hI1, hI2⟩ := hI
  have hb0 : ∀ o, Below w.heap.size w (w.alloc o) := fun o => (Below.refl _ _).alloc (Nat.le_refl _) o
  have H0 : Hid (0 ≤ n → NumAt w (w.alloc (.cells #[.int .u8 0] 5)) n n.natAbs (.slice (some ⟨w.heap.size, 0, none⟩) 1 1) 1 [0]) := fun h =>
    ⟨ByRow.fresh w 0, hb0 _, rfl, by simp [numB]; omega⟩
  have H1 : Hid (n < 0 → NumAt w (w.alloc (.cells #[.int .u8 1] 5)) n n.natAbs (.slice (some ⟨w.heap.size, 0, none⟩) 1 1) 1 [1]) := fun h =>
    ⟨ByRow.fresh w 1, hb0 _, rfl, by simp [numB, h]⟩
  have HN := hide hn
  clear hb0
  by_cases hneg : n < 0
  · have HA := hide (unhide H1 hneg)
    have hab : -n = (n.natAbs : Int) := by omega
    clear H0 H1
    go_enter Tryd.func61, Tryd.ntmps61
    go_wp2_with fail
    go_loopw [0, 3] (fun i o wr => ∃ (m : Nat) (a : Option Addr) (len cap : Nat) (l : List UInt8), i = .int .i64 m ∧ o = .slice a len cap ∧ m ≤ 999999999 ∧ Hid (NumAt w wr n m (.slice a len cap) len l)) (fun i _ _ => (intOf i).toNat)
    case atStart => exact ⟨n.natAbs, _, _, _, _, rfl, rfl, hn, HA⟩
    case round =>
      clear HA
      obtain ⟨m, a, len, cap, l, rfl, rfl, hm, HA⟩ := hrel
      have hl6 := HA.out.short (unhide HN)
      have hsz := HA.out.below.size
      by_cases h127 : 127 < m
      · have hk : 128 + m % 128 < 256 := by omega
        have HK := hide (bcN _ hk)
        have hcast : ((128 + m % 128 : Nat) : Int) = 128 + (m : Int) % 128 := by omega
        rw [hcast] at HK
        have HC := hide hcast
        clear hcast
        go_wp2_with (at_builtin; refine append_bytes _ rfl _ _ rfl w.heap.size (.slice a len cap) l [UInt8.ofNat (128 + m % 128)] rfl (World.ownsRow.alloc HA.out.row _) ⟨wr.heap.size, 0, none⟩ 1 1 rfl rfl (by rw [unhide HK]; exact cell_one _ _ _) (by simp; omega) (by simp; omega) ?_; intro a' n' cap' w2 HN2 HR HG)
        have hbl := HA.out.below.trans (((Below.refl _ wr).alloc hsz (.cells #[.int .u8 (128 + (m : Int) % 128)] 5)).trans (ByRow.below (World.ownsRow.alloc HA.out.row (.cells #[.int .u8 (128 + (m : Int) % 128)] 5)) HG.out (by simp; omega)))
        have HAN : Hid (NumAt w w2 n (m / 128) (.slice a' n' cap') n' (l ++ [UInt8.ofNat (128 + m % 128)])) := ⟨HR.out, hbl, HN2.out, by have := HA.out.goal; rw [sevB_more h127] at this; simpa using this⟩
        clear hbl HG HR HN2
        go_wp2_with fail
        go_roundw
        case rel => exact ⟨m / 128, a', n', cap', _, by go_num, rfl, by omega, HAN⟩
        case measure => simp [intOf]; omega
      · have hk : m < 256 := by omega
        have HK := hide (bcN _ hk)
        go_wp2_with (at_builtin; refine append_bytes _ rfl _ _ rfl w.heap.size (.slice a len cap) l [UInt8.ofNat m] rfl (World.ownsRow.alloc HA.out.row _) ⟨wr.heap.size, 0, none⟩ 1 1 rfl rfl (by rw [unhide HK]; exact cell_one _ _ _) (by simp; omega) (by simp; omega) ?_; intro a' n' cap' w2 HN2 HR HG)
        have hbl := HA.out.below.trans (((Below.refl _ wr).alloc hsz (.cells #[.int .u8 (m : Int)] 5)).trans (ByRow.below (World.ownsRow.alloc HA.out.row (.cells #[.int .u8 (m : Int)] 5)) HG.out (by simp; omega)))
        have hgoal : l ++ [UInt8.ofNat m] = numB n := by have := HA.out.goal; rw [sevB_last h127] at this; exact this
        rw [hgoal] at HR HN2
        have HBL := hide hbl
        clear hbl HG
        go_ret
        exact ⟨a', n', cap', rfl, HN2.out, HR.out, unhide HBL⟩
  · have HA := hide (unhide H0 (by omega))
    have hab : n = (n.natAbs : Int) := by omega
    have HAB := hide hab
    clear H0 H1 hab
    go_enter Tryd.func61, Tryd.ntmps61
    go_wp2_with fail
    go_loopw [0, 3] (fun i o wr => ∃ (m : Nat) (a : Option Addr) (len cap : Nat) (l : List UInt8), i = .int .i64 m ∧ o = .slice a len cap ∧ m ≤ 999999999 ∧ Hid (NumAt w wr n m (.slice a len cap) len l)) (fun i _ _ => (intOf i).toNat)
    case atStart => exact ⟨n.natAbs, _, _, _, _, by rw [← unhide HAB], rfl, hn, HA⟩
    case round =>
      clear HA
      obtain ⟨m, a, len, cap, l, rfl, rfl, hm, HA⟩ := hrel
      have hl6 := HA.out.short (unhide HN)
      have hsz := HA.out.below.size
      by_cases h127 : 127 < m
      · have hk : 128 + m % 128 < 256 := by omega
        have HK := hide (bcN _ hk)
        have hcast : ((128 + m % 128 : Nat) : Int) = 128 + (m : Int) % 128 := by omega
        rw [hcast] at HK
        have HC := hide hcast
        clear hcast
        go_wp2_with (at_builtin; refine append_bytes _ rfl _ _ rfl w.heap.size (.slice a len cap) l [UInt8.ofNat (128 + m % 128)] rfl (World.ownsRow.alloc HA.out.row _) ⟨wr.heap.size, 0, none⟩ 1 1 rfl rfl (by rw [unhide HK]; exact cell_one _ _ _) (by simp; omega) (by simp; omega) ?_; intro a' n' cap' w2 HN2 HR HG)
        have hbl := HA.out.below.trans (((Below.refl _ wr).alloc hsz (.cells #[.int .u8 (128 + (m : Int) % 128)] 5)).trans (ByRow.below (World.ownsRow.alloc HA.out.row (.cells #[.int .u8 (128 + (m : Int) % 128)] 5)) HG.out (by simp; omega)))
        have HAN : Hid (NumAt w w2 n (m / 128) (.slice a' n' cap') n' (l ++ [UInt8.ofNat (128 + m % 128)])) := ⟨HR.out, hbl, HN2.out, by have := HA.out.goal; rw [sevB_more h127] at this; simpa using this⟩
        clear hbl HG HR HN2
        go_wp2_with fail
        go_roundw
        case rel => exact ⟨m / 128, a', n', cap', _, by go_num, rfl, by omega, HAN⟩
        case measure => simp [intOf]; omega
      · have hk : m < 256 := by omega
        have HK := hide (bcN _ hk)
        go_wp2_with (at_builtin; refine append_bytes _ rfl _ _ rfl w.heap.size (.slice a len cap) l [UInt8.ofNat m] rfl (World.ownsRow.alloc HA.out.row _) ⟨wr.heap.size, 0, none⟩ 1 1 rfl rfl (by rw [unhide HK]; exact cell_one _ _ _) (by simp; omega) (by simp; omega) ?_; intro a' n' cap' w2 HN2 HR HG)
        have hbl := HA.out.below.trans (((Below.refl _ wr).alloc hsz (.cells #[.int .u8 (m : Int)] 5)).trans (ByRow.below (World.ownsRow.alloc HA.out.row (.cells #[.int .u8 (m : Int)] 5)) HG.out (by simp; omega)))
        have hgoal : l ++ [UInt8.ofNat m] = numB n := by have := HA.out.goal; rw [sevB_last h127] at this; exact this
        rw [hgoal] at HR HN2
        have HBL := hide hbl
        clear hbl HG
        go_ret
        exact ⟨a', n', cap', rfl, HN2.out, HR.out, unhide HBL⟩
end Go.Proofs.YtmpfhkjipdhhlaaDoor
