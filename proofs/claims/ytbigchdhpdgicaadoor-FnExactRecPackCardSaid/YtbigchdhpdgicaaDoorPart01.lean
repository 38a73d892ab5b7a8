/- The walks of the specification's l4Short, l4Num: what they answer lies in new memory. Conditions: the text has at most 255 bytes, the number at most nine digits. -/
import Derived.Test.YtbigchdhpdgicaaDoorPart00
import Derived.Deep.RegionWith
import Derived.Test.YtbigchdhpdgicaaDoorRows
import Derived.Deep.OwnRows
import Derived.WalkLawsBesides
import Derived.WalkSmall
import Derived.WideLaws
import Derived.Deep.QuietTactic
import Derived.BigQuiet
namespace Go.Proofs.YtbigchdhpdgicaaDoor
open Go Go.RowKit

/-- What is told of an answer that is a row of bytes: it lies in new memory, and nothing that was there has turned. -/
def ByNew (w w' : World) (e : Ending) (l : List UInt8) : Prop := ∃ a n cap, e = .returned (.slice a n cap) ∧ n = l.length ∧ ByRow w.heap.size w' (.slice a n cap) l ∧ Below w.heap.size w w'

theorem u8_nat (n : Nat) (h : n < 256) : (UInt8.ofNat n).toNat = n := by simp; omega

set_option maxRecDepth 100000 in
set_option maxHeartbeats 800000 in
theorem l4Short_any (s : ByteArray) (w : World) (hs : s.size ≤ 255) :
    Calls Tryd.prog 22 #[.string s] w fun e w' => ByNew w w' e (shortB s) := by
  have hu : (UInt8.ofNat s.size).toNat = s.size := u8_nat _ (by omega)
  obtain ⟨cap, W, hrun, hgrow, hlt, hcell⟩ := bytes_of (w.alloc (.cells #[.int .u8 s.size] 5)) s
  have hsz : s.data.toList.length = s.size := by simp
  rw [World.size_alloc] at hrun hcell hlt
  have hrow : ByRow w.heap.size W (.slice (some ⟨w.heap.size, 0, none⟩) 1 1) [UInt8.ofNat s.size] := by
    have := ByRow.fresh w (UInt8.ofNat s.size)
    rw [hu] at this
    exact World.ownsRow.kept this hgrow (by simp [Value.ownBlock])
  have hbl : Below w.heap.size w W := ((Below.refl _ _).alloc (Nat.le_refl _) _).grown hgrow (by simp) (by simp)
  have HROW := hide hrow; have HBL := hide hbl; have HCELL := hide hcell; have HSZ := hide hsz; have HU := hide hu
  clear hrow hbl hcell hsz hu hgrow
  go_enter Tryd.func22, Tryd.ntmps22
  go_wp2_with (at_builtin; refine append_bytes _ rfl _ _ rfl w.heap.size (.slice (some ⟨w.heap.size, 0, none⟩) 1 1) [UInt8.ofNat s.size] s.data.toList rfl (unhide HROW) ⟨w.heap.size + 1, 0, none⟩ s.size cap rfl (unhide HSZ).symm (unhide HCELL) (by rw [unhide HSZ]; simp; omega) (unhide HBL).size ?_; intro a' n' cap' w2 HN HR HG)
  have hbl2 := (unhide HBL).trans (ByRow.below (unhide HROW) (unhide HG) (unhide HBL).size)
  go_ret
  exact ⟨a', n', cap', rfl, HN.out, HR.out, hbl2⟩

theorem numB_len {n : Int} (h : n.natAbs ≤ 999999999) : (numB n).length ≤ 6 := by
  have := sevB_len h
  simp [numB]; omega

/-- The loop of l4Num holds. -/
structure NumPk (w wr : World) (n : Int) (m : Nat) (v : Value) (len : Nat) (l : List UInt8) : Prop where
  row : ByRow w.heap.size wr v l
  below : Below w.heap.size w wr
  len : len = l.length
  goal : l ++ sevB m = numB n

theorem NumPk.short {w wr : World} {n : Int} {m : Nat} {v : Value} {len : Nat} {l : List UInt8} (h : NumPk w wr n m v len l) (hn : n.natAbs ≤ 999999999) : l.length ≤ 6 := by
  have := numB_len hn
  rw [← h.goal, List.length_append] at this
  omega

theorem bcN (k : Nat) (h : k < 256) : bc [UInt8.ofNat k] = [.int .u8 (k : Int)] := by simp [bc]; omega

set_option maxRecDepth 100000 in
set_option maxHeartbeats 1600000 in
theorem l4Num_any (n : Int) (w : World) (hn : n.natAbs ≤ 999999999) :
    Calls Tryd.prog 41 #[.int .i64 n] w fun e w' => ByNew w w' e (numB n) := by
  have hI : -999999999 ≤ n ∧ n ≤ 999999999 := by omega
  obtain ⟨hI1, hI2⟩ := hI
  have hb0 : ∀ o, Below w.heap.size w (w.alloc o) := fun o => (Below.refl _ _).alloc (Nat.le_refl _) o
  have H0 : Hid (0 ≤ n → NumPk w (w.alloc (.cells #[.int .u8 0] 5)) n n.natAbs (.slice (some ⟨w.heap.size, 0, none⟩) 1 1) 1 [0]) := fun h =>
    ⟨ByRow.fresh w 0, hb0 _, rfl, by simp [numB]; omega⟩
  have H1 : Hid (n < 0 → NumPk w (w.alloc (.cells #[.int .u8 1] 5)) n n.natAbs (.slice (some ⟨w.heap.size, 0, none⟩) 1 1) 1 [1]) := fun h =>
    ⟨ByRow.fresh w 1, hb0 _, rfl, by simp [numB, h]⟩
  have HN := hide hn
  clear hb0
  by_cases hneg : n < 0
  · have HA := hide (unhide H1 hneg)
    have hab : -n = (n.natAbs : Int) := by omega
    clear H0 H1
    go_enter Tryd.func41, Tryd.ntmps41
    go_wp2_with fail
    go_loopw [0, 3] (fun i o wr => ∃ (m : Nat) (a : Option Addr) (len cap : Nat) (l : List UInt8), i = .int .i64 m ∧ o = .slice a len cap ∧ m ≤ 999999999 ∧ Hid (NumPk w wr n m (.slice a len cap) len l)) (fun i _ _ => (intOf i).toNat)
    case atStart => exact ⟨n.natAbs, _, _, _, _, rfl, rfl, hn, HA⟩
    case round =>
      clear HA
      obtain ⟨m, a, len, cap, l, rfl, rfl, hm, HA⟩ := hrel
      have hl6 := HA.out.short (unhide HN)
      have hsz := HA.out.below.size
      by_cases h127 : 127 < m
      · have hk : 128 + m % 128 < 256 := by omega
        have HK := hide (bcN _ hk)
        have hcast : ((128 + m % 128 : Nat) : Int) = 128 + (m : Int) % 128 := by omega
        rw [hcast] at HK
        have HC := hide hcast
        clear hcast
        go_wp2_with (at_builtin; refine append_bytes _ rfl _ _ rfl w.heap.size (.slice a len cap) l [UInt8.ofNat (128 + m % 128)] rfl (World.ownsRow.alloc HA.out.row _) ⟨wr.heap.size, 0, none⟩ 1 1 rfl rfl (by rw [unhide HK]; exact cell_one _ _ _) (by simp; omega) (by simp; omega) ?_; intro a' n' cap' w2 HN2 HR HG)
        have hbl := HA.out.below.trans (((Below.refl _ wr).alloc hsz (.cells #[.int .u8 (128 + (m : Int) % 128)] 5)).trans (ByRow.below (World.ownsRow.alloc HA.out.row (.cells #[.int .u8 (128 + (m : Int) % 128)] 5)) HG.out (by simp; omega)))
        have HAN : Hid (NumPk w w2 n (m / 128) (.slice a' n' cap') n' (l ++ [UInt8.ofNat (128 + m % 128)])) := ⟨HR.out, hbl, HN2.out, by have := HA.out.goal; rw [sevB_more h127] at this; simpa using this⟩
        clear hbl HG HR HN2
        go_wp2_with fail
        go_roundw
        case rel => exact ⟨m / 128, a', n', cap', _, by go_num, rfl, by omega, HAN⟩
        case measure => simp [intOf]; omega
      · have hk : m < 256 := by omega
        have HK := hide (bcN _ hk)
        go_wp2_with (at_builtin; refine append_bytes _ rfl _ _ rfl w.heap.size (.slice a len cap) l [UInt8.ofNat m] rfl (World.ownsRow.alloc HA.out.row _) ⟨wr.heap.size, 0, none⟩ 1 1 rfl rfl (by rw [unhide HK]; exact cell_one _ _ _) (by simp; omega) (by simp; omega) ?_; intro a' n' cap' w2 HN2 HR HG)
        have hbl := HA.out.below.trans (((Below.refl _ wr).alloc hsz (.cells #[.int .u8 (m : Int)] 5)).trans (ByRow.below (World.ownsRow.alloc HA.out.row (.cells #[.int .u8 (m : Int)] 5)) HG.out (by simp; omega)))
        have hgoal : l ++ [UInt8.ofNat m] = numB n := by have := HA.out.goal; rw [sevB_last h127] at this; exact this
        rw [hgoal] at HR HN2
        have HBL := hide hbl
        clear hbl HG
        go_ret
        exact ⟨a', n', cap', rfl, HN2.out, HR.out, unhide HBL⟩
  · have HA := hide (unhide H0 (by omega))
    have hab : n = (n.natAbs : Int) := by omega
    have HAB := hide hab
    clear H0 H1 hab
    go_enter Tryd.func41, Tryd.ntmps41
    go_wp2_with fail
    go_loopw [0, 3] (fun i o wr => ∃ (m : Nat) (a : Option Addr) (len cap : Nat) (l : List UInt8), i = .int .i64 m ∧ o = .slice a len cap ∧ m ≤ 999999999 ∧ Hid (NumPk w wr n m (.slice a len cap) len l)) (fun i _ _ => (intOf i).toNat)
    case atStart => exact ⟨n.natAbs, _, _, _, _, by rw [← unhide HAB], rfl, hn, HA⟩
    case round =>
      clear HA
      obtain ⟨m, a, len, cap, l, rfl, rfl, hm, HA⟩ := hrel
      have hl6 := HA.out.short (unhide HN)
      have hsz := HA.out.below.size
      by_cases h127 : 127 < m
      · have hk : 128 + m % 128 < 256 := by omega
        have HK := hide (bcN _ hk)
        have hcast : ((128 + m % 128 : Nat) : Int) = 128 + (m : Int) % 128 := by omega
        rw [hcast] at HK
        have HC := hide hcast
        clear hcast
        go_wp2_with (at_builtin; refine append_bytes _ rfl _ _ rfl w.heap.size (.slice a len cap) l [UInt8.ofNat (128 + m % 128)] rfl (World.ownsRow.alloc HA.out.row _) ⟨wr.heap.size, 0, none⟩ 1 1 rfl rfl (by rw [unhide HK]; exact cell_one _ _ _) (by simp; omega) (by simp; omega) ?_; intro a' n' cap' w2 HN2 HR HG)
        have hbl := HA.out.below.trans (((Below.refl _ wr).alloc hsz (.cells #[.int .u8 (128 + (m : Int) % 128)] 5)).trans (ByRow.below (World.ownsRow.alloc HA.out.row (.cells #[.int .u8 (128 + (m : Int) % 128)] 5)) HG.out (by simp; omega)))
        have HAN : Hid (NumPk w w2 n (m / 128) (.slice a' n' cap') n' (l ++ [UInt8.ofNat (128 + m % 128)])) := ⟨HR.out, hbl, HN2.out, by have := HA.out.goal; rw [sevB_more h127] at this; simpa using this⟩
        clear hbl HG HR HN2
        go_wp2_with fail
        go_roundw
        case rel => exact ⟨m / 128, a', n', cap', _, by go_num, rfl, by omega, HAN⟩
        case measure => simp [intOf]; omega
      · have hk : m < 256 := by omega
        have HK := hide (bcN _ hk)
        go_wp2_with (at_builtin; refine append_bytes _ rfl _ _ rfl w.heap.size (.slice a len cap) l [UInt8.ofNat m] rfl (World.ownsRow.alloc HA.out.row _) ⟨wr.heap.size, 0, none⟩ 1 1 rfl rfl (by rw [unhide HK]; exact cell_one _ _ _) (by simp; omega) (by simp; omega) ?_; intro a' n' cap' w2 HN2 HR HG)
        have hbl := HA.out.below.trans (((Below.refl _ wr).alloc hsz (.cells #[.int .u8 (m : Int)] 5)).trans (ByRow.below (World.ownsRow.alloc HA.out.row (.cells #[.int .u8 (m : Int)] 5)) HG.out (by simp; omega)))
        have hgoal : l ++ [UInt8.ofNat m] = numB n := by have := HA.out.goal; rw [sevB_last h127] at this; exact this
        rw [hgoal] at HR HN2
        have HBL := hide hbl
        clear hbl HG
        go_ret
        exact ⟨a', n', cap', rfl, HN2.out, HR.out, unhide HBL⟩
end Go.Proofs.YtbigchdhpdgicaaDoor

/- Small laws of lists of strings, of a cell that is set. No program walked but one fact of its types; no conditions. -/

namespace Go.Proofs.YtbigchdhpdgicaaDoor
open Go Go.RowKit

theorem wS_take (ss : List ByteArray) (k : Nat) (h : k < ss.length) : wS (ss.take (k + 1)) = wS (ss.take k) + ss[k].size + 1 := by
  induction ss generalizing k with
  | nil => simp at h
  | cons a r ih =>
    cases k with
    | zero => simp [wS]
    | succ k => simp only [List.take_succ_cons, wS, List.getElem_cons_succ]; rw [ih k (by simpa using h)]; omega

theorem infoString : (Tryd.prog.info? 9).map (fun i => (i.zero, i.size, i.bytes)) = some (some (.string ByteArray.empty), 1, 16) := by kernel_rfl
theorem size_setCell (w : World) (a : Addr) (v : Value) : (w.setCell a v).heap.size = w.heap.size := by simp [World.setCell]
end Go.Proofs.YtbigchdhpdgicaaDoor

/- The walk of the specification's l4Tree: the bytes of a tree that is ok, in new memory. Conditions: the tree is ok. -/

namespace Go.Proofs.YtbigchdhpdgicaaDoor
open Go Go.RowKit

theorem bcI (x : Int) (h0 : 0 ≤ x) (h1 : x < 256) : bc [UInt8.ofNat x.toNat] = [.int .u8 x] := by
  rw [bcN _ (by omega)]
  have : ((x.toNat : Nat) : Int) = x := by omega
  rw [this]

theorem ByRow.freshI (w : World) (x : Int) (h0 : 0 ≤ x) (h1 : x < 256) : ByRow w.heap.size (w.alloc (.cells #[.int .u8 x] 5)) (.slice (some ⟨w.heap.size, 0, none⟩) 1 1) [UInt8.ofNat x.toNat] := by
  have := ByRow.fresh w (UInt8.ofNat x.toNat)
  have e : (((UInt8.ofNat x.toNat).toNat : Nat) : Int) = x := by rw [u8_nat _ (by omega)]; omega
  rw [e] at this
  exact this

theorem ByRow.stay {base : Nat} {w w' : World} {v : Value} {l : List UInt8} (h : ByRow base w v l) (hb : Below w.heap.size w w') : ByRow base w' v l :=
  World.ownsRow.kept h (row := none) ⟨hb.os, hb.tape, hb.output, hb.size, fun i hi _ => hb.block i hi⟩ (by cases hv : v.ownBlock <;> simp)

/-- What there is of the bytes of a tree, behind a box. -/
structure TAt (w : World) (box : Obj) (wr : World) (v : Value) (len : Nat) (l : List UInt8) : Prop where
  row : ByRow (w.heap.size + 1) wr v l
  below : Below (w.heap.size + 1) (w.alloc box) wr
  len : len = l.length

theorem TAt.size {w : World} {box : Obj} {wr : World} {v : Value} {len : Nat} {l : List UInt8} (h : TAt w box wr v len l) : w.heap.size + 1 ≤ wr.heap.size := by
  have := h.below.size; simpa using this

theorem TAt.app {w : World} {box : Obj} {wr w2 w3 : World} {v v' : Value} {len n' : Nat} {l news : List UInt8} (h : TAt w box wr v len l) (hb : Below wr.heap.size wr w2)
    (hn : n' = (l ++ news).length) (hr : ByRow (w.heap.size + 1) w3 v' (l ++ news)) (hg : w2.grownBy w3 v.ownBlock) : TAt w box w3 v' n' (l ++ news) :=
  ⟨hr, h.below.trans ((hb.mono h.size).trans (ByRow.below (h.row.stay hb) hg (Nat.le_trans h.size hb.size))), hn⟩

theorem TAt.end {w : World} {box : Obj} {wr : World} {a : Option Addr} {len cap : Nat} {l : List UInt8} (h : TAt w box wr (.slice a len cap) len l) : ByNew w wr (.returned (.slice a len cap)) l :=
  ⟨a, len, cap, rfl, h.len, h.row.base (Nat.le_succ _), ((Below.refl _ _).alloc (Nat.le_refl _) box).trans (h.below.mono (by omega))⟩

theorem TAt.start (w : World) (box : Obj) (x : Int) (h0 : 0 ≤ x) (h1 : x < 256) : TAt w box ((w.alloc box).alloc (.cells #[.int .u8 x] 5)) (.slice (some ⟨w.heap.size + 1, 0, none⟩) 1 1) 1 [UInt8.ofNat x.toNat] := by
  have hr := ByRow.freshI (w.alloc box) x h0 h1
  rw [World.size_alloc] at hr
  exact ⟨hr, (Below.refl _ _).alloc (by simp) _, rfl⟩

theorem TAt.old {w : World} {box : Obj} {wr : World} {v : Value} {len : Nat} {l : List UInt8} (h : TAt w box wr v len l) : Below w.heap.size w wr :=
  ((Below.refl _ _).alloc (Nat.le_refl _) box).trans (h.below.mono (by omega))

theorem ByNew.form {w w' : World} {e : Ending} {l : List UInt8} (h : ByNew w w' e l) (hl : 0 < l.length) : ∃ g n cap, e = .returned (.slice (some ⟨g, 0, none⟩) n cap) ∧ n = l.length ∧ (∀ j u, (bc l)[j]? = some u → w'.cell? ((⟨g, 0, none⟩ : Addr).add j) = some u) ∧ Below w.heap.size w w' := by
  obtain ⟨a, n, cap, rfl, hn, hr, hb⟩ := h
  obtain ⟨g, cap', hv, -, -, hc⟩ := hr.form hl
  simp only [Value.slice.injEq] at hv
  obtain ⟨rfl, rfl, rfl⟩ := hv
  exact ⟨g, _, _, rfl, rfl, hc, hb⟩

def TrSaid (n : Nat) : Prop := ∀ (t : Tr), tsz t < n → ∀ (P : Nat → Prop) (c : C5) (d : Int) (w : World), (∀ b, P b → b < w.heap.size) → Rep P w t c → 0 < pT t d →
    Calls Tryd.prog 30 #[.agg #[c.c0, c.c1, c.c2, c.c3, c.c4]] w fun e w' => ByNew w w' e (treeB t)

set_option maxRecDepth 100000 in
set_option maxHeartbeats 3200000 in
theorem l4Tree_step (n : Nat) (IH : TrSaid n) : TrSaid (n + 1) := by
  intro t hn P c d w hP hrep hok
  obtain ⟨c0, c1, c2, c3, c4⟩ := c
  obtain ⟨e0, e1, e2, -, -, -, hns, a, cap, e4, -, hks⟩ := hrep.open
  simp only at e0 e1 e2 e4 hns
  subst e0 e1 e2 e4
  obtain ⟨a3, cap3, rfl, -, hns⟩ := hns
  have hso := ok_sort hok
  have hs1 : 1 ≤ t.sort := by omega
  have hs6 : t.sort ≤ 6 := by omega
  have htb := treeB_eq t
  have hlen : (treeB t).length ≤ 8520 := by have := treeB_len t d hok; have := pT_bd t d; omega
  have HT0 := hide (fun box => TAt.start w box t.sort (by omega) (by omega))
  have HLEN := hide hlen; have HOK := hide hok; have HP := hide hP
  clear hlen hP hrep
  rcases (show t.sort = 1 ∨ t.sort = 2 ∨ t.sort = 3 ∨ (t.sort ≠ 1 ∧ t.sort ≠ 2 ∧ t.sort ≠ 3) by omega) with h | h | h | ⟨hx1, hx2, hx3⟩
  · have hnum := ok_num hok h
    have HE : Hid (treeB t = [UInt8.ofNat t.sort.toNat] ++ numB t.num) := by show treeB t = _; rw [htb, if_pos h]; rfl
    have h1 : (t.sort == 1) = true := by simpa using h
    have hnl := numB_len (n := t.num) (by omega)
    have HC := hide (fun W => l4Num_any t.num W (by omega))
    clear h hso htb hok hks hns hnum
    go_enter Tryd.func30, Tryd.ntmps30
    go_wp2_with fail
    refine (unhide HC _).mono ?_
    intro e w2 hnew
    obtain ⟨g2, n2, cap2, rfl, hn2, hc2, hb2⟩ := hnew.form (by simp [numB])
    have hsz2 := hb2.size
    have HC2 := hide hc2; have HB2 := hide hb2; have HN2 := hide hn2
    clear hnew hc2 hb2 hn2 HC
    go_wp2_with (at_builtin; refine append_bytes _ rfl _ _ rfl (w.heap.size + 1) (.slice (some ⟨w.heap.size + 1, 0, none⟩) 1 1) [UInt8.ofNat t.sort.toNat] (numB t.num) rfl ((unhide HT0 _).row.stay (unhide HB2)) ⟨g2, 0, none⟩ n2 cap2 rfl (unhide HN2) (unhide HC2) (by simp; omega) (by simp at hsz2; omega) ?_; intro a' n' cap' w3 HN HR HG)
    have hfin := (unhide HT0 _).app (unhide HB2) HN.out HR.out HG.out
    rw [← HE.out] at hfin
    have HF := hide hfin
    clear hfin HN HR HG HT0 HB2
    go_ret
    exact (unhide HF).end
  · have htx := ok_text hok h
    have HE : Hid (treeB t = [UInt8.ofNat t.sort.toNat] ++ shortB t.text) := by show treeB t = _; rw [htb, if_neg (by omega), if_pos h]; rfl
    have h1 : (t.sort == 1) = false := by simp; omega
    have h2 : (t.sort == 2) = true := by simpa using h
    have hnl := shortB_len t.text
    have HC := hide (fun W => l4Short_any t.text W (by omega))
    clear h hso htb hok hks hns 
    go_enter Tryd.func30, Tryd.ntmps30
    go_wp2_with fail
    refine (unhide HC _).mono ?_
    intro e w2 hnew
    obtain ⟨g2, n2, cap2, rfl, hn2, hc2, hb2⟩ := hnew.form (by rw [hnl]; omega)
    have hsz2 := hb2.size
    have HC2 := hide hc2; have HB2 := hide hb2; have HN2 := hide hn2
    clear hnew hc2 hb2 hn2 HC
    go_wp2_with (at_builtin; refine append_bytes _ rfl _ _ rfl (w.heap.size + 1) (.slice (some ⟨w.heap.size + 1, 0, none⟩) 1 1) [UInt8.ofNat t.sort.toNat] (shortB t.text) rfl ((unhide HT0 _).row.stay (unhide HB2)) ⟨g2, 0, none⟩ n2 cap2 rfl (unhide HN2) (unhide HC2) (by simp; omega) (by simp at hsz2; omega) ?_; intro a' n' cap' w3 HN HR HG)
    have hfin := (unhide HT0 _).app (unhide HB2) HN.out HR.out HG.out
    rw [← HE.out] at hfin
    have HF := hide hfin
    clear hfin HN HR HG HT0 HB2
    go_ret
    exact (unhide HF).end
  · have hfl := ok_flag hok h
    have HE : Hid (treeB t = [UInt8.ofNat t.sort.toNat] ++ [UInt8.ofNat t.num.toNat]) := by show treeB t = _; rw [htb, if_neg (by omega), if_neg (by omega), if_pos h]; rfl
    have h1 : (t.sort == 1) = false := by simp; omega
    have h2 : (t.sort == 2) = false := by simp; omega
    have h3 : (t.sort == 3) = true := by simpa using h
    obtain ⟨hf0, hf1⟩ := hfl
    have HK := hide (bcI t.num hf0 (by omega))
    clear h hso htb hok hks hns
    have hbx : ∀ (W : World) o, Below W.heap.size W (W.alloc o) := fun W o => (Below.refl _ _).alloc (Nat.le_refl _) o
    have HBX := hide hbx
    clear hbx
    go_enter Tryd.func30, Tryd.ntmps30
    go_wp2_with (at_builtin; refine append_bytes _ rfl _ _ rfl (w.heap.size + 1) (.slice (some ⟨w.heap.size + 1, 0, none⟩) 1 1) [UInt8.ofNat t.sort.toNat] [UInt8.ofNat t.num.toNat] rfl ((unhide HT0 _).row.stay (unhide HBX _ _)) ⟨w.heap.size + 1 + 1, 0, none⟩ 1 1 rfl rfl (by rw [unhide HK]; have := cell_one ((w.alloc (.cells #[.int .i64 t.sort, .int .i64 t.num, .string t.text, .slice a3 t.names.length cap3, .slice a t.kids.length cap] 41)).alloc (.cells #[.int .u8 t.sort] 5)) (.int .u8 t.num) 5; simpa using this) (by simp) (by simp only [World.size_alloc]; omega) ?_; intro a' n' cap' w3 HN HR HG)
    have hfin := (unhide HT0 _).app (unhide HBX _ _) HN.out HR.out HG.out
    rw [← HE.out] at hfin
    have HF := hide hfin
    clear hfin HN HR HG HT0 HBX
    go_ret
    exact (unhide HF).end
  · have hmany := ok_many hok
    have h1 : (t.sort == 1) = false := by simp; omega
    have h2 : (t.sort == 2) = false := by simp; omega
    have h3 : (t.sort == 3) = false := by simp; omega
    have HE : Hid (treeB t = ([UInt8.ofNat t.sort.toNat] ++ [UInt8.ofNat t.kids.length]) ++ kidsB (decide (t.sort = 5)) t.names t.kids) := by show treeB t = _; rw [htb, if_neg hx1, if_neg hx2, if_neg hx3]; rfl
    have HK := hide (bcN t.kids.length (by omega))
    have hnm := ok_names hok
    have HKID := hide (fun k hk => ok_kid hok k hk)
    have HBD : Hid (∀ k, (hk : k < t.kids.length) → ((([UInt8.ofNat t.sort.toNat] ++ [UInt8.ofNat t.kids.length]) ++ kidsB (decide (t.sort = 5)) t.names (t.kids.take k)) ++ ((if decide (t.sort = 5) then shortB (t.names.getD k ByteArray.empty) else []) ++ treeB t.kids[k])).length ≤ 8520) := fun k hk => by
      have h1 := kidsB_le (decide (t.sort = 5)) t.names t.kids (k + 1)
      have h2 := HLEN.out
      rw [HE.out] at h2
      rw [List.append_assoc, ← kidsB_take _ _ _ _ hk]
      simp only [List.length_append] at h2 ⊢
      omega
    have HTS := hide (fun (k : Tr) (hk : k ∈ t.kids) => tsz_kid hk)
    have HHN := hide hn
    have hbx : ∀ (W : World) o, Below W.heap.size W (W.alloc o) := fun W o => (Below.refl _ _).alloc (Nat.le_refl _) o
    have HBX := hide hbx; have HNM := hide hnm; have HKS := hide hks; have HNS := hide hns; have HI := hide IH
    clear hso htb hok hbx hx1 hx2 hx3 hnm hks hns IH hn
    generalize hd5 : decide (t.sort = 5) = f at *
    have HD5 := hide hd5
    clear hd5
    have hf5 : (t.sort == 5) = f := by rw [← unhide HD5]; rfl
    go_enter Tryd.func30, Tryd.ntmps30
    go_wp2_with (at_builtin; refine append_bytes _ rfl _ _ rfl (w.heap.size + 1) (.slice (some ⟨w.heap.size + 1, 0, none⟩) 1 1) [UInt8.ofNat t.sort.toNat] [UInt8.ofNat t.kids.length] rfl ((unhide HT0 _).row.stay (unhide HBX _ _)) ⟨w.heap.size + 1 + 1, 0, none⟩ 1 1 rfl rfl (by rw [unhide HK]; have := cell_one ((w.alloc (.cells #[.int .i64 t.sort, .int .i64 t.num, .string t.text, .slice a3 t.names.length cap3, .slice a t.kids.length cap] 41)).alloc (.cells #[.int .u8 t.sort] 5)) (.int .u8 t.kids.length) 5; simpa using this) (by simp) (by simp only [World.size_alloc]; omega) ?_; intro a' n' cap' w3 HN HR HG)
    have hst := (unhide HT0 _).app (unhide HBX _ _) HN.out HR.out HG.out
    have HST := hide hst
    clear hst HN HR HG HT0 HK
    go_loopw [3, 4] (fun o i wr => ∃ (k : Nat) (ar : Option Addr) (len cp : Nat), k ≤ t.kids.length ∧ i = .int .i64 k ∧ o = .slice ar len cp ∧ Hid (TAt w (.cells #[.int .i64 t.sort, .int .i64 t.num, .string t.text, .slice a3 t.names.length cap3, .slice a t.kids.length cap] 41) wr (.slice ar len cp) len (([UInt8.ofNat t.sort.toNat] ++ [UInt8.ofNat t.kids.length]) ++ kidsB f t.names (t.kids.take k)))) (fun _ i _ => t.kids.length - (intOf i).toNat)
    case atStart => exact ⟨0, _, _, _, Nat.zero_le _, rfl, rfl, by rw [List.take_zero, kidsB, List.append_nil]; exact HST⟩
    case round =>
      clear HST
      obtain ⟨k, ar, len, cp, hk, rfl, rfl, HA⟩ := hrel
      have hbxr := (row5_alloc w (.int .i64 t.sort) (.int .i64 t.num) (.string t.text) (.slice a3 t.names.length cap3) (.slice a t.kids.length cap) 41).of_block (HA.out.below.block _ (by omega))
      have k0 := hbxr.cell (i := 0) (by omega); have k3 := hbxr.cell (i := 3) (by omega); have k4 := hbxr.cell (i := 4) (by omega)
      simp only [row5] at k0 k3 k4
      clear hbxr
      by_cases hlt : k < t.kids.length
      · obtain ⟨b, o, c, rfl, hpb, hcell, hrepk⟩ := unhide HKS k hlt
        have HC5 := hide (fun (W : World) (hW : Below w.heap.size w W) => hcell.carry (hW.block b (unhide HP b hpb)))
        have hsm : tsz t.kids[k] < n := by have := unhide HTS t.kids[k] (List.getElem_mem hlt); have := unhide HHN; omega
        have HCALL := hide (fun (W : World) (hW : Below w.heap.size w W) => unhide HI t.kids[k] hsm P c (d + 1) W (fun b hb => Nat.lt_of_lt_of_le (unhide HP b hb) hW.size) (Rep.carry (fun b hb => hW.block b (unhide HP b hb)) (fun _ h => h) _ _ hrepk) (unhide HKID k hlt))
        have hbd := unhide HBD k hlt
        have hnext := kidsB_take f t.names t.kids k hlt
        obtain ⟨c0, c1, c2, c3, c4⟩ := c
        clear hpb hcell hrepk hsm
        cases f with
        | false =>
          have HLB : Hid ((([UInt8.ofNat t.sort.toNat] ++ [UInt8.ofNat t.kids.length]) ++ kidsB false t.names (t.kids.take k)).length + (treeB t.kids[k]).length ≤ 8520) := by
            simp only [Bool.false_eq_true, if_false, List.nil_append] at hbd
            rw [List.length_append] at hbd
            exact hbd
          have HNEXT : Hid ((([UInt8.ofNat t.sort.toNat] ++ [UInt8.ofNat t.kids.length]) ++ kidsB false t.names (t.kids.take k)) ++ treeB t.kids[k] = ([UInt8.ofNat t.sort.toNat] ++ [UInt8.ofNat t.kids.length]) ++ kidsB false t.names (t.kids.take (k + 1))) := by
            show _ = _
            rw [hnext]; simp
          obtain ⟨e0, e1, e2, e3, e4⟩ := unhide HC5 wr HA.out.old
          simp only at e0 e1 e2 e3 e4
          clear hbd hnext HC5
          go_wp2_with fail
          refine (unhide HCALL wr (HA.out).old).mono ?_
          intro e w6 hnew6
          obtain ⟨g6, n6, cap6, rfl, hn6, hc6, hb6⟩ := hnew6.form (by rw [treeB_eq]; simp)
          have hsz6 := hb6.size
          have HC6 := hide hc6; have HB6 := hide hb6; have HN6 := hide hn6; have HBS := hide (Nat.le_trans (HA.out).size hsz6)
          clear hnew6 hc6 hb6 hn6 hsz6
          go_wp2_with (at_builtin; refine append_bytes _ rfl _ _ rfl (w.heap.size + 1) (.slice ar len cp) (([UInt8.ofNat t.sort.toNat] ++ [UInt8.ofNat t.kids.length]) ++ kidsB false t.names (t.kids.take k)) (treeB t.kids[k]) rfl ((HA.out).row.stay (unhide HB6)) ⟨g6, 0, none⟩ n6 cap6 rfl (unhide HN6) (unhide HC6) (Nat.le_trans (unhide HLB) (by decide)) (unhide HBS) ?_; intro a7 n7 cap7 w7 HN7 HR7 HG7)
          have hst7 := (HA.out).app (unhide HB6) HN7.out HR7.out HG7.out
          rw [unhide HNEXT] at hst7
          have HST7 := hide hst7
          clear hst7 HN7 HR7 HG7 HB6 HN6 HC6 HBS
          go_roundw
          case rel => exact ⟨k + 1, a7, n7, cap7, by omega, by go_num, rfl, HST7⟩
          case measure => simp [intOf]; omega
        | true =>
          obtain ⟨hnl, hn8⟩ := unhide HNM (by simpa using unhide HD5)
          have hkn : k < t.names.length := by omega
          obtain ⟨b', o', rfl, hpb', hcell', -⟩ := unhide HNS k hkn
          have ec : wr.cell? ⟨b', o' + k, none⟩ = some (.string t.names[k]) := by rw [World.cell?_of_block (w := w) (HA.out.old.block b' (unhide HP b' hpb'))]; exact hcell'
          have h8 := hn8 _ (List.getElem_mem hkn)
          have hgd := getD_lt t.names k hkn
          rw [hgd] at hbd hnext
          have HSH := hide (fun W => l4Short_any t.names[k] W (by omega))
          have HLA : Hid ((([UInt8.ofNat t.sort.toNat] ++ [UInt8.ofNat t.kids.length]) ++ kidsB true t.names (t.kids.take k)).length + (shortB t.names[k]).length ≤ 8520) := by
            simp only [if_true, List.length_append] at hbd ⊢
            show _ ≤ _
            omega
          have HLB : Hid (((([UInt8.ofNat t.sort.toNat] ++ [UInt8.ofNat t.kids.length]) ++ kidsB true t.names (t.kids.take k)) ++ shortB t.names[k]).length + (treeB t.kids[k]).length ≤ 8520) := by
            simp only [if_true, List.length_append] at hbd ⊢
            show _ ≤ _
            omega
          have HNEXT : Hid (((([UInt8.ofNat t.sort.toNat] ++ [UInt8.ofNat t.kids.length]) ++ kidsB true t.names (t.kids.take k)) ++ shortB t.names[k]) ++ treeB t.kids[k] = ([UInt8.ofNat t.sort.toNat] ++ [UInt8.ofNat t.kids.length]) ++ kidsB true t.names (t.kids.take (k + 1))) := by
            show _ = _
            rw [hnext]; simp
          have hsl := shortB_len t.names[k]
          have HSL := hide hsl
          clear hbd hnext hgd h8 hn8 hcell' hpb' hsl hnl
          go_wp2_with fail
          refine (unhide HSH _).mono ?_
          intro e w2 hnew
          obtain ⟨g2, n2, cap2, rfl, hn2, hc2, hb2⟩ := hnew.form (by rw [unhide HSL]; omega)
          have HC2 := hide hc2; have HB2 := hide hb2; have HN2 := hide hn2; have HBS := hide (Nat.le_trans HA.out.size hb2.size)
          clear hnew hc2 hb2 hn2 HSH
          go_wp2_with (at_builtin; refine append_bytes _ rfl _ _ rfl (w.heap.size + 1) (.slice ar len cp) (([UInt8.ofNat t.sort.toNat] ++ [UInt8.ofNat t.kids.length]) ++ kidsB true t.names (t.kids.take k)) (shortB t.names[k]) rfl (HA.out.row.stay (unhide HB2)) ⟨g2, 0, none⟩ n2 cap2 rfl (unhide HN2) (unhide HC2) (Nat.le_trans (unhide HLA) (by decide)) (unhide HBS) ?_; intro a4 n4 cap4 w4 HN4 HR4 HG4
                       have hst4 := HA.out.app (unhide HB2) HN4.out HR4.out HG4.out
                       have hbx4 := (row5_alloc w (.int .i64 t.sort) (.int .i64 t.num) (.string t.text) (.slice (some ⟨b', o', none⟩) t.names.length cap3) (.slice (some ⟨b, o, none⟩) t.kids.length cap) 41).of_block (hst4.below.block _ (by omega))
                       have m4 := hbx4.cell (i := 4) (by omega)
                       simp only [row5] at m4
                       obtain ⟨e0, e1, e2, e3, e4⟩ := unhide HC5 w4 hst4.old
                       simp only at e0 e1 e2 e3 e4
                       have HST4 := hide hst4
                       clear hst4 hbx4 HN4 HR4 HG4 HB2 HN2 HC2 HBS)
          refine (unhide HCALL w4 (unhide HST4).old).mono ?_
          intro e w6 hnew6
          obtain ⟨g6, n6, cap6, rfl, hn6, hc6, hb6⟩ := hnew6.form (by rw [treeB_eq]; simp)
          have hsz6 := hb6.size
          have HC6 := hide hc6; have HB6 := hide hb6; have HN6 := hide hn6; have HBS := hide (Nat.le_trans (unhide HST4).size hsz6)
          clear hnew6 hc6 hb6 hn6 hsz6
          go_wp2_with (at_builtin; refine append_bytes _ rfl _ _ rfl (w.heap.size + 1) (.slice a4 n4 cap4) ((([UInt8.ofNat t.sort.toNat] ++ [UInt8.ofNat t.kids.length]) ++ kidsB true t.names (t.kids.take k)) ++ shortB t.names[k]) (treeB t.kids[k]) rfl ((unhide HST4).row.stay (unhide HB6)) ⟨g6, 0, none⟩ n6 cap6 rfl (unhide HN6) (unhide HC6) (Nat.le_trans (unhide HLB) (by decide)) (unhide HBS) ?_; intro a7 n7 cap7 w7 HN7 HR7 HG7)
          have hst7 := (unhide HST4).app (unhide HB6) HN7.out HR7.out HG7.out
          rw [unhide HNEXT] at hst7
          have HST7 := hide hst7
          clear hst7 HN7 HR7 HG7 HB6 HN6 HC6 HBS
          go_roundw
          case rel => exact ⟨k + 1, a7, n7, cap7, by omega, by go_num, rfl, HST7⟩
          case measure => simp [intOf]; omega
      · go_wp2_with fail
        go_ret
        have hfin := HA.out
        rw [List.take_of_length_le (by omega), ← HE.out] at hfin
        exact hfin.end
end Go.Proofs.YtbigchdhpdgicaaDoor

/- The walks of the program's isDigit, isNameByte, nameOk: what they answer. No conditions. -/

namespace Go.Proofs.YtbigchdhpdgicaaDoor
open Go Go.RowKit

def digitB (c : UInt8) : Bool := 48 ≤ c.toNat && c.toNat ≤ 57
theorem digit_yes {c : UInt8} (h : 48 ≤ c.toNat ∧ c.toNat ≤ 57) : digitB c = true := by unfold digitB; simp [h.1, h.2]
theorem digit_no {c : UInt8} (h : c.toNat < 48 ∨ 57 < c.toNat) : digitB c = false := by
  unfold digitB; simp only [Bool.and_eq_false_iff, decide_eq_false_iff_not]; omega
theorem nameByte_digit {c : UInt8} (h : c.toNat < 97 ∨ 122 < c.toNat) : nameByte c = digitB c := by
  unfold nameByte digitB
  rw [show (decide (97 ≤ c.toNat) && decide (c.toNat ≤ 122)) = false from by simp only [Bool.and_eq_false_iff, decide_eq_false_iff_not]; omega]
  rfl

set_option maxHeartbeats 400000 in
theorem isDigit_any (c : UInt8) (w : World) : Calls Tryd.prog 44 #[.int .u8 c.toNat] w fun e w' => e = .returned (.bool (digitB c)) ∧ w' = w := by
  have hc : (48 ≤ c.toNat ∧ c.toNat ≤ 57) ∨ c.toNat < 48 ∨ 57 < c.toNat := by omega
  rcases hc with hc | hc | hc
  · have HB := hide (digit_yes hc)
    obtain ⟨h1, h2⟩ := hc
    have d2 : decide ((c.toNat : Int) ≤ 57) = true := by simp; omega
    go_enter Tryd.func44, Tryd.ntmps44
    go_wp2_with fail
    go_ret
    exact ⟨ret_bool (unhide HB).symm, rfl⟩
  · have HB := hide (digit_no (Or.inl hc))
    go_enter Tryd.func44, Tryd.ntmps44
    go_wp2_with fail
    go_ret
    exact ⟨ret_bool (unhide HB).symm, rfl⟩
  · have HB := hide (digit_no (Or.inr hc))
    have d2 : decide ((c.toNat : Int) ≤ 57) = false := by simp; omega
    go_enter Tryd.func44, Tryd.ntmps44
    go_wp2_with fail
    go_ret
    exact ⟨ret_bool (unhide HB).symm, rfl⟩

set_option maxHeartbeats 400000 in
theorem isNameByte_any (c : UInt8) (w : World) : Calls Tryd.prog 45 #[.int .u8 c.toNat] w fun e w' => e = .returned (.bool (nameByte c)) ∧ w' = w := by
  have hc : (97 ≤ c.toNat ∧ c.toNat ≤ 122) ∨ c.toNat < 97 ∨ 122 < c.toNat := by omega
  rcases hc with hc | hc | hc
  · have HN := hide (nameByte_yes (Or.inl hc))
    obtain ⟨h1, h2⟩ := hc
    have d2 : decide ((c.toNat : Int) ≤ 122) = true := by simp; omega
    go_enter Tryd.func45, Tryd.ntmps45
    go_wp2_with (go_at_call 44; refine (isDigit_any _ _).mono ?_; rintro e w' ⟨rfl, rfl⟩)
    go_ret
    exact ⟨ret_bool (unhide HN).symm, rfl⟩
  · have HN := hide (nameByte_digit (Or.inl hc))
    go_enter Tryd.func45, Tryd.ntmps45
    go_wp2_with (go_at_call 44; refine (isDigit_any _ _).mono ?_; rintro e w' ⟨rfl, rfl⟩)
    go_ret
    exact ⟨ret_bool (unhide HN).symm, rfl⟩
  · have HN := hide (nameByte_digit (Or.inr hc))
    have d2 : decide ((c.toNat : Int) ≤ 122) = false := by simp; omega
    go_enter Tryd.func45, Tryd.ntmps45
    go_wp2_with (go_at_call 44; refine (isDigit_any _ _).mono ?_; rintro e w' ⟨rfl, rfl⟩)
    go_ret
    exact ⟨ret_bool (unhide HN).symm, rfl⟩

theorem nameOk_digit {s : ByteArray} (h0 : 0 < s.size) (h : digitB s[0] = true) : nameOkB s = false := by
  refine nameOk_first h0 ?_
  simp only [digitB, Bool.and_eq_true, decide_eq_true_eq] at h
  omega
theorem nameOk_yes2 {s : ByteArray} (h1 : 0 < s.size) (h2 : s.size ≤ 8) (hf : digitB s[0] = false) (ha : allTo nameByte s s.size) : nameOkB s = true := by
  refine nameOk_yes h1 h2 ?_ ha
  have hb := ha 0 h1 h1
  simp only [nameByte, digitB, Bool.or_eq_true, Bool.and_eq_true, Bool.and_eq_false_iff, decide_eq_true_eq, decide_eq_false_iff_not] at hb hf
  omega

set_option maxHeartbeats 400000 in
theorem nameOk_any (s : ByteArray) (w : World) (hs : s.size ≤ 9223372036854775807) :
    Calls Tryd.prog 34 #[.string s] w fun e w' => e = .returned (.bool (nameOkB s)) ∧ w' = w := by
  have hl : s.size < 1 ∨ 8 < s.size ∨ (0 < s.size ∧ s.size ≤ 8) := by omega
  rcases hl with hl | hl | ⟨hl0, hl8⟩
  · have HN := hide (nameOk_len (Or.inl hl))
    go_enter Tryd.func34, Tryd.ntmps34
    go_wp2_with fail
    go_ret
    exact ⟨ret_bool (unhide HN).symm, rfl⟩
  · have HN := hide (nameOk_len (Or.inr hl))
    go_enter Tryd.func34, Tryd.ntmps34
    go_wp2_with fail
    go_ret
    exact ⟨ret_bool (unhide HN).symm, rfl⟩
  · by_cases hf : digitB s[0] = true
    · have HN := hide (nameOk_digit hl0 hf)
      go_enter Tryd.func34, Tryd.ntmps34
      go_wp2_with (go_at_call 44; refine (isDigit_any _ _).mono ?_; rintro e w' ⟨rfl, rfl⟩)
      go_ret
      exact ⟨ret_bool (unhide HN).symm, rfl⟩
    · have hf' : digitB s[0] = false := by simpa using hf
      have HF := hide hf'
      clear hf
      go_enter Tryd.func34, Tryd.ntmps34
      go_wp2_with (go_at_call 44; refine (isDigit_any _ _).mono ?_; rintro e w' ⟨rfl, rfl⟩)
      go_loop [19] (fun i => ∃ k : Nat, k ≤ s.size ∧ i = .int .i64 k ∧ Hid (allTo nameByte s k)) (fun i => s.size - (intOf i).toNat)
      case atStart => exact ⟨0, Nat.zero_le _, rfl, fun j hj => by omega⟩
      case round =>
        obtain ⟨k, hk, rfl, HA⟩ := hrel
        by_cases hlt : k < s.size
        · by_cases hb : nameByte s[k] = true
          · have HN := hide (allTo_succ HA.out hlt hb)
            go_wp2_with (go_at_call 45; refine (isNameByte_any _ _).mono ?_; rintro e w' ⟨rfl, rfl⟩)
            go_round
            case rel => exact ⟨k + 1, by omega, by go_num, HN⟩
            case measure => simp [intOf]; omega
          · have hb' : nameByte s[k] = false := by simpa using hb
            clear hb
            have HN := hide (nameOk_not hlt hb')
            go_wp2_with (go_at_call 45; refine (isNameByte_any _ _).mono ?_; rintro e w' ⟨rfl, rfl⟩)
            go_ret
            exact ⟨ret_bool (unhide HN).symm, rfl⟩
        · go_wp2_with fail
          go_ret
          obtain rfl : k = s.size := by omega
          exact ⟨ret_bool (nameOk_yes2 hl0 hl8 (unhide HF) HA.out).symm, rfl⟩
end Go.Proofs.YtbigchdhpdgicaaDoor

/- The walks of the program's treeWant: what it answers, and that it raises a fault. No conditions. -/

namespace Go.Proofs.YtbigchdhpdgicaaDoor
open Go Go.RowKit

/-- A fault is raised. -/
abbrev fltE : Ending := .panicked [{ v := .iface 112 (.agg #[]), recovered := false }]

set_option maxHeartbeats 400000 in
theorem treeWant_yes (w : World) : Calls Tryd.prog 69 #[.bool true] w fun e w' => e = .returned (.tuple #[]) ∧ w' = w := by
  go_enter Tryd.func69, Tryd.ntmps69
  go_wp2_with fail
  go_end0
  exact ⟨rfl, rfl⟩

set_option maxHeartbeats 400000 in
theorem treeWant_no (w : World) : Calls Tryd.prog 69 #[.bool false] w fun e w' => e = fltE ∧ w' = w := by
  go_enter Tryd.func69, Tryd.ntmps69
  go_wp2_with fail
  exact ⟨rfl, rfl, rfl⟩
end Go.Proofs.YtbigchdhpdgicaaDoor

/- The walks of the program's treeTry and its deferred function: whatever work it is handed, it answers whether that came to its end. No conditions. -/

namespace Go.Proofs.YtbigchdhpdgicaaDoor
open Go Go.RowKit

set_option maxHeartbeats 400000 in
theorem try_panicking (p : Addr) (x : Bool) (u : TypeId) (pv : Value) (older : List PanicEntry) (w : World) (hc : w.cell? p = some (.bool x)) (hz : w.frozen? p = false) :
    CallsD Tryd.prog 59 #[.pointer (some p)] (.panicking ({ v := .iface u pv, recovered := false } :: older)) w fun e u' w' =>
      e = .returned (.tuple #[]) ∧ u' = .panicking ({ v := .iface u pv, recovered := true } :: older) ∧ w' = w.setCell p (.bool false) := by
  refine callsD_of_wpS Tryd.func59 rfl fun c₀ cs hu => ?_
  apply wpS_region
  simp [wpOpsS, go_sem, recoverD, hu, Tryd.ntmps59, hc, hz, bodyPostS, results, Tryd.results59]

set_option maxHeartbeats 400000 in
theorem try_returning (p : Addr) (x : Bool) (w : World) (hc : w.cell? p = some (.bool x)) (hz : w.frozen? p = false) :
    CallsD Tryd.prog 59 #[.pointer (some p)] .returning w fun e u' w' => e = .returned (.tuple #[]) ∧ u' = .returning ∧ w' = w.setCell p (.bool true) := by
  refine callsD_of_wpS Tryd.func59 rfl fun c₀ cs hu => ?_
  apply wpS_region
  simp [wpOpsS, go_sem, recoverD, hu, Tryd.ntmps59, hc, hz, bodyPostS, results, Tryd.results59]
  cases c₀
  simp_all

theorem cell_new1 {w w' : World} {x : Value} {t : TypeId} (h : w'.heap[w.heap.size]? = (w.alloc (.cells #[x] t)).heap[w.heap.size]?) : w'.cell? ⟨w.heap.size, 0, none⟩ = some x ∧ w'.frozen? ⟨w.heap.size, 0, none⟩ = false := by
  rw [World.cell?_of_block (a := ⟨w.heap.size, 0, none⟩) h, World.frozen?_of_block (a := ⟨w.heap.size, 0, none⟩) h]
  exact ⟨by simp [go_sem], by simp [go_sem]⟩

set_option maxRecDepth 100000 in
set_option maxHeartbeats 400000 in
/-- Work that comes to its end. -/
theorem treeTry_yes (f : FuncId) (caps : Array Value) (w : World) (R : World → Prop) (hent : ∀ W, Sem.run Tryd.prog (callFunc f caps) W = .ok (.enter f caps) W)
    (hwork : ∀ o, Calls Tryd.prog f caps (w.alloc o) fun e w' => e = .returned (.tuple #[]) ∧ R w' ∧ w'.heap[w.heap.size]? = (w.alloc o).heap[w.heap.size]?) :
    Calls Tryd.prog 55 #[.func (.func f) #[] caps] w fun e w' => e = .returned (.bool true) ∧ ∃ w1, R w1 ∧ But w.heap.size w1 w' := by
  have hmf : ∀ (fn : Fn) (first cap : Array Value) (w : World), (Instr.makeFunc fn first cap).run Tryd.prog w = .ok (.func fn first cap) w := fun _ _ _ _ => rfl
  have HW := hide hwork; clear hwork
  go_enter_defers Tryd.func55, Tryd.ntmps55
  go_wp2_with fail
  refine (unhide HW _).mono ?_
  rintro e w1 ⟨rfl, hr, hbk⟩
  obtain ⟨hc, hz⟩ := cell_new1 hbk
  have HR := hide hr
  clear hr hbk
  go_wp2_with fail
  refine leaves_cons (f := 59) (args := #[.pointer (some ⟨w.heap.size, 0, none⟩)]) (by simp) (by simp [go_sem]) ?_
  refine (try_returning ⟨w.heap.size, 0, none⟩ true _ ?_ ?_).mono ?_
  · simp [go_sem, hc]
  · simp [go_sem, hz]
  rintro e u' w'' ⟨rfl, rfl, rfl⟩
  simp [Leaves, settle, results, Tryd.results55, go_sem, hc]
  exact ⟨w1, unhide HR, (But.set w1 0 _).trans (But.set _ 0 _)⟩

set_option maxRecDepth 100000 in
set_option maxHeartbeats 400000 in
/-- Work that raises a fault. -/
theorem treeTry_no (f : FuncId) (caps : Array Value) (w : World) (R : World → Prop) (hent : ∀ W, Sem.run Tryd.prog (callFunc f caps) W = .ok (.enter f caps) W)
    (hwork : ∀ o, Calls Tryd.prog f caps (w.alloc o) fun e w' => e = fltE ∧ R w' ∧ w'.heap[w.heap.size]? = (w.alloc o).heap[w.heap.size]?) :
    Calls Tryd.prog 55 #[.func (.func f) #[] caps] w fun e w' => e = .returned (.bool false) ∧ ∃ w1, R w1 ∧ But w.heap.size w1 w' := by
  have hmf : ∀ (fn : Fn) (first cap : Array Value) (w : World), (Instr.makeFunc fn first cap).run Tryd.prog w = .ok (.func fn first cap) w := fun _ _ _ _ => rfl
  have HW := hide hwork; clear hwork
  go_enter_defers Tryd.func55, Tryd.ntmps55
  go_wp2_with fail
  refine (unhide HW _).mono ?_
  rintro e w1 ⟨rfl, hr, hbk⟩
  obtain ⟨hc, hz⟩ := cell_new1 hbk
  have HR := hide hr
  clear hr hbk
  go_wp2_with fail
  refine leaves_cons (f := 59) (args := #[.pointer (some ⟨w.heap.size, 0, none⟩)]) (by simp) (by simp [go_sem]) ?_
  refine (try_panicking ⟨w.heap.size, 0, none⟩ false 112 _ [] _ hc hz).mono ?_
  rintro e u' w'' ⟨rfl, rfl, rfl⟩
  simp [Leaves, settle, results, Tryd.results55, go_sem, hc]
  exact ⟨w1, unhide HR, But.set w1 0 _⟩
end Go.Proofs.YtbigchdhpdgicaaDoor

/- The walks of the specification's l6In, l6NameOk, l1Rise: what they answer. No conditions. -/

namespace Go.Proofs.YtbigchdhpdgicaaDoor
open Go Go.RowKit

set_option maxHeartbeats 400000 in
theorem l6In_any (n lo hi : Int) (w : World) :
    Calls Tryd.prog 13 #[.int .i64 n, .int .i64 lo, .int .i64 hi] w fun e w' => e = .returned (.bool (decide (lo ≤ n ∧ n ≤ hi))) ∧ w' = w := by
  by_cases h1 : lo ≤ n
  · by_cases h2 : n ≤ hi
    · go_enter Tryd.func13, Tryd.ntmps13
      go_wp2_with fail
      go_ret
      exact ⟨by simp [h1, h2], rfl⟩
    · go_enter Tryd.func13, Tryd.ntmps13
      go_wp2_with fail
      go_ret
      exact ⟨ret_bool (by symm; simp; omega), rfl⟩
  · go_enter Tryd.func13, Tryd.ntmps13
    go_wp2_with fail
    go_ret
    exact ⟨ret_bool (by symm; simp; omega), rfl⟩

set_option maxHeartbeats 400000 in
theorem l6NameOk_any (s : ByteArray) (w : World) (hs : s.size ≤ 9223372036854775807) :
    Calls Tryd.prog 14 #[.string s] w fun e w' => e = .returned (.bool (nameOkB s)) ∧ w' = w := by
  by_cases h1 : 1 ≤ s.size ∧ s.size ≤ 8
  · obtain ⟨h1, h8⟩ := h1
    have hd : decide ((1 : Int) ≤ s.size ∧ (s.size : Int) ≤ 8) = true := by simp; omega
    have hc0 : s[0].toNat < 97 ∨ 122 < s[0].toNat ∨ (97 ≤ s[0].toNat ∧ s[0].toNat ≤ 122) := by omega
    rcases hc0 with hc | hc | hc
    · go_enter Tryd.func14, Tryd.ntmps14
      go_wp2_with (go_at_call 13; refine (l6In_any _ _ _ _).mono ?_; rintro e w' ⟨rfl, rfl⟩)
      go_ret
      exact ⟨ret_bool (nameOk_first (by omega) (Or.inl hc)).symm, rfl⟩
    · go_enter Tryd.func14, Tryd.ntmps14
      go_wp2_with (go_at_call 13; refine (l6In_any _ _ _ _).mono ?_; rintro e w' ⟨rfl, rfl⟩)
      go_ret
      exact ⟨ret_bool (nameOk_first (by omega) (Or.inr hc)).symm, rfl⟩
    · have HF := hide hc
      obtain ⟨hca, hcb⟩ := hc
      go_enter Tryd.func14, Tryd.ntmps14
      go_wp2_with (go_at_call 13; refine (l6In_any _ _ _ _).mono ?_; rintro e w' ⟨rfl, rfl⟩)
      go_loop [3] (fun i => ∃ k : Nat, k ≤ s.size ∧ i = .int .i64 k ∧ Hid (allTo nameByte s k)) (fun i => s.size - (intOf i).toNat)
      case atStart => exact ⟨0, Nat.zero_le _, rfl, fun j hj => by omega⟩
      case round =>
        obtain ⟨k, hk, rfl, HA⟩ := hrel
        by_cases hlt : k < s.size
        · have hc : s[k].toNat < 48 ∨ (57 < s[k].toNat ∧ s[k].toNat < 97) ∨ 122 < s[k].toNat ∨ (97 ≤ s[k].toNat ∧ s[k].toNat ≤ 122) ∨ (48 ≤ s[k].toNat ∧ s[k].toNat ≤ 57) := by omega
          rcases hc with hc | hc | hc | hc | hc
          · have HC := hide (nameOk_not hlt (nameByte_no (Or.inl hc)))
            have d1 : decide ((97 : Int) ≤ s[k].toNat) = false := by simp; omega
            have d2 : decide ((s[k].toNat : Int) ≤ 122) = true := by simp; omega
            have d3 : decide ((48 : Int) ≤ s[k].toNat) = false := by simp; omega
            have d4 : decide ((s[k].toNat : Int) ≤ 57) = true := by simp; omega
            go_wp2_with fail
            go_ret
            exact ⟨ret_bool (unhide HC).symm, rfl⟩
          · have HC := hide (nameOk_not hlt (nameByte_no (Or.inr (Or.inl hc))))
            obtain ⟨hc1, hc2⟩ := hc
            have d1 : decide ((97 : Int) ≤ s[k].toNat) = false := by simp; omega
            have d2 : decide ((s[k].toNat : Int) ≤ 122) = true := by simp; omega
            have d3 : decide ((48 : Int) ≤ s[k].toNat) = true := by simp; omega
            have d4 : decide ((s[k].toNat : Int) ≤ 57) = false := by simp; omega
            go_wp2_with fail
            go_ret
            exact ⟨ret_bool (unhide HC).symm, rfl⟩
          · have HC := hide (nameOk_not hlt (nameByte_no (Or.inr (Or.inr hc))))
            have d1 : decide ((97 : Int) ≤ s[k].toNat) = true := by simp; omega
            have d2 : decide ((s[k].toNat : Int) ≤ 122) = false := by simp; omega
            have d3 : decide ((48 : Int) ≤ s[k].toNat) = true := by simp; omega
            have d4 : decide ((s[k].toNat : Int) ≤ 57) = false := by simp; omega
            go_wp2_with fail
            go_ret
            exact ⟨ret_bool (unhide HC).symm, rfl⟩
          · have HN := hide (allTo_succ HA.out hlt (nameByte_yes (Or.inl hc)))
            obtain ⟨hc1, hc2⟩ := hc
            have d1 : decide ((97 : Int) ≤ s[k].toNat) = true := by simp; omega
            have d2 : decide ((s[k].toNat : Int) ≤ 122) = true := by simp; omega
            have d3 : decide ((48 : Int) ≤ s[k].toNat) = true := by simp; omega
            have d4 : decide ((s[k].toNat : Int) ≤ 57) = false := by simp; omega
            go_wp2_with fail
            go_round
            case rel => exact ⟨k + 1, by omega, by go_num, HN⟩
            case measure => simp [intOf]; omega
          · have HN := hide (allTo_succ HA.out hlt (nameByte_yes (Or.inr hc)))
            obtain ⟨hc1, hc2⟩ := hc
            have d1 : decide ((97 : Int) ≤ s[k].toNat) = false := by simp; omega
            have d2 : decide ((s[k].toNat : Int) ≤ 122) = true := by simp; omega
            have d3 : decide ((48 : Int) ≤ s[k].toNat) = true := by simp; omega
            have d4 : decide ((s[k].toNat : Int) ≤ 57) = true := by simp; omega
            go_wp2_with fail
            go_round
            case rel => exact ⟨k + 1, by omega, by go_num, HN⟩
            case measure => simp [intOf]; omega
        · go_wp2_with fail
          go_ret
          obtain rfl : k = s.size := by omega
          exact ⟨ret_bool (nameOk_yes (by omega) (by omega) (unhide HF) HA.out).symm, rfl⟩
  · have hd : decide ((1 : Int) ≤ s.size ∧ (s.size : Int) ≤ 8) = false := by simp; omega
    go_enter Tryd.func14, Tryd.ntmps14
    go_wp2_with (go_at_call 13; refine (l6In_any _ _ _ _).mono ?_; rintro e w' ⟨rfl, rfl⟩)
    go_ret
    exact ⟨ret_bool (nameOk_len (by omega)).symm, rfl⟩

theorem geqS (t : TypeId) (a b : ByteArray) : binOp .geq t (.string a) (.string b) = pure (.bool !(Op.bytesLess a.toList b.toList)) := by simp [binOp, Op.stringOp]

set_option maxHeartbeats 400000 in
theorem l1Rise_any (v : Value) (ss : List ByteArray) (w : World) {P : Nat → Prop} (hP : ∀ b, P b → b < w.heap.size) (hv : StrsAt P w v ss) :
    Calls Tryd.prog 52 #[v] w fun e w' => e = .returned (.bool (riseB ss)) ∧ Below w.heap.size w w' := by
  obtain ⟨a, cap, rfl, hlen, hc⟩ := hv
  have HC := hide hc; have HP := hide hP
  clear hc hP
  go_enter Tryd.func52, Tryd.ntmps52
  go_wp2_with fail
  go_loopw [3] (fun i wr => ∃ (k : Nat), k ≤ ss.length ∧ i = .int .i64 k ∧ Hid (∀ j, j < k → good ss j = true) ∧ Below w.heap.size w wr) (fun i _ => ss.length - (intOf i).toNat)
  case atStart => exact ⟨0, Nat.zero_le _, rfl, hide (fun j hj => by omega), Below.refl _ _⟩
  case round =>
    obtain ⟨k, hk, rfl, HG, hb⟩ := hrel
    by_cases hlt : k < ss.length
    · obtain ⟨b, o, rfl, hpb, hcell, hsz⟩ := unhide HC k hlt
      have e1 : wr.cell? ⟨b, o + k, none⟩ = some (.string ss[k]) := by rw [hb.cell (unhide HP b hpb)]; exact hcell
      clear hcell hpb
      have hname := fun w => l6NameOk_any ss[k] w hsz
      have HN := hide hname; clear hname
      by_cases hn : nameOkB ss[k] = true
      · by_cases h0 : 0 < k
        · obtain ⟨b', o', he, hpb, hcell, -⟩ := unhide HC (k - 1) (by omega)
          simp only [Option.some.injEq, Addr.mk.injEq, and_true] at he
          obtain ⟨rfl, rfl⟩ := he
          have e0 : wr.cell? ⟨b, o + (k - 1), none⟩ = some (.string (ss[k - 1]'(by omega))) := by rw [hb.cell (unhide HP b hpb)]; exact hcell
          have hd0 : decide ((0 : Int) < k) = true := by simp; omega
          have hgd := good_pos hlt h0 hn
          generalize hlb : Op.bytesLess (ss[k - 1]'(by omega)).toList ss[k].toList = lb at hgd
          have hi1 : ((k : Int) - 1).toNat = k - 1 := by omega
          have HGD := hide hgd
          clear hcell hpb hgd
          have hge := geqS
          cases lb
          · have HR := hide (rise_no hlt (unhide HGD))
            go_wp2_with fail
            go_quiet ((go_at_call 14; exact Calls.quiet_of_same (unhide HN _)))
            go_wp2_with fail
            go_ret
            exact ⟨ret_bool (unhide HR).symm, below_drewN hb _⟩
          · go_wp2_with fail
            go_quiet ((go_at_call 14; exact Calls.quiet_of_same (unhide HN _)))
            go_wp2_with fail
            go_roundw
            case rel => exact ⟨k + 1, by omega, by go_num, hide (fun j hj => by
              by_cases e : j = k
              · subst e; exact unhide HGD
              · exact HG.out j (by omega)), below_drewN hb _⟩
            case measure => simp [intOf]; omega
        · have hd0 : decide (0 < k) = false := by simp; omega
          have HK0 : Hid (k = 0) := by show k = 0; omega
          clear h0
          go_wp2_with fail
          go_quiet ((go_at_call 14; exact Calls.quiet_of_same (unhide HN _)))
          go_wp2_with fail
          go_roundw
          case rel => exact ⟨k + 1, by omega, by go_num, hide (fun j hj => by have := HK0.out; subst this; obtain rfl : j = 0 := by omega
                                                                              exact good_zero hlt hn), below_drewN hb _⟩
          case measure => simp [intOf]; omega
      · have hn' : nameOkB ss[k] = false := by simpa using hn
        have HR := hide (rise_no hlt (good_name hlt hn'))
        clear hn
        go_wp2_with fail
        go_quiet ((go_at_call 14; exact Calls.quiet_of_same (unhide HN _)))
        go_wp2_with fail
        go_ret
        exact ⟨ret_bool (unhide HR).symm, below_drewN hb _⟩
    · go_wp2_with fail
      go_ret
      exact ⟨ret_bool (rise_yes (fun i hi => HG.out i (by omega))).symm, hb⟩
end Go.Proofs.YtbigchdhpdgicaaDoor

/- The walk of the program's namesAscend: what it answers. No conditions. -/

namespace Go.Proofs.YtbigchdhpdgicaaDoor
open Go Go.RowKit

set_option maxHeartbeats 400000 in
theorem namesAscend_any (v : Value) (ss : List ByteArray) (w : World) {P : Nat → Prop} (hP : ∀ b, P b → b < w.heap.size) (hv : StrsAt P w v ss) :
    Calls Tryd.prog 82 #[v] w fun e w' => e = .returned (.bool (riseB ss)) ∧ w' = w := by
  obtain ⟨a, cap, rfl, hlen, hc⟩ := hv
  have HC := hide hc; have HP := hide hP
  clear hc hP
  go_enter Tryd.func82, Tryd.ntmps82
  go_wp2_with fail
  go_loop [7] (fun i => ∃ (k : Nat), k ≤ ss.length ∧ i = .int .i64 k ∧ Hid (∀ j, j < k → good ss j = true)) (fun i => ss.length - (intOf i).toNat)
  case atStart => exact ⟨0, Nat.zero_le _, rfl, hide (fun j hj => by omega)⟩
  case round =>
    obtain ⟨k, hk, rfl, HG⟩ := hrel
    by_cases hlt : k < ss.length
    · obtain ⟨b, o, rfl, hpb, hcell, hsz⟩ := unhide HC k hlt
      have hname := fun w => nameOk_any ss[k] w hsz
      have HN := hide hname; clear hname hpb
      by_cases hn : nameOkB ss[k] = true
      · by_cases h0 : 0 < k
        · obtain ⟨b', o', he, -, e0, -⟩ := unhide HC (k - 1) (by omega)
          simp only [Option.some.injEq, Addr.mk.injEq, and_true] at he
          obtain ⟨rfl, rfl⟩ := he
          have hd0 : decide ((0 : Int) < k) = true := by simp; omega
          have hgd := good_pos hlt h0 hn
          generalize hlb : Op.bytesLess (ss[k - 1]'(by omega)).toList ss[k].toList = lb at hgd
          have hi1 : ((k : Int) - 1).toNat = k - 1 := by omega
          have HGD := hide hgd
          clear hgd
          have hge := geqS
          cases lb
          · have HR := hide (rise_no hlt (unhide HGD))
            go_wp2_with (go_at_call 34; refine (unhide HN _).mono ?_; rintro e w' ⟨rfl, rfl⟩)
            go_ret
            exact ⟨ret_bool (unhide HR).symm, rfl⟩
          · go_wp2_with (go_at_call 34; refine (unhide HN _).mono ?_; rintro e w' ⟨rfl, rfl⟩)
            go_round
            case rel => exact ⟨k + 1, by omega, by go_num, hide (fun j hj => by
              by_cases e : j = k
              · subst e; exact unhide HGD
              · exact HG.out j (by omega))⟩
            case measure => simp [intOf]; omega
        · have hd0 : decide (0 < k) = false := by simp; omega
          have HK0 : Hid (k = 0) := by show k = 0; omega
          clear h0
          go_wp2_with (go_at_call 34; refine (unhide HN _).mono ?_; rintro e w' ⟨rfl, rfl⟩)
          go_round
          case rel => exact ⟨k + 1, by omega, by go_num, hide (fun j hj => by have := HK0.out; subst this; obtain rfl : j = 0 := by omega
                                                                              exact good_zero hlt hn)⟩
          case measure => simp [intOf]; omega
      · have hn' : nameOkB ss[k] = false := by simpa using hn
        have HR := hide (rise_no hlt (good_name hlt hn'))
        clear hn
        go_wp2_with (go_at_call 34; refine (unhide HN _).mono ?_; rintro e w' ⟨rfl, rfl⟩)
        go_ret
        exact ⟨ret_bool (unhide HR).symm, rfl⟩
    · go_wp2_with fail
      go_ret
      exact ⟨ret_bool (rise_yes (fun i hi => HG.out i (by omega))).symm, rfl⟩
end Go.Proofs.YtbigchdhpdgicaaDoor
