/- A part. -/
import Derived.Test.YtbkagahmiibclaaGreatDoorPart07
import Derived.WalkLawsBesides
namespace Go.Proofs.YtbkagahmiibclaaGreatDoor
open Go Go.RowKit
set_option maxRecDepth 100000
set_option maxHeartbeats 3200000
def ByNew (w w' : World) (e : Ending) (l : List UInt8) : Prop := ∃ a n cap, e = .returned (.slice a n cap) ∧ n = l.length ∧ ByRow w.heap.size w' (.slice a n cap) l ∧ Below w.heap.size w w'
theorem u8_nat (n : Nat) (h : n < 256) : (UInt8.ofNat n).toNat = n := by simp; omega
theorem l4Short_any (s : ByteArray) (w : World) (hs : s.size ≤ 255) :
 Calls Tryz.prog 24 #[.string s] w fun e w' => ByNew w w' e (shortB s) := by
 have hu : (UInt8.ofNat s.size).toNat = s.size := u8_nat _ (by omega)
 obtain ⟨cap, W, hrun, hgrow, hlt, hcell⟩ := bytes_of (w.alloc (.cells #[.int .u8 s.size] 5)) s
 have hsz : s.data.toList.length = s.size := by simp
 rw [World.size_alloc] at hrun hcell hlt
 have hrow : ByRow w.heap.size W (.slice (some ⟨w.heap.size, 0, none⟩) 1 1) [UInt8.ofNat s.size] := by
  have := ByRow.fresh w (UInt8.ofNat s.size)
  rw [hu] at this
  exact World.ownsRow.kept this hgrow (by simp [Value.ownBlock])
 have hbl : Below w.heap.size w W := ((Below.refl _ _).alloc (Nat.le_refl _) _).grown hgrow (by simp) (by simp)
 have HROW := hH hrow; have HBL := hH hbl; have HCELL := hH hcell; have HSZ := hH hsz; have HU := hH hu
 clear hrow hbl hcell hsz hu hgrow
 go_enter Tryz.func24, Tryz.ntmps24
 go_wp2_with (at_builtin; refine append_bytes _ rfl _ _ rfl w.heap.size (.slice (some ⟨w.heap.size, 0, none⟩) 1 1) [UInt8.ofNat s.size] s.data.toList rfl (uh HROW) ⟨w.heap.size + 1, 0, none⟩ s.size cap rfl (uh HSZ).symm (uh HCELL) (by rw [uh HSZ]; simp; omega) (uh HBL).size ?_; intro a' n' cap' w2 HN HR HG)
 have hbl2 := (uh HBL).trans (ByRow.below (uh HROW) (uh HG) (uh HBL).size)
 go_ret
 exact ⟨a', n', cap', rfl, HN.out, HR.out, hbl2⟩
theorem numB_len {n : Int} (h : n.natAbs ≤ 999999999) : (numB n).length ≤ 6 := by
 have := sevB_len h
 simp [numB]; omega
structure NumPk (w wr : World) (n : Int) (m : Nat) (v : Value) (len : Nat) (l : List UInt8) : Prop where
 row : ByRow w.heap.size wr v l
 below : Below w.heap.size w wr
 len : len = l.length
 goal : l ++ sevB m = numB n
theorem NumPk.short {w wr : World} {n : Int} {m : Nat} {v : Value} {len : Nat} {l : List UInt8} (h : NumPk w wr n m v len l) (hn : n.natAbs ≤ 999999999) : l.length ≤ 6 := by
 have := numB_len hn
 rw [← h.goal, List.length_append] at this
 omega
theorem bcN (k : Nat) (h : k < 256) : bc [UInt8.ofNat k] = [.int .u8 (k : Int)] := by simp [bc]; omega
theorem l4Num_any (n : Int) (w : World) (hn : n.natAbs ≤ 999999999) :
 Calls Tryz.prog 59 #[.int .i64 n] w fun e w' => ByNew w w' e (numB n) := by
 have hI : -999999999 ≤ n ∧ n ≤ 999999999 := by omega
 obtain ⟨hI1, hI2⟩ := hI
 have hb0 : ∀ o, Below w.heap.size w (w.alloc o) := fun o => (Below.refl _ _).alloc (Nat.le_refl _) o
 have H0 : Hid (0 ≤ n → NumPk w (w.alloc (.cells #[.int .u8 0] 5)) n n.natAbs (.slice (some ⟨w.heap.size, 0, none⟩) 1 1) 1 [0]) := fun h =>
  ⟨ByRow.fresh w 0, hb0 _, rfl, by simp [numB]; omega⟩
 have H1 : Hid (n < 0 → NumPk w (w.alloc (.cells #[.int .u8 1] 5)) n n.natAbs (.slice (some ⟨w.heap.size, 0, none⟩) 1 1) 1 [1]) := fun h =>
  ⟨ByRow.fresh w 1, hb0 _, rfl, by simp [numB, h]⟩
 have HN := hH hn
 clear hb0
 by_cases hneg : n < 0
 · have HA := hH (uh H1 hneg)
   have hab : -n = (n.natAbs : Int) := by omega
   clear H0 H1
   go_enter Tryz.func59, Tryz.ntmps59
   go_wp2_with fail
   go_loopw [0, 3] (fun i o wr => ∃ (m : Nat) (a : Option Addr) (len cap : Nat) (l : List UInt8), i = .int .i64 m ∧ o = .slice a len cap ∧ m ≤ 999999999 ∧ Hid (NumPk w wr n m (.slice a len cap) len l)) (fun i _ _ => (intOf i).toNat)
   case atStart => exact ⟨n.natAbs, _, _, _, _, rfl, rfl, hn, HA⟩
   case round =>
    clear HA
    obtain ⟨m, a, len, cap, l, rfl, rfl, hm, HA⟩ := hrel
    have hl6 := HA.out.short (uh HN)
    have hsz := HA.out.below.size
    by_cases h127 : 127 < m
    · have hk : 128 + m % 128 < 256 := by omega
      have HK := hH (bcN _ hk)
      have hcast : ((128 + m % 128 : Nat) : Int) = 128 + (m : Int) % 128 := by omega
      rw [hcast] at HK
      have HC := hH hcast
      clear hcast
      go_wp2_with (at_builtin; refine append_bytes _ rfl _ _ rfl w.heap.size (.slice a len cap) l [UInt8.ofNat (128 + m % 128)] rfl (World.ownsRow.alloc HA.out.row _) ⟨wr.heap.size, 0, none⟩ 1 1 rfl rfl (by rw [uh HK]; exact cell_one _ _ _) (by simp; omega) (by simp; omega) ?_; intro a' n' cap' w2 HN2 HR HG)
      have hbl := HA.out.below.trans (((Below.refl _ wr).alloc hsz (.cells #[.int .u8 (128 + (m : Int) % 128)] 5)).trans (ByRow.below (World.ownsRow.alloc HA.out.row (.cells #[.int .u8 (128 + (m : Int) % 128)] 5)) HG.out (by simp; omega)))
      have HAN : Hid (NumPk w w2 n (m / 128) (.slice a' n' cap') n' (l ++ [UInt8.ofNat (128 + m % 128)])) := ⟨HR.out, hbl, HN2.out, by have := HA.out.goal; rw [sevB_more h127] at this; simpa using this⟩
      clear hbl HG HR HN2
      go_wp2_with fail
      go_roundw
      case rel => exact ⟨m / 128, a', n', cap', _, by go_num, rfl, by omega, HAN⟩
      case measure => simp [intOf]; omega
    · have hk : m < 256 := by omega
      have HK := hH (bcN _ hk)
      go_wp2_with (at_builtin; refine append_bytes _ rfl _ _ rfl w.heap.size (.slice a len cap) l [UInt8.ofNat m] rfl (World.ownsRow.alloc HA.out.row _) ⟨wr.heap.size, 0, none⟩ 1 1 rfl rfl (by rw [uh HK]; exact cell_one _ _ _) (by simp; omega) (by simp; omega) ?_; intro a' n' cap' w2 HN2 HR HG)
      have hbl := HA.out.below.trans (((Below.refl _ wr).alloc hsz (.cells #[.int .u8 (m : Int)] 5)).trans (ByRow.below (World.ownsRow.alloc HA.out.row (.cells #[.int .u8 (m : Int)] 5)) HG.out (by simp; omega)))
      have hgoal : l ++ [UInt8.ofNat m] = numB n := by have := HA.out.goal; rw [sevB_last h127] at this; exact this
      rw [hgoal] at HR HN2
      have HBL := hH hbl
      clear hbl HG
      go_ret
      exact ⟨a', n', cap', rfl, HN2.out, HR.out, uh HBL⟩
 · have HA := hH (uh H0 (by omega))
   have hab : n = (n.natAbs : Int) := by omega
   have HAB := hH hab
   clear H0 H1 hab
   go_enter Tryz.func59, Tryz.ntmps59
   go_wp2_with fail
   go_loopw [0, 3] (fun i o wr => ∃ (m : Nat) (a : Option Addr) (len cap : Nat) (l : List UInt8), i = .int .i64 m ∧ o = .slice a len cap ∧ m ≤ 999999999 ∧ Hid (NumPk w wr n m (.slice a len cap) len l)) (fun i _ _ => (intOf i).toNat)
   case atStart => exact ⟨n.natAbs, _, _, _, _, by rw [← uh HAB], rfl, hn, HA⟩
   case round =>
    clear HA
    obtain ⟨m, a, len, cap, l, rfl, rfl, hm, HA⟩ := hrel
    have hl6 := HA.out.short (uh HN)
    have hsz := HA.out.below.size
    by_cases h127 : 127 < m
    · have hk : 128 + m % 128 < 256 := by omega
      have HK := hH (bcN _ hk)
      have hcast : ((128 + m % 128 : Nat) : Int) = 128 + (m : Int) % 128 := by omega
      rw [hcast] at HK
      have HC := hH hcast
      clear hcast
      go_wp2_with (at_builtin; refine append_bytes _ rfl _ _ rfl w.heap.size (.slice a len cap) l [UInt8.ofNat (128 + m % 128)] rfl (World.ownsRow.alloc HA.out.row _) ⟨wr.heap.size, 0, none⟩ 1 1 rfl rfl (by rw [uh HK]; exact cell_one _ _ _) (by simp; omega) (by simp; omega) ?_; intro a' n' cap' w2 HN2 HR HG)
      have hbl := HA.out.below.trans (((Below.refl _ wr).alloc hsz (.cells #[.int .u8 (128 + (m : Int) % 128)] 5)).trans (ByRow.below (World.ownsRow.alloc HA.out.row (.cells #[.int .u8 (128 + (m : Int) % 128)] 5)) HG.out (by simp; omega)))
      have HAN : Hid (NumPk w w2 n (m / 128) (.slice a' n' cap') n' (l ++ [UInt8.ofNat (128 + m % 128)])) := ⟨HR.out, hbl, HN2.out, by have := HA.out.goal; rw [sevB_more h127] at this; simpa using this⟩
      clear hbl HG HR HN2
      go_wp2_with fail
      go_roundw
      case rel => exact ⟨m / 128, a', n', cap', _, by go_num, rfl, by omega, HAN⟩
      case measure => simp [intOf]; omega
    · have hk : m < 256 := by omega
      have HK := hH (bcN _ hk)
      go_wp2_with (at_builtin; refine append_bytes _ rfl _ _ rfl w.heap.size (.slice a len cap) l [UInt8.ofNat m] rfl (World.ownsRow.alloc HA.out.row _) ⟨wr.heap.size, 0, none⟩ 1 1 rfl rfl (by rw [uh HK]; exact cell_one _ _ _) (by simp; omega) (by simp; omega) ?_; intro a' n' cap' w2 HN2 HR HG)
      have hbl := HA.out.below.trans (((Below.refl _ wr).alloc hsz (.cells #[.int .u8 (m : Int)] 5)).trans (ByRow.below (World.ownsRow.alloc HA.out.row (.cells #[.int .u8 (m : Int)] 5)) HG.out (by simp; omega)))
      have hgoal : l ++ [UInt8.ofNat m] = numB n := by have := HA.out.goal; rw [sevB_last h127] at this; exact this
      rw [hgoal] at HR HN2
      have HBL := hH hbl
      clear hbl HG
      go_ret
      exact ⟨a', n', cap', rfl, HN2.out, HR.out, uh HBL⟩

theorem bcI (x : Int) (h0 : 0 ≤ x) (h1 : x < 256) : bc [UInt8.ofNat x.toNat] = [.int .u8 x] := by
 rw [bcN _ (by omega)]
 have : ((x.toNat : Nat) : Int) = x := by omega
 rw [this]
theorem ByRow.freshI (w : World) (x : Int) (h0 : 0 ≤ x) (h1 : x < 256) : ByRow w.heap.size (w.alloc (.cells #[.int .u8 x] 5)) (.slice (some ⟨w.heap.size, 0, none⟩) 1 1) [UInt8.ofNat x.toNat] := by
 have := ByRow.fresh w (UInt8.ofNat x.toNat)
 have e : (((UInt8.ofNat x.toNat).toNat : Nat) : Int) = x := by rw [u8_nat _ (by omega)]; omega
 rw [e] at this
 exact this
theorem ByRow.stay {base : Nat} {w w' : World} {v : Value} {l : List UInt8} (h : ByRow base w v l) (hb : Below w.heap.size w w') : ByRow base w' v l :=
 World.ownsRow.kept h (row := none) ⟨hb.os, hb.tape, hb.output, hb.size, fun i hi _ => hb.block i hi⟩ (by cases hv : v.ownBlock <;> simp)
structure TAt (w : World) (box : Obj) (wr : World) (v : Value) (len : Nat) (l : List UInt8) : Prop where
 row : ByRow (w.heap.size + 1) wr v l
 below : Below (w.heap.size + 1) (w.alloc box) wr
 len : len = l.length
theorem TAt.size {w : World} {box : Obj} {wr : World} {v : Value} {len : Nat} {l : List UInt8} (h : TAt w box wr v len l) : w.heap.size + 1 ≤ wr.heap.size := by
 have := h.below.size; simpa using this
theorem TAt.app {w : World} {box : Obj} {wr w2 w3 : World} {v v' : Value} {len n' : Nat} {l news : List UInt8} (h : TAt w box wr v len l) (hb : Below wr.heap.size wr w2)
 (hn : n' = (l ++ news).length) (hr : ByRow (w.heap.size + 1) w3 v' (l ++ news)) (hg : w2.grownBy w3 v.ownBlock) : TAt w box w3 v' n' (l ++ news) :=
 ⟨hr, h.below.trans ((hb.mono h.size).trans (ByRow.below (h.row.stay hb) hg (Nat.le_trans h.size hb.size))), hn⟩
theorem TAt.end {w : World} {box : Obj} {wr : World} {a : Option Addr} {len cap : Nat} {l : List UInt8} (h : TAt w box wr (.slice a len cap) len l) : ByNew w wr (.returned (.slice a len cap)) l :=
 ⟨a, len, cap, rfl, h.len, h.row.base (Nat.le_succ _), ((Below.refl _ _).alloc (Nat.le_refl _) box).trans (h.below.mono (by omega))⟩
theorem TAt.start (w : World) (box : Obj) (x : Int) (h0 : 0 ≤ x) (h1 : x < 256) : TAt w box ((w.alloc box).alloc (.cells #[.int .u8 x] 5)) (.slice (some ⟨w.heap.size + 1, 0, none⟩) 1 1) 1 [UInt8.ofNat x.toNat] := by
 have hr := ByRow.freshI (w.alloc box) x h0 h1
 rw [World.size_alloc] at hr
 exact ⟨hr, (Below.refl _ _).alloc (by simp) _, rfl⟩
theorem TAt.old {w : World} {box : Obj} {wr : World} {v : Value} {len : Nat} {l : List UInt8} (h : TAt w box wr v len l) : Below w.heap.size w wr :=
 ((Below.refl _ _).alloc (Nat.le_refl _) box).trans (h.below.mono (by omega))
theorem ByNew.form {w w' : World} {e : Ending} {l : List UInt8} (h : ByNew w w' e l) (hl : 0 < l.length) : ∃ g n cap, e = .returned (.slice (some ⟨g, 0, none⟩) n cap) ∧ n = l.length ∧ (∀ j u, (bc l)[j]? = some u → w'.cell? ((⟨g, 0, none⟩ : Addr).add j) = some u) ∧ Below w.heap.size w w' := by
 obtain ⟨a, n, cap, rfl, hn, hr, hb⟩ := h
 obtain ⟨g, cap', hv, -, -, hc⟩ := hr.form hl
 simp only [Value.slice.injEq] at hv
 obtain ⟨rfl, rfl, rfl⟩ := hv
 exact ⟨g, _, _, rfl, rfl, hc, hb⟩
def TrSaid (n : Nat) : Prop := ∀ (t : Tr), tsz t < n → ∀ (P : Nat → Prop) (c : C5) (d : Int) (w : World), (∀ b, P b → b < w.heap.size) → Rep P w t c → 0 < pT t d →
    Calls Tryz.prog 25 #[.agg #[c.c0, c.c1, c.c2, c.c3, c.c4]] w fun e w' => ByNew w w' e (treeB t)
theorem l4Tree_step (n : Nat) (IH : TrSaid n) : TrSaid (n + 1) := by
 intro t hn P c d w hP hrep hok
 obtain ⟨c0, c1, c2, c3, c4⟩ := c
 obtain ⟨e0, e1, e2, -, -, -, hns, a, cap, e4, -, hks⟩ := hrep.open
 simp only at e0 e1 e2 e4 hns
 subst e0 e1 e2 e4
 obtain ⟨a3, cap3, rfl, -, hns⟩ := hns
 have hso := ok_sort hok
 have hs1 : 1 ≤ t.sort := by omega
 have hs6 : t.sort ≤ 6 := by omega
 have htb := treeB_eq t
 have hlen : (treeB t).length ≤ 8520 := by have := treeB_len t d hok; have := pT_bd t d; omega
 have HT0 := hH (fun box => TAt.start w box t.sort (by omega) (by omega))
 have HLEN := hH hlen; have HOK := hH hok; have HP := hH hP
 clear hlen hP hrep
 rcases (show t.sort = 1 ∨ t.sort = 2 ∨ t.sort = 3 ∨ (t.sort ≠ 1 ∧ t.sort ≠ 2 ∧ t.sort ≠ 3) by omega) with h | h | h | ⟨hx1, hx2, hx3⟩
 · have hnum := ok_num hok h
   have HE : Hid (treeB t = [UInt8.ofNat t.sort.toNat] ++ numB t.num) := by show treeB t = _; rw [htb, if_pos h]; rfl
   have h1 : (t.sort == 1) = true := by simpa using h
   have hnl := numB_len (n := t.num) (by omega)
   have HC := hH (fun W => l4Num_any t.num W (by omega))
   clear h hso htb hok hks hns hnum
   go_enter Tryz.func25, Tryz.ntmps25
   go_wp2_with fail
   refine (uh HC _).mono ?_
   intro e w2 hnew
   obtain ⟨g2, n2, cap2, rfl, hn2, hc2, hb2⟩ := hnew.form (by simp [numB])
   have hsz2 := hb2.size
   have HC2 := hH hc2; have HB2 := hH hb2; have HN2 := hH hn2
   clear hnew hc2 hb2 hn2 HC
   go_wp2_with (at_builtin; refine append_bytes _ rfl _ _ rfl (w.heap.size + 1) (.slice (some ⟨w.heap.size + 1, 0, none⟩) 1 1) [UInt8.ofNat t.sort.toNat] (numB t.num) rfl ((uh HT0 _).row.stay (uh HB2)) ⟨g2, 0, none⟩ n2 cap2 rfl (uh HN2) (uh HC2) (by simp; omega) (by simp at hsz2; omega) ?_; intro a' n' cap' w3 HN HR HG)
   have hfin := (uh HT0 _).app (uh HB2) HN.out HR.out HG.out
   rw [← HE.out] at hfin
   have HF := hH hfin
   clear hfin HN HR HG HT0 HB2
   go_ret
   exact (uh HF).end
 · have htx := ok_text hok h
   have HE : Hid (treeB t = [UInt8.ofNat t.sort.toNat] ++ shortB t.text) := by show treeB t = _; rw [htb, if_neg (by omega), if_pos h]; rfl
   have h1 : (t.sort == 1) = false := by simp; omega
   have h2 : (t.sort == 2) = true := by simpa using h
   have hnl := shortB_len t.text
   have HC := hH (fun W => l4Short_any t.text W (by omega))
   clear h hso htb hok hks hns 
   go_enter Tryz.func25, Tryz.ntmps25
   go_wp2_with fail
   refine (uh HC _).mono ?_
   intro e w2 hnew
   obtain ⟨g2, n2, cap2, rfl, hn2, hc2, hb2⟩ := hnew.form (by rw [hnl]; omega)
   have hsz2 := hb2.size
   have HC2 := hH hc2; have HB2 := hH hb2; have HN2 := hH hn2
   clear hnew hc2 hb2 hn2 HC
   go_wp2_with (at_builtin; refine append_bytes _ rfl _ _ rfl (w.heap.size + 1) (.slice (some ⟨w.heap.size + 1, 0, none⟩) 1 1) [UInt8.ofNat t.sort.toNat] (shortB t.text) rfl ((uh HT0 _).row.stay (uh HB2)) ⟨g2, 0, none⟩ n2 cap2 rfl (uh HN2) (uh HC2) (by simp; omega) (by simp at hsz2; omega) ?_; intro a' n' cap' w3 HN HR HG)
   have hfin := (uh HT0 _).app (uh HB2) HN.out HR.out HG.out
   rw [← HE.out] at hfin
   have HF := hH hfin
   clear hfin HN HR HG HT0 HB2
   go_ret
   exact (uh HF).end
 · have hfl := ok_flag hok h
   have HE : Hid (treeB t = [UInt8.ofNat t.sort.toNat] ++ [UInt8.ofNat t.num.toNat]) := by show treeB t = _; rw [htb, if_neg (by omega), if_neg (by omega), if_pos h]; rfl
   have h1 : (t.sort == 1) = false := by simp; omega
   have h2 : (t.sort == 2) = false := by simp; omega
   have h3 : (t.sort == 3) = true := by simpa using h
   obtain ⟨hf0, hf1⟩ := hfl
   have HK := hH (bcI t.num hf0 (by omega))
   clear h hso htb hok hks hns
   have hbx : ∀ (W : World) o, Below W.heap.size W (W.alloc o) := fun W o => (Below.refl _ _).alloc (Nat.le_refl _) o
   have HBX := hH hbx
   clear hbx
   go_enter Tryz.func25, Tryz.ntmps25
   go_wp2_with (at_builtin; refine append_bytes _ rfl _ _ rfl (w.heap.size + 1) (.slice (some ⟨w.heap.size + 1, 0, none⟩) 1 1) [UInt8.ofNat t.sort.toNat] [UInt8.ofNat t.num.toNat] rfl ((uh HT0 _).row.stay (uh HBX _ _)) ⟨w.heap.size + 1 + 1, 0, none⟩ 1 1 rfl rfl (by rw [uh HK]; have := cell_one ((w.alloc (.cells #[.int .i64 t.sort, .int .i64 t.num, .string t.text, .slice a3 t.names.length cap3, .slice a t.kids.length cap] 26)).alloc (.cells #[.int .u8 t.sort] 5)) (.int .u8 t.num) 5; simpa using this) (by simp) (by simp only [World.size_alloc]; omega) ?_; intro a' n' cap' w3 HN HR HG)
   have hfin := (uh HT0 _).app (uh HBX _ _) HN.out HR.out HG.out
   rw [← HE.out] at hfin
   have HF := hH hfin
   clear hfin HN HR HG HT0 HBX
   go_ret
   exact (uh HF).end
 · have hmany := ok_many hok
   have h1 : (t.sort == 1) = false := by simp; omega
   have h2 : (t.sort == 2) = false := by simp; omega
   have h3 : (t.sort == 3) = false := by simp; omega
   have HE : Hid (treeB t = ([UInt8.ofNat t.sort.toNat] ++ [UInt8.ofNat t.kids.length]) ++ kidsB (decide (t.sort = 5)) t.names t.kids) := by show treeB t = _; rw [htb, if_neg hx1, if_neg hx2, if_neg hx3]; rfl
   have HK := hH (bcN t.kids.length (by omega))
   have hnm := ok_names hok
   have HKID := hH (fun k hk => ok_kid hok k hk)
   have HBD : Hid (∀ k, (hk : k < t.kids.length) → ((([UInt8.ofNat t.sort.toNat] ++ [UInt8.ofNat t.kids.length]) ++ kidsB (decide (t.sort = 5)) t.names (t.kids.take k)) ++ ((if decide (t.sort = 5) then shortB (t.names.getD k ByteArray.empty) else []) ++ treeB t.kids[k])).length ≤ 8520) := fun k hk => by
    have h1 := kidsB_le (decide (t.sort = 5)) t.names t.kids (k + 1)
    have h2 := HLEN.out
    rw [HE.out] at h2
    rw [List.append_assoc, ← kidsB_take _ _ _ _ hk]
    simp only [List.length_append] at h2 ⊢
    omega
   have HTS := hH (fun (k : Tr) (hk : k ∈ t.kids) => tsz_kid hk)
   have HHN := hH hn
   have hbx : ∀ (W : World) o, Below W.heap.size W (W.alloc o) := fun W o => (Below.refl _ _).alloc (Nat.le_refl _) o
   have HBX := hH hbx; have HNM := hH hnm; have HKS := hH hks; have HNS := hH hns; have HI := hH IH
   clear hso htb hok hbx hx1 hx2 hx3 hnm hks hns IH hn
   generalize hd5 : decide (t.sort = 5) = f at *
   have HD5 := hH hd5
   clear hd5
   have hf5 : (t.sort == 5) = f := by rw [← uh HD5]; rfl
   go_enter Tryz.func25, Tryz.ntmps25
   go_wp2_with (at_builtin; refine append_bytes _ rfl _ _ rfl (w.heap.size + 1) (.slice (some ⟨w.heap.size + 1, 0, none⟩) 1 1) [UInt8.ofNat t.sort.toNat] [UInt8.ofNat t.kids.length] rfl ((uh HT0 _).row.stay (uh HBX _ _)) ⟨w.heap.size + 1 + 1, 0, none⟩ 1 1 rfl rfl (by rw [uh HK]; have := cell_one ((w.alloc (.cells #[.int .i64 t.sort, .int .i64 t.num, .string t.text, .slice a3 t.names.length cap3, .slice a t.kids.length cap] 26)).alloc (.cells #[.int .u8 t.sort] 5)) (.int .u8 t.kids.length) 5; simpa using this) (by simp) (by simp only [World.size_alloc]; omega) ?_; intro a' n' cap' w3 HN HR HG)
   have hst := (uh HT0 _).app (uh HBX _ _) HN.out HR.out HG.out
   have HST := hH hst
   clear hst HN HR HG HT0 HK
   go_loopw [3, 4] (fun o i wr => ∃ (k : Nat) (ar : Option Addr) (len cp : Nat), k ≤ t.kids.length ∧ i = .int .i64 k ∧ o = .slice ar len cp ∧ Hid (TAt w (.cells #[.int .i64 t.sort, .int .i64 t.num, .string t.text, .slice a3 t.names.length cap3, .slice a t.kids.length cap] 26) wr (.slice ar len cp) len (([UInt8.ofNat t.sort.toNat] ++ [UInt8.ofNat t.kids.length]) ++ kidsB f t.names (t.kids.take k)))) (fun _ i _ => t.kids.length - (intOf i).toNat)
   case atStart => exact ⟨0, _, _, _, Nat.zero_le _, rfl, rfl, by rw [List.take_zero, kidsB, List.append_nil]; exact HST⟩
   case round =>
    clear HST
    obtain ⟨k, ar, len, cp, hk, rfl, rfl, HA⟩ := hrel
    have hbxr := (row5_alloc w (.int .i64 t.sort) (.int .i64 t.num) (.string t.text) (.slice a3 t.names.length cap3) (.slice a t.kids.length cap) 26).of_block (HA.out.below.block _ (by omega))
    have k0 := hbxr.cell (i := 0) (by omega); have k3 := hbxr.cell (i := 3) (by omega); have k4 := hbxr.cell (i := 4) (by omega)
    simp only [row5] at k0 k3 k4
    clear hbxr
    by_cases hlt : k < t.kids.length
    · obtain ⟨b, o, c, rfl, hpb, hcell, hrepk⟩ := uh HKS k hlt
      have HC5 := hH (fun (W : World) (hW : Below w.heap.size w W) => hcell.carry (hW.block b (uh HP b hpb)))
      have hsm : tsz t.kids[k] < n := by have := uh HTS t.kids[k] (List.getElem_mem hlt); have := uh HHN; omega
      have HCALL := hH (fun (W : World) (hW : Below w.heap.size w W) => uh HI t.kids[k] hsm P c (d + 1) W (fun b hb => Nat.lt_of_lt_of_le (uh HP b hb) hW.size) (Rep.carry (fun b hb => hW.block b (uh HP b hb)) (fun _ h => h) _ _ hrepk) (uh HKID k hlt))
      have hbd := uh HBD k hlt
      have hnext := kidsB_take f t.names t.kids k hlt
      obtain ⟨c0, c1, c2, c3, c4⟩ := c
      clear hpb hcell hrepk hsm
      cases f with
      | false =>
        have HLB : Hid ((([UInt8.ofNat t.sort.toNat] ++ [UInt8.ofNat t.kids.length]) ++ kidsB false t.names (t.kids.take k)).length + (treeB t.kids[k]).length ≤ 8520) := by
         simp only [Bool.false_eq_true, if_false, List.nil_append] at hbd
         rw [List.length_append] at hbd
         exact hbd
        have HNEXT : Hid ((([UInt8.ofNat t.sort.toNat] ++ [UInt8.ofNat t.kids.length]) ++ kidsB false t.names (t.kids.take k)) ++ treeB t.kids[k] = ([UInt8.ofNat t.sort.toNat] ++ [UInt8.ofNat t.kids.length]) ++ kidsB false t.names (t.kids.take (k + 1))) := by
         show _ = _
         rw [hnext]; simp
        obtain ⟨e0, e1, e2, e3, e4⟩ := uh HC5 wr HA.out.old
        simp only at e0 e1 e2 e3 e4
        clear hbd hnext HC5
        go_wp2_with fail
        refine (uh HCALL wr (HA.out).old).mono ?_
        intro e w6 hnew6
        obtain ⟨g6, n6, cap6, rfl, hn6, hc6, hb6⟩ := hnew6.form (by rw [treeB_eq]; simp)
        have hsz6 := hb6.size
        have HC6 := hH hc6; have HB6 := hH hb6; have HN6 := hH hn6; have HBS := hH (Nat.le_trans (HA.out).size hsz6)
        clear hnew6 hc6 hb6 hn6 hsz6
        go_wp2_with (at_builtin; refine append_bytes _ rfl _ _ rfl (w.heap.size + 1) (.slice ar len cp) (([UInt8.ofNat t.sort.toNat] ++ [UInt8.ofNat t.kids.length]) ++ kidsB false t.names (t.kids.take k)) (treeB t.kids[k]) rfl ((HA.out).row.stay (uh HB6)) ⟨g6, 0, none⟩ n6 cap6 rfl (uh HN6) (uh HC6) (Nat.le_trans (uh HLB) (by decide)) (uh HBS) ?_; intro a7 n7 cap7 w7 HN7 HR7 HG7)
        have hst7 := (HA.out).app (uh HB6) HN7.out HR7.out HG7.out
        rw [uh HNEXT] at hst7
        have HST7 := hH hst7
        clear hst7 HN7 HR7 HG7 HB6 HN6 HC6 HBS
        go_roundw
        case rel => exact ⟨k + 1, a7, n7, cap7, by omega, by go_num, rfl, HST7⟩
        case measure => simp [intOf]; omega
      | true =>
        obtain ⟨hnl, hn8⟩ := uh HNM (by simpa using uh HD5)
        have hkn : k < t.names.length := by omega
        obtain ⟨b', o', rfl, hpb', hcell', -⟩ := uh HNS k hkn
        have ec : wr.cell? ⟨b', o' + k, none⟩ = some (.string t.names[k]) := by rw [World.cell?_of_block (w := w) (HA.out.old.block b' (uh HP b' hpb'))]; exact hcell'
        have h8 := hn8 _ (List.getElem_mem hkn)
        have hgd := getD_lt t.names k hkn
        rw [hgd] at hbd hnext
        have HSH := hH (fun W => l4Short_any t.names[k] W (by omega))
        have HLA : Hid ((([UInt8.ofNat t.sort.toNat] ++ [UInt8.ofNat t.kids.length]) ++ kidsB true t.names (t.kids.take k)).length + (shortB t.names[k]).length ≤ 8520) := by
         simp only [if_true, List.length_append] at hbd ⊢
         show _ ≤ _
         omega
        have HLB : Hid (((([UInt8.ofNat t.sort.toNat] ++ [UInt8.ofNat t.kids.length]) ++ kidsB true t.names (t.kids.take k)) ++ shortB t.names[k]).length + (treeB t.kids[k]).length ≤ 8520) := by
         simp only [if_true, List.length_append] at hbd ⊢
         show _ ≤ _
         omega
        have HNEXT : Hid (((([UInt8.ofNat t.sort.toNat] ++ [UInt8.ofNat t.kids.length]) ++ kidsB true t.names (t.kids.take k)) ++ shortB t.names[k]) ++ treeB t.kids[k] = ([UInt8.ofNat t.sort.toNat] ++ [UInt8.ofNat t.kids.length]) ++ kidsB true t.names (t.kids.take (k + 1))) := by
         show _ = _
         rw [hnext]; simp
        have hsl := shortB_len t.names[k]
        have HSL := hH hsl
        clear hbd hnext hgd h8 hn8 hcell' hpb' hsl hnl
        go_wp2_with fail
        refine (uh HSH _).mono ?_
        intro e w2 hnew
        obtain ⟨g2, n2, cap2, rfl, hn2, hc2, hb2⟩ := hnew.form (by rw [uh HSL]; omega)
        have HC2 := hH hc2; have HB2 := hH hb2; have HN2 := hH hn2; have HBS := hH (Nat.le_trans HA.out.size hb2.size)
        clear hnew hc2 hb2 hn2 HSH
        go_wp2_with (at_builtin; refine append_bytes _ rfl _ _ rfl (w.heap.size + 1) (.slice ar len cp) (([UInt8.ofNat t.sort.toNat] ++ [UInt8.ofNat t.kids.length]) ++ kidsB true t.names (t.kids.take k)) (shortB t.names[k]) rfl (HA.out.row.stay (unhide HB2)) ⟨g2, 0, none⟩ n2 cap2 rfl (unhide HN2) (unhide HC2) (Nat.le_trans (unhide HLA) (by decide)) (unhide HBS) ?_; intro a4 n4 cap4 w4 HN4 HR4 HG4
                     have hst4 := HA.out.app (uh HB2) HN4.out HR4.out HG4.out
                     have hbx4 := (row5_alloc w (.int .i64 t.sort) (.int .i64 t.num) (.string t.text) (.slice (some ⟨b', o', none⟩) t.names.length cap3) (.slice (some ⟨b, o, none⟩) t.kids.length cap) 26).of_block (hst4.below.block _ (by omega))
                     have m4 := hbx4.cell (i := 4) (by omega)
                     simp only [row5] at m4
                     obtain ⟨e0, e1, e2, e3, e4⟩ := uh HC5 w4 hst4.old
                     simp only at e0 e1 e2 e3 e4
                     have HST4 := hH hst4
                     clear hst4 hbx4 HN4 HR4 HG4 HB2 HN2 HC2 HBS)
        refine (uh HCALL w4 (uh HST4).old).mono ?_
        intro e w6 hnew6
        obtain ⟨g6, n6, cap6, rfl, hn6, hc6, hb6⟩ := hnew6.form (by rw [treeB_eq]; simp)
        have hsz6 := hb6.size
        have HC6 := hH hc6; have HB6 := hH hb6; have HN6 := hH hn6; have HBS := hH (Nat.le_trans (uh HST4).size hsz6)
        clear hnew6 hc6 hb6 hn6 hsz6
        go_wp2_with (at_builtin; refine append_bytes _ rfl _ _ rfl (w.heap.size + 1) (.slice a4 n4 cap4) ((([UInt8.ofNat t.sort.toNat] ++ [UInt8.ofNat t.kids.length]) ++ kidsB true t.names (t.kids.take k)) ++ shortB t.names[k]) (treeB t.kids[k]) rfl ((uh HST4).row.stay (uh HB6)) ⟨g6, 0, none⟩ n6 cap6 rfl (uh HN6) (uh HC6) (Nat.le_trans (uh HLB) (by decide)) (uh HBS) ?_; intro a7 n7 cap7 w7 HN7 HR7 HG7)
        have hst7 := (uh HST4).app (uh HB6) HN7.out HR7.out HG7.out
        rw [uh HNEXT] at hst7
        have HST7 := hH hst7
        clear hst7 HN7 HR7 HG7 HB6 HN6 HC6 HBS
        go_roundw
        case rel => exact ⟨k + 1, a7, n7, cap7, by omega, by go_num, rfl, HST7⟩
        case measure => simp [intOf]; omega
    · go_wp2_with fail
      go_ret
      have hfin := HA.out
      rw [List.take_of_length_le (by omega), ← HE.out] at hfin
      exact hfin.end

def digitB (c : UInt8) : Bool := 48 ≤ c.toNat && c.toNat ≤ 57
theorem digit_yes {c : UInt8} (h : 48 ≤ c.toNat ∧ c.toNat ≤ 57) : digitB c = true := by unfold digitB; simp [h.1, h.2]
theorem digit_no {c : UInt8} (h : c.toNat < 48 ∨ 57 < c.toNat) : digitB c = false := by
 unfold digitB; simp only [Bool.and_eq_false_iff, decide_eq_false_iff_not]; omega
theorem nameByte_digit {c : UInt8} (h : c.toNat < 97 ∨ 122 < c.toNat) : nameByte c = digitB c := by
 unfold nameByte digitB
 rw [show (decide (97 ≤ c.toNat) && decide (c.toNat ≤ 122)) = false from by simp only [Bool.and_eq_false_iff, decide_eq_false_iff_not]; omega]
 rfl
theorem isDigit_any (c : UInt8) (w : World) : Calls Tryz.prog 66 #[.int .u8 c.toNat] w fun e w' => e = .returned (.bool (digitB c)) ∧ w' = w := by
 have hc : (48 ≤ c.toNat ∧ c.toNat ≤ 57) ∨ c.toNat < 48 ∨ 57 < c.toNat := by omega
 rcases hc with hc | hc | hc
 · have HB := hH (digit_yes hc)
   obtain ⟨h1, h2⟩ := hc
   have d2 : decide ((c.toNat : Int) ≤ 57) = true := by simp; omega
   go_enter Tryz.func66, Tryz.ntmps66
   go_wp2_with fail
   go_ret
   exact ⟨ret_bool (uh HB).symm, rfl⟩
 · have HB := hH (digit_no (Or.inl hc))
   go_enter Tryz.func66, Tryz.ntmps66
   go_wp2_with fail
   go_ret
   exact ⟨ret_bool (uh HB).symm, rfl⟩
 · have HB := hH (digit_no (Or.inr hc))
   have d2 : decide ((c.toNat : Int) ≤ 57) = false := by simp; omega
   go_enter Tryz.func66, Tryz.ntmps66
   go_wp2_with fail
   go_ret
   exact ⟨ret_bool (uh HB).symm, rfl⟩
theorem isNameByte_any (c : UInt8) (w : World) : Calls Tryz.prog 67 #[.int .u8 c.toNat] w fun e w' => e = .returned (.bool (nameByte c)) ∧ w' = w := by
 have hc : (97 ≤ c.toNat ∧ c.toNat ≤ 122) ∨ c.toNat < 97 ∨ 122 < c.toNat := by omega
 rcases hc with hc | hc | hc
 · have HN := hH (nameByte_yes (Or.inl hc))
   obtain ⟨h1, h2⟩ := hc
   have d2 : decide ((c.toNat : Int) ≤ 122) = true := by simp; omega
   go_enter Tryz.func67, Tryz.ntmps67
   go_wp2_with (go_at_call 66; refine (isDigit_any _ _).mono ?_; rintro e w' ⟨rfl, rfl⟩)
   go_ret
   exact ⟨ret_bool (uh HN).symm, rfl⟩
 · have HN := hH (nameByte_digit (Or.inl hc))
   go_enter Tryz.func67, Tryz.ntmps67
   go_wp2_with (go_at_call 66; refine (isDigit_any _ _).mono ?_; rintro e w' ⟨rfl, rfl⟩)
   go_ret
   exact ⟨ret_bool (uh HN).symm, rfl⟩
 · have HN := hH (nameByte_digit (Or.inr hc))
   have d2 : decide ((c.toNat : Int) ≤ 122) = false := by simp; omega
   go_enter Tryz.func67, Tryz.ntmps67
   go_wp2_with (go_at_call 66; refine (isDigit_any _ _).mono ?_; rintro e w' ⟨rfl, rfl⟩)
   go_ret
   exact ⟨ret_bool (uh HN).symm, rfl⟩
theorem nameOk_digit {s : ByteArray} (h0 : 0 < s.size) (h : digitB s[0] = true) : nameOkB s = false := by
 refine nameOk_first h0 ?_
 simp only [digitB, Bool.and_eq_true, decide_eq_true_eq] at h
 omega
theorem nameOk_yes2 {s : ByteArray} (h1 : 0 < s.size) (h2 : s.size ≤ 8) (hf : digitB s[0] = false) (ha : allTo nameByte s s.size) : nameOkB s = true := by
 refine nameOk_yes h1 h2 ?_ ha
 have hb := ha 0 h1 h1
 simp only [nameByte, digitB, Bool.or_eq_true, Bool.and_eq_true, Bool.and_eq_false_iff, decide_eq_true_eq, decide_eq_false_iff_not] at hb hf
 omega
theorem nameOk_any (s : ByteArray) (w : World) (hs : s.size ≤ 9223372036854775807) :
 Calls Tryz.prog 32 #[.string s] w fun e w' => e = .returned (.bool (nameOkB s)) ∧ w' = w := by
 have hl : s.size < 1 ∨ 8 < s.size ∨ (0 < s.size ∧ s.size ≤ 8) := by omega
 rcases hl with hl | hl | ⟨hl0, hl8⟩
 · have HN := hH (nameOk_len (Or.inl hl))
   go_enter Tryz.func32, Tryz.ntmps32
   go_wp2_with fail
   go_ret
   exact ⟨ret_bool (uh HN).symm, rfl⟩
 · have HN := hH (nameOk_len (Or.inr hl))
   go_enter Tryz.func32, Tryz.ntmps32
   go_wp2_with fail
   go_ret
   exact ⟨ret_bool (uh HN).symm, rfl⟩
 · by_cases hf : digitB s[0] = true
   · have HN := hH (nameOk_digit hl0 hf)
     go_enter Tryz.func32, Tryz.ntmps32
     go_wp2_with (go_at_call 66; refine (isDigit_any _ _).mono ?_; rintro e w' ⟨rfl, rfl⟩)
     go_ret
     exact ⟨ret_bool (uh HN).symm, rfl⟩
   · have hf' : digitB s[0] = false := by simpa using hf
     have HF := hH hf'
     clear hf
     go_enter Tryz.func32, Tryz.ntmps32
     go_wp2_with (go_at_call 66; refine (isDigit_any _ _).mono ?_; rintro e w' ⟨rfl, rfl⟩)
     go_loop [19] (fun i => ∃ k : Nat, k ≤ s.size ∧ i = .int .i64 k ∧ Hid (allTo nameByte s k)) (fun i => s.size - (intOf i).toNat)
     case atStart => exact ⟨0, Nat.zero_le _, rfl, fun j hj => by omega⟩
     case round =>
      obtain ⟨k, hk, rfl, HA⟩ := hrel
      by_cases hlt : k < s.size
      · by_cases hb : nameByte s[k] = true
        · have HN := hH (allTo_succ HA.out hlt hb)
          go_wp2_with (go_at_call 67; refine (isNameByte_any _ _).mono ?_; rintro e w' ⟨rfl, rfl⟩)
          go_round
          case rel => exact ⟨k + 1, by omega, by go_num, HN⟩
          case measure => simp [intOf]; omega
        · have hb' : nameByte s[k] = false := by simpa using hb
          clear hb
          have HN := hH (nameOk_not hlt hb')
          go_wp2_with (go_at_call 67; refine (isNameByte_any _ _).mono ?_; rintro e w' ⟨rfl, rfl⟩)
          go_ret
          exact ⟨ret_bool (uh HN).symm, rfl⟩
      · go_wp2_with fail
        go_ret
        obtain rfl : k = s.size := by omega
        exact ⟨ret_bool (nameOk_yes2 hl0 hl8 (uh HF) HA.out).symm, rfl⟩

abbrev fltE : Ending := .panicked [{ v := .iface 122 (.agg #[]), recovered := false }]
theorem treeWant_yes (w : World) : Calls Tryz.prog 68 #[.bool true] w fun e w' => e = .returned (.tuple #[]) ∧ w' = w := by
 go_enter Tryz.func68, Tryz.ntmps68
 go_wp2_with fail
 go_end0
 exact ⟨rfl, rfl⟩
theorem treeWant_no (w : World) : Calls Tryz.prog 68 #[.bool false] w fun e w' => e = fltE ∧ w' = w := by
 go_enter Tryz.func68, Tryz.ntmps68
 go_wp2_with fail
 exact ⟨rfl, rfl, rfl⟩

theorem try_panicking (p : Addr) (x : Bool) (u : TypeId) (pv : Value) (older : List PanicEntry) (w : World) (hc : w.cell? p = some (.bool x)) (hz : w.frozen? p = false) :
 CallsD Tryz.prog 60 #[.pointer (some p)] (.panicking ({ v := .iface u pv, recovered := false } :: older)) w fun e u' w' =>
  e = .returned (.tuple #[]) ∧ u' = .panicking ({ v := .iface u pv, recovered := true } :: older) ∧ w' = w.setCell p (.bool false) := by
 refine callsD_of_wpS Tryz.func60 rfl fun c₀ cs hu => ?_
 apply wpS_region
 simp [wpOpsS, go_sem, recoverD, hu, Tryz.ntmps60, hc, hz, bodyPostS, results, Tryz.results60]
theorem try_returning (p : Addr) (x : Bool) (w : World) (hc : w.cell? p = some (.bool x)) (hz : w.frozen? p = false) :
 CallsD Tryz.prog 60 #[.pointer (some p)] .returning w fun e u' w' => e = .returned (.tuple #[]) ∧ u' = .returning ∧ w' = w.setCell p (.bool true) := by
 refine callsD_of_wpS Tryz.func60 rfl fun c₀ cs hu => ?_
 apply wpS_region
 simp [wpOpsS, go_sem, recoverD, hu, Tryz.ntmps60, hc, hz, bodyPostS, results, Tryz.results60]
 cases c₀
 simp_all
theorem cell_new1 {w w' : World} {x : Value} {t : TypeId} (h : w'.heap[w.heap.size]? = (w.alloc (.cells #[x] t)).heap[w.heap.size]?) : w'.cell? ⟨w.heap.size, 0, none⟩ = some x ∧ w'.frozen? ⟨w.heap.size, 0, none⟩ = false := by
 rw [World.cell?_of_block (a := ⟨w.heap.size, 0, none⟩) h, World.frozen?_of_block (a := ⟨w.heap.size, 0, none⟩) h]
 exact ⟨by simp [go_sem], by simp [go_sem]⟩
theorem treeTry_yes (f : FuncId) (caps : Array Value) (w : World) (R : World → Prop) (hent : ∀ W, Sem.run Tryz.prog (callFunc f caps) W = .ok (.enter f caps) W)
 (hwork : ∀ o, Calls Tryz.prog f caps (w.alloc o) fun e w' => e = .returned (.tuple #[]) ∧ R w' ∧ w'.heap[w.heap.size]? = (w.alloc o).heap[w.heap.size]?) :
 Calls Tryz.prog 27 #[.func (.func f) #[] caps] w fun e w' => e = .returned (.bool true) ∧ ∃ w1, R w1 ∧ But w.heap.size w1 w' := by
 have hmf : ∀ (fn : Fn) (first cap : Array Value) (w : World), (Instr.makeFunc fn first cap).run Tryz.prog w = .ok (.func fn first cap) w := fun _ _ _ _ => rfl
 have HW := hH hwork; clear hwork
 go_enter_defers Tryz.func27, Tryz.ntmps27
 go_wp2_with fail
 refine (uh HW _).mono ?_
 rintro e w1 ⟨rfl, hr, hbk⟩
 obtain ⟨hc, hz⟩ := cell_new1 hbk
 have HR := hH hr
 clear hr hbk
 go_wp2_with fail
 refine leaves_cons (f := 60) (args := #[.pointer (some ⟨w.heap.size, 0, none⟩)]) (by simp) (by simp [go_sem]) ?_
 refine (try_returning ⟨w.heap.size, 0, none⟩ true _ ?_ ?_).mono ?_
 · simp [go_sem, hc]
 · simp [go_sem, hz]
 rintro e u' w'' ⟨rfl, rfl, rfl⟩
 simp [Leaves, settle, results, Tryz.results27, go_sem, hc]
 exact ⟨w1, uh HR, (But.set w1 0 _).trans (But.set _ 0 _)⟩
theorem treeTry_no (f : FuncId) (caps : Array Value) (w : World) (R : World → Prop) (hent : ∀ W, Sem.run Tryz.prog (callFunc f caps) W = .ok (.enter f caps) W)
 (hwork : ∀ o, Calls Tryz.prog f caps (w.alloc o) fun e w' => e = fltE ∧ R w' ∧ w'.heap[w.heap.size]? = (w.alloc o).heap[w.heap.size]?) :
 Calls Tryz.prog 27 #[.func (.func f) #[] caps] w fun e w' => e = .returned (.bool false) ∧ ∃ w1, R w1 ∧ But w.heap.size w1 w' := by
 have hmf : ∀ (fn : Fn) (first cap : Array Value) (w : World), (Instr.makeFunc fn first cap).run Tryz.prog w = .ok (.func fn first cap) w := fun _ _ _ _ => rfl
 have HW := hH hwork; clear hwork
 go_enter_defers Tryz.func27, Tryz.ntmps27
 go_wp2_with fail
 refine (uh HW _).mono ?_
 rintro e w1 ⟨rfl, hr, hbk⟩
 obtain ⟨hc, hz⟩ := cell_new1 hbk
 have HR := hH hr
 clear hr hbk
 go_wp2_with fail
 refine leaves_cons (f := 60) (args := #[.pointer (some ⟨w.heap.size, 0, none⟩)]) (by simp) (by simp [go_sem]) ?_
 refine (try_panicking ⟨w.heap.size, 0, none⟩ false 122 _ [] _ hc hz).mono ?_
 rintro e u' w'' ⟨rfl, rfl, rfl⟩
 simp [Leaves, settle, results, Tryz.results27, go_sem, hc]
 exact ⟨w1, uh HR, But.set w1 0 _⟩

theorem namesAscend_any (v : Value) (ss : List ByteArray) (w : World) {P : Nat → Prop} (hP : ∀ b, P b → b < w.heap.size) (hv : StrsAt P w v ss) :
 Calls Tryz.prog 147 #[v] w fun e w' => e = .returned (.bool (riseB ss)) ∧ w' = w := by
 obtain ⟨a, cap, rfl, hlen, hc⟩ := hv
 have HC := hH hc; have HP := hH hP
 clear hc hP
 go_enter Tryz.func147, Tryz.ntmps147
 go_wp2_with fail
 go_loop [7] (fun i => ∃ (k : Nat), k ≤ ss.length ∧ i = .int .i64 k ∧ Hid (∀ j, j < k → good ss j = true)) (fun i => ss.length - (intOf i).toNat)
 case atStart => exact ⟨0, Nat.zero_le _, rfl, hH (fun j hj => by omega)⟩
 case round =>
  obtain ⟨k, hk, rfl, HG⟩ := hrel
  by_cases hlt : k < ss.length
  · obtain ⟨b, o, rfl, hpb, hcell, hsz⟩ := uh HC k hlt
    have hname := fun w => nameOk_any ss[k] w hsz
    have HN := hH hname; clear hname hpb
    by_cases hn : nameOkB ss[k] = true
    · by_cases h0 : 0 < k
      · obtain ⟨b', o', he, -, e0, -⟩ := uh HC (k - 1) (by omega)
        simp only [Option.some.injEq, Addr.mk.injEq, and_true] at he
        obtain ⟨rfl, rfl⟩ := he
        have hd0 : decide ((0 : Int) < k) = true := by simp; omega
        have hgd := good_pos hlt h0 hn
        generalize hlb : Op.bytesLess (ss[k - 1]'(by omega)).toList ss[k].toList = lb at hgd
        have hi1 : ((k : Int) - 1).toNat = k - 1 := by omega
        have HGD := hH hgd
        clear hgd
        have hge := geqS
        cases lb
        · have HR := hH (rise_no hlt (uh HGD))
          go_wp2_with (go_at_call 32; refine (uh HN _).mono ?_; rintro e w' ⟨rfl, rfl⟩)
          go_ret
          exact ⟨ret_bool (uh HR).symm, rfl⟩
        · go_wp2_with (go_at_call 32; refine (uh HN _).mono ?_; rintro e w' ⟨rfl, rfl⟩)
          go_round
          case rel => exact ⟨k + 1, by omega, by go_num, hH (fun j hj => by
           by_cases e : j = k
           · subst e; exact uh HGD
           · exact HG.out j (by omega))⟩
          case measure => simp [intOf]; omega
      · have hd0 : decide (0 < k) = false := by simp; omega
        have HK0 : Hid (k = 0) := by show k = 0; omega
        clear h0
        go_wp2_with (go_at_call 32; refine (uh HN _).mono ?_; rintro e w' ⟨rfl, rfl⟩)
        go_round
        case rel => exact ⟨k + 1, by omega, by go_num, hide (fun j hj => by have := HK0.out; subst this; obtain rfl : j = 0 := by omega
                                                                            exact good_zero hlt hn)⟩
        case measure => simp [intOf]; omega
    · have hn' : nameOkB ss[k] = false := by simpa using hn
      have HR := hH (rise_no hlt (good_name hlt hn'))
      clear hn
      go_wp2_with (go_at_call 32; refine (uh HN _).mono ?_; rintro e w' ⟨rfl, rfl⟩)
      go_ret
      exact ⟨ret_bool (uh HR).symm, rfl⟩
  · go_wp2_with fail
    go_ret
    exact ⟨ret_bool (rise_yes (fun i hi => HG.out i (by omega))).symm, rfl⟩

theorem newNum_yes (n : Int) (w : World) (h : -999999999 ≤ n ∧ n ≤ 999999999) : Calls Tryz.prog 128 #[.int .i64 n] w fun e w' => e = .returned (.int .i64 n) ∧ w' = w := by
 obtain ⟨h1, h2⟩ := h
 have d2 : decide (n ≤ 999999999) = true := by simp; omega
 go_enter Tryz.func128, Tryz.ntmps128
 go_wp2_with (go_at_call 68; refine (treeWant_yes _).mono ?_; rintro e w' ⟨rfl, rfl⟩)
 go_ret
 exact ⟨rfl, rfl⟩
theorem newNum_no (n : Int) (w : World) (h : ¬ (-999999999 ≤ n ∧ n ≤ 999999999)) : Calls Tryz.prog 128 #[.int .i64 n] w fun e w' => e = fltE ∧ w' = w := by
 have h' : n < -999999999 ∨ 999999999 < n := by omega
 clear h
 rcases h' with h | h
 · go_enter Tryz.func128, Tryz.ntmps128
   go_wp2_with (go_at_call 68; refine (treeWant_no _).mono ?_; rintro e w' ⟨rfl, rfl⟩)
   exact ⟨rfl, rfl, rfl⟩
 · have d2 : decide (n ≤ 999999999) = false := by simp; omega
   go_enter Tryz.func128, Tryz.ntmps128
   go_wp2_with (go_at_call 68; refine (treeWant_no _).mono ?_; rintro e w' ⟨rfl, rfl⟩)
   exact ⟨rfl, rfl, rfl⟩
theorem newList_yes (a : Option Addr) (n cap : Nat) (w : World) (h : n ≤ 20) : Calls Tryz.prog 132 #[.slice a n cap] w fun e w' => e = .returned (.slice a n cap) ∧ w' = w := by
 have d : decide ((n : Int) ≤ 20) = true := by simp; omega
 go_enter Tryz.func132, Tryz.ntmps132
 go_wp2_with (go_at_call 68; refine (treeWant_yes _).mono ?_; rintro e w' ⟨rfl, rfl⟩)
 go_ret
 exact ⟨rfl, rfl⟩
theorem newList_no (a : Option Addr) (n cap : Nat) (w : World) (h : ¬ n ≤ 20) : Calls Tryz.prog 132 #[.slice a n cap] w fun e w' => e = fltE ∧ w' = w := by
 have d : decide ((n : Int) ≤ 20) = false := by simp; omega
 go_enter Tryz.func132, Tryz.ntmps132
 go_wp2_with (go_at_call 68; refine (treeWant_no _).mono ?_; rintro e w' ⟨rfl, rfl⟩)
 exact ⟨rfl, rfl, rfl⟩
theorem newMaybe_yes (a : Option Addr) (n cap : Nat) (w : World) (h : n ≤ 1) : Calls Tryz.prog 134 #[.slice a n cap] w fun e w' => e = .returned (.slice a n cap) ∧ w' = w := by
 have d : decide ((n : Int) ≤ 1) = true := by simp; omega
 go_enter Tryz.func134, Tryz.ntmps134
 go_wp2_with (go_at_call 68; refine (treeWant_yes _).mono ?_; rintro e w' ⟨rfl, rfl⟩)
 go_ret
 exact ⟨rfl, rfl⟩
theorem newMaybe_no (a : Option Addr) (n cap : Nat) (w : World) (h : ¬ n ≤ 1) : Calls Tryz.prog 134 #[.slice a n cap] w fun e w' => e = fltE ∧ w' = w := by
 have d : decide ((n : Int) ≤ 1) = false := by simp; omega
 go_enter Tryz.func134, Tryz.ntmps134
 go_wp2_with (go_at_call 68; refine (treeWant_no _).mono ?_; rintro e w' ⟨rfl, rfl⟩)
 exact ⟨rfl, rfl, rfl⟩
theorem newText_any (s : ByteArray) (w : World) (hs : s.size ≤ 9223372036854775807) :
 Calls Tryz.prog 130 #[.string s] w fun e w' => (textOkB s = true ∧ e = .returned (.string s) ∨ textOkB s = false ∧ e = fltE) ∧ w' = w := by
 by_cases h60 : s.size ≤ 60
 · have d : decide ((s.size : Int) ≤ 60) = true := by simp; omega
   go_enter Tryz.func130, Tryz.ntmps130
   go_wp2_with (go_at_call 68; refine (treeWant_yes _).mono ?_; rintro e w' ⟨rfl, rfl⟩)
   go_loop [10] (fun i => ∃ k : Nat, k ≤ s.size ∧ i = .int .i64 k ∧ Hid (allTo textByte s k)) (fun i => s.size - (intOf i).toNat)
   case atStart => exact ⟨0, Nat.zero_le _, rfl, fun j hj => by omega⟩
   case round =>
    obtain ⟨k, hk, rfl, HA⟩ := hrel
    by_cases hlt : k < s.size
    · have hc : s[k].toNat < 32 ∨ 126 < s[k].toNat ∨ s[k].toNat = 34 ∨ (32 ≤ s[k].toNat ∧ s[k].toNat ≤ 126 ∧ s[k].toNat ≠ 34) := by omega
      rcases hc with hc | hc | hc | hc
      · have HN := hH (textOk_not hlt (textByte_no (Or.inl hc)))
        go_wp2_with (go_at_call 68; refine (treeWant_no _).mono ?_; rintro e w' ⟨rfl, rfl⟩)
        exact ⟨rfl, Or.inr ⟨uh HN, rfl⟩, rfl⟩
      · have HN := hH (textOk_not hlt (textByte_no (Or.inr (Or.inl hc))))
        have d1 : decide ((32 : Int) ≤ s[k].toNat) = true := by simp; omega
        have d2 : decide ((s[k].toNat : Int) ≤ 126) = false := by simp; omega
        go_wp2_with (go_at_call 68; refine (treeWant_no _).mono ?_; rintro e w' ⟨rfl, rfl⟩)
        exact ⟨rfl, Or.inr ⟨uh HN, rfl⟩, rfl⟩
      · have HN := hH (textOk_not hlt (textByte_no (Or.inr (Or.inr hc))))
        have d1 : decide ((32 : Int) ≤ s[k].toNat) = true := by simp; omega
        have d2 : decide ((s[k].toNat : Int) ≤ 126) = true := by simp; omega
        have d3 : ((s[k].toNat : Int) != 34) = false := by simp; omega
        clear hc
        go_wp2_with (go_at_call 68; refine (treeWant_no _).mono ?_; rintro e w' ⟨rfl, rfl⟩)
        exact ⟨rfl, Or.inr ⟨uh HN, rfl⟩, rfl⟩
      · have HN := hH (allTo_succ HA.out hlt (textByte_yes hc))
        obtain ⟨hc1, hc2, hc3⟩ := hc
        have d1 : decide ((32 : Int) ≤ s[k].toNat) = true := by simp; omega
        have d2 : decide ((s[k].toNat : Int) ≤ 126) = true := by simp; omega
        have d3 : ((s[k].toNat : Int) != 34) = true := by simp; omega
        go_wp2_with (go_at_call 68; refine (treeWant_yes _).mono ?_; rintro e w' ⟨rfl, rfl⟩)
        go_round
        case rel => exact ⟨k + 1, by omega, by go_num, HN⟩
        case measure => simp [intOf]; omega
    · go_wp2_with fail
      go_ret
      obtain rfl : k = s.size := by omega
      exact ⟨Or.inl ⟨textOk_yes h60 HA.out, rfl⟩, rfl⟩
 · have HN : Hid (textOkB s = false) := by show _ = _; unfold textOkB; rw [decide_eq_false h60]; rfl
   have d : decide ((s.size : Int) ≤ 60) = false := by simp; omega
   go_enter Tryz.func130, Tryz.ntmps130
   go_wp2_with (go_at_call 68; refine (treeWant_no _).mono ?_; rintro e w' ⟨rfl, rfl⟩)
   exact ⟨rfl, Or.inr ⟨uh HN, rfl⟩, rfl⟩
structure Bnd (w : World) (B : Nat) (p l : Int) : Prop where
 c0 : w.cell? ⟨B, 0, none⟩ = some (.int .i64 p)
 c1 : w.cell? ⟨B, 1, none⟩ = some (.int .i64 l)
 f0 : w.frozen? ⟨B, 0, none⟩ = false
 f1 : w.frozen? ⟨B, 1, none⟩ = false
theorem Bnd.lt {w : World} {B : Nat} {p l : Int} (h : Bnd w B p l) : B < w.heap.size := World.block_lt_of_cell? w _ h.c0
theorem Bnd.of_block {w w' : World} {B : Nat} {p l : Int} (h : Bnd w B p l) (e : w'.heap[B]? = w.heap[B]?) : Bnd w' B p l :=
 ⟨by rw [World.cell?_of_block (w := w) e]; exact h.c0, by rw [World.cell?_of_block (w := w) e]; exact h.c1, by rw [World.frozen?_of_block (w := w) e]; exact h.f0, by rw [World.frozen?_of_block (w := w) e]; exact h.f1⟩
theorem enter_yes (B : Nat) (p l : Int) (w : World) (hB : Bnd w B p l) (hp : 0 ≤ p) (hl : 0 ≤ l) (h1 : p + 1 ≤ 120) (h2 : l + 1 ≤ 6) :
 Calls Tryz.prog 110 #[.pointer (some ⟨B, 0, none⟩)] w fun e w' => e = .returned (.tuple #[]) ∧ w' = (w.setCell ⟨B, 0, none⟩ (.int .i64 (p + 1))).setCell ⟨B, 1, none⟩ (.int .i64 (l + 1)) := by
 obtain ⟨c0, c1, f0, f1⟩ := hB
 have d1 : decide (p + 1 ≤ 120) = true := by simp; omega
 have d2 : decide (l + 1 ≤ 6) = true := by simp; omega
 go_enter Tryz.func110, Tryz.ntmps110
 go_wp2_with (go_at_call 68; refine (treeWant_yes _).mono ?_; rintro e w' ⟨rfl, rfl⟩)
 go_end0
 exact ⟨rfl, rfl⟩
theorem enter_no (B : Nat) (p l : Int) (w : World) (hB : Bnd w B p l) (hp : 0 ≤ p) (hl : 0 ≤ l) (hp1 : p ≤ 120) (hl1 : l ≤ 6) (h : ¬ (p + 1 ≤ 120 ∧ l + 1 ≤ 6)) :
 Calls Tryz.prog 110 #[.pointer (some ⟨B, 0, none⟩)] w fun e w' => e = fltE ∧ w' = (w.setCell ⟨B, 0, none⟩ (.int .i64 (p + 1))).setCell ⟨B, 1, none⟩ (.int .i64 (l + 1)) := by
 obtain ⟨c0, c1, f0, f1⟩ := hB
 by_cases h1 : p + 1 ≤ 120
 · have d1 : decide (p + 1 ≤ 120) = true := by simp; omega
   have d2 : decide (l + 1 ≤ 6) = false := by simp; omega
   clear h
   go_enter Tryz.func110, Tryz.ntmps110
   go_wp2_with (go_at_call 68; refine (treeWant_no _).mono ?_; rintro e w' ⟨rfl, rfl⟩)
   exact ⟨rfl, rfl, rfl⟩
 · have d1 : decide (p + 1 ≤ 120) = false := by simp; omega
   clear h
   go_enter Tryz.func110, Tryz.ntmps110
   go_wp2_with (go_at_call 68; refine (treeWant_no _).mono ?_; rintro e w' ⟨rfl, rfl⟩)
   exact ⟨rfl, rfl, rfl⟩
theorem leave_any (B : Nat) (p l : Int) (w : World) (hB : Bnd w B p l) (hl : 0 ≤ l) (hl1 : l ≤ 10) :
 Calls Tryz.prog 112 #[.pointer (some ⟨B, 0, none⟩)] w fun e w' => e = .returned (.tuple #[]) ∧ w' = w.setCell ⟨B, 1, none⟩ (.int .i64 (l - 1)) := by
 obtain ⟨c0, c1, f0, f1⟩ := hB
 go_enter Tryz.func112, Tryz.ntmps112
 go_wp2_with fail
 go_end0
 exact ⟨rfl, rfl⟩
theorem newForm_any (v : Value) (ss : List ByteArray) (a : Option Addr) (n cap : Nat) (w : World) {P : Nat → Prop} (hP : ∀ b, P b → b < w.heap.size) (hv : StrsAt P w v ss) :
 Calls Tryz.prog 133 #[v, .slice a n cap] w fun e w' => ((ss.length = n ∧ riseB ss = true) ∧ e = .returned (.agg #[v, .slice a n cap]) ∨ ¬ (ss.length = n ∧ riseB ss = true) ∧ e = fltE) ∧ Below w.heap.size w w' := by
 have hbx : ∀ o, Below w.heap.size w (w.alloc o) := fun o => (Below.refl _ _).alloc (Nat.le_refl _) o
 have hasc : ∀ o, Calls Tryz.prog 147 #[v] (w.alloc o) fun e w' => e = .returned (.bool (riseB ss)) ∧ w' = w.alloc o := fun o =>
  namesAscend_any v ss (w.alloc o) (P := P) (fun b hb => Nat.lt_of_lt_of_le (hP b hb) (hbx o).size) (hv.carry (fun b hb => (hbx o).block b (hP b hb)) (fun _ h => h))
 have HA := hH hasc; have HBX := hH hbx
 obtain ⟨a3, cap3, rfl, hlen, -⟩ := hv
 clear hasc hbx hP
 by_cases hnl : ss.length = n
 · have d : ((ss.length : Int) == (n : Int)) = true := by simp; omega
   have HNL := hH hnl; clear hnl
   cases hr : riseB ss
   · rw [hr] at HA
     go_enter Tryz.func133, Tryz.ntmps133
     go_wp2_with (first | (go_at_call 147; refine (uh HA _).mono ?_; rintro e w' ⟨rfl, rfl⟩) | (go_at_call 68; refine (treeWant_no _).mono ?_; rintro e w' ⟨rfl, rfl⟩))
     exact ⟨rfl, Or.inr ⟨fun h => Bool.false_ne_true h.2, rfl⟩, uh HBX _⟩
   · rw [hr] at HA
     go_enter Tryz.func133, Tryz.ntmps133
     go_wp2_with (first | (go_at_call 147; refine (uh HA _).mono ?_; rintro e w' ⟨rfl, rfl⟩) | (go_at_call 68; refine (treeWant_yes _).mono ?_; rintro e w' ⟨rfl, rfl⟩))
     refine bodyPost_ret (v := .agg #[.slice a3 ss.length cap3, .slice a n cap]) (by simp [results, Tryz.results133, go_sem]) rfl ⟨Or.inl ⟨⟨uh HNL, by simp⟩, rfl⟩, uh HBX _⟩
 · have d : ((ss.length : Int) == (n : Int)) = false := by simp; omega
   have HNL := hH hnl; clear hnl
   go_enter Tryz.func133, Tryz.ntmps133
   go_wp2_with (go_at_call 68; refine (treeWant_no _).mono ?_; rintro e w' ⟨rfl, rfl⟩)
   exact ⟨rfl, Or.inr ⟨fun h => uh HNL h.1, rfl⟩, uh HBX _⟩

mutual
def wlk : Tr → Int → Int → Option Int
 | .mk s n tx ns ks, p, l =>
   if p + 1 ≤ 120 ∧ l + 1 ≤ 6 then
    if ownB (.mk s n tx ns ks) = true then
     match wlkK ks (p + 1) (l + 1) with
     | none => none
     | some q => if newB (.mk s n tx ns ks) = true then some q else none
    else none
   else none
def wlkK : List Tr → Int → Int → Option Int
 | [], p, _ => some p
 | t :: r, p, l => match wlk t p l with
   | none => none
   | some q => wlkK r q l
end
theorem wlk_eq (t : Tr) (p l : Int) : wlk t p l = if p + 1 ≤ 120 ∧ l + 1 ≤ 6 then
 if ownB t = true then
  match wlkK t.kids (p + 1) (l + 1) with
  | none => none
  | some q => if newB t = true then some q else none
 else none
 else none := by
 obtain ⟨s, n, tx, ns, ks⟩ := t
 rw [wlk]; rfl
def onto (p k : Int) : Option Int := if k < 0 ∨ 120 < p + k then none else some (p + k)
mutual
theorem wlk_is : ∀ (t : Tr) (p l : Int), 0 ≤ p → p ≤ 120 → wlk t p l = onto p (pT t (l + 1))
 | .mk s n tx ns ks, p, l => by
   intro hp hp1
   rw [wlk, pT]
   by_cases h : p + 1 ≤ 120 ∧ l + 1 ≤ 6
   · rw [if_pos h]
     rw [alone_eq]
     by_cases ho : ownB (.mk s n tx ns ks) = true
     · rw [if_pos ho, ho, wlkK_is ks (p + 1) (l + 1) 1 (by omega) (by omega) (by omega)]
       have hbd := pK_bd ks (l + 1) 1 (by omega) (by omega)
       generalize pK ks (l + 1) 1 = r at hbd
       by_cases hn : newB (.mk s n tx ns ks) = true
       · rw [hn]
         simp only [Bool.and_self, Bool.true_eq_false, or_false]
         rw [if_neg (by omega)]
         unfold onto
         by_cases hx : r < 0 ∨ 120 < p + r
         · rw [if_pos (by omega), if_pos hx]
         · rw [if_neg (by omega), if_neg hx]
           simp
       · have hn' : newB (.mk s n tx ns ks) = false := by simpa using hn
         rw [hn']
         simp only [Bool.and_false, or_true, if_true]
         have : onto p (-1) = none := by unfold onto; rw [if_pos (by omega)]
         rw [this]
         unfold onto
         split <;> rfl
     · have ho' : ownB (.mk s n tx ns ks) = false := by simpa using ho
       rw [if_neg ho, ho']
       simp only [Bool.false_and, or_true, if_true]
       unfold onto; rw [if_pos (by omega)]
   · rw [if_neg h]
     unfold onto
     by_cases h6 : 6 < l + 1
     · rw [if_pos (Or.inl h6), if_pos (by omega)]
     · split
       · rw [if_pos (by omega)]
       · have hbd := pK_bd ks (l + 1) 1 (by omega) (by omega)
         rw [if_pos (by omega)]
theorem wlkK_is : ∀ (ks : List Tr) (p l n : Int), 1 ≤ n → n ≤ p → p ≤ 120 → wlkK ks p l = onto (p - n) (pK ks l n)
 | [], p, l, n => by
   intro h1 h2 h3
   rw [wlkK, pK]
   unfold onto
   rw [if_neg (by omega)]
   congr 1; omega
 | t :: r, p, l, n => by
   intro h1 h2 h3
   rw [wlkK, pK, wlk_is t p l (by omega) h3]
   have hbd := pT_bd t (l + 1)
   generalize pT t (l + 1) = k at hbd
   by_cases hx : k < 0 ∨ 120 < p + k
   · have : onto p k = none := by unfold onto; rw [if_pos hx]
     rw [this]
     simp only
     by_cases hy : k < 0 ∨ 120 < n + k
     · rw [if_pos hy]; unfold onto; rw [if_pos (by omega)]
     · rw [if_neg hy]
       have hbd2 := pK_bd r l (n + k) (by omega) (by omega)
       have hge := pK_ge r l (n + k)
       unfold onto; rw [if_pos (by omega)]
   · have : onto p k = some (p + k) := by unfold onto; rw [if_neg hx]
     rw [this]
     simp only
     rw [wlkK_is r (p + k) l (n + k) (by omega) (by omega) (by omega), if_neg (by omega), show p + k - (n + k) = p - n from by omega]
theorem pK_ge : ∀ (ks : List Tr) (l n : Int), pK ks l n = -1 ∨ n ≤ pK ks l n
 | [], l, n => by rw [pK]; exact Or.inr (Int.le_refl _)
 | t :: r, l, n => by
   rw [pK]
   split
   · exact Or.inl rfl
   · have := pK_ge r l (n + pT t (l + 1)); omega
end
theorem wlk_start (t : Tr) : wlk t 0 0 = if pT t 1 < 0 then none else some (pT t 1) := by
 rw [wlk_is t 0 0 (by omega) (by omega)]
 have hbd := pT_bd t 1
 unfold onto
 rw [show (0 : Int) + 1 = 1 from rfl]
 by_cases h : pT t 1 < 0
 · rw [if_pos (Or.inl h), if_pos h]
 · rw [if_neg (by omega), if_neg h]; simp
theorem wlk_bd (t : Tr) (p l q : Int) (hp : 0 ≤ p) (hp1 : p ≤ 120) (h : wlk t p l = some q) : p + 1 ≤ q ∧ q ≤ 120 := by
 rw [wlk_is t p l hp hp1] at h
 have hbd := pT_bd t (l + 1)
 unfold onto at h
 split at h
 · cases h
 · simp only [Option.some.injEq] at h; omega
theorem wlkK_step {ks : List Tr} {k : Nat} (hk : k < ks.length) (p l : Int) : wlkK (ks.drop k) p l = match wlk ks[k] p l with
 | none => none
 | some q => wlkK (ks.drop (k + 1)) q l := by
 rw [List.drop_eq_getElem_cons hk, wlkK]
end Go.Proofs.YtbkagahmiibclaaGreatDoor
