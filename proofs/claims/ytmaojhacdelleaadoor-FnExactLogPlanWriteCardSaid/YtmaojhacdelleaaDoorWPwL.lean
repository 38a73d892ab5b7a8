/- The walk of the program's planLine: a word, numbers, a newline. The table of powers is as strconv's text lays it; at most 4 numbers, from 0 to 999999999. -/
import Derived.Test.YtmaojhacdelleaaDoorWApp2
import Derived.Test.YtmaojhacdelleaaDoorPwDat
namespace Go.Proofs.YtmaojhacdelleaaDoor
open Go Go.RowKit Go.Sort

theorem bytes_ofM (w : World) (s : ByteArray) (hs : s.size ≤ 1000000) : ∃ cap W, (convert 9 39 (.string s)).run Tryd.prog w = .ok (.slice (some ⟨w.heap.size, 0, none⟩) s.size cap) W ∧ MRow w.heap.size W (.slice (some ⟨w.heap.size, 0, none⟩) s.size cap) s.data.toList ∧ Below w.heap.size w W := by
  have hge := grownCap_ge w s.size 0 5
  have hsz : s.data.toList.length = s.size := by simp
  have hbs : (bytesRow s (grownCap w s.size 0 5)).size = grownCap w s.size 0 5 := by
    unfold bytesRow
    have : s.data.size = s.size := rfl
    simp; omega
  refine ⟨_, _, run_bytes_of_string w 9 39 5 s Tryd.underlying9 Tryd.underlying39 Tryd.underlying5, ⟨w.heap.size, _, _, _, by rw [hsz], Nat.le_refl _, heap_alloc_new w.drew _, NoFz.behind _, by rw [hsz]; exact hge, grownCap_le_maxLen w _ _ _ (by unfold maxLen; omega), hbs, ?_⟩, ?_⟩
  · unfold bytesRow
    rw [Array.toList_append, Array.toList_map, List.take_left' (by rw [List.length_map])]
    rfl
  · exact ((Below.refl _ w).drew).alloc (by show w.heap.size ≤ w.heap.size; exact Nat.le_refl _) _

theorem one_byteM (w : World) (x : UInt8) (z : Int) (hz : z = x.toNat) (t : TypeId) : ∀ j u, (bc [x])[j]? = some u → (w.alloc (.cells #[.int .u8 z] t)).cell? ((⟨w.heap.size, 0, none⟩ : Addr).add j) = some u := by
  subst hz; exact byte_one w x t

/-- A line as it grows. -/
def lnX (s : ByteArray) (zs : List Int) (k : Nat) : List UInt8 := s.data.toList ++ ((zs.take k).map fun z => 32 :: Lib.itoa z).flatten
theorem lnX_zero (s : ByteArray) (zs : List Int) : lnX s zs 0 = s.data.toList := by simp [lnX]
theorem lnX_succ {s : ByteArray} {zs : List Int} {k : Nat} (h : k < zs.length) : lnX s zs (k + 1) = lnX s zs k ++ [32] ++ Lib.itoa zs[k] := by
  unfold lnX
  rw [List.take_succ_eq_append_getElem h, List.map_append, List.flatten_append]
  simp
theorem lnX_len {s : ByteArray} {zs : List Int} (hz : ∀ i, (h : i < zs.length) → 0 ≤ zs[i] ∧ zs[i] ≤ 999999999) : ∀ k, k ≤ zs.length → (lnX s zs k).length ≤ s.size + 22 * k
  | 0, _ => by rw [lnX_zero]; simp
  | k + 1, hk => by
    have ih := lnX_len (s := s) hz k (by omega)
    have h1 := hz k (by omega)
    have h2 := Lib.itoa_length_le zs[k] (by omega) (by omega)
    rw [lnX_succ (by omega)]
    simp only [List.length_append, List.length_cons, List.length_nil]
    omega
theorem itoa_nat (u : Nat) : Lib.itoa (u : Int) = Lib.decDigits u := by
  unfold Lib.itoa
  rw [if_neg (by omega)]; rfl

set_option maxRecDepth 100000 in
set_option maxHeartbeats 3200000 in
theorem planLine_any (s : ByteArray) (hs : s.size ≤ 10) (zs : List Int) (a : Option Addr) (cap : Nat) (w : World) (h4 : zs.length ≤ 4) (hz : ∀ i, (h : i < zs.length) → 0 ≤ zs[i] ∧ zs[i] ≤ 999999999)
    (hc : ∀ i, (h : i < zs.length) → ∃ b o, a = some ⟨b, o, none⟩ ∧ b < w.heap.size ∧ w.cell? ⟨b, o + i, none⟩ = some (.int .i64 zs[i]))
    (htab : Lib.TabIs Tryd.prog w "internal/strconv.uint64pow10" .u64 Lib.pow10Tab) :
    Calls Tryd.prog 21 #[.string s, .slice a zs.length cap] w fun e w' => e = .returned (.string ⟨(lnX s zs zs.length ++ [10]).toArray⟩) ∧ Below w.heap.size w w' := by
  obtain ⟨cap0, W0, hcv, hm0, hb0⟩ := bytes_ofM w s (by omega)
  have HTB := hide (Lib.tabBelow_of_tabIs htab)
  have HLN := hide (fun k hk => lnX_len (s := s) hz k hk)
  have HC := hide hc; have HZ := hide hz; have HM0 := hide hm0; have HB0 := hide hb0
  have hsz : s.data.toList.length = s.size := by simp
  have HSZ := hide hsz
  clear hc hz hm0 hb0 htab hsz
  go_enter Tryd.func21, Tryd.ntmps21
  go_wp2_with fail
  clear hcv
  go_loopw [5, 12] (fun ln i wr => ∃ (k g n cp : Nat), k ≤ zs.length ∧ i = .int .i64 k ∧ ln = .slice (some ⟨g, 0, none⟩) n cp ∧ Hid (MRow w.heap.size wr (.slice (some ⟨g, 0, none⟩) n cp) (lnX s zs k)) ∧ Hid (Below w.heap.size w wr)) (fun _ i _ => zs.length - (intOf i).toNat)
  case atStart => exact ⟨0, w.heap.size, s.size, cap0, Nat.zero_le _, rfl, rfl, by show MRow _ _ _ _; rw [lnX_zero]; exact unhide HM0, unhide HB0⟩
  case round =>
    clear HM0 HB0
    obtain ⟨k, g, n, cp, hk, rfl, rfl, HM, HB⟩ := hrel
    have hln := unhide HLN k hk
    have hbs : w.heap.size ≤ wr.heap.size := HB.out.size
    by_cases hlt : k < zs.length
    · obtain ⟨b, o, rfl, hpb, hcell⟩ := unhide HC k hlt
      have hcell2 := (HB.out.cell (p := ⟨b, o + k, none⟩) hpb).trans hcell
      have hzk := unhide HZ k hlt
      have HSUC := hide (lnX_succ (s := s) hlt)
      clear hcell
      generalize zs[k] = z at *
      obtain ⟨u, rfl⟩ : ∃ u : Nat, z = u := ⟨z.toNat, by omega⟩
      rw [itoa_nat] at HSUC
      have HCA := hide (fun (g2 n2 cp2 : Nat) (W : World) (hW : Below w.heap.size w W) (hM : MRow w.heap.size W (.slice (some ⟨g2, 0, none⟩) n2 cp2) (lnX s zs k ++ [32])) => appendInt_any w.heap.size u (by omega) _ _ W hM hW.size (by simp; omega) ((unhide HTB).on hW).here)
      have hle : (lnX s zs k).length + ([32] : List UInt8).length ≤ 1099511627776 := by simp; omega
      have hbs2 : ∀ o, w.heap.size ≤ (wr.alloc o).heap.size := fun o => by simp; omega
      clear hln hzk
      go_wp2_with (first
        | (at_builtin; refine append_bytesM _ rfl _ _ rfl w.heap.size (.slice (some ⟨g, 0, none⟩) n cp) (lnX s zs k) [32] rfl (HM.out.alloc _) ⟨wr.heap.size, 0, none⟩ 1 1 rfl rfl (one_byteM _ 32 _ rfl _) hle (hbs2 _) ?_
           intro g2 n2 cp2 w2 HN2 HM2 HG2
           have HB2 := hide ((HB.out.alloc hbs _).trans ((HM.out.alloc _).below HG2.out (hbs2 _)))
           clear HG2)
        | (go_at_call 24; refine (unhide HCA g2 n2 cp2 w2 (unhide HB2) HM2.out).mono ?_; rintro e w3 ⟨g3, n3, cp3, rfl, hn3, hm3, hb3⟩; have HM3 := hide hm3; have HB3 := hide ((unhide HB2).trans hb3); clear hn3 hm3 hb3))
      go_roundw
      case rel => exact ⟨k + 1, g3, n3, cp3, by omega, by go_num, rfl, by show MRow _ _ _ _; rw [unhide HSUC]; exact unhide HM3, unhide HB3⟩
      case measure => simp [intOf]; omega
    · obtain rfl : k = zs.length := by omega
      have hle : (lnX s zs zs.length).length + ([10] : List UInt8).length ≤ 1099511627776 := by simp; omega
      have hbs2 : ∀ o, w.heap.size ≤ (wr.alloc o).heap.size := fun o => by simp; omega
      clear hln
      go_wp2_with (at_builtin; refine append_bytesM _ rfl _ _ rfl w.heap.size (.slice (some ⟨g, 0, none⟩) n cp) (lnX s zs zs.length) [10] rfl (HM.out.alloc _) ⟨wr.heap.size, 0, none⟩ 1 1 rfl rfl (one_byteM _ 10 _ rfl _) hle (hbs2 _) ?_
                   intro g2 n2 cp2 w2 HN2 HM2 HG2
                   have HB2 := hide ((HB.out.alloc hbs _).trans ((HM.out.alloc _).below HG2.out (hbs2 _)))
                   have hconv := HM2.out.str
                   clear HG2)
      go_ret
      exact ⟨rfl, unhide HB2⟩
end Go.Proofs.YtmaojhacdelleaaDoor
