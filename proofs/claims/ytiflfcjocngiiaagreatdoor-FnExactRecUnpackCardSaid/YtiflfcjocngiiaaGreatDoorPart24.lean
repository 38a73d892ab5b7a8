/- The walks of the program's byteWriter: tree and kids. Conditions: the tree is ok, and its bytes fit. -/
import Derived.Test.YtiflfcjocngiiaaGreatDoorPart04
import Derived.Test.YtiflfcjocngiiaaGreatDoorPart19
import Derived.Test.YtiflfcjocngiiaaGreatDoorPart11
namespace Go.Proofs.YtiflfcjocngiiaaGreatDoor
open Go Go.RowKit

def TrP (n : Nat) : Prop := ∀ (t : Tr), tsz t < n → ∀ (P : Nat → Prop) (c : C5) (d : Int) (base B : Nat) (w : World) (a : Option Addr) (len cap : Nat) (l : List UInt8), (∀ b, P b → b < base) → Rep P w t c → 0 < pT t d → Wr base B w (.slice a len cap) l → l.length + (treeB t).length ≤ 9000 →
    Calls Tryz.prog 85 #[.pointer (some ⟨B, 0, none⟩), .agg #[c.c0, c.c1, c.c2, c.c3, c.c4]] w fun e w' => WrEnd base B w w' e (l ++ treeB t)

theorem Sp.rep {base B : Nat} {w w' : World} {P : Nat → Prop} {t : Tr} {c : C5} (h : Sp base B w w') (hb : base ≤ B) (hw : base ≤ w.heap.size) (hP : ∀ b, P b → b < base) (hr : Rep P w t c) : Rep P w' t c :=
  Rep.carry (fun b hbb => (h.below hb hw).block b (hP b hbb)) (fun _ h => h) _ _ hr

theorem Wr.len {base B : Nat} {w : World} {a : Option Addr} {n cap : Nat} {l : List UInt8} (h : Wr base B w (.slice a n cap) l) : n = l.length := by
  obtain ⟨a', cap', hv⟩ := h.row.slice
  simp only [Value.slice.injEq] at hv
  exact hv.2.1

set_option maxRecDepth 100000 in
set_option maxHeartbeats 3200000 in
theorem kids_any (n : Nat) (IH : TrP n) (t : Tr) (hn : tsz t ≤ n) (P : Nat → Prop) (c : C5) (d : Int) (base B : Nat) (w : World) (a : Option Addr) (len cap : Nat) (l : List UInt8) (hP : ∀ b, P b → b < base) (hrep : Rep P w t c) (hok : 0 < pT t d) (h : Wr base B w (.slice a len cap) l)
    (hl : l.length + (UInt8.ofNat t.kids.length :: kidsB (decide (t.sort = 5)) t.names t.kids).length ≤ 9000) :
    Calls Tryz.prog 91 #[.pointer (some ⟨B, 0, none⟩), .agg #[c.c0, c.c1, c.c2, c.c3, c.c4]] w fun e w' => WrEnd base B w w' e (l ++ (UInt8.ofNat t.kids.length :: kidsB (decide (t.sort = 5)) t.names t.kids)) := by
  obtain ⟨c0, c1, c2, c3, c4⟩ := c
  obtain ⟨e0, e1, e2, -, -, -, hns, ak, capk, e4, -, hks⟩ := hrep.open
  simp only at e0 e1 e2 e4 hns
  subst e0 e1 e2 e4
  obtain ⟨a3, cap3, rfl, -, hns⟩ := hns
  have hso := ok_sort hok
  have hmany := ok_many hok
  have hnm := ok_names hok
  have HKID := hide (fun k hk => ok_kid hok k hk)
  have HTS := hide (fun (k : Tr) (hk : k ∈ t.kids) => tsz_kid hk)
  have hbB := h.lt
  have hbw := h.size
  have hBw := h.cells.lt
  have hwa := fun o => h.alloc o
  have HPUT := hide (fun o => put_any base B (w.alloc o) a len cap l t.kids.length (hwa o) (by omega) (by omega) (by simp at hl; omega))
  have HBD : Hid (∀ k, (hk : k < t.kids.length) → ((l ++ [UInt8.ofNat t.kids.length]) ++ kidsB (decide (t.sort = 5)) t.names (t.kids.take k)).length + ((if decide (t.sort = 5) then shortB (t.names.getD k ByteArray.empty) else []).length + (treeB t.kids[k]).length) ≤ 9000) := fun k hk => by
    have h1 := kidsB_le (decide (t.sort = 5)) t.names t.kids (k + 1)
    rw [kidsB_take _ _ _ _ hk] at h1
    simp only [List.length_append, List.length_cons, List.length_nil] at h1 hl ⊢
    omega
  have HE : Hid (∀ ks, (l ++ [UInt8.ofNat t.kids.length]) ++ kidsB (decide (t.sort = 5)) t.names ks = l ++ (UInt8.ofNat t.kids.length :: kidsB (decide (t.sort = 5)) t.names ks)) := fun ks => by simp
  have HP := hide hP; have HKS := hide hks; have HNS := hide hns; have HI := hide IH; have HNM := hide hnm; have HHN := hide hn
  have HLT := hide hbB; have HBW := hide hbw; have HBL := hide hBw
  clear hso hok hnm hks hns IH hP hl hrep h hwa hn
  generalize hd5 : decide (t.sort = 5) = f at *
  have HD5 := hide hd5
  clear hd5
  have hf5 : (t.sort == 5) = f := by rw [← unhide HD5]; rfl
  go_enter Tryz.func91, Tryz.ntmps91
  go_wp2_with fail
  refine (unhide HPUT _).mono ?_
  rintro e w1 ⟨rfl, hsp1, a1, n1, cap1, hn1, hw1⟩
  rw [Int.toNat_natCast] at hw1 hn1
  have hr1 := hsp1.box (row5_alloc w (.int .i64 t.sort) (.int .i64 t.num) (.string t.text) (.slice a3 t.names.length cap3) (.slice ak t.kids.length capk) 39) (by omega) (by decide)
  have hspw := (Sp.alloc base B w (.cells #[.int .i64 t.sort, .int .i64 t.num, .string t.text, .slice a3 t.names.length cap3, .slice ak t.kids.length capk] 39)).trans hsp1
  have k4 := hr1.cell (i := 4) (by omega)
  simp only [row5] at k4
  have HR1 := hide hr1; have HSP1 := hide hspw; have HW1 := hide hw1
  clear hr1 hspw hw1 hsp1 hn1 HPUT
  go_wp2_with fail
  go_loopw [14] (fun i wr => ∃ (k : Nat) (ar : Option Addr) (nr cr : Nat), k ≤ t.kids.length ∧ i = .int .i64 k ∧ Hid (Wr base B wr (.slice ar nr cr) ((l ++ [UInt8.ofNat t.kids.length]) ++ kidsB f t.names (t.kids.take k))) ∧ Hid (Sp base B w wr) ∧ Hid (wr.rowIs w.heap.size 39 5 (row5 (.int .i64 t.sort) (.int .i64 t.num) (.string t.text) (.slice a3 t.names.length cap3) (.slice ak t.kids.length capk)))) (fun i _ => t.kids.length - (intOf i).toNat)
  case atStart => exact ⟨0, a1, n1, cap1, Nat.zero_le _, rfl, by rw [List.take_zero, kidsB, List.append_nil]; exact HW1, HSP1, HR1⟩
  case round =>
    clear HW1 HSP1 HR1 k4
    obtain ⟨k, ar, nr, cr, hk, rfl, HW, HSP, HBX⟩ := hrel
    by_cases hlt : k < t.kids.length
    · obtain ⟨b, o, ck, rfl, hpb, hcell, hrepk⟩ := unhide HKS k hlt
      obtain ⟨x0, x1, x2, x3, x4⟩ := ck
      obtain ⟨g0, g1, g2, -, -, -, ⟨y3, ycap3, g3, -⟩, y4, ycap4, g4, -⟩ := hrepk.open
      simp only at g0 g1 g2 g3 g4
      subst g0 g1 g2 g3 g4
      have hBwr : B < wr.heap.size := HW.out.cells.lt
      have hcw := hcell.carry ((HSP.out.below (unhide HLT) (unhide HBW)).block b (unhide HP b hpb))
      obtain ⟨e0, e1, e2, e3, e4⟩ := hcw
      simp only at e0 e1 e2 e3 e4
      have hsm : tsz t.kids[k] < n := by have := unhide HTS t.kids[k] (List.getElem_mem hlt); have := unhide HHN; omega
      have HCALL := hide (fun (W : World) (hW : Sp base B w W) (a5 : Option Addr) (n5 cap5 : Nat) (l5 : List UInt8) (hw5 : Wr base B W (.slice a5 n5 cap5) l5) (hl5 : l5.length + (treeB t.kids[k]).length ≤ 9000) => unhide HI t.kids[k] hsm P ⟨.int .i64 t.kids[k].sort, .int .i64 t.kids[k].num, .string t.kids[k].text, .slice y3 t.kids[k].names.length ycap3, .slice y4 t.kids[k].kids.length ycap4⟩ (d + 1) base B W a5 n5 cap5 l5 (unhide HP) (hW.rep (unhide HLT) (unhide HBW) (unhide HP) hrepk) (unhide HKID k hlt) hw5 hl5)
      have hbd := unhide HBD k hlt
      have hnext := kidsB_take f t.names t.kids k hlt
      have b0 := HBX.out.cell (i := 0) (by omega); have b3 := HBX.out.cell (i := 3) (by omega)
      simp only [row5] at b0 b3
      have ba0 : ∀ ob, (wr.alloc ob).cell? ⟨w.heap.size, 0, none⟩ = some (.int .i64 t.sort) := fun ob => by have := (HBX.out.alloc ob).cell (i := 0) (by omega); simpa only [row5] using this
      have ba3 : ∀ ob, (wr.alloc ob).cell? ⟨w.heap.size, 3, none⟩ = some (.slice a3 t.names.length cap3) := fun ob => by have := (HBX.out.alloc ob).cell (i := 3) (by omega); simpa only [row5] using this
      have HSPA := hide (HSP.out.trans (Sp.alloc base B wr (.cells #[.int .i64 t.kids[k].sort, .int .i64 t.kids[k].num, .string t.kids[k].text, .slice y3 t.kids[k].names.length ycap3, .slice y4 t.kids[k].kids.length ycap4] 39)))
      have HWA := hide (HW.out.alloc (.cells #[.int .i64 t.kids[k].sort, .int .i64 t.kids[k].num, .string t.kids[k].text, .slice y3 t.kids[k].names.length ycap3, .slice y4 t.kids[k].kids.length ycap4] 39))
      have HBXA := hide (HBX.out.alloc (.cells #[.int .i64 t.kids[k].sort, .int .i64 t.kids[k].num, .string t.kids[k].text, .slice y3 t.kids[k].names.length ycap3, .slice y4 t.kids[k].kids.length ycap4] 39))
      have HKB := hide (row5_alloc wr (.int .i64 t.kids[k].sort) (.int .i64 t.kids[k].num) (.string t.kids[k].text) (.slice y3 t.kids[k].names.length ycap3) (.slice y4 t.kids[k].kids.length ycap4) 39)
      clear hcell hrepk hsm hpb
      cases f with
      | false =>
          have HLB : Hid (((l ++ [UInt8.ofNat t.kids.length]) ++ kidsB false t.names (t.kids.take k)).length + (treeB t.kids[k]).length ≤ 9000) := by
            simp only [Bool.false_eq_true, if_false, List.length_nil, Nat.zero_add] at hbd
            exact hbd
          have HNEXT : Hid (((l ++ [UInt8.ofNat t.kids.length]) ++ kidsB false t.names (t.kids.take k)) ++ treeB t.kids[k] = (l ++ [UInt8.ofNat t.kids.length]) ++ kidsB false t.names (t.kids.take (k + 1))) := by
            show _ = _
            rw [hnext]; simp
          clear hbd hnext
          go_wp2_with fail
          refine (unhide HCALL _ (unhide HSPA) ar nr cr _ (unhide HWA) (unhide HLB)).mono ?_
          rintro e w6 ⟨rfl, hsp6, a6, n6, cap6, -, hw6⟩
          have HSP6 := hide ((unhide HSPA).trans hsp6)
          have HBX6 := hide (hsp6.box (unhide HBXA) (by have := unhide HBL; omega) (by decide))
          rw [unhide HNEXT] at hw6
          have HW6 := hide hw6
          clear hw6 hsp6
          go_wp2_with fail
          go_roundw
          case rel => exact ⟨k + 1, a6, n6, cap6, by omega, by go_num, HW6, HSP6, HBX6⟩
          case measure => simp [intOf]; omega
      | true =>
          obtain ⟨hnl, hn8⟩ := unhide HNM (by simpa using unhide HD5)
          have hkn : k < t.names.length := by omega
          obtain ⟨b', o', rfl, hpb', hcell', -⟩ := unhide HNS k hkn
          have hpl := unhide HP b' hpb'
          have ec : wr.cell? ⟨b', o' + k, none⟩ = some (.string t.names[k]) := by rw [World.cell?_of_block (w := w) ((HSP.out.below (unhide HLT) (unhide HBW)).block b' hpl)]; exact hcell'
          have eca : ∀ ob, (wr.alloc ob).cell? ⟨b', o' + k, none⟩ = some (.string t.names[k]) := fun ob => by rw [World.cell?_of_block (w := wr) (Below.heap_alloc _ _ _ (by have h1 := unhide HBW; have h2 := HSP.out.size; exact Nat.lt_of_lt_of_le hpl (Nat.le_trans h1 h2)))]; exact ec
          have h8 := hn8 _ (List.getElem_mem hkn)
          have hgd := getD_lt t.names k hkn
          rw [hgd] at hbd hnext
          have HLA : Hid (((l ++ [UInt8.ofNat t.kids.length]) ++ kidsB true t.names (t.kids.take k)).length + (shortB t.names[k]).length ≤ 9000) := by
            simp only [if_true] at hbd
            show _ ≤ _
            omega
          have HLB : Hid ((((l ++ [UInt8.ofNat t.kids.length]) ++ kidsB true t.names (t.kids.take k)) ++ shortB t.names[k]).length + (treeB t.kids[k]).length ≤ 9000) := by
            simp only [if_true] at hbd
            show _ ≤ _
            rw [List.length_append]
            omega
          have HNEXT : Hid ((((l ++ [UInt8.ofNat t.kids.length]) ++ kidsB true t.names (t.kids.take k)) ++ shortB t.names[k]) ++ treeB t.kids[k] = (l ++ [UInt8.ofNat t.kids.length]) ++ kidsB true t.names (t.kids.take (k + 1))) := by
            show _ = _
            rw [hnext]; simp
          have HTX := hide (text_any base B _ ar nr cr _ t.names[k] (unhide HWA) (by omega) (unhide HLA))
          clear hbd hnext hgd h8 hn8 hcell' hpb' hnl hpl ec
          go_wp2_with fail
          refine (unhide HTX).mono ?_
          rintro e w4 ⟨rfl, hsp4, a4, n4, cap4, -, hw4⟩
          have hkb4 := hsp4.box (unhide HKB) (by omega) (by decide)
          have m0 := hkb4.cell (i := 0) (by omega); have m1 := hkb4.cell (i := 1) (by omega); have m2 := hkb4.cell (i := 2) (by omega); have m3 := hkb4.cell (i := 3) (by omega); have m4 := hkb4.cell (i := 4) (by omega)
          simp only [row5] at m0 m1 m2 m3 m4
          have HSP4 := hide ((unhide HSPA).trans hsp4)
          have HBX4 := hide (hsp4.box (unhide HBXA) (by have := unhide HBL; omega) (by decide))
          have HW4 := hide hw4
          clear hw4 hsp4 hkb4 HTX HSPA HWA HBXA HKB eca ba0 ba3 b0 b3 HSP HW HBX
          go_wp2_with fail
          refine (unhide HCALL _ (unhide HSP4) a4 n4 cap4 _ (unhide HW4) (unhide HLB)).mono ?_
          rintro e w6 ⟨rfl, hsp6, a6, n6, cap6, -, hw6⟩
          have HSP6 := hide ((unhide HSP4).trans hsp6)
          have HBX6 := hide (hsp6.box (unhide HBX4) (by have := unhide HBL; omega) (by decide))
          rw [unhide HNEXT] at hw6
          have HW6 := hide hw6
          clear hw6 hsp6
          go_wp2_with fail
          go_roundw
          case rel => exact ⟨k + 1, a6, n6, cap6, by omega, by go_num, HW6, HSP6, HBX6⟩
          case measure => simp [intOf]; omega
    · go_wp2_with fail
      go_end0
      have hfin := HW.out
      rw [List.take_of_length_le (by omega), HE.out] at hfin
      exact ⟨rfl, HSP.out, ar, nr, cr, hfin.len, hfin⟩
end Go.Proofs.YtiflfcjocngiiaaGreatDoor

/- The walks of the program's byteWriter: tree, event; and of EventPack. Conditions: the table treeFields is as the program lays it. -/

namespace Go.Proofs.YtiflfcjocngiiaaGreatDoor
open Go Go.RowKit

set_option maxRecDepth 100000 in
set_option maxHeartbeats 3200000 in
theorem trP_step (n : Nat) (IH : TrP n) : TrP (n + 1) := by
  intro t hn P c d base B w a len cap l hP hrep hok h hl
  obtain ⟨c0, c1, c2, c3, c4⟩ := c
  have hrep0 := hrep
  obtain ⟨e0, e1, e2, -, -, -, hns, ak, capk, e4, -, hks⟩ := hrep.open
  simp only at e0 e1 e2 e4 hns
  subst e0 e1 e2 e4
  obtain ⟨a3, cap3, rfl, -, hns⟩ := hns
  have hso := ok_sort hok
  have hs1 : 1 ≤ t.sort := by omega
  have hs6 : t.sort ≤ 6 := by omega
  have htb := treeB_eq t
  have hBw := h.cells.lt
  have hbB := h.lt
  have hbw := h.size
  have hl1 : l.length + 1 ≤ 9000 := by rw [htb] at hl; simp at hl; omega
  have HPUT := hide (fun o => put_any base B (w.alloc o) a len cap l t.sort (h.alloc o) (by omega) (by omega) hl1)
  rcases (show t.sort = 1 ∨ t.sort = 2 ∨ t.sort = 3 ∨ (t.sort ≠ 1 ∧ t.sort ≠ 2 ∧ t.sort ≠ 3) by omega) with hs | hs | hs | ⟨hx1, hx2, hx3⟩
  · obtain ⟨hn0, hn9⟩ := ok_num hok hs
    have HE : Hid ((l ++ [UInt8.ofNat t.sort.toNat]) ++ numB t.num = l ++ treeB t) := by show _ = _; rw [htb, if_pos hs]; simp
    have hl2 : (l ++ [UInt8.ofNat t.sort.toNat]).length + (numB t.num).length ≤ 9000 := by rw [← List.length_append, HE.out, List.length_append]; exact hl
    have hq1 : (t.sort == 1) = true := by simpa using hs
    clear hs
    clear h hso htb hok hks hns hrep hrep0 hP
    go_enter Tryz.func85, Tryz.ntmps85
    go_wp2_with fail
    refine (unhide HPUT _).mono ?_
    rintro e w1 ⟨rfl, hsp1, a1, n1, cap1, -, hw1⟩
    have hr1 := hsp1.box (row5_alloc w (.int .i64 t.sort) (.int .i64 t.num) (.string t.text) (.slice a3 t.names.length cap3) (.slice ak t.kids.length capk) 39) (by omega) (by decide)
    have HSP1 := hide ((Sp.alloc base B w (.cells #[.int .i64 t.sort, .int .i64 t.num, .string t.text, .slice a3 t.names.length cap3, .slice ak t.kids.length capk] 39)).trans hsp1)
    have k0 := hr1.cell (i := 0) (by omega); have k1 := hr1.cell (i := 1) (by omega); have k2 := hr1.cell (i := 2) (by omega); have k3 := hr1.cell (i := 3) (by omega); have k4 := hr1.cell (i := 4) (by omega)
    simp only [row5] at k0 k1 k2 k3 k4
    have HC := hide (numPk_any base B w1 a1 n1 cap1 _ t.num hw1 hn0 hn9 hl2)
    clear hr1 hsp1 hw1 HPUT
    go_wp2_with fail
    refine (unhide HC).mono ?_
    rintro e w2 ⟨rfl, hsp2, hend⟩
    have HEND := hide hend; have HSP2 := hide ((unhide HSP1).trans hsp2)
    clear hend hsp2 HC
    go_wp2_with fail
    go_end0
    rw [HE.out] at HEND
    exact ⟨rfl, unhide HSP2, unhide HEND⟩
  · have htx := ok_text hok hs
    have HE : Hid ((l ++ [UInt8.ofNat t.sort.toNat]) ++ shortB t.text = l ++ treeB t) := by show _ = _; rw [htb, if_neg (by omega), if_pos hs]; simp
    have hl2 : (l ++ [UInt8.ofNat t.sort.toNat]).length + (shortB t.text).length ≤ 9000 := by rw [← List.length_append, HE.out, List.length_append]; exact hl
    have hq1 : (t.sort == 1) = false := by simp; omega
    have hq2 : (t.sort == 2) = true := by simpa using hs
    clear hs
    clear h hso htb hok hks hns hrep hrep0 hP
    go_enter Tryz.func85, Tryz.ntmps85
    go_wp2_with fail
    refine (unhide HPUT _).mono ?_
    rintro e w1 ⟨rfl, hsp1, a1, n1, cap1, -, hw1⟩
    have hr1 := hsp1.box (row5_alloc w (.int .i64 t.sort) (.int .i64 t.num) (.string t.text) (.slice a3 t.names.length cap3) (.slice ak t.kids.length capk) 39) (by omega) (by decide)
    have HSP1 := hide ((Sp.alloc base B w (.cells #[.int .i64 t.sort, .int .i64 t.num, .string t.text, .slice a3 t.names.length cap3, .slice ak t.kids.length capk] 39)).trans hsp1)
    have k0 := hr1.cell (i := 0) (by omega); have k1 := hr1.cell (i := 1) (by omega); have k2 := hr1.cell (i := 2) (by omega); have k3 := hr1.cell (i := 3) (by omega); have k4 := hr1.cell (i := 4) (by omega)
    simp only [row5] at k0 k1 k2 k3 k4
    have HC := hide (text_any base B w1 a1 n1 cap1 _ t.text hw1 (by omega) hl2)
    clear hr1 hsp1 hw1 HPUT
    go_wp2_with fail
    refine (unhide HC).mono ?_
    rintro e w2 ⟨rfl, hsp2, hend⟩
    have HEND := hide hend; have HSP2 := hide ((unhide HSP1).trans hsp2)
    clear hend hsp2 HC
    go_wp2_with fail
    go_end0
    rw [HE.out] at HEND
    exact ⟨rfl, unhide HSP2, unhide HEND⟩
  · obtain ⟨hf0, hf1⟩ := ok_flag hok hs
    have HE : Hid ((l ++ [UInt8.ofNat t.sort.toNat]) ++ [UInt8.ofNat t.num.toNat] = l ++ treeB t) := by show _ = _; rw [htb, if_neg (by omega), if_neg (by omega), if_pos hs]; simp
    have hl2 : (l ++ [UInt8.ofNat t.sort.toNat]).length + 1 ≤ 9000 := by have := congrArg List.length HE.out; simp only [List.length_append, List.length_cons, List.length_nil] at this hl ⊢; omega
    have hq1 : (t.sort == 1) = false := by simp; omega
    have hq2 : (t.sort == 2) = false := by simp; omega
    have hq3 : (t.sort == 3) = true := by simpa using hs
    clear hs
    clear h hso htb hok hks hns hrep hrep0 hP
    go_enter Tryz.func85, Tryz.ntmps85
    go_wp2_with fail
    refine (unhide HPUT _).mono ?_
    rintro e w1 ⟨rfl, hsp1, a1, n1, cap1, -, hw1⟩
    have hr1 := hsp1.box (row5_alloc w (.int .i64 t.sort) (.int .i64 t.num) (.string t.text) (.slice a3 t.names.length cap3) (.slice ak t.kids.length capk) 39) (by omega) (by decide)
    have HSP1 := hide ((Sp.alloc base B w (.cells #[.int .i64 t.sort, .int .i64 t.num, .string t.text, .slice a3 t.names.length cap3, .slice ak t.kids.length capk] 39)).trans hsp1)
    have k0 := hr1.cell (i := 0) (by omega); have k1 := hr1.cell (i := 1) (by omega); have k2 := hr1.cell (i := 2) (by omega); have k3 := hr1.cell (i := 3) (by omega); have k4 := hr1.cell (i := 4) (by omega)
    simp only [row5] at k0 k1 k2 k3 k4
    have HC := hide (put_any base B w1 a1 n1 cap1 _ t.num hw1 hf0 (by omega) hl2)
    clear hr1 hsp1 hw1 HPUT
    go_wp2_with fail
    refine (unhide HC).mono ?_
    rintro e w2 ⟨rfl, hsp2, hend⟩
    have HEND := hide hend; have HSP2 := hide ((unhide HSP1).trans hsp2)
    clear hend hsp2 HC
    go_wp2_with fail
    go_end0
    rw [HE.out] at HEND
    exact ⟨rfl, unhide HSP2, unhide HEND⟩
  · have HE : Hid ((l ++ [UInt8.ofNat t.sort.toNat]) ++ (UInt8.ofNat t.kids.length :: kidsB (decide (t.sort = 5)) t.names t.kids) = l ++ treeB t) := by show _ = _; rw [htb, if_neg hx1, if_neg hx2, if_neg hx3]; simp
    have hl2 : (l ++ [UInt8.ofNat t.sort.toNat]).length + (UInt8.ofNat t.kids.length :: kidsB (decide (t.sort = 5)) t.names t.kids).length ≤ 9000 := by rw [← List.length_append, HE.out, List.length_append]; exact hl
    have hq1 : (t.sort == 1) = false := by simp; omega
    have hq2 : (t.sort == 2) = false := by simp; omega
    have hq3 : (t.sort == 3) = false := by simp; omega
    have HKC := hide (fun (w1 : World) (hsp : Sp base B w w1) (a1 : Option Addr) (n1 cap1 : Nat) (l1 : List UInt8) (hw1 : Wr base B w1 (.slice a1 n1 cap1) l1) (hl1 : l1.length + (UInt8.ofNat t.kids.length :: kidsB (decide (t.sort = 5)) t.names t.kids).length ≤ 9000) => kids_any n IH t (by omega) P ⟨.int .i64 t.sort, .int .i64 t.num, .string t.text, .slice a3 t.names.length cap3, .slice ak t.kids.length capk⟩ d base B w1 a1 n1 cap1 l1 hP (hsp.rep hbB hbw hP hrep0) hok hw1 hl1)
    have HL2 := hide hl2
    clear hx1 hx2 hx3 hl2
    clear h hso htb hok hks hns hrep hrep0 hP
    go_enter Tryz.func85, Tryz.ntmps85
    go_wp2_with fail
    refine (unhide HPUT _).mono ?_
    rintro e w1 ⟨rfl, hsp1, a1, n1, cap1, -, hw1⟩
    have hr1 := hsp1.box (row5_alloc w (.int .i64 t.sort) (.int .i64 t.num) (.string t.text) (.slice a3 t.names.length cap3) (.slice ak t.kids.length capk) 39) (by omega) (by decide)
    have HSP1 := hide ((Sp.alloc base B w (.cells #[.int .i64 t.sort, .int .i64 t.num, .string t.text, .slice a3 t.names.length cap3, .slice ak t.kids.length capk] 39)).trans hsp1)
    have k0 := hr1.cell (i := 0) (by omega); have k1 := hr1.cell (i := 1) (by omega); have k2 := hr1.cell (i := 2) (by omega); have k3 := hr1.cell (i := 3) (by omega); have k4 := hr1.cell (i := 4) (by omega)
    simp only [row5] at k0 k1 k2 k3 k4
    have HC := hide (unhide HKC w1 (unhide HSP1) a1 n1 cap1 _ hw1 (unhide HL2))
    clear hr1 hsp1 hw1 HPUT HKC HL2
    go_wp2_with fail
    refine (unhide HC).mono ?_
    rintro e w2 ⟨rfl, hsp2, hend⟩
    have HEND := hide hend; have HSP2 := hide ((unhide HSP1).trans hsp2)
    clear hend hsp2 HC
    go_wp2_with fail
    go_end0
    rw [HE.out] at HEND
    exact ⟨rfl, unhide HSP2, unhide HEND⟩

theorem trP_all : ∀ n, TrP n
  | 0 => fun t h => by omega
  | n + 1 => trP_step n (trP_all n)
end Go.Proofs.YtiflfcjocngiiaaGreatDoor

/- The walks of the program's byteWriter.event, and of EventPack. Conditions: the table treeFields is as the program lays it. -/

namespace Go.Proofs.YtiflfcjocngiiaaGreatDoor
open Go Go.RowKit

set_option maxRecDepth 100000 in
set_option maxHeartbeats 1600000 in
theorem event_any (ty : ByteArray) (ver : Int) (t : Tr) (P : Nat → Prop) (c : C5) (base B : Nat) (w : World) (a : Option Addr) (len cap : Nat) (l : List UInt8) (hP : ∀ b, P b → b < base) (hrep : Rep P w t c) (hok : evOkB ty ver t = true) (h : Wr base B w (.slice a len cap) l) (hl : l.length + (eventB ty ver t).length ≤ 9000) :
    Calls Tryz.prog 79 #[.pointer (some ⟨B, 0, none⟩), .agg #[.string ty, .int .i64 ver, c.c0, c.c1, c.c2, c.c3, c.c4]] w fun e w' => WrEnd base B w w' e (l ++ eventB ty ver t) := by
  obtain ⟨c0, c1, c2, c3, c4⟩ := c
  obtain ⟨-, h8, hv1, hv12, -, hpt⟩ := evOk_parts hok
  have hBw := h.cells.lt
  have hbB := h.lt
  have hbw := h.size
  simp only [eventB, List.length_append, List.length_cons, List.length_nil] at hl
  have HTX := hide (fun o => text_any base B (w.alloc o) a len cap l ty (h.alloc o) (by omega) (by omega))
  have HE : Hid (((l ++ shortB ty) ++ [UInt8.ofNat ver.toNat]) ++ treeB t = l ++ eventB ty ver t) := by show _ = _; simp [eventB]
  have HTR := hide (fun (w1 : World) (hsp : Sp base B w w1) (a1 : Option Addr) (n1 cap1 : Nat) (l1 : List UInt8) (hw1 : Wr base B w1 (.slice a1 n1 cap1) l1) (hl1 : l1.length + (treeB t).length ≤ 9000) => trP_all (tsz t + 1) t (by omega) P ⟨c0, c1, c2, c3, c4⟩ 1 base B w1 a1 n1 cap1 l1 hP (hsp.rep hbB hbw hP hrep) hpt hw1 hl1)
  clear hrep hok h hpt hP
  go_enter Tryz.func79, Tryz.ntmps79
  go_wp2_with fail
  refine (unhide HTX _).mono ?_
  rintro e w1 ⟨rfl, hsp1, a1, n1, cap1, -, hw1⟩
  have hr1 := hsp1.box (row7_alloc w (.string ty) (.int .i64 ver) c0 c1 c2 c3 c4 41) (by omega) (by decide)
  have k1 := hr1.cell (i := 1) (by omega)
  simp only [row7] at k1
  have HPU := hide (put_any base B w1 a1 n1 cap1 _ ver hw1 (by omega) (by omega) (by simp; omega))
  have HSP1 := hide ((Sp.alloc base B w (.cells #[.string ty, .int .i64 ver, c0, c1, c2, c3, c4] 41)).trans hsp1); have HR1 := hide hr1
  clear hr1 hsp1 hw1 HTX
  go_wp2_with fail
  refine (unhide HPU).mono ?_
  rintro e w2 ⟨rfl, hsp2, a2, n2, cap2, -, hw2⟩
  have hr2 := hsp2.box (unhide HR1) (by omega) (by decide)
  have j2 := hr2.cell (i := 2) (by omega); have j3 := hr2.cell (i := 3) (by omega); have j4 := hr2.cell (i := 4) (by omega); have j5 := hr2.cell (i := 5) (by omega); have j6 := hr2.cell (i := 6) (by omega)
  simp only [row7] at j2 j3 j4 j5 j6
  have HSP2 := hide ((unhide HSP1).trans hsp2)
  have HC := hide (unhide HTR w2 (unhide HSP2) a2 n2 cap2 _ hw2 (by simp; omega))
  rw [HE.out] at HC
  clear hr2 hsp2 hw2 HPU HR1 HSP1 k1 HTR
  go_wp2_with fail
  refine (unhide HC).mono ?_
  rintro e w3 ⟨rfl, hsp3, hend⟩
  have HEND := hide hend; have HSP3 := hide ((unhide HSP2).trans hsp3)
  clear hend hsp3 HC
  go_wp2_with fail
  go_end0
  exact ⟨rfl, unhide HSP3, unhide HEND⟩

set_option maxRecDepth 100000 in
set_option maxHeartbeats 800000 in
/-- The work that EventPack hands to treeTry. -/
theorem packWork_any (ty : ByteArray) (ver : Int) (t : Tr) (P : Nat → Prop) (c : C5) (base B X Y : Nat) (w : World) (a : Option Addr) (len cap : Nat) (l : List UInt8) (hP : ∀ b, P b → b < base) (hrep : Rep P w t c) (hok : evOkB ty ver t = true) (h : Wr base B w (.slice a len cap) l) (hl : l.length + (eventB ty ver t).length ≤ 9000)
    (hX : w.rowIs X 41 7 (row7 (.string ty) (.int .i64 ver) c.c0 c.c1 c.c2 c.c3 c.c4)) (hY : w.rowIs Y 105 1 (fun _ => .pointer (some ⟨B, 0, none⟩))) :
    Calls Tryz.prog 78 #[.pointer (some ⟨Y, 0, none⟩), .pointer (some ⟨X, 0, none⟩)] w fun e w' => WrEnd base B w w' e (l ++ eventB ty ver t) := by
  have HC := hide (event_any ty ver t P c base B w a len cap l hP hrep hok h hl)
  obtain ⟨c0, c1, c2, c3, c4⟩ := c
  have j0 := hX.cell (i := 0) (by omega); have j1 := hX.cell (i := 1) (by omega); have j2 := hX.cell (i := 2) (by omega); have j3 := hX.cell (i := 3) (by omega); have j4 := hX.cell (i := 4) (by omega); have j5 := hX.cell (i := 5) (by omega); have j6 := hX.cell (i := 6) (by omega)
  have y0 := hY.cell (i := 0) (by omega)
  simp only [row7] at j0 j1 j2 j3 j4 j5 j6
  clear hX hY h hrep hP
  go_enter Tryz.func78, Tryz.ntmps78
  go_wp2_with fail
  refine (unhide HC).mono ?_
  rintro e w3 ⟨rfl, hsp3, hend⟩
  have HEND := hide hend; have HSP3 := hide hsp3
  clear hend hsp3 HC
  go_wp2_with fail
  go_end0
  exact ⟨rfl, unhide HSP3, unhide HEND⟩

theorem enterPack (caps : Array Value) (W : World) : Sem.run Tryz.prog (callFunc 78 caps) W = .ok (.enter 78 caps) W := by
  kernel_rfl
end Go.Proofs.YtiflfcjocngiiaaGreatDoor
