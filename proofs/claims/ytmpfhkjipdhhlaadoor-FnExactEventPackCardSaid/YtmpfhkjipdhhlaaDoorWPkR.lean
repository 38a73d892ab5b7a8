/- The walks of the program's byteWriter: tree, event; and of EventPack. Conditions: the table treeFields is as the program lays it. -/
import Derived.Test.YtmpfhkjipdhhlaaDoorWPkQ
import Derived.Test.YtmpfhkjipdhhlaaDoorWPkE
namespace Go.Proofs.YtmpfhkjipdhhlaaDoor
open Go Go.RowKit

set_option maxRecDepth 100000 in
set_option maxHeartbeats 3200000 in
theorem trP_step (n : Nat) (IH : TrP n) : TrP (n + 1) := by
  intro t hn P c d base B w a len cap l hP hrep hok h hl
  obtain ⟨c0, c1, c2, c3, c4⟩ := c
  have hrep0 := hrep
  obtain ⟨e0, e1, e2, -, -, -, hns, ak, capk, e4, -, hks⟩ := hrep.open
  simp only at e0 e1 e2 e4 hns
  subst e0 e1 e2 e4
  obtain ⟨a3, cap3, rfl, -, hns⟩ := hns
  have hso := ok_sort hok
  have hs1 : 1 ≤ t.sort := by omega
  have hs6 : t.sort ≤ 6 := by omega
  have htb := treeB_eq t
  have hBw := h.cells.lt
  have hbB := h.lt
  have hbw := h.size
  have hl1 : l.length + 1 ≤ 9000 := by rw [htb] at hl; simp at hl; omega
  have HPUT := hide (fun o => put_any base B (w.alloc o) a len cap l t.sort (h.alloc o) (by omega) (by omega) hl1)
  rcases (show t.sort = 1 ∨ t.sort = 2 ∨ t.sort = 3 ∨ (t.sort ≠ 1 ∧ t.sort ≠ 2 ∧ t.sort ≠ 3) by omega) with hs | hs | hs | ⟨hx1, hx2, hx3⟩
  · obtain ⟨hn0, hn9⟩ := ok_num hok hs
    have HE : Hid ((l ++ [UInt8.ofNat t.sort.toNat]) ++ numB t.num = l ++ treeB t) := by show _ = _; rw [htb, if_pos hs]; simp
    have hl2 : (l ++ [UInt8.ofNat t.sort.toNat]).length + (numB t.num).length ≤ 9000 := by rw [← List.length_append, HE.out, List.length_append]; exact hl
    have hq1 : (t.sort == 1) = true := by simpa using hs
    clear hs
    clear h hso htb hok hks hns hrep hrep0 hP
    go_enter Tryd.func65, Tryd.ntmps65
    go_wp2_with fail
    refine (unhide HPUT _).mono ?_
    rintro e w1 ⟨rfl, hsp1, a1, n1, cap1, -, hw1⟩
    have hr1 := hsp1.box (row5_alloc w (.int .i64 t.sort) (.int .i64 t.num) (.string t.text) (.slice a3 t.names.length cap3) (.slice ak t.kids.length capk) 32) (by omega) (by decide)
    have HSP1 := hide ((Sp.alloc base B w (.cells #[.int .i64 t.sort, .int .i64 t.num, .string t.text, .slice a3 t.names.length cap3, .slice ak t.kids.length capk] 32)).trans hsp1)
    have k0 := hr1.cell (i := 0) (by omega); have k1 := hr1.cell (i := 1) (by omega); have k2 := hr1.cell (i := 2) (by omega); have k3 := hr1.cell (i := 3) (by omega); have k4 := hr1.cell (i := 4) (by omega)
    simp only [row5] at k0 k1 k2 k3 k4
    have HC := hide (num_any base B w1 a1 n1 cap1 _ t.num hw1 hn0 hn9 hl2)
    clear hr1 hsp1 hw1 HPUT
    go_wp2_with fail
    refine (unhide HC).mono ?_
    rintro e w2 ⟨rfl, hsp2, hend⟩
    have HEND := hide hend; have HSP2 := hide ((unhide HSP1).trans hsp2)
    clear hend hsp2 HC
    go_wp2_with fail
    go_end0
    rw [HE.out] at HEND
    exact ⟨rfl, unhide HSP2, unhide HEND⟩
  · have htx := ok_text hok hs
    have HE : Hid ((l ++ [UInt8.ofNat t.sort.toNat]) ++ shortB t.text = l ++ treeB t) := by show _ = _; rw [htb, if_neg (by omega), if_pos hs]; simp
    have hl2 : (l ++ [UInt8.ofNat t.sort.toNat]).length + (shortB t.text).length ≤ 9000 := by rw [← List.length_append, HE.out, List.length_append]; exact hl
    have hq1 : (t.sort == 1) = false := by simp; omega
    have hq2 : (t.sort == 2) = true := by simpa using hs
    clear hs
    clear h hso htb hok hks hns hrep hrep0 hP
    go_enter Tryd.func65, Tryd.ntmps65
    go_wp2_with fail
    refine (unhide HPUT _).mono ?_
    rintro e w1 ⟨rfl, hsp1, a1, n1, cap1, -, hw1⟩
    have hr1 := hsp1.box (row5_alloc w (.int .i64 t.sort) (.int .i64 t.num) (.string t.text) (.slice a3 t.names.length cap3) (.slice ak t.kids.length capk) 32) (by omega) (by decide)
    have HSP1 := hide ((Sp.alloc base B w (.cells #[.int .i64 t.sort, .int .i64 t.num, .string t.text, .slice a3 t.names.length cap3, .slice ak t.kids.length capk] 32)).trans hsp1)
    have k0 := hr1.cell (i := 0) (by omega); have k1 := hr1.cell (i := 1) (by omega); have k2 := hr1.cell (i := 2) (by omega); have k3 := hr1.cell (i := 3) (by omega); have k4 := hr1.cell (i := 4) (by omega)
    simp only [row5] at k0 k1 k2 k3 k4
    have HC := hide (text_any base B w1 a1 n1 cap1 _ t.text hw1 (by omega) hl2)
    clear hr1 hsp1 hw1 HPUT
    go_wp2_with fail
    refine (unhide HC).mono ?_
    rintro e w2 ⟨rfl, hsp2, hend⟩
    have HEND := hide hend; have HSP2 := hide ((unhide HSP1).trans hsp2)
    clear hend hsp2 HC
    go_wp2_with fail
    go_end0
    rw [HE.out] at HEND
    exact ⟨rfl, unhide HSP2, unhide HEND⟩
  · obtain ⟨hf0, hf1⟩ := ok_flag hok hs
    have HE : Hid ((l ++ [UInt8.ofNat t.sort.toNat]) ++ [UInt8.ofNat t.num.toNat] = l ++ treeB t) := by show _ = _; rw [htb, if_neg (by omega), if_neg (by omega), if_pos hs]; simp
    have hl2 : (l ++ [UInt8.ofNat t.sort.toNat]).length + 1 ≤ 9000 := by have := congrArg List.length HE.out; simp only [List.length_append, List.length_cons, List.length_nil] at this hl ⊢; omega
    have hq1 : (t.sort == 1) = false := by simp; omega
    have hq2 : (t.sort == 2) = false := by simp; omega
    have hq3 : (t.sort == 3) = true := by simpa using hs
    clear hs
    clear h hso htb hok hks hns hrep hrep0 hP
    go_enter Tryd.func65, Tryd.ntmps65
    go_wp2_with fail
    refine (unhide HPUT _).mono ?_
    rintro e w1 ⟨rfl, hsp1, a1, n1, cap1, -, hw1⟩
    have hr1 := hsp1.box (row5_alloc w (.int .i64 t.sort) (.int .i64 t.num) (.string t.text) (.slice a3 t.names.length cap3) (.slice ak t.kids.length capk) 32) (by omega) (by decide)
    have HSP1 := hide ((Sp.alloc base B w (.cells #[.int .i64 t.sort, .int .i64 t.num, .string t.text, .slice a3 t.names.length cap3, .slice ak t.kids.length capk] 32)).trans hsp1)
    have k0 := hr1.cell (i := 0) (by omega); have k1 := hr1.cell (i := 1) (by omega); have k2 := hr1.cell (i := 2) (by omega); have k3 := hr1.cell (i := 3) (by omega); have k4 := hr1.cell (i := 4) (by omega)
    simp only [row5] at k0 k1 k2 k3 k4
    have HC := hide (put_any base B w1 a1 n1 cap1 _ t.num hw1 hf0 (by omega) hl2)
    clear hr1 hsp1 hw1 HPUT
    go_wp2_with fail
    refine (unhide HC).mono ?_
    rintro e w2 ⟨rfl, hsp2, hend⟩
    have HEND := hide hend; have HSP2 := hide ((unhide HSP1).trans hsp2)
    clear hend hsp2 HC
    go_wp2_with fail
    go_end0
    rw [HE.out] at HEND
    exact ⟨rfl, unhide HSP2, unhide HEND⟩
  · have HE : Hid ((l ++ [UInt8.ofNat t.sort.toNat]) ++ (UInt8.ofNat t.kids.length :: kidsB (decide (t.sort = 5)) t.names t.kids) = l ++ treeB t) := by show _ = _; rw [htb, if_neg hx1, if_neg hx2, if_neg hx3]; simp
    have hl2 : (l ++ [UInt8.ofNat t.sort.toNat]).length + (UInt8.ofNat t.kids.length :: kidsB (decide (t.sort = 5)) t.names t.kids).length ≤ 9000 := by rw [← List.length_append, HE.out, List.length_append]; exact hl
    have hq1 : (t.sort == 1) = false := by simp; omega
    have hq2 : (t.sort == 2) = false := by simp; omega
    have hq3 : (t.sort == 3) = false := by simp; omega
    have HKC := hide (fun (w1 : World) (hsp : Sp base B w w1) (a1 : Option Addr) (n1 cap1 : Nat) (l1 : List UInt8) (hw1 : Wr base B w1 (.slice a1 n1 cap1) l1) (hl1 : l1.length + (UInt8.ofNat t.kids.length :: kidsB (decide (t.sort = 5)) t.names t.kids).length ≤ 9000) => kids_any n IH t (by omega) P ⟨.int .i64 t.sort, .int .i64 t.num, .string t.text, .slice a3 t.names.length cap3, .slice ak t.kids.length capk⟩ d base B w1 a1 n1 cap1 l1 hP (hsp.rep hbB hbw hP hrep0) hok hw1 hl1)
    have HL2 := hide hl2
    clear hx1 hx2 hx3 hl2
    clear h hso htb hok hks hns hrep hrep0 hP
    go_enter Tryd.func65, Tryd.ntmps65
    go_wp2_with fail
    refine (unhide HPUT _).mono ?_
    rintro e w1 ⟨rfl, hsp1, a1, n1, cap1, -, hw1⟩
    have hr1 := hsp1.box (row5_alloc w (.int .i64 t.sort) (.int .i64 t.num) (.string t.text) (.slice a3 t.names.length cap3) (.slice ak t.kids.length capk) 32) (by omega) (by decide)
    have HSP1 := hide ((Sp.alloc base B w (.cells #[.int .i64 t.sort, .int .i64 t.num, .string t.text, .slice a3 t.names.length cap3, .slice ak t.kids.length capk] 32)).trans hsp1)
    have k0 := hr1.cell (i := 0) (by omega); have k1 := hr1.cell (i := 1) (by omega); have k2 := hr1.cell (i := 2) (by omega); have k3 := hr1.cell (i := 3) (by omega); have k4 := hr1.cell (i := 4) (by omega)
    simp only [row5] at k0 k1 k2 k3 k4
    have HC := hide (unhide HKC w1 (unhide HSP1) a1 n1 cap1 _ hw1 (unhide HL2))
    clear hr1 hsp1 hw1 HPUT HKC HL2
    go_wp2_with fail
    refine (unhide HC).mono ?_
    rintro e w2 ⟨rfl, hsp2, hend⟩
    have HEND := hide hend; have HSP2 := hide ((unhide HSP1).trans hsp2)
    clear hend hsp2 HC
    go_wp2_with fail
    go_end0
    rw [HE.out] at HEND
    exact ⟨rfl, unhide HSP2, unhide HEND⟩

theorem trP_all : ∀ n, TrP n
  | 0 => fun t h => by omega
  | n + 1 => trP_step n (trP_all n)
end Go.Proofs.YtmpfhkjipdhhlaaDoor
