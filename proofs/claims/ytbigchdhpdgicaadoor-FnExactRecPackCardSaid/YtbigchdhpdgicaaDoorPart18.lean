/- The walks of the program's byteWriter: tree, event; and of EventPack. Conditions: the table treeFields is as the program lays it. -/
import Derived.Test.YtbigchdhpdgicaaDoorPart17
import Derived.Test.YtbigchdhpdgicaaDoorPart14
import Derived.Test.YtbigchdhpdgicaaDoorPart07
namespace Go.Proofs.YtbigchdhpdgicaaDoor
open Go Go.RowKit

set_option maxRecDepth 100000 in
set_option maxHeartbeats 3200000 in
theorem trP_step (n : Nat) (IH : TrP n) : TrP (n + 1) := by
  intro t hn P c d base B w a len cap l hP hrep hok h hl
  obtain ⟨c0, c1, c2, c3, c4⟩ := c
  have hrep0 := hrep
  obtain ⟨e0, e1, e2, -, -, -, hns, ak, capk, e4, -, hks⟩ := hrep.open
  simp only at e0 e1 e2 e4 hns
  subst e0 e1 e2 e4
  obtain ⟨a3, cap3, rfl, -, hns⟩ := hns
  have hso := ok_sort hok
  have hs1 : 1 ≤ t.sort := by omega
  have hs6 : t.sort ≤ 6 := by omega
  have htb := treeB_eq t
  have hBw := h.cells.lt
  have hbB := h.lt
  have hbw := h.size
  have hl1 : l.length + 1 ≤ 9000 := by rw [htb] at hl; simp at hl; omega
  have HPUT := hide (fun o => put_any base B (w.alloc o) a len cap l t.sort (h.alloc o) (by omega) (by omega) hl1)
  rcases (show t.sort = 1 ∨ t.sort = 2 ∨ t.sort = 3 ∨ (t.sort ≠ 1 ∧ t.sort ≠ 2 ∧ t.sort ≠ 3) by omega) with hs | hs | hs | ⟨hx1, hx2, hx3⟩
  · obtain ⟨hn0, hn9⟩ := ok_num hok hs
    have HE : Hid ((l ++ [UInt8.ofNat t.sort.toNat]) ++ numB t.num = l ++ treeB t) := by show _ = _; rw [htb, if_pos hs]; simp
    have hl2 : (l ++ [UInt8.ofNat t.sort.toNat]).length + (numB t.num).length ≤ 9000 := by rw [← List.length_append, HE.out, List.length_append]; exact hl
    have hq1 : (t.sort == 1) = true := by simpa using hs
    clear hs
    clear h hso htb hok hks hns hrep hrep0 hP
    go_enter Tryd.func62, Tryd.ntmps62
    go_wp2_with fail
    refine (unhide HPUT _).mono ?_
    rintro e w1 ⟨rfl, hsp1, a1, n1, cap1, -, hw1⟩
    have hr1 := hsp1.box (row5_alloc w (.int .i64 t.sort) (.int .i64 t.num) (.string t.text) (.slice a3 t.names.length cap3) (.slice ak t.kids.length capk) 41) (by omega) (by decide)
    have HSP1 := hide ((Sp.alloc base B w (.cells #[.int .i64 t.sort, .int .i64 t.num, .string t.text, .slice a3 t.names.length cap3, .slice ak t.kids.length capk] 41)).trans hsp1)
    have k0 := hr1.cell (i := 0) (by omega); have k1 := hr1.cell (i := 1) (by omega); have k2 := hr1.cell (i := 2) (by omega); have k3 := hr1.cell (i := 3) (by omega); have k4 := hr1.cell (i := 4) (by omega)
    simp only [row5] at k0 k1 k2 k3 k4
    have HC := hide (numPk_any base B w1 a1 n1 cap1 _ t.num hw1 hn0 hn9 hl2)
    clear hr1 hsp1 hw1 HPUT
    go_wp2_with fail
    refine (unhide HC).mono ?_
    rintro e w2 ⟨rfl, hsp2, hend⟩
    have HEND := hide hend; have HSP2 := hide ((unhide HSP1).trans hsp2)
    clear hend hsp2 HC
    go_wp2_with fail
    go_end0
    rw [HE.out] at HEND
    exact ⟨rfl, unhide HSP2, unhide HEND⟩
  · have htx := ok_text hok hs
    have HE : Hid ((l ++ [UInt8.ofNat t.sort.toNat]) ++ shortB t.text = l ++ treeB t) := by show _ = _; rw [htb, if_neg (by omega), if_pos hs]; simp
    have hl2 : (l ++ [UInt8.ofNat t.sort.toNat]).length + (shortB t.text).length ≤ 9000 := by rw [← List.length_append, HE.out, List.length_append]; exact hl
    have hq1 : (t.sort == 1) = false := by simp; omega
    have hq2 : (t.sort == 2) = true := by simpa using hs
    clear hs
    clear h hso htb hok hks hns hrep hrep0 hP
    go_enter Tryd.func62, Tryd.ntmps62
    go_wp2_with fail
    refine (unhide HPUT _).mono ?_
    rintro e w1 ⟨rfl, hsp1, a1, n1, cap1, -, hw1⟩
    have hr1 := hsp1.box (row5_alloc w (.int .i64 t.sort) (.int .i64 t.num) (.string t.text) (.slice a3 t.names.length cap3) (.slice ak t.kids.length capk) 41) (by omega) (by decide)
    have HSP1 := hide ((Sp.alloc base B w (.cells #[.int .i64 t.sort, .int .i64 t.num, .string t.text, .slice a3 t.names.length cap3, .slice ak t.kids.length capk] 41)).trans hsp1)
    have k0 := hr1.cell (i := 0) (by omega); have k1 := hr1.cell (i := 1) (by omega); have k2 := hr1.cell (i := 2) (by omega); have k3 := hr1.cell (i := 3) (by omega); have k4 := hr1.cell (i := 4) (by omega)
    simp only [row5] at k0 k1 k2 k3 k4
    have HC := hide (text_any base B w1 a1 n1 cap1 _ t.text hw1 (by omega) hl2)
    clear hr1 hsp1 hw1 HPUT
    go_wp2_with fail
    refine (unhide HC).mono ?_
    rintro e w2 ⟨rfl, hsp2, hend⟩
    have HEND := hide hend; have HSP2 := hide ((unhide HSP1).trans hsp2)
    clear hend hsp2 HC
    go_wp2_with fail
    go_end0
    rw [HE.out] at HEND
    exact ⟨rfl, unhide HSP2, unhide HEND⟩
  · obtain ⟨hf0, hf1⟩ := ok_flag hok hs
    have HE : Hid ((l ++ [UInt8.ofNat t.sort.toNat]) ++ [UInt8.ofNat t.num.toNat] = l ++ treeB t) := by show _ = _; rw [htb, if_neg (by omega), if_neg (by omega), if_pos hs]; simp
    have hl2 : (l ++ [UInt8.ofNat t.sort.toNat]).length + 1 ≤ 9000 := by have := congrArg List.length HE.out; simp only [List.length_append, List.length_cons, List.length_nil] at this hl ⊢; omega
    have hq1 : (t.sort == 1) = false := by simp; omega
    have hq2 : (t.sort == 2) = false := by simp; omega
    have hq3 : (t.sort == 3) = true := by simpa using hs
    clear hs
    clear h hso htb hok hks hns hrep hrep0 hP
    go_enter Tryd.func62, Tryd.ntmps62
    go_wp2_with fail
    refine (unhide HPUT _).mono ?_
    rintro e w1 ⟨rfl, hsp1, a1, n1, cap1, -, hw1⟩
    have hr1 := hsp1.box (row5_alloc w (.int .i64 t.sort) (.int .i64 t.num) (.string t.text) (.slice a3 t.names.length cap3) (.slice ak t.kids.length capk) 41) (by omega) (by decide)
    have HSP1 := hide ((Sp.alloc base B w (.cells #[.int .i64 t.sort, .int .i64 t.num, .string t.text, .slice a3 t.names.length cap3, .slice ak t.kids.length capk] 41)).trans hsp1)
    have k0 := hr1.cell (i := 0) (by omega); have k1 := hr1.cell (i := 1) (by omega); have k2 := hr1.cell (i := 2) (by omega); have k3 := hr1.cell (i := 3) (by omega); have k4 := hr1.cell (i := 4) (by omega)
    simp only [row5] at k0 k1 k2 k3 k4
    have HC := hide (put_any base B w1 a1 n1 cap1 _ t.num hw1 hf0 (by omega) hl2)
    clear hr1 hsp1 hw1 HPUT
    go_wp2_with fail
    refine (unhide HC).mono ?_
    rintro e w2 ⟨rfl, hsp2, hend⟩
    have HEND := hide hend; have HSP2 := hide ((unhide HSP1).trans hsp2)
    clear hend hsp2 HC
    go_wp2_with fail
    go_end0
    rw [HE.out] at HEND
    exact ⟨rfl, unhide HSP2, unhide HEND⟩
  · have HE : Hid ((l ++ [UInt8.ofNat t.sort.toNat]) ++ (UInt8.ofNat t.kids.length :: kidsB (decide (t.sort = 5)) t.names t.kids) = l ++ treeB t) := by show _ = _; rw [htb, if_neg hx1, if_neg hx2, if_neg hx3]; simp
    have hl2 : (l ++ [UInt8.ofNat t.sort.toNat]).length + (UInt8.ofNat t.kids.length :: kidsB (decide (t.sort = 5)) t.names t.kids).length ≤ 9000 := by rw [← List.length_append, HE.out, List.length_append]; exact hl
    have hq1 : (t.sort == 1) = false := by simp; omega
    have hq2 : (t.sort == 2) = false := by simp; omega
    have hq3 : (t.sort == 3) = false := by simp; omega
    have HKC := hide (fun (w1 : World) (hsp : Sp base B w w1) (a1 : Option Addr) (n1 cap1 : Nat) (l1 : List UInt8) (hw1 : Wr base B w1 (.slice a1 n1 cap1) l1) (hl1 : l1.length + (UInt8.ofNat t.kids.length :: kidsB (decide (t.sort = 5)) t.names t.kids).length ≤ 9000) => kids_any n IH t (by omega) P ⟨.int .i64 t.sort, .int .i64 t.num, .string t.text, .slice a3 t.names.length cap3, .slice ak t.kids.length capk⟩ d base B w1 a1 n1 cap1 l1 hP (hsp.rep hbB hbw hP hrep0) hok hw1 hl1)
    have HL2 := hide hl2
    clear hx1 hx2 hx3 hl2
    clear h hso htb hok hks hns hrep hrep0 hP
    go_enter Tryd.func62, Tryd.ntmps62
    go_wp2_with fail
    refine (unhide HPUT _).mono ?_
    rintro e w1 ⟨rfl, hsp1, a1, n1, cap1, -, hw1⟩
    have hr1 := hsp1.box (row5_alloc w (.int .i64 t.sort) (.int .i64 t.num) (.string t.text) (.slice a3 t.names.length cap3) (.slice ak t.kids.length capk) 41) (by omega) (by decide)
    have HSP1 := hide ((Sp.alloc base B w (.cells #[.int .i64 t.sort, .int .i64 t.num, .string t.text, .slice a3 t.names.length cap3, .slice ak t.kids.length capk] 41)).trans hsp1)
    have k0 := hr1.cell (i := 0) (by omega); have k1 := hr1.cell (i := 1) (by omega); have k2 := hr1.cell (i := 2) (by omega); have k3 := hr1.cell (i := 3) (by omega); have k4 := hr1.cell (i := 4) (by omega)
    simp only [row5] at k0 k1 k2 k3 k4
    have HC := hide (unhide HKC w1 (unhide HSP1) a1 n1 cap1 _ hw1 (unhide HL2))
    clear hr1 hsp1 hw1 HPUT HKC HL2
    go_wp2_with fail
    refine (unhide HC).mono ?_
    rintro e w2 ⟨rfl, hsp2, hend⟩
    have HEND := hide hend; have HSP2 := hide ((unhide HSP1).trans hsp2)
    clear hend hsp2 HC
    go_wp2_with fail
    go_end0
    rw [HE.out] at HEND
    exact ⟨rfl, unhide HSP2, unhide HEND⟩

theorem trP_all : ∀ n, TrP n
  | 0 => fun t h => by omega
  | n + 1 => trP_step n (trP_all n)
end Go.Proofs.YtbigchdhpdgicaaDoor

/- The walks of the program's byteWriter.event, and of EventPack. Conditions: the table treeFields is as the program lays it. -/

namespace Go.Proofs.YtbigchdhpdgicaaDoor
open Go Go.RowKit

set_option maxRecDepth 100000 in
set_option maxHeartbeats 1600000 in
theorem event_any (ty : ByteArray) (ver : Int) (t : Tr) (P : Nat → Prop) (c : C5) (base B : Nat) (w : World) (a : Option Addr) (len cap : Nat) (l : List UInt8) (hP : ∀ b, P b → b < base) (hrep : Rep P w t c) (hok : evOkB ty ver t = true) (h : Wr base B w (.slice a len cap) l) (hl : l.length + (eventB ty ver t).length ≤ 9000) :
    Calls Tryd.prog 57 #[.pointer (some ⟨B, 0, none⟩), .agg #[.string ty, .int .i64 ver, c.c0, c.c1, c.c2, c.c3, c.c4]] w fun e w' => WrEnd base B w w' e (l ++ eventB ty ver t) := by
  obtain ⟨c0, c1, c2, c3, c4⟩ := c
  obtain ⟨-, h8, hv1, hv12, -, hpt⟩ := evOk_parts hok
  have hBw := h.cells.lt
  have hbB := h.lt
  have hbw := h.size
  simp only [eventB, List.length_append, List.length_cons, List.length_nil] at hl
  have HTX := hide (fun o => text_any base B (w.alloc o) a len cap l ty (h.alloc o) (by omega) (by omega))
  have HE : Hid (((l ++ shortB ty) ++ [UInt8.ofNat ver.toNat]) ++ treeB t = l ++ eventB ty ver t) := by show _ = _; simp [eventB]
  have HTR := hide (fun (w1 : World) (hsp : Sp base B w w1) (a1 : Option Addr) (n1 cap1 : Nat) (l1 : List UInt8) (hw1 : Wr base B w1 (.slice a1 n1 cap1) l1) (hl1 : l1.length + (treeB t).length ≤ 9000) => trP_all (tsz t + 1) t (by omega) P ⟨c0, c1, c2, c3, c4⟩ 1 base B w1 a1 n1 cap1 l1 hP (hsp.rep hbB hbw hP hrep) hpt hw1 hl1)
  clear hrep hok h hpt hP
  go_enter Tryd.func57, Tryd.ntmps57
  go_wp2_with fail
  refine (unhide HTX _).mono ?_
  rintro e w1 ⟨rfl, hsp1, a1, n1, cap1, -, hw1⟩
  have hr1 := hsp1.box (row7_alloc w (.string ty) (.int .i64 ver) c0 c1 c2 c3 c4 43) (by omega) (by decide)
  have k1 := hr1.cell (i := 1) (by omega)
  simp only [row7] at k1
  have HPU := hide (put_any base B w1 a1 n1 cap1 _ ver hw1 (by omega) (by omega) (by simp; omega))
  have HSP1 := hide ((Sp.alloc base B w (.cells #[.string ty, .int .i64 ver, c0, c1, c2, c3, c4] 43)).trans hsp1); have HR1 := hide hr1
  clear hr1 hsp1 hw1 HTX
  go_wp2_with fail
  refine (unhide HPU).mono ?_
  rintro e w2 ⟨rfl, hsp2, a2, n2, cap2, -, hw2⟩
  have hr2 := hsp2.box (unhide HR1) (by omega) (by decide)
  have j2 := hr2.cell (i := 2) (by omega); have j3 := hr2.cell (i := 3) (by omega); have j4 := hr2.cell (i := 4) (by omega); have j5 := hr2.cell (i := 5) (by omega); have j6 := hr2.cell (i := 6) (by omega)
  simp only [row7] at j2 j3 j4 j5 j6
  have HSP2 := hide ((unhide HSP1).trans hsp2)
  have HC := hide (unhide HTR w2 (unhide HSP2) a2 n2 cap2 _ hw2 (by simp; omega))
  rw [HE.out] at HC
  clear hr2 hsp2 hw2 HPU HR1 HSP1 k1 HTR
  go_wp2_with fail
  refine (unhide HC).mono ?_
  rintro e w3 ⟨rfl, hsp3, hend⟩
  have HEND := hide hend; have HSP3 := hide ((unhide HSP2).trans hsp3)
  clear hend hsp3 HC
  go_wp2_with fail
  go_end0
  exact ⟨rfl, unhide HSP3, unhide HEND⟩

set_option maxRecDepth 100000 in
set_option maxHeartbeats 800000 in
/-- The work that EventPack hands to treeTry. -/
theorem packWork_any (ty : ByteArray) (ver : Int) (t : Tr) (P : Nat → Prop) (c : C5) (base B X Y : Nat) (w : World) (a : Option Addr) (len cap : Nat) (l : List UInt8) (hP : ∀ b, P b → b < base) (hrep : Rep P w t c) (hok : evOkB ty ver t = true) (h : Wr base B w (.slice a len cap) l) (hl : l.length + (eventB ty ver t).length ≤ 9000)
    (hX : w.rowIs X 43 7 (row7 (.string ty) (.int .i64 ver) c.c0 c.c1 c.c2 c.c3 c.c4)) (hY : w.rowIs Y 89 1 (fun _ => .pointer (some ⟨B, 0, none⟩))) :
    Calls Tryd.prog 56 #[.pointer (some ⟨Y, 0, none⟩), .pointer (some ⟨X, 0, none⟩)] w fun e w' => WrEnd base B w w' e (l ++ eventB ty ver t) := by
  have HC := hide (event_any ty ver t P c base B w a len cap l hP hrep hok h hl)
  obtain ⟨c0, c1, c2, c3, c4⟩ := c
  have j0 := hX.cell (i := 0) (by omega); have j1 := hX.cell (i := 1) (by omega); have j2 := hX.cell (i := 2) (by omega); have j3 := hX.cell (i := 3) (by omega); have j4 := hX.cell (i := 4) (by omega); have j5 := hX.cell (i := 5) (by omega); have j6 := hX.cell (i := 6) (by omega)
  have y0 := hY.cell (i := 0) (by omega)
  simp only [row7] at j0 j1 j2 j3 j4 j5 j6
  clear hX hY h hrep hP
  go_enter Tryd.func56, Tryd.ntmps56
  go_wp2_with fail
  refine (unhide HC).mono ?_
  rintro e w3 ⟨rfl, hsp3, hend⟩
  have HEND := hide hend; have HSP3 := hide hsp3
  clear hend hsp3 HC
  go_wp2_with fail
  go_end0
  exact ⟨rfl, unhide HSP3, unhide HEND⟩

theorem enterPack (caps : Array Value) (W : World) : Sem.run Tryd.prog (callFunc 56 caps) W = .ok (.enter 56 caps) W := by
  kernel_rfl
end Go.Proofs.YtbigchdhpdgicaaDoor

/- As WTry, of work that may look at what treeTry itself has laid: a cell of its own with no in it. No conditions. -/

namespace Go.Proofs.YtbigchdhpdgicaaDoor
open Go Go.RowKit

set_option maxRecDepth 100000 in
set_option maxHeartbeats 400000 in
/-- Work that comes to its end. -/
theorem treeTry_yes2 (f : FuncId) (caps : Array Value) (w : World) (R : World → Prop) (hent : ∀ W, Sem.run Tryd.prog (callFunc f caps) W = .ok (.enter f caps) W)
    (hwork : Calls Tryd.prog f caps (w.alloc (.cells #[.bool false] 4)) fun e w' => e = .returned (.tuple #[]) ∧ R w' ∧ w'.heap[w.heap.size]? = (w.alloc (.cells #[.bool false] 4)).heap[w.heap.size]?) :
    Calls Tryd.prog 55 #[.func (.func f) #[] caps] w fun e w' => e = .returned (.bool true) ∧ ∃ w1, R w1 ∧ But w.heap.size w1 w' := by
  have hmf : ∀ (fn : Fn) (first cap : Array Value) (w : World), (Instr.makeFunc fn first cap).run Tryd.prog w = .ok (.func fn first cap) w := fun _ _ _ _ => rfl
  have HW := hide hwork; clear hwork
  go_enter_defers Tryd.func55, Tryd.ntmps55
  go_wp2_with fail
  refine (unhide HW).mono ?_
  rintro e w1 ⟨rfl, hr, hbk⟩
  obtain ⟨hc, hz⟩ := cell_new1 hbk
  have HR := hide hr
  clear hr hbk
  go_wp2_with fail
  refine leaves_cons (f := 59) (args := #[.pointer (some ⟨w.heap.size, 0, none⟩)]) (by simp) (by simp [go_sem]) ?_
  refine (try_returning ⟨w.heap.size, 0, none⟩ true _ ?_ ?_).mono ?_
  · simp [go_sem, hc]
  · simp [go_sem, hz]
  rintro e u' w'' ⟨rfl, rfl, rfl⟩
  simp [Leaves, settle, results, Tryd.results55, go_sem, hc]
  exact ⟨w1, unhide HR, (But.set w1 0 _).trans (But.set _ 0 _)⟩

set_option maxRecDepth 100000 in
set_option maxHeartbeats 400000 in
/-- Work that raises a fault. -/
theorem treeTry_no2 (f : FuncId) (caps : Array Value) (w : World) (R : World → Prop) (hent : ∀ W, Sem.run Tryd.prog (callFunc f caps) W = .ok (.enter f caps) W)
    (hwork : Calls Tryd.prog f caps (w.alloc (.cells #[.bool false] 4)) fun e w' => e = fltE ∧ R w' ∧ w'.heap[w.heap.size]? = (w.alloc (.cells #[.bool false] 4)).heap[w.heap.size]?) :
    Calls Tryd.prog 55 #[.func (.func f) #[] caps] w fun e w' => e = .returned (.bool false) ∧ ∃ w1, R w1 ∧ But w.heap.size w1 w' := by
  have hmf : ∀ (fn : Fn) (first cap : Array Value) (w : World), (Instr.makeFunc fn first cap).run Tryd.prog w = .ok (.func fn first cap) w := fun _ _ _ _ => rfl
  have HW := hide hwork; clear hwork
  go_enter_defers Tryd.func55, Tryd.ntmps55
  go_wp2_with fail
  refine (unhide HW).mono ?_
  rintro e w1 ⟨rfl, hr, hbk⟩
  obtain ⟨hc, hz⟩ := cell_new1 hbk
  have HR := hide hr
  clear hr hbk
  go_wp2_with fail
  refine leaves_cons (f := 59) (args := #[.pointer (some ⟨w.heap.size, 0, none⟩)]) (by simp) (by simp [go_sem]) ?_
  refine (try_panicking ⟨w.heap.size, 0, none⟩ false 112 _ [] _ hc hz).mono ?_
  rintro e u' w'' ⟨rfl, rfl, rfl⟩
  simp [Leaves, settle, results, Tryd.results55, go_sem, hc]
  exact ⟨w1, unhide HR, But.set w1 0 _⟩
end Go.Proofs.YtbigchdhpdgicaaDoor

/- The walk of the program's EventPack. Conditions: the table treeFields is as the program lays it. -/

namespace Go.Proofs.YtbigchdhpdgicaaDoor
open Go Go.RowKit

/-- What EventPack's world holds: the event's box, the writer, the writer's address. -/
structure PkAt (base : Nat) (w : World) (ty : ByteArray) (ver : Int) (c : C5) (v : Value) (l : List UInt8) : Prop where
  box : w.rowIs base 43 7 (row7 (.string ty) (.int .i64 ver) c.c0 c.c1 c.c2 c.c3 c.c4)
  wr : Wr base (base + 1) w v l
  ptr : w.rowIs (base + 1 + 1) 89 1 (fun _ => .pointer (some ⟨base + 1, 0, none⟩))

theorem PkAt.on {base : Nat} {w w' : World} {ty : ByteArray} {ver : Int} {c : C5} {v : Value} {l : List UInt8} (h : PkAt base w ty ver c v l) (hb : Below w.heap.size w w') : PkAt base w' ty ver c v l :=
  ⟨h.box.of_block (hb.block _ h.box.lt), ⟨h.wr.cells.of_block (hb.block _ h.wr.cells.lt), h.wr.row.stay hb, h.wr.lt⟩, h.ptr.of_block (hb.block _ h.ptr.lt)⟩

theorem row1_alloc (w : World) (x : Value) (t : TypeId) : (w.alloc (.cells #[x] t)).rowIs w.heap.size t 1 (fun _ => x) :=
  World.rowIs_alloc w #[x] t _ (fun i hi => by
    have hi' : i < 1 := hi
    match i, hi' with
    | 0, _ => rfl)

theorem PkAt.start (w : World) (ty : ByteArray) (ver : Int) (c0 c1 c2 c3 c4 : Value) : PkAt w.heap.size (((w.alloc (.cells #[.string ty, .int .i64 ver, c0, c1, c2, c3, c4] 43)).alloc (.cells #[.int .i64 0, .int .i64 9000, .slice none 0 0] 95)).alloc (.cells #[.pointer (some ⟨w.heap.size + 1, 0, none⟩)] 89)) ty ver ⟨c0, c1, c2, c3, c4⟩ (.slice none 0 0) [] := by
  refine ⟨((row7_alloc w (.string ty) (.int .i64 ver) c0 c1 c2 c3 c4 _).alloc _).alloc _, ⟨?_, ⟨rfl, Or.inl ⟨rfl, rfl⟩⟩, Nat.le_succ _⟩, ?_⟩
  · have := (row3_alloc (w.alloc (.cells #[.string ty, .int .i64 ver, c0, c1, c2, c3, c4] 43)) (.int .i64 0) (.int .i64 9000) (.slice none 0 0) 95).alloc (.cells #[.pointer (some ⟨w.heap.size + 1, 0, none⟩)] 89)
    rw [World.size_alloc] at this
    exact this
  · have := row1_alloc ((w.alloc (.cells #[.string ty, .int .i64 ver, c0, c1, c2, c3, c4] 43)).alloc (.cells #[.int .i64 0, .int .i64 9000, .slice none 0 0] 95)) (.pointer (some ⟨w.heap.size + 1, 0, none⟩)) 89
    rw [World.size_alloc, World.size_alloc] at this
    exact this

set_option maxRecDepth 100000 in
/-- treeTry over EventPack's work, where the event is ok. -/
theorem packTry_any (ty : ByteArray) (ver : Int) (t : Tr) (P : Nat → Prop) (c : C5) (base : Nat) (w : World) (hP : ∀ b, P b → b < base) (hrep : Rep P w t c) (hok : evOkB ty ver t = true) (h : PkAt base w ty ver c (.slice none 0 0) []) :
    Calls Tryd.prog 55 #[.func (.func 56) #[] #[.pointer (some ⟨base + 1 + 1, 0, none⟩), .pointer (some ⟨base, 0, none⟩)]] w fun e w' =>
      e = .returned (.bool true) ∧ (∃ a n cap, n = (eventB ty ver t).length ∧ PkAt base w' ty ver c (.slice a n cap) (eventB ty ver t)) ∧ Below base w w' := by
  obtain ⟨-, h8, -, -, -, hpt⟩ := evOk_parts hok
  have hlen : ([] : List UInt8).length + (eventB ty ver t).length ≤ 9000 := by have := eventB_len (ver := ver) h8 hpt; simpa using this
  have hpl := h.ptr.lt
  have hb0 : Below w.heap.size w (w.alloc (.cells #[.bool false] 4)) := (Below.refl _ _).alloc (Nat.le_refl _) _
  have h1 := h.on hb0
  have hrep1 : Rep P (w.alloc (.cells #[.bool false] 4)) t c := Rep.carry (fun b hb => hb0.block b (by have := hP b hb; omega)) (fun _ h => h) _ _ hrep
  have hbl := row1_alloc w (.bool false) 4
  refine (treeTry_yes2 56 _ w (fun w1 => Sp base (base + 1) (w.alloc (.cells #[.bool false] 4)) w1 ∧ ∃ a n cap, n = (eventB ty ver t).length ∧ Wr base (base + 1) w1 (.slice a n cap) (eventB ty ver t)) (enterPack _) ?_).mono ?_
  · refine (packWork_any ty ver t P c base (base + 1) base (base + 1 + 1) _ none 0 0 [] hP hrep1 hok h1.wr hlen h1.box h1.ptr).mono ?_
    rintro e w' ⟨he, hsp, hend⟩
    rw [List.nil_append] at hend
    refine ⟨he, ⟨hsp, hend⟩, ?_⟩
    exact hsp.block _ hbl.lt (by omega) (Or.inr fun cs f e => by
      obtain ⟨c', hb', _⟩ := hbl
      rw [e] at hb'
      simp at hb')
  · rintro e w' ⟨rfl, w1, ⟨hsp, a, n, cap, hn, hw⟩, hb⟩
    have hs1 := hsp.size
    rw [World.size_alloc] at hs1
    have hbl1 : w1.rowIs w.heap.size 4 1 (fun _ => .bool false) := hsp.box hbl (by omega) (by decide)
    have hne : (Value.slice a n cap).ownBlock ≠ some w.heap.size := ByRow.apart hw.row hbl1 (by decide)
    have hbox1 := hsp.box h1.box (by omega) (by decide)
    have hptr1 := hsp.box h1.ptr (by omega) (by decide)
    refine ⟨rfl, ⟨a, n, cap, hn, hbox1.of_block (hb.at hbox1.lt (by omega)), ⟨hw.cells.of_block (hb.at hw.cells.lt (by omega)), World.ownsRow.kept hw.row hb (Or.inr hne), hw.lt⟩, hptr1.of_block (hb.at hptr1.lt (by omega))⟩, ?_⟩
    have hlow : Below base w w1 := ((Below.refl base w).alloc (by omega) (.cells #[.bool false] 4)).trans (hsp.below (by omega) (by simp; omega))
    exact ⟨hb.os.trans hlow.os, hb.tape.trans hlow.tape, hb.output.trans hlow.output, Nat.le_trans hlow.size hb.size, fun b hbb => (hb.at (by omega) (by omega)).trans (hlow.block b hbb)⟩

set_option maxRecDepth 100000 in
theorem newWriter_any (w : World) : Calls Tryd.prog 53 #[.int .i64 9000] w fun e w' => e = .returned (.pointer (some ⟨w.heap.size, 0, none⟩)) ∧ w' = w.alloc (.cells #[.int .i64 0, .int .i64 9000, .slice none 0 0] 95) := by
  go_enter Tryd.func53, Tryd.ntmps53
  go_wp2_with fail
  go_ret
  exact ⟨rfl, rfl⟩

set_option maxRecDepth 100000 in
set_option maxHeartbeats 1600000 in
theorem implEventPack_any (ty : ByteArray) (ver : Int) (t : Tr) (P : Nat → Prop) (c : C5) (w : World) (hP : ∀ b, P b → b < w.heap.size) (hrep : Rep P w t c) (hty : ty.size ≤ 9223372036854775807) (hver : I64 ver) (hT : Tab w) :
    Calls Tryd.prog 47 #[.agg #[.string ty, .int .i64 ver, c.c0, c.c1, c.c2, c.c3, c.c4]] w fun e w' => ByNew w w' e (packB ty ver t) := by
  have hmf : ∀ (fn : Fn) (first cap : Array Value) (w : World), (Instr.makeFunc fn first cap).run Tryd.prog w = .ok (.func fn first cap) w := fun _ _ _ _ => rfl
  obtain ⟨c0, c1, c2, c3, c4⟩ := c
  have hok := fun (W : World) (hW : Below w.heap.size w W) => implEventOk_any ty ver t P ⟨c0, c1, c2, c3, c4⟩ W (fun b hb => Nat.lt_of_lt_of_le (hP b hb) hW.size) (Rep.carry (fun b hb => hW.block b (hP b hb)) (fun _ h => h) _ _ hrep) hty hver (hT.of_block (hW.block 0 hT.lt))
  have hbx : ∀ o o2 o3, Below w.heap.size w (((w.alloc o).alloc o2).alloc o3) := fun o o2 o3 => (((Below.refl _ _).alloc (Nat.le_refl _) o).alloc (by simp) o2).alloc (by simp; omega) o3
  have HST := hide (PkAt.start w ty ver c0 c1 c2 c3 c4)
  have HTRY := hide (fun (W : World) (hW : Below w.heap.size w W) (hk : evOkB ty ver t = true) (h : PkAt w.heap.size W ty ver ⟨c0, c1, c2, c3, c4⟩ (.slice none 0 0) []) => packTry_any ty ver t P ⟨c0, c1, c2, c3, c4⟩ w.heap.size W hP (Rep.carry (fun b hb => hW.block b (hP b hb)) (fun _ h => h) _ _ hrep) hk h)
  have HOK := hide hok; have HBX := hide hbx
  clear hok hbx hP hrep hT hty hver
  by_cases h : evOkB ty ver t = true
  · have HE : Hid (packB ty ver t = eventB ty ver t) := by show packB ty ver t = _; rw [packB, if_pos h]
    have HK := hide h
    rw [h] at HOK
    clear h
    go_enter Tryd.func47, Tryd.ntmps47
    go_wp2_with (go_at_call 53; refine (newWriter_any _).mono ?_; rintro e w' ⟨rfl, rfl⟩)
    refine (unhide HOK _ (unhide HBX _ _ _)).mono ?_
    rintro e w2 ⟨rfl, hb2⟩
    have HP2 := hide ((unhide HST).on hb2)
    have HB2 := hide ((unhide HBX _ _ _).trans (hb2.mono (unhide HBX _ _ _).size))
    clear hb2 HOK HST HBX
    have HT := hide (unhide HTRY w2 (unhide HB2) (unhide HK) (unhide HP2))
    clear HTRY HP2
    go_wp2_with fail
    refine (unhide HT).mono ?_
    rintro e w3 ⟨rfl, ⟨a, n, cap, hn, hp3⟩, hb3⟩
    have y0 := hp3.ptr.cell (i := 0) (by omega)
    have r2 := hp3.wr.cells.cell (i := 2) (by omega)
    simp only [row3] at y0 r2
    have HP3 := hide hp3; have HB3 := hide ((unhide HB2).trans hb3); have HN := hide hn
    clear hp3 hb3 hn HT HB2
    go_wp2_with fail
    go_ret
    rw [HE.out]
    exact ⟨a, n, cap, rfl, unhide HN, (unhide HP3).wr.row, unhide HB3⟩
  · have HE : Hid (packB ty ver t = []) := by show packB ty ver t = _; rw [packB, if_neg h]
    have hf : evOkB ty ver t = false := by simpa using h
    rw [hf] at HOK
    clear h hf HTRY
    go_enter Tryd.func47, Tryd.ntmps47
    go_wp2_with (go_at_call 53; refine (newWriter_any _).mono ?_; rintro e w' ⟨rfl, rfl⟩)
    refine (unhide HOK _ (unhide HBX _ _ _)).mono ?_
    rintro e w2 ⟨rfl, hb2⟩
    have HB2 := hide ((unhide HBX _ _ _).trans (hb2.mono (unhide HBX _ _ _).size))
    clear hb2 HOK HST HBX
    go_wp2_with fail
    go_ret
    rw [HE.out]
    exact ⟨none, 0, 0, rfl, rfl, ⟨rfl, Or.inl ⟨rfl, rfl⟩⟩, unhide HB2⟩
end Go.Proofs.YtbigchdhpdgicaaDoor
