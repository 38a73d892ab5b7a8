/- The walks of the program's byteWriter.event, and of EventPack. Conditions: the table treeFields is as the program lays it. -/
import Derived.Test.YtmpfhkjipdhhlaaDoorWPkR
import Derived.Test.YtmpfhkjipdhhlaaDoorWTry
namespace Go.Proofs.YtmpfhkjipdhhlaaDoor
open Go Go.RowKit

set_option maxRecDepth 100000 in
set_option maxHeartbeats 1600000 in
theorem event_any (ty : ByteArray) (ver : Int) (t : Tr) (P : Nat → Prop) (c : C5) (base B : Nat) (w : World) (a : Option Addr) (len cap : Nat) (l : List UInt8) (hP : ∀ b, P b → b < base) (hrep : Rep P w t c) (hok : evOkB ty ver t = true) (h : Wr base B w (.slice a len cap) l) (hl : l.length + (eventB ty ver t).length ≤ 9000) :
    Calls Tryd.prog 37 #[.pointer (some ⟨B, 0, none⟩), .agg #[.string ty, .int .i64 ver, c.c0, c.c1, c.c2, c.c3, c.c4]] w fun e w' => WrEnd base B w w' e (l ++ eventB ty ver t) := by
  obtain ⟨c0, c1, c2, c3, c4⟩ := c
  obtain ⟨-, h8, hv1, hv12, -, hpt⟩ := evOk_parts hok
  have hBw := h.cells.lt
  have hbB := h.lt
  have hbw := h.size
  simp only [eventB, List.length_append, List.length_cons, List.length_nil] at hl
  have HTX := hide (fun o => text_any base B (w.alloc o) a len cap l ty (h.alloc o) (by omega) (by omega))
  have HE : Hid (((l ++ shortB ty) ++ [UInt8.ofNat ver.toNat]) ++ treeB t = l ++ eventB ty ver t) := by show _ = _; simp [eventB]
  have HTR := hide (fun (w1 : World) (hsp : Sp base B w w1) (a1 : Option Addr) (n1 cap1 : Nat) (l1 : List UInt8) (hw1 : Wr base B w1 (.slice a1 n1 cap1) l1) (hl1 : l1.length + (treeB t).length ≤ 9000) => trP_all (tsz t + 1) t (by omega) P ⟨c0, c1, c2, c3, c4⟩ 1 base B w1 a1 n1 cap1 l1 hP (hsp.rep hbB hbw hP hrep) hpt hw1 hl1)
  clear hrep hok h hpt hP
  go_enter Tryd.func37, Tryd.ntmps37
  go_wp2_with fail
  refine (unhide HTX _).mono ?_
  rintro e w1 ⟨rfl, hsp1, a1, n1, cap1, -, hw1⟩
  have hr1 := hsp1.box (row7_alloc w (.string ty) (.int .i64 ver) c0 c1 c2 c3 c4 34) (by omega) (by decide)
  have k1 := hr1.cell (i := 1) (by omega)
  simp only [row7] at k1
  have HPU := hide (put_any base B w1 a1 n1 cap1 _ ver hw1 (by omega) (by omega) (by simp; omega))
  have HSP1 := hide ((Sp.alloc base B w (.cells #[.string ty, .int .i64 ver, c0, c1, c2, c3, c4] 34)).trans hsp1); have HR1 := hide hr1
  clear hr1 hsp1 hw1 HTX
  go_wp2_with fail
  refine (unhide HPU).mono ?_
  rintro e w2 ⟨rfl, hsp2, a2, n2, cap2, -, hw2⟩
  have hr2 := hsp2.box (unhide HR1) (by omega) (by decide)
  have j2 := hr2.cell (i := 2) (by omega); have j3 := hr2.cell (i := 3) (by omega); have j4 := hr2.cell (i := 4) (by omega); have j5 := hr2.cell (i := 5) (by omega); have j6 := hr2.cell (i := 6) (by omega)
  simp only [row7] at j2 j3 j4 j5 j6
  have HSP2 := hide ((unhide HSP1).trans hsp2)
  have HC := hide (unhide HTR w2 (unhide HSP2) a2 n2 cap2 _ hw2 (by simp; omega))
  rw [HE.out] at HC
  clear hr2 hsp2 hw2 HPU HR1 HSP1 k1 HTR
  go_wp2_with fail
  refine (unhide HC).mono ?_
  rintro e w3 ⟨rfl, hsp3, hend⟩
  have HEND := hide hend; have HSP3 := hide ((unhide HSP2).trans hsp3)
  clear hend hsp3 HC
  go_wp2_with fail
  go_end0
  exact ⟨rfl, unhide HSP3, unhide HEND⟩

set_option maxRecDepth 100000 in
set_option maxHeartbeats 800000 in
/-- The work that EventPack hands to treeTry. -/
theorem packWork_any (ty : ByteArray) (ver : Int) (t : Tr) (P : Nat → Prop) (c : C5) (base B X Y : Nat) (w : World) (a : Option Addr) (len cap : Nat) (l : List UInt8) (hP : ∀ b, P b → b < base) (hrep : Rep P w t c) (hok : evOkB ty ver t = true) (h : Wr base B w (.slice a len cap) l) (hl : l.length + (eventB ty ver t).length ≤ 9000)
    (hX : w.rowIs X 34 7 (row7 (.string ty) (.int .i64 ver) c.c0 c.c1 c.c2 c.c3 c.c4)) (hY : w.rowIs Y 56 1 (fun _ => .pointer (some ⟨B, 0, none⟩))) :
    Calls Tryd.prog 36 #[.pointer (some ⟨Y, 0, none⟩), .pointer (some ⟨X, 0, none⟩)] w fun e w' => WrEnd base B w w' e (l ++ eventB ty ver t) := by
  have HC := hide (event_any ty ver t P c base B w a len cap l hP hrep hok h hl)
  obtain ⟨c0, c1, c2, c3, c4⟩ := c
  have j0 := hX.cell (i := 0) (by omega); have j1 := hX.cell (i := 1) (by omega); have j2 := hX.cell (i := 2) (by omega); have j3 := hX.cell (i := 3) (by omega); have j4 := hX.cell (i := 4) (by omega); have j5 := hX.cell (i := 5) (by omega); have j6 := hX.cell (i := 6) (by omega)
  have y0 := hY.cell (i := 0) (by omega)
  simp only [row7] at j0 j1 j2 j3 j4 j5 j6
  clear hX hY h hrep hP
  go_enter Tryd.func36, Tryd.ntmps36
  go_wp2_with fail
  refine (unhide HC).mono ?_
  rintro e w3 ⟨rfl, hsp3, hend⟩
  have HEND := hide hend; have HSP3 := hide hsp3
  clear hend hsp3 HC
  go_wp2_with fail
  go_end0
  exact ⟨rfl, unhide HSP3, unhide HEND⟩

theorem enterPack (caps : Array Value) (W : World) : Sem.run Tryd.prog (callFunc 36 caps) W = .ok (.enter 36 caps) W := by
  kernel_rfl
end Go.Proofs.YtmpfhkjipdhhlaaDoor
