/- The walk of the program's planLines and of its closure: the lines of a plan that is ok, one behind the other, as long as one listens. The table of powers is as strconv's text lays it. -/
import Derived.RangeFuncNested
import Derived.RangeFuncBound
import Derived.RangeFuncCalls
import Derived.RangeFuncLeaves
import Derived.Shelf.Abstract
import Derived.Shelf.RegionOpen
import Derived.WalkKit
import Derived.OwnWalkIn
import Derived.TacticsInMore
import Derived.LoopNIn
import Derived.LoopIn
import Derived.Test.YtmaojhacdelleaaDoorWPwL
import Derived.Test.YtmaojhacdelleaaDoorRows
namespace Go.Proofs.YtmaojhacdelleaaDoor
open Go Go.RowKit Go.Shelf

attribute [local go_sem] Oper.semAt_some

/-- A line. -/
abbrev LX := { x : ByteArray // x.size ≤ 200 }
def lKey (x : LX) : List UInt8 := x.1.data.toList
def lEnc (x : LX) : Array Value := #[.string x.1]
def lines (l : Pl) : List (List UInt8) := l.parts.map sealL ++ [openL l, endL]
theorem lines_text (l : Pl) : (lines l).flatten = plT l := by
  unfold lines plT plX
  rw [List.take_length, List.flatten_append]; simp
def mkL (x : List UInt8) (h : x.length ≤ 200) : LX := ⟨⟨x.toArray⟩, by simpa [ByteArray.size] using h⟩
theorem mkL_key (x : List UInt8) (h : x.length ≤ 200) : lKey (mkL x h) = x := rfl
theorem seal_ln (p : Pt) : lnX ⟨#[115, 101, 97, 108]⟩ [p.num, p.first, p.next, p.size] 4 ++ [10] = sealL p := by
  unfold lnX sealL; simp
theorem open_ln (l : Pl) : lnX ⟨#[111, 112, 101, 110]⟩ [l.op, l.fi] 2 ++ [10] = openL l := by
  unfold lnX openL; simp
theorem end_ln : lnX ⟨#[101, 110, 100]⟩ [] 0 ++ [10] = endL := by
  unfold lnX endL; simp

/-- Below M nothing has turned but one block. -/
structure KpL (M b3 : Nat) (W W' : World) : Prop where
  size : W.heap.size ≤ W'.heap.size
  block : ∀ k, k < M → k ≠ b3 → W'.heap[k]? = W.heap[k]?
theorem KpL.refl (M b3 : Nat) (W : World) : KpL M b3 W W := ⟨Nat.le_refl _, fun _ _ _ => rfl⟩
theorem KpL.trans {M b3 : Nat} {A B C : World} (h : KpL M b3 A B) (k : KpL M b3 B C) : KpL M b3 A C := ⟨Nat.le_trans h.size k.size, fun i h1 h2 => (k.block i h1 h2).trans (h.block i h1 h2)⟩
theorem KpL.of_below {M b3 : Nat} {A B : World} (h : Below A.heap.size A B) (hM : M ≤ A.heap.size) : KpL M b3 A B := ⟨h.size, fun i h1 _ => h.block i (Nat.lt_of_lt_of_le h1 hM)⟩
theorem KpL.putObj {M b3 : Nat} {w : World} (hM : M ≤ w.heap.size) (W : World) (l : Nat) (o o' : Obj) (hl : w.heap.size ≤ l) (_ : W.heap[l]? = some o) (_ : o.isCells = false) (_ : o.isWalk = false) : KpL M b3 W (W.putObj l o') :=
  ⟨by simp [World.putObj], fun k h1 _ => World.putObj_heap_other (by omega)⟩
theorem grown_of_below {A B : World} (h : Below A.heap.size A B) : A.grownBy B none := ⟨h.os, h.tape, h.output, h.size, fun i hi _ => h.block i hi⟩

theorem gPowL : Tryd.prog.globalNamed "internal/strconv.uint64pow10" = some 0 := by kernel_rfl
theorem tab_keep {w w' : World} (h : Lib.TabIs Tryd.prog w "internal/strconv.uint64pow10" .u64 Lib.pow10Tab) (hb : w'.heap[0]? = w.heap[0]?) : Lib.TabIs Tryd.prog w' "internal/strconv.uint64pow10" .u64 Lib.pow10Tab := by
  unfold Lib.TabIs World.var? at h ⊢
  rw [gPowL] at h ⊢
  simp only [Option.bind_some] at h ⊢
  rw [hb]; exact h

set_option maxHeartbeats 1000000 in
theorem planLines_in (n : Nat) (c0 c1 c2 : Value) (w : World) (h0 : ∃ a m cap, c0 = .slice a m cap) (h1 : ∃ z, c1 = .int .i64 z) (h2 : ∃ z, c2 = .int .i64 z) :
    CallsIn Fence.wide n Tryd.prog 14 #[.agg #[c0, c1, c2]] w fun e w' => e = .returned (.func (.func 20) #[] #[.pointer (some ⟨w.heap.size, 0, none⟩)]) ∧ w' = w.alloc (.cells #[c0, c1, c2] 29) := by
  obtain ⟨a, m, cap, rfl⟩ := h0
  obtain ⟨z1, rfl⟩ := h1
  obtain ⟨z2, rfl⟩ := h2
  refine callsIn_of_wp Tryd.func14 rfl trivial ?_ rfl
  simp only [Tryd.ntmps14, List.size_toArray, List.length_cons, List.length_nil, Nat.reduceAdd, Nat.reduceSub, Array.replicate_succ, Array.replicate_zero, List.push_toArray, List.append_toArray, List.nil_append, List.cons_append]
  gi_wp2
  go_ret
  exact ⟨rfl, rfl⟩

/-- What planLine says, at numbers that were just laid. -/
theorem line_laid (s : ByteArray) (hs : s.size ≤ 10) (zs : List Int) (g : Nat) (W : World) (h4 : zs.length ≤ 4) (hz : ∀ z, z ∈ zs → 0 ≤ z ∧ z ≤ 999999999) (hc : ∀ i, (h : i < zs.length) → W.cell? ⟨g, i, none⟩ = some (.int .i64 zs[i])) (hg : g < W.heap.size)
    (htab : Lib.TabIs Tryd.prog W "internal/strconv.uint64pow10" .u64 Lib.pow10Tab) :
    Calls Tryd.prog 21 #[.string s, .slice (some ⟨g, 0, none⟩) zs.length zs.length] W fun e w' => e = .returned (.string ⟨(lnX s zs zs.length ++ [10]).toArray⟩) ∧ Below W.heap.size W w' :=
  planLine_any s hs zs (some ⟨g, 0, none⟩) zs.length W h4 (fun i h => hz _ (List.getElem_mem h)) (fun i h => ⟨g, 0, rfl, hg, by rw [Nat.zero_add]; exact hc i h⟩) htab
end Go.Proofs.YtmaojhacdelleaaDoor
