/- The program's byteWriter in memory, and the walks of its add, put, text, size, num. Conditions: what is put fits in 9000 bytes. -/
import Derived.Test.YtbigchdhpdgicaaDoorPart06
import Derived.Test.YtbigchdhpdgicaaDoorPart00
import Derived.Test.YtbigchdhpdgicaaDoorPart07
import Derived.OneCell
import Derived.Deep.QuietTactic
import Derived.BigQuiet
import Derived.Deep.RegionLaw
import Derived.Test.YtbigchdhpdgicaaDoorPart01
import Derived.Maps.OwnSet
import Derived.Maps.OwnOps
import Derived.Maps.Views
import Derived.Deep.Draws
namespace Go.Proofs.YtbigchdhpdgicaaDoor
open Go Go.RowKit

theorem ByRow.apart {base : Nat} {w : World} {v : Value} {l : List UInt8} {b : Nat} {T : TypeId} {n : Nat} {f : Nat → Value} (h : ByRow base w v l) (hr : w.rowIs b T n f) (hT : T ≠ 5) : v.ownBlock ≠ some b := by
  rcases h.2 with ⟨hv, _⟩ | ⟨g, cap, cur, hv, _, hg, _⟩
  · subst hv; simp [Value.ownBlock]
  · subst hv
    obtain ⟨c, hb, _⟩ := hr
    intro e
    simp [Value.ownBlock] at e
    subst e
    rw [hg] at hb
    simp at hb
    exact hT hb.2.symm

/-- The writer: its counter, and the bytes that were put. -/
structure Wr (base B : Nat) (w : World) (v : Value) (l : List UInt8) : Prop where
  cells : w.rowIs B 95 3 (row3 (.int .i64 l.length) (.int .i64 9000) v)
  row : ByRow base w v l
  lt : base ≤ B

/-- Nothing has turned but the writer and rows of bytes from a base on. -/
structure Sp (base B : Nat) (w w' : World) : Prop where
  os : w'.os = w.os
  tape : w'.tape = w.tape
  output : w'.output = w.output
  size : w.heap.size ≤ w'.heap.size
  block : ∀ b, b < w.heap.size → b ≠ B → (b < base ∨ ∀ cs f, w.heap[b]? ≠ some (.cells cs 5 f)) → w'.heap[b]? = w.heap[b]?

theorem Sp.refl (base B : Nat) (w : World) : Sp base B w w := ⟨rfl, rfl, rfl, Nat.le_refl _, fun _ _ _ _ => rfl⟩
theorem Sp.trans {base B : Nat} {a b c : World} (h : Sp base B a b) (k : Sp base B b c) : Sp base B a c :=
  ⟨k.os.trans h.os, k.tape.trans h.tape, k.output.trans h.output, Nat.le_trans h.size k.size, fun i hi hne hc => by
    have e := h.block i hi hne hc
    exact (k.block i (Nat.lt_of_lt_of_le hi h.size) hne (by rw [e]; exact hc)).trans e⟩
theorem Sp.but {base B : Nat} {w w' : World} (h : But B w w') : Sp base B w w' := ⟨h.os, h.tape, h.output, h.size, fun _ hi hne _ => h.at hi hne⟩
theorem Sp.alloc (base B : Nat) (w : World) (o : Obj) : Sp base B w (w.alloc o) := Sp.but (But.alloc B w o)
theorem Sp.grown {base B : Nat} {w w' : World} {v : Value} {l : List UInt8} (h : ByRow base w v l) (hg : w.grownBy w' v.ownBlock) : Sp base B w w' :=
  ⟨hg.os, hg.tape, hg.output, hg.size, fun b hb _ hc => hg.block b hb (fun e => by
    rcases h.2 with ⟨hv, _⟩ | ⟨g, cap, cur, hv, hbg, hh, _⟩
    · subst hv; simp [Value.ownBlock] at e
    · subst hv
      simp [Value.ownBlock] at e
      subst e
      rcases hc with hc | hc
      · omega
      · exact hc _ _ hh)⟩
theorem Sp.below {base B : Nat} {w w' : World} (h : Sp base B w w') (hb : base ≤ B) (hw : base ≤ w.heap.size) : Below base w w' :=
  ⟨h.os, h.tape, h.output, h.size, fun b hbb => h.block b (by omega) (by omega) (Or.inl hbb)⟩
theorem Sp.box {base B : Nat} {w w' : World} (h : Sp base B w w') {X : Nat} {T : TypeId} {n : Nat} {f : Nat → Value} (hr : w.rowIs X T n f) (hne : X ≠ B) (hT : T ≠ 5) : w'.rowIs X T n f := by
  refine hr.of_block (h.block X hr.lt hne (Or.inr fun cs fz e => ?_))
  obtain ⟨c, hb, _⟩ := hr
  rw [e] at hb
  simp at hb
  exact hT hb.2.1.symm

theorem Wr.but {base B : Nat} {w w' : World} {v : Value} {l : List UInt8} (h : Wr base B w v l) (hb : But B w w') : ByRow base w' v l :=
  World.ownsRow.kept h.row hb (Or.inr (ByRow.apart h.row h.cells (by decide)))
theorem Wr.alloc {base B : Nat} {w : World} {v : Value} {l : List UInt8} (h : Wr base B w v l) (o : Obj) : Wr base B (w.alloc o) v l :=
  ⟨h.cells.alloc o, World.ownsRow.alloc h.row o, h.lt⟩
theorem Wr.size {base B : Nat} {w : World} {v : Value} {l : List UInt8} (h : Wr base B w v l) : base ≤ w.heap.size := by
  have := h.cells.lt; have := h.lt; omega

/-- What a call that puts bytes comes to. -/
def WrEnd (base B : Nat) (w w' : World) (e : Ending) (l : List UInt8) : Prop := e = .returned (.tuple #[]) ∧ Sp base B w w' ∧ ∃ a n cap, n = l.length ∧ Wr base B w' (.slice a n cap) l

theorem row3_set0 {w : World} {B : Nat} {T : TypeId} {x y z : Value} (h : w.rowIs B T 3 (row3 x y z)) (v : Value) : (w.setCell ⟨B, 0, none⟩ v).rowIs B T 3 (row3 v y z) :=
  (h.set 0 v).congr fun i hi => by
    rcases (show i = 0 ∨ i = 1 ∨ i = 2 by omega) with rfl | rfl | rfl <;> rfl
theorem row3_pk2 {w : World} {B : Nat} {T : TypeId} {x y z : Value} (h : w.rowIs B T 3 (row3 x y z)) (v : Value) : (w.setCell ⟨B, 2, none⟩ v).rowIs B T 3 (row3 x y v) :=
  (h.set 2 v).congr fun i hi => by
    rcases (show i = 0 ∨ i = 1 ∨ i = 2 by omega) with rfl | rfl | rfl <;> rfl

set_option maxRecDepth 100000 in
set_option maxHeartbeats 800000 in
theorem add_any (w : World) (B : Nat) (c k : Nat) (v : Value) (h : w.rowIs B 95 3 (row3 (.int .i64 c) (.int .i64 9000) v)) (hc : c + k ≤ 9000) :
    Calls Tryd.prog 64 #[.pointer (some ⟨B, 0, none⟩), .int .i64 k] w fun e w' => e = .returned (.tuple #[]) ∧ w'.rowIs B 95 3 (row3 (.int .i64 ((c + k : Nat) : Int)) (.int .i64 9000) v) ∧ But B w w' := by
  have k0 := h.cell (i := 0) (by omega); have k1 := h.cell (i := 1) (by omega); have f0 := h.frozen 0
  simp only [row3] at k0 k1
  have hle : (c : Int) + k ≤ 9000 := by omega
  have H := hide h
  clear h
  go_enter Tryd.func64, Tryd.ntmps64
  go_wp2_with fail
  go_quiet ((go_at_call 69; exact Calls.quiet_of_same (treeWant_yes _)))
  go_wp2_with fail
  go_end0
  refine ⟨rfl, ?_, ?_⟩
  · have := row3_set0 (unhide H) (.int .i64 ((c : Int) + k))
    rw [Int.natCast_add]
    exact this.of_block (by simp)
  · exact (But.set w 0 _).trans (But.of_below (below_drewN (Below.refl _ _) _))

/-- A row behind the counter's turn. -/
theorem Wr.counted {base B : Nat} {w w1 : World} {v : Value} {l : List UInt8} (h : Wr base B w v l) (hb : But B w w1) :
    ByRow base w1 v l ∧ Sp base B w w1 ∧ base ≤ w1.heap.size := ⟨h.but hb, Sp.but hb, Nat.le_trans h.size hb.size⟩

/-- The new row is stored in the writer. -/
theorem Wr.stored {base B : Nat} {w2 w3 : World} {v v' : Value} {l l' : List UInt8} (hlt : base ≤ B) (hr : w2.rowIs B 95 3 (row3 (.int .i64 (l'.length : Int)) (.int .i64 9000) v)) (h2 : ByRow base w2 v l) (hg : w2.grownBy w3 v.ownBlock) (h3 : ByRow base w3 v' l') :
    w3.rowIs B 95 3 (row3 (.int .i64 (l'.length : Int)) (.int .i64 9000) v) ∧ Wr base B (w3.setCell ⟨B, 2, none⟩ v') v' l' ∧ Sp base B w2 (w3.setCell ⟨B, 2, none⟩ v') := by
  have hr3 : w3.rowIs B 95 3 (row3 (.int .i64 (l'.length : Int)) (.int .i64 9000) v) := hr.of_block (hg.block B hr.lt (fun e => ByRow.apart h2 hr (by decide) e.symm))
  exact ⟨hr3, ⟨row3_pk2 hr3 v', ownsRow_setCell_other h3 (ByRow.apart h3 hr3 (by decide)) v', hlt⟩, (Sp.grown h2 hg).trans (Sp.but (But.set w3 2 v'))⟩

set_option maxRecDepth 100000 in
set_option maxHeartbeats 1600000 in
theorem put_any (base B : Nat) (w : World) (a : Option Addr) (n cap : Nat) (l : List UInt8) (b : Int) (h : Wr base B w (.slice a n cap) l) (hb0 : 0 ≤ b) (hb1 : b < 256) (hl : l.length + 1 ≤ 9000) :
    Calls Tryd.prog 61 #[.pointer (some ⟨B, 0, none⟩), .int .i64 b] w fun e w' => WrEnd base B w w' e (l ++ [UInt8.ofNat b.toNat]) := by
  have HADD := hide (add_any w B l.length 1 _ h.cells hl)
  have HK := hide (bcI b hb0 hb1)
  have H := hide h
  clear h
  go_enter Tryd.func61, Tryd.ntmps61
  go_wp2_with fail
  refine (unhide HADD).mono ?_
  rintro e w1 ⟨rfl, hr1, hb1'⟩
  obtain ⟨hrow1, hsp1, hsz1⟩ := (unhide H).counted hb1'
  have k2 := hr1.cell (i := 2) (by omega)
  simp only [row3] at k2
  have HR1 := hide hr1; have HROW1 := hide hrow1; have HSP1 := hide hsp1
  clear hr1 hrow1 hsp1 hb1' HADD
  go_wp2_with (at_builtin; refine append_bytes _ rfl _ _ rfl base (.slice a n cap) l [UInt8.ofNat b.toNat] rfl (World.ownsRow.alloc (unhide HROW1) _) ⟨w1.heap.size, 0, none⟩ 1 1 rfl rfl (by rw [unhide HK]; exact cell_one _ _ _) (by simp; omega) (by simp; omega) ?_
               intro a' n' cap' w3 HN3 HR3 HG3
               have hst := Wr.stored (l' := l ++ [UInt8.ofNat b.toNat]) (unhide H).lt (by rw [List.length_append]; exact (unhide HR1).alloc (.cells #[.int .u8 b] 5)) (World.ownsRow.alloc (unhide HROW1) (.cells #[.int .u8 b] 5)) HG3.out HR3.out
               obtain ⟨hr3, hw3, hsp3⟩ := hst
               have m2 := hr3.cell (i := 2) (by omega)
               have f2 := hr3.frozen 2
               simp only [row3] at m2
               have HW3 := hide hw3
               have HSP3 := hide (((unhide HSP1).trans (Sp.alloc base B w1 (.cells #[.int .u8 b] 5))).trans hsp3)
               clear hr3 hw3 hsp3 HR3 HG3)
  go_end0
  exact ⟨rfl, unhide HSP3, a', n', cap', HN3.out, unhide HW3⟩

set_option maxRecDepth 100000 in
set_option maxHeartbeats 1600000 in
theorem text_any (base B : Nat) (w : World) (a : Option Addr) (n cap : Nat) (l : List UInt8) (tx : ByteArray) (h : Wr base B w (.slice a n cap) l) (htx : tx.size < 256) (hl : l.length + (shortB tx).length ≤ 9000) :
    Calls Tryd.prog 60 #[.pointer (some ⟨B, 0, none⟩), .string tx] w fun e w' => WrEnd base B w w' e (l ++ shortB tx) := by
  rw [shortB_len] at hl
  have HPUT := hide (put_any base B w a n cap l tx.size h (by omega) (by omega) (by omega))
  have HE : Hid ((l ++ [UInt8.ofNat tx.size]) ++ tx.data.toList = l ++ shortB tx) := by show _ = _; simp [shortB]
  clear h
  go_enter Tryd.func60, Tryd.ntmps60
  go_wp2_with fail
  refine (unhide HPUT).mono ?_
  rintro e w1 ⟨rfl, hsp1, a1, n1, cap1, hn1, hw1⟩
  rw [Int.toNat_natCast] at hw1 hn1
  have HADD := hide (add_any w1 B (l ++ [UInt8.ofNat tx.size]).length tx.size _ hw1.cells (by simp; omega))
  have HW1 := hide hw1; have HSP1 := hide hsp1
  clear hw1 hsp1 hn1 HPUT
  go_wp2_with fail
  refine (unhide HADD).mono ?_
  rintro e w2 ⟨rfl, hr2, hb2⟩
  obtain ⟨hrow2, hsp2, hsz2⟩ := (unhide HW1).counted hb2
  have k2 := hr2.cell (i := 2) (by omega)
  simp only [row3] at k2
  have HR2 := hide hr2; have HROW2 := hide hrow2; have HSP2 := hide ((unhide HSP1).trans hsp2)
  have HLT := hide (unhide HW1).lt
  clear hr2 hrow2 hsp2 hb2 HADD HW1 HSP1
  go_wp2_with (at_builtin; refine append_string _ rfl _ _ rfl base (.slice a1 n1 cap1) (l ++ [UInt8.ofNat tx.size]) tx rfl (unhide HROW2) rfl (by simp; omega) hsz2 ?_
               intro a' n' cap' w3 HN3 HR3 HG3
               rw [HE.out] at HN3 HR3
               have hst := Wr.stored (l' := l ++ shortB tx) (unhide HLT) (by rw [← HE.out, List.length_append (bs := tx.data.toList)]; exact unhide HR2) (unhide HROW2) HG3.out HR3.out
               obtain ⟨hr3, hw3, hsp3⟩ := hst
               have m2 := hr3.cell (i := 2) (by omega)
               have f2 := hr3.frozen 2
               simp only [row3] at m2
               have HW3 := hide hw3
               have HSP3 := hide ((unhide HSP2).trans hsp3)
               clear hr3 hw3 hsp3 HR3 HG3)
  go_end0
  exact ⟨rfl, unhide HSP3, a', n', cap', HN3.out, unhide HW3⟩

set_option maxRecDepth 100000 in
set_option maxHeartbeats 1600000 in
theorem size_any (base B : Nat) (w : World) (a : Option Addr) (n cap : Nat) (l : List UInt8) (m : Nat) (h : Wr base B w (.slice a n cap) l) (hm : m ≤ 999999999) (hl : l.length + (sevB m).length ≤ 9000) :
    Calls Tryd.prog 70 #[.pointer (some ⟨B, 0, none⟩), .int .i64 m] w fun e w' => WrEnd base B w w' e (l ++ sevB m) := by
  obtain ⟨L, hL⟩ : ∃ L, L = l ++ sevB m := ⟨_, rfl⟩
  have H0 : Hid (Wr base B w (.slice a n cap) l ∧ Sp base B w w ∧ l ++ sevB m = L) := ⟨h, Sp.refl _ _ _, hL.symm⟩
  have hlen : L.length ≤ 9000 := by rw [hL, List.length_append]; exact hl
  rw [← hL]
  have HL := hide hlen
  clear h hl hlen hL
  go_enter Tryd.func70, Tryd.ntmps70
  go_wp2_with fail
  go_loopw [1] (fun i wr => ∃ (k : Nat) (ar : Option Addr) (nr cr : Nat) (lr : List UInt8), i = .int .i64 k ∧ k ≤ 999999999 ∧ Hid (Wr base B wr (.slice ar nr cr) lr ∧ Sp base B w wr ∧ lr ++ sevB k = L)) (fun i _ => (intOf i).toNat)
  case atStart => exact ⟨m, a, n, cap, l, rfl, hm, H0⟩
  case round =>
    obtain ⟨k, ar, nr, cr, lr, rfl, hk, HA⟩ := hrel
    have hlr : lr.length + (sevB k).length ≤ 9000 := by have := unhide HL; rw [← HA.out.2.2, List.length_append] at this; exact this
    by_cases h128 : 127 < k
    · have hge : (128 : Int) ≤ k := by omega
      have he := sevB_more h128
      have hn1 : (((k : Int) % 128 + 128).toNat) = 128 + k % 128 := by omega
      have HP := hide (put_any base B wr ar nr cr lr ((k : Int) % 128 + 128) HA.out.1 (by omega) (by omega) (by rw [he] at hlr; simp at hlr; omega))
      rw [hn1] at HP
      have HE := hide he
      clear he hn1 hlr
      go_wp2_with fail
      refine (unhide HP).mono ?_
      rintro e w1 ⟨rfl, hsp1, a1, n1, cap1, -, hw1⟩
      have HN : Hid (Wr base B w1 (.slice a1 n1 cap1) (lr ++ [UInt8.ofNat (128 + k % 128)]) ∧ Sp base B w w1 ∧ (lr ++ [UInt8.ofNat (128 + k % 128)]) ++ sevB (k / 128) = L) := ⟨hw1, HA.out.2.1.trans hsp1, by have := HA.out.2.2; rw [unhide HE] at this; simpa using this⟩
      clear hsp1 hw1 HP HE
      go_wp2_with fail
      go_roundw
      case rel => exact ⟨k / 128, a1, n1, cap1, _, by go_num, by omega, HN⟩
      case measure => simp [intOf]; omega
    · have hge : ¬ ((128 : Int) ≤ k) := by omega
      have he := sevB_last h128
      have HP := hide (put_any base B wr ar nr cr lr (k : Int) HA.out.1 (by omega) (by omega) (by rw [he] at hlr; simp at hlr; omega))
      rw [Int.toNat_natCast, ← he, HA.out.2.2] at HP
      clear he hlr
      go_wp2_with fail
      refine (unhide HP).mono ?_
      rintro e w1 ⟨rfl, hsp1, hend⟩
      have HEND := hide hend; have HSP := hide (HA.out.2.1.trans hsp1)
      clear hend hsp1 HP
      go_wp2_with fail
      go_end0
      exact ⟨rfl, unhide HSP, unhide HEND⟩

set_option maxRecDepth 100000 in
set_option maxHeartbeats 1600000 in
theorem numPk_any (base B : Nat) (w : World) (a : Option Addr) (n cap : Nat) (l : List UInt8) (x : Int) (h : Wr base B w (.slice a n cap) l) (h0 : -999999999 ≤ x) (h1 : x ≤ 999999999) (hl : l.length + (numB x).length ≤ 9000) :
    Calls Tryd.prog 65 #[.pointer (some ⟨B, 0, none⟩), .int .i64 x] w fun e w' => WrEnd base B w w' e (l ++ numB x) := by
  have hln : (numB x).length = (sevB x.natAbs).length + 1 := by simp [numB]
  have HSZ := hide (fun w1 a1 n1 cap1 l1 (h1 : Wr base B w1 (.slice a1 n1 cap1) l1) (hl1 : l1.length = l.length + 1) => size_any base B w1 a1 n1 cap1 l1 x.natAbs h1 (by omega) (by omega))
  have HPU := hide (fun (b : Int) (hb0 : 0 ≤ b) (hb1 : b < 256) => put_any base B w a n cap l b h hb0 hb1 (by omega))
  by_cases hneg : x < 0
  · have hab : -x = (x.natAbs : Int) := by omega
    have HE : Hid ((l ++ [UInt8.ofNat (1 : Int).toNat]) ++ sevB x.natAbs = l ++ numB x) := by show _ = _; simp [numB, hneg]
    clear h hl hln
    go_enter Tryd.func65, Tryd.ntmps65
    go_wp2_with fail
    refine (unhide HPU 1 (by decide) (by decide)).mono ?_
    rintro e w1 ⟨rfl, hsp1, a1, n1, cap1, -, hw1⟩
    have HS := hide (unhide HSZ w1 a1 n1 cap1 _ hw1 (by simp))
    have HSP1 := hide hsp1
    rw [HE.out] at HS
    clear hw1 hsp1 HSZ HPU
    go_wp2_with fail
    refine (unhide HS).mono ?_
    rintro e w2 ⟨rfl, hsp2, hend⟩
    have HEND := hide hend; have HSP := hide ((unhide HSP1).trans hsp2)
    clear hend hsp2 HS
    go_wp2_with fail
    refine bodyPost_ret (results_none rfl _ _ _) rfl ?_
    exact ⟨rfl, unhide HSP, unhide HEND⟩
  · have hab : x = (x.natAbs : Int) := by omega
    have HE : Hid ((l ++ [UInt8.ofNat (0 : Int).toNat]) ++ sevB x.natAbs = l ++ numB x) := by show _ = _; simp [numB, hneg]
    clear h hl hln
    generalize x.natAbs = m at *
    subst hab
    go_enter Tryd.func65, Tryd.ntmps65
    go_wp2_with fail
    refine (unhide HPU 0 (by decide) (by decide)).mono ?_
    rintro e w1 ⟨rfl, hsp1, a1, n1, cap1, -, hw1⟩
    have HS := hide (unhide HSZ w1 a1 n1 cap1 _ hw1 (by simp))
    have HSP1 := hide hsp1
    rw [HE.out] at HS
    clear hw1 hsp1 HSZ HPU
    go_wp2_with fail
    refine (unhide HS).mono ?_
    rintro e w2 ⟨rfl, hsp2, hend⟩
    have HEND := hide hend; have HSP := hide ((unhide HSP1).trans hsp2)
    clear hend hsp2 HS
    go_wp2_with fail
    go_end0
    exact ⟨rfl, unhide HSP, unhide HEND⟩
end Go.Proofs.YtbigchdhpdgicaaDoor

/- A law for a callee that raises a fault in a region that draws its order. No program, no conditions. -/

namespace Go.Proofs.YtbigchdhpdgicaaDoor
open Go Go.RowKit

/-- Where a call raises a fault, what follows it is never met. -/
theorem dead_end {G : Prop} {S K : Act → World → Prop} (_ : ∀ a w, S a w → K a w) (a : Act) (w : World) (h : G) (_ : Hid False → K a w) : G := h

end Go.Proofs.YtbigchdhpdgicaaDoor

/- Names with the places at which they stand, in a map of the call's own. No conditions. -/

namespace Go.Proofs.YtbigchdhpdgicaaDoor
open Go Go.RowKit Go.WideMaps Go.Maps

/-- What a name reads as, where it is a key. -/
def nkey (s : ByteArray) : Lit := .string s.data.toList
/-- The map behind k names. -/
def nmap (ns : List ByteArray) : Nat → DataW Unit
  | 0 => .map []
  | k + 1 => (nmap ns k).put (nkey (ns.getD k ByteArray.empty)) (.lit (.int .i64 k))
theorem nmap_map (ns : List ByteArray) : ∀ k, IsMap (nmap ns k)
  | 0 => ⟨[], rfl⟩
  | k + 1 => (nmap_map ns k).put _ _
theorem nkey_inj {a b : ByteArray} (h : nkey a = nkey b) : a = b := by
  simp only [nkey, Lit.string.injEq] at h
  exact ByteArray.ext (Array.toList_inj.1 h)
theorem nkey_ok (s : ByteArray) : WideAt.IsKeyLit (nkey s) := trivial
theorem has_nmap (ns : List ByteArray) (x : ByteArray) : ∀ k, k ≤ ns.length → (Maps.has (nmap ns k) (nkey x) = true ↔ x ∈ ns.take k)
  | 0, _ => by simp [nmap, Maps.has]
  | k + 1, h => by
    have hg : ns.getD k ByteArray.empty = ns[k] := by simp [List.getD, show k < ns.length by omega]
    rw [nmap, hg, List.take_succ_eq_append_getElem (by omega), List.mem_append]
    by_cases e : x = ns[k]
    · rw [e, has_put_same (nmap_map ns k) (nkey_ok _)]
      simp
    · rw [has_put_other (fun h => e (nkey_inj h)), has_nmap ns x k (by omega)]
      simp [e]
theorem at_nmap (ns : List ByteArray) (hnd : ns.Nodup) (i : Nat) (hi : i < ns.length) : ∀ k, k ≤ ns.length → i < k → (nmap ns k).atKey (nkey ns[i]) (.lit (.int .i64 0)) = .lit (.int .i64 i)
  | 0, _, h => by omega
  | k + 1, h, hk => by
    have hg : ns.getD k ByteArray.empty = ns[k] := by simp [List.getD, show k < ns.length by omega]
    rw [nmap, hg]
    by_cases e : i = k
    · subst e
      exact atKey_put_same (nmap_map ns i) (nkey_ok _) _ _
    · rw [atKey_put_other (fun hh => e ((List.getElem_inj hnd).1 (nkey_inj hh)))]
      exact at_nmap ns hnd i hi k (by omega) (by omega)

theorem keyLaw : Keyed Tryd.prog 9 := string_keyed Tryd.underlying9
theorem zeroInt (w : World) : (zeroValue 3).run Tryd.prog w = .ok (.int .i64 0) w := by kernel_rfl
/-- The names and the map of their places. -/
def NMap (w : World) (B : Nat) (ns : List ByteArray) : Prop := w.ownsMap Tryd.prog 9 (plainElem (H := Unit) Tryd.prog 3) B ns.length (nmap ns ns.length)

def rowO (c0 c1 : Value) : Nat → Value
  | 0 => c0
  | _ => c1
theorem rowO_alloc (w : World) (c0 c1 : Value) (t : TypeId) : (w.alloc (.cells #[c0, c1] t)).rowIs w.heap.size t 2 (rowO c0 c1) :=
  World.rowIs_alloc w #[c0, c1] t _ (fun i hi => by
    have hi' : i < 2 := hi
    match i, hi' with
    | 0, _ => rfl
    | 1, _ => rfl)


/-- A map is where its block is as it was. -/
theorem ownsMap_block {w w' : World} {B n : Nat} {D : DataW Unit} (h : w.ownsMap Tryd.prog 9 (plainElem (H := Unit) Tryd.prog 3) B n D) (hb : w'.heap[B]? = w.heap[B]?) : w'.ownsMap Tryd.prog 9 (plainElem (H := Unit) Tryd.prog 3) B n D := by
  obtain ⟨es, clock, h1, F, hs, rfl⟩ := h
  exact ⟨es, clock, by rw [hb]; exact h1, F, hs, rfl⟩
end Go.Proofs.YtbigchdhpdgicaaDoor
