/- The program's byteWriter in memory, and the walks of its add, put, text, size, num. Conditions: what is put fits in 9000 bytes. -/
import Derived.Test.YtiflfcjocngiiaaGreatDoorPart03
import Derived.OneCell
import Derived.Deep.QuietTactic
import Derived.BigQuiet
import Derived.Test.YtiflfcjocngiiaaGreatDoorPart00
import Derived.Test.YtiflfcjocngiiaaGreatDoorPart02
import Derived.Deep.RegionLaw
namespace Go.Proofs.YtiflfcjocngiiaaGreatDoor
open Go Go.RowKit

theorem ByRow.apart {base : Nat} {w : World} {v : Value} {l : List UInt8} {b : Nat} {T : TypeId} {n : Nat} {f : Nat → Value} (h : ByRow base w v l) (hr : w.rowIs b T n f) (hT : T ≠ 5) : v.ownBlock ≠ some b := by
  rcases h.2 with ⟨hv, _⟩ | ⟨g, cap, cur, hv, _, hg, _⟩
  · subst hv; simp [Value.ownBlock]
  · subst hv
    obtain ⟨c, hb, _⟩ := hr
    intro e
    simp [Value.ownBlock] at e
    subst e
    rw [hg] at hb
    simp at hb
    exact hT hb.2.symm

/-- The writer: its counter, and the bytes that were put. -/
structure Wr (base B : Nat) (w : World) (v : Value) (l : List UInt8) : Prop where
  cells : w.rowIs B 107 3 (row3 (.int .i64 l.length) (.int .i64 9000) v)
  row : ByRow base w v l
  lt : base ≤ B

/-- Nothing has turned but the writer and rows of bytes from a base on. -/
structure Sp (base B : Nat) (w w' : World) : Prop where
  os : w'.os = w.os
  tape : w'.tape = w.tape
  output : w'.output = w.output
  size : w.heap.size ≤ w'.heap.size
  block : ∀ b, b < w.heap.size → b ≠ B → (b < base ∨ ∀ cs f, w.heap[b]? ≠ some (.cells cs 5 f)) → w'.heap[b]? = w.heap[b]?

theorem Sp.refl (base B : Nat) (w : World) : Sp base B w w := ⟨rfl, rfl, rfl, Nat.le_refl _, fun _ _ _ _ => rfl⟩
theorem Sp.trans {base B : Nat} {a b c : World} (h : Sp base B a b) (k : Sp base B b c) : Sp base B a c :=
  ⟨k.os.trans h.os, k.tape.trans h.tape, k.output.trans h.output, Nat.le_trans h.size k.size, fun i hi hne hc => by
    have e := h.block i hi hne hc
    exact (k.block i (Nat.lt_of_lt_of_le hi h.size) hne (by rw [e]; exact hc)).trans e⟩
theorem Sp.but {base B : Nat} {w w' : World} (h : But B w w') : Sp base B w w' := ⟨h.os, h.tape, h.output, h.size, fun _ hi hne _ => h.at hi hne⟩
theorem Sp.alloc (base B : Nat) (w : World) (o : Obj) : Sp base B w (w.alloc o) := Sp.but (But.alloc B w o)
theorem Sp.grown {base B : Nat} {w w' : World} {v : Value} {l : List UInt8} (h : ByRow base w v l) (hg : w.grownBy w' v.ownBlock) : Sp base B w w' :=
  ⟨hg.os, hg.tape, hg.output, hg.size, fun b hb _ hc => hg.block b hb (fun e => by
    rcases h.2 with ⟨hv, _⟩ | ⟨g, cap, cur, hv, hbg, hh, _⟩
    · subst hv; simp [Value.ownBlock] at e
    · subst hv
      simp [Value.ownBlock] at e
      subst e
      rcases hc with hc | hc
      · omega
      · exact hc _ _ hh)⟩
theorem Sp.below {base B : Nat} {w w' : World} (h : Sp base B w w') (hb : base ≤ B) (hw : base ≤ w.heap.size) : Below base w w' :=
  ⟨h.os, h.tape, h.output, h.size, fun b hbb => h.block b (by omega) (by omega) (Or.inl hbb)⟩
theorem Sp.box {base B : Nat} {w w' : World} (h : Sp base B w w') {X : Nat} {T : TypeId} {n : Nat} {f : Nat → Value} (hr : w.rowIs X T n f) (hne : X ≠ B) (hT : T ≠ 5) : w'.rowIs X T n f := by
  refine hr.of_block (h.block X hr.lt hne (Or.inr fun cs fz e => ?_))
  obtain ⟨c, hb, _⟩ := hr
  rw [e] at hb
  simp at hb
  exact hT hb.2.1.symm

theorem Wr.but {base B : Nat} {w w' : World} {v : Value} {l : List UInt8} (h : Wr base B w v l) (hb : But B w w') : ByRow base w' v l :=
  World.ownsRow.kept h.row hb (Or.inr (ByRow.apart h.row h.cells (by decide)))
theorem Wr.alloc {base B : Nat} {w : World} {v : Value} {l : List UInt8} (h : Wr base B w v l) (o : Obj) : Wr base B (w.alloc o) v l :=
  ⟨h.cells.alloc o, World.ownsRow.alloc h.row o, h.lt⟩
theorem Wr.size {base B : Nat} {w : World} {v : Value} {l : List UInt8} (h : Wr base B w v l) : base ≤ w.heap.size := by
  have := h.cells.lt; have := h.lt; omega

/-- What a call that puts bytes comes to. -/
def WrEnd (base B : Nat) (w w' : World) (e : Ending) (l : List UInt8) : Prop := e = .returned (.tuple #[]) ∧ Sp base B w w' ∧ ∃ a n cap, n = l.length ∧ Wr base B w' (.slice a n cap) l

theorem row3_set0 {w : World} {B : Nat} {T : TypeId} {x y z : Value} (h : w.rowIs B T 3 (row3 x y z)) (v : Value) : (w.setCell ⟨B, 0, none⟩ v).rowIs B T 3 (row3 v y z) :=
  (h.set 0 v).congr fun i hi => by
    rcases (show i = 0 ∨ i = 1 ∨ i = 2 by omega) with rfl | rfl | rfl <;> rfl
theorem row3_pk2 {w : World} {B : Nat} {T : TypeId} {x y z : Value} (h : w.rowIs B T 3 (row3 x y z)) (v : Value) : (w.setCell ⟨B, 2, none⟩ v).rowIs B T 3 (row3 x y v) :=
  (h.set 2 v).congr fun i hi => by
    rcases (show i = 0 ∨ i = 1 ∨ i = 2 by omega) with rfl | rfl | rfl <;> rfl

set_option maxRecDepth 100000 in
set_option maxHeartbeats 800000 in
theorem add_any (w : World) (B : Nat) (c k : Nat) (v : Value) (h : w.rowIs B 107 3 (row3 (.int .i64 c) (.int .i64 9000) v)) (hc : c + k ≤ 9000) :
    Calls Tryz.prog 48 #[.pointer (some ⟨B, 0, none⟩), .int .i64 k] w fun e w' => e = .returned (.tuple #[]) ∧ w'.rowIs B 107 3 (row3 (.int .i64 ((c + k : Nat) : Int)) (.int .i64 9000) v) ∧ But B w w' := by
  have k0 := h.cell (i := 0) (by omega); have k1 := h.cell (i := 1) (by omega); have f0 := h.frozen 0
  simp only [row3] at k0 k1
  have hle : (c : Int) + k ≤ 9000 := by omega
  have H := hide h
  clear h
  go_enter Tryz.func48, Tryz.ntmps48
  go_wp2_with fail
  go_quiet ((go_at_call 32; exact Calls.quiet_of_same (treeWant_yes _)))
  go_wp2_with fail
  go_end0
  refine ⟨rfl, ?_, ?_⟩
  · have := row3_set0 (unhide H) (.int .i64 ((c : Int) + k))
    rw [Int.natCast_add]
    exact this.of_block (by simp)
  · exact (But.set w 0 _).trans (But.of_below (below_drewN (Below.refl _ _) _))

/-- A row behind the counter's turn. -/
theorem Wr.counted {base B : Nat} {w w1 : World} {v : Value} {l : List UInt8} (h : Wr base B w v l) (hb : But B w w1) :
    ByRow base w1 v l ∧ Sp base B w w1 ∧ base ≤ w1.heap.size := ⟨h.but hb, Sp.but hb, Nat.le_trans h.size hb.size⟩

/-- The new row is stored in the writer. -/
theorem Wr.stored {base B : Nat} {w2 w3 : World} {v v' : Value} {l l' : List UInt8} (hlt : base ≤ B) (hr : w2.rowIs B 107 3 (row3 (.int .i64 (l'.length : Int)) (.int .i64 9000) v)) (h2 : ByRow base w2 v l) (hg : w2.grownBy w3 v.ownBlock) (h3 : ByRow base w3 v' l') :
    w3.rowIs B 107 3 (row3 (.int .i64 (l'.length : Int)) (.int .i64 9000) v) ∧ Wr base B (w3.setCell ⟨B, 2, none⟩ v') v' l' ∧ Sp base B w2 (w3.setCell ⟨B, 2, none⟩ v') := by
  have hr3 : w3.rowIs B 107 3 (row3 (.int .i64 (l'.length : Int)) (.int .i64 9000) v) := hr.of_block (hg.block B hr.lt (fun e => ByRow.apart h2 hr (by decide) e.symm))
  exact ⟨hr3, ⟨row3_pk2 hr3 v', ownsRow_setCell_other h3 (ByRow.apart h3 hr3 (by decide)) v', hlt⟩, (Sp.grown h2 hg).trans (Sp.but (But.set w3 2 v'))⟩

set_option maxRecDepth 100000 in
set_option maxHeartbeats 1600000 in
theorem put_any (base B : Nat) (w : World) (a : Option Addr) (n cap : Nat) (l : List UInt8) (b : Int) (h : Wr base B w (.slice a n cap) l) (hb0 : 0 ≤ b) (hb1 : b < 256) (hl : l.length + 1 ≤ 9000) :
    Calls Tryz.prog 84 #[.pointer (some ⟨B, 0, none⟩), .int .i64 b] w fun e w' => WrEnd base B w w' e (l ++ [UInt8.ofNat b.toNat]) := by
  have HADD := hide (add_any w B l.length 1 _ h.cells hl)
  have HK := hide (bcI b hb0 hb1)
  have H := hide h
  clear h
  go_enter Tryz.func84, Tryz.ntmps84
  go_wp2_with fail
  refine (unhide HADD).mono ?_
  rintro e w1 ⟨rfl, hr1, hb1'⟩
  obtain ⟨hrow1, hsp1, hsz1⟩ := (unhide H).counted hb1'
  have k2 := hr1.cell (i := 2) (by omega)
  simp only [row3] at k2
  have HR1 := hide hr1; have HROW1 := hide hrow1; have HSP1 := hide hsp1
  clear hr1 hrow1 hsp1 hb1' HADD
  go_wp2_with (at_builtin; refine append_bytes _ rfl _ _ rfl base (.slice a n cap) l [UInt8.ofNat b.toNat] rfl (World.ownsRow.alloc (unhide HROW1) _) ⟨w1.heap.size, 0, none⟩ 1 1 rfl rfl (by rw [unhide HK]; exact cell_one _ _ _) (by simp; omega) (by simp; omega) ?_
               intro a' n' cap' w3 HN3 HR3 HG3
               have hst := Wr.stored (l' := l ++ [UInt8.ofNat b.toNat]) (unhide H).lt (by rw [List.length_append]; exact (unhide HR1).alloc (.cells #[.int .u8 b] 5)) (World.ownsRow.alloc (unhide HROW1) (.cells #[.int .u8 b] 5)) HG3.out HR3.out
               obtain ⟨hr3, hw3, hsp3⟩ := hst
               have m2 := hr3.cell (i := 2) (by omega)
               have f2 := hr3.frozen 2
               simp only [row3] at m2
               have HW3 := hide hw3
               have HSP3 := hide (((unhide HSP1).trans (Sp.alloc base B w1 (.cells #[.int .u8 b] 5))).trans hsp3)
               clear hr3 hw3 hsp3 HR3 HG3)
  go_end0
  exact ⟨rfl, unhide HSP3, a', n', cap', HN3.out, unhide HW3⟩

set_option maxRecDepth 100000 in
set_option maxHeartbeats 1600000 in
theorem text_any (base B : Nat) (w : World) (a : Option Addr) (n cap : Nat) (l : List UInt8) (tx : ByteArray) (h : Wr base B w (.slice a n cap) l) (htx : tx.size < 256) (hl : l.length + (shortB tx).length ≤ 9000) :
    Calls Tryz.prog 83 #[.pointer (some ⟨B, 0, none⟩), .string tx] w fun e w' => WrEnd base B w w' e (l ++ shortB tx) := by
  rw [shortB_len] at hl
  have HPUT := hide (put_any base B w a n cap l tx.size h (by omega) (by omega) (by omega))
  have HE : Hid ((l ++ [UInt8.ofNat tx.size]) ++ tx.data.toList = l ++ shortB tx) := by show _ = _; simp [shortB]
  clear h
  go_enter Tryz.func83, Tryz.ntmps83
  go_wp2_with fail
  refine (unhide HPUT).mono ?_
  rintro e w1 ⟨rfl, hsp1, a1, n1, cap1, hn1, hw1⟩
  rw [Int.toNat_natCast] at hw1 hn1
  have HADD := hide (add_any w1 B (l ++ [UInt8.ofNat tx.size]).length tx.size _ hw1.cells (by simp; omega))
  have HW1 := hide hw1; have HSP1 := hide hsp1
  clear hw1 hsp1 hn1 HPUT
  go_wp2_with fail
  refine (unhide HADD).mono ?_
  rintro e w2 ⟨rfl, hr2, hb2⟩
  obtain ⟨hrow2, hsp2, hsz2⟩ := (unhide HW1).counted hb2
  have k2 := hr2.cell (i := 2) (by omega)
  simp only [row3] at k2
  have HR2 := hide hr2; have HROW2 := hide hrow2; have HSP2 := hide ((unhide HSP1).trans hsp2)
  have HLT := hide (unhide HW1).lt
  clear hr2 hrow2 hsp2 hb2 HADD HW1 HSP1
  go_wp2_with (at_builtin; refine append_string _ rfl _ _ rfl base (.slice a1 n1 cap1) (l ++ [UInt8.ofNat tx.size]) tx rfl (unhide HROW2) rfl (by simp; omega) hsz2 ?_
               intro a' n' cap' w3 HN3 HR3 HG3
               rw [HE.out] at HN3 HR3
               have hst := Wr.stored (l' := l ++ shortB tx) (unhide HLT) (by rw [← HE.out, List.length_append (bs := tx.data.toList)]; exact unhide HR2) (unhide HROW2) HG3.out HR3.out
               obtain ⟨hr3, hw3, hsp3⟩ := hst
               have m2 := hr3.cell (i := 2) (by omega)
               have f2 := hr3.frozen 2
               simp only [row3] at m2
               have HW3 := hide hw3
               have HSP3 := hide ((unhide HSP2).trans hsp3)
               clear hr3 hw3 hsp3 HR3 HG3)
  go_end0
  exact ⟨rfl, unhide HSP3, a', n', cap', HN3.out, unhide HW3⟩

set_option maxRecDepth 100000 in
set_option maxHeartbeats 1600000 in
theorem size_any (base B : Nat) (w : World) (a : Option Addr) (n cap : Nat) (l : List UInt8) (m : Nat) (h : Wr base B w (.slice a n cap) l) (hm : m ≤ 999999999) (hl : l.length + (sevB m).length ≤ 9000) :
    Calls Tryz.prog 99 #[.pointer (some ⟨B, 0, none⟩), .int .i64 m] w fun e w' => WrEnd base B w w' e (l ++ sevB m) := by
  obtain ⟨L, hL⟩ : ∃ L, L = l ++ sevB m := ⟨_, rfl⟩
  have H0 : Hid (Wr base B w (.slice a n cap) l ∧ Sp base B w w ∧ l ++ sevB m = L) := ⟨h, Sp.refl _ _ _, hL.symm⟩
  have hlen : L.length ≤ 9000 := by rw [hL, List.length_append]; exact hl
  rw [← hL]
  have HL := hide hlen
  clear h hl hlen hL
  go_enter Tryz.func99, Tryz.ntmps99
  go_wp2_with fail
  go_loopw [1] (fun i wr => ∃ (k : Nat) (ar : Option Addr) (nr cr : Nat) (lr : List UInt8), i = .int .i64 k ∧ k ≤ 999999999 ∧ Hid (Wr base B wr (.slice ar nr cr) lr ∧ Sp base B w wr ∧ lr ++ sevB k = L)) (fun i _ => (intOf i).toNat)
  case atStart => exact ⟨m, a, n, cap, l, rfl, hm, H0⟩
  case round =>
    obtain ⟨k, ar, nr, cr, lr, rfl, hk, HA⟩ := hrel
    have hlr : lr.length + (sevB k).length ≤ 9000 := by have := unhide HL; rw [← HA.out.2.2, List.length_append] at this; exact this
    by_cases h128 : 127 < k
    · have hge : (128 : Int) ≤ k := by omega
      have he := sevB_more h128
      have hn1 : (((k : Int) % 128 + 128).toNat) = 128 + k % 128 := by omega
      have HP := hide (put_any base B wr ar nr cr lr ((k : Int) % 128 + 128) HA.out.1 (by omega) (by omega) (by rw [he] at hlr; simp at hlr; omega))
      rw [hn1] at HP
      have HE := hide he
      clear he hn1 hlr
      go_wp2_with fail
      refine (unhide HP).mono ?_
      rintro e w1 ⟨rfl, hsp1, a1, n1, cap1, -, hw1⟩
      have HN : Hid (Wr base B w1 (.slice a1 n1 cap1) (lr ++ [UInt8.ofNat (128 + k % 128)]) ∧ Sp base B w w1 ∧ (lr ++ [UInt8.ofNat (128 + k % 128)]) ++ sevB (k / 128) = L) := ⟨hw1, HA.out.2.1.trans hsp1, by have := HA.out.2.2; rw [unhide HE] at this; simpa using this⟩
      clear hsp1 hw1 HP HE
      go_wp2_with fail
      go_roundw
      case rel => exact ⟨k / 128, a1, n1, cap1, _, by go_num, by omega, HN⟩
      case measure => simp [intOf]; omega
    · have hge : ¬ ((128 : Int) ≤ k) := by omega
      have he := sevB_last h128
      have HP := hide (put_any base B wr ar nr cr lr (k : Int) HA.out.1 (by omega) (by omega) (by rw [he] at hlr; simp at hlr; omega))
      rw [Int.toNat_natCast, ← he, HA.out.2.2] at HP
      clear he hlr
      go_wp2_with fail
      refine (unhide HP).mono ?_
      rintro e w1 ⟨rfl, hsp1, hend⟩
      have HEND := hide hend; have HSP := hide (HA.out.2.1.trans hsp1)
      clear hend hsp1 HP
      go_wp2_with fail
      go_end0
      exact ⟨rfl, unhide HSP, unhide HEND⟩

set_option maxRecDepth 100000 in
set_option maxHeartbeats 1600000 in
theorem numPk_any (base B : Nat) (w : World) (a : Option Addr) (n cap : Nat) (l : List UInt8) (x : Int) (h : Wr base B w (.slice a n cap) l) (h0 : -999999999 ≤ x) (h1 : x ≤ 999999999) (hl : l.length + (numB x).length ≤ 9000) :
    Calls Tryz.prog 90 #[.pointer (some ⟨B, 0, none⟩), .int .i64 x] w fun e w' => WrEnd base B w w' e (l ++ numB x) := by
  have hln : (numB x).length = (sevB x.natAbs).length + 1 := by simp [numB]
  have HSZ := hide (fun w1 a1 n1 cap1 l1 (h1 : Wr base B w1 (.slice a1 n1 cap1) l1) (hl1 : l1.length = l.length + 1) => size_any base B w1 a1 n1 cap1 l1 x.natAbs h1 (by omega) (by omega))
  have HPU := hide (fun (b : Int) (hb0 : 0 ≤ b) (hb1 : b < 256) => put_any base B w a n cap l b h hb0 hb1 (by omega))
  by_cases hneg : x < 0
  · have hab : -x = (x.natAbs : Int) := by omega
    have HE : Hid ((l ++ [UInt8.ofNat (1 : Int).toNat]) ++ sevB x.natAbs = l ++ numB x) := by show _ = _; simp [numB, hneg]
    clear h hl hln
    go_enter Tryz.func90, Tryz.ntmps90
    go_wp2_with fail
    refine (unhide HPU 1 (by decide) (by decide)).mono ?_
    rintro e w1 ⟨rfl, hsp1, a1, n1, cap1, -, hw1⟩
    have HS := hide (unhide HSZ w1 a1 n1 cap1 _ hw1 (by simp))
    have HSP1 := hide hsp1
    rw [HE.out] at HS
    clear hw1 hsp1 HSZ HPU
    go_wp2_with fail
    refine (unhide HS).mono ?_
    rintro e w2 ⟨rfl, hsp2, hend⟩
    have HEND := hide hend; have HSP := hide ((unhide HSP1).trans hsp2)
    clear hend hsp2 HS
    go_wp2_with fail
    refine bodyPost_ret (results_none rfl _ _ _) rfl ?_
    exact ⟨rfl, unhide HSP, unhide HEND⟩
  · have hab : x = (x.natAbs : Int) := by omega
    have HE : Hid ((l ++ [UInt8.ofNat (0 : Int).toNat]) ++ sevB x.natAbs = l ++ numB x) := by show _ = _; simp [numB, hneg]
    clear h hl hln
    generalize x.natAbs = m at *
    subst hab
    go_enter Tryz.func90, Tryz.ntmps90
    go_wp2_with fail
    refine (unhide HPU 0 (by decide) (by decide)).mono ?_
    rintro e w1 ⟨rfl, hsp1, a1, n1, cap1, -, hw1⟩
    have HS := hide (unhide HSZ w1 a1 n1 cap1 _ hw1 (by simp))
    have HSP1 := hide hsp1
    rw [HE.out] at HS
    clear hw1 hsp1 HSZ HPU
    go_wp2_with fail
    refine (unhide HS).mono ?_
    rintro e w2 ⟨rfl, hsp2, hend⟩
    have HEND := hide hend; have HSP := hide ((unhide HSP1).trans hsp2)
    clear hend hsp2 HS
    go_wp2_with fail
    go_end0
    exact ⟨rfl, unhide HSP, unhide HEND⟩
end Go.Proofs.YtiflfcjocngiiaaGreatDoor

/- A row of bytes that lies in the world. Definitions alone. -/

namespace Go.Proofs.YtiflfcjocngiiaaGreatDoor
open Go Go.RowKit

/-- A slice value whose bytes lie in the world. -/
def BytesAt (w : World) (v : Value) (l : List UInt8) : Prop :=
  ∃ a cap, v = .slice a l.length cap ∧ l.length ≤ 9223372036854775807 ∧ ∀ i, (h : i < l.length) → ∃ b o, a = some ⟨b, o, none⟩ ∧ b < w.heap.size ∧ w.cell? ⟨b, o + i, none⟩ = some (.int .u8 l[i].toNat)

end Go.Proofs.YtiflfcjocngiiaaGreatDoor

/- Rows of bytes of a call's own: as slices of bytes that lie in memory; one byte set. No program walked, no conditions. -/

namespace Go.Proofs.YtiflfcjocngiiaaGreatDoor
open Go Go.RowKit

theorem ByRow.at {base : Nat} {w : World} {v : Value} {l : List UInt8} (h : ByRow base w v l) : BytesAt w v l := by
  have h0 := h
  rcases h.2 with ⟨hv, hn⟩ | ⟨g, cap, cur, hv, hb, hg, hnc, hcm, -, -⟩
  · exact ⟨none, 0, by rw [hv, hn], by omega, fun i hi => by omega⟩
  · refine ⟨_, cap, hv, by unfold maxLen at hcm; omega, fun i hi => ?_⟩
    obtain ⟨g', cap', hv', -, hlt, hc⟩ := h0.form (by omega)
    rw [hv] at hv'
    simp only [Value.slice.injEq, Option.some.injEq, Addr.mk.injEq, and_true] at hv'
    obtain ⟨rfl, -⟩ := hv'
    refine ⟨g, 0, rfl, hlt, ?_⟩
    have := hc i (.int .u8 l[i].toNat) (by simp [bc, hi])
    rw [Addr.add_lit] at this
    exact this


end Go.Proofs.YtiflfcjocngiiaaGreatDoor

/- Bytes that are read, wherever they lie: in a block or in a part of one, marked or not. Definitions and small laws, no program walked. No conditions. -/

namespace Go.Proofs.YtiflfcjocngiiaaGreatDoor
open Go Go.RowKit

/-- A slice of bytes that can be read. -/
def ByIn (w : World) (v : Value) (l : List UInt8) : Prop :=
  l.length ≤ 9223372036854775807 ∧ ((v = .slice none 0 0 ∧ l.length = 0) ∨ ∃ g o cap, v = .slice (some ⟨g, o, none⟩) l.length cap ∧ l.length ≤ cap ∧ g < w.heap.size ∧ ∀ i, (h : i < l.length) → w.cell? ⟨g, o + i, none⟩ = some (.int .u8 l[i].toNat))
section
variable {w w' : World} {v : Value} {l : List UInt8}
theorem ByIn.slice (h : ByIn w v l) : ∃ a cap, v = .slice a l.length cap := by
  rcases h.2 with ⟨hv, h0⟩ | ⟨g, o, cap, hv, _⟩
  · exact ⟨none, 0, by rw [hv, h0]⟩
  · exact ⟨_, _, hv⟩
theorem ByIn.cap {a : Option Addr} {n cap : Nat} (h : ByIn w (.slice a n cap) l) : l.length ≤ cap := by
  rcases h.2 with ⟨hv, h0⟩ | ⟨g, o, cap', hv, hle, _⟩
  · omega
  · simp only [Value.slice.injEq] at hv
    obtain ⟨-, -, rfl⟩ := hv
    exact hle
theorem ByIn.form (h : ByIn w v l) (hl : 0 < l.length) : ∃ g o cap, v = .slice (some ⟨g, o, none⟩) l.length cap ∧ g < w.heap.size ∧ ∀ i, (h : i < l.length) → w.cell? ⟨g, o + i, none⟩ = some (.int .u8 l[i].toNat) := by
  rcases h.2 with ⟨hv, h0⟩ | ⟨g, o, cap, hv, -, hg, hc⟩
  · omega
  · exact ⟨g, o, cap, hv, hg, hc⟩
theorem ByIn.at (h : ByIn w v l) : BytesAt w v l := by
  rcases h.2 with ⟨hv, h0⟩ | ⟨g, o, cap, hv, -, hg, hc⟩
  · exact ⟨none, 0, by rw [hv, h0], h.1, fun i hi => by omega⟩
  · exact ⟨_, cap, hv, h.1, fun i hi => ⟨g, o, rfl, hg, hc i hi⟩⟩
theorem ByIn.own (h : ByIn w v l) : ∀ g, v.ownBlock = some g → 0 ≤ g ∧ g < w.heap.size := fun g e => by
  rcases h.2 with ⟨hv, h0⟩ | ⟨g', o, cap, hv, -, hg, hc⟩
  · rw [hv] at e; cases e
  · rw [hv] at e
    simp only [Value.ownBlock, Option.some.injEq] at e
    subst e
    exact ⟨Nat.zero_le _, hg⟩
theorem ByIn.of_block (h : ByIn w v l) (hb : ∀ g, v.ownBlock = some g → w'.heap[g]? = w.heap[g]?) : ByIn w' v l := by
  refine ⟨h.1, ?_⟩
  rcases h.2 with h0 | ⟨g, o, cap, hv, hle, hg, hc⟩
  · exact Or.inl h0
  · have e := hb g (by rw [hv]; rfl)
    refine Or.inr ⟨g, o, cap, hv, hle, ?_, fun i hi => by rw [World.cell?_of_block (w := w) e]; exact hc i hi⟩
    rcases Nat.lt_or_ge g w'.heap.size with h1 | h1
    · exact h1
    · rw [Array.getElem?_eq_none h1, Array.getElem?_eq_getElem hg] at e; cases e
theorem ByIn.kept {row : Option Nat} (h : ByIn w v l) (hg : w.grownBy w' row) (hne : v.ownBlock = none ∨ v.ownBlock ≠ row) : ByIn w' v l :=
  h.of_block (fun g e => hg.block g (h.own g e).2 (fun e2 => by
    rcases hne with h1 | h1
    · rw [e] at h1; cases h1
    · exact h1 (e.trans e2)))
theorem ByIn.stay (h : ByIn w v l) (hb : Below w.heap.size w w') : ByIn w' v l := h.of_block (fun g e => hb.block g (h.own g e).2)
theorem ByIn.alloc (h : ByIn w v l) (o : Obj) : ByIn (w.alloc o) v l := h.of_block (fun g e => Below.heap_alloc _ _ _ (h.own g e).2)
/-- A part of bytes that are read. -/
theorem cut_in {av : Option Addr} {capv : Nat} {b : List UInt8} (h : ByIn w (.slice av b.length capv) b) (a n : Nat) (hn : a + n ≤ b.length) (hsm : b.length ≤ 1048576) :
    ByIn w (.slice (if capv = a then av else Option.map (fun x => x.add a) av) n (capv - a)) ((b.drop a).take n) := by
  have hl : ((b.drop a).take n).length = n := by simp; omega
  have hcap := h.cap
  refine ⟨by omega, ?_⟩
  rcases h.2 with ⟨hv, h0⟩ | ⟨g, o, cap', hv, hle, hg, hc⟩
  · simp only [Value.slice.injEq] at hv
    obtain ⟨rfl, -, rfl⟩ := hv
    have ha : a = 0 := by omega
    subst ha
    rw [if_pos rfl]
    have hn0 : n = 0 := by omega
    subst hn0
    exact Or.inl ⟨rfl, by rw [hl]⟩
  · simp only [Value.slice.injEq, true_and] at hv
    obtain ⟨rfl, rfl⟩ := hv
    by_cases hca : capv = a
    · rw [if_pos hca]
      exact Or.inr ⟨g, o, capv - a, by rw [hl], by omega, hg, fun i hi => by omega⟩
    · rw [if_neg hca]
      refine Or.inr ⟨g, o + a, capv - a, by rw [hl]; simp [Addr.add_lit], by omega, hg, fun i hi => ?_⟩
      rw [hl] at hi
      have := hc (a + i) (by omega)
      rw [← Nat.add_assoc] at this
      rw [this]
      simp
end
theorem cut_bytes {w : World} {av : Option Addr} {capv : Nat} {b : List UInt8} (h : ByIn w (.slice av b.length capv) b) (a n : Nat) (hn : a + n ≤ b.length) (_ : b.length ≤ capv) (hsm : b.length ≤ 1048576) :
    BytesAt w (.slice (if capv = a then av else Option.map (fun x => x.add a) av) (a + n - a) (capv - a)) ((b.drop a).take n) := by
  rw [Nat.add_sub_cancel_left]
  exact (cut_in h a n hn hsm).at
end Go.Proofs.YtiflfcjocngiiaaGreatDoor

/- A law for a callee that raises a fault in a region that draws its order. No program, no conditions. -/

namespace Go.Proofs.YtiflfcjocngiiaaGreatDoor
open Go Go.RowKit

/-- Where a call raises a fault, what follows it is never met. -/
theorem dead_end {G : Prop} {S K : Act → World → Prop} (_ : ∀ a w, S a w → K a w) (a : Act) (w : World) (h : G) (_ : Hid False → K a w) : G := h

end Go.Proofs.YtiflfcjocngiiaaGreatDoor
