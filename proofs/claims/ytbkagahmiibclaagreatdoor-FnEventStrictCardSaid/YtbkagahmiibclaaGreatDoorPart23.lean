/- A part. -/
import Derived.Test.YtbkagahmiibclaaGreatDoorPart22
namespace Go.Proofs.YtbkagahmiibclaaGreatDoor
open Go Go.RowKit
set_option maxRecDepth 100000
set_option maxHeartbeats 6400000
theorem eat_any (w : World) (R : Nat) (s wd : ByteArray) (at' : Nat) (bad : Bool) (hs : s.size ≤ 1048576) (h : Rdr w R s at' bad) (ha : at' ≤ 2097152) (hw0 : 0 < wd.size) (hw : wd.size ≤ 16) :
 Calls Tryz.prog 51 #[.pointer (some ⟨R, 0, none⟩), .string wd] w fun e w' => e = .returned (.tuple #[]) ∧ ∃ a2 bad2, Rdr w' R s a2 bad2 ∧ But R w w' ∧ (at' ≤ s.size → a2 ≤ s.size) ∧ at' ≤ a2 ∧
  (pre wd s at' = true → a2 = at' + wd.size ∧ bad2 = bad) ∧ (pre wd s at' = false → bad2 = true) := by
 cases hp : pre wd s at' with
 | true =>
   refine (eat_yes w R s wd at' bad hs h ha hw0 hw hp).mono ?_
   rintro e w' ⟨rfl, h1, h2⟩
   exact ⟨rfl, _, _, h1, h2, fun _ => ((pre_iff hw0).1 hp).1, by omega, fun _ => ⟨rfl, rfl⟩, fun h => by cases h⟩
 | false =>
   refine (eat_no w R s wd at' bad hs h ha hw0 hw hp).mono ?_
   rintro e w' ⟨rfl, h1, h2⟩
   exact ⟨rfl, _, _, h1, h2, fun h => h, by omega, (fun h => by cases h), fun _ => rfl⟩
def RdSaid (d : Nat) : Prop := ∀ (w : World) (R : Nat) (s : ByteArray) (at' : Nat) (bad : Bool), s.size ≤ 1048576 → Rdr w R s at' bad → at' ≤ s.size →
    Calls Tryz.prog 53 #[.pointer (some ⟨R, 0, none⟩), .int .i64 (7 - d)] w fun e w' => ∃ (t : Tr) (c : C5) (a2 : Nat) (bad2 : Bool), e = .returned (.agg #[c.c0, c.c1, c.c2, c.c3, c.c4]) ∧ Rep (New w w') w' t c ∧ Rdr w' R s a2 bad2 ∧ But R w w' ∧ a2 ≤ s.size + d ∧
     (bad2 = false → a2 ≤ s.size ∧ bad = false ∧ spT d (lf s at') () = some (t, lf s a2, ())) ∧ (bad2 = true → bad = true ∨ spT d (lf s at') () = none)
theorem row5_s3 {w : World} {b : Nat} {t : TypeId} {c0 c1 c2 c3 c4 : Value} (h : w.rowIs b t 5 (row5 c0 c1 c2 c3 c4)) (v : Value) : (w.setCell ⟨b, 3, none⟩ v).rowIs b t 5 (row5 c0 c1 c2 v c4) :=
 (h.set 3 v).congr fun i hi => by
   match i, hi with
   | 0, _ => rfl
   | 1, _ => rfl
   | 2, _ => rfl
   | 3, _ => rfl
   | 4, _ => rfl
theorem row5_s4 {w : World} {b : Nat} {t : TypeId} {c0 c1 c2 c3 c4 : Value} (h : w.rowIs b t 5 (row5 c0 c1 c2 c3 c4)) (v : Value) : (w.setCell ⟨b, 4, none⟩ v).rowIs b t 5 (row5 c0 c1 c2 c3 v) :=
 (h.set 4 v).congr fun i hi => by
   match i, hi with
   | 0, _ => rfl
   | 1, _ => rfl
   | 2, _ => rfl
   | 3, _ => rfl
   | 4, _ => rfl
theorem size_set (w : World) (a : Addr) (v : Value) : (w.setCell a v).heap.size = w.heap.size := by simp [World.setCell]
structure MC (w wr : World) (R : Nat) (s : ByteArray) (sort : Int) (at' : Nat) (bad : Bool) (vN vK : Value) (ns : List ByteArray) (ks : List Tr) (xs : List Value) : Prop where
 rdr : Rdr wr R s at' bad
 row : wr.rowIs (w.heap.size + 1) 26 5 (row5 (.int .i64 sort) (.int .i64 0) (.string ByteArray.empty) vN vK)
 out : wr.rowIs w.heap.size 26 5 (row5 (.int .i64 0) (.int .i64 0) (.string ByteArray.empty) (.slice none 0 0) (.slice none 0 0))
 got : GotT (w.heap.size + 2) wr vN vK ns ks xs
 but : But R w wr
 low : R < w.heap.size
theorem But.setNew {B : Nat} {w w' : World} (h : But B w w') {b o : Nat} (hb : w.heap.size ≤ b) (v : Value) : But B w (w'.setCell ⟨b, o, none⟩ v) :=
 ⟨h.os, h.tape, h.output, by simp only [World.setCell, Array.size_modify]; exact h.size, fun i hi hne => by rw [Below.heap_setCell _ _ _ _ (by show i ≠ b; omega)]; exact h.block i hi hne⟩
theorem MC.move {w wr w' : World} {R : Nat} {s : ByteArray} {sort : Int} {a a2 : Nat} {bad bad2 : Bool} {vN vK : Value} {ns : List ByteArray} {ks : List Tr} {xs : List Value}
 (h : MC w wr R s sort a bad vN vK ns ks xs) (hb : But R wr w') (hr : Rdr w' R s a2 bad2) : MC w w' R s sort a2 bad2 vN vK ns ks xs := by
 have hl := h.low
 exact ⟨hr, h.row.of_block (hb.at h.row.lt (by omega)), h.out.of_block (hb.at h.out.lt (by omega)), h.got.kept (by omega) hb, h.but.trans hb, hl⟩
theorem MC.name {w wr w4 : World} {R : Nat} {s : ByteArray} {sort : Int} {a : Nat} {bad : Bool} {vN vN' vK : Value} {ns : List ByteArray} {ks : List Tr} {xs : List Value} {nm : ByteArray} {o : Obj}
 (h : MC w wr R s sort a bad vN vK ns ks xs) (hnm : nm.size ≤ 9223372036854775807)
 (hown : w4.ownsRow (w.heap.size + 2) 9 1 vN' (ns.length + 1) (ns.map Value.string ++ [.string nm])) (hg : (wr.alloc o).grownBy w4 vN.ownBlock) (hv : vN'.ownBlock = vN.ownBlock ∨ ∃ g, vN'.ownBlock = some g ∧ (wr.alloc o).heap.size ≤ g) :
 MC w (w4.setCell ⟨w.heap.size + 1, 3, none⟩ vN') R s sort a bad vN' vK (ns ++ [nm]) ks xs := by
 have hl := h.low
 have hs := h.but.size
 have hrl := h.row.lt
 have hal : (wr.alloc o).heap.size = wr.heap.size + 1 := by simp
 have hblk : ∀ b, b < wr.heap.size → some b ≠ vN.ownBlock → w4.heap[b]? = wr.heap[b]? := fun b h1 h2 => by
  rw [hg.block b (by omega) h2]; exact Below.heap_alloc _ _ _ h1
 have hno : ∀ b, b < w.heap.size + 2 → some b ≠ vN.ownBlock := fun b hb e => by have := (h.got.names.lt b e.symm).1; omega
 have hT : w4.heap[w.heap.size + 1]? = wr.heap[w.heap.size + 1]? := hblk _ hrl (hno _ (by omega))
 refine ⟨World.rowIs.setOther (World.rowIs.of_block h.rdr (hblk R (by omega) (hno _ (by omega)))) (by show R ≠ w.heap.size + 1; omega) _, row5_s3 (h.row.of_block hT) _, World.rowIs.setOther (h.out.of_block (hblk _ (by omega) (hno _ (by omega)))) (by show w.heap.size ≠ w.heap.size + 1; omega) _, ((h.got.alloc o).name hnm hown hg hv).kept (R := w.heap.size + 1) (by omega) (But.set _ _ _), ?_, hl⟩
 refine But.setNew ⟨hg.os.trans h.but.os, hg.tape.trans h.but.tape, hg.output.trans h.but.output, by have := hg.size; omega, fun i hi hne => ?_⟩ (by omega) _
 rw [hblk i (by omega) (hno i (by omega))]; exact h.but.block i hi hne
theorem MC.kid {w wr w4 : World} {R : Nat} {s : ByteArray} {sort : Int} {a : Nat} {bad : Bool} {vN vK vK' : Value} {ns : List ByteArray} {ks : List Tr} {xs : List Value} {t : Tr} {c : C5} {o : Obj}
 (h : MC w wr R s sort a bad vN vK ns ks xs) (lo : Nat) (hlo : w.heap.size + 2 ≤ lo) (hlo2 : ∀ b, (vN.ownBlock = some b ∨ vK.ownBlock = some b) → b < lo) (hc : Rep (fun b => lo ≤ b ∧ b < wr.heap.size) wr t c)
 (hown : w4.ownsRow (w.heap.size + 2) 26 5 vK' (ks.length + 1) (xs ++ c.list)) (hg : (wr.alloc o).grownBy w4 vK.ownBlock) (hv : vK'.ownBlock = vK.ownBlock ∨ ∃ g, vK'.ownBlock = some g ∧ (wr.alloc o).heap.size ≤ g) :
 MC w (w4.setCell ⟨w.heap.size + 1, 4, none⟩ vK') R s sort a bad vN vK' ns (ks ++ [t]) (xs ++ c.list) := by
 have hl := h.low
 have hs := h.but.size
 have hrl := h.row.lt
 have hal : (wr.alloc o).heap.size = wr.heap.size + 1 := by simp
 have hblk : ∀ b, b < wr.heap.size → some b ≠ vK.ownBlock → w4.heap[b]? = wr.heap[b]? := fun b h1 h2 => by
  rw [hg.block b (by omega) h2]; exact Below.heap_alloc _ _ _ h1
 have hno : ∀ b, b < w.heap.size + 2 → some b ≠ vK.ownBlock := fun b hb e => by have := (h.got.kids.lt b e.symm).1; omega
 have hT : w4.heap[w.heap.size + 1]? = wr.heap[w.heap.size + 1]? := hblk _ hrl (hno _ (by omega))
 have hc' : Rep (fun b => w.heap.size + 2 ≤ b ∧ b < (wr.alloc o).heap.size ∧ some b ≠ vN.ownBlock ∧ some b ≠ vK.ownBlock) (wr.alloc o) t c :=
  Rep.carry (fun b hb => Below.heap_alloc _ _ _ hb.2) (fun b hb => ⟨by omega, by omega, fun e => by have := hlo2 b (Or.inl e.symm); omega, fun e => by have := hlo2 b (Or.inr e.symm); omega⟩) _ _ hc
 refine ⟨World.rowIs.setOther (World.rowIs.of_block h.rdr (hblk R (by omega) (hno _ (by omega)))) (by show R ≠ w.heap.size + 1; omega) _, row5_s4 (h.row.of_block hT) _, World.rowIs.setOther (h.out.of_block (hblk _ (by omega) (hno _ (by omega)))) (by show w.heap.size ≠ w.heap.size + 1; omega) _, ((h.got.alloc o).kid hc' hown hg hv).kept (R := w.heap.size + 1) (by omega) (But.set _ _ _), ?_, hl⟩
 refine But.setNew ⟨hg.os.trans h.but.os, hg.tape.trans h.but.tape, hg.output.trans h.but.output, by have := hg.size; omega, fun i hi hne => ?_⟩ (by omega) _
 rw [hblk i (by omega) (hno i (by omega))]; exact h.but.block i hi hne
def mz (w : World) (R : Nat) (s : ByteArray) : Nat := match w.cell? ⟨R, 2, none⟩ with
 | some (.bool true) => 0
 | _ => s.size + 1 - atOf w R
theorem mz_no {w : World} {R : Nat} {s : ByteArray} {a : Nat} (h : Rdr w R s a false) : mz w R s = s.size + 1 - a := by
 unfold mz; rw [h.cells.2.2.1]; simp only; rw [h.atOf]
theorem mz_yes {w : World} {R : Nat} {s : ByteArray} {a : Nat} (h : Rdr w R s a true) : mz w R s = 0 := by
 unfold mz; rw [h.cells.2.2.1]
theorem MC.finish {w wr : World} {R : Nat} {s : ByteArray} {sort : Int} {at' : Nat} {bad : Bool} {vN vK : Value} {ns : List ByteArray} {ks : List Tr} {xs : List Value}
 (h : MC w wr R s sort at' bad vN vK ns ks xs) (hso : I64 sort) (W : World)
 (hW : W = (((((wr.setCell ⟨R, 1, none⟩ (.int .i64 ((at' : Int) + 1))).setCell ⟨w.heap.size, 0, none⟩ (.int .i64 sort)).setCell ⟨w.heap.size, 1, none⟩ (.int .i64 0)).setCell ⟨w.heap.size, 2, none⟩ (.string ByteArray.empty)).setCell ⟨w.heap.size, 3, none⟩ vN).setCell ⟨w.heap.size, 4, none⟩ vK) :
 Rep (New w W) W (.mk sort 0 ByteArray.empty ns ks) ⟨.int .i64 sort, .int .i64 0, .string ByteArray.empty, vN, vK⟩ ∧ Rdr W R s (at' + 1) bad ∧ But R w W := by
 have hsz := h.row.lt
 have hR := h.low
 have hB : ∀ b, b ≠ R → b ≠ w.heap.size → W.heap[b]? = wr.heap[b]? := fun b h1 h2 => by
  rw [hW, Below.heap_setCell _ _ _ _ h2, Below.heap_setCell _ _ _ _ h2, Below.heap_setCell _ _ _ _ h2, Below.heap_setCell _ _ _ _ h2, Below.heap_setCell _ _ _ _ h2, Below.heap_setCell _ _ _ _ h1]
 have hs : W.heap.size = wr.heap.size := by rw [hW]; simp only [size_set]
 have hRe : W.heap[R]? = (wr.setCell ⟨R, 1, none⟩ (.int .i64 ((at' : Int) + 1))).heap[R]? := by
  have h2 : R ≠ w.heap.size := by omega
  rw [hW, Below.heap_setCell _ _ _ _ h2, Below.heap_setCell _ _ _ _ h2, Below.heap_setCell _ _ _ _ h2, Below.heap_setCell _ _ _ _ h2, Below.heap_setCell _ _ _ _ h2]
 refine ⟨Rep.carry (fun b hb => hB b (by omega) (by omega)) (fun b hb => ⟨by omega, by rw [hs]; exact hb.2⟩) _ _ (h.got.done sort hso), World.rowIs.of_block (h.rdr.set1 (at' + 1)) hRe, ?_⟩
 rw [hW]
 exact (((((h.but.trans (But.set _ _ _)).setNew (Nat.le_refl _) _).setNew (Nat.le_refl _) _).setNew (Nat.le_refl _) _).setNew (Nat.le_refl _) _).setNew (Nat.le_refl _) _
theorem MC.start {w : World} {R : Nat} {s : ByteArray} {sort : Int} {at' : Nat} (h : Rdr w R s at' false) :
 MC w (((w.setCell ⟨R, 1, none⟩ (.int .i64 ((at' : Int) + 1))).alloc (.cells #[.int .i64 0, .int .i64 0, .string ByteArray.empty, .slice none 0 0, .slice none 0 0] 26)).alloc (.cells #[.int .i64 sort, .int .i64 0, .string ByteArray.empty, .slice none 0 0, .slice none 0 0] 26))
  R s sort (at' + 1) false (.slice none 0 0) (.slice none 0 0) [] [] [] := by
 have h1 : Rdr (w.setCell ⟨R, 1, none⟩ (.int .i64 ((at' : Int) + 1))) R s (at' + 1) false := h.set1 (at' + 1)
 have hR := h.lt
 have hsz : (w.setCell ⟨R, 1, none⟩ (.int .i64 ((at' : Int) + 1))).heap.size = w.heap.size := size_set _ _ _
 have r0 := row5_alloc (w.setCell ⟨R, 1, none⟩ (.int .i64 ((at' : Int) + 1))) (.int .i64 0) (.int .i64 0) (.string ByteArray.empty) (.slice none 0 0) (.slice none 0 0) 26
 rw [hsz] at r0
 have r1 := row5_alloc ((w.setCell ⟨R, 1, none⟩ (.int .i64 ((at' : Int) + 1))).alloc (.cells #[.int .i64 0, .int .i64 0, .string ByteArray.empty, .slice none 0 0, .slice none 0 0] 26)) (.int .i64 sort) (.int .i64 0) (.string ByteArray.empty) (.slice none 0 0) (.slice none 0 0) 26
 rw [show ((w.setCell ⟨R, 1, none⟩ (.int .i64 ((at' : Int) + 1))).alloc (.cells #[.int .i64 0, .int .i64 0, .string ByteArray.empty, .slice none 0 0, .slice none 0 0] 26)).heap.size = w.heap.size + 1 from by simp [hsz]] at r1
 exact ⟨World.rowIs.alloc (World.rowIs.alloc h1 _) _, r1, r0.alloc _, GotT.start _ _, (But.set _ _ _).trans ((But.alloc _ _ _).trans (But.alloc _ _ _)), hR⟩
theorem MC.drewN {w wr : World} {R : Nat} {s : ByteArray} {sort : Int} {a : Nat} {bad : Bool} {vN vK : Value} {ns : List ByteArray} {ks : List Tr} {xs : List Value} (h : MC w wr R s sort a bad vN vK ns ks xs) (m : Nat) : MC w (wr.drewN m) R s sort a bad vN vK ns ks xs :=
 h.move (but_drewN (But.refl _ _) m) (h.rdr.drewN m)
theorem MC.atN {w wr w4 : World} {R : Nat} {s : ByteArray} {sort : Int} {a : Nat} {bad : Bool} {vN vK : Value} {ns : List ByteArray} {ks : List Tr} {xs : List Value} {o : Obj} (h : MC w wr R s sort a bad vN vK ns ks xs) (hg : (wr.alloc o).grownBy w4 vN.ownBlock) : w4.rowIs (w.heap.size + 1) 26 5 (row5 (.int .i64 sort) (.int .i64 0) (.string ByteArray.empty) vN vK) := by
 refine h.row.of_block ?_
 rw [hg.block _ (by have := h.row.lt; simp; omega) (fun e => by have := (h.got.names.lt _ e.symm).1; omega)]
 exact Below.heap_alloc _ _ _ h.row.lt
theorem MC.atK {w wr w4 : World} {R : Nat} {s : ByteArray} {sort : Int} {a : Nat} {bad : Bool} {vN vK : Value} {ns : List ByteArray} {ks : List Tr} {xs : List Value} {o : Obj} (h : MC w wr R s sort a bad vN vK ns ks xs) (hg : (wr.alloc o).grownBy w4 vK.ownBlock) : w4.rowIs (w.heap.size + 1) 26 5 (row5 (.int .i64 sort) (.int .i64 0) (.string ByteArray.empty) vN vK) := by
 refine h.row.of_block ?_
 rw [hg.block _ (by have := h.row.lt; simp; omega) (fun e => by have := (h.got.kids.lt _ e.symm).1; omega)]
 exact Below.heap_alloc _ _ _ h.row.lt
def LR (L : Option (List ByteArray × List Tr × List UInt8 × Unit)) (d : Nat) (form : Bool) (e : UInt8) (s : ByteArray) (a : Nat) (bad : Bool) (ns : List ByteArray) (ks : List Tr) : Prop :=
 (bad = false ∧ a ≤ s.size ∧ ks.length ≤ a ∧ ∃ f, (lf s a).length < f ∧ lp (spT d) form e f ns ks (lf s a) () = L) ∨ (bad = true ∧ L = none ∧ a ≤ s.size + d)
theorem LR.at {L : Option (List ByteArray × List Tr × List UInt8 × Unit)} {d : Nat} {form : Bool} {e : UInt8} {s : ByteArray} {a : Nat} {bad : Bool} {ns : List ByteArray} {ks : List Tr} (h : LR L d form e s a bad ns ks) : a ≤ s.size + d := by
 rcases h with ⟨-, h, -⟩ | ⟨-, -, h⟩ <;> omega
def L1 (L : Option (List ByteArray × List Tr × List UInt8 × Unit)) (s : ByteArray) (a n a1 : Nat) (bad1 : Bool) : Prop := a ≤ a1 ∧ a1 ≤ s.size ∧ ((bad1 = false ∧ cma n (lf s a) = some (lf s a1)) ∨ (bad1 = true ∧ L = none))
def L3 (L : Option (List ByteArray × List Tr × List UInt8 × Unit)) (s : ByteArray) (form : Bool) (ns : List ByteArray) (a1 : Nat) (bad1 : Bool) (ns' : List ByteArray) (a3 : Nat) (bad3 : Bool) : Prop := a1 ≤ a3 ∧ a3 ≤ s.size ∧ ((bad3 = false ∧ bad1 = false ∧ nmr form ns (lf s a1) = some (ns', lf s a3)) ∨ (bad3 = true ∧ L = none))
def L4 (d : Nat) (s : ByteArray) (a3 : Nat) (bad3 : Bool) (t : Tr) (a4 : Nat) (bad4 : Bool) : Prop := a4 ≤ s.size + d ∧ (bad4 = false → a4 ≤ s.size ∧ bad3 = false ∧ spT d (lf s a3) () = some (t, lf s a4, ())) ∧ (bad4 = true → bad3 = true ∨ spT d (lf s a3) () = none)
section
variable {L : Option (List ByteArray × List Tr × List UInt8 × Unit)} {d : Nat} {form : Bool} {e : UInt8} {s : ByteArray} {a : Nat} {ns : List ByteArray} {ks : List Tr}
theorem l1_zero (ha : a ≤ s.size) (h0 : ks.length = 0) : L1 L s a ks.length a false := ⟨Nat.le_refl _, ha, Or.inl ⟨rfl, by unfold cma; rw [if_pos h0]⟩⟩
theorem room {s : ByteArray} {a : Nat} {c : UInt8} (h : (lf s a).head? = some c) : a + 1 ≤ s.size := by
 have := lf_len s a
 cases hl : lf s a with
 | nil => rw [hl] at h; simp at h
 | cons c r => rw [hl] at this; simp at this; omega
theorem l1_eat (ha : a ≤ s.size) (hne : (lf s a).head? ≠ some e) {f : Nat} (hf : (lf s a).length < f) (hX : lp (spT d) form e f ns ks (lf s a) () = L) (h0 : 0 < ks.length) :
 (pre (w1 44) s a = true ∧ L1 L s a ks.length (a + 1) false) ∨ (pre (w1 44) s a = false ∧ L1 L s a ks.length a true) := by
 rw [pre_one]
 obtain ⟨f, rfl⟩ : ∃ g, f = g + 1 := ⟨f - 1, by omega⟩
 rw [lp, if_neg hne] at hX
 by_cases h44 : (lf s a).head? = some 44
 · exact Or.inl ⟨decide_eq_true h44, by omega, room h44, Or.inl ⟨rfl, by unfold cma; rw [if_neg (by omega), if_pos h44, lf_next]⟩⟩
 · refine Or.inr ⟨decide_eq_false h44, Nat.le_refl _, ha, Or.inr ⟨rfl, ?_⟩⟩
   rw [← hX]
   have : cma ks.length (lf s a) = none := by unfold cma; rw [if_neg (by omega), if_neg h44]
   rw [this]
theorem l3_list {a1 : Nat} {bad1 : Bool} (h1 : L1 L s a ks.length a1 bad1) : L3 L s false ns a1 bad1 ns a1 bad1 := by
 refine ⟨Nat.le_refl _, h1.2.1, ?_⟩
 rcases h1.2.2 with ⟨h, -⟩ | ⟨h, h2⟩
 · exact Or.inl ⟨h, h, by simp [nmr]⟩
 · exact Or.inr ⟨h, h2⟩
theorem l3_eat {a1 : Nat} {bad1 : Bool} (hne : (lf s a).head? ≠ some e) {f : Nat} (hf : (lf s a).length < f) (hX : lp (spT d) true e f ns ks (lf s a) () = L) (h1 : L1 L s a ks.length a1 bad1) :
 (pre (w1 58) s (a1 + rn nameByte s a1) = true ∧ L3 L s true ns a1 bad1 (ns ++ [⟨((lf s a1).takeWhile nameByte).toArray⟩]) (a1 + rn nameByte s a1 + 1) bad1) ∨ (pre (w1 58) s (a1 + rn nameByte s a1) = false ∧ L3 L s true ns a1 bad1 (ns ++ [⟨((lf s a1).takeWhile nameByte).toArray⟩]) (a1 + rn nameByte s a1) true) := by
 rw [pre_one]
 obtain ⟨h0, ha1, h1⟩ := h1
 have hle := rn_le nameByte s a1 ha1
 obtain ⟨f, rfl⟩ : ∃ g, f = g + 1 := ⟨f - 1, by omega⟩
 rw [lp, if_neg hne] at hX
 by_cases h58 : (lf s (a1 + rn nameByte s a1)).head? = some 58
 · refine Or.inl ⟨decide_eq_true h58, by omega, room h58, ?_⟩
   rcases h1 with ⟨h1, h2⟩ | ⟨h1, h2⟩
   · refine Or.inl ⟨h1, h1, ?_⟩
     unfold nmr
     rw [if_pos rfl, ← rn_drop, if_pos h58, lf_next]
   · exact Or.inr ⟨h1, h2⟩
 · refine Or.inr ⟨decide_eq_false h58, by omega, hle, Or.inr ⟨rfl, ?_⟩⟩
   rcases h1 with ⟨h1, h2⟩ | ⟨h1, h2⟩
   · rw [← hX, h2]
     have : nmr true ns (lf s a1) = none := by unfold nmr; rw [if_pos rfl, ← rn_drop, if_neg h58]
     simp only [this]
   · exact h2
theorem l_next {a1 a3 a4 : Nat} {bad1 bad3 bad4 : Bool} {ns' : List ByteArray} {t : Tr} (hka : ks.length ≤ a) (hne : (lf s a).head? ≠ some e) {f : Nat} (hf : (lf s a).length < f) (hX : lp (spT d) form e f ns ks (lf s a) () = L)
 (h1 : L1 L s a ks.length a1 bad1) (h3 : L3 L s form ns a1 bad1 ns' a3 bad3) (h4 : L4 d s a3 bad3 t a4 bad4) : LR L d form e s a4 bad4 ns' (ks ++ [t]) ∧ (bad4 = false → a < a4 ∧ a4 ≤ s.size) := by
 obtain ⟨f, rfl⟩ : ∃ g, f = g + 1 := ⟨f - 1, by omega⟩
 rw [lp, if_neg hne] at hX
 obtain ⟨g1, g2, g3⟩ := h4
 have hq1 := h1.1
 have hq3 := h3.1
 cases hb4 : bad4 with
 | false =>
   obtain ⟨k1, k2, k3⟩ := g2 hb4
   rcases h3.2.2 with ⟨-, m1, m2⟩ | ⟨m1, -⟩
   · rcases h1.2.2 with ⟨-, m3⟩ | ⟨m3, -⟩
     · rw [m3] at hX
       simp only [m2] at hX
       rw [k3] at hX
       simp only at hX
       have hl := spT_len _ _ _ _ _ _ k3
       rw [lf_len, lf_len] at hl
       refine ⟨Or.inl ⟨rfl, k1, by simp; omega, f, by rw [lf_len]; rw [lf_len] at hf; omega, hX⟩, fun _ => ⟨by omega, k1⟩⟩
     · rw [m1] at m3; cases m3
   · rw [k2] at m1; cases m1
 | true =>
   refine ⟨Or.inr ⟨rfl, ?_, g1⟩, fun h => by cases h⟩
   rcases h3.2.2 with ⟨m0, m1, m2⟩ | ⟨-, m1⟩
   · rcases h1.2.2 with ⟨-, m3⟩ | ⟨m3, -⟩
     · rcases g3 hb4 with k | k
       · rw [m0] at k; cases k
       · rw [m3] at hX
         simp only [m2] at hX
         rw [k] at hX
         exact hX.symm
     · rw [m1] at m3; cases m3
   · exact m1
theorem l_end (hhd : (lf s a).head? = some e) {f : Nat} (hf : (lf s a).length < f) (hX : lp (spT d) form e f ns ks (lf s a) () = L) : L = some (ns, ks, lf s (a + 1), ()) ∧ a + 1 ≤ s.size := by
 obtain ⟨f, rfl⟩ : ∃ g, f = g + 1 := ⟨f - 1, by omega⟩
 rw [lp, if_pos hhd] at hX
 exact ⟨by rw [← hX, lf_next], room hhd⟩
end
theorem infoTreeM : (Tryz.prog.info? 26).map (fun i => (i.zero, i.size, i.bytes)) = some (some (.agg #[.int .i64 0, .int .i64 0, .string ByteArray.empty, .slice none 0 0, .slice none 0 0]), 5, 80) := by kernel_rfl
theorem infoStrM : (Tryz.prog.info? 9).map (fun i => (i.zero, i.size, i.bytes)) = some (some (.string ByteArray.empty), 1, 16) := by kernel_rfl
def MnEnd (d : Nat) (form : Bool) (c : UInt8) (sort : Int) (w : World) (R : Nat) (s : ByteArray) (at' : Nat) (e : Ending) (w' : World) : Prop :=
 ∃ (t : Tr) (k : C5) (a2 : Nat) (bad2 : Bool), e = .returned (.agg #[k.c0, k.c1, k.c2, k.c3, k.c4]) ∧ Rep (New w w') w' t k ∧ Rdr w' R s a2 bad2 ∧ But R w w' ∧ a2 ≤ s.size + d + 1 ∧
   (bad2 = false → a2 ≤ s.size ∧ ∃ ns ks, t = .mk sort 0 ByteArray.empty ns ks ∧ lp (spT d) form c ((lf s at').length + 1) [] [] (lf s (at' + 1)) () = some (ns, ks, lf s a2, ())) ∧ (bad2 = true → lp (spT d) form c ((lf s at').length + 1) [] [] (lf s (at' + 1)) () = none)
theorem cell5x (w : World) (c0 c1 c2 c3 c4 : Value) (t : TypeId) : ∀ j u, [c0, c1, c2, c3, c4][j]? = some u → (w.alloc (.cells #[c0, c1, c2, c3, c4] t)).cell? ((⟨w.heap.size, 0, none⟩ : Addr).add j) = some u := by
 intro j u h
 have hj : j < 5 := by
  by_cases hj : j < 5
  · exact hj
  · rw [List.getElem?_eq_none (by simp; omega)] at h; cases h
 rw [Addr.add_lit, Nat.zero_add, (row5_alloc w c0 c1 c2 c3 c4 t).cell hj]
 match j, hj with
 | 0, _ => exact h
 | 1, _ => exact h
 | 2, _ => exact h
 | 3, _ => exact h
 | 4, _ => exact h

theorem many_4 (d : Nat) (IH : RdSaid d) (hd : d ≤ 6) (w : World) (R : Nat) (s : ByteArray) (at' : Nat) (hs : s.size ≤ 1048576) (h : Rdr w R s at' false) (ha : at' < s.size) :
 Calls Tryz.prog 80 #[.pointer (some ⟨R, 0, none⟩), .int .i64 4, .int .u8 93, .int .i64 (6 - d)] w fun e w' => MnEnd d false 93 4 w R s at' e w' := by
 unfold MnEnd
 have HST := hH (MC.start (sort := 4) h)
 obtain ⟨c0, c1, c2, f1, f2⟩ := h.cells
 have HI := hH IH
 have hRw := h.lt
 have hd1 : (6 : Int) - (d : Int) + 1 = 7 - d := by omega
 have HWR := hH (show IntKind.i64.wrap (7 - (d : Int)) = 7 - d by rw [IntKind.wrap_i64]; omega)
 have hl1 : (lf s (at' + 1)).length < (lf s at').length + 1 := by rw [lf_len, lf_len]; omega
 generalize hL : lp (spT d) false 93 ((lf s at').length + 1) [] [] (lf s (at' + 1)) () = L at *
 have HL := hH hL
 obtain ⟨i0, hi, hz0, hz1, hz2⟩ := info_parts infoTreeM
 obtain ⟨j0, hj, hy0, hy1, hy2⟩ := info_parts infoStrM
 have HII := hH hi; have HZ0 := hH hz0; have HZ1 := hH hz1; have HZ2 := hH hz2
 have HJJ := hH hj; have HY0 := hH hy0; have HY1 := hH hy1; have HY2 := hH hy2
 clear h IH hL hi hz0 hz1 hz2 hj hy0 hy1 hy2
 go_enter Tryz.func80, Tryz.ntmps80
 go_wp2_with fail
 go_loopw [] (fun wr => ∃ (ns : List ByteArray) (ks : List Tr) (n : Nat) (aN : Option Addr) (capN : Nat) (aK : Option Addr) (capK : Nat) (xs : List Value) (a : Nat) (bad : Bool), Hid (ns = [] ∧ ks.length = n) ∧ Hid (LR L d false 93 s a bad ns ks) ∧ Hid (MC w wr R s 4 a bad (.slice none 0 0) (.slice aK n capK) ns ks xs)) (fun wr => mz wr R s)
 case atStart => exact ⟨[], [], 0, none, 0, none, 0, [], at' + 1, false, hH ⟨rfl, rfl⟩, hH (Or.inl ⟨rfl, by omega, by simp, _, hl1, uh HL⟩), HST⟩
 case round =>
  obtain ⟨ns, ks, n, aN, capN, aK, capK, xs, a, bad, HN, HF, HM⟩ := hrel
  obtain ⟨hn1, hn2⟩ := HN.out
  clear HST c0 c1 c2 f1 f2
  obtain ⟨y0, y1, y2, g1, g2⟩ := HM.out.rdr.cells
  have hfar := HF.out.at
  obtain ⟨t0, t1, t2, t3, t4⟩ := cs5 HM.out.row (by omega)
  have o0 := HM.out.out.cell (i := 0) (by omega); have o1 := HM.out.out.cell (i := 1) (by omega); have o2 := HM.out.out.cell (i := 2) (by omega); have o3 := HM.out.out.cell (i := 3) (by omega); have o4 := HM.out.out.cell (i := 4) (by omega)
  have p0 := HM.out.out.frozen 0; have p1 := HM.out.out.frozen 1; have p2 := HM.out.out.frozen 2; have p3 := HM.out.out.frozen 3; have p4 := HM.out.out.frozen 4
  simp only [row5] at t0 t1 t2 t3 t4 o0 o1 o2 o3 o4
  have hne : R ≠ w.heap.size := by omega
  have hne1 : R ≠ w.heap.size + 1 := by omega
  cases hbad : bad
  · subst hbad
    have hf : a ≤ s.size ∧ ks.length ≤ a ∧ ∃ f, (lf s a).length < f ∧ lp (spT d) false 93 f ns ks (lf s a) () = L := by
     rcases HF.out with ⟨-, h⟩ | ⟨h, -⟩
     · exact h
     · cases h
    obtain ⟨hale, hka, f, hfl, hXf⟩ := hf
    have hmz := mz_no HM.out.rdr
    have HMZ := hH hmz; clear hmz
    have HLK2 := hH (fun W (hW : W.heap = wr.heap) => look_any W R s a false (HM.out.rdr.heap hW))
    by_cases hce : bv s a = 93
    · have hhd : (lf s a).head? = some 93 := (bv_head s a 93 (by decide)).2 hce
      obtain ⟨hxe, hroom⟩ := l_end hhd hfl hXf
      have HXE := hH hxe
      rw [hce] at HLK2
      clear hxe hXf hfl
      go_wp2_with (go_at_call 78; refine (uh HLK2 _ (by rfl)).mono ?_; rintro e w' ⟨rfl, m, rfl⟩)
      refine bodyPost_ret (v := .agg #[.int .i64 4, .int .i64 0, .string ByteArray.empty, .slice none 0 0, .slice aK n capK]) (by simp [results, Tryz.results80, go_sem, o0, o1, o2, o3, o4]) rfl ?_
      obtain ⟨r1, r2, r3⟩ := (HM.out.drewN m).finish ⟨by decide, by decide⟩ _ rfl
      exact ⟨_, _, _, _, rfl, r1, r2, r3, by omega, fun _ => ⟨hroom, ns, ks, rfl, uh HXE⟩, fun h => by cases h⟩
    · have hnh : (lf s a).head? ≠ some 93 := fun e => hce ((bv_head s a 93 (by decide)).1 e)
      have hnb : n ≤ 1048576 := by omega
      have heat1 : 0 < n → ∀ W, Rdr W R s a false → Calls Tryz.prog 51 #[.pointer (some ⟨R, 0, none⟩), .string (w1 44)] W fun e w' => ∃ a1 bad1, e = .returned (.tuple #[]) ∧ Rdr w' R s a1 bad1 ∧ L1 L s a ks.length a1 bad1 ∧ But R W w' := fun h0 W hW => by
       rcases l1_eat hale hnh hfl hXf (by omega) with ⟨hp, ho⟩ | ⟨hp, ho⟩
       · exact (eat_yes W R s (w1 44) a false hs hW (by omega) (by decide) (by decide) hp).mono fun e w' ⟨h1, h2, h3⟩ => ⟨_, _, h1, h2, ho, h3⟩
       · exact (eat_no W R s (w1 44) a false hs hW (by omega) (by decide) (by decide) hp).mono fun e w' ⟨h1, h2, h3⟩ => ⟨_, _, h1, h2, ho, h3⟩
      have hsub : ∀ W a1 bad1 ns' a3 bad3, Rdr W R s a3 bad3 → L1 L s a ks.length a1 bad1 → L3 L s false ns a1 bad1 ns' a3 bad3 → Calls Tryz.prog 53 #[.pointer (some ⟨R, 0, none⟩), .int .i64 (7 - d)] W fun e w' => ∃ (t : Tr) (ap : Option Addr) (cp : Nat) (aq : Option Addr) (cq : Nat) (a4 : Nat) (bad4 : Bool), e = .returned (.agg #[.int .i64 t.sort, .int .i64 t.num, .string t.text, .slice ap t.names.length cp, .slice aq t.kids.length cq]) ∧ Hid (Rep (New W w') w' t ⟨.int .i64 t.sort, .int .i64 t.num, .string t.text, .slice ap t.names.length cp, .slice aq t.kids.length cq⟩) ∧ Hid (Rdr w' R s a4 bad4) ∧ Hid (LR L d false 93 s a4 bad4 ns' (ks ++ [t]) ∧ (bad4 = false → a < a4 ∧ a4 ≤ s.size)) ∧ Hid (But R W w') ∧ W.heap.size ≤ w'.heap.size := fun W a1 bad1 ns' a3 bad3 hW h1 h3 => by
       refine (uh HI W R s a3 bad3 hs hW h3.2.1).mono ?_
       rintro e w' ⟨t, ⟨x0, x1, x2, x3, x4⟩, a4, bad4, rfl, hrep, hr4, hb4, hfar4, hyes, hno⟩
       obtain ⟨q0, q1, q2, -, -, -, ⟨ap, cp, q3, -⟩, aq, cq, q4, -⟩ := hrep.open
       simp only at q0 q1 q2 q3 q4
       subst q0 q1 q2 q3 q4
       exact ⟨t, _, _, _, _, a4, bad4, rfl, hrep, hr4, l_next hka hnh hfl hXf h1 h3 ⟨hfar4, hyes, hno⟩, hb4, hb4.size⟩
      have hm0 : n = 0 → L1 L s a ks.length a false := fun h => l1_zero hale (by omega)
      have hbe : ((bv s a : Int) == 93) = false := by simp; omega
      have HE1 := hH heat1; have HSUB := hH hsub; have HM0 := hH hm0
      generalize bv s a = v2 at *
      clear heat1 hsub hm0 hXf hfl hnh HI hce
      rcases Nat.eq_zero_or_pos n with h0 | h0
      · have HM1 := hH (uh HM0 h0)
        have hz : decide ((0 : Int) < (n : Int)) = false := by simp; omega
        clear HE1 HM0
        go_wp2_with (go_at_call 78; refine (uh HLK2 _ (by rfl)).mono ?_; rintro e w' ⟨rfl, m, rfl⟩)
        have HC3 := hH (HM.out.drewN m)
        obtain ⟨W3, hW3⟩ : ∃ W3, wr.drewN m = W3 := ⟨_, rfl⟩
        rw [hW3] at HC3 ⊢
        obtain ⟨a1, ha1⟩ : ∃ a1, a1 = a := ⟨_, rfl⟩
        obtain ⟨bad1, hb1⟩ : ∃ b, b = false := ⟨_, rfl⟩
        rw [← ha1, ← hb1] at HC3
        have HM1' : Hid (L1 L s a ks.length a1 bad1) := by rw [ha1, hb1]; exact HM1
        clear HM1
        have HM1 := HM1'
        clear HM1' hW3 ha1 hb1 HM HLK2 y0 y1 y2 g1 g2 t0 t1 t2 t3 t4 o0 o1 o2 o3 o4 p0 p1 p2 p3 p4 hz h0
        have HM3 := hH (l3_list (ns := ns) (uh HM1))
        obtain ⟨a3, ha3⟩ : ∃ a3, a3 = a1 := ⟨_, rfl⟩
        obtain ⟨bad3, hb3⟩ : ∃ b3, b3 = bad1 := ⟨_, rfl⟩
        have HM3' : Hid (L3 L s false ns a1 bad1 ns a3 bad3) := by rw [ha3, hb3]; exact HM3
        have HC6' : Hid (MC w W3 R s 4 a3 bad3 (.slice none 0 0) (.slice aK n capK) ns ks xs) := by rw [ha3, hb3]; exact HC3
        clear HM3 HC3 ha3 hb3
        have HM3 := HM3'; have HC6 := HC6'
        clear HM3' HC6'
        obtain ⟨w6, hw6⟩ : ∃ w6, w6 = W3 := ⟨_, rfl⟩
        rw [← hw6] at HC6 ⊢
        clear hw6
        go_wp2_with fail
        have hcallK : ∀ dp : Int, dp = 7 - d → Calls Tryz.prog 53 #[.pointer (some ⟨R, 0, none⟩), .int .i64 dp] w6.drew fun e w7 => ∃ (t : Tr) (ap : Option Addr) (cp : Nat) (aq : Option Addr) (cq : Nat) (a4 : Nat) (bad4 : Bool), e = .returned (.agg #[.int .i64 t.sort, .int .i64 t.num, .string t.text, .slice ap t.names.length cp, .slice aq t.kids.length cq]) ∧ Hid (Rep (fun b => w6.heap.size ≤ b ∧ b < w7.heap.size) w7 t ⟨.int .i64 t.sort, .int .i64 t.num, .string t.text, .slice ap t.names.length cp, .slice aq t.kids.length cq⟩) ∧ Hid (LR L d false 93 s a4 bad4 ns (ks ++ [t]) ∧ (bad4 = false → a < a4 ∧ a4 ≤ s.size)) ∧ Hid (MC w w7 R s 4 a4 bad4 (.slice none 0 0) (.slice aK n capK) ns ks xs) ∧ w7.cell? ⟨w.heap.size + 1, 4, none⟩ = some (.slice aK n capK) ∧ (∀ ob, (w7.alloc ob).cell? ⟨w.heap.size + 1, 4, none⟩ = some (.slice aK n capK)) ∧ w6.heap.size ≤ w7.heap.size := by
         rintro dp rfl
         refine (uh HSUB w6.drew a1 bad1 ns a3 bad3 (uh HC6).rdr.drew (uh HM1) (uh HM3)).mono ?_
         rintro e w7 ⟨t, ap, cp, aq, cq, a4, bad4, rfl, hrep, hr, hlr, hb, hsz⟩
         have hc7 := ((uh HC6).drewN 1).move (uh hb) (uh hr)
         exact ⟨t, ap, cp, aq, cq, a4, bad4, rfl, hrep, hlr, hc7, hc7.row.cell (i := 4) (by omega), fun ob => (hc7.row.alloc ob).cell (i := 4) (by omega), hsz⟩
        have HCK := hH hcallK
        have e2 := (uh HC6).row.cell (i := 4) (by omega)
        simp only [row5] at e2
        have e2a : ∀ ob, (w6.alloc ob).cell? ⟨w.heap.size + 1, 4, none⟩ = some (.slice aK n capK) := fun ob => (((uh HC6).row.alloc ob).cell (i := 4) (by omega))
        have hsz6 := (uh HC6).row.lt
        clear hcallK HSUB
        go_region_law (first
         | ((refine step_append_lies _ (by rfl) _ _ _ (by rfl) (w.heap.size + 2) 26 i0 _ 5 80 Tryz.underlying24 (uh HII) (uh HZ0) (uh HZ1) (uh HZ2) rfl (by decide) (.slice aK n capK) n xs (by rfl) (by have := (uh HC7).got.kids; rw [hn2] at this; exact this.alloc _) ⟨w7.heap.size, 0, none⟩ 1 1 [.int .i64 t.sort, .int .i64 t.num, .string t.text, .slice ap t.names.length cp, .slice aq t.kids.length cq] (by rfl) (by rfl) (cell5x w7 _ _ _ _ _ _) (fun u hu => by simp at hu; rcases hu with rfl | rfl | rfl | rfl | rfl <;> rfl) (by decide) (by unfold maxLen; omega) (by omega) (by simp; omega) (w7.heap.size + 1) (by simp) ?_; intro g2 cap2 w8 hown8 hgrow8 hat8 hlt8; have u2 := (MC.atK (uh HC7) hgrow8).cell (i := 4) (by omega); have uz2 := (MC.atK (uh HC7) hgrow8).frozen 4; simp only [row5] at u2))
         | (rw [if_pos (by first | rfl | simp [Region.wanted])]; go_simp; refine (uh HCK _ (by first | exact uh HWR | omega)).mono ?_; rintro e w7 ⟨t, ap, cp, aq, cq, a4, bad4, rfl, HREP, HLR, HC7, t2c, t2d, hs7⟩))
        all_goals
         have hz7 : ∀ o, (w7.alloc o).heap.size = w7.heap.size + 1 := fun o => World.size_alloc _ _
         have hc8 := (uh HC7).kid w6.heap.size (by omega) (fun b hb => hb.elim (fun e => ((uh HC6).got.names.lt b e).2) (fun e => ((uh HC6).got.kids.lt b e).2)) (uh HREP) (by rw [hn2]; exact hown8) hgrow8 (hat8.elim (fun e => Or.inl (by rw [e]; rfl)) (fun e => Or.inr ⟨g2, rfl, by rw [hz7, e]; exact Nat.le_refl _⟩))
         have HC8 := hH hc8
         clear hc8 hown8 hgrow8 hat8 hlt8 u2 uz2
         go_wp2_with fail
         go_roundw
         case rel => exact ⟨ns, ks ++ [t], n + 1, none, 0, some ⟨g2, 0, none⟩, cap2, _, a4, bad4, hH ⟨hn1, by simp [hn2]⟩, hH (uh HLR).1, HC8⟩
         case measure =>
          rw [uh HMZ]
          cases bad4
          · rw [mz_no (uh HC8).rdr]
            have := (uh HLR).2 rfl
            omega
          · rw [mz_yes (uh HC8).rdr]
            omega
      · have hz : decide ((0 : Int) < (n : Int)) = true := by simp; omega
        have HE1' := hH (uh HE1 h0)
        clear HE1 HM0
        go_wp2_with (first
         | (go_at_call 78; refine (uh HLK2 _ (by rfl)).mono ?_; rintro e w' ⟨rfl, m, rfl⟩)
         | (go_at_call 51; refine (uh HE1' _ (HM.out.drewN _).rdr).mono ?_; rintro e W3 ⟨a1, bad1, rfl, hr3, hm3, hb3⟩; have HC3 := hH ((HM.out.drewN m).move hb3 hr3); have HM1 := hH hm3; clear hr3 hm3 hb3))
        clear HM HLK2 y0 y1 y2 g1 g2 t0 t1 t2 t3 t4 o0 o1 o2 o3 o4 p0 p1 p2 p3 p4 hz h0 HE1'
        have HM3 := hH (l3_list (ns := ns) (uh HM1))
        obtain ⟨a3, ha3⟩ : ∃ a3, a3 = a1 := ⟨_, rfl⟩
        obtain ⟨bad3, hb3⟩ : ∃ b3, b3 = bad1 := ⟨_, rfl⟩
        have HM3' : Hid (L3 L s false ns a1 bad1 ns a3 bad3) := by rw [ha3, hb3]; exact HM3
        have HC6' : Hid (MC w W3 R s 4 a3 bad3 (.slice none 0 0) (.slice aK n capK) ns ks xs) := by rw [ha3, hb3]; exact HC3
        clear HM3 HC3 ha3 hb3
        have HM3 := HM3'; have HC6 := HC6'
        clear HM3' HC6'
        obtain ⟨w6, hw6⟩ : ∃ w6, w6 = W3 := ⟨_, rfl⟩
        rw [← hw6] at HC6 ⊢
        clear hw6
        go_wp2_with fail
        have hcallK : ∀ dp : Int, dp = 7 - d → Calls Tryz.prog 53 #[.pointer (some ⟨R, 0, none⟩), .int .i64 dp] w6.drew fun e w7 => ∃ (t : Tr) (ap : Option Addr) (cp : Nat) (aq : Option Addr) (cq : Nat) (a4 : Nat) (bad4 : Bool), e = .returned (.agg #[.int .i64 t.sort, .int .i64 t.num, .string t.text, .slice ap t.names.length cp, .slice aq t.kids.length cq]) ∧ Hid (Rep (fun b => w6.heap.size ≤ b ∧ b < w7.heap.size) w7 t ⟨.int .i64 t.sort, .int .i64 t.num, .string t.text, .slice ap t.names.length cp, .slice aq t.kids.length cq⟩) ∧ Hid (LR L d false 93 s a4 bad4 ns (ks ++ [t]) ∧ (bad4 = false → a < a4 ∧ a4 ≤ s.size)) ∧ Hid (MC w w7 R s 4 a4 bad4 (.slice none 0 0) (.slice aK n capK) ns ks xs) ∧ w7.cell? ⟨w.heap.size + 1, 4, none⟩ = some (.slice aK n capK) ∧ (∀ ob, (w7.alloc ob).cell? ⟨w.heap.size + 1, 4, none⟩ = some (.slice aK n capK)) ∧ w6.heap.size ≤ w7.heap.size := by
         rintro dp rfl
         refine (uh HSUB w6.drew a1 bad1 ns a3 bad3 (uh HC6).rdr.drew (uh HM1) (uh HM3)).mono ?_
         rintro e w7 ⟨t, ap, cp, aq, cq, a4, bad4, rfl, hrep, hr, hlr, hb, hsz⟩
         have hc7 := ((uh HC6).drewN 1).move (uh hb) (uh hr)
         exact ⟨t, ap, cp, aq, cq, a4, bad4, rfl, hrep, hlr, hc7, hc7.row.cell (i := 4) (by omega), fun ob => (hc7.row.alloc ob).cell (i := 4) (by omega), hsz⟩
        have HCK := hH hcallK
        have e2 := (uh HC6).row.cell (i := 4) (by omega)
        simp only [row5] at e2
        have e2a : ∀ ob, (w6.alloc ob).cell? ⟨w.heap.size + 1, 4, none⟩ = some (.slice aK n capK) := fun ob => (((uh HC6).row.alloc ob).cell (i := 4) (by omega))
        have hsz6 := (uh HC6).row.lt
        clear hcallK HSUB
        go_region_law (first
         | ((refine step_append_lies _ (by rfl) _ _ _ (by rfl) (w.heap.size + 2) 26 i0 _ 5 80 Tryz.underlying24 (uh HII) (uh HZ0) (uh HZ1) (uh HZ2) rfl (by decide) (.slice aK n capK) n xs (by rfl) (by have := (uh HC7).got.kids; rw [hn2] at this; exact this.alloc _) ⟨w7.heap.size, 0, none⟩ 1 1 [.int .i64 t.sort, .int .i64 t.num, .string t.text, .slice ap t.names.length cp, .slice aq t.kids.length cq] (by rfl) (by rfl) (cell5x w7 _ _ _ _ _ _) (fun u hu => by simp at hu; rcases hu with rfl | rfl | rfl | rfl | rfl <;> rfl) (by decide) (by unfold maxLen; omega) (by omega) (by simp; omega) (w7.heap.size + 1) (by simp) ?_; intro g2 cap2 w8 hown8 hgrow8 hat8 hlt8; have u2 := (MC.atK (uh HC7) hgrow8).cell (i := 4) (by omega); have uz2 := (MC.atK (uh HC7) hgrow8).frozen 4; simp only [row5] at u2))
         | (rw [if_pos (by first | rfl | simp [Region.wanted])]; go_simp; refine (uh HCK _ (by first | exact uh HWR | omega)).mono ?_; rintro e w7 ⟨t, ap, cp, aq, cq, a4, bad4, rfl, HREP, HLR, HC7, t2c, t2d, hs7⟩))
        all_goals
         have hz7 : ∀ o, (w7.alloc o).heap.size = w7.heap.size + 1 := fun o => World.size_alloc _ _
         have hc8 := (uh HC7).kid w6.heap.size (by omega) (fun b hb => hb.elim (fun e => ((uh HC6).got.names.lt b e).2) (fun e => ((uh HC6).got.kids.lt b e).2)) (uh HREP) (by rw [hn2]; exact hown8) hgrow8 (hat8.elim (fun e => Or.inl (by rw [e]; rfl)) (fun e => Or.inr ⟨g2, rfl, by rw [hz7, e]; exact Nat.le_refl _⟩))
         have HC8 := hH hc8
         clear hc8 hown8 hgrow8 hat8 hlt8 u2 uz2
         go_wp2_with fail
         go_roundw
         case rel => exact ⟨ns, ks ++ [t], n + 1, none, 0, some ⟨g2, 0, none⟩, cap2, _, a4, bad4, hH ⟨hn1, by simp [hn2]⟩, hH (uh HLR).1, HC8⟩
         case measure =>
          rw [uh HMZ]
          cases bad4
          · rw [mz_no (uh HC8).rdr]
            have := (uh HLR).2 rfl
            omega
          · rw [mz_yes (uh HC8).rdr]
            omega
  · subst hbad
    have hx : L = none := by
     rcases HF.out with ⟨h, -⟩ | ⟨-, h, -⟩
     · cases h
     · exact h
    have HXN := hH hx
    clear hx
    go_wp2_with fail
    refine bodyPost_ret (v := .agg #[.int .i64 4, .int .i64 0, .string ByteArray.empty, .slice none 0 0, .slice aK n capK]) (by simp [results, Tryz.results80, go_sem, o0, o1, o2, o3, o4]) rfl ?_
    obtain ⟨r1, r2, r3⟩ := HM.out.finish ⟨by decide, by decide⟩ _ rfl
    exact ⟨_, _, _, _, rfl, r1, r2, r3, by omega, (fun h => by cases h), fun _ => uh HXN⟩
end Go.Proofs.YtbkagahmiibclaaGreatDoor
