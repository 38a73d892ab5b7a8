/- What the loop of the specification's many has, in memory and as data. Definitions and small laws. -/
import Derived.Test.YtgamonfmgngilaaGreatDoorPart29
import Derived.Deep.RegionLaw
import Derived.Deep.CutRange
import Derived.Deep.AppendLies
namespace Go.Proofs.YtgamonfmgngilaaGreatDoor
open Go Go.RowKit

/-- eat, whatever stands there. -/
theorem eat_any (w : World) (R : Nat) (s wd : ByteArray) (at' : Nat) (bad : Bool) (hs : s.size ≤ 1048576) (h : Rdr w R s at' bad) (ha : at' ≤ 2097152) (hw0 : 0 < wd.size) (hw : wd.size ≤ 16) :
    Calls Tryz.prog 37 #[.pointer (some ⟨R, 0, none⟩), .string wd] w fun e w' => e = .returned (.tuple #[]) ∧ ∃ a2 bad2, Rdr w' R s a2 bad2 ∧ But R w w' ∧ (at' ≤ s.size → a2 ≤ s.size) ∧ at' ≤ a2 ∧
      (pre wd s at' = true → a2 = at' + wd.size ∧ bad2 = bad) ∧ (pre wd s at' = false → bad2 = true) := by
  cases hp : pre wd s at' with
  | true =>
    refine (eat_yes w R s wd at' bad hs h ha hw0 hw hp).mono ?_
    rintro e w' ⟨rfl, h1, h2⟩
    exact ⟨rfl, _, _, h1, h2, fun _ => ((pre_iff hw0).1 hp).1, by omega, fun _ => ⟨rfl, rfl⟩, fun h => by cases h⟩
  | false =>
    refine (eat_no w R s wd at' bad hs h ha hw0 hw hp).mono ?_
    rintro e w' ⟨rfl, h1, h2⟩
    exact ⟨rfl, _, _, h1, h2, fun h => h, by omega, (fun h => by cases h), fun _ => rfl⟩

/-- tree, so many levels left. -/
def RdSaid (d : Nat) : Prop := ∀ (w : World) (R : Nat) (s : ByteArray) (at' : Nat) (bad : Bool), s.size ≤ 1048576 → Rdr w R s at' bad → at' ≤ s.size →
    Calls Tryz.prog 35 #[.pointer (some ⟨R, 0, none⟩), .int .i64 (7 - d)] w fun e w' => ∃ (t : Tr) (c : C5) (a2 : Nat) (bad2 : Bool), e = .returned (.agg #[c.c0, c.c1, c.c2, c.c3, c.c4]) ∧ Rep (New w w') w' t c ∧ Rdr w' R s a2 bad2 ∧ But R w w' ∧ a2 ≤ s.size + d ∧
      (bad2 = false → a2 ≤ s.size ∧ bad = false ∧ spT d (lf s at') () = some (t, lf s a2, ())) ∧ (bad2 = true → bad = true ∨ spT d (lf s at') () = none)

theorem owns_form {w : World} {base : Nat} {e : TypeId} {size : Nat} {v : Value} {n : Nat} {xs : List Value} (h : w.ownsRow base e size v n xs) : ∃ a cap, v = .slice a n cap := by
  rcases h.2 with ⟨hv, hn⟩ | ⟨g, cap, _, hv, _⟩
  · exact ⟨none, 0, by rw [hv, hn]⟩
  · exact ⟨_, _, hv⟩

theorem row5_s3 {w : World} {b : Nat} {t : TypeId} {c0 c1 c2 c3 c4 : Value} (h : w.rowIs b t 5 (row5 c0 c1 c2 c3 c4)) (v : Value) : (w.setCell ⟨b, 3, none⟩ v).rowIs b t 5 (row5 c0 c1 c2 v c4) :=
  (h.set 3 v).congr fun i hi => by
    match i, hi with
    | 0, _ => rfl
    | 1, _ => rfl
    | 2, _ => rfl
    | 3, _ => rfl
    | 4, _ => rfl
theorem row5_s4 {w : World} {b : Nat} {t : TypeId} {c0 c1 c2 c3 c4 : Value} (h : w.rowIs b t 5 (row5 c0 c1 c2 c3 c4)) (v : Value) : (w.setCell ⟨b, 4, none⟩ v).rowIs b t 5 (row5 c0 c1 c2 c3 v) :=
  (h.set 4 v).congr fun i hi => by
    match i, hi with
    | 0, _ => rfl
    | 1, _ => rfl
    | 2, _ => rfl
    | 3, _ => rfl
    | 4, _ => rfl

theorem size_set (w : World) (a : Addr) (v : Value) : (w.setCell a v).heap.size = w.heap.size := by simp [World.setCell]

/-- What the loop of many has in memory. -/
structure MC (w wr : World) (R : Nat) (s : ByteArray) (sort : Int) (at' : Nat) (bad : Bool) (vN vK : Value) (ns : List ByteArray) (ks : List Tr) (xs : List Value) : Prop where
  rdr : Rdr wr R s at' bad
  row : wr.rowIs (w.heap.size + 1) 26 5 (row5 (.int .i64 sort) (.int .i64 0) (.string ByteArray.empty) vN vK)
  out : wr.rowIs w.heap.size 26 5 (row5 (.int .i64 0) (.int .i64 0) (.string ByteArray.empty) (.slice none 0 0) (.slice none 0 0))
  got : GotT (w.heap.size + 2) wr vN vK ns ks xs
  but : But R w wr
  low : R < w.heap.size

theorem But.setNew {B : Nat} {w w' : World} (h : But B w w') {b o : Nat} (hb : w.heap.size ≤ b) (v : Value) : But B w (w'.setCell ⟨b, o, none⟩ v) :=
  ⟨h.os, h.tape, h.output, by simp only [World.setCell, Array.size_modify]; exact h.size, fun i hi hne => by rw [Below.heap_setCell _ _ _ _ (by show i ≠ b; omega)]; exact h.block i hi hne⟩

/-- The reader has moved, nothing else. -/
theorem MC.move {w wr w' : World} {R : Nat} {s : ByteArray} {sort : Int} {a a2 : Nat} {bad bad2 : Bool} {vN vK : Value} {ns : List ByteArray} {ks : List Tr} {xs : List Value}
    (h : MC w wr R s sort a bad vN vK ns ks xs) (hb : But R wr w') (hr : Rdr w' R s a2 bad2) : MC w w' R s sort a2 bad2 vN vK ns ks xs := by
  have hl := h.low
  exact ⟨hr, h.row.of_block (hb.at h.row.lt (by omega)), h.out.of_block (hb.at h.out.lt (by omega)), h.got.kept (by omega) hb, h.but.trans hb, hl⟩

/-- A name more. -/
theorem MC.name {w wr w4 : World} {R : Nat} {s : ByteArray} {sort : Int} {a : Nat} {bad : Bool} {vN vN' vK : Value} {ns : List ByteArray} {ks : List Tr} {xs : List Value} {nm : ByteArray} {o : Obj}
    (h : MC w wr R s sort a bad vN vK ns ks xs) (hnm : nm.size ≤ 9223372036854775807)
    (hown : w4.ownsRow (w.heap.size + 2) 9 1 vN' (ns.length + 1) (ns.map Value.string ++ [.string nm])) (hg : (wr.alloc o).grownBy w4 vN.ownBlock) (hv : vN'.ownBlock = vN.ownBlock ∨ ∃ g, vN'.ownBlock = some g ∧ (wr.alloc o).heap.size ≤ g) :
    MC w (w4.setCell ⟨w.heap.size + 1, 3, none⟩ vN') R s sort a bad vN' vK (ns ++ [nm]) ks xs := by
  have hl := h.low
  have hs := h.but.size
  have hrl := h.row.lt
  have hal : (wr.alloc o).heap.size = wr.heap.size + 1 := by simp
  have hblk : ∀ b, b < wr.heap.size → some b ≠ vN.ownBlock → w4.heap[b]? = wr.heap[b]? := fun b h1 h2 => by
    rw [hg.block b (by omega) h2]; exact Below.heap_alloc _ _ _ h1
  have hno : ∀ b, b < w.heap.size + 2 → some b ≠ vN.ownBlock := fun b hb e => by have := (h.got.names.lt b e.symm).1; omega
  have hT : w4.heap[w.heap.size + 1]? = wr.heap[w.heap.size + 1]? := hblk _ hrl (hno _ (by omega))
  refine ⟨World.rowIs.setOther (World.rowIs.of_block h.rdr (hblk R (by omega) (hno _ (by omega)))) (by show R ≠ w.heap.size + 1; omega) _, row5_s3 (h.row.of_block hT) _, World.rowIs.setOther (h.out.of_block (hblk _ (by omega) (hno _ (by omega)))) (by show w.heap.size ≠ w.heap.size + 1; omega) _, ((h.got.alloc o).name hnm hown hg hv).kept (R := w.heap.size + 1) (by omega) (But.set _ _ _), ?_, hl⟩
  refine But.setNew ⟨hg.os.trans h.but.os, hg.tape.trans h.but.tape, hg.output.trans h.but.output, by have := hg.size; omega, fun i hi hne => ?_⟩ (by omega) _
  rw [hblk i (by omega) (hno i (by omega))]; exact h.but.block i hi hne

/-- A kid more. -/
theorem MC.kid {w wr w4 : World} {R : Nat} {s : ByteArray} {sort : Int} {a : Nat} {bad : Bool} {vN vK vK' : Value} {ns : List ByteArray} {ks : List Tr} {xs : List Value} {t : Tr} {c : C5} {o : Obj}
    (h : MC w wr R s sort a bad vN vK ns ks xs) (lo : Nat) (hlo : w.heap.size + 2 ≤ lo) (hlo2 : ∀ b, (vN.ownBlock = some b ∨ vK.ownBlock = some b) → b < lo) (hc : Rep (fun b => lo ≤ b ∧ b < wr.heap.size) wr t c)
    (hown : w4.ownsRow (w.heap.size + 2) 26 5 vK' (ks.length + 1) (xs ++ c.list)) (hg : (wr.alloc o).grownBy w4 vK.ownBlock) (hv : vK'.ownBlock = vK.ownBlock ∨ ∃ g, vK'.ownBlock = some g ∧ (wr.alloc o).heap.size ≤ g) :
    MC w (w4.setCell ⟨w.heap.size + 1, 4, none⟩ vK') R s sort a bad vN vK' ns (ks ++ [t]) (xs ++ c.list) := by
  have hl := h.low
  have hs := h.but.size
  have hrl := h.row.lt
  have hal : (wr.alloc o).heap.size = wr.heap.size + 1 := by simp
  have hblk : ∀ b, b < wr.heap.size → some b ≠ vK.ownBlock → w4.heap[b]? = wr.heap[b]? := fun b h1 h2 => by
    rw [hg.block b (by omega) h2]; exact Below.heap_alloc _ _ _ h1
  have hno : ∀ b, b < w.heap.size + 2 → some b ≠ vK.ownBlock := fun b hb e => by have := (h.got.kids.lt b e.symm).1; omega
  have hT : w4.heap[w.heap.size + 1]? = wr.heap[w.heap.size + 1]? := hblk _ hrl (hno _ (by omega))
  have hc' : Rep (fun b => w.heap.size + 2 ≤ b ∧ b < (wr.alloc o).heap.size ∧ some b ≠ vN.ownBlock ∧ some b ≠ vK.ownBlock) (wr.alloc o) t c :=
    Rep.carry (fun b hb => Below.heap_alloc _ _ _ hb.2) (fun b hb => ⟨by omega, by omega, fun e => by have := hlo2 b (Or.inl e.symm); omega, fun e => by have := hlo2 b (Or.inr e.symm); omega⟩) _ _ hc
  refine ⟨World.rowIs.setOther (World.rowIs.of_block h.rdr (hblk R (by omega) (hno _ (by omega)))) (by show R ≠ w.heap.size + 1; omega) _, row5_s4 (h.row.of_block hT) _, World.rowIs.setOther (h.out.of_block (hblk _ (by omega) (hno _ (by omega)))) (by show w.heap.size ≠ w.heap.size + 1; omega) _, ((h.got.alloc o).kid hc' hown hg hv).kept (R := w.heap.size + 1) (by omega) (But.set _ _ _), ?_, hl⟩
  refine But.setNew ⟨hg.os.trans h.but.os, hg.tape.trans h.but.tape, hg.output.trans h.but.output, by have := hg.size; omega, fun i hi hne => ?_⟩ (by omega) _
  rw [hblk i (by omega) (hno i (by omega))]; exact h.but.block i hi hne

/-- How far the loop is from its end. -/
def mz (w : World) (R : Nat) (s : ByteArray) : Nat := match w.cell? ⟨R, 2, none⟩ with
  | some (.bool true) => 0
  | _ => s.size + 1 - atOf w R
theorem mz_no {w : World} {R : Nat} {s : ByteArray} {a : Nat} (h : Rdr w R s a false) : mz w R s = s.size + 1 - a := by
  unfold mz; rw [h.cells.2.2.1]; simp only; rw [h.atOf]
theorem mz_yes {w : World} {R : Nat} {s : ByteArray} {a : Nat} (h : Rdr w R s a true) : mz w R s = 0 := by
  unfold mz; rw [h.cells.2.2.1]

theorem MC.finish {w wr : World} {R : Nat} {s : ByteArray} {sort : Int} {at' : Nat} {bad : Bool} {vN vK : Value} {ns : List ByteArray} {ks : List Tr} {xs : List Value}
    (h : MC w wr R s sort at' bad vN vK ns ks xs) (hso : I64 sort) (W : World)
    (hW : W = (((((wr.setCell ⟨R, 1, none⟩ (.int .i64 ((at' : Int) + 1))).setCell ⟨w.heap.size, 0, none⟩ (.int .i64 sort)).setCell ⟨w.heap.size, 1, none⟩ (.int .i64 0)).setCell ⟨w.heap.size, 2, none⟩ (.string ByteArray.empty)).setCell ⟨w.heap.size, 3, none⟩ vN).setCell ⟨w.heap.size, 4, none⟩ vK) :
    Rep (New w W) W (.mk sort 0 ByteArray.empty ns ks) ⟨.int .i64 sort, .int .i64 0, .string ByteArray.empty, vN, vK⟩ ∧ Rdr W R s (at' + 1) bad ∧ But R w W := by
  have hsz := h.row.lt
  have hR := h.low
  have hB : ∀ b, b ≠ R → b ≠ w.heap.size → W.heap[b]? = wr.heap[b]? := fun b h1 h2 => by
    rw [hW, Below.heap_setCell _ _ _ _ h2, Below.heap_setCell _ _ _ _ h2, Below.heap_setCell _ _ _ _ h2, Below.heap_setCell _ _ _ _ h2, Below.heap_setCell _ _ _ _ h2, Below.heap_setCell _ _ _ _ h1]
  have hs : W.heap.size = wr.heap.size := by rw [hW]; simp only [size_set]
  have hRe : W.heap[R]? = (wr.setCell ⟨R, 1, none⟩ (.int .i64 ((at' : Int) + 1))).heap[R]? := by
    have h2 : R ≠ w.heap.size := by omega
    rw [hW, Below.heap_setCell _ _ _ _ h2, Below.heap_setCell _ _ _ _ h2, Below.heap_setCell _ _ _ _ h2, Below.heap_setCell _ _ _ _ h2, Below.heap_setCell _ _ _ _ h2]
  refine ⟨Rep.carry (fun b hb => hB b (by omega) (by omega)) (fun b hb => ⟨by omega, by rw [hs]; exact hb.2⟩) _ _ (h.got.done sort hso), World.rowIs.of_block (h.rdr.set1 (at' + 1)) hRe, ?_⟩
  rw [hW]
  exact (((((h.but.trans (But.set _ _ _)).setNew (Nat.le_refl _) _).setNew (Nat.le_refl _) _).setNew (Nat.le_refl _) _).setNew (Nat.le_refl _) _).setNew (Nat.le_refl _) _

theorem MC.start {w : World} {R : Nat} {s : ByteArray} {sort : Int} {at' : Nat} (h : Rdr w R s at' false) :
    MC w (((w.setCell ⟨R, 1, none⟩ (.int .i64 ((at' : Int) + 1))).alloc (.cells #[.int .i64 0, .int .i64 0, .string ByteArray.empty, .slice none 0 0, .slice none 0 0] 26)).alloc (.cells #[.int .i64 sort, .int .i64 0, .string ByteArray.empty, .slice none 0 0, .slice none 0 0] 26))
      R s sort (at' + 1) false (.slice none 0 0) (.slice none 0 0) [] [] [] := by
  have h1 : Rdr (w.setCell ⟨R, 1, none⟩ (.int .i64 ((at' : Int) + 1))) R s (at' + 1) false := h.set1 (at' + 1)
  have hR := h.lt
  have hsz : (w.setCell ⟨R, 1, none⟩ (.int .i64 ((at' : Int) + 1))).heap.size = w.heap.size := size_set _ _ _
  have r0 := row5_alloc (w.setCell ⟨R, 1, none⟩ (.int .i64 ((at' : Int) + 1))) (.int .i64 0) (.int .i64 0) (.string ByteArray.empty) (.slice none 0 0) (.slice none 0 0) 26
  rw [hsz] at r0
  have r1 := row5_alloc ((w.setCell ⟨R, 1, none⟩ (.int .i64 ((at' : Int) + 1))).alloc (.cells #[.int .i64 0, .int .i64 0, .string ByteArray.empty, .slice none 0 0, .slice none 0 0] 26)) (.int .i64 sort) (.int .i64 0) (.string ByteArray.empty) (.slice none 0 0) (.slice none 0 0) 26
  rw [show ((w.setCell ⟨R, 1, none⟩ (.int .i64 ((at' : Int) + 1))).alloc (.cells #[.int .i64 0, .int .i64 0, .string ByteArray.empty, .slice none 0 0, .slice none 0 0] 26)).heap.size = w.heap.size + 1 from by simp [hsz]] at r1
  exact ⟨World.rowIs.alloc (World.rowIs.alloc h1 _) _, r1, r0.alloc _, GotT.start _ _, (But.set _ _ _).trans ((But.alloc _ _ _).trans (But.alloc _ _ _)), hR⟩

theorem MC.drewN {w wr : World} {R : Nat} {s : ByteArray} {sort : Int} {a : Nat} {bad : Bool} {vN vK : Value} {ns : List ByteArray} {ks : List Tr} {xs : List Value} (h : MC w wr R s sort a bad vN vK ns ks xs) (m : Nat) : MC w (wr.drewN m) R s sort a bad vN vK ns ks xs :=
  h.move (but_drewN (But.refl _ _) m) (h.rdr.drewN m)
theorem MC.atN {w wr w4 : World} {R : Nat} {s : ByteArray} {sort : Int} {a : Nat} {bad : Bool} {vN vK : Value} {ns : List ByteArray} {ks : List Tr} {xs : List Value} {o : Obj} (h : MC w wr R s sort a bad vN vK ns ks xs) (hg : (wr.alloc o).grownBy w4 vN.ownBlock) : w4.rowIs (w.heap.size + 1) 26 5 (row5 (.int .i64 sort) (.int .i64 0) (.string ByteArray.empty) vN vK) := by
  refine h.row.of_block ?_
  rw [hg.block _ (by have := h.row.lt; simp; omega) (fun e => by have := (h.got.names.lt _ e.symm).1; omega)]
  exact Below.heap_alloc _ _ _ h.row.lt
theorem MC.atK {w wr w4 : World} {R : Nat} {s : ByteArray} {sort : Int} {a : Nat} {bad : Bool} {vN vK : Value} {ns : List ByteArray} {ks : List Tr} {xs : List Value} {o : Obj} (h : MC w wr R s sort a bad vN vK ns ks xs) (hg : (wr.alloc o).grownBy w4 vK.ownBlock) : w4.rowIs (w.heap.size + 1) 26 5 (row5 (.int .i64 sort) (.int .i64 0) (.string ByteArray.empty) vN vK) := by
  refine h.row.of_block ?_
  rw [hg.block _ (by have := h.row.lt; simp; omega) (fun e => by have := (h.got.kids.lt _ e.symm).1; omega)]
  exact Below.heap_alloc _ _ _ h.row.lt

/-- How far a list or form is read. -/
def LR (L : Option (List ByteArray × List Tr × List UInt8 × Unit)) (d : Nat) (form : Bool) (e : UInt8) (s : ByteArray) (a : Nat) (bad : Bool) (ns : List ByteArray) (ks : List Tr) : Prop :=
  (bad = false ∧ a ≤ s.size ∧ ks.length ≤ a ∧ ∃ f, (lf s a).length < f ∧ lp (spT d) form e f ns ks (lf s a) () = L) ∨ (bad = true ∧ L = none ∧ a ≤ s.size + d)
theorem LR.at {L : Option (List ByteArray × List Tr × List UInt8 × Unit)} {d : Nat} {form : Bool} {e : UInt8} {s : ByteArray} {a : Nat} {bad : Bool} {ns : List ByteArray} {ks : List Tr} (h : LR L d form e s a bad ns ks) : a ≤ s.size + d := by
  rcases h with ⟨-, h, -⟩ | ⟨-, -, h⟩ <;> omega
/-- Behind the comma. -/
def L1 (L : Option (List ByteArray × List Tr × List UInt8 × Unit)) (s : ByteArray) (a n a1 : Nat) (bad1 : Bool) : Prop := a ≤ a1 ∧ a1 ≤ s.size ∧ ((bad1 = false ∧ cma n (lf s a) = some (lf s a1)) ∨ (bad1 = true ∧ L = none))
/-- Behind the colon. -/
def L3 (L : Option (List ByteArray × List Tr × List UInt8 × Unit)) (s : ByteArray) (form : Bool) (ns : List ByteArray) (a1 : Nat) (bad1 : Bool) (ns' : List ByteArray) (a3 : Nat) (bad3 : Bool) : Prop := a1 ≤ a3 ∧ a3 ≤ s.size ∧ ((bad3 = false ∧ bad1 = false ∧ nmr form ns (lf s a1) = some (ns', lf s a3)) ∨ (bad3 = true ∧ L = none))
/-- Behind the tree. -/
def L4 (d : Nat) (s : ByteArray) (a3 : Nat) (bad3 : Bool) (t : Tr) (a4 : Nat) (bad4 : Bool) : Prop := a4 ≤ s.size + d ∧ (bad4 = false → a4 ≤ s.size ∧ bad3 = false ∧ spT d (lf s a3) () = some (t, lf s a4, ())) ∧ (bad4 = true → bad3 = true ∨ spT d (lf s a3) () = none)

section
variable {L : Option (List ByteArray × List Tr × List UInt8 × Unit)} {d : Nat} {form : Bool} {e : UInt8} {s : ByteArray} {a : Nat} {ns : List ByteArray} {ks : List Tr}
theorem l1_zero (ha : a ≤ s.size) (h0 : ks.length = 0) : L1 L s a ks.length a false := ⟨Nat.le_refl _, ha, Or.inl ⟨rfl, by unfold cma; rw [if_pos h0]⟩⟩
theorem room {s : ByteArray} {a : Nat} {c : UInt8} (h : (lf s a).head? = some c) : a + 1 ≤ s.size := by
  have := lf_len s a
  cases hl : lf s a with
  | nil => rw [hl] at h; simp at h
  | cons c r => rw [hl] at this; simp at this; omega
theorem l1_eat (ha : a ≤ s.size) (hne : (lf s a).head? ≠ some e) {f : Nat} (hf : (lf s a).length < f) (hX : lp (spT d) form e f ns ks (lf s a) () = L) (h0 : 0 < ks.length) :
    (pre (w1 44) s a = true ∧ L1 L s a ks.length (a + 1) false) ∨ (pre (w1 44) s a = false ∧ L1 L s a ks.length a true) := by
  rw [pre_one]
  obtain ⟨f, rfl⟩ : ∃ g, f = g + 1 := ⟨f - 1, by omega⟩
  rw [lp, if_neg hne] at hX
  by_cases h44 : (lf s a).head? = some 44
  · exact Or.inl ⟨decide_eq_true h44, by omega, room h44, Or.inl ⟨rfl, by unfold cma; rw [if_neg (by omega), if_pos h44, lf_next]⟩⟩
  · refine Or.inr ⟨decide_eq_false h44, Nat.le_refl _, ha, Or.inr ⟨rfl, ?_⟩⟩
    rw [← hX]
    have : cma ks.length (lf s a) = none := by unfold cma; rw [if_neg (by omega), if_neg h44]
    rw [this]
theorem l3_list {a1 : Nat} {bad1 : Bool} (h1 : L1 L s a ks.length a1 bad1) : L3 L s false ns a1 bad1 ns a1 bad1 := by
  refine ⟨Nat.le_refl _, h1.2.1, ?_⟩
  rcases h1.2.2 with ⟨h, -⟩ | ⟨h, h2⟩
  · exact Or.inl ⟨h, h, by simp [nmr]⟩
  · exact Or.inr ⟨h, h2⟩
theorem l3_eat {a1 : Nat} {bad1 : Bool} (hne : (lf s a).head? ≠ some e) {f : Nat} (hf : (lf s a).length < f) (hX : lp (spT d) true e f ns ks (lf s a) () = L) (h1 : L1 L s a ks.length a1 bad1) :
    (pre (w1 58) s (a1 + rn nameByte s a1) = true ∧ L3 L s true ns a1 bad1 (ns ++ [⟨((lf s a1).takeWhile nameByte).toArray⟩]) (a1 + rn nameByte s a1 + 1) bad1) ∨ (pre (w1 58) s (a1 + rn nameByte s a1) = false ∧ L3 L s true ns a1 bad1 (ns ++ [⟨((lf s a1).takeWhile nameByte).toArray⟩]) (a1 + rn nameByte s a1) true) := by
  rw [pre_one]
  obtain ⟨h0, ha1, h1⟩ := h1
  have hle := rn_le nameByte s a1 ha1
  obtain ⟨f, rfl⟩ : ∃ g, f = g + 1 := ⟨f - 1, by omega⟩
  rw [lp, if_neg hne] at hX
  by_cases h58 : (lf s (a1 + rn nameByte s a1)).head? = some 58
  · refine Or.inl ⟨decide_eq_true h58, by omega, room h58, ?_⟩
    rcases h1 with ⟨h1, h2⟩ | ⟨h1, h2⟩
    · refine Or.inl ⟨h1, h1, ?_⟩
      unfold nmr
      rw [if_pos rfl, ← rn_drop, if_pos h58, lf_next]
    · exact Or.inr ⟨h1, h2⟩
  · refine Or.inr ⟨decide_eq_false h58, by omega, hle, Or.inr ⟨rfl, ?_⟩⟩
    rcases h1 with ⟨h1, h2⟩ | ⟨h1, h2⟩
    · rw [← hX, h2]
      have : nmr true ns (lf s a1) = none := by unfold nmr; rw [if_pos rfl, ← rn_drop, if_neg h58]
      simp only [this]
    · exact h2
theorem l_next {a1 a3 a4 : Nat} {bad1 bad3 bad4 : Bool} {ns' : List ByteArray} {t : Tr} (hka : ks.length ≤ a) (hne : (lf s a).head? ≠ some e) {f : Nat} (hf : (lf s a).length < f) (hX : lp (spT d) form e f ns ks (lf s a) () = L)
    (h1 : L1 L s a ks.length a1 bad1) (h3 : L3 L s form ns a1 bad1 ns' a3 bad3) (h4 : L4 d s a3 bad3 t a4 bad4) : LR L d form e s a4 bad4 ns' (ks ++ [t]) ∧ (bad4 = false → a < a4 ∧ a4 ≤ s.size) := by
  obtain ⟨f, rfl⟩ : ∃ g, f = g + 1 := ⟨f - 1, by omega⟩
  rw [lp, if_neg hne] at hX
  obtain ⟨g1, g2, g3⟩ := h4
  have hq1 := h1.1
  have hq3 := h3.1
  cases hb4 : bad4 with
  | false =>
    obtain ⟨k1, k2, k3⟩ := g2 hb4
    rcases h3.2.2 with ⟨-, m1, m2⟩ | ⟨m1, -⟩
    · rcases h1.2.2 with ⟨-, m3⟩ | ⟨m3, -⟩
      · rw [m3] at hX
        simp only [m2] at hX
        rw [k3] at hX
        simp only at hX
        have hl := spT_len _ _ _ _ _ _ k3
        rw [lf_len, lf_len] at hl
        refine ⟨Or.inl ⟨rfl, k1, by simp; omega, f, by rw [lf_len]; rw [lf_len] at hf; omega, hX⟩, fun _ => ⟨by omega, k1⟩⟩
      · rw [m1] at m3; cases m3
    · rw [k2] at m1; cases m1
  | true =>
    refine ⟨Or.inr ⟨rfl, ?_, g1⟩, fun h => by cases h⟩
    rcases h3.2.2 with ⟨m0, m1, m2⟩ | ⟨-, m1⟩
    · rcases h1.2.2 with ⟨-, m3⟩ | ⟨m3, -⟩
      · rcases g3 hb4 with k | k
        · rw [m0] at k; cases k
        · rw [m3] at hX
          simp only [m2] at hX
          rw [k] at hX
          exact hX.symm
      · rw [m1] at m3; cases m3
    · exact m1
theorem l_end (hhd : (lf s a).head? = some e) {f : Nat} (hf : (lf s a).length < f) (hX : lp (spT d) form e f ns ks (lf s a) () = L) : L = some (ns, ks, lf s (a + 1), ()) ∧ a + 1 ≤ s.size := by
  obtain ⟨f, rfl⟩ : ∃ g, f = g + 1 := ⟨f - 1, by omega⟩
  rw [lp, if_pos hhd] at hX
  exact ⟨by rw [← hX, lf_next], room hhd⟩
end
theorem drewN_gr (W : World) (m : Nat) : W.grownBy (W.drewN m) none := ⟨rfl, rfl, rfl, Nat.le_refl _, fun _ _ _ => rfl⟩
theorem infoTreeM : (Tryz.prog.info? 26).map (fun i => (i.zero, i.size, i.bytes)) = some (some (.agg #[.int .i64 0, .int .i64 0, .string ByteArray.empty, .slice none 0 0, .slice none 0 0]), 5, 80) := by kernel_rfl
theorem infoStrM : (Tryz.prog.info? 9).map (fun i => (i.zero, i.size, i.bytes)) = some (some (.string ByteArray.empty), 1, 16) := by kernel_rfl

/-- What many comes to. -/
def MnEnd (d : Nat) (form : Bool) (c : UInt8) (sort : Int) (w : World) (R : Nat) (s : ByteArray) (at' : Nat) (e : Ending) (w' : World) : Prop :=
  ∃ (t : Tr) (k : C5) (a2 : Nat) (bad2 : Bool), e = .returned (.agg #[k.c0, k.c1, k.c2, k.c3, k.c4]) ∧ Rep (New w w') w' t k ∧ Rdr w' R s a2 bad2 ∧ But R w w' ∧ a2 ≤ s.size + d + 1 ∧
    (bad2 = false → a2 ≤ s.size ∧ ∃ ns ks, t = .mk sort 0 ByteArray.empty ns ks ∧ lp (spT d) form c ((lf s at').length + 1) [] [] (lf s (at' + 1)) () = some (ns, ks, lf s a2, ())) ∧ (bad2 = true → lp (spT d) form c ((lf s at').length + 1) [] [] (lf s (at' + 1)) () = none)

theorem cell5x (w : World) (c0 c1 c2 c3 c4 : Value) (t : TypeId) : ∀ j u, [c0, c1, c2, c3, c4][j]? = some u → (w.alloc (.cells #[c0, c1, c2, c3, c4] t)).cell? ((⟨w.heap.size, 0, none⟩ : Addr).add j) = some u := by
  intro j u h
  have hj : j < 5 := by
    by_cases hj : j < 5
    · exact hj
    · rw [List.getElem?_eq_none (by simp; omega)] at h; cases h
  rw [Addr.add_lit, Nat.zero_add, (row5_alloc w c0 c1 c2 c3 c4 t).cell hj]
  match j, hj with
  | 0, _ => exact h
  | 1, _ => exact h
  | 2, _ => exact h
  | 3, _ => exact h
  | 4, _ => exact h
end Go.Proofs.YtgamonfmgngilaaGreatDoor
