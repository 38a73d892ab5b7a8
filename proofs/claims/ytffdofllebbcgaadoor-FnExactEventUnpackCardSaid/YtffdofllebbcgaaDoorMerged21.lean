/- What the walk of the specification's l4Reader.tree holds: definitions and small laws. No conditions. -/
import Derived.Test.YtffdofllebbcgaaDoorMerged19
import Derived.Test.YtffdofllebbcgaaDoorMerged20
import Derived.Test.YtffdofllebbcgaaDoorWUnN
namespace Go.Proofs.YtffdofllebbcgaaDoor
open Go Go.RowKit

/-- What the specification's reader of trees comes to: some tree in memory of its own; where the bytes are those of a tree that is ok, just that. -/
def STEnd (R : Nat) (w w' : World) (v : Value) (b : List UInt8) (a : Nat) (bad : Bool) (deep : Int) (e : Ending) : Prop :=
  ∃ (t : Tr) (c : C5) (F : List Nat) (a' : Nat) (bad' : Bool), e = .returned (.agg #[c.c0, c.c1, c.c2, c.c3, c.c4]) ∧ Own w' t c F ∧ F.Nodup ∧ (∀ x, x ∈ F → w.heap.size ≤ x ∧ x < w'.heap.size) ∧ SR R w' v b a' bad' ∧ But R w w' ∧
    (bad = false → ∀ t0 rest, 0 < pT t0 deep → b.drop a = treeB t0 ++ rest → t = t0 ∧ bad' = false ∧ b.drop a' = rest)

/-- What the loop over kids holds. -/
structure SAt (R Y : Nat) (w wr : World) (v : Value) (b : List UInt8) (s : Int) (a' : Nat) (bad' : Bool) (vN vK : Value) (ns : List ByteArray) (ks : List Tr) (xs : List Value) (G : List Nat) : Prop where
  sr : SR R wr v b a' bad'
  inv : SInv (Y + 1) Y wr s vN vK ns ks xs G
  but : But2 R Y w wr
  low : w.heap.size = Y + 1
  RY : R < Y
  short : ∀ x, x ∈ ns → x.size ≤ 255

theorem SAt.drew {R Y : Nat} {w wr : World} {v : Value} {b : List UInt8} {s : Int} {a' : Nat} {bad' : Bool} {vN vK : Value} {ns : List ByteArray} {ks : List Tr} {xs : List Value} {G : List Nat} (h : SAt R Y w wr v b s a' bad' vN vK ns ks xs G) : SAt R Y w wr.drew v b s a' bad' vN vK ns ks xs G :=
  ⟨h.sr.on (Below.refl _ wr).drew, h.inv.kept ⟨rfl, rfl, rfl, Nat.le_refl _, fun _ _ _ => rfl⟩, h.but.trans (But2.ofR (But.of_below (Below.refl _ wr).drew)), h.low, h.RY, h.short⟩
theorem SAt.alloc {R Y : Nat} {w wr : World} {v : Value} {b : List UInt8} {s : Int} {a' : Nat} {bad' : Bool} {vN vK : Value} {ns : List ByteArray} {ks : List Tr} {xs : List Value} {G : List Nat} (h : SAt R Y w wr v b s a' bad' vN vK ns ks xs G) (o : Obj) : SAt R Y w (wr.alloc o) v b s a' bad' vN vK ns ks xs G :=
  ⟨h.sr.on ((Below.refl _ wr).alloc (Nat.le_refl _) o), h.inv.kept (World.grownBy_alloc wr o none), h.but.trans (But2.ofR (But.alloc R wr o)), h.low, h.RY, h.short⟩
theorem SAt.read {R Y : Nat} {w wr w' : World} {v : Value} {b : List UInt8} {s : Int} {a' a2 : Nat} {bad' bad2 : Bool} {vN vK : Value} {ns : List ByteArray} {ks : List Tr} {xs : List Value} {G : List Nat} (h : SAt R Y w wr v b s a' bad' vN vK ns ks xs G) (hb : But R wr w') (hc : SR R w' v b a2 bad2) : SAt R Y w w' v b s a2 bad2 vN vK ns ks xs G :=
  ⟨hc, h.inv.but hb (by have := h.RY; omega) (by have := h.RY; omega), h.but.trans (But2.ofR hb), h.low, h.RY, h.short⟩

/-- Rows from Y + 1 on, and the box Y, have turned: the reader has not. -/
theorem SAt.rest {R Y : Nat} {w W w6 : World} {v : Value} {b : List UInt8} {s : Int} {a' : Nat} {bad' : Bool} {vN vK : Value} {ns : List ByteArray} {ks : List Tr} {xs : List Value} {G : List Nat} {row : Option Nat} (h : SAt R Y w W v b s a' bad' vN vK ns ks xs G) (hgrow : W.grownBy w6 row) (hrow : ∀ x, row = some x → Y + 1 ≤ x) (o : Nat) (u : Value) :
    SR R (w6.setCell ⟨Y, o, none⟩ u) v b a' bad' ∧ But2 R Y w (w6.setCell ⟨Y, o, none⟩ u) := by
  have hlow := h.low
  have hRY := h.RY
  have hsz2 := h.but.size
  have hset : w6.grownBy (w6.setCell ⟨Y, o, none⟩ u) (some Y) := But.set _ _ _
  refine ⟨⟨?_, ?_, h.sr.own, h.sr.le, h.sr.small⟩, ?_⟩
  · refine (h.sr.cells.of_block (hgrow.block R h.sr.cells.lt (fun e => by have := hrow R e.symm; omega))).of_block (hset.block R ?_ (by simp; omega))
    exact Nat.lt_of_lt_of_le h.sr.cells.lt hgrow.size
  · refine (h.sr.row.of_block (fun x e => hgrow.block x (h.sr.row.own x e).2 (fun e2 => by have := hrow x e2.symm; have := h.sr.own x e; omega))).of_block (fun x e => hset.block x (Nat.lt_of_lt_of_le (h.sr.row.own x e).2 hgrow.size) (by have := h.sr.own x e; simp; omega))
  · refine ⟨hset.os.trans (hgrow.os.trans h.but.os), hset.tape.trans (hgrow.tape.trans h.but.tape), hset.output.trans (hgrow.output.trans h.but.output), Nat.le_trans h.but.size (Nat.le_trans hgrow.size hset.size), fun x hx h1 h2 => ?_⟩
    have hxW : x < W.heap.size := by omega
    exact (hset.block x (Nat.lt_of_lt_of_le hxW hgrow.size) (by simp; omega)).trans ((hgrow.block x hxW (fun e => by have := hrow x e.symm; omega)).trans (h.but.block x hx h1 h2))

/-- A name more. -/
theorem SAt.name {R Y : Nat} {w W w6 : World} {v : Value} {b : List UInt8} {s : Int} {a' : Nat} {bad' : Bool} {vN vK v' : Value} {ns : List ByteArray} {ks : List Tr} {xs : List Value} {G : List Nat} {nm : ByteArray} (h : SAt R Y w W v b s a' bad' vN vK ns ks xs G) (hsz : nm.size ≤ 255)
    (hown : w6.ownsRow (Y + 1) 9 1 v' (ns.length + 1) (ns.map Value.string ++ [.string nm])) (hgrow : W.grownBy w6 vN.ownBlock) (hat : v'.ownBlock = vN.ownBlock ∨ ∃ g, v'.ownBlock = some g ∧ W.heap.size ≤ g) :
    SAt R Y w (w6.setCell ⟨Y, 3, none⟩ v') v b s a' bad' v' vK (ns ++ [nm]) ks xs G := by
  obtain ⟨h1, h2⟩ := h.rest hgrow (fun x e => (h.inv.names.lt x e).1) 3 v'
  refine ⟨h1, SInv.name h.inv hown hgrow hat, h2, h.low, h.RY, fun x hx => ?_⟩
  rcases List.mem_append.1 hx with hx | hx
  · exact h.short x hx
  · simp at hx; rw [hx]; exact hsz

/-- A kid more. -/
theorem SAt.kid {R Y m : Nat} {w W w8 : World} {v : Value} {b : List UInt8} {s : Int} {a' : Nat} {bad' : Bool} {vN vK v' : Value} {ns : List ByteArray} {ks : List Tr} {xs : List Value} {G F : List Nat} {t : Tr} {c : C5} (h : SAt R Y w W v b s a' bad' vN vK ns ks xs G)
    (ht : Own W t c F) (hnd : F.Nodup) (hF : ∀ x, x ∈ F → m ≤ x ∧ x < W.heap.size) (hGm : ∀ x, x ∈ G → x < m) (hvm : ∀ x, vK.ownBlock = some x → x < m) (hnm : ∀ x, vN.ownBlock = some x → x < m) (hbm : Y + 1 ≤ m)
    (hown : w8.ownsRow (Y + 1) 32 5 v' (ks.length + 1) (xs ++ c5l c)) (hgrow : W.grownBy w8 vK.ownBlock) (hat : v'.ownBlock = vK.ownBlock ∨ ∃ g, v'.ownBlock = some g ∧ W.heap.size ≤ g) :
    SAt R Y w (w8.setCell ⟨Y, 4, none⟩ v') v b s a' bad' vN v' ns (ks ++ [t]) (xs ++ c5l c) (G ++ F) := by
  obtain ⟨h1, h2⟩ := h.rest hgrow (fun x e => (h.inv.got.row.lt x e).1) 4 v'
  exact ⟨h1, SInv.kid h.inv ht hnd hF hGm hvm hnm hbm hown hgrow hat, h2, h.low, h.RY, h.short⟩

/-- If the bytes were those of a tree that is ok: what was read of its kids, and what is left. -/
def KidsOk (b : List UInt8) (a0 : Nat) (bad0 : Bool) (s deep : Int) (n0 : Nat) (a' : Nat) (bad' : Bool) (k : Nat) (ns : List ByteArray) (ks : List Tr) : Prop :=
  bad0 = false → ∀ t0 rest, 0 < pT t0 deep → t0.sort = s → t0.kids.length = n0 → b.drop a0 = kidsB (decide (s = 5)) t0.names t0.kids ++ rest →
    bad' = false ∧ ns = t0.names.take k ∧ ks = t0.kids.take k ∧ b.drop a' = kidsB (decide (s = 5)) (t0.names.drop k) (t0.kids.drop k) ++ rest

theorem kidsB_drop {form : Bool} {ns : List ByteArray} {ks : List Tr} {k : Nat} (hk : k < ks.length) : kidsB form (ns.drop k) (ks.drop k) = (if form then shortB (ns.getD k ByteArray.empty) else []) ++ (treeB ks[k] ++ kidsB form (ns.drop (k + 1)) (ks.drop (k + 1))) := by
  rw [List.drop_eq_getElem_cons hk, kidsB]
  have h1 : (ns.drop k).headD ByteArray.empty = ns.getD k ByteArray.empty := by
    by_cases h : k < ns.length
    · rw [List.drop_eq_getElem_cons h]; simp [h]
    · rw [List.drop_eq_nil_of_le (by omega)]; simp; rw [List.getElem?_eq_none (by omega)]; rfl
  rw [h1, List.tail_drop]
end Go.Proofs.YtffdofllebbcgaaDoor

/- What the walks of the program's byteCursor.kids hold: definitions and small laws. No conditions. -/

namespace Go.Proofs.YtffdofllebbcgaaDoor
open Go Go.RowKit

/-- What reading a tree comes to. -/
def UnEnd (R : Nat) (w w' : World) (v : Value) (b : List UInt8) (a : Nat) (res : Option (Tr × List UInt8)) (e : Ending) : Prop :=
  But R w w' ∧ match res with
    | some (t, rest) => ∃ (c : C5) (F : List Nat), e = .returned (.agg #[c.c0, c.c1, c.c2, c.c3, c.c4]) ∧ Own w' t c F ∧ F.Nodup ∧ (∀ x, x ∈ F → w.heap.size ≤ x ∧ x < w'.heap.size) ∧ ∃ a', a < a' ∧ Cu R w' v b a' ∧ rest = b.drop a'
    | none => e = fltE

def UnT (f : Nat) : Prop := ∀ (R : Nat) (w : World) (v : Value) (b : List UInt8) (a : Nat), Cu R w v b a → (b.drop a).length < f →
    Calls Tryd.prog 76 #[.pointer (some ⟨R, 0, none⟩)] w fun e w' => UnEnd R w w' v b a (ptree f (b.drop a)) e

/-- What reading kids comes to. -/
def KdEnd (R Y : Nat) (w w' : World) (v : Value) (b : List UInt8) (a : Nat) (s : Int) (res : Option (List ByteArray × List Tr × List UInt8)) (e : Ending) : Prop :=
  But2 R Y w w' ∧ match res with
    | some (ns, ks, rest) => e = .returned (.tuple #[]) ∧ ∃ vN vK xs G a', SInv (Y + 1) Y w' s vN vK ns ks xs G ∧ (∀ x, x ∈ ns → x.size ≤ 255) ∧ a < a' ∧ Cu R w' v b a' ∧ rest = b.drop a'
    | none => e = fltE
theorem KdEnd.no {R Y : Nat} {w w' : World} {v : Value} {b : List UInt8} {a : Nat} {s : Int} {res : Option (List ByteArray × List Tr × List UInt8)} (h : res = none) (hb : But2 R Y w w') : KdEnd R Y w w' v b a s res fltE := by
  subst h; exact ⟨hb, rfl⟩

theorem infoStr16 : (Tryd.prog.info? 9).map (fun i => (i.zero, i.size, i.bytes)) = some (some (.string ByteArray.empty), 1, 16) := by kernel_rfl
theorem infoTree80 : (Tryd.prog.info? 32).map (fun i => (i.zero, i.size, i.bytes)) = some (some (.agg #[.int .i64 0, .int .i64 0, .string ByteArray.empty, .slice none 0 0, .slice none 0 0]), 5, 80) := by kernel_rfl

/-- What the loop of kids holds. -/
structure KAt (R Y : Nat) (w wr : World) (v : Value) (b : List UInt8) (s : Int) (a' : Nat) (vN vK : Value) (ns : List ByteArray) (ks : List Tr) (xs : List Value) (G : List Nat) : Prop where
  cu : Cu R wr v b a'
  inv : SInv (Y + 1) Y wr s vN vK ns ks xs G
  but : But2 R Y w wr
  low : w.heap.size = Y + 1
  RY : R < Y
  short : ∀ x, x ∈ ns → x.size ≤ 255

theorem drewN_grown1 (w : World) : w.grownBy w.drew none := ⟨rfl, rfl, rfl, Nat.le_refl _, fun _ _ _ => rfl⟩
theorem KAt.drew {R Y : Nat} {w wr : World} {v : Value} {b : List UInt8} {s : Int} {a' : Nat} {vN vK : Value} {ns : List ByteArray} {ks : List Tr} {xs : List Value} {G : List Nat} (h : KAt R Y w wr v b s a' vN vK ns ks xs G) : KAt R Y w wr.drew v b s a' vN vK ns ks xs G :=
  ⟨h.cu.on (Below.refl _ wr).drew, h.inv.kept (drewN_grown1 wr), h.but.trans (But2.ofR (But.of_below (Below.refl _ wr).drew)), h.low, h.RY, h.short⟩
theorem KAt.alloc {R Y : Nat} {w wr : World} {v : Value} {b : List UInt8} {s : Int} {a' : Nat} {vN vK : Value} {ns : List ByteArray} {ks : List Tr} {xs : List Value} {G : List Nat} (h : KAt R Y w wr v b s a' vN vK ns ks xs G) (o : Obj) : KAt R Y w (wr.alloc o) v b s a' vN vK ns ks xs G :=
  ⟨h.cu.on ((Below.refl _ wr).alloc (Nat.le_refl _) o), h.inv.kept (World.grownBy_alloc wr o none), h.but.trans (But2.ofR (But.alloc R wr o)), h.low, h.RY, h.short⟩
theorem KAt.read {R Y : Nat} {w wr w' : World} {v : Value} {b : List UInt8} {s : Int} {a' a2 : Nat} {vN vK : Value} {ns : List ByteArray} {ks : List Tr} {xs : List Value} {G : List Nat} (h : KAt R Y w wr v b s a' vN vK ns ks xs G) (hb : But R wr w') (hc : Cu R w' v b a2) : KAt R Y w w' v b s a2 vN vK ns ks xs G :=
  ⟨hc, h.inv.but hb (by have := h.RY; omega) (by have := h.RY; omega), h.but.trans (But2.ofR hb), h.low, h.RY, h.short⟩

/-- The cells of a zero tree. -/
abbrev zc : C5 := ⟨.int .i64 0, .int .i64 0, .string ⟨#[]⟩, .slice none 0 0, .slice none 0 0⟩

theorem zc_one : ∀ u ∈ c5l zc, u.oneCell' = true := by
  intro u hu
  simp [c5l] at hu
  rcases hu with rfl | rfl | rfl <;> rfl

/-- What is known behind the append of a zero tree. -/
theorem KAt.ready {R Y : Nat} {w W w8 : World} {v : Value} {b : List UInt8} {s : Int} {a' : Nat} {vN : Value} {aK : Option Addr} {k capK g cap2 : Nat} {ns : List ByteArray} {ks : List Tr} {xs : List Value} {G : List Nat} (h : KAt R Y w W v b s a' vN (.slice aK k capK) ns ks xs G)
    (hown : w8.ownsRow (Y + 1) 32 5 (.slice (some ⟨g, 0, none⟩) (k + 1) cap2) (k + 1) (xs ++ c5l zc)) (hgrow : W.grownBy w8 (Value.slice aK k capK).ownBlock) :
    (w8.cell? ⟨g, k * 5, none⟩ = some zc.c0 ∧ w8.cell? ⟨g, k * 5 + 1, none⟩ = some zc.c1 ∧ w8.cell? ⟨g, k * 5 + 2, none⟩ = some zc.c2 ∧ w8.cell? ⟨g, k * 5 + 3, none⟩ = some zc.c3 ∧ w8.cell? ⟨g, k * 5 + 4, none⟩ = some zc.c4) ∧ (∀ j, w8.frozen? ⟨g, j, none⟩ = false) ∧ w8.cell? ⟨Y, 4, none⟩ = some (.slice aK k capK) ∧ w8.frozen? ⟨Y, 4, none⟩ = false ∧ g ≠ Y ∧ Y ≠ g := by
  have hl : xs.length = k * 5 := by have := hown.1; simp [c5l] at this; omega
  have hgb := (hown.lt g rfl).1
  have hcell : ∀ i, (hi : i < 5) → w8.cell? ⟨g, k * 5 + i, none⟩ = (c5l zc)[i]? := fun i hi => by
    have hj : (xs ++ c5l zc)[k * 5 + i]? = (c5l zc)[i]? := by
      rw [List.getElem?_append_right (by omega), show k * 5 + i - xs.length = i from by omega]
    have hs : ∃ u, (c5l zc)[i]? = some u := ⟨(c5l zc)[i]'(by simp [c5l]; omega), List.getElem?_eq_getElem (by simp [c5l]; omega)⟩
    obtain ⟨u, hu⟩ := hs
    rw [hu]
    have := hown.cells (g := g) rfl (k * 5 + i) u (by rw [hj]; exact hu)
    rw [Addr.add_lit, Nat.zero_add] at this
    exact this
  have hrow : w8.rowIs Y 32 5 (row5 (.int .i64 s) (.int .i64 0) (.string ⟨#[]⟩) vN (.slice aK k capK)) :=
    h.inv.cells.of_block (hgrow.block Y h.inv.cells.lt (fun e => by have := (h.inv.got.row.lt Y e.symm).1; omega))
  refine ⟨⟨by have := hcell 0 (by omega); rw [Nat.add_zero] at this; exact this, hcell 1 (by omega), hcell 2 (by omega), hcell 3 (by omega), hcell 4 (by omega)⟩, fun j => ?_, hrow.cell (i := 4) (by omega), hrow.frozen 4, by omega, by omega⟩
  rcases hown.2 with ⟨hv, _⟩ | ⟨g', cap', cur, hv, _, hh, _⟩
  · simp at hv
  · simp only [Value.slice.injEq, Option.some.injEq, Addr.mk.injEq, and_true] at hv
    obtain ⟨rfl, -⟩ := hv
    simp [World.frozen?, hh]

/-- A kid more. -/
theorem KAt.push {R Y m : Nat} {w W w8 : World} {v : Value} {b : List UInt8} {s : Int} {a' : Nat} {vN : Value} {aK : Option Addr} {k capK g cap2 : Nat} {ns : List ByteArray} {ks : List Tr} {xs : List Value} {G F : List Nat} {t : Tr} {c : C5} (h : KAt R Y w W v b s a' vN (.slice aK k capK) ns ks xs G) (hks : k = ks.length)
    (ht : Own W t c F) (hnd : F.Nodup) (hF : ∀ x, x ∈ F → m ≤ x ∧ x < W.heap.size) (hGm : ∀ x, x ∈ G → x < m) (hvm : ∀ x, (Value.slice aK k capK).ownBlock = some x → x < m) (hnm : ∀ x, vN.ownBlock = some x → x < m) (hbm : Y + 1 ≤ m)
    (hown : w8.ownsRow (Y + 1) 32 5 (.slice (some ⟨g, 0, none⟩) (k + 1) cap2) (k + 1) (xs ++ c5l zc)) (hgrow : W.grownBy w8 (Value.slice aK k capK).ownBlock) (hat : (Value.slice aK k capK).ownBlock = some g ∨ g = W.heap.size) :
    KAt R Y w ((lay5 w8 g (k * 5) c).setCell ⟨Y, 4, none⟩ (.slice (some ⟨g, 0, none⟩) (k + 1) cap2)) v b s a' vN (.slice (some ⟨g, 0, none⟩) (k + 1) cap2) ns (ks ++ [t]) (xs ++ c5l c) (G ++ F) := by
  have hg2 := grown_lay5 (o := k * 5) (c := c) hgrow (by rcases hat with h1 | h1; exact Or.inl h1; exact Or.inr (by omega))
  have hinv := SInv.kid h.inv ht hnd hF hGm hvm hnm hbm (by rw [← hks]; exact own_last hown c) hg2 (by
    rcases hat with h1 | h1
    · exact Or.inl (by rw [h1]; rfl)
    · exact Or.inr ⟨g, rfl, by omega⟩)
  have hlow := h.low
  have hRY := h.RY
  have hsz := h.but.size
  have hrowR : ∀ x, (Value.slice aK k capK).ownBlock = some x → Y + 1 ≤ x := fun x e => (h.inv.got.row.lt x e).1
  have hset : (lay5 w8 g (k * 5) c).grownBy ((lay5 w8 g (k * 5) c).setCell ⟨Y, 4, none⟩ (.slice (some ⟨g, 0, none⟩) (k + 1) cap2)) (some Y) := But.set _ _ _
  refine ⟨⟨?_, ?_, h.cu.own, h.cu.le, h.cu.small⟩, hinv, ?_, hlow, hRY, h.short⟩
  · refine (h.cu.cells.of_block (hg2.block R h.cu.cells.lt (fun e => by have := hrowR R e.symm; omega))).of_block (hset.block R ?_ (by simp; omega))
    exact Nat.lt_of_lt_of_le h.cu.cells.lt hg2.size
  · refine (h.cu.row.of_block (fun x e => hg2.block x (h.cu.row.own x e).2 (fun e2 => by have := hrowR x e2.symm; have := h.cu.own x e; omega))).of_block (fun x e => hset.block x (Nat.lt_of_lt_of_le (h.cu.row.own x e).2 hg2.size) (by have := h.cu.own x e; simp; omega))
  · refine ⟨hset.os.trans (hg2.os.trans h.but.os), hset.tape.trans (hg2.tape.trans h.but.tape), hset.output.trans (hg2.output.trans h.but.output), Nat.le_trans h.but.size (Nat.le_trans hg2.size hset.size), fun x hx h1 h2 => ?_⟩
    have hxW : x < W.heap.size := by omega
    exact (hset.block x (Nat.lt_of_lt_of_le hxW hg2.size) (by simp; omega)).trans ((hg2.block x hxW (fun e => by have := hrowR x e.symm; omega)).trans (h.but.block x hx h1 h2))

theorem lay5_comm (w : World) {g Y o : Nat} (c : C5) (u : Value) (h : g ≠ Y) : (lay5 w g o c).setCell ⟨Y, 4, none⟩ u = lay5 (w.setCell ⟨Y, 4, none⟩ u) g o c := by
  unfold lay5
  have e : ∀ (W : World) (j : Nat) (x : Value), (W.setCell ⟨g, j, none⟩ x).setCell ⟨Y, 4, none⟩ u = (W.setCell ⟨Y, 4, none⟩ u).setCell ⟨g, j, none⟩ x := fun W j x => setCell_comm W x u h
  rw [e, e, e, e, e]

/-- A name more. -/
theorem KAt.name {R Y : Nat} {w W w6 : World} {v : Value} {b : List UInt8} {s : Int} {a' : Nat} {vN vK v' : Value} {ns : List ByteArray} {ks : List Tr} {xs : List Value} {G : List Nat} {nm : ByteArray} (h : KAt R Y w W v b s a' vN vK ns ks xs G) (hsz : nm.size ≤ 255)
    (hown : w6.ownsRow (Y + 1) 9 1 v' (ns.length + 1) (ns.map Value.string ++ [.string nm])) (hgrow : W.grownBy w6 vN.ownBlock) (hat : v'.ownBlock = vN.ownBlock ∨ ∃ g, v'.ownBlock = some g ∧ W.heap.size ≤ g) :
    KAt R Y w (w6.setCell ⟨Y, 3, none⟩ v') v b s a' v' vK (ns ++ [nm]) ks xs G := by
  have hinv := SInv.name h.inv hown hgrow hat
  have hlow := h.low
  have hRY := h.RY
  have hsz2 := h.but.size
  have hrowR : ∀ x, vN.ownBlock = some x → Y + 1 ≤ x := fun x e => (h.inv.names.lt x e).1
  have hset : w6.grownBy (w6.setCell ⟨Y, 3, none⟩ v') (some Y) := But.set _ _ _
  refine ⟨⟨?_, ?_, h.cu.own, h.cu.le, h.cu.small⟩, hinv, ?_, hlow, hRY, fun x hx => ?_⟩
  · refine (h.cu.cells.of_block (hgrow.block R h.cu.cells.lt (fun e => by have := hrowR R e.symm; omega))).of_block (hset.block R ?_ (by simp; omega))
    exact Nat.lt_of_lt_of_le h.cu.cells.lt hgrow.size
  · refine (h.cu.row.of_block (fun x e => hgrow.block x (h.cu.row.own x e).2 (fun e2 => by have := hrowR x e2.symm; have := h.cu.own x e; omega))).of_block (fun x e => hset.block x (Nat.lt_of_lt_of_le (h.cu.row.own x e).2 hgrow.size) (by have := h.cu.own x e; simp; omega))
  · refine ⟨hset.os.trans (hgrow.os.trans h.but.os), hset.tape.trans (hgrow.tape.trans h.but.tape), hset.output.trans (hgrow.output.trans h.but.output), Nat.le_trans h.but.size (Nat.le_trans hgrow.size hset.size), fun x hx h1 h2 => ?_⟩
    have hxW : x < W.heap.size := by omega
    exact (hset.block x (Nat.lt_of_lt_of_le hxW hgrow.size) (by simp; omega)).trans ((hgrow.block x hxW (fun e => by have := hrowR x e.symm; omega)).trans (h.but.block x hx h1 h2))
  · rcases List.mem_append.1 hx with hx | hx
    · exact h.short x hx
    · simp at hx; rw [hx]; exact hsz
end Go.Proofs.YtffdofllebbcgaaDoor
