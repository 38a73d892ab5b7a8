/- What the walk of the specification's l4Reader.tree holds: definitions and small laws. No conditions. -/
import Derived.Test.YtiflfcjocngiiaaGreatDoorPart29
import Derived.Test.YtiflfcjocngiiaaGreatDoorPart07
import Derived.Test.YtiflfcjocngiiaaGreatDoorPart10
namespace Go.Proofs.YtiflfcjocngiiaaGreatDoor
open Go Go.RowKit

/-- What the specification's reader of trees comes to: some tree in memory of its own; where the bytes are those of a tree that is ok, just that. -/
def STEnd (R : Nat) (w w' : World) (v : Value) (b : List UInt8) (a : Nat) (bad : Bool) (deep : Int) (e : Ending) : Prop :=
  ∃ (t : Tr) (c : C5) (F : List Nat) (a' : Nat) (bad' : Bool), e = .returned (.agg #[c.c0, c.c1, c.c2, c.c3, c.c4]) ∧ Own w' t c F ∧ F.Nodup ∧ (∀ x, x ∈ F → w.heap.size ≤ x ∧ x < w'.heap.size) ∧ SR R w' v b a' bad' ∧ But R w w' ∧
    (bad = false → ∀ t0 rest, 0 < pT t0 deep → b.drop a = treeB t0 ++ rest → t = t0 ∧ bad' = false ∧ b.drop a' = rest)

/-- What the loop over kids holds. -/
structure SAt (R Y : Nat) (w wr : World) (v : Value) (b : List UInt8) (s : Int) (a' : Nat) (bad' : Bool) (vN vK : Value) (ns : List ByteArray) (ks : List Tr) (xs : List Value) (G : List Nat) : Prop where
  sr : SR R wr v b a' bad'
  inv : SInv (Y + 1) Y wr s vN vK ns ks xs G
  but : But2 R Y w wr
  low : w.heap.size = Y + 1
  RY : R < Y
  short : ∀ x, x ∈ ns → x.size ≤ 255

theorem SAt.drew {R Y : Nat} {w wr : World} {v : Value} {b : List UInt8} {s : Int} {a' : Nat} {bad' : Bool} {vN vK : Value} {ns : List ByteArray} {ks : List Tr} {xs : List Value} {G : List Nat} (h : SAt R Y w wr v b s a' bad' vN vK ns ks xs G) : SAt R Y w wr.drew v b s a' bad' vN vK ns ks xs G :=
  ⟨h.sr.on (Below.refl _ wr).drew, h.inv.kept ⟨rfl, rfl, rfl, Nat.le_refl _, fun _ _ _ => rfl⟩, h.but.trans (But2.ofR (But.of_below (Below.refl _ wr).drew)), h.low, h.RY, h.short⟩
theorem SAt.alloc {R Y : Nat} {w wr : World} {v : Value} {b : List UInt8} {s : Int} {a' : Nat} {bad' : Bool} {vN vK : Value} {ns : List ByteArray} {ks : List Tr} {xs : List Value} {G : List Nat} (h : SAt R Y w wr v b s a' bad' vN vK ns ks xs G) (o : Obj) : SAt R Y w (wr.alloc o) v b s a' bad' vN vK ns ks xs G :=
  ⟨h.sr.on ((Below.refl _ wr).alloc (Nat.le_refl _) o), h.inv.kept (World.grownBy_alloc wr o none), h.but.trans (But2.ofR (But.alloc R wr o)), h.low, h.RY, h.short⟩
theorem SAt.read {R Y : Nat} {w wr w' : World} {v : Value} {b : List UInt8} {s : Int} {a' a2 : Nat} {bad' bad2 : Bool} {vN vK : Value} {ns : List ByteArray} {ks : List Tr} {xs : List Value} {G : List Nat} (h : SAt R Y w wr v b s a' bad' vN vK ns ks xs G) (hb : But R wr w') (hc : SR R w' v b a2 bad2) : SAt R Y w w' v b s a2 bad2 vN vK ns ks xs G :=
  ⟨hc, h.inv.but hb (by have := h.RY; omega) (by have := h.RY; omega), h.but.trans (But2.ofR hb), h.low, h.RY, h.short⟩

/-- Rows from Y + 1 on, and the box Y, have turned: the reader has not. -/
theorem SAt.rest {R Y : Nat} {w W w6 : World} {v : Value} {b : List UInt8} {s : Int} {a' : Nat} {bad' : Bool} {vN vK : Value} {ns : List ByteArray} {ks : List Tr} {xs : List Value} {G : List Nat} {row : Option Nat} (h : SAt R Y w W v b s a' bad' vN vK ns ks xs G) (hgrow : W.grownBy w6 row) (hrow : ∀ x, row = some x → Y + 1 ≤ x) (o : Nat) (u : Value) :
    SR R (w6.setCell ⟨Y, o, none⟩ u) v b a' bad' ∧ But2 R Y w (w6.setCell ⟨Y, o, none⟩ u) := by
  have hlow := h.low
  have hRY := h.RY
  have hsz2 := h.but.size
  have hset : w6.grownBy (w6.setCell ⟨Y, o, none⟩ u) (some Y) := But.set _ _ _
  refine ⟨⟨?_, ?_, h.sr.own, h.sr.le, h.sr.small⟩, ?_⟩
  · refine (h.sr.cells.of_block (hgrow.block R h.sr.cells.lt (fun e => by have := hrow R e.symm; omega))).of_block (hset.block R ?_ (by simp; omega))
    exact Nat.lt_of_lt_of_le h.sr.cells.lt hgrow.size
  · refine (h.sr.row.of_block (fun x e => hgrow.block x (h.sr.row.own x e).2 (fun e2 => by have := hrow x e2.symm; have := h.sr.own x e; omega))).of_block (fun x e => hset.block x (Nat.lt_of_lt_of_le (h.sr.row.own x e).2 hgrow.size) (by have := h.sr.own x e; simp; omega))
  · refine ⟨hset.os.trans (hgrow.os.trans h.but.os), hset.tape.trans (hgrow.tape.trans h.but.tape), hset.output.trans (hgrow.output.trans h.but.output), Nat.le_trans h.but.size (Nat.le_trans hgrow.size hset.size), fun x hx h1 h2 => ?_⟩
    have hxW : x < W.heap.size := by omega
    exact (hset.block x (Nat.lt_of_lt_of_le hxW hgrow.size) (by simp; omega)).trans ((hgrow.block x hxW (fun e => by have := hrow x e.symm; omega)).trans (h.but.block x hx h1 h2))

/-- A name more. -/
theorem SAt.name {R Y : Nat} {w W w6 : World} {v : Value} {b : List UInt8} {s : Int} {a' : Nat} {bad' : Bool} {vN vK v' : Value} {ns : List ByteArray} {ks : List Tr} {xs : List Value} {G : List Nat} {nm : ByteArray} (h : SAt R Y w W v b s a' bad' vN vK ns ks xs G) (hsz : nm.size ≤ 255)
    (hown : w6.ownsRow (Y + 1) 9 1 v' (ns.length + 1) (ns.map Value.string ++ [.string nm])) (hgrow : W.grownBy w6 vN.ownBlock) (hat : v'.ownBlock = vN.ownBlock ∨ ∃ g, v'.ownBlock = some g ∧ W.heap.size ≤ g) :
    SAt R Y w (w6.setCell ⟨Y, 3, none⟩ v') v b s a' bad' v' vK (ns ++ [nm]) ks xs G := by
  obtain ⟨h1, h2⟩ := h.rest hgrow (fun x e => (h.inv.names.lt x e).1) 3 v'
  refine ⟨h1, SInv.name h.inv hown hgrow hat, h2, h.low, h.RY, fun x hx => ?_⟩
  rcases List.mem_append.1 hx with hx | hx
  · exact h.short x hx
  · simp at hx; rw [hx]; exact hsz

/-- A kid more. -/
theorem SAt.kid {R Y m : Nat} {w W w8 : World} {v : Value} {b : List UInt8} {s : Int} {a' : Nat} {bad' : Bool} {vN vK v' : Value} {ns : List ByteArray} {ks : List Tr} {xs : List Value} {G F : List Nat} {t : Tr} {c : C5} (h : SAt R Y w W v b s a' bad' vN vK ns ks xs G)
    (ht : Own W t c F) (hnd : F.Nodup) (hF : ∀ x, x ∈ F → m ≤ x ∧ x < W.heap.size) (hGm : ∀ x, x ∈ G → x < m) (hvm : ∀ x, vK.ownBlock = some x → x < m) (hnm : ∀ x, vN.ownBlock = some x → x < m) (hbm : Y + 1 ≤ m)
    (hown : w8.ownsRow (Y + 1) 39 5 v' (ks.length + 1) (xs ++ c5l c)) (hgrow : W.grownBy w8 vK.ownBlock) (hat : v'.ownBlock = vK.ownBlock ∨ ∃ g, v'.ownBlock = some g ∧ W.heap.size ≤ g) :
    SAt R Y w (w8.setCell ⟨Y, 4, none⟩ v') v b s a' bad' vN v' ns (ks ++ [t]) (xs ++ c5l c) (G ++ F) := by
  obtain ⟨h1, h2⟩ := h.rest hgrow (fun x e => (h.inv.got.row.lt x e).1) 4 v'
  exact ⟨h1, SInv.kid h.inv ht hnd hF hGm hvm hnm hbm hown hgrow hat, h2, h.low, h.RY, h.short⟩

/-- If the bytes were those of a tree that is ok: what was read of its kids, and what is left. -/
def KidsOk (b : List UInt8) (a0 : Nat) (bad0 : Bool) (s deep : Int) (n0 : Nat) (a' : Nat) (bad' : Bool) (k : Nat) (ns : List ByteArray) (ks : List Tr) : Prop :=
  bad0 = false → ∀ t0 rest, 0 < pT t0 deep → t0.sort = s → t0.kids.length = n0 → b.drop a0 = kidsB (decide (s = 5)) t0.names t0.kids ++ rest →
    bad' = false ∧ ns = t0.names.take k ∧ ks = t0.kids.take k ∧ b.drop a' = kidsB (decide (s = 5)) (t0.names.drop k) (t0.kids.drop k) ++ rest

theorem kidsB_drop {form : Bool} {ns : List ByteArray} {ks : List Tr} {k : Nat} (hk : k < ks.length) : kidsB form (ns.drop k) (ks.drop k) = (if form then shortB (ns.getD k ByteArray.empty) else []) ++ (treeB ks[k] ++ kidsB form (ns.drop (k + 1)) (ks.drop (k + 1))) := by
  rw [List.drop_eq_getElem_cons hk, kidsB]
  have h1 : (ns.drop k).headD ByteArray.empty = ns.getD k ByteArray.empty := by
    by_cases h : k < ns.length
    · rw [List.drop_eq_getElem_cons h]; simp [h]
    · rw [List.drop_eq_nil_of_le (by omega)]; simp; rw [List.getElem?_eq_none (by omega)]; rfl
  rw [h1, List.tail_drop]
end Go.Proofs.YtiflfcjocngiiaaGreatDoor

/- The walk of the specification's l4Reader.tree where no kids are read: it stops at once, or a number, a text, a yes or no. No conditions. -/

namespace Go.Proofs.YtiflfcjocngiiaaGreatDoor
open Go Go.RowKit

theorem SR.set {R X : Nat} {w : World} {v : Value} {b : List UInt8} {a : Nat} {bad : Bool} (h : SR R w v b a bad) (hX : R < X) (o : Nat) (u : Value) : SR R (w.setCell ⟨X, o, none⟩ u) v b a bad :=
  ⟨h.cells.of_block (Below.heap_setCell _ _ _ _ (by simp; omega)), h.row.of_block (fun g e => Below.heap_setCell _ _ _ _ (by have := h.own g e; simp; omega)), h.own, h.le, h.small⟩

theorem TwoB.startS {R a : Nat} {w w1 : World} {v : Value} {b : List UInt8} {bad : Bool} (h : SR R w v b a bad) (hb : But R (w.alloc (.cells #[.int .i64 0, .int .i64 0, .string ⟨#[]⟩, .slice none 0 0, .slice none 0 0] 39)) w1) (x : Int) :
    TwoB R w.heap.size w1.heap.size w (w1.alloc (.cells #[.int .i64 x, .int .i64 0, .string ⟨#[]⟩, .slice none 0 0, .slice none 0 0] 39)) ⟨.int .i64 x, .int .i64 0, .string ⟨#[]⟩, .slice none 0 0, .slice none 0 0⟩ := by
  have hR := h.cells.lt
  have hs := hb.size
  rw [World.size_alloc] at hs
  refine ⟨((But.alloc R w _).trans hb).trans (But.alloc R w1 _), ?_, row5_alloc w1 _ _ _ _ _ _, ⟨Nat.le_refl _, by omega⟩, hR⟩
  exact ((row5_alloc w (.int .i64 0) (.int .i64 0) (.string ⟨#[]⟩) (.slice none 0 0) (.slice none 0 0) 39).of_block (hb.at (by simp) (by omega))).alloc _

theorem pT_deep {t : Tr} {d : Int} (h : 0 < pT t d) : d ≤ 6 := by
  rw [pT_eq] at h
  split at h
  · omega
  · rename_i hh; omega

set_option maxRecDepth 100000 in
set_option maxHeartbeats 3200000 in
theorem treeS_stop (R : Nat) (w : World) (v : Value) (b : List UInt8) (a : Nat) (bad : Bool) (deep : Int) (h : SR R w v b a bad) (hd : 0 ≤ deep ∧ deep ≤ 7) (hst : bad = true ∨ 6 < deep ∨ b.length ≤ a) :
    Calls Tryz.prog 21 #[.pointer (some ⟨R, 0, none⟩), .int .i64 deep] w fun e w' => STEnd R w w' v b a bad deep e := by
  have HN := hide (fun o => one_any R (w.alloc o) v b a bad (h.on ((Below.refl _ w).alloc (Nat.le_refl _) o)))
  have HTB := hide (fun w1 hb x => TwoB.startS (w1 := w1) h hb x)
  have hfin : bad = false → ∀ t0 rest, 0 < pT t0 deep → b.drop a = treeB t0 ++ rest → False := fun hb t0 rest hp hdr => by
    have := pT_deep hp
    rcases hst with h1 | h1 | h1
    · rw [hb] at h1; cases h1
    · omega
    · rw [List.drop_eq_nil_of_le h1, treeB_eq] at hdr; cases hdr
  have HFIN := hide hfin
  clear h hfin
  go_enter Tryz.func21, Tryz.ntmps21
  go_wp2_with fail
  refine (unhide HN _).mono ?_
  rintro e w1 ⟨x, a1, bad1, rfl, hx, HS1, HB1, HC1⟩
  have hstop : bad1 = true ∨ 6 < deep := by
    rcases HC1.out with ⟨l, e1, e2, e3, -⟩ | ⟨e1, -, e3, -⟩
    · rcases hst with h1 | h1 | h1
      · exact Or.inl (by rw [e3]; exact h1)
      · exact Or.inr h1
      · rw [List.drop_eq_nil_of_le h1] at e1; cases e1
    · exact Or.inl e3
  have hT := unhide HTB w1 HB1.out (x : Int)
  have hS2 : ∀ o, SR R (w1.alloc o) v b a1 bad1 := fun o => HS1.out.on ((Below.refl _ w1).alloc (Nat.le_refl _) o)
  have k2 : ∀ o, (w1.alloc o).cell? ⟨R, 2, none⟩ = some (.bool bad1) := fun o => (hS2 o).cells.cell (i := 2) (by omega)
  have p0 := hT.rX.cell (i := 0) (by omega); have p1 := hT.rX.cell (i := 1) (by omega); have p2 := hT.rX.cell (i := 2) (by omega); have p3 := hT.rX.cell (i := 3) (by omega); have p4 := hT.rX.cell (i := 4) (by omega); have pf := hT.rX.frozen
  have q0 := hT.rY.cell (i := 0) (by omega); have q1 := hT.rY.cell (i := 1) (by omega); have q2 := hT.rY.cell (i := 2) (by omega); have q3 := hT.rY.cell (i := 3) (by omega); have q4 := hT.rY.cell (i := 4) (by omega); have qf := hT.rY.frozen
  simp only [row5] at p0 p1 p2 p3 p4 q0 q1 q2 q3 q4
  have f2 := (hS2 (.cells #[.int .i64 (x : Int), .int .i64 0, .string ⟨#[]⟩, .slice none 0 0, .slice none 0 0] 39)).cells.frozen 2
  have hlt := hT.lt
  have hR := hT.hR
  have hne : w.heap.size ≠ w1.heap.size := by omega
  have hne2 : w1.heap.size ≠ w.heap.size := by omega
  have hn3 : R ≠ w.heap.size := by omega
  have hn4 : w.heap.size ≠ R := by omega
  have hn5 : R ≠ w1.heap.size := by omega
  have hn6 : w1.heap.size ≠ R := by omega
  have HT := hide hT; have HS2 := hide (hS2 (.cells #[.int .i64 (x : Int), .int .i64 0, .string ⟨#[]⟩, .slice none 0 0, .slice none 0 0] 39))
  have k2 := k2 (.cells #[.int .i64 (x : Int), .int .i64 0, .string ⟨#[]⟩, .slice none 0 0, .slice none 0 0] 39)
  clear hT hS2 HTB HN HS1 HB1 HC1
  have hend : ∀ c0 c1 c2 c3 c4 : Value, STEnd R w (((((((w1.alloc (.cells #[.int .i64 (x : Int), .int .i64 0, .string ⟨#[]⟩, .slice none 0 0, .slice none 0 0] 39)).setCell ⟨R, 2, none⟩ (.bool true)).setCell ⟨w.heap.size, 0, none⟩ c0).setCell ⟨w.heap.size, 1, none⟩ c1).setCell ⟨w.heap.size, 2, none⟩ c2).setCell ⟨w.heap.size, 3, none⟩ c3).setCell ⟨w.heap.size, 4, none⟩ c4) v b a bad deep (.returned (.agg #[.int .i64 (x : Int), .int .i64 0, .string ⟨#[]⟩, .slice none 0 0, .slice none 0 0])) := fun c0 c1 c2 c3 c4 => by
    refine ⟨_, ⟨_, _, _, _, _⟩, [], a1, true, rfl, own_leaf _ x 0 ByteArray.empty ⟨by omega, by omega⟩ ⟨by decide, by decide⟩ (by decide), List.nodup_nil, (fun y hy => by cases hy), ?_, ?_, fun hb t0 rest hp hdr => (unhide HFIN hb t0 rest hp hdr).elim⟩
    · repeat refine SR.set ?_ (by omega) _ _
      exact (unhide HS2).but (But.set _ _ _) (row3_pk2 (unhide HS2).cells _) (unhide HS2).le
    · repeat refine but_set ?_ (by omega) _ _
      exact (unhide HT).but.trans (But.set _ _ _)
  have HEND := hide hend
  clear hend
  cases bad1 with
  | true =>
    go_wp2_with fail
    refine bodyPost_ret (v := .agg #[.int .i64 (x : Int), .int .i64 0, .string ⟨#[]⟩, .slice none 0 0, .slice none 0 0]) (by simp [results, Tryz.results21, go_sem, p0, p1, p2, p3, p4]) rfl ?_
    exact unhide HEND _ _ _ _ _
  | false =>
    have hd6 : decide (6 < deep) = true := by
      rcases hstop with h1 | h1
      · cases h1
      · simpa using h1
    go_wp2_with fail
    refine bodyPost_ret (v := .agg #[.int .i64 (x : Int), .int .i64 0, .string ⟨#[]⟩, .slice none 0 0, .slice none 0 0]) (by simp [results, Tryz.results21, go_sem, p0, p1, p2, p3, p4]) rfl ?_
    exact unhide HEND _ _ _ _ _
theorem tree_head {b : List UInt8} {a : Nat} (hlt : a < b.length) {t0 : Tr} {rest : List UInt8} {d : Int} (hp : 0 < pT t0 d) (hdr : b.drop a = treeB t0 ++ rest) :
    (b[a].toNat : Int) = t0.sort ∧ b.drop (a + 1) = (if t0.sort = 1 then numB t0.num else if t0.sort = 2 then shortB t0.text else if t0.sort = 3 then [UInt8.ofNat t0.num.toNat] else UInt8.ofNat t0.kids.length :: kidsB (decide (t0.sort = 5)) t0.names t0.kids) ++ rest := by
  rw [List.drop_eq_getElem_cons hlt, treeB_eq, List.cons_append] at hdr
  simp only [List.cons.injEq] at hdr
  refine ⟨?_, hdr.2⟩
  have := ok_sort hp
  rw [hdr.1]; simp; omega

theorem tr_eta (t : Tr) : t = .mk t.sort t.num t.text t.names t.kids := by cases t; rfl

/-- The specification's short, whatever comes. -/
theorem short_any (R : Nat) (w : World) (v : Value) (b : List UInt8) (a : Nat) (bad : Bool) (h : SR R w v b a bad) :
    Calls Tryz.prog 9 #[.pointer (some ⟨R, 0, none⟩)] w fun e w' => ∃ (s : ByteArray) (a1 : Nat) (bad1 : Bool), e = .returned (.string s) ∧ s.size ≤ 255 ∧ Hid (SR R w' v b a1 bad1) ∧ Hid (But R w w') ∧ Hid (bad = false → ∀ (s0 : ByteArray) rest, s0.size < 256 → b.drop a = shortB s0 ++ rest → s = s0 ∧ bad1 = false ∧ b.drop a1 = rest) := by
  cases hp : ptx (b.drop a) with
  | none =>
    refine (short_no R w v b a bad h hp).mono ?_
    rintro e w' ⟨⟨s, rfl, hs⟩, ⟨a1, h1⟩, h2⟩
    refine ⟨s, a1, true, rfl, hs, h1, h2, fun _ s0 rest h0 hd => ?_⟩
    rw [hd, ptx_done s0 rest h0] at hp; cases hp
  | some y =>
    obtain ⟨s, r⟩ := y
    refine (short_yes R w v b a bad s r h hp).mono ?_
    rintro e w' ⟨rfl, ⟨a1, -, h1, hr⟩, h2⟩
    refine ⟨s, a1, bad, rfl, by have := (ptx_sound hp).2; omega, h1, h2, fun hb s0 rest h0 hd => ?_⟩
    rw [hd, ptx_done s0 rest h0] at hp
    simp only [Option.some.injEq, Prod.mk.injEq] at hp
    exact ⟨hp.1.symm, hb, by rw [← hr]; exact hp.2.symm⟩

set_option maxRecDepth 100000 in
set_option maxHeartbeats 3200000 in
theorem treeS_num (R : Nat) (w : World) (v : Value) (b : List UInt8) (a : Nat) (deep : Int) (h : SR R w v b a false) (hd : 0 ≤ deep ∧ deep ≤ 6) (hlt : a < b.length) (hx : b[a].toNat = 1) :
    Calls Tryz.prog 21 #[.pointer (some ⟨R, 0, none⟩), .int .i64 deep] w fun e w' => STEnd R w w' v b a false deep e := by
  have hN := fun o => one_yes R (w.alloc o) v b a false (h.on ((Below.refl _ w).alloc (Nat.le_refl _) o)) hlt
  have hhd := fun t0 rest (hp : 0 < pT t0 deep) hdr => tree_head (t0 := t0) (rest := rest) hlt hp hdr
  rw [hx] at hN hhd
  have HN := hide hN; have HHD := hide hhd
  have HTB := hide (fun w1 hb => TwoB.startS (w1 := w1) h hb 1)
  have HNU := hide (fun (W : World) (hW : SR R W v b (a + 1) false) => numS_any R W v b (a + 1) false hW)
  have hd6 : decide (6 < deep) = false := by simp; omega
  clear h hN hhd hx
  go_enter Tryz.func21, Tryz.ntmps21
  go_wp2_with fail
  refine (unhide HN _).mono ?_
  rintro e w1 ⟨rfl, hS1, hb1⟩
  have hT1 := unhide HTB w1 hb1
  have hS2 : ∀ o, SR R (w1.alloc o) v b (a + 1) false := fun o => hS1.on ((Below.refl _ w1).alloc (Nat.le_refl _) o)
  have k2 := (hS2 (.cells #[.int .i64 1, .int .i64 0, .string ⟨#[]⟩, .slice none 0 0, .slice none 0 0] 39)).cells.cell (i := 2) (by omega)
  simp only [row3] at k2
  have HN1 := hide (unhide HNU _ (hS2 (.cells #[.int .i64 1, .int .i64 0, .string ⟨#[]⟩, .slice none 0 0, .slice none 0 0] 39)))
  have HT1 := hide hT1
  clear hS1 hb1 HN HTB HNU hT1 hS2
  go_wp2_with fail
  refine (unhide HN1).mono ?_
  rintro e w2 ⟨u, a2, bad2, rfl, hu, hs2, hb2, hf2⟩
  have hT2 := (unhide HT1).on hb2
  have p0 := hT2.rX.cell (i := 0) (by omega); have p1 := hT2.rX.cell (i := 1) (by omega); have p2 := hT2.rX.cell (i := 2) (by omega); have p3 := hT2.rX.cell (i := 3) (by omega); have p4 := hT2.rX.cell (i := 4) (by omega); have pf := hT2.rX.frozen
  have q0 := hT2.rY.cell (i := 0) (by omega); have q1 := hT2.rY.cell (i := 1) (by omega); have q2 := hT2.rY.cell (i := 2) (by omega); have q3 := hT2.rY.cell (i := 3) (by omega); have q4 := hT2.rY.cell (i := 4) (by omega); have qf := hT2.rY.frozen
  simp only [row5] at p0 p1 p2 p3 p4 q0 q1 q2 q3 q4
  have hne : w.heap.size ≠ w1.heap.size := by have := hT2.lt; omega
  have hne2 : w1.heap.size ≠ w.heap.size := by omega
  have HT2 := hide hT2; have HS2 := hide hs2; have HF2 := hide hf2
  clear hT2 HT1 HN1 hs2 hb2 hf2
  go_wp2_with fail
  refine bodyPost_ret (v := .agg #[.int .i64 1, .int .i64 u, .string ⟨#[]⟩, .slice none 0 0, .slice none 0 0]) (by simp [results, Tryz.results21, go_sem, p0, p1, p2, p3, p4]) rfl ?_
  have hlt2 := (unhide HT2).lt
  have hR2 := (unhide HT2).hR
  refine ⟨_, ⟨_, _, _, _, _⟩, [], a2, bad2, rfl, own_leaf _ 1 u ByteArray.empty ⟨by decide, by decide⟩ hu (by decide), List.nodup_nil, (fun y hy => by cases hy), ?_, ?_, fun _ t0 rest hp hdr => ?_⟩
  · repeat refine SR.set ?_ (by omega) _ _
    exact unhide HS2
  · repeat refine but_set ?_ (by omega) _ _
    exact (unhide HT2).but
  · obtain ⟨h1, h2⟩ := unhide HHD t0 rest hp hdr
    have hs : t0.sort = 1 := by rw [← h1]; rfl
    obtain ⟨b1, b2, b3, b4⟩ := ok_bare hp
    have b3 := b3 (by omega); have b4 := b4 (by omega)
    rw [hs] at h2
    simp only [Int.reduceEq, if_true, if_false] at h2
    have hb := ok_num hp hs
    obtain ⟨g1, g2, g3⟩ := unhide HF2 (by first | rfl | trivial) t0.num rest (by omega) h2
    refine ⟨?_, g2, g3⟩
    rw [tr_eta t0, hs, b1 (by omega), b3, b4, g1]

set_option maxRecDepth 100000 in
set_option maxHeartbeats 3200000 in
theorem treeS_text (R : Nat) (w : World) (v : Value) (b : List UInt8) (a : Nat) (deep : Int) (h : SR R w v b a false) (hd : 0 ≤ deep ∧ deep ≤ 6) (hlt : a < b.length) (hx : b[a].toNat = 2) :
    Calls Tryz.prog 21 #[.pointer (some ⟨R, 0, none⟩), .int .i64 deep] w fun e w' => STEnd R w w' v b a false deep e := by
  have hN := fun o => one_yes R (w.alloc o) v b a false (h.on ((Below.refl _ w).alloc (Nat.le_refl _) o)) hlt
  have hhd := fun t0 rest (hp : 0 < pT t0 deep) hdr => tree_head (t0 := t0) (rest := rest) hlt hp hdr
  rw [hx] at hN hhd
  have HN := hide hN; have HHD := hide hhd
  have HTB := hide (fun w1 hb => TwoB.startS (w1 := w1) h hb 2)
  have HNU := hide (fun (W : World) (hW : SR R W v b (a + 1) false) => short_any R W v b (a + 1) false hW)
  have hd6 : decide (6 < deep) = false := by simp; omega
  clear h hN hhd hx
  go_enter Tryz.func21, Tryz.ntmps21
  go_wp2_with fail
  refine (unhide HN _).mono ?_
  rintro e w1 ⟨rfl, hS1, hb1⟩
  have hT1 := unhide HTB w1 hb1
  have hS2 : ∀ o, SR R (w1.alloc o) v b (a + 1) false := fun o => hS1.on ((Below.refl _ w1).alloc (Nat.le_refl _) o)
  have k2 := (hS2 (.cells #[.int .i64 2, .int .i64 0, .string ⟨#[]⟩, .slice none 0 0, .slice none 0 0] 39)).cells.cell (i := 2) (by omega)
  simp only [row3] at k2
  have HN1 := hide (unhide HNU _ (hS2 (.cells #[.int .i64 2, .int .i64 0, .string ⟨#[]⟩, .slice none 0 0, .slice none 0 0] 39)))
  have HT1 := hide hT1
  clear hS1 hb1 HN HTB HNU hT1 hS2
  go_wp2_with fail
  refine (unhide HN1).mono ?_
  rintro e w2 ⟨u, a2, bad2, rfl, hu, HS2, HB2, HF2⟩
  have hT2 := (unhide HT1).on HB2.out
  have p0 := hT2.rX.cell (i := 0) (by omega); have p1 := hT2.rX.cell (i := 1) (by omega); have p2 := hT2.rX.cell (i := 2) (by omega); have p3 := hT2.rX.cell (i := 3) (by omega); have p4 := hT2.rX.cell (i := 4) (by omega); have pf := hT2.rX.frozen
  have q0 := hT2.rY.cell (i := 0) (by omega); have q1 := hT2.rY.cell (i := 1) (by omega); have q2 := hT2.rY.cell (i := 2) (by omega); have q3 := hT2.rY.cell (i := 3) (by omega); have q4 := hT2.rY.cell (i := 4) (by omega); have qf := hT2.rY.frozen
  simp only [row5] at p0 p1 p2 p3 p4 q0 q1 q2 q3 q4
  have hne : w.heap.size ≠ w1.heap.size := by have := hT2.lt; omega
  have hne2 : w1.heap.size ≠ w.heap.size := by omega
  have HT2 := hide hT2
  clear hT2 HT1 HN1
  go_wp2_with fail
  refine bodyPost_ret (v := .agg #[.int .i64 2, .int .i64 0, .string u, .slice none 0 0, .slice none 0 0]) (by simp [results, Tryz.results21, go_sem, p0, p1, p2, p3, p4]) rfl ?_
  have hlt2 := (unhide HT2).lt
  have hR2 := (unhide HT2).hR
  refine ⟨_, ⟨_, _, _, _, _⟩, [], a2, bad2, rfl, own_leaf _ 2 0 u ⟨by decide, by decide⟩ ⟨by decide, by decide⟩ (by omega), List.nodup_nil, (fun y hy => by cases hy), ?_, ?_, fun _ t0 rest hp hdr => ?_⟩
  · repeat refine SR.set ?_ (by omega) _ _
    exact unhide HS2
  · repeat refine but_set ?_ (by omega) _ _
    exact (unhide HT2).but
  · obtain ⟨h1, h2⟩ := unhide HHD t0 rest hp hdr
    have hs : t0.sort = 2 := by rw [← h1]; rfl
    obtain ⟨b1, b2, b3, b4⟩ := ok_bare hp
    have b3 := b3 (by omega); have b4 := b4 (by omega)
    rw [hs] at h2
    simp only [Int.reduceEq, if_true, if_false] at h2
    have hb := ok_text hp hs
    obtain ⟨g1, g2, g3⟩ := HF2.out (by first | rfl | trivial) t0.text rest (by omega) h2
    refine ⟨?_, g2, g3⟩
    rw [tr_eta t0, hs, b2 (by omega) (by omega), b3, b4, g1]

set_option maxRecDepth 100000 in
set_option maxHeartbeats 3200000 in
theorem treeS_flag (R : Nat) (w : World) (v : Value) (b : List UInt8) (a : Nat) (deep : Int) (h : SR R w v b a false) (hd : 0 ≤ deep ∧ deep ≤ 6) (hlt : a < b.length) (hx : b[a].toNat = 3) :
    Calls Tryz.prog 21 #[.pointer (some ⟨R, 0, none⟩), .int .i64 deep] w fun e w' => STEnd R w w' v b a false deep e := by
  have hN := fun o => one_yes R (w.alloc o) v b a false (h.on ((Below.refl _ w).alloc (Nat.le_refl _) o)) hlt
  have hhd := fun t0 rest (hp : 0 < pT t0 deep) hdr => tree_head (t0 := t0) (rest := rest) hlt hp hdr
  rw [hx] at hN hhd
  have HN := hide hN; have HHD := hide hhd
  have HTB := hide (fun w1 hb => TwoB.startS (w1 := w1) h hb 3)
  have HNU := hide (fun (W : World) (hW : SR R W v b (a + 1) false) => one_any R W v b (a + 1) false hW)
  have hd6 : decide (6 < deep) = false := by simp; omega
  clear h hN hhd hx
  go_enter Tryz.func21, Tryz.ntmps21
  go_wp2_with fail
  refine (unhide HN _).mono ?_
  rintro e w1 ⟨rfl, hS1, hb1⟩
  have hT1 := unhide HTB w1 hb1
  have hS2 : ∀ o, SR R (w1.alloc o) v b (a + 1) false := fun o => hS1.on ((Below.refl _ w1).alloc (Nat.le_refl _) o)
  have k2 := (hS2 (.cells #[.int .i64 3, .int .i64 0, .string ⟨#[]⟩, .slice none 0 0, .slice none 0 0] 39)).cells.cell (i := 2) (by omega)
  simp only [row3] at k2
  have HN1 := hide (unhide HNU _ (hS2 (.cells #[.int .i64 3, .int .i64 0, .string ⟨#[]⟩, .slice none 0 0, .slice none 0 0] 39)))
  have HT1 := hide hT1
  clear hS1 hb1 HN HTB HNU hT1 hS2
  go_wp2_with fail
  refine (unhide HN1).mono ?_
  rintro e w2 ⟨u, a2, bad2, rfl, hu, HS2, HB2, HF2⟩
  have hT2 := (unhide HT1).on HB2.out
  have p0 := hT2.rX.cell (i := 0) (by omega); have p1 := hT2.rX.cell (i := 1) (by omega); have p2 := hT2.rX.cell (i := 2) (by omega); have p3 := hT2.rX.cell (i := 3) (by omega); have p4 := hT2.rX.cell (i := 4) (by omega); have pf := hT2.rX.frozen
  have q0 := hT2.rY.cell (i := 0) (by omega); have q1 := hT2.rY.cell (i := 1) (by omega); have q2 := hT2.rY.cell (i := 2) (by omega); have q3 := hT2.rY.cell (i := 3) (by omega); have q4 := hT2.rY.cell (i := 4) (by omega); have qf := hT2.rY.frozen
  simp only [row5] at p0 p1 p2 p3 p4 q0 q1 q2 q3 q4
  have hne : w.heap.size ≠ w1.heap.size := by have := hT2.lt; omega
  have hne2 : w1.heap.size ≠ w.heap.size := by omega
  have HT2 := hide hT2
  clear hT2 HT1 HN1
  go_wp2_with fail
  refine bodyPost_ret (v := .agg #[.int .i64 3, .int .i64 (u : Int), .string ⟨#[]⟩, .slice none 0 0, .slice none 0 0]) (by simp [results, Tryz.results21, go_sem, p0, p1, p2, p3, p4]) rfl ?_
  have hlt2 := (unhide HT2).lt
  have hR2 := (unhide HT2).hR
  refine ⟨_, ⟨_, _, _, _, _⟩, [], a2, bad2, rfl, own_leaf _ 3 u ByteArray.empty ⟨by decide, by decide⟩ ⟨by omega, by omega⟩ (by decide), List.nodup_nil, (fun y hy => by cases hy), ?_, ?_, fun _ t0 rest hp hdr => ?_⟩
  · repeat refine SR.set ?_ (by omega) _ _
    exact unhide HS2
  · repeat refine but_set ?_ (by omega) _ _
    exact (unhide HT2).but
  · obtain ⟨h1, h2⟩ := unhide HHD t0 rest hp hdr
    have hs : t0.sort = 3 := by rw [← h1]; rfl
    obtain ⟨b1, b2, b3, b4⟩ := ok_bare hp
    have b3 := b3 (by omega); have b4 := b4 (by omega)
    rw [hs] at h2
    simp only [Int.reduceEq, if_true, if_false] at h2
    have hb := ok_flag hp hs
    rcases HF2.out with ⟨l, e1, e2, e3, -⟩ | ⟨e1, -⟩
    · rw [e1, List.singleton_append] at h2
      simp only [List.cons.injEq] at h2
      have hv := congrArg UInt8.toNat h2.1
      rw [show (UInt8.ofNat u).toNat = u from by simp; omega, show (UInt8.ofNat t0.num.toNat).toNat = t0.num.toNat from by simp; omega] at hv
      refine ⟨?_, e3, by rw [← e2]; exact h2.2⟩
      rw [tr_eta t0, hs, b1 (by omega), b3, b4, show t0.num = (u : Int) from by omega]
    · rw [e1] at h2; cases h2
end Go.Proofs.YtiflfcjocngiiaaGreatDoor
