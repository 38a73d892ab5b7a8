/- What the specification's first tree has gathered: its names and kids, in rows of the call's own, and the tree's own cells. Definitions and small laws; no program walked, no conditions. -/
import Derived.Test.YtiflfcjocngiiaaGreatDoorPart06
import Derived.Test.YtiflfcjocngiiaaGreatDoorPart01
import Derived.Test.YtiflfcjocngiiaaGreatDoorPart05
namespace Go.Proofs.YtiflfcjocngiiaaGreatDoor
open Go Go.RowKit

theorem GotO.other {base : Nat} {w w' : World} {v : Value} {ks : List Tr} {xs : List Value} {G : List Nat} {row : Option Nat} (h : GotO base w v ks xs G) (hg : w.grownBy w' row) (hr : ∀ b, row = some b → v.ownBlock ≠ some b ∧ b ∉ G) : GotO base w' v ks xs G :=
  ⟨h.row.kept hg (by
      rcases e : v.ownBlock with _ | g
      · exact Or.inl rfl
      · exact Or.inr (fun e2 => (hr g e2.symm).1 e)), h.own.carry (fun b hb => hg.block b (h.lt b hb).2.1 (fun e => (hr b e.symm).2 hb)), h.nodup, fun b hb => ⟨(h.lt b hb).1, Nat.lt_of_lt_of_le (h.lt b hb).2.1 hg.size, (h.lt b hb).2.2⟩⟩

/-- Names and kids so far; the cells of the tree that they are put into lie in block B, below the base. -/
structure SInv (base B : Nat) (wr : World) (s : Int) (vN vK : Value) (ns : List ByteArray) (ks : List Tr) (xs : List Value) (G : List Nat) : Prop where
  hB : B < base
  cells : wr.rowIs B 39 5 (row5 (.int .i64 s) (.int .i64 0) (.string ⟨#[]⟩) vN vK)
  names : wr.ownsRow base 9 1 vN ns.length (ns.map Value.string)
  got : GotO base wr vK ks xs G
  apart : ∀ b, vN.ownBlock = some b → vK.ownBlock ≠ some b ∧ b ∉ G
  size : base ≤ wr.heap.size

theorem row5_set3 {w : World} {B : Nat} {t : TypeId} {c0 c1 c2 c3 c4 : Value} (h : w.rowIs B t 5 (row5 c0 c1 c2 c3 c4)) (v : Value) : (w.setCell ⟨B, 3, none⟩ v).rowIs B t 5 (row5 c0 c1 c2 v c4) :=
  (h.set 3 v).congr (fun i hi => by
    match i, hi with
    | 0, _ => rfl
    | 1, _ => rfl
    | 2, _ => rfl
    | 3, _ => rfl
    | 4, _ => rfl)
theorem row5_set4 {w : World} {B : Nat} {t : TypeId} {c0 c1 c2 c3 c4 : Value} (h : w.rowIs B t 5 (row5 c0 c1 c2 c3 c4)) (v : Value) : (w.setCell ⟨B, 4, none⟩ v).rowIs B t 5 (row5 c0 c1 c2 c3 v) :=
  (h.set 4 v).congr (fun i hi => by
    match i, hi with
    | 0, _ => rfl
    | 1, _ => rfl
    | 2, _ => rfl
    | 3, _ => rfl
    | 4, _ => rfl)

/-- A world in which but new blocks were laid. -/
theorem SInv.kept {base B : Nat} {w w' : World} {s : Int} {vN vK : Value} {ns : List ByteArray} {ks : List Tr} {xs : List Value} {G : List Nat} (h : SInv base B w s vN vK ns ks xs G) (hg : w.grownBy w' none) : SInv base B w' s vN vK ns ks xs G :=
  ⟨h.hB, h.cells.of_block (hg.block B h.cells.lt (by simp)), h.names.kept hg (by
      rcases e : vN.ownBlock with _ | g
      · exact Or.inl rfl
      · exact Or.inr (by simp)), h.got.kept hg, h.apart, Nat.le_trans h.size hg.size⟩

/-- A name more, put into the tree's cell. -/
theorem SInv.name {base B : Nat} {w w' : World} {s : Int} {vN vK v' : Value} {ns : List ByteArray} {ks : List Tr} {xs : List Value} {G : List Nat} {nm : ByteArray} (h : SInv base B w s vN vK ns ks xs G)
    (hown : w'.ownsRow base 9 1 v' (ns.length + 1) (ns.map Value.string ++ [.string nm])) (hg : w.grownBy w' vN.ownBlock) (hv : v'.ownBlock = vN.ownBlock ∨ ∃ g, v'.ownBlock = some g ∧ w.heap.size ≤ g) :
    SInv base B (w'.setCell ⟨B, 3, none⟩ v') s v' vK (ns ++ [nm]) ks xs G := by
  have hBn : vN.ownBlock ≠ some B := fun e => by have := (h.names.lt B e).1; have := h.hB; omega
  have hBk : vK.ownBlock ≠ some B := fun e => by have := (h.got.row.lt B e).1; have := h.hB; omega
  have hset : w'.grownBy (w'.setCell ⟨B, 3, none⟩ v') (some B) := ⟨rfl, rfl, rfl, by simp [World.setCell], fun k _ hk => Below.heap_setCell _ _ _ _ (fun e => hk (by rw [e]))⟩
  have hBv : v'.ownBlock ≠ some B := fun e => by have := (hown.lt B e).1; have := h.hB; omega
  have hgot1 := h.got.other hg (fun b e => h.apart b e)
  refine ⟨h.hB, row5_set3 (h.cells.of_block (hg.block B h.cells.lt (fun e => hBn e.symm))) v', ?_, hgot1.other hset (fun b e => by cases e; exact ⟨hBk, fun hm => by have := (h.got.lt _ hm).1; have := h.hB; omega⟩), fun b hb => ?_, by have := hg.size; have := h.size; simp [World.setCell]; omega⟩
  · have := hown.kept hset (Or.inr (fun e => hBv e))
    simpa using this
  · rcases hv with e | ⟨g, e, hge⟩
    · exact h.apart b (by rw [← e]; exact hb)
    · rw [e] at hb
      simp only [Option.some.injEq] at hb
      subst hb
      exact ⟨fun e2 => by have := (h.got.row.lt g e2).2; omega, fun hm => by have := (h.got.lt g hm).2.1; omega⟩

/-- A kid more, put into the tree's cell. -/
theorem SInv.kid {base B m : Nat} {w w' : World} {s : Int} {vN vK v' : Value} {ns : List ByteArray} {ks : List Tr} {xs : List Value} {G F : List Nat} {t : Tr} {c : C5} (h : SInv base B w s vN vK ns ks xs G)
    (ht : Own w t c F) (hnd : F.Nodup) (hF : ∀ b, b ∈ F → m ≤ b ∧ b < w.heap.size) (hGm : ∀ b, b ∈ G → b < m) (hvm : ∀ b, vK.ownBlock = some b → b < m) (hnm : ∀ b, vN.ownBlock = some b → b < m) (hbm : base ≤ m)
    (hown : w'.ownsRow base 39 5 v' (ks.length + 1) (xs ++ c5l c)) (hg : w.grownBy w' vK.ownBlock) (hv : v'.ownBlock = vK.ownBlock ∨ ∃ g, v'.ownBlock = some g ∧ w.heap.size ≤ g) :
    SInv base B (w'.setCell ⟨B, 4, none⟩ v') s vN v' ns (ks ++ [t]) (xs ++ c5l c) (G ++ F) := by
  have hBn : vN.ownBlock ≠ some B := fun e => by have := (h.names.lt B e).1; have := h.hB; omega
  have hBk : vK.ownBlock ≠ some B := fun e => by have := (h.got.row.lt B e).1; have := h.hB; omega
  have hset : w'.grownBy (w'.setCell ⟨B, 4, none⟩ v') (some B) := ⟨rfl, rfl, rfl, by simp [World.setCell], fun k _ hk => Below.heap_setCell _ _ _ _ (fun e => hk (by rw [e]))⟩
  have hBv : v'.ownBlock ≠ some B := fun e => by have := (hown.lt B e).1; have := h.hB; omega
  have hpush := GotO.push h.got ht hnd hF hGm hvm hbm hown hg hv
  refine ⟨h.hB, row5_set4 (h.cells.of_block (hg.block B h.cells.lt (fun e => hBk e.symm))) v', ?_, hpush.other hset (fun b e => by cases e; exact ⟨hBv, fun hm => by have := (hpush.lt _ hm).1; have := h.hB; omega⟩), fun b hb => ?_, by have := hg.size; have := h.size; simp [World.setCell]; omega⟩
  · refine (h.names.kept hg ?_).kept hset (Or.inr (fun e => hBn e))
    rcases e : vN.ownBlock with _ | g
    · exact Or.inl rfl
    · exact Or.inr (fun e2 => (h.apart g e).1 e2.symm)
  · have ha := h.apart b hb
    have hbw := (h.names.lt b hb).2
    refine ⟨?_, fun hm => ?_⟩
    · rcases hv with e | ⟨g, e, hge⟩
      · rw [e]; exact ha.1
      · rw [e]; intro e2; simp only [Option.some.injEq] at e2; omega
    · rcases List.mem_append.1 hm with hm | hm
      · exact ha.2 hm
      · have := (hF b hm).1; have := hnm b hb; omega

theorem SInv.atN {base B : Nat} {w w' : World} {s : Int} {vN vK : Value} {ns : List ByteArray} {ks : List Tr} {xs : List Value} {G : List Nat} (h : SInv base B w s vN vK ns ks xs G) {o : Obj} (hg : (w.alloc o).grownBy w' vN.ownBlock) : w'.rowIs B 39 5 (row5 (.int .i64 s) (.int .i64 0) (.string ⟨#[]⟩) vN vK) :=
  (h.cells.alloc o).of_block (hg.block B (h.cells.alloc o).lt (fun e => by have := (h.names.lt B e.symm).1; have := h.hB; omega))
theorem SInv.atK {base B : Nat} {w w' : World} {s : Int} {vN vK : Value} {ns : List ByteArray} {ks : List Tr} {xs : List Value} {G : List Nat} (h : SInv base B w s vN vK ns ks xs G) {o : Obj} (hg : (w.alloc o).grownBy w' vK.ownBlock) : w'.rowIs B 39 5 (row5 (.int .i64 s) (.int .i64 0) (.string ⟨#[]⟩) vN vK) :=
  (h.cells.alloc o).of_block (hg.block B (h.cells.alloc o).lt (fun e => by have := (h.got.row.lt B e.symm).1; have := h.hB; omega))

/-- What was gathered is a tree in blocks of its own. -/
theorem SInv.done {base B : Nat} {w : World} {s : Int} {vN vK : Value} {ns : List ByteArray} {ks : List Tr} {xs : List Value} {G : List Nat} (h : SInv base B w s vN vK ns ks xs G) (hs : I64 s) (hns : ∀ x, x ∈ ns → x.size ≤ 9223372036854775807) :
    ∃ F, Own w (.mk s 0 ByteArray.empty ns ks) ⟨.int .i64 s, .int .i64 0, .string ByteArray.empty, vN, vK⟩ F ∧ F.Nodup ∧ ∀ b, b ∈ F → base ≤ b ∧ b < w.heap.size := by
  obtain ⟨F2, h2, n2, l2, m2⟩ := h.got.done
  obtain ⟨F1, h1, n1, l1, m1⟩ := strsOwn_of_row h.names hns
  refine ⟨F1 ++ F2, Own.make (t := .mk s 0 ByteArray.empty ns ks) rfl rfl rfl hs (show I64 0 from ⟨by decide, by decide⟩) (by simp [Tr.text]) h1 h2, List.nodup_append.2 ⟨n1, n2, fun a ha b hb e => ?_⟩, fun b hb => ?_⟩
  · subst e
    have hap := h.apart a (m1 a ha)
    rcases m2 a hb with h3 | h3
    · exact hap.1 h3
    · exact hap.2 h3
  · rcases List.mem_append.1 hb with hb | hb
    · exact l1 b hb
    · exact l2 b hb
end Go.Proofs.YtiflfcjocngiiaaGreatDoor

/- What the program's reader of kids has read so far; rows whose last element is laid anew; frames of two blocks. No program walked, no conditions. -/

namespace Go.Proofs.YtiflfcjocngiiaaGreatDoor
open Go Go.RowKit

/-- Of n kids k were read, and what is left decides the rest. -/
def KRel (P : List UInt8 → Option (Tr × List UInt8)) (form : Bool) (n k : Nat) (l0 l : List UInt8) (ns : List ByteArray) (ks : List Tr) : Prop :=
  pkids P form n l0 = (pkids P form (n - k) l).map (fun y => (ns ++ y.1, ks ++ y.2.1, y.2.2))

theorem KRel.start (P : List UInt8 → Option (Tr × List UInt8)) (form : Bool) (n : Nat) (l : List UInt8) : KRel P form n 0 l l [] [] := by
  unfold KRel
  cases pkids P form n l <;> simp
theorem KRel.done {P : List UInt8 → Option (Tr × List UInt8)} {form : Bool} {n : Nat} {l0 l : List UInt8} {ns : List ByteArray} {ks : List Tr} (h : KRel P form n n l0 l ns ks) : pkids P form n l0 = some (ns, ks, l) := by
  unfold KRel at h
  rw [Nat.sub_self, pkids] at h
  simpa using h
theorem KRel.name_no {P : List UInt8 → Option (Tr × List UInt8)} {n k : Nat} {l0 l : List UInt8} {ns : List ByteArray} {ks : List Tr} (h : KRel P true n k l0 l ns ks) (hk : k < n) (hp : ptx l = none) : pkids P true n l0 = none := by
  unfold KRel at h
  rw [h, show n - k = (n - k - 1) + 1 from by omega, pkids]
  simp [hp]
theorem KRel.tree_no {P : List UInt8 → Option (Tr × List UInt8)} {n k : Nat} {l0 l l1 : List UInt8} {ns : List ByteArray} {ks : List Tr} {nm : ByteArray} (h : KRel P true n k l0 l ns ks) (hk : k < n) (hp : ptx l = some (nm, l1)) (ht : P l1 = none) : pkids P true n l0 = none := by
  unfold KRel at h
  rw [h, show n - k = (n - k - 1) + 1 from by omega, pkids]
  simp [hp, ht]
theorem KRel.tree_no' {P : List UInt8 → Option (Tr × List UInt8)} {n k : Nat} {l0 l : List UInt8} {ns : List ByteArray} {ks : List Tr} (h : KRel P false n k l0 l ns ks) (hk : k < n) (ht : P l = none) : pkids P false n l0 = none := by
  unfold KRel at h
  rw [h, show n - k = (n - k - 1) + 1 from by omega, pkids]
  simp [ht]
theorem KRel.step {P : List UInt8 → Option (Tr × List UInt8)} {n k : Nat} {l0 l l1 l2 : List UInt8} {ns : List ByteArray} {ks : List Tr} {nm : ByteArray} {t : Tr} (h : KRel P true n k l0 l ns ks) (hk : k < n) (hp : ptx l = some (nm, l1)) (ht : P l1 = some (t, l2)) : KRel P true n (k + 1) l0 l2 (ns ++ [nm]) (ks ++ [t]) := by
  unfold KRel at h ⊢
  rw [h, show n - k = (n - (k + 1)) + 1 from by omega, pkids]
  simp only [if_true, hp, ht]
  cases h3 : pkids P true (n - (k + 1)) l2 <;> simp
theorem KRel.step' {P : List UInt8 → Option (Tr × List UInt8)} {n k : Nat} {l0 l l2 : List UInt8} {ns : List ByteArray} {ks : List Tr} {t : Tr} (h : KRel P false n k l0 l ns ks) (hk : k < n) (ht : P l = some (t, l2)) : KRel P false n (k + 1) l0 l2 ns (ks ++ [t]) := by
  unfold KRel at h ⊢
  rw [h, show n - k = (n - (k + 1)) + 1 from by omega, pkids]
  simp only [Bool.false_eq_true, if_false, ht]
  cases h3 : pkids P false (n - (k + 1)) l2 <;> simp

/-- But two blocks all that was there is as it was. -/
structure But2 (R Y : Nat) (w w' : World) : Prop where
  os : w'.os = w.os
  tape : w'.tape = w.tape
  output : w'.output = w.output
  size : w.heap.size ≤ w'.heap.size
  block : ∀ b, b < w.heap.size → b ≠ R → b ≠ Y → w'.heap[b]? = w.heap[b]?
theorem But2.trans {R Y : Nat} {a b c : World} (h : But2 R Y a b) (k : But2 R Y b c) : But2 R Y a c :=
  ⟨k.os.trans h.os, k.tape.trans h.tape, k.output.trans h.output, Nat.le_trans h.size k.size, fun i hi h1 h2 => (k.block i (Nat.lt_of_lt_of_le hi h.size) h1 h2).trans (h.block i hi h1 h2)⟩
theorem But2.ofR {R Y : Nat} {w w' : World} (h : But R w w') : But2 R Y w w' := ⟨h.os, h.tape, h.output, h.size, fun _ hi h1 _ => h.at hi h1⟩
theorem SInv.but {base B R : Nat} {w w' : World} {s : Int} {vN vK : Value} {ns : List ByteArray} {ks : List Tr} {xs : List Value} {G : List Nat} (h : SInv base B w s vN vK ns ks xs G) (hg : But R w w') (hR : R < base) (hRB : R ≠ B) : SInv base B w' s vN vK ns ks xs G :=
  ⟨h.hB, h.cells.of_block (hg.at h.cells.lt (fun e => hRB e.symm)), h.names.kept hg (by
      rcases e : vN.ownBlock with _ | g
      · exact Or.inl rfl
      · exact Or.inr (fun e2 => by have := (h.names.lt g e).1; simp at e2; omega)), h.got.other hg (fun b e => by
      cases e
      exact ⟨fun e2 => by have := (h.got.row.lt R e2).1; omega, fun hm => by have := (h.got.lt R hm).1; omega⟩), h.apart, Nat.le_trans h.size hg.size⟩

/-- Cells of different blocks may be laid in either order. -/
theorem setCell_comm (w : World) {a b : Addr} (u v : Value) (h : a.block ≠ b.block) : (w.setCell a u).setCell b v = (w.setCell b v).setCell a u := by
  unfold World.setCell
  simp only [World.mk.injEq, and_true]
  apply Array.ext
  · simp
  · intro i h1 h2
    simp only [Array.getElem_modify]
    by_cases e1 : a.block = i
    · by_cases e2 : b.block = i
      · omega
      · simp [e1, e2]
    · simp [e1]

theorem ownsRow_set {w : World} {base : Nat} {e : TypeId} {size g n cap : Nat} {xs : List Value} (h : w.ownsRow base e size (.slice (some ⟨g, 0, none⟩) n cap) n xs) (j : Nat) (u : Value) : (w.setCell ⟨g, j, none⟩ u).ownsRow base e size (.slice (some ⟨g, 0, none⟩) n cap) n (xs.set j u) := by
  rcases h.2 with ⟨hv, _⟩ | ⟨g', cap', cur, hv, hb, hg, hnc, hcm, hcs, htk⟩
  · simp at hv
  · simp only [Value.slice.injEq, Option.some.injEq, Addr.mk.injEq, and_true, true_and] at hv
    obtain ⟨rfl, rfl⟩ := hv
    refine ⟨by rw [List.length_set]; exact h.1, Or.inr ⟨g, cap, cur.setIfInBounds j u, rfl, hb, ?_, hnc, hcm, by rw [Array.size_setIfInBounds]; exact hcs, ?_⟩⟩
    · simp [World.setCell, Array.getElem?_modify, hg]
    · rw [Array.toList_setIfInBounds, List.take_set, htk]

/-- The last tree of a row, laid anew. -/
def lay5 (w : World) (g o : Nat) (c : C5) : World := ((((w.setCell ⟨g, o, none⟩ c.c0).setCell ⟨g, o + 1, none⟩ c.c1).setCell ⟨g, o + 2, none⟩ c.c2).setCell ⟨g, o + 3, none⟩ c.c3).setCell ⟨g, o + 4, none⟩ c.c4

theorem own_last {w : World} {base : Nat} {e : TypeId} {g n cap : Nat} {xs : List Value} {z0 z1 z2 z3 z4 : Value} (h : w.ownsRow base e 5 (.slice (some ⟨g, 0, none⟩) (n + 1) cap) (n + 1) (xs ++ [z0, z1, z2, z3, z4])) (c : C5) :
    (lay5 w g (n * 5) c).ownsRow base e 5 (.slice (some ⟨g, 0, none⟩) (n + 1) cap) (n + 1) (xs ++ c5l c) := by
  have hl : xs.length = n * 5 := by have := h.1; simp at this; omega
  have := ownsRow_set (ownsRow_set (ownsRow_set (ownsRow_set (ownsRow_set h (n * 5) c.c0) (n * 5 + 1) c.c1) (n * 5 + 2) c.c2) (n * 5 + 3) c.c3) (n * 5 + 4) c.c4
  have e5 : (((((xs ++ [z0, z1, z2, z3, z4]).set (n * 5) c.c0).set (n * 5 + 1) c.c1).set (n * 5 + 2) c.c2).set (n * 5 + 3) c.c3).set (n * 5 + 4) c.c4 = xs ++ c5l c := by
    rw [← hl]
    simp [c5l]
  rw [e5] at this
  exact this

theorem grown_lay5 {w w' : World} {row : Option Nat} {g o : Nat} {c : C5} (h : w.grownBy w' row) (hr : row = some g ∨ w.heap.size ≤ g) : w.grownBy (lay5 w' g o c) row := by
  have hs : ∀ (W : World) (j : Nat) (u : Value), w.grownBy W row → w.grownBy (W.setCell ⟨g, j, none⟩ u) row := fun W j u hW =>
    ⟨hW.os, hW.tape, hW.output, by simp [World.setCell]; exact hW.size, fun i hi hne => by
      rw [Below.heap_setCell _ _ _ _ (fun e => by
        rcases hr with hr | hr
        · exact hne (by rw [hr, e])
        · simp at e; omega)]
      exact hW.block i hi hne⟩
  exact hs _ _ _ (hs _ _ _ (hs _ _ _ (hs _ _ _ (hs _ _ _ h))))
end Go.Proofs.YtiflfcjocngiiaaGreatDoor

/- What the walks of the program's byteCursor.kids hold: definitions and small laws. No conditions. -/

namespace Go.Proofs.YtiflfcjocngiiaaGreatDoor
open Go Go.RowKit

/-- What reading a tree comes to. -/
def UnEnd (R : Nat) (w w' : World) (v : Value) (b : List UInt8) (a : Nat) (res : Option (Tr × List UInt8)) (e : Ending) : Prop :=
  But R w w' ∧ match res with
    | some (t, rest) => ∃ (c : C5) (F : List Nat), e = .returned (.agg #[c.c0, c.c1, c.c2, c.c3, c.c4]) ∧ Own w' t c F ∧ F.Nodup ∧ (∀ x, x ∈ F → w.heap.size ≤ x ∧ x < w'.heap.size) ∧ ∃ a', a < a' ∧ Cu R w' v b a' ∧ rest = b.drop a'
    | none => e = fltE

def UnT (f : Nat) : Prop := ∀ (R : Nat) (w : World) (v : Value) (b : List UInt8) (a : Nat), Cu R w v b a → (b.drop a).length < f →
    Calls Tryz.prog 65 #[.pointer (some ⟨R, 0, none⟩)] w fun e w' => UnEnd R w w' v b a (ptree f (b.drop a)) e

/-- What reading kids comes to. -/
def KdEnd (R Y : Nat) (w w' : World) (v : Value) (b : List UInt8) (a : Nat) (s : Int) (res : Option (List ByteArray × List Tr × List UInt8)) (e : Ending) : Prop :=
  But2 R Y w w' ∧ match res with
    | some (ns, ks, rest) => e = .returned (.tuple #[]) ∧ ∃ vN vK xs G a', SInv (Y + 1) Y w' s vN vK ns ks xs G ∧ (∀ x, x ∈ ns → x.size ≤ 255) ∧ a < a' ∧ Cu R w' v b a' ∧ rest = b.drop a'
    | none => e = fltE
theorem KdEnd.no {R Y : Nat} {w w' : World} {v : Value} {b : List UInt8} {a : Nat} {s : Int} {res : Option (List ByteArray × List Tr × List UInt8)} (h : res = none) (hb : But2 R Y w w') : KdEnd R Y w w' v b a s res fltE := by
  subst h; exact ⟨hb, rfl⟩

theorem infoStr16 : (Tryz.prog.info? 9).map (fun i => (i.zero, i.size, i.bytes)) = some (some (.string ByteArray.empty), 1, 16) := by kernel_rfl
theorem infoTree80 : (Tryz.prog.info? 39).map (fun i => (i.zero, i.size, i.bytes)) = some (some (.agg #[.int .i64 0, .int .i64 0, .string ByteArray.empty, .slice none 0 0, .slice none 0 0]), 5, 80) := by kernel_rfl

/-- What the loop of kids holds. -/
structure KAt (R Y : Nat) (w wr : World) (v : Value) (b : List UInt8) (s : Int) (a' : Nat) (vN vK : Value) (ns : List ByteArray) (ks : List Tr) (xs : List Value) (G : List Nat) : Prop where
  cu : Cu R wr v b a'
  inv : SInv (Y + 1) Y wr s vN vK ns ks xs G
  but : But2 R Y w wr
  low : w.heap.size = Y + 1
  RY : R < Y
  short : ∀ x, x ∈ ns → x.size ≤ 255

theorem drewN_grown1 (w : World) : w.grownBy w.drew none := ⟨rfl, rfl, rfl, Nat.le_refl _, fun _ _ _ => rfl⟩
theorem KAt.drew {R Y : Nat} {w wr : World} {v : Value} {b : List UInt8} {s : Int} {a' : Nat} {vN vK : Value} {ns : List ByteArray} {ks : List Tr} {xs : List Value} {G : List Nat} (h : KAt R Y w wr v b s a' vN vK ns ks xs G) : KAt R Y w wr.drew v b s a' vN vK ns ks xs G :=
  ⟨h.cu.on (Below.refl _ wr).drew, h.inv.kept (drewN_grown1 wr), h.but.trans (But2.ofR (But.of_below (Below.refl _ wr).drew)), h.low, h.RY, h.short⟩
theorem KAt.alloc {R Y : Nat} {w wr : World} {v : Value} {b : List UInt8} {s : Int} {a' : Nat} {vN vK : Value} {ns : List ByteArray} {ks : List Tr} {xs : List Value} {G : List Nat} (h : KAt R Y w wr v b s a' vN vK ns ks xs G) (o : Obj) : KAt R Y w (wr.alloc o) v b s a' vN vK ns ks xs G :=
  ⟨h.cu.on ((Below.refl _ wr).alloc (Nat.le_refl _) o), h.inv.kept (World.grownBy_alloc wr o none), h.but.trans (But2.ofR (But.alloc R wr o)), h.low, h.RY, h.short⟩
theorem KAt.read {R Y : Nat} {w wr w' : World} {v : Value} {b : List UInt8} {s : Int} {a' a2 : Nat} {vN vK : Value} {ns : List ByteArray} {ks : List Tr} {xs : List Value} {G : List Nat} (h : KAt R Y w wr v b s a' vN vK ns ks xs G) (hb : But R wr w') (hc : Cu R w' v b a2) : KAt R Y w w' v b s a2 vN vK ns ks xs G :=
  ⟨hc, h.inv.but hb (by have := h.RY; omega) (by have := h.RY; omega), h.but.trans (But2.ofR hb), h.low, h.RY, h.short⟩

/-- The cells of a zero tree. -/
abbrev zc : C5 := ⟨.int .i64 0, .int .i64 0, .string ⟨#[]⟩, .slice none 0 0, .slice none 0 0⟩

theorem zc_one : ∀ u ∈ c5l zc, u.oneCell' = true := by
  intro u hu
  simp [c5l] at hu
  rcases hu with rfl | rfl | rfl <;> rfl

/-- What is known behind the append of a zero tree. -/
theorem KAt.ready {R Y : Nat} {w W w8 : World} {v : Value} {b : List UInt8} {s : Int} {a' : Nat} {vN : Value} {aK : Option Addr} {k capK g cap2 : Nat} {ns : List ByteArray} {ks : List Tr} {xs : List Value} {G : List Nat} (h : KAt R Y w W v b s a' vN (.slice aK k capK) ns ks xs G)
    (hown : w8.ownsRow (Y + 1) 39 5 (.slice (some ⟨g, 0, none⟩) (k + 1) cap2) (k + 1) (xs ++ c5l zc)) (hgrow : W.grownBy w8 (Value.slice aK k capK).ownBlock) :
    (w8.cell? ⟨g, k * 5, none⟩ = some zc.c0 ∧ w8.cell? ⟨g, k * 5 + 1, none⟩ = some zc.c1 ∧ w8.cell? ⟨g, k * 5 + 2, none⟩ = some zc.c2 ∧ w8.cell? ⟨g, k * 5 + 3, none⟩ = some zc.c3 ∧ w8.cell? ⟨g, k * 5 + 4, none⟩ = some zc.c4) ∧ (∀ j, w8.frozen? ⟨g, j, none⟩ = false) ∧ w8.cell? ⟨Y, 4, none⟩ = some (.slice aK k capK) ∧ w8.frozen? ⟨Y, 4, none⟩ = false ∧ g ≠ Y ∧ Y ≠ g := by
  have hl : xs.length = k * 5 := by have := hown.1; simp [c5l] at this; omega
  have hgb := (hown.lt g rfl).1
  have hcell : ∀ i, (hi : i < 5) → w8.cell? ⟨g, k * 5 + i, none⟩ = (c5l zc)[i]? := fun i hi => by
    have hj : (xs ++ c5l zc)[k * 5 + i]? = (c5l zc)[i]? := by
      rw [List.getElem?_append_right (by omega), show k * 5 + i - xs.length = i from by omega]
    have hs : ∃ u, (c5l zc)[i]? = some u := ⟨(c5l zc)[i]'(by simp [c5l]; omega), List.getElem?_eq_getElem (by simp [c5l]; omega)⟩
    obtain ⟨u, hu⟩ := hs
    rw [hu]
    have := hown.cells (g := g) rfl (k * 5 + i) u (by rw [hj]; exact hu)
    rw [Addr.add_lit, Nat.zero_add] at this
    exact this
  have hrow : w8.rowIs Y 39 5 (row5 (.int .i64 s) (.int .i64 0) (.string ⟨#[]⟩) vN (.slice aK k capK)) :=
    h.inv.cells.of_block (hgrow.block Y h.inv.cells.lt (fun e => by have := (h.inv.got.row.lt Y e.symm).1; omega))
  refine ⟨⟨by have := hcell 0 (by omega); rw [Nat.add_zero] at this; exact this, hcell 1 (by omega), hcell 2 (by omega), hcell 3 (by omega), hcell 4 (by omega)⟩, fun j => ?_, hrow.cell (i := 4) (by omega), hrow.frozen 4, by omega, by omega⟩
  rcases hown.2 with ⟨hv, _⟩ | ⟨g', cap', cur, hv, _, hh, _⟩
  · simp at hv
  · simp only [Value.slice.injEq, Option.some.injEq, Addr.mk.injEq, and_true] at hv
    obtain ⟨rfl, -⟩ := hv
    simp [World.frozen?, hh]

/-- A kid more. -/
theorem KAt.push {R Y m : Nat} {w W w8 : World} {v : Value} {b : List UInt8} {s : Int} {a' : Nat} {vN : Value} {aK : Option Addr} {k capK g cap2 : Nat} {ns : List ByteArray} {ks : List Tr} {xs : List Value} {G F : List Nat} {t : Tr} {c : C5} (h : KAt R Y w W v b s a' vN (.slice aK k capK) ns ks xs G) (hks : k = ks.length)
    (ht : Own W t c F) (hnd : F.Nodup) (hF : ∀ x, x ∈ F → m ≤ x ∧ x < W.heap.size) (hGm : ∀ x, x ∈ G → x < m) (hvm : ∀ x, (Value.slice aK k capK).ownBlock = some x → x < m) (hnm : ∀ x, vN.ownBlock = some x → x < m) (hbm : Y + 1 ≤ m)
    (hown : w8.ownsRow (Y + 1) 39 5 (.slice (some ⟨g, 0, none⟩) (k + 1) cap2) (k + 1) (xs ++ c5l zc)) (hgrow : W.grownBy w8 (Value.slice aK k capK).ownBlock) (hat : (Value.slice aK k capK).ownBlock = some g ∨ g = W.heap.size) :
    KAt R Y w ((lay5 w8 g (k * 5) c).setCell ⟨Y, 4, none⟩ (.slice (some ⟨g, 0, none⟩) (k + 1) cap2)) v b s a' vN (.slice (some ⟨g, 0, none⟩) (k + 1) cap2) ns (ks ++ [t]) (xs ++ c5l c) (G ++ F) := by
  have hg2 := grown_lay5 (o := k * 5) (c := c) hgrow (by rcases hat with h1 | h1; exact Or.inl h1; exact Or.inr (by omega))
  have hinv := SInv.kid h.inv ht hnd hF hGm hvm hnm hbm (by rw [← hks]; exact own_last hown c) hg2 (by
    rcases hat with h1 | h1
    · exact Or.inl (by rw [h1]; rfl)
    · exact Or.inr ⟨g, rfl, by omega⟩)
  have hlow := h.low
  have hRY := h.RY
  have hsz := h.but.size
  have hrowR : ∀ x, (Value.slice aK k capK).ownBlock = some x → Y + 1 ≤ x := fun x e => (h.inv.got.row.lt x e).1
  have hset : (lay5 w8 g (k * 5) c).grownBy ((lay5 w8 g (k * 5) c).setCell ⟨Y, 4, none⟩ (.slice (some ⟨g, 0, none⟩) (k + 1) cap2)) (some Y) := But.set _ _ _
  refine ⟨⟨?_, ?_, h.cu.own, h.cu.le, h.cu.small⟩, hinv, ?_, hlow, hRY, h.short⟩
  · refine (h.cu.cells.of_block (hg2.block R h.cu.cells.lt (fun e => by have := hrowR R e.symm; omega))).of_block (hset.block R ?_ (by simp; omega))
    exact Nat.lt_of_lt_of_le h.cu.cells.lt hg2.size
  · refine (h.cu.row.of_block (fun x e => hg2.block x (h.cu.row.own x e).2 (fun e2 => by have := hrowR x e2.symm; have := h.cu.own x e; omega))).of_block (fun x e => hset.block x (Nat.lt_of_lt_of_le (h.cu.row.own x e).2 hg2.size) (by have := h.cu.own x e; simp; omega))
  · refine ⟨hset.os.trans (hg2.os.trans h.but.os), hset.tape.trans (hg2.tape.trans h.but.tape), hset.output.trans (hg2.output.trans h.but.output), Nat.le_trans h.but.size (Nat.le_trans hg2.size hset.size), fun x hx h1 h2 => ?_⟩
    have hxW : x < W.heap.size := by omega
    exact (hset.block x (Nat.lt_of_lt_of_le hxW hg2.size) (by simp; omega)).trans ((hg2.block x hxW (fun e => by have := hrowR x e.symm; omega)).trans (h.but.block x hx h1 h2))

theorem lay5_comm (w : World) {g Y o : Nat} (c : C5) (u : Value) (h : g ≠ Y) : (lay5 w g o c).setCell ⟨Y, 4, none⟩ u = lay5 (w.setCell ⟨Y, 4, none⟩ u) g o c := by
  unfold lay5
  have e : ∀ (W : World) (j : Nat) (x : Value), (W.setCell ⟨g, j, none⟩ x).setCell ⟨Y, 4, none⟩ u = (W.setCell ⟨Y, 4, none⟩ u).setCell ⟨g, j, none⟩ x := fun W j x => setCell_comm W x u h
  rw [e, e, e, e, e]

/-- A name more. -/
theorem KAt.name {R Y : Nat} {w W w6 : World} {v : Value} {b : List UInt8} {s : Int} {a' : Nat} {vN vK v' : Value} {ns : List ByteArray} {ks : List Tr} {xs : List Value} {G : List Nat} {nm : ByteArray} (h : KAt R Y w W v b s a' vN vK ns ks xs G) (hsz : nm.size ≤ 255)
    (hown : w6.ownsRow (Y + 1) 9 1 v' (ns.length + 1) (ns.map Value.string ++ [.string nm])) (hgrow : W.grownBy w6 vN.ownBlock) (hat : v'.ownBlock = vN.ownBlock ∨ ∃ g, v'.ownBlock = some g ∧ W.heap.size ≤ g) :
    KAt R Y w (w6.setCell ⟨Y, 3, none⟩ v') v b s a' v' vK (ns ++ [nm]) ks xs G := by
  have hinv := SInv.name h.inv hown hgrow hat
  have hlow := h.low
  have hRY := h.RY
  have hsz2 := h.but.size
  have hrowR : ∀ x, vN.ownBlock = some x → Y + 1 ≤ x := fun x e => (h.inv.names.lt x e).1
  have hset : w6.grownBy (w6.setCell ⟨Y, 3, none⟩ v') (some Y) := But.set _ _ _
  refine ⟨⟨?_, ?_, h.cu.own, h.cu.le, h.cu.small⟩, hinv, ?_, hlow, hRY, fun x hx => ?_⟩
  · refine (h.cu.cells.of_block (hgrow.block R h.cu.cells.lt (fun e => by have := hrowR R e.symm; omega))).of_block (hset.block R ?_ (by simp; omega))
    exact Nat.lt_of_lt_of_le h.cu.cells.lt hgrow.size
  · refine (h.cu.row.of_block (fun x e => hgrow.block x (h.cu.row.own x e).2 (fun e2 => by have := hrowR x e2.symm; have := h.cu.own x e; omega))).of_block (fun x e => hset.block x (Nat.lt_of_lt_of_le (h.cu.row.own x e).2 hgrow.size) (by have := h.cu.own x e; simp; omega))
  · refine ⟨hset.os.trans (hgrow.os.trans h.but.os), hset.tape.trans (hgrow.tape.trans h.but.tape), hset.output.trans (hgrow.output.trans h.but.output), Nat.le_trans h.but.size (Nat.le_trans hgrow.size hset.size), fun x hx h1 h2 => ?_⟩
    have hxW : x < W.heap.size := by omega
    exact (hset.block x (Nat.lt_of_lt_of_le hxW hgrow.size) (by simp; omega)).trans ((hgrow.block x hxW (fun e => by have := hrowR x e.symm; omega)).trans (h.but.block x hx h1 h2))
  · rcases List.mem_append.1 hx with hx | hx
    · exact h.short x hx
    · simp at hx; rw [hx]; exact hsz
end Go.Proofs.YtiflfcjocngiiaaGreatDoor
