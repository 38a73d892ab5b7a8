/- What the specification's first tree has gathered: its names and kids, in rows of the call's own, and the tree's own cells. Definitions and small laws; no program walked, no conditions. -/
import Derived.Test.YthkjhmcbmakkdaaDoorPart02
namespace Go.Proofs.YthkjhmcbmakkdaaDoor
open Go Go.RowKit

theorem GotO.other {base : Nat} {w w' : World} {v : Value} {ks : List Tr} {xs : List Value} {G : List Nat} {row : Option Nat} (h : GotO base w v ks xs G) (hg : w.grownBy w' row) (hr : ∀ b, row = some b → v.ownBlock ≠ some b ∧ b ∉ G) : GotO base w' v ks xs G :=
  ⟨h.row.kept hg (by
      rcases e : v.ownBlock with _ | g
      · exact Or.inl rfl
      · exact Or.inr (fun e2 => (hr g e2.symm).1 e)), h.own.carry (fun b hb => hg.block b (h.lt b hb).2.1 (fun e => (hr b e.symm).2 hb)), h.nodup, fun b hb => ⟨(h.lt b hb).1, Nat.lt_of_lt_of_le (h.lt b hb).2.1 hg.size, (h.lt b hb).2.2⟩⟩

/-- Names and kids so far; the cells of the tree that they are put into lie in block B, below the base. -/
structure SInv (base B : Nat) (wr : World) (s : Int) (vN vK : Value) (ns : List ByteArray) (ks : List Tr) (xs : List Value) (G : List Nat) : Prop where
  hB : B < base
  cells : wr.rowIs B 37 5 (row5 (.int .i64 s) (.int .i64 0) (.string ⟨#[]⟩) vN vK)
  names : wr.ownsRow base 9 1 vN ns.length (ns.map Value.string)
  got : GotO base wr vK ks xs G
  apart : ∀ b, vN.ownBlock = some b → vK.ownBlock ≠ some b ∧ b ∉ G
  size : base ≤ wr.heap.size

theorem row5_set3 {w : World} {B : Nat} {t : TypeId} {c0 c1 c2 c3 c4 : Value} (h : w.rowIs B t 5 (row5 c0 c1 c2 c3 c4)) (v : Value) : (w.setCell ⟨B, 3, none⟩ v).rowIs B t 5 (row5 c0 c1 c2 v c4) :=
  (h.set 3 v).congr (fun i hi => by
    match i, hi with
    | 0, _ => rfl
    | 1, _ => rfl
    | 2, _ => rfl
    | 3, _ => rfl
    | 4, _ => rfl)
theorem row5_set4 {w : World} {B : Nat} {t : TypeId} {c0 c1 c2 c3 c4 : Value} (h : w.rowIs B t 5 (row5 c0 c1 c2 c3 c4)) (v : Value) : (w.setCell ⟨B, 4, none⟩ v).rowIs B t 5 (row5 c0 c1 c2 c3 v) :=
  (h.set 4 v).congr (fun i hi => by
    match i, hi with
    | 0, _ => rfl
    | 1, _ => rfl
    | 2, _ => rfl
    | 3, _ => rfl
    | 4, _ => rfl)

/-- A world in which but new blocks were laid. -/
theorem SInv.kept {base B : Nat} {w w' : World} {s : Int} {vN vK : Value} {ns : List ByteArray} {ks : List Tr} {xs : List Value} {G : List Nat} (h : SInv base B w s vN vK ns ks xs G) (hg : w.grownBy w' none) : SInv base B w' s vN vK ns ks xs G :=
  ⟨h.hB, h.cells.of_block (hg.block B h.cells.lt (by simp)), h.names.kept hg (by
      rcases e : vN.ownBlock with _ | g
      · exact Or.inl rfl
      · exact Or.inr (by simp)), h.got.kept hg, h.apart, Nat.le_trans h.size hg.size⟩

/-- A name more, put into the tree's cell. -/
theorem SInv.name {base B : Nat} {w w' : World} {s : Int} {vN vK v' : Value} {ns : List ByteArray} {ks : List Tr} {xs : List Value} {G : List Nat} {nm : ByteArray} (h : SInv base B w s vN vK ns ks xs G)
    (hown : w'.ownsRow base 9 1 v' (ns.length + 1) (ns.map Value.string ++ [.string nm])) (hg : w.grownBy w' vN.ownBlock) (hv : v'.ownBlock = vN.ownBlock ∨ ∃ g, v'.ownBlock = some g ∧ w.heap.size ≤ g) :
    SInv base B (w'.setCell ⟨B, 3, none⟩ v') s v' vK (ns ++ [nm]) ks xs G := by
  have hBn : vN.ownBlock ≠ some B := fun e => by have := (h.names.lt B e).1; have := h.hB; omega
  have hBk : vK.ownBlock ≠ some B := fun e => by have := (h.got.row.lt B e).1; have := h.hB; omega
  have hset : w'.grownBy (w'.setCell ⟨B, 3, none⟩ v') (some B) := ⟨rfl, rfl, rfl, by simp [World.setCell], fun k _ hk => Below.heap_setCell _ _ _ _ (fun e => hk (by rw [e]))⟩
  have hBv : v'.ownBlock ≠ some B := fun e => by have := (hown.lt B e).1; have := h.hB; omega
  have hgot1 := h.got.other hg (fun b e => h.apart b e)
  refine ⟨h.hB, row5_set3 (h.cells.of_block (hg.block B h.cells.lt (fun e => hBn e.symm))) v', ?_, hgot1.other hset (fun b e => by cases e; exact ⟨hBk, fun hm => by have := (h.got.lt _ hm).1; have := h.hB; omega⟩), fun b hb => ?_, by have := hg.size; have := h.size; simp [World.setCell]; omega⟩
  · have := hown.kept hset (Or.inr (fun e => hBv e))
    simpa using this
  · rcases hv with e | ⟨g, e, hge⟩
    · exact h.apart b (by rw [← e]; exact hb)
    · rw [e] at hb
      simp only [Option.some.injEq] at hb
      subst hb
      exact ⟨fun e2 => by have := (h.got.row.lt g e2).2; omega, fun hm => by have := (h.got.lt g hm).2.1; omega⟩

/-- A kid more, put into the tree's cell. -/
theorem SInv.kid {base B m : Nat} {w w' : World} {s : Int} {vN vK v' : Value} {ns : List ByteArray} {ks : List Tr} {xs : List Value} {G F : List Nat} {t : Tr} {c : C5} (h : SInv base B w s vN vK ns ks xs G)
    (ht : Own w t c F) (hnd : F.Nodup) (hF : ∀ b, b ∈ F → m ≤ b ∧ b < w.heap.size) (hGm : ∀ b, b ∈ G → b < m) (hvm : ∀ b, vK.ownBlock = some b → b < m) (hnm : ∀ b, vN.ownBlock = some b → b < m) (hbm : base ≤ m)
    (hown : w'.ownsRow base 37 5 v' (ks.length + 1) (xs ++ c5l c)) (hg : w.grownBy w' vK.ownBlock) (hv : v'.ownBlock = vK.ownBlock ∨ ∃ g, v'.ownBlock = some g ∧ w.heap.size ≤ g) :
    SInv base B (w'.setCell ⟨B, 4, none⟩ v') s vN v' ns (ks ++ [t]) (xs ++ c5l c) (G ++ F) := by
  have hBn : vN.ownBlock ≠ some B := fun e => by have := (h.names.lt B e).1; have := h.hB; omega
  have hBk : vK.ownBlock ≠ some B := fun e => by have := (h.got.row.lt B e).1; have := h.hB; omega
  have hset : w'.grownBy (w'.setCell ⟨B, 4, none⟩ v') (some B) := ⟨rfl, rfl, rfl, by simp [World.setCell], fun k _ hk => Below.heap_setCell _ _ _ _ (fun e => hk (by rw [e]))⟩
  have hBv : v'.ownBlock ≠ some B := fun e => by have := (hown.lt B e).1; have := h.hB; omega
  have hpush := GotO.push h.got ht hnd hF hGm hvm hbm hown hg hv
  refine ⟨h.hB, row5_set4 (h.cells.of_block (hg.block B h.cells.lt (fun e => hBk e.symm))) v', ?_, hpush.other hset (fun b e => by cases e; exact ⟨hBv, fun hm => by have := (hpush.lt _ hm).1; have := h.hB; omega⟩), fun b hb => ?_, by have := hg.size; have := h.size; simp [World.setCell]; omega⟩
  · refine (h.names.kept hg ?_).kept hset (Or.inr (fun e => hBn e))
    rcases e : vN.ownBlock with _ | g
    · exact Or.inl rfl
    · exact Or.inr (fun e2 => (h.apart g e).1 e2.symm)
  · have ha := h.apart b hb
    have hbw := (h.names.lt b hb).2
    refine ⟨?_, fun hm => ?_⟩
    · rcases hv with e | ⟨g, e, hge⟩
      · rw [e]; exact ha.1
      · rw [e]; intro e2; simp only [Option.some.injEq] at e2; omega
    · rcases List.mem_append.1 hm with hm | hm
      · exact ha.2 hm
      · have := (hF b hm).1; have := hnm b hb; omega

theorem SInv.atN {base B : Nat} {w w' : World} {s : Int} {vN vK : Value} {ns : List ByteArray} {ks : List Tr} {xs : List Value} {G : List Nat} (h : SInv base B w s vN vK ns ks xs G) {o : Obj} (hg : (w.alloc o).grownBy w' vN.ownBlock) : w'.rowIs B 37 5 (row5 (.int .i64 s) (.int .i64 0) (.string ⟨#[]⟩) vN vK) :=
  (h.cells.alloc o).of_block (hg.block B (h.cells.alloc o).lt (fun e => by have := (h.names.lt B e.symm).1; have := h.hB; omega))
theorem SInv.atK {base B : Nat} {w w' : World} {s : Int} {vN vK : Value} {ns : List ByteArray} {ks : List Tr} {xs : List Value} {G : List Nat} (h : SInv base B w s vN vK ns ks xs G) {o : Obj} (hg : (w.alloc o).grownBy w' vK.ownBlock) : w'.rowIs B 37 5 (row5 (.int .i64 s) (.int .i64 0) (.string ⟨#[]⟩) vN vK) :=
  (h.cells.alloc o).of_block (hg.block B (h.cells.alloc o).lt (fun e => by have := (h.got.row.lt B e.symm).1; have := h.hB; omega))

/-- What was gathered is a tree in blocks of its own. -/
theorem SInv.done {base B : Nat} {w : World} {s : Int} {vN vK : Value} {ns : List ByteArray} {ks : List Tr} {xs : List Value} {G : List Nat} (h : SInv base B w s vN vK ns ks xs G) (hs : I64 s) (hns : ∀ x, x ∈ ns → x.size ≤ 9223372036854775807) :
    ∃ F, Own w (.mk s 0 ByteArray.empty ns ks) ⟨.int .i64 s, .int .i64 0, .string ByteArray.empty, vN, vK⟩ F ∧ F.Nodup ∧ ∀ b, b ∈ F → base ≤ b ∧ b < w.heap.size := by
  obtain ⟨F2, h2, n2, l2, m2⟩ := h.got.done
  obtain ⟨F1, h1, n1, l1, m1⟩ := strsOwn_of_row h.names hns
  refine ⟨F1 ++ F2, Own.make (t := .mk s 0 ByteArray.empty ns ks) rfl rfl rfl hs (show I64 0 from ⟨by decide, by decide⟩) (by simp [Tr.text]) h1 h2, List.nodup_append.2 ⟨n1, n2, fun a ha b hb e => ?_⟩, fun b hb => ?_⟩
  · subst e
    have hap := h.apart a (m1 a ha)
    rcases m2 a hb with h3 | h3
    · exact hap.1 h3
    · exact hap.2 h3
  · rcases List.mem_append.1 hb with hb | hb
    · exact l1 b hb
    · exact l2 b hb
end Go.Proofs.YthkjhmcbmakkdaaDoor
