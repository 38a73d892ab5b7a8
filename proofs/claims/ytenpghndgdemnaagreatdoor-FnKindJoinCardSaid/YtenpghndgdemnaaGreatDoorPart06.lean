/- What stands while the specification's l5Wider widens a schema: the boxes, the names and kids that are gathered, the kids sharing memory. No program walked; no conditions. -/
import Derived.Test.YtenpghndgdemnaaGreatDoorPart05
import Derived.Test.YtenpghndgdemnaaGreatDoorPart03
namespace Go.Proofs.YtenpghndgdemnaaGreatDoor
open Go Go.RowKit

/-- What stands: the argument's box, the answer's, the box in which names and kids are gathered (rows of the call's own, from lo on). -/
structure WI (R : Nat) (w : World) (c : C3) (v : Value) (b : List UInt8) (q : Nat) (W : World) (lo : Nat) (s : Int) (vN vK : Value) (ns : List ByteArray) (ks : List Kd) (xs : List Value) : Prop where
  sp : SP R w c v b q W
  out : W.rowIs (w.heap.size + 2) 26 3 (row3 (.int .i64 s) vN vK)
  nrow : W.ownsRow lo 9 1 vN ns.length (ns.map Value.string)
  krow : W.ownsRow lo 26 3 vK ks.length xs
  kl : KL3 (fun x => w.heap.size + 3 ≤ x ∧ x < W.heap.size ∧ vN.ownBlock ≠ some x ∧ vK.ownBlock ≠ some x) W ks xs
  apart : ∀ x, vN.ownBlock = some x → vK.ownBlock ≠ some x
  hlo : w.heap.size + 3 ≤ lo
  size : lo ≤ W.heap.size

section
variable {R : Nat} {w : World} {c : C3} {v : Value} {b : List UInt8} {q : Nat} {W W' : World} {lo : Nat} {s : Int} {vN vK v' : Value} {ns : List ByteArray} {ks : List Kd} {xs : List Value}

/-- Nothing turned but the reader's block. -/
theorem WI.next {q' : Nat} (h : WI R w c v b q W lo s vN vK ns ks xs) (hd : DR R W' v b q') (hb : But R W W') : WI R w c v b q' W' lo s vN vK ns ks xs := by
  have hR := h.sp.hR
  have hlo := h.hlo
  refine ⟨h.sp.next hd hb, h.out.of_block (hb.at h.out.lt (by omega)), h.nrow.kept hb ?_, h.krow.kept hb ?_, h.kl.carry (fun x hx => hb.at hx.2.1 (by omega)) (fun x hx => ⟨hx.1, Nat.lt_of_lt_of_le hx.2.1 hb.size, hx.2.2⟩), h.apart, hlo, Nat.le_trans h.size hb.size⟩
  · rcases e : vN.ownBlock with _ | g
    · exact Or.inl rfl
    · exact Or.inr (fun e2 => by have h1 := (h.nrow.lt g e).1; simp only [Option.some.injEq] at e2; omega)
  · rcases e : vK.ownBlock with _ | g
    · exact Or.inl rfl
    · exact Or.inr (fun e2 => by have h1 := (h.krow.lt g e).1; simp only [Option.some.injEq] at e2; omega)
theorem WI.on (h : WI R w c v b q W lo s vN vK ns ks xs) (hb : Below W.heap.size W W') : WI R w c v b q W' lo s vN vK ns ks xs := h.next (h.sp.dr.on hb) (But.of_below hb)
theorem WI.alloc (h : WI R w c v b q W lo s vN vK ns ks xs) (o : Obj) : WI R w c v b q (W.alloc o) lo s vN vK ns ks xs := h.on ((Below.refl _ _).alloc (Nat.le_refl _) o)
theorem WI.drew (h : WI R w c v b q W lo s vN vK ns ks xs) : WI R w c v b q W.drew lo s vN vK ns ks xs := h.on (Below.refl _ W).drew

theorem WI.atN (h : WI R w c v b q W lo s vN vK ns ks xs) (hg : W.grownBy W' vN.ownBlock) : W'.rowIs (w.heap.size + 2) 26 3 (row3 (.int .i64 s) vN vK) :=
  h.out.of_block (hg.block _ h.out.lt (fun e => by have := (h.nrow.lt _ e.symm).1; have := h.hlo; omega))
theorem WI.atK (h : WI R w c v b q W lo s vN vK ns ks xs) (hg : W.grownBy W' vK.ownBlock) : W'.rowIs (w.heap.size + 2) 26 3 (row3 (.int .i64 s) vN vK) :=
  h.out.of_block (hg.block _ h.out.lt (fun e => by have := (h.krow.lt _ e.symm).1; have := h.hlo; omega))

theorem setGrown (W : World) (B i : Nat) (u : Value) : W.grownBy (W.setCell ⟨B, i, none⟩ u) (some B) := ⟨rfl, rfl, rfl, by simp [World.setCell], fun k _ hk => Below.heap_setCell _ _ _ _ (fun e => hk (by rw [e]))⟩

/-- A name more, put into the box. -/
theorem WI.name {nm : ByteArray} (h : WI R w c v b q W lo s vN vK ns ks xs) (hown : W'.ownsRow lo 9 1 v' (ns.length + 1) (ns.map Value.string ++ [.string nm])) (hg : W.grownBy W' vN.ownBlock) (hv : v'.ownBlock = vN.ownBlock ∨ ∃ g, v'.ownBlock = some g ∧ W.heap.size ≤ g) :
    WI R w c v b q (W'.setCell ⟨w.heap.size + 2, 1, none⟩ v') lo s v' vK (ns ++ [nm]) ks xs := by
  have hlo := h.hlo
  have hset := setGrown W' (w.heap.size + 2) 1 v'
  have hBn : vN.ownBlock ≠ some (w.heap.size + 2) := fun e => by have := (h.nrow.lt _ e).1; omega
  have hBk : vK.ownBlock ≠ some (w.heap.size + 2) := fun e => by have := (h.krow.lt _ e).1; omega
  have hBv : v'.ownBlock ≠ some (w.heap.size + 2) := fun e => by have := (hown.lt _ e).1; omega
  have hfar : ∀ x, x < W.heap.size → vN.ownBlock ≠ some x → v'.ownBlock ≠ some x := fun x hx hn => by
    rcases hv with e | ⟨g, e, hge⟩
    · rw [e]; exact hn
    · rw [e]; intro e2; simp only [Option.some.injEq] at e2; omega
  refine ⟨(h.sp.touch hg (fun x e => by have := (h.nrow.lt x e).1; omega)).touch hset (fun x e => by cases e; exact Nat.le_refl _), row3_set1 (h.atN hg) v', ?_, ?_, ?_, ?_, hlo, by have := hg.size; have := h.size; simp [World.setCell]; omega⟩
  · have := hown.kept hset (Or.inr (fun e => hBv e))
    simpa using this
  · refine (h.krow.kept hg ?_).kept hset (Or.inr (fun e => hBk e))
    rcases e : vK.ownBlock with _ | g
    · exact Or.inl rfl
    · exact Or.inr (fun e2 => h.apart g e2.symm e)
  · refine h.kl.carry (fun x hx => ?_) (fun x hx => ⟨hx.1, by have := hg.size; simp [World.setCell]; omega, hfar x hx.2.1 hx.2.2.1, hx.2.2.2⟩)
    rw [Below.heap_setCell _ _ _ _ (by simp; omega)]
    exact hg.block x hx.2.1 (fun e => hx.2.2.1 e.symm)
  · intro x hx e
    rcases hv with e1 | ⟨g, e1, hge⟩
    · exact h.apart x (by rw [← e1]; exact hx) e
    · rw [e1] at hx
      simp only [Option.some.injEq] at hx
      have := (h.krow.lt x e).2
      omega

/-- A kid more, put into the box. -/
theorem WI.kid {kk : Kd} {d : C3} (h : WI R w c v b q W lo s vN vK ns ks xs) (hk : KRep (fun x => w.heap.size + 3 ≤ x ∧ x < W.heap.size ∧ vN.ownBlock ≠ some x ∧ vK.ownBlock ≠ some x) W kk d) (hown : W'.ownsRow lo 26 3 v' (ks.length + 1) (xs ++ c3l d)) (hg : W.grownBy W' vK.ownBlock) (hv : v'.ownBlock = vK.ownBlock ∨ ∃ g, v'.ownBlock = some g ∧ W.heap.size ≤ g) :
    WI R w c v b q (W'.setCell ⟨w.heap.size + 2, 2, none⟩ v') lo s vN v' ns (ks ++ [kk]) (xs ++ c3l d) := by
  have hlo := h.hlo
  have hset := setGrown W' (w.heap.size + 2) 2 v'
  have hBn : vN.ownBlock ≠ some (w.heap.size + 2) := fun e => by have := (h.nrow.lt _ e).1; omega
  have hBv : v'.ownBlock ≠ some (w.heap.size + 2) := fun e => by have := (hown.lt _ e).1; omega
  have hfar : ∀ x, x < W.heap.size → vK.ownBlock ≠ some x → v'.ownBlock ≠ some x := fun x hx hn => by
    rcases hv with e | ⟨g, e, hge⟩
    · rw [e]; exact hn
    · rw [e]; intro e2; simp only [Option.some.injEq] at e2; omega
  refine ⟨(h.sp.touch hg (fun x e => by have := (h.krow.lt x e).1; omega)).touch hset (fun x e => by cases e; exact Nat.le_refl _), row3_set2 (h.atK hg) v', ?_, ?_, ?_, ?_, hlo, by have := hg.size; have := h.size; simp [World.setCell]; omega⟩
  · refine (h.nrow.kept hg ?_).kept hset (Or.inr (fun e => hBn e))
    rcases e : vN.ownBlock with _ | g
    · exact Or.inl rfl
    · exact Or.inr (fun e2 => h.apart g e e2.symm)
  · have := hown.kept hset (Or.inr (fun e => hBv e))
    simpa using this
  · refine (h.kl.snoc hk).carry (fun x hx => ?_) (fun x hx => ⟨hx.1, by have := hg.size; simp [World.setCell]; omega, hx.2.2.1, hfar x hx.2.1 hx.2.2.2⟩)
    rw [Below.heap_setCell _ _ _ _ (by simp; omega)]
    exact hg.block x hx.2.1 (fun e => hx.2.2.2 e.symm)
  · intro x hx e
    rcases hv with e1 | ⟨g, e1, hge⟩
    · exact h.apart x hx (by rw [← e1]; exact e)
    · rw [e1] at e
      simp only [Option.some.injEq] at e
      have := (h.nrow.lt x hx).2
      omega

/-- What was gathered is a schema in new memory. -/
theorem WI.done (h : WI R w c v b q W lo s vN vK ns ks xs) (hs : I64 s) (hns : ∀ x, x ∈ ns → x.size ≤ 9223372036854775807) (hk : ks.length ≤ 1000000) : KRep (fun x => w.heap.size + 3 ≤ x ∧ x < W.heap.size) W (.mk s ns ks) ⟨.int .i64 s, vN, vK⟩ := by
  have hlo := h.hlo
  obtain ⟨F, hst, -, hF, -⟩ := strsOwn_of_row h.nrow hns
  rw [KRep]
  refine ⟨rfl, hs, hst.at.carry (fun x hx => rfl) (fun x hx => ⟨by have := (hF x hx).1; omega, (hF x hx).2⟩), ?_⟩
  by_cases h0 : 0 < ks.length
  · obtain ⟨g, cap, e, hg1, hg2⟩ := h.krow.form h0
    subst e
    refine ⟨some ⟨g, 0, none⟩, cap, rfl, by omega, fun _ => ⟨g, 0, rfl, ⟨by omega, (h.krow.lt g rfl).2⟩, KL3.back (h.kl.carry (fun _ _ => rfl) (fun x hx => ⟨hx.1, hx.2.1⟩)) (fun j u hj => ?_)⟩⟩
    have hc := h.krow.cells (g := g) rfl j u hj
    rw [Addr.add_lit, Nat.zero_add] at hc
    exact hc
  · have h00 : ks = [] := List.eq_nil_of_length_eq_zero (by omega)
    subst h00
    obtain ⟨a, cap, e⟩ : ∃ a cap, vK = .slice a 0 cap := by
      rcases h.krow.2 with ⟨e, -⟩ | ⟨g, cap, cur, e, -⟩
      · exact ⟨_, _, e⟩
      · exact ⟨_, _, e⟩
    exact ⟨a, cap, e, by simp, fun hh => absurd rfl hh⟩
end

/-- What stands in the second loop: also the names that may come (block B), and all memory below them as it was in W0. -/
structure WJ (R : Nat) (w : World) (c : C3) (v : Value) (b : List UInt8) (q : Nat) (W : World) (B : Nat) (W0 : World) (s : Int) (vN vK : Value) (ns : List ByteArray) (ks : List Kd) (xs : List Value) : Prop where
  wi : WI R w c v b q W (B + 1) s vN vK ns ks xs
  kp : ∀ x, x < B → x ≠ R → x ≠ w.heap.size + 2 → W.heap[x]? = W0.heap[x]?
  nms : W.rowIs B 9 8 (fun i => .string (nm8.getD i ByteArray.empty))
  hB : w.heap.size + 3 ≤ B

section
variable {R : Nat} {w : World} {c : C3} {v : Value} {b : List UInt8} {q : Nat} {W W' W0 : World} {B : Nat} {s : Int} {vN vK v' : Value} {ns : List ByteArray} {ks : List Kd} {xs : List Value}
theorem WJ.next {q' : Nat} (h : WJ R w c v b q W B W0 s vN vK ns ks xs) (hd : DR R W' v b q') (hb : But R W W') : WJ R w c v b q' W' B W0 s vN vK ns ks xs := by
  have hR := h.wi.sp.hR
  have hB := h.hB
  have hs := h.wi.size
  exact ⟨h.wi.next hd hb, fun x h1 h2 h3 => (hb.at (by omega) h2).trans (h.kp x h1 h2 h3), h.nms.of_block (hb.at h.nms.lt (by omega)), hB⟩
theorem WJ.on (h : WJ R w c v b q W B W0 s vN vK ns ks xs) (hb : Below W.heap.size W W') : WJ R w c v b q W' B W0 s vN vK ns ks xs := h.next (h.wi.sp.dr.on hb) (But.of_below hb)
theorem WJ.alloc (h : WJ R w c v b q W B W0 s vN vK ns ks xs) (o : Obj) : WJ R w c v b q (W.alloc o) B W0 s vN vK ns ks xs := h.on ((Below.refl _ _).alloc (Nat.le_refl _) o)
theorem WJ.drew (h : WJ R w c v b q W B W0 s vN vK ns ks xs) : WJ R w c v b q W.drew B W0 s vN vK ns ks xs := h.on (Below.refl _ W).drew
theorem WJ.name {nm : ByteArray} (h : WJ R w c v b q W B W0 s vN vK ns ks xs) (hown : W'.ownsRow (B + 1) 9 1 v' (ns.length + 1) (ns.map Value.string ++ [.string nm])) (hg : W.grownBy W' vN.ownBlock) (hv : v'.ownBlock = vN.ownBlock ∨ ∃ g, v'.ownBlock = some g ∧ W.heap.size ≤ g) :
    WJ R w c v b q (W'.setCell ⟨w.heap.size + 2, 1, none⟩ v') B W0 s v' vK (ns ++ [nm]) ks xs := by
  have hB := h.hB
  have hs := h.wi.size
  have hfar : ∀ x, x ≤ B → x ≠ w.heap.size + 2 → (W'.setCell ⟨w.heap.size + 2, 1, none⟩ v').heap[x]? = W.heap[x]? := fun x h1 h2 => by
    rw [Below.heap_setCell _ _ _ _ (by simpa using h2)]
    exact hg.block x (by omega) (fun e => by have := (h.wi.nrow.lt x e.symm).1; omega)
  exact ⟨h.wi.name hown hg hv, fun x h1 h2 h3 => (hfar x (by omega) h3).trans (h.kp x h1 h2 h3), h.nms.of_block (hfar B (Nat.le_refl _) (by omega)), hB⟩
theorem WJ.kid {kk : Kd} {d : C3} (h : WJ R w c v b q W B W0 s vN vK ns ks xs) (hk : KRep (fun x => w.heap.size + 3 ≤ x ∧ x < W.heap.size ∧ vN.ownBlock ≠ some x ∧ vK.ownBlock ≠ some x) W kk d) (hown : W'.ownsRow (B + 1) 26 3 v' (ks.length + 1) (xs ++ c3l d)) (hg : W.grownBy W' vK.ownBlock) (hv : v'.ownBlock = vK.ownBlock ∨ ∃ g, v'.ownBlock = some g ∧ W.heap.size ≤ g) :
    WJ R w c v b q (W'.setCell ⟨w.heap.size + 2, 2, none⟩ v') B W0 s vN v' ns (ks ++ [kk]) (xs ++ c3l d) := by
  have hB := h.hB
  have hs := h.wi.size
  have hfar : ∀ x, x ≤ B → x ≠ w.heap.size + 2 → (W'.setCell ⟨w.heap.size + 2, 2, none⟩ v').heap[x]? = W.heap[x]? := fun x h1 h2 => by
    rw [Below.heap_setCell _ _ _ _ (by simpa using h2)]
    exact hg.block x (by omega) (fun e => by have := (h.wi.krow.lt x e.symm).1; omega)
  exact ⟨h.wi.kid hk hown hg hv, fun x h1 h2 h3 => (hfar x (by omega) h3).trans (h.kp x h1 h2 h3), h.nms.of_block (hfar B (Nat.le_refl _) (by omega)), hB⟩
/-- A kid that stood there ahead of the loop. -/
theorem WJ.oldkid {kk : Kd} {d : C3} (h : WJ R w c v b q W B W0 s vN vK ns ks xs) (hk : KRep (fun x => w.heap.size + 3 ≤ x ∧ x < B) W0 kk d) : KRep (fun x => w.heap.size + 3 ≤ x ∧ x < W.heap.size ∧ vN.ownBlock ≠ some x ∧ vK.ownBlock ≠ some x) W kk d := by
  have hR := h.wi.sp.hR
  have hs := h.wi.size
  exact KRep.carry (fun x hx => h.kp x hx.2 (by omega) (by omega)) (fun x hx => ⟨hx.1, by omega, fun e => by have := (h.wi.nrow.lt x e).1; omega, fun e => by have := (h.wi.krow.lt x e).1; omega⟩) _ _ hk
theorem WJ.start {lo : Nat} (h : WI R w c v b q W lo s (.slice none 0 0) vK [] ks xs) : WJ R w c v b q (((W.setCell ⟨w.heap.size + 1 + 1, 2, none⟩ (.slice (some ⟨W.heap.size + 1, 0, none⟩) 0 0)).alloc (.cells (nm8.map Value.string).toArray 9)).alloc (.cells #[] 26)) W.heap.size W s (.slice none 0 0) (.slice (some ⟨W.heap.size + 1, 0, none⟩) 0 0) [] [] [] := by
  have hlo := h.hlo
  have hsz := h.size
  rw [show w.heap.size + 1 + 1 = w.heap.size + 2 from rfl]
  have hset := setGrown W (w.heap.size + 2) 2 (.slice (some ⟨W.heap.size + 1, 0, none⟩) 0 0)
  have hsp := h.sp.touch hset (fun x e => by cases e; exact Nat.le_refl _)
  have hout := row3_set2 h.out (.slice (some ⟨W.heap.size + 1, 0, none⟩) 0 0)
  have hoth : ∀ x, x ≠ w.heap.size + 2 → (W.setCell ⟨w.heap.size + 2, 2, none⟩ (.slice (some ⟨W.heap.size + 1, 0, none⟩) 0 0)).heap[x]? = W.heap[x]? := fun x hx => Below.heap_setCell _ _ _ _ (by simpa using hx)
  have hz : (W.setCell ⟨w.heap.size + 2, 2, none⟩ (.slice (some ⟨W.heap.size + 1, 0, none⟩) 0 0)).heap.size = W.heap.size := by simp only [size_setCell]
  generalize W.setCell ⟨w.heap.size + 2, 2, none⟩ (.slice (some ⟨W.heap.size + 1, 0, none⟩) 0 0) = V at *
  have hb : Below V.heap.size V ((V.alloc (.cells (nm8.map Value.string).toArray 9)).alloc (.cells #[] 26)) := ((Below.refl _ _).alloc (Nat.le_refl _) _).alloc (by simp) _
  have hrow : ((V.alloc (.cells (nm8.map Value.string).toArray 9)).alloc (.cells #[] 26)).rowIs W.heap.size 9 8 (fun i => .string (nm8.getD i ByteArray.empty)) := by
    have := (World.rowIs_alloc V (nm8.map Value.string).toArray 9 (fun i => .string (nm8.getD i ByteArray.empty)) (fun i hi => by
      have hi' : i < 8 := by simpa [nm8] using hi
      rcases (show i = 0 ∨ i = 1 ∨ i = 2 ∨ i = 3 ∨ i = 4 ∨ i = 5 ∨ i = 6 ∨ i = 7 by omega) with rfl | rfl | rfl | rfl | rfl | rfl | rfl | rfl <;> rfl)).alloc (.cells #[] 26)
    rw [hz] at this
    exact this
  have hemp := empty_row (base := W.heap.size + 1) (size := 3) (World.rowIs_alloc (V.alloc (.cells (nm8.map Value.string).toArray 9)) #[] 26 (fun _ => .bool false) (fun i hi => by simp at hi)) (by rw [World.size_alloc, hz]; exact Nat.le_refl _)
  rw [World.size_alloc, hz] at hemp
  refine ⟨⟨hsp.on hb, hout.of_block (hb.block _ hout.lt), World.ownsRow_nil _ _ _ _, hemp, ⟨rfl, fun i hi => by simp at hi⟩, fun x e => by simp [Value.ownBlock] at e, by omega, by simp [hz]⟩, fun x h1 h2 h3 => ?_, hrow, by omega⟩
  rw [hb.block x (by rw [hz]; exact h1)]
  exact hoth x h3
end
end Go.Proofs.YtenpghndgdemnaaGreatDoor

/- The text of a schema, as a plain function on data, and its length. No program, no conditions. -/

namespace Go.Proofs.YtenpghndgdemnaaGreatDoor
open Go Go.RowKit

/-- What stands ahead of kid i of a form. -/
def kAhead (ns : List ByteArray) (i : Nat) : List UInt8 := (if 0 < i then [44] else []) ++ ((ns.getD i ByteArray.empty).data.toList ++ [58])

mutual
def kxT : Kd → List UInt8
  | .mk s ns ks =>
    if s = 1 then [110, 117, 109]
    else if s = 2 then [116, 101, 120, 116]
    else if s = 3 then [102, 108, 97, 103]
    else if s = 4 then [91] ++ kxM ks ++ [93]
    else if s = 6 then [63] ++ kxM ks
    else [123] ++ kxK ns 0 ks ++ [125]
def kxM : List Kd → List UInt8
  | [] => []
  | t :: _ => kxT t
def kxK (ns : List ByteArray) (i : Nat) : List Kd → List UInt8
  | [] => []
  | t :: r => kAhead ns i ++ kxT t ++ kxK ns (i + 1) r
end

mutual
/-- All of its parts are ok, but for their count and levels. -/
def okD : Kd → Bool
  | .mk s ns ks => shB (.mk s ns ks) && okDs ks
def okDs : List Kd → Bool
  | [] => true
  | t :: r => okD t && okDs r
end

theorem okD_eq (t : Kd) : okD t = (shB t && okDs t.kids) := by
  obtain ⟨s, ns, ks⟩ := t; rw [okD]; rfl
theorem okDs_get {ks : List Kd} (h : okDs ks = true) (i : Nat) (hi : i < ks.length) : okD ks[i] = true := by
  induction ks generalizing i with
  | nil => simp at hi
  | cons t r ih =>
    rw [okDs, Bool.and_eq_true] at h
    cases i with
    | zero => exact h.1
    | succ i => exact ih h.2 i (by simpa using hi)

theorem shB_cases {t : Kd} (h : shB t = true) : ((t.sort = 1 ∨ t.sort = 2 ∨ t.sort = 3) ∧ t.kids.length = 0 ∧ t.names.length = 0) ∨ ((t.sort = 4 ∨ t.sort = 6) ∧ t.kids.length = 1 ∧ t.names.length = 0) ∨ (t.sort = 5 ∧ t.kids.length = t.names.length ∧ riseB t.names = true) := by
  unfold shB at h
  by_cases h1 : t.sort = 1 ∨ t.sort = 2 ∨ t.sort = 3
  · rw [if_pos h1] at h; exact Or.inl ⟨h1, of_decide_eq_true h⟩
  · rw [if_neg h1] at h
    by_cases h2 : t.sort = 4 ∨ t.sort = 6
    · rw [if_pos h2] at h; exact Or.inr (Or.inl ⟨h2, of_decide_eq_true h⟩)
    · rw [if_neg h2] at h
      by_cases h3 : t.sort = 5
      · rw [if_pos h3, Bool.and_eq_true] at h; exact Or.inr (Or.inr ⟨h3, of_decide_eq_true h.1, h.2⟩)
      · rw [if_neg h3] at h; cases h

mutual
theorem pord_len : ∀ (t : Kd) (l : Int), (pord t l).length = ksz t
  | .mk s ns ks, l => by rw [pord, ksz, List.length_cons, pordK_len ks (l + 1)]; omega
theorem pordK_len : ∀ (ks : List Kd) (l : Int), (pordK ks l).length = klsz ks
  | [], l => by rw [pordK, klsz]; rfl
  | t :: r, l => by rw [pordK, klsz, List.length_append, pord_len t l, pordK_len r l]
end
mutual
theorem okD_pord : ∀ (t : Kd) (l : Int), (pord t l).all gdB = true → okD t = true
  | .mk s ns ks, l => by
    intro h
    rw [pord, List.all_cons, Bool.and_eq_true] at h
    rw [okD, Bool.and_eq_true]
    refine ⟨?_, okDs_pord ks (l + 1) h.2⟩
    have := h.1
    simp only [gdB, Bool.and_eq_true] at this
    exact this.2
theorem okDs_pord : ∀ (ks : List Kd) (l : Int), (pordK ks l).all gdB = true → okDs ks = true
  | [], l => by intro _; rw [okDs]
  | t :: r, l => by
    intro h
    rw [pordK, List.all_append, Bool.and_eq_true] at h
    rw [okDs, Bool.and_eq_true]
    exact ⟨okD_pord t l h.1, okDs_pord r l h.2⟩
end

theorem ok_of_qT {t : Kd} (h : 0 < qT t 1) : okD t = true ∧ ksz t ≤ 40 := by
  have h' : decide (0 < qT t 1) = true := decide_eq_true h
  rw [qT_start, Bool.and_eq_true] at h'
  refine ⟨okD_pord t 1 h'.1, ?_⟩
  rw [← pord_len t 1]; exact of_decide_eq_true h'.2

theorem name_size {s : ByteArray} (h : nameOkB s = true) : s.size ≤ 8 := by
  unfold nameOkB at h
  simp only [Bool.and_eq_true, decide_eq_true_eq] at h
  omega


end Go.Proofs.YtenpghndgdemnaaGreatDoor

/- Whether a tree is of a schema, as a function on data; trees all of whose parts are ok. Definitions and small laws; no program, no conditions. -/

namespace Go.Proofs.YtenpghndgdemnaaGreatDoor
open Go Go.RowKit


/-- The schema of a tree's kid. -/
def kidOf (k : Kd) (i : Nat) : Kd := if k.sort = 5 then k.kids.getD i (.mk 0 [] []) else k.kids.getD 0 (.mk 0 [] [])
mutual
/-- A tree that is ok is of a schema that is ok. -/
def hT : Tr → Kd → Bool
  | .mk s _ _ ns ks, k => decide (k.sort = s) && decide (k.names = ns) && hK ks k 0
def hK : List Tr → Kd → Nat → Bool
  | [], _, _ => true
  | t :: r, k, i => hT t (kidOf k i) && hK r k (i + 1)
end
theorem lst_loop (s : ByteArray) (n : Nat) : ∀ (i : Nat) (r : List UInt8), s.size - i = n → ByteArray.toList.loop s i r = r.reverse ++ s.data.toList.drop i := by
  induction n with
  | zero =>
    intro i r h
    unfold ByteArray.toList.loop
    rw [if_neg (by omega), List.drop_eq_nil_of_le (by simp only [Array.length_toList]; show s.size ≤ i; omega), List.append_nil]
  | succ n ih =>
    intro i r h
    unfold ByteArray.toList.loop
    have hi : i < s.size := by omega
    have e : s.get! i = s.data.toList[i]'(by simpa using hi) := by
      obtain ⟨d⟩ := s
      exact getElem!_pos d i hi
    have hdrop : s.data.toList.drop i = s.data.toList[i]'(by simpa using hi) :: s.data.toList.drop (i + 1) := List.drop_eq_getElem_cons (by simpa using hi)
    rw [if_pos hi, ih (i + 1) _ (by omega), hdrop, e, List.reverse_cons, List.append_assoc]
    rfl
theorem lst_data (s : ByteArray) : s.toList = s.data.toList := by
  have := lst_loop s s.size 0 [] (by omega)
  rw [List.drop_zero] at this
  exact this
theorem lst_beq (a b : ByteArray) : (a.toList == b.toList) = decide (a = b) := by
  rw [lst_data, lst_data, Bool.eq_iff_iff]
  simp only [beq_iff_eq, decide_eq_true_eq]
  constructor
  · intro h; exact ByteArray.ext (Array.toList_inj.1 h)
  · intro h; rw [h]
end Go.Proofs.YtenpghndgdemnaaGreatDoor
