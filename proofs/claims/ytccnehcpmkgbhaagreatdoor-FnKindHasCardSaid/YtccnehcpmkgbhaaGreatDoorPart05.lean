/- A part. -/
import Derived.Test.YtccnehcpmkgbhaaGreatDoorPart04
namespace Go.Proofs.YtccnehcpmkgbhaaGreatDoor
open Go Go.RowKit
structure WI (R : Nat) (w : World) (c : C3) (v : Value) (b : List UInt8) (q : Nat) (W : World) (lo : Nat) (s : Int) (vN vK : Value) (ns : List ByteArray) (ks : List Kd) (xs : List Value) : Prop where
 sp : SP R w c v b q W
 out : W.rowIs (w.heap.size + 2) 26 3 (row3 (.int .i64 s) vN vK)
 nrow : W.ownsRow lo 9 1 vN ns.length (ns.map Value.string)
 krow : W.ownsRow lo 26 3 vK ks.length xs
 kl : KL3 (fun x => w.heap.size + 3 ≤ x ∧ x < W.heap.size ∧ vN.ownBlock ≠ some x ∧ vK.ownBlock ≠ some x) W ks xs
 apart : ∀ x, vN.ownBlock = some x → vK.ownBlock ≠ some x
 hlo : w.heap.size + 3 ≤ lo
 size : lo ≤ W.heap.size
section
variable {R : Nat} {w : World} {c : C3} {v : Value} {b : List UInt8} {q : Nat} {W W' : World} {lo : Nat} {s : Int} {vN vK v' : Value} {ns : List ByteArray} {ks : List Kd} {xs : List Value}
theorem WI.next {q' : Nat} (h : WI R w c v b q W lo s vN vK ns ks xs) (hd : DR R W' v b q') (hb : But R W W') : WI R w c v b q' W' lo s vN vK ns ks xs := by
 have hR := h.sp.hR
 have hlo := h.hlo
 refine ⟨h.sp.next hd hb, h.out.of_block (hb.at h.out.lt (by omega)), h.nrow.kept hb ?_, h.krow.kept hb ?_, h.kl.carry (fun x hx => hb.at hx.2.1 (by omega)) (fun x hx => ⟨hx.1, Nat.lt_of_lt_of_le hx.2.1 hb.size, hx.2.2⟩), h.apart, hlo, Nat.le_trans h.size hb.size⟩
 · rcases e : vN.ownBlock with _ | g
   · exact Or.inl rfl
   · exact Or.inr (fun e2 => by have h1 := (h.nrow.lt g e).1; simp only [Option.some.injEq] at e2; omega)
 · rcases e : vK.ownBlock with _ | g
   · exact Or.inl rfl
   · exact Or.inr (fun e2 => by have h1 := (h.krow.lt g e).1; simp only [Option.some.injEq] at e2; omega)
theorem WI.on (h : WI R w c v b q W lo s vN vK ns ks xs) (hb : Below W.heap.size W W') : WI R w c v b q W' lo s vN vK ns ks xs := h.next (h.sp.dr.on hb) (But.of_below hb)
theorem WI.alloc (h : WI R w c v b q W lo s vN vK ns ks xs) (o : Obj) : WI R w c v b q (W.alloc o) lo s vN vK ns ks xs := h.on ((Below.refl _ _).alloc (Nat.le_refl _) o)
theorem WI.drew (h : WI R w c v b q W lo s vN vK ns ks xs) : WI R w c v b q W.drew lo s vN vK ns ks xs := h.on (Below.refl _ W).drew
theorem WI.atN (h : WI R w c v b q W lo s vN vK ns ks xs) (hg : W.grownBy W' vN.ownBlock) : W'.rowIs (w.heap.size + 2) 26 3 (row3 (.int .i64 s) vN vK) :=
 h.out.of_block (hg.block _ h.out.lt (fun e => by have := (h.nrow.lt _ e.symm).1; have := h.hlo; omega))
theorem WI.atK (h : WI R w c v b q W lo s vN vK ns ks xs) (hg : W.grownBy W' vK.ownBlock) : W'.rowIs (w.heap.size + 2) 26 3 (row3 (.int .i64 s) vN vK) :=
 h.out.of_block (hg.block _ h.out.lt (fun e => by have := (h.krow.lt _ e.symm).1; have := h.hlo; omega))
theorem setGrown (W : World) (B i : Nat) (u : Value) : W.grownBy (W.setCell ⟨B, i, none⟩ u) (some B) := ⟨rfl, rfl, rfl, by simp [World.setCell], fun k _ hk => Below.heap_setCell _ _ _ _ (fun e => hk (by rw [e]))⟩
theorem WI.name {nm : ByteArray} (h : WI R w c v b q W lo s vN vK ns ks xs) (hown : W'.ownsRow lo 9 1 v' (ns.length + 1) (ns.map Value.string ++ [.string nm])) (hg : W.grownBy W' vN.ownBlock) (hv : v'.ownBlock = vN.ownBlock ∨ ∃ g, v'.ownBlock = some g ∧ W.heap.size ≤ g) :
 WI R w c v b q (W'.setCell ⟨w.heap.size + 2, 1, none⟩ v') lo s v' vK (ns ++ [nm]) ks xs := by
 have hlo := h.hlo
 have hset := setGrown W' (w.heap.size + 2) 1 v'
 have hBn : vN.ownBlock ≠ some (w.heap.size + 2) := fun e => by have := (h.nrow.lt _ e).1; omega
 have hBk : vK.ownBlock ≠ some (w.heap.size + 2) := fun e => by have := (h.krow.lt _ e).1; omega
 have hBv : v'.ownBlock ≠ some (w.heap.size + 2) := fun e => by have := (hown.lt _ e).1; omega
 have hfar : ∀ x, x < W.heap.size → vN.ownBlock ≠ some x → v'.ownBlock ≠ some x := fun x hx hn => by
  rcases hv with e | ⟨g, e, hge⟩
  · rw [e]; exact hn
  · rw [e]; intro e2; simp only [Option.some.injEq] at e2; omega
 refine ⟨(h.sp.touch hg (fun x e => by have := (h.nrow.lt x e).1; omega)).touch hset (fun x e => by cases e; exact Nat.le_refl _), row3_set1 (h.atN hg) v', ?_, ?_, ?_, ?_, hlo, by have := hg.size; have := h.size; simp [World.setCell]; omega⟩
 · have := hown.kept hset (Or.inr (fun e => hBv e))
   simpa using this
 · refine (h.krow.kept hg ?_).kept hset (Or.inr (fun e => hBk e))
   rcases e : vK.ownBlock with _ | g
   · exact Or.inl rfl
   · exact Or.inr (fun e2 => h.apart g e2.symm e)
 · refine h.kl.carry (fun x hx => ?_) (fun x hx => ⟨hx.1, by have := hg.size; simp [World.setCell]; omega, hfar x hx.2.1 hx.2.2.1, hx.2.2.2⟩)
   rw [Below.heap_setCell _ _ _ _ (by simp; omega)]
   exact hg.block x hx.2.1 (fun e => hx.2.2.1 e.symm)
 · intro x hx e
   rcases hv with e1 | ⟨g, e1, hge⟩
   · exact h.apart x (by rw [← e1]; exact hx) e
   · rw [e1] at hx
     simp only [Option.some.injEq] at hx
     have := (h.krow.lt x e).2
     omega
theorem WI.kid {kk : Kd} {d : C3} (h : WI R w c v b q W lo s vN vK ns ks xs) (hk : KRep (fun x => w.heap.size + 3 ≤ x ∧ x < W.heap.size ∧ vN.ownBlock ≠ some x ∧ vK.ownBlock ≠ some x) W kk d) (hown : W'.ownsRow lo 26 3 v' (ks.length + 1) (xs ++ c3l d)) (hg : W.grownBy W' vK.ownBlock) (hv : v'.ownBlock = vK.ownBlock ∨ ∃ g, v'.ownBlock = some g ∧ W.heap.size ≤ g) :
 WI R w c v b q (W'.setCell ⟨w.heap.size + 2, 2, none⟩ v') lo s vN v' ns (ks ++ [kk]) (xs ++ c3l d) := by
 have hlo := h.hlo
 have hset := setGrown W' (w.heap.size + 2) 2 v'
 have hBn : vN.ownBlock ≠ some (w.heap.size + 2) := fun e => by have := (h.nrow.lt _ e).1; omega
 have hBv : v'.ownBlock ≠ some (w.heap.size + 2) := fun e => by have := (hown.lt _ e).1; omega
 have hfar : ∀ x, x < W.heap.size → vK.ownBlock ≠ some x → v'.ownBlock ≠ some x := fun x hx hn => by
  rcases hv with e | ⟨g, e, hge⟩
  · rw [e]; exact hn
  · rw [e]; intro e2; simp only [Option.some.injEq] at e2; omega
 refine ⟨(h.sp.touch hg (fun x e => by have := (h.krow.lt x e).1; omega)).touch hset (fun x e => by cases e; exact Nat.le_refl _), row3_set2 (h.atK hg) v', ?_, ?_, ?_, ?_, hlo, by have := hg.size; have := h.size; simp [World.setCell]; omega⟩
 · refine (h.nrow.kept hg ?_).kept hset (Or.inr (fun e => hBn e))
   rcases e : vN.ownBlock with _ | g
   · exact Or.inl rfl
   · exact Or.inr (fun e2 => h.apart g e e2.symm)
 · have := hown.kept hset (Or.inr (fun e => hBv e))
   simpa using this
 · refine (h.kl.snoc hk).carry (fun x hx => ?_) (fun x hx => ⟨hx.1, by have := hg.size; simp [World.setCell]; omega, hx.2.2.1, hfar x hx.2.1 hx.2.2.2⟩)
   rw [Below.heap_setCell _ _ _ _ (by simp; omega)]
   exact hg.block x hx.2.1 (fun e => hx.2.2.2 e.symm)
 · intro x hx e
   rcases hv with e1 | ⟨g, e1, hge⟩
   · exact h.apart x hx (by rw [← e1]; exact e)
   · rw [e1] at e
     simp only [Option.some.injEq] at e
     have := (h.nrow.lt x hx).2
     omega
theorem WI.done (h : WI R w c v b q W lo s vN vK ns ks xs) (hs : I64 s) (hns : ∀ x, x ∈ ns → x.size ≤ 9223372036854775807) (hk : ks.length ≤ 1000000) : KRep (fun x => w.heap.size + 3 ≤ x ∧ x < W.heap.size) W (.mk s ns ks) ⟨.int .i64 s, vN, vK⟩ := by
 have hlo := h.hlo
 obtain ⟨F, hst, -, hF, -⟩ := strsOwn_of_row h.nrow hns
 rw [KRep]
 refine ⟨rfl, hs, hst.at.carry (fun x hx => rfl) (fun x hx => ⟨by have := (hF x hx).1; omega, (hF x hx).2⟩), ?_⟩
 by_cases h0 : 0 < ks.length
 · obtain ⟨g, cap, e, hg1, hg2⟩ := h.krow.form h0
   subst e
   refine ⟨some ⟨g, 0, none⟩, cap, rfl, by omega, fun _ => ⟨g, 0, rfl, ⟨by omega, (h.krow.lt g rfl).2⟩, KL3.back (h.kl.carry (fun _ _ => rfl) (fun x hx => ⟨hx.1, hx.2.1⟩)) (fun j u hj => ?_)⟩⟩
   have hc := h.krow.cells (g := g) rfl j u hj
   rw [Addr.add_lit, Nat.zero_add] at hc
   exact hc
 · have h00 : ks = [] := List.eq_nil_of_length_eq_zero (by omega)
   subst h00
   obtain ⟨a, cap, e⟩ : ∃ a cap, vK = .slice a 0 cap := by
    rcases h.krow.2 with ⟨e, -⟩ | ⟨g, cap, cur, e, -⟩
    · exact ⟨_, _, e⟩
    · exact ⟨_, _, e⟩
   exact ⟨a, cap, e, by simp, fun hh => absurd rfl hh⟩
end
structure WJ (R : Nat) (w : World) (c : C3) (v : Value) (b : List UInt8) (q : Nat) (W : World) (B : Nat) (W0 : World) (s : Int) (vN vK : Value) (ns : List ByteArray) (ks : List Kd) (xs : List Value) : Prop where
 wi : WI R w c v b q W (B + 1) s vN vK ns ks xs
 kp : ∀ x, x < B → x ≠ R → x ≠ w.heap.size + 2 → W.heap[x]? = W0.heap[x]?
 nms : W.rowIs B 9 8 (fun i => .string (nm8.getD i ByteArray.empty))
 hB : w.heap.size + 3 ≤ B
section
variable {R : Nat} {w : World} {c : C3} {v : Value} {b : List UInt8} {q : Nat} {W W' W0 : World} {B : Nat} {s : Int} {vN vK v' : Value} {ns : List ByteArray} {ks : List Kd} {xs : List Value}
theorem WJ.next {q' : Nat} (h : WJ R w c v b q W B W0 s vN vK ns ks xs) (hd : DR R W' v b q') (hb : But R W W') : WJ R w c v b q' W' B W0 s vN vK ns ks xs := by
 have hR := h.wi.sp.hR
 have hB := h.hB
 have hs := h.wi.size
 exact ⟨h.wi.next hd hb, fun x h1 h2 h3 => (hb.at (by omega) h2).trans (h.kp x h1 h2 h3), h.nms.of_block (hb.at h.nms.lt (by omega)), hB⟩
theorem WJ.on (h : WJ R w c v b q W B W0 s vN vK ns ks xs) (hb : Below W.heap.size W W') : WJ R w c v b q W' B W0 s vN vK ns ks xs := h.next (h.wi.sp.dr.on hb) (But.of_below hb)
theorem WJ.alloc (h : WJ R w c v b q W B W0 s vN vK ns ks xs) (o : Obj) : WJ R w c v b q (W.alloc o) B W0 s vN vK ns ks xs := h.on ((Below.refl _ _).alloc (Nat.le_refl _) o)
theorem WJ.drew (h : WJ R w c v b q W B W0 s vN vK ns ks xs) : WJ R w c v b q W.drew B W0 s vN vK ns ks xs := h.on (Below.refl _ W).drew
theorem WJ.name {nm : ByteArray} (h : WJ R w c v b q W B W0 s vN vK ns ks xs) (hown : W'.ownsRow (B + 1) 9 1 v' (ns.length + 1) (ns.map Value.string ++ [.string nm])) (hg : W.grownBy W' vN.ownBlock) (hv : v'.ownBlock = vN.ownBlock ∨ ∃ g, v'.ownBlock = some g ∧ W.heap.size ≤ g) :
 WJ R w c v b q (W'.setCell ⟨w.heap.size + 2, 1, none⟩ v') B W0 s v' vK (ns ++ [nm]) ks xs := by
 have hB := h.hB
 have hs := h.wi.size
 have hfar : ∀ x, x ≤ B → x ≠ w.heap.size + 2 → (W'.setCell ⟨w.heap.size + 2, 1, none⟩ v').heap[x]? = W.heap[x]? := fun x h1 h2 => by
  rw [Below.heap_setCell _ _ _ _ (by simpa using h2)]
  exact hg.block x (by omega) (fun e => by have := (h.wi.nrow.lt x e.symm).1; omega)
 exact ⟨h.wi.name hown hg hv, fun x h1 h2 h3 => (hfar x (by omega) h3).trans (h.kp x h1 h2 h3), h.nms.of_block (hfar B (Nat.le_refl _) (by omega)), hB⟩
theorem WJ.kid {kk : Kd} {d : C3} (h : WJ R w c v b q W B W0 s vN vK ns ks xs) (hk : KRep (fun x => w.heap.size + 3 ≤ x ∧ x < W.heap.size ∧ vN.ownBlock ≠ some x ∧ vK.ownBlock ≠ some x) W kk d) (hown : W'.ownsRow (B + 1) 26 3 v' (ks.length + 1) (xs ++ c3l d)) (hg : W.grownBy W' vK.ownBlock) (hv : v'.ownBlock = vK.ownBlock ∨ ∃ g, v'.ownBlock = some g ∧ W.heap.size ≤ g) :
 WJ R w c v b q (W'.setCell ⟨w.heap.size + 2, 2, none⟩ v') B W0 s vN v' ns (ks ++ [kk]) (xs ++ c3l d) := by
 have hB := h.hB
 have hs := h.wi.size
 have hfar : ∀ x, x ≤ B → x ≠ w.heap.size + 2 → (W'.setCell ⟨w.heap.size + 2, 2, none⟩ v').heap[x]? = W.heap[x]? := fun x h1 h2 => by
  rw [Below.heap_setCell _ _ _ _ (by simpa using h2)]
  exact hg.block x (by omega) (fun e => by have := (h.wi.krow.lt x e.symm).1; omega)
 exact ⟨h.wi.kid hk hown hg hv, fun x h1 h2 h3 => (hfar x (by omega) h3).trans (h.kp x h1 h2 h3), h.nms.of_block (hfar B (Nat.le_refl _) (by omega)), hB⟩
theorem WJ.oldkid {kk : Kd} {d : C3} (h : WJ R w c v b q W B W0 s vN vK ns ks xs) (hk : KRep (fun x => w.heap.size + 3 ≤ x ∧ x < B) W0 kk d) : KRep (fun x => w.heap.size + 3 ≤ x ∧ x < W.heap.size ∧ vN.ownBlock ≠ some x ∧ vK.ownBlock ≠ some x) W kk d := by
 have hR := h.wi.sp.hR
 have hs := h.wi.size
 exact KRep.carry (fun x hx => h.kp x hx.2 (by omega) (by omega)) (fun x hx => ⟨hx.1, by omega, fun e => by have := (h.wi.nrow.lt x e).1; omega, fun e => by have := (h.wi.krow.lt x e).1; omega⟩) _ _ hk
theorem WJ.start {lo : Nat} (h : WI R w c v b q W lo s (.slice none 0 0) vK [] ks xs) : WJ R w c v b q (((W.setCell ⟨w.heap.size + 1 + 1, 2, none⟩ (.slice (some ⟨W.heap.size + 1, 0, none⟩) 0 0)).alloc (.cells (nm8.map Value.string).toArray 9)).alloc (.cells #[] 26)) W.heap.size W s (.slice none 0 0) (.slice (some ⟨W.heap.size + 1, 0, none⟩) 0 0) [] [] [] := by
 have hlo := h.hlo
 have hsz := h.size
 rw [show w.heap.size + 1 + 1 = w.heap.size + 2 from rfl]
 have hset := setGrown W (w.heap.size + 2) 2 (.slice (some ⟨W.heap.size + 1, 0, none⟩) 0 0)
 have hsp := h.sp.touch hset (fun x e => by cases e; exact Nat.le_refl _)
 have hout := row3_set2 h.out (.slice (some ⟨W.heap.size + 1, 0, none⟩) 0 0)
 have hoth : ∀ x, x ≠ w.heap.size + 2 → (W.setCell ⟨w.heap.size + 2, 2, none⟩ (.slice (some ⟨W.heap.size + 1, 0, none⟩) 0 0)).heap[x]? = W.heap[x]? := fun x hx => Below.heap_setCell _ _ _ _ (by simpa using hx)
 have hz : (W.setCell ⟨w.heap.size + 2, 2, none⟩ (.slice (some ⟨W.heap.size + 1, 0, none⟩) 0 0)).heap.size = W.heap.size := by simp only [size_setCell]
 generalize W.setCell ⟨w.heap.size + 2, 2, none⟩ (.slice (some ⟨W.heap.size + 1, 0, none⟩) 0 0) = V at *
 have hb : Below V.heap.size V ((V.alloc (.cells (nm8.map Value.string).toArray 9)).alloc (.cells #[] 26)) := ((Below.refl _ _).alloc (Nat.le_refl _) _).alloc (by simp) _
 have hrow : ((V.alloc (.cells (nm8.map Value.string).toArray 9)).alloc (.cells #[] 26)).rowIs W.heap.size 9 8 (fun i => .string (nm8.getD i ByteArray.empty)) := by
  have := (World.rowIs_alloc V (nm8.map Value.string).toArray 9 (fun i => .string (nm8.getD i ByteArray.empty)) (fun i hi => by
   have hi' : i < 8 := by simpa [nm8] using hi
   rcases (show i = 0 ∨ i = 1 ∨ i = 2 ∨ i = 3 ∨ i = 4 ∨ i = 5 ∨ i = 6 ∨ i = 7 by omega) with rfl | rfl | rfl | rfl | rfl | rfl | rfl | rfl <;> rfl)).alloc (.cells #[] 26)
  rw [hz] at this
  exact this
 have hemp := empty_row (base := W.heap.size + 1) (size := 3) (World.rowIs_alloc (V.alloc (.cells (nm8.map Value.string).toArray 9)) #[] 26 (fun _ => .bool false) (fun i hi => by simp at hi)) (by rw [World.size_alloc, hz]; exact Nat.le_refl _)
 rw [World.size_alloc, hz] at hemp
 refine ⟨⟨hsp.on hb, hout.of_block (hb.block _ hout.lt), World.ownsRow_nil _ _ _ _, hemp, ⟨rfl, fun i hi => by simp at hi⟩, fun x e => by simp [Value.ownBlock] at e, by omega, by simp [hz]⟩, fun x h1 h2 h3 => ?_, hrow, by omega⟩
 rw [hb.block x (by rw [hz]; exact h1)]
 exact hoth x h3
end

def kAhead (ns : List ByteArray) (i : Nat) : List UInt8 := (if 0 < i then [44] else []) ++ ((ns.getD i ByteArray.empty).data.toList ++ [58])
mutual
def kxT : Kd → List UInt8
 | .mk s ns ks =>
   if s = 1 then [110, 117, 109]
   else if s = 2 then [116, 101, 120, 116]
   else if s = 3 then [102, 108, 97, 103]
   else if s = 4 then [91] ++ kxM ks ++ [93]
   else if s = 6 then [63] ++ kxM ks
   else [123] ++ kxK ns 0 ks ++ [125]
def kxM : List Kd → List UInt8
 | [] => []
 | t :: _ => kxT t
def kxK (ns : List ByteArray) (i : Nat) : List Kd → List UInt8
 | [] => []
 | t :: r => kAhead ns i ++ kxT t ++ kxK ns (i + 1) r
end
mutual
def okD : Kd → Bool
 | .mk s ns ks => shB (.mk s ns ks) && okDs ks
def okDs : List Kd → Bool
 | [] => true
 | t :: r => okD t && okDs r
end
theorem okD_eq (t : Kd) : okD t = (shB t && okDs t.kids) := by
 obtain ⟨s, ns, ks⟩ := t; rw [okD]; rfl
theorem okDs_get {ks : List Kd} (h : okDs ks = true) (i : Nat) (hi : i < ks.length) : okD ks[i] = true := by
 induction ks generalizing i with
 | nil => simp at hi
 | cons t r ih =>
   rw [okDs, Bool.and_eq_true] at h
   cases i with
   | zero => exact h.1
   | succ i => exact ih h.2 i (by simpa using hi)
theorem kxT_eq (t : Kd) : kxT t = if t.sort = 1 then [110, 117, 109]
 else if t.sort = 2 then [116, 101, 120, 116]
 else if t.sort = 3 then [102, 108, 97, 103]
 else if t.sort = 4 then [91] ++ kxM t.kids ++ [93]
 else if t.sort = 6 then [63] ++ kxM t.kids
 else [123] ++ kxK t.names 0 t.kids ++ [125] := by
 obtain ⟨s, ns, ks⟩ := t; rw [kxT]; rfl
theorem kxM_get {ks : List Kd} (h : 0 < ks.length) : kxM ks = kxT ks[0] := by
 cases ks with
 | nil => simp at h
 | cons t r => rw [kxM]; rfl
def kxTo (ns : List ByteArray) (ks : List Kd) (k : Nat) : List UInt8 := kxK ns 0 (ks.take k)
theorem kxK_snoc (ns : List ByteArray) (i : Nat) (l : List Kd) (t : Kd) : kxK ns i (l ++ [t]) = kxK ns i l ++ (kAhead ns (i + l.length) ++ kxT t) := by
 induction l generalizing i with
 | nil => simp [kxK]
 | cons a r ih =>
   simp only [List.cons_append, kxK, List.length_cons]
   rw [ih (i + 1), show i + 1 + r.length = i + (r.length + 1) from by omega]
   simp only [List.append_assoc]
theorem kxTo_succ (ns : List ByteArray) (ks : List Kd) (k : Nat) (hk : k < ks.length) : kxTo ns ks (k + 1) = kxTo ns ks k ++ (kAhead ns k ++ kxT ks[k]) := by
 unfold kxTo
 rw [List.take_succ_eq_append_getElem hk, kxK_snoc]
 simp [Nat.min_eq_left (Nat.le_of_lt hk)]
theorem kxTo_all (ns : List ByteArray) (ks : List Kd) : kxTo ns ks ks.length = kxK ns 0 ks := by
 unfold kxTo; rw [List.take_length]
theorem shB_cases {t : Kd} (h : shB t = true) : ((t.sort = 1 ∨ t.sort = 2 ∨ t.sort = 3) ∧ t.kids.length = 0 ∧ t.names.length = 0) ∨ ((t.sort = 4 ∨ t.sort = 6) ∧ t.kids.length = 1 ∧ t.names.length = 0) ∨ (t.sort = 5 ∧ t.kids.length = t.names.length ∧ riseB t.names = true) := by
 unfold shB at h
 by_cases h1 : t.sort = 1 ∨ t.sort = 2 ∨ t.sort = 3
 · rw [if_pos h1] at h; exact Or.inl ⟨h1, of_decide_eq_true h⟩
 · rw [if_neg h1] at h
   by_cases h2 : t.sort = 4 ∨ t.sort = 6
   · rw [if_pos h2] at h; exact Or.inr (Or.inl ⟨h2, of_decide_eq_true h⟩)
   · rw [if_neg h2] at h
     by_cases h3 : t.sort = 5
     · rw [if_pos h3, Bool.and_eq_true] at h; exact Or.inr (Or.inr ⟨h3, of_decide_eq_true h.1, h.2⟩)
     · rw [if_neg h3] at h; cases h
mutual
theorem pord_len : ∀ (t : Kd) (l : Int), (pord t l).length = ksz t
 | .mk s ns ks, l => by rw [pord, ksz, List.length_cons, pordK_len ks (l + 1)]; omega
theorem pordK_len : ∀ (ks : List Kd) (l : Int), (pordK ks l).length = klsz ks
 | [], l => by rw [pordK, klsz]; rfl
 | t :: r, l => by rw [pordK, klsz, List.length_append, pord_len t l, pordK_len r l]
end
mutual
theorem okD_pord : ∀ (t : Kd) (l : Int), (pord t l).all gdB = true → okD t = true
 | .mk s ns ks, l => by
   intro h
   rw [pord, List.all_cons, Bool.and_eq_true] at h
   rw [okD, Bool.and_eq_true]
   refine ⟨?_, okDs_pord ks (l + 1) h.2⟩
   have := h.1
   simp only [gdB, Bool.and_eq_true] at this
   exact this.2
theorem okDs_pord : ∀ (ks : List Kd) (l : Int), (pordK ks l).all gdB = true → okDs ks = true
 | [], l => by intro _; rw [okDs]
 | t :: r, l => by
   intro h
   rw [pordK, List.all_append, Bool.and_eq_true] at h
   rw [okDs, Bool.and_eq_true]
   exact ⟨okD_pord t l h.1, okDs_pord r l h.2⟩
end
theorem ok_of_qT {t : Kd} (h : 0 < qT t 1) : okD t = true ∧ ksz t ≤ 40 := by
 have h' : decide (0 < qT t 1) = true := decide_eq_true h
 rw [qT_start, Bool.and_eq_true] at h'
 refine ⟨okD_pord t 1 h'.1, ?_⟩
 rw [← pord_len t 1]; exact of_decide_eq_true h'.2
theorem name_size {s : ByteArray} (h : nameOkB s = true) : s.size ≤ 8 := by
 unfold nameOkB at h
 simp only [Bool.and_eq_true, decide_eq_true_eq] at h
 omega
theorem rise_size {ss : List ByteArray} (h : riseB ss = true) (i : Nat) (hi : i < ss.length) : ss[i].size ≤ 8 := by
 have hg : good ss i = true := by
  cases hh : good ss i
  · exact absurd (rise_no hi hh) (by rw [h]; simp)
  · rfl
 apply name_size
 cases hn : nameOkB ss[i]
 · rw [good_name hi hn] at hg; cases hg
 · rfl
theorem kAhead_len {ns : List ByteArray} (h : riseB ns = true) (i : Nat) (hi : i < ns.length) : (kAhead ns i).length ≤ 10 := by
 have h1 := rise_size h i hi
 have e : (ns.getD i ByteArray.empty) = ns[i] := by simp [List.getD, hi]
 unfold kAhead
 rw [e]
 have e2 : ns[i].data.toList.length = ns[i].size := rfl
 simp only [List.length_append, List.length_cons, List.length_nil, e2]
 split <;> simp <;> omega
mutual
theorem kxT_len : ∀ (t : Kd), okD t = true → (kxT t).length + 10 ≤ 14 * ksz t
 | .mk s ns ks => by
   intro h
   rw [okD, Bool.and_eq_true] at h
   rw [ksz]
   rcases shB_cases h.1 with ⟨h1, h2, h3⟩ | ⟨h1, h2, h3⟩ | ⟨h1, h2, h3⟩
   · rw [kxT_eq]
     rcases h1 with h1 | h1 | h1
     · rw [if_pos h1]; simp; omega
     · rw [if_neg (by omega), if_pos h1]; simp; omega
     · rw [if_neg (by omega), if_neg (by omega), if_pos h1]; simp; omega
   · have hm := kxM_len ks h.2
     have h2' : ks.length = 1 := h2
     rw [kxT_eq, if_neg (by omega), if_neg (by omega), if_neg (by omega)]
     by_cases h4 : (Kd.mk s ns ks).sort = 4
     · rw [if_pos h4]
       simp only [List.length_append, List.length_cons, List.length_nil]
       show 1 + (kxM ks).length + 1 + 10 ≤ _
       have := hm (by omega)
       omega
     · rw [if_neg h4, if_pos (by omega)]
       simp only [List.length_append, List.length_cons, List.length_nil]
       show 1 + (kxM ks).length + 10 ≤ _
       have := hm (by omega)
       omega
   · have hk := kxK_len ns h3 ks 0 (by have : ks.length = ns.length := h2; omega) h.2
     rw [kxT_eq, if_neg (by omega), if_neg (by omega), if_neg (by omega), if_neg (by omega), if_neg (by omega)]
     simp only [List.length_append, List.length_cons, List.length_nil]
     show 1 + (kxK ns 0 ks).length + 1 + 10 ≤ _
     omega
theorem kxM_len : ∀ (ks : List Kd), okDs ks = true → 0 < ks.length → (kxM ks).length + 10 ≤ 14 * klsz ks
 | [] => by intro _ h; simp at h
 | t :: r => by
   intro h _
   rw [okDs, Bool.and_eq_true] at h
   rw [kxM, klsz]
   have := kxT_len t h.1
   omega
theorem kxK_len (ns : List ByteArray) (hr : riseB ns = true) : ∀ (ks : List Kd) (i : Nat), i + ks.length ≤ ns.length → okDs ks = true → (kxK ns i ks).length ≤ 14 * klsz ks
 | [], i => by intro _ _; rw [kxK]; simp
 | t :: r, i => by
   intro hi h
   rw [okDs, Bool.and_eq_true] at h
   rw [kxK, klsz]
   simp only [List.length_cons] at hi
   have h1 := kxT_len t h.1
   have h2 := kxK_len ns hr r (i + 1) (by omega) h.2
   have h3 := kAhead_len hr i (by omega)
   simp only [List.length_append]
   omega
end
theorem kxT_short {t : Kd} (h : 0 < qT t 1) : (kxT t).length ≤ 560 := by
 obtain ⟨h1, h2⟩ := ok_of_qT h
 have := kxT_len t h1
 omega

mutual
def okH : Tr → Bool
 | .mk s n tx ns ks => aloneB (.mk s n tx ns ks) && okHs ks
def okHs : List Tr → Bool
 | [] => true
 | t :: r => okH t && okHs r
end
theorem okH_eq (t : Tr) : okH t = (aloneB t && okHs t.kids) := by obtain ⟨s, n, tx, ns, ks⟩ := t; rw [okH]; rfl
theorem okHs_get {ks : List Tr} (h : okHs ks = true) (i : Nat) (hi : i < ks.length) : okH ks[i] = true := by
 induction ks generalizing i with
 | nil => simp at hi
 | cons a r ih =>
   rw [okHs, Bool.and_eq_true] at h
   match i with
   | 0 => exact h.1
   | i + 1 => exact ih h.2 i (by simp at hi; omega)
mutual
theorem okH_of_pT : ∀ (t : Tr) (d : Int), 0 ≤ pT t d → okH t = true
 | .mk s n tx ns ks, d => by
   intro h
   rw [pT] at h
   rw [okH]
   split at h
   · omega
   · rename_i hn
     have ha : aloneB (.mk s n tx ns ks) = true := by
      cases e : aloneB (.mk s n tx ns ks)
      · exact absurd (Or.inr e) hn
      · rfl
     rw [ha, okHs_of_pK ks d 1 h]; rfl
theorem okHs_of_pK : ∀ (ks : List Tr) (d n : Int), 0 ≤ pK ks d n → okHs ks = true
 | [], d, n => by intro _; rw [okHs]
 | t :: r, d, n => by
   intro h
   rw [pK] at h
   rw [okHs]
   split at h
   · omega
   · rename_i hn
     rw [okH_of_pT t (d + 1) (by omega), okHs_of_pK r d _ h]; rfl
end
def kidOf (k : Kd) (i : Nat) : Kd := if k.sort = 5 then k.kids.getD i (.mk 0 [] []) else k.kids.getD 0 (.mk 0 [] [])
mutual
def hT : Tr → Kd → Bool
 | .mk s _ _ ns ks, k => decide (k.sort = s) && decide (k.names = ns) && hK ks k 0
def hK : List Tr → Kd → Nat → Bool
 | [], _, _ => true
 | t :: r, k, i => hT t (kidOf k i) && hK r k (i + 1)
end
theorem hT_eq (t : Tr) (k : Kd) : hT t k = (decide (k.sort = t.sort) && decide (k.names = t.names) && hK t.kids k 0) := by obtain ⟨s, n, tx, ns, ks⟩ := t; rw [hT]; rfl
theorem hK_step {ks : List Tr} {i : Nat} (hi : i < ks.length) (k : Kd) : hK (ks.drop i) k i = (hT ks[i] (kidOf k i) && hK (ks.drop (i + 1)) k (i + 1)) := by
 rw [List.drop_eq_getElem_cons hi, hK]
theorem hK_done (ks : List Tr) (k : Kd) : hK (ks.drop ks.length) k ks.length = true := by rw [List.drop_length, hK]
theorem kid_at {k : Kd} {t : Tr} (hk : shB k = true) (ht : aloneB t = true) (hs : k.sort = t.sort) (hn : k.names = t.names) {i : Nat} (hi : i < t.kids.length) :
 0 < k.kids.length ∧ (k.sort = 5 → i < k.kids.length) := by
 unfold shB at hk
 unfold aloneB at ht
 rw [← hs] at ht
 rw [← hn] at ht
 by_cases h5 : k.sort = 5
 · simp [h5] at hk ht
   have := hk.1; have := ht.1
   exact ⟨by omega, fun _ => by omega⟩
 · refine ⟨?_, fun h => absurd h h5⟩
   by_cases h46 : k.sort = 4 ∨ k.sort = 6
   · have hn123 : ¬ (k.sort = 1 ∨ k.sort = 2 ∨ k.sort = 3) := by omega
     rw [if_neg hn123, if_pos h46] at hk
     have := of_decide_eq_true hk
     omega
   · exfalso
     have ht' : t.kids.length = 0 := by
      by_cases h1 : k.sort = 1
      · simp [h1] at ht; simp [ht]
      by_cases h2 : k.sort = 2
      · simp [h2] at ht; simp [ht]
      by_cases h3 : k.sort = 3
      · simp [h3] at ht; simp [ht]
      · rw [if_neg h1, if_neg h2, if_neg h3, if_neg (by omega), if_neg h5, if_neg (by omega)] at ht
        cases ht
     omega
theorem kidOf_form {k : Kd} (h : k.sort = 5) {i : Nat} (hi : i < k.kids.length) : kidOf k i = k.kids[i] := by
 rw [kidOf, if_pos h]; simp [List.getD, hi]
theorem kidOf_else {k : Kd} (h : k.sort ≠ 5) (i : Nat) (hi : 0 < k.kids.length) : kidOf k i = k.kids[0] := by
 rw [kidOf, if_neg h]; simp [List.getD, hi]
theorem names_ne {a b : List ByteArray} {i : Nat} (h1 : i < a.length) (h2 : i < b.length) (h : a[i] ≠ b[i]) : a ≠ b := by
 intro e; subst e; exact h rfl
theorem names_eq {a b : List ByteArray} (hl : a.length = b.length) (h : ∀ j, (h1 : j < a.length) → (h2 : j < b.length) → a[j] = b[j]) : a = b := List.ext_getElem hl h
theorem lst_loop (s : ByteArray) (n : Nat) : ∀ (i : Nat) (r : List UInt8), s.size - i = n → ByteArray.toList.loop s i r = r.reverse ++ s.data.toList.drop i := by
 induction n with
 | zero =>
   intro i r h
   unfold ByteArray.toList.loop
   rw [if_neg (by omega), List.drop_eq_nil_of_le (by simp only [Array.length_toList]; show s.size ≤ i; omega), List.append_nil]
 | succ n ih =>
   intro i r h
   unfold ByteArray.toList.loop
   have hi : i < s.size := by omega
   have e : s.get! i = s.data.toList[i]'(by simpa using hi) := by
    obtain ⟨d⟩ := s
    exact getElem!_pos d i hi
   have hdrop : s.data.toList.drop i = s.data.toList[i]'(by simpa using hi) :: s.data.toList.drop (i + 1) := List.drop_eq_getElem_cons (by simpa using hi)
   rw [if_pos hi, ih (i + 1) _ (by omega), hdrop, e, List.reverse_cons, List.append_assoc]
   rfl
theorem lst_data (s : ByteArray) : s.toList = s.data.toList := by
 have := lst_loop s s.size 0 [] (by omega)
 rw [List.drop_zero] at this
 exact this
theorem lst_beq (a b : ByteArray) : (a.toList == b.toList) = decide (a = b) := by
 rw [lst_data, lst_data, Bool.eq_iff_iff]
 simp only [beq_iff_eq, decide_eq_true_eq]
 constructor
 · intro h; exact ByteArray.ext (Array.toList_inj.1 h)
 · intro h; rw [h]
def hasA (k : Kd) (t : Tr) : Bool := decide (0 < qT k 1) && decide (0 < pT t 1) && hT t k
end Go.Proofs.YtccnehcpmkgbhaaGreatDoor
