/- A part. -/
import Derived.Test.YtccnehcpmkgbhaaGreatDoorPart07
namespace Go.Proofs.YtccnehcpmkgbhaaGreatDoor
open Go Go.RowKit
def TL5 (P : Nat → Prop) (w : World) (ts : List Tr) (xs : List Value) : Prop :=
 xs.length = ts.length * 5 ∧ ∀ i, (hi : i < ts.length) → ∃ c : C5, xs[i * 5]? = some c.c0 ∧ xs[i * 5 + 1]? = some c.c1 ∧ xs[i * 5 + 2]? = some c.c2 ∧ xs[i * 5 + 3]? = some c.c3 ∧ xs[i * 5 + 4]? = some c.c4 ∧ Rep P w ts[i] c
theorem TL5.nil (P : Nat → Prop) (w : World) : TL5 P w [] [] := ⟨rfl, fun i hi => by simp at hi⟩
theorem TL5.carry {P Q : Nat → Prop} {w w' : World} {ts : List Tr} {xs : List Value} (h : TL5 P w ts xs) (hP : ∀ b, P b → w'.heap[b]? = w.heap[b]?) (hQ : ∀ b, P b → Q b) : TL5 Q w' ts xs :=
 ⟨h.1, fun i hi => by obtain ⟨c, h0, h1, h2, h3, h4, h5⟩ := h.2 i hi; exact ⟨c, h0, h1, h2, h3, h4, Rep.carry hP hQ _ _ h5⟩⟩
theorem TL5.of {P : Nat → Prop} {w : World} {b : Nat} : ∀ (ts : List Tr) (o : Nat), RepK P w b o ts → ∃ xs, TL5 P w ts xs ∧ (∀ j u, xs[j]? = some u → w.cell? ⟨b, o + j, none⟩ = some u) ∧ ∀ u ∈ xs, u.oneCell' = true
 | [], o, _ => ⟨[], TL5.nil P w, fun j u h => by simp at h, fun u h => by cases h⟩
 | t :: r, o, h => by
   rw [RepK] at h
   obtain ⟨⟨c, ⟨a0, a1, a2, a3, a4⟩, hr⟩, h2⟩ := h
   obtain ⟨ys, ⟨hl, hy⟩, hc, h1c⟩ := TL5.of r (o + 5) h2
   obtain ⟨e0, e1, e2, -, -, -, ⟨b3, cap3, e3, -⟩, b4, cap4, e4, -⟩ := hr.open
   refine ⟨c.c0 :: c.c1 :: c.c2 :: c.c3 :: c.c4 :: ys, ⟨by simp [hl]; omega, fun i hi => ?_⟩, fun j u hj => ?_, fun u hu => ?_⟩
   · cases i with
     | zero => exact ⟨c, rfl, rfl, rfl, rfl, rfl, hr⟩
     | succ i =>
       obtain ⟨d, q0, q1, q2, q3, q4, q5⟩ := hy i (by simpa using hi)
       refine ⟨d, ?_, ?_, ?_, ?_, ?_, q5⟩
       · rw [show (i + 1) * 5 = i * 5 + 5 from by omega]; simpa using q0
       · rw [show (i + 1) * 5 + 1 = i * 5 + 1 + 5 from by omega]; simpa using q1
       · rw [show (i + 1) * 5 + 2 = i * 5 + 2 + 5 from by omega]; simpa using q2
       · rw [show (i + 1) * 5 + 3 = i * 5 + 3 + 5 from by omega]; simpa using q3
       · rw [show (i + 1) * 5 + 4 = i * 5 + 4 + 5 from by omega]; simpa using q4
   · match j with
     | 0 => simp at hj; subst hj; exact a0
     | 1 => simp at hj; subst hj; exact a1
     | 2 => simp at hj; subst hj; exact a2
     | 3 => simp at hj; subst hj; exact a3
     | 4 => simp at hj; subst hj; exact a4
     | j + 5 =>
       have := hc j u (by simpa using hj)
       rw [show o + (j + 5) = o + 5 + j from by omega]; exact this
   · rcases List.mem_cons.1 hu with rfl | hu
     · rw [e0]; rfl
     rcases List.mem_cons.1 hu with rfl | hu
     · rw [e1]; rfl
     rcases List.mem_cons.1 hu with rfl | hu
     · rw [e2]; rfl
     rcases List.mem_cons.1 hu with rfl | hu
     · rw [e3]; rfl
     rcases List.mem_cons.1 hu with rfl | hu
     · rw [e4]; rfl
     exact h1c u hu
theorem TL5.back {P : Nat → Prop} {w : World} {g : Nat} {ts : List Tr} {xs : List Value} (h : TL5 P w ts xs) (hc : ∀ j u, xs[j]? = some u → w.cell? ⟨g, j, none⟩ = some u) : RepK P w g 0 ts :=
 RepK.mk fun i hi => by
  obtain ⟨c, h0, h1, h2, h3, h4, h5⟩ := h.2 i hi
  exact ⟨c, ⟨by rw [Nat.zero_add]; exact hc _ _ h0, by rw [Nat.zero_add]; exact hc _ _ h1, by rw [Nat.zero_add]; exact hc _ _ h2, by rw [Nat.zero_add]; exact hc _ _ h3, by rw [Nat.zero_add]; exact hc _ _ h4⟩, h5⟩
theorem TL5.snoc {P : Nat → Prop} {w : World} {ts : List Tr} {xs : List Value} {t : Tr} {c : C5} (h : TL5 P w ts xs) (hk : Rep P w t c) : TL5 P w (ts ++ [t]) (xs ++ c5l c) := by
 obtain ⟨hl, h2⟩ := h
 refine ⟨by simp [hl, c5l]; omega, fun i hi => ?_⟩
 simp only [List.length_append, List.length_cons, List.length_nil] at hi
 by_cases e : i < ts.length
 · obtain ⟨d, q0, q1, q2, q3, q4, q5⟩ := h2 i e
   refine ⟨d, ?_, ?_, ?_, ?_, ?_, ?_⟩
   · rw [List.getElem?_append_left (by omega)]; exact q0
   · rw [List.getElem?_append_left (by omega)]; exact q1
   · rw [List.getElem?_append_left (by omega)]; exact q2
   · rw [List.getElem?_append_left (by omega)]; exact q3
   · rw [List.getElem?_append_left (by omega)]; exact q4
   · rw [List.getElem_append_left e]; exact q5
 · obtain rfl : i = ts.length := by omega
   refine ⟨c, ?_, ?_, ?_, ?_, ?_, ?_⟩
   · rw [List.getElem?_append_right (by omega), hl]; simp [c5l]
   · rw [List.getElem?_append_right (by omega), hl]; simp [c5l, show ts.length * 5 + 1 - ts.length * 5 = 1 from by omega]
   · rw [List.getElem?_append_right (by omega), hl]; simp [c5l, show ts.length * 5 + 2 - ts.length * 5 = 2 from by omega]
   · rw [List.getElem?_append_right (by omega), hl]; simp [c5l, show ts.length * 5 + 3 - ts.length * 5 = 3 from by omega]
   · rw [List.getElem?_append_right (by omega), hl]; simp [c5l, show ts.length * 5 + 4 - ts.length * 5 = 4 from by omega]
   · simpa using hk
theorem TL5.put {P : Nat → Prop} {w : World} {ts : List Tr} {xs : List Value} {t : Tr} {c : C5} {i : Nat} (h : TL5 P w ts xs) (hi : i < ts.length) (hk : Rep P w t c) : TL5 P w (ts.set i t) (((((xs.set (i * 5) c.c0).set (i * 5 + 1) c.c1).set (i * 5 + 2) c.c2).set (i * 5 + 3) c.c3).set (i * 5 + 4) c.c4) := by
 obtain ⟨hl, h2⟩ := h
 refine ⟨by simp [hl], fun j hj => ?_⟩
 rw [List.length_set] at hj
 by_cases e : i = j
 · subst e
   refine ⟨c, ?_, ?_, ?_, ?_, ?_, by simpa using hk⟩
   · rw [List.getElem?_set_ne (by omega), List.getElem?_set_ne (by omega), List.getElem?_set_ne (by omega), List.getElem?_set_ne (by omega), List.getElem?_set_self (by omega)]
   · rw [List.getElem?_set_ne (by omega), List.getElem?_set_ne (by omega), List.getElem?_set_ne (by omega), List.getElem?_set_self (by simp; omega)]
   · rw [List.getElem?_set_ne (by omega), List.getElem?_set_ne (by omega), List.getElem?_set_self (by simp; omega)]
   · rw [List.getElem?_set_ne (by omega), List.getElem?_set_self (by simp; omega)]
   · rw [List.getElem?_set_self (by simp; omega)]
 · obtain ⟨d, q0, q1, q2, q3, q4, q5⟩ := h2 j hj
   refine ⟨d, ?_, ?_, ?_, ?_, ?_, by rw [List.getElem_set_ne e]; exact q5⟩
   · repeat rw [List.getElem?_set_ne (by omega)]
     exact q0
   · repeat rw [List.getElem?_set_ne (by omega)]
     exact q1
   · repeat rw [List.getElem?_set_ne (by omega)]
     exact q2
   · repeat rw [List.getElem?_set_ne (by omega)]
     exact q3
   · repeat rw [List.getElem?_set_ne (by omega)]
     exact q4
theorem rep_leafD {P : Nat → Prop} {W : World} (s n : Int) (tx : ByteArray) (hs : I64 s) (hn : I64 n) (ht : tx.size ≤ 9223372036854775807) : Rep P W (.mk s n tx [] []) ⟨.int .i64 s, .int .i64 n, .string tx, .slice none 0 0, .slice none 0 0⟩ := by
 rw [Rep]
 exact ⟨rfl, rfl, rfl, hs, hn, ht, ⟨none, 0, rfl, by simp, fun i hi => by simp at hi⟩, none, 0, rfl, by simp, fun h => absurd rfl h⟩

structure G5 (base A : Nat) (Q : Nat → Prop) (w0 wr : World) (c0 c1 c2 c3 : Value) (aK : Option Addr) (j capK : Nat) (ts : List Tr) (xs : List Value) : Prop where
 box : wr.rowIs A 29 5 (row5 c0 c1 c2 c3 (.slice aK j capK))
 own : wr.ownsRow base 29 5 (.slice aK j capK) j xs
 tl : TL5 Q wr ts xs
 len : ts.length = j
 lt : A < base ∧ base ≤ wr.heap.size
 q : ∀ x, Q x → x < base ∧ x ≠ A
 old : BB A base w0 wr
theorem G5.at {base A : Nat} {Q : Nat → Prop} {w0 wr w8 : World} {c0 c1 c2 c3 : Value} {aK : Option Addr} {j capK : Nat} {ts : List Tr} {xs : List Value} (h : G5 base A Q w0 wr c0 c1 c2 c3 aK j capK ts xs) {o : Obj} (hg : (wr.alloc o).grownBy w8 (Value.slice aK j capK).ownBlock) : w8.rowIs A 29 5 (row5 c0 c1 c2 c3 (.slice aK j capK)) :=
 (h.box.alloc o).of_block (hg.block A (h.box.alloc o).lt (fun e => by have := (h.own.lt A e.symm).1; have := h.lt.1; omega))
theorem G5.push {base A g cap : Nat} {Q : Nat → Prop} {w0 wr w8 : World} {c0 c1 c2 c3 : Value} {aK : Option Addr} {j capK : Nat} {ts : List Tr} {xs : List Value} {t : Tr} {c : C5} (h : G5 base A Q w0 wr c0 c1 c2 c3 aK j capK ts xs) (hr : Rep Q wr t c) {o : Obj}
 (hown : w8.ownsRow base 29 5 (.slice (some ⟨g, 0, none⟩) (j + 1) cap) (j + 1) (xs ++ c5l c)) (hg : (wr.alloc o).grownBy w8 (Value.slice aK j capK).ownBlock) :
 G5 base A Q w0 (w8.setCell ⟨A, 4, none⟩ (.slice (some ⟨g, 0, none⟩) (j + 1) cap)) c0 c1 c2 c3 (some ⟨g, 0, none⟩) (j + 1) cap (ts ++ [t]) (xs ++ c5l c) := by
 have hlt := h.lt
 have hz : (wr.alloc o).heap.size = wr.heap.size + 1 := World.size_alloc _ _
 have hsz := hg.size
 have hrow : ∀ x, (Value.slice aK j capK).ownBlock = some x → base ≤ x := fun x e => (h.own.lt x e).1
 have hgl := hown.lt g rfl
 have hkeep : ∀ x, Q x → (w8.setCell ⟨A, 4, none⟩ (.slice (some ⟨g, 0, none⟩) (j + 1) cap)).heap[x]? = wr.heap[x]? := fun x hx => by
  have hq := h.q x hx
  rw [Below.heap_setCell _ _ _ _ (by simpa using hq.2), hg.block x (by omega) (fun e => by have := hrow x e.symm; omega), Below.heap_alloc _ _ _ (by omega)]
 refine ⟨(h.at hg |>.set 4 _).congr (fun i hi => ?_), ?_, (h.tl.snoc hr).carry hkeep (fun _ h => h), by simp [h.len], ⟨hlt.1, by simp only [size_setCell]; omega⟩, h.q, ?_⟩
 · rcases (show i = 0 ∨ i = 1 ∨ i = 2 ∨ i = 3 ∨ i = 4 by omega) with rfl | rfl | rfl | rfl | rfl <;> rfl
 · have hset : w8.grownBy (w8.setCell ⟨A, 4, none⟩ (.slice (some ⟨g, 0, none⟩) (j + 1) cap)) (some A) := ⟨rfl, rfl, rfl, by simp [World.setCell], fun k _ hk => Below.heap_setCell _ _ _ _ (fun e => hk (by rw [e]))⟩
   exact hown.kept hset (Or.inr (fun e => by simp [Value.ownBlock] at e; omega))
 · have h1 := (h.old.grown (World.grownBy_alloc wr o none) (by omega) (fun x e => by cases e)).grown hg (by omega) hrow
   exact ⟨h1.os, h1.tape, h1.output, by simp only [size_setCell]; exact h1.size, fun i hi hn => (Below.heap_setCell _ _ _ _ (by simpa using hn)).trans (h1.block i hi hn)⟩
theorem G5.kids {base A : Nat} {Q : Nat → Prop} {w0 wr : World} {c0 c1 c2 c3 : Value} {aK : Option Addr} {j capK : Nat} {ts : List Tr} {xs : List Value} (h : G5 base A Q w0 wr c0 c1 c2 c3 aK j capK ts xs) : ts ≠ [] → ∃ b o, aK = some ⟨b, o, none⟩ ∧ (Q b ∨ (base ≤ b ∧ b < wr.heap.size)) ∧ RepK (fun x => Q x ∨ (base ≤ x ∧ x < wr.heap.size)) wr b o ts := fun hne => by
 have hj : 0 < j := by rw [← h.len]; exact List.length_pos_iff.2 hne
 rcases h.own.2 with ⟨_, h0⟩ | ⟨g, cap, cur, hv, hgb, hh, _⟩
 · omega
 · simp only [Value.slice.injEq] at hv
   obtain ⟨rfl, -, rfl⟩ := hv
   refine ⟨g, 0, rfl, Or.inr ⟨hgb, (Array.getElem?_eq_some_iff.1 hh).1⟩, TL5.back (h.tl.carry (fun _ _ => rfl) (fun _ h => Or.inl h)) (fun i u hi => ?_)⟩
   have := h.own.cells (g := g) rfl i u hi
   rw [Addr.add_lit, Nat.zero_add] at this
   exact this
theorem rowIs_get (w : World) (arr : Array Value) (t : TypeId) : (w.alloc (.cells arr t)).rowIs w.heap.size t arr.size (fun i => arr.getD i undef) := World.rowIs_alloc w arr t _ (fun i hi => by simp [Array.getD, hi])

def RtEnd (P : Nat → Prop) (N R : Nat) (w w' : World) (v : Value) (b : List UInt8) (p : Nat) (e : Ending) : Prop :=
 ∃ (t : Tr) (c : C5) (p' : Nat), e = .returned (.agg #[c.c0, c.c1, c.c2, c.c3, c.c4]) ∧ Rep (fun x => P x ∨ (w.heap.size ≤ x ∧ x < w'.heap.size)) w' t c ∧ DR R w' v b p' ∧ p' ≤ p + N ∧ But R w w'
structure ST (R : Nat) (w : World) (c : C5) (v : Value) (b : List UInt8) (p : Nat) (W : World) : Prop where
 dr : DR R W v b p
 but : But R w W
 bT : W.rowIs w.heap.size 29 5 (row5 c.c0 c.c1 c.c2 c.c3 c.c4)
 bX : W.rowIs (w.heap.size + 1) 29 5 (row5 (.int .i64 0) (.int .i64 0) (.string ⟨#[]⟩) (.slice none 0 0) (.slice none 0 0))
 hR : R < w.heap.size
section
variable {R : Nat} {w W W' : World} {c : C5} {c0 c1 c2 c3 c4 : Value} {v : Value} {b : List UInt8} {p p' : Nat}
theorem ST.size (h : ST R w c v b p W) : w.heap.size + 2 ≤ W.heap.size := h.bX.lt
theorem ST.next (h : ST R w c v b p W) (hd : DR R W' v b p') (hb : But R W W') : ST R w c v b p' W' := by
 have hR := h.hR
 exact ⟨hd, h.but.trans hb, h.bT.of_block (hb.at h.bT.lt (by omega)), h.bX.of_block (hb.at h.bX.lt (by omega)), hR⟩
theorem ST.touch {row : Option Nat} (h : ST R w c v b p W) (hg : W.grownBy W' row) (hr : ∀ x, row = some x → w.heap.size + 2 ≤ x) : ST R w c v b p W' := by
 have hR := h.hR
 refine ⟨h.dr.grown hg (fun x e => by have := hr x e; omega), ?_, h.bT.of_block (hg.block _ h.bT.lt (fun e => by have := hr _ e.symm; omega)), h.bX.of_block (hg.block _ h.bX.lt (fun e => by have := hr _ e.symm; omega)), hR⟩
 exact ⟨hg.os.trans h.but.os, hg.tape.trans h.but.tape, hg.output.trans h.but.output, Nat.le_trans h.but.size hg.size, fun i hi hne => (hg.block i (Nat.lt_of_lt_of_le hi h.but.size) (fun e => by have := hr i e.symm; omega)).trans (h.but.block i hi hne)⟩
theorem ST.on (h : ST R w c v b p W) (hb : Below W.heap.size W W') : ST R w c v b p W' := h.next (h.dr.on hb) (But.of_below hb)
theorem ST.set0 (h : ST R w ⟨c0, c1, c2, c3, c4⟩ v b p W) (u : Value) : ST R w ⟨u, c1, c2, c3, c4⟩ v b p (W.setCell ⟨w.heap.size, 0, none⟩ u) := by
 have hR := h.hR
 exact ⟨h.dr.set (by omega) _ _, but_setx h.but (Nat.le_refl _) _ _, (h.bT.set 0 u).congr (fun i hi => by rcases (show i = 0 ∨ i = 1 ∨ i = 2 ∨ i = 3 ∨ i = 4 by omega) with rfl | rfl | rfl | rfl | rfl <;> rfl), h.bX.setOther (by simp) _, hR⟩
theorem ST.set1 (h : ST R w ⟨c0, c1, c2, c3, c4⟩ v b p W) (u : Value) : ST R w ⟨c0, u, c2, c3, c4⟩ v b p (W.setCell ⟨w.heap.size, 1, none⟩ u) := by
 have hR := h.hR
 exact ⟨h.dr.set (by omega) _ _, but_setx h.but (Nat.le_refl _) _ _, (h.bT.set 1 u).congr (fun i hi => by rcases (show i = 0 ∨ i = 1 ∨ i = 2 ∨ i = 3 ∨ i = 4 by omega) with rfl | rfl | rfl | rfl | rfl <;> rfl), h.bX.setOther (by simp) _, hR⟩
theorem ST.set2 (h : ST R w ⟨c0, c1, c2, c3, c4⟩ v b p W) (u : Value) : ST R w ⟨c0, c1, u, c3, c4⟩ v b p (W.setCell ⟨w.heap.size, 2, none⟩ u) := by
 have hR := h.hR
 exact ⟨h.dr.set (by omega) _ _, but_setx h.but (Nat.le_refl _) _ _, (h.bT.set 2 u).congr (fun i hi => by rcases (show i = 0 ∨ i = 1 ∨ i = 2 ∨ i = 3 ∨ i = 4 by omega) with rfl | rfl | rfl | rfl | rfl <;> rfl), h.bX.setOther (by simp) _, hR⟩
theorem ST.set3 (h : ST R w ⟨c0, c1, c2, c3, c4⟩ v b p W) (u : Value) : ST R w ⟨c0, c1, c2, u, c4⟩ v b p (W.setCell ⟨w.heap.size, 3, none⟩ u) := by
 have hR := h.hR
 exact ⟨h.dr.set (by omega) _ _, but_setx h.but (Nat.le_refl _) _ _, (h.bT.set 3 u).congr (fun i hi => by rcases (show i = 0 ∨ i = 1 ∨ i = 2 ∨ i = 3 ∨ i = 4 by omega) with rfl | rfl | rfl | rfl | rfl <;> rfl), h.bX.setOther (by simp) _, hR⟩
theorem ST.set4 (h : ST R w ⟨c0, c1, c2, c3, c4⟩ v b p W) (u : Value) : ST R w ⟨c0, c1, c2, c3, u⟩ v b p (W.setCell ⟨w.heap.size, 4, none⟩ u) := by
 have hR := h.hR
 exact ⟨h.dr.set (by omega) _ _, but_setx h.but (Nat.le_refl _) _ _, (h.bT.set 4 u).congr (fun i hi => by rcases (show i = 0 ∨ i = 1 ∨ i = 2 ∨ i = 3 ∨ i = 4 by omega) with rfl | rfl | rfl | rfl | rfl <;> rfl), h.bX.setOther (by simp) _, hR⟩
theorem ST.start (h : DR R w v b p) : ST R w ⟨c0, c1, c2, c3, c4⟩ v b p ((w.alloc (.cells #[c0, c1, c2, c3, c4] 29)).alloc (.cells #[.int .i64 0, .int .i64 0, .string ⟨#[]⟩, .slice none 0 0, .slice none 0 0] 29)) := by
 have hb : Below w.heap.size w ((w.alloc (.cells #[c0, c1, c2, c3, c4] 29)).alloc (.cells #[.int .i64 0, .int .i64 0, .string ⟨#[]⟩, .slice none 0 0, .slice none 0 0] 29)) := ((Below.refl _ _).alloc (Nat.le_refl _) _).alloc (by simp) _
 have hx := row5_alloc (w.alloc (.cells #[c0, c1, c2, c3, c4] 29)) (.int .i64 0) (.int .i64 0) (.string ⟨#[]⟩) (.slice none 0 0) (.slice none 0 0) 29
 rw [World.size_alloc] at hx
 exact ⟨h.on hb, But.of_below hb, (row5_alloc w c0 c1 c2 c3 c4 29).alloc _, hx, h.cells.lt⟩
end
def KA (Q : Nat → Prop) (w : World) (v : Value) (ks : List Tr) : Prop := ∃ a cap, v = .slice a ks.length cap ∧ ks.length ≤ 9223372036854775807 ∧ (ks ≠ [] → ∃ b o, a = some ⟨b, o, none⟩ ∧ Q b ∧ RepK Q w b o ks)
theorem KA.carry {P Q : Nat → Prop} {w w' : World} {v : Value} {ks : List Tr} (h : KA P w v ks) (hP : ∀ b, P b → w'.heap[b]? = w.heap[b]?) (hQ : ∀ b, P b → Q b) : KA Q w' v ks := by
 obtain ⟨a, cap, h1, h2, h3⟩ := h
 refine ⟨a, cap, h1, h2, fun hk => ?_⟩
 obtain ⟨b, o, e, hb, hr⟩ := h3 hk
 exact ⟨b, o, e, hQ b hb, RepK.carry hP hQ b o (hP b hb) ks hr⟩
theorem rep_of {Q : Nat → Prop} {w : World} {s n : Int} {x : ByteArray} {ns : List ByteArray} {ks : List Tr} {vN vK : Value} (hs : I64 s) (hn : I64 n) (hx : x.size ≤ 9223372036854775807) (hN : StrsAt Q w vN ns) (hK : KA Q w vK ks) : Rep Q w (.mk s n x ns ks) ⟨.int .i64 s, .int .i64 n, .string x, vN, vK⟩ := by
 obtain ⟨a, cap, h1, h2, h3⟩ := hK
 rw [Rep]
 exact ⟨rfl, rfl, rfl, hs, hn, hx, hN, a, cap, h1, h2, h3⟩
theorem rep_un {Q : Nat → Prop} {w : World} {t : Tr} {c : C5} (h : Rep Q w t c) : StrsAt Q w c.c3 t.names ∧ KA Q w c.c4 t.kids := by
 obtain ⟨s, n, x, ns, ks⟩ := t
 rw [Rep] at h
 obtain ⟨-, -, -, -, -, -, h6, a, cap, h7, h8, h9⟩ := h
 exact ⟨h6, a, cap, h7, h8, h9⟩
theorem KA.of_row {P : Nat → Prop} {W : World} {base g n cap : Nat} {ks : List Tr} {xs : List Value} (hO : W.ownsRow base 29 5 (.slice (some ⟨g, 0, none⟩) n cap) n xs) (hL : TL5 P W ks xs) (hn : n = ks.length) (hnb : n ≤ 2000000) : KA (fun x => P x ∨ (base ≤ x ∧ x < W.heap.size)) W (.slice (some ⟨g, 0, none⟩) n cap) ks := by
 have hg := hO.lt g rfl
 refine ⟨some ⟨g, 0, none⟩, cap, by rw [hn], by omega, fun _ => ⟨g, 0, rfl, Or.inr hg, TL5.back (hL.carry (fun _ _ => rfl) (fun _ h => Or.inl h)) (fun j u hj => ?_)⟩⟩
 have hc := hO.cells (g := g) rfl j u hj
 rw [Addr.add_lit, Nat.zero_add] at hc
 exact hc
theorem rt_end {P : Nat → Prop} {N R : Nat} {w W : World} {v : Value} {b : List UInt8} {p p' : Nat} {t : Tr} {c : C5} (hP : ∀ x, P x → R < x ∧ x < w.heap.size) (hS : ST R w c v b p' W) (h1 : p' ≤ p + N) (hr : Rep (fun x => P x ∨ (w.heap.size + 2 ≤ x ∧ x < W.heap.size)) W t c) (d0 d1 d2 d3 d4 : Value) :
 RtEnd P N R w (((((W.setCell ⟨w.heap.size + 1, 0, none⟩ d0).setCell ⟨w.heap.size + 1, 1, none⟩ d1).setCell ⟨w.heap.size + 1, 2, none⟩ d2).setCell ⟨w.heap.size + 1, 3, none⟩ d3).setCell ⟨w.heap.size + 1, 4, none⟩ d4) v b p (.returned (.agg #[c.c0, c.c1, c.c2, c.c3, c.c4])) := by
 have hR := hS.hR
 refine ⟨t, c, p', rfl, Rep.carry (fun x hx => ?_) (fun x hx => ?_) _ _ hr, ?_, h1, ?_⟩
 · have hne : x ≠ w.heap.size + 1 := by
    rcases hx with h | h
    · have := hP x h; omega
    · omega
   repeat rw [Below.heap_setCell _ _ _ _ (by simpa using hne)]
 · simp only [size_setCell]
   rcases hx with h | h
   · exact Or.inl h
   · exact Or.inr ⟨by omega, h.2⟩
 · repeat refine DR.set ?_ (by omega) _ _
   exact hS.dr
 · repeat refine but_setx ?_ (by omega) _ _
   exact hS.but
theorem append_copy {P : Program} (w : World) {ops : Array Oper} {rest : List Oper} {o : Oper} {a : Act} {Q : Exit → Act → World → Prop}
 (hg : o.guard = none) (s x : Operand) (t : TypeId) (hop : o.op = Op.call { callee := Callee.builtin Builtin.append, args := #[s, x], argTypes := #[t, t] })
 (base : Nat) (e : TypeId) (i : TypeInfo) (z : Value) (size bytes : Nat) (h1 : P.underlying t = some (.slice e)) (h2 : P.info? e = some i) (h3 : i.zero = some z) (h4 : i.size = size) (h5 : i.bytes = bytes) (h6 : z.cells.size = size) (h7 : 0 < size)
 (g0 : Nat) (hs : a.eval s = .slice (some ⟨g0, 0, none⟩) 0 0) (hown : w.ownsRow base e size (.slice (some ⟨g0, 0, none⟩) 0 0) 0 [])
 (ax : Option Addr) (m c : Nat) (xs : List Value) (hx : a.eval x = .slice ax m c) (hn : xs.length = m * size) (hc : 0 < m → ∃ ad, ax = some ad ∧ ∀ j u, xs[j]? = some u → w.cell? (ad.add j) = some u) (h1c : ∀ u ∈ xs, u.oneCell' = true)
 (b1 : m ≤ maxLen) (b2 : m * bytes ≤ 140737488355328) (hbase : base ≤ w.heap.size)
 (hK : ∀ g cap w', Hid (w'.ownsRow base e size (.slice (some ⟨g, 0, none⟩) m cap) m xs) → Hid (w.grownBy w' (some g0)) → wpList P ops Q rest (a.put o.dst (.slice (some ⟨g, 0, none⟩) m cap)) w') :
 wpList P ops Q (o :: rest) a w := by
 rcases Nat.eq_zero_or_pos m with h0 | h0
 · subst h0
   have hxs : xs = [] := List.eq_nil_of_length_eq_zero (by rw [hn]; omega)
   subst hxs
   have hrun : ∀ ty, (Builtin.append_ #[t, t] ty #[.slice (some ⟨g0, 0, none⟩) 0 0, .slice ax 0 c]).run P w = .ok (.slice (some ⟨g0, 0, none⟩) 0 0) w := fun ty => by
    cases ax with
    | none => simp [Builtin.append_, run_underlying h1, sizeOf, typeInfo, h2, Builtin.lenOf, Builtin.firstCells, go_sem]
    | some ad => simp [Builtin.append_, run_underlying h1, sizeOf, typeInfo, h2, Builtin.lenOf, Builtin.firstCells, go_sem]
   refine wpList_plain hg fun K hKK => ?_
   unfold Oper.wp execOp
   simp only [hop, resolve, invoke, builtin, Sem.run_bind, Sem.run_pure, Result.andThen_ok, List.map_toArray, List.map_cons, List.map_nil, hs, hx, hrun]
   exact hKK _ _ (hK g0 0 w hown (World.grownBy.refl w _))
 · obtain ⟨ad, rfl, hcc⟩ := hc h0
   refine append_row w hg s x t hop base e i z size bytes h1 h2 h3 h4 h5 h6 h7 (.slice (some ⟨g0, 0, none⟩) 0 0) 0 [] hs hown ad m c xs hx hn hcc h1c h0 (by omega) (by rw [Nat.zero_add]; exact b2) hbase (fun v' w' r1 r2 _ => ?_)
   rw [Nat.zero_add, List.nil_append] at r1
   obtain ⟨g, cap, rfl, -, -⟩ := r1.form h0
   exact hK g cap w' r1 r2
end Go.Proofs.YtccnehcpmkgbhaaGreatDoor
