/- A part. -/
import Derived.Laws.CopyOwn
import Derived.Test.YtibgjcejddpldaaGreatPart12
namespace Go.Proofs.YtibgjcejddpldaaGreat
open Go Go.RowKit
theorem run_copy_whole {P : Program} (w : World) (T ty elem : TypeId) (i : TypeInfo) (g m cap : Nat) (a : Addr) (sCap : Nat) (cur : Array Value) (t : TypeId) (cs : List Value)
 (hu : P.underlying T = some (.slice elem)) (hi : P.info? elem = some i) (hg : w.heap[g]? = some (.cells cur t (0, 0))) (hn : cs.length = m * i.size) (hc : cur.size = m * i.size)
 (hsrc : ∀ j v, cs[j]? = some v → w.cell? (a.add j) = some v) (h1 : ∀ v ∈ cs, v.oneCell' = true) :
 (Builtin.copy_ #[T, T] ty #[.slice (some ⟨g, 0, none⟩) m cap, .slice (some a) m sCap]).run P w = .ok (goInt m) (w.setRow g cs.toArray) := by
 have hl := run_loadCells_list (P := P) w a cs hsrc
 have hst := run_storeCells_at P g 0 t cs 0 cur w hg (by omega) h1
 have he : (cur.toList.take (0 + 0) ++ cs ++ cur.toList.drop (0 + 0 + cs.length)) = cs := by
  rw [List.drop_eq_nil_of_le (by simp; omega)]; simp
 rw [he] at hst
 rw [hn] at hl
 simp [Builtin.copy_, run_underlying hu, Builtin.lenOf, Builtin.firstCells, sizeOf, typeInfo, hi, hl, hst]
theorem wpList_copyW {P : Program} {w : World} {ops : Array Oper} {rest : List Oper} {o : Oper} {ac : Act} {Q : Exit → Act → World → Prop} (hgd : o.guard = none) (d s : Operand) (T : TypeId)
 (ho : o.op = .call { callee := .builtin .copy, args := #[d, s], argTypes := #[T, T] }) (elem : TypeId) (i : TypeInfo) (hu : P.underlying T = some (.slice elem)) (hi : P.info? elem = some i)
 (g m cap : Nat) (a : Addr) (sCap : Nat) (hd : ac.eval d = .slice (some ⟨g, 0, none⟩) m cap) (hs : ac.eval s = .slice (some a) m sCap) (cur : Array Value) (t : TypeId) (cs : List Value)
 (hg : w.heap[g]? = some (.cells cur t (0, 0))) (hn : cs.length = m * i.size) (hc : cur.size = m * i.size) (hsrc : ∀ j v, cs[j]? = some v → w.cell? (a.add j) = some v) (h1 : ∀ v ∈ cs, v.oneCell' = true)
 (h : ∀ W, Hid (W.heap[g]? = some (.cells cs.toArray t (0, 0))) → Hid (w.grownBy W (some g)) → wpList P ops Q rest (ac.put o.dst (goInt m)) W) : wpList P ops Q (o :: rest) ac w := by
 refine wpList_plain hgd fun K hK => ?_
 have hrun := run_copy_whole (P := P) w T o.type elem i g m cap a sCap cur t cs hu hi hg hn hc hsrc h1
 unfold Oper.wp
 simp [execOp, ho, resolve, invoke, builtin, hd, hs, hrun, Result.andThen]
 exact hK _ _ (h _ (setRow_heap w g cur _ t _ hg) ⟨rfl, rfl, rfl, by simp [World.setRow], fun k _ hk => setRow_other w g k _ (fun e => hk (by rw [e]))⟩)

theorem row_set {W : World} {b : Nat} {T : TypeId} {l l' : List Value} {o : Nat} {v : Value} (h : W.rowIs b T 16 (r18 l)) (hl : l' = l.set o v) (hlen : l.length = 16) (ho : o < 16) : (W.setCell ⟨b, o, none⟩ v).rowIs b T 16 (r18 l') := by
 refine (h.set o v).congr fun i hi => ?_
 subst hl
 unfold r18
 by_cases e : i = o
 · subst e; simp [List.getD, hlen, ho]
 · simp [e, List.getD, List.getElem?_set_ne (fun e2 => e e2.symm)]
theorem CrAt.put {W : World} {C : Nat} {x x' : Cw} {B : CrB} (h : CrAt W C x B) (o : Nat) (v : Value) (ho : o < 16) (hr : crRow x' B = (crRow x B).set o v) (e1 : x'.hands = x.hands) (e2 : x'.ring = x.ring) (e3 : x'.got = x.got) (e4 : x'.queue = x.queue) (e5 : x'.results = x.results) (e6 : x'.out = x.out) (e7 : x'.room = x.room) (e8 : x'.shut = x.shut) (e9 : x'.workers = x.workers) (e10 : x'.window = x.window) : CrAt (W.setCell ⟨C, o, none⟩ v) C x' B := by
 obtain ⟨h1, h2, h3, h4, h5, h6, h7, ⟨p, f, hf, h8⟩, ⟨u, h9⟩, a1, a2, a3, a4, a5, a6, a7⟩ := h
 have hne : ∀ b, b ∈ [B.H, B.Q, B.Qp, B.R, B.Rp, B.O, B.Op, B.M, B.T, B.G] ++ (Value.slice B.aT 0 0).ownBlock.toList → b ≠ C := fun b hb e => by
  have := a7
  simp only [CrB.blocks, List.cons_append, List.nodup_cons] at this
  exact this.1 (e ▸ by simpa using hb)
 have hm : ∀ b, b ∈ [B.H, B.Q, B.Qp, B.R, B.Rp, B.O, B.Op, B.M, B.T, B.G] → (W.setCell ⟨C, o, none⟩ v).heap[b]? = W.heap[b]? := fun b hb => Below.heap_setCell _ _ _ _ (hne b (List.mem_append_left _ hb))
 refine ⟨row_set h1 hr rfl ho, ?_, ?_, ?_, ?_, ?_, ?_, ?_, ⟨u, ?_⟩, ?_, ?_, ?_, ?_, ?_, ?_, a7⟩
 · rw [e1]; exact h2.of_block (hm _ (by simp))
 · rw [e2]; exact ownsRow_keepT h3 (fun g e => by simp only [Value.ownBlock, Option.some.injEq] at e; subst e; exact hm _ (by simp))
 · rw [e3]
   exact ownsRow_keepT h4 (fun g e => Below.heap_setCell _ _ _ _ (hne g (List.mem_append_right _ (by
    cases ha : B.aT with
    | none => rw [ha] at e; cases e
    | some ad => rw [ha] at e; simp only [Value.ownBlock, Option.some.injEq] at e ⊢; simp [e]))))
 · rw [e1, e4, e8]; exact h5.carry (hm _ (by simp)) (hm _ (by simp))
 · rw [e1, e5, e8]; exact h6.carry (hm _ (by simp)) (hm _ (by simp))
 · rw [e6, e8]; exact h7.carry (hm _ (by simp)) (hm _ (by simp))
 · rw [e2, e7]; exact ⟨p, f, hf, h8.of_block (hm _ (by simp))⟩
 · rw [e8]; exact h9.of_block (hm _ (by simp))
 · rw [e9, e1]; exact a1
 · rw [e10, e2]; exact a2
 · rw [e8]; exact a3
 · rw [e1]; exact a4
 · rw [e2]; exact a5
 · rw [e3]; exact a6
structure Mk (P : Nat → Prop) (w W : World) (c : Cw) (A : A7) (C : Nat) (x : Cw) (B : CrB) : Prop where
 ag : Ag P w W c A
 cr : CrAt W C x B
 ge : ∀ b, b ∈ CrB.blocks C B → w.heap.size + 1 ≤ b
theorem Mk.on {P : Nat → Prop} {w W W' : World} {c : Cw} {A : A7} {C : Nat} {x : Cw} {B : CrB} (h : Mk P w W c A C x B) (hb : Below W.heap.size W W') : Mk P w W' c A C x B := ⟨h.ag.on hb, h.cr.below hb, h.ge⟩
theorem Mk.dn {P : Nat → Prop} {w W : World} {c : Cw} {A : A7} {C : Nat} {x : Cw} {B : CrB} (h : Mk P w W c A C x B) (m : Nat) : Mk P w (W.drewN m) c A C x B := h.on (below_drewN W m)
theorem Ag.other {P : Nat → Prop} {w W : World} {c : Cw} {A : A7} (h : Ag P w W c A) {g : Nat} (hg : w.heap.size + 1 ≤ g) (o : Nat) (v : Value) : Ag P w (W.setCell ⟨g, o, none⟩ v) c A :=
 ⟨h.box.setOther (a := ⟨g, o, none⟩) (Nat.ne_of_lt hg) v, h.at'.carry (fun b hb => Below.heap_setCell _ _ _ _ (Nat.ne_of_lt (Nat.lt_trans (h.lt b hb) hg))) (fun _ h => h), h.lt, h.bel.setCell (Nat.le_of_succ_le hg) v⟩
theorem Ag.exc {P : Nat → Prop} {w W W' : World} {c : Cw} {A : A7} (h : Ag P w W c A) {L : List Nat} (hx : Exc L W W') (hL : ∀ g, g ∈ L → w.heap.size + 1 ≤ g) : Ag P w W' c A := by
 have hn : ∀ b, b ≤ w.heap.size → b ∉ L := fun b hb hm => by have := hL b hm; omega
 have hs := h.bel.size
 exact ⟨h.box.of_block (hx.block _ h.box.lt (hn _ (Nat.le_refl _))), h.at'.carry (fun b hb => hx.block b (Nat.lt_of_lt_of_le (h.lt b hb) hs) (hn b (Nat.le_of_lt (h.lt b hb)))) (fun _ h => h), h.lt, h.bel.trans (hx.below hs (fun b hb => Nat.le_of_succ_le (hL b hb)))⟩
theorem nd {l : List Nat} (h : l.Nodup) (i j : Nat) {a b : Nat} (hi : l[i]? = some a) (hj : l[j]? = some b) (hij : i ≠ j) : a ≠ b := by
 rintro rfl
 obtain ⟨hi1, hi2⟩ := List.getElem?_eq_some_iff.1 hi
 obtain ⟨hj1, hj2⟩ := List.getElem?_eq_some_iff.1 hj
 rw [List.Nodup, List.pairwise_iff_getElem] at h
 rcases Nat.lt_or_gt_of_ne hij with hlt | hlt
 · exact h i j hi1 hj1 hlt (hi2.trans hj2.symm)
 · exact h j i hj1 hi1 hlt (hj2.trans hi2.symm)
theorem nm1 {a x : Nat} (h : a ≠ x) : a ∉ [x] := by simpa using h
theorem nm2 {a x y : Nat} (h : a ≠ x) (h2 : a ≠ y) : a ∉ [x, y] := by simp [h, h2]
theorem CrAt.dist {W : World} {C : Nat} {x : Cw} {B : CrB} (h : CrAt W C x B) : [C, B.H, B.Q, B.Qp, B.R, B.Rp, B.O, B.Op, B.M, B.T, B.G].Nodup ∧ ∀ g, (Value.slice B.aT x.got.length B.cT).ownBlock = some g → g ∉ [C, B.H, B.Q, B.Qp, B.R, B.Rp, B.O, B.Op, B.M, B.T, B.G] := by
 have h1 := h.dj
 unfold CrB.blocks at h1
 rw [List.nodup_append] at h1
 refine ⟨h1.1, fun g e hm => ?_⟩
 refine h1.2.2 g hm g ?_ rfl
 cases ha : B.aT with
 | none => rw [ha] at e; cases e
 | some ad => rw [ha] at e; simp only [Value.ownBlock, Option.some.injEq] at e ⊢; simp [e]
theorem CrAt.mod_q {W W' : World} {C : Nat} {x : Cw} {B : CrB} (h : CrAt W C x B) {l : List Int} (hn : RgAt W' B.Q B.Qp x.hands.length l (x.shut.getD 0 0)) (hx : Exc [B.Q, B.Qp] W W') : CrAt W' C { x with queue := l } B := by
 obtain ⟨hd, hg⟩ := h.dist
 have hlt := h.lt
 have hin : ∀ b, b ∈ [C, B.H, B.Q, B.Qp, B.R, B.Rp, B.O, B.Op, B.M, B.T, B.G] → b ∈ CrB.blocks C B := fun b hb => List.mem_append_left _ hb
 obtain ⟨h1, h2, h3, h4, h5, h6, h7, ⟨p, f, hf, h8⟩, ⟨u, h9⟩, a1, a2, a3, a4, a5, a6, a7⟩ := h
 have hm : ∀ b, b ∈ [C, B.H, B.Q, B.Qp, B.R, B.Rp, B.O, B.Op, B.M, B.T, B.G] → b ∉ [B.Q, B.Qp] → W'.heap[b]? = W.heap[b]? := fun b hb hn => hx.block b (hlt b (hin b hb)) hn
 refine ⟨?_, ?_, ?_, ?_, ?_, ?_, ?_, ?_, ?_, a1, a2, a3, a4, a5, a6, a7⟩
 · exact h1.of_block (hm C (by simp) (nm2 (nd hd 0 2 rfl rfl (by decide)) (nd hd 0 3 rfl rfl (by decide))))
 · exact h2.of_block (hm B.H (by simp) (nm2 (nd hd 1 2 rfl rfl (by decide)) (nd hd 1 3 rfl rfl (by decide))))
 · exact ownsRow_keepT h3 (fun g e => by simp only [Value.ownBlock, Option.some.injEq] at e; subst e; exact (hm B.G (by simp) (nm2 (nd hd 10 2 rfl rfl (by decide)) (nd hd 10 3 rfl rfl (by decide)))))
 · exact ownsRow_keepT h4 (fun g e => hx.block g (h4.lt g e).2 (fun hm2 => hg g e (by simp only [List.mem_cons, List.not_mem_nil, or_false] at hm2; rcases hm2 with rfl | rfl <;> simp)))
 · exact hn
 · exact h6.carry (hm B.R (by simp) (nm2 (nd hd 4 2 rfl rfl (by decide)) (nd hd 4 3 rfl rfl (by decide)))) (hm B.Rp (by simp) (nm2 (nd hd 5 2 rfl rfl (by decide)) (nd hd 5 3 rfl rfl (by decide))))
 · exact h7.carry (hm B.O (by simp) (nm2 (nd hd 6 2 rfl rfl (by decide)) (nd hd 6 3 rfl rfl (by decide)))) (hm B.Op (by simp) (nm2 (nd hd 7 2 rfl rfl (by decide)) (nd hd 7 3 rfl rfl (by decide))))
 · exact ⟨p, f, hf, h8.of_block (hm B.M (by simp) (nm2 (nd hd 8 2 rfl rfl (by decide)) (nd hd 8 3 rfl rfl (by decide))))⟩
 · exact ⟨u, h9.of_block (hm B.T (by simp) (nm2 (nd hd 9 2 rfl rfl (by decide)) (nd hd 9 3 rfl rfl (by decide))))⟩
theorem CrAt.mod_r {W W' : World} {C : Nat} {x : Cw} {B : CrB} (h : CrAt W C x B) {l : List Int} (hn : RgAt W' B.R B.Rp x.hands.length l (x.shut.getD 1 0)) (hx : Exc [B.R, B.Rp] W W') : CrAt W' C { x with results := l } B := by
 obtain ⟨hd, hg⟩ := h.dist
 have hlt := h.lt
 have hin : ∀ b, b ∈ [C, B.H, B.Q, B.Qp, B.R, B.Rp, B.O, B.Op, B.M, B.T, B.G] → b ∈ CrB.blocks C B := fun b hb => List.mem_append_left _ hb
 obtain ⟨h1, h2, h3, h4, h5, h6, h7, ⟨p, f, hf, h8⟩, ⟨u, h9⟩, a1, a2, a3, a4, a5, a6, a7⟩ := h
 have hm : ∀ b, b ∈ [C, B.H, B.Q, B.Qp, B.R, B.Rp, B.O, B.Op, B.M, B.T, B.G] → b ∉ [B.R, B.Rp] → W'.heap[b]? = W.heap[b]? := fun b hb hn => hx.block b (hlt b (hin b hb)) hn
 refine ⟨?_, ?_, ?_, ?_, ?_, ?_, ?_, ?_, ?_, a1, a2, a3, a4, a5, a6, a7⟩
 · exact h1.of_block (hm C (by simp) (nm2 (nd hd 0 4 rfl rfl (by decide)) (nd hd 0 5 rfl rfl (by decide))))
 · exact h2.of_block (hm B.H (by simp) (nm2 (nd hd 1 4 rfl rfl (by decide)) (nd hd 1 5 rfl rfl (by decide))))
 · exact ownsRow_keepT h3 (fun g e => by simp only [Value.ownBlock, Option.some.injEq] at e; subst e; exact (hm B.G (by simp) (nm2 (nd hd 10 4 rfl rfl (by decide)) (nd hd 10 5 rfl rfl (by decide)))))
 · exact ownsRow_keepT h4 (fun g e => hx.block g (h4.lt g e).2 (fun hm2 => hg g e (by simp only [List.mem_cons, List.not_mem_nil, or_false] at hm2; rcases hm2 with rfl | rfl <;> simp)))
 · exact h5.carry (hm B.Q (by simp) (nm2 (nd hd 2 4 rfl rfl (by decide)) (nd hd 2 5 rfl rfl (by decide)))) (hm B.Qp (by simp) (nm2 (nd hd 3 4 rfl rfl (by decide)) (nd hd 3 5 rfl rfl (by decide))))
 · exact hn
 · exact h7.carry (hm B.O (by simp) (nm2 (nd hd 6 4 rfl rfl (by decide)) (nd hd 6 5 rfl rfl (by decide)))) (hm B.Op (by simp) (nm2 (nd hd 7 4 rfl rfl (by decide)) (nd hd 7 5 rfl rfl (by decide))))
 · exact ⟨p, f, hf, h8.of_block (hm B.M (by simp) (nm2 (nd hd 8 4 rfl rfl (by decide)) (nd hd 8 5 rfl rfl (by decide))))⟩
 · exact ⟨u, h9.of_block (hm B.T (by simp) (nm2 (nd hd 9 4 rfl rfl (by decide)) (nd hd 9 5 rfl rfl (by decide))))⟩
theorem CrAt.mod_o {W W' : World} {C : Nat} {x : Cw} {B : CrB} (h : CrAt W C x B) {l : List Int} (hn : RgAt W' B.O B.Op 1 l (x.shut.getD 2 0)) (hx : Exc [B.O, B.Op] W W') : CrAt W' C { x with out := l } B := by
 obtain ⟨hd, hg⟩ := h.dist
 have hlt := h.lt
 have hin : ∀ b, b ∈ [C, B.H, B.Q, B.Qp, B.R, B.Rp, B.O, B.Op, B.M, B.T, B.G] → b ∈ CrB.blocks C B := fun b hb => List.mem_append_left _ hb
 obtain ⟨h1, h2, h3, h4, h5, h6, h7, ⟨p, f, hf, h8⟩, ⟨u, h9⟩, a1, a2, a3, a4, a5, a6, a7⟩ := h
 have hm : ∀ b, b ∈ [C, B.H, B.Q, B.Qp, B.R, B.Rp, B.O, B.Op, B.M, B.T, B.G] → b ∉ [B.O, B.Op] → W'.heap[b]? = W.heap[b]? := fun b hb hn => hx.block b (hlt b (hin b hb)) hn
 refine ⟨?_, ?_, ?_, ?_, ?_, ?_, ?_, ?_, ?_, a1, a2, a3, a4, a5, a6, a7⟩
 · exact h1.of_block (hm C (by simp) (nm2 (nd hd 0 6 rfl rfl (by decide)) (nd hd 0 7 rfl rfl (by decide))))
 · exact h2.of_block (hm B.H (by simp) (nm2 (nd hd 1 6 rfl rfl (by decide)) (nd hd 1 7 rfl rfl (by decide))))
 · exact ownsRow_keepT h3 (fun g e => by simp only [Value.ownBlock, Option.some.injEq] at e; subst e; exact (hm B.G (by simp) (nm2 (nd hd 10 6 rfl rfl (by decide)) (nd hd 10 7 rfl rfl (by decide)))))
 · exact ownsRow_keepT h4 (fun g e => hx.block g (h4.lt g e).2 (fun hm2 => hg g e (by simp only [List.mem_cons, List.not_mem_nil, or_false] at hm2; rcases hm2 with rfl | rfl <;> simp)))
 · exact h5.carry (hm B.Q (by simp) (nm2 (nd hd 2 6 rfl rfl (by decide)) (nd hd 2 7 rfl rfl (by decide)))) (hm B.Qp (by simp) (nm2 (nd hd 3 6 rfl rfl (by decide)) (nd hd 3 7 rfl rfl (by decide))))
 · exact h6.carry (hm B.R (by simp) (nm2 (nd hd 4 6 rfl rfl (by decide)) (nd hd 4 7 rfl rfl (by decide)))) (hm B.Rp (by simp) (nm2 (nd hd 5 6 rfl rfl (by decide)) (nd hd 5 7 rfl rfl (by decide))))
 · exact hn
 · exact ⟨p, f, hf, h8.of_block (hm B.M (by simp) (nm2 (nd hd 8 6 rfl rfl (by decide)) (nd hd 8 7 rfl rfl (by decide))))⟩
 · exact ⟨u, h9.of_block (hm B.T (by simp) (nm2 (nd hd 9 6 rfl rfl (by decide)) (nd hd 9 7 rfl rfl (by decide))))⟩
theorem CrAt.mod_h {W W' : World} {C : Nat} {x : Cw} {B : CrB} (h : CrAt W C x B) {l : List Hd} (hl : l.length = x.hands.length) (hn : W'.rowIs B.H 73 (l.length * 2) (r18 (l.map Hd.cs).flatten)) (hx : Exc [B.H] W W') : CrAt W' C { x with hands := l } B := by
 obtain ⟨hd, hg⟩ := h.dist
 have hlt := h.lt
 have hin : ∀ b, b ∈ [C, B.H, B.Q, B.Qp, B.R, B.Rp, B.O, B.Op, B.M, B.T, B.G] → b ∈ CrB.blocks C B := fun b hb => List.mem_append_left _ hb
 obtain ⟨h1, h2, h3, h4, h5, h6, h7, ⟨p, f, hf, h8⟩, ⟨u, h9⟩, a1, a2, a3, a4, a5, a6, a7⟩ := h
 have hm : ∀ b, b ∈ [C, B.H, B.Q, B.Qp, B.R, B.Rp, B.O, B.Op, B.M, B.T, B.G] → b ∉ [B.H] → W'.heap[b]? = W.heap[b]? := fun b hb hn => hx.block b (hlt b (hin b hb)) hn
 refine ⟨?_, ?_, ?_, ?_, ?_, ?_, ?_, ?_, ?_, (a1.trans (by rw [show ({ x with hands := l } : Cw).hands.length = x.hands.length from hl])), a2, a3, (by rw [show ({ x with hands := l } : Cw).hands.length = x.hands.length from hl]; exact a4), a5, a6, a7⟩
 · exact (by simp only [crRow, hl]; exact h1.of_block (hm C (by simp) (nm1 (nd hd 0 1 rfl rfl (by decide)))))
 · exact hn
 · exact ownsRow_keepT h3 (fun g e => by simp only [Value.ownBlock, Option.some.injEq] at e; subst e; exact (hm B.G (by simp) (nm1 (nd hd 10 1 rfl rfl (by decide)))))
 · exact ownsRow_keepT h4 (fun g e => hx.block g (h4.lt g e).2 (fun hm2 => hg g e (by simp only [List.mem_cons, List.not_mem_nil, or_false] at hm2; subst hm2; simp)))
 · exact (by rw [show ({ x with hands := l } : Cw).hands.length = x.hands.length from hl]; exact h5.carry (hm B.Q (by simp) (nm1 (nd hd 2 1 rfl rfl (by decide)))) (hm B.Qp (by simp) (nm1 (nd hd 3 1 rfl rfl (by decide)))))
 · exact (by rw [show ({ x with hands := l } : Cw).hands.length = x.hands.length from hl]; exact h6.carry (hm B.R (by simp) (nm1 (nd hd 4 1 rfl rfl (by decide)))) (hm B.Rp (by simp) (nm1 (nd hd 5 1 rfl rfl (by decide)))))
 · exact h7.carry (hm B.O (by simp) (nm1 (nd hd 6 1 rfl rfl (by decide)))) (hm B.Op (by simp) (nm1 (nd hd 7 1 rfl rfl (by decide))))
 · exact ⟨p, f, hf, h8.of_block (hm B.M (by simp) (nm1 (nd hd 8 1 rfl rfl (by decide))))⟩
 · exact ⟨u, h9.of_block (hm B.T (by simp) (nm1 (nd hd 9 1 rfl rfl (by decide))))⟩
theorem CrAt.mod_g {W W' : World} {C : Nat} {x : Cw} {B : CrB} (h : CrAt W C x B) {l : List Int} (hl : l.length = x.ring.length) (hn : W'.ownsRow 0 3 1 (.slice (some ⟨B.G, 0, none⟩) l.length B.cg) l.length (l.map zcs).flatten) (hx : Exc [B.G] W W') : CrAt W' C { x with ring := l } B := by
 obtain ⟨hd, hg⟩ := h.dist
 have hlt := h.lt
 have hin : ∀ b, b ∈ [C, B.H, B.Q, B.Qp, B.R, B.Rp, B.O, B.Op, B.M, B.T, B.G] → b ∈ CrB.blocks C B := fun b hb => List.mem_append_left _ hb
 obtain ⟨h1, h2, h3, h4, h5, h6, h7, ⟨p, f, hf, h8⟩, ⟨u, h9⟩, a1, a2, a3, a4, a5, a6, a7⟩ := h
 have hm : ∀ b, b ∈ [C, B.H, B.Q, B.Qp, B.R, B.Rp, B.O, B.Op, B.M, B.T, B.G] → b ∉ [B.G] → W'.heap[b]? = W.heap[b]? := fun b hb hn => hx.block b (hlt b (hin b hb)) hn
 refine ⟨?_, ?_, ?_, ?_, ?_, ?_, ?_, ?_, ?_, a1, (a2.trans (by rw [show ({ x with ring := l } : Cw).ring.length = x.ring.length from hl])), a3, a4, (by rw [show ({ x with ring := l } : Cw).ring.length = x.ring.length from hl]; exact a5), a6, a7⟩
 · exact (by simp only [crRow, hl]; exact h1.of_block (hm C (by simp) (nm1 (nd hd 0 10 rfl rfl (by decide)))))
 · exact h2.of_block (hm B.H (by simp) (nm1 (nd hd 1 10 rfl rfl (by decide))))
 · exact hn
 · exact ownsRow_keepT h4 (fun g e => hx.block g (h4.lt g e).2 (fun hm2 => hg g e (by simp only [List.mem_cons, List.not_mem_nil, or_false] at hm2; subst hm2; simp)))
 · exact h5.carry (hm B.Q (by simp) (nm1 (nd hd 2 10 rfl rfl (by decide)))) (hm B.Qp (by simp) (nm1 (nd hd 3 10 rfl rfl (by decide))))
 · exact h6.carry (hm B.R (by simp) (nm1 (nd hd 4 10 rfl rfl (by decide)))) (hm B.Rp (by simp) (nm1 (nd hd 5 10 rfl rfl (by decide))))
 · exact h7.carry (hm B.O (by simp) (nm1 (nd hd 6 10 rfl rfl (by decide)))) (hm B.Op (by simp) (nm1 (nd hd 7 10 rfl rfl (by decide))))
 · exact ⟨p, f, (by rw [show ({ x with ring := l } : Cw).ring.length = x.ring.length from hl]; exact hf), (by rw [show ({ x with ring := l } : Cw).ring.length = x.ring.length from hl]; exact h8.of_block (hm B.M (by simp) (nm1 (nd hd 8 10 rfl rfl (by decide)))))⟩
 · exact ⟨u, h9.of_block (hm B.T (by simp) (nm1 (nd hd 9 10 rfl rfl (by decide))))⟩
theorem CrAt.mod_m {W W' : World} {C : Nat} {x : Cw} {B : CrB} (h : CrAt W C x B) {z : Int} (hn : ∃ p f : Nat, f < x.ring.length ∧ W'.rowIs B.M 100 4 (rg4 (.slice (some ⟨p, 0, none⟩) x.ring.length x.ring.length) f z 0)) (hx : Exc [B.M] W W') : CrAt W' C { x with room := z } B := by
 obtain ⟨hd, hg⟩ := h.dist
 have hlt := h.lt
 have hin : ∀ b, b ∈ [C, B.H, B.Q, B.Qp, B.R, B.Rp, B.O, B.Op, B.M, B.T, B.G] → b ∈ CrB.blocks C B := fun b hb => List.mem_append_left _ hb
 obtain ⟨h1, h2, h3, h4, h5, h6, h7, ⟨p, f, hf, h8⟩, ⟨u, h9⟩, a1, a2, a3, a4, a5, a6, a7⟩ := h
 have hm : ∀ b, b ∈ [C, B.H, B.Q, B.Qp, B.R, B.Rp, B.O, B.Op, B.M, B.T, B.G] → b ∉ [B.M] → W'.heap[b]? = W.heap[b]? := fun b hb hn => hx.block b (hlt b (hin b hb)) hn
 refine ⟨?_, ?_, ?_, ?_, ?_, ?_, ?_, ?_, ?_, a1, a2, a3, a4, a5, a6, a7⟩
 · exact h1.of_block (hm C (by simp) (nm1 (nd hd 0 8 rfl rfl (by decide))))
 · exact h2.of_block (hm B.H (by simp) (nm1 (nd hd 1 8 rfl rfl (by decide))))
 · exact ownsRow_keepT h3 (fun g e => by simp only [Value.ownBlock, Option.some.injEq] at e; subst e; exact (hm B.G (by simp) (nm1 (nd hd 10 8 rfl rfl (by decide)))))
 · exact ownsRow_keepT h4 (fun g e => hx.block g (h4.lt g e).2 (fun hm2 => hg g e (by simp only [List.mem_cons, List.not_mem_nil, or_false] at hm2; subst hm2; simp)))
 · exact h5.carry (hm B.Q (by simp) (nm1 (nd hd 2 8 rfl rfl (by decide)))) (hm B.Qp (by simp) (nm1 (nd hd 3 8 rfl rfl (by decide))))
 · exact h6.carry (hm B.R (by simp) (nm1 (nd hd 4 8 rfl rfl (by decide)))) (hm B.Rp (by simp) (nm1 (nd hd 5 8 rfl rfl (by decide))))
 · exact h7.carry (hm B.O (by simp) (nm1 (nd hd 6 8 rfl rfl (by decide)))) (hm B.Op (by simp) (nm1 (nd hd 7 8 rfl rfl (by decide))))
 · exact hn
 · exact ⟨u, h9.of_block (hm B.T (by simp) (nm1 (nd hd 9 8 rfl rfl (by decide))))⟩
theorem CrAt.mod_s0 {W W' : World} {C : Nat} {x : Cw} {B : CrB} (h : CrAt W C x B) {l : List Int} (hs : l.length = 4) (k1 : l.getD 1 0 = x.shut.getD 1 0) (k2 : l.getD 2 0 = x.shut.getD 2 0) (k3 : l.getD 3 0 = x.shut.getD 3 0) (hn : RgAt W' B.Q B.Qp x.hands.length x.queue (l.getD 0 0)) (hx : Exc [B.Q] W W') : CrAt W' C { x with shut := l } B := by
 obtain ⟨hd, hg⟩ := h.dist
 have hlt := h.lt
 have hin : ∀ b, b ∈ [C, B.H, B.Q, B.Qp, B.R, B.Rp, B.O, B.Op, B.M, B.T, B.G] → b ∈ CrB.blocks C B := fun b hb => List.mem_append_left _ hb
 obtain ⟨h1, h2, h3, h4, h5, h6, h7, ⟨p, f, hf, h8⟩, ⟨u, h9⟩, a1, a2, a3, a4, a5, a6, a7⟩ := h
 have hm : ∀ b, b ∈ [C, B.H, B.Q, B.Qp, B.R, B.Rp, B.O, B.Op, B.M, B.T, B.G] → b ∉ [B.Q] → W'.heap[b]? = W.heap[b]? := fun b hb hn => hx.block b (hlt b (hin b hb)) hn
 refine ⟨?_, ?_, ?_, ?_, ?_, ?_, ?_, ?_, ?_, a1, a2, hs, a4, a5, a6, a7⟩
 · exact h1.of_block (hm C (by simp) (nm1 (nd hd 0 2 rfl rfl (by decide))))
 · exact h2.of_block (hm B.H (by simp) (nm1 (nd hd 1 2 rfl rfl (by decide))))
 · exact ownsRow_keepT h3 (fun g e => by simp only [Value.ownBlock, Option.some.injEq] at e; subst e; exact (hm B.G (by simp) (nm1 (nd hd 10 2 rfl rfl (by decide)))))
 · exact ownsRow_keepT h4 (fun g e => hx.block g (h4.lt g e).2 (fun hm2 => hg g e (by simp only [List.mem_cons, List.not_mem_nil, or_false] at hm2; subst hm2; simp)))
 · exact hn
 · exact (by rw [show ({ x with shut := l } : Cw).shut.getD 1 0 = x.shut.getD 1 0 from k1]; exact h6.carry (hm B.R (by simp) (nm1 (nd hd 4 2 rfl rfl (by decide)))) (hm B.Rp (by simp) (nm1 (nd hd 5 2 rfl rfl (by decide)))))
 · exact (by rw [show ({ x with shut := l } : Cw).shut.getD 2 0 = x.shut.getD 2 0 from k2]; exact h7.carry (hm B.O (by simp) (nm1 (nd hd 6 2 rfl rfl (by decide)))) (hm B.Op (by simp) (nm1 (nd hd 7 2 rfl rfl (by decide)))))
 · exact ⟨p, f, hf, h8.of_block (hm B.M (by simp) (nm1 (nd hd 8 2 rfl rfl (by decide))))⟩
 · exact ⟨u, (by rw [show ({ x with shut := l } : Cw).shut.getD 3 0 = x.shut.getD 3 0 from k3]; exact h9.of_block (hm B.T (by simp) (nm1 (nd hd 9 2 rfl rfl (by decide)))))⟩
theorem CrAt.mod_s1 {W W' : World} {C : Nat} {x : Cw} {B : CrB} (h : CrAt W C x B) {l : List Int} (hs : l.length = 4) (k0 : l.getD 0 0 = x.shut.getD 0 0) (k2 : l.getD 2 0 = x.shut.getD 2 0) (k3 : l.getD 3 0 = x.shut.getD 3 0) (hn : RgAt W' B.R B.Rp x.hands.length x.results (l.getD 1 0)) (hx : Exc [B.R] W W') : CrAt W' C { x with shut := l } B := by
 obtain ⟨hd, hg⟩ := h.dist
 have hlt := h.lt
 have hin : ∀ b, b ∈ [C, B.H, B.Q, B.Qp, B.R, B.Rp, B.O, B.Op, B.M, B.T, B.G] → b ∈ CrB.blocks C B := fun b hb => List.mem_append_left _ hb
 obtain ⟨h1, h2, h3, h4, h5, h6, h7, ⟨p, f, hf, h8⟩, ⟨u, h9⟩, a1, a2, a3, a4, a5, a6, a7⟩ := h
 have hm : ∀ b, b ∈ [C, B.H, B.Q, B.Qp, B.R, B.Rp, B.O, B.Op, B.M, B.T, B.G] → b ∉ [B.R] → W'.heap[b]? = W.heap[b]? := fun b hb hn => hx.block b (hlt b (hin b hb)) hn
 refine ⟨?_, ?_, ?_, ?_, ?_, ?_, ?_, ?_, ?_, a1, a2, hs, a4, a5, a6, a7⟩
 · exact h1.of_block (hm C (by simp) (nm1 (nd hd 0 4 rfl rfl (by decide))))
 · exact h2.of_block (hm B.H (by simp) (nm1 (nd hd 1 4 rfl rfl (by decide))))
 · exact ownsRow_keepT h3 (fun g e => by simp only [Value.ownBlock, Option.some.injEq] at e; subst e; exact (hm B.G (by simp) (nm1 (nd hd 10 4 rfl rfl (by decide)))))
 · exact ownsRow_keepT h4 (fun g e => hx.block g (h4.lt g e).2 (fun hm2 => hg g e (by simp only [List.mem_cons, List.not_mem_nil, or_false] at hm2; subst hm2; simp)))
 · exact (by rw [show ({ x with shut := l } : Cw).shut.getD 0 0 = x.shut.getD 0 0 from k0]; exact h5.carry (hm B.Q (by simp) (nm1 (nd hd 2 4 rfl rfl (by decide)))) (hm B.Qp (by simp) (nm1 (nd hd 3 4 rfl rfl (by decide)))))
 · exact hn
 · exact (by rw [show ({ x with shut := l } : Cw).shut.getD 2 0 = x.shut.getD 2 0 from k2]; exact h7.carry (hm B.O (by simp) (nm1 (nd hd 6 4 rfl rfl (by decide)))) (hm B.Op (by simp) (nm1 (nd hd 7 4 rfl rfl (by decide)))))
 · exact ⟨p, f, hf, h8.of_block (hm B.M (by simp) (nm1 (nd hd 8 4 rfl rfl (by decide))))⟩
 · exact ⟨u, (by rw [show ({ x with shut := l } : Cw).shut.getD 3 0 = x.shut.getD 3 0 from k3]; exact h9.of_block (hm B.T (by simp) (nm1 (nd hd 9 4 rfl rfl (by decide)))))⟩
theorem CrAt.mod_s2 {W W' : World} {C : Nat} {x : Cw} {B : CrB} (h : CrAt W C x B) {l : List Int} (hs : l.length = 4) (k0 : l.getD 0 0 = x.shut.getD 0 0) (k1 : l.getD 1 0 = x.shut.getD 1 0) (k3 : l.getD 3 0 = x.shut.getD 3 0) (hn : RgAt W' B.O B.Op 1 x.out (l.getD 2 0)) (hx : Exc [B.O] W W') : CrAt W' C { x with shut := l } B := by
 obtain ⟨hd, hg⟩ := h.dist
 have hlt := h.lt
 have hin : ∀ b, b ∈ [C, B.H, B.Q, B.Qp, B.R, B.Rp, B.O, B.Op, B.M, B.T, B.G] → b ∈ CrB.blocks C B := fun b hb => List.mem_append_left _ hb
 obtain ⟨h1, h2, h3, h4, h5, h6, h7, ⟨p, f, hf, h8⟩, ⟨u, h9⟩, a1, a2, a3, a4, a5, a6, a7⟩ := h
 have hm : ∀ b, b ∈ [C, B.H, B.Q, B.Qp, B.R, B.Rp, B.O, B.Op, B.M, B.T, B.G] → b ∉ [B.O] → W'.heap[b]? = W.heap[b]? := fun b hb hn => hx.block b (hlt b (hin b hb)) hn
 refine ⟨?_, ?_, ?_, ?_, ?_, ?_, ?_, ?_, ?_, a1, a2, hs, a4, a5, a6, a7⟩
 · exact h1.of_block (hm C (by simp) (nm1 (nd hd 0 6 rfl rfl (by decide))))
 · exact h2.of_block (hm B.H (by simp) (nm1 (nd hd 1 6 rfl rfl (by decide))))
 · exact ownsRow_keepT h3 (fun g e => by simp only [Value.ownBlock, Option.some.injEq] at e; subst e; exact (hm B.G (by simp) (nm1 (nd hd 10 6 rfl rfl (by decide)))))
 · exact ownsRow_keepT h4 (fun g e => hx.block g (h4.lt g e).2 (fun hm2 => hg g e (by simp only [List.mem_cons, List.not_mem_nil, or_false] at hm2; subst hm2; simp)))
 · exact (by rw [show ({ x with shut := l } : Cw).shut.getD 0 0 = x.shut.getD 0 0 from k0]; exact h5.carry (hm B.Q (by simp) (nm1 (nd hd 2 6 rfl rfl (by decide)))) (hm B.Qp (by simp) (nm1 (nd hd 3 6 rfl rfl (by decide)))))
 · exact (by rw [show ({ x with shut := l } : Cw).shut.getD 1 0 = x.shut.getD 1 0 from k1]; exact h6.carry (hm B.R (by simp) (nm1 (nd hd 4 6 rfl rfl (by decide)))) (hm B.Rp (by simp) (nm1 (nd hd 5 6 rfl rfl (by decide)))))
 · exact hn
 · exact ⟨p, f, hf, h8.of_block (hm B.M (by simp) (nm1 (nd hd 8 6 rfl rfl (by decide))))⟩
 · exact ⟨u, (by rw [show ({ x with shut := l } : Cw).shut.getD 3 0 = x.shut.getD 3 0 from k3]; exact h9.of_block (hm B.T (by simp) (nm1 (nd hd 9 6 rfl rfl (by decide)))))⟩
theorem CrAt.mod_s3 {W W' : World} {C : Nat} {x : Cw} {B : CrB} (h : CrAt W C x B) {l : List Int} (hs : l.length = 4) (k0 : l.getD 0 0 = x.shut.getD 0 0) (k1 : l.getD 1 0 = x.shut.getD 1 0) (k2 : l.getD 2 0 = x.shut.getD 2 0) (hn : ∃ v, W'.rowIs B.T 100 4 (rg4 v 0 0 (l.getD 3 0))) (hx : Exc [B.T] W W') : CrAt W' C { x with shut := l } B := by
 obtain ⟨hd, hg⟩ := h.dist
 have hlt := h.lt
 have hin : ∀ b, b ∈ [C, B.H, B.Q, B.Qp, B.R, B.Rp, B.O, B.Op, B.M, B.T, B.G] → b ∈ CrB.blocks C B := fun b hb => List.mem_append_left _ hb
 obtain ⟨h1, h2, h3, h4, h5, h6, h7, ⟨p, f, hf, h8⟩, ⟨u, h9⟩, a1, a2, a3, a4, a5, a6, a7⟩ := h
 have hm : ∀ b, b ∈ [C, B.H, B.Q, B.Qp, B.R, B.Rp, B.O, B.Op, B.M, B.T, B.G] → b ∉ [B.T] → W'.heap[b]? = W.heap[b]? := fun b hb hn => hx.block b (hlt b (hin b hb)) hn
 refine ⟨?_, ?_, ?_, ?_, ?_, ?_, ?_, ?_, ?_, a1, a2, hs, a4, a5, a6, a7⟩
 · exact h1.of_block (hm C (by simp) (nm1 (nd hd 0 9 rfl rfl (by decide))))
 · exact h2.of_block (hm B.H (by simp) (nm1 (nd hd 1 9 rfl rfl (by decide))))
 · exact ownsRow_keepT h3 (fun g e => by simp only [Value.ownBlock, Option.some.injEq] at e; subst e; exact (hm B.G (by simp) (nm1 (nd hd 10 9 rfl rfl (by decide)))))
 · exact ownsRow_keepT h4 (fun g e => hx.block g (h4.lt g e).2 (fun hm2 => hg g e (by simp only [List.mem_cons, List.not_mem_nil, or_false] at hm2; subst hm2; simp)))
 · exact (by rw [show ({ x with shut := l } : Cw).shut.getD 0 0 = x.shut.getD 0 0 from k0]; exact h5.carry (hm B.Q (by simp) (nm1 (nd hd 2 9 rfl rfl (by decide)))) (hm B.Qp (by simp) (nm1 (nd hd 3 9 rfl rfl (by decide)))))
 · exact (by rw [show ({ x with shut := l } : Cw).shut.getD 1 0 = x.shut.getD 1 0 from k1]; exact h6.carry (hm B.R (by simp) (nm1 (nd hd 4 9 rfl rfl (by decide)))) (hm B.Rp (by simp) (nm1 (nd hd 5 9 rfl rfl (by decide)))))
 · exact (by rw [show ({ x with shut := l } : Cw).shut.getD 2 0 = x.shut.getD 2 0 from k2]; exact h7.carry (hm B.O (by simp) (nm1 (nd hd 6 9 rfl rfl (by decide)))) (hm B.Op (by simp) (nm1 (nd hd 7 9 rfl rfl (by decide)))))
 · exact ⟨p, f, hf, h8.of_block (hm B.M (by simp) (nm1 (nd hd 8 9 rfl rfl (by decide))))⟩
 · exact hn
theorem CrAt.set_m {W : World} {C : Nat} {x : Cw} {B : CrB} (h : CrAt W C x B) (z : Int) : CrAt (W.setCell ⟨B.M, 2, none⟩ (.int .i64 z)) C { x with room := z } B := by
 obtain ⟨p, f, hf, h8⟩ := h.m
 refine h.mod_m ⟨p, f, hf, (h8.set 2 (.int .i64 z)).congr fun i hi => ?_⟩ (Exc.set _ _ _ _ (by simp))
 rcases (show i = 0 ∨ i = 1 ∨ i = 2 ∨ i = 3 by omega) with rfl | rfl | rfl | rfl <;> rfl
theorem RgAt.shut {W : World} {b p n : Nat} {l : List Int} {s : Int} (h : RgAt W b p n l s) (z : Int) : RgAt (W.setCell ⟨b, 3, none⟩ (.int .i64 z)) b p n l z := by
 have hne := h.ne
 obtain ⟨⟨f, g, hf, hb, hp, hg⟩, hl, hn⟩ := h
 refine ⟨⟨f, g, hf, (hb.set 3 (.int .i64 z)).congr fun i hi => ?_, hp.setOther (a := ⟨b, 3, none⟩) (Ne.symm hne) _, hg⟩, hl, hn⟩
 rcases (show i = 0 ∨ i = 1 ∨ i = 2 ∨ i = 3 by omega) with rfl | rfl | rfl | rfl <;> rfl

def SM (P : Nat → Prop) (w : World) (c : Cw) (A : A7) (C : Nat) (B : CrB) (W : World) : Prop := ∃ x, Mk P w W c A C x B ∧ x.hands.length = c.hands.length ∧ x.ring.length = c.ring.length
section
variable {P : Nat → Prop} {w W : World} {c : Cw} {A : A7} {C : Nat} {B : CrB}
theorem SM.ag (h : SM P w c A C B W) : Ag P w W c A := by obtain ⟨x, h, -⟩ := h; exact h.ag
theorem SM.c3 (h : SM P w c A C B W) : W.cell? ⟨C, 3, none⟩ = some (.pointer (some ⟨B.Q, 0, none⟩)) := by obtain ⟨x, h, -⟩ := h; exact h.cr.c3
theorem SM.c6 (h : SM P w c A C B W) : W.cell? ⟨C, 6, none⟩ = some (.pointer (some ⟨B.R, 0, none⟩)) := by obtain ⟨x, h, -⟩ := h; exact h.cr.c6
theorem SM.c10 (h : SM P w c A C B W) : W.cell? ⟨C, 10, none⟩ = some (.pointer (some ⟨B.O, 0, none⟩)) := by obtain ⟨x, h, -⟩ := h; exact h.cr.c10
theorem SM.c13 (h : SM P w c A C B W) : W.cell? ⟨C, 13, none⟩ = some (.pointer (some ⟨B.M, 0, none⟩)) := by obtain ⟨x, h, -⟩ := h; exact h.cr.c13
theorem SM.c14 (h : SM P w c A C B W) : W.cell? ⟨C, 14, none⟩ = some (.pointer (some ⟨B.T, 0, none⟩)) := by obtain ⟨x, h, -⟩ := h; exact h.cr.c14
theorem SM.c4 (h : SM P w c A C B W) : W.cell? ⟨C, 4, none⟩ = some (.slice (some ⟨B.H, 0, none⟩) c.hands.length c.hands.length) := by obtain ⟨x, h, e1, -⟩ := h; rw [← e1]; exact h.cr.c4
theorem SM.c8 (h : SM P w c A C B W) : W.cell? ⟨C, 8, none⟩ = some (.slice (some ⟨B.G, 0, none⟩) c.ring.length B.cg) := by obtain ⟨x, h, -, e2⟩ := h; rw [← e2]; exact h.cr.c8
end
theorem st3 (W : World) (ad : Addr) (old : Value) (z : Int) (h : W.cell? ad = some old) (hf : W.frozen? ad = false) : (Instr.storeAt 3 (.pointer (some ad)) (.int .i64 z)).run Tryz.prog W = .ok () (W.setCell ad (.int .i64 z)) := by
 simp [Instr.storeAt, Instr.sureAddr, storeVar, h, hf, go_sem]
theorem HAt.src {P : Nat → Prop} {W : World} {a : Option Addr} {n p : Nat} {hs : List Hd} (h : HAt P W (.slice a n p) hs) : 0 < n → ∃ ad, a = some ad ∧ ∀ j u, (hs.map Hd.cs).flatten[j]? = some u → W.cell? (ad.add j) = some u := by
 obtain ⟨a', p', e, -, hc⟩ := h.open
 simp only [Value.slice.injEq] at e
 obtain ⟨rfl, rfl, rfl⟩ := e
 intro h0
 obtain ⟨b, o, rfl, -, -⟩ := hc 0 h0
 refine ⟨_, rfl, fun j u hj => ?_⟩
 have hjl := (List.getElem?_eq_some_iff.1 hj).1
 rw [hflat_len] at hjl
 have hu : r18 (hs.map Hd.cs).flatten j = u := by unfold r18; simp [List.getD, hj]
 obtain ⟨i, hi⟩ : ∃ i, j = i * 2 ∨ j = i * 2 + 1 := ⟨j / 2, by omega⟩
 have hil : i < hs.length := by omega
 obtain ⟨b', o', e3, -, c0, c1⟩ := hc i hil
 simp only [Option.some.injEq, Addr.mk.injEq, and_true] at e3
 obtain ⟨rfl, rfl⟩ := e3
 obtain ⟨r0, r1⟩ := hflat_at hs i hil
 rcases hi with rfl | rfl
 · rw [Addr.add_lit, ← hu, r0]; exact c0
 · rw [Addr.add_lit, ← hu, r1, ← Nat.add_assoc]; exact c1
theorem row_of_heap {W : World} {b : Nat} {T : TypeId} {vs : List Value} (h : W.heap[b]? = some (.cells vs.toArray T (0, 0))) : W.rowIs b T vs.length (r18 vs) :=
 ⟨_, h, by simp, fun i hi => by unfold r18; simp [List.getD, hi]⟩
theorem Exc.grown {g : Nat} {W W' : World} (h : W.grownBy W' (some g)) : Exc [g] W W' := ⟨h.os, h.tape, h.output, h.size, fun k hk hn => h.block k hk (fun e => hn (by simp at e; simp [e]))⟩
theorem own_heap {W : World} {b n cap g : Nat} {e : TypeId} {xs : List Value} (h : W.ownsRow b e 1 (.slice (some ⟨g, 0, none⟩) n cap) n xs) : ∃ cur, W.heap[g]? = some (.cells cur e (0, 0)) ∧ n ≤ cap ∧ cap ≤ maxLen ∧ cur.size = cap := by
 rcases h.2 with ⟨hv, -⟩ | ⟨g', cap', cur, hv, -, hh, h1, h2, h3, -⟩
 · cases hv
 · simp only [Value.slice.injEq, Option.some.injEq, Addr.mk.injEq, and_true, true_and] at hv
   obtain ⟨rfl, rfl⟩ := hv
   exact ⟨cur, hh, h1, h2, by simpa using h3⟩
theorem own_copied {W : World} {n cap g : Nat} {e : TypeId} {cur : Array Value} {cs : List Value} (hh : W.heap[g]? = some (.cells cur e (0, 0))) (h1 : n ≤ cap) (h2 : cap ≤ maxLen) (h3 : cur.size = cap) (hl : cs.length = n) : (W.setRow g (cur.toList.take 0 ++ (cs ++ cur.toList.drop (0 + cs.length))).toArray).ownsRow 0 e 1 (.slice (some ⟨g, 0, none⟩) n cap) n cs ∧ Exc [g] W (W.setRow g (cur.toList.take 0 ++ (cs ++ cur.toList.drop (0 + cs.length))).toArray) := by
 refine ⟨⟨by simpa using hl, Or.inr ⟨g, cap, _, rfl, Nat.zero_le _, setRow_heap W g cur _ e _ hh, h1, h2, ?_, ?_⟩⟩, ⟨rfl, rfl, rfl, by simp [World.setRow], fun k hk hn => setRow_other W g k _ (fun e => hn (by simp [e]))⟩⟩
 · simp
   omega
 · simp [← hl]
end Go.Proofs.YtibgjcejddpldaaGreat
