/- The walk of the program's planIn: what the lines of a text say. Conditions: the text is bounded; strings' bound is some number, strconv's two errors are some errors. -/
import Derived.Test.YtcnkkegpckibbaaDoorPart05
import Derived.Test.YtcnkkegpckibbaaDoorPart08
import Derived.Test.YtcnkkegpckibbaaDoorPart10
import Derived.Sort.CutIn
namespace Go.Proofs.YtcnkkegpckibbaaDoor
open Go Go.RowKit Go.Shelf

attribute [local go_sem] Oper.semAt_some

theorem foldP_snoc : ∀ (A : List (List UInt8)) (q : Pl) (L : List UInt8), foldP q (A ++ [L]) = (foldP q A).bind fun p => lineP p L
  | [], q, L => by
    simp only [List.nil_append, foldP]
    cases h : lineP q L with
    | none => simp [h]
    | some p => simp [h]
  | B :: A, q, L => by
    simp only [List.cons_append, foldP]
    cases lineP q B with
    | none => rfl
    | some p => exact foldP_snoc A p L
theorem foldP_none : ∀ (A r : List (List UInt8)) (q : Pl), foldP q A = none → foldP q (A ++ r) = none
  | [], _, _, h => by cases h
  | B :: A, r, q, h => by
    simp only [List.cons_append, foldP] at h ⊢
    cases e : lineP q B with
    | none => rfl
    | some p => rw [e] at h; exact foldP_none A r p h
theorem lineP_few {p p' : Pl} {L : List UInt8} (h : lineP p L = some p') (hp : p.parts.length ≤ 40) : p'.parts.length ≤ 40 := by
  unfold lineP at h
  split at h
  · next hc => cases h; simp only [List.length_append, List.length_cons, List.length_nil]; have := hc.2.2; omega
  · split at h
    · cases h; exact hp
    · split at h
      · cases h
      · cases h; exact hp
/-- What the lines of a text say is given back. -/
def PlEnd (w w' : World) (e : Ending) (o : Option Pl) : Prop :=
  Below w.heap.size w w' ∧ ((∃ l v, o = some l ∧ l.parts.length ≤ 40 ∧ e = .returned (.tuple #[.agg #[v, .int .i64 l.op, .int .i64 l.fi], .bool true]) ∧ ∃ F, FlatOwn w' v 4 (l.parts.map Pt.cs) F ∧ ∀ b, b ∈ F → w.heap.size ≤ b ∧ b < w'.heap.size) ∨ (o = none ∧ e = .returned (.tuple #[.agg #[.slice none 0 0, .int .i64 0, .int .i64 0], .bool false])))
theorem PrI.anew {w V W : World} {v : Value} {ps : List Pt} {x y : Int} (h : PrI w V W v ps x y) : PrI w W W v ps x y := ⟨h.bel, KeepsOthers.refl W, h.b2, h.b3, h.b4, h.own⟩
theorem rowIs_cells {W : World} {g t n : Nat} {f : Nat → Value} (h : W.rowIs g t n f) {o : Obj} (ho : W.heap[g]? = some o) : o.isCells = true := by
  obtain ⟨c, hb, _⟩ := h
  rw [hb] at ho; cases ho; rfl
theorem PrI.grown {w V W W' : World} {v : Value} {ps : List Pt} {x y : Int} {row : Option Nat} (h : PrI w V W v ps x y) (hg : W.grownBy W' row) (hr : ∀ r, row = some r → w.heap.size ≤ r ∧ ∃ o : Obj, W.heap[r]? = some o ∧ o.isCells = false) : PrI w W' W' v ps x y := by
  have hk : ∀ b, b < W.heap.size → (∀ o, W.heap[b]? = some o → o.isCells = true) → W'.heap[b]? = W.heap[b]? := fun b hb hc => hg.block b hb (fun e => by
    obtain ⟨-, o, ho, hn⟩ := hr b e.symm
    rw [hc o ho] at hn; cases hn)
  refine ⟨⟨hg.os.trans h.bel.os, hg.tape.trans h.bel.tape, hg.output.trans h.bel.output, Nat.le_trans h.bel.size hg.size, fun b hb => ?_⟩, KeepsOthers.refl _, h.b2.of_block (hk _ h.b2.lt fun o ho => rowIs_cells h.b2 ho), ?_, h.b4.of_block (hk _ h.b4.lt fun o ho => rowIs_cells h.b4 ho), ownsR_keep h.own (fun g e => hk g (h.own.lt g e).2 fun o ho => own_cells h.own e ho)⟩
  · rw [hg.block b (Nat.lt_of_lt_of_le hb h.bel.size) (fun e => by have := (hr b e.symm).1; omega)]
    exact h.bel.block b hb
  · exact (hk _ h.b3.lt fun o ho => by have h3 : W.heap[w.heap.size + 1]? = some _ := h.b3; rw [h3] at ho; cases ho; rfl).trans h.b3
/-- What stands while the lines are read. -/
def PlI (w : World) (pre : List TX) (W : World) : Prop := ∃ p v, foldP ⟨[], 0, 0⟩ (pre.map tKey) = some p ∧ p.parts.length ≤ 40 ∧ PrI w W W v p.parts p.op p.fi
theorem PlI.own (w : World) {B : Nat} (hB : w.heap.size ≤ B) : OwnFrom B (PlI w) := fun _ _ _ _ ⟨p, v, h1, h2, h3⟩ hg hr => ⟨p, v, h1, h2, h3.grown hg fun r e => ⟨Nat.le_trans hB (hr r e).1, (hr r e).2⟩⟩
/-- What stands where a line says nothing. -/
def PlX (w : World) (c : Code) (pre : List TX) (W : World) : Prop := c = .ret ∧ foldP ⟨[], 0, 0⟩ (pre.map tKey) = none ∧ Below w.heap.size w W ∧ W.rowIs w.heap.size 25 3 (row3 (.slice none 0 0) (.int .i64 0) (.int .i64 0)) ∧ Boxed W (w.heap.size + 1) 4 (.bool false)
theorem PlX.own (w : World) {B : Nat} (hB : w.heap.size ≤ B) (c : Code) : OwnFrom B (PlX w c) := fun s W W' row ⟨h0, h1, h2, h3, h4⟩ hg hr => by
  have hk : ∀ b, b < W.heap.size → (∀ o, W.heap[b]? = some o → o.isCells = true) → W'.heap[b]? = W.heap[b]? := fun b hb hc => hg.block b hb (fun e => by
    obtain ⟨-, o, ho, hn⟩ := hr b e.symm
    rw [hc o ho] at hn; cases hn)
  refine ⟨h0, h1, ⟨hg.os.trans h2.os, hg.tape.trans h2.tape, hg.output.trans h2.output, Nat.le_trans h2.size hg.size, fun b hb => ?_⟩, h3.of_block (hk _ h3.lt fun o ho => rowIs_cells h3 ho), ?_⟩
  · rw [hg.block b (Nat.lt_of_lt_of_le hb h2.size) (fun e => by have := (hr b e.symm).1; omega)]
    exact h2.block b hb
  · exact (hk _ h4.lt fun o ho => by have h3 : W.heap[w.heap.size + 1]? = some _ := h4; rw [h3] at ho; cases ho; rfl).trans h4
theorem wpIn_only {F : Fence} {n : Nat} {P : Program} {c : Code} {Q : Exit → Act → World → Prop} {a : Act} {w : World} (h : c.wpIn F n P (fun e a w => e = .normal ∧ Q .normal a w) a w) : c.wpIn F n P Q a w := wpIn_mono h fun _ _ _ ⟨he, hq⟩ => he ▸ hq
theorem wpIn_swap {F : Fence} {n : Nat} {P : Program} {c c' : Code} {Q : Exit → Act → World → Prop} {a : Act} {w : World} (h : c = c') (hw : c'.wpIn F n P Q a w) : c.wpIn F n P Q a w := h ▸ hw
theorem PrI.form {w V W : World} {v : Value} {ps : List Pt} {x y : Int} (h : PrI w V W v ps x y) : ∃ (a : Option Addr) (cap : Nat), v = .slice a ps.length cap := by
  rcases h.own.2 with ⟨hv, h0⟩ | ⟨g, c, u, hv, _⟩
  · exact ⟨none, 0, by rw [hv, h0]⟩
  · exact ⟨_, _, hv⟩
theorem PrI.round {w W W6 : World} {v v' : Value} {ps ps' : List Pt} {x y x' y' : Int} {pre : List TX} (h : PrI w W W v ps x y) (h6 : PrI w W W6 v' ps' x' y') (hf : foldP ⟨[], 0, 0⟩ (pre.map tKey) = some ⟨ps', x', y'⟩) (hl : ps'.length ≤ 40) : KeepsOthers W W6 ∧ KpL w.heap.size w.heap.size W W6 ∧ PlI w pre W6 :=
  ⟨h6.ko, ⟨h6.ko.size, fun k hk _ => (h6.bel.block k hk).trans (h.bel.block k hk).symm⟩, ⟨ps', x', y'⟩, v', hf, hl, h6.anew⟩
/-- A plan and a truth are stored into the boxes of the results. -/
theorem sto4 {w W : World} {x0 x1 x2 u : Value} (hB : Below w.heap.size w W) (h2 : W.rowIs w.heap.size 25 3 (row3 x0 x1 x2)) (h3 : Boxed W (w.heap.size + 1) 4 u) (v0 v1 v2 b : Value) {W' : World} (e : W' = (((W.setCell ⟨w.heap.size, 0, none⟩ v0).setCell ⟨w.heap.size, 1, none⟩ v1).setCell ⟨w.heap.size, 2, none⟩ v2).setCell ⟨w.heap.size + 1, 0, none⟩ b) : KeepsOthers W W' ∧ Below w.heap.size w W' ∧ W'.rowIs w.heap.size 25 3 (row3 v0 v1 v2) ∧ Boxed W' (w.heap.size + 1) 4 b ∧ (∀ k, k ≠ w.heap.size → k ≠ w.heap.size + 1 → W'.heap[k]? = W.heap[k]?) ∧ W'.heap.size = W.heap.size := by
  subst e
  refine ⟨(((KeepsOthers.setCell _ _ _).trans (KeepsOthers.setCell _ _ _)).trans (KeepsOthers.setCell _ _ _)).trans (KeepsOthers.setCell _ _ _), (((hB.setCell (by simp) _).setCell (by simp) _).setCell (by simp) _).setCell (by simp) _, ?_, ?_, fun k h1 h2 => ?_, by simp only [World.size_setCell]⟩
  · exact (row3_pi2 (row3_pi1 (row3_set0 h2 v0) v1) v2).of_block (Below.heap_setCell _ _ _ _ (by simp))
  · have h3' : Boxed (((W.setCell ⟨w.heap.size, 0, none⟩ v0).setCell ⟨w.heap.size, 1, none⟩ v1).setCell ⟨w.heap.size, 2, none⟩ v2) (w.heap.size + 1) 4 u := by
      unfold Boxed
      rw [Below.heap_setCell _ _ _ _ (by simp), Below.heap_setCell _ _ _ _ (by simp), Below.heap_setCell _ _ _ _ (by simp)]
      exact h3
    exact h3'.set b
  · rw [Below.heap_setCell _ _ _ _ (by simp; omega), Below.heap_setCell _ _ _ _ (by simp; omega), Below.heap_setCell _ _ _ _ (by simp; omega), Below.heap_setCell _ _ _ _ (by simp; omega)]
/-- The results are read out of their boxes. -/
theorem res4 {w W : World} {v0 v1 v2 b : Value} {E : Nat} (hE : w.heap.size + 2 ≤ E) (h2 : W.rowIs w.heap.size 25 3 (row3 v0 v1 v2)) (h3 : Boxed W (w.heap.size + 1) 4 b) : (W.putObj E (.deferred none)).cell? ⟨w.heap.size, 0, none⟩ = some v0 ∧ (W.putObj E (.deferred none)).cell? ⟨w.heap.size, 1, none⟩ = some v1 ∧ (W.putObj E (.deferred none)).cell? ⟨w.heap.size, 2, none⟩ = some v2 ∧ (W.putObj E (.deferred none)).cell? ⟨w.heap.size + 1, 0, none⟩ = some b := by
  have hr : (W.putObj E (.deferred none)).rowIs w.heap.size 25 3 (row3 v0 v1 v2) := h2.of_block (World.putObj_heap_other (by omega))
  have hb : Boxed (W.putObj E (.deferred none)) (w.heap.size + 1) 4 b := (World.putObj_heap_other (by omega)).trans h3
  exact ⟨hr.cell (i := 0) (by omega), hr.cell (i := 1) (by omega), hr.cell (i := 2) (by omega), hb.cell⟩
theorem words_in (L : ByteArray) (W : World) (hL : L.size ≤ 1048576) (hE : EnvP W) : ∃ D : ByteArray, D.toList = (Lib.cut L.data.toList [32]).1 ∧ Calls Tryd.prog 32 #[.string L] W fun e w' => ∃ (g : Option Addr) (c : Nat), e = .returned (.tuple #[.string D, .slice g (wdS L.data.toList).length c]) ∧ Hid (w'.ownsRow W.heap.size 3 1 (.slice g (wdS L.data.toList).length c) (wdS L.data.toList).length ((wdS L.data.toList).map fun z => .int .i64 z)) ∧ Hid (Below W.heap.size W w') := by
  refine ⟨⟨(Lib.cut L.data.toList [32]).1.toArray⟩, by rw [lstR_data], (planWords_any L W hL hE).mono ?_⟩
  rintro e w' ⟨v, rfl, ho, hb⟩
  have : ∃ (g : Option Addr) (c : Nat), v = .slice g (wdS L.data.toList).length c := by
    rcases ho.2 with ⟨hv, h0⟩ | ⟨g, c, u, hv, _⟩
    · exact ⟨none, 0, by rw [hv, h0]⟩
    · exact ⟨_, _, hv⟩
  obtain ⟨g, c, rfl⟩ := this
  exact ⟨g, c, rfl, ho, hb⟩
set_option maxRecDepth 100000 in
set_option maxHeartbeats 3200000 in
theorem planIn_any (s : ByteArray) (w : World) (hs : s.size ≤ 1048576) (hE : EnvP w) (hG : gTopP ≤ w.heap.size) :
    Calls Tryd.prog 22 #[.string s] w fun e w' => PlEnd w w' e (foldP ⟨[], 0, 0⟩ (lnsT s.data.toList)) := by
  have hpr : ∀ W, W = (((w.alloc (.cells #[.slice none 0 0, .int .i64 0, .int .i64 0] 25)).alloc (.cells #[.bool false] 4)).alloc (.cells #[.slice none 0 0, .int .i64 0, .int .i64 0] 25)).alloc (.cells #[.string s] 9) → PlI w [] W ∧ W.cell? ⟨w.heap.size + 3, 0, none⟩ = some (.string s) ∧ W.heap.size = w.heap.size + 4 := fun W hW => by
    subst hW
    refine ⟨⟨⟨[], 0, 0⟩, .slice none 0 0, rfl, by decide, ⟨(((Below.refl _ _).alloc (Nat.le_refl _) _).alloc (by simp) _ |>.alloc (by simp; omega) _).alloc (by simp; omega) _, KeepsOthers.refl _, (((row3_alloc w _ _ _ _).alloc _).alloc _).alloc _, ?_, ?_, ⟨rfl, Or.inl ⟨rfl, rfl⟩⟩⟩⟩, ?_, by simp⟩
    · have := ((Boxed.new (w.alloc (.cells #[.slice none 0 0, .int .i64 0, .int .i64 0] 25)) 4 (.bool false)).alloc (.cells #[.slice none 0 0, .int .i64 0, .int .i64 0] 25)).alloc (.cells #[.string s] 9)
      rw [World.size_alloc] at this; exact this
    · have := (row3_alloc ((w.alloc (.cells #[.slice none 0 0, .int .i64 0, .int .i64 0] 25)).alloc (.cells #[.bool false] 4)) (.slice none 0 0) (.int .i64 0) (.int .i64 0) 25).alloc (.cells #[.string s] 9)
      rw [World.size_alloc, World.size_alloc] at this; exact this
    · have := (Boxed.new (((w.alloc (.cells #[.slice none 0 0, .int .i64 0, .int .i64 0] 25)).alloc (.cells #[.bool false] 4)).alloc (.cells #[.slice none 0 0, .int .i64 0, .int .i64 0] 25)) 9 (.string s)).cell
      rw [World.size_alloc, World.size_alloc, World.size_alloc] at this; exact this
  have HPR := hide hpr; have HE := hide hE; have HG := hide hG
  clear hpr hE hG
  refine (callsIn_wide (n := 8)).1 ?_
  refine callsIn_of_wp_marks Tryd.func22 rfl trivial ?_ rfl
  simp only [Tryd.ntmps22, List.size_toArray, List.length_cons, List.length_nil, Nat.reduceAdd, Nat.reduceSub, Array.replicate_succ, Array.replicate_zero, List.push_toArray, List.append_toArray, List.nil_append, List.cons_append]
  gi_wp2_with (first
    | ((try refine ⟨trivial, ?_⟩); gi_at_call 31; refine (textLines_in _ _ _).mono ?_; rintro e w' ⟨rfl, rfl⟩))
  generalize hW0 : ((((w.alloc (.cells #[.slice none 0 0, .int .i64 0, .int .i64 0] 25)).alloc (.cells #[.bool false] 4)).alloc (.cells #[.slice none 0 0, .int .i64 0, .int .i64 0] 25)).alloc (.cells #[.string s] 9)) = W0
  obtain ⟨h0, hbox, hs0⟩ := unhide HPR W0 hW0.symm
  have hb0 : Below w.heap.size w W0 := by obtain ⟨p, v, -, -, h⟩ := h0; exact h.bel
  have HBX := hide hbox; have HB0 := hide hb0; have HS0 := hide hs0
  have hEV : ∀ W, Below w.heap.size w W → EnvP W := fun W h => (unhide HE).below h
  have HEV := hide hEV
  clear HPR hW0 hbox hb0 hEV HE
  refine wpIn_rangeFunc_ownF (α := TX) (encs := tEnc) (Kp := KpL w.heap.size w.heap.size) (S := fun ys => ys.map tKey = lnsT s.data.toList) (Sp := fun pre => ∃ r, pre.map tKey ++ r = lnsT s.data.toList) (N := s.size + 1) (w0 := W0) rfl (by omega)
      (gf := 38) (lb := #[.pointer (some ⟨w.heap.size + 1 + 1 + 1, 0, none⟩)]) rfl trivial (enters_of Tryd.func38 (by kernel_rfl) rfl)
      (fun L J Jx W hW hJ _ hY h0 => textLines1_in _ L s hs w.heap.size (w.heap.size + 1 + 1 + 1) W0 (unhide HEV _ (unhide HB0)) (unhide HG) (unhide HB0).size J Jx (fun s A B hs hg => hJ s A B none hs hg (fun r e => by cases e)) hY W (KpL.of_below hW (unhide HB0).size) (by rw [World.cell?_of_block (w := W0) (hW.block _ (by rw [unhide HS0]; simp))]; exact unhide HBX) h0)
      KpL.trans (KpL.putObj (by omega)) (Below.refl _ _) (fun _ => rfl)
      (PlI w) (PlX w) (PlI.own w (by omega)) (PlX.own w (by omega)) h0
      (fun x => { tmps := (.string s :: undef :: .pointer (some ⟨w.heap.size, 0, none⟩) :: .pointer (some ⟨w.heap.size + 1, 0, none⟩) :: .pointer (some ⟨w.heap.size + 1 + 1, 0, none⟩) :: undef :: .string x.2.1 :: undef :: undef :: .string s :: .func (.func 38) #[] #[.pointer (some ⟨w.heap.size + 1 + 1 + 1, 0, none⟩)] :: .int .i64 x.1 :: .string x.2.1 :: undef :: undef :: undef :: undef :: undef :: undef :: undef :: undef :: undef :: undef :: undef :: undef :: undef :: undef :: undef :: undef :: undef :: undef :: undef :: undef :: undef :: undef :: undef :: undef :: undef :: undef :: undef :: undef :: undef :: undef :: undef :: undef :: undef :: undef :: undef :: undef :: undef :: undef :: undef :: undef :: undef :: undef :: undef :: undef :: undef :: undef :: undef :: undef :: undef :: undef :: undef :: undef :: undef :: undef :: undef :: undef :: undef :: undef :: undef :: undef :: undef :: undef :: []).toArray, defers := [] }) ?assign ?body ?done ?stop
  case assign =>
    intro l' x W K hK
    simp only [tEnc]
    gi_wp2
    exact hK
  case body =>
    clear h0 hs0
    rintro l' pre ⟨ni, ⟨L, hL⟩⟩ W ⟨p, v, hf, h40, hI⟩ -
    obtain ⟨a, cap, rfl⟩ := hI.form
    obtain ⟨D, hD, HC⟩ := words_in L W hL (unhide HEV _ hI.bel)
    have HI := hide hI
    have hq1 : (p.parts.length : Int) ≤ 40 := by omega
    have HSN := hide (show foldP ⟨[], 0, 0⟩ ((pre ++ [((ni, ⟨L, hL⟩) : TX)]).map tKey) = lineP p L.data.toList by
      rw [List.map_append, List.map_cons, List.map_nil, foldP_snoc, hf]; rfl)
    have HCC := hide HC; have HD := hide hD
    have HLN : Hid (∀ p', lineP p L.data.toList = some p' → p'.parts.length ≤ 40) := fun p' h => lineP_few h h40
    clear hI hf HC hD h40 HEV HG HBX HB0 HS0
    by_cases hA : (Lib.cut L.data.toList [32]).1 = [115, 101, 97, 108] ∧ (wdS L.data.toList).length = 4 ∧ p.parts.length < 40
    · have hd1 : (D.toList == [115, 101, 97, 108]) = true := by rw [unhide HD, hA.1]; rfl
      have hq2 : decide ((p.parts.length : Int) < 40) = true := decide_eq_true (by have := hA.2.2; omega)
      obtain ⟨z0, z1, z2, z3, hz⟩ := list4 hA.2.1
      have HLP := hide (show lineP p L.data.toList = some ⟨p.parts ++ [⟨z0, z1, z2, z3⟩], p.op, p.fi⟩ by unfold lineP; rw [if_pos hA, hz]; rfl)
      have HC := unhide HCC
      rw [hz] at HC
      simp only [List.length_cons, List.length_nil, Nat.reduceAdd, List.map_cons, List.map_nil] at HC
      have HCD := hide HC
      clear HC HCC hA hz HD
      gi_upto_region 6 with (first
        | ((try refine ⟨trivial, ?_⟩); gi_at_call 32; refine (CallsIn.inRound l' (callsIn_wide.2 (unhide HCD))).mono ?_; clear HCD; rintro e w1 ⟨g, c, rfl, HO, HB⟩; have k0 := (HI.out.on HB.out).b4.cell (i := 0) (by omega); simp only [row3] at k0))
      clear k0
      obtain ⟨gx, cx, hv, -, -⟩ := HO.out.form (by omega)
      simp only [Value.slice.injEq, true_and] at hv
      obtain ⟨rfl, rfl⟩ := hv
      refine wpIn_swap (c' := Code.region 6 pi6Ops true) (by kernel_rfl) ?_
      refine wpIn_only ?_
      refine pi6 l' _ w W (.slice a p.parts.length cap) p.parts p.op p.fi gx c z0 z1 z2 z3 (by omega) w1 _ (fun _ _ _ _ _ h => absurd h.1 (by simp)) (fun h => by obtain ⟨_, _, h, _⟩ := h; cases h) (onI ⟨HI.out.on HB.out, World.ownsRow.mono HO.out (by have := HI.out.bel.size; have := HI.out.b4.lt; omega)⟩ ⟨rfl, rfl, rfl, Nat.le_refl _, fun _ _ => rfl⟩) (by kernel_rfl) ?_
      intro v6 v' W6 h6
      refine ⟨rfl, ?_⟩
      exact HI.out.round h6 ((unhide HSN).trans (unhide HLP)) (unhide HLN _ (unhide HLP))
    · by_cases hB : (Lib.cut L.data.toList [32]).1 = [111, 112, 101, 110] ∧ (wdS L.data.toList).length = 2
      · have hd1 : (D.toList == [115, 101, 97, 108]) = false := by rw [unhide HD, hB.1]; rfl
        have hd2 : (D.toList == [111, 112, 101, 110]) = true := by rw [unhide HD, hB.1]; rfl
        obtain ⟨z0, z1, hz⟩ := list2 hB.2
        have HLP := hide (show lineP p L.data.toList = some ⟨p.parts, z0, z1⟩ by unfold lineP; rw [if_neg hA, if_pos hB, hz]; rfl)
        have HC := unhide HCC
        rw [hz] at HC
        simp only [List.length_cons, List.length_nil, Nat.reduceAdd, List.map_cons, List.map_nil] at HC
        have HCD := hide HC
        clear HC HCC hA hB hz HD
        gi_upto_region 8 with (first
          | ((try refine ⟨trivial, ?_⟩); gi_at_call 32; refine (CallsIn.inRound l' (callsIn_wide.2 (unhide HCD))).mono ?_; clear HCD; rintro e w1 ⟨g, c, rfl, HO, HB⟩; have k0 := (HI.out.on HB.out).b4.cell (i := 0) (by omega); simp only [row3] at k0))
        clear k0
        obtain ⟨gx, cx, hv, -, -⟩ := HO.out.form (by omega)
        simp only [Value.slice.injEq, true_and] at hv
        obtain ⟨rfl, rfl⟩ := hv
        refine wpIn_swap (c' := Code.region 8 pi8Ops true) (by kernel_rfl) ?_
        refine wpIn_only ?_
        refine pi8 l' _ w W (.slice a p.parts.length cap) p.parts p.op p.fi gx c z0 z1 w1 _ (fun _ _ _ _ _ h => absurd h.1 (by simp)) (fun h => by obtain ⟨_, _, h, _⟩ := h; cases h) ⟨(HI.out.on HB.out).on ⟨rfl, rfl, rfl, Nat.le_refl _, fun _ _ => rfl⟩, ownsR_keep (World.ownsRow.mono HO.out (by have := HI.out.bel.size; have := HI.out.b4.lt; omega)) fun _ _ => rfl⟩ (by kernel_rfl) ?_
        intro v6 W6 h6
        refine ⟨rfl, ?_⟩
        exact HI.out.round h6 ((unhide HSN).trans (unhide HLP)) (unhide HLN ⟨p.parts, z0, z1⟩ (unhide HLP))
      · have HT : ((D.toList == [115, 101, 97, 108]) = false ∧ (D.toList == [111, 112, 101, 110]) = false) ∨ ((D.toList == [115, 101, 97, 108]) = false ∧ (D.toList == [111, 112, 101, 110]) = true ∧ (wdS L.data.toList).length ≠ 2) ∨ ((D.toList == [115, 101, 97, 108]) = true ∧ (D.toList == [111, 112, 101, 110]) = false ∧ (wdS L.data.toList).length ≠ 4) ∨ ((D.toList == [115, 101, 97, 108]) = true ∧ (D.toList == [111, 112, 101, 110]) = false ∧ ¬ p.parts.length < 40) := by
          rw [unhide HD]
          by_cases h1 : (Lib.cut L.data.toList [32]).1 = [115, 101, 97, 108]
          · rw [h1]
            by_cases h4 : (wdS L.data.toList).length = 4
            · exact Or.inr (Or.inr (Or.inr ⟨rfl, rfl, fun h => hA ⟨h1, h4, h⟩⟩))
            · exact Or.inr (Or.inr (Or.inl ⟨rfl, rfl, h4⟩))
          · have h1' : ((Lib.cut L.data.toList [32]).1 == [115, 101, 97, 108]) = false := by simpa using h1
            by_cases h2 : (Lib.cut L.data.toList [32]).1 = [111, 112, 101, 110]
            · exact Or.inr (Or.inl ⟨h1', by rw [h2]; rfl, fun h => hB ⟨h2, h⟩⟩)
            · exact Or.inl ⟨h1', by simpa using h2⟩
        have HLP : Hid (lineP p L.data.toList = if L.data.toList ≠ [101, 110, 100] ∧ L.data.toList ≠ [] then none else some p) := hide (by
          unfold lineP; rw [if_neg hA, if_neg hB])
        clear hA hB HD
        generalize hn : (wdS L.data.toList).length = n at HCC HT
        have HL3 : ((L.toList == [101, 110, 100]) = true ∧ Hid (lineP p L.data.toList = some p)) ∨ ((L.toList == [101, 110, 100]) = false ∧ (L.toList == []) = true ∧ Hid (lineP p L.data.toList = some p)) ∨ ((L.toList == [101, 110, 100]) = false ∧ (L.toList == []) = false ∧ Hid (lineP p L.data.toList = none)) := by
          rw [unhide HLP, lstR_data]
          by_cases h1 : L.data.toList = [101, 110, 100]
          · rw [if_neg (fun h => h.1 h1), h1]; exact Or.inl ⟨rfl, rfl⟩
          · by_cases h2 : L.data.toList = []
            · rw [if_neg (fun h => h.2 h2), h2]; exact Or.inr (Or.inl ⟨rfl, rfl, rfl⟩)
            · rw [if_pos ⟨h1, h2⟩]; exact Or.inr (Or.inr ⟨by simpa using h1, by simpa using h2, rfl⟩)
        clear hn HLP
        have HN2 : (n ≠ 2 → ((n : Int) == 2) = false) ∧ (n ≠ 4 → ((n : Int) == 4) = false) := ⟨fun h => by rw [beq_eq_false_iff_ne]; omega, fun h => by rw [beq_eq_false_iff_ne]; omega⟩
        have HT2 : ((D.toList == [115, 101, 97, 108]) = false ∧ (D.toList == [111, 112, 101, 110]) = false) ∨ ((D.toList == [115, 101, 97, 108]) = false ∧ (D.toList == [111, 112, 101, 110]) = true ∧ ((n : Int) == 2) = false) ∨ ((D.toList == [115, 101, 97, 108]) = true ∧ (D.toList == [111, 112, 101, 110]) = false ∧ ((n : Int) == 4) = false) ∨ ((D.toList == [115, 101, 97, 108]) = true ∧ (D.toList == [111, 112, 101, 110]) = false ∧ ((n : Int) == 4) = true ∧ decide ((p.parts.length : Int) < 40) = false) := by
          rcases HT with h | ⟨h1, h2, h3⟩ | ⟨h1, h2, h3⟩ | ⟨h1, h2, h3⟩
          · exact Or.inl h
          · exact Or.inr (Or.inl ⟨h1, h2, HN2.1 h3⟩)
          · exact Or.inr (Or.inr (Or.inl ⟨h1, h2, HN2.2 h3⟩))
          · by_cases h4 : n = 4
            · exact Or.inr (Or.inr (Or.inr ⟨h1, h2, by rw [h4]; rfl, decide_eq_false (by omega)⟩))
            · exact Or.inr (Or.inr (Or.inl ⟨h1, h2, HN2.2 h4⟩))
        clear HT HN2
        rcases HL3 with ⟨l1, HLP⟩ | ⟨l1, l2, HLP⟩ | ⟨l1, l2, HLP⟩
        · rcases HT2 with ⟨d1, d2⟩ | ⟨d1, d2, n2⟩ | ⟨d1, d2, n4⟩ | ⟨d1, d2, n4, q4⟩ <;> (gi_wp2_with (first
              | ((try refine ⟨trivial, ?_⟩); gi_at_call 32; refine (CallsIn.inRound l' (callsIn_wide.2 (unhide HCC))).mono ?_; clear HCC; rintro e w1 ⟨g, c, rfl, -, HB⟩; have k0 := (HI.out.on HB.out).b4.cell (i := 0) (by omega); simp only [row3] at k0)))
          all_goals exact HI.out.round (HI.out.on HB.out) ((unhide HSN).trans (unhide HLP)) (unhide HLN _ (unhide HLP))
        · rcases HT2 with ⟨d1, d2⟩ | ⟨d1, d2, n2⟩ | ⟨d1, d2, n4⟩ | ⟨d1, d2, n4, q4⟩ <;> (gi_wp2_with (first
              | ((try refine ⟨trivial, ?_⟩); gi_at_call 32; refine (CallsIn.inRound l' (callsIn_wide.2 (unhide HCC))).mono ?_; clear HCC; rintro e w1 ⟨g, c, rfl, -, HB⟩; have k0 := (HI.out.on HB.out).b4.cell (i := 0) (by omega); simp only [row3] at k0)))
          all_goals exact HI.out.round (HI.out.on HB.out) ((unhide HSN).trans (unhide HLP)) (unhide HLN _ (unhide HLP))
        · rcases HT2 with ⟨d1, d2⟩ | ⟨d1, d2, n2⟩ | ⟨d1, d2, n4⟩ | ⟨d1, d2, n4, q4⟩ <;> (gi_wp2_with (first
              | ((try refine ⟨trivial, ?_⟩); gi_at_call 32; refine (CallsIn.inRound l' (callsIn_wide.2 (unhide HCC))).mono ?_; clear HCC; rintro e w1 ⟨g, c, rfl, -, HB⟩; have k0 := (HI.out.on HB.out).b4.cell (i := 0) (by omega); simp only [row3] at k0; have b2 := (HI.out.on HB.out).b2; have b3 := (HI.out.on HB.out).b3; have c0 := b2.cell (i := 0) (by omega); have c1 := b2.cell (i := 1) (by omega); have c2 := b2.cell (i := 2) (by omega); have f0 := b2.frozen 0; have f1 := b2.frozen 1; have f2 := b2.frozen 2; have c3 := b3.cell; have f3 := b3.frozen; simp only [row3] at c0 c1 c2; have B2 := hide b2; have B3 := hide b3; clear b2 b3)))
          all_goals (
            have hst := sto4 (HI.out.on HB.out).bel (unhide B2) (unhide B3) (.slice none 0 0) (.int .i64 0) (.int .i64 0) (.bool false) rfl
            exact ⟨(ko_below HB.out).trans hst.1, rfl, (unhide HSN).trans (unhide HLP), hst.2.1, hst.2.2.1, hst.2.2.2.1⟩)
  case done =>
    rintro E ys W hD hS ⟨p, v, hf, h40, hI⟩ hK
    obtain ⟨a, cap, rfl⟩ := hI.form
    have k0 := hI.b4.cell (i := 0) (by omega); have k1 := hI.b4.cell (i := 1) (by omega); have k2 := hI.b4.cell (i := 2) (by omega)
    have c0 := hI.b2.cell (i := 0) (by omega); have c1 := hI.b2.cell (i := 1) (by omega); have c2 := hI.b2.cell (i := 2) (by omega); have f0 := hI.b2.frozen 0; have f1 := hI.b2.frozen 1; have f2 := hI.b2.frozen 2
    have c3 := hI.b3.cell; have f3 := hI.b3.frozen
    simp only [row3] at k0 k1 k2 c0 c1 c2
    have HI := hide hI
    clear hI
    gi_wp2_with fail
    have hst := sto4 HI.out.bel HI.out.b2 HI.out.b3 (.slice a p.parts.length cap) (.int .i64 p.op) (.int .i64 p.fi) (.bool true) rfl
    generalize (((W.setCell ⟨w.heap.size, 0, none⟩ (.slice a p.parts.length cap)).setCell ⟨w.heap.size, 1, none⟩ (.int .i64 p.op)).setCell ⟨w.heap.size, 2, none⟩ (.int .i64 p.fi)).setCell ⟨w.heap.size + 1, 0, none⟩ (.bool true) = W' at hst ⊢
    obtain ⟨hko, hbl, hr2, hr3, hoth, hsz⟩ := hst
    have hK' := hko.same E _ hK rfl
    refine ⟨by simp, .inl ⟨_, _, rfl, run_takeDeferred hK', ?_⟩⟩
    obtain ⟨e0, e1, e2, e3⟩ := res4 (w := w) (E := E) (by omega) hr2 hr3
    refine ⟨.tuple #[.agg #[.slice a p.parts.length cap, .int .i64 p.op, .int .i64 p.fi], .bool true], ?_, ?_⟩
    · simp [results, Tryd.results22, go_sem, e0, e1, e2, e3]
    · refine ⟨hbl.trans (belowK_b (w := w) (Nat.le_refl _) _ E _ _ (by omega) hK' rfl rfl), Or.inl ⟨p, _, by rw [← hS]; exact hf, h40, rfl, ?_⟩⟩
      obtain ⟨F, g1, g2, g3, -⟩ := FlatOwn.of_row (rs := p.parts.map Pt.cs) (n := 4) (by rw [List.length_map]; exact HI.out.own) (fun r hr => by obtain ⟨f, -, rfl⟩ := List.mem_map.1 hr; rfl)
      refine ⟨F, FlatOwn.carry g1 (fun b hb => ?_), fun b hb => ?_⟩
      · have hbE : b ≠ E := fun e => by
          subst e
          have := own_cells HI.out.own (g2 b hb) hK
          cases this
        rw [World.putObj_heap_other hbE, hoth b (by have := (g3 b hb).1; omega) (by have := (g3 b hb).1; omega)]
      · have := g3 b hb
        simp only [World.putObj, Array.size_setIfInBounds]
        omega
  case stop =>
    rintro E c pre W hD ⟨r, hr⟩ ⟨rfl, hf, hB, h2, h3⟩ hK
    gi_wp2_with fail
    refine ⟨by simp, .inl ⟨_, _, rfl, run_takeDeferred hK, ?_⟩⟩
    obtain ⟨e0, e1, e2, e3⟩ := res4 (w := w) (E := E) (by omega) h2 h3
    refine ⟨.tuple #[.agg #[.slice none 0 0, .int .i64 0, .int .i64 0], .bool false], ?_, ?_⟩
    · simp [results, Tryd.results22, go_sem, e0, e1, e2, e3]
    · exact ⟨hB.trans (belowK_b (w := w) (Nat.le_refl _) _ E _ _ (by omega) hK rfl rfl), Or.inr ⟨by rw [← hr]; exact foldP_none _ _ _ hf, rfl⟩⟩
end Go.Proofs.YtcnkkegpckibbaaDoor

/- The walk of the program's LogPlanWrite, whole. The table of powers is as strconv's text lays it. -/

namespace Go.Proofs.YtcnkkegpckibbaaDoor
open Go Go.RowKit Go.Shelf

attribute [local go_sem] Oper.semAt_some

set_option maxRecDepth 100000 in
set_option maxHeartbeats 3200000 in
theorem implLogPlanWrite_any (l : Pl) (P : Nat → Prop) (v : Value) (w : World) (hP : ∀ b, P b → b < w.heap.size) (hv : PtsAt P w v l.parts) (htab : Lib.TabIs Tryd.prog w "internal/strconv.uint64pow10" .u64 Lib.pow10Tab) (hglob : 3 < w.heap.size) :
    Calls Tryd.prog 8 #[.agg #[v, .int .i64 l.op, .int .i64 l.fi]] w fun e w' => e = .returned (.string (plW l)) ∧ Below w.heap.size w w' := by
  have hbx : ∀ o, Below w.heap.size w (w.alloc o) := fun o => (Below.refl _ _).alloc (Nat.le_refl _) o
  have HOK := hide (fun o => implLogPlanOk_any l P v (w.alloc o) (fun b hb => Nat.lt_of_lt_of_le (hP b hb) (hbx o).size) (hv.carry (fun b hb => (hbx o).block b (hP b hb)) (fun _ h => h)))
  obtain ⟨a, cap, rfl, hlen, hc⟩ := hv.open
  have hrow := row3_alloc w (.slice a l.parts.length cap) (.int .i64 l.op) (.int .i64 l.fi) 25
  have HOK2 : Hid (∀ (n : Nat), CallsIn Fence.wide n Tryd.prog 9 #[.agg #[.slice a l.parts.length cap, .int .i64 l.op, .int .i64 l.fi]] (w.alloc (.cells #[.slice a l.parts.length cap, .int .i64 l.op, .int .i64 l.fi] 25)) fun e w1 => ((plOk l ∧ e = .returned (.bool true)) ∨ (¬ plOk l ∧ e = .returned (.bool false))) ∧ Hid (Below w.heap.size w w1) ∧ w1.rowIs w.heap.size 25 3 (row3 (.slice a l.parts.length cap) (.int .i64 l.op) (.int .i64 l.fi)) ∧ w.heap.size < w1.heap.size) := fun n => by
    refine callsIn_wide.2 ((unhide HOK _).mono ?_)
    rintro e w1 ⟨⟨r, h1, h2⟩, h3⟩
    have q1 := hrow.of_block (h3.block w.heap.size (by simp))
    refine ⟨?_, hide ((hbx _).trans (h3.mono (hbx _).size)), q1, q1.lt⟩
    rcases Bool.eq_false_or_eq_true r with hr | hr
    · subst hr; exact Or.inl ⟨h2.1 rfl, h1⟩
    · subst hr; exact Or.inr ⟨fun h => (by have := h2.2 h; cases this), h1⟩
  have HC := hide hc; have HP := hide hP; have HT := hide htab; have HGL := hide hglob
  clear hv hc hP hrow hbx HOK htab hglob
  refine (callsIn_wide (n := 8)).1 ?_
  refine callsIn_of_wp_marks Tryd.func8 rfl trivial ?_ rfl
  simp only [Tryd.ntmps8, List.size_toArray, List.length_cons, List.length_nil, Nat.reduceAdd, Nat.reduceSub, Array.replicate_succ, Array.replicate_zero, List.push_toArray, List.append_toArray, List.nil_append, List.cons_append]
  gi_wp2_with (first
    | ((try refine ⟨trivial, ?_⟩); gi_at_call 9; refine (unhide HOK2 _).mono ?_; clear HOK2; rintro e w1 ⟨⟨hok, rfl⟩ | ⟨hok, rfl⟩, HB1, q1, hlt1⟩
        <;> (have k0 := q1.cell (i := 0) (by omega); have k1 := q1.cell (i := 1) (by omega); have k2 := q1.cell (i := 2) (by omega); simp only [row3] at k0 k1 k2; have Q1 := hide q1; have HOKK := hide hok; clear q1 hok))
    | ((try refine ⟨trivial, ?_⟩); gi_at_call 19; refine (planLines_in _ _ _ _ _ ⟨_, _, _, rfl⟩ ⟨_, rfl⟩ ⟨_, rfl⟩).mono ?_; rintro e w' ⟨rfl, rfl⟩))
  · clear k0 k1 k2
    have hbB : Below w.heap.size w ((w1.alloc (.cells #[.slice none 0 0] 22)).alloc (.cells #[.slice a l.parts.length cap, .int .i64 l.op, .int .i64 l.fi] 25)) := ((unhide HB1).alloc (unhide HB1).size _).alloc (by have := (unhide HB1).size; simp; omega) _
    have bO := (Boxed.new w1 22 (.slice none 0 0)).alloc (.cells #[.slice a l.parts.length cap, .int .i64 l.op, .int .i64 l.fi] 25)
    have hrB := row3_alloc (w1.alloc (.cells #[.slice none 0 0] 22)) (.slice a l.parts.length cap) (.int .i64 l.op) (.int .i64 l.fi) 25
    rw [World.size_alloc] at hrB
    obtain ⟨W0, hW0⟩ : ∃ W0, ((w1.alloc (.cells #[.slice none 0 0] 22)).alloc (.cells #[.slice a l.parts.length cap, .int .i64 l.op, .int .i64 l.fi] 25)) = W0 := ⟨_, rfl⟩
    have hs0 : W0.heap.size = w1.heap.size + 2 := by rw [← hW0]; simp
    rw [hW0] at hbB bO hrB ⊢
    have hA : LnAt l a cap w.heap.size w1.heap.size (w1.heap.size + 1) W0 := ⟨unhide HOKK, fun i h => by
      obtain ⟨b, o, e, hb, hcell⟩ := unhide HC i h
      exact ⟨b, o, e, unhide HP b hb, hcell.carry (hbB.block b (unhide HP b hb))⟩, tab_keep (unhide HT) (hbB.block _ (unhide HGL)), unhide HGL, by omega, by omega, by omega, hrB⟩
    have HA := hide hA
    have h40 : l.parts.length ≤ 40 := (unhide HOKK).1
    clear hW0 hrB hA
    refine wpIn_rangeFunc_ownF (α := LX) (encs := lEnc) (Kp := KpL (w1.heap.size + 1 + 1) w1.heap.size) (S := fun ys => ys.map lKey = lines l) (Sp := fun _ => True) (N := l.parts.length + 2) (w0 := W0) rfl (by omega)
      (gf := 28) (lb := #[.pointer (some ⟨w1.heap.size + 1, 0, none⟩)]) rfl trivial (enters_of Tryd.func28 (by kernel_rfl) rfl)
      (fun L J Jx W hW hJ _ hY h0 => planLines1_in _ L l a cap w.heap.size w1.heap.size (w1.heap.size + 1) W0 (unhide HA) J Jx (fun s A B hs hg => hJ s A B none hs hg (fun r e => by cases e)) hY W (KpL.of_below hW (by omega)) h0)
      KpL.trans (KpL.putObj (by omega)) (Below.refl _ _) (fun _ => rfl)
      (fun pre W => ((∃ v, Boxed W w1.heap.size 22 v ∧ W.ownsRow (w1.heap.size + 1 + 1) 5 1 v (catL pre).length (bc (catL pre)) ∧ True) ∧ w1.heap.size + 1 + 1 ≤ W.heap.size) ∧ Below w.heap.size w W)
      (fun _ _ _ => False)
      (OwnFrom.and (OwnFrom.and (Own.from (holdsRow_own (w1.heap.size + 1 + 1) w1.heap.size 22 5 1 (fun pre => (catL pre).length) (fun pre => bc (catL pre)) (fun _ _ => True)) _) (fun _ _ _ _ hs hg _ => Nat.le_trans hs hg.size)) (ownFrom_below (Nat.le_refl _) (by omega)))
      (fun _ _ _ _ _ hs _ _ => hs)
      ⟨⟨⟨_, bO, World.ownsRow_nil _ _ _ _, trivial⟩, by omega⟩, hbB⟩
      (fun x => { tmps := #[.agg #[.slice a l.parts.length cap, .int .i64 l.op, .int .i64 l.fi], .pointer (some ⟨w.heap.size, 0, none⟩), .string ⟨#[]⟩, .pointer (some ⟨w1.heap.size, 0, none⟩), .string x.1, .agg #[.slice a l.parts.length cap, .int .i64 l.op, .int .i64 l.fi], .bool true, .bool false, .agg #[.slice a l.parts.length cap, .int .i64 l.op, .int .i64 l.fi], .func (.func 28) #[] #[.pointer (some ⟨w1.heap.size + 1, 0, none⟩)], .string x.1, undef, undef, undef, undef, undef], defers := [] }) ?assign ?body ?done ?stop
    case assign =>
      intro l' x W K hK
      simp only [lEnc]
      gi_wp2
      exact hK
    case body =>
      rintro l' pre x W ⟨⟨⟨u, hu, hrow, -⟩, hM⟩, hB⟩ hlt
      have hx := x.2
      have hcl := catL_len pre
      have hc := hu.cell
      have HROW := hide hrow; have HU := hide hu; have HBB := hide hB
      have hll : (catL pre).length + x.1.size ≤ 1099511627776 := by omega
      have HSN := hide (catL_snoc pre x)
      clear hrow hu hB hcl hx
      gi_wp2_with (gi_at_builtin; refine appendIn_string _ rfl _ _ rfl (w1.heap.size + 1 + 1) u (catL pre) x.1 rfl (unhide HROW) rfl hll hM ?_
                   intro a' n' cap' w2 HN HR HG
                   have hre := round_ends (unhide HU) (unhide HROW) HR.out HG.out hM
                   have hc1 := hre.1.cell; have hf1 := hre.1.frozen
                   have HRE := hide hre
                   clear hre)
      obtain ⟨-, r2, r3, r4, r5, r6⟩ := unhide HRE
      refine ⟨r4, r5, ⟨⟨_, r2, ?_, trivial⟩, Nat.le_trans hM r5.size⟩, (unhide HBB).trans (r6 _ (by omega) (by omega))⟩
      have r3' : ByRow _ _ _ _ := r3
      rw [unhide HSN]
      exact r3'
    case done =>
      rintro D ys W hD hS ⟨⟨⟨u, hu, hrow, -⟩, hM⟩, hB⟩ hK
      have hc := hu.cell
      have hconv := ByRow.str hrow
      gi_wp2
      refine ⟨by simp, .inl ⟨_, _, rfl, run_takeDeferred hK, ?_⟩⟩
      refine ⟨_, results_tmp rfl _ _ _, ?_, hB.trans (belowK_b (w := w) (Nat.le_refl _) W D _ _ (by omega) hK rfl rfl)⟩
      rw [plW_yes (unhide HOKK), ← lines_text, ← hS]
      rfl
    case stop =>
      rintro D c pre W _ _ h _
      exact h.elim
  · refine ⟨_, results_tmp rfl _ _ _, ?_, unhide HB1⟩
    rw [plW_no (unhide HOKK)]
    rfl
end Go.Proofs.YtcnkkegpckibbaaDoor
