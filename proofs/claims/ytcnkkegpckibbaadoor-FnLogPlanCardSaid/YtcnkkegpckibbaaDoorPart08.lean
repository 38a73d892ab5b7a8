/- The walk of the program's LogPlanWrite: the text of a plan that is ok, else nothing. The table of powers is as strconv's text lays it. -/
import Derived.Test.YtcnkkegpckibbaaDoorPart07
import Derived.RangeFuncFrom
import Derived.Test.YtcnkkegpckibbaaDoorPart00
import Derived.Test.YtcnkkegpckibbaaDoorPart03
import Derived.Deep.CutRange
import Derived.Deep.Onto
import Derived.Test.YtcnkkegpckibbaaDoorPart06
import Derived.Sort.CutIn
namespace Go.Proofs.YtcnkkegpckibbaaDoor
open Go Go.RowKit Go.Shelf

attribute [local go_sem] Oper.semAt_some

/-- append of a string's bytes, inside a fence. -/
theorem appendIn_string {F : Fence} {n : Nat} (w : World) {ops : Array Oper} {rest : List Oper} {o : Oper} {a : Act} {Q : Exit → Act → World → Prop}
    (hg : o.guard = none) (s x : Operand) (hop : o.op = Op.call { callee := Callee.builtin Builtin.append, args := #[s, x], argTypes := #[22, 9] })
    (base : Nat) (v : Value) (l : List UInt8) (tx : ByteArray) (hs : a.eval s = v) (hown : ByRow base w v l) (hx : a.eval x = .string tx)
    (hlen : l.length + tx.size ≤ 1099511627776) (hbase : base ≤ w.heap.size)
    (hK : ∀ a' n' cap' w', Hid (n' = (l ++ tx.data.toList).length) → Hid (ByRow base w' (.slice a' n' cap') (l ++ tx.data.toList)) → Hid (w.grownBy w' v.ownBlock) → wpListIn F n Tryd.prog ops Q rest (a.put o.dst (.slice a' n' cap')) w') :
    wpListIn F n Tryd.prog ops Q (o :: rest) a w := by
  obtain ⟨i0, hi, hz0, hz1, hz2⟩ := info_parts infoU8
  have hsz : tx.data.toList.length = tx.size := by simp
  refine wpListIn_plain hg fun K hK' => ?_
  obtain ⟨v', w', hr, r1, r2, -⟩ := Lib.run_append_own_string (P := Tryd.prog) w base 22 9 o.type 5 i0 Tryd.underlying22 Tryd.underlying9 hi hz0 hz1 hz2 v l.length (bc l) hown tx (by unfold maxLen; omega) (by omega) hbase
  have hrow : ByRow base w' v' (l ++ tx.data.toList) := by
    show w'.ownsRow base 5 1 v' (l ++ tx.data.toList).length (bc (l ++ tx.data.toList))
    rw [bc_append, List.length_append, hsz, ← bc_str]; exact r1
  obtain ⟨a', cap', rfl⟩ := hrow.slice
  unfold Oper.wpIn
  refine ⟨?_, ?_⟩
  · simp [Oper.about, hop, resolve, Target.leads, Sem.run_pure]
  · rw [Oper.semAt_plain F _ _ (by rw [hop]; intro c hc'; cases hc')]
    simp only [execOp, hop, resolve, invoke, builtin, Sem.run_bind, Sem.run_pure, Result.andThen_ok, List.map_toArray, List.map_cons, List.map_nil, hs, hx, hr]
    exact hK' _ _ (hK a' _ cap' w' rfl hrow r2)

def catL (pre : List LX) : List UInt8 := (pre.map lKey).flatten
theorem catL_snoc (pre : List LX) (x : LX) : catL (pre ++ [x]) = catL pre ++ x.1.data.toList := by
  unfold catL; rw [List.map_append, List.flatten_append]; simp [lKey]
theorem catL_len : ∀ pre : List LX, (catL pre).length ≤ 200 * pre.length
  | [] => by simp [catL]
  | x :: r => by
    have ih := catL_len r
    have hx : x.1.data.toList.length ≤ 200 := by have := x.2; simpa using this
    have : catL (x :: r) = x.1.data.toList ++ catL r := by simp [catL, lKey]
    rw [this, List.length_append, List.length_cons]
    omega

/-- A round's append and store. -/
theorem round_ends {W w1 : World} {M B : Nat} {v v' : Value} {l l' : List UInt8} (hv : Boxed W B 22 v) (hrow : ByRow M W v l) (hown' : ByRow M w1 v' l') (hg : W.grownBy w1 v.ownBlock) (hM : M ≤ W.heap.size) :
    Boxed w1 B 22 v ∧ Boxed (w1.setCell ⟨B, 0, none⟩ v') B 22 v' ∧ ByRow M (w1.setCell ⟨B, 0, none⟩ v') v' l' ∧ KeepsOthers W (w1.setCell ⟨B, 0, none⟩ v') ∧ KpL M B W (w1.setCell ⟨B, 0, none⟩ v') ∧ (∀ n0, n0 ≤ B → n0 ≤ M → Below n0 W (w1.setCell ⟨B, 0, none⟩ v')) := by
  have hte : 22 ≠ 5 := by decide
  have hv1 : Boxed w1 B 22 v := hv.kept hg (hv.not_row hte hrow)
  refine ⟨hv1, hv1.set v', hown'.kept (grownBy_setCell' w1 B v') (.inr (hv1.not_row hte hown').symm), ?_, ⟨?_, fun k h1 h2 => ?_⟩, fun n0 h1 h2 => ?_⟩
  · refine (KeepsOthers.of_grownBy hg fun j o ej hj => ?_).trans (KeepsOthers.setCell _ _ _)
    rcases hrow.2 with ⟨rfl, _⟩ | ⟨g, cap, cur, rfl, _, hgb, _⟩
    · simp [Value.ownBlock] at ej
    · obtain rfl : g = j := by simpa [Value.ownBlock] using ej
      rw [hgb] at hj; cases hj; rfl
  · show W.heap.size ≤ (w1.setCell _ _).heap.size
    have := hg.size
    simp [World.setCell]; omega
  · refine (Below.heap_setCell _ _ _ _ (fun e => h2 ?_)).trans (hg.block k (by omega) (fun e => ?_))
    · first | exact e | exact e.symm
    · have := (hrow.lt k e.symm).1; omega
  · exact ((Below.refl n0 W).grown hg (by omega) (fun k e => by have := (hrow.lt k e).1; omega)).setCell (p := ⟨B, 0, none⟩) h1 v'
end Go.Proofs.YtcnkkegpckibbaaDoor

/- Disks that own their memory: definitions and small laws, no program. No conditions. -/

namespace Go.Proofs.YtcnkkegpckibbaaDoor
open Go Go.RowKit

/-- Rows of n cells each, in a block of their own. -/
def FlatOwn (w : World) (v : Value) (n : Nat) (rs : List (List Value)) (F : List Nat) : Prop :=
  ∃ a cap, v = .slice a rs.length cap ∧ rs.length ≤ 9223372036854775807 ∧ ((rs = [] ∧ F = []) ∨ ∃ b, a = some ⟨b, 0, none⟩ ∧ F = [b] ∧ FreeB w b ∧ ∀ i, (h : i < rs.length) → ∀ j, j < n → w.cell? ⟨b, i * n + j, none⟩ = some (rs[i].getD j undef))
theorem FlatOwn.carry {w w' : World} {v : Value} {n : Nat} {rs : List (List Value)} {F : List Nat} (h : FlatOwn w v n rs F) (hF : ∀ b, b ∈ F → w'.heap[b]? = w.heap[b]?) : FlatOwn w' v n rs F := by
  obtain ⟨a, cap, h1, h2, h3⟩ := h
  refine ⟨a, cap, h1, h2, ?_⟩
  rcases h3 with h | ⟨b, e, rfl, hf, hc⟩
  · exact Or.inl h
  · have hb := hF b (by simp)
    exact Or.inr ⟨b, e, rfl, hf.of_block hb, fun i hi j hj => by rw [World.cell?_of_block (w := w) hb]; exact hc i hi j hj⟩
theorem FlatOwn.at {w : World} {v : Value} {n : Nat} {rs : List (List Value)} {F : List Nat} (h : FlatOwn w v n rs F) : FlatAt (· ∈ F) w v n rs := by
  obtain ⟨a, cap, h1, h2, h3⟩ := h
  refine ⟨a, cap, h1, h2, fun i hi => ?_⟩
  rcases h3 with ⟨rfl, -⟩ | ⟨b, e, rfl, hf, hc⟩
  · simp at hi
  · exact ⟨b, 0, e, by simp, fun j hj => by rw [Nat.zero_add]; exact hc i hi j hj⟩
theorem FlatOwn.nil (w : World) (n : Nat) : FlatOwn w (.slice none 0 0) n [] [] := ⟨none, 0, rfl, by simp, Or.inl ⟨rfl, rfl⟩⟩
theorem flat_get {n : Nat} : ∀ (rs : List (List Value)), (∀ r, r ∈ rs → r.length = n) → ∀ (i : Nat) (hi : i < rs.length) (j : Nat), j < n → rs.flatten[i * n + j]? = some (rs[i].getD j undef)
  | r :: rest, hn, 0, _, j, hj => by
    have hr : r.length = n := hn r List.mem_cons_self
    rw [List.flatten_cons, Nat.zero_mul, Nat.zero_add, List.getElem?_append_left (by omega), List.getElem?_eq_getElem (by omega)]
    simp [hr, hj]
  | r :: rest, hn, i + 1, hi, j, hj => by
    have hr : r.length = n := hn r List.mem_cons_self
    rw [List.flatten_cons, List.getElem?_append_right (by rw [hr, Nat.add_mul]; omega), hr, show (i + 1) * n + j - n = i * n + j by rw [Nat.add_mul]; omega, flat_get rest (fun x hx => hn x (List.mem_cons_of_mem _ hx)) i (by simpa using hi) j hj]
    rfl
/-- A row of the call's own is such. -/
theorem FlatOwn.of_row {base : Nat} {w : World} {v : Value} {e : TypeId} {n : Nat} {rs : List (List Value)} (h : w.ownsRow base e n v rs.length rs.flatten) (hn : ∀ r, r ∈ rs → r.length = n) :
    ∃ F, FlatOwn w v n rs F ∧ (∀ b, b ∈ F → v.ownBlock = some b) ∧ (∀ b, b ∈ F → base ≤ b ∧ b < w.heap.size) ∧ F.Nodup := by
  rcases h.2 with ⟨hv, h0⟩ | ⟨g, cap, cur, hv, hb, hh, hle, hm, hsz, htk⟩
  · have : rs = [] := List.eq_nil_of_length_eq_zero h0
    subst this
    exact ⟨[], ⟨none, 0, hv, by simp, Or.inl ⟨rfl, rfl⟩⟩, fun b hb => (by cases hb), fun b hb => (by cases hb), List.nodup_nil⟩
  · refine ⟨[g], ⟨some ⟨g, 0, none⟩, cap, hv, by unfold maxLen at hm; omega, Or.inr ⟨g, rfl, rfl, freeOfHeap hh, fun i hi j hj => ?_⟩⟩, fun b hb => ?_, fun b hb => ?_, by simp⟩
    · have h1 := flat_get rs hn i hi j hj
      have hlt : i * n + j < rs.length * n := by
        have : (i + 1) * n ≤ rs.length * n := Nat.mul_le_mul_right n hi
        rw [Nat.add_mul] at this; omega
      rw [← htk, List.getElem?_take_of_lt hlt] at h1
      simp only [World.cell?, hh]
      simpa using h1
    · simp at hb; subst hb; rw [hv]; rfl
    · simp at hb; subst hb
      exact ⟨by assumption, (Array.getElem?_eq_some_iff.1 hh).1⟩

end Go.Proofs.YtcnkkegpckibbaaDoor

/- Records as plain data, how they lie in memory, and what stands in a row of bytes. No program, no conditions. -/

namespace Go.Proofs.YtcnkkegpckibbaaDoor
open Go Go.RowKit

structure Rc where
  (pos : Int) (data : ByteArray)
instance : Inhabited Rc := ⟨⟨0, ByteArray.empty⟩⟩
/-- A byte of a row. -/
def byB (s : ByteArray) (i : Nat) : Int := ((s.data.toList.getD i 0).toNat : Int)
def szB (s : ByteArray) (i : Nat) : Int := byB s i * 256 + byB s (i + 1)
def psB (s : ByteArray) (i : Nat) : Int := byB s (i + 2) * 65536 + byB s (i + 3) * 256 + byB s (i + 4)
/-- Whether a whole record stands at a place. -/
def whB (s : ByteArray) (i : Nat) : Prop := i + 5 ≤ s.size ∧ szB s i ≤ 2000 ∧ (1 ≤ psB s i ∧ psB s i ≤ 999999) ∧ (i : Int) + 5 + szB s i ≤ s.size
instance (s : ByteArray) (i : Nat) : Decidable (whB s i) := by unfold whB; infer_instance
end Go.Proofs.YtcnkkegpckibbaaDoor

/- Pieces of rows of bytes. No program, no conditions. -/

namespace Go.Proofs.YtcnkkegpckibbaaDoor
open Go Go.RowKit

theorem ba_inj {a b : ByteArray} (h : a.data.toList = b.data.toList) : a = b := by
  apply ByteArray.ext
  exact Array.toList_inj.1 h
theorem ext_list (s : ByteArray) (a b : Nat) : (s.extract a b).data.toList = (s.data.toList.drop a).take (b - a) := by
  rw [ByteArray.data_extract, Array.toList_extract]
end Go.Proofs.YtcnkkegpckibbaaDoor

/- The walk of the specification's LogPlanRead: it gives the plan whose text it is, if there is one. Conditions: the text is bounded. -/

namespace Go.Proofs.YtcnkkegpckibbaaDoor
open Go Go.RowKit

/-- The plan whose text it is. -/
def RdIs (X : List UInt8) : Option Pl → Prop
  | some l => plOk l ∧ plT l = X
  | none => ∀ l, plOk l → plT l ≠ X
/-- A plan that was read is given back. -/
def RdEnd (w w' : World) (e : Ending) (X : List UInt8) : Prop :=
  (∃ l v, RdIs X (some l) ∧ e = .returned (.tuple #[.agg #[v, .int .i64 l.op, .int .i64 l.fi], .bool true]) ∧ (∃ F, FlatOwn w' v 4 (l.parts.map Pt.cs) F ∧ ∀ b, b ∈ F → w.heap.size ≤ b ∧ b < w'.heap.size) ∧ Below w.heap.size w w') ∨
  (RdIs X none ∧ e = .returned (.tuple #[.agg #[.slice none 0 0, .int .i64 0, .int .i64 0], .bool false]) ∧ Below w.heap.size w w')
theorem lstR_loop (s : ByteArray) (n : Nat) : ∀ (i : Nat) (r : List UInt8), s.size - i = n → ByteArray.toList.loop s i r = r.reverse ++ s.data.toList.drop i := by
  induction n with
  | zero =>
    intro i r h
    unfold ByteArray.toList.loop
    rw [if_neg (by omega), List.drop_eq_nil_of_le (by simp only [Array.length_toList]; show s.size ≤ i; omega), List.append_nil]
  | succ n ih =>
    intro i r h
    unfold ByteArray.toList.loop
    have hi : i < s.size := by omega
    have e : s.get! i = s.data.toList[i]'(by simpa using hi) := by
      obtain ⟨d⟩ := s
      exact getElem!_pos d i hi
    have hdrop : s.data.toList.drop i = s.data.toList[i]'(by simpa using hi) :: s.data.toList.drop (i + 1) := List.drop_eq_getElem_cons (by simpa using hi)
    rw [if_pos hi, ih (i + 1) _ (by omega), hdrop, e, List.reverse_cons, List.append_assoc]
    rfl
theorem lstR_data (s : ByteArray) : s.toList = s.data.toList := by
  have := lstR_loop s s.size 0 [] (by omega)
  rw [List.drop_zero] at this
  exact this
theorem neq_str {a b : ByteArray} : ((a.toList != b.toList) = true) ↔ a ≠ b := by
  rw [lstR_data, lstR_data, bne_iff_ne]
  exact ⟨fun h e => h (by rw [e]), fun h e => h (ba_inj e)⟩
theorem list4 {l : List Int} (h : l.length = 4) : ∃ a b c d, l = [a, b, c, d] := by
  match l, h with
  | [a, b, c, d], _ => exact ⟨a, b, c, d, rfl⟩
theorem list2 {l : List Int} (h : l.length = 2) : ∃ a b, l = [a, b] := by
  match l, h with
  | [a, b], _ => exact ⟨a, b, rfl⟩
end Go.Proofs.YtcnkkegpckibbaaDoor

/- The walk of the program's planIn: what the lines of a text say. Conditions: the text is bounded; strings' bound is some number, strconv's two errors are some errors. -/

namespace Go.Proofs.YtcnkkegpckibbaaDoor
open Go Go.RowKit Go.Shelf

attribute [local go_sem] Oper.semAt_some

theorem foldP_snoc : ∀ (A : List (List UInt8)) (q : Pl) (L : List UInt8), foldP q (A ++ [L]) = (foldP q A).bind fun p => lineP p L
  | [], q, L => by
    simp only [List.nil_append, foldP]
    cases h : lineP q L with
    | none => simp [h]
    | some p => simp [h]
  | B :: A, q, L => by
    simp only [List.cons_append, foldP]
    cases lineP q B with
    | none => rfl
    | some p => exact foldP_snoc A p L
theorem foldP_none : ∀ (A r : List (List UInt8)) (q : Pl), foldP q A = none → foldP q (A ++ r) = none
  | [], _, _, h => by cases h
  | B :: A, r, q, h => by
    simp only [List.cons_append, foldP] at h ⊢
    cases e : lineP q B with
    | none => rfl
    | some p => rw [e] at h; exact foldP_none A r p h
theorem lineP_few {p p' : Pl} {L : List UInt8} (h : lineP p L = some p') (hp : p.parts.length ≤ 40) : p'.parts.length ≤ 40 := by
  unfold lineP at h
  split at h
  · next hc => cases h; simp only [List.length_append, List.length_cons, List.length_nil]; have := hc.2.2; omega
  · split at h
    · cases h; exact hp
    · split at h
      · cases h
      · cases h; exact hp
/-- What the lines of a text say is given back. -/
def PlEnd (w w' : World) (e : Ending) (o : Option Pl) : Prop :=
  Below w.heap.size w w' ∧ ((∃ l v, o = some l ∧ l.parts.length ≤ 40 ∧ e = .returned (.tuple #[.agg #[v, .int .i64 l.op, .int .i64 l.fi], .bool true]) ∧ ∃ F, FlatOwn w' v 4 (l.parts.map Pt.cs) F ∧ ∀ b, b ∈ F → w.heap.size ≤ b ∧ b < w'.heap.size) ∨ (o = none ∧ e = .returned (.tuple #[.agg #[.slice none 0 0, .int .i64 0, .int .i64 0], .bool false])))
theorem PrI.anew {w V W : World} {v : Value} {ps : List Pt} {x y : Int} (h : PrI w V W v ps x y) : PrI w W W v ps x y := ⟨h.bel, KeepsOthers.refl W, h.b2, h.b3, h.b4, h.own⟩
theorem rowIs_cells {W : World} {g t n : Nat} {f : Nat → Value} (h : W.rowIs g t n f) {o : Obj} (ho : W.heap[g]? = some o) : o.isCells = true := by
  obtain ⟨c, hb, _⟩ := h
  rw [hb] at ho; cases ho; rfl
theorem PrI.grown {w V W W' : World} {v : Value} {ps : List Pt} {x y : Int} {row : Option Nat} (h : PrI w V W v ps x y) (hg : W.grownBy W' row) (hr : ∀ r, row = some r → w.heap.size ≤ r ∧ ∃ o : Obj, W.heap[r]? = some o ∧ o.isCells = false) : PrI w W' W' v ps x y := by
  have hk : ∀ b, b < W.heap.size → (∀ o, W.heap[b]? = some o → o.isCells = true) → W'.heap[b]? = W.heap[b]? := fun b hb hc => hg.block b hb (fun e => by
    obtain ⟨-, o, ho, hn⟩ := hr b e.symm
    rw [hc o ho] at hn; cases hn)
  refine ⟨⟨hg.os.trans h.bel.os, hg.tape.trans h.bel.tape, hg.output.trans h.bel.output, Nat.le_trans h.bel.size hg.size, fun b hb => ?_⟩, KeepsOthers.refl _, h.b2.of_block (hk _ h.b2.lt fun o ho => rowIs_cells h.b2 ho), ?_, h.b4.of_block (hk _ h.b4.lt fun o ho => rowIs_cells h.b4 ho), ownsR_keep h.own (fun g e => hk g (h.own.lt g e).2 fun o ho => own_cells h.own e ho)⟩
  · rw [hg.block b (Nat.lt_of_lt_of_le hb h.bel.size) (fun e => by have := (hr b e.symm).1; omega)]
    exact h.bel.block b hb
  · exact (hk _ h.b3.lt fun o ho => by have h3 : W.heap[w.heap.size + 1]? = some _ := h.b3; rw [h3] at ho; cases ho; rfl).trans h.b3
/-- What stands while the lines are read. -/
def PlI (w : World) (pre : List TX) (W : World) : Prop := ∃ p v, foldP ⟨[], 0, 0⟩ (pre.map tKey) = some p ∧ p.parts.length ≤ 40 ∧ PrI w W W v p.parts p.op p.fi
theorem PlI.own (w : World) {B : Nat} (hB : w.heap.size ≤ B) : OwnFrom B (PlI w) := fun _ _ _ _ ⟨p, v, h1, h2, h3⟩ hg hr => ⟨p, v, h1, h2, h3.grown hg fun r e => ⟨Nat.le_trans hB (hr r e).1, (hr r e).2⟩⟩
/-- What stands where a line says nothing. -/
def PlX (w : World) (c : Code) (pre : List TX) (W : World) : Prop := c = .ret ∧ foldP ⟨[], 0, 0⟩ (pre.map tKey) = none ∧ Below w.heap.size w W ∧ W.rowIs w.heap.size 25 3 (row3 (.slice none 0 0) (.int .i64 0) (.int .i64 0)) ∧ Boxed W (w.heap.size + 1) 4 (.bool false)
theorem PlX.own (w : World) {B : Nat} (hB : w.heap.size ≤ B) (c : Code) : OwnFrom B (PlX w c) := fun s W W' row ⟨h0, h1, h2, h3, h4⟩ hg hr => by
  have hk : ∀ b, b < W.heap.size → (∀ o, W.heap[b]? = some o → o.isCells = true) → W'.heap[b]? = W.heap[b]? := fun b hb hc => hg.block b hb (fun e => by
    obtain ⟨-, o, ho, hn⟩ := hr b e.symm
    rw [hc o ho] at hn; cases hn)
  refine ⟨h0, h1, ⟨hg.os.trans h2.os, hg.tape.trans h2.tape, hg.output.trans h2.output, Nat.le_trans h2.size hg.size, fun b hb => ?_⟩, h3.of_block (hk _ h3.lt fun o ho => rowIs_cells h3 ho), ?_⟩
  · rw [hg.block b (Nat.lt_of_lt_of_le hb h2.size) (fun e => by have := (hr b e.symm).1; omega)]
    exact h2.block b hb
  · exact (hk _ h4.lt fun o ho => by have h3 : W.heap[w.heap.size + 1]? = some _ := h4; rw [h3] at ho; cases ho; rfl).trans h4
theorem wpIn_only {F : Fence} {n : Nat} {P : Program} {c : Code} {Q : Exit → Act → World → Prop} {a : Act} {w : World} (h : c.wpIn F n P (fun e a w => e = .normal ∧ Q .normal a w) a w) : c.wpIn F n P Q a w := wpIn_mono h fun _ _ _ ⟨he, hq⟩ => he ▸ hq
theorem wpIn_swap {F : Fence} {n : Nat} {P : Program} {c c' : Code} {Q : Exit → Act → World → Prop} {a : Act} {w : World} (h : c = c') (hw : c'.wpIn F n P Q a w) : c.wpIn F n P Q a w := h ▸ hw
theorem PrI.form {w V W : World} {v : Value} {ps : List Pt} {x y : Int} (h : PrI w V W v ps x y) : ∃ (a : Option Addr) (cap : Nat), v = .slice a ps.length cap := by
  rcases h.own.2 with ⟨hv, h0⟩ | ⟨g, c, u, hv, _⟩
  · exact ⟨none, 0, by rw [hv, h0]⟩
  · exact ⟨_, _, hv⟩
theorem PrI.round {w W W6 : World} {v v' : Value} {ps ps' : List Pt} {x y x' y' : Int} {pre : List TX} (h : PrI w W W v ps x y) (h6 : PrI w W W6 v' ps' x' y') (hf : foldP ⟨[], 0, 0⟩ (pre.map tKey) = some ⟨ps', x', y'⟩) (hl : ps'.length ≤ 40) : KeepsOthers W W6 ∧ KpL w.heap.size w.heap.size W W6 ∧ PlI w pre W6 :=
  ⟨h6.ko, ⟨h6.ko.size, fun k hk _ => (h6.bel.block k hk).trans (h.bel.block k hk).symm⟩, ⟨ps', x', y'⟩, v', hf, hl, h6.anew⟩
/-- A plan and a truth are stored into the boxes of the results. -/
theorem sto4 {w W : World} {x0 x1 x2 u : Value} (hB : Below w.heap.size w W) (h2 : W.rowIs w.heap.size 25 3 (row3 x0 x1 x2)) (h3 : Boxed W (w.heap.size + 1) 4 u) (v0 v1 v2 b : Value) {W' : World} (e : W' = (((W.setCell ⟨w.heap.size, 0, none⟩ v0).setCell ⟨w.heap.size, 1, none⟩ v1).setCell ⟨w.heap.size, 2, none⟩ v2).setCell ⟨w.heap.size + 1, 0, none⟩ b) : KeepsOthers W W' ∧ Below w.heap.size w W' ∧ W'.rowIs w.heap.size 25 3 (row3 v0 v1 v2) ∧ Boxed W' (w.heap.size + 1) 4 b ∧ (∀ k, k ≠ w.heap.size → k ≠ w.heap.size + 1 → W'.heap[k]? = W.heap[k]?) ∧ W'.heap.size = W.heap.size := by
  subst e
  refine ⟨(((KeepsOthers.setCell _ _ _).trans (KeepsOthers.setCell _ _ _)).trans (KeepsOthers.setCell _ _ _)).trans (KeepsOthers.setCell _ _ _), (((hB.setCell (by simp) _).setCell (by simp) _).setCell (by simp) _).setCell (by simp) _, ?_, ?_, fun k h1 h2 => ?_, by simp only [World.size_setCell]⟩
  · exact (row3_pi2 (row3_pi1 (row3_set0 h2 v0) v1) v2).of_block (Below.heap_setCell _ _ _ _ (by simp))
  · have h3' : Boxed (((W.setCell ⟨w.heap.size, 0, none⟩ v0).setCell ⟨w.heap.size, 1, none⟩ v1).setCell ⟨w.heap.size, 2, none⟩ v2) (w.heap.size + 1) 4 u := by
      unfold Boxed
      rw [Below.heap_setCell _ _ _ _ (by simp), Below.heap_setCell _ _ _ _ (by simp), Below.heap_setCell _ _ _ _ (by simp)]
      exact h3
    exact h3'.set b
  · rw [Below.heap_setCell _ _ _ _ (by simp; omega), Below.heap_setCell _ _ _ _ (by simp; omega), Below.heap_setCell _ _ _ _ (by simp; omega), Below.heap_setCell _ _ _ _ (by simp; omega)]
/-- The results are read out of their boxes. -/
theorem res4 {w W : World} {v0 v1 v2 b : Value} {E : Nat} (hE : w.heap.size + 2 ≤ E) (h2 : W.rowIs w.heap.size 25 3 (row3 v0 v1 v2)) (h3 : Boxed W (w.heap.size + 1) 4 b) : (W.putObj E (.deferred none)).cell? ⟨w.heap.size, 0, none⟩ = some v0 ∧ (W.putObj E (.deferred none)).cell? ⟨w.heap.size, 1, none⟩ = some v1 ∧ (W.putObj E (.deferred none)).cell? ⟨w.heap.size, 2, none⟩ = some v2 ∧ (W.putObj E (.deferred none)).cell? ⟨w.heap.size + 1, 0, none⟩ = some b := by
  have hr : (W.putObj E (.deferred none)).rowIs w.heap.size 25 3 (row3 v0 v1 v2) := h2.of_block (World.putObj_heap_other (by omega))
  have hb : Boxed (W.putObj E (.deferred none)) (w.heap.size + 1) 4 b := (World.putObj_heap_other (by omega)).trans h3
  exact ⟨hr.cell (i := 0) (by omega), hr.cell (i := 1) (by omega), hr.cell (i := 2) (by omega), hb.cell⟩
theorem words_in (L : ByteArray) (W : World) (hL : L.size ≤ 1048576) (hE : EnvP W) : ∃ D : ByteArray, D.toList = (Lib.cut L.data.toList [32]).1 ∧ Calls Tryd.prog 32 #[.string L] W fun e w' => ∃ (g : Option Addr) (c : Nat), e = .returned (.tuple #[.string D, .slice g (wdS L.data.toList).length c]) ∧ Hid (w'.ownsRow W.heap.size 3 1 (.slice g (wdS L.data.toList).length c) (wdS L.data.toList).length ((wdS L.data.toList).map fun z => .int .i64 z)) ∧ Hid (Below W.heap.size W w') := by
  refine ⟨⟨(Lib.cut L.data.toList [32]).1.toArray⟩, by rw [lstR_data], (planWords_any L W hL hE).mono ?_⟩
  rintro e w' ⟨v, rfl, ho, hb⟩
  have : ∃ (g : Option Addr) (c : Nat), v = .slice g (wdS L.data.toList).length c := by
    rcases ho.2 with ⟨hv, h0⟩ | ⟨g, c, u, hv, _⟩
    · exact ⟨none, 0, by rw [hv, h0]⟩
    · exact ⟨_, _, hv⟩
  obtain ⟨g, c, rfl⟩ := this
  exact ⟨g, c, rfl, ho, hb⟩
set_option maxRecDepth 100000 in
set_option maxHeartbeats 3200000 in
theorem planIn_any (s : ByteArray) (w : World) (hs : s.size ≤ 1048576) (hE : EnvP w) (hG : gTopP ≤ w.heap.size) :
    Calls Tryd.prog 22 #[.string s] w fun e w' => PlEnd w w' e (foldP ⟨[], 0, 0⟩ (lnsT s.data.toList)) := by
  have hpr : ∀ W, W = (((w.alloc (.cells #[.slice none 0 0, .int .i64 0, .int .i64 0] 25)).alloc (.cells #[.bool false] 4)).alloc (.cells #[.slice none 0 0, .int .i64 0, .int .i64 0] 25)).alloc (.cells #[.string s] 9) → PlI w [] W ∧ W.cell? ⟨w.heap.size + 3, 0, none⟩ = some (.string s) ∧ W.heap.size = w.heap.size + 4 := fun W hW => by
    subst hW
    refine ⟨⟨⟨[], 0, 0⟩, .slice none 0 0, rfl, by decide, ⟨(((Below.refl _ _).alloc (Nat.le_refl _) _).alloc (by simp) _ |>.alloc (by simp; omega) _).alloc (by simp; omega) _, KeepsOthers.refl _, (((row3_alloc w _ _ _ _).alloc _).alloc _).alloc _, ?_, ?_, ⟨rfl, Or.inl ⟨rfl, rfl⟩⟩⟩⟩, ?_, by simp⟩
    · have := ((Boxed.new (w.alloc (.cells #[.slice none 0 0, .int .i64 0, .int .i64 0] 25)) 4 (.bool false)).alloc (.cells #[.slice none 0 0, .int .i64 0, .int .i64 0] 25)).alloc (.cells #[.string s] 9)
      rw [World.size_alloc] at this; exact this
    · have := (row3_alloc ((w.alloc (.cells #[.slice none 0 0, .int .i64 0, .int .i64 0] 25)).alloc (.cells #[.bool false] 4)) (.slice none 0 0) (.int .i64 0) (.int .i64 0) 25).alloc (.cells #[.string s] 9)
      rw [World.size_alloc, World.size_alloc] at this; exact this
    · have := (Boxed.new (((w.alloc (.cells #[.slice none 0 0, .int .i64 0, .int .i64 0] 25)).alloc (.cells #[.bool false] 4)).alloc (.cells #[.slice none 0 0, .int .i64 0, .int .i64 0] 25)) 9 (.string s)).cell
      rw [World.size_alloc, World.size_alloc, World.size_alloc] at this; exact this
  have HPR := hide hpr; have HE := hide hE; have HG := hide hG
  clear hpr hE hG
  refine (callsIn_wide (n := 8)).1 ?_
  refine callsIn_of_wp_marks Tryd.func22 rfl trivial ?_ rfl
  simp only [Tryd.ntmps22, List.size_toArray, List.length_cons, List.length_nil, Nat.reduceAdd, Nat.reduceSub, Array.replicate_succ, Array.replicate_zero, List.push_toArray, List.append_toArray, List.nil_append, List.cons_append]
  gi_wp2_with (first
    | ((try refine ⟨trivial, ?_⟩); gi_at_call 31; refine (textLines_in _ _ _).mono ?_; rintro e w' ⟨rfl, rfl⟩))
  generalize hW0 : ((((w.alloc (.cells #[.slice none 0 0, .int .i64 0, .int .i64 0] 25)).alloc (.cells #[.bool false] 4)).alloc (.cells #[.slice none 0 0, .int .i64 0, .int .i64 0] 25)).alloc (.cells #[.string s] 9)) = W0
  obtain ⟨h0, hbox, hs0⟩ := unhide HPR W0 hW0.symm
  have hb0 : Below w.heap.size w W0 := by obtain ⟨p, v, -, -, h⟩ := h0; exact h.bel
  have HBX := hide hbox; have HB0 := hide hb0; have HS0 := hide hs0
  have hEV : ∀ W, Below w.heap.size w W → EnvP W := fun W h => (unhide HE).below h
  have HEV := hide hEV
  clear HPR hW0 hbox hb0 hEV HE
  refine wpIn_rangeFunc_ownF (α := TX) (encs := tEnc) (Kp := KpL w.heap.size w.heap.size) (S := fun ys => ys.map tKey = lnsT s.data.toList) (Sp := fun pre => ∃ r, pre.map tKey ++ r = lnsT s.data.toList) (N := s.size + 1) (w0 := W0) rfl (by omega)
      (gf := 38) (lb := #[.pointer (some ⟨w.heap.size + 1 + 1 + 1, 0, none⟩)]) rfl trivial (enters_of Tryd.func38 (by kernel_rfl) rfl)
      (fun L J Jx W hW hJ _ hY h0 => textLines1_in _ L s hs w.heap.size (w.heap.size + 1 + 1 + 1) W0 (unhide HEV _ (unhide HB0)) (unhide HG) (unhide HB0).size J Jx (fun s A B hs hg => hJ s A B none hs hg (fun r e => by cases e)) hY W (KpL.of_below hW (unhide HB0).size) (by rw [World.cell?_of_block (w := W0) (hW.block _ (by rw [unhide HS0]; simp))]; exact unhide HBX) h0)
      KpL.trans (KpL.putObj (by omega)) (Below.refl _ _) (fun _ => rfl)
      (PlI w) (PlX w) (PlI.own w (by omega)) (PlX.own w (by omega)) h0
      (fun x => { tmps := (.string s :: undef :: .pointer (some ⟨w.heap.size, 0, none⟩) :: .pointer (some ⟨w.heap.size + 1, 0, none⟩) :: .pointer (some ⟨w.heap.size + 1 + 1, 0, none⟩) :: undef :: .string x.2.1 :: undef :: undef :: .string s :: .func (.func 38) #[] #[.pointer (some ⟨w.heap.size + 1 + 1 + 1, 0, none⟩)] :: .int .i64 x.1 :: .string x.2.1 :: undef :: undef :: undef :: undef :: undef :: undef :: undef :: undef :: undef :: undef :: undef :: undef :: undef :: undef :: undef :: undef :: undef :: undef :: undef :: undef :: undef :: undef :: undef :: undef :: undef :: undef :: undef :: undef :: undef :: undef :: undef :: undef :: undef :: undef :: undef :: undef :: undef :: undef :: undef :: undef :: undef :: undef :: undef :: undef :: undef :: undef :: undef :: undef :: undef :: undef :: undef :: undef :: undef :: undef :: undef :: undef :: undef :: undef :: undef :: undef :: undef :: undef :: []).toArray, defers := [] }) ?assign ?body ?done ?stop
  case assign =>
    intro l' x W K hK
    simp only [tEnc]
    gi_wp2
    exact hK
  case body =>
    clear h0 hs0
    rintro l' pre ⟨ni, ⟨L, hL⟩⟩ W ⟨p, v, hf, h40, hI⟩ -
    obtain ⟨a, cap, rfl⟩ := hI.form
    obtain ⟨D, hD, HC⟩ := words_in L W hL (unhide HEV _ hI.bel)
    have HI := hide hI
    have hq1 : (p.parts.length : Int) ≤ 40 := by omega
    have HSN := hide (show foldP ⟨[], 0, 0⟩ ((pre ++ [((ni, ⟨L, hL⟩) : TX)]).map tKey) = lineP p L.data.toList by
      rw [List.map_append, List.map_cons, List.map_nil, foldP_snoc, hf]; rfl)
    have HCC := hide HC; have HD := hide hD
    have HLN : Hid (∀ p', lineP p L.data.toList = some p' → p'.parts.length ≤ 40) := fun p' h => lineP_few h h40
    clear hI hf HC hD h40 HEV HG HBX HB0 HS0
    by_cases hA : (Lib.cut L.data.toList [32]).1 = [115, 101, 97, 108] ∧ (wdS L.data.toList).length = 4 ∧ p.parts.length < 40
    · have hd1 : (D.toList == [115, 101, 97, 108]) = true := by rw [unhide HD, hA.1]; rfl
      have hq2 : decide ((p.parts.length : Int) < 40) = true := decide_eq_true (by have := hA.2.2; omega)
      obtain ⟨z0, z1, z2, z3, hz⟩ := list4 hA.2.1
      have HLP := hide (show lineP p L.data.toList = some ⟨p.parts ++ [⟨z0, z1, z2, z3⟩], p.op, p.fi⟩ by unfold lineP; rw [if_pos hA, hz]; rfl)
      have HC := unhide HCC
      rw [hz] at HC
      simp only [List.length_cons, List.length_nil, Nat.reduceAdd, List.map_cons, List.map_nil] at HC
      have HCD := hide HC
      clear HC HCC hA hz HD
      gi_upto_region 6 with (first
        | ((try refine ⟨trivial, ?_⟩); gi_at_call 32; refine (CallsIn.inRound l' (callsIn_wide.2 (unhide HCD))).mono ?_; clear HCD; rintro e w1 ⟨g, c, rfl, HO, HB⟩; have k0 := (HI.out.on HB.out).b4.cell (i := 0) (by omega); simp only [row3] at k0))
      clear k0
      obtain ⟨gx, cx, hv, -, -⟩ := HO.out.form (by omega)
      simp only [Value.slice.injEq, true_and] at hv
      obtain ⟨rfl, rfl⟩ := hv
      refine wpIn_swap (c' := Code.region 6 pi6Ops true) (by kernel_rfl) ?_
      refine wpIn_only ?_
      refine pi6 l' _ w W (.slice a p.parts.length cap) p.parts p.op p.fi gx c z0 z1 z2 z3 (by omega) w1 _ (fun _ _ _ _ _ h => absurd h.1 (by simp)) (fun h => by obtain ⟨_, _, h, _⟩ := h; cases h) (onI ⟨HI.out.on HB.out, World.ownsRow.mono HO.out (by have := HI.out.bel.size; have := HI.out.b4.lt; omega)⟩ ⟨rfl, rfl, rfl, Nat.le_refl _, fun _ _ => rfl⟩) (by kernel_rfl) ?_
      intro v6 v' W6 h6
      refine ⟨rfl, ?_⟩
      exact HI.out.round h6 ((unhide HSN).trans (unhide HLP)) (unhide HLN _ (unhide HLP))
    · by_cases hB : (Lib.cut L.data.toList [32]).1 = [111, 112, 101, 110] ∧ (wdS L.data.toList).length = 2
      · have hd1 : (D.toList == [115, 101, 97, 108]) = false := by rw [unhide HD, hB.1]; rfl
        have hd2 : (D.toList == [111, 112, 101, 110]) = true := by rw [unhide HD, hB.1]; rfl
        obtain ⟨z0, z1, hz⟩ := list2 hB.2
        have HLP := hide (show lineP p L.data.toList = some ⟨p.parts, z0, z1⟩ by unfold lineP; rw [if_neg hA, if_pos hB, hz]; rfl)
        have HC := unhide HCC
        rw [hz] at HC
        simp only [List.length_cons, List.length_nil, Nat.reduceAdd, List.map_cons, List.map_nil] at HC
        have HCD := hide HC
        clear HC HCC hA hB hz HD
        gi_upto_region 8 with (first
          | ((try refine ⟨trivial, ?_⟩); gi_at_call 32; refine (CallsIn.inRound l' (callsIn_wide.2 (unhide HCD))).mono ?_; clear HCD; rintro e w1 ⟨g, c, rfl, HO, HB⟩; have k0 := (HI.out.on HB.out).b4.cell (i := 0) (by omega); simp only [row3] at k0))
        clear k0
        obtain ⟨gx, cx, hv, -, -⟩ := HO.out.form (by omega)
        simp only [Value.slice.injEq, true_and] at hv
        obtain ⟨rfl, rfl⟩ := hv
        refine wpIn_swap (c' := Code.region 8 pi8Ops true) (by kernel_rfl) ?_
        refine wpIn_only ?_
        refine pi8 l' _ w W (.slice a p.parts.length cap) p.parts p.op p.fi gx c z0 z1 w1 _ (fun _ _ _ _ _ h => absurd h.1 (by simp)) (fun h => by obtain ⟨_, _, h, _⟩ := h; cases h) ⟨(HI.out.on HB.out).on ⟨rfl, rfl, rfl, Nat.le_refl _, fun _ _ => rfl⟩, ownsR_keep (World.ownsRow.mono HO.out (by have := HI.out.bel.size; have := HI.out.b4.lt; omega)) fun _ _ => rfl⟩ (by kernel_rfl) ?_
        intro v6 W6 h6
        refine ⟨rfl, ?_⟩
        exact HI.out.round h6 ((unhide HSN).trans (unhide HLP)) (unhide HLN ⟨p.parts, z0, z1⟩ (unhide HLP))
      · have HT : ((D.toList == [115, 101, 97, 108]) = false ∧ (D.toList == [111, 112, 101, 110]) = false) ∨ ((D.toList == [115, 101, 97, 108]) = false ∧ (D.toList == [111, 112, 101, 110]) = true ∧ (wdS L.data.toList).length ≠ 2) ∨ ((D.toList == [115, 101, 97, 108]) = true ∧ (D.toList == [111, 112, 101, 110]) = false ∧ (wdS L.data.toList).length ≠ 4) ∨ ((D.toList == [115, 101, 97, 108]) = true ∧ (D.toList == [111, 112, 101, 110]) = false ∧ ¬ p.parts.length < 40) := by
          rw [unhide HD]
          by_cases h1 : (Lib.cut L.data.toList [32]).1 = [115, 101, 97, 108]
          · rw [h1]
            by_cases h4 : (wdS L.data.toList).length = 4
            · exact Or.inr (Or.inr (Or.inr ⟨rfl, rfl, fun h => hA ⟨h1, h4, h⟩⟩))
            · exact Or.inr (Or.inr (Or.inl ⟨rfl, rfl, h4⟩))
          · have h1' : ((Lib.cut L.data.toList [32]).1 == [115, 101, 97, 108]) = false := by simpa using h1
            by_cases h2 : (Lib.cut L.data.toList [32]).1 = [111, 112, 101, 110]
            · exact Or.inr (Or.inl ⟨h1', by rw [h2]; rfl, fun h => hB ⟨h2, h⟩⟩)
            · exact Or.inl ⟨h1', by simpa using h2⟩
        have HLP : Hid (lineP p L.data.toList = if L.data.toList ≠ [101, 110, 100] ∧ L.data.toList ≠ [] then none else some p) := hide (by
          unfold lineP; rw [if_neg hA, if_neg hB])
        clear hA hB HD
        generalize hn : (wdS L.data.toList).length = n at HCC HT
        have HL3 : ((L.toList == [101, 110, 100]) = true ∧ Hid (lineP p L.data.toList = some p)) ∨ ((L.toList == [101, 110, 100]) = false ∧ (L.toList == []) = true ∧ Hid (lineP p L.data.toList = some p)) ∨ ((L.toList == [101, 110, 100]) = false ∧ (L.toList == []) = false ∧ Hid (lineP p L.data.toList = none)) := by
          rw [unhide HLP, lstR_data]
          by_cases h1 : L.data.toList = [101, 110, 100]
          · rw [if_neg (fun h => h.1 h1), h1]; exact Or.inl ⟨rfl, rfl⟩
          · by_cases h2 : L.data.toList = []
            · rw [if_neg (fun h => h.2 h2), h2]; exact Or.inr (Or.inl ⟨rfl, rfl, rfl⟩)
            · rw [if_pos ⟨h1, h2⟩]; exact Or.inr (Or.inr ⟨by simpa using h1, by simpa using h2, rfl⟩)
        clear hn HLP
        have HN2 : (n ≠ 2 → ((n : Int) == 2) = false) ∧ (n ≠ 4 → ((n : Int) == 4) = false) := ⟨fun h => by rw [beq_eq_false_iff_ne]; omega, fun h => by rw [beq_eq_false_iff_ne]; omega⟩
        have HT2 : ((D.toList == [115, 101, 97, 108]) = false ∧ (D.toList == [111, 112, 101, 110]) = false) ∨ ((D.toList == [115, 101, 97, 108]) = false ∧ (D.toList == [111, 112, 101, 110]) = true ∧ ((n : Int) == 2) = false) ∨ ((D.toList == [115, 101, 97, 108]) = true ∧ (D.toList == [111, 112, 101, 110]) = false ∧ ((n : Int) == 4) = false) ∨ ((D.toList == [115, 101, 97, 108]) = true ∧ (D.toList == [111, 112, 101, 110]) = false ∧ ((n : Int) == 4) = true ∧ decide ((p.parts.length : Int) < 40) = false) := by
          rcases HT with h | ⟨h1, h2, h3⟩ | ⟨h1, h2, h3⟩ | ⟨h1, h2, h3⟩
          · exact Or.inl h
          · exact Or.inr (Or.inl ⟨h1, h2, HN2.1 h3⟩)
          · exact Or.inr (Or.inr (Or.inl ⟨h1, h2, HN2.2 h3⟩))
          · by_cases h4 : n = 4
            · exact Or.inr (Or.inr (Or.inr ⟨h1, h2, by rw [h4]; rfl, decide_eq_false (by omega)⟩))
            · exact Or.inr (Or.inr (Or.inl ⟨h1, h2, HN2.2 h4⟩))
        clear HT HN2
        rcases HL3 with ⟨l1, HLP⟩ | ⟨l1, l2, HLP⟩ | ⟨l1, l2, HLP⟩
        · rcases HT2 with ⟨d1, d2⟩ | ⟨d1, d2, n2⟩ | ⟨d1, d2, n4⟩ | ⟨d1, d2, n4, q4⟩ <;> (gi_wp2_with (first
              | ((try refine ⟨trivial, ?_⟩); gi_at_call 32; refine (CallsIn.inRound l' (callsIn_wide.2 (unhide HCC))).mono ?_; clear HCC; rintro e w1 ⟨g, c, rfl, -, HB⟩; have k0 := (HI.out.on HB.out).b4.cell (i := 0) (by omega); simp only [row3] at k0)))
          all_goals exact HI.out.round (HI.out.on HB.out) ((unhide HSN).trans (unhide HLP)) (unhide HLN _ (unhide HLP))
        · rcases HT2 with ⟨d1, d2⟩ | ⟨d1, d2, n2⟩ | ⟨d1, d2, n4⟩ | ⟨d1, d2, n4, q4⟩ <;> (gi_wp2_with (first
              | ((try refine ⟨trivial, ?_⟩); gi_at_call 32; refine (CallsIn.inRound l' (callsIn_wide.2 (unhide HCC))).mono ?_; clear HCC; rintro e w1 ⟨g, c, rfl, -, HB⟩; have k0 := (HI.out.on HB.out).b4.cell (i := 0) (by omega); simp only [row3] at k0)))
          all_goals exact HI.out.round (HI.out.on HB.out) ((unhide HSN).trans (unhide HLP)) (unhide HLN _ (unhide HLP))
        · rcases HT2 with ⟨d1, d2⟩ | ⟨d1, d2, n2⟩ | ⟨d1, d2, n4⟩ | ⟨d1, d2, n4, q4⟩ <;> (gi_wp2_with (first
              | ((try refine ⟨trivial, ?_⟩); gi_at_call 32; refine (CallsIn.inRound l' (callsIn_wide.2 (unhide HCC))).mono ?_; clear HCC; rintro e w1 ⟨g, c, rfl, -, HB⟩; have k0 := (HI.out.on HB.out).b4.cell (i := 0) (by omega); simp only [row3] at k0; have b2 := (HI.out.on HB.out).b2; have b3 := (HI.out.on HB.out).b3; have c0 := b2.cell (i := 0) (by omega); have c1 := b2.cell (i := 1) (by omega); have c2 := b2.cell (i := 2) (by omega); have f0 := b2.frozen 0; have f1 := b2.frozen 1; have f2 := b2.frozen 2; have c3 := b3.cell; have f3 := b3.frozen; simp only [row3] at c0 c1 c2; have B2 := hide b2; have B3 := hide b3; clear b2 b3)))
          all_goals (
            have hst := sto4 (HI.out.on HB.out).bel (unhide B2) (unhide B3) (.slice none 0 0) (.int .i64 0) (.int .i64 0) (.bool false) rfl
            exact ⟨(ko_below HB.out).trans hst.1, rfl, (unhide HSN).trans (unhide HLP), hst.2.1, hst.2.2.1, hst.2.2.2.1⟩)
  case done =>
    rintro E ys W hD hS ⟨p, v, hf, h40, hI⟩ hK
    obtain ⟨a, cap, rfl⟩ := hI.form
    have k0 := hI.b4.cell (i := 0) (by omega); have k1 := hI.b4.cell (i := 1) (by omega); have k2 := hI.b4.cell (i := 2) (by omega)
    have c0 := hI.b2.cell (i := 0) (by omega); have c1 := hI.b2.cell (i := 1) (by omega); have c2 := hI.b2.cell (i := 2) (by omega); have f0 := hI.b2.frozen 0; have f1 := hI.b2.frozen 1; have f2 := hI.b2.frozen 2
    have c3 := hI.b3.cell; have f3 := hI.b3.frozen
    simp only [row3] at k0 k1 k2 c0 c1 c2
    have HI := hide hI
    clear hI
    gi_wp2_with fail
    have hst := sto4 HI.out.bel HI.out.b2 HI.out.b3 (.slice a p.parts.length cap) (.int .i64 p.op) (.int .i64 p.fi) (.bool true) rfl
    generalize (((W.setCell ⟨w.heap.size, 0, none⟩ (.slice a p.parts.length cap)).setCell ⟨w.heap.size, 1, none⟩ (.int .i64 p.op)).setCell ⟨w.heap.size, 2, none⟩ (.int .i64 p.fi)).setCell ⟨w.heap.size + 1, 0, none⟩ (.bool true) = W' at hst ⊢
    obtain ⟨hko, hbl, hr2, hr3, hoth, hsz⟩ := hst
    have hK' := hko.same E _ hK rfl
    refine ⟨by simp, .inl ⟨_, _, rfl, run_takeDeferred hK', ?_⟩⟩
    obtain ⟨e0, e1, e2, e3⟩ := res4 (w := w) (E := E) (by omega) hr2 hr3
    refine ⟨.tuple #[.agg #[.slice a p.parts.length cap, .int .i64 p.op, .int .i64 p.fi], .bool true], ?_, ?_⟩
    · simp [results, Tryd.results22, go_sem, e0, e1, e2, e3]
    · refine ⟨hbl.trans (belowK_b (w := w) (Nat.le_refl _) _ E _ _ (by omega) hK' rfl rfl), Or.inl ⟨p, _, by rw [← hS]; exact hf, h40, rfl, ?_⟩⟩
      obtain ⟨F, g1, g2, g3, -⟩ := FlatOwn.of_row (rs := p.parts.map Pt.cs) (n := 4) (by rw [List.length_map]; exact HI.out.own) (fun r hr => by obtain ⟨f, -, rfl⟩ := List.mem_map.1 hr; rfl)
      refine ⟨F, FlatOwn.carry g1 (fun b hb => ?_), fun b hb => ?_⟩
      · have hbE : b ≠ E := fun e => by
          subst e
          have := own_cells HI.out.own (g2 b hb) hK
          cases this
        rw [World.putObj_heap_other hbE, hoth b (by have := (g3 b hb).1; omega) (by have := (g3 b hb).1; omega)]
      · have := g3 b hb
        simp only [World.putObj, Array.size_setIfInBounds]
        omega
  case stop =>
    rintro E c pre W hD ⟨r, hr⟩ ⟨rfl, hf, hB, h2, h3⟩ hK
    gi_wp2_with fail
    refine ⟨by simp, .inl ⟨_, _, rfl, run_takeDeferred hK, ?_⟩⟩
    obtain ⟨e0, e1, e2, e3⟩ := res4 (w := w) (E := E) (by omega) h2 h3
    refine ⟨.tuple #[.agg #[.slice none 0 0, .int .i64 0, .int .i64 0], .bool false], ?_, ?_⟩
    · simp [results, Tryd.results22, go_sem, e0, e1, e2, e3]
    · exact ⟨hB.trans (belowK_b (w := w) (Nat.le_refl _) _ E _ _ (by omega) hK rfl rfl), Or.inr ⟨by rw [← hr]; exact foldP_none _ _ _ hf, rfl⟩⟩
end Go.Proofs.YtcnkkegpckibbaaDoor
