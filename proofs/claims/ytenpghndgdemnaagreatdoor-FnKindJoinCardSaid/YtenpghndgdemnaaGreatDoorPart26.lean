/- What comes of a pair of schemas that is joined; the table of the program's joins, as newJoins lays it. No conditions. -/
import Derived.Test.YtenpghndgdemnaaGreatDoorPart20
import Derived.Test.YtenpghndgdemnaaGreatDoorPart23
import Derived.Test.YtenpghndgdemnaaGreatDoorPart01
import Derived.Test.YtenpghndgdemnaaGreatDoorPart16
import Derived.Test.YtenpghndgdemnaaGreatDoorPart25
import Derived.Handy
import Derived.Laws.EntriesVeiled
namespace Go.Proofs.YtenpghndgdemnaaGreatDoor
open Go Go.RowKit

/-- A misfit. -/
def MisV (er : Value) : Prop := ∃ (x y : Int) (p : ByteArray), er = .iface 91 (.agg #[.int .i64 x, .int .i64 y, .string p])
/-- What two schemas are joined to, in memory from m on; or a misfit. -/
def JV (o : Option Kd) (m : Nat) (W : World) (d : C3) (er : Value) : Prop :=
  (∃ x F, o = some x ∧ er = .nilIface ∧ OwnD W x d F ∧ F.Nodup ∧ ∀ b, b ∈ F → m ≤ b ∧ b < W.heap.size) ∨ (o = none ∧ MisV er)
theorem JV.low {o : Option Kd} {k m : Nat} {W : World} {d : C3} {er : Value} (h : JV o m W d er) (hm : k ≤ m) : JV o k W d er := by
  rcases h with ⟨x, F, h1, h2, h3, h4, h5⟩ | h
  · exact Or.inl ⟨x, F, h1, h2, h3, h4, fun b hb => ⟨Nat.le_trans hm (h5 b hb).1, (h5 b hb).2⟩⟩
  · exact Or.inr h
theorem JV.ck {o : Option Kd} {m : Nat} {V0 V1 W : World} {d : C3} {er : Value} (h : JV o V0.heap.size V1 d er) (hck : CKj V0 V1 W) (hm : m ≤ V0.heap.size) : JV o m W d er := by
  rcases h with ⟨x, F, h1, h2, h3, h4, h5⟩ | h
  · exact Or.inl ⟨x, F, h1, h2, OwnD.carry _ _ _ (fun b hb => hck.block b (h5 b hb).1 (h5 b hb).2) h3, h4, fun b hb => ⟨Nat.le_trans hm (h5 b hb).1, Nat.lt_of_lt_of_le (h5 b hb).2 hck.size⟩⟩
  · exact Or.inr h
/-- In a box of its own, as the one kid of a schema. -/
theorem JV.wrap {o : Option Kd} {m : Nat} {W : World} {d : C3} {er : Value} (s : Int) (hs : s = 4 ∨ s = 6) (t : TypeId) (h : JV o m W d er) (hm : m ≤ W.heap.size) : JV (o.map fun x => .mk s [] [x]) m (W.alloc (.cells #[d.c0, d.c1, d.c2] t)) ⟨.int .i64 s, .slice none 0 0, .slice (some ⟨W.heap.size, 0, none⟩) 1 1⟩ er := by
  rcases h with ⟨x, F, rfl, h2, h3, h4, h5⟩ | ⟨rfl, h⟩
  · refine Or.inl ⟨_, W.heap.size :: F, rfl, h2, OwnD.single (by rcases hs with rfl | rfl <;> exact ⟨by decide, by decide⟩) h3 (fun b hb => (h5 b hb).2), List.nodup_cons.2 ⟨fun hb => by have := (h5 _ hb).2; omega, h4⟩, fun b hb => ?_⟩
    rw [World.size_alloc]
    rcases List.mem_cons.1 hb with rfl | hb
    · omega
    · have := h5 b hb; omega
  · exact Or.inr ⟨rfl, h⟩
/-- What a pair that is asked for gives. -/
def JE (o : Option Kd) (w : World) (e : Ending) (w' : World) : Prop := ∃ (d : C3) (er : Value), e = .returned (.tuple #[.agg #[d.c0, d.c1, d.c2], er]) ∧ Any3 d ∧ JV o w.heap.size w' d er ∧ Below w.heap.size w w'
/-- A method of the joins, bound to them; a work asked with both schemas turned round. -/
def jv (T : Nat) (f : Nat) : Value := .func (.func f) #[.pointer (some ⟨T, 0, none⟩)] #[]
def jc (b : Nat) : Value := .func (.func 71) #[] #[.pointer (some ⟨b, 0, none⟩)]
def jRow (T : Nat) : List Value := [Value.nilFunc, jc (T + 1), jc (T + 3), jc (T + 5), jc (T + 7), jc (T + 9), jc (T + 11), jv T 48, jv T 51, Value.nilFunc, Value.nilFunc, Value.nilFunc, Value.nilFunc, jv T 49, jv T 48, Value.nilFunc, jv T 51, Value.nilFunc, Value.nilFunc, Value.nilFunc, jv T 49, jv T 48, Value.nilFunc, Value.nilFunc, jv T 51, Value.nilFunc, Value.nilFunc, jv T 49, jv T 48, Value.nilFunc, Value.nilFunc, Value.nilFunc, jv T 52, Value.nilFunc, jv T 49, jv T 48, Value.nilFunc, Value.nilFunc, Value.nilFunc, Value.nilFunc, jv T 53, jv T 49, jv T 50, jc (T + 2), jc (T + 4), jc (T + 6), jc (T + 8), jc (T + 10), jv T 54]
def jWork (j : Nat) : Nat := if j = 10 then 50 else if j % 2 = 0 then 48 else 49
/-- The table lies in a block, the boxes of the works that are turned round behind it. -/
structure JT (W : World) (T : Nat) : Prop where
  row : W.rowIs T 55 49 (fun i => (jRow T).getD i .nilFunc)
  box : ∀ j, j < 11 → W.rowIs (T + 1 + j) 50 1 (fun _ => jv T (jWork j))
theorem JT.on {W W' : World} {T : Nat} (h : JT W T) (hb : Below W.heap.size W W') : JT W' T := ⟨h.row.of_block (hb.block _ h.row.lt), fun j hj => (h.box j hj).of_block (hb.block _ (h.box j hj).lt)⟩
def jEnt (T sa sb : Nat) : Value := (jRow T).getD (sa * 7 + sb) .nilFunc
theorem JT.cell' {W : World} {T : Nat} (h : JT W T) {sa sb : Nat} (ha : sa ≤ 6) (hb : sb ≤ 6) : W.cell? ⟨T, sa * 7 + sb, none⟩ = some (jEnt T sa sb) := World.rowIs.cell h.row (i := sa * 7 + sb) (by omega)
/-- One place of a row is set. -/
def updV (f : Nat → Value) (i : Nat) (v : Value) : Nat → Value := fun j => if j = i then v else f j
theorem setUpd {w : World} {b n : Nat} {t : TypeId} {f : Nat → Value} (h : w.rowIs b t n f) (i : Nat) (v : Value) : (w.setCell ⟨b, i, none⟩ v).rowIs b t n (updV f i v) := (h.set i v).congr fun j hj => by
  unfold updV
  by_cases e : j = i
  · simp [e]
  · simp [e]
theorem ldWorkJ (w : World) (ad : Addr) (v : Value) (h : w.cell? ad = some v) : (Instr.loadAt 50 (.pointer (some ad))).run Tryz.prog w = .ok v w := by
  simp [Instr.loadAt, Instr.sureAddr, loadVar, Tryz.isAgg50, h, go_sem]
theorem stWorkJ (w : World) (ad : Addr) (f : Nat) (u : Value) (bs cs : Array Value) (h : w.cell? ad = some u) (hf : w.frozen? ad = false) : (Instr.storeAt 50 (.pointer (some ad)) (.func (.func f) bs cs)).run Tryz.prog w = .ok () (w.setCell ad (.func (.func f) bs cs)) := by
  simp [Instr.storeAt, Instr.sureAddr, storeVar, storeCells, Value.cells, go_sem, h, hf]
theorem ixTabA {o : Oper} {a : Act} {X I : Operand} {T p i : Nat} (ho : o.op = .indexAddr 53 X I) (hx : a.eval X = .pointer (some ⟨T, p, none⟩)) (hi : a.eval I = .int .i64 (i : Nat)) (h : i < 7) (w : World) : (execOp a.eval o).run Tryz.prog w = .ok (.value (.pointer (some ⟨T, p + i * 7, none⟩))) w := by
  have h1 : (0 : Int) ≤ (i : Int) ∧ (i : Int) < 7 := ⟨by omega, by omega⟩
  have h2 : (Instr.indexAt 53 (.pointer (some ⟨T, p, none⟩)) (.int .i64 (i : Nat))).run Tryz.prog w = .ok (.pointer (some ⟨T, p + i * 7, none⟩)) w := by
    have e : (⟨T, p + i * 7, none⟩ : Addr) = (⟨T, p, none⟩ : Addr).add (i * 7) := by simp [Addr.add]
    rw [e]
    simp [go_sem, h1]
  unfold execOp
  simp only [ho, hx, hi, Sem.run_bind, Sem.run_pure, Result.andThen_ok, h2]
theorem ixTabB {o : Oper} {a : Act} {X I : Operand} {T p i : Nat} (ho : o.op = .indexAddr 51 X I) (hx : a.eval X = .pointer (some ⟨T, p, none⟩)) (hi : a.eval I = .int .i64 (i : Nat)) (h : i < 7) (w : World) : (execOp a.eval o).run Tryz.prog w = .ok (.value (.pointer (some ⟨T, p + i, none⟩))) w := by
  have h1 : (0 : Int) ≤ (i : Int) ∧ (i : Int) < 7 := ⟨by omega, by omega⟩
  have h2 : (Instr.indexAt 51 (.pointer (some ⟨T, p, none⟩)) (.int .i64 (i : Nat))).run Tryz.prog w = .ok (.pointer (some ⟨T, p + i, none⟩)) w := by
    have e : (⟨T, p + i, none⟩ : Addr) = (⟨T, p, none⟩ : Addr).add i := by simp [Addr.add]
    rw [e]
    simp [go_sem, h1]
  unfold execOp
  simp only [ho, hx, hi, Sem.run_bind, Sem.run_pure, Result.andThen_ok, h2]
noncomputable def ieOps : Array Oper := fops Tryz.f47 1
theorem ie_neat : Region.noSelect ieOps = true ∧ neat ieOps = true := ⟨by kernel_rfl, by kernel_rfl⟩
set_option maxRecDepth 100000 in
set_option maxHeartbeats 3200000 in
theorem ie1 (T g one other f : Nat) (h1 : one < 7) (h2 : other < 7) (r : Nat → Value) (W0 : World) {l : List Value} (Q : Exit → Act → World → Prop) (hQ : ∀ c a d v w, Q (.panic c) (Act.put a d v) w → Q (.panic c) a w) (hT : W0.drew.rowIs T 55 49 r) (hg : W0.drew.rowIs g 50 1 (fun _ => jv T f)) (hne : g ≠ T)
    (hl : lookL [(0, .pointer (some ⟨T, 0, none⟩)), (1, .int .i64 (one : Nat)), (2, .int .i64 (other : Nat)), (7, .pointer (some ⟨g, 0, none⟩))] l = (24, ([(0, .pointer (some ⟨T, 0, none⟩)), (1, .int .i64 (one : Nat)), (2, .int .i64 (other : Nat)), (7, .pointer (some ⟨g, 0, none⟩))] : List (Nat × Value)).map (·.2)))
    (hend : ∀ (u : Nat → Value), Q .normal ⟨(frL u 24 [(0, .pointer (some ⟨T, 0, none⟩)), (1, .int .i64 (one : Nat)), (2, .int .i64 (other : Nat)), (7, .pointer (some ⟨g, 0, none⟩))]).toArray, []⟩ (W0.drew.setCell ⟨T, one * 7 + other, none⟩ (jv T f))) : (Code.region 1 ieOps true).wp Tryz.prog Q ⟨l.toArray, []⟩ W0 := by
  obtain ⟨v0, rfl⟩ := look_fr hl
  have hq : NtQ ieOps Q := ⟨ie_neat, hQ⟩
  refine T_start (S := fun W => W.heap[g]? = W0.drew.heap[g]?) (by kernel_rfl) rfl ?_
  clear hl hQ
  generalize W0.drew = V at hT hg hend ⊢
  refine T_z hq [0, 1, 2, 4, 5] (by kernel_rfl) ?_
  refine T_a hq [3] (fun w' h => .cons (ldWorkJ _ ⟨g, 0, none⟩ (jv T f) ((hg.of_block h).cell (i := 0) (by omega))) Lds.nil) (by kernel_rfl) ?_
  refine T_yld hq 6 (some 14) (.pointer (some ⟨T, 0 + one * 7, none⟩)) (by kernel_rfl) (by kernel_rfl) (fun w _ => ixTabA (X := .tmp 13) (I := .tmp 9) (by kernel_rfl) (by kernel_rfl) (by kernel_rfl) h1 w) ?_
  refine T_yld hq 7 (some 15) (.pointer (some ⟨T, 0 + one * 7 + other, none⟩)) (by kernel_rfl) (by kernel_rfl) (fun w _ => ixTabB (X := .tmp 14) (I := .tmp 10) (by kernel_rfl) (by kernel_rfl) (by kernel_rfl) h2 w) ?_
  refine T_one 8 (by kernel_rfl) fun _ => ?_
  have hc := hT.cell (i := one * 7 + other) (by omega)
  refine O_store none 50 (.tmp 15) (.tmp 11) ⟨T, 0 + one * 7 + other, none⟩ (jv T f) (V.setCell ⟨T, one * 7 + other, none⟩ (jv T f)) (by kernel_rfl) (by kernel_rfl) (by kernel_rfl) (by rw [Nat.zero_add]; exact stWorkJ V _ f _ _ _ hc (hT.frozen _)) ((Below.heap_setCell _ _ _ _ (fun e => hne (by simpa using e)))) ?_
  exact T_end 24 [(0, .pointer (some ⟨T, 0, none⟩)), (1, .int .i64 (one : Nat)), (2, .int .i64 (other : Nat)), (7, .pointer (some ⟨g, 0, none⟩))] (by kernel_rfl) (by kernel_rfl) fun _ u => hend u
set_option maxRecDepth 100000 in
set_option maxHeartbeats 3200000 in
theorem inEither_any (T one other f : Nat) (h1 : one < 7) (h2 : other < 7) (r : Nat → Value) (w : World) (hT : w.rowIs T 55 49 r) :
    Calls Tryz.prog 47 #[.pointer (some ⟨T, 0, none⟩), .int .i64 (one : Nat), .int .i64 (other : Nat), jv T f] w fun e w' => e = .returned (.tuple #[]) ∧ w'.rowIs T 55 49 (updV (updV r (one * 7 + other) (jv T f)) (other * 7 + one) (jc w.heap.size)) ∧ w'.rowIs w.heap.size 50 1 (fun _ => jv T f) ∧ w'.heap.size = w.heap.size + 1 ∧ But T w w' := by
  have hlt := hT.lt
  have hbx := row1_alloc w (jv T f) 50
  have hT1 := hT.alloc (.cells #[jv T f] 50)
  have hbu : But T w (w.alloc (.cells #[jv T f] 50)) := But.of_below ((Below.refl _ _).alloc (Nat.le_refl _) _)
  have hsz := World.size_alloc w (.cells #[jv T f] 50)
  unfold jv at hbx hT1 hbu hsz ⊢
  go_enter Tryz.func47, Tryz.ntmps47
  go_upto_region 1 with fail
  generalize w.alloc (.cells #[Value.func (Fn.func f) #[Value.pointer (some ⟨T, 0, none⟩)] #[]] 50) = W0 at hbx hT1 hbu hsz ⊢
  refine wp_swap (c' := Code.region 1 ieOps true) (by kernel_rfl) ?_
  refine wp_region_noPanic ?_
  refine ie1 T w.heap.size one other f h1 h2 r W0 _ (fun _ _ _ _ _ h => h) (hT1.of_block rfl) (hbx.of_block rfl) (by omega) (by kernel_rfl) ?_
  intro u
  refine NoPanic.normal ?_
  simp only [frL_eq, frG, List.lookup, Nat.reduceBEq, Nat.reduceAdd, Option.getD_some, Option.getD_none]
  have hT2 := setUpd (hT1.of_block (w' := W0.drew) rfl) (one * 7 + other) (jv T f)
  have hbu2 : But T W0 (W0.drew.setCell ⟨T, one * 7 + other, none⟩ (jv T f)) := (But.of_below (Below.refl _ W0).drew).trans (But.set _ _ _)
  have hbx2 := hbx.of_block (hbu2.at hbx.lt (by omega))
  have hbw := hbu.trans hbu2
  have hs2 : (W0.drew.setCell ⟨T, one * 7 + other, none⟩ (jv T f)).heap.size = w.heap.size + 1 := by rw [size_setCell]; exact hsz
  generalize W0.drew.setCell ⟨T, one * 7 + other, none⟩ (jv T f) = X at hT2 hbx2 hbw hs2 ⊢
  have HE : Hid (∀ Y, Y = X.setCell ⟨T, other * 7 + one, none⟩ (jc w.heap.size) → Y.rowIs T 55 49 (updV (updV r (one * 7 + other) (jv T f)) (other * 7 + one) (jc w.heap.size)) ∧ Y.rowIs w.heap.size 50 1 (fun _ => jv T f) ∧ Y.heap.size = w.heap.size + 1 ∧ But T w Y) := fun Y hY => by
    subst hY
    exact ⟨setUpd hT2 _ _, hbx2.of_block ((But.set X _ _).at hbx2.lt (by omega)), by rw [size_setCell]; exact hs2, hbw.trans (But.set X _ _)⟩
  have c2 := hT2.cell (i := other * 7 + one) (by omega)
  have f2 := hT2.frozen (other * 7 + one)
  generalize updV r (one * 7 + other) (jv T f) (other * 7 + one) = u0 at c2
  have g1 : (0 : Int) ≤ (other : Int) := by omega
  have g2 : (other : Int) < 7 := by omega
  have g3 : (0 : Int) ≤ (one : Int) := by omega
  have g4 : (one : Int) < 7 := by omega
  clear hbx hT1 hbu hsz hT2 hbx2 hbw hs2 hbu2 hT hlt h1 h2
  unfold jc at HE
  go_wp2_with fail
  go_end0
  exact ⟨rfl, unhide HE _ rfl⟩
end Go.Proofs.YtenpghndgdemnaaGreatDoor

/- The program's newJoins: the table of the joins and the boxes behind it. No conditions. -/

namespace Go.Proofs.YtenpghndgdemnaaGreatDoor
open Go Go.RowKit

/-- The table while it is laid: the boxes of the first k works stand behind it. -/
structure JS (w W : World) (k : Nat) (r : Nat → Value) : Prop where
  below : Below w.heap.size w W
  size : W.heap.size = w.heap.size + 1 + k
  row : W.rowIs w.heap.size 55 49 r
  box : ∀ j, j < k → W.rowIs (w.heap.size + 1 + j) 50 1 (fun _ => jv w.heap.size (jWork j))
theorem JS.call {w W W' : World} {k one other f : Nat} {r : Nat → Value} (h : JS w W k r) (hf : jWork k = f) (h1 : W'.rowIs w.heap.size 55 49 (updV (updV r (one * 7 + other) (jv w.heap.size f)) (other * 7 + one) (jc W.heap.size))) (h2 : W'.rowIs W.heap.size 50 1 (fun _ => jv w.heap.size f)) (h3 : W'.heap.size = W.heap.size + 1) (h4 : But w.heap.size W W') :
    JS w W' (k + 1) (updV (updV r (one * 7 + other) (jv w.heap.size f)) (other * 7 + one) (jc (w.heap.size + 1 + k))) := by
  have hz := h.size
  rw [hz] at h1 h2
  refine ⟨h.below.trans ⟨h4.os, h4.tape, h4.output, h4.size, fun i hi => h4.at (by omega) (by omega)⟩, by omega, h1, fun j hj => ?_⟩
  by_cases e : j = k
  · subst e
    rw [hf]; exact h2
  · exact (h.box j (by omega)).of_block (h4.at (by omega) (by omega))
theorem JS.set {w W : World} {k : Nat} {r : Nat → Value} (h : JS w W k r) (i : Nat) (v : Value) : JS w (W.setCell ⟨w.heap.size, i, none⟩ v) k (updV r i v) := by
  have hz := h.size
  exact ⟨h.below.setCell (Nat.le_refl _) _, by rw [size_setCell]; exact hz, setUpd h.row i v, fun j hj => (h.box j hj).of_block ((But.set W i v).at (by omega) (by omega))⟩
theorem JS.cells {w W : World} {k : Nat} {r : Nat → Value} (h : JS w W k r) (i : Nat) (hi : i < 49) : W.cell? ⟨w.heap.size, i, none⟩ = some (r i) ∧ W.frozen? ⟨w.heap.size, i, none⟩ = false := ⟨h.row.cell hi, h.row.frozen i⟩
/-- Two rows that are the same at all of the places. -/
theorem JS.done {w W : World} {r : Nat → Value} (h : JS w W 11 r) (hr : ∀ i, i < 49 → r i = (jRow w.heap.size).getD i .nilFunc) : JT W w.heap.size := ⟨h.row.congr fun i hi => hr i hi, h.box⟩
def rw0 : Nat → Value := fun _ => .nilFunc
def jUp (T : Nat) (r : Nat → Value) (one other f b : Nat) : Nat → Value := updV (updV r (one * 7 + other) (jv T f)) (other * 7 + one) (jc b)
def jR0 (T : Nat) : Nat → Value := jUp T rw0 1 0 48 (T + 1 + 0)
def jR1 (T : Nat) : Nat → Value := jUp T (jR0 T) 1 6 49 (T + 1 + 1)
def jR2 (T : Nat) : Nat → Value := jUp T (jR1 T) 2 0 48 (T + 1 + 2)
def jR3 (T : Nat) : Nat → Value := jUp T (jR2 T) 2 6 49 (T + 1 + 3)
def jR4 (T : Nat) : Nat → Value := jUp T (jR3 T) 3 0 48 (T + 1 + 4)
def jR5 (T : Nat) : Nat → Value := jUp T (jR4 T) 3 6 49 (T + 1 + 5)
def jR6 (T : Nat) : Nat → Value := jUp T (jR5 T) 4 0 48 (T + 1 + 6)
def jR7 (T : Nat) : Nat → Value := jUp T (jR6 T) 4 6 49 (T + 1 + 7)
def jR8 (T : Nat) : Nat → Value := jUp T (jR7 T) 5 0 48 (T + 1 + 8)
def jR9 (T : Nat) : Nat → Value := jUp T (jR8 T) 5 6 49 (T + 1 + 9)
def jR10 (T : Nat) : Nat → Value := jUp T (jR9 T) 6 0 50 (T + 1 + 10)
def jR11 (T : Nat) : Nat → Value := updV (jR10 T) 8 (jv T 51)
def jR12 (T : Nat) : Nat → Value := updV (jR11 T) 16 (jv T 51)
def jR13 (T : Nat) : Nat → Value := updV (jR12 T) 24 (jv T 51)
def jR14 (T : Nat) : Nat → Value := updV (jR13 T) 32 (jv T 52)
def jR15 (T : Nat) : Nat → Value := updV (jR14 T) 40 (jv T 53)
def jR16 (T : Nat) : Nat → Value := updV (jR15 T) 48 (jv T 54)
theorem jR_done (T : Nat) : ∀ i, i < 49 → jR16 T i = (jRow T).getD i .nilFunc := by
  intro i hi
  have key : ∀ i : Fin 49, jR16 T i = (jRow T).getD i .nilFunc := by
    intro i
    match i with
    | ⟨0, _⟩ => rfl
    | ⟨1, _⟩ => rfl
    | ⟨2, _⟩ => rfl
    | ⟨3, _⟩ => rfl
    | ⟨4, _⟩ => rfl
    | ⟨5, _⟩ => rfl
    | ⟨6, _⟩ => rfl
    | ⟨7, _⟩ => rfl
    | ⟨8, _⟩ => rfl
    | ⟨9, _⟩ => rfl
    | ⟨10, _⟩ => rfl
    | ⟨11, _⟩ => rfl
    | ⟨12, _⟩ => rfl
    | ⟨13, _⟩ => rfl
    | ⟨14, _⟩ => rfl
    | ⟨15, _⟩ => rfl
    | ⟨16, _⟩ => rfl
    | ⟨17, _⟩ => rfl
    | ⟨18, _⟩ => rfl
    | ⟨19, _⟩ => rfl
    | ⟨20, _⟩ => rfl
    | ⟨21, _⟩ => rfl
    | ⟨22, _⟩ => rfl
    | ⟨23, _⟩ => rfl
    | ⟨24, _⟩ => rfl
    | ⟨25, _⟩ => rfl
    | ⟨26, _⟩ => rfl
    | ⟨27, _⟩ => rfl
    | ⟨28, _⟩ => rfl
    | ⟨29, _⟩ => rfl
    | ⟨30, _⟩ => rfl
    | ⟨31, _⟩ => rfl
    | ⟨32, _⟩ => rfl
    | ⟨33, _⟩ => rfl
    | ⟨34, _⟩ => rfl
    | ⟨35, _⟩ => rfl
    | ⟨36, _⟩ => rfl
    | ⟨37, _⟩ => rfl
    | ⟨38, _⟩ => rfl
    | ⟨39, _⟩ => rfl
    | ⟨40, _⟩ => rfl
    | ⟨41, _⟩ => rfl
    | ⟨42, _⟩ => rfl
    | ⟨43, _⟩ => rfl
    | ⟨44, _⟩ => rfl
    | ⟨45, _⟩ => rfl
    | ⟨46, _⟩ => rfl
    | ⟨47, _⟩ => rfl
    | ⟨48, _⟩ => rfl
    | ⟨n + 49, h⟩ => omega
  exact key ⟨i, hi⟩
set_option maxRecDepth 100000 in
set_option maxHeartbeats 3200000 in
theorem newJoins_any (w : World) :
    Calls Tryz.prog 24 #[] w fun e w' => e = .returned (.pointer (some ⟨w.heap.size, 0, none⟩)) ∧ Below w.heap.size w w' ∧ JT w' w.heap.size := by
  have hrow := row_rep w 49 Value.nilFunc 55
  have hb := (Below.refl w.heap.size w).alloc (Nat.le_refl _) (.cells (List.replicate 49 Value.nilFunc).toArray 55)
  have hsz := World.size_alloc w (.cells (List.replicate 49 Value.nilFunc).toArray 55)
  have h0 : JS w (w.alloc (.cells (List.replicate 49 Value.nilFunc).toArray 55)) 0 rw0 := ⟨hb, hsz, hrow, fun j hj => by omega⟩
  clear hrow hb hsz
  go_enter Tryz.func24, Tryz.ntmps24
  go_wp2_with fail
  refine wp_loop_rounds 6 ?_
  rw [rounds_succ]
  go_wp2_with fail
  refine (inEither_any w.heap.size 1 0 48 (by omega) (by omega) _ _ h0.row).mono ?_
  rintro e W1 ⟨rfl, q1, q2, q3, q4⟩
  have h1 : JS w W1 1 (jR0 w.heap.size) := h0.call rfl q1 q2 q3 q4
  clear q1 q2 q3 q4 h0
  go_wp2_with fail
  refine (inEither_any w.heap.size 1 6 49 (by omega) (by omega) _ _ h1.row).mono ?_
  rintro e W2 ⟨rfl, q1, q2, q3, q4⟩
  have h2 : JS w W2 2 (jR1 w.heap.size) := h1.call rfl q1 q2 q3 q4
  clear q1 q2 q3 q4 h1
  go_wp2_with fail
  rw [rounds_succ]
  go_wp2_with fail
  refine (inEither_any w.heap.size 2 0 48 (by omega) (by omega) _ _ h2.row).mono ?_
  rintro e W3 ⟨rfl, q1, q2, q3, q4⟩
  have h3 : JS w W3 3 (jR2 w.heap.size) := h2.call rfl q1 q2 q3 q4
  clear q1 q2 q3 q4 h2
  go_wp2_with fail
  refine (inEither_any w.heap.size 2 6 49 (by omega) (by omega) _ _ h3.row).mono ?_
  rintro e W4 ⟨rfl, q1, q2, q3, q4⟩
  have h4 : JS w W4 4 (jR3 w.heap.size) := h3.call rfl q1 q2 q3 q4
  clear q1 q2 q3 q4 h3
  go_wp2_with fail
  rw [rounds_succ]
  go_wp2_with fail
  refine (inEither_any w.heap.size 3 0 48 (by omega) (by omega) _ _ h4.row).mono ?_
  rintro e W5 ⟨rfl, q1, q2, q3, q4⟩
  have h5 : JS w W5 5 (jR4 w.heap.size) := h4.call rfl q1 q2 q3 q4
  clear q1 q2 q3 q4 h4
  go_wp2_with fail
  refine (inEither_any w.heap.size 3 6 49 (by omega) (by omega) _ _ h5.row).mono ?_
  rintro e W6 ⟨rfl, q1, q2, q3, q4⟩
  have h6 : JS w W6 6 (jR5 w.heap.size) := h5.call rfl q1 q2 q3 q4
  clear q1 q2 q3 q4 h5
  go_wp2_with fail
  rw [rounds_succ]
  go_wp2_with fail
  refine (inEither_any w.heap.size 4 0 48 (by omega) (by omega) _ _ h6.row).mono ?_
  rintro e W7 ⟨rfl, q1, q2, q3, q4⟩
  have h7 : JS w W7 7 (jR6 w.heap.size) := h6.call rfl q1 q2 q3 q4
  clear q1 q2 q3 q4 h6
  go_wp2_with fail
  refine (inEither_any w.heap.size 4 6 49 (by omega) (by omega) _ _ h7.row).mono ?_
  rintro e W8 ⟨rfl, q1, q2, q3, q4⟩
  have h8 : JS w W8 8 (jR7 w.heap.size) := h7.call rfl q1 q2 q3 q4
  clear q1 q2 q3 q4 h7
  go_wp2_with fail
  rw [rounds_succ]
  go_wp2_with fail
  refine (inEither_any w.heap.size 5 0 48 (by omega) (by omega) _ _ h8.row).mono ?_
  rintro e W9 ⟨rfl, q1, q2, q3, q4⟩
  have h9 : JS w W9 9 (jR8 w.heap.size) := h8.call rfl q1 q2 q3 q4
  clear q1 q2 q3 q4 h8
  go_wp2_with fail
  refine (inEither_any w.heap.size 5 6 49 (by omega) (by omega) _ _ h9.row).mono ?_
  rintro e W10 ⟨rfl, q1, q2, q3, q4⟩
  have h10 : JS w W10 10 (jR9 w.heap.size) := h9.call rfl q1 q2 q3 q4
  clear q1 q2 q3 q4 h9
  go_wp2_with fail
  rw [rounds_succ]
  go_wp2_with fail
  refine (inEither_any w.heap.size 6 0 50 (by omega) (by omega) _ _ h10.row).mono ?_
  rintro e W11 ⟨rfl, q1, q2, q3, q4⟩
  have h11 : JS w W11 11 (jR10 w.heap.size) := h10.call rfl q1 q2 q3 q4
  clear q1 q2 q3 q4 h10
  go_wp2_with fail
  refine wp_loop_rounds 4 ?_
  obtain ⟨c0, f0⟩ := h11.cells 8 (by omega)
  have h12 := h11.set 8 (jv w.heap.size 51)
  unfold jv at h12
  rw [rounds_succ]
  go_wp2_with fail
  clear c0 f0 h11
  obtain ⟨c0, f0⟩ := h12.cells 16 (by omega)
  have h13 := h12.set 16 (jv w.heap.size 51)
  unfold jv at h13
  rw [rounds_succ]
  go_wp2_with fail
  clear c0 f0 h12
  obtain ⟨c0, f0⟩ := h13.cells 24 (by omega)
  have h14 := h13.set 24 (jv w.heap.size 51)
  unfold jv at h14
  rw [rounds_succ]
  go_wp2_with fail
  clear c0 f0 h13
  obtain ⟨c0, f0⟩ := h14.cells 32 (by omega)
  obtain ⟨c1, f1⟩ := h14.cells 40 (by omega)
  obtain ⟨c2, f2⟩ := h14.cells 48 (by omega)
  have hz := ((h14.set 32 (jv w.heap.size 52)).set 40 (jv w.heap.size 53)).set 48 (jv w.heap.size 54)
  unfold jv at hz
  rw [rounds_succ]
  go_wp2_with fail
  go_ret
  exact ⟨rfl, hz.below, hz.done (jR_done w.heap.size)⟩
end Go.Proofs.YtenpghndgdemnaaGreatDoor
