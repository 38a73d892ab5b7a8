/- The walks of the specification's l6Many, l5Bend: some text of at most 300000 bytes. No conditions. -/
import Derived.Test.YtenpghndgdemnaaGreatDoorPart04
import Derived.Test.YtenpghndgdemnaaGreatDoorPart07
import Derived.Test.YtenpghndgdemnaaGreatDoorPart03
import Derived.Test.YtenpghndgdemnaaGreatDoorRows
import Derived.OrdersHeld
import Derived.WalkKit
import Derived.Deep.MidRow
namespace Go.Proofs.YtenpghndgdemnaaGreatDoor
open Go Go.RowKit

end Go.Proofs.YtenpghndgdemnaaGreatDoor

/- The walk of the specification's l5Pair: some schema and a second one, both ok, in memory that the call made. No conditions. -/

namespace Go.Proofs.YtenpghndgdemnaaGreatDoor
open Go Go.RowKit

end Go.Proofs.YtenpghndgdemnaaGreatDoor

/- Great regions that draw their order, operation by operation, each side condition by one look of the kernel's: no program. No conditions. -/

namespace Go.Proofs.YtenpghndgdemnaaGreatDoor
open Go Go.RowKit

/-- The operations of a region of a code. -/
def rops (k : Nat) : Code → Option (Array Oper)
  | .region i ops _ => if i == k then some ops else none
  | .seq a b => match rops k a with | some o => some o | none => rops k b
  | .cond _ a b => match rops k a with | some o => some o | none => rops k b
  | .block _ b => rops k b
  | .loop b => rops k b
  | .scope b => rops k b
  | .rangeFunc _ _ a b => match rops k a with | some o => some o | none => rops k b
  | _ => none
/-- The operations of a region of a function. -/
def fops (f : Func) (k : Nat) : Array Oper := match f.body with | some c => (rops k c).getD #[] | none => #[]
theorem wp_swap {P : Program} {c c' : Code} {Q : Exit → Act → World → Prop} {a : Act} {w : World} (h : c = c') (hw : c'.wp P Q a w) : c.wp P Q a w := h ▸ hw

section
variable {P : Program} {ops : Array Oper} {Q : Exit → Act → World → Prop} {S : World → Prop}
def opI (ops : Array Oper) (i : Nat) : Oper := (ops[i]?).getD default
theorem opI_get {i : Nat} (h : i < ops.size) : ops[i]? = some (opI ops i) := by
  unfold opI
  rw [Array.getElem?_eq_getElem h]
  rfl
/-- Each operation looks only at what those yield for which it waits, and no two yield into one slot. -/
def neat (ops : Array Oper) : Bool :=
  (ops.toList.all fun o => (o.looksAt ops).all fun d => ((ops.toList.map (·.dst)).zipIdx).all fun p => p.1 != some d || o.after.any fun e => Region.binds .any e && e.on == p.2) &&
  (((ops.toList.map (·.dst)).zipIdx).all fun p => p.1.isNone || ((ops.toList.map (·.dst)).zipIdx).all fun q => p.2 == q.2 || p.1 != q.1)
theorem mem_zip {i : Nat} {o : Oper} (h : ops[i]? = some o) : (o.dst, i) ∈ (ops.toList.map (·.dst)).zipIdx := by
  rw [List.mem_zipIdx_iff_getElem?]
  simp [h]
theorem neat_looks (hn : neat ops = true) {i j : Nat} {oi oj : Oper} (hi : ops[i]? = some oi) (hj : ops[j]? = some oj) {d : Tmp} (hd : oi.dst = some d) (hl : d ∈ oj.looksAt ops) : ∃ e ∈ oj.after, Region.binds .any e = true ∧ e.on = i := by
  unfold neat at hn
  simp only [Bool.and_eq_true, List.all_eq_true] at hn
  have h1 := hn.1 oj (by simpa using Array.mem_of_getElem? hj) d hl _ (mem_zip hi)
  simp only [hd, bne_self_eq_false, Bool.false_or, Array.any_eq_true', Bool.and_eq_true, beq_iff_eq] at h1
  obtain ⟨e, he, h2, h3⟩ := h1
  exact ⟨e, he, h2, h3⟩
theorem neat_dst (hn : neat ops = true) {i j : Nat} {oi oj : Oper} (hi : ops[i]? = some oi) (hj : ops[j]? = some oj) (hne : j ≠ i) {d : Tmp} (hd : oi.dst = some d) : oj.dst ≠ some d := by
  unfold neat at hn
  simp only [Bool.and_eq_true, List.all_eq_true] at hn
  have h1 := hn.2 _ (mem_zip hi)
  simp only [hd, Option.isNone_some, Bool.false_or, List.all_eq_true] at h1
  have h2 := h1 _ (mem_zip hj)
  intro e
  simp [e] at h2
  exact hne h2.symm
theorem neat_apart (hn : neat ops = true) {listed : Array Bool} {i : Nat} {oi : Oper} (hi : ops[i]? = some oi) (hr : ∀ e ∈ oi.after, Region.binds .any e = true → listed.getD e.on false = true) (j : Nat) (oj : Oper) (hj : ops[j]? = some oj) (hne : j ≠ i) (hun : listed.getD j true = false) (hno : ∀ e ∈ oj.after, Region.binds .any e = true → e.on ≠ i) : oi.apart ops oj = true := by
  unfold Oper.apart
  rw [Bool.and_eq_true]
  constructor
  · cases hd : oi.dst with
    | none => rfl
    | some d =>
      have h1 : d ∉ oj.looksAt ops := fun hl => by
        obtain ⟨e, he, hb, ho⟩ := neat_looks hn hi hj hd hl
        exact hno e he hb ho
      have h2 := neat_dst hn hi hj hne hd
      simp [h1, h2]
  · cases hd : oj.dst with
    | none => rfl
    | some d =>
      have h1 : d ∉ oi.looksAt ops := fun hl => by
        obtain ⟨e, he, hb, ho⟩ := neat_looks hn hj hi hd hl
        have h2 := hr e he hb
        rw [ho] at h2
        rw [Array.getD_eq_getD_getElem?] at hun h2
        cases hx : listed[j]? with
        | none => rw [hx] at h2; simp at h2
        | some b => rw [hx] at h2 hun; simp at h2 hun; rw [h2] at hun; cases hun
      simp [h1]
/-- Number i may come up now, and yields into slot d. -/
def tkB (ops : Array Oper) (listed : Array Bool) (i : Nat) (d : Option Tmp) : Bool :=
  match ops[i]? with
  | none => false
  | some o => decide (o.dst = d) && o.guard.isNone && !listed.getD i true && o.after.all (fun e => !Region.binds .any e || listed.getD e.on false)
theorem wanted_none {o : Oper} (f : Nat → Option Bool) (h : o.guard.isNone = true) : Region.wanted o f = true := by
  have : o.guard = none := by simpa using h
  simp [Region.wanted, this]
theorem take_any {fuel : Nat} {listed : Array Bool} {a : Act} {w : World} (i : Nat) (d : Option Tmp) (v : Value) (hs : Region.noSelect ops = true ∧ neat ops = true) (hQ : ∀ c a d v w, Q (.panic c) (Act.put a d v) w → Q (.panic c) a w) (hb : tkB ops listed i d = true)
    (hy : ∀ w, S w → (execOp a.eval (opI ops i)).run P w = .ok (.value v) w) (hS : S w) (h : wpAnyH P .any ops Q S fuel (listed.setIfInBounds i true) (a.put d v) w) : wpAnyH P .any ops Q S (fuel + 1) listed a w := by
  unfold tkB at hb
  cases hi : ops[i]? with
  | none => rw [hi] at hb; cases hb
  | some o =>
    rw [hi] at hb
    simp only [Bool.and_eq_true, decide_eq_true_eq] at hb
    obtain ⟨⟨⟨h2, h3⟩, h4⟩, h5⟩ := hb
    subst h2
    have ho : opI ops i = o := by unfold opI; rw [hi]; rfl
    rw [ho] at hy
    have h6 : ∀ e ∈ o.after, Region.binds .any e = true → listed.getD e.on false = true := fun e he hb => by
      have := Array.all_eq_true_iff_forall_mem.1 h5 e he
      simpa [hb] using this
    have hlt : i < ops.size := (Array.getElem?_eq_some_iff.1 hi).1
    refine wpAnyH_first hi (Region.noSelect_spec hs.1) (fun c a w => hQ c a _ _ w) fuel listed a w (fun j oj hj hne hun hno => neat_apart hs.2 hi h6 j oj hj hne hun hno) ?_ (Or.inl ⟨wanted_none _ h3, hy⟩) hS h
    unfold Region.ready
    rw [List.mem_filter]
    refine ⟨List.mem_range.2 hlt, ?_⟩
    rw [hi, h4]
    simpa using h5
/-- Number i may come up now, guarded or not, and yields into slot d. -/
def tkG (ops : Array Oper) (listed : Array Bool) (i : Nat) (d : Option Tmp) : Bool :=
  match ops[i]? with
  | none => false
  | some o => decide (o.dst = d) && !listed.getD i true && o.after.all (fun e => !Region.binds .any e || listed.getD e.on false)
theorem take_yld {fuel : Nat} {listed : Array Bool} {a : Act} {w : World} (i : Nat) (d : Option Tmp) (v : Value) (hs : Region.noSelect ops = true ∧ neat ops = true) (hQ : ∀ c a d v w, Q (.panic c) (Act.put a d v) w → Q (.panic c) a w) (hb : tkG ops listed i d = true)
    (hy : YieldsIf P ops S (opI ops i) v a) (hS : S w) (h : wpAnyH P .any ops Q S fuel (listed.setIfInBounds i true) (a.put d v) w) : wpAnyH P .any ops Q S (fuel + 1) listed a w := by
  unfold tkG at hb
  cases hi : ops[i]? with
  | none => rw [hi] at hb; cases hb
  | some o =>
    rw [hi] at hb
    simp only [Bool.and_eq_true, decide_eq_true_eq] at hb
    obtain ⟨⟨h2, h4⟩, h5⟩ := hb
    subst h2
    have ho : opI ops i = o := by unfold opI; rw [hi]; rfl
    rw [ho] at hy
    have h6 : ∀ e ∈ o.after, Region.binds .any e = true → listed.getD e.on false = true := fun e he hb => by
      have := Array.all_eq_true_iff_forall_mem.1 h5 e he
      simpa [hb] using this
    have hlt : i < ops.size := (Array.getElem?_eq_some_iff.1 hi).1
    refine wpAnyH_first hi (Region.noSelect_spec hs.1) (fun c a w => hQ c a _ _ w) fuel listed a w (fun j oj hj hne hun hno => neat_apart hs.2 hi h6 j oj hj hne hun hno) ?_ hy hS h
    unfold Region.ready
    rw [List.mem_filter]
    refine ⟨List.mem_range.2 hlt, ?_⟩
    rw [hi, h4]
    simpa using h5
theorem take_skip {fuel : Nat} {listed : Array Bool} {a : Act} {w : World} (i : Nat) (d : Option Tmp) (hs : Region.noSelect ops = true ∧ neat ops = true) (hQ : ∀ c a d v w, Q (.panic c) (Act.put a d v) w → Q (.panic c) a w) (hb : tkG ops listed i d = true)
    (hw : Region.wanted (opI ops i) (yielded ops a.tmps) = false) (hS : S w) (h : wpAnyH P .any ops Q S fuel (listed.setIfInBounds i true) (a.put d undef) w) : wpAnyH P .any ops Q S (fuel + 1) listed a w :=
  take_yld i d undef hs hQ hb (Or.inr ⟨hw, rfl⟩) hS h
theorem take_anyG {fuel : Nat} {listed : Array Bool} {a : Act} {w : World} (i : Nat) (d : Option Tmp) (v : Value) (hs : Region.noSelect ops = true ∧ neat ops = true) (hQ : ∀ c a d v w, Q (.panic c) (Act.put a d v) w → Q (.panic c) a w) (hb : tkG ops listed i d = true)
    (hw : Region.wanted (opI ops i) (yielded ops a.tmps) = true) (hy : ∀ w, S w → (execOp a.eval (opI ops i)).run P w = .ok (.value v) w) (hS : S w) (h : wpAnyH P .any ops Q S fuel (listed.setIfInBounds i true) (a.put d v) w) : wpAnyH P .any ops Q S (fuel + 1) listed a w :=
  take_yld i d v hs hQ hb (Or.inl ⟨hw, hy⟩) hS h
theorem take_loadG {fuel : Nat} {listed : Array Bool} {a : Act} {w : World} (i : Nat) (d : Option Tmp) (T : TypeId) (x : Operand) (ad : Addr) (v : Value) (hs : Region.noSelect ops = true ∧ neat ops = true) (hQ : ∀ c a d v w, Q (.panic c) (Act.put a d v) w → Q (.panic c) a w) (hb : tkG ops listed i d = true)
    (hw : Region.wanted (opI ops i) (yielded ops a.tmps) = true) (ho : (opI ops i).op = .load T x) (hx : a.eval x = .pointer (some ad)) (hl : ∀ w, S w → (Instr.loadAt T (.pointer (some ad))).run P w = .ok v w) (hS : S w) (h : wpAnyH P .any ops Q S fuel (listed.setIfInBounds i true) (a.put d v) w) : wpAnyH P .any ops Q S (fuel + 1) listed a w := by
  refine take_anyG i d v hs hQ hb hw (fun w hw => ?_) hS h
  unfold execOp
  simp only [ho, hx, Sem.run_bind, Sem.run_pure, Result.andThen_ok, hl w hw]
theorem take_load {fuel : Nat} {listed : Array Bool} {a : Act} {w : World} (i : Nat) (d : Option Tmp) (T : TypeId) (x : Operand) (ad : Addr) (v : Value) (hs : Region.noSelect ops = true ∧ neat ops = true) (hQ : ∀ c a d v w, Q (.panic c) (Act.put a d v) w → Q (.panic c) a w) (hb : tkB ops listed i d = true)
    (ho : (opI ops i).op = .load T x) (hx : a.eval x = .pointer (some ad)) (hl : ∀ w, S w → (Instr.loadAt T (.pointer (some ad))).run P w = .ok v w) (hS : S w) (h : wpAnyH P .any ops Q S fuel (listed.setIfInBounds i true) (a.put d v) w) : wpAnyH P .any ops Q S (fuel + 1) listed a w := by
  refine take_any i d v hs hQ hb (fun w hw => ?_) hS h
  unfold execOp
  simp only [ho, hx, Sem.run_bind, Sem.run_pure, Result.andThen_ok, hl w hw]
theorem any_eq {fuel : Nat} {l l' : Array Bool} {a a' : Act} {w : World} (hl : l = l') (ha : a = a') (h : wpAnyH P .any ops Q S fuel l' a' w) : wpAnyH P .any ops Q S fuel l a w := by rw [hl, ha]; exact h
theorem ready_one {fuel : Nat} {listed : Array Bool} {a : Act} {w : World} (i : Nat) (hr : Region.ready .any ops listed = [i]) (h : wpOp P ops Q i (fun a' w' => S w' ∧ wpAnyH P .any ops Q S fuel (listed.setIfInBounds i true) a' w') a w) : wpAnyH P .any ops Q S (fuel + 1) listed a w :=
  wpAnyH_all hr (by simp) (fun j hj => by simp only [List.mem_singleton] at hj; subst hj; exact h)
theorem ready_two {fuel : Nat} {listed : Array Bool} {a : Act} {w : World} (i k : Nat) (hr : Region.ready .any ops listed = [i, k]) (h : wpOp P ops Q i (fun a' w' => S w' ∧ wpAnyH P .any ops Q S fuel (listed.setIfInBounds i true) a' w') a w)
    (h2 : wpOp P ops Q k (fun a' w' => S w' ∧ wpAnyH P .any ops Q S fuel (listed.setIfInBounds k true) a' w') a w) : wpAnyH P .any ops Q S (fuel + 1) listed a w :=
  wpAnyH_all hr (by simp) (fun j hj => by
    simp only [List.mem_cons, List.not_mem_nil, or_false] at hj
    rcases hj with rfl | rfl
    · exact h
    · exact h2)
/-- Number i is there, unguarded, and yields into slot d. -/
def opB (ops : Array Oper) (i : Nat) (d : Option Tmp) : Bool := decide (i < ops.size) && decide ((opI ops i).dst = d) && (opI ops i).guard.isNone
theorem op_val {i : Nat} {K : Act → World → Prop} {a : Act} {w w' : World} (d : Option Tmp) (v : Value) (hb : opB ops i d = true) (hr : (execOp a.eval (opI ops i)).run P w = .ok (.value v) w') (h : K (a.put d v) w') : wpOp P ops Q i K a w := by
  unfold opB at hb
  simp only [Bool.and_eq_true, decide_eq_true_eq] at hb
  obtain ⟨⟨h1, h2⟩, h3⟩ := hb
  subst h2
  unfold wpOp
  rw [opI_get h1]
  simp only [wanted_none _ h3, if_true]
  exact Or.inl (by unfold Oper.wp; rw [hr]; exact h)
theorem op_skip {i : Nat} {K : Act → World → Prop} {a : Act} {w w' : World} (d : Option Tmp) (hb : opB ops i d = true) (hr : (execOp a.eval (opI ops i)).run P w = .ok .skip w') (h : K (a.put d undef) w') : wpOp P ops Q i K a w := by
  unfold opB at hb
  simp only [Bool.and_eq_true, decide_eq_true_eq] at hb
  obtain ⟨⟨h1, h2⟩, h3⟩ := hb
  subst h2
  unfold wpOp
  rw [opI_get h1]
  simp only [wanted_none _ h3, if_true]
  exact Or.inl (by unfold Oper.wp; rw [hr]; exact h)
theorem op_enter {i : Nat} {K : Act → World → Prop} {a : Act} {w : World} (d : Option Tmp) (f : FuncId) (args : Array Value) {R : Ending → World → Prop} (hb : opB ops i d = true) (hr : (execOp a.eval (opI ops i)).run P w = .ok (.enter f args) w) (hc : Calls P f args w R) (h : ∀ e w', R e w' → ∃ u, e = .returned u ∧ K (a.put d u) w') : wpOp P ops Q i K a w := by
  unfold opB at hb
  simp only [Bool.and_eq_true, decide_eq_true_eq] at hb
  obtain ⟨⟨h1, h2⟩, h3⟩ := hb
  subst h2
  unfold wpOp
  rw [opI_get h1]
  simp only [wanted_none _ h3, if_true]
  refine Or.inl ?_
  unfold Oper.wp
  rw [hr]
  refine Calls.mono hc fun e w' he => ?_
  obtain ⟨u, rfl, hK⟩ := h e w' he
  exact hK
/-- The same, guarded or not. -/
def opG (ops : Array Oper) (i : Nat) (d : Option Tmp) : Bool := decide (i < ops.size) && decide ((opI ops i).dst = d)
theorem op_enterG {i : Nat} {K : Act → World → Prop} {a : Act} {w : World} (d : Option Tmp) (f : FuncId) (args : Array Value) {R : Ending → World → Prop} (hb : opG ops i d = true) (hw : Region.wanted (opI ops i) (yielded ops a.tmps) = true) (hr : (execOp a.eval (opI ops i)).run P w = .ok (.enter f args) w) (hc : Calls P f args w R) (h : ∀ e w', R e w' → ∃ u, e = .returned u ∧ K (a.put d u) w') : wpOp P ops Q i K a w := by
  unfold opG at hb
  simp only [Bool.and_eq_true, decide_eq_true_eq] at hb
  obtain ⟨h1, h2⟩ := hb
  subst h2
  unfold wpOp
  rw [opI_get h1]
  simp only [hw, if_true]
  refine Or.inl ?_
  unfold Oper.wp
  rw [hr]
  refine Calls.mono hc fun e w' he => ?_
  obtain ⟨u, rfl, hK⟩ := h e w' he
  exact hK
/-- A store of a struct of many cells. -/
theorem op_store_mid {i : Nat} {K : Act → World → Prop} {a : Act} {w : World} (d : Option Tmp) (ty : TypeId) (x y : Operand) (b o : Nat) (cells : Array Value) (hb : opB ops i d = true) (ho : (opI ops i).op = .store ty x y) (hx : a.eval x = .pointer (some ⟨b, o, none⟩)) (hy : a.eval y = .agg cells)
    (ht : w.there b o cells.size) (hi : (P.info? ty).map (·.size) = some cells.size) (h1 : cells.all (·.oneCell') = true) (h : K (a.put d undef) (w.setCells b o cells.toList)) : wpOp P ops Q i K a w := by
  refine op_skip d hb ?_ h
  unfold execOp
  simp only [ho, hx, hy, Instr.storeAt, Instr.sureAddr, Sem.run_bind, Sem.run_pure, Result.andThen_ok, run_storeVar_mid w b o ty cells ht hi h1]
/-- A store of one cell. -/
theorem op_store {i : Nat} {K : Act → World → Prop} {a : Act} {w : World} (d : Option Tmp) (ty : TypeId) (x y : Operand) (ad : Addr) (v : Value) (w' : World) (hb : opB ops i d = true) (ho : (opI ops i).op = .store ty x y) (hx : a.eval x = .pointer (some ad)) (hy : a.eval y = v)
    (hr : (Instr.storeAt ty (.pointer (some ad)) v).run P w = .ok () w') (h : K (a.put d undef) w') : wpOp P ops Q i K a w := by
  refine op_skip d hb ?_ h
  unfold execOp
  simp only [ho, hx, hy, Sem.run_bind, Sem.run_pure, Result.andThen_ok, hr]
end
end Go.Proofs.YtenpghndgdemnaaGreatDoor

/- An operation of a region that draws its order, by a law that was made for plain regions: no program. No conditions. -/

namespace Go.Proofs.YtenpghndgdemnaaGreatDoor
open Go Go.RowKit

section
variable {P : Program} {ops : Array Oper} {Q : Exit → Act → World → Prop}
/-- What follows normally is K, all else is Q. -/
def Nrm (K : Act → World → Prop) (Q : Exit → Act → World → Prop) : Exit → Act → World → Prop
  | .normal, a, w => K a w
  | e, a, w => Q e a w
theorem wp_nrm {o : Oper} {a : Act} {w : World} {K : Act → World → Prop} (h : o.wp P a w K (Nrm K Q)) : o.wp P a w K Q := by
  unfold Oper.wp at *
  generalize (execOp a.eval o).run P w = r at *
  cases r with
  | ok n w' =>
    cases n with
    | enter f args =>
      refine Calls.mono h fun e w'' he => ?_
      cases e <;> exact he
    | _ => exact h
  | halt x w' => cases x <;> exact h
/-- An operation by a law on lists of operations. -/
theorem op_list {i : Nat} {K : Act → World → Prop} {a : Act} {w : World} (d : Option Tmp) (hb : opB ops i d = true) (h : wpList P ops (Nrm K Q) [opI ops i] a w) : wpOp P ops Q i K a w := by
  unfold opB at hb
  simp only [Bool.and_eq_true, decide_eq_true_eq] at hb
  obtain ⟨⟨h1, h2⟩, h3⟩ := hb
  unfold wpOp
  rw [opI_get h1]
  unfold wpList at h
  simp only [wanted_none _ h3, if_true] at h ⊢
  rcases h with h | h
  · exact Or.inl (wp_nrm h)
  · exact Or.inr ⟨h.1, h.2⟩
end
end Go.Proofs.YtenpghndgdemnaaGreatDoor

/- Great plain regions, operation by operation, each side condition by one look of the kernel's: no program. No conditions. -/

namespace Go.Proofs.YtenpghndgdemnaaGreatDoor
open Go Go.RowKit

section
variable {P : Program} {ops : Array Oper} {Q : Exit → Act → World → Prop}
/-- From operation k on. -/
structure wpFrom (P : Program) (ops : Array Oper) (Q : Exit → Act → World → Prop) (k : Nat) (a : Act) (w : World) : Prop where
  out : wpList P ops Q (ops.toList.drop k) a w
theorem wp_region_from {id : Nat} {a : Act} {w : World} (h : wpFrom P ops Q 0 a w) : (Code.region id ops false).wp P Q a w := wp_region_list (by simpa using h.out)
theorem from_eq {k : Nat} {a a' : Act} {w : World} (ha : a = a') (h : wpFrom P ops Q k a' w) : wpFrom P ops Q k a w := by rw [ha]; exact h
theorem from_end {k : Nat} {a : Act} {w : World} (hk : decide (ops.size ≤ k) = true) (h : Q .normal a w) : wpFrom P ops Q k a w := by
  refine ⟨?_⟩
  rw [List.drop_eq_nil_of_le (by simpa using hk)]
  exact h
theorem from_step {k : Nat} {a : Act} {w : World} {d : Option Tmp} (hb : opG ops k d = true)
    (h : if Region.wanted (opI ops k) (yielded ops a.tmps) then (opI ops k).wp P a w (wpFrom P ops Q (k + 1)) Q else wpFrom P ops Q (k + 1) (a.put d undef) w) : wpFrom P ops Q k a w := by
  unfold opG at hb
  simp only [Bool.and_eq_true, decide_eq_true_eq] at hb
  obtain ⟨h1, h2⟩ := hb
  have hl : ops.toList.drop k = opI ops k :: ops.toList.drop (k + 1) := by
    rw [List.drop_eq_getElem_cons (by simpa using h1)]
    congr 1
    unfold opI
    rw [Array.getElem?_eq_getElem h1]
    rfl
  refine ⟨?_⟩
  rw [hl]
  unfold wpList
  subst h2
  by_cases hw : Region.wanted (opI ops k) (yielded ops a.tmps) = true
  · rw [if_pos hw] at h ⊢; exact Or.inl (Oper.wp_mono (fun a w h => h.out) h)
  · rw [if_neg hw] at h ⊢; exact h.out
theorem from_skip {k : Nat} {a : Act} {w : World} (d : Option Tmp) (hb : opG ops k d = true) (hw : Region.wanted (opI ops k) (yielded ops a.tmps) = false) (h : wpFrom P ops Q (k + 1) (a.put d undef) w) : wpFrom P ops Q k a w :=
  from_step hb (by rw [if_neg (by rw [hw]; simp)]; exact h)
theorem from_val {k : Nat} {a : Act} {w : World} (d : Option Tmp) (v v' : Value) (hv : v = v') (hb : opG ops k d = true) (hw : Region.wanted (opI ops k) (yielded ops a.tmps) = true) (hr : (execOp a.eval (opI ops k)).run P w = .ok (.value v) w) (h : wpFrom P ops Q (k + 1) (a.put d v') w) : wpFrom P ops Q k a w := by
  have hd : (opI ops k).dst = d := by unfold opG at hb; simp only [Bool.and_eq_true, decide_eq_true_eq] at hb; exact hb.2
  refine from_step hb ?_
  rw [if_pos hw]
  unfold Oper.wp
  rw [hr, Oper.upon_value, hd, hv]
  exact h
theorem from_load {k : Nat} {a : Act} {w : World} (d : Option Tmp) (T : TypeId) (x : Operand) (ad : Addr) (v : Value) (hb : opG ops k d = true) (hw : Region.wanted (opI ops k) (yielded ops a.tmps) = true) (ho : (opI ops k).op = .load T x) (hx : a.eval x = .pointer (some ad)) (hl : (Instr.loadAt T (.pointer (some ad))).run P w = .ok v w) (h : wpFrom P ops Q (k + 1) (a.put d v) w) : wpFrom P ops Q k a w := by
  refine from_val d v v rfl hb hw ?_ h
  unfold execOp
  simp only [ho, hx, Sem.run_bind, Sem.run_pure, Result.andThen_ok, hl]
theorem from_enter {k : Nat} {a : Act} {w : World} (d : Option Tmp) (f : FuncId) (args : Array Value) {R : Ending → World → Prop} (hb : opG ops k d = true) (hw : Region.wanted (opI ops k) (yielded ops a.tmps) = true) (hr : (execOp a.eval (opI ops k)).run P w = .ok (.enter f args) w) (hc : Calls P f args w R) (h : ∀ e w', R e w' → ∃ u, e = .returned u ∧ wpFrom P ops Q (k + 1) (a.put d u) w') : wpFrom P ops Q k a w := by
  have hd : (opI ops k).dst = d := by unfold opG at hb; simp only [Bool.and_eq_true, decide_eq_true_eq] at hb; exact hb.2
  refine from_step hb ?_
  rw [if_pos hw]
  unfold Oper.wp
  rw [hr]
  refine Calls.mono hc fun e w' he => ?_
  obtain ⟨u, rfl, hK⟩ := h e w' he
  rw [hd]
  exact hK
end
end Go.Proofs.YtenpghndgdemnaaGreatDoor

/- Runs of operations that look at no memory, or at cells that are told, by one look of the kernel's: no program. No conditions. -/

namespace Go.Proofs.YtenpghndgdemnaaGreatDoor
open Go Go.RowKit

section
variable {P : Program} {ops : Array Oper} {Q : Exit → Act → World → Prop} {S : World → Prop}
/-- What a piece gives that looks at no memory. -/
def quiet {α : Type} (P : Program) : Sem α → Option α
  | .pure a => some a
  | .program k => quiet P (k P)
  | .mark _ k => quiet P k
  | _ => none
theorem quiet_run {α : Type} {x : α} {s : Sem α} : quiet P s = some x → ∀ w, s.run P w = .ok x w := by
  induction s with
  | pure a => intro h w; simp only [quiet, Option.some.injEq] at h; rw [h]; rfl
  | program k ih => intro h w; exact ih P h w
  | mark m k ih => intro h w; exact ih h w
  | _ => intro h; simp [quiet] at h
/-- A cell that is told: its type, its place, what lies there. -/
abbrev Told := TypeId × Addr × Value
def tp (t : Told) : TypeId × Value := (t.1, .pointer (some t.2.1))
/-- Each told cell is as it is told. -/
def Lds (P : Program) (w : World) (hs : List Told) : Prop := ∀ t ∈ hs, (Instr.loadAt t.1 (.pointer (some t.2.1))).run P w = .ok t.2.2 w
theorem Lds.nil {w : World} : Lds P w [] := fun _ h => nomatch h
theorem Lds.cons {w : World} {T : TypeId} {ad : Addr} {v : Value} {hs : List Told} (h : (Instr.loadAt T (.pointer (some ad))).run P w = .ok v w) (h2 : Lds P w hs) : Lds P w ((T, ad, v) :: hs) := fun t ht => by
  rcases List.mem_cons.1 ht with rfl | ht
  · exact h
  · exact h2 t ht
theorem Lds.append {w : World} {h1 h2 : List Told} (a : Lds P w h1) (b : Lds P w h2) : Lds P w (h1 ++ h2) := fun t ht => (List.mem_append.1 ht).elim (a t) (b t)
theorem Lds.sub {w : World} {h1 h2 : List Told} (a : Lds P w h2) (b : ∀ t ∈ h1, t ∈ h2) : Lds P w h1 := fun t ht => a t (b t ht)
/-- The spine of a row, laid open. -/
def openL {β : Type} : List Value → (List Value → β) → β
  | [], k => k []
  | x :: xs, k => openL xs fun ys => k (x :: ys)
theorem openL_eq {β : Type} (l : List Value) : ∀ k : List Value → β, openL l k = k l := by
  induction l with
  | nil => intro k; rfl
  | cons x l ih => intro k; exact ih _
def putL (l : List Value) (d : Option Tmp) (v : Value) : List Value := match d with | some d => l.set d v | none => l
theorem put_putL (l : List Value) (ds : List Deferred) (d : Option Tmp) (v : Value) : (⟨l.toArray, ds⟩ : Act).put d v = ⟨(putL l d v).toArray, ds⟩ := by
  cases d with
  | none => rfl
  | some d => simp [Act.put, putL]
/-- n operations, the first of os first: what stands behind them, and which cells were looked at. -/
def fromL (P : Program) (ops : Array Oper) (ds : List Deferred) : Nat → List Oper → List Value → List Told → Option (List Value × List (TypeId × Value))
  | 0, _, l, _ => some (l, [])
  | _ + 1, [], _, _ => none
  | n + 1, o :: os, l, hs =>
    if Region.wanted o (yielded ops l.toArray) then
      match o.op with
      | .load T x => match hs with
        | t :: hs => (openL (putL l o.dst t.2.2) fun l' => fromL P ops ds n os l' hs).map fun r => (r.1, (T, (⟨l.toArray, ds⟩ : Act).eval x) :: r.2)
        | [] => none
      | _ => match quiet P (execOp (⟨l.toArray, ds⟩ : Act).eval o) with
        | some (.value v) => openL (putL l o.dst v) fun l' => fromL P ops ds n os l' hs
        | _ => none
    else openL (putL l o.dst undef) fun l' => fromL P ops ds n os l' hs
theorem drop_step {k : Nat} {o : Oper} {os : List Oper} (h : ops.toList.drop k = o :: os) : opG ops k o.dst = true ∧ opI ops k = o ∧ ops.toList.drop (k + 1) = os := by
  have hlt : k < ops.size := by
    rcases Nat.lt_or_ge k ops.size with h1 | h1
    · exact h1
    · rw [List.drop_eq_nil_of_le (by simpa using h1)] at h; cases h
  rw [List.drop_eq_getElem_cons (by simpa using hlt)] at h
  obtain ⟨h1, h2⟩ := List.cons.inj h
  have h3 : opI ops k = o := by unfold opI; rw [Array.getElem?_eq_getElem hlt]; exact h1
  exact ⟨by unfold opG; rw [h3]; simp [hlt], h3, h2⟩
theorem fromL_sound {ds : List Deferred} {w : World} : ∀ (n k : Nat) (os : List Oper) (l l' : List Value) (hs : List Told), ops.toList.drop k = os → fromL P ops ds n os l hs = some (l', hs.map tp) → Lds P w hs → wpFrom P ops Q (k + n) ⟨l'.toArray, ds⟩ w → wpFrom P ops Q k ⟨l.toArray, ds⟩ w
  | 0, k, os, l, l', hs, _, h, _, H => by
    simp only [fromL, Option.some.injEq, Prod.mk.injEq] at h
    rw [h.1]; exact H
  | _ + 1, _, [], _, _, _, _, h, _, _ => by simp [fromL] at h
  | n + 1, k, o :: os, l, l', hs, hd, h, hl, H => by
    obtain ⟨g1, g2, g3⟩ := drop_step hd
    have hk : k + (n + 1) = k + 1 + n := by omega
    rw [hk] at H
    unfold fromL at h
    split at h
    · rename_i hw
      split at h
      · rename_i T x ho
        cases hs with
        | nil => cases h
        | cons t hs =>
          obtain ⟨T', ad, v⟩ := t
          simp only [openL_eq, Option.map_eq_some_iff] at h
          obtain ⟨⟨r1, r2⟩, h1, h2⟩ := h
          simp only [List.map_cons, Prod.mk.injEq, List.cons.injEq, tp] at h2
          obtain ⟨rfl, ⟨rfl, e2⟩, rfl⟩ := h2
          refine from_load o.dst T x ad v g1 (by rw [g2]; exact hw) (by rw [g2]; exact ho) e2 (hl _ (List.mem_cons_self ..)) ?_
          rw [put_putL]
          exact fromL_sound n (k + 1) os _ _ hs g3 h1 (fun s hs => hl s (List.mem_cons_of_mem _ hs)) H
      · split at h
        · rename_i v hq
          rw [openL_eq] at h
          refine from_val o.dst v v rfl g1 (by rw [g2]; exact hw) (by rw [g2]; exact quiet_run hq w) ?_
          rw [put_putL]
          exact fromL_sound n (k + 1) os _ _ hs g3 h hl H
        · cases h
    · rename_i hw
      rw [openL_eq] at h
      refine from_skip o.dst g1 (by rw [g2]; simpa using hw) ?_
      rw [put_putL]
      exact fromL_sound n (k + 1) os _ _ hs g3 h hl H
/-- A row of n slots: what is said of it, the rest anything. -/
def frL (v : Nat → Value) (n : Nat) (s : List (Nat × Value)) : List Value := (List.range n).map fun i => (s.lookup i).getD (v i)
/-- The same, slot by slot (to be laid open by simp). -/
def frG (v : Nat → Value) (s : List (Nat × Value)) : Nat → Nat → List Value
  | _, 0 => []
  | i, n + 1 => (s.lookup i).getD (v i) :: frG v s (i + 1) n
theorem frL_eq (v : Nat → Value) (n : Nat) (s : List (Nat × Value)) : frL v n s = frG v s 0 n := by
  have h : ∀ n i, (List.range' i n).map (fun j => (s.lookup j).getD (v j)) = frG v s i n := by
    intro n
    induction n with
    | zero => intro i; rfl
    | succ n ih => intro i; rw [List.range'_succ, List.map_cons, ih]; rfl
  unfold frL
  rw [List.range_eq_range', h]
theorem lookup_mem {s : List (Nat × Value)} {i : Nat} {x : Value} (h : s.lookup i = some x) : (i, x) ∈ s := by
  induction s with
  | nil => cases h
  | cons p s ih =>
    obtain ⟨j, y⟩ := p
    rw [List.lookup_cons] at h
    by_cases e : i = j
    · subst e; simp at h; subst h; exact List.mem_cons_self ..
    · have : (i == j) = false := by simpa using e
      rw [this] at h
      exact List.mem_cons_of_mem _ (ih h)
theorem frL_of {l : List Value} {s : List (Nat × Value)} (h : s.map (fun p => l.getD p.1 undef) = s.map (·.2)) : l = frL (fun i => l.getD i undef) l.length s := by
  unfold frL
  refine List.ext_getElem (by simp) fun i h1 h2 => ?_
  simp only [List.getElem_map, List.getElem_range]
  cases hx : s.lookup i with
  | none => simp [List.getD_eq_getElem?_getD, h1]
  | some x =>
    have := List.map_inj_left.1 h _ (lookup_mem hx)
    simp only at this
    simp [← this, List.getD_eq_getElem?_getD, h1]
/-- What is looked at of a row: its length, the slots that are said. -/
def lookL (s : List (Nat × Value)) (l : List Value) : Nat × List Value := (l.length, s.map fun p => l.getD p.1 undef)
theorem look_fr {l : List Value} {s : List (Nat × Value)} {n : Nat} (h : lookL s l = (n, s.map (·.2))) : ∃ v, l = frL v n s := by
  simp only [lookL, Prod.mk.injEq] at h
  exact ⟨_, h.1 ▸ frL_of h.2⟩
/-- n operations from k on, by one look; behind them only what is said is known. -/
theorem from_q {k : Nat} {l : List Value} {ds : List Deferred} {w : World} (n N : Nat) (s : List (Nat × Value)) (hs : List Told) (h : (fromL P ops ds n (ops.toList.drop k) l hs).map (fun r => (lookL s r.1, r.2)) = some ((N, s.map (·.2)), hs.map tp)) (hl : Lds P w hs) (H : ∀ v, wpFrom P ops Q (k + n) ⟨(frL v N s).toArray, ds⟩ w) : wpFrom P ops Q k ⟨l.toArray, ds⟩ w := by
  rw [Option.map_eq_some_iff] at h
  obtain ⟨⟨l', m⟩, h1, h2⟩ := h
  have h3 := congrArg Prod.fst h2
  have h4 := congrArg Prod.snd h2
  simp only at h3 h4
  subst h4
  obtain ⟨v, rfl⟩ := look_fr h3
  exact fromL_sound n k _ l _ hs rfl h1 hl (H v)
/-- A row as it stands, said by some of its slots. -/
theorem from_fr {k : Nat} {l : List Value} {ds : List Deferred} {w : World} (N : Nat) (s : List (Nat × Value)) (h : lookL s l = (N, s.map (·.2))) (H : ∀ v, wpFrom P ops Q k ⟨(frL v N s).toArray, ds⟩ w) : wpFrom P ops Q k ⟨l.toArray, ds⟩ w := by
  obtain ⟨v, rfl⟩ := look_fr h
  exact H v
end
end Go.Proofs.YtenpghndgdemnaaGreatDoor
