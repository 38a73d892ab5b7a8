/- A part. -/
import Derived.Test.YtibgjcejddpldaaGreatPart11
namespace Go.Proofs.YtibgjcejddpldaaGreat
open Go Go.RowKit
set_option maxRecDepth 100000
set_option maxHeartbeats 1600000
def rops (k : Nat) : Code → Option (Array Oper)
 | .region i ops _ => if i == k then some ops else none
 | .seq a b => match rops k a with | some o => some o | none => rops k b
 | .cond _ a b => match rops k a with | some o => some o | none => rops k b
 | .block _ b => rops k b
 | .loop b => rops k b
 | .scope b => rops k b
 | .rangeFunc _ _ a b => match rops k a with | some o => some o | none => rops k b
 | _ => none
def fops (f : Func) (k : Nat) : Array Oper := match f.body with | some c => (rops k c).getD #[] | none => #[]
theorem wp_swap {P : Program} {c c' : Code} {Q : Exit → Act → World → Prop} {a : Act} {w : World} (h : c = c') (hw : c'.wp P Q a w) : c.wp P Q a w := h ▸ hw
section
variable {P : Program} {ops : Array Oper} {Q : Exit → Act → World → Prop} {S : World → Prop}
def opI (ops : Array Oper) (i : Nat) : Oper := (ops[i]?).getD default
theorem opI_get {i : Nat} (h : i < ops.size) : ops[i]? = some (opI ops i) := by
 unfold opI
 rw [Array.getElem?_eq_getElem h]
 rfl
def neat (ops : Array Oper) : Bool :=
 (ops.toList.all fun o => (o.looksAt ops).all fun d => ((ops.toList.map (·.dst)).zipIdx).all fun p => p.1 != some d || o.after.any fun e => Region.binds .any e && e.on == p.2) &&
 (((ops.toList.map (·.dst)).zipIdx).all fun p => p.1.isNone || ((ops.toList.map (·.dst)).zipIdx).all fun q => p.2 == q.2 || p.1 != q.1)
theorem mem_zip {i : Nat} {o : Oper} (h : ops[i]? = some o) : (o.dst, i) ∈ (ops.toList.map (·.dst)).zipIdx := by
 rw [List.mem_zipIdx_iff_getElem?]
 simp [h]
theorem neat_looks (hn : neat ops = true) {i j : Nat} {oi oj : Oper} (hi : ops[i]? = some oi) (hj : ops[j]? = some oj) {d : Tmp} (hd : oi.dst = some d) (hl : d ∈ oj.looksAt ops) : ∃ e ∈ oj.after, Region.binds .any e = true ∧ e.on = i := by
 unfold neat at hn
 simp only [Bool.and_eq_true, List.all_eq_true] at hn
 have h1 := hn.1 oj (by simpa using Array.mem_of_getElem? hj) d hl _ (mem_zip hi)
 simp only [hd, bne_self_eq_false, Bool.false_or, Array.any_eq_true', Bool.and_eq_true, beq_iff_eq] at h1
 obtain ⟨e, he, h2, h3⟩ := h1
 exact ⟨e, he, h2, h3⟩
theorem neat_dst (hn : neat ops = true) {i j : Nat} {oi oj : Oper} (hi : ops[i]? = some oi) (hj : ops[j]? = some oj) (hne : j ≠ i) {d : Tmp} (hd : oi.dst = some d) : oj.dst ≠ some d := by
 unfold neat at hn
 simp only [Bool.and_eq_true, List.all_eq_true] at hn
 have h1 := hn.2 _ (mem_zip hi)
 simp only [hd, Option.isNone_some, Bool.false_or, List.all_eq_true] at h1
 have h2 := h1 _ (mem_zip hj)
 intro e
 simp [e] at h2
 exact hne h2.symm
theorem neat_apart (hn : neat ops = true) {listed : Array Bool} {i : Nat} {oi : Oper} (hi : ops[i]? = some oi) (hr : ∀ e ∈ oi.after, Region.binds .any e = true → listed.getD e.on false = true) (j : Nat) (oj : Oper) (hj : ops[j]? = some oj) (hne : j ≠ i) (hun : listed.getD j true = false) (hno : ∀ e ∈ oj.after, Region.binds .any e = true → e.on ≠ i) : oi.apart ops oj = true := by
 unfold Oper.apart
 rw [Bool.and_eq_true]
 constructor
 · cases hd : oi.dst with
   | none => rfl
   | some d =>
     have h1 : d ∉ oj.looksAt ops := fun hl => by
      obtain ⟨e, he, hb, ho⟩ := neat_looks hn hi hj hd hl
      exact hno e he hb ho
     have h2 := neat_dst hn hi hj hne hd
     simp [h1, h2]
 · cases hd : oj.dst with
   | none => rfl
   | some d =>
     have h1 : d ∉ oi.looksAt ops := fun hl => by
      obtain ⟨e, he, hb, ho⟩ := neat_looks hn hj hi hd hl
      have h2 := hr e he hb
      rw [ho] at h2
      rw [Array.getD_eq_getD_getElem?] at hun h2
      cases hx : listed[j]? with
      | none => rw [hx] at h2; simp at h2
      | some b => rw [hx] at h2 hun; simp at h2 hun; rw [h2] at hun; cases hun
     simp [h1]
def tkB (ops : Array Oper) (listed : Array Bool) (i : Nat) (d : Option Tmp) : Bool :=
 match ops[i]? with
 | none => false
 | some o => decide (o.dst = d) && o.guard.isNone && !listed.getD i true && o.after.all (fun e => !Region.binds .any e || listed.getD e.on false)
theorem wanted_none {o : Oper} (f : Nat → Option Bool) (h : o.guard.isNone = true) : Region.wanted o f = true := by
 have : o.guard = none := by simpa using h
 simp [Region.wanted, this]
theorem take_any {fuel : Nat} {listed : Array Bool} {a : Act} {w : World} (i : Nat) (d : Option Tmp) (v : Value) (hs : Region.noSelect ops = true ∧ neat ops = true) (hQ : ∀ c a d v w, Q (.panic c) (Act.put a d v) w → Q (.panic c) a w) (hb : tkB ops listed i d = true)
 (hy : ∀ w, S w → (execOp a.eval (opI ops i)).run P w = .ok (.value v) w) (hS : S w) (h : wpAnyH P .any ops Q S fuel (listed.setIfInBounds i true) (a.put d v) w) : wpAnyH P .any ops Q S (fuel + 1) listed a w := by
 unfold tkB at hb
 cases hi : ops[i]? with
 | none => rw [hi] at hb; cases hb
 | some o =>
   rw [hi] at hb
   simp only [Bool.and_eq_true, decide_eq_true_eq] at hb
   obtain ⟨⟨⟨h2, h3⟩, h4⟩, h5⟩ := hb
   subst h2
   have ho : opI ops i = o := by unfold opI; rw [hi]; rfl
   rw [ho] at hy
   have h6 : ∀ e ∈ o.after, Region.binds .any e = true → listed.getD e.on false = true := fun e he hb => by
    have := Array.all_eq_true_iff_forall_mem.1 h5 e he
    simpa [hb] using this
   have hlt : i < ops.size := (Array.getElem?_eq_some_iff.1 hi).1
   refine wpAnyH_first hi (Region.noSelect_spec hs.1) (fun c a w => hQ c a _ _ w) fuel listed a w (fun j oj hj hne hun hno => neat_apart hs.2 hi h6 j oj hj hne hun hno) ?_ (Or.inl ⟨wanted_none _ h3, hy⟩) hS h
   unfold Region.ready
   rw [List.mem_filter]
   refine ⟨List.mem_range.2 hlt, ?_⟩
   rw [hi, h4]
   simpa using h5
def tkG (ops : Array Oper) (listed : Array Bool) (i : Nat) (d : Option Tmp) : Bool :=
 match ops[i]? with
 | none => false
 | some o => decide (o.dst = d) && !listed.getD i true && o.after.all (fun e => !Region.binds .any e || listed.getD e.on false)
theorem take_yld {fuel : Nat} {listed : Array Bool} {a : Act} {w : World} (i : Nat) (d : Option Tmp) (v : Value) (hs : Region.noSelect ops = true ∧ neat ops = true) (hQ : ∀ c a d v w, Q (.panic c) (Act.put a d v) w → Q (.panic c) a w) (hb : tkG ops listed i d = true)
 (hy : YieldsIf P ops S (opI ops i) v a) (hS : S w) (h : wpAnyH P .any ops Q S fuel (listed.setIfInBounds i true) (a.put d v) w) : wpAnyH P .any ops Q S (fuel + 1) listed a w := by
 unfold tkG at hb
 cases hi : ops[i]? with
 | none => rw [hi] at hb; cases hb
 | some o =>
   rw [hi] at hb
   simp only [Bool.and_eq_true, decide_eq_true_eq] at hb
   obtain ⟨⟨h2, h4⟩, h5⟩ := hb
   subst h2
   have ho : opI ops i = o := by unfold opI; rw [hi]; rfl
   rw [ho] at hy
   have h6 : ∀ e ∈ o.after, Region.binds .any e = true → listed.getD e.on false = true := fun e he hb => by
    have := Array.all_eq_true_iff_forall_mem.1 h5 e he
    simpa [hb] using this
   have hlt : i < ops.size := (Array.getElem?_eq_some_iff.1 hi).1
   refine wpAnyH_first hi (Region.noSelect_spec hs.1) (fun c a w => hQ c a _ _ w) fuel listed a w (fun j oj hj hne hun hno => neat_apart hs.2 hi h6 j oj hj hne hun hno) ?_ hy hS h
   unfold Region.ready
   rw [List.mem_filter]
   refine ⟨List.mem_range.2 hlt, ?_⟩
   rw [hi, h4]
   simpa using h5
theorem take_skip {fuel : Nat} {listed : Array Bool} {a : Act} {w : World} (i : Nat) (d : Option Tmp) (hs : Region.noSelect ops = true ∧ neat ops = true) (hQ : ∀ c a d v w, Q (.panic c) (Act.put a d v) w → Q (.panic c) a w) (hb : tkG ops listed i d = true)
 (hw : Region.wanted (opI ops i) (yielded ops a.tmps) = false) (hS : S w) (h : wpAnyH P .any ops Q S fuel (listed.setIfInBounds i true) (a.put d undef) w) : wpAnyH P .any ops Q S (fuel + 1) listed a w :=
 take_yld i d undef hs hQ hb (Or.inr ⟨hw, rfl⟩) hS h
theorem take_anyG {fuel : Nat} {listed : Array Bool} {a : Act} {w : World} (i : Nat) (d : Option Tmp) (v : Value) (hs : Region.noSelect ops = true ∧ neat ops = true) (hQ : ∀ c a d v w, Q (.panic c) (Act.put a d v) w → Q (.panic c) a w) (hb : tkG ops listed i d = true)
 (hw : Region.wanted (opI ops i) (yielded ops a.tmps) = true) (hy : ∀ w, S w → (execOp a.eval (opI ops i)).run P w = .ok (.value v) w) (hS : S w) (h : wpAnyH P .any ops Q S fuel (listed.setIfInBounds i true) (a.put d v) w) : wpAnyH P .any ops Q S (fuel + 1) listed a w :=
 take_yld i d v hs hQ hb (Or.inl ⟨hw, hy⟩) hS h
theorem take_loadG {fuel : Nat} {listed : Array Bool} {a : Act} {w : World} (i : Nat) (d : Option Tmp) (T : TypeId) (x : Operand) (ad : Addr) (v : Value) (hs : Region.noSelect ops = true ∧ neat ops = true) (hQ : ∀ c a d v w, Q (.panic c) (Act.put a d v) w → Q (.panic c) a w) (hb : tkG ops listed i d = true)
 (hw : Region.wanted (opI ops i) (yielded ops a.tmps) = true) (ho : (opI ops i).op = .load T x) (hx : a.eval x = .pointer (some ad)) (hl : ∀ w, S w → (Instr.loadAt T (.pointer (some ad))).run P w = .ok v w) (hS : S w) (h : wpAnyH P .any ops Q S fuel (listed.setIfInBounds i true) (a.put d v) w) : wpAnyH P .any ops Q S (fuel + 1) listed a w := by
 refine take_anyG i d v hs hQ hb hw (fun w hw => ?_) hS h
 unfold execOp
 simp only [ho, hx, Sem.run_bind, Sem.run_pure, Result.andThen_ok, hl w hw]
theorem take_load {fuel : Nat} {listed : Array Bool} {a : Act} {w : World} (i : Nat) (d : Option Tmp) (T : TypeId) (x : Operand) (ad : Addr) (v : Value) (hs : Region.noSelect ops = true ∧ neat ops = true) (hQ : ∀ c a d v w, Q (.panic c) (Act.put a d v) w → Q (.panic c) a w) (hb : tkB ops listed i d = true)
 (ho : (opI ops i).op = .load T x) (hx : a.eval x = .pointer (some ad)) (hl : ∀ w, S w → (Instr.loadAt T (.pointer (some ad))).run P w = .ok v w) (hS : S w) (h : wpAnyH P .any ops Q S fuel (listed.setIfInBounds i true) (a.put d v) w) : wpAnyH P .any ops Q S (fuel + 1) listed a w := by
 refine take_any i d v hs hQ hb (fun w hw => ?_) hS h
 unfold execOp
 simp only [ho, hx, Sem.run_bind, Sem.run_pure, Result.andThen_ok, hl w hw]
theorem any_eq {fuel : Nat} {l l' : Array Bool} {a a' : Act} {w : World} (hl : l = l') (ha : a = a') (h : wpAnyH P .any ops Q S fuel l' a' w) : wpAnyH P .any ops Q S fuel l a w := by rw [hl, ha]; exact h
theorem ready_one {fuel : Nat} {listed : Array Bool} {a : Act} {w : World} (i : Nat) (hr : Region.ready .any ops listed = [i]) (h : wpOp P ops Q i (fun a' w' => S w' ∧ wpAnyH P .any ops Q S fuel (listed.setIfInBounds i true) a' w') a w) : wpAnyH P .any ops Q S (fuel + 1) listed a w :=
 wpAnyH_all hr (by simp) (fun j hj => by simp only [List.mem_singleton] at hj; subst hj; exact h)
theorem ready_two {fuel : Nat} {listed : Array Bool} {a : Act} {w : World} (i k : Nat) (hr : Region.ready .any ops listed = [i, k]) (h : wpOp P ops Q i (fun a' w' => S w' ∧ wpAnyH P .any ops Q S fuel (listed.setIfInBounds i true) a' w') a w)
 (h2 : wpOp P ops Q k (fun a' w' => S w' ∧ wpAnyH P .any ops Q S fuel (listed.setIfInBounds k true) a' w') a w) : wpAnyH P .any ops Q S (fuel + 1) listed a w :=
 wpAnyH_all hr (by simp) (fun j hj => by
  simp only [List.mem_cons, List.not_mem_nil, or_false] at hj
  rcases hj with rfl | rfl
  · exact h
  · exact h2)
def opB (ops : Array Oper) (i : Nat) (d : Option Tmp) : Bool := decide (i < ops.size) && decide ((opI ops i).dst = d) && (opI ops i).guard.isNone
theorem op_val {i : Nat} {K : Act → World → Prop} {a : Act} {w w' : World} (d : Option Tmp) (v : Value) (hb : opB ops i d = true) (hr : (execOp a.eval (opI ops i)).run P w = .ok (.value v) w') (h : K (a.put d v) w') : wpOp P ops Q i K a w := by
 unfold opB at hb
 simp only [Bool.and_eq_true, decide_eq_true_eq] at hb
 obtain ⟨⟨h1, h2⟩, h3⟩ := hb
 subst h2
 unfold wpOp
 rw [opI_get h1]
 simp only [wanted_none _ h3, if_true]
 exact Or.inl (by unfold Oper.wp; rw [hr]; exact h)
theorem op_skip {i : Nat} {K : Act → World → Prop} {a : Act} {w w' : World} (d : Option Tmp) (hb : opB ops i d = true) (hr : (execOp a.eval (opI ops i)).run P w = .ok .skip w') (h : K (a.put d undef) w') : wpOp P ops Q i K a w := by
 unfold opB at hb
 simp only [Bool.and_eq_true, decide_eq_true_eq] at hb
 obtain ⟨⟨h1, h2⟩, h3⟩ := hb
 subst h2
 unfold wpOp
 rw [opI_get h1]
 simp only [wanted_none _ h3, if_true]
 exact Or.inl (by unfold Oper.wp; rw [hr]; exact h)
theorem op_enter {i : Nat} {K : Act → World → Prop} {a : Act} {w : World} (d : Option Tmp) (f : FuncId) (args : Array Value) {R : Ending → World → Prop} (hb : opB ops i d = true) (hr : (execOp a.eval (opI ops i)).run P w = .ok (.enter f args) w) (hc : Calls P f args w R) (h : ∀ e w', R e w' → ∃ u, e = .returned u ∧ K (a.put d u) w') : wpOp P ops Q i K a w := by
 unfold opB at hb
 simp only [Bool.and_eq_true, decide_eq_true_eq] at hb
 obtain ⟨⟨h1, h2⟩, h3⟩ := hb
 subst h2
 unfold wpOp
 rw [opI_get h1]
 simp only [wanted_none _ h3, if_true]
 refine Or.inl ?_
 unfold Oper.wp
 rw [hr]
 refine Calls.mono hc fun e w' he => ?_
 obtain ⟨u, rfl, hK⟩ := h e w' he
 exact hK
def opG (ops : Array Oper) (i : Nat) (d : Option Tmp) : Bool := decide (i < ops.size) && decide ((opI ops i).dst = d)
theorem op_enterG {i : Nat} {K : Act → World → Prop} {a : Act} {w : World} (d : Option Tmp) (f : FuncId) (args : Array Value) {R : Ending → World → Prop} (hb : opG ops i d = true) (hw : Region.wanted (opI ops i) (yielded ops a.tmps) = true) (hr : (execOp a.eval (opI ops i)).run P w = .ok (.enter f args) w) (hc : Calls P f args w R) (h : ∀ e w', R e w' → ∃ u, e = .returned u ∧ K (a.put d u) w') : wpOp P ops Q i K a w := by
 unfold opG at hb
 simp only [Bool.and_eq_true, decide_eq_true_eq] at hb
 obtain ⟨h1, h2⟩ := hb
 subst h2
 unfold wpOp
 rw [opI_get h1]
 simp only [hw, if_true]
 refine Or.inl ?_
 unfold Oper.wp
 rw [hr]
 refine Calls.mono hc fun e w' he => ?_
 obtain ⟨u, rfl, hK⟩ := h e w' he
 exact hK
theorem op_store_mid {i : Nat} {K : Act → World → Prop} {a : Act} {w : World} (d : Option Tmp) (ty : TypeId) (x y : Operand) (b o : Nat) (cells : Array Value) (hb : opB ops i d = true) (ho : (opI ops i).op = .store ty x y) (hx : a.eval x = .pointer (some ⟨b, o, none⟩)) (hy : a.eval y = .agg cells)
 (ht : w.there b o cells.size) (hi : (P.info? ty).map (·.size) = some cells.size) (h1 : cells.all (·.oneCell') = true) (h : K (a.put d undef) (w.setCells b o cells.toList)) : wpOp P ops Q i K a w := by
 refine op_skip d hb ?_ h
 unfold execOp
 simp only [ho, hx, hy, Instr.storeAt, Instr.sureAddr, Sem.run_bind, Sem.run_pure, Result.andThen_ok, run_storeVar_mid w b o ty cells ht hi h1]
theorem op_store {i : Nat} {K : Act → World → Prop} {a : Act} {w : World} (d : Option Tmp) (ty : TypeId) (x y : Operand) (ad : Addr) (v : Value) (w' : World) (hb : opB ops i d = true) (ho : (opI ops i).op = .store ty x y) (hx : a.eval x = .pointer (some ad)) (hy : a.eval y = v)
 (hr : (Instr.storeAt ty (.pointer (some ad)) v).run P w = .ok () w') (h : K (a.put d undef) w') : wpOp P ops Q i K a w := by
 refine op_skip d hb ?_ h
 unfold execOp
 simp only [ho, hx, hy, Sem.run_bind, Sem.run_pure, Result.andThen_ok, hr]
end

theorem ld3 (w : World) (ad : Addr) (v : Value) (h : w.cell? ad = some v) : (Instr.loadAt 3 (.pointer (some ad))).run Tryz.prog w = .ok v w := by
 simp [Instr.loadAt, Instr.sureAddr, loadVar, Tryz.isAgg3, h, go_sem]
theorem ld25 (w : World) (ad : Addr) (v : Value) (h : w.cell? ad = some v) : (Instr.loadAt 23 (.pointer (some ad))).run Tryz.prog w = .ok v w := by
 simp [Instr.loadAt, Instr.sureAddr, loadVar, Tryz.isAgg23, h, go_sem]
theorem ld26 (w : World) (ad : Addr) (v : Value) (h : w.cell? ad = some v) : (Instr.loadAt 24 (.pointer (some ad))).run Tryz.prog w = .ok v w := by
 simp [Instr.loadAt, Instr.sureAddr, loadVar, Tryz.isAgg24, h, go_sem]
theorem ld67 (w : World) (ad : Addr) (v : Value) (h : w.cell? ad = some v) : (Instr.loadAt 75 (.pointer (some ad))).run Tryz.prog w = .ok v w := by
 simp [Instr.loadAt, Instr.sureAddr, loadVar, Tryz.isAgg75, h, go_sem]
theorem ld68 (w : World) (ad : Addr) (v : Value) (h : w.cell? ad = some v) : (Instr.loadAt 76 (.pointer (some ad))).run Tryz.prog w = .ok v w := by
 simp [Instr.loadAt, Instr.sureAddr, loadVar, Tryz.isAgg76, h, go_sem]
theorem CrAt.c0 {W : World} {C : Nat} {c : Cw} {B : CrB} (h : CrAt W C c B) : W.cell? ⟨C, 0, none⟩ = some (.int .i64 c.jobs) := h.row.cell (i := 0) (by omega)
theorem CrAt.c1 {W : World} {C : Nat} {c : Cw} {B : CrB} (h : CrAt W C c B) : W.cell? ⟨C, 1, none⟩ = some (.int .i64 c.next) := h.row.cell (i := 1) (by omega)
theorem CrAt.c2 {W : World} {C : Nat} {c : Cw} {B : CrB} (h : CrAt W C c B) : W.cell? ⟨C, 2, none⟩ = some (.int .i64 c.reader) := h.row.cell (i := 2) (by omega)
theorem CrAt.c3 {W : World} {C : Nat} {c : Cw} {B : CrB} (h : CrAt W C c B) : W.cell? ⟨C, 3, none⟩ = some (.pointer (some ⟨B.Q, 0, none⟩)) := h.row.cell (i := 3) (by omega)
theorem CrAt.c4 {W : World} {C : Nat} {c : Cw} {B : CrB} (h : CrAt W C c B) : W.cell? ⟨C, 4, none⟩ = some (.slice (some ⟨B.H, 0, none⟩) c.hands.length c.hands.length) := h.row.cell (i := 4) (by omega)
theorem CrAt.c5 {W : World} {C : Nat} {c : Cw} {B : CrB} (h : CrAt W C c B) : W.cell? ⟨C, 5, none⟩ = some (.int .i64 c.closer) := h.row.cell (i := 5) (by omega)
theorem CrAt.c6 {W : World} {C : Nat} {c : Cw} {B : CrB} (h : CrAt W C c B) : W.cell? ⟨C, 6, none⟩ = some (.pointer (some ⟨B.R, 0, none⟩)) := h.row.cell (i := 6) (by omega)
theorem CrAt.c7 {W : World} {C : Nat} {c : Cw} {B : CrB} (h : CrAt W C c B) : W.cell? ⟨C, 7, none⟩ = some (.int .i64 c.keeper) := h.row.cell (i := 7) (by omega)
theorem CrAt.c8 {W : World} {C : Nat} {c : Cw} {B : CrB} (h : CrAt W C c B) : W.cell? ⟨C, 8, none⟩ = some (.slice (some ⟨B.G, 0, none⟩) c.ring.length B.cg) := h.row.cell (i := 8) (by omega)
theorem CrAt.c9 {W : World} {C : Nat} {c : Cw} {B : CrB} (h : CrAt W C c B) : W.cell? ⟨C, 9, none⟩ = some (.int .i64 c.due) := h.row.cell (i := 9) (by omega)
theorem CrAt.c10 {W : World} {C : Nat} {c : Cw} {B : CrB} (h : CrAt W C c B) : W.cell? ⟨C, 10, none⟩ = some (.pointer (some ⟨B.O, 0, none⟩)) := h.row.cell (i := 10) (by omega)
theorem CrAt.c11 {W : World} {C : Nat} {c : Cw} {B : CrB} (h : CrAt W C c B) : W.cell? ⟨C, 11, none⟩ = some (.int .i64 c.user) := h.row.cell (i := 11) (by omega)
theorem CrAt.c12 {W : World} {C : Nat} {c : Cw} {B : CrB} (h : CrAt W C c B) : W.cell? ⟨C, 12, none⟩ = some (.slice B.aT c.got.length B.cT) := h.row.cell (i := 12) (by omega)
theorem CrAt.c13 {W : World} {C : Nat} {c : Cw} {B : CrB} (h : CrAt W C c B) : W.cell? ⟨C, 13, none⟩ = some (.pointer (some ⟨B.M, 0, none⟩)) := h.row.cell (i := 13) (by omega)
theorem CrAt.c14 {W : World} {C : Nat} {c : Cw} {B : CrB} (h : CrAt W C c B) : W.cell? ⟨C, 14, none⟩ = some (.pointer (some ⟨B.T, 0, none⟩)) := h.row.cell (i := 14) (by omega)
theorem CrAt.c15 {W : World} {C : Nat} {c : Cw} {B : CrB} (h : CrAt W C c B) : W.cell? ⟨C, 15, none⟩ = some (.int .i64 c.ops) := h.row.cell (i := 15) (by omega)
theorem CrAt.m2 {W : World} {C : Nat} {c : Cw} {B : CrB} (h : CrAt W C c B) : W.cell? ⟨B.M, 2, none⟩ = some (.int .i64 c.room) := by
 obtain ⟨_, _, _, hm⟩ := h.m
 exact hm.cell (i := 2) (by omega)
theorem CrAt.t3 {W : World} {C : Nat} {c : Cw} {B : CrB} (h : CrAt W C c B) : W.cell? ⟨B.T, 3, none⟩ = some (.int .i64 (c.shut.getD 3 0)) := by
 obtain ⟨_, hm⟩ := h.t
 exact hm.cell (i := 3) (by omega)
theorem CrAt.q3 {W : World} {C : Nat} {c : Cw} {B : CrB} (h : CrAt W C c B) : W.cell? ⟨B.Q, 3, none⟩ = some (.int .i64 (c.shut.getD 0 0)) := by
 obtain ⟨_, _, _, hm, _, _⟩ := h.q.ex
 exact hm.cell (i := 3) (by omega)
theorem CrAt.r3 {W : World} {C : Nat} {c : Cw} {B : CrB} (h : CrAt W C c B) : W.cell? ⟨B.R, 3, none⟩ = some (.int .i64 (c.shut.getD 1 0)) := by
 obtain ⟨_, _, _, hm, _, _⟩ := h.r.ex
 exact hm.cell (i := 3) (by omega)
theorem CrAt.o3 {W : World} {C : Nat} {c : Cw} {B : CrB} (h : CrAt W C c B) : W.cell? ⟨B.O, 3, none⟩ = some (.int .i64 (c.shut.getD 2 0)) := by
 obtain ⟨_, _, _, hm, _, _⟩ := h.o.ex
 exact hm.cell (i := 3) (by omega)

theorem isIn_same (a b c : Int) (w : World) : Calls Tryz.prog 95 #[.int .i64 a, .int .i64 b, .int .i64 c] w fun e w' => e = .returned (.bool (decide (b ≤ a ∧ a ≤ c))) ∧ w' = w := by
 by_cases h : b ≤ a ∧ a ≤ c
 · rw [decide_eq_true h]
   obtain ⟨h1, h2⟩ := h
   go_enter Tryz.func95, Tryz.ntmps95
   go_wp2_with fail
   go_ret
   exact ⟨rfl, rfl⟩
 · rw [decide_eq_false h]
   by_cases h1 : b ≤ a
   · have h2 : ¬ a ≤ c := fun h2 => h ⟨h1, h2⟩
     clear h
     go_enter Tryz.func95, Tryz.ntmps95
     go_wp2_with fail
     go_ret
     exact ⟨rfl, rfl⟩
   · clear h
     go_enter Tryz.func95, Tryz.ntmps95
     go_wp2_with fail
     go_ret
     exact ⟨rfl, rfl⟩
theorem hasJob_any (s j : Int) (w : World) : Calls Tryz.prog 112 #[.agg #[.int .i64 s, .int .i64 j]] w fun e w' => e = .returned (.bool (busyH ⟨s, j⟩)) ∧ Below w.heap.size w w' := by
 have HBX := xH (fun o => (show Below w.heap.size w (w.alloc o) from (Below.refl _ _).alloc (Nat.le_refl _) o))
 by_cases h1 : s = 1
 · have q : (s == 1) = true := by simp [h1]
   have HV := xH (show busyH ⟨s, j⟩ = true from by simp [busyH, h1])
   clear h1
   go_enter Tryz.func112, Tryz.ntmps112
   go_wp2_with fail
   go_ret
   exact ⟨by rw [xU HV]; rfl, xU HBX _⟩
 · have q : (s == 1) = false := by simp [h1]
   have HV := xH (show busyH ⟨s, j⟩ = (s == 2) from by simp [busyH, h1])
   clear h1
   go_enter Tryz.func112, Tryz.ntmps112
   go_wp2_with fail
   go_ret
   exact ⟨by rw [xU HV]; rfl, xU HBX _⟩
theorem lefW_any (s : Int) (w : World) : Calls Tryz.prog 81 #[.int .i64 s] w fun e w' => e = .returned (.int .i64 (wkL s)) ∧ w' = w := by
 by_cases h0 : s = 0
 · subst h0
   go_enter Tryz.func81, Tryz.ntmps81
   go_wp2_with fail
   go_ret
   exact ⟨rfl, rfl⟩
 by_cases h1 : s = 1
 · subst h1
   go_enter Tryz.func81, Tryz.ntmps81
   go_wp2_with fail
   go_ret
   exact ⟨rfl, rfl⟩
 by_cases h2 : s = 2
 · subst h2
   go_enter Tryz.func81, Tryz.ntmps81
   go_wp2_with fail
   go_ret
   exact ⟨rfl, rfl⟩
 have q0 : (s == 0) = false := by simp [h0]
 have q1 : (s == 1) = false := by simp [h1]
 have q2 : (s == 2) = false := by simp [h2]
 have HV := xH (show wkL s = 0 from by simp [wkL, h0, h1, h2])
 clear h0 h1 h2
 go_enter Tryz.func81, Tryz.ntmps81
 go_wp2_with fail
 go_ret
 exact ⟨by rw [xU HV]; rfl, rfl⟩
theorem lefR_any (s : Int) (w : World) : Calls Tryz.prog 82 #[.int .i64 s] w fun e w' => e = .returned (.int .i64 (rdL s)) ∧ w' = w := by
 by_cases h0 : s = 0
 · subst h0
   go_enter Tryz.func82, Tryz.ntmps82
   go_wp2_with fail
   go_ret
   exact ⟨rfl, rfl⟩
 by_cases h1 : s = 1
 · subst h1
   go_enter Tryz.func82, Tryz.ntmps82
   go_wp2_with fail
   go_ret
   exact ⟨rfl, rfl⟩
 by_cases h2 : s = 2
 · subst h2
   go_enter Tryz.func82, Tryz.ntmps82
   go_wp2_with fail
   go_ret
   exact ⟨rfl, rfl⟩
 have q0 : (s == 0) = false := by simp [h0]
 have q1 : (s == 1) = false := by simp [h1]
 have q2 : (s == 2) = false := by simp [h2]
 have HV := xH (show rdL s = 0 from by simp [rdL, h0, h1, h2])
 clear h0 h1 h2
 go_enter Tryz.func82, Tryz.ntmps82
 go_wp2_with fail
 go_ret
 exact ⟨by rw [xU HV]; rfl, rfl⟩
theorem lefK_any (s : Int) (w : World) : Calls Tryz.prog 83 #[.int .i64 s] w fun e w' => e = .returned (.int .i64 (kpL s)) ∧ w' = w := by
 by_cases h0 : s = 0
 · subst h0
   go_enter Tryz.func83, Tryz.ntmps83
   go_wp2_with fail
   go_ret
   exact ⟨rfl, rfl⟩
 by_cases h2 : s = 2
 · subst h2
   go_enter Tryz.func83, Tryz.ntmps83
   go_wp2_with fail
   go_ret
   exact ⟨rfl, rfl⟩
 by_cases h1 : s = 1
 · subst h1
   go_enter Tryz.func83, Tryz.ntmps83
   go_wp2_with fail
   go_ret
   exact ⟨rfl, rfl⟩
 by_cases h3 : s = 3
 · subst h3
   go_enter Tryz.func83, Tryz.ntmps83
   go_wp2_with fail
   go_ret
   exact ⟨rfl, rfl⟩
 by_cases h4 : s = 4
 · subst h4
   go_enter Tryz.func83, Tryz.ntmps83
   go_wp2_with fail
   go_ret
   exact ⟨rfl, rfl⟩
 have q0 : (s == 0) = false := by simp [h0]
 have q2 : (s == 2) = false := by simp [h2]
 have q1 : (s == 1) = false := by simp [h1]
 have q3 : (s == 3) = false := by simp [h3]
 have q4 : (s == 4) = false := by simp [h4]
 have HV := xH (show kpL s = 0 from by simp [kpL, h0, h2, h1, h3, h4])
 clear h0 h2 h1 h3 h4
 go_enter Tryz.func83, Tryz.ntmps83
 go_wp2_with fail
 go_ret
 exact ⟨by rw [xU HV]; rfl, rfl⟩
theorem shutI_any (b : Nat) (z : Int) (w : World) (h : w.cell? ⟨b, 3, none⟩ = some (.int .i64 z)) : Calls Tryz.prog 116 #[.pointer (some ⟨b, 0, none⟩)] w fun e w' => e = .returned (.bool (decide (0 < z))) ∧ w' = w := by
 go_enter Tryz.func116, Tryz.ntmps116
 go_wp2_with fail
 go_ret
 exact ⟨rfl, rfl⟩
theorem shutP_any (b : Nat) (z : Int) (w : World) (h : w.cell? ⟨b, 3, none⟩ = some (.int .i64 z)) : Calls Tryz.prog 141 #[.pointer (some ⟨b, 0, none⟩)] w fun e w' => e = .returned (.bool (decide (0 < z))) ∧ w' = w := by
 go_enter Tryz.func141, Tryz.ntmps141
 go_wp2_with fail
 go_ret
 exact ⟨rfl, rfl⟩
theorem emptyI_any (b : Nat) (n : Nat) (w : World) (h : w.cell? ⟨b, 2, none⟩ = some (.int .i64 n)) : Calls Tryz.prog 118 #[.pointer (some ⟨b, 0, none⟩)] w fun e w' => e = .returned (.bool (decide (n = 0))) ∧ w' = w := by
 by_cases h0 : n = 0
 · subst h0
   go_enter Tryz.func118, Tryz.ntmps118
   go_wp2_with fail
   go_ret
   exact ⟨rfl, rfl⟩
 · have HV := xH (show ((n : Int) == 0) = false from by simp [h0])
   have HV2 := xH (show decide (n = 0) = false from by simp [h0])
   clear h0
   go_enter Tryz.func118, Tryz.ntmps118
   go_wp2_with fail
   go_ret
   exact ⟨by rw [xU HV2, xU HV]; rfl, rfl⟩
theorem CrAt.q2 {W : World} {C : Nat} {c : Cw} {B : CrB} (h : CrAt W C c B) : W.cell? ⟨B.Q, 2, none⟩ = some (.int .i64 c.queue.length) := by
 obtain ⟨_, _, _, hm, _, _⟩ := h.q.ex
 exact hm.cell (i := 2) (by omega)
theorem CrAt.r2 {W : World} {C : Nat} {c : Cw} {B : CrB} (h : CrAt W C c B) : W.cell? ⟨B.R, 2, none⟩ = some (.int .i64 c.results.length) := by
 obtain ⟨_, _, _, hm, _, _⟩ := h.r.ex
 exact hm.cell (i := 2) (by omega)
theorem CrAt.o2 {W : World} {C : Nat} {c : Cw} {B : CrB} (h : CrAt W C c B) : W.cell? ⟨B.O, 2, none⟩ = some (.int .i64 c.out.length) := by
 obtain ⟨_, _, _, hm, _, _⟩ := h.o.ex
 exact hm.cell (i := 2) (by omega)
theorem stopped_any (C : Nat) (c : Cw) (B : CrB) (w : World) (h : CrAt w C c B) : Calls Tryz.prog 115 #[.pointer (some ⟨C, 0, none⟩)] w fun e w' => e = .returned (.bool (decide (0 < shZ c 3))) ∧ w' = w := by
 have c14 := h.c14
 have HSH := xH (shutP_any B.T (c.shut.getD 3 0) w h.t3)
 clear h
 go_enter Tryz.func115, Tryz.ntmps115
 go_wp2_with (go_at_call 141; refine (xU HSH).mono ?_; rintro e w2 ⟨rfl, h2⟩; have h3 := h2.symm; subst h3; clear h2)
 go_ret
 exact ⟨rfl, rfl⟩
theorem hflat_at : ∀ (hs : List Hd) (i : Nat) (hi : i < hs.length), r18 (hs.map Hd.cs).flatten (i * 2) = .int .i64 hs[i].state ∧ r18 (hs.map Hd.cs).flatten (i * 2 + 1) = .int .i64 hs[i].job
 | [], i, hi => by cases hi
 | h :: r, 0, hi => ⟨rfl, rfl⟩
 | h :: r, i + 1, hi => by
     have := hflat_at r i (by simpa using hi)
     rw [show (i + 1) * 2 = i * 2 + 2 by omega]
     exact this
theorem hands_at {W : World} {b : Nat} {hs : List Hd} (h : W.rowIs b 73 (hs.length * 2) (r18 (hs.map Hd.cs).flatten)) (i : Nat) (hi : i < hs.length) : W.cell? ⟨b, i * 2, none⟩ = some (.int .i64 hs[i].state) ∧ W.cell? ⟨b, i * 2 + 1, none⟩ = some (.int .i64 hs[i].job) := by
 obtain ⟨h1, h2⟩ := hflat_at hs i hi
 have a1 := h.cell (i := i * 2) (by omega); have a2 := h.cell (i := i * 2 + 1) (by omega)
 rw [h1] at a1; rw [h2] at a2
 exact ⟨a1, a2⟩
theorem endC_any (s j : Int) (w : World) : Calls Tryz.prog 85 #[.agg #[.int .i64 s, .int .i64 j]] w fun e w' => e = .returned (.bool (s == 3)) ∧ Below w.heap.size w w' := by
 have HBX := xH (fun o => (show Below w.heap.size w (w.alloc o) from (Below.refl _ _).alloc (Nat.le_refl _) o))
 go_enter Tryz.func85, Tryz.ntmps85
 go_wp2_with fail
 go_ret
 exact ⟨rfl, xU HBX _⟩
theorem allendC_any (b cap : Nat) (hs : List Hd) (w : World) (h : w.rowIs b 73 (hs.length * 2) (r18 (hs.map Hd.cs).flatten)) (hl : hs.length ≤ 1000) : Calls Tryz.prog 84 #[.slice (some ⟨b, 0, none⟩) hs.length cap, .func (.func 85) #[] #[]] w fun e w' => e = .returned (.bool (hs.all (fun h => h.state == 3))) ∧ Below w.heap.size w w' := by
 have HR := xH h
 clear h
 go_enter Tryz.func84, Tryz.ntmps84
 go_wp2_with fail
 go_loopw [9] (fun i wr => ∃ (k : Nat), k ≤ hs.length ∧ i = .int .i64 k ∧ Hid (Below w.heap.size w wr) ∧ Hid (∀ j, (hj : j < hs.length) → j < k → (hs[j].state == 3) = true)) (fun i _ => hs.length - (intOf i).toNat)
 case atStart => exact ⟨0, Nat.zero_le _, rfl, xH (Below.refl _ _), xH (fun j _ hj => absurd hj (by omega))⟩
 case round =>
  obtain ⟨k, hk, rfl, HB, HA⟩ := hrel
  by_cases hlt : k < hs.length
  · obtain ⟨e0, e1⟩ := hands_at ((xU HR).of_block (HB.out.block b (xU HR).lt)) k hlt
    have HBA := xH (fun o' => HB.out.alloc HB.out.size o')
    have HNA := xH (fun W => endC_any hs[k].state hs[k].job W)
    cases h3 : (hs[k].state == 3) with
    | true =>
      have HN := xH (show ∀ j, (hj : j < hs.length) → j < k + 1 → (hs[j].state == 3) = true from fun j hj hjk => by
       by_cases e : j = k
       · subst e; exact h3
       · exact HA.out j hj (by omega))
      rw [h3] at HNA
      clear h3
      generalize hs[k].state = zs at *
      generalize hs[k].job = zj at *
      go_wp2_with (go_at_call 85; refine (xU HNA _).mono ?_; rintro e w5 ⟨rfl, hb5⟩; have HB5 := xH ((xU HBA _).trans (hb5.mono (xU HBA _).size)); clear hb5)
      go_roundw
      case rel => exact ⟨k + 1, by omega, by go_num, HB5, HN⟩
      case measure => simp [intOf]; omega
    | false =>
      have HV := xH (show hs.all (fun h => h.state == 3) = false from by
       rw [List.all_eq_false]; exact ⟨_, List.getElem_mem hlt, by rw [h3]; simp⟩)
      rw [h3] at HNA
      clear h3
      generalize hs[k].state = zs at *
      generalize hs[k].job = zj at *
      go_wp2_with (go_at_call 85; refine (xU HNA _).mono ?_; rintro e w5 ⟨rfl, hb5⟩; have HB5 := xH ((xU HBA _).trans (hb5.mono (xU HBA _).size)); clear hb5)
      go_ret
      exact ⟨by rw [xU HV]; rfl, xU HB5⟩
  · have HV := xH (show hs.all (fun h => h.state == 3) = true from by
     rw [List.all_eq_true]
     intro x hx
     obtain ⟨j, hj, rfl⟩ := List.getElem_of_mem hx
     exact HA.out j hj (by omega))
    obtain rfl : k = hs.length := by omega
    go_wp2_with fail
    go_ret
    exact ⟨by rw [xU HV]; rfl, HB.out⟩
theorem notC_any (s j : Int) (w : World) : Calls Tryz.prog 142 #[.agg #[.int .i64 s, .int .i64 j]] w fun e w' => e = .returned (.bool (s != 3)) ∧ Below w.heap.size w w' := by
 have HBX := xH (fun o => (show Below w.heap.size w (w.alloc o) from (Below.refl _ _).alloc (Nat.le_refl _) o))
 go_enter Tryz.func142, Tryz.ntmps142
 go_wp2_with fail
 go_ret
 exact ⟨rfl, xU HBX _⟩
theorem allnotC_any (b cap : Nat) (hs : List Hd) (w : World) (h : w.rowIs b 73 (hs.length * 2) (r18 (hs.map Hd.cs).flatten)) (hl : hs.length ≤ 1000) : Calls Tryz.prog 84 #[.slice (some ⟨b, 0, none⟩) hs.length cap, .func (.func 142) #[] #[]] w fun e w' => e = .returned (.bool (hs.all (fun h => h.state != 3))) ∧ Below w.heap.size w w' := by
 have HR := xH h
 clear h
 go_enter Tryz.func84, Tryz.ntmps84
 go_wp2_with fail
 go_loopw [9] (fun i wr => ∃ (k : Nat), k ≤ hs.length ∧ i = .int .i64 k ∧ Hid (Below w.heap.size w wr) ∧ Hid (∀ j, (hj : j < hs.length) → j < k → (hs[j].state != 3) = true)) (fun i _ => hs.length - (intOf i).toNat)
 case atStart => exact ⟨0, Nat.zero_le _, rfl, xH (Below.refl _ _), xH (fun j _ hj => absurd hj (by omega))⟩
 case round =>
  obtain ⟨k, hk, rfl, HB, HA⟩ := hrel
  by_cases hlt : k < hs.length
  · obtain ⟨e0, e1⟩ := hands_at ((xU HR).of_block (HB.out.block b (xU HR).lt)) k hlt
    have HBA := xH (fun o' => HB.out.alloc HB.out.size o')
    have HNA := xH (fun W => notC_any hs[k].state hs[k].job W)
    cases h3 : (hs[k].state != 3) with
    | true =>
      have HN := xH (show ∀ j, (hj : j < hs.length) → j < k + 1 → (hs[j].state != 3) = true from fun j hj hjk => by
       by_cases e : j = k
       · subst e; exact h3
       · exact HA.out j hj (by omega))
      rw [h3] at HNA
      clear h3
      generalize hs[k].state = zs at *
      generalize hs[k].job = zj at *
      go_wp2_with (go_at_call 142; refine (xU HNA _).mono ?_; rintro e w5 ⟨rfl, hb5⟩; have HB5 := xH ((xU HBA _).trans (hb5.mono (xU HBA _).size)); clear hb5)
      go_roundw
      case rel => exact ⟨k + 1, by omega, by go_num, HB5, HN⟩
      case measure => simp [intOf]; omega
    | false =>
      have HV := xH (show hs.all (fun h => h.state != 3) = false from by
       rw [List.all_eq_false]; exact ⟨_, List.getElem_mem hlt, by rw [h3]; simp⟩)
      rw [h3] at HNA
      clear h3
      generalize hs[k].state = zs at *
      generalize hs[k].job = zj at *
      go_wp2_with (go_at_call 142; refine (xU HNA _).mono ?_; rintro e w5 ⟨rfl, hb5⟩; have HB5 := xH ((xU HBA _).trans (hb5.mono (xU HBA _).size)); clear hb5)
      go_ret
      exact ⟨by rw [xU HV]; rfl, xU HB5⟩
  · have HV := xH (show hs.all (fun h => h.state != 3) = true from by
     rw [List.all_eq_true]
     intro x hx
     obtain ⟨j, hj, rfl⟩ := List.getElem_of_mem hx
     exact HA.out j hj (by omega))
    obtain rfl : k = hs.length := by omega
    go_wp2_with fail
    go_ret
    exact ⟨by rw [xU HV]; rfl, HB.out⟩
theorem any_not (hs : List Hd) : (!hs.all (fun h => h.state != 3)) = anyE hs := by
 unfold anyE
 induction hs with
 | nil => rfl
 | cons h r ih => 
   rw [List.all_cons, List.any_cons, ← ih]
   show (!((!(h.state == 3)) && r.all (fun h => h.state != 3))) = ((h.state == 3) || !r.all (fun h => h.state != 3))
   rw [Bool.not_and, Bool.not_not]
theorem wEnded_any (C : Nat) (c : Cw) (B : CrB) (w : World) (h : CrAt w C c B) : Calls Tryz.prog 49 #[.pointer (some ⟨C, 0, none⟩)] w fun e w' => e = .returned (.bool (allE c.hands)) ∧ Below w.heap.size w w' := by
 have c4 := h.c4
 have HSH := xH (allendC_any B.H c.hands.length c.hands w h.hands (by have := h.szH; omega))
 clear h
 go_enter Tryz.func49, Tryz.ntmps49
 go_wp2_with (go_at_call 84; refine (xU HSH).mono ?_; rintro e w2 ⟨rfl, h2⟩; have HB := xH h2; clear h2)
 go_ret
 exact ⟨rfl, xU HB⟩
theorem aEnded_any (C : Nat) (c : Cw) (B : CrB) (w : World) (h : CrAt w C c B) : Calls Tryz.prog 117 #[.pointer (some ⟨C, 0, none⟩)] w fun e w' => e = .returned (.bool (anyE c.hands)) ∧ Below w.heap.size w w' := by
 have c4 := h.c4
 have HSH := xH (allnotC_any B.H c.hands.length c.hands w h.hands (by have := h.szH; omega))
 rw [← any_not]
 clear h
 generalize (c.hands.all fun h => h.state != 3) = bb at *
 go_enter Tryz.func117, Tryz.ntmps117
 go_wp2_with (go_at_call 84; refine (xU HSH).mono ?_; rintro e w2 ⟨rfl, h2⟩; have HB := xH h2; clear h2)
 go_ret
 exact ⟨rfl, xU HB⟩
theorem CrAt.g_at {W : World} {C : Nat} {c : Cw} {B : CrB} (h : CrAt W C c B) (i : Nat) (hi : i < c.ring.length) : W.cell? ⟨B.G, i, none⟩ = some (.int .i64 c.ring[i]) := by
 rw [World.ownsRow.cellAt h.ring i (by omega), zflat_map, List.getElem?_map, List.getElem?_eq_getElem hi]
 rfl

theorem CrAt.dn {W : World} {C : Nat} {c : Cw} {B : CrB} (h : CrAt W C c B) (m : Nat) : CrAt (W.drewN m) C c B := h.below (below_drewN W m)
structure Kc (w W : World) (C : Nat) (c : Cw) (B : CrB) : Prop where
 cr : CrAt W C c B
 bel : Below w.heap.size w W
theorem Kc.on {w W W' : World} {C : Nat} {c : Cw} {B : CrB} (h : Kc w W C c B) (hb : Below W.heap.size W W') : Kc w W' C c B := ⟨h.cr.below hb, h.bel.trans (hb.mono h.bel.size)⟩
theorem Kc.dn {w W : World} {C : Nat} {c : Cw} {B : CrB} (h : Kc w W C c B) (m : Nat) : Kc w (W.drewN m) C c B := h.on (below_drewN W m)
theorem Kc.start {w : World} {C : Nat} {c : Cw} {B : CrB} (h : CrAt w C c B) : Kc w w C c B := ⟨h, Below.refl _ _⟩

section
variable {P : Program} {ops : Array Oper} {Q : Exit → Act → World → Prop}
def Nrm (K : Act → World → Prop) (Q : Exit → Act → World → Prop) : Exit → Act → World → Prop
 | .normal, a, w => K a w
 | e, a, w => Q e a w
theorem wp_nrm {o : Oper} {a : Act} {w : World} {K : Act → World → Prop} (h : o.wp P a w K (Nrm K Q)) : o.wp P a w K Q := by
 unfold Oper.wp at *
 generalize (execOp a.eval o).run P w = r at *
 cases r with
 | ok n w' =>
   cases n with
   | enter f args =>
     refine Calls.mono h fun e w'' he => ?_
     cases e <;> exact he
   | _ => exact h
 | halt x w' => cases x <;> exact h
theorem op_list {i : Nat} {K : Act → World → Prop} {a : Act} {w : World} (d : Option Tmp) (hb : opB ops i d = true) (h : wpList P ops (Nrm K Q) [opI ops i] a w) : wpOp P ops Q i K a w := by
 unfold opB at hb
 simp only [Bool.and_eq_true, decide_eq_true_eq] at hb
 obtain ⟨⟨h1, h2⟩, h3⟩ := hb
 unfold wpOp
 rw [opI_get h1]
 unfold wpList at h
 simp only [wanted_none _ h3, if_true] at h ⊢
 rcases h with h | h
 · exact Or.inl (wp_nrm h)
 · exact Or.inr ⟨h.1, h.2⟩
end
end Go.Proofs.YtibgjcejddpldaaGreat
