/- Regions that draw their order: all that is quiet by one look of the kernel's, the rest step by step: no program. No conditions. -/
import Derived.Test.YtenpghndgdemnaaGreatDoorPart08
namespace Go.Proofs.YtenpghndgdemnaaGreatDoor
open Go Go.RowKit

section
variable {P : Program} {ops : Array Oper} {Q : Exit → Act → World → Prop} {S : World → Prop}
/-- How many have not come up. -/
def lftB (n : Nat) (ls : List Bool) : Nat := (List.range n).countP fun i => !ls.getD i true
theorem countP_lt {p q : Nat → Bool} {l : List Nat} (h : ∀ x, p x = true → q x = true) {x : Nat} (hx : x ∈ l) (h1 : q x = true) (h2 : p x = false) : l.countP p < l.countP q := by
  induction l with
  | nil => cases hx
  | cons y l ih =>
    rw [List.countP_cons, List.countP_cons]
    have hm : l.countP p ≤ l.countP q := List.countP_mono_left fun z _ => h z
    rcases List.mem_cons.1 hx with rfl | hx
    · rw [h1, h2]; simp; omega
    · have := ih hx
      cases hp : p y with
      | false => simp; omega
      | true => rw [h y hp]; simp; omega
theorem lftB_set {n i : Nat} {ls : List Bool} (hi : i < n) (h : ls.getD i true = false) : lftB n (ls.set i true) < lftB n ls := by
  refine countP_lt (fun x hx => ?_) (List.mem_range.2 hi) (by rw [h]; rfl) ?_
  · by_cases e : x = i
    · subst e; rw [h]; rfl
    · simpa [List.getD_eq_getElem?_getD, List.getElem?_set, Ne.symm e] using hx
  · rw [List.getD_eq_getElem?_getD] at h
    have hlt : i < ls.length := by
      rcases Nat.lt_or_ge i ls.length with h1 | h1
      · exact h1
      · rw [List.getElem?_eq_none h1] at h; cases h
    simp [List.getD_eq_getElem?_getD, hlt]
/-- What is asked of a region once: it selects nothing, it is neat, and a panic's end does not hang on what has been yielded. -/
structure NtQ (ops : Array Oper) (Q : Exit → Act → World → Prop) : Prop where
  s : Region.noSelect ops = true ∧ neat ops = true
  q : ∀ c a d v w, Q (.panic c) (Act.put a d v) w → Q (.panic c) a w
/-- From here on, whatever order is drawn. -/
structure wpT (P : Program) (ops : Array Oper) (Q : Exit → Act → World → Prop) (S : World → Prop) (ls : List Bool) (l : List Value) (ds : List Deferred) (w : World) : Prop where
  out : S w → ∀ fuel, lftB ops.size ls ≤ fuel → wpAnyH P .any ops Q S fuel ls.toArray ⟨l.toArray, ds⟩ w
theorem U_start {l : List Value} {ds : List Deferred} {id : Nat} {w : World} (hm : P.follows .mixedOrders = true) (hS : S w.drew) (h : wpT P ops Q S (List.replicate ops.size false) l ds w.drew) : (Code.region id ops true).wp P Q ⟨l.toArray, ds⟩ w := by
  refine wp_region_held (S := S) hm ?_
  have := h.out hS ops.size (Nat.le_trans (List.countP_le_length ..) (by simp))
  have e : (List.replicate ops.size false).toArray = Array.replicate ops.size false := by simp
  rw [e] at this
  exact this
theorem U_yld {ls : List Bool} {l : List Value} {ds : List Deferred} {w : World} (hq : NtQ ops Q) (i : Nat) (d : Option Tmp) (v : Value) (hb : tkG ops ls.toArray i d = true) (hy : S w → YieldsIf P ops S (opI ops i) v ⟨l.toArray, ds⟩) (h : wpT P ops Q S (ls.set i true) (putL l d v) ds w) : wpT P ops Q S ls l ds w := by
  refine ⟨fun hS fuel hf => ?_⟩
  have h1 : i < ops.size ∧ ls.getD i true = false := by
    unfold tkG at hb
    cases hi : ops[i]? with
    | none => rw [hi] at hb; cases hb
    | some o =>
      rw [hi] at hb
      simp only [Bool.and_eq_true, Bool.not_eq_true'] at hb
      refine ⟨(Array.getElem?_eq_some_iff.1 hi).1, ?_⟩
      have := hb.1.2
      rw [Array.getD_eq_getD_getElem?] at this
      rw [List.getD_eq_getElem?_getD]
      simpa using this
  have h2 := lftB_set h1.1 h1.2
  obtain ⟨f, rfl⟩ : ∃ f, fuel = f + 1 := ⟨fuel - 1, by omega⟩
  refine take_yld i d v hq.s hq.q hb (hy hS) hS ?_
  rw [put_putL]
  have := h.out hS f (by omega)
  simpa using this
/-- All that is ready, quiet or told, among is, in that order: what has come up, what stands, which cells were looked at. -/
def autoL (P : Program) (ops : Array Oper) (ds : List Deferred) : List Nat → List Bool → List Value → List Told → List Bool × List Value × List (TypeId × Value)
  | [], ls, l, _ => (ls, l, [])
  | i :: is, ls, l, hs =>
    if tkG ops ls.toArray i (opI ops i).dst then
      if Region.wanted (opI ops i) (yielded ops l.toArray) then
        match (opI ops i).op with
        | .load T x => match hs with
          | t :: hs => match openL (putL l (opI ops i).dst t.2.2) fun l' => autoL P ops ds is (ls.set i true) l' hs with
            | (r1, r2, r3) => (r1, r2, (T, (⟨l.toArray, ds⟩ : Act).eval x) :: r3)
          | [] => autoL P ops ds is ls l []
        | _ => match quiet P (execOp (⟨l.toArray, ds⟩ : Act).eval (opI ops i)) with
          | some (.value v) => openL (putL l (opI ops i).dst v) fun l' => autoL P ops ds is (ls.set i true) l' hs
          | _ => autoL P ops ds is ls l hs
      else openL (putL l (opI ops i).dst undef) fun l' => autoL P ops ds is (ls.set i true) l' hs
    else autoL P ops ds is ls l hs
theorem auto_sound {ds : List Deferred} {w : World} (hq : NtQ ops Q) : ∀ (is : List Nat) (ls : List Bool) (l : List Value) (hs : List Told) (ls' : List Bool) (l' : List Value), autoL P ops ds is ls l hs = (ls', l', hs.map tp) → (∀ w, S w → Lds P w hs) → wpT P ops Q S ls' l' ds w → wpT P ops Q S ls l ds w
  | [], ls, l, hs, ls', l', h, _, H => by
    simp only [autoL, Prod.mk.injEq] at h
    rw [h.1, h.2.1]; exact H
  | i :: is, ls, l, hs, ls', l', h, hl, H => by
    unfold autoL at h
    split at h
    · rename_i hb
      split at h
      · rename_i hw
        split at h
        · rename_i T x ho
          cases hs with
          | nil => exact auto_sound hq is ls l [] ls' l' h hl H
          | cons t hs =>
            obtain ⟨T', ad, v⟩ := t
            simp only [openL_eq] at h
            cases hr : autoL P ops ds is (ls.set i true) (putL l (opI ops i).dst v) hs with
            | mk r1 r =>
              obtain ⟨r2, r3⟩ := r
              rw [hr] at h
              simp only [List.map_cons, Prod.mk.injEq, List.cons.injEq, tp] at h
              obtain ⟨rfl, rfl, ⟨rfl, e2⟩, e3⟩ := h
              refine U_yld hq i _ v hb (fun _ => Or.inl ⟨hw, fun w hS => ?_⟩) (auto_sound hq is _ _ hs r1 r2 (by rw [hr, e3]) (fun w hS s hs => hl w hS s (List.mem_cons_of_mem _ hs)) H)
              have := hl w hS _ (List.mem_cons_self ..)
              unfold execOp
              simp only [ho, e2, Sem.run_bind, Sem.run_pure]
              simp only [this, Result.andThen_ok]
        · split at h
          · rename_i v hv
            rw [openL_eq] at h
            exact U_yld hq i _ v hb (fun _ => Or.inl ⟨hw, fun w _ => quiet_run hv w⟩) (auto_sound hq is _ _ hs ls' l' h hl H)
          · exact auto_sound hq is ls l hs ls' l' h hl H
      · rename_i hw
        rw [openL_eq] at h
        exact U_yld hq i _ undef hb (fun _ => Or.inr ⟨by simpa using hw, rfl⟩) (auto_sound hq is _ _ hs ls' l' h hl H)
    · exact auto_sound hq is ls l hs ls' l' h hl H
/-- Of n all have come up but these. -/
def unl (n : Nat) (r : List Nat) : List Bool := (List.range n).map fun i => !r.contains i
/-- All that is ready among is, by one look; behind it only what is said is known. -/
theorem U_q {ls : List Bool} {l : List Value} {ds : List Deferred} {w : World} (hq : NtQ ops Q) (is r : List Nat) (n N : Nat) (s : List (Nat × Value)) (hs : List Told) (h : (fun r => (lookL s r.2.1, r.1, r.2.2)) (autoL P ops ds is ls l hs) = ((N, s.map (·.2)), unl n r, hs.map tp)) (hl : ∀ w, S w → Lds P w hs) (H : ∀ v, wpT P ops Q S (unl n r) (frL v N s) ds w) : wpT P ops Q S ls l ds w := by
  cases hr : autoL P ops ds is ls l hs with
  | mk r1 r' =>
    obtain ⟨r2, r3⟩ := r'
    rw [hr] at h
    have h1 := congrArg Prod.fst h
    have h2 := congrArg (fun x => x.2.1) h
    have h3 := congrArg (fun x => x.2.2) h
    simp only at h1 h2 h3
    subst h2 h3
    obtain ⟨v, rfl⟩ := look_fr h1
    exact auto_sound hq is ls l hs _ _ hr hl (H v)
/-- One that is ready is carried out. -/
def wpO (P : Program) (ops : Array Oper) (Q : Exit → Act → World → Prop) (S : World → Prop) (i : Nat) (ls : List Bool) (l : List Value) (ds : List Deferred) (w : World) : Prop :=
  wpOp P ops Q i (fun a' w' => S w' ∧ ∃ l', a' = ⟨l'.toArray, ds⟩ ∧ wpT P ops Q S (ls.set i true) l' ds w') ⟨l.toArray, ds⟩ w
theorem U_all {ls : List Bool} {l : List Value} {ds : List Deferred} {w : World} (rs : List Nat) (hr : Region.ready .any ops ls.toArray = rs) (hne : rs ≠ []) (h : ∀ i ∈ rs, S w → wpO P ops Q S i ls l ds w) : wpT P ops Q S ls l ds w := by
  refine ⟨fun hS fuel hf => ?_⟩
  obtain ⟨f, rfl⟩ : ∃ f, fuel = f + 1 := by
    cases rs with
    | nil => exact absurd rfl hne
    | cons i rs =>
      have hi : i ∈ Region.ready .any ops ls.toArray := by rw [hr]; exact List.mem_cons_self ..
      unfold Region.ready at hi
      rw [List.mem_filter] at hi
      simp only [Bool.and_eq_true, Bool.not_eq_true'] at hi
      have h2 := lftB_set (List.mem_range.1 hi.1) (by have := hi.2.1; rw [Array.getD_eq_getD_getElem?] at this; rw [List.getD_eq_getElem?_getD]; simpa using this)
      exact ⟨fuel - 1, by omega⟩
  refine wpAnyH_all hr hne fun i hi => ?_
  have hi2 : i ∈ Region.ready .any ops ls.toArray := by rw [hr]; exact hi
  unfold Region.ready at hi2
  rw [List.mem_filter] at hi2
  simp only [Bool.and_eq_true, Bool.not_eq_true'] at hi2
  have h2 := lftB_set (List.mem_range.1 hi2.1) (by have := hi2.2.1; rw [Array.getD_eq_getD_getElem?] at this; rw [List.getD_eq_getElem?_getD]; simpa using this)
  refine wpOp_mono (fun a' w' hh => ?_) (h i hi hS)
  obtain ⟨hS', l', rfl, ht⟩ := hh
  refine ⟨hS', ?_⟩
  have := ht.out hS' f (by omega)
  simpa using this
theorem U_one {ls : List Bool} {l : List Value} {ds : List Deferred} {w : World} (i : Nat) (hr : Region.ready .any ops ls.toArray = [i]) (h : S w → wpO P ops Q S i ls l ds w) : wpT P ops Q S ls l ds w :=
  U_all [i] hr (by simp) fun j hj => by rw [List.mem_singleton.1 hj]; exact h
theorem U_two {ls : List Bool} {l : List Value} {ds : List Deferred} {w : World} (i k : Nat) (hr : Region.ready .any ops ls.toArray = [i, k]) (h : S w → wpO P ops Q S i ls l ds w) (h2 : S w → wpO P ops Q S k ls l ds w) : wpT P ops Q S ls l ds w :=
  U_all [i, k] hr (by simp) fun j hj => by
    simp only [List.mem_cons, List.not_mem_nil, or_false] at hj
    rcases hj with rfl | rfl
    · exact h
    · exact h2
theorem U_done {ls : List Bool} {l : List Value} {ds : List Deferred} {w : World} (hr : Region.ready .any ops ls.toArray = []) (h : S w → Q .normal ⟨l.toArray, ds⟩ w) : wpT P ops Q S ls l ds w :=
  ⟨fun hS fuel _ => wpAnyH_done hr (h hS) fuel⟩
/-- What operation i calls, if it calls, and where its answer goes. -/
def entB (P : Program) (ops : Array Oper) (ds : List Deferred) (i : Nat) (l : List Value) : Option (Option Tmp × FuncId × Array Value) :=
  if opG ops i (opI ops i).dst && Region.wanted (opI ops i) (yielded ops l.toArray) then
    match quiet P (execOp (⟨l.toArray, ds⟩ : Act).eval (opI ops i)) with
    | some (.enter f args) => some ((opI ops i).dst, f, args)
    | _ => none
  else none
theorem V_enter {i : Nat} {ls : List Bool} {l : List Value} {ds : List Deferred} {w : World} (d : Option Tmp) (f : FuncId) (args : Array Value) {R : Ending → World → Prop} (h : entB P ops ds i l = some (d, f, args)) (hc : Calls P f args w R) (H : ∀ e w', R e w' → ∃ u, e = .returned u ∧ S w' ∧ wpT P ops Q S (ls.set i true) (putL l d u) ds w') : wpO P ops Q S i ls l ds w := by
  unfold entB at h
  split at h
  · rename_i hb
    simp only [Bool.and_eq_true] at hb
    split at h
    · rename_i f' args' hx
      simp only [Option.some.injEq, Prod.mk.injEq] at h
      obtain ⟨rfl, rfl, rfl⟩ := h
      refine op_enterG _ _ _ hb.1 hb.2 (quiet_run hx w) hc fun e w' he => ?_
      obtain ⟨u, rfl, h1, h2⟩ := H e w' he
      exact ⟨u, rfl, h1, _, put_putL .., h2⟩
    · cases h
  · cases h
/-- Operation i, with whatever it yields and does. -/
theorem V_val {i : Nat} {ls : List Bool} {l : List Value} {ds : List Deferred} {w w' : World} (d : Option Tmp) (v : Value) (hb : opB ops i d = true) (hr : (execOp (⟨l.toArray, ds⟩ : Act).eval (opI ops i)).run P w = .ok (.value v) w') (hS : S w') (H : wpT P ops Q S (ls.set i true) (putL l d v) ds w') : wpO P ops Q S i ls l ds w :=
  op_val d v hb hr ⟨hS, _, put_putL .., H⟩
theorem V_skip {i : Nat} {ls : List Bool} {l : List Value} {ds : List Deferred} {w w' : World} (d : Option Tmp) (hb : opB ops i d = true) (hr : (execOp (⟨l.toArray, ds⟩ : Act).eval (opI ops i)).run P w = .ok .skip w') (hS : S w') (H : wpT P ops Q S (ls.set i true) (putL l d undef) ds w') : wpO P ops Q S i ls l ds w :=
  op_skip d hb hr ⟨hS, _, put_putL .., H⟩
/-- As V_enter, at a plain region. -/
theorem F_enter {k : Nat} {l : List Value} {ds : List Deferred} {w : World} (d : Option Tmp) (f : FuncId) (args : Array Value) {R : Ending → World → Prop} (h : entB P ops ds k l = some (d, f, args)) (hc : Calls P f args w R) (H : ∀ e w', R e w' → ∃ u, e = .returned u ∧ wpFrom P ops Q (k + 1) ⟨(putL l d u).toArray, ds⟩ w') : wpFrom P ops Q k ⟨l.toArray, ds⟩ w := by
  unfold entB at h
  split at h
  · rename_i hb
    simp only [Bool.and_eq_true] at hb
    split at h
    · rename_i f' args' hx
      simp only [Option.some.injEq, Prod.mk.injEq] at h
      obtain ⟨rfl, rfl, rfl⟩ := h
      refine from_enter _ _ _ hb.1 hb.2 (quiet_run hx w) hc fun e w' he => ?_
      obtain ⟨u, rfl, h1⟩ := H e w' he
      exact ⟨u, rfl, by rw [put_putL]; exact h1⟩
    · cases h
  · cases h
/-- What operation k yields, if it is quiet, and where it goes. -/
def oneB (P : Program) (ops : Array Oper) (ds : List Deferred) (k : Nat) (l : List Value) : Option (Option Tmp × Value) :=
  if opG ops k (opI ops k).dst && Region.wanted (opI ops k) (yielded ops l.toArray) then
    match quiet P (execOp (⟨l.toArray, ds⟩ : Act).eval (opI ops k)) with
    | some (.value v) => some ((opI ops k).dst, v)
    | _ => none
  else none
theorem oneB_spec {ds : List Deferred} {k : Nat} {l : List Value} {d : Option Tmp} {v : Value} (h : oneB P ops ds k l = some (d, v)) : opG ops k d = true ∧ Region.wanted (opI ops k) (yielded ops l.toArray) = true ∧ quiet P (execOp (⟨l.toArray, ds⟩ : Act).eval (opI ops k)) = some (.value v) ∧ (opI ops k).dst = d := by
  unfold oneB at h
  split at h
  · rename_i hb
    simp only [Bool.and_eq_true] at hb
    split at h
    · rename_i v' hx
      simp only [Option.some.injEq, Prod.mk.injEq] at h
      obtain ⟨h1, h2⟩ := h
      exact ⟨h1 ▸ hb.1, hb.2, h2 ▸ hx, h1⟩
    · cases h
  · cases h
/-- One operation of a plain region, whose value is said in other words. -/
theorem F_one {k : Nat} {l : List Value} {ds : List Deferred} {w : World} (d : Option Tmp) (v v' : Value) (hv : v = v') (h : oneB P ops ds k l = some (d, v)) (H : wpFrom P ops Q (k + 1) ⟨(putL l d v').toArray, ds⟩ w) : wpFrom P ops Q k ⟨l.toArray, ds⟩ w := by
  obtain ⟨h1, h2, h3, -⟩ := oneB_spec h
  refine from_val d v v' hv h1 h2 (quiet_run h3 w) ?_
  rw [put_putL]
  exact H
/-- The same in a region that draws. -/
theorem U_val {i : Nat} {ls : List Bool} {l : List Value} {ds : List Deferred} {w : World} (hq : NtQ ops Q) (d : Option Tmp) (v v' : Value) (hv : v = v') (hb : tkG ops ls.toArray i d = true) (h : oneB P ops ds i l = some (d, v)) (H : wpT P ops Q S (ls.set i true) (putL l d v') ds w) : wpT P ops Q S ls l ds w := by
  obtain ⟨h1, h2, h3, -⟩ := oneB_spec h
  subst hv
  exact U_yld hq i d v hb (fun _ => Or.inl ⟨h2, fun w _ => quiet_run h3 w⟩) H
/-- What stands behind all that is ready among is, as the look gives it. -/
theorem U_a {ls : List Bool} {l : List Value} {ds : List Deferred} {w : World} (hq : NtQ ops Q) (is : List Nat) {hs : List Told} (hl : ∀ w, S w → Lds P w hs) (h : (autoL P ops ds is ls l hs).2.2 = hs.map tp) (H : wpT P ops Q S (autoL P ops ds is ls l hs).1 (autoL P ops ds is ls l hs).2.1 ds w) : wpT P ops Q S ls l ds w := by
  cases hr : autoL P ops ds is ls l hs with
  | mk r1 r' =>
    obtain ⟨r2, r3⟩ := r'
    rw [hr] at h H
    simp only at h H
    subst h
    exact auto_sound hq is ls l hs r1 r2 hr hl H
/-- The same where no cell is looked at. -/
theorem U_z {ls : List Bool} {l : List Value} {ds : List Deferred} {w : World} (hq : NtQ ops Q) (is : List Nat) (h : (autoL P ops ds is ls l []).2.2 = []) (H : wpT P ops Q S (autoL P ops ds is ls l []).1 (autoL P ops ds is ls l []).2.1 ds w) : wpT P ops Q S ls l ds w :=
  U_a hq is (fun _ _ => Lds.nil) h H
/-- Of what stands only what is said is kept. -/
theorem U_fr {ls : List Bool} {l : List Value} {ds : List Deferred} {w : World} (n N : Nat) (r : List Nat) (s : List (Nat × Value)) (h : (ls, lookL s l) = (unl n r, (N, s.map (·.2)))) (H : ∀ v, wpT P ops Q S (unl n r) (frL v N s) ds w) : wpT P ops Q S ls l ds w := by
  have h1 := congrArg Prod.fst h
  have h2 := congrArg Prod.snd h
  simp only at h1 h2
  subst h1
  obtain ⟨v, rfl⟩ := look_fr h2
  exact H v
/-- All have come up; of what stands only what is said is kept. -/
theorem U_end {ls : List Bool} {l : List Value} {ds : List Deferred} {w : World} (N : Nat) (s : List (Nat × Value)) (hr : Region.ready .any ops ls.toArray = []) (h : lookL s l = (N, s.map (·.2))) (H : S w → ∀ v, Q .normal ⟨(frL v N s).toArray, ds⟩ w) : wpT P ops Q S ls l ds w := by
  obtain ⟨v, rfl⟩ := look_fr h
  exact U_done hr fun hS => H hS v
/-- What operation i calls, if it calls. -/
def callB (P : Program) (ops : Array Oper) (ds : List Deferred) (i : Nat) (l : List Value) : Option (FuncId × Array Value) := (entB P ops ds i l).map (·.2)
theorem callB_spec {ds : List Deferred} {i : Nat} {l : List Value} {f : FuncId} {args : Array Value} (h : callB P ops ds i l = some (f, args)) : entB P ops ds i l = some ((opI ops i).dst, f, args) := by
  unfold callB at h
  rw [Option.map_eq_some_iff] at h
  obtain ⟨⟨d, f', a'⟩, h1, h2⟩ := h
  simp only [Prod.mk.injEq] at h2
  obtain ⟨rfl, rfl⟩ := h2
  rw [h1]
  unfold entB at h1
  split at h1
  · split at h1
    · simp only [Option.some.injEq, Prod.mk.injEq] at h1
      rw [h1.1]
    · cases h1
  · cases h1
/-- Operation i calls; its contract says all. -/
theorem V_go {i : Nat} {ls : List Bool} {l : List Value} {ds : List Deferred} {w : World} {f : FuncId} {args : Array Value} {R : Ending → World → Prop} (hc : Calls P f args w R) (h : callB P ops ds i l = some (f, args)) (H : ∀ e w', R e w' → ∃ u, e = .returned u ∧ S w' ∧ wpT P ops Q S (ls.set i true) (putL l (opI ops i).dst u) ds w') : wpO P ops Q S i ls l ds w :=
  V_enter _ f args (callB_spec h) hc H
/-- Operation i calls what answers u and turns nothing that stood. -/
theorem V_call {i : Nat} {ls : List Bool} {l : List Value} {ds : List Deferred} {w : World} {f : FuncId} {args : Array Value} {u : Value} {T : World → Prop} (hc : Calls P f args w fun e w' => e = .returned u ∧ T w') (hon : ∀ w', T w' → S w') (h : callB P ops ds i l = some (f, args)) (H : ∀ w', T w' → wpT P ops Q S (ls.set i true) (putL l (opI ops i).dst u) ds w') : wpO P ops Q S i ls l ds w :=
  V_go hc h fun _ w' ⟨he, hT⟩ => ⟨u, he, hon w' hT, H w' hT⟩
/-- The same at a plain region. -/
theorem F_go {k : Nat} {l : List Value} {ds : List Deferred} {w : World} {f : FuncId} {args : Array Value} {R : Ending → World → Prop} (hc : Calls P f args w R) (h : callB P ops ds k l = some (f, args)) (H : ∀ e w', R e w' → ∃ u, e = .returned u ∧ wpFrom P ops Q (k + 1) ⟨(putL l (opI ops k).dst u).toArray, ds⟩ w') : wpFrom P ops Q k ⟨l.toArray, ds⟩ w :=
  F_enter _ f args (callB_spec h) hc H
theorem F_call {k : Nat} {l : List Value} {ds : List Deferred} {w : World} {f : FuncId} {args : Array Value} {u : Value} {T : World → Prop} (hc : Calls P f args w fun e w' => e = .returned u ∧ T w') (h : callB P ops ds k l = some (f, args)) (H : ∀ w', T w' → wpFrom P ops Q (k + 1) ⟨(putL l (opI ops k).dst u).toArray, ds⟩ w') : wpFrom P ops Q k ⟨l.toArray, ds⟩ w :=
  F_go hc h fun _ w' ⟨he, hT⟩ => ⟨u, he, H w' hT⟩
theorem Lds.one {w : World} {T : TypeId} {ad : Addr} {v : Value} (h : (Instr.loadAt T (.pointer (some ad))).run P w = .ok v w) : Lds P w [(T, ad, v)] := h |> (Lds.cons · .nil)
/-- n operations from k on, as the look gives it. -/
theorem from_a {k : Nat} {l : List Value} {ds : List Deferred} {w : World} (n : Nat) {hs : List Told} (hl : Lds P w hs) (h : (fromL P ops ds n (ops.toList.drop k) l hs).map (·.2) = some (hs.map tp)) (H : wpFrom P ops Q (k + n) ⟨(((fromL P ops ds n (ops.toList.drop k) l hs).getD ([], [])).1).toArray, ds⟩ w) : wpFrom P ops Q k ⟨l.toArray, ds⟩ w := by
  rw [Option.map_eq_some_iff] at h
  obtain ⟨⟨l', m⟩, h1, h2⟩ := h
  simp only at h2
  subst h2
  rw [h1] at H
  exact fromL_sound n k _ l _ hs rfl h1 hl H
end
end Go.Proofs.YtenpghndgdemnaaGreatDoor

/- Regions that draw their order, as Rf2 has them, with what has come up and what stands as one: no program. No conditions. -/

namespace Go.Proofs.YtenpghndgdemnaaGreatDoor
open Go Go.RowKit

section
variable {P : Program} {ops : Array Oper} {Q : Exit → Act → World → Prop} {S : World → Prop}
/-- What has come up, and what stands. -/
abbrev Stt := List Bool × List Value
structure wpS (P : Program) (ops : Array Oper) (Q : Exit → Act → World → Prop) (S : World → Prop) (st : Stt) (ds : List Deferred) (w : World) : Prop where
  out : wpT P ops Q S st.1 st.2 ds w
/-- All that is ready and quiet or told, among is. -/
def autoS (P : Program) (ops : Array Oper) (ds : List Deferred) (is : List Nat) (hs : List Told) : Stt → Stt × List (TypeId × Value)
  | (ls, l) => match autoL P ops ds is ls l hs with
    | (a, b, c) => ((a, b), c)
def setS (i : Nat) (d : Option Tmp) (u : Value) : Stt → Stt
  | (ls, l) => (ls.set i true, putL l d u)
def rdyS (ops : Array Oper) : Stt → List Nat
  | (ls, _) => Region.ready .any ops ls.toArray
theorem T_start {l : List Value} {ds : List Deferred} {id : Nat} {w : World} (hm : P.follows .mixedOrders = true) (hS : S w.drew) (h : wpS P ops Q S (List.replicate ops.size false, l) ds w.drew) : (Code.region id ops true).wp P Q ⟨l.toArray, ds⟩ w := U_start hm hS h.out
theorem T_a {st : Stt} {ds : List Deferred} {w : World} (hq : NtQ ops Q) (is : List Nat) {hs : List Told} (hl : ∀ w, S w → Lds P w hs) (h : (autoS P ops ds is hs st).2 = hs.map tp) (H : wpS P ops Q S (autoS P ops ds is hs st).1 ds w) : wpS P ops Q S st ds w := by
  obtain ⟨ls, l⟩ := st
  refine ⟨U_a hq is hl h H.out⟩
theorem T_z {st : Stt} {ds : List Deferred} {w : World} (hq : NtQ ops Q) (is : List Nat) (h : (autoS P ops ds is [] st).2 = []) (H : wpS P ops Q S (autoS P ops ds is [] st).1 ds w) : wpS P ops Q S st ds w := T_a hq is (fun _ _ => Lds.nil) h H
theorem T_fr {st : Stt} {ds : List Deferred} {w : World} (n N : Nat) (r : List Nat) (s : List (Nat × Value)) (h : (st.1, lookL s st.2) = (unl n r, (N, s.map (·.2)))) (H : ∀ v, wpS P ops Q S (unl n r, frL v N s) ds w) : wpS P ops Q S st ds w := ⟨U_fr n N r s h fun v => (H v).out⟩
theorem T_end {st : Stt} {ds : List Deferred} {w : World} (N : Nat) (s : List (Nat × Value)) (hr : rdyS ops st = []) (h : lookL s st.2 = (N, s.map (·.2))) (H : S w → ∀ v, Q .normal ⟨(frL v N s).toArray, ds⟩ w) : wpS P ops Q S st ds w := ⟨U_end N s hr h H⟩
/-- One that is ready is carried out. -/
structure wpP (P : Program) (ops : Array Oper) (Q : Exit → Act → World → Prop) (S : World → Prop) (i : Nat) (st : Stt) (ds : List Deferred) (w : World) : Prop where
  out : wpO P ops Q S i st.1 st.2 ds w
theorem T_all {st : Stt} {ds : List Deferred} {w : World} (rs : List Nat) (hr : rdyS ops st = rs) (hne : rs ≠ []) (h : ∀ i ∈ rs, S w → wpP P ops Q S i st ds w) : wpS P ops Q S st ds w := ⟨U_all rs hr hne fun i hi hS => (h i hi hS).out⟩
theorem T_one {st : Stt} {ds : List Deferred} {w : World} (i : Nat) (hr : rdyS ops st = [i]) (h : S w → wpP P ops Q S i st ds w) : wpS P ops Q S st ds w := ⟨U_one i hr fun hS => (h hS).out⟩
theorem T_two {st : Stt} {ds : List Deferred} {w : World} (i k : Nat) (hr : rdyS ops st = [i, k]) (h : S w → wpP P ops Q S i st ds w) (h2 : S w → wpP P ops Q S k st ds w) : wpS P ops Q S st ds w := ⟨U_two i k hr (fun hS => (h hS).out) fun hS => (h2 hS).out⟩
/-- What operation i calls, if it calls. -/
def callS (P : Program) (ops : Array Oper) (ds : List Deferred) (i : Nat) : Stt → Option (FuncId × Array Value)
  | (_, l) => callB P ops ds i l
theorem O_go {i : Nat} {st : Stt} {ds : List Deferred} {w : World} {f : FuncId} {args : Array Value} {R : Ending → World → Prop} (hc : Calls P f args w R) (h : callS P ops ds i st = some (f, args)) (H : ∀ e w', R e w' → ∃ u, e = .returned u ∧ S w' ∧ wpS P ops Q S (setS i (opI ops i).dst u st) ds w') : wpP P ops Q S i st ds w :=
  ⟨V_go hc h fun e w' hr => by obtain ⟨u, h1, h2, h3⟩ := H e w' hr; exact ⟨u, h1, h2, h3.out⟩⟩
theorem O_call {i : Nat} {st : Stt} {ds : List Deferred} {w : World} {f : FuncId} {args : Array Value} {u : Value} {T : World → Prop} (hc : Calls P f args w fun e w' => e = .returned u ∧ T w') (hon : ∀ w', T w' → S w') (h : callS P ops ds i st = some (f, args)) (H : ∀ w', T w' → wpS P ops Q S (setS i (opI ops i).dst u st) ds w') : wpP P ops Q S i st ds w :=
  O_go hc h fun _ w' ⟨he, hT⟩ => ⟨u, he, hon w' hT, H w' hT⟩
theorem O_val {i : Nat} {st : Stt} {ds : List Deferred} {w w' : World} (d : Option Tmp) (v : Value) (hb : opB ops i d = true) (hr : (execOp (⟨st.2.toArray, ds⟩ : Act).eval (opI ops i)).run P w = .ok (.value v) w') (hS : S w') (H : wpS P ops Q S (setS i d v st) ds w') : wpP P ops Q S i st ds w := ⟨V_val d v hb hr hS H.out⟩
theorem O_skip {i : Nat} {st : Stt} {ds : List Deferred} {w w' : World} (d : Option Tmp) (hb : opB ops i d = true) (hr : (execOp (⟨st.2.toArray, ds⟩ : Act).eval (opI ops i)).run P w = .ok .skip w') (hS : S w') (H : wpS P ops Q S (setS i d undef st) ds w') : wpP P ops Q S i st ds w := ⟨V_skip d hb hr hS H.out⟩
/-- By a law on lists of operations. -/
theorem O_list {i : Nat} {st : Stt} {ds : List Deferred} {w : World} (d : Option Tmp) (hb : opB ops i d = true) (h : wpList P ops (Nrm (fun a' w' => S w' ∧ ∃ l', a' = ⟨l'.toArray, ds⟩ ∧ wpS P ops Q S (st.1.set i true, l') ds w') Q) [opI ops i] ⟨st.2.toArray, ds⟩ w) : wpP P ops Q S i st ds w :=
  ⟨wpOp_mono (fun _ _ ⟨h1, l', h2, h3⟩ => ⟨h1, l', h2, h3.out⟩) (op_list d hb h)⟩
/-- A store of one cell. -/
theorem O_store {i : Nat} {st : Stt} {ds : List Deferred} {w : World} (d : Option Tmp) (ty : TypeId) (x y : Operand) (ad : Addr) (v : Value) (w' : World) (hb : opB ops i d = true) (ho : (opI ops i).op = .store ty x y) (hxy : ((⟨st.2.toArray, ds⟩ : Act).eval x, (⟨st.2.toArray, ds⟩ : Act).eval y) = (.pointer (some ad), v)) (hr : (Instr.storeAt ty (.pointer (some ad)) v).run P w = .ok () w') (hS : S w') (H : wpS P ops Q S (setS i d undef st) ds w') : wpP P ops Q S i st ds w := by
  obtain ⟨hx, hy⟩ := Prod.mk.inj hxy
  refine O_skip d hb ?_ hS H
  unfold execOp
  simp only [ho, hx, hy, Sem.run_bind, Sem.run_pure, Result.andThen_ok, hr]
/-- A store of a struct of many cells. -/
theorem O_store_mid {i : Nat} {st : Stt} {ds : List Deferred} {w : World} (d : Option Tmp) (ty : TypeId) (x y : Operand) (b o : Nat) (cells : Array Value) (hb : opB ops i d = true) (ho : (opI ops i).op = .store ty x y) (hxy : ((⟨st.2.toArray, ds⟩ : Act).eval x, (⟨st.2.toArray, ds⟩ : Act).eval y) = (.pointer (some ⟨b, o, none⟩), .agg cells)) (ht : w.there b o cells.size) (hi : (P.info? ty).map (·.size) = some cells.size) (h1 : cells.all (·.oneCell') = true) (hS : S (w.setCells b o cells.toList)) (H : wpS P ops Q S (setS i d undef st) ds (w.setCells b o cells.toList)) : wpP P ops Q S i st ds w := by
  obtain ⟨hx, hy⟩ := Prod.mk.inj hxy
  refine O_skip d hb ?_ hS H
  unfold execOp
  simp only [ho, hx, hy, Instr.storeAt, Instr.sureAddr, Sem.run_bind, Sem.run_pure, Result.andThen_ok, run_storeVar_mid w b o ty cells ht hi h1]
/-- One operation of a plain region that makes memory, or turns it. -/
theorem F_new {k : Nat} {l : List Value} {ds : List Deferred} {w w' : World} (d : Option Tmp) (v : Value) (hb : opG ops k d = true) (hw : Region.wanted (opI ops k) (yielded ops l.toArray) = true) (hr : (execOp (⟨l.toArray, ds⟩ : Act).eval (opI ops k)).run P w = .ok (.value v) w') (H : wpFrom P ops Q (k + 1) ⟨(putL l d v).toArray, ds⟩ w') : wpFrom P ops Q k ⟨l.toArray, ds⟩ w := by
  have hd : (opI ops k).dst = d := by unfold opG at hb; simp only [Bool.and_eq_true, decide_eq_true_eq] at hb; exact hb.2
  refine from_step hb ?_
  rw [if_pos hw]
  unfold Oper.wp
  rw [hr, Oper.upon_value, hd, put_putL]
  exact H
/-- Operation i is quiet; its value is said in other words. -/
theorem T_val {i : Nat} {st : Stt} {ds : List Deferred} {w : World} (hq : NtQ ops Q) (d : Option Tmp) (v v' : Value) (hv : v = v') (hb : tkG ops st.1.toArray i d = true) (h : oneB P ops ds i st.2 = some (d, v)) (H : wpS P ops Q S (setS i d v' st) ds w) : wpS P ops Q S st ds w := ⟨U_val hq d v v' hv hb h H.out⟩
/-- Operation i yields v, by whatever reason, wherever S holds. -/
theorem T_yld {st : Stt} {ds : List Deferred} {w : World} (hq : NtQ ops Q) (i : Nat) (d : Option Tmp) (v : Value) (hb : tkG ops st.1.toArray i d = true) (hw : Region.wanted (opI ops i) (yielded ops st.2.toArray) = true) (hy : ∀ w, S w → (execOp (⟨st.2.toArray, ds⟩ : Act).eval (opI ops i)).run P w = .ok (.value v) w) (H : wpS P ops Q S (setS i d v st) ds w) : wpS P ops Q S st ds w :=
  ⟨U_yld hq i d v hb (fun _ => Or.inl ⟨hw, hy⟩) H.out⟩
end
end Go.Proofs.YtenpghndgdemnaaGreatDoor
