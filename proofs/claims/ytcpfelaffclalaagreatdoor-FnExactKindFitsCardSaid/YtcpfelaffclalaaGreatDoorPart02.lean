/- Great plain regions, operation by operation, each side condition by one look of the kernel's: no program. No conditions. -/
import Derived.Test.YtcpfelaffclalaaGreatDoorPart01
namespace Go.Proofs.YtcpfelaffclalaaGreatDoor
open Go Go.RowKit

section
variable {P : Program} {ops : Array Oper} {Q : Exit → Act → World → Prop}
/-- From operation k on. -/
structure wpFrom (P : Program) (ops : Array Oper) (Q : Exit → Act → World → Prop) (k : Nat) (a : Act) (w : World) : Prop where
  out : wpList P ops Q (ops.toList.drop k) a w
theorem wp_region_from {id : Nat} {a : Act} {w : World} (h : wpFrom P ops Q 0 a w) : (Code.region id ops false).wp P Q a w := wp_region_list (by simpa using h.out)
theorem from_eq {k : Nat} {a a' : Act} {w : World} (ha : a = a') (h : wpFrom P ops Q k a' w) : wpFrom P ops Q k a w := by rw [ha]; exact h
theorem from_end {k : Nat} {a : Act} {w : World} (hk : decide (ops.size ≤ k) = true) (h : Q .normal a w) : wpFrom P ops Q k a w := by
  refine ⟨?_⟩
  rw [List.drop_eq_nil_of_le (by simpa using hk)]
  exact h
theorem from_step {k : Nat} {a : Act} {w : World} {d : Option Tmp} (hb : opG ops k d = true)
    (h : if Region.wanted (opI ops k) (yielded ops a.tmps) then (opI ops k).wp P a w (wpFrom P ops Q (k + 1)) Q else wpFrom P ops Q (k + 1) (a.put d undef) w) : wpFrom P ops Q k a w := by
  unfold opG at hb
  simp only [Bool.and_eq_true, decide_eq_true_eq] at hb
  obtain ⟨h1, h2⟩ := hb
  have hl : ops.toList.drop k = opI ops k :: ops.toList.drop (k + 1) := by
    rw [List.drop_eq_getElem_cons (by simpa using h1)]
    congr 1
    unfold opI
    rw [Array.getElem?_eq_getElem h1]
    rfl
  refine ⟨?_⟩
  rw [hl]
  unfold wpList
  subst h2
  by_cases hw : Region.wanted (opI ops k) (yielded ops a.tmps) = true
  · rw [if_pos hw] at h ⊢; exact Or.inl (Oper.wp_mono (fun a w h => h.out) h)
  · rw [if_neg hw] at h ⊢; exact h.out
theorem from_skip {k : Nat} {a : Act} {w : World} (d : Option Tmp) (hb : opG ops k d = true) (hw : Region.wanted (opI ops k) (yielded ops a.tmps) = false) (h : wpFrom P ops Q (k + 1) (a.put d undef) w) : wpFrom P ops Q k a w :=
  from_step hb (by rw [if_neg (by rw [hw]; simp)]; exact h)
theorem from_val {k : Nat} {a : Act} {w : World} (d : Option Tmp) (v v' : Value) (hv : v = v') (hb : opG ops k d = true) (hw : Region.wanted (opI ops k) (yielded ops a.tmps) = true) (hr : (execOp a.eval (opI ops k)).run P w = .ok (.value v) w) (h : wpFrom P ops Q (k + 1) (a.put d v') w) : wpFrom P ops Q k a w := by
  have hd : (opI ops k).dst = d := by unfold opG at hb; simp only [Bool.and_eq_true, decide_eq_true_eq] at hb; exact hb.2
  refine from_step hb ?_
  rw [if_pos hw]
  unfold Oper.wp
  rw [hr, Oper.upon_value, hd, hv]
  exact h
theorem from_load {k : Nat} {a : Act} {w : World} (d : Option Tmp) (T : TypeId) (x : Operand) (ad : Addr) (v : Value) (hb : opG ops k d = true) (hw : Region.wanted (opI ops k) (yielded ops a.tmps) = true) (ho : (opI ops k).op = .load T x) (hx : a.eval x = .pointer (some ad)) (hl : (Instr.loadAt T (.pointer (some ad))).run P w = .ok v w) (h : wpFrom P ops Q (k + 1) (a.put d v) w) : wpFrom P ops Q k a w := by
  refine from_val d v v rfl hb hw ?_ h
  unfold execOp
  simp only [ho, hx, Sem.run_bind, Sem.run_pure, Result.andThen_ok, hl]
theorem from_enter {k : Nat} {a : Act} {w : World} (d : Option Tmp) (f : FuncId) (args : Array Value) {R : Ending → World → Prop} (hb : opG ops k d = true) (hw : Region.wanted (opI ops k) (yielded ops a.tmps) = true) (hr : (execOp a.eval (opI ops k)).run P w = .ok (.enter f args) w) (hc : Calls P f args w R) (h : ∀ e w', R e w' → ∃ u, e = .returned u ∧ wpFrom P ops Q (k + 1) (a.put d u) w') : wpFrom P ops Q k a w := by
  have hd : (opI ops k).dst = d := by unfold opG at hb; simp only [Bool.and_eq_true, decide_eq_true_eq] at hb; exact hb.2
  refine from_step hb ?_
  rw [if_pos hw]
  unfold Oper.wp
  rw [hr]
  refine Calls.mono hc fun e w' he => ?_
  obtain ⟨u, rfl, hK⟩ := h e w' he
  rw [hd]
  exact hK
end
end Go.Proofs.YtcpfelaffclalaaGreatDoor

/- Runs of operations that look at no memory, or at cells that are told, by one look of the kernel's: no program. No conditions. -/

namespace Go.Proofs.YtcpfelaffclalaaGreatDoor
open Go Go.RowKit

section
variable {P : Program} {ops : Array Oper} {Q : Exit → Act → World → Prop} {S : World → Prop}
/-- What a piece gives that looks at no memory. -/
def quiet {α : Type} (P : Program) : Sem α → Option α
  | .pure a => some a
  | .program k => quiet P (k P)
  | .mark _ k => quiet P k
  | _ => none
theorem quiet_run {α : Type} {x : α} {s : Sem α} : quiet P s = some x → ∀ w, s.run P w = .ok x w := by
  induction s with
  | pure a => intro h w; simp only [quiet, Option.some.injEq] at h; rw [h]; rfl
  | program k ih => intro h w; exact ih P h w
  | mark m k ih => intro h w; exact ih h w
  | _ => intro h; simp [quiet] at h
/-- A cell that is told: its type, its place, what lies there. -/
abbrev Told := TypeId × Addr × Value
def tp (t : Told) : TypeId × Value := (t.1, .pointer (some t.2.1))
/-- Each told cell is as it is told. -/
def Lds (P : Program) (w : World) (hs : List Told) : Prop := ∀ t ∈ hs, (Instr.loadAt t.1 (.pointer (some t.2.1))).run P w = .ok t.2.2 w
theorem Lds.nil {w : World} : Lds P w [] := fun _ h => nomatch h
theorem Lds.cons {w : World} {T : TypeId} {ad : Addr} {v : Value} {hs : List Told} (h : (Instr.loadAt T (.pointer (some ad))).run P w = .ok v w) (h2 : Lds P w hs) : Lds P w ((T, ad, v) :: hs) := fun t ht => by
  rcases List.mem_cons.1 ht with rfl | ht
  · exact h
  · exact h2 t ht
theorem Lds.append {w : World} {h1 h2 : List Told} (a : Lds P w h1) (b : Lds P w h2) : Lds P w (h1 ++ h2) := fun t ht => (List.mem_append.1 ht).elim (a t) (b t)
theorem Lds.sub {w : World} {h1 h2 : List Told} (a : Lds P w h2) (b : ∀ t ∈ h1, t ∈ h2) : Lds P w h1 := fun t ht => a t (b t ht)
/-- The spine of a row, laid open. -/
def openL {β : Type} : List Value → (List Value → β) → β
  | [], k => k []
  | x :: xs, k => openL xs fun ys => k (x :: ys)
theorem openL_eq {β : Type} (l : List Value) : ∀ k : List Value → β, openL l k = k l := by
  induction l with
  | nil => intro k; rfl
  | cons x l ih => intro k; exact ih _
def putL (l : List Value) (d : Option Tmp) (v : Value) : List Value := match d with | some d => l.set d v | none => l
theorem put_putL (l : List Value) (ds : List Deferred) (d : Option Tmp) (v : Value) : (⟨l.toArray, ds⟩ : Act).put d v = ⟨(putL l d v).toArray, ds⟩ := by
  cases d with
  | none => rfl
  | some d => simp [Act.put, putL]
/-- n operations, the first of os first: what stands behind them, and which cells were looked at. -/
def fromL (P : Program) (ops : Array Oper) (ds : List Deferred) : Nat → List Oper → List Value → List Told → Option (List Value × List (TypeId × Value))
  | 0, _, l, _ => some (l, [])
  | _ + 1, [], _, _ => none
  | n + 1, o :: os, l, hs =>
    if Region.wanted o (yielded ops l.toArray) then
      match o.op with
      | .load T x => match hs with
        | t :: hs => (openL (putL l o.dst t.2.2) fun l' => fromL P ops ds n os l' hs).map fun r => (r.1, (T, (⟨l.toArray, ds⟩ : Act).eval x) :: r.2)
        | [] => none
      | _ => match quiet P (execOp (⟨l.toArray, ds⟩ : Act).eval o) with
        | some (.value v) => openL (putL l o.dst v) fun l' => fromL P ops ds n os l' hs
        | _ => none
    else openL (putL l o.dst undef) fun l' => fromL P ops ds n os l' hs
theorem drop_step {k : Nat} {o : Oper} {os : List Oper} (h : ops.toList.drop k = o :: os) : opG ops k o.dst = true ∧ opI ops k = o ∧ ops.toList.drop (k + 1) = os := by
  have hlt : k < ops.size := by
    rcases Nat.lt_or_ge k ops.size with h1 | h1
    · exact h1
    · rw [List.drop_eq_nil_of_le (by simpa using h1)] at h; cases h
  rw [List.drop_eq_getElem_cons (by simpa using hlt)] at h
  obtain ⟨h1, h2⟩ := List.cons.inj h
  have h3 : opI ops k = o := by unfold opI; rw [Array.getElem?_eq_getElem hlt]; exact h1
  exact ⟨by unfold opG; rw [h3]; simp [hlt], h3, h2⟩
theorem fromL_sound {ds : List Deferred} {w : World} : ∀ (n k : Nat) (os : List Oper) (l l' : List Value) (hs : List Told), ops.toList.drop k = os → fromL P ops ds n os l hs = some (l', hs.map tp) → Lds P w hs → wpFrom P ops Q (k + n) ⟨l'.toArray, ds⟩ w → wpFrom P ops Q k ⟨l.toArray, ds⟩ w
  | 0, k, os, l, l', hs, _, h, _, H => by
    simp only [fromL, Option.some.injEq, Prod.mk.injEq] at h
    rw [h.1]; exact H
  | _ + 1, _, [], _, _, _, _, h, _, _ => by simp [fromL] at h
  | n + 1, k, o :: os, l, l', hs, hd, h, hl, H => by
    obtain ⟨g1, g2, g3⟩ := drop_step hd
    have hk : k + (n + 1) = k + 1 + n := by omega
    rw [hk] at H
    unfold fromL at h
    split at h
    · rename_i hw
      split at h
      · rename_i T x ho
        cases hs with
        | nil => cases h
        | cons t hs =>
          obtain ⟨T', ad, v⟩ := t
          simp only [openL_eq, Option.map_eq_some_iff] at h
          obtain ⟨⟨r1, r2⟩, h1, h2⟩ := h
          simp only [List.map_cons, Prod.mk.injEq, List.cons.injEq, tp] at h2
          obtain ⟨rfl, ⟨rfl, e2⟩, rfl⟩ := h2
          refine from_load o.dst T x ad v g1 (by rw [g2]; exact hw) (by rw [g2]; exact ho) e2 (hl _ (List.mem_cons_self ..)) ?_
          rw [put_putL]
          exact fromL_sound n (k + 1) os _ _ hs g3 h1 (fun s hs => hl s (List.mem_cons_of_mem _ hs)) H
      · split at h
        · rename_i v hq
          rw [openL_eq] at h
          refine from_val o.dst v v rfl g1 (by rw [g2]; exact hw) (by rw [g2]; exact quiet_run hq w) ?_
          rw [put_putL]
          exact fromL_sound n (k + 1) os _ _ hs g3 h hl H
        · cases h
    · rename_i hw
      rw [openL_eq] at h
      refine from_skip o.dst g1 (by rw [g2]; simpa using hw) ?_
      rw [put_putL]
      exact fromL_sound n (k + 1) os _ _ hs g3 h hl H
/-- A row of n slots: what is said of it, the rest anything. -/
def frL (v : Nat → Value) (n : Nat) (s : List (Nat × Value)) : List Value := (List.range n).map fun i => (s.lookup i).getD (v i)
/-- The same, slot by slot (to be laid open by simp). -/
def frG (v : Nat → Value) (s : List (Nat × Value)) : Nat → Nat → List Value
  | _, 0 => []
  | i, n + 1 => (s.lookup i).getD (v i) :: frG v s (i + 1) n
theorem frL_eq (v : Nat → Value) (n : Nat) (s : List (Nat × Value)) : frL v n s = frG v s 0 n := by
  have h : ∀ n i, (List.range' i n).map (fun j => (s.lookup j).getD (v j)) = frG v s i n := by
    intro n
    induction n with
    | zero => intro i; rfl
    | succ n ih => intro i; rw [List.range'_succ, List.map_cons, ih]; rfl
  unfold frL
  rw [List.range_eq_range', h]
theorem lookup_mem {s : List (Nat × Value)} {i : Nat} {x : Value} (h : s.lookup i = some x) : (i, x) ∈ s := by
  induction s with
  | nil => cases h
  | cons p s ih =>
    obtain ⟨j, y⟩ := p
    rw [List.lookup_cons] at h
    by_cases e : i = j
    · subst e; simp at h; subst h; exact List.mem_cons_self ..
    · have : (i == j) = false := by simpa using e
      rw [this] at h
      exact List.mem_cons_of_mem _ (ih h)
theorem frL_of {l : List Value} {s : List (Nat × Value)} (h : s.map (fun p => l.getD p.1 undef) = s.map (·.2)) : l = frL (fun i => l.getD i undef) l.length s := by
  unfold frL
  refine List.ext_getElem (by simp) fun i h1 h2 => ?_
  simp only [List.getElem_map, List.getElem_range]
  cases hx : s.lookup i with
  | none => simp [List.getD_eq_getElem?_getD, h1]
  | some x =>
    have := List.map_inj_left.1 h _ (lookup_mem hx)
    simp only at this
    simp [← this, List.getD_eq_getElem?_getD, h1]
/-- What is looked at of a row: its length, the slots that are said. -/
def lookL (s : List (Nat × Value)) (l : List Value) : Nat × List Value := (l.length, s.map fun p => l.getD p.1 undef)
theorem look_fr {l : List Value} {s : List (Nat × Value)} {n : Nat} (h : lookL s l = (n, s.map (·.2))) : ∃ v, l = frL v n s := by
  simp only [lookL, Prod.mk.injEq] at h
  exact ⟨_, h.1 ▸ frL_of h.2⟩
/-- n operations from k on, by one look; behind them only what is said is known. -/
theorem from_q {k : Nat} {l : List Value} {ds : List Deferred} {w : World} (n N : Nat) (s : List (Nat × Value)) (hs : List Told) (h : (fromL P ops ds n (ops.toList.drop k) l hs).map (fun r => (lookL s r.1, r.2)) = some ((N, s.map (·.2)), hs.map tp)) (hl : Lds P w hs) (H : ∀ v, wpFrom P ops Q (k + n) ⟨(frL v N s).toArray, ds⟩ w) : wpFrom P ops Q k ⟨l.toArray, ds⟩ w := by
  rw [Option.map_eq_some_iff] at h
  obtain ⟨⟨l', m⟩, h1, h2⟩ := h
  have h3 := congrArg Prod.fst h2
  have h4 := congrArg Prod.snd h2
  simp only at h3 h4
  subst h4
  obtain ⟨v, rfl⟩ := look_fr h3
  exact fromL_sound n k _ l _ hs rfl h1 hl (H v)
/-- A row as it stands, said by some of its slots. -/
theorem from_fr {k : Nat} {l : List Value} {ds : List Deferred} {w : World} (N : Nat) (s : List (Nat × Value)) (h : lookL s l = (N, s.map (·.2))) (H : ∀ v, wpFrom P ops Q k ⟨(frL v N s).toArray, ds⟩ w) : wpFrom P ops Q k ⟨l.toArray, ds⟩ w := by
  obtain ⟨v, rfl⟩ := look_fr h
  exact H v
end
end Go.Proofs.YtcpfelaffclalaaGreatDoor
