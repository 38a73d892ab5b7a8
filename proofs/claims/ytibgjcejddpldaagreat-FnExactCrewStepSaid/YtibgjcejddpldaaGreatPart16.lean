/- A part. -/
import Derived.Test.YtibgjcejddpldaaGreatPart15
namespace Go.Proofs.YtibgjcejddpldaaGreat
open Go Go.RowKit
theorem rowWorldL : ∃ d, Tryz.prog.underlying 45 = some d ∧ d.isRow = true := ⟨_, Tryz.underlying45, by rfl⟩
theorem info18L : (Tryz.prog.info? 45).map (·.size) = some 18 := by kernel_rfl
structure Bc (T : TypeId) (P : Nat → Prop) (b : Nat) (c : Cw) (A : A7) (W : World) : Prop where
 row : W.rowIs b T 18 (r18 [.int .i64 c.jobs, .int .i64 c.workers, .int .i64 c.window, .int .i64 c.next, .int .i64 c.reader, .slice A.q c.queue.length A.pq, .slice A.h c.hands.length A.ph, .int .i64 c.closer, .slice A.r c.results.length A.pr, .int .i64 c.keeper, .slice A.g c.ring.length A.pg, .int .i64 c.due, .slice A.o c.out.length A.po, .int .i64 c.user, .slice A.t c.got.length A.pt, .int .i64 c.room, .slice A.s c.shut.length A.ps, .int .i64 c.ops])
 at' : CwAt P W c (A.v c)
 lt : ∀ x, P x → x < W.heap.size
theorem Bc.on {T : TypeId} {P : Nat → Prop} {b : Nat} {c : Cw} {A : A7} {W W' : World} (h : Bc T P b c A W) (hb : Below W.heap.size W W') : Bc T P b c A W' :=
 ⟨h.row.of_block (hb.block _ h.row.lt), h.at'.carry (fun x hx => hb.block x (h.lt x hx)) (fun _ h => h), fun x hx => Nat.lt_of_lt_of_le (h.lt x hx) hb.size⟩
theorem Bc.range {T : TypeId} {P : Nat → Prop} {b : Nat} {c : Cw} {A : A7} {W : World} (h : Bc T P b c A W) : W.rangeAt b 0 [.int .i64 c.jobs, .int .i64 c.workers, .int .i64 c.window, .int .i64 c.next, .int .i64 c.reader, .slice A.q c.queue.length A.pq, .slice A.h c.hands.length A.ph, .int .i64 c.closer, .slice A.r c.results.length A.pr, .int .i64 c.keeper, .slice A.g c.ring.length A.pg, .int .i64 c.due, .slice A.o c.out.length A.po, .int .i64 c.user, .slice A.t c.got.length A.pt, .int .i64 c.room, .slice A.s c.shut.length A.ps, .int .i64 c.ops] := range_row [.int .i64 c.jobs, .int .i64 c.workers, .int .i64 c.window, .int .i64 c.next, .int .i64 c.reader, .slice A.q c.queue.length A.pq, .slice A.h c.hands.length A.ph, .int .i64 c.closer, .slice A.r c.results.length A.pr, .int .i64 c.keeper, .slice A.g c.ring.length A.pg, .int .i64 c.due, .slice A.o c.out.length A.po, .int .i64 c.user, .slice A.t c.got.length A.pt, .int .i64 c.room, .slice A.s c.shut.length A.ps, .int .i64 c.ops] rfl h.row
theorem Bc.ldL {P : Nat → Prop} {b : Nat} {c : Cw} {A : A7} {W : World} (h : Bc 45 P b c A W) : (Instr.loadAt 45 (.pointer (some ⟨b, 0, none⟩))).run Tryz.prog W = .ok (.agg #[.int .i64 c.jobs, .int .i64 c.workers, .int .i64 c.window, .int .i64 c.next, .int .i64 c.reader, .slice A.q c.queue.length A.pq, .slice A.h c.hands.length A.ph, .int .i64 c.closer, .slice A.r c.results.length A.pr, .int .i64 c.keeper, .slice A.g c.ring.length A.pg, .int .i64 c.due, .slice A.o c.out.length A.po, .int .i64 c.user, .slice A.t c.got.length A.pt, .int .i64 c.room, .slice A.s c.shut.length A.ps, .int .i64 c.ops]) W := by
 obtain ⟨dd, hdu, hdr⟩ := rowWorldL
 unfold Instr.loadAt
 simp only [Instr.sureAddr, Sem.run_bind, Sem.run_pure, Result.andThen_ok, run_loadVar_mid W b 0 45 [.int .i64 c.jobs, .int .i64 c.workers, .int .i64 c.window, .int .i64 c.next, .int .i64 c.reader, .slice A.q c.queue.length A.pq, .slice A.h c.hands.length A.ph, .int .i64 c.closer, .slice A.r c.results.length A.pr, .int .i64 c.keeper, .slice A.g c.ring.length A.pg, .int .i64 c.due, .slice A.o c.out.length A.po, .int .i64 c.user, .slice A.t c.got.length A.pt, .int .i64 c.room, .slice A.s c.shut.length A.ps, .int .i64 c.ops] dd h.range hdu hdr info18L]
theorem Bc.start {P : Nat → Prop} {w : World} {c : Cw} {A : A7} (h : CwAt P w c (A.v c)) (hP : ∀ b, P b → b < w.heap.size) : Bc 45 P w.heap.size c A (w.alloc (.cells #[.int .i64 c.jobs, .int .i64 c.workers, .int .i64 c.window, .int .i64 c.next, .int .i64 c.reader, .slice A.q c.queue.length A.pq, .slice A.h c.hands.length A.ph, .int .i64 c.closer, .slice A.r c.results.length A.pr, .int .i64 c.keeper, .slice A.g c.ring.length A.pg, .int .i64 c.due, .slice A.o c.out.length A.po, .int .i64 c.user, .slice A.t c.got.length A.pt, .int .i64 c.room, .slice A.s c.shut.length A.ps, .int .i64 c.ops] 45)) :=
 ⟨box18 w c (A.v c) 45, h.carry (fun b hb => Below.heap_alloc _ _ _ (hP b hb)) (fun _ h => h), fun x hx => Nat.lt_of_lt_of_le (hP x hx) (by simp)⟩


section
variable {P : Program} {ops : Array Oper} {Q : Exit → Act → World → Prop}
structure wpFrom (P : Program) (ops : Array Oper) (Q : Exit → Act → World → Prop) (k : Nat) (a : Act) (w : World) : Prop where
 out : wpList P ops Q (ops.toList.drop k) a w
theorem wp_region_from {id : Nat} {a : Act} {w : World} (h : wpFrom P ops Q 0 a w) : (Code.region id ops false).wp P Q a w := wp_region_list (by simpa using h.out)
theorem from_eq {k : Nat} {a a' : Act} {w : World} (ha : a = a') (h : wpFrom P ops Q k a' w) : wpFrom P ops Q k a w := by rw [ha]; exact h
theorem from_end {k : Nat} {a : Act} {w : World} (hk : decide (ops.size ≤ k) = true) (h : Q .normal a w) : wpFrom P ops Q k a w := by
 refine ⟨?_⟩
 rw [List.drop_eq_nil_of_le (by simpa using hk)]
 exact h
theorem from_step {k : Nat} {a : Act} {w : World} {d : Option Tmp} (hb : opG ops k d = true)
 (h : if Region.wanted (opI ops k) (yielded ops a.tmps) then (opI ops k).wp P a w (wpFrom P ops Q (k + 1)) Q else wpFrom P ops Q (k + 1) (a.put d undef) w) : wpFrom P ops Q k a w := by
 unfold opG at hb
 simp only [Bool.and_eq_true, decide_eq_true_eq] at hb
 obtain ⟨h1, h2⟩ := hb
 have hl : ops.toList.drop k = opI ops k :: ops.toList.drop (k + 1) := by
  rw [List.drop_eq_getElem_cons (by simpa using h1)]
  congr 1
  unfold opI
  rw [Array.getElem?_eq_getElem h1]
  rfl
 refine ⟨?_⟩
 rw [hl]
 unfold wpList
 subst h2
 by_cases hw : Region.wanted (opI ops k) (yielded ops a.tmps) = true
 · rw [if_pos hw] at h ⊢; exact Or.inl (Oper.wp_mono (fun a w h => h.out) h)
 · rw [if_neg hw] at h ⊢; exact h.out
theorem from_skip {k : Nat} {a : Act} {w : World} (d : Option Tmp) (hb : opG ops k d = true) (hw : Region.wanted (opI ops k) (yielded ops a.tmps) = false) (h : wpFrom P ops Q (k + 1) (a.put d undef) w) : wpFrom P ops Q k a w :=
 from_step hb (by rw [if_neg (by rw [hw]; simp)]; exact h)
theorem from_val {k : Nat} {a : Act} {w : World} (d : Option Tmp) (v v' : Value) (hv : v = v') (hb : opG ops k d = true) (hw : Region.wanted (opI ops k) (yielded ops a.tmps) = true) (hr : (execOp a.eval (opI ops k)).run P w = .ok (.value v) w) (h : wpFrom P ops Q (k + 1) (a.put d v') w) : wpFrom P ops Q k a w := by
 have hd : (opI ops k).dst = d := by unfold opG at hb; simp only [Bool.and_eq_true, decide_eq_true_eq] at hb; exact hb.2
 refine from_step hb ?_
 rw [if_pos hw]
 unfold Oper.wp
 rw [hr, Oper.upon_value, hd, hv]
 exact h
theorem from_load {k : Nat} {a : Act} {w : World} (d : Option Tmp) (T : TypeId) (x : Operand) (ad : Addr) (v : Value) (hb : opG ops k d = true) (hw : Region.wanted (opI ops k) (yielded ops a.tmps) = true) (ho : (opI ops k).op = .load T x) (hx : a.eval x = .pointer (some ad)) (hl : (Instr.loadAt T (.pointer (some ad))).run P w = .ok v w) (h : wpFrom P ops Q (k + 1) (a.put d v) w) : wpFrom P ops Q k a w := by
 refine from_val d v v rfl hb hw ?_ h
 unfold execOp
 simp only [ho, hx, Sem.run_bind, Sem.run_pure, Result.andThen_ok, hl]
theorem from_enter {k : Nat} {a : Act} {w : World} (d : Option Tmp) (f : FuncId) (args : Array Value) {R : Ending → World → Prop} (hb : opG ops k d = true) (hw : Region.wanted (opI ops k) (yielded ops a.tmps) = true) (hr : (execOp a.eval (opI ops k)).run P w = .ok (.enter f args) w) (hc : Calls P f args w R) (h : ∀ e w', R e w' → ∃ u, e = .returned u ∧ wpFrom P ops Q (k + 1) (a.put d u) w') : wpFrom P ops Q k a w := by
 have hd : (opI ops k).dst = d := by unfold opG at hb; simp only [Bool.and_eq_true, decide_eq_true_eq] at hb; exact hb.2
 refine from_step hb ?_
 rw [if_pos hw]
 unfold Oper.wp
 rw [hr]
 refine Calls.mono hc fun e w' he => ?_
 obtain ⟨u, rfl, hK⟩ := h e w' he
 rw [hd]
 exact hK
end

section
variable {P : Program} {ops : Array Oper} {Q : Exit → Act → World → Prop} {S : World → Prop}
def quiet {α : Type} (P : Program) : Sem α → Option α
 | .pure a => some a
 | .program k => quiet P (k P)
 | .mark _ k => quiet P k
 | _ => none
theorem quiet_run {α : Type} {x : α} {s : Sem α} : quiet P s = some x → ∀ w, s.run P w = .ok x w := by
 induction s with
 | pure a => intro h w; simp only [quiet, Option.some.injEq] at h; rw [h]; rfl
 | program k ih => intro h w; exact ih P h w
 | mark m k ih => intro h w; exact ih h w
 | _ => intro h; simp [quiet] at h
abbrev Told := TypeId × Addr × Value
def tp (t : Told) : TypeId × Value := (t.1, .pointer (some t.2.1))
def Lds (P : Program) (w : World) (hs : List Told) : Prop := ∀ t ∈ hs, (Instr.loadAt t.1 (.pointer (some t.2.1))).run P w = .ok t.2.2 w
theorem Lds.nil {w : World} : Lds P w [] := fun _ h => nomatch h
theorem Lds.cons {w : World} {T : TypeId} {ad : Addr} {v : Value} {hs : List Told} (h : (Instr.loadAt T (.pointer (some ad))).run P w = .ok v w) (h2 : Lds P w hs) : Lds P w ((T, ad, v) :: hs) := fun t ht => by
 rcases List.mem_cons.1 ht with rfl | ht
 · exact h
 · exact h2 t ht
theorem Lds.append {w : World} {h1 h2 : List Told} (a : Lds P w h1) (b : Lds P w h2) : Lds P w (h1 ++ h2) := fun t ht => (List.mem_append.1 ht).elim (a t) (b t)
theorem Lds.sub {w : World} {h1 h2 : List Told} (a : Lds P w h2) (b : ∀ t ∈ h1, t ∈ h2) : Lds P w h1 := fun t ht => a t (b t ht)
def openL {β : Type} : List Value → (List Value → β) → β
 | [], k => k []
 | x :: xs, k => openL xs fun ys => k (x :: ys)
theorem openL_eq {β : Type} (l : List Value) : ∀ k : List Value → β, openL l k = k l := by
 induction l with
 | nil => intro k; rfl
 | cons x l ih => intro k; exact ih _
def putL (l : List Value) (d : Option Tmp) (v : Value) : List Value := match d with | some d => l.set d v | none => l
theorem put_putL (l : List Value) (ds : List Deferred) (d : Option Tmp) (v : Value) : (⟨l.toArray, ds⟩ : Act).put d v = ⟨(putL l d v).toArray, ds⟩ := by
 cases d with
 | none => rfl
 | some d => simp [Act.put, putL]
def fromL (P : Program) (ops : Array Oper) (ds : List Deferred) : Nat → List Oper → List Value → List Told → Option (List Value × List (TypeId × Value))
 | 0, _, l, _ => some (l, [])
 | _ + 1, [], _, _ => none
 | n + 1, o :: os, l, hs =>
   if Region.wanted o (yielded ops l.toArray) then
    match o.op with
    | .load T x => match hs with
      | t :: hs => (openL (putL l o.dst t.2.2) fun l' => fromL P ops ds n os l' hs).map fun r => (r.1, (T, (⟨l.toArray, ds⟩ : Act).eval x) :: r.2)
      | [] => none
    | _ => match quiet P (execOp (⟨l.toArray, ds⟩ : Act).eval o) with
      | some (.value v) => openL (putL l o.dst v) fun l' => fromL P ops ds n os l' hs
      | _ => none
   else openL (putL l o.dst undef) fun l' => fromL P ops ds n os l' hs
theorem drop_step {k : Nat} {o : Oper} {os : List Oper} (h : ops.toList.drop k = o :: os) : opG ops k o.dst = true ∧ opI ops k = o ∧ ops.toList.drop (k + 1) = os := by
 have hlt : k < ops.size := by
  rcases Nat.lt_or_ge k ops.size with h1 | h1
  · exact h1
  · rw [List.drop_eq_nil_of_le (by simpa using h1)] at h; cases h
 rw [List.drop_eq_getElem_cons (by simpa using hlt)] at h
 obtain ⟨h1, h2⟩ := List.cons.inj h
 have h3 : opI ops k = o := by unfold opI; rw [Array.getElem?_eq_getElem hlt]; exact h1
 exact ⟨by unfold opG; rw [h3]; simp [hlt], h3, h2⟩
theorem fromL_sound {ds : List Deferred} {w : World} : ∀ (n k : Nat) (os : List Oper) (l l' : List Value) (hs : List Told), ops.toList.drop k = os → fromL P ops ds n os l hs = some (l', hs.map tp) → Lds P w hs → wpFrom P ops Q (k + n) ⟨l'.toArray, ds⟩ w → wpFrom P ops Q k ⟨l.toArray, ds⟩ w
 | 0, k, os, l, l', hs, _, h, _, H => by
   simp only [fromL, Option.some.injEq, Prod.mk.injEq] at h
   rw [h.1]; exact H
 | _ + 1, _, [], _, _, _, _, h, _, _ => by simp [fromL] at h
 | n + 1, k, o :: os, l, l', hs, hd, h, hl, H => by
   obtain ⟨g1, g2, g3⟩ := drop_step hd
   have hk : k + (n + 1) = k + 1 + n := by omega
   rw [hk] at H
   unfold fromL at h
   split at h
   · rename_i hw
     split at h
     · rename_i T x ho
       cases hs with
       | nil => cases h
       | cons t hs =>
         obtain ⟨T', ad, v⟩ := t
         simp only [openL_eq, Option.map_eq_some_iff] at h
         obtain ⟨⟨r1, r2⟩, h1, h2⟩ := h
         simp only [List.map_cons, Prod.mk.injEq, List.cons.injEq, tp] at h2
         obtain ⟨rfl, ⟨rfl, e2⟩, rfl⟩ := h2
         refine from_load o.dst T x ad v g1 (by rw [g2]; exact hw) (by rw [g2]; exact ho) e2 (hl _ (List.mem_cons_self ..)) ?_
         rw [put_putL]
         exact fromL_sound n (k + 1) os _ _ hs g3 h1 (fun s hs => hl s (List.mem_cons_of_mem _ hs)) H
     · split at h
       · rename_i v hq
         rw [openL_eq] at h
         refine from_val o.dst v v rfl g1 (by rw [g2]; exact hw) (by rw [g2]; exact quiet_run hq w) ?_
         rw [put_putL]
         exact fromL_sound n (k + 1) os _ _ hs g3 h hl H
       · cases h
   · rename_i hw
     rw [openL_eq] at h
     refine from_skip o.dst g1 (by rw [g2]; simpa using hw) ?_
     rw [put_putL]
     exact fromL_sound n (k + 1) os _ _ hs g3 h hl H
def frL (v : Nat → Value) (n : Nat) (s : List (Nat × Value)) : List Value := (List.range n).map fun i => (s.lookup i).getD (v i)
def frG (v : Nat → Value) (s : List (Nat × Value)) : Nat → Nat → List Value
 | _, 0 => []
 | i, n + 1 => (s.lookup i).getD (v i) :: frG v s (i + 1) n
theorem frL_eq (v : Nat → Value) (n : Nat) (s : List (Nat × Value)) : frL v n s = frG v s 0 n := by
 have h : ∀ n i, (List.range' i n).map (fun j => (s.lookup j).getD (v j)) = frG v s i n := by
  intro n
  induction n with
  | zero => intro i; rfl
  | succ n ih => intro i; rw [List.range'_succ, List.map_cons, ih]; rfl
 unfold frL
 rw [List.range_eq_range', h]
theorem lookup_mem {s : List (Nat × Value)} {i : Nat} {x : Value} (h : s.lookup i = some x) : (i, x) ∈ s := by
 induction s with
 | nil => cases h
 | cons p s ih =>
   obtain ⟨j, y⟩ := p
   rw [List.lookup_cons] at h
   by_cases e : i = j
   · subst e; simp at h; subst h; exact List.mem_cons_self ..
   · have : (i == j) = false := by simpa using e
     rw [this] at h
     exact List.mem_cons_of_mem _ (ih h)
theorem frL_of {l : List Value} {s : List (Nat × Value)} (h : s.map (fun p => l.getD p.1 undef) = s.map (·.2)) : l = frL (fun i => l.getD i undef) l.length s := by
 unfold frL
 refine List.ext_getElem (by simp) fun i h1 h2 => ?_
 simp only [List.getElem_map, List.getElem_range]
 cases hx : s.lookup i with
 | none => simp [List.getD_eq_getElem?_getD, h1]
 | some x =>
   have := List.map_inj_left.1 h _ (lookup_mem hx)
   simp only at this
   simp [← this, List.getD_eq_getElem?_getD, h1]
def lookL (s : List (Nat × Value)) (l : List Value) : Nat × List Value := (l.length, s.map fun p => l.getD p.1 undef)
theorem look_fr {l : List Value} {s : List (Nat × Value)} {n : Nat} (h : lookL s l = (n, s.map (·.2))) : ∃ v, l = frL v n s := by
 simp only [lookL, Prod.mk.injEq] at h
 exact ⟨_, h.1 ▸ frL_of h.2⟩
theorem from_q {k : Nat} {l : List Value} {ds : List Deferred} {w : World} (n N : Nat) (s : List (Nat × Value)) (hs : List Told) (h : (fromL P ops ds n (ops.toList.drop k) l hs).map (fun r => (lookL s r.1, r.2)) = some ((N, s.map (·.2)), hs.map tp)) (hl : Lds P w hs) (H : ∀ v, wpFrom P ops Q (k + n) ⟨(frL v N s).toArray, ds⟩ w) : wpFrom P ops Q k ⟨l.toArray, ds⟩ w := by
 rw [Option.map_eq_some_iff] at h
 obtain ⟨⟨l', m⟩, h1, h2⟩ := h
 have h3 := congrArg Prod.fst h2
 have h4 := congrArg Prod.snd h2
 simp only at h3 h4
 subst h4
 obtain ⟨v, rfl⟩ := look_fr h3
 exact fromL_sound n k _ l _ hs rfl h1 hl (H v)
theorem from_fr {k : Nat} {l : List Value} {ds : List Deferred} {w : World} (N : Nat) (s : List (Nat × Value)) (h : lookL s l = (N, s.map (·.2))) (H : ∀ v, wpFrom P ops Q k ⟨(frL v N s).toArray, ds⟩ w) : wpFrom P ops Q k ⟨l.toArray, ds⟩ w := by
 obtain ⟨v, rfl⟩ := look_fr h
 exact H v
end

section
variable {P : Program} {ops : Array Oper} {Q : Exit → Act → World → Prop} {S : World → Prop}
def lftB (n : Nat) (ls : List Bool) : Nat := (List.range n).countP fun i => !ls.getD i true
theorem countP_lt {p q : Nat → Bool} {l : List Nat} (h : ∀ x, p x = true → q x = true) {x : Nat} (hx : x ∈ l) (h1 : q x = true) (h2 : p x = false) : l.countP p < l.countP q := by
 induction l with
 | nil => cases hx
 | cons y l ih =>
   rw [List.countP_cons, List.countP_cons]
   have hm : l.countP p ≤ l.countP q := List.countP_mono_left fun z _ => h z
   rcases List.mem_cons.1 hx with rfl | hx
   · rw [h1, h2]; simp; omega
   · have := ih hx
     cases hp : p y with
     | false => simp; omega
     | true => rw [h y hp]; simp; omega
theorem lftB_set {n i : Nat} {ls : List Bool} (hi : i < n) (h : ls.getD i true = false) : lftB n (ls.set i true) < lftB n ls := by
 refine countP_lt (fun x hx => ?_) (List.mem_range.2 hi) (by rw [h]; rfl) ?_
 · by_cases e : x = i
   · subst e; rw [h]; rfl
   · simpa [List.getD_eq_getElem?_getD, List.getElem?_set, Ne.symm e] using hx
 · rw [List.getD_eq_getElem?_getD] at h
   have hlt : i < ls.length := by
    rcases Nat.lt_or_ge i ls.length with h1 | h1
    · exact h1
    · rw [List.getElem?_eq_none h1] at h; cases h
   simp [List.getD_eq_getElem?_getD, hlt]
structure NtQ (ops : Array Oper) (Q : Exit → Act → World → Prop) : Prop where
 s : Region.noSelect ops = true ∧ neat ops = true
 q : ∀ c a d v w, Q (.panic c) (Act.put a d v) w → Q (.panic c) a w
structure wpT (P : Program) (ops : Array Oper) (Q : Exit → Act → World → Prop) (S : World → Prop) (ls : List Bool) (l : List Value) (ds : List Deferred) (w : World) : Prop where
 out : S w → ∀ fuel, lftB ops.size ls ≤ fuel → wpAnyH P .any ops Q S fuel ls.toArray ⟨l.toArray, ds⟩ w
theorem U_start {l : List Value} {ds : List Deferred} {id : Nat} {w : World} (hm : P.follows .mixedOrders = true) (hS : S w.drew) (h : wpT P ops Q S (List.replicate ops.size false) l ds w.drew) : (Code.region id ops true).wp P Q ⟨l.toArray, ds⟩ w := by
 refine wp_region_held (S := S) hm ?_
 have := h.out hS ops.size (Nat.le_trans (List.countP_le_length ..) (by simp))
 have e : (List.replicate ops.size false).toArray = Array.replicate ops.size false := by simp
 rw [e] at this
 exact this
theorem U_yld {ls : List Bool} {l : List Value} {ds : List Deferred} {w : World} (hq : NtQ ops Q) (i : Nat) (d : Option Tmp) (v : Value) (hb : tkG ops ls.toArray i d = true) (hy : S w → YieldsIf P ops S (opI ops i) v ⟨l.toArray, ds⟩) (h : wpT P ops Q S (ls.set i true) (putL l d v) ds w) : wpT P ops Q S ls l ds w := by
 refine ⟨fun hS fuel hf => ?_⟩
 have h1 : i < ops.size ∧ ls.getD i true = false := by
  unfold tkG at hb
  cases hi : ops[i]? with
  | none => rw [hi] at hb; cases hb
  | some o =>
    rw [hi] at hb
    simp only [Bool.and_eq_true, Bool.not_eq_true'] at hb
    refine ⟨(Array.getElem?_eq_some_iff.1 hi).1, ?_⟩
    have := hb.1.2
    rw [Array.getD_eq_getD_getElem?] at this
    rw [List.getD_eq_getElem?_getD]
    simpa using this
 have h2 := lftB_set h1.1 h1.2
 obtain ⟨f, rfl⟩ : ∃ f, fuel = f + 1 := ⟨fuel - 1, by omega⟩
 refine take_yld i d v hq.s hq.q hb (hy hS) hS ?_
 rw [put_putL]
 have := h.out hS f (by omega)
 simpa using this
def autoL (P : Program) (ops : Array Oper) (ds : List Deferred) : List Nat → List Bool → List Value → List Told → List Bool × List Value × List (TypeId × Value)
 | [], ls, l, _ => (ls, l, [])
 | i :: is, ls, l, hs =>
   if tkG ops ls.toArray i (opI ops i).dst then
    if Region.wanted (opI ops i) (yielded ops l.toArray) then
     match (opI ops i).op with
     | .load T x => match hs with
       | t :: hs => match openL (putL l (opI ops i).dst t.2.2) fun l' => autoL P ops ds is (ls.set i true) l' hs with
         | (r1, r2, r3) => (r1, r2, (T, (⟨l.toArray, ds⟩ : Act).eval x) :: r3)
       | [] => autoL P ops ds is ls l []
     | _ => match quiet P (execOp (⟨l.toArray, ds⟩ : Act).eval (opI ops i)) with
       | some (.value v) => openL (putL l (opI ops i).dst v) fun l' => autoL P ops ds is (ls.set i true) l' hs
       | _ => autoL P ops ds is ls l hs
    else openL (putL l (opI ops i).dst undef) fun l' => autoL P ops ds is (ls.set i true) l' hs
   else autoL P ops ds is ls l hs
theorem auto_sound {ds : List Deferred} {w : World} (hq : NtQ ops Q) : ∀ (is : List Nat) (ls : List Bool) (l : List Value) (hs : List Told) (ls' : List Bool) (l' : List Value), autoL P ops ds is ls l hs = (ls', l', hs.map tp) → (∀ w, S w → Lds P w hs) → wpT P ops Q S ls' l' ds w → wpT P ops Q S ls l ds w
 | [], ls, l, hs, ls', l', h, _, H => by
   simp only [autoL, Prod.mk.injEq] at h
   rw [h.1, h.2.1]; exact H
 | i :: is, ls, l, hs, ls', l', h, hl, H => by
   unfold autoL at h
   split at h
   · rename_i hb
     split at h
     · rename_i hw
       split at h
       · rename_i T x ho
         cases hs with
         | nil => exact auto_sound hq is ls l [] ls' l' h hl H
         | cons t hs =>
           obtain ⟨T', ad, v⟩ := t
           simp only [openL_eq] at h
           cases hr : autoL P ops ds is (ls.set i true) (putL l (opI ops i).dst v) hs with
           | mk r1 r =>
             obtain ⟨r2, r3⟩ := r
             rw [hr] at h
             simp only [List.map_cons, Prod.mk.injEq, List.cons.injEq, tp] at h
             obtain ⟨rfl, rfl, ⟨rfl, e2⟩, e3⟩ := h
             refine U_yld hq i _ v hb (fun _ => Or.inl ⟨hw, fun w hS => ?_⟩) (auto_sound hq is _ _ hs r1 r2 (by rw [hr, e3]) (fun w hS s hs => hl w hS s (List.mem_cons_of_mem _ hs)) H)
             have := hl w hS _ (List.mem_cons_self ..)
             unfold execOp
             simp only [ho, e2, Sem.run_bind, Sem.run_pure]
             simp only [this, Result.andThen_ok]
       · split at h
         · rename_i v hv
           rw [openL_eq] at h
           exact U_yld hq i _ v hb (fun _ => Or.inl ⟨hw, fun w _ => quiet_run hv w⟩) (auto_sound hq is _ _ hs ls' l' h hl H)
         · exact auto_sound hq is ls l hs ls' l' h hl H
     · rename_i hw
       rw [openL_eq] at h
       exact U_yld hq i _ undef hb (fun _ => Or.inr ⟨by simpa using hw, rfl⟩) (auto_sound hq is _ _ hs ls' l' h hl H)
   · exact auto_sound hq is ls l hs ls' l' h hl H
def unl (n : Nat) (r : List Nat) : List Bool := (List.range n).map fun i => !r.contains i
theorem U_q {ls : List Bool} {l : List Value} {ds : List Deferred} {w : World} (hq : NtQ ops Q) (is r : List Nat) (n N : Nat) (s : List (Nat × Value)) (hs : List Told) (h : (fun r => (lookL s r.2.1, r.1, r.2.2)) (autoL P ops ds is ls l hs) = ((N, s.map (·.2)), unl n r, hs.map tp)) (hl : ∀ w, S w → Lds P w hs) (H : ∀ v, wpT P ops Q S (unl n r) (frL v N s) ds w) : wpT P ops Q S ls l ds w := by
 cases hr : autoL P ops ds is ls l hs with
 | mk r1 r' =>
   obtain ⟨r2, r3⟩ := r'
   rw [hr] at h
   have h1 := congrArg Prod.fst h
   have h2 := congrArg (fun x => x.2.1) h
   have h3 := congrArg (fun x => x.2.2) h
   simp only at h1 h2 h3
   subst h2 h3
   obtain ⟨v, rfl⟩ := look_fr h1
   exact auto_sound hq is ls l hs _ _ hr hl (H v)
def wpO (P : Program) (ops : Array Oper) (Q : Exit → Act → World → Prop) (S : World → Prop) (i : Nat) (ls : List Bool) (l : List Value) (ds : List Deferred) (w : World) : Prop :=
 wpOp P ops Q i (fun a' w' => S w' ∧ ∃ l', a' = ⟨l'.toArray, ds⟩ ∧ wpT P ops Q S (ls.set i true) l' ds w') ⟨l.toArray, ds⟩ w
theorem U_all {ls : List Bool} {l : List Value} {ds : List Deferred} {w : World} (rs : List Nat) (hr : Region.ready .any ops ls.toArray = rs) (hne : rs ≠ []) (h : ∀ i ∈ rs, S w → wpO P ops Q S i ls l ds w) : wpT P ops Q S ls l ds w := by
 refine ⟨fun hS fuel hf => ?_⟩
 obtain ⟨f, rfl⟩ : ∃ f, fuel = f + 1 := by
  cases rs with
  | nil => exact absurd rfl hne
  | cons i rs =>
    have hi : i ∈ Region.ready .any ops ls.toArray := by rw [hr]; exact List.mem_cons_self ..
    unfold Region.ready at hi
    rw [List.mem_filter] at hi
    simp only [Bool.and_eq_true, Bool.not_eq_true'] at hi
    have h2 := lftB_set (List.mem_range.1 hi.1) (by have := hi.2.1; rw [Array.getD_eq_getD_getElem?] at this; rw [List.getD_eq_getElem?_getD]; simpa using this)
    exact ⟨fuel - 1, by omega⟩
 refine wpAnyH_all hr hne fun i hi => ?_
 have hi2 : i ∈ Region.ready .any ops ls.toArray := by rw [hr]; exact hi
 unfold Region.ready at hi2
 rw [List.mem_filter] at hi2
 simp only [Bool.and_eq_true, Bool.not_eq_true'] at hi2
 have h2 := lftB_set (List.mem_range.1 hi2.1) (by have := hi2.2.1; rw [Array.getD_eq_getD_getElem?] at this; rw [List.getD_eq_getElem?_getD]; simpa using this)
 refine wpOp_mono (fun a' w' hh => ?_) (h i hi hS)
 obtain ⟨hS', l', rfl, ht⟩ := hh
 refine ⟨hS', ?_⟩
 have := ht.out hS' f (by omega)
 simpa using this
theorem U_one {ls : List Bool} {l : List Value} {ds : List Deferred} {w : World} (i : Nat) (hr : Region.ready .any ops ls.toArray = [i]) (h : S w → wpO P ops Q S i ls l ds w) : wpT P ops Q S ls l ds w :=
 U_all [i] hr (by simp) fun j hj => by rw [List.mem_singleton.1 hj]; exact h
theorem U_two {ls : List Bool} {l : List Value} {ds : List Deferred} {w : World} (i k : Nat) (hr : Region.ready .any ops ls.toArray = [i, k]) (h : S w → wpO P ops Q S i ls l ds w) (h2 : S w → wpO P ops Q S k ls l ds w) : wpT P ops Q S ls l ds w :=
 U_all [i, k] hr (by simp) fun j hj => by
  simp only [List.mem_cons, List.not_mem_nil, or_false] at hj
  rcases hj with rfl | rfl
  · exact h
  · exact h2
theorem U_done {ls : List Bool} {l : List Value} {ds : List Deferred} {w : World} (hr : Region.ready .any ops ls.toArray = []) (h : S w → Q .normal ⟨l.toArray, ds⟩ w) : wpT P ops Q S ls l ds w :=
 ⟨fun hS fuel _ => wpAnyH_done hr (h hS) fuel⟩
def entB (P : Program) (ops : Array Oper) (ds : List Deferred) (i : Nat) (l : List Value) : Option (Option Tmp × FuncId × Array Value) :=
 if opG ops i (opI ops i).dst && Region.wanted (opI ops i) (yielded ops l.toArray) then
  match quiet P (execOp (⟨l.toArray, ds⟩ : Act).eval (opI ops i)) with
  | some (.enter f args) => some ((opI ops i).dst, f, args)
  | _ => none
 else none
theorem V_enter {i : Nat} {ls : List Bool} {l : List Value} {ds : List Deferred} {w : World} (d : Option Tmp) (f : FuncId) (args : Array Value) {R : Ending → World → Prop} (h : entB P ops ds i l = some (d, f, args)) (hc : Calls P f args w R) (H : ∀ e w', R e w' → ∃ u, e = .returned u ∧ S w' ∧ wpT P ops Q S (ls.set i true) (putL l d u) ds w') : wpO P ops Q S i ls l ds w := by
 unfold entB at h
 split at h
 · rename_i hb
   simp only [Bool.and_eq_true] at hb
   split at h
   · rename_i f' args' hx
     simp only [Option.some.injEq, Prod.mk.injEq] at h
     obtain ⟨rfl, rfl, rfl⟩ := h
     refine op_enterG _ _ _ hb.1 hb.2 (quiet_run hx w) hc fun e w' he => ?_
     obtain ⟨u, rfl, h1, h2⟩ := H e w' he
     exact ⟨u, rfl, h1, _, put_putL .., h2⟩
   · cases h
 · cases h
theorem V_val {i : Nat} {ls : List Bool} {l : List Value} {ds : List Deferred} {w w' : World} (d : Option Tmp) (v : Value) (hb : opB ops i d = true) (hr : (execOp (⟨l.toArray, ds⟩ : Act).eval (opI ops i)).run P w = .ok (.value v) w') (hS : S w') (H : wpT P ops Q S (ls.set i true) (putL l d v) ds w') : wpO P ops Q S i ls l ds w :=
 op_val d v hb hr ⟨hS, _, put_putL .., H⟩
theorem V_skip {i : Nat} {ls : List Bool} {l : List Value} {ds : List Deferred} {w w' : World} (d : Option Tmp) (hb : opB ops i d = true) (hr : (execOp (⟨l.toArray, ds⟩ : Act).eval (opI ops i)).run P w = .ok .skip w') (hS : S w') (H : wpT P ops Q S (ls.set i true) (putL l d undef) ds w') : wpO P ops Q S i ls l ds w :=
 op_skip d hb hr ⟨hS, _, put_putL .., H⟩
theorem F_enter {k : Nat} {l : List Value} {ds : List Deferred} {w : World} (d : Option Tmp) (f : FuncId) (args : Array Value) {R : Ending → World → Prop} (h : entB P ops ds k l = some (d, f, args)) (hc : Calls P f args w R) (H : ∀ e w', R e w' → ∃ u, e = .returned u ∧ wpFrom P ops Q (k + 1) ⟨(putL l d u).toArray, ds⟩ w') : wpFrom P ops Q k ⟨l.toArray, ds⟩ w := by
 unfold entB at h
 split at h
 · rename_i hb
   simp only [Bool.and_eq_true] at hb
   split at h
   · rename_i f' args' hx
     simp only [Option.some.injEq, Prod.mk.injEq] at h
     obtain ⟨rfl, rfl, rfl⟩ := h
     refine from_enter _ _ _ hb.1 hb.2 (quiet_run hx w) hc fun e w' he => ?_
     obtain ⟨u, rfl, h1⟩ := H e w' he
     exact ⟨u, rfl, by rw [put_putL]; exact h1⟩
   · cases h
 · cases h
def oneB (P : Program) (ops : Array Oper) (ds : List Deferred) (k : Nat) (l : List Value) : Option (Option Tmp × Value) :=
 if opG ops k (opI ops k).dst && Region.wanted (opI ops k) (yielded ops l.toArray) then
  match quiet P (execOp (⟨l.toArray, ds⟩ : Act).eval (opI ops k)) with
  | some (.value v) => some ((opI ops k).dst, v)
  | _ => none
 else none
theorem oneB_spec {ds : List Deferred} {k : Nat} {l : List Value} {d : Option Tmp} {v : Value} (h : oneB P ops ds k l = some (d, v)) : opG ops k d = true ∧ Region.wanted (opI ops k) (yielded ops l.toArray) = true ∧ quiet P (execOp (⟨l.toArray, ds⟩ : Act).eval (opI ops k)) = some (.value v) ∧ (opI ops k).dst = d := by
 unfold oneB at h
 split at h
 · rename_i hb
   simp only [Bool.and_eq_true] at hb
   split at h
   · rename_i v' hx
     simp only [Option.some.injEq, Prod.mk.injEq] at h
     obtain ⟨h1, h2⟩ := h
     exact ⟨h1 ▸ hb.1, hb.2, h2 ▸ hx, h1⟩
   · cases h
 · cases h
theorem F_one {k : Nat} {l : List Value} {ds : List Deferred} {w : World} (d : Option Tmp) (v v' : Value) (hv : v = v') (h : oneB P ops ds k l = some (d, v)) (H : wpFrom P ops Q (k + 1) ⟨(putL l d v').toArray, ds⟩ w) : wpFrom P ops Q k ⟨l.toArray, ds⟩ w := by
 obtain ⟨h1, h2, h3, -⟩ := oneB_spec h
 refine from_val d v v' hv h1 h2 (quiet_run h3 w) ?_
 rw [put_putL]
 exact H
theorem U_val {i : Nat} {ls : List Bool} {l : List Value} {ds : List Deferred} {w : World} (hq : NtQ ops Q) (d : Option Tmp) (v v' : Value) (hv : v = v') (hb : tkG ops ls.toArray i d = true) (h : oneB P ops ds i l = some (d, v)) (H : wpT P ops Q S (ls.set i true) (putL l d v') ds w) : wpT P ops Q S ls l ds w := by
 obtain ⟨h1, h2, h3, -⟩ := oneB_spec h
 subst hv
 exact U_yld hq i d v hb (fun _ => Or.inl ⟨h2, fun w _ => quiet_run h3 w⟩) H
theorem U_a {ls : List Bool} {l : List Value} {ds : List Deferred} {w : World} (hq : NtQ ops Q) (is : List Nat) {hs : List Told} (hl : ∀ w, S w → Lds P w hs) (h : (autoL P ops ds is ls l hs).2.2 = hs.map tp) (H : wpT P ops Q S (autoL P ops ds is ls l hs).1 (autoL P ops ds is ls l hs).2.1 ds w) : wpT P ops Q S ls l ds w := by
 cases hr : autoL P ops ds is ls l hs with
 | mk r1 r' =>
   obtain ⟨r2, r3⟩ := r'
   rw [hr] at h H
   simp only at h H
   subst h
   exact auto_sound hq is ls l hs r1 r2 hr hl H
theorem U_z {ls : List Bool} {l : List Value} {ds : List Deferred} {w : World} (hq : NtQ ops Q) (is : List Nat) (h : (autoL P ops ds is ls l []).2.2 = []) (H : wpT P ops Q S (autoL P ops ds is ls l []).1 (autoL P ops ds is ls l []).2.1 ds w) : wpT P ops Q S ls l ds w :=
 U_a hq is (fun _ _ => Lds.nil) h H
theorem U_fr {ls : List Bool} {l : List Value} {ds : List Deferred} {w : World} (n N : Nat) (r : List Nat) (s : List (Nat × Value)) (h : (ls, lookL s l) = (unl n r, (N, s.map (·.2)))) (H : ∀ v, wpT P ops Q S (unl n r) (frL v N s) ds w) : wpT P ops Q S ls l ds w := by
 have h1 := congrArg Prod.fst h
 have h2 := congrArg Prod.snd h
 simp only at h1 h2
 subst h1
 obtain ⟨v, rfl⟩ := look_fr h2
 exact H v
theorem U_end {ls : List Bool} {l : List Value} {ds : List Deferred} {w : World} (N : Nat) (s : List (Nat × Value)) (hr : Region.ready .any ops ls.toArray = []) (h : lookL s l = (N, s.map (·.2))) (H : S w → ∀ v, Q .normal ⟨(frL v N s).toArray, ds⟩ w) : wpT P ops Q S ls l ds w := by
 obtain ⟨v, rfl⟩ := look_fr h
 exact U_done hr fun hS => H hS v
def callB (P : Program) (ops : Array Oper) (ds : List Deferred) (i : Nat) (l : List Value) : Option (FuncId × Array Value) := (entB P ops ds i l).map (·.2)
theorem callB_spec {ds : List Deferred} {i : Nat} {l : List Value} {f : FuncId} {args : Array Value} (h : callB P ops ds i l = some (f, args)) : entB P ops ds i l = some ((opI ops i).dst, f, args) := by
 unfold callB at h
 rw [Option.map_eq_some_iff] at h
 obtain ⟨⟨d, f', a'⟩, h1, h2⟩ := h
 simp only [Prod.mk.injEq] at h2
 obtain ⟨rfl, rfl⟩ := h2
 rw [h1]
 unfold entB at h1
 split at h1
 · split at h1
   · simp only [Option.some.injEq, Prod.mk.injEq] at h1
     rw [h1.1]
   · cases h1
 · cases h1
theorem V_go {i : Nat} {ls : List Bool} {l : List Value} {ds : List Deferred} {w : World} {f : FuncId} {args : Array Value} {R : Ending → World → Prop} (hc : Calls P f args w R) (h : callB P ops ds i l = some (f, args)) (H : ∀ e w', R e w' → ∃ u, e = .returned u ∧ S w' ∧ wpT P ops Q S (ls.set i true) (putL l (opI ops i).dst u) ds w') : wpO P ops Q S i ls l ds w :=
 V_enter _ f args (callB_spec h) hc H
theorem V_call {i : Nat} {ls : List Bool} {l : List Value} {ds : List Deferred} {w : World} {f : FuncId} {args : Array Value} {u : Value} {T : World → Prop} (hc : Calls P f args w fun e w' => e = .returned u ∧ T w') (hon : ∀ w', T w' → S w') (h : callB P ops ds i l = some (f, args)) (H : ∀ w', T w' → wpT P ops Q S (ls.set i true) (putL l (opI ops i).dst u) ds w') : wpO P ops Q S i ls l ds w :=
 V_go hc h fun _ w' ⟨he, hT⟩ => ⟨u, he, hon w' hT, H w' hT⟩
theorem F_go {k : Nat} {l : List Value} {ds : List Deferred} {w : World} {f : FuncId} {args : Array Value} {R : Ending → World → Prop} (hc : Calls P f args w R) (h : callB P ops ds k l = some (f, args)) (H : ∀ e w', R e w' → ∃ u, e = .returned u ∧ wpFrom P ops Q (k + 1) ⟨(putL l (opI ops k).dst u).toArray, ds⟩ w') : wpFrom P ops Q k ⟨l.toArray, ds⟩ w :=
 F_enter _ f args (callB_spec h) hc H
theorem F_call {k : Nat} {l : List Value} {ds : List Deferred} {w : World} {f : FuncId} {args : Array Value} {u : Value} {T : World → Prop} (hc : Calls P f args w fun e w' => e = .returned u ∧ T w') (h : callB P ops ds k l = some (f, args)) (H : ∀ w', T w' → wpFrom P ops Q (k + 1) ⟨(putL l (opI ops k).dst u).toArray, ds⟩ w') : wpFrom P ops Q k ⟨l.toArray, ds⟩ w :=
 F_go hc h fun _ w' ⟨he, hT⟩ => ⟨u, he, H w' hT⟩
theorem Lds.one {w : World} {T : TypeId} {ad : Addr} {v : Value} (h : (Instr.loadAt T (.pointer (some ad))).run P w = .ok v w) : Lds P w [(T, ad, v)] := h |> (Lds.cons · .nil)
theorem from_a {k : Nat} {l : List Value} {ds : List Deferred} {w : World} (n : Nat) {hs : List Told} (hl : Lds P w hs) (h : (fromL P ops ds n (ops.toList.drop k) l hs).map (·.2) = some (hs.map tp)) (H : wpFrom P ops Q (k + n) ⟨(((fromL P ops ds n (ops.toList.drop k) l hs).getD ([], [])).1).toArray, ds⟩ w) : wpFrom P ops Q k ⟨l.toArray, ds⟩ w := by
 rw [Option.map_eq_some_iff] at h
 obtain ⟨⟨l', m⟩, h1, h2⟩ := h
 simp only at h2
 subst h2
 rw [h1] at H
 exact fromL_sound n k _ l _ hs rfl h1 hl H
end
end Go.Proofs.YtibgjcejddpldaaGreat
