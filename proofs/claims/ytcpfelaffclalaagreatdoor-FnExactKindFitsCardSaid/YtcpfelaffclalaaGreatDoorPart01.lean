/- Whether a schema fits into another one, as a function on data, and part by part over the names of both forms. No program, no conditions. -/
import Derived.Test.YtcpfelaffclalaaGreatDoorPart00
import Derived.Test.YtcpfelaffclalaaGreatDoorRows
import Derived.OrdersHeld
import Derived.WalkKit
import Derived.Deep.MidRow
namespace Go.Proofs.YtcpfelaffclalaaGreatDoor
open Go Go.RowKit

/-- No schema: the sort of what a form has under a name that it has not. -/
def kd0 : Kd := .mk 0 [] []
/-- The place of a name among names. -/
def plN (ns : List ByteArray) (nm : ByteArray) : Nat := ns.findIdx (fun x => decide (x = nm))
/-- The schema of a name in a form. -/
def kidN (k : Kd) (nm : ByteArray) : Option Kd := if plN k.names nm < k.names.length then some (k.kids.getD (plN k.names nm) kd0) else none
theorem plN_at {ns : List ByteArray} {nm : ByteArray} {i : Nat} (hi : i < ns.length) (h : ns[i] = nm) (hb : ∀ j, (hj : j < i) → ns[j]'(by omega) ≠ nm) : plN ns nm = i := by
  unfold plN
  rw [List.findIdx_eq hi]
  exact ⟨by simpa using h, fun j hj => by simpa using hb j hj⟩
theorem plN_none {ns : List ByteArray} {nm : ByteArray} (h : nm ∉ ns) : plN ns nm = ns.length := by
  unfold plN
  rw [List.findIdx_eq_length]
  intro x hx
  simp only [decide_eq_false_iff_not]
  exact fun e => h (e ▸ hx)
theorem kidN_some {k : Kd} {nm : ByteArray} {i : Nat} (hi : i < k.names.length) (hk : i < k.kids.length) (h : k.names[i] = nm) (hb : ∀ j, (hj : j < i) → k.names[j]'(by omega) ≠ nm) : kidN k nm = some k.kids[i] := by
  unfold kidN
  rw [plN_at hi h hb, if_pos hi]
  simp [List.getD_eq_getElem?_getD, List.getElem?_eq_getElem hk]
theorem kidN_none {k : Kd} {nm : ByteArray} (h : nm ∉ k.names) : kidN k nm = none := by
  unfold kidN
  rw [plN_none h, if_neg (by omega)]
/-- Names that rise are all different. -/
theorem less_irr (l : List UInt8) : Op.bytesLess l l = false := by
  induction l with
  | nil => rfl
  | cons a r ih => simp [Op.bytesLess, ih]
theorem kidN_is {k : Kd} {nm : ByteArray} (h : (kidN k nm).isSome = true) : nm ∈ k.names := by
  unfold kidN at h
  split at h
  · next hp =>
    have h2 : plN k.names nm < k.names.length := hp
    unfold plN at h2
    have := List.findIdx_getElem (w := h2)
    simp only [decide_eq_true_eq] at this
    rw [← this]
    exact List.getElem_mem _
  · cases h
theorem kidN_has {k : Kd} {nm : ByteArray} (h : nm ∈ k.names) : (kidN k nm).isSome = true := by
  unfold kidN
  have : plN k.names nm < k.names.length := by
    unfold plN
    rw [List.findIdx_lt_length]
    exact ⟨nm, h, by simp⟩
  rw [if_pos this]; rfl
/-- Whether a schema fits into another one, so deep. -/
def fitF : Nat → Kd → Kd → Bool
  | 0, _, _ => false
  | n + 1, a, b =>
    if b.sort = 6 then (if a.sort = 6 then fitF n (a.kids.getD 0 kd0) (b.kids.getD 0 kd0) else fitF n a (b.kids.getD 0 kd0))
    else if a.sort ≠ b.sort then false
    else if a.sort = 4 then fitF n (a.kids.getD 0 kd0) (b.kids.getD 0 kd0)
    else (List.range a.names.length).all (fun i => match kidN b (a.names.getD i ByteArray.empty) with | some x => fitF n (a.kids.getD i kd0) x | none => false)
      && (List.range b.names.length).all (fun i => (kidN a (b.names.getD i ByteArray.empty)).isSome || decide ((b.kids.getD i kd0).sort = 6))
section
variable {n : Nat} {a b : Kd}
theorem fit_mm (hb : b.sort = 6) (ha : a.sort = 6) (hka : 0 < a.kids.length) (hkb : 0 < b.kids.length) : fitF (n + 1) a b = fitF n a.kids[0] b.kids[0] := by
  rw [fitF, if_pos hb, if_pos ha]
  simp [List.getD_eq_getElem?_getD, List.getElem?_eq_getElem hka, List.getElem?_eq_getElem hkb]
theorem fit_xm (hb : b.sort = 6) (ha : a.sort ≠ 6) (hkb : 0 < b.kids.length) : fitF (n + 1) a b = fitF n a b.kids[0] := by
  rw [fitF, if_pos hb, if_neg ha]
  simp [List.getD_eq_getElem?_getD, List.getElem?_eq_getElem hkb]
theorem fit_ne (hb : b.sort ≠ 6) (h : a.sort ≠ b.sort) : fitF (n + 1) a b = false := by
  rw [fitF, if_neg hb, if_pos h]
theorem fit_ll (hb : b.sort = 4) (ha : a.sort = 4) (hka : 0 < a.kids.length) (hkb : 0 < b.kids.length) : fitF (n + 1) a b = fitF n a.kids[0] b.kids[0] := by
  rw [fitF, if_neg (by omega), if_neg (by omega), if_pos ha]
  simp [List.getD_eq_getElem?_getD, List.getElem?_eq_getElem hka, List.getElem?_eq_getElem hkb]
theorem fit_eq (hb : b.sort ≠ 6) (h : a.sort = b.sort) (h4 : a.sort ≠ 4) : fitF (n + 1) a b = ((List.range a.names.length).all (fun i => match kidN b (a.names.getD i ByteArray.empty) with | some x => fitF n (a.kids.getD i kd0) x | none => false)
      && (List.range b.names.length).all (fun i => (kidN a (b.names.getD i ByteArray.empty)).isSome || decide ((b.kids.getD i kd0).sort = 6))) := by
  rw [fitF, if_neg hb, if_neg (by simpa using h), if_neg h4]
/-- Name by name. -/
theorem fit_no1 (hb : b.sort ≠ 6) (h : a.sort = b.sort) (h4 : a.sort ≠ 4) {i : Nat} (hi : i < a.names.length) (hk : kidN b a.names[i] = none) : fitF (n + 1) a b = false := by
  rw [fit_eq hb h h4, Bool.and_eq_false_iff]
  left
  rw [Bool.eq_false_iff]
  intro hh
  rw [List.all_eq_true] at hh
  have := hh i (List.mem_range.2 hi)
  simp [List.getD_eq_getElem?_getD, List.getElem?_eq_getElem hi, hk] at this
theorem fit_no2 (hb : b.sort ≠ 6) (h : a.sort = b.sort) (h4 : a.sort ≠ 4) {i : Nat} (hi : i < a.names.length) (hi2 : i < a.kids.length) {x : Kd} (hk : kidN b a.names[i] = some x) (hf : fitF n a.kids[i] x = false) : fitF (n + 1) a b = false := by
  rw [fit_eq hb h h4, Bool.and_eq_false_iff]
  left
  rw [Bool.eq_false_iff]
  intro hh
  rw [List.all_eq_true] at hh
  have := hh i (List.mem_range.2 hi)
  simp [List.getD_eq_getElem?_getD, List.getElem?_eq_getElem hi, List.getElem?_eq_getElem hi2, hk, hf] at this
theorem fit_no3 (hb : b.sort ≠ 6) (h : a.sort = b.sort) (h4 : a.sort ≠ 4) {i : Nat} (hi : i < b.names.length) (hi2 : i < b.kids.length) (hk : kidN a b.names[i] = none) (hs : b.kids[i].sort ≠ 6) : fitF (n + 1) a b = false := by
  rw [fit_eq hb h h4, Bool.and_eq_false_iff]
  right
  rw [Bool.eq_false_iff]
  intro hh
  rw [List.all_eq_true] at hh
  have := hh i (List.mem_range.2 hi)
  simp [List.getD_eq_getElem?_getD, List.getElem?_eq_getElem hi, List.getElem?_eq_getElem hi2, hk, hs] at this
theorem fit_yes (hb : b.sort ≠ 6) (h : a.sort = b.sort) (h4 : a.sort ≠ 4) (hla : a.kids.length = a.names.length) (hlb : b.kids.length = b.names.length)
    (h1 : ∀ i, (hi : i < a.names.length) → ∃ x, kidN b a.names[i] = some x ∧ fitF n (a.kids[i]'(by omega)) x = true)
    (h2 : ∀ i, (hi : i < b.names.length) → (kidN a b.names[i]).isSome = true ∨ (b.kids[i]'(by omega)).sort = 6) : fitF (n + 1) a b = true := by
  rw [fit_eq hb h h4, Bool.and_eq_true]
  constructor
  · rw [List.all_eq_true]
    intro i hi
    have hi := List.mem_range.1 hi
    obtain ⟨x, hx, hf⟩ := h1 i hi
    simp [List.getD_eq_getElem?_getD, List.getElem?_eq_getElem hi, List.getElem?_eq_getElem (show i < a.kids.length by omega), hx, hf]
  · rw [List.all_eq_true]
    intro i hi
    have hi := List.mem_range.1 hi
    have := h2 i hi
    simp only [List.getD_eq_getElem?_getD, List.getElem?_eq_getElem hi, List.getElem?_eq_getElem (show i < b.kids.length by omega), Option.getD_some, Bool.or_eq_true, decide_eq_true_eq]
    exact this
end
/-- A pair of which one may be nothing. -/
def pF (n : Nat) (a b : Kd) : Bool := if a.sort = 0 then decide (b.sort = 6) else if b.sort = 0 then false else fitF n a b
/-- The schema of a name, or nothing. -/
def kidZ (k : Kd) (nm : ByteArray) : Kd := (kidN k nm).getD kd0
theorem nodup_at {ns : List ByteArray} (h : ns.Nodup) {i j : Nat} (hi : i < ns.length) (hj : j < ns.length) (e : ns[i] = ns[j]) : i = j := by
  have hp := List.pairwise_iff_getElem.1 h
  rcases Nat.lt_trichotomy i j with h1 | h1 | h1
  · exact absurd e (hp i j hi hj h1)
  · exact h1
  · exact absurd e.symm (hp j i hj hi h1)
/-- In a form that is ok the schema of its i-th name is its i-th kid. -/
theorem kidN_at {k : Kd} (hn : k.names.Nodup) (hl : k.kids.length = k.names.length) {i : Nat} (hi : i < k.names.length) : kidN k k.names[i] = some (k.kids[i]'(by omega)) :=
  kidN_some hi (by omega) rfl (fun j hj e => by have := nodup_at hn (by omega) hi e; omega)
theorem fit_open {n : Nat} {a b : Kd} (hb : b.sort ≠ 6) (h : a.sort = b.sort) (h4 : a.sort ≠ 4) (hla : a.kids.length = a.names.length) (hlb : b.kids.length = b.names.length) (hf : fitF (n + 1) a b = true) :
    (∀ i, (hi : i < a.names.length) → ∃ x, kidN b a.names[i] = some x ∧ fitF n (a.kids[i]'(by omega)) x = true) ∧ (∀ i, (hi : i < b.names.length) → (kidN a b.names[i]).isSome = true ∨ (b.kids[i]'(by omega)).sort = 6) := by
  constructor
  · intro i hi
    cases hk : kidN b a.names[i] with
    | none => rw [fit_no1 hb h h4 hi hk] at hf; cases hf
    | some x =>
      refine ⟨x, rfl, ?_⟩
      cases hx : fitF n (a.kids[i]'(by omega)) x with
      | true => rfl
      | false => rw [fit_no2 hb h h4 hi (by omega) hk hx] at hf; cases hf
  · intro i hi
    cases hk : kidN a b.names[i] with
    | some x => exact Or.inl rfl
    | none =>
      by_cases hs : (b.kids[i]'(by omega)).sort = 6
      · exact Or.inr hs
      · rw [fit_no3 hb h h4 hi (by omega) hk hs] at hf; cases hf
/-- Two forms fit if they do under each name that one of them has. -/
theorem fit_union {n : Nat} {a b : Kd} (ha5 : a.sort = 5) (hb5 : b.sort = 5) (hla : a.kids.length = a.names.length) (hlb : b.kids.length = b.names.length) (hna : a.names.Nodup) (hnb : b.names.Nodup)
    (hza : ∀ k, k ∈ a.kids → k.sort ≠ 0) (hzb : ∀ k, k ∈ b.kids → k.sort ≠ 0) (U : List ByteArray) (hU : ∀ nm, nm ∈ U ↔ nm ∈ a.names ∨ nm ∈ b.names) :
    fitF (n + 1) a b = U.all fun nm => pF n (kidZ a nm) (kidZ b nm) := by
  have hb6 : b.sort ≠ 6 := by omega
  have hab : a.sort = b.sort := by omega
  have ha4 : a.sort ≠ 4 := by omega
  rw [Bool.eq_iff_iff, List.all_eq_true]
  constructor
  · intro hf nm hm
    obtain ⟨h1, h2⟩ := fit_open hb6 hab ha4 hla hlb hf
    by_cases hma : nm ∈ a.names
    · obtain ⟨i, hi, rfl⟩ := List.mem_iff_getElem.1 hma
      obtain ⟨x, hx, hfx⟩ := h1 i hi
      have hx0 : x.sort ≠ 0 := by
        obtain ⟨j, hj, e⟩ := List.mem_iff_getElem.1 (kidN_is (by rw [hx]; rfl))
        rw [← e, kidN_at hnb hlb hj] at hx
        rw [← Option.some.inj hx]
        exact hzb _ (List.getElem_mem _)
      unfold pF kidZ
      rw [kidN_at hna hla hi, hx]
      simp only [Option.getD_some]
      rw [if_neg (hza _ (List.getElem_mem _)), if_neg hx0]
      exact hfx
    · have hmb : nm ∈ b.names := ((hU nm).1 hm).resolve_left hma
      obtain ⟨i, hi, rfl⟩ := List.mem_iff_getElem.1 hmb
      have := (h2 i hi).resolve_left (fun h => hma (kidN_is h))
      unfold pF kidZ
      rw [kidN_none hma, kidN_at hnb hlb hi]
      simp only [Option.getD_some, Option.getD_none]
      rw [if_pos (show kd0.sort = 0 from rfl)]
      exact decide_eq_true this
  · intro hall
    refine fit_yes hb6 hab ha4 hla hlb (fun i hi => ?_) (fun i hi => ?_)
    · have := hall a.names[i] ((hU _).2 (Or.inl (List.getElem_mem _)))
      unfold pF kidZ at this
      rw [kidN_at hna hla hi] at this
      simp only [Option.getD_some] at this
      rw [if_neg (hza _ (List.getElem_mem _))] at this
      cases hk : kidN b a.names[i] with
      | none => rw [hk] at this; simp [kd0, Kd.sort] at this
      | some x =>
        rw [hk] at this
        simp only [Option.getD_some] at this
        split at this
        · cases this
        · exact ⟨x, rfl, this⟩
    · by_cases hma : b.names[i] ∈ a.names
      · exact Or.inl (kidN_has hma)
      · have := hall b.names[i] ((hU _).2 (Or.inr (List.getElem_mem _)))
        unfold pF kidZ at this
        rw [kidN_none hma, kidN_at hnb hlb hi] at this
        simp only [Option.getD_some, Option.getD_none] at this
        rw [if_pos (show kd0.sort = 0 from rfl)] at this
        exact Or.inr (of_decide_eq_true this)
end Go.Proofs.YtcpfelaffclalaaGreatDoor

/- Great regions that draw their order, operation by operation, each side condition by one look of the kernel's: no program. No conditions. -/

namespace Go.Proofs.YtcpfelaffclalaaGreatDoor
open Go Go.RowKit

/-- The operations of a region of a code. -/
def rops (k : Nat) : Code → Option (Array Oper)
  | .region i ops _ => if i == k then some ops else none
  | .seq a b => match rops k a with | some o => some o | none => rops k b
  | .cond _ a b => match rops k a with | some o => some o | none => rops k b
  | .block _ b => rops k b
  | .loop b => rops k b
  | .scope b => rops k b
  | .rangeFunc _ _ a b => match rops k a with | some o => some o | none => rops k b
  | _ => none
/-- The operations of a region of a function. -/
def fops (f : Func) (k : Nat) : Array Oper := match f.body with | some c => (rops k c).getD #[] | none => #[]
theorem wp_swap {P : Program} {c c' : Code} {Q : Exit → Act → World → Prop} {a : Act} {w : World} (h : c = c') (hw : c'.wp P Q a w) : c.wp P Q a w := h ▸ hw

section
variable {P : Program} {ops : Array Oper} {Q : Exit → Act → World → Prop} {S : World → Prop}
def opI (ops : Array Oper) (i : Nat) : Oper := (ops[i]?).getD default
theorem opI_get {i : Nat} (h : i < ops.size) : ops[i]? = some (opI ops i) := by
  unfold opI
  rw [Array.getElem?_eq_getElem h]
  rfl
/-- Each operation looks only at what those yield for which it waits, and no two yield into one slot. -/
def neat (ops : Array Oper) : Bool :=
  (ops.toList.all fun o => (o.looksAt ops).all fun d => ((ops.toList.map (·.dst)).zipIdx).all fun p => p.1 != some d || o.after.any fun e => Region.binds .any e && e.on == p.2) &&
  (((ops.toList.map (·.dst)).zipIdx).all fun p => p.1.isNone || ((ops.toList.map (·.dst)).zipIdx).all fun q => p.2 == q.2 || p.1 != q.1)
theorem mem_zip {i : Nat} {o : Oper} (h : ops[i]? = some o) : (o.dst, i) ∈ (ops.toList.map (·.dst)).zipIdx := by
  rw [List.mem_zipIdx_iff_getElem?]
  simp [h]
theorem neat_looks (hn : neat ops = true) {i j : Nat} {oi oj : Oper} (hi : ops[i]? = some oi) (hj : ops[j]? = some oj) {d : Tmp} (hd : oi.dst = some d) (hl : d ∈ oj.looksAt ops) : ∃ e ∈ oj.after, Region.binds .any e = true ∧ e.on = i := by
  unfold neat at hn
  simp only [Bool.and_eq_true, List.all_eq_true] at hn
  have h1 := hn.1 oj (by simpa using Array.mem_of_getElem? hj) d hl _ (mem_zip hi)
  simp only [hd, bne_self_eq_false, Bool.false_or, Array.any_eq_true', Bool.and_eq_true, beq_iff_eq] at h1
  obtain ⟨e, he, h2, h3⟩ := h1
  exact ⟨e, he, h2, h3⟩
theorem neat_dst (hn : neat ops = true) {i j : Nat} {oi oj : Oper} (hi : ops[i]? = some oi) (hj : ops[j]? = some oj) (hne : j ≠ i) {d : Tmp} (hd : oi.dst = some d) : oj.dst ≠ some d := by
  unfold neat at hn
  simp only [Bool.and_eq_true, List.all_eq_true] at hn
  have h1 := hn.2 _ (mem_zip hi)
  simp only [hd, Option.isNone_some, Bool.false_or, List.all_eq_true] at h1
  have h2 := h1 _ (mem_zip hj)
  intro e
  simp [e] at h2
  exact hne h2.symm
theorem neat_apart (hn : neat ops = true) {listed : Array Bool} {i : Nat} {oi : Oper} (hi : ops[i]? = some oi) (hr : ∀ e ∈ oi.after, Region.binds .any e = true → listed.getD e.on false = true) (j : Nat) (oj : Oper) (hj : ops[j]? = some oj) (hne : j ≠ i) (hun : listed.getD j true = false) (hno : ∀ e ∈ oj.after, Region.binds .any e = true → e.on ≠ i) : oi.apart ops oj = true := by
  unfold Oper.apart
  rw [Bool.and_eq_true]
  constructor
  · cases hd : oi.dst with
    | none => rfl
    | some d =>
      have h1 : d ∉ oj.looksAt ops := fun hl => by
        obtain ⟨e, he, hb, ho⟩ := neat_looks hn hi hj hd hl
        exact hno e he hb ho
      have h2 := neat_dst hn hi hj hne hd
      simp [h1, h2]
  · cases hd : oj.dst with
    | none => rfl
    | some d =>
      have h1 : d ∉ oi.looksAt ops := fun hl => by
        obtain ⟨e, he, hb, ho⟩ := neat_looks hn hj hi hd hl
        have h2 := hr e he hb
        rw [ho] at h2
        rw [Array.getD_eq_getD_getElem?] at hun h2
        cases hx : listed[j]? with
        | none => rw [hx] at h2; simp at h2
        | some b => rw [hx] at h2 hun; simp at h2 hun; rw [h2] at hun; cases hun
      simp [h1]
/-- Number i may come up now, and yields into slot d. -/
def tkB (ops : Array Oper) (listed : Array Bool) (i : Nat) (d : Option Tmp) : Bool :=
  match ops[i]? with
  | none => false
  | some o => decide (o.dst = d) && o.guard.isNone && !listed.getD i true && o.after.all (fun e => !Region.binds .any e || listed.getD e.on false)
theorem wanted_none {o : Oper} (f : Nat → Option Bool) (h : o.guard.isNone = true) : Region.wanted o f = true := by
  have : o.guard = none := by simpa using h
  simp [Region.wanted, this]
theorem take_any {fuel : Nat} {listed : Array Bool} {a : Act} {w : World} (i : Nat) (d : Option Tmp) (v : Value) (hs : Region.noSelect ops = true ∧ neat ops = true) (hQ : ∀ c a d v w, Q (.panic c) (Act.put a d v) w → Q (.panic c) a w) (hb : tkB ops listed i d = true)
    (hy : ∀ w, S w → (execOp a.eval (opI ops i)).run P w = .ok (.value v) w) (hS : S w) (h : wpAnyH P .any ops Q S fuel (listed.setIfInBounds i true) (a.put d v) w) : wpAnyH P .any ops Q S (fuel + 1) listed a w := by
  unfold tkB at hb
  cases hi : ops[i]? with
  | none => rw [hi] at hb; cases hb
  | some o =>
    rw [hi] at hb
    simp only [Bool.and_eq_true, decide_eq_true_eq] at hb
    obtain ⟨⟨⟨h2, h3⟩, h4⟩, h5⟩ := hb
    subst h2
    have ho : opI ops i = o := by unfold opI; rw [hi]; rfl
    rw [ho] at hy
    have h6 : ∀ e ∈ o.after, Region.binds .any e = true → listed.getD e.on false = true := fun e he hb => by
      have := Array.all_eq_true_iff_forall_mem.1 h5 e he
      simpa [hb] using this
    have hlt : i < ops.size := (Array.getElem?_eq_some_iff.1 hi).1
    refine wpAnyH_first hi (Region.noSelect_spec hs.1) (fun c a w => hQ c a _ _ w) fuel listed a w (fun j oj hj hne hun hno => neat_apart hs.2 hi h6 j oj hj hne hun hno) ?_ (Or.inl ⟨wanted_none _ h3, hy⟩) hS h
    unfold Region.ready
    rw [List.mem_filter]
    refine ⟨List.mem_range.2 hlt, ?_⟩
    rw [hi, h4]
    simpa using h5
/-- Number i may come up now, guarded or not, and yields into slot d. -/
def tkG (ops : Array Oper) (listed : Array Bool) (i : Nat) (d : Option Tmp) : Bool :=
  match ops[i]? with
  | none => false
  | some o => decide (o.dst = d) && !listed.getD i true && o.after.all (fun e => !Region.binds .any e || listed.getD e.on false)
theorem take_yld {fuel : Nat} {listed : Array Bool} {a : Act} {w : World} (i : Nat) (d : Option Tmp) (v : Value) (hs : Region.noSelect ops = true ∧ neat ops = true) (hQ : ∀ c a d v w, Q (.panic c) (Act.put a d v) w → Q (.panic c) a w) (hb : tkG ops listed i d = true)
    (hy : YieldsIf P ops S (opI ops i) v a) (hS : S w) (h : wpAnyH P .any ops Q S fuel (listed.setIfInBounds i true) (a.put d v) w) : wpAnyH P .any ops Q S (fuel + 1) listed a w := by
  unfold tkG at hb
  cases hi : ops[i]? with
  | none => rw [hi] at hb; cases hb
  | some o =>
    rw [hi] at hb
    simp only [Bool.and_eq_true, decide_eq_true_eq] at hb
    obtain ⟨⟨h2, h4⟩, h5⟩ := hb
    subst h2
    have ho : opI ops i = o := by unfold opI; rw [hi]; rfl
    rw [ho] at hy
    have h6 : ∀ e ∈ o.after, Region.binds .any e = true → listed.getD e.on false = true := fun e he hb => by
      have := Array.all_eq_true_iff_forall_mem.1 h5 e he
      simpa [hb] using this
    have hlt : i < ops.size := (Array.getElem?_eq_some_iff.1 hi).1
    refine wpAnyH_first hi (Region.noSelect_spec hs.1) (fun c a w => hQ c a _ _ w) fuel listed a w (fun j oj hj hne hun hno => neat_apart hs.2 hi h6 j oj hj hne hun hno) ?_ hy hS h
    unfold Region.ready
    rw [List.mem_filter]
    refine ⟨List.mem_range.2 hlt, ?_⟩
    rw [hi, h4]
    simpa using h5
theorem take_skip {fuel : Nat} {listed : Array Bool} {a : Act} {w : World} (i : Nat) (d : Option Tmp) (hs : Region.noSelect ops = true ∧ neat ops = true) (hQ : ∀ c a d v w, Q (.panic c) (Act.put a d v) w → Q (.panic c) a w) (hb : tkG ops listed i d = true)
    (hw : Region.wanted (opI ops i) (yielded ops a.tmps) = false) (hS : S w) (h : wpAnyH P .any ops Q S fuel (listed.setIfInBounds i true) (a.put d undef) w) : wpAnyH P .any ops Q S (fuel + 1) listed a w :=
  take_yld i d undef hs hQ hb (Or.inr ⟨hw, rfl⟩) hS h
theorem take_anyG {fuel : Nat} {listed : Array Bool} {a : Act} {w : World} (i : Nat) (d : Option Tmp) (v : Value) (hs : Region.noSelect ops = true ∧ neat ops = true) (hQ : ∀ c a d v w, Q (.panic c) (Act.put a d v) w → Q (.panic c) a w) (hb : tkG ops listed i d = true)
    (hw : Region.wanted (opI ops i) (yielded ops a.tmps) = true) (hy : ∀ w, S w → (execOp a.eval (opI ops i)).run P w = .ok (.value v) w) (hS : S w) (h : wpAnyH P .any ops Q S fuel (listed.setIfInBounds i true) (a.put d v) w) : wpAnyH P .any ops Q S (fuel + 1) listed a w :=
  take_yld i d v hs hQ hb (Or.inl ⟨hw, hy⟩) hS h
theorem take_loadG {fuel : Nat} {listed : Array Bool} {a : Act} {w : World} (i : Nat) (d : Option Tmp) (T : TypeId) (x : Operand) (ad : Addr) (v : Value) (hs : Region.noSelect ops = true ∧ neat ops = true) (hQ : ∀ c a d v w, Q (.panic c) (Act.put a d v) w → Q (.panic c) a w) (hb : tkG ops listed i d = true)
    (hw : Region.wanted (opI ops i) (yielded ops a.tmps) = true) (ho : (opI ops i).op = .load T x) (hx : a.eval x = .pointer (some ad)) (hl : ∀ w, S w → (Instr.loadAt T (.pointer (some ad))).run P w = .ok v w) (hS : S w) (h : wpAnyH P .any ops Q S fuel (listed.setIfInBounds i true) (a.put d v) w) : wpAnyH P .any ops Q S (fuel + 1) listed a w := by
  refine take_anyG i d v hs hQ hb hw (fun w hw => ?_) hS h
  unfold execOp
  simp only [ho, hx, Sem.run_bind, Sem.run_pure, Result.andThen_ok, hl w hw]
theorem take_load {fuel : Nat} {listed : Array Bool} {a : Act} {w : World} (i : Nat) (d : Option Tmp) (T : TypeId) (x : Operand) (ad : Addr) (v : Value) (hs : Region.noSelect ops = true ∧ neat ops = true) (hQ : ∀ c a d v w, Q (.panic c) (Act.put a d v) w → Q (.panic c) a w) (hb : tkB ops listed i d = true)
    (ho : (opI ops i).op = .load T x) (hx : a.eval x = .pointer (some ad)) (hl : ∀ w, S w → (Instr.loadAt T (.pointer (some ad))).run P w = .ok v w) (hS : S w) (h : wpAnyH P .any ops Q S fuel (listed.setIfInBounds i true) (a.put d v) w) : wpAnyH P .any ops Q S (fuel + 1) listed a w := by
  refine take_any i d v hs hQ hb (fun w hw => ?_) hS h
  unfold execOp
  simp only [ho, hx, Sem.run_bind, Sem.run_pure, Result.andThen_ok, hl w hw]
theorem any_eq {fuel : Nat} {l l' : Array Bool} {a a' : Act} {w : World} (hl : l = l') (ha : a = a') (h : wpAnyH P .any ops Q S fuel l' a' w) : wpAnyH P .any ops Q S fuel l a w := by rw [hl, ha]; exact h
theorem ready_one {fuel : Nat} {listed : Array Bool} {a : Act} {w : World} (i : Nat) (hr : Region.ready .any ops listed = [i]) (h : wpOp P ops Q i (fun a' w' => S w' ∧ wpAnyH P .any ops Q S fuel (listed.setIfInBounds i true) a' w') a w) : wpAnyH P .any ops Q S (fuel + 1) listed a w :=
  wpAnyH_all hr (by simp) (fun j hj => by simp only [List.mem_singleton] at hj; subst hj; exact h)
theorem ready_two {fuel : Nat} {listed : Array Bool} {a : Act} {w : World} (i k : Nat) (hr : Region.ready .any ops listed = [i, k]) (h : wpOp P ops Q i (fun a' w' => S w' ∧ wpAnyH P .any ops Q S fuel (listed.setIfInBounds i true) a' w') a w)
    (h2 : wpOp P ops Q k (fun a' w' => S w' ∧ wpAnyH P .any ops Q S fuel (listed.setIfInBounds k true) a' w') a w) : wpAnyH P .any ops Q S (fuel + 1) listed a w :=
  wpAnyH_all hr (by simp) (fun j hj => by
    simp only [List.mem_cons, List.not_mem_nil, or_false] at hj
    rcases hj with rfl | rfl
    · exact h
    · exact h2)
/-- Number i is there, unguarded, and yields into slot d. -/
def opB (ops : Array Oper) (i : Nat) (d : Option Tmp) : Bool := decide (i < ops.size) && decide ((opI ops i).dst = d) && (opI ops i).guard.isNone
theorem op_val {i : Nat} {K : Act → World → Prop} {a : Act} {w w' : World} (d : Option Tmp) (v : Value) (hb : opB ops i d = true) (hr : (execOp a.eval (opI ops i)).run P w = .ok (.value v) w') (h : K (a.put d v) w') : wpOp P ops Q i K a w := by
  unfold opB at hb
  simp only [Bool.and_eq_true, decide_eq_true_eq] at hb
  obtain ⟨⟨h1, h2⟩, h3⟩ := hb
  subst h2
  unfold wpOp
  rw [opI_get h1]
  simp only [wanted_none _ h3, if_true]
  exact Or.inl (by unfold Oper.wp; rw [hr]; exact h)
theorem op_skip {i : Nat} {K : Act → World → Prop} {a : Act} {w w' : World} (d : Option Tmp) (hb : opB ops i d = true) (hr : (execOp a.eval (opI ops i)).run P w = .ok .skip w') (h : K (a.put d undef) w') : wpOp P ops Q i K a w := by
  unfold opB at hb
  simp only [Bool.and_eq_true, decide_eq_true_eq] at hb
  obtain ⟨⟨h1, h2⟩, h3⟩ := hb
  subst h2
  unfold wpOp
  rw [opI_get h1]
  simp only [wanted_none _ h3, if_true]
  exact Or.inl (by unfold Oper.wp; rw [hr]; exact h)
theorem op_enter {i : Nat} {K : Act → World → Prop} {a : Act} {w : World} (d : Option Tmp) (f : FuncId) (args : Array Value) {R : Ending → World → Prop} (hb : opB ops i d = true) (hr : (execOp a.eval (opI ops i)).run P w = .ok (.enter f args) w) (hc : Calls P f args w R) (h : ∀ e w', R e w' → ∃ u, e = .returned u ∧ K (a.put d u) w') : wpOp P ops Q i K a w := by
  unfold opB at hb
  simp only [Bool.and_eq_true, decide_eq_true_eq] at hb
  obtain ⟨⟨h1, h2⟩, h3⟩ := hb
  subst h2
  unfold wpOp
  rw [opI_get h1]
  simp only [wanted_none _ h3, if_true]
  refine Or.inl ?_
  unfold Oper.wp
  rw [hr]
  refine Calls.mono hc fun e w' he => ?_
  obtain ⟨u, rfl, hK⟩ := h e w' he
  exact hK
/-- The same, guarded or not. -/
def opG (ops : Array Oper) (i : Nat) (d : Option Tmp) : Bool := decide (i < ops.size) && decide ((opI ops i).dst = d)
theorem op_enterG {i : Nat} {K : Act → World → Prop} {a : Act} {w : World} (d : Option Tmp) (f : FuncId) (args : Array Value) {R : Ending → World → Prop} (hb : opG ops i d = true) (hw : Region.wanted (opI ops i) (yielded ops a.tmps) = true) (hr : (execOp a.eval (opI ops i)).run P w = .ok (.enter f args) w) (hc : Calls P f args w R) (h : ∀ e w', R e w' → ∃ u, e = .returned u ∧ K (a.put d u) w') : wpOp P ops Q i K a w := by
  unfold opG at hb
  simp only [Bool.and_eq_true, decide_eq_true_eq] at hb
  obtain ⟨h1, h2⟩ := hb
  subst h2
  unfold wpOp
  rw [opI_get h1]
  simp only [hw, if_true]
  refine Or.inl ?_
  unfold Oper.wp
  rw [hr]
  refine Calls.mono hc fun e w' he => ?_
  obtain ⟨u, rfl, hK⟩ := h e w' he
  exact hK
/-- A store of a struct of many cells. -/
theorem op_store_mid {i : Nat} {K : Act → World → Prop} {a : Act} {w : World} (d : Option Tmp) (ty : TypeId) (x y : Operand) (b o : Nat) (cells : Array Value) (hb : opB ops i d = true) (ho : (opI ops i).op = .store ty x y) (hx : a.eval x = .pointer (some ⟨b, o, none⟩)) (hy : a.eval y = .agg cells)
    (ht : w.there b o cells.size) (hi : (P.info? ty).map (·.size) = some cells.size) (h1 : cells.all (·.oneCell') = true) (h : K (a.put d undef) (w.setCells b o cells.toList)) : wpOp P ops Q i K a w := by
  refine op_skip d hb ?_ h
  unfold execOp
  simp only [ho, hx, hy, Instr.storeAt, Instr.sureAddr, Sem.run_bind, Sem.run_pure, Result.andThen_ok, run_storeVar_mid w b o ty cells ht hi h1]
/-- A store of one cell. -/
theorem op_store {i : Nat} {K : Act → World → Prop} {a : Act} {w : World} (d : Option Tmp) (ty : TypeId) (x y : Operand) (ad : Addr) (v : Value) (w' : World) (hb : opB ops i d = true) (ho : (opI ops i).op = .store ty x y) (hx : a.eval x = .pointer (some ad)) (hy : a.eval y = v)
    (hr : (Instr.storeAt ty (.pointer (some ad)) v).run P w = .ok () w') (h : K (a.put d undef) w') : wpOp P ops Q i K a w := by
  refine op_skip d hb ?_ h
  unfold execOp
  simp only [ho, hx, hy, Sem.run_bind, Sem.run_pure, Result.andThen_ok, hr]
end
end Go.Proofs.YtcpfelaffclalaaGreatDoor

/- An operation of a region that draws its order, by a law that was made for plain regions: no program. No conditions. -/

namespace Go.Proofs.YtcpfelaffclalaaGreatDoor
open Go Go.RowKit

section
variable {P : Program} {ops : Array Oper} {Q : Exit → Act → World → Prop}
/-- What follows normally is K, all else is Q. -/
def Nrm (K : Act → World → Prop) (Q : Exit → Act → World → Prop) : Exit → Act → World → Prop
  | .normal, a, w => K a w
  | e, a, w => Q e a w
theorem wp_nrm {o : Oper} {a : Act} {w : World} {K : Act → World → Prop} (h : o.wp P a w K (Nrm K Q)) : o.wp P a w K Q := by
  unfold Oper.wp at *
  generalize (execOp a.eval o).run P w = r at *
  cases r with
  | ok n w' =>
    cases n with
    | enter f args =>
      refine Calls.mono h fun e w'' he => ?_
      cases e <;> exact he
    | _ => exact h
  | halt x w' => cases x <;> exact h
/-- An operation by a law on lists of operations. -/
theorem op_list {i : Nat} {K : Act → World → Prop} {a : Act} {w : World} (d : Option Tmp) (hb : opB ops i d = true) (h : wpList P ops (Nrm K Q) [opI ops i] a w) : wpOp P ops Q i K a w := by
  unfold opB at hb
  simp only [Bool.and_eq_true, decide_eq_true_eq] at hb
  obtain ⟨⟨h1, h2⟩, h3⟩ := hb
  unfold wpOp
  rw [opI_get h1]
  unfold wpList at h
  simp only [wanted_none _ h3, if_true] at h ⊢
  rcases h with h | h
  · exact Or.inl (wp_nrm h)
  · exact Or.inr ⟨h.1, h.2⟩
end
end Go.Proofs.YtcpfelaffclalaaGreatDoor
