/- Whether a schema fits into another one, as a function on data, and part by part over the names of both forms. No program, no conditions. -/
import Derived.Test.YtenpghndgdemnaaGreatDoorPart06
import Derived.Test.YtenpghndgdemnaaGreatDoorPart09
import Derived.Test.YtenpghndgdemnaaGreatDoorPart00
namespace Go.Proofs.YtenpghndgdemnaaGreatDoor
open Go Go.RowKit

/-- No schema: the sort of what a form has under a name that it has not. -/
def kd0 : Kd := .mk 0 [] []
/-- The place of a name among names. -/
def plN (ns : List ByteArray) (nm : ByteArray) : Nat := ns.findIdx (fun x => decide (x = nm))
/-- The schema of a name in a form. -/
def kidN (k : Kd) (nm : ByteArray) : Option Kd := if plN k.names nm < k.names.length then some (k.kids.getD (plN k.names nm) kd0) else none
theorem plN_at {ns : List ByteArray} {nm : ByteArray} {i : Nat} (hi : i < ns.length) (h : ns[i] = nm) (hb : ∀ j, (hj : j < i) → ns[j]'(by omega) ≠ nm) : plN ns nm = i := by
  unfold plN
  rw [List.findIdx_eq hi]
  exact ⟨by simpa using h, fun j hj => by simpa using hb j hj⟩
theorem plN_none {ns : List ByteArray} {nm : ByteArray} (h : nm ∉ ns) : plN ns nm = ns.length := by
  unfold plN
  rw [List.findIdx_eq_length]
  intro x hx
  simp only [decide_eq_false_iff_not]
  exact fun e => h (e ▸ hx)
theorem kidN_some {k : Kd} {nm : ByteArray} {i : Nat} (hi : i < k.names.length) (hk : i < k.kids.length) (h : k.names[i] = nm) (hb : ∀ j, (hj : j < i) → k.names[j]'(by omega) ≠ nm) : kidN k nm = some k.kids[i] := by
  unfold kidN
  rw [plN_at hi h hb, if_pos hi]
  simp [List.getD_eq_getElem?_getD, List.getElem?_eq_getElem hk]
theorem kidN_none {k : Kd} {nm : ByteArray} (h : nm ∉ k.names) : kidN k nm = none := by
  unfold kidN
  rw [plN_none h, if_neg (by omega)]
/-- Names that rise are all different. -/
theorem less_irr (l : List UInt8) : Op.bytesLess l l = false := by
  induction l with
  | nil => rfl
  | cons a r ih => simp [Op.bytesLess, ih]
theorem kidN_is {k : Kd} {nm : ByteArray} (h : (kidN k nm).isSome = true) : nm ∈ k.names := by
  unfold kidN at h
  split at h
  · next hp =>
    have h2 : plN k.names nm < k.names.length := hp
    unfold plN at h2
    have := List.findIdx_getElem (w := h2)
    simp only [decide_eq_true_eq] at this
    rw [← this]
    exact List.getElem_mem _
  · cases h
theorem kidN_has {k : Kd} {nm : ByteArray} (h : nm ∈ k.names) : (kidN k nm).isSome = true := by
  unfold kidN
  have : plN k.names nm < k.names.length := by
    unfold plN
    rw [List.findIdx_lt_length]
    exact ⟨nm, h, by simp⟩
  rw [if_pos this]; rfl
/-- Whether a schema fits into another one, so deep. -/
def fitF : Nat → Kd → Kd → Bool
  | 0, _, _ => false
  | n + 1, a, b =>
    if b.sort = 6 then (if a.sort = 6 then fitF n (a.kids.getD 0 kd0) (b.kids.getD 0 kd0) else fitF n a (b.kids.getD 0 kd0))
    else if a.sort ≠ b.sort then false
    else if a.sort = 4 then fitF n (a.kids.getD 0 kd0) (b.kids.getD 0 kd0)
    else (List.range a.names.length).all (fun i => match kidN b (a.names.getD i ByteArray.empty) with | some x => fitF n (a.kids.getD i kd0) x | none => false)
      && (List.range b.names.length).all (fun i => (kidN a (b.names.getD i ByteArray.empty)).isSome || decide ((b.kids.getD i kd0).sort = 6))
section
variable {n : Nat} {a b : Kd}
theorem fit_mm (hb : b.sort = 6) (ha : a.sort = 6) (hka : 0 < a.kids.length) (hkb : 0 < b.kids.length) : fitF (n + 1) a b = fitF n a.kids[0] b.kids[0] := by
  rw [fitF, if_pos hb, if_pos ha]
  simp [List.getD_eq_getElem?_getD, List.getElem?_eq_getElem hka, List.getElem?_eq_getElem hkb]
theorem fit_xm (hb : b.sort = 6) (ha : a.sort ≠ 6) (hkb : 0 < b.kids.length) : fitF (n + 1) a b = fitF n a b.kids[0] := by
  rw [fitF, if_pos hb, if_neg ha]
  simp [List.getD_eq_getElem?_getD, List.getElem?_eq_getElem hkb]
theorem fit_ne (hb : b.sort ≠ 6) (h : a.sort ≠ b.sort) : fitF (n + 1) a b = false := by
  rw [fitF, if_neg hb, if_pos h]
theorem fit_ll (hb : b.sort = 4) (ha : a.sort = 4) (hka : 0 < a.kids.length) (hkb : 0 < b.kids.length) : fitF (n + 1) a b = fitF n a.kids[0] b.kids[0] := by
  rw [fitF, if_neg (by omega), if_neg (by omega), if_pos ha]
  simp [List.getD_eq_getElem?_getD, List.getElem?_eq_getElem hka, List.getElem?_eq_getElem hkb]
theorem fit_eq (hb : b.sort ≠ 6) (h : a.sort = b.sort) (h4 : a.sort ≠ 4) : fitF (n + 1) a b = ((List.range a.names.length).all (fun i => match kidN b (a.names.getD i ByteArray.empty) with | some x => fitF n (a.kids.getD i kd0) x | none => false)
      && (List.range b.names.length).all (fun i => (kidN a (b.names.getD i ByteArray.empty)).isSome || decide ((b.kids.getD i kd0).sort = 6))) := by
  rw [fitF, if_neg hb, if_neg (by simpa using h), if_neg h4]
/-- Name by name. -/
theorem fit_no1 (hb : b.sort ≠ 6) (h : a.sort = b.sort) (h4 : a.sort ≠ 4) {i : Nat} (hi : i < a.names.length) (hk : kidN b a.names[i] = none) : fitF (n + 1) a b = false := by
  rw [fit_eq hb h h4, Bool.and_eq_false_iff]
  left
  rw [Bool.eq_false_iff]
  intro hh
  rw [List.all_eq_true] at hh
  have := hh i (List.mem_range.2 hi)
  simp [List.getD_eq_getElem?_getD, List.getElem?_eq_getElem hi, hk] at this
theorem fit_no2 (hb : b.sort ≠ 6) (h : a.sort = b.sort) (h4 : a.sort ≠ 4) {i : Nat} (hi : i < a.names.length) (hi2 : i < a.kids.length) {x : Kd} (hk : kidN b a.names[i] = some x) (hf : fitF n a.kids[i] x = false) : fitF (n + 1) a b = false := by
  rw [fit_eq hb h h4, Bool.and_eq_false_iff]
  left
  rw [Bool.eq_false_iff]
  intro hh
  rw [List.all_eq_true] at hh
  have := hh i (List.mem_range.2 hi)
  simp [List.getD_eq_getElem?_getD, List.getElem?_eq_getElem hi, List.getElem?_eq_getElem hi2, hk, hf] at this
theorem fit_no3 (hb : b.sort ≠ 6) (h : a.sort = b.sort) (h4 : a.sort ≠ 4) {i : Nat} (hi : i < b.names.length) (hi2 : i < b.kids.length) (hk : kidN a b.names[i] = none) (hs : b.kids[i].sort ≠ 6) : fitF (n + 1) a b = false := by
  rw [fit_eq hb h h4, Bool.and_eq_false_iff]
  right
  rw [Bool.eq_false_iff]
  intro hh
  rw [List.all_eq_true] at hh
  have := hh i (List.mem_range.2 hi)
  simp [List.getD_eq_getElem?_getD, List.getElem?_eq_getElem hi, List.getElem?_eq_getElem hi2, hk, hs] at this
theorem fit_yes (hb : b.sort ≠ 6) (h : a.sort = b.sort) (h4 : a.sort ≠ 4) (hla : a.kids.length = a.names.length) (hlb : b.kids.length = b.names.length)
    (h1 : ∀ i, (hi : i < a.names.length) → ∃ x, kidN b a.names[i] = some x ∧ fitF n (a.kids[i]'(by omega)) x = true)
    (h2 : ∀ i, (hi : i < b.names.length) → (kidN a b.names[i]).isSome = true ∨ (b.kids[i]'(by omega)).sort = 6) : fitF (n + 1) a b = true := by
  rw [fit_eq hb h h4, Bool.and_eq_true]
  constructor
  · rw [List.all_eq_true]
    intro i hi
    have hi := List.mem_range.1 hi
    obtain ⟨x, hx, hf⟩ := h1 i hi
    simp [List.getD_eq_getElem?_getD, List.getElem?_eq_getElem hi, List.getElem?_eq_getElem (show i < a.kids.length by omega), hx, hf]
  · rw [List.all_eq_true]
    intro i hi
    have hi := List.mem_range.1 hi
    have := h2 i hi
    simp only [List.getD_eq_getElem?_getD, List.getElem?_eq_getElem hi, List.getElem?_eq_getElem (show i < b.kids.length by omega), Option.getD_some, Bool.or_eq_true, decide_eq_true_eq]
    exact this
end
/-- A pair of which one may be nothing. -/
def pF (n : Nat) (a b : Kd) : Bool := if a.sort = 0 then decide (b.sort = 6) else if b.sort = 0 then false else fitF n a b
/-- The schema of a name, or nothing. -/
def kidZ (k : Kd) (nm : ByteArray) : Kd := (kidN k nm).getD kd0
theorem nodup_at {ns : List ByteArray} (h : ns.Nodup) {i j : Nat} (hi : i < ns.length) (hj : j < ns.length) (e : ns[i] = ns[j]) : i = j := by
  have hp := List.pairwise_iff_getElem.1 h
  rcases Nat.lt_trichotomy i j with h1 | h1 | h1
  · exact absurd e (hp i j hi hj h1)
  · exact h1
  · exact absurd e.symm (hp j i hj hi h1)
/-- In a form that is ok the schema of its i-th name is its i-th kid. -/
theorem kidN_at {k : Kd} (hn : k.names.Nodup) (hl : k.kids.length = k.names.length) {i : Nat} (hi : i < k.names.length) : kidN k k.names[i] = some (k.kids[i]'(by omega)) :=
  kidN_some hi (by omega) rfl (fun j hj e => by have := nodup_at hn (by omega) hi e; omega)
theorem fit_open {n : Nat} {a b : Kd} (hb : b.sort ≠ 6) (h : a.sort = b.sort) (h4 : a.sort ≠ 4) (hla : a.kids.length = a.names.length) (hlb : b.kids.length = b.names.length) (hf : fitF (n + 1) a b = true) :
    (∀ i, (hi : i < a.names.length) → ∃ x, kidN b a.names[i] = some x ∧ fitF n (a.kids[i]'(by omega)) x = true) ∧ (∀ i, (hi : i < b.names.length) → (kidN a b.names[i]).isSome = true ∨ (b.kids[i]'(by omega)).sort = 6) := by
  constructor
  · intro i hi
    cases hk : kidN b a.names[i] with
    | none => rw [fit_no1 hb h h4 hi hk] at hf; cases hf
    | some x =>
      refine ⟨x, rfl, ?_⟩
      cases hx : fitF n (a.kids[i]'(by omega)) x with
      | true => rfl
      | false => rw [fit_no2 hb h h4 hi (by omega) hk hx] at hf; cases hf
  · intro i hi
    cases hk : kidN a b.names[i] with
    | some x => exact Or.inl rfl
    | none =>
      by_cases hs : (b.kids[i]'(by omega)).sort = 6
      · exact Or.inr hs
      · rw [fit_no3 hb h h4 hi (by omega) hk hs] at hf; cases hf
/-- Two forms fit if they do under each name that one of them has. -/
theorem fit_union {n : Nat} {a b : Kd} (ha5 : a.sort = 5) (hb5 : b.sort = 5) (hla : a.kids.length = a.names.length) (hlb : b.kids.length = b.names.length) (hna : a.names.Nodup) (hnb : b.names.Nodup)
    (hza : ∀ k, k ∈ a.kids → k.sort ≠ 0) (hzb : ∀ k, k ∈ b.kids → k.sort ≠ 0) (U : List ByteArray) (hU : ∀ nm, nm ∈ U ↔ nm ∈ a.names ∨ nm ∈ b.names) :
    fitF (n + 1) a b = U.all fun nm => pF n (kidZ a nm) (kidZ b nm) := by
  have hb6 : b.sort ≠ 6 := by omega
  have hab : a.sort = b.sort := by omega
  have ha4 : a.sort ≠ 4 := by omega
  rw [Bool.eq_iff_iff, List.all_eq_true]
  constructor
  · intro hf nm hm
    obtain ⟨h1, h2⟩ := fit_open hb6 hab ha4 hla hlb hf
    by_cases hma : nm ∈ a.names
    · obtain ⟨i, hi, rfl⟩ := List.mem_iff_getElem.1 hma
      obtain ⟨x, hx, hfx⟩ := h1 i hi
      have hx0 : x.sort ≠ 0 := by
        obtain ⟨j, hj, e⟩ := List.mem_iff_getElem.1 (kidN_is (by rw [hx]; rfl))
        rw [← e, kidN_at hnb hlb hj] at hx
        rw [← Option.some.inj hx]
        exact hzb _ (List.getElem_mem _)
      unfold pF kidZ
      rw [kidN_at hna hla hi, hx]
      simp only [Option.getD_some]
      rw [if_neg (hza _ (List.getElem_mem _)), if_neg hx0]
      exact hfx
    · have hmb : nm ∈ b.names := ((hU nm).1 hm).resolve_left hma
      obtain ⟨i, hi, rfl⟩ := List.mem_iff_getElem.1 hmb
      have := (h2 i hi).resolve_left (fun h => hma (kidN_is h))
      unfold pF kidZ
      rw [kidN_none hma, kidN_at hnb hlb hi]
      simp only [Option.getD_some, Option.getD_none]
      rw [if_pos (show kd0.sort = 0 from rfl)]
      exact decide_eq_true this
  · intro hall
    refine fit_yes hb6 hab ha4 hla hlb (fun i hi => ?_) (fun i hi => ?_)
    · have := hall a.names[i] ((hU _).2 (Or.inl (List.getElem_mem _)))
      unfold pF kidZ at this
      rw [kidN_at hna hla hi] at this
      simp only [Option.getD_some] at this
      rw [if_neg (hza _ (List.getElem_mem _))] at this
      cases hk : kidN b a.names[i] with
      | none => rw [hk] at this; simp [kd0, Kd.sort] at this
      | some x =>
        rw [hk] at this
        simp only [Option.getD_some] at this
        split at this
        · cases this
        · exact ⟨x, rfl, this⟩
    · by_cases hma : b.names[i] ∈ a.names
      · exact Or.inl (kidN_has hma)
      · have := hall b.names[i] ((hU _).2 (Or.inr (List.getElem_mem _)))
        unfold pF kidZ at this
        rw [kidN_none hma, kidN_at hnb hlb hi] at this
        simp only [Option.getD_some, Option.getD_none] at this
        rw [if_pos (show kd0.sort = 0 from rfl)] at this
        exact Or.inr (of_decide_eq_true this)
end Go.Proofs.YtenpghndgdemnaaGreatDoor

/- The specification's l3Fits: the drawn regions in which the schema of a name is looked up. No conditions. -/

namespace Go.Proofs.YtenpghndgdemnaaGreatDoor
open Go Go.RowKit

theorem sizeKd : (Tryz.prog.info? 26).map (·.size) = some 3 := by kernel_rfl
theorem ldKd (w : World) (b : Nat) (x y z : Value) (h : w.rowIs b 26 3 (row3 x y z)) : (Instr.loadAt 26 (.pointer (some ⟨b, 0, none⟩))).run Tryz.prog w = .ok (.agg #[x, y, z]) w := by
  have h0 := h.cell (i := 0) (by omega); have h1 := h.cell (i := 1) (by omega); have h2 := h.cell (i := 2) (by omega)
  simp only [row3] at h0 h1 h2
  have hr : w.rangeAt b 0 [x, y, z] := fun j v hv => by
    rw [Nat.zero_add]
    match j, hv with
    | 0, hv => simp at hv; subst hv; exact h0
    | 1, hv => simp at hv; subst hv; exact h1
    | 2, hv => simp at hv; subst hv; exact h2
    | j + 3, hv => simp at hv
  unfold Instr.loadAt
  simp only [Instr.sureAddr, Sem.run_bind, Sem.run_pure, Result.andThen_ok, run_loadVar_mid w b 0 26 [x, y, z] _ hr Tryz.underlying26 rfl sizeKd]
theorem ldStrsF (w : World) (ad : Addr) (v : Value) (h : w.cell? ad = some v) : (Instr.loadAt 23 (.pointer (some ad))).run Tryz.prog w = .ok v w := by
  simp [Instr.loadAt, Instr.sureAddr, loadVar, Tryz.isAgg23, h, go_sem]
theorem ldStrF (w : World) (ad : Addr) (v : Value) (h : w.cell? ad = some v) : (Instr.loadAt 9 (.pointer (some ad))).run Tryz.prog w = .ok v w := by
  simp [Instr.loadAt, Instr.sureAddr, loadVar, Tryz.isAgg9, h, go_sem]
theorem ixRunF {o : Oper} {a : Act} {X I : Operand} {g p n cap i : Nat} (ho : o.op = .indexAddr 23 X I) (hx : a.eval X = .slice (some ⟨g, p, none⟩) n cap) (hi : a.eval I = .int .i64 (i : Nat)) (h : i < n) (w : World) : (execOp a.eval o).run Tryz.prog w = .ok (.value (.pointer (some ⟨g, p + i, none⟩))) w := by
  have h1 : (0 : Int) ≤ (i : Int) ∧ (i : Int) < (n : Int) := ⟨by omega, by omega⟩
  have h2 : (Instr.indexAt 23 (.slice (some ⟨g, p, none⟩) n cap) (.int .i64 (i : Nat))).run Tryz.prog w = .ok (.pointer (some ⟨g, p + i, none⟩)) w := by
    have e : (⟨g, p + i, none⟩ : Addr) = (⟨g, p, none⟩ : Addr).add i := by simp [Addr.add]
    rw [e]
    simp [go_sem, h1]
  unfold execOp
  simp only [ho, hx, hi, Sem.run_bind, Sem.run_pure, Result.andThen_ok, h2]
theorem set3f (W : World) (b : Nat) (x y z : Value) : But b W (W.setCells b 0 [x, y, z]) ∧ (∀ T f, W.rowIs b T 3 f → (W.setCells b 0 [x, y, z]).rowIs b T 3 (row3 x y z)) := by
  show But b W (((W.setCell ⟨b, 0, none⟩ x).setCell ⟨b, 1, none⟩ y).setCell ⟨b, 2, none⟩ z) ∧ (∀ T f, W.rowIs b T 3 f → (((W.setCell ⟨b, 0, none⟩ x).setCell ⟨b, 1, none⟩ y).setCell ⟨b, 2, none⟩ z).rowIs b T 3 (row3 x y z))
  exact ⟨((But.set W 0 x).trans (But.set _ 1 y)).trans (But.set _ 2 z), fun T f h => (((h.set 0 x).set 1 y).set 2 z).congr (fun i hi => by rcases (show i = 0 ∨ i = 1 ∨ i = 2 by omega) with rfl | rfl | rfl <;> rfl)⟩
theorem there3f {w : World} {b : Nat} {T : TypeId} {n : Nat} {f : Nat → Value} (h : w.rowIs b T n f) : w.there b 0 n := fun j hj => by
  rw [Nat.zero_add]
  exact ⟨by rw [h.cell hj]; rfl, h.frozen j⟩
theorem below_boxf {B W : World} {g : Nat} (h : Below B.heap.size B W) (hg : B.heap.size ≤ g) {W' : World} (hb : But g W W') : Below B.heap.size B W' := h.trans ⟨hb.os, hb.tape, hb.output, hb.size, fun i hi => hb.at (by have := h.size; omega) (by omega)⟩
theorem below_onf {B W W' : World} (h : Below B.heap.size B W) (hb : Below W.heap.size W W') : Below B.heap.size B W' := h.trans (hb.mono h.size)
def kp12 (z : Nat → Value) : List (Nat × Value) := [0, 1, 4, 8, 9, 10, 11, 12, 13, 14, 15, 16, 17, 18, 19, 20, 21, 22, 23, 24, 25, 26, 27, 28, 29, 30, 31, 32, 33, 34, 35, 36, 37, 38, 39, 40, 41, 42, 43, 44, 45, 46, 47, 48, 49, 50, 51, 52, 53, 54, 55, 66, 67, 68, 69, 70, 71, 72, 73, 74, 75, 76, 77, 78, 79, 80, 81, 82, 83, 84, 85, 86, 87, 88, 89, 90, 91, 92, 93, 94, 95, 96, 97, 98, 99, 100, 101, 102, 103, 104, 105].map fun i => (i, z i)
noncomputable def ft12Ops : Array Oper := fops Tryz.f27 12
theorem ft12_neat : Region.noSelect ft12Ops = true ∧ neat ft12Ops = true := ⟨by kernel_rfl, by kernel_rfl⟩
set_option maxRecDepth 100000 in
set_option maxHeartbeats 3200000 in
theorem ft12z (z : Nat → Value) (LL : (Nat → Value) → Nat → Bool → List Value) (A C : Nat) (c0 c1 c2 n0 n2 : Value) (nb no len cap i : Nat) (nm : ByteArray) (G : Value → Value → Value → Bool → Prop) (W0 : World) {l : List Value} (Q : Exit → Act → World → Prop) (hQ : ∀ c a d v w, Q (.panic c) (Act.put a d v) w → Q (.panic c) a w) (hA : W0.drew.rowIs A 26 3 (row3 n0 (.slice (some ⟨nb, no, none⟩) len cap) n2)) (hC : W0.drew.rowIs C 26 3 (row3 c0 c1 c2)) (hi : i < len) (hc : W0.drew.cell? ⟨nb, no + i, none⟩ = some (.string nm)) (hone : ∀ y0 y1 y2 ok, G y0 y1 y2 ok → (#[y0, y1, y2] : Array Value).all (·.oneCell') = true) (HK : ∀ W, Below W0.drew.heap.size W0.drew W → Calls Tryz.prog 59 #[.agg #[c0, c1, c2], .string nm] W fun e w' => Below W.heap.size W w' ∧ ∃ y0 y1 y2 ok, e = .returned (.tuple #[.agg #[y0, y1, y2], .bool ok]) ∧ G y0 y1 y2 ok) (hl : lookL (kp12 z ++ [(2, .pointer (some ⟨A, 0, none⟩)), (3, .pointer (some ⟨C, 0, none⟩)), (5, .int .i64 (i : Nat))]) l = (106, (kp12 z ++ [(2, .pointer (some ⟨A, 0, none⟩)), (3, .pointer (some ⟨C, 0, none⟩)), (5, .int .i64 (i : Nat))] : List (Nat × Value)).map (·.2))) (hfr : ∀ (u : Nat → Value) (g : Nat) (ok : Bool), frL u 106 (kp12 z ++ [(2, .pointer (some ⟨A, 0, none⟩)), (3, .pointer (some ⟨C, 0, none⟩)), (5, .int .i64 (i : Nat)), (6, .pointer (some ⟨g, 0, none⟩)), (7, .bool ok)]) = LL u g ok)
    (hend : ∀ (u : Nat → Value) (y0 y1 y2 : Value) (ok : Bool) (g : Nat) (W' : World), Below W0.drew.heap.size W0.drew W' → W'.rowIs g 26 3 (row3 y0 y1 y2) → W0.drew.heap.size ≤ g → G y0 y1 y2 ok → Q .normal ⟨(LL u g ok).toArray, []⟩ W') : (Code.region 12 ft12Ops true).wp Tryz.prog Q ⟨l.toArray, []⟩ W0 := by
  obtain ⟨v0, rfl⟩ := look_fr hl
  have hq : NtQ ft12Ops Q := ⟨ft12_neat, hQ⟩
  refine T_start (S := fun W => Below W0.drew.heap.size W0.drew W) (by kernel_rfl) (Below.refl _ _) ?_
  clear hl hQ
  have hcl := World.block_lt_of_cell? W0.drew _ hc
  generalize W0.drew = B at hA hC hc hcl HK hend ⊢
  have Q1 : ∀ (u : Nat → Value) (W : World) (hW : Below B.heap.size B W) (g : Nat) (hg : W.rowIs g 26 3 (row3 (.int .i64 0) (.slice none 0 0) (.slice none 0 0))) (hgb : B.heap.size ≤ g) (y0 y1 y2 : Value) (ok : Bool) (hG : G y0 y1 y2 ok) , wpS Tryz.prog ft12Ops Q (fun W => Below B.heap.size B W) (unl 13 [11, 12], frL u 106 (kp12 z ++ [(2, .pointer (some ⟨A, 0, none⟩)), (3, .pointer (some ⟨C, 0, none⟩)), (5, .int .i64 (i : Nat)), (6, .pointer (some ⟨g, 0, none⟩)), (64, .agg #[y0, y1, y2]), (65, .bool ok)])) [] W := by
    intro u W hW g hg hgb y0 y1 y2 ok hG 
    refine T_one 11 (by kernel_rfl) fun _ => ?_
    have hs3 := set3f W g y0 y1 y2
    have hW2 := below_boxf hW hgb hs3.1
    refine O_store_mid none 26 (.tmp 6) (.tmp 64) g 0 #[y0, y1, y2] (by kernel_rfl) (by kernel_rfl) (by kernel_rfl) (there3f hg) sizeKd (hone _ _ _ _ hG) hW2 ?_
    refine T_z hq [12] (by kernel_rfl) ?_
    exact T_end 106 (kp12 z ++ [(2, .pointer (some ⟨A, 0, none⟩)), (3, .pointer (some ⟨C, 0, none⟩)), (5, .int .i64 (i : Nat)), (6, .pointer (some ⟨g, 0, none⟩)), (7, .bool ok)]) (by kernel_rfl) (by kernel_rfl) fun _ u => by rw [hfr]; exact hend u y0 y1 y2 ok g _ hW2 (hs3.2 _ _ hg) hgb hG
  have P1 : ∀ (u : Nat → Value) (W : World) (hW : Below B.heap.size B W) (y0 y1 y2 : Value) (ok : Bool) (hG : G y0 y1 y2 ok) , wpS Tryz.prog ft12Ops Q (fun W => Below B.heap.size B W) (unl 13 [10, 11, 12], frL u 106 (kp12 z ++ [(2, .pointer (some ⟨A, 0, none⟩)), (3, .pointer (some ⟨C, 0, none⟩)), (5, .int .i64 (i : Nat)), (64, .agg #[y0, y1, y2]), (65, .bool ok)])) [] W := by
    intro u W hW y0 y1 y2 ok hG 
    refine T_one 10 (by kernel_rfl) fun _ => ?_
    exact O_val (w' := W.alloc (.cells #[.int .i64 0, .slice none 0 0, .slice none 0 0] 26)) (some 6) (.pointer (some ⟨W.heap.size, 0, none⟩)) (by kernel_rfl) (by kernel_rfl) (hW.alloc hW.size _) (T_fr 13 106 [11, 12] (kp12 z ++ [(2, .pointer (some ⟨A, 0, none⟩)), (3, .pointer (some ⟨C, 0, none⟩)), (5, .int .i64 (i : Nat)), (6, .pointer (some ⟨W.heap.size, 0, none⟩)), (64, .agg #[y0, y1, y2]), (65, .bool ok)]) (by kernel_rfl) fun u => Q1 u _ (hW.alloc hW.size _) _ (row3_alloc W _ _ _ _) hW.size y0 y1 y2 ok hG )
  have Q0 : ∀ (u : Nat → Value) (W : World) (hW : Below B.heap.size B W) (g : Nat) (hg : W.rowIs g 26 3 (row3 (.int .i64 0) (.slice none 0 0) (.slice none 0 0))) (hgb : B.heap.size ≤ g) , wpS Tryz.prog ft12Ops Q (fun W => Below B.heap.size B W) (unl 13 [6, 7, 8, 9, 11, 12], frL u 106 (kp12 z ++ [(2, .pointer (some ⟨A, 0, none⟩)), (3, .pointer (some ⟨C, 0, none⟩)), (5, .int .i64 (i : Nat)), (6, .pointer (some ⟨g, 0, none⟩)), (57, .agg #[c0, c1, c2]), (62, .string nm)])) [] W := by
    intro u W hW g hg hgb
    refine T_one 6 (by kernel_rfl) fun _ => ?_
    · refine O_go (HK W hW) (by kernel_rfl) ?_
      rintro e W1 ⟨hb1, y0, y1, y2, ok, rfl, hG⟩
      exact ⟨_, rfl, below_onf hW hb1, T_z hq [7, 8, 9] (by kernel_rfl) (T_fr 13 106 [11, 12] (kp12 z ++ [(2, .pointer (some ⟨A, 0, none⟩)), (3, .pointer (some ⟨C, 0, none⟩)), (5, .int .i64 (i : Nat)), (6, .pointer (some ⟨g, 0, none⟩)), (64, .agg #[y0, y1, y2]), (65, .bool ok)]) (by kernel_rfl) fun u => Q1 u W1 (below_onf hW hb1) g (hg.of_block (hb1.block _ hg.lt)) hgb y0 y1 y2 ok hG)⟩
  have P0 : ∀ (u : Nat → Value) (W : World) (hW : Below B.heap.size B W), wpS Tryz.prog ft12Ops Q (fun W => Below B.heap.size B W) (unl 13 [6, 7, 8, 9, 10, 11, 12], frL u 106 (kp12 z ++ [(2, .pointer (some ⟨A, 0, none⟩)), (3, .pointer (some ⟨C, 0, none⟩)), (5, .int .i64 (i : Nat)), (57, .agg #[c0, c1, c2]), (62, .string nm)])) [] W := by
    intro u W hW
    refine T_two 6 10 (by kernel_rfl) (fun _ => ?_) fun _ => ?_
    · refine O_go (HK W hW) (by kernel_rfl) ?_
      rintro e W1 ⟨hb1, y0, y1, y2, ok, rfl, hG⟩
      exact ⟨_, rfl, below_onf hW hb1, T_z hq [7, 8, 9] (by kernel_rfl) (T_fr 13 106 [10, 11, 12] (kp12 z ++ [(2, .pointer (some ⟨A, 0, none⟩)), (3, .pointer (some ⟨C, 0, none⟩)), (5, .int .i64 (i : Nat)), (64, .agg #[y0, y1, y2]), (65, .bool ok)]) (by kernel_rfl) fun u => P1 u W1 (below_onf hW hb1) y0 y1 y2 ok hG)⟩
    · exact O_val (w' := W.alloc (.cells #[.int .i64 0, .slice none 0 0, .slice none 0 0] 26)) (some 6) (.pointer (some ⟨W.heap.size, 0, none⟩)) (by kernel_rfl) (by kernel_rfl) (hW.alloc hW.size _) (T_fr 13 106 [6, 7, 8, 9, 11, 12] (kp12 z ++ [(2, .pointer (some ⟨A, 0, none⟩)), (3, .pointer (some ⟨C, 0, none⟩)), (5, .int .i64 (i : Nat)), (6, .pointer (some ⟨W.heap.size, 0, none⟩)), (57, .agg #[c0, c1, c2]), (62, .string nm)]) (by kernel_rfl) fun u => Q0 u _ (hW.alloc hW.size _) _ (row3_alloc W _ _ _ _) hW.size )
  refine T_a hq [0] (fun w' h => .cons (ldKd _ _ _ _ _ (hC.of_block (h.block _ hC.lt))) Lds.nil) (by kernel_rfl) ?_
  refine T_z hq [1, 3] (by kernel_rfl) ?_
  refine T_a hq [2] (fun w' h => .cons (ldStrsF _ _ (.slice (some ⟨nb, no, none⟩) len cap) ((hA.of_block (h.block _ hA.lt)).cell (i := 1) (by omega))) Lds.nil) (by kernel_rfl) ?_
  refine T_yld hq 4 (some 61) (.pointer (some ⟨nb, no + i, none⟩)) (by kernel_rfl) (by kernel_rfl) (fun w _ => ixRunF (n := len) (cap := cap) (i := i) (X := .tmp 59) (I := .tmp 60) (by kernel_rfl) (by kernel_rfl) (by kernel_rfl) hi w) ?_
  refine T_a hq [5] (fun w' h => .cons (ldStrF _ ⟨nb, no + i, none⟩ (.string nm) (by rw [World.cell?_of_block (w := B) (h.block nb hcl)]; exact hc)) Lds.nil) (by kernel_rfl) ?_
  exact T_fr 13 106 [6, 7, 8, 9, 10, 11, 12] (kp12 z ++ [(2, .pointer (some ⟨A, 0, none⟩)), (3, .pointer (some ⟨C, 0, none⟩)), (5, .int .i64 (i : Nat)), (57, .agg #[c0, c1, c2]), (62, .string nm)]) (by kernel_rfl) fun u => P0 u _ (Below.refl _ _)
theorem ft12 (A C : Nat) (c0 c1 c2 n0 n2 : Value) (nb no len cap i : Nat) (nm : ByteArray) (G : Value → Value → Value → Bool → Prop) (W0 : World) {l : List Value} (Q : Exit → Act → World → Prop) (hQ : ∀ c a d v w, Q (.panic c) (Act.put a d v) w → Q (.panic c) a w) (hA : W0.drew.rowIs A 26 3 (row3 n0 (.slice (some ⟨nb, no, none⟩) len cap) n2)) (hC : W0.drew.rowIs C 26 3 (row3 c0 c1 c2)) (hi : i < len) (hc : W0.drew.cell? ⟨nb, no + i, none⟩ = some (.string nm)) (hone : ∀ y0 y1 y2 ok, G y0 y1 y2 ok → (#[y0, y1, y2] : Array Value).all (·.oneCell') = true) (HK : ∀ W, Below W0.drew.heap.size W0.drew W → Calls Tryz.prog 59 #[.agg #[c0, c1, c2], .string nm] W fun e w' => Below W.heap.size W w' ∧ ∃ y0 y1 y2 ok, e = .returned (.tuple #[.agg #[y0, y1, y2], .bool ok]) ∧ G y0 y1 y2 ok) (hl : lookL (kp12 (fun i => l.getD i undef) ++ [(2, .pointer (some ⟨A, 0, none⟩)), (3, .pointer (some ⟨C, 0, none⟩)), (5, .int .i64 (i : Nat))]) l = (106, (kp12 (fun i => l.getD i undef) ++ [(2, .pointer (some ⟨A, 0, none⟩)), (3, .pointer (some ⟨C, 0, none⟩)), (5, .int .i64 (i : Nat))] : List (Nat × Value)).map (·.2))) (hfr : ∀ (u : Nat → Value) (g : Nat) (ok : Bool), frL u 106 (kp12 (fun i => l.getD i undef) ++ [(2, .pointer (some ⟨A, 0, none⟩)), (3, .pointer (some ⟨C, 0, none⟩)), (5, .int .i64 (i : Nat)), (6, .pointer (some ⟨g, 0, none⟩)), (7, .bool ok)]) = l.take 6 ++ .pointer (some ⟨g, 0, none⟩) :: .bool ok :: ((l.drop 8).take 48 ++ (u 56 :: u 57 :: u 58 :: u 59 :: u 60 :: u 61 :: u 62 :: u 63 :: u 64 :: u 65 :: l.drop 66)))
    (hend : ∀ (u : Nat → Value) (y0 y1 y2 : Value) (ok : Bool) (g : Nat) (W' : World), Below W0.drew.heap.size W0.drew W' → W'.rowIs g 26 3 (row3 y0 y1 y2) → W0.drew.heap.size ≤ g → G y0 y1 y2 ok → Q .normal ⟨(l.take 6 ++ .pointer (some ⟨g, 0, none⟩) :: .bool ok :: ((l.drop 8).take 48 ++ (u 56 :: u 57 :: u 58 :: u 59 :: u 60 :: u 61 :: u 62 :: u 63 :: u 64 :: u 65 :: l.drop 66))).toArray, []⟩ W') : (Code.region 12 ft12Ops true).wp Tryz.prog Q ⟨l.toArray, []⟩ W0 :=
  ft12z (fun i => l.getD i undef) (fun u g ok => l.take 6 ++ .pointer (some ⟨g, 0, none⟩) :: .bool ok :: ((l.drop 8).take 48 ++ (u 56 :: u 57 :: u 58 :: u 59 :: u 60 :: u 61 :: u 62 :: u 63 :: u 64 :: u 65 :: l.drop 66))) A C c0 c1 c2 n0 n2 nb no len cap i nm G W0 Q hQ hA hC hi hc hone HK hl hfr hend
def kp18 (z : Nat → Value) : List (Nat × Value) := [0, 1, 4, 5, 6, 7, 11, 12, 13, 14, 15, 16, 17, 18, 19, 20, 21, 22, 23, 24, 25, 26, 27, 28, 29, 30, 31, 32, 33, 34, 35, 36, 37, 38, 39, 40, 41, 42, 43, 44, 45, 46, 47, 48, 49, 50, 51, 52, 53, 54, 55, 56, 57, 58, 59, 60, 61, 62, 63, 64, 65, 66, 67, 68, 69, 70, 71, 72, 73, 74, 75, 76, 77, 78, 79, 80, 81, 82, 83, 84, 95, 96, 97, 98, 99, 100, 101, 102, 103, 104, 105].map fun i => (i, z i)
noncomputable def ft18Ops : Array Oper := fops Tryz.f27 18
theorem ft18_neat : Region.noSelect ft18Ops = true ∧ neat ft18Ops = true := ⟨by kernel_rfl, by kernel_rfl⟩
set_option maxRecDepth 100000 in
set_option maxHeartbeats 3200000 in
theorem ft18z (z : Nat → Value) (LL : (Nat → Value) → Nat → Bool → List Value) (A C : Nat) (c0 c1 c2 n0 n2 : Value) (nb no len cap i : Nat) (nm : ByteArray) (G : Value → Value → Value → Bool → Prop) (W0 : World) {l : List Value} (Q : Exit → Act → World → Prop) (hQ : ∀ c a d v w, Q (.panic c) (Act.put a d v) w → Q (.panic c) a w) (hA : W0.drew.rowIs A 26 3 (row3 c0 c1 c2)) (hC : W0.drew.rowIs C 26 3 (row3 n0 (.slice (some ⟨nb, no, none⟩) len cap) n2)) (hi : i < len) (hc : W0.drew.cell? ⟨nb, no + i, none⟩ = some (.string nm)) (hone : ∀ y0 y1 y2 ok, G y0 y1 y2 ok → (#[y0, y1, y2] : Array Value).all (·.oneCell') = true) (HK : ∀ W, Below W0.drew.heap.size W0.drew W → Calls Tryz.prog 59 #[.agg #[c0, c1, c2], .string nm] W fun e w' => Below W.heap.size W w' ∧ ∃ y0 y1 y2 ok, e = .returned (.tuple #[.agg #[y0, y1, y2], .bool ok]) ∧ G y0 y1 y2 ok) (hl : lookL (kp18 z ++ [(2, .pointer (some ⟨A, 0, none⟩)), (3, .pointer (some ⟨C, 0, none⟩)), (8, .int .i64 (i : Nat))]) l = (106, (kp18 z ++ [(2, .pointer (some ⟨A, 0, none⟩)), (3, .pointer (some ⟨C, 0, none⟩)), (8, .int .i64 (i : Nat))] : List (Nat × Value)).map (·.2))) (hfr : ∀ (u : Nat → Value) (g : Nat) (ok : Bool), frL u 106 (kp18 z ++ [(2, .pointer (some ⟨A, 0, none⟩)), (3, .pointer (some ⟨C, 0, none⟩)), (8, .int .i64 (i : Nat)), (9, .pointer (some ⟨g, 0, none⟩)), (10, .bool ok)]) = LL u g ok)
    (hend : ∀ (u : Nat → Value) (y0 y1 y2 : Value) (ok : Bool) (g : Nat) (W' : World), Below W0.drew.heap.size W0.drew W' → W'.rowIs g 26 3 (row3 y0 y1 y2) → W0.drew.heap.size ≤ g → G y0 y1 y2 ok → Q .normal ⟨(LL u g ok).toArray, []⟩ W') : (Code.region 18 ft18Ops true).wp Tryz.prog Q ⟨l.toArray, []⟩ W0 := by
  obtain ⟨v0, rfl⟩ := look_fr hl
  have hq : NtQ ft18Ops Q := ⟨ft18_neat, hQ⟩
  refine T_start (S := fun W => Below W0.drew.heap.size W0.drew W) (by kernel_rfl) (Below.refl _ _) ?_
  clear hl hQ
  have hcl := World.block_lt_of_cell? W0.drew _ hc
  generalize W0.drew = B at hA hC hc hcl HK hend ⊢
  have Q1 : ∀ (u : Nat → Value) (W : World) (hW : Below B.heap.size B W) (g : Nat) (hg : W.rowIs g 26 3 (row3 (.int .i64 0) (.slice none 0 0) (.slice none 0 0))) (hgb : B.heap.size ≤ g) (y0 y1 y2 : Value) (ok : Bool) (hG : G y0 y1 y2 ok) , wpS Tryz.prog ft18Ops Q (fun W => Below B.heap.size B W) (unl 13 [11, 12], frL u 106 (kp18 z ++ [(2, .pointer (some ⟨A, 0, none⟩)), (3, .pointer (some ⟨C, 0, none⟩)), (8, .int .i64 (i : Nat)), (9, .pointer (some ⟨g, 0, none⟩)), (93, .agg #[y0, y1, y2]), (94, .bool ok)])) [] W := by
    intro u W hW g hg hgb y0 y1 y2 ok hG 
    refine T_one 11 (by kernel_rfl) fun _ => ?_
    have hs3 := set3f W g y0 y1 y2
    have hW2 := below_boxf hW hgb hs3.1
    refine O_store_mid none 26 (.tmp 9) (.tmp 93) g 0 #[y0, y1, y2] (by kernel_rfl) (by kernel_rfl) (by kernel_rfl) (there3f hg) sizeKd (hone _ _ _ _ hG) hW2 ?_
    refine T_z hq [12] (by kernel_rfl) ?_
    exact T_end 106 (kp18 z ++ [(2, .pointer (some ⟨A, 0, none⟩)), (3, .pointer (some ⟨C, 0, none⟩)), (8, .int .i64 (i : Nat)), (9, .pointer (some ⟨g, 0, none⟩)), (10, .bool ok)]) (by kernel_rfl) (by kernel_rfl) fun _ u => by rw [hfr]; exact hend u y0 y1 y2 ok g _ hW2 (hs3.2 _ _ hg) hgb hG
  have P1 : ∀ (u : Nat → Value) (W : World) (hW : Below B.heap.size B W) (y0 y1 y2 : Value) (ok : Bool) (hG : G y0 y1 y2 ok) , wpS Tryz.prog ft18Ops Q (fun W => Below B.heap.size B W) (unl 13 [10, 11, 12], frL u 106 (kp18 z ++ [(2, .pointer (some ⟨A, 0, none⟩)), (3, .pointer (some ⟨C, 0, none⟩)), (8, .int .i64 (i : Nat)), (93, .agg #[y0, y1, y2]), (94, .bool ok)])) [] W := by
    intro u W hW y0 y1 y2 ok hG 
    refine T_one 10 (by kernel_rfl) fun _ => ?_
    exact O_val (w' := W.alloc (.cells #[.int .i64 0, .slice none 0 0, .slice none 0 0] 26)) (some 9) (.pointer (some ⟨W.heap.size, 0, none⟩)) (by kernel_rfl) (by kernel_rfl) (hW.alloc hW.size _) (T_fr 13 106 [11, 12] (kp18 z ++ [(2, .pointer (some ⟨A, 0, none⟩)), (3, .pointer (some ⟨C, 0, none⟩)), (8, .int .i64 (i : Nat)), (9, .pointer (some ⟨W.heap.size, 0, none⟩)), (93, .agg #[y0, y1, y2]), (94, .bool ok)]) (by kernel_rfl) fun u => Q1 u _ (hW.alloc hW.size _) _ (row3_alloc W _ _ _ _) hW.size y0 y1 y2 ok hG )
  have Q0 : ∀ (u : Nat → Value) (W : World) (hW : Below B.heap.size B W) (g : Nat) (hg : W.rowIs g 26 3 (row3 (.int .i64 0) (.slice none 0 0) (.slice none 0 0))) (hgb : B.heap.size ≤ g) , wpS Tryz.prog ft18Ops Q (fun W => Below B.heap.size B W) (unl 13 [6, 7, 8, 9, 11, 12], frL u 106 (kp18 z ++ [(2, .pointer (some ⟨A, 0, none⟩)), (3, .pointer (some ⟨C, 0, none⟩)), (8, .int .i64 (i : Nat)), (9, .pointer (some ⟨g, 0, none⟩)), (86, .agg #[c0, c1, c2]), (91, .string nm)])) [] W := by
    intro u W hW g hg hgb
    refine T_one 6 (by kernel_rfl) fun _ => ?_
    · refine O_go (HK W hW) (by kernel_rfl) ?_
      rintro e W1 ⟨hb1, y0, y1, y2, ok, rfl, hG⟩
      exact ⟨_, rfl, below_onf hW hb1, T_z hq [7, 8, 9] (by kernel_rfl) (T_fr 13 106 [11, 12] (kp18 z ++ [(2, .pointer (some ⟨A, 0, none⟩)), (3, .pointer (some ⟨C, 0, none⟩)), (8, .int .i64 (i : Nat)), (9, .pointer (some ⟨g, 0, none⟩)), (93, .agg #[y0, y1, y2]), (94, .bool ok)]) (by kernel_rfl) fun u => Q1 u W1 (below_onf hW hb1) g (hg.of_block (hb1.block _ hg.lt)) hgb y0 y1 y2 ok hG)⟩
  have P0 : ∀ (u : Nat → Value) (W : World) (hW : Below B.heap.size B W), wpS Tryz.prog ft18Ops Q (fun W => Below B.heap.size B W) (unl 13 [6, 7, 8, 9, 10, 11, 12], frL u 106 (kp18 z ++ [(2, .pointer (some ⟨A, 0, none⟩)), (3, .pointer (some ⟨C, 0, none⟩)), (8, .int .i64 (i : Nat)), (86, .agg #[c0, c1, c2]), (91, .string nm)])) [] W := by
    intro u W hW
    refine T_two 6 10 (by kernel_rfl) (fun _ => ?_) fun _ => ?_
    · refine O_go (HK W hW) (by kernel_rfl) ?_
      rintro e W1 ⟨hb1, y0, y1, y2, ok, rfl, hG⟩
      exact ⟨_, rfl, below_onf hW hb1, T_z hq [7, 8, 9] (by kernel_rfl) (T_fr 13 106 [10, 11, 12] (kp18 z ++ [(2, .pointer (some ⟨A, 0, none⟩)), (3, .pointer (some ⟨C, 0, none⟩)), (8, .int .i64 (i : Nat)), (93, .agg #[y0, y1, y2]), (94, .bool ok)]) (by kernel_rfl) fun u => P1 u W1 (below_onf hW hb1) y0 y1 y2 ok hG)⟩
    · exact O_val (w' := W.alloc (.cells #[.int .i64 0, .slice none 0 0, .slice none 0 0] 26)) (some 9) (.pointer (some ⟨W.heap.size, 0, none⟩)) (by kernel_rfl) (by kernel_rfl) (hW.alloc hW.size _) (T_fr 13 106 [6, 7, 8, 9, 11, 12] (kp18 z ++ [(2, .pointer (some ⟨A, 0, none⟩)), (3, .pointer (some ⟨C, 0, none⟩)), (8, .int .i64 (i : Nat)), (9, .pointer (some ⟨W.heap.size, 0, none⟩)), (86, .agg #[c0, c1, c2]), (91, .string nm)]) (by kernel_rfl) fun u => Q0 u _ (hW.alloc hW.size _) _ (row3_alloc W _ _ _ _) hW.size )
  refine T_a hq [0] (fun w' h => .cons (ldKd _ _ _ _ _ (hA.of_block (h.block _ hA.lt))) Lds.nil) (by kernel_rfl) ?_
  refine T_z hq [1, 3] (by kernel_rfl) ?_
  refine T_a hq [2] (fun w' h => .cons (ldStrsF _ _ (.slice (some ⟨nb, no, none⟩) len cap) ((hC.of_block (h.block _ hC.lt)).cell (i := 1) (by omega))) Lds.nil) (by kernel_rfl) ?_
  refine T_yld hq 4 (some 90) (.pointer (some ⟨nb, no + i, none⟩)) (by kernel_rfl) (by kernel_rfl) (fun w _ => ixRunF (n := len) (cap := cap) (i := i) (X := .tmp 88) (I := .tmp 89) (by kernel_rfl) (by kernel_rfl) (by kernel_rfl) hi w) ?_
  refine T_a hq [5] (fun w' h => .cons (ldStrF _ ⟨nb, no + i, none⟩ (.string nm) (by rw [World.cell?_of_block (w := B) (h.block nb hcl)]; exact hc)) Lds.nil) (by kernel_rfl) ?_
  exact T_fr 13 106 [6, 7, 8, 9, 10, 11, 12] (kp18 z ++ [(2, .pointer (some ⟨A, 0, none⟩)), (3, .pointer (some ⟨C, 0, none⟩)), (8, .int .i64 (i : Nat)), (86, .agg #[c0, c1, c2]), (91, .string nm)]) (by kernel_rfl) fun u => P0 u _ (Below.refl _ _)
theorem ft18 (A C : Nat) (c0 c1 c2 n0 n2 : Value) (nb no len cap i : Nat) (nm : ByteArray) (G : Value → Value → Value → Bool → Prop) (W0 : World) {l : List Value} (Q : Exit → Act → World → Prop) (hQ : ∀ c a d v w, Q (.panic c) (Act.put a d v) w → Q (.panic c) a w) (hA : W0.drew.rowIs A 26 3 (row3 c0 c1 c2)) (hC : W0.drew.rowIs C 26 3 (row3 n0 (.slice (some ⟨nb, no, none⟩) len cap) n2)) (hi : i < len) (hc : W0.drew.cell? ⟨nb, no + i, none⟩ = some (.string nm)) (hone : ∀ y0 y1 y2 ok, G y0 y1 y2 ok → (#[y0, y1, y2] : Array Value).all (·.oneCell') = true) (HK : ∀ W, Below W0.drew.heap.size W0.drew W → Calls Tryz.prog 59 #[.agg #[c0, c1, c2], .string nm] W fun e w' => Below W.heap.size W w' ∧ ∃ y0 y1 y2 ok, e = .returned (.tuple #[.agg #[y0, y1, y2], .bool ok]) ∧ G y0 y1 y2 ok) (hl : lookL (kp18 (fun i => l.getD i undef) ++ [(2, .pointer (some ⟨A, 0, none⟩)), (3, .pointer (some ⟨C, 0, none⟩)), (8, .int .i64 (i : Nat))]) l = (106, (kp18 (fun i => l.getD i undef) ++ [(2, .pointer (some ⟨A, 0, none⟩)), (3, .pointer (some ⟨C, 0, none⟩)), (8, .int .i64 (i : Nat))] : List (Nat × Value)).map (·.2))) (hfr : ∀ (u : Nat → Value) (g : Nat) (ok : Bool), frL u 106 (kp18 (fun i => l.getD i undef) ++ [(2, .pointer (some ⟨A, 0, none⟩)), (3, .pointer (some ⟨C, 0, none⟩)), (8, .int .i64 (i : Nat)), (9, .pointer (some ⟨g, 0, none⟩)), (10, .bool ok)]) = l.take 9 ++ .pointer (some ⟨g, 0, none⟩) :: .bool ok :: ((l.drop 11).take 74 ++ (u 85 :: u 86 :: u 87 :: u 88 :: u 89 :: u 90 :: u 91 :: u 92 :: u 93 :: u 94 :: l.drop 95)))
    (hend : ∀ (u : Nat → Value) (y0 y1 y2 : Value) (ok : Bool) (g : Nat) (W' : World), Below W0.drew.heap.size W0.drew W' → W'.rowIs g 26 3 (row3 y0 y1 y2) → W0.drew.heap.size ≤ g → G y0 y1 y2 ok → Q .normal ⟨(l.take 9 ++ .pointer (some ⟨g, 0, none⟩) :: .bool ok :: ((l.drop 11).take 74 ++ (u 85 :: u 86 :: u 87 :: u 88 :: u 89 :: u 90 :: u 91 :: u 92 :: u 93 :: u 94 :: l.drop 95))).toArray, []⟩ W') : (Code.region 18 ft18Ops true).wp Tryz.prog Q ⟨l.toArray, []⟩ W0 :=
  ft18z (fun i => l.getD i undef) (fun u g ok => l.take 9 ++ .pointer (some ⟨g, 0, none⟩) :: .bool ok :: ((l.drop 11).take 74 ++ (u 85 :: u 86 :: u 87 :: u 88 :: u 89 :: u 90 :: u 91 :: u 92 :: u 93 :: u 94 :: l.drop 95))) A C c0 c1 c2 n0 n2 nb no len cap i nm G W0 Q hQ hA hC hi hc hone HK hl hfr hend
end Go.Proofs.YtenpghndgdemnaaGreatDoor
