/- Jobs as plain data, how they lie in memory, and what they tell. No program, no conditions. -/
import Derived.Test.YtchlbncncipecaaCwDat
import Derived.Test.YtchlbncncipecaaWInt
import Derived.Test.YtchlbncncipecaaWToS
namespace Go.Proofs.Ytchlbncncipecaa
open Go Go.RowKit

structure Jb where
  items : List Int
  bad : Int
def wJ : List Jb → Nat
  | [] => 0
  | j :: r => 1 + j.items.length + wJ r
theorem wJ_len (l : List Jb) : l.length ≤ wJ l := by
  induction l with
  | nil => simp [wJ]
  | cons a r ih => rw [wJ]; simp; omega
theorem wJ_mem {j : Jb} {l : List Jb} (h : j ∈ l) : j.items.length + 1 ≤ wJ l := by
  induction l with
  | nil => cases h
  | cons a r ih =>
    rw [wJ]
    rcases List.mem_cons.1 h with rfl | h
    · omega
    · have := ih h; omega
theorem wJ_take (js : List Jb) (k : Nat) (h : k < js.length) : wJ (js.take (k + 1)) = wJ (js.take k) + js[k].items.length + 1 := by
  induction js generalizing k with
  | nil => simp at h
  | cons a r ih =>
    cases k with
    | zero => simp [wJ]; omega
    | succ k => simp only [List.take_succ_cons, wJ, List.getElem_cons_succ]; rw [ih k (by simpa using h)]; omega

/-- One job of a list. -/
def JbOne (P : Nat → Prop) (w : World) (b o : Nat) (j : Jb) : Prop := ∃ a cap, w.cell? ⟨b, o, none⟩ = some (.slice a j.items.length cap) ∧ w.cell? ⟨b, o + 1, none⟩ = some (.int .i64 j.bad) ∧ ZsAt P w (.slice a j.items.length cap) j.items ∧ I64 j.bad
theorem JbOne.carry {P Q : Nat → Prop} {w w' : World} {b o : Nat} {j : Jb} (h : JbOne P w b o j) (hb : w'.heap[b]? = w.heap[b]?) (hP : ∀ b, P b → w'.heap[b]? = w.heap[b]?) (hQ : ∀ b, P b → Q b) : JbOne Q w' b o j := by
  obtain ⟨a, cap, h1, h2, h3, h4⟩ := h
  exact ⟨a, cap, by rw [World.cell?_of_block (w := w) hb]; exact h1, by rw [World.cell?_of_block (w := w) hb]; exact h2, h3.carry hP hQ, h4⟩
def JbsAt (P : Nat → Prop) (w : World) (v : Value) (js : List Jb) : Prop :=
  ∃ a cap, v = .slice a js.length cap ∧ js.length ≤ 9223372036854775807 ∧ ∀ i, (h : i < js.length) → ∃ b o, a = some ⟨b, o, none⟩ ∧ P b ∧ JbOne P w b (o + i * 2) js[i]
theorem JbsAt.carry {P Q : Nat → Prop} {w w' : World} {v : Value} {js : List Jb} (h : JbsAt P w v js) (hP : ∀ b, P b → w'.heap[b]? = w.heap[b]?) (hQ : ∀ b, P b → Q b) : JbsAt Q w' v js := by
  obtain ⟨a, cap, h1, h2, h3⟩ := h
  refine ⟨a, cap, h1, h2, fun i hi => ?_⟩
  obtain ⟨b, o, e, p, hc⟩ := h3 i hi
  exact ⟨b, o, e, hQ b p, hc.carry (hP b p) hP hQ⟩

/-- Whether jobs are ok. -/
def jOk (j : Jb) : Bool := decide (0 ≤ j.bad) && decide (j.items.length ≤ 40)
def jsOk (js : List Jb) : Bool := decide (js.length ≤ 60) && js.all jOk
/-- The items, the bad ones. -/
def tI : List Jb → List Int
  | [] => []
  | j :: r => (if j.bad = 0 then j.items else []) ++ tI r
def tD : Nat → List Jb → List Hd
  | _, [] => []
  | n, j :: r => (if j.bad = 0 then [] else [⟨(n : Int), j.bad⟩]) ++ tD (n + 1) r
theorem tI_append (a b : List Jb) : tI (a ++ b) = tI a ++ tI b := by
  induction a with
  | nil => rfl
  | cons x r ih => simp [tI, ih]
theorem tD_append (n : Nat) (a b : List Jb) : tD n (a ++ b) = tD n a ++ tD (n + a.length) b := by
  induction a generalizing n with
  | nil => simp [tD]
  | cons x r ih => simp [tD, ih]; rw [show n + 1 + r.length = n + (r.length + 1) by omega]
theorem tI_take (js : List Jb) (k : Nat) (h : k < js.length) : tI (js.take (k + 1)) = tI (js.take k) ++ (if js[k].bad = 0 then js[k].items else []) := by
  rw [List.take_succ_eq_append_getElem h, tI_append]; simp [tI]
theorem tD_take (js : List Jb) (k : Nat) (h : k < js.length) : tD 0 (js.take (k + 1)) = tD 0 (js.take k) ++ (if js[k].bad = 0 then [] else [⟨(k : Int), js[k].bad⟩]) := by
  rw [List.take_succ_eq_append_getElem h, tD_append]
  have : (js.take k).length = k := by rw [List.length_take]; omega
  simp [tD, this]
theorem tI_len (js : List Jb) (h : js.all jOk = true) : (tI js).length ≤ js.length * 40 := by
  induction js with
  | nil => simp [tI]
  | cons j r ih =>
    simp only [List.all_cons, Bool.and_eq_true] at h
    have h1 := ih h.2
    have h2 : j.items.length ≤ 40 := by have := h.1; unfold jOk at this; simp at this; exact this.2
    rw [tI, List.length_append, List.length_cons]
    split <;> simp <;> omega
theorem tD_len (n : Nat) (js : List Jb) : (tD n js).length ≤ js.length := by
  induction js generalizing n with
  | nil => simp [tD]
  | cons j r ih => have := ih (n + 1); rw [tD, List.length_append, List.length_cons]; split <;> simp <;> omega
theorem all_takeJ {js : List Jb} {k : Nat} (h : k < js.length) (p : Jb → Bool) : (js.take (k + 1)).all p = ((js.take k).all p && p js[k]) := by
  rw [List.take_succ_eq_append_getElem h, List.all_append]; simp only [List.all_cons, List.all_nil, Bool.and_true]
theorem all_falseJ {js : List Jb} {k : Nat} (h : k < js.length) {p : Jb → Bool} (hp : p js[k] = false) : js.all p = false := by
  rw [List.all_eq_false]; exact ⟨_, List.getElem_mem h, by simp [hp]⟩
theorem ZsAt.z {P : Nat → Prop} {w : World} {v : Value} {zs : List Int} (h : ZsAt P w v zs) : ZAt P w v zs := by
  obtain ⟨a, cap, h1, h2, h3⟩ := h
  refine ⟨a, cap, by rw [List.length_map]; exact h1, by rw [List.length_map]; exact h2, fun i hi => ?_⟩
  rw [List.length_map] at hi
  obtain ⟨b, o, e, hp, hc, -⟩ := h3 i hi
  refine ⟨b, o, e, hp, fun j hj => ?_⟩
  obtain rfl : j = 0 := by omega
  simp only [List.getElem_map, zcs, Nat.add_zero, Nat.mul_one, List.getD_cons_zero]
  exact hc

/-- What is told: whether it is ok, the items, the bad ones, how many jobs. -/
structure Td where
  ok : Bool
  items : List Int
  dead : List Hd
  jobs : Int
def noTd : Td := ⟨false, [], [], 0⟩
def tellJ (js : List Jb) : Td := if jsOk js then ⟨true, tI js, tD 0 js, js.length⟩ else noTd
/-- It is given back in memory of its own. -/
def TdEnd (w w' : World) (e : Ending) (t : Td) : Prop :=
  ∃ (vI vD : Value) (F0 F1 : List Nat), e = .returned (.agg #[.bool t.ok, vI, vD, .int .i64 t.jobs, .int .i64 0, .int .i64 0]) ∧ ZOwn w' vI t.items F0 ∧ HOwn w' vD t.dead F1 ∧ (F0 ++ F1).Nodup ∧ (∀ b, b ∈ F0 ++ F1 → w.heap.size ≤ b ∧ b < w'.heap.size) ∧ Below w.heap.size w w'
end Go.Proofs.Ytchlbncncipecaa
