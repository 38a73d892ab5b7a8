/- What a disk is as plain data, its weight, and how it lies in memory: definitions and small laws, no program. No conditions. -/
import Derived.Test.YtchlbncncipecaaData
import Derived.Test.YtchlbncncipecaaKData
namespace Go.Proofs.Ytchlbncncipecaa
open Go Go.RowKit

/-- Rows of n cells each, one behind the other, behind a slice: each row's cells are as told. -/
def FlatAt (P : Nat → Prop) (w : World) (v : Value) (n : Nat) (rs : List (List Value)) : Prop :=
  ∃ a cap, v = .slice a rs.length cap ∧ rs.length ≤ 9223372036854775807 ∧
    ∀ i, (h : i < rs.length) → ∃ b o, a = some ⟨b, o, none⟩ ∧ P b ∧ ∀ j, j < n → w.cell? ⟨b, o + i * n + j, none⟩ = some (rs[i].getD j undef)
theorem FlatAt.carry {P Q : Nat → Prop} {w w' : World} {v : Value} {n : Nat} {rs : List (List Value)} (h : FlatAt P w v n rs) (hP : ∀ b, P b → w'.heap[b]? = w.heap[b]?) (hQ : ∀ b, P b → Q b) : FlatAt Q w' v n rs := by
  obtain ⟨a, cap, h1, h2, h3⟩ := h
  refine ⟨a, cap, h1, h2, fun i hi => ?_⟩
  obtain ⟨b, o, e, hb, hc⟩ := h3 i hi
  exact ⟨b, o, e, hQ b hb, fun j hj => by rw [World.cell?_of_block (w := w) (hP b hb)]; exact hc j hj⟩
/-- A row that the program has laid is such. -/
theorem FlatAt.of_row {P : Nat → Prop} {w : World} {g t n m : Nat} {f : Nat → Value} {rs : List (List Value)} (hrow : w.rowIs g t (m * n) f) (hm : m = rs.length) (hb : m ≤ 9223372036854775807) (hP : P g) (hf : ∀ i, (h : i < rs.length) → ∀ j, j < n → f (i * n + j) = rs[i].getD j undef) :
    FlatAt P w (.slice (some ⟨g, 0, none⟩) m m) n rs := by
  subst hm
  refine ⟨_, _, rfl, hb, fun i hi => ⟨g, 0, rfl, hP, fun j hj => ?_⟩⟩
  have hlt : i * n + j < rs.length * n := by
    have : (i + 1) * n ≤ rs.length * n := Nat.mul_le_mul_right n hi
    rw [Nat.add_mul, Nat.one_mul] at this
    omega
  rw [Nat.zero_add, hrow.cell hlt, hf i hi j hj]

/-- A file, a move, a disk as plain data. -/
structure Df where
  (name data : ByteArray) (kept : Int)
structure Dm where
  (gone : Bool) (name : ByteArray)
structure Dk where
  (files : List Df) (names : List ByteArray) (moves : List Dm)
def Df.cs (f : Df) : List Value := [.string f.name, .string f.data, .int .i64 f.kept]
def Dm.cs (m : Dm) : List Value := [.bool m.gone, .string m.name]
def Df.okM (f : Df) : Prop := f.name.size ≤ 9223372036854775807 ∧ f.data.size ≤ 9223372036854775807 ∧ I64 f.kept
def Dm.okM (m : Dm) : Prop := m.name.size ≤ 9223372036854775807

/-- Files lie in memory. -/
def FsAt (P : Nat → Prop) (w : World) (v : Value) (fs : List Df) : Prop := FlatAt P w v 3 (fs.map Df.cs) ∧ ∀ f, f ∈ fs → f.okM
/-- Moves lie in memory. -/
def MsAt (P : Nat → Prop) (w : World) (v : Value) (ms : List Dm) : Prop := FlatAt P w v 2 (ms.map Dm.cs) ∧ ∀ m, m ∈ ms → m.okM
theorem FsAt.carry {P Q : Nat → Prop} {w w' : World} {v : Value} {fs : List Df} (h : FsAt P w v fs) (hP : ∀ b, P b → w'.heap[b]? = w.heap[b]?) (hQ : ∀ b, P b → Q b) : FsAt Q w' v fs := ⟨h.1.carry hP hQ, h.2⟩
theorem MsAt.carry {P Q : Nat → Prop} {w w' : World} {v : Value} {ms : List Dm} (h : MsAt P w v ms) (hP : ∀ b, P b → w'.heap[b]? = w.heap[b]?) (hQ : ∀ b, P b → Q b) : MsAt Q w' v ms := ⟨h.1.carry hP hQ, h.2⟩
theorem FsAt.open {P : Nat → Prop} {w : World} {v : Value} {fs : List Df} (h : FsAt P w v fs) : ∃ a cap, v = .slice a fs.length cap ∧ fs.length ≤ 9223372036854775807 ∧
    ∀ i, (hi : i < fs.length) → ∃ b o, a = some ⟨b, o, none⟩ ∧ P b ∧ C3.at w b (o + i * 3) ⟨.string fs[i].name, .string fs[i].data, .int .i64 fs[i].kept⟩ ∧ fs[i].okM := by
  obtain ⟨⟨a, cap, h1, h2, h3⟩, h4⟩ := h
  rw [List.length_map] at h1 h2
  refine ⟨a, cap, h1, h2, fun i hi => ?_⟩
  obtain ⟨b, o, e, hb, hc⟩ := h3 i (by rw [List.length_map]; exact hi)
  have c0 := hc 0 (by omega); have c1 := hc 1 (by omega); have c2 := hc 2 (by omega)
  simp only [List.getElem_map, Df.cs, Nat.add_zero, List.getD_cons_zero, List.getD_cons_succ] at c0 c1 c2
  exact ⟨b, o, e, hb, ⟨c0, c1, c2⟩, h4 _ (List.getElem_mem hi)⟩
theorem MsAt.open {P : Nat → Prop} {w : World} {v : Value} {ms : List Dm} (h : MsAt P w v ms) : ∃ a cap, v = .slice a ms.length cap ∧ ms.length ≤ 9223372036854775807 ∧
    ∀ i, (hi : i < ms.length) → ∃ b o, a = some ⟨b, o, none⟩ ∧ P b ∧ w.cell? ⟨b, o + i * 2, none⟩ = some (.bool ms[i].gone) ∧ w.cell? ⟨b, o + i * 2 + 1, none⟩ = some (.string ms[i].name) ∧ ms[i].okM := by
  obtain ⟨⟨a, cap, h1, h2, h3⟩, h4⟩ := h
  rw [List.length_map] at h1 h2
  refine ⟨a, cap, h1, h2, fun i hi => ?_⟩
  obtain ⟨b, o, e, hb, hc⟩ := h3 i (by rw [List.length_map]; exact hi)
  have c0 := hc 0 (by omega); have c1 := hc 1 (by omega)
  simp only [List.getElem_map, Dm.cs, Nat.add_zero, List.getD_cons_zero, List.getD_cons_succ] at c0 c1
  exact ⟨b, o, e, hb, c0, c1, h4 _ (List.getElem_mem hi)⟩

/-- Three cells are a disk. -/
structure DkAt (P : Nat → Prop) (w : World) (d : Dk) (c : C3) : Prop where
  fs : FsAt P w c.c0 d.files
  ns : StrsAt P w c.c1 d.names
  ms : MsAt P w c.c2 d.moves
theorem DkAt.carry {P Q : Nat → Prop} {w w' : World} {d : Dk} {c : C3} (h : DkAt P w d c) (hP : ∀ b, P b → w'.heap[b]? = w.heap[b]?) (hQ : ∀ b, P b → Q b) : DkAt Q w' d c := ⟨h.fs.carry hP hQ, h.ns.carry hP hQ, h.ms.carry hP hQ⟩

/-- What the law's szDisk counts. -/
def wF : List Df → Nat
  | [] => 0
  | f :: r => f.name.size + f.data.size + 1 + wF r
def wM : List Dm → Nat
  | [] => 0
  | m :: r => m.name.size + 1 + wM r
def wDk (d : Dk) : Nat := wF d.files + wS d.names + wM d.moves
theorem wF_take (l : List Df) (k : Nat) (h : k < l.length) : wF (l.take (k + 1)) = wF (l.take k) + l[k].name.size + l[k].data.size + 1 := by
  induction l generalizing k with
  | nil => simp at h
  | cons a r ih =>
    cases k with
    | zero => simp [wF]
    | succ k => simp only [List.take_succ_cons, wF, List.getElem_cons_succ]; rw [ih k (by simpa using h)]; omega
theorem wM_take (l : List Dm) (k : Nat) (h : k < l.length) : wM (l.take (k + 1)) = wM (l.take k) + l[k].name.size + 1 := by
  induction l generalizing k with
  | nil => simp at h
  | cons a r ih =>
    cases k with
    | zero => simp [wM]
    | succ k => simp only [List.take_succ_cons, wM, List.getElem_cons_succ]; rw [ih k (by simpa using h)]; omega
theorem wF_len (l : List Df) : l.length ≤ wF l := by
  induction l with
  | nil => simp
  | cons a r ih => rw [wF, List.length_cons]; omega
theorem wM_len (l : List Dm) : l.length ≤ wM l := by
  induction l with
  | nil => simp
  | cons a r ih => rw [wM, List.length_cons]; omega
end Go.Proofs.Ytchlbncncipecaa
