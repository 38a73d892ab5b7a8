/- What a tree is as plain data, its weight, and how it lies in memory: definitions and small laws, no program. No conditions. -/
import Derived.WalkKit
import Derived.Deep.OwnRows
import Derived.Test.YtgdiankfnemjjaaGreatRows
import Derived.Deep.RegionWith
import Derived.BigQuiet
namespace Go.Proofs.YtgdiankfnemjjaaGreat
open Go Go.RowKit

theorem hide {p : Prop} (h : p) : Hid p := h
theorem unhide {p : Prop} (h : Hid p) : p := h

/-- A tree as plain data. -/
inductive Tr where
  | mk (sort num : Int) (text : ByteArray) (names : List ByteArray) (kids : List Tr)

namespace Tr
end Tr

/-- A string list's weight. -/
def wS : List ByteArray → Nat
  | [] => 0
  | s :: r => s.size + 1 + wS r


theorem wS_len (l : List ByteArray) : l.length ≤ wS l := by
  induction l with
  | nil => simp [wS]
  | cons a r ih => rw [wS]; simp; omega

/-- A slice value whose strings lie in the world, in blocks of which 'P' holds. -/
def StrsAt (P : Nat → Prop) (w : World) (v : Value) (ss : List ByteArray) : Prop :=
  ∃ a cap, v = .slice a ss.length cap ∧ ss.length ≤ 9223372036854775807 ∧
    ∀ i, (h : i < ss.length) → ∃ b o, a = some ⟨b, o, none⟩ ∧ P b ∧ w.cell? ⟨b, o + i, none⟩ = some (.string ss[i]) ∧ ss[i].size ≤ 9223372036854775807

def I64 (n : Int) : Prop := -9223372036854775808 ≤ n ∧ n ≤ 9223372036854775807


theorem StrsAt.carry {P Q : Nat → Prop} {w w' : World} {v : Value} {ss : List ByteArray} (h : StrsAt P w v ss) (hP : ∀ b, P b → w'.heap[b]? = w.heap[b]?) (hQ : ∀ b, P b → Q b) : StrsAt Q w' v ss := by
  obtain ⟨a, cap, h1, h2, h3⟩ := h
  refine ⟨a, cap, h1, h2, fun i hi => ?_⟩
  obtain ⟨b, o, e, p, hc, hs⟩ := h3 i hi
  exact ⟨b, o, e, hQ b p, by rw [World.cell?_of_block (w := w) (hP b p)]; exact hc, hs⟩


/-- In blocks that are new between two worlds. -/
def New (w w' : World) : Nat → Prop := fun b => w.heap.size ≤ b ∧ b < w'.heap.size

def row5 (c0 c1 c2 c3 c4 : Value) : Nat → Value
  | 0 => c0
  | 1 => c1
  | 2 => c2
  | 3 => c3
  | _ => c4

end Go.Proofs.YtgdiankfnemjjaaGreat

/- Small laws of lists of strings, of a cell that is set. No program walked but one fact of its types; no conditions. -/

namespace Go.Proofs.YtgdiankfnemjjaaGreat
open Go Go.RowKit

theorem wS_take (ss : List ByteArray) (k : Nat) (h : k < ss.length) : wS (ss.take (k + 1)) = wS (ss.take k) + ss[k].size + 1 := by
  induction ss generalizing k with
  | nil => simp at h
  | cons a r ih =>
    cases k with
    | zero => simp [wS]
    | succ k => simp only [List.take_succ_cons, wS, List.getElem_cons_succ]; rw [ih k (by simpa using h)]; omega

theorem infoString : (Tryz.prog.info? 9).map (fun i => (i.zero, i.size, i.bytes)) = some (some (.string ByteArray.empty), 1, 16) := by kernel_rfl
theorem size_setCell (w : World) (a : Addr) (v : Value) : (w.setCell a v).heap.size = w.heap.size := by simp [World.setCell]
end Go.Proofs.YtgdiankfnemjjaaGreat

/- The walk of the law's own eqStringS: two slices of the same strings are the same. No conditions. -/

namespace Go.Proofs.YtgdiankfnemjjaaGreat
open Go Go.RowKit

set_option maxHeartbeats 400000 in
theorem eqStringS_any (v u : Value) (ss : List ByteArray) (w : World) {P Q : Nat → Prop} (hv : StrsAt P w v ss) (hu : StrsAt Q w u ss) (hP : ∀ b, P b → b < w.heap.size) (hQ : ∀ b, Q b → b < w.heap.size) :
    Calls Tryz.prog 37 #[v, u] w fun e w' => e = .returned (.bool true) ∧ Below w.heap.size w w' := by
  obtain ⟨a, cap, rfl, hlen, hc⟩ := hv
  obtain ⟨a2, cap2, rfl, -, hc2⟩ := hu
  have HC := hide hc; have HC2 := hide hc2; have HP := hide hP; have HQ := hide hQ
  clear hc hc2 hP hQ
  have hne : ((ss.length : Int) != (ss.length : Int)) = false := by simp
  go_enter Tryz.func37, Tryz.ntmps37
  go_wp2_with fail
  clear hne
  go_loopw [5] (fun i wr => ∃ (k : Nat), k ≤ ss.length ∧ i = .int .i64 k ∧ Below w.heap.size w wr) (fun i _ => ss.length - (intOf i).toNat)
  case atStart => exact ⟨0, Nat.zero_le _, rfl, Below.refl _ _⟩
  case round =>
    obtain ⟨k, hk, rfl, hb⟩ := hrel
    by_cases hlt : k < ss.length
    · obtain ⟨b, o, rfl, hpb, hcell, -⟩ := unhide HC k hlt
      obtain ⟨b2, o2, rfl, hpb2, hcell2, -⟩ := unhide HC2 k hlt
      have e1 : wr.cell? ⟨b, o + k, none⟩ = some (.string ss[k]) := by rw [hb.cell (unhide HP b hpb)]; exact hcell
      have e2 : wr.cell? ⟨b2, o2 + k, none⟩ = some (.string ss[k]) := by rw [hb.cell (unhide HQ b2 hpb2)]; exact hcell2
      clear hcell hcell2 hpb hpb2
      go_wp2_with fail
      go_region
      go_wp2_with fail
      go_roundw
      case rel => exact ⟨k + 1, by omega, by go_num, hb.drew⟩
      case measure => simp [intOf]; omega
    · go_wp2_with fail
      go_ret
      exact ⟨rfl, hb⟩
end Go.Proofs.YtgdiankfnemjjaaGreat

/- The walks of szStringS, toStringS, eqStringS: what they answer, and that they turn nothing that was there. No conditions but toStringS's on the number of strings. -/

namespace Go.Proofs.YtgdiankfnemjjaaGreat
open Go Go.RowKit

set_option maxHeartbeats 400000 in
theorem szStringS_any (v : Value) (ss : List ByteArray) (left : Int) (w : World) {P : Nat → Prop} (hv : StrsAt P w v ss) (h0 : 0 ≤ left) (h1 : left ≤ 1048576) :
    Calls Tryz.prog 20 #[v, .int .i64 left] w fun e w' => ∃ r : Int, e = .returned (.int .i64 r) ∧ (r = -1 ∨ (0 ≤ r ∧ r + wS ss = left)) ∧ w' = w := by
  obtain ⟨a, cap, rfl, hlen, hc⟩ := hv
  have HC := hide hc; clear hc
  by_cases hneg : left - ss.length < 0
  · go_enter Tryz.func20, Tryz.ntmps20
    go_wp2
    go_ret
    exact ⟨_, rfl, Or.inl rfl, rfl⟩
  · go_enter Tryz.func20, Tryz.ntmps20
    go_wp2
    go_loop [1, 5] (fun l i => ∃ (k : Nat) (q : Int), k ≤ ss.length ∧ i = .int .i64 k ∧ l = .int .i64 q ∧ 0 ≤ q ∧ q ≤ 1048576 ∧ Hid (q + ss.length + wS (ss.take k) = left + k)) (fun _ i => ss.length - (intOf i).toNat)
    case atStart => exact ⟨0, _, Nat.zero_le _, rfl, rfl, by omega, by omega, by simp [Hid, wS]⟩
    case round =>
      obtain ⟨k, q, hk, rfl, rfl, hq0, hq1, HQ⟩ := hrel
      by_cases hlt : k < ss.length
      · obtain ⟨b, o, rfl, _, hcell, hsz⟩ := unhide HC k hlt
        have hts := wS_take ss k hlt
        have HT := hide hts; clear hts
        by_cases hn : q - ss[k].size < 0
        · go_wp2
          go_ret
          exact ⟨_, rfl, Or.inl rfl, rfl⟩
        · go_wp2
          go_round
          case rel => exact ⟨k + 1, _, by omega, by go_num, rfl, by omega, by omega, by have := HQ.out; have := unhide HT; show _ = _; omega⟩
          case measure => simp [intOf]; omega
      · go_wp2
        go_ret
        refine ⟨_, rfl, Or.inr ⟨hq0, ?_⟩, rfl⟩
        have := HQ.out
        rw [List.take_of_length_le (by omega)] at this
        omega


end Go.Proofs.YtgdiankfnemjjaaGreat

/- What a schema is as plain data, its weight, and how it lies in memory: definitions and small laws, no program. No conditions. -/

namespace Go.Proofs.YtgdiankfnemjjaaGreat
open Go Go.RowKit

/-- A schema as plain data. -/
inductive Kd where
  | mk (sort : Int) (names : List ByteArray) (kids : List Kd)

namespace Kd
def sort : Kd → Int | mk s _ _ => s
def names : Kd → List ByteArray | mk _ n _ => n
def kids : Kd → List Kd | mk _ _ k => k
end Kd


/-- The three cells of a schema. -/
structure C3 where
  (c0 c1 c2 : Value)

/-- Three cells lie at an offset of a block. -/
def C3.at (w : World) (b o : Nat) (c : C3) : Prop :=
  w.cell? ⟨b, o, none⟩ = some c.c0 ∧ w.cell? ⟨b, o + 1, none⟩ = some c.c1 ∧ w.cell? ⟨b, o + 2, none⟩ = some c.c2


theorem C3.at.carry {w w' : World} {b o : Nat} {c : C3} (h : C3.at w b o c) (hb : w'.heap[b]? = w.heap[b]?) : C3.at w' b o c := by
  have e : ∀ o', w'.cell? ⟨b, o', none⟩ = w.cell? ⟨b, o', none⟩ := fun o' => World.cell?_of_block (w := w) hb
  obtain ⟨h0, h1, h2⟩ := h
  exact ⟨by rw [e]; exact h0, by rw [e]; exact h1, by rw [e]; exact h2⟩


def row3 (c0 c1 c2 : Value) : Nat → Value
  | 0 => c0
  | 1 => c1
  | _ => c2

theorem row3_alloc (w : World) (c0 c1 c2 : Value) (t : TypeId) : (w.alloc (.cells #[c0, c1, c2] t)).rowIs w.heap.size t 3 (row3 c0 c1 c2) :=
  World.rowIs_alloc w #[c0, c1, c2] t _ (fun i hi => by
    have hi' : i < 3 := hi
    match i, hi' with
    | 0, _ => rfl
    | 1, _ => rfl
    | 2, _ => rfl)

end Go.Proofs.YtgdiankfnemjjaaGreat

/- What a disk is as plain data, its weight, and how it lies in memory: definitions and small laws, no program. No conditions. -/

namespace Go.Proofs.YtgdiankfnemjjaaGreat
open Go Go.RowKit

/-- Rows of n cells each, one behind the other, behind a slice: each row's cells are as told. -/
def FlatAt (P : Nat → Prop) (w : World) (v : Value) (n : Nat) (rs : List (List Value)) : Prop :=
  ∃ a cap, v = .slice a rs.length cap ∧ rs.length ≤ 9223372036854775807 ∧
    ∀ i, (h : i < rs.length) → ∃ b o, a = some ⟨b, o, none⟩ ∧ P b ∧ ∀ j, j < n → w.cell? ⟨b, o + i * n + j, none⟩ = some (rs[i].getD j undef)
theorem FlatAt.carry {P Q : Nat → Prop} {w w' : World} {v : Value} {n : Nat} {rs : List (List Value)} (h : FlatAt P w v n rs) (hP : ∀ b, P b → w'.heap[b]? = w.heap[b]?) (hQ : ∀ b, P b → Q b) : FlatAt Q w' v n rs := by
  obtain ⟨a, cap, h1, h2, h3⟩ := h
  refine ⟨a, cap, h1, h2, fun i hi => ?_⟩
  obtain ⟨b, o, e, hb, hc⟩ := h3 i hi
  exact ⟨b, o, e, hQ b hb, fun j hj => by rw [World.cell?_of_block (w := w) (hP b hb)]; exact hc j hj⟩
/-- A row that the program has laid is such. -/
theorem FlatAt.of_row {P : Nat → Prop} {w : World} {g t n m : Nat} {f : Nat → Value} {rs : List (List Value)} (hrow : w.rowIs g t (m * n) f) (hm : m = rs.length) (hb : m ≤ 9223372036854775807) (hP : P g) (hf : ∀ i, (h : i < rs.length) → ∀ j, j < n → f (i * n + j) = rs[i].getD j undef) :
    FlatAt P w (.slice (some ⟨g, 0, none⟩) m m) n rs := by
  subst hm
  refine ⟨_, _, rfl, hb, fun i hi => ⟨g, 0, rfl, hP, fun j hj => ?_⟩⟩
  have hlt : i * n + j < rs.length * n := by
    have : (i + 1) * n ≤ rs.length * n := Nat.mul_le_mul_right n hi
    rw [Nat.add_mul, Nat.one_mul] at this
    omega
  rw [Nat.zero_add, hrow.cell hlt, hf i hi j hj]

/-- A file, a move, a disk as plain data. -/
structure Df where
  (name data : ByteArray) (kept : Int)
structure Dm where
  (gone : Bool) (name : ByteArray)
structure Dk where
  (files : List Df) (names : List ByteArray) (moves : List Dm)
def Df.cs (f : Df) : List Value := [.string f.name, .string f.data, .int .i64 f.kept]
def Dm.cs (m : Dm) : List Value := [.bool m.gone, .string m.name]
def Df.okM (f : Df) : Prop := f.name.size ≤ 9223372036854775807 ∧ f.data.size ≤ 9223372036854775807 ∧ I64 f.kept
def Dm.okM (m : Dm) : Prop := m.name.size ≤ 9223372036854775807

/-- Files lie in memory. -/
def FsAt (P : Nat → Prop) (w : World) (v : Value) (fs : List Df) : Prop := FlatAt P w v 3 (fs.map Df.cs) ∧ ∀ f, f ∈ fs → f.okM
/-- Moves lie in memory. -/
def MsAt (P : Nat → Prop) (w : World) (v : Value) (ms : List Dm) : Prop := FlatAt P w v 2 (ms.map Dm.cs) ∧ ∀ m, m ∈ ms → m.okM
theorem FsAt.carry {P Q : Nat → Prop} {w w' : World} {v : Value} {fs : List Df} (h : FsAt P w v fs) (hP : ∀ b, P b → w'.heap[b]? = w.heap[b]?) (hQ : ∀ b, P b → Q b) : FsAt Q w' v fs := ⟨h.1.carry hP hQ, h.2⟩
theorem MsAt.carry {P Q : Nat → Prop} {w w' : World} {v : Value} {ms : List Dm} (h : MsAt P w v ms) (hP : ∀ b, P b → w'.heap[b]? = w.heap[b]?) (hQ : ∀ b, P b → Q b) : MsAt Q w' v ms := ⟨h.1.carry hP hQ, h.2⟩
theorem FsAt.open {P : Nat → Prop} {w : World} {v : Value} {fs : List Df} (h : FsAt P w v fs) : ∃ a cap, v = .slice a fs.length cap ∧ fs.length ≤ 9223372036854775807 ∧
    ∀ i, (hi : i < fs.length) → ∃ b o, a = some ⟨b, o, none⟩ ∧ P b ∧ C3.at w b (o + i * 3) ⟨.string fs[i].name, .string fs[i].data, .int .i64 fs[i].kept⟩ ∧ fs[i].okM := by
  obtain ⟨⟨a, cap, h1, h2, h3⟩, h4⟩ := h
  rw [List.length_map] at h1 h2
  refine ⟨a, cap, h1, h2, fun i hi => ?_⟩
  obtain ⟨b, o, e, hb, hc⟩ := h3 i (by rw [List.length_map]; exact hi)
  have c0 := hc 0 (by omega); have c1 := hc 1 (by omega); have c2 := hc 2 (by omega)
  simp only [List.getElem_map, Df.cs, Nat.add_zero, List.getD_cons_zero, List.getD_cons_succ] at c0 c1 c2
  exact ⟨b, o, e, hb, ⟨c0, c1, c2⟩, h4 _ (List.getElem_mem hi)⟩
theorem MsAt.open {P : Nat → Prop} {w : World} {v : Value} {ms : List Dm} (h : MsAt P w v ms) : ∃ a cap, v = .slice a ms.length cap ∧ ms.length ≤ 9223372036854775807 ∧
    ∀ i, (hi : i < ms.length) → ∃ b o, a = some ⟨b, o, none⟩ ∧ P b ∧ w.cell? ⟨b, o + i * 2, none⟩ = some (.bool ms[i].gone) ∧ w.cell? ⟨b, o + i * 2 + 1, none⟩ = some (.string ms[i].name) ∧ ms[i].okM := by
  obtain ⟨⟨a, cap, h1, h2, h3⟩, h4⟩ := h
  rw [List.length_map] at h1 h2
  refine ⟨a, cap, h1, h2, fun i hi => ?_⟩
  obtain ⟨b, o, e, hb, hc⟩ := h3 i (by rw [List.length_map]; exact hi)
  have c0 := hc 0 (by omega); have c1 := hc 1 (by omega)
  simp only [List.getElem_map, Dm.cs, Nat.add_zero, List.getD_cons_zero, List.getD_cons_succ] at c0 c1
  exact ⟨b, o, e, hb, c0, c1, h4 _ (List.getElem_mem hi)⟩

/-- Three cells are a disk. -/
structure DkAt (P : Nat → Prop) (w : World) (d : Dk) (c : C3) : Prop where
  fs : FsAt P w c.c0 d.files
  ns : StrsAt P w c.c1 d.names
  ms : MsAt P w c.c2 d.moves
theorem DkAt.carry {P Q : Nat → Prop} {w w' : World} {d : Dk} {c : C3} (h : DkAt P w d c) (hP : ∀ b, P b → w'.heap[b]? = w.heap[b]?) (hQ : ∀ b, P b → Q b) : DkAt Q w' d c := ⟨h.fs.carry hP hQ, h.ns.carry hP hQ, h.ms.carry hP hQ⟩

/-- What the law's szDisk counts. -/
def wF : List Df → Nat
  | [] => 0
  | f :: r => f.name.size + f.data.size + 1 + wF r
def wM : List Dm → Nat
  | [] => 0
  | m :: r => m.name.size + 1 + wM r
def wDk (d : Dk) : Nat := wF d.files + wS d.names + wM d.moves
theorem wF_take (l : List Df) (k : Nat) (h : k < l.length) : wF (l.take (k + 1)) = wF (l.take k) + l[k].name.size + l[k].data.size + 1 := by
  induction l generalizing k with
  | nil => simp at h
  | cons a r ih =>
    cases k with
    | zero => simp [wF]
    | succ k => simp only [List.take_succ_cons, wF, List.getElem_cons_succ]; rw [ih k (by simpa using h)]; omega
theorem wM_take (l : List Dm) (k : Nat) (h : k < l.length) : wM (l.take (k + 1)) = wM (l.take k) + l[k].name.size + 1 := by
  induction l generalizing k with
  | nil => simp at h
  | cons a r ih =>
    cases k with
    | zero => simp [wM]
    | succ k => simp only [List.take_succ_cons, wM, List.getElem_cons_succ]; rw [ih k (by simpa using h)]; omega
theorem wF_len (l : List Df) : l.length ≤ wF l := by
  induction l with
  | nil => simp
  | cons a r ih => rw [wF, List.length_cons]; omega
theorem wM_len (l : List Dm) : l.length ≤ wM l := by
  induction l with
  | nil => simp
  | cons a r ih => rw [wM, List.length_cons]; omega
end Go.Proofs.YtgdiankfnemjjaaGreat

/- The walks of the specification's l6Has, l41Find: what they answer; they turn nothing. No conditions. -/

namespace Go.Proofs.YtgdiankfnemjjaaGreat
open Go Go.RowKit

/-- Two texts are the same. -/
def sameB (y x : ByteArray) : Bool := y.toList == x.toList
def hasB (ss : List ByteArray) (x : ByteArray) : Bool := ss.any fun y => sameB y x
theorem hasB_yes {ss : List ByteArray} {x : ByteArray} (k : Nat) (hk : k < ss.length) (h : sameB ss[k] x = true) : hasB ss x = true := by
  unfold hasB; rw [List.any_eq_true]; exact ⟨ss[k], List.getElem_mem hk, h⟩
theorem hasB_no {ss : List ByteArray} {x : ByteArray} (h : ∀ j, (hj : j < ss.length) → sameB ss[j] x = false) : hasB ss x = false := by
  unfold hasB
  rw [List.any_eq_false]
  intro y hy
  obtain ⟨j, hj, rfl⟩ := List.getElem_of_mem hy
  rw [h j hj]; decide

set_option maxHeartbeats 400000 in
theorem l6Has_any (v : Value) (ss : List ByteArray) (x : ByteArray) (w : World) {P : Nat → Prop} (hv : StrsAt P w v ss) :
    Calls Tryz.prog 55 #[v, .string x] w fun e w' => e = .returned (.bool (hasB ss x)) ∧ w' = w := by
  obtain ⟨a, cap, rfl, hlen, hc⟩ := hv
  have HC := hide hc; clear hc
  go_enter Tryz.func55, Tryz.ntmps55
  go_wp2
  go_loop [5] (fun i => ∃ (k : Nat), k ≤ ss.length ∧ i = .int .i64 k ∧ Hid (∀ j, j < k → (hj : j < ss.length) → sameB ss[j] x = false)) (fun i => ss.length - (intOf i).toNat)
  case atStart => exact ⟨0, Nat.zero_le _, rfl, fun j hj => by omega⟩
  case round =>
    obtain ⟨k, hk, rfl, HQ⟩ := hrel
    by_cases hlt : k < ss.length
    · obtain ⟨b, o, rfl, _, hcell, hsz⟩ := unhide HC k hlt
      cases e : sameB ss[k] x with
      | true =>
        have hd := hide (hasB_yes k hlt e)
        unfold sameB at e
        go_wp2
        go_ret
        exact ⟨by rw [unhide hd]; rfl, rfl⟩
      | false =>
        have HE := hide e
        unfold sameB at e
        go_wp2
        go_round
        case rel => exact ⟨k + 1, by omega, by go_num, fun j hj hjl => by
          by_cases h : j = k
          · subst h; exact unhide HE
          · exact HQ.out j (by omega) hjl⟩
        case measure => simp [intOf]; omega
    · go_wp2
      go_ret
      exact ⟨by rw [hasB_no (fun j hj => HQ.out j (by omega) hj)]; rfl, rfl⟩

/-- The place of a file. -/
def findF (fs : List Df) (x : ByteArray) : Int := match fs.findIdx? (fun f => sameB f.name x) with | some i => i | none => -1
theorem findF_yes {fs : List Df} {x : ByteArray} (k : Nat) (hk : k < fs.length) (h : sameB fs[k].name x = true) (hno : ∀ j, j < k → (hj : j < fs.length) → sameB fs[j].name x = false) : findF fs x = k := by
  unfold findF
  have : fs.findIdx? (fun f => sameB f.name x) = some k := by
    rw [List.findIdx?_eq_some_iff_getElem]
    exact ⟨hk, h, fun j hj => by rw [hno j hj (by omega)]; decide⟩
  rw [this]
theorem findF_no {fs : List Df} {x : ByteArray} (hno : ∀ j, (hj : j < fs.length) → sameB fs[j].name x = false) : findF fs x = -1 := by
  unfold findF
  have : fs.findIdx? (fun f => sameB f.name x) = none := by
    rw [List.findIdx?_eq_none_iff]
    intro f hf
    obtain ⟨j, hj, rfl⟩ := List.getElem_of_mem hf
    exact hno j hj
  rw [this]

set_option maxHeartbeats 400000 in
theorem l41Find_any (v : Value) (fs : List Df) (x : ByteArray) (w : World) {P : Nat → Prop} (hv : FsAt P w v fs) :
    Calls Tryz.prog 54 #[v, .string x] w fun e w' => e = .returned (.int .i64 (findF fs x)) ∧ w' = w := by
  obtain ⟨a, cap, rfl, hlen, hc⟩ := hv.open
  have HC := hide hc; clear hc hv
  go_enter Tryz.func54, Tryz.ntmps54
  go_wp2
  go_loop [5] (fun i => ∃ (k : Nat), k ≤ fs.length ∧ i = .int .i64 k ∧ Hid (∀ j, j < k → (hj : j < fs.length) → sameB fs[j].name x = false)) (fun i => fs.length - (intOf i).toNat)
  case atStart => exact ⟨0, Nat.zero_le _, rfl, fun j hj => by omega⟩
  case round =>
    obtain ⟨k, hk, rfl, HQ⟩ := hrel
    by_cases hlt : k < fs.length
    · obtain ⟨b, o, rfl, _, ⟨hcell, -, -⟩, -⟩ := unhide HC k hlt
      simp only at hcell
      cases e : sameB fs[k].name x with
      | true =>
        have hd := hide (findF_yes k hlt e HQ.out)
        unfold sameB at e
        go_wp2
        go_ret
        exact ⟨by rw [unhide hd]; rfl, rfl⟩
      | false =>
        have HE := hide e
        unfold sameB at e
        go_wp2
        go_round
        case rel => exact ⟨k + 1, by omega, by go_num, fun j hj hjl => by
          by_cases h : j = k
          · subst h; exact unhide HE
          · exact HQ.out j (by omega) hjl⟩
        case measure => simp [intOf]; omega
    · go_wp2
      go_ret
      exact ⟨by rw [findF_no (fun j hj => HQ.out j (by omega) hj)]; rfl, rfl⟩
end Go.Proofs.YtgdiankfnemjjaaGreat

/- Worlds of which but one block is as it was; append onto a row of the call's own. No program walked, no conditions. -/

namespace Go.Proofs.YtgdiankfnemjjaaGreat
open Go Go.RowKit

/-- All blocks but B that were there are as they were. -/
abbrev But (B : Nat) (w w' : World) : Prop := w.grownBy w' (some B)

theorem But.refl (B : Nat) (w : World) : But B w w := World.grownBy.refl w _
theorem But.trans {B : Nat} {a b c : World} (h : But B a b) (k : But B b c) : But B a c :=
  ⟨k.os.trans h.os, k.tape.trans h.tape, k.output.trans h.output, Nat.le_trans h.size k.size, fun i hi hne => (k.block i (Nat.lt_of_lt_of_le hi h.size) hne).trans (h.block i hi hne)⟩
theorem But.of_below {B : Nat} {w w' : World} (h : Below w.heap.size w w') : But B w w' :=
  ⟨h.os, h.tape, h.output, h.size, fun i hi _ => h.block i hi⟩
theorem But.alloc (B : Nat) (w : World) (o : Obj) : But B w (w.alloc o) := But.of_below ((Below.refl _ _).alloc (Nat.le_refl _) o)
theorem But.set {B : Nat} (w : World) (o : Nat) (v : Value) : But B w (w.setCell ⟨B, o, none⟩ v) :=
  ⟨rfl, rfl, rfl, by simp [World.setCell], fun i _ hne => Below.heap_setCell _ _ _ _ (fun e => hne (by rw [e]))⟩
theorem But.at {B : Nat} {w w' : World} (h : But B w w') {b : Nat} (hb : b < w.heap.size) (hne : b ≠ B) : w'.heap[b]? = w.heap[b]? :=
  h.block b hb (fun e => hne (by simpa using e))

theorem ownsRow_base {w : World} {base base' : Nat} {e : TypeId} {size : Nat} {v : Value} {n : Nat} {xs : List Value} (h : w.ownsRow base e size v n xs) (hb : base' ≤ base) : w.ownsRow base' e size v n xs := by
  refine ⟨h.1, ?_⟩
  rcases h.2 with h | ⟨g, cap, cur, h1, h2, h3⟩
  · exact Or.inl h
  · exact Or.inr ⟨g, cap, cur, h1, Nat.le_trans hb h2, h3⟩

/-- append onto a row of the call's own: behind it the value lies in the same block, or in a new one. -/
theorem append_row {P : Program} (w : World) {ops : Array Oper} {rest : List Oper} {o : Oper} {a : Act} {Q : Exit → Act → World → Prop}
    (hg : o.guard = none) (s x : Operand) (t : TypeId) (hop : o.op = Op.call { callee := Callee.builtin Builtin.append, args := #[s, x], argTypes := #[t, t] })
    (base : Nat) (e : TypeId) (i : TypeInfo) (z : Value) (size bytes : Nat) (h1 : P.underlying t = some (.slice e)) (h2 : P.info? e = some i) (h3 : i.zero = some z) (h4 : i.size = size) (h5 : i.bytes = bytes) (h6 : z.cells.size = size) (h7 : 0 < size)
    (v : Value) (n : Nat) (xs : List Value) (hs : a.eval s = v) (hown : w.ownsRow base e size v n xs)
    (ad : Addr) (m c : Nat) (news : List Value) (hx : a.eval x = .slice (some ad) m c) (hn : news.length = m * size) (hc : ∀ j u, news[j]? = some u → w.cell? (ad.add j) = some u) (h1c : ∀ u ∈ news, u.oneCell' = true)
    (hm : 0 < m) (b1 : n + m ≤ maxLen) (b2 : (n + m) * bytes ≤ 140737488355328) (hbase : base ≤ w.heap.size)
    (hK : ∀ v' w', w'.ownsRow base e size v' (n + m) (xs ++ news) → w.grownBy w' v.ownBlock → (v'.ownBlock = v.ownBlock ∨ ∃ g, v'.ownBlock = some g ∧ w.heap.size ≤ g) → wpList P ops Q rest (a.put o.dst v') w') :
    wpList P ops Q (o :: rest) a w := by
  have hgrow : ∀ v' w', w'.ownsRow w.heap.size e size v' (n + m) (xs ++ news) → w.grownBy w' none → wpList P ops Q rest (a.put o.dst v') w' := fun v' w' r1 r2 => by
    refine hK v' w' (ownsRow_base r1 hbase) ⟨r2.os, r2.tape, r2.output, r2.size, fun k hk _ => r2.block k hk (by simp)⟩ (Or.inr ?_)
    rcases r1.2 with ⟨_, h⟩ | ⟨g, cap, cur, hv, hgg, _⟩
    · omega
    · exact ⟨g, by rw [hv]; rfl, hgg⟩
  rcases hown.2 with ⟨hv, hn0⟩ | ⟨g, cap, cur, hv, hgb, hh, hle, hm2, hsz, htk⟩
  · subst hv; subst hn0
    have hxs : xs = [] := List.eq_nil_of_length_eq_zero (by have := hown.1; simpa using this)
    subst hxs
    exact wpList_append_grows w hg s x t hop e i z size bytes h1 h2 h3 h4 h5 h6 h7 none 0 0 [] hs (fun _ => ⟨rfl, rfl⟩) (by simp) (fun b hb => by cases hb) ad m c news hx hn hc h1c (by omega) b1 b2 hgrow
  · by_cases hr : n + m ≤ cap
    · subst hv
      exact wpList_append_fits w hg s x t hop base e i size h1 h2 h4 g n cap xs hs hown ad m c news hx hn hc h1c hr fun w' r1 r2 => hK _ w' r1 r2 (Or.inl rfl)
    · refine wpList_append_grows w hg s x t hop e i z size bytes h1 h2 h3 h4 h5 h6 h7 (some ⟨g, 0, none⟩) n cap xs (by rw [hs, hv]) (fun hb => by cases hb) hown.1 (fun b hb j u hj => ?_) ad m c news hx hn hc h1c (by omega) b1 b2 hgrow
      simp only [Option.some.injEq] at hb
      subst hb
      have hj' : cur.toList[j]? = some u := by
        rw [← htk] at hj
        rw [List.getElem?_take] at hj
        split at hj
        · exact hj
        · cases hj
      rw [Addr.add_lit]
      simp only [Nat.zero_add, World.cell?, hh]
      simpa using hj'

theorem cell_one (w : World) (x : Value) (t : TypeId) : ∀ j u, [x][j]? = some u → (w.alloc (.cells #[x] t)).cell? ((⟨w.heap.size, 0, none⟩ : Addr).add j) = some u := by
  intro j u hj
  match j with
  | 0 => simp only [List.getElem?_cons_zero, Option.some.injEq] at hj; subst hj; rw [Addr.add_lit]; simp [go_sem]
  | j + 1 => simp at hj
end Go.Proofs.YtgdiankfnemjjaaGreat

/- Trees that own their memory: what blocks they lie in, each named once; what marking them makes of them. Definitions and small laws, no program. No conditions. -/

namespace Go.Proofs.YtgdiankfnemjjaaGreat
open Go Go.RowKit

/-- All blocks that were there, but those in F, are as they were. -/
structure Exc (F : List Nat) (w w' : World) : Prop where
  os : w'.os = w.os
  tape : w'.tape = w.tape
  output : w'.output = w.output
  size : w.heap.size ≤ w'.heap.size
  block : ∀ k, k < w.heap.size → k ∉ F → w'.heap[k]? = w.heap[k]?

theorem Exc.refl (F : List Nat) (w : World) : Exc F w w := ⟨rfl, rfl, rfl, Nat.le_refl _, fun _ _ _ => rfl⟩
theorem Exc.trans {F : List Nat} {a b c : World} (h : Exc F a b) (k : Exc F b c) : Exc F a c :=
  ⟨k.os.trans h.os, k.tape.trans h.tape, k.output.trans h.output, Nat.le_trans h.size k.size, fun i hi hn => (k.block i (Nat.lt_of_lt_of_le hi h.size) hn).trans (h.block i hi hn)⟩
theorem Exc.mono {F G : List Nat} {w w' : World} (h : Exc F w w') (hs : ∀ b, b ∈ F → b ∈ G) : Exc G w w' := ⟨h.os, h.tape, h.output, h.size, fun k hk hn => h.block k hk (fun hm => hn (hs k hm))⟩
theorem Exc.of_below {F : List Nat} {w w' : World} (h : Below w.heap.size w w') : Exc F w w' := ⟨h.os, h.tape, h.output, h.size, fun k hk _ => h.block k hk⟩
theorem Exc.set {F : List Nat} (w : World) (b o : Nat) (v : Value) (hb : b ∈ F) : Exc F w (w.setCell ⟨b, o, none⟩ v) :=
  ⟨rfl, rfl, rfl, by simp [World.setCell], fun k _ hn => Below.heap_setCell _ _ _ _ (fun e => hn (by rw [e]; exact hb))⟩
/-- Where all blocks of F are new since a world, that world is as it was. -/
theorem Exc.below {F : List Nat} {B : Nat} {w w' : World} (h : Exc F w w') (hB : B ≤ w.heap.size) (hF : ∀ b, b ∈ F → B ≤ b) : Below B w w' :=
  ⟨h.os, h.tape, h.output, h.size, fun k hk => h.block k (by omega) (fun hm => by have := hF k hm; omega)⟩

/-- No cell of a block is frozen. -/
def FreeB (w : World) (b : Nat) : Prop := ∀ o, w.frozen? ⟨b, o, none⟩ = false
theorem FreeB.of_block {w w' : World} {b : Nat} (h : FreeB w b) (e : w'.heap[b]? = w.heap[b]?) : FreeB w' b := fun o => by
  rw [World.frozen?_of_block (w := w) (a := ⟨b, o, none⟩) e]; exact h o
theorem FreeB.set {w : World} {b : Nat} (h : FreeB w b) (o : Nat) (v : Value) : FreeB (w.setCell ⟨b, o, none⟩ v) b := fun o' => by
  have := h o'
  simpa [go_sem] using this

/-- A slice of strings in a block of its own. -/
def StrsOwn (w : World) (v : Value) (ss : List ByteArray) (F : List Nat) : Prop :=
  ∃ a cap, v = .slice a ss.length cap ∧ ss.length ≤ 9223372036854775807 ∧ ((ss = [] ∧ F = []) ∨ ∃ b, a = some ⟨b, 0, none⟩ ∧ F = [b] ∧ FreeB w b ∧ ∀ i, (h : i < ss.length) → w.cell? ⟨b, i, none⟩ = some (.string ss[i]) ∧ ss[i].size ≤ 9223372036854775807)


theorem StrsOwn.carry {w w' : World} {v : Value} {ss : List ByteArray} {F : List Nat} (h : StrsOwn w v ss F) (hF : ∀ b, b ∈ F → w'.heap[b]? = w.heap[b]?) : StrsOwn w' v ss F := by
  obtain ⟨a, cap, h1, h2, h3⟩ := h
  refine ⟨a, cap, h1, h2, ?_⟩
  rcases h3 with h | ⟨b, e, hf, hfr, hc⟩
  · exact Or.inl h
  · have hb := hF b (by rw [hf]; simp)
    exact Or.inr ⟨b, e, hf, hfr.of_block hb, fun i hi => ⟨by rw [World.cell?_of_block (w := w) hb]; exact (hc i hi).1, (hc i hi).2⟩⟩


theorem StrsOwn.at {w : World} {v : Value} {ss : List ByteArray} {F : List Nat} (h : StrsOwn w v ss F) : StrsAt (· ∈ F) w v ss := by
  obtain ⟨a, cap, h1, h2, h3⟩ := h
  refine ⟨a, cap, h1, h2, fun i hi => ?_⟩
  rcases h3 with ⟨rfl, _⟩ | ⟨b, e, hf, hfr, hc⟩
  · simp at hi
  · exact ⟨b, 0, e, by rw [hf]; simp, by rw [Nat.zero_add]; exact (hc i hi).1, (hc i hi).2⟩


/-- The text of a mark: 'm' and the number. -/
def mtl (k : Nat) (o : ByteArray) : ByteArray := if _h : k = 0 then o else mtl (k / 10) (ByteArray.mk #[UInt8.ofNat (48 + k % 10)] ++ o)
termination_by k
decreasing_by omega
def mtx (k : Nat) : ByteArray := ByteArray.mk #[109] ++ mtl k ByteArray.empty

theorem mtl_size (k : Nat) (o : ByteArray) : (mtl k o).size ≤ o.size + k := by
  induction k using Nat.strongRecOn generalizing o with
  | _ k ih =>
    rw [mtl]
    split
    · omega
    · have := ih (k / 10) (by omega) (ByteArray.mk #[UInt8.ofNat (48 + k % 10)] ++ o)
      rw [ByteArray.size_append] at this
      have e : (ByteArray.mk #[UInt8.ofNat (48 + k % 10)]).size = 1 := rfl
      omega
theorem mtx_size (k : Nat) : (mtx k).size ≤ k + 1 := by
  have := mtl_size k ByteArray.empty
  rw [mtx, ByteArray.size_append]
  have e : (ByteArray.mk #[109]).size = 1 := rfl
  have e2 : ByteArray.empty.size = 0 := rfl
  omega

/-- What marking makes of strings. -/
def mS (k : Nat) : List ByteArray → List ByteArray
  | [] => []
  | _ :: r => mtx k :: mS (k + 1) r
theorem mS_len (k : Nat) (l : List ByteArray) : (mS k l).length = l.length := by
  induction l generalizing k with
  | nil => rfl
  | cons a r ih => simp [mS, ih]
theorem mS_get (k : Nat) (l : List ByteArray) (i : Nat) (h : i < (mS k l).length) : (mS k l)[i] = mtx (k + i) := by
  induction l generalizing k i with
  | nil => simp [mS] at h
  | cons a r ih =>
    cases i with
    | zero => rfl
    | succ i =>
      simp only [mS, List.getElem_cons_succ]
      rw [ih]; congr 1; omega

end Go.Proofs.YtgdiankfnemjjaaGreat

/- The first tree of a schema, as plain data; trees gathered in a row of the call's own. Definitions and small laws; no program walked, no conditions. -/

namespace Go.Proofs.YtgdiankfnemjjaaGreat
open Go Go.RowKit

theorem freeOfHeap {w : World} {g : Nat} {cur : Array Value} {e : TypeId} (h : w.heap[g]? = some (.cells cur e (0, 0))) : FreeB w g := fun o => by simp [World.frozen?, h]

/-- A row of strings of the call's own. -/
theorem strsOwn_of_row {base : Nat} {w : World} {v : Value} {ss : List ByteArray} (h : w.ownsRow base 9 1 v ss.length (ss.map Value.string)) (hs : ∀ x, x ∈ ss → x.size ≤ 9223372036854775807) :
    ∃ F, StrsOwn w v ss F ∧ F.Nodup ∧ (∀ b, b ∈ F → base ≤ b ∧ b < w.heap.size) ∧ ∀ b, b ∈ F → v.ownBlock = some b := by
  rcases h.2 with ⟨hv, hn0⟩ | ⟨g, cap, cur, hv, hgb, hh, hle, hm2, hsz, htk⟩
  · have hss : ss = [] := List.eq_nil_of_length_eq_zero hn0
    subst hss
    exact ⟨[], ⟨none, 0, hv, by simp, Or.inl ⟨rfl, rfl⟩⟩, List.nodup_nil, fun b hb => by simp at hb, fun b hb => by simp at hb⟩
  · refine ⟨[g], ⟨some ⟨g, 0, none⟩, cap, hv, by unfold maxLen at hm2; omega, Or.inr ⟨g, rfl, rfl, freeOfHeap hh, fun i hi => ⟨?_, hs _ (List.getElem_mem hi)⟩⟩⟩, by simp, fun b hb => ?_, fun b hb => by simp at hb; subst hb; rw [hv]; rfl⟩
    · have h1 : (ss.map Value.string)[i]? = some (.string ss[i]) := by simp [hi]
      rw [← htk, List.getElem?_take_of_lt (by omega)] at h1
      simp only [World.cell?, hh]
      simpa using h1
    · simp at hb; subst hb
      exact ⟨hgb, (Array.getElem?_eq_some_iff.1 hh).1⟩

end Go.Proofs.YtgdiankfnemjjaaGreat

/- Schemas that own their memory: what blocks they lie in, each named once; schemas gathered in a row of the call's own. Definitions and small laws; no program walked, no conditions. -/

namespace Go.Proofs.YtgdiankfnemjjaaGreat
open Go Go.RowKit




end Go.Proofs.YtgdiankfnemjjaaGreat

/- Rows of schemas that share their memory: what is read of kids, laid in a new row, one kid put in another's place. No program walked; no conditions. -/

namespace Go.Proofs.YtgdiankfnemjjaaGreat
open Go Go.RowKit

theorem ownsRow_put {w : World} {base : Nat} {e : TypeId} {size g n cap : Nat} {xs : List Value} (h : w.ownsRow base e size (.slice (some ⟨g, 0, none⟩) n cap) n xs) (j : Nat) (u : Value) : (w.setCell ⟨g, j, none⟩ u).ownsRow base e size (.slice (some ⟨g, 0, none⟩) n cap) n (xs.set j u) := by
  rcases h.2 with ⟨hv, _⟩ | ⟨g', cap', cur, hv, hb, hg, hnc, hcm, hcs, htk⟩
  · simp at hv
  · simp only [Value.slice.injEq, Option.some.injEq, Addr.mk.injEq, and_true, true_and] at hv
    obtain ⟨rfl, rfl⟩ := hv
    refine ⟨by rw [List.length_set]; exact h.1, Or.inr ⟨g, cap, cur.setIfInBounds j u, rfl, hb, ?_, hnc, hcm, by rw [Array.size_setIfInBounds]; exact hcs, ?_⟩⟩
    · simp [World.setCell, Array.getElem?_modify, hg]
    · rw [Array.toList_setIfInBounds, List.take_set, htk]

theorem ownsRow_free {w : World} {base : Nat} {e : TypeId} {size g n cap : Nat} {xs : List Value} (h : w.ownsRow base e size (.slice (some ⟨g, 0, none⟩) n cap) n xs) (j : Nat) : w.frozen? ⟨g, j, none⟩ = false := by
  rcases h.2 with ⟨hv, _⟩ | ⟨g', cap', cur, hv, hb, hg, _⟩
  · simp at hv
  · simp only [Value.slice.injEq, Option.some.injEq, Addr.mk.injEq, and_true, true_and] at hv
    obtain ⟨rfl, -⟩ := hv
    simp [World.frozen?, hg]

/-- An empty row of a call's own. -/
theorem empty_row {w : World} {g base : Nat} {e : TypeId} {size : Nat} {f : Nat → Value} (h : w.rowIs g e 0 f) (hb : base ≤ g) : w.ownsRow base e size (.slice (some ⟨g, 0, none⟩) 0 0) 0 [] := by
  obtain ⟨c, h1, h2, -⟩ := h
  exact ⟨by simp, Or.inr ⟨g, 0, c, rfl, hb, h1, Nat.le_refl _, by decide, by omega, by simp⟩⟩
end Go.Proofs.YtgdiankfnemjjaaGreat
