/- Disks that own their memory: definitions and small laws, no program. No conditions. -/
import Derived.Test.YtchlbncncipecaaDkDat
import Derived.Test.YtchlbncncipecaaOwn
import Derived.Test.YtchlbncncipecaaFirst
namespace Go.Proofs.Ytchlbncncipecaa
open Go Go.RowKit

/-- Rows of n cells each, in a block of their own. -/
def FlatOwn (w : World) (v : Value) (n : Nat) (rs : List (List Value)) (F : List Nat) : Prop :=
  ∃ a cap, v = .slice a rs.length cap ∧ rs.length ≤ 9223372036854775807 ∧ ((rs = [] ∧ F = []) ∨ ∃ b, a = some ⟨b, 0, none⟩ ∧ F = [b] ∧ FreeB w b ∧ ∀ i, (h : i < rs.length) → ∀ j, j < n → w.cell? ⟨b, i * n + j, none⟩ = some (rs[i].getD j undef))
theorem FlatOwn.carry {w w' : World} {v : Value} {n : Nat} {rs : List (List Value)} {F : List Nat} (h : FlatOwn w v n rs F) (hF : ∀ b, b ∈ F → w'.heap[b]? = w.heap[b]?) : FlatOwn w' v n rs F := by
  obtain ⟨a, cap, h1, h2, h3⟩ := h
  refine ⟨a, cap, h1, h2, ?_⟩
  rcases h3 with h | ⟨b, e, rfl, hf, hc⟩
  · exact Or.inl h
  · have hb := hF b (by simp)
    exact Or.inr ⟨b, e, rfl, hf.of_block hb, fun i hi j hj => by rw [World.cell?_of_block (w := w) hb]; exact hc i hi j hj⟩
theorem FlatOwn.at {w : World} {v : Value} {n : Nat} {rs : List (List Value)} {F : List Nat} (h : FlatOwn w v n rs F) : FlatAt (· ∈ F) w v n rs := by
  obtain ⟨a, cap, h1, h2, h3⟩ := h
  refine ⟨a, cap, h1, h2, fun i hi => ?_⟩
  rcases h3 with ⟨rfl, -⟩ | ⟨b, e, rfl, hf, hc⟩
  · simp at hi
  · exact ⟨b, 0, e, by simp, fun j hj => by rw [Nat.zero_add]; exact hc i hi j hj⟩
theorem FlatOwn.nil (w : World) (n : Nat) : FlatOwn w (.slice none 0 0) n [] [] := ⟨none, 0, rfl, by simp, Or.inl ⟨rfl, rfl⟩⟩
theorem flat_get {n : Nat} : ∀ (rs : List (List Value)), (∀ r, r ∈ rs → r.length = n) → ∀ (i : Nat) (hi : i < rs.length) (j : Nat), j < n → rs.flatten[i * n + j]? = some (rs[i].getD j undef)
  | r :: rest, hn, 0, _, j, hj => by
    have hr : r.length = n := hn r List.mem_cons_self
    rw [List.flatten_cons, Nat.zero_mul, Nat.zero_add, List.getElem?_append_left (by omega), List.getElem?_eq_getElem (by omega)]
    simp [hr, hj]
  | r :: rest, hn, i + 1, hi, j, hj => by
    have hr : r.length = n := hn r List.mem_cons_self
    rw [List.flatten_cons, List.getElem?_append_right (by rw [hr, Nat.add_mul]; omega), hr, show (i + 1) * n + j - n = i * n + j by rw [Nat.add_mul]; omega, flat_get rest (fun x hx => hn x (List.mem_cons_of_mem _ hx)) i (by simpa using hi) j hj]
    rfl
theorem flat_len {n : Nat} : ∀ (rs : List (List Value)), (∀ r, r ∈ rs → r.length = n) → rs.flatten.length = rs.length * n
  | [], _ => by simp
  | r :: rest, hn => by
    rw [List.flatten_cons, List.length_append, flat_len rest (fun x hx => hn x (List.mem_cons_of_mem _ hx)), hn r List.mem_cons_self, List.length_cons, Nat.add_mul]; omega
/-- A row of the call's own is such. -/
theorem FlatOwn.of_row {base : Nat} {w : World} {v : Value} {e : TypeId} {n : Nat} {rs : List (List Value)} (h : w.ownsRow base e n v rs.length rs.flatten) (hn : ∀ r, r ∈ rs → r.length = n) :
    ∃ F, FlatOwn w v n rs F ∧ (∀ b, b ∈ F → v.ownBlock = some b) ∧ (∀ b, b ∈ F → base ≤ b ∧ b < w.heap.size) ∧ F.Nodup := by
  rcases h.2 with ⟨hv, h0⟩ | ⟨g, cap, cur, hv, hb, hh, hle, hm, hsz, htk⟩
  · have : rs = [] := List.eq_nil_of_length_eq_zero h0
    subst this
    exact ⟨[], ⟨none, 0, hv, by simp, Or.inl ⟨rfl, rfl⟩⟩, fun b hb => (by cases hb), fun b hb => (by cases hb), List.nodup_nil⟩
  · refine ⟨[g], ⟨some ⟨g, 0, none⟩, cap, hv, by unfold maxLen at hm; omega, Or.inr ⟨g, rfl, rfl, freeOfHeap hh, fun i hi j hj => ?_⟩⟩, fun b hb => ?_, fun b hb => ?_, by simp⟩
    · have h1 := flat_get rs hn i hi j hj
      have hlt : i * n + j < rs.length * n := by
        have : (i + 1) * n ≤ rs.length * n := Nat.mul_le_mul_right n hi
        rw [Nat.add_mul] at this; omega
      rw [← htk, List.getElem?_take_of_lt hlt] at h1
      simp only [World.cell?, hh]
      simpa using h1
    · simp at hb; subst hb; rw [hv]; rfl
    · simp at hb; subst hb
      exact ⟨by assumption, (Array.getElem?_eq_some_iff.1 hh).1⟩

/-- Files, moves in blocks of their own. -/
def FsOwn (w : World) (v : Value) (fs : List Df) (F : List Nat) : Prop := FlatOwn w v 3 (fs.map Df.cs) F ∧ ∀ f, f ∈ fs → f.okM
def MsOwn (w : World) (v : Value) (ms : List Dm) (F : List Nat) : Prop := FlatOwn w v 2 (ms.map Dm.cs) F ∧ ∀ m, m ∈ ms → m.okM
/-- A disk in blocks of its own. -/
structure DkOwn (w : World) (d : Dk) (c : C3) (F0 F1 F2 : List Nat) : Prop where
  fs : FsOwn w c.c0 d.files F0
  ns : StrsOwn w c.c1 d.names F1
  ms : MsOwn w c.c2 d.moves F2
theorem DkOwn.carry {w w' : World} {d : Dk} {c : C3} {F0 F1 F2 : List Nat} (h : DkOwn w d c F0 F1 F2) (hF : ∀ b, b ∈ F0 ++ F1 ++ F2 → w'.heap[b]? = w.heap[b]?) : DkOwn w' d c F0 F1 F2 :=
  ⟨⟨h.fs.1.carry (fun b hb => hF b (by simp [hb])), h.fs.2⟩, h.ns.carry (fun b hb => hF b (by simp [hb])), ⟨h.ms.1.carry (fun b hb => hF b (by simp [hb])), h.ms.2⟩⟩
theorem DkOwn.at {w : World} {d : Dk} {c : C3} {F0 F1 F2 : List Nat} (h : DkOwn w d c F0 F1 F2) : DkAt (· ∈ F0 ++ F1 ++ F2) w d c :=
  ⟨⟨h.fs.1.at.carry (fun _ _ => rfl) (fun b hb => by simp [hb]), h.fs.2⟩, h.ns.at.carry (fun _ _ => rfl) (fun b hb => by simp [hb]), ⟨h.ms.1.at.carry (fun _ _ => rfl) (fun b hb => by simp [hb]), h.ms.2⟩⟩
theorem DkOwn.none (w : World) : DkOwn w ⟨[], [], []⟩ ⟨.slice none 0 0, .slice none 0 0, .slice none 0 0⟩ [] [] [] :=
  ⟨⟨FlatOwn.nil w 3, fun f hf => (by cases hf)⟩, ⟨Option.none, 0, rfl, by simp, Or.inl ⟨rfl, rfl⟩⟩, ⟨FlatOwn.nil w 2, fun f hf => (by cases hf)⟩⟩
end Go.Proofs.Ytchlbncncipecaa
