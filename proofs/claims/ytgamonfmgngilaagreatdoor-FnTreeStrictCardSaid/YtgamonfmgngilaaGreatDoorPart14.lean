/- What the program's sorter does, as a plain function on data, and that it counts as the specification counts. No program, no conditions. -/
import Derived.Test.YtgamonfmgngilaaGreatDoorPart03
import Derived.Test.YtgamonfmgngilaaGreatDoorPart13
import Derived.Test.YtgamonfmgngilaaGreatDoorPart00
import Derived.Lib.ItoaNum
import Derived.Test.YtgamonfmgngilaaGreatDoorRows
import Derived.Deep.RegionWith
import Derived.Deep.QuietTactic
import Derived.BigQuiet
namespace Go.Proofs.YtgamonfmgngilaaGreatDoor
open Go Go.RowKit

mutual
/-- The parts behind a tree, those ahead of it being p, at the level l; none, if a fault is raised. -/
def wlk : Tr → Int → Int → Option Int
  | .mk s n tx ns ks, p, l =>
    if p + 1 ≤ 120 ∧ l + 1 ≤ 6 then
      if ownB (.mk s n tx ns ks) = true then
        match wlkK ks (p + 1) (l + 1) with
        | none => none
        | some q => if newB (.mk s n tx ns ks) = true then some q else none
      else none
    else none
def wlkK : List Tr → Int → Int → Option Int
  | [], p, _ => some p
  | t :: r, p, l => match wlk t p l with
    | none => none
    | some q => wlkK r q l
end

theorem wlk_eq (t : Tr) (p l : Int) : wlk t p l = if p + 1 ≤ 120 ∧ l + 1 ≤ 6 then
      if ownB t = true then
        match wlkK t.kids (p + 1) (l + 1) with
        | none => none
        | some q => if newB t = true then some q else none
      else none
    else none := by
  obtain ⟨s, n, tx, ns, ks⟩ := t
  rw [wlk]; rfl

/-- What a count comes to, so much being ahead of it. -/
def onto (p k : Int) : Option Int := if k < 0 ∨ 120 < p + k then none else some (p + k)

mutual
theorem wlk_is : ∀ (t : Tr) (p l : Int), 0 ≤ p → p ≤ 120 → wlk t p l = onto p (pT t (l + 1))
  | .mk s n tx ns ks, p, l => by
    intro hp hp1
    rw [wlk, pT]
    by_cases h : p + 1 ≤ 120 ∧ l + 1 ≤ 6
    · rw [if_pos h]
      rw [alone_eq]
      by_cases ho : ownB (.mk s n tx ns ks) = true
      · rw [if_pos ho, ho, wlkK_is ks (p + 1) (l + 1) 1 (by omega) (by omega) (by omega)]
        have hbd := pK_bd ks (l + 1) 1 (by omega) (by omega)
        generalize pK ks (l + 1) 1 = r at hbd
        by_cases hn : newB (.mk s n tx ns ks) = true
        · rw [hn]
          simp only [Bool.and_self, Bool.true_eq_false, or_false]
          rw [if_neg (by omega)]
          unfold onto
          by_cases hx : r < 0 ∨ 120 < p + r
          · rw [if_pos (by omega), if_pos hx]
          · rw [if_neg (by omega), if_neg hx]
            simp
        · have hn' : newB (.mk s n tx ns ks) = false := by simpa using hn
          rw [hn']
          simp only [Bool.and_false, or_true, if_true]
          have : onto p (-1) = none := by unfold onto; rw [if_pos (by omega)]
          rw [this]
          unfold onto
          split <;> rfl
      · have ho' : ownB (.mk s n tx ns ks) = false := by simpa using ho
        rw [if_neg ho, ho']
        simp only [Bool.false_and, or_true, if_true]
        unfold onto; rw [if_pos (by omega)]
    · rw [if_neg h]
      unfold onto
      by_cases h6 : 6 < l + 1
      · rw [if_pos (Or.inl h6), if_pos (by omega)]
      · split
        · rw [if_pos (by omega)]
        · have hbd := pK_bd ks (l + 1) 1 (by omega) (by omega)
          rw [if_pos (by omega)]
theorem wlkK_is : ∀ (ks : List Tr) (p l n : Int), 1 ≤ n → n ≤ p → p ≤ 120 → wlkK ks p l = onto (p - n) (pK ks l n)
  | [], p, l, n => by
    intro h1 h2 h3
    rw [wlkK, pK]
    unfold onto
    rw [if_neg (by omega)]
    congr 1; omega
  | t :: r, p, l, n => by
    intro h1 h2 h3
    rw [wlkK, pK, wlk_is t p l (by omega) h3]
    have hbd := pT_bd t (l + 1)
    generalize pT t (l + 1) = k at hbd
    by_cases hx : k < 0 ∨ 120 < p + k
    · have : onto p k = none := by unfold onto; rw [if_pos hx]
      rw [this]
      simp only
      by_cases hy : k < 0 ∨ 120 < n + k
      · rw [if_pos hy]; unfold onto; rw [if_pos (by omega)]
      · rw [if_neg hy]
        have hbd2 := pK_bd r l (n + k) (by omega) (by omega)
        have hge := pK_ge r l (n + k)
        unfold onto; rw [if_pos (by omega)]
    · have : onto p k = some (p + k) := by unfold onto; rw [if_neg hx]
      rw [this]
      simp only
      rw [wlkK_is r (p + k) l (n + k) (by omega) (by omega) (by omega), if_neg (by omega), show p + k - (n + k) = p - n from by omega]
theorem pK_ge : ∀ (ks : List Tr) (l n : Int), pK ks l n = -1 ∨ n ≤ pK ks l n
  | [], l, n => by rw [pK]; exact Or.inr (Int.le_refl _)
  | t :: r, l, n => by
    rw [pK]
    split
    · exact Or.inl rfl
    · have := pK_ge r l (n + pT t (l + 1)); omega
end

/-- The sorter counts from the start as the specification counts. -/
theorem wlk_start (t : Tr) : wlk t 0 0 = if pT t 1 < 0 then none else some (pT t 1) := by
  rw [wlk_is t 0 0 (by omega) (by omega)]
  have hbd := pT_bd t 1
  unfold onto
  rw [show (0 : Int) + 1 = 1 from rfl]
  by_cases h : pT t 1 < 0
  · rw [if_pos (Or.inl h), if_pos h]
  · rw [if_neg (by omega), if_neg h]; simp

theorem wlk_bd (t : Tr) (p l q : Int) (hp : 0 ≤ p) (hp1 : p ≤ 120) (h : wlk t p l = some q) : p + 1 ≤ q ∧ q ≤ 120 := by
  rw [wlk_is t p l hp hp1] at h
  have hbd := pT_bd t (l + 1)
  unfold onto at h
  split at h
  · cases h
  · simp only [Option.some.injEq] at h; omega

theorem wlkK_step {ks : List Tr} {k : Nat} (hk : k < ks.length) (p l : Int) : wlkK (ks.drop k) p l = match wlk ks[k] p l with
    | none => none
    | some q => wlkK (ks.drop (k + 1)) q l := by
  rw [List.drop_eq_getElem_cons hk, wlkK]

end Go.Proofs.YtgamonfmgngilaaGreatDoor

/- How a sorted tree lies in memory, and small laws on that; worlds of which but one block is as it was. No program walked, no conditions. -/

namespace Go.Proofs.YtgamonfmgngilaaGreatDoor
open Go Go.RowKit

mutual
/-- A value is a tree as a type of its sort: all that it leads to lies in the world, in blocks of which 'Q' holds. -/
def SRep (Q : Nat → Prop) (w : World) : Tr → Value → Prop
  | .mk s n tx ns ks, v =>
    (s = 1 ∧ v = .iface 87 (.int .i64 n)) ∨
    (s = 2 ∧ v = .iface 88 (.string tx)) ∨
    (s = 3 ∧ v = .iface 90 (.bool (n == 1))) ∨
    (s = 4 ∧ ∃ a cap, v = .iface 92 (.slice a ks.length cap) ∧ (ks ≠ [] → ∃ b, a = some ⟨b, 0, none⟩ ∧ Q b ∧ SRepK Q w b 0 ks)) ∨
    (s = 5 ∧ ∃ v3 a cap, v = .iface 95 (.agg #[v3, .slice a ks.length cap]) ∧ StrsAt Q w v3 ns ∧ (ks ≠ [] → ∃ b, a = some ⟨b, 0, none⟩ ∧ Q b ∧ SRepK Q w b 0 ks)) ∨
    (s = 6 ∧ ∃ a cap, v = .iface 97 (.slice a ks.length cap) ∧ (ks ≠ [] → ∃ b, a = some ⟨b, 0, none⟩ ∧ Q b ∧ SRepK Q w b 0 ks))
def SRepK (Q : Nat → Prop) (w : World) (b : Nat) (o : Nat) : List Tr → Prop
  | [] => True
  | t :: r => (∃ x, w.cell? ⟨b, o, none⟩ = some x ∧ SRep Q w t x) ∧ SRepK Q w b (o + 1) r
end

theorem SRepK.get {Q : Nat → Prop} {w : World} {b o : Nat} {ks : List Tr} (h : SRepK Q w b o ks) (i : Nat) (hi : i < ks.length) :
    ∃ x, w.cell? ⟨b, o + i, none⟩ = some x ∧ SRep Q w ks[i] x := by
  induction ks generalizing o i with
  | nil => simp at hi
  | cons t r ih =>
    rw [SRepK] at h
    cases i with
    | zero => exact h.1
    | succ i =>
      obtain ⟨c, h1, h2⟩ := ih h.2 i (by simpa using hi)
      exact ⟨c, by rw [show o + (i + 1) = o + 1 + i from by omega]; exact h1, h2⟩

theorem SRepK.mk {Q : Nat → Prop} {w : World} {b o : Nat} {ks : List Tr} (h : ∀ i, (hi : i < ks.length) → ∃ x, w.cell? ⟨b, o + i, none⟩ = some x ∧ SRep Q w ks[i] x) : SRepK Q w b o ks := by
  induction ks generalizing o with
  | nil => rw [SRepK]; trivial
  | cons t r ih =>
    rw [SRepK]
    refine ⟨h 0 (by simp), ih fun i hi => ?_⟩
    obtain ⟨c, h1, h2⟩ := h (i + 1) (by simpa using hi)
    exact ⟨c, by rw [show o + 1 + i = o + (i + 1) from by omega]; exact h1, h2⟩

mutual
theorem SRep.carry {P Q : Nat → Prop} {w w' : World} (hP : ∀ b, P b → w'.heap[b]? = w.heap[b]?) (hQ : ∀ b, P b → Q b) : ∀ (t : Tr) (v : Value), SRep P w t v → SRep Q w' t v
  | .mk s n tx ns ks, v => by
    intro h
    rw [SRep] at h ⊢
    rcases h with h | h | h | ⟨hs, a, cap, h1, h2⟩ | ⟨hs, v3, a, cap, h1, h3, h2⟩ | ⟨hs, a, cap, h1, h2⟩
    · exact Or.inl h
    · exact Or.inr (Or.inl h)
    · exact Or.inr (Or.inr (Or.inl h))
    · refine Or.inr (Or.inr (Or.inr (Or.inl ⟨hs, a, cap, h1, fun hk => ?_⟩)))
      obtain ⟨b, e, p, hr⟩ := h2 hk
      exact ⟨b, e, hQ b p, SRepK.carry hP hQ b 0 (hP b p) ks hr⟩
    · refine Or.inr (Or.inr (Or.inr (Or.inr (Or.inl ⟨hs, v3, a, cap, h1, h3.carry hP hQ, fun hk => ?_⟩))))
      obtain ⟨b, e, p, hr⟩ := h2 hk
      exact ⟨b, e, hQ b p, SRepK.carry hP hQ b 0 (hP b p) ks hr⟩
    · refine Or.inr (Or.inr (Or.inr (Or.inr (Or.inr ⟨hs, a, cap, h1, fun hk => ?_⟩))))
      obtain ⟨b, e, p, hr⟩ := h2 hk
      exact ⟨b, e, hQ b p, SRepK.carry hP hQ b 0 (hP b p) ks hr⟩
theorem SRepK.carry {P Q : Nat → Prop} {w w' : World} (hP : ∀ b, P b → w'.heap[b]? = w.heap[b]?) (hQ : ∀ b, P b → Q b) (b : Nat) (o : Nat) (hb : w'.heap[b]? = w.heap[b]?) : ∀ (ks : List Tr), SRepK P w b o ks → SRepK Q w' b o ks
  | [] => by intro _; rw [SRepK]; trivial
  | t :: r => by
    intro h
    rw [SRepK] at h ⊢
    obtain ⟨⟨c, h1, h2⟩, h3⟩ := h
    exact ⟨⟨c, by rw [World.cell?_of_block (w := w) hb]; exact h1, SRep.carry hP hQ t c h2⟩, SRepK.carry hP hQ b (o + 1) hb r h3⟩
end

theorem SRep.iface {Q : Nat → Prop} {w : World} {t : Tr} {v : Value} (h : SRep Q w t v) : ∃ T x, v = .iface T x := by
  obtain ⟨s, n, tx, ns, ks⟩ := t
  rw [SRep] at h
  rcases h with h | h | h | ⟨hs, a, cap, h1, h2⟩ | ⟨hs, v3, a, cap, h1, h3, h2⟩ | ⟨hs, a, cap, h1, h2⟩
  · exact ⟨_, _, h.2⟩
  · exact ⟨_, _, h.2⟩
  · exact ⟨_, _, h.2⟩
  · exact ⟨_, _, h1⟩
  · exact ⟨_, _, h1⟩
  · exact ⟨_, _, h1⟩

/-- A slice of sorted trees. -/
def SKids (Q : Nat → Prop) (w : World) (v : Value) (ks : List Tr) : Prop :=
  ∃ a cap, v = .slice a ks.length cap ∧ (ks ≠ [] → ∃ b, a = some ⟨b, 0, none⟩ ∧ Q b ∧ SRepK Q w b 0 ks)

theorem SKids.carry {P Q : Nat → Prop} {w w' : World} {v : Value} {ks : List Tr} (h : SKids P w v ks) (hP : ∀ b, P b → w'.heap[b]? = w.heap[b]?) (hQ : ∀ b, P b → Q b) : SKids Q w' v ks := by
  obtain ⟨a, cap, h1, h2⟩ := h
  refine ⟨a, cap, h1, fun hk => ?_⟩
  obtain ⟨b, e, p, hr⟩ := h2 hk
  exact ⟨b, e, hQ b p, SRepK.carry hP hQ b 0 (hP b p) ks hr⟩

theorem Bnd.below {w w' : World} {B : Nat} {p l : Int} (h : Bnd w B p l) (hb : Below w.heap.size w w') : Bnd w' B p l := h.of_block (hb.block B h.lt)
theorem Bnd.alloc {w : World} {B : Nat} {p l : Int} (h : Bnd w B p l) (o : Obj) : Bnd (w.alloc o) B p l := h.of_block (Below.heap_alloc _ _ _ h.lt)

theorem Bnd.set2 {w : World} {B : Nat} {p l : Int} (h : Bnd w B p l) (p' l' : Int) : Bnd ((w.setCell ⟨B, 0, none⟩ (.int .i64 p')).setCell ⟨B, 1, none⟩ (.int .i64 l')) B p' l' := by
  obtain ⟨c0, c1, f0, f1⟩ := h
  exact ⟨by simp [go_sem, c0], by simp [go_sem, c1], by simp [go_sem, f0], by simp [go_sem, f1]⟩
theorem Bnd.set1 {w : World} {B : Nat} {p l : Int} (h : Bnd w B p l) (l' : Int) : Bnd (w.setCell ⟨B, 1, none⟩ (.int .i64 l')) B p l' := by
  obtain ⟨c0, c1, f0, f1⟩ := h
  exact ⟨by simp [go_sem, c0], by simp [go_sem, c1], by simp [go_sem, f0], by simp [go_sem, f1]⟩

/-- What the loop of trees has got after k rounds: a row of its own, and what its cells are. -/
def Got (P : Nat → Prop) (w wr : World) (v : Value) (ks : List Tr) (k : Nat) : Prop :=
  ∃ xs, wr.ownsRow w.heap.size 48 1 v k xs ∧ ∀ i, i < k → (hi : i < ks.length) → ∃ x, xs[i]? = some x ∧ SRep (fun b => P b ∨ (w.heap.size ≤ b ∧ b < wr.heap.size ∧ some b ≠ v.ownBlock)) wr ks[i] x

theorem Got.start (P : Nat → Prop) (w : World) (ks : List Tr) : Got P w w (.slice none 0 0) ks 0 :=
  ⟨[], World.ownsRow_nil _ _ _ _, fun i hi => by omega⟩

/-- A world in which what was got still lies, but for its row. -/
theorem Got.kept {P : Nat → Prop} {w wr wr' : World} {v : Value} {ks : List Tr} {k : Nat} {B : Nat} (hP : ∀ b, P b → b < w.heap.size ∧ b ≠ B) (hBw : B < w.heap.size) (hw : w.heap.size ≤ wr.heap.size) (h : Got P w wr v ks k) (hb : But B wr wr') : Got P w wr' v ks k := by
  obtain ⟨xs, hown, hx⟩ := h
  have hne : v.ownBlock ≠ some B := fun e => by have := (hown.lt B e).1; omega
  refine ⟨xs, hown.kept hb (Or.inr hne), fun i hi hil => ?_⟩
  obtain ⟨x, h1, h2⟩ := hx i hi hil
  refine ⟨x, h1, SRep.carry (fun b hb' => ?_) (fun b hb' => ?_) _ _ h2⟩
  · rcases hb' with hp | ⟨hp1, hp2, _⟩
    · have := hP b hp; exact hb.at (by omega) this.2
    · exact hb.at hp2 (by omega)
  · rcases hb' with hp | ⟨hp1, hp2, hp3⟩
    · exact Or.inl hp
    · exact Or.inr ⟨hp1, Nat.lt_of_lt_of_le hp2 hb.size, hp3⟩

theorem Got.push {P : Nat → Prop} {w w2 w3 w4 : World} {v v' x : Value} {ks : List Tr} {k : Nat} {xs : List Value} {B : Nat} (hP : ∀ b, P b → b < w.heap.size ∧ b ≠ B) (hlt : k < ks.length) (hw : w.heap.size ≤ w2.heap.size)
    (hown : w2.ownsRow w.heap.size 48 1 v k xs) (hx : ∀ i, i < k → (hi : i < ks.length) → ∃ x, xs[i]? = some x ∧ SRep (fun b => P b ∨ (w.heap.size ≤ b ∧ b < w2.heap.size ∧ some b ≠ v.ownBlock)) w2 ks[i] x)
    (hnew : SRep (fun b => P b ∨ (w.heap.size ≤ b ∧ b < w2.heap.size ∧ some b ≠ v.ownBlock)) w2 ks[k] x)
    (hb3 : Below w2.heap.size w2 w3)
    (hown' : w4.ownsRow w.heap.size 48 1 v' (k + 1) (xs ++ [x])) (hg : w3.grownBy w4 v.ownBlock) (hv' : v'.ownBlock = v.ownBlock ∨ ∃ g, v'.ownBlock = some g ∧ w3.heap.size ≤ g) : Got P w w4 v' ks (k + 1) := by
  have hxl : xs.length = k := by have := hown.1; omega
  have hcarry : ∀ (t : Tr) (y : Value), SRep (fun b => P b ∨ (w.heap.size ≤ b ∧ b < w2.heap.size ∧ some b ≠ v.ownBlock)) w2 t y → SRep (fun b => P b ∨ (w.heap.size ≤ b ∧ b < w4.heap.size ∧ some b ≠ v'.ownBlock)) w4 t y := fun t y h => by
    have s3 := hb3.size; have s4 := hg.size
    refine SRep.carry (fun b hb' => ?_) (fun b hb' => ?_) _ _ h
    · have hb2 : b < w2.heap.size := by
        rcases hb' with hp | ⟨_, hp2, _⟩
        · have := hP b hp; omega
        · exact hp2
      rw [hg.block b (by omega) ?_, hb3.block b hb2]
      rcases hb' with hp | ⟨_, _, hp3⟩
      · intro e; have := (hown.lt b e.symm).1; have := (hP b hp).1; omega
      · exact hp3
    · rcases hb' with hp | ⟨hp1, hp2, hp3⟩
      · exact Or.inl hp
      · refine Or.inr ⟨hp1, by omega, ?_⟩
        rcases hv' with e | ⟨g, e, hge⟩
        · rw [e]; exact hp3
        · rw [e]; intro e2; simp only [Option.some.injEq] at e2; omega
  refine ⟨xs ++ [x], hown', fun i hi hil => ?_⟩
  by_cases e : i = k
  · subst e
    exact ⟨x, by rw [← hxl]; simp, hcarry _ _ hnew⟩
  · obtain ⟨y, h1, h2⟩ := hx i (by omega) hil
    exact ⟨y, by rw [List.getElem?_append_left (by omega)]; exact h1, hcarry _ _ h2⟩

theorem Got.done {P : Nat → Prop} {w wr : World} {v : Value} {ks : List Tr} (h : Got P w wr v ks ks.length) : SKids (fun b => P b ∨ (w.heap.size ≤ b ∧ b < wr.heap.size)) wr v ks := by
  obtain ⟨xs, hown, hx⟩ := h
  rcases hown.2 with ⟨hv, hn0⟩ | ⟨g, cap, cur, hv, hgb, hh, hle, hm2, hsz, htk⟩
  · refine ⟨none, 0, by rw [hv, hn0], fun hk => ?_⟩
    exact absurd (List.eq_nil_of_length_eq_zero hn0) hk
  · refine ⟨some ⟨g, 0, none⟩, cap, hv, fun _ => ⟨g, rfl, Or.inr ⟨hgb, (Array.getElem?_eq_some_iff.1 hh).1⟩, SRepK.mk fun i hi => ?_⟩⟩
    obtain ⟨x, h1, h2⟩ := hx i hi hi
    refine ⟨x, ?_, SRep.carry (fun _ _ => rfl) (fun b hb => ?_) _ _ h2⟩
    · have hj' : cur.toList[i]? = some x := by
        rw [← htk] at h1
        rw [List.getElem?_take] at h1
        split at h1
        · exact h1
        · cases h1
      simp only [Nat.zero_add, World.cell?, hh]
      simpa using hj'
    · rcases hb with hp | ⟨hp1, hp2, _⟩
      · exact Or.inl hp
      · exact Or.inr ⟨hp1, hp2⟩

theorem srep1 {Q : Nat → Prop} {w : World} {t : Tr} (h : t.sort = 1) : SRep Q w t (.iface 87 (.int .i64 t.num)) := by
  obtain ⟨s, n, tx, ns, ks⟩ := t; rw [SRep]; exact Or.inl ⟨h, rfl⟩
theorem srep2 {Q : Nat → Prop} {w : World} {t : Tr} (h : t.sort = 2) : SRep Q w t (.iface 88 (.string t.text)) := by
  obtain ⟨s, n, tx, ns, ks⟩ := t; rw [SRep]; exact Or.inr (Or.inl ⟨h, rfl⟩)
theorem srep3 {Q : Nat → Prop} {w : World} {t : Tr} (h : t.sort = 3) : SRep Q w t (.iface 90 (.bool (t.num == 1))) := by
  obtain ⟨s, n, tx, ns, ks⟩ := t; rw [SRep]; exact Or.inr (Or.inr (Or.inl ⟨h, rfl⟩))
theorem srep4 {Q : Nat → Prop} {w : World} {t : Tr} {v : Value} (h : t.sort = 4) (hk : SKids Q w v t.kids) : SRep Q w t (.iface 92 v) := by
  obtain ⟨s, n, tx, ns, ks⟩ := t; obtain ⟨a, cap, rfl, hk⟩ := hk; rw [SRep]; exact Or.inr (Or.inr (Or.inr (Or.inl ⟨h, a, cap, rfl, hk⟩)))
theorem srep5 {Q : Nat → Prop} {w : World} {t : Tr} {v v3 : Value} (h : t.sort = 5) (h3 : StrsAt Q w v3 t.names) (hk : SKids Q w v t.kids) : SRep Q w t (.iface 95 (.agg #[v3, v])) := by
  obtain ⟨s, n, tx, ns, ks⟩ := t; obtain ⟨a, cap, rfl, hk⟩ := hk; rw [SRep]; exact Or.inr (Or.inr (Or.inr (Or.inr (Or.inl ⟨h, v3, a, cap, rfl, h3, hk⟩))))
theorem srep6 {Q : Nat → Prop} {w : World} {t : Tr} {v : Value} (h : t.sort = 6) (hk : SKids Q w v t.kids) : SRep Q w t (.iface 97 v) := by
  obtain ⟨s, n, tx, ns, ks⟩ := t; obtain ⟨a, cap, rfl, hk⟩ := hk; rw [SRep]; exact Or.inr (Or.inr (Or.inr (Or.inr (Or.inr ⟨h, a, cap, rfl, hk⟩))))

end Go.Proofs.YtgamonfmgngilaaGreatDoor

/- The text of a tree, as a plain function on data; trees all of whose parts are ok but for their count. No program, no conditions. -/

namespace Go.Proofs.YtgamonfmgngilaaGreatDoor
open Go Go.RowKit

/-- What stands ahead of kid i of a list or form. -/
def ahead (form : Bool) (ns : List ByteArray) (i : Nat) : List UInt8 :=
  (if 0 < i then [44] else []) ++ (if form then (ns.getD i ByteArray.empty).data.toList ++ [58] else [])

mutual
def txT : Tr → List UInt8
  | .mk s n tx ns ks =>
    if s = 1 then Lib.itoa n
    else if s = 2 then [34] ++ tx.data.toList ++ [34]
    else if s = 3 then (if n = 1 then [121, 101, 115] else [110, 111])
    else if s = 6 then (if ks.length = 0 then [126] else [63] ++ txM ks)
    else if s = 5 then [123] ++ txK true ns 0 ks ++ [125]
    else [91] ++ txK false ns 0 ks ++ [93]
def txM : List Tr → List UInt8
  | [] => []
  | t :: _ => txT t
def txK (form : Bool) (ns : List ByteArray) (i : Nat) : List Tr → List UInt8
  | [] => []
  | t :: r => ahead form ns i ++ txT t ++ txK form ns (i + 1) r
end

mutual
def okT : Tr → Bool
  | .mk s n tx ns ks => aloneB (.mk s n tx ns ks) && okK ks
def okK : List Tr → Bool
  | [] => true
  | t :: r => okT t && okK r
end

theorem okT_eq (t : Tr) : okT t = (aloneB t && okK t.kids) := by
  obtain ⟨s, n, tx, ns, ks⟩ := t; rw [okT]; rfl
theorem okK_get {ks : List Tr} (h : okK ks = true) (i : Nat) (hi : i < ks.length) : okT ks[i] = true := by
  induction ks generalizing i with
  | nil => simp at hi
  | cons t r ih =>
    rw [okK, Bool.and_eq_true] at h
    cases i with
    | zero => exact h.1
    | succ i => exact ih h.2 i (by simpa using hi)

theorem txT_eq (t : Tr) : txT t = if t.sort = 1 then Lib.itoa t.num
    else if t.sort = 2 then [34] ++ t.text.data.toList ++ [34]
    else if t.sort = 3 then (if t.num = 1 then [121, 101, 115] else [110, 111])
    else if t.sort = 6 then (if t.kids.length = 0 then [126] else [63] ++ txM t.kids)
    else if t.sort = 5 then [123] ++ txK true t.names 0 t.kids ++ [125]
    else [91] ++ txK false t.names 0 t.kids ++ [93] := by
  obtain ⟨s, n, tx, ns, ks⟩ := t; rw [txT]; rfl

theorem txM_get {ks : List Tr} (h : 0 < ks.length) : txM ks = txT ks[0] := by
  cases ks with
  | nil => simp at h
  | cons t r => rw [txM]; rfl

/-- The text of the first k kids. -/
def txTo (form : Bool) (ns : List ByteArray) (ks : List Tr) (k : Nat) : List UInt8 := txK form ns 0 (ks.take k)

theorem txK_snoc (form : Bool) (ns : List ByteArray) (i : Nat) (l : List Tr) (t : Tr) : txK form ns i (l ++ [t]) = txK form ns i l ++ (ahead form ns (i + l.length) ++ txT t) := by
  induction l generalizing i with
  | nil => simp [txK]
  | cons a r ih =>
    simp only [List.cons_append, txK, List.length_cons]
    rw [ih (i + 1), show i + 1 + r.length = i + (r.length + 1) from by omega]
    simp only [List.append_assoc]

theorem txTo_succ (form : Bool) (ns : List ByteArray) (ks : List Tr) (k : Nat) (hk : k < ks.length) : txTo form ns ks (k + 1) = txTo form ns ks k ++ (ahead form ns k ++ txT ks[k]) := by
  unfold txTo
  rw [List.take_succ_eq_append_getElem hk, txK_snoc]
  simp [Nat.min_eq_left (Nat.le_of_lt hk)]

theorem txTo_all (form : Bool) (ns : List ByteArray) (ks : List Tr) : txTo form ns ks ks.length = txK form ns 0 ks := by
  unfold txTo; rw [List.take_length]

theorem txTo_le (form : Bool) (ns : List ByteArray) (ks : List Tr) (k : Nat) (hk : k ≤ ks.length) : (txTo form ns ks k).length ≤ (txK form ns 0 ks).length := by
  rw [← txTo_all]
  have : ∀ m, k + m ≤ ks.length → (txTo form ns ks k).length ≤ (txTo form ns ks (k + m)).length := by
    intro m
    induction m with
    | zero => intro _; exact Nat.le_refl _
    | succ m ih =>
      intro h
      rw [show k + (m + 1) = k + m + 1 from by omega, txTo_succ _ _ _ _ (by omega), List.length_append]
      have := ih (by omega); omega
  have := this (ks.length - k) (by omega)
  rwa [show k + (ks.length - k) = ks.length from by omega] at this

end Go.Proofs.YtgamonfmgngilaaGreatDoor

/- The walks of the specification's reader, the small ones: look, eat, name, text, num. For texts of at most 2^20 bytes. -/

namespace Go.Proofs.YtgamonfmgngilaaGreatDoor
open Go Go.RowKit

/-- A reader of the specification lies in block R. -/
def Rdr (w : World) (R : Nat) (s : ByteArray) (at' : Nat) (bad : Bool) : Prop := w.rowIs R 63 3 (row3 (.string s) (.int .i64 at') (.bool bad))

theorem Rdr.cells {w : World} {R : Nat} {s : ByteArray} {at' : Nat} {bad : Bool} (h : Rdr w R s at' bad) :
    w.cell? ⟨R, 0, none⟩ = some (.string s) ∧ w.cell? ⟨R, 1, none⟩ = some (.int .i64 at') ∧ w.cell? ⟨R, 2, none⟩ = some (.bool bad) ∧ w.frozen? ⟨R, 1, none⟩ = false ∧ w.frozen? ⟨R, 2, none⟩ = false :=
  ⟨World.rowIs.cell h (by omega), World.rowIs.cell h (by omega), World.rowIs.cell h (by omega), World.rowIs.frozen h 1, World.rowIs.frozen h 2⟩
theorem Rdr.lt {w : World} {R : Nat} {s : ByteArray} {at' : Nat} {bad : Bool} (h : Rdr w R s at' bad) : R < w.heap.size := World.rowIs.lt h
theorem Rdr.below {w w' : World} {R : Nat} {s : ByteArray} {at' : Nat} {bad : Bool} (h : Rdr w R s at' bad) (hb : Below w.heap.size w w') : Rdr w' R s at' bad := World.rowIs.of_block h (hb.block R h.lt)
theorem Rdr.set1 {w : World} {R : Nat} {s : ByteArray} {at' : Nat} {bad : Bool} (h : Rdr w R s at' bad) (a : Nat) : Rdr (w.setCell ⟨R, 1, none⟩ (.int .i64 a)) R s a bad :=
  (World.rowIs.set h 1 _).congr fun i hi => by
    match i, hi with
    | 0, _ => rfl
    | 1, _ => rfl
    | 2, _ => rfl
theorem Rdr.set2 {w : World} {R : Nat} {s : ByteArray} {at' : Nat} {bad : Bool} (h : Rdr w R s at' bad) (b : Bool) : Rdr (w.setCell ⟨R, 2, none⟩ (.bool b)) R s at' b :=
  (World.rowIs.set h 2 _).congr fun i hi => by
    match i, hi with
    | 0, _ => rfl
    | 1, _ => rfl
    | 2, _ => rfl
theorem Rdr.drew {w : World} {R : Nat} {s : ByteArray} {at' : Nat} {bad : Bool} (h : Rdr w R s at' bad) : Rdr w.drew R s at' bad := h

/-- The byte at a place, 0 behind the end. -/
def bv (s : ByteArray) (i : Nat) : Nat := if h : i < s.size then s[i].toNat else 0

/-- What is still to be read. -/
def lf (s : ByteArray) (i : Nat) : List UInt8 := s.data.toList.drop i

theorem lf_cons {s : ByteArray} {i : Nat} (h : i < s.size) : lf s i = s[i] :: lf s (i + 1) := by
  unfold lf
  rw [List.drop_eq_getElem_cons (by simpa using h)]
  rfl
theorem lf_nil {s : ByteArray} {i : Nat} (h : s.size ≤ i) : lf s i = [] := by
  unfold lf; exact List.drop_eq_nil_of_le (by simpa using h)
theorem lf_len (s : ByteArray) (i : Nat) : (lf s i).length = s.size - i := by unfold lf; rw [List.length_drop]; rfl
theorem bv_head (s : ByteArray) (i : Nat) : ∀ c : UInt8, c ≠ 0 → ((lf s i).head? = some c ↔ bv s i = c.toNat) := by
  intro c hc
  unfold bv
  by_cases h : i < s.size
  · rw [lf_cons h, dif_pos h]
    simp only [List.head?_cons, Option.some.injEq]
    constructor
    · intro e; rw [e]
    · intro e; exact UInt8.toNat_inj.1 e
  · rw [lf_nil (by omega), dif_neg h]
    constructor
    · intro e; simp at e
    · intro e; exfalso; exact hc (UInt8.toNat_inj.1 e.symm)

theorem Rdr.drewN {w : World} {R : Nat} {s : ByteArray} {at' : Nat} {bad : Bool} (h : Rdr w R s at' bad) (n : Nat) : Rdr (w.drewN n) R s at' bad := h

set_option maxHeartbeats 400000 in
theorem look_any (w : World) (R : Nat) (s : ByteArray) (at' : Nat) (bad : Bool) (h : Rdr w R s at' bad) :
    Calls Tryz.prog 68 #[.pointer (some ⟨R, 0, none⟩)] w fun e w' => e = .returned (.int .u8 (bv s at')) ∧ ∃ m, w' = w.drewN m := by
  obtain ⟨c0, c1, c2, f1, f2⟩ := h.cells
  clear h
  by_cases hlt : at' < s.size
  · have hbv : bv s at' = s[at'].toNat := by unfold bv; rw [dif_pos hlt]
    rw [hbv]
    clear hbv
    go_enter Tryz.func68, Tryz.ntmps68
    go_wp2_with fail
    go_quiet (fail)
    go_wp2_with fail
    go_quiet (fail)
    go_wp2_with fail
    go_ret
    exact ⟨rfl, _, by rw [World.drewN_drewN]⟩
  · have hbv : bv s at' = 0 := by unfold bv; rw [dif_neg hlt]
    rw [hbv]
    clear hbv
    go_enter Tryz.func68, Tryz.ntmps68
    go_wp2_with fail
    go_quiet (fail)
    go_wp2_with fail
    go_ret
    exact ⟨rfl, _, rfl⟩

theorem toList_loop (s : ByteArray) (n : Nat) : ∀ (i : Nat) (r : List UInt8), s.size - i = n → ByteArray.toList.loop s i r = r.reverse ++ s.data.toList.drop i := by
  induction n with
  | zero =>
    intro i r h
    unfold ByteArray.toList.loop
    rw [if_neg (by omega), List.drop_eq_nil_of_le (by simp only [Array.length_toList]; show s.size ≤ i; omega), List.append_nil]
  | succ n ih =>
    intro i r h
    unfold ByteArray.toList.loop
    have hi : i < s.size := by omega
    have e : s.get! i = s.data.toList[i]'(by simpa using hi) := by
      obtain ⟨d⟩ := s
      exact getElem!_pos d i hi
    have hdrop : s.data.toList.drop i = s.data.toList[i]'(by simpa using hi) :: s.data.toList.drop (i + 1) := List.drop_eq_getElem_cons (by simpa using hi)
    rw [if_pos hi, ih (i + 1) _ (by omega), hdrop, e, List.reverse_cons, List.append_assoc]
    rfl
theorem toList_data (s : ByteArray) : s.toList = s.data.toList := by
  have := toList_loop s s.size 0 [] (by omega)
  rw [List.drop_zero] at this
  exact this
theorem toList_beq (a b : ByteArray) : (a.toList == b.toList) = decide (a = b) := by
  rw [toList_data, toList_data, Bool.eq_iff_iff]
  simp only [beq_iff_eq, decide_eq_true_eq]
  constructor
  · intro h; exact ByteArray.ext (Array.toList_inj.1 h)
  · intro h; rw [h]

/-- A word stands at a place. -/
def pre (wd : ByteArray) (s : ByteArray) (i : Nat) : Bool := wd.data.toList.isPrefixOf (lf s i)

theorem pre_iff {wd s : ByteArray} {i : Nat} (h0 : 0 < wd.size) : pre wd s i = true ↔ (i + wd.size ≤ s.size ∧ s.extract i (i + wd.size) = wd) := by
  unfold pre
  rw [List.isPrefixOf_iff_prefix, List.prefix_iff_eq_take]
  have hl : wd.data.toList.length = wd.size := rfl
  have he : (s.extract i (i + wd.size)).data.toList = (lf s i).take wd.size := by
    unfold lf
    simp [List.take_drop]
  rw [hl]
  constructor
  · intro h
    have h2 := congrArg List.length h
    rw [List.length_take, lf_len, hl] at h2
    refine ⟨by omega, ?_⟩
    apply ByteArray.ext
    apply Array.toList_inj.1
    rw [he, ← h]
  · rintro ⟨h1, h2⟩
    rw [← he, h2]

theorem lf_after {wd s : ByteArray} {i : Nat} : lf s (i + wd.size) = (lf s i).drop wd.size := by
  unfold lf; rw [List.drop_drop]

theorem but_drewN {B : Nat} {w w' : World} (h : But B w w') (n : Nat) : But B w (w'.drewN n) := ⟨h.os, h.tape, h.output, h.size, h.block⟩

set_option maxHeartbeats 800000 in
theorem eat_yes (w : World) (R : Nat) (s wd : ByteArray) (at' : Nat) (bad : Bool) (hs : s.size ≤ 1048576) (h : Rdr w R s at' bad) (ha : at' ≤ 2097152) (hw0 : 0 < wd.size) (hw : wd.size ≤ 16) (hp : pre wd s at' = true) :
    Calls Tryz.prog 37 #[.pointer (some ⟨R, 0, none⟩), .string wd] w fun e w' => e = .returned (.tuple #[]) ∧ Rdr w' R s (at' + wd.size) bad ∧ But R w w' := by
  obtain ⟨c0, c1, c2, f1, f2⟩ := h.cells
  obtain ⟨h1, h2⟩ := (pre_iff hw0).1 hp
  have H := hide h
  have hd : decide ((s.size : Int) < (at' : Int) + (wd.size : Int)) = false := by simp; omega
  have hi0 : (0 : Int) ≤ (at' : Int) := by omega
  have hi1 : (at' : Int) ≤ (at' : Int) + (wd.size : Int) := by omega
  have hi2 : (at' : Int) + (wd.size : Int) ≤ (s.size : Int) := by omega
  clear h hp
  go_enter Tryz.func37, Tryz.ntmps37
  go_wp2_with fail
  go_quiet (fail)
  go_wp2_with fail
  go_end0
  exact ⟨rfl, (H.out.drewN _).set1 _, (but_drewN (But.refl _ _) _).trans (But.set _ _ _)⟩

set_option maxHeartbeats 800000 in
theorem eat_no (w : World) (R : Nat) (s wd : ByteArray) (at' : Nat) (bad : Bool) (hs : s.size ≤ 1048576) (h : Rdr w R s at' bad) (ha : at' ≤ 2097152) (hw0 : 0 < wd.size) (hw : wd.size ≤ 16) (hp : pre wd s at' = false) :
    Calls Tryz.prog 37 #[.pointer (some ⟨R, 0, none⟩), .string wd] w fun e w' => e = .returned (.tuple #[]) ∧ Rdr w' R s at' true ∧ But R w w' := by
  obtain ⟨c0, c1, c2, f1, f2⟩ := h.cells
  have H := hide h
  clear h
  by_cases h1 : at' + wd.size ≤ s.size
  · have h2 : ¬ s.extract at' (at' + wd.size) = wd := fun e => by rw [(pre_iff hw0).2 ⟨h1, e⟩] at hp; cases hp
    have hd : decide ((s.size : Int) < (at' : Int) + (wd.size : Int)) = false := by simp; omega
    have hi0 : (0 : Int) ≤ (at' : Int) := by omega
    have hi1 : (at' : Int) ≤ (at' : Int) + (wd.size : Int) := by omega
    have hi2 : (at' : Int) + (wd.size : Int) ≤ (s.size : Int) := by omega
    have hbe : ((s.extract at' (at' + wd.size)).toList == wd.toList) = false := by rw [toList_beq]; simpa using h2
    clear hp h2
    go_enter Tryz.func37, Tryz.ntmps37
    go_wp2_with fail
    go_quiet (fail)
    go_wp2_with fail
    (try simp only [Exit.inBlock, Exit.then]); refine bodyPost_ret (results_none rfl _ _ _) rfl ?_
    exact ⟨rfl, (H.out.drewN _).set2 _, (but_drewN (But.refl _ _) _).trans (But.set _ _ _)⟩
  · have hd : decide ((s.size : Int) < (at' : Int) + (wd.size : Int)) = true := by simp; omega
    clear hp
    go_enter Tryz.func37, Tryz.ntmps37
    go_wp2_with fail
    go_quiet (fail)
    go_wp2_with fail
    (try simp only [Exit.inBlock, Exit.then]); refine bodyPost_ret (results_none rfl _ _ _) rfl ?_
    exact ⟨rfl, (H.out.drewN _).set2 _, (but_drewN (But.refl _ _) _).trans (But.set _ _ _)⟩
end Go.Proofs.YtgamonfmgngilaaGreatDoor

/- The walks of the specification's reader, further: name. For texts of at most 2^20 bytes. -/

namespace Go.Proofs.YtgamonfmgngilaaGreatDoor
open Go Go.RowKit

/-- How many bytes from a place on are such. -/
def rn (p : UInt8 → Bool) (s : ByteArray) (i : Nat) : Nat := ((lf s i).takeWhile p).length

theorem rn_step {p : UInt8 → Bool} {s : ByteArray} {i : Nat} (h : i < s.size) (hp : p s[i] = true) : rn p s i = rn p s (i + 1) + 1 := by
  unfold rn; rw [lf_cons h]; simp [hp]
theorem rn_stop {p : UInt8 → Bool} {s : ByteArray} {i : Nat} (h : i < s.size) (hp : p s[i] = false) : rn p s i = 0 := by
  unfold rn; rw [lf_cons h]; simp [hp]
theorem rn_end {p : UInt8 → Bool} {s : ByteArray} {i : Nat} (h : s.size ≤ i) : rn p s i = 0 := by
  unfold rn; rw [lf_nil h]; simp
theorem rn_le (p : UInt8 → Bool) (s : ByteArray) (i : Nat) (h : i ≤ s.size) : i + rn p s i ≤ s.size := by
  unfold rn
  have := (List.takeWhile_prefix (p := p) (l := lf s i)).length_le
  rw [lf_len] at this
  omega
theorem rn_take (p : UInt8 → Bool) (s : ByteArray) (i : Nat) : s.extract i (i + rn p s i) = ⟨((lf s i).takeWhile p).toArray⟩ := by
  apply ByteArray.ext
  apply Array.toList_inj.1
  have h1 : (s.extract i (i + rn p s i)).data.toList = (lf s i).take (rn p s i) := by unfold lf; simp [List.take_drop]
  rw [h1]
  unfold rn
  exact (List.prefix_iff_eq_take.1 (List.takeWhile_prefix p)).symm
theorem rn_drop (p : UInt8 → Bool) (s : ByteArray) (i : Nat) : lf s (i + rn p s i) = (lf s i).dropWhile p := by
  have h1 : lf s (i + rn p s i) = (lf s i).drop (rn p s i) := by unfold lf; rw [List.drop_drop]
  rw [h1]
  unfold rn
  generalize lf s i = l
  have := List.takeWhile_append_dropWhile (p := p) (l := l)
  conv => lhs; arg 2; rw [← this]
  rw [List.drop_left]

theorem Rdr.heap {w w' : World} {R : Nat} {s : ByteArray} {a : Nat} {bad : Bool} (h : Rdr w R s a bad) (e : w'.heap = w.heap) : Rdr w' R s a bad := World.rowIs.of_block h (by rw [e])
theorem but_heap {B : Nat} {w w' : World} (n : Nat) (h : But B w w') : But B w (w'.drewN n) := but_drewN h n

/-- The place of a reader, off its block. -/
def atOf (w : World) (R : Nat) : Nat := (intOf ((w.cell? ⟨R, 1, none⟩).getD undef)).toNat
theorem Rdr.atOf {w : World} {R : Nat} {s : ByteArray} {a : Nat} {bad : Bool} (h : Rdr w R s a bad) : atOf w R = a := by
  unfold Go.Proofs.YtgamonfmgngilaaGreatDoor.atOf; rw [h.cells.2.1]; simp [intOf]

theorem Rdr.meas {w : World} {R : Nat} {s : ByteArray} {a : Nat} {bad : Bool} (h : Rdr w R s a bad) {n : Nat} (h2 : a ≤ s.size) (h3 : n < a) : s.size - Go.Proofs.YtgamonfmgngilaaGreatDoor.atOf w R < s.size - n := by
  rw [h.atOf]; omega

set_option maxHeartbeats 800000 in
theorem name_any (w : World) (R : Nat) (s : ByteArray) (at' : Nat) (bad : Bool) (hs : s.size ≤ 1048576) (h : Rdr w R s at' bad) (ha : at' ≤ s.size) :
    Calls Tryz.prog 36 #[.pointer (some ⟨R, 0, none⟩)] w fun e w' => e = .returned (.string ⟨((lf s at').takeWhile nameByte).toArray⟩) ∧ Rdr w' R s (at' + rn nameByte s at') bad ∧ But R w w' := by
  have H := hide h
  obtain ⟨c0, c1, c2, f1, f2⟩ := h.cells
  rw [← rn_take]
  have hle := rn_le nameByte s at' ha
  generalize hr : rn nameByte s at' = r at *
  have HR := hide hr
  have hi0 : (0 : Int) ≤ (at' : Int) := by omega
  have hi1 : (at' : Int) ≤ (at' : Int) + (r : Int) := by omega
  have hi2 : (at' : Int) + (r : Int) ≤ (s.size : Int) := by omega
  clear h hr
  go_enter Tryz.func36, Tryz.ntmps36
  go_wp2_with fail
  go_loopw [] (fun wr => ∃ (j : Nat), at' ≤ j ∧ j ≤ s.size ∧ Hid (j + rn nameByte s j = at' + r) ∧ Hid (Rdr wr R s j bad) ∧ But R w wr) (fun wr => s.size - atOf wr R)
  case atStart => exact ⟨at', Nat.le_refl _, ha, hide (by show _ = _; rw [HR.out]), H, But.refl _ _⟩
  case round =>
    obtain ⟨j, hj0, hj1, HJ, HRj, hb⟩ := hrel
    obtain ⟨y0, y1, y2, g1, g2⟩ := HRj.out.cells
    have hat := HRj.out.atOf
    have HLK := hide (fun W (hW : W.heap = wr.heap) => look_any W R s j bad (HRj.out.heap hW))
    have hv : (97 ≤ bv s j ∧ bv s j ≤ 122) ∨ 122 < bv s j ∨ (57 < bv s j ∧ bv s j < 97) ∨ (48 ≤ bv s j ∧ bv s j ≤ 57) ∨ bv s j < 48 := by omega
    have hgo : (97 ≤ bv s j ∧ bv s j ≤ 122) ∨ (48 ≤ bv s j ∧ bv s j ≤ 57) → j < s.size ∧ j + 1 + rn nameByte s (j + 1) = at' + r := fun hh => by
      have hlt : j < s.size := by
        by_cases hl : j < s.size
        · exact hl
        · unfold bv at hh; rw [dif_neg hl] at hh; omega
      have hb2 : bv s j = s[j].toNat := by unfold bv; rw [dif_pos hlt]
      rw [hb2] at hh
      have := rn_step (p := nameByte) hlt (nameByte_yes hh)
      have := HJ.out
      exact ⟨hlt, by omega⟩
    have hend : ¬ ((97 ≤ bv s j ∧ bv s j ≤ 122) ∨ (48 ≤ bv s j ∧ bv s j ≤ 57)) → j = at' + r := fun hh => by
      have := HJ.out
      by_cases hlt : j < s.size
      · have hb2 : bv s j = s[j].toNat := by unfold bv; rw [dif_pos hlt]
        rw [hb2] at hh
        have := rn_stop (p := nameByte) hlt (nameByte_no (by omega))
        omega
      · have := rn_end (p := nameByte) (s := s) (i := j) (by omega)
        omega
    have HGO := hide hgo; have HEND := hide hend
    generalize bv s j = v at *
    clear hgo hend HR H
    rcases hv with hv | hv | hv | hv | hv
    · obtain ⟨hlt, hjn⟩ := HGO.out (Or.inl hv)
      have HJN := hide hjn
      obtain ⟨hv1, hv2⟩ := hv
      clear hjn HGO HEND
      go_wp2_with (go_at_call 68; refine (unhide HLK _ (by rfl)).mono ?_; rintro e w' ⟨rfl, m, rfl⟩)
      go_roundw
      case rel => exact ⟨j + 1, by omega, by omega, HJN, hide ((HRj.out.heap rfl).set1 _), (but_drewN hb _).trans (But.set _ _ _)⟩
      case measure => rw [hat]; exact Rdr.meas ((HRj.out.heap rfl).set1 (j + 1)) (by omega) (by omega)
    · have he := HEND.out (by omega)
      have hv2 : 97 ≤ v := by omega
      have hv3 : 48 ≤ v := by omega
      have hv4 : 57 < v := by omega
      subst he
      clear HGO HEND
      go_wp2_with (go_at_call 68; refine (unhide HLK _ (by rfl)).mono ?_; rintro e w' ⟨rfl, m, rfl⟩)
      go_quiet (fail)
      go_wp2_with fail
      go_ret
      exact ⟨rfl, HRj.out.heap rfl, but_drewN (but_drewN hb _) _⟩
    · have he := HEND.out (by omega)
      have hv2 : v < 97 := by omega
      have hv3 : 48 ≤ v := by omega
      have hv4 : 57 < v := by omega
      subst he
      clear HGO HEND hv
      go_wp2_with (go_at_call 68; refine (unhide HLK _ (by rfl)).mono ?_; rintro e w' ⟨rfl, m, rfl⟩)
      go_quiet (fail)
      go_wp2_with fail
      go_ret
      exact ⟨rfl, HRj.out.heap rfl, but_drewN (but_drewN hb _) _⟩
    · obtain ⟨hlt, hjn⟩ := HGO.out (Or.inr hv)
      have HJN := hide hjn
      obtain ⟨hv1, hv2⟩ := hv
      have hv3 : v < 97 := by omega
      clear hjn HGO HEND
      go_wp2_with (go_at_call 68; refine (unhide HLK _ (by rfl)).mono ?_; rintro e w' ⟨rfl, m, rfl⟩)
      go_roundw
      case rel => exact ⟨j + 1, by omega, by omega, HJN, hide ((HRj.out.heap rfl).set1 _), (but_drewN hb _).trans (But.set _ _ _)⟩
      case measure => rw [hat]; exact Rdr.meas ((HRj.out.heap rfl).set1 (j + 1)) (by omega) (by omega)
    · have he := HEND.out (by omega)
      have hv2 : v < 97 := by omega
      subst he
      clear HGO HEND
      go_wp2_with (go_at_call 68; refine (unhide HLK _ (by rfl)).mono ?_; rintro e w' ⟨rfl, m, rfl⟩)
      go_quiet (fail)
      go_wp2_with fail
      go_ret
      exact ⟨rfl, HRj.out.heap rfl, but_drewN (but_drewN hb _) _⟩

def w1 (c : UInt8) : ByteArray := ⟨#[c]⟩
theorem pre_one (c : UInt8) (s : ByteArray) (i : Nat) : pre (w1 c) s i = decide ((lf s i).head? = some c) := by
  unfold pre w1
  cases lf s i with
  | nil => rfl
  | cons a r => simp [List.isPrefixOf, eq_comm, Bool.beq_eq_decide_eq]
theorem lf_next (s : ByteArray) (i : Nat) : lf s (i + 1) = (lf s i).tail := by
  unfold lf; rw [← List.drop_drop]; simp
theorem pre_room {wd s : ByteArray} {i : Nat} (h0 : 0 < wd.size) (h : pre wd s i = true) : i + wd.size ≤ s.size := ((pre_iff h0).1 h).1
end Go.Proofs.YtgamonfmgngilaaGreatDoor
