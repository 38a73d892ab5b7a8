/- The walks of the program's newNumTree, newTextTree, newListTree, newMaybeTree, newFormTree, enter and leave: what they answer, or that they raise a fault. No conditions. -/
import Derived.Test.YtbigchdhpdgicaaDoorPart07
import Derived.Test.YtbigchdhpdgicaaDoorPart04
namespace Go.Proofs.YtbigchdhpdgicaaDoor
open Go Go.RowKit

set_option maxHeartbeats 400000 in
theorem newNum_yes (n : Int) (w : World) (h : -999999999 ≤ n ∧ n ≤ 999999999) : Calls Tryd.prog 75 #[.int .i64 n] w fun e w' => e = .returned (.int .i64 n) ∧ w' = w := by
  obtain ⟨h1, h2⟩ := h
  have d2 : decide (n ≤ 999999999) = true := by simp; omega
  go_enter Tryd.func75, Tryd.ntmps75
  go_wp2_with (go_at_call 69; refine (treeWant_yes _).mono ?_; rintro e w' ⟨rfl, rfl⟩)
  go_ret
  exact ⟨rfl, rfl⟩

set_option maxHeartbeats 400000 in
theorem newNum_no (n : Int) (w : World) (h : ¬ (-999999999 ≤ n ∧ n ≤ 999999999)) : Calls Tryd.prog 75 #[.int .i64 n] w fun e w' => e = fltE ∧ w' = w := by
  have h' : n < -999999999 ∨ 999999999 < n := by omega
  clear h
  rcases h' with h | h
  · go_enter Tryd.func75, Tryd.ntmps75
    go_wp2_with (go_at_call 69; refine (treeWant_no _).mono ?_; rintro e w' ⟨rfl, rfl⟩)
    exact ⟨rfl, rfl, rfl⟩
  · have d2 : decide (n ≤ 999999999) = false := by simp; omega
    go_enter Tryd.func75, Tryd.ntmps75
    go_wp2_with (go_at_call 69; refine (treeWant_no _).mono ?_; rintro e w' ⟨rfl, rfl⟩)
    exact ⟨rfl, rfl, rfl⟩

set_option maxHeartbeats 400000 in
theorem newList_yes (a : Option Addr) (n cap : Nat) (w : World) (h : n ≤ 20) : Calls Tryd.prog 78 #[.slice a n cap] w fun e w' => e = .returned (.slice a n cap) ∧ w' = w := by
  have d : decide ((n : Int) ≤ 20) = true := by simp; omega
  go_enter Tryd.func78, Tryd.ntmps78
  go_wp2_with (go_at_call 69; refine (treeWant_yes _).mono ?_; rintro e w' ⟨rfl, rfl⟩)
  go_ret
  exact ⟨rfl, rfl⟩

set_option maxHeartbeats 400000 in
theorem newList_no (a : Option Addr) (n cap : Nat) (w : World) (h : ¬ n ≤ 20) : Calls Tryd.prog 78 #[.slice a n cap] w fun e w' => e = fltE ∧ w' = w := by
  have d : decide ((n : Int) ≤ 20) = false := by simp; omega
  go_enter Tryd.func78, Tryd.ntmps78
  go_wp2_with (go_at_call 69; refine (treeWant_no _).mono ?_; rintro e w' ⟨rfl, rfl⟩)
  exact ⟨rfl, rfl, rfl⟩

set_option maxHeartbeats 400000 in
theorem newMaybe_yes (a : Option Addr) (n cap : Nat) (w : World) (h : n ≤ 1) : Calls Tryd.prog 81 #[.slice a n cap] w fun e w' => e = .returned (.slice a n cap) ∧ w' = w := by
  have d : decide ((n : Int) ≤ 1) = true := by simp; omega
  go_enter Tryd.func81, Tryd.ntmps81
  go_wp2_with (go_at_call 69; refine (treeWant_yes _).mono ?_; rintro e w' ⟨rfl, rfl⟩)
  go_ret
  exact ⟨rfl, rfl⟩

set_option maxHeartbeats 400000 in
theorem newMaybe_no (a : Option Addr) (n cap : Nat) (w : World) (h : ¬ n ≤ 1) : Calls Tryd.prog 81 #[.slice a n cap] w fun e w' => e = fltE ∧ w' = w := by
  have d : decide ((n : Int) ≤ 1) = false := by simp; omega
  go_enter Tryd.func81, Tryd.ntmps81
  go_wp2_with (go_at_call 69; refine (treeWant_no _).mono ?_; rintro e w' ⟨rfl, rfl⟩)
  exact ⟨rfl, rfl, rfl⟩

set_option maxHeartbeats 400000 in
theorem newText_any (s : ByteArray) (w : World) (hs : s.size ≤ 9223372036854775807) :
    Calls Tryd.prog 76 #[.string s] w fun e w' => (textOkB s = true ∧ e = .returned (.string s) ∨ textOkB s = false ∧ e = fltE) ∧ w' = w := by
  by_cases h60 : s.size ≤ 60
  · have d : decide ((s.size : Int) ≤ 60) = true := by simp; omega
    go_enter Tryd.func76, Tryd.ntmps76
    go_wp2_with (go_at_call 69; refine (treeWant_yes _).mono ?_; rintro e w' ⟨rfl, rfl⟩)
    go_loop [10] (fun i => ∃ k : Nat, k ≤ s.size ∧ i = .int .i64 k ∧ Hid (allTo textByte s k)) (fun i => s.size - (intOf i).toNat)
    case atStart => exact ⟨0, Nat.zero_le _, rfl, fun j hj => by omega⟩
    case round =>
      obtain ⟨k, hk, rfl, HA⟩ := hrel
      by_cases hlt : k < s.size
      · have hc : s[k].toNat < 32 ∨ 126 < s[k].toNat ∨ s[k].toNat = 34 ∨ (32 ≤ s[k].toNat ∧ s[k].toNat ≤ 126 ∧ s[k].toNat ≠ 34) := by omega
        rcases hc with hc | hc | hc | hc
        · have HN := hide (textOk_not hlt (textByte_no (Or.inl hc)))
          go_wp2_with (go_at_call 69; refine (treeWant_no _).mono ?_; rintro e w' ⟨rfl, rfl⟩)
          exact ⟨rfl, Or.inr ⟨unhide HN, rfl⟩, rfl⟩
        · have HN := hide (textOk_not hlt (textByte_no (Or.inr (Or.inl hc))))
          have d1 : decide ((32 : Int) ≤ s[k].toNat) = true := by simp; omega
          have d2 : decide ((s[k].toNat : Int) ≤ 126) = false := by simp; omega
          go_wp2_with (go_at_call 69; refine (treeWant_no _).mono ?_; rintro e w' ⟨rfl, rfl⟩)
          exact ⟨rfl, Or.inr ⟨unhide HN, rfl⟩, rfl⟩
        · have HN := hide (textOk_not hlt (textByte_no (Or.inr (Or.inr hc))))
          have d1 : decide ((32 : Int) ≤ s[k].toNat) = true := by simp; omega
          have d2 : decide ((s[k].toNat : Int) ≤ 126) = true := by simp; omega
          have d3 : ((s[k].toNat : Int) != 34) = false := by simp; omega
          clear hc
          go_wp2_with (go_at_call 69; refine (treeWant_no _).mono ?_; rintro e w' ⟨rfl, rfl⟩)
          exact ⟨rfl, Or.inr ⟨unhide HN, rfl⟩, rfl⟩
        · have HN := hide (allTo_succ HA.out hlt (textByte_yes hc))
          obtain ⟨hc1, hc2, hc3⟩ := hc
          have d1 : decide ((32 : Int) ≤ s[k].toNat) = true := by simp; omega
          have d2 : decide ((s[k].toNat : Int) ≤ 126) = true := by simp; omega
          have d3 : ((s[k].toNat : Int) != 34) = true := by simp; omega
          go_wp2_with (go_at_call 69; refine (treeWant_yes _).mono ?_; rintro e w' ⟨rfl, rfl⟩)
          go_round
          case rel => exact ⟨k + 1, by omega, by go_num, HN⟩
          case measure => simp [intOf]; omega
      · go_wp2_with fail
        go_ret
        obtain rfl : k = s.size := by omega
        exact ⟨Or.inl ⟨textOk_yes h60 HA.out, rfl⟩, rfl⟩
  · have HN : Hid (textOkB s = false) := by show _ = _; unfold textOkB; rw [decide_eq_false h60]; rfl
    have d : decide ((s.size : Int) ≤ 60) = false := by simp; omega
    go_enter Tryd.func76, Tryd.ntmps76
    go_wp2_with (go_at_call 69; refine (treeWant_no _).mono ?_; rintro e w' ⟨rfl, rfl⟩)
    exact ⟨rfl, Or.inr ⟨unhide HN, rfl⟩, rfl⟩

/-- What the bounds of a sorter or reader hold. -/
structure Bnd (w : World) (B : Nat) (p l : Int) : Prop where
  c0 : w.cell? ⟨B, 0, none⟩ = some (.int .i64 p)
  c1 : w.cell? ⟨B, 1, none⟩ = some (.int .i64 l)
  f0 : w.frozen? ⟨B, 0, none⟩ = false
  f1 : w.frozen? ⟨B, 1, none⟩ = false

theorem Bnd.lt {w : World} {B : Nat} {p l : Int} (h : Bnd w B p l) : B < w.heap.size := World.block_lt_of_cell? w _ h.c0
theorem Bnd.of_block {w w' : World} {B : Nat} {p l : Int} (h : Bnd w B p l) (e : w'.heap[B]? = w.heap[B]?) : Bnd w' B p l :=
  ⟨by rw [World.cell?_of_block (w := w) e]; exact h.c0, by rw [World.cell?_of_block (w := w) e]; exact h.c1, by rw [World.frozen?_of_block (w := w) e]; exact h.f0, by rw [World.frozen?_of_block (w := w) e]; exact h.f1⟩

set_option maxHeartbeats 400000 in
theorem enter_yes (B : Nat) (p l : Int) (w : World) (hB : Bnd w B p l) (hp : 0 ≤ p) (hl : 0 ≤ l) (h1 : p + 1 ≤ 120) (h2 : l + 1 ≤ 6) :
    Calls Tryd.prog 71 #[.pointer (some ⟨B, 0, none⟩)] w fun e w' => e = .returned (.tuple #[]) ∧ w' = (w.setCell ⟨B, 0, none⟩ (.int .i64 (p + 1))).setCell ⟨B, 1, none⟩ (.int .i64 (l + 1)) := by
  obtain ⟨c0, c1, f0, f1⟩ := hB
  have d1 : decide (p + 1 ≤ 120) = true := by simp; omega
  have d2 : decide (l + 1 ≤ 6) = true := by simp; omega
  go_enter Tryd.func71, Tryd.ntmps71
  go_wp2_with (go_at_call 69; refine (treeWant_yes _).mono ?_; rintro e w' ⟨rfl, rfl⟩)
  go_end0
  exact ⟨rfl, rfl⟩

set_option maxHeartbeats 400000 in
theorem enter_no (B : Nat) (p l : Int) (w : World) (hB : Bnd w B p l) (hp : 0 ≤ p) (hl : 0 ≤ l) (hp1 : p ≤ 120) (hl1 : l ≤ 6) (h : ¬ (p + 1 ≤ 120 ∧ l + 1 ≤ 6)) :
    Calls Tryd.prog 71 #[.pointer (some ⟨B, 0, none⟩)] w fun e w' => e = fltE ∧ w' = (w.setCell ⟨B, 0, none⟩ (.int .i64 (p + 1))).setCell ⟨B, 1, none⟩ (.int .i64 (l + 1)) := by
  obtain ⟨c0, c1, f0, f1⟩ := hB
  by_cases h1 : p + 1 ≤ 120
  · have d1 : decide (p + 1 ≤ 120) = true := by simp; omega
    have d2 : decide (l + 1 ≤ 6) = false := by simp; omega
    clear h
    go_enter Tryd.func71, Tryd.ntmps71
    go_wp2_with (go_at_call 69; refine (treeWant_no _).mono ?_; rintro e w' ⟨rfl, rfl⟩)
    exact ⟨rfl, rfl, rfl⟩
  · have d1 : decide (p + 1 ≤ 120) = false := by simp; omega
    clear h
    go_enter Tryd.func71, Tryd.ntmps71
    go_wp2_with (go_at_call 69; refine (treeWant_no _).mono ?_; rintro e w' ⟨rfl, rfl⟩)
    exact ⟨rfl, rfl, rfl⟩

set_option maxHeartbeats 400000 in
theorem leave_any (B : Nat) (p l : Int) (w : World) (hB : Bnd w B p l) (hl : 0 ≤ l) (hl1 : l ≤ 10) :
    Calls Tryd.prog 74 #[.pointer (some ⟨B, 0, none⟩)] w fun e w' => e = .returned (.tuple #[]) ∧ w' = w.setCell ⟨B, 1, none⟩ (.int .i64 (l - 1)) := by
  obtain ⟨c0, c1, f0, f1⟩ := hB
  go_enter Tryd.func74, Tryd.ntmps74
  go_wp2_with fail
  go_end0
  exact ⟨rfl, rfl⟩

set_option maxHeartbeats 400000 in
theorem newForm_any (v : Value) (ss : List ByteArray) (a : Option Addr) (n cap : Nat) (w : World) {P : Nat → Prop} (hP : ∀ b, P b → b < w.heap.size) (hv : StrsAt P w v ss) :
    Calls Tryd.prog 80 #[v, .slice a n cap] w fun e w' => ((ss.length = n ∧ riseB ss = true) ∧ e = .returned (.agg #[v, .slice a n cap]) ∨ ¬ (ss.length = n ∧ riseB ss = true) ∧ e = fltE) ∧ Below w.heap.size w w' := by
  have hbx : ∀ o, Below w.heap.size w (w.alloc o) := fun o => (Below.refl _ _).alloc (Nat.le_refl _) o
  have hasc : ∀ o, Calls Tryd.prog 82 #[v] (w.alloc o) fun e w' => e = .returned (.bool (riseB ss)) ∧ w' = w.alloc o := fun o =>
    namesAscend_any v ss (w.alloc o) (P := P) (fun b hb => Nat.lt_of_lt_of_le (hP b hb) (hbx o).size) (hv.carry (fun b hb => (hbx o).block b (hP b hb)) (fun _ h => h))
  have HA := hide hasc; have HBX := hide hbx
  obtain ⟨a3, cap3, rfl, hlen, -⟩ := hv
  clear hasc hbx hP
  by_cases hnl : ss.length = n
  · have d : ((ss.length : Int) == (n : Int)) = true := by simp; omega
    have HNL := hide hnl; clear hnl
    cases hr : riseB ss
    · rw [hr] at HA
      go_enter Tryd.func80, Tryd.ntmps80
      go_wp2_with (first | (go_at_call 82; refine (unhide HA _).mono ?_; rintro e w' ⟨rfl, rfl⟩) | (go_at_call 69; refine (treeWant_no _).mono ?_; rintro e w' ⟨rfl, rfl⟩))
      exact ⟨rfl, Or.inr ⟨fun h => Bool.false_ne_true h.2, rfl⟩, unhide HBX _⟩
    · rw [hr] at HA
      go_enter Tryd.func80, Tryd.ntmps80
      go_wp2_with (first | (go_at_call 82; refine (unhide HA _).mono ?_; rintro e w' ⟨rfl, rfl⟩) | (go_at_call 69; refine (treeWant_yes _).mono ?_; rintro e w' ⟨rfl, rfl⟩))
      refine bodyPost_ret (v := .agg #[.slice a3 ss.length cap3, .slice a n cap]) (by simp [results, Tryd.results80, go_sem]) rfl ⟨Or.inl ⟨⟨unhide HNL, by simp⟩, rfl⟩, unhide HBX _⟩
  · have d : ((ss.length : Int) == (n : Int)) = false := by simp; omega
    have HNL := hide hnl; clear hnl
    go_enter Tryd.func80, Tryd.ntmps80
    go_wp2_with (go_at_call 69; refine (treeWant_no _).mono ?_; rintro e w' ⟨rfl, rfl⟩)
    exact ⟨rfl, Or.inr ⟨fun h => unhide HNL h.1, rfl⟩, unhide HBX _⟩
end Go.Proofs.YtbigchdhpdgicaaDoor

/- What the program's sorter does, as a plain function on data, and that it counts as the specification counts. No program, no conditions. -/

namespace Go.Proofs.YtbigchdhpdgicaaDoor
open Go Go.RowKit

mutual
/-- The parts behind a tree, those ahead of it being p, at the level l; none, if a fault is raised. -/
def wlk : Tr → Int → Int → Option Int
  | .mk s n tx ns ks, p, l =>
    if p + 1 ≤ 120 ∧ l + 1 ≤ 6 then
      if ownB (.mk s n tx ns ks) = true then
        match wlkK ks (p + 1) (l + 1) with
        | none => none
        | some q => if newB (.mk s n tx ns ks) = true then some q else none
      else none
    else none
def wlkK : List Tr → Int → Int → Option Int
  | [], p, _ => some p
  | t :: r, p, l => match wlk t p l with
    | none => none
    | some q => wlkK r q l
end

theorem wlk_eq (t : Tr) (p l : Int) : wlk t p l = if p + 1 ≤ 120 ∧ l + 1 ≤ 6 then
      if ownB t = true then
        match wlkK t.kids (p + 1) (l + 1) with
        | none => none
        | some q => if newB t = true then some q else none
      else none
    else none := by
  obtain ⟨s, n, tx, ns, ks⟩ := t
  rw [wlk]; rfl

/-- What a count comes to, so much being ahead of it. -/
def onto (p k : Int) : Option Int := if k < 0 ∨ 120 < p + k then none else some (p + k)

mutual
theorem wlk_is : ∀ (t : Tr) (p l : Int), 0 ≤ p → p ≤ 120 → wlk t p l = onto p (pT t (l + 1))
  | .mk s n tx ns ks, p, l => by
    intro hp hp1
    rw [wlk, pT]
    by_cases h : p + 1 ≤ 120 ∧ l + 1 ≤ 6
    · rw [if_pos h]
      rw [alone_eq]
      by_cases ho : ownB (.mk s n tx ns ks) = true
      · rw [if_pos ho, ho, wlkK_is ks (p + 1) (l + 1) 1 (by omega) (by omega) (by omega)]
        have hbd := pK_bd ks (l + 1) 1 (by omega) (by omega)
        generalize pK ks (l + 1) 1 = r at hbd
        by_cases hn : newB (.mk s n tx ns ks) = true
        · rw [hn]
          simp only [Bool.and_self, Bool.true_eq_false, or_false]
          rw [if_neg (by omega)]
          unfold onto
          by_cases hx : r < 0 ∨ 120 < p + r
          · rw [if_pos (by omega), if_pos hx]
          · rw [if_neg (by omega), if_neg hx]
            simp
        · have hn' : newB (.mk s n tx ns ks) = false := by simpa using hn
          rw [hn']
          simp only [Bool.and_false, or_true, if_true]
          have : onto p (-1) = none := by unfold onto; rw [if_pos (by omega)]
          rw [this]
          unfold onto
          split <;> rfl
      · have ho' : ownB (.mk s n tx ns ks) = false := by simpa using ho
        rw [if_neg ho, ho']
        simp only [Bool.false_and, or_true, if_true]
        unfold onto; rw [if_pos (by omega)]
    · rw [if_neg h]
      unfold onto
      by_cases h6 : 6 < l + 1
      · rw [if_pos (Or.inl h6), if_pos (by omega)]
      · split
        · rw [if_pos (by omega)]
        · have hbd := pK_bd ks (l + 1) 1 (by omega) (by omega)
          rw [if_pos (by omega)]
theorem wlkK_is : ∀ (ks : List Tr) (p l n : Int), 1 ≤ n → n ≤ p → p ≤ 120 → wlkK ks p l = onto (p - n) (pK ks l n)
  | [], p, l, n => by
    intro h1 h2 h3
    rw [wlkK, pK]
    unfold onto
    rw [if_neg (by omega)]
    congr 1; omega
  | t :: r, p, l, n => by
    intro h1 h2 h3
    rw [wlkK, pK, wlk_is t p l (by omega) h3]
    have hbd := pT_bd t (l + 1)
    generalize pT t (l + 1) = k at hbd
    by_cases hx : k < 0 ∨ 120 < p + k
    · have : onto p k = none := by unfold onto; rw [if_pos hx]
      rw [this]
      simp only
      by_cases hy : k < 0 ∨ 120 < n + k
      · rw [if_pos hy]; unfold onto; rw [if_pos (by omega)]
      · rw [if_neg hy]
        have hbd2 := pK_bd r l (n + k) (by omega) (by omega)
        have hge := pK_ge r l (n + k)
        unfold onto; rw [if_pos (by omega)]
    · have : onto p k = some (p + k) := by unfold onto; rw [if_neg hx]
      rw [this]
      simp only
      rw [wlkK_is r (p + k) l (n + k) (by omega) (by omega) (by omega), if_neg (by omega), show p + k - (n + k) = p - n from by omega]
theorem pK_ge : ∀ (ks : List Tr) (l n : Int), pK ks l n = -1 ∨ n ≤ pK ks l n
  | [], l, n => by rw [pK]; exact Or.inr (Int.le_refl _)
  | t :: r, l, n => by
    rw [pK]
    split
    · exact Or.inl rfl
    · have := pK_ge r l (n + pT t (l + 1)); omega
end

/-- The sorter counts from the start as the specification counts. -/
theorem wlk_start (t : Tr) : wlk t 0 0 = if pT t 1 < 0 then none else some (pT t 1) := by
  rw [wlk_is t 0 0 (by omega) (by omega)]
  have hbd := pT_bd t 1
  unfold onto
  rw [show (0 : Int) + 1 = 1 from rfl]
  by_cases h : pT t 1 < 0
  · rw [if_pos (Or.inl h), if_pos h]
  · rw [if_neg (by omega), if_neg h]; simp

theorem wlk_bd (t : Tr) (p l q : Int) (hp : 0 ≤ p) (hp1 : p ≤ 120) (h : wlk t p l = some q) : p + 1 ≤ q ∧ q ≤ 120 := by
  rw [wlk_is t p l hp hp1] at h
  have hbd := pT_bd t (l + 1)
  unfold onto at h
  split at h
  · cases h
  · simp only [Option.some.injEq] at h; omega

theorem wlkK_step {ks : List Tr} {k : Nat} (hk : k < ks.length) (p l : Int) : wlkK (ks.drop k) p l = match wlk ks[k] p l with
    | none => none
    | some q => wlkK (ks.drop (k + 1)) q l := by
  rw [List.drop_eq_getElem_cons hk, wlkK]

end Go.Proofs.YtbigchdhpdgicaaDoor
