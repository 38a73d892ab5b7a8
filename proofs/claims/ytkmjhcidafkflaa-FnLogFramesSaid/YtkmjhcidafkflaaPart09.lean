/- What a schema's parts are by the specification, and by the program's walk: they count alike. Plain functions on data; no program, no conditions. -/
import Derived.Test.YtkmjhcidafkflaaPart08
import Derived.Test.YtkmjhcidafkflaaPart03
import Derived.Test.YtkmjhcidafkflaaPart07
namespace Go.Proofs.Ytkmjhcidafkflaa
open Go Go.RowKit

/-- A schema is ok, but for its kids and the bounds. -/
def shB (k : Kd) : Bool :=
  if k.sort = 1 ∨ k.sort = 2 ∨ k.sort = 3 then decide (k.kids.length = 0 ∧ k.names.length = 0)
  else if k.sort = 4 ∨ k.sort = 6 then decide (k.kids.length = 1 ∧ k.names.length = 0)
  else if k.sort = 5 then decide (k.kids.length = k.names.length) && riseB k.names
  else false

mutual
/-- The parts of a schema at a level, -1 if it is not ok: by the specification. -/
def qT : Kd → Int → Int
  | .mk s ns ks, d => if 6 < d ∨ shB (.mk s ns ks) = false then -1 else qK ks d 1
def qK : List Kd → Int → Int → Int
  | [], _, n => n
  | t :: r, d, n => if qT t (d + 1) < 0 ∨ 40 < n + qT t (d + 1) then -1 else qK r d (n + qT t (d + 1))
end

theorem qT_eq (t : Kd) (d : Int) : qT t d = if 6 < d ∨ shB t = false then -1 else qK t.kids d 1 := by
  obtain ⟨s, ns, ks⟩ := t
  rw [qT]; rfl

theorem qK_bd (ks : List Kd) (d n : Int) (h0 : 1 ≤ n) (h1 : n ≤ 40) : qK ks d n = -1 ∨ (1 ≤ qK ks d n ∧ qK ks d n ≤ 40) := by
  induction ks generalizing n with
  | nil => rw [qK]; omega
  | cons t r ih =>
    rw [qK]
    split
    · exact Or.inl rfl
    · exact ih _ (by omega) (by omega)

theorem qT_bd (t : Kd) (d : Int) : qT t d = -1 ∨ (1 ≤ qT t d ∧ qT t d ≤ 40) := by
  rw [qT_eq]
  split
  · exact Or.inl rfl
  · exact qK_bd _ _ _ (by omega) (by omega)

theorem qK_step {ks : List Kd} {k : Nat} (hk : k < ks.length) (d n : Int) : qK (ks.drop k) d n = if qT ks[k] (d + 1) < 0 ∨ 40 < n + qT ks[k] (d + 1) then -1 else qK (ks.drop (k + 1)) d (n + qT ks[k] (d + 1)) := by
  rw [List.drop_eq_getElem_cons hk, qK]

mutual
/-- A schema and all below it, with their levels, a node ahead of its kids. -/
def pord : Kd → Int → List (Int × Kd)
  | .mk s ns ks, l => (l, .mk s ns ks) :: pordK ks (l + 1)
def pordK : List Kd → Int → List (Int × Kd)
  | [], _ => []
  | t :: r, l => pord t l ++ pordK r l
end

theorem pord_eq (t : Kd) (l : Int) : pord t l = (l, t) :: pordK t.kids (l + 1) := by
  obtain ⟨s, ns, ks⟩ := t
  rw [pord]; rfl

/-- What is asked of a node. -/
def gdB (x : Int × Kd) : Bool := decide (x.1 ≤ 6) && shB x.2

mutual
theorem qT_pord : ∀ (t : Kd) (d : Int), qT t d = if (pord t d).all gdB = true ∧ (pord t d).length ≤ 40 then ((pord t d).length : Int) else -1
  | .mk s ns ks, d => by
    rw [qT, pord]
    by_cases h : 6 < d ∨ shB (.mk s ns ks) = false
    · rw [if_pos h, if_neg]
      rintro ⟨h1, -⟩
      simp only [List.all_cons, Bool.and_eq_true, gdB, decide_eq_true_eq] at h1
      rcases h with h | h
      · omega
      · rw [h] at h1; simp at h1
    · have h1 : d ≤ 6 := by omega
      have h2 : shB (.mk s ns ks) = true := by
        cases hh : shB (.mk s ns ks)
        · exact absurd (Or.inr hh) h
        · rfl
      have hg : gdB (d, .mk s ns ks) = true := by simp [gdB, h1, h2]
      rw [if_neg h, qK_pord ks d 1 (by omega) (by omega)]
      simp only [List.all_cons, hg, Bool.true_and, List.length_cons]
      by_cases hx : (pordK ks (d + 1)).all gdB = true ∧ (1 : Int) + (pordK ks (d + 1)).length ≤ 40
      · rw [if_pos hx, if_pos ⟨hx.1, by omega⟩]; omega
      · rw [if_neg hx, if_neg (fun hy => hx ⟨hy.1, by omega⟩)]
theorem qK_pord : ∀ (ks : List Kd) (d n : Int), 1 ≤ n → n ≤ 40 → qK ks d n = if (pordK ks (d + 1)).all gdB = true ∧ n + (pordK ks (d + 1)).length ≤ 40 then n + ((pordK ks (d + 1)).length : Int) else -1
  | [], d, n => by
    intro h1 h2
    rw [qK, pordK]
    simp [h2]
  | t :: r, d, n => by
    intro h1 h2
    rw [qK, pordK, qT_pord t (d + 1)]
    simp only [List.all_append, List.length_append, Bool.and_eq_true]
    by_cases ha : (pord t (d + 1)).all gdB = true ∧ (pord t (d + 1)).length ≤ 40
    · rw [if_pos ha]
      by_cases hb : n + ((pord t (d + 1)).length : Int) ≤ 40
      · rw [if_neg (by omega), qK_pord r d _ (by omega) hb]
        by_cases hx : (pordK r (d + 1)).all gdB = true ∧ n + ((pord t (d + 1)).length : Int) + (pordK r (d + 1)).length ≤ 40
        · rw [if_pos hx, if_pos ⟨⟨ha.1, hx.1⟩, by omega⟩]; omega
        · rw [if_neg hx, if_neg (fun hy => hx ⟨hy.1.2, by omega⟩)]
      · rw [if_pos (by omega), if_neg (fun hy => by omega)]
    · rw [if_neg ha, if_pos (by omega), if_neg (fun hy => ha ⟨hy.1.1, by omega⟩)]
end

/-- The walk ends just if the schema is ok. -/
theorem qT_start (t : Kd) : decide (0 < qT t 1) = ((pord t 1).all gdB && decide ((pord t 1).length ≤ 40)) := by
  have hl : 0 < (pord t 1).length := by rw [pord_eq]; simp
  rw [qT_pord]
  by_cases h : (pord t 1).all gdB = true ∧ (pord t 1).length ≤ 40
  · rw [if_pos h]; simp only [h.1, h.2, decide_true, Bool.and_self]; simp; omega
  · rw [if_neg h]
    symm
    rw [show decide ((0 : Int) < -1) = false from rfl]
    cases hh : (pord t 1).all gdB
    · rfl
    · simp only [Bool.true_and, decide_eq_false_iff_not]; exact fun hy => h ⟨hh, hy⟩

theorem ksz_w (t : Kd) : ksz t ≤ wKd t + 1 := by
  have key : ∀ n, ∀ t : Kd, ksz t ≤ n → ksz t ≤ wKd t + 1 := by
    intro n
    induction n with
    | zero => intro t h; obtain ⟨s, ns, ks⟩ := t; rw [ksz] at h; omega
    | succ n ih =>
      intro t h
      obtain ⟨s, ns, ks⟩ := t
      rw [ksz] at h ⊢
      rw [wKd]
      have : ∀ l : List Kd, klsz l ≤ n → klsz l ≤ wKs l := by
        intro l
        induction l with
        | nil => intro _; simp [klsz]
        | cons a r ihl =>
          intro hl
          rw [klsz] at hl ⊢
          rw [wKs]
          have h1 := ih a (by omega)
          have h2 := ihl (by omega)
          omega
      have := this ks (by omega)
      omega
  exact key _ t (Nat.le_refl _)

end Go.Proofs.Ytkmjhcidafkflaa

/- The walks of the specification's l2Parts and KindOk: what they answer. No conditions. -/

namespace Go.Proofs.Ytkmjhcidafkflaa
open Go Go.RowKit

end Go.Proofs.Ytkmjhcidafkflaa

/- The walks of the specification's l5Some, l6Rd.of: some schema, some text. Draws at most 10^8. -/

namespace Go.Proofs.Ytkmjhcidafkflaa
open Go Go.RowKit

/-- What drawing a schema, not deep in memory of its own, comes to. -/
def SkEnd (N M R : Nat) (w w' : World) (v : Value) (b : List UInt8) (p : Nat) (e : Ending) : Prop :=
  ∃ (k : Kd) (c : C3) (p' : Nat), e = .returned (.agg #[c.c0, c.c1, c.c2]) ∧ KRep (fun x => w.heap.size ≤ x ∧ x < w'.heap.size) w' k c ∧ DR R w' v b p' ∧ p' ≤ p + N ∧ wKd k ≤ M ∧ But R w w'

/-- The answer is put into its box. -/
theorem sk_end {N M R : Nat} {w W : World} {v : Value} {b : List UInt8} {p p' : Nat} {k : Kd} {c : C3} (hR : R < w.heap.size) (ho : KRep (fun x => w.heap.size < x ∧ x < W.heap.size) W k c) (hd : DR R W v b p') (h1 : p' ≤ p + N) (h2 : wKd k ≤ M) (hb : But R w W) (c0 c1 c2 : Value) :
    SkEnd N M R w (((W.setCell ⟨w.heap.size, 0, none⟩ c0).setCell ⟨w.heap.size, 1, none⟩ c1).setCell ⟨w.heap.size, 2, none⟩ c2) v b p (.returned (.agg #[c.c0, c.c1, c.c2])) := by
  refine ⟨k, c, p', rfl, KRep.carry (fun x hx => by repeat rw [Below.heap_setCell _ _ _ _ (by simp; omega)]) (fun x hx => ⟨by omega, by simp only [size_setCell]; exact hx.2⟩) _ _ ho, ?_, h1, h2, ?_⟩
  · repeat refine DR.set ?_ hR _ _
    exact hd
  · repeat refine but_setx ?_ (Nat.le_refl _) _ _
    exact hb

/-- The same, of a schema that is ok. -/
def SoEnd (N M R : Nat) (w w' : World) (v : Value) (b : List UInt8) (p : Nat) (e : Ending) : Prop :=
  ∃ (k : Kd) (c : C3) (p' : Nat), e = .returned (.agg #[c.c0, c.c1, c.c2]) ∧ KRep (fun x => w.heap.size ≤ x ∧ x < w'.heap.size) w' k c ∧ DR R w' v b p' ∧ p' ≤ p + N ∧ wKd k ≤ M ∧ But R w w' ∧ 0 < qT k 1
theorem so_end {N M R : Nat} {w W : World} {v : Value} {b : List UInt8} {p p' : Nat} {k : Kd} {c : C3} (hR : R < w.heap.size) (ho : KRep (fun x => w.heap.size < x ∧ x < W.heap.size) W k c) (hd : DR R W v b p') (h1 : p' ≤ p + N) (h2 : wKd k ≤ M) (hb : But R w W) (hq : 0 < qT k 1) (c0 c1 c2 : Value) :
    SoEnd N M R w (((W.setCell ⟨w.heap.size, 0, none⟩ c0).setCell ⟨w.heap.size, 1, none⟩ c1).setCell ⟨w.heap.size, 2, none⟩ c2) v b p (.returned (.agg #[c.c0, c.c1, c.c2])) := by
  refine ⟨k, c, p', rfl, KRep.carry (fun x hx => by repeat rw [Below.heap_setCell _ _ _ _ (by simp; omega)]) (fun x hx => ⟨by omega, by simp only [size_setCell]; exact hx.2⟩) _ _ ho, ?_, h1, h2, ?_, hq⟩
  · repeat refine DR.set ?_ hR _ _
    exact hd
  · repeat refine but_setx ?_ (Nat.le_refl _) _ _
    exact hb

/-- One text of a list, drawn. -/
theorem of_any (R : Nat) (w : World) (v : Value) (b : List UInt8) (p : Nat) (h : DR R w v b p) (hp : p ≤ 100000000) (g n : Nat) (ss : Nat → ByteArray) (hn : 1 ≤ n ∧ n ≤ 1000) (hrow : w.rowIs g 9 n (fun i => .string (ss i))) (hg : R < g) :
    Calls Try.prog 54 #[.pointer (some ⟨R, 0, none⟩), .slice (some ⟨g, 0, none⟩) n n] w fun e w' => ∃ r, e = .returned (.string (ss r)) ∧ r < n ∧ Hid (DR R w' v b (p + 1)) ∧ Hid (But R w w') := by
  obtain ⟨hn1, hn2⟩ := hn
  have HPK := hide (pick_any R w v b p n h (by omega) (by omega))
  have HROW := hide hrow
  clear h hrow
  go_enter Try.func54, Try.ntmps54
  go_wp2_with fail
  refine (unhide HPK).mono ?_
  rintro e w2 ⟨r, rfl, hr, HD2, HB2⟩
  have e1 : w2.cell? ⟨g, r, none⟩ = some (.string (ss r)) := ((unhide HROW).of_block (HB2.out.at (unhide HROW).lt (by omega))).cell (i := r) hr
  have hix : (r : Int) < (n : Int) := by omega
  clear HROW HPK
  go_wp2_with fail
  go_ret
  exact ⟨r, rfl, hr, HD2, HB2⟩
end Go.Proofs.Ytkmjhcidafkflaa
