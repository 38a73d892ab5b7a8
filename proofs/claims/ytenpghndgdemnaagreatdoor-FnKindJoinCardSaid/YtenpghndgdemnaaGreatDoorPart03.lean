/- What a schema's parts are by the specification, and by the program's walk: they count alike. Plain functions on data; no program, no conditions. -/
import Derived.Test.YtenpghndgdemnaaGreatDoorPart02
import Derived.Test.YtenpghndgdemnaaGreatDoorPart00
namespace Go.Proofs.YtenpghndgdemnaaGreatDoor
open Go Go.RowKit

/-- A schema is ok, but for its kids and the bounds. -/
def shB (k : Kd) : Bool :=
  if k.sort = 1 ∨ k.sort = 2 ∨ k.sort = 3 then decide (k.kids.length = 0 ∧ k.names.length = 0)
  else if k.sort = 4 ∨ k.sort = 6 then decide (k.kids.length = 1 ∧ k.names.length = 0)
  else if k.sort = 5 then decide (k.kids.length = k.names.length) && riseB k.names
  else false

mutual
/-- The parts of a schema at a level, -1 if it is not ok: by the specification. -/
def qT : Kd → Int → Int
  | .mk s ns ks, d => if 6 < d ∨ shB (.mk s ns ks) = false then -1 else qK ks d 1
def qK : List Kd → Int → Int → Int
  | [], _, n => n
  | t :: r, d, n => if qT t (d + 1) < 0 ∨ 40 < n + qT t (d + 1) then -1 else qK r d (n + qT t (d + 1))
end

theorem qT_eq (t : Kd) (d : Int) : qT t d = if 6 < d ∨ shB t = false then -1 else qK t.kids d 1 := by
  obtain ⟨s, ns, ks⟩ := t
  rw [qT]; rfl

theorem qK_bd (ks : List Kd) (d n : Int) (h0 : 1 ≤ n) (h1 : n ≤ 40) : qK ks d n = -1 ∨ (1 ≤ qK ks d n ∧ qK ks d n ≤ 40) := by
  induction ks generalizing n with
  | nil => rw [qK]; omega
  | cons t r ih =>
    rw [qK]
    split
    · exact Or.inl rfl
    · exact ih _ (by omega) (by omega)

theorem qT_bd (t : Kd) (d : Int) : qT t d = -1 ∨ (1 ≤ qT t d ∧ qT t d ≤ 40) := by
  rw [qT_eq]
  split
  · exact Or.inl rfl
  · exact qK_bd _ _ _ (by omega) (by omega)

theorem qK_step {ks : List Kd} {k : Nat} (hk : k < ks.length) (d n : Int) : qK (ks.drop k) d n = if qT ks[k] (d + 1) < 0 ∨ 40 < n + qT ks[k] (d + 1) then -1 else qK (ks.drop (k + 1)) d (n + qT ks[k] (d + 1)) := by
  rw [List.drop_eq_getElem_cons hk, qK]

mutual
/-- A schema and all below it, with their levels, a node ahead of its kids. -/
def pord : Kd → Int → List (Int × Kd)
  | .mk s ns ks, l => (l, .mk s ns ks) :: pordK ks (l + 1)
def pordK : List Kd → Int → List (Int × Kd)
  | [], _ => []
  | t :: r, l => pord t l ++ pordK r l
end

theorem pord_eq (t : Kd) (l : Int) : pord t l = (l, t) :: pordK t.kids (l + 1) := by
  obtain ⟨s, ns, ks⟩ := t
  rw [pord]; rfl

/-- What is asked of a node. -/
def gdB (x : Int × Kd) : Bool := decide (x.1 ≤ 6) && shB x.2

mutual
theorem qT_pord : ∀ (t : Kd) (d : Int), qT t d = if (pord t d).all gdB = true ∧ (pord t d).length ≤ 40 then ((pord t d).length : Int) else -1
  | .mk s ns ks, d => by
    rw [qT, pord]
    by_cases h : 6 < d ∨ shB (.mk s ns ks) = false
    · rw [if_pos h, if_neg]
      rintro ⟨h1, -⟩
      simp only [List.all_cons, Bool.and_eq_true, gdB, decide_eq_true_eq] at h1
      rcases h with h | h
      · omega
      · rw [h] at h1; simp at h1
    · have h1 : d ≤ 6 := by omega
      have h2 : shB (.mk s ns ks) = true := by
        cases hh : shB (.mk s ns ks)
        · exact absurd (Or.inr hh) h
        · rfl
      have hg : gdB (d, .mk s ns ks) = true := by simp [gdB, h1, h2]
      rw [if_neg h, qK_pord ks d 1 (by omega) (by omega)]
      simp only [List.all_cons, hg, Bool.true_and, List.length_cons]
      by_cases hx : (pordK ks (d + 1)).all gdB = true ∧ (1 : Int) + (pordK ks (d + 1)).length ≤ 40
      · rw [if_pos hx, if_pos ⟨hx.1, by omega⟩]; omega
      · rw [if_neg hx, if_neg (fun hy => hx ⟨hy.1, by omega⟩)]
theorem qK_pord : ∀ (ks : List Kd) (d n : Int), 1 ≤ n → n ≤ 40 → qK ks d n = if (pordK ks (d + 1)).all gdB = true ∧ n + (pordK ks (d + 1)).length ≤ 40 then n + ((pordK ks (d + 1)).length : Int) else -1
  | [], d, n => by
    intro h1 h2
    rw [qK, pordK]
    simp [h2]
  | t :: r, d, n => by
    intro h1 h2
    rw [qK, pordK, qT_pord t (d + 1)]
    simp only [List.all_append, List.length_append, Bool.and_eq_true]
    by_cases ha : (pord t (d + 1)).all gdB = true ∧ (pord t (d + 1)).length ≤ 40
    · rw [if_pos ha]
      by_cases hb : n + ((pord t (d + 1)).length : Int) ≤ 40
      · rw [if_neg (by omega), qK_pord r d _ (by omega) hb]
        by_cases hx : (pordK r (d + 1)).all gdB = true ∧ n + ((pord t (d + 1)).length : Int) + (pordK r (d + 1)).length ≤ 40
        · rw [if_pos hx, if_pos ⟨⟨ha.1, hx.1⟩, by omega⟩]; omega
        · rw [if_neg hx, if_neg (fun hy => hx ⟨hy.1.2, by omega⟩)]
      · rw [if_pos (by omega), if_neg (fun hy => by omega)]
    · rw [if_neg ha, if_pos (by omega), if_neg (fun hy => ha ⟨hy.1.1, by omega⟩)]
end

/-- The walk ends just if the schema is ok. -/
theorem qT_start (t : Kd) : decide (0 < qT t 1) = ((pord t 1).all gdB && decide ((pord t 1).length ≤ 40)) := by
  have hl : 0 < (pord t 1).length := by rw [pord_eq]; simp
  rw [qT_pord]
  by_cases h : (pord t 1).all gdB = true ∧ (pord t 1).length ≤ 40
  · rw [if_pos h]; simp only [h.1, h.2, decide_true, Bool.and_self]; simp; omega
  · rw [if_neg h]
    symm
    rw [show decide ((0 : Int) < -1) = false from rfl]
    cases hh : (pord t 1).all gdB
    · rfl
    · simp only [Bool.true_and, decide_eq_false_iff_not]; exact fun hy => h ⟨hh, hy⟩

theorem ksz_w (t : Kd) : ksz t ≤ wKd t + 1 := by
  have key : ∀ n, ∀ t : Kd, ksz t ≤ n → ksz t ≤ wKd t + 1 := by
    intro n
    induction n with
    | zero => intro t h; obtain ⟨s, ns, ks⟩ := t; rw [ksz] at h; omega
    | succ n ih =>
      intro t h
      obtain ⟨s, ns, ks⟩ := t
      rw [ksz] at h ⊢
      rw [wKd]
      have : ∀ l : List Kd, klsz l ≤ n → klsz l ≤ wKs l := by
        intro l
        induction l with
        | nil => intro _; simp [klsz]
        | cons a r ihl =>
          intro hl
          rw [klsz] at hl ⊢
          rw [wKs]
          have h1 := ih a (by omega)
          have h2 := ihl (by omega)
          omega
      have := this ks (by omega)
      omega
  exact key _ t (Nat.le_refl _)

end Go.Proofs.YtenpghndgdemnaaGreatDoor

/- The walks of the specification's l2Parts and KindOk: what they answer. No conditions. -/

namespace Go.Proofs.YtenpghndgdemnaaGreatDoor
open Go Go.RowKit

def KPartsSaid (n : Nat) : Prop := ∀ (t : Kd), ksz t < n → ∀ (P : Nat → Prop) (c : C3) (d : Int) (w : World), (∀ b, P b → b < w.heap.size) → KRep P w t c → 1 ≤ d → d ≤ 7 →
    Calls Tryz.prog 44 #[.agg #[c.c0, c.c1, c.c2], .int .i64 d] w fun e w' => e = .returned (.int .i64 (qT t d)) ∧ Below w.heap.size w w'

set_option maxHeartbeats 800000 in
/-- A schema that is not ok by itself. -/
theorem l2Parts_no (t : Kd) (P : Nat → Prop) (c : C3) (d : Int) (w : World) (hP : ∀ b, P b → b < w.heap.size) (hrep : KRep P w t c) (hno : 6 < d ∨ shB t = false) :
    Calls Tryz.prog 44 #[.agg #[c.c0, c.c1, c.c2], .int .i64 d] w fun e w' => e = .returned (.int .i64 (-1)) ∧ Below w.heap.size w w' := by
  obtain ⟨c0, c1, c2⟩ := c
  obtain ⟨e0, -, hns, a, cap, e2, hlen, -⟩ := hrep.open
  simp only at e0 e2 hns
  have HN := hide hns
  obtain ⟨a3, cap3, e1, hl3, -⟩ := hns
  subst e0 e1 e2
  clear hrep
  have HP := hide hP; clear hP
  have hbx : ∀ o, Below w.heap.size w (w.alloc o) := fun o => (Below.refl _ _).alloc (Nat.le_refl _) o
  have HBX := hide hbx; clear hbx
  have hcall : ∀ o, Calls Tryz.prog 69 #[.slice a3 t.names.length cap3] (w.alloc o) fun e w' => e = .returned (.bool (riseB t.names)) ∧ Below (w.alloc o).heap.size (w.alloc o) w' := fun o =>
    l1Rise_any _ t.names (w.alloc o) (P := P) (fun b hb => Nat.lt_of_lt_of_le (unhide HP b hb) (unhide HBX o).size) ((unhide HN).carry (fun b hb => (unhide HBX o).block b (unhide HP b hb)) (fun _ h => h))
  have HC := hide hcall; clear hcall
  by_cases hd6 : 6 < d
  · go_enter Tryz.func44, Tryz.ntmps44
    go_wp2_with fail
    go_ret
    exact ⟨rfl, unhide HBX _⟩
  have hsh : shB t = false := hno.resolve_left hd6
  clear hno
  by_cases h1 : t.sort = 1
  · have b1 : (t.sort == 5) = false := by simp [h1]
    have b2 : (t.sort != 5) = true := by simp [h1]
    have b3 : (t.sort == 4) = false := by simp [h1]
    have b4 : (t.sort == 6) = false := by simp [h1]
    have b5 : decide (t.sort < 4) = true := by simp [h1]
    have b6 : decide ((1 : Int) ≤ t.sort ∧ t.sort ≤ 6) = true := by simp [h1]
    have HSH := hide hsh; have HS := hide h1
    clear hsh h1
    go_enter Tryz.func44, Tryz.ntmps44
    go_wp2_with (first
      | (go_at_call 68; refine (l6In_any _ _ _ _).mono ?_; rintro e w' ⟨rfl, rfl⟩)
      | (go_at_call 69; refine (unhide HC _).mono ?_; rintro e w' ⟨rfl, hb'⟩))
    all_goals first
      | (go_ret; exact ⟨rfl, unhide HBX _⟩)
      | (go_ret; exact ⟨rfl, (kbox1 hb').2.2⟩)
      | (exfalso
         have h1 := unhide HSH
         have h2 := unhide HS
         simp [shB, h2] at h1
         simp_all
         done)
      | (exfalso
         have h1 := unhide HSH
         have h2 := unhide HS
         simp [shB, h2] at h1
         simp_all
         omega)
  by_cases h2 : t.sort = 2
  · have b1 : (t.sort == 5) = false := by simp [h2]
    have b2 : (t.sort != 5) = true := by simp [h2]
    have b3 : (t.sort == 4) = false := by simp [h2]
    have b4 : (t.sort == 6) = false := by simp [h2]
    have b5 : decide (t.sort < 4) = true := by simp [h2]
    have b6 : decide ((1 : Int) ≤ t.sort ∧ t.sort ≤ 6) = true := by simp [h2]
    have HSH := hide hsh; have HS := hide h2
    clear hsh h1 h2
    go_enter Tryz.func44, Tryz.ntmps44
    go_wp2_with (first
      | (go_at_call 68; refine (l6In_any _ _ _ _).mono ?_; rintro e w' ⟨rfl, rfl⟩)
      | (go_at_call 69; refine (unhide HC _).mono ?_; rintro e w' ⟨rfl, hb'⟩))
    all_goals first
      | (go_ret; exact ⟨rfl, unhide HBX _⟩)
      | (go_ret; exact ⟨rfl, (kbox1 hb').2.2⟩)
      | (exfalso
         have h1 := unhide HSH
         have h2 := unhide HS
         simp [shB, h2] at h1
         simp_all
         done)
      | (exfalso
         have h1 := unhide HSH
         have h2 := unhide HS
         simp [shB, h2] at h1
         simp_all
         omega)
  by_cases h3 : t.sort = 3
  · have b1 : (t.sort == 5) = false := by simp [h3]
    have b2 : (t.sort != 5) = true := by simp [h3]
    have b3 : (t.sort == 4) = false := by simp [h3]
    have b4 : (t.sort == 6) = false := by simp [h3]
    have b5 : decide (t.sort < 4) = true := by simp [h3]
    have b6 : decide ((1 : Int) ≤ t.sort ∧ t.sort ≤ 6) = true := by simp [h3]
    have HSH := hide hsh; have HS := hide h3
    clear hsh h1 h2 h3
    go_enter Tryz.func44, Tryz.ntmps44
    go_wp2_with (first
      | (go_at_call 68; refine (l6In_any _ _ _ _).mono ?_; rintro e w' ⟨rfl, rfl⟩)
      | (go_at_call 69; refine (unhide HC _).mono ?_; rintro e w' ⟨rfl, hb'⟩))
    all_goals first
      | (go_ret; exact ⟨rfl, unhide HBX _⟩)
      | (go_ret; exact ⟨rfl, (kbox1 hb').2.2⟩)
      | (exfalso
         have h1 := unhide HSH
         have h2 := unhide HS
         simp [shB, h2] at h1
         simp_all
         done)
      | (exfalso
         have h1 := unhide HSH
         have h2 := unhide HS
         simp [shB, h2] at h1
         simp_all
         omega)
  by_cases h4 : t.sort = 4
  · have b1 : (t.sort == 5) = false := by simp [h4]
    have b2 : (t.sort != 5) = true := by simp [h4]
    have b3 : (t.sort == 4) = true := by simp [h4]
    have b4 : (t.sort == 6) = false := by simp [h4]
    have b5 : decide (t.sort < 4) = false := by simp [h4]
    have b6 : decide ((1 : Int) ≤ t.sort ∧ t.sort ≤ 6) = true := by simp [h4]
    have HSH := hide hsh; have HS := hide h4
    clear hsh h1 h2 h3 h4
    go_enter Tryz.func44, Tryz.ntmps44
    go_wp2_with (first
      | (go_at_call 68; refine (l6In_any _ _ _ _).mono ?_; rintro e w' ⟨rfl, rfl⟩)
      | (go_at_call 69; refine (unhide HC _).mono ?_; rintro e w' ⟨rfl, hb'⟩))
    all_goals first
      | (go_ret; exact ⟨rfl, unhide HBX _⟩)
      | (go_ret; exact ⟨rfl, (kbox1 hb').2.2⟩)
      | (exfalso
         have h1 := unhide HSH
         have h2 := unhide HS
         simp [shB, h2] at h1
         simp_all
         done)
      | (exfalso
         have h1 := unhide HSH
         have h2 := unhide HS
         simp [shB, h2] at h1
         simp_all
         omega)
  by_cases h5 : t.sort = 5
  · have b1 : (t.sort == 5) = true := by simp [h5]
    have b2 : (t.sort != 5) = false := by simp [h5]
    have b3 : (t.sort == 4) = false := by simp [h5]
    have b4 : (t.sort == 6) = false := by simp [h5]
    have b5 : decide (t.sort < 4) = false := by simp [h5]
    have b6 : decide ((1 : Int) ≤ t.sort ∧ t.sort ≤ 6) = true := by simp [h5]
    have HSH := hide hsh; have HS := hide h5
    clear hsh h1 h2 h3 h4 h5
    go_enter Tryz.func44, Tryz.ntmps44
    go_wp2_with (first
      | (go_at_call 68; refine (l6In_any _ _ _ _).mono ?_; rintro e w' ⟨rfl, rfl⟩)
      | (go_at_call 69; refine (unhide HC _).mono ?_; rintro e w' ⟨rfl, hb'⟩))
    all_goals first
      | (go_ret; exact ⟨rfl, unhide HBX _⟩)
      | (go_ret; exact ⟨rfl, (kbox1 hb').2.2⟩)
      | (exfalso
         have h1 := unhide HSH
         have h2 := unhide HS
         simp [shB, h2] at h1
         simp_all
         done)
      | (exfalso
         have h1 := unhide HSH
         have h2 := unhide HS
         simp [shB, h2] at h1
         simp_all
         omega)
  by_cases h6 : t.sort = 6
  · have b1 : (t.sort == 5) = false := by simp [h6]
    have b2 : (t.sort != 5) = true := by simp [h6]
    have b3 : (t.sort == 4) = false := by simp [h6]
    have b4 : (t.sort == 6) = true := by simp [h6]
    have b5 : decide (t.sort < 4) = false := by simp [h6]
    have b6 : decide ((1 : Int) ≤ t.sort ∧ t.sort ≤ 6) = true := by simp [h6]
    have HSH := hide hsh; have HS := hide h6
    clear hsh h1 h2 h3 h4 h5 h6
    go_enter Tryz.func44, Tryz.ntmps44
    go_wp2_with (first
      | (go_at_call 68; refine (l6In_any _ _ _ _).mono ?_; rintro e w' ⟨rfl, rfl⟩)
      | (go_at_call 69; refine (unhide HC _).mono ?_; rintro e w' ⟨rfl, hb'⟩))
    all_goals first
      | (go_ret; exact ⟨rfl, unhide HBX _⟩)
      | (go_ret; exact ⟨rfl, (kbox1 hb').2.2⟩)
      | (exfalso
         have h1 := unhide HSH
         have h2 := unhide HS
         simp [shB, h2] at h1
         simp_all
         done)
      | (exfalso
         have h1 := unhide HSH
         have h2 := unhide HS
         simp [shB, h2] at h1
         simp_all
         omega)
  have b6 : decide ((1 : Int) ≤ t.sort ∧ t.sort ≤ 6) = false := by simp; omega
  clear h1 h2 h3 h4 h5 h6
  go_enter Tryz.func44, Tryz.ntmps44
  go_wp2_with (go_at_call 68; refine (l6In_any _ _ _ _).mono ?_; rintro e w' ⟨rfl, rfl⟩)
  go_ret
  exact ⟨rfl, unhide HBX _⟩

set_option maxHeartbeats 800000 in
theorem l2Parts_leaf (n : Nat) (IH : KPartsSaid n) (t : Kd) (hn : ksz t < n + 1) (P : Nat → Prop) (c : C3) (d : Int) (w : World) (hP : ∀ b, P b → b < w.heap.size) (hrep : KRep P w t c) (hd0 : 1 ≤ d) (hd1 : d ≤ 6) (hsh : shB t = true) (hs : t.sort = 1 ∨ t.sort = 2 ∨ t.sort = 3) :
    Calls Tryz.prog 44 #[.agg #[c.c0, c.c1, c.c2], .int .i64 d] w fun e w' => e = .returned (.int .i64 (qK t.kids d 1)) ∧ Below w.heap.size w w' := by
  obtain ⟨c0, c1, c2⟩ := c
  obtain ⟨e0, -, hns, a, cap, e2, hlen, hks⟩ := hrep.open
  simp only at e0 e2 hns
  have HN := hide hns
  obtain ⟨a3, cap3, e1, hl3, -⟩ := hns
  subst e0 e1 e2
  have HP := hide hP; have HI := hide IH; have HK := hide hks
  clear hrep hP IH hks
  have hbx : ∀ o, Below w.heap.size w (w.alloc o) := fun o => (Below.refl _ _).alloc (Nat.le_refl _) o
  have HBX := hide hbx; clear hbx
  have b1 : (t.sort == 5) = false := by simp; omega
  have b2 : (t.sort != 5) = true := by simp; omega
  have b3 : (t.sort == 4) = false := by simp; omega
  have b4 : (t.sort == 6) = false := by simp; omega
  have b5 : decide (t.sort < 4) = true := by simp; omega
  have b6 : decide ((1 : Int) ≤ t.sort ∧ t.sort ≤ 6) = true := by simp; omega
  have hkn : t.kids.length = 0 ∧ t.names.length = 0 := by
    rw [shB, if_pos hs] at hsh
    exact of_decide_eq_true hsh
  obtain ⟨hkl, hnl⟩ := hkn
  have b7 : decide ((0 : Int) < (t.names.length : Int)) = false := decide_eq_false (by omega)
  have b8 : decide ((0 : Int) < (t.kids.length : Int)) = false := decide_eq_false (by omega)
  have b9 : decide (0 < t.names.length) = false := decide_eq_false (by omega)
  have b10 : decide (0 < t.kids.length) = false := decide_eq_false (by omega)
  clear hs hsh hkl hnl
  go_enter Tryz.func44, Tryz.ntmps44
  go_wp2_with (first
    | (go_at_call 68; refine (l6In_any _ _ _ _).mono ?_; rintro e w' ⟨rfl, rfl⟩))
  generalize hks : t.kids = ks at *
  have HKS := hide hks; clear hks
  go_loopw [6, 7] (fun m i wr => ∃ (k : Nat) (q : Int), k ≤ ks.length ∧ i = .int .i64 k ∧ m = .int .i64 q ∧ 1 ≤ q ∧ q ≤ 40 ∧ Hid (qK (ks.drop k) d q = qK ks d 1) ∧ wr.cell? ⟨w.heap.size, 2, none⟩ = some (.slice a ks.length cap) ∧ w.heap.size < wr.heap.size ∧ Below w.heap.size w wr) (fun _ i _ => ks.length - (intOf i).toNat)
  case atStart => exact ⟨0, 1, Nat.zero_le _, rfl, rfl, by omega, by omega, rfl, (row3_alloc w _ _ _ _).cell (i := 2) (by omega), (row3_alloc w _ _ _ _).lt, unhide HBX _⟩
  case round =>
    obtain ⟨k, q, hk, rfl, rfl, hq0, hq1, HQ, hbox, hbs, hb⟩ := hrel
    by_cases hlt : k < ks.length
    · obtain ⟨b, o, c, rfl, hpb, hcell, hrep⟩ := unhide HK k hlt
      have hcell' := hcell.carry (hb.block b (unhide HP b hpb))
      obtain ⟨c0, c1, c2⟩ := c
      obtain ⟨e0, e1, e2⟩ := hcell'
      simp only at e0 e1 e2
      have hmem : ks[k] ∈ t.kids := by rw [unhide HKS]; exact List.getElem_mem hlt
      have hsm : ksz ks[k] < n := by have := ksz_kid hmem; omega
      have hcall := unhide HI ks[k] hsm P ⟨c0, c1, c2⟩ (d + 1) wr (fun b hb' => Nat.lt_of_lt_of_le (unhide HP b hb') hb.size) (KRep.carry (fun b hb' => hb.block b (unhide HP b hb')) (fun _ h => h) _ _ hrep) (by omega) (by omega)
      have hst := qK_step hlt d q
      have hbd := qT_bd ks[k] (d + 1)
      generalize qT ks[k] (d + 1) = r at hcall hst hbd
      have HCALL := hide hcall; have HST := hide hst
      clear hrep hcell hpb hmem hcall hst
      by_cases hbad : r < 0 ∨ 40 < q + r
      · have hfin : qK ks d 1 = -1 := by rw [← HQ.out, unhide HST, if_pos hbad]
        have HFIN := hide hfin; clear hfin
        rcases hbad with hbad | hbad
        · go_wp2_with (go_at_call 44; refine (unhide HCALL).mono ?_; rintro e w2 ⟨rfl, hb2⟩)
          go_ret
          exact ⟨by rw [unhide HKS, unhide HFIN]; rfl, hb.trans (hb2.mono hb.size)⟩
        · have hr0 : 0 ≤ r := by omega
          go_wp2_with (go_at_call 44; refine (unhide HCALL).mono ?_; rintro e w2 ⟨rfl, hb2⟩)
          go_ret
          exact ⟨by rw [unhide HKS, unhide HFIN]; rfl, hb.trans (hb2.mono hb.size)⟩
      · have hr0 : 0 ≤ r := by omega
        have hr1 : q + r ≤ 40 := by omega
        have hfin : qK (ks.drop (k + 1)) d (q + r) = qK ks d 1 := by rw [← HQ.out, unhide HST, if_neg hbad]
        have HFIN := hide hfin
        clear hfin hbad
        go_wp2_with (go_at_call 44; refine (unhide HCALL).mono ?_; rintro e w2 ⟨rfl, hb2⟩)
        go_roundw
        case rel => exact ⟨k + 1, _, by omega, by go_num, rfl, by omega, by omega, unhide HFIN, by rw [hb2.cell hbs]; exact hbox, Nat.lt_of_lt_of_le hbs hb2.size, hb.trans (hb2.mono hb.size)⟩
        case measure => simp [intOf]; omega
    · go_wp2_with fail
      go_ret
      refine ⟨?_, hb⟩
      rw [unhide HKS, ← HQ.out, List.drop_of_length_le (by omega), qK]
      rfl

set_option maxHeartbeats 800000 in
theorem l2Parts_list (n : Nat) (IH : KPartsSaid n) (t : Kd) (hn : ksz t < n + 1) (P : Nat → Prop) (c : C3) (d : Int) (w : World) (hP : ∀ b, P b → b < w.heap.size) (hrep : KRep P w t c) (hd0 : 1 ≤ d) (hd1 : d ≤ 6) (hsh : shB t = true) (hs : t.sort = 4) :
    Calls Tryz.prog 44 #[.agg #[c.c0, c.c1, c.c2], .int .i64 d] w fun e w' => e = .returned (.int .i64 (qK t.kids d 1)) ∧ Below w.heap.size w w' := by
  obtain ⟨c0, c1, c2⟩ := c
  obtain ⟨e0, -, hns, a, cap, e2, hlen, hks⟩ := hrep.open
  simp only at e0 e2 hns
  have HN := hide hns
  obtain ⟨a3, cap3, e1, hl3, -⟩ := hns
  subst e0 e1 e2
  have HP := hide hP; have HI := hide IH; have HK := hide hks
  clear hrep hP IH hks
  have hbx : ∀ o, Below w.heap.size w (w.alloc o) := fun o => (Below.refl _ _).alloc (Nat.le_refl _) o
  have HBX := hide hbx; clear hbx
  have b1 : (t.sort == 5) = false := by simp [hs]
  have b2 : (t.sort != 5) = true := by simp [hs]
  have b3 : (t.sort == 4) = true := by simp [hs]
  have b4 : (t.sort == 6) = false := by simp [hs]
  have b5 : decide (t.sort < 4) = false := by simp [hs]
  have b6 : decide ((1 : Int) ≤ t.sort ∧ t.sort ≤ 6) = true := by simp [hs]
  have hkn : t.kids.length = 1 ∧ t.names.length = 0 := by
    rw [shB, if_neg (by omega), if_pos (by omega)] at hsh
    exact of_decide_eq_true hsh
  obtain ⟨hkl, hnl⟩ := hkn
  have b7 : decide ((0 : Int) < (t.names.length : Int)) = false := decide_eq_false (by omega)
  have b9 : decide (0 < t.names.length) = false := decide_eq_false (by omega)
  have b8 : ((t.kids.length : Int) != 1) = false := by simp; omega
  clear hs hsh hkl hnl
  go_enter Tryz.func44, Tryz.ntmps44
  go_wp2_with (first
    | (go_at_call 68; refine (l6In_any _ _ _ _).mono ?_; rintro e w' ⟨rfl, rfl⟩))
  generalize hks : t.kids = ks at *
  have HKS := hide hks; clear hks
  go_loopw [6, 7] (fun m i wr => ∃ (k : Nat) (q : Int), k ≤ ks.length ∧ i = .int .i64 k ∧ m = .int .i64 q ∧ 1 ≤ q ∧ q ≤ 40 ∧ Hid (qK (ks.drop k) d q = qK ks d 1) ∧ wr.cell? ⟨w.heap.size, 2, none⟩ = some (.slice a ks.length cap) ∧ w.heap.size < wr.heap.size ∧ Below w.heap.size w wr) (fun _ i _ => ks.length - (intOf i).toNat)
  case atStart => exact ⟨0, 1, Nat.zero_le _, rfl, rfl, by omega, by omega, rfl, (row3_alloc w _ _ _ _).cell (i := 2) (by omega), (row3_alloc w _ _ _ _).lt, unhide HBX _⟩
  case round =>
    obtain ⟨k, q, hk, rfl, rfl, hq0, hq1, HQ, hbox, hbs, hb⟩ := hrel
    by_cases hlt : k < ks.length
    · obtain ⟨b, o, c, rfl, hpb, hcell, hrep⟩ := unhide HK k hlt
      have hcell' := hcell.carry (hb.block b (unhide HP b hpb))
      obtain ⟨c0, c1, c2⟩ := c
      obtain ⟨e0, e1, e2⟩ := hcell'
      simp only at e0 e1 e2
      have hmem : ks[k] ∈ t.kids := by rw [unhide HKS]; exact List.getElem_mem hlt
      have hsm : ksz ks[k] < n := by have := ksz_kid hmem; omega
      have hcall := unhide HI ks[k] hsm P ⟨c0, c1, c2⟩ (d + 1) wr (fun b hb' => Nat.lt_of_lt_of_le (unhide HP b hb') hb.size) (KRep.carry (fun b hb' => hb.block b (unhide HP b hb')) (fun _ h => h) _ _ hrep) (by omega) (by omega)
      have hst := qK_step hlt d q
      have hbd := qT_bd ks[k] (d + 1)
      generalize qT ks[k] (d + 1) = r at hcall hst hbd
      have HCALL := hide hcall; have HST := hide hst
      clear hrep hcell hpb hmem hcall hst
      by_cases hbad : r < 0 ∨ 40 < q + r
      · have hfin : qK ks d 1 = -1 := by rw [← HQ.out, unhide HST, if_pos hbad]
        have HFIN := hide hfin; clear hfin
        rcases hbad with hbad | hbad
        · go_wp2_with (go_at_call 44; refine (unhide HCALL).mono ?_; rintro e w2 ⟨rfl, hb2⟩)
          go_ret
          exact ⟨by rw [unhide HKS, unhide HFIN]; rfl, hb.trans (hb2.mono hb.size)⟩
        · have hr0 : 0 ≤ r := by omega
          go_wp2_with (go_at_call 44; refine (unhide HCALL).mono ?_; rintro e w2 ⟨rfl, hb2⟩)
          go_ret
          exact ⟨by rw [unhide HKS, unhide HFIN]; rfl, hb.trans (hb2.mono hb.size)⟩
      · have hr0 : 0 ≤ r := by omega
        have hr1 : q + r ≤ 40 := by omega
        have hfin : qK (ks.drop (k + 1)) d (q + r) = qK ks d 1 := by rw [← HQ.out, unhide HST, if_neg hbad]
        have HFIN := hide hfin
        clear hfin hbad
        go_wp2_with (go_at_call 44; refine (unhide HCALL).mono ?_; rintro e w2 ⟨rfl, hb2⟩)
        go_roundw
        case rel => exact ⟨k + 1, _, by omega, by go_num, rfl, by omega, by omega, unhide HFIN, by rw [hb2.cell hbs]; exact hbox, Nat.lt_of_lt_of_le hbs hb2.size, hb.trans (hb2.mono hb.size)⟩
        case measure => simp [intOf]; omega
    · go_wp2_with fail
      go_ret
      refine ⟨?_, hb⟩
      rw [unhide HKS, ← HQ.out, List.drop_of_length_le (by omega), qK]
      rfl

set_option maxHeartbeats 800000 in
theorem l2Parts_maybe (n : Nat) (IH : KPartsSaid n) (t : Kd) (hn : ksz t < n + 1) (P : Nat → Prop) (c : C3) (d : Int) (w : World) (hP : ∀ b, P b → b < w.heap.size) (hrep : KRep P w t c) (hd0 : 1 ≤ d) (hd1 : d ≤ 6) (hsh : shB t = true) (hs : t.sort = 6) :
    Calls Tryz.prog 44 #[.agg #[c.c0, c.c1, c.c2], .int .i64 d] w fun e w' => e = .returned (.int .i64 (qK t.kids d 1)) ∧ Below w.heap.size w w' := by
  obtain ⟨c0, c1, c2⟩ := c
  obtain ⟨e0, -, hns, a, cap, e2, hlen, hks⟩ := hrep.open
  simp only at e0 e2 hns
  have HN := hide hns
  obtain ⟨a3, cap3, e1, hl3, -⟩ := hns
  subst e0 e1 e2
  have HP := hide hP; have HI := hide IH; have HK := hide hks
  clear hrep hP IH hks
  have hbx : ∀ o, Below w.heap.size w (w.alloc o) := fun o => (Below.refl _ _).alloc (Nat.le_refl _) o
  have HBX := hide hbx; clear hbx
  have b1 : (t.sort == 5) = false := by simp [hs]
  have b2 : (t.sort != 5) = true := by simp [hs]
  have b3 : (t.sort == 4) = false := by simp [hs]
  have b4 : (t.sort == 6) = true := by simp [hs]
  have b5 : decide (t.sort < 4) = false := by simp [hs]
  have b6 : decide ((1 : Int) ≤ t.sort ∧ t.sort ≤ 6) = true := by simp [hs]
  have hkn : t.kids.length = 1 ∧ t.names.length = 0 := by
    rw [shB, if_neg (by omega), if_pos (by omega)] at hsh
    exact of_decide_eq_true hsh
  obtain ⟨hkl, hnl⟩ := hkn
  have b7 : decide ((0 : Int) < (t.names.length : Int)) = false := decide_eq_false (by omega)
  have b9 : decide (0 < t.names.length) = false := decide_eq_false (by omega)
  have b8 : ((t.kids.length : Int) != 1) = false := by simp; omega
  clear hs hsh hkl hnl
  go_enter Tryz.func44, Tryz.ntmps44
  go_wp2_with (first
    | (go_at_call 68; refine (l6In_any _ _ _ _).mono ?_; rintro e w' ⟨rfl, rfl⟩))
  generalize hks : t.kids = ks at *
  have HKS := hide hks; clear hks
  go_loopw [6, 7] (fun m i wr => ∃ (k : Nat) (q : Int), k ≤ ks.length ∧ i = .int .i64 k ∧ m = .int .i64 q ∧ 1 ≤ q ∧ q ≤ 40 ∧ Hid (qK (ks.drop k) d q = qK ks d 1) ∧ wr.cell? ⟨w.heap.size, 2, none⟩ = some (.slice a ks.length cap) ∧ w.heap.size < wr.heap.size ∧ Below w.heap.size w wr) (fun _ i _ => ks.length - (intOf i).toNat)
  case atStart => exact ⟨0, 1, Nat.zero_le _, rfl, rfl, by omega, by omega, rfl, (row3_alloc w _ _ _ _).cell (i := 2) (by omega), (row3_alloc w _ _ _ _).lt, unhide HBX _⟩
  case round =>
    obtain ⟨k, q, hk, rfl, rfl, hq0, hq1, HQ, hbox, hbs, hb⟩ := hrel
    by_cases hlt : k < ks.length
    · obtain ⟨b, o, c, rfl, hpb, hcell, hrep⟩ := unhide HK k hlt
      have hcell' := hcell.carry (hb.block b (unhide HP b hpb))
      obtain ⟨c0, c1, c2⟩ := c
      obtain ⟨e0, e1, e2⟩ := hcell'
      simp only at e0 e1 e2
      have hmem : ks[k] ∈ t.kids := by rw [unhide HKS]; exact List.getElem_mem hlt
      have hsm : ksz ks[k] < n := by have := ksz_kid hmem; omega
      have hcall := unhide HI ks[k] hsm P ⟨c0, c1, c2⟩ (d + 1) wr (fun b hb' => Nat.lt_of_lt_of_le (unhide HP b hb') hb.size) (KRep.carry (fun b hb' => hb.block b (unhide HP b hb')) (fun _ h => h) _ _ hrep) (by omega) (by omega)
      have hst := qK_step hlt d q
      have hbd := qT_bd ks[k] (d + 1)
      generalize qT ks[k] (d + 1) = r at hcall hst hbd
      have HCALL := hide hcall; have HST := hide hst
      clear hrep hcell hpb hmem hcall hst
      by_cases hbad : r < 0 ∨ 40 < q + r
      · have hfin : qK ks d 1 = -1 := by rw [← HQ.out, unhide HST, if_pos hbad]
        have HFIN := hide hfin; clear hfin
        rcases hbad with hbad | hbad
        · go_wp2_with (go_at_call 44; refine (unhide HCALL).mono ?_; rintro e w2 ⟨rfl, hb2⟩)
          go_ret
          exact ⟨by rw [unhide HKS, unhide HFIN]; rfl, hb.trans (hb2.mono hb.size)⟩
        · have hr0 : 0 ≤ r := by omega
          go_wp2_with (go_at_call 44; refine (unhide HCALL).mono ?_; rintro e w2 ⟨rfl, hb2⟩)
          go_ret
          exact ⟨by rw [unhide HKS, unhide HFIN]; rfl, hb.trans (hb2.mono hb.size)⟩
      · have hr0 : 0 ≤ r := by omega
        have hr1 : q + r ≤ 40 := by omega
        have hfin : qK (ks.drop (k + 1)) d (q + r) = qK ks d 1 := by rw [← HQ.out, unhide HST, if_neg hbad]
        have HFIN := hide hfin
        clear hfin hbad
        go_wp2_with (go_at_call 44; refine (unhide HCALL).mono ?_; rintro e w2 ⟨rfl, hb2⟩)
        go_roundw
        case rel => exact ⟨k + 1, _, by omega, by go_num, rfl, by omega, by omega, unhide HFIN, by rw [hb2.cell hbs]; exact hbox, Nat.lt_of_lt_of_le hbs hb2.size, hb.trans (hb2.mono hb.size)⟩
        case measure => simp [intOf]; omega
    · go_wp2_with fail
      go_ret
      refine ⟨?_, hb⟩
      rw [unhide HKS, ← HQ.out, List.drop_of_length_le (by omega), qK]
      rfl

set_option maxHeartbeats 800000 in
theorem l2Parts_form (n : Nat) (IH : KPartsSaid n) (t : Kd) (hn : ksz t < n + 1) (P : Nat → Prop) (c : C3) (d : Int) (w : World) (hP : ∀ b, P b → b < w.heap.size) (hrep : KRep P w t c) (hd0 : 1 ≤ d) (hd1 : d ≤ 6) (hsh : shB t = true) (hs : t.sort = 5) :
    Calls Tryz.prog 44 #[.agg #[c.c0, c.c1, c.c2], .int .i64 d] w fun e w' => e = .returned (.int .i64 (qK t.kids d 1)) ∧ Below w.heap.size w w' := by
  obtain ⟨c0, c1, c2⟩ := c
  obtain ⟨e0, -, hns, a, cap, e2, hlen, hks⟩ := hrep.open
  simp only at e0 e2 hns
  have HN := hide hns
  obtain ⟨a3, cap3, e1, hl3, -⟩ := hns
  subst e0 e1 e2
  have HP := hide hP; have HI := hide IH; have HK := hide hks
  clear hrep hP IH hks
  have hbx : ∀ o, Below w.heap.size w (w.alloc o) := fun o => (Below.refl _ _).alloc (Nat.le_refl _) o
  have HBX := hide hbx; clear hbx
  have b1 : (t.sort == 5) = true := by simp [hs]
  have b2 : (t.sort != 5) = false := by simp [hs]
  have b3 : (t.sort == 4) = false := by simp [hs]
  have b4 : (t.sort == 6) = false := by simp [hs]
  have b5 : decide (t.sort < 4) = false := by simp [hs]
  have b6 : decide ((1 : Int) ≤ t.sort ∧ t.sort ≤ 6) = true := by simp [hs]
  have hkn : t.kids.length = t.names.length ∧ riseB t.names = true := by
    simpa [shB, hs] using hsh
  obtain ⟨hkl, hri⟩ := hkn
  have b8 : ((t.names.length : Int) != (t.kids.length : Int)) = false := by simp; omega
  have hcall : ∀ o, Calls Tryz.prog 69 #[.slice a3 t.names.length cap3] (w.alloc o) fun e w' => e = .returned (.bool true) ∧ Below (w.alloc o).heap.size (w.alloc o) w' := fun o => by
    have := l1Rise_any _ t.names (w.alloc o) (P := P) (fun b hb => Nat.lt_of_lt_of_le (unhide HP b hb) (unhide HBX o).size) ((unhide HN).carry (fun b hb => (unhide HBX o).block b (unhide HP b hb)) (fun _ h => h))
    rw [hri] at this
    exact this
  have HC := hide hcall; clear hcall
  clear hs hsh hkl hri
  go_enter Tryz.func44, Tryz.ntmps44
  go_wp2_with (first
    | (go_at_call 68; refine (l6In_any _ _ _ _).mono ?_; rintro e w' ⟨rfl, rfl⟩)
    | (go_at_call 69
       refine (unhide HC _).mono ?_
       rintro e w' ⟨rfl, hb'⟩
       obtain ⟨q0, -, hb0⟩ := kbox1 hb'
       have k0 := q0.cell (i := 0) (by omega)
       have k1 := q0.cell (i := 1) (by omega)
       have k2 := q0.cell (i := 2) (by omega)
       simp only [row3] at k0 k1 k2
       have Q0 := hide q0; have HB0 := hide hb0
       clear q0 hb0 hb'))
  generalize hks : t.kids = ks at *
  have HKS := hide hks; clear hks
  go_loopw [6, 7] (fun m i wr => ∃ (k : Nat) (q : Int), k ≤ ks.length ∧ i = .int .i64 k ∧ m = .int .i64 q ∧ 1 ≤ q ∧ q ≤ 40 ∧ Hid (qK (ks.drop k) d q = qK ks d 1) ∧ wr.cell? ⟨w.heap.size, 2, none⟩ = some (.slice a ks.length cap) ∧ w.heap.size < wr.heap.size ∧ Below w.heap.size w wr) (fun _ i _ => ks.length - (intOf i).toNat)
  case atStart => exact ⟨0, 1, Nat.zero_le _, rfl, rfl, by omega, by omega, rfl, k2, (unhide Q0).lt, unhide HB0⟩
  case round =>
    obtain ⟨k, q, hk, rfl, rfl, hq0, hq1, HQ, hbox, hbs, hb⟩ := hrel
    by_cases hlt : k < ks.length
    · obtain ⟨b, o, c, rfl, hpb, hcell, hrep⟩ := unhide HK k hlt
      have hcell' := hcell.carry (hb.block b (unhide HP b hpb))
      obtain ⟨c0, c1, c2⟩ := c
      obtain ⟨e0, e1, e2⟩ := hcell'
      simp only at e0 e1 e2
      have hmem : ks[k] ∈ t.kids := by rw [unhide HKS]; exact List.getElem_mem hlt
      have hsm : ksz ks[k] < n := by have := ksz_kid hmem; omega
      have hcall := unhide HI ks[k] hsm P ⟨c0, c1, c2⟩ (d + 1) wr (fun b hb' => Nat.lt_of_lt_of_le (unhide HP b hb') hb.size) (KRep.carry (fun b hb' => hb.block b (unhide HP b hb')) (fun _ h => h) _ _ hrep) (by omega) (by omega)
      have hst := qK_step hlt d q
      have hbd := qT_bd ks[k] (d + 1)
      generalize qT ks[k] (d + 1) = r at hcall hst hbd
      have HCALL := hide hcall; have HST := hide hst
      clear hrep hcell hpb hmem hcall hst
      by_cases hbad : r < 0 ∨ 40 < q + r
      · have hfin : qK ks d 1 = -1 := by rw [← HQ.out, unhide HST, if_pos hbad]
        have HFIN := hide hfin; clear hfin
        rcases hbad with hbad | hbad
        · go_wp2_with (go_at_call 44; refine (unhide HCALL).mono ?_; rintro e w2 ⟨rfl, hb2⟩)
          go_ret
          exact ⟨by rw [unhide HKS, unhide HFIN]; rfl, hb.trans (hb2.mono hb.size)⟩
        · have hr0 : 0 ≤ r := by omega
          go_wp2_with (go_at_call 44; refine (unhide HCALL).mono ?_; rintro e w2 ⟨rfl, hb2⟩)
          go_ret
          exact ⟨by rw [unhide HKS, unhide HFIN]; rfl, hb.trans (hb2.mono hb.size)⟩
      · have hr0 : 0 ≤ r := by omega
        have hr1 : q + r ≤ 40 := by omega
        have hfin : qK (ks.drop (k + 1)) d (q + r) = qK ks d 1 := by rw [← HQ.out, unhide HST, if_neg hbad]
        have HFIN := hide hfin
        clear hfin hbad
        go_wp2_with (go_at_call 44; refine (unhide HCALL).mono ?_; rintro e w2 ⟨rfl, hb2⟩)
        go_roundw
        case rel => exact ⟨k + 1, _, by omega, by go_num, rfl, by omega, by omega, unhide HFIN, by rw [hb2.cell hbs]; exact hbox, Nat.lt_of_lt_of_le hbs hb2.size, hb.trans (hb2.mono hb.size)⟩
        case measure => simp [intOf]; omega
    · go_wp2_with fail
      go_ret
      refine ⟨?_, hb⟩
      rw [unhide HKS, ← HQ.out, List.drop_of_length_le (by omega), qK]
      rfl

theorem l2Parts_step (n : Nat) (IH : KPartsSaid n) : KPartsSaid (n + 1) := by
  intro t hn P c d w hP hrep hd0 hd1
  rw [qT_eq]
  by_cases hno : 6 < d ∨ shB t = false
  · rw [if_pos hno]; exact l2Parts_no t P c d w hP hrep hno
  · rw [if_neg hno]
    have hd6 : d ≤ 6 := by omega
    have hsh : shB t = true := by
      cases h : shB t
      · exact absurd (Or.inr h) hno
      · rfl
    by_cases h4 : t.sort = 4
    · exact l2Parts_list n IH t hn P c d w hP hrep hd0 hd6 hsh h4
    by_cases h6 : t.sort = 6
    · exact l2Parts_maybe n IH t hn P c d w hP hrep hd0 hd6 hsh h6
    by_cases h5 : t.sort = 5
    · exact l2Parts_form n IH t hn P c d w hP hrep hd0 hd6 hsh h5
    by_cases hl : t.sort = 1 ∨ t.sort = 2 ∨ t.sort = 3
    · exact l2Parts_leaf n IH t hn P c d w hP hrep hd0 hd6 hsh hl
    · rw [shB, if_neg hl, if_neg (by omega), if_neg h5] at hsh
      cases hsh

theorem l2Parts_all : ∀ n, KPartsSaid n
  | 0 => fun t h => by omega
  | n + 1 => l2Parts_step n (l2Parts_all n)

set_option maxHeartbeats 400000 in
theorem specKindOk_any (t : Kd) (P : Nat → Prop) (c : C3) (w : World) (hP : ∀ b, P b → b < w.heap.size) (hrep : KRep P w t c) :
    Calls Tryz.prog 22 #[.agg #[c.c0, c.c1, c.c2]] w fun e w' => e = .returned (.bool (decide (0 < qT t 1))) ∧ Below w.heap.size w w' := by
  have hbx : ∀ o, Below w.heap.size w (w.alloc o) := fun o => (Below.refl _ _).alloc (Nat.le_refl _) o
  have hcall : ∀ o, Calls Tryz.prog 44 #[.agg #[c.c0, c.c1, c.c2], .int .i64 1] (w.alloc o) fun e w' => e = .returned (.int .i64 (qT t 1)) ∧ Below w.heap.size w w' := fun o =>
    (l2Parts_all (ksz t + 1) t (by omega) P c 1 (w.alloc o) (fun b hb => Nat.lt_of_lt_of_le (hP b hb) (hbx o).size) (KRep.carry (fun b hb => (hbx o).block b (hP b hb)) (fun _ h => h) _ _ hrep) (by omega) (by omega)).mono
      fun e w' ⟨h1, h2⟩ => ⟨h1, (hbx o).trans (h2.mono (hbx o).size)⟩
  generalize qT t 1 = r at *
  have HCALL := hide hcall
  clear hbx hcall hP hrep
  go_enter Tryz.func22, Tryz.ntmps22
  go_wp2_with (go_at_call 44; refine (unhide HCALL _).mono ?_; rintro e w2 ⟨rfl, hb2⟩)
  go_ret
  exact ⟨rfl, hb2⟩

end Go.Proofs.YtenpghndgdemnaaGreatDoor
