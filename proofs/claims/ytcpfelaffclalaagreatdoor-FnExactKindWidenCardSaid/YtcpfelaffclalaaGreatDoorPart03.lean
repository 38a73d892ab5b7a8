/- Whether a tree is of a schema, as a function on data; trees all of whose parts are ok. Definitions and small laws; no program, no conditions. -/
import Derived.Test.YtcpfelaffclalaaGreatDoorPart00
import Derived.Test.YtcpfelaffclalaaGreatDoorPart02
import Derived.Sort.Walk0
import Derived.Test.YtcpfelaffclalaaGreatDoorPart01
import Derived.Lib.SlicesCompact
import Derived.Lib.Strings
namespace Go.Proofs.YtcpfelaffclalaaGreatDoor
open Go Go.RowKit

mutual
/-- All parts of a tree are ok, the bounds aside. -/
def okH : Tr → Bool
  | .mk s n tx ns ks => aloneB (.mk s n tx ns ks) && okHs ks
def okHs : List Tr → Bool
  | [] => true
  | t :: r => okH t && okHs r
end
theorem okH_eq (t : Tr) : okH t = (aloneB t && okHs t.kids) := by obtain ⟨s, n, tx, ns, ks⟩ := t; rw [okH]; rfl
theorem okHs_get {ks : List Tr} (h : okHs ks = true) (i : Nat) (hi : i < ks.length) : okH ks[i] = true := by
  induction ks generalizing i with
  | nil => simp at hi
  | cons a r ih =>
    rw [okHs, Bool.and_eq_true] at h
    match i with
    | 0 => exact h.1
    | i + 1 => exact ih h.2 i (by simp at hi; omega)
mutual
theorem okH_of_pT : ∀ (t : Tr) (d : Int), 0 ≤ pT t d → okH t = true
  | .mk s n tx ns ks, d => by
    intro h
    rw [pT] at h
    rw [okH]
    split at h
    · omega
    · rename_i hn
      have ha : aloneB (.mk s n tx ns ks) = true := by
        cases e : aloneB (.mk s n tx ns ks)
        · exact absurd (Or.inr e) hn
        · rfl
      rw [ha, okHs_of_pK ks d 1 h]; rfl
theorem okHs_of_pK : ∀ (ks : List Tr) (d n : Int), 0 ≤ pK ks d n → okHs ks = true
  | [], d, n => by intro _; rw [okHs]
  | t :: r, d, n => by
    intro h
    rw [pK] at h
    rw [okHs]
    split at h
    · omega
    · rename_i hn
      rw [okH_of_pT t (d + 1) (by omega), okHs_of_pK r d _ h]; rfl
end

/-- The schema of a tree's kid. -/
def kidOf (k : Kd) (i : Nat) : Kd := if k.sort = 5 then k.kids.getD i (.mk 0 [] []) else k.kids.getD 0 (.mk 0 [] [])
mutual
/-- A tree that is ok is of a schema that is ok. -/
def hT : Tr → Kd → Bool
  | .mk s _ _ ns ks, k => decide (k.sort = s) && decide (k.names = ns) && hK ks k 0
def hK : List Tr → Kd → Nat → Bool
  | [], _, _ => true
  | t :: r, k, i => hT t (kidOf k i) && hK r k (i + 1)
end
theorem hT_eq (t : Tr) (k : Kd) : hT t k = (decide (k.sort = t.sort) && decide (k.names = t.names) && hK t.kids k 0) := by obtain ⟨s, n, tx, ns, ks⟩ := t; rw [hT]; rfl
theorem hK_step {ks : List Tr} {i : Nat} (hi : i < ks.length) (k : Kd) : hK (ks.drop i) k i = (hT ks[i] (kidOf k i) && hK (ks.drop (i + 1)) k (i + 1)) := by
  rw [List.drop_eq_getElem_cons hi, hK]
theorem hK_done (ks : List Tr) (k : Kd) : hK (ks.drop ks.length) k ks.length = true := by rw [List.drop_length, hK]

/-- Where the schema of a kid stands. -/
theorem kid_at {k : Kd} {t : Tr} (hk : shB k = true) (ht : aloneB t = true) (hs : k.sort = t.sort) (hn : k.names = t.names) {i : Nat} (hi : i < t.kids.length) :
    0 < k.kids.length ∧ (k.sort = 5 → i < k.kids.length) := by
  unfold shB at hk
  unfold aloneB at ht
  rw [← hs] at ht
  rw [← hn] at ht
  by_cases h5 : k.sort = 5
  · simp [h5] at hk ht
    have := hk.1; have := ht.1
    exact ⟨by omega, fun _ => by omega⟩
  · refine ⟨?_, fun h => absurd h h5⟩
    by_cases h46 : k.sort = 4 ∨ k.sort = 6
    · have hn123 : ¬ (k.sort = 1 ∨ k.sort = 2 ∨ k.sort = 3) := by omega
      rw [if_neg hn123, if_pos h46] at hk
      have := of_decide_eq_true hk
      omega
    · exfalso
      have ht' : t.kids.length = 0 := by
        by_cases h1 : k.sort = 1
        · simp [h1] at ht; simp [ht]
        by_cases h2 : k.sort = 2
        · simp [h2] at ht; simp [ht]
        by_cases h3 : k.sort = 3
        · simp [h3] at ht; simp [ht]
        · rw [if_neg h1, if_neg h2, if_neg h3, if_neg (by omega), if_neg h5, if_neg (by omega)] at ht
          cases ht
      omega
theorem kidOf_form {k : Kd} (h : k.sort = 5) {i : Nat} (hi : i < k.kids.length) : kidOf k i = k.kids[i] := by
  rw [kidOf, if_pos h]; simp [List.getD, hi]
theorem kidOf_else {k : Kd} (h : k.sort ≠ 5) (i : Nat) (hi : 0 < k.kids.length) : kidOf k i = k.kids[0] := by
  rw [kidOf, if_neg h]; simp [List.getD, hi]
theorem names_ne {a b : List ByteArray} {i : Nat} (h1 : i < a.length) (h2 : i < b.length) (h : a[i] ≠ b[i]) : a ≠ b := by
  intro e; subst e; exact h rfl
theorem names_eq {a b : List ByteArray} (hl : a.length = b.length) (h : ∀ j, (h1 : j < a.length) → (h2 : j < b.length) → a[j] = b[j]) : a = b := List.ext_getElem hl h
theorem lst_loop (s : ByteArray) (n : Nat) : ∀ (i : Nat) (r : List UInt8), s.size - i = n → ByteArray.toList.loop s i r = r.reverse ++ s.data.toList.drop i := by
  induction n with
  | zero =>
    intro i r h
    unfold ByteArray.toList.loop
    rw [if_neg (by omega), List.drop_eq_nil_of_le (by simp only [Array.length_toList]; show s.size ≤ i; omega), List.append_nil]
  | succ n ih =>
    intro i r h
    unfold ByteArray.toList.loop
    have hi : i < s.size := by omega
    have e : s.get! i = s.data.toList[i]'(by simpa using hi) := by
      obtain ⟨d⟩ := s
      exact getElem!_pos d i hi
    have hdrop : s.data.toList.drop i = s.data.toList[i]'(by simpa using hi) :: s.data.toList.drop (i + 1) := List.drop_eq_getElem_cons (by simpa using hi)
    rw [if_pos hi, ih (i + 1) _ (by omega), hdrop, e, List.reverse_cons, List.append_assoc]
    rfl
theorem lst_data (s : ByteArray) : s.toList = s.data.toList := by
  have := lst_loop s s.size 0 [] (by omega)
  rw [List.drop_zero] at this
  exact this
theorem lst_beq (a b : ByteArray) : (a.toList == b.toList) = decide (a = b) := by
  rw [lst_data, lst_data, Bool.eq_iff_iff]
  simp only [beq_iff_eq, decide_eq_true_eq]
  constructor
  · intro h; exact ByteArray.ext (Array.toList_inj.1 h)
  · intro h; rw [h]
/-- What KindHas answers. -/
def hasA (k : Kd) (t : Tr) : Bool := decide (0 < qT k 1) && decide (0 < pT t 1) && hT t k

end Go.Proofs.YtcpfelaffclalaaGreatDoor

/- The walks of kindClaim's holds and of namedKind's kidFor. No conditions but those on the trees' and schemas' shapes that are told. -/

namespace Go.Proofs.YtcpfelaffclalaaGreatDoor
open Go Go.RowKit Go.Maps

def row9 (c : C4) (d : C5) : Nat → Value
  | 0 => c.c0
  | 1 => c.c1
  | 2 => c.c2
  | 3 => c.c3
  | 4 => d.c0
  | 5 => d.c1
  | 6 => d.c2
  | 7 => d.c3
  | _ => d.c4
theorem row9_alloc (w : World) (c : C4) (d : C5) (t : TypeId) : (w.alloc (.cells #[c.c0, c.c1, c.c2, c.c3, d.c0, d.c1, d.c2, d.c3, d.c4] t)).rowIs w.heap.size t 9 (row9 c d) :=
  World.rowIs_alloc w #[c.c0, c.c1, c.c2, c.c3, d.c0, d.c1, d.c2, d.c3, d.c4] t _ (fun i hi => by
    have hi' : i < 9 := hi
    match i, hi' with
    | 0, _ => rfl
    | 1, _ => rfl
    | 2, _ => rfl
    | 3, _ => rfl
    | 4, _ => rfl
    | 5, _ => rfl
    | 6, _ => rfl
    | 7, _ => rfl
    | 8, _ => rfl)

/-- A claim holds, its kids aside. -/
def holdB (k : Kd) (t : Tr) : Bool := decide (k.sort = t.sort) && justB k.names t.names

set_option maxRecDepth 100000 in
set_option maxHeartbeats 800000 in
theorem holds_any (k : Kd) (t : Tr) (P Q : Nat → Prop) (c : C4) (d : C5) (w : World) (hP : ∀ b, P b → b < w.heap.size) (hQ : ∀ b, Q b → b < w.heap.size) (hrep : NRep P w k c) (hrep2 : Rep Q w t d) :
    Calls Tryz.prog 65 #[.agg #[c.c0, c.c1, c.c2, c.c3, d.c0, d.c1, d.c2, d.c3, d.c4]] w fun e w' => e = .returned (.bool (holdB k t)) ∧ Below w.heap.size w w' := by
  obtain ⟨c0, c1, c2, c3⟩ := c
  obtain ⟨d0, d1, d2, d3, d4⟩ := d
  obtain ⟨e0, -, ⟨a3, cap3, e1, -, -⟩, ⟨B, e2, hPB, hm⟩, a, cap, e3, -, -⟩ := hrep.open
  obtain ⟨g0, g1, g2, -, -, -, hns, a6, cap6, g4, -, -⟩ := hrep2.open
  simp only at e0 e1 e2 e3 g0 g1 g2 g4 hns
  have HNS := hide hns
  obtain ⟨a5, cap5, g3, -, -⟩ := hns
  subst e0 e1 e2 e3 g0 g1 g2 g3 g4
  have hb0 : ∀ o, Below w.heap.size w (w.alloc o) := fun o => (Below.refl _ _).alloc (Nat.le_refl _) o
  have hcall := fun o => hasJust_any a3 cap3 B k.names (.slice a5 t.names.length cap5) t.names (w.alloc o) (P := Q) (fun b hb => Nat.lt_of_lt_of_le (hQ b hb) (hb0 o).size) ((unhide HNS).carry (fun b hb => (hb0 o).block b (hQ b hb)) (fun _ h => h)) (hm.carry ((hb0 o).block B (hP B hPB)))
  have HCALL := hide hcall; have HB0 := hide hb0
  clear hcall hb0 hrep hrep2 hP hQ hPB hm
  by_cases hs : k.sort = t.sort
  · have hh : holdB k t = justB k.names t.names := by rw [holdB, decide_eq_true hs, Bool.true_and]
    rw [hh]
    simp only [hs]
    clear hs hh
    generalize justB k.names t.names = r at *
    go_enter Tryz.func65, Tryz.ntmps65
    go_wp2_with (go_at_call 100; refine (unhide HCALL _).mono ?_; rintro e w1 ⟨rfl, hb1⟩)
    go_ret
    exact ⟨rfl, (unhide HB0 _).trans (hb1.mono (unhide HB0 _).size)⟩
  · have hh : holdB k t = false := by rw [holdB, decide_eq_false hs, Bool.false_and]
    rw [hh]
    clear hh HCALL
    go_enter Tryz.func65, Tryz.ntmps65
    go_wp2_with fail
    go_ret
    exact ⟨rfl, unhide HB0 _⟩
end Go.Proofs.YtcpfelaffclalaaGreatDoor

/- Of names that rise: they are just the kept ones, if and only if they are the same. No program, no conditions. -/

namespace Go.Proofs.YtcpfelaffclalaaGreatDoor
open Go Go.RowKit Go.Maps

def nlt (a b : ByteArray) : Prop := Op.bytesLess a.toList b.toList = true
theorem nlt_iff (a b : ByteArray) : nlt a b ↔ a.toList < b.toList := by unfold nlt; rw [bytesLess_eq, decide_eq_true_eq]
theorem nlt_irrefl (a : ByteArray) : ¬ nlt a a := by rw [nlt_iff]; exact List.lt_irrefl _
theorem nlt_trans {a b c : ByteArray} (h : nlt a b) (k : nlt b c) : nlt a c := by
  rw [nlt_iff] at *; exact List.lt_trans h k

theorem rise_step {ns : List ByteArray} (h : riseB ns = true) (i : Nat) (hi : i + 1 < ns.length) : nlt ns[i] ns[i + 1] := by
  unfold riseB at h
  rw [List.all_eq_true] at h
  have hg := h (i + 1) (List.mem_range.2 hi)
  unfold good at hg
  rw [Bool.and_eq_true, getD_lt _ _ hi, getD_lt _ _ (show i + 1 - 1 < ns.length by omega)] at hg
  have := hg.2
  rw [decide_eq_false (by omega), Bool.false_or] at this
  exact this
theorem rise_lt {ns : List ByteArray} (h : riseB ns = true) (i : Nat) : ∀ (d : Nat) (hd : i + d + 1 < ns.length), nlt (ns[i]'(by omega)) ns[i + d + 1]
  | 0, hd => rise_step h i hd
  | d + 1, hd => nlt_trans (rise_lt h i d (by omega)) (rise_step h (i + d + 1) hd)
theorem rise_pairs {ns : List ByteArray} (h : riseB ns = true) : ns.Pairwise nlt := by
  rw [List.pairwise_iff_getElem]
  intro i j hi hj hij
  obtain ⟨d, rfl⟩ : ∃ d, j = i + d + 1 := ⟨j - i - 1, by omega⟩
  exact rise_lt h i d hj
theorem rise_nodup {ns : List ByteArray} (h : riseB ns = true) : ns.Nodup :=
  (rise_pairs h).imp (fun {a b} hab e => by subst e; exact nlt_irrefl _ hab)
theorem rise_sub : ∀ (ns ms : List ByteArray), ns.Pairwise nlt → ms.Pairwise nlt → (∀ x, x ∈ ms → x ∈ ns) → ms.Sublist ns
  | [], [], _, _, _ => List.Sublist.slnil
  | [], b :: s, _, _, h => by have := h b (by simp); simp at this
  | a :: r, [], _, _, _ => List.nil_sublist _
  | a :: r, b :: s, h1, h2, h => by
    rw [List.pairwise_cons] at h1
    have h2' := h2
    rw [List.pairwise_cons] at h2'
    by_cases e : b = a
    · subst e
      refine List.Sublist.cons_cons _ (rise_sub r s h1.2 h2'.2 (fun x hx => ?_))
      rcases List.mem_cons.1 (h x (List.mem_cons_of_mem _ hx)) with rfl | hr
      · exact absurd (h2'.1 x hx) (nlt_irrefl _)
      · exact hr
    · have hb : b ∈ r := (List.mem_cons.1 (h b (by simp))).resolve_left e
      refine List.Sublist.cons _ (rise_sub r (b :: s) h1.2 h2 (fun x hx => ?_))
      rcases List.mem_cons.1 (h x hx) with rfl | hr
      · rcases List.mem_cons.1 hx with rfl | hs
        · exact absurd rfl e
        · exact absurd (nlt_trans (h1.1 b hb) (h2'.1 x hs)) (nlt_irrefl _)
      · exact hr
theorem just_iff {ns ms : List ByteArray} (h1 : riseB ns = true) (h2 : riseB ms = true) : justB ns ms = decide (ns = ms) := by
  rw [Bool.eq_iff_iff, justB, Bool.and_eq_true, List.all_eq_true, decide_eq_true_eq, decide_eq_true_eq]
  constructor
  · rintro ⟨ha, hl⟩
    refine ((rise_sub ns ms (rise_pairs h1) (rise_pairs h2) (fun x hx => ?_)).eq_of_length hl).symm
    have := (has_nmap ns x ns.length (Nat.le_refl _)).1 (ha x hx)
    rwa [List.take_length] at this
  · rintro rfl
    exact ⟨fun x hx => (has_nmap ns x ns.length (Nat.le_refl _)).2 (by rw [List.take_length]; exact hx), rfl⟩

theorem hold_eq {k : Kd} {t : Tr} (hk : shB k = true) (ht : aloneB t = true) : holdB k t = (decide (k.sort = t.sort) && decide (k.names = t.names)) := by
  by_cases hs : k.sort = t.sort
  · rw [holdB]
    congr 1
    by_cases h5 : k.sort = 5
    · have h1 : riseB k.names = true := by
        rcases shB_cases hk with ⟨h, -⟩ | ⟨h, -⟩ | ⟨-, -, h⟩
        · omega
        · omega
        · exact h
      have h2 : riseB t.names = true := by
        have ht5 : t.sort = 5 := by omega
        unfold aloneB at ht
        simp [ht5] at ht
        exact ht.2
      exact just_iff h1 h2
    · have h1 : k.names = [] := by
        rcases shB_cases hk with ⟨-, -, h⟩ | ⟨-, -, h⟩ | ⟨h, -⟩
        · exact List.eq_nil_of_length_eq_zero h
        · exact List.eq_nil_of_length_eq_zero h
        · exact absurd h h5
      have h2 : t.names = [] := by
        have ht5 : t.sort ≠ 5 := by omega
        unfold aloneB at ht
        apply List.eq_nil_of_length_eq_zero
        by_cases e1 : t.sort = 1
        · simp [e1] at ht; simp [ht]
        by_cases e2 : t.sort = 2
        · simp [e2] at ht; simp [ht]
        by_cases e3 : t.sort = 3
        · simp [e3] at ht; simp [ht]
        by_cases e4 : t.sort = 4
        · simp [e4] at ht; simp [ht]
        by_cases e6 : t.sort = 6
        · simp [e6] at ht; simp [ht]
        · rw [if_neg e1, if_neg e2, if_neg e3, if_neg e4, if_neg ht5, if_neg e6] at ht; cases ht
      rw [h1, h2]
      simp [justB]
  · rw [holdB, decide_eq_false hs]; rfl
end Go.Proofs.YtcpfelaffclalaaGreatDoor

/- The names of two forms, in order and each once; where a name lies among names that rise. No program, no conditions. -/

namespace Go.Proofs.YtcpfelaffclalaaGreatDoor
open Go Go.RowKit

/-- Of a row whose neighbours' doubles go nothing is lost. -/
theorem cmp_mem_upto (d : Array (List UInt8)) (x : List UInt8) : ∀ m, x ∈ Lib.compactUpTo d m ↔ ∃ j, j < m ∧ d[j]! = x
  | 0 => by simp [Lib.compactUpTo]
  | m + 1 => by
    rw [Lib.compactUpTo_succ, List.mem_append, cmp_mem_upto d x m]
    by_cases hk : Lib.keeps d m = true
    · rw [if_pos hk]
      constructor
      · rintro (⟨j, hj, e⟩ | h)
        · exact ⟨j, by omega, e⟩
        · exact ⟨m, by omega, (List.mem_singleton.1 h).symm⟩
      · rintro ⟨j, hj, e⟩
        by_cases h : j = m
        · subst h; exact Or.inr (List.mem_singleton.2 e.symm)
        · exact Or.inl ⟨j, by omega, e⟩
    · rw [if_neg hk]
      have hk2 : m ≠ 0 ∧ d[m]! = d[m - 1]! := by
        unfold Lib.keeps at hk
        rw [decide_eq_true_eq] at hk
        refine ⟨fun h => hk (Or.inl h), ?_⟩
        by_cases h : d[m]! = d[m - 1]!
        · exact h
        · exact absurd (Or.inr h) hk
      constructor
      · rintro (⟨j, hj, e⟩ | h)
        · exact ⟨j, by omega, e⟩
        · cases h
      · rintro ⟨j, hj, e⟩
        by_cases h : j = m
        · subst h; exact Or.inl ⟨j - 1, by omega, by rw [← hk2.2]; exact e⟩
        · exact Or.inl ⟨j, by omega, e⟩
theorem cmp_mem {zs : List (List UInt8)} {x : List UInt8} : x ∈ Lib.compact zs ↔ x ∈ zs := by
  unfold Lib.compact
  rw [cmp_mem_upto, List.mem_iff_getElem]
  constructor
  · rintro ⟨j, hj, e⟩
    exact ⟨j, hj, by rw [← e]; simp [hj]⟩
  · rintro ⟨j, hj, e⟩
    exact ⟨j, hj, by rw [← e]; simp [hj]⟩
theorem le_ne_lt {a b : List UInt8} (h : a ≤ b) (hne : b ≠ a) : a < b := by
  rcases Classical.em (a < b) with h1 | h1
  · exact h1
  · exact absurd (List.le_antisymm (List.not_lt.1 h1) h) hne
theorem cmp_rise_upto (d : Array (List UInt8)) (hs : ∀ i j, i < j → j < d.size → d[i]! ≤ d[j]!) : ∀ m, m ≤ d.size → (Lib.compactUpTo d m).Pairwise (· < ·) ∧ ∀ x, x ∈ Lib.compactUpTo d m → x ≤ d[m - 1]!
  | 0, _ => by simp [Lib.compactUpTo]
  | m + 1, hm => by
    obtain ⟨h1, h2⟩ := cmp_rise_upto d hs m (by omega)
    have hle : ∀ x, x ∈ Lib.compactUpTo d m → x ≤ d[m]! := fun x hx => by
      have h0 : m ≠ 0 := by rintro rfl; simp [Lib.compactUpTo] at hx
      exact List.le_trans (h2 x hx) (hs (m - 1) m (by omega) (by omega))
    rw [Lib.compactUpTo_succ]
    by_cases hk : Lib.keeps d m = true
    · rw [if_pos hk, List.pairwise_append]
      refine ⟨⟨h1, List.pairwise_singleton _ _, fun x hx y hy => ?_⟩, fun x hx => ?_⟩
      · rw [List.mem_singleton.1 hy]
        have h0 : m ≠ 0 := by rintro rfl; simp [Lib.compactUpTo] at hx
        unfold Lib.keeps at hk
        rw [decide_eq_true_eq] at hk
        have hne := hk.resolve_left h0
        have h3 : d[m - 1]! < d[m]! := le_ne_lt (hs (m - 1) m (by omega) (by omega)) hne
        exact List.lt_of_le_of_lt (h2 x hx) h3
      · rcases List.mem_append.1 hx with h | h
        · exact hle x h
        · rw [List.mem_singleton.1 h]; exact List.le_refl _
    · rw [if_neg hk, List.append_nil]
      exact ⟨h1, fun x hx => hle x hx⟩
theorem cmp_rise {zs : List (List UInt8)} (h : zs.Pairwise fun x y => decide (x ≤ y) = true) : (Lib.compact zs).Pairwise (· < ·) := by
  refine (cmp_rise_upto zs.toArray (fun i j hij hj => ?_) zs.length (by simp)).1
  have hj' : j < zs.length := by simpa using hj
  have := List.pairwise_iff_getElem.1 h i j (by omega) hj' hij
  rw [decide_eq_true_eq] at this
  simpa [hj', show i < zs.length by omega] using this
/-- The names of both, in order, each once. -/
def srtS (zs : List (List UInt8)) : List (List UInt8) := zs.mergeSort fun x y => decide (x ≤ y)
theorem srtS_rise (zs : List (List UInt8)) : (srtS zs).Pairwise fun x y => decide (x ≤ y) = true :=
  List.pairwise_mergeSort (le := fun (x y : List UInt8) => decide (x ≤ y)) (fun a b c h1 h2 => by rw [decide_eq_true_eq] at *; exact List.le_trans h1 h2) (fun a b => by simpa using List.le_total a b) zs
theorem srtS_mem {zs : List (List UInt8)} {x : List UInt8} : x ∈ srtS zs ↔ x ∈ zs := (List.mergeSort_perm zs _).mem_iff
theorem srtS_len (zs : List (List UInt8)) : (srtS zs).length = zs.length := (List.mergeSort_perm zs _).length_eq
def uniL (an bn : List ByteArray) : List (List UInt8) := Lib.compact (srtS ((an ++ bn).map ByteArray.toList))
def uniN (an bn : List ByteArray) : List ByteArray := (uniL an bn).map fun l => ⟨l.toArray⟩
theorem ba_of (x : ByteArray) : (⟨x.toList.toArray⟩ : ByteArray) = x := by rw [Lib.toList_data]
theorem ba_to (l : List UInt8) : (⟨l.toArray⟩ : ByteArray).toList = l := by rw [Lib.toList_data]
theorem uniN_mem {an bn : List ByteArray} (nm : ByteArray) : nm ∈ uniN an bn ↔ nm ∈ an ∨ nm ∈ bn := by
  unfold uniN uniL
  rw [List.mem_map, ← List.mem_append]
  constructor
  · rintro ⟨l, hl, rfl⟩
    rw [cmp_mem, srtS_mem, List.mem_map] at hl
    obtain ⟨y, hy, rfl⟩ := hl
    rw [ba_of]; exact hy
  · intro h
    exact ⟨nm.toList, by rw [cmp_mem, srtS_mem]; exact List.mem_map_of_mem h, ba_of nm⟩
theorem uniN_rise (an bn : List ByteArray) : (uniN an bn).Pairwise nlt := by
  unfold uniN
  rw [List.pairwise_map]
  refine (cmp_rise (srtS_rise _)).imp (fun {a b} h => ?_)
  rw [nlt_iff, ba_to, ba_to]
  exact h
theorem uniL_len (an bn : List ByteArray) : (uniL an bn).length ≤ an.length + bn.length := by
  unfold uniL Lib.compact Lib.compactUpTo
  rw [List.length_map]
  refine Nat.le_trans (List.length_filter_le _ _) ?_
  rw [List.length_range, srtS_len]
  simp
theorem uniN_len (an bn : List ByteArray) : (uniN an bn).length = (uniL an bn).length := by unfold uniN; rw [List.length_map]
/-- Where a name is, or would be, among names that rise. -/
theorem bs_place {ns : List ByteArray} (hr : ns.Pairwise nlt) (x : ByteArray) : ∃ k, k ≤ ns.length ∧ (∀ t, t < k → Op.bytesLess (ns.getD t x).toList x.toList = true) ∧ (∀ t, k ≤ t → Op.bytesLess (ns.getD t x).toList x.toList = false) := by
  refine ⟨ns.findIdx (fun y => !Op.bytesLess y.toList x.toList), List.findIdx_le_length, fun t ht => ?_, fun t ht => ?_⟩
  · have hl : t < ns.length := Nat.lt_of_lt_of_le ht List.findIdx_le_length
    have := List.not_of_lt_findIdx ht
    rw [List.getD_eq_getElem?_getD, List.getElem?_eq_getElem hl, Option.getD_some]
    simpa using this
  · by_cases hl : t < ns.length
    · rw [List.getD_eq_getElem?_getD, List.getElem?_eq_getElem hl, Option.getD_some]
      have hk : ns.findIdx (fun y => !Op.bytesLess y.toList x.toList) < ns.length := by omega
      have h0 := List.findIdx_getElem (w := hk)
      by_cases e : ns.findIdx (fun y => !Op.bytesLess y.toList x.toList) = t
      · subst e; simpa using h0
      · have h1 := List.pairwise_iff_getElem.1 hr _ t hk hl (by omega)
        rw [Bool.eq_false_iff]
        intro h2
        have h3 := nlt_trans h1 h2
        rw [nlt] at h3
        rw [h3] at h0
        cases h0
    · rw [List.getD_eq_getElem?_getD, List.getElem?_eq_none (by omega), Option.getD_none, less_irr]
/-- The kid of a name, found so. -/
theorem kidZ_at {k : Kd} {x : ByteArray} {i : Nat} (hr : k.names.Pairwise nlt) (hl : k.kids.length = k.names.length) (hi : i < k.names.length) (h : k.names[i] = x) : kidZ k x = k.kids[i]'(by omega) := by
  unfold kidZ
  rw [← h, kidN_at (hr.imp (fun {a b} hab e => by subst e; exact nlt_irrefl _ hab)) hl hi]
  rfl
theorem kidZ_not {k : Kd} {x : ByteArray} {i : Nat} (hr : k.names.Pairwise nlt) (h1 : ∀ t, t < i → Op.bytesLess (k.names.getD t x).toList x.toList = true) (h2 : ∀ t, i ≤ t → Op.bytesLess (k.names.getD t x).toList x.toList = false) (hn : ¬ (i < k.names.length ∧ k.names.getD i x = x)) : kidZ k x = kd0 ∧ x ∉ k.names := by
  have hx : x ∉ k.names := fun hm => by
    obtain ⟨j, hj, e⟩ := List.mem_iff_getElem.1 hm
    have ej : k.names.getD j x = x := by rw [List.getD_eq_getElem?_getD, List.getElem?_eq_getElem hj, Option.getD_some, e]
    rcases Nat.lt_trichotomy j i with h | h | h
    · have := h1 j h
      rw [ej, less_irr] at this
      cases this
    · subst h; exact hn ⟨hj, ej⟩
    · have hi : i < k.names.length := by omega
      have h3 := List.pairwise_iff_getElem.1 hr i j hi hj h
      have h4 := h2 i (Nat.le_refl _)
      rw [List.getD_eq_getElem?_getD, List.getElem?_eq_getElem hi, Option.getD_some] at h4
      rw [nlt, e, h4] at h3
      cases h3
  exact ⟨by unfold kidZ; rw [kidN_none hx]; rfl, hx⟩
end Go.Proofs.YtcpfelaffclalaaGreatDoor

/- What a tree is widened to, as a function on data. No program, no conditions. -/

namespace Go.Proofs.YtcpfelaffclalaaGreatDoor
open Go Go.RowKit

/-- No tree. -/
def tr0 : Tr := .mk 0 0 ByteArray.empty [] []
/-- The kid of a name in a tree, or nothing. -/
def fldZ (t : Tr) (nm : ByteArray) : Tr := if plN t.names nm < t.names.length then t.kids.getD (plN t.names nm) tr0 else tr0
/-- What a tree is widened to, so deep. -/
def widF : Nat → Kd → Kd → Tr → Tr
  | 0, _, _, t => t
  | n + 1, a, b, t =>
    if a.sort = 0 then .mk 6 0 ByteArray.empty [] []
    else if b.sort = 6 ∧ a.sort ≠ 6 then .mk 6 0 ByteArray.empty [] [widF n a (b.kids.getD 0 kd0) t]
    else if b.sort = 4 ∨ b.sort = 6 then .mk t.sort 0 ByteArray.empty [] (t.kids.map (widF n (a.kids.getD 0 kd0) (b.kids.getD 0 kd0)))
    else if b.sort = 5 then .mk 5 0 ByteArray.empty (uniN a.names b.names) ((uniN a.names b.names).map fun nm => widF n (kidZ a nm) (kidZ b nm) (fldZ t nm))
    else .mk t.sort t.num t.text [] []
/-- The pairs that a widening asks for all have a second one. -/
def wOk : Nat → Kd → Kd → Prop
  | 0, _, _ => False
  | n + 1, a, b => b.sort ≠ 0 ∧ (a.sort ≠ 0 → (b.sort = 6 ∧ a.sort ≠ 6 → wOk n a (b.kids.getD 0 kd0)) ∧ ((b.sort = 4 ∨ (b.sort = 6 ∧ a.sort = 6)) → wOk n (a.kids.getD 0 kd0) (b.kids.getD 0 kd0)) ∧ (b.sort = 5 → ∀ nm, nm ∈ uniN a.names b.names → wOk n (kidZ a nm) (kidZ b nm)))
theorem wid_fuel : ∀ (n m : Nat) (a b : Kd) (t : Tr), wOk n a b → wOk m a b → widF n a b t = widF m a b t
  | 0, _, _, _, _, h, _ => h.elim
  | _ + 1, 0, _, _, _, _, h => h.elim
  | n + 1, m + 1, a, b, t, h, k => by
    rw [widF, widF]
    by_cases h0 : a.sort = 0
    · rw [if_pos h0, if_pos h0]
    rw [if_neg h0, if_neg h0]
    have h' := h.2 h0
    have k' := k.2 h0
    by_cases h1 : b.sort = 6 ∧ a.sort ≠ 6
    · rw [if_pos h1, if_pos h1, wid_fuel n m a _ t (h'.1 h1) (k'.1 h1)]
    rw [if_neg h1, if_neg h1]
    by_cases h2 : b.sort = 4 ∨ b.sort = 6
    · rw [if_pos h2, if_pos h2]
      have h3 : b.sort = 4 ∨ (b.sort = 6 ∧ a.sort = 6) := by
        rcases h2 with h2 | h2
        · exact Or.inl h2
        · exact Or.inr ⟨h2, Classical.byContradiction fun h4 => h1 ⟨h2, h4⟩⟩
      congr 1
      exact List.map_congr_left (fun x _ => wid_fuel n m _ _ x (h'.2.1 h3) (k'.2.1 h3))
    rw [if_neg h2, if_neg h2]
    by_cases h5 : b.sort = 5
    · rw [if_pos h5, if_pos h5]
      congr 1
      exact List.map_congr_left (fun nm hm => wid_fuel n m _ _ _ (h'.2.2 h5 nm hm) (k'.2.2 h5 nm hm))
    · rw [if_neg h5, if_neg h5]
theorem wOk_mono : ∀ (n : Nat) (a b : Kd), wOk n a b → wOk (n + 1) a b
  | 0, _, _, h => h.elim
  | n + 1, a, b, h => by
    rw [wOk] at h ⊢
    exact ⟨h.1, fun h0 => ⟨fun h1 => wOk_mono n _ _ ((h.2 h0).1 h1), fun h1 => wOk_mono n _ _ ((h.2 h0).2.1 h1), fun h1 nm hm => wOk_mono n _ _ ((h.2 h0).2.2 h1 nm hm)⟩⟩
theorem wOk_le {n m : Nat} {a b : Kd} (h : wOk n a b) (hm : n ≤ m) : wOk m a b := by
  induction m with
  | zero =>
    obtain rfl : n = 0 := by omega
    exact h
  | succ m ih =>
    by_cases e : n = m + 1
    · subst e; exact h
    · exact wOk_mono m a b (ih (by omega))
/-- Two schemas that fit are such a pair. -/
theorem wOk_zero {n : Nat} {a b : Kd} (ha : a.sort = 0) (hb : b.sort ≠ 0) : wOk (n + 1) a b := ⟨hb, fun h => absurd ha h⟩
theorem widF_zero {n : Nat} {a b : Kd} {t : Tr} (ha : a.sort = 0) : widF (n + 1) a b t = .mk 6 0 ByteArray.empty [] [] := by rw [widF, if_pos ha]
theorem widF_into {n : Nat} {a b : Kd} {t : Tr} (ha : a.sort ≠ 0) (h1 : b.sort = 6) (h2 : a.sort ≠ 6) (hb : 0 < b.kids.length) : widF (n + 1) a b t = .mk 6 0 ByteArray.empty [] [widF n a b.kids[0] t] := by
  rw [widF, if_neg ha, if_pos ⟨h1, h2⟩]
  simp [List.getD_eq_getElem?_getD, List.getElem?_eq_getElem hb]
theorem widF_each {n : Nat} {a b : Kd} {t : Tr} (h : (a.sort = 4 ∧ b.sort = 4) ∨ (a.sort = 6 ∧ b.sort = 6)) (ha : 0 < a.kids.length) (hb : 0 < b.kids.length) : widF (n + 1) a b t = .mk t.sort 0 ByteArray.empty [] (t.kids.map (widF n a.kids[0] b.kids[0])) := by
  rw [widF, if_neg (by omega), if_neg (by omega), if_pos (by omega)]
  simp [List.getD_eq_getElem?_getD, List.getElem?_eq_getElem hb, List.getElem?_eq_getElem ha]
theorem widF_form {n : Nat} {a b : Kd} {t : Tr} (ha : a.sort = 5) (hb : b.sort = 5) : widF (n + 1) a b t = .mk 5 0 ByteArray.empty (uniN a.names b.names) ((uniN a.names b.names).map fun nm => widF n (kidZ a nm) (kidZ b nm) (fldZ t nm)) := by
  rw [widF, if_neg (by omega), if_neg (by omega), if_neg (by omega), if_pos hb]
theorem widF_leaf {n : Nat} {a b : Kd} {t : Tr} (h : a.sort = b.sort) (h1 : a.sort = 1 ∨ a.sort = 2 ∨ a.sort = 3) : widF (n + 1) a b t = .mk t.sort t.num t.text [] [] := by
  rw [widF, if_neg (by omega), if_neg (by omega), if_neg (by omega), if_neg (by omega)]
/-- The field of a name, found so. -/
theorem fldZ_at {t : Tr} {x : ByteArray} {i : Nat} (hr : t.names.Pairwise nlt) (hl : t.kids.length = t.names.length) (hi : i < t.names.length) (h : t.names[i] = x) : fldZ t x = t.kids[i]'(by omega) := by
  unfold fldZ
  have hp : plN t.names x = i := plN_at hi h (fun j hj e => by
    have h1 := List.pairwise_iff_getElem.1 hr j i (by omega) hi hj
    rw [e, h] at h1
    exact nlt_irrefl _ h1)
  rw [hp, if_pos hi]
  simp [List.getD_eq_getElem?_getD, List.getElem?_eq_getElem (show i < t.kids.length by omega)]
theorem fldZ_not {t : Tr} {x : ByteArray} (h : x ∉ t.names) : fldZ t x = tr0 := by
  unfold fldZ
  rw [plN_none h, if_neg (by omega)]
end Go.Proofs.YtcpfelaffclalaaGreatDoor

/- Two schemas that fit: what widening asks for, and the names of a form that another one fits into. No program, no conditions. -/

namespace Go.Proofs.YtcpfelaffclalaaGreatDoor
open Go Go.RowKit

theorem okD_sh {k : Kd} (h : okD k = true) : ((k.sort = 1 ∨ k.sort = 2 ∨ k.sort = 3) ∧ k.kids.length = 0 ∧ k.names.length = 0) ∨ ((k.sort = 4 ∨ k.sort = 6) ∧ k.kids.length = 1 ∧ k.names.length = 0) ∨ (k.sort = 5 ∧ k.kids.length = k.names.length ∧ riseB k.names = true) := by
  rw [okD_eq, Bool.and_eq_true] at h
  have h := h.1
  unfold shB at h
  split at h
  · exact Or.inl ⟨by assumption, of_decide_eq_true h⟩
  split at h
  · exact Or.inr (Or.inl ⟨by assumption, of_decide_eq_true h⟩)
  split at h
  · rw [Bool.and_eq_true] at h
    exact Or.inr (Or.inr ⟨by assumption, of_decide_eq_true h.1, h.2⟩)
  · cases h
theorem okD_kid {k : Kd} (h : okD k = true) (i : Nat) (hi : i < k.kids.length) : okD k.kids[i] = true := by
  rw [okD_eq, Bool.and_eq_true] at h
  exact okDs_get h.2 i hi
theorem okD_ne {k : Kd} (h : okD k = true) : k.sort ≠ 0 := by rcases okD_sh h with h | h | h <;> omega
theorem getD_kid {k : Kd} {i : Nat} (hi : i < k.kids.length) : k.kids.getD i kd0 = k.kids[i] := by simp [List.getD_eq_getElem?_getD, List.getElem?_eq_getElem hi]
theorem kidZ_none {k : Kd} {nm : ByteArray} (h : nm ∉ k.names) : kidZ k nm = kd0 := by
  unfold kidZ
  rw [kidN_none h]
  rfl
theorem kidZ_in {k : Kd} {nm : ByteArray} (h : okD k = true) (h5 : k.sort = 5) (hm : nm ∈ k.names) : kidZ k nm ∈ k.kids := by
  rcases okD_sh h with h' | h' | h'
  · omega
  · omega
  obtain ⟨i, hi, e⟩ := List.mem_iff_getElem.1 hm
  rw [kidZ_at (rise_pairs h'.2.2) h'.2.1 hi e]
  exact List.getElem_mem _
theorem okD_mem {k x : Kd} (h : okD k = true) (hx : x ∈ k.kids) : okD x = true := by
  obtain ⟨i, hi, rfl⟩ := List.mem_iff_getElem.1 hx
  exact okD_kid h i hi
/-- Under each name the pair fits. -/
theorem fit_names {n : Nat} {a b : Kd} (hoa : okD a = true) (hob : okD b = true) (ha : a.sort = 5) (hb : b.sort = 5) (hf : fitF (n + 1) a b = true) (nm : ByteArray) (hm : nm ∈ uniN a.names b.names) :
    nm ∈ b.names ∧ ((kidZ a nm).sort = 0 ∧ (kidZ b nm).sort = 6 ∨ ((kidZ a nm).sort ≠ 0 ∧ nm ∈ a.names ∧ fitF n (kidZ a nm) (kidZ b nm) = true)) := by
  have sa := okD_sh hoa
  have sb := okD_sh hob
  obtain ⟨-, hla, hra⟩ : a.sort = 5 ∧ a.kids.length = a.names.length ∧ riseB a.names = true := by rcases sa with h | h | h; omega; omega; exact h
  obtain ⟨-, hlb, hrb⟩ : b.sort = 5 ∧ b.kids.length = b.names.length ∧ riseB b.names = true := by rcases sb with h | h | h; omega; omega; exact h
  rw [fit_union ha hb hla hlb (rise_nodup hra) (rise_nodup hrb) (fun k hk => okD_ne (okD_mem hoa hk)) (fun k hk => okD_ne (okD_mem hob hk)) _ (fun nm => uniN_mem nm), List.all_eq_true] at hf
  have := hf nm hm
  unfold pF at this
  have hbm : (kidZ b nm).sort ≠ 0 → nm ∈ b.names := fun h => Classical.byContradiction fun h' => h (by rw [kidZ_none h']; rfl)
  split at this
  · next h0 =>
    have h6 := of_decide_eq_true this
    exact ⟨hbm (by omega), Or.inl ⟨h0, h6⟩⟩
  · next h0 =>
    split at this
    · cases this
    · next h1 => exact ⟨hbm h1, Or.inr ⟨h0, Classical.byContradiction fun h' => h0 (by rw [kidZ_none h']; rfl), this⟩⟩
theorem ksz_pos (k : Kd) : 0 < ksz k := by
  obtain ⟨s, ns, ks⟩ := k
  rw [ksz]
  omega
theorem wOk_of_fit : ∀ (n : Nat) (a b : Kd), okD a = true → okD b = true → ksz b ≤ n → fitF n a b = true → wOk n a b
  | 0, _, b, _, _, h, _ => by have := ksz_pos b; omega
  | n + 1, a, b, hoa, hob, hn, hf => by
    have sb := okD_sh hob
    have sa := okD_sh hoa
    refine ⟨okD_ne hob, fun h0 => ⟨fun h1 => ?_, fun h1 => ?_, fun h1 nm hm => ?_⟩⟩
    · have hk : 0 < b.kids.length := by rcases sb with h | h | h <;> omega
      rw [fit_xm h1.1 h1.2 hk] at hf
      rw [getD_kid hk]
      have := ksz_kid (List.getElem_mem hk)
      exact wOk_of_fit n a _ hoa (okD_kid hob 0 hk) (by omega) hf
    · have hk : 0 < b.kids.length := by rcases sb with h | h | h <;> omega
      have hab : a.sort = b.sort := by
        rcases h1 with h1 | h1
        · exact Classical.byContradiction fun h' => by rw [fit_ne (by omega) h'] at hf; cases hf
        · omega
      have hka : 0 < a.kids.length := by rcases sa with h | h | h <;> omega
      have := ksz_kid (List.getElem_mem hk)
      rw [getD_kid hk, getD_kid hka]
      refine wOk_of_fit n _ _ (okD_kid hoa 0 hka) (okD_kid hob 0 hk) (by omega) ?_
      rcases h1 with h1 | h1
      · rwa [fit_ll h1 (by omega) hka hk] at hf
      · rwa [fit_mm h1.1 h1.2 hka hk] at hf
    · have hab : a.sort = b.sort := Classical.byContradiction fun h' => by rw [fit_ne (by omega) h'] at hf; cases hf
      obtain ⟨k1, k2⟩ := fit_names hoa hob (by omega) h1 hf nm hm
      have hin := kidZ_in hob h1 k1
      have hz := ksz_kid hin
      have hp := ksz_pos (kidZ b nm)
      rcases k2 with ⟨k2, k3⟩ | ⟨k2, k3, k4⟩
      · obtain ⟨m, rfl⟩ : ∃ m, n = m + 1 := ⟨n - 1, by omega⟩
        exact wOk_zero k2 (by omega)
      · exact wOk_of_fit n _ _ (okD_mem hoa (kidZ_in hoa (by omega) k3)) (okD_mem hob hin) (by omega) k4
/-- The names of both are those of the wider form. -/
theorem uni_wider {n : Nat} {a b : Kd} (hoa : okD a = true) (hob : okD b = true) (ha : a.sort = 5) (hb : b.sort = 5) (hf : fitF (n + 1) a b = true) : uniN a.names b.names = b.names := by
  have hrb : riseB b.names = true := by rcases okD_sh hob with h | h | h; omega; omega; exact h.2.2
  have h1 := rise_sub b.names (uniN a.names b.names) (rise_pairs hrb) (uniN_rise _ _) (fun x hx => (fit_names hoa hob ha hb hf x hx).1)
  have h2 := rise_sub (uniN a.names b.names) b.names (uniN_rise _ _) (rise_pairs hrb) (fun x hx => (uniN_mem x).2 (Or.inr hx))
  exact h1.eq_of_length_le h2.length_le
theorem hK_at : ∀ (ks : List Tr) (k : Kd) (j i : Nat) (hi : i < ks.length), hK ks k j = true → hT ks[i] (kidOf k (j + i)) = true
  | [], _, _, _, hi, _ => by simp at hi
  | t :: r, k, j, 0, _, h => by
    rw [hK, Bool.and_eq_true] at h
    exact h.1
  | t :: r, k, j, i + 1, hi, h => by
    rw [hK, Bool.and_eq_true] at h
    have := hK_at r k (j + 1) i (by simpa using hi) h.2
    rw [show j + (i + 1) = j + 1 + i by omega]
    exact this
theorem hT_open {t : Tr} {k : Kd} (h : hT t k = true) : k.sort = t.sort ∧ k.names = t.names ∧ ∀ i, (hi : i < t.kids.length) → hT t.kids[i] (kidOf k i) = true := by
  rw [hT_eq, Bool.and_eq_true, Bool.and_eq_true] at h
  refine ⟨of_decide_eq_true h.1.1, of_decide_eq_true h.1.2, fun i hi => ?_⟩
  have := hK_at t.kids k 0 i hi h.2
  rwa [Nat.zero_add] at this
theorem okH_open {t : Tr} (h : okH t = true) : aloneB t = true ∧ ∀ i, (hi : i < t.kids.length) → okH t.kids[i] = true := by
  rw [okH_eq, Bool.and_eq_true] at h
  exact ⟨h.1, fun i hi => okHs_get h.2 i hi⟩
theorem size_nil {s : ByteArray} (h : s.toList = []) : s.size = 0 := by
  rw [lst_data] at h
  have : s.data.toList.length = 0 := by rw [h]; rfl
  simpa using this
theorem alone_open {t : Tr} (h : aloneB t = true) : t.text.size ≤ 60 ∧ (t.sort ≠ 5 → t.kids.length ≤ 20) ∧ (t.sort = 5 → t.kids.length = t.names.length ∧ riseB t.names = true) := by
  unfold aloneB at h
  have z : t.text.toList = [] → t.text.size ≤ 60 := fun h => by rw [size_nil h]; omega
  split at h
  · simp only [Bool.and_eq_true, decide_eq_true_eq] at h
    exact ⟨z h.1.1.2, fun _ => by omega, fun _ => by omega⟩
  split at h
  · simp only [Bool.and_eq_true, decide_eq_true_eq, textOkB] at h
    exact ⟨h.1.1.2.1, fun _ => by omega, fun _ => by omega⟩
  split at h
  · simp only [Bool.and_eq_true, decide_eq_true_eq] at h
    exact ⟨z h.1.1.2, fun _ => by omega, fun _ => by omega⟩
  split at h
  · simp only [Bool.and_eq_true, decide_eq_true_eq] at h
    exact ⟨z h.1.1.2, fun _ => by omega, fun _ => by omega⟩
  split at h
  · simp only [Bool.and_eq_true, decide_eq_true_eq] at h
    exact ⟨z h.1.1.2, fun _ => by omega, fun _ => ⟨h.1.2.symm, h.2⟩⟩
  split at h
  · simp only [Bool.and_eq_true, decide_eq_true_eq] at h
    exact ⟨z h.1.1.2, fun _ => by omega, fun _ => by omega⟩
  · cases h
/-- A form's field is of the schema of its name. -/
theorem fld_has {t : Tr} {a : Kd} (h5 : a.sort = 5) (h : hT t a = true) (ho : okH t = true) (hk : a.kids.length = a.names.length) (nm : ByteArray) : (kidZ a nm).sort = 0 ∨ (hT (fldZ t nm) (kidZ a nm) = true ∧ okH (fldZ t nm) = true) := by
  by_cases hm : nm ∈ a.names
  · obtain ⟨h1, h2, h3⟩ := hT_open h
    obtain ⟨h4, h6⟩ := okH_open ho
    obtain ⟨h7, h8⟩ := (alone_open h4).2.2 (by omega)
    obtain ⟨i, hi, e⟩ := List.mem_iff_getElem.1 hm
    have hr : a.names.Pairwise nlt := by rw [h2]; exact rise_pairs h8
    have hi2 : i < t.names.length := by rw [← h2]; exact hi
    have e2 : t.names[i] = nm := by rw [← e]; simp only [h2]
    refine Or.inr ?_
    rw [kidZ_at hr hk hi e, fldZ_at (by rw [← h2]; exact hr) h7 hi2 e2]
    have h9 := h3 i (by omega)
    rw [kidOf_form h5 (by omega)] at h9
    exact ⟨h9, h6 i (by omega)⟩
  · rw [kidZ_none hm]
    exact Or.inl rfl
/-- A list, a form, a maybe that is ok has no number and no text. -/
theorem alone_bare {t : Tr} (h : aloneB t = true) (h4 : t.sort = 4 ∨ t.sort = 5 ∨ t.sort = 6) : t.num = 0 ∧ t.text = ⟨#[]⟩ := by
  have z : t.text.toList = [] → t.text = ⟨#[]⟩ := fun h => by
    rw [lst_data] at h
    exact ByteArray.ext (Array.toList_inj.1 h)
  unfold aloneB at h
  rw [if_neg (by omega), if_neg (by omega), if_neg (by omega)] at h
  split at h
  · simp only [Bool.and_eq_true, decide_eq_true_eq] at h
    exact ⟨h.1.1.1, z h.1.1.2⟩
  split at h
  · simp only [Bool.and_eq_true, decide_eq_true_eq] at h
    exact ⟨h.1.1.1, z h.1.1.2⟩
  split at h
  · simp only [Bool.and_eq_true, decide_eq_true_eq] at h
    exact ⟨h.1.1.1, z h.1.1.2⟩
  · cases h
end Go.Proofs.YtcpfelaffclalaaGreatDoor
