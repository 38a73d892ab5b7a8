/- Of two schemas the least into which both fit: both fit into it, and it fits into each into which both fit, if there is one. No program, no conditions. -/
import Derived.Test.YtenpghndgdemnaaGreatDoorPart23
namespace Go.Proofs.YtenpghndgdemnaaGreatDoor
open Go Go.RowKit

theorem sort_mk (s : Int) (ns : List ByteArray) (ks : List Kd) : (Kd.mk s ns ks).sort = s := rfl
theorem names_mk (s : Int) (ns : List ByteArray) (ks : List Kd) : (Kd.mk s ns ks).names = ns := rfl
theorem kkids_mk (s : Int) (ns : List ByteArray) (ks : List Kd) : (Kd.mk s ns ks).kids = ks := rfl
theorem okDs_all : ∀ (ks : List Kd), (∀ x, x ∈ ks → okD x = true) → okDs ks = true
  | [], _ => by rw [okDs]
  | t :: r, h => by
    rw [okDs, Bool.and_eq_true]
    exact ⟨h t (by simp), okDs_all r fun x hx => h x (by simp [hx])⟩
theorem okD_mk {k : Kd} (h1 : shB k = true) (h2 : ∀ x, x ∈ k.kids → okD x = true) : okD k = true := by
  rw [okD_eq, Bool.and_eq_true]
  exact ⟨h1, okDs_all _ h2⟩
theorem okD_one {s : Int} {x : Kd} (hs : s = 4 ∨ s = 6) (h : okD x = true) : okD (.mk s [] [x]) = true := by
  refine okD_mk ?_ fun y hy => ?_
  · unfold shB
    rw [if_neg (by rw [sort_mk]; omega), if_pos (by rw [sort_mk]; exact hs)]
    simp [kkids_mk, names_mk]
  · rw [kkids_mk, List.mem_singleton] at hy
    rw [hy]; exact h
theorem okD_leaf {s : Int} (h : s = 1 ∨ s = 2 ∨ s = 3) : okD (.mk s [] []) = true := by
  refine okD_mk ?_ fun y hy => by simp [kkids_mk] at hy
  unfold shB
  rw [if_pos (by rw [sort_mk]; exact h)]
  simp [kkids_mk, names_mk]
theorem okD_form {U : List ByteArray} {ks : List Kd} (hr : riseB U = true) (hl : ks.length = U.length) (h : ∀ x, x ∈ ks → okD x = true) : okD (.mk 5 U ks) = true := by
  refine okD_mk ?_ fun y hy => h y hy
  unfold shB
  rw [if_neg (by rw [sort_mk]; omega), if_neg (by rw [sort_mk]; omega), if_pos (by rw [sort_mk]), kkids_mk, names_mk, hr, hl]
  simp
theorem okD_lone {k : Kd} (h : okD k = true) : okD (loneK k) = true := by
  unfold loneK
  split
  · exact h
  · exact okD_one (Or.inr rfl) h
theorem lone_sort (k : Kd) : (loneK k).sort = 6 := by
  unfold loneK
  split
  · assumption
  · rfl
/-- Names that rise, one by one. -/
theorem rise_iff {ns : List ByteArray} : riseB ns = true ↔ ns.Pairwise nlt ∧ ∀ x, x ∈ ns → nameOkB x = true := by
  constructor
  · intro h
    refine ⟨rise_pairs h, fun x hx => ?_⟩
    obtain ⟨i, hi, rfl⟩ := List.mem_iff_getElem.1 hx
    unfold riseB at h
    rw [List.all_eq_true] at h
    have := h i (List.mem_range.2 hi)
    unfold good at this
    rw [Bool.and_eq_true, getD_lt _ _ hi] at this
    exact this.1
  · rintro ⟨h1, h2⟩
    refine rise_yes fun i hi => ?_
    unfold good
    rw [getD_lt _ _ hi, h2 _ (List.getElem_mem hi), Bool.true_and]
    by_cases h0 : i = 0
    · rw [decide_eq_true h0]; rfl
    · rw [getD_lt _ _ (show i - 1 < ns.length by omega)]
      have := List.pairwise_iff_getElem.1 h1 (i - 1) i (by omega) hi (by omega)
      unfold nlt at this
      rw [this, Bool.or_true]
theorem rise_uni {a b : List ByteArray} (ha : riseB a = true) (hb : riseB b = true) : riseB (uniN a b) = true :=
  rise_iff.2 ⟨uniN_rise _ _, fun x hx => by
    rcases (uniN_mem x).1 hx with h | h
    · exact (rise_iff.1 ha).2 x h
    · exact (rise_iff.1 hb).2 x h⟩
theorem mb_pos (k : Kd) : 0 < (mbK k).kids.length := Nat.zero_lt_one
theorem li_pos (k : Kd) : 0 < (liK k).kids.length := Nat.zero_lt_one
theorem fit_up {m : Nat} {k : Kd} (h : okD k = true) (hm : ksz (loneK k) ≤ m) : fitF m k (loneK k) = true := by
  unfold loneK at *
  split at hm
  · next h6 => rw [if_pos h6]; exact fit_refl m k h hm
  · next h6 =>
    rw [if_neg h6]
    obtain ⟨m, rfl⟩ : ∃ q, m = q + 1 := ⟨m - 1, by have := ksz_pos (mbK k); omega⟩
    have hk := mb_pos k
    rw [fit_xm rfl h6 hk]
    exact fit_refl m k h (by have := ksz_kid (k := k) (t := mbK k) (by simp [mbK, kkids_mk]); omega)
theorem fit_lone {m : Nat} {k c : Kd} (hc : okD c = true) (h6 : c.sort = 6) (hf : fitF m k c = true) : fitF m (loneK k) c = true := by
  unfold loneK
  split
  · exact hf
  · next hk =>
    cases m with
    | zero => cases hf
    | succ m =>
      have h0 : 0 < c.kids.length := by rcases okD_sh hc with h | h | h <;> omega
      rw [fit_xm h6 hk h0] at hf
      rw [fit_mm h6 rfl (mb_pos k) h0]
      exact hf
/-- A form's kids by its names. -/
theorem kidZ_map {U : List ByteArray} {f : ByteArray → Kd} {nm : ByteArray} (hr : U.Pairwise nlt) (h : nm ∈ U) : kidZ (.mk 5 U (U.map f)) nm = f nm := by
  obtain ⟨i, hi, rfl⟩ := List.mem_iff_getElem.1 h
  refine (kidZ_at (k := .mk 5 U (U.map f)) (x := U[i]) (i := i) hr (by simp [kkids_mk, names_mk]) hi rfl).trans ?_
  simp [kkids_mk]
theorem ksz_map {U : List ByteArray} {f : ByteArray → Kd} {nm : ByteArray} (h : nm ∈ U) : ksz (f nm) < ksz (.mk 5 U (U.map f)) := ksz_kid (by rw [kkids_mk]; exact List.mem_map_of_mem h)
theorem kidZ_out {k : Kd} {nm : ByteArray} (h : nm ∉ k.names) : (kidZ k nm).sort = 0 := by rw [kidZ_none h]; rfl
theorem kidZ_ne {k : Kd} {nm : ByteArray} (h : okD k = true) (h5 : k.sort = 5) (hm : nm ∈ k.names) : (kidZ k nm).sort ≠ 0 := okD_ne (kidZ_ok h h5 hm).1
/-- A form into one with more names, name by name. -/
theorem fit_into {m : Nat} {a : Kd} {U : List ByteArray} {f : ByteArray → Kd} (ha : okD a = true) (h5 : a.sort = 5) (hx : okD (.mk 5 U (U.map f)) = true) (hr : U.Pairwise nlt) (hs : ∀ nm, nm ∈ a.names → nm ∈ U) (h : ∀ nm, nm ∈ U → pF m (kidZ a nm) (f nm) = true) : fitF (m + 1) a (.mk 5 U (U.map f)) = true := by
  obtain ⟨hla, hra⟩ := rise_names ha h5
  obtain ⟨hlx, hrx⟩ := rise_names hx rfl
  rw [fit_union h5 rfl hla hlx (rise_nodup hra) (rise_nodup hrx) (fun k hk => okD_ne (okD_mem ha hk)) (fun k hk => okD_ne (okD_mem hx hk)) U (fun nm => ⟨fun h => Or.inr h, fun h => by rcases h with h | h; exact hs nm h; exact h⟩), List.all_eq_true]
  intro nm hm
  rw [kidZ_map hr hm]
  exact h nm hm
theorem pF_zero {m : Nat} {a b : Kd} (h : a.sort = 0) (h6 : b.sort = 6) : pF m a b = true := by unfold pF; rw [if_pos h]; exact decide_eq_true h6
theorem pF_two {m : Nat} {a b : Kd} (h : a.sort ≠ 0) (h2 : b.sort ≠ 0) : pF m a b = fitF m a b := by unfold pF; rw [if_neg h, if_neg h2]
/-- What two schemas join to is ok, and both fit into it. -/
theorem jn_up : ∀ (n : Nat) (a b x : Kd), okD a = true → okD b = true → jnP n a b = some x → okD x = true ∧ ∀ m, ksz x ≤ m → fitF m a x = true ∧ fitF m b x = true
  | 0, _, _, _, _, _, h => by cases h
  | n + 1, a, b, x, hoa, hob, h => by
    have sa := okD_sh hoa
    have sb := okD_sh hob
    have na := okD_ne hoa
    have nb := okD_ne hob
    by_cases h6 : a.sort = 6 ∨ b.sort = 6
    · rw [jn_mb na nb h6, Option.map_eq_some_iff] at h
      obtain ⟨y, hy, rfl⟩ := h
      have oa : okD (bareK a) = true := by
        by_cases g : a.sort = 6
        · have h0 : 0 < a.kids.length := by rcases sa with h | h | h <;> omega
          rw [bare_mb g h0]; exact okD_kid hoa 0 h0
        · rw [bare_no g]; exact hoa
      have ob : okD (bareK b) = true := by
        by_cases g : b.sort = 6
        · have h0 : 0 < b.kids.length := by rcases sb with h | h | h <;> omega
          rw [bare_mb g h0]; exact okD_kid hob 0 h0
        · rw [bare_no g]; exact hob
      obtain ⟨h1, h2⟩ := jn_up n _ _ y oa ob hy
      refine ⟨okD_one (Or.inr rfl) h1, fun m hm => ?_⟩
      have hz := ksz_kid (k := y) (t := mbK y) (by simp [mbK, kkids_mk])
      obtain ⟨m, rfl⟩ : ∃ q, m = q + 1 := ⟨m - 1, by omega⟩
      obtain ⟨h3, h4⟩ := h2 m (by omega)
      have hk := mb_pos y
      constructor
      · by_cases g : a.sort = 6
        · have h0 : 0 < a.kids.length := by rcases sa with h | h | h <;> omega
          rw [bare_mb g h0] at h3
          rw [fit_mm rfl g h0 hk]; exact h3
        · rw [bare_no g] at h3
          rw [fit_xm rfl g hk]; exact h3
      · by_cases g : b.sort = 6
        · have h0 : 0 < b.kids.length := by rcases sb with h | h | h <;> omega
          rw [bare_mb g h0] at h4
          rw [fit_mm rfl g h0 hk]; exact h4
        · rw [bare_no g] at h4
          rw [fit_xm rfl g hk]; exact h4
    by_cases hne : a.sort = b.sort
    · by_cases h4 : a.sort = 4
      · have ha0 : 0 < a.kids.length := by rcases sa with h | h | h <;> omega
        have hb0 : 0 < b.kids.length := by rcases sb with h | h | h <;> omega
        rw [jn_li h4 (by omega) ha0 hb0, Option.map_eq_some_iff] at h
        obtain ⟨y, hy, rfl⟩ := h
        obtain ⟨h1, h2⟩ := jn_up n _ _ y (okD_kid hoa 0 ha0) (okD_kid hob 0 hb0) hy
        refine ⟨okD_one (Or.inl rfl) h1, fun m hm => ?_⟩
        have hz := ksz_kid (k := y) (t := liK y) (by simp [liK, kkids_mk])
        obtain ⟨m, rfl⟩ : ∃ q, m = q + 1 := ⟨m - 1, by omega⟩
        obtain ⟨h3, h5⟩ := h2 m (by omega)
        have hk := li_pos y
        rw [fit_ll rfl h4 ha0 hk, fit_ll rfl (show b.sort = 4 by omega) hb0 hk]
        exact ⟨h3, h5⟩
      by_cases h5 : a.sort = 5
      · rw [jn_fm h5 (by omega)] at h
        split at h
        · next hall =>
          rw [List.all_eq_true] at hall
          have hx := (Option.some.inj h).symm
          subst hx
          obtain ⟨hla, hra⟩ := rise_names hoa h5
          obtain ⟨hlb, hrb⟩ := rise_names hob (by omega)
          have key : ∀ nm, nm ∈ uniN a.names b.names → okD ((jnP n (kidZ a nm) (kidZ b nm)).getD kd0) = true ∧ ∀ m, ksz ((jnP n (kidZ a nm) (kidZ b nm)).getD kd0) ≤ m → pF m (kidZ a nm) ((jnP n (kidZ a nm) (kidZ b nm)).getD kd0) = true ∧ pF m (kidZ b nm) ((jnP n (kidZ a nm) (kidZ b nm)).getD kd0) = true := fun nm hm => by
            have hs := hall nm hm
            obtain ⟨y, hy⟩ := Option.isSome_iff_exists.1 hs
            rw [hy, Option.getD_some]
            cases n with
            | zero => cases hy
            | succ n =>
              by_cases ma : nm ∈ a.names
              · have oka := (kidZ_ok hoa h5 ma).1
                by_cases mb : nm ∈ b.names
                · have okb := (kidZ_ok hob (by omega) mb).1
                  obtain ⟨k1, k2⟩ := jn_up (n + 1) _ _ y oka okb hy
                  refine ⟨k1, fun m hm => ?_⟩
                  rw [pF_two (okD_ne oka) (okD_ne k1), pF_two (okD_ne okb) (okD_ne k1)]
                  exact k2 m hm
                · rw [jn_a0 (okD_ne oka) (kidZ_out mb)] at hy
                  obtain rfl := Option.some.inj hy
                  refine ⟨okD_lone oka, fun m hm => ?_⟩
                  rw [pF_two (okD_ne oka) (okD_ne (okD_lone oka))]
                  exact ⟨fit_up oka hm, pF_zero (kidZ_out mb) (lone_sort _)⟩
              · have mb : nm ∈ b.names := ((uniN_mem nm).1 hm).resolve_left ma
                have okb := (kidZ_ok hob (by omega) mb).1
                rw [jn_0b (kidZ_out ma) (okD_ne okb)] at hy
                obtain rfl := Option.some.inj hy
                refine ⟨okD_lone okb, fun m hm => ?_⟩
                rw [pF_two (okD_ne okb) (okD_ne (okD_lone okb))]
                exact ⟨pF_zero (kidZ_out ma) (lone_sort _), fit_up okb hm⟩
          have hok : okD (.mk 5 (uniN a.names b.names) ((uniN a.names b.names).map fun nm => (jnP n (kidZ a nm) (kidZ b nm)).getD kd0)) = true := okD_form (rise_uni hra hrb) (by simp) fun y hy => by
            obtain ⟨nm, hm, rfl⟩ := List.mem_map.1 hy
            exact (key nm hm).1
          refine ⟨hok, fun m hm => ?_⟩
          obtain ⟨m, rfl⟩ : ∃ q, m = q + 1 := ⟨m - 1, by have := ksz_pos (.mk 5 (uniN a.names b.names) ((uniN a.names b.names).map fun nm => (jnP n (kidZ a nm) (kidZ b nm)).getD kd0)); omega⟩
          have hz : ∀ nm, nm ∈ uniN a.names b.names → ksz ((jnP n (kidZ a nm) (kidZ b nm)).getD kd0) ≤ m := fun nm h => by
            have := ksz_map (f := fun nm => (jnP n (kidZ a nm) (kidZ b nm)).getD kd0) h
            omega
          exact ⟨fit_into hoa h5 hok (uniN_rise _ _) (fun nm h => (uniN_mem nm).2 (Or.inl h)) (fun nm h => ((key nm h).2 m (hz nm h)).1), fit_into hob (by omega) hok (uniN_rise _ _) (fun nm h => (uniN_mem nm).2 (Or.inr h)) (fun nm h => ((key nm h).2 m (hz nm h)).2)⟩
        · cases h
      · have h1 : a.sort = 1 ∨ a.sort = 2 ∨ a.sort = 3 := by rcases sa with h | h | h <;> omega
        rw [jn_lf h1 hne] at h
        obtain rfl := Option.some.inj h
        refine ⟨okD_leaf h1, fun m hm => ?_⟩
        have hp := ksz_pos (.mk a.sort [] [])
        obtain ⟨m, rfl⟩ : ∃ q, m = q + 1 := ⟨m - 1, by omega⟩
        have z : (0 : Nat) = ([] : List ByteArray).length := rfl
        have za : a.kids.length = 0 ∧ a.names.length = 0 := by rcases sa with h | h | h <;> omega
        have zb : b.kids.length = 0 ∧ b.names.length = 0 := by rcases sb with h | h | h <;> omega
        constructor
        · exact fit_yes (n := m) (b := .mk a.sort [] []) (by rw [sort_mk]; omega) rfl h4 (by omega) rfl (fun i hi => by omega) (fun i hi => by simp [names_mk] at hi)
        · exact fit_yes (n := m) (b := .mk a.sort [] []) (by rw [sort_mk]; omega) hne.symm (by omega) (by omega) rfl (fun i hi => by omega) (fun i hi => by simp [names_mk] at hi)
    · rw [jn_ne na nb (by omega) (by omega) hne] at h
      cases h
/-- Two schemas that fit into a third join, and what they join to fits into it. -/
theorem jn_least : ∀ (m n : Nat) (a b c : Kd), okD a = true → okD b = true → okD c = true → ksz c ≤ m → ksz a + ksz b ≤ n → fitF m a c = true → fitF m b c = true → ∃ x, jnP n a b = some x ∧ fitF m x c = true
  | 0, _, _, _, c, _, _, _, h, _, _, _ => by have := ksz_pos c; omega
  | m + 1, 0, a, _, _, _, _, _, _, h, _, _ => by have := ksz_pos a; omega
  | m + 1, n + 1, a, b, c, hoa, hob, hoc, hm, hn, h1, h2 => by
    have sa := okD_sh hoa
    have sb := okD_sh hob
    have sc := okD_sh hoc
    have na := okD_ne hoa
    have nb := okD_ne hob
    by_cases c6 : c.sort = 6
    · have hc0 : 0 < c.kids.length := by rcases sc with h | h | h <;> omega
      have hzc := ksz_kid (List.getElem_mem hc0)
      have hoc0 := okD_kid hoc 0 hc0
      by_cases h6 : a.sort = 6 ∨ b.sort = 6
      · have ba : okD (bareK a) = true ∧ fitF m (bareK a) c.kids[0] = true ∧ ksz (bareK a) ≤ ksz a ∧ (a.sort = 6 → ksz (bareK a) < ksz a) := by
          by_cases g : a.sort = 6
          · have h0 : 0 < a.kids.length := by rcases sa with h | h | h <;> omega
            have hz := ksz_kid (List.getElem_mem h0)
            rw [fit_mm c6 g h0 hc0] at h1
            rw [bare_mb g h0]
            exact ⟨okD_kid hoa 0 h0, h1, by omega, fun _ => hz⟩
          · rw [fit_xm c6 g hc0] at h1
            rw [bare_no g]
            exact ⟨hoa, h1, Nat.le_refl _, fun h => absurd h g⟩
        have bb : okD (bareK b) = true ∧ fitF m (bareK b) c.kids[0] = true ∧ ksz (bareK b) ≤ ksz b ∧ (b.sort = 6 → ksz (bareK b) < ksz b) := by
          by_cases g : b.sort = 6
          · have h0 : 0 < b.kids.length := by rcases sb with h | h | h <;> omega
            have hz := ksz_kid (List.getElem_mem h0)
            rw [fit_mm c6 g h0 hc0] at h2
            rw [bare_mb g h0]
            exact ⟨okD_kid hob 0 h0, h2, by omega, fun _ => hz⟩
          · rw [fit_xm c6 g hc0] at h2
            rw [bare_no g]
            exact ⟨hob, h2, Nat.le_refl _, fun h => absurd h g⟩
        obtain ⟨x, hx, hf⟩ := jn_least m n _ _ _ ba.1 bb.1 hoc0 (by omega) (by have := ba.2.2; have := bb.2.2; rcases h6 with h | h <;> omega) ba.2.1 bb.2.1
        refine ⟨mbK x, by rw [jn_mb na nb h6, hx]; rfl, ?_⟩
        rw [fit_mm c6 rfl (mb_pos x) hc0]
        exact hf
      · rw [fit_xm c6 (by omega) hc0] at h1 h2
        obtain ⟨x, hx, hf⟩ := jn_least m (n + 1) a b _ hoa hob hoc0 (by omega) hn h1 h2
        refine ⟨x, hx, ?_⟩
        have hx6 : x.sort ≠ 6 := by
          intro h
          by_cases hne : a.sort = b.sort
          · by_cases h4 : a.sort = 4
            · have ha0 : 0 < a.kids.length := by rcases sa with h | h | h <;> omega
              have hb0 : 0 < b.kids.length := by rcases sb with h | h | h <;> omega
              rw [jn_li h4 (by omega) ha0 hb0, Option.map_eq_some_iff] at hx
              obtain ⟨y, -, rfl⟩ := hx
              have h' : (4 : Int) = 6 := h
              omega
            by_cases h5 : a.sort = 5
            · rw [jn_fm h5 (by omega)] at hx
              split at hx
              · rw [← Option.some.inj hx] at h
                have h' : (5 : Int) = 6 := h
                omega
              · cases hx
            · have h1 : a.sort = 1 ∨ a.sort = 2 ∨ a.sort = 3 := by rcases sa with h | h | h <;> omega
              rw [jn_lf h1 hne] at hx
              rw [← Option.some.inj hx, sort_mk] at h
              omega
          · rw [jn_ne na nb (by omega) (by omega) hne] at hx
            cases hx
        rw [fit_xm c6 hx6 hc0]
        exact hf
    have hac : a.sort = c.sort := Classical.byContradiction fun h' => by rw [fit_ne c6 h'] at h1; cases h1
    have hbc : b.sort = c.sort := Classical.byContradiction fun h' => by rw [fit_ne c6 h'] at h2; cases h2
    by_cases c4 : c.sort = 4
    · have ha0 : 0 < a.kids.length := by rcases sa with h | h | h <;> omega
      have hb0 : 0 < b.kids.length := by rcases sb with h | h | h <;> omega
      have hc0 : 0 < c.kids.length := by rcases sc with h | h | h <;> omega
      have hzc := ksz_kid (List.getElem_mem hc0)
      have hza := ksz_kid (List.getElem_mem ha0)
      have hzb := ksz_kid (List.getElem_mem hb0)
      rw [fit_ll c4 (by omega) ha0 hc0] at h1
      rw [fit_ll c4 (by omega) hb0 hc0] at h2
      obtain ⟨x, hx, hf⟩ := jn_least m n _ _ _ (okD_kid hoa 0 ha0) (okD_kid hob 0 hb0) (okD_kid hoc 0 hc0) (by omega) (by omega) h1 h2
      refine ⟨liK x, by rw [jn_li (by omega) (by omega) ha0 hb0, hx]; rfl, ?_⟩
      rw [fit_ll c4 rfl (li_pos x) hc0]
      exact hf
    by_cases c5 : c.sort = 5
    · obtain ⟨hla, hra⟩ := rise_names hoa (by omega)
      obtain ⟨hlb, hrb⟩ := rise_names hob (by omega)
      obtain ⟨hlc, hrc⟩ := rise_names hoc c5
      have f1 := fit_names hoa hoc (by omega) c5 h1
      have u1 := uni_wider hoa hoc (by omega) c5 h1
      have f2 := fit_names hob hoc (by omega) c5 h2
      have u2 := uni_wider hob hoc (by omega) c5 h2
      rw [u1] at f1
      rw [u2] at f2
      have hsa : ∀ x, x ∈ a.names → x ∈ c.names := fun x hx => by rw [← u1]; exact (uniN_mem x).2 (Or.inl hx)
      have hsb : ∀ x, x ∈ b.names → x ∈ c.names := fun x hx => by rw [← u2]; exact (uniN_mem x).2 (Or.inl hx)
      obtain ⟨n, rfl⟩ : ∃ q, n = q + 1 := ⟨n - 1, by have := ksz_pos a; have := ksz_pos b; omega⟩
      have key : ∀ nm, nm ∈ uniN a.names b.names → ∃ y, jnP (n + 1) (kidZ a nm) (kidZ b nm) = some y ∧ okD y = true ∧ fitF m y (kidZ c nm) = true := fun nm hmU => by
        have hmc : nm ∈ c.names := by
          rcases (uniN_mem nm).1 hmU with h | h
          · exact hsa nm h
          · exact hsb nm h
        have okc := kidZ_ok hoc c5 hmc
        by_cases ma : nm ∈ a.names
        · have oka := kidZ_ok hoa (by omega) ma
          have g1 := (f1 nm hmc).2.resolve_left (fun h => okD_ne oka.1 h.1)
          by_cases mb : nm ∈ b.names
          · have okb := kidZ_ok hob (by omega) mb
            have g2 := (f2 nm hmc).2.resolve_left (fun h => okD_ne okb.1 h.1)
            obtain ⟨y, hy, hf⟩ := jn_least m (n + 1) _ _ _ oka.1 okb.1 okc.1 (by omega) (by omega) g1.2.2 g2.2.2
            exact ⟨y, hy, (jn_up _ _ _ y oka.1 okb.1 hy).1, hf⟩
          · rw [jn_a0 (okD_ne oka.1) (kidZ_out mb)]
            have h6 : (kidZ c nm).sort = 6 := by
              rcases (f2 nm hmc).2 with h | h
              · exact h.2
              · exact absurd h.2.1 mb
            exact ⟨_, rfl, okD_lone oka.1, fit_lone okc.1 h6 g1.2.2⟩
        · have mb : nm ∈ b.names := ((uniN_mem nm).1 hmU).resolve_left ma
          have okb := kidZ_ok hob (by omega) mb
          have g2 := (f2 nm hmc).2.resolve_left (fun h => okD_ne okb.1 h.1)
          rw [jn_0b (kidZ_out ma) (okD_ne okb.1)]
          have h6 : (kidZ c nm).sort = 6 := by
            rcases (f1 nm hmc).2 with h | h
            · exact h.2
            · exact absurd h.2.1 ma
          exact ⟨_, rfl, okD_lone okb.1, fit_lone okc.1 h6 g2.2.2⟩
      have hall : (uniN a.names b.names).all (fun nm => (jnP (n + 1) (kidZ a nm) (kidZ b nm)).isSome) = true := by
        rw [List.all_eq_true]
        intro nm hmU
        obtain ⟨y, hy, -⟩ := key nm hmU
        rw [hy]; rfl
      rw [jn_fm (by omega) (by omega), if_pos hall]
      refine ⟨_, rfl, ?_⟩
      have hok : okD (.mk 5 (uniN a.names b.names) ((uniN a.names b.names).map fun nm => (jnP (n + 1) (kidZ a nm) (kidZ b nm)).getD kd0)) = true := okD_form (rise_uni hra hrb) (by simp) fun y hy => by
        obtain ⟨nm, hm, rfl⟩ := List.mem_map.1 hy
        obtain ⟨z, hz, ho, -⟩ := key nm hm
        rw [hz]; exact ho
      obtain ⟨hlx, hrx⟩ := rise_names hok rfl
      rw [fit_union rfl c5 hlx hlc (rise_nodup hrx) (rise_nodup hrc) (fun k hk => okD_ne (okD_mem hok hk)) (fun k hk => okD_ne (okD_mem hoc hk)) c.names (fun nm => ⟨fun h => Or.inr h, fun h => by
        rcases h with h | h
        · rcases (uniN_mem nm).1 h with h | h
          · exact hsa nm h
          · exact hsb nm h
        · exact h⟩), List.all_eq_true]
      intro nm hmc
      by_cases hU : nm ∈ uniN a.names b.names
      · rw [kidZ_map (uniN_rise _ _) hU]
        obtain ⟨y, hy, ho, hf⟩ := key nm hU
        rw [hy, Option.getD_some, pF_two (okD_ne ho) (kidZ_ne hoc c5 hmc)]
        exact hf
      · have ma : nm ∉ a.names := fun h => hU ((uniN_mem nm).2 (Or.inl h))
        refine pF_zero (kidZ_out hU) ?_
        rcases (f1 nm hmc).2 with h | h
        · exact h.2
        · exact absurd h.2.1 ma
    · have h1' : a.sort = 1 ∨ a.sort = 2 ∨ a.sort = 3 := by rcases sa with h | h | h <;> omega
      rw [jn_lf h1' (by omega)]
      refine ⟨_, rfl, ?_⟩
      have zc : c.kids.length = 0 ∧ c.names.length = 0 := by rcases sc with h | h | h <;> omega
      exact fit_yes (n := m) (a := .mk a.sort [] []) c6 (by rw [sort_mk]; omega) (by rw [sort_mk]; omega) rfl (by omega) (fun i hi => by simp [names_mk] at hi) (fun i hi => by omega)
/-! What fits into what is ok is ok. -/
mutual
/-- The levels of a schema. -/
def lvK : Kd → Nat
  | .mk _ _ ks => 1 + lvKs ks
def lvKs : List Kd → Nat
  | [] => 0
  | t :: r => max (lvK t) (lvKs r)
end
theorem lvK_eq (t : Kd) : lvK t = 1 + lvKs t.kids := by obtain ⟨s, ns, ks⟩ := t; rw [lvK]; rfl
theorem lvKs_mem {t : Kd} {l : List Kd} (h : t ∈ l) : lvK t ≤ lvKs l := by
  induction l with
  | nil => cases h
  | cons a r ih =>
    rw [lvKs]
    rcases List.mem_cons.1 h with rfl | h
    · omega
    · have := ih h; omega
theorem lvKs_le {l : List Kd} {n : Nat} (h : ∀ t, t ∈ l → lvK t ≤ n) : lvKs l ≤ n := by
  induction l with
  | nil => rw [lvKs]; omega
  | cons a r ih =>
    rw [lvKs]
    have h1 := h a (by simp)
    have h2 := ih fun t ht => h t (by simp [ht])
    omega
mutual
theorem gd_iff : ∀ (t : Kd) (d : Int), (pord t d).all gdB = true ↔ okD t = true ∧ d + lvK t ≤ 7
  | .mk s ns ks, d => by
    rw [pord, List.all_cons, Bool.and_eq_true, okD, Bool.and_eq_true, lvK]
    unfold gdB
    rw [Bool.and_eq_true, decide_eq_true_eq]
    have h := gds_iff ks (d + 1)
    constructor
    · rintro ⟨⟨h1, h2⟩, h3⟩
      obtain ⟨h4, h5⟩ := h.1 h3
      exact ⟨⟨h2, h4⟩, by
        simp only at h1
        rcases h5 with h5 | h5
        · subst h5; simp [lvKs]; omega
        · omega⟩
    · rintro ⟨⟨h1, h2⟩, h3⟩
      refine ⟨⟨by simp only; omega, h1⟩, h.2 ⟨h2, Or.inr (by omega)⟩⟩
theorem gds_iff : ∀ (ks : List Kd) (d : Int), (pordK ks d).all gdB = true ↔ okDs ks = true ∧ (ks = [] ∨ d + lvKs ks ≤ 7)
  | [], d => by rw [pordK, okDs]; simp
  | t :: r, d => by
    rw [pordK, List.all_append, Bool.and_eq_true, gd_iff t d, gds_iff r d, okDs, Bool.and_eq_true, lvKs]
    constructor
    · rintro ⟨⟨h1, h2⟩, h3, h4⟩
      refine ⟨⟨h1, h3⟩, Or.inr ?_⟩
      rcases h4 with h4 | h4
      · subst h4; rw [lvKs]; omega
      · omega
    · rintro ⟨⟨h1, h2⟩, h3⟩
      have h3 : d + ((max (lvK t) (lvKs r) : Nat) : Int) ≤ 7 := h3.resolve_left (by simp)
      exact ⟨⟨h1, by omega⟩, h2, Or.inr (by omega)⟩
end
theorem qT_iff (t : Kd) : 0 < qT t 1 ↔ okD t = true ∧ lvK t ≤ 6 ∧ ksz t ≤ 40 := by
  have h := qT_start t
  rw [pord_len] at h
  constructor
  · intro h1
    rw [decide_eq_true h1] at h
    have h := h.symm
    rw [Bool.and_eq_true, decide_eq_true_eq, gd_iff] at h
    exact ⟨h.1.1, by have := h.1.2; omega, h.2⟩
  · rintro ⟨h1, h2, h3⟩
    have : ((pord t 1).all gdB && decide (ksz t ≤ 40)) = true := by
      rw [Bool.and_eq_true, decide_eq_true_eq, gd_iff]
      exact ⟨⟨h1, by omega⟩, h3⟩
    rw [this] at h
    exact of_decide_eq_true h
theorem klsz_sum : ∀ (U V : List ByteArray) (f g : ByteArray → Kd), U.Sublist V → (∀ nm, nm ∈ U → ksz (f nm) ≤ ksz (g nm)) → klsz (U.map f) ≤ klsz (V.map g)
  | _, _, _, _, .slnil, _ => by simp [klsz]
  | _, _, f, g, .cons a h, hz => by
    have := klsz_sum _ _ f g h hz
    rw [List.map_cons, klsz]
    omega
  | _, _, f, g, .cons_cons a h, hz => by
    have := klsz_sum _ _ f g h fun nm hm => hz nm (by simp [hm])
    have h2 := hz a (by simp)
    rw [List.map_cons, List.map_cons, klsz, klsz]
    omega
theorem ksz_eq (t : Kd) : ksz t = 1 + klsz t.kids := by obtain ⟨s, ns, ks⟩ := t; rw [ksz]; rfl
theorem kids_map {k : Kd} (h : okD k = true) (h5 : k.sort = 5) : k.kids = k.names.map (kidZ k) := by
  obtain ⟨hl, hr⟩ := rise_names h h5
  refine List.ext_getElem (by simp [hl]) fun i h1 h2 => ?_
  rw [List.getElem_map]
  exact (kidZ_at (rise_pairs hr) hl (by rw [← hl]; exact h1) rfl).symm
/-- What fits has no more parts and no more levels. -/
theorem fit_small : ∀ (m : Nat) (a c : Kd), okD a = true → okD c = true → ksz c ≤ m → fitF m a c = true → ksz a ≤ ksz c ∧ lvK a ≤ lvK c
  | 0, _, c, _, _, h, _ => by have := ksz_pos c; omega
  | m + 1, a, c, hoa, hoc, hm, h => by
    have sa := okD_sh hoa
    have sc := okD_sh hoc
    by_cases c6 : c.sort = 6
    · have hc0 : 0 < c.kids.length := by rcases sc with h | h | h <;> omega
      have hzc := ksz_kid (List.getElem_mem hc0)
      have hlc := lvKs_mem (List.getElem_mem hc0)
      have e1 := lvK_eq c
      by_cases g : a.sort = 6
      · have ha0 : a.kids.length = 1 := by rcases sa with h | h | h <;> omega
        rw [fit_mm c6 g (by omega) hc0] at h
        obtain ⟨h1, h2⟩ := fit_small m _ _ (okD_kid hoa 0 (by omega)) (okD_kid hoc 0 hc0) (by omega) h
        have e2 := lvK_eq a
        have e3 := ksz_eq a
        have e4 := ksz_eq c
        have hc1 : c.kids.length = 1 := by rcases sc with h | h | h <;> omega
        obtain ⟨y, hy⟩ := List.length_eq_one_iff.1 ha0
        obtain ⟨z, hz⟩ := List.length_eq_one_iff.1 hc1
        simp only [hy, hz, List.getElem_cons_zero] at h1 h2
        rw [hy, lvKs, lvKs] at e2
        rw [hz, lvKs, lvKs] at e1
        rw [hy, klsz, klsz] at e3
        rw [hz, klsz, klsz] at e4
        omega
      · rw [fit_xm c6 g hc0] at h
        obtain ⟨h1, h2⟩ := fit_small m a _ hoa (okD_kid hoc 0 hc0) (by omega) h
        omega
    have hac : a.sort = c.sort := Classical.byContradiction fun h' => by rw [fit_ne c6 h'] at h; cases h
    by_cases c4 : c.sort = 4
    · have ha0 : a.kids.length = 1 := by rcases sa with h | h | h <;> omega
      have hc1 : c.kids.length = 1 := by rcases sc with h | h | h <;> omega
      have hzc := ksz_kid (List.getElem_mem (show 0 < c.kids.length by omega))
      rw [fit_ll c4 (by omega) (by omega) (by omega)] at h
      obtain ⟨h1, h2⟩ := fit_small m _ _ (okD_kid hoa 0 (by omega)) (okD_kid hoc 0 (by omega)) (by omega) h
      have e1 := lvK_eq c
      have e2 := lvK_eq a
      have e3 := ksz_eq a
      have e4 := ksz_eq c
      obtain ⟨y, hy⟩ := List.length_eq_one_iff.1 ha0
      obtain ⟨z, hz⟩ := List.length_eq_one_iff.1 hc1
      simp only [hy, hz, List.getElem_cons_zero] at h1 h2
      rw [hy, lvKs, lvKs] at e2
      rw [hz, lvKs, lvKs] at e1
      rw [hy, klsz, klsz] at e3
      rw [hz, klsz, klsz] at e4
      omega
    by_cases c5 : c.sort = 5
    · have f1 := fit_names hoa hoc (by omega) c5 h
      have u1 := uni_wider hoa hoc (by omega) c5 h
      rw [u1] at f1
      obtain ⟨hla, hra⟩ := rise_names hoa (by omega)
      obtain ⟨hlc, hrc⟩ := rise_names hoc c5
      have hsa : ∀ x, x ∈ a.names → x ∈ c.names := fun x hx => by rw [← u1]; exact (uniN_mem x).2 (Or.inl hx)
      have key : ∀ nm, nm ∈ a.names → ksz (kidZ a nm) ≤ ksz (kidZ c nm) ∧ lvK (kidZ a nm) ≤ lvK (kidZ c nm) := fun nm hma => by
        have oka := kidZ_ok hoa (by omega) hma
        have okc := kidZ_ok hoc c5 (hsa nm hma)
        have g1 := (f1 nm (hsa nm hma)).2.resolve_left (fun h => okD_ne oka.1 h.1)
        exact fit_small m _ _ oka.1 okc.1 (by omega) g1.2.2
      constructor
      · rw [ksz_eq a, ksz_eq c, kids_map hoa (by omega), kids_map hoc c5]
        have := klsz_sum _ _ (kidZ a) (kidZ c) (rise_sub _ _ (rise_pairs hrc) (rise_pairs hra) hsa) fun nm hm => (key nm hm).1
        omega
      · rw [lvK_eq a, lvK_eq c, kids_map hoa (by omega), kids_map hoc c5]
        have : lvKs (a.names.map (kidZ a)) ≤ lvKs (c.names.map (kidZ c)) := lvKs_le fun t ht => by
          obtain ⟨nm, hm, rfl⟩ := List.mem_map.1 ht
          exact Nat.le_trans (key nm hm).2 (lvKs_mem (List.mem_map_of_mem (hsa nm hm)))
        omega
    · have za : a.kids = [] := List.eq_nil_of_length_eq_zero (by rcases sa with h | h | h <;> omega)
      rw [ksz_eq a, ksz_eq c, lvK_eq a, lvK_eq c, za, klsz, lvKs]
      omega
/-- The join of two schemas: both fit into it. -/
theorem join_up {a b k : Kd} (h : joinD a b = some k) : fitsD a k = true ∧ fitsD b k = true := by
  unfold joinD at h
  split at h
  · next hq =>
    cases hj : jnP 80 a b with
    | none => rw [hj] at h; cases h
    | some x =>
      rw [hj] at h
      unfold okO at h
      simp only at h
      split at h
      · next hx =>
        obtain rfl := Option.some.inj h
        have ha := ok_of_qT hq.1
        have hb := ok_of_qT hq.2
        obtain ⟨-, h2⟩ := jn_up 80 a b x ha.1 hb.1 hj
        obtain ⟨h3, h4⟩ := h2 40 (ok_of_qT hx).2
        unfold fitsD
        rw [decide_eq_true hq.1, decide_eq_true hq.2, decide_eq_true hx, h3, h4]
        exact ⟨rfl, rfl⟩
      · cases h
  · cases h
/-- The join of two schemas is there if both fit into a common one, and fits into it. -/
theorem join_least {a b c : Kd} (h1 : fitsD a c = true) (h2 : fitsD b c = true) : ∃ k, joinD a b = some k ∧ fitsD k c = true := by
  unfold fitsD at h1 h2
  rw [Bool.and_eq_true, Bool.and_eq_true, decide_eq_true_eq, decide_eq_true_eq] at h1 h2
  have ha := ok_of_qT h1.1.1
  have hb := ok_of_qT h2.1.1
  have hc := ok_of_qT h1.1.2
  obtain ⟨x, hx, hf⟩ := jn_least 40 80 a b c ha.1 hb.1 hc.1 hc.2 (by omega) h1.2 h2.2
  have hox := (jn_up 80 a b x ha.1 hb.1 hx).1
  obtain ⟨s1, s2⟩ := fit_small 40 x c hox hc.1 hc.2 hf
  have hqc := (qT_iff c).1 h1.1.2
  have hqx : 0 < qT x 1 := (qT_iff x).2 ⟨hox, by omega, by omega⟩
  refine ⟨x, ?_, ?_⟩
  · unfold joinD
    rw [if_pos ⟨h1.1.1, h2.1.1⟩, hx]
    unfold okO
    exact if_pos hqx
  · unfold fitsD
    rw [decide_eq_true hqx, decide_eq_true h1.1.2, hf]
    rfl
end Go.Proofs.YtenpghndgdemnaaGreatDoor
