/- The walks of kindClaim's holds and of namedKind's kidFor. No conditions but those on the trees' and schemas' shapes that are told. -/
import Derived.Test.YthkjhmcbmakkdaaDoorPart22
import Derived.Test.YthkjhmcbmakkdaaDoorPart12
import Derived.Sort.Walk0
namespace Go.Proofs.YthkjhmcbmakkdaaDoor
open Go Go.RowKit Go.Maps

def row9 (c : C4) (d : C5) : Nat → Value
  | 0 => c.c0
  | 1 => c.c1
  | 2 => c.c2
  | 3 => c.c3
  | 4 => d.c0
  | 5 => d.c1
  | 6 => d.c2
  | 7 => d.c3
  | _ => d.c4
theorem row9_alloc (w : World) (c : C4) (d : C5) (t : TypeId) : (w.alloc (.cells #[c.c0, c.c1, c.c2, c.c3, d.c0, d.c1, d.c2, d.c3, d.c4] t)).rowIs w.heap.size t 9 (row9 c d) :=
  World.rowIs_alloc w #[c.c0, c.c1, c.c2, c.c3, d.c0, d.c1, d.c2, d.c3, d.c4] t _ (fun i hi => by
    have hi' : i < 9 := hi
    match i, hi' with
    | 0, _ => rfl
    | 1, _ => rfl
    | 2, _ => rfl
    | 3, _ => rfl
    | 4, _ => rfl
    | 5, _ => rfl
    | 6, _ => rfl
    | 7, _ => rfl
    | 8, _ => rfl)

/-- A claim holds, its kids aside. -/
def holdB (k : Kd) (t : Tr) : Bool := decide (k.sort = t.sort) && justB k.names t.names

set_option maxRecDepth 100000 in
set_option maxHeartbeats 800000 in
theorem holds_any (k : Kd) (t : Tr) (P Q : Nat → Prop) (c : C4) (d : C5) (w : World) (hP : ∀ b, P b → b < w.heap.size) (hQ : ∀ b, Q b → b < w.heap.size) (hrep : NRep P w k c) (hrep2 : Rep Q w t d) :
    Calls Tryd.prog 44 #[.agg #[c.c0, c.c1, c.c2, c.c3, d.c0, d.c1, d.c2, d.c3, d.c4]] w fun e w' => e = .returned (.bool (holdB k t)) ∧ Below w.heap.size w w' := by
  obtain ⟨c0, c1, c2, c3⟩ := c
  obtain ⟨d0, d1, d2, d3, d4⟩ := d
  obtain ⟨e0, -, ⟨a3, cap3, e1, -, -⟩, ⟨B, e2, hPB, hm⟩, a, cap, e3, -, -⟩ := hrep.open
  obtain ⟨g0, g1, g2, -, -, -, hns, a6, cap6, g4, -, -⟩ := hrep2.open
  simp only at e0 e1 e2 e3 g0 g1 g2 g4 hns
  have HNS := hide hns
  obtain ⟨a5, cap5, g3, -, -⟩ := hns
  subst e0 e1 e2 e3 g0 g1 g2 g3 g4
  have hb0 : ∀ o, Below w.heap.size w (w.alloc o) := fun o => (Below.refl _ _).alloc (Nat.le_refl _) o
  have hcall := fun o => hasJust_any a3 cap3 B k.names (.slice a5 t.names.length cap5) t.names (w.alloc o) (P := Q) (fun b hb => Nat.lt_of_lt_of_le (hQ b hb) (hb0 o).size) ((unhide HNS).carry (fun b hb => (hb0 o).block b (hQ b hb)) (fun _ h => h)) (hm.carry ((hb0 o).block B (hP B hPB)))
  have HCALL := hide hcall; have HB0 := hide hb0
  clear hcall hb0 hrep hrep2 hP hQ hPB hm
  by_cases hs : k.sort = t.sort
  · have hh : holdB k t = justB k.names t.names := by rw [holdB, decide_eq_true hs, Bool.true_and]
    rw [hh]
    simp only [hs]
    clear hs hh
    generalize justB k.names t.names = r at *
    go_enter Tryd.func44, Tryd.ntmps44
    go_wp2_with (go_at_call 65; refine (unhide HCALL _).mono ?_; rintro e w1 ⟨rfl, hb1⟩)
    go_ret
    exact ⟨rfl, (unhide HB0 _).trans (hb1.mono (unhide HB0 _).size)⟩
  · have hh : holdB k t = false := by rw [holdB, decide_eq_false hs, Bool.false_and]
    rw [hh]
    clear hh HCALL
    go_enter Tryd.func44, Tryd.ntmps44
    go_wp2_with fail
    go_ret
    exact ⟨rfl, unhide HB0 _⟩
end Go.Proofs.YthkjhmcbmakkdaaDoor

/- The walk of namedKind's kidFor: the schema of a tree's kid, where the tree is of the schema in all but its kids. -/

namespace Go.Proofs.YthkjhmcbmakkdaaDoor
open Go Go.RowKit Go.Maps Go.WideMaps

set_option maxRecDepth 100000 in
set_option maxHeartbeats 800000 in
theorem kidFor_form (k : Kd) (t : Tr) (i : Nat) (P Q : Nat → Prop) (c : C4) (d : C5) (w : World) (hP : ∀ b, P b → b < w.heap.size) (hQ : ∀ b, Q b → b < w.heap.size) (hrep : NRep P w k c) (hrep2 : Rep Q w t d)
    (h5 : k.sort = 5) (hne : k.names = t.names) (hnd : k.names.Nodup) (hi : i < k.kids.length) (hil : i < t.names.length) :
    Calls Tryd.prog 112 #[.agg #[c.c0, c.c1, c.c2, c.c3], .agg #[d.c0, d.c1, d.c2, d.c3, d.c4], .int .i64 i] w fun e w' => ∃ x : C4, e = .returned (.agg #[x.c0, x.c1, x.c2, x.c3]) ∧ NRep P w' k.kids[i] x ∧ Below w.heap.size w w' := by
  obtain ⟨c0, c1, c2, c3⟩ := c
  obtain ⟨d0, d1, d2, d3, d4⟩ := d
  obtain ⟨e0, -, ⟨a3, cap3, e1, -, -⟩, ⟨B, e2, hPB, hm⟩, a, cap, e3, hlk, hks⟩ := hrep.open
  obtain ⟨g0, g1, g2, -, -, -, ⟨a5, cap5, g3, -, hnc⟩, a6, cap6, g4, -, -⟩ := hrep2.open
  simp only at e0 e1 e2 e3 g0 g1 g2 g3 g4
  subst e0 e1 e2 e3 g0 g1 g2 g3 g4
  obtain ⟨nb, no, rfl, hpn, hcn, hnsz⟩ := hnc i hil
  obtain ⟨kb, ko, kc, rfl, hpk, hck, hrk⟩ := hks i hi
  obtain ⟨W0, hW0⟩ : ∃ W0, (((w.alloc (.cells #[.int .i64 k.sort, .slice a3 k.names.length cap3, .map (some B), .slice (some ⟨kb, ko, none⟩) k.kids.length cap] 74)).alloc (.cells #[.int .i64 t.sort, .int .i64 t.num, .string t.text, .slice (some ⟨nb, no, none⟩) t.names.length cap5, .slice a6 t.kids.length cap6] 37)).alloc (.cells #[.int .i64 0, .slice none 0 0, .map none, .slice none 0 0] 74)) = W0 := ⟨_, rfl⟩
  have hb0 : Below w.heap.size w W0 := by rw [← hW0]; exact (((Below.refl _ _).alloc (Nat.le_refl _) _).alloc (by simp) _).alloc (by simp; omega) _
  have hs0 : W0.heap.size = w.heap.size + 3 := by rw [← hW0]; simp
  have hr0 : W0.rowIs w.heap.size 74 4 (row4 (.int .i64 k.sort) (.slice a3 k.names.length cap3) (.map (some B)) (.slice (some ⟨kb, ko, none⟩) k.kids.length cap)) := by rw [← hW0]; exact ((row4_alloc w _ _ _ _ _).alloc _).alloc _
  have hr1 : W0.rowIs (w.heap.size + 1) 37 5 (row5 (.int .i64 t.sort) (.int .i64 t.num) (.string t.text) (.slice (some ⟨nb, no, none⟩) t.names.length cap5) (.slice a6 t.kids.length cap6)) := by
    rw [← hW0]
    have q := row5_alloc (w.alloc (.cells #[.int .i64 k.sort, .slice a3 k.names.length cap3, .map (some B), .slice (some ⟨kb, ko, none⟩) k.kids.length cap] 74)) (.int .i64 t.sort) (.int .i64 t.num) (.string t.text) (.slice (some ⟨nb, no, none⟩) t.names.length cap5) (.slice a6 t.kids.length cap6) 37
    rw [World.size_alloc] at q
    exact q.alloc _
  have hr2 : W0.rowIs (w.heap.size + 1 + 1) 74 4 (row4 (.int .i64 0) (.slice none 0 0) (.map none) (.slice none 0 0)) := by
    rw [← hW0]
    have q := row4_alloc ((w.alloc (.cells #[.int .i64 k.sort, .slice a3 k.names.length cap3, .map (some B), .slice (some ⟨kb, ko, none⟩) k.kids.length cap] 74)).alloc (.cells #[.int .i64 t.sort, .int .i64 t.num, .string t.text, .slice (some ⟨nb, no, none⟩) t.names.length cap5, .slice a6 t.kids.length cap6] 37)) (.int .i64 0) (.slice none 0 0) (.map none) (.slice none 0 0) 74
    rw [World.size_alloc, World.size_alloc] at q
    exact q
  have hm0 : NMap W0.drew B k.names := hm.carry (hb0.drew.block B (hP B hPB))
  have hkey : keyOf Tryd.prog 9 (.string t.names[i]) = some (nkey t.names[i]) := keyOf_string_mk Tryd.underlying9 (by unfold maxLen; omega)
  obtain ⟨cv, hrun, hat, -⟩ := hm0.lookup_int keyLaw Tryd.underlying69 Tryd.underlying3 (zeroInt _) hkey
  have hcv : cv = (i : Int) := by
    have h1 := at_nmap k.names hnd i (by rw [hne]; exact hil) k.names.length (Nat.le_refl _) (by rw [hne]; exact hil)
    have h2 : k.names[i]'(by rw [hne]; exact hil) = t.names[i] := by simp only [hne]
    rw [h2] at h1
    rw [h1] at hat
    simpa using hat.symm
  subst hcv
  have k0 := hr0.cell (i := 0) (by omega); have k2 := hr0.cell (i := 2) (by omega); have k3 := hr0.cell (i := 3) (by omega)
  have t3 := hr1.cell (i := 3) (by omega)
  have z := hr2.frozen
  have y0 := hr2.cell (i := 0) (by omega); have y1 := hr2.cell (i := 1) (by omega); have y2 := hr2.cell (i := 2) (by omega); have y3 := hr2.cell (i := 3) (by omega)
  simp only [row4, row5] at k0 k2 k3 t3 y0 y1 y2 y3
  have en : W0.cell? ⟨nb, no + i, none⟩ = some (.string t.names[i]) := by rw [hb0.cell (hQ nb hpn)]; exact hcn
  have hck' := hck.carry (hb0.block kb (hP kb hpk))
  obtain ⟨x0, x1, x2, x3⟩ := kc
  obtain ⟨f0, -, ⟨a7, cap7, f1, -⟩, ⟨B2, f2, -⟩, a8, cap8, f3, -⟩ := hrk.open
  simp only at f0 f1 f2 f3
  subst f0 f1 f2 f3
  obtain ⟨u0, u1, u2, u3⟩ := hck'
  simp only at u0 u1 u2 u3
  have HRK := hide hrk; have HB0 := hide hb0; have HP := hide hP
  clear hck hcn hpn hrk hb0 hP hQ hrep hrep2 hr0 hr1 hr2 hks hnc hat hm hm0 hkey hpk hPB
  have hd5 : (k.sort == 5) = true := by rw [h5]; rfl
  generalize k.kids[i] = kk at *
  generalize t.names[i] = nm at *
  clear h5 hnd hne
  go_enter Tryd.func112, Tryd.ntmps112
  go_wp2_with fail
  go_region
  all_goals
    go_wp2_with fail
    refine bodyPost_ret (v := .agg #[.int .i64 kk.sort, .slice a7 kk.names.length cap7, .map (some B2), .slice a8 kk.kids.length cap8]) (by simp [results, Tryd.results112, go_sem, y0, y1, y2, y3]) rfl ⟨⟨_, _, _, _⟩, rfl, ?_, ?_⟩
    · exact NRep.carry (fun b hb => (heap_set4n _ _ _ _ _ _ _ (by have := unhide HP b hb; omega)).trans ((unhide HB0).drew.block b (unhide HP b hb))) (fun _ h => h) kk _ (unhide HRK)
    · exact below_set4 (unhide HB0).drew _ _ _ _ _ (by omega)

set_option maxRecDepth 100000 in
set_option maxHeartbeats 800000 in
theorem kidFor_else (k : Kd) (t : Tr) (i : Nat) (P Q : Nat → Prop) (c : C4) (d : C5) (w : World) (hP : ∀ b, P b → b < w.heap.size) (hrep : NRep P w k c) (hrep2 : Rep Q w t d)
    (h5 : k.sort ≠ 5) (hi : 0 < k.kids.length) :
    Calls Tryd.prog 112 #[.agg #[c.c0, c.c1, c.c2, c.c3], .agg #[d.c0, d.c1, d.c2, d.c3, d.c4], .int .i64 i] w fun e w' => ∃ x : C4, e = .returned (.agg #[x.c0, x.c1, x.c2, x.c3]) ∧ NRep P w' k.kids[0] x ∧ Below w.heap.size w w' := by
  obtain ⟨c0, c1, c2, c3⟩ := c
  obtain ⟨d0, d1, d2, d3, d4⟩ := d
  obtain ⟨e0, -, ⟨a3, cap3, e1, -, -⟩, ⟨B, e2, hPB, hm⟩, a, cap, e3, hlk, hks⟩ := hrep.open
  obtain ⟨g0, g1, g2, -, -, -, ⟨a5, cap5, g3, -, hnc⟩, a6, cap6, g4, -, -⟩ := hrep2.open
  simp only at e0 e1 e2 e3 g0 g1 g2 g3 g4
  subst e0 e1 e2 e3 g0 g1 g2 g3 g4
  obtain ⟨kb, ko, kc, rfl, hpk, hck, hrk⟩ := hks 0 hi
  obtain ⟨W0, hW0⟩ : ∃ W0, (((w.alloc (.cells #[.int .i64 k.sort, .slice a3 k.names.length cap3, .map (some B), .slice (some ⟨kb, ko, none⟩) k.kids.length cap] 74)).alloc (.cells #[.int .i64 t.sort, .int .i64 t.num, .string t.text, .slice a5 t.names.length cap5, .slice a6 t.kids.length cap6] 37)).alloc (.cells #[.int .i64 0, .slice none 0 0, .map none, .slice none 0 0] 74)) = W0 := ⟨_, rfl⟩
  have hb0 : Below w.heap.size w W0 := by rw [← hW0]; exact (((Below.refl _ _).alloc (Nat.le_refl _) _).alloc (by simp) _).alloc (by simp; omega) _
  have hs0 : W0.heap.size = w.heap.size + 3 := by rw [← hW0]; simp
  have hr0 : W0.rowIs w.heap.size 74 4 (row4 (.int .i64 k.sort) (.slice a3 k.names.length cap3) (.map (some B)) (.slice (some ⟨kb, ko, none⟩) k.kids.length cap)) := by rw [← hW0]; exact ((row4_alloc w _ _ _ _ _).alloc _).alloc _
  have hr1 : W0.rowIs (w.heap.size + 1) 37 5 (row5 (.int .i64 t.sort) (.int .i64 t.num) (.string t.text) (.slice a5 t.names.length cap5) (.slice a6 t.kids.length cap6)) := by
    rw [← hW0]
    have q := row5_alloc (w.alloc (.cells #[.int .i64 k.sort, .slice a3 k.names.length cap3, .map (some B), .slice (some ⟨kb, ko, none⟩) k.kids.length cap] 74)) (.int .i64 t.sort) (.int .i64 t.num) (.string t.text) (.slice a5 t.names.length cap5) (.slice a6 t.kids.length cap6) 37
    rw [World.size_alloc] at q
    exact q.alloc _
  have hr2 : W0.rowIs (w.heap.size + 1 + 1) 74 4 (row4 (.int .i64 0) (.slice none 0 0) (.map none) (.slice none 0 0)) := by
    rw [← hW0]
    have q := row4_alloc ((w.alloc (.cells #[.int .i64 k.sort, .slice a3 k.names.length cap3, .map (some B), .slice (some ⟨kb, ko, none⟩) k.kids.length cap] 74)).alloc (.cells #[.int .i64 t.sort, .int .i64 t.num, .string t.text, .slice a5 t.names.length cap5, .slice a6 t.kids.length cap6] 37)) (.int .i64 0) (.slice none 0 0) (.map none) (.slice none 0 0) 74
    rw [World.size_alloc, World.size_alloc] at q
    exact q
  have k0 := hr0.cell (i := 0) (by omega); have k2 := hr0.cell (i := 2) (by omega); have k3 := hr0.cell (i := 3) (by omega)
  have t3 := hr1.cell (i := 3) (by omega)
  have z := hr2.frozen
  have y0 := hr2.cell (i := 0) (by omega); have y1 := hr2.cell (i := 1) (by omega); have y2 := hr2.cell (i := 2) (by omega); have y3 := hr2.cell (i := 3) (by omega)
  simp only [row4, row5] at k0 k2 k3 t3 y0 y1 y2 y3
  have hck' := hck.carry (hb0.block kb (hP kb hpk))
  obtain ⟨x0, x1, x2, x3⟩ := kc
  obtain ⟨f0, -, ⟨a7, cap7, f1, -⟩, ⟨B2, f2, -⟩, a8, cap8, f3, -⟩ := hrk.open
  simp only at f0 f1 f2 f3
  subst f0 f1 f2 f3
  obtain ⟨u0, u1, u2, u3⟩ := hck'
  simp only [Nat.zero_mul, Nat.add_zero] at u0 u1 u2 u3
  have HRK := hide hrk; have HB0 := hide hb0; have HP := hide hP
  clear hck hrk hb0 hP hrep hrep2 hr0 hr1 hr2 hks hnc hm hpk hPB
  have hd5 : (k.sort == 5) = false := by simpa using h5
  generalize k.kids[0] = kk at *
  clear h5
  go_enter Tryd.func112, Tryd.ntmps112
  go_wp2_with fail
  all_goals
    refine bodyPost_ret (v := .agg #[.int .i64 kk.sort, .slice a7 kk.names.length cap7, .map (some B2), .slice a8 kk.kids.length cap8]) (by simp [results, Tryd.results112, go_sem, y0, y1, y2, y3]) rfl ⟨⟨_, _, _, _⟩, rfl, ?_, ?_⟩
    · exact NRep.carry (fun b hb => (heap_set4n _ _ _ _ _ _ _ (by have := unhide HP b hb; omega)).trans ((unhide HB0).block b (unhide HP b hb))) (fun _ h => h) kk _ (unhide HRK)
    · exact below_set4 (unhide HB0) _ _ _ _ _ (by omega)
end Go.Proofs.YthkjhmcbmakkdaaDoor

/- Claims (a schema with named kids, and a tree) in a row of cells. Definitions and small laws; no program walked, no conditions. -/

namespace Go.Proofs.YthkjhmcbmakkdaaDoor
open Go Go.RowKit Go.Maps

def d5l (d : C5) : List Value := [d.c0, d.c1, d.c2, d.c3, d.c4]
def c9l (c : C4) (d : C5) : List Value := c4l c ++ d5l d
/-- The claims on a tree's kids. -/
def clm (K : Kd) : List Tr → Nat → List (Kd × Tr)
  | [], _ => []
  | t :: r, i => (kidOf K i, t) :: clm K r (i + 1)
theorem clm_len (K : Kd) : ∀ (l : List Tr) (i : Nat), (clm K l i).length = l.length
  | [], _ => rfl
  | t :: r, i => by rw [clm, List.length_cons, clm_len K r, List.length_cons]
theorem clm_snoc (K : Kd) (t : Tr) : ∀ (l : List Tr) (i : Nat), clm K (l ++ [t]) i = clm K l i ++ [(kidOf K (i + l.length), t)]
  | [], i => by simp [clm]
  | a :: r, i => by
    rw [List.cons_append, clm, clm_snoc K t r (i + 1), clm, List.cons_append, List.length_cons, show i + 1 + r.length = i + (r.length + 1) from by omega]
theorem clm_take (K : Kd) (l : List Tr) (k : Nat) (h : k < l.length) : clm K (l.take (k + 1)) 0 = clm K (l.take k) 0 ++ [(kidOf K k, l[k])] := by
  rw [List.take_succ_eq_append_getElem h, clm_snoc]
  congr 4
  simp; omega

/-- Claims whose cells stand in a row. -/
def CRepL (P : Nat → Prop) (w : World) : List (Kd × Tr) → List Value → Prop
  | [], xs => xs = []
  | p :: r, xs => ∃ c d xs', xs = c9l c d ++ xs' ∧ NRep P w p.1 c ∧ Rep P w p.2 d ∧ CRepL P w r xs'
theorem CRepL.snoc {P : Nat → Prop} {w : World} {ps : List (Kd × Tr)} {xs : List Value} {k : Kd} {t : Tr} {c : C4} {d : C5} (h : CRepL P w ps xs) (hk : NRep P w k c) (ht : Rep P w t d) : CRepL P w (ps ++ [(k, t)]) (xs ++ c9l c d) := by
  induction ps generalizing xs with
  | nil =>
    have h' : xs = [] := h
    subst h'
    exact ⟨c, d, [], by simp, hk, ht, rfl⟩
  | cons a r ih =>
    obtain ⟨c', d', xs', rfl, h1, h2, h3⟩ := h
    exact ⟨c', d', xs' ++ c9l c d, by simp, h1, h2, ih h3⟩
theorem CRepL.carry {P Q : Nat → Prop} {w w' : World} {ps : List (Kd × Tr)} {xs : List Value} (h : CRepL P w ps xs) (hP : ∀ b, P b → w'.heap[b]? = w.heap[b]?) (hQ : ∀ b, P b → Q b) : CRepL Q w' ps xs := by
  induction ps generalizing xs with
  | nil => exact h
  | cons a r ih =>
    obtain ⟨c', d', xs', rfl, h1, h2, h3⟩ := h
    exact ⟨c', d', xs', rfl, NRep.carry hP hQ _ _ h1, Rep.carry hP hQ _ _ h2, ih h3⟩
/-- Claim i of a row. -/
theorem CRepL.get {P : Nat → Prop} {w : World} {g : Nat} {ps : List (Kd × Tr)} {xs : List Value} {o : Nat} (h : CRepL P w ps xs) (hc : ∀ j u, xs[j]? = some u → w.cell? ⟨g, o + j, none⟩ = some u) (i : Nat) (hi : i < ps.length) :
    ∃ c d, C4.at w g (o + i * 9) c ∧ C5.at w g (o + i * 9 + 4) d ∧ NRep P w ps[i].1 c ∧ Rep P w ps[i].2 d := by
  induction ps generalizing xs o i with
  | nil => simp at hi
  | cons a r ih =>
    obtain ⟨c', d', xs', rfl, h1, h2, h3⟩ := h
    match i with
    | 0 =>
      refine ⟨c', d', ?_, ?_, h1, h2⟩
      · rw [Nat.zero_mul, Nat.add_zero]; exact ⟨hc 0 _ rfl, hc 1 _ rfl, hc 2 _ rfl, hc 3 _ rfl⟩
      · rw [Nat.zero_mul, Nat.add_zero]; exact ⟨hc 4 _ rfl, hc 5 _ rfl, hc 6 _ rfl, hc 7 _ rfl, hc 8 _ rfl⟩
    | i + 1 =>
      obtain ⟨c, d, q1, q2, q3, q4⟩ := ih (o := o + 9) h3 (fun j u hj => by
        have := hc (9 + j) u (by
          rw [List.getElem?_append_right (by simp [c9l, c4l, d5l]), show 9 + j - (c9l c' d').length = j from by simp [c9l, c4l, d5l]]; exact hj)
        rw [show o + 9 + j = o + (9 + j) from by omega]; exact this) i (by simpa using hi)
      exact ⟨c, d, by rw [show o + (i + 1) * 9 = o + 9 + i * 9 from by omega]; exact q1, by rw [show o + (i + 1) * 9 + 4 = o + 9 + i * 9 + 4 from by omega]; exact q2, q3, q4⟩
theorem cell_nine (w : World) (c : C4) (d : C5) (t : TypeId) : ∀ j u, (c9l c d)[j]? = some u → (w.alloc (.cells #[c.c0, c.c1, c.c2, c.c3, d.c0, d.c1, d.c2, d.c3, d.c4] t)).cell? ((⟨w.heap.size, 0, none⟩ : Addr).add j) = some u := by
  intro j u hj
  have hrow := row9_alloc w c d t
  rw [Addr.add_lit, Nat.zero_add]
  match j with
  | 0 => rw [hrow.cell (by omega)]; exact hj
  | 1 => rw [hrow.cell (by omega)]; exact hj
  | 2 => rw [hrow.cell (by omega)]; exact hj
  | 3 => rw [hrow.cell (by omega)]; exact hj
  | 4 => rw [hrow.cell (by omega)]; exact hj
  | 5 => rw [hrow.cell (by omega)]; exact hj
  | 6 => rw [hrow.cell (by omega)]; exact hj
  | 7 => rw [hrow.cell (by omega)]; exact hj
  | 8 => rw [hrow.cell (by omega)]; exact hj
  | j + 9 => simp [c9l, c4l, d5l] at hj
end Go.Proofs.YthkjhmcbmakkdaaDoor

/- Of names that rise: they are just the kept ones, if and only if they are the same. No program, no conditions. -/

namespace Go.Proofs.YthkjhmcbmakkdaaDoor
open Go Go.RowKit Go.Maps

def nlt (a b : ByteArray) : Prop := Op.bytesLess a.toList b.toList = true
theorem nlt_iff (a b : ByteArray) : nlt a b ↔ a.toList < b.toList := by unfold nlt; rw [bytesLess_eq, decide_eq_true_eq]
theorem nlt_irrefl (a : ByteArray) : ¬ nlt a a := by rw [nlt_iff]; exact List.lt_irrefl _
theorem nlt_trans {a b c : ByteArray} (h : nlt a b) (k : nlt b c) : nlt a c := by
  rw [nlt_iff] at *; exact List.lt_trans h k

theorem rise_step {ns : List ByteArray} (h : riseB ns = true) (i : Nat) (hi : i + 1 < ns.length) : nlt ns[i] ns[i + 1] := by
  unfold riseB at h
  rw [List.all_eq_true] at h
  have hg := h (i + 1) (List.mem_range.2 hi)
  unfold good at hg
  rw [Bool.and_eq_true, getD_lt _ _ hi, getD_lt _ _ (show i + 1 - 1 < ns.length by omega)] at hg
  have := hg.2
  rw [decide_eq_false (by omega), Bool.false_or] at this
  exact this
theorem rise_lt {ns : List ByteArray} (h : riseB ns = true) (i : Nat) : ∀ (d : Nat) (hd : i + d + 1 < ns.length), nlt (ns[i]'(by omega)) ns[i + d + 1]
  | 0, hd => rise_step h i hd
  | d + 1, hd => nlt_trans (rise_lt h i d (by omega)) (rise_step h (i + d + 1) hd)
theorem rise_pairs {ns : List ByteArray} (h : riseB ns = true) : ns.Pairwise nlt := by
  rw [List.pairwise_iff_getElem]
  intro i j hi hj hij
  obtain ⟨d, rfl⟩ : ∃ d, j = i + d + 1 := ⟨j - i - 1, by omega⟩
  exact rise_lt h i d hj
theorem rise_nodup {ns : List ByteArray} (h : riseB ns = true) : ns.Nodup :=
  (rise_pairs h).imp (fun {a b} hab e => by subst e; exact nlt_irrefl _ hab)
theorem rise_sub : ∀ (ns ms : List ByteArray), ns.Pairwise nlt → ms.Pairwise nlt → (∀ x, x ∈ ms → x ∈ ns) → ms.Sublist ns
  | [], [], _, _, _ => List.Sublist.slnil
  | [], b :: s, _, _, h => by have := h b (by simp); simp at this
  | a :: r, [], _, _, _ => List.nil_sublist _
  | a :: r, b :: s, h1, h2, h => by
    rw [List.pairwise_cons] at h1
    have h2' := h2
    rw [List.pairwise_cons] at h2'
    by_cases e : b = a
    · subst e
      refine List.Sublist.cons_cons _ (rise_sub r s h1.2 h2'.2 (fun x hx => ?_))
      rcases List.mem_cons.1 (h x (List.mem_cons_of_mem _ hx)) with rfl | hr
      · exact absurd (h2'.1 x hx) (nlt_irrefl _)
      · exact hr
    · have hb : b ∈ r := (List.mem_cons.1 (h b (by simp))).resolve_left e
      refine List.Sublist.cons _ (rise_sub r (b :: s) h1.2 h2 (fun x hx => ?_))
      rcases List.mem_cons.1 (h x hx) with rfl | hr
      · rcases List.mem_cons.1 hx with rfl | hs
        · exact absurd rfl e
        · exact absurd (nlt_trans (h1.1 b hb) (h2'.1 x hs)) (nlt_irrefl _)
      · exact hr
theorem just_iff {ns ms : List ByteArray} (h1 : riseB ns = true) (h2 : riseB ms = true) : justB ns ms = decide (ns = ms) := by
  rw [Bool.eq_iff_iff, justB, Bool.and_eq_true, List.all_eq_true, decide_eq_true_eq, decide_eq_true_eq]
  constructor
  · rintro ⟨ha, hl⟩
    refine ((rise_sub ns ms (rise_pairs h1) (rise_pairs h2) (fun x hx => ?_)).eq_of_length hl).symm
    have := (has_nmap ns x ns.length (Nat.le_refl _)).1 (ha x hx)
    rwa [List.take_length] at this
  · rintro rfl
    exact ⟨fun x hx => (has_nmap ns x ns.length (Nat.le_refl _)).2 (by rw [List.take_length]; exact hx), rfl⟩

theorem hold_eq {k : Kd} {t : Tr} (hk : shB k = true) (ht : aloneB t = true) : holdB k t = (decide (k.sort = t.sort) && decide (k.names = t.names)) := by
  by_cases hs : k.sort = t.sort
  · rw [holdB]
    congr 1
    by_cases h5 : k.sort = 5
    · have h1 : riseB k.names = true := by
        rcases shB_cases hk with ⟨h, -⟩ | ⟨h, -⟩ | ⟨-, -, h⟩
        · omega
        · omega
        · exact h
      have h2 : riseB t.names = true := by
        have ht5 : t.sort = 5 := by omega
        unfold aloneB at ht
        simp [ht5] at ht
        exact ht.2
      exact just_iff h1 h2
    · have h1 : k.names = [] := by
        rcases shB_cases hk with ⟨-, -, h⟩ | ⟨-, -, h⟩ | ⟨h, -⟩
        · exact List.eq_nil_of_length_eq_zero h
        · exact List.eq_nil_of_length_eq_zero h
        · exact absurd h h5
      have h2 : t.names = [] := by
        have ht5 : t.sort ≠ 5 := by omega
        unfold aloneB at ht
        apply List.eq_nil_of_length_eq_zero
        by_cases e1 : t.sort = 1
        · simp [e1] at ht; simp [ht]
        by_cases e2 : t.sort = 2
        · simp [e2] at ht; simp [ht]
        by_cases e3 : t.sort = 3
        · simp [e3] at ht; simp [ht]
        by_cases e4 : t.sort = 4
        · simp [e4] at ht; simp [ht]
        by_cases e6 : t.sort = 6
        · simp [e6] at ht; simp [ht]
        · rw [if_neg e1, if_neg e2, if_neg e3, if_neg e4, if_neg ht5, if_neg e6] at ht; cases ht
      rw [h1, h2]
      simp [justB]
  · rw [holdB, decide_eq_false hs]; rfl
end Go.Proofs.YthkjhmcbmakkdaaDoor
