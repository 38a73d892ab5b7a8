/- The walk of namedKind's kidFor: the schema of a tree's kid, where the tree is of the schema in all but its kids. -/
import Derived.Test.YtcpfelaffclalaaGreatDoorPart03
import Derived.Deep.RegionLaw
import Derived.Deep.AppendLies
import Derived.Deep.CutRange
import Derived.RangeFuncNested
import Derived.RangeFuncBound
import Derived.RangeFuncCalls
namespace Go.Proofs.YtcpfelaffclalaaGreatDoor
open Go Go.RowKit Go.Maps Go.WideMaps

set_option maxRecDepth 100000 in
set_option maxHeartbeats 800000 in
theorem kidFor_form (k : Kd) (t : Tr) (i : Nat) (P Q : Nat → Prop) (c : C4) (d : C5) (w : World) (hP : ∀ b, P b → b < w.heap.size) (hQ : ∀ b, Q b → b < w.heap.size) (hrep : NRep P w k c) (hrep2 : Rep Q w t d)
    (h5 : k.sort = 5) (hne : k.names = t.names) (hnd : k.names.Nodup) (hi : i < k.kids.length) (hil : i < t.names.length) :
    Calls Tryz.prog 186 #[.agg #[c.c0, c.c1, c.c2, c.c3], .agg #[d.c0, d.c1, d.c2, d.c3, d.c4], .int .i64 i] w fun e w' => ∃ x : C4, e = .returned (.agg #[x.c0, x.c1, x.c2, x.c3]) ∧ NRep P w' k.kids[i] x ∧ Below w.heap.size w w' := by
  obtain ⟨c0, c1, c2, c3⟩ := c
  obtain ⟨d0, d1, d2, d3, d4⟩ := d
  obtain ⟨e0, -, ⟨a3, cap3, e1, -, -⟩, ⟨B, e2, hPB, hm⟩, a, cap, e3, hlk, hks⟩ := hrep.open
  obtain ⟨g0, g1, g2, -, -, -, ⟨a5, cap5, g3, -, hnc⟩, a6, cap6, g4, -, -⟩ := hrep2.open
  simp only at e0 e1 e2 e3 g0 g1 g2 g3 g4
  subst e0 e1 e2 e3 g0 g1 g2 g3 g4
  obtain ⟨nb, no, rfl, hpn, hcn, hnsz⟩ := hnc i hil
  obtain ⟨kb, ko, kc, rfl, hpk, hck, hrk⟩ := hks i hi
  obtain ⟨W0, hW0⟩ : ∃ W0, (((w.alloc (.cells #[.int .i64 k.sort, .slice a3 k.names.length cap3, .map (some B), .slice (some ⟨kb, ko, none⟩) k.kids.length cap] 104)).alloc (.cells #[.int .i64 t.sort, .int .i64 t.num, .string t.text, .slice (some ⟨nb, no, none⟩) t.names.length cap5, .slice a6 t.kids.length cap6] 39)).alloc (.cells #[.int .i64 0, .slice none 0 0, .map none, .slice none 0 0] 104)) = W0 := ⟨_, rfl⟩
  have hb0 : Below w.heap.size w W0 := by rw [← hW0]; exact (((Below.refl _ _).alloc (Nat.le_refl _) _).alloc (by simp) _).alloc (by simp; omega) _
  have hs0 : W0.heap.size = w.heap.size + 3 := by rw [← hW0]; simp
  have hr0 : W0.rowIs w.heap.size 104 4 (row4 (.int .i64 k.sort) (.slice a3 k.names.length cap3) (.map (some B)) (.slice (some ⟨kb, ko, none⟩) k.kids.length cap)) := by rw [← hW0]; exact ((row4_alloc w _ _ _ _ _).alloc _).alloc _
  have hr1 : W0.rowIs (w.heap.size + 1) 39 5 (row5 (.int .i64 t.sort) (.int .i64 t.num) (.string t.text) (.slice (some ⟨nb, no, none⟩) t.names.length cap5) (.slice a6 t.kids.length cap6)) := by
    rw [← hW0]
    have q := row5_alloc (w.alloc (.cells #[.int .i64 k.sort, .slice a3 k.names.length cap3, .map (some B), .slice (some ⟨kb, ko, none⟩) k.kids.length cap] 104)) (.int .i64 t.sort) (.int .i64 t.num) (.string t.text) (.slice (some ⟨nb, no, none⟩) t.names.length cap5) (.slice a6 t.kids.length cap6) 39
    rw [World.size_alloc] at q
    exact q.alloc _
  have hr2 : W0.rowIs (w.heap.size + 1 + 1) 104 4 (row4 (.int .i64 0) (.slice none 0 0) (.map none) (.slice none 0 0)) := by
    rw [← hW0]
    have q := row4_alloc ((w.alloc (.cells #[.int .i64 k.sort, .slice a3 k.names.length cap3, .map (some B), .slice (some ⟨kb, ko, none⟩) k.kids.length cap] 104)).alloc (.cells #[.int .i64 t.sort, .int .i64 t.num, .string t.text, .slice (some ⟨nb, no, none⟩) t.names.length cap5, .slice a6 t.kids.length cap6] 39)) (.int .i64 0) (.slice none 0 0) (.map none) (.slice none 0 0) 104
    rw [World.size_alloc, World.size_alloc] at q
    exact q
  have hm0 : NMap W0.drew B k.names := hm.carry (hb0.drew.block B (hP B hPB))
  have hkey : keyOf Tryz.prog 9 (.string t.names[i]) = some (nkey t.names[i]) := keyOf_string_mk Tryz.underlying9 (by unfold maxLen; omega)
  obtain ⟨cv, hrun, hat, -⟩ := hm0.lookup_int keyLaw Tryz.underlying99 Tryz.underlying3 (zeroInt _) hkey
  have hcv : cv = (i : Int) := by
    have h1 := at_nmap k.names hnd i (by rw [hne]; exact hil) k.names.length (Nat.le_refl _) (by rw [hne]; exact hil)
    have h2 : k.names[i]'(by rw [hne]; exact hil) = t.names[i] := by simp only [hne]
    rw [h2] at h1
    rw [h1] at hat
    simpa using hat.symm
  subst hcv
  have k0 := hr0.cell (i := 0) (by omega); have k2 := hr0.cell (i := 2) (by omega); have k3 := hr0.cell (i := 3) (by omega)
  have t3 := hr1.cell (i := 3) (by omega)
  have z := hr2.frozen
  have y0 := hr2.cell (i := 0) (by omega); have y1 := hr2.cell (i := 1) (by omega); have y2 := hr2.cell (i := 2) (by omega); have y3 := hr2.cell (i := 3) (by omega)
  simp only [row4, row5] at k0 k2 k3 t3 y0 y1 y2 y3
  have en : W0.cell? ⟨nb, no + i, none⟩ = some (.string t.names[i]) := by rw [hb0.cell (hQ nb hpn)]; exact hcn
  have hck' := hck.carry (hb0.block kb (hP kb hpk))
  obtain ⟨x0, x1, x2, x3⟩ := kc
  obtain ⟨f0, -, ⟨a7, cap7, f1, -⟩, ⟨B2, f2, -⟩, a8, cap8, f3, -⟩ := hrk.open
  simp only at f0 f1 f2 f3
  subst f0 f1 f2 f3
  obtain ⟨u0, u1, u2, u3⟩ := hck'
  simp only at u0 u1 u2 u3
  have HRK := hide hrk; have HB0 := hide hb0; have HP := hide hP
  clear hck hcn hpn hrk hb0 hP hQ hrep hrep2 hr0 hr1 hr2 hks hnc hat hm hm0 hkey hpk hPB
  have hd5 : (k.sort == 5) = true := by rw [h5]; rfl
  generalize k.kids[i] = kk at *
  generalize t.names[i] = nm at *
  clear h5 hnd hne
  go_enter Tryz.func186, Tryz.ntmps186
  go_wp2_with fail
  go_region
  all_goals
    go_wp2_with fail
    refine bodyPost_ret (v := .agg #[.int .i64 kk.sort, .slice a7 kk.names.length cap7, .map (some B2), .slice a8 kk.kids.length cap8]) (by simp [results, Tryz.results186, go_sem, y0, y1, y2, y3]) rfl ⟨⟨_, _, _, _⟩, rfl, ?_, ?_⟩
    · exact NRep.carry (fun b hb => (heap_set4n _ _ _ _ _ _ _ (by have := unhide HP b hb; omega)).trans ((unhide HB0).drew.block b (unhide HP b hb))) (fun _ h => h) kk _ (unhide HRK)
    · exact below_set4 (unhide HB0).drew _ _ _ _ _ (by omega)

set_option maxRecDepth 100000 in
set_option maxHeartbeats 800000 in
theorem kidFor_else (k : Kd) (t : Tr) (i : Nat) (P Q : Nat → Prop) (c : C4) (d : C5) (w : World) (hP : ∀ b, P b → b < w.heap.size) (hrep : NRep P w k c) (hrep2 : Rep Q w t d)
    (h5 : k.sort ≠ 5) (hi : 0 < k.kids.length) :
    Calls Tryz.prog 186 #[.agg #[c.c0, c.c1, c.c2, c.c3], .agg #[d.c0, d.c1, d.c2, d.c3, d.c4], .int .i64 i] w fun e w' => ∃ x : C4, e = .returned (.agg #[x.c0, x.c1, x.c2, x.c3]) ∧ NRep P w' k.kids[0] x ∧ Below w.heap.size w w' := by
  obtain ⟨c0, c1, c2, c3⟩ := c
  obtain ⟨d0, d1, d2, d3, d4⟩ := d
  obtain ⟨e0, -, ⟨a3, cap3, e1, -, -⟩, ⟨B, e2, hPB, hm⟩, a, cap, e3, hlk, hks⟩ := hrep.open
  obtain ⟨g0, g1, g2, -, -, -, ⟨a5, cap5, g3, -, hnc⟩, a6, cap6, g4, -, -⟩ := hrep2.open
  simp only at e0 e1 e2 e3 g0 g1 g2 g3 g4
  subst e0 e1 e2 e3 g0 g1 g2 g3 g4
  obtain ⟨kb, ko, kc, rfl, hpk, hck, hrk⟩ := hks 0 hi
  obtain ⟨W0, hW0⟩ : ∃ W0, (((w.alloc (.cells #[.int .i64 k.sort, .slice a3 k.names.length cap3, .map (some B), .slice (some ⟨kb, ko, none⟩) k.kids.length cap] 104)).alloc (.cells #[.int .i64 t.sort, .int .i64 t.num, .string t.text, .slice a5 t.names.length cap5, .slice a6 t.kids.length cap6] 39)).alloc (.cells #[.int .i64 0, .slice none 0 0, .map none, .slice none 0 0] 104)) = W0 := ⟨_, rfl⟩
  have hb0 : Below w.heap.size w W0 := by rw [← hW0]; exact (((Below.refl _ _).alloc (Nat.le_refl _) _).alloc (by simp) _).alloc (by simp; omega) _
  have hs0 : W0.heap.size = w.heap.size + 3 := by rw [← hW0]; simp
  have hr0 : W0.rowIs w.heap.size 104 4 (row4 (.int .i64 k.sort) (.slice a3 k.names.length cap3) (.map (some B)) (.slice (some ⟨kb, ko, none⟩) k.kids.length cap)) := by rw [← hW0]; exact ((row4_alloc w _ _ _ _ _).alloc _).alloc _
  have hr1 : W0.rowIs (w.heap.size + 1) 39 5 (row5 (.int .i64 t.sort) (.int .i64 t.num) (.string t.text) (.slice a5 t.names.length cap5) (.slice a6 t.kids.length cap6)) := by
    rw [← hW0]
    have q := row5_alloc (w.alloc (.cells #[.int .i64 k.sort, .slice a3 k.names.length cap3, .map (some B), .slice (some ⟨kb, ko, none⟩) k.kids.length cap] 104)) (.int .i64 t.sort) (.int .i64 t.num) (.string t.text) (.slice a5 t.names.length cap5) (.slice a6 t.kids.length cap6) 39
    rw [World.size_alloc] at q
    exact q.alloc _
  have hr2 : W0.rowIs (w.heap.size + 1 + 1) 104 4 (row4 (.int .i64 0) (.slice none 0 0) (.map none) (.slice none 0 0)) := by
    rw [← hW0]
    have q := row4_alloc ((w.alloc (.cells #[.int .i64 k.sort, .slice a3 k.names.length cap3, .map (some B), .slice (some ⟨kb, ko, none⟩) k.kids.length cap] 104)).alloc (.cells #[.int .i64 t.sort, .int .i64 t.num, .string t.text, .slice a5 t.names.length cap5, .slice a6 t.kids.length cap6] 39)) (.int .i64 0) (.slice none 0 0) (.map none) (.slice none 0 0) 104
    rw [World.size_alloc, World.size_alloc] at q
    exact q
  have k0 := hr0.cell (i := 0) (by omega); have k2 := hr0.cell (i := 2) (by omega); have k3 := hr0.cell (i := 3) (by omega)
  have t3 := hr1.cell (i := 3) (by omega)
  have z := hr2.frozen
  have y0 := hr2.cell (i := 0) (by omega); have y1 := hr2.cell (i := 1) (by omega); have y2 := hr2.cell (i := 2) (by omega); have y3 := hr2.cell (i := 3) (by omega)
  simp only [row4, row5] at k0 k2 k3 t3 y0 y1 y2 y3
  have hck' := hck.carry (hb0.block kb (hP kb hpk))
  obtain ⟨x0, x1, x2, x3⟩ := kc
  obtain ⟨f0, -, ⟨a7, cap7, f1, -⟩, ⟨B2, f2, -⟩, a8, cap8, f3, -⟩ := hrk.open
  simp only at f0 f1 f2 f3
  subst f0 f1 f2 f3
  obtain ⟨u0, u1, u2, u3⟩ := hck'
  simp only [Nat.zero_mul, Nat.add_zero] at u0 u1 u2 u3
  have HRK := hide hrk; have HB0 := hide hb0; have HP := hide hP
  clear hck hrk hb0 hP hrep hrep2 hr0 hr1 hr2 hks hnc hm hpk hPB
  have hd5 : (k.sort == 5) = false := by simpa using h5
  generalize k.kids[0] = kk at *
  clear h5
  go_enter Tryz.func186, Tryz.ntmps186
  go_wp2_with fail
  all_goals
    refine bodyPost_ret (v := .agg #[.int .i64 kk.sort, .slice a7 kk.names.length cap7, .map (some B2), .slice a8 kk.kids.length cap8]) (by simp [results, Tryz.results186, go_sem, y0, y1, y2, y3]) rfl ⟨⟨_, _, _, _⟩, rfl, ?_, ?_⟩
    · exact NRep.carry (fun b hb => (heap_set4n _ _ _ _ _ _ _ (by have := unhide HP b hb; omega)).trans ((unhide HB0).block b (unhide HP b hb))) (fun _ h => h) kk _ (unhide HRK)
    · exact below_set4 (unhide HB0) _ _ _ _ _ (by omega)
end Go.Proofs.YtcpfelaffclalaaGreatDoor

/- Claims (a schema with named kids, and a tree) in a row of cells. Definitions and small laws; no program walked, no conditions. -/

namespace Go.Proofs.YtcpfelaffclalaaGreatDoor
open Go Go.RowKit Go.Maps

def d5l (d : C5) : List Value := [d.c0, d.c1, d.c2, d.c3, d.c4]
def c9l (c : C4) (d : C5) : List Value := c4l c ++ d5l d
/-- The claims on a tree's kids. -/
def clm (K : Kd) : List Tr → Nat → List (Kd × Tr)
  | [], _ => []
  | t :: r, i => (kidOf K i, t) :: clm K r (i + 1)
theorem clm_len (K : Kd) : ∀ (l : List Tr) (i : Nat), (clm K l i).length = l.length
  | [], _ => rfl
  | t :: r, i => by rw [clm, List.length_cons, clm_len K r, List.length_cons]
theorem clm_snoc (K : Kd) (t : Tr) : ∀ (l : List Tr) (i : Nat), clm K (l ++ [t]) i = clm K l i ++ [(kidOf K (i + l.length), t)]
  | [], i => by simp [clm]
  | a :: r, i => by
    rw [List.cons_append, clm, clm_snoc K t r (i + 1), clm, List.cons_append, List.length_cons, show i + 1 + r.length = i + (r.length + 1) from by omega]
theorem clm_take (K : Kd) (l : List Tr) (k : Nat) (h : k < l.length) : clm K (l.take (k + 1)) 0 = clm K (l.take k) 0 ++ [(kidOf K k, l[k])] := by
  rw [List.take_succ_eq_append_getElem h, clm_snoc]
  congr 4
  simp; omega

/-- Claims whose cells stand in a row. -/
def CRepL (P : Nat → Prop) (w : World) : List (Kd × Tr) → List Value → Prop
  | [], xs => xs = []
  | p :: r, xs => ∃ c d xs', xs = c9l c d ++ xs' ∧ NRep P w p.1 c ∧ Rep P w p.2 d ∧ CRepL P w r xs'
theorem CRepL.snoc {P : Nat → Prop} {w : World} {ps : List (Kd × Tr)} {xs : List Value} {k : Kd} {t : Tr} {c : C4} {d : C5} (h : CRepL P w ps xs) (hk : NRep P w k c) (ht : Rep P w t d) : CRepL P w (ps ++ [(k, t)]) (xs ++ c9l c d) := by
  induction ps generalizing xs with
  | nil =>
    have h' : xs = [] := h
    subst h'
    exact ⟨c, d, [], by simp, hk, ht, rfl⟩
  | cons a r ih =>
    obtain ⟨c', d', xs', rfl, h1, h2, h3⟩ := h
    exact ⟨c', d', xs' ++ c9l c d, by simp, h1, h2, ih h3⟩
theorem CRepL.carry {P Q : Nat → Prop} {w w' : World} {ps : List (Kd × Tr)} {xs : List Value} (h : CRepL P w ps xs) (hP : ∀ b, P b → w'.heap[b]? = w.heap[b]?) (hQ : ∀ b, P b → Q b) : CRepL Q w' ps xs := by
  induction ps generalizing xs with
  | nil => exact h
  | cons a r ih =>
    obtain ⟨c', d', xs', rfl, h1, h2, h3⟩ := h
    exact ⟨c', d', xs', rfl, NRep.carry hP hQ _ _ h1, Rep.carry hP hQ _ _ h2, ih h3⟩
/-- Claim i of a row. -/
theorem CRepL.get {P : Nat → Prop} {w : World} {g : Nat} {ps : List (Kd × Tr)} {xs : List Value} {o : Nat} (h : CRepL P w ps xs) (hc : ∀ j u, xs[j]? = some u → w.cell? ⟨g, o + j, none⟩ = some u) (i : Nat) (hi : i < ps.length) :
    ∃ c d, C4.at w g (o + i * 9) c ∧ C5.at w g (o + i * 9 + 4) d ∧ NRep P w ps[i].1 c ∧ Rep P w ps[i].2 d := by
  induction ps generalizing xs o i with
  | nil => simp at hi
  | cons a r ih =>
    obtain ⟨c', d', xs', rfl, h1, h2, h3⟩ := h
    match i with
    | 0 =>
      refine ⟨c', d', ?_, ?_, h1, h2⟩
      · rw [Nat.zero_mul, Nat.add_zero]; exact ⟨hc 0 _ rfl, hc 1 _ rfl, hc 2 _ rfl, hc 3 _ rfl⟩
      · rw [Nat.zero_mul, Nat.add_zero]; exact ⟨hc 4 _ rfl, hc 5 _ rfl, hc 6 _ rfl, hc 7 _ rfl, hc 8 _ rfl⟩
    | i + 1 =>
      obtain ⟨c, d, q1, q2, q3, q4⟩ := ih (o := o + 9) h3 (fun j u hj => by
        have := hc (9 + j) u (by
          rw [List.getElem?_append_right (by simp [c9l, c4l, d5l]), show 9 + j - (c9l c' d').length = j from by simp [c9l, c4l, d5l]]; exact hj)
        rw [show o + 9 + j = o + (9 + j) from by omega]; exact this) i (by simpa using hi)
      exact ⟨c, d, by rw [show o + (i + 1) * 9 = o + 9 + i * 9 from by omega]; exact q1, by rw [show o + (i + 1) * 9 + 4 = o + 9 + i * 9 + 4 from by omega]; exact q2, q3, q4⟩
theorem cell_nine (w : World) (c : C4) (d : C5) (t : TypeId) : ∀ j u, (c9l c d)[j]? = some u → (w.alloc (.cells #[c.c0, c.c1, c.c2, c.c3, d.c0, d.c1, d.c2, d.c3, d.c4] t)).cell? ((⟨w.heap.size, 0, none⟩ : Addr).add j) = some u := by
  intro j u hj
  have hrow := row9_alloc w c d t
  rw [Addr.add_lit, Nat.zero_add]
  match j with
  | 0 => rw [hrow.cell (by omega)]; exact hj
  | 1 => rw [hrow.cell (by omega)]; exact hj
  | 2 => rw [hrow.cell (by omega)]; exact hj
  | 3 => rw [hrow.cell (by omega)]; exact hj
  | 4 => rw [hrow.cell (by omega)]; exact hj
  | 5 => rw [hrow.cell (by omega)]; exact hj
  | 6 => rw [hrow.cell (by omega)]; exact hj
  | 7 => rw [hrow.cell (by omega)]; exact hj
  | 8 => rw [hrow.cell (by omega)]; exact hj
  | j + 9 => simp [c9l, c4l, d5l] at hj
end Go.Proofs.YtcpfelaffclalaaGreatDoor

/- The walk of kindClaim's kids: the claims on the tree's kids, in a row of the call's own. The claim holds, its kids aside. -/

namespace Go.Proofs.YtcpfelaffclalaaGreatDoor
open Go Go.RowKit Go.Maps Go.WideMaps

theorem infoClaim : (Tryz.prog.info? 106).map (fun i => (i.zero, i.size, i.bytes)) = some (some (.agg #[.int .i64 0, .slice none 0 0, .map none, .slice none 0 0, .int .i64 0, .int .i64 0, .string ByteArray.empty, .slice none 0 0, .slice none 0 0]), 9, 144) := by kernel_rfl

theorem kidFor_any (k : Kd) (t : Tr) (i : Nat) (P : Nat → Prop) (c : C4) (d : C5) (w : World) (hP : ∀ b, P b → b < w.heap.size) (hrep : NRep P w k c) (hrep2 : Rep P w t d)
    (hk : shB k = true) (ht : aloneB t = true) (hs : k.sort = t.sort) (hne : k.names = t.names) (hi : i < t.kids.length) :
    Calls Tryz.prog 186 #[.agg #[c.c0, c.c1, c.c2, c.c3], .agg #[d.c0, d.c1, d.c2, d.c3, d.c4], .int .i64 i] w fun e w' => ∃ x : C4, e = .returned (.agg #[x.c0, x.c1, x.c2, x.c3]) ∧ NRep P w' (kidOf k i) x ∧ Below w.heap.size w w' := by
  obtain ⟨h0, h5⟩ := kid_at hk ht hs hne hi
  by_cases e : k.sort = 5
  · have hr : riseB k.names = true ∧ k.kids.length = k.names.length := by
      rcases shB_cases hk with ⟨h, -⟩ | ⟨h, -⟩ | ⟨-, h2, h⟩
      · omega
      · omega
      · exact ⟨h, h2⟩
    rw [kidOf_form e (h5 e)]
    exact kidFor_form k t i P P c d w hP hP hrep hrep2 e hne (rise_nodup hr.1) (h5 e) (by rw [← hne, ← hr.2]; exact h5 e)
  · rw [kidOf_else e i h0]
    exact kidFor_else k t i P P c d w hP hrep hrep2 e h0

theorem nine_one {P : Nat → Prop} {w : World} {k : Kd} {t : Tr} {c : C4} {d : C5} (h : NRep P w k c) (h2 : Rep P w t d) : ∀ u ∈ c9l c d, u.oneCell' = true := by
  intro u hu
  rcases List.mem_append.1 hu with hu | hu
  · exact h.one u hu
  · obtain ⟨r0, r1, r2, -, -, -, ⟨aa, capa, r3, -⟩, ab, capb, r4, -⟩ := h2.open
    simp only [d5l, r0, r1, r2, r3, r4, List.mem_cons, List.not_mem_nil, or_false] at hu
    rcases hu with rfl | rfl | rfl | rfl | rfl <;> rfl

set_option maxRecDepth 100000 in
set_option maxHeartbeats 3200000 in
theorem claimKids_any (k : Kd) (t : Tr) (P : Nat → Prop) (c : C4) (d : C5) (w : World) (hP : ∀ b, P b → b < w.heap.size) (hrep : NRep P w k c) (hrep2 : Rep P w t d)
    (hk : shB k = true) (ht : aloneB t = true) (hs : k.sort = t.sort) (hne : k.names = t.names) (hlen : t.kids.length ≤ 1000000) :
    Calls Tryz.prog 187 #[.agg #[c.c0, c.c1, c.c2, c.c3, d.c0, d.c1, d.c2, d.c3, d.c4]] w fun e w' => ∃ a cap xs, e = .returned (.slice a t.kids.length cap) ∧ w'.ownsRow (w.heap.size + 1) 106 9 (.slice a t.kids.length cap) t.kids.length xs ∧ CRepL P w' (clm k t.kids 0) xs ∧ Below w.heap.size w w' := by
  have hkf := fun (i : Nat) (hi : i < t.kids.length) (W : World) (hW : Below w.heap.size w W) => kidFor_any k t i P c d W (fun b hb => Nat.lt_of_lt_of_le (hP b hb) hW.size) (NRep.carry (fun b hb => hW.block b (hP b hb)) (fun _ h => h) _ _ hrep) (Rep.carry (fun b hb => hW.block b (hP b hb)) (fun _ h => h) _ _ hrep2) hk ht hs hne hi
  obtain ⟨c0, c1, c2, c3⟩ := c
  obtain ⟨d0, d1, d2, d3, d4⟩ := d
  obtain ⟨e0, -, ⟨a3, cap3, e1, -, -⟩, ⟨B, e2, -, -⟩, a, cap, e3, -, -⟩ := hrep.open
  obtain ⟨g0, g1, g2, -, -, -, ⟨a5, cap5, g3, -, -⟩, a6, cap6, g4, -, hks⟩ := hrep2.open
  simp only at e0 e1 e2 e3 g0 g1 g2 g3 g4
  subst e0 e1 e2 e3 g0 g1 g2 g3 g4
  obtain ⟨i0, hi, hz0, hz1, hz2⟩ := info_parts infoClaim
  have HKF := hide hkf; have HP := hide hP; have HK := hide hks
  have HII := hide hi; have HZ0 := hide hz0; have HZ1 := hide hz1; have HZ2 := hide hz2
  clear hkf hP hks hrep hrep2 hk ht hs hne hi hz0 hz1 hz2
  go_enter Tryz.func187, Tryz.ntmps187
  go_wp2_with fail
  have hr0 := row9_alloc w ⟨.int .i64 k.sort, .slice a3 k.names.length cap3, .map (some B), .slice a k.kids.length cap⟩ ⟨.int .i64 t.sort, .int .i64 t.num, .string t.text, .slice a5 t.names.length cap5, .slice a6 t.kids.length cap6⟩ 106
  simp only at hr0
  have hb0 : Below w.heap.size w (w.alloc (.cells #[.int .i64 k.sort, .slice a3 k.names.length cap3, .map (some B), .slice a k.kids.length cap, .int .i64 t.sort, .int .i64 t.num, .string t.text, .slice a5 t.names.length cap5, .slice a6 t.kids.length cap6] 106)) := (Below.refl _ _).alloc (Nat.le_refl _) _
  have hs0 : (w.alloc (.cells #[.int .i64 k.sort, .slice a3 k.names.length cap3, .map (some B), .slice a k.kids.length cap, .int .i64 t.sort, .int .i64 t.num, .string t.text, .slice a5 t.names.length cap5, .slice a6 t.kids.length cap6] 106)).heap.size = w.heap.size + 1 := by simp
  generalize (w.alloc (.cells #[.int .i64 k.sort, .slice a3 k.names.length cap3, .map (some B), .slice a k.kids.length cap, .int .i64 t.sort, .int .i64 t.num, .string t.text, .slice a5 t.names.length cap5, .slice a6 t.kids.length cap6] 106)) = W0 at *
  have HR0 := hide hr0; have HB0 := hide hb0
  clear hr0 hb0
  go_loopw [3, 10] (fun s i wr => ∃ (j : Nat) (a' : Option Addr) (cap' : Nat) (xs : List Value), j ≤ t.kids.length ∧ i = .int .i64 j ∧ s = .slice a' j cap' ∧ Hid (wr.ownsRow (w.heap.size + 1) 106 9 (.slice a' j cap') j xs) ∧ Hid (CRepL P wr (clm k (t.kids.take j) 0) xs) ∧ Hid (Below (w.heap.size + 1) W0 wr)) (fun _ i _ => t.kids.length - (intOf i).toNat)
  case atStart => exact ⟨0, none, 0, [], Nat.zero_le _, rfl, rfl, World.ownsRow_nil _ _ _ _, rfl, Below.refl _ _⟩
  case round =>
    obtain ⟨j, a', cap', xs, hj, rfl, rfl, HOWN, HCL, HB⟩ := hrel
    have hbw : Below w.heap.size w wr := (unhide HB0).trans (HB.out.mono (by omega))
    have hsw := HB.out.size
    by_cases hlt : j < t.kids.length
    · obtain ⟨mb, mo, mc, rfl, hpm, hcm, hrm⟩ := unhide HK j hlt
      have hcm' := hcm.carry (hbw.block mb (unhide HP mb hpm))
      obtain ⟨m0, m1, m2, m3, m4⟩ := mc
      obtain ⟨r0, r1, r2, -, -, -, ⟨aa, capa, r3, -⟩, ab, capb, r4, -⟩ := hrm.open
      simp only at r0 r1 r2 r3 r4
      subst r0 r1 r2 r3 r4
      obtain ⟨x0, x1, x2, x3, x4⟩ := hcm'
      simp only at x0 x1 x2 x3 x4
      have hrw : Rep P wr t.kids[j] ⟨_, _, _, _, _⟩ := Rep.carry (fun b hb => hbw.block b (unhide HP b hb)) (fun _ h => h) _ _ hrm
      have q0 := (unhide HR0).of_block (HB.out.block w.heap.size (by omega))
      have p0 := fun o => (q0.alloc o).cell (i := 0) (by omega); have p1 := fun o => (q0.alloc o).cell (i := 1) (by omega); have p2 := fun o => (q0.alloc o).cell (i := 2) (by omega); have p3 := fun o => (q0.alloc o).cell (i := 3) (by omega); have p4 := fun o => (q0.alloc o).cell (i := 4) (by omega); have p5 := fun o => (q0.alloc o).cell (i := 5) (by omega); have p6 := fun o => (q0.alloc o).cell (i := 6) (by omega); have p7 := fun o => (q0.alloc o).cell (i := 7) (by omega); have p8 := fun o => (q0.alloc o).cell (i := 8) (by omega)
      simp only [row9] at p0 p1 p2 p3 p4 p5 p6 p7 p8
      have hba : ∀ ob, Below w.heap.size w (wr.alloc ob).drew := fun ob => (hbw.alloc hbw.size ob).drew
      have hrB := row5_alloc wr (.int .i64 t.kids[j].sort) (.int .i64 t.kids[j].num) (.string t.kids[j].text) (.slice aa t.kids[j].names.length capa) (.slice ab t.kids[j].kids.length capb) 39
      have hcall : Calls Tryz.prog 186 #[.agg #[.int .i64 k.sort, .slice a3 k.names.length cap3, .map (some B), .slice a k.kids.length cap], .agg #[.int .i64 t.sort, .int .i64 t.num, .string t.text, .slice a5 t.names.length cap5, .slice (some ⟨mb, mo, none⟩) t.kids.length cap6], .int .i64 j] (wr.alloc (.cells #[.int .i64 t.kids[j].sort, .int .i64 t.kids[j].num, .string t.kids[j].text, .slice aa t.kids[j].names.length capa, .slice ab t.kids[j].kids.length capb] 39)).drew fun e w6 => ∃ n0 a7 n1 cap7 B2 a8 n2 cap8, e = .returned (.agg #[.int .i64 n0, .slice a7 n1 cap7, .map (some B2), .slice a8 n2 cap8]) ∧ Hid (NRep P w6 (kidOf k j) ⟨.int .i64 n0, .slice a7 n1 cap7, .map (some B2), .slice a8 n2 cap8⟩) ∧ Hid (Below wr.heap.size wr w6) ∧ wr.heap.size ≤ w6.heap.size ∧ Hid (w6.ownsRow (w.heap.size + 1) 106 9 (.slice a' j cap') j xs) ∧ w6.cell? ⟨wr.heap.size, 0, none⟩ = some (.int .i64 t.kids[j].sort) ∧ w6.cell? ⟨wr.heap.size, 1, none⟩ = some (.int .i64 t.kids[j].num) ∧ w6.cell? ⟨wr.heap.size, 2, none⟩ = some (.string t.kids[j].text) ∧ w6.cell? ⟨wr.heap.size, 3, none⟩ = some (.slice aa t.kids[j].names.length capa) ∧ w6.cell? ⟨wr.heap.size, 4, none⟩ = some (.slice ab t.kids[j].kids.length capb) := by
        refine (unhide HKF j hlt _ (hba _)).mono ?_
        rintro e w6 ⟨⟨y0, y1, y2, y3⟩, rfl, hnr, hb6⟩
        obtain ⟨f0, -, ⟨a7, cap7, f1, -⟩, ⟨B2, f2, -⟩, a8, cap8, f3, -⟩ := hnr.open
        simp only at f0 f1 f2 f3
        subst f0 f1 f2 f3
        have q6 := hrB.of_block (hb6.block wr.heap.size (by show wr.heap.size < (wr.alloc _).heap.size; simp))
        have hb6' : Below wr.heap.size wr w6 := (((Below.refl wr.heap.size wr).alloc (Nat.le_refl _) _).drew).trans (hb6.mono (((Below.refl wr.heap.size wr).alloc (Nat.le_refl _) _).drew).size)
        exact ⟨_, _, _, _, _, _, _, _, rfl, hnr, hb6', hb6'.size, HOWN.out.kept (row := none) ⟨hb6'.os, hb6'.tape, hb6'.output, hb6'.size, fun i hi _ => hb6'.block i hi⟩ (by rcases e : (Value.slice a' j cap').ownBlock with _ | g <;> simp), q6.cell (i := 0) (by omega), q6.cell (i := 1) (by omega), q6.cell (i := 2) (by omega), q6.cell (i := 3) (by omega), q6.cell (i := 4) (by omega)⟩
      have htk := clm_take k t.kids j hlt
      have hcl : (clm k (t.kids.take j) 0).length = j := by rw [clm_len]; simp; omega
      have HCALL := hide hcall; have HTK := hide htk; have HRW := hide hrw; have HBW := hide hbw
      clear hcall htk hrw hbw hrB hba q0 hcm hrm hpm
      go_wp2_with fail
      go_region_law (first
        | ((refine step_append_lies _ (by rfl) _ _ _ (by rfl) (w.heap.size + 1) 106 i0 _ 9 144 Tryz.underlying176 (unhide HII) (unhide HZ0) (unhide HZ1) (unhide HZ2) rfl (by decide) (.slice a' j cap') j xs (by rfl) ((unhide HOWN6).alloc _) ⟨w6.heap.size, 0, none⟩ 1 1 (c9l ⟨.int .i64 n0, .slice a7 n1 cap7, .map (some B2), .slice a8 n2 cap8⟩ ⟨.int .i64 t.kids[j].sort, .int .i64 t.kids[j].num, .string t.kids[j].text, .slice aa t.kids[j].names.length capa, .slice ab t.kids[j].kids.length capb⟩) (by rfl) (by rfl) (cell_nine w6 _ _ _) (nine_one (unhide HNR) (unhide HRT6)) (by decide) (by unfold maxLen; omega) (by omega) (by simp; omega) (w6.heap.size + 1) (by simp) ?_; intro g2 cap2 w8 hown8 hgrow8 hat8 hlt8))
        | (rw [if_pos (by first | rfl | simp [Region.wanted])]; go_simp; refine (unhide HCALL).mono ?_; rintro e w6 ⟨n0, a7, n1, cap7, B2, a8, n2, cap8, rfl, HNR, HB6, hs6, HOWN6, l0, l1, l2, l3, l4⟩; have HRT6 : Hid (Rep P w6 t.kids[j] ⟨.int .i64 t.kids[j].sort, .int .i64 t.kids[j].num, .string t.kids[j].text, .slice aa t.kids[j].names.length capa, .slice ab t.kids[j].kids.length capb⟩) := Rep.carry (fun b hb => (unhide HB6).block b (by have := unhide HP b hb; have := (unhide HBW).size; omega)) (fun _ h => h) _ _ (unhide HRW)))
      all_goals
        have hz6 : ∀ o, (w6.alloc o).heap.size = w6.heap.size + 1 := fun o => World.size_alloc _ _
        have hk6 : ∀ b, P b → w8.heap[b]? = w6.heap[b]? := fun b hb => by
          have hbl := unhide HP b hb
          have hbs := (unhide HBW).size
          rw [hgrow8.block b (by rw [hz6]; omega) (fun e => by have := ((unhide HOWN6).lt b e.symm).1; omega)]
          exact Below.heap_alloc _ _ _ (by omega)
        have hkr : ∀ b, P b → w8.heap[b]? = wr.heap[b]? := fun b hb => (hk6 b hb).trans ((unhide HB6).block b (by have := unhide HP b hb; have := (unhide HBW).size; omega))
        have hcl8 := CRepL.snoc (HCL.out.carry hkr (fun _ h => h)) (NRep.carry hk6 (fun _ h => h) _ _ (unhide HNR)) (Rep.carry hk6 (fun _ h => h) _ _ (unhide HRT6))
        rw [← unhide HTK] at hcl8
        have hb8 : Below (w.heap.size + 1) W0 w8 :=
          ((HB.out.trans ((unhide HB6).mono (by omega))).alloc (by omega) (.cells #[.int .i64 n0, .slice a7 n1 cap7, .map (some B2), .slice a8 n2 cap8, .int .i64 t.kids[j].sort, .int .i64 t.kids[j].num, .string t.kids[j].text, .slice aa t.kids[j].names.length capa, .slice ab t.kids[j].kids.length capb] 106)).grown hgrow8 (by rw [hz6]; omega) (fun b e => ((unhide HOWN6).lt b e).1)
        have HO8 := hide hown8; have HC8 := hide hcl8; have HB8 := hide hb8
        clear hown8 hcl8 hb8 hgrow8 hat8 hlt8 hk6 hkr hz6 l0 l1 l2 l3 l4 p0 p1 p2 p3 p4 p5 p6 p7 p8
        go_wp2_with fail
        go_roundw
        case rel => exact ⟨j + 1, some ⟨g2, 0, none⟩, cap2, _, by omega, by go_num, rfl, unhide HO8, unhide HC8, unhide HB8⟩
        case measure => simp [intOf]; omega
    · obtain rfl : j = t.kids.length := by omega
      have HBW := hide hbw
      clear hbw
      go_wp2_with fail
      go_ret
      have hcl := HCL.out
      rw [List.take_length] at hcl
      exact ⟨a', cap', xs, rfl, HOWN.out, hcl, unhide HBW⟩
end Go.Proofs.YtcpfelaffclalaaGreatDoor

/- A range over an iterator that may be asked to go on only behind an element of which a property holds (the listener leaves at each other one). A rule; no program, no conditions. -/

namespace Go.Proofs.YtcpfelaffclalaaGreatDoor
open Go Go.RowKit

/-- What the iterator promises: it hands out elements as long as one listens; where one goes on listening, the element has the property H. -/
def SeqH {α : Type} (n : Nat) (P : Program) (gf : Nat) (lb : Array Value) (encs : α → Array Value) (H : α → Prop) (Kp : World → World → Prop) (S Sp : List α → Prop) (w : World) : Prop :=
  ∀ (l : Nat) (J Jx : List α → World → Prop) (W : World), Below w.heap.size w W → (∀ s A B, J s A → A.grownBy B none → J s B) → (∀ pre x V, J (pre ++ [x]) V → H x) →
    (∀ pre x V, J pre V → YieldAt Fence.wide (n - 1) P l (encs x) V fun e V' => (e = .returned (.bool true) ∧ J (pre ++ [x]) V' ∧ Kp V V') ∨ (e = .returned (.bool false) ∧ Jx (pre ++ [x]) V')) →
    J [] W → CallsIn Fence.wide n P gf (#[.func (.yield l) #[] #[]] ++ lb) W fun e W' => (∃ v, e = .returned v) ∧ ((∃ xs, S xs ∧ J xs W') ∨ ∃ pre, Sp pre ∧ Jx pre W')

/-- How a round ends: it goes on, or it leaves the function. -/
def postH {α : Type} (B : Nat) (Kp : World → World → Prop) (I Ix : List α → World → Prop) (xs : List α) (W : World) : Exit → Act → World → Prop
  | .normal, _, W' => KeepsFrom B W W' ∧ Kp W W' ∧ I xs W'
  | .ret, _, W' => KeepsFrom B W W' ∧ Ix xs W'
  | _, _, _ => False

set_option maxHeartbeats 800000 in
theorem range_H {α : Type} {n : Nat} {P : Program} {g : Operand} {ps : Array Tmp} {assign body : Code} {Q : Exit → Act → World → Prop} {a : Act} {w : World} (h1 : 1 ≤ n) {gf : Nat} {lb : Array Value}
    (hg : a.eval g = .func (.func gf) #[] lb) (eg : ∀ args w, (callFunc gf args).run P w = .ok (.enter gf args) w) {encs : α → Array Value} {H : α → Prop} {Kp : World → World → Prop} {S Sp : List α → Prop}
    (hseq : SeqH (n - 1) P gf lb encs H Kp S Sp w) (hKt : ∀ {A B C : World}, Kp A B → Kp B C → Kp A C)
    (hKb : ∀ (W : World) (l : Nat) (o o' : Obj), w.heap.size ≤ l → W.heap[l]? = some o → o.isCells = false → o.isWalk = false → Kp W (W.putObj l o')) (hps : ∀ x, (encs x).size = ps.size)
    (I Ix : List α → World → Prop) (hI : OwnFrom w.heap.size I) (hIx : OwnFrom w.heap.size Ix) (hHy : ∀ pre x W, I (pre ++ [x]) W → H x) (h0 : I [] w)
    (Ax : α → Act → World → Prop) (hAx : ∀ x a', OwnFrom w.heap.size (fun (_ : Unit) W => Ax x a' W))
    (hassign : ∀ (l : Nat) (pre : List α) (x : α) (W : World) (K : Act → World → Prop), I pre W → (∀ a' W', KeepsFrom w.heap.size W W' → Kp W W' → I pre W' → Ax x a' W' → K a' W') →
      assign.wpIn (Fence.wide.inRound l) (n - 1 - 1) P (Exit.then K (fun _ _ _ => False)) { tmps := (ps.zip (encs x)).foldl (fun t (p, v) => t.setIfInBounds p v) a.tmps, defers := [] } W)
    (hbody : ∀ (l : Nat) (pre : List α) (x : α) (a' : Act) (W : World), I pre W → Ax x a' W → body.wpIn (Fence.wide.inRound l) (n - 1 - 1) P (postH w.heap.size Kp I Ix (pre ++ [x]) W) a' W)
    (hdone : ∀ (xs : List α) (W : World), S xs → I xs W → W.heap[w.heap.size]? = some (.deferred (some [])) → Q .normal { a with defers := { target := .collected w.heap.size, args := #[] } :: a.defers } W)
    (hstop : ∀ (pre : List α) (W : World), Sp pre → Ix pre W → W.heap[w.heap.size]? = some (.deferred (some [])) → Code.ret.wpIn Fence.wide n P Q { a with defers := { target := .collected w.heap.size, args := #[] } :: a.defers } W) :
    (Code.rangeFunc g ps assign body).wpIn Fence.wide n P Q a w := by
  refine wpIn_rangeFunc fun fn hfn => ?_
  obtain ⟨R, hR⟩ : ∃ R : LoopState → Option Code → Loop, ∀ s p, R s p = { state := s, pending := p, fn, tmps := a.tmps, params := ps, assign, body, defers := w.heap.size } := ⟨_, fun _ _ => rfl⟩
  have hsz : ((w.alloc (.deferred (some []))).alloc (.loop (R .ready none))).heap.size = w.heap.size + 2 := by simp
  have hL : ((w.alloc (.deferred (some []))).alloc (.loop (R .ready none))).heap[w.heap.size + 1]? = some (.loop (R .ready none)) := by
    have := World.alloc_heap_new (w.alloc (.deferred (some []))) (.loop (R .ready none)); rwa [World.size_alloc] at this
  have hD : ((w.alloc (.deferred (some []))).alloc (.loop (R .ready none))).heap[w.heap.size]? = some (.deferred (some [])) :=
    (Below.heap_alloc _ _ _ (by simp)).trans (World.alloc_heap_new w _)
  refine ⟨w.heap.size + 1, [{ target := .collected w.heap.size, args := #[] }], (w.alloc (.deferred (some []))).alloc (.loop (R .ready none)), { target := .fn (.func gf) lb, args := #[.func (.yield (w.heap.size + 1)) #[] #[]] }, (w.alloc (.deferred (some []))).alloc (.loop (R .ready none)), gf,
    #[.func (.yield (w.heap.size + 1)) #[] #[]] ++ lb, (w.alloc (.deferred (some []))).alloc (.loop (R .ready none)), by rw [hR]; exact run_enterLoop_outer _ _ _ _ _, ?_, fun _ _ => trivial, ?_, fun _ => h1, ?_⟩
  · simp only [resolve, hg]
    simp [go_sem]
  · simp [invoke, go_sem, eg]
  refine (hseq (w.heap.size + 1) (fun pre W => I pre W ∧ W.heap[w.heap.size + 1]? = some (.loop (R .ready none)) ∧ W.heap[w.heap.size]? = some (.deferred (some [])))
    (fun pre W => Ix pre W ∧ W.heap[w.heap.size + 1]? = some (.loop (R .done (some .ret))) ∧ W.heap[w.heap.size]? = some (.deferred (some []))) _
    (((Below.refl _ w).alloc (Nat.le_refl _) _).alloc (by simp) _)
    (fun s A B hs hg' => ⟨hI s A B none hs.1 hg' (fun r e => by cases e), (hg'.block _ (Array.getElem?_eq_some_iff.1 hs.2.1).1 (by simp)).trans hs.2.1, (hg'.block _ (Array.getElem?_eq_some_iff.1 hs.2.2).1 (by simp)).trans hs.2.2⟩)
    (fun pre x V hV => hHy pre x V hV.1) ?round ⟨hI.alloc _ (hI.alloc _ h0), hL, hD⟩).mono ?behind
  case behind =>
    rintro e W2 ⟨⟨v, rfl⟩, ⟨xs, hS, hi, hl, hd⟩ | ⟨pre, hSp, hi, hl, hd⟩⟩
    · have := run_endLoop (P := P) hl (by rw [hR]; simp)
      exact ⟨_, _, this, by rw [hR]; exact hdone xs _ hS (hI.putObj _ hi (by omega) hl rfl) ((World.putObj_heap_other (by omega)).trans hd)⟩
    · have := run_endLoop (P := P) hl (by rw [hR]; simp)
      exact ⟨_, _, this, by rw [hR]; exact hstop pre _ hSp (hIx.putObj _ hi (by omega) hl rfl) ((World.putObj_heap_other (by omega)).trans hd)⟩
  case round =>
    rintro pre x W ⟨hi, hl, hd⟩
    have hy := run_yield (P := P) (args := encs x) hl (by rw [hR]; exact hps x)
    rw [hR] at hy
    refine ⟨fn, _, assign, body, hy, roundIn_of_wpIn hfn (hassign _ pre x W _ hi ?_)⟩
    intro a' V hkf hkp hiV hax
    have hlV := hkf.same _ _ (by omega) hl rfl
    have hdV := hkf.same _ _ (Nat.le_refl _) hd rfl
    have hlt := (Array.getElem?_eq_some_iff.1 hlV).1
    refine ⟨_, run_beginRound hlV (by rw [hR]), ?_⟩
    have hl2 : (V.putObj (w.heap.size + 1) (.loop { R .ready none with state := .busy })).heap[w.heap.size + 1]? = some (.loop { R .ready none with state := .busy }) := World.putObj_heap_same hlt
    have hd2 : (V.putObj (w.heap.size + 1) (.loop { R .ready none with state := .busy })).heap[w.heap.size]? = some (.deferred (some [])) := (World.putObj_heap_other (by omega)).trans hdV
    refine wpIn_mono (hbody _ pre x a' _ (hI.putObj _ hiV (by omega) hlV rfl) ((hAx x a').putObj (s := ()) _ hax (by omega) hlV rfl)) ?_
    rintro e a3 W3 hp
    cases e with
    | normal =>
      obtain ⟨hk3, hkp3, hi3⟩ := hp
      have hl3 := hk3.same _ _ (by omega) hl2 rfl
      have hlt3 := (Array.getElem?_eq_some_iff.1 hl3).1
      refine ⟨_, _, run_endRound (P := P) none hl3, .inl ⟨rfl, ⟨hI.putObj _ hi3 (by omega) hl3 rfl, ?_, (World.putObj_heap_other (by omega)).trans (hk3.same _ _ (Nat.le_refl _) hd2 rfl)⟩, hKt hkp (hKt (hKt (hKb _ _ _ _ (by omega) hlV rfl rfl) hkp3) (hKb _ _ _ _ (by omega) hl3 rfl rfl))⟩⟩
      rw [World.putObj_heap_same hlt3]; simp only [hR]; rfl
    | ret =>
      obtain ⟨hk3, hi3⟩ := hp
      have hl3 := hk3.same _ _ (by omega) hl2 rfl
      have hlt3 := (Array.getElem?_eq_some_iff.1 hl3).1
      refine ⟨_, _, run_endRound (P := P) (some .ret) hl3, .inr ⟨rfl, hIx.putObj _ hi3 (by omega) hl3 rfl, ?_, (World.putObj_heap_other (by omega)).trans (hk3.same _ _ (Nat.le_refl _) hd2 rfl)⟩⟩
      rw [World.putObj_heap_same hlt3]; simp only [hR]; rfl
    | exit id => exact hp.elim
    | goto t => exact hp.elim
    | panic ch => exact hp.elim
    | outgrown => exact hp.elim
end Go.Proofs.YtcpfelaffclalaaGreatDoor
