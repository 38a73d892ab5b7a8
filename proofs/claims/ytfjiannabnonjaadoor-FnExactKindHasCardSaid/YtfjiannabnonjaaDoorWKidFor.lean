/- The walk of namedKind's kidFor: the schema of a tree's kid, where the tree is of the schema in all but its kids. -/
import Derived.Test.YtfjiannabnonjaaDoorWClaim
namespace Go.Proofs.YtfjiannabnonjaaDoor
open Go Go.RowKit Go.Maps Go.WideMaps

set_option maxRecDepth 100000 in
set_option maxHeartbeats 800000 in
theorem kidFor_form (k : Kd) (t : Tr) (i : Nat) (P Q : Nat → Prop) (c : C4) (d : C5) (w : World) (hP : ∀ b, P b → b < w.heap.size) (hQ : ∀ b, Q b → b < w.heap.size) (hrep : NRep P w k c) (hrep2 : Rep Q w t d)
    (h5 : k.sort = 5) (hne : k.names = t.names) (hnd : k.names.Nodup) (hi : i < k.kids.length) (hil : i < t.names.length) :
    Calls Tryd.prog 130 #[.agg #[c.c0, c.c1, c.c2, c.c3], .agg #[d.c0, d.c1, d.c2, d.c3, d.c4], .int .i64 i] w fun e w' => ∃ x : C4, e = .returned (.agg #[x.c0, x.c1, x.c2, x.c3]) ∧ NRep P w' k.kids[i] x ∧ Below w.heap.size w w' := by
  obtain ⟨c0, c1, c2, c3⟩ := c
  obtain ⟨d0, d1, d2, d3, d4⟩ := d
  obtain ⟨e0, -, ⟨a3, cap3, e1, -, -⟩, ⟨B, e2, hPB, hm⟩, a, cap, e3, hlk, hks⟩ := hrep.open
  obtain ⟨g0, g1, g2, -, -, -, ⟨a5, cap5, g3, -, hnc⟩, a6, cap6, g4, -, -⟩ := hrep2.open
  simp only at e0 e1 e2 e3 g0 g1 g2 g3 g4
  subst e0 e1 e2 e3 g0 g1 g2 g3 g4
  obtain ⟨nb, no, rfl, hpn, hcn, hnsz⟩ := hnc i hil
  obtain ⟨kb, ko, kc, rfl, hpk, hck, hrk⟩ := hks i hi
  obtain ⟨W0, hW0⟩ : ∃ W0, (((w.alloc (.cells #[.int .i64 k.sort, .slice a3 k.names.length cap3, .map (some B), .slice (some ⟨kb, ko, none⟩) k.kids.length cap] 67)).alloc (.cells #[.int .i64 t.sort, .int .i64 t.num, .string t.text, .slice (some ⟨nb, no, none⟩) t.names.length cap5, .slice a6 t.kids.length cap6] 30)).alloc (.cells #[.int .i64 0, .slice none 0 0, .map none, .slice none 0 0] 67)) = W0 := ⟨_, rfl⟩
  have hb0 : Below w.heap.size w W0 := by rw [← hW0]; exact (((Below.refl _ _).alloc (Nat.le_refl _) _).alloc (by simp) _).alloc (by simp; omega) _
  have hs0 : W0.heap.size = w.heap.size + 3 := by rw [← hW0]; simp
  have hr0 : W0.rowIs w.heap.size 67 4 (row4 (.int .i64 k.sort) (.slice a3 k.names.length cap3) (.map (some B)) (.slice (some ⟨kb, ko, none⟩) k.kids.length cap)) := by rw [← hW0]; exact ((row4_alloc w _ _ _ _ _).alloc _).alloc _
  have hr1 : W0.rowIs (w.heap.size + 1) 30 5 (row5 (.int .i64 t.sort) (.int .i64 t.num) (.string t.text) (.slice (some ⟨nb, no, none⟩) t.names.length cap5) (.slice a6 t.kids.length cap6)) := by
    rw [← hW0]
    have q := row5_alloc (w.alloc (.cells #[.int .i64 k.sort, .slice a3 k.names.length cap3, .map (some B), .slice (some ⟨kb, ko, none⟩) k.kids.length cap] 67)) (.int .i64 t.sort) (.int .i64 t.num) (.string t.text) (.slice (some ⟨nb, no, none⟩) t.names.length cap5) (.slice a6 t.kids.length cap6) 30
    rw [World.size_alloc] at q
    exact q.alloc _
  have hr2 : W0.rowIs (w.heap.size + 1 + 1) 67 4 (row4 (.int .i64 0) (.slice none 0 0) (.map none) (.slice none 0 0)) := by
    rw [← hW0]
    have q := row4_alloc ((w.alloc (.cells #[.int .i64 k.sort, .slice a3 k.names.length cap3, .map (some B), .slice (some ⟨kb, ko, none⟩) k.kids.length cap] 67)).alloc (.cells #[.int .i64 t.sort, .int .i64 t.num, .string t.text, .slice (some ⟨nb, no, none⟩) t.names.length cap5, .slice a6 t.kids.length cap6] 30)) (.int .i64 0) (.slice none 0 0) (.map none) (.slice none 0 0) 67
    rw [World.size_alloc, World.size_alloc] at q
    exact q
  have hm0 : NMap W0.drew B k.names := hm.carry (hb0.drew.block B (hP B hPB))
  have hkey : keyOf Tryd.prog 9 (.string t.names[i]) = some (nkey t.names[i]) := keyOf_string_mk Tryd.underlying9 (by unfold maxLen; omega)
  obtain ⟨cv, hrun, hat, -⟩ := hm0.lookup_int keyLaw Tryd.underlying62 Tryd.underlying3 (zeroInt _) hkey
  have hcv : cv = (i : Int) := by
    have h1 := at_nmap k.names hnd i (by rw [hne]; exact hil) k.names.length (Nat.le_refl _) (by rw [hne]; exact hil)
    have h2 : k.names[i]'(by rw [hne]; exact hil) = t.names[i] := by simp only [hne]
    rw [h2] at h1
    rw [h1] at hat
    simpa using hat.symm
  subst hcv
  have k0 := hr0.cell (i := 0) (by omega); have k2 := hr0.cell (i := 2) (by omega); have k3 := hr0.cell (i := 3) (by omega)
  have t3 := hr1.cell (i := 3) (by omega)
  have z := hr2.frozen
  have y0 := hr2.cell (i := 0) (by omega); have y1 := hr2.cell (i := 1) (by omega); have y2 := hr2.cell (i := 2) (by omega); have y3 := hr2.cell (i := 3) (by omega)
  simp only [row4, row5] at k0 k2 k3 t3 y0 y1 y2 y3
  have en : W0.cell? ⟨nb, no + i, none⟩ = some (.string t.names[i]) := by rw [hb0.cell (hQ nb hpn)]; exact hcn
  have hck' := hck.carry (hb0.block kb (hP kb hpk))
  obtain ⟨x0, x1, x2, x3⟩ := kc
  obtain ⟨f0, -, ⟨a7, cap7, f1, -⟩, ⟨B2, f2, -⟩, a8, cap8, f3, -⟩ := hrk.open
  simp only at f0 f1 f2 f3
  subst f0 f1 f2 f3
  obtain ⟨u0, u1, u2, u3⟩ := hck'
  simp only at u0 u1 u2 u3
  have HRK := hide hrk; have HB0 := hide hb0; have HP := hide hP
  clear hck hcn hpn hrk hb0 hP hQ hrep hrep2 hr0 hr1 hr2 hks hnc hat hm hm0 hkey hpk hPB
  have hd5 : (k.sort == 5) = true := by rw [h5]; rfl
  generalize k.kids[i] = kk at *
  generalize t.names[i] = nm at *
  clear h5 hnd hne
  go_enter Tryd.func130, Tryd.ntmps130
  go_wp2_with fail
  go_region
  all_goals
    go_wp2_with fail
    refine bodyPost_ret (v := .agg #[.int .i64 kk.sort, .slice a7 kk.names.length cap7, .map (some B2), .slice a8 kk.kids.length cap8]) (by simp [results, Tryd.results130, go_sem, y0, y1, y2, y3]) rfl ⟨⟨_, _, _, _⟩, rfl, ?_, ?_⟩
    · exact NRep.carry (fun b hb => (heap_set4n _ _ _ _ _ _ _ (by have := unhide HP b hb; omega)).trans ((unhide HB0).drew.block b (unhide HP b hb))) (fun _ h => h) kk _ (unhide HRK)
    · exact below_set4 (unhide HB0).drew _ _ _ _ _ (by omega)

set_option maxRecDepth 100000 in
set_option maxHeartbeats 800000 in
theorem kidFor_else (k : Kd) (t : Tr) (i : Nat) (P Q : Nat → Prop) (c : C4) (d : C5) (w : World) (hP : ∀ b, P b → b < w.heap.size) (hrep : NRep P w k c) (hrep2 : Rep Q w t d)
    (h5 : k.sort ≠ 5) (hi : 0 < k.kids.length) :
    Calls Tryd.prog 130 #[.agg #[c.c0, c.c1, c.c2, c.c3], .agg #[d.c0, d.c1, d.c2, d.c3, d.c4], .int .i64 i] w fun e w' => ∃ x : C4, e = .returned (.agg #[x.c0, x.c1, x.c2, x.c3]) ∧ NRep P w' k.kids[0] x ∧ Below w.heap.size w w' := by
  obtain ⟨c0, c1, c2, c3⟩ := c
  obtain ⟨d0, d1, d2, d3, d4⟩ := d
  obtain ⟨e0, -, ⟨a3, cap3, e1, -, -⟩, ⟨B, e2, hPB, hm⟩, a, cap, e3, hlk, hks⟩ := hrep.open
  obtain ⟨g0, g1, g2, -, -, -, ⟨a5, cap5, g3, -, hnc⟩, a6, cap6, g4, -, -⟩ := hrep2.open
  simp only at e0 e1 e2 e3 g0 g1 g2 g3 g4
  subst e0 e1 e2 e3 g0 g1 g2 g3 g4
  obtain ⟨kb, ko, kc, rfl, hpk, hck, hrk⟩ := hks 0 hi
  obtain ⟨W0, hW0⟩ : ∃ W0, (((w.alloc (.cells #[.int .i64 k.sort, .slice a3 k.names.length cap3, .map (some B), .slice (some ⟨kb, ko, none⟩) k.kids.length cap] 67)).alloc (.cells #[.int .i64 t.sort, .int .i64 t.num, .string t.text, .slice a5 t.names.length cap5, .slice a6 t.kids.length cap6] 30)).alloc (.cells #[.int .i64 0, .slice none 0 0, .map none, .slice none 0 0] 67)) = W0 := ⟨_, rfl⟩
  have hb0 : Below w.heap.size w W0 := by rw [← hW0]; exact (((Below.refl _ _).alloc (Nat.le_refl _) _).alloc (by simp) _).alloc (by simp; omega) _
  have hs0 : W0.heap.size = w.heap.size + 3 := by rw [← hW0]; simp
  have hr0 : W0.rowIs w.heap.size 67 4 (row4 (.int .i64 k.sort) (.slice a3 k.names.length cap3) (.map (some B)) (.slice (some ⟨kb, ko, none⟩) k.kids.length cap)) := by rw [← hW0]; exact ((row4_alloc w _ _ _ _ _).alloc _).alloc _
  have hr1 : W0.rowIs (w.heap.size + 1) 30 5 (row5 (.int .i64 t.sort) (.int .i64 t.num) (.string t.text) (.slice a5 t.names.length cap5) (.slice a6 t.kids.length cap6)) := by
    rw [← hW0]
    have q := row5_alloc (w.alloc (.cells #[.int .i64 k.sort, .slice a3 k.names.length cap3, .map (some B), .slice (some ⟨kb, ko, none⟩) k.kids.length cap] 67)) (.int .i64 t.sort) (.int .i64 t.num) (.string t.text) (.slice a5 t.names.length cap5) (.slice a6 t.kids.length cap6) 30
    rw [World.size_alloc] at q
    exact q.alloc _
  have hr2 : W0.rowIs (w.heap.size + 1 + 1) 67 4 (row4 (.int .i64 0) (.slice none 0 0) (.map none) (.slice none 0 0)) := by
    rw [← hW0]
    have q := row4_alloc ((w.alloc (.cells #[.int .i64 k.sort, .slice a3 k.names.length cap3, .map (some B), .slice (some ⟨kb, ko, none⟩) k.kids.length cap] 67)).alloc (.cells #[.int .i64 t.sort, .int .i64 t.num, .string t.text, .slice a5 t.names.length cap5, .slice a6 t.kids.length cap6] 30)) (.int .i64 0) (.slice none 0 0) (.map none) (.slice none 0 0) 67
    rw [World.size_alloc, World.size_alloc] at q
    exact q
  have k0 := hr0.cell (i := 0) (by omega); have k2 := hr0.cell (i := 2) (by omega); have k3 := hr0.cell (i := 3) (by omega)
  have t3 := hr1.cell (i := 3) (by omega)
  have z := hr2.frozen
  have y0 := hr2.cell (i := 0) (by omega); have y1 := hr2.cell (i := 1) (by omega); have y2 := hr2.cell (i := 2) (by omega); have y3 := hr2.cell (i := 3) (by omega)
  simp only [row4, row5] at k0 k2 k3 t3 y0 y1 y2 y3
  have hck' := hck.carry (hb0.block kb (hP kb hpk))
  obtain ⟨x0, x1, x2, x3⟩ := kc
  obtain ⟨f0, -, ⟨a7, cap7, f1, -⟩, ⟨B2, f2, -⟩, a8, cap8, f3, -⟩ := hrk.open
  simp only at f0 f1 f2 f3
  subst f0 f1 f2 f3
  obtain ⟨u0, u1, u2, u3⟩ := hck'
  simp only [Nat.zero_mul, Nat.add_zero] at u0 u1 u2 u3
  have HRK := hide hrk; have HB0 := hide hb0; have HP := hide hP
  clear hck hrk hb0 hP hrep hrep2 hr0 hr1 hr2 hks hnc hm hpk hPB
  have hd5 : (k.sort == 5) = false := by simpa using h5
  generalize k.kids[0] = kk at *
  clear h5
  go_enter Tryd.func130, Tryd.ntmps130
  go_wp2_with fail
  all_goals
    refine bodyPost_ret (v := .agg #[.int .i64 kk.sort, .slice a7 kk.names.length cap7, .map (some B2), .slice a8 kk.kids.length cap8]) (by simp [results, Tryd.results130, go_sem, y0, y1, y2, y3]) rfl ⟨⟨_, _, _, _⟩, rfl, ?_, ?_⟩
    · exact NRep.carry (fun b hb => (heap_set4n _ _ _ _ _ _ _ (by have := unhide HP b hb; omega)).trans ((unhide HB0).block b (unhide HP b hb))) (fun _ h => h) kk _ (unhide HRK)
    · exact below_set4 (unhide HB0) _ _ _ _ _ (by omega)
end Go.Proofs.YtfjiannabnonjaaDoor
