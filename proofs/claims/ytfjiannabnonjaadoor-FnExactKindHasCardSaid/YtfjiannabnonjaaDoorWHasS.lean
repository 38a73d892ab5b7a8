/- The walk of the specification's l2Has: of a tree and a schema, both ok in all parts, it answers whether the tree is of the schema. Of what was there nothing has turned. No conditions. -/
import Derived.Test.YtfjiannabnonjaaDoorHas
import Derived.Test.YtfjiannabnonjaaDoorWStr
namespace Go.Proofs.YtfjiannabnonjaaDoor
open Go Go.RowKit

def HasSaid (n : Nat) : Prop := ∀ (t : Tr), tsz t < n → ∀ (k : Kd) (P Q : Nat → Prop) (c : C3) (d : C5) (w : World), (∀ b, P b → b < w.heap.size) → (∀ b, Q b → b < w.heap.size) → KRep P w k c → Rep Q w t d → okD k = true → okT t = true →
    Calls Tryd.prog 53 #[.agg #[c.c0, c.c1, c.c2], .agg #[d.c0, d.c1, d.c2, d.c3, d.c4]] w fun e w' => e = .returned (.bool (hT t k)) ∧ Below w.heap.size w w'

set_option maxRecDepth 100000 in
set_option maxHeartbeats 3200000 in
theorem l2Has_step (n : Nat) (IH : HasSaid n) : HasSaid (n + 1) := by
  intro t hn k P Q c d w hP hQ hrep hrep2 hok hot
  rw [okD_eq, Bool.and_eq_true] at hok
  rw [okT_eq, Bool.and_eq_true] at hot
  obtain ⟨c0, c1, c2⟩ := c
  obtain ⟨d0, d1, d2, d3, d4⟩ := d
  obtain ⟨e0, -, ⟨a3, cap3, e1, hl3, hnc⟩, a, cap, e2, hl, hks⟩ := hrep.open
  obtain ⟨g0, g1, g2, -, -, -, ⟨a5, cap5, g3, hl5, hnc2⟩, a6, cap6, g4, hl6, hks2⟩ := hrep2.open
  simp only at e0 e1 e2 g0 g1 g2 g3 g4
  subst e0 e1 e2 g0 g1 g2 g3 g4
  have hbl0 : ∀ o1 o2, Below w.heap.size w ((w.alloc o1).alloc o2) := fun o1 o2 => ((Below.refl _ _).alloc (Nat.le_refl _) o1).alloc (by simp) o2
  by_cases hs : k.sort = t.sort
  · by_cases hnl : k.names.length = t.names.length
    · have HP := hide hP; have HQ := hide hQ; have HI := hide IH; have HK := hide hks; have HK2 := hide hks2; have HNC := hide hnc; have HNC2 := hide hnc2; have HOK := hide hok; have HOT := hide hot
      clear hP hQ IH hks hks2 hnc hnc2 hok hot hrep hrep2
      have hrk := row3_alloc w (.int .i64 t.sort) (.slice a3 t.names.length cap3) (.slice a k.kids.length cap) 26
      have hrt := row5_alloc (w.alloc (.cells #[.int .i64 t.sort, .slice a3 t.names.length cap3, .slice a k.kids.length cap] 26)) (.int .i64 t.sort) (.int .i64 t.num) (.string t.text) (.slice a5 t.names.length cap5) (.slice a6 t.kids.length cap6) 30
      rw [World.size_alloc] at hrt
      have hbw := hbl0 (.cells #[.int .i64 t.sort, .slice a3 t.names.length cap3, .slice a k.kids.length cap] 26) (.cells #[.int .i64 t.sort, .int .i64 t.num, .string t.text, .slice a5 t.names.length cap5, .slice a6 t.kids.length cap6] 30)
      have hrk := hrk.alloc (.cells #[.int .i64 t.sort, .int .i64 t.num, .string t.text, .slice a5 t.names.length cap5, .slice a6 t.kids.length cap6] 30)
      simp only [hs, hnl]
      have HS := hide hs; have HNL := hide hnl
      clear hs hnl hbl0
      have h2 : ((w.alloc (.cells #[.int .i64 t.sort, .slice a3 t.names.length cap3, .slice a k.kids.length cap] 26)).alloc (.cells #[.int .i64 t.sort, .int .i64 t.num, .string t.text, .slice a5 t.names.length cap5, .slice a6 t.kids.length cap6] 30)).heap.size = w.heap.size + 2 := by simp
      go_enter Tryd.func53, Tryd.ntmps53
      go_wp2_with fail
      generalize ((w.alloc (.cells #[.int .i64 t.sort, .slice a3 t.names.length cap3, .slice a k.kids.length cap] 26)).alloc (.cells #[.int .i64 t.sort, .int .i64 t.num, .string t.text, .slice a5 t.names.length cap5, .slice a6 t.kids.length cap6] 30)) = W0 at *
      have HRK := hide hrk; have HRT := hide hrt; have HBW := hide hbw
      clear hrk hrt hbw
      go_loopw [5] (fun i wr => ∃ (j : Nat), j ≤ t.names.length ∧ i = .int .i64 j ∧ Hid (∀ x, x < j → (h1 : x < k.names.length) → (h2 : x < t.names.length) → k.names[x] = t.names[x]) ∧ Hid (Below W0.heap.size W0 wr)) (fun i _ => t.names.length - (intOf i).toNat)
      case atStart => exact ⟨0, Nat.zero_le _, rfl, fun x hx => by omega, Below.refl _ _⟩
      case round =>
        obtain ⟨j, hj, rfl, HE, HB⟩ := hrel
        have q0 := (unhide HRK).of_block (HB.out.block w.heap.size (by omega))
        have q1 := (unhide HRT).of_block (HB.out.block (w.heap.size + 1) (by omega))
        have k1 := q0.cell (i := 1) (by omega); have t3 := q1.cell (i := 3) (by omega); have t4 := q1.cell (i := 4) (by omega)
        simp only [row3, row5] at k1 t3 t4
        have hbw := (unhide HBW).trans (HB.out.mono (by omega))
        by_cases hlt : j < t.names.length
        · have hlk : j < k.names.length := by have := unhide HNL; omega
          obtain ⟨nb, no, rfl, hpn, hcn, -⟩ := unhide HNC j hlk
          obtain ⟨mb, mo, rfl, hpm, hcm, -⟩ := unhide HNC2 j hlt
          have en : wr.cell? ⟨nb, no + j, none⟩ = some (.string k.names[j]) := by rw [hbw.cell (unhide HP nb hpn)]; exact hcn
          have em : wr.cell? ⟨mb, mo + j, none⟩ = some (.string t.names[j]) := by rw [hbw.cell (unhide HQ mb hpm)]; exact hcm
          have HBW2 := hide hbw
          by_cases hne : k.names[j] = t.names[j]
          · rw [hne] at en
            have HE2 : Hid (∀ x, x < j + 1 → (h1 : x < k.names.length) → (h2 : x < t.names.length) → k.names[x] = t.names[x]) := fun x hx h1 h2 => by
              by_cases e : x = j
              · subst e; exact hne
              · exact unhide HE x (by omega) h1 h2
            generalize t.names[j] = nm at *
            clear hcn hcm hpn hpm hbw hne q0 q1 HBW2
            go_wp2_with fail
            go_region
            all_goals
              go_wp2_with fail
              go_roundw
              case rel => exact ⟨j + 1, by omega, by go_num, unhide HE2, HB.out.drew⟩
              case measure => simp [intOf]; omega
          · have hf : hT t k = false := by
              rw [hT_eq]
              have : k.names ≠ t.names := names_ne hlk hlt hne
              simp [this]
            have HF := hide hf
            have hnb : (k.names[j].toList == t.names[j].toList) = false := by rw [lst_beq]; exact decide_eq_false hne
            generalize t.names[j] = nm at *
            generalize k.names[j] = nm2 at *
            clear hcn hcm hpn hpm hbw q0 q1 hf
            go_wp2_with fail
            go_region
            all_goals
              go_wp2_with fail
              go_ret
              exact ⟨by rw [unhide HF]; rfl, (unhide HBW2).drew⟩
        · obtain rfl : j = t.names.length := by omega
          have hne : k.names = t.names := names_eq (unhide HNL) (fun x h1 h2 => unhide HE x h2 h1 h2)
          have hh : hT t k = hK t.kids k 0 := by rw [hT_eq]; simp [hne, unhide HS]
          have HH := hide hh; have HNE := hide hne; have HBW2 := hide hbw
          clear q0 q1 hbw hh hne
          go_wp2_with fail
          go_loopw [6] (fun i wx => ∃ (j : Nat), j ≤ t.kids.length ∧ i = .int .i64 j ∧ Hid (hT t k = hK (t.kids.drop j) k j) ∧ Hid (Below W0.heap.size W0 wx)) (fun i _ => t.kids.length - (intOf i).toNat)
          case atStart => exact ⟨0, Nat.zero_le _, rfl, unhide HH, HB.out⟩
          case round =>
            clear t3 t4 k1 HE HB HBW2
            obtain ⟨j, hj, rfl, HH2, HB⟩ := hrel
            have q0 := (unhide HRK).of_block (HB.out.block w.heap.size (by omega))
            have q1 := (unhide HRT).of_block (HB.out.block (w.heap.size + 1) (by omega))
            have k0 := q0.cell (i := 0) (by omega); have k2 := q0.cell (i := 2) (by omega); have t4 := q1.cell (i := 4) (by omega)
            have k0a := fun ob => (q0.alloc ob).cell (i := 0) (by omega); have k2a := fun ob => (q0.alloc ob).cell (i := 2) (by omega); have t4a := fun ob => (q1.alloc ob).cell (i := 4) (by omega)
            simp only [row3, row5] at k0 k2 t4 k0a k2a t4a
            have hbw := (unhide HBW).trans (HB.out.mono (by omega))
            by_cases hlt : j < t.kids.length
            · obtain ⟨hk0, hk5⟩ := kid_at (unhide HOK).1 (unhide HOT).1 (unhide HS) (unhide HNE) hlt
              obtain ⟨zb, zo, zc, rfl, hpz, hcz, hrz⟩ := unhide HK 0 hk0
              obtain ⟨mb, mo, mc, rfl, hpm, hcm, hrm⟩ := unhide HK2 j hlt
              have hcz' := hcz.carry (hbw.block zb (unhide HP zb hpz))
              have hba : ∀ ob, Below w.heap.size w (wr.alloc ob) := fun ob => hbw.alloc hbw.size ob
              have hcm' := fun ob => hcm.carry ((hba ob).block mb (unhide HQ mb hpm))
              obtain ⟨z0, z1, z2⟩ := zc
              obtain ⟨m0, m1, m2, m3, m4⟩ := mc
              obtain ⟨f0, -, ⟨a9, cap9, f1, -⟩, b9, cbp9, f2, -⟩ := hrz.open
              obtain ⟨r0, r1, r2, -, -, -, ⟨aa, capa, r3, -⟩, ab, capb, r4, -⟩ := hrm.open
              simp only at f0 f1 f2 r0 r1 r2 r3 r4
              subst f0 f1 f2 r0 r1 r2 r3 r4
              obtain ⟨y0, y1, y2⟩ := hcz'
              have x0 := fun ob => (hcm' ob).1; have x1 := fun ob => (hcm' ob).2.1; have x2 := fun ob => (hcm' ob).2.2.1; have x3 := fun ob => (hcm' ob).2.2.2.1; have x4 := fun ob => (hcm' ob).2.2.2.2
              simp only [Nat.zero_mul, Nat.add_zero] at y0 y1 y2 x0 x1 x2 x3 x4
              clear hcm'
              have HBW2 := hide hbw
              have hsm : tsz t.kids[j] < n := by have := tsz_kid (List.getElem_mem hlt); omega
              by_cases h5 : t.sort = 5
              · have hkj := hk5 ((unhide HS).trans h5)
                have hd5 : (t.sort == 5) = true := by rw [h5]; rfl
                obtain ⟨vb, vo, vc, ev, hpv, hcv, hrv⟩ := unhide HK j hkj
                simp only [Option.some.injEq, Addr.mk.injEq, and_true] at ev
                obtain ⟨rfl, rfl⟩ := ev
                have hcv' := fun ob => hcv.carry ((hba ob).block zb (unhide HP zb hpz))
                obtain ⟨v0, v1, v2⟩ := vc
                obtain ⟨f0, -, ⟨ac, capc, f1, -⟩, ad, capd, f2, -⟩ := hrv.open
                simp only at f0 f1 f2
                subst f0 f1 f2
                have u0 := fun ob => (hcv' ob).1; have u1 := fun ob => (hcv' ob).2.1; have u2 := fun ob => (hcv' ob).2.2
                simp only at u0 u1 u2
                clear hcv'
                have hcall : ∀ ob, Calls Tryd.prog 53 #[.agg #[.int .i64 k.kids[j].sort, .slice ac k.kids[j].names.length capc, .slice ad k.kids[j].kids.length capd], .agg #[.int .i64 t.kids[j].sort, .int .i64 t.kids[j].num, .string t.kids[j].text, .slice aa t.kids[j].names.length capa, .slice ab t.kids[j].kids.length capb]] (wr.alloc ob).drew fun e w6 => e = .returned (.bool (hT t.kids[j] (kidOf k j))) ∧ Below wr.heap.size wr w6 := fun ob => by
                  rw [kidOf_form ((unhide HS).trans h5) hkj]
                  exact (unhide HI t.kids[j] hsm _ P Q ⟨_, _, _⟩ ⟨_, _, _, _, _⟩ (wr.alloc ob).drew (fun b hb => Nat.lt_of_lt_of_le (unhide HP b hb) (hba ob).drew.size) (fun b hb => Nat.lt_of_lt_of_le (unhide HQ b hb) (hba ob).drew.size) (KRep.carry (w' := (wr.alloc ob).drew) (fun b hb => (hba ob).drew.block b (unhide HP b hb)) (fun _ h => h) _ _ hrv) (Rep.carry (w' := (wr.alloc ob).drew) (fun b hb => (hba ob).drew.block b (unhide HQ b hb)) (fun _ h => h) _ _ hrm) (okDs_get (unhide HOK).2 j hkj) (okTs_get (unhide HOT).2 j hlt)).mono
                    fun e w' ⟨h1, h2⟩ => ⟨h1, (((Below.refl wr.heap.size wr).alloc (Nat.le_refl _) ob).drew).trans (h2.mono (((Below.refl wr.heap.size wr).alloc (Nat.le_refl _) ob).drew).size)⟩
                have hst := hK_step hlt k
                cases hv : hT t.kids[j] (kidOf k j)
                · rw [hv] at hcall hst
                  have HF := hide ((unhide HH2).trans hst)
                  have HCALL := hide hcall
                  clear hcz hcm hbw q0 q1 hcv hrv hrm hrz hba hcall hst hv hpz hpm hpv hsm h5
                  go_wp2_with fail
                  go_region_with (go_at_call 53; refine (unhide HCALL _).mono ?_; rintro e w6 ⟨rfl, hb6⟩)
                  all_goals
                    go_wp2_with fail
                    go_ret
                    exact ⟨by rw [unhide HF]; rfl, (unhide HBW2).trans (hb6.mono (unhide HBW2).size)⟩
                · rw [hv] at hcall hst
                  have HF : Hid (hT t k = hK (t.kids.drop (j + 1)) k (j + 1)) := by
                    show _ = _
                    rw [unhide HH2, hst, Bool.true_and]
                  have HCALL := hide hcall
                  clear hcz hcm hbw q0 q1 hcv hrv hrm hrz hba hcall hst hv hpz hpm hpv hsm h5
                  go_wp2_with fail
                  go_region_with (go_at_call 53; refine (unhide HCALL _).mono ?_; rintro e w6 ⟨rfl, hb6⟩)
                  all_goals
                    have hb7 : Below W0.heap.size W0 w6 := HB.out.trans (hb6.mono HB.out.size)
                    go_wp2_with fail
                    go_roundw
                    case rel => exact ⟨j + 1, by omega, by go_num, unhide HF, hb7⟩
                    case measure => simp [intOf]; omega
              · have hcall : ∀ ob, Calls Tryd.prog 53 #[.agg #[.int .i64 k.kids[0].sort, .slice a9 k.kids[0].names.length cap9, .slice b9 k.kids[0].kids.length cbp9], .agg #[.int .i64 t.kids[j].sort, .int .i64 t.kids[j].num, .string t.kids[j].text, .slice aa t.kids[j].names.length capa, .slice ab t.kids[j].kids.length capb]] (wr.alloc ob).drew fun e w6 => e = .returned (.bool (hT t.kids[j] (kidOf k j))) ∧ Below wr.heap.size wr w6 := fun ob => by
                  rw [kidOf_else (fun h => h5 ((unhide HS).symm.trans h)) j hk0]
                  exact (unhide HI t.kids[j] hsm _ P Q ⟨_, _, _⟩ ⟨_, _, _, _, _⟩ (wr.alloc ob).drew (fun b hb => Nat.lt_of_lt_of_le (unhide HP b hb) (hba ob).drew.size) (fun b hb => Nat.lt_of_lt_of_le (unhide HQ b hb) (hba ob).drew.size) (KRep.carry (w' := (wr.alloc ob).drew) (fun b hb => (hba ob).drew.block b (unhide HP b hb)) (fun _ h => h) _ _ hrz) (Rep.carry (w' := (wr.alloc ob).drew) (fun b hb => (hba ob).drew.block b (unhide HQ b hb)) (fun _ h => h) _ _ hrm) (okDs_get (unhide HOK).2 0 hk0) (okTs_get (unhide HOT).2 j hlt)).mono
                    fun e w' ⟨h1, h2⟩ => ⟨h1, (((Below.refl wr.heap.size wr).alloc (Nat.le_refl _) ob).drew).trans (h2.mono (((Below.refl wr.heap.size wr).alloc (Nat.le_refl _) ob).drew).size)⟩
                have hst := hK_step hlt k
                cases hv : hT t.kids[j] (kidOf k j)
                · rw [hv] at hcall hst
                  have HF := hide ((unhide HH2).trans hst)
                  have HCALL := hide hcall
                  clear hcz hcm hbw q0 q1 hrm hrz hba hcall hst hv hpz hpm hsm
                  go_wp2_with fail
                  go_region_with (go_at_call 53; refine (unhide HCALL _).mono ?_; rintro e w6 ⟨rfl, hb6⟩)
                  all_goals
                    go_wp2_with fail
                    go_ret
                    exact ⟨by rw [unhide HF]; rfl, (unhide HBW2).trans (hb6.mono (unhide HBW2).size)⟩
                · rw [hv] at hcall hst
                  have HF : Hid (hT t k = hK (t.kids.drop (j + 1)) k (j + 1)) := by
                    show _ = _
                    rw [unhide HH2, hst, Bool.true_and]
                  have HCALL := hide hcall
                  clear hcz hcm hbw q0 q1 hrm hrz hba hcall hst hv hpz hpm hsm
                  go_wp2_with fail
                  go_region_with (go_at_call 53; refine (unhide HCALL _).mono ?_; rintro e w6 ⟨rfl, hb6⟩)
                  all_goals
                    have hb7 : Below W0.heap.size W0 w6 := HB.out.trans (hb6.mono HB.out.size)
                    go_wp2_with fail
                    go_roundw
                    case rel => exact ⟨j + 1, by omega, by go_num, unhide HF, hb7⟩
                    case measure => simp [intOf]; omega
            · obtain rfl : j = t.kids.length := by omega
              have hf : hT t k = true := by rw [unhide HH2, hK_done]
              have HF := hide hf
              clear q0 q1 hf
              go_wp2_with fail
              go_ret
              exact ⟨by rw [unhide HF]; rfl, hbw⟩
    · have hf : hT t k = false := by
        rw [hT_eq]
        have : k.names ≠ t.names := fun e => hnl (by rw [e])
        simp [this]
      rw [hf]
      have HB0 := hide hbl0
      clear hP hQ IH hks hks2 hnc hnc2 hok hot hrep hrep2 hbl0 hf
      go_enter Tryd.func53, Tryd.ntmps53
      go_wp2_with fail
      go_ret
      exact ⟨rfl, unhide HB0 _ _⟩
  · have hf : hT t k = false := by rw [hT_eq]; simp [hs]
    rw [hf]
    have HB0 := hide hbl0
    clear hP hQ IH hks hks2 hnc hnc2 hok hot hrep hrep2 hbl0 hf
    go_enter Tryd.func53, Tryd.ntmps53
    go_wp2_with fail
    go_ret
    exact ⟨rfl, unhide HB0 _ _⟩

theorem l2Has_all : ∀ n, HasSaid n
  | 0 => fun t h => by omega
  | n + 1 => l2Has_step n (l2Has_all n)
end Go.Proofs.YtfjiannabnonjaaDoor
