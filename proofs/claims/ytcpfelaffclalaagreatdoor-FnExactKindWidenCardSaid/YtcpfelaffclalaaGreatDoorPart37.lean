/- The walk of the specification's l2Has: of a tree and a schema, both ok in all parts, it answers whether the tree is of the schema. Of what was there nothing has turned. No conditions. -/
import Derived.Test.YtcpfelaffclalaaGreatDoorPart03
import Derived.Test.YtcpfelaffclalaaGreatDoorPart01
import Derived.Test.YtcpfelaffclalaaGreatDoorPart06
namespace Go.Proofs.YtcpfelaffclalaaGreatDoor
open Go Go.RowKit

def HasSaid (n : Nat) : Prop := ∀ (t : Tr), tsz t < n → ∀ (k : Kd) (P Q : Nat → Prop) (c : C3) (d : C5) (w : World), (∀ b, P b → b < w.heap.size) → (∀ b, Q b → b < w.heap.size) → KRep P w k c → Rep Q w t d → okD k = true → okH t = true →
    Calls Tryz.prog 60 #[.agg #[c.c0, c.c1, c.c2], .agg #[d.c0, d.c1, d.c2, d.c3, d.c4]] w fun e w' => e = .returned (.bool (hT t k)) ∧ Below w.heap.size w w'

set_option maxRecDepth 100000 in
set_option maxHeartbeats 3200000 in
theorem l2Has_step (n : Nat) (IH : HasSaid n) : HasSaid (n + 1) := by
  intro t hn k P Q c d w hP hQ hrep hrep2 hok hot
  rw [okD_eq, Bool.and_eq_true] at hok
  rw [okH_eq, Bool.and_eq_true] at hot
  obtain ⟨c0, c1, c2⟩ := c
  obtain ⟨d0, d1, d2, d3, d4⟩ := d
  obtain ⟨e0, -, ⟨a3, cap3, e1, hl3, hnc⟩, a, cap, e2, hl, hks⟩ := hrep.open
  obtain ⟨g0, g1, g2, -, -, -, ⟨a5, cap5, g3, hl5, hnc2⟩, a6, cap6, g4, hl6, hks2⟩ := hrep2.open
  simp only at e0 e1 e2 g0 g1 g2 g3 g4
  subst e0 e1 e2 g0 g1 g2 g3 g4
  have hbl0 : ∀ o1 o2, Below w.heap.size w ((w.alloc o1).alloc o2) := fun o1 o2 => ((Below.refl _ _).alloc (Nat.le_refl _) o1).alloc (by simp) o2
  by_cases hs : k.sort = t.sort
  · by_cases hnl : k.names.length = t.names.length
    · have HP := hide hP; have HQ := hide hQ; have HI := hide IH; have HK := hide hks; have HK2 := hide hks2; have HNC := hide hnc; have HNC2 := hide hnc2; have HOK := hide hok; have HOT := hide hot
      clear hP hQ IH hks hks2 hnc hnc2 hok hot hrep hrep2
      have hrk := row3_alloc w (.int .i64 t.sort) (.slice a3 t.names.length cap3) (.slice a k.kids.length cap) 30
      have hrt := row5_alloc (w.alloc (.cells #[.int .i64 t.sort, .slice a3 t.names.length cap3, .slice a k.kids.length cap] 30)) (.int .i64 t.sort) (.int .i64 t.num) (.string t.text) (.slice a5 t.names.length cap5) (.slice a6 t.kids.length cap6) 39
      rw [World.size_alloc] at hrt
      have hbw := hbl0 (.cells #[.int .i64 t.sort, .slice a3 t.names.length cap3, .slice a k.kids.length cap] 30) (.cells #[.int .i64 t.sort, .int .i64 t.num, .string t.text, .slice a5 t.names.length cap5, .slice a6 t.kids.length cap6] 39)
      have hrk := hrk.alloc (.cells #[.int .i64 t.sort, .int .i64 t.num, .string t.text, .slice a5 t.names.length cap5, .slice a6 t.kids.length cap6] 39)
      simp only [hs, hnl]
      have HS := hide hs; have HNL := hide hnl
      clear hs hnl hbl0
      have h2 : ((w.alloc (.cells #[.int .i64 t.sort, .slice a3 t.names.length cap3, .slice a k.kids.length cap] 30)).alloc (.cells #[.int .i64 t.sort, .int .i64 t.num, .string t.text, .slice a5 t.names.length cap5, .slice a6 t.kids.length cap6] 39)).heap.size = w.heap.size + 2 := by simp
      go_enter Tryz.func60, Tryz.ntmps60
      go_wp2_with fail
      generalize ((w.alloc (.cells #[.int .i64 t.sort, .slice a3 t.names.length cap3, .slice a k.kids.length cap] 30)).alloc (.cells #[.int .i64 t.sort, .int .i64 t.num, .string t.text, .slice a5 t.names.length cap5, .slice a6 t.kids.length cap6] 39)) = W0 at *
      have HRK := hide hrk; have HRT := hide hrt; have HBW := hide hbw
      clear hrk hrt hbw
      go_loopw [5] (fun i wr => ∃ (j : Nat), j ≤ t.names.length ∧ i = .int .i64 j ∧ Hid (∀ x, x < j → (h1 : x < k.names.length) → (h2 : x < t.names.length) → k.names[x] = t.names[x]) ∧ Hid (Below W0.heap.size W0 wr)) (fun i _ => t.names.length - (intOf i).toNat)
      case atStart => exact ⟨0, Nat.zero_le _, rfl, fun x hx => by omega, Below.refl _ _⟩
      case round =>
        obtain ⟨j, hj, rfl, HE, HB⟩ := hrel
        have q0 := (unhide HRK).of_block (HB.out.block w.heap.size (by omega))
        have q1 := (unhide HRT).of_block (HB.out.block (w.heap.size + 1) (by omega))
        have k1 := q0.cell (i := 1) (by omega); have t3 := q1.cell (i := 3) (by omega); have t4 := q1.cell (i := 4) (by omega)
        simp only [row3, row5] at k1 t3 t4
        have hbw := (unhide HBW).trans (HB.out.mono (by omega))
        by_cases hlt : j < t.names.length
        · have hlk : j < k.names.length := by have := unhide HNL; omega
          obtain ⟨nb, no, rfl, hpn, hcn, -⟩ := unhide HNC j hlk
          obtain ⟨mb, mo, rfl, hpm, hcm, -⟩ := unhide HNC2 j hlt
          have en : wr.cell? ⟨nb, no + j, none⟩ = some (.string k.names[j]) := by rw [hbw.cell (unhide HP nb hpn)]; exact hcn
          have em : wr.cell? ⟨mb, mo + j, none⟩ = some (.string t.names[j]) := by rw [hbw.cell (unhide HQ mb hpm)]; exact hcm
          have HBW2 := hide hbw
          by_cases hne : k.names[j] = t.names[j]
          · rw [hne] at en
            have HE2 : Hid (∀ x, x < j + 1 → (h1 : x < k.names.length) → (h2 : x < t.names.length) → k.names[x] = t.names[x]) := fun x hx h1 h2 => by
              by_cases e : x = j
              · subst e; exact hne
              · exact unhide HE x (by omega) h1 h2
            generalize t.names[j] = nm at *
            clear hcn hcm hpn hpm hbw hne q0 q1 HBW2
            go_wp2_with fail
            go_region
            all_goals
              go_wp2_with fail
              go_roundw
              case rel => exact ⟨j + 1, by omega, by go_num, unhide HE2, HB.out.drew⟩
              case measure => simp [intOf]; omega
          · have hf : hT t k = false := by
              rw [hT_eq]
              have : k.names ≠ t.names := names_ne hlk hlt hne
              simp [this]
            have HF := hide hf
            have hnb : (k.names[j].toList == t.names[j].toList) = false := by rw [lst_beq]; exact decide_eq_false hne
            generalize t.names[j] = nm at *
            generalize k.names[j] = nm2 at *
            clear hcn hcm hpn hpm hbw q0 q1 hf
            go_wp2_with fail
            go_region
            all_goals
              go_wp2_with fail
              go_ret
              exact ⟨by rw [unhide HF]; rfl, (unhide HBW2).drew⟩
        · obtain rfl : j = t.names.length := by omega
          have hne : k.names = t.names := names_eq (unhide HNL) (fun x h1 h2 => unhide HE x h2 h1 h2)
          have hh : hT t k = hK t.kids k 0 := by rw [hT_eq]; simp [hne, unhide HS]
          have HH := hide hh; have HNE := hide hne; have HBW2 := hide hbw
          clear q0 q1 hbw hh hne
          go_wp2_with fail
          go_loopw [6] (fun i wx => ∃ (j : Nat), j ≤ t.kids.length ∧ i = .int .i64 j ∧ Hid (hT t k = hK (t.kids.drop j) k j) ∧ Hid (Below W0.heap.size W0 wx)) (fun i _ => t.kids.length - (intOf i).toNat)
          case atStart => exact ⟨0, Nat.zero_le _, rfl, unhide HH, HB.out⟩
          case round =>
            clear t3 t4 k1 HE HB HBW2
            obtain ⟨j, hj, rfl, HH2, HB⟩ := hrel
            have q0 := (unhide HRK).of_block (HB.out.block w.heap.size (by omega))
            have q1 := (unhide HRT).of_block (HB.out.block (w.heap.size + 1) (by omega))
            have k0 := q0.cell (i := 0) (by omega); have k2 := q0.cell (i := 2) (by omega); have t4 := q1.cell (i := 4) (by omega)
            have k0a := fun ob => (q0.alloc ob).cell (i := 0) (by omega); have k2a := fun ob => (q0.alloc ob).cell (i := 2) (by omega); have t4a := fun ob => (q1.alloc ob).cell (i := 4) (by omega)
            simp only [row3, row5] at k0 k2 t4 k0a k2a t4a
            have hbw := (unhide HBW).trans (HB.out.mono (by omega))
            by_cases hlt : j < t.kids.length
            · obtain ⟨hk0, hk5⟩ := kid_at (unhide HOK).1 (unhide HOT).1 (unhide HS) (unhide HNE) hlt
              obtain ⟨zb, zo, zc, rfl, hpz, hcz, hrz⟩ := unhide HK 0 hk0
              obtain ⟨mb, mo, mc, rfl, hpm, hcm, hrm⟩ := unhide HK2 j hlt
              have hcz' := hcz.carry (hbw.block zb (unhide HP zb hpz))
              have hba : ∀ ob, Below w.heap.size w (wr.alloc ob) := fun ob => hbw.alloc hbw.size ob
              have hcm' := fun ob => hcm.carry ((hba ob).block mb (unhide HQ mb hpm))
              obtain ⟨z0, z1, z2⟩ := zc
              obtain ⟨m0, m1, m2, m3, m4⟩ := mc
              obtain ⟨f0, -, ⟨a9, cap9, f1, -⟩, b9, cbp9, f2, -⟩ := hrz.open
              obtain ⟨r0, r1, r2, -, -, -, ⟨aa, capa, r3, -⟩, ab, capb, r4, -⟩ := hrm.open
              simp only at f0 f1 f2 r0 r1 r2 r3 r4
              subst f0 f1 f2 r0 r1 r2 r3 r4
              obtain ⟨y0, y1, y2⟩ := hcz'
              have x0 := fun ob => (hcm' ob).1; have x1 := fun ob => (hcm' ob).2.1; have x2 := fun ob => (hcm' ob).2.2.1; have x3 := fun ob => (hcm' ob).2.2.2.1; have x4 := fun ob => (hcm' ob).2.2.2.2
              simp only [Nat.zero_mul, Nat.add_zero] at y0 y1 y2 x0 x1 x2 x3 x4
              clear hcm'
              have HBW2 := hide hbw
              have hsm : tsz t.kids[j] < n := by have := tsz_kid (List.getElem_mem hlt); omega
              by_cases h5 : t.sort = 5
              · have hkj := hk5 ((unhide HS).trans h5)
                have hd5 : (t.sort == 5) = true := by rw [h5]; rfl
                obtain ⟨vb, vo, vc, ev, hpv, hcv, hrv⟩ := unhide HK j hkj
                simp only [Option.some.injEq, Addr.mk.injEq, and_true] at ev
                obtain ⟨rfl, rfl⟩ := ev
                have hcv' := fun ob => hcv.carry ((hba ob).block zb (unhide HP zb hpz))
                obtain ⟨v0, v1, v2⟩ := vc
                obtain ⟨f0, -, ⟨ac, capc, f1, -⟩, ad, capd, f2, -⟩ := hrv.open
                simp only at f0 f1 f2
                subst f0 f1 f2
                have u0 := fun ob => (hcv' ob).1; have u1 := fun ob => (hcv' ob).2.1; have u2 := fun ob => (hcv' ob).2.2
                simp only at u0 u1 u2
                clear hcv'
                have hcall : ∀ ob, Calls Tryz.prog 60 #[.agg #[.int .i64 k.kids[j].sort, .slice ac k.kids[j].names.length capc, .slice ad k.kids[j].kids.length capd], .agg #[.int .i64 t.kids[j].sort, .int .i64 t.kids[j].num, .string t.kids[j].text, .slice aa t.kids[j].names.length capa, .slice ab t.kids[j].kids.length capb]] (wr.alloc ob).drew fun e w6 => e = .returned (.bool (hT t.kids[j] (kidOf k j))) ∧ Below wr.heap.size wr w6 := fun ob => by
                  rw [kidOf_form ((unhide HS).trans h5) hkj]
                  exact (unhide HI t.kids[j] hsm _ P Q ⟨_, _, _⟩ ⟨_, _, _, _, _⟩ (wr.alloc ob).drew (fun b hb => Nat.lt_of_lt_of_le (unhide HP b hb) (hba ob).drew.size) (fun b hb => Nat.lt_of_lt_of_le (unhide HQ b hb) (hba ob).drew.size) (KRep.carry (w' := (wr.alloc ob).drew) (fun b hb => (hba ob).drew.block b (unhide HP b hb)) (fun _ h => h) _ _ hrv) (Rep.carry (w' := (wr.alloc ob).drew) (fun b hb => (hba ob).drew.block b (unhide HQ b hb)) (fun _ h => h) _ _ hrm) (okDs_get (unhide HOK).2 j hkj) (okHs_get (unhide HOT).2 j hlt)).mono
                    fun e w' ⟨h1, h2⟩ => ⟨h1, (((Below.refl wr.heap.size wr).alloc (Nat.le_refl _) ob).drew).trans (h2.mono (((Below.refl wr.heap.size wr).alloc (Nat.le_refl _) ob).drew).size)⟩
                have hst := hK_step hlt k
                cases hv : hT t.kids[j] (kidOf k j)
                · rw [hv] at hcall hst
                  have HF := hide ((unhide HH2).trans hst)
                  have HCALL := hide hcall
                  clear hcz hcm hbw q0 q1 hcv hrv hrm hrz hba hcall hst hv hpz hpm hpv hsm h5
                  go_wp2_with fail
                  go_region_with (go_at_call 60; refine (unhide HCALL _).mono ?_; rintro e w6 ⟨rfl, hb6⟩)
                  all_goals
                    go_wp2_with fail
                    go_ret
                    exact ⟨by rw [unhide HF]; rfl, (unhide HBW2).trans (hb6.mono (unhide HBW2).size)⟩
                · rw [hv] at hcall hst
                  have HF : Hid (hT t k = hK (t.kids.drop (j + 1)) k (j + 1)) := by
                    show _ = _
                    rw [unhide HH2, hst, Bool.true_and]
                  have HCALL := hide hcall
                  clear hcz hcm hbw q0 q1 hcv hrv hrm hrz hba hcall hst hv hpz hpm hpv hsm h5
                  go_wp2_with fail
                  go_region_with (go_at_call 60; refine (unhide HCALL _).mono ?_; rintro e w6 ⟨rfl, hb6⟩)
                  all_goals
                    have hb7 : Below W0.heap.size W0 w6 := HB.out.trans (hb6.mono HB.out.size)
                    go_wp2_with fail
                    go_roundw
                    case rel => exact ⟨j + 1, by omega, by go_num, unhide HF, hb7⟩
                    case measure => simp [intOf]; omega
              · have hcall : ∀ ob, Calls Tryz.prog 60 #[.agg #[.int .i64 k.kids[0].sort, .slice a9 k.kids[0].names.length cap9, .slice b9 k.kids[0].kids.length cbp9], .agg #[.int .i64 t.kids[j].sort, .int .i64 t.kids[j].num, .string t.kids[j].text, .slice aa t.kids[j].names.length capa, .slice ab t.kids[j].kids.length capb]] (wr.alloc ob).drew fun e w6 => e = .returned (.bool (hT t.kids[j] (kidOf k j))) ∧ Below wr.heap.size wr w6 := fun ob => by
                  rw [kidOf_else (fun h => h5 ((unhide HS).symm.trans h)) j hk0]
                  exact (unhide HI t.kids[j] hsm _ P Q ⟨_, _, _⟩ ⟨_, _, _, _, _⟩ (wr.alloc ob).drew (fun b hb => Nat.lt_of_lt_of_le (unhide HP b hb) (hba ob).drew.size) (fun b hb => Nat.lt_of_lt_of_le (unhide HQ b hb) (hba ob).drew.size) (KRep.carry (w' := (wr.alloc ob).drew) (fun b hb => (hba ob).drew.block b (unhide HP b hb)) (fun _ h => h) _ _ hrz) (Rep.carry (w' := (wr.alloc ob).drew) (fun b hb => (hba ob).drew.block b (unhide HQ b hb)) (fun _ h => h) _ _ hrm) (okDs_get (unhide HOK).2 0 hk0) (okHs_get (unhide HOT).2 j hlt)).mono
                    fun e w' ⟨h1, h2⟩ => ⟨h1, (((Below.refl wr.heap.size wr).alloc (Nat.le_refl _) ob).drew).trans (h2.mono (((Below.refl wr.heap.size wr).alloc (Nat.le_refl _) ob).drew).size)⟩
                have hst := hK_step hlt k
                cases hv : hT t.kids[j] (kidOf k j)
                · rw [hv] at hcall hst
                  have HF := hide ((unhide HH2).trans hst)
                  have HCALL := hide hcall
                  clear hcz hcm hbw q0 q1 hrm hrz hba hcall hst hv hpz hpm hsm
                  go_wp2_with fail
                  go_region_with (go_at_call 60; refine (unhide HCALL _).mono ?_; rintro e w6 ⟨rfl, hb6⟩)
                  all_goals
                    go_wp2_with fail
                    go_ret
                    exact ⟨by rw [unhide HF]; rfl, (unhide HBW2).trans (hb6.mono (unhide HBW2).size)⟩
                · rw [hv] at hcall hst
                  have HF : Hid (hT t k = hK (t.kids.drop (j + 1)) k (j + 1)) := by
                    show _ = _
                    rw [unhide HH2, hst, Bool.true_and]
                  have HCALL := hide hcall
                  clear hcz hcm hbw q0 q1 hrm hrz hba hcall hst hv hpz hpm hsm
                  go_wp2_with fail
                  go_region_with (go_at_call 60; refine (unhide HCALL _).mono ?_; rintro e w6 ⟨rfl, hb6⟩)
                  all_goals
                    have hb7 : Below W0.heap.size W0 w6 := HB.out.trans (hb6.mono HB.out.size)
                    go_wp2_with fail
                    go_roundw
                    case rel => exact ⟨j + 1, by omega, by go_num, unhide HF, hb7⟩
                    case measure => simp [intOf]; omega
            · obtain rfl : j = t.kids.length := by omega
              have hf : hT t k = true := by rw [unhide HH2, hK_done]
              have HF := hide hf
              clear q0 q1 hf
              go_wp2_with fail
              go_ret
              exact ⟨by rw [unhide HF]; rfl, hbw⟩
    · have hf : hT t k = false := by
        rw [hT_eq]
        have : k.names ≠ t.names := fun e => hnl (by rw [e])
        simp [this]
      rw [hf]
      have HB0 := hide hbl0
      clear hP hQ IH hks hks2 hnc hnc2 hok hot hrep hrep2 hbl0 hf
      go_enter Tryz.func60, Tryz.ntmps60
      go_wp2_with fail
      go_ret
      exact ⟨rfl, unhide HB0 _ _⟩
  · have hf : hT t k = false := by rw [hT_eq]; simp [hs]
    rw [hf]
    have HB0 := hide hbl0
    clear hP hQ IH hks hks2 hnc hnc2 hok hot hrep hrep2 hbl0 hf
    go_enter Tryz.func60, Tryz.ntmps60
    go_wp2_with fail
    go_ret
    exact ⟨rfl, unhide HB0 _ _⟩

theorem l2Has_all : ∀ n, HasSaid n
  | 0 => fun t h => by omega
  | n + 1 => l2Has_step n (l2Has_all n)
end Go.Proofs.YtcpfelaffclalaaGreatDoor

/- The walk of the specification's l1TextOk: what it answers. No conditions. -/

namespace Go.Proofs.YtcpfelaffclalaaGreatDoor
open Go Go.RowKit

set_option maxHeartbeats 400000 in
theorem l1TextOk_any (s : ByteArray) (w : World) (hs : s.size ≤ 9223372036854775807) :
    Calls Tryz.prog 120 #[.string s] w fun e w' => e = .returned (.bool (textOkB s)) ∧ w' = w := by
  by_cases h60 : 60 < s.size
  · go_enter Tryz.func120, Tryz.ntmps120
    go_wp2_with fail
    go_ret
    exact ⟨by simp [textOkB]; omega, rfl⟩
  · go_enter Tryz.func120, Tryz.ntmps120
    go_wp2_with fail
    go_loop [3] (fun i => ∃ k : Nat, k ≤ s.size ∧ i = .int .i64 k ∧ Hid (allTo textByte s k)) (fun i => s.size - (intOf i).toNat)
    case atStart => exact ⟨0, Nat.zero_le _, rfl, fun j hj => by omega⟩
    case round =>
      obtain ⟨k, hk, rfl, HA⟩ := hrel
      by_cases hlt : k < s.size
      · have hc : s[k].toNat < 32 ∨ 126 < s[k].toNat ∨ s[k].toNat = 34 ∨ (32 ≤ s[k].toNat ∧ s[k].toNat ≤ 126 ∧ s[k].toNat ≠ 34) := by omega
        rcases hc with hc | hc | hc | hc
        · go_wp2_with fail
          go_ret
          exact ⟨ret_bool (textOk_not hlt (textByte_no (Or.inl hc))).symm, rfl⟩
        · go_wp2_with fail
          go_ret
          exact ⟨ret_bool (textOk_not hlt (textByte_no (Or.inr (Or.inl hc)))).symm, rfl⟩
        · have HC := hide (textOk_not hlt (textByte_no (Or.inr (Or.inr hc))))
          go_wp2_with fail
          go_ret
          exact ⟨ret_bool (unhide HC).symm, rfl⟩
        · have HN := hide (allTo_succ HA.out hlt (textByte_yes hc))
          obtain ⟨hc1, hc2, hc3⟩ := hc
          have hb34 : ((s[k].toNat : Int) == 34) = false := by simp; omega
          go_wp2_with fail
          go_round
          case rel => exact ⟨k + 1, by omega, by go_num, HN⟩
          case measure => simp [intOf]; omega
      · go_wp2_with fail
        go_ret
        obtain rfl : k = s.size := by omega
        exact ⟨ret_bool (textOk_yes (by omega) HA.out).symm, rfl⟩
end Go.Proofs.YtcpfelaffclalaaGreatDoor

/- The walk of the specification's l1Alone: it answers whether a tree is ok but for its kids. No conditions. -/

namespace Go.Proofs.YtcpfelaffclalaaGreatDoor
open Go Go.RowKit

set_option maxHeartbeats 800000 in
theorem l1Alone_1 (t : Tr) (P : Nat → Prop) (c : C5) (w : World) (hP : ∀ b, P b → b < w.heap.size) (hrep : Rep P w t c) (hs : t.sort = 1) :
    Calls Tryz.prog 96 #[.agg #[c.c0, c.c1, c.c2, c.c3, c.c4]] w fun e w' => e = .returned (.bool (aloneB t)) ∧ Below w.heap.size w w' := by
  obtain ⟨c0, c1, c2, c3, c4⟩ := c
  obtain ⟨e0, e1, e2, -, -, htx, hns, a, cap, e4, hlen, -⟩ := hrep.open
  simp only at e0 e1 e2 e4 hns
  have HN := hide hns
  obtain ⟨a3, cap3, e3, hl3, -⟩ := hns
  subst e0 e1 e2 e3 e4
  clear hrep
  have HP := hide hP; clear hP
  have hbx : ∀ o, Below w.heap.size w (w.alloc o) := fun o => (Below.refl _ _).alloc (Nat.le_refl _) o
  have HBX := hide hbx; clear hbx
  go_enter Tryz.func96, Tryz.ntmps96
  go_wp2_with (first
    | (go_at_call 81; refine (l6In_any _ _ _ _).mono ?_; rintro e w' ⟨rfl, rfl⟩)
    | (go_at_call 120; refine (l1TextOk_any _ _ htx).mono ?_; rintro e w' ⟨rfl, rfl⟩))
  all_goals
    go_ret
    refine ⟨ret_bool ?_, unhide HBX _⟩
    try simp_all [aloneB]
  all_goals first | (rw [Bool.eq_iff_iff]; simp; done) | (intros; omega)
set_option maxHeartbeats 800000 in
theorem l1Alone_2 (t : Tr) (P : Nat → Prop) (c : C5) (w : World) (hP : ∀ b, P b → b < w.heap.size) (hrep : Rep P w t c) (hs : t.sort = 2) :
    Calls Tryz.prog 96 #[.agg #[c.c0, c.c1, c.c2, c.c3, c.c4]] w fun e w' => e = .returned (.bool (aloneB t)) ∧ Below w.heap.size w w' := by
  obtain ⟨c0, c1, c2, c3, c4⟩ := c
  obtain ⟨e0, e1, e2, -, -, htx, hns, a, cap, e4, hlen, -⟩ := hrep.open
  simp only at e0 e1 e2 e4 hns
  have HN := hide hns
  obtain ⟨a3, cap3, e3, hl3, -⟩ := hns
  subst e0 e1 e2 e3 e4
  clear hrep
  have HP := hide hP; clear hP
  have hbx : ∀ o, Below w.heap.size w (w.alloc o) := fun o => (Below.refl _ _).alloc (Nat.le_refl _) o
  have HBX := hide hbx; clear hbx
  go_enter Tryz.func96, Tryz.ntmps96
  go_wp2_with (first
    | (go_at_call 81; refine (l6In_any _ _ _ _).mono ?_; rintro e w' ⟨rfl, rfl⟩)
    | (go_at_call 120; refine (l1TextOk_any _ _ htx).mono ?_; rintro e w' ⟨rfl, rfl⟩))
  all_goals
    go_ret
    refine ⟨ret_bool ?_, unhide HBX _⟩
    try simp_all [aloneB]
  all_goals first | (rw [Bool.eq_iff_iff]; simp; done) | (intros; omega)
set_option maxHeartbeats 800000 in
theorem l1Alone_3 (t : Tr) (P : Nat → Prop) (c : C5) (w : World) (hP : ∀ b, P b → b < w.heap.size) (hrep : Rep P w t c) (hs : t.sort = 3) :
    Calls Tryz.prog 96 #[.agg #[c.c0, c.c1, c.c2, c.c3, c.c4]] w fun e w' => e = .returned (.bool (aloneB t)) ∧ Below w.heap.size w w' := by
  obtain ⟨c0, c1, c2, c3, c4⟩ := c
  obtain ⟨e0, e1, e2, -, -, htx, hns, a, cap, e4, hlen, -⟩ := hrep.open
  simp only at e0 e1 e2 e4 hns
  have HN := hide hns
  obtain ⟨a3, cap3, e3, hl3, -⟩ := hns
  subst e0 e1 e2 e3 e4
  clear hrep
  have HP := hide hP; clear hP
  have hbx : ∀ o, Below w.heap.size w (w.alloc o) := fun o => (Below.refl _ _).alloc (Nat.le_refl _) o
  have HBX := hide hbx; clear hbx
  go_enter Tryz.func96, Tryz.ntmps96
  go_wp2_with (first
    | (go_at_call 81; refine (l6In_any _ _ _ _).mono ?_; rintro e w' ⟨rfl, rfl⟩)
    | (go_at_call 120; refine (l1TextOk_any _ _ htx).mono ?_; rintro e w' ⟨rfl, rfl⟩))
  all_goals
    go_ret
    refine ⟨ret_bool ?_, unhide HBX _⟩
    try simp_all [aloneB]
  all_goals first | (rw [Bool.eq_iff_iff]; simp; done) | (intros; omega)
set_option maxHeartbeats 800000 in
theorem l1Alone_4 (t : Tr) (P : Nat → Prop) (c : C5) (w : World) (hP : ∀ b, P b → b < w.heap.size) (hrep : Rep P w t c) (hs : t.sort = 4) :
    Calls Tryz.prog 96 #[.agg #[c.c0, c.c1, c.c2, c.c3, c.c4]] w fun e w' => e = .returned (.bool (aloneB t)) ∧ Below w.heap.size w w' := by
  obtain ⟨c0, c1, c2, c3, c4⟩ := c
  obtain ⟨e0, e1, e2, -, -, htx, hns, a, cap, e4, hlen, -⟩ := hrep.open
  simp only at e0 e1 e2 e4 hns
  have HN := hide hns
  obtain ⟨a3, cap3, e3, hl3, -⟩ := hns
  subst e0 e1 e2 e3 e4
  clear hrep
  have HP := hide hP; clear hP
  have hbx : ∀ o, Below w.heap.size w (w.alloc o) := fun o => (Below.refl _ _).alloc (Nat.le_refl _) o
  have HBX := hide hbx; clear hbx
  go_enter Tryz.func96, Tryz.ntmps96
  go_wp2_with (first
    | (go_at_call 81; refine (l6In_any _ _ _ _).mono ?_; rintro e w' ⟨rfl, rfl⟩)
    | (go_at_call 120; refine (l1TextOk_any _ _ htx).mono ?_; rintro e w' ⟨rfl, rfl⟩))
  all_goals
    go_ret
    refine ⟨ret_bool ?_, unhide HBX _⟩
    try simp_all [aloneB]
  all_goals first | (rw [Bool.eq_iff_iff]; simp; done) | (intros; omega)
set_option maxHeartbeats 800000 in
theorem l1Alone_6 (t : Tr) (P : Nat → Prop) (c : C5) (w : World) (hP : ∀ b, P b → b < w.heap.size) (hrep : Rep P w t c) (hs : t.sort = 6) :
    Calls Tryz.prog 96 #[.agg #[c.c0, c.c1, c.c2, c.c3, c.c4]] w fun e w' => e = .returned (.bool (aloneB t)) ∧ Below w.heap.size w w' := by
  obtain ⟨c0, c1, c2, c3, c4⟩ := c
  obtain ⟨e0, e1, e2, -, -, htx, hns, a, cap, e4, hlen, -⟩ := hrep.open
  simp only at e0 e1 e2 e4 hns
  have HN := hide hns
  obtain ⟨a3, cap3, e3, hl3, -⟩ := hns
  subst e0 e1 e2 e3 e4
  clear hrep
  have HP := hide hP; clear hP
  have hbx : ∀ o, Below w.heap.size w (w.alloc o) := fun o => (Below.refl _ _).alloc (Nat.le_refl _) o
  have HBX := hide hbx; clear hbx
  go_enter Tryz.func96, Tryz.ntmps96
  go_wp2_with (first
    | (go_at_call 81; refine (l6In_any _ _ _ _).mono ?_; rintro e w' ⟨rfl, rfl⟩)
    | (go_at_call 120; refine (l1TextOk_any _ _ htx).mono ?_; rintro e w' ⟨rfl, rfl⟩))
  all_goals
    go_ret
    refine ⟨ret_bool ?_, unhide HBX _⟩
    try simp_all [aloneB]
  all_goals first | (rw [Bool.eq_iff_iff]; simp; done) | (intros; omega)
set_option maxHeartbeats 800000 in
theorem l1Alone_0 (t : Tr) (P : Nat → Prop) (c : C5) (w : World) (hP : ∀ b, P b → b < w.heap.size) (hrep : Rep P w t c) (h1 : t.sort ≠ 1) (h2 : t.sort ≠ 2) (h3 : t.sort ≠ 3) (h4 : t.sort ≠ 4) (h5 : t.sort ≠ 5) (h6 : t.sort ≠ 6) :
    Calls Tryz.prog 96 #[.agg #[c.c0, c.c1, c.c2, c.c3, c.c4]] w fun e w' => e = .returned (.bool (aloneB t)) ∧ Below w.heap.size w w' := by
  obtain ⟨c0, c1, c2, c3, c4⟩ := c
  obtain ⟨e0, e1, e2, -, -, htx, hns, a, cap, e4, hlen, -⟩ := hrep.open
  simp only at e0 e1 e2 e4 hns
  have HN := hide hns
  obtain ⟨a3, cap3, e3, hl3, -⟩ := hns
  subst e0 e1 e2 e3 e4
  clear hrep
  have HP := hide hP; clear hP
  have hbx : ∀ o, Below w.heap.size w (w.alloc o) := fun o => (Below.refl _ _).alloc (Nat.le_refl _) o
  have HBX := hide hbx; clear hbx
  go_enter Tryz.func96, Tryz.ntmps96
  go_wp2_with (first
    | (go_at_call 81; refine (l6In_any _ _ _ _).mono ?_; rintro e w' ⟨rfl, rfl⟩)
    | (go_at_call 120; refine (l1TextOk_any _ _ htx).mono ?_; rintro e w' ⟨rfl, rfl⟩))
  all_goals
    go_ret
    refine ⟨ret_bool ?_, unhide HBX _⟩
    try simp_all [aloneB]
  all_goals first | (rw [Bool.eq_iff_iff]; simp; done) | (intros; omega)
set_option maxHeartbeats 800000 in
theorem l1Alone_5 (t : Tr) (P : Nat → Prop) (c : C5) (w : World) (hP : ∀ b, P b → b < w.heap.size) (hrep : Rep P w t c) (hs : t.sort = 5) :
    Calls Tryz.prog 96 #[.agg #[c.c0, c.c1, c.c2, c.c3, c.c4]] w fun e w' => e = .returned (.bool (aloneB t)) ∧ Below w.heap.size w w' := by
  obtain ⟨c0, c1, c2, c3, c4⟩ := c
  obtain ⟨e0, e1, e2, -, -, htx, hns, a, cap, e4, hlen, -⟩ := hrep.open
  simp only at e0 e1 e2 e4 hns
  have HN := hide hns
  obtain ⟨a3, cap3, e3, hl3, -⟩ := hns
  subst e0 e1 e2 e3 e4
  clear hrep
  have HP := hide hP; clear hP
  have hbx : ∀ o, Below w.heap.size w (w.alloc o) := fun o => (Below.refl _ _).alloc (Nat.le_refl _) o
  have HBX := hide hbx; clear hbx
  have hcall : ∀ o, Calls Tryz.prog 82 #[.slice a3 t.names.length cap3] (w.alloc o) fun e w' => e = .returned (.bool (riseB t.names)) ∧ Below w.heap.size w w' := fun o =>
    (l1Rise_any _ t.names (w.alloc o) (P := P) (fun b hb => Nat.lt_of_lt_of_le (unhide HP b hb) (unhide HBX o).size) ((unhide HN).carry (fun b hb => (unhide HBX o).block b (unhide HP b hb)) (fun _ h => h))).mono
      fun e w' ⟨h1, h2⟩ => ⟨h1, (unhide HBX o).trans (h2.mono (unhide HBX o).size)⟩
  have HC := hide hcall; clear hcall
  go_enter Tryz.func96, Tryz.ntmps96
  go_wp2_with (go_at_call 82; refine (unhide HC _).mono ?_; rintro e w' ⟨rfl, hb'⟩)
  all_goals
    go_ret
    refine ⟨ret_bool ?_, by first | assumption | exact unhide HBX _⟩
    try simp_all [aloneB]
  all_goals first | (rw [Bool.eq_iff_iff]; simp; done) | (intros; omega)

theorem l1Alone_any (t : Tr) (P : Nat → Prop) (c : C5) (w : World) (hP : ∀ b, P b → b < w.heap.size) (hrep : Rep P w t c) :
    Calls Tryz.prog 96 #[.agg #[c.c0, c.c1, c.c2, c.c3, c.c4]] w fun e w' => e = .returned (.bool (aloneB t)) ∧ Below w.heap.size w w' := by
  by_cases h1 : t.sort = 1
  · exact l1Alone_1 t P c w hP hrep h1
  by_cases h2 : t.sort = 2
  · exact l1Alone_2 t P c w hP hrep h2
  by_cases h3 : t.sort = 3
  · exact l1Alone_3 t P c w hP hrep h3
  by_cases h4 : t.sort = 4
  · exact l1Alone_4 t P c w hP hrep h4
  by_cases h5 : t.sort = 5
  · exact l1Alone_5 t P c w hP hrep h5
  by_cases h6 : t.sort = 6
  · exact l1Alone_6 t P c w hP hrep h6
  exact l1Alone_0 t P c w hP hrep h1 h2 h3 h4 h5 h6
end Go.Proofs.YtcpfelaffclalaaGreatDoor

/- The walks of the specification's l1Parts, TreeOk and TreeParts: what they answer. No conditions. -/

namespace Go.Proofs.YtcpfelaffclalaaGreatDoor
open Go Go.RowKit

def PartsSaid (n : Nat) : Prop := ∀ (t : Tr), tsz t < n → ∀ (P : Nat → Prop) (c : C5) (d : Int) (w : World), (∀ b, P b → b < w.heap.size) → Rep P w t c → 1 ≤ d → d ≤ 7 →
    Calls Tryz.prog 61 #[.agg #[c.c0, c.c1, c.c2, c.c3, c.c4], .int .i64 d] w fun e w' => e = .returned (.int .i64 (pT t d)) ∧ Below w.heap.size w w'

set_option maxHeartbeats 400000 in
theorem l1Parts_step (n : Nat) (IH : PartsSaid n) : PartsSaid (n + 1) := by
  intro t hn P c d w hP hrep hd0 hd1
  have HREP := hide hrep
  have HEQ := hide (pT_eq t d)
  obtain ⟨c0, c1, c2, c3, c4⟩ := c
  obtain ⟨e0, e1, e2, -, -, -, ⟨a3, cap3, e3, -, -⟩, a, cap, e4, hlen, hks⟩ := hrep.open
  simp only at e0 e1 e2 e3 e4
  subst e0 e1 e2 e3 e4
  have HP := hide hP; have HI := hide IH; have HK := hide hks
  clear hrep hP IH hks
  have hbx : ∀ o, Below w.heap.size w (w.alloc o) := fun o => (Below.refl _ _).alloc (Nat.le_refl _) o
  have HBX := hide hbx; clear hbx
  by_cases h6 : 6 < d
  · go_enter Tryz.func61, Tryz.ntmps61
    go_wp2_with fail
    go_ret
    refine ⟨?_, unhide HBX _⟩
    rw [unhide HEQ, if_pos (Or.inl h6)]
    rfl
  · have hal : ∀ o, Calls Tryz.prog 96 #[.agg #[.int .i64 t.sort, .int .i64 t.num, .string t.text, .slice a3 t.names.length cap3, .slice a t.kids.length cap]] (w.alloc o) fun e w' => e = .returned (.bool (aloneB t)) ∧ Below (w.alloc o).heap.size (w.alloc o) w' := fun o =>
      l1Alone_any t P ⟨_, _, _, _, _⟩ (w.alloc o) (fun b hb => Nat.lt_of_lt_of_le (unhide HP b hb) (unhide HBX o).size) (Rep.carry (fun b hb => (unhide HBX o).block b (unhide HP b hb)) (fun _ h => h) _ _ (unhide HREP))
    have HAL := hide hal; clear hal
    by_cases ha : aloneB t = true
    · go_enter Tryz.func61, Tryz.ntmps61
      go_wp2_with (go_at_call 96; refine (unhide HAL _).mono ?_; rintro e w' ⟨rfl, hb'⟩)
      obtain ⟨q0, -, hb0⟩ := box1 hb'
      have hpk : pT t d = pK t.kids d 1 := by rw [unhide HEQ, if_neg (by simp [ha]; omega)]
      have HPK := hide hpk
      clear hb' hpk HEQ HAL
      generalize hks : t.kids = ks at *
      have HKS := hide hks; clear hks
      go_loopw [5, 6] (fun m i wr => ∃ (k : Nat) (q : Int), k ≤ ks.length ∧ i = .int .i64 k ∧ m = .int .i64 q ∧ 1 ≤ q ∧ q ≤ 120 ∧ Hid (pK (ks.drop k) d q = pK ks d 1) ∧ wr.cell? ⟨w.heap.size, 4, none⟩ = some (.slice a ks.length cap) ∧ w.heap.size < wr.heap.size ∧ Below w.heap.size w wr) (fun _ i _ => ks.length - (intOf i).toNat)
      case atStart => exact ⟨0, 1, Nat.zero_le _, rfl, rfl, by omega, by omega, rfl, q0.cell (i := 4) (by omega), q0.lt, hb0⟩
      case round =>
        obtain ⟨k, q, hk, rfl, rfl, hq0, hq1, HQ, hbox, hbs, hb⟩ := hrel
        by_cases hlt : k < ks.length
        · obtain ⟨b, o, c, rfl, hpb, hcell, hrep⟩ := unhide HK k hlt
          have hcell' := hcell.carry (hb.block b (unhide HP b hpb))
          obtain ⟨c0, c1, c2, c3, c4⟩ := c
          obtain ⟨e0, e1, e2, e3, e4⟩ := hcell'
          simp only at e0 e1 e2 e3 e4
          have hmem : ks[k] ∈ t.kids := by rw [unhide HKS]; exact List.getElem_mem hlt
          have hsm : tsz ks[k] < n := by have := tsz_kid hmem; omega
          have hcall := unhide HI ks[k] hsm P ⟨c0, c1, c2, c3, c4⟩ (d + 1) wr (fun b hb' => Nat.lt_of_lt_of_le (unhide HP b hb') hb.size) (Rep.carry (fun b hb' => hb.block b (unhide HP b hb')) (fun _ h => h) _ _ hrep) (by omega) (by omega)
          have hst := pK_step hlt d q
          have hbd := pT_bd ks[k] (d + 1)
          generalize pT ks[k] (d + 1) = r at hcall hst hbd
          have HCALL := hide hcall; have HST := hide hst
          clear hrep hcell hpb hmem hcall hst
          by_cases hbad : r < 0 ∨ 120 < q + r
          · have hfin : pT t d = -1 := by rw [unhide HPK, ← HQ.out, unhide HST, if_pos hbad]
            have HFIN := hide hfin; clear hfin
            rcases hbad with hbad | hbad
            · go_wp2_with (go_at_call 61; refine (unhide HCALL).mono ?_; rintro e w2 ⟨rfl, hb2⟩)
              go_ret
              exact ⟨by rw [unhide HFIN]; rfl, hb.trans (hb2.mono hb.size)⟩
            · have hr0 : 0 ≤ r := by omega
              go_wp2_with (go_at_call 61; refine (unhide HCALL).mono ?_; rintro e w2 ⟨rfl, hb2⟩)
              go_ret
              exact ⟨by rw [unhide HFIN]; rfl, hb.trans (hb2.mono hb.size)⟩
          · have hr0 : 0 ≤ r := by omega
            have hr1 : q + r ≤ 120 := by omega
            have hfin : pK (ks.drop (k + 1)) d (q + r) = pK ks d 1 := by rw [← HQ.out, unhide HST, if_neg hbad]
            have HFIN := hide hfin
            clear hfin hbad
            go_wp2_with (go_at_call 61; refine (unhide HCALL).mono ?_; rintro e w2 ⟨rfl, hb2⟩)
            go_roundw
            case rel => exact ⟨k + 1, _, by omega, by go_num, rfl, by omega, by omega, unhide HFIN, by rw [hb2.cell hbs]; exact hbox, Nat.lt_of_lt_of_le hbs hb2.size, hb.trans (hb2.mono hb.size)⟩
            case measure => simp [intOf]; omega
        · go_wp2_with fail
          go_ret
          refine ⟨?_, hb⟩
          rw [unhide HPK, ← HQ.out, List.drop_of_length_le (by omega), pK]
          rfl
    · have ha' : aloneB t = false := by simpa using ha
      clear ha
      go_enter Tryz.func61, Tryz.ntmps61
      go_wp2_with (go_at_call 96; refine (unhide HAL _).mono ?_; rintro e w' ⟨rfl, hb'⟩)
      go_ret
      refine ⟨?_, (box1 hb').2.2⟩
      rw [unhide HEQ, if_pos (Or.inr ha')]
      rfl

theorem l1Parts_all : ∀ n, PartsSaid n
  | 0 => fun t h => by omega
  | n + 1 => l1Parts_step n (l1Parts_all n)

set_option maxHeartbeats 400000 in
theorem specTreeOk_any (t : Tr) (P : Nat → Prop) (c : C5) (w : World) (hP : ∀ b, P b → b < w.heap.size) (hrep : Rep P w t c) :
    Calls Tryz.prog 35 #[.agg #[c.c0, c.c1, c.c2, c.c3, c.c4]] w fun e w' => e = .returned (.bool (decide (0 < pT t 1))) ∧ Below w.heap.size w w' := by
  have hbx : ∀ o, Below w.heap.size w (w.alloc o) := fun o => (Below.refl _ _).alloc (Nat.le_refl _) o
  have hcall : ∀ o, Calls Tryz.prog 61 #[.agg #[c.c0, c.c1, c.c2, c.c3, c.c4], .int .i64 1] (w.alloc o) fun e w' => e = .returned (.int .i64 (pT t 1)) ∧ Below w.heap.size w w' := fun o =>
    (l1Parts_all (tsz t + 1) t (by omega) P c 1 (w.alloc o) (fun b hb => Nat.lt_of_lt_of_le (hP b hb) (hbx o).size) (Rep.carry (fun b hb => (hbx o).block b (hP b hb)) (fun _ h => h) _ _ hrep) (by omega) (by omega)).mono
      fun e w' ⟨h1, h2⟩ => ⟨h1, (hbx o).trans (h2.mono (hbx o).size)⟩
  generalize pT t 1 = r at *
  have HCALL := hide hcall
  clear hbx hcall hP hrep
  go_enter Tryz.func35, Tryz.ntmps35
  go_wp2_with (go_at_call 61; refine (unhide HCALL _).mono ?_; rintro e w2 ⟨rfl, hb2⟩)
  go_ret
  exact ⟨rfl, hb2⟩
end Go.Proofs.YtcpfelaffclalaaGreatDoor
