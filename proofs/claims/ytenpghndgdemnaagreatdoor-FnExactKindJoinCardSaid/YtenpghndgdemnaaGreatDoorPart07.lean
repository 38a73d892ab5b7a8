/- The walks of the specification's l2Parts and KindOk: what they answer. No conditions. -/
import Derived.Test.YtenpghndgdemnaaGreatDoorPart04
import Derived.Test.YtenpghndgdemnaaGreatDoorPart02
import Derived.Test.YtenpghndgdemnaaGreatDoorPart03
import Derived.Deep.RegionHeld3
import Derived.Deep.RegionWith
namespace Go.Proofs.YtenpghndgdemnaaGreatDoor
open Go Go.RowKit

def KPartsSaid (n : Nat) : Prop := ∀ (t : Kd), ksz t < n → ∀ (P : Nat → Prop) (c : C3) (d : Int) (w : World), (∀ b, P b → b < w.heap.size) → KRep P w t c → 1 ≤ d → d ≤ 7 →
    Calls Tryz.prog 44 #[.agg #[c.c0, c.c1, c.c2], .int .i64 d] w fun e w' => e = .returned (.int .i64 (qT t d)) ∧ Below w.heap.size w w'

set_option maxHeartbeats 800000 in
/-- A schema that is not ok by itself. -/
theorem l2Parts_no (t : Kd) (P : Nat → Prop) (c : C3) (d : Int) (w : World) (hP : ∀ b, P b → b < w.heap.size) (hrep : KRep P w t c) (hno : 6 < d ∨ shB t = false) :
    Calls Tryz.prog 44 #[.agg #[c.c0, c.c1, c.c2], .int .i64 d] w fun e w' => e = .returned (.int .i64 (-1)) ∧ Below w.heap.size w w' := by
  obtain ⟨c0, c1, c2⟩ := c
  obtain ⟨e0, -, hns, a, cap, e2, hlen, -⟩ := hrep.open
  simp only at e0 e2 hns
  have HN := hide hns
  obtain ⟨a3, cap3, e1, hl3, -⟩ := hns
  subst e0 e1 e2
  clear hrep
  have HP := hide hP; clear hP
  have hbx : ∀ o, Below w.heap.size w (w.alloc o) := fun o => (Below.refl _ _).alloc (Nat.le_refl _) o
  have HBX := hide hbx; clear hbx
  have hcall : ∀ o, Calls Tryz.prog 69 #[.slice a3 t.names.length cap3] (w.alloc o) fun e w' => e = .returned (.bool (riseB t.names)) ∧ Below (w.alloc o).heap.size (w.alloc o) w' := fun o =>
    l1Rise_any _ t.names (w.alloc o) (P := P) (fun b hb => Nat.lt_of_lt_of_le (unhide HP b hb) (unhide HBX o).size) ((unhide HN).carry (fun b hb => (unhide HBX o).block b (unhide HP b hb)) (fun _ h => h))
  have HC := hide hcall; clear hcall
  by_cases hd6 : 6 < d
  · go_enter Tryz.func44, Tryz.ntmps44
    go_wp2_with fail
    go_ret
    exact ⟨rfl, unhide HBX _⟩
  have hsh : shB t = false := hno.resolve_left hd6
  clear hno
  by_cases h1 : t.sort = 1
  · have b1 : (t.sort == 5) = false := by simp [h1]
    have b2 : (t.sort != 5) = true := by simp [h1]
    have b3 : (t.sort == 4) = false := by simp [h1]
    have b4 : (t.sort == 6) = false := by simp [h1]
    have b5 : decide (t.sort < 4) = true := by simp [h1]
    have b6 : decide ((1 : Int) ≤ t.sort ∧ t.sort ≤ 6) = true := by simp [h1]
    have HSH := hide hsh; have HS := hide h1
    clear hsh h1
    go_enter Tryz.func44, Tryz.ntmps44
    go_wp2_with (first
      | (go_at_call 68; refine (l6In_any _ _ _ _).mono ?_; rintro e w' ⟨rfl, rfl⟩)
      | (go_at_call 69; refine (unhide HC _).mono ?_; rintro e w' ⟨rfl, hb'⟩))
    all_goals first
      | (go_ret; exact ⟨rfl, unhide HBX _⟩)
      | (go_ret; exact ⟨rfl, (kbox1 hb').2.2⟩)
      | (exfalso
         have h1 := unhide HSH
         have h2 := unhide HS
         simp [shB, h2] at h1
         simp_all
         done)
      | (exfalso
         have h1 := unhide HSH
         have h2 := unhide HS
         simp [shB, h2] at h1
         simp_all
         omega)
  by_cases h2 : t.sort = 2
  · have b1 : (t.sort == 5) = false := by simp [h2]
    have b2 : (t.sort != 5) = true := by simp [h2]
    have b3 : (t.sort == 4) = false := by simp [h2]
    have b4 : (t.sort == 6) = false := by simp [h2]
    have b5 : decide (t.sort < 4) = true := by simp [h2]
    have b6 : decide ((1 : Int) ≤ t.sort ∧ t.sort ≤ 6) = true := by simp [h2]
    have HSH := hide hsh; have HS := hide h2
    clear hsh h1 h2
    go_enter Tryz.func44, Tryz.ntmps44
    go_wp2_with (first
      | (go_at_call 68; refine (l6In_any _ _ _ _).mono ?_; rintro e w' ⟨rfl, rfl⟩)
      | (go_at_call 69; refine (unhide HC _).mono ?_; rintro e w' ⟨rfl, hb'⟩))
    all_goals first
      | (go_ret; exact ⟨rfl, unhide HBX _⟩)
      | (go_ret; exact ⟨rfl, (kbox1 hb').2.2⟩)
      | (exfalso
         have h1 := unhide HSH
         have h2 := unhide HS
         simp [shB, h2] at h1
         simp_all
         done)
      | (exfalso
         have h1 := unhide HSH
         have h2 := unhide HS
         simp [shB, h2] at h1
         simp_all
         omega)
  by_cases h3 : t.sort = 3
  · have b1 : (t.sort == 5) = false := by simp [h3]
    have b2 : (t.sort != 5) = true := by simp [h3]
    have b3 : (t.sort == 4) = false := by simp [h3]
    have b4 : (t.sort == 6) = false := by simp [h3]
    have b5 : decide (t.sort < 4) = true := by simp [h3]
    have b6 : decide ((1 : Int) ≤ t.sort ∧ t.sort ≤ 6) = true := by simp [h3]
    have HSH := hide hsh; have HS := hide h3
    clear hsh h1 h2 h3
    go_enter Tryz.func44, Tryz.ntmps44
    go_wp2_with (first
      | (go_at_call 68; refine (l6In_any _ _ _ _).mono ?_; rintro e w' ⟨rfl, rfl⟩)
      | (go_at_call 69; refine (unhide HC _).mono ?_; rintro e w' ⟨rfl, hb'⟩))
    all_goals first
      | (go_ret; exact ⟨rfl, unhide HBX _⟩)
      | (go_ret; exact ⟨rfl, (kbox1 hb').2.2⟩)
      | (exfalso
         have h1 := unhide HSH
         have h2 := unhide HS
         simp [shB, h2] at h1
         simp_all
         done)
      | (exfalso
         have h1 := unhide HSH
         have h2 := unhide HS
         simp [shB, h2] at h1
         simp_all
         omega)
  by_cases h4 : t.sort = 4
  · have b1 : (t.sort == 5) = false := by simp [h4]
    have b2 : (t.sort != 5) = true := by simp [h4]
    have b3 : (t.sort == 4) = true := by simp [h4]
    have b4 : (t.sort == 6) = false := by simp [h4]
    have b5 : decide (t.sort < 4) = false := by simp [h4]
    have b6 : decide ((1 : Int) ≤ t.sort ∧ t.sort ≤ 6) = true := by simp [h4]
    have HSH := hide hsh; have HS := hide h4
    clear hsh h1 h2 h3 h4
    go_enter Tryz.func44, Tryz.ntmps44
    go_wp2_with (first
      | (go_at_call 68; refine (l6In_any _ _ _ _).mono ?_; rintro e w' ⟨rfl, rfl⟩)
      | (go_at_call 69; refine (unhide HC _).mono ?_; rintro e w' ⟨rfl, hb'⟩))
    all_goals first
      | (go_ret; exact ⟨rfl, unhide HBX _⟩)
      | (go_ret; exact ⟨rfl, (kbox1 hb').2.2⟩)
      | (exfalso
         have h1 := unhide HSH
         have h2 := unhide HS
         simp [shB, h2] at h1
         simp_all
         done)
      | (exfalso
         have h1 := unhide HSH
         have h2 := unhide HS
         simp [shB, h2] at h1
         simp_all
         omega)
  by_cases h5 : t.sort = 5
  · have b1 : (t.sort == 5) = true := by simp [h5]
    have b2 : (t.sort != 5) = false := by simp [h5]
    have b3 : (t.sort == 4) = false := by simp [h5]
    have b4 : (t.sort == 6) = false := by simp [h5]
    have b5 : decide (t.sort < 4) = false := by simp [h5]
    have b6 : decide ((1 : Int) ≤ t.sort ∧ t.sort ≤ 6) = true := by simp [h5]
    have HSH := hide hsh; have HS := hide h5
    clear hsh h1 h2 h3 h4 h5
    go_enter Tryz.func44, Tryz.ntmps44
    go_wp2_with (first
      | (go_at_call 68; refine (l6In_any _ _ _ _).mono ?_; rintro e w' ⟨rfl, rfl⟩)
      | (go_at_call 69; refine (unhide HC _).mono ?_; rintro e w' ⟨rfl, hb'⟩))
    all_goals first
      | (go_ret; exact ⟨rfl, unhide HBX _⟩)
      | (go_ret; exact ⟨rfl, (kbox1 hb').2.2⟩)
      | (exfalso
         have h1 := unhide HSH
         have h2 := unhide HS
         simp [shB, h2] at h1
         simp_all
         done)
      | (exfalso
         have h1 := unhide HSH
         have h2 := unhide HS
         simp [shB, h2] at h1
         simp_all
         omega)
  by_cases h6 : t.sort = 6
  · have b1 : (t.sort == 5) = false := by simp [h6]
    have b2 : (t.sort != 5) = true := by simp [h6]
    have b3 : (t.sort == 4) = false := by simp [h6]
    have b4 : (t.sort == 6) = true := by simp [h6]
    have b5 : decide (t.sort < 4) = false := by simp [h6]
    have b6 : decide ((1 : Int) ≤ t.sort ∧ t.sort ≤ 6) = true := by simp [h6]
    have HSH := hide hsh; have HS := hide h6
    clear hsh h1 h2 h3 h4 h5 h6
    go_enter Tryz.func44, Tryz.ntmps44
    go_wp2_with (first
      | (go_at_call 68; refine (l6In_any _ _ _ _).mono ?_; rintro e w' ⟨rfl, rfl⟩)
      | (go_at_call 69; refine (unhide HC _).mono ?_; rintro e w' ⟨rfl, hb'⟩))
    all_goals first
      | (go_ret; exact ⟨rfl, unhide HBX _⟩)
      | (go_ret; exact ⟨rfl, (kbox1 hb').2.2⟩)
      | (exfalso
         have h1 := unhide HSH
         have h2 := unhide HS
         simp [shB, h2] at h1
         simp_all
         done)
      | (exfalso
         have h1 := unhide HSH
         have h2 := unhide HS
         simp [shB, h2] at h1
         simp_all
         omega)
  have b6 : decide ((1 : Int) ≤ t.sort ∧ t.sort ≤ 6) = false := by simp; omega
  clear h1 h2 h3 h4 h5 h6
  go_enter Tryz.func44, Tryz.ntmps44
  go_wp2_with (go_at_call 68; refine (l6In_any _ _ _ _).mono ?_; rintro e w' ⟨rfl, rfl⟩)
  go_ret
  exact ⟨rfl, unhide HBX _⟩

set_option maxHeartbeats 800000 in
theorem l2Parts_leaf (n : Nat) (IH : KPartsSaid n) (t : Kd) (hn : ksz t < n + 1) (P : Nat → Prop) (c : C3) (d : Int) (w : World) (hP : ∀ b, P b → b < w.heap.size) (hrep : KRep P w t c) (hd0 : 1 ≤ d) (hd1 : d ≤ 6) (hsh : shB t = true) (hs : t.sort = 1 ∨ t.sort = 2 ∨ t.sort = 3) :
    Calls Tryz.prog 44 #[.agg #[c.c0, c.c1, c.c2], .int .i64 d] w fun e w' => e = .returned (.int .i64 (qK t.kids d 1)) ∧ Below w.heap.size w w' := by
  obtain ⟨c0, c1, c2⟩ := c
  obtain ⟨e0, -, hns, a, cap, e2, hlen, hks⟩ := hrep.open
  simp only at e0 e2 hns
  have HN := hide hns
  obtain ⟨a3, cap3, e1, hl3, -⟩ := hns
  subst e0 e1 e2
  have HP := hide hP; have HI := hide IH; have HK := hide hks
  clear hrep hP IH hks
  have hbx : ∀ o, Below w.heap.size w (w.alloc o) := fun o => (Below.refl _ _).alloc (Nat.le_refl _) o
  have HBX := hide hbx; clear hbx
  have b1 : (t.sort == 5) = false := by simp; omega
  have b2 : (t.sort != 5) = true := by simp; omega
  have b3 : (t.sort == 4) = false := by simp; omega
  have b4 : (t.sort == 6) = false := by simp; omega
  have b5 : decide (t.sort < 4) = true := by simp; omega
  have b6 : decide ((1 : Int) ≤ t.sort ∧ t.sort ≤ 6) = true := by simp; omega
  have hkn : t.kids.length = 0 ∧ t.names.length = 0 := by
    rw [shB, if_pos hs] at hsh
    exact of_decide_eq_true hsh
  obtain ⟨hkl, hnl⟩ := hkn
  have b7 : decide ((0 : Int) < (t.names.length : Int)) = false := decide_eq_false (by omega)
  have b8 : decide ((0 : Int) < (t.kids.length : Int)) = false := decide_eq_false (by omega)
  have b9 : decide (0 < t.names.length) = false := decide_eq_false (by omega)
  have b10 : decide (0 < t.kids.length) = false := decide_eq_false (by omega)
  clear hs hsh hkl hnl
  go_enter Tryz.func44, Tryz.ntmps44
  go_wp2_with (first
    | (go_at_call 68; refine (l6In_any _ _ _ _).mono ?_; rintro e w' ⟨rfl, rfl⟩))
  generalize hks : t.kids = ks at *
  have HKS := hide hks; clear hks
  go_loopw [6, 7] (fun m i wr => ∃ (k : Nat) (q : Int), k ≤ ks.length ∧ i = .int .i64 k ∧ m = .int .i64 q ∧ 1 ≤ q ∧ q ≤ 40 ∧ Hid (qK (ks.drop k) d q = qK ks d 1) ∧ wr.cell? ⟨w.heap.size, 2, none⟩ = some (.slice a ks.length cap) ∧ w.heap.size < wr.heap.size ∧ Below w.heap.size w wr) (fun _ i _ => ks.length - (intOf i).toNat)
  case atStart => exact ⟨0, 1, Nat.zero_le _, rfl, rfl, by omega, by omega, rfl, (row3_alloc w _ _ _ _).cell (i := 2) (by omega), (row3_alloc w _ _ _ _).lt, unhide HBX _⟩
  case round =>
    obtain ⟨k, q, hk, rfl, rfl, hq0, hq1, HQ, hbox, hbs, hb⟩ := hrel
    by_cases hlt : k < ks.length
    · obtain ⟨b, o, c, rfl, hpb, hcell, hrep⟩ := unhide HK k hlt
      have hcell' := hcell.carry (hb.block b (unhide HP b hpb))
      obtain ⟨c0, c1, c2⟩ := c
      obtain ⟨e0, e1, e2⟩ := hcell'
      simp only at e0 e1 e2
      have hmem : ks[k] ∈ t.kids := by rw [unhide HKS]; exact List.getElem_mem hlt
      have hsm : ksz ks[k] < n := by have := ksz_kid hmem; omega
      have hcall := unhide HI ks[k] hsm P ⟨c0, c1, c2⟩ (d + 1) wr (fun b hb' => Nat.lt_of_lt_of_le (unhide HP b hb') hb.size) (KRep.carry (fun b hb' => hb.block b (unhide HP b hb')) (fun _ h => h) _ _ hrep) (by omega) (by omega)
      have hst := qK_step hlt d q
      have hbd := qT_bd ks[k] (d + 1)
      generalize qT ks[k] (d + 1) = r at hcall hst hbd
      have HCALL := hide hcall; have HST := hide hst
      clear hrep hcell hpb hmem hcall hst
      by_cases hbad : r < 0 ∨ 40 < q + r
      · have hfin : qK ks d 1 = -1 := by rw [← HQ.out, unhide HST, if_pos hbad]
        have HFIN := hide hfin; clear hfin
        rcases hbad with hbad | hbad
        · go_wp2_with (go_at_call 44; refine (unhide HCALL).mono ?_; rintro e w2 ⟨rfl, hb2⟩)
          go_ret
          exact ⟨by rw [unhide HKS, unhide HFIN]; rfl, hb.trans (hb2.mono hb.size)⟩
        · have hr0 : 0 ≤ r := by omega
          go_wp2_with (go_at_call 44; refine (unhide HCALL).mono ?_; rintro e w2 ⟨rfl, hb2⟩)
          go_ret
          exact ⟨by rw [unhide HKS, unhide HFIN]; rfl, hb.trans (hb2.mono hb.size)⟩
      · have hr0 : 0 ≤ r := by omega
        have hr1 : q + r ≤ 40 := by omega
        have hfin : qK (ks.drop (k + 1)) d (q + r) = qK ks d 1 := by rw [← HQ.out, unhide HST, if_neg hbad]
        have HFIN := hide hfin
        clear hfin hbad
        go_wp2_with (go_at_call 44; refine (unhide HCALL).mono ?_; rintro e w2 ⟨rfl, hb2⟩)
        go_roundw
        case rel => exact ⟨k + 1, _, by omega, by go_num, rfl, by omega, by omega, unhide HFIN, by rw [hb2.cell hbs]; exact hbox, Nat.lt_of_lt_of_le hbs hb2.size, hb.trans (hb2.mono hb.size)⟩
        case measure => simp [intOf]; omega
    · go_wp2_with fail
      go_ret
      refine ⟨?_, hb⟩
      rw [unhide HKS, ← HQ.out, List.drop_of_length_le (by omega), qK]
      rfl

set_option maxHeartbeats 800000 in
theorem l2Parts_list (n : Nat) (IH : KPartsSaid n) (t : Kd) (hn : ksz t < n + 1) (P : Nat → Prop) (c : C3) (d : Int) (w : World) (hP : ∀ b, P b → b < w.heap.size) (hrep : KRep P w t c) (hd0 : 1 ≤ d) (hd1 : d ≤ 6) (hsh : shB t = true) (hs : t.sort = 4) :
    Calls Tryz.prog 44 #[.agg #[c.c0, c.c1, c.c2], .int .i64 d] w fun e w' => e = .returned (.int .i64 (qK t.kids d 1)) ∧ Below w.heap.size w w' := by
  obtain ⟨c0, c1, c2⟩ := c
  obtain ⟨e0, -, hns, a, cap, e2, hlen, hks⟩ := hrep.open
  simp only at e0 e2 hns
  have HN := hide hns
  obtain ⟨a3, cap3, e1, hl3, -⟩ := hns
  subst e0 e1 e2
  have HP := hide hP; have HI := hide IH; have HK := hide hks
  clear hrep hP IH hks
  have hbx : ∀ o, Below w.heap.size w (w.alloc o) := fun o => (Below.refl _ _).alloc (Nat.le_refl _) o
  have HBX := hide hbx; clear hbx
  have b1 : (t.sort == 5) = false := by simp [hs]
  have b2 : (t.sort != 5) = true := by simp [hs]
  have b3 : (t.sort == 4) = true := by simp [hs]
  have b4 : (t.sort == 6) = false := by simp [hs]
  have b5 : decide (t.sort < 4) = false := by simp [hs]
  have b6 : decide ((1 : Int) ≤ t.sort ∧ t.sort ≤ 6) = true := by simp [hs]
  have hkn : t.kids.length = 1 ∧ t.names.length = 0 := by
    rw [shB, if_neg (by omega), if_pos (by omega)] at hsh
    exact of_decide_eq_true hsh
  obtain ⟨hkl, hnl⟩ := hkn
  have b7 : decide ((0 : Int) < (t.names.length : Int)) = false := decide_eq_false (by omega)
  have b9 : decide (0 < t.names.length) = false := decide_eq_false (by omega)
  have b8 : ((t.kids.length : Int) != 1) = false := by simp; omega
  clear hs hsh hkl hnl
  go_enter Tryz.func44, Tryz.ntmps44
  go_wp2_with (first
    | (go_at_call 68; refine (l6In_any _ _ _ _).mono ?_; rintro e w' ⟨rfl, rfl⟩))
  generalize hks : t.kids = ks at *
  have HKS := hide hks; clear hks
  go_loopw [6, 7] (fun m i wr => ∃ (k : Nat) (q : Int), k ≤ ks.length ∧ i = .int .i64 k ∧ m = .int .i64 q ∧ 1 ≤ q ∧ q ≤ 40 ∧ Hid (qK (ks.drop k) d q = qK ks d 1) ∧ wr.cell? ⟨w.heap.size, 2, none⟩ = some (.slice a ks.length cap) ∧ w.heap.size < wr.heap.size ∧ Below w.heap.size w wr) (fun _ i _ => ks.length - (intOf i).toNat)
  case atStart => exact ⟨0, 1, Nat.zero_le _, rfl, rfl, by omega, by omega, rfl, (row3_alloc w _ _ _ _).cell (i := 2) (by omega), (row3_alloc w _ _ _ _).lt, unhide HBX _⟩
  case round =>
    obtain ⟨k, q, hk, rfl, rfl, hq0, hq1, HQ, hbox, hbs, hb⟩ := hrel
    by_cases hlt : k < ks.length
    · obtain ⟨b, o, c, rfl, hpb, hcell, hrep⟩ := unhide HK k hlt
      have hcell' := hcell.carry (hb.block b (unhide HP b hpb))
      obtain ⟨c0, c1, c2⟩ := c
      obtain ⟨e0, e1, e2⟩ := hcell'
      simp only at e0 e1 e2
      have hmem : ks[k] ∈ t.kids := by rw [unhide HKS]; exact List.getElem_mem hlt
      have hsm : ksz ks[k] < n := by have := ksz_kid hmem; omega
      have hcall := unhide HI ks[k] hsm P ⟨c0, c1, c2⟩ (d + 1) wr (fun b hb' => Nat.lt_of_lt_of_le (unhide HP b hb') hb.size) (KRep.carry (fun b hb' => hb.block b (unhide HP b hb')) (fun _ h => h) _ _ hrep) (by omega) (by omega)
      have hst := qK_step hlt d q
      have hbd := qT_bd ks[k] (d + 1)
      generalize qT ks[k] (d + 1) = r at hcall hst hbd
      have HCALL := hide hcall; have HST := hide hst
      clear hrep hcell hpb hmem hcall hst
      by_cases hbad : r < 0 ∨ 40 < q + r
      · have hfin : qK ks d 1 = -1 := by rw [← HQ.out, unhide HST, if_pos hbad]
        have HFIN := hide hfin; clear hfin
        rcases hbad with hbad | hbad
        · go_wp2_with (go_at_call 44; refine (unhide HCALL).mono ?_; rintro e w2 ⟨rfl, hb2⟩)
          go_ret
          exact ⟨by rw [unhide HKS, unhide HFIN]; rfl, hb.trans (hb2.mono hb.size)⟩
        · have hr0 : 0 ≤ r := by omega
          go_wp2_with (go_at_call 44; refine (unhide HCALL).mono ?_; rintro e w2 ⟨rfl, hb2⟩)
          go_ret
          exact ⟨by rw [unhide HKS, unhide HFIN]; rfl, hb.trans (hb2.mono hb.size)⟩
      · have hr0 : 0 ≤ r := by omega
        have hr1 : q + r ≤ 40 := by omega
        have hfin : qK (ks.drop (k + 1)) d (q + r) = qK ks d 1 := by rw [← HQ.out, unhide HST, if_neg hbad]
        have HFIN := hide hfin
        clear hfin hbad
        go_wp2_with (go_at_call 44; refine (unhide HCALL).mono ?_; rintro e w2 ⟨rfl, hb2⟩)
        go_roundw
        case rel => exact ⟨k + 1, _, by omega, by go_num, rfl, by omega, by omega, unhide HFIN, by rw [hb2.cell hbs]; exact hbox, Nat.lt_of_lt_of_le hbs hb2.size, hb.trans (hb2.mono hb.size)⟩
        case measure => simp [intOf]; omega
    · go_wp2_with fail
      go_ret
      refine ⟨?_, hb⟩
      rw [unhide HKS, ← HQ.out, List.drop_of_length_le (by omega), qK]
      rfl

set_option maxHeartbeats 800000 in
theorem l2Parts_maybe (n : Nat) (IH : KPartsSaid n) (t : Kd) (hn : ksz t < n + 1) (P : Nat → Prop) (c : C3) (d : Int) (w : World) (hP : ∀ b, P b → b < w.heap.size) (hrep : KRep P w t c) (hd0 : 1 ≤ d) (hd1 : d ≤ 6) (hsh : shB t = true) (hs : t.sort = 6) :
    Calls Tryz.prog 44 #[.agg #[c.c0, c.c1, c.c2], .int .i64 d] w fun e w' => e = .returned (.int .i64 (qK t.kids d 1)) ∧ Below w.heap.size w w' := by
  obtain ⟨c0, c1, c2⟩ := c
  obtain ⟨e0, -, hns, a, cap, e2, hlen, hks⟩ := hrep.open
  simp only at e0 e2 hns
  have HN := hide hns
  obtain ⟨a3, cap3, e1, hl3, -⟩ := hns
  subst e0 e1 e2
  have HP := hide hP; have HI := hide IH; have HK := hide hks
  clear hrep hP IH hks
  have hbx : ∀ o, Below w.heap.size w (w.alloc o) := fun o => (Below.refl _ _).alloc (Nat.le_refl _) o
  have HBX := hide hbx; clear hbx
  have b1 : (t.sort == 5) = false := by simp [hs]
  have b2 : (t.sort != 5) = true := by simp [hs]
  have b3 : (t.sort == 4) = false := by simp [hs]
  have b4 : (t.sort == 6) = true := by simp [hs]
  have b5 : decide (t.sort < 4) = false := by simp [hs]
  have b6 : decide ((1 : Int) ≤ t.sort ∧ t.sort ≤ 6) = true := by simp [hs]
  have hkn : t.kids.length = 1 ∧ t.names.length = 0 := by
    rw [shB, if_neg (by omega), if_pos (by omega)] at hsh
    exact of_decide_eq_true hsh
  obtain ⟨hkl, hnl⟩ := hkn
  have b7 : decide ((0 : Int) < (t.names.length : Int)) = false := decide_eq_false (by omega)
  have b9 : decide (0 < t.names.length) = false := decide_eq_false (by omega)
  have b8 : ((t.kids.length : Int) != 1) = false := by simp; omega
  clear hs hsh hkl hnl
  go_enter Tryz.func44, Tryz.ntmps44
  go_wp2_with (first
    | (go_at_call 68; refine (l6In_any _ _ _ _).mono ?_; rintro e w' ⟨rfl, rfl⟩))
  generalize hks : t.kids = ks at *
  have HKS := hide hks; clear hks
  go_loopw [6, 7] (fun m i wr => ∃ (k : Nat) (q : Int), k ≤ ks.length ∧ i = .int .i64 k ∧ m = .int .i64 q ∧ 1 ≤ q ∧ q ≤ 40 ∧ Hid (qK (ks.drop k) d q = qK ks d 1) ∧ wr.cell? ⟨w.heap.size, 2, none⟩ = some (.slice a ks.length cap) ∧ w.heap.size < wr.heap.size ∧ Below w.heap.size w wr) (fun _ i _ => ks.length - (intOf i).toNat)
  case atStart => exact ⟨0, 1, Nat.zero_le _, rfl, rfl, by omega, by omega, rfl, (row3_alloc w _ _ _ _).cell (i := 2) (by omega), (row3_alloc w _ _ _ _).lt, unhide HBX _⟩
  case round =>
    obtain ⟨k, q, hk, rfl, rfl, hq0, hq1, HQ, hbox, hbs, hb⟩ := hrel
    by_cases hlt : k < ks.length
    · obtain ⟨b, o, c, rfl, hpb, hcell, hrep⟩ := unhide HK k hlt
      have hcell' := hcell.carry (hb.block b (unhide HP b hpb))
      obtain ⟨c0, c1, c2⟩ := c
      obtain ⟨e0, e1, e2⟩ := hcell'
      simp only at e0 e1 e2
      have hmem : ks[k] ∈ t.kids := by rw [unhide HKS]; exact List.getElem_mem hlt
      have hsm : ksz ks[k] < n := by have := ksz_kid hmem; omega
      have hcall := unhide HI ks[k] hsm P ⟨c0, c1, c2⟩ (d + 1) wr (fun b hb' => Nat.lt_of_lt_of_le (unhide HP b hb') hb.size) (KRep.carry (fun b hb' => hb.block b (unhide HP b hb')) (fun _ h => h) _ _ hrep) (by omega) (by omega)
      have hst := qK_step hlt d q
      have hbd := qT_bd ks[k] (d + 1)
      generalize qT ks[k] (d + 1) = r at hcall hst hbd
      have HCALL := hide hcall; have HST := hide hst
      clear hrep hcell hpb hmem hcall hst
      by_cases hbad : r < 0 ∨ 40 < q + r
      · have hfin : qK ks d 1 = -1 := by rw [← HQ.out, unhide HST, if_pos hbad]
        have HFIN := hide hfin; clear hfin
        rcases hbad with hbad | hbad
        · go_wp2_with (go_at_call 44; refine (unhide HCALL).mono ?_; rintro e w2 ⟨rfl, hb2⟩)
          go_ret
          exact ⟨by rw [unhide HKS, unhide HFIN]; rfl, hb.trans (hb2.mono hb.size)⟩
        · have hr0 : 0 ≤ r := by omega
          go_wp2_with (go_at_call 44; refine (unhide HCALL).mono ?_; rintro e w2 ⟨rfl, hb2⟩)
          go_ret
          exact ⟨by rw [unhide HKS, unhide HFIN]; rfl, hb.trans (hb2.mono hb.size)⟩
      · have hr0 : 0 ≤ r := by omega
        have hr1 : q + r ≤ 40 := by omega
        have hfin : qK (ks.drop (k + 1)) d (q + r) = qK ks d 1 := by rw [← HQ.out, unhide HST, if_neg hbad]
        have HFIN := hide hfin
        clear hfin hbad
        go_wp2_with (go_at_call 44; refine (unhide HCALL).mono ?_; rintro e w2 ⟨rfl, hb2⟩)
        go_roundw
        case rel => exact ⟨k + 1, _, by omega, by go_num, rfl, by omega, by omega, unhide HFIN, by rw [hb2.cell hbs]; exact hbox, Nat.lt_of_lt_of_le hbs hb2.size, hb.trans (hb2.mono hb.size)⟩
        case measure => simp [intOf]; omega
    · go_wp2_with fail
      go_ret
      refine ⟨?_, hb⟩
      rw [unhide HKS, ← HQ.out, List.drop_of_length_le (by omega), qK]
      rfl

set_option maxHeartbeats 800000 in
theorem l2Parts_form (n : Nat) (IH : KPartsSaid n) (t : Kd) (hn : ksz t < n + 1) (P : Nat → Prop) (c : C3) (d : Int) (w : World) (hP : ∀ b, P b → b < w.heap.size) (hrep : KRep P w t c) (hd0 : 1 ≤ d) (hd1 : d ≤ 6) (hsh : shB t = true) (hs : t.sort = 5) :
    Calls Tryz.prog 44 #[.agg #[c.c0, c.c1, c.c2], .int .i64 d] w fun e w' => e = .returned (.int .i64 (qK t.kids d 1)) ∧ Below w.heap.size w w' := by
  obtain ⟨c0, c1, c2⟩ := c
  obtain ⟨e0, -, hns, a, cap, e2, hlen, hks⟩ := hrep.open
  simp only at e0 e2 hns
  have HN := hide hns
  obtain ⟨a3, cap3, e1, hl3, -⟩ := hns
  subst e0 e1 e2
  have HP := hide hP; have HI := hide IH; have HK := hide hks
  clear hrep hP IH hks
  have hbx : ∀ o, Below w.heap.size w (w.alloc o) := fun o => (Below.refl _ _).alloc (Nat.le_refl _) o
  have HBX := hide hbx; clear hbx
  have b1 : (t.sort == 5) = true := by simp [hs]
  have b2 : (t.sort != 5) = false := by simp [hs]
  have b3 : (t.sort == 4) = false := by simp [hs]
  have b4 : (t.sort == 6) = false := by simp [hs]
  have b5 : decide (t.sort < 4) = false := by simp [hs]
  have b6 : decide ((1 : Int) ≤ t.sort ∧ t.sort ≤ 6) = true := by simp [hs]
  have hkn : t.kids.length = t.names.length ∧ riseB t.names = true := by
    simpa [shB, hs] using hsh
  obtain ⟨hkl, hri⟩ := hkn
  have b8 : ((t.names.length : Int) != (t.kids.length : Int)) = false := by simp; omega
  have hcall : ∀ o, Calls Tryz.prog 69 #[.slice a3 t.names.length cap3] (w.alloc o) fun e w' => e = .returned (.bool true) ∧ Below (w.alloc o).heap.size (w.alloc o) w' := fun o => by
    have := l1Rise_any _ t.names (w.alloc o) (P := P) (fun b hb => Nat.lt_of_lt_of_le (unhide HP b hb) (unhide HBX o).size) ((unhide HN).carry (fun b hb => (unhide HBX o).block b (unhide HP b hb)) (fun _ h => h))
    rw [hri] at this
    exact this
  have HC := hide hcall; clear hcall
  clear hs hsh hkl hri
  go_enter Tryz.func44, Tryz.ntmps44
  go_wp2_with (first
    | (go_at_call 68; refine (l6In_any _ _ _ _).mono ?_; rintro e w' ⟨rfl, rfl⟩)
    | (go_at_call 69
       refine (unhide HC _).mono ?_
       rintro e w' ⟨rfl, hb'⟩
       obtain ⟨q0, -, hb0⟩ := kbox1 hb'
       have k0 := q0.cell (i := 0) (by omega)
       have k1 := q0.cell (i := 1) (by omega)
       have k2 := q0.cell (i := 2) (by omega)
       simp only [row3] at k0 k1 k2
       have Q0 := hide q0; have HB0 := hide hb0
       clear q0 hb0 hb'))
  generalize hks : t.kids = ks at *
  have HKS := hide hks; clear hks
  go_loopw [6, 7] (fun m i wr => ∃ (k : Nat) (q : Int), k ≤ ks.length ∧ i = .int .i64 k ∧ m = .int .i64 q ∧ 1 ≤ q ∧ q ≤ 40 ∧ Hid (qK (ks.drop k) d q = qK ks d 1) ∧ wr.cell? ⟨w.heap.size, 2, none⟩ = some (.slice a ks.length cap) ∧ w.heap.size < wr.heap.size ∧ Below w.heap.size w wr) (fun _ i _ => ks.length - (intOf i).toNat)
  case atStart => exact ⟨0, 1, Nat.zero_le _, rfl, rfl, by omega, by omega, rfl, k2, (unhide Q0).lt, unhide HB0⟩
  case round =>
    obtain ⟨k, q, hk, rfl, rfl, hq0, hq1, HQ, hbox, hbs, hb⟩ := hrel
    by_cases hlt : k < ks.length
    · obtain ⟨b, o, c, rfl, hpb, hcell, hrep⟩ := unhide HK k hlt
      have hcell' := hcell.carry (hb.block b (unhide HP b hpb))
      obtain ⟨c0, c1, c2⟩ := c
      obtain ⟨e0, e1, e2⟩ := hcell'
      simp only at e0 e1 e2
      have hmem : ks[k] ∈ t.kids := by rw [unhide HKS]; exact List.getElem_mem hlt
      have hsm : ksz ks[k] < n := by have := ksz_kid hmem; omega
      have hcall := unhide HI ks[k] hsm P ⟨c0, c1, c2⟩ (d + 1) wr (fun b hb' => Nat.lt_of_lt_of_le (unhide HP b hb') hb.size) (KRep.carry (fun b hb' => hb.block b (unhide HP b hb')) (fun _ h => h) _ _ hrep) (by omega) (by omega)
      have hst := qK_step hlt d q
      have hbd := qT_bd ks[k] (d + 1)
      generalize qT ks[k] (d + 1) = r at hcall hst hbd
      have HCALL := hide hcall; have HST := hide hst
      clear hrep hcell hpb hmem hcall hst
      by_cases hbad : r < 0 ∨ 40 < q + r
      · have hfin : qK ks d 1 = -1 := by rw [← HQ.out, unhide HST, if_pos hbad]
        have HFIN := hide hfin; clear hfin
        rcases hbad with hbad | hbad
        · go_wp2_with (go_at_call 44; refine (unhide HCALL).mono ?_; rintro e w2 ⟨rfl, hb2⟩)
          go_ret
          exact ⟨by rw [unhide HKS, unhide HFIN]; rfl, hb.trans (hb2.mono hb.size)⟩
        · have hr0 : 0 ≤ r := by omega
          go_wp2_with (go_at_call 44; refine (unhide HCALL).mono ?_; rintro e w2 ⟨rfl, hb2⟩)
          go_ret
          exact ⟨by rw [unhide HKS, unhide HFIN]; rfl, hb.trans (hb2.mono hb.size)⟩
      · have hr0 : 0 ≤ r := by omega
        have hr1 : q + r ≤ 40 := by omega
        have hfin : qK (ks.drop (k + 1)) d (q + r) = qK ks d 1 := by rw [← HQ.out, unhide HST, if_neg hbad]
        have HFIN := hide hfin
        clear hfin hbad
        go_wp2_with (go_at_call 44; refine (unhide HCALL).mono ?_; rintro e w2 ⟨rfl, hb2⟩)
        go_roundw
        case rel => exact ⟨k + 1, _, by omega, by go_num, rfl, by omega, by omega, unhide HFIN, by rw [hb2.cell hbs]; exact hbox, Nat.lt_of_lt_of_le hbs hb2.size, hb.trans (hb2.mono hb.size)⟩
        case measure => simp [intOf]; omega
    · go_wp2_with fail
      go_ret
      refine ⟨?_, hb⟩
      rw [unhide HKS, ← HQ.out, List.drop_of_length_le (by omega), qK]
      rfl

theorem l2Parts_step (n : Nat) (IH : KPartsSaid n) : KPartsSaid (n + 1) := by
  intro t hn P c d w hP hrep hd0 hd1
  rw [qT_eq]
  by_cases hno : 6 < d ∨ shB t = false
  · rw [if_pos hno]; exact l2Parts_no t P c d w hP hrep hno
  · rw [if_neg hno]
    have hd6 : d ≤ 6 := by omega
    have hsh : shB t = true := by
      cases h : shB t
      · exact absurd (Or.inr h) hno
      · rfl
    by_cases h4 : t.sort = 4
    · exact l2Parts_list n IH t hn P c d w hP hrep hd0 hd6 hsh h4
    by_cases h6 : t.sort = 6
    · exact l2Parts_maybe n IH t hn P c d w hP hrep hd0 hd6 hsh h6
    by_cases h5 : t.sort = 5
    · exact l2Parts_form n IH t hn P c d w hP hrep hd0 hd6 hsh h5
    by_cases hl : t.sort = 1 ∨ t.sort = 2 ∨ t.sort = 3
    · exact l2Parts_leaf n IH t hn P c d w hP hrep hd0 hd6 hsh hl
    · rw [shB, if_neg hl, if_neg (by omega), if_neg h5] at hsh
      cases hsh

theorem l2Parts_all : ∀ n, KPartsSaid n
  | 0 => fun t h => by omega
  | n + 1 => l2Parts_step n (l2Parts_all n)

set_option maxHeartbeats 400000 in
theorem specKindOk_any (t : Kd) (P : Nat → Prop) (c : C3) (w : World) (hP : ∀ b, P b → b < w.heap.size) (hrep : KRep P w t c) :
    Calls Tryz.prog 22 #[.agg #[c.c0, c.c1, c.c2]] w fun e w' => e = .returned (.bool (decide (0 < qT t 1))) ∧ Below w.heap.size w w' := by
  have hbx : ∀ o, Below w.heap.size w (w.alloc o) := fun o => (Below.refl _ _).alloc (Nat.le_refl _) o
  have hcall : ∀ o, Calls Tryz.prog 44 #[.agg #[c.c0, c.c1, c.c2], .int .i64 1] (w.alloc o) fun e w' => e = .returned (.int .i64 (qT t 1)) ∧ Below w.heap.size w w' := fun o =>
    (l2Parts_all (ksz t + 1) t (by omega) P c 1 (w.alloc o) (fun b hb => Nat.lt_of_lt_of_le (hP b hb) (hbx o).size) (KRep.carry (fun b hb => (hbx o).block b (hP b hb)) (fun _ h => h) _ _ hrep) (by omega) (by omega)).mono
      fun e w' ⟨h1, h2⟩ => ⟨h1, (hbx o).trans (h2.mono (hbx o).size)⟩
  generalize qT t 1 = r at *
  have HCALL := hide hcall
  clear hbx hcall hP hrep
  go_enter Tryz.func22, Tryz.ntmps22
  go_wp2_with (go_at_call 44; refine (unhide HCALL _).mono ?_; rintro e w2 ⟨rfl, hb2⟩)
  go_ret
  exact ⟨rfl, hb2⟩

end Go.Proofs.YtenpghndgdemnaaGreatDoor

/- The walks of the specification's l3Kid, l3Fits, KindFits: whether a schema fits into another one; of what was there nothing has turned. No conditions. -/

namespace Go.Proofs.YtenpghndgdemnaaGreatDoor
open Go Go.RowKit

end Go.Proofs.YtenpghndgdemnaaGreatDoor

/- The walks of the specification's l3Fits, KindFits: whether a schema fits into another one; of what was there nothing has turned. No conditions. -/

namespace Go.Proofs.YtenpghndgdemnaaGreatDoor
open Go Go.RowKit

/-- A schema in the world, whose parts are ok. -/
structure KW (w : World) (k : Kd) (c : C3) : Prop where
  rep : KRep (fun x => x < w.heap.size) w k c
  ok : okD k = true
theorem KW.on {w w' : World} {k : Kd} {c : C3} (h : KW w k c) (hb : Below w.heap.size w w') : KW w' k c :=
  ⟨KRep.carry (fun x hx => hb.block x hx) (fun _ hx => Nat.lt_of_lt_of_le hx hb.size) _ _ h.rep, h.ok⟩
/-- A kid of a schema. -/
theorem KW.kid {w : World} {k : Kd} {c : C3} (h : KW w k c) {i : Nat} (hi : i < k.kids.length) : ∃ (b o cap : Nat) (a1 a2 : Option Addr) (p1 p2 : Nat), c.c2 = .slice (some ⟨b, o, none⟩) k.kids.length cap ∧ b < w.heap.size ∧ w.cell? ⟨b, o + i * 3, none⟩ = some (.int .i64 k.kids[i].sort) ∧ w.cell? ⟨b, o + i * 3 + 1, none⟩ = some (.slice a1 k.kids[i].names.length p1) ∧ w.cell? ⟨b, o + i * 3 + 2, none⟩ = some (.slice a2 k.kids[i].kids.length p2) ∧ KW w k.kids[i] ⟨.int .i64 k.kids[i].sort, .slice a1 k.kids[i].names.length p1, .slice a2 k.kids[i].kids.length p2⟩ := by
  have hok := h.ok
  rw [okD_eq, Bool.and_eq_true] at hok
  obtain ⟨-, -, -, a, cap, e2, -, hks⟩ := h.rep.open
  obtain ⟨zb, zo, ⟨z0, z1, z2⟩, rfl, hpz, ⟨y0, y1, y2⟩, hrz⟩ := hks i hi
  obtain ⟨f0, -, ⟨a9, cap9, f1, -⟩, b9, cbp9, f2, -⟩ := hrz.open
  simp only at f0 f1 f2 y0 y1 y2
  subst f0 f1 f2
  exact ⟨zb, zo, cap, a9, b9, cap9, cbp9, e2, hpz, y0, y1, y2, hrz, okDs_get hok.2 i hi⟩
theorem KW.form {w : World} {k : Kd} {c : C3} (h : KW w k c) : ∃ (a1 a2 : Option Addr) (p1 p2 : Nat), c = ⟨.int .i64 k.sort, .slice a1 k.names.length p1, .slice a2 k.kids.length p2⟩ := by
  obtain ⟨c0, c1, c2⟩ := c
  obtain ⟨e0, -, ⟨a3, cap3, e1, -⟩, a, cap, e2, -⟩ := h.rep.open
  simp only at e0 e1 e2
  exact ⟨a3, a, cap3, cap, by rw [e0, e1, e2]⟩
theorem KW.name {w : World} {k : Kd} {c : C3} (h : KW w k c) {i : Nat} (hi : i < k.names.length) : ∃ (b o cap : Nat), c.c1 = .slice (some ⟨b, o, none⟩) k.names.length cap ∧ b < w.heap.size ∧ w.cell? ⟨b, o + i, none⟩ = some (.string k.names[i]) := by
  obtain ⟨-, -, ⟨a3, cap3, e1, -, hnc⟩, -⟩ := h.rep.open
  obtain ⟨nb, no, rfl, hpn, hcn, -⟩ := hnc i hi
  exact ⟨nb, no, cap3, e1, hpn, hcn⟩
theorem KW.sh {w : World} {k : Kd} {c : C3} (h : KW w k c) : ((k.sort = 1 ∨ k.sort = 2 ∨ k.sort = 3) ∧ k.kids.length = 0 ∧ k.names.length = 0) ∨ ((k.sort = 4 ∨ k.sort = 6) ∧ k.kids.length = 1 ∧ k.names.length = 0) ∨ (k.sort = 5 ∧ k.kids.length = k.names.length ∧ riseB k.names = true) := by
  have hok := h.ok
  rw [okD_eq, Bool.and_eq_true] at hok
  exact shB_cases hok.1
end Go.Proofs.YtenpghndgdemnaaGreatDoor
