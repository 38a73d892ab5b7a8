/- The walks of the specification's l2Parts and KindOk: what they answer. No conditions. -/
import Derived.Test.YtcpfelaffclalaaGreatDoorPart06
import Derived.Test.YtcpfelaffclalaaGreatDoorPart00
import Derived.Test.YtcpfelaffclalaaGreatDoorPart03
import Derived.Deep.RegionHeld3
namespace Go.Proofs.YtcpfelaffclalaaGreatDoor
open Go Go.RowKit

def KPartsSaid (n : Nat) : Prop := ∀ (t : Kd), ksz t < n → ∀ (P : Nat → Prop) (c : C3) (d : Int) (w : World), (∀ b, P b → b < w.heap.size) → KRep P w t c → 1 ≤ d → d ≤ 7 →
    Calls Tryz.prog 50 #[.agg #[c.c0, c.c1, c.c2], .int .i64 d] w fun e w' => e = .returned (.int .i64 (qT t d)) ∧ Below w.heap.size w w'

set_option maxHeartbeats 800000 in
/-- A schema that is not ok by itself. -/
theorem l2Parts_no (t : Kd) (P : Nat → Prop) (c : C3) (d : Int) (w : World) (hP : ∀ b, P b → b < w.heap.size) (hrep : KRep P w t c) (hno : 6 < d ∨ shB t = false) :
    Calls Tryz.prog 50 #[.agg #[c.c0, c.c1, c.c2], .int .i64 d] w fun e w' => e = .returned (.int .i64 (-1)) ∧ Below w.heap.size w w' := by
  obtain ⟨c0, c1, c2⟩ := c
  obtain ⟨e0, -, hns, a, cap, e2, hlen, -⟩ := hrep.open
  simp only at e0 e2 hns
  have HN := hide hns
  obtain ⟨a3, cap3, e1, hl3, -⟩ := hns
  subst e0 e1 e2
  clear hrep
  have HP := hide hP; clear hP
  have hbx : ∀ o, Below w.heap.size w (w.alloc o) := fun o => (Below.refl _ _).alloc (Nat.le_refl _) o
  have HBX := hide hbx; clear hbx
  have hcall : ∀ o, Calls Tryz.prog 82 #[.slice a3 t.names.length cap3] (w.alloc o) fun e w' => e = .returned (.bool (riseB t.names)) ∧ Below (w.alloc o).heap.size (w.alloc o) w' := fun o =>
    l1Rise_any _ t.names (w.alloc o) (P := P) (fun b hb => Nat.lt_of_lt_of_le (unhide HP b hb) (unhide HBX o).size) ((unhide HN).carry (fun b hb => (unhide HBX o).block b (unhide HP b hb)) (fun _ h => h))
  have HC := hide hcall; clear hcall
  by_cases hd6 : 6 < d
  · go_enter Tryz.func50, Tryz.ntmps50
    go_wp2_with fail
    go_ret
    exact ⟨rfl, unhide HBX _⟩
  have hsh : shB t = false := hno.resolve_left hd6
  clear hno
  by_cases h1 : t.sort = 1
  · have b1 : (t.sort == 5) = false := by simp [h1]
    have b2 : (t.sort != 5) = true := by simp [h1]
    have b3 : (t.sort == 4) = false := by simp [h1]
    have b4 : (t.sort == 6) = false := by simp [h1]
    have b5 : decide (t.sort < 4) = true := by simp [h1]
    have b6 : decide ((1 : Int) ≤ t.sort ∧ t.sort ≤ 6) = true := by simp [h1]
    have HSH := hide hsh; have HS := hide h1
    clear hsh h1
    go_enter Tryz.func50, Tryz.ntmps50
    go_wp2_with (first
      | (go_at_call 81; refine (l6In_any _ _ _ _).mono ?_; rintro e w' ⟨rfl, rfl⟩)
      | (go_at_call 82; refine (unhide HC _).mono ?_; rintro e w' ⟨rfl, hb'⟩))
    all_goals first
      | (go_ret; exact ⟨rfl, unhide HBX _⟩)
      | (go_ret; exact ⟨rfl, (kbox1 hb').2.2⟩)
      | (exfalso
         have h1 := unhide HSH
         have h2 := unhide HS
         simp [shB, h2] at h1
         simp_all
         done)
      | (exfalso
         have h1 := unhide HSH
         have h2 := unhide HS
         simp [shB, h2] at h1
         simp_all
         omega)
  by_cases h2 : t.sort = 2
  · have b1 : (t.sort == 5) = false := by simp [h2]
    have b2 : (t.sort != 5) = true := by simp [h2]
    have b3 : (t.sort == 4) = false := by simp [h2]
    have b4 : (t.sort == 6) = false := by simp [h2]
    have b5 : decide (t.sort < 4) = true := by simp [h2]
    have b6 : decide ((1 : Int) ≤ t.sort ∧ t.sort ≤ 6) = true := by simp [h2]
    have HSH := hide hsh; have HS := hide h2
    clear hsh h1 h2
    go_enter Tryz.func50, Tryz.ntmps50
    go_wp2_with (first
      | (go_at_call 81; refine (l6In_any _ _ _ _).mono ?_; rintro e w' ⟨rfl, rfl⟩)
      | (go_at_call 82; refine (unhide HC _).mono ?_; rintro e w' ⟨rfl, hb'⟩))
    all_goals first
      | (go_ret; exact ⟨rfl, unhide HBX _⟩)
      | (go_ret; exact ⟨rfl, (kbox1 hb').2.2⟩)
      | (exfalso
         have h1 := unhide HSH
         have h2 := unhide HS
         simp [shB, h2] at h1
         simp_all
         done)
      | (exfalso
         have h1 := unhide HSH
         have h2 := unhide HS
         simp [shB, h2] at h1
         simp_all
         omega)
  by_cases h3 : t.sort = 3
  · have b1 : (t.sort == 5) = false := by simp [h3]
    have b2 : (t.sort != 5) = true := by simp [h3]
    have b3 : (t.sort == 4) = false := by simp [h3]
    have b4 : (t.sort == 6) = false := by simp [h3]
    have b5 : decide (t.sort < 4) = true := by simp [h3]
    have b6 : decide ((1 : Int) ≤ t.sort ∧ t.sort ≤ 6) = true := by simp [h3]
    have HSH := hide hsh; have HS := hide h3
    clear hsh h1 h2 h3
    go_enter Tryz.func50, Tryz.ntmps50
    go_wp2_with (first
      | (go_at_call 81; refine (l6In_any _ _ _ _).mono ?_; rintro e w' ⟨rfl, rfl⟩)
      | (go_at_call 82; refine (unhide HC _).mono ?_; rintro e w' ⟨rfl, hb'⟩))
    all_goals first
      | (go_ret; exact ⟨rfl, unhide HBX _⟩)
      | (go_ret; exact ⟨rfl, (kbox1 hb').2.2⟩)
      | (exfalso
         have h1 := unhide HSH
         have h2 := unhide HS
         simp [shB, h2] at h1
         simp_all
         done)
      | (exfalso
         have h1 := unhide HSH
         have h2 := unhide HS
         simp [shB, h2] at h1
         simp_all
         omega)
  by_cases h4 : t.sort = 4
  · have b1 : (t.sort == 5) = false := by simp [h4]
    have b2 : (t.sort != 5) = true := by simp [h4]
    have b3 : (t.sort == 4) = true := by simp [h4]
    have b4 : (t.sort == 6) = false := by simp [h4]
    have b5 : decide (t.sort < 4) = false := by simp [h4]
    have b6 : decide ((1 : Int) ≤ t.sort ∧ t.sort ≤ 6) = true := by simp [h4]
    have HSH := hide hsh; have HS := hide h4
    clear hsh h1 h2 h3 h4
    go_enter Tryz.func50, Tryz.ntmps50
    go_wp2_with (first
      | (go_at_call 81; refine (l6In_any _ _ _ _).mono ?_; rintro e w' ⟨rfl, rfl⟩)
      | (go_at_call 82; refine (unhide HC _).mono ?_; rintro e w' ⟨rfl, hb'⟩))
    all_goals first
      | (go_ret; exact ⟨rfl, unhide HBX _⟩)
      | (go_ret; exact ⟨rfl, (kbox1 hb').2.2⟩)
      | (exfalso
         have h1 := unhide HSH
         have h2 := unhide HS
         simp [shB, h2] at h1
         simp_all
         done)
      | (exfalso
         have h1 := unhide HSH
         have h2 := unhide HS
         simp [shB, h2] at h1
         simp_all
         omega)
  by_cases h5 : t.sort = 5
  · have b1 : (t.sort == 5) = true := by simp [h5]
    have b2 : (t.sort != 5) = false := by simp [h5]
    have b3 : (t.sort == 4) = false := by simp [h5]
    have b4 : (t.sort == 6) = false := by simp [h5]
    have b5 : decide (t.sort < 4) = false := by simp [h5]
    have b6 : decide ((1 : Int) ≤ t.sort ∧ t.sort ≤ 6) = true := by simp [h5]
    have HSH := hide hsh; have HS := hide h5
    clear hsh h1 h2 h3 h4 h5
    go_enter Tryz.func50, Tryz.ntmps50
    go_wp2_with (first
      | (go_at_call 81; refine (l6In_any _ _ _ _).mono ?_; rintro e w' ⟨rfl, rfl⟩)
      | (go_at_call 82; refine (unhide HC _).mono ?_; rintro e w' ⟨rfl, hb'⟩))
    all_goals first
      | (go_ret; exact ⟨rfl, unhide HBX _⟩)
      | (go_ret; exact ⟨rfl, (kbox1 hb').2.2⟩)
      | (exfalso
         have h1 := unhide HSH
         have h2 := unhide HS
         simp [shB, h2] at h1
         simp_all
         done)
      | (exfalso
         have h1 := unhide HSH
         have h2 := unhide HS
         simp [shB, h2] at h1
         simp_all
         omega)
  by_cases h6 : t.sort = 6
  · have b1 : (t.sort == 5) = false := by simp [h6]
    have b2 : (t.sort != 5) = true := by simp [h6]
    have b3 : (t.sort == 4) = false := by simp [h6]
    have b4 : (t.sort == 6) = true := by simp [h6]
    have b5 : decide (t.sort < 4) = false := by simp [h6]
    have b6 : decide ((1 : Int) ≤ t.sort ∧ t.sort ≤ 6) = true := by simp [h6]
    have HSH := hide hsh; have HS := hide h6
    clear hsh h1 h2 h3 h4 h5 h6
    go_enter Tryz.func50, Tryz.ntmps50
    go_wp2_with (first
      | (go_at_call 81; refine (l6In_any _ _ _ _).mono ?_; rintro e w' ⟨rfl, rfl⟩)
      | (go_at_call 82; refine (unhide HC _).mono ?_; rintro e w' ⟨rfl, hb'⟩))
    all_goals first
      | (go_ret; exact ⟨rfl, unhide HBX _⟩)
      | (go_ret; exact ⟨rfl, (kbox1 hb').2.2⟩)
      | (exfalso
         have h1 := unhide HSH
         have h2 := unhide HS
         simp [shB, h2] at h1
         simp_all
         done)
      | (exfalso
         have h1 := unhide HSH
         have h2 := unhide HS
         simp [shB, h2] at h1
         simp_all
         omega)
  have b6 : decide ((1 : Int) ≤ t.sort ∧ t.sort ≤ 6) = false := by simp; omega
  clear h1 h2 h3 h4 h5 h6
  go_enter Tryz.func50, Tryz.ntmps50
  go_wp2_with (go_at_call 81; refine (l6In_any _ _ _ _).mono ?_; rintro e w' ⟨rfl, rfl⟩)
  go_ret
  exact ⟨rfl, unhide HBX _⟩

set_option maxHeartbeats 800000 in
theorem l2Parts_leaf (n : Nat) (IH : KPartsSaid n) (t : Kd) (hn : ksz t < n + 1) (P : Nat → Prop) (c : C3) (d : Int) (w : World) (hP : ∀ b, P b → b < w.heap.size) (hrep : KRep P w t c) (hd0 : 1 ≤ d) (hd1 : d ≤ 6) (hsh : shB t = true) (hs : t.sort = 1 ∨ t.sort = 2 ∨ t.sort = 3) :
    Calls Tryz.prog 50 #[.agg #[c.c0, c.c1, c.c2], .int .i64 d] w fun e w' => e = .returned (.int .i64 (qK t.kids d 1)) ∧ Below w.heap.size w w' := by
  obtain ⟨c0, c1, c2⟩ := c
  obtain ⟨e0, -, hns, a, cap, e2, hlen, hks⟩ := hrep.open
  simp only at e0 e2 hns
  have HN := hide hns
  obtain ⟨a3, cap3, e1, hl3, -⟩ := hns
  subst e0 e1 e2
  have HP := hide hP; have HI := hide IH; have HK := hide hks
  clear hrep hP IH hks
  have hbx : ∀ o, Below w.heap.size w (w.alloc o) := fun o => (Below.refl _ _).alloc (Nat.le_refl _) o
  have HBX := hide hbx; clear hbx
  have b1 : (t.sort == 5) = false := by simp; omega
  have b2 : (t.sort != 5) = true := by simp; omega
  have b3 : (t.sort == 4) = false := by simp; omega
  have b4 : (t.sort == 6) = false := by simp; omega
  have b5 : decide (t.sort < 4) = true := by simp; omega
  have b6 : decide ((1 : Int) ≤ t.sort ∧ t.sort ≤ 6) = true := by simp; omega
  have hkn : t.kids.length = 0 ∧ t.names.length = 0 := by
    rw [shB, if_pos hs] at hsh
    exact of_decide_eq_true hsh
  obtain ⟨hkl, hnl⟩ := hkn
  have b7 : decide ((0 : Int) < (t.names.length : Int)) = false := decide_eq_false (by omega)
  have b8 : decide ((0 : Int) < (t.kids.length : Int)) = false := decide_eq_false (by omega)
  have b9 : decide (0 < t.names.length) = false := decide_eq_false (by omega)
  have b10 : decide (0 < t.kids.length) = false := decide_eq_false (by omega)
  clear hs hsh hkl hnl
  go_enter Tryz.func50, Tryz.ntmps50
  go_wp2_with (first
    | (go_at_call 81; refine (l6In_any _ _ _ _).mono ?_; rintro e w' ⟨rfl, rfl⟩))
  generalize hks : t.kids = ks at *
  have HKS := hide hks; clear hks
  go_loopw [6, 7] (fun m i wr => ∃ (k : Nat) (q : Int), k ≤ ks.length ∧ i = .int .i64 k ∧ m = .int .i64 q ∧ 1 ≤ q ∧ q ≤ 40 ∧ Hid (qK (ks.drop k) d q = qK ks d 1) ∧ wr.cell? ⟨w.heap.size, 2, none⟩ = some (.slice a ks.length cap) ∧ w.heap.size < wr.heap.size ∧ Below w.heap.size w wr) (fun _ i _ => ks.length - (intOf i).toNat)
  case atStart => exact ⟨0, 1, Nat.zero_le _, rfl, rfl, by omega, by omega, rfl, (row3_alloc w _ _ _ _).cell (i := 2) (by omega), (row3_alloc w _ _ _ _).lt, unhide HBX _⟩
  case round =>
    obtain ⟨k, q, hk, rfl, rfl, hq0, hq1, HQ, hbox, hbs, hb⟩ := hrel
    by_cases hlt : k < ks.length
    · obtain ⟨b, o, c, rfl, hpb, hcell, hrep⟩ := unhide HK k hlt
      have hcell' := hcell.carry (hb.block b (unhide HP b hpb))
      obtain ⟨c0, c1, c2⟩ := c
      obtain ⟨e0, e1, e2⟩ := hcell'
      simp only at e0 e1 e2
      have hmem : ks[k] ∈ t.kids := by rw [unhide HKS]; exact List.getElem_mem hlt
      have hsm : ksz ks[k] < n := by have := ksz_kid hmem; omega
      have hcall := unhide HI ks[k] hsm P ⟨c0, c1, c2⟩ (d + 1) wr (fun b hb' => Nat.lt_of_lt_of_le (unhide HP b hb') hb.size) (KRep.carry (fun b hb' => hb.block b (unhide HP b hb')) (fun _ h => h) _ _ hrep) (by omega) (by omega)
      have hst := qK_step hlt d q
      have hbd := qT_bd ks[k] (d + 1)
      generalize qT ks[k] (d + 1) = r at hcall hst hbd
      have HCALL := hide hcall; have HST := hide hst
      clear hrep hcell hpb hmem hcall hst
      by_cases hbad : r < 0 ∨ 40 < q + r
      · have hfin : qK ks d 1 = -1 := by rw [← HQ.out, unhide HST, if_pos hbad]
        have HFIN := hide hfin; clear hfin
        rcases hbad with hbad | hbad
        · go_wp2_with (go_at_call 50; refine (unhide HCALL).mono ?_; rintro e w2 ⟨rfl, hb2⟩)
          go_ret
          exact ⟨by rw [unhide HKS, unhide HFIN]; rfl, hb.trans (hb2.mono hb.size)⟩
        · have hr0 : 0 ≤ r := by omega
          go_wp2_with (go_at_call 50; refine (unhide HCALL).mono ?_; rintro e w2 ⟨rfl, hb2⟩)
          go_ret
          exact ⟨by rw [unhide HKS, unhide HFIN]; rfl, hb.trans (hb2.mono hb.size)⟩
      · have hr0 : 0 ≤ r := by omega
        have hr1 : q + r ≤ 40 := by omega
        have hfin : qK (ks.drop (k + 1)) d (q + r) = qK ks d 1 := by rw [← HQ.out, unhide HST, if_neg hbad]
        have HFIN := hide hfin
        clear hfin hbad
        go_wp2_with (go_at_call 50; refine (unhide HCALL).mono ?_; rintro e w2 ⟨rfl, hb2⟩)
        go_roundw
        case rel => exact ⟨k + 1, _, by omega, by go_num, rfl, by omega, by omega, unhide HFIN, by rw [hb2.cell hbs]; exact hbox, Nat.lt_of_lt_of_le hbs hb2.size, hb.trans (hb2.mono hb.size)⟩
        case measure => simp [intOf]; omega
    · go_wp2_with fail
      go_ret
      refine ⟨?_, hb⟩
      rw [unhide HKS, ← HQ.out, List.drop_of_length_le (by omega), qK]
      rfl

set_option maxHeartbeats 800000 in
theorem l2Parts_list (n : Nat) (IH : KPartsSaid n) (t : Kd) (hn : ksz t < n + 1) (P : Nat → Prop) (c : C3) (d : Int) (w : World) (hP : ∀ b, P b → b < w.heap.size) (hrep : KRep P w t c) (hd0 : 1 ≤ d) (hd1 : d ≤ 6) (hsh : shB t = true) (hs : t.sort = 4) :
    Calls Tryz.prog 50 #[.agg #[c.c0, c.c1, c.c2], .int .i64 d] w fun e w' => e = .returned (.int .i64 (qK t.kids d 1)) ∧ Below w.heap.size w w' := by
  obtain ⟨c0, c1, c2⟩ := c
  obtain ⟨e0, -, hns, a, cap, e2, hlen, hks⟩ := hrep.open
  simp only at e0 e2 hns
  have HN := hide hns
  obtain ⟨a3, cap3, e1, hl3, -⟩ := hns
  subst e0 e1 e2
  have HP := hide hP; have HI := hide IH; have HK := hide hks
  clear hrep hP IH hks
  have hbx : ∀ o, Below w.heap.size w (w.alloc o) := fun o => (Below.refl _ _).alloc (Nat.le_refl _) o
  have HBX := hide hbx; clear hbx
  have b1 : (t.sort == 5) = false := by simp [hs]
  have b2 : (t.sort != 5) = true := by simp [hs]
  have b3 : (t.sort == 4) = true := by simp [hs]
  have b4 : (t.sort == 6) = false := by simp [hs]
  have b5 : decide (t.sort < 4) = false := by simp [hs]
  have b6 : decide ((1 : Int) ≤ t.sort ∧ t.sort ≤ 6) = true := by simp [hs]
  have hkn : t.kids.length = 1 ∧ t.names.length = 0 := by
    rw [shB, if_neg (by omega), if_pos (by omega)] at hsh
    exact of_decide_eq_true hsh
  obtain ⟨hkl, hnl⟩ := hkn
  have b7 : decide ((0 : Int) < (t.names.length : Int)) = false := decide_eq_false (by omega)
  have b9 : decide (0 < t.names.length) = false := decide_eq_false (by omega)
  have b8 : ((t.kids.length : Int) != 1) = false := by simp; omega
  clear hs hsh hkl hnl
  go_enter Tryz.func50, Tryz.ntmps50
  go_wp2_with (first
    | (go_at_call 81; refine (l6In_any _ _ _ _).mono ?_; rintro e w' ⟨rfl, rfl⟩))
  generalize hks : t.kids = ks at *
  have HKS := hide hks; clear hks
  go_loopw [6, 7] (fun m i wr => ∃ (k : Nat) (q : Int), k ≤ ks.length ∧ i = .int .i64 k ∧ m = .int .i64 q ∧ 1 ≤ q ∧ q ≤ 40 ∧ Hid (qK (ks.drop k) d q = qK ks d 1) ∧ wr.cell? ⟨w.heap.size, 2, none⟩ = some (.slice a ks.length cap) ∧ w.heap.size < wr.heap.size ∧ Below w.heap.size w wr) (fun _ i _ => ks.length - (intOf i).toNat)
  case atStart => exact ⟨0, 1, Nat.zero_le _, rfl, rfl, by omega, by omega, rfl, (row3_alloc w _ _ _ _).cell (i := 2) (by omega), (row3_alloc w _ _ _ _).lt, unhide HBX _⟩
  case round =>
    obtain ⟨k, q, hk, rfl, rfl, hq0, hq1, HQ, hbox, hbs, hb⟩ := hrel
    by_cases hlt : k < ks.length
    · obtain ⟨b, o, c, rfl, hpb, hcell, hrep⟩ := unhide HK k hlt
      have hcell' := hcell.carry (hb.block b (unhide HP b hpb))
      obtain ⟨c0, c1, c2⟩ := c
      obtain ⟨e0, e1, e2⟩ := hcell'
      simp only at e0 e1 e2
      have hmem : ks[k] ∈ t.kids := by rw [unhide HKS]; exact List.getElem_mem hlt
      have hsm : ksz ks[k] < n := by have := ksz_kid hmem; omega
      have hcall := unhide HI ks[k] hsm P ⟨c0, c1, c2⟩ (d + 1) wr (fun b hb' => Nat.lt_of_lt_of_le (unhide HP b hb') hb.size) (KRep.carry (fun b hb' => hb.block b (unhide HP b hb')) (fun _ h => h) _ _ hrep) (by omega) (by omega)
      have hst := qK_step hlt d q
      have hbd := qT_bd ks[k] (d + 1)
      generalize qT ks[k] (d + 1) = r at hcall hst hbd
      have HCALL := hide hcall; have HST := hide hst
      clear hrep hcell hpb hmem hcall hst
      by_cases hbad : r < 0 ∨ 40 < q + r
      · have hfin : qK ks d 1 = -1 := by rw [← HQ.out, unhide HST, if_pos hbad]
        have HFIN := hide hfin; clear hfin
        rcases hbad with hbad | hbad
        · go_wp2_with (go_at_call 50; refine (unhide HCALL).mono ?_; rintro e w2 ⟨rfl, hb2⟩)
          go_ret
          exact ⟨by rw [unhide HKS, unhide HFIN]; rfl, hb.trans (hb2.mono hb.size)⟩
        · have hr0 : 0 ≤ r := by omega
          go_wp2_with (go_at_call 50; refine (unhide HCALL).mono ?_; rintro e w2 ⟨rfl, hb2⟩)
          go_ret
          exact ⟨by rw [unhide HKS, unhide HFIN]; rfl, hb.trans (hb2.mono hb.size)⟩
      · have hr0 : 0 ≤ r := by omega
        have hr1 : q + r ≤ 40 := by omega
        have hfin : qK (ks.drop (k + 1)) d (q + r) = qK ks d 1 := by rw [← HQ.out, unhide HST, if_neg hbad]
        have HFIN := hide hfin
        clear hfin hbad
        go_wp2_with (go_at_call 50; refine (unhide HCALL).mono ?_; rintro e w2 ⟨rfl, hb2⟩)
        go_roundw
        case rel => exact ⟨k + 1, _, by omega, by go_num, rfl, by omega, by omega, unhide HFIN, by rw [hb2.cell hbs]; exact hbox, Nat.lt_of_lt_of_le hbs hb2.size, hb.trans (hb2.mono hb.size)⟩
        case measure => simp [intOf]; omega
    · go_wp2_with fail
      go_ret
      refine ⟨?_, hb⟩
      rw [unhide HKS, ← HQ.out, List.drop_of_length_le (by omega), qK]
      rfl

set_option maxHeartbeats 800000 in
theorem l2Parts_maybe (n : Nat) (IH : KPartsSaid n) (t : Kd) (hn : ksz t < n + 1) (P : Nat → Prop) (c : C3) (d : Int) (w : World) (hP : ∀ b, P b → b < w.heap.size) (hrep : KRep P w t c) (hd0 : 1 ≤ d) (hd1 : d ≤ 6) (hsh : shB t = true) (hs : t.sort = 6) :
    Calls Tryz.prog 50 #[.agg #[c.c0, c.c1, c.c2], .int .i64 d] w fun e w' => e = .returned (.int .i64 (qK t.kids d 1)) ∧ Below w.heap.size w w' := by
  obtain ⟨c0, c1, c2⟩ := c
  obtain ⟨e0, -, hns, a, cap, e2, hlen, hks⟩ := hrep.open
  simp only at e0 e2 hns
  have HN := hide hns
  obtain ⟨a3, cap3, e1, hl3, -⟩ := hns
  subst e0 e1 e2
  have HP := hide hP; have HI := hide IH; have HK := hide hks
  clear hrep hP IH hks
  have hbx : ∀ o, Below w.heap.size w (w.alloc o) := fun o => (Below.refl _ _).alloc (Nat.le_refl _) o
  have HBX := hide hbx; clear hbx
  have b1 : (t.sort == 5) = false := by simp [hs]
  have b2 : (t.sort != 5) = true := by simp [hs]
  have b3 : (t.sort == 4) = false := by simp [hs]
  have b4 : (t.sort == 6) = true := by simp [hs]
  have b5 : decide (t.sort < 4) = false := by simp [hs]
  have b6 : decide ((1 : Int) ≤ t.sort ∧ t.sort ≤ 6) = true := by simp [hs]
  have hkn : t.kids.length = 1 ∧ t.names.length = 0 := by
    rw [shB, if_neg (by omega), if_pos (by omega)] at hsh
    exact of_decide_eq_true hsh
  obtain ⟨hkl, hnl⟩ := hkn
  have b7 : decide ((0 : Int) < (t.names.length : Int)) = false := decide_eq_false (by omega)
  have b9 : decide (0 < t.names.length) = false := decide_eq_false (by omega)
  have b8 : ((t.kids.length : Int) != 1) = false := by simp; omega
  clear hs hsh hkl hnl
  go_enter Tryz.func50, Tryz.ntmps50
  go_wp2_with (first
    | (go_at_call 81; refine (l6In_any _ _ _ _).mono ?_; rintro e w' ⟨rfl, rfl⟩))
  generalize hks : t.kids = ks at *
  have HKS := hide hks; clear hks
  go_loopw [6, 7] (fun m i wr => ∃ (k : Nat) (q : Int), k ≤ ks.length ∧ i = .int .i64 k ∧ m = .int .i64 q ∧ 1 ≤ q ∧ q ≤ 40 ∧ Hid (qK (ks.drop k) d q = qK ks d 1) ∧ wr.cell? ⟨w.heap.size, 2, none⟩ = some (.slice a ks.length cap) ∧ w.heap.size < wr.heap.size ∧ Below w.heap.size w wr) (fun _ i _ => ks.length - (intOf i).toNat)
  case atStart => exact ⟨0, 1, Nat.zero_le _, rfl, rfl, by omega, by omega, rfl, (row3_alloc w _ _ _ _).cell (i := 2) (by omega), (row3_alloc w _ _ _ _).lt, unhide HBX _⟩
  case round =>
    obtain ⟨k, q, hk, rfl, rfl, hq0, hq1, HQ, hbox, hbs, hb⟩ := hrel
    by_cases hlt : k < ks.length
    · obtain ⟨b, o, c, rfl, hpb, hcell, hrep⟩ := unhide HK k hlt
      have hcell' := hcell.carry (hb.block b (unhide HP b hpb))
      obtain ⟨c0, c1, c2⟩ := c
      obtain ⟨e0, e1, e2⟩ := hcell'
      simp only at e0 e1 e2
      have hmem : ks[k] ∈ t.kids := by rw [unhide HKS]; exact List.getElem_mem hlt
      have hsm : ksz ks[k] < n := by have := ksz_kid hmem; omega
      have hcall := unhide HI ks[k] hsm P ⟨c0, c1, c2⟩ (d + 1) wr (fun b hb' => Nat.lt_of_lt_of_le (unhide HP b hb') hb.size) (KRep.carry (fun b hb' => hb.block b (unhide HP b hb')) (fun _ h => h) _ _ hrep) (by omega) (by omega)
      have hst := qK_step hlt d q
      have hbd := qT_bd ks[k] (d + 1)
      generalize qT ks[k] (d + 1) = r at hcall hst hbd
      have HCALL := hide hcall; have HST := hide hst
      clear hrep hcell hpb hmem hcall hst
      by_cases hbad : r < 0 ∨ 40 < q + r
      · have hfin : qK ks d 1 = -1 := by rw [← HQ.out, unhide HST, if_pos hbad]
        have HFIN := hide hfin; clear hfin
        rcases hbad with hbad | hbad
        · go_wp2_with (go_at_call 50; refine (unhide HCALL).mono ?_; rintro e w2 ⟨rfl, hb2⟩)
          go_ret
          exact ⟨by rw [unhide HKS, unhide HFIN]; rfl, hb.trans (hb2.mono hb.size)⟩
        · have hr0 : 0 ≤ r := by omega
          go_wp2_with (go_at_call 50; refine (unhide HCALL).mono ?_; rintro e w2 ⟨rfl, hb2⟩)
          go_ret
          exact ⟨by rw [unhide HKS, unhide HFIN]; rfl, hb.trans (hb2.mono hb.size)⟩
      · have hr0 : 0 ≤ r := by omega
        have hr1 : q + r ≤ 40 := by omega
        have hfin : qK (ks.drop (k + 1)) d (q + r) = qK ks d 1 := by rw [← HQ.out, unhide HST, if_neg hbad]
        have HFIN := hide hfin
        clear hfin hbad
        go_wp2_with (go_at_call 50; refine (unhide HCALL).mono ?_; rintro e w2 ⟨rfl, hb2⟩)
        go_roundw
        case rel => exact ⟨k + 1, _, by omega, by go_num, rfl, by omega, by omega, unhide HFIN, by rw [hb2.cell hbs]; exact hbox, Nat.lt_of_lt_of_le hbs hb2.size, hb.trans (hb2.mono hb.size)⟩
        case measure => simp [intOf]; omega
    · go_wp2_with fail
      go_ret
      refine ⟨?_, hb⟩
      rw [unhide HKS, ← HQ.out, List.drop_of_length_le (by omega), qK]
      rfl

set_option maxHeartbeats 800000 in
theorem l2Parts_form (n : Nat) (IH : KPartsSaid n) (t : Kd) (hn : ksz t < n + 1) (P : Nat → Prop) (c : C3) (d : Int) (w : World) (hP : ∀ b, P b → b < w.heap.size) (hrep : KRep P w t c) (hd0 : 1 ≤ d) (hd1 : d ≤ 6) (hsh : shB t = true) (hs : t.sort = 5) :
    Calls Tryz.prog 50 #[.agg #[c.c0, c.c1, c.c2], .int .i64 d] w fun e w' => e = .returned (.int .i64 (qK t.kids d 1)) ∧ Below w.heap.size w w' := by
  obtain ⟨c0, c1, c2⟩ := c
  obtain ⟨e0, -, hns, a, cap, e2, hlen, hks⟩ := hrep.open
  simp only at e0 e2 hns
  have HN := hide hns
  obtain ⟨a3, cap3, e1, hl3, -⟩ := hns
  subst e0 e1 e2
  have HP := hide hP; have HI := hide IH; have HK := hide hks
  clear hrep hP IH hks
  have hbx : ∀ o, Below w.heap.size w (w.alloc o) := fun o => (Below.refl _ _).alloc (Nat.le_refl _) o
  have HBX := hide hbx; clear hbx
  have b1 : (t.sort == 5) = true := by simp [hs]
  have b2 : (t.sort != 5) = false := by simp [hs]
  have b3 : (t.sort == 4) = false := by simp [hs]
  have b4 : (t.sort == 6) = false := by simp [hs]
  have b5 : decide (t.sort < 4) = false := by simp [hs]
  have b6 : decide ((1 : Int) ≤ t.sort ∧ t.sort ≤ 6) = true := by simp [hs]
  have hkn : t.kids.length = t.names.length ∧ riseB t.names = true := by
    simpa [shB, hs] using hsh
  obtain ⟨hkl, hri⟩ := hkn
  have b8 : ((t.names.length : Int) != (t.kids.length : Int)) = false := by simp; omega
  have hcall : ∀ o, Calls Tryz.prog 82 #[.slice a3 t.names.length cap3] (w.alloc o) fun e w' => e = .returned (.bool true) ∧ Below (w.alloc o).heap.size (w.alloc o) w' := fun o => by
    have := l1Rise_any _ t.names (w.alloc o) (P := P) (fun b hb => Nat.lt_of_lt_of_le (unhide HP b hb) (unhide HBX o).size) ((unhide HN).carry (fun b hb => (unhide HBX o).block b (unhide HP b hb)) (fun _ h => h))
    rw [hri] at this
    exact this
  have HC := hide hcall; clear hcall
  clear hs hsh hkl hri
  go_enter Tryz.func50, Tryz.ntmps50
  go_wp2_with (first
    | (go_at_call 81; refine (l6In_any _ _ _ _).mono ?_; rintro e w' ⟨rfl, rfl⟩)
    | (go_at_call 82
       refine (unhide HC _).mono ?_
       rintro e w' ⟨rfl, hb'⟩
       obtain ⟨q0, -, hb0⟩ := kbox1 hb'
       have k0 := q0.cell (i := 0) (by omega)
       have k1 := q0.cell (i := 1) (by omega)
       have k2 := q0.cell (i := 2) (by omega)
       simp only [row3] at k0 k1 k2
       have Q0 := hide q0; have HB0 := hide hb0
       clear q0 hb0 hb'))
  generalize hks : t.kids = ks at *
  have HKS := hide hks; clear hks
  go_loopw [6, 7] (fun m i wr => ∃ (k : Nat) (q : Int), k ≤ ks.length ∧ i = .int .i64 k ∧ m = .int .i64 q ∧ 1 ≤ q ∧ q ≤ 40 ∧ Hid (qK (ks.drop k) d q = qK ks d 1) ∧ wr.cell? ⟨w.heap.size, 2, none⟩ = some (.slice a ks.length cap) ∧ w.heap.size < wr.heap.size ∧ Below w.heap.size w wr) (fun _ i _ => ks.length - (intOf i).toNat)
  case atStart => exact ⟨0, 1, Nat.zero_le _, rfl, rfl, by omega, by omega, rfl, k2, (unhide Q0).lt, unhide HB0⟩
  case round =>
    obtain ⟨k, q, hk, rfl, rfl, hq0, hq1, HQ, hbox, hbs, hb⟩ := hrel
    by_cases hlt : k < ks.length
    · obtain ⟨b, o, c, rfl, hpb, hcell, hrep⟩ := unhide HK k hlt
      have hcell' := hcell.carry (hb.block b (unhide HP b hpb))
      obtain ⟨c0, c1, c2⟩ := c
      obtain ⟨e0, e1, e2⟩ := hcell'
      simp only at e0 e1 e2
      have hmem : ks[k] ∈ t.kids := by rw [unhide HKS]; exact List.getElem_mem hlt
      have hsm : ksz ks[k] < n := by have := ksz_kid hmem; omega
      have hcall := unhide HI ks[k] hsm P ⟨c0, c1, c2⟩ (d + 1) wr (fun b hb' => Nat.lt_of_lt_of_le (unhide HP b hb') hb.size) (KRep.carry (fun b hb' => hb.block b (unhide HP b hb')) (fun _ h => h) _ _ hrep) (by omega) (by omega)
      have hst := qK_step hlt d q
      have hbd := qT_bd ks[k] (d + 1)
      generalize qT ks[k] (d + 1) = r at hcall hst hbd
      have HCALL := hide hcall; have HST := hide hst
      clear hrep hcell hpb hmem hcall hst
      by_cases hbad : r < 0 ∨ 40 < q + r
      · have hfin : qK ks d 1 = -1 := by rw [← HQ.out, unhide HST, if_pos hbad]
        have HFIN := hide hfin; clear hfin
        rcases hbad with hbad | hbad
        · go_wp2_with (go_at_call 50; refine (unhide HCALL).mono ?_; rintro e w2 ⟨rfl, hb2⟩)
          go_ret
          exact ⟨by rw [unhide HKS, unhide HFIN]; rfl, hb.trans (hb2.mono hb.size)⟩
        · have hr0 : 0 ≤ r := by omega
          go_wp2_with (go_at_call 50; refine (unhide HCALL).mono ?_; rintro e w2 ⟨rfl, hb2⟩)
          go_ret
          exact ⟨by rw [unhide HKS, unhide HFIN]; rfl, hb.trans (hb2.mono hb.size)⟩
      · have hr0 : 0 ≤ r := by omega
        have hr1 : q + r ≤ 40 := by omega
        have hfin : qK (ks.drop (k + 1)) d (q + r) = qK ks d 1 := by rw [← HQ.out, unhide HST, if_neg hbad]
        have HFIN := hide hfin
        clear hfin hbad
        go_wp2_with (go_at_call 50; refine (unhide HCALL).mono ?_; rintro e w2 ⟨rfl, hb2⟩)
        go_roundw
        case rel => exact ⟨k + 1, _, by omega, by go_num, rfl, by omega, by omega, unhide HFIN, by rw [hb2.cell hbs]; exact hbox, Nat.lt_of_lt_of_le hbs hb2.size, hb.trans (hb2.mono hb.size)⟩
        case measure => simp [intOf]; omega
    · go_wp2_with fail
      go_ret
      refine ⟨?_, hb⟩
      rw [unhide HKS, ← HQ.out, List.drop_of_length_le (by omega), qK]
      rfl

theorem l2Parts_step (n : Nat) (IH : KPartsSaid n) : KPartsSaid (n + 1) := by
  intro t hn P c d w hP hrep hd0 hd1
  rw [qT_eq]
  by_cases hno : 6 < d ∨ shB t = false
  · rw [if_pos hno]; exact l2Parts_no t P c d w hP hrep hno
  · rw [if_neg hno]
    have hd6 : d ≤ 6 := by omega
    have hsh : shB t = true := by
      cases h : shB t
      · exact absurd (Or.inr h) hno
      · rfl
    by_cases h4 : t.sort = 4
    · exact l2Parts_list n IH t hn P c d w hP hrep hd0 hd6 hsh h4
    by_cases h6 : t.sort = 6
    · exact l2Parts_maybe n IH t hn P c d w hP hrep hd0 hd6 hsh h6
    by_cases h5 : t.sort = 5
    · exact l2Parts_form n IH t hn P c d w hP hrep hd0 hd6 hsh h5
    by_cases hl : t.sort = 1 ∨ t.sort = 2 ∨ t.sort = 3
    · exact l2Parts_leaf n IH t hn P c d w hP hrep hd0 hd6 hsh hl
    · rw [shB, if_neg hl, if_neg (by omega), if_neg h5] at hsh
      cases hsh

theorem l2Parts_all : ∀ n, KPartsSaid n
  | 0 => fun t h => by omega
  | n + 1 => l2Parts_step n (l2Parts_all n)

set_option maxHeartbeats 400000 in
theorem specKindOk_any (t : Kd) (P : Nat → Prop) (c : C3) (w : World) (hP : ∀ b, P b → b < w.heap.size) (hrep : KRep P w t c) :
    Calls Tryz.prog 24 #[.agg #[c.c0, c.c1, c.c2]] w fun e w' => e = .returned (.bool (decide (0 < qT t 1))) ∧ Below w.heap.size w w' := by
  have hbx : ∀ o, Below w.heap.size w (w.alloc o) := fun o => (Below.refl _ _).alloc (Nat.le_refl _) o
  have hcall : ∀ o, Calls Tryz.prog 50 #[.agg #[c.c0, c.c1, c.c2], .int .i64 1] (w.alloc o) fun e w' => e = .returned (.int .i64 (qT t 1)) ∧ Below w.heap.size w w' := fun o =>
    (l2Parts_all (ksz t + 1) t (by omega) P c 1 (w.alloc o) (fun b hb => Nat.lt_of_lt_of_le (hP b hb) (hbx o).size) (KRep.carry (fun b hb => (hbx o).block b (hP b hb)) (fun _ h => h) _ _ hrep) (by omega) (by omega)).mono
      fun e w' ⟨h1, h2⟩ => ⟨h1, (hbx o).trans (h2.mono (hbx o).size)⟩
  generalize qT t 1 = r at *
  have HCALL := hide hcall
  clear hbx hcall hP hrep
  go_enter Tryz.func24, Tryz.ntmps24
  go_wp2_with (go_at_call 50; refine (unhide HCALL _).mono ?_; rintro e w2 ⟨rfl, hb2⟩)
  go_ret
  exact ⟨rfl, hb2⟩

end Go.Proofs.YtcpfelaffclalaaGreatDoor

/- The walks of the specification's l3Kid, l3Fits, KindFits: whether a schema fits into another one; of what was there nothing has turned. No conditions. -/

namespace Go.Proofs.YtcpfelaffclalaaGreatDoor
open Go Go.RowKit

/-- What l3Kid gives: the schema of a name, where it lies. -/
def KdG (P : Nat → Prop) (w : World) (k : Kd) (nm : ByteArray) (y0 y1 y2 : Value) (ok : Bool) : Prop :=
  (∃ (x : Kd) (a1 a2 : Option Addr) (p1 p2 : Nat), ok = true ∧ kidN k nm = some x ∧ x ∈ k.kids ∧ y0 = .int .i64 x.sort ∧ y1 = .slice a1 x.names.length p1 ∧ y2 = .slice a2 x.kids.length p2 ∧ KRep P w x ⟨.int .i64 x.sort, .slice a1 x.names.length p1, .slice a2 x.kids.length p2⟩) ∨
  (ok = false ∧ kidN k nm = none ∧ y0 = .int .i64 0 ∧ y1 = .slice none 0 0 ∧ y2 = .slice none 0 0)
theorem KdG.one {P : Nat → Prop} {w : World} {k : Kd} {nm : ByteArray} (y0 y1 y2 : Value) (ok : Bool) (h : KdG P w k nm y0 y1 y2 ok) : (#[y0, y1, y2] : Array Value).all (·.oneCell') = true := by
  rw [← Array.all_toList]
  rcases h with ⟨x, a1, a2, p1, p2, -, -, -, rfl, rfl, rfl, -⟩ | ⟨-, -, rfl, rfl, rfl⟩ <;> rfl
set_option maxRecDepth 100000 in
set_option maxHeartbeats 1600000 in
theorem l3Kid_any (k : Kd) (P : Nat → Prop) (c : C3) (w0 w : World) (hP : ∀ b, P b → b < w0.heap.size) (hrep : KRep P w0 k c) (hl : k.kids.length = k.names.length) (nm : ByteArray) (hb0 : Below w0.heap.size w0 w) :
    Calls Tryz.prog 51 #[.agg #[c.c0, c.c1, c.c2], .string nm] w fun e w' => Below w.heap.size w w' ∧ ∃ y0 y1 y2 ok, e = .returned (.tuple #[.agg #[y0, y1, y2], .bool ok]) ∧ KdG P w0 k nm y0 y1 y2 ok := by
  obtain ⟨c0, c1, c2⟩ := c
  obtain ⟨e0, -, ⟨a3, cap3, e1, hl3, hnc⟩, a, cap, e2, hlk, hks⟩ := hrep.open
  simp only at e0 e1 e2
  subst e0 e1 e2
  have hbx : ∀ o1 o2, Below w.heap.size w ((w.alloc o1).alloc o2) := fun o1 o2 => ((Below.refl _ _).alloc (Nat.le_refl _) o1).alloc (by simp) o2
  have hrk := (row3_alloc w (.int .i64 k.sort) (.slice a3 k.names.length cap3) (.slice a k.kids.length cap) 30).alloc (.cells #[.int .i64 0, .slice none 0 0, .slice none 0 0] 30)
  have hrz := row3_alloc (w.alloc (.cells #[.int .i64 k.sort, .slice a3 k.names.length cap3, .slice a k.kids.length cap] 30)) (.int .i64 0) (.slice none 0 0) (.slice none 0 0) 30
  rw [World.size_alloc] at hrz
  have hbw := hbx (.cells #[.int .i64 k.sort, .slice a3 k.names.length cap3, .slice a k.kids.length cap] 30) (.cells #[.int .i64 0, .slice none 0 0, .slice none 0 0] 30)
  have hs2 : ((w.alloc (.cells #[.int .i64 k.sort, .slice a3 k.names.length cap3, .slice a k.kids.length cap] 30)).alloc (.cells #[.int .i64 0, .slice none 0 0, .slice none 0 0] 30)).heap.size = w.heap.size + 2 := by simp
  have HNC := hide hnc; have HKS := hide hks; have HP := hide hP; have HB0 := hide hb0; have HL := hide hl
  clear hnc hks hP hb0 hrep hbx hl
  go_enter Tryz.func51, Tryz.ntmps51
  go_wp2_with fail
  generalize ((w.alloc (.cells #[.int .i64 k.sort, .slice a3 k.names.length cap3, .slice a k.kids.length cap] 30)).alloc (.cells #[.int .i64 0, .slice none 0 0, .slice none 0 0] 30)) = W0 at hrk hrz hbw hs2 ⊢
  have HRK := hide hrk; have HRZ := hide hrz; have HBW := hide hbw; have HS2 := hide hs2
  have m0 := hrz.cell (i := 0) (by omega); have m1 := hrz.cell (i := 1) (by omega); have m2 := hrz.cell (i := 2) (by omega); have mf := hrz.frozen
  have k1 := hrk.cell (i := 1) (by omega); have k2 := hrk.cell (i := 2) (by omega)
  simp only [row3] at m0 m1 m2 k1 k2
  clear hrk hrz hbw hs2
  go_loopw [6] (fun vi wr => ∃ (j : Nat), j ≤ k.names.length ∧ vi = .int .i64 j ∧ Hid (∀ x, (hx : x < j) → (h : x < k.names.length) → k.names[x] ≠ nm) ∧ wr = W0) (fun vi _ => k.names.length - (intOf vi).toNat)
  case atStart => exact ⟨0, Nat.zero_le _, rfl, fun x hx => by omega, rfl⟩
  case round =>
    obtain ⟨j, hj, rfl, HE, rfl⟩ := hrel
    by_cases hlt : j < k.names.length
    · obtain ⟨nb, no, rfl, hpn, hcn, -⟩ := unhide HNC j hlt
      have en : wr.cell? ⟨nb, no + j, none⟩ = some (.string k.names[j]) := by rw [(unhide HBW).cell (Nat.lt_of_lt_of_le (unhide HP nb hpn) (unhide HB0).size), (unhide HB0).cell (unhide HP nb hpn)]; exact hcn
      by_cases hne : k.names[j] = nm
      · have hlt2 : j < k.kids.length := by rw [unhide HL]; exact hlt
        have hkn := kidN_some hlt hlt2 hne (fun x hx => unhide HE x hx (by omega))
        obtain ⟨zb, zo, ⟨z0, z1, z2⟩, rfl, hpz, hcz, hrz⟩ := unhide HKS j hlt2
        have hcz' := (hcz.carry ((unhide HB0).block zb (unhide HP zb hpz))).carry ((unhide HBW).block zb (Nat.lt_of_lt_of_le (unhide HP zb hpz) (unhide HB0).size))
        obtain ⟨f0, -, ⟨a9, cap9, f1, -⟩, b9, cbp9, f2, -⟩ := hrz.open
        simp only at f0 f1 f2
        subst f0 f1 f2
        obtain ⟨y0, y1, y2⟩ := hcz'
        simp only at y0 y1 y2
        have hG : KdG P w0 k nm (.int .i64 k.kids[j].sort) (.slice a9 k.kids[j].names.length cap9) (.slice b9 k.kids[j].kids.length cbp9) true := Or.inl ⟨k.kids[j], a9, b9, cap9, cbp9, rfl, hkn, List.getElem_mem _, rfl, rfl, rfl, hrz⟩
        have HG := hide hG
        rw [hne] at en
        have hzl : zb < w.heap.size := Nat.lt_of_lt_of_le (unhide HP zb hpz) (unhide HB0).size
        have hne1 : zb ≠ w.heap.size + 1 := by omega
        have hne2 : w.heap.size + 1 ≠ zb := by omega
        have hjj : j * 3 + 1 = j * 3 + 1 := rfl
        generalize k.kids[j] = x at *
        clear hcn hpn hne hkn hcz hrz hG hjj
        go_wp2_with fail
        refine bodyPost_ret (v := .tuple #[.agg #[.int .i64 x.sort, .slice a9 x.names.length cap9, .slice b9 x.kids.length cbp9], .bool true]) (by simp [results, Tryz.results51, go_sem, m0, m1, m2]) rfl ?_
        exact ⟨(((unhide HBW).setCell (by simp) _).setCell (by simp) _).setCell (by simp) _, _, _, _, _, rfl, unhide HG⟩
      · have HE2 : Hid (∀ x, (hx : x < j + 1) → (h : x < k.names.length) → k.names[x] ≠ nm) := fun x hx h => by
          by_cases e : x = j
          · subst e; exact hne
          · exact unhide HE x (by omega) h
        have hnb : (k.names[j].toList == nm.toList) = false := by rw [lst_beq]; exact decide_eq_false hne
        generalize k.names[j] = nm2 at *
        clear hcn hpn hne
        go_wp2_with fail
        go_roundw
        case rel => exact ⟨j + 1, by omega, by go_num, HE2, by first | rfl | trivial⟩
        case measure => simp [intOf]; omega
    · have hkn : kidN k nm = none := kidN_none (fun hm => by
        obtain ⟨i, hi, e⟩ := List.mem_iff_getElem.1 hm
        exact unhide HE i (by omega) hi e)
      have HG : Hid (KdG P w0 k nm (.int .i64 0) (.slice none 0 0) (.slice none 0 0) false) := Or.inr ⟨rfl, hkn, rfl, rfl, rfl⟩
      obtain rfl : j = k.names.length := by omega
      clear hkn
      go_wp2_with fail
      refine bodyPost_ret (v := .tuple #[.agg #[.int .i64 0, .slice none 0 0, .slice none 0 0], .bool false]) (by simp [results, Tryz.results51, go_sem, m0, m1, m2]) rfl ?_
      exact ⟨(((unhide HBW).setCell (by simp) _).setCell (by simp) _).setCell (by simp) _, _, _, _, _, rfl, unhide HG⟩
end Go.Proofs.YtcpfelaffclalaaGreatDoor
