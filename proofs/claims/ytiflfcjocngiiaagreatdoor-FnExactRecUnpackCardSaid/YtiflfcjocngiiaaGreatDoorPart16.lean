/- The walk of the specification's l1Alone: it answers whether a tree is ok but for its kids. No conditions. -/
import Derived.Test.YtiflfcjocngiiaaGreatDoorPart15
import Derived.Test.YtiflfcjocngiiaaGreatDoorPart10
import Derived.Test.YtiflfcjocngiiaaGreatDoorPart03
namespace Go.Proofs.YtiflfcjocngiiaaGreatDoor
open Go Go.RowKit

set_option maxHeartbeats 800000 in
theorem l1Alone_1 (t : Tr) (P : Nat → Prop) (c : C5) (w : World) (hP : ∀ b, P b → b < w.heap.size) (hrep : Rep P w t c) (hs : t.sort = 1) :
    Calls Tryz.prog 63 #[.agg #[c.c0, c.c1, c.c2, c.c3, c.c4]] w fun e w' => e = .returned (.bool (aloneB t)) ∧ Below w.heap.size w w' := by
  obtain ⟨c0, c1, c2, c3, c4⟩ := c
  obtain ⟨e0, e1, e2, -, -, htx, hns, a, cap, e4, hlen, -⟩ := hrep.open
  simp only at e0 e1 e2 e4 hns
  have HN := hide hns
  obtain ⟨a3, cap3, e3, hl3, -⟩ := hns
  subst e0 e1 e2 e3 e4
  clear hrep
  have HP := hide hP; clear hP
  have hbx : ∀ o, Below w.heap.size w (w.alloc o) := fun o => (Below.refl _ _).alloc (Nat.le_refl _) o
  have HBX := hide hbx; clear hbx
  go_enter Tryz.func63, Tryz.ntmps63
  go_wp2_with (first
    | (go_at_call 42; refine (l6In_any _ _ _ _).mono ?_; rintro e w' ⟨rfl, rfl⟩)
    | (go_at_call 72; refine (l1TextOk_any _ _ htx).mono ?_; rintro e w' ⟨rfl, rfl⟩))
  all_goals
    go_ret
    refine ⟨ret_bool ?_, unhide HBX _⟩
    try simp_all [aloneB]
  all_goals first | (rw [Bool.eq_iff_iff]; simp; done) | (intros; omega)
set_option maxHeartbeats 800000 in
theorem l1Alone_2 (t : Tr) (P : Nat → Prop) (c : C5) (w : World) (hP : ∀ b, P b → b < w.heap.size) (hrep : Rep P w t c) (hs : t.sort = 2) :
    Calls Tryz.prog 63 #[.agg #[c.c0, c.c1, c.c2, c.c3, c.c4]] w fun e w' => e = .returned (.bool (aloneB t)) ∧ Below w.heap.size w w' := by
  obtain ⟨c0, c1, c2, c3, c4⟩ := c
  obtain ⟨e0, e1, e2, -, -, htx, hns, a, cap, e4, hlen, -⟩ := hrep.open
  simp only at e0 e1 e2 e4 hns
  have HN := hide hns
  obtain ⟨a3, cap3, e3, hl3, -⟩ := hns
  subst e0 e1 e2 e3 e4
  clear hrep
  have HP := hide hP; clear hP
  have hbx : ∀ o, Below w.heap.size w (w.alloc o) := fun o => (Below.refl _ _).alloc (Nat.le_refl _) o
  have HBX := hide hbx; clear hbx
  go_enter Tryz.func63, Tryz.ntmps63
  go_wp2_with (first
    | (go_at_call 42; refine (l6In_any _ _ _ _).mono ?_; rintro e w' ⟨rfl, rfl⟩)
    | (go_at_call 72; refine (l1TextOk_any _ _ htx).mono ?_; rintro e w' ⟨rfl, rfl⟩))
  all_goals
    go_ret
    refine ⟨ret_bool ?_, unhide HBX _⟩
    try simp_all [aloneB]
  all_goals first | (rw [Bool.eq_iff_iff]; simp; done) | (intros; omega)
set_option maxHeartbeats 800000 in
theorem l1Alone_3 (t : Tr) (P : Nat → Prop) (c : C5) (w : World) (hP : ∀ b, P b → b < w.heap.size) (hrep : Rep P w t c) (hs : t.sort = 3) :
    Calls Tryz.prog 63 #[.agg #[c.c0, c.c1, c.c2, c.c3, c.c4]] w fun e w' => e = .returned (.bool (aloneB t)) ∧ Below w.heap.size w w' := by
  obtain ⟨c0, c1, c2, c3, c4⟩ := c
  obtain ⟨e0, e1, e2, -, -, htx, hns, a, cap, e4, hlen, -⟩ := hrep.open
  simp only at e0 e1 e2 e4 hns
  have HN := hide hns
  obtain ⟨a3, cap3, e3, hl3, -⟩ := hns
  subst e0 e1 e2 e3 e4
  clear hrep
  have HP := hide hP; clear hP
  have hbx : ∀ o, Below w.heap.size w (w.alloc o) := fun o => (Below.refl _ _).alloc (Nat.le_refl _) o
  have HBX := hide hbx; clear hbx
  go_enter Tryz.func63, Tryz.ntmps63
  go_wp2_with (first
    | (go_at_call 42; refine (l6In_any _ _ _ _).mono ?_; rintro e w' ⟨rfl, rfl⟩)
    | (go_at_call 72; refine (l1TextOk_any _ _ htx).mono ?_; rintro e w' ⟨rfl, rfl⟩))
  all_goals
    go_ret
    refine ⟨ret_bool ?_, unhide HBX _⟩
    try simp_all [aloneB]
  all_goals first | (rw [Bool.eq_iff_iff]; simp; done) | (intros; omega)
set_option maxHeartbeats 800000 in
theorem l1Alone_4 (t : Tr) (P : Nat → Prop) (c : C5) (w : World) (hP : ∀ b, P b → b < w.heap.size) (hrep : Rep P w t c) (hs : t.sort = 4) :
    Calls Tryz.prog 63 #[.agg #[c.c0, c.c1, c.c2, c.c3, c.c4]] w fun e w' => e = .returned (.bool (aloneB t)) ∧ Below w.heap.size w w' := by
  obtain ⟨c0, c1, c2, c3, c4⟩ := c
  obtain ⟨e0, e1, e2, -, -, htx, hns, a, cap, e4, hlen, -⟩ := hrep.open
  simp only at e0 e1 e2 e4 hns
  have HN := hide hns
  obtain ⟨a3, cap3, e3, hl3, -⟩ := hns
  subst e0 e1 e2 e3 e4
  clear hrep
  have HP := hide hP; clear hP
  have hbx : ∀ o, Below w.heap.size w (w.alloc o) := fun o => (Below.refl _ _).alloc (Nat.le_refl _) o
  have HBX := hide hbx; clear hbx
  go_enter Tryz.func63, Tryz.ntmps63
  go_wp2_with (first
    | (go_at_call 42; refine (l6In_any _ _ _ _).mono ?_; rintro e w' ⟨rfl, rfl⟩)
    | (go_at_call 72; refine (l1TextOk_any _ _ htx).mono ?_; rintro e w' ⟨rfl, rfl⟩))
  all_goals
    go_ret
    refine ⟨ret_bool ?_, unhide HBX _⟩
    try simp_all [aloneB]
  all_goals first | (rw [Bool.eq_iff_iff]; simp; done) | (intros; omega)
set_option maxHeartbeats 800000 in
theorem l1Alone_6 (t : Tr) (P : Nat → Prop) (c : C5) (w : World) (hP : ∀ b, P b → b < w.heap.size) (hrep : Rep P w t c) (hs : t.sort = 6) :
    Calls Tryz.prog 63 #[.agg #[c.c0, c.c1, c.c2, c.c3, c.c4]] w fun e w' => e = .returned (.bool (aloneB t)) ∧ Below w.heap.size w w' := by
  obtain ⟨c0, c1, c2, c3, c4⟩ := c
  obtain ⟨e0, e1, e2, -, -, htx, hns, a, cap, e4, hlen, -⟩ := hrep.open
  simp only at e0 e1 e2 e4 hns
  have HN := hide hns
  obtain ⟨a3, cap3, e3, hl3, -⟩ := hns
  subst e0 e1 e2 e3 e4
  clear hrep
  have HP := hide hP; clear hP
  have hbx : ∀ o, Below w.heap.size w (w.alloc o) := fun o => (Below.refl _ _).alloc (Nat.le_refl _) o
  have HBX := hide hbx; clear hbx
  go_enter Tryz.func63, Tryz.ntmps63
  go_wp2_with (first
    | (go_at_call 42; refine (l6In_any _ _ _ _).mono ?_; rintro e w' ⟨rfl, rfl⟩)
    | (go_at_call 72; refine (l1TextOk_any _ _ htx).mono ?_; rintro e w' ⟨rfl, rfl⟩))
  all_goals
    go_ret
    refine ⟨ret_bool ?_, unhide HBX _⟩
    try simp_all [aloneB]
  all_goals first | (rw [Bool.eq_iff_iff]; simp; done) | (intros; omega)
set_option maxHeartbeats 800000 in
theorem l1Alone_0 (t : Tr) (P : Nat → Prop) (c : C5) (w : World) (hP : ∀ b, P b → b < w.heap.size) (hrep : Rep P w t c) (h1 : t.sort ≠ 1) (h2 : t.sort ≠ 2) (h3 : t.sort ≠ 3) (h4 : t.sort ≠ 4) (h5 : t.sort ≠ 5) (h6 : t.sort ≠ 6) :
    Calls Tryz.prog 63 #[.agg #[c.c0, c.c1, c.c2, c.c3, c.c4]] w fun e w' => e = .returned (.bool (aloneB t)) ∧ Below w.heap.size w w' := by
  obtain ⟨c0, c1, c2, c3, c4⟩ := c
  obtain ⟨e0, e1, e2, -, -, htx, hns, a, cap, e4, hlen, -⟩ := hrep.open
  simp only at e0 e1 e2 e4 hns
  have HN := hide hns
  obtain ⟨a3, cap3, e3, hl3, -⟩ := hns
  subst e0 e1 e2 e3 e4
  clear hrep
  have HP := hide hP; clear hP
  have hbx : ∀ o, Below w.heap.size w (w.alloc o) := fun o => (Below.refl _ _).alloc (Nat.le_refl _) o
  have HBX := hide hbx; clear hbx
  go_enter Tryz.func63, Tryz.ntmps63
  go_wp2_with (first
    | (go_at_call 42; refine (l6In_any _ _ _ _).mono ?_; rintro e w' ⟨rfl, rfl⟩)
    | (go_at_call 72; refine (l1TextOk_any _ _ htx).mono ?_; rintro e w' ⟨rfl, rfl⟩))
  all_goals
    go_ret
    refine ⟨ret_bool ?_, unhide HBX _⟩
    try simp_all [aloneB]
  all_goals first | (rw [Bool.eq_iff_iff]; simp; done) | (intros; omega)
set_option maxHeartbeats 800000 in
theorem l1Alone_5 (t : Tr) (P : Nat → Prop) (c : C5) (w : World) (hP : ∀ b, P b → b < w.heap.size) (hrep : Rep P w t c) (hs : t.sort = 5) :
    Calls Tryz.prog 63 #[.agg #[c.c0, c.c1, c.c2, c.c3, c.c4]] w fun e w' => e = .returned (.bool (aloneB t)) ∧ Below w.heap.size w w' := by
  obtain ⟨c0, c1, c2, c3, c4⟩ := c
  obtain ⟨e0, e1, e2, -, -, htx, hns, a, cap, e4, hlen, -⟩ := hrep.open
  simp only at e0 e1 e2 e4 hns
  have HN := hide hns
  obtain ⟨a3, cap3, e3, hl3, -⟩ := hns
  subst e0 e1 e2 e3 e4
  clear hrep
  have HP := hide hP; clear hP
  have hbx : ∀ o, Below w.heap.size w (w.alloc o) := fun o => (Below.refl _ _).alloc (Nat.le_refl _) o
  have HBX := hide hbx; clear hbx
  have hcall : ∀ o, Calls Tryz.prog 73 #[.slice a3 t.names.length cap3] (w.alloc o) fun e w' => e = .returned (.bool (riseB t.names)) ∧ Below w.heap.size w w' := fun o =>
    (l1Rise_any _ t.names (w.alloc o) (P := P) (fun b hb => Nat.lt_of_lt_of_le (unhide HP b hb) (unhide HBX o).size) ((unhide HN).carry (fun b hb => (unhide HBX o).block b (unhide HP b hb)) (fun _ h => h))).mono
      fun e w' ⟨h1, h2⟩ => ⟨h1, (unhide HBX o).trans (h2.mono (unhide HBX o).size)⟩
  have HC := hide hcall; clear hcall
  go_enter Tryz.func63, Tryz.ntmps63
  go_wp2_with (go_at_call 73; refine (unhide HC _).mono ?_; rintro e w' ⟨rfl, hb'⟩)
  all_goals
    go_ret
    refine ⟨ret_bool ?_, by first | assumption | exact unhide HBX _⟩
    try simp_all [aloneB]
  all_goals first | (rw [Bool.eq_iff_iff]; simp; done) | (intros; omega)

theorem l1Alone_any (t : Tr) (P : Nat → Prop) (c : C5) (w : World) (hP : ∀ b, P b → b < w.heap.size) (hrep : Rep P w t c) :
    Calls Tryz.prog 63 #[.agg #[c.c0, c.c1, c.c2, c.c3, c.c4]] w fun e w' => e = .returned (.bool (aloneB t)) ∧ Below w.heap.size w w' := by
  by_cases h1 : t.sort = 1
  · exact l1Alone_1 t P c w hP hrep h1
  by_cases h2 : t.sort = 2
  · exact l1Alone_2 t P c w hP hrep h2
  by_cases h3 : t.sort = 3
  · exact l1Alone_3 t P c w hP hrep h3
  by_cases h4 : t.sort = 4
  · exact l1Alone_4 t P c w hP hrep h4
  by_cases h5 : t.sort = 5
  · exact l1Alone_5 t P c w hP hrep h5
  by_cases h6 : t.sort = 6
  · exact l1Alone_6 t P c w hP hrep h6
  exact l1Alone_0 t P c w hP hrep h1 h2 h3 h4 h5 h6
end Go.Proofs.YtiflfcjocngiiaaGreatDoor

/- The walks of the specification's l1Parts, TreeOk and TreeParts: what they answer. No conditions. -/

namespace Go.Proofs.YtiflfcjocngiiaaGreatDoor
open Go Go.RowKit

def PartsSaid (n : Nat) : Prop := ∀ (t : Tr), tsz t < n → ∀ (P : Nat → Prop) (c : C5) (d : Int) (w : World), (∀ b, P b → b < w.heap.size) → Rep P w t c → 1 ≤ d → d ≤ 7 →
    Calls Tryz.prog 52 #[.agg #[c.c0, c.c1, c.c2, c.c3, c.c4], .int .i64 d] w fun e w' => e = .returned (.int .i64 (pT t d)) ∧ Below w.heap.size w w'

set_option maxHeartbeats 400000 in
theorem l1Parts_step (n : Nat) (IH : PartsSaid n) : PartsSaid (n + 1) := by
  intro t hn P c d w hP hrep hd0 hd1
  have HREP := hide hrep
  have HEQ := hide (pT_eq t d)
  obtain ⟨c0, c1, c2, c3, c4⟩ := c
  obtain ⟨e0, e1, e2, -, -, -, ⟨a3, cap3, e3, -, -⟩, a, cap, e4, hlen, hks⟩ := hrep.open
  simp only at e0 e1 e2 e3 e4
  subst e0 e1 e2 e3 e4
  have HP := hide hP; have HI := hide IH; have HK := hide hks
  clear hrep hP IH hks
  have hbx : ∀ o, Below w.heap.size w (w.alloc o) := fun o => (Below.refl _ _).alloc (Nat.le_refl _) o
  have HBX := hide hbx; clear hbx
  by_cases h6 : 6 < d
  · go_enter Tryz.func52, Tryz.ntmps52
    go_wp2_with fail
    go_ret
    refine ⟨?_, unhide HBX _⟩
    rw [unhide HEQ, if_pos (Or.inl h6)]
    rfl
  · have hal : ∀ o, Calls Tryz.prog 63 #[.agg #[.int .i64 t.sort, .int .i64 t.num, .string t.text, .slice a3 t.names.length cap3, .slice a t.kids.length cap]] (w.alloc o) fun e w' => e = .returned (.bool (aloneB t)) ∧ Below (w.alloc o).heap.size (w.alloc o) w' := fun o =>
      l1Alone_any t P ⟨_, _, _, _, _⟩ (w.alloc o) (fun b hb => Nat.lt_of_lt_of_le (unhide HP b hb) (unhide HBX o).size) (Rep.carry (fun b hb => (unhide HBX o).block b (unhide HP b hb)) (fun _ h => h) _ _ (unhide HREP))
    have HAL := hide hal; clear hal
    by_cases ha : aloneB t = true
    · go_enter Tryz.func52, Tryz.ntmps52
      go_wp2_with (go_at_call 63; refine (unhide HAL _).mono ?_; rintro e w' ⟨rfl, hb'⟩)
      obtain ⟨q0, -, hb0⟩ := box1 hb'
      have hpk : pT t d = pK t.kids d 1 := by rw [unhide HEQ, if_neg (by simp [ha]; omega)]
      have HPK := hide hpk
      clear hb' hpk HEQ HAL
      generalize hks : t.kids = ks at *
      have HKS := hide hks; clear hks
      go_loopw [5, 6] (fun m i wr => ∃ (k : Nat) (q : Int), k ≤ ks.length ∧ i = .int .i64 k ∧ m = .int .i64 q ∧ 1 ≤ q ∧ q ≤ 120 ∧ Hid (pK (ks.drop k) d q = pK ks d 1) ∧ wr.cell? ⟨w.heap.size, 4, none⟩ = some (.slice a ks.length cap) ∧ w.heap.size < wr.heap.size ∧ Below w.heap.size w wr) (fun _ i _ => ks.length - (intOf i).toNat)
      case atStart => exact ⟨0, 1, Nat.zero_le _, rfl, rfl, by omega, by omega, rfl, q0.cell (i := 4) (by omega), q0.lt, hb0⟩
      case round =>
        obtain ⟨k, q, hk, rfl, rfl, hq0, hq1, HQ, hbox, hbs, hb⟩ := hrel
        by_cases hlt : k < ks.length
        · obtain ⟨b, o, c, rfl, hpb, hcell, hrep⟩ := unhide HK k hlt
          have hcell' := hcell.carry (hb.block b (unhide HP b hpb))
          obtain ⟨c0, c1, c2, c3, c4⟩ := c
          obtain ⟨e0, e1, e2, e3, e4⟩ := hcell'
          simp only at e0 e1 e2 e3 e4
          have hmem : ks[k] ∈ t.kids := by rw [unhide HKS]; exact List.getElem_mem hlt
          have hsm : tsz ks[k] < n := by have := tsz_kid hmem; omega
          have hcall := unhide HI ks[k] hsm P ⟨c0, c1, c2, c3, c4⟩ (d + 1) wr (fun b hb' => Nat.lt_of_lt_of_le (unhide HP b hb') hb.size) (Rep.carry (fun b hb' => hb.block b (unhide HP b hb')) (fun _ h => h) _ _ hrep) (by omega) (by omega)
          have hst := pK_step hlt d q
          have hbd := pT_bd ks[k] (d + 1)
          generalize pT ks[k] (d + 1) = r at hcall hst hbd
          have HCALL := hide hcall; have HST := hide hst
          clear hrep hcell hpb hmem hcall hst
          by_cases hbad : r < 0 ∨ 120 < q + r
          · have hfin : pT t d = -1 := by rw [unhide HPK, ← HQ.out, unhide HST, if_pos hbad]
            have HFIN := hide hfin; clear hfin
            rcases hbad with hbad | hbad
            · go_wp2_with (go_at_call 52; refine (unhide HCALL).mono ?_; rintro e w2 ⟨rfl, hb2⟩)
              go_ret
              exact ⟨by rw [unhide HFIN]; rfl, hb.trans (hb2.mono hb.size)⟩
            · have hr0 : 0 ≤ r := by omega
              go_wp2_with (go_at_call 52; refine (unhide HCALL).mono ?_; rintro e w2 ⟨rfl, hb2⟩)
              go_ret
              exact ⟨by rw [unhide HFIN]; rfl, hb.trans (hb2.mono hb.size)⟩
          · have hr0 : 0 ≤ r := by omega
            have hr1 : q + r ≤ 120 := by omega
            have hfin : pK (ks.drop (k + 1)) d (q + r) = pK ks d 1 := by rw [← HQ.out, unhide HST, if_neg hbad]
            have HFIN := hide hfin
            clear hfin hbad
            go_wp2_with (go_at_call 52; refine (unhide HCALL).mono ?_; rintro e w2 ⟨rfl, hb2⟩)
            go_roundw
            case rel => exact ⟨k + 1, _, by omega, by go_num, rfl, by omega, by omega, unhide HFIN, by rw [hb2.cell hbs]; exact hbox, Nat.lt_of_lt_of_le hbs hb2.size, hb.trans (hb2.mono hb.size)⟩
            case measure => simp [intOf]; omega
        · go_wp2_with fail
          go_ret
          refine ⟨?_, hb⟩
          rw [unhide HPK, ← HQ.out, List.drop_of_length_le (by omega), pK]
          rfl
    · have ha' : aloneB t = false := by simpa using ha
      clear ha
      go_enter Tryz.func52, Tryz.ntmps52
      go_wp2_with (go_at_call 63; refine (unhide HAL _).mono ?_; rintro e w' ⟨rfl, hb'⟩)
      go_ret
      refine ⟨?_, (box1 hb').2.2⟩
      rw [unhide HEQ, if_pos (Or.inr ha')]
      rfl

theorem l1Parts_all : ∀ n, PartsSaid n
  | 0 => fun t h => by omega
  | n + 1 => l1Parts_step n (l1Parts_all n)

set_option maxHeartbeats 400000 in
theorem specTreeOk_any (t : Tr) (P : Nat → Prop) (c : C5) (w : World) (hP : ∀ b, P b → b < w.heap.size) (hrep : Rep P w t c) :
    Calls Tryz.prog 43 #[.agg #[c.c0, c.c1, c.c2, c.c3, c.c4]] w fun e w' => e = .returned (.bool (decide (0 < pT t 1))) ∧ Below w.heap.size w w' := by
  have hbx : ∀ o, Below w.heap.size w (w.alloc o) := fun o => (Below.refl _ _).alloc (Nat.le_refl _) o
  have hcall : ∀ o, Calls Tryz.prog 52 #[.agg #[c.c0, c.c1, c.c2, c.c3, c.c4], .int .i64 1] (w.alloc o) fun e w' => e = .returned (.int .i64 (pT t 1)) ∧ Below w.heap.size w w' := fun o =>
    (l1Parts_all (tsz t + 1) t (by omega) P c 1 (w.alloc o) (fun b hb => Nat.lt_of_lt_of_le (hP b hb) (hbx o).size) (Rep.carry (fun b hb => (hbx o).block b (hP b hb)) (fun _ h => h) _ _ hrep) (by omega) (by omega)).mono
      fun e w' ⟨h1, h2⟩ => ⟨h1, (hbx o).trans (h2.mono (hbx o).size)⟩
  generalize pT t 1 = r at *
  have HCALL := hide hcall
  clear hbx hcall hP hrep
  go_enter Tryz.func43, Tryz.ntmps43
  go_wp2_with (go_at_call 52; refine (unhide HCALL _).mono ?_; rintro e w2 ⟨rfl, hb2⟩)
  go_ret
  exact ⟨rfl, hb2⟩
end Go.Proofs.YtiflfcjocngiiaaGreatDoor

/- The walks of the specification's EventOk and the program's. Conditions: the table treeFields is as the program lays it (for the program's). -/

namespace Go.Proofs.YtiflfcjocngiiaaGreatDoor
open Go Go.RowKit

/-- Whether an event is ok. -/
def evOkB (ty : ByteArray) (ver : Int) (t : Tr) : Bool := nameOkB ty && decide (1 ≤ ver ∧ ver ≤ 12) && decide (t.sort = 5) && decide (0 < pT t 1)

set_option maxRecDepth 100000 in
set_option maxHeartbeats 1600000 in
theorem specEventOk_any (ty : ByteArray) (ver : Int) (t : Tr) (P : Nat → Prop) (c : C5) (w : World) (hP : ∀ b, P b → b < w.heap.size) (hrep : Rep P w t c) (hty : ty.size ≤ 9223372036854775807) (_hver : I64 ver) :
    Calls Tryz.prog 22 #[.agg #[.string ty, .int .i64 ver, c.c0, c.c1, c.c2, c.c3, c.c4]] w fun e w' => e = .returned (.bool (evOkB ty ver t)) ∧ Below w.heap.size w w' := by
  obtain ⟨c0, c1, c2, c3, c4⟩ := c
  have hbx : ∀ o, Below w.heap.size w (w.alloc o) := fun o => (Below.refl _ _).alloc (Nat.le_refl _) o
  have hn := fun W => l6NameOk_any ty W hty
  have hin := fun W => l6In_any ver 1 12 W
  have hok := fun (W : World) (hW : Below w.heap.size w W) => specTreeOk_any t P ⟨c0, c1, c2, c3, c4⟩ W (fun b hb => Nat.lt_of_lt_of_le (hP b hb) hW.size) (Rep.carry (fun b hb => hW.block b (hP b hb)) (fun _ h => h) _ _ hrep)
  obtain ⟨e0, -, -, his, -⟩ := hrep.open
  simp only at e0
  subst e0
  have HV := hide (show evOkB ty ver t = (nameOkB ty && decide (1 ≤ ver ∧ ver ≤ 12) && decide (t.sort = 5) && decide (0 < pT t 1)) from rfl)
  generalize evOkB ty ver t = res at *
  generalize nameOkB ty = b1 at *
  generalize decide (1 ≤ ver ∧ ver ≤ 12) = b2 at *
  generalize decide (0 < pT t 1) = b4 at *
  have HN := hide hn; have HIN := hide hin; have HOK := hide hok; have HBX := hide hbx
  clear hn hin hok hbx hP hrep
  generalize t.sort = srt at *
  cases b1 with
  | false =>
    go_enter Tryz.func22, Tryz.ntmps22
    go_wp2_with (go_at_call 41; refine (unhide HN _).mono ?_; rintro e w' ⟨rfl, rfl⟩)
    go_ret
    exact ⟨by rw [unhide HV]; simp, unhide HBX _⟩
  | true =>
    cases b2 with
    | false =>
      go_enter Tryz.func22, Tryz.ntmps22
      go_wp2_with (first
        | (go_at_call 41; refine (unhide HN _).mono ?_; rintro e w' ⟨rfl, rfl⟩)
        | (go_at_call 42; refine (unhide HIN _).mono ?_; rintro e w' ⟨rfl, rfl⟩))
      go_ret
      exact ⟨by rw [unhide HV]; simp, unhide HBX _⟩
    | true =>
      by_cases h5 : srt = 5
      · subst h5
        go_enter Tryz.func22, Tryz.ntmps22
        go_wp2_with (first
          | (go_at_call 41; refine (unhide HN _).mono ?_; rintro e w' ⟨rfl, rfl⟩)
          | (go_at_call 42; refine (unhide HIN _).mono ?_; rintro e w' ⟨rfl, rfl⟩)
          | (go_at_call 43; refine (unhide HOK _ (unhide HBX _)).mono ?_; rintro e w' ⟨rfl, hb⟩))
        go_ret
        exact ⟨by rw [unhide HV]; simp, (unhide HBX _).trans (hb.mono (unhide HBX _).size)⟩
      · have h5' : (srt == 5) = false := by simpa using h5
        have HS := hide h5
        clear h5
        go_enter Tryz.func22, Tryz.ntmps22
        go_wp2_with (first
          | (go_at_call 41; refine (unhide HN _).mono ?_; rintro e w' ⟨rfl, rfl⟩)
          | (go_at_call 42; refine (unhide HIN _).mono ?_; rintro e w' ⟨rfl, rfl⟩))
        go_ret
        exact ⟨by rw [unhide HV]; simp [unhide HS], unhide HBX _⟩

set_option maxRecDepth 100000 in
set_option maxHeartbeats 1600000 in
theorem implEventOk_any (ty : ByteArray) (ver : Int) (t : Tr) (P : Nat → Prop) (c : C5) (w : World) (hP : ∀ b, P b → b < w.heap.size) (hrep : Rep P w t c) (hty : ty.size ≤ 9223372036854775807) (_hver : I64 ver) (hT : Tab w) :
    Calls Tryz.prog 55 #[.agg #[.string ty, .int .i64 ver, c.c0, c.c1, c.c2, c.c3, c.c4]] w fun e w' => e = .returned (.bool (evOkB ty ver t)) ∧ Below w.heap.size w w' := by
  obtain ⟨c0, c1, c2, c3, c4⟩ := c
  have hbx : ∀ o, Below w.heap.size w (w.alloc o) := fun o => (Below.refl _ _).alloc (Nat.le_refl _) o
  have hn := fun W => nameOk_any ty W hty
  have hok := fun (W : World) (hW : Below w.heap.size w W) => implTreeOk_any t P ⟨c0, c1, c2, c3, c4⟩ W (fun b hb => Nat.lt_of_lt_of_le (hP b hb) hW.size) (Rep.carry (fun b hb => hW.block b (hP b hb)) (fun _ h => h) _ _ hrep) (hT.of_block (hW.block 0 hT.lt))
  obtain ⟨e0, -, -, his, -⟩ := hrep.open
  simp only at e0
  subst e0
  have HV := hide (show evOkB ty ver t = (nameOkB ty && decide (1 ≤ ver ∧ ver ≤ 12) && decide (t.sort = 5) && decide (0 < pT t 1)) from rfl)
  generalize evOkB ty ver t = res at *
  generalize nameOkB ty = b1 at *
  generalize decide (0 < pT t 1) = b4 at *
  have HN := hide hn; have HOK := hide hok; have HBX := hide hbx
  clear hn hok hbx hP hrep hT
  generalize t.sort = srt at *
  cases b1 with
  | false =>
    go_enter Tryz.func55, Tryz.ntmps55
    go_wp2_with (go_at_call 58; refine (unhide HN _).mono ?_; rintro e w' ⟨rfl, rfl⟩)
    go_ret
    exact ⟨by rw [unhide HV]; simp, unhide HBX _⟩
  | true =>
    by_cases h1 : 1 ≤ ver
    · by_cases h2 : ver ≤ 12
      · by_cases h5 : srt = 5
        · subst h5
          go_enter Tryz.func55, Tryz.ntmps55
          go_wp2_with (first
            | (go_at_call 58; refine (unhide HN _).mono ?_; rintro e w' ⟨rfl, rfl⟩)
            | (go_at_call 66; refine (unhide HOK _ (unhide HBX _)).mono ?_; rintro e w' ⟨rfl, hb⟩))
          go_ret
          exact ⟨by rw [unhide HV]; simp [h1, h2], (unhide HBX _).trans (hb.mono (unhide HBX _).size)⟩
        · have h5' : (srt == 5) = false := by simpa using h5
          have HS := hide h5
          clear h5
          go_enter Tryz.func55, Tryz.ntmps55
          go_wp2_with (go_at_call 58; refine (unhide HN _).mono ?_; rintro e w' ⟨rfl, rfl⟩)
          go_ret
          exact ⟨by rw [unhide HV]; simp [unhide HS], unhide HBX _⟩
      · go_enter Tryz.func55, Tryz.ntmps55
        go_wp2_with (go_at_call 58; refine (unhide HN _).mono ?_; rintro e w' ⟨rfl, rfl⟩)
        go_ret
        exact ⟨by rw [unhide HV]; simp; intros; omega, unhide HBX _⟩
    · go_enter Tryz.func55, Tryz.ntmps55
      go_wp2_with (go_at_call 58; refine (unhide HN _).mono ?_; rintro e w' ⟨rfl, rfl⟩)
      go_ret
      exact ⟨by rw [unhide HV]; simp; intros; omega, unhide HBX _⟩
end Go.Proofs.YtiflfcjocngiiaaGreatDoor
