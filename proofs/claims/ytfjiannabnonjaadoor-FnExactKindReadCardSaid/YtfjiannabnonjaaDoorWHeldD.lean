/- The walks of heldKindS, heldKind: of what was marked they tell the next mark, and turn nothing that was there. For marks up to 2^40. -/
import Derived.Test.YtfjiannabnonjaaDoorWMarkD
import Derived.Test.YtfjiannabnonjaaDoorWHeldS
namespace Go.Proofs.YtfjiannabnonjaaDoor
open Go Go.RowKit

def HeldDSaid (n : Nat) : Prop := ∀ (ks : List Kd), klsz ks < n → ∀ (P : Nat → Prop) (a : Option Addr) (cap k : Nat) (w : World), (∀ b, P b → b < w.heap.size) → ks.length ≤ 9223372036854775807 →
    (∀ i, (hi : i < ks.length) → ∃ b o c, a = some ⟨b, o, none⟩ ∧ P b ∧ C3.at w b (o + i * 3) c ∧ KRep P w (mD (k + kcK (ks.take i)) ks[i]) c) → 0 < k → k + kcK ks ≤ 1099511627776 →
    Calls Tryd.prog 48 #[.slice a ks.length cap, .int .i64 k] w fun e w' => e = .returned (.int .i64 (k + kcK ks : Nat)) ∧ Below w.heap.size w w'

theorem heldKind_kids {P : Nat → Prop} {w : World} {k : Nat} {ks : List Kd} {a : Option Addr}
    (h : ∀ i, (hi : i < (mDs k ks).length) → ∃ b o c, a = some ⟨b, o, none⟩ ∧ P b ∧ C3.at w b (o + i * 3) c ∧ KRep P w (mDs k ks)[i] c) :
    ∀ i, (hi : i < ks.length) → ∃ b o c, a = some ⟨b, o, none⟩ ∧ P b ∧ C3.at w b (o + i * 3) c ∧ KRep P w (mD (k + kcK (ks.take i)) ks[i]) c := fun i hi => by
  obtain ⟨b, o, c, h1, h2, h3, h4⟩ := h i (by rw [mDs_len]; exact hi)
  rw [mDs_get] at h4
  exact ⟨b, o, c, h1, h2, h3, h4⟩

set_option maxHeartbeats 800000 in
theorem heldKindS_step (n : Nat) (IH : HeldDSaid n) : HeldDSaid (n + 1) := by
  intro ks hn P a cap k w hP hlen hc hk0 hk
  have HC := hide hc; have HP := hide hP; have HI := hide IH
  clear hc hP IH
  go_enter Tryd.func48, Tryd.ntmps48
  go_wp2_with fail
  go_loopw [1, 5] (fun kk i wr => ∃ (j : Nat), j ≤ ks.length ∧ kk = .int .i64 (k + kcK (ks.take j) : Nat) ∧ i = .int .i64 j ∧ Below w.heap.size w wr) (fun _ i _ => ks.length - (intOf i).toNat)
  case atStart => exact ⟨0, Nat.zero_le _, by simp [kcK], rfl, Below.refl _ _⟩
  case round =>
    obtain ⟨j, hj, rfl, rfl, hb⟩ := hrel
    by_cases hlt : j < ks.length
    · have hle := kcK_take_le ks (j + 1)
      have hsuc := kcK_take ks j hlt
      rw [kcT_eq] at hsuc
      obtain ⟨b, o, c, rfl, hpb, hat, hrep⟩ := unhide HC j hlt
      have hat' := hat.carry (hb.block b (unhide HP b hpb))
      have hsm : klsz ks[j].kids < n := by have := klsz_kid (List.getElem_mem hlt); omega
      have hle2 : kcK (ks.take j) + (1 + ks[j].names.length + kcK ks[j].kids) ≤ kcK ks := by omega
      have HS := hide hsuc
      generalize hq : k + kcK (ks.take j) = q at *
      have HQ := hide hq
      have hq1 : 0 < q := by omega
      have hq2 : q + 1 + ks[j].names.length + kcK ks[j].kids ≤ 1099511627776 := by omega
      rw [mD_eq] at hrep
      generalize ks[j].names = nms at *
      generalize ks[j].kids = kds at *
      obtain ⟨e0, -, hns, a4, cap4, e4, hl4, hks⟩ := hrep.open
      simp only [Kd.sort, Kd.names, Kd.kids] at e0 hns e4 hl4 hks
      obtain ⟨c0, c1, c2⟩ := c
      simp only at e0 e4 hns
      subst e0 e4
      have hks' := heldKind_kids hks
      rw [mDs_len] at hl4
      have HNS := hide hns; have HKS := hide hks'; have HB2 := hide hb
      obtain ⟨y0, y1, y2⟩ := hat'
      simp only [mDs_len] at y0 y1 y2
      have hblt : b < wr.heap.size := Nat.lt_of_lt_of_le (unhide HP b hpb) hb.size
      have hqi : (q : Int) ≤ 1099511627776 := by omega
      clear hle hle2 hsuc hrep hat hks hns hks' hpb
      go_wp2_with fail
      refine (heldStringS_any c1 nms (q + 1) wr (P := P) (HNS.out.carry (fun b hb => HB2.out.block b (HP.out b hb)) (fun _ h => h)) (fun b hb => Nat.lt_of_lt_of_le (HP.out b hb) HB2.out.size) (by omega) (by omega)).mono ?_
      rintro e w3 ⟨rfl, hb3⟩
      have z4 : w3.cell? ⟨b, o + j * 3 + 2, none⟩ = some (.slice a4 kds.length cap4) := (hb3.cell (p := ⟨b, o + j * 3 + 2, none⟩) (World.block_lt_of_cell? wr _ y2)).trans y2
      have hb4 := HB2.out.trans (hb3.mono HB2.out.size)
      have HB4 := hide hb4
      clear hb3 hb4 y0 y1 y2
      go_wp2_with fail
      refine (HI.out kds hsm P a4 cap4 (q + 1 + nms.length) w3 (fun b hb => Nat.lt_of_lt_of_le (HP.out b hb) HB4.out.size) hl4 (fun i hi => ?_) (by omega) (by omega)).mono ?_
      · obtain ⟨b, o, c, h1, h2, h3, h4⟩ := HKS.out i hi
        exact ⟨b, o, c, h1, h2, h3.carry (HB4.out.block b (HP.out b h2)), KRep.carry (fun b hb => HB4.out.block b (HP.out b hb)) (fun _ h => h) _ _ h4⟩
      rintro e w5 ⟨rfl, hb5⟩
      have hb6 := HB4.out.trans (hb5.mono HB4.out.size)
      clear hb5
      go_wp2_with fail
      go_roundw
      case rel =>
        refine ⟨j + 1, by omega, ?_, by go_num, hb6⟩
        rw [HS.out]; congr 2; have := HQ.out; omega
      case measure => simp [intOf]; omega
    · go_wp2_with fail
      go_ret
      obtain rfl : j = ks.length := by omega
      rw [List.take_length]
      exact ⟨rfl, hb⟩

theorem heldKindS_all : ∀ n, HeldDSaid n
  | 0 => fun t h => by omega
  | n + 1 => heldKindS_step n (heldKindS_all n)

set_option maxHeartbeats 400000 in
theorem heldKind_any (t : Kd) (s : Int) (P : Nat → Prop) (c : C3) (k : Nat) (w : World) (hP : ∀ b, P b → b < w.heap.size) (h : KRep P w (.mk s (mS k t.names) (mDs (k + t.names.length) t.kids)) c) (hk0 : 0 < k) (hk : k + t.names.length + kcK t.kids ≤ 1099511627776) :
    Calls Tryd.prog 17 #[.agg #[c.c0, c.c1, c.c2], .int .i64 k] w fun e w' => e = .returned (.int .i64 (k + t.names.length + kcK t.kids : Nat)) ∧ Below w.heap.size w w' := by
  generalize t.names = nms at *
  generalize t.kids = kds at *
  obtain ⟨-, -, hns, a4, cap4, e4, hl4, hks⟩ := h.open
  simp only [Kd.names, Kd.kids] at hns e4 hl4 hks
  obtain ⟨c0, c1, c2⟩ := c
  simp only at hns e4
  rw [mDs_len] at hl4 e4
  subst e4
  have HN := hide hns; have HK := hide (heldKind_kids hks); have HP := hide hP
  clear hns hks hP h
  go_enter Tryd.func17, Tryd.ntmps17
  go_wp2_with fail
  have hbx : Below w.heap.size w (w.alloc (.cells #[c0, c1, .slice a4 kds.length cap4] 26)) := (Below.refl _ _).alloc (Nat.le_refl _) _
  refine (heldStringS_any c1 nms k _ (P := P) (HN.out.carry (fun b hb => hbx.block b (HP.out b hb)) (fun _ h => h)) (fun b hb => Nat.lt_of_lt_of_le (HP.out b hb) hbx.size) (by omega) (by omega)).mono ?_
  rintro e w1 ⟨rfl, hb1⟩
  obtain ⟨q0, hsz, hb01⟩ := kbox1 hb1
  have k4 := q0.cell (i := 2) (by omega)
  simp only [row3] at k4
  have HB1 := hide hb01
  clear hb1 q0 hb01 hbx
  go_wp2_with fail
  refine (heldKindS_all (klsz kds + 1) kds (by omega) P a4 cap4 (k + nms.length) w1 (fun b hb => Nat.lt_of_lt_of_le (HP.out b hb) HB1.out.size) hl4 (fun i hi => ?_) (by omega) (by omega)).mono ?_
  · obtain ⟨b, o, c, h1, h2, h3, h4⟩ := HK.out i hi
    exact ⟨b, o, c, h1, h2, h3.carry (HB1.out.block b (HP.out b h2)), KRep.carry (fun b hb => HB1.out.block b (HP.out b hb)) (fun _ h => h) _ _ h4⟩
  rintro e w2 ⟨rfl, hb2⟩
  have hb3 := HB1.out.trans (hb2.mono HB1.out.size)
  go_wp2_with fail
  go_ret
  exact ⟨rfl, hb3⟩
end Go.Proofs.YtfjiannabnonjaaDoor
