/- The walks of heldStringS, heldTreeS, heldTree: of what was marked they tell the next mark, and turn nothing that was there. For marks up to 2^40. -/
import Derived.Test.YtjlllkigeandeabWMark2
namespace Go.Proofs.Ytjlllkigeandeab
open Go Go.RowKit

set_option maxHeartbeats 400000 in
theorem heldStringS_any (v : Value) (ss : List ByteArray) (k : Nat) (w : World) {P : Nat → Prop} (hv : StrsAt P w v (mS k ss)) (hP : ∀ b, P b → b < w.heap.size) (hk0 : 0 < k) (hk : k + ss.length ≤ 1099511627776) :
    Calls Try.prog 28 #[v, .int .i64 k] w fun e w' => e = .returned (.int .i64 (k + ss.length : Nat)) ∧ Below w.heap.size w w' := by
  obtain ⟨a, cap, rfl, hlen, hc⟩ := hv
  rw [mS_len] at hlen
  have hc' : ∀ i, i < ss.length → ∃ b o, a = some ⟨b, o, none⟩ ∧ P b ∧ w.cell? ⟨b, o + i, none⟩ = some (.string (mtx (k + i))) := fun i hi => by
    obtain ⟨b, o, e, hp, hcell, _⟩ := hc i (by rw [mS_len]; exact hi)
    rw [mS_get] at hcell
    exact ⟨b, o, e, hp, hcell⟩
  rw [mS_len]
  have HC := hide hc'; have HP := hide hP
  clear hc hc' hP
  go_enter Try.func28, Try.ntmps28
  go_wp2_with fail
  go_loopw [1, 5] (fun kk i wr => ∃ (j : Nat), j ≤ ss.length ∧ kk = .int .i64 (k + j : Nat) ∧ i = .int .i64 j ∧ Below w.heap.size w wr) (fun _ i _ => ss.length - (intOf i).toNat)
  case atStart => exact ⟨0, Nat.zero_le _, rfl, rfl, Below.refl _ _⟩
  case round =>
    obtain ⟨j, hj, rfl, rfl, hb⟩ := hrel
    by_cases hlt : j < ss.length
    · obtain ⟨b, o, rfl, hpb, hcell⟩ := unhide HC j hlt
      have e1 : wr.cell? ⟨b, o + j, none⟩ = some (.string (mtx (k + j))) := by rw [hb.cell (unhide HP b hpb)]; exact hcell
      have hcall := (markText_any (k + j) wr.drew (by omega) (by omega)).mono (fun e w' (h : e = .returned (.string (mtx (k + j))) ∧ Below wr.drew.heap.size wr.drew w') => (⟨h.1, h.2, by rw [h.2.cell (World.block_lt_of_cell? wr _ e1)]; exact e1⟩ : e = .returned (.string (mtx (k + j))) ∧ Below wr.drew.heap.size wr.drew w' ∧ w'.cell? ⟨b, o + j, none⟩ = some (.string (mtx (k + j)))))
      have HCALL := hide hcall
      clear hcell hpb hcall
      go_wp2_with fail
      go_region_with (go_at_call 34; refine (unhide HCALL).mono ?_; rintro e w' ⟨rfl, hb', hc'⟩)
      all_goals
        have hb2 := hb.drew.trans (hb'.mono hb.drew.size)
        go_wp2_with fail
        go_roundw
        case rel => exact ⟨j + 1, by omega, by go_num, by go_num, hb2⟩
        case measure => simp [intOf]; omega
    · go_wp2_with fail
      go_ret
      obtain rfl : j = ss.length := by omega
      exact ⟨rfl, hb⟩

def HeldSaid (n : Nat) : Prop := ∀ (ks : List Tr), lsz ks < n → ∀ (P : Nat → Prop) (a : Option Addr) (cap k : Nat) (w : World), (∀ b, P b → b < w.heap.size) → ks.length ≤ 9223372036854775807 →
    (∀ i, (hi : i < ks.length) → ∃ b o c, a = some ⟨b, o, none⟩ ∧ P b ∧ C5.at w b (o + i * 5) c ∧ Rep P w (mT (k + cK (ks.take i)) ks[i]) c) → 0 < k → k + cK ks ≤ 1099511627776 →
    Calls Try.prog 29 #[.slice a ks.length cap, .int .i64 k] w fun e w' => e = .returned (.int .i64 (k + cK ks : Nat)) ∧ Below w.heap.size w w'

theorem heldTree_kids {P : Nat → Prop} {w : World} {k : Nat} {ks : List Tr} {a : Option Addr}
    (h : ∀ i, (hi : i < (mK k ks).length) → ∃ b o c, a = some ⟨b, o, none⟩ ∧ P b ∧ C5.at w b (o + i * 5) c ∧ Rep P w (mK k ks)[i] c) :
    ∀ i, (hi : i < ks.length) → ∃ b o c, a = some ⟨b, o, none⟩ ∧ P b ∧ C5.at w b (o + i * 5) c ∧ Rep P w (mT (k + cK (ks.take i)) ks[i]) c := fun i hi => by
  obtain ⟨b, o, c, h1, h2, h3, h4⟩ := h i (by rw [mK_len]; exact hi)
  rw [mK_get] at h4
  exact ⟨b, o, c, h1, h2, h3, h4⟩

set_option maxHeartbeats 800000 in
theorem heldTreeS_step (n : Nat) (IH : HeldSaid n) : HeldSaid (n + 1) := by
  intro ks hn P a cap k w hP hlen hc hk0 hk
  have HC := hide hc; have HP := hide hP; have HI := hide IH
  clear hc hP IH
  go_enter Try.func29, Try.ntmps29
  go_wp2_with fail
  go_loopw [1, 5] (fun kk i wr => ∃ (j : Nat), j ≤ ks.length ∧ kk = .int .i64 (k + cK (ks.take j) : Nat) ∧ i = .int .i64 j ∧ Below w.heap.size w wr) (fun _ i _ => ks.length - (intOf i).toNat)
  case atStart => exact ⟨0, Nat.zero_le _, by simp [cK], rfl, Below.refl _ _⟩
  case round =>
    obtain ⟨j, hj, rfl, rfl, hb⟩ := hrel
    by_cases hlt : j < ks.length
    · have hle := cK_take_le ks (j + 1)
      have hsuc := cK_take_succ ks j hlt
      rw [cT_eq] at hsuc
      obtain ⟨b, o, c, rfl, hpb, hat, hrep⟩ := unhide HC j hlt
      have hat' := hat.carry (hb.block b (unhide HP b hpb))
      have hsm : lsz ks[j].kids < n := by have := lsz_kid (List.getElem_mem hlt); omega
      have hle2 : cK (ks.take j) + (3 + ks[j].names.length + cK ks[j].kids) ≤ cK ks := by omega
      have HS := hide hsuc
      generalize hq : k + cK (ks.take j) = q at *
      have HQ := hide hq
      have hq1 : 0 < q := by omega
      have hq2 : q + 3 + ks[j].names.length + cK ks[j].kids ≤ 1099511627776 := by omega
      rw [mT_eq] at hrep
      generalize ks[j].names = nms at *
      generalize ks[j].kids = kds at *
      obtain ⟨e0, e1, e2, -, -, -, hns, a4, cap4, e4, hl4, hks⟩ := hrep.open
      simp only [Tr.sort, Tr.num, Tr.text, Tr.names, Tr.kids] at e0 e1 e2 hns e4 hl4 hks
      obtain ⟨c0, c1, c2, c3, c4⟩ := c
      simp only at e0 e1 e2 e4 hns
      subst e0 e1 e2 e4
      have hks' := heldTree_kids hks
      rw [mK_len] at hl4
      have HNS := hide hns; have HKS := hide hks'
      obtain ⟨y0, y1, y2, y3, y4⟩ := hat'
      simp only [mK_len] at y0 y1 y2 y3 y4
      have hblt : b < wr.heap.size := Nat.lt_of_lt_of_le (unhide HP b hpb) hb.size
      have hcall := (markText_any (q + 2) wr.drew (by omega) (by omega)).mono (fun e w' (h : e = .returned (.string (mtx (q + 2))) ∧ Below wr.drew.heap.size wr.drew w') => (⟨h.1, h.2, (h.2.cell (p := ⟨b, o + j * 5 + 2, none⟩) hblt).trans y2, (h.2.cell (p := ⟨b, o + j * 5 + 3, none⟩) hblt).trans y3, (h.2.cell (p := ⟨b, o + j * 5 + 4, none⟩) hblt).trans y4⟩ :
        e = .returned (.string (mtx (q + 2))) ∧ Below wr.drew.heap.size wr.drew w' ∧ w'.cell? ⟨b, o + j * 5 + 2, none⟩ = some (.string (mtx (q + 2))) ∧ w'.cell? ⟨b, o + j * 5 + 3, none⟩ = some c3 ∧ w'.cell? ⟨b, o + j * 5 + 4, none⟩ = some (.slice a4 kds.length cap4)))
      have HCALL := hide hcall
      have hqi : (q : Int) ≤ 1099511627776 := by omega
      clear hle hle2 hsuc hrep hat hks hns hks' hcall hpb
      go_wp2_with fail
      go_region_with (go_at_call 34; refine (unhide HCALL).mono ?_; rintro e w' ⟨rfl, hb', x2, x3, x4⟩)
      all_goals
        have hb2 := hb.drew.trans (hb'.mono hb.drew.size)
        have HB2 := hide hb2
        clear hb' hb2 y0 y1 y2 y3 y4
        go_wp2_with fail
        refine (heldStringS_any c3 nms (q + 3) w' (P := P) (HNS.out.carry (fun b hb => HB2.out.block b (HP.out b hb)) (fun _ h => h)) (fun b hb => Nat.lt_of_lt_of_le (HP.out b hb) HB2.out.size) (by omega) (by omega)).mono ?_
        rintro e w3 ⟨rfl, hb3⟩
        have z4 : w3.cell? ⟨b, o + j * 5 + 4, none⟩ = some (.slice a4 kds.length cap4) := (hb3.cell (p := ⟨b, o + j * 5 + 4, none⟩) (World.block_lt_of_cell? w' _ x4)).trans x4
        have hb4 := HB2.out.trans (hb3.mono HB2.out.size)
        have HB4 := hide hb4
        clear hb3 hb4 x2 x3 x4
        go_wp2_with fail
        refine (HI.out kds hsm P a4 cap4 (q + 3 + nms.length) w3 (fun b hb => Nat.lt_of_lt_of_le (HP.out b hb) HB4.out.size) hl4 (fun i hi => ?_) (by omega) (by omega)).mono ?_
        · obtain ⟨b, o, c, h1, h2, h3, h4⟩ := HKS.out i hi
          exact ⟨b, o, c, h1, h2, h3.carry (HB4.out.block b (HP.out b h2)), Rep.carry (fun b hb => HB4.out.block b (HP.out b hb)) (fun _ h => h) _ _ h4⟩
        rintro e w5 ⟨rfl, hb5⟩
        have hb6 := HB4.out.trans (hb5.mono HB4.out.size)
        clear hb5
        go_wp2_with fail
        go_roundw
        case rel =>
          refine ⟨j + 1, by omega, ?_, by go_num, hb6⟩
          rw [HS.out]; congr 2; have := HQ.out; omega
        case measure => simp [intOf]; omega
    · go_wp2_with fail
      go_ret
      obtain rfl : j = ks.length := by omega
      rw [List.take_length]
      exact ⟨rfl, hb⟩

theorem heldTreeS_all : ∀ n, HeldSaid n
  | 0 => fun t h => by omega
  | n + 1 => heldTreeS_step n (heldTreeS_all n)

set_option maxHeartbeats 400000 in
theorem heldTree_any (t : Tr) (s n : Int) (tx : ByteArray) (P : Nat → Prop) (c : C5) (k : Nat) (w : World) (hP : ∀ b, P b → b < w.heap.size) (h : Rep P w (.mk s n tx (mS k t.names) (mK (k + t.names.length) t.kids)) c) (hk0 : 0 < k) (hk : k + t.names.length + cK t.kids ≤ 1099511627776) :
    Calls Try.prog 12 #[.agg #[c.c0, c.c1, c.c2, c.c3, c.c4], .int .i64 k] w fun e w' => e = .returned (.int .i64 (k + t.names.length + cK t.kids : Nat)) ∧ Below w.heap.size w w' := by
  generalize t.names = nms at *
  generalize t.kids = kds at *
  obtain ⟨-, -, -, -, -, -, hns, a4, cap4, e4, hl4, hks⟩ := h.open
  simp only [Tr.names, Tr.kids] at hns e4 hl4 hks
  obtain ⟨c0, c1, c2, c3, c4⟩ := c
  simp only at hns e4
  rw [mK_len] at hl4 e4
  subst e4
  have HN := hide hns; have HK := hide (heldTree_kids hks); have HP := hide hP
  clear hns hks hP h
  go_enter Try.func12, Try.ntmps12
  go_wp2_with fail
  have hbx : Below w.heap.size w (w.alloc (.cells #[c0, c1, c2, c3, .slice a4 kds.length cap4] 29)) := (Below.refl _ _).alloc (Nat.le_refl _) _
  refine (heldStringS_any c3 nms k _ (P := P) (HN.out.carry (fun b hb => hbx.block b (HP.out b hb)) (fun _ h => h)) (fun b hb => Nat.lt_of_lt_of_le (HP.out b hb) hbx.size) (by omega) (by omega)).mono ?_
  rintro e w1 ⟨rfl, hb1⟩
  obtain ⟨q0, hsz, hb01⟩ := box1 hb1
  have k4 := q0.cell (i := 4) (by omega)
  simp only [row5] at k4
  have HB1 := hide hb01
  clear hb1 q0 hb01 hbx
  go_wp2_with fail
  refine (heldTreeS_all (lsz kds + 1) kds (by omega) P a4 cap4 (k + nms.length) w1 (fun b hb => Nat.lt_of_lt_of_le (HP.out b hb) HB1.out.size) hl4 (fun i hi => ?_) (by omega) (by omega)).mono ?_
  · obtain ⟨b, o, c, h1, h2, h3, h4⟩ := HK.out i hi
    exact ⟨b, o, c, h1, h2, h3.carry (HB1.out.block b (HP.out b h2)), Rep.carry (fun b hb => HB1.out.block b (HP.out b hb)) (fun _ h => h) _ _ h4⟩
  rintro e w2 ⟨rfl, hb2⟩
  have hb3 := HB1.out.trans (hb2.mono HB1.out.size)
  go_wp2_with fail
  go_ret
  exact ⟨rfl, hb3⟩
end Go.Proofs.Ytjlllkigeandeab
