/- The walks of markStringS and markKindS, markKind over a shape: they end, and turn cells of the shape's own blocks alone, each into one of its kind. The marks count to at most 2^40. -/
import Derived.Test.YtjlllkigeandeabWMark
import Derived.Test.YtjlllkigeandeabShp
namespace Go.Proofs.Ytjlllkigeandeab
open Go Go.RowKit

set_option maxHeartbeats 400000 in
theorem markStringS_shp (D : Nat → Prop) (v : Value) (n : Nat) (k : Nat) (w : World) (hv : SShp D w v n) (hk0 : 0 < k) (hk : k + n ≤ 1099511627776) :
    Calls Try.prog 25 #[v, .int .i64 k] w fun e w' => e = .returned (.int .i64 (k + n : Nat)) ∧ Like D w w' := by
  have HV := hide hv
  obtain ⟨a, cap, rfl, hlen, -⟩ := hv
  go_enter Try.func25, Try.ntmps25
  go_wp2_with fail
  go_loopw [1, 5] (fun kk i wr => ∃ (j : Nat), j ≤ n ∧ kk = .int .i64 (k + j : Nat) ∧ i = .int .i64 j ∧ Hid (Like D w wr)) (fun _ i _ => n - (intOf i).toNat)
  case atStart => exact ⟨0, Nat.zero_le _, rfl, rfl, Like.refl _ _⟩
  case round =>
    obtain ⟨j, hj, rfl, rfl, HL⟩ := hrel
    by_cases hlt : j < n
    · have hs := (unhide HV).like HL.out
      obtain ⟨a', cap', e, -, hc⟩ := hs
      cases e
      obtain ⟨b, o, s, rfl, hd, hf, hcell⟩ := hc j hlt
      have hblt : b < wr.heap.size := World.block_lt_of_cell? wr _ hcell
      have HC := hide hcell; have HF := hide hf; have HD := hide hd
      clear hcell hf hd hc
      go_wp2_with fail
      refine (markText_any (k + j) wr (by omega) (by omega)).mono ?_
      rintro e w' ⟨rfl, hb'⟩
      have y0 : w'.cell? ⟨b, o + j, none⟩ = some (.string s) := by rw [hb'.cell hblt]; exact unhide HC
      have z0 := ((unhide HF).of_block (hb'.block b hblt)) (o + j)
      have HB := hide hb'; clear hb'
      go_wp2_with fail
      go_roundw
      case rel =>
        refine ⟨j + 1, by omega, by go_num, by go_num, ?_⟩
        exact (HL.out.trans (Like.of_below (unhide HB))).trans (Like.set (unhide HD) y0 (Or.inr (Or.inl ⟨_, _, rfl, rfl⟩)))
      case measure => simp [intOf]; omega
    · go_wp2_with fail
      go_ret
      obtain rfl : j = n := by omega
      exact ⟨rfl, HL.out⟩

def MkKSaid (n : Nat) : Prop := ∀ (ks : List Kd), klsz ks < n → ∀ (D : Nat → Prop) (a : Option Addr) (cap : Nat) (k : Nat) (w : World), ks.length ≤ 9223372036854775807 → (ks ≠ [] → ∃ b o, a = some ⟨b, o, none⟩ ∧ D b ∧ FreeB w b ∧ KShpK D w b o ks) → 0 < k → k + kcK ks ≤ 1099511627776 →
    Calls Try.prog 26 #[.slice a ks.length cap, .int .i64 k] w fun e w' => e = .returned (.int .i64 (k + kcK ks : Nat)) ∧ Like D w w'

set_option maxHeartbeats 800000 in
theorem markKindS_step (n : Nat) (IH : MkKSaid n) : MkKSaid (n + 1) := by
  intro ks hn D a cap k w hlen hks hk0 hk
  have HKS := hide hks; have HI := hide IH
  clear hks IH
  go_enter Try.func26, Try.ntmps26
  go_wp2_with fail
  go_loopw [1, 5] (fun kk i wr => ∃ (j m : Nat), j ≤ ks.length ∧ kk = .int .i64 m ∧ i = .int .i64 j ∧ 0 < m ∧ m ≤ 1099511627776 ∧ Hid (m = k + kcK (ks.take j)) ∧ Hid (Like D w wr)) (fun _ i _ => ks.length - (intOf i).toNat)
  case atStart => exact ⟨0, k, Nat.zero_le _, rfl, rfl, hk0, by omega, by simp [Hid, kcK], Like.refl _ _⟩
  case round =>
    obtain ⟨j, m, hj, rfl, rfl, hm0, hm1, HM, HL⟩ := hrel
    by_cases hlt : j < ks.length
    · have hne : ks ≠ [] := by intro e; rw [e] at hlt; simp at hlt
      obtain ⟨b, o, rfl, hd, hf, hr⟩ := unhide HKS hne
      have hr0 := hr.get j hlt
      have hblt0 : b < w.heap.size := by obtain ⟨c, hat, -⟩ := hr0; exact World.block_lt_of_cell? w _ hat.1
      have hr1 := (KShpK.like HL.out b o ks hr).get j hlt
      obtain ⟨⟨c0, c1, c2⟩, ⟨e0, e1, e2⟩, hshp⟩ := hr1
      have hfb := HL.out.free b hblt0 hf
      obtain ⟨⟨n0, g0⟩, hs1, a2, cap2, g2, hl2, hk2⟩ := hshp.open
      have hs1' := hs1
      obtain ⟨a1, cap1, g1, -, -⟩ := hs1'
      simp only at e0 e1 e2 g0 g1 g2
      subst g0 g1 g2
      have z0 := hfb (o + j * 3)
      have hbw : b < wr.heap.size := World.block_lt_of_cell? wr _ e0
      have hst := kcK_take ks j hlt
      have hle := kcK_take_le ks (j + 1)
      have hct := kcT_eq ks[j]
      have hbig : m + 1 + ks[j].names.length + kcK ks[j].kids ≤ 1099511627776 := by have := HM.out; omega
      have hsm : klsz ks[j].kids < n := by have := klsz_kid (List.getElem_mem hlt); omega
      have HSHP := hide hshp; have HD := hide hd; have HFB := hide hfb; have HS1 := hide hs1; have HST := hide hst; have HCT := hide hct
      clear hshp hd hf hfb hs1 hst hle hct hr hr0 hne hk2
      go_wp2_with fail
      have hlk0 : Like D wr (wr.setCell ⟨b, o + j * 3, none⟩ (.int .i64 m)) := Like.set (unhide HD) e0 (Or.inl ⟨_, _, rfl, rfl⟩)
      have hc1 := markStringS_shp D (.slice a1 ks[j].names.length cap1) ks[j].names.length (m + 1) (wr.setCell ⟨b, o + j * 3, none⟩ (.int .i64 m)) ((unhide HS1).like hlk0) (by omega) (by omega)
      rw [show ((m + 1 : Nat) : Int) = (m : Int) + 1 from rfl] at hc1
      refine hc1.mono ?_
      rintro e w2 ⟨rfl, hlk1⟩
      have hlk := hlk0.trans hlk1
      obtain ⟨v2, k2, l2⟩ := hlk.cell _ _ _ e2
      have e2' := l2.slice
      subst e2'
      have hshp2 := KShp.like hlk ks[j] _ ⟨.int .i64 n0, .slice a1 ks[j].names.length cap1, .slice a2 ks[j].kids.length cap2⟩ (alike.refl _) (alike.refl _) (alike.refl _) (unhide HSHP)
      obtain ⟨-, -, a2', cap2', g2, -, hk2⟩ := hshp2.open
      simp only [Value.slice.injEq] at g2
      obtain ⟨rfl, -, rfl⟩ := g2
      have hc2 := unhide HI ks[j].kids hsm D a2 cap2 (m + 1 + ks[j].names.length) w2 hl2 hk2 (by omega) (by omega)
      have HC2 := hide hc2; have HLK := hide (HL.out.trans hlk)
      clear hc1 hc2 hlk hlk0 hlk1 hshp2 hk2 l2 e0 e1 e2 z0
      go_wp2_with fail
      refine (unhide HC2).mono ?_
      rintro e w3 ⟨rfl, hlk3⟩
      have HLK3 := hide ((unhide HLK).trans hlk3)
      clear hlk3
      go_wp2_with fail
      go_roundw
      case rel => exact ⟨j + 1, m + 1 + ks[j].names.length + kcK ks[j].kids, by omega, rfl, by go_num, by omega, by omega, by have := HM.out; have := unhide HST; have := unhide HCT; show _ = _; omega, unhide HLK3⟩
      case measure => simp [intOf]; omega
    · go_wp2_with fail
      go_ret
      obtain rfl : j = ks.length := by omega
      have hm := HM.out
      rw [List.take_length] at hm
      subst hm
      exact ⟨rfl, HL.out⟩

theorem markKindS_all : ∀ n, MkKSaid n
  | 0 => fun t h => by omega
  | n + 1 => markKindS_step n (markKindS_all n)

set_option maxHeartbeats 400000 in
theorem markKind_shp (D : Nat → Prop) (t : Kd) (c : C3) (k : Nat) (w : World) (h : KShp D w t c) (hk0 : 0 < k) (hk : k + t.names.length + kcK t.kids ≤ 1099511627776) :
    Calls Try.prog 10 #[.agg #[c.c0, c.c1, c.c2], .int .i64 k] w fun e w' => e = .returned (.int .i64 (k + t.names.length + kcK t.kids : Nat)) ∧ Like D w w' := by
  obtain ⟨c0, c1, c2⟩ := c
  have HSHP := hide h
  obtain ⟨⟨n0, g0⟩, hs1, a2, cap2, g2, hl2, -⟩ := h.open
  have HS1 := hide hs1
  obtain ⟨a1, cap1, g1, -, -⟩ := hs1
  simp only at g0 g1 g2
  subst g0 g1 g2
  have hbx : ∀ o, Below w.heap.size w (w.alloc o) := fun o => (Below.refl _ _).alloc (Nat.le_refl _) o
  clear h
  go_enter Try.func10, Try.ntmps10
  go_wp2_with fail
  have hlk0 : Like D w (w.alloc (.cells #[.int .i64 n0, .slice a1 t.names.length cap1, .slice a2 t.kids.length cap2] 33)) := Like.of_below (hbx _)
  have hrow := row3_alloc w (.int .i64 n0) (.slice a1 t.names.length cap1) (.slice a2 t.kids.length cap2) 33
  refine (markStringS_shp D (.slice a1 t.names.length cap1) t.names.length k _ ((unhide HS1).like hlk0) hk0 (by omega)).mono ?_
  rintro e w2 ⟨rfl, hlk1⟩
  have hlk := hlk0.trans hlk1
  obtain ⟨v2, k2, l2⟩ := hlk1.cell w.heap.size 2 _ (hrow.cell (i := 2) (by omega))
  simp only [row3] at l2
  have e2' := l2.slice
  subst e2'
  have hshp2 := KShp.like hlk t _ ⟨.int .i64 n0, .slice a1 t.names.length cap1, .slice a2 t.kids.length cap2⟩ (alike.refl _) (alike.refl _) (alike.refl _) (unhide HSHP)
  obtain ⟨-, -, a2', cap2', g2, -, hk2⟩ := hshp2.open
  simp only [Value.slice.injEq] at g2
  obtain ⟨rfl, -, rfl⟩ := g2
  have hc2 := markKindS_all (klsz t.kids + 1) t.kids (by omega) D a2 cap2 (k + t.names.length) w2 hl2 hk2 (by omega) (by omega)
  have HC2 := hide hc2; have HLK := hide hlk
  clear hc2 hlk hlk0 hlk1 hshp2 hk2 l2 hrow
  go_wp2_with fail
  refine (unhide HC2).mono ?_
  rintro e w3 ⟨rfl, hlk3⟩
  have HLK3 := hide ((unhide HLK).trans hlk3)
  clear hlk3
  go_wp2_with fail
  go_ret
  exact ⟨rfl, unhide HLK3⟩

end Go.Proofs.Ytjlllkigeandeab
