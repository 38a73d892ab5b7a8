/- The shape of a tree in memory: of what kind its cells are, whatever they hold. Definitions and small laws, no program. No conditions. -/
import Derived.Test.YtffdofllebbcgaaDoorMerged13
namespace Go.Proofs.YtffdofllebbcgaaDoor
open Go Go.RowKit

mutual
/-- Five cells are of a tree's shape. -/
def TShp (D : Nat → Prop) (w : World) : Tr → C5 → Prop
  | .mk _ _ _ ns ks, c => (∃ n, c.c0 = .int .i64 n) ∧ (∃ n, c.c1 = .int .i64 n) ∧ (∃ s, c.c2 = .string s) ∧ SShp D w c.c3 ns.length ∧
    ∃ a cap, c.c4 = .slice a ks.length cap ∧ ks.length ≤ 9223372036854775807 ∧ (ks ≠ [] → ∃ b o, a = some ⟨b, o, none⟩ ∧ D b ∧ FreeB w b ∧ TShpK D w b o ks)
def TShpK (D : Nat → Prop) (w : World) (b : Nat) (o : Nat) : List Tr → Prop
  | [] => True
  | t :: r => (∃ c, C5.at w b o c ∧ TShp D w t c) ∧ TShpK D w b (o + 5) r
end

mutual
theorem TShp.like {D : Nat → Prop} {w w' : World} (hl : Like D w w') : ∀ (t : Tr) (c c' : C5), alike c.c0 c'.c0 → alike c.c1 c'.c1 → alike c.c2 c'.c2 → alike c.c3 c'.c3 → alike c.c4 c'.c4 → TShp D w t c → TShp D w' t c'
  | .mk s n tx ns ks, c, c' => by
    intro l0 l1 l2 l3 l4 h
    rw [TShp] at h ⊢
    obtain ⟨⟨n0, h0⟩, ⟨n1, h1⟩, ⟨s2, h2⟩, h3, a, cap, h4, h5, h6⟩ := h
    rw [h0] at l0
    rw [h1] at l1
    rw [h2] at l2
    rw [h4] at l4
    have e3 : c'.c3 = c.c3 := by obtain ⟨a1, cap1, e, -⟩ := h3; rw [e] at l3 ⊢; exact l3.slice
    refine ⟨l0.int, l1.int, l2.str, by rw [e3]; exact h3.like hl, a, cap, l4.slice, h5, fun hk => ?_⟩
    obtain ⟨b, o, e, hd, hf, hr⟩ := h6 hk
    obtain ⟨k0, kr, hkk⟩ : ∃ k0 kr, ks = k0 :: kr := by
      cases ks with
      | nil => exact absurd rfl hk
      | cons x y => exact ⟨x, y, rfl⟩
    have hb : b < w.heap.size := by
      rw [hkk, TShpK] at hr
      obtain ⟨⟨c0, hat, -⟩, -⟩ := hr
      exact World.block_lt_of_cell? w _ hat.1
    exact ⟨b, o, e, hd, hl.free b hb hf, TShpK.like hl b o ks hr⟩
theorem TShpK.like {D : Nat → Prop} {w w' : World} (hl : Like D w w') (b : Nat) (o : Nat) : ∀ (ks : List Tr), TShpK D w b o ks → TShpK D w' b o ks
  | [] => by intro _; rw [TShpK]; trivial
  | t :: r => by
    intro h
    rw [TShpK] at h ⊢
    obtain ⟨⟨c, h1, h2⟩, h3⟩ := h
    obtain ⟨v0, g0, l0⟩ := hl.cell _ _ _ h1.1
    obtain ⟨v1, g1, l1⟩ := hl.cell _ _ _ h1.2.1
    obtain ⟨v2, g2, l2⟩ := hl.cell _ _ _ h1.2.2.1
    obtain ⟨v3, g3, l3⟩ := hl.cell _ _ _ h1.2.2.2.1
    obtain ⟨v4, g4, l4⟩ := hl.cell _ _ _ h1.2.2.2.2
    exact ⟨⟨⟨v0, v1, v2, v3, v4⟩, ⟨g0, g1, g2, g3, g4⟩, TShp.like hl t c ⟨v0, v1, v2, v3, v4⟩ l0 l1 l2 l3 l4 h2⟩, TShpK.like hl b (o + 5) r h3⟩
end

mutual
theorem Rep.shp {P D : Nat → Prop} {w : World} (hD : ∀ b, P b → D b ∧ FreeB w b) : ∀ (t : Tr) (c : C5), Rep P w t c → TShp D w t c
  | .mk s n tx ns ks, c => by
    intro h
    rw [Rep] at h
    rw [TShp]
    obtain ⟨h0, h1, h2, -, -, -, ⟨a1, cap1, g1, g2, g3⟩, a, cap, h4, h5, h6⟩ := h
    refine ⟨⟨s, h0⟩, ⟨n, h1⟩, ⟨tx, h2⟩, ⟨a1, cap1, g1, g2, fun i hi => ?_⟩, a, cap, h4, h5, fun hk => ?_⟩
    · obtain ⟨b, o, e, hp, hc, -⟩ := g3 i hi
      exact ⟨b, o, _, e, (hD b hp).1, (hD b hp).2, hc⟩
    · obtain ⟨b, o, e, hp, hr⟩ := h6 hk
      exact ⟨b, o, e, (hD b hp).1, (hD b hp).2, RepK.shp hD b o ks hr⟩
theorem RepK.shp {P D : Nat → Prop} {w : World} (hD : ∀ b, P b → D b ∧ FreeB w b) (b : Nat) (o : Nat) : ∀ (ks : List Tr), RepK P w b o ks → TShpK D w b o ks
  | [] => by intro _; rw [TShpK]; trivial
  | t :: r => by
    intro h
    rw [RepK] at h
    rw [TShpK]
    obtain ⟨⟨c, h1, h2⟩, h3⟩ := h
    exact ⟨⟨c, h1, Rep.shp hD t c h2⟩, RepK.shp hD b (o + 5) r h3⟩
end

theorem TShpK.get {D : Nat → Prop} {w : World} {b o : Nat} {ks : List Tr} (h : TShpK D w b o ks) (i : Nat) (hi : i < ks.length) :
    ∃ c, C5.at w b (o + i * 5) c ∧ TShp D w ks[i] c := by
  induction ks generalizing o i with
  | nil => simp at hi
  | cons t r ih =>
    rw [TShpK] at h
    cases i with
    | zero => exact h.1
    | succ i =>
      obtain ⟨c, h1, h2⟩ := ih h.2 i (by simpa using hi)
      exact ⟨c, by rw [show o + (i + 1) * 5 = o + 5 + i * 5 from by omega]; exact h1, h2⟩

theorem TShp.open {D : Nat → Prop} {w : World} {t : Tr} {c : C5} (h : TShp D w t c) : (∃ n, c.c0 = .int .i64 n) ∧ (∃ n, c.c1 = .int .i64 n) ∧ (∃ s, c.c2 = .string s) ∧ SShp D w c.c3 t.names.length ∧
    ∃ a cap, c.c4 = .slice a t.kids.length cap ∧ t.kids.length ≤ 9223372036854775807 ∧ (t.kids ≠ [] → ∃ b o, a = some ⟨b, o, none⟩ ∧ D b ∧ FreeB w b ∧ TShpK D w b o t.kids) := by
  obtain ⟨s, n, tx, ns, ks⟩ := t
  rw [TShp] at h
  exact h
end Go.Proofs.YtffdofllebbcgaaDoor

/- The walks of markTreeS, markTree, markEvent over a shape: they end, and turn cells of the shape's own blocks alone, each into one of its kind. The marks count to at most 2^40. -/

namespace Go.Proofs.YtffdofllebbcgaaDoor
open Go Go.RowKit

def MkTSaid (n : Nat) : Prop := ∀ (ks : List Tr), lsz ks < n → ∀ (D : Nat → Prop) (a : Option Addr) (cap : Nat) (k : Nat) (w : World), ks.length ≤ 9223372036854775807 → (ks ≠ [] → ∃ b o, a = some ⟨b, o, none⟩ ∧ D b ∧ FreeB w b ∧ TShpK D w b o ks) → 0 < k → k + cK ks ≤ 1099511627776 →
    Calls Tryd.prog 60 #[.slice a ks.length cap, .int .i64 k] w fun e w' => e = .returned (.int .i64 (k + cK ks : Nat)) ∧ Like D w w'

set_option maxRecDepth 100000 in
set_option maxHeartbeats 1600000 in
theorem markTreeT_step (n : Nat) (IH : MkTSaid n) : MkTSaid (n + 1) := by
  intro ks hn D a cap k w hlen hks hk0 hk
  have HKS := hide hks; have HI := hide IH
  clear hks IH
  go_enter Tryd.func60, Tryd.ntmps60
  go_wp2_with fail
  go_loopw [1, 5] (fun kk i wr => ∃ (j m : Nat), j ≤ ks.length ∧ kk = .int .i64 m ∧ i = .int .i64 j ∧ 0 < m ∧ m ≤ 1099511627776 ∧ Hid (m = k + cK (ks.take j)) ∧ Hid (Like D w wr)) (fun _ i _ => ks.length - (intOf i).toNat)
  case atStart => exact ⟨0, k, Nat.zero_le _, rfl, rfl, hk0, by omega, by simp [Hid, cK], Like.refl _ _⟩
  case round =>
    obtain ⟨j, m, hj, rfl, rfl, hm0, hm1, HM, HL⟩ := hrel
    by_cases hlt : j < ks.length
    · have hne : ks ≠ [] := by intro e; rw [e] at hlt; simp at hlt
      obtain ⟨b, o, rfl, hd, hf, hr⟩ := unhide HKS hne
      have hr0 := hr.get j hlt
      have hblt0 : b < w.heap.size := by obtain ⟨c, hat, -⟩ := hr0; exact World.block_lt_of_cell? w _ hat.1
      have hr1 := (TShpK.like HL.out b o ks hr).get j hlt
      obtain ⟨⟨c0, c1, c2, c3, c4⟩, ⟨e0, e1, e2, e3, e4⟩, hshp⟩ := hr1
      have hfb := HL.out.free b hblt0 hf
      obtain ⟨⟨n0, g0⟩, ⟨n1, g1⟩, ⟨s2, g2⟩, hs3, a4, cap4, g4, hl4, -⟩ := hshp.open
      have hs3' := hs3
      obtain ⟨a3, cap3, g3, -, -⟩ := hs3'
      simp only at e0 e1 e2 e3 e4 g0 g1 g2 g3 g4
      subst g0 g1 g2 g3 g4
      have z0 := hfb (o + j * 5); have z1 := hfb (o + j * 5 + 1)
      have hbw : b < wr.heap.size := World.block_lt_of_cell? wr _ e0
      have hst := cK_take_succ ks j hlt
      have hle := cK_take_le ks (j + 1)
      have hct := cT_eq ks[j]
      have hbig : m + 3 + ks[j].names.length + cK ks[j].kids ≤ 1099511627776 := by have := HM.out; omega
      have hsm : lsz ks[j].kids < n := by have := lsz_kid (List.getElem_mem hlt); omega
      have HSHP := hide hshp; have HD := hide hd; have HFB := hide hfb; have HS3 := hide hs3; have HST := hide hst; have HCT := hide hct
      clear hshp hd hf hfb hs3 hst hle hct hr hr0 hne
      go_wp2_with fail
      have hlk0 : Like D wr (wr.setCell ⟨b, o + j * 5, none⟩ (.int .i64 m)) := Like.set (unhide HD) e0 (Or.inl ⟨_, _, rfl, rfl⟩)
      obtain ⟨u1, q1, r1⟩ := hlk0.cell _ _ _ e1
      obtain ⟨x1, rfl⟩ := r1.int
      have hlk1 := hlk0.trans (Like.set (unhide HD) q1 (v := .int .i64 ((m : Int) + 1)) (Or.inl ⟨_, _, rfl, rfl⟩))
      have hmt := fun W => markText_any (m + 2) W (by omega) (by omega)
      rw [show ((m + 2 : Nat) : Int) = (m : Int) + 1 + 1 from by omega] at hmt
      refine (hmt _).mono ?_
      rintro e w2 ⟨rfl, hb2⟩
      have hlk2 := hlk1.trans (Like.of_below hb2)
      obtain ⟨u2, q2, r2⟩ := hlk2.cell _ _ _ e2
      obtain ⟨x2, rfl⟩ := r2.str
      have z2 := (hlk2.free b hbw (unhide HFB)) (o + j * 5 + 2)
      have hlk3 := hlk2.trans (Like.set (unhide HD) q2 (v := .string (mtx (m + 2))) (Or.inr (Or.inl ⟨_, _, rfl, rfl⟩)))
      obtain ⟨u3, q3, r3⟩ := hlk3.cell _ _ _ e3
      have e3' := r3.slice
      subst e3'
      have hc3 := markStringS_shp D (.slice a3 ks[j].names.length cap3) ks[j].names.length (m + 3) _ ((unhide HS3).like hlk3) (by omega) (by omega)
      rw [show ((m + 3 : Nat) : Int) = (m : Int) + 1 + 1 + 1 from by omega] at hc3
      have HC3 := hide hc3; have HLK3 := hide hlk3
      have HLK3E := hide e4
      clear hc3 hlk0 hlk1 hlk2 hlk3 hb2 e0 e1 e2 e3 e4 z0 z1 hmt q1
      go_wp2_with fail
      refine (unhide HC3).mono ?_
      rintro e w4 ⟨rfl, hlk4⟩
      have hlk := (unhide HLK3).trans hlk4
      obtain ⟨u4, q4, r4⟩ := hlk.cell _ _ _ (unhide HLK3E)
      have e4' := r4.slice
      subst e4'
      have hshp2 := TShp.like hlk ks[j] _ ⟨.int .i64 n0, .int .i64 n1, .string s2, .slice a3 ks[j].names.length cap3, .slice a4 ks[j].kids.length cap4⟩ (alike.refl _) (alike.refl _) (alike.refl _) (alike.refl _) (alike.refl _) (unhide HSHP)
      obtain ⟨-, -, -, -, a4', cap4', g4, -, hk4⟩ := hshp2.open
      simp only [Value.slice.injEq] at g4
      obtain ⟨rfl, -, rfl⟩ := g4
      have hc5 := unhide HI ks[j].kids hsm D a4 cap4 (m + 3 + ks[j].names.length) w4 hl4 hk4 (by omega) (by omega)
      have HC5 := hide hc5; have HLK := hide (HL.out.trans hlk)
      clear hc5 hlk hlk4 hshp2 hk4 r4 q2 q3 r2 r3 z2 HC3 HLK3
      go_wp2_with fail
      refine (unhide HC5).mono ?_
      rintro e w5 ⟨rfl, hlk5⟩
      have HLK5 := hide ((unhide HLK).trans hlk5)
      clear hlk5
      go_wp2_with fail
      go_roundw
      case rel => exact ⟨j + 1, m + 3 + ks[j].names.length + cK ks[j].kids, by omega, rfl, by go_num, by omega, by omega, by have := HM.out; have := unhide HST; have := unhide HCT; show _ = _; omega, unhide HLK5⟩
      case measure => simp [intOf]; omega
    · go_wp2_with fail
      go_ret
      obtain rfl : j = ks.length := by omega
      have hm := HM.out
      rw [List.take_length] at hm
      subst hm
      exact ⟨rfl, HL.out⟩

theorem markTreeT_all : ∀ n, MkTSaid n
  | 0 => fun t h => by omega
  | n + 1 => markTreeT_step n (markTreeT_all n)

set_option maxRecDepth 100000 in
set_option maxHeartbeats 800000 in
theorem markTree_shp (D : Nat → Prop) (t : Tr) (c : C5) (k : Nat) (w : World) (h : TShp D w t c) (hk0 : 0 < k) (hk : k + t.names.length + cK t.kids ≤ 1099511627776) :
    Calls Tryd.prog 35 #[.agg #[c.c0, c.c1, c.c2, c.c3, c.c4], .int .i64 k] w fun e w' => e = .returned (.int .i64 (k + t.names.length + cK t.kids : Nat)) ∧ Like D w w' := by
  obtain ⟨c0, c1, c2, c3, c4⟩ := c
  have HSHP := hide h
  obtain ⟨⟨n0, g0⟩, ⟨n1, g1⟩, ⟨s2, g2⟩, hs3, a4, cap4, g4, hl4, -⟩ := h.open
  have HS3 := hide hs3
  obtain ⟨a3, cap3, g3, -, -⟩ := hs3
  simp only at g0 g1 g2 g3 g4
  subst g0 g1 g2 g3 g4
  have hbx : ∀ o, Below w.heap.size w (w.alloc o) := fun o => (Below.refl _ _).alloc (Nat.le_refl _) o
  clear h
  go_enter Tryd.func35, Tryd.ntmps35
  go_wp2_with fail
  have hlk0 : Like D w (w.alloc (.cells #[.int .i64 n0, .int .i64 n1, .string s2, .slice a3 t.names.length cap3, .slice a4 t.kids.length cap4] 32)) := Like.of_below (hbx _)
  have hrow := row5_alloc w (.int .i64 n0) (.int .i64 n1) (.string s2) (.slice a3 t.names.length cap3) (.slice a4 t.kids.length cap4) 32
  refine (markStringS_shp D (.slice a3 t.names.length cap3) t.names.length k _ ((unhide HS3).like hlk0) hk0 (by omega)).mono ?_
  rintro e w2 ⟨rfl, hlk1⟩
  have hlk := hlk0.trans hlk1
  obtain ⟨v4, k4, l4⟩ := hlk1.cell w.heap.size 4 _ (hrow.cell (i := 4) (by omega))
  simp only [row5] at l4
  have e4' := l4.slice
  subst e4'
  have hshp2 := TShp.like hlk t _ ⟨.int .i64 n0, .int .i64 n1, .string s2, .slice a3 t.names.length cap3, .slice a4 t.kids.length cap4⟩ (alike.refl _) (alike.refl _) (alike.refl _) (alike.refl _) (alike.refl _) (unhide HSHP)
  obtain ⟨-, -, -, -, a4', cap4', g4, -, hk4⟩ := hshp2.open
  simp only [Value.slice.injEq] at g4
  obtain ⟨rfl, -, rfl⟩ := g4
  have hc2 := markTreeT_all (lsz t.kids + 1) t.kids (by omega) D a4 cap4 (k + t.names.length) w2 hl4 hk4 (by omega) (by omega)
  have HC2 := hide hc2; have HLK := hide hlk
  clear hc2 hlk hlk0 hlk1 hshp2 hk4 l4 hrow
  go_wp2_with fail
  refine (unhide HC2).mono ?_
  rintro e w3 ⟨rfl, hlk3⟩
  have HLK3 := hide ((unhide HLK).trans hlk3)
  clear hlk3
  go_wp2_with fail
  go_ret
  exact ⟨rfl, unhide HLK3⟩

end Go.Proofs.YtffdofllebbcgaaDoor
