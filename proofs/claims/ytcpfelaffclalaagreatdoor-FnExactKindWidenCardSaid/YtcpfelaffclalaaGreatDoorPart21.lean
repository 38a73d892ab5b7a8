/- The walks of markTreeS, markTree, markEvent over a shape: they end, and turn cells of the shape's own blocks alone, each into one of its kind. The marks count to at most 2^40. -/
import Derived.Test.YtcpfelaffclalaaGreatDoorPart20
import Derived.Deep.RegionWith
import Derived.Test.YtcpfelaffclalaaGreatDoorPart00
import Derived.Laws.Strings
namespace Go.Proofs.YtcpfelaffclalaaGreatDoor
open Go Go.RowKit

def MkTSaid (n : Nat) : Prop := ∀ (ks : List Tr), lsz ks < n → ∀ (D : Nat → Prop) (a : Option Addr) (cap : Nat) (k : Nat) (w : World), ks.length ≤ 9223372036854775807 → (ks ≠ [] → ∃ b o, a = some ⟨b, o, none⟩ ∧ D b ∧ FreeB w b ∧ TShpK D w b o ks) → 0 < k → k + cK ks ≤ 1099511627776 →
    Calls Tryz.prog 42 #[.slice a ks.length cap, .int .i64 k] w fun e w' => e = .returned (.int .i64 (k + cK ks : Nat)) ∧ Like D w w'

set_option maxRecDepth 100000 in
set_option maxHeartbeats 1600000 in
theorem markTreeT_step (n : Nat) (IH : MkTSaid n) : MkTSaid (n + 1) := by
  intro ks hn D a cap k w hlen hks hk0 hk
  have HKS := hide hks; have HI := hide IH
  clear hks IH
  go_enter Tryz.func42, Tryz.ntmps42
  go_wp2_with fail
  go_loopw [1, 5] (fun kk i wr => ∃ (j m : Nat), j ≤ ks.length ∧ kk = .int .i64 m ∧ i = .int .i64 j ∧ 0 < m ∧ m ≤ 1099511627776 ∧ Hid (m = k + cK (ks.take j)) ∧ Hid (Like D w wr)) (fun _ i _ => ks.length - (intOf i).toNat)
  case atStart => exact ⟨0, k, Nat.zero_le _, rfl, rfl, hk0, by omega, by simp [Hid, cK], Like.refl _ _⟩
  case round =>
    obtain ⟨j, m, hj, rfl, rfl, hm0, hm1, HM, HL⟩ := hrel
    by_cases hlt : j < ks.length
    · have hne : ks ≠ [] := by intro e; rw [e] at hlt; simp at hlt
      obtain ⟨b, o, rfl, hd, hf, hr⟩ := unhide HKS hne
      have hr0 := hr.get j hlt
      have hblt0 : b < w.heap.size := by obtain ⟨c, hat, -⟩ := hr0; exact World.block_lt_of_cell? w _ hat.1
      have hr1 := (TShpK.like HL.out b o ks hr).get j hlt
      obtain ⟨⟨c0, c1, c2, c3, c4⟩, ⟨e0, e1, e2, e3, e4⟩, hshp⟩ := hr1
      have hfb := HL.out.free b hblt0 hf
      obtain ⟨⟨n0, g0⟩, ⟨n1, g1⟩, ⟨s2, g2⟩, hs3, a4, cap4, g4, hl4, -⟩ := hshp.open
      have hs3' := hs3
      obtain ⟨a3, cap3, g3, -, -⟩ := hs3'
      simp only at e0 e1 e2 e3 e4 g0 g1 g2 g3 g4
      subst g0 g1 g2 g3 g4
      have z0 := hfb (o + j * 5); have z1 := hfb (o + j * 5 + 1)
      have hbw : b < wr.heap.size := World.block_lt_of_cell? wr _ e0
      have hst := cK_take_succ ks j hlt
      have hle := cK_take_le ks (j + 1)
      have hct := cT_eq ks[j]
      have hbig : m + 3 + ks[j].names.length + cK ks[j].kids ≤ 1099511627776 := by have := HM.out; omega
      have hsm : lsz ks[j].kids < n := by have := lsz_kid (List.getElem_mem hlt); omega
      have HSHP := hide hshp; have HD := hide hd; have HFB := hide hfb; have HS3 := hide hs3; have HST := hide hst; have HCT := hide hct
      clear hshp hd hf hfb hs3 hst hle hct hr hr0 hne
      go_wp2_with fail
      have hlk0 : Like D wr (wr.setCell ⟨b, o + j * 5, none⟩ (.int .i64 m)) := Like.set (unhide HD) e0 (Or.inl ⟨_, _, rfl, rfl⟩)
      obtain ⟨u1, q1, r1⟩ := hlk0.cell _ _ _ e1
      obtain ⟨x1, rfl⟩ := r1.int
      have hlk1 := hlk0.trans (Like.set (unhide HD) q1 (v := .int .i64 ((m : Int) + 1)) (Or.inl ⟨_, _, rfl, rfl⟩))
      have hmt := fun W => markText_any (m + 2) W (by omega) (by omega)
      rw [show ((m + 2 : Nat) : Int) = (m : Int) + 1 + 1 from by omega] at hmt
      refine (hmt _).mono ?_
      rintro e w2 ⟨rfl, hb2⟩
      have hlk2 := hlk1.trans (Like.of_below hb2)
      obtain ⟨u2, q2, r2⟩ := hlk2.cell _ _ _ e2
      obtain ⟨x2, rfl⟩ := r2.str
      have z2 := (hlk2.free b hbw (unhide HFB)) (o + j * 5 + 2)
      have hlk3 := hlk2.trans (Like.set (unhide HD) q2 (v := .string (mtx (m + 2))) (Or.inr (Or.inl ⟨_, _, rfl, rfl⟩)))
      obtain ⟨u3, q3, r3⟩ := hlk3.cell _ _ _ e3
      have e3' := r3.slice
      subst e3'
      have hc3 := markStringS_shp D (.slice a3 ks[j].names.length cap3) ks[j].names.length (m + 3) _ ((unhide HS3).like hlk3) (by omega) (by omega)
      rw [show ((m + 3 : Nat) : Int) = (m : Int) + 1 + 1 + 1 from by omega] at hc3
      have HC3 := hide hc3; have HLK3 := hide hlk3
      have HLK3E := hide e4
      clear hc3 hlk0 hlk1 hlk2 hlk3 hb2 e0 e1 e2 e3 e4 z0 z1 hmt q1
      go_wp2_with fail
      refine (unhide HC3).mono ?_
      rintro e w4 ⟨rfl, hlk4⟩
      have hlk := (unhide HLK3).trans hlk4
      obtain ⟨u4, q4, r4⟩ := hlk.cell _ _ _ (unhide HLK3E)
      have e4' := r4.slice
      subst e4'
      have hshp2 := TShp.like hlk ks[j] _ ⟨.int .i64 n0, .int .i64 n1, .string s2, .slice a3 ks[j].names.length cap3, .slice a4 ks[j].kids.length cap4⟩ (alike.refl _) (alike.refl _) (alike.refl _) (alike.refl _) (alike.refl _) (unhide HSHP)
      obtain ⟨-, -, -, -, a4', cap4', g4, -, hk4⟩ := hshp2.open
      simp only [Value.slice.injEq] at g4
      obtain ⟨rfl, -, rfl⟩ := g4
      have hc5 := unhide HI ks[j].kids hsm D a4 cap4 (m + 3 + ks[j].names.length) w4 hl4 hk4 (by omega) (by omega)
      have HC5 := hide hc5; have HLK := hide (HL.out.trans hlk)
      clear hc5 hlk hlk4 hshp2 hk4 r4 q2 q3 r2 r3 z2 HC3 HLK3
      go_wp2_with fail
      refine (unhide HC5).mono ?_
      rintro e w5 ⟨rfl, hlk5⟩
      have HLK5 := hide ((unhide HLK).trans hlk5)
      clear hlk5
      go_wp2_with fail
      go_roundw
      case rel => exact ⟨j + 1, m + 3 + ks[j].names.length + cK ks[j].kids, by omega, rfl, by go_num, by omega, by omega, by have := HM.out; have := unhide HST; have := unhide HCT; show _ = _; omega, unhide HLK5⟩
      case measure => simp [intOf]; omega
    · go_wp2_with fail
      go_ret
      obtain rfl : j = ks.length := by omega
      have hm := HM.out
      rw [List.take_length] at hm
      subst hm
      exact ⟨rfl, HL.out⟩

theorem markTreeT_all : ∀ n, MkTSaid n
  | 0 => fun t h => by omega
  | n + 1 => markTreeT_step n (markTreeT_all n)

set_option maxRecDepth 100000 in
set_option maxHeartbeats 800000 in
theorem markTree_shp (D : Nat → Prop) (t : Tr) (c : C5) (k : Nat) (w : World) (h : TShp D w t c) (hk0 : 0 < k) (hk : k + t.names.length + cK t.kids ≤ 1099511627776) :
    Calls Tryz.prog 17 #[.agg #[c.c0, c.c1, c.c2, c.c3, c.c4], .int .i64 k] w fun e w' => e = .returned (.int .i64 (k + t.names.length + cK t.kids : Nat)) ∧ Like D w w' := by
  obtain ⟨c0, c1, c2, c3, c4⟩ := c
  have HSHP := hide h
  obtain ⟨⟨n0, g0⟩, ⟨n1, g1⟩, ⟨s2, g2⟩, hs3, a4, cap4, g4, hl4, -⟩ := h.open
  have HS3 := hide hs3
  obtain ⟨a3, cap3, g3, -, -⟩ := hs3
  simp only at g0 g1 g2 g3 g4
  subst g0 g1 g2 g3 g4
  have hbx : ∀ o, Below w.heap.size w (w.alloc o) := fun o => (Below.refl _ _).alloc (Nat.le_refl _) o
  clear h
  go_enter Tryz.func17, Tryz.ntmps17
  go_wp2_with fail
  have hlk0 : Like D w (w.alloc (.cells #[.int .i64 n0, .int .i64 n1, .string s2, .slice a3 t.names.length cap3, .slice a4 t.kids.length cap4] 39)) := Like.of_below (hbx _)
  have hrow := row5_alloc w (.int .i64 n0) (.int .i64 n1) (.string s2) (.slice a3 t.names.length cap3) (.slice a4 t.kids.length cap4) 39
  refine (markStringS_shp D (.slice a3 t.names.length cap3) t.names.length k _ ((unhide HS3).like hlk0) hk0 (by omega)).mono ?_
  rintro e w2 ⟨rfl, hlk1⟩
  have hlk := hlk0.trans hlk1
  obtain ⟨v4, k4, l4⟩ := hlk1.cell w.heap.size 4 _ (hrow.cell (i := 4) (by omega))
  simp only [row5] at l4
  have e4' := l4.slice
  subst e4'
  have hshp2 := TShp.like hlk t _ ⟨.int .i64 n0, .int .i64 n1, .string s2, .slice a3 t.names.length cap3, .slice a4 t.kids.length cap4⟩ (alike.refl _) (alike.refl _) (alike.refl _) (alike.refl _) (alike.refl _) (unhide HSHP)
  obtain ⟨-, -, -, -, a4', cap4', g4, -, hk4⟩ := hshp2.open
  simp only [Value.slice.injEq] at g4
  obtain ⟨rfl, -, rfl⟩ := g4
  have hc2 := markTreeT_all (lsz t.kids + 1) t.kids (by omega) D a4 cap4 (k + t.names.length) w2 hl4 hk4 (by omega) (by omega)
  have HC2 := hide hc2; have HLK := hide hlk
  clear hc2 hlk hlk0 hlk1 hshp2 hk4 l4 hrow
  go_wp2_with fail
  refine (unhide HC2).mono ?_
  rintro e w3 ⟨rfl, hlk3⟩
  have HLK3 := hide ((unhide HLK).trans hlk3)
  clear hlk3
  go_wp2_with fail
  go_ret
  exact ⟨rfl, unhide HLK3⟩

end Go.Proofs.YtcpfelaffclalaaGreatDoor

/- The walks of markTreeS and markTree: trees that own their memory are marked in place, and nothing else turns. For marks up to 2^40. -/

namespace Go.Proofs.YtcpfelaffclalaaGreatDoor
open Go Go.RowKit

/-- What the loop of markTreeS has marked after i rounds. -/
def MrkK (w : World) (b : Nat) (ks : List Tr) (k0 i : Nat) (G : List Nat) : Prop :=
  FreeB w b ∧ ∃ G1 G2, G = G1 ++ G2 ∧ OwnK w b 0 (mK k0 (ks.take i)) G1 ∧ OwnK w b (i * 5) (ks.drop i) G2

theorem MrkK.start {w : World} {b : Nat} {ks : List Tr} {k0 : Nat} {G : List Nat} (hf : FreeB w b) (h : OwnK w b 0 ks G) : MrkK w b ks k0 0 G :=
  ⟨hf, [], G, rfl, by simp [mK, OwnK], by simpa using h⟩

theorem MrkK.open {w : World} {b : Nat} {ks : List Tr} {k0 i : Nat} {G : List Nat} (h : MrkK w b ks k0 i G) (hlt : i < ks.length) :
    ∃ G1 N1 K1 H2 c, G = G1 ++ ((N1 ++ K1) ++ H2) ∧ FreeB w b ∧ OwnK w b 0 (mK k0 (ks.take i)) G1 ∧ OwnK w b (i * 5 + 5) (ks.drop (i + 1)) H2 ∧ C5.at w b (i * 5) c ∧
      c.c0 = .int .i64 ks[i].sort ∧ c.c1 = .int .i64 ks[i].num ∧ c.c2 = .string ks[i].text ∧ StrsOwn w c.c3 ks[i].names N1 ∧ KidsOwn w c.c4 ks[i].kids K1 := by
  obtain ⟨hf, G1, G2, rfl, h1, h2⟩ := h
  rw [List.drop_eq_getElem_cons hlt, OwnK] at h2
  obtain ⟨F1, F2, c, rfl, hc, ho, hr⟩ := h2
  obtain ⟨e0, e1, e2, -, -, -, N1, K1, rfl, hn, hk⟩ := ho.open
  exact ⟨G1, N1, K1, F2, c, rfl, hf, h1, hr, hc, e0, e1, e2, hn, hk⟩

theorem MrkK.step {w w' : World} {b : Nat} {ks : List Tr} {k0 i : Nat} {G1 N1 K1 H2 : List Nat} {c3 c4 : Value} (hlt : i < ks.length) (hbig : k0 + cK ks ≤ 1099511627776)
    (hd : OwnK w b 0 (mK k0 (ks.take i)) G1) (hr : OwnK w b (i * 5 + 5) (ks.drop (i + 1)) H2) (hf : FreeB w' b)
    (hcell : ∀ j, j < i * 5 ∨ i * 5 + 5 ≤ j → w'.cell? ⟨b, j, none⟩ = w.cell? ⟨b, j, none⟩)
    (hblk : ∀ x, x ∈ G1 ∨ x ∈ H2 → w'.heap[x]? = w.heap[x]?)
    (hc : C5.at w' b (i * 5) ⟨.int .i64 (k0 + cK (ks.take i) : Nat), .int .i64 (k0 + cK (ks.take i) + 1 : Nat), .string (mtx (k0 + cK (ks.take i) + 2)), c3, c4⟩)
    (hn : StrsOwn w' c3 (mS (k0 + cK (ks.take i) + 3) ks[i].names) N1) (hk : KidsOwn w' c4 (mK (k0 + cK (ks.take i) + 3 + ks[i].names.length) ks[i].kids) K1) :
    MrkK w' b ks k0 (i + 1) (G1 ++ ((N1 ++ K1) ++ H2)) := by
  have hle := cK_take_le ks (i + 1)
  rw [cK_take_succ ks i hlt, cT_eq] at hle
  refine ⟨hf, G1 ++ (N1 ++ K1), H2, by simp, ?_, ?_⟩
  · rw [List.take_succ_eq_append_getElem hlt, mK_snoc]
    refine OwnK.snoc (OwnK.carry b 0 _ G1 (fun x hx => hblk x (Or.inl hx)) (fun j _ hj => hcell j (Or.inl ?_)) hd) ?_ (c := ⟨.int .i64 (k0 + cK (ks.take i) : Nat), .int .i64 (k0 + cK (ks.take i) + 1 : Nat), .string (mtx (k0 + cK (ks.take i) + 2)), c3, c4⟩) ?_
    · rw [mK_len, List.length_take] at hj; omega
    · rw [mK_len, List.length_take, Nat.min_eq_left (by omega), show 0 + 5 * i = i * 5 from by omega]; exact hc
    · rw [mT_eq]
      exact Own.make rfl rfl rfl ⟨by simp [Tr.sort]; omega, by simp [Tr.sort]; omega⟩ ⟨by simp [Tr.num]; omega, by simp [Tr.num]; omega⟩ (by have := mtx_size (k0 + cK (ks.take i) + 2); simp [Tr.text]; omega) hn hk
  · rw [show (i + 1) * 5 = i * 5 + 5 from by omega]
    exact OwnK.carry b _ _ H2 (fun x hx => hblk x (Or.inr hx)) (fun j hj _ => hcell j (Or.inr hj)) hr

def MkSaid (n : Nat) : Prop := ∀ (ks : List Tr), lsz ks < n → ∀ (v : Value) (F : List Nat) (k : Nat) (w : World), KidsOwn w v ks F → F.Nodup → (∀ x, x ∈ F → x < w.heap.size) → 0 < k → k + cK ks ≤ 1099511627776 →
    Calls Tryz.prog 42 #[v, .int .i64 k] w fun e w' => e = .returned (.int .i64 (k + cK ks : Nat)) ∧ KidsOwn w' v (mK k ks) F ∧ Exc F w w'

/-- One place of a row has turned, and blocks of F; the rest of the row is as it was. -/
structure Part5 (F : List Nat) (w w' : World) (b o : Nat) (c : C5) : Prop where
  at' : C5.at w' b o c
  free : FreeB w' b
  cells : ∀ j, j < o ∨ o + 5 ≤ j → w'.cell? ⟨b, j, none⟩ = w.cell? ⟨b, j, none⟩
  exc : Exc F w w'
  mem : b ∈ F

theorem Part5.start {w : World} {b o : Nat} {c : C5} (h : C5.at w b o c) (hf : FreeB w b) : Part5 [b] w w b o c := ⟨h, hf, fun _ _ => rfl, Exc.refl _ _, by simp⟩
theorem Part5.mono {F G : List Nat} {w w' : World} {b o : Nat} {c : C5} (h : Part5 F w w' b o c) (hs : ∀ x, x ∈ F → x ∈ G) : Part5 G w w' b o c := ⟨h.at', h.free, h.cells, h.exc.mono hs, hs b h.mem⟩
theorem Part5.set0 {F : List Nat} {w w' : World} {b o : Nat} {c0 c1 c2 c3 c4 : Value} (h : Part5 F w w' b o ⟨c0, c1, c2, c3, c4⟩) (v : Value) : Part5 F w (w'.setCell ⟨b, o, none⟩ v) b o ⟨v, c1, c2, c3, c4⟩ := by
  obtain ⟨h0, h1, h2, h3, h4⟩ := h.at'
  refine ⟨⟨by simp [go_sem, h0], by simpa [go_sem] using h1, by simpa [go_sem] using h2, by simpa [go_sem] using h3, by simpa [go_sem] using h4⟩, h.free.set _ _, fun j hj => ?_, h.exc.trans (Exc.set _ _ _ _ h.mem), h.mem⟩
  rw [← h.cells j hj]
  have e : j ≠ o := by omega
  simp [go_sem]
theorem Part5.set1 {F : List Nat} {w w' : World} {b o : Nat} {c0 c1 c2 c3 c4 : Value} (h : Part5 F w w' b o ⟨c0, c1, c2, c3, c4⟩) (v : Value) : Part5 F w (w'.setCell ⟨b, o + 1, none⟩ v) b o ⟨c0, v, c2, c3, c4⟩ := by
  obtain ⟨h0, h1, h2, h3, h4⟩ := h.at'
  refine ⟨⟨by simpa [go_sem] using h0, by simp [go_sem, h1], by simpa [go_sem] using h2, by simpa [go_sem] using h3, by simpa [go_sem] using h4⟩, h.free.set _ _, fun j hj => ?_, h.exc.trans (Exc.set _ _ _ _ h.mem), h.mem⟩
  rw [← h.cells j hj]
  have e : j ≠ o + 1 := by omega
  simp [go_sem]
theorem Part5.set2 {F : List Nat} {w w' : World} {b o : Nat} {c0 c1 c2 c3 c4 : Value} (h : Part5 F w w' b o ⟨c0, c1, c2, c3, c4⟩) (v : Value) : Part5 F w (w'.setCell ⟨b, o + 2, none⟩ v) b o ⟨c0, c1, v, c3, c4⟩ := by
  obtain ⟨h0, h1, h2, h3, h4⟩ := h.at'
  refine ⟨⟨by simpa [go_sem] using h0, by simpa [go_sem] using h1, by simp [go_sem, h2], by simpa [go_sem] using h3, by simpa [go_sem] using h4⟩, h.free.set _ _, fun j hj => ?_, h.exc.trans (Exc.set _ _ _ _ h.mem), h.mem⟩
  rw [← h.cells j hj]
  have e : j ≠ o + 2 := by omega
  simp [go_sem]
theorem Part5.lt {F : List Nat} {w w' : World} {b o : Nat} {c : C5} (h : Part5 F w w' b o c) : b < w'.heap.size := World.block_lt_of_cell? w' _ h.at'.1
theorem Part5.on {F H : List Nat} {w w' w2 : World} {b o : Nat} {c : C5} (h : Part5 F w w' b o c) (hx : Exc H w' w2) (hb : b ∉ H) (hs : ∀ x, x ∈ H → x ∈ F) : Part5 F w w2 b o c := by
  have hblk := hx.block b h.lt hb
  exact ⟨h.at'.carry hblk, h.free.of_block hblk, fun j hj => by rw [World.cell?_of_block (w := w') (a := ⟨b, j, none⟩) hblk]; exact h.cells j hj, h.exc.trans (hx.mono hs), h.mem⟩

set_option maxHeartbeats 800000 in
theorem markTreeS_step (n : Nat) (IH : MkSaid n) : MkSaid (n + 1) := by
  intro ks hn v F k w hv hnd hlt0 hk0 hk
  obtain ⟨a, cap, rfl, hlen, hc⟩ := hv
  rcases hc with ⟨rfl, rfl⟩ | ⟨b, G, rfl, rfl, hfr, hc⟩
  · simp only [List.length_nil, cK, Nat.add_zero] at *
    clear IH
    go_enter Tryz.func42, Tryz.ntmps42
    go_wp2_with fail
    go_loopw [1, 5] (fun kk i wr => kk = .int .i64 k ∧ i = .int .i64 0 ∧ wr = w) (fun _ _ _ => 0)
    case atStart => exact ⟨rfl, rfl, rfl⟩
    case round =>
      obtain ⟨rfl, rfl, rfl⟩ := hrel
      go_wp2_with fail
      go_ret
      exact ⟨rfl, ⟨a, cap, by simp [mK], by simp [mK], Or.inl ⟨by rw [mK], rfl⟩⟩, Exc.refl _ _⟩
  · have HM := hide (MrkK.start (k0 := k) hfr hc)
    have HI := hide IH
    have HND := hide hnd
    have HLT := hide hlt0
    clear hfr hc IH hnd hlt0
    go_enter Tryz.func42, Tryz.ntmps42
    go_wp2_with fail
    go_loopw [1, 5] (fun kk i wr => ∃ (j : Nat), j ≤ ks.length ∧ kk = .int .i64 (k + cK (ks.take j) : Nat) ∧ i = .int .i64 j ∧ Hid (MrkK wr b ks k j G) ∧ Exc (b :: G) w wr) (fun _ i _ => ks.length - (intOf i).toNat)
    case atStart => exact ⟨0, Nat.zero_le _, by simp [cK], rfl, HM, Exc.refl _ _⟩
    case round =>
      obtain ⟨j, hj, rfl, rfl, HMj, hex⟩ := hrel
      by_cases hlt : j < ks.length
      · have hle := cK_take_le ks (j + 1)
        have hsuc := cK_take_succ ks j hlt
        rw [cT_eq] at hsuc
        obtain ⟨G1, N1, K1, H2, c, hG, hf, hd, hr, hat, e0, e1, e2, hnm, hkd⟩ := HMj.out.open hlt
        obtain ⟨c0, c1, c2, c3, c4⟩ := c
        have hblt : b < wr.heap.size := Nat.lt_of_lt_of_le (unhide HLT b (by simp)) hex.size
        have hGlt : ∀ x, x ∈ G → x < wr.heap.size := fun x hx => Nat.lt_of_lt_of_le (unhide HLT x (by simp [hx])) hex.size
        have hnd := unhide HND
        rw [hG] at hnd hGlt
        rw [List.nodup_cons] at hnd
        obtain ⟨hbn, hnd⟩ := hnd
        have hle2 : cK (ks.take j) + (3 + ks[j].names.length + cK ks[j].kids) ≤ cK ks := by omega
        have hsm : lsz ks[j].kids < n := by have := lsz_kid (List.getElem_mem hlt); omega
        have HS := hide hsuc
        generalize hq : k + cK (ks.take j) = q at *
        have HQ := hide hq
        have hq1 : 0 < q := by omega
        have hq2 : q + 3 + ks[j].names.length + cK ks[j].kids ≤ 1099511627776 := by omega
        generalize hnames : ks[j].names = nms at *
        generalize hkids : ks[j].kids = kds at *
        have HNM := hide hnm; have HKD := hide hkd; have HD := hide hd; have HR := hide hr; have HGL := hide hGlt; have HBN := hide hbn; have HN2 := hide hnd; have HG := hide hG; have HF := hide hf; have HAT := hide hat
        have HNE := hide hnames; have HKE := hide hkids
        obtain ⟨y0, y1, y2, y3, y4⟩ := hat
        simp only at e0 e1 e2 y0 y1 y2 y3 y4
        have z0 := hf (j * 5); have z1 := hf (j * 5 + 1); have z2 := hf (j * 5 + 2)
        clear hnm hkd hd hr hGlt hbn hnd hG hf hsuc hle hle2 hnames hkids hq e0 e1 e2 HM HMj
        go_wp2_with fail
        refine (markText_any (q + 2) _ (by omega) (by omega)).mono ?_
        rintro e w' ⟨rfl, hb'⟩
        have p2 := (((Part5.start HAT.out HF.out).set0 (.int .i64 q)).set1 (.int .i64 ((q : Int) + 1))).on (H := []) (Exc.of_below hb') (by simp) (by simp)
        have HP2 := hide p2
        obtain ⟨-, -, x2, x3, x4⟩ := p2.at'
        have zz2 := p2.free (j * 5 + 2)
        simp only at x2 x3 x4
        clear p2 hb' y0 y1 y2 y3 y4 z0 z1 z2 HAT
        go_wp2_with fail
        have p3 := HP2.out.set2 (.string (mtx (q + 2)))
        have hbn := HBN.out
        simp only [List.mem_append, not_or] at hbn
        have hd3 : ∀ x, x ≠ b → x < wr.heap.size → (w'.setCell ⟨b, j * 5 + 2, none⟩ (.string (mtx (q + 2)))).heap[x]? = wr.heap[x]? := fun x hx hxl => p3.exc.block x hxl (by simpa using hx)
        have hne : ∀ x, x ∈ G1 ++ ((N1 ++ K1) ++ H2) → x ≠ b := fun x hx e => HBN.out (e ▸ hx)
        refine (markStringS_any c3 nms N1 (q + 3) _ (HNM.out.carry fun x hx => hd3 x (hne x (by simp [hx])) (HGL.out x (by simp [hx]))) (by omega) (by omega)).mono ?_
        rintro e w3 ⟨rfl, hs3, hx3⟩
        have p4 := (p3.mono (G := b :: N1) (by simp)).on hx3 (by simp [hbn.2.1.1]) (fun x hx => by simp [hx])
        obtain ⟨-, -, -, -, x4'⟩ := p4.at'
        simp only at x4'
        have HP4 := hide p4; have HS3 := hide hs3
        clear p3 p4 hs3 x2 x3 x4 zz2 hd3 hne hx3 HP2 hbn
        go_wp2_with fail
        have hnd := HN2.out
        rw [List.nodup_append] at hnd
        obtain ⟨hnd1, hnd2, hnd3⟩ := hnd
        rw [List.nodup_append] at hnd2
        obtain ⟨hnd4, hnd5, hnd6⟩ := hnd2
        rw [List.nodup_append] at hnd4
        obtain ⟨hnd7, hnd8, hnd9⟩ := hnd4
        refine (HI.out kds hsm c4 K1 (q + 3 + nms.length) w3 (HKD.out.carry fun x hx => HP4.out.exc.block x (HGL.out x (by simp [hx])) ?_) hnd8 (fun x hx => Nat.lt_of_lt_of_le (HGL.out x (by simp [hx])) HP4.out.exc.size) (by omega) (by omega)).mono ?_
        · simp only [List.mem_cons, not_or]
          exact ⟨fun e => HBN.out (by rw [← e]; simp [hx]), fun hm => hnd9 x hm x hx rfl⟩
        rintro e w4 ⟨rfl, hk4, hx4⟩
        go_wp2_with fail
        go_roundw
        case rel =>
          have hbK : b ∉ K1 := fun hm => HBN.out (by simp [hm])
          have p5 := (HP4.out.mono (G := b :: (N1 ++ K1)) (fun x hx => by simp only [List.mem_cons, List.mem_append] at *; rcases hx with h | h; exact Or.inl h; exact Or.inr (Or.inl h))).on hx4 hbK (fun x hx => by simp [hx])
          have hs4 := HS3.out.carry (w' := w4) fun x hx => hx4.block x (Nat.lt_of_lt_of_le (HGL.out x (by simp [hx])) HP4.out.exc.size) (fun hm => hnd9 x hx x hm rfl)
          have hq := HQ.out
          subst hq
          have hnmE := HNE.out; have hkdE := HKE.out
          subst hnmE hkdE
          have hst := MrkK.step (w := wr) (w' := w4) (c3 := c3) (c4 := c4) hlt hk HD.out HR.out p5.free p5.cells (fun x hx => p5.exc.block x (HGL.out x (by rcases hx with h | h <;> simp [h])) (by
            simp only [List.mem_cons, List.mem_append, not_or]
            rcases hx with h | h
            · exact ⟨fun e => HBN.out (by rw [← e]; simp [h]), fun hm => hnd3 x h x (by simp [hm]) rfl, fun hm => hnd3 x h x (by simp [hm]) rfl⟩
            · exact ⟨fun e => HBN.out (by rw [← e]; simp [h]), fun hm => hnd6 x (by simp [hm]) x h rfl, fun hm => hnd6 x (by simp [hm]) x h rfl⟩)) (by simpa using p5.at') hs4 hk4
          refine ⟨j + 1, by omega, ?_, by go_num, hide (by rw [HG.out]; exact hst), hex.trans (p5.exc.mono fun x hx => ?_)⟩
          · rw [HS.out]; congr 2; omega
          · rw [HG.out]
            simp only [List.mem_cons, List.mem_append] at *
            rcases hx with h | h | h
            · exact Or.inl h
            · exact Or.inr (Or.inr (Or.inl (Or.inl h)))
            · exact Or.inr (Or.inr (Or.inl (Or.inr h)))
        case measure => simp [intOf]; omega
      · go_wp2_with fail
        go_ret
        obtain rfl : j = ks.length := by omega
        obtain ⟨hf, G1, G2, hG, h1, h2⟩ := HMj.out
        rw [List.take_length] at h1
        rw [List.drop_length, OwnK] at h2
        subst h2
        rw [List.append_nil] at hG
        subst hG
        rw [List.take_length]
        exact ⟨rfl, ⟨_, cap, by rw [mK_len], by rw [mK_len]; exact hlen, Or.inr ⟨b, G, rfl, rfl, hf, h1⟩⟩, hex⟩

theorem markTreeS_all : ∀ n, MkSaid n
  | 0 => fun t h => by omega
  | n + 1 => markTreeS_step n (markTreeS_all n)

set_option maxHeartbeats 400000 in
/-- Marking a tree: its own five cells are the caller's, and stay. -/
theorem markTree_any (t : Tr) (c : C5) (F : List Nat) (k : Nat) (w : World) (h : Own w t c F) (hnd : F.Nodup) (hlt : ∀ x, x ∈ F → x < w.heap.size) (hk0 : 0 < k) (hk : k + t.names.length + cK t.kids ≤ 1099511627776) :
    Calls Tryz.prog 17 #[.agg #[c.c0, c.c1, c.c2, c.c3, c.c4], .int .i64 k] w fun e w' => e = .returned (.int .i64 (k + t.names.length + cK t.kids : Nat)) ∧ Own w' (.mk t.sort t.num t.text (mS k t.names) (mK (k + t.names.length) t.kids)) c F ∧ Exc F w w' := by
  obtain ⟨e0, e1, e2, i0, i1, i2, N1, K1, rfl, hn, hkd⟩ := h.open
  obtain ⟨c0, c1, c2, c3, c4⟩ := c
  simp only at e0 e1 e2 hn hkd
  have HN := hide hn; have HK := hide hkd; have HND := hide hnd; have HLT := hide hlt; have H := hide h
  have HE := hide (And.intro e0 (And.intro e1 e2))
  have HI := hide (And.intro i0 (And.intro i1 i2))
  clear hn hkd hnd hlt h e0 e1 e2 i0 i1 i2
  go_enter Tryz.func17, Tryz.ntmps17
  go_wp2_with fail
  have hal : ∀ x, x < w.heap.size → (w.alloc (.cells #[c0, c1, c2, c3, c4] 39)).heap[x]? = w.heap[x]? := fun x hx => Below.heap_alloc _ _ _ hx
  refine (markStringS_any c3 t.names N1 k _ (HN.out.carry fun x hx => hal x (HLT.out x (by simp [hx]))) hk0 (by omega)).mono ?_
  rintro e w1 ⟨rfl, hs1, hx1⟩
  have hwn : w.heap.size ∉ N1 := fun hm => by have := HLT.out _ (List.mem_append_left K1 hm); omega
  have r0 := (row5_alloc w c0 c1 c2 c3 c4 39).of_block (hx1.block w.heap.size (by simp) hwn)
  have k4 := r0.cell (i := 4) (by omega)
  simp only [row5] at k4
  have hnd := HND.out
  rw [List.nodup_append] at hnd
  obtain ⟨hnd1, hnd2, hnd3⟩ := hnd
  have HS1 := hide hs1; have HX1 := hide hx1; have HD3 := hide hnd3; have HD2 := hide hnd2
  clear hs1 hx1 r0 hal hnd1 hnd2 hnd3
  go_wp2_with fail
  refine (markTreeS_all (lsz t.kids + 1) t.kids (by omega) c4 K1 (k + t.names.length) w1 (HK.out.carry fun x hx => ?_) HD2.out (fun x hx => ?_) (by omega) (by omega)).mono ?_
  · rw [HX1.out.block x (by have := HLT.out x (by simp [hx]); simp; omega) (fun hm => HD3.out x hm x hx rfl)]
    exact Below.heap_alloc _ _ _ (HLT.out x (by simp [hx]))
  · have := HLT.out x (by simp [hx]); have := HX1.out.size; simp at this; omega
  rintro e w2 ⟨rfl, hk2, hx2⟩
  go_wp2_with fail
  go_ret
  refine ⟨rfl, ?_, ?_⟩
  · refine Own.make HE.out.1 HE.out.2.1 HE.out.2.2 HI.out.1 HI.out.2.1 HI.out.2.2 (HS1.out.carry fun x hx => hx2.block x ?_ (fun hm => HD3.out x hx x hm rfl)) hk2
    have := HLT.out x (by simp [hx]); have := HX1.out.size; simp at this; omega
  · exact ((Exc.of_below ((Below.refl _ _).alloc (Nat.le_refl _) _)).trans (HX1.out.mono fun x hx => by simp [hx])).trans (hx2.mono fun x hx => by simp [hx])
end Go.Proofs.YtcpfelaffclalaaGreatDoor

/- The walk of heldStringS: of what was marked it tells the next mark, and turns nothing that was there. For marks up to 2^40. -/

namespace Go.Proofs.YtcpfelaffclalaaGreatDoor
open Go Go.RowKit

set_option maxHeartbeats 400000 in
theorem heldStringS_any (v : Value) (ss : List ByteArray) (k : Nat) (w : World) {P : Nat → Prop} (hv : StrsAt P w v (mS k ss)) (hP : ∀ b, P b → b < w.heap.size) (hk0 : 0 < k) (hk : k + ss.length ≤ 1099511627776) :
    Calls Tryz.prog 43 #[v, .int .i64 k] w fun e w' => e = .returned (.int .i64 (k + ss.length : Nat)) ∧ Below w.heap.size w w' := by
  obtain ⟨a, cap, rfl, hlen, hc⟩ := hv
  rw [mS_len] at hlen
  have hc' : ∀ i, i < ss.length → ∃ b o, a = some ⟨b, o, none⟩ ∧ P b ∧ w.cell? ⟨b, o + i, none⟩ = some (.string (mtx (k + i))) := fun i hi => by
    obtain ⟨b, o, e, hp, hcell, _⟩ := hc i (by rw [mS_len]; exact hi)
    rw [mS_get] at hcell
    exact ⟨b, o, e, hp, hcell⟩
  rw [mS_len]
  have HC := hide hc'; have HP := hide hP
  clear hc hc' hP
  go_enter Tryz.func43, Tryz.ntmps43
  go_wp2_with fail
  go_loopw [1, 5] (fun kk i wr => ∃ (j : Nat), j ≤ ss.length ∧ kk = .int .i64 (k + j : Nat) ∧ i = .int .i64 j ∧ Below w.heap.size w wr) (fun _ i _ => ss.length - (intOf i).toNat)
  case atStart => exact ⟨0, Nat.zero_le _, rfl, rfl, Below.refl _ _⟩
  case round =>
    obtain ⟨j, hj, rfl, rfl, hb⟩ := hrel
    by_cases hlt : j < ss.length
    · obtain ⟨b, o, rfl, hpb, hcell⟩ := unhide HC j hlt
      have e1 : wr.cell? ⟨b, o + j, none⟩ = some (.string (mtx (k + j))) := by rw [hb.cell (unhide HP b hpb)]; exact hcell
      have hcall := (markText_any (k + j) wr.drew (by omega) (by omega)).mono (fun e w' (h : e = .returned (.string (mtx (k + j))) ∧ Below wr.drew.heap.size wr.drew w') => (⟨h.1, h.2, by rw [h.2.cell (World.block_lt_of_cell? wr _ e1)]; exact e1⟩ : e = .returned (.string (mtx (k + j))) ∧ Below wr.drew.heap.size wr.drew w' ∧ w'.cell? ⟨b, o + j, none⟩ = some (.string (mtx (k + j)))))
      have HCALL := hide hcall
      clear hcell hpb hcall
      go_wp2_with fail
      go_region_with (go_at_call 67; refine (unhide HCALL).mono ?_; rintro e w' ⟨rfl, hb', hc'⟩)
      all_goals
        have hb2 := hb.drew.trans (hb'.mono hb.drew.size)
        go_wp2_with fail
        go_roundw
        case rel => exact ⟨j + 1, by omega, by go_num, by go_num, hb2⟩
        case measure => simp [intOf]; omega
    · go_wp2_with fail
      go_ret
      obtain rfl : j = ss.length := by omega
      exact ⟨rfl, hb⟩
end Go.Proofs.YtcpfelaffclalaaGreatDoor

/- The walks of heldTreeS, heldTree: of what was marked they tell the next mark, and turn nothing that was there. For marks up to 2^40. -/

namespace Go.Proofs.YtcpfelaffclalaaGreatDoor
open Go Go.RowKit

def HeldSaid (n : Nat) : Prop := ∀ (ks : List Tr), lsz ks < n → ∀ (P : Nat → Prop) (a : Option Addr) (cap k : Nat) (w : World), (∀ b, P b → b < w.heap.size) → ks.length ≤ 9223372036854775807 →
    (∀ i, (hi : i < ks.length) → ∃ b o c, a = some ⟨b, o, none⟩ ∧ P b ∧ C5.at w b (o + i * 5) c ∧ Rep P w (mT (k + cK (ks.take i)) ks[i]) c) → 0 < k → k + cK ks ≤ 1099511627776 →
    Calls Tryz.prog 44 #[.slice a ks.length cap, .int .i64 k] w fun e w' => e = .returned (.int .i64 (k + cK ks : Nat)) ∧ Below w.heap.size w w'

theorem heldTree_kids {P : Nat → Prop} {w : World} {k : Nat} {ks : List Tr} {a : Option Addr}
    (h : ∀ i, (hi : i < (mK k ks).length) → ∃ b o c, a = some ⟨b, o, none⟩ ∧ P b ∧ C5.at w b (o + i * 5) c ∧ Rep P w (mK k ks)[i] c) :
    ∀ i, (hi : i < ks.length) → ∃ b o c, a = some ⟨b, o, none⟩ ∧ P b ∧ C5.at w b (o + i * 5) c ∧ Rep P w (mT (k + cK (ks.take i)) ks[i]) c := fun i hi => by
  obtain ⟨b, o, c, h1, h2, h3, h4⟩ := h i (by rw [mK_len]; exact hi)
  rw [mK_get] at h4
  exact ⟨b, o, c, h1, h2, h3, h4⟩

set_option maxHeartbeats 800000 in
theorem heldTreeS_step (n : Nat) (IH : HeldSaid n) : HeldSaid (n + 1) := by
  intro ks hn P a cap k w hP hlen hc hk0 hk
  have HC := hide hc; have HP := hide hP; have HI := hide IH
  clear hc hP IH
  go_enter Tryz.func44, Tryz.ntmps44
  go_wp2_with fail
  go_loopw [1, 5] (fun kk i wr => ∃ (j : Nat), j ≤ ks.length ∧ kk = .int .i64 (k + cK (ks.take j) : Nat) ∧ i = .int .i64 j ∧ Below w.heap.size w wr) (fun _ i _ => ks.length - (intOf i).toNat)
  case atStart => exact ⟨0, Nat.zero_le _, by simp [cK], rfl, Below.refl _ _⟩
  case round =>
    obtain ⟨j, hj, rfl, rfl, hb⟩ := hrel
    by_cases hlt : j < ks.length
    · have hle := cK_take_le ks (j + 1)
      have hsuc := cK_take_succ ks j hlt
      rw [cT_eq] at hsuc
      obtain ⟨b, o, c, rfl, hpb, hat, hrep⟩ := unhide HC j hlt
      have hat' := hat.carry (hb.block b (unhide HP b hpb))
      have hsm : lsz ks[j].kids < n := by have := lsz_kid (List.getElem_mem hlt); omega
      have hle2 : cK (ks.take j) + (3 + ks[j].names.length + cK ks[j].kids) ≤ cK ks := by omega
      have HS := hide hsuc
      generalize hq : k + cK (ks.take j) = q at *
      have HQ := hide hq
      have hq1 : 0 < q := by omega
      have hq2 : q + 3 + ks[j].names.length + cK ks[j].kids ≤ 1099511627776 := by omega
      rw [mT_eq] at hrep
      generalize ks[j].names = nms at *
      generalize ks[j].kids = kds at *
      obtain ⟨e0, e1, e2, -, -, -, hns, a4, cap4, e4, hl4, hks⟩ := hrep.open
      simp only [Tr.sort, Tr.num, Tr.text, Tr.names, Tr.kids] at e0 e1 e2 hns e4 hl4 hks
      obtain ⟨c0, c1, c2, c3, c4⟩ := c
      simp only at e0 e1 e2 e4 hns
      subst e0 e1 e2 e4
      have hks' := heldTree_kids hks
      rw [mK_len] at hl4
      have HNS := hide hns; have HKS := hide hks'
      obtain ⟨y0, y1, y2, y3, y4⟩ := hat'
      simp only [mK_len] at y0 y1 y2 y3 y4
      have hblt : b < wr.heap.size := Nat.lt_of_lt_of_le (unhide HP b hpb) hb.size
      have hcall := (markText_any (q + 2) wr.drew (by omega) (by omega)).mono (fun e w' (h : e = .returned (.string (mtx (q + 2))) ∧ Below wr.drew.heap.size wr.drew w') => (⟨h.1, h.2, (h.2.cell (p := ⟨b, o + j * 5 + 2, none⟩) hblt).trans y2, (h.2.cell (p := ⟨b, o + j * 5 + 3, none⟩) hblt).trans y3, (h.2.cell (p := ⟨b, o + j * 5 + 4, none⟩) hblt).trans y4⟩ :
        e = .returned (.string (mtx (q + 2))) ∧ Below wr.drew.heap.size wr.drew w' ∧ w'.cell? ⟨b, o + j * 5 + 2, none⟩ = some (.string (mtx (q + 2))) ∧ w'.cell? ⟨b, o + j * 5 + 3, none⟩ = some c3 ∧ w'.cell? ⟨b, o + j * 5 + 4, none⟩ = some (.slice a4 kds.length cap4)))
      have HCALL := hide hcall
      have hqi : (q : Int) ≤ 1099511627776 := by omega
      clear hle hle2 hsuc hrep hat hks hns hks' hcall hpb
      go_wp2_with fail
      go_region_with (go_at_call 67; refine (unhide HCALL).mono ?_; rintro e w' ⟨rfl, hb', x2, x3, x4⟩)
      all_goals
        have hb2 := hb.drew.trans (hb'.mono hb.drew.size)
        have HB2 := hide hb2
        clear hb' hb2 y0 y1 y2 y3 y4
        go_wp2_with fail
        refine (heldStringS_any c3 nms (q + 3) w' (P := P) (HNS.out.carry (fun b hb => HB2.out.block b (HP.out b hb)) (fun _ h => h)) (fun b hb => Nat.lt_of_lt_of_le (HP.out b hb) HB2.out.size) (by omega) (by omega)).mono ?_
        rintro e w3 ⟨rfl, hb3⟩
        have z4 : w3.cell? ⟨b, o + j * 5 + 4, none⟩ = some (.slice a4 kds.length cap4) := (hb3.cell (p := ⟨b, o + j * 5 + 4, none⟩) (World.block_lt_of_cell? w' _ x4)).trans x4
        have hb4 := HB2.out.trans (hb3.mono HB2.out.size)
        have HB4 := hide hb4
        clear hb3 hb4 x2 x3 x4
        go_wp2_with fail
        refine (HI.out kds hsm P a4 cap4 (q + 3 + nms.length) w3 (fun b hb => Nat.lt_of_lt_of_le (HP.out b hb) HB4.out.size) hl4 (fun i hi => ?_) (by omega) (by omega)).mono ?_
        · obtain ⟨b, o, c, h1, h2, h3, h4⟩ := HKS.out i hi
          exact ⟨b, o, c, h1, h2, h3.carry (HB4.out.block b (HP.out b h2)), Rep.carry (fun b hb => HB4.out.block b (HP.out b hb)) (fun _ h => h) _ _ h4⟩
        rintro e w5 ⟨rfl, hb5⟩
        have hb6 := HB4.out.trans (hb5.mono HB4.out.size)
        clear hb5
        go_wp2_with fail
        go_roundw
        case rel =>
          refine ⟨j + 1, by omega, ?_, by go_num, hb6⟩
          rw [HS.out]; congr 2; have := HQ.out; omega
        case measure => simp [intOf]; omega
    · go_wp2_with fail
      go_ret
      obtain rfl : j = ks.length := by omega
      rw [List.take_length]
      exact ⟨rfl, hb⟩

theorem heldTreeS_all : ∀ n, HeldSaid n
  | 0 => fun t h => by omega
  | n + 1 => heldTreeS_step n (heldTreeS_all n)

set_option maxHeartbeats 400000 in
theorem heldTree_any (t : Tr) (s n : Int) (tx : ByteArray) (P : Nat → Prop) (c : C5) (k : Nat) (w : World) (hP : ∀ b, P b → b < w.heap.size) (h : Rep P w (.mk s n tx (mS k t.names) (mK (k + t.names.length) t.kids)) c) (hk0 : 0 < k) (hk : k + t.names.length + cK t.kids ≤ 1099511627776) :
    Calls Tryz.prog 18 #[.agg #[c.c0, c.c1, c.c2, c.c3, c.c4], .int .i64 k] w fun e w' => e = .returned (.int .i64 (k + t.names.length + cK t.kids : Nat)) ∧ Below w.heap.size w w' := by
  generalize t.names = nms at *
  generalize t.kids = kds at *
  obtain ⟨-, -, -, -, -, -, hns, a4, cap4, e4, hl4, hks⟩ := h.open
  simp only [Tr.names, Tr.kids] at hns e4 hl4 hks
  obtain ⟨c0, c1, c2, c3, c4⟩ := c
  simp only at hns e4
  rw [mK_len] at hl4 e4
  subst e4
  have HN := hide hns; have HK := hide (heldTree_kids hks); have HP := hide hP
  clear hns hks hP h
  go_enter Tryz.func18, Tryz.ntmps18
  go_wp2_with fail
  have hbx : Below w.heap.size w (w.alloc (.cells #[c0, c1, c2, c3, .slice a4 kds.length cap4] 39)) := (Below.refl _ _).alloc (Nat.le_refl _) _
  refine (heldStringS_any c3 nms k _ (P := P) (HN.out.carry (fun b hb => hbx.block b (HP.out b hb)) (fun _ h => h)) (fun b hb => Nat.lt_of_lt_of_le (HP.out b hb) hbx.size) (by omega) (by omega)).mono ?_
  rintro e w1 ⟨rfl, hb1⟩
  obtain ⟨q0, hsz, hb01⟩ := box1 hb1
  have k4 := q0.cell (i := 4) (by omega)
  simp only [row5] at k4
  have HB1 := hide hb01
  clear hb1 q0 hb01 hbx
  go_wp2_with fail
  refine (heldTreeS_all (lsz kds + 1) kds (by omega) P a4 cap4 (k + nms.length) w1 (fun b hb => Nat.lt_of_lt_of_le (HP.out b hb) HB1.out.size) hl4 (fun i hi => ?_) (by omega) (by omega)).mono ?_
  · obtain ⟨b, o, c, h1, h2, h3, h4⟩ := HK.out i hi
    exact ⟨b, o, c, h1, h2, h3.carry (HB1.out.block b (HP.out b h2)), Rep.carry (fun b hb => HB1.out.block b (HP.out b hb)) (fun _ h => h) _ _ h4⟩
  rintro e w2 ⟨rfl, hb2⟩
  have hb3 := HB1.out.trans (hb2.mono HB1.out.size)
  go_wp2_with fail
  go_ret
  exact ⟨rfl, hb3⟩
end Go.Proofs.YtcpfelaffclalaaGreatDoor

/- The bytes of texts, numbers, trees and events, and how many they are. No program, no conditions. -/

namespace Go.Proofs.YtcpfelaffclalaaGreatDoor
open Go Go.RowKit


/-- What is known of a tree that is ok, by its sort. -/
theorem ok_sort {t : Tr} {d : Int} (h : 0 < pT t d) : t.sort = 1 ∨ t.sort = 2 ∨ t.sort = 3 ∨ t.sort = 4 ∨ t.sort = 5 ∨ t.sort = 6 := by
  rw [pT_eq] at h
  split at h
  · omega
  · rename_i hn
    have ha : aloneB t = true := by simpa using (not_or.1 hn).2
    unfold aloneB at ha
    by_cases h1 : t.sort = 1; · omega
    by_cases h2 : t.sort = 2; · omega
    by_cases h3 : t.sort = 3; · omega
    by_cases h4 : t.sort = 4; · omega
    by_cases h5 : t.sort = 5; · omega
    by_cases h6 : t.sort = 6; · omega
    simp [h1, h2, h3, h4, h5, h6] at ha

theorem ok_alone {t : Tr} {d : Int} (h : 0 < pT t d) : aloneB t = true ∧ d ≤ 6 ∧ pT t d = pK t.kids d 1 := by
  rw [pT_eq] at h ⊢
  split at h
  · omega
  · rename_i hn
    have hn' := not_or.1 hn
    rw [if_neg hn]
    exact ⟨by simpa using hn'.2, by omega, rfl⟩

theorem ok_names {t : Tr} {d : Int} (h : 0 < pT t d) (h1 : t.sort = 5) : t.names.length = t.kids.length ∧ ∀ s ∈ t.names, s.size ≤ 8 := by
  have ha := (ok_alone h).1
  unfold aloneB at ha
  simp [h1] at ha
  refine ⟨ha.1.2, fun s hs => ?_⟩
  obtain ⟨i, hi, rfl⟩ := List.getElem_of_mem hs
  have hg := ha.2
  unfold riseB at hg
  rw [List.all_eq_true] at hg
  have := hg i (List.mem_range.2 hi)
  unfold good nameOkB at this
  rw [getD_lt _ _ hi] at this
  simp at this
  omega


end Go.Proofs.YtcpfelaffclalaaGreatDoor

/- The program's reader of bytes as functions on lists of bytes; what it reads it would write, and what is written it reads. No program, no conditions. -/

namespace Go.Proofs.YtcpfelaffclalaaGreatDoor
open Go Go.RowKit

theorem text_none {s : ByteArray} (h : s.toList = []) : s = ByteArray.empty := by
  rw [ByteArray.toList_eq] at h
  obtain ⟨a⟩ := s
  simp only [Array.toList_eq_nil_iff] at h
  subst h; rfl

theorem ok_bare {t : Tr} {d : Int} (h : 0 < pT t d) : (t.sort ≠ 2 → t.text = ByteArray.empty) ∧ (t.sort ≠ 1 → t.sort ≠ 3 → t.num = 0) ∧ (t.sort ≠ 5 → t.names = []) ∧ (t.sort < 4 → t.kids = []) := by
  have ha := (ok_alone h).1
  rcases ok_sort h with hs | hs | hs | hs | hs | hs
  all_goals
    unfold aloneB at ha
    simp [hs] at ha
  · exact ⟨fun _ => text_none ha.1.1.2, fun e => absurd hs e, fun _ => ha.1.2, fun _ => ha.2⟩
  · exact ⟨fun e => absurd hs e, fun _ _ => ha.1.1.1, fun _ => ha.1.2, fun _ => ha.2⟩
  · exact ⟨fun _ => text_none ha.1.1.2, fun _ e => absurd hs e, fun _ => ha.1.2, fun _ => ha.2⟩
  · exact ⟨fun _ => text_none ha.1.1.2, fun _ _ => ha.1.1.1, fun _ => ha.1.2, fun e => by omega⟩
  · exact ⟨fun _ => text_none ha.1.1.2, fun _ _ => ha.1.1.1, fun e => absurd hs e, fun e => by omega⟩
  · exact ⟨fun _ => text_none ha.1.1.2, fun _ _ => ha.1.1.1, fun _ => ha.1.2, fun e => by omega⟩

end Go.Proofs.YtcpfelaffclalaaGreatDoor
