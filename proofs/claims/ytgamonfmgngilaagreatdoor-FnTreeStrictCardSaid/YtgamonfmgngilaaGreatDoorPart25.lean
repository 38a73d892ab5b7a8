/- The walks of TreeWrite, the program's and the specification's: the text of a tree that is ok, else nothing. The tables are as the program's and strconv's texts lay them. -/
import Derived.Test.YtgamonfmgngilaaGreatDoorPart20
import Derived.Test.YtgamonfmgngilaaGreatDoorPart21
import Derived.Test.YtgamonfmgngilaaGreatDoorPart23
import Derived.Test.YtgamonfmgngilaaGreatDoorPart24
import Derived.Test.YtgamonfmgngilaaGreatDoorPart12
import Derived.Test.YtgamonfmgngilaaGreatDoorPart13
namespace Go.Proofs.YtgamonfmgngilaaGreatDoor
open Go Go.RowKit

def WtSaid (n : Nat) : Prop := ∀ (t : Tr), tsz t < n → ∀ (p l q : Int), 0 ≤ p → p ≤ 120 → wlk t p l = some q → ∀ (Q : Nat → Prop) (B : Nat) (v r : Value) (L : List UInt8) (w : World), (∀ b, Q b → b < B) → SRep Q w t v → ByRow B w r L → B ≤ w.heap.size →
  Lib.TabBelow Tryz.prog B w "internal/strconv.uint64pow10" .u64 Lib.pow10Tab → L.length + (txT t).length ≤ 1099511627776 → CallsW v r w (WEnd B w (L ++ txT t))

theorem write_step (n : Nat) (IH : WtSaid n) : WtSaid (n + 1) := by
  intro t ht p l q hp0 hp1 hw Q B v r L w hQ hr hrow hB htab hlen
  obtain ⟨h1, h2, ho, hnb, hk⟩ := wlk_open hw
  have hkl := wlkK_len t.kids (p + 1) (l + 1) q (by omega) h1 hk
  have hcall : ∀ i, (hi : i < t.kids.length) → ∀ x W r' L', SRep Q w t.kids[i] x → Wx B w W → ByRow B W r' L' → L'.length + (txT t.kids[i]).length ≤ 1099511627776 → CallsW x r' W (WEnd B W (L' ++ txT t.kids[i])) := fun i hi x W r' L' hx hW hr' hl' => by
    obtain ⟨p', q', g0, g1, g2⟩ := wlkK_get t.kids (p + 1) (l + 1) q (by omega) h1 hk i hi
    exact IH _ (by have := tsz_kid (List.getElem_mem hi); omega) p' _ q' g0 g1 g2 Q B x r' L' W hQ (SRep.carry (fun b hb => hW.below.block b (hQ b hb)) (fun _ h => h) _ _ hx) hr' (Nat.le_trans hB hW.below.size) (htab.on hW.below) hl'
  rcases shapes ho hnb with ⟨m, rfl, hm⟩ | ⟨x, rfl, hx⟩ | ⟨m, rfl, hm⟩ | ⟨ks, rfl, hks⟩ | ⟨ns, ks, rfl, hnl, hri⟩ | ⟨ks, rfl, hks⟩
  · rw [SRep] at hr
    rcases hr with ⟨-, rfl⟩ | ⟨h, -⟩ | ⟨h, -⟩ | ⟨h, -⟩ | ⟨h, -⟩ | ⟨h, -⟩
    · have hx : txT (.mk 1 m ByteArray.empty [] []) = Lib.itoa m := by rw [txT, if_pos rfl]
      rw [hx]
      exact ⟨_, _, _, rfl, fun w => inv1 _ _ w, wr_num B w r L m ⟨by omega, by omega⟩ hrow hB (by omega) htab⟩
    all_goals exact absurd h (by decide)
  · rw [SRep] at hr
    rcases hr with ⟨h, -⟩ | ⟨-, rfl⟩ | ⟨h, -⟩ | ⟨h, -⟩ | ⟨h, -⟩ | ⟨h, -⟩
    · exact absurd h (by decide)
    · have hx : txT (.mk 2 0 x [] []) = [34] ++ x.data.toList ++ [34] := by rw [txT, if_neg (by decide), if_pos rfl]
      have hsz : x.data.toList.length = x.size := by simp
      rw [hx] at hlen ⊢
      simp only [List.length_append, hsz, List.length_cons, List.length_nil] at hlen
      exact ⟨_, _, _, rfl, fun w => inv2 _ _ w, wr_text B w r L x hrow hB (by omega)⟩
    all_goals exact absurd h (by decide)
  · rw [SRep] at hr
    rcases hr with ⟨h, -⟩ | ⟨h, -⟩ | ⟨-, rfl⟩ | ⟨h, -⟩ | ⟨h, -⟩ | ⟨h, -⟩
    · exact absurd h (by decide)
    · exact absurd h (by decide)
    · have hx : txT (.mk 3 m ByteArray.empty [] []) = if (m == 1) = true then [121, 101, 115] else [110, 111] := by
        rw [txT, if_neg (by decide), if_neg (by decide), if_pos rfl]
        rcases hm with rfl | rfl
        · rfl
        · rfl
      rw [hx] at hlen ⊢
      exact ⟨_, _, _, rfl, fun w => inv3 _ _ w, wr_flag B w r L (m == 1) hrow hB hlen⟩
    all_goals exact absurd h (by decide)
  · rw [SRep] at hr
    rcases hr with ⟨h, -⟩ | ⟨h, -⟩ | ⟨h, -⟩ | ⟨-, a, cap, rfl, hkk⟩ | ⟨h, -⟩ | ⟨h, -⟩
    · exact absurd h (by decide)
    · exact absurd h (by decide)
    · exact absurd h (by decide)
    · have hx : txT (.mk 4 0 ByteArray.empty [] ks) = [91] ++ txK false [] 0 ks ++ [93] := by rw [txT, if_neg (by decide), if_neg (by decide), if_neg (by decide), if_neg (by decide), if_neg (by decide)]
      rw [hx] at hlen ⊢
      simp only [List.length_append, List.length_cons, List.length_nil] at hlen
      exact ⟨_, _, _, rfl, fun w => inv4 _ _ w, wr_list B w r L ks [] a cap Q hQ ⟨a, cap, rfl, hkk⟩ (by omega) hcall hrow hB (by omega)⟩
    all_goals exact absurd h (by decide)
  · rw [SRep] at hr
    rcases hr with ⟨h, -⟩ | ⟨h, -⟩ | ⟨h, -⟩ | ⟨h, -⟩ | ⟨-, v3, a, cap, rfl, hst, hkk⟩ | ⟨h, -⟩
    · exact absurd h (by decide)
    · exact absurd h (by decide)
    · exact absurd h (by decide)
    · exact absurd h (by decide)
    · have hx : txT (.mk 5 0 ByteArray.empty ns ks) = [123] ++ txK true ns 0 ks ++ [125] := by rw [txT, if_neg (by decide), if_neg (by decide), if_neg (by decide), if_neg (by decide), if_pos rfl]
      simp only [Tr.kids] at hkl
      rw [hx] at hlen ⊢
      simp only [List.length_append, List.length_cons, List.length_nil] at hlen
      exact ⟨_, _, _, rfl, fun w => inv5 _ _ w, wr_form B w r L ks ns v3 a cap Q hQ hst ⟨a, cap, rfl, hkk⟩ (by omega) hnl hcall hrow hB (by omega)⟩
    · exact absurd h (by decide)
  · rw [SRep] at hr
    rcases hr with ⟨h, -⟩ | ⟨h, -⟩ | ⟨h, -⟩ | ⟨h, -⟩ | ⟨h, -⟩ | ⟨-, a, cap, rfl, hkk⟩
    · exact absurd h (by decide)
    · exact absurd h (by decide)
    · exact absurd h (by decide)
    · exact absurd h (by decide)
    · exact absurd h (by decide)
    · refine ⟨_, _, _, rfl, fun w => inv6 _ _ w, ?_⟩
      cases ks with
      | nil =>
        have hx : txT (.mk 6 0 ByteArray.empty [] []) = [126] := by rw [txT, if_neg (by decide), if_neg (by decide), if_neg (by decide), if_pos rfl]; rfl
        rw [hx] at hlen ⊢
        simp only [List.length_cons, List.length_nil] at hlen
        exact wr_maybe0 B w r L a cap hrow hB hlen
      | cons k0 kr =>
        have hx : txT (.mk 6 0 ByteArray.empty [] (k0 :: kr)) = [63] ++ txT k0 := by rw [txT, if_neg (by decide), if_neg (by decide), if_neg (by decide), if_pos rfl, if_neg (by simp), txM]
        obtain ⟨b, rfl, hqb, hsr⟩ := hkk (by simp)
        obtain ⟨x, hc0, hs0⟩ := hsr.get 0 (by simp)
        have hs1 := hs0
        obtain ⟨T, y, rfl⟩ := hs0.iface
        rw [hx] at hlen ⊢
        simp only [List.length_append, List.length_cons, List.length_nil] at hlen
        exact wr_maybe1 B w r L b (k0 :: kr).length cap T y (txT k0) (by simp) (by omega) (hQ b hqb) hc0 (fun W r' L' h1 h2 h3 => hcall 0 (by simp [Tr.kids]) _ W r' L' hs1 h1 h2 h3) hrow hB (by omega)

theorem write_all : ∀ n, WtSaid n
  | 0 => fun _ h => absurd h (Nat.not_lt_zero _)
  | n + 1 => write_step n (write_all n)

/-- What TreeWrite comes to. -/
def twS (t : Tr) : ByteArray := if 0 < pT t 1 then ⟨(txT t).toArray⟩ else ⟨#[]⟩

set_option maxRecDepth 100000 in
set_option maxHeartbeats 800000 in
theorem implTreeWrite_any (t : Tr) (P : Nat → Prop) (c : C5) (w : World) (hP : ∀ b, P b → b < w.heap.size) (hrep : Rep P w t c) (hT : Tab w) (hE : Env w) :
    Calls Tryz.prog 9 #[.agg #[c.c0, c.c1, c.c2, c.c3, c.c4]] w fun e w' => e = .returned (.string (twS t)) ∧ Below w.heap.size w w' := by
  obtain ⟨W, hW⟩ : ∃ W, w.alloc (.cells #[c.c0, c.c1, c.c2, c.c3, c.c4] 26) = W := ⟨_, rfl⟩
  have hbx : Below w.heap.size w W := by rw [← hW]; exact (Below.refl _ _).alloc (Nat.le_refl _) _
  have hrepW := Rep.carry (fun b hb => hbx.block b (hP b hb)) (fun _ h => h) _ _ hrep
  have hPW : ∀ b, P b → b < W.heap.size := fun b hb => Nat.lt_of_lt_of_le (hP b hb) hbx.size
  have hTW := hT.of_block (hbx.block 0 hT.lt)
  have hrow : W.rowIs w.heap.size 26 5 (row5 c.c0 c.c1 c.c2 c.c3 c.c4) := by rw [← hW]; exact row5_alloc w _ _ _ _ _ _
  have x0 := hrow.cell (i := 0) (by omega); have x1 := hrow.cell (i := 1) (by omega); have x2 := hrow.cell (i := 2) (by omega); have x3 := hrow.cell (i := 3) (by omega); have x4 := hrow.cell (i := 4) (by omega)
  simp only [row5] at x0 x1 x2 x3 x4
  by_cases hpos : 0 < pT t 1
  · have hw : wlk t 0 0 = some (pT t 1) := by rw [wlk_start, if_neg (by omega)]
    have hS : twS t = ⟨(txT t).toArray⟩ := by unfold twS; rw [if_pos hpos]
    have hsmall := txT_small hw
    have hcall : Calls Tryz.prog 25 #[.agg #[c.c0, c.c1, c.c2, c.c3, c.c4]] W fun e w' => ∃ T y, e = .returned (.tuple #[.iface T y, .int .i64 (pT t 1)]) ∧ Hid (CallsW (.iface T y) (.slice none 0 0) w' (WEnd w'.heap.size w' (txT t))) ∧ Hid (Below w.heap.size w w') :=
      (sortTree_yes P W t c (pT t 1) hrepW hPW hTW hw).mono fun e w' ⟨v, h1, h2, h3⟩ => by
        have hb : Below w.heap.size w w' := hbx.trans (h3.mono hbx.size)
        obtain ⟨T, y, rfl⟩ := h2.iface
        refine ⟨T, y, h1, ?_, hb⟩
        have := write_all (tsz t + 1) t (by omega) 0 0 _ (by omega) (by omega) hw _ w'.heap.size (.iface T y) (.slice none 0 0) [] w' (fun b hb' => by
          rcases hb' with hp | ⟨_, hp⟩
          · exact Nat.lt_of_lt_of_le (hP b hp) hb.size
          · exact hp) h2 (World.ownsRow_nil _ _ _ _) (Nat.le_refl _) (fun w2 hb2 => ((hE.below hb).below hb2).pow) (by simp; omega)
        exact hide (by simpa using this)
    have hd1 : ((pT t 1) == 0) = false := by simp; omega
    have hd2 : decide (pT t 1 = 0) = false := by simp; omega
    have HCALL := hide hcall; have HS := hide hS
    generalize txT t = X at *
    generalize pT t 1 = q at *
    clear hcall hrep hrepW hP hPW hT hTW hE hS hbx hsmall hw hrow
    obtain ⟨c0, c1, c2, c3, c4⟩ := c
    simp only at x0 x1 x2 x3 x4
    go_enter Tryz.func9, Tryz.ntmps9
    go_wp2_with (first
      | (go_at_call 25; refine (unhide HCALL).mono ?_; rintro e w2 ⟨T, y, rfl, HCW, HB2⟩)
      | (refine list_write (by rfl) _ _ (by rfl) (.iface T y) (.slice none 0 0) (by rfl) (by rfl) (HCW.out.mono ?_)
         rintro e w3 ⟨a3, n3, cap3, rfl, hn3, hr3, hx3⟩
         refine ⟨_, rfl, ?_⟩
         have hconv := hr3.str
         have HB3 := hide (HB2.out.trans (hx3.below.mono HB2.out.size))
         clear hn3 hr3 hx3 HCW HB2))
    go_ret
    exact ⟨by rw [unhide HS]; rfl, unhide HB3⟩
  · have hS : twS t = ⟨#[]⟩ := by unfold twS; rw [if_neg hpos]
    have hcall : Calls Tryz.prog 25 #[.agg #[c.c0, c.c1, c.c2, c.c3, c.c4]] W fun e w' => ∃ v, e = .returned (.tuple #[v, .int .i64 0]) ∧ Hid (Below w.heap.size w w') :=
      (sortTree_parts P W t c hrepW hPW hTW).mono fun e w' ⟨v, h1, h2⟩ => by
        refine ⟨v, ?_, hbx.trans (h2.mono hbx.size)⟩
        rw [h1]
        by_cases h : pT t 1 < 0
        · rw [if_pos h]
        · rw [if_neg h, show pT t 1 = 0 from by omega]
    have HCALL := hide hcall; have HS := hide hS
    clear hcall hrep hrepW hP hPW hT hTW hE hS hbx hpos hrow
    obtain ⟨c0, c1, c2, c3, c4⟩ := c
    simp only at x0 x1 x2 x3 x4
    go_enter Tryz.func9, Tryz.ntmps9
    go_wp2_with (go_at_call 25; refine (unhide HCALL).mono ?_; rintro e w2 ⟨v, rfl, HB2⟩)
    go_ret
    exact ⟨by rw [unhide HS]; rfl, HB2.out⟩

set_option maxRecDepth 100000 in
set_option maxHeartbeats 800000 in
theorem specTreeWrite_any (t : Tr) (P : Nat → Prop) (c : C5) (w : World) (hP : ∀ b, P b → b < w.heap.size) (hrep : Rep P w t c) :
    Calls Tryz.prog 7 #[.agg #[c.c0, c.c1, c.c2, c.c3, c.c4]] w fun e w' => e = .returned (.string (twS t)) ∧ Below w.heap.size w w' := by
  obtain ⟨W, hW⟩ : ∃ W, w.alloc (.cells #[c.c0, c.c1, c.c2, c.c3, c.c4] 26) = W := ⟨_, rfl⟩
  have hbx : Below w.heap.size w W := by rw [← hW]; exact (Below.refl _ _).alloc (Nat.le_refl _) _
  have hrow : W.rowIs w.heap.size 26 5 (row5 c.c0 c.c1 c.c2 c.c3 c.c4) := by rw [← hW]; exact row5_alloc w _ _ _ _ _ _
  have hok := specTreeOk_any t P c W (fun b hb => Nat.lt_of_lt_of_le (hP b hb) hbx.size) (Rep.carry (fun b hb => hbx.block b (hP b hb)) (fun _ h => h) _ _ hrep)
  have hcells : ∀ W2, Below W.heap.size W W2 → W2.cell? ⟨w.heap.size, 0, none⟩ = some c.c0 ∧ W2.cell? ⟨w.heap.size, 1, none⟩ = some c.c1 ∧ W2.cell? ⟨w.heap.size, 2, none⟩ = some c.c2 ∧ W2.cell? ⟨w.heap.size, 3, none⟩ = some c.c3 ∧ W2.cell? ⟨w.heap.size, 4, none⟩ = some c.c4 := fun W2 hb => by
    have h := hrow.of_block (hb.block _ hrow.lt)
    exact ⟨h.cell (i := 0) (by omega), h.cell (i := 1) (by omega), h.cell (i := 2) (by omega), h.cell (i := 3) (by omega), h.cell (i := 4) (by omega)⟩
  obtain ⟨x0, x1, x2, x3, x4⟩ := hcells W (Below.refl _ _)
  by_cases hpos : 0 < pT t 1
  · have hw : wlk t 0 0 = some (pT t 1) := by rw [wlk_start, if_neg (by omega)]
    have hS : twS t = ⟨(txT t).toArray⟩ := by unfold twS; rw [if_pos hpos]
    have hsmall := txT_small hw
    have htx := fun W2 (hb : Below W.heap.size W W2) => l1Text_any t P c W2 (fun b hb' => Nat.lt_of_lt_of_le (hP b hb') (Nat.le_trans hbx.size hb.size)) (Rep.carry (fun b hb' => (hb.block b (Nat.lt_of_lt_of_le (hP b hb') hbx.size)).trans (hbx.block b (hP b hb'))) (fun _ h => h) _ _ hrep) (okT_of_wlk _ _ _ _ hw) (by omega)
    rw [decide_eq_true hpos] at hok
    have HOK := hide hok; have HTX := hide htx; have HS := hide hS; have HBX := hide hbx; have HC := hide hcells
    clear hok htx hS hbx hrep hP hw hrow hcells hsmall hpos
    obtain ⟨c0, c1, c2, c3, c4⟩ := c
    go_enter Tryz.func7, Tryz.ntmps7
    go_wp2_with (first
      | (go_at_call 8; refine (unhide HOK).mono ?_; rintro e w1 ⟨rfl, hb1⟩; obtain ⟨y0, y1, y2, y3, y4⟩ := unhide HC w1 hb1; have HB1 := hide hb1; clear hb1)
      | (go_at_call 23; refine (unhide HTX w1 (unhide HB1)).mono ?_; rintro e w2 ⟨rfl, hb2⟩))
    go_ret
    exact ⟨by rw [unhide HS]; rfl, (unhide HBX).trans (((unhide HB1).trans (hb2.mono (unhide HB1).size)).mono (unhide HBX).size)⟩
  · have hS : twS t = ⟨#[]⟩ := by unfold twS; rw [if_neg hpos]
    rw [decide_eq_false hpos] at hok
    have HOK := hide hok; have HS := hide hS; have HBX := hide hbx
    clear hok hS hbx hrep hP hrow hcells hpos
    obtain ⟨c0, c1, c2, c3, c4⟩ := c
    go_enter Tryz.func7, Tryz.ntmps7
    go_wp2_with (go_at_call 8; refine (unhide HOK).mono ?_; rintro e w1 ⟨rfl, hb1⟩)
    go_ret
    exact ⟨by rw [unhide HS]; rfl, (unhide HBX).trans (hb1.mono (unhide HBX).size)⟩
end Go.Proofs.YtgamonfmgngilaaGreatDoor

/- The walks of the specification's l5Any, DrawTreeWrite, DrawTreeRead: whatever bytes come in, some tree in memory that the call made, some text of at most 10^6 bytes. No conditions. -/

namespace Go.Proofs.YtgamonfmgngilaaGreatDoor
open Go Go.RowKit

theorem spoilT_all : ∀ n, SqSaid n
  | 0 => fun t h => by omega
  | n + 1 => l5SpoilT_step n (spoilT_all n)

/-- What drawing a tree comes to. -/
def AnEnd (N R : Nat) (w w' : World) (v : Value) (b : List UInt8) (p : Nat) (e : Ending) : Prop :=
  ∃ (t : Tr) (c : C5) (p' : Nat), e = .returned (.agg #[c.c0, c.c1, c.c2, c.c3, c.c4]) ∧ Rep (fun x => w.heap.size ≤ x ∧ x < w'.heap.size) w' t c ∧ DR R w' v b p' ∧ p' ≤ p + N ∧ But R w w'
theorem an_end {N R : Nat} {w W : World} {v : Value} {b : List UInt8} {p p' : Nat} {t : Tr} {c : C5} (hR : R < w.heap.size) (hr : Rep (fun x => w.heap.size < x ∧ x < W.heap.size) W t c) (hd : DR R W v b p') (h1 : p' ≤ p + N) (hb : But R w W) (d0 d1 d2 d3 d4 : Value) :
    AnEnd N R w (((((W.setCell ⟨w.heap.size, 0, none⟩ d0).setCell ⟨w.heap.size, 1, none⟩ d1).setCell ⟨w.heap.size, 2, none⟩ d2).setCell ⟨w.heap.size, 3, none⟩ d3).setCell ⟨w.heap.size, 4, none⟩ d4) v b p (.returned (.agg #[c.c0, c.c1, c.c2, c.c3, c.c4])) := by
  refine ⟨t, c, p', rfl, Rep.carry (fun x hx => by repeat rw [Below.heap_setCell _ _ _ _ (by simp; omega)]) (fun x hx => ⟨by omega, by simp only [size_setCell]; exact hx.2⟩) _ _ hr, ?_, h1, ?_⟩
  · repeat refine DR.set ?_ hR _ _
    exact hd
  · repeat refine but_setx ?_ (Nat.le_refl _) _ _
    exact hb

/-- A tree of some schema, drawn. -/
theorem someTree_any (R : Nat) (w : World) (v : Value) (b : List UInt8) (p : Nat) (k : Kd) (c : C3) (lo : Nat) (hlo : R < lo) (hr : KRep (fun x => lo ≤ x ∧ x < w.heap.size) w k c) (hq : 0 < qT k 1) (hd : DR R w v b p) (hp : p ≤ 100000) :
    Calls Tryz.prog 49 #[.pointer (some ⟨R, 0, none⟩), .agg #[c.c0, c.c1, c.c2]] w fun e w' => TsEnd 100000 R w w' v b p e := by
  have hn := nd_ok hq
  refine (lt_all (ksz k + 1) k (by omega) _ c w R v b p (fun x hx => ⟨hx.2, by omega⟩) hr (ok_of_qT hq).1 hd (by omega)).mono ?_
  rintro e w' ⟨t, c, F, p', h1, h2, h3, h4, h5, h6, h7, h8, h9⟩
  exact ⟨t, c, F, p', h1, h2, h3, h4, h5, by omega, h7, by omega, h9⟩

set_option maxRecDepth 100000 in
set_option maxHeartbeats 6400000 in
theorem l5Any_any (R : Nat) (w : World) (v : Value) (b : List UInt8) (p : Nat) (h : DR R w v b p) (hp : p ≤ 1000) :
    Calls Tryz.prog 21 #[.pointer (some ⟨R, 0, none⟩)] w fun e w' => AnEnd 900000 R w w' v b p e := by
  have hR := h.cells.lt
  have hX0 := row5_alloc w (.int .i64 0) (.int .i64 0) (.string ⟨#[]⟩) (.slice none 0 0) (.slice none 0 0) 26
  have hd0 := h.on ((Below.refl _ w).alloc (Nat.le_refl _) (.cells #[.int .i64 0, .int .i64 0, .string ⟨#[]⟩, .slice none 0 0, .slice none 0 0] 26))
  have hb0 := But.alloc R w (.cells #[.int .i64 0, .int .i64 0, .string ⟨#[]⟩, .slice none 0 0, .slice none 0 0] 26)
  have hz0 : (w.alloc (.cells #[.int .i64 0, .int .i64 0, .string ⟨#[]⟩, .slice none 0 0, .slice none 0 0] 26)).heap.size = w.heap.size + 1 := World.size_alloc _ _
  have HX0 := hide hX0; have HB0 := hide hb0; have HD0 := hide hd0; have HZ0 := hide hz0
  clear hX0 hd0 hb0 h hz0
  go_enter Tryz.func21, Tryz.ntmps21
  go_wp2_with fail
  generalize w.alloc (.cells #[.int .i64 0, .int .i64 0, .string ⟨#[]⟩, .slice none 0 0, .slice none 0 0] 26) = W0 at *
  have hz0 := unhide HZ0
  refine (pick_any R W0 v b p 24 (unhide HD0) (by omega) (by omega)).mono ?_
  rintro e w1 ⟨r, rfl, hr, HD1, HB1⟩
  have hs1 := HB1.out.size
  clear HD0 HZ0
  rcases (show r = 0 ∨ r = 1 ∨ r = 2 ∨ r = 3 ∨ 4 ≤ r by omega) with rfl | rfl | rfl | rfl | hr4
  · go_wp2_with fail
    refine (pick_any R w1 v b (p + 1) 2 HD1.out (by omega) (by omega)).mono ?_
    rintro e w2 ⟨r2, rfl, hr2, HD2, HB2⟩
    have hs2 := HB2.out.size
    have hwr : IntKind.i64.wrap (120 + (r2 : Int)) = 120 + (r2 : Int) := by rw [IntKind.wrap_i64]; omega
    have hc := l5Full_any w2 (120 + r2) (by omega)
    rw [show ((120 + r2 : Nat) : Int) = 120 + (r2 : Int) from by omega] at hc
    have HC := hide hc
    clear hc
    go_wp2_with fail
    refine (unhide HC).mono ?_
    rintro e w3 ⟨tt, ⟨x0, x1, x2, x3, x4⟩, rfl, hrep0, hb3⟩
    have hbW : But R W0 w3 := HB1.out.trans (HB2.out.trans (But.of_below hb3))
    have hrep := Rep.carry (w' := w3) (Q := fun x => w.heap.size < x ∧ x < w3.heap.size) (fun _ _ => rfl) (fun x hx => by omega) _ _ hrep0
    have hdf := HD2.out.on hb3
    clear hrep0 HD1 HB1 HD2 HB2 HC hb3
    obtain ⟨g0, g1, g2, -, -, -, ⟨a3, cap3, g3, -⟩, a4, cap4, g4, -⟩ := hrep.open
    simp only at g0 g1 g2 g3 g4
    subst g0 g1 g2 g3 g4
    have hbf : But R w w3 := (unhide HB0).trans hbW
    have hXf := (unhide HX0).of_block (hbW.at (unhide HX0).lt (by omega))
    have y0 := hXf.cell (i := 0) (by omega); have y1 := hXf.cell (i := 1) (by omega); have y2 := hXf.cell (i := 2) (by omega); have y3 := hXf.cell (i := 3) (by omega); have y4 := hXf.cell (i := 4) (by omega); have yf := hXf.frozen
    simp only [row5] at y0 y1 y2 y3 y4
    have HEND := hide (fun d0 d1 d2 d3 d4 => an_end (N := 900000) (p := p) hR hrep hdf (by omega) hbf d0 d1 d2 d3 d4)
    generalize tt.names.length = nN at *
    generalize tt.kids.length = nK at *
    clear hrep hdf hbf hbW hXf HX0 HB0
    go_wp2_with fail
    refine bodyPost_ret (v := .agg #[.int .i64 tt.sort, .int .i64 tt.num, .string tt.text, .slice a3 nN cap3, .slice a4 nK cap4]) (by simp [results, Tryz.results21, go_sem, y0, y1, y2, y3, y4]) rfl ?_
    exact unhide HEND _ _ _ _ _
  · go_wp2_with fail
    refine (pick_any R w1 v b (p + 1) 2 HD1.out (by omega) (by omega)).mono ?_
    rintro e w2 ⟨r2, rfl, hr2, HD2, HB2⟩
    have hs2 := HB2.out.size
    have hwr : IntKind.i64.wrap (6 + (r2 : Int)) = 6 + (r2 : Int) := by rw [IntKind.wrap_i64]; omega
    have hc := l5Deep_any w2 (6 + r2) (by omega)
    rw [show ((6 + r2 : Nat) : Int) = 6 + (r2 : Int) from by omega] at hc
    have HC := hide hc
    clear hc
    go_wp2_with fail
    refine (unhide HC).mono ?_
    rintro e w3 ⟨tt, ⟨x0, x1, x2, x3, x4⟩, rfl, hrep0, hb3⟩
    have hbW : But R W0 w3 := HB1.out.trans (HB2.out.trans (But.of_below hb3))
    have hrep := Rep.carry (w' := w3) (Q := fun x => w.heap.size < x ∧ x < w3.heap.size) (fun _ _ => rfl) (fun x hx => by omega) _ _ hrep0
    have hdf := HD2.out.on hb3
    clear hrep0 HD1 HB1 HD2 HB2 HC hb3
    obtain ⟨g0, g1, g2, -, -, -, ⟨a3, cap3, g3, -⟩, a4, cap4, g4, -⟩ := hrep.open
    simp only at g0 g1 g2 g3 g4
    subst g0 g1 g2 g3 g4
    have hbf : But R w w3 := (unhide HB0).trans hbW
    have hXf := (unhide HX0).of_block (hbW.at (unhide HX0).lt (by omega))
    have y0 := hXf.cell (i := 0) (by omega); have y1 := hXf.cell (i := 1) (by omega); have y2 := hXf.cell (i := 2) (by omega); have y3 := hXf.cell (i := 3) (by omega); have y4 := hXf.cell (i := 4) (by omega); have yf := hXf.frozen
    simp only [row5] at y0 y1 y2 y3 y4
    have HEND := hide (fun d0 d1 d2 d3 d4 => an_end (N := 900000) (p := p) hR hrep hdf (by omega) hbf d0 d1 d2 d3 d4)
    generalize tt.names.length = nN at *
    generalize tt.kids.length = nK at *
    clear hrep hdf hbf hbW hXf HX0 HB0
    go_wp2_with fail
    refine bodyPost_ret (v := .agg #[.int .i64 tt.sort, .int .i64 tt.num, .string tt.text, .slice a3 nN cap3, .slice a4 nK cap4]) (by simp [results, Tryz.results21, go_sem, y0, y1, y2, y3, y4]) rfl ?_
    exact unhide HEND _ _ _ _ _
  · skip
    go_wp2_with fail
    refine (l5Some_ok R w1 v b (p + 1) true HD1.out (by omega)).mono ?_
    rintro e w2 ⟨k, ⟨k0, k1, k2⟩, p2, rfl, hk, hd2, hp2, -, hb2, hq⟩
    have hs2 := hb2.size
    have HC := hide (someTree_any R w2 v b p2 k ⟨k0, k1, k2⟩ w1.heap.size (by omega) hk hq hd2 (by omega))
    clear hk hq hd2
    go_wp2_with fail
    refine (unhide HC).mono ?_
    rintro e w3 ⟨t3, ⟨u0, u1, u2, u3, u4⟩, F, p3, rfl, ho, hnd, hF, hd3, hp3, hb3, hz3, hnm3⟩
    have hs3 := hb3.size
    have HC3 := hide (spoilT_all (tsz t3 + 1) t3 (by omega) (· ∈ F) R w3 v b p3 ⟨u0, u1, u2, u3, u4⟩ hd3 (fun x hx => by have := hF x hx; omega) (Own.rep _ _ F (fun _ h => h) ho) (by omega) (by omega) hnm3)
    have HFF := hide hF
    clear HC ho hnd hF hd3
    go_wp2_with fail
    refine (unhide HC3).mono ?_
    rintro e w4 ⟨tt, ⟨x0, x1, x2, x3, x4⟩, p4, rfl, hrep0, hdf, hp4, hb4⟩
    have hs4 := hb4.size
    have hbW : But R W0 w4 := HB1.out.trans (hb2.trans (hb3.trans hb4))
    have hrep := Rep.carry (w' := w4) (Q := fun x => w.heap.size < x ∧ x < w4.heap.size) (fun _ _ => rfl) (fun x hx => by
      rcases hx with h | h
      · have := unhide HFF x h; omega
      · omega) _ _ hrep0
    clear hrep0 HD1 HB1 hb2 hb3 hb4 HC3 HFF
    obtain ⟨g0, g1, g2, -, -, -, ⟨a3, cap3, g3, -⟩, a4, cap4, g4, -⟩ := hrep.open
    simp only at g0 g1 g2 g3 g4
    subst g0 g1 g2 g3 g4
    have hbf : But R w w4 := (unhide HB0).trans hbW
    have hXf := (unhide HX0).of_block (hbW.at (unhide HX0).lt (by omega))
    have y0 := hXf.cell (i := 0) (by omega); have y1 := hXf.cell (i := 1) (by omega); have y2 := hXf.cell (i := 2) (by omega); have y3 := hXf.cell (i := 3) (by omega); have y4 := hXf.cell (i := 4) (by omega); have yf := hXf.frozen
    simp only [row5] at y0 y1 y2 y3 y4
    have HEND := hide (fun d0 d1 d2 d3 d4 => an_end (N := 900000) (p := p) hR hrep hdf (by omega) hbf d0 d1 d2 d3 d4)
    generalize tt.names.length = nN at *
    generalize tt.kids.length = nK at *
    clear hrep hdf hbf hbW hXf HX0 HB0
    go_wp2_with fail
    refine bodyPost_ret (v := .agg #[.int .i64 tt.sort, .int .i64 tt.num, .string tt.text, .slice a3 nN cap3, .slice a4 nK cap4]) (by simp [results, Tryz.results21, go_sem, y0, y1, y2, y3, y4]) rfl ?_
    exact unhide HEND _ _ _ _ _
  · skip
    go_wp2_with fail
    refine (l5Some_ok R w1 v b (p + 1) true HD1.out (by omega)).mono ?_
    rintro e w2 ⟨k, ⟨k0, k1, k2⟩, p2, rfl, hk, hd2, hp2, -, hb2, hq⟩
    have hs2 := hb2.size
    have HC := hide (someTree_any R w2 v b p2 k ⟨k0, k1, k2⟩ w1.heap.size (by omega) hk hq hd2 (by omega))
    clear hk hq hd2
    go_wp2_with fail
    refine (unhide HC).mono ?_
    rintro e w3 ⟨t3, ⟨u0, u1, u2, u3, u4⟩, F, p3, rfl, ho, hnd, hF, hd3, hp3, hb3, hz3, hnm3⟩
    have hs3 := hb3.size
    have HC3 := hide (spoilT_all (tsz t3 + 1) t3 (by omega) (· ∈ F) R w3 v b p3 ⟨u0, u1, u2, u3, u4⟩ hd3 (fun x hx => by have := hF x hx; omega) (Own.rep _ _ F (fun _ h => h) ho) (by omega) (by omega) hnm3)
    have HFF := hide hF
    clear HC ho hnd hF hd3
    go_wp2_with fail
    refine (unhide HC3).mono ?_
    rintro e w4 ⟨tt, ⟨x0, x1, x2, x3, x4⟩, p4, rfl, hrep0, hdf, hp4, hb4⟩
    have hs4 := hb4.size
    have hbW : But R W0 w4 := HB1.out.trans (hb2.trans (hb3.trans hb4))
    have hrep := Rep.carry (w' := w4) (Q := fun x => w.heap.size < x ∧ x < w4.heap.size) (fun _ _ => rfl) (fun x hx => by
      rcases hx with h | h
      · have := unhide HFF x h; omega
      · omega) _ _ hrep0
    clear hrep0 HD1 HB1 hb2 hb3 hb4 HC3 HFF
    obtain ⟨g0, g1, g2, -, -, -, ⟨a3, cap3, g3, -⟩, a4, cap4, g4, -⟩ := hrep.open
    simp only at g0 g1 g2 g3 g4
    subst g0 g1 g2 g3 g4
    have hbf : But R w w4 := (unhide HB0).trans hbW
    have hXf := (unhide HX0).of_block (hbW.at (unhide HX0).lt (by omega))
    have y0 := hXf.cell (i := 0) (by omega); have y1 := hXf.cell (i := 1) (by omega); have y2 := hXf.cell (i := 2) (by omega); have y3 := hXf.cell (i := 3) (by omega); have y4 := hXf.cell (i := 4) (by omega); have yf := hXf.frozen
    simp only [row5] at y0 y1 y2 y3 y4
    have HEND := hide (fun d0 d1 d2 d3 d4 => an_end (N := 900000) (p := p) hR hrep hdf (by omega) hbf d0 d1 d2 d3 d4)
    generalize tt.names.length = nN at *
    generalize tt.kids.length = nK at *
    clear hrep hdf hbf hbW hXf HX0 HB0
    go_wp2_with fail
    refine bodyPost_ret (v := .agg #[.int .i64 tt.sort, .int .i64 tt.num, .string tt.text, .slice a3 nN cap3, .slice a4 nK cap4]) (by simp [results, Tryz.results21, go_sem, y0, y1, y2, y3, y4]) rfl ?_
    exact unhide HEND _ _ _ _ _
  · have z0 : ((r : Int) == 0) = false := beq_eq_false_iff_ne.2 (by omega)
    have z1 : ((r : Int) == 1) = false := beq_eq_false_iff_ne.2 (by omega)
    have z2 : ((r : Int) == 2) = false := beq_eq_false_iff_ne.2 (by omega)
    have z3 : ((r : Int) == 3) = false := beq_eq_false_iff_ne.2 (by omega)
    go_wp2_with fail
    refine (pick_any R w1 v b (p + 1) 2 HD1.out (by omega) (by omega)).mono ?_
    rintro e w2 ⟨r2, rfl, hr2, HD2, HB2⟩
    have hs2 := HB2.out.size
    have HC := hide (fun top => l5Some_ok R w2 v b (p + 1 + 1) top HD2.out (by omega))
    go_wp2_with fail
    refine (unhide HC _).mono ?_
    rintro e w3 ⟨k, ⟨k0, k1, k2⟩, p2, rfl, hk, hd2, hp2, -, hb3, hq⟩
    have hs3 := hb3.size
    have HC3 := hide (someTree_any R w3 v b p2 k ⟨k0, k1, k2⟩ w2.heap.size (by omega) hk hq hd2 (by omega))
    clear hk hq hd2 HC
    go_wp2_with fail
    refine (unhide HC3).mono ?_
    rintro e w4 ⟨tt, ⟨x0, x1, x2, x3, x4⟩, F, p3, rfl, ho, hnd, hF, hdf, hp3, hb4, hz3, hnm3⟩
    have hs4 := hb4.size
    have hbW : But R W0 w4 := HB1.out.trans (HB2.out.trans (hb3.trans hb4))
    have hrep := Own.rep (P := fun x => w.heap.size < x ∧ x < w4.heap.size) _ _ F (fun x hx => by have := hF x hx; omega) ho
    clear ho hnd hF HD1 HB1 HD2 HB2 hb3 hb4 HC3
    obtain ⟨g0, g1, g2, -, -, -, ⟨a3, cap3, g3, -⟩, a4, cap4, g4, -⟩ := hrep.open
    simp only at g0 g1 g2 g3 g4
    subst g0 g1 g2 g3 g4
    have hbf : But R w w4 := (unhide HB0).trans hbW
    have hXf := (unhide HX0).of_block (hbW.at (unhide HX0).lt (by omega))
    have y0 := hXf.cell (i := 0) (by omega); have y1 := hXf.cell (i := 1) (by omega); have y2 := hXf.cell (i := 2) (by omega); have y3 := hXf.cell (i := 3) (by omega); have y4 := hXf.cell (i := 4) (by omega); have yf := hXf.frozen
    simp only [row5] at y0 y1 y2 y3 y4
    have HEND := hide (fun d0 d1 d2 d3 d4 => an_end (N := 900000) (p := p) hR hrep hdf (by omega) hbf d0 d1 d2 d3 d4)
    generalize tt.names.length = nN at *
    generalize tt.kids.length = nK at *
    clear hrep hdf hbf hbW hXf HX0 HB0
    go_wp2_with fail
    refine bodyPost_ret (v := .agg #[.int .i64 tt.sort, .int .i64 tt.num, .string tt.text, .slice a3 nN cap3, .slice a4 nK cap4]) (by simp [results, Tryz.results21, go_sem, y0, y1, y2, y3, y4]) rfl ?_
    exact unhide HEND _ _ _ _ _

/-- Whatever bytes come in, some tree is drawn. -/
theorem drawTreeWrite_any (w : World) (a : Option Addr) (cap : Nat) (l : List UInt8) (hv : BytesAt w (.slice a l.length cap) l) (hcap : l.length ≤ cap) :
    Calls Tryz.prog 6 #[.slice a l.length cap] w fun e w' => ∃ (t : Tr) (c : C5), e = .returned (.agg #[c.c0, c.c1, c.c2, c.c3, c.c4]) ∧ Rep (fun x => w.heap.size ≤ x ∧ x < w'.heap.size) w' t c ∧ Below w.heap.size w w' := by
  have hb0 : ∀ o, Below w.heap.size w (w.alloc o) := fun o => (Below.refl _ _).alloc (Nat.le_refl _) o
  have HOP := hide (fun o => l6Open_any (w.alloc o) a cap l (hv.on (hb0 o)) hcap)
  have HX0 := hide (row5_alloc w (.int .i64 0) (.int .i64 0) (.string ⟨#[]⟩) (.slice none 0 0) (.slice none 0 0) 26)
  have HB0 := hide hb0
  clear hv hb0
  go_enter Tryz.func6, Tryz.ntmps6
  go_wp2_with fail
  refine (unhide HOP _).mono ?_
  rintro e w1 ⟨v', b', rfl, hdr, hb1⟩
  have hb1' := hb1
  rw [World.size_alloc] at hdr hb1' ⊢
  have HC := hide (l5Any_any (w.heap.size + 1) w1 v' b' 0 hdr (by omega))
  have hX1 := (unhide HX0).of_block (hb1.block _ (by simp))
  have HX1 := hide hX1
  have HB1 := hide ((unhide HB0 (.cells #[.int .i64 0, .int .i64 0, .string ⟨#[]⟩, .slice none 0 0, .slice none 0 0] 26)).trans (hb1.mono (by simp)))
  have hs1 := hb1'.size
  have hR1 := hdr.cells.lt
  clear HOP HX0 hdr hb1 hb1' hX1 HB0
  go_wp2_with fail
  refine (unhide HC).mono ?_
  rintro e w2 ⟨k, ⟨c0, c1, c2, c3, c4⟩, p2, rfl, hr2, hd2, hp2, hb2⟩
  obtain ⟨g0, g1, g2, -, -, -, ⟨a3, cap3, g3, -⟩, a4, cap4, g4, -⟩ := hr2.open
  simp only at g0 g1 g2 g3 g4
  subst g0 g1 g2 g3 g4
  have hX2 := (unhide HX1).of_block (hb2.at (unhide HX1).lt (by omega))
  have y0 := hX2.cell (i := 0) (by omega); have y1 := hX2.cell (i := 1) (by omega); have y2 := hX2.cell (i := 2) (by omega); have y3 := hX2.cell (i := 3) (by omega); have y4 := hX2.cell (i := 4) (by omega); have yf := hX2.frozen
  simp only [row5] at y0 y1 y2 y3 y4
  have hbW : Below w.heap.size w w2 := (unhide HB1).trans ⟨hb2.os, hb2.tape, hb2.output, hb2.size, fun i hi => hb2.at (by omega) (by omega)⟩
  have HBW := hide hbW; have HR2 := hide hr2
  clear hX2 hbW hr2 hb2 hd2 HX1 HB1 HC
  go_wp2_with fail
  refine bodyPost_ret (v := .agg #[.int .i64 k.sort, .int .i64 k.num, .string k.text, .slice a3 k.names.length cap3, .slice a4 k.kids.length cap4]) (by simp [results, Tryz.results6, go_sem, y0, y1, y2, y3, y4]) rfl ?_
  refine ⟨k, ⟨_, _, _, _, _⟩, rfl, Rep.carry (fun x hx => by repeat rw [Below.heap_setCell _ _ _ _ (by simp; omega)]) (fun x hx => ⟨by omega, by simp only [size_setCell]; exact hx.2⟩) k _ (unhide HR2), ?_⟩
  repeat refine Below.setCell ?_ (by simp) _
  exact unhide HBW

def tr20 : List ByteArray := [⟨#[48, 49]⟩, ⟨#[45, 48]⟩, ⟨#[49, 48, 48, 48, 48, 48, 48, 48, 48, 48]⟩, ⟨#[45, 57, 57, 57, 57, 57, 57, 57, 57, 57]⟩, ⟨#[123, 98, 58, 49, 44, 97, 58, 50, 125]⟩, ⟨#[123, 97, 58, 49, 44, 97, 58, 50, 125]⟩, ⟨#[91, 49, 44, 93]⟩, ⟨#[91, 44, 49, 93]⟩, ⟨#[123, 97, 58, 125]⟩, ⟨#[63, 63, 126]⟩, ⟨#[63, 63, 63, 63, 63, 63, 49]⟩, ⟨#[63, 63, 63, 63, 63, 49]⟩, ⟨#[34, 97]⟩, ⟨#[34, 92, 34]⟩, ⟨#[121, 101, 115, 115]⟩, ⟨#[110]⟩, ⟨#[123, 125]⟩, ⟨#[91, 93]⟩, ⟨#[]⟩, ⟨#[91, 49, 32, 44, 50, 93]⟩]
theorem twS_size (t : Tr) : (twS t).size ≤ 9600 := by
  unfold twS
  by_cases h : 0 < pT t 1
  · rw [if_pos h]
    have := txT_small (t := t) (q := pT t 1) (by rw [wlk_start, if_neg (by omega)])
    show (txT t).toArray.size ≤ 9600
    simpa using this
  · rw [if_neg h]; decide

set_option maxRecDepth 100000 in
set_option maxHeartbeats 3200000 in
/-- Whatever bytes come in, some text is drawn. -/
theorem drawTreeRead_any (w : World) (a : Option Addr) (cap : Nat) (l : List UInt8) (hv : BytesAt w (.slice a l.length cap) l) (hcap : l.length ≤ cap) :
    Calls Tryz.prog 14 #[.slice a l.length cap] w fun e w' => ∃ s : ByteArray, e = .returned (.string s) ∧ s.size ≤ 1000000 ∧ Below w.heap.size w w' := by
  have HOP := hide (l6Open_any w a cap l hv hcap)
  clear hv
  go_enter Tryz.func14, Tryz.ntmps14
  go_wp2_with fail
  refine (unhide HOP).mono ?_
  rintro e w1 ⟨v', b', rfl, hdr, hb1⟩
  have HPK := hide (pick_any w.heap.size w1 v' b' 0 30 hdr (by omega) (by omega))
  have HB1 := hide hb1
  have hs1 := hb1.size
  have hR1 := hdr.cells.lt
  clear HOP hdr hb1
  have hbel : ∀ W, But w.heap.size w1 W → Below w.heap.size w W := fun W hW => (unhide HB1).trans ⟨hW.os, hW.tape, hW.output, hW.size, fun i hi => hW.at (by omega) (by omega)⟩
  have HBEL := hide hbel
  clear hbel
  go_wp2_with fail
  refine (unhide HPK).mono ?_
  rintro e w2 ⟨r, rfl, hr, HD2, HB2⟩
  clear HPK
  rcases (show r = 0 ∨ r = 1 ∨ 2 ≤ r by omega) with rfl | rfl | hr2
  · have HOF := hide (of_row w.heap.size w2 v' b' (0 + 1) HD2.out (by omega) tr20 (by decide) (by decide) (fun i hi => by
      have hi' : i < 20 := hi
      rcases (show i = 0 ∨ i = 1 ∨ i = 2 ∨ i = 3 ∨ i = 4 ∨ i = 5 ∨ i = 6 ∨ i = 7 ∨ i = 8 ∨ i = 9 ∨ i = 10 ∨ i = 11 ∨ i = 12 ∨ i = 13 ∨ i = 14 ∨ i = 15 ∨ i = 16 ∨ i = 17 ∨ i = 18 ∨ i = 19 by omega) with rfl | rfl | rfl | rfl | rfl | rfl | rfl | rfl | rfl | rfl | rfl | rfl | rfl | rfl | rfl | rfl | rfl | rfl | rfl | rfl <;> decide))
    go_wp2_with fail
    refine (unhide HOF).mono ?_
    rintro e w3 ⟨x, rfl, hx, HD3, HB3⟩
    go_wp2_with fail
    go_ret
    exact ⟨x, rfl, by omega, unhide HBEL _ (HB2.out.trans HB3.out)⟩
  · have HP3 := hide (pick_any w.heap.size w2 v' b' (0 + 1) 3 HD2.out (by omega) (by omega))
    go_wp2_with fail
    refine (unhide HP3).mono ?_
    rintro e w3 ⟨r3, rfl, hr3, HD3, HB3⟩
    have hwr : IntKind.i64.wrap (5000 + (r3 : Int)) = 5000 + (r3 : Int) := by rw [IntKind.wrap_i64]; omega
    have hm := l6Many_big w3 ⟨#[91]⟩ (5000 + r3) (by decide) (by omega)
    rw [show ((5000 + r3 : Nat) : Int) = 5000 + (r3 : Int) from by omega] at hm
    have HM := hide hm
    have HM2 := hide (l6Many_big w3 ⟨#[93]⟩ 5000 (by decide) (by omega))
    clear hm HP3
    go_wp2_with fail
    refine (unhide HM).mono ?_
    rintro e w4 ⟨out, rfl, ho, rfl⟩
    have hs91 : (⟨#[91]⟩ : ByteArray).size = 1 := rfl
    have hl1 : ¬ (9223372036854775807 < 1 + out.size) := by omega
    have hso : ((⟨#[91]⟩ : ByteArray) ++ out).size = 1 + out.size := by rw [ByteArray.size_append, hs91]
    go_wp2_with fail
    refine (unhide HM2).mono ?_
    rintro e w5 ⟨out2, rfl, ho2, rfl⟩
    have hl2 : ¬ (9223372036854775807 < 1 + out.size + out2.size) := by omega
    go_wp2_with fail
    go_ret
    exact ⟨_, rfl, by rw [ByteArray.size_append, hso]; omega, unhide HBEL _ (HB2.out.trans HB3.out)⟩
  · have z0 : ((r : Int) == 0) = false := beq_eq_false_iff_ne.2 (by omega)
    have z1 : ((r : Int) == 1) = false := beq_eq_false_iff_ne.2 (by omega)
    have HC := hide (l5Any_any w.heap.size w2 v' b' (0 + 1) HD2.out (by omega))
    go_wp2_with fail
    refine (unhide HC).mono ?_
    rintro e w3 ⟨tt, ⟨c0, c1, c2, c3, c4⟩, p3, rfl, hr3, hd3, hp3, hb3⟩
    have HCW := hide (specTreeWrite_any tt _ ⟨c0, c1, c2, c3, c4⟩ w3 (fun x hx => hx.2) hr3)
    have HD3 := hide hd3; have HB3 := hide hb3
    have hsz := twS_size tt
    clear hr3 hd3 hb3 HC
    go_wp2_with fail
    refine (unhide HCW).mono ?_
    rintro e w4 ⟨rfl, hb4⟩
    have HP4 := hide (pick_any w.heap.size w4 v' b' p3 3 ((unhide HD3).on hb4) (by omega) (by omega))
    have HB4 := hide (HB2.out.trans ((unhide HB3).trans (But.of_below hb4)))
    generalize twS tt = S at *
    clear HCW hb4 HB2 HB3 HD3
    go_wp2_with fail
    refine (unhide HP4).mono ?_
    rintro e w5 ⟨r5, rfl, hr5, HD5, HB5⟩
    clear HP4
    by_cases h5 : r5 = 0
    · subst h5
      have HBD := hide (l5Bend_any w.heap.size w5 v' b' (p3 + 1) S HD5.out (by omega) (by omega))
      go_wp2_with fail
      refine (unhide HBD).mono ?_
      rintro e w6 ⟨out, p6, rfl, ho, hp6, HD6, HB6⟩
      go_wp2_with fail
      go_ret
      exact ⟨out, rfl, by omega, unhide HBEL _ ((unhide HB4).trans (HB5.out.trans HB6.out))⟩
    · have z5 : ((r5 : Int) == 0) = false := beq_eq_false_iff_ne.2 (by omega)
      go_wp2_with fail
      go_ret
      exact ⟨S, rfl, by omega, unhide HBEL _ ((unhide HB4).trans HB5.out)⟩
end Go.Proofs.YtgamonfmgngilaaGreatDoor
