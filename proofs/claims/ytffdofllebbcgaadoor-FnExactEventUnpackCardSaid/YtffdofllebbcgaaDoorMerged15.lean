/- The walks of the law's own toEvent (the copy lies in blocks of which nothing is frozen), markEvent over a shape, eqByteS, markByteS, heldByteS. No conditions but the weights. -/
import Derived.Test.YtffdofllebbcgaaDoorMerged10
import Derived.Test.YtffdofllebbcgaaDoorMerged12
import Derived.Test.YtffdofllebbcgaaDoorMerged14
import Derived.Test.YtffdofllebbcgaaDoorMerged03
import Derived.Test.YtffdofllebbcgaaDoorMerged00
import Derived.Deep.RegionLaw
namespace Go.Proofs.YtffdofllebbcgaaDoor
open Go Go.RowKit

set_option maxRecDepth 100000 in
set_option maxHeartbeats 1600000 in
theorem toEvent_free (ty : ByteArray) (ver : Int) (t : Tr) (P : Nat → Prop) (c : C5) (w : World) (hP : ∀ b, P b → b < w.heap.size) (hrep : Rep P w t c) (hwt : wT t ≤ 1048576) :
    Calls Tryd.prog 8 #[.agg #[.string ty, .int .i64 ver, c.c0, c.c1, c.c2, c.c3, c.c4]] w fun e w' => ∃ c' : C5, e = .returned (.agg #[.string ty, .int .i64 ver, c'.c0, c'.c1, c'.c2, c'.c3, c'.c4]) ∧ Rep (NewF w w') w' t c' ∧ Below w.heap.size w w' := by
  obtain ⟨c0, c1, c2, c3, c4⟩ := c
  have hbx : ∀ o o2 o3, Below w.heap.size w (((w.alloc o).alloc o2).alloc o3) := fun o o2 o3 => (((Below.refl _ _).alloc (Nat.le_refl _) o).alloc (by simp) o2).alloc (by simp; omega) o3
  have HBX := hide hbx
  have HTO := hide (fun (W : World) (hW : Below w.heap.size w W) => toTree_free t P ⟨c0, c1, c2, c3, c4⟩ W (fun b hb => Nat.lt_of_lt_of_le (hP b hb) hW.size) (Rep.carry (fun b hb => hW.block b (hP b hb)) (fun _ h => h) _ _ hrep) hwt)
  clear hbx hP hrep
  go_enter Tryd.func8, Tryd.ntmps8
  go_wp2_with fail
  refine (unhide HTO _ (unhide HBX _ _ _)).mono ?_
  rintro e w1 ⟨⟨x0, x1, x2, x3, x4⟩, rfl, hrx, hb1⟩
  obtain ⟨p1, p2, hs1, hb01⟩ := ebox3 hb1
  obtain ⟨g0, g1, g2, -, -, -, ⟨a3, cap3, g3, -⟩, a4, cap4, g4, -⟩ := hrx.open
  simp only at g0 g1 g2 g3 g4
  subst g0 g1 g2 g3 g4
  have hrx' : Rep (fun b => (w.heap.size + 3 ≤ b ∧ b < w1.heap.size) ∧ FreeB w1 b) w1 t ⟨.int .i64 t.sort, .int .i64 t.num, .string t.text, .slice a3 t.names.length cap3, .slice a4 t.kids.length cap4⟩ :=
    Rep.carry (fun _ _ => rfl) (fun b hb => ⟨⟨by have := hb.1.1; simpa using this, hb.1.2⟩, hb.2⟩) _ _ hrx
  have fa := p1.frozen; have fb := p2.frozen
  have a0 := p1.cell (i := 0) (by omega); have a1 := p1.cell (i := 1) (by omega); have a2 := p1.cell (i := 2) (by omega); have a3' := p1.cell (i := 3) (by omega); have a4' := p1.cell (i := 4) (by omega); have a5 := p1.cell (i := 5) (by omega); have a6 := p1.cell (i := 6) (by omega)
  have b0 := p2.cell (i := 0) (by omega); have b1 := p2.cell (i := 1) (by omega); have b2 := p2.cell (i := 2) (by omega); have b3 := p2.cell (i := 3) (by omega); have b4 := p2.cell (i := 4) (by omega); have b5 := p2.cell (i := 5) (by omega); have b6 := p2.cell (i := 6) (by omega)
  simp [row7] at a0 a1 a2 a3' a4' a5 a6 b0 b1 b2 b3 b4 b5 b6
  have HRX := hide hrx'; have HB1 := hide hb01
  clear hrx hrx' hb1 hb01 p1 p2 HTO HBX
  go_wp2_with fail
  refine bodyPost_ret (v := .agg #[.string ty, .int .i64 ver, .int .i64 t.sort, .int .i64 t.num, .string t.text, .slice a3 t.names.length cap3, .slice a4 t.kids.length cap4]) (by simp [results, Tryd.results8, go_sem, a0, a1, a2, a3', a4', a5, a6]) rfl ⟨⟨_, _, _, _, _⟩, rfl, ?_, ?_⟩
  · refine Rep.carry (P := fun b => (w.heap.size + 3 ≤ b ∧ b < w1.heap.size) ∧ FreeB w1 b) (fun b hb => ?_) (fun b hb => ?_) _ _ (unhide HRX)
    · repeat rw [Below.heap_setCell _ _ _ _ (by simp <;> omega)]
    · refine ⟨⟨by omega, by simp only [size_setCell]; omega⟩, hb.2.of_block ?_⟩
      repeat rw [Below.heap_setCell _ _ _ _ (by simp <;> omega)]
  · repeat refine Below.setCell ?_ (by simp <;> omega) _
    exact unhide HB1

set_option maxRecDepth 100000 in
set_option maxHeartbeats 800000 in
theorem markEvent_shp (D : Nat → Prop) (ty : ByteArray) (ver : Int) (t : Tr) (c : C5) (k : Nat) (w : World) (h : TShp D w t c) (hk0 : 0 < k) (hk : k + t.names.length + cK t.kids ≤ 1099511627776) :
    Calls Tryd.prog 14 #[.agg #[.string ty, .int .i64 ver, c.c0, c.c1, c.c2, c.c3, c.c4], .int .i64 k] w fun e w' => e = .returned (.int .i64 (k + t.names.length + cK t.kids : Nat)) ∧ Like D w w' := by
  obtain ⟨c0, c1, c2, c3, c4⟩ := c
  have hlk : ∀ o, Like D w (w.alloc o) := fun o => Like.of_below ((Below.refl _ _).alloc (Nat.le_refl _) o)
  have HC := hide (fun o => markTree_shp D t ⟨c0, c1, c2, c3, c4⟩ k (w.alloc o) (TShp.like (hlk o) t _ _ (alike.refl _) (alike.refl _) (alike.refl _) (alike.refl _) (alike.refl _) h) hk0 hk)
  have HLK := hide hlk
  clear h hlk
  go_enter Tryd.func14, Tryd.ntmps14
  go_wp2_with fail
  refine (unhide HC _).mono ?_
  rintro e w2 ⟨rfl, hl2⟩
  have HL2 := hide ((unhide HLK _).trans hl2)
  clear hl2
  go_wp2_with fail
  go_ret
  exact ⟨rfl, unhide HL2⟩

/-- A slice value whose bytes lie in the world. -/
def BytesAt (w : World) (v : Value) (l : List UInt8) : Prop :=
  ∃ a cap, v = .slice a l.length cap ∧ l.length ≤ 9223372036854775807 ∧ ∀ i, (h : i < l.length) → ∃ b o, a = some ⟨b, o, none⟩ ∧ b < w.heap.size ∧ w.cell? ⟨b, o + i, none⟩ = some (.int .u8 l[i].toNat)

theorem ByRow.at {base : Nat} {w : World} {v : Value} {l : List UInt8} (h : ByRow base w v l) : BytesAt w v l := by
  have h0 := h
  rcases h.2 with ⟨hv, hn⟩ | ⟨g, cap, cur, hv, hb, hg, hnc, hcm, -, -⟩
  · exact ⟨none, 0, by rw [hv, hn], by omega, fun i hi => by omega⟩
  · refine ⟨_, cap, hv, by unfold maxLen at hcm; omega, fun i hi => ?_⟩
    obtain ⟨g', cap', hv', -, hlt, hc⟩ := h0.form (by omega)
    rw [hv] at hv'
    simp only [Value.slice.injEq, Option.some.injEq, Addr.mk.injEq, and_true] at hv'
    obtain ⟨rfl, -⟩ := hv'
    refine ⟨g, 0, rfl, hlt, ?_⟩
    have := hc i (.int .u8 l[i].toNat) (by simp [bc, hi])
    rw [Addr.add_lit] at this
    exact this

theorem BytesAt.on {w w' : World} {v : Value} {l : List UInt8} (h : BytesAt w v l) (hb : Below w.heap.size w w') : BytesAt w' v l := by
  obtain ⟨a, cap, h1, h2, h3⟩ := h
  refine ⟨a, cap, h1, h2, fun i hi => ?_⟩
  obtain ⟨b, o, e, hlt, hc⟩ := h3 i hi
  exact ⟨b, o, e, Nat.lt_of_lt_of_le hlt hb.size, by rw [hb.cell hlt]; exact hc⟩

set_option maxRecDepth 100000 in
set_option maxHeartbeats 800000 in
theorem eqByteS_any (v v2 : Value) (l : List UInt8) (w : World) (h : BytesAt w v l) (h2 : BytesAt w v2 l) :
    Calls Tryd.prog 13 #[v, v2] w fun e w' => e = .returned (.bool true) ∧ Below w.heap.size w w' := by
  have H1 := hide h; have H2 := hide h2
  obtain ⟨a, cap, rfl, hlen, -⟩ := h
  obtain ⟨a2, cap2, rfl, -, -⟩ := h2
  go_enter Tryd.func13, Tryd.ntmps13
  go_wp2_with fail
  go_loopw [5] (fun i wr => ∃ (k : Nat), k ≤ l.length ∧ i = .int .i64 k ∧ Hid (Below w.heap.size w wr)) (fun i _ => l.length - (intOf i).toNat)
  case atStart => exact ⟨0, Nat.zero_le _, rfl, Below.refl _ _⟩
  case round =>
    obtain ⟨k, hk, rfl, HB⟩ := hrel
    by_cases hlt : k < l.length
    · obtain ⟨a', cap', e, -, hc⟩ := (unhide H1).on HB.out
      cases e
      obtain ⟨a2', cap2', e, -, hc2⟩ := (unhide H2).on HB.out
      cases e
      obtain ⟨b, o, rfl, -, e1⟩ := hc k hlt
      obtain ⟨b2, o2, rfl, -, e2⟩ := hc2 k hlt
      clear hc hc2
      generalize l[k].toNat = x at *
      go_wp2_with fail
      go_region
      all_goals
        go_wp2_with fail
        go_roundw
        case rel => exact ⟨k + 1, by omega, by go_num, HB.out.drew⟩
        case measure => simp [intOf]; omega
    · go_wp2_with fail
      go_ret
      exact ⟨rfl, HB.out⟩

/-- The bytes are marks from k on. -/
def Marked (k : Nat) (l : List UInt8) (j : Nat) : Prop := ∀ i, i < j → (h : i < l.length) → l[i] = UInt8.ofNat (k + i)

theorem ByRow.set {base : Nat} {w : World} {g n cap : Nat} {l : List UInt8} (h : ByRow base w (.slice (some ⟨g, 0, none⟩) n cap) l) (j : Nat) (x : UInt8) : ByRow base (w.setCell ⟨g, j, none⟩ (.int .u8 x.toNat)) (.slice (some ⟨g, 0, none⟩) n cap) (l.set j x) := by
  rcases h.2 with ⟨hv, _⟩ | ⟨g', cap', cur, hv, hb, hg, hnc, hcm, hcs, htk⟩
  · simp at hv
  · simp only [Value.slice.injEq, Option.some.injEq, Addr.mk.injEq, and_true] at hv
    obtain ⟨rfl, rfl, rfl⟩ := hv
    refine ⟨by rw [bc_len, Nat.mul_one], Or.inr ⟨g, cap, cur.setIfInBounds j (.int .u8 x.toNat), by rw [List.length_set], hb, ?_, by rw [List.length_set]; exact hnc, hcm, by rw [Array.size_setIfInBounds]; exact hcs, ?_⟩⟩
    · simp [World.setCell, Array.getElem?_modify, hg]
    · rw [List.length_set, Array.toList_setIfInBounds, List.take_set, htk]
      simp [bc, List.map_set]

set_option maxRecDepth 100000 in
set_option maxHeartbeats 800000 in
theorem markByteS_any (base : Nat) (v : Value) (l : List UInt8) (k : Nat) (w : World) (h : ByRow base w v l) (hk : k + l.length ≤ 1099511627776) :
    Calls Tryd.prog 15 #[v, .int .i64 k] w fun e w' => e = .returned (.int .i64 (k + l.length : Nat)) ∧ (∃ l', l'.length = l.length ∧ Marked k l' l.length ∧ ByRow base w' v l') ∧ w.grownBy w' v.ownBlock := by
  obtain ⟨a, cap, hv⟩ := h.slice
  subst hv
  have H := hide h
  clear h
  go_enter Tryd.func15, Tryd.ntmps15
  go_wp2_with fail
  go_loopw [1, 5] (fun kk i wr => ∃ (j : Nat), j ≤ l.length ∧ kk = .int .i64 (k + j : Nat) ∧ i = .int .i64 j ∧ Hid (∃ l', l'.length = l.length ∧ Marked k l' j ∧ ByRow base wr (.slice a l.length cap) l') ∧ Hid (w.grownBy wr (Value.slice a l.length cap).ownBlock)) (fun _ i _ => l.length - (intOf i).toNat)
  case atStart => exact ⟨0, Nat.zero_le _, rfl, rfl, ⟨l, rfl, fun i hi => by omega, unhide H⟩, World.grownBy.refl _ _⟩
  case round =>
    obtain ⟨j, hj, rfl, rfl, HR, HG⟩ := hrel
    by_cases hlt : j < l.length
    · obtain ⟨l', hl', hm, hr⟩ := HR.out
      obtain ⟨g, cap', hv, -, -, hc⟩ := hr.form (by omega)
      rw [hl'] at hv
      simp only [Value.slice.injEq, true_and] at hv
      obtain ⟨rfl, rfl⟩ := hv
      obtain ⟨old, e0⟩ : ∃ old : Nat, wr.cell? ⟨g, j, none⟩ = some (.int .u8 (old : Int)) := by
        have e0 := hc j (.int .u8 (l'[j]'(by omega)).toNat) (by simp [bc, hl', hlt])
        rw [Addr.add_lit, Nat.zero_add] at e0
        exact ⟨_, e0⟩
      have fz : wr.frozen? ⟨g, j, none⟩ = false := by
        rcases hr.2 with ⟨hv, _⟩ | ⟨g', cap', cur, hv, _, hh, _⟩
        · simp at hv
        · simp only [Value.slice.injEq, Option.some.injEq, Addr.mk.injEq, and_true] at hv
          obtain ⟨rfl, -⟩ := hv
          simp [World.frozen?, hh]
      have hwr : IntKind.u8.wrap ((k + j : Nat) : Int) = ((UInt8.ofNat (k + j)).toNat : Int) := by rw [IntKind.wrap_u8]; simp
      have HL' := hide hl'; have HMM := hide hm; have HRR := hide hr
      clear hc hl' hm hr
      have hx : (((UInt8.ofNat (k + j)).toNat : Nat) : Int) = ((k : Int) + j) % 256 := by simp
      have HX := hide hx
      clear hx hwr
      go_wp2_with fail
      go_roundw
      case rel =>
        refine ⟨j + 1, by omega, by go_num, by go_num, ⟨l'.set j (UInt8.ofNat (k + j)), by rw [List.length_set]; exact unhide HL', fun i hi hil => ?_, ?_⟩, ?_⟩
        · by_cases e : i = j
          · subst e; simp
          · rw [List.getElem_set_ne (by omega)]
            exact unhide HMM i (by omega) (by rw [List.length_set] at hil; exact hil)
        · rw [← unhide HX]; exact (unhide HRR).set j _
        · exact But.trans HG.out (But.set _ _ _)
      case measure => simp [intOf]; omega
    · go_wp2_with fail
      go_ret
      obtain rfl : j = l.length := by omega
      exact ⟨rfl, HR.out, HG.out⟩

set_option maxRecDepth 100000 in
set_option maxHeartbeats 800000 in
theorem heldByteS_any (v : Value) (l : List UInt8) (k : Nat) (w : World) (h : BytesAt w v l) (hm : Marked k l l.length) (hk : k + l.length ≤ 1099511627776) :
    Calls Tryd.prog 16 #[v, .int .i64 k] w fun e w' => e = .returned (.int .i64 (k + l.length : Nat)) ∧ Below w.heap.size w w' := by
  have H := hide h; have HM := hide hm
  obtain ⟨a, cap, rfl, hlen, -⟩ := h
  clear hm
  go_enter Tryd.func16, Tryd.ntmps16
  go_wp2_with fail
  go_loopw [1, 5] (fun kk i wr => ∃ (j : Nat), j ≤ l.length ∧ kk = .int .i64 (k + j : Nat) ∧ i = .int .i64 j ∧ Hid (Below w.heap.size w wr)) (fun _ i _ => l.length - (intOf i).toNat)
  case atStart => exact ⟨0, Nat.zero_le _, rfl, rfl, Below.refl _ _⟩
  case round =>
    obtain ⟨j, hj, rfl, rfl, HB⟩ := hrel
    by_cases hlt : j < l.length
    · obtain ⟨a', cap', e, -, hc⟩ := (unhide H).on HB.out
      cases e
      obtain ⟨b, o, rfl, -, e1⟩ := hc j hlt
      have hx : (l[j].toNat : Int) = ((k : Int) + j) % 256 := by rw [unhide HM j hlt hlt]; simp
      rw [hx] at e1
      clear hc hx
      go_wp2_with fail
      go_roundw
      case rel => exact ⟨j + 1, by omega, by go_num, by go_num, HB⟩
      case measure => simp [intOf]; omega
    · go_wp2_with fail
      go_ret
      obtain rfl : j = l.length := by omega
      exact ⟨rfl, HB.out⟩
end Go.Proofs.YtffdofllebbcgaaDoor

/- A law for a callee that raises a fault in a region that draws its order. No program, no conditions. -/

namespace Go.Proofs.YtffdofllebbcgaaDoor
open Go Go.RowKit

/-- Where a call raises a fault, what follows it is never met. -/
theorem dead_end {G : Prop} {S K : Act → World → Prop} (_ : ∀ a w, S a w → K a w) (a : Act) (w : World) (h : G) (_ : Hid False → K a w) : G := h

end Go.Proofs.YtffdofllebbcgaaDoor
