/- The walks of eqStringS, eqTree, eqTreeS: of two trees that lie in memory as one and the same they answer true, and turn nothing that was there. No conditions. -/
import Derived.Test.YtffdofllebbcgaaDoorMerged04
import Derived.Test.YtffdofllebbcgaaDoorWSz
import Derived.Test.YtffdofllebbcgaaDoorWTo
namespace Go.Proofs.YtffdofllebbcgaaDoor
open Go Go.RowKit

def EqSaid (n : Nat) : Prop := ∀ (t : Tr), tsz t < n → ∀ (P Q : Nat → Prop) (c d : C5) (w : World), (∀ b, P b → b < w.heap.size) → (∀ b, Q b → b < w.heap.size) → Rep P w t c → Rep Q w t d →
    Calls Tryd.prog 28 #[.agg #[c.c0, c.c1, c.c2, c.c3, c.c4], .agg #[d.c0, d.c1, d.c2, d.c3, d.c4]] w fun e w' => e = .returned (.bool true) ∧ Below w.heap.size w w'

set_option maxHeartbeats 400000 in
theorem eqTreeS_any (n : Nat) (IH : EqSaid n) (t : Tr) (hn : tsz t ≤ n) (P Q : Nat → Prop) (a a2 : Option Addr) (cap cap2 : Nat) (w : World) (hP : ∀ b, P b → b < w.heap.size) (hQ : ∀ b, Q b → b < w.heap.size)
    (hlen : t.kids.length ≤ 9223372036854775807)
    (hc : ∀ i, (hi : i < t.kids.length) → ∃ b o c, a = some ⟨b, o, none⟩ ∧ P b ∧ C5.at w b (o + i * 5) c ∧ Rep P w t.kids[i] c)
    (hc2 : ∀ i, (hi : i < t.kids.length) → ∃ b o c, a2 = some ⟨b, o, none⟩ ∧ Q b ∧ C5.at w b (o + i * 5) c ∧ Rep Q w t.kids[i] c) :
    Calls Tryd.prog 53 #[.slice a t.kids.length cap, .slice a2 t.kids.length cap2] w fun e w' => e = .returned (.bool true) ∧ Below w.heap.size w w' := by
  generalize hks : t.kids = ks at *
  have HK := hide hks; clear hks
  have HC := hide hc; clear hc
  have HC2 := hide hc2; clear hc2
  have HP := hide hP; clear hP
  have HQ := hide hQ; clear hQ
  have HI := hide IH; clear IH
  go_enter Tryd.func53, Tryd.ntmps53
  go_wp2_with fail
  go_loopw [5] (fun i wr => ∃ (k : Nat), k ≤ ks.length ∧ i = .int .i64 k ∧ Below w.heap.size w wr) (fun i _ => ks.length - (intOf i).toNat)
  case atStart => exact ⟨0, Nat.zero_le _, rfl, Below.refl _ _⟩
  case round =>
    obtain ⟨k, hk, rfl, hb⟩ := hrel
    by_cases hlt : k < ks.length
    · obtain ⟨b, o, c, rfl, hpb, hcell, hrep⟩ := unhide HC k hlt
      obtain ⟨b2, o2, d, rfl, hpb2, hcell2, hrep2⟩ := unhide HC2 k hlt
      have hcell' := hcell.carry (hb.block b (unhide HP b hpb))
      have hcell2' := hcell2.carry (hb.block b2 (unhide HQ b2 hpb2))
      obtain ⟨c0, c1, c2, c3, c4⟩ := c
      obtain ⟨d0, d1, d2, d3, d4⟩ := d
      obtain ⟨e0, e1, e2, e3, e4⟩ := hcell'
      obtain ⟨g0, g1, g2, g3, g4⟩ := hcell2'
      simp only at e0 e1 e2 e3 e4 g0 g1 g2 g3 g4
      have hmem : ks[k] ∈ t.kids := by rw [unhide HK]; exact List.getElem_mem hlt
      have hsm : tsz ks[k] < n := by have := tsz_kid hmem; omega
      have hcall := unhide HI ks[k] hsm P Q ⟨c0, c1, c2, c3, c4⟩ ⟨d0, d1, d2, d3, d4⟩ wr.drew (fun b hb' => Nat.lt_of_lt_of_le (unhide HP b hb') hb.size) (fun b hb' => Nat.lt_of_lt_of_le (unhide HQ b hb') hb.size) (Rep.carry (w' := wr.drew) (fun b hb' => hb.drew.block b (unhide HP b hb')) (fun _ h => h) _ _ hrep) (Rep.carry (w' := wr.drew) (fun b hb' => hb.drew.block b (unhide HQ b hb')) (fun _ h => h) _ _ hrep2)
      have HCALL := hide hcall
      clear hrep hcell hpb hrep2 hcell2 hpb2 hmem hcall HC HC2
      go_wp2_with fail
      go_region_with (go_at_call 28; refine (unhide HCALL).mono ?_; rintro e w' ⟨rfl, hb'⟩)
      all_goals
        have hb2 := hb.drew.trans (hb'.mono hb.drew.size)
        go_wp2_with fail
        go_roundw
        case rel => exact ⟨k + 1, by omega, by go_num, hb2⟩
        case measure => simp [intOf]; omega
    · go_wp2_with fail
      go_ret
      exact ⟨rfl, hb⟩

set_option maxHeartbeats 400000 in
theorem eqTree_step (n : Nat) (IH : EqSaid n) : EqSaid (n + 1) := by
  intro t hn P Q c d w hP hQ hrep hrep2
  obtain ⟨c0, c1, c2, c3, c4⟩ := c
  obtain ⟨d0, d1, d2, d3, d4⟩ := d
  obtain ⟨e0, e1, e2, -, -, -, hns, a, cap, e4, hlen, hks⟩ := hrep.open
  obtain ⟨g0, g1, g2, -, -, -, hns2, a2, cap2, g4, -, hks2⟩ := hrep2.open
  simp only at e0 e1 e2 e4 hns g0 g1 g2 g4 hns2
  subst e0 e1 e2 e4 g0 g1 g2 g4
  have HP := hide hP; have HK := hide hks; have HN := hide hns; have HI := hide IH; have HQ := hide hQ; have HK2 := hide hks2; have HN2 := hide hns2
  clear hP hQ hks hns hks2 hns2 IH hrep hrep2
  have hbx : ∀ o o2, Below w.heap.size w ((w.alloc o).alloc o2) := fun o o2 => ((Below.refl _ _).alloc (Nat.le_refl _) o).alloc (by simp) o2
  have HBX := hide hbx; clear hbx
  go_enter Tryd.func28, Tryd.ntmps28
  go_wp2_with fail
  refine (eqStringS_any c3 d3 t.names _ (P := P) (Q := Q) ((unhide HN).carry (fun b hb => (unhide HBX _ _).block b (unhide HP b hb)) (fun _ h => h)) ((unhide HN2).carry (fun b hb => (unhide HBX _ _).block b (unhide HQ b hb)) (fun _ h => h)) (fun b hb => Nat.lt_of_lt_of_le (unhide HP b hb) (unhide HBX _ _).size) (fun b hb => Nat.lt_of_lt_of_le (unhide HQ b hb) (unhide HBX _ _).size)).mono ?_
  rintro e w1 ⟨rfl, hb1⟩
  obtain ⟨q0, q1, hsz1, hb01⟩ := box2 hb1
  have k0 := q0.cell (i := 4) (by omega)
  have k1 := q1.cell (i := 4) (by omega)
  simp only [row5] at k0 k1
  have HB1 := hide hb01
  clear hb1 q0 q1 hb01
  go_wp2_with fail
  refine (eqTreeS_any n (unhide HI) t (by omega) P Q a a2 cap cap2 w1 (fun b hb => Nat.lt_of_lt_of_le (unhide HP b hb) (unhide HB1).size) (fun b hb => Nat.lt_of_lt_of_le (unhide HQ b hb) (unhide HB1).size) hlen (fun i hi => ?_) (fun i hi => ?_)).mono ?_
  · obtain ⟨b, o, c, h1, h2, h3, h4⟩ := unhide HK i hi
    exact ⟨b, o, c, h1, h2, h3.carry ((unhide HB1).block b (unhide HP b h2)), Rep.carry (fun b hb => (unhide HB1).block b (unhide HP b hb)) (fun _ h => h) _ _ h4⟩
  · obtain ⟨b, o, c, h1, h2, h3, h4⟩ := unhide HK2 i hi
    exact ⟨b, o, c, h1, h2, h3.carry ((unhide HB1).block b (unhide HQ b h2)), Rep.carry (fun b hb => (unhide HB1).block b (unhide HQ b hb)) (fun _ h => h) _ _ h4⟩
  rintro e w2 ⟨rfl, hb2⟩
  have hb3 := (unhide HB1).trans (hb2.mono (unhide HB1).size)
  go_wp2_with fail
  go_ret
  exact ⟨rfl, hb3⟩

theorem eqTree_all : ∀ n, EqSaid n
  | 0 => fun t h => by omega
  | n + 1 => eqTree_step n (eqTree_all n)

theorem eqTree_any (t : Tr) (P Q : Nat → Prop) (c d : C5) (w : World) (hP : ∀ b, P b → b < w.heap.size) (hQ : ∀ b, Q b → b < w.heap.size) (h1 : Rep P w t c) (h2 : Rep Q w t d) :
    Calls Tryd.prog 28 #[.agg #[c.c0, c.c1, c.c2, c.c3, c.c4], .agg #[d.c0, d.c1, d.c2, d.c3, d.c4]] w fun e w' => e = .returned (.bool true) ∧ Below w.heap.size w w' :=
  eqTree_all (tsz t + 1) t (by omega) P Q c d w hP hQ h1 h2
end Go.Proofs.YtffdofllebbcgaaDoor

/- Events in memory (a struct of a string, a number and a tree: seven cells), and the walks of the law's own szEvent, toEvent, eqEvent. No conditions. -/

namespace Go.Proofs.YtffdofllebbcgaaDoor
open Go Go.RowKit

def row7 (a b c0 c1 c2 c3 c4 : Value) : Nat → Value
  | 0 => a
  | 1 => b
  | 2 => c0
  | 3 => c1
  | 4 => c2
  | 5 => c3
  | _ => c4

theorem row7_alloc (w : World) (a b c0 c1 c2 c3 c4 : Value) (t : TypeId) : (w.alloc (.cells #[a, b, c0, c1, c2, c3, c4] t)).rowIs w.heap.size t 7 (row7 a b c0 c1 c2 c3 c4) :=
  World.rowIs_alloc w #[a, b, c0, c1, c2, c3, c4] t _ (fun i hi => by
    have hi' : i < 7 := hi
    match i, hi' with
    | 0, _ => rfl
    | 1, _ => rfl
    | 2, _ => rfl
    | 3, _ => rfl
    | 4, _ => rfl
    | 5, _ => rfl
    | 6, _ => rfl)

theorem ebox1 {w w1 : World} {a b x0 x1 x2 x3 x4 : Value} {tx : TypeId}
    (hb : Below (w.alloc (.cells #[a, b, x0, x1, x2, x3, x4] tx)).heap.size (w.alloc (.cells #[a, b, x0, x1, x2, x3, x4] tx)) w1) :
    w1.rowIs w.heap.size tx 7 (row7 a b x0 x1 x2 x3 x4) ∧ w.heap.size + 1 ≤ w1.heap.size ∧ Below w.heap.size w w1 := by
  have r0 := row7_alloc w a b x0 x1 x2 x3 x4 tx
  have hs := hb.size
  refine ⟨r0.of_block (hb.block _ r0.lt), by simpa using hs, ?_⟩
  exact ((Below.refl _ _).alloc (Nat.le_refl _) _).trans (hb.mono (by simp))

theorem ebox3 {w w1 : World} {xa xb x0 x1 x2 x3 x4 ya yb y0 y1 y2 y3 y4 za zb z0 z1 z2 z3 z4 : Value} {tx ty tz : TypeId}
    (hb : Below (((w.alloc (.cells #[xa, xb, x0, x1, x2, x3, x4] tx)).alloc (.cells #[ya, yb, y0, y1, y2, y3, y4] ty)).alloc (.cells #[za, zb, z0, z1, z2, z3, z4] tz)).heap.size (((w.alloc (.cells #[xa, xb, x0, x1, x2, x3, x4] tx)).alloc (.cells #[ya, yb, y0, y1, y2, y3, y4] ty)).alloc (.cells #[za, zb, z0, z1, z2, z3, z4] tz)) w1) :
    w1.rowIs (w.heap.size + 1) ty 7 (row7 ya yb y0 y1 y2 y3 y4) ∧ w1.rowIs (w.heap.size + 1 + 1) tz 7 (row7 za zb z0 z1 z2 z3 z4) ∧ w.heap.size + 3 ≤ w1.heap.size ∧ Below w.heap.size w w1 := by
  have e1 : (w.alloc (.cells #[xa, xb, x0, x1, x2, x3, x4] tx)).heap.size = w.heap.size + 1 := by simp
  have e2 : ((w.alloc (.cells #[xa, xb, x0, x1, x2, x3, x4] tx)).alloc (.cells #[ya, yb, y0, y1, y2, y3, y4] ty)).heap.size = w.heap.size + 1 + 1 := by simp
  have r1 := (row7_alloc (w.alloc (.cells #[xa, xb, x0, x1, x2, x3, x4] tx)) ya yb y0 y1 y2 y3 y4 ty).alloc (.cells #[za, zb, z0, z1, z2, z3, z4] tz)
  have r2 := row7_alloc ((w.alloc (.cells #[xa, xb, x0, x1, x2, x3, x4] tx)).alloc (.cells #[ya, yb, y0, y1, y2, y3, y4] ty)) za zb z0 z1 z2 z3 z4 tz
  rw [e1] at r1
  rw [e2] at r2
  have hs := hb.size
  refine ⟨r1.of_block (hb.block _ r1.lt), r2.of_block (hb.block _ r2.lt), by simpa using hs, ?_⟩
  exact ((((Below.refl _ _).alloc (Nat.le_refl _) _).alloc (by simp) _).alloc (by simp; omega) _).trans (hb.mono (by simp; omega))

set_option maxHeartbeats 800000 in
theorem szEvent_any (ty : ByteArray) (ver : Int) (t : Tr) (P : Nat → Prop) (c : C5) (left : Int) (w : World) (hP : ∀ b, P b → b < w.heap.size) (hrep : Rep P w t c) (hty : ty.size ≤ 9223372036854775807) (h0 : 0 ≤ left) (h1 : left ≤ 1048576) :
    Calls Tryd.prog 6 #[.agg #[.string ty, .int .i64 ver, c.c0, c.c1, c.c2, c.c3, c.c4], .int .i64 left] w fun e w' => ∃ r : Int, e = .returned (.int .i64 r) ∧ (r = -1 ∨ (0 ≤ r ∧ r + ty.size + wT t = left)) ∧ Below w.heap.size w w' := by
  obtain ⟨c0, c1, c2, c3, c4⟩ := c
  have hbx : ∀ o, Below w.heap.size w (w.alloc o) := fun o => (Below.refl _ _).alloc (Nat.le_refl _) o
  have hz := fun o (l : Int) (h0 : 0 ≤ l) (h1 : l ≤ 1048576) => szTree_any t P ⟨c0, c1, c2, c3, c4⟩ l (w.alloc o) (fun b hb => Nat.lt_of_lt_of_le (hP b hb) (hbx o).size) (Rep.carry (fun b hb => (hbx o).block b (hP b hb)) (fun _ h => h) _ _ hrep) h0 h1
  have HZ := hide hz
  clear hz hP hrep
  by_cases hneg : left - ty.size < 0
  · go_enter Tryd.func6, Tryd.ntmps6
    go_wp2_with fail
    go_ret
    exact ⟨_, rfl, Or.inl rfl, hbx _⟩
  · go_enter Tryd.func6, Tryd.ntmps6
    go_wp2_with fail
    refine (unhide HZ _ _ (by omega) (by omega)).mono ?_
    rintro e w' ⟨r, rfl, hr, hb'⟩
    have hb2 := (hbx _).trans (hb'.mono (hbx _).size)
    clear hb'
    rcases hr with rfl | ⟨hr0, hr1⟩
    · go_wp2_with fail
      go_ret
      exact ⟨_, rfl, Or.inl rfl, hb2⟩
    · have HR := hide hr1; clear hr1
      go_wp2_with fail
      go_ret
      exact ⟨_, rfl, Or.inr ⟨hr0, by have := unhide HR; omega⟩, hb2⟩

set_option maxRecDepth 100000 in
set_option maxHeartbeats 1600000 in
theorem toEvent_any (ty : ByteArray) (ver : Int) (t : Tr) (P : Nat → Prop) (c : C5) (w : World) (hP : ∀ b, P b → b < w.heap.size) (hrep : Rep P w t c) (hwt : wT t ≤ 1048576) :
    Calls Tryd.prog 8 #[.agg #[.string ty, .int .i64 ver, c.c0, c.c1, c.c2, c.c3, c.c4]] w fun e w' => ∃ c' : C5, e = .returned (.agg #[.string ty, .int .i64 ver, c'.c0, c'.c1, c'.c2, c'.c3, c'.c4]) ∧ Rep (New w w') w' t c' ∧ Below w.heap.size w w' := by
  obtain ⟨c0, c1, c2, c3, c4⟩ := c
  have hbx : ∀ o o2 o3, Below w.heap.size w (((w.alloc o).alloc o2).alloc o3) := fun o o2 o3 => (((Below.refl _ _).alloc (Nat.le_refl _) o).alloc (by simp) o2).alloc (by simp; omega) o3
  have HBX := hide hbx
  have HTO := hide (fun (W : World) (hW : Below w.heap.size w W) => toTree_any t P ⟨c0, c1, c2, c3, c4⟩ W (fun b hb => Nat.lt_of_lt_of_le (hP b hb) hW.size) (Rep.carry (fun b hb => hW.block b (hP b hb)) (fun _ h => h) _ _ hrep) hwt)
  clear hbx hP hrep
  go_enter Tryd.func8, Tryd.ntmps8
  go_wp2_with fail
  refine (unhide HTO _ (unhide HBX _ _ _)).mono ?_
  rintro e w1 ⟨⟨x0, x1, x2, x3, x4⟩, rfl, hrx, hb1⟩
  obtain ⟨p1, p2, hs1, hb01⟩ := ebox3 hb1
  obtain ⟨g0, g1, g2, -, -, -, ⟨a3, cap3, g3, -⟩, a4, cap4, g4, -⟩ := hrx.open
  simp only at g0 g1 g2 g3 g4
  subst g0 g1 g2 g3 g4
  have hrx' : Rep (fun b => w.heap.size + 3 ≤ b ∧ b < w1.heap.size) w1 t ⟨.int .i64 t.sort, .int .i64 t.num, .string t.text, .slice a3 t.names.length cap3, .slice a4 t.kids.length cap4⟩ :=
    Rep.carry (fun _ _ => rfl) (fun b hb => ⟨by have := hb.1; simpa using this, hb.2⟩) _ _ hrx
  have fa := p1.frozen; have fb := p2.frozen
  have a0 := p1.cell (i := 0) (by omega); have a1 := p1.cell (i := 1) (by omega); have a2 := p1.cell (i := 2) (by omega); have a3' := p1.cell (i := 3) (by omega); have a4' := p1.cell (i := 4) (by omega); have a5 := p1.cell (i := 5) (by omega); have a6 := p1.cell (i := 6) (by omega)
  have b0 := p2.cell (i := 0) (by omega); have b1 := p2.cell (i := 1) (by omega); have b2 := p2.cell (i := 2) (by omega); have b3 := p2.cell (i := 3) (by omega); have b4 := p2.cell (i := 4) (by omega); have b5 := p2.cell (i := 5) (by omega); have b6 := p2.cell (i := 6) (by omega)
  simp [row7] at a0 a1 a2 a3' a4' a5 a6 b0 b1 b2 b3 b4 b5 b6
  have HRX := hide hrx'; have HB1 := hide hb01
  clear hrx hrx' hb1 hb01 p1 p2 HTO HBX
  go_wp2_with fail
  refine bodyPost_ret (v := .agg #[.string ty, .int .i64 ver, .int .i64 t.sort, .int .i64 t.num, .string t.text, .slice a3 t.names.length cap3, .slice a4 t.kids.length cap4]) (by simp [results, Tryd.results8, go_sem, a0, a1, a2, a3', a4', a5, a6]) rfl ⟨⟨_, _, _, _, _⟩, rfl, ?_, ?_⟩
  · refine Rep.carry (P := fun b => w.heap.size + 3 ≤ b ∧ b < w1.heap.size) (fun b hb => ?_) (fun b hb => ?_) _ _ (unhide HRX)
    · repeat rw [Below.heap_setCell _ _ _ _ (by simp <;> omega)]
    · exact ⟨by omega, by simp only [size_setCell]; omega⟩
  · repeat refine Below.setCell ?_ (by simp <;> omega) _
    exact unhide HB1

set_option maxRecDepth 100000 in
set_option maxHeartbeats 1600000 in
theorem eqEvent_any (ty : ByteArray) (ver : Int) (t : Tr) (P Q : Nat → Prop) (c d : C5) (w : World) (hP : ∀ b, P b → b < w.heap.size) (hQ : ∀ b, Q b → b < w.heap.size) (h1 : Rep P w t c) (h2 : Rep Q w t d) :
    Calls Tryd.prog 10 #[.agg #[.string ty, .int .i64 ver, c.c0, c.c1, c.c2, c.c3, c.c4], .agg #[.string ty, .int .i64 ver, d.c0, d.c1, d.c2, d.c3, d.c4]] w fun e w' => e = .returned (.bool true) ∧ Below w.heap.size w w' := by
  obtain ⟨c0, c1, c2, c3, c4⟩ := c
  obtain ⟨d0, d1, d2, d3, d4⟩ := d
  have hbx : ∀ o o2, Below w.heap.size w ((w.alloc o).alloc o2) := fun o o2 => ((Below.refl _ _).alloc (Nat.le_refl _) o).alloc (by simp) o2
  have hcall := fun (W : World) (hW : Below w.heap.size w W) => eqTree_any t P Q ⟨c0, c1, c2, c3, c4⟩ ⟨d0, d1, d2, d3, d4⟩ W (fun b hb => Nat.lt_of_lt_of_le (hP b hb) hW.size) (fun b hb => Nat.lt_of_lt_of_le (hQ b hb) hW.size) (Rep.carry (fun b hb => hW.block b (hP b hb)) (fun _ h => h) _ _ h1) (Rep.carry (fun b hb => hW.block b (hQ b hb)) (fun _ h => h) _ _ h2)
  have HBX := hide hbx; have HCALL := hide hcall
  clear hbx hcall hP hQ h1 h2
  go_enter Tryd.func10, Tryd.ntmps10
  go_wp2_with fail
  refine (unhide HCALL _ (unhide HBX _ _)).mono ?_
  rintro e w1 ⟨rfl, hb1⟩
  have hb2 := (unhide HBX _ _).trans (hb1.mono (unhide HBX _ _).size)
  have HB := hide hb2
  clear hb1 hb2
  go_wp2_with fail
  go_ret
  exact ⟨rfl, unhide HB⟩
end Go.Proofs.YtffdofllebbcgaaDoor
