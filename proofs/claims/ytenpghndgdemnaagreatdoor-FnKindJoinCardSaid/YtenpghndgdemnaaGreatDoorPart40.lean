/- The specification's l3Join whole, and its KindJoin. Conditions: two schemas in memory. -/
import Derived.Test.YtenpghndgdemnaaGreatDoorPart39
import Derived.Test.YtenpghndgdemnaaGreatDoorPart34
import Derived.Test.YtenpghndgdemnaaGreatDoorRows
import Derived.Test.YtenpghndgdemnaaGreatDoorPart00
import Derived.Test.YtenpghndgdemnaaGreatDoorPart01
import Derived.Deep.RegionWith
import Derived.Deep.QuietTactic
import Derived.BigQuiet
namespace Go.Proofs.YtenpghndgdemnaaGreatDoor
open Go Go.RowKit

theorem join_all : ∀ n, JsS n
  | 0 => fun a b hn => by
    obtain ⟨s, ns, ks⟩ := b
    rw [ksz] at hn
    omega
  | n + 1 => fun a b hn hza hzb c d w ha hb => by
    obtain ⟨a1, a2, p1, p2, rfl⟩ := ha.form
    obtain ⟨b1, b2, q1, q2, rfl⟩ := hb.form
    by_cases h6 : a.sort = 6 ∨ b.sort = 6
    · exact join_mb n a b w a1 a2 b1 b2 p1 p2 q1 q2 ha hb (join_all n) hn hza hzb h6
    by_cases he : a.sort = b.sort
    · by_cases g4 : a.sort = 4
      · exact join_li n a b w a1 a2 b1 b2 p1 p2 q1 q2 ha hb (join_all n) hn hza hzb g4 (he ▸ g4)
      · exact join_fm n a b w a1 a2 b1 b2 p1 p2 q1 q2 ha hb (join_all n) hn hza hzb he g4 (fun h => h6 (Or.inl h))
    · exact join_ne n a b w a1 a2 b1 b2 p1 p2 q1 q2 ha hb (fun h => h6 (Or.inl h)) (fun h => h6 (Or.inr h)) he
/-- What the specification's KindJoin answers. -/
def JsE (o : Option Kd) (w : World) (e : Ending) (w' : World) : Prop := ∃ d : C3, e = .returned (.tuple #[.agg #[d.c0, d.c1, d.c2], .bool o.isSome]) ∧ KRep (New w w') w' (o.getD kd0) d ∧ Below w.heap.size w w'
theorem krep_kd0 (P : Nat → Prop) (W : World) : KRep P W kd0 ⟨.int .i64 0, .slice none 0 0, .slice none 0 0⟩ := by
  unfold kd0
  rw [KRep]
  exact ⟨rfl, ⟨by decide, by decide⟩, ⟨none, 0, rfl, by decide, fun i hi => absurd hi (Nat.not_lt_zero i)⟩, none, 0, rfl, by decide, fun h => absurd rfl h⟩
theorem jsE_none {w w' : World} {o : Option Kd} (h : o = none) (hb : Below w.heap.size w w') : JsE o w (.returned (.tuple #[.agg #[.int .i64 0, .slice none 0 0, .slice none 0 0], .bool false])) w' := by
  subst h
  exact ⟨⟨.int .i64 0, .slice none 0 0, .slice none 0 0⟩, rfl, krep_kd0 _ _, hb⟩
theorem joinD_no {a b : Kd} (h : ¬ (0 < qT a 1 ∧ 0 < qT b 1)) : joinD a b = none := by unfold joinD; rw [if_neg h]
theorem joinD_yes {a b : Kd} (h1 : 0 < qT a 1) (h2 : 0 < qT b 1) : joinD a b = okO (jnP 80 a b) := by unfold joinD; rw [if_pos ⟨h1, h2⟩]
theorem okO_no {o : Option Kd} (h : ∀ x, o = some x → ¬ 0 < qT x 1) : okO o = none := by
  cases o with
  | none => rfl
  | some x => exact if_neg (h x rfl)
theorem okO_yes {x : Kd} (h : 0 < qT x 1) : okO (some x) = some x := if_pos h
set_option maxRecDepth 100000 in
set_option maxHeartbeats 3200000 in
theorem specKindJoin_any (a b : Kd) (P Q : Nat → Prop) (c d : C3) (w : World) (hP : ∀ x, P x → x < w.heap.size) (hQ : ∀ x, Q x → x < w.heap.size) (ha : KRep P w a c) (hb : KRep Q w b d) :
    Calls Tryz.prog 6 #[.agg #[c.c0, c.c1, c.c2], .agg #[d.c0, d.c1, d.c2]] w (JsE (joinD a b) w) := by
  have ha' : KRep (fun x => x < w.heap.size) w a c := KRep.carry (fun _ _ => rfl) hP _ _ ha
  have hb' : KRep (fun x => x < w.heap.size) w b d := KRep.carry (fun _ _ => rfl) hQ _ _ hb
  have hca : ∀ W, Below w.heap.size w W → KRep (fun x => x < W.heap.size) W a c := fun W hW => KRep.carry (fun x hx => hW.block x hx) (fun _ hx => Nat.lt_of_lt_of_le hx hW.size) _ _ ha'
  have hcb : ∀ W, Below w.heap.size w W → KRep (fun x => x < W.heap.size) W b d := fun W hW => KRep.carry (fun x hx => hW.block x hx) (fun _ hx => Nat.lt_of_lt_of_le hx hW.size) _ _ hb'
  have HOA : Hid (∀ W, Below w.heap.size w W → Calls Tryz.prog 22 #[.agg #[c.c0, c.c1, c.c2]] W fun e w' => e = .returned (.bool (decide (0 < qT a 1))) ∧ Below W.heap.size W w') := fun W hW => specKindOk_any a _ c W (fun _ h => h) (hca W hW)
  have HOB : Hid (∀ W, Below w.heap.size w W → Calls Tryz.prog 22 #[.agg #[d.c0, d.c1, d.c2]] W fun e w' => e = .returned (.bool (decide (0 < qT b 1))) ∧ Below W.heap.size W w') := fun W hW => specKindOk_any b _ d W (fun _ h => h) (hcb W hW)
  have HF : Hid (∀ W, 0 < qT a 1 → 0 < qT b 1 → Below w.heap.size w W → Calls Tryz.prog 23 #[.agg #[c.c0, c.c1, c.c2], .agg #[d.c0, d.c1, d.c2]] W (JsO (jnP 80 a b) W)) := fun W h1 h2 hW => join_all 80 a b (by have := (ok_of_qT h1).2; have := (ok_of_qT h2).2; omega) (ok_of_qT h1).2 (ok_of_qT h2).2 c d W ⟨hca W hW, (ok_of_qT h1).1⟩ ⟨hcb W hW, (ok_of_qT h2).1⟩
  obtain ⟨a3, cap3, a4, cap4, rfl⟩ := krepF ha
  obtain ⟨b3, bap3, b4, bap4, rfl⟩ := krepF hb
  have hB := B3.start w (.int .i64 a.sort) (.slice a3 a.names.length cap3) (.slice a4 a.kids.length cap4) (.int .i64 b.sort) (.slice b3 b.names.length bap3) (.slice b4 b.kids.length bap4)
  clear ha hb ha' hb' hca hcb hP hQ
  go_enter Tryz.func6, Tryz.ntmps6
  go_upto_region 1 with fail
  generalize (((w.alloc (.cells #[.int .i64 a.sort, .slice a3 a.names.length cap3, .slice a4 a.kids.length cap4] 26)).alloc (.cells #[.int .i64 b.sort, .slice b3 b.names.length bap3, .slice b4 b.kids.length bap4] 26)).alloc (.cells #[.int .i64 0, .slice none 0 0, .slice none 0 0] 26)) = W0 at hB ⊢
  have HSZ := hide hB.size; have HBW := hide hB.below
  have HRA := hide hB.a; have HRB := hide hB.b; have HRR := hide hB.r
  have x0 := hB.a.cell (i := 0) (by omega); have x1 := hB.a.cell (i := 1) (by omega); have x2 := hB.a.cell (i := 2) (by omega)
  simp only [row3] at x0 x1 x2
  clear hB
  go_wp2_with fail
  refine (unhide HOA W0 (unhide HBW)).mono ?_
  rintro e w1 ⟨rfl, hb1⟩
  have HB1 := hide ((unhide HBW).trans (hb1.mono (unhide HBW).size))
  have HRA1 := hide ((unhide HRA).of_block (hb1.block _ (unhide HRA).lt)); have HRB1 := hide ((unhide HRB).of_block (hb1.block _ (unhide HRB).lt)); have HRR1 := hide ((unhide HRR).of_block (hb1.block _ (unhide HRR).lt))
  clear hb1 x0 x1 x2 HRA HRB HRR HSZ HBW
  by_cases hqa : 0 < qT a 1
  case neg =>
    rw [decide_eq_false hqa]
    have HN := hide (joinD_no (a := a) (b := b) fun h => hqa h.1)
    have hrr := unhide HRR1
    have r0 := hrr.cell (i := 0) (by omega); have r1 := hrr.cell (i := 1) (by omega); have r2 := hrr.cell (i := 2) (by omega); have rf := hrr.frozen
    simp only [row3] at r0 r1 r2
    clear hqa hrr
    go_wp2_with fail
    refine bodyPost_ret (v := .tuple #[.agg #[.int .i64 0, .slice none 0 0, .slice none 0 0], .bool false]) (by simp [results, Tryz.results6, go_sem, r0, r1, r2]) rfl ?_
    exact jsE_none (unhide HN) (below3 (unhide HB1) (by omega) _ _ _)
  have HQA := hide hqa
  rw [decide_eq_true hqa]
  have hrb := unhide HRB1
  have y0 := hrb.cell (i := 0) (by omega); have y1 := hrb.cell (i := 1) (by omega); have y2 := hrb.cell (i := 2) (by omega)
  simp only [row3] at y0 y1 y2
  clear hqa hrb
  go_wp2_with fail
  refine (unhide HOB w1 (unhide HB1)).mono ?_
  rintro e w2 ⟨rfl, hb2⟩
  have HB2 := hide ((unhide HB1).trans (hb2.mono (unhide HB1).size))
  have HRR2 := hide ((unhide HRR1).of_block (hb2.block _ (unhide HRR1).lt))
  have ra := ((unhide HRA1).of_block (hb2.block _ (unhide HRA1).lt)); have rb := ((unhide HRB1).of_block (hb2.block _ (unhide HRB1).lt))
  clear y0 y1 y2
  have x0 := ra.cell (i := 0) (by omega); have x1 := ra.cell (i := 1) (by omega); have x2 := ra.cell (i := 2) (by omega); have y0 := rb.cell (i := 0) (by omega); have y1 := rb.cell (i := 1) (by omega); have y2 := rb.cell (i := 2) (by omega)
  simp only [row3] at x0 x1 x2 y0 y1 y2
  clear hb2 HRA1 HRB1 HRR1 ra rb
  by_cases hqb : 0 < qT b 1
  case neg =>
    rw [decide_eq_false hqb]
    have HN := hide (joinD_no (a := a) (b := b) fun h => hqb h.2)
    have hrr := unhide HRR2
    have r0 := hrr.cell (i := 0) (by omega); have r1 := hrr.cell (i := 1) (by omega); have r2 := hrr.cell (i := 2) (by omega); have rf := hrr.frozen
    simp only [row3] at r0 r1 r2
    clear hqb hrr
    go_wp2_with fail
    refine bodyPost_ret (v := .tuple #[.agg #[.int .i64 0, .slice none 0 0, .slice none 0 0], .bool false]) (by simp [results, Tryz.results6, go_sem, r0, r1, r2]) rfl ?_
    exact jsE_none (unhide HN) (below3 (unhide HB2) (by omega) _ _ _)
  have HCALL := hide (unhide HF w2 (unhide HQA) hqb (unhide HB2))
  have HJ := hide (joinD_yes (unhide HQA) hqb)
  rw [decide_eq_true hqb]
  clear hqb
  go_wp2_with fail
  refine (unhide HCALL).mono ?_
  rintro e w3 ⟨hb3, d, er, rfl, ⟨s0, d1, d2, k1, u1, k2, u2, rfl⟩, rfl, hrep, -⟩
  have HB3 := hide ((unhide HB2).trans (hb3.mono (unhide HB2).size))
  have HRR3 := hide ((unhide HRR2).of_block (hb3.block _ (unhide HRR2).lt))
  have HREP := hide hrep; have HZ3 := hide hb3.size
  have HRR2L := hide (unhide HRR2).lt
  clear hb3 x0 x1 x2 y0 y1 y2 hrep HCALL HRR2 HF HOA HOB HQA
  go_upto_region 4 with fail
  have hal := (Below.refl w3.heap.size w3).alloc (Nat.le_refl _) (.cells #[.int .i64 s0, .slice d1 k1 u1, .slice d2 k2 u2] 26)
  have hg := row3_alloc w3 (.int .i64 s0) (.slice d1 k1 u1) (.slice d2 k2 u2) 26
  have HB4 := hide ((unhide HB3).trans (hal.mono (unhide HB3).size))
  have hrr4 := (unhide HRR3).of_block (hal.block _ (unhide HRR3).lt)
  have hz4 : w3.heap.size ≤ (w3.alloc (.cells #[.int .i64 s0, .slice d1 k1 u1, .slice d2 k2 u2] 26)).heap.size := by rw [World.size_alloc]; omega
  have hreps : ∀ x, jnP 80 a b = some x → KRep (fun b => w2.heap.size ≤ b ∧ b < w3.heap.size) (w3.alloc (.cells #[.int .i64 s0, .slice d1 k1 u1, .slice d2 k2 u2] 26)) x ⟨.int .i64 s0, .slice d1 k1 u1, .slice d2 k2 u2⟩ := fun x hx => KRep.carry (fun b hb => hal.block b hb.2) (fun _ h => h) _ _ (unhide HREP x hx)
  have HW2 := hide (unhide HB2).size
  generalize (w3.alloc (.cells #[.int .i64 s0, .slice d1 k1 u1, .slice d2 k2 u2] 26)) = w4 at *
  generalize w3.heap.size = g at *
  have HG := hide hg; have HRR4 := hide hrr4; have HRP := hide hreps
  have r0 := hrr4.cell (i := 0) (by omega); have r1 := hrr4.cell (i := 1) (by omega); have r2 := hrr4.cell (i := 2) (by omega); have rf := hrr4.frozen
  have g0 := hg.cell (i := 0) (by omega); have g1 := hg.cell (i := 1) (by omega); have g2 := hg.cell (i := 2) (by omega)
  simp only [row3] at r0 r1 r2 g0 g1 g2
  clear hg hrr4 hal hreps HREP HB3 HRR3
  cases hov : jnP 80 a b with
  | none =>
    rw [hov] at HJ
    have HN : Hid (joinD a b = none) := unhide HJ
    simp only [Option.isSome_none]
    clear hov g0 g1 g2 HRP
    go_wp2_with fail
    refine bodyPost_ret (v := .tuple #[.agg #[.int .i64 0, .slice none 0 0, .slice none 0 0], .bool false]) (by simp [results, Tryz.results6, go_sem, r0, r1, r2]) rfl ?_
    exact jsE_none (unhide HN) (below3 (unhide HB4) (by omega) _ _ _)
  | some x =>
    rw [hov] at HJ
    simp only [Option.isSome_some]
    have hrep := unhide HRP x hov
    have HOK := hide (specKindOk_any x _ _ w4 (fun b hb => by have := hb.2; omega) hrep)
    have HREP := hide hrep
    clear hov hrep r0 r1 r2 rf HRP
    go_wp2_with fail
    refine (unhide HOK).mono ?_
    rintro e w5 ⟨rfl, hb5⟩
    have hg5 := (unhide HG).of_block (hb5.block _ (unhide HG).lt)
    have hrr5 := (unhide HRR4).of_block (hb5.block _ (unhide HRR4).lt)
    have HB5 := hide ((unhide HB4).trans (hb5.mono (unhide HB4).size))
    have HREP5 := hide (KRep.carry (w' := w5) (Q := fun b => w.heap.size ≤ b ∧ b < w5.heap.size ∧ b ≠ w.heap.size + 2) (fun b hb => hb5.block b (by have := hb.2; omega)) (fun b hb => ⟨by have := unhide HW2; have := hb.1; omega, by have := hb.2; have := hb5.size; omega, by have := unhide HRR2L; have := hb.1; omega⟩) _ _ (unhide HREP))
    clear g0 g1 g2 HOK HREP HG HRR4
    have r0 := hrr5.cell (i := 0) (by omega); have r1 := hrr5.cell (i := 1) (by omega); have r2 := hrr5.cell (i := 2) (by omega); have rf := hrr5.frozen
    have g0 := hg5.cell (i := 0) (by omega); have g1 := hg5.cell (i := 1) (by omega); have g2 := hg5.cell (i := 2) (by omega)
    simp only [row3] at r0 r1 r2 g0 g1 g2
    clear hg5 hrr5 hb5
    by_cases hqx : 0 < qT x 1
    · rw [decide_eq_true hqx]
      have HE : Hid (joinD a b = some x) := (unhide HJ).trans (okO_yes hqx)
      clear hqx
      go_wp2_with fail
      refine bodyPost_ret (v := .tuple #[.agg #[.int .i64 s0, .slice d1 k1 u1, .slice d2 k2 u2], .bool true]) (by simp [results, Tryz.results6, go_sem, r0, r1, r2]) rfl ?_
      refine ⟨⟨_, _, _⟩, by rw [unhide HE]; rfl, ?_, below3 (unhide HB5) (by omega) _ _ _⟩
      rw [unhide HE]
      have h3 := but3 w5 (w.heap.size + 2) (.int .i64 s0) (.slice d1 k1 u1) (.slice d2 k2 u2)
      exact KRep.carry (fun b hb => h3.at hb.2.1 hb.2.2) (fun b hb => ⟨hb.1, Nat.lt_of_lt_of_le hb.2.1 h3.size⟩) _ _ (unhide HREP5)
    · rw [decide_eq_false hqx]
      have HN : Hid (joinD a b = none) := (unhide HJ).trans (okO_no fun y hy => by injection hy with hy; rw [← hy]; exact hqx)
      clear hqx g0 g1 g2
      go_wp2_with fail
      refine bodyPost_ret (v := .tuple #[.agg #[.int .i64 0, .slice none 0 0, .slice none 0 0], .bool false]) (by simp [results, Tryz.results6, go_sem, r0, r1, r2]) rfl ?_
      exact jsE_none (unhide HN) (below3 (unhide HB5) (by omega) _ _ _)
end Go.Proofs.YtenpghndgdemnaaGreatDoor

/- The walk of the laws' own ttKind: of two schemas that lie in memory as one and the same it answers true, and turns nothing that was there. No conditions. -/

namespace Go.Proofs.YtenpghndgdemnaaGreatDoor
open Go Go.RowKit

def TkSaid (n : Nat) : Prop := ∀ (t : Kd), ksz t < n → ∀ (P Q : Nat → Prop) (c d : C3) (w : World), (∀ b, P b → b < w.heap.size) → (∀ b, Q b → b < w.heap.size) → KRep P w t c → KRep Q w t d →
    Calls Tryz.prog 8 #[.agg #[c.c0, c.c1, c.c2], .agg #[d.c0, d.c1, d.c2]] w fun e w' => e = .returned (.bool true) ∧ Below w.heap.size w w'

/-- The two boxes. -/
structure TK (w : World) (c d : C3) (wr : World) : Prop where
  below : Below w.heap.size w wr
  a : wr.rowIs w.heap.size 26 3 (row3 c.c0 c.c1 c.c2)
  b : wr.rowIs (w.heap.size + 1) 26 3 (row3 d.c0 d.c1 d.c2)
theorem TK.on {w : World} {c d : C3} {wr w' : World} (h : TK w c d wr) (hb : Below wr.heap.size wr w') : TK w c d w' :=
  ⟨h.below.trans (hb.mono h.below.size), h.a.of_block (hb.block _ h.a.lt), h.b.of_block (hb.block _ h.b.lt)⟩
theorem TK.start (w : World) (c0 c1 c2 d0 d1 d2 : Value) : TK w ⟨c0, c1, c2⟩ ⟨d0, d1, d2⟩ ((w.alloc (.cells #[c0, c1, c2] 26)).alloc (.cells #[d0, d1, d2] 26)) := by
  refine ⟨((Below.refl _ _).alloc (Nat.le_refl _) _).alloc (by simp) _, (row3_alloc w c0 c1 c2 26).alloc _, ?_⟩
  have := row3_alloc (w.alloc (.cells #[c0, c1, c2] 26)) d0 d1 d2 26
  rw [World.size_alloc] at this
  exact this

set_option maxRecDepth 100000 in
set_option maxHeartbeats 3200000 in
theorem ttKind_step (n : Nat) (IH : TkSaid n) : TkSaid (n + 1) := by
  intro t hn P Q c d w hP hQ hrep hrep2
  obtain ⟨c0, c1, c2⟩ := c
  obtain ⟨d0, d1, d2⟩ := d
  obtain ⟨e0, -, hns, a4, cap4, e4, hlen, hks⟩ := hrep.open
  obtain ⟨g0, -, hns2, b4, dap4, g4, -, hks2⟩ := hrep2.open
  simp only at e0 e4 hns g0 g4 hns2
  obtain ⟨a3, cap3, e3, hnl, hnc⟩ := hns
  obtain ⟨b3, dap3, g3, -, hnc2⟩ := hns2
  subst e0 e3 e4 g0 g3 g4
  have htt := TK.start w (.int .i64 t.sort) (.slice a3 t.names.length cap3) (.slice a4 t.kids.length cap4) (.int .i64 t.sort) (.slice b3 t.names.length dap3) (.slice b4 t.kids.length dap4)
  have HN := hide hnc; have HN2 := hide hnc2; have HK := hide hks; have HK2 := hide hks2; have HP := hide hP; have HQ := hide hQ; have HI := hide IH
  have hkid : ∀ i, (hi : i < t.kids.length) → ksz t.kids[i] < n := fun i hi => by have := ksz_kid (List.getElem_mem hi); omega
  have HKS := hide hkid
  clear hnc hnc2 hks hks2 hP hQ IH hrep hrep2 hkid hn
  generalize t.names = ns at *
  generalize t.kids = ks at *
  generalize t.sort = s0 at *
  have q0 := htt.a.cell (i := 0) (by omega); have q1 := htt.a.cell (i := 1) (by omega); have q2 := htt.a.cell (i := 2) (by omega)
  have r0 := htt.b.cell (i := 0) (by omega); have r1 := htt.b.cell (i := 1) (by omega); have r2 := htt.b.cell (i := 2) (by omega)
  simp only [row3] at q0 q1 q2 r0 r1 r2
  have HT := hide htt
  clear htt
  go_enter Tryz.func8, Tryz.ntmps8
  go_wp2_with fail
  clear q0 q1 q2 r0 r1 r2
  go_loopw [5] (fun i wr => ∃ (k : Nat), k ≤ ns.length ∧ i = .int .i64 k ∧ Hid (TK w ⟨.int .i64 s0, .slice a3 ns.length cap3, .slice a4 ks.length cap4⟩ ⟨.int .i64 s0, .slice b3 ns.length dap3, .slice b4 ks.length dap4⟩ wr)) (fun i _ => ns.length - (intOf i).toNat)
  case atStart => exact ⟨0, Nat.zero_le _, rfl, HT⟩
  case round =>
    clear HT
    obtain ⟨k, hk, rfl, HT⟩ := hrel
    have q3 := HT.out.a.cell (i := 1) (by omega); have r3 := HT.out.b.cell (i := 1) (by omega)
    simp only [row3] at q3 r3
    by_cases hlt : k < ns.length
    · obtain ⟨x, o, rfl, hpb, hcell, -⟩ := unhide HN k hlt
      obtain ⟨x2, o2, rfl, hpb2, hcell2, -⟩ := unhide HN2 k hlt
      have e1 : wr.cell? ⟨x, o + k, none⟩ = some (.string ns[k]) := by rw [HT.out.below.cell (unhide HP x hpb)]; exact hcell
      have e2 : wr.cell? ⟨x2, o2 + k, none⟩ = some (.string ns[k]) := by rw [HT.out.below.cell (unhide HQ x2 hpb2)]; exact hcell2
      have HTN := hide (fun m => HT.out.on (show Below wr.heap.size wr (wr.drewN m) from ⟨rfl, rfl, rfl, Nat.le_refl _, fun _ _ => rfl⟩))
      have hix : (k : Int) < (ns.length : Int) := by omega
      clear hcell hcell2 hpb hpb2 HT
      go_wp2_with fail
      go_quiet (fail)
      go_wp2_with fail
      go_roundw
      case rel => exact ⟨k + 1, by omega, by go_num, unhide HTN _⟩
      case measure => simp [intOf]; omega
    · go_wp2_with fail
      go_loopw [6] (fun i wr => ∃ (k : Nat), k ≤ ks.length ∧ i = .int .i64 k ∧ Hid (TK w ⟨.int .i64 s0, .slice a3 ns.length cap3, .slice a4 ks.length cap4⟩ ⟨.int .i64 s0, .slice b3 ns.length dap3, .slice b4 ks.length dap4⟩ wr)) (fun i _ => ks.length - (intOf i).toNat)
      case atStart => exact ⟨0, Nat.zero_le _, rfl, HT⟩
      case round =>
        clear HT q3 r3
        obtain ⟨k, hk, rfl, HT⟩ := hrel
        have q4 := HT.out.a.cell (i := 2) (by omega); have r4 := HT.out.b.cell (i := 2) (by omega)
        simp only [row3] at q4 r4
        by_cases hlt : k < ks.length
        · obtain ⟨x, o, c, rfl, hpb, hcell, hrep⟩ := unhide HK k hlt
          obtain ⟨x2, o2, d, rfl, hpb2, hcell2, hrep2⟩ := unhide HK2 k hlt
          have hcell' := hcell.carry (HT.out.below.block x (unhide HP x hpb))
          have hcell2' := hcell2.carry (HT.out.below.block x2 (unhide HQ x2 hpb2))
          obtain ⟨c0, c1, c2⟩ := c
          obtain ⟨d0, d1, d2⟩ := d
          obtain ⟨e0, e1, e2⟩ := hcell'
          obtain ⟨g0, g1, g2⟩ := hcell2'
          simp only at e0 e1 e2 g0 g1 g2
          have hbd := HT.out.below.drew
          have hcall := unhide HI ks[k] (unhide HKS k hlt) P Q ⟨c0, c1, c2⟩ ⟨d0, d1, d2⟩ wr.drew (fun b hb' => Nat.lt_of_lt_of_le (unhide HP b hb') hbd.size) (fun b hb' => Nat.lt_of_lt_of_le (unhide HQ b hb') hbd.size) (KRep.carry (w' := wr.drew) (fun b hb' => hbd.block b (unhide HP b hb')) (fun _ h => h) _ _ hrep) (KRep.carry (w' := wr.drew) (fun b hb' => hbd.block b (unhide HQ b hb')) (fun _ h => h) _ _ hrep2)
          have HCALL := hide hcall
          have hix : (k : Int) < (ks.length : Int) := by omega
          clear hrep hcell hpb hrep2 hcell2 hpb2 hcall hbd
          go_wp2_with fail
          go_region_with (go_at_call 8; refine (unhide HCALL).mono ?_; rintro e w' ⟨rfl, hb'⟩)
          all_goals
            have HT2 := hide (HT.out.on ((Below.refl _ wr).drew.trans hb'))
            go_wp2_with fail
            go_roundw
            case rel => exact ⟨k + 1, by omega, by go_num, HT2⟩
            case measure => simp [intOf]; omega
        · go_wp2_with fail
          go_ret
          exact ⟨rfl, HT.out.below⟩

theorem ttKind_all : ∀ n, TkSaid n
  | 0 => fun t h => by omega
  | n + 1 => ttKind_step n (ttKind_all n)
theorem ttKind_any (t : Kd) (P Q : Nat → Prop) (c d : C3) (w : World) (hP : ∀ b, P b → b < w.heap.size) (hQ : ∀ b, Q b → b < w.heap.size) (h1 : KRep P w t c) (h2 : KRep Q w t d) :
    Calls Tryz.prog 8 #[.agg #[c.c0, c.c1, c.c2], .agg #[d.c0, d.c1, d.c2]] w fun e w' => e = .returned (.bool true) ∧ Below w.heap.size w w' :=
  ttKind_all (ksz t + 1) t (by omega) P Q c d w hP hQ h1 h2
end Go.Proofs.YtenpghndgdemnaaGreatDoor
