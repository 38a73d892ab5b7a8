/- The specification's l3Join whole, and its KindJoin. Conditions: two schemas in memory. -/
import Derived.Test.YtenpghndgdemnaaGreatDoorPart29
import Derived.Test.YtenpghndgdemnaaGreatDoorPart23
import Derived.Test.YtenpghndgdemnaaGreatDoorRows
import Derived.Test.YtenpghndgdemnaaGreatDoorPart01
import Derived.ProofKit
import Derived.OpenShut
import Derived.Deep.Fields
import Derived.Deep.Slices
import Derived.Test.YtenpghndgdemnaaGreatDoorPart02
namespace Go.Proofs.YtenpghndgdemnaaGreatDoor
open Go Go.RowKit

theorem join_all : ∀ n, JsS n
  | 0 => fun a b hn => by
    obtain ⟨s, ns, ks⟩ := b
    rw [ksz] at hn
    omega
  | n + 1 => fun a b hn hza hzb c d w ha hb => by
    obtain ⟨a1, a2, p1, p2, rfl⟩ := ha.form
    obtain ⟨b1, b2, q1, q2, rfl⟩ := hb.form
    by_cases h6 : a.sort = 6 ∨ b.sort = 6
    · exact join_mb n a b w a1 a2 b1 b2 p1 p2 q1 q2 ha hb (join_all n) hn hza hzb h6
    by_cases he : a.sort = b.sort
    · by_cases g4 : a.sort = 4
      · exact join_li n a b w a1 a2 b1 b2 p1 p2 q1 q2 ha hb (join_all n) hn hza hzb g4 (he ▸ g4)
      · exact join_fm n a b w a1 a2 b1 b2 p1 p2 q1 q2 ha hb (join_all n) hn hza hzb he g4 (fun h => h6 (Or.inl h))
    · exact join_ne n a b w a1 a2 b1 b2 p1 p2 q1 q2 ha hb (fun h => h6 (Or.inl h)) (fun h => h6 (Or.inr h)) he
/-- What the specification's KindJoin answers. -/
def JsE (o : Option Kd) (w : World) (e : Ending) (w' : World) : Prop := ∃ d : C3, e = .returned (.tuple #[.agg #[d.c0, d.c1, d.c2], .bool o.isSome]) ∧ KRep (New w w') w' (o.getD kd0) d ∧ Below w.heap.size w w'
theorem krep_kd0 (P : Nat → Prop) (W : World) : KRep P W kd0 ⟨.int .i64 0, .slice none 0 0, .slice none 0 0⟩ := by
  unfold kd0
  rw [KRep]
  exact ⟨rfl, ⟨by decide, by decide⟩, ⟨none, 0, rfl, by decide, fun i hi => absurd hi (Nat.not_lt_zero i)⟩, none, 0, rfl, by decide, fun h => absurd rfl h⟩
theorem jsE_none {w w' : World} {o : Option Kd} (h : o = none) (hb : Below w.heap.size w w') : JsE o w (.returned (.tuple #[.agg #[.int .i64 0, .slice none 0 0, .slice none 0 0], .bool false])) w' := by
  subst h
  exact ⟨⟨.int .i64 0, .slice none 0 0, .slice none 0 0⟩, rfl, krep_kd0 _ _, hb⟩
theorem joinD_no {a b : Kd} (h : ¬ (0 < qT a 1 ∧ 0 < qT b 1)) : joinD a b = none := by unfold joinD; rw [if_neg h]
theorem joinD_yes {a b : Kd} (h1 : 0 < qT a 1) (h2 : 0 < qT b 1) : joinD a b = okO (jnP 80 a b) := by unfold joinD; rw [if_pos ⟨h1, h2⟩]
theorem okO_no {o : Option Kd} (h : ∀ x, o = some x → ¬ 0 < qT x 1) : okO o = none := by
  cases o with
  | none => rfl
  | some x => exact if_neg (h x rfl)
theorem okO_yes {x : Kd} (h : 0 < qT x 1) : okO (some x) = some x := if_pos h
set_option maxRecDepth 100000 in
set_option maxHeartbeats 3200000 in
theorem specKindJoin_any (a b : Kd) (P Q : Nat → Prop) (c d : C3) (w : World) (hP : ∀ x, P x → x < w.heap.size) (hQ : ∀ x, Q x → x < w.heap.size) (ha : KRep P w a c) (hb : KRep Q w b d) :
    Calls Tryz.prog 6 #[.agg #[c.c0, c.c1, c.c2], .agg #[d.c0, d.c1, d.c2]] w (JsE (joinD a b) w) := by
  have ha' : KRep (fun x => x < w.heap.size) w a c := KRep.carry (fun _ _ => rfl) hP _ _ ha
  have hb' : KRep (fun x => x < w.heap.size) w b d := KRep.carry (fun _ _ => rfl) hQ _ _ hb
  have hca : ∀ W, Below w.heap.size w W → KRep (fun x => x < W.heap.size) W a c := fun W hW => KRep.carry (fun x hx => hW.block x hx) (fun _ hx => Nat.lt_of_lt_of_le hx hW.size) _ _ ha'
  have hcb : ∀ W, Below w.heap.size w W → KRep (fun x => x < W.heap.size) W b d := fun W hW => KRep.carry (fun x hx => hW.block x hx) (fun _ hx => Nat.lt_of_lt_of_le hx hW.size) _ _ hb'
  have HOA : Hid (∀ W, Below w.heap.size w W → Calls Tryz.prog 22 #[.agg #[c.c0, c.c1, c.c2]] W fun e w' => e = .returned (.bool (decide (0 < qT a 1))) ∧ Below W.heap.size W w') := fun W hW => specKindOk_any a _ c W (fun _ h => h) (hca W hW)
  have HOB : Hid (∀ W, Below w.heap.size w W → Calls Tryz.prog 22 #[.agg #[d.c0, d.c1, d.c2]] W fun e w' => e = .returned (.bool (decide (0 < qT b 1))) ∧ Below W.heap.size W w') := fun W hW => specKindOk_any b _ d W (fun _ h => h) (hcb W hW)
  have HF : Hid (∀ W, 0 < qT a 1 → 0 < qT b 1 → Below w.heap.size w W → Calls Tryz.prog 23 #[.agg #[c.c0, c.c1, c.c2], .agg #[d.c0, d.c1, d.c2]] W (JsO (jnP 80 a b) W)) := fun W h1 h2 hW => join_all 80 a b (by have := (ok_of_qT h1).2; have := (ok_of_qT h2).2; omega) (ok_of_qT h1).2 (ok_of_qT h2).2 c d W ⟨hca W hW, (ok_of_qT h1).1⟩ ⟨hcb W hW, (ok_of_qT h2).1⟩
  obtain ⟨a3, cap3, a4, cap4, rfl⟩ := krepF ha
  obtain ⟨b3, bap3, b4, bap4, rfl⟩ := krepF hb
  have hB := B3.start w (.int .i64 a.sort) (.slice a3 a.names.length cap3) (.slice a4 a.kids.length cap4) (.int .i64 b.sort) (.slice b3 b.names.length bap3) (.slice b4 b.kids.length bap4)
  clear ha hb ha' hb' hca hcb hP hQ
  go_enter Tryz.func6, Tryz.ntmps6
  go_upto_region 1 with fail
  generalize (((w.alloc (.cells #[.int .i64 a.sort, .slice a3 a.names.length cap3, .slice a4 a.kids.length cap4] 26)).alloc (.cells #[.int .i64 b.sort, .slice b3 b.names.length bap3, .slice b4 b.kids.length bap4] 26)).alloc (.cells #[.int .i64 0, .slice none 0 0, .slice none 0 0] 26)) = W0 at hB ⊢
  have HSZ := hide hB.size; have HBW := hide hB.below
  have HRA := hide hB.a; have HRB := hide hB.b; have HRR := hide hB.r
  have x0 := hB.a.cell (i := 0) (by omega); have x1 := hB.a.cell (i := 1) (by omega); have x2 := hB.a.cell (i := 2) (by omega)
  simp only [row3] at x0 x1 x2
  clear hB
  go_wp2_with fail
  refine (unhide HOA W0 (unhide HBW)).mono ?_
  rintro e w1 ⟨rfl, hb1⟩
  have HB1 := hide ((unhide HBW).trans (hb1.mono (unhide HBW).size))
  have HRA1 := hide ((unhide HRA).of_block (hb1.block _ (unhide HRA).lt)); have HRB1 := hide ((unhide HRB).of_block (hb1.block _ (unhide HRB).lt)); have HRR1 := hide ((unhide HRR).of_block (hb1.block _ (unhide HRR).lt))
  clear hb1 x0 x1 x2 HRA HRB HRR HSZ HBW
  by_cases hqa : 0 < qT a 1
  case neg =>
    rw [decide_eq_false hqa]
    have HN := hide (joinD_no (a := a) (b := b) fun h => hqa h.1)
    have hrr := unhide HRR1
    have r0 := hrr.cell (i := 0) (by omega); have r1 := hrr.cell (i := 1) (by omega); have r2 := hrr.cell (i := 2) (by omega); have rf := hrr.frozen
    simp only [row3] at r0 r1 r2
    clear hqa hrr
    go_wp2_with fail
    refine bodyPost_ret (v := .tuple #[.agg #[.int .i64 0, .slice none 0 0, .slice none 0 0], .bool false]) (by simp [results, Tryz.results6, go_sem, r0, r1, r2]) rfl ?_
    exact jsE_none (unhide HN) (below3 (unhide HB1) (by omega) _ _ _)
  have HQA := hide hqa
  rw [decide_eq_true hqa]
  have hrb := unhide HRB1
  have y0 := hrb.cell (i := 0) (by omega); have y1 := hrb.cell (i := 1) (by omega); have y2 := hrb.cell (i := 2) (by omega)
  simp only [row3] at y0 y1 y2
  clear hqa hrb
  go_wp2_with fail
  refine (unhide HOB w1 (unhide HB1)).mono ?_
  rintro e w2 ⟨rfl, hb2⟩
  have HB2 := hide ((unhide HB1).trans (hb2.mono (unhide HB1).size))
  have HRR2 := hide ((unhide HRR1).of_block (hb2.block _ (unhide HRR1).lt))
  have ra := ((unhide HRA1).of_block (hb2.block _ (unhide HRA1).lt)); have rb := ((unhide HRB1).of_block (hb2.block _ (unhide HRB1).lt))
  clear y0 y1 y2
  have x0 := ra.cell (i := 0) (by omega); have x1 := ra.cell (i := 1) (by omega); have x2 := ra.cell (i := 2) (by omega); have y0 := rb.cell (i := 0) (by omega); have y1 := rb.cell (i := 1) (by omega); have y2 := rb.cell (i := 2) (by omega)
  simp only [row3] at x0 x1 x2 y0 y1 y2
  clear hb2 HRA1 HRB1 HRR1 ra rb
  by_cases hqb : 0 < qT b 1
  case neg =>
    rw [decide_eq_false hqb]
    have HN := hide (joinD_no (a := a) (b := b) fun h => hqb h.2)
    have hrr := unhide HRR2
    have r0 := hrr.cell (i := 0) (by omega); have r1 := hrr.cell (i := 1) (by omega); have r2 := hrr.cell (i := 2) (by omega); have rf := hrr.frozen
    simp only [row3] at r0 r1 r2
    clear hqb hrr
    go_wp2_with fail
    refine bodyPost_ret (v := .tuple #[.agg #[.int .i64 0, .slice none 0 0, .slice none 0 0], .bool false]) (by simp [results, Tryz.results6, go_sem, r0, r1, r2]) rfl ?_
    exact jsE_none (unhide HN) (below3 (unhide HB2) (by omega) _ _ _)
  have HCALL := hide (unhide HF w2 (unhide HQA) hqb (unhide HB2))
  have HJ := hide (joinD_yes (unhide HQA) hqb)
  rw [decide_eq_true hqb]
  clear hqb
  go_wp2_with fail
  refine (unhide HCALL).mono ?_
  rintro e w3 ⟨hb3, d, er, rfl, ⟨s0, d1, d2, k1, u1, k2, u2, rfl⟩, rfl, hrep, -⟩
  have HB3 := hide ((unhide HB2).trans (hb3.mono (unhide HB2).size))
  have HRR3 := hide ((unhide HRR2).of_block (hb3.block _ (unhide HRR2).lt))
  have HREP := hide hrep; have HZ3 := hide hb3.size
  have HRR2L := hide (unhide HRR2).lt
  clear hb3 x0 x1 x2 y0 y1 y2 hrep HCALL HRR2 HF HOA HOB HQA
  go_upto_region 4 with fail
  have hal := (Below.refl w3.heap.size w3).alloc (Nat.le_refl _) (.cells #[.int .i64 s0, .slice d1 k1 u1, .slice d2 k2 u2] 26)
  have hg := row3_alloc w3 (.int .i64 s0) (.slice d1 k1 u1) (.slice d2 k2 u2) 26
  have HB4 := hide ((unhide HB3).trans (hal.mono (unhide HB3).size))
  have hrr4 := (unhide HRR3).of_block (hal.block _ (unhide HRR3).lt)
  have hz4 : w3.heap.size ≤ (w3.alloc (.cells #[.int .i64 s0, .slice d1 k1 u1, .slice d2 k2 u2] 26)).heap.size := by rw [World.size_alloc]; omega
  have hreps : ∀ x, jnP 80 a b = some x → KRep (fun b => w2.heap.size ≤ b ∧ b < w3.heap.size) (w3.alloc (.cells #[.int .i64 s0, .slice d1 k1 u1, .slice d2 k2 u2] 26)) x ⟨.int .i64 s0, .slice d1 k1 u1, .slice d2 k2 u2⟩ := fun x hx => KRep.carry (fun b hb => hal.block b hb.2) (fun _ h => h) _ _ (unhide HREP x hx)
  have HW2 := hide (unhide HB2).size
  generalize (w3.alloc (.cells #[.int .i64 s0, .slice d1 k1 u1, .slice d2 k2 u2] 26)) = w4 at *
  generalize w3.heap.size = g at *
  have HG := hide hg; have HRR4 := hide hrr4; have HRP := hide hreps
  have r0 := hrr4.cell (i := 0) (by omega); have r1 := hrr4.cell (i := 1) (by omega); have r2 := hrr4.cell (i := 2) (by omega); have rf := hrr4.frozen
  have g0 := hg.cell (i := 0) (by omega); have g1 := hg.cell (i := 1) (by omega); have g2 := hg.cell (i := 2) (by omega)
  simp only [row3] at r0 r1 r2 g0 g1 g2
  clear hg hrr4 hal hreps HREP HB3 HRR3
  cases hov : jnP 80 a b with
  | none =>
    rw [hov] at HJ
    have HN : Hid (joinD a b = none) := unhide HJ
    simp only [Option.isSome_none]
    clear hov g0 g1 g2 HRP
    go_wp2_with fail
    refine bodyPost_ret (v := .tuple #[.agg #[.int .i64 0, .slice none 0 0, .slice none 0 0], .bool false]) (by simp [results, Tryz.results6, go_sem, r0, r1, r2]) rfl ?_
    exact jsE_none (unhide HN) (below3 (unhide HB4) (by omega) _ _ _)
  | some x =>
    rw [hov] at HJ
    simp only [Option.isSome_some]
    have hrep := unhide HRP x hov
    have HOK := hide (specKindOk_any x _ _ w4 (fun b hb => by have := hb.2; omega) hrep)
    have HREP := hide hrep
    clear hov hrep r0 r1 r2 rf HRP
    go_wp2_with fail
    refine (unhide HOK).mono ?_
    rintro e w5 ⟨rfl, hb5⟩
    have hg5 := (unhide HG).of_block (hb5.block _ (unhide HG).lt)
    have hrr5 := (unhide HRR4).of_block (hb5.block _ (unhide HRR4).lt)
    have HB5 := hide ((unhide HB4).trans (hb5.mono (unhide HB4).size))
    have HREP5 := hide (KRep.carry (w' := w5) (Q := fun b => w.heap.size ≤ b ∧ b < w5.heap.size ∧ b ≠ w.heap.size + 2) (fun b hb => hb5.block b (by have := hb.2; omega)) (fun b hb => ⟨by have := unhide HW2; have := hb.1; omega, by have := hb.2; have := hb5.size; omega, by have := unhide HRR2L; have := hb.1; omega⟩) _ _ (unhide HREP))
    clear g0 g1 g2 HOK HREP HG HRR4
    have r0 := hrr5.cell (i := 0) (by omega); have r1 := hrr5.cell (i := 1) (by omega); have r2 := hrr5.cell (i := 2) (by omega); have rf := hrr5.frozen
    have g0 := hg5.cell (i := 0) (by omega); have g1 := hg5.cell (i := 1) (by omega); have g2 := hg5.cell (i := 2) (by omega)
    simp only [row3] at r0 r1 r2 g0 g1 g2
    clear hg5 hrr5 hb5
    by_cases hqx : 0 < qT x 1
    · rw [decide_eq_true hqx]
      have HE : Hid (joinD a b = some x) := (unhide HJ).trans (okO_yes hqx)
      clear hqx
      go_wp2_with fail
      refine bodyPost_ret (v := .tuple #[.agg #[.int .i64 s0, .slice d1 k1 u1, .slice d2 k2 u2], .bool true]) (by simp [results, Tryz.results6, go_sem, r0, r1, r2]) rfl ?_
      refine ⟨⟨_, _, _⟩, by rw [unhide HE]; rfl, ?_, below3 (unhide HB5) (by omega) _ _ _⟩
      rw [unhide HE]
      have h3 := but3 w5 (w.heap.size + 2) (.int .i64 s0) (.slice d1 k1 u1) (.slice d2 k2 u2)
      exact KRep.carry (fun b hb => h3.at hb.2.1 hb.2.2) (fun b hb => ⟨hb.1, Nat.lt_of_lt_of_le hb.2.1 h3.size⟩) _ _ (unhide HREP5)
    · rw [decide_eq_false hqx]
      have HN : Hid (joinD a b = none) := (unhide HJ).trans (okO_no fun y hy => by injection hy with hy; rw [← hy]; exact hqx)
      clear hqx g0 g1 g2
      go_wp2_with fail
      refine bodyPost_ret (v := .tuple #[.agg #[.int .i64 0, .slice none 0 0, .slice none 0 0], .bool false]) (by simp [results, Tryz.results6, go_sem, r0, r1, r2]) rfl ?_
      exact jsE_none (unhide HN) (below3 (unhide HB5) (by omega) _ _ _)
end Go.Proofs.YtenpghndgdemnaaGreatDoor

/- What is read of a list of strings that comes in is one that lies in memory. No conditions. -/

namespace Go.Proofs.YtenpghndgdemnaaGreatDoor
open Go Go.RowKit Go.ChangeShapes Go.WideShapes Go.ChangeAt Go.Deep

theorem cellsStr : Tryz.prog.cellsOf 9 = 1 := by kernel_rfl

section
variable {H : Type} {enc : TypeId × Value → H} {W : World} {spare : Nat → Bool} {held : Bool}

theorem strs_of_trod {fuel : Nat} {v : Value} {x : DataW H × List MemPlace} (h : DataW.trod enc Tryz.prog W 0 spare held fuel 23 [v] = some x) :
    ∃ ss, StrsAt (fun b => b < W.heap.size) W v ss := by
  rcases open_strings Tryz.underlying23 Tryz.underlying9 cellsStr h with ⟨hcs, -⟩ | ⟨a, len, cap, ss, hcs, -, hl, hm, hz, -, hcell, hws⟩
  · simp only [List.cons.injEq, and_true] at hcs
    exact ⟨[], none, 0, hcs, by simp, fun i hi => by simp at hi⟩
  · simp only [List.cons.injEq, and_true] at hcs
    have hle : len ≤ ss.length := by rw [hz]; split <;> omega
    unfold maxLen at hm
    refine ⟨ss.take len, some a, cap, by rw [hcs]; simp; omega, by simp; omega, fun i hi => ?_⟩
    have hi' : i < len := by simp at hi; omega
    obtain ⟨b, off, spot⟩ := a
    have hspot : spot = none := by simpa [Addr.add] using World.cell?_spot (hcell 0 (by omega))
    subst hspot
    have hc := hcell i (by omega)
    rw [Addr.add_lit] at hc
    refine ⟨b, off, rfl, World.block_lt_of_cell? W _ hc, ?_, ?_⟩
    · rw [hc]; simp [show i < ss.length by omega]
    · have := hws ss[i] (List.getElem_mem (by omega)); unfold maxLen at this; simpa using this
end
end Go.Proofs.YtenpghndgdemnaaGreatDoor

/- What is read of a schema that comes in is a schema that lies in memory. No conditions. -/

namespace Go.Proofs.YtenpghndgdemnaaGreatDoor
open Go Go.RowKit Go.ChangeShapes Go.WideShapes Go.ChangeAt Go.Deep

theorem cellsKind : Tryz.prog.cellsOf 36 = 3 := by kernel_rfl
theorem oneKind : ∃ fs : Array Field, Tryz.prog.underlying 36 = some (.struct fs) ∧ oneCellFields Tryz.prog fs = true ∧ fs.map (·.type) = #[3, 23, 34] := ⟨_, Tryz.underlying36, by kernel_rfl, by kernel_rfl⟩

section
variable {H : Type} {enc : TypeId × Value → H} {W : World} {spare : Nat → Bool} {held : Bool}

set_option maxRecDepth 100000 in
theorem krep_of_trod : ∀ (fuel : Nat) (cs : List Value) (x : DataW H × List MemPlace), DataW.trod enc Tryz.prog W 0 spare held fuel 36 cs = some x →
    ∃ (t : Kd) (c : C3), cs = [c.c0, c.c1, c.c2] ∧ KRep (fun b => b < W.heap.size) W t c := by
  intro fuel
  induction fuel using Nat.strongRecOn with
  | ind fuel ih =>
    intro cs x h
    obtain ⟨fs, hu, hone, hty⟩ := oneKind
    obtain ⟨xs, n, hn, -, hlen, hxl, hf⟩ := DataW.trod_struct hu h
    rw [cellsKind] at hlen
    match cs, hlen with
    | [c0, c1, c2], _ =>
      have hsz : fs.size = 3 := by have := congrArg Array.size hty; simpa using this
      have hfield : ∀ (i : Nat) (T : TypeId), i < 3 → (#[3, 23, 34] : Array TypeId)[i]? = some T → ∃ y, DataW.trod enc Tryz.prog W 0 spare held n T (([c0, c1, c2].drop i).take 1) = some y := by
        intro i T hi hT
        have hfi : fs[i]? = some (fs[i]'(by omega)) := Array.getElem?_eq_getElem (by omega)
        obtain ⟨ho, hc⟩ := hone_of hone i _ hfi
        have := hf i _ hfi
        rw [ho, hc] at this
        have hTT : (fs[i]'(by omega)).type = T := by
          rw [← hty] at hT
          simpa [hsz, hi] using hT
        rw [hTT] at this
        exact ⟨xs[i]'(by omega), by rw [this]; exact List.getElem?_eq_getElem (by omega)⟩
      obtain ⟨y0, h0⟩ := hfield 0 _ (by omega) rfl
      obtain ⟨y1, h1⟩ := hfield 1 _ (by omega) rfl
      obtain ⟨y2, h2⟩ := hfield 2 _ (by omega) rfl
      simp only [List.drop_succ_cons, List.drop_zero, List.take_succ_cons, List.take_zero] at h0 h1 h2
      obtain ⟨s, e0, -, w0⟩ := DataW.trod_int Tryz.underlying3 h0
      obtain ⟨ss, h3'⟩ := strs_of_trod h1
      simp only [List.cons.injEq, and_true] at e0
      have hw0 : I64 s := by have := bounds_i64 w0; exact ⟨by omega, by omega⟩
      rcases DataW.trod_slice Tryz.underlying34 h2 with ⟨hcs, -⟩ | ⟨a, len, cap, elems, rest, n', hn', hcs, -, -, hl, hm, hel, hget, -⟩
      · simp only [List.cons.injEq, and_true] at hcs
        refine ⟨.mk s ss [], ⟨c0, c1, c2⟩, rfl, ?_⟩
        rw [KRep]
        exact ⟨e0, hw0, h3', none, 0, hcs, by simp, fun h => absurd rfl h⟩
      · simp only [List.cons.injEq, and_true] at hcs
        unfold maxLen at hm
        rw [cellsKind] at hget
        have hspot : 0 < len → a.spot = none := fun h0 => by
          have hgi := hget 0 h0
          rw [List.getElem?_eq_getElem (by omega)] at hgi
          obtain ⟨cs', hcs', htr⟩ := Option.bind_eq_some_iff.1 hgi
          obtain ⟨-, hl5, hcell⟩ := World.cells?_some hcs'
          have hc0 := hcell 0 (by omega)
          rw [List.getElem?_eq_getElem (by omega)] at hc0
          simpa [Addr.add] using World.cell?_spot hc0
        have hkid : ∀ i, i < len → ∃ (t : Kd) (c : C3), (∃ b o, a = ⟨b, o, none⟩ ∧ b < W.heap.size ∧ C3.at W b (o + i * 3) c) ∧ KRep (fun b => b < W.heap.size) W t c := by
          intro i hi
          have hgi := hget i hi
          rw [List.getElem?_eq_getElem (by omega)] at hgi
          obtain ⟨cs', hcs', htr⟩ := Option.bind_eq_some_iff.1 hgi
          obtain ⟨t, c, rfl, hrep⟩ := ih n' (by omega) cs' _ htr
          obtain ⟨-, -, hcell⟩ := World.cells?_some hcs'
          obtain ⟨b, off, spot⟩ := a
          have hsp : spot = none := hspot (by omega)
          subst hsp
          have hc0 := hcell 0 (by omega)
          have hc1 := hcell 1 (by omega); have hc2 := hcell 2 (by omega)
          simp only [Addr.add_lit, List.getElem?_cons_zero, List.getElem?_cons_succ, Nat.add_zero] at hc0 hc1 hc2
          exact ⟨t, c, ⟨b, off, rfl, World.block_lt_of_cell? W _ hc0, hc0, hc1, hc2⟩, hrep⟩
        obtain ⟨K, hK⟩ : ∃ K : Nat → Kd, ∀ i, i < len → ∃ c : C3, (∃ b o, a = ⟨b, o, none⟩ ∧ b < W.heap.size ∧ C3.at W b (o + i * 3) c) ∧ KRep (fun b => b < W.heap.size) W (K i) c :=
          ⟨fun i => if h : i < len then (hkid i h).choose else .mk 0 [] [], fun i hi => by simp only [hi, dif_pos]; exact (hkid i hi).choose_spec⟩
        refine ⟨.mk s ss ((List.range len).map K), ⟨c0, c1, c2⟩, rfl, ?_⟩
        rw [KRep]
        refine ⟨e0, hw0, h3', some a, cap, by simpa using hcs, by simp; omega, fun hne => ?_⟩
        have h0len : 0 < len := by
          rcases Nat.eq_zero_or_pos len with h | h
          · subst h; exact absurd rfl hne
          · exact h
        obtain ⟨_, ⟨b, o, ha, hb, -⟩, -⟩ := hK 0 h0len
        subst ha
        refine ⟨b, o, rfl, hb, KRepK.mk fun i hi => ?_⟩
        have hi' : i < len := by simpa using hi
        obtain ⟨c, ⟨b', o', ha', -, hat⟩, hr⟩ := hK i hi'
        simp only [Addr.mk.injEq, and_true] at ha'
        obtain ⟨rfl, rfl⟩ := ha'
        exact ⟨c, hat, by simpa using hr⟩
end
end Go.Proofs.YtenpghndgdemnaaGreatDoor
