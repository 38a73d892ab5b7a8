/- The walks of the program's ofWhole at the table of widenings, and of KindFits. Conditions: errors.errorType holds the handle of the type error. -/
import Derived.Test.YtcpfelaffclalaaGreatDoorPart22
import Derived.Test.YtcpfelaffclalaaGreatDoorPart10
import Derived.Test.YtcpfelaffclalaaGreatDoorRows
import Derived.Test.YtcpfelaffclalaaGreatDoorPart00
import Derived.ProofKit
import Derived.OpenShut
import Derived.Deep.Fields
import Derived.Deep.Slices
namespace Go.Proofs.YtcpfelaffclalaaGreatDoor
open Go Go.RowKit

/-- The library's variable holds the handle of the type error. -/
def ErrT (w : World) : Prop := w.cell? ⟨0, 0, none⟩ = some (.iface 163 (.agg #[.pointer (some ⟨2, 89, none⟩)]))
theorem ErrT.on {w W : World} (h : ErrT w) (hb : Below w.heap.size w W) : ErrT W := by
  unfold ErrT
  rw [World.cell?_of_block (w := w) (hb.block _ (World.block_lt_of_cell? w _ h))]
  exact h
/-- What ofWhole gives. -/
def WhE (GW : Kd → Kd → (Nat → Prop) → World → Value → Prop) (a b : Kd) (w w' : World) (e : Ending) : Prop :=
  ∃ fv, e = .returned (.tuple #[fv, .bool (fitsD a b)]) ∧ (fitsD a b = true → (∃ f b c, fv = .func f b c) ∧ GW a b (New w w') w' fv)
set_option maxRecDepth 100000 in
set_option maxHeartbeats 3200000 in
theorem ofWhole_any {GW : Kd → Kd → (Nat → Prop) → World → Value → Prop} (HG : GLaws GW) (a b : Kd) (P Q : Nat → Prop) (c d : C3) (w : World) (T : Nat) (hT : WT w T) (hE : ErrT w) (hP : ∀ x, P x → x < w.heap.size) (hQ : ∀ x, Q x → x < w.heap.size) (ha : KRep P w a c) (hb : KRep Q w b d) (hwa : wKd a ≤ 1048576) (hwb : wKd b ≤ 1048576) :
    Calls Tryz.prog 29 #[.pointer (some ⟨T, 0, none⟩), .agg #[c.c0, c.c1, c.c2], .agg #[d.c0, d.c1, d.c2]] w fun e w' => Below w.heap.size w w' ∧ WhE GW a b w w' e := by
  have ha' : KRep (fun x => x < w.heap.size) w a c := KRep.carry (fun _ _ => rfl) hP _ _ ha
  have hb' : KRep (fun x => x < w.heap.size) w b d := KRep.carry (fun _ _ => rfl) hQ _ _ hb
  have hca : ∀ W, Below w.heap.size w W → KRep (fun x => x < W.heap.size) W a c := fun W hW => KRep.carry (fun x hx => hW.block x hx) (fun _ hx => Nat.lt_of_lt_of_le hx hW.size) _ _ ha'
  have hcb : ∀ W, Below w.heap.size w W → KRep (fun x => x < W.heap.size) W b d := fun W hW => KRep.carry (fun x hx => hW.block x hx) (fun _ hx => Nat.lt_of_lt_of_le hx hW.size) _ _ hb'
  have HOA : Hid (∀ W, Below w.heap.size w W → Calls Tryz.prog 48 #[.agg #[c.c0, c.c1, c.c2]] W fun e w' => e = .returned (.bool (decide (0 < qT a 1))) ∧ Below W.heap.size W w') := fun W hW => implKindOk_any a _ c W (fun _ h => h) (hca W hW) hwa
  have HOB : Hid (∀ W, Below w.heap.size w W → Calls Tryz.prog 48 #[.agg #[d.c0, d.c1, d.c2]] W fun e w' => e = .returned (.bool (decide (0 < qT b 1))) ∧ Below W.heap.size W w') := fun W hW => implKindOk_any b _ d W (fun _ h => h) (hcb W hW) hwb
  have HF : Hid (∀ W, 0 < qT a 1 → 0 < qT b 1 → Below w.heap.size w W → Calls Tryz.prog 58 #[.pointer (some ⟨T, 0, none⟩), .agg #[c.c0, c.c1, c.c2], .agg #[d.c0, d.c1, d.c2], .string ⟨#[]⟩] W fun e w' => Below W.heap.size W w' ∧ ∃ fv er, e = .returned (.tuple #[fv, er]) ∧ PR (fitF 40 a b) (GW a b) (New W w') w' fv er) := fun W h1 h2 hW => by
    have hKa : KW W a c := ⟨hca W hW, (ok_of_qT h1).1⟩
    have hKb : KW W b d := ⟨hcb W hW, (ok_of_qT h2).1⟩
    refine (pair_all HG 40 a b (fun _ => (ok_of_qT h2).2) (ok_of_qT h1).2 (ok_of_qT h2).2 c d W T ⟨#[]⟩ (hT.on hW) (Or.inl hKa) (Or.inl hKb) (by decide)).mono fun e w' ⟨k1, fv, er, k2, k3⟩ => ⟨k1, fv, er, k2, ?_⟩
    have := k3.1
    rwa [pF_fit (by rcases hKa.sh with h' | h' | h' <;> omega) (by rcases hKb.sh with h' | h' | h' <;> omega)] at this
  have HET : Hid (∀ W, Below w.heap.size w W → ErrT W) := fun W hW => hE.on hW
  obtain ⟨c0, c1, c2⟩ := c
  obtain ⟨d0, d1, d2⟩ := d
  obtain ⟨e0, -, ⟨a3, cap3, e1, -⟩, a4, cap4, e2, -⟩ := ha.open
  obtain ⟨g0, -, ⟨b3, bap3, g1, -⟩, b4, bap4, g2, -⟩ := hb.open
  simp only at e0 e1 e2 g0 g1 g2
  subst e0 e1 e2 g0 g1 g2
  obtain ⟨hra, hrb, hbw⟩ := pr_boxes w a.sort b.sort a3 a4 b3 b4 a.names.length a.kids.length cap3 cap4 b.names.length b.kids.length bap3 bap4
  have x0 := hra.cell (i := 0) (by omega); have x1 := hra.cell (i := 1) (by omega); have x2 := hra.cell (i := 2) (by omega)
  simp only [row3] at x0 x1 x2
  have HRA := hide hra; have HRB := hide hrb; have HBW := hide hbw
  clear hra hrb hbw ha hb ha' hb' hca hcb hP hQ hT hE hwa hwb
  go_enter Tryz.func29, Tryz.ntmps29
  go_wp2_with fail
  generalize ((w.alloc (.cells #[.int .i64 a.sort, .slice a3 a.names.length cap3, .slice a4 a.kids.length cap4] 30)).alloc (.cells #[.int .i64 b.sort, .slice b3 b.names.length bap3, .slice b4 b.kids.length bap4] 30)) = W0 at x0 x1 x2 HRA HRB HBW ⊢
  refine (unhide HOA _ (unhide HBW)).mono ?_
  rintro e W1 ⟨rfl, hb1⟩
  have hbw1 := (unhide HBW).trans (hb1.mono (unhide HBW).size)
  have HRA1 := hide ((unhide HRA).of_block (hb1.block _ (unhide HRA).lt))
  have HRB1 := hide ((unhide HRB).of_block (hb1.block _ (unhide HRB).lt))
  have HB1 := hide hbw1
  clear hb1 hbw1 HRA HRB HBW x0 x1 x2
  by_cases hqa : 0 < qT a 1
  · rw [decide_eq_true hqa]
    have y0 := (unhide HRB1).cell (i := 0) (by omega); have y1 := (unhide HRB1).cell (i := 1) (by omega); have y2 := (unhide HRB1).cell (i := 2) (by omega)
    simp only [row3] at y0 y1 y2
    go_wp2_with fail
    refine (unhide HOB _ (unhide HB1)).mono ?_
    rintro e W2 ⟨rfl, hb2⟩
    have hbw2 := (unhide HB1).trans (hb2.mono (unhide HB1).size)
    have HRA2 := hide ((unhide HRA1).of_block (hb2.block _ (unhide HRA1).lt))
    have HRB2 := hide ((unhide HRB1).of_block (hb2.block _ (unhide HRB1).lt))
    have HB2 := hide hbw2
    clear hb2 hbw2 HRA1 HRB1 HB1 y0 y1 y2
    by_cases hqb : 0 < qT b 1
    · rw [decide_eq_true hqb]
      have HFT := hide (show fitsD a b = fitF 40 a b by unfold fitsD; rw [decide_eq_true hqa, decide_eq_true hqb]; rfl)
      have x0 := (unhide HRA2).cell (i := 0) (by omega); have x1 := (unhide HRA2).cell (i := 1) (by omega); have x2 := (unhide HRA2).cell (i := 2) (by omega)
      have y0 := (unhide HRB2).cell (i := 0) (by omega); have y1 := (unhide HRB2).cell (i := 1) (by omega); have y2 := (unhide HRB2).cell (i := 2) (by omega)
      simp only [row3] at x0 x1 x2 y0 y1 y2
      have HQA := hide hqa; have HQB := hide hqb
      clear hqa hqb
      go_wp2_with fail
      refine (unhide HF _ (unhide HQA) (unhide HQB) (unhide HB2)).mono ?_
      rintro e W3 ⟨hb3, fv, er, rfl, hpr⟩
      have hbw3 := (unhide HB2).trans (hb3.mono (unhide HB2).size)
      have HB3 := hide hbw3
      have HSZ := hide (unhide HB2).size
      clear HRA2 HRB2 HB2 x0 x1 x2 y0 y1 y2 hb3 hbw3
      have HBA := hide ((unhide HB3).alloc (unhide HB3).size (.cells #[.int .i64 0, .int .i64 0, .string ByteArray.empty] 93))
      rcases hpr with ⟨hfy, rfl, ⟨fn, bs, cs, rfl⟩, hgw⟩ | ⟨hfn, -, x, y, p, rfl⟩
      · have HE2 : Hid (fitsD a b = true ∧ GW a b (New w (W3.alloc (.cells #[.int .i64 0, .int .i64 0, .string ByteArray.empty] 93))) (W3.alloc (.cells #[.int .i64 0, .int .i64 0, .string ByteArray.empty] 93)) (.func fn bs cs)) :=
          ⟨(unhide HFT).trans hfy, HG.on a b _ _ _ _ _ hgw (fun z hz => ⟨Nat.le_trans (unhide HSZ) hz.1, by have := hz.2; rw [World.size_alloc]; omega⟩) (fun z hz => Below.heap_alloc _ _ _ hz.2)⟩
        clear hgw hfy HFT HF HOA HOB HB3 HSZ
        go_wp2_with (go_at_call 59; refine (as_nil _ _).mono ?_; rintro e W4 ⟨rfl, hw4⟩; have hw5 := hw4.symm; subst hw5)
        go_ret2
        exact ⟨unhide HBA, .func fn bs cs, (by rw [(unhide HE2).1]; rfl), fun _ => ⟨⟨_, _, _, rfl⟩, (unhide HE2).2⟩⟩
      · have HE2 := hide ((unhide HFT).trans hfn)
        have HTH : Hid ((W3.alloc (.cells #[.int .i64 0, .int .i64 0, .string ByteArray.empty] 93)).there W3.heap.size 0 3) := there3f (row3_alloc W3 _ _ _ _)
        have HEW := hide (unhide HET _ (unhide HBA))
        have HSZ3 := hide (unhide HB3).size
        clear hfn HFT HF HOA HOB HB3 HSZ
        go_wp2_with (go_at_call 59; refine (as_hit x y p W3.heap.size (W3.alloc (.cells #[.int .i64 0, .int .i64 0, .string ByteArray.empty] 93)) (unhide HEW) (unhide HTH)).mono ?_; rintro e W4 ⟨rfl, hw4⟩; have HB4 : Hid (Below w.heap.size w W4) := (unhide HBA).trans ⟨hw4.os, hw4.tape, hw4.output, hw4.size, fun i hi => hw4.at (Nat.lt_of_lt_of_le hi (unhide HBA).size) (Nat.ne_of_lt (Nat.lt_of_lt_of_le hi (unhide HSZ3)))⟩; clear hw4)
        go_ret2
        exact ⟨unhide HB4, .nilFunc, (by rw [unhide HE2]; rfl), fun h => by rw [unhide HE2] at h; cases h⟩
    · rw [decide_eq_false hqb]
      have HFT := hide (show fitsD a b = false by unfold fitsD; rw [decide_eq_false hqb]; simp)
      clear hqa hqb
      go_wp2_with fail
      go_ret2
      exact ⟨unhide HB2, .nilFunc, (by rw [unhide HFT]; rfl), fun h => by rw [unhide HFT] at h; cases h⟩
  · rw [decide_eq_false hqa]
    have HFT := hide (show fitsD a b = false by unfold fitsD; rw [decide_eq_false hqa]; rfl)
    clear hqa
    go_wp2_with fail
    go_ret2
    exact ⟨unhide HB1, .nilFunc, (by rw [unhide HFT]; rfl), fun h => by rw [unhide HFT] at h; cases h⟩
theorem cell_onQ {w w' : World} (hb : Below w.heap.size w w') {a : Addr} {v : Value} (h : w.cell? a = some v) : w'.cell? a = some v := by
  rw [World.cell?_of_block (w := w) (hb.block a.block (World.block_lt_of_cell? w _ h))]
  exact h
/-- Nothing is said of widenings. -/
theorem gTrue : GLaws (fun _ _ _ _ _ => True) := ⟨fun _ _ _ _ _ _ _ _ _ _ => trivial, fun _ _ _ _ _ _ => trivial, fun _ _ _ _ _ _ => trivial, fun _ _ _ _ _ _ _ _ _ _ _ _ _ _ _ => trivial, fun _ _ _ _ _ _ _ _ _ _ _ _ _ _ _ _ => trivial, fun _ _ _ _ _ _ _ _ _ _ _ => trivial⟩
set_option maxRecDepth 100000 in
set_option maxHeartbeats 3200000 in
theorem implKindFits_any (a b : Kd) (P Q : Nat → Prop) (c d : C3) (w : World) (hE : ErrT w) (hP : ∀ x, P x → x < w.heap.size) (hQ : ∀ x, Q x → x < w.heap.size) (ha : KRep P w a c) (hb : KRep Q w b d) (hwa : wKd a ≤ 1048576) (hwb : wKd b ≤ 1048576) :
    Calls Tryz.prog 9 #[.agg #[c.c0, c.c1, c.c2], .agg #[d.c0, d.c1, d.c2]] w fun e w' => e = .returned (.bool (fitsD a b)) ∧ Below w.heap.size w w' := by
  have ha' : KRep (fun x => x < w.heap.size) w a c := KRep.carry (fun _ _ => rfl) hP _ _ ha
  have hb' : KRep (fun x => x < w.heap.size) w b d := KRep.carry (fun _ _ => rfl) hQ _ _ hb
  have HW : Hid (∀ W T, Below w.heap.size w W → WT W T → Calls Tryz.prog 29 #[.pointer (some ⟨T, 0, none⟩), .agg #[c.c0, c.c1, c.c2], .agg #[d.c0, d.c1, d.c2]] W fun e w' => Below W.heap.size W w' ∧ ∃ fv, e = .returned (.tuple #[fv, .bool (fitsD a b)])) := fun W T hW hT =>
    (ofWhole_any gTrue a b (fun x => x < w.heap.size) (fun x => x < w.heap.size) c d W T hT (hE.on hW) (fun x hx => Nat.lt_of_lt_of_le hx hW.size) (fun x hx => Nat.lt_of_lt_of_le hx hW.size) (KRep.carry (fun x hx => hW.block x hx) (fun _ h => h) _ _ ha') (KRep.carry (fun x hx => hW.block x hx) (fun _ h => h) _ _ hb') hwa hwb).mono fun e w' ⟨h1, fv, h2, _⟩ => ⟨h1, fv, h2⟩
  obtain ⟨c0, c1, c2⟩ := c
  obtain ⟨d0, d1, d2⟩ := d
  obtain ⟨e0, -, ⟨a3, cap3, e1, -⟩, a4, cap4, e2, -⟩ := ha.open
  obtain ⟨g0, -, ⟨b3, bap3, g1, -⟩, b4, bap4, g2, -⟩ := hb.open
  simp only at e0 e1 e2 g0 g1 g2
  subst e0 e1 e2 g0 g1 g2
  obtain ⟨hra, hrb, hbw⟩ := pr_boxes w a.sort b.sort a3 a4 b3 b4 a.names.length a.kids.length cap3 cap4 b.names.length b.kids.length bap3 bap4
  have HRA := hide hra; have HRB := hide hrb; have HBW := hide hbw
  clear hra hrb hbw ha hb ha' hb' hP hQ hE hwa hwb
  go_enter Tryz.func9, Tryz.ntmps9
  go_upto_region 1 with fail
  generalize ((w.alloc (.cells #[.int .i64 a.sort, .slice a3 a.names.length cap3, .slice a4 a.kids.length cap4] 30)).alloc (.cells #[.int .i64 b.sort, .slice b3 b.names.length bap3, .slice b4 b.kids.length bap4] 30)) = W0 at HRA HRB HBW ⊢
  have x0 := (unhide HRA).cell (i := 0) (by omega); have x1 := (unhide HRA).cell (i := 1) (by omega); have x2 := (unhide HRA).cell (i := 2) (by omega)
  have y0 := (unhide HRB).cell (i := 0) (by omega); have y1 := (unhide HRB).cell (i := 1) (by omega); have y2 := (unhide HRB).cell (i := 2) (by omega)
  simp only [row3] at x0 x1 x2 y0 y1 y2
  clear HRA HRB
  go_region_held3 (fun W => W.cell? ⟨w.heap.size, 0, none⟩ = some (.int .i64 a.sort) ∧ W.cell? ⟨w.heap.size, 1, none⟩ = some (.slice a3 a.names.length cap3) ∧ W.cell? ⟨w.heap.size, 2, none⟩ = some (.slice a4 a.kids.length cap4) ∧ W.cell? ⟨w.heap.size + 1, 0, none⟩ = some (.int .i64 b.sort) ∧ W.cell? ⟨w.heap.size + 1, 1, none⟩ = some (.slice b3 b.names.length bap3) ∧ W.cell? ⟨w.heap.size + 1, 2, none⟩ = some (.slice b4 b.kids.length bap4)) (first | exact ⟨x0, x1, x2, y0, y1, y2⟩ | exact HS2 | exact HS1 | go_keep)
    (first
      | (go_at_call 28
         refine (newWidenings_any W0.drew).mono ?_
         rintro e W1 ⟨rfl, hb1, ht1⟩
         have HS1 : W1.cell? ⟨w.heap.size, 0, none⟩ = some (.int .i64 a.sort) ∧ W1.cell? ⟨w.heap.size, 1, none⟩ = some (.slice a3 a.names.length cap3) ∧ W1.cell? ⟨w.heap.size, 2, none⟩ = some (.slice a4 a.kids.length cap4) ∧ W1.cell? ⟨w.heap.size + 1, 0, none⟩ = some (.int .i64 b.sort) ∧ W1.cell? ⟨w.heap.size + 1, 1, none⟩ = some (.slice b3 b.names.length bap3) ∧ W1.cell? ⟨w.heap.size + 1, 2, none⟩ = some (.slice b4 b.kids.length bap4) := ⟨cell_onP hb1 x0, cell_onP hb1 x1, cell_onP hb1 x2, cell_onP hb1 y0, cell_onP hb1 y1, cell_onP hb1 y2⟩
         have HB1 := hide ((unhide HBW).drew.trans (hb1.mono (unhide HBW).size))
         have HT1 := hide ht1
         clear hb1 ht1)
      | (go_at_call 29
         refine (unhide HW W1 _ (unhide HB1) (unhide HT1)).mono ?_
         rintro e W2 ⟨hb2, fv, rfl⟩
         have HS2 : W2.cell? ⟨w.heap.size, 0, none⟩ = some (.int .i64 a.sort) ∧ W2.cell? ⟨w.heap.size, 1, none⟩ = some (.slice a3 a.names.length cap3) ∧ W2.cell? ⟨w.heap.size, 2, none⟩ = some (.slice a4 a.kids.length cap4) ∧ W2.cell? ⟨w.heap.size + 1, 0, none⟩ = some (.int .i64 b.sort) ∧ W2.cell? ⟨w.heap.size + 1, 1, none⟩ = some (.slice b3 b.names.length bap3) ∧ W2.cell? ⟨w.heap.size + 1, 2, none⟩ = some (.slice b4 b.kids.length bap4) := ⟨cell_onQ hb2 HS1.1, cell_onQ hb2 HS1.2.1, cell_onQ hb2 HS1.2.2.1, cell_onQ hb2 HS1.2.2.2.1, cell_onQ hb2 HS1.2.2.2.2.1, cell_onQ hb2 HS1.2.2.2.2.2⟩
         have HB2 := hide ((unhide HB1).trans (hb2.mono (unhide HB1).size))
         clear hb2))
  all_goals
    clear HS1 HS2 x0 x1 x2 y0 y1 y2 HW HB1 HT1 HBW
    go_wp2_with fail
    go_ret
    exact ⟨rfl, unhide HB2⟩
end Go.Proofs.YtcpfelaffclalaaGreatDoor

/- What is read of a list of strings that comes in is one that lies in memory. No conditions. -/

namespace Go.Proofs.YtcpfelaffclalaaGreatDoor
open Go Go.RowKit Go.ChangeShapes Go.WideShapes Go.ChangeAt Go.Deep

theorem cellsStr : Tryz.prog.cellsOf 9 = 1 := by kernel_rfl

section
variable {H : Type} {enc : TypeId × Value → H} {W : World} {spare : Nat → Bool} {held : Bool}

theorem strs_of_trod {fuel : Nat} {v : Value} {x : DataW H × List MemPlace} (h : DataW.trod enc Tryz.prog W 0 spare held fuel 22 [v] = some x) :
    ∃ ss, StrsAt (fun b => b < W.heap.size) W v ss := by
  rcases open_strings Tryz.underlying22 Tryz.underlying9 cellsStr h with ⟨hcs, -⟩ | ⟨a, len, cap, ss, hcs, -, hl, hm, hz, -, hcell, hws⟩
  · simp only [List.cons.injEq, and_true] at hcs
    exact ⟨[], none, 0, hcs, by simp, fun i hi => by simp at hi⟩
  · simp only [List.cons.injEq, and_true] at hcs
    have hle : len ≤ ss.length := by rw [hz]; split <;> omega
    unfold maxLen at hm
    refine ⟨ss.take len, some a, cap, by rw [hcs]; simp; omega, by simp; omega, fun i hi => ?_⟩
    have hi' : i < len := by simp at hi; omega
    obtain ⟨b, off, spot⟩ := a
    have hspot : spot = none := by simpa [Addr.add] using World.cell?_spot (hcell 0 (by omega))
    subst hspot
    have hc := hcell i (by omega)
    rw [Addr.add_lit] at hc
    refine ⟨b, off, rfl, World.block_lt_of_cell? W _ hc, ?_, ?_⟩
    · rw [hc]; simp [show i < ss.length by omega]
    · have := hws ss[i] (List.getElem_mem (by omega)); unfold maxLen at this; simpa using this
end
end Go.Proofs.YtcpfelaffclalaaGreatDoor

/- What is read of a schema that comes in is a schema that lies in memory. No conditions. -/

namespace Go.Proofs.YtcpfelaffclalaaGreatDoor
open Go Go.RowKit Go.ChangeShapes Go.WideShapes Go.ChangeAt Go.Deep

theorem cellsKind : Tryz.prog.cellsOf 25 = 3 := by kernel_rfl
theorem oneKind : ∃ fs : Array Field, Tryz.prog.underlying 25 = some (.struct fs) ∧ oneCellFields Tryz.prog fs = true ∧ fs.map (·.type) = #[3, 22, 23] := ⟨_, Tryz.underlying25, by kernel_rfl, by kernel_rfl⟩

section
variable {H : Type} {enc : TypeId × Value → H} {W : World} {spare : Nat → Bool} {held : Bool}

set_option maxRecDepth 100000 in
theorem krep_of_trod : ∀ (fuel : Nat) (cs : List Value) (x : DataW H × List MemPlace), DataW.trod enc Tryz.prog W 0 spare held fuel 25 cs = some x →
    ∃ (t : Kd) (c : C3), cs = [c.c0, c.c1, c.c2] ∧ KRep (fun b => b < W.heap.size) W t c := by
  intro fuel
  induction fuel using Nat.strongRecOn with
  | ind fuel ih =>
    intro cs x h
    obtain ⟨fs, hu, hone, hty⟩ := oneKind
    obtain ⟨xs, n, hn, -, hlen, hxl, hf⟩ := DataW.trod_struct hu h
    rw [cellsKind] at hlen
    match cs, hlen with
    | [c0, c1, c2], _ =>
      have hsz : fs.size = 3 := by have := congrArg Array.size hty; simpa using this
      have hfield : ∀ (i : Nat) (T : TypeId), i < 3 → (#[3, 22, 23] : Array TypeId)[i]? = some T → ∃ y, DataW.trod enc Tryz.prog W 0 spare held n T (([c0, c1, c2].drop i).take 1) = some y := by
        intro i T hi hT
        have hfi : fs[i]? = some (fs[i]'(by omega)) := Array.getElem?_eq_getElem (by omega)
        obtain ⟨ho, hc⟩ := hone_of hone i _ hfi
        have := hf i _ hfi
        rw [ho, hc] at this
        have hTT : (fs[i]'(by omega)).type = T := by
          rw [← hty] at hT
          simpa [hsz, hi] using hT
        rw [hTT] at this
        exact ⟨xs[i]'(by omega), by rw [this]; exact List.getElem?_eq_getElem (by omega)⟩
      obtain ⟨y0, h0⟩ := hfield 0 _ (by omega) rfl
      obtain ⟨y1, h1⟩ := hfield 1 _ (by omega) rfl
      obtain ⟨y2, h2⟩ := hfield 2 _ (by omega) rfl
      simp only [List.drop_succ_cons, List.drop_zero, List.take_succ_cons, List.take_zero] at h0 h1 h2
      obtain ⟨s, e0, -, w0⟩ := DataW.trod_int Tryz.underlying3 h0
      obtain ⟨ss, h3'⟩ := strs_of_trod h1
      simp only [List.cons.injEq, and_true] at e0
      have hw0 : I64 s := by have := bounds_i64 w0; exact ⟨by omega, by omega⟩
      rcases DataW.trod_slice Tryz.underlying23 h2 with ⟨hcs, -⟩ | ⟨a, len, cap, elems, rest, n', hn', hcs, -, -, hl, hm, hel, hget, -⟩
      · simp only [List.cons.injEq, and_true] at hcs
        refine ⟨.mk s ss [], ⟨c0, c1, c2⟩, rfl, ?_⟩
        rw [KRep]
        exact ⟨e0, hw0, h3', none, 0, hcs, by simp, fun h => absurd rfl h⟩
      · simp only [List.cons.injEq, and_true] at hcs
        unfold maxLen at hm
        rw [cellsKind] at hget
        have hspot : 0 < len → a.spot = none := fun h0 => by
          have hgi := hget 0 h0
          rw [List.getElem?_eq_getElem (by omega)] at hgi
          obtain ⟨cs', hcs', htr⟩ := Option.bind_eq_some_iff.1 hgi
          obtain ⟨-, hl5, hcell⟩ := World.cells?_some hcs'
          have hc0 := hcell 0 (by omega)
          rw [List.getElem?_eq_getElem (by omega)] at hc0
          simpa [Addr.add] using World.cell?_spot hc0
        have hkid : ∀ i, i < len → ∃ (t : Kd) (c : C3), (∃ b o, a = ⟨b, o, none⟩ ∧ b < W.heap.size ∧ C3.at W b (o + i * 3) c) ∧ KRep (fun b => b < W.heap.size) W t c := by
          intro i hi
          have hgi := hget i hi
          rw [List.getElem?_eq_getElem (by omega)] at hgi
          obtain ⟨cs', hcs', htr⟩ := Option.bind_eq_some_iff.1 hgi
          obtain ⟨t, c, rfl, hrep⟩ := ih n' (by omega) cs' _ htr
          obtain ⟨-, -, hcell⟩ := World.cells?_some hcs'
          obtain ⟨b, off, spot⟩ := a
          have hsp : spot = none := hspot (by omega)
          subst hsp
          have hc0 := hcell 0 (by omega)
          have hc1 := hcell 1 (by omega); have hc2 := hcell 2 (by omega)
          simp only [Addr.add_lit, List.getElem?_cons_zero, List.getElem?_cons_succ, Nat.add_zero] at hc0 hc1 hc2
          exact ⟨t, c, ⟨b, off, rfl, World.block_lt_of_cell? W _ hc0, hc0, hc1, hc2⟩, hrep⟩
        obtain ⟨K, hK⟩ : ∃ K : Nat → Kd, ∀ i, i < len → ∃ c : C3, (∃ b o, a = ⟨b, o, none⟩ ∧ b < W.heap.size ∧ C3.at W b (o + i * 3) c) ∧ KRep (fun b => b < W.heap.size) W (K i) c :=
          ⟨fun i => if h : i < len then (hkid i h).choose else .mk 0 [] [], fun i hi => by simp only [hi, dif_pos]; exact (hkid i hi).choose_spec⟩
        refine ⟨.mk s ss ((List.range len).map K), ⟨c0, c1, c2⟩, rfl, ?_⟩
        rw [KRep]
        refine ⟨e0, hw0, h3', some a, cap, by simpa using hcs, by simp; omega, fun hne => ?_⟩
        have h0len : 0 < len := by
          rcases Nat.eq_zero_or_pos len with h | h
          · subst h; exact absurd rfl hne
          · exact h
        obtain ⟨_, ⟨b, o, ha, hb, -⟩, -⟩ := hK 0 h0len
        subst ha
        refine ⟨b, o, rfl, hb, KRepK.mk fun i hi => ?_⟩
        have hi' : i < len := by simpa using hi
        obtain ⟨c, ⟨b', o', ha', -, hat⟩, hr⟩ := hK i hi'
        simp only [Addr.mk.injEq, and_true] at ha'
        obtain ⟨rfl, rfl⟩ := ha'
        exact ⟨c, hat, by simpa using hr⟩
end
end Go.Proofs.YtcpfelaffclalaaGreatDoor
