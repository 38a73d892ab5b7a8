/- The walks of the law's own szEventS, szRecord, toEventS, toRecord, eqEventS, eqRecord. No conditions but the weight, at most 2^20. -/
import Derived.Test.YtbigchdhpdgicaaDoorPart00
import Derived.Test.YtbigchdhpdgicaaDoorPart04
import Derived.Test.YtbigchdhpdgicaaDoorPart07
import Derived.Test.YtbigchdhpdgicaaDoorPart06
import Derived.Deep.CutRange
import Derived.Test.YtbigchdhpdgicaaDoorRows
import Derived.ProofKit
import Derived.OpenShut
import Derived.Deep.Fields
import Derived.Deep.Slices
import Derived.Test.YtbigchdhpdgicaaDoorPart02
import Derived.MakeChecks
namespace Go.Proofs.YtbigchdhpdgicaaDoor
open Go Go.RowKit

set_option maxRecDepth 100000 in
set_option maxHeartbeats 800000 in
theorem szEventS_any (es : List Ev) (P : Nat → Prop) (v : Value) (left : Int) (w : World) (hP : ∀ b, P b → b < w.heap.size) (hv : EvsAt P w v es) (h0 : 0 ≤ left) (h1 : left ≤ 1048576) :
    Calls Tryd.prog 12 #[v, .int .i64 left] w fun e w' => ∃ r : Int, e = .returned (.int .i64 r) ∧ (r = -1 ∨ (0 ≤ r ∧ r + wE es = left)) ∧ Below w.heap.size w w' := by
  obtain ⟨a, cap, rfl, hlen, hc⟩ := hv
  have HC := hide hc; clear hc
  have HP := hide hP; clear hP
  by_cases hneg : left - es.length < 0
  · go_enter Tryd.func12, Tryd.ntmps12
    go_wp2_with fail
    go_ret
    exact ⟨_, rfl, Or.inl rfl, Below.refl _ _⟩
  · go_enter Tryd.func12, Tryd.ntmps12
    go_wp2_with fail
    go_loopw [1, 5] (fun l i wr => ∃ (k : Nat) (q : Int), k ≤ es.length ∧ i = .int .i64 k ∧ l = .int .i64 q ∧ 0 ≤ q ∧ q ≤ 1048576 ∧ Hid (q + es.length + wE (es.take k) = left + k) ∧ Below w.heap.size w wr) (fun _ i _ => es.length - (intOf i).toNat)
    case atStart => exact ⟨0, _, Nat.zero_le _, rfl, rfl, by omega, by omega, by simp [Hid, wE], Below.refl _ _⟩
    case round =>
      obtain ⟨k, q, hk, rfl, rfl, hq0, hq1, HQ, hb⟩ := hrel
      by_cases hlt : k < es.length
      · obtain ⟨b, o, rfl, hpb, c, hcell, hrep, hty, hver⟩ := unhide HC k hlt
        have hcell' := hcell.carry (hb.block b (unhide HP b hpb))
        obtain ⟨c0, c1, c2, c3, c4⟩ := c
        obtain ⟨e0, e1, e2, e3, e4, e5, e6⟩ := hcell'
        simp only at e0 e1 e2 e3 e4 e5 e6
        have HCALL := hide (szEvent_any es[k].ty es[k].ver es[k].t P ⟨c0, c1, c2, c3, c4⟩ q wr (fun b hb' => Nat.lt_of_lt_of_le (unhide HP b hb') hb.size) (Rep.carry (fun b hb' => hb.block b (unhide HP b hb')) (fun _ h => h) _ _ hrep) hty hq0 hq1)
        have HT := hide (wE_take es k hlt)
        clear hrep hcell hpb hty hver
        go_wp2_with fail
        refine (unhide HCALL).mono ?_
        rintro e w' ⟨r, rfl, hr, hb'⟩
        have hb2 := hb.trans (hb'.mono hb.size)
        clear hb' HCALL
        rcases hr with rfl | ⟨hr0, hr1⟩
        · go_wp2_with fail
          go_ret
          exact ⟨_, rfl, Or.inl rfl, hb2⟩
        · have HR1 := hide hr1; clear hr1
          have hr2 : r ≤ 1048576 := by have := unhide HR1; omega
          go_wp2_with fail
          go_roundw
          case rel => exact ⟨k + 1, _, by omega, by go_num, rfl, by omega, by omega, by have := HQ.out; have := unhide HT; have := unhide HR1; show _ = _; omega, hb2⟩
          case measure => simp [intOf]; omega
      · go_wp2_with fail
        go_ret
        refine ⟨_, rfl, Or.inr ⟨hq0, ?_⟩, hb⟩
        have := HQ.out
        rw [List.take_of_length_le (by omega)] at this
        omega

set_option maxRecDepth 100000 in
set_option maxHeartbeats 800000 in
theorem szRecord_any (pos : Int) (key : ByteArray) (es : List Ev) (P : Nat → Prop) (v : Value) (left : Int) (w : World) (hP : ∀ b, P b → b < w.heap.size) (hv : EvsAt P w v es) (hk : key.size ≤ 9223372036854775807) (h0 : 0 ≤ left) (h1 : left ≤ 1048576) :
    Calls Tryd.prog 5 #[.agg #[.int .i64 pos, .string key, v], .int .i64 left] w fun e w' => ∃ r : Int, e = .returned (.int .i64 r) ∧ (r = -1 ∨ (0 ≤ r ∧ r + key.size + wE es = left)) ∧ Below w.heap.size w w' := by
  have hbx : ∀ o, Below w.heap.size w (w.alloc o) := fun o => (Below.refl _ _).alloc (Nat.le_refl _) o
  have HZ := hide (fun o (l : Int) (h0 : 0 ≤ l) (h1 : l ≤ 1048576) => szEventS_any es P v l (w.alloc o) (fun b hb => Nat.lt_of_lt_of_le (hP b hb) (hbx o).size) (hv.carry (fun b hb => (hbx o).block b (hP b hb)) (fun _ h => h)) h0 h1)
  clear hP hv
  by_cases hneg : left - key.size < 0
  · go_enter Tryd.func5, Tryd.ntmps5
    go_wp2_with fail
    go_ret
    exact ⟨_, rfl, Or.inl rfl, hbx _⟩
  · go_enter Tryd.func5, Tryd.ntmps5
    go_wp2_with fail
    refine (unhide HZ _ _ (by omega) (by omega)).mono ?_
    rintro e w' ⟨r, rfl, hr, hb'⟩
    have hb2 := (hbx _).trans (hb'.mono (hbx _).size)
    clear hb'
    rcases hr with rfl | ⟨hr0, hr1⟩
    · go_wp2_with fail
      go_ret
      exact ⟨_, rfl, Or.inl rfl, hb2⟩
    · have HR := hide hr1; clear hr1
      go_wp2_with fail
      go_ret
      exact ⟨_, rfl, Or.inr ⟨hr0, by have := unhide HR; omega⟩, hb2⟩

/-- The seven zero cells of an event. -/
def z7 : Array Value := #[.string ByteArray.empty, .int .i64 0, .int .i64 0, .int .i64 0, .string ByteArray.empty, .slice none 0 0, .slice none 0 0]
theorem infoEvent : (Tryd.prog.info? 43).map (fun i => (i.zero, i.size, i.bytes)) = some (some (.agg z7), 7, 104) := by kernel_rfl
theorem run_make_event (n : Nat) (h : n ≤ 1048576) (w : World) :
    (Instr.makeSlice 27 (.int .i64 (n : Int)) (.int .i64 (n : Int))).run Tryd.prog w = .ok (.slice (some ⟨w.heap.size, 0, none⟩) n n) (w.alloc (.cells (madeCells z7 (n * 7)) 43)) := by
  obtain ⟨i, hi, he⟩ : ∃ i, Tryd.prog.info? 43 = some i ∧ (i.zero, i.size, i.bytes) = (some (.agg z7), 7, 104) := by
    have := infoEvent
    cases h : Tryd.prog.info? 43 with
    | none => rw [h] at this; simp at this
    | some i => rw [h] at this; exact ⟨i, rfl, by simpa using this⟩
  simp only [Prod.mk.injEq] at he
  obtain ⟨e1, e2, e3⟩ := he
  have := run_make (P := Tryd.prog) w 27 43 i (.agg z7) Tryd.underlying27 hi e1 .i64 .i64 n n (by omega) (by omega) (by rw [e3]; omega) (by omega)
  rw [this, e2]
  simp [Value.cells]

def ELaid (w wr : World) (es : List Ev) (k : Nat) : Prop :=
  ∃ f, wr.rowIs w.heap.size 43 (es.length * 7) f ∧ ∀ j, j < k → (hj : j < es.length) → ∃ c : C5, (f (j * 7) = .string es[j].ty ∧ f (j * 7 + 1) = .int .i64 es[j].ver ∧ f (j * 7 + 2) = c.c0 ∧ f (j * 7 + 3) = c.c1 ∧ f (j * 7 + 4) = c.c2 ∧ f (j * 7 + 5) = c.c3 ∧ f (j * 7 + 6) = c.c4) ∧
    Rep (fun b => w.heap.size + 1 ≤ b ∧ b < wr.heap.size) wr es[j].t c ∧ es[j].ty.size ≤ 9223372036854775807 ∧ I64 es[j].ver

theorem heap_set7 (w : World) (b o : Nat) (a0 a1 c0 c1 c2 c3 c4 : Value) (k : Nat) (h : k ≠ b) :
    (((((((w.setCell ⟨b, o, none⟩ a0).setCell ⟨b, o + 1, none⟩ a1).setCell ⟨b, o + 2, none⟩ c0).setCell ⟨b, o + 3, none⟩ c1).setCell ⟨b, o + 4, none⟩ c2).setCell ⟨b, o + 5, none⟩ c3).setCell ⟨b, o + 6, none⟩ c4).heap[k]? = w.heap[k]? := by
  rw [Below.heap_setCell _ _ _ _ h, Below.heap_setCell _ _ _ _ h, Below.heap_setCell _ _ _ _ h, Below.heap_setCell _ _ _ _ h, Below.heap_setCell _ _ _ _ h, Below.heap_setCell _ _ _ _ h, Below.heap_setCell _ _ _ _ h]

theorem ELaid.step {w wr w' : World} {es : List Ev} {k : Nat} (hlt : k < es.length) (hL : ELaid w wr es k) (hb' : Below wr.heap.size wr w') (c : C5) (hr : Rep (New wr w') w' es[k].t c) (hty : es[k].ty.size ≤ 9223372036854775807) (hver : I64 es[k].ver) :
    ELaid w (((((((w'.setCell ⟨w.heap.size, k * 7, none⟩ (.string es[k].ty)).setCell ⟨w.heap.size, k * 7 + 1, none⟩ (.int .i64 es[k].ver)).setCell ⟨w.heap.size, k * 7 + 2, none⟩ c.c0).setCell ⟨w.heap.size, k * 7 + 3, none⟩ c.c1).setCell ⟨w.heap.size, k * 7 + 4, none⟩ c.c2).setCell ⟨w.heap.size, k * 7 + 5, none⟩ c.c3).setCell ⟨w.heap.size, k * 7 + 6, none⟩ c.c4) es (k + 1) := by
  obtain ⟨f, hrow, hf⟩ := hL
  have hlt0 := hrow.lt
  have hrow' := hrow.of_block (hb'.block _ hrow.lt)
  have hs := hb'.size
  refine ⟨_, ((((((hrow'.set (k * 7) _).set (k * 7 + 1) _).set (k * 7 + 2) c.c0).set (k * 7 + 3) c.c1).set (k * 7 + 4) c.c2).set (k * 7 + 5) c.c3).set (k * 7 + 6) c.c4, fun j hj hjl => ?_⟩
  by_cases e : j = k
  · subst e
    refine ⟨c, ⟨by simp, by simp, by simp, by simp, by simp, by simp, by simp⟩, ?_, hty, hver⟩
    refine Rep.carry (fun b hb => heap_set7 _ _ _ _ _ _ _ _ _ _ _ (by have := hb.1; omega)) (fun b hb => ?_) _ _ hr
    simp only [size_setCell]
    have := hb.1; have := hb.2
    omega
  · obtain ⟨d, ⟨g0, g1, g2, g3, g4, g5, g6⟩, hd, ht, hv⟩ := hf j (by omega) hjl
    refine ⟨d, ⟨?_, ?_, ?_, ?_, ?_, ?_, ?_⟩, ?_, ht, hv⟩
    · repeat rw [if_neg (by omega)]
      exact g0
    · repeat rw [if_neg (by omega)]
      exact g1
    · repeat rw [if_neg (by omega)]
      exact g2
    · repeat rw [if_neg (by omega)]
      exact g3
    · repeat rw [if_neg (by omega)]
      exact g4
    · repeat rw [if_neg (by omega)]
      exact g5
    · repeat rw [if_neg (by omega)]
      exact g6
    · refine Rep.carry (fun b hb => ?_) (fun b hb => ?_) _ _ hd
      · rw [heap_set7 _ _ _ _ _ _ _ _ _ _ _ (by omega), hb'.block b hb.2]
      · simp only [size_setCell]; omega

theorem ELaid.done {w wr : World} {es : List Ev} (hL : ELaid w wr es es.length) (hlen : es.length ≤ 1048576) : EvsAt (New w wr) wr (.slice (some ⟨w.heap.size, 0, none⟩) es.length es.length) es := by
  obtain ⟨f, hrow, hf⟩ := hL
  refine ⟨_, _, rfl, by omega, fun i hi => ⟨w.heap.size, 0, rfl, ⟨Nat.le_refl _, hrow.lt⟩, ?_⟩⟩
  obtain ⟨d, ⟨g0, g1, g2, g3, g4, g5, g6⟩, hd, ht, hv⟩ := hf i hi hi
  refine ⟨d, ?_, Rep.carry (fun _ _ => rfl) (fun b hb => ⟨by omega, hb.2⟩) _ _ hd, ht, hv⟩
  simp only [Nat.zero_add, E7at]
  rw [hrow.cell (i := i * 7) (by omega), hrow.cell (i := i * 7 + 1) (by omega), hrow.cell (i := i * 7 + 2) (by omega), hrow.cell (i := i * 7 + 3) (by omega), hrow.cell (i := i * 7 + 4) (by omega), hrow.cell (i := i * 7 + 5) (by omega), hrow.cell (i := i * 7 + 6) (by omega), g0, g1, g2, g3, g4, g5, g6]
  exact ⟨rfl, rfl, rfl, rfl, rfl, rfl, rfl⟩

set_option maxRecDepth 100000 in
set_option maxHeartbeats 1600000 in
theorem toEventS_any (es : List Ev) (P : Nat → Prop) (v : Value) (w : World) (hP : ∀ b, P b → b < w.heap.size) (hv : EvsAt P w v es) (hwt : wE es ≤ 1048576) :
    Calls Tryd.prog 17 #[v] w fun e w' => ∃ a, e = .returned (.slice a es.length es.length) ∧ EvsAt (New w w') w' (.slice a es.length es.length) es ∧ Below w.heap.size w w' := by
  obtain ⟨a, cap, rfl, -, hc⟩ := hv
  have hlen : es.length ≤ 1048576 := Nat.le_trans (wE_len es) hwt
  have HC := hide hc; clear hc
  have HP := hide hP; clear hP
  have HW := hide hwt; clear hwt
  have hmk := run_make_event es.length hlen
  go_enter Tryd.func17, Tryd.ntmps17
  go_wp2_with fail
  clear hmk
  go_loopw [4] (fun i wr => ∃ (k : Nat), k ≤ es.length ∧ i = .int .i64 k ∧ Hid (ELaid w wr es k) ∧ Below w.heap.size w wr) (fun i _ => es.length - (intOf i).toNat)
  case atStart =>
    have hrow := World.rowIs_alloc w (madeCells z7 (es.length * 7)) 43 (fun i => (madeCells z7 (es.length * 7))[i]?.getD undef) (fun i hi => by simp [hi])
    rw [size_madeCells] at hrow
    exact ⟨0, Nat.zero_le _, rfl, hide ⟨_, hrow, fun j hj => by omega⟩, (Below.refl _ _).alloc (Nat.le_refl _) _⟩
  case round =>
    obtain ⟨k, hk, rfl, HL, hb⟩ := hrel
    by_cases hlt : k < es.length
    · obtain ⟨b, o, rfl, hpb, c, hcell, hrep, hty, hver⟩ := unhide HC k hlt
      have hcell' := hcell.carry (hb.block b (unhide HP b hpb))
      obtain ⟨c0, c1, c2, c3, c4⟩ := c
      obtain ⟨e0, e1, e2, e3, e4, e5, e6⟩ := hcell'
      simp only at e0 e1 e2 e3 e4 e5 e6
      have hwk : wT es[k].t ≤ 1048576 := by have := wE_mem (List.getElem_mem hlt); have := unhide HW; omega
      have HCALL := hide (toEvent_any es[k].ty es[k].ver es[k].t P ⟨c0, c1, c2, c3, c4⟩ wr (fun b hb' => Nat.lt_of_lt_of_le (unhide HP b hb') hb.size) (Rep.carry (fun b hb' => hb.block b (unhide HP b hb')) (fun _ h => h) _ _ hrep) hwk)
      have HTY := hide hty; have HVER := hide hver
      clear hrep hcell hpb hwk hty hver
      go_wp2_with fail
      refine (unhide HCALL).mono ?_
      rintro e w' ⟨⟨d0, d1, d2, d3, d4⟩, rfl, hr, hb'⟩
      clear e0 e1 e2 e3 e4 e5 e6 HCALL
      obtain ⟨f, hrow, hf⟩ := HL.out
      have hrow' := hrow.of_block (hb'.block _ hrow.lt)
      have HR' := hide hr; have HB' := hide hb'
      have z0 := hrow'.frozen (k * 7)
      have z1 := hrow'.frozen (k * 7 + 1)
      have z2 := hrow'.frozen (k * 7 + 2)
      have z3 := hrow'.frozen (k * 7 + 3)
      have z4 := hrow'.frozen (k * 7 + 4)
      have z5' := hrow'.frozen (k * 7 + 5)
      have z6 := hrow'.frozen (k * 7 + 6)
      have y0 := hrow'.cell (i := k * 7) (by omega)
      have y1 := hrow'.cell (i := k * 7 + 1) (by omega)
      have y2 := hrow'.cell (i := k * 7 + 2) (by omega)
      have y3 := hrow'.cell (i := k * 7 + 3) (by omega)
      have y4 := hrow'.cell (i := k * 7 + 4) (by omega)
      have y5 := hrow'.cell (i := k * 7 + 5) (by omega)
      have y6 := hrow'.cell (i := k * 7 + 6) (by omega)
      obtain ⟨g0, g1, g2, -, -, -, ⟨a3, cap3, g3, -⟩, a4, cap4, g4, -⟩ := hr.open
      simp only at g0 g1 g2 g3 g4
      subst g0 g1 g2 g3 g4
      clear hf hrow hrow' hr hb'
      go_wp2_with fail
      go_roundw
      case rel =>
        have hst := ELaid.step hlt HL.out HB'.out _ HR'.out (unhide HTY) (unhide HVER)
        have hb3 := hb.trans (HB'.out.mono hb.size)
        refine ⟨k + 1, by omega, by go_num, hst, ?_⟩
        exact ((((((hb3.setCell (Nat.le_refl _) _).setCell (Nat.le_refl _) _).setCell (Nat.le_refl _) _).setCell (Nat.le_refl _) _).setCell (Nat.le_refl _) _).setCell (Nat.le_refl _) _).setCell (Nat.le_refl _) _
      case measure => simp [intOf]; omega
    · go_wp2_with fail
      go_ret
      obtain rfl : k = es.length := by omega
      exact ⟨_, rfl, HL.out.done hlen, hb⟩

set_option maxRecDepth 100000 in
set_option maxHeartbeats 800000 in
theorem eqEventS_any (es : List Ev) (P Q : Nat → Prop) (v u : Value) (w : World) (hP : ∀ b, P b → b < w.heap.size) (hQ : ∀ b, Q b → b < w.heap.size) (hv : EvsAt P w v es) (hu : EvsAt Q w u es) :
    Calls Tryd.prog 19 #[v, u] w fun e w' => e = .returned (.bool true) ∧ Below w.heap.size w w' := by
  obtain ⟨a, cap, rfl, hlen, hc⟩ := hv
  obtain ⟨a2, cap2, rfl, -, hc2⟩ := hu
  have HC := hide hc; clear hc
  have HC2 := hide hc2; clear hc2
  have HP := hide hP; clear hP
  have HQ := hide hQ; clear hQ
  go_enter Tryd.func19, Tryd.ntmps19
  go_wp2_with fail
  go_loopw [5] (fun i wr => ∃ (k : Nat), k ≤ es.length ∧ i = .int .i64 k ∧ Below w.heap.size w wr) (fun i _ => es.length - (intOf i).toNat)
  case atStart => exact ⟨0, Nat.zero_le _, rfl, Below.refl _ _⟩
  case round =>
    obtain ⟨k, hk, rfl, hb⟩ := hrel
    by_cases hlt : k < es.length
    · obtain ⟨b, o, rfl, hpb, c, hcell, hrep, -, -⟩ := unhide HC k hlt
      obtain ⟨b2, o2, rfl, hpb2, d, hcell2, hrep2, -, -⟩ := unhide HC2 k hlt
      have hcell' := hcell.carry (hb.block b (unhide HP b hpb))
      have hcell2' := hcell2.carry (hb.block b2 (unhide HQ b2 hpb2))
      obtain ⟨c0, c1, c2, c3, c4⟩ := c
      obtain ⟨d0, d1, d2, d3, d4⟩ := d
      obtain ⟨e0, e1, e2, e3, e4, e5, e6⟩ := hcell'
      obtain ⟨g0, g1, g2, g3, g4, g5, g6⟩ := hcell2'
      simp only at e0 e1 e2 e3 e4 e5 e6 g0 g1 g2 g3 g4 g5 g6
      have hcall := eqEvent_any es[k].ty es[k].ver es[k].t P Q ⟨c0, c1, c2, c3, c4⟩ ⟨d0, d1, d2, d3, d4⟩ wr.drew (fun b hb' => Nat.lt_of_lt_of_le (unhide HP b hb') hb.size) (fun b hb' => Nat.lt_of_lt_of_le (unhide HQ b hb') hb.size) (Rep.carry (w' := wr.drew) (fun b hb' => hb.drew.block b (unhide HP b hb')) (fun _ h => h) _ _ hrep) (Rep.carry (w' := wr.drew) (fun b hb' => hb.drew.block b (unhide HQ b hb')) (fun _ h => h) _ _ hrep2)
      have HCALL := hide hcall
      clear hrep hcell hpb hrep2 hcell2 hpb2 hcall HC HC2
      go_wp2_with fail
      go_region_with (go_at_call 27; refine (unhide HCALL).mono ?_; rintro e w' ⟨rfl, hb'⟩)
      all_goals
        have hb2 := hb.drew.trans (hb'.mono hb.drew.size)
        go_wp2_with fail
        go_roundw
        case rel => exact ⟨k + 1, by omega, by go_num, hb2⟩
        case measure => simp [intOf]; omega
    · go_wp2_with fail
      go_ret
      exact ⟨rfl, hb⟩

set_option maxRecDepth 100000 in
set_option maxHeartbeats 1600000 in
theorem toRecord_any (pos : Int) (key : ByteArray) (es : List Ev) (P : Nat → Prop) (v : Value) (w : World) (hP : ∀ b, P b → b < w.heap.size) (hv : EvsAt P w v es) (hwt : wE es ≤ 1048576) :
    Calls Tryd.prog 7 #[.agg #[.int .i64 pos, .string key, v]] w fun e w' => ∃ a, e = .returned (.agg #[.int .i64 pos, .string key, .slice a es.length es.length]) ∧ EvsAt (New w w') w' (.slice a es.length es.length) es ∧ Below w.heap.size w w' := by
  have hbx : ∀ o o2 o3, Below w.heap.size w (((w.alloc o).alloc o2).alloc o3) := fun o o2 o3 => (((Below.refl _ _).alloc (Nat.le_refl _) o).alloc (by simp) o2).alloc (by simp; omega) o3
  have HBX := hide hbx
  have HTO := hide (fun (W : World) (hW : Below w.heap.size w W) => toEventS_any es P v W (fun b hb => Nat.lt_of_lt_of_le (hP b hb) hW.size) (hv.carry (fun b hb => hW.block b (hP b hb)) (fun _ h => h)) hwt)
  clear hbx hP hv
  go_enter Tryd.func7, Tryd.ntmps7
  go_wp2_with fail
  refine (unhide HTO _ (by first | exact unhide HBX _ _ _ | exact ((unhide HBX _ _ _).setCell (by simp; omega) _).setCell (by simp; omega) _)).mono ?_
  rintro e w1 ⟨a, rfl, hrx, hb1⟩
  obtain ⟨-, p1, p2, hs1, hb01⟩ := kbox3 hb1
  have hrx' : EvsAt (fun b => w.heap.size + 3 ≤ b ∧ b < w1.heap.size) w1 (.slice a es.length es.length) es :=
    hrx.carry (fun _ _ => rfl) (fun b hb => ⟨by have := hb.1; simpa using this, hb.2⟩)
  have fa := p1.frozen; have fb := p2.frozen
  have a0 := p1.cell (i := 0) (by omega); have a1 := p1.cell (i := 1) (by omega); have a2 := p1.cell (i := 2) (by omega)
  have b0 := p2.cell (i := 0) (by omega); have b1 := p2.cell (i := 1) (by omega); have b2 := p2.cell (i := 2) (by omega)
  simp [row3] at a0 a1 a2 b0 b1 b2
  have HRX := hide hrx'; have HB1 := hide hb01
  clear hrx hrx' hb1 hb01 p1 p2 HTO HBX
  go_wp2_with fail
  refine bodyPost_ret (v := .agg #[.int .i64 pos, .string key, .slice a es.length es.length]) (by simp [results, Tryd.results7, go_sem, a0, a1, a2]) rfl ⟨_, rfl, ?_, ?_⟩
  · refine (unhide HRX).carry (fun b hb => ?_) (fun b hb => ?_)
    · repeat rw [Below.heap_setCell _ _ _ _ (by simp <;> omega)]
    · exact ⟨by omega, by simp only [size_setCell]; omega⟩
  · repeat refine Below.setCell ?_ (by simp <;> omega) _
    exact unhide HB1

set_option maxRecDepth 100000 in
set_option maxHeartbeats 800000 in
theorem eqRecord_any (pos : Int) (key : ByteArray) (es : List Ev) (P Q : Nat → Prop) (v u : Value) (w : World) (hP : ∀ b, P b → b < w.heap.size) (hQ : ∀ b, Q b → b < w.heap.size) (hv : EvsAt P w v es) (hu : EvsAt Q w u es) :
    Calls Tryd.prog 9 #[.agg #[.int .i64 pos, .string key, v], .agg #[.int .i64 pos, .string key, u]] w fun e w' => e = .returned (.bool true) ∧ Below w.heap.size w w' := by
  have hbx : ∀ o o2, Below w.heap.size w ((w.alloc o).alloc o2) := fun o o2 => ((Below.refl _ _).alloc (Nat.le_refl _) o).alloc (by simp) o2
  have hcall := fun (W : World) (hW : Below w.heap.size w W) => eqEventS_any es P Q v u W (fun b hb => Nat.lt_of_lt_of_le (hP b hb) hW.size) (fun b hb => Nat.lt_of_lt_of_le (hQ b hb) hW.size) (hv.carry (fun b hb => hW.block b (hP b hb)) (fun _ h => h)) (hu.carry (fun b hb => hW.block b (hQ b hb)) (fun _ h => h))
  have HBX := hide hbx; have HCALL := hide hcall
  clear hbx hcall hP hQ hv hu
  go_enter Tryd.func9, Tryd.ntmps9
  go_wp2_with fail
  refine (unhide HCALL _ (unhide HBX _ _)).mono ?_
  rintro e w1 ⟨rfl, hb1⟩
  have hb2 := (unhide HBX _ _).trans (hb1.mono (unhide HBX _ _).size)
  have HB := hide hb2
  clear hb1 hb2
  go_wp2_with fail
  go_ret
  exact ⟨rfl, unhide HB⟩
end Go.Proofs.YtbigchdhpdgicaaDoor

/- The walks of the laws on RecOk, RecPack: whatever record comes in, they answer true, and turn nothing that was there. The table treeFields is as the program lays it. -/

namespace Go.Proofs.YtbigchdhpdgicaaDoor
open Go Go.RowKit

set_option maxRecDepth 100000 in
set_option maxHeartbeats 6400000 in
theorem lawRecOk_any (pos : Int) (key : ByteArray) (es : List Ev) (P : Nat → Prop) (v : Value) (w : World) (hP : ∀ b, P b → b < w.heap.size) (hv : EvsAt P w v es) (hk : key.size ≤ 9223372036854775807) (hT : Tab w) :
    Calls Tryd.prog 3 #[.agg #[.int .i64 pos, .string key, v]] w fun e w' => e = .returned (.bool true) ∧ Below w.heap.size w w' := by
  have hcar := fun (W : World) (hW : Below w.heap.size w W) => (⟨fun b hb => Nat.lt_of_lt_of_le (hP b hb) hW.size, hv.carry (fun b hb => hW.block b (hP b hb)) (fun _ h => h)⟩ : (∀ b, P b → b < W.heap.size) ∧ EvsAt P W v es)
  have HZ := hide (fun (W : World) (hW : Below w.heap.size w W) (l : Int) (h0 : 0 ≤ l) (h1 : l ≤ 1048576) => szRecord_any pos key es P v l W (hcar W hW).1 (hcar W hW).2 hk h0 h1)
  have HTO := hide (fun (W : World) (hW : Below w.heap.size w W) (hwt : wE es ≤ 1048576) => toRecord_any pos key es P v W (hcar W hW).1 (hcar W hW).2 hwt)
  have HIM := hide (fun (W : World) (hW : Below w.heap.size w W) (Q : Nat → Prop) (u : Value) (hQ : ∀ b, Q b → b < W.heap.size) (hr : EvsAt Q W u es) => implRecOk_any pos key es Q u W hQ hr hk (hT.of_block (hW.block 0 hT.lt)))
  have HSP := hide (fun (W : World) (Q : Nat → Prop) (u : Value) (hQ : ∀ b, Q b → b < W.heap.size) (hr : EvsAt Q W u es) => specRecOk_any pos key es Q u W hQ hr hk)
  have hbx : ∀ (W : World) o, Below W.heap.size W (W.alloc o) := fun W o => (Below.refl _ _).alloc (Nat.le_refl _) o
  have HBX := hide hbx
  obtain ⟨a, cap, rfl, -, -⟩ := hv
  generalize recOkB pos key es = R at *
  clear hcar hbx hP hT
  go_enter Tryd.func3, Tryd.ntmps3
  go_wp2_with fail
  refine (unhide HZ _ (unhide HBX _ _) _ (by omega) (by omega)).mono ?_
  rintro e w1 ⟨r, rfl, hr, hb1⟩
  obtain ⟨q1, hs1, hb01⟩ := kbox1 hb1
  clear hb1 HZ
  rcases hr with rfl | ⟨hr0, hr1⟩
  · have HB := hide hb01; clear hb01 q1
    go_wp2_with fail
    go_ret
    exact ⟨rfl, unhide HB⟩
  have hwt : wE es ≤ 1048576 := by omega
  have k0 := q1.cell (i := 0) (by omega); have k1 := q1.cell (i := 1) (by omega); have k2 := q1.cell (i := 2) (by omega)
  simp only [row3] at k0 k1 k2
  have Q1 := hide q1; have HB1 := hide hb01; have HWT := hide hwt
  clear q1 hb01 hwt hr1
  go_wp2_with fail
  refine (unhide HTO _ (unhide HB1) (unhide HWT)).mono ?_
  rintro e w2 ⟨a2, rfl, hrd, hb2⟩
  clear k0 k1 k2
  have hs2 := hb2.size
  have HS := hide (unhide HSP w2 _ _ (fun b hb => hb.2) hrd)
  have Q2 := hide ((unhide Q1).of_block (hb2.block _ (by omega))); have HB2 := hide ((unhide HB1).trans (hb2.mono (unhide HB1).size))
  clear hrd hb2 Q1 HB1 HSP
  go_wp2_with fail
  refine (unhide HS).mono ?_
  rintro e w3 ⟨rfl, hb3⟩
  have hs3 := hb3.size
  have q3 := (unhide Q2).of_block (hb3.block _ (by omega)); have hb03 := (unhide HB2).trans (hb3.mono (unhide HB2).size)
  have k0 := q3.cell (i := 0) (by omega); have k1 := q3.cell (i := 1) (by omega); have k2 := q3.cell (i := 2) (by omega)
  simp only [row3] at k0 k1 k2
  have Q3 := hide q3; have HB3 := hide hb03
  clear q3 hb03 hb3 HS Q2 HB2
  go_wp2_with fail
  refine (unhide HTO _ (unhide HB3) (unhide HWT)).mono ?_
  rintro e w4 ⟨a4, rfl, hrx, hb4⟩
  clear k0 k1 k2
  have hs4 := hb4.size
  have q4 := (unhide Q3).of_block (hb4.block _ (by omega)); have hb04 := (unhide HB3).trans (hb4.mono (unhide HB3).size)
  have HI := hide (fun o => unhide HIM (w4.alloc o) (hb04.trans ((unhide HBX w4 o).mono hb04.size)) _ _ (fun b hb => Nat.lt_of_lt_of_le hb.2 (unhide HBX w4 o).size) (hrx.carry (fun b hb => (unhide HBX w4 o).block b hb.2) (fun _ h => h)))
  have HRX := hide hrx; have Q4 := hide q4; have HB4 := hide hb04
  clear hrx q4 hb04 hb4 Q3 HB3
  go_wp2_with fail
  refine (unhide HI _).mono ?_
  rintro e w5 ⟨rfl, hb5⟩
  obtain ⟨pX, hsX, hb45⟩ := kbox1 hb5
  have q5 := (unhide Q4).of_block (hb45.block _ (by omega))
  have hb05 := (unhide HB4).trans (hb45.mono (unhide HB4).size)
  have hrx5 : EvsAt (New w3 w4) w5 (.slice a4 es.length es.length) es := (unhide HRX).carry (fun b hb => hb45.block b hb.2) (fun _ h => h)
  have k0 := q5.cell (i := 0) (by omega); have k1 := q5.cell (i := 1) (by omega); have k2 := q5.cell (i := 2) (by omega)
  have j0 := pX.cell (i := 0) (by omega); have j1 := pX.cell (i := 1) (by omega); have j2 := pX.cell (i := 2) (by omega)
  simp only [row3] at k0 k1 k2 j0 j1 j2
  have PX := hide pX; have HB5 := hide hb05; have HRX5 := hide hrx5
  clear pX q5 hb05 hrx5 hb5 hb45 HI Q4 HB4 HRX
  go_wp2_with fail
  go_region_with (first
      | (go_at_call 7
         refine (unhide HTO w5.drew (unhide HB5).drew (unhide HWT)).mono ?_
         rintro e w7 ⟨a7, rfl, hry, hb7⟩
         have hb57 : Below w5.heap.size w5 w7 := (Below.refl _ w5).drew.trans hb7
         have pX7 := (unhide PX).of_block (hb57.block _ (unhide PX).lt)
         have i0 := pX7.cell (i := 0) (by omega)
         have i1 := pX7.cell (i := 1) (by omega)
         have i2 := pX7.cell (i := 2) (by omega)
         simp only [row3] at i0 i1 i2
         have HB7 := hide ((unhide HB5).trans (hb57.mono (unhide HB5).size))
         have HEK := hide (eqRecord_any pos key es (New w3 w4) (New w5.drew w7) _ _ w7 (fun b hb => by have h1 := hb.2; have h2 := hb57.size; omega) (fun b hb => hb.2) ((unhide HRX5).carry (fun b hb => hb57.block b (by have h1 := hb.2; omega)) (fun _ h => h)) hry)
         clear pX7 hry hb7 hb57)
      | (go_at_call 9
         refine (unhide HEK).mono ?_
         rintro e w8 ⟨rfl, hb8⟩
         have HB8 := hide ((unhide HB7).trans (hb8.mono (unhide HB7).size))
         clear hb8))
  all_goals
    go_wp2_with fail
    go_ret
    exact ⟨rfl, unhide HB8⟩

set_option maxRecDepth 100000 in
set_option maxHeartbeats 6400000 in
theorem lawRecPack_any (pos : Int) (key : ByteArray) (es : List Ev) (P : Nat → Prop) (v : Value) (w : World) (hP : ∀ b, P b → b < w.heap.size) (hv : EvsAt P w v es) (hk : key.size ≤ 9223372036854775807) (hT : Tab w) :
    Calls Tryd.prog 4 #[.agg #[.int .i64 pos, .string key, v]] w fun e w' => e = .returned (.bool true) ∧ Below w.heap.size w w' := by
  have hcar := fun (W : World) (hW : Below w.heap.size w W) => (⟨fun b hb => Nat.lt_of_lt_of_le (hP b hb) hW.size, hv.carry (fun b hb => hW.block b (hP b hb)) (fun _ h => h)⟩ : (∀ b, P b → b < W.heap.size) ∧ EvsAt P W v es)
  have HZ := hide (fun (W : World) (hW : Below w.heap.size w W) (l : Int) (h0 : 0 ≤ l) (h1 : l ≤ 1048576) => szRecord_any pos key es P v l W (hcar W hW).1 (hcar W hW).2 hk h0 h1)
  have HTO := hide (fun (W : World) (hW : Below w.heap.size w W) (hwt : wE es ≤ 1048576) => toRecord_any pos key es P v W (hcar W hW).1 (hcar W hW).2 hwt)
  have HIM := hide (fun (W : World) (hW : Below w.heap.size w W) (Q : Nat → Prop) (u : Value) (hQ : ∀ b, Q b → b < W.heap.size) (hr : EvsAt Q W u es) => implRecPack_any pos key es Q u W hQ hr hk (hT.of_block (hW.block 0 hT.lt)))
  have HSP := hide (fun (W : World) (Q : Nat → Prop) (u : Value) (hQ : ∀ b, Q b → b < W.heap.size) (hr : EvsAt Q W u es) => specRecPack_any pos key es Q u W hQ hr hk)
  have hbx : ∀ (W : World) o, Below W.heap.size W (W.alloc o) := fun W o => (Below.refl _ _).alloc (Nat.le_refl _) o
  have HBX := hide hbx
  obtain ⟨a, cap, rfl, -, -⟩ := hv
  generalize bA (recPackB pos key es) = R at *
  clear hcar hbx hP hT
  go_enter Tryd.func4, Tryd.ntmps4
  go_wp2_with fail
  refine (unhide HZ _ (unhide HBX _ _) _ (by omega) (by omega)).mono ?_
  rintro e w1 ⟨r, rfl, hr, hb1⟩
  obtain ⟨q1, hs1, hb01⟩ := kbox1 hb1
  clear hb1 HZ
  rcases hr with rfl | ⟨hr0, hr1⟩
  · have HB := hide hb01; clear hb01 q1
    go_wp2_with fail
    go_ret
    exact ⟨rfl, unhide HB⟩
  have hwt : wE es ≤ 1048576 := by omega
  have k0 := q1.cell (i := 0) (by omega); have k1 := q1.cell (i := 1) (by omega); have k2 := q1.cell (i := 2) (by omega)
  simp only [row3] at k0 k1 k2
  have Q1 := hide q1; have HB1 := hide hb01; have HWT := hide hwt
  clear q1 hb01 hwt hr1
  go_wp2_with fail
  refine (unhide HTO _ (unhide HB1) (unhide HWT)).mono ?_
  rintro e w2 ⟨a2, rfl, hrd, hb2⟩
  clear k0 k1 k2
  have hs2 := hb2.size
  have HS := hide (unhide HSP w2 _ _ (fun b hb => hb.2) hrd)
  have Q2 := hide ((unhide Q1).of_block (hb2.block _ (by omega))); have HB2 := hide ((unhide HB1).trans (hb2.mono (unhide HB1).size))
  clear hrd hb2 Q1 HB1 HSP
  go_wp2_with fail
  refine (unhide HS).mono ?_
  rintro e w3 ⟨rfl, hb3⟩
  have hs3 := hb3.size
  have q3 := (unhide Q2).of_block (hb3.block _ (by omega)); have hb03 := (unhide HB2).trans (hb3.mono (unhide HB2).size)
  have k0 := q3.cell (i := 0) (by omega); have k1 := q3.cell (i := 1) (by omega); have k2 := q3.cell (i := 2) (by omega)
  simp only [row3] at k0 k1 k2
  have Q3 := hide q3; have HB3 := hide hb03
  clear q3 hb03 hb3 HS Q2 HB2
  go_wp2_with fail
  refine (unhide HTO _ (unhide HB3) (unhide HWT)).mono ?_
  rintro e w4 ⟨a4, rfl, hrx, hb4⟩
  clear k0 k1 k2
  have hs4 := hb4.size
  have q4 := (unhide Q3).of_block (hb4.block _ (by omega)); have hb04 := (unhide HB3).trans (hb4.mono (unhide HB3).size)
  have HI := hide (fun o => unhide HIM (w4.alloc o) (hb04.trans ((unhide HBX w4 o).mono hb04.size)) _ _ (fun b hb => Nat.lt_of_lt_of_le hb.2 (unhide HBX w4 o).size) (hrx.carry (fun b hb => (unhide HBX w4 o).block b hb.2) (fun _ h => h)))
  have HRX := hide hrx; have Q4 := hide q4; have HB4 := hide hb04
  clear hrx q4 hb04 hb4 Q3 HB3
  go_wp2_with fail
  refine (unhide HI _).mono ?_
  rintro e w5 ⟨rfl, hb5⟩
  obtain ⟨pX, hsX, hb45⟩ := kbox1 hb5
  have q5 := (unhide Q4).of_block (hb45.block _ (by omega))
  have hb05 := (unhide HB4).trans (hb45.mono (unhide HB4).size)
  have hrx5 : EvsAt (New w3 w4) w5 (.slice a4 es.length es.length) es := (unhide HRX).carry (fun b hb => hb45.block b hb.2) (fun _ h => h)
  have k0 := q5.cell (i := 0) (by omega); have k1 := q5.cell (i := 1) (by omega); have k2 := q5.cell (i := 2) (by omega)
  have j0 := pX.cell (i := 0) (by omega); have j1 := pX.cell (i := 1) (by omega); have j2 := pX.cell (i := 2) (by omega)
  simp only [row3] at k0 k1 k2 j0 j1 j2
  have PX := hide pX; have HB5 := hide hb05; have HRX5 := hide hrx5
  clear pX q5 hb05 hrx5 hb5 hb45 HI Q4 HB4 HRX
  go_wp2_with fail
  go_region_with (first
      | (go_at_call 7
         refine (unhide HTO w5.drew (unhide HB5).drew (unhide HWT)).mono ?_
         rintro e w7 ⟨a7, rfl, hry, hb7⟩
         have hb57 : Below w5.heap.size w5 w7 := (Below.refl _ w5).drew.trans hb7
         have pX7 := (unhide PX).of_block (hb57.block _ (unhide PX).lt)
         have i0 := pX7.cell (i := 0) (by omega)
         have i1 := pX7.cell (i := 1) (by omega)
         have i2 := pX7.cell (i := 2) (by omega)
         simp only [row3] at i0 i1 i2
         have HB7 := hide ((unhide HB5).trans (hb57.mono (unhide HB5).size))
         have HEK := hide (eqRecord_any pos key es (New w3 w4) (New w5.drew w7) _ _ w7 (fun b hb => by have h1 := hb.2; have h2 := hb57.size; omega) (fun b hb => hb.2) ((unhide HRX5).carry (fun b hb => hb57.block b (by have h1 := hb.2; omega)) (fun _ h => h)) hry)
         clear pX7 hry hb7 hb57)
      | (go_at_call 9
         refine (unhide HEK).mono ?_
         rintro e w8 ⟨rfl, hb8⟩
         have HB8 := hide ((unhide HB7).trans (hb8.mono (unhide HB7).size))
         clear hb8))
  all_goals
    go_wp2_with fail
    go_ret
    exact ⟨rfl, unhide HB8⟩
end Go.Proofs.YtbigchdhpdgicaaDoor

/- What is read of a list of strings that comes in is one that lies in memory. No conditions. -/

namespace Go.Proofs.YtbigchdhpdgicaaDoor
open Go Go.RowKit Go.ChangeShapes Go.WideShapes Go.ChangeAt Go.Deep

theorem cellsStr : Tryd.prog.cellsOf 9 = 1 := by kernel_rfl

section
variable {H : Type} {enc : TypeId × Value → H} {W : World} {spare : Nat → Bool} {held : Bool}

theorem strs_of_trod {fuel : Nat} {v : Value} {x : DataW H × List MemPlace} (h : DataW.trod enc Tryd.prog W 0 spare held fuel 38 [v] = some x) :
    ∃ ss, StrsAt (fun b => b < W.heap.size) W v ss := by
  rcases open_strings Tryd.underlying38 Tryd.underlying9 cellsStr h with ⟨hcs, -⟩ | ⟨a, len, cap, ss, hcs, -, hl, hm, hz, -, hcell, hws⟩
  · simp only [List.cons.injEq, and_true] at hcs
    exact ⟨[], none, 0, hcs, by simp, fun i hi => by simp at hi⟩
  · simp only [List.cons.injEq, and_true] at hcs
    have hle : len ≤ ss.length := by rw [hz]; split <;> omega
    unfold maxLen at hm
    refine ⟨ss.take len, some a, cap, by rw [hcs]; simp; omega, by simp; omega, fun i hi => ?_⟩
    have hi' : i < len := by simp at hi; omega
    obtain ⟨b, off, spot⟩ := a
    have hspot : spot = none := by simpa [Addr.add] using World.cell?_spot (hcell 0 (by omega))
    subst hspot
    have hc := hcell i (by omega)
    rw [Addr.add_lit] at hc
    refine ⟨b, off, rfl, World.block_lt_of_cell? W _ hc, ?_, ?_⟩
    · rw [hc]; simp [show i < ss.length by omega]
    · have := hws ss[i] (List.getElem_mem (by omega)); unfold maxLen at this; simpa using this
end
end Go.Proofs.YtbigchdhpdgicaaDoor

/- What is read of a tree that comes in is a tree that lies in memory. No conditions. -/

namespace Go.Proofs.YtbigchdhpdgicaaDoor
open Go Go.RowKit Go.ChangeShapes Go.WideShapes Go.ChangeAt Go.Deep

theorem cellsTree : Tryd.prog.cellsOf 51 = 5 := by kernel_rfl
theorem oneTree : ∃ fs : Array Field, Tryd.prog.underlying 51 = some (.struct fs) ∧ oneCellFields Tryd.prog fs = true ∧ fs.map (·.type) = #[3, 3, 9, 38, 49] := ⟨_, Tryd.underlying51, by kernel_rfl, by kernel_rfl⟩

section
variable {H : Type} {enc : TypeId × Value → H} {W : World} {spare : Nat → Bool} {held : Bool}

set_option maxRecDepth 100000 in
theorem rep_of_trod : ∀ (fuel : Nat) (cs : List Value) (x : DataW H × List MemPlace), DataW.trod enc Tryd.prog W 0 spare held fuel 51 cs = some x →
    ∃ (t : Tr) (c : C5), cs = [c.c0, c.c1, c.c2, c.c3, c.c4] ∧ Rep (fun b => b < W.heap.size) W t c := by
  intro fuel
  induction fuel using Nat.strongRecOn with
  | ind fuel ih =>
    intro cs x h
    obtain ⟨fs, hu, hone, hty⟩ := oneTree
    obtain ⟨xs, n, hn, -, hlen, hxl, hf⟩ := DataW.trod_struct hu h
    rw [cellsTree] at hlen
    match cs, hlen with
    | [c0, c1, c2, c3, c4], _ =>
      have hsz : fs.size = 5 := by have := congrArg Array.size hty; simpa using this
      have hfield : ∀ (i : Nat) (T : TypeId), i < 5 → (#[3, 3, 9, 38, 49] : Array TypeId)[i]? = some T → ∃ y, DataW.trod enc Tryd.prog W 0 spare held n T (([c0, c1, c2, c3, c4].drop i).take 1) = some y := by
        intro i T hi hT
        have hfi : fs[i]? = some (fs[i]'(by omega)) := Array.getElem?_eq_getElem (by omega)
        obtain ⟨ho, hc⟩ := hone_of hone i _ hfi
        have := hf i _ hfi
        rw [ho, hc] at this
        have hTT : (fs[i]'(by omega)).type = T := by
          rw [← hty] at hT
          simpa [hsz, hi] using hT
        rw [hTT] at this
        exact ⟨xs[i]'(by omega), by rw [this]; exact List.getElem?_eq_getElem (by omega)⟩
      obtain ⟨y0, h0⟩ := hfield 0 _ (by omega) rfl
      obtain ⟨y1, h1⟩ := hfield 1 _ (by omega) rfl
      obtain ⟨y2, h2⟩ := hfield 2 _ (by omega) rfl
      obtain ⟨y3, h3⟩ := hfield 3 _ (by omega) rfl
      obtain ⟨y4, h4⟩ := hfield 4 _ (by omega) rfl
      simp only [List.drop_succ_cons, List.drop_zero, List.take_succ_cons, List.take_zero] at h0 h1 h2 h3 h4
      obtain ⟨s, e0, -, w0⟩ := DataW.trod_int Tryd.underlying3 h0
      obtain ⟨m, e1, -, w1⟩ := DataW.trod_int Tryd.underlying3 h1
      obtain ⟨tx, e2, -, w2⟩ := DataW.trod_string Tryd.underlying9 h2
      obtain ⟨ss, h3'⟩ := strs_of_trod h3
      simp only [List.cons.injEq, and_true] at e0 e1 e2
      have hw0 : I64 s := by have := bounds_i64 w0; exact ⟨by omega, by omega⟩
      have hw1 : I64 m := by have := bounds_i64 w1; exact ⟨by omega, by omega⟩
      unfold maxLen at w2
      rcases DataW.trod_slice Tryd.underlying49 h4 with ⟨hcs, -⟩ | ⟨a, len, cap, elems, rest, n', hn', hcs, -, -, hl, hm, hel, hget, -⟩
      · simp only [List.cons.injEq, and_true] at hcs
        refine ⟨.mk s m tx ss [], ⟨c0, c1, c2, c3, c4⟩, rfl, ?_⟩
        rw [Rep]
        exact ⟨e0, e1, e2, hw0, hw1, by simpa using w2, h3', none, 0, hcs, by simp, fun h => absurd rfl h⟩
      · simp only [List.cons.injEq, and_true] at hcs
        unfold maxLen at hm
        rw [cellsTree] at hget
        have hspot : 0 < len → a.spot = none := fun h0 => by
          have hgi := hget 0 h0
          rw [List.getElem?_eq_getElem (by omega)] at hgi
          obtain ⟨cs', hcs', htr⟩ := Option.bind_eq_some_iff.1 hgi
          obtain ⟨-, hl5, hcell⟩ := World.cells?_some hcs'
          have hc0 := hcell 0 (by omega)
          rw [List.getElem?_eq_getElem (by omega)] at hc0
          simpa [Addr.add] using World.cell?_spot hc0
        have hkid : ∀ i, i < len → ∃ (t : Tr) (c : C5), (∃ b o, a = ⟨b, o, none⟩ ∧ b < W.heap.size ∧ C5.at W b (o + i * 5) c) ∧ Rep (fun b => b < W.heap.size) W t c := by
          intro i hi
          have hgi := hget i hi
          rw [List.getElem?_eq_getElem (by omega)] at hgi
          obtain ⟨cs', hcs', htr⟩ := Option.bind_eq_some_iff.1 hgi
          obtain ⟨t, c, rfl, hrep⟩ := ih n' (by omega) cs' _ htr
          obtain ⟨-, -, hcell⟩ := World.cells?_some hcs'
          obtain ⟨b, off, spot⟩ := a
          have hsp : spot = none := hspot (by omega)
          subst hsp
          have hc0 := hcell 0 (by omega)
          have hc1 := hcell 1 (by omega); have hc2 := hcell 2 (by omega); have hc3 := hcell 3 (by omega); have hc4 := hcell 4 (by omega)
          simp only [Addr.add_lit, List.getElem?_cons_zero, List.getElem?_cons_succ, Nat.add_zero] at hc0 hc1 hc2 hc3 hc4
          exact ⟨t, c, ⟨b, off, rfl, World.block_lt_of_cell? W _ hc0, hc0, hc1, hc2, hc3, hc4⟩, hrep⟩
        obtain ⟨K, hK⟩ : ∃ K : Nat → Tr, ∀ i, i < len → ∃ c : C5, (∃ b o, a = ⟨b, o, none⟩ ∧ b < W.heap.size ∧ C5.at W b (o + i * 5) c) ∧ Rep (fun b => b < W.heap.size) W (K i) c :=
          ⟨fun i => if h : i < len then (hkid i h).choose else .mk 0 0 tx [] [], fun i hi => by simp only [hi, dif_pos]; exact (hkid i hi).choose_spec⟩
        refine ⟨.mk s m tx ss ((List.range len).map K), ⟨c0, c1, c2, c3, c4⟩, rfl, ?_⟩
        rw [Rep]
        refine ⟨e0, e1, e2, hw0, hw1, by simpa using w2, h3', some a, cap, by simpa using hcs, by simp; omega, fun hne => ?_⟩
        have h0len : 0 < len := by
          rcases Nat.eq_zero_or_pos len with h | h
          · subst h; exact absurd rfl hne
          · exact h
        obtain ⟨_, ⟨b, o, ha, hb, -⟩, -⟩ := hK 0 h0len
        subst ha
        refine ⟨b, o, rfl, hb, RepK.mk fun i hi => ?_⟩
        have hi' : i < len := by simpa using hi
        obtain ⟨c, ⟨b', o', ha', -, hat⟩, hr⟩ := hK i hi'
        simp only [Addr.mk.injEq, and_true] at ha'
        obtain ⟨rfl, rfl⟩ := ha'
        exact ⟨c, hat, by simpa using hr⟩
end
end Go.Proofs.YtbigchdhpdgicaaDoor

/- What is read of an event that comes in is an event that lies in memory. No conditions. -/

namespace Go.Proofs.YtbigchdhpdgicaaDoor
open Go Go.RowKit Go.ChangeShapes Go.WideShapes Go.ChangeAt Go.Deep

theorem cellsEvent : Tryd.prog.cellsOf 53 = 7 := by kernel_rfl
theorem cellsStr1 : Tryd.prog.cellsOf 9 = 1 := by kernel_rfl
theorem cellsInt1 : Tryd.prog.cellsOf 3 = 1 := by kernel_rfl
theorem fieldsEvent : ∃ fs : Array Field, Tryd.prog.underlying 53 = some (.struct fs) ∧ fs.size = 3 ∧ (fs[0]?).map (fun f => (f.type, f.offset)) = some (9, 0) ∧ (fs[1]?).map (fun f => (f.type, f.offset)) = some (3, 1) ∧ (fs[2]?).map (fun f => (f.type, f.offset)) = some (51, 2) := ⟨_, Tryd.underlying53, by kernel_rfl, by kernel_rfl, by kernel_rfl, by kernel_rfl⟩

section
variable {H : Type} {enc : TypeId × Value → H} {W : World} {spare : Nat → Bool} {held : Bool}

set_option maxRecDepth 100000 in
theorem event_of_trod {fuel : Nat} {cs : List Value} {x : DataW H × List MemPlace} (h : DataW.trod enc Tryd.prog W 0 spare held fuel 53 cs = some x) :
    ∃ (ty : ByteArray) (ver : Int) (t : Tr) (c : C5), cs = [.string ty, .int .i64 ver, c.c0, c.c1, c.c2, c.c3, c.c4] ∧ ty.size ≤ 9223372036854775807 ∧ I64 ver ∧ Rep (fun b => b < W.heap.size) W t c := by
  obtain ⟨fs, hu, hsz, f0, f1, f2⟩ := fieldsEvent
  obtain ⟨xs, n, hn, hx, hlen, hxl, hf⟩ := DataW.trod_struct hu h
  rw [cellsEvent] at hlen
  match cs, hlen with
  | [a, b, c0, c1, c2, c3, c4], _ =>
    simp only [Option.map_eq_some_iff, Prod.mk.injEq] at f0 f1 f2
    obtain ⟨g0, h0, t0, o0⟩ := f0
    obtain ⟨g1, h1, t1, o1⟩ := f1
    obtain ⟨g2, h2, t2, o2⟩ := f2
    have e0 := hf 0 _ h0
    have e1 := hf 1 _ h1
    have e2 := hf 2 _ h2
    rw [t0, o0, cellsStr1, List.getElem?_eq_getElem (by omega)] at e0
    rw [t1, o1, cellsInt1, List.getElem?_eq_getElem (by omega)] at e1
    rw [t2, o2, cellsTree, List.getElem?_eq_getElem (by omega)] at e2
    simp only [List.drop_succ_cons, List.drop_zero, List.take_succ_cons, List.take_zero] at e0 e1 e2
    obtain ⟨ty, r0, -, w0⟩ := DataW.trod_string Tryd.underlying9 e0
    obtain ⟨ver, r1, -, w1⟩ := DataW.trod_int Tryd.underlying3 e1
    obtain ⟨t, c, r2, hrep⟩ := rep_of_trod n _ _ e2
    simp only [List.cons.injEq, and_true] at r0 r1
    subst r0 r1
    unfold maxLen at w0
    refine ⟨ty, ver, t, c, by rw [r2], by simpa using w0, ?_, hrep⟩
    have := bounds_i64 w1
    exact ⟨by omega, by omega⟩
end
end Go.Proofs.YtbigchdhpdgicaaDoor

/- What is read of a record that comes in is a record that lies in memory. No conditions. -/

namespace Go.Proofs.YtbigchdhpdgicaaDoor
open Go Go.RowKit Go.ChangeShapes Go.WideShapes Go.ChangeAt Go.Deep

theorem cellsRecord : Tryd.prog.cellsOf 24 = 3 := by kernel_rfl
theorem oneRecord : ∃ fs : Array Field, Tryd.prog.underlying 24 = some (.struct fs) ∧ oneCellFields Tryd.prog fs = true ∧ fs.map (·.type) = #[3, 9, 22] := ⟨_, Tryd.underlying24, by kernel_rfl, by kernel_rfl⟩

section
variable {H : Type} {enc : TypeId × Value → H} {W : World} {spare : Nat → Bool} {held : Bool}

set_option maxRecDepth 100000 in
theorem evs_of_trod {fuel : Nat} {v : Value} {x : DataW H × List MemPlace} (h : DataW.trod enc Tryd.prog W 0 spare held fuel 22 [v] = some x) :
    ∃ es : List Ev, EvsAt (fun b => b < W.heap.size) W v es := by
  rcases DataW.trod_slice Tryd.underlying22 h with ⟨hcs, -⟩ | ⟨a, len, cap, elems, rest, n', hn', hcs, -, -, hl, hm, hel, hget, -⟩
  · simp only [List.cons.injEq, and_true] at hcs
    exact ⟨[], none, 0, hcs, by simp, fun i hi => by simp at hi⟩
  · simp only [List.cons.injEq, and_true] at hcs
    unfold maxLen at hm
    rw [cellsEvent] at hget
    have hspot : 0 < len → a.spot = none := fun h0 => by
      have hgi := hget 0 h0
      rw [List.getElem?_eq_getElem (by omega)] at hgi
      obtain ⟨cs', hcs', htr⟩ := Option.bind_eq_some_iff.1 hgi
      obtain ⟨-, hl5, hcell⟩ := World.cells?_some hcs'
      have hc0 := hcell 0 (by omega)
      rw [List.getElem?_eq_getElem (by omega)] at hc0
      simpa [Addr.add] using World.cell?_spot hc0
    have hkid : ∀ i, i < len → ∃ e : Ev, ∃ b o, a = ⟨b, o, none⟩ ∧ b < W.heap.size ∧ EvOne (fun b => b < W.heap.size) W b (o + i * 7) e := by
      intro i hi
      have hgi := hget i hi
      rw [List.getElem?_eq_getElem (by omega)] at hgi
      obtain ⟨cs', hcs', htr⟩ := Option.bind_eq_some_iff.1 hgi
      obtain ⟨ty, ver, t, c, rfl, hty, hver, hrep⟩ := event_of_trod htr
      obtain ⟨-, -, hcell⟩ := World.cells?_some hcs'
      obtain ⟨b, off, spot⟩ := a
      have hsp : spot = none := hspot (by omega)
      subst hsp
      have hc0 := hcell 0 (by omega)
      have hc1 := hcell 1 (by omega); have hc2 := hcell 2 (by omega); have hc3 := hcell 3 (by omega); have hc4 := hcell 4 (by omega); have hc5 := hcell 5 (by omega); have hc6 := hcell 6 (by omega)
      simp only [Addr.add_lit, List.getElem?_cons_zero, List.getElem?_cons_succ, Nat.add_zero] at hc0 hc1 hc2 hc3 hc4 hc5 hc6
      exact ⟨⟨ty, ver, t⟩, b, off, rfl, World.block_lt_of_cell? W _ hc0, c, ⟨hc0, hc1, hc2, hc3, hc4, hc5, hc6⟩, hrep, hty, hver⟩
    obtain ⟨K, hK⟩ : ∃ K : Nat → Ev, ∀ i, i < len → ∃ b o, a = ⟨b, o, none⟩ ∧ b < W.heap.size ∧ EvOne (fun b => b < W.heap.size) W b (o + i * 7) (K i) :=
      ⟨fun i => if h : i < len then (hkid i h).choose else ⟨ByteArray.empty, 0, .mk 0 0 ByteArray.empty [] []⟩, fun i hi => by simp only [hi, dif_pos]; exact (hkid i hi).choose_spec⟩
    refine ⟨(List.range len).map K, some a, cap, by simpa using hcs, by simp; omega, fun i hi => ?_⟩
    have hi' : i < len := by simpa using hi
    obtain ⟨b, o, ha, hb, hj⟩ := hK i hi'
    exact ⟨b, o, by rw [ha], hb, by simpa using hj⟩

set_option maxRecDepth 100000 in
theorem record_of_trod {fuel : Nat} {cs : List Value} {x : DataW H × List MemPlace} (h : DataW.trod enc Tryd.prog W 0 spare held fuel 24 cs = some x) :
    ∃ (pos : Int) (key : ByteArray) (v : Value) (es : List Ev), cs = [.int .i64 pos, .string key, v] ∧ key.size ≤ 9223372036854775807 ∧ I64 pos ∧ EvsAt (fun b => b < W.heap.size) W v es := by
  obtain ⟨fs, hu, hone, hty⟩ := oneRecord
  obtain ⟨xs, n, hn, -, hlen, hxl, hf⟩ := DataW.trod_struct hu h
  rw [cellsRecord] at hlen
  match cs, hlen with
  | [c0, c1, c2], _ =>
    have hsz : fs.size = 3 := by have := congrArg Array.size hty; simpa using this
    have hfield : ∀ (i : Nat) (T : TypeId), i < 3 → (#[3, 9, 22] : Array TypeId)[i]? = some T → ∃ y, DataW.trod enc Tryd.prog W 0 spare held n T (([c0, c1, c2].drop i).take 1) = some y := by
      intro i T hi hT
      have hfi : fs[i]? = some (fs[i]'(by omega)) := Array.getElem?_eq_getElem (by omega)
      obtain ⟨ho, hc⟩ := hone_of hone i _ hfi
      have := hf i _ hfi
      rw [ho, hc] at this
      have hTT : (fs[i]'(by omega)).type = T := by
        rw [← hty] at hT
        simpa [hsz, hi] using hT
      rw [hTT] at this
      exact ⟨xs[i]'(by omega), by rw [this]; exact List.getElem?_eq_getElem (by omega)⟩
    obtain ⟨y0, h0⟩ := hfield 0 _ (by omega) rfl
    obtain ⟨y1, h1⟩ := hfield 1 _ (by omega) rfl
    obtain ⟨y2, h2⟩ := hfield 2 _ (by omega) rfl
    simp only [List.drop_succ_cons, List.drop_zero, List.take_succ_cons, List.take_zero] at h0 h1 h2
    obtain ⟨p, e0, -, w0⟩ := DataW.trod_int Tryd.underlying3 h0
    obtain ⟨k, e1, -, w1⟩ := DataW.trod_string Tryd.underlying9 h1
    obtain ⟨es, h2'⟩ := evs_of_trod h2
    simp only [List.cons.injEq, and_true] at e0 e1
    subst e0 e1
    unfold maxLen at w1
    have hw0 : I64 p := by have := bounds_i64 w0; exact ⟨by omega, by omega⟩
    exact ⟨p, k, c2, es, rfl, by simpa using w1, hw0, h2'⟩
end
end Go.Proofs.YtbigchdhpdgicaaDoor

/- The cells of the table treeFields, off what the row lists of it. No conditions. -/

namespace Go.Proofs.YtbigchdhpdgicaaDoor
open Go Go.RowKit Go.ChangeShapes Go.WideShapes Go.ChangeAt Go.Deep

theorem gTab : Tryd.prog.globalNamed "loop.example/teagle/impl.treeFields" = some 0 := by kernel_rfl
theorem gTabType : (Tryd.prog.globals[0]?).map (·.type) = some 116 := by kernel_rfl
theorem cellsHas : Tryd.prog.cellsOf 115 = 4 := by kernel_rfl
theorem cellsTab : Tryd.prog.cellsOf 116 = 28 := by kernel_rfl
theorem oneHas : ∃ fs : Array Field, Tryd.prog.underlying 115 = some (.struct fs) ∧ oneCellFields Tryd.prog fs = true ∧ fs.map (·.type) = #[4, 4, 4, 4] := ⟨_, Tryd.underlying115, by kernel_rfl, by kernel_rfl⟩

section
variable {H : Type} {enc : TypeId × Value → H} {W : World} {spare : Nat → Bool} {held : Bool}
set_option maxRecDepth 100000 in
theorem has_of_trod {fuel : Nat} {cs : List Value} {x : DataW H × List MemPlace} (h : DataW.trod enc Tryd.prog W 0 spare held fuel 115 cs = some x) :
    ∃ b0 b1 b2 b3 : Bool, cs = [.bool b0, .bool b1, .bool b2, .bool b3] ∧ x.1 = .agg [.lit (.bool b0), .lit (.bool b1), .lit (.bool b2), .lit (.bool b3)] := by
  obtain ⟨fs, hu, hone, hty⟩ := oneHas
  obtain ⟨xs, n, hn, hx, hlen, hxl, hf⟩ := DataW.trod_struct hu h
  rw [cellsHas] at hlen
  match cs, hlen with
  | [c0, c1, c2, c3], _ =>
    have hsz : fs.size = 4 := by have := congrArg Array.size hty; simpa using this
    have hfield : ∀ (i : Nat), (hi : i < 4) → DataW.trod enc Tryd.prog W 0 spare held n 4 (([c0, c1, c2, c3].drop i).take 1) = some (xs[i]'(by omega)) := by
      intro i hi
      have hfi : fs[i]? = some (fs[i]'(by omega)) := Array.getElem?_eq_getElem (by omega)
      obtain ⟨ho, hc⟩ := hone_of hone i _ hfi
      have := hf i _ hfi
      rw [ho, hc] at this
      have hTT : (fs[i]'(by omega)).type = 4 := by
        have e : (fs.map (·.type))[i]? = some ((fs[i]'(by omega)).type) := by simp [hsz, hi]
        rw [hty] at e
        rcases (show i = 0 ∨ i = 1 ∨ i = 2 ∨ i = 3 by omega) with rfl | rfl | rfl | rfl <;> simpa using e.symm
      rw [hTT] at this
      rw [this]; exact List.getElem?_eq_getElem (by omega)
    obtain ⟨b0, e0, f0⟩ := DataW.trod_bool Tryd.underlying4 (hfield 0 (by omega))
    obtain ⟨b1, e1, f1⟩ := DataW.trod_bool Tryd.underlying4 (hfield 1 (by omega))
    obtain ⟨b2, e2, f2⟩ := DataW.trod_bool Tryd.underlying4 (hfield 2 (by omega))
    obtain ⟨b3, e3, f3⟩ := DataW.trod_bool Tryd.underlying4 (hfield 3 (by omega))
    simp only [List.drop_succ_cons, List.drop_zero, List.take_succ_cons, List.take_zero, List.cons.injEq, and_true] at e0 e1 e2 e3
    refine ⟨b0, b1, b2, b3, by rw [e0, e1, e2, e3], ?_⟩
    obtain ⟨x0, x1, x2, x3, hxs⟩ : ∃ x0 x1 x2 x3, xs = [x0, x1, x2, x3] := by
      match xs, hxl.trans hsz with
      | [x0, x1, x2, x3], _ => exact ⟨x0, x1, x2, x3, rfl⟩
    subst hxs
    simp only [List.getElem_cons_zero, List.getElem_cons_succ] at f0 f1 f2 f3
    rw [hx, f0, f1, f2, f3]
    rfl
end

set_option maxRecDepth 100000 in
theorem tab_of_laid {W : World} (h : laidMetH Tryd.prog [("loop.example/teagle/impl.treeFields", Rows.laid_loop_example_teagle_impl_treeFields)] W) : Tab W := by
  rw [MakeChecks.laidMetH_plain _ _ _ (by kernel_rfl)] at h
  obtain ⟨ps, ⟨g0, t0, cs0, f0, p0, q0, hg0, ht0, hv0, hd0, _, _⟩, _, _⟩ := h
  obtain rfl := Option.some.inj (gTab.symm.trans hg0)
  obtain rfl := Option.some.inj (gTabType.symm.trans ht0)
  obtain ⟨xs, m, -, hx, hlen, hxl, hel⟩ := DataW.trod_array Tryd.underlying116 hd0
  rw [cellsHas] at hel
  rw [cellsTab] at hlen
  have hcell := World.var?_cell hg0 hv0
  have key : ∀ i, (hi : i < 7) → ∃ b0 b1 b2 b3 : Bool, (cs0.toList.drop (i * 4)).take 4 = [.bool b0, .bool b1, .bool b2, .bool b3] ∧ (xs[i]'(by omega)).1 = .agg [.lit (.bool b0), .lit (.bool b1), .lit (.bool b2), .lit (.bool b3)] := fun i hi => by
    have := hel i hi
    rw [List.getElem?_eq_getElem (by omega)] at this
    exact has_of_trod this
  obtain ⟨x0, x1, x2, x3, x4, x5, x6, hxs⟩ : ∃ x0 x1 x2 x3 x4 x5 x6, xs = [x0, x1, x2, x3, x4, x5, x6] := by
    match xs, hxl with
    | [x0, x1, x2, x3, x4, x5, x6], _ => exact ⟨x0, x1, x2, x3, x4, x5, x6, rfl⟩
  subst hxs
  simp only [Prod.mk.injEq, Rows.laid_loop_example_teagle_impl_treeFields, DataW.agg.injEq, List.map_cons, List.map_nil, List.cons.injEq, and_true] at hx
  obtain ⟨⟨g0, g1, g2, g3, g4, g5, g6⟩, -⟩ := hx
  obtain ⟨l⟩ := cs0
  simp only at hlen hcell key
  have cellk : ∀ i j, j < 4 → l[i * 4 + j]? = ((l.drop (i * 4)).take 4)[j]? := fun i j hj => by
    rw [List.getElem?_take_of_lt hj, List.getElem?_drop]
  obtain ⟨a0, a1, a2, a3, l0, d0⟩ := key 0 (by omega)
  simp only [List.getElem_cons_zero] at d0
  rw [d0] at g0
  simp only [DataW.agg.injEq, List.cons.injEq, DataW.lit.injEq, Lit.bool.injEq, and_true] at g0
  obtain ⟨rfl, rfl, rfl, rfl⟩ := g0
  obtain ⟨a0, a1, a2, a3, l1, d1⟩ := key 1 (by omega)
  simp only [List.getElem_cons_zero, List.getElem_cons_succ] at d1
  rw [d1] at g1
  simp only [DataW.agg.injEq, List.cons.injEq, DataW.lit.injEq, Lit.bool.injEq, and_true] at g1
  obtain ⟨rfl, rfl, rfl, rfl⟩ := g1
  obtain ⟨a0, a1, a2, a3, l2, d2⟩ := key 2 (by omega)
  simp only [List.getElem_cons_zero, List.getElem_cons_succ] at d2
  rw [d2] at g2
  simp only [DataW.agg.injEq, List.cons.injEq, DataW.lit.injEq, Lit.bool.injEq, and_true] at g2
  obtain ⟨rfl, rfl, rfl, rfl⟩ := g2
  obtain ⟨a0, a1, a2, a3, l3, d3⟩ := key 3 (by omega)
  simp only [List.getElem_cons_zero, List.getElem_cons_succ] at d3
  rw [d3] at g3
  simp only [DataW.agg.injEq, List.cons.injEq, DataW.lit.injEq, Lit.bool.injEq, and_true] at g3
  obtain ⟨rfl, rfl, rfl, rfl⟩ := g3
  obtain ⟨a0, a1, a2, a3, l4, d4⟩ := key 4 (by omega)
  simp only [List.getElem_cons_zero, List.getElem_cons_succ] at d4
  rw [d4] at g4
  simp only [DataW.agg.injEq, List.cons.injEq, DataW.lit.injEq, Lit.bool.injEq, and_true] at g4
  obtain ⟨rfl, rfl, rfl, rfl⟩ := g4
  obtain ⟨a0, a1, a2, a3, l5, d5⟩ := key 5 (by omega)
  simp only [List.getElem_cons_zero, List.getElem_cons_succ] at d5
  rw [d5] at g5
  simp only [DataW.agg.injEq, List.cons.injEq, DataW.lit.injEq, Lit.bool.injEq, and_true] at g5
  obtain ⟨rfl, rfl, rfl, rfl⟩ := g5
  obtain ⟨a0, a1, a2, a3, l6, d6⟩ := key 6 (by omega)
  simp only [List.getElem_cons_zero, List.getElem_cons_succ] at d6
  rw [d6] at g6
  simp only [DataW.agg.injEq, List.cons.injEq, DataW.lit.injEq, Lit.bool.injEq, and_true] at g6
  obtain ⟨rfl, rfl, rfl, rfl⟩ := g6
  have hc' : ∀ k, W.cell? ⟨0, k, none⟩ = l[k]? := fun k => (hcell k).trans (by simp)
  intro k hk
  rw [hc' k]
  have hcase : k = 0 ∨ k = 1 ∨ k = 2 ∨ k = 3 ∨ k = 4 ∨ k = 5 ∨ k = 6 ∨ k = 7 ∨ k = 8 ∨ k = 9 ∨ k = 10 ∨ k = 11 ∨ k = 12 ∨ k = 13 ∨ k = 14 ∨ k = 15 ∨ k = 16 ∨ k = 17 ∨ k = 18 ∨ k = 19 ∨ k = 20 ∨ k = 21 ∨ k = 22 ∨ k = 23 ∨ k = 24 ∨ k = 25 ∨ k = 26 ∨ k = 27 := by omega
  rcases hcase with rfl | rfl | rfl | rfl | rfl | rfl | rfl | rfl | rfl | rfl | rfl | rfl | rfl | rfl | rfl | rfl | rfl | rfl | rfl | rfl | rfl | rfl | rfl | rfl | rfl | rfl | rfl | rfl
  · exact (cellk 0 0 (by omega)).trans (congrArg (fun q => q[0]?) l0)
  · exact (cellk 0 1 (by omega)).trans (congrArg (fun q => q[1]?) l0)
  · exact (cellk 0 2 (by omega)).trans (congrArg (fun q => q[2]?) l0)
  · exact (cellk 0 3 (by omega)).trans (congrArg (fun q => q[3]?) l0)
  · exact (cellk 1 0 (by omega)).trans (congrArg (fun q => q[0]?) l1)
  · exact (cellk 1 1 (by omega)).trans (congrArg (fun q => q[1]?) l1)
  · exact (cellk 1 2 (by omega)).trans (congrArg (fun q => q[2]?) l1)
  · exact (cellk 1 3 (by omega)).trans (congrArg (fun q => q[3]?) l1)
  · exact (cellk 2 0 (by omega)).trans (congrArg (fun q => q[0]?) l2)
  · exact (cellk 2 1 (by omega)).trans (congrArg (fun q => q[1]?) l2)
  · exact (cellk 2 2 (by omega)).trans (congrArg (fun q => q[2]?) l2)
  · exact (cellk 2 3 (by omega)).trans (congrArg (fun q => q[3]?) l2)
  · exact (cellk 3 0 (by omega)).trans (congrArg (fun q => q[0]?) l3)
  · exact (cellk 3 1 (by omega)).trans (congrArg (fun q => q[1]?) l3)
  · exact (cellk 3 2 (by omega)).trans (congrArg (fun q => q[2]?) l3)
  · exact (cellk 3 3 (by omega)).trans (congrArg (fun q => q[3]?) l3)
  · exact (cellk 4 0 (by omega)).trans (congrArg (fun q => q[0]?) l4)
  · exact (cellk 4 1 (by omega)).trans (congrArg (fun q => q[1]?) l4)
  · exact (cellk 4 2 (by omega)).trans (congrArg (fun q => q[2]?) l4)
  · exact (cellk 4 3 (by omega)).trans (congrArg (fun q => q[3]?) l4)
  · exact (cellk 5 0 (by omega)).trans (congrArg (fun q => q[0]?) l5)
  · exact (cellk 5 1 (by omega)).trans (congrArg (fun q => q[1]?) l5)
  · exact (cellk 5 2 (by omega)).trans (congrArg (fun q => q[2]?) l5)
  · exact (cellk 5 3 (by omega)).trans (congrArg (fun q => q[3]?) l5)
  · exact (cellk 6 0 (by omega)).trans (congrArg (fun q => q[0]?) l6)
  · exact (cellk 6 1 (by omega)).trans (congrArg (fun q => q[1]?) l6)
  · exact (cellk 6 2 (by omega)).trans (congrArg (fun q => q[2]?) l6)
  · exact (cellk 6 3 (by omega)).trans (congrArg (fun q => q[3]?) l6)
end Go.Proofs.YtbigchdhpdgicaaDoor
