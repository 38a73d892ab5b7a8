/- Events in memory (a struct of a string, a number and a tree: seven cells), and the walks of the law's own szEvent, toEvent, eqEvent. No conditions. -/
import Derived.Test.YtbigchdhpdgicaaDoorPart01
import Derived.Test.YtbigchdhpdgicaaDoorPart02
import Derived.Test.YtbigchdhpdgicaaDoorPart00
namespace Go.Proofs.YtbigchdhpdgicaaDoor
open Go Go.RowKit

set_option maxHeartbeats 800000 in
theorem szEvent_any (ty : ByteArray) (ver : Int) (t : Tr) (P : Nat → Prop) (c : C5) (left : Int) (w : World) (hP : ∀ b, P b → b < w.heap.size) (hrep : Rep P w t c) (hty : ty.size ≤ 9223372036854775807) (h0 : 0 ≤ left) (h1 : left ≤ 1048576) :
    Calls Tryd.prog 20 #[.agg #[.string ty, .int .i64 ver, c.c0, c.c1, c.c2, c.c3, c.c4], .int .i64 left] w fun e w' => ∃ r : Int, e = .returned (.int .i64 r) ∧ (r = -1 ∨ (0 ≤ r ∧ r + ty.size + wT t = left)) ∧ Below w.heap.size w w' := by
  obtain ⟨c0, c1, c2, c3, c4⟩ := c
  have hbx : ∀ o, Below w.heap.size w (w.alloc o) := fun o => (Below.refl _ _).alloc (Nat.le_refl _) o
  have hz := fun o (l : Int) (h0 : 0 ≤ l) (h1 : l ≤ 1048576) => szTree_any t P ⟨c0, c1, c2, c3, c4⟩ l (w.alloc o) (fun b hb => Nat.lt_of_lt_of_le (hP b hb) (hbx o).size) (Rep.carry (fun b hb => (hbx o).block b (hP b hb)) (fun _ h => h) _ _ hrep) h0 h1
  have HZ := hide hz
  clear hz hP hrep
  by_cases hneg : left - ty.size < 0
  · go_enter Tryd.func20, Tryd.ntmps20
    go_wp2_with fail
    go_ret
    exact ⟨_, rfl, Or.inl rfl, hbx _⟩
  · go_enter Tryd.func20, Tryd.ntmps20
    go_wp2_with fail
    refine (unhide HZ _ _ (by omega) (by omega)).mono ?_
    rintro e w' ⟨r, rfl, hr, hb'⟩
    have hb2 := (hbx _).trans (hb'.mono (hbx _).size)
    clear hb'
    rcases hr with rfl | ⟨hr0, hr1⟩
    · go_wp2_with fail
      go_ret
      exact ⟨_, rfl, Or.inl rfl, hb2⟩
    · have HR := hide hr1; clear hr1
      go_wp2_with fail
      go_ret
      exact ⟨_, rfl, Or.inr ⟨hr0, by have := unhide HR; omega⟩, hb2⟩

set_option maxRecDepth 100000 in
set_option maxHeartbeats 1600000 in
theorem toEvent_any (ty : ByteArray) (ver : Int) (t : Tr) (P : Nat → Prop) (c : C5) (w : World) (hP : ∀ b, P b → b < w.heap.size) (hrep : Rep P w t c) (hwt : wT t ≤ 1048576) :
    Calls Tryd.prog 24 #[.agg #[.string ty, .int .i64 ver, c.c0, c.c1, c.c2, c.c3, c.c4]] w fun e w' => ∃ c' : C5, e = .returned (.agg #[.string ty, .int .i64 ver, c'.c0, c'.c1, c'.c2, c'.c3, c'.c4]) ∧ Rep (New w w') w' t c' ∧ Below w.heap.size w w' := by
  obtain ⟨c0, c1, c2, c3, c4⟩ := c
  have hbx : ∀ o o2 o3, Below w.heap.size w (((w.alloc o).alloc o2).alloc o3) := fun o o2 o3 => (((Below.refl _ _).alloc (Nat.le_refl _) o).alloc (by simp) o2).alloc (by simp; omega) o3
  have HBX := hide hbx
  have HTO := hide (fun (W : World) (hW : Below w.heap.size w W) => toTree_any t P ⟨c0, c1, c2, c3, c4⟩ W (fun b hb => Nat.lt_of_lt_of_le (hP b hb) hW.size) (Rep.carry (fun b hb => hW.block b (hP b hb)) (fun _ h => h) _ _ hrep) hwt)
  clear hbx hP hrep
  go_enter Tryd.func24, Tryd.ntmps24
  go_wp2_with fail
  refine (unhide HTO _ (unhide HBX _ _ _)).mono ?_
  rintro e w1 ⟨⟨x0, x1, x2, x3, x4⟩, rfl, hrx, hb1⟩
  obtain ⟨p1, p2, hs1, hb01⟩ := ebox3 hb1
  obtain ⟨g0, g1, g2, -, -, -, ⟨a3, cap3, g3, -⟩, a4, cap4, g4, -⟩ := hrx.open
  simp only at g0 g1 g2 g3 g4
  subst g0 g1 g2 g3 g4
  have hrx' : Rep (fun b => w.heap.size + 3 ≤ b ∧ b < w1.heap.size) w1 t ⟨.int .i64 t.sort, .int .i64 t.num, .string t.text, .slice a3 t.names.length cap3, .slice a4 t.kids.length cap4⟩ :=
    Rep.carry (fun _ _ => rfl) (fun b hb => ⟨by have := hb.1; simpa using this, hb.2⟩) _ _ hrx
  have fa := p1.frozen; have fb := p2.frozen
  have a0 := p1.cell (i := 0) (by omega); have a1 := p1.cell (i := 1) (by omega); have a2 := p1.cell (i := 2) (by omega); have a3' := p1.cell (i := 3) (by omega); have a4' := p1.cell (i := 4) (by omega); have a5 := p1.cell (i := 5) (by omega); have a6 := p1.cell (i := 6) (by omega)
  have b0 := p2.cell (i := 0) (by omega); have b1 := p2.cell (i := 1) (by omega); have b2 := p2.cell (i := 2) (by omega); have b3 := p2.cell (i := 3) (by omega); have b4 := p2.cell (i := 4) (by omega); have b5 := p2.cell (i := 5) (by omega); have b6 := p2.cell (i := 6) (by omega)
  simp [row7] at a0 a1 a2 a3' a4' a5 a6 b0 b1 b2 b3 b4 b5 b6
  have HRX := hide hrx'; have HB1 := hide hb01
  clear hrx hrx' hb1 hb01 p1 p2 HTO HBX
  go_wp2_with fail
  refine bodyPost_ret (v := .agg #[.string ty, .int .i64 ver, .int .i64 t.sort, .int .i64 t.num, .string t.text, .slice a3 t.names.length cap3, .slice a4 t.kids.length cap4]) (by simp [results, Tryd.results24, go_sem, a0, a1, a2, a3', a4', a5, a6]) rfl ⟨⟨_, _, _, _, _⟩, rfl, ?_, ?_⟩
  · refine Rep.carry (P := fun b => w.heap.size + 3 ≤ b ∧ b < w1.heap.size) (fun b hb => ?_) (fun b hb => ?_) _ _ (unhide HRX)
    · repeat rw [Below.heap_setCell _ _ _ _ (by simp <;> omega)]
    · exact ⟨by omega, by simp only [size_setCell]; omega⟩
  · repeat refine Below.setCell ?_ (by simp <;> omega) _
    exact unhide HB1

end Go.Proofs.YtbigchdhpdgicaaDoor

/- The walks of the law's own szEventS, szRecord, toEventS, toRecord, eqEventS, eqRecord. No conditions but the weight, at most 2^20. -/

namespace Go.Proofs.YtbigchdhpdgicaaDoor
open Go Go.RowKit

set_option maxRecDepth 100000 in
set_option maxHeartbeats 800000 in
theorem szEventS_any (es : List Ev) (P : Nat → Prop) (v : Value) (left : Int) (w : World) (hP : ∀ b, P b → b < w.heap.size) (hv : EvsAt P w v es) (h0 : 0 ≤ left) (h1 : left ≤ 1048576) :
    Calls Tryd.prog 12 #[v, .int .i64 left] w fun e w' => ∃ r : Int, e = .returned (.int .i64 r) ∧ (r = -1 ∨ (0 ≤ r ∧ r + wE es = left)) ∧ Below w.heap.size w w' := by
  obtain ⟨a, cap, rfl, hlen, hc⟩ := hv
  have HC := hide hc; clear hc
  have HP := hide hP; clear hP
  by_cases hneg : left - es.length < 0
  · go_enter Tryd.func12, Tryd.ntmps12
    go_wp2_with fail
    go_ret
    exact ⟨_, rfl, Or.inl rfl, Below.refl _ _⟩
  · go_enter Tryd.func12, Tryd.ntmps12
    go_wp2_with fail
    go_loopw [1, 5] (fun l i wr => ∃ (k : Nat) (q : Int), k ≤ es.length ∧ i = .int .i64 k ∧ l = .int .i64 q ∧ 0 ≤ q ∧ q ≤ 1048576 ∧ Hid (q + es.length + wE (es.take k) = left + k) ∧ Below w.heap.size w wr) (fun _ i _ => es.length - (intOf i).toNat)
    case atStart => exact ⟨0, _, Nat.zero_le _, rfl, rfl, by omega, by omega, by simp [Hid, wE], Below.refl _ _⟩
    case round =>
      obtain ⟨k, q, hk, rfl, rfl, hq0, hq1, HQ, hb⟩ := hrel
      by_cases hlt : k < es.length
      · obtain ⟨b, o, rfl, hpb, c, hcell, hrep, hty, hver⟩ := unhide HC k hlt
        have hcell' := hcell.carry (hb.block b (unhide HP b hpb))
        obtain ⟨c0, c1, c2, c3, c4⟩ := c
        obtain ⟨e0, e1, e2, e3, e4, e5, e6⟩ := hcell'
        simp only at e0 e1 e2 e3 e4 e5 e6
        have HCALL := hide (szEvent_any es[k].ty es[k].ver es[k].t P ⟨c0, c1, c2, c3, c4⟩ q wr (fun b hb' => Nat.lt_of_lt_of_le (unhide HP b hb') hb.size) (Rep.carry (fun b hb' => hb.block b (unhide HP b hb')) (fun _ h => h) _ _ hrep) hty hq0 hq1)
        have HT := hide (wE_take es k hlt)
        clear hrep hcell hpb hty hver
        go_wp2_with fail
        refine (unhide HCALL).mono ?_
        rintro e w' ⟨r, rfl, hr, hb'⟩
        have hb2 := hb.trans (hb'.mono hb.size)
        clear hb' HCALL
        rcases hr with rfl | ⟨hr0, hr1⟩
        · go_wp2_with fail
          go_ret
          exact ⟨_, rfl, Or.inl rfl, hb2⟩
        · have HR1 := hide hr1; clear hr1
          have hr2 : r ≤ 1048576 := by have := unhide HR1; omega
          go_wp2_with fail
          go_roundw
          case rel => exact ⟨k + 1, _, by omega, by go_num, rfl, by omega, by omega, by have := HQ.out; have := unhide HT; have := unhide HR1; show _ = _; omega, hb2⟩
          case measure => simp [intOf]; omega
      · go_wp2_with fail
        go_ret
        refine ⟨_, rfl, Or.inr ⟨hq0, ?_⟩, hb⟩
        have := HQ.out
        rw [List.take_of_length_le (by omega)] at this
        omega

set_option maxRecDepth 100000 in
set_option maxHeartbeats 800000 in
theorem szRecord_any (pos : Int) (key : ByteArray) (es : List Ev) (P : Nat → Prop) (v : Value) (left : Int) (w : World) (hP : ∀ b, P b → b < w.heap.size) (hv : EvsAt P w v es) (hk : key.size ≤ 9223372036854775807) (h0 : 0 ≤ left) (h1 : left ≤ 1048576) :
    Calls Tryd.prog 5 #[.agg #[.int .i64 pos, .string key, v], .int .i64 left] w fun e w' => ∃ r : Int, e = .returned (.int .i64 r) ∧ (r = -1 ∨ (0 ≤ r ∧ r + key.size + wE es = left)) ∧ Below w.heap.size w w' := by
  have hbx : ∀ o, Below w.heap.size w (w.alloc o) := fun o => (Below.refl _ _).alloc (Nat.le_refl _) o
  have HZ := hide (fun o (l : Int) (h0 : 0 ≤ l) (h1 : l ≤ 1048576) => szEventS_any es P v l (w.alloc o) (fun b hb => Nat.lt_of_lt_of_le (hP b hb) (hbx o).size) (hv.carry (fun b hb => (hbx o).block b (hP b hb)) (fun _ h => h)) h0 h1)
  clear hP hv
  by_cases hneg : left - key.size < 0
  · go_enter Tryd.func5, Tryd.ntmps5
    go_wp2_with fail
    go_ret
    exact ⟨_, rfl, Or.inl rfl, hbx _⟩
  · go_enter Tryd.func5, Tryd.ntmps5
    go_wp2_with fail
    refine (unhide HZ _ _ (by omega) (by omega)).mono ?_
    rintro e w' ⟨r, rfl, hr, hb'⟩
    have hb2 := (hbx _).trans (hb'.mono (hbx _).size)
    clear hb'
    rcases hr with rfl | ⟨hr0, hr1⟩
    · go_wp2_with fail
      go_ret
      exact ⟨_, rfl, Or.inl rfl, hb2⟩
    · have HR := hide hr1; clear hr1
      go_wp2_with fail
      go_ret
      exact ⟨_, rfl, Or.inr ⟨hr0, by have := unhide HR; omega⟩, hb2⟩

/-- The seven zero cells of an event. -/
def z7 : Array Value := #[.string ByteArray.empty, .int .i64 0, .int .i64 0, .int .i64 0, .string ByteArray.empty, .slice none 0 0, .slice none 0 0]
theorem infoEvent : (Tryd.prog.info? 43).map (fun i => (i.zero, i.size, i.bytes)) = some (some (.agg z7), 7, 104) := by kernel_rfl
theorem run_make_event (n : Nat) (h : n ≤ 1048576) (w : World) :
    (Instr.makeSlice 27 (.int .i64 (n : Int)) (.int .i64 (n : Int))).run Tryd.prog w = .ok (.slice (some ⟨w.heap.size, 0, none⟩) n n) (w.alloc (.cells (madeCells z7 (n * 7)) 43)) := by
  obtain ⟨i, hi, he⟩ : ∃ i, Tryd.prog.info? 43 = some i ∧ (i.zero, i.size, i.bytes) = (some (.agg z7), 7, 104) := by
    have := infoEvent
    cases h : Tryd.prog.info? 43 with
    | none => rw [h] at this; simp at this
    | some i => rw [h] at this; exact ⟨i, rfl, by simpa using this⟩
  simp only [Prod.mk.injEq] at he
  obtain ⟨e1, e2, e3⟩ := he
  have := run_make (P := Tryd.prog) w 27 43 i (.agg z7) Tryd.underlying27 hi e1 .i64 .i64 n n (by omega) (by omega) (by rw [e3]; omega) (by omega)
  rw [this, e2]
  simp [Value.cells]

def ELaid (w wr : World) (es : List Ev) (k : Nat) : Prop :=
  ∃ f, wr.rowIs w.heap.size 43 (es.length * 7) f ∧ ∀ j, j < k → (hj : j < es.length) → ∃ c : C5, (f (j * 7) = .string es[j].ty ∧ f (j * 7 + 1) = .int .i64 es[j].ver ∧ f (j * 7 + 2) = c.c0 ∧ f (j * 7 + 3) = c.c1 ∧ f (j * 7 + 4) = c.c2 ∧ f (j * 7 + 5) = c.c3 ∧ f (j * 7 + 6) = c.c4) ∧
    Rep (fun b => w.heap.size + 1 ≤ b ∧ b < wr.heap.size) wr es[j].t c ∧ es[j].ty.size ≤ 9223372036854775807 ∧ I64 es[j].ver

theorem heap_set7 (w : World) (b o : Nat) (a0 a1 c0 c1 c2 c3 c4 : Value) (k : Nat) (h : k ≠ b) :
    (((((((w.setCell ⟨b, o, none⟩ a0).setCell ⟨b, o + 1, none⟩ a1).setCell ⟨b, o + 2, none⟩ c0).setCell ⟨b, o + 3, none⟩ c1).setCell ⟨b, o + 4, none⟩ c2).setCell ⟨b, o + 5, none⟩ c3).setCell ⟨b, o + 6, none⟩ c4).heap[k]? = w.heap[k]? := by
  rw [Below.heap_setCell _ _ _ _ h, Below.heap_setCell _ _ _ _ h, Below.heap_setCell _ _ _ _ h, Below.heap_setCell _ _ _ _ h, Below.heap_setCell _ _ _ _ h, Below.heap_setCell _ _ _ _ h, Below.heap_setCell _ _ _ _ h]

theorem ELaid.step {w wr w' : World} {es : List Ev} {k : Nat} (hlt : k < es.length) (hL : ELaid w wr es k) (hb' : Below wr.heap.size wr w') (c : C5) (hr : Rep (New wr w') w' es[k].t c) (hty : es[k].ty.size ≤ 9223372036854775807) (hver : I64 es[k].ver) :
    ELaid w (((((((w'.setCell ⟨w.heap.size, k * 7, none⟩ (.string es[k].ty)).setCell ⟨w.heap.size, k * 7 + 1, none⟩ (.int .i64 es[k].ver)).setCell ⟨w.heap.size, k * 7 + 2, none⟩ c.c0).setCell ⟨w.heap.size, k * 7 + 3, none⟩ c.c1).setCell ⟨w.heap.size, k * 7 + 4, none⟩ c.c2).setCell ⟨w.heap.size, k * 7 + 5, none⟩ c.c3).setCell ⟨w.heap.size, k * 7 + 6, none⟩ c.c4) es (k + 1) := by
  obtain ⟨f, hrow, hf⟩ := hL
  have hlt0 := hrow.lt
  have hrow' := hrow.of_block (hb'.block _ hrow.lt)
  have hs := hb'.size
  refine ⟨_, ((((((hrow'.set (k * 7) _).set (k * 7 + 1) _).set (k * 7 + 2) c.c0).set (k * 7 + 3) c.c1).set (k * 7 + 4) c.c2).set (k * 7 + 5) c.c3).set (k * 7 + 6) c.c4, fun j hj hjl => ?_⟩
  by_cases e : j = k
  · subst e
    refine ⟨c, ⟨by simp, by simp, by simp, by simp, by simp, by simp, by simp⟩, ?_, hty, hver⟩
    refine Rep.carry (fun b hb => heap_set7 _ _ _ _ _ _ _ _ _ _ _ (by have := hb.1; omega)) (fun b hb => ?_) _ _ hr
    simp only [size_setCell]
    have := hb.1; have := hb.2
    omega
  · obtain ⟨d, ⟨g0, g1, g2, g3, g4, g5, g6⟩, hd, ht, hv⟩ := hf j (by omega) hjl
    refine ⟨d, ⟨?_, ?_, ?_, ?_, ?_, ?_, ?_⟩, ?_, ht, hv⟩
    · repeat rw [if_neg (by omega)]
      exact g0
    · repeat rw [if_neg (by omega)]
      exact g1
    · repeat rw [if_neg (by omega)]
      exact g2
    · repeat rw [if_neg (by omega)]
      exact g3
    · repeat rw [if_neg (by omega)]
      exact g4
    · repeat rw [if_neg (by omega)]
      exact g5
    · repeat rw [if_neg (by omega)]
      exact g6
    · refine Rep.carry (fun b hb => ?_) (fun b hb => ?_) _ _ hd
      · rw [heap_set7 _ _ _ _ _ _ _ _ _ _ _ (by omega), hb'.block b hb.2]
      · simp only [size_setCell]; omega

theorem ELaid.done {w wr : World} {es : List Ev} (hL : ELaid w wr es es.length) (hlen : es.length ≤ 1048576) : EvsAt (New w wr) wr (.slice (some ⟨w.heap.size, 0, none⟩) es.length es.length) es := by
  obtain ⟨f, hrow, hf⟩ := hL
  refine ⟨_, _, rfl, by omega, fun i hi => ⟨w.heap.size, 0, rfl, ⟨Nat.le_refl _, hrow.lt⟩, ?_⟩⟩
  obtain ⟨d, ⟨g0, g1, g2, g3, g4, g5, g6⟩, hd, ht, hv⟩ := hf i hi hi
  refine ⟨d, ?_, Rep.carry (fun _ _ => rfl) (fun b hb => ⟨by omega, hb.2⟩) _ _ hd, ht, hv⟩
  simp only [Nat.zero_add, E7at]
  rw [hrow.cell (i := i * 7) (by omega), hrow.cell (i := i * 7 + 1) (by omega), hrow.cell (i := i * 7 + 2) (by omega), hrow.cell (i := i * 7 + 3) (by omega), hrow.cell (i := i * 7 + 4) (by omega), hrow.cell (i := i * 7 + 5) (by omega), hrow.cell (i := i * 7 + 6) (by omega), g0, g1, g2, g3, g4, g5, g6]
  exact ⟨rfl, rfl, rfl, rfl, rfl, rfl, rfl⟩

set_option maxRecDepth 100000 in
set_option maxHeartbeats 1600000 in
theorem toEventS_any (es : List Ev) (P : Nat → Prop) (v : Value) (w : World) (hP : ∀ b, P b → b < w.heap.size) (hv : EvsAt P w v es) (hwt : wE es ≤ 1048576) :
    Calls Tryd.prog 17 #[v] w fun e w' => ∃ a, e = .returned (.slice a es.length es.length) ∧ EvsAt (New w w') w' (.slice a es.length es.length) es ∧ Below w.heap.size w w' := by
  obtain ⟨a, cap, rfl, -, hc⟩ := hv
  have hlen : es.length ≤ 1048576 := Nat.le_trans (wE_len es) hwt
  have HC := hide hc; clear hc
  have HP := hide hP; clear hP
  have HW := hide hwt; clear hwt
  have hmk := run_make_event es.length hlen
  go_enter Tryd.func17, Tryd.ntmps17
  go_wp2_with fail
  clear hmk
  go_loopw [4] (fun i wr => ∃ (k : Nat), k ≤ es.length ∧ i = .int .i64 k ∧ Hid (ELaid w wr es k) ∧ Below w.heap.size w wr) (fun i _ => es.length - (intOf i).toNat)
  case atStart =>
    have hrow := World.rowIs_alloc w (madeCells z7 (es.length * 7)) 43 (fun i => (madeCells z7 (es.length * 7))[i]?.getD undef) (fun i hi => by simp [hi])
    rw [size_madeCells] at hrow
    exact ⟨0, Nat.zero_le _, rfl, hide ⟨_, hrow, fun j hj => by omega⟩, (Below.refl _ _).alloc (Nat.le_refl _) _⟩
  case round =>
    obtain ⟨k, hk, rfl, HL, hb⟩ := hrel
    by_cases hlt : k < es.length
    · obtain ⟨b, o, rfl, hpb, c, hcell, hrep, hty, hver⟩ := unhide HC k hlt
      have hcell' := hcell.carry (hb.block b (unhide HP b hpb))
      obtain ⟨c0, c1, c2, c3, c4⟩ := c
      obtain ⟨e0, e1, e2, e3, e4, e5, e6⟩ := hcell'
      simp only at e0 e1 e2 e3 e4 e5 e6
      have hwk : wT es[k].t ≤ 1048576 := by have := wE_mem (List.getElem_mem hlt); have := unhide HW; omega
      have HCALL := hide (toEvent_any es[k].ty es[k].ver es[k].t P ⟨c0, c1, c2, c3, c4⟩ wr (fun b hb' => Nat.lt_of_lt_of_le (unhide HP b hb') hb.size) (Rep.carry (fun b hb' => hb.block b (unhide HP b hb')) (fun _ h => h) _ _ hrep) hwk)
      have HTY := hide hty; have HVER := hide hver
      clear hrep hcell hpb hwk hty hver
      go_wp2_with fail
      refine (unhide HCALL).mono ?_
      rintro e w' ⟨⟨d0, d1, d2, d3, d4⟩, rfl, hr, hb'⟩
      clear e0 e1 e2 e3 e4 e5 e6 HCALL
      obtain ⟨f, hrow, hf⟩ := HL.out
      have hrow' := hrow.of_block (hb'.block _ hrow.lt)
      have HR' := hide hr; have HB' := hide hb'
      have z0 := hrow'.frozen (k * 7)
      have z1 := hrow'.frozen (k * 7 + 1)
      have z2 := hrow'.frozen (k * 7 + 2)
      have z3 := hrow'.frozen (k * 7 + 3)
      have z4 := hrow'.frozen (k * 7 + 4)
      have z5' := hrow'.frozen (k * 7 + 5)
      have z6 := hrow'.frozen (k * 7 + 6)
      have y0 := hrow'.cell (i := k * 7) (by omega)
      have y1 := hrow'.cell (i := k * 7 + 1) (by omega)
      have y2 := hrow'.cell (i := k * 7 + 2) (by omega)
      have y3 := hrow'.cell (i := k * 7 + 3) (by omega)
      have y4 := hrow'.cell (i := k * 7 + 4) (by omega)
      have y5 := hrow'.cell (i := k * 7 + 5) (by omega)
      have y6 := hrow'.cell (i := k * 7 + 6) (by omega)
      obtain ⟨g0, g1, g2, -, -, -, ⟨a3, cap3, g3, -⟩, a4, cap4, g4, -⟩ := hr.open
      simp only at g0 g1 g2 g3 g4
      subst g0 g1 g2 g3 g4
      clear hf hrow hrow' hr hb'
      go_wp2_with fail
      go_roundw
      case rel =>
        have hst := ELaid.step hlt HL.out HB'.out _ HR'.out (unhide HTY) (unhide HVER)
        have hb3 := hb.trans (HB'.out.mono hb.size)
        refine ⟨k + 1, by omega, by go_num, hst, ?_⟩
        exact ((((((hb3.setCell (Nat.le_refl _) _).setCell (Nat.le_refl _) _).setCell (Nat.le_refl _) _).setCell (Nat.le_refl _) _).setCell (Nat.le_refl _) _).setCell (Nat.le_refl _) _).setCell (Nat.le_refl _) _
      case measure => simp [intOf]; omega
    · go_wp2_with fail
      go_ret
      obtain rfl : k = es.length := by omega
      exact ⟨_, rfl, HL.out.done hlen, hb⟩

set_option maxRecDepth 100000 in
set_option maxHeartbeats 800000 in
theorem eqEventS_any (es : List Ev) (P Q : Nat → Prop) (v u : Value) (w : World) (hP : ∀ b, P b → b < w.heap.size) (hQ : ∀ b, Q b → b < w.heap.size) (hv : EvsAt P w v es) (hu : EvsAt Q w u es) :
    Calls Tryd.prog 19 #[v, u] w fun e w' => e = .returned (.bool true) ∧ Below w.heap.size w w' := by
  obtain ⟨a, cap, rfl, hlen, hc⟩ := hv
  obtain ⟨a2, cap2, rfl, -, hc2⟩ := hu
  have HC := hide hc; clear hc
  have HC2 := hide hc2; clear hc2
  have HP := hide hP; clear hP
  have HQ := hide hQ; clear hQ
  go_enter Tryd.func19, Tryd.ntmps19
  go_wp2_with fail
  go_loopw [5] (fun i wr => ∃ (k : Nat), k ≤ es.length ∧ i = .int .i64 k ∧ Below w.heap.size w wr) (fun i _ => es.length - (intOf i).toNat)
  case atStart => exact ⟨0, Nat.zero_le _, rfl, Below.refl _ _⟩
  case round =>
    obtain ⟨k, hk, rfl, hb⟩ := hrel
    by_cases hlt : k < es.length
    · obtain ⟨b, o, rfl, hpb, c, hcell, hrep, -, -⟩ := unhide HC k hlt
      obtain ⟨b2, o2, rfl, hpb2, d, hcell2, hrep2, -, -⟩ := unhide HC2 k hlt
      have hcell' := hcell.carry (hb.block b (unhide HP b hpb))
      have hcell2' := hcell2.carry (hb.block b2 (unhide HQ b2 hpb2))
      obtain ⟨c0, c1, c2, c3, c4⟩ := c
      obtain ⟨d0, d1, d2, d3, d4⟩ := d
      obtain ⟨e0, e1, e2, e3, e4, e5, e6⟩ := hcell'
      obtain ⟨g0, g1, g2, g3, g4, g5, g6⟩ := hcell2'
      simp only at e0 e1 e2 e3 e4 e5 e6 g0 g1 g2 g3 g4 g5 g6
      have hcall := eqEvent_any es[k].ty es[k].ver es[k].t P Q ⟨c0, c1, c2, c3, c4⟩ ⟨d0, d1, d2, d3, d4⟩ wr.drew (fun b hb' => Nat.lt_of_lt_of_le (unhide HP b hb') hb.size) (fun b hb' => Nat.lt_of_lt_of_le (unhide HQ b hb') hb.size) (Rep.carry (w' := wr.drew) (fun b hb' => hb.drew.block b (unhide HP b hb')) (fun _ h => h) _ _ hrep) (Rep.carry (w' := wr.drew) (fun b hb' => hb.drew.block b (unhide HQ b hb')) (fun _ h => h) _ _ hrep2)
      have HCALL := hide hcall
      clear hrep hcell hpb hrep2 hcell2 hpb2 hcall HC HC2
      go_wp2_with fail
      go_region_with (go_at_call 27; refine (unhide HCALL).mono ?_; rintro e w' ⟨rfl, hb'⟩)
      all_goals
        have hb2 := hb.drew.trans (hb'.mono hb.drew.size)
        go_wp2_with fail
        go_roundw
        case rel => exact ⟨k + 1, by omega, by go_num, hb2⟩
        case measure => simp [intOf]; omega
    · go_wp2_with fail
      go_ret
      exact ⟨rfl, hb⟩

set_option maxRecDepth 100000 in
set_option maxHeartbeats 1600000 in
theorem toRecord_any (pos : Int) (key : ByteArray) (es : List Ev) (P : Nat → Prop) (v : Value) (w : World) (hP : ∀ b, P b → b < w.heap.size) (hv : EvsAt P w v es) (hwt : wE es ≤ 1048576) :
    Calls Tryd.prog 7 #[.agg #[.int .i64 pos, .string key, v]] w fun e w' => ∃ a, e = .returned (.agg #[.int .i64 pos, .string key, .slice a es.length es.length]) ∧ EvsAt (New w w') w' (.slice a es.length es.length) es ∧ Below w.heap.size w w' := by
  have hbx : ∀ o o2 o3, Below w.heap.size w (((w.alloc o).alloc o2).alloc o3) := fun o o2 o3 => (((Below.refl _ _).alloc (Nat.le_refl _) o).alloc (by simp) o2).alloc (by simp; omega) o3
  have HBX := hide hbx
  have HTO := hide (fun (W : World) (hW : Below w.heap.size w W) => toEventS_any es P v W (fun b hb => Nat.lt_of_lt_of_le (hP b hb) hW.size) (hv.carry (fun b hb => hW.block b (hP b hb)) (fun _ h => h)) hwt)
  clear hbx hP hv
  go_enter Tryd.func7, Tryd.ntmps7
  go_wp2_with fail
  refine (unhide HTO _ (by first | exact unhide HBX _ _ _ | exact ((unhide HBX _ _ _).setCell (by simp; omega) _).setCell (by simp; omega) _)).mono ?_
  rintro e w1 ⟨a, rfl, hrx, hb1⟩
  obtain ⟨-, p1, p2, hs1, hb01⟩ := kbox3 hb1
  have hrx' : EvsAt (fun b => w.heap.size + 3 ≤ b ∧ b < w1.heap.size) w1 (.slice a es.length es.length) es :=
    hrx.carry (fun _ _ => rfl) (fun b hb => ⟨by have := hb.1; simpa using this, hb.2⟩)
  have fa := p1.frozen; have fb := p2.frozen
  have a0 := p1.cell (i := 0) (by omega); have a1 := p1.cell (i := 1) (by omega); have a2 := p1.cell (i := 2) (by omega)
  have b0 := p2.cell (i := 0) (by omega); have b1 := p2.cell (i := 1) (by omega); have b2 := p2.cell (i := 2) (by omega)
  simp [row3] at a0 a1 a2 b0 b1 b2
  have HRX := hide hrx'; have HB1 := hide hb01
  clear hrx hrx' hb1 hb01 p1 p2 HTO HBX
  go_wp2_with fail
  refine bodyPost_ret (v := .agg #[.int .i64 pos, .string key, .slice a es.length es.length]) (by simp [results, Tryd.results7, go_sem, a0, a1, a2]) rfl ⟨_, rfl, ?_, ?_⟩
  · refine (unhide HRX).carry (fun b hb => ?_) (fun b hb => ?_)
    · repeat rw [Below.heap_setCell _ _ _ _ (by simp <;> omega)]
    · exact ⟨by omega, by simp only [size_setCell]; omega⟩
  · repeat refine Below.setCell ?_ (by simp <;> omega) _
    exact unhide HB1

set_option maxRecDepth 100000 in
set_option maxHeartbeats 800000 in
theorem eqRecord_any (pos : Int) (key : ByteArray) (es : List Ev) (P Q : Nat → Prop) (v u : Value) (w : World) (hP : ∀ b, P b → b < w.heap.size) (hQ : ∀ b, Q b → b < w.heap.size) (hv : EvsAt P w v es) (hu : EvsAt Q w u es) :
    Calls Tryd.prog 9 #[.agg #[.int .i64 pos, .string key, v], .agg #[.int .i64 pos, .string key, u]] w fun e w' => e = .returned (.bool true) ∧ Below w.heap.size w w' := by
  have hbx : ∀ o o2, Below w.heap.size w ((w.alloc o).alloc o2) := fun o o2 => ((Below.refl _ _).alloc (Nat.le_refl _) o).alloc (by simp) o2
  have hcall := fun (W : World) (hW : Below w.heap.size w W) => eqEventS_any es P Q v u W (fun b hb => Nat.lt_of_lt_of_le (hP b hb) hW.size) (fun b hb => Nat.lt_of_lt_of_le (hQ b hb) hW.size) (hv.carry (fun b hb => hW.block b (hP b hb)) (fun _ h => h)) (hu.carry (fun b hb => hW.block b (hQ b hb)) (fun _ h => h))
  have HBX := hide hbx; have HCALL := hide hcall
  clear hbx hcall hP hQ hv hu
  go_enter Tryd.func9, Tryd.ntmps9
  go_wp2_with fail
  refine (unhide HCALL _ (unhide HBX _ _)).mono ?_
  rintro e w1 ⟨rfl, hb1⟩
  have hb2 := (unhide HBX _ _).trans (hb1.mono (unhide HBX _ _).size)
  have HB := hide hb2
  clear hb1 hb2
  go_wp2_with fail
  go_ret
  exact ⟨rfl, unhide HB⟩
end Go.Proofs.YtbigchdhpdgicaaDoor
