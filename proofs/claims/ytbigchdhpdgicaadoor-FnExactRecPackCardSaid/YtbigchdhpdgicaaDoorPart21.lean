/- The walks of the laws on RecOk, RecPack: whatever record comes in, they answer true, and turn nothing that was there. The table treeFields is as the program lays it. -/
import Derived.Test.YtbigchdhpdgicaaDoorPart03
import Derived.Test.YtbigchdhpdgicaaDoorPart15
import Derived.Test.YtbigchdhpdgicaaDoorPart20
import Derived.Deep.CutRange
import Derived.Test.YtbigchdhpdgicaaDoorRows
import Derived.Test.YtbigchdhpdgicaaDoorPart00
import Derived.ProofKit
import Derived.OpenShut
import Derived.Deep.Fields
import Derived.Deep.Slices
namespace Go.Proofs.YtbigchdhpdgicaaDoor
open Go Go.RowKit

set_option maxRecDepth 100000 in
set_option maxHeartbeats 6400000 in
theorem lawRecOk_any (pos : Int) (key : ByteArray) (es : List Ev) (P : Nat → Prop) (v : Value) (w : World) (hP : ∀ b, P b → b < w.heap.size) (hv : EvsAt P w v es) (hk : key.size ≤ 9223372036854775807) (hT : Tab w) :
    Calls Tryd.prog 3 #[.agg #[.int .i64 pos, .string key, v]] w fun e w' => e = .returned (.bool true) ∧ Below w.heap.size w w' := by
  have hcar := fun (W : World) (hW : Below w.heap.size w W) => (⟨fun b hb => Nat.lt_of_lt_of_le (hP b hb) hW.size, hv.carry (fun b hb => hW.block b (hP b hb)) (fun _ h => h)⟩ : (∀ b, P b → b < W.heap.size) ∧ EvsAt P W v es)
  have HZ := hide (fun (W : World) (hW : Below w.heap.size w W) (l : Int) (h0 : 0 ≤ l) (h1 : l ≤ 1048576) => szRecord_any pos key es P v l W (hcar W hW).1 (hcar W hW).2 hk h0 h1)
  have HTO := hide (fun (W : World) (hW : Below w.heap.size w W) (hwt : wE es ≤ 1048576) => toRecord_any pos key es P v W (hcar W hW).1 (hcar W hW).2 hwt)
  have HIM := hide (fun (W : World) (hW : Below w.heap.size w W) (Q : Nat → Prop) (u : Value) (hQ : ∀ b, Q b → b < W.heap.size) (hr : EvsAt Q W u es) => implRecOk_any pos key es Q u W hQ hr hk (hT.of_block (hW.block 0 hT.lt)))
  have HSP := hide (fun (W : World) (Q : Nat → Prop) (u : Value) (hQ : ∀ b, Q b → b < W.heap.size) (hr : EvsAt Q W u es) => specRecOk_any pos key es Q u W hQ hr hk)
  have hbx : ∀ (W : World) o, Below W.heap.size W (W.alloc o) := fun W o => (Below.refl _ _).alloc (Nat.le_refl _) o
  have HBX := hide hbx
  obtain ⟨a, cap, rfl, -, -⟩ := hv
  generalize recOkB pos key es = R at *
  clear hcar hbx hP hT
  go_enter Tryd.func3, Tryd.ntmps3
  go_wp2_with fail
  refine (unhide HZ _ (unhide HBX _ _) _ (by omega) (by omega)).mono ?_
  rintro e w1 ⟨r, rfl, hr, hb1⟩
  obtain ⟨q1, hs1, hb01⟩ := kbox1 hb1
  clear hb1 HZ
  rcases hr with rfl | ⟨hr0, hr1⟩
  · have HB := hide hb01; clear hb01 q1
    go_wp2_with fail
    go_ret
    exact ⟨rfl, unhide HB⟩
  have hwt : wE es ≤ 1048576 := by omega
  have k0 := q1.cell (i := 0) (by omega); have k1 := q1.cell (i := 1) (by omega); have k2 := q1.cell (i := 2) (by omega)
  simp only [row3] at k0 k1 k2
  have Q1 := hide q1; have HB1 := hide hb01; have HWT := hide hwt
  clear q1 hb01 hwt hr1
  go_wp2_with fail
  refine (unhide HTO _ (unhide HB1) (unhide HWT)).mono ?_
  rintro e w2 ⟨a2, rfl, hrd, hb2⟩
  clear k0 k1 k2
  have hs2 := hb2.size
  have HS := hide (unhide HSP w2 _ _ (fun b hb => hb.2) hrd)
  have Q2 := hide ((unhide Q1).of_block (hb2.block _ (by omega))); have HB2 := hide ((unhide HB1).trans (hb2.mono (unhide HB1).size))
  clear hrd hb2 Q1 HB1 HSP
  go_wp2_with fail
  refine (unhide HS).mono ?_
  rintro e w3 ⟨rfl, hb3⟩
  have hs3 := hb3.size
  have q3 := (unhide Q2).of_block (hb3.block _ (by omega)); have hb03 := (unhide HB2).trans (hb3.mono (unhide HB2).size)
  have k0 := q3.cell (i := 0) (by omega); have k1 := q3.cell (i := 1) (by omega); have k2 := q3.cell (i := 2) (by omega)
  simp only [row3] at k0 k1 k2
  have Q3 := hide q3; have HB3 := hide hb03
  clear q3 hb03 hb3 HS Q2 HB2
  go_wp2_with fail
  refine (unhide HTO _ (unhide HB3) (unhide HWT)).mono ?_
  rintro e w4 ⟨a4, rfl, hrx, hb4⟩
  clear k0 k1 k2
  have hs4 := hb4.size
  have q4 := (unhide Q3).of_block (hb4.block _ (by omega)); have hb04 := (unhide HB3).trans (hb4.mono (unhide HB3).size)
  have HI := hide (fun o => unhide HIM (w4.alloc o) (hb04.trans ((unhide HBX w4 o).mono hb04.size)) _ _ (fun b hb => Nat.lt_of_lt_of_le hb.2 (unhide HBX w4 o).size) (hrx.carry (fun b hb => (unhide HBX w4 o).block b hb.2) (fun _ h => h)))
  have HRX := hide hrx; have Q4 := hide q4; have HB4 := hide hb04
  clear hrx q4 hb04 hb4 Q3 HB3
  go_wp2_with fail
  refine (unhide HI _).mono ?_
  rintro e w5 ⟨rfl, hb5⟩
  obtain ⟨pX, hsX, hb45⟩ := kbox1 hb5
  have q5 := (unhide Q4).of_block (hb45.block _ (by omega))
  have hb05 := (unhide HB4).trans (hb45.mono (unhide HB4).size)
  have hrx5 : EvsAt (New w3 w4) w5 (.slice a4 es.length es.length) es := (unhide HRX).carry (fun b hb => hb45.block b hb.2) (fun _ h => h)
  have k0 := q5.cell (i := 0) (by omega); have k1 := q5.cell (i := 1) (by omega); have k2 := q5.cell (i := 2) (by omega)
  have j0 := pX.cell (i := 0) (by omega); have j1 := pX.cell (i := 1) (by omega); have j2 := pX.cell (i := 2) (by omega)
  simp only [row3] at k0 k1 k2 j0 j1 j2
  have PX := hide pX; have HB5 := hide hb05; have HRX5 := hide hrx5
  clear pX q5 hb05 hrx5 hb5 hb45 HI Q4 HB4 HRX
  go_wp2_with fail
  go_region_with (first
      | (go_at_call 7
         refine (unhide HTO w5.drew (unhide HB5).drew (unhide HWT)).mono ?_
         rintro e w7 ⟨a7, rfl, hry, hb7⟩
         have hb57 : Below w5.heap.size w5 w7 := (Below.refl _ w5).drew.trans hb7
         have pX7 := (unhide PX).of_block (hb57.block _ (unhide PX).lt)
         have i0 := pX7.cell (i := 0) (by omega)
         have i1 := pX7.cell (i := 1) (by omega)
         have i2 := pX7.cell (i := 2) (by omega)
         simp only [row3] at i0 i1 i2
         have HB7 := hide ((unhide HB5).trans (hb57.mono (unhide HB5).size))
         have HEK := hide (eqRecord_any pos key es (New w3 w4) (New w5.drew w7) _ _ w7 (fun b hb => by have h1 := hb.2; have h2 := hb57.size; omega) (fun b hb => hb.2) ((unhide HRX5).carry (fun b hb => hb57.block b (by have h1 := hb.2; omega)) (fun _ h => h)) hry)
         clear pX7 hry hb7 hb57)
      | (go_at_call 9
         refine (unhide HEK).mono ?_
         rintro e w8 ⟨rfl, hb8⟩
         have HB8 := hide ((unhide HB7).trans (hb8.mono (unhide HB7).size))
         clear hb8))
  all_goals
    go_wp2_with fail
    go_ret
    exact ⟨rfl, unhide HB8⟩

set_option maxRecDepth 100000 in
set_option maxHeartbeats 6400000 in
theorem lawRecPack_any (pos : Int) (key : ByteArray) (es : List Ev) (P : Nat → Prop) (v : Value) (w : World) (hP : ∀ b, P b → b < w.heap.size) (hv : EvsAt P w v es) (hk : key.size ≤ 9223372036854775807) (hT : Tab w) :
    Calls Tryd.prog 4 #[.agg #[.int .i64 pos, .string key, v]] w fun e w' => e = .returned (.bool true) ∧ Below w.heap.size w w' := by
  have hcar := fun (W : World) (hW : Below w.heap.size w W) => (⟨fun b hb => Nat.lt_of_lt_of_le (hP b hb) hW.size, hv.carry (fun b hb => hW.block b (hP b hb)) (fun _ h => h)⟩ : (∀ b, P b → b < W.heap.size) ∧ EvsAt P W v es)
  have HZ := hide (fun (W : World) (hW : Below w.heap.size w W) (l : Int) (h0 : 0 ≤ l) (h1 : l ≤ 1048576) => szRecord_any pos key es P v l W (hcar W hW).1 (hcar W hW).2 hk h0 h1)
  have HTO := hide (fun (W : World) (hW : Below w.heap.size w W) (hwt : wE es ≤ 1048576) => toRecord_any pos key es P v W (hcar W hW).1 (hcar W hW).2 hwt)
  have HIM := hide (fun (W : World) (hW : Below w.heap.size w W) (Q : Nat → Prop) (u : Value) (hQ : ∀ b, Q b → b < W.heap.size) (hr : EvsAt Q W u es) => implRecPack_any pos key es Q u W hQ hr hk (hT.of_block (hW.block 0 hT.lt)))
  have HSP := hide (fun (W : World) (Q : Nat → Prop) (u : Value) (hQ : ∀ b, Q b → b < W.heap.size) (hr : EvsAt Q W u es) => specRecPack_any pos key es Q u W hQ hr hk)
  have hbx : ∀ (W : World) o, Below W.heap.size W (W.alloc o) := fun W o => (Below.refl _ _).alloc (Nat.le_refl _) o
  have HBX := hide hbx
  obtain ⟨a, cap, rfl, -, -⟩ := hv
  generalize bA (recPackB pos key es) = R at *
  clear hcar hbx hP hT
  go_enter Tryd.func4, Tryd.ntmps4
  go_wp2_with fail
  refine (unhide HZ _ (unhide HBX _ _) _ (by omega) (by omega)).mono ?_
  rintro e w1 ⟨r, rfl, hr, hb1⟩
  obtain ⟨q1, hs1, hb01⟩ := kbox1 hb1
  clear hb1 HZ
  rcases hr with rfl | ⟨hr0, hr1⟩
  · have HB := hide hb01; clear hb01 q1
    go_wp2_with fail
    go_ret
    exact ⟨rfl, unhide HB⟩
  have hwt : wE es ≤ 1048576 := by omega
  have k0 := q1.cell (i := 0) (by omega); have k1 := q1.cell (i := 1) (by omega); have k2 := q1.cell (i := 2) (by omega)
  simp only [row3] at k0 k1 k2
  have Q1 := hide q1; have HB1 := hide hb01; have HWT := hide hwt
  clear q1 hb01 hwt hr1
  go_wp2_with fail
  refine (unhide HTO _ (unhide HB1) (unhide HWT)).mono ?_
  rintro e w2 ⟨a2, rfl, hrd, hb2⟩
  clear k0 k1 k2
  have hs2 := hb2.size
  have HS := hide (unhide HSP w2 _ _ (fun b hb => hb.2) hrd)
  have Q2 := hide ((unhide Q1).of_block (hb2.block _ (by omega))); have HB2 := hide ((unhide HB1).trans (hb2.mono (unhide HB1).size))
  clear hrd hb2 Q1 HB1 HSP
  go_wp2_with fail
  refine (unhide HS).mono ?_
  rintro e w3 ⟨rfl, hb3⟩
  have hs3 := hb3.size
  have q3 := (unhide Q2).of_block (hb3.block _ (by omega)); have hb03 := (unhide HB2).trans (hb3.mono (unhide HB2).size)
  have k0 := q3.cell (i := 0) (by omega); have k1 := q3.cell (i := 1) (by omega); have k2 := q3.cell (i := 2) (by omega)
  simp only [row3] at k0 k1 k2
  have Q3 := hide q3; have HB3 := hide hb03
  clear q3 hb03 hb3 HS Q2 HB2
  go_wp2_with fail
  refine (unhide HTO _ (unhide HB3) (unhide HWT)).mono ?_
  rintro e w4 ⟨a4, rfl, hrx, hb4⟩
  clear k0 k1 k2
  have hs4 := hb4.size
  have q4 := (unhide Q3).of_block (hb4.block _ (by omega)); have hb04 := (unhide HB3).trans (hb4.mono (unhide HB3).size)
  have HI := hide (fun o => unhide HIM (w4.alloc o) (hb04.trans ((unhide HBX w4 o).mono hb04.size)) _ _ (fun b hb => Nat.lt_of_lt_of_le hb.2 (unhide HBX w4 o).size) (hrx.carry (fun b hb => (unhide HBX w4 o).block b hb.2) (fun _ h => h)))
  have HRX := hide hrx; have Q4 := hide q4; have HB4 := hide hb04
  clear hrx q4 hb04 hb4 Q3 HB3
  go_wp2_with fail
  refine (unhide HI _).mono ?_
  rintro e w5 ⟨rfl, hb5⟩
  obtain ⟨pX, hsX, hb45⟩ := kbox1 hb5
  have q5 := (unhide Q4).of_block (hb45.block _ (by omega))
  have hb05 := (unhide HB4).trans (hb45.mono (unhide HB4).size)
  have hrx5 : EvsAt (New w3 w4) w5 (.slice a4 es.length es.length) es := (unhide HRX).carry (fun b hb => hb45.block b hb.2) (fun _ h => h)
  have k0 := q5.cell (i := 0) (by omega); have k1 := q5.cell (i := 1) (by omega); have k2 := q5.cell (i := 2) (by omega)
  have j0 := pX.cell (i := 0) (by omega); have j1 := pX.cell (i := 1) (by omega); have j2 := pX.cell (i := 2) (by omega)
  simp only [row3] at k0 k1 k2 j0 j1 j2
  have PX := hide pX; have HB5 := hide hb05; have HRX5 := hide hrx5
  clear pX q5 hb05 hrx5 hb5 hb45 HI Q4 HB4 HRX
  go_wp2_with fail
  go_region_with (first
      | (go_at_call 7
         refine (unhide HTO w5.drew (unhide HB5).drew (unhide HWT)).mono ?_
         rintro e w7 ⟨a7, rfl, hry, hb7⟩
         have hb57 : Below w5.heap.size w5 w7 := (Below.refl _ w5).drew.trans hb7
         have pX7 := (unhide PX).of_block (hb57.block _ (unhide PX).lt)
         have i0 := pX7.cell (i := 0) (by omega)
         have i1 := pX7.cell (i := 1) (by omega)
         have i2 := pX7.cell (i := 2) (by omega)
         simp only [row3] at i0 i1 i2
         have HB7 := hide ((unhide HB5).trans (hb57.mono (unhide HB5).size))
         have HEK := hide (eqRecord_any pos key es (New w3 w4) (New w5.drew w7) _ _ w7 (fun b hb => by have h1 := hb.2; have h2 := hb57.size; omega) (fun b hb => hb.2) ((unhide HRX5).carry (fun b hb => hb57.block b (by have h1 := hb.2; omega)) (fun _ h => h)) hry)
         clear pX7 hry hb7 hb57)
      | (go_at_call 9
         refine (unhide HEK).mono ?_
         rintro e w8 ⟨rfl, hb8⟩
         have HB8 := hide ((unhide HB7).trans (hb8.mono (unhide HB7).size))
         clear hb8))
  all_goals
    go_wp2_with fail
    go_ret
    exact ⟨rfl, unhide HB8⟩
end Go.Proofs.YtbigchdhpdgicaaDoor

/- What is read of a list of strings that comes in is one that lies in memory. No conditions. -/

namespace Go.Proofs.YtbigchdhpdgicaaDoor
open Go Go.RowKit Go.ChangeShapes Go.WideShapes Go.ChangeAt Go.Deep

theorem cellsStr : Tryd.prog.cellsOf 9 = 1 := by kernel_rfl

section
variable {H : Type} {enc : TypeId × Value → H} {W : World} {spare : Nat → Bool} {held : Bool}

theorem strs_of_trod {fuel : Nat} {v : Value} {x : DataW H × List MemPlace} (h : DataW.trod enc Tryd.prog W 0 spare held fuel 38 [v] = some x) :
    ∃ ss, StrsAt (fun b => b < W.heap.size) W v ss := by
  rcases open_strings Tryd.underlying38 Tryd.underlying9 cellsStr h with ⟨hcs, -⟩ | ⟨a, len, cap, ss, hcs, -, hl, hm, hz, -, hcell, hws⟩
  · simp only [List.cons.injEq, and_true] at hcs
    exact ⟨[], none, 0, hcs, by simp, fun i hi => by simp at hi⟩
  · simp only [List.cons.injEq, and_true] at hcs
    have hle : len ≤ ss.length := by rw [hz]; split <;> omega
    unfold maxLen at hm
    refine ⟨ss.take len, some a, cap, by rw [hcs]; simp; omega, by simp; omega, fun i hi => ?_⟩
    have hi' : i < len := by simp at hi; omega
    obtain ⟨b, off, spot⟩ := a
    have hspot : spot = none := by simpa [Addr.add] using World.cell?_spot (hcell 0 (by omega))
    subst hspot
    have hc := hcell i (by omega)
    rw [Addr.add_lit] at hc
    refine ⟨b, off, rfl, World.block_lt_of_cell? W _ hc, ?_, ?_⟩
    · rw [hc]; simp [show i < ss.length by omega]
    · have := hws ss[i] (List.getElem_mem (by omega)); unfold maxLen at this; simpa using this
end
end Go.Proofs.YtbigchdhpdgicaaDoor

/- What is read of a tree that comes in is a tree that lies in memory. No conditions. -/

namespace Go.Proofs.YtbigchdhpdgicaaDoor
open Go Go.RowKit Go.ChangeShapes Go.WideShapes Go.ChangeAt Go.Deep

theorem cellsTree : Tryd.prog.cellsOf 51 = 5 := by kernel_rfl
theorem oneTree : ∃ fs : Array Field, Tryd.prog.underlying 51 = some (.struct fs) ∧ oneCellFields Tryd.prog fs = true ∧ fs.map (·.type) = #[3, 3, 9, 38, 49] := ⟨_, Tryd.underlying51, by kernel_rfl, by kernel_rfl⟩

section
variable {H : Type} {enc : TypeId × Value → H} {W : World} {spare : Nat → Bool} {held : Bool}

set_option maxRecDepth 100000 in
theorem rep_of_trod : ∀ (fuel : Nat) (cs : List Value) (x : DataW H × List MemPlace), DataW.trod enc Tryd.prog W 0 spare held fuel 51 cs = some x →
    ∃ (t : Tr) (c : C5), cs = [c.c0, c.c1, c.c2, c.c3, c.c4] ∧ Rep (fun b => b < W.heap.size) W t c := by
  intro fuel
  induction fuel using Nat.strongRecOn with
  | ind fuel ih =>
    intro cs x h
    obtain ⟨fs, hu, hone, hty⟩ := oneTree
    obtain ⟨xs, n, hn, -, hlen, hxl, hf⟩ := DataW.trod_struct hu h
    rw [cellsTree] at hlen
    match cs, hlen with
    | [c0, c1, c2, c3, c4], _ =>
      have hsz : fs.size = 5 := by have := congrArg Array.size hty; simpa using this
      have hfield : ∀ (i : Nat) (T : TypeId), i < 5 → (#[3, 3, 9, 38, 49] : Array TypeId)[i]? = some T → ∃ y, DataW.trod enc Tryd.prog W 0 spare held n T (([c0, c1, c2, c3, c4].drop i).take 1) = some y := by
        intro i T hi hT
        have hfi : fs[i]? = some (fs[i]'(by omega)) := Array.getElem?_eq_getElem (by omega)
        obtain ⟨ho, hc⟩ := hone_of hone i _ hfi
        have := hf i _ hfi
        rw [ho, hc] at this
        have hTT : (fs[i]'(by omega)).type = T := by
          rw [← hty] at hT
          simpa [hsz, hi] using hT
        rw [hTT] at this
        exact ⟨xs[i]'(by omega), by rw [this]; exact List.getElem?_eq_getElem (by omega)⟩
      obtain ⟨y0, h0⟩ := hfield 0 _ (by omega) rfl
      obtain ⟨y1, h1⟩ := hfield 1 _ (by omega) rfl
      obtain ⟨y2, h2⟩ := hfield 2 _ (by omega) rfl
      obtain ⟨y3, h3⟩ := hfield 3 _ (by omega) rfl
      obtain ⟨y4, h4⟩ := hfield 4 _ (by omega) rfl
      simp only [List.drop_succ_cons, List.drop_zero, List.take_succ_cons, List.take_zero] at h0 h1 h2 h3 h4
      obtain ⟨s, e0, -, w0⟩ := DataW.trod_int Tryd.underlying3 h0
      obtain ⟨m, e1, -, w1⟩ := DataW.trod_int Tryd.underlying3 h1
      obtain ⟨tx, e2, -, w2⟩ := DataW.trod_string Tryd.underlying9 h2
      obtain ⟨ss, h3'⟩ := strs_of_trod h3
      simp only [List.cons.injEq, and_true] at e0 e1 e2
      have hw0 : I64 s := by have := bounds_i64 w0; exact ⟨by omega, by omega⟩
      have hw1 : I64 m := by have := bounds_i64 w1; exact ⟨by omega, by omega⟩
      unfold maxLen at w2
      rcases DataW.trod_slice Tryd.underlying49 h4 with ⟨hcs, -⟩ | ⟨a, len, cap, elems, rest, n', hn', hcs, -, -, hl, hm, hel, hget, -⟩
      · simp only [List.cons.injEq, and_true] at hcs
        refine ⟨.mk s m tx ss [], ⟨c0, c1, c2, c3, c4⟩, rfl, ?_⟩
        rw [Rep]
        exact ⟨e0, e1, e2, hw0, hw1, by simpa using w2, h3', none, 0, hcs, by simp, fun h => absurd rfl h⟩
      · simp only [List.cons.injEq, and_true] at hcs
        unfold maxLen at hm
        rw [cellsTree] at hget
        have hspot : 0 < len → a.spot = none := fun h0 => by
          have hgi := hget 0 h0
          rw [List.getElem?_eq_getElem (by omega)] at hgi
          obtain ⟨cs', hcs', htr⟩ := Option.bind_eq_some_iff.1 hgi
          obtain ⟨-, hl5, hcell⟩ := World.cells?_some hcs'
          have hc0 := hcell 0 (by omega)
          rw [List.getElem?_eq_getElem (by omega)] at hc0
          simpa [Addr.add] using World.cell?_spot hc0
        have hkid : ∀ i, i < len → ∃ (t : Tr) (c : C5), (∃ b o, a = ⟨b, o, none⟩ ∧ b < W.heap.size ∧ C5.at W b (o + i * 5) c) ∧ Rep (fun b => b < W.heap.size) W t c := by
          intro i hi
          have hgi := hget i hi
          rw [List.getElem?_eq_getElem (by omega)] at hgi
          obtain ⟨cs', hcs', htr⟩ := Option.bind_eq_some_iff.1 hgi
          obtain ⟨t, c, rfl, hrep⟩ := ih n' (by omega) cs' _ htr
          obtain ⟨-, -, hcell⟩ := World.cells?_some hcs'
          obtain ⟨b, off, spot⟩ := a
          have hsp : spot = none := hspot (by omega)
          subst hsp
          have hc0 := hcell 0 (by omega)
          have hc1 := hcell 1 (by omega); have hc2 := hcell 2 (by omega); have hc3 := hcell 3 (by omega); have hc4 := hcell 4 (by omega)
          simp only [Addr.add_lit, List.getElem?_cons_zero, List.getElem?_cons_succ, Nat.add_zero] at hc0 hc1 hc2 hc3 hc4
          exact ⟨t, c, ⟨b, off, rfl, World.block_lt_of_cell? W _ hc0, hc0, hc1, hc2, hc3, hc4⟩, hrep⟩
        obtain ⟨K, hK⟩ : ∃ K : Nat → Tr, ∀ i, i < len → ∃ c : C5, (∃ b o, a = ⟨b, o, none⟩ ∧ b < W.heap.size ∧ C5.at W b (o + i * 5) c) ∧ Rep (fun b => b < W.heap.size) W (K i) c :=
          ⟨fun i => if h : i < len then (hkid i h).choose else .mk 0 0 tx [] [], fun i hi => by simp only [hi, dif_pos]; exact (hkid i hi).choose_spec⟩
        refine ⟨.mk s m tx ss ((List.range len).map K), ⟨c0, c1, c2, c3, c4⟩, rfl, ?_⟩
        rw [Rep]
        refine ⟨e0, e1, e2, hw0, hw1, by simpa using w2, h3', some a, cap, by simpa using hcs, by simp; omega, fun hne => ?_⟩
        have h0len : 0 < len := by
          rcases Nat.eq_zero_or_pos len with h | h
          · subst h; exact absurd rfl hne
          · exact h
        obtain ⟨_, ⟨b, o, ha, hb, -⟩, -⟩ := hK 0 h0len
        subst ha
        refine ⟨b, o, rfl, hb, RepK.mk fun i hi => ?_⟩
        have hi' : i < len := by simpa using hi
        obtain ⟨c, ⟨b', o', ha', -, hat⟩, hr⟩ := hK i hi'
        simp only [Addr.mk.injEq, and_true] at ha'
        obtain ⟨rfl, rfl⟩ := ha'
        exact ⟨c, hat, by simpa using hr⟩
end
end Go.Proofs.YtbigchdhpdgicaaDoor

/- What is read of an event that comes in is an event that lies in memory. No conditions. -/

namespace Go.Proofs.YtbigchdhpdgicaaDoor
open Go Go.RowKit Go.ChangeShapes Go.WideShapes Go.ChangeAt Go.Deep

theorem cellsEvent : Tryd.prog.cellsOf 53 = 7 := by kernel_rfl
theorem cellsStr1 : Tryd.prog.cellsOf 9 = 1 := by kernel_rfl
theorem cellsInt1 : Tryd.prog.cellsOf 3 = 1 := by kernel_rfl
theorem fieldsEvent : ∃ fs : Array Field, Tryd.prog.underlying 53 = some (.struct fs) ∧ fs.size = 3 ∧ (fs[0]?).map (fun f => (f.type, f.offset)) = some (9, 0) ∧ (fs[1]?).map (fun f => (f.type, f.offset)) = some (3, 1) ∧ (fs[2]?).map (fun f => (f.type, f.offset)) = some (51, 2) := ⟨_, Tryd.underlying53, by kernel_rfl, by kernel_rfl, by kernel_rfl, by kernel_rfl⟩

section
variable {H : Type} {enc : TypeId × Value → H} {W : World} {spare : Nat → Bool} {held : Bool}

set_option maxRecDepth 100000 in
theorem event_of_trod {fuel : Nat} {cs : List Value} {x : DataW H × List MemPlace} (h : DataW.trod enc Tryd.prog W 0 spare held fuel 53 cs = some x) :
    ∃ (ty : ByteArray) (ver : Int) (t : Tr) (c : C5), cs = [.string ty, .int .i64 ver, c.c0, c.c1, c.c2, c.c3, c.c4] ∧ ty.size ≤ 9223372036854775807 ∧ I64 ver ∧ Rep (fun b => b < W.heap.size) W t c := by
  obtain ⟨fs, hu, hsz, f0, f1, f2⟩ := fieldsEvent
  obtain ⟨xs, n, hn, hx, hlen, hxl, hf⟩ := DataW.trod_struct hu h
  rw [cellsEvent] at hlen
  match cs, hlen with
  | [a, b, c0, c1, c2, c3, c4], _ =>
    simp only [Option.map_eq_some_iff, Prod.mk.injEq] at f0 f1 f2
    obtain ⟨g0, h0, t0, o0⟩ := f0
    obtain ⟨g1, h1, t1, o1⟩ := f1
    obtain ⟨g2, h2, t2, o2⟩ := f2
    have e0 := hf 0 _ h0
    have e1 := hf 1 _ h1
    have e2 := hf 2 _ h2
    rw [t0, o0, cellsStr1, List.getElem?_eq_getElem (by omega)] at e0
    rw [t1, o1, cellsInt1, List.getElem?_eq_getElem (by omega)] at e1
    rw [t2, o2, cellsTree, List.getElem?_eq_getElem (by omega)] at e2
    simp only [List.drop_succ_cons, List.drop_zero, List.take_succ_cons, List.take_zero] at e0 e1 e2
    obtain ⟨ty, r0, -, w0⟩ := DataW.trod_string Tryd.underlying9 e0
    obtain ⟨ver, r1, -, w1⟩ := DataW.trod_int Tryd.underlying3 e1
    obtain ⟨t, c, r2, hrep⟩ := rep_of_trod n _ _ e2
    simp only [List.cons.injEq, and_true] at r0 r1
    subst r0 r1
    unfold maxLen at w0
    refine ⟨ty, ver, t, c, by rw [r2], by simpa using w0, ?_, hrep⟩
    have := bounds_i64 w1
    exact ⟨by omega, by omega⟩
end
end Go.Proofs.YtbigchdhpdgicaaDoor
