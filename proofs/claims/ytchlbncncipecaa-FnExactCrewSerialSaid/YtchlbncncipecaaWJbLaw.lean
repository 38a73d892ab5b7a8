/- The walks of the law's own functions on jobs: szCrewJobS, toCrewJobS, eqCrewJobS. No conditions but the weight, at most 2^20. -/
import Derived.Test.YtchlbncncipecaaJbDat
import Derived.Test.YtchlbncncipecaaWCwLaw
import Derived.Test.YtchlbncncipecaaNMp
namespace Go.Proofs.Ytchlbncncipecaa
open Go Go.RowKit

set_option maxHeartbeats 400000 in
theorem szIntS_any (v : Value) (zs : List Int) (P : Nat → Prop) (left : Int) (w : World) (hv : ZsAt P w v zs) (h0 : 0 ≤ left) (h1 : left ≤ 1048576) :
    Calls Try.prog 48 #[v, .int .i64 left] w fun e w' => ∃ r : Int, e = .returned (.int .i64 r) ∧ (r = -1 ∨ (0 ≤ r ∧ r + zs.length = left)) ∧ w' = w := by
  obtain ⟨a, cap, rfl, hlen, -⟩ := hv
  by_cases hneg : left - zs.length < 0
  · go_enter Try.func48, Try.ntmps48
    go_wp2_with fail
    go_ret
    exact ⟨_, rfl, Or.inl rfl, rfl⟩
  · go_enter Try.func48, Try.ntmps48
    go_wp2_with fail
    go_ret
    exact ⟨_, rfl, Or.inr ⟨by omega, by omega⟩, rfl⟩

set_option maxHeartbeats 400000 in
theorem szCrewJob_any (j : Jb) (P : Nat → Prop) (v : Value) (left : Int) (w : World) (hP : ∀ b, P b → b < w.heap.size) (hv : ZsAt P w v j.items) (h0 : 0 ≤ left) (h1 : left ≤ 1048576) :
    Calls Try.prog 57 #[.agg #[v, .int .i64 j.bad], .int .i64 left] w fun e w' => ∃ r : Int, e = .returned (.int .i64 r) ∧ (r = -1 ∨ (0 ≤ r ∧ r + j.items.length = left)) ∧ Below w.heap.size w w' := by
  have hbx : ∀ o, Below w.heap.size w (w.alloc o) := fun o => (Below.refl _ _).alloc (Nat.le_refl _) o
  have HZ := hide (fun o => szIntS_any v j.items P left (w.alloc o) (hv.carry (fun b hb => (hbx o).block b (hP b hb)) (fun _ h => h)) h0 h1)
  obtain ⟨a, cap, rfl, hlen, -⟩ := hv
  clear hP
  go_enter Try.func57, Try.ntmps57
  go_wp2_with fail
  refine (unhide HZ _).mono ?_
  rintro e w' ⟨r, rfl, hr, rfl⟩
  rcases hr with rfl | ⟨hr0, hr1⟩
  · go_wp2_with fail
    go_ret
    exact ⟨_, rfl, Or.inl rfl, hbx _⟩
  · have HR := hide hr1; clear hr1
    go_wp2_with fail
    go_ret
    exact ⟨_, rfl, Or.inr ⟨hr0, unhide HR⟩, hbx _⟩

set_option maxRecDepth 100000 in
set_option maxHeartbeats 800000 in
theorem szCrewJobS_any (js : List Jb) (P : Nat → Prop) (v : Value) (left : Int) (w : World) (hP : ∀ b, P b → b < w.heap.size) (hv : JbsAt P w v js) (h0 : 0 ≤ left) (h1 : left ≤ 1048576) :
    Calls Try.prog 24 #[v, .int .i64 left] w fun e w' => ∃ r : Int, e = .returned (.int .i64 r) ∧ (r = -1 ∨ (0 ≤ r ∧ r + wJ js = left)) ∧ Below w.heap.size w w' := by
  obtain ⟨a, cap, rfl, hlen, hc⟩ := hv
  have HC := hide hc; clear hc
  have HP := hide hP; clear hP
  by_cases hneg : left - js.length < 0
  · go_enter Try.func24, Try.ntmps24
    go_wp2_with fail
    go_ret
    exact ⟨_, rfl, Or.inl rfl, Below.refl _ _⟩
  · go_enter Try.func24, Try.ntmps24
    go_wp2_with fail
    go_loopw [1, 5] (fun l i wr => ∃ (k : Nat) (q : Int), k ≤ js.length ∧ i = .int .i64 k ∧ l = .int .i64 q ∧ 0 ≤ q ∧ q ≤ 1048576 ∧ Hid (q + js.length + wJ (js.take k) = left + k) ∧ Below w.heap.size w wr) (fun _ i _ => js.length - (intOf i).toNat)
    case atStart => exact ⟨0, _, Nat.zero_le _, rfl, rfl, by omega, by omega, by simp [Hid, wJ], Below.refl _ _⟩
    case round =>
      obtain ⟨k, q, hk, rfl, rfl, hq0, hq1, HQ, hb⟩ := hrel
      by_cases hlt : k < js.length
      · obtain ⟨b, o, rfl, hpb, au, cu, hc0, hc1, hz, -⟩ := unhide HC k hlt
        have e0 : wr.cell? ⟨b, o + k * 2, none⟩ = some (.slice au js[k].items.length cu) := by rw [hb.cell (unhide HP b hpb)]; exact hc0
        have e1 : wr.cell? ⟨b, o + k * 2 + 1, none⟩ = some (.int .i64 js[k].bad) := by rw [hb.cell (unhide HP b hpb)]; exact hc1
        have HCALL := hide (szCrewJob_any js[k] P _ q wr (fun b hb' => Nat.lt_of_lt_of_le (unhide HP b hb') hb.size) (hz.carry (fun b hb' => hb.block b (unhide HP b hb')) (fun _ h => h)) hq0 hq1)
        have HT := hide (wJ_take js k hlt)
        clear hz hc0 hc1 hpb
        generalize js[k] = jb at *
        go_wp2_with fail
        refine (unhide HCALL).mono ?_
        rintro e w' ⟨r, rfl, hr, hb'⟩
        have hb2 := hb.trans (hb'.mono hb.size)
        clear hb' HCALL
        rcases hr with rfl | ⟨hr0, hr1⟩
        · go_wp2_with fail
          go_ret
          exact ⟨_, rfl, Or.inl rfl, hb2⟩
        · have HR1 := hide hr1; clear hr1
          have hr2 : r ≤ 1048576 := by have := unhide HR1; omega
          go_wp2_with fail
          go_roundw
          case rel => exact ⟨k + 1, _, by omega, by go_num, rfl, by omega, by omega, by have := HQ.out; have := unhide HT; have := unhide HR1; show _ = _; omega, hb2⟩
          case measure => simp [intOf]; omega
      · go_wp2_with fail
        go_ret
        refine ⟨_, rfl, Or.inr ⟨hq0, ?_⟩, hb⟩
        have := HQ.out
        rw [List.take_of_length_le (by omega)] at this
        omega

theorem box2O {w w1 : World} {x0 x1 y0 y1 z0 z1 : Value} {tx ty tz : TypeId}
    (hb : Below (((w.alloc (.cells #[x0, x1] tx)).alloc (.cells #[y0, y1] ty)).alloc (.cells #[z0, z1] tz)).heap.size (((w.alloc (.cells #[x0, x1] tx)).alloc (.cells #[y0, y1] ty)).alloc (.cells #[z0, z1] tz)) w1) :
    w1.rowIs w.heap.size tx 2 (rowO x0 x1) ∧ w1.rowIs (w.heap.size + 1) ty 2 (rowO y0 y1) ∧ w1.rowIs (w.heap.size + 1 + 1) tz 2 (rowO z0 z1) ∧ w.heap.size + 3 ≤ w1.heap.size ∧ Below w.heap.size w w1 := by
  have e1 : (w.alloc (.cells #[x0, x1] tx)).heap.size = w.heap.size + 1 := by simp
  have e2 : ((w.alloc (.cells #[x0, x1] tx)).alloc (.cells #[y0, y1] ty)).heap.size = w.heap.size + 1 + 1 := by simp
  have r0 := ((rowO_alloc w x0 x1 tx).alloc (.cells #[y0, y1] ty)).alloc (.cells #[z0, z1] tz)
  have r1 := (rowO_alloc (w.alloc (.cells #[x0, x1] tx)) y0 y1 ty).alloc (.cells #[z0, z1] tz)
  have r2 := rowO_alloc ((w.alloc (.cells #[x0, x1] tx)).alloc (.cells #[y0, y1] ty)) z0 z1 tz
  rw [e1] at r1
  rw [e2] at r2
  have hs := hb.size
  refine ⟨r0.of_block (hb.block _ r0.lt), r1.of_block (hb.block _ r1.lt), r2.of_block (hb.block _ r2.lt), by simpa using hs, ?_⟩
  exact ((((Below.refl _ _).alloc (Nat.le_refl _) _).alloc (by simp) _).alloc (by simp; omega) _).trans (hb.mono (by simp; omega))

set_option maxRecDepth 100000 in
set_option maxHeartbeats 1600000 in
theorem toCrewJob_any (j : Jb) (P : Nat → Prop) (v : Value) (w : World) (hP : ∀ b, P b → b < w.heap.size) (hv : ZsAt P w v j.items) (hwt : j.items.length ≤ 1048576) :
    Calls Try.prog 60 #[.agg #[v, .int .i64 j.bad]] w fun e w' => ∃ a, e = .returned (.agg #[.slice a j.items.length j.items.length, .int .i64 j.bad]) ∧ ZsAt (NewF w w') w' (.slice a j.items.length j.items.length) j.items ∧ Below w.heap.size w w' := by
  have hbx : ∀ o o2 o3, Below w.heap.size w (((w.alloc o).alloc o2).alloc o3) := fun o o2 o3 => (((Below.refl _ _).alloc (Nat.le_refl _) o).alloc (by simp) o2).alloc (by simp; omega) o3
  have HBX := hide hbx
  have HTO := hide (fun (W : World) (hW : Below w.heap.size w W) => toIntS_any v j.items W (P := P) (fun b hb => Nat.lt_of_lt_of_le (hP b hb) hW.size) (hv.carry (fun b hb => hW.block b (hP b hb)) (fun _ h => h)) hwt)
  obtain ⟨av, cv, rfl, -, -⟩ := hv
  clear hbx hP
  go_enter Try.func60, Try.ntmps60
  go_wp2_with fail
  refine (unhide HTO _ (unhide HBX _ _ _)).mono ?_
  rintro e w1 ⟨v', rfl, rfl, hrow, hrx, hb1⟩
  obtain ⟨p0, p1, p2, hs1, hb01⟩ := box2O hb1
  simp only [World.size_alloc] at hrow hrx
  have hrx' : ZsAt (fun b => (w.heap.size + 3 ≤ b ∧ b < w1.heap.size) ∧ FreeB w1 b) w1 (.slice (some ⟨w.heap.size + 1 + 1 + 1, 0, none⟩) j.items.length j.items.length) j.items := by
    obtain ⟨a', cap', e, h2, h3⟩ := hrx
    simp only [Value.slice.injEq, true_and] at e
    obtain ⟨rfl, rfl⟩ := e
    refine ⟨_, _, rfl, h2, fun i hi => ?_⟩
    obtain ⟨b, o, e, hp, hc⟩ := h3 i hi
    simp only [Option.some.injEq, Addr.mk.injEq, and_true] at e
    obtain ⟨rfl, rfl⟩ := e
    exact ⟨_, _, rfl, ⟨⟨by omega, hrow.lt⟩, fun o => hrow.frozen o⟩, hc⟩
  have fa := p1.frozen; have fb := p2.frozen
  have x1 := p0.cell (i := 1) (by omega)
  have a0 := p1.cell (i := 0) (by omega); have a1 := p1.cell (i := 1) (by omega)
  have b0 := p2.cell (i := 0) (by omega); have b1 := p2.cell (i := 1) (by omega)
  simp [rowO] at x1 a0 a1 b0 b1
  have HRX := hide hrx'; have HB1 := hide hb01
  clear hrx hrx' hb1 hb01 p0 p1 p2 HTO HBX hrow
  go_wp2_with fail
  refine bodyPost_ret (v := .agg #[.slice (some ⟨w.heap.size + 1 + 1 + 1, 0, none⟩) j.items.length j.items.length, .int .i64 j.bad]) (by simp [results, Try.results60, go_sem, a0, a1]) rfl ⟨_, rfl, ?_, ?_⟩
  · refine (unhide HRX).carry (fun b hb => ?_) (fun b hb => ⟨⟨by omega, by simp only [size_setCell]; omega⟩, hb.2.of_block ?_⟩)
    · repeat rw [Below.heap_setCell _ _ _ _ (by simp <;> omega)]
    · repeat rw [Below.heap_setCell _ _ _ _ (by simp <;> omega)]
  · repeat refine Below.setCell ?_ (by simp <;> omega) _
    exact unhide HB1
end Go.Proofs.Ytchlbncncipecaa
