/- The walks of the law's own szLogPlan, toLogPlan, eqLogPlan. No conditions but toLogPlan's on how many parts. -/
import Derived.Test.YtmaojhacdelleaaDoorPlDat
import Derived.Test.YtmaojhacdelleaaDoorWDkTo
import Derived.Handy
namespace Go.Proofs.YtmaojhacdelleaaDoor
open Go Go.RowKit

def zP : Array Value := #[.int .i64 0, .int .i64 0, .int .i64 0, .int .i64 0]
theorem infoPart : (Tryd.prog.info? 36).map (fun i => (i.zero, i.size, i.bytes)) = some (some (.agg zP), 4, 32) := by kernel_rfl
theorem run_make_part (n : Nat) (h : n ≤ 1048576) (w : World) :
    (Instr.makeSlice 27 (.int .i64 (n : Int)) (.int .i64 (n : Int))).run Tryd.prog w = .ok (.slice (some ⟨w.heap.size, 0, none⟩) n n) (w.alloc (.cells (madeCells zP (n * 4)) 36)) := by
  obtain ⟨i, hi, he⟩ : ∃ i, Tryd.prog.info? 36 = some i ∧ (i.zero, i.size, i.bytes) = (some (.agg zP), 4, 32) := by
    have := infoPart
    cases h : Tryd.prog.info? 36 with
    | none => rw [h] at this; simp at this
    | some i => rw [h] at this; exact ⟨i, rfl, by simpa using this⟩
  simp only [Prod.mk.injEq] at he
  obtain ⟨e1, e2, e3⟩ := he
  have := run_make (P := Tryd.prog) w 27 36 i (.agg zP) Tryd.underlying27 hi e1 .i64 .i64 n n (by omega) (by omega) (by rw [e3]; omega) (by omega)
  rw [this, e2]
  simp [Value.cells]
theorem toLogPart_any (p : Pt) (w : World) :
    Calls Tryd.prog 17 #[.agg #[.int .i64 p.num, .int .i64 p.first, .int .i64 p.next, .int .i64 p.size]] w fun e w' => e = .returned (.agg #[.int .i64 p.num, .int .i64 p.first, .int .i64 p.next, .int .i64 p.size]) ∧ Below w.heap.size w w' := by
  have hb0 : ∀ o o2 o3, Below w.heap.size w (((w.alloc o).alloc o2).alloc o3) := fun o o2 o3 => (((Below.refl _ _).alloc (Nat.le_refl _) o).alloc (by simp) o2).alloc (by simp; omega) o3
  go_enter Tryd.func17, Tryd.ntmps17
  go_wp2_with fail
  refine bodyPost_ret (v := .agg #[.int .i64 p.num, .int .i64 p.first, .int .i64 p.next, .int .i64 p.size]) (by simp [results, Tryd.results17, go_sem]) rfl ⟨rfl, hb0 _ _ _⟩
theorem FLaid.step4 {w wr w' : World} {t : Nat} {rs : List (List Value)} {k : Nat} (hlt : k < rs.length) (hL : FLaid w wr t 4 rs k) (hb' : Below wr.heap.size wr w') (c0 c1 c2 c3 : Value) (hr : rs[k] = [c0, c1, c2, c3]) :
    FLaid w ((((w'.setCell ⟨w.heap.size, k * 4, none⟩ c0).setCell ⟨w.heap.size, k * 4 + 1, none⟩ c1).setCell ⟨w.heap.size, k * 4 + 2, none⟩ c2).setCell ⟨w.heap.size, k * 4 + 3, none⟩ c3) t 4 rs (k + 1) := by
  obtain ⟨f, hrow, hf⟩ := hL
  have hrow' := hrow.of_block (hb'.block _ hrow.lt)
  refine ⟨_, (((hrow'.set (k * 4) c0).set (k * 4 + 1) c1).set (k * 4 + 2) c2).set (k * 4 + 3) c3, fun i hi hil j hj => ?_⟩
  by_cases e : i = k
  · subst e
    rw [hr]
    rcases (show j = 0 ∨ j = 1 ∨ j = 2 ∨ j = 3 by omega) with rfl | rfl | rfl | rfl <;> simp
  · rw [if_neg (by omega), if_neg (by omega), if_neg (by omega), if_neg (by omega)]
    exact hf i (by omega) hil j hj

set_option maxHeartbeats 800000 in
theorem toLogPartS_any (v : Value) (fs : List Pt) (w : World) {P : Nat → Prop} (hP : ∀ b, P b → b < w.heap.size) (hv : PtsAt P w v fs) (h1 : fs.length ≤ 1048576) :
    Calls Tryd.prog 12 #[v] w fun e w' => ∃ a, e = .returned (.slice a fs.length fs.length) ∧ PtsAt (NewF w w') w' (.slice a fs.length fs.length) fs ∧ Below w.heap.size w w' := by
  obtain ⟨a, cap, rfl, hlen, hc⟩ := hv.open
  have HC := hide hc; have HP := hide hP; clear hc hP hv
  have hmk := run_make_part fs.length h1
  go_enter Tryd.func12, Tryd.ntmps12
  go_wp2_with fail
  clear hmk
  go_loopw [4] (fun i wr => ∃ (k : Nat), k ≤ fs.length ∧ i = .int .i64 k ∧ Hid (FLaid w wr 36 4 (fs.map Pt.cs) k) ∧ Below w.heap.size w wr) (fun i _ => fs.length - (intOf i).toNat)
  case atStart =>
    have h0 := FLaid.start w 36 4 zP (fs.map Pt.cs)
    rw [List.length_map] at h0
    exact ⟨0, Nat.zero_le _, rfl, hide h0, (Below.refl _ _).alloc (Nat.le_refl _) _⟩
  case round =>
    obtain ⟨k, hk, rfl, HL, hb⟩ := hrel
    by_cases hlt : k < fs.length
    · obtain ⟨b, o, rfl, hpb, hcell⟩ := unhide HC k hlt
      obtain ⟨e0, e1, e2, e3⟩ := hcell.carry (hb.block b (unhide HP b hpb))
      have HS := hide (toLogPart_any fs[k] wr)
      have HE := hide (show (fs.map Pt.cs)[k]'(by rw [List.length_map]; exact hlt) = [.int .i64 fs[k].num, .int .i64 fs[k].first, .int .i64 fs[k].next, .int .i64 fs[k].size] by rw [List.getElem_map]; rfl)
      clear hcell hpb
      generalize fs[k] = f at *
      go_wp2_with fail
      refine (unhide HS).mono ?_
      rintro e w' ⟨rfl, hb'⟩
      have hlk : k < (fs.map Pt.cs).length := by rw [List.length_map]; exact hlt
      have hrow := HL.out
      obtain ⟨ff, hrow, -⟩ := hrow
      have hrow' := hrow.of_block (hb'.block _ hrow.lt)
      rw [List.length_map] at hrow'
      have z0 := hrow'.frozen (k * 4); have z1 := hrow'.frozen (k * 4 + 1); have z2 := hrow'.frozen (k * 4 + 2); have z3 := hrow'.frozen (k * 4 + 3)
      have y0 := hrow'.cell (i := k * 4) (by omega); have y1 := hrow'.cell (i := k * 4 + 1) (by omega); have y2 := hrow'.cell (i := k * 4 + 2) (by omega); have y3 := hrow'.cell (i := k * 4 + 3) (by omega)
      have HB' := hide hb'
      clear hrow hrow' hb' HS e0 e1 e2 e3
      go_wp2_with fail
      go_roundw
      case rel =>
        have hb3 := hb.trans (HB'.out.mono hb.size)
        exact ⟨k + 1, by omega, by go_num, FLaid.step4 hlk HL.out HB'.out _ _ _ _ (unhide HE), (((hb3.setCell (Nat.le_refl _) _).setCell (Nat.le_refl _) _).setCell (Nat.le_refl _) _).setCell (Nat.le_refl _) _⟩
      case measure => simp [intOf]; omega
    · go_wp2_with fail
      go_ret
      obtain rfl : k = fs.length := by omega
      have hd := HL.out
      have hd2 : FlatAt (NewF w wr) wr (.slice (some ⟨w.heap.size, 0, none⟩) (fs.map Pt.cs).length (fs.map Pt.cs).length) 4 (fs.map Pt.cs) := FLaid.done (by rw [List.length_map]; exact hd) (by rw [List.length_map]; exact h1)
      rw [List.length_map] at hd2
      exact ⟨_, rfl, hd2, hb⟩

set_option maxHeartbeats 400000 in
theorem szLogPartS_any (a : Option Addr) (n cap : Nat) (left : Int) (w : World) (h0 : 0 ≤ left) (h1 : left ≤ 1048576) (hn : n ≤ 9223372036854775807) :
    Calls Tryd.prog 9 #[.slice a n cap, .int .i64 left] w fun e w' => (∃ r : Int, e = .returned (.int .i64 r) ∧ (r = -1 ∨ (0 ≤ r ∧ r + n = left))) ∧ Below w.heap.size w w' := by
  go_enter Tryd.func9, Tryd.ntmps9
  by_cases h : left - n < 0
  · go_wp2_with fail
    go_ret
    exact ⟨⟨-1, rfl, Or.inl rfl⟩, Below.refl _ _⟩
  · go_wp2_with fail
    go_ret
    exact ⟨⟨left - n, rfl, Or.inr ⟨by omega, by omega⟩⟩, Below.refl _ _⟩
set_option maxHeartbeats 400000 in
theorem szLogPlan_any (a : Option Addr) (n cap : Nat) (x y : Int) (w : World) (hn : n ≤ 9223372036854775807) :
    Calls Tryd.prog 4 #[.agg #[.slice a n cap, .int .i64 x, .int .i64 y], .int .i64 1048576] w fun e w' => (∃ r : Int, e = .returned (.int .i64 r) ∧ (r = -1 ∨ (0 ≤ r ∧ r + n = 1048576))) ∧ Below w.heap.size w w' := by
  have HS := hide (fun o => szLogPartS_any a n cap 1048576 (w.alloc o) (by omega) (by omega) hn)
  go_enter Tryd.func4, Tryd.ntmps4
  go_wp2_with fail
  refine (unhide HS _).mono ?_
  rintro e w1 ⟨⟨r, rfl, hr⟩, hb1⟩
  have HB := hide (((Below.refl _ w).alloc (Nat.le_refl _) _).trans (hb1.mono (by simp)))
  clear hb1 HS
  by_cases h : r < 0
  · go_wp2_with fail
    go_ret
    exact ⟨⟨-1, rfl, Or.inl rfl⟩, unhide HB⟩
  · have HR := hide hr
    clear hr
    go_wp2_with fail
    go_ret
    exact ⟨⟨r, rfl, unhide HR⟩, unhide HB⟩

theorem eqLogPart_any (p : Pt) (w : World) :
    Calls Tryd.prog 22 #[.agg #[.int .i64 p.num, .int .i64 p.first, .int .i64 p.next, .int .i64 p.size], .agg #[.int .i64 p.num, .int .i64 p.first, .int .i64 p.next, .int .i64 p.size]] w fun e w' => e = .returned (.bool true) ∧ Below w.heap.size w w' := by
  have hb0 : ∀ o o2, Below w.heap.size w ((w.alloc o).alloc o2) := fun o o2 => ((Below.refl _ _).alloc (Nat.le_refl _) o).alloc (by simp) o2
  go_enter Tryd.func22, Tryd.ntmps22
  go_wp2_with fail
  go_ret
  exact ⟨rfl, hb0 _ _⟩
set_option maxHeartbeats 800000 in
theorem eqLogPartS_any (v v2 : Value) (fs : List Pt) (w : World) {P Q : Nat → Prop} (hP : ∀ b, P b → b < w.heap.size) (hQ : ∀ b, Q b → b < w.heap.size) (hv : PtsAt P w v fs) (hv2 : PtsAt Q w v2 fs) :
    Calls Tryd.prog 15 #[v, v2] w fun e w' => e = .returned (.bool true) ∧ Below w.heap.size w w' := by
  obtain ⟨a, cap, rfl, hlen, hc⟩ := hv.open
  obtain ⟨a2, cap2, rfl, -, hc2⟩ := hv2.open
  have HC := hide hc; have HC2 := hide hc2; have HP := hide hP; have HQ := hide hQ; clear hc hc2 hP hQ hv hv2
  go_enter Tryd.func15, Tryd.ntmps15
  go_wp2_with fail
  go_loopw [5] (fun i wr => ∃ (k : Nat), k ≤ fs.length ∧ i = .int .i64 k ∧ Below w.heap.size w wr) (fun i _ => fs.length - (intOf i).toNat)
  case atStart => exact ⟨0, Nat.zero_le _, rfl, Below.refl _ _⟩
  case round =>
    obtain ⟨k, hk, rfl, hb⟩ := hrel
    by_cases hlt : k < fs.length
    · obtain ⟨b, o, rfl, hpb, hcell⟩ := unhide HC k hlt
      obtain ⟨b2, o2, rfl, hpb2, hcell2⟩ := unhide HC2 k hlt
      obtain ⟨e0, e1, e2, e3⟩ := hcell.carry (hb.block b (unhide HP b hpb))
      obtain ⟨g0, g1, g2, g3⟩ := hcell2.carry (hb.block b2 (unhide HQ b2 hpb2))
      have HCALL := hide (eqLogPart_any fs[k] wr.drew)
      clear hcell hpb hcell2 hpb2
      generalize fs[k] = f at *
      go_wp2_with fail
      go_region_with (go_at_call 22; refine (unhide HCALL).mono ?_; rintro e w' ⟨rfl, hb'⟩)
      all_goals
        have hb2 := hb.drew.trans (hb'.mono hb.drew.size)
        go_wp2_with fail
        go_roundw
        case rel => exact ⟨k + 1, by omega, by go_num, hb2⟩
        case measure => simp [intOf]; omega
    · go_wp2_with fail
      go_ret
      exact ⟨rfl, hb⟩
set_option maxHeartbeats 800000 in
theorem eqLogPlan_any (l : Pl) (a a2 : Option Addr) (cap cap2 : Nat) (w : World) {P Q : Nat → Prop} (hP : ∀ b, P b → b < w.heap.size) (hQ : ∀ b, Q b → b < w.heap.size) (hv : PtsAt P w (.slice a l.parts.length cap) l.parts) (hv2 : PtsAt Q w (.slice a2 l.parts.length cap2) l.parts) :
    Calls Tryd.prog 8 #[.agg #[.slice a l.parts.length cap, .int .i64 l.op, .int .i64 l.fi], .agg #[.slice a2 l.parts.length cap2, .int .i64 l.op, .int .i64 l.fi]] w fun e w' => e = .returned (.bool true) ∧ Below w.heap.size w w' := by
  have hb0 : ∀ o o2, Below w.heap.size w ((w.alloc o).alloc o2) := fun o o2 => ((Below.refl _ _).alloc (Nat.le_refl _) o).alloc (by simp) o2
  have HE := hide (fun o o2 => eqLogPartS_any _ _ l.parts ((w.alloc o).alloc o2) (fun b hb => Nat.lt_of_lt_of_le (hP b hb) (hb0 o o2).size) (fun b hb => Nat.lt_of_lt_of_le (hQ b hb) (hb0 o o2).size) (hv.carry (fun b hb => (hb0 o o2).block b (hP b hb)) (fun _ h => h)) (hv2.carry (fun b hb => (hb0 o o2).block b (hQ b hb)) (fun _ h => h)))
  have hr1 := row3_alloc w (.slice a l.parts.length cap) (.int .i64 l.op) (.int .i64 l.fi) 29
  have hr2 := fun o => row3_alloc (w.alloc o) (.slice a2 l.parts.length cap2) (.int .i64 l.op) (.int .i64 l.fi) 29
  simp only [World.size_alloc] at hr2
  have HR1 := hide hr1; have HR2 := hide hr2; have HB0 := hide hb0
  clear hv hv2 hP hQ hr1 hr2 hb0
  go_enter Tryd.func8, Tryd.ntmps8
  go_wp2_with fail
  refine (unhide HE _ _).mono ?_
  rintro e w1 ⟨rfl, hb1⟩
  have q1 := ((unhide HR1).alloc (.cells #[.slice a2 l.parts.length cap2, .int .i64 l.op, .int .i64 l.fi] 29)).of_block (hb1.block w.heap.size (by rw [World.size_alloc, World.size_alloc]; omega))
  have q2 := (unhide HR2 _).of_block (hb1.block (w.heap.size + 1) (by rw [World.size_alloc, World.size_alloc]; omega))
  have k1 := q1.cell (i := 1) (by omega); have k2 := q1.cell (i := 2) (by omega)
  have j1 := q2.cell (i := 1) (by omega); have j2 := q2.cell (i := 2) (by omega)
  simp only [row3] at k1 k2 j1 j2
  have HB := hide ((unhide HB0 _ _).trans (hb1.mono (unhide HB0 _ _).size))
  clear q1 q2 hb1 HE
  generalize l.op = x at *
  generalize l.fi = y at *
  go_wp2_with fail
  go_ret
  exact ⟨rfl, unhide HB⟩
set_option maxHeartbeats 800000 in
theorem toLogPlan_any (l : Pl) (v : Value) (w : World) {P : Nat → Prop} (hP : ∀ b, P b → b < w.heap.size) (hv : PtsAt P w v l.parts) (h1 : l.parts.length ≤ 1048576) :
    Calls Tryd.prog 6 #[.agg #[v, .int .i64 l.op, .int .i64 l.fi]] w fun e w' => ∃ a, e = .returned (.agg #[.slice a l.parts.length l.parts.length, .int .i64 l.op, .int .i64 l.fi]) ∧ PtsAt (New w w') w' (.slice a l.parts.length l.parts.length) l.parts ∧ Below w.heap.size w w' := by
  have hb0 : ∀ o o2 o3, Below w.heap.size w (((w.alloc o).alloc o2).alloc o3) := fun o o2 o3 => (((Below.refl _ _).alloc (Nat.le_refl _) o).alloc (by simp) o2).alloc (by simp; omega) o3
  have HE := hide (fun o o2 o3 => toLogPartS_any v l.parts (((w.alloc o).alloc o2).alloc o3) (P := P) (fun b hb => Nat.lt_of_lt_of_le (hP b hb) (hb0 o o2 o3).size) (hv.carry (fun b hb => (hb0 o o2 o3).block b (hP b hb)) (fun _ h => h)) h1)
  obtain ⟨av, cv, rfl, -, -⟩ := hv.open
  have hr1 := row3_alloc w (.slice av l.parts.length cv) (.int .i64 l.op) (.int .i64 l.fi) 24
  have hr2 := fun o => row3_alloc (w.alloc o) (.slice none 0 0) (.int .i64 0) (.int .i64 0) 29
  have hr3 := fun o o2 => row3_alloc ((w.alloc o).alloc o2) (.slice none 0 0) (.int .i64 0) (.int .i64 0) 29
  simp only [World.size_alloc] at hr2 hr3
  have HR1 := hide hr1; have HR2 := hide hr2; have HR3 := hide hr3; have HB0 := hide hb0
  clear hv hP hr1 hr2 hr3 hb0
  go_enter Tryd.func6, Tryd.ntmps6
  go_wp2_with fail
  refine (unhide HE _ _ _).mono ?_
  rintro e w1 ⟨a, rfl, hat, hb1⟩
  have hs1 : w.heap.size + 3 ≤ w1.heap.size := by have := hb1.size; rw [World.size_alloc, World.size_alloc, World.size_alloc] at this; omega
  have q1 := (((unhide HR1).alloc (.cells #[.slice none 0 0, .int .i64 0, .int .i64 0] 29)).alloc (.cells #[.slice none 0 0, .int .i64 0, .int .i64 0] 29)).of_block (hb1.block w.heap.size (by rw [World.size_alloc, World.size_alloc, World.size_alloc]; omega))
  have q2 := ((unhide HR2 (.cells #[.slice av l.parts.length cv, .int .i64 l.op, .int .i64 l.fi] 24)).alloc (.cells #[.slice none 0 0, .int .i64 0, .int .i64 0] 29)).of_block (hb1.block (w.heap.size + 1) (by rw [World.size_alloc, World.size_alloc, World.size_alloc]; omega))
  have q3 := (unhide HR3 (.cells #[.slice av l.parts.length cv, .int .i64 l.op, .int .i64 l.fi] 24) (.cells #[.slice none 0 0, .int .i64 0, .int .i64 0] 29)).of_block (hb1.block (w.heap.size + 1 + 1) (by rw [World.size_alloc, World.size_alloc, World.size_alloc]; omega))
  have k1 := q1.cell (i := 1) (by omega); have k2 := q1.cell (i := 2) (by omega)
  have j0 := q2.cell (i := 0) (by omega); have j1 := q2.cell (i := 1) (by omega); have j2 := q2.cell (i := 2) (by omega)
  have i0 := q3.cell (i := 0) (by omega); have i1 := q3.cell (i := 1) (by omega); have i2 := q3.cell (i := 2) (by omega)
  have z0 := q2.frozen 0; have z1 := q2.frozen 1; have z2 := q2.frozen 2
  have y0 := q3.frozen 0; have y1 := q3.frozen 1; have y2 := q3.frozen 2
  simp only [row3] at k1 k2 j0 j1 j2 i0 i1 i2
  have hb01 := (unhide HB0 _ _ _).trans (hb1.mono (unhide HB0 _ _ _).size)
  have hlo : ∀ b, NewF (((w.alloc (.cells #[.slice av l.parts.length cv, .int .i64 l.op, .int .i64 l.fi] 24)).alloc (.cells #[.slice none 0 0, .int .i64 0, .int .i64 0] 29)).alloc (.cells #[.slice none 0 0, .int .i64 0, .int .i64 0] 29)) w1 b → w.heap.size + 3 ≤ b ∧ b < w1.heap.size := fun b hb => ⟨by have := hb.1.1; rw [World.size_alloc, World.size_alloc, World.size_alloc] at this; omega, hb.1.2⟩
  have HAT := hide hat; have HLO := hide hlo; have HB := hide hb01
  clear hat hlo hb01 hb1 q1 q2 q3 HE HR1 HR2 HR3 HB0
  go_wp2_with fail
  refine bodyPost_ret (v := .agg #[.slice a l.parts.length l.parts.length, .int .i64 l.op, .int .i64 l.fi]) (by simp [results, Tryd.results6, go_sem, j0, j1, j2]) rfl ⟨a, rfl, (unhide HAT).carry (fun b hb => ?_) (fun b hb => ⟨by have := (unhide HLO b hb).1; omega, by simp only [size_setCell]; exact (unhide HLO b hb).2⟩), ?_⟩
  · have := (unhide HLO b hb).1
    repeat rw [Below.heap_setCell _ _ _ _ (by simp; omega)]
  · repeat refine Below.setCell ?_ (by simp <;> omega) _
    exact unhide HB
end Go.Proofs.YtmaojhacdelleaaDoor
