/- The walks of the law's own heldIntS, markCrewHandS, heldCrewHandS, eqCrewWorld, markCrewWorld, heldCrewWorld. The marks count to at most 2^40. -/
import Derived.Test.YtibgjcejddpldaaGreatPart00
namespace Go.Proofs.YtibgjcejddpldaaGreat
open Go Go.RowKit

set_option maxHeartbeats 800000 in
theorem heldIntZ_any (v : Value) (n k : Nat) (w : World) {P : Nat → Prop} (hv : ZAt P w v (mZs k n)) (hP : ∀ b, P b → b < w.heap.size) (hk : k + n ≤ 1099511627776) :
    Calls Tryz.prog 60 #[v, .int .i64 k] w fun e w' => e = .returned (.int .i64 (k + n : Nat)) ∧ Below w.heap.size w w' := by
  obtain ⟨a, cap, rfl, hlen, hc⟩ := hv.open
  have hml : (mZs k n).length = n := by simp [mZs]
  have hc' : ∀ i, i < n → ∃ b o, a = some ⟨b, o, none⟩ ∧ P b ∧ w.cell? ⟨b, o + i, none⟩ = some (.int .i64 ((k + i : Nat) : Int)) := fun i hi => by
    obtain ⟨b, o, e, hp, h0⟩ := hc i (by rw [hml]; exact hi)
    have hg : (mZs k n)[i]'(by rw [hml]; exact hi) = ((k + i : Nat) : Int) := by simp [mZs]
    rw [hg] at h0
    exact ⟨b, o, e, hp, h0⟩
  rw [hml] at hlen ⊢
  have HC := hide hc'; have HP := hide hP
  clear hc hc' hP hv hml
  go_enter Tryz.func60, Tryz.ntmps60
  go_wp2_with fail
  go_loopw [1, 5] (fun kk i wr => ∃ (j m : Nat), j ≤ n ∧ m = k + j ∧ kk = .int .i64 (m : Nat) ∧ i = .int .i64 j ∧ Hid (Below w.heap.size w wr)) (fun _ i _ => n - (intOf i).toNat)
  case atStart => exact ⟨0, k, Nat.zero_le _, by omega, rfl, rfl, Below.refl _ _⟩
  case round =>
    obtain ⟨j, m, hj, hm, rfl, rfl, HB⟩ := hrel
    by_cases hlt : j < n
    · obtain ⟨b, o, rfl, hpb, h0⟩ := unhide HC j hlt
      have e0 : wr.cell? ⟨b, o + j, none⟩ = some (.int .i64 (m : Int)) := by rw [HB.out.cell (p := ⟨b, o + j, none⟩) (unhide HP b hpb), hm]; exact h0
      have hmb : m + 1 ≤ 1099511627776 := by omega
      have HMM := hide hm
      clear h0 hpb hm
      go_wp2_with fail
      go_roundw
      case rel => exact ⟨j + 1, m + 1, by omega, by have := unhide HMM; omega, by go_num, by go_num, HB⟩
      case measure => simp [intOf]; omega
    · go_wp2_with fail
      go_ret
      obtain rfl : j = n := by omega
      exact ⟨by rw [hm]; rfl, HB.out⟩
set_option maxHeartbeats 800000 in
theorem heldCrewHandS_any (v : Value) (n k : Nat) (w : World) {P : Nat → Prop} (hv : HAt P w v (mHs k n)) (hP : ∀ b, P b → b < w.heap.size) (hk : k + 2 * n ≤ 1099511627776) :
    Calls Tryz.prog 61 #[v, .int .i64 k] w fun e w' => e = .returned (.int .i64 (k + 2 * n : Nat)) ∧ Below w.heap.size w w' := by
  obtain ⟨a, cap, rfl, hlen, hc⟩ := hv.open
  have hml : (mHs k n).length = n := by simp [mHs]
  have hc' : ∀ i, i < n → ∃ b o, a = some ⟨b, o, none⟩ ∧ P b ∧ w.cell? ⟨b, o + i * 2, none⟩ = some (.int .i64 ((k + 2 * i : Nat) : Int)) ∧ w.cell? ⟨b, o + i * 2 + 1, none⟩ = some (.int .i64 ((k + 2 * i + 1 : Nat) : Int)) := fun i hi => by
    obtain ⟨b, o, e, hp, h0, h1⟩ := hc i (by rw [hml]; exact hi)
    have hg : (mHs k n)[i]'(by rw [hml]; exact hi) = ⟨((k + 2 * i : Nat) : Int), ((k + 2 * i + 1 : Nat) : Int)⟩ := by simp [mHs]
    rw [hg] at h0 h1
    exact ⟨b, o, e, hp, h0, h1⟩
  rw [hml] at hlen ⊢
  have HC := hide hc'; have HP := hide hP
  clear hc hc' hP hv hml
  go_enter Tryz.func61, Tryz.ntmps61
  go_wp2_with fail
  go_loopw [1, 5] (fun kk i wr => ∃ (j m : Nat), j ≤ n ∧ m = k + 2 * j ∧ kk = .int .i64 (m : Nat) ∧ i = .int .i64 j ∧ Hid (Below w.heap.size w wr)) (fun _ i _ => n - (intOf i).toNat)
  case atStart => exact ⟨0, k, Nat.zero_le _, by omega, rfl, rfl, Below.refl _ _⟩
  case round =>
    obtain ⟨j, m, hj, hm, rfl, rfl, HB⟩ := hrel
    by_cases hlt : j < n
    · obtain ⟨b, o, rfl, hpb, h0, h1⟩ := unhide HC j hlt
      have e0 : wr.cell? ⟨b, o + j * 2, none⟩ = some (.int .i64 (m : Int)) := by rw [HB.out.cell (p := ⟨b, o + j * 2, none⟩) (unhide HP b hpb), hm]; exact h0
      have e1 : wr.cell? ⟨b, o + j * 2 + 1, none⟩ = some (.int .i64 ((m : Int) + 1)) := by rw [HB.out.cell (p := ⟨b, o + j * 2 + 1, none⟩) (unhide HP b hpb), hm]; exact h1
      have hmb : m + 2 ≤ 1099511627776 := by omega
      have HMM := hide hm
      clear h0 h1 hpb hm
      go_wp2_with fail
      go_roundw
      case rel => exact ⟨j + 1, m + 2, by omega, by have := unhide HMM; omega, by go_num, by go_num, HB⟩
      case measure => simp [intOf]; omega
    · go_wp2_with fail
      go_ret
      obtain rfl : j = n := by omega
      exact ⟨by rw [hm]; rfl, HB.out⟩
set_option maxHeartbeats 1600000 in
theorem markCrewHandS_own (v : Value) (fs : List Hd) (F : List Nat) (k : Nat) (w : World) (hv : HOwn w v fs F) (hk : k + 2 * fs.length ≤ 1099511627776) :
    Calls Tryz.prog 59 #[v, .int .i64 k] w fun e w' => e = .returned (.int .i64 (k + 2 * fs.length : Nat)) ∧ HOwn w' v (mHs k fs.length) F ∧ Exc F w w' := by
  obtain ⟨a, cap, rfl, hlen, hc⟩ := hv
  rw [List.length_map] at hlen ⊢
  rcases hc with ⟨hfs, rfl⟩ | ⟨b, rfl, rfl, hfr, hc⟩
  · have hfs' : fs = [] := by simpa using hfs
    subst hfs'
    simp only [List.length_nil] at *
    go_enter Tryz.func59, Tryz.ntmps59
    go_wp2_with fail
    go_loopw [1, 5] (fun kk i wr => kk = .int .i64 k ∧ i = .int .i64 0 ∧ wr = w) (fun _ _ _ => 0)
    case atStart => exact ⟨rfl, rfl, rfl⟩
    case round =>
      obtain ⟨rfl, rfl, rfl⟩ := hrel
      go_wp2_with fail
      go_ret
      exact ⟨by simp, ⟨a, cap, by simp [mHs], by simp [mHs], Or.inl ⟨by simp [mHs], rfl⟩⟩, Exc.refl _ _⟩
  · have hM := FlatOwn.cells (n := 2) (rs := fs.map Hd.cs) hc hfr (by omega)
    rw [List.length_map] at hM
    generalize (fun q => ((fs.map Hd.cs).getD (q / 2) []).getD (q % 2) undef) = g at hM
    have hM0 : CellsAre w b (fs.length * 2) (partF (mkI k) g 0) := by
      have : partF (mkI k) g 0 = g := by funext q; simp [partF]
      rw [this]; exact hM
    have HM := hide hM0
    clear hM hM0 hfr hc
    generalize fs.length = n at *
    go_enter Tryz.func59, Tryz.ntmps59
    go_wp2_with fail
    go_loopw [1, 5] (fun kk i wr => ∃ (j m : Nat), j ≤ n ∧ m = k + 2 * j ∧ kk = .int .i64 (m : Nat) ∧ i = .int .i64 j ∧ Hid (CellsAre wr b (n * 2) (partF (mkI k) g (j * 2))) ∧ Hid (Exc [b] w wr)) (fun _ i _ => n - (intOf i).toNat)
    case atStart => exact ⟨0, k, Nat.zero_le _, by omega, rfl, rfl, by rw [Nat.zero_mul]; exact HM, Exc.refl _ _⟩
    case round =>
      obtain ⟨j, m, hj, hm, rfl, rfl, HC, HX⟩ := hrel
      by_cases hlt : j < n
      · have hmb2 : m + 2 ≤ 1099511627776 := by omega
        have HMM := hide hm
        have f0 : Value.int .i64 (m : Int) = mkI k (j * 2) := by unfold mkI; rw [hm]; congr 2; omega
        have f1 : Value.int .i64 ((m : Int) + 1) = mkI k (j * 2 + 1) := by unfold mkI; rw [hm]; congr 1; omega
        have y0 := HC.out.2 (j * 2) (by omega); have z0 := HC.out.1 (j * 2)
        have hs1 := HC.out.step (by omega) _ f0
        have y1 := hs1.2 (j * 2 + 1) (by omega); have z1 := hs1.1 (j * 2 + 1)
        have HS2 := hide (hs1.step (by omega) _ f1)
        have HX2 := hide (HX.out.trans ((Exc.set wr b (j * 2) (.int .i64 (m : Int)) (by simp)).trans (Exc.set _ b (j * 2 + 1) (.int .i64 ((m : Int) + 1)) (by simp))))
        clear hm f0 f1 hs1
        go_wp2_with fail
        go_roundw
        case rel => exact ⟨j + 1, m + 2, by omega, by have := unhide HMM; omega, by go_num, by go_num, by rw [Nat.add_mul]; exact HS2, unhide HX2⟩
        case measure => simp [intOf]; omega
      · go_wp2_with fail
        go_ret
        obtain rfl : j = n := by omega
        exact ⟨by rw [hm]; rfl, hs_of_cells hlen HC.out, HX.out⟩
end Go.Proofs.YtibgjcejddpldaaGreat

/- The walks of the law's own eqCrewWorld, markCrewWorld, heldCrewWorld. The marks count to at most 2^40. -/

namespace Go.Proofs.YtibgjcejddpldaaGreat
open Go Go.RowKit

def r18 (l : List Value) (i : Nat) : Value := l.getD i undef
theorem box18 (w : World) (c : Cw) (v : C7) (t : TypeId) : (w.alloc (.cells #[.int .i64 c.jobs, .int .i64 c.workers, .int .i64 c.window, .int .i64 c.next, .int .i64 c.reader, v.q, v.h, .int .i64 c.closer, v.r, .int .i64 c.keeper, v.g, .int .i64 c.due, v.o, .int .i64 c.user, v.t, .int .i64 c.room, v.s, .int .i64 c.ops] t)).rowIs w.heap.size t 18 (r18 [.int .i64 c.jobs, .int .i64 c.workers, .int .i64 c.window, .int .i64 c.next, .int .i64 c.reader, v.q, v.h, .int .i64 c.closer, v.r, .int .i64 c.keeper, v.g, .int .i64 c.due, v.o, .int .i64 c.user, v.t, .int .i64 c.room, v.s, .int .i64 c.ops]) :=
  World.rowIs_alloc w #[.int .i64 c.jobs, .int .i64 c.workers, .int .i64 c.window, .int .i64 c.next, .int .i64 c.reader, v.q, v.h, .int .i64 c.closer, v.r, .int .i64 c.keeper, v.g, .int .i64 c.due, v.o, .int .i64 c.user, v.t, .int .i64 c.room, v.s, .int .i64 c.ops] t _ (fun i hi => by
    have hi' : i < 18 := by simpa using hi
    rcases (show i = 0 ∨ i = 1 ∨ i = 2 ∨ i = 3 ∨ i = 4 ∨ i = 5 ∨ i = 6 ∨ i = 7 ∨ i = 8 ∨ i = 9 ∨ i = 10 ∨ i = 11 ∨ i = 12 ∨ i = 13 ∨ i = 14 ∨ i = 15 ∨ i = 16 ∨ i = 17 by omega) with rfl | rfl | rfl | rfl | rfl | rfl | rfl | rfl | rfl | rfl | rfl | rfl | rfl | rfl | rfl | rfl | rfl | rfl <;> rfl)
set_option maxRecDepth 100000 in
set_option maxHeartbeats 3200000 in
theorem eqCrewWorld_any (c : Cw) (v u : C7) (w : World) {P Q : Nat → Prop} (hv : CwAt P w c v) (hu : CwAt Q w c u) (hP : ∀ b, P b → b < w.heap.size) (hQ : ∀ b, Q b → b < w.heap.size) :
    Calls Tryz.prog 26 #[.agg #[.int .i64 c.jobs, .int .i64 c.workers, .int .i64 c.window, .int .i64 c.next, .int .i64 c.reader, v.q, v.h, .int .i64 c.closer, v.r, .int .i64 c.keeper, v.g, .int .i64 c.due, v.o, .int .i64 c.user, v.t, .int .i64 c.room, v.s, .int .i64 c.ops], .agg #[.int .i64 c.jobs, .int .i64 c.workers, .int .i64 c.window, .int .i64 c.next, .int .i64 c.reader, u.q, u.h, .int .i64 c.closer, u.r, .int .i64 c.keeper, u.g, .int .i64 c.due, u.o, .int .i64 c.user, u.t, .int .i64 c.room, u.s, .int .i64 c.ops]] w fun e w' => e = .returned (.bool true) ∧ Below w.heap.size w w' := by
  have hb0 : ∀ o o2, Below w.heap.size w ((w.alloc o).alloc o2) := fun o o2 => ((Below.refl _ _).alloc (Nat.le_refl _) o).alloc (by simp) o2
  have HQ := hide (fun (W : World) (hW : Below w.heap.size w W) => eqIntZ_any v.q u.q c.queue W (hv.q.carry (fun b hb => hW.block b (hP b hb)) (fun _ h => h)) (hu.q.carry (fun b hb => hW.block b (hQ b hb)) (fun _ h => h)) (fun b hb => Nat.lt_of_lt_of_le (hP b hb) hW.size) (fun b hb => Nat.lt_of_lt_of_le (hQ b hb) hW.size))
  have HH := hide (fun (W : World) (hW : Below w.heap.size w W) => eqCrewHandS_any v.h u.h c.hands W (hv.h.carry (fun b hb => hW.block b (hP b hb)) (fun _ h => h)) (hu.h.carry (fun b hb => hW.block b (hQ b hb)) (fun _ h => h)) (fun b hb => Nat.lt_of_lt_of_le (hP b hb) hW.size) (fun b hb => Nat.lt_of_lt_of_le (hQ b hb) hW.size))
  have HR := hide (fun (W : World) (hW : Below w.heap.size w W) => eqIntZ_any v.r u.r c.results W (hv.r.carry (fun b hb => hW.block b (hP b hb)) (fun _ h => h)) (hu.r.carry (fun b hb => hW.block b (hQ b hb)) (fun _ h => h)) (fun b hb => Nat.lt_of_lt_of_le (hP b hb) hW.size) (fun b hb => Nat.lt_of_lt_of_le (hQ b hb) hW.size))
  have HG := hide (fun (W : World) (hW : Below w.heap.size w W) => eqIntZ_any v.g u.g c.ring W (hv.g.carry (fun b hb => hW.block b (hP b hb)) (fun _ h => h)) (hu.g.carry (fun b hb => hW.block b (hQ b hb)) (fun _ h => h)) (fun b hb => Nat.lt_of_lt_of_le (hP b hb) hW.size) (fun b hb => Nat.lt_of_lt_of_le (hQ b hb) hW.size))
  have HO := hide (fun (W : World) (hW : Below w.heap.size w W) => eqIntZ_any v.o u.o c.out W (hv.o.carry (fun b hb => hW.block b (hP b hb)) (fun _ h => h)) (hu.o.carry (fun b hb => hW.block b (hQ b hb)) (fun _ h => h)) (fun b hb => Nat.lt_of_lt_of_le (hP b hb) hW.size) (fun b hb => Nat.lt_of_lt_of_le (hQ b hb) hW.size))
  have HT := hide (fun (W : World) (hW : Below w.heap.size w W) => eqIntZ_any v.t u.t c.got W (hv.t.carry (fun b hb => hW.block b (hP b hb)) (fun _ h => h)) (hu.t.carry (fun b hb => hW.block b (hQ b hb)) (fun _ h => h)) (fun b hb => Nat.lt_of_lt_of_le (hP b hb) hW.size) (fun b hb => Nat.lt_of_lt_of_le (hQ b hb) hW.size))
  have HS := hide (fun (W : World) (hW : Below w.heap.size w W) => eqIntZ_any v.s u.s c.shut W (hv.s.carry (fun b hb => hW.block b (hP b hb)) (fun _ h => h)) (hu.s.carry (fun b hb => hW.block b (hQ b hb)) (fun _ h => h)) (fun b hb => Nat.lt_of_lt_of_le (hP b hb) hW.size) (fun b hb => Nat.lt_of_lt_of_le (hQ b hb) hW.size))
  have HR1 := hide (fun o2 => (box18 w c v 26).alloc (o := o2))
  have hr2 := fun o => box18 (w.alloc o) c u 26
  simp only [World.size_alloc] at hr2
  have HR2 := hide hr2; have HB0 := hide hb0
  clear hv hu hP hQ hr2 hb0
  generalize hxjobs : c.jobs = xjobs at *
  generalize hxworkers : c.workers = xworkers at *
  generalize hxwindow : c.window = xwindow at *
  generalize hxnext : c.next = xnext at *
  generalize hxreader : c.reader = xreader at *
  generalize hxcloser : c.closer = xcloser at *
  generalize hxkeeper : c.keeper = xkeeper at *
  generalize hxdue : c.due = xdue at *
  generalize hxuser : c.user = xuser at *
  generalize hxroom : c.room = xroom at *
  generalize hxops : c.ops = xops at *
  obtain ⟨vq, vh, vr, vg, vo, vt, vs⟩ := v
  obtain ⟨uq, uh, ur, ug, uo, ut, us⟩ := u
  simp only at HQ HH HR HG HO HT HS HR1 HR2 ⊢
  go_enter Tryz.func26, Tryz.ntmps26
  go_wp2_with fail
  refine (unhide HQ _ (unhide HB0 _ _)).mono ?_
  rintro e w1 ⟨rfl, hb1⟩
  have q1 := (unhide HR1 _).of_block (hb1.block w.heap.size (by rw [World.size_alloc, World.size_alloc]; omega))
  have p1 := (unhide HR2 _).of_block (hb1.block (w.heap.size + 1) (by rw [World.size_alloc, World.size_alloc]; omega))
  have B1 := hide ((unhide HB0 _ _).trans (hb1.mono (unhide HB0 _ _).size))
  have k6 : w1.cell? ⟨w.heap.size, 6, none⟩ = some (vh) := q1.cell (i := 6) (by omega)
  have j6 : w1.cell? ⟨w.heap.size + 1, 6, none⟩ = some (uh) := p1.cell (i := 6) (by omega)
  have Q1 := hide q1; have P1 := hide p1
  clear hb1 q1 p1 HR1 HR2 HB0
  go_wp2_with fail
  clear k6 j6
  refine (unhide HH _ (unhide B1)).mono ?_
  rintro e w2 ⟨rfl, hb2⟩
  have q2 := (unhide Q1).of_block (hb2.block _ (unhide Q1).lt)
  have p2 := (unhide P1).of_block (hb2.block _ (unhide P1).lt)
  have B2 := hide ((unhide B1).trans (hb2.mono (unhide B1).size))
  have k7 : w2.cell? ⟨w.heap.size, 7, none⟩ = some (.int .i64 xcloser) := q2.cell (i := 7) (by omega)
  have j7 : w2.cell? ⟨w.heap.size + 1, 7, none⟩ = some (.int .i64 xcloser) := p2.cell (i := 7) (by omega)
  have k8 : w2.cell? ⟨w.heap.size, 8, none⟩ = some (vr) := q2.cell (i := 8) (by omega)
  have j8 : w2.cell? ⟨w.heap.size + 1, 8, none⟩ = some (ur) := p2.cell (i := 8) (by omega)
  have Q2 := hide q2; have P2 := hide p2
  clear hb2 q2 p2 Q1 P1 B1
  go_wp2_with fail
  clear k7 j7 k8 j8
  refine (unhide HR _ (unhide B2)).mono ?_
  rintro e w3 ⟨rfl, hb3⟩
  have q3 := (unhide Q2).of_block (hb3.block _ (unhide Q2).lt)
  have p3 := (unhide P2).of_block (hb3.block _ (unhide P2).lt)
  have B3 := hide ((unhide B2).trans (hb3.mono (unhide B2).size))
  have k9 : w3.cell? ⟨w.heap.size, 9, none⟩ = some (.int .i64 xkeeper) := q3.cell (i := 9) (by omega)
  have j9 : w3.cell? ⟨w.heap.size + 1, 9, none⟩ = some (.int .i64 xkeeper) := p3.cell (i := 9) (by omega)
  have k10 : w3.cell? ⟨w.heap.size, 10, none⟩ = some (vg) := q3.cell (i := 10) (by omega)
  have j10 : w3.cell? ⟨w.heap.size + 1, 10, none⟩ = some (ug) := p3.cell (i := 10) (by omega)
  have Q3 := hide q3; have P3 := hide p3
  clear hb3 q3 p3 Q2 P2 B2
  go_wp2_with fail
  clear k9 j9 k10 j10
  refine (unhide HG _ (unhide B3)).mono ?_
  rintro e w4 ⟨rfl, hb4⟩
  have q4 := (unhide Q3).of_block (hb4.block _ (unhide Q3).lt)
  have p4 := (unhide P3).of_block (hb4.block _ (unhide P3).lt)
  have B4 := hide ((unhide B3).trans (hb4.mono (unhide B3).size))
  have k11 : w4.cell? ⟨w.heap.size, 11, none⟩ = some (.int .i64 xdue) := q4.cell (i := 11) (by omega)
  have j11 : w4.cell? ⟨w.heap.size + 1, 11, none⟩ = some (.int .i64 xdue) := p4.cell (i := 11) (by omega)
  have k12 : w4.cell? ⟨w.heap.size, 12, none⟩ = some (vo) := q4.cell (i := 12) (by omega)
  have j12 : w4.cell? ⟨w.heap.size + 1, 12, none⟩ = some (uo) := p4.cell (i := 12) (by omega)
  have Q4 := hide q4; have P4 := hide p4
  clear hb4 q4 p4 Q3 P3 B3
  go_wp2_with fail
  clear k11 j11 k12 j12
  refine (unhide HO _ (unhide B4)).mono ?_
  rintro e w5 ⟨rfl, hb5⟩
  have q5 := (unhide Q4).of_block (hb5.block _ (unhide Q4).lt)
  have p5 := (unhide P4).of_block (hb5.block _ (unhide P4).lt)
  have B5 := hide ((unhide B4).trans (hb5.mono (unhide B4).size))
  have k13 : w5.cell? ⟨w.heap.size, 13, none⟩ = some (.int .i64 xuser) := q5.cell (i := 13) (by omega)
  have j13 : w5.cell? ⟨w.heap.size + 1, 13, none⟩ = some (.int .i64 xuser) := p5.cell (i := 13) (by omega)
  have k14 : w5.cell? ⟨w.heap.size, 14, none⟩ = some (vt) := q5.cell (i := 14) (by omega)
  have j14 : w5.cell? ⟨w.heap.size + 1, 14, none⟩ = some (ut) := p5.cell (i := 14) (by omega)
  have Q5 := hide q5; have P5 := hide p5
  clear hb5 q5 p5 Q4 P4 B4
  go_wp2_with fail
  clear k13 j13 k14 j14
  refine (unhide HT _ (unhide B5)).mono ?_
  rintro e w6 ⟨rfl, hb6⟩
  have q6 := (unhide Q5).of_block (hb6.block _ (unhide Q5).lt)
  have p6 := (unhide P5).of_block (hb6.block _ (unhide P5).lt)
  have B6 := hide ((unhide B5).trans (hb6.mono (unhide B5).size))
  have k15 : w6.cell? ⟨w.heap.size, 15, none⟩ = some (.int .i64 xroom) := q6.cell (i := 15) (by omega)
  have j15 : w6.cell? ⟨w.heap.size + 1, 15, none⟩ = some (.int .i64 xroom) := p6.cell (i := 15) (by omega)
  have k16 : w6.cell? ⟨w.heap.size, 16, none⟩ = some (vs) := q6.cell (i := 16) (by omega)
  have j16 : w6.cell? ⟨w.heap.size + 1, 16, none⟩ = some (us) := p6.cell (i := 16) (by omega)
  have Q6 := hide q6; have P6 := hide p6
  clear hb6 q6 p6 Q5 P5 B5
  go_wp2_with fail
  clear k15 j15 k16 j16
  refine (unhide HS _ (unhide B6)).mono ?_
  rintro e w7 ⟨rfl, hb7⟩
  have q7 := (unhide Q6).of_block (hb7.block _ (unhide Q6).lt)
  have p7 := (unhide P6).of_block (hb7.block _ (unhide P6).lt)
  have B7 := hide ((unhide B6).trans (hb7.mono (unhide B6).size))
  have k17 : w7.cell? ⟨w.heap.size, 17, none⟩ = some (.int .i64 xops) := q7.cell (i := 17) (by omega)
  have j17 : w7.cell? ⟨w.heap.size + 1, 17, none⟩ = some (.int .i64 xops) := p7.cell (i := 17) (by omega)
  have Q7 := hide q7; have P7 := hide p7
  clear hb7 q7 p7 Q6 P6 B6
  go_wp2_with fail
  go_ret
  exact ⟨rfl, unhide B7⟩
end Go.Proofs.YtibgjcejddpldaaGreat

/- The walks of the law's own markCrewWorld, heldCrewWorld over a world that owns its memory. The marks count to at most 2^40. -/

namespace Go.Proofs.YtibgjcejddpldaaGreat
open Go Go.RowKit

theorem ret_i {a b : Int} (h : a = b) : Ending.returned (.int .i64 a) = .returned (.int .i64 b) := by rw [h]
/-- Seven lists of blocks, none of which has one of another. -/
structure Dj7 (Fq Fh Fr Fg Fo Ft Fs : List Nat) : Prop where
  d0 : ∀ b, b ∈ Fq → b ∉ Fh ++ (Fr ++ (Fg ++ (Fo ++ (Ft ++ (Fs)))))
  d1 : ∀ b, b ∈ Fh → b ∉ Fr ++ (Fg ++ (Fo ++ (Ft ++ (Fs))))
  d2 : ∀ b, b ∈ Fr → b ∉ Fg ++ (Fo ++ (Ft ++ (Fs)))
  d3 : ∀ b, b ∈ Fg → b ∉ Fo ++ (Ft ++ (Fs))
  d4 : ∀ b, b ∈ Fo → b ∉ Ft ++ (Fs)
  d5 : ∀ b, b ∈ Ft → b ∉ Fs
theorem Exc.sub {F F' : List Nat} {w w' : World} (h : Exc F w w') (hs : ∀ b, b ∈ F → b ∈ F') : Exc F' w w' := ⟨h.os, h.tape, h.output, h.size, fun k hk hn => h.block k hk (fun hm => hn (hs k hm))⟩
/-- A world while it is marked: what it is now, its box. -/
structure MkSt (w wr : World) (c0 c : Cw) (v : C7) (Fq Fh Fr Fg Fo Ft Fs : List Nat) : Prop where
  own : CwOwn wr c v Fq Fh Fr Fg Fo Ft Fs
  exc : Exc (F7 Fq Fh Fr Fg Fo Ft Fs) w wr
  box : wr.rowIs w.heap.size 26 18 (r18 [.int .i64 c0.jobs, .int .i64 c0.workers, .int .i64 c0.window, .int .i64 c0.next, .int .i64 c0.reader, v.q, v.h, .int .i64 c0.closer, v.r, .int .i64 c0.keeper, v.g, .int .i64 c0.due, v.o, .int .i64 c0.user, v.t, .int .i64 c0.room, v.s, .int .i64 c0.ops])
theorem MkSt.q {w wr : World} {c0 c : Cw} {v : C7} {Fq Fh Fr Fg Fo Ft Fs : List Nat} {w' : World} {zs : List Int} (h : MkSt w wr c0 c v Fq Fh Fr Fg Fo Ft Fs) (hd : Dj7 Fq Fh Fr Fg Fo Ft Fs) (hl : ∀ b, b ∈ F7 Fq Fh Fr Fg Fo Ft Fs → b < w.heap.size) (hz : ZOwn w' v.q zs Fq) (hx : Exc Fq wr w') : MkSt w w' c0 { c with queue := zs } v Fq Fh Fr Fg Fo Ft Fs :=
  ⟨⟨hz, FlatOwn.carry h.own.h (fun b hb => hx.block b (Nat.lt_of_lt_of_le (hl b (by simp [F7, hb])) h.exc.size) (fun hm => (hd.d0 b hm) (List.mem_append_left _ hb))), FlatOwn.carry h.own.r (fun b hb => hx.block b (Nat.lt_of_lt_of_le (hl b (by simp [F7, hb])) h.exc.size) (fun hm => (hd.d0 b hm) (List.mem_append_right _ (List.mem_append_left _ hb)))), FlatOwn.carry h.own.g (fun b hb => hx.block b (Nat.lt_of_lt_of_le (hl b (by simp [F7, hb])) h.exc.size) (fun hm => (hd.d0 b hm) (List.mem_append_right _ (List.mem_append_right _ (List.mem_append_left _ hb))))), FlatOwn.carry h.own.o (fun b hb => hx.block b (Nat.lt_of_lt_of_le (hl b (by simp [F7, hb])) h.exc.size) (fun hm => (hd.d0 b hm) (List.mem_append_right _ (List.mem_append_right _ (List.mem_append_right _ (List.mem_append_left _ hb)))))), FlatOwn.carry h.own.t (fun b hb => hx.block b (Nat.lt_of_lt_of_le (hl b (by simp [F7, hb])) h.exc.size) (fun hm => (hd.d0 b hm) (List.mem_append_right _ (List.mem_append_right _ (List.mem_append_right _ (List.mem_append_right _ (List.mem_append_left _ hb))))))), FlatOwn.carry h.own.s (fun b hb => hx.block b (Nat.lt_of_lt_of_le (hl b (by simp [F7, hb])) h.exc.size) (fun hm => (hd.d0 b hm) (List.mem_append_right _ (List.mem_append_right _ (List.mem_append_right _ (List.mem_append_right _ (List.mem_append_right _ (hb))))))))⟩, h.exc.trans (hx.sub (fun b hb => by simp [F7, hb])), h.box.of_block (hx.block _ h.box.lt (fun hm => Nat.lt_irrefl _ (hl _ (by simp [F7, hm]))))⟩
theorem MkSt.h {w wr : World} {c0 c : Cw} {v : C7} {Fq Fh Fr Fg Fo Ft Fs : List Nat} {w' : World} {zs : List Hd} (h : MkSt w wr c0 c v Fq Fh Fr Fg Fo Ft Fs) (hd : Dj7 Fq Fh Fr Fg Fo Ft Fs) (hl : ∀ b, b ∈ F7 Fq Fh Fr Fg Fo Ft Fs → b < w.heap.size) (hz : HOwn w' v.h zs Fh) (hx : Exc Fh wr w') : MkSt w w' c0 { c with hands := zs } v Fq Fh Fr Fg Fo Ft Fs :=
  ⟨⟨FlatOwn.carry h.own.q (fun b hb => hx.block b (Nat.lt_of_lt_of_le (hl b (by simp [F7, hb])) h.exc.size) (fun hm => (hd.d0 b hb) (List.mem_append_left _ hm))), hz, FlatOwn.carry h.own.r (fun b hb => hx.block b (Nat.lt_of_lt_of_le (hl b (by simp [F7, hb])) h.exc.size) (fun hm => (hd.d1 b hm) (List.mem_append_left _ hb))), FlatOwn.carry h.own.g (fun b hb => hx.block b (Nat.lt_of_lt_of_le (hl b (by simp [F7, hb])) h.exc.size) (fun hm => (hd.d1 b hm) (List.mem_append_right _ (List.mem_append_left _ hb)))), FlatOwn.carry h.own.o (fun b hb => hx.block b (Nat.lt_of_lt_of_le (hl b (by simp [F7, hb])) h.exc.size) (fun hm => (hd.d1 b hm) (List.mem_append_right _ (List.mem_append_right _ (List.mem_append_left _ hb))))), FlatOwn.carry h.own.t (fun b hb => hx.block b (Nat.lt_of_lt_of_le (hl b (by simp [F7, hb])) h.exc.size) (fun hm => (hd.d1 b hm) (List.mem_append_right _ (List.mem_append_right _ (List.mem_append_right _ (List.mem_append_left _ hb)))))), FlatOwn.carry h.own.s (fun b hb => hx.block b (Nat.lt_of_lt_of_le (hl b (by simp [F7, hb])) h.exc.size) (fun hm => (hd.d1 b hm) (List.mem_append_right _ (List.mem_append_right _ (List.mem_append_right _ (List.mem_append_right _ (hb)))))))⟩, h.exc.trans (hx.sub (fun b hb => by simp [F7, hb])), h.box.of_block (hx.block _ h.box.lt (fun hm => Nat.lt_irrefl _ (hl _ (by simp [F7, hm]))))⟩
theorem MkSt.r {w wr : World} {c0 c : Cw} {v : C7} {Fq Fh Fr Fg Fo Ft Fs : List Nat} {w' : World} {zs : List Int} (h : MkSt w wr c0 c v Fq Fh Fr Fg Fo Ft Fs) (hd : Dj7 Fq Fh Fr Fg Fo Ft Fs) (hl : ∀ b, b ∈ F7 Fq Fh Fr Fg Fo Ft Fs → b < w.heap.size) (hz : ZOwn w' v.r zs Fr) (hx : Exc Fr wr w') : MkSt w w' c0 { c with results := zs } v Fq Fh Fr Fg Fo Ft Fs :=
  ⟨⟨FlatOwn.carry h.own.q (fun b hb => hx.block b (Nat.lt_of_lt_of_le (hl b (by simp [F7, hb])) h.exc.size) (fun hm => (hd.d0 b hb) (List.mem_append_right _ (List.mem_append_left _ hm)))), FlatOwn.carry h.own.h (fun b hb => hx.block b (Nat.lt_of_lt_of_le (hl b (by simp [F7, hb])) h.exc.size) (fun hm => (hd.d1 b hb) (List.mem_append_left _ hm))), hz, FlatOwn.carry h.own.g (fun b hb => hx.block b (Nat.lt_of_lt_of_le (hl b (by simp [F7, hb])) h.exc.size) (fun hm => (hd.d2 b hm) (List.mem_append_left _ hb))), FlatOwn.carry h.own.o (fun b hb => hx.block b (Nat.lt_of_lt_of_le (hl b (by simp [F7, hb])) h.exc.size) (fun hm => (hd.d2 b hm) (List.mem_append_right _ (List.mem_append_left _ hb)))), FlatOwn.carry h.own.t (fun b hb => hx.block b (Nat.lt_of_lt_of_le (hl b (by simp [F7, hb])) h.exc.size) (fun hm => (hd.d2 b hm) (List.mem_append_right _ (List.mem_append_right _ (List.mem_append_left _ hb))))), FlatOwn.carry h.own.s (fun b hb => hx.block b (Nat.lt_of_lt_of_le (hl b (by simp [F7, hb])) h.exc.size) (fun hm => (hd.d2 b hm) (List.mem_append_right _ (List.mem_append_right _ (List.mem_append_right _ (hb))))))⟩, h.exc.trans (hx.sub (fun b hb => by simp [F7, hb])), h.box.of_block (hx.block _ h.box.lt (fun hm => Nat.lt_irrefl _ (hl _ (by simp [F7, hm]))))⟩
theorem MkSt.g {w wr : World} {c0 c : Cw} {v : C7} {Fq Fh Fr Fg Fo Ft Fs : List Nat} {w' : World} {zs : List Int} (h : MkSt w wr c0 c v Fq Fh Fr Fg Fo Ft Fs) (hd : Dj7 Fq Fh Fr Fg Fo Ft Fs) (hl : ∀ b, b ∈ F7 Fq Fh Fr Fg Fo Ft Fs → b < w.heap.size) (hz : ZOwn w' v.g zs Fg) (hx : Exc Fg wr w') : MkSt w w' c0 { c with ring := zs } v Fq Fh Fr Fg Fo Ft Fs :=
  ⟨⟨FlatOwn.carry h.own.q (fun b hb => hx.block b (Nat.lt_of_lt_of_le (hl b (by simp [F7, hb])) h.exc.size) (fun hm => (hd.d0 b hb) (List.mem_append_right _ (List.mem_append_right _ (List.mem_append_left _ hm))))), FlatOwn.carry h.own.h (fun b hb => hx.block b (Nat.lt_of_lt_of_le (hl b (by simp [F7, hb])) h.exc.size) (fun hm => (hd.d1 b hb) (List.mem_append_right _ (List.mem_append_left _ hm)))), FlatOwn.carry h.own.r (fun b hb => hx.block b (Nat.lt_of_lt_of_le (hl b (by simp [F7, hb])) h.exc.size) (fun hm => (hd.d2 b hb) (List.mem_append_left _ hm))), hz, FlatOwn.carry h.own.o (fun b hb => hx.block b (Nat.lt_of_lt_of_le (hl b (by simp [F7, hb])) h.exc.size) (fun hm => (hd.d3 b hm) (List.mem_append_left _ hb))), FlatOwn.carry h.own.t (fun b hb => hx.block b (Nat.lt_of_lt_of_le (hl b (by simp [F7, hb])) h.exc.size) (fun hm => (hd.d3 b hm) (List.mem_append_right _ (List.mem_append_left _ hb)))), FlatOwn.carry h.own.s (fun b hb => hx.block b (Nat.lt_of_lt_of_le (hl b (by simp [F7, hb])) h.exc.size) (fun hm => (hd.d3 b hm) (List.mem_append_right _ (List.mem_append_right _ (hb)))))⟩, h.exc.trans (hx.sub (fun b hb => by simp [F7, hb])), h.box.of_block (hx.block _ h.box.lt (fun hm => Nat.lt_irrefl _ (hl _ (by simp [F7, hm]))))⟩
theorem MkSt.o {w wr : World} {c0 c : Cw} {v : C7} {Fq Fh Fr Fg Fo Ft Fs : List Nat} {w' : World} {zs : List Int} (h : MkSt w wr c0 c v Fq Fh Fr Fg Fo Ft Fs) (hd : Dj7 Fq Fh Fr Fg Fo Ft Fs) (hl : ∀ b, b ∈ F7 Fq Fh Fr Fg Fo Ft Fs → b < w.heap.size) (hz : ZOwn w' v.o zs Fo) (hx : Exc Fo wr w') : MkSt w w' c0 { c with out := zs } v Fq Fh Fr Fg Fo Ft Fs :=
  ⟨⟨FlatOwn.carry h.own.q (fun b hb => hx.block b (Nat.lt_of_lt_of_le (hl b (by simp [F7, hb])) h.exc.size) (fun hm => (hd.d0 b hb) (List.mem_append_right _ (List.mem_append_right _ (List.mem_append_right _ (List.mem_append_left _ hm)))))), FlatOwn.carry h.own.h (fun b hb => hx.block b (Nat.lt_of_lt_of_le (hl b (by simp [F7, hb])) h.exc.size) (fun hm => (hd.d1 b hb) (List.mem_append_right _ (List.mem_append_right _ (List.mem_append_left _ hm))))), FlatOwn.carry h.own.r (fun b hb => hx.block b (Nat.lt_of_lt_of_le (hl b (by simp [F7, hb])) h.exc.size) (fun hm => (hd.d2 b hb) (List.mem_append_right _ (List.mem_append_left _ hm)))), FlatOwn.carry h.own.g (fun b hb => hx.block b (Nat.lt_of_lt_of_le (hl b (by simp [F7, hb])) h.exc.size) (fun hm => (hd.d3 b hb) (List.mem_append_left _ hm))), hz, FlatOwn.carry h.own.t (fun b hb => hx.block b (Nat.lt_of_lt_of_le (hl b (by simp [F7, hb])) h.exc.size) (fun hm => (hd.d4 b hm) (List.mem_append_left _ hb))), FlatOwn.carry h.own.s (fun b hb => hx.block b (Nat.lt_of_lt_of_le (hl b (by simp [F7, hb])) h.exc.size) (fun hm => (hd.d4 b hm) (List.mem_append_right _ (hb))))⟩, h.exc.trans (hx.sub (fun b hb => by simp [F7, hb])), h.box.of_block (hx.block _ h.box.lt (fun hm => Nat.lt_irrefl _ (hl _ (by simp [F7, hm]))))⟩
theorem MkSt.t {w wr : World} {c0 c : Cw} {v : C7} {Fq Fh Fr Fg Fo Ft Fs : List Nat} {w' : World} {zs : List Int} (h : MkSt w wr c0 c v Fq Fh Fr Fg Fo Ft Fs) (hd : Dj7 Fq Fh Fr Fg Fo Ft Fs) (hl : ∀ b, b ∈ F7 Fq Fh Fr Fg Fo Ft Fs → b < w.heap.size) (hz : ZOwn w' v.t zs Ft) (hx : Exc Ft wr w') : MkSt w w' c0 { c with got := zs } v Fq Fh Fr Fg Fo Ft Fs :=
  ⟨⟨FlatOwn.carry h.own.q (fun b hb => hx.block b (Nat.lt_of_lt_of_le (hl b (by simp [F7, hb])) h.exc.size) (fun hm => (hd.d0 b hb) (List.mem_append_right _ (List.mem_append_right _ (List.mem_append_right _ (List.mem_append_right _ (List.mem_append_left _ hm))))))), FlatOwn.carry h.own.h (fun b hb => hx.block b (Nat.lt_of_lt_of_le (hl b (by simp [F7, hb])) h.exc.size) (fun hm => (hd.d1 b hb) (List.mem_append_right _ (List.mem_append_right _ (List.mem_append_right _ (List.mem_append_left _ hm)))))), FlatOwn.carry h.own.r (fun b hb => hx.block b (Nat.lt_of_lt_of_le (hl b (by simp [F7, hb])) h.exc.size) (fun hm => (hd.d2 b hb) (List.mem_append_right _ (List.mem_append_right _ (List.mem_append_left _ hm))))), FlatOwn.carry h.own.g (fun b hb => hx.block b (Nat.lt_of_lt_of_le (hl b (by simp [F7, hb])) h.exc.size) (fun hm => (hd.d3 b hb) (List.mem_append_right _ (List.mem_append_left _ hm)))), FlatOwn.carry h.own.o (fun b hb => hx.block b (Nat.lt_of_lt_of_le (hl b (by simp [F7, hb])) h.exc.size) (fun hm => (hd.d4 b hb) (List.mem_append_left _ hm))), hz, FlatOwn.carry h.own.s (fun b hb => hx.block b (Nat.lt_of_lt_of_le (hl b (by simp [F7, hb])) h.exc.size) (fun hm => (hd.d5 b hm) (hb)))⟩, h.exc.trans (hx.sub (fun b hb => by simp [F7, hb])), h.box.of_block (hx.block _ h.box.lt (fun hm => Nat.lt_irrefl _ (hl _ (by simp [F7, hm]))))⟩
theorem MkSt.s {w wr : World} {c0 c : Cw} {v : C7} {Fq Fh Fr Fg Fo Ft Fs : List Nat} {w' : World} {zs : List Int} (h : MkSt w wr c0 c v Fq Fh Fr Fg Fo Ft Fs) (hd : Dj7 Fq Fh Fr Fg Fo Ft Fs) (hl : ∀ b, b ∈ F7 Fq Fh Fr Fg Fo Ft Fs → b < w.heap.size) (hz : ZOwn w' v.s zs Fs) (hx : Exc Fs wr w') : MkSt w w' c0 { c with shut := zs } v Fq Fh Fr Fg Fo Ft Fs :=
  ⟨⟨FlatOwn.carry h.own.q (fun b hb => hx.block b (Nat.lt_of_lt_of_le (hl b (by simp [F7, hb])) h.exc.size) (fun hm => (hd.d0 b hb) (List.mem_append_right _ (List.mem_append_right _ (List.mem_append_right _ (List.mem_append_right _ (List.mem_append_right _ (hm)))))))), FlatOwn.carry h.own.h (fun b hb => hx.block b (Nat.lt_of_lt_of_le (hl b (by simp [F7, hb])) h.exc.size) (fun hm => (hd.d1 b hb) (List.mem_append_right _ (List.mem_append_right _ (List.mem_append_right _ (List.mem_append_right _ (hm))))))), FlatOwn.carry h.own.r (fun b hb => hx.block b (Nat.lt_of_lt_of_le (hl b (by simp [F7, hb])) h.exc.size) (fun hm => (hd.d2 b hb) (List.mem_append_right _ (List.mem_append_right _ (List.mem_append_right _ (hm)))))), FlatOwn.carry h.own.g (fun b hb => hx.block b (Nat.lt_of_lt_of_le (hl b (by simp [F7, hb])) h.exc.size) (fun hm => (hd.d3 b hb) (List.mem_append_right _ (List.mem_append_right _ (hm))))), FlatOwn.carry h.own.o (fun b hb => hx.block b (Nat.lt_of_lt_of_le (hl b (by simp [F7, hb])) h.exc.size) (fun hm => (hd.d4 b hb) (List.mem_append_right _ (hm)))), FlatOwn.carry h.own.t (fun b hb => hx.block b (Nat.lt_of_lt_of_le (hl b (by simp [F7, hb])) h.exc.size) (fun hm => (hd.d5 b hb) (hm))), hz⟩, h.exc.trans (hx.sub (fun b hb => by simp [F7, hb])), h.box.of_block (hx.block _ h.box.lt (fun hm => Nat.lt_irrefl _ (hl _ (by simp [F7, hm]))))⟩
def mkC (c : Cw) : Nat := c.queue.length + 2 * c.hands.length + c.results.length + c.ring.length + c.out.length + c.got.length + c.shut.length
def mCw (k : Nat) (c : Cw) : Cw := { c with queue := mZs (k) c.queue.length, hands := mHs (k + c.queue.length) c.hands.length, results := mZs (k + c.queue.length + 2 * c.hands.length) c.results.length, ring := mZs (k + c.queue.length + 2 * c.hands.length + c.results.length) c.ring.length, out := mZs (k + c.queue.length + 2 * c.hands.length + c.results.length + c.ring.length) c.out.length, got := mZs (k + c.queue.length + 2 * c.hands.length + c.results.length + c.ring.length + c.out.length) c.got.length, shut := mZs (k + c.queue.length + 2 * c.hands.length + c.results.length + c.ring.length + c.out.length + c.got.length) c.shut.length }
set_option maxRecDepth 100000 in
set_option maxHeartbeats 3200000 in
theorem markCrewWorld_own (c : Cw) (v : C7) (Fq Fh Fr Fg Fo Ft Fs : List Nat) (k : Nat) (w : World) (hv : CwOwn w c v Fq Fh Fr Fg Fo Ft Fs) (hd : Dj7 Fq Fh Fr Fg Fo Ft Fs) (hl : ∀ b, b ∈ F7 Fq Fh Fr Fg Fo Ft Fs → b < w.heap.size) (hk : k + mkC c ≤ 1099511627776) :
    Calls Tryz.prog 27 #[.agg #[.int .i64 c.jobs, .int .i64 c.workers, .int .i64 c.window, .int .i64 c.next, .int .i64 c.reader, v.q, v.h, .int .i64 c.closer, v.r, .int .i64 c.keeper, v.g, .int .i64 c.due, v.o, .int .i64 c.user, v.t, .int .i64 c.room, v.s, .int .i64 c.ops], .int .i64 k] w fun e w' => e = .returned (.int .i64 (k + mkC c : Nat)) ∧ CwOwn w' (mCw k c) v Fq Fh Fr Fg Fo Ft Fs ∧ Exc (F7 Fq Fh Fr Fg Fo Ft Fs) w w' := by
  unfold mkC at hk
  have hst : ∀ o, o = Obj.cells #[.int .i64 c.jobs, .int .i64 c.workers, .int .i64 c.window, .int .i64 c.next, .int .i64 c.reader, v.q, v.h, .int .i64 c.closer, v.r, .int .i64 c.keeper, v.g, .int .i64 c.due, v.o, .int .i64 c.user, v.t, .int .i64 c.room, v.s, .int .i64 c.ops] 26 → MkSt w (w.alloc o) c c v Fq Fh Fr Fg Fo Ft Fs := fun o ho => by
    subst ho
    exact ⟨hv.carry (fun b hb => Below.heap_alloc _ _ _ (hl b hb)), Exc.of_below ((Below.refl _ _).alloc (Nat.le_refl _) _), box18 w c v 26⟩
  have HD := hide hd; have HL := hide hl; have HST := hide hst
  clear hv hd hl hst
  obtain ⟨nq, hnq⟩ : ∃ n, n = c.queue.length := ⟨_, rfl⟩
  obtain ⟨nh, hnh⟩ : ∃ n, n = c.hands.length := ⟨_, rfl⟩
  obtain ⟨nr, hnr⟩ : ∃ n, n = c.results.length := ⟨_, rfl⟩
  obtain ⟨ng, hng⟩ : ∃ n, n = c.ring.length := ⟨_, rfl⟩
  obtain ⟨no, hno⟩ : ∃ n, n = c.out.length := ⟨_, rfl⟩
  obtain ⟨nt, hnt⟩ : ∃ n, n = c.got.length := ⟨_, rfl⟩
  obtain ⟨ns, hns⟩ : ∃ n, n = c.shut.length := ⟨_, rfl⟩
  go_enter Tryz.func27, Tryz.ntmps27
  go_wp2_with fail
  refine (markIntZ_own v.q c.queue Fq (k) _ (unhide HST _ rfl).own.q (by omega)).mono ?_
  rintro e w1 ⟨rfl, hz1, hx1⟩
  have hst1 := MkSt.q (unhide HST _ rfl) (unhide HD) (unhide HL) hz1 hx1
  have k6 : w1.cell? ⟨w.heap.size, 6, none⟩ = some v.h := hst1.box.cell (i := 6) (by omega)
  have HC1 := hide (markCrewHandS_own v.h c.hands Fh (k + c.queue.length) w1 hst1.own.h (by omega))
  have ST1 := hide hst1
  clear hz1 hx1 hst1 HST
  go_wp2_with fail
  clear k6
  refine (unhide HC1).mono ?_
  rintro e w2 ⟨rfl, hz2, hx2⟩
  have hst2 := MkSt.h (unhide ST1) (unhide HD) (unhide HL) hz2 hx2
  have k8 : w2.cell? ⟨w.heap.size, 8, none⟩ = some v.r := hst2.box.cell (i := 8) (by omega)
  have HC2 := hide (markIntZ_own v.r c.results Fr (k + c.queue.length + 2 * c.hands.length) w2 hst2.own.r (by omega))
  have ST2 := hide hst2
  clear hz2 hx2 hst2 ST1 HC1
  go_wp2_with fail
  clear k8
  refine (unhide HC2).mono ?_
  rintro e w3 ⟨rfl, hz3, hx3⟩
  have hst3 := MkSt.r (unhide ST2) (unhide HD) (unhide HL) hz3 hx3
  have k10 : w3.cell? ⟨w.heap.size, 10, none⟩ = some v.g := hst3.box.cell (i := 10) (by omega)
  have HC3 := hide (markIntZ_own v.g c.ring Fg (k + c.queue.length + 2 * c.hands.length + c.results.length) w3 hst3.own.g (by omega))
  have ST3 := hide hst3
  clear hz3 hx3 hst3 ST2 HC2
  go_wp2_with fail
  clear k10
  refine (unhide HC3).mono ?_
  rintro e w4 ⟨rfl, hz4, hx4⟩
  have hst4 := MkSt.g (unhide ST3) (unhide HD) (unhide HL) hz4 hx4
  have k12 : w4.cell? ⟨w.heap.size, 12, none⟩ = some v.o := hst4.box.cell (i := 12) (by omega)
  have HC4 := hide (markIntZ_own v.o c.out Fo (k + c.queue.length + 2 * c.hands.length + c.results.length + c.ring.length) w4 hst4.own.o (by omega))
  have ST4 := hide hst4
  clear hz4 hx4 hst4 ST3 HC3
  go_wp2_with fail
  clear k12
  refine (unhide HC4).mono ?_
  rintro e w5 ⟨rfl, hz5, hx5⟩
  have hst5 := MkSt.o (unhide ST4) (unhide HD) (unhide HL) hz5 hx5
  have k14 : w5.cell? ⟨w.heap.size, 14, none⟩ = some v.t := hst5.box.cell (i := 14) (by omega)
  have HC5 := hide (markIntZ_own v.t c.got Ft (k + c.queue.length + 2 * c.hands.length + c.results.length + c.ring.length + c.out.length) w5 hst5.own.t (by omega))
  have ST5 := hide hst5
  clear hz5 hx5 hst5 ST4 HC4
  go_wp2_with fail
  clear k14
  refine (unhide HC5).mono ?_
  rintro e w6 ⟨rfl, hz6, hx6⟩
  have hst6 := MkSt.t (unhide ST5) (unhide HD) (unhide HL) hz6 hx6
  have k16 : w6.cell? ⟨w.heap.size, 16, none⟩ = some v.s := hst6.box.cell (i := 16) (by omega)
  have HC6 := hide (markIntZ_own v.s c.shut Fs (k + c.queue.length + 2 * c.hands.length + c.results.length + c.ring.length + c.out.length + c.got.length) w6 hst6.own.s (by omega))
  have ST6 := hide hst6
  clear hz6 hx6 hst6 ST5 HC5
  go_wp2_with fail
  clear k16
  refine (unhide HC6).mono ?_
  rintro e w7 ⟨rfl, hz7, hx7⟩
  have hst7 := MkSt.s (unhide ST6) (unhide HD) (unhide HL) hz7 hx7
  have HF := hide hst7
  clear hz7 hx7 hst7 ST6 HC6
  go_wp2_with fail
  go_ret
  exact ⟨ret_i (by unfold mkC; omega), (unhide HF).own, (unhide HF).exc⟩
end Go.Proofs.YtibgjcejddpldaaGreat
