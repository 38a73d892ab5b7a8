/- The walks of the law's heldDiskFileS, heldDiskMoveS, heldDisk: of what was marked they tell the next mark, and turn nothing that was there. For marks up to 2^40. -/
import Derived.Test.YtmaojhacdelleaaPart27
import Derived.Deep.RegionWith
import Derived.Test.YtmaojhacdelleaaPart00
import Derived.Test.YtmaojhacdelleaaPart01
namespace Go.Proofs.Ytmaojhacdelleaa
open Go Go.RowKit

theorem markText_at (m : Nat) (w : World) (hm0 : 0 < m) (hm : m ≤ 1099511627776) (b o : Nat) (v : Value) (hc : w.cell? ⟨b, o, none⟩ = some v) :
    Calls Try.prog 93 #[.int .i64 (m : Int)] w.drew fun e w' => e = .returned (.string (mtx m)) ∧ Below w.heap.size w w' ∧ w'.cell? ⟨b, o, none⟩ = some v :=
  (markText_any m w.drew hm0 hm).mono fun e w' ⟨h1, h2⟩ => ⟨h1, (Below.refl _ w).drew.trans h2, by rw [h2.cell (p := ⟨b, o, none⟩) (World.block_lt_of_cell? w _ hc)]; exact hc⟩

set_option maxHeartbeats 1600000 in
theorem heldDiskFileS_any (v : Value) (n k : Nat) (w : World) {P : Nat → Prop} (hv : FsAt P w v (mFs k n)) (hP : ∀ b, P b → b < w.heap.size) (hk0 : 0 < k) (hk : k + 3 * n ≤ 1099511627776) :
    Calls Try.prog 54 #[v, .int .i64 k] w fun e w' => e = .returned (.int .i64 (k + 3 * n : Nat)) ∧ Below w.heap.size w w' := by
  obtain ⟨a, cap, rfl, hlen, hc⟩ := hv.open
  have hml : (mFs k n).length = n := by simp [mFs]
  have hc' : ∀ i, i < n → ∃ b o, a = some ⟨b, o, none⟩ ∧ P b ∧ C3.at w b (o + i * 3) ⟨.string (mtx (k + 3 * i)), .string (mtx (k + 3 * i + 1)), .int .i64 ((k + 3 * i + 2 : Nat) : Int)⟩ := fun i hi => by
    obtain ⟨b, o, e, hp, hcell, _⟩ := hc i (by rw [hml]; exact hi)
    have hg : (mFs k n)[i]'(by rw [hml]; exact hi) = ⟨mtx (k + 3 * i), mtx (k + 3 * i + 1), ((k + 3 * i + 2 : Nat) : Int)⟩ := by simp [mFs]
    rw [hg] at hcell
    exact ⟨b, o, e, hp, hcell⟩
  rw [hml] at hlen ⊢
  have HC := hide hc'; have HP := hide hP
  clear hc hc' hP hv hml
  go_enter Try.func54, Try.ntmps54
  go_wp2_with fail
  go_loopw [1, 5] (fun kk i wr => ∃ (j m : Nat), j ≤ n ∧ m = k + 3 * j ∧ kk = .int .i64 (m : Nat) ∧ i = .int .i64 j ∧ Hid (Below w.heap.size w wr)) (fun _ i _ => n - (intOf i).toNat)
  case atStart => exact ⟨0, k, Nat.zero_le _, by omega, rfl, rfl, Below.refl _ _⟩
  case round =>
    obtain ⟨j, m, hj, hm, rfl, rfl, HB⟩ := hrel
    by_cases hlt : j < n
    · obtain ⟨b, o, rfl, hpb, hcell⟩ := unhide HC j hlt
      obtain ⟨e0, e1, e2⟩ := hcell.carry (HB.out.block b (unhide HP b hpb))
      simp only [← hm] at e0 e1 e2
      have hmb : m + 3 ≤ 1099511627776 := by omega
      have hm0 : 0 < m := by omega
      have hii : (j : Int) < (n : Int) := by omega
      have HMM := hide hm
      have hbl := World.block_lt_of_cell? wr _ e0
      have HC1 := hide (markText_at m wr (by omega) (by omega) b (o + j * 3) _ e0)
      have HE1 := hide e1; have HE2 := hide e2
      clear hcell hpb hm e1 e2
      go_wp2_with fail
      go_region_with (go_at_call 93; refine (unhide HC1).mono ?_; rintro e w1 ⟨rfl, hb1, hc1⟩)
      all_goals
        have e1 : w1.cell? ⟨b, o + j * 3 + 1, none⟩ = some (.string (mtx (m + 1))) := by rw [hb1.cell (p := ⟨b, o + j * 3 + 1, none⟩) hbl]; exact unhide HE1
        have e2 : w1.cell? ⟨b, o + j * 3 + 2, none⟩ = some (.int .i64 ((m + 2 : Nat) : Int)) := by rw [hb1.cell (p := ⟨b, o + j * 3 + 2, none⟩) hbl]; exact unhide HE2
        have hmt := markText_at (m + 1) w1 (by omega) (by omega) b (o + j * 3 + 1) _ e1
        rw [show ((m + 1 : Nat) : Int) = (m : Int) + 1 by omega] at hmt
        have HC2 := hide hmt
        have hbl1 := World.block_lt_of_cell? w1 _ e1
        have HEE := hide e2
        have HB1 := hide (HB.out.trans (hb1.mono HB.out.size))
        clear hmt e2 hb1
        go_wp2_with fail
        go_region_with (go_at_call 93; refine (unhide HC2).mono ?_; rintro e w2 ⟨rfl, hb2, hc2⟩)
        all_goals
          have e2 : w2.cell? ⟨b, o + j * 3 + 2, none⟩ = some (.int .i64 ((m : Int) + 2)) := by rw [hb2.cell (p := ⟨b, o + j * 3 + 2, none⟩) hbl1]; exact unhide HEE
          have HB2 := hide ((unhide HB1).trans (hb2.mono (unhide HB1).size))
          clear hb2
          go_wp2_with fail
          go_roundw
          case rel => exact ⟨j + 1, m + 3, by omega, by have := unhide HMM; omega, by go_num, by go_num, unhide HB2⟩
          case measure => simp [intOf]; omega
    · go_wp2_with fail
      go_ret
      obtain rfl : j = n := by omega
      exact ⟨by rw [hm]; rfl, HB.out⟩

set_option maxHeartbeats 1600000 in
theorem heldDiskMoveS_any (v : Value) (n k : Nat) (w : World) {P : Nat → Prop} (hv : MsAt P w v (mMs k n)) (hP : ∀ b, P b → b < w.heap.size) (hk0 : 0 < k) (hk : k + 2 * n ≤ 1099511627776) :
    Calls Try.prog 56 #[v, .int .i64 k] w fun e w' => e = .returned (.int .i64 (k + 2 * n : Nat)) ∧ Below w.heap.size w w' := by
  obtain ⟨a, cap, rfl, hlen, hc⟩ := hv.open
  have hml : (mMs k n).length = n := by simp [mMs]
  have hc' : ∀ i, i < n → ∃ b o, a = some ⟨b, o, none⟩ ∧ P b ∧ w.cell? ⟨b, o + i * 2, none⟩ = some (.bool (((k + 2 * i : Nat) : Int).tmod 3 == 0)) ∧ w.cell? ⟨b, o + i * 2 + 1, none⟩ = some (.string (mtx (k + 2 * i + 1))) := fun i hi => by
    obtain ⟨b, o, e, hp, h0, h1, _⟩ := hc i (by rw [hml]; exact hi)
    have hg : (mMs k n)[i]'(by rw [hml]; exact hi) = ⟨((k + 2 * i : Nat) : Int).tmod 3 == 0, mtx (k + 2 * i + 1)⟩ := by simp [mMs]
    rw [hg] at h0 h1
    exact ⟨b, o, e, hp, h0, h1⟩
  rw [hml] at hlen ⊢
  have HC := hide hc'; have HP := hide hP
  clear hc hc' hP hv hml
  go_enter Try.func56, Try.ntmps56
  go_wp2_with fail
  go_loopw [1, 5] (fun kk i wr => ∃ (j m : Nat), j ≤ n ∧ m = k + 2 * j ∧ kk = .int .i64 (m : Nat) ∧ i = .int .i64 j ∧ Hid (Below w.heap.size w wr)) (fun _ i _ => n - (intOf i).toNat)
  case atStart => exact ⟨0, k, Nat.zero_le _, by omega, rfl, rfl, Below.refl _ _⟩
  case round =>
    obtain ⟨j, m, hj, hm, rfl, rfl, HB⟩ := hrel
    by_cases hlt : j < n
    · obtain ⟨b, o, rfl, hpb, h0, h1⟩ := unhide HC j hlt
      have e0 : wr.cell? ⟨b, o + j * 2, none⟩ = some (.bool ((m : Int).tmod 3 == 0)) := by rw [HB.out.cell (p := ⟨b, o + j * 2, none⟩) (unhide HP b hpb), hm]; exact h0
      have e1 : wr.cell? ⟨b, o + j * 2 + 1, none⟩ = some (.string (mtx (m + 1))) := by rw [HB.out.cell (p := ⟨b, o + j * 2 + 1, none⟩) (unhide HP b hpb), hm]; exact h1
      have hmb : m + 2 ≤ 1099511627776 := by omega
      have hm0 : 0 < m := by omega
      have hii : (j : Int) < (n : Int) := by omega
      have HMM := hide hm
      have hmt := markText_at (m + 1) wr (by omega) (by omega) b (o + j * 2 + 1) _ e1
      rw [show ((m + 1 : Nat) : Int) = (m : Int) + 1 by omega] at hmt
      have HC1 := hide hmt
      clear h0 h1 hpb hm hmt
      go_wp2_with fail
      go_region_with (go_at_call 93; refine (unhide HC1).mono ?_; rintro e w1 ⟨rfl, hb1, hc1⟩)
      all_goals
        have HB1 := hide (HB.out.trans (hb1.mono HB.out.size))
        clear hb1
        go_wp2_with fail
        go_roundw
        case rel => exact ⟨j + 1, m + 2, by omega, by have := unhide HMM; omega, by go_num, by go_num, unhide HB1⟩
        case measure => simp [intOf]; omega
    · go_wp2_with fail
      go_ret
      obtain rfl : j = n := by omega
      exact ⟨by rw [hm]; rfl, HB.out⟩

set_option maxHeartbeats 1600000 in
theorem heldDisk_any (d : Dk) (k : Nat) (c : C3) (w : World) {P : Nat → Prop} (hP : ∀ b, P b → b < w.heap.size) (hv : DkAt P w (mDk k d) c) (hk0 : 0 < k) (hk : k + mkD d ≤ 1099511627776) :
    Calls Try.prog 15 #[.agg #[c.c0, c.c1, c.c2], .int .i64 k] w fun e w' => e = .returned (.int .i64 (k + mkD d : Nat)) ∧ Below w.heap.size w w' := by
  obtain ⟨c0, c1, c2⟩ := c
  unfold mkD at hk
  have hbx : ∀ o, Below w.heap.size w (w.alloc o) := fun o => (Below.refl _ _).alloc (Nat.le_refl _) o
  have HF := hide (fun o => heldDiskFileS_any c0 d.files.length k (w.alloc o) (hv.fs.carry (fun b hb => (hbx o).block b (hP b hb)) (fun _ h => h)) (fun b hb => Nat.lt_of_lt_of_le (hP b hb) (hbx o).size) hk0 (by omega))
  have HN := hide (fun (W : World) (hW : Below w.heap.size w W) => heldStringS_any c1 d.names (k + 3 * d.files.length) W (hv.ns.carry (fun b hb => hW.block b (hP b hb)) (fun _ h => h)) (fun b hb => Nat.lt_of_lt_of_le (hP b hb) hW.size) (by omega) (by omega))
  have HM := hide (fun (W : World) (hW : Below w.heap.size w W) => heldDiskMoveS_any c2 d.moves.length (k + 3 * d.files.length + d.names.length) W (hv.ms.carry (fun b hb => hW.block b (hP b hb)) (fun _ h => h)) (fun b hb => Nat.lt_of_lt_of_le (hP b hb) hW.size) (by omega) (by omega))
  have HROW := hide (row3_alloc w c0 c1 c2 34)
  have HBX := hide hbx
  clear hv hP hbx
  go_enter Try.func15, Try.ntmps15
  go_wp2_with fail
  refine (unhide HF _).mono ?_
  rintro e w1 ⟨rfl, hb1⟩
  have q1 := (unhide HROW).of_block (hb1.block w.heap.size (by simp))
  have k1 := q1.cell (i := 1) (by omega); have k2 := q1.cell (i := 2) (by omega)
  simp only [row3] at k1 k2
  have hb01 := (unhide HBX _).trans (hb1.mono (unhide HBX _).size)
  have HN1 := hide (unhide HN w1 hb01)
  have HB1 := hide hb01; have Q1 := hide q1
  have hs1 : w.heap.size < w1.heap.size := q1.lt
  clear hb1 q1 hb01 HF HN
  go_wp2_with fail
  refine (unhide HN1).mono ?_
  rintro e w2 ⟨rfl, hb2⟩
  have q2 := (unhide Q1).of_block (hb2.block w.heap.size hs1)
  have k2 := q2.cell (i := 2) (by omega)
  simp only [row3] at k2
  have hb02 := (unhide HB1).trans (hb2.mono (unhide HB1).size)
  have HM2 := hide (unhide HM w2 hb02)
  have HB2 := hide hb02
  clear hb2 q2 hb02 HN1 HM HB1 Q1 k1
  go_wp2_with fail
  refine (unhide HM2).mono ?_
  rintro e w3 ⟨rfl, hb3⟩
  have HB3 := hide ((unhide HB2).trans (hb3.mono (unhide HB2).size))
  clear hb3
  go_wp2_with fail
  go_ret
  exact ⟨by unfold mkD; rw [show k + (3 * d.files.length + d.names.length + 2 * d.moves.length) = k + 3 * d.files.length + d.names.length + 2 * d.moves.length by omega]; rfl, unhide HB3⟩
end Go.Proofs.Ytmaojhacdelleaa

/- The walks of the law's szDiskFile, szDiskFileS, szDiskMove, szDiskMoveS, szDisk: what they answer, and that they turn nothing that was there. No conditions. -/

namespace Go.Proofs.Ytmaojhacdelleaa
open Go Go.RowKit

set_option maxHeartbeats 400000 in
theorem szDiskFile_any (f : Df) (hf : f.okM) (left : Int) (w : World) (h0 : 0 ≤ left) (h1 : left ≤ 1048576) :
    Calls Try.prog 72 #[.agg #[.string f.name, .string f.data, .int .i64 f.kept], .int .i64 left] w fun e w' => ∃ r : Int, e = .returned (.int .i64 r) ∧ (r = -1 ∨ (0 ≤ r ∧ r + (f.name.size + f.data.size : Nat) = left)) ∧ Below w.heap.size w w' := by
  obtain ⟨hn, hd, -⟩ := hf
  have hbx : ∀ o, Below w.heap.size w (w.alloc o) := fun o => (Below.refl _ _).alloc (Nat.le_refl _) o
  by_cases h2 : left - f.name.size < 0
  · go_enter Try.func72, Try.ntmps72
    go_wp2_with fail
    go_ret
    exact ⟨_, rfl, Or.inl rfl, hbx _⟩
  · by_cases h3 : left - f.name.size - f.data.size < 0
    · go_enter Try.func72, Try.ntmps72
      go_wp2_with fail
      go_ret
      exact ⟨_, rfl, Or.inl rfl, hbx _⟩
    · go_enter Try.func72, Try.ntmps72
      go_wp2_with fail
      go_ret
      exact ⟨_, rfl, Or.inr ⟨by omega, by omega⟩, hbx _⟩

set_option maxHeartbeats 400000 in
theorem szDiskMove_any (m : Dm) (hm : m.okM) (left : Int) (w : World) (h0 : 0 ≤ left) (h1 : left ≤ 1048576) :
    Calls Try.prog 73 #[.agg #[.bool m.gone, .string m.name], .int .i64 left] w fun e w' => ∃ r : Int, e = .returned (.int .i64 r) ∧ (r = -1 ∨ (0 ≤ r ∧ r + m.name.size = left)) ∧ Below w.heap.size w w' := by
  have hn : m.name.size ≤ 9223372036854775807 := hm
  have hbx : ∀ o, Below w.heap.size w (w.alloc o) := fun o => (Below.refl _ _).alloc (Nat.le_refl _) o
  by_cases h2 : left - m.name.size < 0
  · go_enter Try.func73, Try.ntmps73
    go_wp2_with fail
    go_ret
    exact ⟨_, rfl, Or.inl rfl, hbx _⟩
  · go_enter Try.func73, Try.ntmps73
    go_wp2_with fail
    go_ret
    exact ⟨_, rfl, Or.inr ⟨by omega, by omega⟩, hbx _⟩

set_option maxHeartbeats 800000 in
theorem szDiskFileS_any (v : Value) (fs : List Df) (left : Int) (w : World) {P : Nat → Prop} (hP : ∀ b, P b → b < w.heap.size) (hv : FsAt P w v fs) (h0 : 0 ≤ left) (h1 : left ≤ 1048576) :
    Calls Try.prog 30 #[v, .int .i64 left] w fun e w' => ∃ r : Int, e = .returned (.int .i64 r) ∧ (r = -1 ∨ (0 ≤ r ∧ r + wF fs = left)) ∧ Below w.heap.size w w' := by
  obtain ⟨a, cap, rfl, hlen, hc⟩ := hv.open
  have HC := hide hc; have HP := hide hP; clear hc hP hv
  by_cases hneg : left - fs.length < 0
  · go_enter Try.func30, Try.ntmps30
    go_wp2_with fail
    go_ret
    exact ⟨_, rfl, Or.inl rfl, Below.refl _ _⟩
  · go_enter Try.func30, Try.ntmps30
    go_wp2_with fail
    go_loopw [1, 5] (fun l i wr => ∃ (k : Nat) (q : Int), k ≤ fs.length ∧ i = .int .i64 k ∧ l = .int .i64 q ∧ 0 ≤ q ∧ q ≤ 1048576 ∧ Hid (q + fs.length + wF (fs.take k) = left + k) ∧ Below w.heap.size w wr) (fun _ i _ => fs.length - (intOf i).toNat)
    case atStart => exact ⟨0, _, Nat.zero_le _, rfl, rfl, by omega, by omega, by simp [Hid, wF], Below.refl _ _⟩
    case round =>
      obtain ⟨k, q, hk, rfl, rfl, hq0, hq1, HQ, hb⟩ := hrel
      by_cases hlt : k < fs.length
      · obtain ⟨b, o, rfl, hpb, hcell, hok⟩ := unhide HC k hlt
        have hcell' := hcell.carry (hb.block b (unhide HP b hpb))
        obtain ⟨e0, e1, e2⟩ := hcell'
        simp only at e0 e1 e2
        have HT := hide (wF_take fs k hlt)
        have HS := hide (szDiskFile_any fs[k] hok q wr hq0 hq1)
        clear hcell hpb hok
        generalize fs[k] = f at *
        go_wp2_with fail
        refine (unhide HS).mono ?_
        rintro e w' ⟨r, rfl, hr, hb'⟩
        have hb2 := hb.trans (hb'.mono hb.size)
        clear hb' HS
        rcases hr with rfl | ⟨hr0, hr1⟩
        · go_wp2_with fail
          go_ret
          exact ⟨_, rfl, Or.inl rfl, hb2⟩
        · have HR1 := hide hr1; clear hr1
          have hr2 : r ≤ 1048576 := by have := unhide HR1; omega
          go_wp2_with fail
          go_roundw
          case rel => exact ⟨k + 1, _, by omega, by go_num, rfl, by omega, by omega, by have := HQ.out; have := unhide HT; have := unhide HR1; show _ = _; omega, hb2⟩
          case measure => simp [intOf]; omega
      · go_wp2_with fail
        go_ret
        refine ⟨_, rfl, Or.inr ⟨hq0, ?_⟩, hb⟩
        have := HQ.out
        rw [List.take_of_length_le (by omega)] at this
        omega

set_option maxHeartbeats 800000 in
theorem szDiskMoveS_any (v : Value) (ms : List Dm) (left : Int) (w : World) {P : Nat → Prop} (hP : ∀ b, P b → b < w.heap.size) (hv : MsAt P w v ms) (h0 : 0 ≤ left) (h1 : left ≤ 1048576) :
    Calls Try.prog 32 #[v, .int .i64 left] w fun e w' => ∃ r : Int, e = .returned (.int .i64 r) ∧ (r = -1 ∨ (0 ≤ r ∧ r + wM ms = left)) ∧ Below w.heap.size w w' := by
  obtain ⟨a, cap, rfl, hlen, hc⟩ := hv.open
  have HC := hide hc; have HP := hide hP; clear hc hP hv
  by_cases hneg : left - ms.length < 0
  · go_enter Try.func32, Try.ntmps32
    go_wp2_with fail
    go_ret
    exact ⟨_, rfl, Or.inl rfl, Below.refl _ _⟩
  · go_enter Try.func32, Try.ntmps32
    go_wp2_with fail
    go_loopw [1, 5] (fun l i wr => ∃ (k : Nat) (q : Int), k ≤ ms.length ∧ i = .int .i64 k ∧ l = .int .i64 q ∧ 0 ≤ q ∧ q ≤ 1048576 ∧ Hid (q + ms.length + wM (ms.take k) = left + k) ∧ Below w.heap.size w wr) (fun _ i _ => ms.length - (intOf i).toNat)
    case atStart => exact ⟨0, _, Nat.zero_le _, rfl, rfl, by omega, by omega, by simp [Hid, wM], Below.refl _ _⟩
    case round =>
      obtain ⟨k, q, hk, rfl, rfl, hq0, hq1, HQ, hb⟩ := hrel
      by_cases hlt : k < ms.length
      · obtain ⟨b, o, rfl, hpb, hc0, hc1, hok⟩ := unhide HC k hlt
        have e0 : wr.cell? ⟨b, o + k * 2, none⟩ = some (.bool ms[k].gone) := by rw [hb.cell (unhide HP b hpb)]; exact hc0
        have e1 : wr.cell? ⟨b, o + k * 2 + 1, none⟩ = some (.string ms[k].name) := by rw [hb.cell (unhide HP b hpb)]; exact hc1
        have HT := hide (wM_take ms k hlt)
        have HS := hide (szDiskMove_any ms[k] hok q wr hq0 hq1)
        clear hc0 hc1 hpb hok
        generalize ms[k] = f at *
        go_wp2_with fail
        refine (unhide HS).mono ?_
        rintro e w' ⟨r, rfl, hr, hb'⟩
        have hb2 := hb.trans (hb'.mono hb.size)
        clear hb' HS
        rcases hr with rfl | ⟨hr0, hr1⟩
        · go_wp2_with fail
          go_ret
          exact ⟨_, rfl, Or.inl rfl, hb2⟩
        · have HR1 := hide hr1; clear hr1
          have hr2 : r ≤ 1048576 := by have := unhide HR1; omega
          go_wp2_with fail
          go_roundw
          case rel => exact ⟨k + 1, _, by omega, by go_num, rfl, by omega, by omega, by have := HQ.out; have := unhide HT; have := unhide HR1; show _ = _; omega, hb2⟩
          case measure => simp [intOf]; omega
      · go_wp2_with fail
        go_ret
        refine ⟨_, rfl, Or.inr ⟨hq0, ?_⟩, hb⟩
        have := HQ.out
        rw [List.take_of_length_le (by omega)] at this
        omega

set_option maxHeartbeats 800000 in
theorem szDisk_any (d : Dk) (P : Nat → Prop) (c : C3) (left : Int) (w : World) (hP : ∀ b, P b → b < w.heap.size) (hd : DkAt P w d c) (h0 : 0 ≤ left) (h1 : left ≤ 1048576) :
    Calls Try.prog 7 #[.agg #[c.c0, c.c1, c.c2], .int .i64 left] w fun e w' => ∃ r : Int, e = .returned (.int .i64 r) ∧ (r = -1 ∨ (0 ≤ r ∧ r + wDk d = left)) ∧ Below w.heap.size w w' := by
  obtain ⟨c0, c1, c2⟩ := c
  obtain ⟨a0, p0, g0, -, -⟩ := hd.fs.open
  obtain ⟨a1, p1, g1, -, -⟩ := hd.ns
  obtain ⟨a2, p2, g2, -, -⟩ := hd.ms.open
  simp only at g0 g1 g2
  subst g0 g1 g2
  have hbx : ∀ o, Below w.heap.size w (w.alloc o) := fun o => (Below.refl _ _).alloc (Nat.le_refl _) o
  have hcar : ∀ W, Below w.heap.size w W → DkAt P W d ⟨.slice a0 d.files.length p0, .slice a1 d.names.length p1, .slice a2 d.moves.length p2⟩ := fun W hW => hd.carry (fun b hb => hW.block b (hP b hb)) (fun _ h => h)
  have hwd : wDk d = wF d.files + wS d.names + wM d.moves := rfl
  have hrow0 := row3_alloc w (.slice a0 d.files.length p0) (.slice a1 d.names.length p1) (.slice a2 d.moves.length p2) 26
  have HROW := hide hrow0; have HC := hide hcar; have HP := hide hP; have HBX := hide hbx; have HWD := hide hwd
  clear hd hcar hP hbx hwd hrow0
  generalize d.files.length = nf at *
  generalize d.names.length = nn at *
  generalize d.moves.length = nm at *
  go_enter Try.func7, Try.ntmps7
  go_wp2_with fail
  refine (szDiskFileS_any _ d.files _ _ (fun b hb => Nat.lt_of_lt_of_le (unhide HP b hb) (by simp)) (unhide HC _ (unhide HBX _)).fs (by omega) (by omega)).mono ?_
  rintro e w1 ⟨r, rfl, hr, hb1⟩
  have HB1 := hide ((unhide HBX (.cells #[.slice a0 nf p0, .slice a1 nn p1, .slice a2 nm p2] 26)).trans (hb1.mono (by simp)))
  have hrow1 := (unhide HROW).of_block (hb1.block _ (by simp))
  have k1 := hrow1.cell (i := 1) (by omega); have k2 := hrow1.cell (i := 2) (by omega)
  simp only [row3] at k1 k2
  have HR1 := hide hrow1
  clear hb1 hrow1
  rcases hr with rfl | ⟨hr0, hr1⟩
  · go_wp2_with fail
    go_ret
    exact ⟨_, rfl, Or.inl rfl, unhide HB1⟩
  · have HQ1 := hide hr1; clear hr1
    have hq1 : r ≤ 1048576 := by have := unhide HQ1; omega
    go_wp2_with fail
    refine (szStringS_any _ d.names _ _ (unhide HC _ (unhide HB1)).ns hr0 hq1).mono ?_
    rintro e w' ⟨r2, rfl, hr2, rfl⟩
    rcases hr2 with rfl | ⟨hr20, hr21⟩
    · go_wp2_with fail
      go_ret
      exact ⟨_, rfl, Or.inl rfl, unhide HB1⟩
    · have HQ2 := hide hr21; clear hr21
      have hq2 : r2 ≤ 1048576 := by have := unhide HQ2; omega
      go_wp2_with fail
      refine (szDiskMoveS_any _ d.moves _ _ (fun b hb => Nat.lt_of_lt_of_le (unhide HP b hb) (unhide HB1).size) (unhide HC _ (unhide HB1)).ms hr20 hq2).mono ?_
      rintro e w3 ⟨r3, rfl, hr3, hb3⟩
      have HB3 := hide ((unhide HB1).trans (hb3.mono (unhide HB1).size))
      clear hb3
      rcases hr3 with rfl | ⟨hr30, hr31⟩
      · go_wp2_with fail
        go_ret
        exact ⟨_, rfl, Or.inl rfl, unhide HB3⟩
      · have HQ3 := hide hr31; clear hr31
        go_wp2_with fail
        go_ret
        exact ⟨_, rfl, Or.inr ⟨hr30, by have := unhide HQ1; have := unhide HQ2; have := unhide HQ3; have := unhide HWD; omega⟩, unhide HB3⟩
end Go.Proofs.Ytmaojhacdelleaa

/- The walks of toKind, toKindS: they make a new copy of a schema, and turn nothing that was there. No conditions but the schema's weight, at most 2^20. -/

namespace Go.Proofs.Ytmaojhacdelleaa
open Go Go.RowKit

/-- The three zero cells of a schema. -/
def z3 : Array Value := #[.int .i64 0, .slice none 0 0, .slice none 0 0]

theorem heap_set3 (w : World) (b o : Nat) (c0 c1 c2 : Value) (k : Nat) (h : k ≠ b) :
    (((w.setCell ⟨b, o, none⟩ c0).setCell ⟨b, o + 1, none⟩ c1).setCell ⟨b, o + 2, none⟩ c2).heap[k]? = w.heap[k]? := by
  rw [Below.heap_setCell _ _ _ _ h, Below.heap_setCell _ _ _ _ h, Below.heap_setCell _ _ _ _ h]

theorem heap_set4 (w : World) (b b2 : Nat) (v c0 c1 c2 : Value) (k : Nat) (h : k ≠ b) (h2 : k ≠ b2) :
    ((((w.setCell ⟨b2, 2, none⟩ v).setCell ⟨b, 0, none⟩ c0).setCell ⟨b, 1, none⟩ c1).setCell ⟨b, 2, none⟩ c2).heap[k]? = w.heap[k]? := by
  rw [Below.heap_setCell _ _ _ _ h, Below.heap_setCell _ _ _ _ h, Below.heap_setCell _ _ _ _ h, Below.heap_setCell _ _ _ _ h2]

end Go.Proofs.Ytmaojhacdelleaa
