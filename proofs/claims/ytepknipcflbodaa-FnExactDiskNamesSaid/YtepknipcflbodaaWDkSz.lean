/- The walks of the law's szDiskFile, szDiskFileS, szDiskMove, szDiskMoveS, szDisk: what they answer, and that they turn nothing that was there. No conditions. -/
import Derived.Test.YtepknipcflbodaaWStr
import Derived.Test.YtepknipcflbodaaDkDat
namespace Go.Proofs.Ytepknipcflbodaa
open Go Go.RowKit

set_option maxHeartbeats 400000 in
theorem szDiskFile_any (f : Df) (hf : f.okM) (left : Int) (w : World) (h0 : 0 ≤ left) (h1 : left ≤ 1048576) :
    Calls Try.prog 42 #[.agg #[.string f.name, .string f.data, .int .i64 f.kept], .int .i64 left] w fun e w' => ∃ r : Int, e = .returned (.int .i64 r) ∧ (r = -1 ∨ (0 ≤ r ∧ r + (f.name.size + f.data.size : Nat) = left)) ∧ Below w.heap.size w w' := by
  obtain ⟨hn, hd, -⟩ := hf
  have hbx : ∀ o, Below w.heap.size w (w.alloc o) := fun o => (Below.refl _ _).alloc (Nat.le_refl _) o
  by_cases h2 : left - f.name.size < 0
  · go_enter Try.func42, Try.ntmps42
    go_wp2_with fail
    go_ret
    exact ⟨_, rfl, Or.inl rfl, hbx _⟩
  · by_cases h3 : left - f.name.size - f.data.size < 0
    · go_enter Try.func42, Try.ntmps42
      go_wp2_with fail
      go_ret
      exact ⟨_, rfl, Or.inl rfl, hbx _⟩
    · go_enter Try.func42, Try.ntmps42
      go_wp2_with fail
      go_ret
      exact ⟨_, rfl, Or.inr ⟨by omega, by omega⟩, hbx _⟩

set_option maxHeartbeats 400000 in
theorem szDiskMove_any (m : Dm) (hm : m.okM) (left : Int) (w : World) (h0 : 0 ≤ left) (h1 : left ≤ 1048576) :
    Calls Try.prog 43 #[.agg #[.bool m.gone, .string m.name], .int .i64 left] w fun e w' => ∃ r : Int, e = .returned (.int .i64 r) ∧ (r = -1 ∨ (0 ≤ r ∧ r + m.name.size = left)) ∧ Below w.heap.size w w' := by
  have hn : m.name.size ≤ 9223372036854775807 := hm
  have hbx : ∀ o, Below w.heap.size w (w.alloc o) := fun o => (Below.refl _ _).alloc (Nat.le_refl _) o
  by_cases h2 : left - m.name.size < 0
  · go_enter Try.func43, Try.ntmps43
    go_wp2_with fail
    go_ret
    exact ⟨_, rfl, Or.inl rfl, hbx _⟩
  · go_enter Try.func43, Try.ntmps43
    go_wp2_with fail
    go_ret
    exact ⟨_, rfl, Or.inr ⟨by omega, by omega⟩, hbx _⟩

set_option maxHeartbeats 800000 in
theorem szDiskFileS_any (v : Value) (fs : List Df) (left : Int) (w : World) {P : Nat → Prop} (hP : ∀ b, P b → b < w.heap.size) (hv : FsAt P w v fs) (h0 : 0 ≤ left) (h1 : left ≤ 1048576) :
    Calls Try.prog 19 #[v, .int .i64 left] w fun e w' => ∃ r : Int, e = .returned (.int .i64 r) ∧ (r = -1 ∨ (0 ≤ r ∧ r + wF fs = left)) ∧ Below w.heap.size w w' := by
  obtain ⟨a, cap, rfl, hlen, hc⟩ := hv.open
  have HC := hide hc; have HP := hide hP; clear hc hP hv
  by_cases hneg : left - fs.length < 0
  · go_enter Try.func19, Try.ntmps19
    go_wp2_with fail
    go_ret
    exact ⟨_, rfl, Or.inl rfl, Below.refl _ _⟩
  · go_enter Try.func19, Try.ntmps19
    go_wp2_with fail
    go_loopw [1, 5] (fun l i wr => ∃ (k : Nat) (q : Int), k ≤ fs.length ∧ i = .int .i64 k ∧ l = .int .i64 q ∧ 0 ≤ q ∧ q ≤ 1048576 ∧ Hid (q + fs.length + wF (fs.take k) = left + k) ∧ Below w.heap.size w wr) (fun _ i _ => fs.length - (intOf i).toNat)
    case atStart => exact ⟨0, _, Nat.zero_le _, rfl, rfl, by omega, by omega, by simp [Hid, wF], Below.refl _ _⟩
    case round =>
      obtain ⟨k, q, hk, rfl, rfl, hq0, hq1, HQ, hb⟩ := hrel
      by_cases hlt : k < fs.length
      · obtain ⟨b, o, rfl, hpb, hcell, hok⟩ := unhide HC k hlt
        have hcell' := hcell.carry (hb.block b (unhide HP b hpb))
        obtain ⟨e0, e1, e2⟩ := hcell'
        simp only at e0 e1 e2
        have HT := hide (wF_take fs k hlt)
        have HS := hide (szDiskFile_any fs[k] hok q wr hq0 hq1)
        clear hcell hpb hok
        generalize fs[k] = f at *
        go_wp2_with fail
        refine (unhide HS).mono ?_
        rintro e w' ⟨r, rfl, hr, hb'⟩
        have hb2 := hb.trans (hb'.mono hb.size)
        clear hb' HS
        rcases hr with rfl | ⟨hr0, hr1⟩
        · go_wp2_with fail
          go_ret
          exact ⟨_, rfl, Or.inl rfl, hb2⟩
        · have HR1 := hide hr1; clear hr1
          have hr2 : r ≤ 1048576 := by have := unhide HR1; omega
          go_wp2_with fail
          go_roundw
          case rel => exact ⟨k + 1, _, by omega, by go_num, rfl, by omega, by omega, by have := HQ.out; have := unhide HT; have := unhide HR1; show _ = _; omega, hb2⟩
          case measure => simp [intOf]; omega
      · go_wp2_with fail
        go_ret
        refine ⟨_, rfl, Or.inr ⟨hq0, ?_⟩, hb⟩
        have := HQ.out
        rw [List.take_of_length_le (by omega)] at this
        omega

set_option maxHeartbeats 800000 in
theorem szDiskMoveS_any (v : Value) (ms : List Dm) (left : Int) (w : World) {P : Nat → Prop} (hP : ∀ b, P b → b < w.heap.size) (hv : MsAt P w v ms) (h0 : 0 ≤ left) (h1 : left ≤ 1048576) :
    Calls Try.prog 21 #[v, .int .i64 left] w fun e w' => ∃ r : Int, e = .returned (.int .i64 r) ∧ (r = -1 ∨ (0 ≤ r ∧ r + wM ms = left)) ∧ Below w.heap.size w w' := by
  obtain ⟨a, cap, rfl, hlen, hc⟩ := hv.open
  have HC := hide hc; have HP := hide hP; clear hc hP hv
  by_cases hneg : left - ms.length < 0
  · go_enter Try.func21, Try.ntmps21
    go_wp2_with fail
    go_ret
    exact ⟨_, rfl, Or.inl rfl, Below.refl _ _⟩
  · go_enter Try.func21, Try.ntmps21
    go_wp2_with fail
    go_loopw [1, 5] (fun l i wr => ∃ (k : Nat) (q : Int), k ≤ ms.length ∧ i = .int .i64 k ∧ l = .int .i64 q ∧ 0 ≤ q ∧ q ≤ 1048576 ∧ Hid (q + ms.length + wM (ms.take k) = left + k) ∧ Below w.heap.size w wr) (fun _ i _ => ms.length - (intOf i).toNat)
    case atStart => exact ⟨0, _, Nat.zero_le _, rfl, rfl, by omega, by omega, by simp [Hid, wM], Below.refl _ _⟩
    case round =>
      obtain ⟨k, q, hk, rfl, rfl, hq0, hq1, HQ, hb⟩ := hrel
      by_cases hlt : k < ms.length
      · obtain ⟨b, o, rfl, hpb, hc0, hc1, hok⟩ := unhide HC k hlt
        have e0 : wr.cell? ⟨b, o + k * 2, none⟩ = some (.bool ms[k].gone) := by rw [hb.cell (unhide HP b hpb)]; exact hc0
        have e1 : wr.cell? ⟨b, o + k * 2 + 1, none⟩ = some (.string ms[k].name) := by rw [hb.cell (unhide HP b hpb)]; exact hc1
        have HT := hide (wM_take ms k hlt)
        have HS := hide (szDiskMove_any ms[k] hok q wr hq0 hq1)
        clear hc0 hc1 hpb hok
        generalize ms[k] = f at *
        go_wp2_with fail
        refine (unhide HS).mono ?_
        rintro e w' ⟨r, rfl, hr, hb'⟩
        have hb2 := hb.trans (hb'.mono hb.size)
        clear hb' HS
        rcases hr with rfl | ⟨hr0, hr1⟩
        · go_wp2_with fail
          go_ret
          exact ⟨_, rfl, Or.inl rfl, hb2⟩
        · have HR1 := hide hr1; clear hr1
          have hr2 : r ≤ 1048576 := by have := unhide HR1; omega
          go_wp2_with fail
          go_roundw
          case rel => exact ⟨k + 1, _, by omega, by go_num, rfl, by omega, by omega, by have := HQ.out; have := unhide HT; have := unhide HR1; show _ = _; omega, hb2⟩
          case measure => simp [intOf]; omega
      · go_wp2_with fail
        go_ret
        refine ⟨_, rfl, Or.inr ⟨hq0, ?_⟩, hb⟩
        have := HQ.out
        rw [List.take_of_length_le (by omega)] at this
        omega

set_option maxHeartbeats 800000 in
theorem szDisk_any (d : Dk) (P : Nat → Prop) (c : C3) (left : Int) (w : World) (hP : ∀ b, P b → b < w.heap.size) (hd : DkAt P w d c) (h0 : 0 ≤ left) (h1 : left ≤ 1048576) :
    Calls Try.prog 6 #[.agg #[c.c0, c.c1, c.c2], .int .i64 left] w fun e w' => ∃ r : Int, e = .returned (.int .i64 r) ∧ (r = -1 ∨ (0 ≤ r ∧ r + wDk d = left)) ∧ Below w.heap.size w w' := by
  obtain ⟨c0, c1, c2⟩ := c
  obtain ⟨a0, p0, g0, -, -⟩ := hd.fs.open
  obtain ⟨a1, p1, g1, -, -⟩ := hd.ns
  obtain ⟨a2, p2, g2, -, -⟩ := hd.ms.open
  simp only at g0 g1 g2
  subst g0 g1 g2
  have hbx : ∀ o, Below w.heap.size w (w.alloc o) := fun o => (Below.refl _ _).alloc (Nat.le_refl _) o
  have hcar : ∀ W, Below w.heap.size w W → DkAt P W d ⟨.slice a0 d.files.length p0, .slice a1 d.names.length p1, .slice a2 d.moves.length p2⟩ := fun W hW => hd.carry (fun b hb => hW.block b (hP b hb)) (fun _ h => h)
  have hwd : wDk d = wF d.files + wS d.names + wM d.moves := rfl
  have hrow0 := row3_alloc w (.slice a0 d.files.length p0) (.slice a1 d.names.length p1) (.slice a2 d.moves.length p2) 26
  have HROW := hide hrow0; have HC := hide hcar; have HP := hide hP; have HBX := hide hbx; have HWD := hide hwd
  clear hd hcar hP hbx hwd hrow0
  generalize d.files.length = nf at *
  generalize d.names.length = nn at *
  generalize d.moves.length = nm at *
  go_enter Try.func6, Try.ntmps6
  go_wp2_with fail
  refine (szDiskFileS_any _ d.files _ _ (fun b hb => Nat.lt_of_lt_of_le (unhide HP b hb) (by simp)) (unhide HC _ (unhide HBX _)).fs (by omega) (by omega)).mono ?_
  rintro e w1 ⟨r, rfl, hr, hb1⟩
  have HB1 := hide ((unhide HBX (.cells #[.slice a0 nf p0, .slice a1 nn p1, .slice a2 nm p2] 26)).trans (hb1.mono (by simp)))
  have hrow1 := (unhide HROW).of_block (hb1.block _ (by simp))
  have k1 := hrow1.cell (i := 1) (by omega); have k2 := hrow1.cell (i := 2) (by omega)
  simp only [row3] at k1 k2
  have HR1 := hide hrow1
  clear hb1 hrow1
  rcases hr with rfl | ⟨hr0, hr1⟩
  · go_wp2_with fail
    go_ret
    exact ⟨_, rfl, Or.inl rfl, unhide HB1⟩
  · have HQ1 := hide hr1; clear hr1
    have hq1 : r ≤ 1048576 := by have := unhide HQ1; omega
    go_wp2_with fail
    refine (szStringS_any _ d.names _ _ (unhide HC _ (unhide HB1)).ns hr0 hq1).mono ?_
    rintro e w' ⟨r2, rfl, hr2, rfl⟩
    rcases hr2 with rfl | ⟨hr20, hr21⟩
    · go_wp2_with fail
      go_ret
      exact ⟨_, rfl, Or.inl rfl, unhide HB1⟩
    · have HQ2 := hide hr21; clear hr21
      have hq2 : r2 ≤ 1048576 := by have := unhide HQ2; omega
      go_wp2_with fail
      refine (szDiskMoveS_any _ d.moves _ _ (fun b hb => Nat.lt_of_lt_of_le (unhide HP b hb) (unhide HB1).size) (unhide HC _ (unhide HB1)).ms hr20 hq2).mono ?_
      rintro e w3 ⟨r3, rfl, hr3, hb3⟩
      have HB3 := hide ((unhide HB1).trans (hb3.mono (unhide HB1).size))
      clear hb3
      rcases hr3 with rfl | ⟨hr30, hr31⟩
      · go_wp2_with fail
        go_ret
        exact ⟨_, rfl, Or.inl rfl, unhide HB3⟩
      · have HQ3 := hide hr31; clear hr31
        go_wp2_with fail
        go_ret
        exact ⟨_, rfl, Or.inr ⟨hr30, by have := unhide HQ1; have := unhide HQ2; have := unhide HQ3; have := unhide HWD; omega⟩, unhide HB3⟩
end Go.Proofs.Ytepknipcflbodaa
