/- The walks of the law's markDiskFileS, markDiskMoveS, markDisk over a disk that owns its memory: what is marked then, and that nothing else turns. The marks count to at most 2^40. -/
import Derived.Test.YtgdiankfnemjjaaGreatPart15
import Derived.Test.YtgdiankfnemjjaaGreatPart08
import Derived.Deep.RegionWith
namespace Go.Proofs.YtgdiankfnemjjaaGreat
open Go Go.RowKit

/-- The cells of a block, none of them frozen. -/
def CellsAre (w : World) (b N : Nat) (f : Nat → Value) : Prop := FreeB w b ∧ ∀ q, q < N → w.cell? ⟨b, q, none⟩ = some (f q)
theorem CellsAre.of_block {w w' : World} {b N : Nat} {f : Nat → Value} (h : CellsAre w b N f) (e : w'.heap[b]? = w.heap[b]?) : CellsAre w' b N f :=
  ⟨h.1.of_block e, fun q hq => by rw [World.cell?_of_block (w := w) (a := ⟨b, q, none⟩) e]; exact h.2 q hq⟩
def partF (f g : Nat → Value) (p : Nat) : Nat → Value := fun q => if q < p then f q else g q
theorem CellsAre.step {w : World} {b N : Nat} {f g : Nat → Value} {p : Nat} (h : CellsAre w b N (partF f g p)) (hp : p < N) (u : Value) (hu : u = f p) : CellsAre (w.setCell ⟨b, p, none⟩ u) b N (partF f g (p + 1)) := by
  refine ⟨h.1.set _ _, fun q hq => ?_⟩
  by_cases e : q = p
  · subst e
    rw [World.cell?_setCell_same w _ u (h.2 q hq)]
    unfold partF; rw [if_pos (by omega), hu]
  · rw [World.cell?_setCell_other w _ _ u (by intro e2; cases e2; exact e rfl), h.2 q hq]
    unfold partF
    by_cases h2 : q < p
    · rw [if_pos h2, if_pos (by omega)]
    · rw [if_neg h2, if_neg (by omega)]

/-- What stands in the cells of marked files, of marked moves. -/
def mkF (k q : Nat) : Value := if q % 3 = 2 then .int .i64 ((k + q : Nat) : Int) else .string (mtx (k + q))
def mkM (k q : Nat) : Value := if q % 2 = 0 then .bool (((k + q : Nat) : Int).tmod 3 == 0) else .string (mtx (k + q))
/-- Marked files, moves. -/
def mFs (k n : Nat) : List Df := (List.range n).map fun i => ⟨mtx (k + 3 * i), mtx (k + 3 * i + 1), ((k + 3 * i + 2 : Nat) : Int)⟩
def mMs (k n : Nat) : List Dm := (List.range n).map fun i => ⟨((k + 2 * i : Nat) : Int).tmod 3 == 0, mtx (k + 2 * i + 1)⟩
def mDk (k : Nat) (d : Dk) : Dk := ⟨mFs k d.files.length, mS (k + 3 * d.files.length) d.names, mMs (k + 3 * d.files.length + d.names.length) d.moves.length⟩

theorem FlatOwn.cells {w : World} {b n : Nat} {rs : List (List Value)} (h : ∀ i, (h : i < rs.length) → ∀ j, j < n → w.cell? ⟨b, i * n + j, none⟩ = some (rs[i].getD j undef)) (hf : FreeB w b) (hn : 0 < n) : CellsAre w b (rs.length * n) (fun q => (rs.getD (q / n) []).getD (q % n) undef) := by
  refine ⟨hf, fun q hq => ?_⟩
  have hi : q / n < rs.length := (Nat.div_lt_iff_lt_mul hn).2 hq
  have := h (q / n) hi (q % n) (Nat.mod_lt _ hn)
  rw [show q / n * n + q % n = q by rw [Nat.mul_comm]; exact Nat.div_add_mod q n] at this
  rw [this]
  simp [List.getD, hi]

theorem mFs_ok {k n : Nat} (hk : k + 3 * n ≤ 1099511627776) : ∀ f, f ∈ mFs k n → f.okM := fun f hf => by
  obtain ⟨i, hi, rfl⟩ := List.mem_map.1 hf
  rw [List.mem_range] at hi
  have h1 := mtx_size (k + 3 * i); have h2 := mtx_size (k + 3 * i + 1)
  exact ⟨by simp only; omega, by simp only; omega, ⟨by simp only; omega, by simp only; omega⟩⟩
theorem mMs_ok {k n : Nat} (hk : k + 2 * n ≤ 1099511627776) : ∀ f, f ∈ mMs k n → f.okM := fun f hf => by
  obtain ⟨i, hi, rfl⟩ := List.mem_map.1 hf
  rw [List.mem_range] at hi
  have h1 := mtx_size (k + 2 * i + 1)
  show (mtx (k + 2 * i + 1)).size ≤ _
  omega
theorem fs_of_cells {w : World} {b cap n k : Nat} {g : Nat → Value} (hlen : n ≤ 9223372036854775807) (h : CellsAre w b (n * 3) (partF (mkF k) g (n * 3))) (hk : k + 3 * n ≤ 1099511627776) : FsOwn w (.slice (some ⟨b, 0, none⟩) n cap) (mFs k n) [b] := by
  refine ⟨⟨some ⟨b, 0, none⟩, cap, by simp [mFs], by simpa [mFs] using hlen, Or.inr ⟨b, rfl, rfl, h.1, fun i hi j hj => ?_⟩⟩, mFs_ok hk⟩
  have hi' : i < n := by simpa [mFs] using hi
  rw [h.2 (i * 3 + j) (by omega)]
  unfold partF mkF
  rw [if_pos (by omega)]
  rcases (show j = 0 ∨ j = 1 ∨ j = 2 by omega) with rfl | rfl | rfl
  · rw [if_neg (by omega)]; simp [mFs, Df.cs, Nat.mul_comm]
  · rw [if_neg (by omega)]; simp [mFs, Df.cs, Nat.mul_comm, Nat.add_assoc]
  · rw [if_pos (by omega)]; simp [mFs, Df.cs, Nat.mul_comm, Nat.add_assoc]
theorem ms_of_cells {w : World} {b cap n k : Nat} {g : Nat → Value} (hlen : n ≤ 9223372036854775807) (h : CellsAre w b (n * 2) (partF (mkM k) g (n * 2))) (hk : k + 2 * n ≤ 1099511627776) : MsOwn w (.slice (some ⟨b, 0, none⟩) n cap) (mMs k n) [b] := by
  refine ⟨⟨some ⟨b, 0, none⟩, cap, by simp [mMs], by simpa [mMs] using hlen, Or.inr ⟨b, rfl, rfl, h.1, fun i hi j hj => ?_⟩⟩, mMs_ok hk⟩
  have hi' : i < n := by simpa [mMs] using hi
  rw [h.2 (i * 2 + j) (by omega)]
  unfold partF mkM
  rw [if_pos (by omega)]
  rcases (show j = 0 ∨ j = 1 by omega) with rfl | rfl
  · rw [if_pos (by omega)]; simp [mMs, Dm.cs, Nat.mul_comm]
  · rw [if_neg (by omega)]; simp [mMs, Dm.cs, Nat.mul_comm, Nat.add_assoc]

set_option maxHeartbeats 1600000 in
theorem markDiskFileS_own (v : Value) (fs : List Df) (F : List Nat) (k : Nat) (w : World) (hv : FsOwn w v fs F) (hk0 : 0 < k) (hk : k + 3 * fs.length ≤ 1099511627776) :
    Calls Tryz.prog 41 #[v, .int .i64 k] w fun e w' => e = .returned (.int .i64 (k + 3 * fs.length : Nat)) ∧ FsOwn w' v (mFs k fs.length) F ∧ Exc F w w' := by
  have hmk := mFs_ok hk
  obtain ⟨⟨a, cap, rfl, hlen, hc⟩, -⟩ := hv
  rw [List.length_map] at hlen ⊢
  rcases hc with ⟨hfs, rfl⟩ | ⟨b, rfl, rfl, hfr, hc⟩
  · have hfs' : fs = [] := by simpa using hfs
    subst hfs'
    simp only [List.length_nil] at *
    go_enter Tryz.func41, Tryz.ntmps41
    go_wp2_with fail
    go_loopw [1, 5] (fun kk i wr => kk = .int .i64 k ∧ i = .int .i64 0 ∧ wr = w) (fun _ _ _ => 0)
    case atStart => exact ⟨rfl, rfl, rfl⟩
    case round =>
      obtain ⟨rfl, rfl, rfl⟩ := hrel
      go_wp2_with fail
      go_ret
      exact ⟨by simp, ⟨⟨a, cap, by simp [mFs], by simp [mFs], Or.inl ⟨by simp [mFs], rfl⟩⟩, hmk⟩, Exc.refl _ _⟩
  · have hM := FlatOwn.cells (n := 3) (rs := fs.map Df.cs) hc hfr (by omega)
    rw [List.length_map] at hM
    generalize (fun q => ((fs.map Df.cs).getD (q / 3) []).getD (q % 3) undef) = g at hM
    have hM0 : CellsAre w b (fs.length * 3) (partF (mkF k) g 0) := by
      have : partF (mkF k) g 0 = g := by funext q; simp [partF]
      rw [this]; exact hM
    have HM := hide hM0
    clear hM hM0 hfr hc hmk
    generalize fs.length = n at *
    go_enter Tryz.func41, Tryz.ntmps41
    go_wp2_with fail
    go_loopw [1, 5] (fun kk i wr => ∃ (j m : Nat), j ≤ n ∧ m = k + 3 * j ∧ kk = .int .i64 (m : Nat) ∧ i = .int .i64 j ∧ Hid (CellsAre wr b (n * 3) (partF (mkF k) g (j * 3))) ∧ Hid (Exc [b] w wr)) (fun _ i _ => n - (intOf i).toNat)
    case atStart => exact ⟨0, k, Nat.zero_le _, by omega, rfl, rfl, by rw [Nat.zero_mul]; exact HM, Exc.refl _ _⟩
    case round =>
      obtain ⟨j, m, hj, hm, rfl, rfl, HC, HX⟩ := hrel
      by_cases hlt : j < n
      · have hblt : b < wr.heap.size := World.block_lt_of_cell? wr _ (HC.out.2 (j * 3) (by omega))
        have hmb2 : m + 3 ≤ 1099511627776 := by omega
        have hm0 : 0 < m := by omega
        have HMM := hide hm
        have f0 : Value.string (mtx m) = mkF k (j * 3) := by unfold mkF; rw [if_neg (by omega), hm]; congr 2; omega
        have f1 : Value.string (mtx (m + 1)) = mkF k (j * 3 + 1) := by unfold mkF; rw [if_neg (by omega), hm]; congr 2; omega
        have f2 : Value.int .i64 ((m : Int) + 2) = mkF k (j * 3 + 2) := by unfold mkF; rw [if_pos (by omega), hm]; congr 1; omega
        have F0 := hide f0; have F1 := hide f1; have F2 := hide f2
        clear hm f0 f1 f2
        go_wp2_with fail
        refine (markText_any m wr (by omega) (by omega)).mono ?_
        rintro e w1 ⟨rfl, hb1⟩
        have hc1 := HC.out.of_block (hb1.block b hblt)
        have y0 := hc1.2 (j * 3) (by omega); have z0 := hc1.1 (j * 3)
        have hs1 := hc1.step (by omega) _ (unhide F0)
        have HS1 := hide hs1; have HX1 := hide ((HX.out.trans (Exc.of_below hb1)).trans (Exc.set w1 b (j * 3) (.string (mtx m)) (by simp)))
        have hblt1 : b < (w1.setCell ⟨b, j * 3, none⟩ (.string (mtx m))).heap.size := World.block_lt_of_cell? _ _ (hs1.2 (j * 3) (by omega))
        have HBL1 := hide hblt1
        have hmt : Calls Tryz.prog 44 #[.int .i64 ((m : Int) + 1)] (w1.setCell ⟨b, j * 3, none⟩ (.string (mtx m))) fun e w' => e = .returned (.string (mtx (m + 1))) ∧ Below (w1.setCell ⟨b, j * 3, none⟩ (.string (mtx m))).heap.size (w1.setCell ⟨b, j * 3, none⟩ (.string (mtx m))) w' := by
          have := markText_any (m + 1) (w1.setCell ⟨b, j * 3, none⟩ (.string (mtx m))) (by omega) (by omega)
          rwa [show ((m + 1 : Nat) : Int) = (m : Int) + 1 by omega] at this
        have HMT := hide hmt
        clear hmt hc1 hs1 hb1 hblt1
        go_wp2_with fail
        refine (unhide HMT).mono ?_
        rintro e w2 ⟨rfl, hb2⟩
        have hc2 := (unhide HS1).of_block (hb2.block b (unhide HBL1))
        have y1 := hc2.2 (j * 3 + 1) (by omega); have z1 := hc2.1 (j * 3 + 1)
        have hs2 := hc2.step (by omega) _ (unhide F1)
        have y2 := hs2.2 (j * 3 + 1 + 1) (by omega); have z2 := hs2.1 (j * 3 + 1 + 1)
        have hs3 := hs2.step (u := .int .i64 ((m : Int) + 2)) (by omega) (unhide F2)
        have HS3 := hide hs3
        have HX3 := hide (((unhide HX1).trans (Exc.of_below hb2)).trans ((Exc.set w2 b (j * 3 + 1) (.string (mtx (m + 1))) (by simp)).trans (Exc.set _ b (j * 3 + 1 + 1) (.int .i64 ((m : Int) + 2)) (by simp))))
        clear hc2 hs2 hs3 hb2 HMT HS1 HX1 HBL1 y0 z0
        go_wp2_with fail
        go_roundw
        case rel => exact ⟨j + 1, m + 3, by omega, by have := unhide HMM; omega, by go_num, by go_num, by rw [Nat.add_mul]; exact HS3, unhide HX3⟩
        case measure => simp [intOf]; omega
      · go_wp2_with fail
        go_ret
        obtain rfl : j = n := by omega
        exact ⟨by rw [hm]; rfl, fs_of_cells hlen HC.out hk, HX.out⟩

set_option maxHeartbeats 1600000 in
theorem markDiskMoveS_own (v : Value) (fs : List Dm) (F : List Nat) (k : Nat) (w : World) (hv : MsOwn w v fs F) (hk0 : 0 < k) (hk : k + 2 * fs.length ≤ 1099511627776) :
    Calls Tryz.prog 43 #[v, .int .i64 k] w fun e w' => e = .returned (.int .i64 (k + 2 * fs.length : Nat)) ∧ MsOwn w' v (mMs k fs.length) F ∧ Exc F w w' := by
  have hmk := mMs_ok hk
  obtain ⟨⟨a, cap, rfl, hlen, hc⟩, -⟩ := hv
  rw [List.length_map] at hlen ⊢
  rcases hc with ⟨hfs, rfl⟩ | ⟨b, rfl, rfl, hfr, hc⟩
  · have hfs' : fs = [] := by simpa using hfs
    subst hfs'
    simp only [List.length_nil] at *
    go_enter Tryz.func43, Tryz.ntmps43
    go_wp2_with fail
    go_loopw [1, 5] (fun kk i wr => kk = .int .i64 k ∧ i = .int .i64 0 ∧ wr = w) (fun _ _ _ => 0)
    case atStart => exact ⟨rfl, rfl, rfl⟩
    case round =>
      obtain ⟨rfl, rfl, rfl⟩ := hrel
      go_wp2_with fail
      go_ret
      exact ⟨by simp, ⟨⟨a, cap, by simp [mMs], by simp [mMs], Or.inl ⟨by simp [mMs], rfl⟩⟩, hmk⟩, Exc.refl _ _⟩
  · have hM := FlatOwn.cells (n := 2) (rs := fs.map Dm.cs) hc hfr (by omega)
    rw [List.length_map] at hM
    generalize (fun q => ((fs.map Dm.cs).getD (q / 2) []).getD (q % 2) undef) = g at hM
    have hM0 : CellsAre w b (fs.length * 2) (partF (mkM k) g 0) := by
      have : partF (mkM k) g 0 = g := by funext q; simp [partF]
      rw [this]; exact hM
    have HM := hide hM0
    clear hM hM0 hfr hc hmk
    generalize fs.length = n at *
    go_enter Tryz.func43, Tryz.ntmps43
    go_wp2_with fail
    go_loopw [1, 5] (fun kk i wr => ∃ (j m : Nat), j ≤ n ∧ m = k + 2 * j ∧ kk = .int .i64 (m : Nat) ∧ i = .int .i64 j ∧ Hid (CellsAre wr b (n * 2) (partF (mkM k) g (j * 2))) ∧ Hid (Exc [b] w wr)) (fun _ i _ => n - (intOf i).toNat)
    case atStart => exact ⟨0, k, Nat.zero_le _, by omega, rfl, rfl, by rw [Nat.zero_mul]; exact HM, Exc.refl _ _⟩
    case round =>
      obtain ⟨j, m, hj, hm, rfl, rfl, HC, HX⟩ := hrel
      by_cases hlt : j < n
      · have hmb2 : m + 2 ≤ 1099511627776 := by omega
        have hm0 : 0 < m := by omega
        have HMM := hide hm
        have f0 : Value.bool ((m : Int).tmod 3 == 0) = mkM k (j * 2) := by unfold mkM; rw [if_pos (by omega), hm, show k + 2 * j = k + j * 2 by omega]
        have f1 : Value.string (mtx (m + 1)) = mkM k (j * 2 + 1) := by unfold mkM; rw [if_neg (by omega), hm]; congr 2; omega
        have F1 := hide f1
        have y0 := HC.out.2 (j * 2) (by omega); have z0 := HC.out.1 (j * 2)
        have hs1 := HC.out.step (by omega) _ f0
        have hblt1 : b < (wr.setCell ⟨b, j * 2, none⟩ (.bool ((m : Int).tmod 3 == 0))).heap.size := World.block_lt_of_cell? _ _ (hs1.2 (j * 2) (by omega))
        have HS1 := hide hs1; have HBL1 := hide hblt1
        have HX1 := hide (HX.out.trans (Exc.set wr b (j * 2) (.bool ((m : Int).tmod 3 == 0)) (by simp)))
        have hmt : Calls Tryz.prog 44 #[.int .i64 ((m : Int) + 1)] (wr.setCell ⟨b, j * 2, none⟩ (.bool ((m : Int).tmod 3 == 0))) fun e w' => e = .returned (.string (mtx (m + 1))) ∧ Below (wr.setCell ⟨b, j * 2, none⟩ (.bool ((m : Int).tmod 3 == 0))).heap.size (wr.setCell ⟨b, j * 2, none⟩ (.bool ((m : Int).tmod 3 == 0))) w' := by
          have := markText_any (m + 1) (wr.setCell ⟨b, j * 2, none⟩ (.bool ((m : Int).tmod 3 == 0))) (by omega) (by omega)
          rwa [show ((m + 1 : Nat) : Int) = (m : Int) + 1 by omega] at this
        have HMT := hide hmt
        clear hmt hs1 hblt1 hm f0 f1
        go_wp2_with fail
        refine (unhide HMT).mono ?_
        rintro e w2 ⟨rfl, hb2⟩
        have hc2 := (unhide HS1).of_block (hb2.block b (unhide HBL1))
        have y1 := hc2.2 (j * 2 + 1) (by omega); have z1 := hc2.1 (j * 2 + 1)
        have hs2 := hc2.step (by omega) _ (unhide F1)
        have HS2 := hide hs2
        have HX2 := hide (((unhide HX1).trans (Exc.of_below hb2)).trans (Exc.set w2 b (j * 2 + 1) (.string (mtx (m + 1))) (by simp)))
        clear hc2 hs2 hb2 HMT HS1 HX1 HBL1 y0 z0
        go_wp2_with fail
        go_roundw
        case rel => exact ⟨j + 1, m + 2, by omega, by have := unhide HMM; omega, by go_num, by go_num, by rw [Nat.add_mul]; exact HS2, unhide HX2⟩
        case measure => simp [intOf]; omega
      · go_wp2_with fail
        go_ret
        obtain rfl : j = n := by omega
        exact ⟨by rw [hm]; rfl, ms_of_cells hlen HC.out hk, HX.out⟩

set_option maxHeartbeats 1600000 in
theorem markDisk_own (d : Dk) (c : C3) (F0 F1 F2 : List Nat) (k : Nat) (w : World) (hv : DkOwn w d c F0 F1 F2) (hF : ∀ b, b ∈ F0 ++ F1 ++ F2 → b < w.heap.size) (hnd : (F0 ++ F1 ++ F2).Nodup) (hk0 : 0 < k) (hk : k + mkD d ≤ 1099511627776) :
    Calls Tryz.prog 15 #[.agg #[c.c0, c.c1, c.c2], .int .i64 k] w fun e w' => e = .returned (.int .i64 (k + mkD d : Nat)) ∧ DkOwn w' (mDk k d) c F0 F1 F2 ∧ Exc (F0 ++ F1 ++ F2) w w' := by
  obtain ⟨c0, c1, c2⟩ := c
  unfold mkD at hk
  have hbx : ∀ o, Below w.heap.size w (w.alloc o) := fun o => (Below.refl _ _).alloc (Nat.le_refl _) o
  have hd01 : ∀ b, b ∈ F0 → b ∉ F1 ∧ b ∉ F2 := fun b hb => by
    obtain ⟨h1, -, h3⟩ := List.nodup_append.1 hnd
    obtain ⟨-, -, h4⟩ := List.nodup_append.1 h1
    exact ⟨fun hm => h4 b hb b hm rfl, fun hm => h3 b (by simp [hb]) b hm rfl⟩
  have hd12 : ∀ b, b ∈ F1 → b ∉ F2 := fun b hb hm => by
    obtain ⟨-, -, h3⟩ := List.nodup_append.1 hnd
    exact h3 b (by simp [hb]) b hm rfl
  have hl0 : ∀ b, b ∈ F0 → b < w.heap.size := fun b hb => hF b (by simp [hb])
  have hl1 : ∀ b, b ∈ F1 → b < w.heap.size := fun b hb => hF b (by simp [hb])
  have hl2 : ∀ b, b ∈ F2 → b < w.heap.size := fun b hb => hF b (by simp [hb])
  have HV := hide hv; have HBX := hide hbx; have HD01 := hide hd01; have HD12 := hide hd12; have HL0 := hide hl0; have HL1 := hide hl1; have HL2 := hide hl2
  have HROW := hide (row3_alloc w c0 c1 c2 37)
  have HF := hide (fun o => markDiskFileS_own c0 d.files F0 k (w.alloc o) ⟨hv.fs.1.carry (fun b hb => (hbx o).block b (hl0 b hb)), hv.fs.2⟩ hk0 (by omega))
  obtain ⟨⟨a0, p0, g0, -, -⟩, -⟩ := hv.fs
  obtain ⟨a1, p1, g1, -, -⟩ := hv.ns
  obtain ⟨⟨a2, p2, g2, -, -⟩, -⟩ := hv.ms
  simp only [List.length_map] at g0 g1 g2
  subst g0 g1 g2
  clear hv hbx hF hd01 hd12 hl0 hl1 hl2 hnd
  go_enter Tryz.func15, Tryz.ntmps15
  go_wp2_with fail
  refine (unhide HF _).mono ?_
  rintro e w1 ⟨rfl, hf1, hx1⟩
  have q1 := (unhide HROW).of_block (hx1.block w.heap.size (by simp) (fun hm => by have := unhide HL0 _ hm; omega))
  have k1 := q1.cell (i := 1) (by omega); have k2 := q1.cell (i := 2) (by omega)
  simp only [row3] at k1 k2
  have hx01 : Exc F0 w w1 := (Exc.of_below (unhide HBX _)).trans hx1
  have hn1 := (unhide HV).ns.carry (fun b hb => hx01.block b (unhide HL1 b hb) (fun hm => (unhide HD01 b hm).1 hb))
  have HN := hide (markStringS_any (.slice a1 d.names.length p1) d.names F1 (k + 3 * d.files.length) w1 hn1 (by omega) (by omega))
  have hs1 : w.heap.size < w1.heap.size := q1.lt
  have HF1 := hide hf1; have HX1 := hide hx01; have Q1 := hide q1
  clear hf1 hx1 q1 hx01 hn1 HF
  go_wp2_with fail
  refine (unhide HN).mono ?_
  rintro e w2 ⟨rfl, hn2, hx2⟩
  have q2 := (unhide Q1).of_block (hx2.block w.heap.size hs1 (fun hm => by have := unhide HL1 _ hm; omega))
  have k2 := q2.cell (i := 2) (by omega)
  simp only [row3] at k2
  have hf2 := (unhide HF1).1.carry (w' := w2) (fun b hb => hx2.block b (by have := unhide HL0 b hb; omega) (unhide HD01 b hb).1)
  have hx02 : Exc (F0 ++ F1) w w2 := ((unhide HX1).mono (fun b hb => by simp [hb])).trans (hx2.mono (fun b hb => by simp [hb]))
  have hm2 := (unhide HV).ms.1.carry (w' := w2) (fun b hb => hx02.block b (unhide HL2 b hb) (fun hm => by
    rcases List.mem_append.1 hm with h | h
    · exact (unhide HD01 b h).2 hb
    · exact unhide HD12 b h hb))
  have HM := hide (markDiskMoveS_own (.slice a2 d.moves.length p2) d.moves F2 (k + 3 * d.files.length + d.names.length) w2 ⟨hm2, (unhide HV).ms.2⟩ (by omega) (by omega))
  have HF2 := hide hf2; have HX2 := hide hx02; have HN2 := hide hn2; have HFO := hide (unhide HF1).2
  have hs2 : w.heap.size < w2.heap.size := q2.lt
  clear hn2 hx2 q2 hf2 hx02 hm2 HN HF1 HX1 Q1 k1
  go_wp2_with fail
  refine (unhide HM).mono ?_
  rintro e w3 ⟨rfl, hm3, hx3⟩
  have hf3 := (unhide HF2).carry (w' := w3) (fun b hb => hx3.block b (by have := unhide HL0 b hb; omega) (unhide HD01 b hb).2)
  have hn3 := (unhide HN2).carry (w' := w3) (fun b hb => hx3.block b (by have := unhide HL1 b hb; omega) (unhide HD12 b hb))
  have HO := hide (show DkOwn w3 (mDk k d) ⟨.slice a0 d.files.length p0, .slice a1 d.names.length p1, .slice a2 d.moves.length p2⟩ F0 F1 F2 from ⟨⟨hf3, unhide HFO⟩, hn3, hm3⟩)
  have HX3 := hide (((unhide HX2).mono (G := F0 ++ F1 ++ F2) (fun b hb => by simp at hb ⊢; rcases hb with h | h <;> simp [h])).trans (hx3.mono (fun b hb => by simp [hb])))
  clear hm3 hx3 hf3 hn3
  go_wp2_with fail
  go_ret
  refine ⟨?_, unhide HO, unhide HX3⟩
  unfold mkD
  rw [show k + (3 * d.files.length + d.names.length + 2 * d.moves.length) = k + 3 * d.files.length + d.names.length + 2 * d.moves.length by omega]
  rfl
end Go.Proofs.YtgdiankfnemjjaaGreat

/- The walk of heldStringS: of what was marked it tells the next mark, and turns nothing that was there. For marks up to 2^40. -/

namespace Go.Proofs.YtgdiankfnemjjaaGreat
open Go Go.RowKit

set_option maxHeartbeats 400000 in
theorem heldStringS_any (v : Value) (ss : List ByteArray) (k : Nat) (w : World) {P : Nat → Prop} (hv : StrsAt P w v (mS k ss)) (hP : ∀ b, P b → b < w.heap.size) (hk0 : 0 < k) (hk : k + ss.length ≤ 1099511627776) :
    Calls Tryz.prog 47 #[v, .int .i64 k] w fun e w' => e = .returned (.int .i64 (k + ss.length : Nat)) ∧ Below w.heap.size w w' := by
  obtain ⟨a, cap, rfl, hlen, hc⟩ := hv
  rw [mS_len] at hlen
  have hc' : ∀ i, i < ss.length → ∃ b o, a = some ⟨b, o, none⟩ ∧ P b ∧ w.cell? ⟨b, o + i, none⟩ = some (.string (mtx (k + i))) := fun i hi => by
    obtain ⟨b, o, e, hp, hcell, _⟩ := hc i (by rw [mS_len]; exact hi)
    rw [mS_get] at hcell
    exact ⟨b, o, e, hp, hcell⟩
  rw [mS_len]
  have HC := hide hc'; have HP := hide hP
  clear hc hc' hP
  go_enter Tryz.func47, Tryz.ntmps47
  go_wp2_with fail
  go_loopw [1, 5] (fun kk i wr => ∃ (j : Nat), j ≤ ss.length ∧ kk = .int .i64 (k + j : Nat) ∧ i = .int .i64 j ∧ Below w.heap.size w wr) (fun _ i _ => ss.length - (intOf i).toNat)
  case atStart => exact ⟨0, Nat.zero_le _, rfl, rfl, Below.refl _ _⟩
  case round =>
    obtain ⟨j, hj, rfl, rfl, hb⟩ := hrel
    by_cases hlt : j < ss.length
    · obtain ⟨b, o, rfl, hpb, hcell⟩ := unhide HC j hlt
      have e1 : wr.cell? ⟨b, o + j, none⟩ = some (.string (mtx (k + j))) := by rw [hb.cell (unhide HP b hpb)]; exact hcell
      have hcall := (markText_any (k + j) wr.drew (by omega) (by omega)).mono (fun e w' (h : e = .returned (.string (mtx (k + j))) ∧ Below wr.drew.heap.size wr.drew w') => (⟨h.1, h.2, by rw [h.2.cell (World.block_lt_of_cell? wr _ e1)]; exact e1⟩ : e = .returned (.string (mtx (k + j))) ∧ Below wr.drew.heap.size wr.drew w' ∧ w'.cell? ⟨b, o + j, none⟩ = some (.string (mtx (k + j)))))
      have HCALL := hide hcall
      clear hcell hpb hcall
      go_wp2_with fail
      go_region_with (go_at_call 44; refine (unhide HCALL).mono ?_; rintro e w' ⟨rfl, hb', hc'⟩)
      all_goals
        have hb2 := hb.drew.trans (hb'.mono hb.drew.size)
        go_wp2_with fail
        go_roundw
        case rel => exact ⟨j + 1, by omega, by go_num, by go_num, hb2⟩
        case measure => simp [intOf]; omega
    · go_wp2_with fail
      go_ret
      obtain rfl : j = ss.length := by omega
      exact ⟨rfl, hb⟩
end Go.Proofs.YtgdiankfnemjjaaGreat

/- The walks of the law's heldDiskFileS, heldDiskMoveS, heldDisk: of what was marked they tell the next mark, and turn nothing that was there. For marks up to 2^40. -/

namespace Go.Proofs.YtgdiankfnemjjaaGreat
open Go Go.RowKit

theorem markText_at (m : Nat) (w : World) (hm0 : 0 < m) (hm : m ≤ 1099511627776) (b o : Nat) (v : Value) (hc : w.cell? ⟨b, o, none⟩ = some v) :
    Calls Tryz.prog 44 #[.int .i64 (m : Int)] w.drew fun e w' => e = .returned (.string (mtx m)) ∧ Below w.heap.size w w' ∧ w'.cell? ⟨b, o, none⟩ = some v :=
  (markText_any m w.drew hm0 hm).mono fun e w' ⟨h1, h2⟩ => ⟨h1, (Below.refl _ w).drew.trans h2, by rw [h2.cell (p := ⟨b, o, none⟩) (World.block_lt_of_cell? w _ hc)]; exact hc⟩

set_option maxHeartbeats 1600000 in
theorem heldDiskFileS_any (v : Value) (n k : Nat) (w : World) {P : Nat → Prop} (hv : FsAt P w v (mFs k n)) (hP : ∀ b, P b → b < w.heap.size) (hk0 : 0 < k) (hk : k + 3 * n ≤ 1099511627776) :
    Calls Tryz.prog 46 #[v, .int .i64 k] w fun e w' => e = .returned (.int .i64 (k + 3 * n : Nat)) ∧ Below w.heap.size w w' := by
  obtain ⟨a, cap, rfl, hlen, hc⟩ := hv.open
  have hml : (mFs k n).length = n := by simp [mFs]
  have hc' : ∀ i, i < n → ∃ b o, a = some ⟨b, o, none⟩ ∧ P b ∧ C3.at w b (o + i * 3) ⟨.string (mtx (k + 3 * i)), .string (mtx (k + 3 * i + 1)), .int .i64 ((k + 3 * i + 2 : Nat) : Int)⟩ := fun i hi => by
    obtain ⟨b, o, e, hp, hcell, _⟩ := hc i (by rw [hml]; exact hi)
    have hg : (mFs k n)[i]'(by rw [hml]; exact hi) = ⟨mtx (k + 3 * i), mtx (k + 3 * i + 1), ((k + 3 * i + 2 : Nat) : Int)⟩ := by simp [mFs]
    rw [hg] at hcell
    exact ⟨b, o, e, hp, hcell⟩
  rw [hml] at hlen ⊢
  have HC := hide hc'; have HP := hide hP
  clear hc hc' hP hv hml
  go_enter Tryz.func46, Tryz.ntmps46
  go_wp2_with fail
  go_loopw [1, 5] (fun kk i wr => ∃ (j m : Nat), j ≤ n ∧ m = k + 3 * j ∧ kk = .int .i64 (m : Nat) ∧ i = .int .i64 j ∧ Hid (Below w.heap.size w wr)) (fun _ i _ => n - (intOf i).toNat)
  case atStart => exact ⟨0, k, Nat.zero_le _, by omega, rfl, rfl, Below.refl _ _⟩
  case round =>
    obtain ⟨j, m, hj, hm, rfl, rfl, HB⟩ := hrel
    by_cases hlt : j < n
    · obtain ⟨b, o, rfl, hpb, hcell⟩ := unhide HC j hlt
      obtain ⟨e0, e1, e2⟩ := hcell.carry (HB.out.block b (unhide HP b hpb))
      simp only [← hm] at e0 e1 e2
      have hmb : m + 3 ≤ 1099511627776 := by omega
      have hm0 : 0 < m := by omega
      have hii : (j : Int) < (n : Int) := by omega
      have HMM := hide hm
      have hbl := World.block_lt_of_cell? wr _ e0
      have HC1 := hide (markText_at m wr (by omega) (by omega) b (o + j * 3) _ e0)
      have HE1 := hide e1; have HE2 := hide e2
      clear hcell hpb hm e1 e2
      go_wp2_with fail
      go_region_with (go_at_call 44; refine (unhide HC1).mono ?_; rintro e w1 ⟨rfl, hb1, hc1⟩)
      all_goals
        have e1 : w1.cell? ⟨b, o + j * 3 + 1, none⟩ = some (.string (mtx (m + 1))) := by rw [hb1.cell (p := ⟨b, o + j * 3 + 1, none⟩) hbl]; exact unhide HE1
        have e2 : w1.cell? ⟨b, o + j * 3 + 2, none⟩ = some (.int .i64 ((m + 2 : Nat) : Int)) := by rw [hb1.cell (p := ⟨b, o + j * 3 + 2, none⟩) hbl]; exact unhide HE2
        have hmt := markText_at (m + 1) w1 (by omega) (by omega) b (o + j * 3 + 1) _ e1
        rw [show ((m + 1 : Nat) : Int) = (m : Int) + 1 by omega] at hmt
        have HC2 := hide hmt
        have hbl1 := World.block_lt_of_cell? w1 _ e1
        have HEE := hide e2
        have HB1 := hide (HB.out.trans (hb1.mono HB.out.size))
        clear hmt e2 hb1
        go_wp2_with fail
        go_region_with (go_at_call 44; refine (unhide HC2).mono ?_; rintro e w2 ⟨rfl, hb2, hc2⟩)
        all_goals
          have e2 : w2.cell? ⟨b, o + j * 3 + 2, none⟩ = some (.int .i64 ((m : Int) + 2)) := by rw [hb2.cell (p := ⟨b, o + j * 3 + 2, none⟩) hbl1]; exact unhide HEE
          have HB2 := hide ((unhide HB1).trans (hb2.mono (unhide HB1).size))
          clear hb2
          go_wp2_with fail
          go_roundw
          case rel => exact ⟨j + 1, m + 3, by omega, by have := unhide HMM; omega, by go_num, by go_num, unhide HB2⟩
          case measure => simp [intOf]; omega
    · go_wp2_with fail
      go_ret
      obtain rfl : j = n := by omega
      exact ⟨by rw [hm]; rfl, HB.out⟩

set_option maxHeartbeats 1600000 in
theorem heldDiskMoveS_any (v : Value) (n k : Nat) (w : World) {P : Nat → Prop} (hv : MsAt P w v (mMs k n)) (hP : ∀ b, P b → b < w.heap.size) (hk0 : 0 < k) (hk : k + 2 * n ≤ 1099511627776) :
    Calls Tryz.prog 48 #[v, .int .i64 k] w fun e w' => e = .returned (.int .i64 (k + 2 * n : Nat)) ∧ Below w.heap.size w w' := by
  obtain ⟨a, cap, rfl, hlen, hc⟩ := hv.open
  have hml : (mMs k n).length = n := by simp [mMs]
  have hc' : ∀ i, i < n → ∃ b o, a = some ⟨b, o, none⟩ ∧ P b ∧ w.cell? ⟨b, o + i * 2, none⟩ = some (.bool (((k + 2 * i : Nat) : Int).tmod 3 == 0)) ∧ w.cell? ⟨b, o + i * 2 + 1, none⟩ = some (.string (mtx (k + 2 * i + 1))) := fun i hi => by
    obtain ⟨b, o, e, hp, h0, h1, _⟩ := hc i (by rw [hml]; exact hi)
    have hg : (mMs k n)[i]'(by rw [hml]; exact hi) = ⟨((k + 2 * i : Nat) : Int).tmod 3 == 0, mtx (k + 2 * i + 1)⟩ := by simp [mMs]
    rw [hg] at h0 h1
    exact ⟨b, o, e, hp, h0, h1⟩
  rw [hml] at hlen ⊢
  have HC := hide hc'; have HP := hide hP
  clear hc hc' hP hv hml
  go_enter Tryz.func48, Tryz.ntmps48
  go_wp2_with fail
  go_loopw [1, 5] (fun kk i wr => ∃ (j m : Nat), j ≤ n ∧ m = k + 2 * j ∧ kk = .int .i64 (m : Nat) ∧ i = .int .i64 j ∧ Hid (Below w.heap.size w wr)) (fun _ i _ => n - (intOf i).toNat)
  case atStart => exact ⟨0, k, Nat.zero_le _, by omega, rfl, rfl, Below.refl _ _⟩
  case round =>
    obtain ⟨j, m, hj, hm, rfl, rfl, HB⟩ := hrel
    by_cases hlt : j < n
    · obtain ⟨b, o, rfl, hpb, h0, h1⟩ := unhide HC j hlt
      have e0 : wr.cell? ⟨b, o + j * 2, none⟩ = some (.bool ((m : Int).tmod 3 == 0)) := by rw [HB.out.cell (p := ⟨b, o + j * 2, none⟩) (unhide HP b hpb), hm]; exact h0
      have e1 : wr.cell? ⟨b, o + j * 2 + 1, none⟩ = some (.string (mtx (m + 1))) := by rw [HB.out.cell (p := ⟨b, o + j * 2 + 1, none⟩) (unhide HP b hpb), hm]; exact h1
      have hmb : m + 2 ≤ 1099511627776 := by omega
      have hm0 : 0 < m := by omega
      have hii : (j : Int) < (n : Int) := by omega
      have HMM := hide hm
      have hmt := markText_at (m + 1) wr (by omega) (by omega) b (o + j * 2 + 1) _ e1
      rw [show ((m + 1 : Nat) : Int) = (m : Int) + 1 by omega] at hmt
      have HC1 := hide hmt
      clear h0 h1 hpb hm hmt
      go_wp2_with fail
      go_region_with (go_at_call 44; refine (unhide HC1).mono ?_; rintro e w1 ⟨rfl, hb1, hc1⟩)
      all_goals
        have HB1 := hide (HB.out.trans (hb1.mono HB.out.size))
        clear hb1
        go_wp2_with fail
        go_roundw
        case rel => exact ⟨j + 1, m + 2, by omega, by have := unhide HMM; omega, by go_num, by go_num, unhide HB1⟩
        case measure => simp [intOf]; omega
    · go_wp2_with fail
      go_ret
      obtain rfl : j = n := by omega
      exact ⟨by rw [hm]; rfl, HB.out⟩

set_option maxHeartbeats 1600000 in
theorem heldDisk_any (d : Dk) (k : Nat) (c : C3) (w : World) {P : Nat → Prop} (hP : ∀ b, P b → b < w.heap.size) (hv : DkAt P w (mDk k d) c) (hk0 : 0 < k) (hk : k + mkD d ≤ 1099511627776) :
    Calls Tryz.prog 18 #[.agg #[c.c0, c.c1, c.c2], .int .i64 k] w fun e w' => e = .returned (.int .i64 (k + mkD d : Nat)) ∧ Below w.heap.size w w' := by
  obtain ⟨c0, c1, c2⟩ := c
  unfold mkD at hk
  have hbx : ∀ o, Below w.heap.size w (w.alloc o) := fun o => (Below.refl _ _).alloc (Nat.le_refl _) o
  have HF := hide (fun o => heldDiskFileS_any c0 d.files.length k (w.alloc o) (hv.fs.carry (fun b hb => (hbx o).block b (hP b hb)) (fun _ h => h)) (fun b hb => Nat.lt_of_lt_of_le (hP b hb) (hbx o).size) hk0 (by omega))
  have HN := hide (fun (W : World) (hW : Below w.heap.size w W) => heldStringS_any c1 d.names (k + 3 * d.files.length) W (hv.ns.carry (fun b hb => hW.block b (hP b hb)) (fun _ h => h)) (fun b hb => Nat.lt_of_lt_of_le (hP b hb) hW.size) (by omega) (by omega))
  have HM := hide (fun (W : World) (hW : Below w.heap.size w W) => heldDiskMoveS_any c2 d.moves.length (k + 3 * d.files.length + d.names.length) W (hv.ms.carry (fun b hb => hW.block b (hP b hb)) (fun _ h => h)) (fun b hb => Nat.lt_of_lt_of_le (hP b hb) hW.size) (by omega) (by omega))
  have HROW := hide (row3_alloc w c0 c1 c2 37)
  have HBX := hide hbx
  clear hv hP hbx
  go_enter Tryz.func18, Tryz.ntmps18
  go_wp2_with fail
  refine (unhide HF _).mono ?_
  rintro e w1 ⟨rfl, hb1⟩
  have q1 := (unhide HROW).of_block (hb1.block w.heap.size (by simp))
  have k1 := q1.cell (i := 1) (by omega); have k2 := q1.cell (i := 2) (by omega)
  simp only [row3] at k1 k2
  have hb01 := (unhide HBX _).trans (hb1.mono (unhide HBX _).size)
  have HN1 := hide (unhide HN w1 hb01)
  have HB1 := hide hb01; have Q1 := hide q1
  have hs1 : w.heap.size < w1.heap.size := q1.lt
  clear hb1 q1 hb01 HF HN
  go_wp2_with fail
  refine (unhide HN1).mono ?_
  rintro e w2 ⟨rfl, hb2⟩
  have q2 := (unhide Q1).of_block (hb2.block w.heap.size hs1)
  have k2 := q2.cell (i := 2) (by omega)
  simp only [row3] at k2
  have hb02 := (unhide HB1).trans (hb2.mono (unhide HB1).size)
  have HM2 := hide (unhide HM w2 hb02)
  have HB2 := hide hb02
  clear hb2 q2 hb02 HN1 HM HB1 Q1 k1
  go_wp2_with fail
  refine (unhide HM2).mono ?_
  rintro e w3 ⟨rfl, hb3⟩
  have HB3 := hide ((unhide HB2).trans (hb3.mono (unhide HB2).size))
  clear hb3
  go_wp2_with fail
  go_ret
  exact ⟨by unfold mkD; rw [show k + (3 * d.files.length + d.names.length + 2 * d.moves.length) = k + 3 * d.files.length + d.names.length + 2 * d.moves.length by omega]; rfl, unhide HB3⟩
end Go.Proofs.YtgdiankfnemjjaaGreat
