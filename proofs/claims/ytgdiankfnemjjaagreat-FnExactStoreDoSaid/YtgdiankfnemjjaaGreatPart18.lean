/- The walks of the law's eqDiskFile, eqDiskFileS, eqDiskMove, eqDiskMoveS, eqDisk, of two that are the same: they answer true, and turn nothing that was there. No conditions. -/
import Derived.Test.YtgdiankfnemjjaaGreatPart00
import Derived.Test.YtgdiankfnemjjaaGreatPart13
import Derived.Test.YtgdiankfnemjjaaGreatPart14
import Derived.Test.YtgdiankfnemjjaaGreatPart16
import Derived.Test.YtgdiankfnemjjaaGreatPart17
import Derived.Test.YtgdiankfnemjjaaGreatPart07
import Derived.Test.YtgdiankfnemjjaaGreatPart08
import Derived.Handy
namespace Go.Proofs.YtgdiankfnemjjaaGreat
open Go Go.RowKit

set_option maxHeartbeats 400000 in
theorem eqDiskFile_any (f : Df) (w : World) :
    Calls Tryz.prog 67 #[.agg #[.string f.name, .string f.data, .int .i64 f.kept], .agg #[.string f.name, .string f.data, .int .i64 f.kept]] w fun e w' => e = .returned (.bool true) ∧ Below w.heap.size w w' := by
  have hb0 : ∀ o o2, Below w.heap.size w ((w.alloc o).alloc o2) := fun o o2 => ((Below.refl _ _).alloc (Nat.le_refl _) o).alloc (by simp) o2
  go_enter Tryz.func67, Tryz.ntmps67
  go_wp2_with fail
  go_ret
  exact ⟨rfl, hb0 _ _⟩
set_option maxHeartbeats 400000 in
theorem eqDiskMove_any (m : Dm) (w : World) :
    Calls Tryz.prog 68 #[.agg #[.bool m.gone, .string m.name], .agg #[.bool m.gone, .string m.name]] w fun e w' => e = .returned (.bool true) ∧ Below w.heap.size w w' := by
  have hb0 : ∀ o o2, Below w.heap.size w ((w.alloc o).alloc o2) := fun o o2 => ((Below.refl _ _).alloc (Nat.le_refl _) o).alloc (by simp) o2
  go_enter Tryz.func68, Tryz.ntmps68
  go_wp2_with fail
  go_ret
  exact ⟨rfl, hb0 _ _⟩

set_option maxHeartbeats 800000 in
theorem eqDiskFileS_any (v v2 : Value) (fs : List Df) (w : World) {P Q : Nat → Prop} (hP : ∀ b, P b → b < w.heap.size) (hQ : ∀ b, Q b → b < w.heap.size) (hv : FsAt P w v fs) (hv2 : FsAt Q w v2 fs) :
    Calls Tryz.prog 36 #[v, v2] w fun e w' => e = .returned (.bool true) ∧ Below w.heap.size w w' := by
  obtain ⟨a, cap, rfl, hlen, hc⟩ := hv.open
  obtain ⟨a2, cap2, rfl, -, hc2⟩ := hv2.open
  have HC := hide hc; have HC2 := hide hc2; have HP := hide hP; have HQ := hide hQ; clear hc hc2 hP hQ hv hv2
  go_enter Tryz.func36, Tryz.ntmps36
  go_wp2_with fail
  go_loopw [5] (fun i wr => ∃ (k : Nat), k ≤ fs.length ∧ i = .int .i64 k ∧ Below w.heap.size w wr) (fun i _ => fs.length - (intOf i).toNat)
  case atStart => exact ⟨0, Nat.zero_le _, rfl, Below.refl _ _⟩
  case round =>
    obtain ⟨k, hk, rfl, hb⟩ := hrel
    by_cases hlt : k < fs.length
    · obtain ⟨b, o, rfl, hpb, hcell, -⟩ := unhide HC k hlt
      obtain ⟨b2, o2, rfl, hpb2, hcell2, -⟩ := unhide HC2 k hlt
      obtain ⟨e0, e1, e2⟩ := hcell.carry (hb.block b (unhide HP b hpb))
      obtain ⟨g0, g1, g2⟩ := hcell2.carry (hb.block b2 (unhide HQ b2 hpb2))
      simp only at e0 e1 e2 g0 g1 g2
      have HCALL := hide (eqDiskFile_any fs[k] wr.drew)
      clear hcell hpb hcell2 hpb2
      generalize fs[k] = f at *
      go_wp2_with fail
      go_region_with (go_at_call 67; refine (unhide HCALL).mono ?_; rintro e w' ⟨rfl, hb'⟩)
      all_goals
        have hb2 := hb.drew.trans (hb'.mono hb.drew.size)
        go_wp2_with fail
        go_roundw
        case rel => exact ⟨k + 1, by omega, by go_num, hb2⟩
        case measure => simp [intOf]; omega
    · go_wp2_with fail
      go_ret
      exact ⟨rfl, hb⟩

set_option maxHeartbeats 800000 in
theorem eqDiskMoveS_any (v v2 : Value) (fs : List Dm) (w : World) {P Q : Nat → Prop} (hP : ∀ b, P b → b < w.heap.size) (hQ : ∀ b, Q b → b < w.heap.size) (hv : MsAt P w v fs) (hv2 : MsAt Q w v2 fs) :
    Calls Tryz.prog 38 #[v, v2] w fun e w' => e = .returned (.bool true) ∧ Below w.heap.size w w' := by
  obtain ⟨a, cap, rfl, hlen, hc⟩ := hv.open
  obtain ⟨a2, cap2, rfl, -, hc2⟩ := hv2.open
  have HC := hide hc; have HC2 := hide hc2; have HP := hide hP; have HQ := hide hQ; clear hc hc2 hP hQ hv hv2
  go_enter Tryz.func38, Tryz.ntmps38
  go_wp2_with fail
  go_loopw [5] (fun i wr => ∃ (k : Nat), k ≤ fs.length ∧ i = .int .i64 k ∧ Below w.heap.size w wr) (fun i _ => fs.length - (intOf i).toNat)
  case atStart => exact ⟨0, Nat.zero_le _, rfl, Below.refl _ _⟩
  case round =>
    obtain ⟨k, hk, rfl, hb⟩ := hrel
    by_cases hlt : k < fs.length
    · obtain ⟨b, o, rfl, hpb, hc0, hc1, -⟩ := unhide HC k hlt
      obtain ⟨b2, o2, rfl, hpb2, hd0, hd1, -⟩ := unhide HC2 k hlt
      have e0 : wr.cell? ⟨b, o + k * 2, none⟩ = some (.bool fs[k].gone) := by rw [hb.cell (unhide HP b hpb)]; exact hc0
      have e1 : wr.cell? ⟨b, o + k * 2 + 1, none⟩ = some (.string fs[k].name) := by rw [hb.cell (unhide HP b hpb)]; exact hc1
      have g0 : wr.cell? ⟨b2, o2 + k * 2, none⟩ = some (.bool fs[k].gone) := by rw [hb.cell (unhide HQ b2 hpb2)]; exact hd0
      have g1 : wr.cell? ⟨b2, o2 + k * 2 + 1, none⟩ = some (.string fs[k].name) := by rw [hb.cell (unhide HQ b2 hpb2)]; exact hd1
      have HCALL := hide (eqDiskMove_any fs[k] wr.drew)
      clear hc0 hc1 hd0 hd1 hpb hpb2
      generalize fs[k] = f at *
      go_wp2_with fail
      go_region_with (go_at_call 68; refine (unhide HCALL).mono ?_; rintro e w' ⟨rfl, hb'⟩)
      all_goals
        have hb2 := hb.drew.trans (hb'.mono hb.drew.size)
        go_wp2_with fail
        go_roundw
        case rel => exact ⟨k + 1, by omega, by go_num, hb2⟩
        case measure => simp [intOf]; omega
    · go_wp2_with fail
      go_ret
      exact ⟨rfl, hb⟩

set_option maxHeartbeats 800000 in
theorem eqDisk_any (d : Dk) (P Q : Nat → Prop) (c c' : C3) (w : World) (hP : ∀ b, P b → b < w.heap.size) (hQ : ∀ b, Q b → b < w.heap.size) (hd : DkAt P w d c) (hd2 : DkAt Q w d c') :
    Calls Tryz.prog 12 #[.agg #[c.c0, c.c1, c.c2], .agg #[c'.c0, c'.c1, c'.c2]] w fun e w' => e = .returned (.bool true) ∧ Below w.heap.size w w' := by
  obtain ⟨c0, c1, c2⟩ := c
  obtain ⟨d0, d1, d2⟩ := c'
  obtain ⟨a0, p0, g0, -, -⟩ := hd.fs.open
  obtain ⟨a1, p1, g1, -, -⟩ := hd.ns
  obtain ⟨a2, p2, g2, -, -⟩ := hd.ms.open
  obtain ⟨b0, q0, f0, -, -⟩ := hd2.fs.open
  obtain ⟨b1, q1, f1, -, -⟩ := hd2.ns
  obtain ⟨b2, q2, f2, -, -⟩ := hd2.ms.open
  simp only at g0 g1 g2 f0 f1 f2
  subst g0 g1 g2 f0 f1 f2
  have hcar : ∀ W, Below w.heap.size w W → DkAt P W d _ := fun W hW => hd.carry (fun b hb => hW.block b (hP b hb)) (fun _ h => h)
  have hcar2 : ∀ W, Below w.heap.size w W → DkAt Q W d _ := fun W hW => hd2.carry (fun b hb => hW.block b (hQ b hb)) (fun _ h => h)
  have hPW : ∀ W, Below w.heap.size w W → ∀ b, P b → b < W.heap.size := fun W hW b hb => Nat.lt_of_lt_of_le (hP b hb) hW.size
  have hQW : ∀ W, Below w.heap.size w W → ∀ b, Q b → b < W.heap.size := fun W hW b hb => Nat.lt_of_lt_of_le (hQ b hb) hW.size
  have HF := hide (fun W (hW : Below w.heap.size w W) => eqDiskFileS_any _ _ d.files W (hPW W hW) (hQW W hW) (hcar W hW).fs (hcar2 W hW).fs)
  have HN := hide (fun W (hW : Below w.heap.size w W) => eqStringS_any _ _ d.names W (hcar W hW).ns (hcar2 W hW).ns (hPW W hW) (hQW W hW))
  have HM := hide (fun W (hW : Below w.heap.size w W) => eqDiskMoveS_any _ _ d.moves W (hPW W hW) (hQW W hW) (hcar W hW).ms (hcar2 W hW).ms)
  have hb0 : ∀ o o2, Below w.heap.size w ((w.alloc o).alloc o2) := fun o o2 => ((Below.refl _ _).alloc (Nat.le_refl _) o).alloc (by simp) o2
  have r0 := (row3_alloc w (.slice a0 d.files.length p0) (.slice a1 d.names.length p1) (.slice a2 d.moves.length p2) 37).alloc (.cells #[.slice b0 d.files.length q0, .slice b1 d.names.length q1, .slice b2 d.moves.length q2] 37)
  have r1 := row3_alloc (w.alloc (.cells #[.slice a0 d.files.length p0, .slice a1 d.names.length p1, .slice a2 d.moves.length p2] 37)) (.slice b0 d.files.length q0) (.slice b1 d.names.length q1) (.slice b2 d.moves.length q2) 37
  rw [World.size_alloc] at r1
  have HB0 := hide (hb0 (.cells #[.slice a0 d.files.length p0, .slice a1 d.names.length p1, .slice a2 d.moves.length p2] 37) (.cells #[.slice b0 d.files.length q0, .slice b1 d.names.length q1, .slice b2 d.moves.length q2] 37))
  have R0 := hide r0; have R1 := hide r1
  clear hd hd2 hcar hcar2 hPW hQW hP hQ hb0 r0 r1
  generalize hnf : d.files.length = nf at *
  generalize hnn : d.names.length = nn at *
  generalize hnm : d.moves.length = nm at *
  clear hnf hnn hnm
  go_enter Tryz.func12, Tryz.ntmps12
  go_wp2_with fail
  obtain ⟨W0, hW0⟩ : ∃ W0, (w.alloc (.cells #[.slice a0 nf p0, .slice a1 nn p1, .slice a2 nm p2] 37)).alloc (.cells #[.slice b0 nf q0, .slice b1 nn q1, .slice b2 nm q2] 37) = W0 := ⟨_, rfl⟩
  rw [hW0] at R0 R1 HB0 ⊢
  clear hW0
  refine (unhide HF _ (unhide HB0)).mono ?_
  rintro e w1 ⟨rfl, hb1⟩
  have s0 := (unhide R0).of_block (hb1.block _ (unhide R0).lt)
  have s1 := (unhide R1).of_block (hb1.block _ (unhide R1).lt)
  have HB1 := hide ((unhide HB0).trans (hb1.mono (unhide HB0).size))
  have k1 := s0.cell (i := 1) (by omega); have k2 := s0.cell (i := 2) (by omega); have l1 := s1.cell (i := 1) (by omega); have l2 := s1.cell (i := 2) (by omega)
  simp only [row3] at k1 k2 l1 l2
  have S0 := hide s0; have S1 := hide s1
  clear s0 s1 hb1 R0 R1 HB0 HF
  go_wp2_with fail
  refine (unhide HN _ (unhide HB1)).mono ?_
  rintro e w2 ⟨rfl, hb2⟩
  have s0 := (unhide S0).of_block (hb2.block _ (unhide S0).lt)
  have s1 := (unhide S1).of_block (hb2.block _ (unhide S1).lt)
  have HB2 := hide ((unhide HB1).trans (hb2.mono (unhide HB1).size))
  have k2 := s0.cell (i := 2) (by omega); have l2 := s1.cell (i := 2) (by omega)
  simp only [row3] at k2 l2
  clear s0 s1 hb2 S0 S1 HB1 HN
  go_wp2_with fail
  refine (unhide HM _ (unhide HB2)).mono ?_
  rintro e w3 ⟨rfl, hb3⟩
  have HB3 := hide ((unhide HB2).trans (hb3.mono (unhide HB2).size))
  go_wp2_with fail
  go_ret
  exact ⟨rfl, unhide HB3⟩
end Go.Proofs.YtgdiankfnemjjaaGreat

/- What the law on DiskCut holds behind both calls, and how that is carried on. No conditions. -/

namespace Go.Proofs.YtgdiankfnemjjaaGreat
open Go Go.RowKit

/-- What the law holds behind both calls: its argument's box, those of both answers and of the copy, and both answers. D: the copies' blocks. -/
structure CSt (w wr : World) (c dW dX dG : C3) (S S' : Dk) (B8 B9 BG : Nat) (PW D : Nat → Prop) (F0 F1 F2 : List Nat) : Prop where
  below : Below w.heap.size w wr
  bA : wr.rowIs w.heap.size 26 3 (row3 c.c0 c.c1 c.c2)
  bW : wr.rowIs B8 37 3 (row3 dW.c0 dW.c1 dW.c2)
  bX : wr.rowIs B9 37 3 (row3 dX.c0 dX.c1 dX.c2)
  bG : wr.rowIs BG 37 3 (row3 dG.c0 dG.c1 dG.c2)
  oW : DkAt PW wr S dW
  oG : DkOwn wr S' dG F0 F1 F2
  nd : (F0 ++ F1 ++ F2).Nodup
  lW : ∀ b, PW b → b < wr.heap.size
  lD : ∀ b, D b → w.heap.size < b ∧ b ≠ B8 ∧ b ≠ B9 ∧ b ≠ BG ∧ ¬ PW b ∧ b ∉ F0 ++ F1 ++ F2
  lG : ∀ b, b ∈ F0 ++ F1 ++ F2 → w.heap.size < b ∧ b ≠ B8 ∧ b ≠ B9 ∧ b ≠ BG ∧ ¬ PW b ∧ b < wr.heap.size
theorem CSt.on {w wr w' : World} {c dW dX dG : C3} {S S' : Dk} {B8 B9 BG : Nat} {PW D : Nat → Prop} {F0 F1 F2 : List Nat} (h : CSt w wr c dW dX dG S S' B8 B9 BG PW D F0 F1 F2) (hb : Below wr.heap.size wr w') : CSt w w' c dW dX dG S S' B8 B9 BG PW D F0 F1 F2 := by
  have hs := hb.size
  exact ⟨h.below.trans (hb.mono h.below.size), h.bA.of_block (hb.block _ h.bA.lt), h.bW.of_block (hb.block _ h.bW.lt), h.bX.of_block (hb.block _ h.bX.lt), h.bG.of_block (hb.block _ h.bG.lt), h.oW.carry (fun b hm => hb.block b (h.lW b hm)) (fun _ h => h), h.oG.carry (fun b hm => hb.block b (h.lG b hm).2.2.2.2.2), h.nd, fun b hm => Nat.lt_of_lt_of_le (h.lW b hm) hs, h.lD, fun b hm => ⟨(h.lG b hm).1, (h.lG b hm).2.1, (h.lG b hm).2.2.1, (h.lG b hm).2.2.2.1, (h.lG b hm).2.2.2.2.1, Nat.lt_of_lt_of_le (h.lG b hm).2.2.2.2.2 hs⟩⟩
theorem CSt.like {w wr w' : World} {c dW dX dG : C3} {S S' : Dk} {B8 B9 BG : Nat} {PW D E : Nat → Prop} {F0 F1 F2 : List Nat} (h : CSt w wr c dW dX dG S S' B8 B9 BG PW D F0 F1 F2) (hb : Like E wr w') (hE : ∀ b, E b → D b) : CSt w w' c dW dX dG S S' B8 B9 BG PW D F0 F1 F2 := by
  have hs := hb.size; have h4 := h.below.size
  refine ⟨h.below.trans ⟨hb.os, hb.tape, hb.output, hb.size, fun k hk => hb.block k (by omega) (fun hd => by have := (h.lD k (hE k hd)).1; omega)⟩, h.bA.of_block (hb.block _ h.bA.lt (fun hd => by have := (h.lD _ (hE _ hd)).1; omega)), h.bW.of_block (hb.block _ h.bW.lt (fun hd => (h.lD _ (hE _ hd)).2.1 rfl)), h.bX.of_block (hb.block _ h.bX.lt (fun hd => (h.lD _ (hE _ hd)).2.2.1 rfl)), h.bG.of_block (hb.block _ h.bG.lt (fun hd => (h.lD _ (hE _ hd)).2.2.2.1 rfl)), h.oW.carry (fun b hm => hb.block b (h.lW b hm) (fun hd => (h.lD _ (hE _ hd)).2.2.2.2.1 hm)) (fun _ h => h), h.oG.carry (fun b hm => hb.block b (h.lG b hm).2.2.2.2.2 (fun hd => (h.lD _ (hE _ hd)).2.2.2.2.2 hm)), h.nd, fun b hm => Nat.lt_of_lt_of_le (h.lW b hm) hs, h.lD, fun b hm => ⟨(h.lG b hm).1, (h.lG b hm).2.1, (h.lG b hm).2.2.1, (h.lG b hm).2.2.2.1, (h.lG b hm).2.2.2.2.1, Nat.lt_of_lt_of_le (h.lG b hm).2.2.2.2.2 hs⟩⟩
theorem CSt.exc {w wr w' : World} {c dW dX dG : C3} {S S' S2 : Dk} {B8 B9 BG : Nat} {PW D : Nat → Prop} {F0 F1 F2 : List Nat} (h : CSt w wr c dW dX dG S S' B8 B9 BG PW D F0 F1 F2) (hb : Exc (F0 ++ F1 ++ F2) wr w') (hG : DkOwn w' S2 dG F0 F1 F2) : CSt w w' c dW dX dG S S2 B8 B9 BG PW D F0 F1 F2 := by
  have hs := hb.size; have h4 := h.below.size
  exact ⟨h.below.trans (hb.below h4 (fun b hm => by have := (h.lG b hm).1; omega)), h.bA.of_block (hb.block _ h.bA.lt (fun hm => by have := (h.lG _ hm).1; omega)), h.bW.of_block (hb.block _ h.bW.lt (fun hm => (h.lG _ hm).2.1 rfl)), h.bX.of_block (hb.block _ h.bX.lt (fun hm => (h.lG _ hm).2.2.1 rfl)), h.bG.of_block (hb.block _ h.bG.lt (fun hm => (h.lG _ hm).2.2.2.1 rfl)), h.oW.carry (fun b hm => hb.block b (h.lW b hm) (fun hd => (h.lG _ hd).2.2.2.2.1 hm)) (fun _ h => h), hG, h.nd, fun b hm => Nat.lt_of_lt_of_le (h.lW b hm) hs, h.lD, fun b hm => ⟨(h.lG b hm).1, (h.lG b hm).2.1, (h.lG b hm).2.2.1, (h.lG b hm).2.2.2.1, (h.lG b hm).2.2.2.2.1, Nat.lt_of_lt_of_le (h.lG b hm).2.2.2.2.2 hs⟩⟩
theorem CSt.eq {w wr : World} {c dW dX dG : C3} {S : Dk} {B8 B9 BG : Nat} {PW D : Nat → Prop} {F0 F1 F2 : List Nat} (h : CSt w wr c dW dX dG S S B8 B9 BG PW D F0 F1 F2) :
    Calls Tryz.prog 12 #[.agg #[dG.c0, dG.c1, dG.c2], .agg #[dW.c0, dW.c1, dW.c2]] wr fun e w' => e = .returned (.bool true) ∧ Below wr.heap.size wr w' :=
  eqDisk_any S _ PW dG dW wr (fun b hb => (h.lG b hb).2.2.2.2.2) h.lW h.oG.at h.oW
theorem cutD_small (d : Dk) (m : Int) (zs : List Int) : mkD (cutD d m zs) ≤ 100000 := by
  by_cases h : DkOkS d
  · rw [cutD_ok h]; have := (cutN_facts h m).2.1; unfold mkD; simp only [List.length_map, List.length_nil]; omega
  · rw [cutD_no h]; unfold mkD; simp
end Go.Proofs.YtgdiankfnemjjaaGreat

/- Raw writes and acts as plain data; what writes do one by one; that a write that is not refused leaves a disk that is ok. No program, no conditions. -/

namespace Go.Proofs.YtgdiankfnemjjaaGreat
open Go Go.RowKit

/-- A disk is ok where its files are named by names without a double. -/
theorem ok_of {d : Dk} (l1 : d.files.length ≤ 64) (l2 : d.names.length ≤ 64) (l3 : d.moves.length ≤ 128) (hn : d.files.map Df.name = madeD d.names d.moves) (hnd : (madeD d.names d.moves).Nodup)
    (hf : ∀ f, f ∈ d.files → nameOkB f.name = true ∧ f.data.size ≤ 20000 ∧ 0 ≤ f.kept ∧ f.kept ≤ f.data.size)
    (hm : ∀ i (h : i < d.moves.length), d.moves[i].gone = true → hasB (afterD d.names (d.moves.take i)) d.moves[i].name = true) : DkOkS d := by
  have hlen : (madeD d.names d.moves).length = d.files.length := by rw [← hn, List.length_map]
  refine ⟨l1, l2, l3, hlen, fun i h h2 => ?_, hm⟩
  have h0 := hf d.files[i] (List.getElem_mem h)
  have hni : d.files[i].name = (madeD d.names d.moves)[i] := by
    have : (d.files.map Df.name)[i]'(by rw [List.length_map]; exact h) = (madeD d.names d.moves)[i] := by simp only [hn]
    rw [List.getElem_map] at this
    exact this
  have hfi : findF d.files d.files[i].name = i := by
    refine findF_yes i h (by rw [sameB_dec]; exact decide_eq_true rfl) fun j hj hjl => ?_
    rw [sameB_dec]
    refine decide_eq_false fun e => ?_
    rw [← hn] at hnd
    have := (List.pairwise_iff_getElem.1 hnd) j i (by rw [List.length_map]; exact hjl) (by rw [List.length_map]; exact h) hj
    rw [List.getElem_map, List.getElem_map] at this
    exact this e
  exact ⟨h0.1, by rw [sameB_dec]; exact decide_eq_true hni, h0.2.1, h0.2.2, hfi⟩
theorem made_snoc (ns : List ByteArray) (ms : List Dm) (m : Dm) : madeD ns (ms ++ [m]) = if m.gone = true then madeD ns ms else madeD ns ms ++ [m.name] := by
  unfold madeD
  rw [List.filter_append, List.map_append, ← List.append_assoc]
  cases h : m.gone <;> simp [h]
theorem len_sub : ∀ (l m : List ByteArray), l.Nodup → (∀ x, x ∈ l → x ∈ m) → l.length ≤ m.length
  | [], _, _, _ => Nat.zero_le _
  | a :: l, m, hn, hs => by
    have ha := hs a (by simp)
    obtain ⟨s, u, rfl⟩ := List.append_of_mem ha
    have h1 := len_sub l (s ++ u) (List.nodup_cons.1 hn).2 fun x hx => by
      have h2 := hs x (by simp [hx])
      have hne : x ≠ a := fun e => (List.nodup_cons.1 hn).1 (e ▸ hx)
      simp only [List.mem_append, List.mem_cons] at h2 ⊢
      rcases h2 with h2 | h2 | h2
      · exact Or.inl h2
      · exact absurd h2 hne
      · exact Or.inr h2
    simp only [List.length_append, List.length_cons] at h1 ⊢
    omega
theorem set_names {fs : List Df} {i : Nat} (hi : i < fs.length) {f : Df} (h : f.name = fs[i].name) : (fs.set i f).map Df.name = fs.map Df.name := by
  rw [List.map_set, h]
  refine List.ext_getElem (by simp) fun j h1 h2 => ?_
  rw [List.getElem_set]
  split
  · next e => subst e; simp
  · rfl
theorem move_last {d : Dk} {m : Dm} (hok : DkOkS d) (hl : m.gone = true → hasB (afterD d.names d.moves) m.name = true) : ∀ i (h : i < (d.moves ++ [m]).length), (d.moves ++ [m])[i].gone = true → hasB (afterD d.names ((d.moves ++ [m]).take i)) (d.moves ++ [m])[i].name = true := by
  intro i h hg
  by_cases hi : i < d.moves.length
  · rw [List.getElem_append_left hi] at hg ⊢
    rw [List.take_append_of_le_length (Nat.le_of_lt hi)]
    exact hok.move i hi hg
  · have e : i = d.moves.length := by simp at h; omega
    subst e
    simp only [List.getElem_concat_length] at hg ⊢
    rw [List.take_left']
    · exact hl hg
    · rfl
theorem doD_ok {d : Dk} {k : Int} {x y : ByteArray} (hok : DkOkS d) (h0 : (doD d k x y).2 = 0) : DkOkS (doD d k x y).1 := by
  obtain ⟨hnd, heq, -⟩ := dk_nodup hok
  have l1 := hok.l1; have l2 := hok.l2; have l3 := hok.l3
  have hf : ∀ f, f ∈ d.files → nameOkB f.name = true ∧ f.data.size ≤ 20000 ∧ 0 ≤ f.kept ∧ f.kept ≤ f.data.size := fun f hf => by
    obtain ⟨i, hi, rfl⟩ := List.getElem_of_mem hf
    have := hok.file i hi (by rw [hok.len]; exact hi)
    exact ⟨this.name, this.data, this.kept⟩
  have hset : ∀ (i : Nat) (hi : i < d.files.length) (f : Df), f.name = d.files[i].name → f.data.size ≤ 20000 → 0 ≤ f.kept → f.kept ≤ f.data.size → DkOkS ⟨d.files.set i f, d.names, d.moves⟩ := fun i hi f h1 h2 h3 h4 =>
    ok_of (by simpa using l1) l2 l3 (by simp only; rw [set_names hi h1]; exact heq) hnd (fun g hg => by
      rcases List.mem_or_eq_of_mem_set hg with hg | rfl
      · exact hf g hg
      · exact ⟨by rw [h1]; exact (hf _ (List.getElem_mem hi)).1, h2, h3, h4⟩) hok.move
  by_cases k1 : k = 1
  · subst k1
    by_cases ht : nameOkB x = false ∨ 0 ≤ findF d.files x
    · rw [doD_taken hok ht] at h0; cases h0
    by_cases hfu : 64 ≤ d.files.length ∨ 128 ≤ d.moves.length
    · rw [doD_full hok ht hfu] at h0; cases h0
    rw [doD_make hok ht hfu]
    have hxn : nameOkB x = true := by
      cases e : nameOkB x with
      | true => rfl
      | false => exact absurd (Or.inl e) ht
    have hxm : x ∉ madeD d.names d.moves := fun hm => by
      rw [← heq] at hm
      obtain ⟨f, hfm, rfl⟩ := List.mem_map.1 hm
      obtain ⟨i, hi, rfl⟩ := List.getElem_of_mem hfm
      exact ht (Or.inr (by rw [(hok.file i hi (by rw [hok.len]; exact hi)).find]; omega))
    have hmd : madeD d.names (d.moves ++ [⟨false, x⟩]) = madeD d.names d.moves ++ [x] := by rw [made_snoc]; rfl
    refine ok_of (by simp only [List.length_append, List.length_cons, List.length_nil]; omega) l2 (by simp only [List.length_append, List.length_cons, List.length_nil]; omega) ?_ ?_ ?_ (move_last hok fun h => by cases h)
    · simp only; rw [hmd, List.map_append, heq]; rfl
    · simp only; rw [hmd]
      exact List.nodup_append.2 ⟨hnd, by simp, fun a ha b hb e => by subst e; simp at hb; exact hxm (hb ▸ ha)⟩
    · intro f hfm
      rcases List.mem_append.1 hfm with hfm | hfm
      · exact hf f hfm
      · obtain rfl := List.mem_singleton.1 hfm
        exact ⟨hxn, by simp only; decide, by simp only; omega, by simp only; omega⟩
  by_cases k5 : k = 5
  · subst k5
    rw [doD_dirs hok]
    have hN := namesD_ok hok
    have han := after_nodup hnd d.moves.length (Nat.le_refl _)
    rw [List.take_length, ← hN] at han
    have hle : (namesD d).length ≤ d.files.length := by
      have := len_sub (namesD d) (madeD d.names d.moves) han.1 han.2
      rw [hok.len] at this
      exact this
    have hnm : ∀ z, z ∈ namesD d → (fileD d z).name = z ∧ fileD d z ∈ d.files := fun z hz => by
      obtain ⟨i, hi, -, h1, h2⟩ := names_file hz
      rw [fileD_at hi h2]
      exact ⟨h1, List.getElem_mem hi⟩
    have hmn : madeD (namesD d) [] = namesD d := by unfold madeD; simp
    refine ok_of (by simp only [keepD, List.length_map]; omega) (by simp only [keepD]; omega) (by simp [keepD]) ?_ ?_ ?_ (fun i h => by simp [keepD] at h)
    · simp only [keepD]
      rw [hmn, List.map_map]
      exact (List.map_congr_left fun z hz => (hnm z hz).1).trans (List.map_id' _)
    · simp only [keepD]; rw [hmn]; exact han.1
    · intro f hfm
      obtain ⟨z, hz, rfl⟩ := List.mem_map.1 hfm
      exact hf _ (hnm z hz).2
  by_cases hk : 2 ≤ k ∧ k ≤ 4
  case neg => rw [doD_kind hok (by omega)] at h0; cases h0
  by_cases hin : x ∈ namesD d
  case neg => rw [doD_nofile hok hk hin] at h0; cases h0
  obtain ⟨i, hi, -, hxi, hfi⟩ := names_file hin
  have hfd := fileD_at hi hfi
  have hfo := hf _ (List.getElem_mem hi)
  by_cases k2 : k = 2
  · subst k2
    by_cases hz : 20000 - ((fileD d x).data.size : Int) < (y.size : Int)
    · rw [doD_addfull hok hin hz] at h0; cases h0
    rw [doD_add hok hin hz, putD_at hfi, hfd]
    rw [hfd] at hz
    exact hset i hi _ rfl (by simp only [ByteArray.size_append]; omega) hfo.2.2.1 (by simp only [ByteArray.size_append]; omega)
  by_cases k3 : k = 3
  · subst k3
    rw [doD_sync hok hin, putD_at hfi, hfd]
    exact hset i hi _ rfl hfo.2.1 (by simp only; omega) (by simp only; omega)
  obtain rfl : k = 4 := by omega
  by_cases hfu : 128 ≤ d.moves.length
  · rw [doD_gonefull hok hin hfu] at h0; cases h0
  rw [doD_gone hok hin hfu]
  have hmd : madeD d.names (d.moves ++ [⟨true, x⟩]) = madeD d.names d.moves := by rw [made_snoc]; rfl
  refine ok_of l1 l2 (by simp only [List.length_append, List.length_cons, List.length_nil]; omega) (by simp only; rw [hmd]; exact heq) (by simp only; rw [hmd]; exact hnd) hf (move_last hok fun _ => hasB_iff.2 (by rw [← namesD_ok hok]; exact hin))
theorem doD_same {d : Dk} {k : Int} {x y : ByteArray} (hok : DkOkS d) (h : (doD d k x y).2 ≠ 0) : (doD d k x y).1 = d := by
  unfold doD at h ⊢
  repeat' split <;> first | rfl | (exfalso; exact absurd hok (by assumption)) | skip
  all_goals simp_all

/-- A raw write, an act. -/
structure Wr where
  (k : Int) (x y : ByteArray)
instance : Inhabited Wr := ⟨⟨0, ByteArray.empty, ByteArray.empty⟩⟩
structure Ac where
  (kind : Int) (data : ByteArray) (cuts : Bool) (after moves : Int) (keep : List Int)
def Wr.cs (w : Wr) : List Value := [.int .i64 w.k, .string w.x, .string w.y]
def Wr.okM (w : Wr) : Prop := w.x.size ≤ 9223372036854775807 ∧ w.y.size ≤ 9223372036854775807
/-- Writes lie in memory. -/
def WsAt (P : Nat → Prop) (w : World) (v : Value) (ws : List Wr) : Prop := FlatAt P w v 3 (ws.map Wr.cs) ∧ ∀ x, x ∈ ws → x.okM
theorem WsAt.carry {P Q : Nat → Prop} {w w' : World} {v : Value} {ws : List Wr} (h : WsAt P w v ws) (hP : ∀ b, P b → w'.heap[b]? = w.heap[b]?) (hQ : ∀ b, P b → Q b) : WsAt Q w' v ws := ⟨h.1.carry hP hQ, h.2⟩
theorem WsAt.open {P : Nat → Prop} {w : World} {v : Value} {ws : List Wr} (h : WsAt P w v ws) : ∃ a cap, v = .slice a ws.length cap ∧ ws.length ≤ 9223372036854775807 ∧
    ∀ i, (hi : i < ws.length) → ∃ b o, a = some ⟨b, o, none⟩ ∧ P b ∧ C3.at w b (o + i * 3) ⟨.int .i64 ws[i].k, .string ws[i].x, .string ws[i].y⟩ ∧ ws[i].okM := by
  obtain ⟨⟨a, cap, h1, h2, h3⟩, hok⟩ := h
  rw [List.length_map] at h1 h2
  refine ⟨a, cap, h1, h2, fun i hi => ?_⟩
  obtain ⟨b, o, e, hb, hc⟩ := h3 i (by rw [List.length_map]; exact hi)
  have c0 := hc 0 (by omega); have c1 := hc 1 (by omega); have c2 := hc 2 (by omega)
  simp only [List.getElem_map, Wr.cs, Nat.add_zero, List.getD_cons_zero, List.getD_cons_succ] at c0 c1 c2
  exact ⟨b, o, e, hb, ⟨c0, c1, c2⟩, hok _ (List.getElem_mem hi)⟩
/-- What writes do, up to the first that is refused. -/
noncomputable def runW : Dk → List Wr → Dk × Bool
  | d, [] => (d, true)
  | d, w :: ws => if (doD d w.k w.x w.y).2 = 0 then runW (doD d w.k w.x w.y).1 ws else ((doD d w.k w.x w.y).1, false)
theorem runW_app : ∀ (l m : List Wr) (d : Dk), runW d (l ++ m) = if (runW d l).2 = true then runW (runW d l).1 m else runW d l
  | [], m, d => by simp [runW]
  | w :: l, m, d => by
    by_cases h : (doD d w.k w.x w.y).2 = 0
    · have e1 : runW d (w :: l) = runW (doD d w.k w.x w.y).1 l := by simp only [runW, if_pos h]
      have e2 : runW d (w :: l ++ m) = runW (doD d w.k w.x w.y).1 (l ++ m) := by simp only [List.cons_append, runW, if_pos h]
      rw [e1, e2]; exact runW_app l m _
    · have e1 : runW d (w :: l) = ((doD d w.k w.x w.y).1, false) := by simp only [runW, if_neg h]
      have e2 : runW d (w :: l ++ m) = ((doD d w.k w.x w.y).1, false) := by simp only [List.cons_append, runW, if_neg h]
      rw [e1, e2]; rfl
theorem runW_ok : ∀ (l : List Wr) (d : Dk), DkOkS d → DkOkS (runW d l).1
  | [], d, h => h
  | w :: l, d, h => by
    simp only [runW]
    by_cases h0 : (doD d w.k w.x w.y).2 = 0
    · rw [if_pos h0]; exact runW_ok l _ (doD_ok h h0)
    · rw [if_neg h0]; simp only; rw [doD_same h h0]; exact h
theorem runW_succ {d e : Dk} {ws : List Wr} {k : Nat} (hk : k < ws.length) (h : runW d (ws.take k) = (e, true)) : runW d (ws.take (k + 1)) = ((doD e ws[k].k ws[k].x ws[k].y).1, decide ((doD e ws[k].k ws[k].x ws[k].y).2 = 0)) := by
  rw [List.take_succ_eq_append_getElem hk, runW_app, h, if_pos rfl]
  simp only [runW]
  by_cases h0 : (doD e ws[k].k ws[k].x ws[k].y).2 = 0
  · rw [if_pos h0]; simp [h0]
  · rw [if_neg h0]; simp [h0]
/-- Where a beginning is refused, the whole is. -/
theorem runW_stop {d e : Dk} {ws : List Wr} {k n : Nat} (hk : k ≤ n) (h : runW d (ws.take k) = (e, false)) : runW d (ws.take n) = (e, false) := by
  have e1 : ws.take n = ws.take k ++ (ws.take n).drop k := by
    have := (List.take_append_drop k (ws.take n)).symm
    rw [List.take_take, Nat.min_eq_left hk] at this
    exact this
  rw [e1, runW_app, h]
  rfl
/-- How many writes are done at most. -/
def toW (a : Ac) (n : Nat) : Nat := if a.cuts = true then clampQ a.after n else n
/-- What StoreDo comes to. -/
noncomputable def soD (d : Dk) (ws : List Wr) (a : Ac) : Dk × Int := open Classical in
  if ¬ DkOkS d then (⟨[], [], []⟩, 7)
  else if 2000 < ws.length then (d, 5)
  else if (runW d (ws.take (toW a ws.length))).2 = false then ((runW d (ws.take (toW a ws.length))).1, 4)
  else if a.cuts = true then (cutD (runW d (ws.take (toW a ws.length))).1 a.moves a.keep, 6)
  else ((runW d (ws.take (toW a ws.length))).1, 0)
end Go.Proofs.YtgdiankfnemjjaaGreat

/- The walks of the law's own szDiskWrite and toDiskWrite. No conditions. -/

namespace Go.Proofs.YtgdiankfnemjjaaGreat
open Go Go.RowKit

set_option maxRecDepth 100000 in
set_option maxHeartbeats 1600000 in
theorem szDiskWrite_any (k : Int) (x y : ByteArray) (L : Int) (w : World) (h0 : 0 ≤ L) (h1 : L ≤ 1048576) (hx : x.size ≤ 9223372036854775807) (hy : y.size ≤ 9223372036854775807) :
    Calls Tryz.prog 22 #[.agg #[.int .i64 k, .string x, .string y], .int .i64 L] w fun e w' => (∃ r : Int, e = .returned (.int .i64 r) ∧ (r = -1 ∨ 0 ≤ r ∧ r = L - x.size - y.size)) ∧ Below w.heap.size w w' := by
  have hbx : ∀ o, Below w.heap.size w (w.alloc o) := fun o => (Below.refl _ _).alloc (Nat.le_refl _) o
  have HBX := hide hbx
  clear hbx
  by_cases c1 : L - (x.size : Int) < 0
  · have e1 : IntKind.i64.wrap (L - (x.size : Int)) = L - (x.size : Int) := by rw [IntKind.wrap_i64]; omega
    go_enter Tryz.func22, Tryz.ntmps22
    go_wp2_with fail
    go_ret
    exact ⟨⟨-1, rfl, Or.inl rfl⟩, unhide HBX _⟩
  · have e1 : IntKind.i64.wrap (L - (x.size : Int)) = L - (x.size : Int) := by rw [IntKind.wrap_i64]; omega
    have e2 : IntKind.i64.wrap (L - (x.size : Int) - (y.size : Int)) = L - (x.size : Int) - (y.size : Int) := by rw [IntKind.wrap_i64]; omega
    by_cases c2 : L - (x.size : Int) - (y.size : Int) < 0
    · go_enter Tryz.func22, Tryz.ntmps22
      go_wp2_with fail
      go_ret
      exact ⟨⟨-1, rfl, Or.inl rfl⟩, unhide HBX _⟩
    · go_enter Tryz.func22, Tryz.ntmps22
      go_wp2_with fail
      go_ret
      exact ⟨⟨_, rfl, Or.inr ⟨by omega, rfl⟩⟩, unhide HBX _⟩

set_option maxRecDepth 100000 in
set_option maxHeartbeats 1600000 in
theorem toDiskWrite_any (k : Int) (x y : ByteArray) (w : World) :
    Calls Tryz.prog 31 #[.agg #[.int .i64 k, .string x, .string y]] w fun e w' => e = .returned (.agg #[.int .i64 k, .string x, .string y]) ∧ Below w.heap.size w w' := by
  go_enter Tryz.func31, Tryz.ntmps31
  go_wp2_with fail
  refine bodyPost_ret (v := .agg #[.int .i64 k, .string x, .string y]) (by simp [results, Tryz.results31, go_sem]) rfl ⟨rfl, ?_⟩
  exact ((((Below.refl _ w).alloc (Nat.le_refl _) _).alloc (by simp) _).alloc (by simp; omega) _)
end Go.Proofs.YtgdiankfnemjjaaGreat
