/- The walks of the law's eqDiskFile, eqDiskFileS, eqDiskMove, eqDiskMoveS, eqDisk, of two that are the same: they answer true, and turn nothing that was there. No conditions. -/
import Derived.Test.YtmaojhacdelleaaPart00
import Derived.Test.YtmaojhacdelleaaPart01
import Derived.Test.YtmaojhacdelleaaPart23
import Derived.Test.YtmaojhacdelleaaPart24
import Derived.Test.YtmaojhacdelleaaPart25
import Derived.Test.YtmaojhacdelleaaPart27
import Derived.Test.YtmaojhacdelleaaPart28
import Derived.Test.YtmaojhacdelleaaPart30
import Derived.Deep.RegionWith
namespace Go.Proofs.Ytmaojhacdelleaa
open Go Go.RowKit

set_option maxHeartbeats 400000 in
theorem eqDiskFile_any (f : Df) (w : World) :
    Calls Try.prog 91 #[.agg #[.string f.name, .string f.data, .int .i64 f.kept], .agg #[.string f.name, .string f.data, .int .i64 f.kept]] w fun e w' => e = .returned (.bool true) ∧ Below w.heap.size w w' := by
  have hb0 : ∀ o o2, Below w.heap.size w ((w.alloc o).alloc o2) := fun o o2 => ((Below.refl _ _).alloc (Nat.le_refl _) o).alloc (by simp) o2
  go_enter Try.func91, Try.ntmps91
  go_wp2_with fail
  go_ret
  exact ⟨rfl, hb0 _ _⟩
set_option maxHeartbeats 400000 in
theorem eqDiskMove_any (m : Dm) (w : World) :
    Calls Try.prog 92 #[.agg #[.bool m.gone, .string m.name], .agg #[.bool m.gone, .string m.name]] w fun e w' => e = .returned (.bool true) ∧ Below w.heap.size w w' := by
  have hb0 : ∀ o o2, Below w.heap.size w ((w.alloc o).alloc o2) := fun o o2 => ((Below.refl _ _).alloc (Nat.le_refl _) o).alloc (by simp) o2
  go_enter Try.func92, Try.ntmps92
  go_wp2_with fail
  go_ret
  exact ⟨rfl, hb0 _ _⟩

set_option maxHeartbeats 800000 in
theorem eqDiskFileS_any (v v2 : Value) (fs : List Df) (w : World) {P Q : Nat → Prop} (hP : ∀ b, P b → b < w.heap.size) (hQ : ∀ b, Q b → b < w.heap.size) (hv : FsAt P w v fs) (hv2 : FsAt Q w v2 fs) :
    Calls Try.prog 48 #[v, v2] w fun e w' => e = .returned (.bool true) ∧ Below w.heap.size w w' := by
  obtain ⟨a, cap, rfl, hlen, hc⟩ := hv.open
  obtain ⟨a2, cap2, rfl, -, hc2⟩ := hv2.open
  have HC := hide hc; have HC2 := hide hc2; have HP := hide hP; have HQ := hide hQ; clear hc hc2 hP hQ hv hv2
  go_enter Try.func48, Try.ntmps48
  go_wp2_with fail
  go_loopw [5] (fun i wr => ∃ (k : Nat), k ≤ fs.length ∧ i = .int .i64 k ∧ Below w.heap.size w wr) (fun i _ => fs.length - (intOf i).toNat)
  case atStart => exact ⟨0, Nat.zero_le _, rfl, Below.refl _ _⟩
  case round =>
    obtain ⟨k, hk, rfl, hb⟩ := hrel
    by_cases hlt : k < fs.length
    · obtain ⟨b, o, rfl, hpb, hcell, -⟩ := unhide HC k hlt
      obtain ⟨b2, o2, rfl, hpb2, hcell2, -⟩ := unhide HC2 k hlt
      obtain ⟨e0, e1, e2⟩ := hcell.carry (hb.block b (unhide HP b hpb))
      obtain ⟨g0, g1, g2⟩ := hcell2.carry (hb.block b2 (unhide HQ b2 hpb2))
      simp only at e0 e1 e2 g0 g1 g2
      have HCALL := hide (eqDiskFile_any fs[k] wr.drew)
      clear hcell hpb hcell2 hpb2
      generalize fs[k] = f at *
      go_wp2_with fail
      go_region_with (go_at_call 91; refine (unhide HCALL).mono ?_; rintro e w' ⟨rfl, hb'⟩)
      all_goals
        have hb2 := hb.drew.trans (hb'.mono hb.drew.size)
        go_wp2_with fail
        go_roundw
        case rel => exact ⟨k + 1, by omega, by go_num, hb2⟩
        case measure => simp [intOf]; omega
    · go_wp2_with fail
      go_ret
      exact ⟨rfl, hb⟩

set_option maxHeartbeats 800000 in
theorem eqDiskMoveS_any (v v2 : Value) (fs : List Dm) (w : World) {P Q : Nat → Prop} (hP : ∀ b, P b → b < w.heap.size) (hQ : ∀ b, Q b → b < w.heap.size) (hv : MsAt P w v fs) (hv2 : MsAt Q w v2 fs) :
    Calls Try.prog 50 #[v, v2] w fun e w' => e = .returned (.bool true) ∧ Below w.heap.size w w' := by
  obtain ⟨a, cap, rfl, hlen, hc⟩ := hv.open
  obtain ⟨a2, cap2, rfl, -, hc2⟩ := hv2.open
  have HC := hide hc; have HC2 := hide hc2; have HP := hide hP; have HQ := hide hQ; clear hc hc2 hP hQ hv hv2
  go_enter Try.func50, Try.ntmps50
  go_wp2_with fail
  go_loopw [5] (fun i wr => ∃ (k : Nat), k ≤ fs.length ∧ i = .int .i64 k ∧ Below w.heap.size w wr) (fun i _ => fs.length - (intOf i).toNat)
  case atStart => exact ⟨0, Nat.zero_le _, rfl, Below.refl _ _⟩
  case round =>
    obtain ⟨k, hk, rfl, hb⟩ := hrel
    by_cases hlt : k < fs.length
    · obtain ⟨b, o, rfl, hpb, hc0, hc1, -⟩ := unhide HC k hlt
      obtain ⟨b2, o2, rfl, hpb2, hd0, hd1, -⟩ := unhide HC2 k hlt
      have e0 : wr.cell? ⟨b, o + k * 2, none⟩ = some (.bool fs[k].gone) := by rw [hb.cell (unhide HP b hpb)]; exact hc0
      have e1 : wr.cell? ⟨b, o + k * 2 + 1, none⟩ = some (.string fs[k].name) := by rw [hb.cell (unhide HP b hpb)]; exact hc1
      have g0 : wr.cell? ⟨b2, o2 + k * 2, none⟩ = some (.bool fs[k].gone) := by rw [hb.cell (unhide HQ b2 hpb2)]; exact hd0
      have g1 : wr.cell? ⟨b2, o2 + k * 2 + 1, none⟩ = some (.string fs[k].name) := by rw [hb.cell (unhide HQ b2 hpb2)]; exact hd1
      have HCALL := hide (eqDiskMove_any fs[k] wr.drew)
      clear hc0 hc1 hd0 hd1 hpb hpb2
      generalize fs[k] = f at *
      go_wp2_with fail
      go_region_with (go_at_call 92; refine (unhide HCALL).mono ?_; rintro e w' ⟨rfl, hb'⟩)
      all_goals
        have hb2 := hb.drew.trans (hb'.mono hb.drew.size)
        go_wp2_with fail
        go_roundw
        case rel => exact ⟨k + 1, by omega, by go_num, hb2⟩
        case measure => simp [intOf]; omega
    · go_wp2_with fail
      go_ret
      exact ⟨rfl, hb⟩

set_option maxHeartbeats 800000 in
theorem eqDisk_any (d : Dk) (P Q : Nat → Prop) (c c' : C3) (w : World) (hP : ∀ b, P b → b < w.heap.size) (hQ : ∀ b, Q b → b < w.heap.size) (hd : DkAt P w d c) (hd2 : DkAt Q w d c') :
    Calls Try.prog 13 #[.agg #[c.c0, c.c1, c.c2], .agg #[c'.c0, c'.c1, c'.c2]] w fun e w' => e = .returned (.bool true) ∧ Below w.heap.size w w' := by
  obtain ⟨c0, c1, c2⟩ := c
  obtain ⟨d0, d1, d2⟩ := c'
  obtain ⟨a0, p0, g0, -, -⟩ := hd.fs.open
  obtain ⟨a1, p1, g1, -, -⟩ := hd.ns
  obtain ⟨a2, p2, g2, -, -⟩ := hd.ms.open
  obtain ⟨b0, q0, f0, -, -⟩ := hd2.fs.open
  obtain ⟨b1, q1, f1, -, -⟩ := hd2.ns
  obtain ⟨b2, q2, f2, -, -⟩ := hd2.ms.open
  simp only at g0 g1 g2 f0 f1 f2
  subst g0 g1 g2 f0 f1 f2
  have hcar : ∀ W, Below w.heap.size w W → DkAt P W d _ := fun W hW => hd.carry (fun b hb => hW.block b (hP b hb)) (fun _ h => h)
  have hcar2 : ∀ W, Below w.heap.size w W → DkAt Q W d _ := fun W hW => hd2.carry (fun b hb => hW.block b (hQ b hb)) (fun _ h => h)
  have hPW : ∀ W, Below w.heap.size w W → ∀ b, P b → b < W.heap.size := fun W hW b hb => Nat.lt_of_lt_of_le (hP b hb) hW.size
  have hQW : ∀ W, Below w.heap.size w W → ∀ b, Q b → b < W.heap.size := fun W hW b hb => Nat.lt_of_lt_of_le (hQ b hb) hW.size
  have HF := hide (fun W (hW : Below w.heap.size w W) => eqDiskFileS_any _ _ d.files W (hPW W hW) (hQW W hW) (hcar W hW).fs (hcar2 W hW).fs)
  have HN := hide (fun W (hW : Below w.heap.size w W) => eqStringS_any _ _ d.names W (hcar W hW).ns (hcar2 W hW).ns (hPW W hW) (hQW W hW))
  have HM := hide (fun W (hW : Below w.heap.size w W) => eqDiskMoveS_any _ _ d.moves W (hPW W hW) (hQW W hW) (hcar W hW).ms (hcar2 W hW).ms)
  have hb0 : ∀ o o2, Below w.heap.size w ((w.alloc o).alloc o2) := fun o o2 => ((Below.refl _ _).alloc (Nat.le_refl _) o).alloc (by simp) o2
  have r0 := (row3_alloc w (.slice a0 d.files.length p0) (.slice a1 d.names.length p1) (.slice a2 d.moves.length p2) 34).alloc (.cells #[.slice b0 d.files.length q0, .slice b1 d.names.length q1, .slice b2 d.moves.length q2] 34)
  have r1 := row3_alloc (w.alloc (.cells #[.slice a0 d.files.length p0, .slice a1 d.names.length p1, .slice a2 d.moves.length p2] 34)) (.slice b0 d.files.length q0) (.slice b1 d.names.length q1) (.slice b2 d.moves.length q2) 34
  rw [World.size_alloc] at r1
  have HB0 := hide (hb0 (.cells #[.slice a0 d.files.length p0, .slice a1 d.names.length p1, .slice a2 d.moves.length p2] 34) (.cells #[.slice b0 d.files.length q0, .slice b1 d.names.length q1, .slice b2 d.moves.length q2] 34))
  have R0 := hide r0; have R1 := hide r1
  clear hd hd2 hcar hcar2 hPW hQW hP hQ hb0 r0 r1
  generalize hnf : d.files.length = nf at *
  generalize hnn : d.names.length = nn at *
  generalize hnm : d.moves.length = nm at *
  clear hnf hnn hnm
  go_enter Try.func13, Try.ntmps13
  go_wp2_with fail
  obtain ⟨W0, hW0⟩ : ∃ W0, (w.alloc (.cells #[.slice a0 nf p0, .slice a1 nn p1, .slice a2 nm p2] 34)).alloc (.cells #[.slice b0 nf q0, .slice b1 nn q1, .slice b2 nm q2] 34) = W0 := ⟨_, rfl⟩
  rw [hW0] at R0 R1 HB0 ⊢
  clear hW0
  refine (unhide HF _ (unhide HB0)).mono ?_
  rintro e w1 ⟨rfl, hb1⟩
  have s0 := (unhide R0).of_block (hb1.block _ (unhide R0).lt)
  have s1 := (unhide R1).of_block (hb1.block _ (unhide R1).lt)
  have HB1 := hide ((unhide HB0).trans (hb1.mono (unhide HB0).size))
  have k1 := s0.cell (i := 1) (by omega); have k2 := s0.cell (i := 2) (by omega); have l1 := s1.cell (i := 1) (by omega); have l2 := s1.cell (i := 2) (by omega)
  simp only [row3] at k1 k2 l1 l2
  have S0 := hide s0; have S1 := hide s1
  clear s0 s1 hb1 R0 R1 HB0 HF
  go_wp2_with fail
  refine (unhide HN _ (unhide HB1)).mono ?_
  rintro e w2 ⟨rfl, hb2⟩
  have s0 := (unhide S0).of_block (hb2.block _ (unhide S0).lt)
  have s1 := (unhide S1).of_block (hb2.block _ (unhide S1).lt)
  have HB2 := hide ((unhide HB1).trans (hb2.mono (unhide HB1).size))
  have k2 := s0.cell (i := 2) (by omega); have l2 := s1.cell (i := 2) (by omega)
  simp only [row3] at k2 l2
  clear s0 s1 hb2 S0 S1 HB1 HN
  go_wp2_with fail
  refine (unhide HM _ (unhide HB2)).mono ?_
  rintro e w3 ⟨rfl, hb3⟩
  have HB3 := hide ((unhide HB2).trans (hb3.mono (unhide HB2).size))
  go_wp2_with fail
  go_ret
  exact ⟨rfl, unhide HB3⟩
end Go.Proofs.Ytmaojhacdelleaa

/- What the law on DiskCut holds behind both calls, and how that is carried on. No conditions. -/

namespace Go.Proofs.Ytmaojhacdelleaa
open Go Go.RowKit

/-- What the law holds behind both calls: its argument's box, those of both answers and of the copy, and both answers. D: the copies' blocks. -/
structure CSt (w wr : World) (c dW dX dG : C3) (S S' : Dk) (B8 B9 BG : Nat) (PW D : Nat → Prop) (F0 F1 F2 : List Nat) : Prop where
  below : Below w.heap.size w wr
  bA : wr.rowIs w.heap.size 26 3 (row3 c.c0 c.c1 c.c2)
  bW : wr.rowIs B8 34 3 (row3 dW.c0 dW.c1 dW.c2)
  bX : wr.rowIs B9 34 3 (row3 dX.c0 dX.c1 dX.c2)
  bG : wr.rowIs BG 34 3 (row3 dG.c0 dG.c1 dG.c2)
  oW : DkAt PW wr S dW
  oG : DkOwn wr S' dG F0 F1 F2
  nd : (F0 ++ F1 ++ F2).Nodup
  lW : ∀ b, PW b → b < wr.heap.size
  lD : ∀ b, D b → w.heap.size < b ∧ b ≠ B8 ∧ b ≠ B9 ∧ b ≠ BG ∧ ¬ PW b ∧ b ∉ F0 ++ F1 ++ F2
  lG : ∀ b, b ∈ F0 ++ F1 ++ F2 → w.heap.size < b ∧ b ≠ B8 ∧ b ≠ B9 ∧ b ≠ BG ∧ ¬ PW b ∧ b < wr.heap.size
theorem CSt.on {w wr w' : World} {c dW dX dG : C3} {S S' : Dk} {B8 B9 BG : Nat} {PW D : Nat → Prop} {F0 F1 F2 : List Nat} (h : CSt w wr c dW dX dG S S' B8 B9 BG PW D F0 F1 F2) (hb : Below wr.heap.size wr w') : CSt w w' c dW dX dG S S' B8 B9 BG PW D F0 F1 F2 := by
  have hs := hb.size
  exact ⟨h.below.trans (hb.mono h.below.size), h.bA.of_block (hb.block _ h.bA.lt), h.bW.of_block (hb.block _ h.bW.lt), h.bX.of_block (hb.block _ h.bX.lt), h.bG.of_block (hb.block _ h.bG.lt), h.oW.carry (fun b hm => hb.block b (h.lW b hm)) (fun _ h => h), h.oG.carry (fun b hm => hb.block b (h.lG b hm).2.2.2.2.2), h.nd, fun b hm => Nat.lt_of_lt_of_le (h.lW b hm) hs, h.lD, fun b hm => ⟨(h.lG b hm).1, (h.lG b hm).2.1, (h.lG b hm).2.2.1, (h.lG b hm).2.2.2.1, (h.lG b hm).2.2.2.2.1, Nat.lt_of_lt_of_le (h.lG b hm).2.2.2.2.2 hs⟩⟩
theorem CSt.like {w wr w' : World} {c dW dX dG : C3} {S S' : Dk} {B8 B9 BG : Nat} {PW D E : Nat → Prop} {F0 F1 F2 : List Nat} (h : CSt w wr c dW dX dG S S' B8 B9 BG PW D F0 F1 F2) (hb : Like E wr w') (hE : ∀ b, E b → D b) : CSt w w' c dW dX dG S S' B8 B9 BG PW D F0 F1 F2 := by
  have hs := hb.size; have h4 := h.below.size
  refine ⟨h.below.trans ⟨hb.os, hb.tape, hb.output, hb.size, fun k hk => hb.block k (by omega) (fun hd => by have := (h.lD k (hE k hd)).1; omega)⟩, h.bA.of_block (hb.block _ h.bA.lt (fun hd => by have := (h.lD _ (hE _ hd)).1; omega)), h.bW.of_block (hb.block _ h.bW.lt (fun hd => (h.lD _ (hE _ hd)).2.1 rfl)), h.bX.of_block (hb.block _ h.bX.lt (fun hd => (h.lD _ (hE _ hd)).2.2.1 rfl)), h.bG.of_block (hb.block _ h.bG.lt (fun hd => (h.lD _ (hE _ hd)).2.2.2.1 rfl)), h.oW.carry (fun b hm => hb.block b (h.lW b hm) (fun hd => (h.lD _ (hE _ hd)).2.2.2.2.1 hm)) (fun _ h => h), h.oG.carry (fun b hm => hb.block b (h.lG b hm).2.2.2.2.2 (fun hd => (h.lD _ (hE _ hd)).2.2.2.2.2 hm)), h.nd, fun b hm => Nat.lt_of_lt_of_le (h.lW b hm) hs, h.lD, fun b hm => ⟨(h.lG b hm).1, (h.lG b hm).2.1, (h.lG b hm).2.2.1, (h.lG b hm).2.2.2.1, (h.lG b hm).2.2.2.2.1, Nat.lt_of_lt_of_le (h.lG b hm).2.2.2.2.2 hs⟩⟩
theorem CSt.exc {w wr w' : World} {c dW dX dG : C3} {S S' S2 : Dk} {B8 B9 BG : Nat} {PW D : Nat → Prop} {F0 F1 F2 : List Nat} (h : CSt w wr c dW dX dG S S' B8 B9 BG PW D F0 F1 F2) (hb : Exc (F0 ++ F1 ++ F2) wr w') (hG : DkOwn w' S2 dG F0 F1 F2) : CSt w w' c dW dX dG S S2 B8 B9 BG PW D F0 F1 F2 := by
  have hs := hb.size; have h4 := h.below.size
  exact ⟨h.below.trans (hb.below h4 (fun b hm => by have := (h.lG b hm).1; omega)), h.bA.of_block (hb.block _ h.bA.lt (fun hm => by have := (h.lG _ hm).1; omega)), h.bW.of_block (hb.block _ h.bW.lt (fun hm => (h.lG _ hm).2.1 rfl)), h.bX.of_block (hb.block _ h.bX.lt (fun hm => (h.lG _ hm).2.2.1 rfl)), h.bG.of_block (hb.block _ h.bG.lt (fun hm => (h.lG _ hm).2.2.2.1 rfl)), h.oW.carry (fun b hm => hb.block b (h.lW b hm) (fun hd => (h.lG _ hd).2.2.2.2.1 hm)) (fun _ h => h), hG, h.nd, fun b hm => Nat.lt_of_lt_of_le (h.lW b hm) hs, h.lD, fun b hm => ⟨(h.lG b hm).1, (h.lG b hm).2.1, (h.lG b hm).2.2.1, (h.lG b hm).2.2.2.1, (h.lG b hm).2.2.2.2.1, Nat.lt_of_lt_of_le (h.lG b hm).2.2.2.2.2 hs⟩⟩
theorem CSt.eq {w wr : World} {c dW dX dG : C3} {S : Dk} {B8 B9 BG : Nat} {PW D : Nat → Prop} {F0 F1 F2 : List Nat} (h : CSt w wr c dW dX dG S S B8 B9 BG PW D F0 F1 F2) :
    Calls Try.prog 13 #[.agg #[dG.c0, dG.c1, dG.c2], .agg #[dW.c0, dW.c1, dW.c2]] wr fun e w' => e = .returned (.bool true) ∧ Below wr.heap.size wr w' :=
  eqDisk_any S _ PW dG dW wr (fun b hb => (h.lG b hb).2.2.2.2.2) h.lW h.oG.at h.oW
theorem CSt.mark {w wr : World} {c dW dX dG : C3} {S S' : Dk} {B8 B9 BG : Nat} {PW D : Nat → Prop} {F0 F1 F2 : List Nat} (h : CSt w wr c dW dX dG S S' B8 B9 BG PW D F0 F1 F2) (hl : mkD S' ≤ 100000) :
    Calls Try.prog 14 #[.agg #[dG.c0, dG.c1, dG.c2], .int .i64 1] wr fun e w' => e = .returned (.int .i64 (1 + mkD S' : Nat)) ∧ CSt w w' c dW dX dG S (mDk 1 S') B8 B9 BG PW D F0 F1 F2 :=
  (markDisk_own S' dG F0 F1 F2 1 wr h.oG (fun b hb => (h.lG b hb).2.2.2.2.2) h.nd (by omega) (by omega)).mono fun e w' ⟨h1, h2, h3⟩ => ⟨h1, h.exc h3 h2⟩
theorem CSt.held {w wr : World} {c dW dX dG : C3} {S S' : Dk} {B8 B9 BG : Nat} {PW D : Nat → Prop} {F0 F1 F2 : List Nat} (h : CSt w wr c dW dX dG S (mDk 1 S') B8 B9 BG PW D F0 F1 F2) (hl : mkD S' ≤ 100000) :
    Calls Try.prog 15 #[.agg #[dG.c0, dG.c1, dG.c2], .int .i64 1] wr fun e w' => e = .returned (.int .i64 (1 + mkD S' : Nat)) ∧ CSt w w' c dW dX dG S (mDk 1 S') B8 B9 BG PW D F0 F1 F2 :=
  (heldDisk_any S' 1 dG wr (fun b hb => (h.lG b hb).2.2.2.2.2) h.oG.at (by omega) (by omega)).mono fun e w' ⟨h1, h2⟩ => ⟨h1, h.on h2⟩
theorem cutD_small (d : Dk) (m : Int) (zs : List Int) : mkD (cutD d m zs) ≤ 100000 := by
  by_cases h : DkOkS d
  · rw [cutD_ok h]; have := (cutN_facts h m).2.1; unfold mkD; simp only [List.length_map, List.length_nil]; omega
  · rw [cutD_no h]; unfold mkD; simp
end Go.Proofs.Ytmaojhacdelleaa

/- The walk of the law on DiskOk: whatever disk comes in, it answers true, and turns nothing that was there. Conditions: what the two DiskOks answer (the contracts come in as hypotheses). -/

namespace Go.Proofs.Ytmaojhacdelleaa
open Go Go.RowKit

theorem dcar {P Q : Nat → Prop} {w w' : World} (hP : ∀ b, P b → w'.heap[b]? = w.heap[b]?) (hQ : ∀ b, P b → Q b) (d : Dk) (c : C3) (h : DkAt P w d c) : DkAt Q w' d c := h.carry hP hQ

end Go.Proofs.Ytmaojhacdelleaa
