/- The walks of the law's eqDiskFile, eqDiskFileS, eqDiskMove, eqDiskMoveS, eqDisk, of two that are the same: they answer true, and turn nothing that was there. No conditions. -/
import Derived.Test.YtekchajnellcdaaPart00
import Derived.Test.YtekchajnellcdaaPart11
import Derived.Test.YtekchajnellcdaaPart12
import Derived.Test.YtekchajnellcdaaPart13
import Derived.Handy
import Derived.Test.YtekchajnellcdaaPart07
namespace Go.Proofs.Ytekchajnellcdaa
open Go Go.RowKit

set_option maxHeartbeats 400000 in
theorem eqDiskFile_any (f : Df) (w : World) :
    Calls Try.prog 61 #[.agg #[.string f.name, .string f.data, .int .i64 f.kept], .agg #[.string f.name, .string f.data, .int .i64 f.kept]] w fun e w' => e = .returned (.bool true) ∧ Below w.heap.size w w' := by
  have hb0 : ∀ o o2, Below w.heap.size w ((w.alloc o).alloc o2) := fun o o2 => ((Below.refl _ _).alloc (Nat.le_refl _) o).alloc (by simp) o2
  go_enter Try.func61, Try.ntmps61
  go_wp2_with fail
  go_ret
  exact ⟨rfl, hb0 _ _⟩
set_option maxHeartbeats 400000 in
theorem eqDiskMove_any (m : Dm) (w : World) :
    Calls Try.prog 62 #[.agg #[.bool m.gone, .string m.name], .agg #[.bool m.gone, .string m.name]] w fun e w' => e = .returned (.bool true) ∧ Below w.heap.size w w' := by
  have hb0 : ∀ o o2, Below w.heap.size w ((w.alloc o).alloc o2) := fun o o2 => ((Below.refl _ _).alloc (Nat.le_refl _) o).alloc (by simp) o2
  go_enter Try.func62, Try.ntmps62
  go_wp2_with fail
  go_ret
  exact ⟨rfl, hb0 _ _⟩

set_option maxHeartbeats 800000 in
theorem eqDiskFileS_any (v v2 : Value) (fs : List Df) (w : World) {P Q : Nat → Prop} (hP : ∀ b, P b → b < w.heap.size) (hQ : ∀ b, Q b → b < w.heap.size) (hv : FsAt P w v fs) (hv2 : FsAt Q w v2 fs) :
    Calls Try.prog 31 #[v, v2] w fun e w' => e = .returned (.bool true) ∧ Below w.heap.size w w' := by
  obtain ⟨a, cap, rfl, hlen, hc⟩ := hv.open
  obtain ⟨a2, cap2, rfl, -, hc2⟩ := hv2.open
  have HC := hide hc; have HC2 := hide hc2; have HP := hide hP; have HQ := hide hQ; clear hc hc2 hP hQ hv hv2
  go_enter Try.func31, Try.ntmps31
  go_wp2_with fail
  go_loopw [5] (fun i wr => ∃ (k : Nat), k ≤ fs.length ∧ i = .int .i64 k ∧ Below w.heap.size w wr) (fun i _ => fs.length - (intOf i).toNat)
  case atStart => exact ⟨0, Nat.zero_le _, rfl, Below.refl _ _⟩
  case round =>
    obtain ⟨k, hk, rfl, hb⟩ := hrel
    by_cases hlt : k < fs.length
    · obtain ⟨b, o, rfl, hpb, hcell, -⟩ := unhide HC k hlt
      obtain ⟨b2, o2, rfl, hpb2, hcell2, -⟩ := unhide HC2 k hlt
      obtain ⟨e0, e1, e2⟩ := hcell.carry (hb.block b (unhide HP b hpb))
      obtain ⟨g0, g1, g2⟩ := hcell2.carry (hb.block b2 (unhide HQ b2 hpb2))
      simp only at e0 e1 e2 g0 g1 g2
      have HCALL := hide (eqDiskFile_any fs[k] wr.drew)
      clear hcell hpb hcell2 hpb2
      generalize fs[k] = f at *
      go_wp2_with fail
      go_region_with (go_at_call 61; refine (unhide HCALL).mono ?_; rintro e w' ⟨rfl, hb'⟩)
      all_goals
        have hb2 := hb.drew.trans (hb'.mono hb.drew.size)
        go_wp2_with fail
        go_roundw
        case rel => exact ⟨k + 1, by omega, by go_num, hb2⟩
        case measure => simp [intOf]; omega
    · go_wp2_with fail
      go_ret
      exact ⟨rfl, hb⟩

set_option maxHeartbeats 800000 in
theorem eqDiskMoveS_any (v v2 : Value) (fs : List Dm) (w : World) {P Q : Nat → Prop} (hP : ∀ b, P b → b < w.heap.size) (hQ : ∀ b, Q b → b < w.heap.size) (hv : MsAt P w v fs) (hv2 : MsAt Q w v2 fs) :
    Calls Try.prog 33 #[v, v2] w fun e w' => e = .returned (.bool true) ∧ Below w.heap.size w w' := by
  obtain ⟨a, cap, rfl, hlen, hc⟩ := hv.open
  obtain ⟨a2, cap2, rfl, -, hc2⟩ := hv2.open
  have HC := hide hc; have HC2 := hide hc2; have HP := hide hP; have HQ := hide hQ; clear hc hc2 hP hQ hv hv2
  go_enter Try.func33, Try.ntmps33
  go_wp2_with fail
  go_loopw [5] (fun i wr => ∃ (k : Nat), k ≤ fs.length ∧ i = .int .i64 k ∧ Below w.heap.size w wr) (fun i _ => fs.length - (intOf i).toNat)
  case atStart => exact ⟨0, Nat.zero_le _, rfl, Below.refl _ _⟩
  case round =>
    obtain ⟨k, hk, rfl, hb⟩ := hrel
    by_cases hlt : k < fs.length
    · obtain ⟨b, o, rfl, hpb, hc0, hc1, -⟩ := unhide HC k hlt
      obtain ⟨b2, o2, rfl, hpb2, hd0, hd1, -⟩ := unhide HC2 k hlt
      have e0 : wr.cell? ⟨b, o + k * 2, none⟩ = some (.bool fs[k].gone) := by rw [hb.cell (unhide HP b hpb)]; exact hc0
      have e1 : wr.cell? ⟨b, o + k * 2 + 1, none⟩ = some (.string fs[k].name) := by rw [hb.cell (unhide HP b hpb)]; exact hc1
      have g0 : wr.cell? ⟨b2, o2 + k * 2, none⟩ = some (.bool fs[k].gone) := by rw [hb.cell (unhide HQ b2 hpb2)]; exact hd0
      have g1 : wr.cell? ⟨b2, o2 + k * 2 + 1, none⟩ = some (.string fs[k].name) := by rw [hb.cell (unhide HQ b2 hpb2)]; exact hd1
      have HCALL := hide (eqDiskMove_any fs[k] wr.drew)
      clear hc0 hc1 hd0 hd1 hpb hpb2
      generalize fs[k] = f at *
      go_wp2_with fail
      go_region_with (go_at_call 62; refine (unhide HCALL).mono ?_; rintro e w' ⟨rfl, hb'⟩)
      all_goals
        have hb2 := hb.drew.trans (hb'.mono hb.drew.size)
        go_wp2_with fail
        go_roundw
        case rel => exact ⟨k + 1, by omega, by go_num, hb2⟩
        case measure => simp [intOf]; omega
    · go_wp2_with fail
      go_ret
      exact ⟨rfl, hb⟩

set_option maxHeartbeats 800000 in
theorem eqDisk_any (d : Dk) (P Q : Nat → Prop) (c c' : C3) (w : World) (hP : ∀ b, P b → b < w.heap.size) (hQ : ∀ b, Q b → b < w.heap.size) (hd : DkAt P w d c) (hd2 : DkAt Q w d c') :
    Calls Try.prog 10 #[.agg #[c.c0, c.c1, c.c2], .agg #[c'.c0, c'.c1, c'.c2]] w fun e w' => e = .returned (.bool true) ∧ Below w.heap.size w w' := by
  obtain ⟨c0, c1, c2⟩ := c
  obtain ⟨d0, d1, d2⟩ := c'
  obtain ⟨a0, p0, g0, -, -⟩ := hd.fs.open
  obtain ⟨a1, p1, g1, -, -⟩ := hd.ns
  obtain ⟨a2, p2, g2, -, -⟩ := hd.ms.open
  obtain ⟨b0, q0, f0, -, -⟩ := hd2.fs.open
  obtain ⟨b1, q1, f1, -, -⟩ := hd2.ns
  obtain ⟨b2, q2, f2, -, -⟩ := hd2.ms.open
  simp only at g0 g1 g2 f0 f1 f2
  subst g0 g1 g2 f0 f1 f2
  have hcar : ∀ W, Below w.heap.size w W → DkAt P W d _ := fun W hW => hd.carry (fun b hb => hW.block b (hP b hb)) (fun _ h => h)
  have hcar2 : ∀ W, Below w.heap.size w W → DkAt Q W d _ := fun W hW => hd2.carry (fun b hb => hW.block b (hQ b hb)) (fun _ h => h)
  have hPW : ∀ W, Below w.heap.size w W → ∀ b, P b → b < W.heap.size := fun W hW b hb => Nat.lt_of_lt_of_le (hP b hb) hW.size
  have hQW : ∀ W, Below w.heap.size w W → ∀ b, Q b → b < W.heap.size := fun W hW b hb => Nat.lt_of_lt_of_le (hQ b hb) hW.size
  have HF := hide (fun W (hW : Below w.heap.size w W) => eqDiskFileS_any _ _ d.files W (hPW W hW) (hQW W hW) (hcar W hW).fs (hcar2 W hW).fs)
  have HN := hide (fun W (hW : Below w.heap.size w W) => eqStringS_any _ _ d.names W (hcar W hW).ns (hcar2 W hW).ns (hPW W hW) (hQW W hW))
  have HM := hide (fun W (hW : Below w.heap.size w W) => eqDiskMoveS_any _ _ d.moves W (hPW W hW) (hQW W hW) (hcar W hW).ms (hcar2 W hW).ms)
  have hb0 : ∀ o o2, Below w.heap.size w ((w.alloc o).alloc o2) := fun o o2 => ((Below.refl _ _).alloc (Nat.le_refl _) o).alloc (by simp) o2
  have r0 := (row3_alloc w (.slice a0 d.files.length p0) (.slice a1 d.names.length p1) (.slice a2 d.moves.length p2) 34).alloc (.cells #[.slice b0 d.files.length q0, .slice b1 d.names.length q1, .slice b2 d.moves.length q2] 34)
  have r1 := row3_alloc (w.alloc (.cells #[.slice a0 d.files.length p0, .slice a1 d.names.length p1, .slice a2 d.moves.length p2] 34)) (.slice b0 d.files.length q0) (.slice b1 d.names.length q1) (.slice b2 d.moves.length q2) 34
  rw [World.size_alloc] at r1
  have HB0 := hide (hb0 (.cells #[.slice a0 d.files.length p0, .slice a1 d.names.length p1, .slice a2 d.moves.length p2] 34) (.cells #[.slice b0 d.files.length q0, .slice b1 d.names.length q1, .slice b2 d.moves.length q2] 34))
  have R0 := hide r0; have R1 := hide r1
  clear hd hd2 hcar hcar2 hPW hQW hP hQ hb0 r0 r1
  generalize hnf : d.files.length = nf at *
  generalize hnn : d.names.length = nn at *
  generalize hnm : d.moves.length = nm at *
  clear hnf hnn hnm
  go_enter Try.func10, Try.ntmps10
  go_wp2_with fail
  obtain ⟨W0, hW0⟩ : ∃ W0, (w.alloc (.cells #[.slice a0 nf p0, .slice a1 nn p1, .slice a2 nm p2] 34)).alloc (.cells #[.slice b0 nf q0, .slice b1 nn q1, .slice b2 nm q2] 34) = W0 := ⟨_, rfl⟩
  rw [hW0] at R0 R1 HB0 ⊢
  clear hW0
  refine (unhide HF _ (unhide HB0)).mono ?_
  rintro e w1 ⟨rfl, hb1⟩
  have s0 := (unhide R0).of_block (hb1.block _ (unhide R0).lt)
  have s1 := (unhide R1).of_block (hb1.block _ (unhide R1).lt)
  have HB1 := hide ((unhide HB0).trans (hb1.mono (unhide HB0).size))
  have k1 := s0.cell (i := 1) (by omega); have k2 := s0.cell (i := 2) (by omega); have l1 := s1.cell (i := 1) (by omega); have l2 := s1.cell (i := 2) (by omega)
  simp only [row3] at k1 k2 l1 l2
  have S0 := hide s0; have S1 := hide s1
  clear s0 s1 hb1 R0 R1 HB0 HF
  go_wp2_with fail
  refine (unhide HN _ (unhide HB1)).mono ?_
  rintro e w2 ⟨rfl, hb2⟩
  have s0 := (unhide S0).of_block (hb2.block _ (unhide S0).lt)
  have s1 := (unhide S1).of_block (hb2.block _ (unhide S1).lt)
  have HB2 := hide ((unhide HB1).trans (hb2.mono (unhide HB1).size))
  have k2 := s0.cell (i := 2) (by omega); have l2 := s1.cell (i := 2) (by omega)
  simp only [row3] at k2 l2
  clear s0 s1 hb2 S0 S1 HB1 HN
  go_wp2_with fail
  refine (unhide HM _ (unhide HB2)).mono ?_
  rintro e w3 ⟨rfl, hb3⟩
  have HB3 := hide ((unhide HB2).trans (hb3.mono (unhide HB2).size))
  go_wp2_with fail
  go_ret
  exact ⟨rfl, unhide HB3⟩
end Go.Proofs.Ytekchajnellcdaa

/- What the law on DiskCut holds behind both calls, and how that is carried on. No conditions. -/

namespace Go.Proofs.Ytekchajnellcdaa
open Go Go.RowKit

/-- What the law holds behind both calls: its argument's box, those of both answers and of the copy, and both answers. D: the copies' blocks. -/
structure CSt (w wr : World) (c dW dX dG : C3) (S S' : Dk) (B8 B9 BG : Nat) (PW D : Nat → Prop) (F0 F1 F2 : List Nat) : Prop where
  below : Below w.heap.size w wr
  bA : wr.rowIs w.heap.size 26 3 (row3 c.c0 c.c1 c.c2)
  bW : wr.rowIs B8 34 3 (row3 dW.c0 dW.c1 dW.c2)
  bX : wr.rowIs B9 34 3 (row3 dX.c0 dX.c1 dX.c2)
  bG : wr.rowIs BG 34 3 (row3 dG.c0 dG.c1 dG.c2)
  oW : DkAt PW wr S dW
  oG : DkOwn wr S' dG F0 F1 F2
  nd : (F0 ++ F1 ++ F2).Nodup
  lW : ∀ b, PW b → b < wr.heap.size
  lD : ∀ b, D b → w.heap.size < b ∧ b ≠ B8 ∧ b ≠ B9 ∧ b ≠ BG ∧ ¬ PW b ∧ b ∉ F0 ++ F1 ++ F2
  lG : ∀ b, b ∈ F0 ++ F1 ++ F2 → w.heap.size < b ∧ b ≠ B8 ∧ b ≠ B9 ∧ b ≠ BG ∧ ¬ PW b ∧ b < wr.heap.size
theorem CSt.on {w wr w' : World} {c dW dX dG : C3} {S S' : Dk} {B8 B9 BG : Nat} {PW D : Nat → Prop} {F0 F1 F2 : List Nat} (h : CSt w wr c dW dX dG S S' B8 B9 BG PW D F0 F1 F2) (hb : Below wr.heap.size wr w') : CSt w w' c dW dX dG S S' B8 B9 BG PW D F0 F1 F2 := by
  have hs := hb.size
  exact ⟨h.below.trans (hb.mono h.below.size), h.bA.of_block (hb.block _ h.bA.lt), h.bW.of_block (hb.block _ h.bW.lt), h.bX.of_block (hb.block _ h.bX.lt), h.bG.of_block (hb.block _ h.bG.lt), h.oW.carry (fun b hm => hb.block b (h.lW b hm)) (fun _ h => h), h.oG.carry (fun b hm => hb.block b (h.lG b hm).2.2.2.2.2), h.nd, fun b hm => Nat.lt_of_lt_of_le (h.lW b hm) hs, h.lD, fun b hm => ⟨(h.lG b hm).1, (h.lG b hm).2.1, (h.lG b hm).2.2.1, (h.lG b hm).2.2.2.1, (h.lG b hm).2.2.2.2.1, Nat.lt_of_lt_of_le (h.lG b hm).2.2.2.2.2 hs⟩⟩
theorem CSt.like {w wr w' : World} {c dW dX dG : C3} {S S' : Dk} {B8 B9 BG : Nat} {PW D E : Nat → Prop} {F0 F1 F2 : List Nat} (h : CSt w wr c dW dX dG S S' B8 B9 BG PW D F0 F1 F2) (hb : Like E wr w') (hE : ∀ b, E b → D b) : CSt w w' c dW dX dG S S' B8 B9 BG PW D F0 F1 F2 := by
  have hs := hb.size; have h4 := h.below.size
  refine ⟨h.below.trans ⟨hb.os, hb.tape, hb.output, hb.size, fun k hk => hb.block k (by omega) (fun hd => by have := (h.lD k (hE k hd)).1; omega)⟩, h.bA.of_block (hb.block _ h.bA.lt (fun hd => by have := (h.lD _ (hE _ hd)).1; omega)), h.bW.of_block (hb.block _ h.bW.lt (fun hd => (h.lD _ (hE _ hd)).2.1 rfl)), h.bX.of_block (hb.block _ h.bX.lt (fun hd => (h.lD _ (hE _ hd)).2.2.1 rfl)), h.bG.of_block (hb.block _ h.bG.lt (fun hd => (h.lD _ (hE _ hd)).2.2.2.1 rfl)), h.oW.carry (fun b hm => hb.block b (h.lW b hm) (fun hd => (h.lD _ (hE _ hd)).2.2.2.2.1 hm)) (fun _ h => h), h.oG.carry (fun b hm => hb.block b (h.lG b hm).2.2.2.2.2 (fun hd => (h.lD _ (hE _ hd)).2.2.2.2.2 hm)), h.nd, fun b hm => Nat.lt_of_lt_of_le (h.lW b hm) hs, h.lD, fun b hm => ⟨(h.lG b hm).1, (h.lG b hm).2.1, (h.lG b hm).2.2.1, (h.lG b hm).2.2.2.1, (h.lG b hm).2.2.2.2.1, Nat.lt_of_lt_of_le (h.lG b hm).2.2.2.2.2 hs⟩⟩
theorem CSt.exc {w wr w' : World} {c dW dX dG : C3} {S S' S2 : Dk} {B8 B9 BG : Nat} {PW D : Nat → Prop} {F0 F1 F2 : List Nat} (h : CSt w wr c dW dX dG S S' B8 B9 BG PW D F0 F1 F2) (hb : Exc (F0 ++ F1 ++ F2) wr w') (hG : DkOwn w' S2 dG F0 F1 F2) : CSt w w' c dW dX dG S S2 B8 B9 BG PW D F0 F1 F2 := by
  have hs := hb.size; have h4 := h.below.size
  exact ⟨h.below.trans (hb.below h4 (fun b hm => by have := (h.lG b hm).1; omega)), h.bA.of_block (hb.block _ h.bA.lt (fun hm => by have := (h.lG _ hm).1; omega)), h.bW.of_block (hb.block _ h.bW.lt (fun hm => (h.lG _ hm).2.1 rfl)), h.bX.of_block (hb.block _ h.bX.lt (fun hm => (h.lG _ hm).2.2.1 rfl)), h.bG.of_block (hb.block _ h.bG.lt (fun hm => (h.lG _ hm).2.2.2.1 rfl)), h.oW.carry (fun b hm => hb.block b (h.lW b hm) (fun hd => (h.lG _ hd).2.2.2.2.1 hm)) (fun _ h => h), hG, h.nd, fun b hm => Nat.lt_of_lt_of_le (h.lW b hm) hs, h.lD, fun b hm => ⟨(h.lG b hm).1, (h.lG b hm).2.1, (h.lG b hm).2.2.1, (h.lG b hm).2.2.2.1, (h.lG b hm).2.2.2.2.1, Nat.lt_of_lt_of_le (h.lG b hm).2.2.2.2.2 hs⟩⟩
theorem CSt.eq {w wr : World} {c dW dX dG : C3} {S : Dk} {B8 B9 BG : Nat} {PW D : Nat → Prop} {F0 F1 F2 : List Nat} (h : CSt w wr c dW dX dG S S B8 B9 BG PW D F0 F1 F2) :
    Calls Try.prog 10 #[.agg #[dG.c0, dG.c1, dG.c2], .agg #[dW.c0, dW.c1, dW.c2]] wr fun e w' => e = .returned (.bool true) ∧ Below wr.heap.size wr w' :=
  eqDisk_any S _ PW dG dW wr (fun b hb => (h.lG b hb).2.2.2.2.2) h.lW h.oG.at h.oW
end Go.Proofs.Ytekchajnellcdaa

/- The walks of the law's own szDiskWrite and toDiskWrite. No conditions. -/

namespace Go.Proofs.Ytekchajnellcdaa
open Go Go.RowKit

set_option maxRecDepth 100000 in
set_option maxHeartbeats 1600000 in
theorem szDiskWrite_any (k : Int) (x y : ByteArray) (L : Int) (w : World) (h0 : 0 ≤ L) (h1 : L ≤ 1048576) (hx : x.size ≤ 9223372036854775807) (hy : y.size ≤ 9223372036854775807) :
    Calls Try.prog 5 #[.agg #[.int .i64 k, .string x, .string y], .int .i64 L] w fun e w' => (∃ r : Int, e = .returned (.int .i64 r) ∧ (r = -1 ∨ 0 ≤ r ∧ r = L - x.size - y.size)) ∧ Below w.heap.size w w' := by
  have hbx : ∀ o, Below w.heap.size w (w.alloc o) := fun o => (Below.refl _ _).alloc (Nat.le_refl _) o
  have HBX := hide hbx
  clear hbx
  by_cases c1 : L - (x.size : Int) < 0
  · have e1 : IntKind.i64.wrap (L - (x.size : Int)) = L - (x.size : Int) := by rw [IntKind.wrap_i64]; omega
    go_enter Try.func5, Try.ntmps5
    go_wp2_with fail
    go_ret
    exact ⟨⟨-1, rfl, Or.inl rfl⟩, unhide HBX _⟩
  · have e1 : IntKind.i64.wrap (L - (x.size : Int)) = L - (x.size : Int) := by rw [IntKind.wrap_i64]; omega
    have e2 : IntKind.i64.wrap (L - (x.size : Int) - (y.size : Int)) = L - (x.size : Int) - (y.size : Int) := by rw [IntKind.wrap_i64]; omega
    by_cases c2 : L - (x.size : Int) - (y.size : Int) < 0
    · go_enter Try.func5, Try.ntmps5
      go_wp2_with fail
      go_ret
      exact ⟨⟨-1, rfl, Or.inl rfl⟩, unhide HBX _⟩
    · go_enter Try.func5, Try.ntmps5
      go_wp2_with fail
      go_ret
      exact ⟨⟨_, rfl, Or.inr ⟨by omega, rfl⟩⟩, unhide HBX _⟩

set_option maxRecDepth 100000 in
set_option maxHeartbeats 1600000 in
theorem toDiskWrite_any (k : Int) (x y : ByteArray) (w : World) :
    Calls Try.prog 8 #[.agg #[.int .i64 k, .string x, .string y]] w fun e w' => e = .returned (.agg #[.int .i64 k, .string x, .string y]) ∧ Below w.heap.size w w' := by
  go_enter Try.func8, Try.ntmps8
  go_wp2_with fail
  refine bodyPost_ret (v := .agg #[.int .i64 k, .string x, .string y]) (by simp [results, Try.results8, go_sem]) rfl ⟨rfl, ?_⟩
  exact ((((Below.refl _ w).alloc (Nat.le_refl _) _).alloc (by simp) _).alloc (by simp; omega) _)
end Go.Proofs.Ytekchajnellcdaa

/- A disk, a write and a copy of the disk in their boxes, while DiskDo goes on. No program walked. No conditions. -/

namespace Go.Proofs.Ytekchajnellcdaa
open Go Go.RowKit

/-- What DiskDo gives: a disk in new memory, and a code. -/
def DoEnd (w w' : World) (e : Ending) (d : Dk) (n : Int) : Prop := ∃ c' : C3, e = .returned (.tuple #[.agg #[c'.c0, c'.c1, c'.c2], .int .i64 n]) ∧ DkAt (New w w') w' d c' ∧ Below w.heap.size w w'
/-- The argument, the write and the empty result in their boxes; the argument's memory. -/
structure Dg (P : Nat → Prop) (w : World) (d : Dk) (c : C3) (k : Int) (x y : ByteArray) (W : World) : Prop where
  b0 : W.rowIs w.heap.size 34 3 (row3 c.c0 c.c1 c.c2)
  b1 : W.rowIs (w.heap.size + 1) 38 3 (row3 (.int .i64 k) (.string x) (.string y))
  b2 : W.rowIs (w.heap.size + 2) 34 3 (row3 (.slice none 0 0) (.slice none 0 0) (.slice none 0 0))
  dk : DkAt P W d c
  lt : ∀ b, P b → b < w.heap.size
  bel : Below w.heap.size w W
  sz : w.heap.size + 3 ≤ W.heap.size
theorem Dg.on {P : Nat → Prop} {w W W' : World} {d : Dk} {c : C3} {k : Int} {x y : ByteArray} (h : Dg P w d c k x y W) (hb : Below W.heap.size W W') : Dg P w d c k x y W' :=
  ⟨h.b0.of_block (hb.block _ h.b0.lt), h.b1.of_block (hb.block _ h.b1.lt), h.b2.of_block (hb.block _ h.b2.lt), h.dk.carry (fun b hp => hb.block b (Nat.lt_of_lt_of_le (h.lt b hp) h.bel.size)) (fun _ h => h), h.lt, h.bel.trans (hb.mono h.bel.size), Nat.le_trans h.sz hb.size⟩
theorem Dg.pl {P : Nat → Prop} {w W : World} {d : Dk} {c : C3} {k : Int} {x y : ByteArray} (h : Dg P w d c k x y W) : ∀ b, P b → b < W.heap.size := fun b hb => Nat.lt_of_lt_of_le (h.lt b hb) h.bel.size
theorem Dg.start {P : Nat → Prop} {w : World} {d : Dk} {c : C3} (h : DkAt P w d c) (hP : ∀ b, P b → b < w.heap.size) (k : Int) (x y : ByteArray) : Dg P w d c k x y (((w.alloc (.cells #[c.c0, c.c1, c.c2] 34)).alloc (.cells #[.int .i64 k, .string x, .string y] 38)).alloc (.cells #[.slice none 0 0, .slice none 0 0, .slice none 0 0] 34)) := by
  have hb : Below w.heap.size w (((w.alloc (.cells #[c.c0, c.c1, c.c2] 34)).alloc (.cells #[.int .i64 k, .string x, .string y] 38)).alloc (.cells #[.slice none 0 0, .slice none 0 0, .slice none 0 0] 34)) := (((Below.refl _ _).alloc (Nat.le_refl _) _).alloc (by simp) _).alloc (by simp; omega) _
  refine ⟨((row3_alloc w _ _ _ _).alloc _).alloc _, ?_, ?_, h.carry (fun b hp => hb.block b (hP b hp)) (fun _ h => h), hP, hb, by simp⟩
  · have := (row3_alloc (w.alloc (.cells #[c.c0, c.c1, c.c2] 34)) (.int .i64 k) (.string x) (.string y) 38).alloc (.cells #[.slice none 0 0, .slice none 0 0, .slice none 0 0] 34)
    rw [World.size_alloc] at this; exact this
  · have := row3_alloc ((w.alloc (.cells #[c.c0, c.c1, c.c2] 34)).alloc (.cells #[.int .i64 k, .string x, .string y] 38)) (.slice none 0 0) (.slice none 0 0) (.slice none 0 0) 34
    rw [World.size_alloc, World.size_alloc] at this; exact this
/-- Beside it the copy, in a box of its own; its lists may have turned. -/
structure Dz (P : Nat → Prop) (w : World) (d : Dk) (c : C3) (k : Int) (x y : ByteArray) (base L : Nat) (o : C3) (d' : Dk) (W : World) : Prop where
  g : Dg P w d c k x y W
  mx : MxSt base L W o.c0 o.c1 o.c2 d'.files d'.names d'.moves
  hb : w.heap.size + 3 ≤ base
  hL : w.heap.size + 3 ≤ L
theorem Dz.on {P : Nat → Prop} {w W W' : World} {d : Dk} {c : C3} {k : Int} {x y : ByteArray} {base L : Nat} {o : C3} {d' : Dk} (h : Dz P w d c k x y base L o d' W) (hb : Below W.heap.size W W') : Dz P w d c k x y base L o d' W' := ⟨h.g.on hb, h.mx.keep hb, h.hb, h.hL⟩
/-- The result's box is filled with the copy: it is given. -/
theorem Dz.fin {P : Nat → Prop} {w W : World} {d : Dk} {c : C3} {k : Int} {x y : ByteArray} {base L : Nat} {o : C3} {d' : Dk} (h : Dz P w d c k x y base L o d' W) (hf : ∀ f, f ∈ d'.files → f.okM) (hn : ∀ z, z ∈ d'.names → z.size ≤ 9223372036854775807) (hm : ∀ m, m ∈ d'.moves → m.okM) (n : Int) :
    DoEnd w (((W.setCell ⟨w.heap.size + 2, 0, none⟩ o.c0).setCell ⟨w.heap.size + 2, 1, none⟩ o.c1).setCell ⟨w.heap.size + 2, 2, none⟩ o.c2) (.returned (.tuple #[.agg #[o.c0, o.c1, o.c2], .int .i64 n])) d' n := by
  have hk : ∀ b, w.heap.size + 3 ≤ b → (((W.setCell ⟨w.heap.size + 2, 0, none⟩ o.c0).setCell ⟨w.heap.size + 2, 1, none⟩ o.c1).setCell ⟨w.heap.size + 2, 2, none⟩ o.c2).heap[b]? = W.heap[b]? := fun b hb => by
    rw [Below.heap_setCell _ _ _ _ (by simp; omega), Below.heap_setCell _ _ _ _ (by simp; omega), Below.heap_setCell _ _ _ _ (by simp; omega)]
  have hbl := ((h.g.bel.setCell (p := ⟨w.heap.size + 2, 0, none⟩) (by simp) o.c0).setCell (p := ⟨w.heap.size + 2, 1, none⟩) (by simp) o.c1).setCell (p := ⟨w.heap.size + 2, 2, none⟩) (by simp) o.c2
  obtain ⟨F0, t1, t2, t3, -⟩ := FlatOwn.of_row (rs := d'.files.map Df.cs) (n := 3) (by rw [List.length_map]; exact h.mx.o0) (fun r hr => by obtain ⟨f, -, rfl⟩ := List.mem_map.1 hr; rfl)
  obtain ⟨F2, r1, r2, r3, -⟩ := FlatOwn.of_row (rs := d'.moves.map Dm.cs) (n := 2) (by rw [List.length_map]; exact h.mx.o2) (fun r hr => by obtain ⟨f, -, rfl⟩ := List.mem_map.1 hr; rfl)
  have hb3 := h.hb
  have hs : ∀ b, b < W.heap.size → b < (((W.setCell ⟨w.heap.size + 2, 0, none⟩ o.c0).setCell ⟨w.heap.size + 2, 1, none⟩ o.c1).setCell ⟨w.heap.size + 2, 2, none⟩ o.c2).heap.size := fun b hb => by simpa using hb
  refine ⟨o, rfl, ⟨⟨t1.at.carry (fun b hb => hk b (by have := (t3 b hb).1; omega)) (fun b hb => ⟨by have := (t3 b hb).1; omega, hs b (t3 b hb).2⟩), hf⟩, (strsAt_own h.mx.o1 hn).carry (fun b hb => hk b (by have := hb.1; omega)) (fun b hb => ⟨by have := hb.1; omega, hs b hb.2⟩), ⟨r1.at.carry (fun b hb => hk b (by have := (r3 b hb).1; omega)) (fun b hb => ⟨by have := (r3 b hb).1; omega, hs b (r3 b hb).2⟩), hm⟩⟩, hbl⟩
/-- Nothing of the first three boxes, nor of what stood, has turned. -/
theorem Dg.of {P : Nat → Prop} {w W W' : World} {d : Dk} {c : C3} {k : Int} {x y : ByteArray} (h : Dg P w d c k x y W) (hk : ∀ b, b < w.heap.size + 3 → W'.heap[b]? = W.heap[b]?) (hs : W.heap.size ≤ W'.heap.size) (h1 : W'.os = W.os) (h2 : W'.tape = W.tape) (h3 : W'.output = W.output) : Dg P w d c k x y W' :=
  ⟨h.b0.of_block (hk _ (by omega)), h.b1.of_block (hk _ (by omega)), h.b2.of_block (hk _ (by omega)), h.dk.carry (fun b hp => hk b (by have := h.lt b hp; omega)) (fun _ h => h), h.lt, ⟨h1.trans h.bel.os, h2.trans h.bel.tape, h3.trans h.bel.output, Nat.le_trans h.bel.size hs, fun b hb => (hk b (by omega)).trans (h.bel.block b hb)⟩, Nat.le_trans h.sz hs⟩
theorem MxSt.addF {base L : Nat} {W W' : World} {x0 x1 x2 v : Value} {fs : List Df} {ns : List ByteArray} {ms : List Dm} (h : MxSt base L W x0 x1 x2 fs ns ms) (f : Df) (ho : W'.ownsRow base 51 3 v (fs.length + 1) ((fs.map Df.cs).flatten ++ f.cs)) (hg : W.grownBy W' x0.ownBlock) : MxSt base L (W'.setCell ⟨L, 0, none⟩ v) v x1 x2 (fs ++ [f]) ns ms := by
  have hL : W'.rowIs L 34 3 (row3 x0 x1 x2) := h.row.of_block (hg.block L h.row.lt (fun e => own_apart h.o0 h.row (by decide) e.symm))
  have h1 := ownsRow_keep h.o1 (fun g e => hg.block g (h.o1.lt g e).2 (fun e2 => own_ne h.o0 h.o1 (by decide) g e2.symm e))
  have h2 := ownsRow_keep h.o2 (fun g e => hg.block g (h.o2.lt g e).2 (fun e2 => own_ne h.o0 h.o2 (by decide) g e2.symm e))
  refine ⟨(crow_set hL v).1, ?_, ownsRow_setCell_other h1 (own_apart h1 hL (by decide)) _, ownsRow_setCell_other h2 (own_apart h2 hL (by decide)) _⟩
  refine ownsRow_setCell_other ?_ (own_apart ho hL (by decide)) _
  rw [List.length_append, List.map_append, List.flatten_append]
  simpa using ho
theorem MxSt.addM {base L : Nat} {W W' : World} {x0 x1 x2 v : Value} {fs : List Df} {ns : List ByteArray} {ms : List Dm} (h : MxSt base L W x0 x1 x2 fs ns ms) (f : Dm) (ho : W'.ownsRow base 53 2 v (ms.length + 1) ((ms.map Dm.cs).flatten ++ f.cs)) (hg : W.grownBy W' x2.ownBlock) : MxSt base L (W'.setCell ⟨L, 2, none⟩ v) x0 x1 v fs ns (ms ++ [f]) := by
  have hL : W'.rowIs L 34 3 (row3 x0 x1 x2) := h.row.of_block (hg.block L h.row.lt (fun e => own_apart h.o2 h.row (by decide) e.symm))
  have h1 := ownsRow_keep h.o1 (fun g e => hg.block g (h.o1.lt g e).2 (fun e2 => own_ne h.o2 h.o1 (by decide) g e2.symm e))
  have h0 := ownsRow_keep h.o0 (fun g e => hg.block g (h.o0.lt g e).2 (fun e2 => own_ne h.o2 h.o0 (by decide) g e2.symm e))
  refine ⟨crow_set2 hL v, ownsRow_setCell_other h0 (own_apart h0 hL (by decide)) _, ownsRow_setCell_other h1 (own_apart h1 hL (by decide)) _, ?_⟩
  refine ownsRow_setCell_other ?_ (own_apart ho hL (by decide)) _
  rw [List.length_append, List.map_append, List.flatten_append]
  simpa using ho
/-- One cell of one file of the copy turns. -/
theorem MxSt.setF {base L g cap : Nat} {W : World} {x1 x2 : Value} {fs : List Df} {ns : List ByteArray} {ms : List Dm} (h : MxSt base L W (.slice (some ⟨g, 0, none⟩) fs.length cap) x1 x2 fs ns ms) (i j : Nat) (u : Value) (f : Df) (hi : i < fs.length) (hj : j < 3) (hf : f.cs = fs[i].cs.set j u) : MxSt base L (W.setCell ⟨g, i * 3 + j, none⟩ u) (.slice (some ⟨g, 0, none⟩) fs.length cap) x1 x2 (fs.set i f) ns ms := by
  have hR : MxR base L W (.slice (some ⟨g, 0, none⟩) fs.length cap) x1 x2 fs.length (fs.map Df.cs).flatten ns ms := ⟨h.row, h.o0, h.o1, h.o2⟩
  have h2 := hR.put (i * 3 + j) u
  have e : ((fs.set i f).map Df.cs).flatten = ((fs.map Df.cs).flatten).set (i * 3 + j) u := by
    clear h hR h2
    induction fs generalizing i with
    | nil => simp at hi
    | cons a fs ih =>
      cases i with
      | zero =>
        simp only [List.getElem_cons_zero] at hf
        simp only [List.set_cons_zero, List.map_cons, List.flatten_cons, hf, Nat.zero_mul, Nat.zero_add]
        rw [List.set_append_left _ _ (by simp [Df.cs]; omega)]
      | succ i =>
        simp only [List.set_cons_succ, List.map_cons, List.flatten_cons]
        rw [ih i (by simpa using hi) (by simpa using hf), List.set_append_right _ _ (by simp [Df.cs]; omega)]
        congr 2
        simp [Df.cs]
        omega
  exact ⟨h2.row, by rw [List.length_set, e]; exact h2.o0, h2.o1, h2.o2⟩
theorem Dz.grow {P : Nat → Prop} {w W W' : World} {d : Dk} {c : C3} {k : Int} {x y : ByteArray} {base L : Nat} {o o' : C3} {d' d2 : Dk} {row : Option Nat} (h : Dz P w d c k x y base L o d' W) (hg : W.grownBy W' row) (hr : ∀ g, row = some g → base ≤ g) (j : Nat) (v : Value) (hm : MxSt base L (W'.setCell ⟨L, j, none⟩ v) o'.c0 o'.c1 o'.c2 d2.files d2.names d2.moves) : Dz P w d c k x y base L o' d2 (W'.setCell ⟨L, j, none⟩ v) := by
  have h1 := h.hb; have h2 := h.hL; have h3 := h.g.sz
  refine ⟨h.g.of (fun b hb => ?_) (by rw [World.size_setCell]; exact hg.size) hg.os hg.tape hg.output, hm, h.hb, h.hL⟩
  rw [Below.heap_setCell _ _ _ _ (by simp; omega)]
  exact hg.block b (by omega) (fun e => by have := hr b e.symm; omega)
theorem Dz.put {P : Nat → Prop} {w W : World} {d : Dk} {c : C3} {k : Int} {x y : ByteArray} {base L : Nat} {o : C3} {d' d2 : Dk} {g j : Nat} {v : Value} (h : Dz P w d c k x y base L o d' W) (hg : base ≤ g) (hm : MxSt base L (W.setCell ⟨g, j, none⟩ v) o.c0 o.c1 o.c2 d2.files d2.names d2.moves) : Dz P w d c k x y base L o d2 (W.setCell ⟨g, j, none⟩ v) := by
  have h1 := h.hb
  exact ⟨h.g.of (fun b hb => Below.heap_setCell _ _ _ _ (by simp; omega)) (by rw [World.size_setCell]; exact Nat.le_refl _) rfl rfl rfl, hm, h.hb, h.hL⟩
theorem grown_alloc {W W' : World} {ob : Obj} {row : Option Nat} (h : (W.alloc ob).grownBy W' row) : W.grownBy W' row :=
  ⟨h.os, h.tape, h.output, by have := h.size; rw [World.size_alloc] at this; omega, fun b hb hr => (h.block b (by rw [World.size_alloc]; omega) hr).trans (heap_alloc_old W ob hb)⟩
theorem Dz.appF {P : Nat → Prop} {w W W' : World} {d : Dk} {c : C3} {k : Int} {x y : ByteArray} {base L : Nat} {o : C3} {d' : Dk} {v : Value} {ob : Obj} (h : Dz P w d c k x y base L o d' W) (f : Df) (ho : W'.ownsRow base 51 3 v (d'.files.length + 1) ((d'.files.map Df.cs).flatten ++ f.cs)) (hg : (W.alloc ob).grownBy W' o.c0.ownBlock) :
    W'.rowIs L 34 3 (row3 o.c0 o.c1 o.c2) ∧ Dz P w d c k x y base L ⟨v, o.c1, o.c2⟩ ⟨d'.files ++ [f], d'.names, d'.moves⟩ (W'.setCell ⟨L, 0, none⟩ v) :=
  ⟨h.mx.row.of_block ((grown_alloc hg).block L h.mx.row.lt (fun e => own_apart h.mx.o0 h.mx.row (by decide) e.symm)), h.grow (grown_alloc hg) (fun g e => (h.mx.o0.lt g e).1) 0 v (h.mx.addF f ho (grown_alloc hg))⟩
theorem Dz.appM {P : Nat → Prop} {w W W' : World} {d : Dk} {c : C3} {k : Int} {x y : ByteArray} {base L : Nat} {o : C3} {d' : Dk} {v : Value} {ob : Obj} (h : Dz P w d c k x y base L o d' W) (f : Dm) (ho : W'.ownsRow base 53 2 v (d'.moves.length + 1) ((d'.moves.map Dm.cs).flatten ++ f.cs)) (hg : (W.alloc ob).grownBy W' o.c2.ownBlock) :
    W'.rowIs L 34 3 (row3 o.c0 o.c1 o.c2) ∧ Dz P w d c k x y base L ⟨o.c0, o.c1, v⟩ ⟨d'.files, d'.names, d'.moves ++ [f]⟩ (W'.setCell ⟨L, 2, none⟩ v) :=
  ⟨h.mx.row.of_block ((grown_alloc hg).block L h.mx.row.lt (fun e => own_apart h.mx.o2 h.mx.row (by decide) e.symm)), h.grow (grown_alloc hg) (fun g e => (h.mx.o2.lt g e).1) 2 v (h.mx.addM f ho (grown_alloc hg))⟩
theorem okSet {fs : List Df} {f : Df} {i : Nat} (h : ∀ f, f ∈ fs → f.okM) (hf : f.okM) : ∀ g, g ∈ fs.set i f → g.okM := fun g hg => (List.mem_or_eq_of_mem_set hg).elim (h g) fun e => e ▸ hf
theorem okF {fs : List Df} {f : Df} (h : ∀ f, f ∈ fs → f.okM) (hf : f.okM) : ∀ g, g ∈ fs ++ [f] → g.okM := fun g hg => (List.mem_append.1 hg).elim (h g) fun e => List.mem_singleton.1 e ▸ hf
theorem okM {fs : List Dm} {f : Dm} (h : ∀ f, f ∈ fs → f.okM) (hf : f.okM) : ∀ g, g ∈ fs ++ [f] → g.okM := fun g hg => (List.mem_append.1 hg).elim (h g) fun e => List.mem_singleton.1 e ▸ hf
theorem cell_2 (w : World) (x y : Value) (t : TypeId) : ∀ j u, [x, y][j]? = some u → (w.alloc (.cells #[x, y] t)).cell? ((⟨w.heap.size, 0, none⟩ : Addr).add j) = some u := by
  intro j u hj
  match j with
  | 0 => simp only [List.getElem?_cons_zero, Option.some.injEq] at hj; subst hj; rw [Addr.add_lit]; simp [go_sem]
  | 1 => simp only [List.getElem?_cons_succ, List.getElem?_cons_zero, Option.some.injEq] at hj; subst hj; rw [Addr.add_lit]; simp [go_sem]
  | j + 2 => simp at hj
end Go.Proofs.Ytekchajnellcdaa
