/- The walk of the program's EventWrite: the text of an event that is ok, else nothing. The tables are as the program's and strconv's texts lay them. -/
import Derived.Test.YtbkagahmiibclaaGreatDoorPart36
import Derived.Test.YtbkagahmiibclaaGreatDoorPart37
import Derived.Test.YtbkagahmiibclaaGreatDoorPart23
import Derived.Test.YtbkagahmiibclaaGreatDoorRows
import Derived.Test.YtbkagahmiibclaaGreatDoorPart00
import Derived.Test.YtbkagahmiibclaaGreatDoorPart01
import Derived.Deep.RegionWith
import Derived.Deep.QuietTactic
import Derived.BigQuiet
import Derived.Test.YtbkagahmiibclaaGreatDoorPart12
import Derived.Test.YtbkagahmiibclaaGreatDoorPart13
import Derived.Test.YtbkagahmiibclaaGreatDoorPart25
import Derived.Test.YtbkagahmiibclaaGreatDoorPart27
import Derived.Test.YtbkagahmiibclaaGreatDoorPart26
import Derived.Test.YtbkagahmiibclaaGreatDoorPart35
import Derived.ProofKit
import Derived.OpenShut
namespace Go.Proofs.YtbkagahmiibclaaGreatDoor
open Go Go.RowKit

set_option maxRecDepth 100000 in
set_option maxHeartbeats 6400000 in
theorem implEventWrite_any (ty : ByteArray) (ver : Int) (t : Tr) (P : Nat → Prop) (c : C5) (w : World) (hP : ∀ b, P b → b < w.heap.size) (hrep : Rep P w t c) (hty : ty.size ≤ 9223372036854775807) (hver : I64 ver) (hT : Tab w) (hE : Env w) :
    Calls Tryz.prog 9 #[.agg #[.string ty, .int .i64 ver, c.c0, c.c1, c.c2, c.c3, c.c4]] w fun e w' => e = .returned (.string (evW ty ver t)) ∧ Below w.heap.size w w' := by
  obtain ⟨c0, c1, c2, c3, c4⟩ := c
  obtain ⟨W0, hW0⟩ : ∃ W0, w.alloc (.cells #[.string ty, .int .i64 ver, c0, c1, c2, c3, c4] 28) = W0 := ⟨_, rfl⟩
  have hst : EwAt w (row7 (.string ty) (.int .i64 ver) c0 c1 c2 c3 c4) W0 := by
    rw [← hW0]
    exact ⟨(Below.refl _ _).alloc (Nat.le_refl _) _, row7_alloc w _ _ _ _ _ _ _ _⟩
  have hok := implEventOk_any ty ver t P ⟨c0, c1, c2, c3, c4⟩ W0 (fun b hb => Nat.lt_of_lt_of_le (hP b hb) hst.below.size) (Rep.carry (fun b hb => hst.below.block b (hP b hb)) (fun _ h => h) _ _ hrep) hty hver (hT.of_block (hst.below.block _ hT.lt))
  have x0 := hst.box.cell (i := 0) (by omega); have x1 := hst.box.cell (i := 1) (by omega); have x2 := hst.box.cell (i := 2) (by omega); have x3 := hst.box.cell (i := 3) (by omega); have x4 := hst.box.cell (i := 4) (by omega); have x5 := hst.box.cell (i := 5) (by omega); have x6 := hst.box.cell (i := 6) (by omega)
  simp only [row7] at x0 x1 x2 x3 x4 x5 x6
  have hW : evW ty ver t = if evOkB ty ver t = true then ⟨(evT ty ver t).toArray⟩ else ⟨#[]⟩ := rfl
  cases hb : evOkB ty ver t with
  | false =>
    rw [hb] at hok hW
    rw [if_neg (by decide)] at hW
    have HOK := hide hok; have HST := hide hst; have HW := hide hW
    clear hok hst hrep hP hb hW hT hE
    go_enter Tryz.func9, Tryz.ntmps9
    go_wp2_with (go_at_call 10; refine (unhide HOK).mono ?_; rintro e w1 ⟨rfl, hb1⟩)
    go_ret
    exact ⟨by rw [unhide HW]; rfl, ((unhide HST).on hb1).below⟩
  | true =>
    rw [hb] at hok hW
    rw [if_pos rfl] at hW
    obtain ⟨k1, k2, k3, k4, k5⟩ := evOk_open hb
    have hs1 := (nmty_size k1).1
    have hs2 := itoa_short (n := ver) ⟨by omega, by omega⟩
    have hs3 := txT_small k5
    have htw : twS t = ⟨(txT t).toArray⟩ := by unfold twS; rw [if_pos (wlk_ok.1 k5).1]
    have hdec : ∀ W, EwAt w (row7 (.string ty) (.int .i64 ver) c0 c1 c2 c3 c4) W → Calls Tryz.prog 30 #[.int .i64 ver] W fun e w' => e = .returned (.string ⟨(Lib.itoa ver).toArray⟩) ∧ Hid (EwAt w (row7 (.string ty) (.int .i64 ver) c0 c1 c2 c3 c4) w') ∧ w'.cell? ⟨w.heap.size, 0, none⟩ = some (.string ty) ∧ w'.cell? ⟨w.heap.size, 1, none⟩ = some (.int .i64 ver) ∧ w'.cell? ⟨w.heap.size, 2, none⟩ = some c0 ∧ w'.cell? ⟨w.heap.size, 3, none⟩ = some c1 ∧ w'.cell? ⟨w.heap.size, 4, none⟩ = some c2 ∧ w'.cell? ⟨w.heap.size, 5, none⟩ = some c3 ∧ w'.cell? ⟨w.heap.size, 6, none⟩ = some c4 := fun W hW => (itoa_walk ver (by omega) (by omega) W (hE.below hW.below)).mono fun e w' ⟨h1, h2⟩ => ⟨h1, hide (hW.on h2), (hW.on h2).cells⟩
    have htx : ∀ W, EwAt w (row7 (.string ty) (.int .i64 ver) c0 c1 c2 c3 c4) W → Calls Tryz.prog 31 #[.agg #[c0, c1, c2, c3, c4]] W fun e w' => e = .returned (.string ⟨(txT t).toArray⟩) ∧ Hid (EwAt w (row7 (.string ty) (.int .i64 ver) c0 c1 c2 c3 c4) w') ∧ w'.cell? ⟨w.heap.size, 0, none⟩ = some (.string ty) ∧ w'.cell? ⟨w.heap.size, 1, none⟩ = some (.int .i64 ver) ∧ w'.cell? ⟨w.heap.size, 2, none⟩ = some c0 ∧ w'.cell? ⟨w.heap.size, 3, none⟩ = some c1 ∧ w'.cell? ⟨w.heap.size, 4, none⟩ = some c2 ∧ w'.cell? ⟨w.heap.size, 5, none⟩ = some c3 ∧ w'.cell? ⟨w.heap.size, 6, none⟩ = some c4 := fun W hW => (implTreeWrite_any t P ⟨c0, c1, c2, c3, c4⟩ W (fun b hb => Nat.lt_of_lt_of_le (hP b hb) hW.below.size) (Rep.carry (fun b hb => hW.below.block b (hP b hb)) (fun _ h => h) _ _ hrep) (hT.of_block (hW.below.block _ hT.lt)) (hE.below hW.below)).mono fun e w' ⟨h1, h2⟩ => ⟨by rw [h1, htw], hide (hW.on h2), (hW.on h2).cells⟩
    have hbytes := evT_bytes ty ver t
    have HOK := hide hok; have HST := hide hst; have HW := hide hW; have HDEC := hide hdec; have HTX := hide htx; have HBY := hide hbytes
    clear hT hE hok hst hrep hP hb hW hdec htx htw k1 k4 k5 hbytes
    generalize evT ty ver t = X at *
    generalize Lib.itoa ver = dd at *
    generalize txT t = tt at *
    have z1 : (⟨dd.toArray⟩ : ByteArray).size = dd.length := by simp [ByteArray.size]
    have z2 : (⟨tt.toArray⟩ : ByteArray).size = tt.length := by simp [ByteArray.size]
    have z3 : (⟨#[64]⟩ : ByteArray).size = 1 := rfl
    have hA1 : ∀ T, binOp .add T (.string ty) (.string ⟨#[64]⟩) = pure (.string (ty ++ ⟨#[64]⟩)) := fun T => addW T _ _ (by (repeat rw [ByteArray.size_append]); omega)
    have hA2 : ∀ T, binOp .add T (.string (ty ++ ⟨#[64]⟩)) (.string ⟨dd.toArray⟩) = pure (.string ((ty ++ ⟨#[64]⟩) ++ ⟨dd.toArray⟩)) := fun T => addW T _ _ (by (repeat rw [ByteArray.size_append]); omega)
    have hA3 : ∀ T, binOp .add T (.string ((ty ++ ⟨#[64]⟩) ++ ⟨dd.toArray⟩)) (.string ⟨tt.toArray⟩) = pure (.string (((ty ++ ⟨#[64]⟩) ++ ⟨dd.toArray⟩) ++ ⟨tt.toArray⟩)) := fun T => addW T _ _ (by (repeat rw [ByteArray.size_append]); omega)
    clear z1 z2 z3
    go_enter Tryz.func9, Tryz.ntmps9
    go_wp2_with (go_at_call 10; refine (unhide HOK).mono ?_; rintro e w1 ⟨rfl, hb1⟩; have hst1 := (unhide HST).on hb1; have HST1 := hide hst1; have HST1D := hide hst1.drew; have y0 := hst1.box.cell (i := 0) (by omega); have y1 := hst1.box.cell (i := 1) (by omega); have y2 := hst1.box.cell (i := 2) (by omega); have y3 := hst1.box.cell (i := 3) (by omega); have y4 := hst1.box.cell (i := 4) (by omega); have y5 := hst1.box.cell (i := 5) (by omega); have y6 := hst1.box.cell (i := 6) (by omega); simp only [row7] at y0 y1 y2 y3 y4 y5 y6; clear hst1 hb1 HST HOK)
    go_region_held3 (fun W => W.cell? ⟨w.heap.size, 0, none⟩ = some (.string ty) ∧ W.cell? ⟨w.heap.size, 1, none⟩ = some (.int .i64 ver) ∧ W.cell? ⟨w.heap.size, 2, none⟩ = some c0 ∧ W.cell? ⟨w.heap.size, 3, none⟩ = some c1 ∧ W.cell? ⟨w.heap.size, 4, none⟩ = some c2 ∧ W.cell? ⟨w.heap.size, 5, none⟩ = some c3 ∧ W.cell? ⟨w.heap.size, 6, none⟩ = some c4) (first | exact ⟨v0, v1, v2, v3, v4, v5, v6⟩ | exact ⟨z0, z1, z2, z3, z4, z5, z6⟩ | go_keep)
      (first
        | (go_at_call 30; refine (unhide HDEC _ (by first | exact unhide HST1D | exact unhide HST1 | exact unhide HSTB | exact (unhide HSTB).drew)).mono ?_; rintro e w2 ⟨rfl, HSTA, z0, z1, z2, z3, z4, z5, z6⟩)
        | (go_at_call 31; refine (unhide HTX _ (by first | exact unhide HST1D | exact unhide HST1 | exact unhide HSTA | exact (unhide HSTA).drew)).mono ?_; rintro e w3 ⟨rfl, HSTB, v0, v1, v2, v3, v4, v5, v6⟩))
    all_goals
      go_wp2_with fail
      go_ret
      refine ⟨ret_str ?_, ?_⟩
      · rw [unhide HW]; exact unhide HBY
      · first | exact (unhide HSTB).below | exact (unhide HSTA).below
end Go.Proofs.YtbkagahmiibclaaGreatDoor

/- The walk of the laws' own ttTree: of two trees that lie in memory as one and the same it answers true, and turns nothing that was there. No conditions. -/

namespace Go.Proofs.YtbkagahmiibclaaGreatDoor
open Go Go.RowKit

def TtSaid (n : Nat) : Prop := ∀ (t : Tr), tsz t < n → ∀ (P Q : Nat → Prop) (c d : C5) (w : World), (∀ b, P b → b < w.heap.size) → (∀ b, Q b → b < w.heap.size) → Rep P w t c → Rep Q w t d →
    Calls Tryz.prog 42 #[.agg #[c.c0, c.c1, c.c2, c.c3, c.c4], .agg #[d.c0, d.c1, d.c2, d.c3, d.c4]] w fun e w' => e = .returned (.bool true) ∧ Below w.heap.size w w'

/-- The two boxes. -/
structure TT (w : World) (c d : C5) (wr : World) : Prop where
  below : Below w.heap.size w wr
  a : wr.rowIs w.heap.size 26 5 (row5 c.c0 c.c1 c.c2 c.c3 c.c4)
  b : wr.rowIs (w.heap.size + 1) 26 5 (row5 d.c0 d.c1 d.c2 d.c3 d.c4)
theorem TT.on {w : World} {c d : C5} {wr w' : World} (h : TT w c d wr) (hb : Below wr.heap.size wr w') : TT w c d w' :=
  ⟨h.below.trans (hb.mono h.below.size), h.a.of_block (hb.block _ h.a.lt), h.b.of_block (hb.block _ h.b.lt)⟩
theorem TT.start (w : World) (c0 c1 c2 c3 c4 d0 d1 d2 d3 d4 : Value) : TT w ⟨c0, c1, c2, c3, c4⟩ ⟨d0, d1, d2, d3, d4⟩ ((w.alloc (.cells #[c0, c1, c2, c3, c4] 26)).alloc (.cells #[d0, d1, d2, d3, d4] 26)) := by
  refine ⟨((Below.refl _ _).alloc (Nat.le_refl _) _).alloc (by simp) _, (row5_alloc w c0 c1 c2 c3 c4 26).alloc _, ?_⟩
  have := row5_alloc (w.alloc (.cells #[c0, c1, c2, c3, c4] 26)) d0 d1 d2 d3 d4 26
  rw [World.size_alloc] at this
  exact this

set_option maxRecDepth 100000 in
set_option maxHeartbeats 3200000 in
theorem ttTree_step (n : Nat) (IH : TtSaid n) : TtSaid (n + 1) := by
  intro t hn P Q c d w hP hQ hrep hrep2
  obtain ⟨c0, c1, c2, c3, c4⟩ := c
  obtain ⟨d0, d1, d2, d3, d4⟩ := d
  obtain ⟨e0, e1, e2, -, -, -, hns, a4, cap4, e4, hlen, hks⟩ := hrep.open
  obtain ⟨g0, g1, g2, -, -, -, hns2, b4, dap4, g4, -, hks2⟩ := hrep2.open
  simp only at e0 e1 e2 e4 hns g0 g1 g2 g4 hns2
  obtain ⟨a3, cap3, e3, hnl, hnc⟩ := hns
  obtain ⟨b3, dap3, g3, -, hnc2⟩ := hns2
  subst e0 e1 e2 e3 e4 g0 g1 g2 g3 g4
  have htt := TT.start w (.int .i64 t.sort) (.int .i64 t.num) (.string t.text) (.slice a3 t.names.length cap3) (.slice a4 t.kids.length cap4) (.int .i64 t.sort) (.int .i64 t.num) (.string t.text) (.slice b3 t.names.length dap3) (.slice b4 t.kids.length dap4)
  have HN := hide hnc; have HN2 := hide hnc2; have HK := hide hks; have HK2 := hide hks2; have HP := hide hP; have HQ := hide hQ; have HI := hide IH
  have hkid : ∀ i, (hi : i < t.kids.length) → tsz t.kids[i] < n := fun i hi => by have := tsz_kid (List.getElem_mem hi); omega
  have HKS := hide hkid
  clear hnc hnc2 hks hks2 hP hQ IH hrep hrep2 hkid hn
  generalize t.names = ns at *
  generalize t.kids = ks at *
  generalize t.sort = s0 at *
  generalize t.num = s1 at *
  generalize t.text = s2 at *
  have q0 := htt.a.cell (i := 0) (by omega); have q1 := htt.a.cell (i := 1) (by omega); have q2 := htt.a.cell (i := 2) (by omega); have q3 := htt.a.cell (i := 3) (by omega); have q4 := htt.a.cell (i := 4) (by omega)
  have r0 := htt.b.cell (i := 0) (by omega); have r1 := htt.b.cell (i := 1) (by omega); have r2 := htt.b.cell (i := 2) (by omega); have r3 := htt.b.cell (i := 3) (by omega); have r4 := htt.b.cell (i := 4) (by omega)
  simp only [row5] at q0 q1 q2 q3 q4 r0 r1 r2 r3 r4
  have HT := hide htt
  clear htt
  go_enter Tryz.func42, Tryz.ntmps42
  go_wp2_with fail
  clear q0 q1 q2 q3 q4 r0 r1 r2 r3 r4
  go_loopw [5] (fun i wr => ∃ (k : Nat), k ≤ ns.length ∧ i = .int .i64 k ∧ Hid (TT w ⟨.int .i64 s0, .int .i64 s1, .string s2, .slice a3 ns.length cap3, .slice a4 ks.length cap4⟩ ⟨.int .i64 s0, .int .i64 s1, .string s2, .slice b3 ns.length dap3, .slice b4 ks.length dap4⟩ wr)) (fun i _ => ns.length - (intOf i).toNat)
  case atStart => exact ⟨0, Nat.zero_le _, rfl, HT⟩
  case round =>
    clear HT
    obtain ⟨k, hk, rfl, HT⟩ := hrel
    have q3 := HT.out.a.cell (i := 3) (by omega); have r3 := HT.out.b.cell (i := 3) (by omega)
    simp only [row5] at q3 r3
    by_cases hlt : k < ns.length
    · obtain ⟨x, o, rfl, hpb, hcell, -⟩ := unhide HN k hlt
      obtain ⟨x2, o2, rfl, hpb2, hcell2, -⟩ := unhide HN2 k hlt
      have e1 : wr.cell? ⟨x, o + k, none⟩ = some (.string ns[k]) := by rw [HT.out.below.cell (unhide HP x hpb)]; exact hcell
      have e2 : wr.cell? ⟨x2, o2 + k, none⟩ = some (.string ns[k]) := by rw [HT.out.below.cell (unhide HQ x2 hpb2)]; exact hcell2
      have HT2 := hide (HT.out.on (Below.refl _ wr).drew)
      have HTN := hide (fun m => HT.out.on (show Below wr.heap.size wr (wr.drewN m) from ⟨rfl, rfl, rfl, Nat.le_refl _, fun _ _ => rfl⟩))
      have hix : (k : Int) < (ns.length : Int) := by omega
      clear hcell hcell2 hpb hpb2 HT
      go_wp2_with fail
      go_quiet (fail)
      go_wp2_with fail
      go_roundw
      case rel => exact ⟨k + 1, by omega, by go_num, unhide HTN _⟩
      case measure => simp [intOf]; omega
    · go_wp2_with fail
      go_loopw [6] (fun i wr => ∃ (k : Nat), k ≤ ks.length ∧ i = .int .i64 k ∧ Hid (TT w ⟨.int .i64 s0, .int .i64 s1, .string s2, .slice a3 ns.length cap3, .slice a4 ks.length cap4⟩ ⟨.int .i64 s0, .int .i64 s1, .string s2, .slice b3 ns.length dap3, .slice b4 ks.length dap4⟩ wr)) (fun i _ => ks.length - (intOf i).toNat)
      case atStart => exact ⟨0, Nat.zero_le _, rfl, HT⟩
      case round =>
        clear HT q3 r3
        obtain ⟨k, hk, rfl, HT⟩ := hrel
        have q4 := HT.out.a.cell (i := 4) (by omega); have r4 := HT.out.b.cell (i := 4) (by omega)
        simp only [row5] at q4 r4
        by_cases hlt : k < ks.length
        · obtain ⟨x, o, c, rfl, hpb, hcell, hrep⟩ := unhide HK k hlt
          obtain ⟨x2, o2, d, rfl, hpb2, hcell2, hrep2⟩ := unhide HK2 k hlt
          have hcell' := hcell.carry (HT.out.below.block x (unhide HP x hpb))
          have hcell2' := hcell2.carry (HT.out.below.block x2 (unhide HQ x2 hpb2))
          obtain ⟨c0, c1, c2, c3, c4⟩ := c
          obtain ⟨d0, d1, d2, d3, d4⟩ := d
          obtain ⟨e0, e1, e2, e3, e4⟩ := hcell'
          obtain ⟨g0, g1, g2, g3, g4⟩ := hcell2'
          simp only at e0 e1 e2 e3 e4 g0 g1 g2 g3 g4
          have hbd := HT.out.below.drew
          have hcall := unhide HI ks[k] (unhide HKS k hlt) P Q ⟨c0, c1, c2, c3, c4⟩ ⟨d0, d1, d2, d3, d4⟩ wr.drew (fun b hb' => Nat.lt_of_lt_of_le (unhide HP b hb') hbd.size) (fun b hb' => Nat.lt_of_lt_of_le (unhide HQ b hb') hbd.size) (Rep.carry (w' := wr.drew) (fun b hb' => hbd.block b (unhide HP b hb')) (fun _ h => h) _ _ hrep) (Rep.carry (w' := wr.drew) (fun b hb' => hbd.block b (unhide HQ b hb')) (fun _ h => h) _ _ hrep2)
          have HCALL := hide hcall
          have hix : (k : Int) < (ks.length : Int) := by omega
          clear hrep hcell hpb hrep2 hcell2 hpb2 hcall hbd
          go_wp2_with fail
          go_region_with (go_at_call 42; refine (unhide HCALL).mono ?_; rintro e w' ⟨rfl, hb'⟩)
          all_goals
            have HT2 := hide (HT.out.on ((Below.refl _ wr).drew.trans hb'))
            go_wp2_with fail
            go_roundw
            case rel => exact ⟨k + 1, by omega, by go_num, HT2⟩
            case measure => simp [intOf]; omega
        · go_wp2_with fail
          go_ret
          exact ⟨rfl, HT.out.below⟩

theorem ttTree_all : ∀ n, TtSaid n
  | 0 => fun t h => by omega
  | n + 1 => ttTree_step n (ttTree_all n)
theorem ttTree_any (t : Tr) (P Q : Nat → Prop) (c d : C5) (w : World) (hP : ∀ b, P b → b < w.heap.size) (hQ : ∀ b, Q b → b < w.heap.size) (h1 : Rep P w t c) (h2 : Rep Q w t d) :
    Calls Tryz.prog 42 #[.agg #[c.c0, c.c1, c.c2, c.c3, c.c4], .agg #[d.c0, d.c1, d.c2, d.c3, d.c4]] w fun e w' => e = .returned (.bool true) ∧ Below w.heap.size w w' :=
  ttTree_all (tsz t + 1) t (by omega) P Q c d w hP hQ h1 h2
end Go.Proofs.YtbkagahmiibclaaGreatDoor

/- The walk of the laws' own ttEvent: two events that are the same. No conditions. -/

namespace Go.Proofs.YtbkagahmiibclaaGreatDoor
open Go Go.RowKit

set_option maxRecDepth 100000 in
set_option maxHeartbeats 1600000 in
theorem ttEvent_any (ty : ByteArray) (ver : Int) (t : Tr) (P Q : Nat → Prop) (c d : C5) (w : World) (hP : ∀ b, P b → b < w.heap.size) (hQ : ∀ b, Q b → b < w.heap.size) (h1 : Rep P w t c) (h2 : Rep Q w t d) :
    Calls Tryz.prog 14 #[.agg #[.string ty, .int .i64 ver, c.c0, c.c1, c.c2, c.c3, c.c4], .agg #[.string ty, .int .i64 ver, d.c0, d.c1, d.c2, d.c3, d.c4]] w fun e w' => e = .returned (.bool true) ∧ Below w.heap.size w w' := by
  obtain ⟨c0, c1, c2, c3, c4⟩ := c
  obtain ⟨d0, d1, d2, d3, d4⟩ := d
  have hbx : ∀ o o2, Below w.heap.size w ((w.alloc o).alloc o2) := fun o o2 => ((Below.refl _ _).alloc (Nat.le_refl _) o).alloc (by simp) o2
  have hcall := fun (W : World) (hW : Below w.heap.size w W) => ttTree_any t P Q ⟨c0, c1, c2, c3, c4⟩ ⟨d0, d1, d2, d3, d4⟩ W (fun b hb => Nat.lt_of_lt_of_le (hP b hb) hW.size) (fun b hb => Nat.lt_of_lt_of_le (hQ b hb) hW.size) (Rep.carry (fun b hb => hW.block b (hP b hb)) (fun _ h => h) _ _ h1) (Rep.carry (fun b hb => hW.block b (hQ b hb)) (fun _ h => h) _ _ h2)
  have HBX := hide hbx; have HCALL := hide hcall
  clear hbx hcall hP hQ h1 h2
  go_enter Tryz.func14, Tryz.ntmps14
  go_wp2_with fail
  refine (unhide HCALL _ (unhide HBX _ _)).mono ?_
  rintro e w1 ⟨rfl, hb1⟩
  have hb2 := (unhide HBX _ _).trans (hb1.mono (unhide HBX _ _).size)
  have HB := hide hb2
  clear hb1 hb2
  go_wp2_with fail
  go_ret
  exact ⟨rfl, unhide HB⟩
end Go.Proofs.YtbkagahmiibclaaGreatDoor

/- The walk of the law FnEventBack: whatever bytes come in, it answers true, and turns nothing that was there. The tables of strconv and treeFields are as the program's text lays them. -/

namespace Go.Proofs.YtbkagahmiibclaaGreatDoor
open Go Go.RowKit

/-- An event in its box. -/
structure EvBx (w wr : World) (ty : ByteArray) (ver : Int) (t : Tr) (c : C5) (B : Nat) : Prop where
  below : Below w.heap.size w wr
  box : wr.rowIs B 28 7 (row7 (.string ty) (.int .i64 ver) c.c0 c.c1 c.c2 c.c3 c.c4)
  rep : Rep (fun x => x < B) wr t c
section
variable {w wr w' : World} {ty : ByteArray} {ver : Int} {t : Tr} {c : C5} {B : Nat}
theorem EvBx.on (h : EvBx w wr ty ver t c B) (hb : Below wr.heap.size wr w') : EvBx w w' ty ver t c B :=
  ⟨h.below.trans (hb.mono h.below.size), h.box.of_block (hb.block _ h.box.lt), Rep.carry (fun x hx => hb.block x (Nat.lt_trans hx h.box.lt)) (fun _ h => h) _ _ h.rep⟩
theorem EvBx.start {c0 c1 c2 c3 c4 : Value} (hb : Below w.heap.size w wr) (h : Rep (fun x => x < wr.heap.size) wr t ⟨c0, c1, c2, c3, c4⟩) : EvBx w (wr.alloc (.cells #[.string ty, .int .i64 ver, c0, c1, c2, c3, c4] 28)) ty ver t ⟨c0, c1, c2, c3, c4⟩ wr.heap.size :=
  ⟨hb.alloc hb.size _, row7_alloc wr _ _ c0 c1 c2 c3 c4 _, Rep.carry (fun _ hx => Below.heap_alloc _ _ _ hx) (fun _ h => h) _ _ h⟩
theorem EvBx.cells (h : EvBx w wr ty ver t c B) : wr.cell? ⟨B, 0, none⟩ = some (.string ty) ∧ wr.cell? ⟨B, 1, none⟩ = some (.int .i64 ver) ∧ wr.cell? ⟨B, 2, none⟩ = some c.c0 ∧ wr.cell? ⟨B, 3, none⟩ = some c.c1 ∧ wr.cell? ⟨B, 4, none⟩ = some c.c2 ∧ wr.cell? ⟨B, 5, none⟩ = some c.c3 ∧ wr.cell? ⟨B, 6, none⟩ = some c.c4 :=
  ⟨h.box.cell (i := 0) (by omega), h.box.cell (i := 1) (by omega), h.box.cell (i := 2) (by omega), h.box.cell (i := 3) (by omega), h.box.cell (i := 4) (by omega), h.box.cell (i := 5) (by omega), h.box.cell (i := 6) (by omega)⟩
end

theorem evW_size {ty : ByteArray} {ver : Int} {t : Tr} (h : evOkB ty ver t = true) : (evW ty ver t).size ≤ 10000 ∧ (evW ty ver t).data.toList = evT ty ver t := by
  obtain ⟨k1, k2, k3, k4, k5⟩ := evOk_open h
  have hs1 := (nmty_size k1).1
  have hs2 := itoa_short (n := ver) ⟨by omega, by omega⟩
  have hs3 := txT_small k5
  have e : evW ty ver t = ⟨(evT ty ver t).toArray⟩ := by unfold evW; rw [if_pos h]
  refine ⟨?_, by rw [e]⟩
  rw [e]
  show (evT ty ver t).toArray.size ≤ 10000
  unfold evT
  simp
  omega

set_option maxRecDepth 100000 in
set_option maxHeartbeats 6400000 in
theorem lawEventBack_any (w : World) (a : Option Addr) (cap : Nat) (l : List UInt8) (hv : BytesAt w (.slice a l.length cap) l) (hcap : l.length ≤ cap) (hE : Env w) (hT : Tab w) :
    Calls Tryz.prog 3 #[.slice a l.length cap] w fun e w' => e = .returned (.bool true) ∧ Below w.heap.size w w' := by
  have hlen : l.length ≤ 9223372036854775807 := by obtain ⟨_, _, _, h, _⟩ := hv; exact h
  by_cases hs : l.length ≤ 1048576
  · have hd : decide ((1048576 : Int) < (l.length : Int)) = false := by simp; omega
    have HDW := hide (drawEventPack_any w a cap l hv hcap)
    have HT := hide (fun W (hW : Below w.heap.size w W) => hT.of_block (hW.block _ hT.lt))
    have HE := hide (fun W (hW : Below w.heap.size w W) => hE.below hW)
    clear hv hT hE
    go_enter Tryz.func3, Tryz.ntmps3
    go_wp2_with fail
    refine (unhide HDW).mono ?_
    rintro e w1 ⟨ty, ver, t, ⟨c0, c1, c2, c3, c4⟩, rfl, hty, hver, hr1, hb1⟩
    obtain ⟨g0, g1, g2, -, -, -, ⟨a3, cap3, g3, -⟩, a4, cap4, g4, -⟩ := hr1.open
    simp only at g0 g1 g2 g3 g4
    subst g0 g1 g2 g3 g4
    have heb := EvBx.start (ty := ty) (ver := ver) hb1 (Rep.carry (fun _ _ => rfl) (fun x hx => hx.2) _ _ hr1)
    obtain ⟨W1, hW1⟩ : ∃ W1, w1.alloc (.cells #[.string ty, .int .i64 ver, .int .i64 t.sort, .int .i64 t.num, .string t.text, .slice a3 t.names.length cap3, .slice a4 t.kids.length cap4] 28) = W1 := ⟨_, rfl⟩
    rw [hW1] at heb
    have htz : ty.size ≤ 9223372036854775807 := by omega
    have sok := fun W (hW : EvBx w W ty ver t ⟨.int .i64 t.sort, .int .i64 t.num, .string t.text, .slice a3 t.names.length cap3, .slice a4 t.kids.length cap4⟩ w1.heap.size) => specEventOk_any ty ver t (fun x => x < w1.heap.size) _ W (fun x hx => Nat.lt_trans hx hW.box.lt) hW.rep htz hver
    have spk := fun W (hW : EvBx w W ty ver t ⟨.int .i64 t.sort, .int .i64 t.num, .string t.text, .slice a3 t.names.length cap3, .slice a4 t.kids.length cap4⟩ w1.heap.size) => specEventPack_any ty ver t (fun x => x < w1.heap.size) _ W (fun x hx => Nat.lt_trans hx hW.box.lt) hW.rep htz hver
    have ipk := fun W (hW : EvBx w W ty ver t ⟨.int .i64 t.sort, .int .i64 t.num, .string t.text, .slice a3 t.names.length cap3, .slice a4 t.kids.length cap4⟩ w1.heap.size) => implEventPack_any ty ver t (fun x => x < w1.heap.size) _ W (fun x hx => Nat.lt_trans hx hW.box.lt) hW.rep htz hver (unhide HT W hW.below)
    have iwr := fun W (hW : EvBx w W ty ver t ⟨.int .i64 t.sort, .int .i64 t.num, .string t.text, .slice a3 t.names.length cap3, .slice a4 t.kids.length cap4⟩ w1.heap.size) => implEventWrite_any ty ver t (fun x => x < w1.heap.size) _ W (fun x hx => Nat.lt_trans hx hW.box.lt) hW.rep htz hver (unhide HT W hW.below) (unhide HE W hW.below)
    have iok := fun W (hW : EvBx w W ty ver t ⟨.int .i64 t.sort, .int .i64 t.num, .string t.text, .slice a3 t.names.length cap3, .slice a4 t.kids.length cap4⟩ w1.heap.size) => implEventOk_any ty ver t (fun x => x < w1.heap.size) _ W (fun x hx => Nat.lt_trans hx hW.box.lt) hW.rep htz hver (unhide HT W hW.below)
    have swr := fun W (hW : EvBx w W ty ver t ⟨.int .i64 t.sort, .int .i64 t.num, .string t.text, .slice a3 t.names.length cap3, .slice a4 t.kids.length cap4⟩ w1.heap.size) => specEventWrite_any ty ver t (fun x => x < w1.heap.size) _ W (fun x hx => Nat.lt_trans hx hW.box.lt) hW.rep htz hver
    obtain ⟨k0, k1, k2, k3, k4, k5, k6⟩ := heb.cells
    simp only at k0 k1 k2 k3 k4 k5 k6
    have HEB := hide heb; have HW1 := hide hW1
    clear HDW hr1 hb1 heb hW1
    cases hok : evOkB ty ver t with
    | true =>
      simp only [hok] at sok iok
      have hPk : packB ty ver t = eventB ty ver t := by rw [packB, if_pos hok]
      have hU : UpE (packB ty ver t) ty ver t := ⟨hok, hPk.symm⟩
      have hl9 : (packB ty ver t).length ≤ 9000 := by
        obtain ⟨q1, -, -, -, q5⟩ := evOk_open hok
        rw [hPk]; exact eventB_len (nmty_size q1).1 (wlk_ok.1 q5).1
      obtain ⟨hw1, hw2⟩ := evW_size hok
      have hRd : EvR (evW ty ver t).data.toList ty ver t := ⟨hok, hw2.symm⟩
      have iun : ∀ (W : World) (v : Value), ByRow 0 W v (packB ty ver t) → Below w.heap.size w W → Calls Tryz.prog 12 #[v] W fun e w' => ∃ (y0 y1 : Int) (y2 : ByteArray) (ap : Option Addr) (np cp : Nat) (aq : Option Addr) (nq cq : Nat), e = .returned (.tuple #[.agg #[.string ty, .int .i64 ver, .int .i64 y0, .int .i64 y1, .string y2, .slice ap np cp, .slice aq nq cq], .bool true]) ∧ Hid (Rep (fun x => x < w'.heap.size) w' t ⟨.int .i64 y0, .int .i64 y1, .string y2, .slice ap np cp, .slice aq nq cq⟩) ∧ Hid (Below W.heap.size W w') := fun W v hr hW => by
        refine (implEventUnpack_any W v _ hr (by omega) (unhide HT W hW)).mono ?_
        rintro e w' ⟨hb, h | ⟨-, hno⟩⟩
        · obtain ⟨ty', ver', t', ⟨c0, c1, c2, c3, c4⟩, F, rfl, ho, -, hF, hu'⟩ := h
          obtain ⟨rfl, rfl, rfl⟩ := hU.same hu'
          obtain ⟨g0, g1, g2, -, -, -, F1, F2, -, ⟨ap, cp, g3, -⟩, aq, cq, g4, -⟩ := ho.open
          simp only at g0 g1 g2 g3 g4
          subst g0 g1 g2 g3 g4
          exact ⟨_, _, _, _, _, _, _, _, _, rfl, Own.rep _ _ F (fun x hx => (hF x hx).2) ho, hb⟩
        · exact absurd hU (hno ty ver t)
      have ird : ∀ (W : World), Below w.heap.size w W → Calls Tryz.prog 13 #[.string (evW ty ver t)] W fun e w' => ∃ (y0 y1 : Int) (y2 : ByteArray) (ap : Option Addr) (np cp : Nat) (aq : Option Addr) (nq cq : Nat), e = .returned (.tuple #[.agg #[.string ty, .int .i64 ver, .int .i64 y0, .int .i64 y1, .string y2, .slice ap np cp, .slice aq nq cq], .bool true]) ∧ Hid (Rep (fun x => x < w'.heap.size) w' t ⟨.int .i64 y0, .int .i64 y1, .string y2, .slice ap np cp, .slice aq nq cq⟩) ∧ Hid (Below W.heap.size W w') := fun W hW => by
        refine (implEventRead_any W _ (by omega) (unhide HE W hW) (unhide HT W hW)).mono ?_
        rintro e w' ⟨hb, h | ⟨-, hno⟩⟩
        · obtain ⟨ty', ver', t', ⟨c0, c1, c2, c3, c4⟩, F, rfl, ho, -, hF, hu'⟩ := h
          obtain ⟨rfl, rfl, rfl⟩ := hRd.same hu'
          obtain ⟨g0, g1, g2, -, -, -, F1, F2, -, ⟨ap, cp, g3, -⟩, aq, cq, g4, -⟩ := ho.open
          simp only at g0 g1 g2 g3 g4
          subst g0 g1 g2 g3 g4
          exact ⟨_, _, _, _, _, _, _, _, _, rfl, Own.rep _ _ F (fun x hx => (hF x hx).2) ho, hb⟩
        · exact absurd hRd (hno ty ver t)
      have SOK := hide sok; have SPK := hide spk; have IPK := hide ipk; have IWR := hide iwr; have IOK := hide iok; have SWR := hide swr; have IUN := hide iun; have IRD := hide ird
      clear sok spk ipk iwr iok swr iun ird hok hPk hU hw2 hRd HT HE
      generalize packB ty ver t = L at *
      generalize evW ty ver t = S at *
      go_wp2_with fail
      rw [unhide HW1]
      refine (unhide SOK W1 (unhide HEB)).mono ?_
      rintro e w2 ⟨rfl, hb2⟩
      have EB2 := hide ((unhide HEB).on hb2)
      obtain ⟨k0, k1, k2, k3, k4, k5, k6⟩ := (unhide EB2).cells
      simp only at k0 k1 k2 k3 k4 k5 k6
      clear hb2 HEB HW1 SOK
      go_wp2_with fail
      refine (unhide SPK w2 (unhide EB2)).mono ?_
      rintro e w3 ⟨aW, nW, capW, rfl, rfl, hrW, hb3⟩
      have EB3 := hide ((unhide EB2).on hb3)
      obtain ⟨k0, k1, k2, k3, k4, k5, k6⟩ := (unhide EB3).cells
      simp only at k0 k1 k2 k3 k4 k5 k6
      have RW3 := hide hrW
      clear hb3 hrW EB2 SPK
      go_wp2_with fail
      refine (unhide IPK w3 (unhide EB3)).mono ?_
      rintro e w4 ⟨aB, nB, capB, rfl, rfl, hrB, hb4⟩
      have EB4 := hide ((unhide EB3).on hb4)
      obtain ⟨k0, k1, k2, k3, k4, k5, k6⟩ := (unhide EB4).cells
      simp only at k0 k1 k2 k3 k4 k5 k6
      have RW4 := hide ((unhide RW3).stay hb4); have RB4 := hide hrB
      clear hb4 hrB EB3 RW3 IPK
      go_wp2_with fail
      refine (unhide IWR w4 (unhide EB4)).mono ?_
      rintro e w5 ⟨rfl, hb5⟩
      have EB5 := hide ((unhide EB4).on hb5)
      obtain ⟨k0, k1, k2, k3, k4, k5, k6⟩ := (unhide EB5).cells
      simp only at k0 k1 k2 k3 k4 k5 k6
      have hcW := ((unhide RW4).stay hb5).str
      have RB5 := hide ((unhide RB4).stay hb5)
      have hcB := (unhide RB5).str
      clear hb5 EB4 RW4 RB4 IWR
      go_wp2_with fail
      refine (unhide IOK w5 (unhide EB5)).mono ?_
      rintro e w6 ⟨rfl, hb6⟩
      have EB6 := hide ((unhide EB5).on hb6)
      obtain ⟨k0, k1, k2, k3, k4, k5, k6⟩ := (unhide EB6).cells
      simp only at k0 k1 k2 k3 k4 k5 k6
      have RB6 := hide ((unhide RB5).stay hb6)
      clear hb6 EB5 RB5 IOK hcW hcB
      go_wp2_with fail
      refine (unhide SWR w6 (unhide EB6)).mono ?_
      rintro e w7 ⟨rfl, hb7⟩
      have EB7 := hide ((unhide EB6).on hb7)
      obtain ⟨k0, k1, k2, k3, k4, k5, k6⟩ := (unhide EB7).cells
      simp only at k0 k1 k2 k3 k4 k5 k6
      have RB7 := hide ((unhide RB6).stay hb7)
      clear hb7 EB6 RB6 SWR
      have RB0 := hide ((unhide RB7).base (base' := 0) (Nat.zero_le _))
      clear RB7
      go_wp2_with fail
      refine (unhide IUN w7 _ (unhide RB0) (unhide EB7).below).mono ?_
      rintro e w8 ⟨y0, y1, y2, ap, np, cp, aq, nq, cq, rfl, HRX, HBX⟩
      have hbx := HBX.out
      have EB8 := hide ((unhide EB7).on hbx)
      have hxs := EvBx.start (ty := ty) (ver := ver) (unhide EB8).below HRX.out
      have hba := (Below.refl w8.heap.size w8).alloc (Nat.le_refl _) (.cells #[.string ty, .int .i64 ver, .int .i64 y0, .int .i64 y1, .string y2, .slice ap np cp, .slice aq nq cq] 28)
      have EB9 := hide ((unhide EB8).on hba)
      have XB9 := hide hxs
      clear hxs hba hbx HBX HRX EB7 EB8 RB0 IUN k0 k1 k2 k3 k4 k5 k6
      have HC := hide (unhide IRD _ (unhide EB9).below)
      clear IRD
      go_wp2_with fail
      refine (unhide HC).mono ?_
      rintro e w10 ⟨z0, z1, z2, bp, mp, dp, bq, mq, dq, rfl, HRY, HBY⟩
      have EB10 := hide ((unhide EB9).on HBY.out); have XB10 := hide ((unhide XB9).on HBY.out)
      have hba := (Below.refl w10.heap.size w10).alloc (Nat.le_refl _) (.cells #[.string ty, .int .i64 ver, .int .i64 z0, .int .i64 z1, .string z2, .slice bp mp dp, .slice bq mq dq] 28)
      have YB11 := hide (EvBx.start (ty := ty) (ver := ver) (unhide EB10).below HRY.out)
      have EB11 := hide ((unhide EB10).on hba); have XB11 := hide ((unhide XB10).on hba)
      obtain ⟨k0, k1, k2, k3, k4, k5, k6⟩ := (unhide EB10).cells
      obtain ⟨m0, m1, m2, m3, m4, m5, m6⟩ := (unhide XB10).cells
      simp only at k0 k1 k2 k3 k4 k5 k6 m0 m1 m2 m3 m4 m5 m6
      have hl1 := (unhide EB10).box.lt
      have hl2 := (unhide XB10).box.lt
      have HT1 := hide (ttEvent_any ty ver t _ _ _ _ _ (fun x hx => Nat.lt_trans hx (unhide XB11).box.lt) (fun x hx => Nat.lt_trans hx (unhide EB11).box.lt) (unhide XB11).rep (unhide EB11).rep)
      clear HC EB9 XB9 HRY HBY EB10 XB10 hba
      go_wp2_with fail
      refine (unhide HT1).mono ?_
      rintro e w12 ⟨rfl, hb12⟩
      have EB12 := hide ((unhide EB11).on hb12); have YB12 := hide ((unhide YB11).on hb12)
      obtain ⟨k0, k1, k2, k3, k4, k5, k6⟩ := (unhide EB12).cells
      obtain ⟨m0, m1, m2, m3, m4, m5, m6⟩ := (unhide YB12).cells
      simp only at k0 k1 k2 k3 k4 k5 k6 m0 m1 m2 m3 m4 m5 m6
      have HT2 := hide (ttEvent_any ty ver t _ _ _ _ w12 (fun x hx => Nat.lt_trans hx (unhide YB12).box.lt) (fun x hx => Nat.lt_trans hx (unhide EB12).box.lt) (unhide YB12).rep (unhide EB12).rep)
      have z9 : decide ((L.length : Int) ≤ 9000) = true := by simp; omega
      have z9n : decide (L.length ≤ 9000) = true := by simp; omega
      have z10 : decide ((S.size : Int) ≤ 10000) = true := by simp; omega
      have z10n : decide (S.size ≤ 10000) = true := by simp; omega
      clear hb12 HT1 EB11 XB11 YB11 YB12
      go_wp2_with fail
      refine (unhide HT2).mono ?_
      rintro e w13 ⟨rfl, hb13⟩
      have HB13 := hide ((unhide EB12).on hb13).below
      clear hb13 HT2 EB12 k0 k1 k2 k3 k4 k5 k6 m0 m1 m2 m3 m4 m5 m6
      go_wp2_with fail
      go_ret
      exact ⟨rfl, unhide HB13⟩
    | false =>
      simp only [hok] at sok iok
      have hPk : packB ty ver t = [] := by rw [packB, if_neg (by rw [hok]; decide)]
      have hWk : evW ty ver t = ⟨#[]⟩ := by unfold evW; rw [if_neg (by rw [hok]; decide)]
      rw [hPk] at spk ipk
      rw [hWk] at iwr swr
      have SOK := hide sok; have SPK := hide spk; have IPK := hide ipk; have IWR := hide iwr; have IOK := hide iok; have SWR := hide swr
      clear sok spk ipk iwr iok swr hok hPk hWk HT HE
      go_wp2_with fail
      rw [unhide HW1]
      refine (unhide SOK W1 (unhide HEB)).mono ?_
      rintro e w2 ⟨rfl, hb2⟩
      have EB2 := hide ((unhide HEB).on hb2)
      obtain ⟨k0, k1, k2, k3, k4, k5, k6⟩ := (unhide EB2).cells
      simp only at k0 k1 k2 k3 k4 k5 k6
      clear hb2 HEB HW1 SOK
      go_wp2_with fail
      refine (unhide SPK w2 (unhide EB2)).mono ?_
      rintro e w3 ⟨aW, nW, capW, rfl, hnW, hrW, hb3⟩
      obtain rfl : nW = 0 := hnW
      have EB3 := hide ((unhide EB2).on hb3)
      obtain ⟨k0, k1, k2, k3, k4, k5, k6⟩ := (unhide EB3).cells
      simp only at k0 k1 k2 k3 k4 k5 k6
      have RW3 := hide hrW
      clear hb3 hrW EB2 SPK
      go_wp2_with fail
      refine (unhide IPK w3 (unhide EB3)).mono ?_
      rintro e w4 ⟨aB, nB, capB, rfl, hnB, hrB, hb4⟩
      obtain rfl : nB = 0 := hnB
      have EB4 := hide ((unhide EB3).on hb4)
      obtain ⟨k0, k1, k2, k3, k4, k5, k6⟩ := (unhide EB4).cells
      simp only at k0 k1 k2 k3 k4 k5 k6
      have RW4 := hide ((unhide RW3).stay hb4); have RB4 := hide hrB
      clear hb4 hrB EB3 RW3 IPK
      go_wp2_with fail
      refine (unhide IWR w4 (unhide EB4)).mono ?_
      rintro e w5 ⟨rfl, hb5⟩
      have EB5 := hide ((unhide EB4).on hb5)
      obtain ⟨k0, k1, k2, k3, k4, k5, k6⟩ := (unhide EB5).cells
      simp only at k0 k1 k2 k3 k4 k5 k6
      have hcW := ((unhide RW4).stay hb5).str
      have RB5 := hide ((unhide RB4).stay hb5)
      have hcB := (unhide RB5).str
      clear hb5 EB4 RW4 RB4 IWR
      go_wp2_with fail
      refine (unhide IOK w5 (unhide EB5)).mono ?_
      rintro e w6 ⟨rfl, hb6⟩
      have EB6 := hide ((unhide EB5).on hb6)
      obtain ⟨k0, k1, k2, k3, k4, k5, k6⟩ := (unhide EB6).cells
      simp only at k0 k1 k2 k3 k4 k5 k6
      have RB6 := hide ((unhide RB5).stay hb6)
      clear hb6 EB5 RB5 IOK hcW hcB
      go_wp2_with fail
      refine (unhide SWR w6 (unhide EB6)).mono ?_
      rintro e w7 ⟨rfl, hb7⟩
      have EB7 := hide ((unhide EB6).on hb7)
      obtain ⟨k0, k1, k2, k3, k4, k5, k6⟩ := (unhide EB7).cells
      simp only at k0 k1 k2 k3 k4 k5 k6
      have RB7 := hide ((unhide RB6).stay hb7)
      clear hb7 EB6 RB6 SWR
      go_wp2_with fail
      go_ret
      exact ⟨rfl, (unhide EB7).below⟩
  · have hd : decide ((1048576 : Int) < (l.length : Int)) = true := by simp; omega
    go_enter Tryz.func3, Tryz.ntmps3
    go_wp2_with fail
    go_ret
    exact ⟨rfl, Below.refl _ _⟩
end Go.Proofs.YtbkagahmiibclaaGreatDoor

/- What is read of a row of bytes that comes in is one that lies in memory. No conditions. -/

namespace Go.Proofs.YtbkagahmiibclaaGreatDoor
open Go Go.RowKit Go.ChangeShapes Go.WideShapes Go.ChangeAt

theorem cellsU8 : Tryz.prog.cellsOf 5 = 1 := by kernel_rfl

section
variable {H : Type} {enc : TypeId × Value → H} {W : World} {spare : Nat → Bool} {held : Bool}

theorem bytes_cap {fuel : Nat} {a : Option Addr} {len cap : Nat} {x : DataW H × List MemPlace} (h : DataW.trod enc Tryz.prog W 0 spare held fuel 22 [.slice a len cap] = some x) : len ≤ cap := by
  rcases open_ints Tryz.underlying22 Tryz.underlying5 cellsU8 h with ⟨hcs, -⟩ | ⟨a', len', cap', zs, hcs, -, hl, -⟩
  · simp only [List.cons.injEq, Value.slice.injEq, and_true] at hcs
    omega
  · simp only [List.cons.injEq, Value.slice.injEq, and_true] at hcs
    omega
theorem bytes_of_trod {fuel : Nat} {v : Value} {x : DataW H × List MemPlace} (h : DataW.trod enc Tryz.prog W 0 spare held fuel 22 [v] = some x) :
    ∃ l, BytesAt W v l := by
  rcases open_ints Tryz.underlying22 Tryz.underlying5 cellsU8 h with ⟨hcs, -⟩ | ⟨a, len, cap, zs, hcs, -, hl, hm, hz, -, hcell, hws⟩
  · simp only [List.cons.injEq, and_true] at hcs
    exact ⟨[], none, 0, hcs, by simp, fun i hi => by simp at hi⟩
  · simp only [List.cons.injEq, and_true] at hcs
    have hle : len ≤ zs.length := by rw [hz]; split <;> omega
    unfold maxLen at hm
    have hlen : ((zs.take len).map (fun z => UInt8.ofNat z.toNat)).length = len := by simp; omega
    refine ⟨(zs.take len).map (fun z => UInt8.ofNat z.toNat), some a, cap, by rw [hcs, hlen], by rw [hlen]; omega, fun i hi => ?_⟩
    have hi' : i < len := by rw [hlen] at hi; exact hi
    obtain ⟨b, off, spot⟩ := a
    have hspot : spot = none := by simpa [Addr.add] using World.cell?_spot (hcell 0 (by omega))
    subst hspot
    have hc := hcell i (by omega)
    rw [Addr.add_lit] at hc
    refine ⟨b, off, rfl, World.block_lt_of_cell? W _ hc, ?_⟩
    have hb := bounds_u8 (hws (zs[i]'(by omega)) (List.getElem_mem (by omega)))
    rw [hc]
    have e1 : zs.getD i 0 = zs[i]'(by omega) := by simp [show i < zs.length by omega]
    have e2 : (((zs.take len).map (fun z => UInt8.ofNat z.toNat))[i]'hi) = UInt8.ofNat (zs[i]'(by omega)).toNat := by simp
    rw [e1, e2, show (UInt8.ofNat (zs[i]'(by omega)).toNat).toNat = (zs[i]'(by omega)).toNat from by simp; omega, show (((zs[i]'(by omega)).toNat : Nat) : Int) = zs[i]'(by omega) from by omega]
end
end Go.Proofs.YtbkagahmiibclaaGreatDoor
