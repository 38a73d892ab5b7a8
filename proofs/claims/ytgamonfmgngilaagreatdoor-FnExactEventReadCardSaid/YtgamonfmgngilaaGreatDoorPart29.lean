/- The walk of the specification's EventWrite: the text of an event that is ok, else nothing. No conditions. -/
import Derived.Test.YtgamonfmgngilaaGreatDoorPart19
import Derived.Test.YtgamonfmgngilaaGreatDoorPart28
import Derived.Test.YtgamonfmgngilaaGreatDoorPart14
import Derived.Deep.RegionHeld3
import Derived.Test.YtgamonfmgngilaaGreatDoorPart02
import Derived.Test.YtgamonfmgngilaaGreatDoorPart08
namespace Go.Proofs.YtgamonfmgngilaaGreatDoor
open Go Go.RowKit

theorem evT_bytes (ty : ByteArray) (v : Int) (t : Tr) : ((ty ++ (⟨#[64]⟩ : ByteArray)) ++ (⟨(Lib.itoa v).toArray⟩ : ByteArray)) ++ (⟨(txT t).toArray⟩ : ByteArray) = ⟨(evT ty v t).toArray⟩ := by
  apply ByteArray.ext
  unfold evT
  simp

/-- What EventWrite comes to. -/
def evW (ty : ByteArray) (v : Int) (t : Tr) : ByteArray := if evOkB ty v t = true then ⟨(evT ty v t).toArray⟩ else ⟨#[]⟩

/-- What the walk's worlds hold: the box of the event. -/
structure EwAt (w : World) (f : Nat → Value) (W : World) : Prop where
  below : Below w.heap.size w W
  box : W.rowIs w.heap.size 37 7 f
theorem EwAt.on {w W W' : World} {f : Nat → Value} (h : EwAt w f W) (hb : Below W.heap.size W W') : EwAt w f W' := ⟨h.below.trans (hb.mono h.below.size), h.box.of_block (hb.block _ h.box.lt)⟩
theorem EwAt.drew {w W : World} {f : Nat → Value} (h : EwAt w f W) : EwAt w f W.drew := h.on (Below.refl _ _).drew

theorem EwAt.cells {w W : World} {a b c0 c1 c2 c3 c4 : Value} (h : EwAt w (row7 a b c0 c1 c2 c3 c4) W) : W.cell? ⟨w.heap.size, 0, none⟩ = some a ∧ W.cell? ⟨w.heap.size, 1, none⟩ = some b ∧ W.cell? ⟨w.heap.size, 2, none⟩ = some c0 ∧ W.cell? ⟨w.heap.size, 3, none⟩ = some c1 ∧ W.cell? ⟨w.heap.size, 4, none⟩ = some c2 ∧ W.cell? ⟨w.heap.size, 5, none⟩ = some c3 ∧ W.cell? ⟨w.heap.size, 6, none⟩ = some c4 :=
  ⟨h.box.cell (i := 0) (by omega), h.box.cell (i := 1) (by omega), h.box.cell (i := 2) (by omega), h.box.cell (i := 3) (by omega), h.box.cell (i := 4) (by omega), h.box.cell (i := 5) (by omega), h.box.cell (i := 6) (by omega)⟩
theorem addW (t : TypeId) (a b : ByteArray) (h : a.size + b.size ≤ 9223372036854775807) : binOp .add t (.string a) (.string b) = pure (.string (a ++ b)) := by
  have h2 : ¬ (((a.size + b.size : Nat) : Int) > IntKind.i64.max) := by
    rw [show IntKind.i64.max = 9223372036854775807 from rfl]; omega
  simp only [binOp, Op.stringOp]
  rw [if_neg h2]

set_option maxRecDepth 100000 in
set_option maxHeartbeats 6400000 in
theorem specEventWrite_any (ty : ByteArray) (ver : Int) (t : Tr) (P : Nat → Prop) (c : C5) (w : World) (hP : ∀ b, P b → b < w.heap.size) (hrep : Rep P w t c) (hty : ty.size ≤ 9223372036854775807) (hver : I64 ver) :
    Calls Tryz.prog 39 #[.agg #[.string ty, .int .i64 ver, c.c0, c.c1, c.c2, c.c3, c.c4]] w fun e w' => e = .returned (.string (evW ty ver t)) ∧ Below w.heap.size w w' := by
  obtain ⟨c0, c1, c2, c3, c4⟩ := c
  obtain ⟨W0, hW0⟩ : ∃ W0, w.alloc (.cells #[.string ty, .int .i64 ver, c0, c1, c2, c3, c4] 37) = W0 := ⟨_, rfl⟩
  have hst : EwAt w (row7 (.string ty) (.int .i64 ver) c0 c1 c2 c3 c4) W0 := by
    rw [← hW0]
    exact ⟨(Below.refl _ _).alloc (Nat.le_refl _) _, row7_alloc w _ _ _ _ _ _ _ _⟩
  have hok := specEventOk_any ty ver t P ⟨c0, c1, c2, c3, c4⟩ W0 (fun b hb => Nat.lt_of_lt_of_le (hP b hb) hst.below.size) (Rep.carry (fun b hb => hst.below.block b (hP b hb)) (fun _ h => h) _ _ hrep) hty hver
  have x0 := hst.box.cell (i := 0) (by omega); have x1 := hst.box.cell (i := 1) (by omega); have x2 := hst.box.cell (i := 2) (by omega); have x3 := hst.box.cell (i := 3) (by omega); have x4 := hst.box.cell (i := 4) (by omega); have x5 := hst.box.cell (i := 5) (by omega); have x6 := hst.box.cell (i := 6) (by omega)
  simp only [row7] at x0 x1 x2 x3 x4 x5 x6
  have hW : evW ty ver t = if evOkB ty ver t = true then ⟨(evT ty ver t).toArray⟩ else ⟨#[]⟩ := rfl
  cases hb : evOkB ty ver t with
  | false =>
    rw [hb] at hok hW
    rw [if_neg (by decide)] at hW
    have HOK := hide hok; have HST := hide hst; have HW := hide hW
    clear hok hst hrep hP hb hW
    go_enter Tryz.func39, Tryz.ntmps39
    go_wp2_with (go_at_call 71; refine (unhide HOK).mono ?_; rintro e w1 ⟨rfl, hb1⟩)
    go_ret
    exact ⟨by rw [unhide HW]; rfl, ((unhide HST).on hb1).below⟩
  | true =>
    rw [hb] at hok hW
    rw [if_pos rfl] at hW
    obtain ⟨k1, k2, k3, k4, k5⟩ := evOk_open hb
    have hs1 := (name_size k1).1
    have hs2 := itoa_short (n := ver) ⟨by omega, by omega⟩
    have hs3 := txT_small k5
    have hokt := okT_of_wlk _ _ _ _ k5
    have hdec : ∀ W, EwAt w (row7 (.string ty) (.int .i64 ver) c0 c1 c2 c3 c4) W → Calls Tryz.prog 51 #[.int .i64 ver] W fun e w' => e = .returned (.string ⟨(Lib.itoa ver).toArray⟩) ∧ Hid (EwAt w (row7 (.string ty) (.int .i64 ver) c0 c1 c2 c3 c4) w') ∧ w'.cell? ⟨w.heap.size, 0, none⟩ = some (.string ty) ∧ w'.cell? ⟨w.heap.size, 1, none⟩ = some (.int .i64 ver) ∧ w'.cell? ⟨w.heap.size, 2, none⟩ = some c0 ∧ w'.cell? ⟨w.heap.size, 3, none⟩ = some c1 ∧ w'.cell? ⟨w.heap.size, 4, none⟩ = some c2 ∧ w'.cell? ⟨w.heap.size, 5, none⟩ = some c3 ∧ w'.cell? ⟨w.heap.size, 6, none⟩ = some c4 := fun W hW => (l6Dec_any ver W (by omega) (by omega)).mono fun e w' ⟨h1, h2⟩ => ⟨h1, hide (hW.on h2), (hW.on h2).cells⟩
    have htx : ∀ W, EwAt w (row7 (.string ty) (.int .i64 ver) c0 c1 c2 c3 c4) W → Calls Tryz.prog 23 #[.agg #[c0, c1, c2, c3, c4]] W fun e w' => e = .returned (.string ⟨(txT t).toArray⟩) ∧ Hid (EwAt w (row7 (.string ty) (.int .i64 ver) c0 c1 c2 c3 c4) w') ∧ w'.cell? ⟨w.heap.size, 0, none⟩ = some (.string ty) ∧ w'.cell? ⟨w.heap.size, 1, none⟩ = some (.int .i64 ver) ∧ w'.cell? ⟨w.heap.size, 2, none⟩ = some c0 ∧ w'.cell? ⟨w.heap.size, 3, none⟩ = some c1 ∧ w'.cell? ⟨w.heap.size, 4, none⟩ = some c2 ∧ w'.cell? ⟨w.heap.size, 5, none⟩ = some c3 ∧ w'.cell? ⟨w.heap.size, 6, none⟩ = some c4 := fun W hW => (l1Text_any t P ⟨c0, c1, c2, c3, c4⟩ W (fun b hb => Nat.lt_of_lt_of_le (hP b hb) hW.below.size) (Rep.carry (fun b hb => hW.below.block b (hP b hb)) (fun _ h => h) _ _ hrep) hokt (by omega)).mono fun e w' ⟨h1, h2⟩ => ⟨h1, hide (hW.on h2), (hW.on h2).cells⟩
    have hbytes := evT_bytes ty ver t
    have HOK := hide hok; have HST := hide hst; have HW := hide hW; have HDEC := hide hdec; have HTX := hide htx; have HBY := hide hbytes
    clear hok hst hrep hP hb hW hdec htx hokt k1 k4 k5 hbytes
    generalize evT ty ver t = X at *
    generalize Lib.itoa ver = dd at *
    generalize txT t = tt at *
    have z1 : (⟨dd.toArray⟩ : ByteArray).size = dd.length := by simp [ByteArray.size]
    have z2 : (⟨tt.toArray⟩ : ByteArray).size = tt.length := by simp [ByteArray.size]
    have z3 : (⟨#[64]⟩ : ByteArray).size = 1 := rfl
    have hA1 : ∀ T, binOp .add T (.string ty) (.string ⟨#[64]⟩) = pure (.string (ty ++ ⟨#[64]⟩)) := fun T => addW T _ _ (by (repeat rw [ByteArray.size_append]); omega)
    have hA2 : ∀ T, binOp .add T (.string (ty ++ ⟨#[64]⟩)) (.string ⟨dd.toArray⟩) = pure (.string ((ty ++ ⟨#[64]⟩) ++ ⟨dd.toArray⟩)) := fun T => addW T _ _ (by (repeat rw [ByteArray.size_append]); omega)
    have hA3 : ∀ T, binOp .add T (.string ((ty ++ ⟨#[64]⟩) ++ ⟨dd.toArray⟩)) (.string ⟨tt.toArray⟩) = pure (.string (((ty ++ ⟨#[64]⟩) ++ ⟨dd.toArray⟩) ++ ⟨tt.toArray⟩)) := fun T => addW T _ _ (by (repeat rw [ByteArray.size_append]); omega)
    clear z1 z2 z3
    go_enter Tryz.func39, Tryz.ntmps39
    go_wp2_with (go_at_call 71; refine (unhide HOK).mono ?_; rintro e w1 ⟨rfl, hb1⟩; have hst1 := (unhide HST).on hb1; have HST1 := hide hst1; have HST1D := hide hst1.drew; have y0 := hst1.box.cell (i := 0) (by omega); have y1 := hst1.box.cell (i := 1) (by omega); have y2 := hst1.box.cell (i := 2) (by omega); have y3 := hst1.box.cell (i := 3) (by omega); have y4 := hst1.box.cell (i := 4) (by omega); have y5 := hst1.box.cell (i := 5) (by omega); have y6 := hst1.box.cell (i := 6) (by omega); simp only [row7] at y0 y1 y2 y3 y4 y5 y6; clear hst1 hb1 HST HOK)
    go_region_held3 (fun W => W.cell? ⟨w.heap.size, 0, none⟩ = some (.string ty) ∧ W.cell? ⟨w.heap.size, 1, none⟩ = some (.int .i64 ver) ∧ W.cell? ⟨w.heap.size, 2, none⟩ = some c0 ∧ W.cell? ⟨w.heap.size, 3, none⟩ = some c1 ∧ W.cell? ⟨w.heap.size, 4, none⟩ = some c2 ∧ W.cell? ⟨w.heap.size, 5, none⟩ = some c3 ∧ W.cell? ⟨w.heap.size, 6, none⟩ = some c4) (first | exact ⟨v0, v1, v2, v3, v4, v5, v6⟩ | exact ⟨z0, z1, z2, z3, z4, z5, z6⟩ | go_keep)
      (first
        | (go_at_call 51; refine (unhide HDEC _ (by first | exact unhide HST1D | exact unhide HST1 | exact unhide HSTB | exact (unhide HSTB).drew)).mono ?_; rintro e w2 ⟨rfl, HSTA, z0, z1, z2, z3, z4, z5, z6⟩)
        | (go_at_call 23; refine (unhide HTX _ (by first | exact unhide HST1D | exact unhide HST1 | exact unhide HSTA | exact (unhide HSTA).drew)).mono ?_; rintro e w3 ⟨rfl, HSTB, v0, v1, v2, v3, v4, v5, v6⟩))
    all_goals
      go_wp2_with fail
      go_ret
      refine ⟨ret_str ?_, ?_⟩
      · rw [unhide HW]; exact unhide HBY
      · first | exact (unhide HSTB).below | exact (unhide HSTA).below
end Go.Proofs.YtgamonfmgngilaaGreatDoor

/- The walk of the specification's reader, further: text. For texts of at most 2^20 bytes. -/

namespace Go.Proofs.YtgamonfmgngilaaGreatDoor
open Go Go.RowKit


def nqt (c : UInt8) : Bool := c != 34
def q34 : ByteArray := ⟨#[34]⟩

set_option maxRecDepth 100000 in
set_option maxHeartbeats 800000 in
theorem text_run_any (w : World) (R : Nat) (s : ByteArray) (at' : Nat) (hs : s.size ≤ 1048576) (h : Rdr w R s at' false) (ha : at' < s.size) (h34 : s[at'].toNat = 34) :
    Calls Tryz.prog 69 #[.pointer (some ⟨R, 0, none⟩)] w fun e w' => e = .returned (.string ⟨((lf s (at' + 1)).takeWhile nqt).toArray⟩) ∧ But R w w' ∧
      (pre q34 s (at' + 1 + rn nqt s (at' + 1)) = true → Rdr w' R s (at' + 1 + rn nqt s (at' + 1) + 1) false) ∧ (pre q34 s (at' + 1 + rn nqt s (at' + 1)) = false → Rdr w' R s (at' + 1 + rn nqt s (at' + 1)) true) := by
  have H := hide h
  have hp : pre q34 s at' = true := by
    unfold pre
    rw [lf_cons ha, show s[at'] = 34 from UInt8.toNat_inj.1 h34]
    rfl
  have HEAT : Hid (Calls Tryz.prog 37 #[.pointer (some ⟨R, 0, none⟩), .string q34] w fun e w' => e = .returned (.tuple #[]) ∧ Rdr w' R s (at' + 1) false ∧ But R w w') := hide (eat_yes w R s q34 at' false hs h (by omega) (by decide) (by decide) hp)
  have hle := rn_le nqt s (at' + 1) (by omega)
  rw [← rn_take]
  generalize hb0 : at' + 1 = b0 at *
  have hle0 : b0 ≤ b0 + rn nqt s b0 := by omega
  generalize hen : b0 + rn nqt s b0 = en at *
  have HR := hide hen
  have hi0 : (0 : Int) ≤ (b0 : Int) := by omega
  have hi1 : (b0 : Int) ≤ (en : Int) := by omega
  have hi2 : (en : Int) ≤ (s.size : Int) := by omega
  clear h hp hen hb0 h34 ha
  go_enter Tryz.func69, Tryz.ntmps69
  go_wp2_with (go_at_call 37; refine (unhide HEAT).mono ?_; rintro e w1 ⟨rfl, hr1, hb1⟩; have HR1 := hide hr1; have HB1 := hide hb1; obtain ⟨c0, c1, c2, f1, f2⟩ := hr1.cells; clear hr1 hb1)
  go_loopw [] (fun wr => ∃ (j : Nat), b0 ≤ j ∧ j ≤ s.size ∧ Hid (j + rn nqt s j = en) ∧ Hid (Rdr wr R s j false) ∧ But R w wr) (fun wr => s.size - atOf wr R)
  case atStart => exact ⟨b0, Nat.le_refl _, by omega, HR, HR1, HB1⟩
  case round =>
    obtain ⟨j, hj0, hj1, HJ, HRj, hb⟩ := hrel
    obtain ⟨y0, y1, y2, g1, g2⟩ := HRj.out.cells
    have hat := HRj.out.atOf
    clear c0 c1 c2 f1 f2 HR1 HB1 HEAT HR H
    by_cases hlt : j < s.size
    · have hd : decide ((j : Int) < (s.size : Int)) = true := by simp; omega
      by_cases hq : s[j].toNat = 34
      · have hst := rn_stop (p := nqt) hlt (by unfold nqt; rw [show s[j] = 34 from UInt8.toNat_inj.1 hq]; rfl)
        obtain rfl : en = j := by have := HJ.out; omega
        have hpr : pre q34 s en = true := by
          unfold pre
          rw [lf_cons hlt, show s[en] = 34 from UInt8.toNat_inj.1 hq]
          rfl
        have hb34 : ((s[en].toNat : Int) == 34) = true := by simp; omega
        have HPR := hide hpr; have HQ := hide hq
        clear hst hpr hq
        go_wp2_with fail
        go_quiet (fail)
        go_wp2_with fail
        refine (eat_yes _ R s q34 (en) false hs (HRj.out.heap (by rfl)) (by omega) (by decide) (by decide) HPR.out).mono ?_
        rintro e w2 ⟨rfl, hr2, hb2⟩
        have HR2 := hide hr2; have HB2 := hide hb2
        obtain ⟨z0, z1, z2, -, -⟩ := hr2.cells
        clear hr2 hb2
        go_wp2_with fail
        go_ret
        exact ⟨rfl, (but_drewN hb _).trans HB2.out, fun _ => HR2.out, fun h => by rw [HPR.out] at h; cases h⟩
      · have hst := rn_step (p := nqt) hlt (by unfold nqt; rw [bne_iff_ne]; intro e; apply hq; rw [e]; rfl)
        have HJ2 : Hid (j + 1 + rn nqt s (j + 1) = en) := by have := HJ.out; show _ = _; omega
        have hb34 : ((s[j].toNat : Int) == 34) = false := by simp; omega
        clear hst hq
        go_wp2_with fail
        go_quiet (fail)
        go_wp2_with fail
        go_roundw
        case rel => exact ⟨j + 1, by omega, by omega, HJ2, hide ((HRj.out.heap rfl).set1 _), (but_drewN hb _).trans (But.set _ _ _)⟩
        case measure => rw [hat]; exact Rdr.meas ((HRj.out.heap rfl).set1 (j + 1)) (by omega) (by omega)
    · have hst := rn_end (p := nqt) (s := s) (i := j) (by omega)
      obtain rfl : en = j := by have := HJ.out; omega
      have hpr : pre q34 s en = false := by
        unfold pre
        rw [lf_nil (by omega)]
        rfl
      have hd : decide ((en : Int) < (s.size : Int)) = false := by simp; omega
      have HPR := hide hpr
      clear hst hpr
      go_wp2_with fail
      go_quiet (fail)
      go_wp2_with fail
      refine (eat_no _ R s q34 (en) false hs (HRj.out.heap (by rfl)) (by omega) (by decide) (by decide) HPR.out).mono ?_
      rintro e w2 ⟨rfl, hr2, hb2⟩
      have HR2 := hide hr2; have HB2 := hide hb2
      obtain ⟨z0, z1, z2, -, -⟩ := hr2.cells
      clear hr2 hb2
      go_wp2_with fail
      go_ret
      exact ⟨rfl, (but_drewN hb _).trans HB2.out, (fun h => by rw [HPR.out] at h; cases h), fun _ => HR2.out⟩
end Go.Proofs.YtgamonfmgngilaaGreatDoor
