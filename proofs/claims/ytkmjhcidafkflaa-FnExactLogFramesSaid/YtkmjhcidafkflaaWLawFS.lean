/- The walk of the law on LogFrames: whatever bytes come in, it answers true, and turns nothing that was there. No conditions. -/
import Derived.Test.YtkmjhcidafkflaaWFrI
import Derived.Test.YtkmjhcidafkflaaWFrS
import Derived.Test.YtkmjhcidafkflaaWRcLaw
namespace Go.Proofs.Ytkmjhcidafkflaa
open Go Go.RowKit

theorem frs_len (s : ByteArray) : ∀ (n i : Nat), s.size - i ≤ n → i ≤ s.size → (frs s i).1.length * 5 + i ≤ s.size
  | 0, i, hn, hi => by
    have hw : ¬ whB s i := fun h => by have := h.1; omega
    rw [frs_no hw]; simp; omega
  | n + 1, i, hn, hi => by
    by_cases hw : whB s i
    · rw [frs_yes hw]
      have h0 := szB_nn s i
      have h1 := hw.2.2.2
      have := frs_len s n (i + 5 + (szB s i).toNat) (by omega) (by omega)
      simp only [List.length_cons]; omega
    · rw [frs_no hw]; simp; omega

/-- What the law holds behind both calls: both answers, each in blocks of its own. -/
structure LSt (w wr : World) (N N' : List Rc) (vW vG : Value) (FW FG : List Nat) : Prop where
  below : Below w.heap.size w wr
  oW : RcsOwn wr vW N FW
  oG : RcsOwn wr vG N' FG
  lW : ∀ b, b ∈ FW → b < wr.heap.size ∧ b ∉ FG
  lG : ∀ b, b ∈ FG → w.heap.size ≤ b ∧ b < wr.heap.size
theorem LSt.on {w wr w' : World} {N N' : List Rc} {vW vG : Value} {FW FG : List Nat} (h : LSt w wr N N' vW vG FW FG) (hb : Below wr.heap.size wr w') : LSt w w' N N' vW vG FW FG := by
  have hs := hb.size
  exact ⟨h.below.trans (hb.mono h.below.size), h.oW.carry (fun b hm => hb.block b (h.lW b hm).1), h.oG.carry (fun b hm => hb.block b (h.lG b hm).2), fun b hm => ⟨by have := (h.lW b hm).1; omega, (h.lW b hm).2⟩, fun b hm => ⟨(h.lG b hm).1, by have := (h.lG b hm).2; omega⟩⟩
theorem LSt.eq {w wr : World} {N : List Rc} {vW vG : Value} {FW FG : List Nat} (h : LSt w wr N N vW vG FW FG) :
    Calls Try.prog 11 #[vG, vW] wr fun e w' => e = .returned (.bool true) ∧ LSt w w' N N vW vG FW FG :=
  (eqLogRecordS_any vG vW N wr (fun b hb => (h.lG b hb).2) (fun b hb => (h.lW b hb).1) h.oG.at h.oW.at).mono fun _ _ ⟨h1, h2⟩ => ⟨h1, h.on h2⟩
theorem LSt.mark {w wr : World} {N N' : List Rc} {vW vG : Value} {FW FG : List Nat} (h : LSt w wr N N' vW vG FW FG) (hl : N'.length ≤ 300000) :
    Calls Try.prog 12 #[vG, .int .i64 1] wr fun e w' => e = .returned (.int .i64 (1 + 2 * N'.length : Nat)) ∧ LSt w w' N (mRs 1 N'.length) vW vG FW FG :=
  (markLogRecordS_own vG N' FG 1 wr h.oG (by omega) (by omega)).mono fun _ _ ⟨h1, h2, h3⟩ => by
    have hs := h3.size
    refine ⟨h1, h.below.trans (h3.below h.below.size (fun b hm => by have := (h.lG b hm).1; omega)), h.oW.carry (fun b hm => h3.block b (h.lW b hm).1 (h.lW b hm).2), h2, fun b hm => ⟨by have := (h.lW b hm).1; omega, (h.lW b hm).2⟩, fun b hm => ⟨(h.lG b hm).1, by have := (h.lG b hm).2; omega⟩⟩
theorem LSt.held {w wr : World} {N : List Rc} {n : Nat} {vW vG : Value} {FW FG : List Nat} (h : LSt w wr N (mRs 1 n) vW vG FW FG) (hl : n ≤ 300000) :
    Calls Try.prog 13 #[vG, .int .i64 1] wr fun e w' => e = .returned (.int .i64 (1 + 2 * n : Nat)) ∧ LSt w w' N (mRs 1 n) vW vG FW FG :=
  (heldLogRecordS_any vG n 1 wr h.oG.at (fun b hb => (h.lG b hb).2) (by omega) (by omega)).mono fun _ _ ⟨h1, h2⟩ => ⟨h1, h.on h2⟩

set_option maxRecDepth 100000 in
set_option maxHeartbeats 3200000 in
theorem lawLogFrames_any (s : ByteArray) (hx : s.size ≤ 9223372036854775807) (w : World) :
    Calls Try.prog 4 #[.string s] w fun e w' => e = .returned (.bool true) ∧ Below w.heap.size w w' := by
  go_enter Try.func4, Try.ntmps4
  by_cases hs : s.size ≤ 1048576
  case neg =>
    go_wp2_with fail
    go_ret
    exact ⟨rfl, Below.refl _ _⟩
  have HSP := hide (specLogFrames_any s hs w)
  have HIM := hide (fun W => implLogFrames_any s hs W)
  have hlen : (frs s 0).1.length ≤ 300000 := by have := frs_len s s.size 0 (by omega) (Nat.zero_le _); omega
  go_wp2_with fail
  refine (unhide HSP).mono ?_
  rintro e w1 ⟨vW, FW, rfl, hoW, hlW, hb1⟩
  have hs1 := hb1.size
  unfold FrEnd at HIM
  generalize (frs s 0).1 = N at *
  generalize (frs s 0).2 = M at *
  have HOW := hide hoW; have HLW := hide hlW; have HB1 := hide hb1
  clear hoW hlW hb1 HSP
  go_wp2_with fail
  refine (unhide HIM _).mono ?_
  rintro e w2 ⟨vG, FG, rfl, hoG, hlG, hb2⟩
  have hs2 := hb2.size
  have hst : LSt w w2 N N vW vG FW FG := ⟨(unhide HB1).trans (hb2.mono hs1), (unhide HOW).carry (fun b hm => hb2.block b (unhide HLW b hm).2), hoG, fun b hm => ⟨by have := (unhide HLW b hm).2; omega, fun hm2 => by have := (unhide HLW b hm).2; have := (hlG b hm2).1; omega⟩, fun b hm => ⟨by have := (hlG b hm).1; omega, (hlG b hm).2⟩⟩
  have HST := hide hst
  clear hst hoG hlG hb2 HOW HLW HB1
  go_wp2_with fail
  refine (unhide HST).eq.mono ?_
  rintro e w3 ⟨rfl, hst3⟩
  have HST3 := hide hst3
  clear hst3 HST
  go_wp2_with fail
  refine ((unhide HST3).mark hlen).mono ?_
  rintro e w4 ⟨rfl, hst4⟩
  have HHT := hide (hst4.held hlen)
  clear HST3 hst4
  generalize hmt : 1 + 2 * N.length = mt at *
  have hmt1 : 1 ≤ mt := by omega
  have hmt2 : mt ≤ 600001 := by omega
  have HME := hide hmt
  clear hmt
  go_wp2_with fail
  refine (unhide HHT).mono ?_
  rintro e w5 ⟨rfl, hst5⟩
  have HST5 := hide hst5
  clear HHT hst5
  go_wp2_with fail
  refine (unhide HIM _).mono ?_
  rintro e w6 ⟨vH, FH, rfl, hoH, hlH, hb6⟩
  have hst6 := (unhide HST5).on hb6
  have HEQ := hide (eqLogRecordS_any vH vW N w6 (fun b hb => (hlH b hb).2) (fun b hb => (hst6.lW b hb).1) hoH.at hst6.oW.at)
  have HST6 := hide hst6
  clear hoH hlH hb6 hst6 HST5 HIM
  go_wp2_with fail
  refine (unhide HEQ).mono ?_
  rintro e w7 ⟨rfl, hb7⟩
  have hht := ((unhide HST6).on hb7).held hlen
  rw [unhide HME] at hht
  have HHT := hide hht
  clear hb7 HEQ HST6 hht
  go_wp2_with fail
  refine (unhide HHT).mono ?_
  rintro e w8 ⟨rfl, hst8⟩
  have HB := hide hst8.below
  clear hst8 HHT
  go_wp2_with fail
  go_ret
  exact ⟨rfl, unhide HB⟩
end Go.Proofs.Ytkmjhcidafkflaa
