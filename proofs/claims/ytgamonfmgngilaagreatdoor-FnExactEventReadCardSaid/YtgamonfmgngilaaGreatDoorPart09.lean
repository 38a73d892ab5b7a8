/- The walk of the program's reader of numbers: what it answers, or that it raises a fault. The tables of strconv are as the program's text lays them; for texts of at most 2^20 bytes. -/
import Derived.Test.YtgamonfmgngilaaGreatDoorPart06
import Derived.Test.YtgamonfmgngilaaGreatDoorPart08
import Derived.Lib.AtoiErrMem
import Derived.Sort.Grow
import Derived.Test.YtgamonfmgngilaaGreatDoorRows
import Derived.Test.YtgamonfmgngilaaGreatDoorPart00
import Derived.Deep.RegionWith
import Derived.Deep.QuietTactic
import Derived.BigQuiet
import Derived.WalkSmall
namespace Go.Proofs.YtgamonfmgngilaaGreatDoor
open Go Go.RowKit

/-- The first block behind the variables that are read. -/
def gTop : Nat := max (max 1 2) 3 + 1
theorem gTop_syn : 1 < gTop := by decide
theorem gTop_rng : 2 < gTop := by decide
theorem gTop_pow : 3 < gTop := by decide
theorem gPow : Tryz.prog.globalNamed "internal/strconv.uint64pow10" = some 3 := by kernel_rfl

/-- What strconv reads: its table of powers, and its two errors, whatever they are. -/
structure Env (w : World) : Prop where
  pow : Lib.TabIs Tryz.prog w "internal/strconv.uint64pow10" .u64 Lib.pow10Tab
  syn : ∃ ev, w.cell? ⟨1, 0, none⟩ = some ev ∧ (ev = .nilIface ∨ ∃ te pe, ev = .iface te pe)
  rng : ∃ ev, w.cell? ⟨2, 0, none⟩ = some ev ∧ (ev = .nilIface ∨ ∃ te pe, ev = .iface te pe)
theorem Env.keep {w w' : World} (h : Env w) (hb : ∀ b, b < gTop → w'.heap[b]? = w.heap[b]?) : Env w' := by
  refine ⟨?_, ?_, ?_⟩
  · have hp := h.pow
    unfold Lib.TabIs World.var? at hp ⊢
    rw [gPow] at hp ⊢
    simp only [Option.bind_some] at hp ⊢
    rw [hb _ gTop_pow]
    exact hp
  · obtain ⟨ev, h1, h2⟩ := h.syn
    exact ⟨ev, by rw [World.cell?_of_block (w := w) (hb _ gTop_syn)]; exact h1, h2⟩
  · obtain ⟨ev, h1, h2⟩ := h.rng
    exact ⟨ev, by rw [World.cell?_of_block (w := w) (hb _ gTop_rng)]; exact h1, h2⟩
theorem Env.top {w : World} (h : Env w) : gTop ≤ w.heap.size := by
  obtain ⟨e1, h1, -⟩ := h.syn
  obtain ⟨e2, h2, -⟩ := h.rng
  have h3 : 3 < w.heap.size := by
    have hp := h.pow
    unfold Lib.TabIs World.var? at hp
    rw [gPow] at hp
    simp only [Option.bind_some] at hp
    rcases Nat.lt_or_ge 3 w.heap.size with h' | h'
    · exact h'
    · rw [Array.getElem?_eq_none h'] at hp; cases hp
  have h1 := World.block_lt_of_cell? w _ h1
  have h2 := World.block_lt_of_cell? w _ h2
  exact Nat.succ_le_of_lt (Nat.max_lt.2 ⟨Nat.max_lt.2 ⟨h1, h2⟩, h3⟩)
theorem Env.below {w w' : World} (h : Env w) (hb : Below w.heap.size w w') : Env w' := h.keep fun b hl => hb.block b (Nat.lt_of_lt_of_le hl h.top)
theorem Env.but {w w' : World} {R : Nat} (h : Env w) (hb : But R w w') (hR : gTop ≤ R) : Env w' := h.keep fun b hl => hb.at (Nat.lt_of_lt_of_le hl h.top) (by omega)
theorem Env.drewN {w : World} (h : Env w) (n : Nat) : Env (w.drewN n) := h.keep fun _ _ => rfl

theorem atoi_any (W : ByteArray) (hl : W.size ≤ 1048576) (w : World) (hE : Env w) :
    Calls Tryz.prog 108 #[.string W] w fun e w' => Below w.heap.size w w' ∧ ((∃ n, Lib.atoiAll W.data.toList = .ok n ∧ e = .returned (.tuple #[.int .i64 n, .nilIface])) ∨ ((∀ n, Lib.atoiAll W.data.toList ≠ .ok n) ∧ ∃ m N, e = .returned (.tuple #[.int .i64 m, .iface 149 (.pointer (some ⟨N, 0, none⟩))]))) := by
  cases h : Lib.atoiAll W.data.toList with
  | ok n =>
    refine (Tryz.strconv_Atoi_ok W (by omega) n h w).mono ?_
    rintro e w' ⟨rfl, hw⟩
    refine ⟨?_, Or.inl ⟨n, rfl, rfl⟩⟩
    rcases hw with rfl | ⟨t, rfl⟩
    · exact Below.refl _ _
    · exact Lib.bytesWorld_below _ _ _
  | «syntax» =>
    obtain ⟨ev, h1, h2⟩ := hE.syn
    refine (Tryz.strconv_Atoi_syntax W (by omega) h ev w h1 h2).mono ?_
    rintro e w' ⟨N, rfl, -, -, hb⟩
    refine ⟨hb, Or.inr ⟨fun n h => ?_, _, _, rfl⟩⟩
    cases h
  | range =>
    obtain ⟨ev, h1, h2⟩ := hE.rng
    refine (Tryz.strconv_Atoi_range W (by omega) h ev w h1 h2).mono ?_
    rintro e w' ⟨N, rfl, -, -, hb⟩
    refine ⟨hb, Or.inr ⟨fun n h => ?_, _, _, rfl⟩⟩
    cases h

theorem below_grow (w : World) (k : Nat) (os : Array Obj) : Below w.heap.size w (Go.Sort.grow (w.drewN k) os) := by
  refine ⟨rfl, rfl, rfl, ?_, fun i hi => ?_⟩
  · show w.heap.size ≤ (w.heap ++ os).size
    simp
  · show (w.heap ++ os)[i]? = w.heap[i]?
    rw [Array.getElem?_append_left hi]

theorem itoa_walk (n : Int) (h0 : -9223372036854775808 ≤ n) (h1 : n ≤ 9223372036854775807) (w : World) (hE : Env w) :
    Calls Tryz.prog 109 #[.int .i64 n] w fun e w' => e = .returned (.string ⟨(Lib.itoa n).toArray⟩) ∧ Below w.heap.size w w' := by
  refine (Tryz.strconv_Itoa n h0 h1 w hE.pow).mono ?_
  rintro e w' ⟨rfl, k, os, rfl⟩
  exact ⟨rfl, below_grow _ _ _⟩

/-- But for one cell of a block nothing that was there has turned. -/
structure Mg (R o : Nat) (w w' : World) : Prop where
  but : But R w w'
  cell : ∀ j, j ≠ o → w'.cell? ⟨R, j, none⟩ = w.cell? ⟨R, j, none⟩
  frz : ∀ j, w'.frozen? ⟨R, j, none⟩ = w.frozen? ⟨R, j, none⟩
theorem Mv.mg {R o : Nat} {w w' : World} (h : Mv R o w w') : Mg R o w w' := ⟨h.but, h.cell, h.frz⟩
theorem Mg.trans {R o : Nat} {a b c : World} (h : Mg R o a b) (k : Mg R o b c) : Mg R o a c := ⟨h.but.trans k.but, fun j hj => (k.cell j hj).trans (h.cell j hj), fun j => (k.frz j).trans (h.frz j)⟩
theorem Mg.below {R o : Nat} {w w' : World} (hb : Below w.heap.size w w') (hR : R < w.heap.size) : Mg R o w w' :=
  ⟨⟨hb.os, hb.tape, hb.output, hb.size, fun i hi _ => hb.block i hi⟩, fun j _ => World.cell?_of_block (a := ⟨R, j, none⟩) (hb.block R hR), fun j => World.frozen?_of_block (a := ⟨R, j, none⟩) (hb.block R hR)⟩
theorem Tx.lt {w : World} {R o : Nat} {s : ByteArray} {a : Nat} (h : Tx w R o s a) : R < w.heap.size := World.block_lt_of_cell? w _ h.c0

theorem xskip_any (w : World) (R o : Nat) (s : ByteArray) (a : Nat) (c : UInt8) (hs : s.size ≤ 1048576) (h : Tx w R o s a) (ha : a ≤ s.size) :
    Calls Tryz.prog 98 #[.pointer (some ⟨R, o, none⟩), .string (w1 c)] w fun e w' => e = .returned (.bool (decide ((lf s a).head? = some c))) ∧ Tx w' R o s (if (lf s a).head? = some c then a + 1 else a) ∧ Mv R (o + 1) w w' := by
  by_cases hh : (lf s a).head? = some c
  · rw [if_pos hh, decide_eq_true hh]
    exact xskip_yes w R o s (w1 c) a hs h ha (by show 0 < 1; decide) (by show 1 ≤ 16; decide) (by rw [pre_one]; exact decide_eq_true hh)
  · rw [if_neg hh, decide_eq_false hh]
    refine (xskip_no w R o s (w1 c) a h ha (by rw [pre_one]; exact decide_eq_false hh)).mono ?_
    rintro e w' ⟨rfl, m, rfl⟩
    exact ⟨rfl, h.drewN m, (Mv.refl _ _ _).drewN m⟩

theorem ext_take (s : ByteArray) (a n : Nat) : (s.extract a (a + n)).data.toList = (lf s a).take n := by
  unfold lf
  simp [List.take_drop]
theorem tw_take {p : UInt8 → Bool} (l : List UInt8) : l.take (l.takeWhile p).length = l.takeWhile p := (List.prefix_iff_eq_take.1 (List.takeWhile_prefix p)).symm

/-- Where a number ends. -/
def nAt (s : ByteArray) (a : Nat) : Nat := if (lf s a).head? = some 45 then a + 1 else a
theorem num_at {s : ByteArray} {a : Nat} (ha : a ≤ s.size) : a ≤ nAt s a ∧ nAt s a ≤ s.size ∧ (s.extract a (nAt s a + rn isDg s (nAt s a))).data.toList = (numRun (lf s a)).1 ∧ lf s (nAt s a + rn isDg s (nAt s a)) = (numRun (lf s a)).2 := by
  unfold nAt numRun
  by_cases hh : (lf s a).head? = some 45
  · rw [if_pos hh, if_pos hh]
    have hlt : a < s.size := by
      have := lf_len s a
      cases hl : lf s a with
      | nil => rw [hl] at hh; simp at hh
      | cons c r => rw [hl] at this; simp at this; omega
    refine ⟨by omega, by omega, ?_, ?_⟩
    · rw [show a + 1 + rn isDg s (a + 1) = a + (rn isDg s (a + 1) + 1) from by omega, ext_take]
      have e := head_tail hh
      rw [← lf_next] at e
      unfold rn
      rw [e, List.take_succ_cons, tw_take]
      simp
    · rw [rn_drop, lf_next]
  · rw [if_neg hh, if_neg hh]
    refine ⟨Nat.le_refl _, ha, ?_, rn_drop _ _ _⟩
    rw [ext_take]
    unfold rn
    rw [tw_take]

theorem str_beq (l : List UInt8) (W : ByteArray) : (l == W.toList) = decide (l = W.data.toList) := by
  rw [toList_data, Bool.eq_iff_iff]
  simp

set_option maxRecDepth 100000 in
set_option maxHeartbeats 1600000 in
theorem number_any (w : World) (R o : Nat) (s : ByteArray) (a : Nat) (hs : s.size ≤ 1048576) (h : Tx w R o s a) (ha : a ≤ s.size) (hE : Env w) (hR : gTop ≤ R) :
    Calls Tryz.prog 74 #[.pointer (some ⟨R, o, none⟩)] w fun e w' => Mg R (o + 1) w w' ∧ Tx w' R o s (nAt s a + rn isDg s (nAt s a)) ∧
      ((∃ n, Lib.atoiAll (numRun (lf s a)).1 = .ok n ∧ Lib.itoa n = (numRun (lf s a)).1 ∧ e = .returned (.int .i64 n)) ∨ ((∀ n, Lib.atoiAll (numRun (lf s a)).1 = .ok n → Lib.itoa n ≠ (numRun (lf s a)).1) ∧ e = fltE)) := by
  obtain ⟨h1, h2, h3, -⟩ := num_at (s := s) (a := a) ha
  have hsk := xskip_any w R o s a 45 hs h ha
  have hrl := rn_le isDg s (nAt s a) h2
  rw [show (if (lf s a).head? = some 45 then a + 1 else a) = nAt s a from rfl] at hsk
  rw [← h3]
  have hrn := fun W (hW : Tx W R o s (nAt s a)) => xrun_digit W R o s (nAt s a) hs hW h2
  obtain ⟨c0, c1, f1⟩ := h
  generalize nAt s a = a1 at *
  generalize hr : rn isDg s a1 = r at *
  generalize decide ((lf s a).head? = some 45) = b0 at *
  generalize hX : s.extract a (a1 + r) = X at *
  have hXs : X.size ≤ 1048576 := by
    rw [← hX, ByteArray.size_extract]; omega
  have HSK := hide hsk; have HRN := hide hrn; have HE := hide hE
  have hi0 : (0 : Int) ≤ (a : Int) := by omega
  have hi1 : (a : Int) ≤ (a1 : Int) + (r : Int) := by omega
  have hi2 : (a1 : Int) + (r : Int) ≤ (s.size : Int) := by omega
  have HX := hide hX
  clear hsk hrn hE hr hX h3
  go_enter Tryz.func74, Tryz.ntmps74
  go_wp2_with (first
    | (go_at_call 98; refine (unhide HSK).mono ?_; rintro e w2 ⟨rfl, hr2, hm2⟩; have HR2 := hide hr2; have HM2 := hide hm2; clear hr2 hm2)
    | (go_at_call 95; refine (unhide HRN _ (unhide HR2)).mono ?_; rintro e w3 ⟨rfl, hr3, hm3⟩; have HR3 := hide hr3; have HM3 := hide ((unhide HM2).trans hm3); clear hr3 hm3 HSK HRN HR2 HM2 c0 c1 f1; obtain ⟨c0, c1, f1⟩ := unhide HR3))
  go_quiet (fail)
  rw [unhide HX]
  have hlt := (unhide HR3).lt
  have hE3 := ((unhide HE).but (unhide HM3).mg.but hR).drewN nq
  have HAT := hide (atoi_any X hXs (w3.drewN nq) hE3)
  have HE3 := hide hE3
  clear hE3 HE c0 c1 f1
  go_wp2_with fail
  refine (unhide HAT).mono ?_
  rintro e w4 ⟨hb4, ⟨n, hn, rfl⟩ | ⟨hn, m, N, rfl⟩⟩
  · obtain ⟨hn0, hn1⟩ := Lib.atoiAll_bounds hn
    have hmg4 : Mg R (o + 1) w w4 := ((unhide HM3).drewN nq).mg.trans (Mg.below hb4 hlt)
    have htx4 : Tx w4 R o s (a1 + r) := ((unhide HR3).drewN nq).of_block (hb4.block R hlt)
    have HIT := hide (itoa_walk n hn0 hn1 w4 ((unhide HE3).below hb4))
    have HN := hide hn; have HG4 := hide hmg4; have HT4 := hide htx4
    have hlt4 := htx4.lt
    clear hn hmg4 htx4 hb4 HAT HE3 HR3 HM3
    by_cases hx : Lib.itoa n = X.data.toList
    · have hbe : (Lib.itoa n == X.toList) = true := by rw [str_beq]; exact decide_eq_true hx
      have HXX := hide hx
      clear hx
      go_wp2_with (first
        | (go_at_call 109; refine (unhide HIT).mono ?_; rintro e w5 ⟨rfl, hb5⟩; have HB5 := hide hb5; clear hb5)
        | (go_at_call 65; refine (treeWant_yes _).mono ?_; rintro e w6 ⟨rfl, rfl⟩))
      go_ret
      exact ⟨(unhide HG4).trans (Mg.below (unhide HB5) hlt4), (unhide HT4).of_block ((unhide HB5).block R hlt4), Or.inl ⟨n, unhide HN, unhide HXX, rfl⟩⟩
    · have hbe : (Lib.itoa n == X.toList) = false := by rw [str_beq]; exact decide_eq_false hx
      have HXX := hide hx
      clear hx
      go_wp2_with (first
        | (go_at_call 109; refine (unhide HIT).mono ?_; rintro e w5 ⟨rfl, hb5⟩; have HB5 := hide hb5; clear hb5)
        | (go_at_call 65; refine (treeWant_no _).mono ?_; rintro e w6 ⟨rfl, rfl⟩))
      refine ⟨rfl, (unhide HG4).trans (Mg.below (unhide HB5) hlt4), (unhide HT4).of_block ((unhide HB5).block R hlt4), Or.inr ⟨fun k hk => ?_, rfl⟩⟩
      have := (unhide HN).symm.trans hk
      cases this
      exact unhide HXX
  · have hmg4 : Mg R (o + 1) w w4 := ((unhide HM3).drewN nq).mg.trans (Mg.below hb4 hlt)
    have htx4 : Tx w4 R o s (a1 + r) := ((unhide HR3).drewN nq).of_block (hb4.block R hlt)
    have HN := hide hn; have HG4 := hide hmg4; have HT4 := hide htx4
    clear hn hmg4 htx4 hb4 HAT HE3 HR3 HM3
    go_wp2_with (go_at_call 65; refine (treeWant_no _).mono ?_; rintro e w6 ⟨rfl, rfl⟩)
    exact ⟨rfl, unhide HG4, unhide HT4, Or.inr ⟨fun k hk => absurd hk (unhide HN k), rfl⟩⟩
end Go.Proofs.YtgamonfmgngilaaGreatDoor

/- The walks of the specification's l6In, l6NameOk, l1Rise: what they answer. No conditions. -/

namespace Go.Proofs.YtgamonfmgngilaaGreatDoor
open Go Go.RowKit

set_option maxHeartbeats 400000 in
theorem l6In_any (n lo hi : Int) (w : World) :
    Calls Tryz.prog 86 #[.int .i64 n, .int .i64 lo, .int .i64 hi] w fun e w' => e = .returned (.bool (decide (lo ≤ n ∧ n ≤ hi))) ∧ w' = w := by
  by_cases h1 : lo ≤ n
  · by_cases h2 : n ≤ hi
    · go_enter Tryz.func86, Tryz.ntmps86
      go_wp2_with fail
      go_ret
      exact ⟨by simp [h1, h2], rfl⟩
    · go_enter Tryz.func86, Tryz.ntmps86
      go_wp2_with fail
      go_ret
      exact ⟨ret_bool (by symm; simp; omega), rfl⟩
  · go_enter Tryz.func86, Tryz.ntmps86
    go_wp2_with fail
    go_ret
    exact ⟨ret_bool (by symm; simp; omega), rfl⟩

set_option maxHeartbeats 400000 in
theorem l6NameOk_any (s : ByteArray) (w : World) (hs : s.size ≤ 9223372036854775807) :
    Calls Tryz.prog 105 #[.string s] w fun e w' => e = .returned (.bool (nameOkB s)) ∧ w' = w := by
  by_cases h1 : 1 ≤ s.size ∧ s.size ≤ 8
  · obtain ⟨h1, h8⟩ := h1
    have hd : decide ((1 : Int) ≤ s.size ∧ (s.size : Int) ≤ 8) = true := by simp; omega
    have hc0 : s[0].toNat < 97 ∨ 122 < s[0].toNat ∨ (97 ≤ s[0].toNat ∧ s[0].toNat ≤ 122) := by omega
    rcases hc0 with hc | hc | hc
    · go_enter Tryz.func105, Tryz.ntmps105
      go_wp2_with (go_at_call 86; refine (l6In_any _ _ _ _).mono ?_; rintro e w' ⟨rfl, rfl⟩)
      go_ret
      exact ⟨ret_bool (nameOk_first (by omega) (Or.inl hc)).symm, rfl⟩
    · go_enter Tryz.func105, Tryz.ntmps105
      go_wp2_with (go_at_call 86; refine (l6In_any _ _ _ _).mono ?_; rintro e w' ⟨rfl, rfl⟩)
      go_ret
      exact ⟨ret_bool (nameOk_first (by omega) (Or.inr hc)).symm, rfl⟩
    · have HF := hide hc
      obtain ⟨hca, hcb⟩ := hc
      go_enter Tryz.func105, Tryz.ntmps105
      go_wp2_with (go_at_call 86; refine (l6In_any _ _ _ _).mono ?_; rintro e w' ⟨rfl, rfl⟩)
      go_loop [3] (fun i => ∃ k : Nat, k ≤ s.size ∧ i = .int .i64 k ∧ Hid (allTo nameByte s k)) (fun i => s.size - (intOf i).toNat)
      case atStart => exact ⟨0, Nat.zero_le _, rfl, fun j hj => by omega⟩
      case round =>
        obtain ⟨k, hk, rfl, HA⟩ := hrel
        by_cases hlt : k < s.size
        · have hc : s[k].toNat < 48 ∨ (57 < s[k].toNat ∧ s[k].toNat < 97) ∨ 122 < s[k].toNat ∨ (97 ≤ s[k].toNat ∧ s[k].toNat ≤ 122) ∨ (48 ≤ s[k].toNat ∧ s[k].toNat ≤ 57) := by omega
          rcases hc with hc | hc | hc | hc | hc
          · have HC := hide (nameOk_not hlt (nameByte_no (Or.inl hc)))
            have d1 : decide ((97 : Int) ≤ s[k].toNat) = false := by simp; omega
            have d2 : decide ((s[k].toNat : Int) ≤ 122) = true := by simp; omega
            have d3 : decide ((48 : Int) ≤ s[k].toNat) = false := by simp; omega
            have d4 : decide ((s[k].toNat : Int) ≤ 57) = true := by simp; omega
            go_wp2_with fail
            go_ret
            exact ⟨ret_bool (unhide HC).symm, rfl⟩
          · have HC := hide (nameOk_not hlt (nameByte_no (Or.inr (Or.inl hc))))
            obtain ⟨hc1, hc2⟩ := hc
            have d1 : decide ((97 : Int) ≤ s[k].toNat) = false := by simp; omega
            have d2 : decide ((s[k].toNat : Int) ≤ 122) = true := by simp; omega
            have d3 : decide ((48 : Int) ≤ s[k].toNat) = true := by simp; omega
            have d4 : decide ((s[k].toNat : Int) ≤ 57) = false := by simp; omega
            go_wp2_with fail
            go_ret
            exact ⟨ret_bool (unhide HC).symm, rfl⟩
          · have HC := hide (nameOk_not hlt (nameByte_no (Or.inr (Or.inr hc))))
            have d1 : decide ((97 : Int) ≤ s[k].toNat) = true := by simp; omega
            have d2 : decide ((s[k].toNat : Int) ≤ 122) = false := by simp; omega
            have d3 : decide ((48 : Int) ≤ s[k].toNat) = true := by simp; omega
            have d4 : decide ((s[k].toNat : Int) ≤ 57) = false := by simp; omega
            go_wp2_with fail
            go_ret
            exact ⟨ret_bool (unhide HC).symm, rfl⟩
          · have HN := hide (allTo_succ HA.out hlt (nameByte_yes (Or.inl hc)))
            obtain ⟨hc1, hc2⟩ := hc
            have d1 : decide ((97 : Int) ≤ s[k].toNat) = true := by simp; omega
            have d2 : decide ((s[k].toNat : Int) ≤ 122) = true := by simp; omega
            have d3 : decide ((48 : Int) ≤ s[k].toNat) = true := by simp; omega
            have d4 : decide ((s[k].toNat : Int) ≤ 57) = false := by simp; omega
            go_wp2_with fail
            go_round
            case rel => exact ⟨k + 1, by omega, by go_num, HN⟩
            case measure => simp [intOf]; omega
          · have HN := hide (allTo_succ HA.out hlt (nameByte_yes (Or.inr hc)))
            obtain ⟨hc1, hc2⟩ := hc
            have d1 : decide ((97 : Int) ≤ s[k].toNat) = false := by simp; omega
            have d2 : decide ((s[k].toNat : Int) ≤ 122) = true := by simp; omega
            have d3 : decide ((48 : Int) ≤ s[k].toNat) = true := by simp; omega
            have d4 : decide ((s[k].toNat : Int) ≤ 57) = true := by simp; omega
            go_wp2_with fail
            go_round
            case rel => exact ⟨k + 1, by omega, by go_num, HN⟩
            case measure => simp [intOf]; omega
        · go_wp2_with fail
          go_ret
          obtain rfl : k = s.size := by omega
          exact ⟨ret_bool (nameOk_yes (by omega) (by omega) (unhide HF) HA.out).symm, rfl⟩
  · have hd : decide ((1 : Int) ≤ s.size ∧ (s.size : Int) ≤ 8) = false := by simp; omega
    go_enter Tryz.func105, Tryz.ntmps105
    go_wp2_with (go_at_call 86; refine (l6In_any _ _ _ _).mono ?_; rintro e w' ⟨rfl, rfl⟩)
    go_ret
    exact ⟨ret_bool (nameOk_len (by omega)).symm, rfl⟩

theorem geqS (t : TypeId) (a b : ByteArray) : binOp .geq t (.string a) (.string b) = pure (.bool !(Op.bytesLess a.toList b.toList)) := by simp [binOp, Op.stringOp]

set_option maxHeartbeats 400000 in
theorem l1Rise_any (v : Value) (ss : List ByteArray) (w : World) {P : Nat → Prop} (hP : ∀ b, P b → b < w.heap.size) (hv : StrsAt P w v ss) :
    Calls Tryz.prog 88 #[v] w fun e w' => e = .returned (.bool (riseB ss)) ∧ Below w.heap.size w w' := by
  obtain ⟨a, cap, rfl, hlen, hc⟩ := hv
  have HC := hide hc; have HP := hide hP
  clear hc hP
  go_enter Tryz.func88, Tryz.ntmps88
  go_wp2_with fail
  go_loopw [3] (fun i wr => ∃ (k : Nat), k ≤ ss.length ∧ i = .int .i64 k ∧ Hid (∀ j, j < k → good ss j = true) ∧ Below w.heap.size w wr) (fun i _ => ss.length - (intOf i).toNat)
  case atStart => exact ⟨0, Nat.zero_le _, rfl, hide (fun j hj => by omega), Below.refl _ _⟩
  case round =>
    obtain ⟨k, hk, rfl, HG, hb⟩ := hrel
    by_cases hlt : k < ss.length
    · obtain ⟨b, o, rfl, hpb, hcell, hsz⟩ := unhide HC k hlt
      have e1 : wr.cell? ⟨b, o + k, none⟩ = some (.string ss[k]) := by rw [hb.cell (unhide HP b hpb)]; exact hcell
      clear hcell hpb
      have hname := fun w => l6NameOk_any ss[k] w hsz
      have HN := hide hname; clear hname
      by_cases hn : nameOkB ss[k] = true
      · by_cases h0 : 0 < k
        · obtain ⟨b', o', he, hpb, hcell, -⟩ := unhide HC (k - 1) (by omega)
          simp only [Option.some.injEq, Addr.mk.injEq, and_true] at he
          obtain ⟨rfl, rfl⟩ := he
          have e0 : wr.cell? ⟨b, o + (k - 1), none⟩ = some (.string (ss[k - 1]'(by omega))) := by rw [hb.cell (unhide HP b hpb)]; exact hcell
          have hd0 : decide ((0 : Int) < k) = true := by simp; omega
          have hgd := good_pos hlt h0 hn
          generalize hlb : Op.bytesLess (ss[k - 1]'(by omega)).toList ss[k].toList = lb at hgd
          have hi1 : ((k : Int) - 1).toNat = k - 1 := by omega
          have HGD := hide hgd
          clear hcell hpb hgd
          have hge := geqS
          cases lb
          · have HR := hide (rise_no hlt (unhide HGD))
            go_wp2_with fail
            go_quiet ((go_at_call 105; exact Calls.quiet_of_same (unhide HN _)))
            go_wp2_with fail
            go_ret
            exact ⟨ret_bool (unhide HR).symm, below_drewN hb _⟩
          · go_wp2_with fail
            go_quiet ((go_at_call 105; exact Calls.quiet_of_same (unhide HN _)))
            go_wp2_with fail
            go_roundw
            case rel => exact ⟨k + 1, by omega, by go_num, hide (fun j hj => by
              by_cases e : j = k
              · subst e; exact unhide HGD
              · exact HG.out j (by omega)), below_drewN hb _⟩
            case measure => simp [intOf]; omega
        · have hd0 : decide (0 < k) = false := by simp; omega
          have HK0 : Hid (k = 0) := by show k = 0; omega
          clear h0
          go_wp2_with fail
          go_quiet ((go_at_call 105; exact Calls.quiet_of_same (unhide HN _)))
          go_wp2_with fail
          go_roundw
          case rel => exact ⟨k + 1, by omega, by go_num, hide (fun j hj => by have := HK0.out; subst this; obtain rfl : j = 0 := by omega
                                                                              exact good_zero hlt hn), below_drewN hb _⟩
          case measure => simp [intOf]; omega
      · have hn' : nameOkB ss[k] = false := by simpa using hn
        have HR := hide (rise_no hlt (good_name hlt hn'))
        clear hn
        go_wp2_with fail
        go_quiet ((go_at_call 105; exact Calls.quiet_of_same (unhide HN _)))
        go_wp2_with fail
        go_ret
        exact ⟨ret_bool (unhide HR).symm, below_drewN hb _⟩
    · go_wp2_with fail
      go_ret
      exact ⟨ret_bool (rise_yes (fun i hi => HG.out i (by omega))).symm, hb⟩
end Go.Proofs.YtgamonfmgngilaaGreatDoor
