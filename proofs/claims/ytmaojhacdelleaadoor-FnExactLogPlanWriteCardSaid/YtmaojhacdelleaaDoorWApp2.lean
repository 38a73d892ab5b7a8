/- The walk of strconv.AppendInt, on: numbers of three digits and more; the two functions above it. The table of powers is as strconv's text lays it. -/
import Derived.Test.YtmaojhacdelleaaDoorWApp
namespace Go.Proofs.YtmaojhacdelleaaDoor
open Go Go.RowKit Go.Sort

theorem MRow.on {B : Nat} {w w' : World} {v : Value} {l : List UInt8} (h : MRow B w v l) (hb : Below w.heap.size w w') : MRow B w' v l := h.of_block fun g e => hb.block g (h.lt g e).2

set_option maxRecDepth 100000 in
set_option maxHeartbeats 12800000 in
theorem appendUint_big (B u : Nat) (hu : 100 ≤ u) (hu64 : u < 18446744073709551616) (v : Value) (l : List UInt8) (w : World) (hown : MRow B w v l) (hB : B ≤ w.heap.size) (hl : l.length ≤ 1000000)
    (htab : Lib.TabIs Tryd.prog w "internal/strconv.uint64pow10" .u64 Lib.pow10Tab) :
    Calls Tryd.prog 39 #[v, .int .u64 u, .int .i64 10] w (AEnd B w (l ++ Lib.decDigits u)) := by
  have hu1 : 1 ≤ u := by omega
  have hnd := nd20 hu1 hu64
  have hal : Tryd.prog.arrayLen 77 = 24 := by kernel_rfl
  have hsl : ∀ W, (Instr.sliceAt 77 (.pointer (some ⟨w.heap.size, 0, none⟩)) none (some (.int .i64 (Lib.nDigits u : Int))) none).run Tryd.prog W = .ok (.slice (some ⟨w.heap.size, 0, none⟩) (Lib.nDigits u) 24) W := fun W => by
    rw [run_sliceAt_array_h W 77 ⟨w.heap.size, 0, none⟩ (by simp [Program.arrayLen, Program.elem, Tryd.underlying77]) .i64 (Lib.nDigits u : Int) (by omega) (by rw [hal]; omega)]
    go_simp
  have hH0 := Lib.holds_zero0 w 77 (Lib.nDigits u) (by omega)
  have hfmt := Tryd.internal_strconv_formatBase10 w.heap.size 0 24 u (Array.replicate (Lib.nDigits u) 0) (w.alloc (.cells Lib.zeros24 77)) hH0 (by rw [Array.size_replicate]; exact Lib.lt_pow_nDigits u) hu64 (by rw [Array.size_replicate]; omega)
  rw [Array.size_replicate] at hfmt
  have HH0 := hide hH0; have HF := hide hfmt; have HO := hide hown
  have HN := hide (fun o => Tryd.internal_strconv_numDigits u hu1 hu64 (w.alloc o) (Lib.tabIs_alloc htab _))
  have iu : (100 : Int) ≤ (u : Int) := by omega
  have hdl := Lib.decDigits_length u
  clear hH0 hal hfmt hown htab
  go_enter Tryd.func39, Tryd.ntmps39
  go_wp2_with (first
    | (go_at_call 47; refine (unhide HN _).mono ?_; rintro e w' ⟨rfl, rfl⟩))
  go_at_call 48
  refine (unhide HF).mono ?_
  rintro e w' ⟨rfl, k, v', dk, rfl, hF⟩
  have hcells : ∀ j u', (bc (Lib.decDigits u))[j]? = some u' → ((putRow (fun (b : UInt8) => Value.int .u8 (b.toNat : Int)) (w.alloc (.cells Lib.zeros24 77)) w.heap.size 0 dk).drewN k).cell? ((⟨w.heap.size, 0, none⟩ : Addr).add j) = some u' := by
    intro j u' hj
    have hjl : j < (Lib.decDigits u).length := by rw [← bc_len]; exact (List.getElem?_eq_some_iff.1 hj).1
    have e5 : (bc (Lib.decDigits u))[j]? = some (Value.int .u8 ((Lib.decDigits u)[j].toNat : Int)) := by simp [bc, hjl]
    rw [e5] at hj
    cases hj
    rw [Lib.row_is_numeral hF j hjl, Lib.add_plain, World.cell?_drewN]
    exact cell?_putRow (fun (b : UInt8) => Value.int .u8 (b.toNat : Int)) _ w.heap.size 0 _ dk (unhide HH0) (by rw [hF.size, Array.size_replicate]) j (by rw [hF.size]; rw [hdl] at hjl; exact hjl)
  obtain ⟨os, eo⟩ := Lib.fin_at w (.cells Lib.zeros24 77) dk k 0
  have hb2 : Below w.heap.size w ((putRow (fun (b : UInt8) => Value.int .u8 (b.toNat : Int)) (w.alloc (.cells Lib.zeros24 77)) w.heap.size 0 dk).drewN k) := by rw [eo]; exact Lib.below_grow w.heap.size w (Nat.le_refl _) k os
  generalize (putRow (fun (b : UInt8) => Value.int .u8 (b.toNat : Int)) (w.alloc (.cells Lib.zeros24 77)) w.heap.size 0 dk).drewN k = W2 at hcells hb2 ⊢
  have HO2 := hide ((unhide HO).on hb2); have HB2 := hide (hb2.mono hB); have hB2 : B ≤ W2.heap.size := Nat.le_trans hB hb2.size
  have HCE := hide hcells
  clear eo HH0 HF hF hcells hb2 HN
  go_wp2_with (at_builtin; refine append_bytesM _ rfl _ _ rfl B v l (Lib.decDigits u) rfl (unhide HO2) ⟨w.heap.size, 0, none⟩ (Lib.nDigits u) 24 rfl hdl.symm (unhide HCE) (by omega) hB2 ?_; intro g n' cap' w3 HN3 HR3 HG3)
  go_ret
  exact ⟨g, n', cap', rfl, HN3.out, HR3.out, (unhide HB2).trans ((unhide HO2).below HG3.out hB2)⟩

theorem appendUint_any (B u : Nat) (hu64 : u < 18446744073709551616) (v : Value) (l : List UInt8) (w : World) (hown : MRow B w v l) (hB : B ≤ w.heap.size) (hl : l.length ≤ 1000000)
    (htab : Lib.TabIs Tryd.prog w "internal/strconv.uint64pow10" .u64 Lib.pow10Tab) :
    Calls Tryd.prog 39 #[v, .int .u64 u, .int .i64 10] w (AEnd B w (l ++ Lib.decDigits u)) := by
  by_cases h : u < 100
  · exact appendUint_small B u h v l w hown hB hl
  · exact appendUint_big B u (by omega) hu64 v l w hown hB hl htab

set_option maxRecDepth 100000 in
set_option maxHeartbeats 3200000 in
theorem appendIntI_any (B u : Nat) (hu : u ≤ 999999999) (v : Value) (l : List UInt8) (w : World) (hown : MRow B w v l) (hB : B ≤ w.heap.size) (hl : l.length ≤ 1000000)
    (htab : Lib.TabIs Tryd.prog w "internal/strconv.uint64pow10" .u64 Lib.pow10Tab) :
    Calls Tryd.prog 27 #[v, .int .i64 u, .int .i64 10] w (AEnd B w (l ++ Lib.decDigits u)) := by
  have HC := hide (appendUint_any B u (by omega) v l w hown hB hl htab)
  have h0 : ¬ ((u : Int) < 0) := by omega
  have hwr : IntKind.u64.wrap (u : Int) = (u : Int) := by rw [IntKind.wrap_u64]; omega
  clear hown htab
  go_enter Tryd.func27, Tryd.ntmps27
  go_wp2_with (go_at_call 39; refine (unhide HC).mono ?_; rintro e w2 ⟨g, n', cap', rfl, hn, hr, hb⟩; have HE := hide (show AEnd B w (l ++ Lib.decDigits u) (.returned (.slice (some ⟨g, 0, none⟩) n' cap')) w2 from ⟨g, n', cap', rfl, hn, hr, hb⟩); clear hn hr hb)
  go_ret
  exact unhide HE

set_option maxRecDepth 100000 in
set_option maxHeartbeats 3200000 in
theorem appendInt_any (B u : Nat) (hu : u ≤ 999999999) (v : Value) (l : List UInt8) (w : World) (hown : MRow B w v l) (hB : B ≤ w.heap.size) (hl : l.length ≤ 1000000)
    (htab : Lib.TabIs Tryd.prog w "internal/strconv.uint64pow10" .u64 Lib.pow10Tab) :
    Calls Tryd.prog 24 #[v, .int .i64 u, .int .i64 10] w (AEnd B w (l ++ Lib.decDigits u)) := by
  have HC := hide (appendIntI_any B u hu v l w hown hB hl htab)
  clear hown htab
  go_enter Tryd.func24, Tryd.ntmps24
  go_wp2_with (go_at_call 27; refine (unhide HC).mono ?_; rintro e w2 ⟨g, n', cap', rfl, hn, hr, hb⟩; have HE := hide (show AEnd B w (l ++ Lib.decDigits u) (.returned (.slice (some ⟨g, 0, none⟩) n' cap')) w2 from ⟨g, n', cap', rfl, hn, hr, hb⟩); clear hn hr hb)
  go_ret
  exact unhide HE
end Go.Proofs.YtmaojhacdelleaaDoor
