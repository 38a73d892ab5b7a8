/- The walk of strconv.AppendInt, for numbers that are not below 0, onto a row of bytes that may bear a mark behind its cells. The table of powers is as strconv's text lays it. -/
import Derived.Test.YtcnkkegpckibbaaDoorPart05
import Derived.Test.YtcnkkegpckibbaaDoorPart04
import Derived.Lib.AppendIntMem
import Derived.Lib.BufferKept
import Derived.Lib.Slices
import Derived.OwnWalk
import Derived.BigCall
import Derived.BigGuard
import Derived.CellFam
import Derived.Handy
import Derived.Test.YtcnkkegpckibbaaDoorPart00
import Derived.RangeFuncNested
import Derived.RangeFuncBound
import Derived.RangeFuncCalls
import Derived.RangeFuncLeaves
import Derived.Shelf.Abstract
import Derived.Shelf.RegionOpen
import Derived.WalkKit
import Derived.OwnWalkIn
import Derived.TacticsInMore
import Derived.LoopNIn
import Derived.LoopIn
import Derived.Test.YtcnkkegpckibbaaDoorRows
namespace Go.Proofs.YtcnkkegpckibbaaDoor
open Go Go.RowKit Go.Sort

/-- append of a string's bytes onto such a row. -/
theorem run_appendMs (w : World) (ty : TypeId) (base : Nat) (v : Value) (l : List UInt8) (tx : ByteArray) (hown : MRow base w v l)
    (hlen : l.length + tx.size ≤ 1099511627776) (hbase : base ≤ w.heap.size) :
    ∃ v' w', (Builtin.append_ #[22, 9] ty #[v, .string tx]).run Tryd.prog w = .ok v' w' ∧ MRow base w' v' (l ++ tx.data.toList) ∧ w.grownBy w' v.ownBlock := by
  obtain ⟨i0, hi, hz0, hz1, hz2⟩ := info_parts infoU8
  obtain ⟨g, cap, cur, fz, rfl, hbg, hg, hfz, hnc, hcm, hcs, htake⟩ := hown
  have hsz : tx.data.toList.length = tx.size := by simp
  have hbl : (Lib.strCells tx).length = tx.size := by rw [bc_str, bc_len, hsz]
  by_cases hroom : l.length + tx.size ≤ cap
  · have hf := Lib.run_firstCells_string (P := Tryd.prog) w 1 tx
    have hst := store_m Tryd.prog g l.length 5 fz (Lib.strCells tx) 0 cur w hg hfz (by rw [hbl]; omega) (Lib.strCells_oneCell tx)
    simp only [Nat.add_zero] at hst
    refine ⟨.slice (some ⟨g, 0, none⟩) (l.length + tx.size) cap, _, by simp [Builtin.append_, run_underlying Tryd.underlying22, run_underlying Tryd.underlying9, sizeOf, typeInfo, hi, hz1, Builtin.lenOf, hroom, hf, Addr.add_lit, hst]; rfl, ⟨g, cap, _, fz, by rw [List.length_append, hsz], hbg, setRow_heap w g cur _ _ _ hg, ?_, by rw [List.length_append, hsz]; exact hroom, hcm, ?_, ?_⟩, ⟨rfl, rfl, rfl, by simp, fun k _ hk => setRow_other w g k _ (fun e => hk (by simp [Value.ownBlock, e]))⟩⟩
    · have : (cur.toList.take l.length ++ (Lib.strCells tx ++ cur.toList.drop (l.length + (Lib.strCells tx).length))).toArray.size = cur.size := by
        simp only [List.size_toArray, List.length_append, List.length_take, List.length_drop, Array.length_toList, hbl]; omega
      rw [this]; exact hfz
    · simp only [List.size_toArray, List.length_append, List.length_take, List.length_drop, Array.length_toList, hbl]; omega
    · show (cur.toList.take l.length ++ (Lib.strCells tx ++ cur.toList.drop (l.length + (Lib.strCells tx).length))).take (l ++ tx.data.toList).length = _
      rw [← List.append_assoc, htake, bc_append, bc_str, List.take_left' (by rw [List.length_append, bc_len, bc_len, List.length_append])]
  · have hr := Lib.run_append_grow_string (P := Tryd.prog) w 22 9 ty 5 i0 (.int .u8 0) Tryd.underlying22 Tryd.underlying9 hi hz0 ⟨g, 0, none⟩ l.length cap (bc l) (by rw [hz1, bc_len, Nat.mul_one]) (MRow.cells ⟨g, cap, cur, fz, rfl, hbg, hg, hfz, hnc, hcm, hcs, htake⟩) tx (by omega) (by omega) (growslice_fits (by omega) (by rw [hz2]; omega))
    have hge := grownCap_ge w (l.length + tx.size) cap 5
    have hcm2 : grownCap w (l.length + tx.size) cap 5 ≤ maxLen := grownCap_le_maxLen w _ cap _ (by unfold maxLen; omega)
    refine ⟨_, _, hr, ⟨w.heap.size, _, _, (0, 0), by rw [List.length_append, hsz], hbase, heap_alloc_new w.drew _, NoFz.zero _, by rw [List.length_append, hsz]; exact hge, hcm2, ?_, ?_⟩, ⟨rfl, rfl, rfl, by simp, fun k hk _ => heap_alloc_old w.drew _ hk⟩⟩
    · have hzz : (Value.int IntKind.u8 0).cells.size = 1 := rfl
      simp only [Array.size_append, List.size_toArray, size_zeroCells, hzz, bc_len, hbl]
      omega
    · simp only [Array.toList_append, List.append_assoc]
      rw [← List.append_assoc, bc_str, ← bc_append, List.take_left' (by rw [bc_len])]
theorem append_stringM (w : World) {ops : Array Oper} {rest : List Oper} {o : Oper} {a : Act} {Q : Exit → Act → World → Prop}
    (hg : o.guard = none) (s x : Operand) (hop : o.op = Op.call { callee := Callee.builtin Builtin.append, args := #[s, x], argTypes := #[22, 9] })
    (base : Nat) (v : Value) (l : List UInt8) (tx : ByteArray) (hs : a.eval s = v) (hown : MRow base w v l) (hx : a.eval x = .string tx)
    (hlen : l.length + tx.size ≤ 1099511627776) (hbase : base ≤ w.heap.size)
    (hK : ∀ g n' cap' w', Hid (n' = (l ++ tx.data.toList).length) → Hid (MRow base w' (.slice (some ⟨g, 0, none⟩) n' cap') (l ++ tx.data.toList)) → Hid (w.grownBy w' v.ownBlock) → wpList Tryd.prog ops Q rest (a.put o.dst (.slice (some ⟨g, 0, none⟩) n' cap')) w') :
    wpList Tryd.prog ops Q (o :: rest) a w := by
  refine wpList_plain hg fun K hK' => ?_
  obtain ⟨v', w', hr, h2, h3⟩ := run_appendMs w o.type base v l tx hown hlen hbase
  obtain ⟨g, cap, rfl, -, -⟩ := h2.slice
  unfold Oper.wp execOp
  simp only [hop, resolve, invoke, builtin, Sem.run_bind, Sem.run_pure, Result.andThen_ok, List.map_toArray, List.map_cons, List.map_nil, hs, hx, hr]
  exact hK' _ _ (hK g _ cap w' rfl h2 h3)

/-- How an append ends: the row, longer. -/
def AEnd (B : Nat) (w : World) (L : List UInt8) (e : Ending) (w' : World) : Prop := ∃ g n cap, e = .returned (.slice (some ⟨g, 0, none⟩) n cap) ∧ n = L.length ∧ MRow B w' (.slice (some ⟨g, 0, none⟩) n cap) L ∧ Below B w w'

theorem nd20 {u : Nat} (h1 : 1 ≤ u) (h2 : u < 18446744073709551616) : Lib.nDigits u ≤ 20 := by have := Lib.numDigits_eq u h1 h2; split at this <;> omega

set_option maxRecDepth 100000 in
set_option maxHeartbeats 3200000 in
theorem appendUint_small (B u : Nat) (hu : u < 100) (v : Value) (l : List UInt8) (w : World) (hown : MRow B w v l) (hB : B ≤ w.heap.size) (hl : l.length ≤ 1000000) :
    Calls Tryd.prog 56 #[v, .int .u64 u, .int .i64 10] w (AEnd B w (l ++ Lib.decDigits u)) := by
  have hlen : (Lib.decDigits u).length ≤ 20 := by
    rw [Lib.decDigits_length]
    by_cases h10 : u < 10
    · rw [Lib.nDigits_small h10]; omega
    · rw [Lib.nDigits_big h10, Lib.nDigits_small (show u / 10 < 10 by omega)]; omega
  have hsz : (⟨(Lib.decDigits u).toArray⟩ : ByteArray).size = (Lib.decDigits u).length := by simp [ByteArray.size]
  have HSM := hide (fun W => Tryd.internal_strconv_small u hu W)
  have HO := hide hown
  have hll : l.length + (⟨(Lib.decDigits u).toArray⟩ : ByteArray).size ≤ 1099511627776 := by rw [hsz]; omega
  clear hown hsz
  go_enter Tryd.func56, Tryd.ntmps56
  go_wp2_with (first
    | (go_at_call 69; refine (unhide HSM _).mono ?_; rintro e w' ⟨rfl, rfl⟩)
    | (at_builtin; refine append_stringM _ rfl _ _ rfl B v l ⟨(Lib.decDigits u).toArray⟩ rfl (unhide HO) rfl hll hB ?_; intro g n' cap' w' HN HR HG))
  go_ret
  exact ⟨g, n', cap', rfl, HN.out, HR.out, (unhide HO).below HG.out hB⟩
end Go.Proofs.YtcnkkegpckibbaaDoor

/- The walk of strconv.AppendInt, on: numbers of three digits and more; the two functions above it. The table of powers is as strconv's text lays it. -/

namespace Go.Proofs.YtcnkkegpckibbaaDoor
open Go Go.RowKit Go.Sort

theorem MRow.on {B : Nat} {w w' : World} {v : Value} {l : List UInt8} (h : MRow B w v l) (hb : Below w.heap.size w w') : MRow B w' v l := h.of_block fun g e => hb.block g (h.lt g e).2

set_option maxRecDepth 100000 in
set_option maxHeartbeats 12800000 in
theorem appendUint_big (B u : Nat) (hu : 100 ≤ u) (hu64 : u < 18446744073709551616) (v : Value) (l : List UInt8) (w : World) (hown : MRow B w v l) (hB : B ≤ w.heap.size) (hl : l.length ≤ 1000000)
    (htab : Lib.TabIs Tryd.prog w "internal/strconv.uint64pow10" .u64 Lib.pow10Tab) :
    Calls Tryd.prog 56 #[v, .int .u64 u, .int .i64 10] w (AEnd B w (l ++ Lib.decDigits u)) := by
  have hu1 : 1 ≤ u := by omega
  have hnd := nd20 hu1 hu64
  have hal : Tryd.prog.arrayLen 103 = 24 := by kernel_rfl
  have hsl : ∀ W, (Instr.sliceAt 103 (.pointer (some ⟨w.heap.size, 0, none⟩)) none (some (.int .i64 (Lib.nDigits u : Int))) none).run Tryd.prog W = .ok (.slice (some ⟨w.heap.size, 0, none⟩) (Lib.nDigits u) 24) W := fun W => by
    rw [run_sliceAt_array_h W 103 ⟨w.heap.size, 0, none⟩ (by simp [Program.arrayLen, Program.elem, Tryd.underlying103]) .i64 (Lib.nDigits u : Int) (by omega) (by rw [hal]; omega)]
    go_simp
  have hH0 := Lib.holds_zero0 w 103 (Lib.nDigits u) (by omega)
  have hfmt := Tryd.internal_strconv_formatBase10 w.heap.size 0 24 u (Array.replicate (Lib.nDigits u) 0) (w.alloc (.cells Lib.zeros24 103)) hH0 (by rw [Array.size_replicate]; exact Lib.lt_pow_nDigits u) hu64 (by rw [Array.size_replicate]; omega)
  rw [Array.size_replicate] at hfmt
  have HH0 := hide hH0; have HF := hide hfmt; have HO := hide hown
  have HN := hide (fun o => Tryd.internal_strconv_numDigits u hu1 hu64 (w.alloc o) (Lib.tabIs_alloc htab _))
  have iu : (100 : Int) ≤ (u : Int) := by omega
  have hdl := Lib.decDigits_length u
  clear hH0 hal hfmt hown htab
  go_enter Tryd.func56, Tryd.ntmps56
  go_wp2_with (first
    | (go_at_call 70; refine (unhide HN _).mono ?_; rintro e w' ⟨rfl, rfl⟩))
  go_at_call 71
  refine (unhide HF).mono ?_
  rintro e w' ⟨rfl, k, v', dk, rfl, hF⟩
  have hcells : ∀ j u', (bc (Lib.decDigits u))[j]? = some u' → ((putRow (fun (b : UInt8) => Value.int .u8 (b.toNat : Int)) (w.alloc (.cells Lib.zeros24 103)) w.heap.size 0 dk).drewN k).cell? ((⟨w.heap.size, 0, none⟩ : Addr).add j) = some u' := by
    intro j u' hj
    have hjl : j < (Lib.decDigits u).length := by rw [← bc_len]; exact (List.getElem?_eq_some_iff.1 hj).1
    have e5 : (bc (Lib.decDigits u))[j]? = some (Value.int .u8 ((Lib.decDigits u)[j].toNat : Int)) := by simp [bc, hjl]
    rw [e5] at hj
    cases hj
    rw [Lib.row_is_numeral hF j hjl, Lib.add_plain, World.cell?_drewN]
    exact cell?_putRow (fun (b : UInt8) => Value.int .u8 (b.toNat : Int)) _ w.heap.size 0 _ dk (unhide HH0) (by rw [hF.size, Array.size_replicate]) j (by rw [hF.size]; rw [hdl] at hjl; exact hjl)
  obtain ⟨os, eo⟩ := Lib.fin_at w (.cells Lib.zeros24 103) dk k 0
  have hb2 : Below w.heap.size w ((putRow (fun (b : UInt8) => Value.int .u8 (b.toNat : Int)) (w.alloc (.cells Lib.zeros24 103)) w.heap.size 0 dk).drewN k) := by rw [eo]; exact Lib.below_grow w.heap.size w (Nat.le_refl _) k os
  generalize (putRow (fun (b : UInt8) => Value.int .u8 (b.toNat : Int)) (w.alloc (.cells Lib.zeros24 103)) w.heap.size 0 dk).drewN k = W2 at hcells hb2 ⊢
  have HO2 := hide ((unhide HO).on hb2); have HB2 := hide (hb2.mono hB); have hB2 : B ≤ W2.heap.size := Nat.le_trans hB hb2.size
  have HCE := hide hcells
  clear eo HH0 HF hF hcells hb2 HN
  go_wp2_with (at_builtin; refine append_bytesM _ rfl _ _ rfl B v l (Lib.decDigits u) rfl (unhide HO2) ⟨w.heap.size, 0, none⟩ (Lib.nDigits u) 24 rfl hdl.symm (unhide HCE) (by omega) hB2 ?_; intro g n' cap' w3 HN3 HR3 HG3)
  go_ret
  exact ⟨g, n', cap', rfl, HN3.out, HR3.out, (unhide HB2).trans ((unhide HO2).below HG3.out hB2)⟩

theorem appendUint_any (B u : Nat) (hu64 : u < 18446744073709551616) (v : Value) (l : List UInt8) (w : World) (hown : MRow B w v l) (hB : B ≤ w.heap.size) (hl : l.length ≤ 1000000)
    (htab : Lib.TabIs Tryd.prog w "internal/strconv.uint64pow10" .u64 Lib.pow10Tab) :
    Calls Tryd.prog 56 #[v, .int .u64 u, .int .i64 10] w (AEnd B w (l ++ Lib.decDigits u)) := by
  by_cases h : u < 100
  · exact appendUint_small B u h v l w hown hB hl
  · exact appendUint_big B u (by omega) hu64 v l w hown hB hl htab

set_option maxRecDepth 100000 in
set_option maxHeartbeats 3200000 in
theorem appendIntI_any (B u : Nat) (hu : u ≤ 999999999) (v : Value) (l : List UInt8) (w : World) (hown : MRow B w v l) (hB : B ≤ w.heap.size) (hl : l.length ≤ 1000000)
    (htab : Lib.TabIs Tryd.prog w "internal/strconv.uint64pow10" .u64 Lib.pow10Tab) :
    Calls Tryd.prog 41 #[v, .int .i64 u, .int .i64 10] w (AEnd B w (l ++ Lib.decDigits u)) := by
  have HC := hide (appendUint_any B u (by omega) v l w hown hB hl htab)
  have h0 : ¬ ((u : Int) < 0) := by omega
  have hwr : IntKind.u64.wrap (u : Int) = (u : Int) := by rw [IntKind.wrap_u64]; omega
  clear hown htab
  go_enter Tryd.func41, Tryd.ntmps41
  go_wp2_with (go_at_call 56; refine (unhide HC).mono ?_; rintro e w2 ⟨g, n', cap', rfl, hn, hr, hb⟩; have HE := hide (show AEnd B w (l ++ Lib.decDigits u) (.returned (.slice (some ⟨g, 0, none⟩) n' cap')) w2 from ⟨g, n', cap', rfl, hn, hr, hb⟩); clear hn hr hb)
  go_ret
  exact unhide HE

set_option maxRecDepth 100000 in
set_option maxHeartbeats 3200000 in
theorem appendInt_any (B u : Nat) (hu : u ≤ 999999999) (v : Value) (l : List UInt8) (w : World) (hown : MRow B w v l) (hB : B ≤ w.heap.size) (hl : l.length ≤ 1000000)
    (htab : Lib.TabIs Tryd.prog w "internal/strconv.uint64pow10" .u64 Lib.pow10Tab) :
    Calls Tryd.prog 35 #[v, .int .i64 u, .int .i64 10] w (AEnd B w (l ++ Lib.decDigits u)) := by
  have HC := hide (appendIntI_any B u hu v l w hown hB hl htab)
  clear hown htab
  go_enter Tryd.func35, Tryd.ntmps35
  go_wp2_with (go_at_call 41; refine (unhide HC).mono ?_; rintro e w2 ⟨g, n', cap', rfl, hn, hr, hb⟩; have HE := hide (show AEnd B w (l ++ Lib.decDigits u) (.returned (.slice (some ⟨g, 0, none⟩) n' cap')) w2 from ⟨g, n', cap', rfl, hn, hr, hb⟩); clear hn hr hb)
  go_ret
  exact unhide HE
end Go.Proofs.YtcnkkegpckibbaaDoor

/- The walk of the program's planLine: a word, numbers, a newline. The table of powers is as strconv's text lays it; at most 4 numbers, from 0 to 999999999. -/

namespace Go.Proofs.YtcnkkegpckibbaaDoor
open Go Go.RowKit Go.Sort

theorem bytes_ofM (w : World) (s : ByteArray) (hs : s.size ≤ 1000000) : ∃ cap W, (convert 9 22 (.string s)).run Tryd.prog w = .ok (.slice (some ⟨w.heap.size, 0, none⟩) s.size cap) W ∧ MRow w.heap.size W (.slice (some ⟨w.heap.size, 0, none⟩) s.size cap) s.data.toList ∧ Below w.heap.size w W := by
  have hge := grownCap_ge w s.size 0 5
  have hsz : s.data.toList.length = s.size := by simp
  have hbs : (bytesRow s (grownCap w s.size 0 5)).size = grownCap w s.size 0 5 := by
    unfold bytesRow
    have : s.data.size = s.size := rfl
    simp; omega
  refine ⟨_, _, run_bytes_of_string w 9 22 5 s Tryd.underlying9 Tryd.underlying22 Tryd.underlying5, ⟨w.heap.size, _, _, _, by rw [hsz], Nat.le_refl _, heap_alloc_new w.drew _, NoFz.behind _, by rw [hsz]; exact hge, grownCap_le_maxLen w _ _ _ (by unfold maxLen; omega), hbs, ?_⟩, ?_⟩
  · unfold bytesRow
    rw [Array.toList_append, Array.toList_map, List.take_left' (by rw [List.length_map])]
    rfl
  · exact ((Below.refl _ w).drew).alloc (by show w.heap.size ≤ w.heap.size; exact Nat.le_refl _) _

theorem one_byteM (w : World) (x : UInt8) (z : Int) (hz : z = x.toNat) (t : TypeId) : ∀ j u, (bc [x])[j]? = some u → (w.alloc (.cells #[.int .u8 z] t)).cell? ((⟨w.heap.size, 0, none⟩ : Addr).add j) = some u := by
  subst hz; exact byte_one w x t

/-- A line as it grows. -/
def lnX (s : ByteArray) (zs : List Int) (k : Nat) : List UInt8 := s.data.toList ++ ((zs.take k).map fun z => 32 :: Lib.itoa z).flatten
theorem lnX_zero (s : ByteArray) (zs : List Int) : lnX s zs 0 = s.data.toList := by simp [lnX]
theorem lnX_succ {s : ByteArray} {zs : List Int} {k : Nat} (h : k < zs.length) : lnX s zs (k + 1) = lnX s zs k ++ [32] ++ Lib.itoa zs[k] := by
  unfold lnX
  rw [List.take_succ_eq_append_getElem h, List.map_append, List.flatten_append]
  simp
theorem lnX_len {s : ByteArray} {zs : List Int} (hz : ∀ i, (h : i < zs.length) → 0 ≤ zs[i] ∧ zs[i] ≤ 999999999) : ∀ k, k ≤ zs.length → (lnX s zs k).length ≤ s.size + 22 * k
  | 0, _ => by rw [lnX_zero]; simp
  | k + 1, hk => by
    have ih := lnX_len (s := s) hz k (by omega)
    have h1 := hz k (by omega)
    have h2 := Lib.itoa_length_le zs[k] (by omega) (by omega)
    rw [lnX_succ (by omega)]
    simp only [List.length_append, List.length_cons, List.length_nil]
    omega
theorem itoa_nat (u : Nat) : Lib.itoa (u : Int) = Lib.decDigits u := by
  unfold Lib.itoa
  rw [if_neg (by omega)]; rfl

set_option maxRecDepth 100000 in
set_option maxHeartbeats 3200000 in
theorem planLine_any (s : ByteArray) (hs : s.size ≤ 10) (zs : List Int) (a : Option Addr) (cap : Nat) (w : World) (h4 : zs.length ≤ 4) (hz : ∀ i, (h : i < zs.length) → 0 ≤ zs[i] ∧ zs[i] ≤ 999999999)
    (hc : ∀ i, (h : i < zs.length) → ∃ b o, a = some ⟨b, o, none⟩ ∧ b < w.heap.size ∧ w.cell? ⟨b, o + i, none⟩ = some (.int .i64 zs[i]))
    (htab : Lib.TabIs Tryd.prog w "internal/strconv.uint64pow10" .u64 Lib.pow10Tab) :
    Calls Tryd.prog 29 #[.string s, .slice a zs.length cap] w fun e w' => e = .returned (.string ⟨(lnX s zs zs.length ++ [10]).toArray⟩) ∧ Below w.heap.size w w' := by
  obtain ⟨cap0, W0, hcv, hm0, hb0⟩ := bytes_ofM w s (by omega)
  have HTB := hide (Lib.tabBelow_of_tabIs htab)
  have HLN := hide (fun k hk => lnX_len (s := s) hz k hk)
  have HC := hide hc; have HZ := hide hz; have HM0 := hide hm0; have HB0 := hide hb0
  have hsz : s.data.toList.length = s.size := by simp
  have HSZ := hide hsz
  clear hc hz hm0 hb0 htab hsz
  go_enter Tryd.func29, Tryd.ntmps29
  go_wp2_with fail
  clear hcv
  go_loopw [5, 12] (fun ln i wr => ∃ (k g n cp : Nat), k ≤ zs.length ∧ i = .int .i64 k ∧ ln = .slice (some ⟨g, 0, none⟩) n cp ∧ Hid (MRow w.heap.size wr (.slice (some ⟨g, 0, none⟩) n cp) (lnX s zs k)) ∧ Hid (Below w.heap.size w wr)) (fun _ i _ => zs.length - (intOf i).toNat)
  case atStart => exact ⟨0, w.heap.size, s.size, cap0, Nat.zero_le _, rfl, rfl, by show MRow _ _ _ _; rw [lnX_zero]; exact unhide HM0, unhide HB0⟩
  case round =>
    clear HM0 HB0
    obtain ⟨k, g, n, cp, hk, rfl, rfl, HM, HB⟩ := hrel
    have hln := unhide HLN k hk
    have hbs : w.heap.size ≤ wr.heap.size := HB.out.size
    by_cases hlt : k < zs.length
    · obtain ⟨b, o, rfl, hpb, hcell⟩ := unhide HC k hlt
      have hcell2 := (HB.out.cell (p := ⟨b, o + k, none⟩) hpb).trans hcell
      have hzk := unhide HZ k hlt
      have HSUC := hide (lnX_succ (s := s) hlt)
      clear hcell
      generalize zs[k] = z at *
      obtain ⟨u, rfl⟩ : ∃ u : Nat, z = u := ⟨z.toNat, by omega⟩
      rw [itoa_nat] at HSUC
      have HCA := hide (fun (g2 n2 cp2 : Nat) (W : World) (hW : Below w.heap.size w W) (hM : MRow w.heap.size W (.slice (some ⟨g2, 0, none⟩) n2 cp2) (lnX s zs k ++ [32])) => appendInt_any w.heap.size u (by omega) _ _ W hM hW.size (by simp; omega) ((unhide HTB).on hW).here)
      have hle : (lnX s zs k).length + ([32] : List UInt8).length ≤ 1099511627776 := by simp; omega
      have hbs2 : ∀ o, w.heap.size ≤ (wr.alloc o).heap.size := fun o => by simp; omega
      clear hln hzk
      go_wp2_with (first
        | (at_builtin; refine append_bytesM _ rfl _ _ rfl w.heap.size (.slice (some ⟨g, 0, none⟩) n cp) (lnX s zs k) [32] rfl (HM.out.alloc _) ⟨wr.heap.size, 0, none⟩ 1 1 rfl rfl (one_byteM _ 32 _ rfl _) hle (hbs2 _) ?_
           intro g2 n2 cp2 w2 HN2 HM2 HG2
           have HB2 := hide ((HB.out.alloc hbs _).trans ((HM.out.alloc _).below HG2.out (hbs2 _)))
           clear HG2)
        | (go_at_call 35; refine (unhide HCA g2 n2 cp2 w2 (unhide HB2) HM2.out).mono ?_; rintro e w3 ⟨g3, n3, cp3, rfl, hn3, hm3, hb3⟩; have HM3 := hide hm3; have HB3 := hide ((unhide HB2).trans hb3); clear hn3 hm3 hb3))
      go_roundw
      case rel => exact ⟨k + 1, g3, n3, cp3, by omega, by go_num, rfl, by show MRow _ _ _ _; rw [unhide HSUC]; exact unhide HM3, unhide HB3⟩
      case measure => simp [intOf]; omega
    · obtain rfl : k = zs.length := by omega
      have hle : (lnX s zs zs.length).length + ([10] : List UInt8).length ≤ 1099511627776 := by simp; omega
      have hbs2 : ∀ o, w.heap.size ≤ (wr.alloc o).heap.size := fun o => by simp; omega
      clear hln
      go_wp2_with (at_builtin; refine append_bytesM _ rfl _ _ rfl w.heap.size (.slice (some ⟨g, 0, none⟩) n cp) (lnX s zs zs.length) [10] rfl (HM.out.alloc _) ⟨wr.heap.size, 0, none⟩ 1 1 rfl rfl (one_byteM _ 10 _ rfl _) hle (hbs2 _) ?_
                   intro g2 n2 cp2 w2 HN2 HM2 HG2
                   have HB2 := hide ((HB.out.alloc hbs _).trans ((HM.out.alloc _).below HG2.out (hbs2 _)))
                   have hconv := HM2.out.str
                   clear HG2)
      go_ret
      exact ⟨rfl, unhide HB2⟩
end Go.Proofs.YtcnkkegpckibbaaDoor

/- The walk of the program's planLines and of its closure: the lines of a plan that is ok, one behind the other, as long as one listens. The table of powers is as strconv's text lays it. -/

namespace Go.Proofs.YtcnkkegpckibbaaDoor
open Go Go.RowKit Go.Shelf

attribute [local go_sem] Oper.semAt_some

/-- A line. -/
abbrev LX := { x : ByteArray // x.size ≤ 200 }
def lKey (x : LX) : List UInt8 := x.1.data.toList
def lEnc (x : LX) : Array Value := #[.string x.1]
def lines (l : Pl) : List (List UInt8) := l.parts.map sealL ++ [opnL l, endL]
theorem lines_text (l : Pl) : (lines l).flatten = plT l := by
  unfold lines plT plX
  rw [List.take_length, List.flatten_append]; simp
def mkL (x : List UInt8) (h : x.length ≤ 200) : LX := ⟨⟨x.toArray⟩, by simpa [ByteArray.size] using h⟩
theorem seal_ln (p : Pt) : lnX ⟨#[115, 101, 97, 108]⟩ [p.num, p.first, p.next, p.size] 4 ++ [10] = sealL p := by
  unfold lnX sealL; simp
theorem open_ln (l : Pl) : lnX ⟨#[111, 112, 101, 110]⟩ [l.op, l.fi] 2 ++ [10] = opnL l := by
  unfold lnX opnL; simp
theorem end_ln : lnX ⟨#[101, 110, 100]⟩ [] 0 ++ [10] = endL := by
  unfold lnX endL; simp

/-- Below M nothing has turned but one block. -/
structure KpL (M b3 : Nat) (W W' : World) : Prop where
  size : W.heap.size ≤ W'.heap.size
  block : ∀ k, k < M → k ≠ b3 → W'.heap[k]? = W.heap[k]?
theorem KpL.trans {M b3 : Nat} {A B C : World} (h : KpL M b3 A B) (k : KpL M b3 B C) : KpL M b3 A C := ⟨Nat.le_trans h.size k.size, fun i h1 h2 => (k.block i h1 h2).trans (h.block i h1 h2)⟩
theorem KpL.of_below {M b3 : Nat} {A B : World} (h : Below A.heap.size A B) (hM : M ≤ A.heap.size) : KpL M b3 A B := ⟨h.size, fun i h1 _ => h.block i (Nat.lt_of_lt_of_le h1 hM)⟩
theorem KpL.putObj {M b3 : Nat} {w : World} (hM : M ≤ w.heap.size) (W : World) (l : Nat) (o o' : Obj) (hl : w.heap.size ≤ l) (_ : W.heap[l]? = some o) (_ : o.isCells = false) (_ : o.isWalk = false) : KpL M b3 W (W.putObj l o') :=
  ⟨by simp [World.putObj], fun k h1 _ => World.putObj_heap_other (by omega)⟩
theorem grown_of_below {A B : World} (h : Below A.heap.size A B) : A.grownBy B none := ⟨h.os, h.tape, h.output, h.size, fun i hi _ => h.block i hi⟩

theorem gPowL : Tryd.prog.globalNamed "internal/strconv.uint64pow10" = some 3 := by kernel_rfl
theorem tab_keep {w w' : World} (h : Lib.TabIs Tryd.prog w "internal/strconv.uint64pow10" .u64 Lib.pow10Tab) (hb : w'.heap[3]? = w.heap[3]?) : Lib.TabIs Tryd.prog w' "internal/strconv.uint64pow10" .u64 Lib.pow10Tab := by
  unfold Lib.TabIs World.var? at h ⊢
  rw [gPowL] at h ⊢
  simp only [Option.bind_some] at h ⊢
  rw [hb]; exact h

set_option maxHeartbeats 1000000 in
theorem planLines_in (n : Nat) (c0 c1 c2 : Value) (w : World) (h0 : ∃ a m cap, c0 = .slice a m cap) (h1 : ∃ z, c1 = .int .i64 z) (h2 : ∃ z, c2 = .int .i64 z) :
    CallsIn Fence.wide n Tryd.prog 19 #[.agg #[c0, c1, c2]] w fun e w' => e = .returned (.func (.func 28) #[] #[.pointer (some ⟨w.heap.size, 0, none⟩)]) ∧ w' = w.alloc (.cells #[c0, c1, c2] 25) := by
  obtain ⟨a, m, cap, rfl⟩ := h0
  obtain ⟨z1, rfl⟩ := h1
  obtain ⟨z2, rfl⟩ := h2
  refine callsIn_of_wp Tryd.func19 rfl trivial ?_ rfl
  simp only [Tryd.ntmps19, List.size_toArray, List.length_cons, List.length_nil, Nat.reduceAdd, Nat.reduceSub, Array.replicate_succ, Array.replicate_zero, List.push_toArray, List.append_toArray, List.nil_append, List.cons_append]
  gi_wp2
  go_ret
  exact ⟨rfl, rfl⟩

/-- What planLine says, at numbers that were just laid. -/
theorem line_laid (s : ByteArray) (hs : s.size ≤ 10) (zs : List Int) (g : Nat) (W : World) (h4 : zs.length ≤ 4) (hz : ∀ z, z ∈ zs → 0 ≤ z ∧ z ≤ 999999999) (hc : ∀ i, (h : i < zs.length) → W.cell? ⟨g, i, none⟩ = some (.int .i64 zs[i])) (hg : g < W.heap.size)
    (htab : Lib.TabIs Tryd.prog W "internal/strconv.uint64pow10" .u64 Lib.pow10Tab) :
    Calls Tryd.prog 29 #[.string s, .slice (some ⟨g, 0, none⟩) zs.length zs.length] W fun e w' => e = .returned (.string ⟨(lnX s zs zs.length ++ [10]).toArray⟩) ∧ Below W.heap.size W w' :=
  planLine_any s hs zs (some ⟨g, 0, none⟩) zs.length W h4 (fun i h => hz _ (List.getElem_mem h)) (fun i h => ⟨g, 0, rfl, hg, by rw [Nat.zero_add]; exact hc i h⟩) htab
end Go.Proofs.YtcnkkegpckibbaaDoor

/- The walk of the closure of textLines: the lines of a text. Conditions: the text is bounded; strings' bound is some number, strconv's two errors are some errors. -/

namespace Go.Proofs.YtcnkkegpckibbaaDoor
open Go Go.RowKit Go.Shelf

attribute [local go_sem] Oper.semAt_some

def gTopP : Nat := max (max 0 1) 2 + 1
theorem EnvP.keep {w w' : World} (h : EnvP w) (hb : ∀ b, b < gTopP → w'.heap[b]? = w.heap[b]?) : EnvP w' := by
  obtain ⟨m, h0⟩ := h.max
  obtain ⟨e1, h1, k1⟩ := h.syn
  obtain ⟨e2, h2, k2⟩ := h.rng
  refine ⟨⟨m, ?_⟩, ⟨e1, ?_, k1⟩, ⟨e2, ?_, k2⟩⟩
  · rw [World.cell?_of_block (w := w) (hb _ (by decide))]; exact h0
  · rw [World.cell?_of_block (w := w) (hb _ (by decide))]; exact h1
  · rw [World.cell?_of_block (w := w) (hb _ (by decide))]; exact h2
/-- The lines of a text. -/
def lnN : Nat → List UInt8 → Bool → List (List UInt8)
  | 0, _, _ => []
  | _ + 1, _, false => []
  | f + 1, X, true => (Lib.cut X [10]).1 :: lnN f (Lib.cut X [10]).2.1 (Lib.cut X [10]).2.2
def lnsT (X : List UInt8) : List (List UInt8) := lnN (X.length + 1) X true
theorem lnN_end {f : Nat} {X : List UInt8} : lnN f X false = [] := by cases f <;> rfl
/-- What lines say. -/
def foldP : Pl → List (List UInt8) → Option Pl
  | p, [] => some p
  | p, L :: Ls => match lineP p L with
    | none => none
    | some p' => foldP p' Ls
theorem foldP_lines : ∀ (f : Nat) (p l : Pl) (X : List UInt8), linesP f p X = some l → foldP p (lnN f X true) = some l
  | 0, p, l, X, h => by cases h
  | f + 1, p, l, X, h => by
    simp only [linesP] at h
    simp only [lnN, foldP]
    cases e : lineP p (Lib.cut X [10]).1 with
    | none => rw [e] at h; cases h
    | some p' =>
      rw [e] at h
      dsimp only at h ⊢
      cases m : (Lib.cut X [10]).2.2 with
      | true => rw [m, if_pos rfl] at h; exact foldP_lines f p' l _ h
      | false => rw [m, if_neg (by decide)] at h; rw [lnN_end]; exact h
theorem plT_long (l : Pl) : l.parts.length + 2 ≤ (plT l).length := by
  have : ∀ ps : List Pt, ps.length ≤ ((ps.map sealL).flatten).length := fun ps => by
    induction ps with
    | nil => simp
    | cons p ps ih =>
      rw [List.map_cons, List.flatten_cons, List.length_append, List.length_cons]
      have : 1 ≤ (sealL p).length := by unfold sealL; simp
      omega
  have h := this l.parts
  unfold plT plX
  rw [List.take_length, List.length_append, List.length_append]
  have : endL.length = 4 := rfl
  omega
/-- Of a plan's own text the lines say that plan. -/
theorem foldP_plT {l : Pl} (h : plOk l) : foldP ⟨[], 0, 0⟩ (lnsT (plT l)) = some l := by
  have hl := plT_long l
  refine foldP_lines _ _ _ _ ?_
  have := linesP_plT h ((plT l).length + 1 - 3 - l.parts.length)
  rw [show (plT l).length + 1 - 3 - l.parts.length + 3 + l.parts.length = (plT l).length + 1 by omega] at this
  exact this
abbrev TX := Int × { x : ByteArray // x.size ≤ 1048576 }
def tKey (x : TX) : List UInt8 := x.2.1.data.toList
def tEnc (x : TX) : Array Value := #[.int .i64 x.1, .string x.2.1]
theorem cut_more (X : List UInt8) (h : (Lib.cut X [10]).2.2 = true) : (Lib.cut X [10]).2.1.length + 1 ≤ X.length := by
  unfold Lib.cut at h ⊢
  split at h
  · next hi =>
    have := Lib.index_room X [10] hi
    rw [if_pos hi]
    simp only [List.length_drop, List.length_cons, List.length_nil] at this ⊢
    omega
  · cases h
set_option maxRecDepth 100000 in
set_option maxHeartbeats 3200000 in
theorem textLines1_in (n l : Nat) (s : ByteArray) (hs : s.size ≤ 1048576) (M Bp : Nat) (w0 : World) (hE : EnvP w0) (hM : gTopP ≤ M) (hMs : M ≤ w0.heap.size) (J Jx : List TX → World → Prop) (hJ : ∀ s A B, J s A → A.grownBy B none → J s B)
    (hY : ∀ pre x W, J pre W → pre.length < s.size + 1 → YieldAt Fence.wide (n - 1) Tryd.prog l (tEnc x) W fun e W' => (e = .returned (.bool true) ∧ J (pre ++ [x]) W' ∧ KpL M M W W') ∨ (e = .returned (.bool false) ∧ Jx (pre ++ [x]) W'))
    (W : World) (hW : KpL M M w0 W) (hbox : W.cell? ⟨Bp, 0, none⟩ = some (.string s)) (h0 : J [] W) :
    CallsIn Fence.wide n Tryd.prog 38 #[.func (.yield l) #[] #[], .pointer (some ⟨Bp, 0, none⟩)] W fun e W' => (∃ v, e = .returned v) ∧ ((∃ ys : List TX, ys.map tKey = lnsT s.data.toList ∧ J ys W') ∨ (∃ pre : List TX, (∃ r, pre.map tKey ++ r = lnsT s.data.toList) ∧ Jx pre W')) := by
  have hdd : ∀ k : Nat, (Fence.wide.depth.isSome = true → 1 ≤ k) := fun k h => by cases h
  have hXl : s.data.toList.length = s.size := by rw [Array.length_toList]; rfl
  have HCUT : Hid (∀ (r : ByteArray) (V : World), r.size ≤ 1048576 → KpL M M w0 V → ∀ s', J s' V → Calls Tryd.prog 39 #[.string r, .string ⟨#[10]⟩] V fun e w' => e = .returned (.tuple #[.string ⟨(Lib.cut r.data.toList [10]).1.toArray⟩, .string ⟨(Lib.cut r.data.toList [10]).2.1.toArray⟩, .bool (Lib.cut r.data.toList [10]).2.2]) ∧ Hid (KpL M M w0 w') ∧ Hid (J s' w')) := fun r V hr hV s' hs' =>
    (cutP r ⟨#[10]⟩ hr V (hE.keep fun b hb => hV.block b (by omega) (by omega))).mono fun e w' ⟨h1, h2⟩ => ⟨h1, hide (hV.trans (KpL.of_below h2 (Nat.le_trans hMs hV.size))), hide (hJ _ _ _ hs' (grown_of_below h2))⟩
  have HY := hide hY; have HW := hide hW; have H0 := hide h0
  have HST := hide (show lnsT s.data.toList = ([] : List TX).map tKey ++ lnN (s.size + 1 - 0) s.data.toList true by unfold lnsT; rw [hXl]; rfl)
  clear hE hM hMs hJ hY hW h0 hXl
  refine callsIn_of_wp Tryd.func38 rfl trivial ?_ rfl
  simp only [Tryd.ntmps38, List.size_toArray, List.length_cons, List.length_nil, Nat.reduceAdd, Nat.reduceSub, Array.replicate_succ, Array.replicate_zero, List.push_toArray, List.append_toArray, List.nil_append, List.cons_append]
  gi_wp2
  clear hbox
  gi_loopw [3, 4, 5] (fun vr vm vi wr => ∃ (r : ByteArray) (m : Bool) (k : Nat) (pre : List TX), r.size ≤ 1048576 ∧ (m = true → r.size + k ≤ s.size) ∧ k ≤ s.size + 1 ∧ vr = .string r ∧ vm = .bool m ∧ vi = .int .i64 ((k : Int) + 1) ∧ Hid (pre.length = k) ∧ Hid (lnsT s.data.toList = pre.map tKey ++ lnN (s.size + 1 - k) r.data.toList m) ∧ Hid (J pre wr) ∧ Hid (KpL M M w0 wr)) (fun _ _ vi _ => s.size + 2 - (intOf vi).toNat)
  case atStart => exact ⟨s, true, 0, [], hs, fun _ => by omega, by omega, rfl, rfl, rfl, rfl, unhide HST, unhide H0, unhide HW⟩
  case round =>
    clear HW H0 HST
    obtain ⟨r, m, k, pre, hr, hrk, hk, rfl, rfl, rfl, HPL, HP, HJP, HK⟩ := hrel
    cases m with
    | false =>
      have HE := hide (show pre.map tKey = lnsT s.data.toList by rw [HP.out, lnN_end, List.append_nil])
      clear hrk
      gi_wp2
      go_end0
      exact ⟨⟨_, rfl⟩, .inl ⟨pre, unhide HE, HJP.out⟩⟩
    | true =>
      have hrk := hrk rfl
      obtain ⟨D, Q, m2, hc, hD, hQ, hm, hcut⟩ : ∃ (D Q : ByteArray) (m2 : Bool), Lib.cut r.data.toList [10] = (D.data.toList, Q.data.toList, m2) ∧ D.size ≤ 1048576 ∧ Q.size ≤ 1048576 ∧ (m2 = true → Q.size + 1 ≤ r.size) ∧ Calls Tryd.prog 39 #[.string r, .string ⟨#[10]⟩] wr fun e w' => e = .returned (.tuple #[.string D, .string Q, .bool m2]) ∧ Hid (KpL M M w0 w') ∧ Hid (J pre w') := by
        have hl := cut_len r.data.toList [10]
        rw [show r.data.toList.length = r.size by rw [Array.length_toList]; rfl] at hl
        have hl2 := cut_more r.data.toList
        rw [show r.data.toList.length = r.size by rw [Array.length_toList]; rfl] at hl2
        exact ⟨⟨(Lib.cut r.data.toList [10]).1.toArray⟩, ⟨(Lib.cut r.data.toList [10]).2.1.toArray⟩, (Lib.cut r.data.toList [10]).2.2, rfl, Nat.le_trans hl.1 hr, Nat.le_trans hl.2 hr, hl2, unhide HCUT r wr hr HK.out pre HJP.out⟩
      have HST := hide (show lnsT s.data.toList = (pre ++ [(((k : Int) + 1, ⟨D, hD⟩) : TX)]).map tKey ++ lnN (s.size + 1 - (k + 1)) Q.data.toList m2 by
        rw [HP.out, show s.size + 1 - k = s.size + 1 - (k + 1) + 1 by omega]
        simp only [lnN, hc, List.map_append, List.map_cons, List.map_nil, List.append_assoc, List.cons_append, List.nil_append]
        rfl)
      have HCU := hide hcut; have HM := hide hm; have HPL2 := hide (show (pre ++ [(((k : Int) + 1, ⟨D, hD⟩) : TX)]).length = k + 1 by rw [List.length_append, HPL.out]; rfl)
      have hpl : pre.length < s.size + 1 := by rw [HPL.out]; omega
      have HK1 := HK
      clear hc hm hcut HP HCUT
      gi_wp2_with (first
        | ((try refine ⟨trivial, ?_⟩); (try refine ⟨hdd _, ?_⟩); gi_at_call 39; refine (callsIn_wide.2 (unhide HCU)).mono ?_; clear HCU; rintro e w3 ⟨rfl, HK3, HJ3⟩
           obtain ⟨fn, tmps, assign, body, hy, hR⟩ := unhide HY pre ((k : Int) + 1, ⟨D, hD⟩) w3 HJ3.out hpl
           simp only [tEnc] at hy)
        | ((try refine ⟨hdd _, ?_⟩); refine hR.mono ?_; clear hR hy; rintro e W4 (⟨rfl, HJ4, HK4⟩ | ⟨rfl, HX4⟩)))
      · go_roundw
        case rel => exact ⟨Q, m2, k + 1, _, hQ, fun h => by have := unhide HM h; omega, by omega, rfl, rfl, by go_num, unhide HPL2, unhide HST, HJ4, HK3.out.trans HK4⟩
        case measure => simp [intOf]; omega
      · refine bodyPost_ret (results_none rfl _ _ _) rfl ?_
        exact ⟨⟨_, rfl⟩, .inr ⟨_, ⟨_, (unhide HST).symm⟩, HX4⟩⟩
theorem textLines_in (n : Nat) (s : ByteArray) (w : World) :
    CallsIn Fence.wide n Tryd.prog 31 #[.string s] w fun e w' => e = .returned (.func (.func 38) #[] #[.pointer (some ⟨w.heap.size, 0, none⟩)]) ∧ w' = w.alloc (.cells #[.string s] 9) := by
  refine callsIn_of_wp Tryd.func31 rfl trivial ?_ rfl
  simp only [Tryd.ntmps31, List.size_toArray, List.length_cons, List.length_nil, Nat.reduceAdd, Nat.reduceSub, Array.replicate_succ, Array.replicate_zero, List.push_toArray, List.append_toArray, List.nil_append, List.cons_append]
  gi_wp2
  go_ret
  exact ⟨rfl, rfl⟩
end Go.Proofs.YtcnkkegpckibbaaDoor
