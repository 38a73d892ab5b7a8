/- The walk of strconv.AppendInt, for numbers that are not below 0, onto a row of bytes that may bear a mark behind its cells. The table of powers is as strconv's text lays it. -/
import Derived.Test.YtmaojhacdelleaaDoorMRow
import Derived.Test.YtmaojhacdelleaaDoorShelf
import Derived.Lib.AppendIntMem
import Derived.Lib.BufferKept
import Derived.Lib.Slices
import Derived.OwnWalk
import Derived.BigCall
import Derived.BigGuard
import Derived.CellFam
import Derived.Handy
namespace Go.Proofs.YtmaojhacdelleaaDoor
open Go Go.RowKit Go.Sort

/-- append of a string's bytes onto such a row. -/
theorem run_appendMs (w : World) (ty : TypeId) (base : Nat) (v : Value) (l : List UInt8) (tx : ByteArray) (hown : MRow base w v l)
    (hlen : l.length + tx.size ≤ 1099511627776) (hbase : base ≤ w.heap.size) :
    ∃ v' w', (Builtin.append_ #[39, 9] ty #[v, .string tx]).run Tryd.prog w = .ok v' w' ∧ MRow base w' v' (l ++ tx.data.toList) ∧ w.grownBy w' v.ownBlock := by
  obtain ⟨i0, hi, hz0, hz1, hz2⟩ := info_parts infoU8
  obtain ⟨g, cap, cur, fz, rfl, hbg, hg, hfz, hnc, hcm, hcs, htake⟩ := hown
  have hsz : tx.data.toList.length = tx.size := by simp
  have hbl : (Lib.strCells tx).length = tx.size := by rw [bc_str, bc_len, hsz]
  by_cases hroom : l.length + tx.size ≤ cap
  · have hf := Lib.run_firstCells_string (P := Tryd.prog) w 1 tx
    have hst := store_m Tryd.prog g l.length 5 fz (Lib.strCells tx) 0 cur w hg hfz (by rw [hbl]; omega) (Lib.strCells_oneCell tx)
    simp only [Nat.add_zero] at hst
    refine ⟨.slice (some ⟨g, 0, none⟩) (l.length + tx.size) cap, _, by simp [Builtin.append_, run_underlying Tryd.underlying39, run_underlying Tryd.underlying9, sizeOf, typeInfo, hi, hz1, Builtin.lenOf, hroom, hf, Addr.add_lit, hst]; rfl, ⟨g, cap, _, fz, by rw [List.length_append, hsz], hbg, setRow_heap w g cur _ _ _ hg, ?_, by rw [List.length_append, hsz]; exact hroom, hcm, ?_, ?_⟩, ⟨rfl, rfl, rfl, by simp, fun k _ hk => setRow_other w g k _ (fun e => hk (by simp [Value.ownBlock, e]))⟩⟩
    · have : (cur.toList.take l.length ++ (Lib.strCells tx ++ cur.toList.drop (l.length + (Lib.strCells tx).length))).toArray.size = cur.size := by
        simp only [List.size_toArray, List.length_append, List.length_take, List.length_drop, Array.length_toList, hbl]; omega
      rw [this]; exact hfz
    · simp only [List.size_toArray, List.length_append, List.length_take, List.length_drop, Array.length_toList, hbl]; omega
    · show (cur.toList.take l.length ++ (Lib.strCells tx ++ cur.toList.drop (l.length + (Lib.strCells tx).length))).take (l ++ tx.data.toList).length = _
      rw [← List.append_assoc, htake, bc_append, bc_str, List.take_left' (by rw [List.length_append, bc_len, bc_len, List.length_append])]
  · have hr := Lib.run_append_grow_string (P := Tryd.prog) w 39 9 ty 5 i0 (.int .u8 0) Tryd.underlying39 Tryd.underlying9 hi hz0 ⟨g, 0, none⟩ l.length cap (bc l) (by rw [hz1, bc_len, Nat.mul_one]) (MRow.cells ⟨g, cap, cur, fz, rfl, hbg, hg, hfz, hnc, hcm, hcs, htake⟩) tx (by omega) (by omega) (growslice_fits (by omega) (by rw [hz2]; omega))
    have hge := grownCap_ge w (l.length + tx.size) cap 5
    have hcm2 : grownCap w (l.length + tx.size) cap 5 ≤ maxLen := grownCap_le_maxLen w _ cap _ (by unfold maxLen; omega)
    refine ⟨_, _, hr, ⟨w.heap.size, _, _, (0, 0), by rw [List.length_append, hsz], hbase, heap_alloc_new w.drew _, NoFz.zero _, by rw [List.length_append, hsz]; exact hge, hcm2, ?_, ?_⟩, ⟨rfl, rfl, rfl, by simp, fun k hk _ => heap_alloc_old w.drew _ hk⟩⟩
    · have hzz : (Value.int IntKind.u8 0).cells.size = 1 := rfl
      simp only [Array.size_append, List.size_toArray, size_zeroCells, hzz, bc_len, hbl]
      omega
    · simp only [Array.toList_append, List.append_assoc]
      rw [← List.append_assoc, bc_str, ← bc_append, List.take_left' (by rw [bc_len])]
theorem append_stringM (w : World) {ops : Array Oper} {rest : List Oper} {o : Oper} {a : Act} {Q : Exit → Act → World → Prop}
    (hg : o.guard = none) (s x : Operand) (hop : o.op = Op.call { callee := Callee.builtin Builtin.append, args := #[s, x], argTypes := #[39, 9] })
    (base : Nat) (v : Value) (l : List UInt8) (tx : ByteArray) (hs : a.eval s = v) (hown : MRow base w v l) (hx : a.eval x = .string tx)
    (hlen : l.length + tx.size ≤ 1099511627776) (hbase : base ≤ w.heap.size)
    (hK : ∀ g n' cap' w', Hid (n' = (l ++ tx.data.toList).length) → Hid (MRow base w' (.slice (some ⟨g, 0, none⟩) n' cap') (l ++ tx.data.toList)) → Hid (w.grownBy w' v.ownBlock) → wpList Tryd.prog ops Q rest (a.put o.dst (.slice (some ⟨g, 0, none⟩) n' cap')) w') :
    wpList Tryd.prog ops Q (o :: rest) a w := by
  refine wpList_plain hg fun K hK' => ?_
  obtain ⟨v', w', hr, h2, h3⟩ := run_appendMs w o.type base v l tx hown hlen hbase
  obtain ⟨g, cap, rfl, -, -⟩ := h2.slice
  unfold Oper.wp execOp
  simp only [hop, resolve, invoke, builtin, Sem.run_bind, Sem.run_pure, Result.andThen_ok, List.map_toArray, List.map_cons, List.map_nil, hs, hx, hr]
  exact hK' _ _ (hK g _ cap w' rfl h2 h3)

/-- How an append ends: the row, longer. -/
def AEnd (B : Nat) (w : World) (L : List UInt8) (e : Ending) (w' : World) : Prop := ∃ g n cap, e = .returned (.slice (some ⟨g, 0, none⟩) n cap) ∧ n = L.length ∧ MRow B w' (.slice (some ⟨g, 0, none⟩) n cap) L ∧ Below B w w'

theorem nd20 {u : Nat} (h1 : 1 ≤ u) (h2 : u < 18446744073709551616) : Lib.nDigits u ≤ 20 := by have := Lib.numDigits_eq u h1 h2; split at this <;> omega

set_option maxRecDepth 100000 in
set_option maxHeartbeats 3200000 in
theorem appendUint_small (B u : Nat) (hu : u < 100) (v : Value) (l : List UInt8) (w : World) (hown : MRow B w v l) (hB : B ≤ w.heap.size) (hl : l.length ≤ 1000000) :
    Calls Tryd.prog 39 #[v, .int .u64 u, .int .i64 10] w (AEnd B w (l ++ Lib.decDigits u)) := by
  have hlen : (Lib.decDigits u).length ≤ 20 := by
    rw [Lib.decDigits_length]
    by_cases h10 : u < 10
    · rw [Lib.nDigits_small h10]; omega
    · rw [Lib.nDigits_big h10, Lib.nDigits_small (show u / 10 < 10 by omega)]; omega
  have hsz : (⟨(Lib.decDigits u).toArray⟩ : ByteArray).size = (Lib.decDigits u).length := by simp [ByteArray.size]
  have HSM := hide (fun W => Tryd.internal_strconv_small u hu W)
  have HO := hide hown
  have hll : l.length + (⟨(Lib.decDigits u).toArray⟩ : ByteArray).size ≤ 1099511627776 := by rw [hsz]; omega
  clear hown hsz
  go_enter Tryd.func39, Tryd.ntmps39
  go_wp2_with (first
    | (go_at_call 46; refine (unhide HSM _).mono ?_; rintro e w' ⟨rfl, rfl⟩)
    | (at_builtin; refine append_stringM _ rfl _ _ rfl B v l ⟨(Lib.decDigits u).toArray⟩ rfl (unhide HO) rfl hll hB ?_; intro g n' cap' w' HN HR HG))
  go_ret
  exact ⟨g, n', cap', rfl, HN.out, HR.out, (unhide HO).below HG.out hB⟩
end Go.Proofs.YtmaojhacdelleaaDoor
