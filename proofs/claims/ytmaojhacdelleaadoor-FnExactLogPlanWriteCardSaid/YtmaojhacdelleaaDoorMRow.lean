/- Rows of bytes of a call's own that may bear a mark behind their cells (what '[]byte(s)' lays), and appends onto them. No program walked, no conditions. -/
import Derived.Test.YtmaojhacdelleaaDoorByRow
import Derived.Lib.FrozenHead2
namespace Go.Proofs.YtmaojhacdelleaaDoor
open Go Go.RowKit

/-- No cell of the row is frozen. -/
def NoFz (fz : Nat × Nat) (n : Nat) : Prop := ∀ j, j < n → ¬ (fz.1 ≤ j ∧ j < fz.2)
theorem NoFz.zero (n : Nat) : NoFz (0, 0) n := fun j _ h => by have := h.2; simp at this
theorem NoFz.behind (n : Nat) : NoFz (n, n + 1) n := fun j hj h => by have := h.1; simp at this; omega

theorem store_m (P : Program) (g o : Nat) (t : TypeId) (fz : Nat × Nat) (vs : List Value) : ∀ (i : Nat) (cur : Array Value) (w : World), w.heap[g]? = some (.cells cur t fz) → NoFz fz cur.size → o + i + vs.length ≤ cur.size → (∀ v ∈ vs, v.oneCell' = true) →
    (storeCells ⟨g, o, none⟩ vs i).run P w = .ok () (w.setRow g (cur.toList.take (o + i) ++ vs ++ cur.toList.drop (o + i + vs.length)).toArray) := by
  induction vs with
  | nil =>
    intro i cur w hg _ _ _
    have hs := setRow_self w g cur t fz hg
    simp only [storeCells, List.append_nil, List.length_nil, Nat.add_zero, List.take_append_drop, Array.toArray_toList, hs]
    rfl
  | cons v rest ih =>
    intro i cur w hg hz hl h1
    rw [List.length_cons] at hl
    have hi : o + i < cur.size := by omega
    have hfro : w.frozen? ⟨g, o + i, none⟩ = false := by
      have := hz (o + i) hi
      obtain ⟨lo, up⟩ := fz
      simp only [World.frozen?, hg]
      simp only at this
      rw [Bool.and_eq_false_iff]
      simp only [decide_eq_false_iff_not]
      omega
    have hcell : w.cell? ⟨g, o + i, none⟩ = some cur[o + i] := by simp [World.cell?, hg, hi]
    have hst : (store ((⟨g, o, none⟩ : Addr).add i) v).run P w = .ok () (w.setRow g (cur.setIfInBounds (o + i) v)) := by
      rw [Addr.add_lit, run_store P w _ v _ (h1 v (by simp)), hcell]
      simp [hfro, setCell_eq_setRow w g (o + i) cur t fz v hg]
    have hn := ih (i + 1) (cur.setIfInBounds (o + i) v) (w.setRow g (cur.setIfInBounds (o + i) v)) (setRow_heap w g cur _ t _ hg) (by rw [Array.size_setIfInBounds]; exact hz) (by rw [Array.size_setIfInBounds]; omega) (fun x hx => h1 x (by simp [hx]))
    have e := list_seg_step cur.toList (o + i) v rest (by simp; omega)
    simp only [storeCells, Sem.run_bind, hst, Result.andThen_ok, hn, setRow_setRow]
    congr 3
    simpa [Array.toList_setIfInBounds, Nat.add_assoc] using e

/-- A row of bytes of the call's own, with a mark or without. -/
def MRow (base : Nat) (w : World) (v : Value) (l : List UInt8) : Prop :=
  ∃ g cap cur fz, v = .slice (some ⟨g, 0, none⟩) l.length cap ∧ base ≤ g ∧ w.heap[g]? = some (.cells cur 5 fz) ∧ NoFz fz cur.size ∧ l.length ≤ cap ∧ cap ≤ maxLen ∧ cur.size = cap ∧ cur.toList.take l.length = bc l
theorem MRow.slice {base : Nat} {w : World} {v : Value} {l : List UInt8} (h : MRow base w v l) : ∃ g cap, v = .slice (some ⟨g, 0, none⟩) l.length cap ∧ base ≤ g ∧ g < w.heap.size := by
  obtain ⟨g, cap, cur, fz, h1, h2, h3, -⟩ := h
  exact ⟨g, cap, h1, h2, (Array.getElem?_eq_some_iff.1 h3).1⟩
theorem MRow.lt {base : Nat} {w : World} {v : Value} {l : List UInt8} (h : MRow base w v l) : ∀ g, v.ownBlock = some g → base ≤ g ∧ g < w.heap.size := by
  obtain ⟨g, cap, rfl, h2, h3⟩ := h.slice
  intro k e
  obtain rfl : g = k := by simpa [Value.ownBlock] using e
  exact ⟨h2, h3⟩
theorem MRow.of_block {base : Nat} {w w' : World} {v : Value} {l : List UInt8} (h : MRow base w v l) (hb : ∀ g, v.ownBlock = some g → w'.heap[g]? = w.heap[g]?) : MRow base w' v l := by
  obtain ⟨g, cap, cur, fz, h1, h2, h3, h4⟩ := h
  exact ⟨g, cap, cur, fz, h1, h2, (hb g (by rw [h1]; rfl)).trans h3, h4⟩
theorem MRow.alloc {base : Nat} {w : World} {v : Value} {l : List UInt8} (h : MRow base w v l) (o : Obj) : MRow base (w.alloc o) v l := h.of_block fun g e => heap_alloc_old w o (h.lt g e).2
theorem MRow.below {base : Nat} {w w' : World} {v : Value} {l : List UInt8} (h : MRow base w v l) (hg : w.grownBy w' v.ownBlock) (hb : base ≤ w.heap.size) : Below base w w' :=
  (Below.refl base w).grown hg hb (fun k e => (h.lt k e).1)
theorem MRow.cells {base : Nat} {w : World} {g n cap : Nat} {l : List UInt8} (h : MRow base w (.slice (some ⟨g, 0, none⟩) n cap) l) : ∀ j u, (bc l)[j]? = some u → w.cell? ((⟨g, 0, none⟩ : Addr).add j) = some u := by
  obtain ⟨g', cap', cur, fz, h1, h2, h3, -, h5, -, h7, h8⟩ := h
  simp only [Value.slice.injEq, Option.some.injEq, Addr.mk.injEq, and_true] at h1
  obtain ⟨rfl, -, rfl⟩ := h1
  intro j u hj
  rw [Addr.add_lit, Nat.zero_add]
  have hj' : j < l.length := by rw [← bc_len]; exact (List.getElem?_eq_some_iff.1 hj).1
  rw [← h8, List.getElem?_take_of_lt hj'] at hj
  simp only [World.cell?, h3]
  simpa using hj
theorem MRow.str {base : Nat} {w : World} {v : Value} {l : List UInt8} (h : MRow base w v l) : (convert 39 9 v).run Tryd.prog w = .ok (.string ⟨l.toArray⟩) w := by
  obtain ⟨g, cap, rfl, -, -⟩ := h.slice
  refine run_convert_bytes_back w 39 9 5 ⟨g, 0, none⟩ cap l Tryd.underlying39 Tryd.underlying5 Tryd.underlying9 (fun j hj => ?_)
  exact h.cells j _ (by simp [bc, hj])
theorem ByRow.m {base : Nat} {w : World} {v : Value} {l : List UInt8} (h : ByRow base w v l) (hl : 0 < l.length) : MRow base w v l := by
  rcases h.2 with ⟨hv, h0⟩ | ⟨g, cap, cur, hv, h1, h2, h3, h4, h5, h6⟩
  · omega
  · exact ⟨g, cap, cur, (0, 0), hv, h1, h2, NoFz.zero _, h3, h4, by simpa using h5, by simpa using h6⟩

/-- append onto such a row, what is appended lying behind an address. -/
theorem run_appendM (w : World) (ty : TypeId) (base : Nat) (v : Value) (l news : List UInt8) (hown : MRow base w v l) (ad : Addr) (m c : Nat) (hm : m = news.length) (hc : ∀ j u, (bc news)[j]? = some u → w.cell? (ad.add j) = some u)
    (hlen : l.length + news.length ≤ 1099511627776) (hbase : base ≤ w.heap.size) :
    ∃ v' w', (Builtin.append_ #[39, 39] ty #[v, .slice (some ad) m c]).run Tryd.prog w = .ok v' w' ∧ MRow base w' v' (l ++ news) ∧ w.grownBy w' v.ownBlock := by
  obtain ⟨i0, hi, hz0, hz1, hz2⟩ := info_parts infoU8
  obtain ⟨g, cap, cur, fz, rfl, hbg, hg, hfz, hnc, hcm, hcs, htake⟩ := hown
  subst hm
  have hl1 : (bc news).length = news.length * 1 := by rw [bc_len, Nat.mul_one]
  have h1 : ∀ u ∈ bc news, u.oneCell' = true := fun u hu => by obtain ⟨_, _, rfl⟩ := List.mem_map.1 hu; rfl
  by_cases hroom : l.length + news.length ≤ cap
  · have hf := run_firstCells_some (P := Tryd.prog) w 1 news.length ad news.length c (bc news) hl1 hc
    have hst := store_m Tryd.prog g l.length 5 fz (bc news) 0 cur w hg hfz (by rw [bc_len]; omega) h1
    simp only [Nat.add_zero] at hst
    refine ⟨.slice (some ⟨g, 0, none⟩) (l.length + news.length) cap, _, by simp [Builtin.append_, run_underlying Tryd.underlying39, sizeOf, typeInfo, hi, hz1, Builtin.lenOf, hroom, hf, Addr.add_lit, hst]; rfl, ⟨g, cap, _, fz, by rw [List.length_append], hbg, setRow_heap w g cur _ _ _ hg, ?_, by rw [List.length_append]; exact hroom, hcm, ?_, ?_⟩, ⟨rfl, rfl, rfl, by simp, fun k _ hk => setRow_other w g k _ (fun e => hk (by simp [Value.ownBlock, e]))⟩⟩
    · have : (cur.toList.take l.length ++ (bc news ++ cur.toList.drop (l.length + (bc news).length))).toArray.size = cur.size := by
        simp only [List.size_toArray, List.length_append, List.length_take, List.length_drop, Array.length_toList, bc_len]; omega
      rw [this]; exact hfz
    · simp only [List.size_toArray, List.length_append, List.length_take, List.length_drop, Array.length_toList, bc_len]; omega
    · show (cur.toList.take l.length ++ (bc news ++ cur.toList.drop (l.length + (bc news).length))).take (l ++ news).length = _
      rw [← List.append_assoc, htake, bc_append, List.take_left' (by rw [List.length_append, bc_len, bc_len, List.length_append])]
  · have hr := run_append_grow (P := Tryd.prog) w 39 ty 5 i0 (.int .u8 0) Tryd.underlying39 hi hz0 ⟨g, 0, none⟩ l.length cap (bc l) (by rw [hz1, bc_len, Nat.mul_one]) (MRow.cells ⟨g, cap, cur, fz, rfl, hbg, hg, hfz, hnc, hcm, hcs, htake⟩) ad news.length c (bc news) (by rw [hz1]; exact hl1) hc (by omega) (by omega) (growslice_fits (by omega) (by rw [hz2]; omega))
    have hge := grownCap_ge w (l.length + news.length) cap 5
    have hcm2 : grownCap w (l.length + news.length) cap 5 ≤ maxLen := grownCap_le_maxLen w _ cap _ (by unfold maxLen; omega)
    refine ⟨_, _, hr, ⟨w.heap.size, _, _, (0, 0), by rw [List.length_append], hbase, heap_alloc_new w.drew _, NoFz.zero _, by rw [List.length_append]; exact hge, hcm2, ?_, ?_⟩, ⟨rfl, rfl, rfl, by simp, fun k hk _ => heap_alloc_old w.drew _ hk⟩⟩
    · have hzz : (Value.int IntKind.u8 0).cells.size = 1 := rfl
      simp only [Array.size_append, List.size_toArray, size_zeroCells, hzz, bc_len]
      omega
    · simp only [Array.toList_append, List.append_assoc]
      rw [← List.append_assoc, ← bc_append, List.take_left' (by rw [bc_len])]

/-- The operation, for the walk. -/
theorem append_bytesM (w : World) {ops : Array Oper} {rest : List Oper} {o : Oper} {a : Act} {Q : Exit → Act → World → Prop}
    (hg : o.guard = none) (s x : Operand) (hop : o.op = Op.call { callee := Callee.builtin Builtin.append, args := #[s, x], argTypes := #[39, 39] })
    (base : Nat) (v : Value) (l news : List UInt8) (hs : a.eval s = v) (hown : MRow base w v l)
    (ad : Addr) (m c : Nat) (hx : a.eval x = .slice (some ad) m c) (hm : m = news.length) (hc : ∀ j u, (bc news)[j]? = some u → w.cell? (ad.add j) = some u)
    (hlen : l.length + news.length ≤ 1099511627776) (hbase : base ≤ w.heap.size)
    (hK : ∀ g n' cap' w', Hid (n' = (l ++ news).length) → Hid (MRow base w' (.slice (some ⟨g, 0, none⟩) n' cap') (l ++ news)) → Hid (w.grownBy w' v.ownBlock) → wpList Tryd.prog ops Q rest (a.put o.dst (.slice (some ⟨g, 0, none⟩) n' cap')) w') :
    wpList Tryd.prog ops Q (o :: rest) a w := by
  refine wpList_plain hg fun K hK' => ?_
  obtain ⟨v', w', hr, h2, h3⟩ := run_appendM w o.type base v l news hown ad m c hm hc hlen hbase
  obtain ⟨g, cap, rfl, -, -⟩ := h2.slice
  unfold Oper.wp execOp
  simp only [hop, resolve, invoke, builtin, Sem.run_bind, Sem.run_pure, Result.andThen_ok, List.map_toArray, List.map_cons, List.map_nil, hs, hx, hr]
  exact hK' _ _ (hK g _ cap w' rfl h2 h3)
end Go.Proofs.YtmaojhacdelleaaDoor
