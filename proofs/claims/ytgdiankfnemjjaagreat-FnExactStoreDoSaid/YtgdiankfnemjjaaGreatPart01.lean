/- The walks of the specification's l41Without, l41Made, l41After: names in new memory. Conditions: at most 3000 names. -/
import Derived.Test.YtgdiankfnemjjaaGreatPart00
import Derived.Deep.AppendLies
namespace Go.Proofs.YtgdiankfnemjjaaGreat
open Go Go.RowKit

theorem infoStrM : (Tryz.prog.info? 9).map (fun i => (i.zero, i.size, i.bytes)) = some (some (.string ByteArray.empty), 1, 16) := by kernel_rfl
theorem infoStrD : ∃ i, Tryz.prog.info? 9 = some i ∧ i.zero = some (.string ByteArray.empty) ∧ i.size = 1 ∧ i.bytes = 16 := by
  have := infoStrM
  cases h : Tryz.prog.info? 9 with
  | none => rw [h] at this; simp at this
  | some i => rw [h] at this; exact ⟨i, rfl, by simpa using this⟩
theorem below_grown {n : Nat} {w a b : World} {row : Option Nat} (hn : n ≤ a.heap.size) (h : Below n w a) (hg : a.grownBy b row) (hr : ∀ x, row = some x → n ≤ x) : Below n w b :=
  h.trans ⟨hg.os, hg.tape, hg.output, hg.size, fun k hk => hg.block k (Nat.lt_of_lt_of_le hk hn) (fun e => by have := hr k e.symm; omega)⟩
theorem strsAt_own {base : Nat} {w : World} {v : Value} {ss : List ByteArray} (h : w.ownsRow base 9 1 v ss.length (ss.map Value.string)) (hs : ∀ x, x ∈ ss → x.size ≤ 9223372036854775807) : StrsAt (fun b => base ≤ b ∧ b < w.heap.size) w v ss := by
  obtain ⟨F, hst, -, hF, -⟩ := strsOwn_of_row h hs
  exact hst.at.carry (fun _ _ => rfl) (fun x hx => hF x hx)

/-- Names without one. -/
def withoutB (ss : List ByteArray) (x : ByteArray) : List ByteArray := ss.filter fun y => !sameB y x
theorem without_take {ss : List ByteArray} {x : ByteArray} {k : Nat} (hk : k < ss.length) : withoutB (ss.take (k + 1)) x = withoutB (ss.take k) x ++ (if sameB ss[k] x then [] else [ss[k]]) := by
  unfold withoutB
  rw [List.take_succ_eq_append_getElem hk, List.filter_append]
  congr 1
  cases h : sameB ss[k] x <;> simp [h]

set_option maxHeartbeats 1600000 in
theorem l41Without_any (v : Value) (ss : List ByteArray) (x : ByteArray) (w : World) {P : Nat → Prop} (hP : ∀ b, P b → b < w.heap.size) (hv : StrsAt P w v ss) (h1 : ss.length ≤ 3000) :
    Calls Tryz.prog 69 #[v, .string x] w fun e w' => ∃ a n cap, e = .returned (.slice a n cap) ∧ n = (withoutB ss x).length ∧ Hid (w'.ownsRow w.heap.size 9 1 (.slice a n cap) n ((withoutB ss x).map Value.string)) ∧ Below w.heap.size w w' := by
  obtain ⟨a, cap, rfl, hlen, hc⟩ := hv
  obtain ⟨j0, hj, hy0, hy1, hy2⟩ := infoStrD
  have HJJ := hide hj; have HY0 := hide hy0; have HY1 := hide hy1; have HY2 := hide hy2
  have HC := hide hc; have HP := hide hP; clear hc hP hj hy0 hy1 hy2
  have HEMP := hide (empty_row (base := w.heap.size) (size := 1) (World.rowIs_alloc w #[] 9 (fun _ => .bool false) (fun i hi => by simp at hi)) (Nat.le_refl _))
  go_enter Tryz.func69, Tryz.ntmps69
  go_wp2_with fail
  go_loopw [5, 6] (fun vo i wr => ∃ (k n : Nat) (ao : Option Addr) (co : Nat), k ≤ ss.length ∧ n ≤ k ∧ i = .int .i64 k ∧ vo = .slice ao n co ∧ Hid (n = (withoutB (ss.take k) x).length ∧ wr.ownsRow w.heap.size 9 1 (.slice ao n co) n ((withoutB (ss.take k) x).map Value.string)) ∧ Below w.heap.size w wr) (fun _ i _ => ss.length - (intOf i).toNat)
  case atStart => exact ⟨0, 0, _, _, Nat.zero_le _, Nat.le_refl _, rfl, rfl, ⟨by simp [withoutB], by simpa [withoutB] using unhide HEMP⟩, (Below.refl _ _).alloc (Nat.le_refl _) _⟩
  case round =>
    clear HEMP
    obtain ⟨k, n, ao, co, hk, hnk, rfl, rfl, HQ, hb⟩ := hrel
    by_cases hlt : k < ss.length
    · obtain ⟨b, o, rfl, hpb, hcell0, hsz⟩ := unhide HC k hlt
      have hcell : wr.cell? ⟨b, o + k, none⟩ = some (.string ss[k]) := by rw [hb.cell (unhide HP b hpb)]; exact hcell0
      have HT := hide (without_take (x := x) hlt)
      have hbs := hb.size
      clear hcell0 hpb
      cases e : sameB ss[k] x with
      | true =>
        rw [e] at HT
        unfold sameB at e
        have HB := hide hb; clear hb
        go_wp2_with fail
        go_roundw
        case rel => exact ⟨k + 1, n, ao, co, by omega, by omega, by go_num, rfl, hide (by rw [unhide HT]; simpa using HQ.out), unhide HB⟩
        case measure => simp [intOf]; omega
      | false =>
        rw [e] at HT
        unfold sameB at e
        have HB := hide hb; clear hb
        generalize ss[k] = y at *
        go_wp2_with (at_builtin; (refine append_row _ rfl _ _ 23 rfl w.heap.size 9 j0 (.string ByteArray.empty) 1 16 Tryz.underlying23 (unhide HJJ) (unhide HY0) (unhide HY1) (unhide HY2) rfl (by decide) (.slice ao n co) n ((withoutB (ss.take k) x).map Value.string) rfl (World.ownsRow.alloc HQ.out.2 _) ⟨wr.heap.size, 0, none⟩ 1 1 [.string y] rfl rfl (cell_one wr _ _) (fun u hu => by simp at hu; subst hu; rfl) (by decide) (by unfold maxLen; omega) (by omega) (by simp; omega) ?_; intro v' w5 hown5 hgrow5 hat5; obtain ⟨g5, cap5, rfl, -, -⟩ := hown5.form (by omega); have HO5 := hide hown5; have HB5 := hide (below_grown (by simp; omega) ((unhide HB).alloc (unhide HB).size (.cells #[.string y] 9)) hgrow5 (fun b e => (HQ.out.2.lt b e).1)); clear hown5 hgrow5 hat5))
        go_roundw
        case rel => exact ⟨k + 1, n + 1, some ⟨g5, 0, none⟩, cap5, by omega, by omega, by go_num, rfl, hide (by
          rw [unhide HT]
          refine ⟨by have := HQ.out.1; simp; omega, ?_⟩
          have := unhide HO5
          simpa using this), unhide HB5⟩
        case measure => simp [intOf]; omega
    · go_wp2_with fail
      go_ret
      have hq := HQ.out
      rw [List.take_of_length_le (by omega)] at hq
      exact ⟨ao, n, co, rfl, hq.1, hide hq.2, hb⟩
end Go.Proofs.YtgdiankfnemjjaaGreat

/- append of a whole list onto an empty one; the cells of a list of names, to be copied. No program, no conditions. -/

namespace Go.Proofs.YtgdiankfnemjjaaGreat
open Go Go.RowKit

theorem append_copyD {P : Program} (w : World) {ops : Array Oper} {rest : List Oper} {o : Oper} {a : Act} {Q : Exit → Act → World → Prop}
    (hg : o.guard = none) (s x : Operand) (t : TypeId) (hop : o.op = Op.call { callee := Callee.builtin Builtin.append, args := #[s, x], argTypes := #[t, t] })
    (base : Nat) (e : TypeId) (i : TypeInfo) (z : Value) (size bytes : Nat) (h1 : P.underlying t = some (.slice e)) (h2 : P.info? e = some i) (h3 : i.zero = some z) (h4 : i.size = size) (h5 : i.bytes = bytes) (h6 : z.cells.size = size) (h7 : 0 < size)
    (g0 : Nat) (hs : a.eval s = .slice (some ⟨g0, 0, none⟩) 0 0) (hown : w.ownsRow base e size (.slice (some ⟨g0, 0, none⟩) 0 0) 0 [])
    (ax : Option Addr) (m c : Nat) (xs : List Value) (hx : a.eval x = .slice ax m c) (hn : xs.length = m * size) (hc : 0 < m → ∃ ad, ax = some ad ∧ ∀ j u, xs[j]? = some u → w.cell? (ad.add j) = some u) (h1c : ∀ u ∈ xs, u.oneCell' = true)
    (b1 : m ≤ maxLen) (b2 : m * bytes ≤ 140737488355328) (hbase : base ≤ w.heap.size)
    (hK : ∀ g cap w', Hid (w'.ownsRow base e size (.slice (some ⟨g, 0, none⟩) m cap) m xs) → Hid (w.grownBy w' (some g0)) → wpList P ops Q rest (a.put o.dst (.slice (some ⟨g, 0, none⟩) m cap)) w') :
    wpList P ops Q (o :: rest) a w := by
  rcases Nat.eq_zero_or_pos m with h0 | h0
  · subst h0
    have hxs : xs = [] := List.eq_nil_of_length_eq_zero (by rw [hn]; omega)
    subst hxs
    have hrun : ∀ ty, (Builtin.append_ #[t, t] ty #[.slice (some ⟨g0, 0, none⟩) 0 0, .slice ax 0 c]).run P w = .ok (.slice (some ⟨g0, 0, none⟩) 0 0) w := fun ty => by
      cases ax with
      | none => simp [Builtin.append_, run_underlying h1, sizeOf, typeInfo, h2, Builtin.lenOf, Builtin.firstCells, go_sem]
      | some ad => simp [Builtin.append_, run_underlying h1, sizeOf, typeInfo, h2, Builtin.lenOf, Builtin.firstCells, go_sem]
    refine wpList_plain hg fun K hKK => ?_
    unfold Oper.wp execOp
    simp only [hop, resolve, invoke, builtin, Sem.run_bind, Sem.run_pure, Result.andThen_ok, List.map_toArray, List.map_cons, List.map_nil, hs, hx, hrun]
    exact hKK _ _ (hK g0 0 w hown (World.grownBy.refl w _))
  · obtain ⟨ad, rfl, hcc⟩ := hc h0
    refine append_row w hg s x t hop base e i z size bytes h1 h2 h3 h4 h5 h6 h7 (.slice (some ⟨g0, 0, none⟩) 0 0) 0 [] hs hown ad m c xs hx hn hcc h1c h0 (by omega) (by rw [Nat.zero_add]; exact b2) hbase (fun v' w' r1 r2 _ => ?_)
    rw [Nat.zero_add, List.nil_append] at r1
    obtain ⟨g, cap, rfl, -, -⟩ := r1.form h0
    exact hK g cap w' r1 r2

/-- The names' cells, to be copied. -/
theorem names_srcD {P : Nat → Prop} {W : World} {aN : Option Addr} {nN capN : Nat} {ns : List ByteArray} (h : StrsAt P W (.slice aN nN capN) ns) (o : Obj) : 0 < nN → ∃ ad, aN = some ad ∧ ∀ j u, (ns.map Value.string)[j]? = some u → (W.alloc o).cell? (ad.add j) = some u := by
  obtain ⟨a, cap, e, -, h3⟩ := h
  simp only [Value.slice.injEq] at e
  obtain ⟨rfl, e2, -⟩ := e
  intro h0
  obtain ⟨b, o', rfl, -, -, -⟩ := h3 0 (by omega)
  refine ⟨_, rfl, fun j u hj => ?_⟩
  rw [List.getElem?_map] at hj
  obtain ⟨x, hx, rfl⟩ := Option.map_eq_some_iff.1 hj
  obtain ⟨hlt, rfl⟩ := List.getElem?_eq_some_iff.1 hx
  obtain ⟨b', o'', e3, -, hcell, -⟩ := h3 j hlt
  simp only [Option.some.injEq, Addr.mk.injEq, and_true] at e3
  obtain ⟨rfl, rfl⟩ := e3
  rw [Addr.add_lit, World.cell?_of_block (w := W) (Below.heap_alloc _ _ _ (World.block_lt_of_cell? W _ hcell))]
  exact hcell
end Go.Proofs.YtgdiankfnemjjaaGreat

/- The walks of the specification's l41Made, l41After: names in new memory. Conditions: at most 1000 names and moves. -/

namespace Go.Proofs.YtgdiankfnemjjaaGreat
open Go Go.RowKit

/-- The names, and those of moves that make files. -/
def madeD (ns : List ByteArray) (ms : List Dm) : List ByteArray := ns ++ (ms.filter fun m => !m.gone).map Dm.name
theorem made_take {ns : List ByteArray} {ms : List Dm} {k : Nat} (hk : k < ms.length) : madeD ns (ms.take (k + 1)) = if ms[k].gone then madeD ns (ms.take k) else madeD ns (ms.take k) ++ [ms[k].name] := by
  unfold madeD
  rw [List.take_succ_eq_append_getElem hk, List.filter_append, List.map_append, ← List.append_assoc]
  cases h : ms[k].gone <;> simp [h]
theorem made_len (ns : List ByteArray) (ms : List Dm) : (madeD ns ms).length ≤ ns.length + ms.length := by
  unfold madeD
  rw [List.length_append, List.length_map]
  have := List.length_filter_le (fun m : Dm => !m.gone) ms
  omega
/-- The names behind so many moves. -/
def stepD (ns : List ByteArray) (m : Dm) : List ByteArray := if m.gone then withoutB ns m.name else ns ++ [m.name]
def afterD (ns : List ByteArray) (ms : List Dm) : List ByteArray := ms.foldl stepD ns
theorem after_take {ns : List ByteArray} {ms : List Dm} {k : Nat} (hk : k < ms.length) : afterD ns (ms.take (k + 1)) = stepD (afterD ns (ms.take k)) ms[k] := by
  unfold afterD
  rw [List.take_succ_eq_append_getElem hk, List.foldl_append]; rfl
theorem without_len (ss : List ByteArray) (x : ByteArray) : (withoutB ss x).length ≤ ss.length := List.length_filter_le _ _

/-- Names that the call has laid: a row of its own, their sizes. -/
structure NmOwn (w wr : World) (v : Value) (n : Nat) (ns : List ByteArray) : Prop where
  own : wr.ownsRow w.heap.size 9 1 v n (ns.map Value.string)
  len : n = ns.length
  sz : ∀ x, x ∈ ns → x.size ≤ 9223372036854775807
  below : Below w.heap.size w wr
theorem NmOwn.strs {w wr : World} {v : Value} {n : Nat} {ns : List ByteArray} (h : NmOwn w wr v n ns) : StrsAt (New w wr) wr v ns := strsAt_own (by rw [← h.len]; exact h.own) h.sz

set_option maxHeartbeats 1600000 in
theorem l41Made_any (d : Dk) (P : Nat → Prop) (c : C3) (w : World) (hP : ∀ b, P b → b < w.heap.size) (hd : DkAt P w d c) (hl1 : d.names.length ≤ 1000) (hl2 : d.moves.length ≤ 1000) :
    Calls Tryz.prog 51 #[.agg #[c.c0, c.c1, c.c2]] w fun e w' => ∃ a n cap, e = .returned (.slice a n cap) ∧ Hid (NmOwn w w' (.slice a n cap) n (madeD d.names d.moves)) := by
  obtain ⟨c0, c1, c2⟩ := c
  obtain ⟨a0, p0, g0, -, -⟩ := hd.fs.open
  obtain ⟨a1, p1, g1, -, hnc⟩ := hd.ns
  obtain ⟨a2, p2, g2, -, hmc⟩ := hd.ms.open
  simp only at g0 g1 g2
  subst g0 g1 g2
  obtain ⟨j0, hj, hy0, hy1, hy2⟩ := infoStrD
  have HJJ := hide hj; have HY0 := hide hy0; have HY1 := hide hy1; have HY2 := hide hy2
  have hsz : ∀ x, x ∈ d.names → x.size ≤ 9223372036854775807 := fun x hx => by
    obtain ⟨i, hi, rfl⟩ := List.getElem_of_mem hx
    obtain ⟨_, _, _, _, _, h⟩ := hnc i hi
    exact h
  obtain ⟨W0, hW0⟩ : ∃ W0, w.alloc (.cells #[.slice a0 d.files.length p0, .slice a1 d.names.length p1, .slice a2 d.moves.length p2] 37) = W0 := ⟨_, rfl⟩
  have hb0 : Below w.heap.size w W0 := by rw [← hW0]; exact (Below.refl _ _).alloc (Nat.le_refl _) _
  have hs0 : W0.heap.size = w.heap.size + 1 := by rw [← hW0]; simp
  have hrow : W0.rowIs w.heap.size 37 3 (row3 (.slice a0 d.files.length p0) (.slice a1 d.names.length p1) (.slice a2 d.moves.length p2)) := by rw [← hW0]; exact row3_alloc w _ _ _ _
  have hemp := empty_row (base := W0.heap.size) (size := 1) (World.rowIs_alloc W0 #[] 9 (fun _ => .bool false) (fun i hi => by simp at hi)) (Nat.le_refl _)
  rw [hs0] at hemp
  have hsrc := names_srcD (hd.ns.carry (P := P) (Q := P) (w' := W0) (fun b hb => hb0.block b (hP b hb)) (fun _ h => h)) (.cells #[] 9)
  have hxl : (d.names.map Value.string).length = d.names.length * 1 := by simp
  have hbe : Below W0.heap.size W0 (W0.alloc (.cells #[] 9)) := (Below.refl _ _).alloc (Nat.le_refl _) _
  have hse : (W0.alloc (.cells #[] 9)).heap.size = w.heap.size + 2 := by simp [hs0]
  have HROW := hide hrow; have HEMP := hide hemp; have HSRC := hide hsrc; have HSZ := hide hsz; have HMC := hide hmc; have HB0 := hide hb0; have HP := hide hP; have HXL := hide hxl; have HBE := hide hbe; have HSE := hide hse
  clear hd hnc hmc hsz hb0 hrow hemp hsrc hP hj hy0 hy1 hy2 hxl hbe hse
  have HMM := hide (fun k (hk : k < d.moves.length) => made_take (ns := d.names) hk)
  have HM0 := hide (show madeD d.names (d.moves.take 0) = d.names by simp [madeD])
  have HLN := hide (fun k => made_len d.names (d.moves.take k))
  generalize hnf : d.files.length = nf at *
  generalize hnn : d.names.length = nn at *
  have HNN := hide hnn
  clear hnf hnn
  subst hW0
  go_enter Tryz.func51, Tryz.ntmps51
  go_wp2_with (at_builtin; refine append_copyD _ rfl _ _ 23 rfl (w.heap.size + 1) 9 j0 (.string ByteArray.empty) 1 16 Tryz.underlying23 (unhide HJJ) (unhide HY0) (unhide HY1) (unhide HY2) rfl (by decide) (w.heap.size + 1) rfl (unhide HEMP) a1 nn p1 (d.names.map Value.string) rfl (unhide HXL) (unhide HSRC) (fun u hu => by obtain ⟨y, -, rfl⟩ := List.mem_map.1 hu; rfl) (by unfold maxLen; omega) (by omega) (by have := unhide HSE; omega) ?_; intro g cap w2 HO HG)
  have hb2 : Below (w.heap.size + 1) (w.alloc (.cells #[.slice a0 nf p0, .slice a1 nn p1, .slice a2 d.moves.length p2] 37)) w2 :=
    below_grown (by have := unhide HSE; omega) ((unhide HBE).mono (by omega)) HG.out (fun x e => by cases e; omega)
  have HB2 := hide hb2
  clear hb2 HG HEMP HSRC HBE
  go_loopw [3, 4] (fun vo i wr => ∃ (k n : Nat) (ao : Option Addr) (co : Nat), k ≤ d.moves.length ∧ n ≤ 2000 ∧ i = .int .i64 k ∧ vo = .slice ao n co ∧ Hid (n = (madeD d.names (d.moves.take k)).length) ∧ Hid (wr.ownsRow (w.heap.size + 1) 9 1 (.slice ao n co) n ((madeD d.names (d.moves.take k)).map Value.string)) ∧ Hid (Below (w.heap.size + 1) (w.alloc (.cells #[.slice a0 nf p0, .slice a1 nn p1, .slice a2 d.moves.length p2] 37)) wr)) (fun _ i _ => d.moves.length - (intOf i).toNat)
  case atStart => exact ⟨0, nn, _, _, Nat.zero_le _, by omega, rfl, rfl, hide (by rw [unhide HM0]; exact (unhide HNN).symm), hide (by rw [unhide HM0]; exact HO.out), HB2⟩
  case round =>
    clear HO HB2
    obtain ⟨k, n, ao, co, hk, hn, rfl, rfl, HQ, HO, HB⟩ := hrel
    have hrow := (unhide HROW).of_block (HB.out.block w.heap.size (by omega))
    have k2 := hrow.cell (i := 2) (by omega)
    simp only [row3] at k2
    have hbs : w.heap.size + 1 ≤ wr.heap.size := by have := HB.out.size; rw [hs0] at this; exact this
    by_cases hlt : k < d.moves.length
    · obtain ⟨b, o, rfl, hpb, hc0, hc1, hok⟩ := unhide HMC k hlt
      have hcar : ∀ o', wr.cell? ⟨b, o', none⟩ = w.cell? ⟨b, o', none⟩ := fun o' => by
        have hbl := unhide HP b hpb
        rw [World.cell?_of_block (w := w) ((HB.out.block b (by omega)).trans ((unhide HB0).block b hbl))]
      have e0 : wr.cell? ⟨b, o + k * 2, none⟩ = some (.bool d.moves[k].gone) := by rw [hcar]; exact hc0
      have e1 : wr.cell? ⟨b, o + k * 2 + 1, none⟩ = some (.string d.moves[k].name) := by rw [hcar]; exact hc1
      have HT := hide (unhide HMM k hlt)
      have hn2 : n ≤ nn + k := by
        have h1 := unhide HLN k
        have h2 := HQ.out
        rw [List.length_take, Nat.min_eq_left (by omega)] at h1
        omega
      clear hc0 hc1 hcar hpb hok hrow
      cases e : d.moves[k].gone with
      | true =>
        rw [e] at HT e0
        simp only [if_true] at HT
        go_wp2_with fail
        go_roundw
        case rel => exact ⟨k + 1, n, ao, co, by omega, hn, by go_num, rfl, hide (by rw [unhide HT]; exact HQ.out), hide (by rw [unhide HT]; exact HO.out), HB⟩
        case measure => simp [intOf]; omega
      | false =>
        rw [e] at HT e0
        simp only [Bool.false_eq_true, if_false] at HT
        generalize d.moves[k].name = y at *
        go_wp2_with (at_builtin; (refine append_row _ rfl _ _ 23 rfl (w.heap.size + 1) 9 j0 (.string ByteArray.empty) 1 16 Tryz.underlying23 (unhide HJJ) (unhide HY0) (unhide HY1) (unhide HY2) rfl (by decide) (.slice ao n co) n ((madeD d.names (d.moves.take k)).map Value.string) rfl (World.ownsRow.alloc HO.out _) ⟨wr.heap.size, 0, none⟩ 1 1 [.string y] rfl rfl (cell_one wr _ _) (fun u hu => by simp at hu; subst hu; rfl) (by decide) (by unfold maxLen; omega) (by omega) (by simp; omega) ?_; intro v' w5 hown5 hgrow5 hat5; obtain ⟨g5, cap5, rfl, -, -⟩ := hown5.form (by omega); have HO5 := hide hown5; have HB5 := hide (below_grown (by simp; omega) (HB.out.alloc hbs (.cells #[.string y] 9)) hgrow5 (fun b e => (HO.out.lt b e).1)); clear hown5 hgrow5 hat5))
        go_roundw
        case rel => exact ⟨k + 1, n + 1, some ⟨g5, 0, none⟩, cap5, by omega, by omega, by go_num, rfl, hide (by rw [unhide HT]; have := HQ.out; simp; omega), hide (by
          rw [unhide HT]
          have := unhide HO5
          simpa using this), HB5⟩
        case measure => simp [intOf]; omega
    · obtain rfl : k = d.moves.length := by omega
      go_wp2_with fail
      go_ret
      have hq := HQ.out
      have ho := HO.out
      rw [List.take_of_length_le (Nat.le_refl _)] at hq ho
      refine ⟨ao, n, co, rfl, ⟨ownsRow_base ho (by omega), hq, fun y hy => ?_, (unhide HB0).trans (HB.out.mono (by omega))⟩⟩
      rcases List.mem_append.1 hy with h | h
      · exact unhide HSZ y h
      · obtain ⟨m, hm, rfl⟩ := List.mem_map.1 h
        obtain ⟨i, hi, rfl⟩ := List.getElem_of_mem (List.mem_filter.1 hm).1
        obtain ⟨_, _, _, _, _, _, h⟩ := unhide HMC i hi
        exact h
end Go.Proofs.YtgdiankfnemjjaaGreat
