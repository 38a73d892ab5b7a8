/- The walks of slices.Grow and slices.Concat at []string: two lists of names, one behind the other, in memory of its own. Conditions: at most 1000 names in each. -/
import Derived.Test.YtenpghndgdemnaaGreatDoorPart13
import Derived.Test.YtenpghndgdemnaaGreatDoorPart00
import Derived.Test.YtenpghndgdemnaaGreatDoorPart02
import Derived.LoopN
import Derived.Deep.AppendLies
namespace Go.Proofs.YtenpghndgdemnaaGreatDoor
open Go Go.RowKit

theorem own_capU {w : World} {base : Nat} {e : TypeId} {size : Nat} {a : Option Addr} {n m cap : Nat} {xs : List Value} (h : w.ownsRow base e size (.slice a n cap) m xs) : n ≤ cap := by
  rcases h.2 with ⟨hv, h0⟩ | ⟨g, c, u, hv, _, _, hle, _⟩
  · simp only [Value.slice.injEq] at hv; omega
  · simp only [Value.slice.injEq] at hv; omega
theorem own_formU {w : World} {base : Nat} {e : TypeId} {size : Nat} {v : Value} {n : Nat} {xs : List Value} (h : w.ownsRow base e size v n xs) : ∃ a cap, v = .slice a n cap := by
  rcases h.2 with ⟨hv, h0⟩ | ⟨g, c, u, hv, _⟩
  · exact ⟨none, 0, by rw [hv, h0]⟩
  · exact ⟨_, _, hv⟩
/-- append of a whole list, which may be empty, onto a row of the call's own. -/
theorem append_listU {P : Program} (w : World) {ops : Array Oper} {rest : List Oper} {o : Oper} {a : Act} {Q : Exit → Act → World → Prop}
    (hg : o.guard = none) (s x : Operand) (t : TypeId) (hop : o.op = Op.call { callee := Callee.builtin Builtin.append, args := #[s, x], argTypes := #[t, t] })
    (base : Nat) (e : TypeId) (i : TypeInfo) (z : Value) (size bytes : Nat) (h1 : P.underlying t = some (.slice e)) (h2 : P.info? e = some i) (h3 : i.zero = some z) (h4 : i.size = size) (h5 : i.bytes = bytes) (h6 : z.cells.size = size) (h7 : 0 < size)
    (a0 : Option Addr) (n cap : Nat) (xs : List Value) (hs : a.eval s = .slice a0 n cap) (hown : Hid (w.ownsRow base e size (.slice a0 n cap) n xs))
    (ax : Option Addr) (m c : Nat) (ys : List Value) (hx : a.eval x = .slice ax m c) (hn : ys.length = m * size) (hc : 0 < m → ∃ ad, ax = some ad ∧ ∀ j u, ys[j]? = some u → w.cell? (ad.add j) = some u) (h1c : ∀ u ∈ ys, u.oneCell' = true)
    (b1 : n + m ≤ maxLen) (b2 : (n + m) * bytes ≤ 140737488355328) (hbase : base ≤ w.heap.size) (k : Nat) (hk : n + m = k)
    (hK : ∀ a' cap' w', Hid (w'.ownsRow base e size (.slice a' k cap') k (xs ++ ys)) → Hid (w.grownBy w' (Value.slice a0 n cap).ownBlock) → wpList P ops Q rest (a.put o.dst (.slice a' k cap')) w') :
    wpList P ops Q (o :: rest) a w := by
  have hown := unhide hown
  subst hk
  rcases Nat.eq_zero_or_pos m with h0 | h0
  · subst h0
    have hys : ys = [] := List.eq_nil_of_length_eq_zero (by rw [hn]; omega)
    subst hys
    have hcap : n ≤ cap := own_capU hown
    have hrun : ∀ ty, (Builtin.append_ #[t, t] ty #[.slice a0 n cap, .slice ax 0 c]).run P w = .ok (.slice a0 n cap) w := fun ty => by
      cases a0 with
      | none => cases ax <;> simp [Builtin.append_, run_underlying h1, sizeOf, typeInfo, h2, Builtin.lenOf, Builtin.firstCells, go_sem, hcap]
      | some a1 => cases ax <;> simp [Builtin.append_, run_underlying h1, sizeOf, typeInfo, h2, Builtin.lenOf, Builtin.firstCells, go_sem, hcap]
    refine wpList_plain hg fun K hKK => ?_
    unfold Oper.wp execOp
    simp only [hop, resolve, invoke, builtin, Sem.run_bind, Sem.run_pure, Result.andThen_ok, List.map_toArray, List.map_cons, List.map_nil, hs, hx, hrun]
    exact hKK _ _ (hK a0 cap w (by rw [Nat.add_zero, List.append_nil]; exact hown) (World.grownBy.refl w _))
  · obtain ⟨ad, rfl, hcc⟩ := hc h0
    refine append_row w hg s x t hop base e i z size bytes h1 h2 h3 h4 h5 h6 h7 (.slice a0 n cap) n xs hs hown ad m c ys hx hn hcc h1c h0 b1 b2 hbase (fun v' w' r1 r2 _ => ?_)
    obtain ⟨a', cap', rfl⟩ := own_formU r1
    exact hK _ cap' w' r1 r2
theorem infoStrU : (Tryz.prog.info? 9).map (fun i => (i.zero, i.size, i.bytes)) = some (some (.string ByteArray.empty), 1, 16) := by kernel_rfl
theorem infoStrV : ∃ i, Tryz.prog.info? 9 = some i ∧ i.zero = some (.string ByteArray.empty) ∧ i.size = 1 ∧ i.bytes = 16 := by
  have := infoStrU
  cases h : Tryz.prog.info? 9 with
  | none => rw [h] at this; simp at this
  | some i => rw [h] at this; exact ⟨i, rfl, by simpa using this⟩
/-- slices.Grow of no names: room for n. -/
theorem grow_nil (n : Nat) (hn : n ≤ 2000) (w : World) :
    Calls Tryz.prog 109 #[.slice none 0 0, .int .i64 n] w fun e w' => Below w.heap.size w w' ∧ ∃ a cap, e = .returned (.slice a 0 cap) ∧ w'.ownsRow w.heap.size 9 1 (.slice a 0 cap) 0 [] := by
  obtain ⟨i, hi, hz, hs, hb⟩ := infoStrV
  rcases Nat.eq_zero_or_pos n with h0 | h0
  · subst h0
    refine (Any8.slices_Grow_room grLay none 0 0 0 w (by omega) (by omega) (by omega) (by omega)).mono ?_
    rintro e w' ⟨rfl, rfl⟩
    exact ⟨Below.refl _ _, none, 0, rfl, World.ownsRow_nil _ _ _ _⟩
  · refine (Any8.slices_Grow_grow grLay i (.string ByteArray.empty) hi hz (by omega) none 0 0 n [] w (by omega) (by omega) (by rw [hb]; omega) (by omega) (by simp) (fun _ => rfl) (fun a h => by cases h)).mono ?_
    rintro e w' ⟨rfl, rfl⟩
    have hcap := grownCap_ge w (0 + n) 0 (grRen.t 25)
    have hcm := grownCap_le_maxLen w (0 + n) 0 (grRen.t 25) (by unfold maxLen; omega)
    refine ⟨((Below.refl _ _).drew).alloc (Nat.le_refl _) _, _, _, rfl, ?_⟩
    generalize grownCap w (0 + n) 0 (grRen.t 25) = cap at hcap hcm ⊢
    refine World.ownsRow_made (base := w.heap.size) (e := 9) (size := 1) w.drew _ cap (Nat.le_refl _) hcm ?_
    have h1 : (Value.string ByteArray.empty).cells.size = 1 := rfl
    rw [Array.size_append, Array.size_append, size_zeroCells, size_zeroCells, h1]
    show 0 + _ + _ = _
    omega
/-- Names to be copied. -/
theorem strs_src {P : Nat → Prop} {w : World} {a : Option Addr} {n p : Nat} {ns : List ByteArray} (h : StrsAt P w (.slice a n p) ns) : n = ns.length ∧ (0 < n → ∃ ad, a = some ad ∧ ∀ j u, (ns.map Value.string)[j]? = some u → w.cell? (ad.add j) = some u) := by
  obtain ⟨a', p', e, -, hc⟩ := h
  simp only [Value.slice.injEq] at e
  obtain ⟨rfl, rfl, rfl⟩ := e
  refine ⟨rfl, fun h0 => ?_⟩
  obtain ⟨b, o, rfl, -, -⟩ := hc 0 h0
  refine ⟨_, rfl, fun j u hj => ?_⟩
  rw [List.getElem?_map] at hj
  obtain ⟨x, hx, rfl⟩ := Option.map_eq_some_iff.1 hj
  obtain ⟨hlt, rfl⟩ := List.getElem?_eq_some_iff.1 hx
  obtain ⟨b', o', e3, -, hcell, -⟩ := hc j hlt
  simp only [Option.some.injEq, Addr.mk.injEq, and_true] at e3
  obtain ⟨rfl, rfl⟩ := e3
  rw [Addr.add_lit]
  exact hcell
theorem strs_one (ns : List ByteArray) : ∀ u ∈ ns.map Value.string, u.oneCell' = true := fun u hu => by
  obtain ⟨x, -, rfl⟩ := List.mem_map.1 hu
  rfl
set_option maxRecDepth 100000 in
set_option maxHeartbeats 1600000 in
theorem concat_two (an bn : List ByteArray) (S : Nat) (a1 a2 : Option Addr) (n1 n2 p1 p2 : Nat) (w : World) (hS0 : w.cell? ⟨S, 0, none⟩ = some (.slice a1 n1 p1)) (hS1 : w.cell? ⟨S, 1, none⟩ = some (.slice a2 n2 p2)) (hSl : S < w.heap.size)
    (h1 : StrsAt (fun b => b < w.heap.size) w (.slice a1 n1 p1) an) (h2 : StrsAt (fun b => b < w.heap.size) w (.slice a2 n2 p2) bn) (hn1 : n1 ≤ 1000) (hn2 : n2 ≤ 1000) :
    Calls Tryz.prog 102 #[.slice (some ⟨S, 0, none⟩) 2 2] w fun e w' => Below w.heap.size w w' ∧ ∃ a cap, e = .returned (.slice a (n1 + n2) cap) ∧ w'.ownsRow w.heap.size 9 1 (.slice a (n1 + n2) cap) (n1 + n2) ((an ++ bn).map Value.string) := by
  have hm : maxLen = 9223372036854775807 := rfl
  obtain ⟨i0, hi0, hi1, hi2, hi3⟩ := infoStrV
  have HI0 := hide hi0; have HI1 := hide hi1; have HI2 := hide hi2; have HI3 := hide hi3
  clear hi0 hi1 hi2 hi3
  have c1 : ¬ ((n1 : Int) < 0) := by omega
  have c2 : ¬ ((n1 : Int) + (n2 : Int) < 0) := by omega
  have e1 : IntKind.i64.wrap ((n1 : Int) + (n2 : Int)) = (n1 : Int) + (n2 : Int) := by rw [IntKind.wrap_i64]; omega
  have hgr := grow_nil (n1 + n2) (by omega) w
  rw [show (((n1 + n2 : Nat)) : Int) = (n1 : Int) + (n2 : Int) by omega] at hgr
  have H1 := hide h1; have H2 := hide h2; have HSL := hide hSl; have HN1 := hide hn1; have HN2 := hide hn2; have HM := hide hm; have HGR := hide hgr
  clear h1 h2 hm hgr
  go_enter Tryz.func102, Tryz.ntmps102
  go_wp2_with fail
  refine wp_loop_rounds 3 ?_
  rw [rounds_succ]
  go_wp2_with fail
  rw [rounds_succ]
  go_wp2_with fail
  rw [rounds_succ]
  go_wp2_with fail
  refine (unhide HGR).mono ?_
  rintro e W1 ⟨hb1, a0, cap0, rfl, ho1⟩
  rw [← hb1.cell hSl] at hS0 hS1
  have HS1 := hide ((unhide H1).carry (fun b hb => hb1.block b hb) (fun _ h => h))
  have HO1 := hide ho1
  have HB1 := hide hb1
  clear hb1 ho1 H1 hSl c1 c2 e1 HGR
  go_wp2_with fail
  refine wp_loop_rounds 3 ?_
  rw [rounds_succ]
  go_wp2_with (at_builtin; refine append_listU _ rfl _ _ 23 rfl w.heap.size 9 i0 (.string ByteArray.empty) 1 16 Tryz.underlying23 (unhide HI0) (unhide HI1) (unhide HI2) (unhide HI3) rfl (by decide) a0 0 cap0 [] rfl HO1 a1 n1 p1 (an.map Value.string) rfl (by rw [List.length_map, (strs_src (unhide HS1)).1]; omega) (strs_src (unhide HS1)).2 (strs_one an) (by have := unhide HN1; have := unhide HM; omega) (by have := unhide HN1; omega) (unhide HB1).size n1 (Nat.zero_add _) ?_; intro a3 cap3 W3 ho3 hg3)
  have hb3 : Below w.heap.size w W3 := (unhide HB1).grown (unhide hg3) (unhide HB1).size (fun g e => ((unhide HO1).lt g e).1)
  rw [(unhide HB1).cell (unhide HSL), ← hb3.cell (unhide HSL)] at hS0 hS1
  have HS2 := hide ((unhide H2).carry (fun b hb => hb3.block b hb) (fun _ h => h))
  have HB3 := hide hb3
  rw [List.nil_append] at ho3
  clear hb3 hg3 HO1 HB1 HS1 H2
  go_wp2_with fail
  rw [rounds_succ]
  go_wp2_with (at_builtin; refine append_listU _ rfl _ _ 23 rfl w.heap.size 9 i0 (.string ByteArray.empty) 1 16 Tryz.underlying23 (unhide HI0) (unhide HI1) (unhide HI2) (unhide HI3) rfl (by decide) a3 n1 cap3 (an.map Value.string) rfl ho3 a2 n2 p2 (bn.map Value.string) rfl (by rw [List.length_map, (strs_src (unhide HS2)).1]; omega) (strs_src (unhide HS2)).2 (strs_one bn) (by have := unhide HN1; have := unhide HN2; have := unhide HM; omega) (by have := unhide HN1; have := unhide HN2; omega) (unhide HB3).size (n1 + n2) rfl ?_; intro a4 cap4 W4 ho4 hg4)
  have hb4 : Below w.heap.size w W4 := (unhide HB3).grown (unhide hg4) (unhide HB3).size (fun g e => ((unhide ho3).lt g e).1)
  have HB4 := hide hb4
  rw [← List.map_append] at ho4
  clear hb4 hg4 ho3 HB3 HS2 hS0 hS1
  go_wp2_with fail
  rw [rounds_succ]
  go_wp2_with fail
  go_ret
  exact ⟨unhide HB4, _, _, rfl, unhide ho4⟩
end Go.Proofs.YtenpghndgdemnaaGreatDoor
