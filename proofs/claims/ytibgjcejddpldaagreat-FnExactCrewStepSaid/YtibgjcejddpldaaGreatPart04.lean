/- A part. -/
import Derived.Test.YtibgjcejddpldaaGreatPart03
namespace Go.Proofs.YtibgjcejddpldaaGreat
open Go Go.RowKit
set_option maxRecDepth 100000
set_option maxHeartbeats 1600000
theorem ring_mod {f i n : Nat} (h : f + i ≤ 1000) : IntKind.i64.wrap ((f : Int) + (i : Int)) = ((f + i : Nat) : Int) ∧ ((f + i : Nat) : Int).tmod (n : Int) = (((f + i) % n : Nat) : Int) := by
 constructor
 · rw [IntKind.wrap_i64]; omega
 · rw [Int.tmod_eq_emod_of_nonneg (by omega)]; omega
theorem all_any (b p n : Nat) (l : List Int) (s : Int) (w : World) (h : RgAt w b p n l s) : Calls Tryz.prog 77 #[.pointer (some ⟨b, 0, none⟩)] w fun e w' => ∃ a c, e = .returned (.slice a l.length c) ∧ w'.ownsRow w.heap.size 3 1 (.slice a l.length c) l.length (l.map zcs).flatten ∧ Below w.heap.size w w' := by
 obtain ⟨⟨f, g, hf, hb, hp, hg⟩, hle, hsm⟩ := h
 obtain ⟨j1, hI, hI0, hI1, hI2⟩ := info_parts infoIntM
 have HI := xH hI; have HI0 := xH hI0; have HI1 := xH hI1; have HI2 := xH hI2
 clear hI hI0 hI1 hI2
 have c2 := hb.cell (i := 2) (by omega)
 simp only [rg4, List.getD_cons_zero, List.getD_cons_succ] at c2
 have HBX := xH hb; have HPL := xH hp; have HG := xH hg
 have HOWN0 := xH (show w.ownsRow w.heap.size 3 1 (.slice none 0 0) 0 ((l.take 0).map zcs).flatten from ⟨rfl, Or.inl ⟨rfl, rfl⟩⟩)
 clear hb hp hg
 go_enter Tryz.func77, Tryz.ntmps77
 go_wp2_with fail
 clear c2
 go_loopw [3, 9] (fun v i wr => ∃ (d : Nat) (a : Option Addr) (c : Nat), d ≤ l.length ∧ i = .int .i64 d ∧ v = .slice a d c ∧ Hid (wr.ownsRow w.heap.size 3 1 (.slice a d c) d ((l.take d).map zcs).flatten) ∧ Hid (Below w.heap.size w wr)) (fun _ i _ => l.length - (intOf i).toNat)
 case atStart => exact ⟨0, none, 0, Nat.zero_le _, rfl, rfl, HOWN0, xH (Below.refl _ _)⟩
 case round =>
  obtain ⟨d, a, c, hd, rfl, rfl, HO, HB⟩ := hrel
  by_cases hlt : d < l.length
  · have hbx := (xU HBX).of_block ((xU HB).block b (xU HBX).lt)
    have hpl := (xU HPL).of_block ((xU HB).block p (xU HPL).lt)
    obtain ⟨c0, c1⟩ := cs2 hbx (by omega)
    simp only [rg4, List.getD_cons_zero, List.getD_cons_succ] at c0 c1
    obtain ⟨hw0, hrem⟩ := ring_mod (f := f) (i := d) (n := n) (by omega)
    have hmn : (f + d) % n < n := Nat.mod_lt _ (by omega)
    have cp := hpl.cell (i := (f + d) % n) hmn
    simp only [xU HG d hlt] at cp
    have hn0 : ¬ (n = 0) := by omega
    have htk : ((l.take (d + 1)).map zcs).flatten = ((l.take d).map zcs).flatten ++ [.int .i64 l[d]] := by
     rw [List.take_succ_eq_append_getElem hlt, List.map_append, List.flatten_append]; rfl
    have HTK := xH htk
    generalize (f + d) % n = q at hrem hmn cp
    generalize f + d = fd at hw0 hrem
    generalize l[d] = z at cp HTK
    have hsw := (xU HB).size
    clear hbx hpl htk
    go_wp2_with fail
    go_region_law ((refine step_append_lies _ (by rfl) _ _ _ (by rfl) w.heap.size 3 j1 (.int .i64 0) 1 8 Tryz.underlying23 (xU HI) (xU HI0) (xU HI1) (xU HI2) rfl (by decide) (.slice a d c) d ((l.take d).map zcs).flatten (by rfl) (World.ownsRow.alloc HO.out _) ⟨wr.heap.size, 0, none⟩ 1 1 [.int .i64 z] (by first | rfl | simp) (by rfl) (cell_one _ _ _) (fun u hu => by simp at hu; subst hu; rfl) (by decide) (by unfold maxLen; omega) (by omega) (by simp; omega) (wr.heap.size + 1) (by simp) ?_; intro g2 cap2 w8 hown8 hgrow8 hat8 hlt8))
    all_goals
     have hgrow8 := grown_drew hgrow8
     have hbx : Below w.heap.size w w8 := ((xU HB).trans ((Below.refl w.heap.size wr).alloc (by omega) (.cells #[.int .i64 z] 3))).trans ((Below.refl w.heap.size _).grown hgrow8 (by simp; omega) (fun k e => (HO.out.lt k e).1))
     rw [← xU HTK] at hown8
     have HO8 := xH hown8; have HB8 := xH hbx
     clear hbx hown8 hgrow8 hat8 hlt8
     go_wp2_with fail
     go_roundw
     case rel => exact ⟨d + 1, some ⟨g2, 0, none⟩, cap2, by omega, by go_num, rfl, HO8, HB8⟩
     case measure => simp [intOf]; omega
  · obtain rfl : d = l.length := by omega
    have ho := HO.out
    rw [List.take_length] at ho
    have HO2 := xH ho
    clear ho
    go_wp2_with fail
    go_ret
    exact ⟨_, _, rfl, xU HO2, HB.out⟩
theorem putI_any (b p n : Nat) (l : List Int) (s z : Int) (w : World) (h : RgAt w b p n l s) (hroom : l.length < n) : Calls Tryz.prog 101 #[.pointer (some ⟨b, 0, none⟩), .int .i64 z] w fun e w' => e = .returned (.tuple #[]) ∧ RgAt w' b p n (l ++ [z]) s ∧ Exc [b, p] w w' := by
 have hne := h.ne
 obtain ⟨⟨f, g, hf, hb, hp, hg⟩, hle, hsm⟩ := h
 obtain ⟨c0, c1, c2⟩ := cs3 hb (by omega); have f2 := hb.frozen 2
 simp only [rg4, List.getD_cons_zero, List.getD_cons_succ] at c0 c1 c2
 obtain ⟨hw0, hrem⟩ := ring_mod (f := f) (i := l.length) (n := n) (by omega)
 have hmn : (f + l.length) % n < n := Nat.mod_lt _ (by omega)
 have cp := hp.cell (i := (f + l.length) % n) hmn; have fp := hp.frozen ((f + l.length) % n)
 have hn0 : ¬ (n = 0) := by omega
 have hend : ∀ W, W = (w.setCell ⟨p, (f + l.length) % n, none⟩ (.int .i64 z)).setCell ⟨b, 2, none⟩ (.int .i64 ((l.length : Int) + 1)) → RgAt W b p n (l ++ [z]) s := fun W hW => by
  subst hW
  refine ⟨⟨f, fun i => if i = (f + l.length) % n then z else g i, hf, ?_, ?_, ?_⟩, by simp; omega, hsm⟩
  · refine ((hb.setOther (a := ⟨p, (f + l.length) % n, none⟩) hne _).set 2 (.int .i64 ((l.length : Int) + 1))).congr fun i hi => ?_
    rcases (show i = 0 ∨ i = 1 ∨ i = 2 ∨ i = 3 by omega) with rfl | rfl | rfl | rfl <;> simp [rg4]
  · refine ((hp.set ((f + l.length) % n) (.int .i64 z)).setOther (a := ⟨b, 2, none⟩) (Ne.symm hne) _).congr fun i hi => ?_
    by_cases e : i = (f + l.length) % n <;> simp [e]
  · intro i hi
    rw [List.length_append] at hi
    have hi' : i < l.length + 1 := hi
    by_cases e : i = l.length
    · subst e; simp
    · have h1 : (f + i) % n ≠ (f + l.length) % n := fun e2 => by
       have a1 := Nat.div_add_mod (f + i) n; have a2 := Nat.div_add_mod (f + l.length) n
       rw [e2] at a1
       have h3 : n * ((f + l.length) / n) - n * ((f + i) / n) = l.length - i := by omega
       rw [← Nat.mul_sub] at h3
       rcases Nat.eq_zero_or_pos ((f + l.length) / n - (f + i) / n) with h4 | h4
       · rw [h4] at h3; omega
       · have := Nat.le_mul_of_pos_right n h4; omega
      simp only [if_neg h1]
      rw [List.getElem_append_left (by omega)]
      exact hg i (by omega)
 have hw1 : IntKind.i64.wrap ((l.length : Int) + 1) = (l.length : Int) + 1 := by rw [IntKind.wrap_i64]; omega
 have g2 : (w.setCell ⟨p, (f + l.length) % n, none⟩ (.int .i64 z)).cell? ⟨b, 2, none⟩ = some (.int .i64 l.length) := (hb.setOther (a := ⟨p, (f + l.length) % n, none⟩) hne _).cell (i := 2) (by omega)
 have gf : (w.setCell ⟨p, (f + l.length) % n, none⟩ (.int .i64 z)).frozen? ⟨b, 2, none⟩ = false := (hb.setOther (a := ⟨p, (f + l.length) % n, none⟩) hne _).frozen 2
 have HX := xH (show Exc [b, p] w ((w.setCell ⟨p, (f + l.length) % n, none⟩ (.int .i64 z)).setCell ⟨b, 2, none⟩ (.int .i64 ((l.length : Int) + 1))) from (Exc.set _ p _ _ (by simp)).trans (Exc.set _ b 2 _ (by simp)))
 have HEND := xH (hend _ rfl)
 clear hb hp hg hend
 generalize (f + l.length) % n = q at hrem hmn cp fp g2 gf HX HEND
 generalize f + l.length = fd at hw0 hrem
 generalize l.length = k at *
 go_enter Tryz.func101, Tryz.ntmps101
 go_wp2_with fail
 go_region
 have g2 : (w.setCell ⟨p, q, none⟩ (.int .i64 z)).drew.cell? ⟨b, 2, none⟩ = some (.int .i64 k) := g2
 have gf : (w.setCell ⟨p, q, none⟩ (.int .i64 z)).drew.frozen? ⟨b, 2, none⟩ = false := gf
 go_wp2_with fail
 go_end0
 exact ⟨rfl, (xU HEND).carry rfl rfl, (xU HX).trans (Exc.of_below (Below.refl _ _).drew)⟩
theorem fillI_any (b p n : Nat) (l : List Int) (s : Int) (v : Value) (zs : List Int) (P : Nat → Prop) (w : World) (h : RgAt w b p n l s) (hz : ZAt P w v zs) (hP : ∀ x, P x → x < w.heap.size ∧ x ≠ b ∧ x ≠ p) (hroom : l.length + zs.length ≤ n) : Calls Tryz.prog 75 #[.pointer (some ⟨b, 0, none⟩), v] w fun e w' => e = .returned (.tuple #[]) ∧ RgAt w' b p n (l ++ zs) s ∧ Exc [b, p] w w' := by
 have hsm := h.small
 obtain ⟨a, cap, rfl, hzl, hzc⟩ := hz.open
 have HP := xH (fun (k : List Int) (z : Int) (W : World) hW hc => putI_any b p n k s z W hW hc)
 have H0 := xH (show RgAt w b p n (l ++ zs.take 0) s by rw [List.take_zero, List.append_nil]; exact h)
 have HZ := xH hzc; have HPP := xH hP
 clear h hz hzc hP
 go_enter Tryz.func75, Tryz.ntmps75
 go_wp2_with fail
 go_loopw [8] (fun i wr => ∃ (c : Nat), c ≤ zs.length ∧ i = .int .i64 c ∧ Hid (RgAt wr b p n (l ++ zs.take c) s) ∧ Hid (Exc [b, p] w wr)) (fun i _ => zs.length - (intOf i).toNat)
 case atStart => exact ⟨0, Nat.zero_le _, rfl, H0, xH (Exc.refl _ _)⟩
 case round =>
  obtain ⟨c, hc, rfl, HR, HX⟩ := hrel
  by_cases hlt : c < zs.length
  · obtain ⟨bz, oz, rfl, hpb, hcell⟩ := xU HZ c hlt
    obtain ⟨hp1, hp2, hp3⟩ := xU HPP bz hpb
    have e1 : wr.cell? ⟨bz, oz + c, none⟩ = some (.int .i64 zs[c]) := by rw [World.cell?_of_block (a := ⟨bz, oz + c, none⟩) (HX.out.block bz hp1 (by simp [hp2, hp3]))]; exact hcell
    have htk : zs.take (c + 1) = zs.take c ++ [zs[c]] := List.take_succ_eq_append_getElem hlt
    have hlt2 : (l ++ zs.take c).length < n := by rw [List.length_append, List.length_take]; omega
    have HTK := xH htk; have HLT := xH hlt2
    generalize zs[c] = z at e1 HTK
    clear hcell htk hlt2
    go_wp2_with (go_at_call 101; refine (xU HP (l ++ zs.take c) z _ HR.out (xU HLT)).mono ?_; rintro e w2 ⟨rfl, hr2, hx2⟩; rw [List.append_assoc, ← xU HTK] at hr2; have HR2 := xH hr2; have HX2 := xH (HX.out.trans hx2); clear hr2 hx2)
    go_roundw
    case rel => exact ⟨c + 1, by omega, by go_num, HR2, HX2⟩
    case measure => simp [intOf]; omega
  · obtain rfl : c = zs.length := by omega
    have hr := HR.out
    rw [List.take_length] at hr
    have HR2 := xH hr
    clear hr
    go_wp2_with fail
    go_end0
    exact ⟨rfl, xU HR2, HX.out⟩



theorem append_copyD {P : Program} (w : World) {ops : Array Oper} {rest : List Oper} {o : Oper} {a : Act} {Q : Exit → Act → World → Prop}
 (hg : o.guard = none) (s x : Operand) (t : TypeId) (hop : o.op = Op.call { callee := Callee.builtin Builtin.append, args := #[s, x], argTypes := #[t, t] })
 (base : Nat) (e : TypeId) (i : TypeInfo) (z : Value) (size bytes : Nat) (h1 : P.underlying t = some (.slice e)) (h2 : P.info? e = some i) (h3 : i.zero = some z) (h4 : i.size = size) (h5 : i.bytes = bytes) (h6 : z.cells.size = size) (h7 : 0 < size)
 (g0 : Nat) (hs : a.eval s = .slice (some ⟨g0, 0, none⟩) 0 0) (hown : w.ownsRow base e size (.slice (some ⟨g0, 0, none⟩) 0 0) 0 [])
 (ax : Option Addr) (m c : Nat) (xs : List Value) (hx : a.eval x = .slice ax m c) (hn : xs.length = m * size) (hc : 0 < m → ∃ ad, ax = some ad ∧ ∀ j u, xs[j]? = some u → w.cell? (ad.add j) = some u) (h1c : ∀ u ∈ xs, u.oneCell' = true)
 (b1 : m ≤ maxLen) (b2 : m * bytes ≤ 140737488355328) (hbase : base ≤ w.heap.size)
 (hK : ∀ g cap w', Hid (w'.ownsRow base e size (.slice (some ⟨g, 0, none⟩) m cap) m xs) → Hid (w.grownBy w' (some g0)) → wpList P ops Q rest (a.put o.dst (.slice (some ⟨g, 0, none⟩) m cap)) w') :
 wpList P ops Q (o :: rest) a w := by
 rcases Nat.eq_zero_or_pos m with h0 | h0
 · subst h0
   have hxs : xs = [] := List.eq_nil_of_length_eq_zero (by rw [hn]; omega)
   subst hxs
   have hrun : ∀ ty, (Builtin.append_ #[t, t] ty #[.slice (some ⟨g0, 0, none⟩) 0 0, .slice ax 0 c]).run P w = .ok (.slice (some ⟨g0, 0, none⟩) 0 0) w := fun ty => by
    cases ax with
    | none => simp [Builtin.append_, run_underlying h1, sizeOf, typeInfo, h2, Builtin.lenOf, Builtin.firstCells, go_sem]
    | some ad => simp [Builtin.append_, run_underlying h1, sizeOf, typeInfo, h2, Builtin.lenOf, Builtin.firstCells, go_sem]
   refine wpList_plain hg fun K hKK => ?_
   unfold Oper.wp execOp
   simp only [hop, resolve, invoke, builtin, Sem.run_bind, Sem.run_pure, Result.andThen_ok, List.map_toArray, List.map_cons, List.map_nil, hs, hx, hrun]
   exact hKK _ _ (hK g0 0 w hown (World.grownBy.refl w _))
 · obtain ⟨ad, rfl, hcc⟩ := hc h0
   refine append_row w hg s x t hop base e i z size bytes h1 h2 h3 h4 h5 h6 h7 (.slice (some ⟨g0, 0, none⟩) 0 0) 0 [] hs hown ad m c xs hx hn hcc h1c h0 (by omega) (by rw [Nat.zero_add]; exact b2) hbase (fun v' w' r1 r2 _ => ?_)
   rw [Nat.zero_add, List.nil_append] at r1
   obtain ⟨g, cap, rfl, -, -⟩ := r1.form h0
   exact hK g cap w' r1 r2
end Go.Proofs.YtibgjcejddpldaaGreat
