/- The walks of the program's settle and write: a write that is not refused is done to the copy. Conditions: the disk is ok, the views and the copy lie in memory as they should. -/
import Derived.Test.YtgdiankfnemjjaaGreatPart30
import Derived.Deep.CutRange
import Derived.Test.YtgdiankfnemjjaaGreatPart28
namespace Go.Proofs.YtgdiankfnemjjaaGreat
open Go Go.RowKit Go.WideMaps Go.Maps

set_option maxRecDepth 100000 in
set_option maxHeartbeats 3200000 in
theorem settle_any (P : Nat → Prop) (w : World) (d : Dk) (a0 : Option Addr) (p0 T B : Nat) (x2 : Option Addr) (n2 m2 : Nat) (x4 : Option Addr) (n4 m4 : Nat) (h : Vs P d a0 p0 T B x2 n2 m2 x4 n4 m4 w) (b0 base L : Nat) (o : C3) (hm : MxSt base L w o.c0 o.c1 o.c2 d.files d.names d.moves) (hok : DkOkS d) (hbb : b0 ≤ base) (hbL : base ≤ L) (hP : ∀ b, P b → b ≠ L) (hT : T ≠ L) (hB : B ≠ L ∧ B < w.heap.size) :
    Calls Tryz.prog 100 #[.agg #[.pointer (some ⟨T, 0, none⟩), .pointer (some ⟨T, 0, none⟩), .slice x2 n2 m2, .pointer (some ⟨T, 0, none⟩), .slice x4 n4 m4], .pointer (some ⟨L, 0, none⟩)] w fun e w' => e = .returned (.tuple #[]) ∧ (∃ o' : C3, MxSt base L w' o'.c0 o'.c1 o'.c2 ((namesD d).map (fileD d)) (namesD d) []) ∧ Below b0 w w' ∧ TyK w w' := by
  have hLs := hm.row.lt
  have l0 := hm.row.cell (i := 0) (by omega); have l1 := hm.row.cell (i := 1) (by omega); have l2 := hm.row.cell (i := 2) (by omega)
  simp only [row3] at l0 l1 l2
  obtain ⟨aF, s0, eF⟩ := own_slice hm.o0
  rw [eF] at l0
  have hfz : ∀ j, w.frozen? ⟨L, j, none⟩ = false := fun j => hm.row.frozen j
  have HM := hide hm; have HV := hide h
  clear hm h
  go_enter Tryz.func100, Tryz.ntmps100
  go_upto_region 3 with fail
  have hA : ∀ ob, But L w (((((w.setCell ⟨L, 0, none⟩ (.slice none 0 0)).setCell ⟨L, 1, none⟩ (.slice none 0 0)).setCell ⟨L, 2, none⟩ (.slice none 0 0))).alloc ob) ∧ (((((w.setCell ⟨L, 0, none⟩ (.slice none 0 0)).setCell ⟨L, 1, none⟩ (.slice none 0 0)).setCell ⟨L, 2, none⟩ (.slice none 0 0))).alloc ob).rowIs L 37 3 (row3 (.slice none 0 0) (.slice none 0 0) (.slice none 0 0)) := fun ob =>
    ⟨(((But.set w 0 _).trans (But.set _ 1 _)).trans (But.set _ 2 _)).trans (But.alloc _ _ ob), World.rowIs.alloc ((set3 w L (.slice none 0 0) (.slice none 0 0) (.slice none 0 0)).2.2.1 _ _ (unhide HM).row) ob⟩
  have hA2 := hA (.cells #[.pointer (some ⟨T, 0, none⟩), .pointer (some ⟨T, 0, none⟩), .slice x2 n2 m2, .pointer (some ⟨T, 0, none⟩), .slice x4 n4 m4] 101)
  have hV := fiveV_alloc (((w.setCell ⟨L, 0, none⟩ (.slice none 0 0)).setCell ⟨L, 1, none⟩ (.slice none 0 0)).setCell ⟨L, 2, none⟩ (.slice none 0 0)) (.pointer (some ⟨T, 0, none⟩)) (.pointer (some ⟨T, 0, none⟩)) (.slice x2 n2 m2) (.pointer (some ⟨T, 0, none⟩)) (.slice x4 n4 m4) 101
  simp only [World.size_setCell] at hV
  generalize (World.alloc _ _) = W3 at hA2 hV ⊢
  clear hA l0 l1 l2 hfz
  obtain ⟨hbt, hL3⟩ := hA2
  have r0 := hV.cell (i := 0) (by omega); have r1 := hV.cell (i := 1) (by omega); have r2 := hV.cell (i := 2) (by omega); have r3 := hV.cell (i := 3) (by omega); have r4 := hV.cell (i := 4) (by omega)
  simp only [fiveV] at r0 r1 r2 r3 r4
  have hs3 := hV.lt
  have hPL : ∀ b, P b → W3.heap[b]? = w.heap[b]? := fun b hb => hbt.at ((unhide HV).lt b hb) (hP b hb)
  obtain ⟨hmf, hcl, hcf⟩ := cutN_facts hok d.moves.length
  have hcn : cutN d d.moves.length = namesD d := by
    unfold cutN
    rw [clampQ_all, List.take_of_length_le (Nat.le_refl _), namesD_ok hok]
  rw [clampQ_all, List.take_of_length_le (Nat.le_refl _)] at hmf
  rw [hcn] at hmf hcl hcf
  obtain ⟨hnd, heq, -⟩ := dk_nodup hok
  have HTH := hide (there_any d.names d.moves (some ⟨T, 0, none⟩) (some ⟨T, 0, none⟩) x2 n2 m2 (some ⟨T, 0, none⟩) x4 n4 m4 P W3 (fun b hb => by have := (unhide HV).lt b hb; omega) ((unhide HV).ns.carry hPL (fun _ h => h)) ((unhide HV).fn.carry hPL (fun _ h => h)) (by have := hok.l2; omega) (by have := hok.l3; omega) (namesD d) hmf)
  have HBT := hide hbt; have HL3 := hide hL3; have HV3 := hide hV; have HCF := hide hcf; have HND := hide (show (d.files.map Df.name).Nodup by rw [heq]; exact hnd)
  have HOK := hide hok; have HP := hide hP
  have HEF := hide eF
  clear hbt hL3 hV hPL hmf hcf hnd heq hcn hok hP eF
  go_wp2_with fail
  refine (unhide HTH).mono ?_
  rintro e w5 ⟨v5, rfl, hn5⟩
  clear HTH r0 r1 r2 r3 r4
  have hb5 := hn5.below
  have hs5 := hb5.size
  have hbt5 : But L w w5 := (unhide HBT).trans (But.of_below hb5)
  have hV5 := (unhide HV3).of_block (hb5.block _ (by omega))
  have hL5 := (unhide HL3).of_block (hb5.block L (by omega))
  obtain ⟨a5, cap5, e5, hl5, hc5⟩ := hn5.strs
  subst e5
  have HC5 := hide hc5; have HBT5 := hide hbt5; have HV5 := hide hV5
  have HST := hide (show Cx w5 L (.slice none 0 0) (.slice none 0 0) [] [] w5 from ⟨⟨by omega, hL5, ⟨rfl, Or.inl ⟨rfl, rfl⟩⟩, ⟨rfl, Or.inl ⟨rfl, rfl⟩⟩⟩, But.refl _ _⟩)
  clear hb5 hbt5 hV5 hL5 hc5 hn5 HBT HL3 HV3
  generalize hNN : namesD d = N at *
  have HNN := hide hNN
  clear hNN
  go_wp2_with fail
  go_loopw [17] (fun i wr => ∃ (k : Nat) (vf vn : Value), k ≤ N.length ∧ i = .int .i64 k ∧ Hid (Cx w5 L vf vn ((N.take k).map (fileD d)) (N.take k) wr)) (fun i _ => N.length - (intOf i).toNat)
  case atStart => exact ⟨0, _, _, Nat.zero_le _, rfl, unhide HST⟩
  case round =>
    clear HST
    obtain ⟨k, vf, vn, hk, rfl, HS⟩ := hrel
    have hws := HS.out.bt.size
    by_cases hlt : k < N.length
    rotate_left
    · obtain rfl : k = N.length := by omega
      have hst := HS.out
      rw [List.take_of_length_le (Nat.le_refl _)] at hst
      have HST := hide hst
      clear hst HS
      go_wp2_with fail
      go_end0
      have h9 := unhide HST
      have hNN := unhide HNN
      subst hNN
      refine ⟨rfl, ⟨⟨vf, vn, .slice none 0 0⟩, h9.st.row, h9.st.of.mono (by omega), h9.st.on.mono (by omega), ⟨rfl, Or.inl ⟨rfl, rfl⟩⟩⟩, ?_⟩
      have hb := (unhide HBT5).trans h9.bt
      refine ⟨⟨hb.os, hb.tape, hb.output, hb.size, fun b hbl => hb.at (by omega) (by omega)⟩, fun b cs t fz h1 h2 h3 h4 => hb.at (blk_lt h1) fun e => ?_⟩
      subst e
      obtain ⟨cs2, fz2, h5⟩ := row_ty (unhide HM).row
      rw [h5] at h1
      simp only [Option.some.injEq, Obj.cells.injEq] at h1
      exact h4 h1.2.1.symm
    · obtain ⟨i, hi, he, hf⟩ := unhide HCF N[k] (List.getElem_mem hlt)
      obtain ⟨b5, o5, rfl, hpb5, hc5, hsx⟩ := unhide HC5 k hlt
      have hb5L : b5 ≠ L := by have := hpb5.1; omega
      have e5 : wr.cell? ⟨b5, o5 + k, none⟩ = some (.string N[k]) := by rw [World.cell?_of_block (w := w5) (HS.out.bt.at hpb5.2 hb5L)]; exact hc5
      have hok := unhide HOK
      have hx8 : N[k].size ≤ 8 := by
        refine Classical.byContradiction fun hno => ?_
        have hn := (hok.file i hi (by rw [hok.len]; exact hi)).name
        rw [he, nameOk_len (Or.inr (by omega))] at hn
        cases hn
      have hat := at_nmap (d.files.map Df.name) (unhide HND) i (by rw [List.length_map]; exact hi) (d.files.map Df.name).length (Nat.le_refl _) (by rw [List.length_map]; exact hi)
      rw [List.getElem_map, he] at hat
      obtain ⟨g, s1, hg, hbg, -⟩ := (unhide HM).o0.form (by omega)
      rw [unhide HEF] at hg
      simp only [Value.slice.injEq, true_and] at hg
      obtain ⟨rfl, rfl⟩ := hg
      have hO := (unhide HM).o0
      rw [unhide HEF] at hO
      have hgL : g ≠ L := fun e => own_apart hO (unhide HM).row (by decide) (by rw [e]; rfl)
      have hgs := (hO.lt g rfl).2
      have hbW : ∀ W, But L w5 W → But L w W := fun W hW => (unhide HBT5).trans hW
      have hV' : ∀ W, But L w5 W → W.cell? ⟨w.heap.size, 0, none⟩ = some (.pointer (some ⟨T, 0, none⟩)) := fun W hW => ((unhide HV5).of_block (hW.at (by omega) (by omega))).cell (i := 0) (by omega)
      have hT' : ∀ W, But L w5 W → W.cell? ⟨T, 1, none⟩ = some (.map (some B)) := fun W hW => ((unhide HV).row.of_block ((hbW W hW).at (unhide HV).row.lt hT)).cell (i := 1) (by omega)
      have hM' : ∀ W, But L w5 W → NMap W B (d.files.map Df.name) := fun W hW => ownsMap_block (unhide HV).map ((hbW W hW).at hB.2 hB.1)
      have hF' : ∀ W, But L w5 W → W.cell? ⟨g, i * 3, none⟩ = some (.string d.files[i].name) ∧ W.cell? ⟨g, i * 3 + 1, none⟩ = some (.string d.files[i].data) ∧ W.cell? ⟨g, i * 3 + 2, none⟩ = some (.int .i64 d.files[i].kept) := fun W hW => ownFile (ownsRow_keep hO (fun g' e => by
        simp only [Value.ownBlock, Option.some.injEq] at e
        subst e
        exact (hbW W hW).at hgs hgL)) i hi
      have htk : (N.take k).length = k := by rw [List.length_take]; omega
      have HS6 := hide (fun W (h : Cx w5 L vf vn ((N.take k).map (fileD d)) (N.take k) W) => h)
      have HV' := hide hV'; have HT' := hide hT'; have HM' := hide hM'; have HF' := hide hF'; have HAT := hide hat
      have HFD := hide (show fileD d N[k] = d.files[i] from fileD_at hi hf)
      have HTS := hide (List.take_succ_eq_append_getElem hlt)
      have HTK := hide htk
      clear hV' hT' hM' hF' hat hbW hO hgL hgs htk hsx hpb5 hc5 he hf hok HS6
      go_upto_region 6 with fail
      refine wp_swap (c' := Code.region 6 se6Ops true) (by kernel_rfl) ?_
      refine wp_region_noPanic ?_
      refine se6 w5 L vf vn ((N.take k).map (fileD d)) (N.take k) N[k] (by omega) (by rw [unhide HTK]; omega) (by rfl) wr _ (fun _ _ _ _ _ h => h) (HS.out.on (drewB _)) ?_
      intro v vn' W1 h1
      refine NoPanic.normal ?_
      simp only [frL_eq, frG, List.lookup, Nat.reduceBEq, Nat.reduceAdd, Option.getD_some, Option.getD_none]
      rw [← unhide HTS] at h1
      have HS1 := hide h1
      clear h1 HS e5
      go_upto_region 7 with fail
      refine wp_swap (c' := Code.region 7 se7Ops true) (by kernel_rfl) ?_
      refine wp_region_noPanic ?_
      refine se7 w5 L w.heap.size T B vf vn' ((N.take k).map (fileD d)) (N.take (k + 1)) (d.files.map Df.name) N[k] d.files[i] i g d.files.length s0 hi (by omega) (by rw [List.length_map, unhide HTK]; omega) (unhide HAT) (unhide HV') (unhide HT') (unhide HM') (unhide HF') (by rfl) W1 _ (fun _ _ _ _ _ h => h) ((unhide HS1).on (drewB _)) ?_
      intro v2 vf' W2 h2
      refine NoPanic.normal ?_
      simp only [frL_eq, frG, List.lookup, Nat.reduceBEq, Nat.reduceAdd, Option.getD_some, Option.getD_none]
      rw [← unhide HFD, show (N.take k).map (fileD d) ++ [fileD d N[k]] = (N.take (k + 1)).map (fileD d) by rw [unhide HTS, List.map_append]; rfl] at h2
      have HS2 := hide h2
      clear h2 HS1
      go_wp2_with fail
      go_roundw
      case rel => exact ⟨k + 1, vf', vn', by omega, by go_num, unhide HS2⟩
      case measure => simp [intOf]; omega
end Go.Proofs.YtgdiankfnemjjaaGreat

/- The walks of the program's write: a write that is not refused is done to the copy. Conditions: the disk is ok, the views and the copy lie in memory as they should. -/

namespace Go.Proofs.YtgdiankfnemjjaaGreat
open Go Go.RowKit Go.WideMaps Go.Maps

/-- What write leaves. -/
def WrEnd (w w' : World) (e : Ending) (b0 base L : Nat) (d2 : Dk) : Prop := e = .returned (.tuple #[]) ∧ (∃ o' : C3, MxSt base L w' o'.c0 o'.c1 o'.c2 d2.files d2.names d2.moves) ∧ Below b0 w w' ∧ TyK w w'
theorem Wb.start {w : World} {d : Dk} {T : Nat} {x2 : Option Addr} {n2 m2 : Nat} {x4 : Option Addr} {n4 m4 : Nat} {k : Int} {x y : ByteArray} {b0 base L : Nat} {o : C3} (hm : MxSt base L w o.c0 o.c1 o.c2 d.files d.names d.moves) (hbb : b0 ≤ base) (hbL : base ≤ L) : Wb w k x y b0 base L o d ((w.alloc (.cells #[.pointer (some ⟨T, 0, none⟩), .pointer (some ⟨T, 0, none⟩), .slice x2 n2 m2, .pointer (some ⟨T, 0, none⟩), .slice x4 n4 m4] 101)).alloc (.cells #[.int .i64 k, .string x, .string y] 63)) := by
  have hb : Below w.heap.size w ((w.alloc (.cells #[.pointer (some ⟨T, 0, none⟩), .pointer (some ⟨T, 0, none⟩), .slice x2 n2 m2, .pointer (some ⟨T, 0, none⟩), .slice x4 n4 m4] 101)).alloc (.cells #[.int .i64 k, .string x, .string y] 63)) := ((Below.refl _ _).alloc (Nat.le_refl _) _).alloc (by simp) _
  have hl := hm.row.lt
  refine ⟨?_, hm.keep hb, hb.mono (by omega), hbb, by omega, TyK.below hb⟩
  have := row3_alloc (w.alloc (.cells #[.pointer (some ⟨T, 0, none⟩), .pointer (some ⟨T, 0, none⟩), .slice x2 n2 m2, .pointer (some ⟨T, 0, none⟩), .slice x4 n4 m4] 101)) (.int .i64 k) (.string x) (.string y) 63
  rw [World.size_alloc] at this; exact this
theorem Rg.vs {P : Nat → Prop} {w : World} {d : Dk} {a0 : Option Addr} {p0 T B : Nat} {x2 : Option Addr} {n2 m2 : Nat} {x4 : Option Addr} {n4 m4 : Nat} {k : Int} {x y : ByteArray} {W : World} (h : Rg P w d a0 p0 T B x2 n2 m2 x4 n4 m4 k x y W) : Vs P d a0 p0 T B x2 n2 m2 x4 n4 m4 W := ⟨h.row, h.map, h.ns, h.fn, h.fs, h.pl⟩
set_option maxRecDepth 100000 in
set_option maxHeartbeats 3200000 in
theorem write_make (P : Nat → Prop) (w : World) (d : Dk) (a0 : Option Addr) (p0 T B : Nat) (x2 : Option Addr) (n2 m2 : Nat) (x4 : Option Addr) (n4 m4 : Nat) (x y : ByteArray) (h : Vs P d a0 p0 T B x2 n2 m2 x4 n4 m4 w) (b0 base L : Nat) (o : C3) (hm : MxSt base L w o.c0 o.c1 o.c2 d.files d.names d.moves) (hx : x.size ≤ 1048576) (hbb : b0 ≤ base) (hbL : base ≤ L) (hf : d.files.length ≤ 999) (hmv : d.moves.length ≤ 999) : Calls Tryz.prog 92 #[.agg #[.pointer (some ⟨T, 0, none⟩), .pointer (some ⟨T, 0, none⟩), .slice x2 n2 m2, .pointer (some ⟨T, 0, none⟩), .slice x4 n4 m4], .pointer (some ⟨L, 0, none⟩), .agg #[.int .i64 1, .string x, .string y]] w fun e w' => WrEnd w w' e b0 base L ⟨d.files ++ [⟨x, ByteArray.empty, 0⟩], d.names, d.moves ++ [⟨false, x⟩]⟩ := by
  obtain ⟨c, -, hc, -⟩ := look_all h.map x (by omega)
  have HC := hide hc
  clear hc
  have HG := hide (Rg.start (k := 1) (x := x) (y := y) h)
  have HW := hide (Wb.start (k := 1) (x := x) (y := y) (T := T) (x2 := x2) (n2 := n2) (m2 := m2) (x4 := x4) (n4 := n4) (m4 := m4) (b0 := b0) hm hbb hbL)
  clear h hm
  go_enter Tryz.func92, Tryz.ntmps92
  go_upto_region 1 with fail
  generalize (w.alloc _).alloc _ = W0 at HG HW ⊢
  refine wp_swap (c' := Code.region 1 wr1Ops true) (by kernel_rfl) ?_
  refine wp_region_noPanic ?_
  refine wr1 w L T B x (d.files.map Df.name) c (by omega) (unhide HC) W0 _ (fun _ _ _ _ _ h => h) (unhide HG).v0 (unhide HG).t1 (unhide HG).m1 (unhide HG).map (by kernel_rfl) ?_
  intro v
  refine NoPanic.normal ?_
  simp only [frL_eq, frG, List.lookup, Nat.reduceBEq, Nat.reduceAdd, Option.getD_some, Option.getD_none]
  have HG1 := hide ((unhide HG).on (drewB _)); have HW1 := hide ((unhide HW).on (drewB _) (unhide HW).sz)
  clear HG HW
  generalize W0.drew = W1 at HG1 HW1 ⊢
  have m0 := (unhide HG1).b1.cell (i := 0) (by omega)
  simp only [row3] at m0
  go_upto_region 4 with fail
  refine wp_swap (c' := Code.region 4 wr4Ops true) (by kernel_rfl) ?_
  refine wp_region_noPanic ?_
  refine wr4 w 1 x y b0 base L o d hx (by omega) (fun W hW => Nat.le_trans hbL (Nat.le_of_lt hW.mx.row.lt)) _ _ (fun _ _ _ _ _ h => h) ((unhide HW1).on (drewB _) (unhide HW1).sz) (by kernel_rfl) ?_
  intro v2 o2 W2 h2
  refine NoPanic.normal ?_
  simp only [frL_eq, frG, List.lookup, Nat.reduceBEq, Nat.reduceAdd, Option.getD_some, Option.getD_none]
  have HW2 := hide h2
  clear h2 HW1 HG1 m0
  go_upto_region 5 with fail
  refine wp_swap (c' := Code.region 5 wr5Ops true) (by kernel_rfl) ?_
  refine wp_region_noPanic ?_
  refine wr5 w 1 x y b0 base L o2 ⟨d.files ++ [⟨x, ByteArray.empty, 0⟩], d.names, d.moves⟩ hx (by simp only; omega) (fun W hW => Nat.le_trans hbL (Nat.le_of_lt hW.mx.row.lt)) _ _ (fun _ _ _ _ _ h => h) ((unhide HW2).on (drewB _) (unhide HW2).sz) (by kernel_rfl) ?_
  intro v3 o3 W3 h3
  refine NoPanic.normal ?_
  simp only [frL_eq, frG, List.lookup, Nat.reduceBEq, Nat.reduceAdd, Option.getD_some, Option.getD_none]
  have HW3 := hide h3
  clear h3 HW2
  go_wp2_with fail
  go_end0
  exact ⟨rfl, ⟨o3, (unhide HW3).mx⟩, (unhide HW3).bel, (unhide HW3).ty⟩
set_option maxRecDepth 100000 in
set_option maxHeartbeats 3200000 in
theorem write_gone (P : Nat → Prop) (w : World) (d : Dk) (a0 : Option Addr) (p0 T B : Nat) (x2 : Option Addr) (n2 m2 : Nat) (x4 : Option Addr) (n4 m4 : Nat) (x y : ByteArray) (h : Vs P d a0 p0 T B x2 n2 m2 x4 n4 m4 w) (b0 base L : Nat) (o : C3) (hm : MxSt base L w o.c0 o.c1 o.c2 d.files d.names d.moves) (hx : x.size ≤ 1048576) (hbb : b0 ≤ base) (hbL : base ≤ L) (hmv : d.moves.length ≤ 999) : Calls Tryz.prog 92 #[.agg #[.pointer (some ⟨T, 0, none⟩), .pointer (some ⟨T, 0, none⟩), .slice x2 n2 m2, .pointer (some ⟨T, 0, none⟩), .slice x4 n4 m4], .pointer (some ⟨L, 0, none⟩), .agg #[.int .i64 4, .string x, .string y]] w fun e w' => WrEnd w w' e b0 base L ⟨d.files, d.names, d.moves ++ [⟨true, x⟩]⟩ := by
  obtain ⟨c, -, hc, -⟩ := look_all h.map x (by omega)
  have HC := hide hc
  clear hc
  have HG := hide (Rg.start (k := 4) (x := x) (y := y) h)
  have HW := hide (Wb.start (k := 4) (x := x) (y := y) (T := T) (x2 := x2) (n2 := n2) (m2 := m2) (x4 := x4) (n4 := n4) (m4 := m4) (b0 := b0) hm hbb hbL)
  clear h hm
  go_enter Tryz.func92, Tryz.ntmps92
  go_upto_region 1 with fail
  generalize (w.alloc _).alloc _ = W0 at HG HW ⊢
  refine wp_swap (c' := Code.region 1 wr1Ops true) (by kernel_rfl) ?_
  refine wp_region_noPanic ?_
  refine wr1 w L T B x (d.files.map Df.name) c (by omega) (unhide HC) W0 _ (fun _ _ _ _ _ h => h) (unhide HG).v0 (unhide HG).t1 (unhide HG).m1 (unhide HG).map (by kernel_rfl) ?_
  intro v
  refine NoPanic.normal ?_
  simp only [frL_eq, frG, List.lookup, Nat.reduceBEq, Nat.reduceAdd, Option.getD_some, Option.getD_none]
  have HG1 := hide ((unhide HG).on (drewB _)); have HW1 := hide ((unhide HW).on (drewB _) (unhide HW).sz)
  clear HG HW
  generalize W0.drew = W1 at HG1 HW1 ⊢
  have m0 := (unhide HG1).b1.cell (i := 0) (by omega)
  simp only [row3] at m0
  go_upto_region 11 with fail
  refine wp_swap (c' := Code.region 11 wr11Ops true) (by kernel_rfl) ?_
  refine wp_region_noPanic ?_
  refine wr11 w 4 x y b0 base L o d hx (by omega) (fun W hW => Nat.le_trans hbL (Nat.le_of_lt hW.mx.row.lt)) _ _ (fun _ _ _ _ _ h => h) ((unhide HW1).on (drewB _) (unhide HW1).sz) (by kernel_rfl) ?_
  intro v2 o2 W2 h2
  refine NoPanic.normal ?_
  simp only [frL_eq, frG, List.lookup, Nat.reduceBEq, Nat.reduceAdd, Option.getD_some, Option.getD_none]
  have HW2 := hide h2
  clear h2 HW1 HG1 m0
  go_wp2_with fail
  go_end0
  exact ⟨rfl, ⟨o2, (unhide HW2).mx⟩, (unhide HW2).bel, (unhide HW2).ty⟩
set_option maxRecDepth 100000 in
set_option maxHeartbeats 3200000 in
theorem write_add (P : Nat → Prop) (w : World) (d : Dk) (a0 : Option Addr) (p0 T B : Nat) (x2 : Option Addr) (n2 m2 : Nat) (x4 : Option Addr) (n4 m4 : Nat) (x y : ByteArray) (h : Vs P d a0 p0 T B x2 n2 m2 x4 n4 m4 w) (b0 base L : Nat) (o : C3) (hm : MxSt base L w o.c0 o.c1 o.c2 d.files d.names d.moves) (hx : x.size ≤ 1048576) (hbb : b0 ≤ base) (hbL : base ≤ L) (hy : y.size ≤ 1048576) (hnd : (d.files.map Df.name).Nodup) (i : Nat) (hi : i < d.files.length) (hxi : d.files[i].name = x) (hs : ¬ (9223372036854775807 < d.files[i].data.size + y.size)) : Calls Tryz.prog 92 #[.agg #[.pointer (some ⟨T, 0, none⟩), .pointer (some ⟨T, 0, none⟩), .slice x2 n2 m2, .pointer (some ⟨T, 0, none⟩), .slice x4 n4 m4], .pointer (some ⟨L, 0, none⟩), .agg #[.int .i64 2, .string x, .string y]] w fun e w' => WrEnd w w' e b0 base L ⟨d.files.set i ⟨d.files[i].name, d.files[i].data ++ y, d.files[i].kept⟩, d.names, d.moves⟩ := by
  have hat := at_nmap (d.files.map Df.name) hnd i (by rw [List.length_map]; exact hi) (d.files.map Df.name).length (Nat.le_refl _) (by rw [List.length_map]; exact hi)
  rw [List.getElem_map, hxi] at hat
  have HC := hide hat
  obtain ⟨g, s0, hO, -, -⟩ := hm.o0.form (by omega)
  clear hat
  have HG := hide (Rg.start (k := 2) (x := x) (y := y) h)
  have HW := hide (Wb.start (k := 2) (x := x) (y := y) (T := T) (x2 := x2) (n2 := n2) (m2 := m2) (x4 := x4) (n4 := n4) (m4 := m4) (b0 := b0) hm hbb hbL)
  clear h hm
  go_enter Tryz.func92, Tryz.ntmps92
  go_upto_region 1 with fail
  generalize (w.alloc _).alloc _ = W0 at HG HW ⊢
  refine wp_swap (c' := Code.region 1 wr1Ops true) (by kernel_rfl) ?_
  refine wp_region_noPanic ?_
  refine wr1 w L T B x (d.files.map Df.name) (i : Nat) (by omega) (unhide HC) W0 _ (fun _ _ _ _ _ h => h) (unhide HG).v0 (unhide HG).t1 (unhide HG).m1 (unhide HG).map (by kernel_rfl) ?_
  intro v
  refine NoPanic.normal ?_
  simp only [frL_eq, frG, List.lookup, Nat.reduceBEq, Nat.reduceAdd, Option.getD_some, Option.getD_none]
  have HG1 := hide ((unhide HG).on (drewB _)); have HW1 := hide ((unhide HW).on (drewB _) (unhide HW).sz)
  clear HG HW
  generalize W0.drew = W1 at HG1 HW1 ⊢
  have m0 := (unhide HG1).b1.cell (i := 0) (by omega)
  simp only [row3] at m0
  have HO := hide hO
  clear hO
  go_upto_region 7 with fail
  refine wp_swap (c' := Code.region 7 wr7Ops true) (by kernel_rfl) ?_
  refine wp_region_noPanic ?_
  refine wr7 w 2 x y b0 base L o d hy i hi g s0 (unhide HO) hs _ _ (fun _ _ _ _ _ h => h) ((unhide HW1).on (drewB _) (unhide HW1).sz) (by kernel_rfl) ?_
  intro v2 W2 h2
  refine NoPanic.normal ?_
  simp only [frL_eq, frG, List.lookup, Nat.reduceBEq, Nat.reduceAdd, Option.getD_some, Option.getD_none]
  have HW2 := hide h2
  clear h2 HW1 HG1 m0
  go_wp2_with fail
  go_end0
  exact ⟨rfl, ⟨o, (unhide HW2).mx⟩, (unhide HW2).bel, (unhide HW2).ty⟩
set_option maxRecDepth 100000 in
set_option maxHeartbeats 3200000 in
theorem write_sync (P : Nat → Prop) (w : World) (d : Dk) (a0 : Option Addr) (p0 T B : Nat) (x2 : Option Addr) (n2 m2 : Nat) (x4 : Option Addr) (n4 m4 : Nat) (x y : ByteArray) (h : Vs P d a0 p0 T B x2 n2 m2 x4 n4 m4 w) (b0 base L : Nat) (o : C3) (hm : MxSt base L w o.c0 o.c1 o.c2 d.files d.names d.moves) (hx : x.size ≤ 1048576) (hbb : b0 ≤ base) (hbL : base ≤ L) (hnd : (d.files.map Df.name).Nodup) (i : Nat) (hi : i < d.files.length) (hxi : d.files[i].name = x) : Calls Tryz.prog 92 #[.agg #[.pointer (some ⟨T, 0, none⟩), .pointer (some ⟨T, 0, none⟩), .slice x2 n2 m2, .pointer (some ⟨T, 0, none⟩), .slice x4 n4 m4], .pointer (some ⟨L, 0, none⟩), .agg #[.int .i64 3, .string x, .string y]] w fun e w' => WrEnd w w' e b0 base L ⟨d.files.set i ⟨d.files[i].name, d.files[i].data, d.files[i].data.size⟩, d.names, d.moves⟩ := by
  have hat := at_nmap (d.files.map Df.name) hnd i (by rw [List.length_map]; exact hi) (d.files.map Df.name).length (Nat.le_refl _) (by rw [List.length_map]; exact hi)
  rw [List.getElem_map, hxi] at hat
  have HC := hide hat
  obtain ⟨g, s0, hO, -, -⟩ := hm.o0.form (by omega)
  clear hat
  have HG := hide (Rg.start (k := 3) (x := x) (y := y) h)
  have HW := hide (Wb.start (k := 3) (x := x) (y := y) (T := T) (x2 := x2) (n2 := n2) (m2 := m2) (x4 := x4) (n4 := n4) (m4 := m4) (b0 := b0) hm hbb hbL)
  clear h hm
  go_enter Tryz.func92, Tryz.ntmps92
  go_upto_region 1 with fail
  generalize (w.alloc _).alloc _ = W0 at HG HW ⊢
  refine wp_swap (c' := Code.region 1 wr1Ops true) (by kernel_rfl) ?_
  refine wp_region_noPanic ?_
  refine wr1 w L T B x (d.files.map Df.name) (i : Nat) (by omega) (unhide HC) W0 _ (fun _ _ _ _ _ h => h) (unhide HG).v0 (unhide HG).t1 (unhide HG).m1 (unhide HG).map (by kernel_rfl) ?_
  intro v
  refine NoPanic.normal ?_
  simp only [frL_eq, frG, List.lookup, Nat.reduceBEq, Nat.reduceAdd, Option.getD_some, Option.getD_none]
  have HG1 := hide ((unhide HG).on (drewB _)); have HW1 := hide ((unhide HW).on (drewB _) (unhide HW).sz)
  clear HG HW
  generalize W0.drew = W1 at HG1 HW1 ⊢
  have m0 := (unhide HG1).b1.cell (i := 0) (by omega)
  simp only [row3] at m0
  have HO := hide hO
  clear hO
  go_upto_region 9 with fail
  refine wp_swap (c' := Code.region 9 wr9Ops true) (by kernel_rfl) ?_
  refine wp_region_noPanic ?_
  refine wr9 w 3 x y b0 base L o d i hi g s0 (unhide HO) _ _ (fun _ _ _ _ _ h => h) ((unhide HW1).on (drewB _) (unhide HW1).sz) (by kernel_rfl) ?_
  intro v2 W2 h2
  refine NoPanic.normal ?_
  simp only [frL_eq, frG, List.lookup, Nat.reduceBEq, Nat.reduceAdd, Option.getD_some, Option.getD_none]
  have HW2 := hide h2
  clear h2 HW1 HG1 m0
  go_wp2_with fail
  go_end0
  exact ⟨rfl, ⟨o, (unhide HW2).mx⟩, (unhide HW2).bel, (unhide HW2).ty⟩
set_option maxRecDepth 100000 in
set_option maxHeartbeats 3200000 in
theorem write_dirs (P : Nat → Prop) (w : World) (d : Dk) (a0 : Option Addr) (p0 T B : Nat) (x2 : Option Addr) (n2 m2 : Nat) (x4 : Option Addr) (n4 m4 : Nat) (x y : ByteArray) (h : Vs P d a0 p0 T B x2 n2 m2 x4 n4 m4 w) (b0 base L : Nat) (o : C3) (hm : MxSt base L w o.c0 o.c1 o.c2 d.files d.names d.moves) (hx : x.size ≤ 1048576) (hbb : b0 ≤ base) (hbL : base ≤ L) (hok : DkOkS d) (hP : ∀ b, P b → b ≠ L) (hT : T ≠ L) (hB : B ≠ L ∧ B < w.heap.size) : Calls Tryz.prog 92 #[.agg #[.pointer (some ⟨T, 0, none⟩), .pointer (some ⟨T, 0, none⟩), .slice x2 n2 m2, .pointer (some ⟨T, 0, none⟩), .slice x4 n4 m4], .pointer (some ⟨L, 0, none⟩), .agg #[.int .i64 5, .string x, .string y]] w fun e w' => WrEnd w w' e b0 base L (keepD d (namesD d)) := by
  obtain ⟨c, -, hc, -⟩ := look_all h.map x (by omega)
  have HC := hide hc
  clear hc
  have HG := hide (Rg.start (k := 5) (x := x) (y := y) h)
  have HW := hide (Wb.start (k := 5) (x := x) (y := y) (T := T) (x2 := x2) (n2 := n2) (m2 := m2) (x4 := x4) (n4 := n4) (m4 := m4) (b0 := b0) hm hbb hbL)
  clear h hm
  go_enter Tryz.func92, Tryz.ntmps92
  go_upto_region 1 with fail
  generalize (w.alloc _).alloc _ = W0 at HG HW ⊢
  refine wp_swap (c' := Code.region 1 wr1Ops true) (by kernel_rfl) ?_
  refine wp_region_noPanic ?_
  refine wr1 w L T B x (d.files.map Df.name) c (by omega) (unhide HC) W0 _ (fun _ _ _ _ _ h => h) (unhide HG).v0 (unhide HG).t1 (unhide HG).m1 (unhide HG).map (by kernel_rfl) ?_
  intro v
  refine NoPanic.normal ?_
  simp only [frL_eq, frG, List.lookup, Nat.reduceBEq, Nat.reduceAdd, Option.getD_some, Option.getD_none]
  have HG1 := hide ((unhide HG).on (drewB _)); have HW1 := hide ((unhide HW).on (drewB _) (unhide HW).sz)
  clear HG HW
  generalize W0.drew = W1 at HG1 HW1 ⊢
  have m0 := (unhide HG1).b1.cell (i := 0) (by omega)
  simp only [row3] at m0
  have HSE := hide (settle_any P W1 d a0 p0 T B x2 n2 m2 x4 n4 m4 (unhide HG1).vs b0 base L o (unhide HW1).mx hok hbb hbL hP hT ⟨hB.1, Nat.lt_of_lt_of_le hB.2 (unhide HW1).bel.size⟩)
  have r0 := (unhide HG1).b0.cell (i := 0) (by omega); have r1 := (unhide HG1).b0.cell (i := 1) (by omega); have r2 := (unhide HG1).b0.cell (i := 2) (by omega); have r3 := (unhide HG1).b0.cell (i := 3) (by omega); have r4 := (unhide HG1).b0.cell (i := 4) (by omega)
  simp only [row5] at r0 r1 r2 r3 r4
  have HBL := hide (unhide HW1).bel; have HTY := hide (unhide HW1).ty
  clear HG1 HW1 HC hok hP
  go_wp2_with fail
  refine (unhide HSE).mono ?_
  rintro e w5 ⟨rfl, ⟨o5, hm5⟩, hb5, ht5⟩
  have HM5 := hide hm5; have HB5 := hide ((unhide HBL).trans hb5); have HT5 := hide ((unhide HTY).trans ht5)
  clear hm5 hb5 ht5 HSE
  go_wp2_with fail
  go_end0
  exact ⟨rfl, ⟨o5, unhide HM5⟩, unhide HB5, unhide HT5⟩
end Go.Proofs.YtgdiankfnemjjaaGreat

/- The program's refusal and write, said of doD. Conditions: the disk is ok, the views and the copy lie in memory as they should. -/

namespace Go.Proofs.YtgdiankfnemjjaaGreat
open Go Go.RowKit Go.WideMaps Go.Maps

theorem find_has {d : Dk} (h : DkOkS d) (x : ByteArray) : 0 ≤ findF d.files x ↔ hasB (d.files.map Df.name) x = true := by
  rw [hasB_iff]
  constructor
  · intro h0
    refine Classical.byContradiction fun hno => ?_
    rw [findF_no (fun j hj => ?_)] at h0
    · omega
    · refine Bool.eq_false_iff.2 fun hs => hno ?_
      rw [List.mem_map]
      exact ⟨d.files[j], List.getElem_mem hj, by rw [sameB_dec] at hs; exact of_decide_eq_true hs⟩
  · intro hm
    obtain ⟨f, hf, rfl⟩ := List.mem_map.1 hm
    obtain ⟨i, hi, rfl⟩ := List.getElem_of_mem hf
    rw [(h.file i hi (by rw [h.len]; exact hi)).find]
    omega
theorem fr2_no (c : Int) (h : c ≠ 0) (e : Int) : fr2 c e = c := by unfold fr2; rw [if_neg h]
theorem fr2_yes (e : Int) : fr2 0 e = e := by unfold fr2; rw [if_pos rfl]

theorem refusal_any (P : Nat → Prop) (w : World) (d : Dk) (a0 : Option Addr) (p0 T B : Nat) (x2 : Option Addr) (n2 m2 : Nat) (x4 : Option Addr) (n4 m4 : Nat) (k : Int) (x y : ByteArray) (h : Vs P d a0 p0 T B x2 n2 m2 x4 n4 m4 w) (hx : x.size ≤ 1048576) (hok : DkOkS d) :
    Calls Tryz.prog 91 #[.agg #[.pointer (some ⟨T, 0, none⟩), .pointer (some ⟨T, 0, none⟩), .slice x2 n2 m2, .pointer (some ⟨T, 0, none⟩), .slice x4 n4 m4], .agg #[.int .i64 k, .string x, .string y]] w fun e w' => e = .returned (.int .i64 (doD d k x y).2) ∧ Below w.heap.size w w' := by
  have hn1 : d.names.length ≤ 1000 := by have := hok.l2; omega
  have hn2 : d.moves.length ≤ 1000 := by have := hok.l3; omega
  obtain ⟨hnd, heq, hmf⟩ := dk_nodup hok
  rw [← namesD_ok hok] at hmf
  rw [← heq] at hnd
  have h4 : n4 = d.moves.length := by
    obtain ⟨am, cm, e4, -, -, -⟩ := h.fn
    simp only [Value.slice.injEq] at e4
    exact e4.2.1
  have key : ∀ c, c = (doD d k x y).2 → ∀ {e : Ending} {w' : World}, e = .returned (.int .i64 c) ∧ Below w.heap.size w w' → e = .returned (.int .i64 (doD d k x y).2) ∧ Below w.heap.size w w' := fun c hc e w' he => by rw [← hc]; exact he
  by_cases k1 : k = 1
  · subst k1
    refine (refusal_make P w d a0 p0 T B x2 n2 m2 x4 n4 m4 x y h hx).mono fun e w' => key _ ?_
    rw [h4]
    by_cases ht : nameOkB x = false ∨ 0 ≤ findF d.files x
    · rw [doD_taken hok ht]
      rw [if_pos, fr2_no 3 (by decide)]
      rcases ht with ht | ht
      · rw [ht]; simp
      · rw [(find_has hok x).1 ht]; simp
    · have hb : (hasB (d.files.map Df.name) x || !nameOkB x) = false := by
        have e1 : hasB (d.files.map Df.name) x = false := Bool.eq_false_iff.2 fun e => ht (Or.inr ((find_has hok x).2 e))
        have e2 : nameOkB x = true := by
          cases e : nameOkB x with
          | true => rfl
          | false => exact absurd (Or.inl e) ht
        rw [e1, e2]; rfl
      rw [hb, if_neg (by decide), fr2_yes]
      by_cases hf : 64 ≤ d.files.length ∨ 128 ≤ d.moves.length
      · rw [doD_full hok ht hf, if_pos]
        simpa using hf
      · rw [doD_make hok ht hf, if_neg]
        simpa using hf
  by_cases k2 : k = 2
  · subst k2
    by_cases hin : x ∈ namesD d
    · obtain ⟨i, hi, -, hxi, hfi⟩ := names_file hin
      refine (refusal_addY P w d a0 p0 T B x2 n2 m2 x4 n4 m4 x y h hx (namesD d) hmf hn1 hn2 hnd i hi hxi).mono fun e w' => key _ ?_
      rw [hasB_iff.2 hin, if_neg (by decide), fr2_yes]
      have hds := (hok.file i hi (by rw [hok.len]; exact hi)).data
      have hw : IntKind.i64.wrap (20000 - (d.files[i].data.size : Int)) = 20000 - (d.files[i].data.size : Int) := by rw [IntKind.wrap_i64]; omega
      rw [hw]
      have hfd := fileD_at hi hfi
      by_cases hz : 20000 - (d.files[i].data.size : Int) < (y.size : Int)
      · rw [doD_addfull hok hin (by rw [hfd]; exact hz), if_pos (by simpa using hz)]
      · rw [doD_add hok hin (by rw [hfd]; exact hz), if_neg (by simpa using hz)]
    · have hno : hasB (namesD d) x = false := Bool.eq_false_iff.2 fun e => hin (hasB_iff.1 e)
      have hd2 := doD_nofile (y := y) hok (by decide : (2 : Int) ≤ 2 ∧ (2 : Int) ≤ 4) hin
      cases hb : hasB (d.files.map Df.name) x with
      | false =>
        refine (refusal_addN P w d a0 p0 T B x2 n2 m2 x4 n4 m4 x y h hx (namesD d) hmf hn1 hn2 hb).mono fun e w' => key _ ?_
        rw [hno, hd2, if_pos (by rfl), fr2_no 2 (by decide)]
      | true =>
        obtain ⟨f, hf, hfx⟩ := List.mem_map.1 (hasB_iff.1 hb)
        obtain ⟨i, hi, rfl⟩ := List.getElem_of_mem hf
        refine (refusal_addY P w d a0 p0 T B x2 n2 m2 x4 n4 m4 x y h hx (namesD d) hmf hn1 hn2 hnd i hi hfx).mono fun e w' => key _ ?_
        rw [hno, hd2, if_pos (by rfl), fr2_no 2 (by decide)]
  by_cases k4 : k = 4
  · subst k4
    refine (refusal_gone P w d a0 p0 T B x2 n2 m2 x4 n4 m4 x y h hx (namesD d) hmf hn1 hn2).mono fun e w' => key _ ?_
    rw [h4]
    by_cases hin : x ∈ namesD d
    · rw [hasB_iff.2 hin, if_neg (by decide), fr2_yes]
      by_cases hf : 128 ≤ d.moves.length
      · rw [doD_gonefull hok hin hf, if_pos (by simpa using hf)]
      · rw [doD_gone hok hin hf, if_neg (by simpa using hf)]
    · rw [doD_nofile (y := y) hok (by decide) hin, Bool.eq_false_iff.2 fun e => hin (hasB_iff.1 e), if_pos (by rfl), fr2_no 2 (by decide)]
  · refine (refusal_easy d.names d.moves T B _ (d.files.map Df.name) x2 n2 m2 x4 n4 m4 P w h.lt h.ns h.fn hn1 hn2 (namesD d) hmf h.row h.map k x y (by omega) k1 k2 k4).mono fun e w' => key _ ?_
    unfold refE
    by_cases k3 : k = 3
    · subst k3
      rw [if_pos rfl]
      by_cases hin : x ∈ namesD d
      · rw [hasB_iff.2 hin, doD_sync hok hin]; rfl
      · rw [doD_nofile (y := y) hok (by decide) hin, Bool.eq_false_iff.2 fun e => hin (hasB_iff.1 e)]; rfl
    · rw [if_neg k3]
      by_cases k5 : k = 5
      · subst k5
        rw [if_pos rfl, doD_dirs hok]
      · rw [if_neg k5, doD_kind hok (by omega)]

theorem write_any (P : Nat → Prop) (w : World) (d : Dk) (a0 : Option Addr) (p0 T B : Nat) (x2 : Option Addr) (n2 m2 : Nat) (x4 : Option Addr) (n4 m4 : Nat) (k : Int) (x y : ByteArray) (h : Vs P d a0 p0 T B x2 n2 m2 x4 n4 m4 w) (b0 base L : Nat) (o : C3) (hm : MxSt base L w o.c0 o.c1 o.c2 d.files d.names d.moves) (hx : x.size ≤ 1048576) (hbb : b0 ≤ base) (hbL : base ≤ L) (hok : DkOkS d) (hP : ∀ b, P b → b ≠ L) (hT : T ≠ L) (hB : B ≠ L ∧ B < w.heap.size) (h0 : (doD d k x y).2 = 0) :
    Calls Tryz.prog 92 #[.agg #[.pointer (some ⟨T, 0, none⟩), .pointer (some ⟨T, 0, none⟩), .slice x2 n2 m2, .pointer (some ⟨T, 0, none⟩), .slice x4 n4 m4], .pointer (some ⟨L, 0, none⟩), .agg #[.int .i64 k, .string x, .string y]] w fun e w' => WrEnd w w' e b0 base L (doD d k x y).1 := by
  obtain ⟨hnd, heq, -⟩ := dk_nodup hok
  rw [← heq] at hnd
  have hn2 := hok.l3
  by_cases k1 : k = 1
  · subst k1
    by_cases ht : nameOkB x = false ∨ 0 ≤ findF d.files x
    · rw [doD_taken hok ht] at h0; cases h0
    by_cases hf : 64 ≤ d.files.length ∨ 128 ≤ d.moves.length
    · rw [doD_full hok ht hf] at h0; cases h0
    rw [doD_make hok ht hf]
    exact write_make P w d a0 p0 T B x2 n2 m2 x4 n4 m4 x y h b0 base L o hm hx hbb hbL (by omega) (by omega)
  by_cases k5 : k = 5
  · subst k5
    rw [doD_dirs hok]
    exact write_dirs P w d a0 p0 T B x2 n2 m2 x4 n4 m4 x y h b0 base L o hm hx hbb hbL hok hP hT hB
  by_cases hk : 2 ≤ k ∧ k ≤ 4
  case neg => rw [doD_kind hok (by omega)] at h0; cases h0
  by_cases hin : x ∈ namesD d
  case neg => rw [doD_nofile hok hk hin] at h0; cases h0
  obtain ⟨i, hi, -, hxi, hfi⟩ := names_file hin
  have hfd := fileD_at hi hfi
  have hds := (hok.file i hi (by rw [hok.len]; exact hi)).data
  by_cases k2 : k = 2
  · subst k2
    by_cases hz : 20000 - ((fileD d x).data.size : Int) < (y.size : Int)
    · rw [doD_addfull hok hin hz] at h0; cases h0
    rw [doD_add hok hin hz, putD_at hfi, hfd]
    rw [hfd] at hz
    exact write_add P w d a0 p0 T B x2 n2 m2 x4 n4 m4 x y h b0 base L o hm hx hbb hbL (by omega) hnd i hi hxi (by omega)
  by_cases k3 : k = 3
  · subst k3
    rw [doD_sync hok hin, putD_at hfi, hfd]
    exact write_sync P w d a0 p0 T B x2 n2 m2 x4 n4 m4 x y h b0 base L o hm hx hbb hbL hnd i hi hxi
  obtain rfl : k = 4 := by omega
  by_cases hf : 128 ≤ d.moves.length
  · rw [doD_gonefull hok hin hf] at h0; cases h0
  rw [doD_gone hok hin hf]
  exact write_gone P w d a0 p0 T B x2 n2 m2 x4 n4 m4 x y h b0 base L o hm hx hbb hbL (by omega)
end Go.Proofs.YtgdiankfnemjjaaGreat
