/- The walk of the program's DiskCut: what is left, in memory of its own; that it turns nothing that was there. No conditions. -/
import Derived.Test.YtgdiankfnemjjaaGreatPart08
import Derived.Deep.CutRange
import Derived.Test.YtgdiankfnemjjaaGreatPart00
import Derived.Test.YtgdiankfnemjjaaGreatPart07
import Derived.Test.YtgdiankfnemjjaaGreatRows
import Derived.Deep.OwnRows
import Derived.Deep.RegionWith
import Derived.Lib.ItoaNum
import Derived.Lib.ItoaLen
import Derived.Lib.ItoaMem
import Derived.WalkSmall
namespace Go.Proofs.YtgdiankfnemjjaaGreat
open Go Go.RowKit Go.WideMaps Go.Maps

/-- A disk in memory of its own is given back. -/
def OwnEnd (w w' : World) (e : Ending) (d : Dk) : Prop :=
  ∃ (c : C3) (F0 F1 F2 : List Nat), e = .returned (.agg #[c.c0, c.c1, c.c2]) ∧ DkOwn w' d c F0 F1 F2 ∧ (F0 ++ F1 ++ F2).Nodup ∧ (∀ b, b ∈ F0 ++ F1 ++ F2 → w.heap.size ≤ b ∧ b < w'.heap.size) ∧ Below w.heap.size w w'

theorem but_grown {L : Nat} {w W W' : World} {row : Option Nat} (h : But L w W) (hg : W.grownBy W' row) (hr : ∀ g, row = some g → w.heap.size ≤ g) : But L w W' :=
  ⟨hg.os.trans h.os, hg.tape.trans h.tape, hg.output.trans h.output, Nat.le_trans h.size hg.size, fun i hi hne => (hg.block i (Nat.lt_of_lt_of_le hi h.size) (fun e => by have := hr i e.symm; omega)).trans (h.block i hi hne)⟩

/-- What has grown is a disk of its own. -/
theorem CtSt.end {base L : Nat} {W : World} {vf vn : Value} {fs : List Df} {ns : List ByteArray} (h : CtSt base L W vf vn fs ns) (hf : ∀ f, f ∈ fs → f.okM) (hn : ∀ x, x ∈ ns → x.size ≤ 9223372036854775807) :
    ∃ F0 F1, DkOwn W ⟨fs, ns, []⟩ ⟨vf, vn, .slice none 0 0⟩ F0 F1 [] ∧ (F0 ++ F1 ++ []).Nodup ∧ ∀ b, b ∈ F0 ++ F1 ++ [] → base ≤ b ∧ b < W.heap.size := by
  obtain ⟨F0, h1, h2, h3, h4⟩ := FlatOwn.of_row (rs := fs.map Df.cs) (n := 3) (by rw [List.length_map]; exact h.of) (fun r hr => by obtain ⟨f, -, rfl⟩ := List.mem_map.1 hr; rfl)
  obtain ⟨F1, g1, g2, g3, g4⟩ := strsOwn_of_row h.on hn
  refine ⟨F0, F1, ⟨⟨h1, hf⟩, g1, ⟨FlatOwn.nil W 2, fun f hf => (by cases hf)⟩⟩, ?_, fun b hb => ?_⟩
  · rw [List.append_nil]
    exact List.nodup_append.2 ⟨h4, g2, fun a ha b hb e => by subst e; exact h.ne a (h2 a ha) (g4 a hb)⟩
  · rw [List.append_nil] at hb
    rcases List.mem_append.1 hb with hb | hb
    · exact h3 b hb
    · exact g3 b hb

set_option maxRecDepth 100000 in
set_option maxHeartbeats 6400000 in
theorem implDiskCut_any (d : Dk) (m : Int) (zs : List Int) (P : Nat → Prop) (c : C3) (v : Value) (w : World) (hP : ∀ b, P b → b < w.heap.size) (hd : DkAt P w d c) (hz : ZsAt P w v zs) :
    Calls Tryz.prog 66 #[.agg #[c.c0, c.c1, c.c2], .int .i64 m, v] w fun e w' => OwnEnd w w' e (cutD d m zs) := by
  obtain ⟨c0, c1, c2⟩ := c
  have HD := hide hd; have HP := hide hP; have HZ := hide hz
  have hbx : ∀ o o', Below w.heap.size w ((w.alloc o).alloc o') := fun o o' => ((Below.refl _ _).alloc (Nat.le_refl _) o).alloc (by simp) o'
  have HV := hide (fun o o' => viewsOf_any d P ⟨c0, c1, c2⟩ ((w.alloc o).alloc o') (fun b hb => Nat.lt_of_lt_of_le (hP b hb) (hbx o o').size) (hd.carry (fun b hb => (hbx o o').block b (hP b hb)) (fun _ h => h)))
  have HBX := hide hbx
  have hr2 : ∀ o, ((w.alloc o).alloc (.cells #[.slice none 0 0, .slice none 0 0, .slice none 0 0] 37)).rowIs (w.heap.size + 1) 37 3 (row3 (.slice none 0 0) (.slice none 0 0) (.slice none 0 0)) := fun o => by
    have := row3_alloc (w.alloc o) (.slice none 0 0) (.slice none 0 0) (.slice none 0 0) 37
    rw [World.size_alloc] at this
    exact this
  have HR2 := hide hr2
  obtain ⟨az, cz, rfl, hzl, -⟩ := hz
  clear hd hP hbx hr2
  go_enter Tryz.func66, Tryz.ntmps66
  go_wp2_with fail
  refine (unhide HV _ _).mono ?_
  rintro e w1 ⟨r, q0, q1, x2, n2, m2, q3, x4, n4, m4, rfl, hr, hb1, hvw⟩
  have hb01 := (unhide HBX _ _).trans (hb1.mono (unhide HBX _ _).size)
  have hs1 : w.heap.size + 2 ≤ w1.heap.size := by have := hb1.size; simpa using this
  have hq2 := (unhide HR2 _).of_block (hb1.block (w.heap.size + 1) (by simp))
  have HB1 := hide hb01; have Q2 := hide hq2
  clear hb1 HV hb01
  cases r with
  | false =>
    have HNO := hide (show cutD d m zs = ⟨[], [], []⟩ from cutD_no (fun h => by have := hr.2 ((dkOk_iff d).1 h); cases this))
    have hq3 := fun o' => hq2.alloc o'
    have y0 := fun o' => (hq3 o').cell (i := 0) (by omega); have y1 := fun o' => (hq3 o').cell (i := 1) (by omega); have y2 := fun o' => (hq3 o').cell (i := 2) (by omega)
    have z := fun o' => (hq3 o').frozen
    simp only [row3] at y0 y1 y2
    clear hr hvw hq2 hq3
    go_wp2_with fail
    try simp only [Exit.inBlock, Exit.then]
    refine bodyPost_ret (v := .agg #[.slice none 0 0, .slice none 0 0, .slice none 0 0]) (by simp [results, Tryz.results66, go_sem, y0, y1, y2]) rfl ?_
    rw [unhide HNO]
    refine ⟨⟨_, _, _⟩, [], [], [], rfl, DkOwn.none _, by simp, fun b hb => (by cases hb), ?_⟩
    exact ((((unhide HB1).alloc (unhide HB1).size _).setCell (by simp) _).setCell (by simp) _).setCell (by simp) _
  | true =>
    obtain ⟨T, B, vm, hvw⟩ := hvw rfl
    have hok := (dkOk_iff d).2 (hr.1 rfl)
    clear hr hq2
    have hval := hvw.val
    simp only [Value.agg.injEq, Array.mk.injEq, List.cons.injEq, Value.pointer.injEq, and_true] at hval
    obtain ⟨rfl, rfl, hx2, rfl, rfl⟩ := hval
    obtain ⟨hnd, heq, -⟩ := dk_nodup hok
    obtain ⟨hmf, hcl, hcf⟩ := cutN_facts hok m
    have hbv : ∀ o o', Below w1.heap.size w1 ((w1.alloc o).alloc o') := fun o o' => ((Below.refl _ _).alloc (Nat.le_refl _) o).alloc (by simp) o'
    have hnm : ∀ (W : World), Below w1.heap.size w1 W → StrsAt (fun b => b < W.heap.size) W (.slice x2 n2 m2) d.names := fun W hW => by
      have := (unhide HD).ns.carry (w' := W) (Q := fun b => b < W.heap.size) (fun b hb => (hW.block b (Nat.lt_of_lt_of_le (unhide HP b hb) (unhide HB1).size)).trans ((unhide HB1).block b (unhide HP b hb))) (fun b hb => Nat.lt_of_lt_of_le (unhide HP b hb) (Nat.le_trans (unhide HB1).size hW.size))
      rw [← hx2] at this; exact this
    have HTH := hide (fun o o' => behind_any d.names d.moves (some ⟨T, 0, none⟩) (some ⟨T, 0, none⟩) x2 n2 m2 (some ⟨T, 0, none⟩) x4 n4 m4 (fun b => b < ((w1.alloc o).alloc o').heap.size) ((w1.alloc o).alloc o') (fun _ h => h) (hnm _ (hbv o o')) ((hvw.carry (hbv o o')).fns.carry (fun _ _ => rfl) (fun b hb => hb.2)) m (by have := hok.l2; omega) (by have := hok.l3; omega) (cutN d m) hmf)
    have HBV := hide hbv; have HOK := hide hok; have HVW := hide hvw; have HND := hide (show (d.files.map Df.name).Nodup by rw [heq]; exact hnd); have HCF := hide hcf
    have HCD := hide (cutD_ok (m := m) (zs := zs) hok)
    clear hvw hnm hbv hnd heq hmf hok hx2 hcf
    go_wp2_with fail
    refine (unhide HTH _ _).mono ?_
    rintro e w5 ⟨v5, rfl, hn5⟩
    have hb5 := hn5.below
    have hs5 : w1.heap.size + 2 ≤ w5.heap.size := by have := hb5.size; simpa using this
    have hbw5 : Below w1.heap.size w1 w5 := (unhide HBV _ _).trans (hb5.mono (unhide HBV _ _).size)
    have hrV := ((fiveV_alloc w1 (.pointer (some ⟨T, 0, none⟩)) (.pointer (some ⟨T, 0, none⟩)) (.slice x2 n2 m2) (.pointer (some ⟨T, 0, none⟩)) (.slice x4 n4 m4) 101).alloc (.cells #[.slice none 0 0, .slice none 0 0, .slice none 0 0] 37)).of_block (hb5.block w1.heap.size (by simp; omega))
    have hrL : w5.rowIs (w1.heap.size + 1) 37 3 (row3 (.slice none 0 0) (.slice none 0 0) (.slice none 0 0)) := by
      have := row3_alloc (w1.alloc (.cells #[.pointer (some ⟨T, 0, none⟩), .pointer (some ⟨T, 0, none⟩), .slice x2 n2 m2, .pointer (some ⟨T, 0, none⟩), .slice x4 n4 m4] 101)) (.slice none 0 0) (.slice none 0 0) (.slice none 0 0) 37
      rw [World.size_alloc] at this
      exact this.of_block (hb5.block (w1.heap.size + 1) (by simp))
    obtain ⟨a5, cap5, e5, hl5, hc5⟩ := hn5.strs
    have hN5 : (cutN d m).length ≤ 1000 := hcl
    subst e5
    have HC5 := hide hc5; have HRV := hide hrV; have HBW5 := hide hbw5
    have HST := hide (show CtSt w5.heap.size (w1.heap.size + 1) w5 (.slice none 0 0) (.slice none 0 0) [] [] from ⟨by omega, hrL, ⟨rfl, Or.inl ⟨rfl, rfl⟩⟩, ⟨rfl, Or.inl ⟨rfl, rfl⟩⟩⟩)
    clear hb5 hbw5 hrV hrL hc5 hn5 HTH
    generalize hNN : cutN d m = N at *
    clear hNN
    go_wp2_with fail
    obtain ⟨j0, hj, hy0, hy1, hy2⟩ := infoStrD
    obtain ⟨j3, hj3, hw0, hw1, hw2⟩ := infoFileD
    have HJJ := hide hj; have HY0 := hide hy0; have HY1 := hide hy1; have HY2 := hide hy2; have HJ3 := hide hj3; have HW0 := hide hw0; have HW1 := hide hw1; have HW2 := hide hw2
    clear hj hy0 hy1 hy2 hj3 hw0 hw1 hw2
    go_loopw [26] (fun i wr => ∃ (k : Nat) (af : Option Addr) (cf : Nat) (an : Option Addr) (cn : Nat), k ≤ N.length ∧ i = .int .i64 k ∧ Hid (CtSt w5.heap.size (w1.heap.size + 1) wr (.slice af k cf) (.slice an k cn) ((N.take k).map (cutX d zs)) (N.take k)) ∧ Hid (But (w1.heap.size + 1) w5 wr)) (fun i _ => N.length - (intOf i).toNat)
    case atStart => exact ⟨0, none, 0, none, 0, Nat.zero_le _, rfl, unhide HST, But.refl _ _⟩
    case round =>
      clear HST
      obtain ⟨k, af, cf, an, cn, hk, rfl, HS, HX⟩ := hrel
      have hws := HX.out.size
      have hbw : Below w1.heap.size w1 wr := ⟨HX.out.os.trans (unhide HBW5).os, HX.out.tape.trans (unhide HBW5).tape, HX.out.output.trans (unhide HBW5).output, by omega, fun b hb => (HX.out.at (by omega) (by omega)).trans ((unhide HBW5).block b hb)⟩
      have HBW := hide ((unhide HB1).trans (hbw.mono (unhide HB1).size))
      have hrL := HS.out.row
      have l0 := hrL.cell (i := 0) (by omega); have l1 := hrL.cell (i := 1) (by omega); have l2 := hrL.cell (i := 2) (by omega)
      simp only [row3] at l0 l1 l2
      by_cases hlt : k < N.length
      rotate_left
      · obtain rfl : k = N.length := by omega
        have hq2 := (unhide Q2).of_block (hbw.block (w.heap.size + 1) (by omega))
        have y0 := hq2.cell (i := 0) (by omega); have y1 := hq2.cell (i := 1) (by omega); have y2 := hq2.cell (i := 2) (by omega)
        have z := hq2.frozen
        simp only [row3] at y0 y1 y2
        have hst := HS.out
        rw [List.take_of_length_le (Nat.le_refl _)] at hst
        have HST := hide hst
        clear hst hq2 hbw hrL
        go_wp2_with fail
        try simp only [Exit.inBlock, Exit.then]
        refine bodyPost_ret (v := .agg #[.slice af N.length cf, .slice an N.length cn, .slice none 0 0]) (by simp [results, Tryz.results66, go_sem, y0, y1, y2]) rfl ?_
        rw [unhide HCD]
        have hfo : ∀ x, x ∈ N → (cutX d zs x).okM ∧ x.size ≤ 9223372036854775807 := fun x hx => by
          obtain ⟨i, hi, he, hf⟩ := unhide HCF x hx
          have h1 := (unhide HD).fs.2 d.files[i] (List.getElem_mem hi)
          have h2 := ((unhide HOK).file i hi (by rw [(unhide HOK).len]; exact hi)).data
          have h3 := cutB_size d.files[i] (zs.getD (findF d.files x).toNat 0) h2
          refine ⟨?_, by rw [← he]; exact h1.1⟩
          unfold cutX cutF
          rw [fileD_at hi hf]
          exact ⟨h1.1, by simp only; omega, ⟨by simp only; omega, by simp only; omega⟩⟩
        have hst9 : CtSt w5.heap.size (w1.heap.size + 1) (((wr.setCell ⟨w.heap.size + 1, 0, none⟩ (.slice af N.length cf)).setCell ⟨w.heap.size + 1, 1, none⟩ (.slice an N.length cn)).setCell ⟨w.heap.size + 1, 2, none⟩ (.slice none 0 0)) (.slice af N.length cf) (.slice an N.length cn) (N.map (cutX d zs)) N := by
          have h := unhide HST
          exact ⟨h.lt, ((h.row.setOther (by simp; omega) _).setOther (by simp; omega) _).setOther (by simp; omega) _, ownsRow_setCell_below (ownsRow_setCell_below (ownsRow_setCell_below h.of (by simp; omega) _) (by simp; omega) _) (by simp; omega) _, ownsRow_setCell_below (ownsRow_setCell_below (ownsRow_setCell_below h.on (by simp; omega) _) (by simp; omega) _) (by simp; omega) _⟩
        obtain ⟨F0, F1, ho, hndF, hF⟩ := hst9.end (fun f hf => by obtain ⟨x, hx, rfl⟩ := List.mem_map.1 hf; exact (hfo x hx).1) (fun x hx => (hfo x hx).2)
        exact ⟨⟨_, _, _⟩, F0, F1, [], rfl, ho, hndF, fun b hb => ⟨by have := (hF b hb).1; omega, (hF b hb).2⟩, (((unhide HBW).setCell (by simp) _).setCell (by simp) _).setCell (by simp) _⟩
      · obtain ⟨i, hi, he, hf⟩ := unhide HCF N[k] (List.getElem_mem hlt)
        obtain ⟨b5, o5, rfl, hpb5, hc5, hsx⟩ := unhide HC5 k hlt
        have hb5L : b5 ≠ w1.heap.size + 1 := by have := hpb5.1; simp at this; omega
        have e5 : wr.cell? ⟨b5, o5 + k, none⟩ = some (.string N[k]) := by rw [World.cell?_of_block (w := w5) (HX.out.at hpb5.2 hb5L)]; exact hc5
        have hvw := (unhide HVW).carry hbw
        have hrV := (unhide HRV).of_block (HX.out.at (by omega) (by omega))
        have r0 := hrV.cell (i := 0) (by omega); have r1 := hrV.cell (i := 1) (by omega); have r2 := hrV.cell (i := 2) (by omega); have r3 := hrV.cell (i := 3) (by omega); have r4 := hrV.cell (i := 4) (by omega)
        have t1 := hvw.row.cell (i := 1) (by omega)
        simp only [fiveV] at r0 r1 r2 r3 r4
        simp only [rowO] at t1
        have hkey : keyOf Tryz.prog 9 (.string N[k]) = some (nkey N[k]) := keyOf_string_mk Tryz.underlying9 (by unfold maxLen; omega)
        have hat := at_nmap (d.files.map Df.name) (unhide HND) i (by rw [List.length_map]; exact hi) (d.files.map Df.name).length (Nat.le_refl _) (by rw [List.length_map]; exact hi)
        rw [List.getElem_map, he] at hat
        have hlk : (Instr.lookup 112 (.map (some B)) (.string N[k]) false).run Tryz.prog wr = .ok (.int .i64 i) wr := by
          obtain ⟨cc, hr, hcc, -⟩ := World.ownsMap.lookup_int hvw.map keyLaw Tryz.underlying112 Tryz.underlying3 (zeroInt _) hkey
          rw [hat] at hcc
          have : cc = (i : Int) := by simpa using hcc.symm
          rw [this] at hr; exact hr
        have hfil := (unhide HOK).file i hi (by rw [(unhide HOK).len]; exact hi)
        obtain ⟨a0, p0, g0, hl0, -⟩ := (unhide HD).fs.open
        simp only at g0
        have hfsW : ∀ (W : World), Below wr.heap.size wr W → FsAt (fun b => b < w.heap.size) W (.slice a0 d.files.length p0) d.files := fun W hW => by
          have := (unhide HD).fs.carry (w' := W) (Q := fun b => b < w.heap.size) (fun b hb => (hW.block b (by have := unhide HP b hb; have := (unhide HBW).size; omega)).trans ((unhide HBW).block b (unhide HP b hb))) (fun b hb => unhide HP b hb)
          simp only at this
          rw [g0] at this; exact this
        have hrowW : ∀ (W : World), Below wr.heap.size wr W → W.rowIs T 114 2 (rowO (.slice a0 d.files.length p0) (.map (some B))) := fun W hW => by
          have h := (hvw.carry hW).row
          simp only at h
          rw [g0] at h; exact h
        have hPW : ∀ (W : World), Below wr.heap.size wr W → ∀ b, b < w.heap.size → b < W.heap.size := fun W hW b hb => by have := hW.size; have := (unhide HBW).size; omega
        have HSU := hide (fun (W : World) (hW : Below wr.heap.size wr W) => sureData_any d.files a0 d.files.length p0 T B x2 n2 m2 (fun b => b < w.heap.size) W (hPW W hW) (hfsW W hW) (hrowW W hW) i hi hfil.kept)
        have HOP := hide (fun (W : World) (hW : Below wr.heap.size wr W) (n : Int) => openData_any d.files a0 d.files.length p0 T B x4 n4 m4 (fun b => b < w.heap.size) W (hPW W hW) (hfsW W hW) (hrowW W hW) i hi hfil.kept hfil.data n)
        have HNU := hide (fun (W : World) (hW : Below wr.heap.size wr W) => numberAt_any zs (.slice az zs.length cz) i W (P := fun b => b < w.heap.size) ((unhide HZ).carry (fun b hb => (hW.block b (by have := unhide HP b hb; have := (unhide HBW).size; omega)).trans ((unhide HBW).block b (unhide HP b hb))) (fun b hb => unhide HP b hb)))
        have hx8 : N[k].size ≤ 8 := by
          refine Classical.byContradiction fun hno => ?_
          have hn := hfil.name
          rw [he, nameOk_len (Or.inr (by omega))] at hn
          cases hn
        have hcs := cutB_size d.files[i] (zs.getD i 0) hfil.data
        have HCB := hide (fun (W : World) => strClone_any (cutB d.files[i] (zs.getD i 0)) W (by omega))
        have HCX := hide (fun (W : World) => strClone_any N[k] W (by omega))
        have HTS := hide (List.take_succ_eq_append_getElem hlt)
        have HCC := hide (show cutX d zs N[k] = ⟨N[k], cutB d.files[i] (zs.getD i 0), (cutB d.files[i] (zs.getD i 0)).size⟩ by unfold cutX cutF; rw [fileD_at hi hf, hf]; simp [he])
        have htk : (N.take k).length = k := by rw [List.length_take]; omega
        have HTK := hide htk
        have HLO := hide hrV; have HRL := hide hrL
        have HE5 := hide e5
        clear e5 hc5 hvw hrV hrL hbw hkey hat hfsW hrowW hPW hfil hf he hpb5 htk hsx g0
        have e5 := unhide HE5
        clear HE5
        generalize N[k] = x at *
        have hcb : cutB d.files[i] (zs.getD i 0) = d.files[i].data.extract 0 d.files[i].kept.toNat ++ (d.files[i].data.extract d.files[i].kept.toNat d.files[i].data.size).extract 0 (moreN d.files[i] (zs.getD i 0)) := rfl
        rw [hcb] at HCB HCC hcs
        rw [ByteArray.size_append] at hcs
        have HOP2 := hide (fun (W : World) (hW : Below wr.heap.size wr W) => unhide HOP W hW (zs.getD i 0))
        clear HOP
        generalize (d.files[i].data.extract d.files[i].kept.toNat d.files[i].data.size).extract 0 (moreN d.files[i] (zs.getD i 0)) = s2 at *
        generalize d.files[i].data.extract 0 d.files[i].kept.toNat = s1 at *
        generalize zs.getD i 0 = zi at *
        clear hcb
        go_upto_region 9 with fail
        go_cut [13, 26] from 26 to 68 (fun s i' wx => s = .string (s1 ++ s2) ∧ i' = .int .i64 (k : Int) ∧ Hid (Below wr.heap.size wr wx))
        case first =>
          go_region_with (first
            | (go_at_call 78
               refine (unhide HSU _ (by first | exact Below.refl _ _ | exact (Below.refl _ _).drew)).mono ?_
               rintro e wA ⟨rfl, hbA⟩
               have hbA' : Below wr.heap.size wr wA := (Below.refl _ wr).drew.trans hbA
               have hrA := (unhide HLO).of_block (hbA'.block w1.heap.size (unhide HLO).lt)
               have A3 := hrA.cell (i := 3) (by omega)
               have A4 := hrA.cell (i := 4) (by omega)
               simp only [fiveV] at A3 A4
               have HBA := hide hbA'
               clear hbA hbA' hrA)
            | (go_at_call 80
               refine (unhide HNU _ (unhide HBA)).mono ?_
               rintro e wB ⟨rfl, rfl⟩)
            | (go_at_call 79
               refine (unhide HOP2 _ (unhide HBA)).mono ?_
               rintro e wC ⟨rfl, hbC⟩
               have HBC := hide ((unhide HBA).trans (hbC.mono (unhide HBA).size))
               clear hbC)
            | (go_at_call 74
               refine (unhide HCB _).mono ?_
               rintro e wD ⟨rfl, hbD⟩
               have HBD := hide ((unhide HBC).trans (hbD.mono (unhide HBC).size))
               clear hbD))
          all_goals
            go_wp2_with fail
            go_meet
            case rel => exact ⟨rfl, rfl, unhide HBD⟩
        case rest =>
          obtain ⟨rfl, rfl, HBc⟩ := hcut
          have hs0z : (s1 ++ s2).size ≤ 40000 := by rw [ByteArray.size_append]; omega
          clear hcs HSU HOP2 HCB HNU
          generalize s1 ++ s2 = s0 at *
          have hsc := HS.out.keep HBc.out
          have hxc : But (w1.heap.size + 1) w5 wc := HX.out.trans (But.of_below HBc.out)
          have hcall : ∀ (W : World) (an' : Option Addr) (kn' cn' : Nat) (af' : Option Addr) (kf' cf' : Nat) (fs' : List Df) (ns' : List ByteArray), CtSt w5.heap.size (w1.heap.size + 1) W (.slice af' kf' cf') (.slice an' kn' cn') fs' ns' → But (w1.heap.size + 1) w5 W → Calls Tryz.prog 74 #[.string x] W.drew fun e w7 => e = .returned (.string x) ∧ Hid (CtSt w5.heap.size (w1.heap.size + 1) w7 (.slice af' kf' cf') (.slice an' kn' cn') fs' ns') ∧ Hid (But (w1.heap.size + 1) w5 w7) ∧ w5.heap.size ≤ w7.heap.size ∧ (w7.cell? ⟨w1.heap.size + 1, 1, none⟩ = some (.slice an' kn' cn') ∧ ∀ ob, (w7.alloc ob).cell? ⟨w1.heap.size + 1, 1, none⟩ = some (.slice an' kn' cn')) ∧ (w7.cell? ⟨w1.heap.size + 1, 0, none⟩ = some (.slice af' kf' cf') ∧ ∀ ob, (w7.alloc ob).cell? ⟨w1.heap.size + 1, 0, none⟩ = some (.slice af' kf' cf')) := fun W an' kn' cn' af' kf' cf' fs' ns' h hx => by
            refine (unhide HCX W.drew).mono ?_
            rintro e w7 ⟨rfl, hb7⟩
            have hb7' : Below W.heap.size W w7 := (Below.refl _ W).drew.trans hb7
            have h7 := h.keep hb7'
            have r0' := h7.row.cell (i := 0) (by omega); have r1' := h7.row.cell (i := 1) (by omega)
            simp only [row3] at r0' r1'
            exact ⟨rfl, h7, hx.trans (But.of_below hb7'), Nat.le_trans hx.size hb7'.size, ⟨r1', fun ob => by rw [World.cell?_of_block (w := w7) (Below.heap_alloc _ _ _ h7.row.lt)]; exact r1'⟩, ⟨r0', fun ob => by rw [World.cell?_of_block (w := w7) (Below.heap_alloc _ _ _ h7.row.lt)]; exact r0'⟩⟩
          have HCA := hide hcall
          have HC1 := hide (hcall wc an k cn af k cf _ _ hsc hxc)
          have m1 := hsc.row.cell (i := 1) (by omega)
          simp only [row3] at m1
          clear hcall hsc hxc l0 l1 l2 r0 r1 r2 r3 r4 t1 hlk e5
          go_upto_region 10 with fail
          go_cut [26] from 26 to 68 (fun i' wx => i' = .int .i64 (k : Int) ∧ ∃ an2 cn2, Hid (CtSt w5.heap.size (w1.heap.size + 1) wx (.slice af k cf) (.slice an2 (k + 1) cn2) ((N.take k).map (cutX d zs)) (N.take k ++ [x])) ∧ Hid (But (w1.heap.size + 1) w5 wx))
          case first =>
            go_region_law (first
              | ((refine step_append_lies _ (by rfl) _ _ _ (by rfl) w5.heap.size 9 j0 (.string ByteArray.empty) 1 16 Tryz.underlying23 (unhide HJJ) (unhide HY0) (unhide HY1) (unhide HY2) rfl (by decide) (.slice an k cn) k ((N.take k).map Value.string) (by rfl) (by have := HS7.out.on; rw [unhide HTK] at this; exact this.alloc _) ⟨w7.heap.size, 0, none⟩ 1 1 [.string x] (by rfl) (by rfl) (cell_one w7 _ _) (fun u hu => by simp at hu; subst hu; rfl) (by decide) (by unfold maxLen; omega) (by omega) (by simp; omega) (w7.heap.size + 1) (by simp) ?_; intro g2 cap2 w8 hown8 hgrow8 hat8 hlt8; have hr8 := HS7.out.row.of_block ((hgrow8.block (w1.heap.size + 1) (by simp; omega) (fun e => by have := (HS7.out.on.lt (w1.heap.size + 1) e.symm).1; omega)).trans (Below.heap_alloc w7 _ _ HS7.out.row.lt)); have u1 := hr8.cell (i := 1) (by omega); have uz1 := hr8.frozen 1; simp only [row3] at u1))
              | (rw [if_pos (by first | rfl | simp [Region.wanted])]; go_simp; refine (unhide HC1).mono ?_; rintro e w7 ⟨rfl, HS7, HX7, hs7, ⟨n1, n1a⟩, -⟩))
            all_goals
              have hadd := (HS7.out.keep ((Below.refl _ _).alloc (Nat.le_refl _) (.cells #[.string x] 9))).addN x (by rw [unhide HTK]; exact hown8) hgrow8
              have hxx := (but_grown (HX7.out.trans (But.alloc _ _ (.cells #[.string x] 9))) hgrow8 (fun g e => (HS7.out.on.lt g e).1)).trans (But.set (B := w1.heap.size + 1) w8 1 (.slice (some ⟨g2, 0, none⟩) (k + 1) cap2))
              have HAD := hide hadd; have HXX := hide hxx
              clear hadd hxx hown8 hgrow8 hat8 hlt8 hr8 u1 uz1 HS7 HX7 n1 n1a
              go_wp2_with fail
              go_meet
              case rel => exact ⟨rfl, some ⟨g2, 0, none⟩, cap2, unhide HAD, unhide HXX⟩
          case rest =>
            obtain ⟨rfl, an2, cn2, HS2, HX2⟩ := hcut
            have HC2 := hide (unhide HCA wc an2 (k + 1) cn2 af k cf _ _ HS2.out HX2.out)
            have m0 := HS2.out.row.cell (i := 0) (by omega)
            simp only [row3] at m0
            clear m1
            have hms : ((N.take k).map (cutX d zs)).length = k := by rw [List.length_map]; exact unhide HTK
            have HMS := hide hms
            clear hms
            go_wp2_with fail
            go_region_law (first
              | ((refine step_append_lies _ (by rfl) _ _ _ (by rfl) w5.heap.size 84 j3 (.agg #[.string ByteArray.empty, .string ByteArray.empty, .int .i64 0]) 3 40 Tryz.underlying34 (unhide HJ3) (unhide HW0) (unhide HW1) (unhide HW2) rfl (by decide) (.slice af k cf) k (((N.take k).map (cutX d zs)).map Df.cs).flatten (by rfl) (by have := HS7.out.of; rw [unhide HMS] at this; exact this.alloc _) ⟨w7.heap.size, 0, none⟩ 1 1 [.string x, .string s0, .int .i64 (s0.size : Int)] (by first | rfl | simp) (by rfl) (cell_3 w7 _ _ _ _) (fun u hu => by simp at hu; rcases hu with rfl | rfl | rfl <;> rfl) (by decide) (by unfold maxLen; omega) (by omega) (by simp; omega) (w7.heap.size + 1) (by simp) ?_; intro g2 cap2 w8 hown8 hgrow8 hat8 hlt8; have hr8 := HS7.out.row.of_block ((hgrow8.block (w1.heap.size + 1) (by simp; omega) (fun e => by have := (HS7.out.of.lt (w1.heap.size + 1) e.symm).1; omega)).trans (Below.heap_alloc w7 _ _ HS7.out.row.lt)); have u1 := hr8.cell (i := 0) (by omega); have uz1 := hr8.frozen 0; simp only [row3] at u1))
              | (rw [if_pos (by first | rfl | simp [Region.wanted])]; go_simp; refine (unhide HC2).mono ?_; rintro e w7 ⟨rfl, HS7, HX7, hs7, -, ⟨n1, n1a⟩⟩))
            all_goals
              have hadd := (HS7.out.keep ((Below.refl _ _).alloc (Nat.le_refl _) (.cells #[.string x, .string s0, .int .i64 (s0.size : Int)] 84))).addF ⟨x, s0, s0.size⟩ (by rw [unhide HMS]; exact hown8) hgrow8
              have hxx := (but_grown (HX7.out.trans (But.alloc _ _ (.cells #[.string x, .string s0, .int .i64 (s0.size : Int)] 84))) hgrow8 (fun g e => (HS7.out.of.lt g e).1)).trans (But.set (B := w1.heap.size + 1) w8 0 (.slice (some ⟨g2, 0, none⟩) (k + 1) cap2))
              rw [← unhide HCC] at hadd
              have hadd2 : CtSt w5.heap.size (w1.heap.size + 1) (w8.setCell ⟨w1.heap.size + 1, 0, none⟩ (.slice (some ⟨g2, 0, none⟩) (k + 1) cap2)) (.slice (some ⟨g2, 0, none⟩) (k + 1) cap2) (.slice an2 (k + 1) cn2) ((N.take (k + 1)).map (cutX d zs)) (N.take (k + 1)) := by
                rw [unhide HTS, List.map_append]; exact hadd
              have HAD := hide hadd2; have HXX := hide hxx
              clear hadd hadd2 hxx hown8 hgrow8 hat8 hlt8 hr8 u1 uz1 HS7 HX7 n1 n1a
              go_wp2_with fail
              go_roundw
              case rel => exact ⟨k + 1, some ⟨g2, 0, none⟩, cap2, an2, cn2, by omega, by go_num, unhide HAD, unhide HXX⟩
              case measure => simp [intOf]; omega
end Go.Proofs.YtgdiankfnemjjaaGreat

/- The shape of a schema in memory: of what kind its cells are, whatever they hold; worlds whose cells are of the same kinds. Definitions and small laws, no program. No conditions. -/

namespace Go.Proofs.YtgdiankfnemjjaaGreat
open Go Go.RowKit

/-- Two values of one kind: numbers, strings, flags, or the same. -/
def alike (v v' : Value) : Prop := (∃ n m, v = .int .i64 n ∧ v' = .int .i64 m) ∨ (∃ s s', v = .string s ∧ v' = .string s') ∨ v' = v ∨ (∃ x y, v = .bool x ∧ v' = .bool y)
theorem alike.refl (v : Value) : alike v v := Or.inr (Or.inr (Or.inl rfl))
theorem alike.int {n : Int} {v : Value} (h : alike (.int .i64 n) v) : ∃ m, v = .int .i64 m := by
  rcases h with ⟨_, m, _, e⟩ | ⟨_, _, e, _⟩ | h | ⟨_, _, e, _⟩
  · exact ⟨m, e⟩
  · cases e
  · exact ⟨n, h⟩
  · cases e
theorem alike.str {s : ByteArray} {v : Value} (h : alike (.string s) v) : ∃ s', v = .string s' := by
  rcases h with ⟨_, m, e, _⟩ | ⟨_, s', _, e⟩ | h | ⟨_, _, e, _⟩
  · cases e
  · exact ⟨s', e⟩
  · exact ⟨s, h⟩
  · cases e
theorem alike.bool {x : Bool} {v : Value} (h : alike (.bool x) v) : ∃ y, v = .bool y := by
  rcases h with ⟨_, m, e, _⟩ | ⟨_, s', e, _⟩ | h | ⟨_, y, _, e⟩
  · cases e
  · cases e
  · exact ⟨x, h⟩
  · exact ⟨y, e⟩
theorem alike.trans {a b c : Value} (h : alike a b) (k : alike b c) : alike a c := by
  rcases h with ⟨n, m, rfl, rfl⟩ | ⟨s, s', rfl, rfl⟩ | rfl | ⟨x, y, rfl, rfl⟩
  · obtain ⟨m', rfl⟩ := k.int; exact Or.inl ⟨n, m', rfl, rfl⟩
  · obtain ⟨m', rfl⟩ := k.str; exact Or.inr (Or.inl ⟨s, m', rfl, rfl⟩)
  · exact k
  · obtain ⟨m', rfl⟩ := k.bool; exact Or.inr (Or.inr (Or.inr ⟨x, m', rfl, rfl⟩))

/-- Blocks that are not of D are as they were; cells are of the kinds of which they were; nothing has become frozen. -/
structure Like (D : Nat → Prop) (w w' : World) : Prop where
  os : w'.os = w.os
  tape : w'.tape = w.tape
  output : w'.output = w.output
  size : w.heap.size ≤ w'.heap.size
  block : ∀ k, k < w.heap.size → ¬ D k → w'.heap[k]? = w.heap[k]?
  cell : ∀ b o v, w.cell? ⟨b, o, none⟩ = some v → ∃ v', w'.cell? ⟨b, o, none⟩ = some v' ∧ alike v v'
  free : ∀ b, b < w.heap.size → FreeB w b → FreeB w' b

theorem Like.refl (D : Nat → Prop) (w : World) : Like D w w := ⟨rfl, rfl, rfl, Nat.le_refl _, fun _ _ _ => rfl, fun _ _ v h => ⟨v, h, alike.refl v⟩, fun _ _ h => h⟩
theorem Like.trans {D : Nat → Prop} {a b c : World} (h : Like D a b) (k : Like D b c) : Like D a c :=
  ⟨k.os.trans h.os, k.tape.trans h.tape, k.output.trans h.output, Nat.le_trans h.size k.size, fun i hi hn => (k.block i (Nat.lt_of_lt_of_le hi h.size) hn).trans (h.block i hi hn),
    fun p o v hv => by
      obtain ⟨v1, h1, l1⟩ := h.cell p o v hv
      obtain ⟨v2, h2, l2⟩ := k.cell p o v1 h1
      exact ⟨v2, h2, l1.trans l2⟩, fun p hp hf => k.free p (Nat.lt_of_lt_of_le hp h.size) (h.free p hp hf)⟩
theorem Like.of_below {D : Nat → Prop} {w w' : World} (h : Below w.heap.size w w') : Like D w w' :=
  ⟨h.os, h.tape, h.output, h.size, fun k hk _ => h.block k hk, fun b o v hv => ⟨v, by rw [h.cell (World.block_lt_of_cell? w _ hv)]; exact hv, alike.refl v⟩, fun b hb hf => hf.of_block (h.block b hb)⟩
theorem Like.set {D : Nat → Prop} {w : World} {b o : Nat} {v u : Value} (hb : D b) (hc : w.cell? ⟨b, o, none⟩ = some u) (hl : alike u v) : Like D w (w.setCell ⟨b, o, none⟩ v) :=
  ⟨rfl, rfl, rfl, by simp [World.setCell], fun k _ hn => Below.heap_setCell _ _ _ _ (fun e => hn (by rw [e]; exact hb)), fun b' o' v' hv' => by
    by_cases e : b' = b ∧ o' = o
    · obtain ⟨rfl, rfl⟩ := e
      rw [hc] at hv'
      cases hv'
      exact ⟨v, World.cell?_setCell_same w _ v hc, hl⟩
    · refine ⟨v', ?_, alike.refl v'⟩
      rw [World.cell?_setCell_other w _ _ v (by intro e2; cases e2; exact e ⟨rfl, rfl⟩)]; exact hv', fun b' _ hf o' => by
    have := hf o'
    rw [World.frozen?_setCell]; exact this⟩

/-- A slice of so many strings, in blocks of D of which nothing is frozen. -/
def SShp (D : Nat → Prop) (w : World) (v : Value) (n : Nat) : Prop :=
  ∃ a cap, v = .slice a n cap ∧ n ≤ 9223372036854775807 ∧ ∀ i, i < n → ∃ b o s, a = some ⟨b, o, none⟩ ∧ D b ∧ FreeB w b ∧ w.cell? ⟨b, o + i, none⟩ = some (.string s)

theorem SShp.like {D : Nat → Prop} {w w' : World} {v : Value} {n : Nat} (h : SShp D w v n) (hl : Like D w w') : SShp D w' v n := by
  obtain ⟨a, cap, h1, h2, h3⟩ := h
  refine ⟨a, cap, h1, h2, fun i hi => ?_⟩
  obtain ⟨b, o, s, e, hd, hf, hc⟩ := h3 i hi
  obtain ⟨v', hv', hlk⟩ := hl.cell _ _ _ hc
  obtain ⟨s', rfl⟩ := hlk.str
  exact ⟨b, o, s', e, hd, hl.free b (World.block_lt_of_cell? w _ hc) hf, hv'⟩




end Go.Proofs.YtgdiankfnemjjaaGreat

/- The walks of the law's own toIntS, eqIntS, markIntS. No conditions but toIntS's on how many, and that the marks count to at most 2^40. -/

namespace Go.Proofs.YtgdiankfnemjjaaGreat
open Go Go.RowKit

theorem infoIntM : (Tryz.prog.info? 3).map (fun i => (i.zero, i.size, i.bytes)) = some (some (.int .i64 0), 1, 8) := by kernel_rfl
set_option maxHeartbeats 400000 in
theorem eqIntS_any (v u : Value) (ss : List Int) (w : World) {P Q : Nat → Prop} (hv : ZsAt P w v ss) (hu : ZsAt Q w u ss) (hP : ∀ b, P b → b < w.heap.size) (hQ : ∀ b, Q b → b < w.heap.size) :
    Calls Tryz.prog 40 #[v, u] w fun e w' => e = .returned (.bool true) ∧ Below w.heap.size w w' := by
  obtain ⟨a, cap, rfl, hlen, hc⟩ := hv
  obtain ⟨a2, cap2, rfl, -, hc2⟩ := hu
  have HC := hide hc; have HC2 := hide hc2; have HP := hide hP; have HQ := hide hQ
  clear hc hc2 hP hQ
  have hne : ((ss.length : Int) != (ss.length : Int)) = false := by simp
  go_enter Tryz.func40, Tryz.ntmps40
  go_wp2_with fail
  clear hne
  go_loopw [5] (fun i wr => ∃ (k : Nat), k ≤ ss.length ∧ i = .int .i64 k ∧ Below w.heap.size w wr) (fun i _ => ss.length - (intOf i).toNat)
  case atStart => exact ⟨0, Nat.zero_le _, rfl, Below.refl _ _⟩
  case round =>
    obtain ⟨k, hk, rfl, hb⟩ := hrel
    by_cases hlt : k < ss.length
    · obtain ⟨b, o, rfl, hpb, hcell, -⟩ := unhide HC k hlt
      obtain ⟨b2, o2, rfl, hpb2, hcell2, -⟩ := unhide HC2 k hlt
      have e1 : wr.cell? ⟨b, o + k, none⟩ = some (.int .i64 ss[k]) := by rw [hb.cell (unhide HP b hpb)]; exact hcell
      have e2 : wr.cell? ⟨b2, o2 + k, none⟩ = some (.int .i64 ss[k]) := by rw [hb.cell (unhide HQ b2 hpb2)]; exact hcell2
      have hne : (ss[k] != ss[k]) = false := by simp
      clear hcell hcell2 hpb hpb2
      go_wp2_with fail
      go_region
      go_wp2_with fail
      go_roundw
      case rel => exact ⟨k + 1, by omega, by go_num, hb.drew⟩
      case measure => simp [intOf]; omega
    · go_wp2_with fail
      go_ret
      exact ⟨rfl, hb⟩

set_option maxHeartbeats 400000 in
theorem toIntS_any (v : Value) (ss : List Int) (w : World) {P : Nat → Prop} (hP : ∀ b, P b → b < w.heap.size) (hv : ZsAt P w v ss) (h1 : ss.length ≤ 1048576) :
    Calls Tryz.prog 32 #[v] w fun e w' => ∃ v', e = .returned v' ∧ v' = .slice (some ⟨w.heap.size, 0, none⟩) ss.length ss.length ∧ w'.rowIs w.heap.size 3 ss.length (fun j => .int .i64 (ss.getD j 0)) ∧ ZsAt (New w w') w' v' ss ∧ Below w.heap.size w w' := by
  obtain ⟨a, cap, rfl, hlen, hc⟩ := hv
  have HC := hide hc; have HP := hide hP; clear hc hP
  have hmk := run_make_row' (P := Tryz.prog) 28 3 (.int .i64 0) 8 Tryz.underlying28 infoIntM rfl .i64 .i64 ss.length (by omega) (by omega)
  go_enter Tryz.func32, Tryz.ntmps32
  go_wp2_with fail
  clear hmk
  go_loopw [4] (fun i wr => ∃ (k : Nat), k ≤ ss.length ∧ i = .int .i64 k ∧ Hid (wr.rowIs w.heap.size 3 ss.length (fun j => .int .i64 (if j < k then ss.getD j 0 else 0))) ∧ Below w.heap.size w wr) (fun i _ => ss.length - (intOf i).toNat)
  case atStart => exact ⟨0, Nat.zero_le _, rfl, hide (by simpa using World.rowIs_made w (.int .i64 0) ss.length _), (Below.refl _ _).alloc (Nat.le_refl _) _⟩
  case round =>
    obtain ⟨k, hk, rfl, HR, hb⟩ := hrel
    by_cases hlt : k < ss.length
    · obtain ⟨b, o, rfl, hpb, hcell, hsz⟩ := unhide HC k hlt
      have hcell' : wr.cell? ⟨b, o + k, none⟩ = some (.int .i64 ss[k]) := by rw [hb.cell (unhide HP b hpb)]; exact hcell
      have hf := HR.out.frozen k
      have hcc := HR.out.cell hlt
      simp only [Nat.lt_irrefl, if_false] at hcc
      have HGD := hide (show ss.getD k 0 = ss[k] by rw [List.getD_eq_getElem?_getD, List.getElem?_eq_getElem hlt]; rfl)
      clear hcell hpb hsz
      generalize ss[k] = x at *
      go_wp2_with fail
      go_roundw
      case rel =>
        refine ⟨k + 1, by omega, by go_num, ?_, hb.setCell (Nat.le_refl _) _⟩
        refine (HR.out.set k _).congr fun i hi => ?_
        by_cases e : i = k
        · subst e; simp only [if_true]; rw [if_pos (by omega), unhide HGD]
        · simp only [if_neg e]
          by_cases e2 : i < k
          · rw [if_pos e2, if_pos (by omega)]
          · rw [if_neg e2, if_neg (by omega)]
      case measure => simp [intOf]; omega
    · go_wp2_with fail
      go_ret
      obtain rfl : k = ss.length := by omega
      have hrow : wr.rowIs w.heap.size 3 ss.length (fun j => .int .i64 (ss.getD j 0)) := HR.out.congr (fun i hi => by rw [if_pos hi])
      refine ⟨_, rfl, rfl, hrow, ⟨_, _, rfl, by omega, fun i hi => ⟨w.heap.size, 0, rfl, ⟨Nat.le_refl _, hrow.lt⟩, ?_, ?_⟩⟩, hb⟩
      · rw [Nat.zero_add, hrow.cell hi, List.getD_eq_getElem?_getD, List.getElem?_eq_getElem hi]; rfl
      · obtain ⟨_, _, _, _, _, h⟩ := unhide HC i hi; exact h

/-- A slice of so many numbers, in blocks of D of which nothing is frozen. -/
def ZShp (D : Nat → Prop) (w : World) (v : Value) (n : Nat) : Prop :=
  ∃ a cap, v = .slice a n cap ∧ n ≤ 9223372036854775807 ∧ ∀ i, i < n → ∃ b o s, a = some ⟨b, o, none⟩ ∧ D b ∧ FreeB w b ∧ w.cell? ⟨b, o + i, none⟩ = some (.int .i64 s)
theorem ZShp.like {D : Nat → Prop} {w w' : World} {v : Value} {n : Nat} (h : ZShp D w v n) (hl : Like D w w') : ZShp D w' v n := by
  obtain ⟨a, cap, h1, h2, h3⟩ := h
  refine ⟨a, cap, h1, h2, fun i hi => ?_⟩
  obtain ⟨b, o, s, e, hd, hf, hc⟩ := h3 i hi
  obtain ⟨v', hv', hlk⟩ := hl.cell _ _ _ hc
  obtain ⟨s', rfl⟩ := hlk.int
  exact ⟨b, o, s', e, hd, hl.free b (World.block_lt_of_cell? w _ hc) hf, hv'⟩
set_option maxHeartbeats 400000 in
theorem markIntS_shp (D : Nat → Prop) (v : Value) (n : Nat) (k : Nat) (w : World) (hv : ZShp D w v n) (hk : k + n ≤ 1099511627776) :
    Calls Tryz.prog 45 #[v, .int .i64 k] w fun e w' => e = .returned (.int .i64 (k + n : Nat)) ∧ Like D w w' := by
  have HV := hide hv
  obtain ⟨a, cap, rfl, hlen, -⟩ := hv
  go_enter Tryz.func45, Tryz.ntmps45
  go_wp2_with fail
  go_loopw [1, 5] (fun kk i wr => ∃ (j : Nat), j ≤ n ∧ kk = .int .i64 (k + j : Nat) ∧ i = .int .i64 j ∧ Hid (Like D w wr)) (fun _ i _ => n - (intOf i).toNat)
  case atStart => exact ⟨0, Nat.zero_le _, rfl, rfl, Like.refl _ _⟩
  case round =>
    obtain ⟨j, hj, rfl, rfl, HL⟩ := hrel
    by_cases hlt : j < n
    · have hs := (unhide HV).like HL.out
      obtain ⟨a', cap', e, -, hc⟩ := hs
      cases e
      obtain ⟨b, o, s, rfl, hd, hf, hcell⟩ := hc j hlt
      have z0 := hf (o + j)
      have HC := hide hcell; have HD := hide hd
      clear hf hd hc
      go_wp2_with fail
      go_roundw
      case rel =>
        refine ⟨j + 1, by omega, by go_num, by go_num, ?_⟩
        exact HL.out.trans (Like.set (unhide HD) (unhide HC) (Or.inl ⟨_, _, rfl, rfl⟩))
      case measure => simp [intOf]; omega
    · go_wp2_with fail
      go_ret
      obtain rfl : j = n := by omega
      exact ⟨rfl, HL.out⟩
end Go.Proofs.YtgdiankfnemjjaaGreat

/- Digits as bytes and strings; small laws. No program walked, no conditions. -/

namespace Go.Proofs.YtgdiankfnemjjaaGreat
open Go Go.RowKit

/-- A digit's byte. -/
def dg (m : Int) : UInt8 := UInt8.ofNat (48 + m.toNat)
theorem dg_nat {m : Int} (h0 : 0 ≤ m) (h1 : m < 10) : ((dg m).toNat : Int) = 48 + m := by unfold dg; rw [UInt8.toNat_ofNat']; omega
/-- One byte, as a string. -/
theorem conv_one (W : World) (b cap : Nat) (m : Int) (h0 : 0 ≤ m) (h1 : m < 10) (hc : W.cell? ⟨b, 0, none⟩ = some (.int .u8 (48 + m))) :
    Sem.run Tryz.prog (convert 110 9 (.slice (some ⟨b, 0, none⟩) 1 cap)) W = .ok (.string ⟨#[dg m]⟩) W := by
  have := run_convert_bytes_back (P := Tryz.prog) W 110 9 5 ⟨b, 0, none⟩ cap [dg m] Tryz.underlying110 Tryz.underlying5 Tryz.underlying9 (fun j hj => by
    have hj0 : j = 0 := by simpa using hj
    subst hj0
    rw [Addr.add_lit, hc]
    simp only [List.getElem_cons_zero]
    rw [dg_nat h0 h1])
  simpa using this

theorem rem10 {n : Int} (h0 : 0 ≤ n) : IntKind.i64.wrap (48 + n.tmod 10) = 48 + n % 10 := by
  rw [IntKind.wrap_i64, Int.tmod_eq_emod_of_nonneg h0]; omega
theorem rem10b (n : Int) : IntKind.u8.wrap (48 + n % 10) = 48 + n % 10 := by
  rw [IntKind.wrap_u8]; omega

end Go.Proofs.YtgdiankfnemjjaaGreat
