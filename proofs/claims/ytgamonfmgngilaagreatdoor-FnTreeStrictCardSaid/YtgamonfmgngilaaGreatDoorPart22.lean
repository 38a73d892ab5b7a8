/- The walks of the program's sorter: trees, ofItsSort, tree: what they answer, or that they raise a fault. The table treeFields is as the program lays it. -/
import Derived.Test.YtgamonfmgngilaaGreatDoorPart21
import Derived.Deep.RegionWith
import Derived.Test.YtgamonfmgngilaaGreatDoorPart13
namespace Go.Proofs.YtgamonfmgngilaaGreatDoor
open Go Go.RowKit

theorem infoSorted : (Tryz.prog.info? 48).map (fun i => (i.zero, i.size, i.bytes)) = some (some .nilIface, 1, 16) := by kernel_rfl

def TreeSaid (n : Nat) : Prop := ∀ (t : Tr), tsz t < n → ∀ (P : Nat → Prop) (c : C5) (w : World) (B : Nat) (p l : Int), (∀ b, P b → b < w.heap.size ∧ b ≠ B) → Rep P w t c → Bnd w B p l → Tab w → 0 < B → 0 ≤ p → p ≤ 120 → 0 ≤ l → l ≤ 6 →
    Calls Tryz.prog 54 #[.pointer (some ⟨B, 0, none⟩), .agg #[c.c0, c.c1, c.c2, c.c3, c.c4]] w fun e w' => But B w w' ∧
      ((∃ q v, wlk t p l = some q ∧ e = .returned v ∧ SRep (fun b => P b ∨ (w.heap.size ≤ b ∧ b < w'.heap.size)) w' t v ∧ Bnd w' B q l) ∨ (wlk t p l = none ∧ e = fltE))

set_option maxHeartbeats 800000 in
theorem trees_any (n : Nat) (IH : TreeSaid n) (t : Tr) (hn : tsz t ≤ n) (P : Nat → Prop) (a : Option Addr) (cap : Nat) (w : World) (B : Nat) (p l : Int) (hP : ∀ b, P b → b < w.heap.size ∧ b ≠ B)
    (hlen : t.kids.length ≤ 9223372036854775807)
    (hc : ∀ i, (hi : i < t.kids.length) → ∃ b o c, a = some ⟨b, o, none⟩ ∧ P b ∧ C5.at w b (o + i * 5) c ∧ Rep P w t.kids[i] c)
    (hB : Bnd w B p l) (hT : Tab w) (hB0 : 0 < B) (hp0 : 0 ≤ p) (hp1 : p ≤ 120) (hl0 : 0 ≤ l) (hl1 : l ≤ 6) :
    Calls Tryz.prog 115 #[.pointer (some ⟨B, 0, none⟩), .slice a t.kids.length cap] w fun e w' => But B w w' ∧
      ((∃ q v, wlkK t.kids p l = some q ∧ e = .returned v ∧ SKids (fun b => P b ∨ (w.heap.size ≤ b ∧ b < w'.heap.size)) w' v t.kids ∧ Bnd w' B q l) ∨ (wlkK t.kids p l = none ∧ e = fltE)) := by
  have hBw := hB.lt
  obtain ⟨i0, hi, hz0, hz1, hz2⟩ := info_parts infoSorted
  generalize hks : t.kids = ks at *
  have HK := hide hks; clear hks
  have HC := hide hc; clear hc
  have HP := hide hP; clear hP
  have HI := hide IH; clear IH
  have HT := hide hT; clear hT
  have HB := hide hB; clear hB
  have HIF := hide (And.intro hi (And.intro hz0 (And.intro hz1 hz2))); clear hi hz0 hz1 hz2
  go_enter Tryz.func115, Tryz.ntmps115
  go_wp2_with fail
  go_loopw [5, 10] (fun s i wr => ∃ (k : Nat) (q : Int) (a' : Option Addr) (cap' : Nat), k ≤ ks.length ∧ i = .int .i64 k ∧ s = .slice a' k cap' ∧ 0 ≤ q ∧ q ≤ 120 ∧ Hid (wlkK (ks.drop k) q l = wlkK ks p l) ∧ Hid (Got P w wr s ks k) ∧ Hid (Bnd wr B q l) ∧ Hid (But B w wr) ∧ (k : Int) ≤ q) (fun _ i _ => ks.length - (intOf i).toNat)
  case atStart => exact ⟨0, p, none, 0, Nat.zero_le _, rfl, rfl, hp0, hp1, rfl, hide (Got.start P w ks), HB, hide (But.refl B w), by simpa using hp0⟩
  case round =>
    obtain ⟨k, q, a', cap', hk, rfl, rfl, hq0, hq1, HQ, HG, HBQ, HBT, hkq⟩ := hrel
    by_cases hlt : k < ks.length
    · obtain ⟨b, o, c, rfl, hpb, hcell, hrep⟩ := unhide HC k hlt
      have hsw := HBT.out.size
      have hcell' := hcell.carry (HBT.out.at (unhide HP b hpb).1 (unhide HP b hpb).2)
      obtain ⟨c0, c1, c2, c3, c4⟩ := c
      obtain ⟨e0, e1, e2, e3, e4⟩ := hcell'
      simp only at e0 e1 e2 e3 e4
      have HR := hide hrep; clear hrep hcell hpb
      have hmem : ks[k] ∈ t.kids := by rw [unhide HK]; exact List.getElem_mem hlt
      have hsm : tsz ks[k] < n := by have := tsz_kid hmem; omega
      clear hmem
      have hrw : Rep P wr ks[k] ⟨c0, c1, c2, c3, c4⟩ := Rep.carry (fun b hb => HBT.out.at (unhide HP b hb).1 (unhide HP b hb).2) (fun _ h => h) _ _ (unhide HR)
      have hcall : ∀ o, Calls Tryz.prog 54 #[.pointer (some ⟨B, 0, none⟩), .agg #[c0, c1, c2, c3, c4]] (wr.alloc o) fun e w' => But B (wr.alloc o) w' ∧
          ((∃ q' v, wlk ks[k] q l = some q' ∧ e = .returned v ∧ SRep (fun b => P b ∨ ((wr.alloc o).heap.size ≤ b ∧ b < w'.heap.size)) w' ks[k] v ∧ Bnd w' B q' l) ∨ (wlk ks[k] q l = none ∧ e = fltE)) := fun o =>
        unhide HI ks[k] hsm P ⟨c0, c1, c2, c3, c4⟩ (wr.alloc o) B q l (fun b hb => ⟨by have := (unhide HP b hb).1; simp; omega, (unhide HP b hb).2⟩) (Rep.carry (fun b hb => Below.heap_alloc _ _ _ (by have := (unhide HP b hb).1; omega)) (fun _ h => h) _ _ hrw) (HBQ.out.alloc o) ((unhide HT).but (HBT.out.trans (But.alloc B wr o)) hB0) hB0 hq0 hq1 hl0 hl1
      have HCALL := hide hcall
      obtain ⟨g0, g1, g2, -, -, -, ⟨a3, cap3, g3, -⟩, a4, cap4, g4, -⟩ := hrw.open
      simp only at g0 g1 g2 g3 g4
      subst g0 g1 g2 g3 g4
      clear hcall hrw HR
      have HST := hide (wlkK_step hlt q l)
      go_wp2_with fail
      refine (unhide HCALL _).mono ?_
      rintro e w2 ⟨hbt, ⟨q', v, hwl, rfl, hsr, hbnd⟩ | ⟨hwl, rfl⟩⟩
      · have hst := unhide HST
        rw [hwl] at hst
        simp only at hst
        have hbd := wlk_bd _ _ _ _ hq0 hq1 hwl
        have hfin : wlkK (ks.drop (k + 1)) q' l = wlkK ks p l := by rw [← HQ.out, hst]
        have HFIN := hide hfin
        have hbt1 := (But.alloc B wr _).trans hbt
        have hg0 := HG.out
        have hg2 := hg0.kept (unhide HP) hBw hsw hbt1
        obtain ⟨xs0, hown0, -⟩ := hg0
        obtain ⟨xs, hown, hx⟩ := hg2
        have hnew : SRep (fun b => P b ∨ (w.heap.size ≤ b ∧ b < w2.heap.size ∧ some b ≠ (Value.slice a' k cap').ownBlock)) w2 ks[k] v := by
          refine SRep.carry (fun _ _ => rfl) (fun b hb => ?_) _ _ hsr
          rcases hb with hb | ⟨hb1, hb2⟩
          · exact Or.inl hb
          · have hb1' : wr.heap.size + 1 ≤ b := by simpa using hb1
            exact Or.inr ⟨by omega, hb2, fun e => by have := (hown0.lt b e.symm).2; omega⟩
        obtain ⟨T, x, rfl⟩ := hsr.iface
        have hbt2 := HBT.out.trans hbt1
        have hs2 := hbt2.size
        have HBT2 := hide hbt2; have HX := hide hx; have HNEW := hide hnew; have HOWN := hide hown; have HBN := hide hbnd
        obtain ⟨hi, hz0, hz1, hz2⟩ := unhide HIF
        clear hfin hst hwl hbt hbt1 hbt2 hown0 hx hnew hsr hbnd hown e0 e1 e2 e3 e4 HCALL HST HBQ
        have HII := hide hi; have HZ0 := hide hz0; have HZ1 := hide hz1; have HZ2 := hide hz2
        clear hi hz0 hz1 hz2
        go_wp2_with (at_builtin; refine append_row _ rfl _ _ 91 rfl w.heap.size 48 i0 .nilIface 1 16 Tryz.underlying91 (unhide HII) (unhide HZ0) (unhide HZ1) (unhide HZ2) rfl (by decide) (.slice a' k cap') k xs rfl ((unhide HOWN).alloc _) ⟨w2.heap.size, 0, none⟩ 1 1 [.iface T x] rfl rfl (cell_one _ _ _) (fun u hu => by simp at hu; subst hu; rfl) (by decide) (by unfold maxLen; omega) (by omega) (by simp; omega) ?_; intro v' w4 hown' hgrow hv')
        have hown2 := unhide HOWN
        obtain ⟨g', cap'', hv''⟩ : ∃ g' cap'', v' = .slice (some ⟨g', 0, none⟩) (k + 1) cap'' := by
          rcases hown'.2 with ⟨_, h⟩ | ⟨g', cap'', _, h, _⟩
          · omega
          · exact ⟨g', cap'', h⟩
        have hb3 : Below w2.heap.size w2 (w2.alloc (.cells #[.iface T x] 48)) := (Below.refl _ _).alloc (Nat.le_refl _) _
        have hgot := Got.push (unhide HP) hlt hs2 hown2 (unhide HX) (unhide HNEW) hb3 hown' hgrow hv'
        have hs3 := hb3.size
        have hs4 := hgrow.size
        have hbnd4 : Bnd w4 B q' l := by
          refine (unhide HBN).of_block ?_
          rw [hgrow.block B (by omega) (fun e => by have := (hown2.lt B e.symm).1; omega), hb3.block B (by omega)]
        have hbut4 : But B w w4 := by
          have h2 := unhide HBT2
          refine ⟨hgrow.os.trans (hb3.os.trans h2.os), hgrow.tape.trans (hb3.tape.trans h2.tape), hgrow.output.trans (hb3.output.trans h2.output), by omega, fun i hi hne => ?_⟩
          rw [hgrow.block i (by omega) (fun e => by have := (hown2.lt i e.symm).1; omega), hb3.block i (by omega), h2.block i hi hne]
        clear hown2
        go_roundw
        case rel => exact ⟨k + 1, q', some ⟨g', 0, none⟩, cap'', by omega, by go_num, hv'', by omega, hbd.2, HFIN, hgot, hbnd4, hbut4, by omega⟩
        case measure => simp [intOf]; omega
      · have hfin : wlkK ks p l = none := by rw [← HQ.out, unhide HST, hwl]
        have HFIN := hide hfin
        have hbt2 := HBT.out.trans ((But.alloc B wr _).trans hbt)
        have HBT2 := hide hbt2
        clear hfin hbt hwl hbt2
        go_wp2_with fail
        exact ⟨rfl, unhide HBT2, Or.inr ⟨unhide HFIN, rfl⟩⟩
    · go_wp2_with fail
      go_ret
      obtain rfl : k = ks.length := by omega
      refine ⟨HBT.out, Or.inl ⟨q, _, ?_, rfl, HG.out.done, HBQ.out⟩⟩
      rw [← HQ.out, List.drop_of_length_le (Nat.le_refl _), wlkK]
end Go.Proofs.YtgamonfmgngilaaGreatDoor

/- The walk of the program's newFlagTree: what it answers, or that it raises a fault. No conditions. -/

namespace Go.Proofs.YtgamonfmgngilaaGreatDoor
open Go Go.RowKit

set_option maxHeartbeats 400000 in
theorem newFlag_yes (n : Int) (w : World) (h : 0 ≤ n ∧ n ≤ 1) : Calls Tryz.prog 114 #[.int .i64 n] w fun e w' => e = .returned (.bool (n == 1)) ∧ w' = w := by
  have h' : n = 0 ∨ n = 1 := by omega
  clear h
  rcases h' with rfl | rfl
  · go_enter Tryz.func114, Tryz.ntmps114
    go_wp2_with (go_at_call 65; refine (treeWant_yes _).mono ?_; rintro e w' ⟨rfl, rfl⟩)
    go_ret
    exact ⟨rfl, rfl⟩
  · go_enter Tryz.func114, Tryz.ntmps114
    go_wp2_with (go_at_call 65; refine (treeWant_yes _).mono ?_; rintro e w' ⟨rfl, rfl⟩)
    go_ret
    exact ⟨rfl, rfl⟩

set_option maxHeartbeats 400000 in
theorem newFlag_no (n : Int) (w : World) (h : ¬ (0 ≤ n ∧ n ≤ 1)) : Calls Tryz.prog 114 #[.int .i64 n] w fun e w' => e = fltE ∧ w' = w := by
  have h0 : (n == 0) = false := by simp; omega
  have h1 : (n == 1) = false := by simp; omega
  clear h
  go_enter Tryz.func114, Tryz.ntmps114
  go_wp2_with (go_at_call 65; refine (treeWant_no _).mono ?_; rintro e w' ⟨rfl, rfl⟩)
  exact ⟨rfl, rfl, rfl⟩
end Go.Proofs.YtgamonfmgngilaaGreatDoor

/- The walks of the program's ofItsSort and tree, sortTree, treeTry, TreeOk and TreeParts. The table treeFields is as the program lays it. -/

namespace Go.Proofs.YtgamonfmgngilaaGreatDoor
open Go Go.RowKit

/-- What ofItsSort comes to. -/
def ofS (t : Tr) (p l : Int) : Option Int := match wlkK t.kids p l with
  | none => none
  | some q => if newB t = true then some q else none

theorem wlk_of (t : Tr) (p l : Int) (h : p + 1 ≤ 120 ∧ l + 1 ≤ 6) (ho : ownB t = true) : wlk t p l = ofS t (p + 1) (l + 1) := by
  rw [wlk_eq, if_pos h, if_pos ho]; rfl

/-- What is said of ofItsSort behind its call. -/
def OfPost (P : Nat → Prop) (t : Tr) (B : Nat) (p l : Int) (w : World) (e : Ending) (w' : World) : Prop :=
  But B w w' ∧ ((∃ q v, ofS t p l = some q ∧ e = .returned v ∧ SRep (fun b => P b ∨ (w.heap.size ≤ b ∧ b < w'.heap.size)) w' t v ∧ Bnd w' B q l) ∨ (ofS t p l = none ∧ e = fltE))

theorem own_kids {t : Tr} (h : ownB t = true) (hs : t.sort = 1 ∨ t.sort = 2 ∨ t.sort = 3) : t.kids = [] := by
  unfold ownB at h
  apply List.eq_nil_of_length_eq_zero
  rcases hs with hs | hs | hs <;> · simp [hs] at h; simp [h]

set_option maxHeartbeats 800000 in
theorem ofIts_1 (t : Tr) (P : Nat → Prop) (c : C5) (w : World) (B : Nat) (p l : Int) (hrep : Rep P w t c) (hB : Bnd w B p l) (ho : ownB t = true) (hs : t.sort = 1) :
    Calls Tryz.prog 91 #[.pointer (some ⟨B, 0, none⟩), .agg #[c.c0, c.c1, c.c2, c.c3, c.c4]] w (OfPost P t B p l w) := by
  have hk := own_kids ho (Or.inl hs)
  have hof : ofS t p l = if newB t = true then some p else none := by unfold ofS; rw [hk, wlkK]
  have hnb : newB t = decide (-999999999 ≤ t.num ∧ t.num ≤ 999999999) := by unfold newB; rw [if_pos hs]
  obtain ⟨c0, c1, c2, c3, c4⟩ := c
  obtain ⟨e0, e1, e2, -, -, htx, ⟨a3, cap3, e3, hl3, -⟩, a, cap, e4, hlen, -⟩ := hrep.open
  simp only at e0 e1 e2 e3 e4
  subst e0 e1 e2 e3 e4
  have HOF := hide hof; have HNB := hide hnb; have HB := hide hB
  clear hrep hk hof hnb hB ho
  by_cases hr : -999999999 ≤ t.num ∧ t.num ≤ 999999999
  · have HR := hide hr
    clear hr
    go_enter Tryz.func91, Tryz.ntmps91
    go_wp2_with (go_at_call 94; refine (newNum_yes _ _ (unhide HR)).mono ?_; rintro e w' ⟨rfl, rfl⟩)
    go_ret
    refine ⟨But.alloc B w _, Or.inl ⟨p, _, ?_, rfl, srep1 hs, (unhide HB).alloc _⟩⟩
    rw [unhide HOF, if_pos (by rw [unhide HNB]; simpa using unhide HR)]
  · have HR := hide hr
    clear hr
    go_enter Tryz.func91, Tryz.ntmps91
    go_wp2_with (go_at_call 94; refine (newNum_no _ _ (unhide HR)).mono ?_; rintro e w' ⟨rfl, rfl⟩)
    refine ⟨rfl, But.alloc B w _, Or.inr ⟨?_, rfl⟩⟩
    rw [unhide HOF, if_neg (by rw [unhide HNB]; simpa using unhide HR)]
set_option maxHeartbeats 800000 in
theorem ofIts_2 (t : Tr) (P : Nat → Prop) (c : C5) (w : World) (B : Nat) (p l : Int) (hrep : Rep P w t c) (hB : Bnd w B p l) (ho : ownB t = true) (hs : t.sort = 2) :
    Calls Tryz.prog 91 #[.pointer (some ⟨B, 0, none⟩), .agg #[c.c0, c.c1, c.c2, c.c3, c.c4]] w (OfPost P t B p l w) := by
  have hk := own_kids ho (Or.inr (Or.inl hs))
  have hof : ofS t p l = if newB t = true then some p else none := by unfold ofS; rw [hk, wlkK]
  have hnb : newB t = textOkB t.text := by unfold newB; rw [if_neg (by omega), if_pos hs]
  obtain ⟨c0, c1, c2, c3, c4⟩ := c
  obtain ⟨e0, e1, e2, -, -, htx, ⟨a3, cap3, e3, hl3, -⟩, a, cap, e4, hlen, -⟩ := hrep.open
  simp only at e0 e1 e2 e3 e4
  subst e0 e1 e2 e3 e4
  have HOF := hide hof; have HNB := hide hnb; have HB := hide hB
  clear hrep hk hof hnb hB ho
  go_enter Tryz.func91, Tryz.ntmps91
  go_wp2_with fail
  refine (newText_any t.text _ htx).mono ?_
  rintro e w' ⟨⟨hok, rfl⟩ | ⟨hok, rfl⟩, rfl⟩
  · have HOK := hide hok; clear hok
    go_wp2_with fail
    go_ret
    refine ⟨But.alloc B w _, Or.inl ⟨p, _, ?_, rfl, srep2 hs, (unhide HB).alloc _⟩⟩
    rw [unhide HOF, if_pos (by rw [unhide HNB]; exact unhide HOK)]
  · have HOK := hide hok; clear hok
    go_wp2_with fail
    refine ⟨rfl, But.alloc B w _, Or.inr ⟨?_, rfl⟩⟩
    rw [unhide HOF, if_neg (by rw [unhide HNB, unhide HOK]; simp)]

set_option maxHeartbeats 800000 in
theorem ofIts_3 (t : Tr) (P : Nat → Prop) (c : C5) (w : World) (B : Nat) (p l : Int) (hrep : Rep P w t c) (hB : Bnd w B p l) (ho : ownB t = true) (hs : t.sort = 3) :
    Calls Tryz.prog 91 #[.pointer (some ⟨B, 0, none⟩), .agg #[c.c0, c.c1, c.c2, c.c3, c.c4]] w (OfPost P t B p l w) := by
  have hk := own_kids ho (Or.inr (Or.inr hs))
  have hof : ofS t p l = if newB t = true then some p else none := by unfold ofS; rw [hk, wlkK]
  have hnb : newB t = decide (0 ≤ t.num ∧ t.num ≤ 1) := by unfold newB; rw [if_neg (by omega), if_neg (by omega), if_pos hs]
  obtain ⟨c0, c1, c2, c3, c4⟩ := c
  obtain ⟨e0, e1, e2, -, -, htx, ⟨a3, cap3, e3, hl3, -⟩, a, cap, e4, hlen, -⟩ := hrep.open
  simp only at e0 e1 e2 e3 e4
  subst e0 e1 e2 e3 e4
  have HOF := hide hof; have HNB := hide hnb; have HB := hide hB
  clear hrep hk hof hnb hB ho
  by_cases hr : 0 ≤ t.num ∧ t.num ≤ 1
  · have HR := hide hr
    clear hr
    go_enter Tryz.func91, Tryz.ntmps91
    go_wp2_with (go_at_call 114; refine (newFlag_yes _ _ (unhide HR)).mono ?_; rintro e w' ⟨rfl, rfl⟩)
    go_ret
    refine ⟨But.alloc B w _, Or.inl ⟨p, _, ?_, rfl, srep3 hs, (unhide HB).alloc _⟩⟩
    rw [unhide HOF, if_pos (by rw [unhide HNB]; simpa using unhide HR)]
  · have HR := hide hr
    clear hr
    go_enter Tryz.func91, Tryz.ntmps91
    go_wp2_with (go_at_call 114; refine (newFlag_no _ _ (unhide HR)).mono ?_; rintro e w' ⟨rfl, rfl⟩)
    refine ⟨rfl, But.alloc B w _, Or.inr ⟨?_, rfl⟩⟩
    rw [unhide HOF, if_neg (by rw [unhide HNB]; simpa using unhide HR)]
set_option maxHeartbeats 800000 in
theorem ofIts_4 (n : Nat) (IH : TreeSaid n) (t : Tr) (hn : tsz t ≤ n) (P : Nat → Prop) (c : C5) (w : World) (B : Nat) (p l : Int) (hP : ∀ b, P b → b < w.heap.size ∧ b ≠ B) (hrep : Rep P w t c) (hB : Bnd w B p l) (hT : Tab w) (hB0 : 0 < B) (hp0 : 0 ≤ p) (hp1 : p ≤ 120) (hl0 : 0 ≤ l) (hl1 : l ≤ 6) (hs : t.sort = 4) :
    Calls Tryz.prog 91 #[.pointer (some ⟨B, 0, none⟩), .agg #[c.c0, c.c1, c.c2, c.c3, c.c4]] w (OfPost P t B p l w) := by
  have hnb : newB t = decide (t.kids.length ≤ 20) := by unfold newB; rw [if_neg (by omega), if_neg (by omega), if_neg (by omega), if_pos hs]
  obtain ⟨c0, c1, c2, c3, c4⟩ := c
  obtain ⟨e0, e1, e2, -, -, -, hns, a, cap, e4, hlen, hks⟩ := hrep.open
  simp only at e0 e1 e2 hns e4
  have HNS := hide hns
  obtain ⟨a3, cap3, e3, hl3, -⟩ := hns
  subst e0 e1 e2 e3 e4
  have htrees : ∀ o, Calls Tryz.prog 115 #[.pointer (some ⟨B, 0, none⟩), .slice a t.kids.length cap] (w.alloc o) fun e w' => But B (w.alloc o) w' ∧
      ((∃ q v, wlkK t.kids p l = some q ∧ e = .returned v ∧ SKids (fun b => P b ∨ (w.heap.size ≤ b ∧ b < w'.heap.size)) w' v t.kids ∧ Bnd w' B q l) ∨ (wlkK t.kids p l = none ∧ e = fltE)) := fun o =>
    (trees_any n IH t hn P a cap (w.alloc o) B p l (fun b hb => ⟨by have := (hP b hb).1; simp; omega, (hP b hb).2⟩) hlen (fun i hi => by
      obtain ⟨b, o2, c, h1, h2, h3, h4⟩ := hks i hi
      exact ⟨b, o2, c, h1, h2, h3.carry (Below.heap_alloc _ _ _ (hP b h2).1), Rep.carry (fun b hb => Below.heap_alloc _ _ _ (hP b hb).1) (fun _ h => h) _ _ h4⟩) (hB.alloc o) (hT.but (But.alloc B w o) hB0) hB0 hp0 hp1 hl0 hl1).mono
      fun e w' ⟨h1, h2⟩ => ⟨h1, h2.imp (fun ⟨q, v, g1, g2, g3, g4⟩ => ⟨q, v, g1, g2, g3.carry (fun _ _ => rfl) (fun b hb => hb.imp id (fun hb => ⟨by have := hb.1; simp at this; omega, hb.2⟩)), g4⟩) id⟩
  have HNB := hide hnb; have HTR := hide htrees; have HP := hide hP
  clear hrep hnb hB htrees hks hP IH hT
  go_enter Tryz.func91, Tryz.ntmps91
  go_wp2_with fail
  refine (unhide HTR _).mono ?_
  rintro e w' ⟨hbt, ⟨q, v, hwl, rfl, hk, hbnd⟩ | ⟨hwl, rfl⟩⟩
  · have hbt2 := (But.alloc B w _).trans hbt
    have HBT := hide hbt2; have HWL := hide hwl; have HK := hide hk; have HBN := hide hbnd
    obtain ⟨a', cap', rfl, -⟩ := hk
    clear hbt hbt2 hwl hbnd
    by_cases hr : t.kids.length ≤ 20
    · have HR := hide hr; clear hr
      go_wp2_with (go_at_call 100; refine (newList_yes _ _ _ _ (unhide HR)).mono ?_; rintro e w2 ⟨rfl, rfl⟩)
      go_ret
      refine ⟨unhide HBT, Or.inl ⟨q, _, ?_, rfl, srep4 hs (unhide HK), unhide HBN⟩⟩
      unfold ofS
      rw [unhide HWL]
      simp only
      rw [if_pos (by rw [unhide HNB]; simpa using unhide HR)]
    · have HR := hide hr; clear hr
      go_wp2_with (go_at_call 100; refine (newList_no _ _ _ _ (unhide HR)).mono ?_; rintro e w2 ⟨rfl, rfl⟩)
      refine ⟨rfl, unhide HBT, Or.inr ⟨?_, rfl⟩⟩
      unfold ofS
      rw [unhide HWL]
      simp only
      rw [if_neg (by rw [unhide HNB]; simpa using unhide HR)]
  · have hbt2 := (But.alloc B w _).trans hbt
    have HBT := hide hbt2; have HWL := hide hwl
    clear hbt hbt2 hwl
    go_wp2_with fail
    refine ⟨rfl, unhide HBT, Or.inr ⟨?_, rfl⟩⟩
    unfold ofS
    rw [unhide HWL]

set_option maxHeartbeats 800000 in
theorem ofIts_6 (n : Nat) (IH : TreeSaid n) (t : Tr) (hn : tsz t ≤ n) (P : Nat → Prop) (c : C5) (w : World) (B : Nat) (p l : Int) (hP : ∀ b, P b → b < w.heap.size ∧ b ≠ B) (hrep : Rep P w t c) (hB : Bnd w B p l) (hT : Tab w) (hB0 : 0 < B) (hp0 : 0 ≤ p) (hp1 : p ≤ 120) (hl0 : 0 ≤ l) (hl1 : l ≤ 6) (hs : t.sort = 6) :
    Calls Tryz.prog 91 #[.pointer (some ⟨B, 0, none⟩), .agg #[c.c0, c.c1, c.c2, c.c3, c.c4]] w (OfPost P t B p l w) := by
  have hnb : newB t = decide (t.kids.length ≤ 1) := by unfold newB; rw [if_neg (by omega), if_neg (by omega), if_neg (by omega), if_neg (by omega), if_neg (by omega), if_pos hs]
  obtain ⟨c0, c1, c2, c3, c4⟩ := c
  obtain ⟨e0, e1, e2, -, -, -, hns, a, cap, e4, hlen, hks⟩ := hrep.open
  simp only at e0 e1 e2 hns e4
  have HNS := hide hns
  obtain ⟨a3, cap3, e3, hl3, -⟩ := hns
  subst e0 e1 e2 e3 e4
  have htrees : ∀ o, Calls Tryz.prog 115 #[.pointer (some ⟨B, 0, none⟩), .slice a t.kids.length cap] (w.alloc o) fun e w' => But B (w.alloc o) w' ∧
      ((∃ q v, wlkK t.kids p l = some q ∧ e = .returned v ∧ SKids (fun b => P b ∨ (w.heap.size ≤ b ∧ b < w'.heap.size)) w' v t.kids ∧ Bnd w' B q l) ∨ (wlkK t.kids p l = none ∧ e = fltE)) := fun o =>
    (trees_any n IH t hn P a cap (w.alloc o) B p l (fun b hb => ⟨by have := (hP b hb).1; simp; omega, (hP b hb).2⟩) hlen (fun i hi => by
      obtain ⟨b, o2, c, h1, h2, h3, h4⟩ := hks i hi
      exact ⟨b, o2, c, h1, h2, h3.carry (Below.heap_alloc _ _ _ (hP b h2).1), Rep.carry (fun b hb => Below.heap_alloc _ _ _ (hP b hb).1) (fun _ h => h) _ _ h4⟩) (hB.alloc o) (hT.but (But.alloc B w o) hB0) hB0 hp0 hp1 hl0 hl1).mono
      fun e w' ⟨h1, h2⟩ => ⟨h1, h2.imp (fun ⟨q, v, g1, g2, g3, g4⟩ => ⟨q, v, g1, g2, g3.carry (fun _ _ => rfl) (fun b hb => hb.imp id (fun hb => ⟨by have := hb.1; simp at this; omega, hb.2⟩)), g4⟩) id⟩
  have HNB := hide hnb; have HTR := hide htrees; have HP := hide hP
  clear hrep hnb hB htrees hks hP IH hT
  go_enter Tryz.func91, Tryz.ntmps91
  go_wp2_with fail
  refine (unhide HTR _).mono ?_
  rintro e w' ⟨hbt, ⟨q, v, hwl, rfl, hk, hbnd⟩ | ⟨hwl, rfl⟩⟩
  · have hbt2 := (But.alloc B w _).trans hbt
    have HBT := hide hbt2; have HWL := hide hwl; have HK := hide hk; have HBN := hide hbnd
    obtain ⟨a', cap', rfl, -⟩ := hk
    clear hbt hbt2 hwl hbnd
    by_cases hr : t.kids.length ≤ 1
    · have HR := hide hr; clear hr
      go_wp2_with (go_at_call 103; refine (newMaybe_yes _ _ _ _ (unhide HR)).mono ?_; rintro e w2 ⟨rfl, rfl⟩)
      go_ret
      refine ⟨unhide HBT, Or.inl ⟨q, _, ?_, rfl, srep6 hs (unhide HK), unhide HBN⟩⟩
      unfold ofS
      rw [unhide HWL]
      simp only
      rw [if_pos (by rw [unhide HNB]; simpa using unhide HR)]
    · have HR := hide hr; clear hr
      go_wp2_with (go_at_call 103; refine (newMaybe_no _ _ _ _ (unhide HR)).mono ?_; rintro e w2 ⟨rfl, rfl⟩)
      refine ⟨rfl, unhide HBT, Or.inr ⟨?_, rfl⟩⟩
      unfold ofS
      rw [unhide HWL]
      simp only
      rw [if_neg (by rw [unhide HNB]; simpa using unhide HR)]
  · have hbt2 := (But.alloc B w _).trans hbt
    have HBT := hide hbt2; have HWL := hide hwl
    clear hbt hbt2 hwl
    go_wp2_with fail
    refine ⟨rfl, unhide HBT, Or.inr ⟨?_, rfl⟩⟩
    unfold ofS
    rw [unhide HWL]

set_option maxRecDepth 100000 in
set_option maxHeartbeats 800000 in
theorem ofIts_5 (n : Nat) (IH : TreeSaid n) (t : Tr) (hn : tsz t ≤ n) (P : Nat → Prop) (c : C5) (w : World) (B : Nat) (p l : Int) (hP : ∀ b, P b → b < w.heap.size ∧ b ≠ B) (hrep : Rep P w t c) (hB : Bnd w B p l) (hT : Tab w) (hB0 : 0 < B) (hp0 : 0 ≤ p) (hp1 : p ≤ 120) (hl0 : 0 ≤ l) (hl1 : l ≤ 6) (hs : t.sort = 5) :
    Calls Tryz.prog 91 #[.pointer (some ⟨B, 0, none⟩), .agg #[c.c0, c.c1, c.c2, c.c3, c.c4]] w (OfPost P t B p l w) := by
  have hnb : newB t = (decide (t.names.length = t.kids.length) && riseB t.names) := by unfold newB; rw [if_neg (by omega), if_neg (by omega), if_neg (by omega), if_neg (by omega), if_pos hs]
  obtain ⟨c0, c1, c2, c3, c4⟩ := c
  obtain ⟨e0, e1, e2, -, -, -, hns, a, cap, e4, hlen, hks⟩ := hrep.open
  simp only at e0 e1 e2 hns e4
  have HNS := hide hns
  obtain ⟨a3, cap3, e3, hl3, -⟩ := hns
  subst e0 e1 e2 e3 e4
  have hPd : ∀ o, ∀ b, P b → b < ((w.alloc o).drew).heap.size ∧ b ≠ B := fun o b hb => ⟨by have := (hP b hb).1; simp; omega, (hP b hb).2⟩
  have hbd : ∀ o, But B w ((w.alloc o).drew) := fun o => But.of_below ((Below.refl _ _).alloc (Nat.le_refl _) o).drew
  have htrees : ∀ o, Calls Tryz.prog 115 #[.pointer (some ⟨B, 0, none⟩), .slice a t.kids.length cap] ((w.alloc o).drew) fun e w' => But B ((w.alloc o).drew) w' ∧
      ((∃ q v, wlkK t.kids p l = some q ∧ e = .returned v ∧ SKids (fun b => P b ∨ (w.heap.size ≤ b ∧ b < w'.heap.size)) w' v t.kids ∧ Bnd w' B q l) ∨ (wlkK t.kids p l = none ∧ e = fltE)) := fun o =>
    (trees_any n IH t hn P a cap ((w.alloc o).drew) B p l (hPd o) hlen (fun i hi => by
      obtain ⟨b, o2, c, h1, h2, h3, h4⟩ := hks i hi
      exact ⟨b, o2, c, h1, h2, h3.carry ((hbd o).at (hP b h2).1 (hP b h2).2), Rep.carry (fun b hb => (hbd o).at (hP b hb).1 (hP b hb).2) (fun _ h => h) _ _ h4⟩) (hB.of_block (((Below.refl _ _).alloc (Nat.le_refl _) o).drew.block B hB.lt)) (hT.but (hbd o) hB0) hB0 hp0 hp1 hl0 hl1).mono
      fun e w' ⟨h1, h2⟩ => ⟨h1, h2.imp (fun ⟨q, v, g1, g2, g3, g4⟩ => ⟨q, v, g1, g2, g3.carry (fun _ _ => rfl) (fun b hb => hb.imp id (fun hb => ⟨by have := hb.1; simp at this; omega, hb.2⟩)), g4⟩) id⟩
  have hBw := hB.lt
  have HNB := hide hnb; have HP := hide hP; have HBD := hide hbd
  clear hrep hnb hB hks hP IH hT hPd hbd
  cases hw : wlkK t.kids p l with
  | none =>
    have htr : ∀ o, Calls Tryz.prog 115 #[.pointer (some ⟨B, 0, none⟩), .slice a t.kids.length cap] ((w.alloc o).drew) fun e w' => But B w w' ∧ e = fltE := fun o => (htrees o).mono fun e w' ⟨h1, h2⟩ => by
      rcases h2 with ⟨q, v, g1, _⟩ | ⟨_, g2⟩
      · rw [hw] at g1; cases g1
      · exact ⟨(unhide HBD o).trans h1, g2⟩
    have HTR := hide htr
    have HOF : Hid (ofS t p l = none) := by show _ = _; unfold ofS; rw [hw]
    clear htrees htr hw
    go_enter Tryz.func91, Tryz.ntmps91
    go_wp2_with fail
    refine wp_region_any (by kernel_rfl) ?_
    change wpAny _ _ _ _ _ _ _ (World.drew _)
    refine wpAny_take (i := 0) (v := .pointer (some ⟨w.heap.size, 3, none⟩)) rfl (by kernel_rfl) (by kernel_rfl) (by kernel_rfl) (fun _ _ _ h => h) (Or.inl ⟨by rfl, fun w => by go_simp⟩) ?_
    refine wpAny_take (i := 2) (v := .pointer (some ⟨B, 0, none⟩)) rfl (by kernel_rfl) (by kernel_rfl) (by kernel_rfl) (fun _ _ _ h => h) (Or.inl ⟨by rfl, fun w => by go_simp⟩) ?_
    refine wpAny_take (i := 3) (v := .pointer (some ⟨w.heap.size, 4, none⟩)) rfl (by kernel_rfl) (by kernel_rfl) (by kernel_rfl) (fun _ _ _ h => h) (Or.inl ⟨by rfl, fun w => by go_simp⟩) ?_
    refine wpAny_ready (rs := [1, 4]) (by kernel_rfl) (by simp) ?_
    refine AllReady.cons rfl (fun K hK => ?_) (AllReady.cons rfl (fun K hK => ?_) AllReady.nil)
    · go_simp
      refine hK _ _ ?_; clear hK K
      refine wpAny_ready (rs := [4]) (by kernel_rfl) (by simp) ?_
      refine AllReady.cons rfl (fun K hK => ?_) AllReady.nil
      go_simp
      refine hK _ _ ?_; clear hK K
      refine wpAny_ready (rs := [5]) (by kernel_rfl) (by simp) ?_
      refine AllReady.cons rfl (fun K hK => ?_) AllReady.nil
      go_simp
      refine (unhide HTR _).mono ?_
      rintro e w1 ⟨hbt, rfl⟩
      exact ⟨rfl, hbt, Or.inr ⟨unhide HOF, rfl⟩⟩
    · go_simp
      refine hK _ _ ?_; clear hK K
      refine wpAny_ready (rs := [1, 5]) (by kernel_rfl) (by simp) ?_
      refine AllReady.cons rfl (fun K hK => ?_) (AllReady.cons rfl (fun K hK => ?_) AllReady.nil)
      · go_simp
        refine hK _ _ ?_; clear hK K
        refine wpAny_ready (rs := [5]) (by kernel_rfl) (by simp) ?_
        refine AllReady.cons rfl (fun K hK => ?_) AllReady.nil
        go_simp
        refine (unhide HTR _).mono ?_
        rintro e w1 ⟨hbt, rfl⟩
        exact ⟨rfl, hbt, Or.inr ⟨unhide HOF, rfl⟩⟩
      · go_simp
        refine (unhide HTR _).mono ?_
        rintro e w1 ⟨hbt, rfl⟩
        exact ⟨rfl, hbt, Or.inr ⟨unhide HOF, rfl⟩⟩
  | some q =>
    have htr : ∀ (x0 x1 x2 : Value), Calls Tryz.prog 115 #[.pointer (some ⟨B, 0, none⟩), .slice a t.kids.length cap] ((w.alloc (.cells #[x0, x1, x2, .slice a3 t.names.length cap3, .slice a t.kids.length cap] 26)).drew) fun e w' =>
        But B w w' ∧ w'.cell? ⟨w.heap.size, 3, none⟩ = some (.slice a3 t.names.length cap3) ∧ ∃ a' cap', e = .returned (.slice a' t.kids.length cap') ∧ SKids (fun b => P b ∨ (w.heap.size ≤ b ∧ b < w'.heap.size)) w' (.slice a' t.kids.length cap') t.kids ∧ Bnd w' B q l ∧ StrsAt P w' (.slice a3 t.names.length cap3) t.names ∧ (∀ b, P b → b < w'.heap.size) := fun x0 x1 x2 => (htrees _).mono fun e w' ⟨h1, h2⟩ => by
      rcases h2 with ⟨q', v, g1, g2, g3, g4⟩ | ⟨g1, _⟩
      · rw [hw] at g1
        simp only [Option.some.injEq] at g1
        subst g1
        have hb1 := (unhide HBD (.cells #[x0, x1, x2, .slice a3 t.names.length cap3, .slice a t.kids.length cap] 26)).trans h1
        obtain ⟨a', cap', hv, -⟩ := id g3
        subst hv
        refine ⟨hb1, ?_, a', cap', g2, g3, g4, (unhide HNS).carry (fun b hb => hb1.at (unhide HP b hb).1 (unhide HP b hb).2) (fun _ h => h), fun b hb => Nat.lt_of_lt_of_le (unhide HP b hb).1 hb1.size⟩
        rw [World.cell?_of_block (a := ⟨w.heap.size, 3, none⟩) (h1.at (b := w.heap.size) (by simp) (by omega))]
        simp [go_sem]
      · rw [hw] at g1; cases g1
    have HTR0 := hide htr
    clear htrees htr
    by_cases hyes : t.names.length = t.kids.length ∧ riseB t.names = true
    · have HOF : Hid (ofS t p l = some q) := by show _ = _; unfold ofS; rw [hw]; simp only; rw [if_pos (by rw [unhide HNB]; simpa using hyes)]
      have HYES := hide hyes
      have HTR := hide (unhide HTR0)
      clear hw hyes HTR0
      go_enter Tryz.func91, Tryz.ntmps91
      go_wp2_with fail
      go_region_with (first
        | (go_at_call 115; refine (unhide HTR _ _ _).mono ?_; rintro e w1 ⟨hbt, q3, a', cap', rfl, hk, hbnd, hS1, hP1⟩; have HBT := hide hbt; have HS1 := hide hS1; have HP1 := hide hP1; have HK := hide hk; have HBN := hide hbnd; clear hbt hS1 hP1 hk hbnd)
        | (go_at_call 102; refine (newForm_any _ t.names _ _ _ _ (P := P) (unhide HP1) (unhide HS1)).mono ?_; rintro e w2 ⟨hor, hb2⟩; obtain rfl := (hor.resolve_right (fun h => h.1 (unhide HYES))).2; clear hor))
      all_goals
        go_wp2_with fail
        go_ret
        have hs2 := hb2.size
        have hbt2 := unhide HBT
        have hcar : ∀ b, (P b ∨ (w.heap.size ≤ b ∧ b < w1.heap.size)) → b < w1.heap.size := fun b hb => by
          rcases hb with hb | hb
          · exact unhide HP1 b hb
          · exact hb.2
        refine ⟨hbt2.trans (But.of_below hb2), Or.inl ⟨q, _, unhide HOF, rfl, srep5 hs (((unhide HS1).carry (fun _ _ => rfl) (fun b hb => Or.inl hb)).carry (P := fun b => P b ∨ (w.heap.size ≤ b ∧ b < w1.heap.size)) (fun b hb => hb2.block b (hcar b hb)) (fun b hb => hb.imp id (fun hb => ⟨hb.1, by omega⟩))) ((unhide HK).carry (fun b hb => hb2.block b (hcar b hb)) (fun b hb => hb.imp id (fun hb => ⟨hb.1, by omega⟩))), (unhide HBN).below hb2⟩⟩
    · have HOF : Hid (ofS t p l = none) := by show _ = _; unfold ofS; rw [hw]; simp only; rw [if_neg (by rw [unhide HNB]; simpa using hyes)]
      have HNO := hide hyes
      have HTR : Hid (∀ (x : Value × Value × Value), _) := hide fun x => unhide HTR0 x.1 x.2.1 x.2.2
      clear hw hyes HTR0
      go_enter Tryz.func91, Tryz.ntmps91
      go_wp2_with fail
      refine wp_region_any (by kernel_rfl) ?_
      change wpAny _ _ _ _ _ _ _ (World.drew _)
      refine wpAny_take (i := 0) (v := .pointer (some ⟨w.heap.size, 3, none⟩)) rfl (by kernel_rfl) (by kernel_rfl) (by kernel_rfl) (fun _ _ _ h => h) (Or.inl ⟨by rfl, fun w => by go_simp⟩) ?_
      refine wpAny_take (i := 2) (v := .pointer (some ⟨B, 0, none⟩)) rfl (by kernel_rfl) (by kernel_rfl) (by kernel_rfl) (fun _ _ _ h => h) (Or.inl ⟨by rfl, fun w => by go_simp⟩) ?_
      refine wpAny_take (i := 3) (v := .pointer (some ⟨w.heap.size, 4, none⟩)) rfl (by kernel_rfl) (by kernel_rfl) (by kernel_rfl) (fun _ _ _ h => h) (Or.inl ⟨by rfl, fun w => by go_simp⟩) ?_
      refine wpAny_ready (rs := [1, 4]) (by kernel_rfl) (by simp) ?_
      refine AllReady.cons rfl (fun K hK => ?_) (AllReady.cons rfl (fun K hK => ?_) AllReady.nil)
      · go_simp
        refine hK _ _ ?_; clear hK K
        refine wpAny_ready (rs := [4]) (by kernel_rfl) (by simp) ?_
        refine AllReady.cons rfl (fun K hK => ?_) AllReady.nil
        go_simp
        refine hK _ _ ?_; clear hK K
        refine wpAny_ready (rs := [5]) (by kernel_rfl) (by simp) ?_
        refine AllReady.cons rfl (fun K hK => ?_) AllReady.nil
        go_simp
        refine (unhide HTR (_, _, _)).mono ?_
        rintro e w1 ⟨hbt, q3, a', cap', rfl, hk, hbnd, hS1, hP1⟩
        have HBT := hide hbt; have HS1 := hide hS1; have HP1 := hide hP1
        clear hbt hS1 hP1 hk hbnd
        dsimp only
        refine hK _ _ ?_; clear hK K
        refine wpAny_ready (rs := [6]) (by kernel_rfl) (by simp) ?_
        refine AllReady.cons rfl (fun K hK => ?_) AllReady.nil
        go_simp
        refine (newForm_any _ t.names _ _ _ _ (P := P) (unhide HP1) (unhide HS1)).mono ?_
        rintro e w2 ⟨⟨hyes, _⟩ | ⟨_, rfl⟩, hb2⟩
        · exact absurd hyes (unhide HNO)
        · exact ⟨rfl, (unhide HBT).trans (But.of_below hb2), Or.inr ⟨unhide HOF, rfl⟩⟩
      · go_simp
        refine hK _ _ ?_; clear hK K
        refine wpAny_ready (rs := [1, 5]) (by kernel_rfl) (by simp) ?_
        refine AllReady.cons rfl (fun K hK => ?_) (AllReady.cons rfl (fun K hK => ?_) AllReady.nil)
        · go_simp
          refine hK _ _ ?_; clear hK K
          refine wpAny_ready (rs := [5]) (by kernel_rfl) (by simp) ?_
          refine AllReady.cons rfl (fun K hK => ?_) AllReady.nil
          go_simp
          refine (unhide HTR (_, _, _)).mono ?_
          rintro e w1 ⟨hbt, q3, a', cap', rfl, hk, hbnd, hS1, hP1⟩
          have HBT := hide hbt; have HS1 := hide hS1; have HP1 := hide hP1
          clear hbt hS1 hP1 hk hbnd
          dsimp only
          refine hK _ _ ?_; clear hK K
          refine wpAny_ready (rs := [6]) (by kernel_rfl) (by simp) ?_
          refine AllReady.cons rfl (fun K hK => ?_) AllReady.nil
          go_simp
          refine (newForm_any _ t.names _ _ _ _ (P := P) (unhide HP1) (unhide HS1)).mono ?_
          rintro e w2 ⟨⟨hyes, _⟩ | ⟨_, rfl⟩, hb2⟩
          · exact absurd hyes (unhide HNO)
          · exact ⟨rfl, (unhide HBT).trans (But.of_below hb2), Or.inr ⟨unhide HOF, rfl⟩⟩
        · go_simp
          refine (unhide HTR (_, _, _)).mono ?_
          rintro e w1 ⟨hbt, q3, a', cap', rfl, hk, hbnd, hS1, hP1⟩
          have HBT := hide hbt; have HS1 := hide hS1; have HP1 := hide hP1
          clear hbt hS1 hP1 hk hbnd
          dsimp only
          refine hK _ _ ?_; clear hK K
          refine wpAny_ready (rs := [1]) (by kernel_rfl) (by simp) ?_
          refine AllReady.cons rfl (fun K hK => ?_) AllReady.nil
          go_simp
          refine hK _ _ ?_; clear hK K
          refine wpAny_ready (rs := [6]) (by kernel_rfl) (by simp) ?_
          refine AllReady.cons rfl (fun K hK => ?_) AllReady.nil
          go_simp
          refine (newForm_any _ t.names _ _ _ _ (P := P) (unhide HP1) (unhide HS1)).mono ?_
          rintro e w2 ⟨⟨hyes, _⟩ | ⟨_, rfl⟩, hb2⟩
          · exact absurd hyes (unhide HNO)
          · exact ⟨rfl, (unhide HBT).trans (But.of_below hb2), Or.inr ⟨unhide HOF, rfl⟩⟩

end Go.Proofs.YtgamonfmgngilaaGreatDoor
