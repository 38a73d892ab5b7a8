/- The walks of the program's sorter: trees, ofItsSort, tree: what they answer, or that they raise a fault. The table treeFields is as the program lays it. -/
import Derived.Test.YtiflfcjocngiiaaGreatDoorPart12
import Derived.Deep.RegionWith
import Derived.Test.YtiflfcjocngiiaaGreatDoorPart03
namespace Go.Proofs.YtiflfcjocngiiaaGreatDoor
open Go Go.RowKit

theorem infoSorted : (Tryz.prog.info? 101).map (fun i => (i.zero, i.size, i.bytes)) = some (some .nilIface, 1, 16) := by kernel_rfl

def TreeSaid (n : Nat) : Prop := ∀ (t : Tr), tsz t < n → ∀ (P : Nat → Prop) (c : C5) (w : World) (B : Nat) (p l : Int), (∀ b, P b → b < w.heap.size ∧ b ≠ B) → Rep P w t c → Bnd w B p l → Tab w → 0 < B → 0 ≤ p → p ≤ 120 → 0 ≤ l → l ≤ 6 →
    Calls Tryz.prog 82 #[.pointer (some ⟨B, 0, none⟩), .agg #[c.c0, c.c1, c.c2, c.c3, c.c4]] w fun e w' => But B w w' ∧
      ((∃ q v, wlk t p l = some q ∧ e = .returned v ∧ SRep (fun b => P b ∨ (w.heap.size ≤ b ∧ b < w'.heap.size)) w' t v ∧ Bnd w' B q l) ∨ (wlk t p l = none ∧ e = fltE))

set_option maxHeartbeats 800000 in
theorem trees_any (n : Nat) (IH : TreeSaid n) (t : Tr) (hn : tsz t ≤ n) (P : Nat → Prop) (a : Option Addr) (cap : Nat) (w : World) (B : Nat) (p l : Int) (hP : ∀ b, P b → b < w.heap.size ∧ b ≠ B)
    (hlen : t.kids.length ≤ 9223372036854775807)
    (hc : ∀ i, (hi : i < t.kids.length) → ∃ b o c, a = some ⟨b, o, none⟩ ∧ P b ∧ C5.at w b (o + i * 5) c ∧ Rep P w t.kids[i] c)
    (hB : Bnd w B p l) (hT : Tab w) (hB0 : 0 < B) (hp0 : 0 ≤ p) (hp1 : p ≤ 120) (hl0 : 0 ≤ l) (hl1 : l ≤ 6) :
    Calls Tryz.prog 96 #[.pointer (some ⟨B, 0, none⟩), .slice a t.kids.length cap] w fun e w' => But B w w' ∧
      ((∃ q v, wlkK t.kids p l = some q ∧ e = .returned v ∧ SKids (fun b => P b ∨ (w.heap.size ≤ b ∧ b < w'.heap.size)) w' v t.kids ∧ Bnd w' B q l) ∨ (wlkK t.kids p l = none ∧ e = fltE)) := by
  have hBw := hB.lt
  obtain ⟨i0, hi, hz0, hz1, hz2⟩ := info_parts infoSorted
  generalize hks : t.kids = ks at *
  have HK := hide hks; clear hks
  have HC := hide hc; clear hc
  have HP := hide hP; clear hP
  have HI := hide IH; clear IH
  have HT := hide hT; clear hT
  have HB := hide hB; clear hB
  have HIF := hide (And.intro hi (And.intro hz0 (And.intro hz1 hz2))); clear hi hz0 hz1 hz2
  go_enter Tryz.func96, Tryz.ntmps96
  go_wp2_with fail
  go_loopw [5, 10] (fun s i wr => ∃ (k : Nat) (q : Int) (a' : Option Addr) (cap' : Nat), k ≤ ks.length ∧ i = .int .i64 k ∧ s = .slice a' k cap' ∧ 0 ≤ q ∧ q ≤ 120 ∧ Hid (wlkK (ks.drop k) q l = wlkK ks p l) ∧ Hid (Got P w wr s ks k) ∧ Hid (Bnd wr B q l) ∧ Hid (But B w wr) ∧ (k : Int) ≤ q) (fun _ i _ => ks.length - (intOf i).toNat)
  case atStart => exact ⟨0, p, none, 0, Nat.zero_le _, rfl, rfl, hp0, hp1, rfl, hide (Got.start P w ks), HB, hide (But.refl B w), by simpa using hp0⟩
  case round =>
    obtain ⟨k, q, a', cap', hk, rfl, rfl, hq0, hq1, HQ, HG, HBQ, HBT, hkq⟩ := hrel
    by_cases hlt : k < ks.length
    · obtain ⟨b, o, c, rfl, hpb, hcell, hrep⟩ := unhide HC k hlt
      have hsw := HBT.out.size
      have hcell' := hcell.carry (HBT.out.at (unhide HP b hpb).1 (unhide HP b hpb).2)
      obtain ⟨c0, c1, c2, c3, c4⟩ := c
      obtain ⟨e0, e1, e2, e3, e4⟩ := hcell'
      simp only at e0 e1 e2 e3 e4
      have HR := hide hrep; clear hrep hcell hpb
      have hmem : ks[k] ∈ t.kids := by rw [unhide HK]; exact List.getElem_mem hlt
      have hsm : tsz ks[k] < n := by have := tsz_kid hmem; omega
      clear hmem
      have hrw : Rep P wr ks[k] ⟨c0, c1, c2, c3, c4⟩ := Rep.carry (fun b hb => HBT.out.at (unhide HP b hb).1 (unhide HP b hb).2) (fun _ h => h) _ _ (unhide HR)
      have hcall : ∀ o, Calls Tryz.prog 82 #[.pointer (some ⟨B, 0, none⟩), .agg #[c0, c1, c2, c3, c4]] (wr.alloc o) fun e w' => But B (wr.alloc o) w' ∧
          ((∃ q' v, wlk ks[k] q l = some q' ∧ e = .returned v ∧ SRep (fun b => P b ∨ ((wr.alloc o).heap.size ≤ b ∧ b < w'.heap.size)) w' ks[k] v ∧ Bnd w' B q' l) ∨ (wlk ks[k] q l = none ∧ e = fltE)) := fun o =>
        unhide HI ks[k] hsm P ⟨c0, c1, c2, c3, c4⟩ (wr.alloc o) B q l (fun b hb => ⟨by have := (unhide HP b hb).1; simp; omega, (unhide HP b hb).2⟩) (Rep.carry (fun b hb => Below.heap_alloc _ _ _ (by have := (unhide HP b hb).1; omega)) (fun _ h => h) _ _ hrw) (HBQ.out.alloc o) ((unhide HT).but (HBT.out.trans (But.alloc B wr o)) hB0) hB0 hq0 hq1 hl0 hl1
      have HCALL := hide hcall
      obtain ⟨g0, g1, g2, -, -, -, ⟨a3, cap3, g3, -⟩, a4, cap4, g4, -⟩ := hrw.open
      simp only at g0 g1 g2 g3 g4
      subst g0 g1 g2 g3 g4
      clear hcall hrw HR
      have HST := hide (wlkK_step hlt q l)
      go_wp2_with fail
      refine (unhide HCALL _).mono ?_
      rintro e w2 ⟨hbt, ⟨q', v, hwl, rfl, hsr, hbnd⟩ | ⟨hwl, rfl⟩⟩
      · have hst := unhide HST
        rw [hwl] at hst
        simp only at hst
        have hbd := wlk_bd _ _ _ _ hq0 hq1 hwl
        have hfin : wlkK (ks.drop (k + 1)) q' l = wlkK ks p l := by rw [← HQ.out, hst]
        have HFIN := hide hfin
        have hbt1 := (But.alloc B wr _).trans hbt
        have hg0 := HG.out
        have hg2 := hg0.kept (unhide HP) hBw hsw hbt1
        obtain ⟨xs0, hown0, -⟩ := hg0
        obtain ⟨xs, hown, hx⟩ := hg2
        have hnew : SRep (fun b => P b ∨ (w.heap.size ≤ b ∧ b < w2.heap.size ∧ some b ≠ (Value.slice a' k cap').ownBlock)) w2 ks[k] v := by
          refine SRep.carry (fun _ _ => rfl) (fun b hb => ?_) _ _ hsr
          rcases hb with hb | ⟨hb1, hb2⟩
          · exact Or.inl hb
          · have hb1' : wr.heap.size + 1 ≤ b := by simpa using hb1
            exact Or.inr ⟨by omega, hb2, fun e => by have := (hown0.lt b e.symm).2; omega⟩
        obtain ⟨T, x, rfl⟩ := hsr.iface
        have hbt2 := HBT.out.trans hbt1
        have hs2 := hbt2.size
        have HBT2 := hide hbt2; have HX := hide hx; have HNEW := hide hnew; have HOWN := hide hown; have HBN := hide hbnd
        obtain ⟨hi, hz0, hz1, hz2⟩ := unhide HIF
        clear hfin hst hwl hbt hbt1 hbt2 hown0 hx hnew hsr hbnd hown e0 e1 e2 e3 e4 HCALL HST HBQ
        have HII := hide hi; have HZ0 := hide hz0; have HZ1 := hide hz1; have HZ2 := hide hz2
        clear hi hz0 hz1 hz2
        go_wp2_with (at_builtin; refine append_row _ rfl _ _ 126 rfl w.heap.size 101 i0 .nilIface 1 16 Tryz.underlying126 (unhide HII) (unhide HZ0) (unhide HZ1) (unhide HZ2) rfl (by decide) (.slice a' k cap') k xs rfl ((unhide HOWN).alloc _) ⟨w2.heap.size, 0, none⟩ 1 1 [.iface T x] rfl rfl (cell_one _ _ _) (fun u hu => by simp at hu; subst hu; rfl) (by decide) (by unfold maxLen; omega) (by omega) (by simp; omega) ?_; intro v' w4 hown' hgrow hv')
        have hown2 := unhide HOWN
        obtain ⟨g', cap'', hv''⟩ : ∃ g' cap'', v' = .slice (some ⟨g', 0, none⟩) (k + 1) cap'' := by
          rcases hown'.2 with ⟨_, h⟩ | ⟨g', cap'', _, h, _⟩
          · omega
          · exact ⟨g', cap'', h⟩
        have hb3 : Below w2.heap.size w2 (w2.alloc (.cells #[.iface T x] 101)) := (Below.refl _ _).alloc (Nat.le_refl _) _
        have hgot := Got.push (unhide HP) hlt hs2 hown2 (unhide HX) (unhide HNEW) hb3 hown' hgrow hv'
        have hs3 := hb3.size
        have hs4 := hgrow.size
        have hbnd4 : Bnd w4 B q' l := by
          refine (unhide HBN).of_block ?_
          rw [hgrow.block B (by omega) (fun e => by have := (hown2.lt B e.symm).1; omega), hb3.block B (by omega)]
        have hbut4 : But B w w4 := by
          have h2 := unhide HBT2
          refine ⟨hgrow.os.trans (hb3.os.trans h2.os), hgrow.tape.trans (hb3.tape.trans h2.tape), hgrow.output.trans (hb3.output.trans h2.output), by omega, fun i hi hne => ?_⟩
          rw [hgrow.block i (by omega) (fun e => by have := (hown2.lt i e.symm).1; omega), hb3.block i (by omega), h2.block i hi hne]
        clear hown2
        go_roundw
        case rel => exact ⟨k + 1, q', some ⟨g', 0, none⟩, cap'', by omega, by go_num, hv'', by omega, hbd.2, HFIN, hgot, hbnd4, hbut4, by omega⟩
        case measure => simp [intOf]; omega
      · have hfin : wlkK ks p l = none := by rw [← HQ.out, unhide HST, hwl]
        have HFIN := hide hfin
        have hbt2 := HBT.out.trans ((But.alloc B wr _).trans hbt)
        have HBT2 := hide hbt2
        clear hfin hbt hwl hbt2
        go_wp2_with fail
        exact ⟨rfl, unhide HBT2, Or.inr ⟨unhide HFIN, rfl⟩⟩
    · go_wp2_with fail
      go_ret
      obtain rfl : k = ks.length := by omega
      refine ⟨HBT.out, Or.inl ⟨q, _, ?_, rfl, HG.out.done, HBQ.out⟩⟩
      rw [← HQ.out, List.drop_of_length_le (Nat.le_refl _), wlkK]
end Go.Proofs.YtiflfcjocngiiaaGreatDoor

/- The walk of the program's newFlagTree: what it answers, or that it raises a fault. No conditions. -/

namespace Go.Proofs.YtiflfcjocngiiaaGreatDoor
open Go Go.RowKit

set_option maxHeartbeats 400000 in
theorem newFlag_yes (n : Int) (w : World) (h : 0 ≤ n ∧ n ≤ 1) : Calls Tryz.prog 94 #[.int .i64 n] w fun e w' => e = .returned (.bool (n == 1)) ∧ w' = w := by
  have h' : n = 0 ∨ n = 1 := by omega
  clear h
  rcases h' with rfl | rfl
  · go_enter Tryz.func94, Tryz.ntmps94
    go_wp2_with (go_at_call 32; refine (treeWant_yes _).mono ?_; rintro e w' ⟨rfl, rfl⟩)
    go_ret
    exact ⟨rfl, rfl⟩
  · go_enter Tryz.func94, Tryz.ntmps94
    go_wp2_with (go_at_call 32; refine (treeWant_yes _).mono ?_; rintro e w' ⟨rfl, rfl⟩)
    go_ret
    exact ⟨rfl, rfl⟩

set_option maxHeartbeats 400000 in
theorem newFlag_no (n : Int) (w : World) (h : ¬ (0 ≤ n ∧ n ≤ 1)) : Calls Tryz.prog 94 #[.int .i64 n] w fun e w' => e = fltE ∧ w' = w := by
  have h0 : (n == 0) = false := by simp; omega
  have h1 : (n == 1) = false := by simp; omega
  clear h
  go_enter Tryz.func94, Tryz.ntmps94
  go_wp2_with (go_at_call 32; refine (treeWant_no _).mono ?_; rintro e w' ⟨rfl, rfl⟩)
  exact ⟨rfl, rfl, rfl⟩
end Go.Proofs.YtiflfcjocngiiaaGreatDoor
