/- The walk of the specification's l2First: the first tree of a schema all of whose parts are ok, in blocks of its own. Of what was there nothing has turned. -/
import Derived.Test.YthkjhmcbmakkdaaDoorPart16
import Derived.Test.YthkjhmcbmakkdaaDoorPart12
import Derived.Test.YthkjhmcbmakkdaaDoorRows
import Derived.Deep.RegionLaw
import Derived.Deep.AppendLies
import Derived.Deep.CutRange
namespace Go.Proofs.YthkjhmcbmakkdaaDoor
open Go Go.RowKit

theorem infoTreeS : (Tryd.prog.info? 37).map (fun i => (i.zero, i.size, i.bytes)) = some (some (.agg #[.int .i64 0, .int .i64 0, .string ByteArray.empty, .slice none 0 0, .slice none 0 0]), 5, 80) := by kernel_rfl
theorem infoStrS : (Tryd.prog.info? 9).map (fun i => (i.zero, i.size, i.bytes)) = some (some (.string ByteArray.empty), 1, 16) := by kernel_rfl

theorem heap_set5s (w : World) (b : Nat) (c0 c1 c2 c3 c4 : Value) (k : Nat) (h : k ≠ b) :
    (((((w.setCell ⟨b, 0, none⟩ c0).setCell ⟨b, 1, none⟩ c1).setCell ⟨b, 2, none⟩ c2).setCell ⟨b, 3, none⟩ c3).setCell ⟨b, 4, none⟩ c4).heap[k]? = w.heap[k]? := by
  rw [Below.heap_setCell _ _ _ _ h, Below.heap_setCell _ _ _ _ h, Below.heap_setCell _ _ _ _ h, Below.heap_setCell _ _ _ _ h, Below.heap_setCell _ _ _ _ h]
theorem size_set5s (w : World) (b : Nat) (c0 c1 c2 c3 c4 : Value) :
    (((((w.setCell ⟨b, 0, none⟩ c0).setCell ⟨b, 1, none⟩ c1).setCell ⟨b, 2, none⟩ c2).setCell ⟨b, 3, none⟩ c3).setCell ⟨b, 4, none⟩ c4).heap.size = w.heap.size := by simp [World.setCell]
theorem below_set5s {B : Nat} {a w : World} (h : Below B a w) (b : Nat) (c0 c1 c2 c3 c4 : Value) (hb : B ≤ b) :
    Below B a (((((w.setCell ⟨b, 0, none⟩ c0).setCell ⟨b, 1, none⟩ c1).setCell ⟨b, 2, none⟩ c2).setCell ⟨b, 3, none⟩ c3).setCell ⟨b, 4, none⟩ c4) :=
  ((((h.setCell hb _).setCell hb _).setCell hb _).setCell hb _).setCell hb _

def SFSaid (n : Nat) : Prop := ∀ (t : Kd), ksz t < n → ∀ (P : Nat → Prop) (c : C3) (w : World), (∀ b, P b → b < w.heap.size) → KRep P w t c → okD t = true → ksz t ≤ 1000000 →
    Calls Tryd.prog 36 #[.agg #[c.c0, c.c1, c.c2]] w fun e w' => ∃ d F, e = .returned (.agg #[d.c0, d.c1, d.c2, d.c3, d.c4]) ∧ Own w' (fT t) d F ∧ F.Nodup ∧ (∀ b, b ∈ F → w.heap.size ≤ b ∧ b < w'.heap.size) ∧ Below w.heap.size w w'

set_option maxRecDepth 100000 in
set_option maxHeartbeats 3200000 in
theorem l2First_step (n : Nat) (IH : SFSaid n) : SFSaid (n + 1) := by
  intro t hn P c w hP hrep ho hsz
  rw [okD_eq, Bool.and_eq_true] at ho
  have hks1 : t.kids.length ≤ 1000000 := by
    have h1 : t.kids.length ≤ klsz t.kids := by
      have : ∀ l : List Kd, l.length ≤ klsz l := by
        intro l
        induction l with
        | nil => simp
        | cons a r ih =>
          rw [klsz, List.length_cons]
          have : 1 ≤ ksz a := by obtain ⟨s, ns, ks⟩ := a; rw [ksz]; omega
          omega
      exact this _
    have e : ksz t = 1 + klsz t.kids := by obtain ⟨s, ns, ks⟩ := t; rw [ksz]; rfl
    omega
  have hfin : (t.names.length = t.kids.length ∧ fT t = .mk t.sort 0 ByteArray.empty t.names (fTs t.kids) ∧ riseB t.names = true) ∨ (t.names = [] ∧ fT t = .mk t.sort 0 ByteArray.empty [] []) := by
    rcases shB_cases ho.1 with ⟨h, -, h2⟩ | ⟨h, -, h2⟩ | ⟨h, h2, h3⟩
    · exact Or.inr ⟨List.eq_nil_of_length_eq_zero h2, fT_else (by omega)⟩
    · exact Or.inr ⟨List.eq_nil_of_length_eq_zero h2, fT_else (by omega)⟩
    · exact Or.inl ⟨h2.symm, by rw [fT_form h, h], h3⟩
  have hnk : t.names.length ≤ t.kids.length := by rcases hfin with ⟨h, -⟩ | ⟨h, -⟩ <;> simp [h]
  have hns8 : ∀ x, x ∈ t.names → x.size ≤ 9223372036854775807 := by
    rcases hfin with ⟨-, -, h⟩ | ⟨h, -⟩
    · intro x hx
      obtain ⟨i, hi, rfl⟩ := List.getElem_of_mem hx
      have := rise_size h i hi
      omega
    · rw [h]; intro x hx; simp at hx
  obtain ⟨c0, c1, c2⟩ := c
  obtain ⟨e0, hi0, hns, a, cap, e2, -, hks⟩ := hrep.open
  simp only at e0 e2 hns
  obtain ⟨a3, cap3, e1, -, hnc⟩ := hns
  subst e0 e1 e2
  obtain ⟨i0, hi, hz0, hz1, hz2⟩ := info_parts infoTreeS
  obtain ⟨j0, hj, hy0, hy1, hy2⟩ := info_parts infoStrS
  have HP := hide hP; have HI := hide IH; have HK := hide hks; have HOK := hide ho.2; have HNC := hide hnc; have HFIN := hide hfin; have HNS8 := hide hns8; have HI0 := hide hi0
  have HII := hide hi; have HZ0 := hide hz0; have HZ1 := hide hz1; have HZ2 := hide hz2
  have HJJ := hide hj; have HY0 := hide hy0; have HY1 := hide hy1; have HY2 := hide hy2
  clear hP IH hks ho hi hz0 hz1 hz2 hj hy0 hy1 hy2 hrep hnc hfin hns8 hi0
  go_enter Tryd.func36, Tryd.ntmps36
  go_wp2_with fail
  obtain ⟨W0, hW0⟩ : ∃ W0, (((w.alloc (.cells #[.int .i64 t.sort, .slice a3 t.names.length cap3, .slice a t.kids.length cap] 26)).alloc (.cells #[.int .i64 0, .int .i64 0, .string ⟨#[]⟩, .slice none 0 0, .slice none 0 0] 37)).alloc (.cells #[.int .i64 t.sort, .int .i64 0, .string ⟨#[]⟩, .slice none 0 0, .slice none 0 0] 37)) = W0 := ⟨_, rfl⟩
  have hs0 : W0.heap.size = w.heap.size + 3 := by rw [← hW0]; simp
  have hbl : Below w.heap.size w W0 := by rw [← hW0]; exact (((Below.refl _ _).alloc (Nat.le_refl _) _).alloc (by simp) _).alloc (by simp; omega) _
  have hr0 : W0.rowIs w.heap.size 26 3 (row3 (.int .i64 t.sort) (.slice a3 t.names.length cap3) (.slice a t.kids.length cap)) := by rw [← hW0]; exact ((row3_alloc w _ _ _ _).alloc _).alloc _
  have hr1 : W0.rowIs (w.heap.size + 1) 37 5 (row5 (.int .i64 0) (.int .i64 0) (.string ⟨#[]⟩) (.slice none 0 0) (.slice none 0 0)) := by
    rw [← hW0]
    have q := row5_alloc (w.alloc (.cells #[.int .i64 t.sort, .slice a3 t.names.length cap3, .slice a t.kids.length cap] 26)) (.int .i64 0) (.int .i64 0) (.string ⟨#[]⟩) (.slice none 0 0) (.slice none 0 0) 37
    rw [World.size_alloc] at q
    exact q.alloc _
  have hr2 : W0.rowIs (w.heap.size + 2) 37 5 (row5 (.int .i64 t.sort) (.int .i64 0) (.string ⟨#[]⟩) (.slice none 0 0) (.slice none 0 0)) := by
    rw [← hW0]
    have q := row5_alloc ((w.alloc (.cells #[.int .i64 t.sort, .slice a3 t.names.length cap3, .slice a t.kids.length cap] 26)).alloc (.cells #[.int .i64 0, .int .i64 0, .string ⟨#[]⟩, .slice none 0 0, .slice none 0 0] 37)) (.int .i64 t.sort) (.int .i64 0) (.string ⟨#[]⟩) (.slice none 0 0) (.slice none 0 0) 37
    rw [World.size_alloc, World.size_alloc] at q
    exact q
  rw [hW0]
  have HBL := hide hbl; have HR0 := hide hr0; have HR1 := hide hr1
  have hinv : SInv (w.heap.size + 3) (w.heap.size + 2) W0 t.sort (.slice none 0 0) (.slice none 0 0) [] [] [] [] :=
    ⟨by omega, hr2, World.ownsRow_nil _ _ _ _, GotO.start _ _, fun b hb => by simp [Value.ownBlock] at hb, by omega⟩
  have HINV := hide hinv
  clear hW0 hbl hr0 hr1 hr2 hinv
  go_loopw [4] (fun i wr => ∃ (k : Nat) (aN : Option Addr) (capN : Nat) (aK : Option Addr) (capK : Nat) (xs : List Value) (G : List Nat), k ≤ t.names.length ∧ i = .int .i64 k ∧ Hid (SInv (w.heap.size + 3) (w.heap.size + 2) wr t.sort (.slice aN k capN) (.slice aK k capK) (t.names.take k) ((t.kids.take k).map fT) xs G) ∧ Hid (Below (w.heap.size + 2) W0 wr)) (fun i _ => t.names.length - (intOf i).toNat)
  case atStart => exact ⟨0, none, 0, none, 0, [], [], Nat.zero_le _, rfl, unhide HINV, Below.refl _ _⟩
  case round =>
    obtain ⟨k, aN, capN, aK, capK, xs, G, hk, rfl, HS, HB⟩ := hrel
    have hsw := HB.out.size
    have hbw : Below w.heap.size w wr := (unhide HBL).trans (HB.out.mono (by omega))
    have q0 := (unhide HR0).of_block (HB.out.block w.heap.size (by omega))
    have k1 := q0.cell (i := 1) (by omega); have k2 := q0.cell (i := 2) (by omega)
    have k0 := q0.cell (i := 0) (by omega)
    have t3 := HS.out.cells.cell (i := 3) (by omega); have t4 := HS.out.cells.cell (i := 4) (by omega)
    simp only [row3, row5] at k0 k1 k2 t3 t4
    have HBW := hide hbw; clear hbw q0
    by_cases hlt : k < t.names.length
    · obtain ⟨nb, no, rfl, hpn, hcn, -⟩ := unhide HNC k hlt
      have en : wr.cell? ⟨nb, no + k, none⟩ = some (.string t.names[k]) := by rw [(unhide HBW).cell (unhide HP nb hpn)]; exact hcn
      have htn : t.names.take (k + 1) = t.names.take k ++ [t.names[k]] := List.take_succ_eq_append_getElem hlt
      have hln : (t.names.take k).length = k := by simp; omega
      generalize t.names[k] = nm at *
      have HTN := hide htn; have HLN := hide hln
      have HSD : Hid (SInv (w.heap.size + 3) (w.heap.size + 2) wr.drew t.sort (.slice aN k capN) (.slice aK k capK) (t.names.take k) ((t.kids.take k).map fT) xs G) := HS.out.kept ⟨rfl, rfl, rfl, Nat.le_refl _, fun _ _ _ => rfl⟩
      have t3a : ∀ ob, (wr.alloc ob).cell? ⟨w.heap.size + 2, 3, none⟩ = some (.slice aN k capN) := fun ob => ((HS.out.cells.alloc ob).cell (i := 3) (by omega))
      clear hpn hcn htn hln
      go_upto_region 5 with fail
      go_cut [] from 8 to 35 (fun wx => ∃ g1 cap1, Hid (SInv (w.heap.size + 3) (w.heap.size + 2) wx t.sort (.slice (some ⟨g1, 0, none⟩) (k + 1) cap1) (.slice aK k capK) (t.names.take (k + 1)) ((t.kids.take k).map fT) xs G) ∧ Hid (Below (w.heap.size + 2) W0 wx))
      case first =>
        go_region_law ((refine step_append_lies _ (by rfl) _ _ _ (by rfl) (w.heap.size + 3) 9 j0 (.string ByteArray.empty) 1 16 Tryd.underlying23 (unhide HJJ) (unhide HY0) (unhide HY1) (unhide HY2) rfl (by decide) (.slice aN k capN) k ((t.names.take k).map Value.string) (by rfl) (by have := HSD.out.names; rw [unhide HLN] at this; exact this.alloc _) ⟨wr.heap.size, 0, none⟩ 1 1 [.string nm] (by rfl) (by rfl) (cell_one wr.drew _ _) (fun u hu => by simp at hu; subst hu; rfl) (by decide) (by unfold maxLen; omega) (by omega) (by simp; omega) (wr.heap.size + 1) (by simp) ?_; intro g1 cap1 w4 hown4 hgrow4 hat4 hlt4; have u3 := (SInv.atN HSD.out hgrow4).cell (i := 3) (by omega); have uz := (SInv.atN HSD.out hgrow4).frozen 3; simp only [row5] at u3))
        all_goals
          have hz : ∀ o, (wr.drew.alloc o).heap.size = wr.heap.size + 1 := fun o => by rw [World.size_alloc]; rfl
          have hinv5 := SInv.name (HSD.out.kept (World.grownBy_alloc wr.drew (.cells #[.string nm] 9) none)) (by rw [unhide HLN]; exact hown4) hgrow4 (hat4.elim (fun e => Or.inl (by rw [e]; rfl)) (fun e => Or.inr ⟨g1, rfl, by rw [hz, e]; exact Nat.le_refl _⟩))
          rw [← unhide HTN] at hinv5
          have hb4 : Below (w.heap.size + 2) wr (w4.setCell ⟨w.heap.size + 2, 3, none⟩ (.slice (some ⟨g1, 0, none⟩) (k + 1) cap1)) :=
            ((((Below.refl (w.heap.size + 2) wr).drew).alloc (by have := HS.out.size; show _ ≤ wr.heap.size; omega) (.cells #[.string nm] 9)).grown hgrow4 (show w.heap.size + 2 ≤ (wr.drew.alloc (.cells #[.string nm] 9)).heap.size from by rw [hz]; have := HS.out.size; omega) (fun b e => by have := (HSD.out.names.lt b e).1; omega)).setCell (by simp) _
          have HI5 := hide hinv5; have HB4 := hide (HB.out.trans hb4)
          clear hinv5 hb4 hown4 hgrow4 hat4 hlt4 uz u3
          go_wp2_with fail
          go_meet
          exact ⟨g1, cap1, unhide HI5, unhide HB4⟩
      case rest =>
        obtain ⟨g1, cap1, HS5, HB5⟩ := hcut
        clear HSD HS HB t3 t4 t3a k0 k1 k2 en HBW
        have hlk : k < t.kids.length := by omega
        have hs5 := (unhide HB5).size
        have hbwc : Below w.heap.size w wc := (unhide HBL).trans ((unhide HB5).mono (by omega))
        obtain ⟨b, o, c, rfl, hpb, hcell, hrp⟩ := unhide HK k hlk
        have hcell' := hcell.carry (hbwc.block b (unhide HP b hpb))
        obtain ⟨d0, d1, d2⟩ := c
        have hrw : KRep P wc.drew t.kids[k] ⟨d0, d1, d2⟩ := KRep.carry (w' := wc.drew) (fun b hb => hbwc.drew.block b (unhide HP b hb)) (fun _ h => h) _ _ hrp
        obtain ⟨p0, -, ⟨a5, cap5, p1, -⟩, a6, cap6, p2, -⟩ := hrp.open
        simp only at p0 p1 p2
        subst p0 p1 p2
        obtain ⟨f0, f1, f2⟩ := hcell'
        simp only at f0 f1 f2
        have hsm : ksz t.kids[k] < n := by have := ksz_kid (List.getElem_mem hlk); omega
        have hsm' : ksz t.kids[k] < ksz t := ksz_kid (List.getElem_mem hlk)
        have q0 := (unhide HR0).of_block ((unhide HB5).block w.heap.size (by omega))
        have k2 := q0.cell (i := 2) (by omega)
        have t4 := (unhide HS5).cells.cell (i := 4) (by omega)
        simp only [row3, row5] at k2 t4
        have htk : (t.kids.take (k + 1)).map fT = (t.kids.take k).map fT ++ [fT t.kids[k]] := by
          rw [List.take_succ_eq_append_getElem hlk, List.map_append]; rfl
        have hlkl : ((t.kids.take k).map fT).length = k := by simp; omega
        have hcall : Calls Tryd.prog 36 #[.agg #[.int .i64 t.kids[k].sort, .slice a5 t.kids[k].names.length cap5, .slice a6 t.kids[k].kids.length cap6]] wc.drew fun e w6 => ∃ e0 e1 e2 a7 n7 cap7 a8 n8 cap8 F, e = .returned (.agg #[.int .i64 e0, .int .i64 e1, .string e2, .slice a7 n7 cap7, .slice a8 n8 cap8]) ∧ Hid (Own w6 (fT t.kids[k]) ⟨.int .i64 e0, .int .i64 e1, .string e2, .slice a7 n7 cap7, .slice a8 n8 cap8⟩ F) ∧ F.Nodup ∧ Hid (∀ b, b ∈ F → wc.heap.size ≤ b ∧ b < w6.heap.size) ∧ Hid (Below wc.heap.size wc w6) ∧ wc.heap.size ≤ w6.heap.size ∧ Hid (SInv (w.heap.size + 3) (w.heap.size + 2) w6 t.sort (.slice (some ⟨g1, 0, none⟩) (k + 1) cap1) (.slice aK k capK) (t.names.take (k + 1)) ((t.kids.take k).map fT) xs G) ∧ w6.cell? ⟨w.heap.size + 2, 4, none⟩ = some (.slice aK k capK) ∧ ∀ ob, (w6.alloc ob).cell? ⟨w.heap.size + 2, 4, none⟩ = some (.slice aK k capK) := by
          refine (unhide HI t.kids[k] hsm P ⟨_, _, _⟩ wc.drew (fun b hb => Nat.lt_of_lt_of_le (unhide HP b hb) hbwc.drew.size) hrw (okDs_get (unhide HOK) k hlk) (by omega)).mono ?_
          rintro e w6 ⟨⟨y0, y1, y2, y3, y4⟩, F, rfl, ho, hn1, hl1, hb1⟩
          have hb1' : Below wc.heap.size wc w6 := (Below.refl _ wc).drew.trans hb1
          obtain ⟨z0, z1, z2, -, -, -, -, -, -, ⟨a7, cap7, z3, -⟩, a8, cap8, z4, -⟩ := ho.open
          simp only at z0 z1 z2 z3 z4
          subst z0 z1 z2 z3 z4
          have hs6 := (unhide HS5).kept (w' := w6) ⟨hb1'.os, hb1'.tape, hb1'.output, hb1'.size, fun i hi _ => hb1'.block i hi⟩
          exact ⟨_, _, _, _, _, _, _, _, _, F, rfl, ho, hn1, hl1, hb1', hb1'.size, hs6, hs6.cells.cell (i := 4) (by omega), fun ob => (hs6.cells.alloc ob).cell (i := 4) (by omega)⟩
        generalize fT t.kids[k] = tk at *
        have HCALL := hide hcall; have HTK := hide htk; have HLK := hide hlkl
        clear hcall htk hlkl hcell hrp hrw hsm hsm' q0 hpb hbwc
        go_wp2_with fail
        go_region_law (first
          | ((refine step_append_lies _ (by rfl) _ _ _ (by rfl) (w.heap.size + 3) 37 i0 _ 5 80 Tryd.underlying35 (unhide HII) (unhide HZ0) (unhide HZ1) (unhide HZ2) rfl (by decide) (.slice aK k capK) k xs (by rfl) (by have := (unhide HS6).got.row; rw [unhide HLK] at this; exact this.alloc _) ⟨w6.heap.size, 0, none⟩ 1 1 (c5l ⟨.int .i64 e0, .int .i64 e1, .string e2, .slice a7 n7 cap7, .slice a8 n8 cap8⟩) (by rfl) (by rfl) (cell_five w6 _ _) (unhide HOW).one (by decide) (by unfold maxLen; omega) (by omega) (by simp; omega) (w6.heap.size + 1) (by simp) ?_; intro g2 cap2 w8 hown8 hgrow8 hat8 hlt8; have u4 := (SInv.atK (unhide HS6) hgrow8).cell (i := 4) (by omega); have uz4 := (SInv.atK (unhide HS6) hgrow8).frozen 4; simp only [row5] at u4))
          | (rw [if_pos (by first | rfl | simp [Region.wanted])]; go_simp; refine (unhide HCALL).mono ?_; rintro e w6 ⟨e0, e1, e2, a7, n7, cap7, a8, n8, cap8, F, rfl, HOW, hFn, HFL, HB6, hs6, HS6, t4c, t4d⟩))
        all_goals
          have hz6 : ∀ o, (w6.alloc o).heap.size = w6.heap.size + 1 := fun o => World.size_alloc _ _
          have hinv8 := SInv.kid (m := wc.heap.size) ((unhide HS6).kept (World.grownBy_alloc w6 (.cells #[.int .i64 e0, .int .i64 e1, .string e2, .slice a7 n7 cap7, .slice a8 n8 cap8] 37) none)) (Own.carry tk _ F (fun b hb => Below.heap_alloc _ _ _ (unhide HFL b hb).2) (unhide HOW)) hFn (fun b hb => ⟨(unhide HFL b hb).1, by rw [hz6]; have := (unhide HFL b hb).2; omega⟩)
            (fun b hb => ((unhide HS5).got.lt b hb).2.1) (fun b hb => ((unhide HS5).got.row.lt b hb).2) (fun b hb => ((unhide HS5).names.lt b hb).2) (unhide HS5).size (by rw [unhide HLK]; exact hown8) hgrow8 (hat8.elim (fun e => Or.inl (by rw [e]; rfl)) (fun e => Or.inr ⟨g2, rfl, by rw [hz6, e]; exact Nat.le_refl _⟩))
          rw [← unhide HTK] at hinv8
          have hb8 : Below (w.heap.size + 2) W0 (w8.setCell ⟨w.heap.size + 2, 4, none⟩ (.slice (some ⟨g2, 0, none⟩) (k + 1) cap2)) :=
            ((((unhide HB5).trans ((unhide HB6).mono (by omega))).alloc (by omega) (.cells #[.int .i64 e0, .int .i64 e1, .string e2, .slice a7 n7 cap7, .slice a8 n8 cap8] 37)).grown hgrow8 (by rw [hz6]; omega) (fun b e => by have := ((unhide HS6).got.row.lt b e).1; omega)).setCell (by simp) _
          have HI8 := hide hinv8; have HB8 := hide hb8
          clear hinv8 hb8 hown8 hgrow8 hat8 hlt8 u4 uz4 HS6 HOW HFL HB6 HS5 HB5 t4c t4d
          go_wp2_with fail
          go_roundw
          case rel => exact ⟨k + 1, some ⟨g1, 0, none⟩, cap1, some ⟨g2, 0, none⟩, cap2, _, _, by omega, by go_num, unhide HI8, unhide HB8⟩
          case measure => simp [intOf]; omega
    · obtain rfl : k = t.names.length := by omega
      have hft : fT t = .mk t.sort 0 ByteArray.empty (t.names.take t.names.length) ((t.kids.take t.names.length).map fT) := by
        rcases unhide HFIN with ⟨h1, h2, -⟩ | ⟨h1, h2⟩
        · rw [h2, List.take_length, h1, List.take_length, fTs_map]
        · rw [h2, h1]; simp
      obtain ⟨F, hown, hnd, hFl⟩ := HS.out.done (unhide HI0) (fun x hx => unhide HNS8 x (List.mem_of_mem_take hx))
      rw [← hft] at hown
      have t0 := HS.out.cells.cell (i := 0) (by omega); have t1 := HS.out.cells.cell (i := 1) (by omega); have t2 := HS.out.cells.cell (i := 2) (by omega)
      have q2 := (unhide HR1).of_block (HB.out.block (w.heap.size + 1) (by omega))
      have z := q2.frozen
      have y0 := q2.cell (i := 0) (by omega); have y1 := q2.cell (i := 1) (by omega); have y2 := q2.cell (i := 2) (by omega); have y3 := q2.cell (i := 3) (by omega); have y4 := q2.cell (i := 4) (by omega)
      simp only [row5] at t0 t1 t2 y0 y1 y2 y3 y4
      have HOWN := hide hown; have HFL := hide hFl
      clear hown hFl q2 hft
      go_wp2_with fail
      refine bodyPost_ret (v := .agg #[.int .i64 t.sort, .int .i64 0, .string ⟨#[]⟩, .slice aN t.names.length capN, .slice aK t.names.length capK]) (by simp [results, Tryd.results36, go_sem, y0, y1, y2, y3, y4]) rfl ⟨⟨_, _, _, _, _⟩, F, rfl, ?_, hnd, ?_, ?_⟩
      · exact Own.carry (fT t) _ F (fun b hb => heap_set5s _ _ _ _ _ _ _ _ (by have := (unhide HFL b hb).1; omega)) (unhide HOWN)
      · intro b hb
        rw [size_set5s]
        have := unhide HFL b hb; omega
      · exact below_set5s (unhide HBW) _ _ _ _ _ _ (by omega)

theorem l2First_all : ∀ n, SFSaid n
  | 0 => fun t h => by omega
  | n + 1 => l2First_step n (l2First_all n)

end Go.Proofs.YthkjhmcbmakkdaaDoor
