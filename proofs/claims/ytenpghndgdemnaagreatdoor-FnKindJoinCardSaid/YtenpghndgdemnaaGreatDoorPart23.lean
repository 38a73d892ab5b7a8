/- The walk of the specification's l3Fits at two schemas of one sort, name by name; KindFits whole. No conditions. -/
import Derived.Test.YtenpghndgdemnaaGreatDoorPart16
import Derived.BigQuiet
import Derived.Deep.QuietTactic
import Derived.Deep.CutRange
import Derived.Test.YtenpghndgdemnaaGreatDoorPart22
namespace Go.Proofs.YtenpghndgdemnaaGreatDoor
open Go Go.RowKit

set_option maxRecDepth 100000 in
set_option maxHeartbeats 6400000 in
theorem fits_eq (n : Nat) (IH : FitsSaid n) (a b : Kd) (hn : ksz b ≤ n + 1) (w : World) (a1 a2 b1 b2 : Option Addr) (p1 p2 q1 q2 : Nat)
    (ha : KW w a ⟨.int .i64 a.sort, .slice a1 a.names.length p1, .slice a2 a.kids.length p2⟩) (hb : KW w b ⟨.int .i64 b.sort, .slice b1 b.names.length q1, .slice b2 b.kids.length q2⟩)
    (hs1 : a.sort = b.sort) (h4 : a.sort ≠ 4) (h6 : b.sort ≠ 6) :
    Calls Tryz.prog 27 #[.agg #[.int .i64 a.sort, .slice a1 a.names.length p1, .slice a2 a.kids.length p2], .agg #[.int .i64 b.sort, .slice b1 b.names.length q1, .slice b2 b.kids.length q2]] w fun e w' => e = .returned (.bool (fitF (n + 1) a b)) ∧ Below w.heap.size w w' := by
  have hla : a.kids.length = a.names.length := by rcases ha.sh with h | h | h <;> omega
  have hlb : b.kids.length = b.names.length := by rcases hb.sh with h | h | h <;> omega
  have hbig : a.names.length ≤ 9223372036854775807 ∧ b.names.length ≤ 9223372036854775807 := by
    obtain ⟨-, -, ⟨_, _, _, h1, _⟩, -⟩ := ha.rep.open
    obtain ⟨-, -, ⟨_, _, _, h2, _⟩, -⟩ := hb.rep.open
    exact ⟨h1, h2⟩
  obtain ⟨hba, hbb⟩ := hbig
  obtain ⟨hra, hrb, hbw⟩ := ft_boxes w a b a1 a2 b1 b2 p1 p2 q1 q2
  have hs2 : ((w.alloc (.cells #[.int .i64 a.sort, .slice a1 a.names.length p1, .slice a2 a.kids.length p2] 26)).alloc (.cells #[.int .i64 b.sort, .slice b1 b.names.length q1, .slice b2 b.kids.length q2] 26)).heap.size = w.heap.size + 2 := by simp
  have ht1 : (b.sort == 6) = false := by rw [beq_eq_false_iff_ne]; exact h6
  have ht2 : (a.sort != b.sort) = false := by simpa using hs1
  have ht3 : (a.sort == 4) = false := by rw [beq_eq_false_iff_ne]; exact h4
  have HN1 := hide (fun i hi hk => fit_no1 (n := n) (i := i) h6 hs1 h4 hi hk)
  have HN2 := hide (fun i x hi hi2 hk hf => fit_no2 (n := n) (i := i) (x := x) h6 hs1 h4 hi hi2 hk hf)
  have HN3 := hide (fun i hi hi2 hk hf => fit_no3 (n := n) (i := i) h6 hs1 h4 hi hi2 hk hf)
  have HYES : Hid ((∀ x, (hx : x < a.names.length) → (hx2 : x < a.kids.length) → ∃ y, kidN b a.names[x] = some y ∧ fitF n a.kids[x] y = true) → (∀ x, (hx : x < b.names.length) → (hx2 : x < b.kids.length) → (kidN a b.names[x]).isSome = true ∨ b.kids[x].sort = 6) → fitF (n + 1) a b = true) := fun h1 h2 => fit_yes (n := n) h6 hs1 h4 hla hlb (fun i hi => h1 i hi (by omega)) (fun i hi => h2 i hi (by omega))
  have HLA := hide hla; have HLB := hide hlb; have HA := hide ha; have HB := hide hb; have HI := hide IH; have HN := hide hn
  clear hs1 h4 h6 hla hlb ha hb IH hn
  go_enter Tryz.func27, Tryz.ntmps27
  go_wp2_with fail
  generalize ((w.alloc (.cells #[.int .i64 a.sort, .slice a1 a.names.length p1, .slice a2 a.kids.length p2] 26)).alloc (.cells #[.int .i64 b.sort, .slice b1 b.names.length q1, .slice b2 b.kids.length q2] 26)) = W0 at hra hrb hbw hs2 ⊢
  have HRA := hide hra; have HRB := hide hrb; have HBW := hide hbw; have HS2 := hide hs2
  clear hra hrb hbw hs2
  go_loopw [5] (fun vi wr => ∃ (i : Nat), i ≤ a.names.length ∧ vi = .int .i64 i ∧ Hid (∀ x, x < i → (hx : x < a.names.length) → (hx2 : x < a.kids.length) → ∃ y, kidN b a.names[x] = some y ∧ fitF n a.kids[x] y = true) ∧ Hid (Below W0.heap.size W0 wr)) (fun vi _ => a.names.length - (intOf vi).toNat)
  case atStart => exact ⟨0, Nat.zero_le _, rfl, fun x hx => by omega, Below.refl _ _⟩
  case round =>
    obtain ⟨i, hi, rfl, HE, HBR⟩ := hrel
    have hbw := (unhide HBW).trans (HBR.out.mono (by have := unhide HS2; omega))
    have ra := (unhide HRA).of_block (HBR.out.block _ (unhide HRA).lt)
    have rb := (unhide HRB).of_block (HBR.out.block _ (unhide HRB).lt)
    have e1 := ra.cell (i := 1) (by omega)
    simp only [row3] at e1
    have HW := hide hbw; have HRA2 := hide ra; have HRB2 := hide rb
    clear hbw ra rb
    by_cases hlt : i < a.names.length
    · have hlt2 : i < a.kids.length := by rw [unhide HLA]; exact hlt
      obtain ⟨nb, no, nc, en, hnl, hcn⟩ := (unhide HA).name hlt
      simp only [Value.slice.injEq] at en
      obtain ⟨rfl, -, rfl⟩ := en
      have hcn2 : wr.drew.cell? ⟨nb, no + i, none⟩ = some (.string a.names[i]) := ((unhide HW).cell (show (⟨nb, no + i, none⟩ : Addr).block < w.heap.size from hnl)).trans hcn
      go_upto_region 12 with fail
      refine wp_swap (c' := Code.region 12 ft12Ops true) (by kernel_rfl) ?_
      refine wp_region_noPanic ?_
      refine ft12 w.heap.size (w.heap.size + 1) _ _ _ _ _ nb no a.names.length p1 i a.names[i] (KdG (fun x => x < w.heap.size) w b a.names[i]) wr _ (fun _ _ _ _ _ h => h) ((unhide HRA2).of_block rfl) ((unhide HRB2).of_block rfl) hlt hcn2 KdG.one (fun W hW => l3Kid_any b _ _ w W (fun _ h => h) (unhide HB).rep (unhide HLB) _ (by
        have h1 : Below w.heap.size w wr.drew := (unhide HW).drew
        exact h1.trans (hW.mono h1.size))) (by kernel_rfl) (fun u g ok => by kernel_rfl) ?_
      intro u y0 y1 y2 ok g W9 hb9 hg hgb hG
      refine NoPanic.normal ?_
      simp only [List.take_succ_cons, List.take_zero, List.drop_succ_cons, List.drop_zero, List.cons_append, List.nil_append]
      have hb9' : Below wr.heap.size wr W9 := ⟨hb9.os, hb9.tape, hb9.output, hb9.size, fun i hi => hb9.block i hi⟩
      have hgb' : wr.heap.size ≤ g := hgb
      have hw9 := (unhide HW).trans (hb9'.mono (unhide HW).size)
      have hr9 := HBR.out.trans (hb9'.mono HBR.out.size)
      have HW9 := hide hw9; have HR9 := hide hr9
      clear hw9 hr9 hb9 hgb
      rcases hG with ⟨x, x1, x2, r1, r2, rfl, hkx, hxm, rfl, rfl, rfl, hrx⟩ | ⟨rfl, hkx, rfl, rfl, rfl⟩
      · obtain ⟨zb, zo, zc, z1, z2, t1, t2, ez, hzl, c0, c1, c2, hz⟩ := (unhide HA).kid hlt2
        simp only [Value.slice.injEq] at ez
        obtain ⟨rfl, -, rfl⟩ := ez
        have v0 := ((unhide HW9).cell (show (⟨zb, zo + i * 3, none⟩ : Addr).block < w.heap.size from hzl)).trans c0
        have v1 := ((unhide HW9).cell (show (⟨zb, zo + i * 3 + 1, none⟩ : Addr).block < w.heap.size from hzl)).trans c1
        have v2 := ((unhide HW9).cell (show (⟨zb, zo + i * 3 + 2, none⟩ : Addr).block < w.heap.size from hzl)).trans c2
        have g0 := hg.cell (i := 0) (by omega); have g1 := hg.cell (i := 1) (by omega); have g2 := hg.cell (i := 2) (by omega)
        have ra9 := (unhide HRA2).of_block (hb9'.block _ (unhide HRA2).lt)
        have e2 := ra9.cell (i := 2) (by omega)
        simp only [row3] at g0 g1 g2 e2
        have hsm : ksz x ≤ n := by have := ksz_kid hxm; have := unhide HN; omega
        have hxk : KW w x ⟨.int .i64 x.sort, .slice x1 x.names.length r1, .slice x2 x.kids.length r2⟩ := ⟨hrx, by
          have hok := (unhide HB).ok
          rw [okD_eq, Bool.and_eq_true] at hok
          obtain ⟨j, hj, e⟩ := List.mem_iff_getElem.1 hxm
          rw [← e]
          exact okDs_get hok.2 j hj⟩
        have HCALL : Hid (Calls Tryz.prog 27 #[.agg #[.int .i64 a.kids[i].sort, .slice z1 a.kids[i].names.length t1, .slice z2 a.kids[i].kids.length t2], .agg #[.int .i64 x.sort, .slice x1 x.names.length r1, .slice x2 x.kids.length r2]] W9.drew fun e w' => e = .returned (.bool (fitF n a.kids[i] x)) ∧ Hid (Below W9.heap.size W9 w')) :=
          (unhide HI _ _ hsm ⟨_, _, _⟩ ⟨_, _, _⟩ W9.drew (hz.on (unhide HW9).drew) (hxk.on (unhide HW9).drew)).mono fun e w' ⟨h1, h2⟩ => ⟨h1, ⟨h2.os, h2.tape, h2.output, h2.size, fun i hi => h2.block i hi⟩⟩
        have HX1 := hide (fun hf => unhide HN2 i x hlt hlt2 hkx hf)
        have HX2 : Hid (fitF n a.kids[i] x = true → ∀ y, y < i + 1 → (hx : y < a.names.length) → (hx2 : y < a.kids.length) → ∃ z, kidN b a.names[y] = some z ∧ fitF n a.kids[y] z = true) := fun hf y hy hx hx2 => by
          by_cases e : y = i
          · subst e; exact ⟨x, hkx, hf⟩
          · exact HE.out y (by omega) hx hx2
        have hka : i < a.kids.length := hlt2
        generalize fitF n a.kids[i] x = r at *
        generalize a.kids[i] = ka at *
        clear hcn hcn2 c0 c1 c2 hz hxk hrx hkx hxm hg ra9 hsm
        cases r with
        | true =>
          have HX3 := hide (unhide HX2 rfl)
          clear HX1 HX2
          go_wp2_with fail
          go_region_with (go_at_call 27; refine (unhide HCALL).mono ?_; rintro e w6 ⟨rfl, HB6⟩)
          all_goals
            have hb6 : Below W0.heap.size W0 w6 := (unhide HR9).trans (HB6.out.mono (unhide HR9).size)
            go_wp2_with fail
            go_roundw
            case rel => exact ⟨i + 1, by omega, by go_num, HX3, hb6⟩
            case measure => simp [intOf]; omega
        | false =>
          have HX3 := hide (unhide HX1 rfl)
          clear HX1 HX2
          go_wp2_with fail
          go_region_with (go_at_call 27; refine (unhide HCALL).mono ?_; rintro e w6 ⟨rfl, HB6⟩)
          all_goals
            go_wp2_with fail
            go_ret
            exact ⟨by rw [unhide HX3]; rfl, (unhide HW9).trans (HB6.out.mono (unhide HW9).size)⟩
      · have HX3 := hide (unhide HN1 i hlt hkx)
        clear hkx hg hcn hcn2
        go_wp2_with fail
        go_quiet (fail)
        all_goals
          go_wp2_with fail
          go_ret
          exact ⟨by rw [unhide HX3]; rfl, below_drewN (unhide HW9) _⟩
    · obtain rfl : i = a.names.length := by omega
      go_wp2_with fail
      clear e1
      go_loopw [8] (fun vi wx => ∃ (j : Nat), j ≤ b.names.length ∧ vi = .int .i64 j ∧ Hid (∀ x, x < j → (hx : x < b.names.length) → (hx2 : x < b.kids.length) → (kidN a b.names[x]).isSome = true ∨ b.kids[x].sort = 6) ∧ Hid (Below W0.heap.size W0 wx)) (fun vi _ => b.names.length - (intOf vi).toNat)
      case atStart => exact ⟨0, Nat.zero_le _, rfl, fun x hx => by omega, HBR⟩
      case round =>
        clear HBR HW HRA2 HRB2
        obtain ⟨j, hj, rfl, HF, HBR⟩ := hrel
        have hbw := (unhide HBW).trans (HBR.out.mono (by have := unhide HS2; omega))
        have ra := (unhide HRA).of_block (HBR.out.block _ (unhide HRA).lt)
        have rb := (unhide HRB).of_block (HBR.out.block _ (unhide HRB).lt)
        have e1 := rb.cell (i := 1) (by omega)
        simp only [row3] at e1
        have HW := hide hbw; have HRA2 := hide ra; have HRB2 := hide rb
        clear hbw ra rb
        by_cases hlt : j < b.names.length
        · have hlt2 : j < b.kids.length := by rw [unhide HLB]; exact hlt
          obtain ⟨nb, no, nc, en, hnl, hcn⟩ := (unhide HB).name hlt
          simp only [Value.slice.injEq] at en
          obtain ⟨rfl, -, rfl⟩ := en
          have hcn2 : wr.drew.cell? ⟨nb, no + j, none⟩ = some (.string b.names[j]) := ((unhide HW).cell (show (⟨nb, no + j, none⟩ : Addr).block < w.heap.size from hnl)).trans hcn
          go_upto_region 18 with fail
          refine wp_swap (c' := Code.region 18 ft18Ops true) (by kernel_rfl) ?_
          refine wp_region_noPanic ?_
          refine ft18 w.heap.size (w.heap.size + 1) _ _ _ _ _ nb no b.names.length q1 j b.names[j] (KdG (fun x => x < w.heap.size) w a b.names[j]) wr _ (fun _ _ _ _ _ h => h) ((unhide HRA2).of_block rfl) ((unhide HRB2).of_block rfl) hlt hcn2 KdG.one (fun W hW => l3Kid_any a _ _ w W (fun _ h => h) (unhide HA).rep (unhide HLA) _ (by
            have h1 : Below w.heap.size w wr.drew := (unhide HW).drew
            exact h1.trans (hW.mono h1.size))) (by kernel_rfl) (fun u g ok => by kernel_rfl) ?_
          intro u y0 y1 y2 ok g W9 hb9 hg hgb hG
          refine NoPanic.normal ?_
          simp only [List.take_succ_cons, List.take_zero, List.drop_succ_cons, List.drop_zero, List.cons_append, List.nil_append]
          have hb9' : Below wr.heap.size wr W9 := ⟨hb9.os, hb9.tape, hb9.output, hb9.size, fun i hi => hb9.block i hi⟩
          have hw9 := (unhide HW).trans (hb9'.mono (unhide HW).size)
          have hr9 := HBR.out.trans (hb9'.mono HBR.out.size)
          have HW9 := hide hw9; have HR9 := hide hr9
          clear hw9 hr9 hb9 hgb hg
          obtain ⟨zb, zo, zc, z1, z2, t1, t2, ez, hzl, c0, -, -, -⟩ := (unhide HB).kid hlt2
          simp only [Value.slice.injEq] at ez
          obtain ⟨rfl, -, rfl⟩ := ez
          have v0 := ((unhide HW9).cell (show (⟨zb, zo + j * 3, none⟩ : Addr).block < w.heap.size from hzl)).trans c0
          have rb9 := (unhide HRB2).of_block (hb9'.block _ (unhide HRB2).lt)
          have e2 := rb9.cell (i := 2) (by omega)
          simp only [row3] at e2
          rcases hG with ⟨x, x1, x2, r1, r2, rfl, hkx, hxm, rfl, rfl, rfl, hrx⟩ | ⟨rfl, hkx, rfl, rfl, rfl⟩
          · have HX3 : Hid (∀ y, y < j + 1 → (hx : y < b.names.length) → (hx2 : y < b.kids.length) → (kidN a b.names[y]).isSome = true ∨ b.kids[y].sort = 6) := fun y hy hx hx2 => by
              by_cases e : y = j
              · subst e; exact Or.inl (by rw [hkx]; rfl)
              · exact HF.out y (by omega) hx hx2
            generalize b.kids[j] = kb at *
            clear hcn hcn2 c0 hrx hkx hxm rb9
            go_wp2_with fail
            go_roundw
            case rel => exact ⟨j + 1, by omega, by go_num, HX3, HR9⟩
            case measure => simp [intOf]; omega
          · by_cases h66 : b.kids[j].sort = 6
            · have HX3 : Hid (∀ y, y < j + 1 → (hx : y < b.names.length) → (hx2 : y < b.kids.length) → (kidN a b.names[y]).isSome = true ∨ b.kids[y].sort = 6) := fun y hy hx hx2 => by
                by_cases e : y = j
                · subst e; exact Or.inr h66
                · exact HF.out y (by omega) hx hx2
              have ht6 : (b.kids[j].sort != 6) = false := by rw [h66]; rfl
              have hka : j < b.kids.length := hlt2
              generalize b.kids[j] = kb at *
              clear hcn hcn2 c0 hkx rb9 h66
              go_wp2_with fail
              go_roundw
              case rel => exact ⟨j + 1, by omega, by go_num, HX3, HR9⟩
              case measure => simp [intOf]; omega
            · have HX3 := hide (unhide HN3 j hlt hlt2 hkx h66)
              have ht6 : (b.kids[j].sort != 6) = true := by simpa using h66
              have hka : j < b.kids.length := hlt2
              generalize b.kids[j] = kb at *
              clear hcn hcn2 c0 hkx rb9 h66
              go_wp2_with fail
              go_ret
              exact ⟨by rw [unhide HX3]; rfl, unhide HW9⟩
        · have HX3 := hide (unhide HYES (fun x hx hx2 => HE.out x hx hx hx2) (fun x hx hx2 => HF.out x (by omega) hx hx2))
          obtain rfl : j = b.names.length := by omega
          go_wp2_with fail
          go_ret
          exact ⟨by rw [unhide HX3]; rfl, unhide HW⟩
theorem fits_all : ∀ n, FitsSaid n
  | 0 => fun a b hn => by
    obtain ⟨s, ns, ks⟩ := b
    rw [ksz] at hn
    omega
  | n + 1 => fun a b hn c d w ha hb => by
    obtain ⟨a1, a2, p1, p2, rfl⟩ := ha.form
    obtain ⟨b1, b2, q1, q2, rfl⟩ := hb.form
    by_cases h6 : b.sort = 6
    · by_cases g6 : a.sort = 6
      · exact fits_46 n (fits_all n) a b hn w a1 a2 b1 b2 p1 p2 q1 q2 ha hb (Or.inl ⟨g6, h6⟩)
      · exact fits_xm n (fits_all n) a b hn w a1 a2 b1 b2 p1 p2 q1 q2 ha hb g6 h6
    · by_cases he : a.sort = b.sort
      · by_cases g4 : a.sort = 4
        · exact fits_46 n (fits_all n) a b hn w a1 a2 b1 b2 p1 p2 q1 q2 ha hb (Or.inr ⟨g4, he ▸ g4⟩)
        · exact fits_eq n (fits_all n) a b hn w a1 a2 b1 b2 p1 p2 q1 q2 ha hb he g4 h6
      · exact fits_ne n a b w a1 a2 b1 b2 p1 p2 q1 q2 he h6
/-- Whether a schema fits into another one, both ok. -/
def fitsD (a b : Kd) : Bool := decide (0 < qT a 1) && decide (0 < qT b 1) && fitF 40 a b
set_option maxRecDepth 100000 in
set_option maxHeartbeats 1600000 in
theorem specKindFits_any (a b : Kd) (P Q : Nat → Prop) (c d : C3) (w : World) (hP : ∀ x, P x → x < w.heap.size) (hQ : ∀ x, Q x → x < w.heap.size) (ha : KRep P w a c) (hb : KRep Q w b d) :
    Calls Tryz.prog 10 #[.agg #[c.c0, c.c1, c.c2], .agg #[d.c0, d.c1, d.c2]] w fun e w' => e = .returned (.bool (fitsD a b)) ∧ Below w.heap.size w w' := by
  have ha' : KRep (fun x => x < w.heap.size) w a c := KRep.carry (fun _ _ => rfl) hP _ _ ha
  have hb' : KRep (fun x => x < w.heap.size) w b d := KRep.carry (fun _ _ => rfl) hQ _ _ hb
  have hca : ∀ W, Below w.heap.size w W → KRep (fun x => x < W.heap.size) W a c := fun W hW => KRep.carry (fun x hx => hW.block x hx) (fun _ hx => Nat.lt_of_lt_of_le hx hW.size) _ _ ha'
  have hcb : ∀ W, Below w.heap.size w W → KRep (fun x => x < W.heap.size) W b d := fun W hW => KRep.carry (fun x hx => hW.block x hx) (fun _ hx => Nat.lt_of_lt_of_le hx hW.size) _ _ hb'
  have HOA : Hid (∀ W, Below w.heap.size w W → Calls Tryz.prog 22 #[.agg #[c.c0, c.c1, c.c2]] W fun e w' => e = .returned (.bool (decide (0 < qT a 1))) ∧ Below W.heap.size W w') := fun W hW => specKindOk_any a _ c W (fun _ h => h) (hca W hW)
  have HOB : Hid (∀ W, Below w.heap.size w W → Calls Tryz.prog 22 #[.agg #[d.c0, d.c1, d.c2]] W fun e w' => e = .returned (.bool (decide (0 < qT b 1))) ∧ Below W.heap.size W w') := fun W hW => specKindOk_any b _ d W (fun _ h => h) (hcb W hW)
  have HF : Hid (∀ W, 0 < qT a 1 → 0 < qT b 1 → Below w.heap.size w W → Calls Tryz.prog 27 #[.agg #[c.c0, c.c1, c.c2], .agg #[d.c0, d.c1, d.c2]] W fun e w' => e = .returned (.bool (fitF 40 a b)) ∧ Below W.heap.size W w') := fun W h1 h2 hW => fits_all 40 a b (ok_of_qT h2).2 c d W ⟨hca W hW, (ok_of_qT h1).1⟩ ⟨hcb W hW, (ok_of_qT h2).1⟩
  obtain ⟨c0, c1, c2⟩ := c
  obtain ⟨d0, d1, d2⟩ := d
  obtain ⟨e0, -, ⟨a3, cap3, e1, -⟩, a4, cap4, e2, -⟩ := ha.open
  obtain ⟨g0, -, ⟨b3, bap3, g1, -⟩, b4, bap4, g2, -⟩ := hb.open
  simp only at e0 e1 e2 g0 g1 g2
  subst e0 e1 e2 g0 g1 g2
  obtain ⟨hra, hrb, hbw⟩ := ft_boxes w a b a3 a4 b3 b4 cap3 cap4 bap3 bap4
  have x0 := hra.cell (i := 0) (by omega); have x1 := hra.cell (i := 1) (by omega); have x2 := hra.cell (i := 2) (by omega)
  have y0 := hrb.cell (i := 0) (by omega); have y1 := hrb.cell (i := 1) (by omega); have y2 := hrb.cell (i := 2) (by omega)
  simp only [row3] at x0 x1 x2 y0 y1 y2
  have HRA := hide hra; have HRB := hide hrb; have HBW := hide hbw
  clear hra hrb hbw ha hb ha' hb' hca hcb hP hQ
  go_enter Tryz.func10, Tryz.ntmps10
  go_wp2_with fail
  generalize ((w.alloc (.cells #[.int .i64 a.sort, .slice a3 a.names.length cap3, .slice a4 a.kids.length cap4] 26)).alloc (.cells #[.int .i64 b.sort, .slice b3 b.names.length bap3, .slice b4 b.kids.length bap4] 26)) = W0 at *
  refine (unhide HOA W0 (unhide HBW)).mono ?_
  rintro e w1 ⟨rfl, hb1⟩
  have HB1 := hide ((unhide HBW).trans (hb1.mono (unhide HBW).size))
  have HRA1 := hide ((unhide HRA).of_block (hb1.block _ (unhide HRA).lt)); have HRB1 := hide ((unhide HRB).of_block (hb1.block _ (unhide HRB).lt))
  clear hb1 x0 x1 x2 y0 y1 y2 HRA HRB
  by_cases hqa : 0 < qT a 1
  case neg =>
    have hd : decide (0 < qT a 1) = false := decide_eq_false hqa
    have HFD : Hid (fitsD a b = false) := by show _ = _; unfold fitsD; rw [hd]; rfl
    rw [hd]
    clear hqa hd
    go_wp2_with fail
    go_ret
    exact ⟨by rw [unhide HFD]; rfl, unhide HB1⟩
  have hd : decide (0 < qT a 1) = true := decide_eq_true hqa
  have y0 := (unhide HRB1).cell (i := 0) (by omega); have y1 := (unhide HRB1).cell (i := 1) (by omega); have y2 := (unhide HRB1).cell (i := 2) (by omega)
  simp only [row3] at y0 y1 y2
  have HQA := hide hqa
  rw [hd]
  clear hqa hd
  go_wp2_with fail
  refine (unhide HOB w1 (unhide HB1)).mono ?_
  rintro e w2 ⟨rfl, hb2⟩
  have HB2 := hide ((unhide HB1).trans (hb2.mono (unhide HB1).size))
  have ra := ((unhide HRA1).of_block (hb2.block _ (unhide HRA1).lt)); have rb := ((unhide HRB1).of_block (hb2.block _ (unhide HRB1).lt))
  have x0 := ra.cell (i := 0) (by omega); have x1 := ra.cell (i := 1) (by omega); have x2 := ra.cell (i := 2) (by omega)
  clear y0 y1 y2
  have y0 := rb.cell (i := 0) (by omega); have y1 := rb.cell (i := 1) (by omega); have y2 := rb.cell (i := 2) (by omega)
  simp only [row3] at x0 x1 x2 y0 y1 y2
  clear hb2 HRA1 HRB1 ra rb
  by_cases hqb : 0 < qT b 1
  case neg =>
    have hd : decide (0 < qT b 1) = false := decide_eq_false hqb
    have HFD : Hid (fitsD a b = false) := by show _ = _; unfold fitsD; rw [hd, Bool.and_false]; rfl
    rw [hd]
    clear hqb hd
    go_wp2_with fail
    go_ret
    exact ⟨by rw [unhide HFD]; rfl, unhide HB2⟩
  have hd : decide (0 < qT b 1) = true := decide_eq_true hqb
  have HCALL := hide (unhide HF w2 (unhide HQA) hqb (unhide HB2))
  have HFD : Hid (fitsD a b = fitF 40 a b) := by show _ = _; unfold fitsD; rw [hd, decide_eq_true (unhide HQA)]; rfl
  rw [hd]
  clear hqb hd
  go_wp2_with fail
  refine (unhide HCALL).mono ?_
  rintro e w3 ⟨rfl, hb3⟩
  have HB3 := hide ((unhide HB2).trans (hb3.mono (unhide HB2).size))
  clear hb3 x0 x1 x2 y0 y1 y2
  go_wp2_with fail
  go_ret
  exact ⟨by rw [unhide HFD]; rfl, unhide HB3⟩
end Go.Proofs.YtenpghndgdemnaaGreatDoor

/- What KindWiden answers, and the boxes of its arguments; no program walked, no conditions. -/

namespace Go.Proofs.YtenpghndgdemnaaGreatDoor
open Go Go.RowKit

end Go.Proofs.YtenpghndgdemnaaGreatDoor

/- What widening keeps: a schema fits into itself, and nothing changes then; what comes of it is of the wider schema, and has no fewer parts. No program, no conditions. -/

namespace Go.Proofs.YtenpghndgdemnaaGreatDoor
open Go Go.RowKit

theorem rise_names {k : Kd} (h : okD k = true) (h5 : k.sort = 5) : k.kids.length = k.names.length ∧ riseB k.names = true := by
  rcases okD_sh h with h' | h' | h'
  · omega
  · omega
  · exact h'.2
/-- A schema that is ok fits into itself. -/
theorem fit_refl : ∀ (n : Nat) (a : Kd), okD a = true → ksz a ≤ n → fitF n a a = true
  | 0, a, _, h => by have := ksz_pos a; omega
  | n + 1, a, ho, hn => by
    have sa := okD_sh ho
    by_cases h6 : a.sort = 6
    · have hk : 0 < a.kids.length := by rcases sa with h | h | h <;> omega
      have := ksz_kid (List.getElem_mem hk)
      rw [fit_mm h6 h6 hk hk]
      exact fit_refl n _ (okD_kid ho 0 hk) (by omega)
    by_cases h4 : a.sort = 4
    · have hk : 0 < a.kids.length := by rcases sa with h | h | h <;> omega
      have := ksz_kid (List.getElem_mem hk)
      rw [fit_ll h4 h4 hk hk]
      exact fit_refl n _ (okD_kid ho 0 hk) (by omega)
    by_cases h5 : a.sort = 5
    · obtain ⟨hl, hr⟩ := rise_names ho h5
      rw [fit_union h5 h5 hl hl (rise_nodup hr) (rise_nodup hr) (fun k hk => okD_ne (okD_mem ho hk)) (fun k hk => okD_ne (okD_mem ho hk)) _ (fun nm => uniN_mem nm), List.all_eq_true]
      intro nm hm
      have hma : nm ∈ a.names := by rcases (uniN_mem nm).1 hm with h | h <;> exact h
      have hin := kidZ_in ho h5 hma
      have hok := okD_mem ho hin
      have := ksz_kid hin
      unfold pF
      rw [if_neg (okD_ne hok), if_neg (okD_ne hok)]
      exact fit_refl n _ hok (by omega)
    · have h1 : a.sort = 1 ∨ a.sort = 2 ∨ a.sort = 3 := by rcases sa with h | h | h <;> omega
      have hl : a.kids.length = 0 ∧ a.names.length = 0 := by rcases sa with h | h | h <;> omega
      refine fit_yes (n := n) h6 rfl h4 (by omega) (by omega) (fun i hi => by omega) (fun i hi => by omega)
end Go.Proofs.YtenpghndgdemnaaGreatDoor

/- Of two schemas the least into which both fit, as a function on data, and how two lists of names that rise are merged. No program, no conditions. -/

namespace Go.Proofs.YtenpghndgdemnaaGreatDoor
open Go Go.RowKit

/-- A schema without the first maybe; a maybe of it; a schema that may be nothing. -/
def bareK (k : Kd) : Kd := if k.sort = 6 then k.kids.getD 0 kd0 else k
def mbK (k : Kd) : Kd := .mk 6 [] [k]
def liK (k : Kd) : Kd := .mk 4 [] [k]
def loneK (k : Kd) : Kd := if k.sort = 6 then k else mbK k
/-- The least schema of two of which one may be nothing, so deep. -/
def jnP : Nat → Kd → Kd → Option Kd
  | 0, _, _ => none
  | n + 1, a, b =>
    if a.sort = 0 then (if b.sort = 0 then none else some (loneK b))
    else if b.sort = 0 then some (loneK a)
    else if a.sort = 6 ∨ b.sort = 6 then (jnP n (bareK a) (bareK b)).map mbK
    else if a.sort ≠ b.sort then none
    else if a.sort = 4 then (jnP n (a.kids.getD 0 kd0) (b.kids.getD 0 kd0)).map liK
    else if a.sort = 5 then
      if (uniN a.names b.names).all (fun nm => (jnP n (kidZ a nm) (kidZ b nm)).isSome) = true
      then some (.mk 5 (uniN a.names b.names) ((uniN a.names b.names).map fun nm => (jnP n (kidZ a nm) (kidZ b nm)).getD kd0)) else none
    else some (.mk a.sort [] [])
/-- The least schema of two, if it is ok. -/
def okO : Option Kd → Option Kd
  | some x => if 0 < qT x 1 then some x else none
  | none => none
def joinD (a b : Kd) : Option Kd := if 0 < qT a 1 ∧ 0 < qT b 1 then okO (jnP 80 a b) else none
section
variable {n : Nat} {a b : Kd}
theorem jn_00 (h1 : a.sort = 0) (h2 : b.sort = 0) : jnP n a b = none := by
  cases n with
  | zero => rfl
  | succ n => rw [jnP, if_pos h1, if_pos h2]
theorem jn_0b (h1 : a.sort = 0) (h2 : b.sort ≠ 0) : jnP (n + 1) a b = some (loneK b) := by rw [jnP, if_pos h1, if_neg h2]
theorem jn_a0 (h1 : a.sort ≠ 0) (h2 : b.sort = 0) : jnP (n + 1) a b = some (loneK a) := by rw [jnP, if_neg h1, if_pos h2]
theorem jn_mb (h1 : a.sort ≠ 0) (h2 : b.sort ≠ 0) (h3 : a.sort = 6 ∨ b.sort = 6) : jnP (n + 1) a b = (jnP n (bareK a) (bareK b)).map mbK := by rw [jnP, if_neg h1, if_neg h2, if_pos h3]
theorem jn_ne (h1 : a.sort ≠ 0) (h2 : b.sort ≠ 0) (h3 : a.sort ≠ 6) (h4 : b.sort ≠ 6) (h : a.sort ≠ b.sort) : jnP (n + 1) a b = none := by rw [jnP, if_neg h1, if_neg h2, if_neg (by omega), if_pos h]
theorem jn_li (h1 : a.sort = 4) (h2 : b.sort = 4) (ha : 0 < a.kids.length) (hb : 0 < b.kids.length) : jnP (n + 1) a b = (jnP n a.kids[0] b.kids[0]).map liK := by
  rw [jnP, if_neg (by omega), if_neg (by omega), if_neg (by omega), if_neg (by omega), if_pos h1, getD_kid ha, getD_kid hb]
theorem jn_fm (h1 : a.sort = 5) (h2 : b.sort = 5) : jnP (n + 1) a b = if (uniN a.names b.names).all (fun nm => (jnP n (kidZ a nm) (kidZ b nm)).isSome) = true
      then some (.mk 5 (uniN a.names b.names) ((uniN a.names b.names).map fun nm => (jnP n (kidZ a nm) (kidZ b nm)).getD kd0)) else none := by
  rw [jnP, if_neg (by omega), if_neg (by omega), if_neg (by omega), if_neg (by omega), if_neg (by omega), if_pos h1]
theorem jn_lf (h1 : a.sort = 1 ∨ a.sort = 2 ∨ a.sort = 3) (h2 : a.sort = b.sort) : jnP (n + 1) a b = some (.mk a.sort [] []) := by
  rw [jnP, if_neg (by omega), if_neg (by omega), if_neg (by omega), if_neg (by omega), if_neg (by omega), if_neg (by omega)]
end
theorem bare_mb {k : Kd} (h : k.sort = 6) (hk : 0 < k.kids.length) : bareK k = k.kids[0] := by unfold bareK; rw [if_pos h, getD_kid hk]
theorem bare_no {k : Kd} (h : k.sort ≠ 6) : bareK k = k := by unfold bareK; rw [if_neg h]
/-- Two lists that rise and have the same names are one. -/
theorem rise_ext {l m : List ByteArray} (hl : l.Pairwise nlt) (hm : m.Pairwise nlt) (h : ∀ x, x ∈ l ↔ x ∈ m) : l = m := by
  have h1 := rise_sub l m hl hm (fun x hx => (h x).2 hx)
  have h2 := rise_sub m l hm hl (fun x hx => (h x).1 hx)
  exact (h1.eq_of_length_le h2.length_le).symm
theorem uniN_comm (l m : List ByteArray) : uniN l m = uniN m l := rise_ext (uniN_rise _ _) (uniN_rise _ _) fun x => by rw [uniN_mem, uniN_mem]; exact Or.comm
theorem jn_comm : ∀ (n : Nat) (a b : Kd), jnP n a b = jnP n b a
  | 0, _, _ => rfl
  | n + 1, a, b => by
    by_cases ha : a.sort = 0
    · by_cases hb : b.sort = 0
      · rw [jn_00 ha hb, jn_00 hb ha]
      · rw [jn_0b ha hb, jn_a0 hb ha]
    by_cases hb : b.sort = 0
    · rw [jn_a0 ha hb, jn_0b hb ha]
    by_cases h6 : a.sort = 6 ∨ b.sort = 6
    · rw [jn_mb ha hb h6, jn_mb hb ha (Or.comm.1 h6), jn_comm n]
    by_cases hne : a.sort = b.sort
    · by_cases h4 : a.sort = 4
      · rw [jnP, jnP, if_neg ha, if_neg hb, if_neg h6, if_neg (by omega), if_pos h4, if_neg hb, if_neg ha, if_neg (by omega), if_neg (by omega), if_pos (by omega), jn_comm n]
      by_cases h5 : a.sort = 5
      · rw [jn_fm h5 (by omega), jn_fm (by omega) h5, uniN_comm b.names a.names]
        simp only [jn_comm n (kidZ b _) (kidZ a _)]
      · rw [jnP, jnP, if_neg ha, if_neg hb, if_neg h6, if_neg (by omega), if_neg h4, if_neg h5, if_neg hb, if_neg ha, if_neg (by omega), if_neg (by omega), if_neg (by omega), if_neg (by omega), hne]
    · rw [jn_ne ha hb (by omega) (by omega) hne, jn_ne hb ha (by omega) (by omega) (fun h => hne h.symm)]
theorem joinD_comm (a b : Kd) : joinD a b = joinD b a := by
  unfold joinD
  rw [jn_comm 80 a b]
  by_cases h : 0 < qT a 1 ∧ 0 < qT b 1
  · rw [if_pos h, if_pos ⟨h.2, h.1⟩]
  · rw [if_neg h, if_neg (fun k => h ⟨k.2, k.1⟩)]
/-! Two lists that rise, merged step by step. -/
theorem nlt_head {x : ByteArray} {l : List ByteArray} (h : (x :: l).Pairwise nlt) : ∀ y, y ∈ l → nlt x y := fun y hy => (List.pairwise_cons.1 h).1 y hy
theorem uni_left {x : ByteArray} {l m : List ByteArray} (hl : (x :: l).Pairwise nlt) (h : ∀ y, y ∈ m → nlt x y) : uniN (x :: l) m = x :: uniN l m := by
  refine rise_ext (uniN_rise _ _) (List.pairwise_cons.2 ⟨fun y hy => ?_, uniN_rise _ _⟩) fun y => ?_
  · rcases (uniN_mem y).1 hy with hy | hy
    · exact nlt_head hl y hy
    · exact h y hy
  · rw [uniN_mem, List.mem_cons, List.mem_cons, uniN_mem]
    exact or_assoc
theorem uni_both {x : ByteArray} {l m : List ByteArray} (hl : (x :: l).Pairwise nlt) (hm : (x :: m).Pairwise nlt) : uniN (x :: l) (x :: m) = x :: uniN l m := by
  refine rise_ext (uniN_rise _ _) (List.pairwise_cons.2 ⟨fun y hy => ?_, uniN_rise _ _⟩) fun y => ?_
  · rcases (uniN_mem y).1 hy with hy | hy
    · exact nlt_head hl y hy
    · exact nlt_head hm y hy
  · simp only [uniN_mem, List.mem_cons]
    constructor
    · rintro ((h | h) | (h | h))
      · exact Or.inl h
      · exact Or.inr (Or.inl h)
      · exact Or.inl h
      · exact Or.inr (Or.inr h)
    · rintro (h | h | h)
      · exact Or.inl (Or.inl h)
      · exact Or.inl (Or.inr h)
      · exact Or.inr (Or.inr h)
theorem uni_nil : uniN [] [] = [] := rise_ext (uniN_rise _ _) List.Pairwise.nil fun x => by rw [uniN_mem]; simp
/-- How far two lists of names are merged: what came of them, and what is left. -/
structure Mg (an bn : List ByteArray) (i j : Nat) (out : List ByteArray) : Prop where
  hi : i ≤ an.length
  hj : j ≤ bn.length
  all : uniN an bn = out ++ uniN (an.drop i) (bn.drop j)
  mem : ∀ x, x ∈ out ↔ x ∈ an.take i ∨ x ∈ bn.take j
section
variable {an bn : List ByteArray} {i j : Nat} {out : List ByteArray}
theorem Mg.start (an bn : List ByteArray) : Mg an bn 0 0 [] := ⟨Nat.zero_le _, Nat.zero_le _, rfl, fun x => by simp⟩
theorem Mg.done (h : Mg an bn i j out) (hi : an.length ≤ i) (hj : bn.length ≤ j) : uniN an bn = out := by
  rw [h.all, List.drop_eq_nil_of_le hi, List.drop_eq_nil_of_le hj, uni_nil, List.append_nil]
theorem Mg.len (h : Mg an bn i j out) : out.length ≤ an.length + bn.length := by
  have h1 := uniN_len an bn
  have h2 := uniL_len an bn
  have h3 := congrArg List.length h.all
  rw [List.length_append] at h3
  omega
/-- What comes next is not among what came. -/
theorem Mg.new (h : Mg an bn i j out) {x : ByteArray} {r : List ByteArray} (e : uniN (an.drop i) (bn.drop j) = x :: r) : x ∉ out := fun hx => by
  have h1 := uniN_rise an bn
  rw [h.all, e, List.pairwise_append] at h1
  exact nlt_irrefl x (h1.2.2 x hx x (by simp))
theorem drop_rise (h : an.Pairwise nlt) (i : Nat) : (an.drop i).Pairwise nlt := h.sublist (List.drop_sublist _ _)
theorem rise_mono (h : an.Pairwise nlt) {i j : Nat} (hij : i < j) (hj : j < an.length) : nlt (an[i]'(by omega)) an[j] := List.pairwise_iff_getElem.1 h i j (by omega) hj hij
theorem take_snoc_mem {l : List ByteArray} {i : Nat} (hi : i < l.length) (x : ByteArray) : x ∈ l.take (i + 1) ↔ x ∈ l.take i ∨ x = l[i] := by
  rw [List.take_succ_eq_append_getElem hi, List.mem_append, List.mem_singleton]
/-- The next name is of the first alone. -/
theorem Mg.left (ha : an.Pairwise nlt) (hb : bn.Pairwise nlt) (h : Mg an bn i j out) (hi : i < an.length) (hlt : ∀ hj : j < bn.length, nlt an[i] bn[j]) : Mg an bn (i + 1) j (out ++ [an[i]]) ∧ an[i] ∉ bn := by
  have hd : ∀ y, y ∈ bn.drop j → nlt an[i] y := fun y hy => by
    by_cases hj : j < bn.length
    · rw [List.drop_eq_getElem_cons hj, List.mem_cons] at hy
      rcases hy with rfl | hy
      · exact hlt hj
      · have := drop_rise hb j
        rw [List.drop_eq_getElem_cons hj] at this
        exact nlt_trans (hlt hj) (nlt_head this y hy)
    · rw [List.drop_eq_nil_of_le (by omega)] at hy; cases hy
  have e : uniN (an.drop i) (bn.drop j) = an[i] :: uniN (an.drop (i + 1)) (bn.drop j) := by
    have h1 := drop_rise ha i
    rw [List.drop_eq_getElem_cons hi] at h1 ⊢
    exact uni_left h1 hd
  refine ⟨⟨hi, h.hj, by rw [h.all, e, List.append_assoc]; rfl, fun x => ?_⟩, fun hx => ?_⟩
  · rw [List.mem_append, h.mem, take_snoc_mem hi, List.mem_singleton]
    constructor
    · rintro ((h | h) | h)
      · exact Or.inl (Or.inl h)
      · exact Or.inr h
      · exact Or.inl (Or.inr h)
    · rintro ((h | h) | h)
      · exact Or.inl (Or.inl h)
      · exact Or.inr h
      · exact Or.inl (Or.inr h)
  · rw [← List.take_append_drop j bn, List.mem_append] at hx
    rcases hx with hx | hx
    · exact h.new e ((h.mem _).2 (Or.inr hx))
    · exact nlt_irrefl _ (hd _ hx)
theorem Mg.swap (h : Mg an bn i j out) : Mg bn an j i out := ⟨h.hj, h.hi, by rw [uniN_comm, h.all, uniN_comm (an.drop i)], fun x => by rw [h.mem]; exact Or.comm⟩
theorem Mg.right (ha : an.Pairwise nlt) (hb : bn.Pairwise nlt) (h : Mg an bn i j out) (hj : j < bn.length) (hlt : ∀ hi : i < an.length, nlt bn[j] an[i]) : Mg an bn i (j + 1) (out ++ [bn[j]]) ∧ bn[j] ∉ an := by
  obtain ⟨h1, h2⟩ := h.swap.left hb ha hj hlt
  exact ⟨h1.swap, h2⟩
/-- The next name is of both. -/
theorem Mg.both (ha : an.Pairwise nlt) (hb : bn.Pairwise nlt) (h : Mg an bn i j out) (hi : i < an.length) (hj : j < bn.length) (hx : bn[j] = an[i]) : Mg an bn (i + 1) (j + 1) (out ++ [an[i]]) := by
  have e : uniN (an.drop i) (bn.drop j) = an[i] :: uniN (an.drop (i + 1)) (bn.drop (j + 1)) := by
    have h1 := drop_rise ha i
    have h2 := drop_rise hb j
    rw [List.drop_eq_getElem_cons hi] at h1 ⊢
    rw [List.drop_eq_getElem_cons hj, hx] at h2 ⊢
    exact uni_both h1 h2
  refine ⟨hi, hj, by rw [h.all, e, List.append_assoc]; rfl, fun x => ?_⟩
  rw [List.mem_append, h.mem, take_snoc_mem hi, take_snoc_mem hj, List.mem_singleton, hx]
  constructor
  · rintro ((h | h) | h)
    · exact Or.inl (Or.inl h)
    · exact Or.inr (Or.inl h)
    · exact Or.inl (Or.inr h)
  · rintro ((h | h) | (h | h))
    · exact Or.inl (Or.inl h)
    · exact Or.inr h
    · exact Or.inl (Or.inr h)
    · exact Or.inr h
end
end Go.Proofs.YtenpghndgdemnaaGreatDoor

/- Widening in two steps: what fits into what fits, fits; once is as good as twice. No program, no conditions. -/

namespace Go.Proofs.YtenpghndgdemnaaGreatDoor
open Go Go.RowKit

theorem kidZ_ok {k : Kd} {nm : ByteArray} (h : okD k = true) (h5 : k.sort = 5) (hm : nm ∈ k.names) : okD (kidZ k nm) = true ∧ ksz (kidZ k nm) < ksz k := ⟨okD_mem h (kidZ_in h h5 hm), ksz_kid (kidZ_in h h5 hm)⟩
end Go.Proofs.YtenpghndgdemnaaGreatDoor
