/- The walk of the specification's l3Join at leaves and forms; l3Join whole. Conditions: schemas that are ok, of at most 40 parts. -/
import Derived.Test.YtenpghndgdemnaaGreatDoorPart38
import Derived.BigQuiet
import Derived.Deep.QuietTactic
import Derived.Deep.CutRange
namespace Go.Proofs.YtenpghndgdemnaaGreatDoor
open Go Go.RowKit

set_option maxRecDepth 100000 in
set_option maxHeartbeats 25600000 in
theorem join_fm (n : Nat) (a b : Kd) (w : World) (a1 a2 b1 b2 : Option Addr) (p1 p2 q1 q2 : Nat)
    (ha : KW w a ⟨.int .i64 a.sort, .slice a1 a.names.length p1, .slice a2 a.kids.length p2⟩) (hb : KW w b ⟨.int .i64 b.sort, .slice b1 b.names.length q1, .slice b2 b.kids.length q2⟩) (IH : JsS n) (hn : ksz a + ksz b ≤ n + 1) (hza : ksz a ≤ 40) (hzb : ksz b ≤ 40) (he : a.sort = b.sort) (h4 : a.sort ≠ 4) (h6 : a.sort ≠ 6) :
    Calls Tryz.prog 23 #[.agg #[.int .i64 a.sort, .slice a1 a.names.length p1, .slice a2 a.kids.length p2], .agg #[.int .i64 b.sort, .slice b1 b.names.length q1, .slice b2 b.kids.length q2]] w (JsO (jnP (n + 1) a b) w) := by
  have hla : a.kids.length = a.names.length := by rcases ha.sh with h | h | h <;> omega
  have hlb : b.kids.length = b.names.length := by rcases hb.sh with h | h | h <;> omega
  have hma : a.names.length ≤ 40 := by have := klszLen a.kids; have e := ksz_eq a; omega
  have hmb : b.names.length ≤ 40 := by have := klszLen b.kids; have e := ksz_eq b; omega
  have hB := BO.start w (.int .i64 a.sort) (.slice a1 a.names.length p1) (.slice a2 a.kids.length p2) (.int .i64 b.sort) (.slice b1 b.names.length q1) (.slice b2 b.kids.length q2) a.sort
  have ht1 : (a.sort == 6) = false := by rw [beq_eq_false_iff_ne]; exact h6
  have ht2 : (b.sort == 6) = false := by rw [beq_eq_false_iff_ne, ← he]; exact h6
  have ht3 : (a.sort != b.sort) = false := by rw [he]; simp
  have ht4 : (a.sort == 4) = false := by rw [beq_eq_false_iff_ne]; exact h4
  have hns8 : ∀ x, x ∈ a.names ∨ x ∈ b.names → x.size ≤ 9223372036854775807 := by
    have z : ∀ (k : Kd), okD k = true → ∀ x, x ∈ k.names → x.size ≤ 9223372036854775807 := fun k hk x hx => by
      rcases okD_sh hk with h | h | h
      · rw [List.eq_nil_of_length_eq_zero h.2.2] at hx; cases hx
      · rw [List.eq_nil_of_length_eq_zero h.2.2] at hx; cases hx
      · have := name_size ((rise_iff.1 h.2.2).2 x hx); omega
    exact fun x hx => hx.elim (z a ha.ok x) (z b hb.ok x)
  have HD : Hid (a.sort = b.sort ∧ a.sort ≠ 4 ∧ a.sort ≠ 6 ∧ ksz a + ksz b ≤ n + 1 ∧ ksz a ≤ 40 ∧ ksz b ≤ 40 ∧ a.names.length ≤ 40 ∧ b.names.length ≤ 40) := ⟨he, h4, h6, hn, hza, hzb, hma, hmb⟩
  have HLA := hide hla; have HLB := hide hlb; have HN8 := hide hns8
  have HA := hide ha; have HB := hide hb; have HI := hide IH
  have HOA := hide ha.ok; have HOB := hide hb.ok; have HRA := hide (rise_ok ha.ok); have HRB := hide (rise_ok hb.ok)
  have HS0 := hide (show I64 a.sort from (by obtain ⟨-, h, -⟩ := ha.rep.open; exact h))
  clear he h4 h6 hn hza hzb hla hlb ha hb IH hns8
  go_enter Tryz.func23, Tryz.ntmps23
  go_upto_region 11 with fail
  generalize ((((w.alloc (.cells #[.int .i64 a.sort, .slice a1 a.names.length p1, .slice a2 a.kids.length p2] 26)).alloc (.cells #[.int .i64 b.sort, .slice b1 b.names.length q1, .slice b2 b.kids.length q2] 26)).alloc (.cells #[.int .i64 0, .slice none 0 0, .slice none 0 0] 26)).alloc (.cells #[.int .i64 a.sort, .slice none 0 0, .slice none 0 0] 26)) = W0 at hB ⊢
  have HBW := hide hB.below
  have HBA := hide hB.a; have HBB := hide hB.b; have HBR := hide hB.r; have HSZ := hide hB.size
  have HJ0 : Hid (JR n a b (w.heap.size + 3) (w.heap.size + 1 + 1 + 1) W0 W0 0 0 0 none 0 none 0 [] [] (fun _ => False)) := ⟨Mg.start _ _, rfl, SK.zero hB.o (by omega), (fun _ h => by cases h), Below.refl _ _⟩
  clear hB
  go_wp2_with fail
  go_loopw [11, 12] (fun vi vj wr => ∃ (i j k : Nat) (aN : Option Addr) (capN : Nat) (aK : Option Addr) (capK : Nat) (out : List ByteArray) (xs : List Value) (P : Nat → Prop), i ≤ 40 ∧ j ≤ 40 ∧ k ≤ 80 ∧ vi = .int .i64 i ∧ vj = .int .i64 j ∧ Hid (JR n a b (w.heap.size + 3) (w.heap.size + 1 + 1 + 1) W0 wr i j k aN capN aK capK out xs P)) (fun vi vj _ => (a.names.length - (intOf vi).toNat) + (b.names.length - (intOf vj).toNat))
  case atStart => exact ⟨0, 0, 0, none, 0, none, 0, [], [], _, by omega, by omega, by omega, rfl, rfl, HJ0⟩
  case round =>
    clear HJ0
    obtain ⟨i, j, k, aN, capN, aK, capK, out, xs, P, hi40, hj40, hk80, rfl, rfl, HR⟩ := hrel
    have hlow := HR.out.low
    have hsz := HSZ.out
    have hra := HBA.out.of_block (hlow.block _ (by omega))
    have hrb := HBB.out.of_block (hlow.block _ (by omega))
    have hbw : Below w.heap.size w wr := HBW.out.trans (hlow.mono (by omega))
    have e1 := hra.cell (i := 1) (by omega); have f1 := hrb.cell (i := 1) (by omega)
    simp only [row3] at e1 f1
    have HW := hide hbw; have HRA2 := hide hra; have HRB2 := hide hrb
    clear hlow hra hrb hbw
    by_cases hia : i < a.names.length
    · by_cases hjb : j < b.names.length
      · by_cases hlt : nlt a.names[i] b.names[j]
        · as_aux_lemma =>
            obtain ⟨xb, xo, xc, xe, xl, xh⟩ := (unhide HA).name hia
            simp only [Value.slice.injEq] at xe
            obtain ⟨rfl, -, rfl⟩ := xe
            have xv := ((unhide HW).cell (show (⟨xb, xo + i, none⟩ : Addr).block < w.heap.size from xl)).trans xh
            clear xh
            obtain ⟨yb, yo, yc, ye, yl, yh⟩ := (unhide HB).name hjb
            simp only [Value.slice.injEq] at ye
            obtain ⟨rfl, -, rfl⟩ := ye
            have yv := ((unhide HW).cell (show (⟨yb, yo + j, none⟩ : Addr).block < w.heap.size from yl)).trans yh
            clear yh
            have xqli : i < a.kids.length := by rw [unhide HLA]; assumption
            obtain ⟨xqkb, xqko, xqkc, xqk1, xqk2, xqr1, xqr2, xqke, xqkl, xqk3, xqk4, xqk5, xqkw⟩ := (unhide HA).kid xqli
            simp only [Value.slice.injEq] at xqke
            obtain ⟨rfl, -, rfl⟩ := xqke
            have xqsz := ksz_kid (List.getElem_mem xqli)
            have kpa := ksz_eq a
            have kpb := ksz_eq b
            have hnn := HD.out.2.2.2.1
            have hz40 := HD.out.2.2.2.2
            have hbl : Op.bytesLess a.names[i].toList b.names[j].toList = true := hlt
            have HMG := hide (HR.out.mg.left HRA.out HRB.out hia (fun hj => hlt))
            have HJN : Hid (jnP n (kidZ a a.names[i]) (kidZ b a.names[i]) = some (loneK a.kids[i])) := by
              obtain ⟨m, rfl⟩ : ∃ m, n = m + 1 := ⟨n - 1, by omega⟩
              exact jn_left HOA.out HLA.out hia HMG.out.2
            have HKW := hide xqkw
            have HK3 := hide (show K3 w xqkb (xqko + i * 3) ⟨.int .i64 a.kids[i].sort, .slice xqk1 a.kids[i].names.length xqr1, .slice xqk2 a.kids[i].kids.length xqr2⟩ from ⟨xqkl, xqk3, xqk4, xqk5⟩)
            have HSK40 := hide (show ksz a.kids[i] ≤ 40 by omega)
            have HLEN : Hid (k + 1 ≤ 80) := by
              have h1 := HMG.out.1.len
              have h2 := HR.out.len
              have h3 := HD.out.2.2.2.2.2.2
              rw [List.length_append, h2, List.length_singleton] at h1
              exact Nat.le_trans h1 (by omega)
            clear xqkw xqk3 xqk4 xqk5 xqsz kpa kpb hnn hz40
            clear hlt
            generalize a.names[i] = na at *
            generalize b.names[j] = nb at *
            generalize a.kids[i] = kx at *
            go_wp2_with fail
            go_quiet (fail)
            go_upto_region 22 with fail
            have HRq := hide (HR.out.on (below_drewN (Below.refl wr.heap.size wr) nq))
            have HWq := hide (below_drewN HW.out nq)
            generalize (wr.drewN nq) = wq at *
            have hlow := HRq.out.low
            have hra := (Hid.out HBA).of_block (hlow.block _ (by omega))
            have hxv := (HWq.out.cell (show (⟨xb, xo + i, none⟩ : Addr).block < w.heap.size from xl))
            have hx0 := (HW.out.cell (show (⟨xb, xo + i, none⟩ : Addr).block < w.heap.size from xl))
            rw [← hx0] at hxv
            rw [xv] at hxv
            refine wp_swap (c' := Code.region 22 lj22Ops true) (by kernel_rfl) ?_
            refine wp_region_noPanic ?_
            refine lj22 (w.heap.size + 3) w.heap.size (w.heap.size + 1 + 1 + 1) xb xo a.names.length p1 i na a.sort (.slice aN k capN) (.slice aK k capK) aN k capN out (out.map (jnF n a b)) xs P wq _ (fun _ _ _ _ _ h => h) (by omega) ((hra.of_block (w' := wq.drew) rfl).cell (i := 1) (by omega)) (by omega) hxv hia (by omega) HRq.out.len rfl (HRq.out.sk.on (Below.refl _ _).drew) (by kernel_rfl) (fun u => by kernel_rfl) ?_
            rintro u aN9 capN9 W9 hsk9 hb9 - - -
            refine NoPanic.normal ?_
            simp only [List.take_succ_cons, List.take_zero, List.drop_succ_cons, List.drop_zero, List.cons_append, List.nil_append]
            have hb8 : Below (w.heap.size + 3) wq W9 := ((Below.refl _ _).drew).trans hb9
            have HW9 := hide (HWq.out.trans (hb8.mono (by omega)))
            have HS9 := hide hsk9; have HB9 := hide hb8
            clear hsk9 hb9 hb8 hxv hx0 hra hlow xv
            go_upto_region 23 with fail
            refine wp_swap (c' := Code.region 23 lj23Ops true) (by kernel_rfl) ?_
            refine wp_region_noPanic ?_
            have hra9 := (Hid.out HBA).of_block (w' := W9.drew) ((HRq.out.low.trans HB9.out).block _ (by omega))
            have hk3 : K3 W9.drew xqkb (xqko + i * 3) ⟨.int .i64 kx.sort, .slice xqk1 kx.names.length xqr1, .slice xqk2 kx.kids.length xqr2⟩ := ⟨Nat.lt_of_lt_of_le HK3.out.1 HW9.out.size, (HW9.out.cell HK3.out.1).trans HK3.out.2.1, (HW9.out.cell HK3.out.1).trans HK3.out.2.2.1, (HW9.out.cell HK3.out.1).trans HK3.out.2.2.2⟩
            have hcl : Calls Tryz.prog 46 #[.agg #[.int .i64 kx.sort, .slice xqk1 kx.names.length xqr1, .slice xqk2 kx.kids.length xqr2]] W9.drew fun e w' => ∃ d : C3, e = .returned (.agg #[d.c0, d.c1, d.c2]) ∧ KRep (New W9.drew w') w' (loneK kx) d ∧ Below W9.drew.heap.size W9.drew w' := (l3Maybe_any kx ⟨_, _, _⟩ W9.drew (HKW.out.on HW9.out.drew) HSK40.out).mono fun e w' h => h
            refine lj23 (w.heap.size + 3) w.heap.size (w.heap.size + 1 + 1 + 1) xqkb xqko a.kids.length p2 i ⟨.int .i64 kx.sort, .slice xqk1 kx.names.length xqr1, .slice xqk2 kx.kids.length xqr2⟩ a.sort (.slice aN9 (k + 1) capN9) aK k capK (out ++ [na]) (out.map (jnF n a b)) xs P (loneK kx) W9 _ (fun _ _ _ _ _ h => h) (by omega) (hra9.cell (i := 2) (by omega)) (by omega) hk3 xqli (by omega) (by rw [List.length_map]; exact HRq.out.len) (HS9.out.on (Below.refl _ _).drew) (by with_reducible exact hcl) (by kernel_rfl) (fun u => by kernel_rfl) ?_
            intro u9 aK9 capK9 xs9 P9 W8 hsk8 hb8
            refine NoPanic.normal ?_
            simp only [List.take_succ_cons, List.take_zero, List.drop_succ_cons, List.drop_zero, List.cons_append, List.nil_append]
            have HS8 := hide hsk8
            have HB8 := hide (HB9.out.trans (((Below.refl (w.heap.size + 3) W9).drew).trans hb8))
            have HRN := hide (HRq.out.step HMG.out.1 HJN.out HS8.out HB8.out)
            clear hsk8 hb8 HS8 HB8 hra9 hk3 hcl HS9 HB9 HRq HWq HR HW
            go_wp2_with fail
            go_roundw
            case rel => exact ⟨i + 1, j, k + 1, aN9, capN9, aK9, capK9, out ++ [na], xs9, P9, by omega, by omega, HLEN.out, numU i, rfl, HRN⟩
            case measure => simp [intOf]; omega
        · by_cases hgt : nlt b.names[j] a.names[i]
          · as_aux_lemma =>
              obtain ⟨xb, xo, xc, xe, xl, xh⟩ := (unhide HA).name hia
              simp only [Value.slice.injEq] at xe
              obtain ⟨rfl, -, rfl⟩ := xe
              have xv := ((unhide HW).cell (show (⟨xb, xo + i, none⟩ : Addr).block < w.heap.size from xl)).trans xh
              clear xh
              obtain ⟨yb, yo, yc, ye, yl, yh⟩ := (unhide HB).name hjb
              simp only [Value.slice.injEq] at ye
              obtain ⟨rfl, -, rfl⟩ := ye
              have yv := ((unhide HW).cell (show (⟨yb, yo + j, none⟩ : Addr).block < w.heap.size from yl)).trans yh
              clear yh
              have yqli : j < b.kids.length := by rw [unhide HLB]; assumption
              obtain ⟨yqkb, yqko, yqkc, yqk1, yqk2, yqr1, yqr2, yqke, yqkl, yqk3, yqk4, yqk5, yqkw⟩ := (unhide HB).kid yqli
              simp only [Value.slice.injEq] at yqke
              obtain ⟨rfl, -, rfl⟩ := yqke
              have yqsz := ksz_kid (List.getElem_mem yqli)
              have kpa := ksz_eq a
              have kpb := ksz_eq b
              have hnn := HD.out.2.2.2.1
              have hz40 := HD.out.2.2.2.2
              have hbl : Op.bytesLess a.names[i].toList b.names[j].toList = false := by simpa [nlt] using hlt
              have hbg : Op.bytesLess b.names[j].toList a.names[i].toList = true := hgt
              have hbe : (a.names[i].toList == b.names[j].toList) = false := by
                rw [beq_eq_false_iff_ne]
                intro e
                have h := hbg
                rw [e] at h
                exact nlt_irrefl _ h
              have HMG := hide (HR.out.mg.right HRA.out HRB.out hjb (fun hi => hgt))
              have HJN : Hid (jnP n (kidZ a b.names[j]) (kidZ b b.names[j]) = some (loneK b.kids[j])) := by
                obtain ⟨m, rfl⟩ : ∃ m, n = m + 1 := ⟨n - 1, by omega⟩
                exact jn_right HOB.out HLB.out hjb HMG.out.2
              have HKW := hide yqkw
              have HK3 := hide (show K3 w yqkb (yqko + j * 3) ⟨.int .i64 b.kids[j].sort, .slice yqk1 b.kids[j].names.length yqr1, .slice yqk2 b.kids[j].kids.length yqr2⟩ from ⟨yqkl, yqk3, yqk4, yqk5⟩)
              have HSK40 := hide (show ksz b.kids[j] ≤ 40 by omega)
              have HLEN : Hid (k + 1 ≤ 80) := by
                have h1 := HMG.out.1.len
                have h2 := HR.out.len
                have h3 := HD.out.2.2.2.2.2.2
                rw [List.length_append, h2, List.length_singleton] at h1
                exact Nat.le_trans h1 (by omega)
              clear yqkw yqk3 yqk4 yqk5 yqsz kpa kpb hnn hz40
              clear hlt hgt
              generalize a.names[i] = na at *
              generalize b.names[j] = nb at *
              generalize b.kids[j] = kx at *
              go_wp2_with fail
              go_quiet (fail)
              revert nq
              intro nq0
              go_wp2_with fail
              go_quiet (fail)
              go_upto_region 26 with fail
              have HRq := hide (HR.out.on (below_drewN (below_drewN (Below.refl wr.heap.size wr) nq0) nq))
              have HWq := hide (below_drewN (below_drewN HW.out nq0) nq)
              generalize ((wr.drewN nq0).drewN nq) = wq at *
              have hlow := HRq.out.low
              have hra := (Hid.out HBB).of_block (hlow.block _ (by omega))
              have hxv := (HWq.out.cell (show (⟨yb, yo + j, none⟩ : Addr).block < w.heap.size from yl))
              have hx0 := (HW.out.cell (show (⟨yb, yo + j, none⟩ : Addr).block < w.heap.size from yl))
              rw [← hx0] at hxv
              rw [yv] at hxv
              refine wp_swap (c' := Code.region 26 lj26Ops true) (by kernel_rfl) ?_
              refine wp_region_noPanic ?_
              refine lj26 (w.heap.size + 3) (w.heap.size + 1) (w.heap.size + 1 + 1 + 1) yb yo b.names.length q1 j nb a.sort (.slice aN k capN) (.slice aK k capK) aN k capN out (out.map (jnF n a b)) xs P wq _ (fun _ _ _ _ _ h => h) (by omega) ((hra.of_block (w' := wq.drew) rfl).cell (i := 1) (by omega)) (by omega) hxv hjb (by omega) HRq.out.len rfl (HRq.out.sk.on (Below.refl _ _).drew) (by kernel_rfl) (fun u => by kernel_rfl) ?_
              rintro u aN9 capN9 W9 hsk9 hb9 - - -
              refine NoPanic.normal ?_
              simp only [List.take_succ_cons, List.take_zero, List.drop_succ_cons, List.drop_zero, List.cons_append, List.nil_append]
              have hb8 : Below (w.heap.size + 3) wq W9 := ((Below.refl _ _).drew).trans hb9
              have HW9 := hide (HWq.out.trans (hb8.mono (by omega)))
              have HS9 := hide hsk9; have HB9 := hide hb8
              clear hsk9 hb9 hb8 hxv hx0 hra hlow yv
              go_upto_region 27 with fail
              refine wp_swap (c' := Code.region 27 lj27Ops true) (by kernel_rfl) ?_
              refine wp_region_noPanic ?_
              have hra9 := (Hid.out HBB).of_block (w' := W9.drew) ((HRq.out.low.trans HB9.out).block _ (by omega))
              have hk3 : K3 W9.drew yqkb (yqko + j * 3) ⟨.int .i64 kx.sort, .slice yqk1 kx.names.length yqr1, .slice yqk2 kx.kids.length yqr2⟩ := ⟨Nat.lt_of_lt_of_le HK3.out.1 HW9.out.size, (HW9.out.cell HK3.out.1).trans HK3.out.2.1, (HW9.out.cell HK3.out.1).trans HK3.out.2.2.1, (HW9.out.cell HK3.out.1).trans HK3.out.2.2.2⟩
              have hcl : Calls Tryz.prog 46 #[.agg #[.int .i64 kx.sort, .slice yqk1 kx.names.length yqr1, .slice yqk2 kx.kids.length yqr2]] W9.drew fun e w' => ∃ d : C3, e = .returned (.agg #[d.c0, d.c1, d.c2]) ∧ KRep (New W9.drew w') w' (loneK kx) d ∧ Below W9.drew.heap.size W9.drew w' := (l3Maybe_any kx ⟨_, _, _⟩ W9.drew (HKW.out.on HW9.out.drew) HSK40.out).mono fun e w' h => h
              refine lj27 (w.heap.size + 3) (w.heap.size + 1) (w.heap.size + 1 + 1 + 1) yqkb yqko b.kids.length q2 j ⟨.int .i64 kx.sort, .slice yqk1 kx.names.length yqr1, .slice yqk2 kx.kids.length yqr2⟩ a.sort (.slice aN9 (k + 1) capN9) aK k capK (out ++ [nb]) (out.map (jnF n a b)) xs P (loneK kx) W9 _ (fun _ _ _ _ _ h => h) (by omega) (hra9.cell (i := 2) (by omega)) (by omega) hk3 yqli (by omega) (by rw [List.length_map]; exact HRq.out.len) (HS9.out.on (Below.refl _ _).drew) (by with_reducible exact hcl) (by kernel_rfl) (fun u => by kernel_rfl) ?_
              intro u9 aK9 capK9 xs9 P9 W8 hsk8 hb8
              refine NoPanic.normal ?_
              simp only [List.take_succ_cons, List.take_zero, List.drop_succ_cons, List.drop_zero, List.cons_append, List.nil_append]
              have HS8 := hide hsk8
              have HB8 := hide (HB9.out.trans (((Below.refl (w.heap.size + 3) W9).drew).trans hb8))
              have HRN := hide (HRq.out.step HMG.out.1 HJN.out HS8.out HB8.out)
              clear hsk8 hb8 HS8 HB8 hra9 hk3 hcl HS9 HB9 HRq HWq HR HW
              go_wp2_with fail
              go_roundw
              case rel => exact ⟨i, j + 1, k + 1, aN9, capN9, aK9, capK9, out ++ [nb], xs9, P9, by omega, by omega, HLEN.out, rfl, numU j, HRN⟩
              case measure => simp [intOf]; omega
          · as_aux_lemma =>
              have heq := nlt_tri hlt hgt
              obtain ⟨xb, xo, xc, xe, xl, xh⟩ := (unhide HA).name hia
              simp only [Value.slice.injEq] at xe
              obtain ⟨rfl, -, rfl⟩ := xe
              have xv := ((unhide HW).cell (show (⟨xb, xo + i, none⟩ : Addr).block < w.heap.size from xl)).trans xh
              clear xh
              obtain ⟨yb, yo, yc, ye, yl, yh⟩ := (unhide HB).name hjb
              simp only [Value.slice.injEq] at ye
              obtain ⟨rfl, -, rfl⟩ := ye
              have yv := ((unhide HW).cell (show (⟨yb, yo + j, none⟩ : Addr).block < w.heap.size from yl)).trans yh
              clear yh
              have xqli : i < a.kids.length := by rw [unhide HLA]; assumption
              obtain ⟨xqkb, xqko, xqkc, xqk1, xqk2, xqr1, xqr2, xqke, xqkl, xqk3, xqk4, xqk5, xqkw⟩ := (unhide HA).kid xqli
              simp only [Value.slice.injEq] at xqke
              obtain ⟨rfl, -, rfl⟩ := xqke
              have xqsz := ksz_kid (List.getElem_mem xqli)
              have yqli : j < b.kids.length := by rw [unhide HLB]; assumption
              obtain ⟨yqkb, yqko, yqkc, yqk1, yqk2, yqr1, yqr2, yqke, yqkl, yqk3, yqk4, yqk5, yqkw⟩ := (unhide HB).kid yqli
              simp only [Value.slice.injEq] at yqke
              obtain ⟨rfl, -, rfl⟩ := yqke
              have yqsz := ksz_kid (List.getElem_mem yqli)
              have kpa := ksz_eq a
              have kpb := ksz_eq b
              have hnn := HD.out.2.2.2.1
              have hz40 := HD.out.2.2.2.2
              have hbl : Op.bytesLess a.names[i].toList b.names[j].toList = false := by simpa [nlt] using hlt
              have hbe : (a.names[i].toList == b.names[j].toList) = true := by rw [heq]; simp
              have HMG := hide (HR.out.mg.both HRA.out HRB.out hia hjb heq)
              have HJN := hide (jn_both (n := n) HOA.out HOB.out HLA.out HLB.out hia hjb heq)
              have HFA := hide (fun h : jnP n a.kids[i] b.kids[j] = none => jn_fail HOA.out HOB.out HD.out.1 HD.out.2.1 HD.out.2.2.1 (List.getElem_mem hia) (HJN.out.trans h))
              have HIH : Hid (∀ W, Below w.heap.size w W → Calls Tryz.prog 23 #[.agg #[.int .i64 a.kids[i].sort, .slice xqk1 a.kids[i].names.length xqr1, .slice xqk2 a.kids[i].kids.length xqr2], .agg #[.int .i64 b.kids[j].sort, .slice yqk1 b.kids[j].names.length yqr1, .slice yqk2 b.kids[j].kids.length yqr2]] W (JsO (jnP n a.kids[i] b.kids[j]) W)) := fun W hW => HI.out _ _ (by have := HD.out.2.2.2.1; omega) (by omega) (by omega) ⟨_, _, _⟩ ⟨_, _, _⟩ W (xqkw.on hW) (yqkw.on hW)
              have HX3 := hide (show K3 w xqkb (xqko + i * 3) ⟨.int .i64 a.kids[i].sort, .slice xqk1 a.kids[i].names.length xqr1, .slice xqk2 a.kids[i].kids.length xqr2⟩ from ⟨xqkl, xqk3, xqk4, xqk5⟩)
              have HY3 := hide (show K3 w yqkb (yqko + j * 3) ⟨.int .i64 b.kids[j].sort, .slice yqk1 b.kids[j].names.length yqr1, .slice yqk2 b.kids[j].kids.length yqr2⟩ from ⟨yqkl, yqk3, yqk4, yqk5⟩)
              have HLEN : Hid (k + 1 ≤ 80) := by
                have h1 := HMG.out.len
                have h2 := HR.out.len
                have h3 := HD.out.2.2.2.2.2.2
                rw [List.length_append, h2, List.length_singleton] at h1
                exact Nat.le_trans h1 (by omega)
              clear xqkw xqk3 xqk4 xqk5 xqsz yqkw yqk3 yqk4 yqk5 yqsz kpa kpb hnn hz40 hlt hgt heq
              generalize a.names[i] = na at *
              generalize b.names[j] = nb at *
              generalize a.kids[i] = kx at *
              generalize b.kids[j] = ky at *
              go_wp2_with fail
              go_quiet (fail)
              revert nq
              intro nq0
              go_wp2_with fail
              go_quiet (fail)
              go_upto_region 14 with fail
              have HRq := hide (HR.out.on (below_drewN (below_drewN (Below.refl wr.heap.size wr) nq0) nq))
              have HWq := hide (below_drewN (below_drewN HW.out nq0) nq)
              generalize ((wr.drewN nq0).drewN nq) = wq at *
              have hlow := HRq.out.low
              have hra := (HBA.out.of_block (hlow.block _ (by omega))).of_block (w' := wq.drew) rfl
              have hrb := (HBB.out.of_block (hlow.block _ (by omega))).of_block (w' := wq.drew) rfl
              have hd := HWq.out.drew
              have hxv := hd.cell (show (⟨xb, xo + i, none⟩ : Addr).block < w.heap.size from xl)
              have hx0 := (HW.out.cell (show (⟨xb, xo + i, none⟩ : Addr).block < w.heap.size from xl))
              rw [← hx0] at hxv
              rw [xv] at hxv
              have hk3 : ∀ (xb o : Nat) (z : C3), K3 w xb o z → K3 wq.drew xb o z := fun _ _ _ h => ⟨Nat.lt_of_lt_of_le h.1 hd.size, (hd.cell h.1).trans h.2.1, (hd.cell h.1).trans h.2.2.1, (hd.cell h.1).trans h.2.2.2⟩
              have hx3 := hk3 _ _ _ HX3.out
              have hy3 := hk3 _ _ _ HY3.out
              have hcl : ∀ W, Below wq.drew.heap.size wq.drew W → Calls Tryz.prog 23 #[.agg #[.int .i64 kx.sort, .slice xqk1 kx.names.length xqr1, .slice xqk2 kx.kids.length xqr2], .agg #[.int .i64 ky.sort, .slice yqk1 ky.names.length yqr1, .slice yqk2 ky.kids.length yqr2]] W fun e w' => Below W.heap.size W w' ∧ ∃ (d : C3) (er : Value), e = .returned (.tuple #[.agg #[d.c0, d.c1, d.c2], er]) ∧ Any3 d ∧ JSv (jnP n kx ky) W w' d er := fun W hW => (HIH.out W (hd.trans (hW.mono hd.size))).mono fun e w' h => h
              refine wp_swap (c' := Code.region 14 lj14Ops true) (by kernel_rfl) ?_
              refine wp_region_noPanic ?_
              refine lj14 w.heap.size (w.heap.size + 1) ⟨.int .i64 a.sort, .slice (some ⟨xb, xo, none⟩) a.names.length p1, .slice (some ⟨xqkb, xqko, none⟩) a.kids.length p2⟩ ⟨.int .i64 b.sort, .slice (some ⟨yb, yo, none⟩) b.names.length q1, .slice (some ⟨yqkb, yqko, none⟩) b.kids.length q2⟩ ⟨.int .i64 kx.sort, .slice xqk1 kx.names.length xqr1, .slice xqk2 kx.kids.length xqr2⟩ ⟨.int .i64 ky.sort, .slice yqk1 ky.names.length yqr1, .slice yqk2 ky.kids.length yqr2⟩ xqkb xqko a.kids.length p2 yqkb yqko b.kids.length q2 i j (fun V0 V1 d er => JSv (jnP n kx ky) V0 V1 d er) wq _ (fun _ _ _ _ _ h => h) hra hrb rfl rfl hx3 hy3 xqli yqli (by intro W hW; with_reducible exact hcl W hW) (by kernel_rfl) (fun u g er => by kernel_rfl) ?_
              intro u V0 V1 W d er g hV hJ hW hck hg hgb hap
              refine NoPanic.normal ?_
              simp only [List.take_succ_cons, List.take_zero, List.drop_succ_cons, List.drop_zero, List.cons_append, List.nil_append]
              have hzq : wq.drew.heap.size = wq.heap.size := rfl
              rw [hzq] at hV hW hgb
              have hzV := hV.size
              rw [hzq] at hzV
              have hzW := hW.size
              rw [hzq] at hzW
              have hwz := HWq.out.size
              have hqz := HRq.out.low.size
              have hsz := HSZ.out
              have HRW := hide (HRq.out.on ((Below.refl wq.heap.size wq).drew.trans hW))
              have HWW := hide (hd.trans (hW.mono hwz))
              clear hcl hk3 hx3 hy3 hra hrb hlow
              cases hov : jnP n kx ky with
              | none =>
                obtain rfl : er = .bool false := by rw [hJ.1, hov]; rfl
                have hr := HBR.out.of_block (HRW.out.low.block _ (by omega))
                have r0 := hr.cell (i := 0) (by omega); have r1 := hr.cell (i := 1) (by omega); have r2 := hr.cell (i := 2) (by omega); have rf := hr.frozen
                simp only [row3] at r0 r1 r2
                have HE : Hid (JsO (jnP (n + 1) a b) w (.returned (.tuple #[.agg #[.int .i64 0, .slice none 0 0, .slice none 0 0], .bool false])) (((W.setCell ⟨w.heap.size + 1 + 1, 0, none⟩ (.int .i64 0)).setCell ⟨w.heap.size + 1 + 1, 1, none⟩ (.slice none 0 0)).setCell ⟨w.heap.size + 1 + 1, 2, none⟩ (.slice none 0 0))) := by
                  rw [HFA.out hov]
                  exact JsO.none (d := ⟨_, _, _⟩) (any3_mk _ _ _ _ _ _ _) (below3 HWW.out (by omega) _ _ _)
                clear hV hJ hW hck hg hgb hap hr hd hxv hx0 HR HW HRq HWq HRW HWW HIH HX3 HY3 HJN HFA HMG hov
                go_wp2_with fail
                refine bodyPost_ret (v := .tuple #[.agg #[.int .i64 0, .slice none 0 0, .slice none 0 0], .bool false]) (by simp [results, Tryz.results23, go_sem, r0, r1, r2]) rfl (unhide HE)
              | some x =>
                obtain rfl : er = .bool true := by rw [hJ.1, hov]; rfl
                have hrep := hJ.rep hck hov
                obtain ⟨a7, c7, a8, c8, rfl⟩ := krepF hrep
                have hraW := (HBA.out.of_block (HRW.out.low.block _ (by omega))).of_block (w' := W.drew) rfl
                have hxW : W.drew.cell? ⟨xb, xo + i, none⟩ = some (.string na) := ((Below.refl W.heap.size W).drew.cell (show (⟨xb, xo + i, none⟩ : Addr).block < W.heap.size by show xb < _; omega)).trans ((hW.cell (show (⟨xb, xo + i, none⟩ : Addr).block < wq.heap.size by show xb < _; omega)).trans hxv)
                have HREP := hide hrep; have HG := hide hg; have HB1 := hide (((Below.refl wq.heap.size wq).drew.trans hW).mono (show (w.heap.size + 3) ≤ wq.heap.size by omega))
                have HJX := hide (HJN.out.trans hov)
                have hlW : (w.heap.size + 3) ≤ W.heap.size := by omega
                clear hJ hck hap hd hxv hx0 HFA HIH HX3 HY3 HJN hov hrep hg
                go_upto_region 17 with fail
                refine wp_swap (c' := Code.region 17 lj17Ops true) (by kernel_rfl) ?_
                refine wp_region_noPanic ?_
                refine lj17 (w.heap.size + 3) w.heap.size (w.heap.size + 1 + 1 + 1) xb xo a.names.length p1 i na a.sort (.slice aN k capN) (.slice aK k capK) aN k capN out (out.map (jnF n a b)) xs P W _ (fun _ _ _ _ _ h => h) (by omega) (hraW.cell (i := 1) (by omega)) (by omega) hxW hia (by omega) HRW.out.len rfl (HRW.out.sk.on (Below.refl _ _).drew) (by kernel_rfl) (fun u => by kernel_rfl) ?_
                intro u aN9 capN9 W9 hsk9 hb9 ho9 hz9 hnv9
                refine NoPanic.normal ?_
                simp only [List.take_succ_cons, List.take_zero, List.drop_succ_cons, List.drop_zero, List.cons_append, List.nil_append]
                have hzd : W.drew.heap.size = W.heap.size := rfl
                rw [hzd] at hz9 hnv9
                have hOq := HRq.out.sk.lt
                have hNq := HRq.out.sk.names.lt
                have hKq := HRq.out.sk.kids.lt
                have hat9 : ∀ b, b < W.heap.size → wq.heap.size ≤ b → W9.heap[b]? = W.heap[b]? := fun b h1 h2 => ho9 b h1 (by omega) (fun e => by have := (hNq b e).2; omega)
                have hal := (Below.refl W9.heap.size W9).alloc (Nat.le_refl _) (.cells #[.int .i64 x.sort, .slice a7 x.names.length c7, .slice a8 x.kids.length c8] 26)
                have HQ9 : Hid (∀ b, New V0 W b → (w.heap.size + 3) ≤ b ∧ b < (W9.alloc (.cells #[.int .i64 x.sort, .slice a7 x.names.length c7, .slice a8 x.kids.length c8] 26)).heap.size ∧ b ≠ (w.heap.size + 1 + 1 + 1) ∧ (Value.slice aN9 (k + 1) capN9).ownBlock ≠ some b ∧ (Value.slice aK k capK).ownBlock ≠ some b) := fun b hb => by
                  obtain ⟨h1, h2⟩ := hb
                  refine ⟨by omega, by rw [World.size_alloc]; omega, by omega, fun e => ?_, fun e => by have := (hKq b e).2; omega⟩
                  rcases hnv9 with h | ⟨q, h, h'⟩
                  · rw [h] at e
                    have := (hNq b e).2
                    omega
                  · rw [h] at e
                    have : q = b := by simpa using e
                    omega
                have HREP9 := hide (KRep.carry (Q := New V0 W) (fun b hb => (hal.block b (by have := hb.2; omega)).trans (hat9 b hb.2 (by have := hb.1; omega))) (fun _ h => h) _ _ HREP.out)
                have hg9 := HG.out.of_block (hat9 g HG.out.lt hgb)
                have g0 := hg9.cell (i := 0) (by omega); have g1 := hg9.cell (i := 1) (by omega); have g2 := hg9.cell (i := 2) (by omega)
                have o2 := hsk9.box.cell (i := 2) (by omega)
                simp only [row3] at g0 g1 g2 o2
                have HSA := hide (hsk9.on hal)
                have hown := HSA.out.kids
                rw [List.length_map, HRq.out.len] at hown
                have HOWN := hide hown
                have HB9 := hide (((HB1.out.trans ((Below.refl W.heap.size W).drew.mono hlW)).trans hb9).trans (hal.mono (by omega)))
                have hk2 : k ≤ 2000 := by omega
                have hone : ∀ u ∈ c3l ⟨.int .i64 x.sort, .slice a7 x.names.length c7, .slice a8 x.kids.length c8⟩, u.oneCell' = true := fun u hu => by simp only [c3l, List.mem_cons, List.not_mem_nil, or_false] at hu; rcases hu with rfl | rfl | rfl <;> rfl
                have hn9 : (w.heap.size + 3) ≤ (W9.alloc (.cells #[.int .i64 x.sort, .slice a7 x.names.length c7, .slice a8 x.kids.length c8] 26)).heap.size := by rw [World.size_alloc]; omega
                clear hsk9 hb9 ho9 hz9 hnv9 hOq hNq hKq hat9 hal HG HREP hg9 hown hV hW hgb hzV hzW hraW hxW HRW HR HW
                go_wp2_with (at_builtin; refine append_kdJ _ rfl _ _ rfl (w.heap.size + 3) aK k capK xs rfl HOWN.out W9.heap.size ⟨.int .i64 x.sort, .slice a7 x.names.length c7, .slice a8 x.kids.length c8⟩ rfl (cell_three W9 _ _) hone hk2 hn9 ?_; intro fa2 fc2 W5 ho5 hg5 hn5; have hb5 := HSA.out.box.of_block (hg5.out.block (w.heap.size + 1 + 1 + 1) HSA.out.lt (fun e => HSA.out.gk e.symm)); have hc5 := hb5.cell (i := 2) (by omega); have hf5 := hb5.frozen 2)
                have HSN := hide (SK.kid HSA.out (Q := New V0 W) HREP9.out HQ9.out (W' := W5) (v' := .slice fa2 (k + 1) fc2) (by rw [List.length_map, HRq.out.len]; exact ho5.out) hg5.out hn5.out)
                have HBN := hide ((HB9.out.grown hg5.out hn9 (fun b e => by have := (HSA.out.kids.lt b e).1; omega)).setCell (show (w.heap.size + 3) ≤ (⟨(w.heap.size + 1 + 1 + 1), 2, none⟩ : Addr).block by show w.heap.size + 3 ≤ w.heap.size + 1 + 1 + 1; omega) (.slice fa2 (k + 1) fc2))
                have HRN := hide (HRq.out.step HMG.out HJX.out HSN.out HBN.out)
                clear ho5 hg5 hn5 hb5 hc5 hf5 HSN HBN HSA HREP9 HQ9 HB9 HRq HWq
                go_roundw
                case rel => exact ⟨i + 1, j + 1, k + 1, aN9, capN9, fa2, fc2, out ++ [na], _, _, by omega, by omega, HLEN.out, numU i, numU j, HRN⟩
                case measure => simp [intOf]; omega
      · as_aux_lemma =>
          obtain ⟨xb, xo, xc, xe, xl, xh⟩ := (unhide HA).name hia
          simp only [Value.slice.injEq] at xe
          obtain ⟨rfl, -, rfl⟩ := xe
          have xv := ((unhide HW).cell (show (⟨xb, xo + i, none⟩ : Addr).block < w.heap.size from xl)).trans xh
          clear xh
          have xqli : i < a.kids.length := by rw [unhide HLA]; assumption
          obtain ⟨xqkb, xqko, xqkc, xqk1, xqk2, xqr1, xqr2, xqke, xqkl, xqk3, xqk4, xqk5, xqkw⟩ := (unhide HA).kid xqli
          simp only [Value.slice.injEq] at xqke
          obtain ⟨rfl, -, rfl⟩ := xqke
          have xqsz := ksz_kid (List.getElem_mem xqli)
          have kpa := ksz_eq a
          have kpb := ksz_eq b
          have hnn := HD.out.2.2.2.1
          have hz40 := HD.out.2.2.2.2
          have HMG := hide (HR.out.mg.left HRA.out HRB.out hia (fun hj => absurd hj hjb))
          have HJN : Hid (jnP n (kidZ a a.names[i]) (kidZ b a.names[i]) = some (loneK a.kids[i])) := by
            obtain ⟨m, rfl⟩ : ∃ m, n = m + 1 := ⟨n - 1, by omega⟩
            exact jn_left HOA.out HLA.out hia HMG.out.2
          have HKW := hide xqkw
          have HK3 := hide (show K3 w xqkb (xqko + i * 3) ⟨.int .i64 a.kids[i].sort, .slice xqk1 a.kids[i].names.length xqr1, .slice xqk2 a.kids[i].kids.length xqr2⟩ from ⟨xqkl, xqk3, xqk4, xqk5⟩)
          have HSK40 := hide (show ksz a.kids[i] ≤ 40 by omega)
          have HLEN : Hid (k + 1 ≤ 80) := by
            have h1 := HMG.out.1.len
            have h2 := HR.out.len
            have h3 := HD.out.2.2.2.2.2.2
            rw [List.length_append, h2, List.length_singleton] at h1
            exact Nat.le_trans h1 (by omega)
          clear xqkw xqk3 xqk4 xqk5 xqsz kpa kpb hnn hz40
          generalize a.names[i] = na at *
          have hge : b.names.length ≤ j := by omega
          have hge2 : decide ((b.names.length : Int) ≤ (j : Int)) = true := decide_eq_true (by omega)
          clear hjb
          generalize a.kids[i] = kx at *
          go_wp2_with fail
          go_quiet (fail)
          go_upto_region 22 with fail
          have HRq := hide (HR.out.on (below_drewN (Below.refl wr.heap.size wr) nq))
          have HWq := hide (below_drewN HW.out nq)
          generalize (wr.drewN nq) = wq at *
          have hlow := HRq.out.low
          have hra := (Hid.out HBA).of_block (hlow.block _ (by omega))
          have hxv := (HWq.out.cell (show (⟨xb, xo + i, none⟩ : Addr).block < w.heap.size from xl))
          have hx0 := (HW.out.cell (show (⟨xb, xo + i, none⟩ : Addr).block < w.heap.size from xl))
          rw [← hx0] at hxv
          rw [xv] at hxv
          refine wp_swap (c' := Code.region 22 lj22Ops true) (by kernel_rfl) ?_
          refine wp_region_noPanic ?_
          refine lj22 (w.heap.size + 3) w.heap.size (w.heap.size + 1 + 1 + 1) xb xo a.names.length p1 i na a.sort (.slice aN k capN) (.slice aK k capK) aN k capN out (out.map (jnF n a b)) xs P wq _ (fun _ _ _ _ _ h => h) (by omega) ((hra.of_block (w' := wq.drew) rfl).cell (i := 1) (by omega)) (by omega) hxv hia (by omega) HRq.out.len rfl (HRq.out.sk.on (Below.refl _ _).drew) (by kernel_rfl) (fun u => by kernel_rfl) ?_
          rintro u aN9 capN9 W9 hsk9 hb9 - - -
          refine NoPanic.normal ?_
          simp only [List.take_succ_cons, List.take_zero, List.drop_succ_cons, List.drop_zero, List.cons_append, List.nil_append]
          have hb8 : Below (w.heap.size + 3) wq W9 := ((Below.refl _ _).drew).trans hb9
          have HW9 := hide (HWq.out.trans (hb8.mono (by omega)))
          have HS9 := hide hsk9; have HB9 := hide hb8
          clear hsk9 hb9 hb8 hxv hx0 hra hlow xv
          go_upto_region 23 with fail
          refine wp_swap (c' := Code.region 23 lj23Ops true) (by kernel_rfl) ?_
          refine wp_region_noPanic ?_
          have hra9 := (Hid.out HBA).of_block (w' := W9.drew) ((HRq.out.low.trans HB9.out).block _ (by omega))
          have hk3 : K3 W9.drew xqkb (xqko + i * 3) ⟨.int .i64 kx.sort, .slice xqk1 kx.names.length xqr1, .slice xqk2 kx.kids.length xqr2⟩ := ⟨Nat.lt_of_lt_of_le HK3.out.1 HW9.out.size, (HW9.out.cell HK3.out.1).trans HK3.out.2.1, (HW9.out.cell HK3.out.1).trans HK3.out.2.2.1, (HW9.out.cell HK3.out.1).trans HK3.out.2.2.2⟩
          have hcl : Calls Tryz.prog 46 #[.agg #[.int .i64 kx.sort, .slice xqk1 kx.names.length xqr1, .slice xqk2 kx.kids.length xqr2]] W9.drew fun e w' => ∃ d : C3, e = .returned (.agg #[d.c0, d.c1, d.c2]) ∧ KRep (New W9.drew w') w' (loneK kx) d ∧ Below W9.drew.heap.size W9.drew w' := (l3Maybe_any kx ⟨_, _, _⟩ W9.drew (HKW.out.on HW9.out.drew) HSK40.out).mono fun e w' h => h
          refine lj23 (w.heap.size + 3) w.heap.size (w.heap.size + 1 + 1 + 1) xqkb xqko a.kids.length p2 i ⟨.int .i64 kx.sort, .slice xqk1 kx.names.length xqr1, .slice xqk2 kx.kids.length xqr2⟩ a.sort (.slice aN9 (k + 1) capN9) aK k capK (out ++ [na]) (out.map (jnF n a b)) xs P (loneK kx) W9 _ (fun _ _ _ _ _ h => h) (by omega) (hra9.cell (i := 2) (by omega)) (by omega) hk3 xqli (by omega) (by rw [List.length_map]; exact HRq.out.len) (HS9.out.on (Below.refl _ _).drew) (by with_reducible exact hcl) (by kernel_rfl) (fun u => by kernel_rfl) ?_
          intro u9 aK9 capK9 xs9 P9 W8 hsk8 hb8
          refine NoPanic.normal ?_
          simp only [List.take_succ_cons, List.take_zero, List.drop_succ_cons, List.drop_zero, List.cons_append, List.nil_append]
          have HS8 := hide hsk8
          have HB8 := hide (HB9.out.trans (((Below.refl (w.heap.size + 3) W9).drew).trans hb8))
          have HRN := hide (HRq.out.step HMG.out.1 HJN.out HS8.out HB8.out)
          clear hsk8 hb8 HS8 HB8 hra9 hk3 hcl HS9 HB9 HRq HWq HR HW
          go_wp2_with fail
          go_roundw
          case rel => exact ⟨i + 1, j, k + 1, aN9, capN9, aK9, capK9, out ++ [na], xs9, P9, by omega, by omega, HLEN.out, numU i, rfl, HRN⟩
          case measure => simp [intOf]; omega
    · by_cases hjb : j < b.names.length
      · as_aux_lemma =>
          obtain ⟨yb, yo, yc, ye, yl, yh⟩ := (unhide HB).name hjb
          simp only [Value.slice.injEq] at ye
          obtain ⟨rfl, -, rfl⟩ := ye
          have yv := ((unhide HW).cell (show (⟨yb, yo + j, none⟩ : Addr).block < w.heap.size from yl)).trans yh
          clear yh
          have yqli : j < b.kids.length := by rw [unhide HLB]; assumption
          obtain ⟨yqkb, yqko, yqkc, yqk1, yqk2, yqr1, yqr2, yqke, yqkl, yqk3, yqk4, yqk5, yqkw⟩ := (unhide HB).kid yqli
          simp only [Value.slice.injEq] at yqke
          obtain ⟨rfl, -, rfl⟩ := yqke
          have yqsz := ksz_kid (List.getElem_mem yqli)
          have kpa := ksz_eq a
          have kpb := ksz_eq b
          have hnn := HD.out.2.2.2.1
          have hz40 := HD.out.2.2.2.2
          have HMG := hide (HR.out.mg.right HRA.out HRB.out hjb (fun hi => absurd hi hia))
          have HJN : Hid (jnP n (kidZ a b.names[j]) (kidZ b b.names[j]) = some (loneK b.kids[j])) := by
            obtain ⟨m, rfl⟩ : ∃ m, n = m + 1 := ⟨n - 1, by omega⟩
            exact jn_right HOB.out HLB.out hjb HMG.out.2
          have HKW := hide yqkw
          have HK3 := hide (show K3 w yqkb (yqko + j * 3) ⟨.int .i64 b.kids[j].sort, .slice yqk1 b.kids[j].names.length yqr1, .slice yqk2 b.kids[j].kids.length yqr2⟩ from ⟨yqkl, yqk3, yqk4, yqk5⟩)
          have HSK40 := hide (show ksz b.kids[j] ≤ 40 by omega)
          have HLEN : Hid (k + 1 ≤ 80) := by
            have h1 := HMG.out.1.len
            have h2 := HR.out.len
            have h3 := HD.out.2.2.2.2.2.2
            rw [List.length_append, h2, List.length_singleton] at h1
            exact Nat.le_trans h1 (by omega)
          clear yqkw yqk3 yqk4 yqk5 yqsz kpa kpb hnn hz40
          generalize b.names[j] = nb at *
          have hia2 := HR.out.mg.hi
          obtain rfl : i = a.names.length := by omega
          clear hia hia2
          have hjc : decide ((b.names.length : Int) ≤ (j : Int)) = false := decide_eq_false (by omega)
          have hjd : decide (b.names.length ≤ j) = false := decide_eq_false (by omega)
          generalize b.kids[j] = kx at *
          go_wp2_with fail
          go_quiet (fail)
          revert nq
          intro nq0
          go_wp2_with fail
          go_quiet (fail)
          go_upto_region 26 with fail
          have HRq := hide (HR.out.on (below_drewN (below_drewN (Below.refl wr.heap.size wr) nq0) nq))
          have HWq := hide (below_drewN (below_drewN HW.out nq0) nq)
          generalize ((wr.drewN nq0).drewN nq) = wq at *
          have hlow := HRq.out.low
          have hra := (Hid.out HBB).of_block (hlow.block _ (by omega))
          have hxv := (HWq.out.cell (show (⟨yb, yo + j, none⟩ : Addr).block < w.heap.size from yl))
          have hx0 := (HW.out.cell (show (⟨yb, yo + j, none⟩ : Addr).block < w.heap.size from yl))
          rw [← hx0] at hxv
          rw [yv] at hxv
          refine wp_swap (c' := Code.region 26 lj26Ops true) (by kernel_rfl) ?_
          refine wp_region_noPanic ?_
          refine lj26 (w.heap.size + 3) (w.heap.size + 1) (w.heap.size + 1 + 1 + 1) yb yo b.names.length q1 j nb a.sort (.slice aN k capN) (.slice aK k capK) aN k capN out (out.map (jnF n a b)) xs P wq _ (fun _ _ _ _ _ h => h) (by omega) ((hra.of_block (w' := wq.drew) rfl).cell (i := 1) (by omega)) (by omega) hxv hjb (by omega) HRq.out.len rfl (HRq.out.sk.on (Below.refl _ _).drew) (by kernel_rfl) (fun u => by kernel_rfl) ?_
          rintro u aN9 capN9 W9 hsk9 hb9 - - -
          refine NoPanic.normal ?_
          simp only [List.take_succ_cons, List.take_zero, List.drop_succ_cons, List.drop_zero, List.cons_append, List.nil_append]
          have hb8 : Below (w.heap.size + 3) wq W9 := ((Below.refl _ _).drew).trans hb9
          have HW9 := hide (HWq.out.trans (hb8.mono (by omega)))
          have HS9 := hide hsk9; have HB9 := hide hb8
          clear hsk9 hb9 hb8 hxv hx0 hra hlow yv
          go_upto_region 27 with fail
          refine wp_swap (c' := Code.region 27 lj27Ops true) (by kernel_rfl) ?_
          refine wp_region_noPanic ?_
          have hra9 := (Hid.out HBB).of_block (w' := W9.drew) ((HRq.out.low.trans HB9.out).block _ (by omega))
          have hk3 : K3 W9.drew yqkb (yqko + j * 3) ⟨.int .i64 kx.sort, .slice yqk1 kx.names.length yqr1, .slice yqk2 kx.kids.length yqr2⟩ := ⟨Nat.lt_of_lt_of_le HK3.out.1 HW9.out.size, (HW9.out.cell HK3.out.1).trans HK3.out.2.1, (HW9.out.cell HK3.out.1).trans HK3.out.2.2.1, (HW9.out.cell HK3.out.1).trans HK3.out.2.2.2⟩
          have hcl : Calls Tryz.prog 46 #[.agg #[.int .i64 kx.sort, .slice yqk1 kx.names.length yqr1, .slice yqk2 kx.kids.length yqr2]] W9.drew fun e w' => ∃ d : C3, e = .returned (.agg #[d.c0, d.c1, d.c2]) ∧ KRep (New W9.drew w') w' (loneK kx) d ∧ Below W9.drew.heap.size W9.drew w' := (l3Maybe_any kx ⟨_, _, _⟩ W9.drew (HKW.out.on HW9.out.drew) HSK40.out).mono fun e w' h => h
          refine lj27 (w.heap.size + 3) (w.heap.size + 1) (w.heap.size + 1 + 1 + 1) yqkb yqko b.kids.length q2 j ⟨.int .i64 kx.sort, .slice yqk1 kx.names.length yqr1, .slice yqk2 kx.kids.length yqr2⟩ a.sort (.slice aN9 (k + 1) capN9) aK k capK (out ++ [nb]) (out.map (jnF n a b)) xs P (loneK kx) W9 _ (fun _ _ _ _ _ h => h) (by omega) (hra9.cell (i := 2) (by omega)) (by omega) hk3 yqli (by omega) (by rw [List.length_map]; exact HRq.out.len) (HS9.out.on (Below.refl _ _).drew) (by with_reducible exact hcl) (by kernel_rfl) (fun u => by kernel_rfl) ?_
          intro u9 aK9 capK9 xs9 P9 W8 hsk8 hb8
          refine NoPanic.normal ?_
          simp only [List.take_succ_cons, List.take_zero, List.drop_succ_cons, List.drop_zero, List.cons_append, List.nil_append]
          have HS8 := hide hsk8
          have HB8 := hide (HB9.out.trans (((Below.refl (w.heap.size + 3) W9).drew).trans hb8))
          have HRN := hide (HRq.out.step HMG.out.1 HJN.out HS8.out HB8.out)
          clear hsk8 hb8 HS8 HB8 hra9 hk3 hcl HS9 HB9 HRq HWq HR HW
          go_wp2_with fail
          go_roundw
          case rel => exact ⟨_, j + 1, k + 1, aN9, capN9, aK9, capK9, out ++ [nb], xs9, P9, by omega, by omega, HLEN.out, rfl, numU j, HRN⟩
          case measure => simp [intOf]; omega
      · skip
        have hr := HBR.out.of_block (HR.out.low.block _ (by omega))
        have r0 := hr.cell (i := 0) (by omega); have r1 := hr.cell (i := 1) (by omega); have r2 := hr.cell (i := 2) (by omega); have rf := hr.frozen
        have ho := HR.out.sk.box
        have o0 := ho.cell (i := 0) (by omega); have o1 := ho.cell (i := 1) (by omega); have o2 := ho.cell (i := 2) (by omega)
        simp only [row3] at r0 r1 r2 o0 o1 o2
        have hdn := HR.out.done HOA.out HOB.out HD.out.1 HD.out.2.1 HD.out.2.2.1 (by omega) (by omega)
        have hlen := HR.out.len
        have hrep := HR.out.sk.rep HS0.out (fun x hx => HN8.out x (by
          rcases (HR.out.mg.mem x).1 hx with h | h
          · exact Or.inl (List.mem_of_mem_take h)
          · exact Or.inr (List.mem_of_mem_take h))) (by rw [List.length_map]; omega)
        have HBW2 := hide (below3 HW.out (R := w.heap.size + 1 + 1) (by omega) (.int .i64 a.sort) (.slice aN k capN) (.slice aK k capK))
        have h3 := but3 wr (w.heap.size + 1 + 1) (.int .i64 a.sort) (.slice aN k capN) (.slice aK k capK)
        have HE : Hid (JsO (jnP (n + 1) a b) w (.returned (.tuple #[.agg #[.int .i64 a.sort, .slice aN k capN, .slice aK k capK], .bool true])) (((wr.setCell ⟨w.heap.size + 1 + 1, 0, none⟩ (.int .i64 a.sort)).setCell ⟨w.heap.size + 1 + 1, 1, none⟩ (.slice aN k capN)).setCell ⟨w.heap.size + 1 + 1, 2, none⟩ (.slice aK k capK))) := by
          refine ⟨HBW2.out, ⟨_, _, _⟩, _, rfl, any3_mk _ _ _ _ _ _ _, by rw [hdn]; rfl, fun x hx => ?_, HBW2.out.size⟩
          rw [hdn] at hx
          injection hx with hx
          subst hx
          obtain ⟨y1, z1, y2, z2, g1, g2, hf⟩ := hrep
          exact KRep.carry (fun b hb => h3.at hb.2.1 (by have := hb.1; omega)) (fun b hb => ⟨by have := hb.1; omega, by rw [size_setCell, size_setCell, size_setCell]; exact hb.2.1⟩) _ _ hf
        have hRl := hr.lt
        clear hr ho hdn hrep h3 HBW2 HR
        go_wp2_with fail
        refine bodyPost_ret (v := .tuple #[.agg #[.int .i64 a.sort, .slice aN k capN, .slice aK k capK], .bool true]) (by simp [results, Tryz.results23, go_sem, r0, r1, r2]) rfl (unhide HE)
end Go.Proofs.YtenpghndgdemnaaGreatDoor
