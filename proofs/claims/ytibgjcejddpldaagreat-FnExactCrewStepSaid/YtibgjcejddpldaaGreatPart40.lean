/- A part. -/
import Derived.Test.YtibgjcejddpldaaGreatPart39
import Derived.Test.YtibgjcejddpldaaGreatPart34
namespace Go.Proofs.YtibgjcejddpldaaGreat
open Go Go.RowKit
set_option maxRecDepth 100000
set_option maxHeartbeats 1600000
theorem in_any (n lo hi : Int) (w : World) : Calls Tryz.prog 36 #[.int .i64 n, .int .i64 lo, .int .i64 hi] w fun e w' => e = .returned (.bool (decide (lo ≤ n ∧ n ≤ hi))) ∧ w = w' := by
 by_cases h1 : lo ≤ n
 · by_cases h2 : n ≤ hi
   · go_enter Tryz.func36, Tryz.ntmps36
     go_wp2_with fail
     go_ret
     exact ⟨by simp [h1, h2], rfl⟩
   · have hd : decide (lo ≤ n ∧ n ≤ hi) = false := decide_eq_false (fun h => h2 h.2)
     rw [hd]
     clear hd
     go_enter Tryz.func36, Tryz.ntmps36
     go_wp2_with fail
     go_ret
     exact ⟨rfl, rfl⟩
 · have hd : decide (lo ≤ n ∧ n ≤ hi) = false := decide_eq_false (fun h => h1 h.1)
   rw [hd]
   clear hd
   go_enter Tryz.func36, Tryz.ntmps36
   go_wp2_with fail
   go_ret
   exact ⟨rfl, rfl⟩
theorem inYes (n lo hi : Int) (w : World) (h : lo ≤ n ∧ n ≤ hi) : Calls Tryz.prog 36 #[.int .i64 n, .int .i64 lo, .int .i64 hi] w fun e w' => e = .returned (.bool true) ∧ w = w' := (in_any n lo hi w).mono fun e w' he => ⟨by rw [he.1, decide_eq_true h], he.2⟩
theorem inNo (n lo hi : Int) (w : World) (h : ¬ (lo ≤ n ∧ n ≤ hi)) : Calls Tryz.prog 36 #[.int .i64 n, .int .i64 lo, .int .i64 hi] w fun e w' => e = .returned (.bool false) ∧ w = w' := (in_any n lo hi w).mono fun e w' he => ⟨by rw [he.1, decide_eq_false h], he.2⟩
theorem ok_small {c : Cw} (h : okS c) : wC c ≤ 1048576 := by
 have hF := ((formS_iff c).1 h.1).1
 have hg := ((formS_iff c).1 h.1).2
 obtain ⟨⟨a1, a2⟩, ⟨a3, a4⟩, ⟨a5, a6⟩⟩ := hF.st
 have := hF.hands; have := hF.ring; have := hF.queue; have := hF.results; have := hF.out; have := hF.shut
 unfold wC
 omega
theorem spStep_reader (c : Cw) (A : A7) (P : Nat → Prop) (w : World) (h : CwAt P w c (A.v c)) (hP : ∀ b, P b → b < w.heap.size) (y : Nat) (hy : y = c.hands.length) (k : Nat) (hok : okS c) (hmv : (ways c (0))[k]? = some true) (x : Cw) (hx : wC x ≤ 1048576) (hdo : ∀ (W : World) (lo : Nat) (R : R7), Rw7 W lo c R → Calls Tryz.prog 39 #[.agg (lV c (R.v c)).toArray, .int .i64 (k : Int)] W fun e w' => SpEnd W w' e x R lo) : Calls Tryz.prog 8 #[.agg (lA c A).toArray, .agg #[.int .i64 0, .int .i64 (k : Int)]] w fun e w' => CwEnd w w' e x true := by
 have HF := xH ((formS_iff c).1 hok.1).1
 have HY := xH hy
 have hy8 : y ≤ 8 := by rw [hy]; exact (xU HF).small.1
 have HWY := xH (fun W (hW : Ag P w W c A) => by
  have hq := l52Ways_any c A P W hW.at' hW.hand.2 (xU HF) (0) (by omega)
  rw [show (((0 : Nat) : Nat) : Int) = 0 from rfl] at hq
  exact hq)
 have hbl := ways_len c (0)
 generalize ways c (0) = bs at hmv hbl HWY
 have hkl : k < bs.length := (List.getElem?_eq_some_iff.1 hmv).1
 have HBK := xH (show bs[k] = true from (List.getElem?_eq_some_iff.1 hmv).2)
 have HWC := xH hx
 have HSM := xH (ok_small hok)
 have HCP := xH (fun W (hW : Ag P w W c A) => l52Copy_row c A P W hW.at' hW.hand.2 (xU HSM))
 have HIN1 := xH (fun W => inYes (0) 0 ((y : Int) + 3) W (by omega))
 have HIN2 := xH (fun W => inYes ((k : Int)) 0 ((bs.length : Int) - 1) W (by omega))
 have hw3 : IntKind.i64.wrap ((y : Int) + 3) = (y : Int) + 3 := by rw [IntKind.wrap_i64]; omega
 have hwb : IntKind.i64.wrap ((bs.length : Int) - 1) = (bs.length : Int) - 1 := by rw [IntKind.wrap_i64]; omega
 have HDO := xH hdo
 clear hdo
 clear hmv hx hy
 have HS := xH (ag3 h hP (0) ((k : Int))).1; have HR0 := xH (ag3 h hP (0) ((k : Int))).2.1; have HM0 := xH (ag3 h hP (0) ((k : Int))).2.2.1; have HZ := xH (ag3 h hP (0) ((k : Int))).2.2.2
 have HCF := xH (fun W (hW : Ag P w W c A) => specCrewOk_any c A P W hW.at' hW.hand.2)
 obtain ⟨dd, hdu, hdr⟩ := rowWorld
 have HOK := xH hok
 clear h hP hok
 go_enter Tryz.func8, Tryz.ntmps8
 go_upto_region 1 with fail
 generalize ((w.alloc (.cells (lA c A).toArray 26)).alloc (.cells #[.int .i64 0, .int .i64 (k : Int)] 28)).alloc (.cells lZ.toArray 26) = W0 at HS HR0 HM0 HZ ⊢
 refine wp_region_list ?_
 refine wpList_load_mid rfl _ _ rfl w.heap.size 0 rfl (lA c A) dd (xU HS).range hdu hdr info18 ?_
 refine wpList_plain rfl (fun K hK => ?_)
 go_simp
 refine (xU HCF _ (xU HS)).mono ?_
 rintro e w1 ⟨⟨r, rfl, hr⟩, hb⟩
 refine hK _ _ ?_
 clear hK K
 have HS1 := xH ((xU HS).on hb)
 have HR1 := xH ((xU HR0).of_block (hb.block _ (xU HR0).lt))
 have HM1 := xH ((xU HM0).of_block (hb.block _ (xU HM0).lt))
 have HZ1 := xH (show w.heap.size + 3 ≤ w1.heap.size from by have := xU HZ; have := hb.size; omega)
 have HR := xH hr
 clear hb hr HCF HS HR0 HM0 HZ
 obtain rfl : r = true := (xU HR).2 (xU HOK)
 have m0 : w1.cell? ⟨w.heap.size + 1, 0, none⟩ = some (.int .i64 0) := (xU HM1).cell (i := 0) (by omega)
 have k1 := (xU HS1).k1
 rw [← (xU HF).hands, ← xU HY] at k1
 clear HR
 go_upto_region 3 with (go_at_call 36; refine (xU HIN1 _).mono ?_; rintro e w' ⟨rfl, rfl⟩)
 refine wp_region_list ?_
 refine wpList_load_mid rfl _ _ rfl w.heap.size 0 rfl (lA c A) dd (xU HS1).range hdu hdr info18 ?_
 go_upto_region 4 with (go_at_call 37; refine (xU HWY _ (xU HS1)).mono ?_; rintro e w2 ⟨a2, cap2, rfl, hbt, hb⟩)
 have HS2 := xH ((xU HS1).on hb)
 have HR2 := xH ((xU HR1).of_block (hb.block _ (xU HR1).lt))
 have HM2 := xH ((xU HM1).of_block (hb.block _ (xU HM1).lt))
 have HZ2 := xH (Nat.le_trans (xU HZ1) hb.size)
 clear hb m0 k1 HS1 HR1 HM1 HZ1 HWY
 obtain ⟨bb, bo, rfl, e0⟩ := hbt.at' k hkl
 rw [xU HBK] at e0
 have m1 : w2.cell? ⟨w.heap.size + 1, 1, none⟩ = some (.int .i64 (k : Int)) := (xU HM2).cell (i := 1) (by omega)
 clear hbt HBK
 generalize bs.length = nb at hbl hkl HIN2 hwb e0 ⊢
 go_upto_region 6 with (go_at_call 36; refine (xU HIN2 _).mono ?_; rintro e w' ⟨rfl, rfl⟩)
 clear m1 e0 hwb HIN1 HIN2 hw3 hbl hkl
 refine wp_region_list ?_
 refine wpList_load_mid rfl _ _ rfl w.heap.size 0 rfl (lA c A) dd (xU HS2).range hdu hdr info18 ?_
 refine wpList_plain rfl (fun K hK => ?_)
 go_simp
 refine (xU HCP _ (xU HS2)).mono ?_
 rintro e w3 ⟨R, rfl, hrw, hb⟩
 refine hK _ _ ?_
 clear hK K
 have hs3 := (xU HS2).on hb
 refine wpList_store_mid rfl _ _ _ rfl w.heap.size 0 (lV c (R.v c)).toArray rfl rfl (there_row hs3.box) info18 (one18 _ _ _ _ _ _ _ _ _ _ _ (R.v c) (by simp [R7.v, Value.oneCell'])) ?_
 have HBX := xH (row_all (n := 18) (lV c (R.v c)) rfl hs3.box)
 have HRS := xH (((xU HR2).of_block (hb.block _ (xU HR2).lt)).of_block (heap_setCells (b := w.heap.size) (lV c (R.v c)) 0 w3 _ (by omega)))
 have HMB := xH (((xU HM2).of_block (hb.block _ (xU HM2).lt)).of_block (heap_setCells (b := w.heap.size) (lV c (R.v c)) 0 w3 _ (by omega)))
 have HRW := xH (hrw.keep (W' := w3.setCells w.heap.size 0 (lV c (R.v c))) (fun b hb2 => heap_setCells _ _ _ _ (by have := (hrw.lt b hb2).1; have := xU HZ2; omega)) (by rw [size_setCells]; exact Nat.le_refl _))
 have HBL := xH (below_setCells (Nat.le_refl _) (lV c (R.v c)) 0 w3 hs3.bel)
 have HLO := xH (xU HZ2)
 clear hs3 hrw hb
 generalize w3.setCells w.heap.size 0 _ = W4 at HBX HRS HMB HRW HBL ⊢
 generalize w2.heap.size = lo at HRW HLO
 clear HS2 HR2 HM2 HZ2 HCP w3 w2 w1 W0
 have m0 : W4.cell? ⟨w.heap.size + 1, 0, none⟩ = some (.int .i64 0) := (xU HMB).cell (i := 0) (by omega)
 have m1 : W4.cell? ⟨w.heap.size + 1, 1, none⟩ = some (.int .i64 (k : Int)) := (xU HMB).cell (i := 1) (by omega)
 have k1 : W4.cell? ⟨w.heap.size, 1, none⟩ = some (.int .i64 (y : Int)) := by rw [show (y : Int) = c.workers from by rw [xU HY]; exact (xU HF).hands]; exact (xU HBX).cell (i := 1) (by omega)
 go_upto_region 10 with fail
 refine wp_region_list ?_
 refine wpList_load_mid rfl _ _ rfl w.heap.size 0 rfl (lV c (R.v c)) dd (range_row (lV c (R.v c)) rfl (xU HBX)) hdu hdr info18 ?_
 refine wpList_plain rfl (fun K hK => ?_); go_simp; refine hK _ _ ?_; clear hK K
 refine wpList_plain rfl (fun K hK => ?_); go_simp; refine hK _ _ ?_; clear hK K
 refine wpList_plain rfl (fun K hK => ?_)
 go_simp
 refine (xU HDO _ _ R (xU HRW)).mono ?_
 rintro e w5 ⟨v5, P5, rfl, hcw, hlt, hxc⟩
 refine hK _ _ ?_
 clear hK K m0 m1 k1
 obtain ⟨A5, rfl⟩ := hcw.addr
 have hnb : ∀ z, z < w.heap.size + 3 → z ∉ R.bl := fun z hz hm => by have := ((xU HRW).lt z hm).1; have := xU HLO; omega
 have hbx := (xU HBX).of_block (hxc.block _ (xU HBX).lt (hnb _ (by omega)))
 have hrs := (xU HRS).of_block (hxc.block _ (xU HRS).lt (hnb _ (by omega)))
 have hbl := (xU HBL).trans (hxc.below (xU HBL).size (fun z hz => by have := ((xU HRW).lt z hz).1; have := xU HLO; omega))
 refine wpList_store_mid rfl _ _ _ rfl w.heap.size 0 (lA x A5).toArray rfl rfl (there_row hbx) info18 (one18 _ _ _ _ _ _ _ _ _ _ _ (A5.v x) (by simp [A7.v, Value.oneCell'])) ?_
 have TB := xH (row_all (n := 18) (lA x A5) rfl hbx)
 have TR := xH (hrs.of_block (heap_setCells (b := w.heap.size) (lA x A5) 0 w5 _ (by omega)))
 have TW := xH (below_setCells (Nat.le_refl _) (lA x A5) 0 w5 hbl)
 have TC := xH (hcw.carry (w' := w5.setCells w.heap.size 0 (lA x A5)) (Q := fun b => b < (w5.setCells w.heap.size 0 (lA x A5)).heap.size) (fun b hb => heap_setCells _ _ _ _ (by have := (hlt b hb).1; have := xU HLO; omega)) (fun b hb => by rw [size_setCells]; exact (hlt b hb).2))
 clear hbx hrs hbl hcw hlt hxc hnb HBX HRS HMB HRW HBL HLO HDO
 generalize w5.setCells w.heap.size 0 _ = W5 at TB TR TW TC ⊢
 clear P5 w5 W4
 go_upto_region 23 with fail
 refine wp_region_list ?_
 refine wpList_load_mid rfl _ _ rfl w.heap.size 0 rfl (lA x A5) dd (range_row (lA x A5) rfl (xU TB)) hdu hdr info18 ?_
 refine wpList_plain rfl (fun K hK => ?_)
 go_simp
 refine (l52Copy_any x A5 _ W5 (xU TC) (fun _ h => h) (xU HWC)).mono ?_
 rintro e w6 ⟨v, Fq, Fh, Fr, Fg, Fo, Ft, Fs, rfl, hown, hdj, hrng, hb2⟩
 refine hK _ _ ?_
 clear hK K
 have hrw := (xU TR).of_block (hb2.block _ (xU TR).lt)
 have hbw := (xU TW).trans (hb2.mono (xU TW).size)
 have hlt := (xU TR).lt
 refine wpList_store_mid rfl _ _ _ rfl (w.heap.size + 2) 0 (lV x v).toArray rfl rfl (there_row hrw) info18 (one18 _ _ _ _ _ _ _ _ _ _ _ v (cw_one hown)) ?_
 have hr3 := row_all (n := 18) (lV x v) rfl hrw
 have hb3 := below_setCells (show w.heap.size ≤ w.heap.size + 2 by omega) (lV x v) 0 w6 hbw
 have ho3 := hown.carry (w' := w6.setCells (w.heap.size + 2) 0 (lV x v)) (fun b hb => heap_setCells _ _ _ _ (by have := (hrng b hb).1; omega))
 have hs3 : ∀ b, b ∈ F7 Fq Fh Fr Fg Fo Ft Fs → w.heap.size ≤ b ∧ b < (w6.setCells (w.heap.size + 2) 0 (lV x v)).heap.size := fun b hb => by
  rw [size_setCells]
  exact ⟨by have := (hrng b hb).1; omega, (hrng b hb).2⟩
 generalize w6.setCells (w.heap.size + 2) 0 _ = W at hr3 hb3 ho3 hs3 ⊢
 clear hrw hbw hown hrng hb2 TR TB TW TC hlt
 have HB := xH hb3; have HO := xH ho3; have HS := xH hs3; have HD := xH hdj
 clear hb3 ho3 hs3 hdj
 go_wp2_with fail
 exact bodyPost_ret (v := .tuple #[.agg (lV x v).toArray, .bool true]) (results18 (by rfl) _ _ (w.heap.size + 2) (lV x v) _ rfl rfl hr3 rfl) rfl ⟨v, _, _, _, _, _, _, _, rfl, xU HO, xU HD, xU HS, xU HB⟩
theorem spStep_worker (c : Cw) (A : A7) (P : Nat → Prop) (w : World) (h : CwAt P w c (A.v c)) (hP : ∀ b, P b → b < w.heap.size) (y : Nat) (hy : y = c.hands.length) (k i : Nat) (hi : i < c.hands.length) (hok : okS c) (hmv : (ways c (i + 1))[k]? = some true) (x : Cw) (hx : wC x ≤ 1048576) (hdo : ∀ (W : World) (lo : Nat) (R : R7), Rw7 W lo c R → Calls Tryz.prog 40 #[.agg (lV c (R.v c)).toArray, .int .i64 (i : Int), .int .i64 (k : Int)] W fun e w' => SpEnd W w' e x R lo) : Calls Tryz.prog 8 #[.agg (lA c A).toArray, .agg #[.int .i64 ((i : Int) + 1), .int .i64 (k : Int)]] w fun e w' => CwEnd w w' e x true := by
 have HF := xH ((formS_iff c).1 hok.1).1
 have HY := xH hy
 have hy8 : y ≤ 8 := by rw [hy]; exact (xU HF).small.1
 have HWY := xH (fun W (hW : Ag P w W c A) => by
  have hq := l52Ways_any c A P W hW.at' hW.hand.2 (xU HF) (i + 1) (by omega)
  rw [show (((i + 1 : Nat) : Nat) : Int) = ((i : Int) + 1) from by omega] at hq
  exact hq)
 have hbl := ways_len c (i + 1)
 generalize ways c (i + 1) = bs at hmv hbl HWY
 have hkl : k < bs.length := (List.getElem?_eq_some_iff.1 hmv).1
 have HBK := xH (show bs[k] = true from (List.getElem?_eq_some_iff.1 hmv).2)
 have HWC := xH hx
 have HSM := xH (ok_small hok)
 have HCP := xH (fun W (hW : Ag P w W c A) => l52Copy_row c A P W hW.at' hW.hand.2 (xU HSM))
 have HIN1 := xH (fun W => inYes (((i : Int) + 1)) 0 ((y : Int) + 3) W (by omega))
 have HIN2 := xH (fun W => inYes ((k : Int)) 0 ((bs.length : Int) - 1) W (by omega))
 have hw3 : IntKind.i64.wrap ((y : Int) + 3) = (y : Int) + 3 := by rw [IntKind.wrap_i64]; omega
 have hwb : IntKind.i64.wrap ((bs.length : Int) - 1) = (bs.length : Int) - 1 := by rw [IntKind.wrap_i64]; omega
 have HDO := xH hdo
 clear hdo
 have f0 : ¬ ((i : Int) + 1 = 0) := by omega
 have f0b : ((i : Int) + 1 == 0) = false := by simp; omega
 have f1 : decide ((i : Int) + 1 ≤ (y : Int)) = true := decide_eq_true (by omega)
 have hwi : IntKind.i64.wrap ((i : Int) + 1 - 1) = (i : Int) := by rw [IntKind.wrap_i64]; omega
 have hwj : IntKind.i64.wrap (i : Int) = (i : Int) := by rw [IntKind.wrap_i64]; omega
 clear hmv hx hy hi
 have HS := xH (ag3 h hP (((i : Int) + 1)) ((k : Int))).1; have HR0 := xH (ag3 h hP (((i : Int) + 1)) ((k : Int))).2.1; have HM0 := xH (ag3 h hP (((i : Int) + 1)) ((k : Int))).2.2.1; have HZ := xH (ag3 h hP (((i : Int) + 1)) ((k : Int))).2.2.2
 have HCF := xH (fun W (hW : Ag P w W c A) => specCrewOk_any c A P W hW.at' hW.hand.2)
 obtain ⟨dd, hdu, hdr⟩ := rowWorld
 have HOK := xH hok
 clear h hP hok
 go_enter Tryz.func8, Tryz.ntmps8
 go_upto_region 1 with fail
 generalize ((w.alloc (.cells (lA c A).toArray 26)).alloc (.cells #[.int .i64 ((i : Int) + 1), .int .i64 (k : Int)] 28)).alloc (.cells lZ.toArray 26) = W0 at HS HR0 HM0 HZ ⊢
 refine wp_region_list ?_
 refine wpList_load_mid rfl _ _ rfl w.heap.size 0 rfl (lA c A) dd (xU HS).range hdu hdr info18 ?_
 refine wpList_plain rfl (fun K hK => ?_)
 go_simp
 refine (xU HCF _ (xU HS)).mono ?_
 rintro e w1 ⟨⟨r, rfl, hr⟩, hb⟩
 refine hK _ _ ?_
 clear hK K
 have HS1 := xH ((xU HS).on hb)
 have HR1 := xH ((xU HR0).of_block (hb.block _ (xU HR0).lt))
 have HM1 := xH ((xU HM0).of_block (hb.block _ (xU HM0).lt))
 have HZ1 := xH (show w.heap.size + 3 ≤ w1.heap.size from by have := xU HZ; have := hb.size; omega)
 have HR := xH hr
 clear hb hr HCF HS HR0 HM0 HZ
 obtain rfl : r = true := (xU HR).2 (xU HOK)
 have m0 : w1.cell? ⟨w.heap.size + 1, 0, none⟩ = some (.int .i64 ((i : Int) + 1)) := (xU HM1).cell (i := 0) (by omega)
 have k1 := (xU HS1).k1
 rw [← (xU HF).hands, ← xU HY] at k1
 clear HR
 go_upto_region 3 with (go_at_call 36; refine (xU HIN1 _).mono ?_; rintro e w' ⟨rfl, rfl⟩)
 refine wp_region_list ?_
 refine wpList_load_mid rfl _ _ rfl w.heap.size 0 rfl (lA c A) dd (xU HS1).range hdu hdr info18 ?_
 go_upto_region 4 with (go_at_call 37; refine (xU HWY _ (xU HS1)).mono ?_; rintro e w2 ⟨a2, cap2, rfl, hbt, hb⟩)
 have HS2 := xH ((xU HS1).on hb)
 have HR2 := xH ((xU HR1).of_block (hb.block _ (xU HR1).lt))
 have HM2 := xH ((xU HM1).of_block (hb.block _ (xU HM1).lt))
 have HZ2 := xH (Nat.le_trans (xU HZ1) hb.size)
 clear hb m0 k1 HS1 HR1 HM1 HZ1 HWY
 obtain ⟨bb, bo, rfl, e0⟩ := hbt.at' k hkl
 rw [xU HBK] at e0
 have m1 : w2.cell? ⟨w.heap.size + 1, 1, none⟩ = some (.int .i64 (k : Int)) := (xU HM2).cell (i := 1) (by omega)
 clear hbt HBK
 generalize bs.length = nb at hbl hkl HIN2 hwb e0 ⊢
 go_upto_region 6 with (go_at_call 36; refine (xU HIN2 _).mono ?_; rintro e w' ⟨rfl, rfl⟩)
 clear m1 e0 hwb HIN1 HIN2 hw3 hbl hkl
 refine wp_region_list ?_
 refine wpList_load_mid rfl _ _ rfl w.heap.size 0 rfl (lA c A) dd (xU HS2).range hdu hdr info18 ?_
 refine wpList_plain rfl (fun K hK => ?_)
 go_simp
 refine (xU HCP _ (xU HS2)).mono ?_
 rintro e w3 ⟨R, rfl, hrw, hb⟩
 refine hK _ _ ?_
 clear hK K
 have hs3 := (xU HS2).on hb
 refine wpList_store_mid rfl _ _ _ rfl w.heap.size 0 (lV c (R.v c)).toArray rfl rfl (there_row hs3.box) info18 (one18 _ _ _ _ _ _ _ _ _ _ _ (R.v c) (by simp [R7.v, Value.oneCell'])) ?_
 have HBX := xH (row_all (n := 18) (lV c (R.v c)) rfl hs3.box)
 have HRS := xH (((xU HR2).of_block (hb.block _ (xU HR2).lt)).of_block (heap_setCells (b := w.heap.size) (lV c (R.v c)) 0 w3 _ (by omega)))
 have HMB := xH (((xU HM2).of_block (hb.block _ (xU HM2).lt)).of_block (heap_setCells (b := w.heap.size) (lV c (R.v c)) 0 w3 _ (by omega)))
 have HRW := xH (hrw.keep (W' := w3.setCells w.heap.size 0 (lV c (R.v c))) (fun b hb2 => heap_setCells _ _ _ _ (by have := (hrw.lt b hb2).1; have := xU HZ2; omega)) (by rw [size_setCells]; exact Nat.le_refl _))
 have HBL := xH (below_setCells (Nat.le_refl _) (lV c (R.v c)) 0 w3 hs3.bel)
 have HLO := xH (xU HZ2)
 clear hs3 hrw hb
 generalize w3.setCells w.heap.size 0 _ = W4 at HBX HRS HMB HRW HBL ⊢
 generalize w2.heap.size = lo at HRW HLO
 clear HS2 HR2 HM2 HZ2 HCP w3 w2 w1 W0
 have m0 : W4.cell? ⟨w.heap.size + 1, 0, none⟩ = some (.int .i64 ((i : Int) + 1)) := (xU HMB).cell (i := 0) (by omega)
 have m1 : W4.cell? ⟨w.heap.size + 1, 1, none⟩ = some (.int .i64 (k : Int)) := (xU HMB).cell (i := 1) (by omega)
 have k1 : W4.cell? ⟨w.heap.size, 1, none⟩ = some (.int .i64 (y : Int)) := by rw [show (y : Int) = c.workers from by rw [xU HY]; exact (xU HF).hands]; exact (xU HBX).cell (i := 1) (by omega)
 go_upto_region 12 with fail
 clear f0 f0b f1
 refine wp_region_list ?_
 refine wpList_load_mid rfl _ _ rfl w.heap.size 0 rfl (lV c (R.v c)) dd (range_row (lV c (R.v c)) rfl (xU HBX)) hdu hdr info18 ?_
 refine wpList_plain rfl (fun K hK => ?_); go_simp; refine hK _ _ ?_; clear hK K
 refine wpList_plain rfl (fun K hK => ?_); go_simp; refine hK _ _ ?_; clear hK K
 refine wpList_plain rfl (fun K hK => ?_); go_simp; refine hK _ _ ?_; clear hK K
 refine wpList_plain rfl (fun K hK => ?_); go_simp; refine hK _ _ ?_; clear hK K
 refine wpList_plain rfl (fun K hK => ?_); go_simp; refine hK _ _ ?_; clear hK K
 refine wpList_plain rfl (fun K hK => ?_)
 go_simp
 refine (xU HDO _ _ R (xU HRW)).mono ?_
 rintro e w5 ⟨v5, P5, rfl, hcw, hlt, hxc⟩
 refine hK _ _ ?_
 clear hK K m0 m1 k1
 obtain ⟨A5, rfl⟩ := hcw.addr
 have hnb : ∀ z, z < w.heap.size + 3 → z ∉ R.bl := fun z hz hm => by have := ((xU HRW).lt z hm).1; have := xU HLO; omega
 have hbx := (xU HBX).of_block (hxc.block _ (xU HBX).lt (hnb _ (by omega)))
 have hrs := (xU HRS).of_block (hxc.block _ (xU HRS).lt (hnb _ (by omega)))
 have hbl := (xU HBL).trans (hxc.below (xU HBL).size (fun z hz => by have := ((xU HRW).lt z hz).1; have := xU HLO; omega))
 refine wpList_store_mid rfl _ _ _ rfl w.heap.size 0 (lA x A5).toArray rfl rfl (there_row hbx) info18 (one18 _ _ _ _ _ _ _ _ _ _ _ (A5.v x) (by simp [A7.v, Value.oneCell'])) ?_
 have TB := xH (row_all (n := 18) (lA x A5) rfl hbx)
 have TR := xH (hrs.of_block (heap_setCells (b := w.heap.size) (lA x A5) 0 w5 _ (by omega)))
 have TW := xH (below_setCells (Nat.le_refl _) (lA x A5) 0 w5 hbl)
 have TC := xH (hcw.carry (w' := w5.setCells w.heap.size 0 (lA x A5)) (Q := fun b => b < (w5.setCells w.heap.size 0 (lA x A5)).heap.size) (fun b hb => heap_setCells _ _ _ _ (by have := (hlt b hb).1; have := xU HLO; omega)) (fun b hb => by rw [size_setCells]; exact (hlt b hb).2))
 clear hbx hrs hbl hcw hlt hxc hnb HBX HRS HMB HRW HBL HLO HDO
 generalize w5.setCells w.heap.size 0 _ = W5 at TB TR TW TC ⊢
 clear P5 w5 W4
 go_upto_region 23 with fail
 refine wp_region_list ?_
 refine wpList_load_mid rfl _ _ rfl w.heap.size 0 rfl (lA x A5) dd (range_row (lA x A5) rfl (xU TB)) hdu hdr info18 ?_
 refine wpList_plain rfl (fun K hK => ?_)
 go_simp
 refine (l52Copy_any x A5 _ W5 (xU TC) (fun _ h => h) (xU HWC)).mono ?_
 rintro e w6 ⟨v, Fq, Fh, Fr, Fg, Fo, Ft, Fs, rfl, hown, hdj, hrng, hb2⟩
 refine hK _ _ ?_
 clear hK K
 have hrw := (xU TR).of_block (hb2.block _ (xU TR).lt)
 have hbw := (xU TW).trans (hb2.mono (xU TW).size)
 have hlt := (xU TR).lt
 refine wpList_store_mid rfl _ _ _ rfl (w.heap.size + 2) 0 (lV x v).toArray rfl rfl (there_row hrw) info18 (one18 _ _ _ _ _ _ _ _ _ _ _ v (cw_one hown)) ?_
 have hr3 := row_all (n := 18) (lV x v) rfl hrw
 have hb3 := below_setCells (show w.heap.size ≤ w.heap.size + 2 by omega) (lV x v) 0 w6 hbw
 have ho3 := hown.carry (w' := w6.setCells (w.heap.size + 2) 0 (lV x v)) (fun b hb => heap_setCells _ _ _ _ (by have := (hrng b hb).1; omega))
 have hs3 : ∀ b, b ∈ F7 Fq Fh Fr Fg Fo Ft Fs → w.heap.size ≤ b ∧ b < (w6.setCells (w.heap.size + 2) 0 (lV x v)).heap.size := fun b hb => by
  rw [size_setCells]
  exact ⟨by have := (hrng b hb).1; omega, (hrng b hb).2⟩
 generalize w6.setCells (w.heap.size + 2) 0 _ = W at hr3 hb3 ho3 hs3 ⊢
 clear hrw hbw hown hrng hb2 TR TB TW TC hlt
 have HB := xH hb3; have HO := xH ho3; have HS := xH hs3; have HD := xH hdj
 clear hb3 ho3 hs3 hdj
 go_wp2_with fail
 exact bodyPost_ret (v := .tuple #[.agg (lV x v).toArray, .bool true]) (results18 (by rfl) _ _ (w.heap.size + 2) (lV x v) _ rfl rfl hr3 rfl) rfl ⟨v, _, _, _, _, _, _, _, rfl, xU HO, xU HD, xU HS, xU HB⟩
theorem spStep_keeper (c : Cw) (A : A7) (P : Nat → Prop) (w : World) (h : CwAt P w c (A.v c)) (hP : ∀ b, P b → b < w.heap.size) (y : Nat) (hy : y = c.hands.length) (k : Nat) (hok : okS c) (hmv : (ways c (y + 2))[k]? = some true) (x : Cw) (hx : wC x ≤ 1048576) (hdo : ∀ (W : World) (lo : Nat) (R : R7), Rw7 W lo c R → Calls Tryz.prog 41 #[.agg (lV c (R.v c)).toArray, .int .i64 (k : Int)] W fun e w' => SpEnd W w' e x R lo) : Calls Tryz.prog 8 #[.agg (lA c A).toArray, .agg #[.int .i64 ((y : Int) + 2), .int .i64 (k : Int)]] w fun e w' => CwEnd w w' e x true := by
 have HF := xH ((formS_iff c).1 hok.1).1
 have HY := xH hy
 have hy8 : y ≤ 8 := by rw [hy]; exact (xU HF).small.1
 have HWY := xH (fun W (hW : Ag P w W c A) => by
  have hq := l52Ways_any c A P W hW.at' hW.hand.2 (xU HF) (y + 2) (by omega)
  rw [show (((y + 2 : Nat) : Nat) : Int) = ((y : Int) + 2) from by omega] at hq
  exact hq)
 have hbl := ways_len c (y + 2)
 generalize ways c (y + 2) = bs at hmv hbl HWY
 have hkl : k < bs.length := (List.getElem?_eq_some_iff.1 hmv).1
 have HBK := xH (show bs[k] = true from (List.getElem?_eq_some_iff.1 hmv).2)
 have HWC := xH hx
 have HSM := xH (ok_small hok)
 have HCP := xH (fun W (hW : Ag P w W c A) => l52Copy_row c A P W hW.at' hW.hand.2 (xU HSM))
 have HIN1 := xH (fun W => inYes (((y : Int) + 2)) 0 ((y : Int) + 3) W (by omega))
 have HIN2 := xH (fun W => inYes ((k : Int)) 0 ((bs.length : Int) - 1) W (by omega))
 have hw3 : IntKind.i64.wrap ((y : Int) + 3) = (y : Int) + 3 := by rw [IntKind.wrap_i64]; omega
 have hwb : IntKind.i64.wrap ((bs.length : Int) - 1) = (bs.length : Int) - 1 := by rw [IntKind.wrap_i64]; omega
 have HDO := xH hdo
 clear hdo
 have f0 : ¬ ((y : Int) + 2 = 0) := by omega
 have f0b : ((y : Int) + 2 == 0) = false := by simp; omega
 have f1 : decide ((y : Int) + 2 ≤ (y : Int)) = false := decide_eq_false (by omega)
 have hw1 : IntKind.i64.wrap ((y : Int) + 1) = (y : Int) + 1 := by rw [IntKind.wrap_i64]; omega
 have hw2 : IntKind.i64.wrap ((y : Int) + 2) = (y : Int) + 2 := by rw [IntKind.wrap_i64]; omega
 have f2 : ¬ ((y : Int) + 2 = (y : Int) + 1) := by omega
 have f2b : ((y : Int) + 2 == (y : Int) + 1) = false := by simp
 clear hmv hx hy
 have HS := xH (ag3 h hP (((y : Int) + 2)) ((k : Int))).1; have HR0 := xH (ag3 h hP (((y : Int) + 2)) ((k : Int))).2.1; have HM0 := xH (ag3 h hP (((y : Int) + 2)) ((k : Int))).2.2.1; have HZ := xH (ag3 h hP (((y : Int) + 2)) ((k : Int))).2.2.2
 have HCF := xH (fun W (hW : Ag P w W c A) => specCrewOk_any c A P W hW.at' hW.hand.2)
 obtain ⟨dd, hdu, hdr⟩ := rowWorld
 have HOK := xH hok
 clear h hP hok
 go_enter Tryz.func8, Tryz.ntmps8
 go_upto_region 1 with fail
 generalize ((w.alloc (.cells (lA c A).toArray 26)).alloc (.cells #[.int .i64 ((y : Int) + 2), .int .i64 (k : Int)] 28)).alloc (.cells lZ.toArray 26) = W0 at HS HR0 HM0 HZ ⊢
 refine wp_region_list ?_
 refine wpList_load_mid rfl _ _ rfl w.heap.size 0 rfl (lA c A) dd (xU HS).range hdu hdr info18 ?_
 refine wpList_plain rfl (fun K hK => ?_)
 go_simp
 refine (xU HCF _ (xU HS)).mono ?_
 rintro e w1 ⟨⟨r, rfl, hr⟩, hb⟩
 refine hK _ _ ?_
 clear hK K
 have HS1 := xH ((xU HS).on hb)
 have HR1 := xH ((xU HR0).of_block (hb.block _ (xU HR0).lt))
 have HM1 := xH ((xU HM0).of_block (hb.block _ (xU HM0).lt))
 have HZ1 := xH (show w.heap.size + 3 ≤ w1.heap.size from by have := xU HZ; have := hb.size; omega)
 have HR := xH hr
 clear hb hr HCF HS HR0 HM0 HZ
 obtain rfl : r = true := (xU HR).2 (xU HOK)
 have m0 : w1.cell? ⟨w.heap.size + 1, 0, none⟩ = some (.int .i64 ((y : Int) + 2)) := (xU HM1).cell (i := 0) (by omega)
 have k1 := (xU HS1).k1
 rw [← (xU HF).hands, ← xU HY] at k1
 clear HR
 go_upto_region 3 with (go_at_call 36; refine (xU HIN1 _).mono ?_; rintro e w' ⟨rfl, rfl⟩)
 refine wp_region_list ?_
 refine wpList_load_mid rfl _ _ rfl w.heap.size 0 rfl (lA c A) dd (xU HS1).range hdu hdr info18 ?_
 go_upto_region 4 with (go_at_call 37; refine (xU HWY _ (xU HS1)).mono ?_; rintro e w2 ⟨a2, cap2, rfl, hbt, hb⟩)
 have HS2 := xH ((xU HS1).on hb)
 have HR2 := xH ((xU HR1).of_block (hb.block _ (xU HR1).lt))
 have HM2 := xH ((xU HM1).of_block (hb.block _ (xU HM1).lt))
 have HZ2 := xH (Nat.le_trans (xU HZ1) hb.size)
 clear hb m0 k1 HS1 HR1 HM1 HZ1 HWY
 obtain ⟨bb, bo, rfl, e0⟩ := hbt.at' k hkl
 rw [xU HBK] at e0
 have m1 : w2.cell? ⟨w.heap.size + 1, 1, none⟩ = some (.int .i64 (k : Int)) := (xU HM2).cell (i := 1) (by omega)
 clear hbt HBK
 generalize bs.length = nb at hbl hkl HIN2 hwb e0 ⊢
 go_upto_region 6 with (go_at_call 36; refine (xU HIN2 _).mono ?_; rintro e w' ⟨rfl, rfl⟩)
 clear m1 e0 hwb HIN1 HIN2 hw3 hbl hkl
 refine wp_region_list ?_
 refine wpList_load_mid rfl _ _ rfl w.heap.size 0 rfl (lA c A) dd (xU HS2).range hdu hdr info18 ?_
 refine wpList_plain rfl (fun K hK => ?_)
 go_simp
 refine (xU HCP _ (xU HS2)).mono ?_
 rintro e w3 ⟨R, rfl, hrw, hb⟩
 refine hK _ _ ?_
 clear hK K
 have hs3 := (xU HS2).on hb
 refine wpList_store_mid rfl _ _ _ rfl w.heap.size 0 (lV c (R.v c)).toArray rfl rfl (there_row hs3.box) info18 (one18 _ _ _ _ _ _ _ _ _ _ _ (R.v c) (by simp [R7.v, Value.oneCell'])) ?_
 have HBX := xH (row_all (n := 18) (lV c (R.v c)) rfl hs3.box)
 have HRS := xH (((xU HR2).of_block (hb.block _ (xU HR2).lt)).of_block (heap_setCells (b := w.heap.size) (lV c (R.v c)) 0 w3 _ (by omega)))
 have HMB := xH (((xU HM2).of_block (hb.block _ (xU HM2).lt)).of_block (heap_setCells (b := w.heap.size) (lV c (R.v c)) 0 w3 _ (by omega)))
 have HRW := xH (hrw.keep (W' := w3.setCells w.heap.size 0 (lV c (R.v c))) (fun b hb2 => heap_setCells _ _ _ _ (by have := (hrw.lt b hb2).1; have := xU HZ2; omega)) (by rw [size_setCells]; exact Nat.le_refl _))
 have HBL := xH (below_setCells (Nat.le_refl _) (lV c (R.v c)) 0 w3 hs3.bel)
 have HLO := xH (xU HZ2)
 clear hs3 hrw hb
 generalize w3.setCells w.heap.size 0 _ = W4 at HBX HRS HMB HRW HBL ⊢
 generalize w2.heap.size = lo at HRW HLO
 clear HS2 HR2 HM2 HZ2 HCP w3 w2 w1 W0
 have m0 : W4.cell? ⟨w.heap.size + 1, 0, none⟩ = some (.int .i64 ((y : Int) + 2)) := (xU HMB).cell (i := 0) (by omega)
 have m1 : W4.cell? ⟨w.heap.size + 1, 1, none⟩ = some (.int .i64 (k : Int)) := (xU HMB).cell (i := 1) (by omega)
 have k1 : W4.cell? ⟨w.heap.size, 1, none⟩ = some (.int .i64 (y : Int)) := by rw [show (y : Int) = c.workers from by rw [xU HY]; exact (xU HF).hands]; exact (xU HBX).cell (i := 1) (by omega)
 go_upto_region 18 with fail
 clear f0 f0b f1 f2 f2b hw1 hw2
 refine wp_region_list ?_
 refine wpList_load_mid rfl _ _ rfl w.heap.size 0 rfl (lV c (R.v c)) dd (range_row (lV c (R.v c)) rfl (xU HBX)) hdu hdr info18 ?_
 refine wpList_plain rfl (fun K hK => ?_); go_simp; refine hK _ _ ?_; clear hK K
 refine wpList_plain rfl (fun K hK => ?_); go_simp; refine hK _ _ ?_; clear hK K
 refine wpList_plain rfl (fun K hK => ?_)
 go_simp
 refine (xU HDO _ _ R (xU HRW)).mono ?_
 rintro e w5 ⟨v5, P5, rfl, hcw, hlt, hxc⟩
 refine hK _ _ ?_
 clear hK K m0 m1 k1
 obtain ⟨A5, rfl⟩ := hcw.addr
 have hnb : ∀ z, z < w.heap.size + 3 → z ∉ R.bl := fun z hz hm => by have := ((xU HRW).lt z hm).1; have := xU HLO; omega
 have hbx := (xU HBX).of_block (hxc.block _ (xU HBX).lt (hnb _ (by omega)))
 have hrs := (xU HRS).of_block (hxc.block _ (xU HRS).lt (hnb _ (by omega)))
 have hbl := (xU HBL).trans (hxc.below (xU HBL).size (fun z hz => by have := ((xU HRW).lt z hz).1; have := xU HLO; omega))
 refine wpList_store_mid rfl _ _ _ rfl w.heap.size 0 (lA x A5).toArray rfl rfl (there_row hbx) info18 (one18 _ _ _ _ _ _ _ _ _ _ _ (A5.v x) (by simp [A7.v, Value.oneCell'])) ?_
 have TB := xH (row_all (n := 18) (lA x A5) rfl hbx)
 have TR := xH (hrs.of_block (heap_setCells (b := w.heap.size) (lA x A5) 0 w5 _ (by omega)))
 have TW := xH (below_setCells (Nat.le_refl _) (lA x A5) 0 w5 hbl)
 have TC := xH (hcw.carry (w' := w5.setCells w.heap.size 0 (lA x A5)) (Q := fun b => b < (w5.setCells w.heap.size 0 (lA x A5)).heap.size) (fun b hb => heap_setCells _ _ _ _ (by have := (hlt b hb).1; have := xU HLO; omega)) (fun b hb => by rw [size_setCells]; exact (hlt b hb).2))
 clear hbx hrs hbl hcw hlt hxc hnb HBX HRS HMB HRW HBL HLO HDO
 generalize w5.setCells w.heap.size 0 _ = W5 at TB TR TW TC ⊢
 clear P5 w5 W4
 go_upto_region 23 with fail
 refine wp_region_list ?_
 refine wpList_load_mid rfl _ _ rfl w.heap.size 0 rfl (lA x A5) dd (range_row (lA x A5) rfl (xU TB)) hdu hdr info18 ?_
 refine wpList_plain rfl (fun K hK => ?_)
 go_simp
 refine (l52Copy_any x A5 _ W5 (xU TC) (fun _ h => h) (xU HWC)).mono ?_
 rintro e w6 ⟨v, Fq, Fh, Fr, Fg, Fo, Ft, Fs, rfl, hown, hdj, hrng, hb2⟩
 refine hK _ _ ?_
 clear hK K
 have hrw := (xU TR).of_block (hb2.block _ (xU TR).lt)
 have hbw := (xU TW).trans (hb2.mono (xU TW).size)
 have hlt := (xU TR).lt
 refine wpList_store_mid rfl _ _ _ rfl (w.heap.size + 2) 0 (lV x v).toArray rfl rfl (there_row hrw) info18 (one18 _ _ _ _ _ _ _ _ _ _ _ v (cw_one hown)) ?_
 have hr3 := row_all (n := 18) (lV x v) rfl hrw
 have hb3 := below_setCells (show w.heap.size ≤ w.heap.size + 2 by omega) (lV x v) 0 w6 hbw
 have ho3 := hown.carry (w' := w6.setCells (w.heap.size + 2) 0 (lV x v)) (fun b hb => heap_setCells _ _ _ _ (by have := (hrng b hb).1; omega))
 have hs3 : ∀ b, b ∈ F7 Fq Fh Fr Fg Fo Ft Fs → w.heap.size ≤ b ∧ b < (w6.setCells (w.heap.size + 2) 0 (lV x v)).heap.size := fun b hb => by
  rw [size_setCells]
  exact ⟨by have := (hrng b hb).1; omega, (hrng b hb).2⟩
 generalize w6.setCells (w.heap.size + 2) 0 _ = W at hr3 hb3 ho3 hs3 ⊢
 clear hrw hbw hown hrng hb2 TR TB TW TC hlt
 have HB := xH hb3; have HO := xH ho3; have HS := xH hs3; have HD := xH hdj
 clear hb3 ho3 hs3 hdj
 go_wp2_with fail
 exact bodyPost_ret (v := .tuple #[.agg (lV x v).toArray, .bool true]) (results18 (by rfl) _ _ (w.heap.size + 2) (lV x v) _ rfl rfl hr3 rfl) rfl ⟨v, _, _, _, _, _, _, _, rfl, xU HO, xU HD, xU HS, xU HB⟩
end Go.Proofs.YtibgjcejddpldaaGreat
