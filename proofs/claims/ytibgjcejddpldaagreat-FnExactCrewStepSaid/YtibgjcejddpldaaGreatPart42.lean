/- A part. -/
import Derived.Test.YtibgjcejddpldaaGreatPart41
namespace Go.Proofs.YtibgjcejddpldaaGreat
open Go Go.RowKit
set_option maxRecDepth 100000
set_option maxHeartbeats 6400000
theorem Sb.set_o {W : World} {bx rs : Nat} {x : Cw} {v : C7} {b : B7} (h : Sb W bx rs x v b) (u : Value) (l : List Int) (hz : ZAt (· = b.o) W u l) : Sb (W.setCell ⟨bx, 12, none⟩ u) bx rs { x with out := l } { v with o := u } b := by
 have hn := h.bl_ne
 have hrb : rs ≠ bx := fun e => by have := h.nd; rw [List.nodup_cons] at this; exact this.1 (by rw [e]; simp)
 have hb := row_put h.box 12 (by simp) u
 have hk : ∀ z, z ∈ b.bl → (W.setCell ⟨bx, 12, none⟩ u).heap[z]? = W.heap[z]? := fun z hz => Below.heap_setCell _ _ _ _ (hn z hz).1
 refine ⟨hb, h.res.setOther (a := ⟨bx, 12, none⟩) hrb u, ZAt.carry h.q (fun y e => hk y (by rw [e]; simp [B7.bl])) (fun _ h => h), HAt.carry h.h (fun y e => hk y (by rw [e]; simp [B7.bl])) (fun _ h => h), ZAt.carry h.r (fun y e => hk y (by rw [e]; simp [B7.bl])) (fun _ h => h), ZAt.carry h.g (fun y e => hk y (by rw [e]; simp [B7.bl])) (fun _ h => h), ZAt.carry hz (fun y e => hk y (by rw [e]; simp [B7.bl])) (fun _ h => h), ZAt.carry h.t (fun y e => hk y (by rw [e]; simp [B7.bl])) (fun _ h => h), ZAt.carry h.s (fun y e => hk y (by rw [e]; simp [B7.bl])) (fun _ h => h), h.nd, fun y hy => by rw [World.size_setCell]; exact h.lt y hy⟩
theorem Sb.fin {W : World} {bx rs : Nat} {x : Cw} {v : C7} {b : B7} (h : Sb W bx rs x v b) : ∃ A5 : A7, W.rowIs bx 26 18 (r18 (lA x A5)) ∧ CwAt (fun b => b < W.heap.size) W x (A5.v x) := by
 obtain ⟨A5, hA⟩ := h.cw.addr
 subst hA
 exact ⟨A5, h.box, h.cw.carry (fun _ _ => rfl) h.lt⟩
theorem spStep_closer (c : Cw) (A : A7) (P : Nat → Prop) (w : World) (h : CwAt P w c (A.v c)) (hP : ∀ b, P b → b < w.heap.size) (y : Nat) (hy : y = c.hands.length) (k : Nat) (hok : okS c) (hmv : (ways c (y + 1))[k]? = some true) (x : Cw) (hx : wC x ≤ 1048576) (hxe : x = stC c) : Calls Tryz.prog 8 #[.agg (lA c A).toArray, .agg #[.int .i64 ((y : Int) + 1), .int .i64 (k : Int)]] w fun e w' => CwEnd w w' e x true := by
 have HF := xH ((formS_iff c).1 hok.1).1
 have HY := xH hy
 have hy8 : y ≤ 8 := by rw [hy]; exact (xU HF).small.1
 have HWY := xH (fun W (hW : Ag P w W c A) => by
  have hq := l52Ways_any c A P W hW.at' hW.hand.2 (xU HF) (y + 1) (by omega)
  rw [show (((y + 1 : Nat) : Nat) : Int) = ((y : Int) + 1) from by omega] at hq
  exact hq)
 have hbl := ways_len c (y + 1)
 generalize ways c (y + 1) = bs at hmv hbl HWY
 have hkl : k < bs.length := (List.getElem?_eq_some_iff.1 hmv).1
 have HBK := xH (show bs[k] = true from (List.getElem?_eq_some_iff.1 hmv).2)
 have HWC := xH hx
 have HSM := xH (ok_small hok)
 have HCP := xH (fun W (hW : Ag P w W c A) => l52Copy_row c A P W hW.at' hW.hand.2 (xU HSM))
 have HIN1 := xH (fun W => inYes (((y : Int) + 1)) 0 ((y : Int) + 3) W (by omega))
 have HIN2 := xH (fun W => inYes ((k : Int)) 0 ((bs.length : Int) - 1) W (by omega))
 have hw3 : IntKind.i64.wrap ((y : Int) + 3) = (y : Int) + 3 := by rw [IntKind.wrap_i64]; omega
 have hwb : IntKind.i64.wrap ((bs.length : Int) - 1) = (bs.length : Int) - 1 := by rw [IntKind.wrap_i64]; omega
 have f0 : ¬ ((y : Int) + 1 = 0) := by omega
 have f0b : ((y : Int) + 1 == 0) = false := by simp; omega
 have f1 : decide ((y : Int) + 1 ≤ (y : Int)) = false := decide_eq_false (by omega)
 have hw1 : IntKind.i64.wrap ((y : Int) + 1) = (y : Int) + 1 := by rw [IntKind.wrap_i64]; omega
 have hop := (xU HF).ops
 have hw17 : IntKind.i64.wrap (c.ops + 1) = c.ops + 1 := by rw [IntKind.wrap_i64]; omega
 clear hop
 have HXE := xH hxe
 clear hxe
 clear hmv hx hy
 have HS := xH (ag3 h hP (((y : Int) + 1)) ((k : Int))).1; have HR0 := xH (ag3 h hP (((y : Int) + 1)) ((k : Int))).2.1; have HM0 := xH (ag3 h hP (((y : Int) + 1)) ((k : Int))).2.2.1; have HZ := xH (ag3 h hP (((y : Int) + 1)) ((k : Int))).2.2.2
 have HCF := xH (fun W (hW : Ag P w W c A) => specCrewOk_any c A P W hW.at' hW.hand.2)
 obtain ⟨dd, hdu, hdr⟩ := rowWorld
 have HOK := xH hok
 clear h hP hok
 go_enter Tryz.func8, Tryz.ntmps8
 go_upto_region 1 with fail
 generalize ((w.alloc (.cells (lA c A).toArray 26)).alloc (.cells #[.int .i64 ((y : Int) + 1), .int .i64 (k : Int)] 28)).alloc (.cells lZ.toArray 26) = W0 at HS HR0 HM0 HZ ⊢
 refine wp_region_list ?_
 refine wpList_load_mid rfl _ _ rfl w.heap.size 0 rfl (lA c A) dd (xU HS).range hdu hdr info18 ?_
 refine wpList_plain rfl (fun K hK => ?_)
 go_simp
 refine (xU HCF _ (xU HS)).mono ?_
 rintro e w1 ⟨⟨r, rfl, hr⟩, hb⟩
 refine hK _ _ ?_
 clear hK K
 have HS1 := xH ((xU HS).on hb)
 have HR1 := xH ((xU HR0).of_block (hb.block _ (xU HR0).lt))
 have HM1 := xH ((xU HM0).of_block (hb.block _ (xU HM0).lt))
 have HZ1 := xH (show w.heap.size + 3 ≤ w1.heap.size from by have := xU HZ; have := hb.size; omega)
 have HR := xH hr
 clear hb hr HCF HS HR0 HM0 HZ
 obtain rfl : r = true := (xU HR).2 (xU HOK)
 have m0 : w1.cell? ⟨w.heap.size + 1, 0, none⟩ = some (.int .i64 ((y : Int) + 1)) := (xU HM1).cell (i := 0) (by omega)
 have k1 := (xU HS1).k1
 rw [← (xU HF).hands, ← xU HY] at k1
 clear HR
 go_upto_region 3 with (go_at_call 36; refine (xU HIN1 _).mono ?_; rintro e w' ⟨rfl, rfl⟩)
 refine wp_region_list ?_
 refine wpList_load_mid rfl _ _ rfl w.heap.size 0 rfl (lA c A) dd (xU HS1).range hdu hdr info18 ?_
 go_upto_region 4 with (go_at_call 37; refine (xU HWY _ (xU HS1)).mono ?_; rintro e w2 ⟨a2, cap2, rfl, hbt, hb⟩)
 have HS2 := xH ((xU HS1).on hb)
 have HR2 := xH ((xU HR1).of_block (hb.block _ (xU HR1).lt))
 have HM2 := xH ((xU HM1).of_block (hb.block _ (xU HM1).lt))
 have HZ2 := xH (Nat.le_trans (xU HZ1) hb.size)
 clear hb m0 k1 HS1 HR1 HM1 HZ1 HWY
 obtain ⟨bb, bo, rfl, e0⟩ := hbt.at' k hkl
 rw [xU HBK] at e0
 have m1 : w2.cell? ⟨w.heap.size + 1, 1, none⟩ = some (.int .i64 (k : Int)) := (xU HM2).cell (i := 1) (by omega)
 clear hbt HBK
 generalize bs.length = nb at hbl hkl HIN2 hwb e0 ⊢
 go_upto_region 6 with (go_at_call 36; refine (xU HIN2 _).mono ?_; rintro e w' ⟨rfl, rfl⟩)
 clear m1 e0 hwb HIN1 HIN2 hw3 hbl hkl
 refine wp_region_list ?_
 refine wpList_load_mid rfl _ _ rfl w.heap.size 0 rfl (lA c A) dd (xU HS2).range hdu hdr info18 ?_
 refine wpList_plain rfl (fun K hK => ?_)
 go_simp
 refine (xU HCP _ (xU HS2)).mono ?_
 rintro e w3 ⟨R, rfl, hrw, hb⟩
 refine hK _ _ ?_
 clear hK K
 have hs3 := (xU HS2).on hb
 refine wpList_store_mid rfl _ _ _ rfl w.heap.size 0 (lV c (R.v c)).toArray rfl rfl (there_row hs3.box) info18 (one18 _ _ _ _ _ _ _ _ _ _ _ (R.v c) (by simp [R7.v, Value.oneCell'])) ?_
 have HBX := xH (row_all (n := 18) (lV c (R.v c)) rfl hs3.box)
 have HRS := xH (((xU HR2).of_block (hb.block _ (xU HR2).lt)).of_block (heap_setCells (b := w.heap.size) (lV c (R.v c)) 0 w3 _ (by omega)))
 have HMB := xH (((xU HM2).of_block (hb.block _ (xU HM2).lt)).of_block (heap_setCells (b := w.heap.size) (lV c (R.v c)) 0 w3 _ (by omega)))
 have HRW := xH (hrw.keep (W' := w3.setCells w.heap.size 0 (lV c (R.v c))) (fun b hb2 => heap_setCells _ _ _ _ (by have := (hrw.lt b hb2).1; have := xU HZ2; omega)) (by rw [size_setCells]; exact Nat.le_refl _))
 have HBL := xH (below_setCells (Nat.le_refl _) (lV c (R.v c)) 0 w3 hs3.bel)
 have HLO := xH (xU HZ2)
 clear hs3 hrw hb
 generalize w3.setCells w.heap.size 0 _ = W4 at HBX HRS HMB HRW HBL ⊢
 generalize w2.heap.size = lo at HRW HLO
 clear HS2 HR2 HM2 HZ2 HCP w3 w2 w1 W0
 have m0 : W4.cell? ⟨w.heap.size + 1, 0, none⟩ = some (.int .i64 ((y : Int) + 1)) := (xU HMB).cell (i := 0) (by omega)
 have m1 : W4.cell? ⟨w.heap.size + 1, 1, none⟩ = some (.int .i64 (k : Int)) := (xU HMB).cell (i := 1) (by omega)
 have k1 : W4.cell? ⟨w.heap.size, 1, none⟩ = some (.int .i64 (y : Int)) := by rw [show (y : Int) = c.workers from by rw [xU HY]; exact (xU HF).hands]; exact (xU HBX).cell (i := 1) (by omega)
 have HS0 := xH (show Sb W4 w.heap.size (w.heap.size + 2) c (R.v c) R.b from (xU HRW).sb (xU HBX) (xU HRS) (by omega) (fun y hy => by have := ((xU HRW).lt y hy).1; have := xU HLO; omega))
 have HR0 := HRW; have HL0 := HBL
 clear HBX HRS HMB HBL
 go_upto_region 14 with fail
 clear f0 f0b f1 hw1 m0 m1 k1
 have ko : W4.cell? ⟨w.heap.size, 7, none⟩ = some (.int .i64 c.closer) := (xU HS0).box.cell (i := 7) (by omega)
 have fo := (xU HS0).box.frozen 7
 have HS1 := xH (show Sb (W4.setCell ⟨w.heap.size, 7, none⟩ (.int .i64 1)) w.heap.size (w.heap.size + 2) { c with closer := 1 } (R.v c) (R.b) from (xU HS0).put 7 (by omega) (.int .i64 1) rfl rfl rfl rfl rfl rfl rfl rfl)
 have HL1 := xH ((xU HL0).setCell (p := ⟨w.heap.size, 7, none⟩) (Nat.le_refl _) (.int .i64 1))
 have HR1 := xH ((xU HR0).keep (fun y hy => Below.heap_setCell W4 ⟨w.heap.size, 7, none⟩ (.int .i64 1) y (by have := ((xU HR0).lt y hy).1; have := xU HLO; show y ≠ w.heap.size; omega)) (by rw [World.size_setCell]; exact Nat.le_refl _))
 go_upto_region 15 with fail
 generalize W4.setCell ⟨w.heap.size, 7, none⟩ (.int .i64 1) = W1' at HS1 HL1 HR1 ⊢
 clear ko fo HS0 HL0 HR0 
 have k16 : W1'.cell? ⟨w.heap.size, 16, none⟩ = some (.slice (some ⟨R.s, 0, none⟩) 4 R.cs) := by rw [← (xU HF).shut]; exact (xU HS1).box.cell (i := 16) (by omega)
 have s0 : W1'.cell? ⟨R.s, 1, none⟩ = some (.int .i64 (c.shut.getD 1 0)) := by
  rw [World.ownsRow.cellAt (xU HR1).s 1 (by rw [(xU HF).shut]; omega), zflat_map, List.getElem?_map, List.getD_eq_getElem?_getD, List.getElem?_eq_getElem (by rw [(xU HF).shut]; omega)]
  rfl
 generalize c.shut.getD 1 0 = z0 at s0
 have sf := World.ownsRow.frozenAt (xU HR1).s 1
 have HS2 := xH (show Sb (W1'.setCell ⟨R.s, 1, none⟩ (.int .i64 1)) w.heap.size (w.heap.size + 2) { c with closer := 1, shut := c.shut.set 1 1 } (R.v c) (R.b) from (xU HS1).mod_s (Exc.set _ _ _ _ (by simp [R7.b])) (c.shut.set 1 1) (zat_set (own_set (xU HR1).s 1 1)))
 have HL2 := xH ((xU HL1).setCell (p := ⟨R.s, 1, none⟩) (by have := ((xU HR1).lt R.s (by simp [R7.bl])).1; have := xU HLO; show w.heap.size ≤ R.s; omega) (.int .i64 1))
 go_upto_region 16 with fail
 generalize W1'.setCell ⟨R.s, 1, none⟩ (.int .i64 1) = W2' at HS2 HL2 ⊢
 clear k16 s0 sf HS1 HL1 HR1
 have ko : W2'.cell? ⟨w.heap.size, 17, none⟩ = some (.int .i64 c.ops) := (xU HS2).box.cell (i := 17) (by omega)
 have fo := (xU HS2).box.frozen 17
 have HS3 := xH (show Sb (W2'.setCell ⟨w.heap.size, 17, none⟩ (.int .i64 (c.ops + 1))) w.heap.size (w.heap.size + 2) { c with closer := 1, shut := c.shut.set 1 1, ops := (c.ops + 1) } (R.v c) (R.b) from (xU HS2).put 17 (by omega) (.int .i64 (c.ops + 1)) rfl rfl rfl rfl rfl rfl rfl rfl)
 have HL3 := xH ((xU HL2).setCell (p := ⟨w.heap.size, 17, none⟩) (Nat.le_refl _) (.int .i64 (c.ops + 1)))
 go_upto_region 23 with fail
 generalize W2'.setCell ⟨w.heap.size, 17, none⟩ (.int .i64 (c.ops + 1)) = W3' at HS3 HL3 ⊢
 clear ko fo HS2 HL2 hw17
 obtain ⟨A5, hb5, hc5⟩ := (show Sb W3' w.heap.size (w.heap.size + 2) x (R.v c) (R.b) from by rw [xU HXE]; exact xU HS3).fin
 have TB := xH hb5; have TC := xH hc5; have TR := xH (xU HS3).res; have TW := xH (xU HL3)
 clear hb5 hc5 HS3 HL3 HLO
 refine wp_region_list ?_
 refine wpList_load_mid rfl _ _ rfl w.heap.size 0 rfl (lA x A5) dd (range_row (lA x A5) rfl (xU TB)) hdu hdr info18 ?_
 refine wpList_plain rfl (fun K hK => ?_)
 go_simp
 refine (l52Copy_any x A5 _ W3' (xU TC) (fun _ h => h) (xU HWC)).mono ?_
 rintro e w6 ⟨v, Fq, Fh, Fr, Fg, Fo, Ft, Fs, rfl, hown, hdj, hrng, hb2⟩
 refine hK _ _ ?_
 clear hK K
 have hrw := (xU TR).of_block (hb2.block _ (xU TR).lt)
 have hbw := (xU TW).trans (hb2.mono (xU TW).size)
 have hlt := (xU TR).lt
 refine wpList_store_mid rfl _ _ _ rfl (w.heap.size + 2) 0 (lV x v).toArray rfl rfl (there_row hrw) info18 (one18 _ _ _ _ _ _ _ _ _ _ _ v (cw_one hown)) ?_
 have hr3 := row_all (n := 18) (lV x v) rfl hrw
 have hb3 := below_setCells (show w.heap.size ≤ w.heap.size + 2 by omega) (lV x v) 0 w6 hbw
 have ho3 := hown.carry (w' := w6.setCells (w.heap.size + 2) 0 (lV x v)) (fun b hb => heap_setCells _ _ _ _ (by have := (hrng b hb).1; omega))
 have hs3 : ∀ b, b ∈ F7 Fq Fh Fr Fg Fo Ft Fs → w.heap.size ≤ b ∧ b < (w6.setCells (w.heap.size + 2) 0 (lV x v)).heap.size := fun b hb => by
  rw [size_setCells]
  exact ⟨by have := (hrng b hb).1; omega, (hrng b hb).2⟩
 generalize w6.setCells (w.heap.size + 2) 0 _ = W at hr3 hb3 ho3 hs3 ⊢
 clear hrw hbw hown hrng hb2 TR TB TW TC hlt
 have HB := xH hb3; have HO := xH ho3; have HS := xH hs3; have HD := xH hdj
 clear hb3 ho3 hs3 hdj
 go_wp2_with fail
 exact bodyPost_ret (v := .tuple #[.agg (lV x v).toArray, .bool true]) (results18 (by rfl) _ _ (w.heap.size + 2) (lV x v) _ rfl rfl hr3 rfl) rfl ⟨v, _, _, _, _, _, _, _, rfl, xU HO, xU HD, xU HS, xU HB⟩
theorem spStep_user1 (c : Cw) (A : A7) (P : Nat → Prop) (w : World) (h : CwAt P w c (A.v c)) (hP : ∀ b, P b → b < w.heap.size) (y : Nat) (hy : y = c.hands.length) (k : Nat) (hk0 : k ≠ 0) (hok : okS c) (hmv : (ways c (y + 3))[k]? = some true) (x : Cw) (hx : wC x ≤ 1048576) (hxe : x = { c with user := 1, ops := c.ops + 1 }) : Calls Tryz.prog 8 #[.agg (lA c A).toArray, .agg #[.int .i64 ((y : Int) + 3), .int .i64 (k : Int)]] w fun e w' => CwEnd w w' e x true := by
 have HF := xH ((formS_iff c).1 hok.1).1
 have HY := xH hy
 have hy8 : y ≤ 8 := by rw [hy]; exact (xU HF).small.1
 have HWY := xH (fun W (hW : Ag P w W c A) => by
  have hq := l52Ways_any c A P W hW.at' hW.hand.2 (xU HF) (y + 3) (by omega)
  rw [show (((y + 3 : Nat) : Nat) : Int) = ((y : Int) + 3) from by omega] at hq
  exact hq)
 have hbl := ways_len c (y + 3)
 generalize ways c (y + 3) = bs at hmv hbl HWY
 have hkl : k < bs.length := (List.getElem?_eq_some_iff.1 hmv).1
 have HBK := xH (show bs[k] = true from (List.getElem?_eq_some_iff.1 hmv).2)
 have HWC := xH hx
 have HSM := xH (ok_small hok)
 have HCP := xH (fun W (hW : Ag P w W c A) => l52Copy_row c A P W hW.at' hW.hand.2 (xU HSM))
 have HIN1 := xH (fun W => inYes (((y : Int) + 3)) 0 ((y : Int) + 3) W (by omega))
 have HIN2 := xH (fun W => inYes ((k : Int)) 0 ((bs.length : Int) - 1) W (by omega))
 have hw3 : IntKind.i64.wrap ((y : Int) + 3) = (y : Int) + 3 := by rw [IntKind.wrap_i64]; omega
 have hwb : IntKind.i64.wrap ((bs.length : Int) - 1) = (bs.length : Int) - 1 := by rw [IntKind.wrap_i64]; omega
 have f0 : ¬ ((y : Int) + 3 = 0) := by omega
 have f0b : ((y : Int) + 3 == 0) = false := by simp; omega
 have f1 : decide ((y : Int) + 3 ≤ (y : Int)) = false := decide_eq_false (by omega)
 have hw1 : IntKind.i64.wrap ((y : Int) + 1) = (y : Int) + 1 := by rw [IntKind.wrap_i64]; omega
 have hw2 : IntKind.i64.wrap ((y : Int) + 2) = (y : Int) + 2 := by rw [IntKind.wrap_i64]; omega
 have f2 : ¬ ((y : Int) + 3 = (y : Int) + 1) := by omega
 have f2b : ((y : Int) + 3 == (y : Int) + 1) = false := by simp
 have f3 : ¬ ((y : Int) + 3 = (y : Int) + 2) := by omega
 have f3b : ((y : Int) + 3 == (y : Int) + 2) = false := by simp
 have hop := (xU HF).ops
 have hw17 : IntKind.i64.wrap (c.ops + 1) = c.ops + 1 := by rw [IntKind.wrap_i64]; omega
 clear hop
 have HXE := xH hxe
 clear hxe
 have f4 : ¬ ((k : Int) = 0) := by omega
 have f4b : ((k : Int) == 0) = false := by simp; omega
 clear hmv hx hy hk0
 have HS := xH (ag3 h hP (((y : Int) + 3)) ((k : Int))).1; have HR0 := xH (ag3 h hP (((y : Int) + 3)) ((k : Int))).2.1; have HM0 := xH (ag3 h hP (((y : Int) + 3)) ((k : Int))).2.2.1; have HZ := xH (ag3 h hP (((y : Int) + 3)) ((k : Int))).2.2.2
 have HCF := xH (fun W (hW : Ag P w W c A) => specCrewOk_any c A P W hW.at' hW.hand.2)
 obtain ⟨dd, hdu, hdr⟩ := rowWorld
 have HOK := xH hok
 clear h hP hok
 go_enter Tryz.func8, Tryz.ntmps8
 go_upto_region 1 with fail
 generalize ((w.alloc (.cells (lA c A).toArray 26)).alloc (.cells #[.int .i64 ((y : Int) + 3), .int .i64 (k : Int)] 28)).alloc (.cells lZ.toArray 26) = W0 at HS HR0 HM0 HZ ⊢
 refine wp_region_list ?_
 refine wpList_load_mid rfl _ _ rfl w.heap.size 0 rfl (lA c A) dd (xU HS).range hdu hdr info18 ?_
 refine wpList_plain rfl (fun K hK => ?_)
 go_simp
 refine (xU HCF _ (xU HS)).mono ?_
 rintro e w1 ⟨⟨r, rfl, hr⟩, hb⟩
 refine hK _ _ ?_
 clear hK K
 have HS1 := xH ((xU HS).on hb)
 have HR1 := xH ((xU HR0).of_block (hb.block _ (xU HR0).lt))
 have HM1 := xH ((xU HM0).of_block (hb.block _ (xU HM0).lt))
 have HZ1 := xH (show w.heap.size + 3 ≤ w1.heap.size from by have := xU HZ; have := hb.size; omega)
 have HR := xH hr
 clear hb hr HCF HS HR0 HM0 HZ
 obtain rfl : r = true := (xU HR).2 (xU HOK)
 have m0 : w1.cell? ⟨w.heap.size + 1, 0, none⟩ = some (.int .i64 ((y : Int) + 3)) := (xU HM1).cell (i := 0) (by omega)
 have k1 := (xU HS1).k1
 rw [← (xU HF).hands, ← xU HY] at k1
 clear HR
 go_upto_region 3 with (go_at_call 36; refine (xU HIN1 _).mono ?_; rintro e w' ⟨rfl, rfl⟩)
 refine wp_region_list ?_
 refine wpList_load_mid rfl _ _ rfl w.heap.size 0 rfl (lA c A) dd (xU HS1).range hdu hdr info18 ?_
 go_upto_region 4 with (go_at_call 37; refine (xU HWY _ (xU HS1)).mono ?_; rintro e w2 ⟨a2, cap2, rfl, hbt, hb⟩)
 have HS2 := xH ((xU HS1).on hb)
 have HR2 := xH ((xU HR1).of_block (hb.block _ (xU HR1).lt))
 have HM2 := xH ((xU HM1).of_block (hb.block _ (xU HM1).lt))
 have HZ2 := xH (Nat.le_trans (xU HZ1) hb.size)
 clear hb m0 k1 HS1 HR1 HM1 HZ1 HWY
 obtain ⟨bb, bo, rfl, e0⟩ := hbt.at' k hkl
 rw [xU HBK] at e0
 have m1 : w2.cell? ⟨w.heap.size + 1, 1, none⟩ = some (.int .i64 (k : Int)) := (xU HM2).cell (i := 1) (by omega)
 clear hbt HBK
 generalize bs.length = nb at hbl hkl HIN2 hwb e0 ⊢
 go_upto_region 6 with (go_at_call 36; refine (xU HIN2 _).mono ?_; rintro e w' ⟨rfl, rfl⟩)
 clear m1 e0 hwb HIN1 HIN2 hw3 hbl hkl
 refine wp_region_list ?_
 refine wpList_load_mid rfl _ _ rfl w.heap.size 0 rfl (lA c A) dd (xU HS2).range hdu hdr info18 ?_
 refine wpList_plain rfl (fun K hK => ?_)
 go_simp
 refine (xU HCP _ (xU HS2)).mono ?_
 rintro e w3 ⟨R, rfl, hrw, hb⟩
 refine hK _ _ ?_
 clear hK K
 have hs3 := (xU HS2).on hb
 refine wpList_store_mid rfl _ _ _ rfl w.heap.size 0 (lV c (R.v c)).toArray rfl rfl (there_row hs3.box) info18 (one18 _ _ _ _ _ _ _ _ _ _ _ (R.v c) (by simp [R7.v, Value.oneCell'])) ?_
 have HBX := xH (row_all (n := 18) (lV c (R.v c)) rfl hs3.box)
 have HRS := xH (((xU HR2).of_block (hb.block _ (xU HR2).lt)).of_block (heap_setCells (b := w.heap.size) (lV c (R.v c)) 0 w3 _ (by omega)))
 have HMB := xH (((xU HM2).of_block (hb.block _ (xU HM2).lt)).of_block (heap_setCells (b := w.heap.size) (lV c (R.v c)) 0 w3 _ (by omega)))
 have HRW := xH (hrw.keep (W' := w3.setCells w.heap.size 0 (lV c (R.v c))) (fun b hb2 => heap_setCells _ _ _ _ (by have := (hrw.lt b hb2).1; have := xU HZ2; omega)) (by rw [size_setCells]; exact Nat.le_refl _))
 have HBL := xH (below_setCells (Nat.le_refl _) (lV c (R.v c)) 0 w3 hs3.bel)
 have HLO := xH (xU HZ2)
 clear hs3 hrw hb
 generalize w3.setCells w.heap.size 0 _ = W4 at HBX HRS HMB HRW HBL ⊢
 generalize w2.heap.size = lo at HRW HLO
 clear HS2 HR2 HM2 HZ2 HCP w3 w2 w1 W0
 have m0 : W4.cell? ⟨w.heap.size + 1, 0, none⟩ = some (.int .i64 ((y : Int) + 3)) := (xU HMB).cell (i := 0) (by omega)
 have m1 : W4.cell? ⟨w.heap.size + 1, 1, none⟩ = some (.int .i64 (k : Int)) := (xU HMB).cell (i := 1) (by omega)
 have k1 : W4.cell? ⟨w.heap.size, 1, none⟩ = some (.int .i64 (y : Int)) := by rw [show (y : Int) = c.workers from by rw [xU HY]; exact (xU HF).hands]; exact (xU HBX).cell (i := 1) (by omega)
 have HS0 := xH (show Sb W4 w.heap.size (w.heap.size + 2) c (R.v c) R.b from (xU HRW).sb (xU HBX) (xU HRS) (by omega) (fun y hy => by have := ((xU HRW).lt y hy).1; have := xU HLO; omega))
 have HR0 := HRW; have HL0 := HBL
 clear HBX HRS HMB HBL
 go_upto_region 7 with fail
 clear f0 f0b f1 f2 f2b f3 f3b f4 f4b hw1 hw2 m0 m1 k1
 have ko : W4.cell? ⟨w.heap.size, 13, none⟩ = some (.int .i64 c.user) := (xU HS0).box.cell (i := 13) (by omega)
 have fo := (xU HS0).box.frozen 13
 have HS1 := xH (show Sb (W4.setCell ⟨w.heap.size, 13, none⟩ (.int .i64 1)) w.heap.size (w.heap.size + 2) { c with user := 1 } (R.v c) (R.b) from (xU HS0).put 13 (by omega) (.int .i64 1) rfl rfl rfl rfl rfl rfl rfl rfl)
 have HL1 := xH ((xU HL0).setCell (p := ⟨w.heap.size, 13, none⟩) (Nat.le_refl _) (.int .i64 1))
 have HR1 := xH ((xU HR0).keep (fun y hy => Below.heap_setCell W4 ⟨w.heap.size, 13, none⟩ (.int .i64 1) y (by have := ((xU HR0).lt y hy).1; have := xU HLO; show y ≠ w.heap.size; omega)) (by rw [World.size_setCell]; exact Nat.le_refl _))
 go_upto_region 8 with fail
 generalize W4.setCell ⟨w.heap.size, 13, none⟩ (.int .i64 1) = W1' at HS1 HL1 HR1 ⊢
 clear ko fo HS0 HL0 HR0 
 have ko : W1'.cell? ⟨w.heap.size, 17, none⟩ = some (.int .i64 c.ops) := (xU HS1).box.cell (i := 17) (by omega)
 have fo := (xU HS1).box.frozen 17
 have HS2 := xH (show Sb (W1'.setCell ⟨w.heap.size, 17, none⟩ (.int .i64 (c.ops + 1))) w.heap.size (w.heap.size + 2) { c with user := 1, ops := (c.ops + 1) } (R.v c) (R.b) from (xU HS1).put 17 (by omega) (.int .i64 (c.ops + 1)) rfl rfl rfl rfl rfl rfl rfl rfl)
 have HL2 := xH ((xU HL1).setCell (p := ⟨w.heap.size, 17, none⟩) (Nat.le_refl _) (.int .i64 (c.ops + 1)))
 have HR2 := xH ((xU HR1).keep (fun y hy => Below.heap_setCell W1' ⟨w.heap.size, 17, none⟩ (.int .i64 (c.ops + 1)) y (by have := ((xU HR1).lt y hy).1; have := xU HLO; show y ≠ w.heap.size; omega)) (by rw [World.size_setCell]; exact Nat.le_refl _))
 go_upto_region 23 with fail
 generalize W1'.setCell ⟨w.heap.size, 17, none⟩ (.int .i64 (c.ops + 1)) = W2' at HS2 HL2 HR2 ⊢
 clear ko fo HS1 HL1 HR1 hw17
 obtain ⟨A5, hb5, hc5⟩ := (show Sb W2' w.heap.size (w.heap.size + 2) x (R.v c) (R.b) from by rw [xU HXE]; exact xU HS2).fin
 have TB := xH hb5; have TC := xH hc5; have TR := xH (xU HS2).res; have TW := xH (xU HL2)
 clear hb5 hc5 HS2 HL2 HLO
 refine wp_region_list ?_
 refine wpList_load_mid rfl _ _ rfl w.heap.size 0 rfl (lA x A5) dd (range_row (lA x A5) rfl (xU TB)) hdu hdr info18 ?_
 refine wpList_plain rfl (fun K hK => ?_)
 go_simp
 refine (l52Copy_any x A5 _ W2' (xU TC) (fun _ h => h) (xU HWC)).mono ?_
 rintro e w6 ⟨v, Fq, Fh, Fr, Fg, Fo, Ft, Fs, rfl, hown, hdj, hrng, hb2⟩
 refine hK _ _ ?_
 clear hK K
 have hrw := (xU TR).of_block (hb2.block _ (xU TR).lt)
 have hbw := (xU TW).trans (hb2.mono (xU TW).size)
 have hlt := (xU TR).lt
 refine wpList_store_mid rfl _ _ _ rfl (w.heap.size + 2) 0 (lV x v).toArray rfl rfl (there_row hrw) info18 (one18 _ _ _ _ _ _ _ _ _ _ _ v (cw_one hown)) ?_
 have hr3 := row_all (n := 18) (lV x v) rfl hrw
 have hb3 := below_setCells (show w.heap.size ≤ w.heap.size + 2 by omega) (lV x v) 0 w6 hbw
 have ho3 := hown.carry (w' := w6.setCells (w.heap.size + 2) 0 (lV x v)) (fun b hb => heap_setCells _ _ _ _ (by have := (hrng b hb).1; omega))
 have hs3 : ∀ b, b ∈ F7 Fq Fh Fr Fg Fo Ft Fs → w.heap.size ≤ b ∧ b < (w6.setCells (w.heap.size + 2) 0 (lV x v)).heap.size := fun b hb => by
  rw [size_setCells]
  exact ⟨by have := (hrng b hb).1; omega, (hrng b hb).2⟩
 generalize w6.setCells (w.heap.size + 2) 0 _ = W at hr3 hb3 ho3 hs3 ⊢
 clear hrw hbw hown hrng hb2 TR TB TW TC hlt
 have HB := xH hb3; have HO := xH ho3; have HS := xH hs3; have HD := xH hdj
 clear hb3 ho3 hs3 hdj
 go_wp2_with fail
 exact bodyPost_ret (v := .tuple #[.agg (lV x v).toArray, .bool true]) (results18 (by rfl) _ _ (w.heap.size + 2) (lV x v) _ rfl rfl hr3 rfl) rfl ⟨v, _, _, _, _, _, _, _, rfl, xU HO, xU HD, xU HS, xU HB⟩
theorem spStep_user0 (c : Cw) (A : A7) (P : Nat → Prop) (w : World) (h : CwAt P w c (A.v c)) (hP : ∀ b, P b → b < w.heap.size) (y : Nat) (hy : y = c.hands.length) (z : Int) (hout : c.out = [z]) (hok : okS c) (hmv : (ways c (y + 3))[0]? = some true) (x : Cw) (hx : wC x ≤ 1048576) (hxe : x = { c with got := c.got ++ [z], out := [], ops := c.ops + 1 }) : Calls Tryz.prog 8 #[.agg (lA c A).toArray, .agg #[.int .i64 ((y : Int) + 3), .int .i64 0]] w fun e w' => CwEnd w w' e x true := by
 have HF := xH ((formS_iff c).1 hok.1).1
 have HY := xH hy
 have hy8 : y ≤ 8 := by rw [hy]; exact (xU HF).small.1
 have HWY := xH (fun W (hW : Ag P w W c A) => by
  have hq := l52Ways_any c A P W hW.at' hW.hand.2 (xU HF) (y + 3) (by omega)
  rw [show (((y + 3 : Nat) : Nat) : Int) = ((y : Int) + 3) from by omega] at hq
  exact hq)
 have hbl := ways_len c (y + 3)
 generalize ways c (y + 3) = bs at hmv hbl HWY
 have hkl : 0 < bs.length := (List.getElem?_eq_some_iff.1 hmv).1
 have HBK := xH (show bs[0] = true from (List.getElem?_eq_some_iff.1 hmv).2)
 have HWC := xH hx
 have HSM := xH (ok_small hok)
 have HCP := xH (fun W (hW : Ag P w W c A) => l52Copy_row c A P W hW.at' hW.hand.2 (xU HSM))
 have HIN1 := xH (fun W => inYes (((y : Int) + 3)) 0 ((y : Int) + 3) W (by omega))
 have HIN2 := xH (fun W => inYes (0) 0 ((bs.length : Int) - 1) W (by omega))
 have hw3 : IntKind.i64.wrap ((y : Int) + 3) = (y : Int) + 3 := by rw [IntKind.wrap_i64]; omega
 have hwb : IntKind.i64.wrap ((bs.length : Int) - 1) = (bs.length : Int) - 1 := by rw [IntKind.wrap_i64]; omega
 have f0 : ¬ ((y : Int) + 3 = 0) := by omega
 have f0b : ((y : Int) + 3 == 0) = false := by simp; omega
 have f1 : decide ((y : Int) + 3 ≤ (y : Int)) = false := decide_eq_false (by omega)
 have hw1 : IntKind.i64.wrap ((y : Int) + 1) = (y : Int) + 1 := by rw [IntKind.wrap_i64]; omega
 have hw2 : IntKind.i64.wrap ((y : Int) + 2) = (y : Int) + 2 := by rw [IntKind.wrap_i64]; omega
 have f2 : ¬ ((y : Int) + 3 = (y : Int) + 1) := by omega
 have f2b : ((y : Int) + 3 == (y : Int) + 1) = false := by simp
 have f3 : ¬ ((y : Int) + 3 = (y : Int) + 2) := by omega
 have f3b : ((y : Int) + 3 == (y : Int) + 2) = false := by simp
 have hop := (xU HF).ops
 have hw17 : IntKind.i64.wrap (c.ops + 1) = c.ops + 1 := by rw [IntKind.wrap_i64]; omega
 clear hop
 have HXE := xH hxe
 clear hxe
 have HOUT := xH hout
 have HGL := xH (show c.got.length ≤ 1000 from by have hg := ((formS_iff c).1 hok.1).2; obtain ⟨⟨a1, a2⟩, -, -⟩ := (xU HF).st; omega)
 clear hmv hx hy hout
 have HS := xH (ag3 h hP (((y : Int) + 3)) (0)).1; have HR0 := xH (ag3 h hP (((y : Int) + 3)) (0)).2.1; have HM0 := xH (ag3 h hP (((y : Int) + 3)) (0)).2.2.1; have HZ := xH (ag3 h hP (((y : Int) + 3)) (0)).2.2.2
 have HCF := xH (fun W (hW : Ag P w W c A) => specCrewOk_any c A P W hW.at' hW.hand.2)
 obtain ⟨dd, hdu, hdr⟩ := rowWorld
 have HOK := xH hok
 clear h hP hok
 go_enter Tryz.func8, Tryz.ntmps8
 go_upto_region 1 with fail
 generalize ((w.alloc (.cells (lA c A).toArray 26)).alloc (.cells #[.int .i64 ((y : Int) + 3), .int .i64 0] 28)).alloc (.cells lZ.toArray 26) = W0 at HS HR0 HM0 HZ ⊢
 refine wp_region_list ?_
 refine wpList_load_mid rfl _ _ rfl w.heap.size 0 rfl (lA c A) dd (xU HS).range hdu hdr info18 ?_
 refine wpList_plain rfl (fun K hK => ?_)
 go_simp
 refine (xU HCF _ (xU HS)).mono ?_
 rintro e w1 ⟨⟨r, rfl, hr⟩, hb⟩
 refine hK _ _ ?_
 clear hK K
 have HS1 := xH ((xU HS).on hb)
 have HR1 := xH ((xU HR0).of_block (hb.block _ (xU HR0).lt))
 have HM1 := xH ((xU HM0).of_block (hb.block _ (xU HM0).lt))
 have HZ1 := xH (show w.heap.size + 3 ≤ w1.heap.size from by have := xU HZ; have := hb.size; omega)
 have HR := xH hr
 clear hb hr HCF HS HR0 HM0 HZ
 obtain rfl : r = true := (xU HR).2 (xU HOK)
 have m0 : w1.cell? ⟨w.heap.size + 1, 0, none⟩ = some (.int .i64 ((y : Int) + 3)) := (xU HM1).cell (i := 0) (by omega)
 have k1 := (xU HS1).k1
 rw [← (xU HF).hands, ← xU HY] at k1
 clear HR
 go_upto_region 3 with (go_at_call 36; refine (xU HIN1 _).mono ?_; rintro e w' ⟨rfl, rfl⟩)
 refine wp_region_list ?_
 refine wpList_load_mid rfl _ _ rfl w.heap.size 0 rfl (lA c A) dd (xU HS1).range hdu hdr info18 ?_
 go_upto_region 4 with (go_at_call 37; refine (xU HWY _ (xU HS1)).mono ?_; rintro e w2 ⟨a2, cap2, rfl, hbt, hb⟩)
 have HS2 := xH ((xU HS1).on hb)
 have HR2 := xH ((xU HR1).of_block (hb.block _ (xU HR1).lt))
 have HM2 := xH ((xU HM1).of_block (hb.block _ (xU HM1).lt))
 have HZ2 := xH (Nat.le_trans (xU HZ1) hb.size)
 clear hb m0 k1 HS1 HR1 HM1 HZ1 HWY
 obtain ⟨bb, bo, rfl, e0⟩ := hbt.at' 0 hkl
 rw [xU HBK, Nat.add_zero] at e0
 have m1 : w2.cell? ⟨w.heap.size + 1, 1, none⟩ = some (.int .i64 0) := (xU HM2).cell (i := 1) (by omega)
 clear hbt HBK
 generalize bs.length = nb at hbl hkl HIN2 hwb e0 ⊢
 go_upto_region 6 with (go_at_call 36; refine (xU HIN2 _).mono ?_; rintro e w' ⟨rfl, rfl⟩)
 clear m1 e0 hwb HIN1 HIN2 hw3 hbl hkl
 refine wp_region_list ?_
 refine wpList_load_mid rfl _ _ rfl w.heap.size 0 rfl (lA c A) dd (xU HS2).range hdu hdr info18 ?_
 refine wpList_plain rfl (fun K hK => ?_)
 go_simp
 refine (xU HCP _ (xU HS2)).mono ?_
 rintro e w3 ⟨R, rfl, hrw, hb⟩
 refine hK _ _ ?_
 clear hK K
 have hs3 := (xU HS2).on hb
 refine wpList_store_mid rfl _ _ _ rfl w.heap.size 0 (lV c (R.v c)).toArray rfl rfl (there_row hs3.box) info18 (one18 _ _ _ _ _ _ _ _ _ _ _ (R.v c) (by simp [R7.v, Value.oneCell'])) ?_
 have HBX := xH (row_all (n := 18) (lV c (R.v c)) rfl hs3.box)
 have HRS := xH (((xU HR2).of_block (hb.block _ (xU HR2).lt)).of_block (heap_setCells (b := w.heap.size) (lV c (R.v c)) 0 w3 _ (by omega)))
 have HMB := xH (((xU HM2).of_block (hb.block _ (xU HM2).lt)).of_block (heap_setCells (b := w.heap.size) (lV c (R.v c)) 0 w3 _ (by omega)))
 have HRW := xH (hrw.keep (W' := w3.setCells w.heap.size 0 (lV c (R.v c))) (fun b hb2 => heap_setCells _ _ _ _ (by have := (hrw.lt b hb2).1; have := xU HZ2; omega)) (by rw [size_setCells]; exact Nat.le_refl _))
 have HBL := xH (below_setCells (Nat.le_refl _) (lV c (R.v c)) 0 w3 hs3.bel)
 have HLO := xH (xU HZ2)
 clear hs3 hrw hb
 generalize w3.setCells w.heap.size 0 _ = W4 at HBX HRS HMB HRW HBL ⊢
 generalize w2.heap.size = lo at HRW HLO
 clear HS2 HR2 HM2 HZ2 HCP w3 w2 w1 W0
 have m0 : W4.cell? ⟨w.heap.size + 1, 0, none⟩ = some (.int .i64 ((y : Int) + 3)) := (xU HMB).cell (i := 0) (by omega)
 have m1 : W4.cell? ⟨w.heap.size + 1, 1, none⟩ = some (.int .i64 0) := (xU HMB).cell (i := 1) (by omega)
 have k1 : W4.cell? ⟨w.heap.size, 1, none⟩ = some (.int .i64 (y : Int)) := by rw [show (y : Int) = c.workers from by rw [xU HY]; exact (xU HF).hands]; exact (xU HBX).cell (i := 1) (by omega)
 have HS0 := xH (show Sb W4 w.heap.size (w.heap.size + 2) c (R.v c) R.b from (xU HRW).sb (xU HBX) (xU HRS) (by omega) (fun y hy => by have := ((xU HRW).lt y hy).1; have := xU HLO; omega))
 have HR0 := HRW; have HL0 := HBL
 clear HBX HRS HMB HBL
 go_upto_region 20 with fail
 clear f0 f0b f1 f2 f2b f3 f3b hw1 hw2 m0 m1 k1
 refine wp_swap (c' := Code.region 20 us20Ops true) (by kernel_rfl) ?_
 refine wp_region_noPanic ?_
 refine us20 w.heap.size (w.heap.size + 2) c R lo z W4 _ (fun _ _ _ _ _ h => h) ((xU HS0).on (Below.refl _ _).drew) ((xU HR0).on (Below.refl _ _).drew) (xU HOUT) (xU HGL) ?_
 intro n98 n99 n100 n101 n102 n103 n104 n105 n106 g8 cap8 V0 hg8 hsv hxv
 refine NoPanic.normal ?_
 have HS1 := xH hsv
 have HL1 := xH (((xU HL0).drew).trans (hxv.below (xU HL0).size (fun q hq => by simp only [List.mem_cons, List.not_mem_nil, or_false] at hq; rcases hq with rfl | rfl; exact Nat.le_refl _; have := ((xU HR0).lt R.t (by simp [R7.bl])).1; have := xU HLO; omega)))
 clear hsv hxv hg8 HS0 HL0 HR0 HRW
 go_upto_region 21 with fail
 have HSA := xH ((xU HS1).on ((Below.refl _ _).alloc (Nat.le_refl _) (.cells #[] 3)))
 have ko : (V0.alloc (.cells #[] 3)).cell? ⟨w.heap.size, 12, none⟩ = some (.slice (some ⟨R.o, 0, none⟩) c.out.length R.co) := (xU HSA).box.cell (i := 12) (by omega)
 have fo := (xU HSA).box.frozen 12
 have HS2 := xH (show Sb ((V0.alloc (.cells #[] 3)).setCell ⟨w.heap.size, 12, none⟩ (.slice (some ⟨V0.heap.size, 0, none⟩) 0 0)) w.heap.size (w.heap.size + 2) { c with got := c.got ++ [z], out := [] } ({ R.v c with t := .slice (some ⟨g8, 0, none⟩) (c.got.length + 1) cap8, o := .slice (some ⟨V0.heap.size, 0, none⟩) 0 0 }) ({ R.b with t := g8 }) from (xU HSA).set_o (.slice (some ⟨V0.heap.size, 0, none⟩) 0 0) [] ⟨_, _, rfl, by simp, fun i hi => by cases hi⟩)
 have HL2 := xH (((xU HL1).alloc (xU HL1).size (.cells #[] 3)).setCell (p := ⟨w.heap.size, 12, none⟩) (Nat.le_refl _) (.slice (some ⟨V0.heap.size, 0, none⟩) 0 0))
 go_upto_region 22 with fail
 generalize (V0.alloc (.cells #[] 3)).setCell ⟨w.heap.size, 12, none⟩ (.slice (some ⟨V0.heap.size, 0, none⟩) 0 0) = W2' at HS2 HL2 ⊢
 generalize V0.heap.size = gn at HS2 ⊢
 clear ko fo HS1 HL1 HSA
 have ko : W2'.cell? ⟨w.heap.size, 17, none⟩ = some (.int .i64 c.ops) := (xU HS2).box.cell (i := 17) (by omega)
 have fo := (xU HS2).box.frozen 17
 have HS3 := xH (show Sb (W2'.setCell ⟨w.heap.size, 17, none⟩ (.int .i64 (c.ops + 1))) w.heap.size (w.heap.size + 2) { c with got := c.got ++ [z], out := [], ops := (c.ops + 1) } ({ R.v c with t := .slice (some ⟨g8, 0, none⟩) (c.got.length + 1) cap8, o := .slice (some ⟨gn, 0, none⟩) 0 0 }) ({ R.b with t := g8 }) from (xU HS2).put 17 (by omega) (.int .i64 (c.ops + 1)) rfl rfl rfl rfl rfl rfl rfl rfl)
 have HL3 := xH ((xU HL2).setCell (p := ⟨w.heap.size, 17, none⟩) (Nat.le_refl _) (.int .i64 (c.ops + 1)))
 go_upto_region 23 with fail
 generalize W2'.setCell ⟨w.heap.size, 17, none⟩ (.int .i64 (c.ops + 1)) = W3' at HS3 HL3 ⊢
 clear ko fo HS2 HL2 hw17
 obtain ⟨A5, hb5, hc5⟩ := (show Sb W3' w.heap.size (w.heap.size + 2) x ({ R.v c with t := .slice (some ⟨g8, 0, none⟩) (c.got.length + 1) cap8, o := .slice (some ⟨gn, 0, none⟩) 0 0 }) ({ R.b with t := g8 }) from by rw [xU HXE]; exact xU HS3).fin
 have TB := xH hb5; have TC := xH hc5; have TR := xH (xU HS3).res; have TW := xH (xU HL3)
 clear hb5 hc5 HS3 HL3 HLO
 refine wp_region_list ?_
 refine wpList_load_mid rfl _ _ rfl w.heap.size 0 rfl (lA x A5) dd (range_row (lA x A5) rfl (xU TB)) hdu hdr info18 ?_
 refine wpList_plain rfl (fun K hK => ?_)
 go_simp
 refine (l52Copy_any x A5 _ W3' (xU TC) (fun _ h => h) (xU HWC)).mono ?_
 rintro e w6 ⟨v, Fq, Fh, Fr, Fg, Fo, Ft, Fs, rfl, hown, hdj, hrng, hb2⟩
 refine hK _ _ ?_
 clear hK K
 have hrw := (xU TR).of_block (hb2.block _ (xU TR).lt)
 have hbw := (xU TW).trans (hb2.mono (xU TW).size)
 have hlt := (xU TR).lt
 refine wpList_store_mid rfl _ _ _ rfl (w.heap.size + 2) 0 (lV x v).toArray rfl rfl (there_row hrw) info18 (one18 _ _ _ _ _ _ _ _ _ _ _ v (cw_one hown)) ?_
 have hr3 := row_all (n := 18) (lV x v) rfl hrw
 have hb3 := below_setCells (show w.heap.size ≤ w.heap.size + 2 by omega) (lV x v) 0 w6 hbw
 have ho3 := hown.carry (w' := w6.setCells (w.heap.size + 2) 0 (lV x v)) (fun b hb => heap_setCells _ _ _ _ (by have := (hrng b hb).1; omega))
 have hs3 : ∀ b, b ∈ F7 Fq Fh Fr Fg Fo Ft Fs → w.heap.size ≤ b ∧ b < (w6.setCells (w.heap.size + 2) 0 (lV x v)).heap.size := fun b hb => by
  rw [size_setCells]
  exact ⟨by have := (hrng b hb).1; omega, (hrng b hb).2⟩
 generalize w6.setCells (w.heap.size + 2) 0 _ = W at hr3 hb3 ho3 hs3 ⊢
 clear hrw hbw hown hrng hb2 TR TB TW TC hlt
 have HB := xH hb3; have HO := xH ho3; have HS := xH hs3; have HD := xH hdj
 clear hb3 ho3 hs3 hdj
 go_wp2_with fail
 exact bodyPost_ret (v := .tuple #[.agg (lV x v).toArray, .bool true]) (results18 (by rfl) _ _ (w.heap.size + 2) (lV x v) _ rfl rfl hr3 rfl) rfl ⟨v, _, _, _, _, _, _, _, rfl, xU HO, xU HD, xU HS, xU HB⟩
theorem spStep_no (c : Cw) (A : A7) (P : Nat → Prop) (w : World) (h : CwAt P w c (A.v c)) (hP : ∀ b, P b → b < w.heap.size) (mw mk : Int) (hok : ¬ stepOk c mw mk) : Calls Tryz.prog 8 #[.agg (lA c A).toArray, .agg #[.int .i64 mw, .int .i64 mk]] w fun e w' => CwEnd w w' e noCw false := by
 have HS := xH (ag3 h hP (mw) (mk)).1; have HR0 := xH (ag3 h hP (mw) (mk)).2.1; have HM0 := xH (ag3 h hP (mw) (mk)).2.2.1; have HZ := xH (ag3 h hP (mw) (mk)).2.2.2
 have HCF := xH (fun W (hW : Ag P w W c A) => specCrewOk_any c A P W hW.at' hW.hand.2)
 obtain ⟨dd, hdu, hdr⟩ := rowWorld
 have HOK := xH hok
 clear h hP hok
 go_enter Tryz.func8, Tryz.ntmps8
 go_upto_region 1 with fail
 generalize ((w.alloc (.cells (lA c A).toArray 26)).alloc (.cells #[.int .i64 mw, .int .i64 mk] 28)).alloc (.cells lZ.toArray 26) = W0 at HS HR0 HM0 HZ ⊢
 refine wp_region_list ?_
 refine wpList_load_mid rfl _ _ rfl w.heap.size 0 rfl (lA c A) dd (xU HS).range hdu hdr info18 ?_
 refine wpList_plain rfl (fun K hK => ?_)
 go_simp
 refine (xU HCF _ (xU HS)).mono ?_
 rintro e w1 ⟨⟨r, rfl, hr⟩, hb⟩
 refine hK _ _ ?_
 clear hK K
 have HS1 := xH ((xU HS).on hb)
 have HR1 := xH ((xU HR0).of_block (hb.block _ (xU HR0).lt))
 have HM1 := xH ((xU HM0).of_block (hb.block _ (xU HM0).lt))
 have HZ1 := xH (show w.heap.size + 3 ≤ w1.heap.size from by have := xU HZ; have := hb.size; omega)
 have HR := xH hr
 clear hb hr HCF HS HR0 HM0 HZ
 cases r with
 | false =>
   have HRX := HR1; have HBX := xH (xU HS1).bel
   clear HR HOK HM1 HR1 HS1 HZ1
   go_upto_region 2 with fail
   refine wp_region_list ?_
   refine wpList_plain rfl (fun K hK => ?_)
   go_simp
   refine hK _ _ ?_
   clear hK K
   have hrw := xU HRX
   refine wpList_store_mid rfl _ _ _ rfl (w.heap.size + 2) 0 lZ.toArray rfl rfl (there_row hrw) info18 (one18 0 0 0 0 0 0 0 0 0 0 0 nil7 (by simp [nil7, Value.oneCell'])) ?_
   have hr2 := row_all (n := 18) lZ rfl hrw
   have hb2 := below_setCells (show w.heap.size ≤ w.heap.size + 2 by omega) lZ 0 w1 (xU HBX)
   generalize w1.setCells (w.heap.size + 2) 0 _ = W at hr2 hb2 ⊢
   clear hrw HRX HBX
   have HB := xH hb2
   clear hb2
   go_wp2_with fail
   exact bodyPost_ret (v := .tuple #[.agg lZ.toArray, .bool false]) (results18 (by rfl) _ _ (w.heap.size + 2) lZ _ rfl rfl hr2 rfl) rfl ⟨nil7, [], [], [], [], [], [], [], rfl, cw_nil, dj_nil, fun b hb => by simp [F7] at hb, xU HB⟩
 | true =>
   have HOKS := xH ((xU HR).1 rfl)
   have HF := xH ((formS_iff c).1 (xU HOKS).1).1
   obtain ⟨y, hy⟩ : ∃ y : Nat, y = c.hands.length := ⟨_, rfl⟩
   have HY := xH hy
   have hy8 : y ≤ 8 := by rw [hy]; exact (xU HF).small.1
   clear hy HR
   have hw3 : IntKind.i64.wrap ((y : Int) + 3) = (y : Int) + 3 := by rw [IntKind.wrap_i64]; omega
   have m0 : w1.cell? ⟨w.heap.size + 1, 0, none⟩ = some (.int .i64 mw) := (xU HM1).cell (i := 0) (by omega)
   have k1 := (xU HS1).k1
   rw [← (xU HF).hands, ← xU HY] at k1
   by_cases hin : 0 ≤ mw ∧ mw ≤ (y : Int) + 3
   · obtain ⟨who, rfl⟩ : ∃ who : Nat, mw = (who : Int) := ⟨mw.toNat, by omega⟩
     have HIN1 := xH (fun W => inYes (who : Int) 0 ((y : Int) + 3) W hin)
     have HWY := xH (fun W (hW : Ag P w W c A) => l52Ways_any c A P W hW.at' hW.hand.2 (xU HF) who (by have := xU HY; omega))
     have HNO := xH (show ∀ k : Nat, mk = (k : Int) → (ways c who)[k]? ≠ some true from fun k hk he => xU HOK ⟨xU HOKS, who, k, rfl, hk, by have := xU HY; omega, he⟩)
     have hbl := ways_len c who
     clear HOK hin
     generalize ways c who = bs at HWY HNO hbl
     have hwb : IntKind.i64.wrap ((bs.length : Int) - 1) = (bs.length : Int) - 1 := by rw [IntKind.wrap_i64]; omega
     go_upto_region 3 with (go_at_call 36; refine (xU HIN1 _).mono ?_; rintro e w' ⟨rfl, rfl⟩)
     refine wp_region_list ?_
     refine wpList_load_mid rfl _ _ rfl w.heap.size 0 rfl (lA c A) dd (xU HS1).range hdu hdr info18 ?_
     go_upto_region 4 with (go_at_call 37; refine (xU HWY _ (xU HS1)).mono ?_; rintro e w2 ⟨a2, cap2, rfl, hbt, hb⟩)
     have HS2 := xH ((xU HS1).on hb)
     have HR2 := xH ((xU HR1).of_block (hb.block _ (xU HR1).lt))
     have HM2 := xH ((xU HM1).of_block (hb.block _ (xU HM1).lt))
     have HZ2 := xH (Nat.le_trans (xU HZ1) hb.size)
     clear hb m0 k1 HS1 HR1 HM1 HZ1 HWY
     have m1 : w2.cell? ⟨w.heap.size + 1, 1, none⟩ = some (.int .i64 mk) := (xU HM2).cell (i := 1) (by omega)
     have HRX := HR2; have HBX := xH (xU HS2).bel
     clear HS2 HR2 HM2 HZ2 HIN1 hw3
     by_cases hk : 0 ≤ mk ∧ mk ≤ (bs.length : Int) - 1
     · have HIN2 := xH (fun W => inYes mk 0 ((bs.length : Int) - 1) W hk)
       obtain ⟨k, rfl⟩ : ∃ k : Nat, mk = (k : Int) := ⟨mk.toNat, by omega⟩
       have hkl : k < bs.length := by omega
       obtain ⟨bb, bo, rfl, e0⟩ := hbt.at' k hkl
       rw [show bs[k] = false from by
        have hn := xU HNO k rfl
        rw [List.getElem?_eq_getElem hkl] at hn
        cases hv : bs[k] with
        | false => rfl
        | true => exact absurd (by rw [hv]) hn] at e0
       clear hbt HNO hk
       generalize bs.length = nb at hbl hkl HIN2 hwb e0 ⊢
       go_upto_region 5 with (go_at_call 36; refine (xU HIN2 _).mono ?_; rintro e w' ⟨rfl, rfl⟩)
       refine wp_region_list ?_
       refine wpList_plain rfl (fun K hK => ?_)
       go_simp
       refine hK _ _ ?_
       clear hK K
       have hrw := xU HRX
       refine wpList_store_mid rfl _ _ _ rfl (w.heap.size + 2) 0 lZ.toArray rfl rfl (there_row hrw) info18 (one18 0 0 0 0 0 0 0 0 0 0 0 nil7 (by simp [nil7, Value.oneCell'])) ?_
       have hr2 := row_all (n := 18) lZ rfl hrw
       have hb2 := below_setCells (show w.heap.size ≤ w.heap.size + 2 by omega) lZ 0 w2 (xU HBX)
       generalize w2.setCells (w.heap.size + 2) 0 _ = W at hr2 hb2 ⊢
       clear hrw HRX HBX
       have HB := xH hb2
       clear hb2
       go_wp2_with fail
       exact bodyPost_ret (v := .tuple #[.agg lZ.toArray, .bool false]) (results18 (by rfl) _ _ (w.heap.size + 2) lZ _ rfl rfl hr2 rfl) rfl ⟨nil7, [], [], [], [], [], [], [], rfl, cw_nil, dj_nil, fun b hb => by simp [F7] at hb, xU HB⟩
     · have HIN2 := xH (fun W => inNo mk 0 ((bs.length : Int) - 1) W hk)
       clear hbt HNO hk
       generalize bs.length = nb at hbl HIN2 hwb ⊢
       go_upto_region 5 with (go_at_call 36; refine (xU HIN2 _).mono ?_; rintro e w' ⟨rfl, rfl⟩)
       refine wp_region_list ?_
       refine wpList_plain rfl (fun K hK => ?_)
       go_simp
       refine hK _ _ ?_
       clear hK K
       have hrw := xU HRX
       refine wpList_store_mid rfl _ _ _ rfl (w.heap.size + 2) 0 lZ.toArray rfl rfl (there_row hrw) info18 (one18 0 0 0 0 0 0 0 0 0 0 0 nil7 (by simp [nil7, Value.oneCell'])) ?_
       have hr2 := row_all (n := 18) lZ rfl hrw
       have hb2 := below_setCells (show w.heap.size ≤ w.heap.size + 2 by omega) lZ 0 w2 (xU HBX)
       generalize w2.setCells (w.heap.size + 2) 0 _ = W at hr2 hb2 ⊢
       clear hrw HRX HBX
       have HB := xH hb2
       clear hb2
       go_wp2_with fail
       exact bodyPost_ret (v := .tuple #[.agg lZ.toArray, .bool false]) (results18 (by rfl) _ _ (w.heap.size + 2) lZ _ rfl rfl hr2 rfl) rfl ⟨nil7, [], [], [], [], [], [], [], rfl, cw_nil, dj_nil, fun b hb => by simp [F7] at hb, xU HB⟩
   · have HIN1 := xH (fun W => inNo mw 0 ((y : Int) + 3) W hin)
     have HRX := HR1; have HBX := xH (xU HS1).bel
     clear hin HOK HM1 HR1 HS1 HZ1
     go_upto_region 2 with (go_at_call 36; refine (xU HIN1 _).mono ?_; rintro e w' ⟨rfl, rfl⟩)
     refine wp_region_list ?_
     refine wpList_plain rfl (fun K hK => ?_)
     go_simp
     refine hK _ _ ?_
     clear hK K
     have hrw := xU HRX
     refine wpList_store_mid rfl _ _ _ rfl (w.heap.size + 2) 0 lZ.toArray rfl rfl (there_row hrw) info18 (one18 0 0 0 0 0 0 0 0 0 0 0 nil7 (by simp [nil7, Value.oneCell'])) ?_
     have hr2 := row_all (n := 18) lZ rfl hrw
     have hb2 := below_setCells (show w.heap.size ≤ w.heap.size + 2 by omega) lZ 0 w1 (xU HBX)
     generalize w1.setCells (w.heap.size + 2) 0 _ = W at hr2 hb2 ⊢
     clear hrw HRX HBX
     have HB := xH hb2
     clear hb2
     go_wp2_with fail
     exact bodyPost_ret (v := .tuple #[.agg lZ.toArray, .bool false]) (results18 (by rfl) _ _ (w.heap.size + 2) lZ _ rfl rfl hr2 rfl) rfl ⟨nil7, [], [], [], [], [], [], [], rfl, cw_nil, dj_nil, fun b hb => by simp [F7] at hb, xU HB⟩
end Go.Proofs.YtibgjcejddpldaaGreat
