/- A part. -/
import Derived.Test.YtibgjcejddpldaaGreatPart44
import Derived.Deep.Fields
set_option maxRecDepth 100000
set_option maxHeartbeats 12800000
namespace Go.Proofs.YtibgjcejddpldaaGreat
open Go Go.RowKit
theorem lawCrewStep_any (c : Cw) (A : A7) (P : Nat → Prop) (mw mk : Int) (w : World) (h : CwAt P w c (A.v c)) (hP : ∀ b, P b → b < w.heap.size) : Calls Tryz.prog 6 #[.agg #[.int .i64 c.jobs, .int .i64 c.workers, .int .i64 c.window, .int .i64 c.next, .int .i64 c.reader, .slice A.q c.queue.length A.pq, .slice A.h c.hands.length A.ph, .int .i64 c.closer, .slice A.r c.results.length A.pr, .int .i64 c.keeper, .slice A.g c.ring.length A.pg, .int .i64 c.due, .slice A.o c.out.length A.po, .int .i64 c.user, .slice A.t c.got.length A.pt, .int .i64 c.room, .slice A.s c.shut.length A.ps, .int .i64 c.ops], .agg #[.int .i64 mw, .int .i64 mk]] w fun e w' => e = .returned (.bool true) ∧ Below w.heap.size w w' := by
 have HLN := xH h.ln
 have HP := xH hP
 have KB0 := xH (Bm.start h hP mw mk)
 have HB0 := xH (show Below w.heap.size w ((w.alloc (.cells #[.int .i64 c.jobs, .int .i64 c.workers, .int .i64 c.window, .int .i64 c.next, .int .i64 c.reader, .slice A.q c.queue.length A.pq, .slice A.h c.hands.length A.ph, .int .i64 c.closer, .slice A.r c.results.length A.pr, .int .i64 c.keeper, .slice A.g c.ring.length A.pg, .int .i64 c.due, .slice A.o c.out.length A.po, .int .i64 c.user, .slice A.t c.got.length A.pt, .int .i64 c.room, .slice A.s c.shut.length A.ps, .int .i64 c.ops] 45)).alloc (.cells #[.int .i64 mw, .int .i64 mk] 54)) from ((Below.refl _ _).alloc (Nat.le_refl _) _).alloc (by simp) _)
 obtain ⟨dL, hdLu, hdLr⟩ := rowWorldL
 obtain ⟨dd, hdu, hdr⟩ := rowWorld
 obtain ⟨x, ok, hsm, hsp, him⟩ := step_both c mw mk
 have HSP := xH hsp; have HIM := xH him
 have hm1 : (1 + mkC x : Nat) ≤ 10001 := by omega
 have hm2 : mkC x ≤ 1048576 := by omega
 have HM := xH hm2
 generalize hmm : 1 + mkC x = m at hm1
 have HMM := xH hmm
 clear hmm hm2 hsm hsp him
 clear h hP
 go_enter Tryz.func6, Tryz.ntmps6
 go_upto_region 2 with fail
 generalize (w.alloc (.cells #[.int .i64 c.jobs, .int .i64 c.workers, .int .i64 c.window, .int .i64 c.next, .int .i64 c.reader, .slice A.q c.queue.length A.pq, .slice A.h c.hands.length A.ph, .int .i64 c.closer, .slice A.r c.results.length A.pr, .int .i64 c.keeper, .slice A.g c.ring.length A.pg, .int .i64 c.due, .slice A.o c.out.length A.po, .int .i64 c.user, .slice A.t c.got.length A.pt, .int .i64 c.room, .slice A.s c.shut.length A.ps, .int .i64 c.ops] 45)).alloc (.cells #[.int .i64 mw, .int .i64 mk] 54) = W0 at KB0 HB0 ⊢
 obtain ⟨b0, hb0⟩ : ∃ b, b = w.heap.size := ⟨_, rfl⟩
 have HEQ0 := xH hb0
 rw [← hb0] at KB0 ⊢
 clear hb0
 refine wp_region_list ?_
 refine wpList_load_mid rfl _ _ rfl b0 0 rfl [.int .i64 c.jobs, .int .i64 c.workers, .int .i64 c.window, .int .i64 c.next, .int .i64 c.reader, .slice A.q c.queue.length A.pq, .slice A.h c.hands.length A.ph, .int .i64 c.closer, .slice A.r c.results.length A.pr, .int .i64 c.keeper, .slice A.g c.ring.length A.pg, .int .i64 c.due, .slice A.o c.out.length A.po, .int .i64 c.user, .slice A.t c.got.length A.pt, .int .i64 c.room, .slice A.s c.shut.length A.ps, .int .i64 c.ops] dL (xU KB0).bc.range hdLu hdLr info18L ?_
 refine wpList_plain rfl (fun K hK => ?_); go_simp; refine hK _ _ ?_; clear hK K
 refine wpList_plain rfl (fun K hK => ?_)
 go_simp
 refine (szCrewWorld_any c A 1048576 W0 (xU HLN) (by omega) (by omega)).mono ?_
 rintro e w1 ⟨r, rfl, hr, hb1⟩
 refine hK _ _ ?_
 clear hK K
 have KB1 := xH ((xU KB0).on hb1); have HB1 := xH ((xU HB0).trans (hb1.mono (xU HB0).size))
 clear hb1 KB0 HB0
 rcases hr with rfl | ⟨hr0, hr1⟩
 · go_wp2_with fail
   go_ret
   exact ⟨rfl, xU HB1⟩
 have HWT := xH (show wC c ≤ 1048576 from by omega)
 clear hr1
 have hk1 : 1 + mkC c ≤ 2097153 := by have := xU HWT; unfold wC at this; unfold mkC; omega
 have HK := xH (show mkC c ≤ 4194304 by omega)
 generalize hkk : 1 + mkC c = kk at hk1
 have HKK := xH hkk
 clear hkk
 have hlo1 : w.heap.size + 1 < w1.heap.size := by have := (xU KB1).mv.lt; have := xU HEQ0; omega
 go_upto_region 5 with fail
 refine wp_swap (c' := Code.region 5 sA5Ops true) (by kernel_rfl) ?_
 refine wp_region_noPanic ?_
 refine sA5 c A P mw mk b0 x ok w1 (xU HSP) ((xU KB1).on (below_drewN _ 1)) (xU HWT) _ (fun _ _ _ _ _ h => h) (by kernel_rfl) ?_
 intro fv u Uq Uh Ur Ug Uo Ut Us g6 W4 hby hbw
 refine NoPanic.normal ?_
 simp only [frL_eq, frG, List.lookup, Nat.reduceBEq, Nat.reduceAdd, Option.getD_some, Option.getD_none]
 have hbb : Below w1.heap.size w1 W4 := (below_drewN w1 1).trans hbw
 have KW4 := xH (show By W4 x x u Uq Uh Ur Ug Uo Ut Us w1.heap.size W4.heap.size g6 from hby); have hz4 := hbb.size
 clear hby hbw
 have KB4 := xH ((xU KB1).on hbb); have HB4 := xH ((xU HB1).trans (hbb.mono (xU HB1).size))
 clear hbb KB1 HB1
 go_upto_region 6 with fail
 refine wp_region_list ?_
 refine wpList_load_mid rfl _ _ rfl b0 0 rfl [.int .i64 c.jobs, .int .i64 c.workers, .int .i64 c.window, .int .i64 c.next, .int .i64 c.reader, .slice A.q c.queue.length A.pq, .slice A.h c.hands.length A.ph, .int .i64 c.closer, .slice A.r c.results.length A.pr, .int .i64 c.keeper, .slice A.g c.ring.length A.pg, .int .i64 c.due, .slice A.o c.out.length A.po, .int .i64 c.user, .slice A.t c.got.length A.pt, .int .i64 c.room, .slice A.s c.shut.length A.ps, .int .i64 c.ops] dL (xU KB4).bc.range hdLu hdLr info18L ?_
 refine wpList_plain rfl (fun K hK => ?_)
 go_simp
 refine (toCrewWorld_val c A P W4 (xU KB4).bc.at' (xU KB4).bc.lt (xU HWT)).mono ?_
 rintro e w5 ⟨y, Xq, Xh, Xr, Xg, Xo, Xt, Xs, rfl, hown, hdj, hrng, hb⟩
 refine hK _ _ ?_
 clear hK K
 obtain ⟨hbx, hbb⟩ := Bx.new hown hdj hrng hb
 have hon := cw_oneB hown
 have hsz := hb.size
 clear hown hdj hrng hb
 refine wpList_plain rfl (fun K hK => ?_); go_simp; refine hK _ _ ?_; clear hK K
 refine wpList_store_mid rfl _ _ _ rfl w5.heap.size 0 #[.int .i64 c.jobs, .int .i64 c.workers, .int .i64 c.window, .int .i64 c.next, .int .i64 c.reader, y.q, y.h, .int .i64 c.closer, y.r, .int .i64 c.keeper, y.g, .int .i64 c.due, y.o, .int .i64 c.user, y.t, .int .i64 c.room, y.s, .int .i64 c.ops] rfl rfl Bx.there info18 hon ?_
 clear hon
 generalize (w5.alloc _).setCells _ 0 _ = W6 at hbx hbb ⊢
 have KX6 := xH hbx; have hz5 := hsz
 clear hbx hsz
 have KB6 := xH ((xU KB4).on hbb); have KW6 := xH ((xU KW4).on hbb); have HB6 := xH ((xU HB4).trans (hbb.mono (xU HB4).size))
 clear hbb KB4 KW4 HB4
 have hlow6 : w5.heap.size < W6.heap.size := (xU KX6).box.lt
 go_upto_region 7 with fail
 refine wp_swap (c' := Code.region 7 sB7Ops true) (by kernel_rfl) ?_
 refine wp_region_noPanic ?_
 refine sB7 c A P mw mk b0 x ok W6 y Xq Xh Xr Xg Xo Xt Xs W4.heap.size w5.heap.size (.pointer (some ⟨b0, 0, none⟩)) (.pointer (some ⟨g6, 0, none⟩)) (.bool ok) (xU HIM) ((xU KB6).on (below_drewN _ 1)) (xU HWT) ((xU KX6).on (below_drewN _ 1)) _ (fun _ _ _ _ _ h => h) (by kernel_rfl) ?_
 intro fv v Fq Fh Fr Fg Fo Ft Fs g9 W8 hby hbw
 refine NoPanic.normal ?_
 simp only [frL_eq, frG, List.lookup, Nat.reduceBEq, Nat.reduceAdd, Option.getD_some, Option.getD_none]
 have hbb : Below W6.heap.size W6 W8 := (below_drewN W6 1).trans hbw
 have KG8 := xH (show By W8 x x v Fq Fh Fr Fg Fo Ft Fs W6.heap.size W8.heap.size g9 from hby); have hz8 := hbb.size
 clear hby hbw
 have KB8 := xH ((xU KB6).on hbb); have KW8 := xH ((xU KW6).on hbb); have KX8 := xH ((xU KX6).on hbb); have HB8 := xH ((xU HB6).trans (hbb.mono (xU HB6).size))
 clear hbb KB6 KW6 KX6 HB6
 go_upto_region 8 with fail
 refine wp_region_list ?_
 refine wpList_load_mid rfl _ _ rfl g9 0 rfl [.int .i64 x.jobs, .int .i64 x.workers, .int .i64 x.window, .int .i64 x.next, .int .i64 x.reader, v.q, v.h, .int .i64 x.closer, v.r, .int .i64 x.keeper, v.g, .int .i64 x.due, v.o, .int .i64 x.user, v.t, .int .i64 x.room, v.s, .int .i64 x.ops] dd (xU KG8).range hdu hdr info18 ?_
 refine wpList_load_mid rfl _ _ rfl g6 0 rfl [.int .i64 x.jobs, .int .i64 x.workers, .int .i64 x.window, .int .i64 x.next, .int .i64 x.reader, u.q, u.h, .int .i64 x.closer, u.r, .int .i64 x.keeper, u.g, .int .i64 x.due, u.o, .int .i64 x.user, u.t, .int .i64 x.room, u.s, .int .i64 x.ops] dd (xU KW8).range hdu hdr info18 ?_
 refine wpList_plain rfl (fun K hK => ?_)
 go_simp
 refine ((xU KG8).eq (xU KW8)).mono ?_
 rintro e w9 ⟨rfl, hb⟩
 refine hK _ _ ?_
 clear hK K
 have KB9 := xH ((xU KB8).on hb); have KW9 := xH ((xU KW8).on hb); have KX9 := xH ((xU KX8).on hb); have KG9 := xH ((xU KG8).on hb); have HB9 := xH ((xU HB8).trans (hb.mono (xU HB8).size))
 clear hb KB8 KW8 KX8 KG8 HB8
 have hok : (ok != ok) = false := by simp
 go_upto_region 10 with fail
 refine wp_swap (c' := Code.region 10 st10Ops true) (by kernel_rfl) ?_
 refine wp_region_noPanic ?_
 refine st10 c A P (fun W => Bm P b0 c A mw mk W ∧ By W x x u Uq Uh Ur Ug Uo Ut Us w1.heap.size W4.heap.size g6 ∧ Bx W c c y Xq Xh Xr Xg Xo Xt Xs W4.heap.size w5.heap.size ∧ By W x x v Fq Fh Fr Fg Fo Ft Fs W6.heap.size W8.heap.size g9 ∧ Below w.heap.size w W) (fun W W' h hb => ⟨h.1.on hb, h.2.1.on hb, h.2.2.1.on hb, h.2.2.2.1.on hb, h.2.2.2.2.trans (hb.mono h.2.2.2.2.size)⟩) y Xq Xh Xr Xg Xo Xt Xs W4.heap.size w5.heap.size b0 (fun W h => h.2.2.1) (fun W h => h.1.bc) (xU HWT) _ _ (fun _ _ _ _ _ h => h) ⟨(xU KB9).on (below_drewN _ 1), (xU KW9).on (below_drewN _ 1), (xU KX9).on (below_drewN _ 1), (xU KG9).on (below_drewN _ 1), (xU HB9).trans ((below_drewN _ 1).mono (xU HB9).size)⟩ (by rfl) ?_
 intro fv W10 hS
 refine NoPanic.normal ?_
 simp only [frL_eq, frG, List.lookup, Nat.reduceBEq, Nat.reduceAdd, Option.getD_some, Option.getD_none]
 have KB10 := xH hS.1; have KW10 := xH hS.2.1; have KX10 := xH hS.2.2.1; have KG10 := xH hS.2.2.2.1; have HB10 := xH hS.2.2.2.2
 clear hS KB9 KW9 KX9 KG9 HB9
 go_upto_region 13 with fail
 refine wp_region_list ?_
 refine wpList_load_mid rfl _ _ rfl w5.heap.size 0 rfl [.int .i64 c.jobs, .int .i64 c.workers, .int .i64 c.window, .int .i64 c.next, .int .i64 c.reader, y.q, y.h, .int .i64 c.closer, y.r, .int .i64 c.keeper, y.g, .int .i64 c.due, y.o, .int .i64 c.user, y.t, .int .i64 c.room, y.s, .int .i64 c.ops] dd (xU KX10).range hdu hdr info18 ?_
 refine wpList_plain rfl (fun K hK => ?_); go_simp; refine hK _ _ ?_; clear hK K
 refine wpList_plain rfl (fun K hK => ?_)
 go_simp
 refine ((xU KX10).markG (xU HK)).mono ?_
 rintro e w11 ⟨rfl, hx⟩
 refine hK _ _ ?_
 clear hK K
 rw [xU HKK]
 have hgx : ∀ z, z ∈ F7 Xq Xh Xr Xg Xo Xt Xs → W4.heap.size ≤ z ∧ z < W6.heap.size := fun z hz => by have := (xU KX10).rng z hz; omega
 have KB11 := xH ((xU KB10).exc hx (fun z hz hm => by have := xU HP z hz; have := hgx z hm; omega) (fun hm => by have := hgx b0 hm; have := xU HEQ0; omega) (fun hm => by have := hgx (b0 + 1) hm; have := xU HEQ0; omega)); have KW11 := xH ((xU KW10).exc hx (fun z hz => Or.inr (hgx z hz).1)); have KG11 := xH ((xU KG10).exc hx (fun z hz => Or.inl (hgx z hz).2)); have HB11 := xH ((xU HB10).trans (hx.below (xU HB10).size (fun z hz => by have := (hgx z hz).1; omega)))
 clear hx hgx KX10 KB10 KW10 KG10 HB10
 go_upto_region 14 with fail
 refine wp_region_list ?_
 refine wpList_plain rfl (fun K hK => ?_); go_simp; refine hK _ _ ?_; clear hK K
 refine wpList_plain rfl (fun K hK => ?_); go_simp; refine hK _ _ ?_; clear hK K
 refine wpList_plain rfl (fun K hK => ?_); go_simp; refine hK _ _ ?_; clear hK K
 refine wpList_want (by kernel_rfl) (fun K hK => wp_load_mid _ _ rfl g9 0 rfl [.int .i64 x.jobs, .int .i64 x.workers, .int .i64 x.window, .int .i64 x.next, .int .i64 x.reader, v.q, v.h, .int .i64 x.closer, v.r, .int .i64 x.keeper, v.g, .int .i64 x.due, v.o, .int .i64 x.user, v.t, .int .i64 x.room, v.s, .int .i64 x.ops] dd (xU KG11).range hdu hdr info18 (hK _ _ ?_))
 refine wpList_want (by kernel_rfl) (fun K hK => wp_load_mid _ _ rfl g6 0 rfl [.int .i64 x.jobs, .int .i64 x.workers, .int .i64 x.window, .int .i64 x.next, .int .i64 x.reader, u.q, u.h, .int .i64 x.closer, u.r, .int .i64 x.keeper, u.g, .int .i64 x.due, u.o, .int .i64 x.user, u.t, .int .i64 x.room, u.s, .int .i64 x.ops] dd (xU KW11).range hdu hdr info18 (hK _ _ ?_))
 refine wpList_want (by kernel_rfl) (fun K hK => ?_)
 go_simp
 refine ((xU KG11).eq (xU KW11)).mono ?_
 rintro e w12 ⟨rfl, hb⟩
 refine hK _ _ ?_
 clear hK K
 have KB12 := xH ((xU KB11).on hb); have KW12 := xH ((xU KW11).on hb); have KG12 := xH ((xU KG11).on hb); have HB12 := xH ((xU HB11).trans (hb.mono (xU HB11).size))
 clear hb KB11 KW11 KG11 HB11
 go_upto_region 17 with fail
 refine wp_region_list ?_
 refine wpList_load_mid rfl _ _ rfl g9 0 rfl [.int .i64 x.jobs, .int .i64 x.workers, .int .i64 x.window, .int .i64 x.next, .int .i64 x.reader, v.q, v.h, .int .i64 x.closer, v.r, .int .i64 x.keeper, v.g, .int .i64 x.due, v.o, .int .i64 x.user, v.t, .int .i64 x.room, v.s, .int .i64 x.ops] dd (xU KG12).range hdu hdr info18 ?_
 refine wpList_plain rfl (fun K hK => ?_); go_simp; refine hK _ _ ?_; clear hK K
 refine wpList_plain rfl (fun K hK => ?_)
 go_simp
 refine ((xU KG12).mark (xU HM)).mono ?_
 rintro e w13 ⟨rfl, hk, hx⟩
 refine hK _ _ ?_
 clear hK K
 rw [xU HMM]
 have hgx : ∀ z, z ∈ F7 Fq Fh Fr Fg Fo Ft Fs → W6.heap.size ≤ z := fun z hz => ((xU KG12).rng z hz).1
 have KB13 := xH ((xU KB12).exc hx (fun z hz hm => by have := xU HP z hz; have := hgx z hm; omega) (fun hm => by have := hgx b0 hm; have := xU HEQ0; omega) (fun hm => by have := hgx (b0 + 1) hm; have := xU HEQ0; omega)); have KW13 := xH ((xU KW12).exc hx (fun z hz => Or.inr (by have := hgx z hz; omega))); have KG13 := xH hk; have HB13 := xH ((xU HB12).trans (hx.below (xU HB12).size (fun z hz => by have := hgx z hz; omega)))
 clear hx hk hgx KB12 KW12 KG12 HB12
 go_upto_region 19 with fail
 refine wp_region_list ?_
 refine wpList_load_mid rfl _ _ rfl g9 0 rfl [.int .i64 x.jobs, .int .i64 x.workers, .int .i64 x.window, .int .i64 x.next, .int .i64 x.reader, v.q, v.h, .int .i64 x.closer, v.r, .int .i64 x.keeper, v.g, .int .i64 x.due, v.o, .int .i64 x.user, v.t, .int .i64 x.room, v.s, .int .i64 x.ops] dd (xU KG13).range hdu hdr info18 ?_
 refine wpList_plain rfl (fun K hK => ?_); go_simp; refine hK _ _ ?_; clear hK K
 refine wpList_plain rfl (fun K hK => ?_)
 go_simp
 refine ((xU KG13).held (xU HM)).mono ?_
 rintro e w14 ⟨rfl, hb⟩
 refine hK _ _ ?_
 clear hK K
 rw [xU HMM]
 have KB14 := xH ((xU KB13).on hb); have KW14 := xH ((xU KW13).on hb); have KG14 := xH ((xU KG13).on hb); have HB14 := xH ((xU HB13).trans (hb.mono (xU HB13).size))
 clear hb KB13 KW13 KG13 HB13
 go_upto_region 24 with fail
 refine wp_swap (c' := Code.region 24 sA24Ops true) (by kernel_rfl) ?_
 refine wp_region_noPanic ?_
 refine sA24 c A P mw mk b0 x ok w14 (.pointer (some ⟨g6, 0, none⟩)) (.bool ok) (.pointer (some ⟨g9, 0, none⟩)) _ (xU HIM) ((xU KB14).on (below_drewN _ 1)) (xU HWT) _ (fun _ _ _ _ _ h => h) (by rfl) ?_
 intro fv t Gq Gh Gr Gg Go Gt Gs g14 W17 hby hbw
 refine NoPanic.normal ?_
 simp only [frL_eq, frG, List.lookup, Nat.reduceBEq, Nat.reduceAdd, Option.getD_some, Option.getD_none]
 have hbb : Below w14.heap.size w14 W17 := (below_drewN w14 1).trans hbw
 have KY17 := xH hby
 clear hby hbw
 have KW17 := xH ((xU KW14).on hbb); have KG17 := xH ((xU KG14).on hbb); have HB17 := xH ((xU HB14).trans (hbb.mono (xU HB14).size))
 clear hbb KW14 KG14 HB14
 clear KB14
 go_upto_region 25 with fail
 refine wp_region_list ?_
 refine wpList_load_mid rfl _ _ rfl g14 0 rfl [.int .i64 x.jobs, .int .i64 x.workers, .int .i64 x.window, .int .i64 x.next, .int .i64 x.reader, t.q, t.h, .int .i64 x.closer, t.r, .int .i64 x.keeper, t.g, .int .i64 x.due, t.o, .int .i64 x.user, t.t, .int .i64 x.room, t.s, .int .i64 x.ops] dd (xU KY17).range hdu hdr info18 ?_
 refine wpList_load_mid rfl _ _ rfl g6 0 rfl [.int .i64 x.jobs, .int .i64 x.workers, .int .i64 x.window, .int .i64 x.next, .int .i64 x.reader, u.q, u.h, .int .i64 x.closer, u.r, .int .i64 x.keeper, u.g, .int .i64 x.due, u.o, .int .i64 x.user, u.t, .int .i64 x.room, u.s, .int .i64 x.ops] dd (xU KW17).range hdu hdr info18 ?_
 refine wpList_plain rfl (fun K hK => ?_)
 go_simp
 refine ((xU KY17).eq (xU KW17)).mono ?_
 rintro e w18 ⟨rfl, hb⟩
 refine hK _ _ ?_
 clear hK K
 have KG18 := xH ((xU KG17).on hb); have HB18 := xH ((xU HB17).trans (hb.mono (xU HB17).size))
 clear hb KG17 HB17
 clear KY17 KW17
 go_upto_region 28 with fail
 refine wp_region_list ?_
 refine wpList_load_mid rfl _ _ rfl g9 0 rfl [.int .i64 x.jobs, .int .i64 x.workers, .int .i64 x.window, .int .i64 x.next, .int .i64 x.reader, v.q, v.h, .int .i64 x.closer, v.r, .int .i64 x.keeper, v.g, .int .i64 x.due, v.o, .int .i64 x.user, v.t, .int .i64 x.room, v.s, .int .i64 x.ops] dd (xU KG18).range hdu hdr info18 ?_
 refine wpList_plain rfl (fun K hK => ?_); go_simp; refine hK _ _ ?_; clear hK K
 refine wpList_plain rfl (fun K hK => ?_)
 go_simp
 refine ((xU KG18).held (xU HM)).mono ?_
 rintro e w19 ⟨rfl, hb⟩
 refine hK _ _ ?_
 clear hK K
 rw [xU HMM]
 have HB19 := xH ((xU HB18).trans (hb.mono (xU HB18).size))
 clear hb KG18 HB18
 go_wp2_with fail
 go_ret
 exact ⟨rfl, xU HB19⟩
end Go.Proofs.YtibgjcejddpldaaGreat

namespace Go.Proofs.YtibgjcejddpldaaGreat
open Go Go.RowKit Go.ChangeShapes Go.WideShapes Go.ChangeAt Go.Deep
section
variable {H : Type} {enc : TypeId × Value → H} {W : World} {spare : Nat → Bool} {held : Bool}
end
end Go.Proofs.YtibgjcejddpldaaGreat

namespace Go.Proofs.YtibgjcejddpldaaGreat
open Go Go.RowKit Go.ChangeShapes Go.WideShapes Go.ChangeAt Go.Deep
section
variable {H : Type} {enc : TypeId × Value → H} {W : World} {spare : Nat → Bool} {held : Bool}
theorem flat_of_trod {E : Type} [Inhabited E] (cs : E → List Value) (ok : E → Prop) (T S n : Nat) (hn : 0 < n) (hcl : ∀ e, (cs e).length = n) (hu : Tryz.prog.underlying S = some (.slice T)) (hc : Tryz.prog.cellsOf T = n)
 (op : ∀ (fuel : Nat) (l : List Value) (x : DataW H × List MemPlace), DataW.trod enc Tryz.prog W 0 spare held fuel T l = some x → ∃ e : E, l = cs e ∧ ok e)
 {fuel : Nat} {v : Value} {x : DataW H × List MemPlace} (h : DataW.trod enc Tryz.prog W 0 spare held fuel S [v] = some x) :
 ∃ es : List E, FlatAt (fun b => b < W.heap.size) W v n (es.map cs) ∧ ∀ e, e ∈ es → ok e := by
 rcases DataW.trod_slice hu h with ⟨hcs, -⟩ | ⟨a, len, cap, elems, rest, n', hn', hcs, -, -, hl, hm, hel, hget, -⟩
 · simp only [List.cons.injEq, and_true] at hcs
   exact ⟨[], ⟨none, 0, hcs, by simp, fun i hi => by simp at hi⟩, fun e he => by cases he⟩
 · simp only [List.cons.injEq, and_true] at hcs
   unfold maxLen at hm
   rw [hc] at hget
   have hspot : 0 < len → a.spot = none := fun h0 => by
    have hgi := hget 0 h0
    rw [List.getElem?_eq_getElem (by omega)] at hgi
    obtain ⟨cs', hcs', htr⟩ := Option.bind_eq_some_iff.1 hgi
    obtain ⟨-, hl5, hcell⟩ := World.cells?_some hcs'
    have hc0 := hcell 0 (by omega)
    rw [List.getElem?_eq_getElem (by omega)] at hc0
    simpa [Addr.add] using World.cell?_spot hc0
   have hkid : ∀ i, i < len → ∃ e : E, ok e ∧ ∃ b o, a = ⟨b, o, none⟩ ∧ b < W.heap.size ∧ ∀ j, j < n → W.cell? ⟨b, o + i * n + j, none⟩ = some ((cs e).getD j undef) := by
    intro i hi
    have hgi := hget i hi
    rw [List.getElem?_eq_getElem (by omega)] at hgi
    obtain ⟨cs', hcs', htr⟩ := Option.bind_eq_some_iff.1 hgi
    obtain ⟨e, rfl, he⟩ := op n' cs' _ htr
    obtain ⟨-, -, hcell⟩ := World.cells?_some hcs'
    obtain ⟨b, off, spot⟩ := a
    have hsp : spot = none := hspot (by omega)
    subst hsp
    have hj : ∀ j, j < n → W.cell? ⟨b, off + i * n + j, none⟩ = some ((cs e).getD j undef) := fun j hj => by
     have h1 := hcell j hj
     simp only [Addr.add_lit] at h1
     rw [h1, List.getElem?_eq_getElem (by rw [hcl]; exact hj), List.getD_eq_getElem?_getD, List.getElem?_eq_getElem (by rw [hcl]; exact hj)]
     rfl
    exact ⟨e, he, b, off, rfl, World.block_lt_of_cell? W _ (hj 0 hn), hj⟩
   obtain ⟨K, hK⟩ : ∃ K : Nat → E, ∀ i, i < len → ok (K i) ∧ ∃ b o, a = ⟨b, o, none⟩ ∧ b < W.heap.size ∧ ∀ j, j < n → W.cell? ⟨b, o + i * n + j, none⟩ = some ((cs (K i)).getD j undef) :=
    ⟨fun i => if h : i < len then (hkid i h).choose else default, fun i hi => by simp only [hi, dif_pos]; exact (hkid i hi).choose_spec⟩
   refine ⟨(List.range len).map K, ⟨some a, cap, by simpa using hcs, by simp; omega, fun i hi => ?_⟩, fun e he => ?_⟩
   · have hi' : i < len := by simpa using hi
     obtain ⟨-, b, o, ha, hb, hj⟩ := hK i hi'
     exact ⟨b, o, by rw [ha], hb, fun j hj' => by rw [hj j hj']; simp⟩
   · obtain ⟨i, hi, rfl⟩ := List.mem_map.1 he
     exact (hK i (by simpa using hi)).1
theorem fields_of {T : Nat} {ts : Array TypeId} {k : Nat} (hk : ts.size = k) (hone : ∃ fs : Array Field, Tryz.prog.underlying T = some (.struct fs) ∧ oneCellFields Tryz.prog fs = true ∧ fs.map (·.type) = ts) {fuel : Nat} {cs : List Value} {x : DataW H × List MemPlace} (h : DataW.trod enc Tryz.prog W 0 spare held fuel T cs = some x) :
 cs.length = Tryz.prog.cellsOf T ∧ ∃ n, ∀ (i : Nat) (U : TypeId), i < k → ts[i]? = some U → ∃ y, DataW.trod enc Tryz.prog W 0 spare held n U ((cs.drop i).take 1) = some y := by
 obtain ⟨fs, hu, hone, hty⟩ := hone
 obtain ⟨xs, n, hn, -, hlen, hxl, hf⟩ := DataW.trod_struct hu h
 refine ⟨hlen, n, fun i U hi hT => ?_⟩
 have hsz : fs.size = k := by have := congrArg Array.size hty; rw [hk] at this; simpa using this
 have hfi : fs[i]? = some (fs[i]'(by omega)) := Array.getElem?_eq_getElem (by omega)
 obtain ⟨ho, hc⟩ := hone_of hone i _ hfi
 have := hf i _ hfi
 rw [ho, hc] at this
 have hTT : (fs[i]'(by omega)).type = U := by
  rw [← hty] at hT
  simpa [hsz, hi] using hT
 rw [hTT] at this
 exact ⟨xs[i]'(by omega), by rw [this]; exact List.getElem?_eq_getElem (by omega)⟩
instance : Inhabited Df := ⟨⟨ByteArray.empty, ByteArray.empty, 0⟩⟩
instance : Inhabited Dm := ⟨⟨false, ByteArray.empty⟩⟩
end
end Go.Proofs.YtibgjcejddpldaaGreat

namespace Go.Proofs.YtibgjcejddpldaaGreat
open Go Go.RowKit Go.ChangeShapes Go.WideShapes Go.ChangeAt Go.Deep
theorem cellsIntC : Tryz.prog.cellsOf 3 = 1 := by kernel_rfl
theorem cellsHandC : Tryz.prog.cellsOf 110 = 2 := by kernel_rfl
theorem cellsWorldC : Tryz.prog.cellsOf 45 = 18 := by kernel_rfl
theorem oneHandC : ∃ fs : Array Field, Tryz.prog.underlying 110 = some (.struct fs) ∧ oneCellFields Tryz.prog fs = true ∧ fs.map (·.type) = #[3, 3] := ⟨_, Tryz.underlying110, by kernel_rfl, by kernel_rfl⟩
theorem oneWorldC : ∃ fs : Array Field, Tryz.prog.underlying 45 = some (.struct fs) ∧ oneCellFields Tryz.prog fs = true ∧ fs.map (·.type) = #[3, 3, 3, 3, 3, 23, 43, 3, 23, 3, 23, 3, 23, 3, 23, 3, 23, 3] := ⟨_, Tryz.underlying45, by kernel_rfl, by kernel_rfl⟩
section
variable {H : Type} {enc : TypeId × Value → H} {W : World} {spare : Nat → Bool} {held : Bool}
theorem int_of_trodC (fuel : Nat) (l : List Value) (x : DataW H × List MemPlace) (h : DataW.trod enc Tryz.prog W 0 spare held fuel 3 l = some x) : ∃ e : Int, l = zcs e ∧ True := by
 obtain ⟨k, e, -, -⟩ := DataW.trod_int Tryz.underlying3 h
 exact ⟨k, e, trivial⟩
theorem hand_of_trodC (fuel : Nat) (l : List Value) (x : DataW H × List MemPlace) (h : DataW.trod enc Tryz.prog W 0 spare held fuel 110 l = some x) : ∃ e : Hd, l = e.cs ∧ True := by
 obtain ⟨hl, n, hf⟩ := fields_of (k := 2) rfl oneHandC h
 rw [cellsHandC] at hl
 match l, hl with
 | [c0, c1], _ =>
   obtain ⟨y0, h0⟩ := hf 0 _ (by omega) rfl
   obtain ⟨y1, h1⟩ := hf 1 _ (by omega) rfl
   simp only [List.drop_succ_cons, List.drop_zero, List.take_succ_cons, List.take_zero] at h0 h1
   obtain ⟨s, e0, -, -⟩ := DataW.trod_int Tryz.underlying3 h0
   obtain ⟨j, e1, -, -⟩ := DataW.trod_int Tryz.underlying3 h1
   simp only [List.cons.injEq, and_true] at e0 e1
   subst e0 e1
   exact ⟨⟨s, j⟩, rfl, trivial⟩
theorem ints_of_trodC {fuel : Nat} {v : Value} {x : DataW H × List MemPlace} (h : DataW.trod enc Tryz.prog W 0 spare held fuel 23 [v] = some x) : ∃ zs : List Int, ZAt (fun b => b < W.heap.size) W v zs := by
 obtain ⟨es, h1, -⟩ := flat_of_trod zcs (fun _ => True) 3 23 1 (by omega) (fun _ => rfl) Tryz.underlying23 cellsIntC int_of_trodC h
 exact ⟨es, h1⟩
theorem hands_of_trodC {fuel : Nat} {v : Value} {x : DataW H × List MemPlace} (h : DataW.trod enc Tryz.prog W 0 spare held fuel 43 [v] = some x) : ∃ zs : List Hd, HAt (fun b => b < W.heap.size) W v zs := by
 obtain ⟨es, h1, -⟩ := flat_of_trod Hd.cs (fun _ => True) 110 43 2 (by omega) (fun _ => rfl) Tryz.underlying43 cellsHandC hand_of_trodC h
 exact ⟨es, h1⟩
theorem cw_of_trod (fuel : Nat) (cs : List Value) (x : DataW H × List MemPlace) (h : DataW.trod enc Tryz.prog W 0 spare held fuel 45 cs = some x) : ∃ (c : Cw) (A : A7), cs = [.int .i64 c.jobs, .int .i64 c.workers, .int .i64 c.window, .int .i64 c.next, .int .i64 c.reader, .slice A.q c.queue.length A.pq, .slice A.h c.hands.length A.ph, .int .i64 c.closer, .slice A.r c.results.length A.pr, .int .i64 c.keeper, .slice A.g c.ring.length A.pg, .int .i64 c.due, .slice A.o c.out.length A.po, .int .i64 c.user, .slice A.t c.got.length A.pt, .int .i64 c.room, .slice A.s c.shut.length A.ps, .int .i64 c.ops] ∧ CwAt (fun b => b < W.heap.size) W c (A.v c) := by
 obtain ⟨hl, n, hf⟩ := fields_of (k := 18) rfl oneWorldC h
 rw [cellsWorldC] at hl
 match cs, hl with
 | [c0, c1, c2, c3, c4, c5, c6, c7, c8, c9, c10, c11, c12, c13, c14, c15, c16, c17], _ =>
   obtain ⟨y0, h0⟩ := hf 0 _ (by omega) rfl
   obtain ⟨y1, h1⟩ := hf 1 _ (by omega) rfl
   obtain ⟨y2, h2⟩ := hf 2 _ (by omega) rfl
   obtain ⟨y3, h3⟩ := hf 3 _ (by omega) rfl
   obtain ⟨y4, h4⟩ := hf 4 _ (by omega) rfl
   obtain ⟨y5, h5⟩ := hf 5 _ (by omega) rfl
   obtain ⟨y6, h6⟩ := hf 6 _ (by omega) rfl
   obtain ⟨y7, h7⟩ := hf 7 _ (by omega) rfl
   obtain ⟨y8, h8⟩ := hf 8 _ (by omega) rfl
   obtain ⟨y9, h9⟩ := hf 9 _ (by omega) rfl
   obtain ⟨y10, h10⟩ := hf 10 _ (by omega) rfl
   obtain ⟨y11, h11⟩ := hf 11 _ (by omega) rfl
   obtain ⟨y12, h12⟩ := hf 12 _ (by omega) rfl
   obtain ⟨y13, h13⟩ := hf 13 _ (by omega) rfl
   obtain ⟨y14, h14⟩ := hf 14 _ (by omega) rfl
   obtain ⟨y15, h15⟩ := hf 15 _ (by omega) rfl
   obtain ⟨y16, h16⟩ := hf 16 _ (by omega) rfl
   obtain ⟨y17, h17⟩ := hf 17 _ (by omega) rfl
   clear hf h
   simp only [List.drop_succ_cons, List.drop_zero, List.take_succ_cons, List.take_zero] at h0 h1 h2 h3 h4 h5 h6 h7 h8 h9 h10 h11 h12 h13 h14 h15 h16 h17
   obtain ⟨x0, e0, -, -⟩ := DataW.trod_int Tryz.underlying3 h0
   obtain ⟨x1, e1, -, -⟩ := DataW.trod_int Tryz.underlying3 h1
   obtain ⟨x2, e2, -, -⟩ := DataW.trod_int Tryz.underlying3 h2
   obtain ⟨x3, e3, -, -⟩ := DataW.trod_int Tryz.underlying3 h3
   obtain ⟨x4, e4, -, -⟩ := DataW.trod_int Tryz.underlying3 h4
   obtain ⟨x5, z5⟩ := ints_of_trodC h5
   obtain ⟨x6, z6⟩ := hands_of_trodC h6
   obtain ⟨x7, e7, -, -⟩ := DataW.trod_int Tryz.underlying3 h7
   obtain ⟨x8, z8⟩ := ints_of_trodC h8
   obtain ⟨x9, e9, -, -⟩ := DataW.trod_int Tryz.underlying3 h9
   obtain ⟨x10, z10⟩ := ints_of_trodC h10
   obtain ⟨x11, e11, -, -⟩ := DataW.trod_int Tryz.underlying3 h11
   obtain ⟨x12, z12⟩ := ints_of_trodC h12
   obtain ⟨x13, e13, -, -⟩ := DataW.trod_int Tryz.underlying3 h13
   obtain ⟨x14, z14⟩ := ints_of_trodC h14
   obtain ⟨x15, e15, -, -⟩ := DataW.trod_int Tryz.underlying3 h15
   obtain ⟨x16, z16⟩ := ints_of_trodC h16
   obtain ⟨x17, e17, -, -⟩ := DataW.trod_int Tryz.underlying3 h17
   simp only [List.cons.injEq, and_true] at e0 e1 e2 e3 e4 e7 e9 e11 e13 e15 e17
   subst e0 e1 e2 e3 e4 e7 e9 e11 e13 e15 e17
   have hc : CwAt (fun b => b < W.heap.size) W ⟨x0, x1, x2, x3, x4, x5, x6, x7, x8, x9, x10, x11, x12, x13, x14, x15, x16, x17⟩ ⟨c5, c6, c8, c10, c12, c14, c16⟩ := ⟨z5, z6, z8, z10, z12, z14, z16⟩
   obtain ⟨A, hA⟩ := hc.addr
   rw [hA] at hc
   simp only [A7.v, C7.mk.injEq] at hA
   obtain ⟨a5, a6, a8, a10, a12, a14, a16⟩ := hA
   subst a5 a6 a8 a10 a12 a14 a16
   exact ⟨_, A, rfl, hc⟩
end
end Go.Proofs.YtibgjcejddpldaaGreat
