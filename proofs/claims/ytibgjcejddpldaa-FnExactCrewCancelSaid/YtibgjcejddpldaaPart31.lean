/- The walk of the specification's CrewCancel. No conditions. -/
import Derived.Test.YtibgjcejddpldaaPart18
import Derived.Test.YtibgjcejddpldaaPart29
import Derived.Test.YtibgjcejddpldaaPart30
import Derived.Test.YtibgjcejddpldaaPart28
namespace Go.Proofs.Ytibgjcejddpldaa
open Go Go.RowKit

set_option maxRecDepth 100000 in
set_option maxHeartbeats 6400000 in
theorem specCrewCancel_no (c : Cw) (A : A7) (P : Nat → Prop) (w : World) (h : CwAt P w c (A.v c)) (hP : ∀ b, P b → b < w.heap.size) (hok : ¬ cnOk c) : Calls Try.prog 5 #[.agg #[.int .i64 c.jobs, .int .i64 c.workers, .int .i64 c.window, .int .i64 c.next, .int .i64 c.reader, .slice A.q c.queue.length A.pq, .slice A.h c.hands.length A.ph, .int .i64 c.closer, .slice A.r c.results.length A.pr, .int .i64 c.keeper, .slice A.g c.ring.length A.pg, .int .i64 c.due, .slice A.o c.out.length A.po, .int .i64 c.user, .slice A.t c.got.length A.pt, .int .i64 c.room, .slice A.s c.shut.length A.ps, .int .i64 c.ops]] w fun e w' => CwEnd w w' e noCw false := by
  have HS := hide (ag2 h hP).1; have HR0 := hide (ag2 h hP).2.1
  have HCF := hide (fun W (hW : Ag P w W c A) => specCrewOk_any c A P W hW.at' hW.hand.2)
  obtain ⟨dd, hdu, hdr⟩ := rowWorld
  have HOK := hide hok
  clear h hP hok
  go_enter Try.func5, Try.ntmps5
  go_upto_region 1 with fail
  generalize (w.alloc (.cells #[.int .i64 c.jobs, .int .i64 c.workers, .int .i64 c.window, .int .i64 c.next, .int .i64 c.reader, .slice A.q c.queue.length A.pq, .slice A.h c.hands.length A.ph, .int .i64 c.closer, .slice A.r c.results.length A.pr, .int .i64 c.keeper, .slice A.g c.ring.length A.pg, .int .i64 c.due, .slice A.o c.out.length A.po, .int .i64 c.user, .slice A.t c.got.length A.pt, .int .i64 c.room, .slice A.s c.shut.length A.ps, .int .i64 c.ops] 29)).alloc (.cells #[.int .i64 0, .int .i64 0, .int .i64 0, .int .i64 0, .int .i64 0, .slice none 0 0, .slice none 0 0, .int .i64 0, .slice none 0 0, .int .i64 0, .slice none 0 0, .int .i64 0, .slice none 0 0, .int .i64 0, .slice none 0 0, .int .i64 0, .slice none 0 0, .int .i64 0] 29) = W0 at HS HR0 ⊢
  refine wp_region_list ?_
  refine wpList_load_mid rfl _ _ rfl w.heap.size 0 rfl [.int .i64 c.jobs, .int .i64 c.workers, .int .i64 c.window, .int .i64 c.next, .int .i64 c.reader, .slice A.q c.queue.length A.pq, .slice A.h c.hands.length A.ph, .int .i64 c.closer, .slice A.r c.results.length A.pr, .int .i64 c.keeper, .slice A.g c.ring.length A.pg, .int .i64 c.due, .slice A.o c.out.length A.po, .int .i64 c.user, .slice A.t c.got.length A.pt, .int .i64 c.room, .slice A.s c.shut.length A.ps, .int .i64 c.ops] dd (unhide HS).range hdu hdr info18 ?_
  refine wpList_plain rfl (fun K hK => ?_)
  go_simp
  refine (unhide HCF _ (unhide HS)).mono ?_
  rintro e w1 ⟨⟨r, rfl, hr⟩, hb⟩
  refine hK _ _ ?_
  clear hK K
  have HS1 := hide ((unhide HS).on hb)
  have HR1 := hide ((unhide HR0).of_block (hb.block _ (unhide HR0).lt))
  have HR := hide hr
  clear hb hr HCF HS HR0
  cases r with
  | false =>
    clear HR HOK
    go_upto_region 2 with fail
    refine wp_region_list ?_
    refine wpList_plain rfl (fun K hK => ?_)
    go_simp
    refine hK _ _ ?_
    clear hK K
    have hrw := unhide HR1
    have hbw := (unhide HS1).bel
    refine wpList_store_mid rfl _ _ _ rfl (w.heap.size + 1) 0 #[.int .i64 0, .int .i64 0, .int .i64 0, .int .i64 0, .int .i64 0, .slice none 0 0, .slice none 0 0, .int .i64 0, .slice none 0 0, .int .i64 0, .slice none 0 0, .int .i64 0, .slice none 0 0, .int .i64 0, .slice none 0 0, .int .i64 0, .slice none 0 0, .int .i64 0] rfl rfl (there_row hrw) info18 (one18 0 0 0 0 0 0 0 0 0 0 0 nil7 (by simp [nil7, Value.oneCell'])) ?_
    have hr2 := row_all (n := 18) [.int .i64 0, .int .i64 0, .int .i64 0, .int .i64 0, .int .i64 0, .slice none 0 0, .slice none 0 0, .int .i64 0, .slice none 0 0, .int .i64 0, .slice none 0 0, .int .i64 0, .slice none 0 0, .int .i64 0, .slice none 0 0, .int .i64 0, .slice none 0 0, .int .i64 0] rfl hrw
    have hb2 := below_setCells (show w.heap.size ≤ w.heap.size + 1 by omega) [.int .i64 0, .int .i64 0, .int .i64 0, .int .i64 0, .int .i64 0, .slice none 0 0, .slice none 0 0, .int .i64 0, .slice none 0 0, .int .i64 0, .slice none 0 0, .int .i64 0, .slice none 0 0, .int .i64 0, .slice none 0 0, .int .i64 0, .slice none 0 0, .int .i64 0] 0 w1 hbw
    generalize w1.setCells (w.heap.size + 1) 0 _ = W at hr2 hb2 ⊢
    clear hrw hbw HR1 HS1
    have HB := hide hb2
    clear hb2
    go_wp2_with fail
    exact bodyPost_ret (v := .tuple #[.agg #[.int .i64 0, .int .i64 0, .int .i64 0, .int .i64 0, .int .i64 0, .slice none 0 0, .slice none 0 0, .int .i64 0, .slice none 0 0, .int .i64 0, .slice none 0 0, .int .i64 0, .slice none 0 0, .int .i64 0, .slice none 0 0, .int .i64 0, .slice none 0 0, .int .i64 0], .bool false]) (results18 (by rfl) _ _ (w.heap.size + 1) [.int .i64 0, .int .i64 0, .int .i64 0, .int .i64 0, .int .i64 0, .slice none 0 0, .slice none 0 0, .int .i64 0, .slice none 0 0, .int .i64 0, .slice none 0 0, .int .i64 0, .slice none 0 0, .int .i64 0, .slice none 0 0, .int .i64 0, .slice none 0 0, .int .i64 0] _ rfl rfl hr2 rfl) rfl ⟨nil7, [], [], [], [], [], [], [], rfl, cw_nil, dj_nil, fun b hb => by simp [F7] at hb, unhide HB⟩
  | true =>
    have hu : c.user = 1 := by
      by_cases e : c.user = 1
      · exact e
      · exact absurd ⟨(unhide HR).1 rfl, e⟩ (unhide HOK)
    have k13 := (unhide HS1).k13
    rw [hu] at k13
    clear HR HOK hu
    go_upto_region 2 with fail
    clear k13
    refine wp_region_list ?_
    refine wpList_plain rfl (fun K hK => ?_)
    go_simp
    refine hK _ _ ?_
    clear hK K
    have hrw := unhide HR1
    have hbw := (unhide HS1).bel
    refine wpList_store_mid rfl _ _ _ rfl (w.heap.size + 1) 0 #[.int .i64 0, .int .i64 0, .int .i64 0, .int .i64 0, .int .i64 0, .slice none 0 0, .slice none 0 0, .int .i64 0, .slice none 0 0, .int .i64 0, .slice none 0 0, .int .i64 0, .slice none 0 0, .int .i64 0, .slice none 0 0, .int .i64 0, .slice none 0 0, .int .i64 0] rfl rfl (there_row hrw) info18 (one18 0 0 0 0 0 0 0 0 0 0 0 nil7 (by simp [nil7, Value.oneCell'])) ?_
    have hr2 := row_all (n := 18) [.int .i64 0, .int .i64 0, .int .i64 0, .int .i64 0, .int .i64 0, .slice none 0 0, .slice none 0 0, .int .i64 0, .slice none 0 0, .int .i64 0, .slice none 0 0, .int .i64 0, .slice none 0 0, .int .i64 0, .slice none 0 0, .int .i64 0, .slice none 0 0, .int .i64 0] rfl hrw
    have hb2 := below_setCells (show w.heap.size ≤ w.heap.size + 1 by omega) [.int .i64 0, .int .i64 0, .int .i64 0, .int .i64 0, .int .i64 0, .slice none 0 0, .slice none 0 0, .int .i64 0, .slice none 0 0, .int .i64 0, .slice none 0 0, .int .i64 0, .slice none 0 0, .int .i64 0, .slice none 0 0, .int .i64 0, .slice none 0 0, .int .i64 0] 0 w1 hbw
    generalize w1.setCells (w.heap.size + 1) 0 _ = W at hr2 hb2 ⊢
    clear hrw hbw HR1 HS1
    have HB := hide hb2
    clear hb2
    go_wp2_with fail
    exact bodyPost_ret (v := .tuple #[.agg #[.int .i64 0, .int .i64 0, .int .i64 0, .int .i64 0, .int .i64 0, .slice none 0 0, .slice none 0 0, .int .i64 0, .slice none 0 0, .int .i64 0, .slice none 0 0, .int .i64 0, .slice none 0 0, .int .i64 0, .slice none 0 0, .int .i64 0, .slice none 0 0, .int .i64 0], .bool false]) (results18 (by rfl) _ _ (w.heap.size + 1) [.int .i64 0, .int .i64 0, .int .i64 0, .int .i64 0, .int .i64 0, .slice none 0 0, .slice none 0 0, .int .i64 0, .slice none 0 0, .int .i64 0, .slice none 0 0, .int .i64 0, .slice none 0 0, .int .i64 0, .slice none 0 0, .int .i64 0, .slice none 0 0, .int .i64 0] _ rfl rfl hr2 rfl) rfl ⟨nil7, [], [], [], [], [], [], [], rfl, cw_nil, dj_nil, fun b hb => by simp [F7] at hb, unhide HB⟩
/-- A world anew in its box, while it is turned. -/
structure Cq (w W : World) (x : Cw) (v : C7) (Fq Fh Fr Fg Fo Ft Fs : List Nat) : Prop where
  box : W.rowIs w.heap.size 29 18 (r18 [.int .i64 x.jobs, .int .i64 x.workers, .int .i64 x.window, .int .i64 x.next, .int .i64 x.reader, v.q, v.h, .int .i64 x.closer, v.r, .int .i64 x.keeper, v.g, .int .i64 x.due, v.o, .int .i64 x.user, v.t, .int .i64 x.room, v.s, .int .i64 x.ops])
  res : W.rowIs (w.heap.size + 1) 29 18 (r18 [.int .i64 0, .int .i64 0, .int .i64 0, .int .i64 0, .int .i64 0, .slice none 0 0, .slice none 0 0, .int .i64 0, .slice none 0 0, .int .i64 0, .slice none 0 0, .int .i64 0, .slice none 0 0, .int .i64 0, .slice none 0 0, .int .i64 0, .slice none 0 0, .int .i64 0])
  own : CwOwn W x v Fq Fh Fr Fg Fo Ft Fs
  dj : Dj7 Fq Fh Fr Fg Fo Ft Fs
  rng : ∀ b, b ∈ F7 Fq Fh Fr Fg Fo Ft Fs → w.heap.size + 2 ≤ b ∧ b < W.heap.size
  bel : Below w.heap.size w W
theorem Cq.put {w W : World} {x y : Cw} {v : C7} {Fq Fh Fr Fg Fo Ft Fs : List Nat} (h : Cq w W x v Fq Fh Fr Fg Fo Ft Fs) (i : Nat) (hi : i < 18) (u : Value) (hr : [.int .i64 y.jobs, .int .i64 y.workers, .int .i64 y.window, .int .i64 y.next, .int .i64 y.reader, v.q, v.h, .int .i64 y.closer, v.r, .int .i64 y.keeper, v.g, .int .i64 y.due, v.o, .int .i64 y.user, v.t, .int .i64 y.room, v.s, .int .i64 y.ops] = [.int .i64 x.jobs, .int .i64 x.workers, .int .i64 x.window, .int .i64 x.next, .int .i64 x.reader, v.q, v.h, .int .i64 x.closer, v.r, .int .i64 x.keeper, v.g, .int .i64 x.due, v.o, .int .i64 x.user, v.t, .int .i64 x.room, v.s, .int .i64 x.ops].set i u) (eq : y.queue = x.queue) (eh : y.hands = x.hands) (er : y.results = x.results) (eg : y.ring = x.ring) (eo : y.out = x.out) (et : y.got = x.got) (es : y.shut = x.shut) : Cq w (W.setCell ⟨w.heap.size, i, none⟩ u) y v Fq Fh Fr Fg Fo Ft Fs := by
  have o := h.own.carry (w' := W.setCell ⟨w.heap.size, i, none⟩ u) (fun b hb => Below.heap_setCell _ _ _ _ (by have := (h.rng b hb).1; show b ≠ w.heap.size; omega))
  have hb := row_put h.box i hi u
  rw [← hr] at hb
  refine ⟨hb, h.res.setOther (a := ⟨w.heap.size, i, none⟩) (by show w.heap.size + 1 ≠ w.heap.size; omega) u, ⟨by rw [eq]; exact o.q, by rw [eh]; exact o.h, by rw [er]; exact o.r, by rw [eg]; exact o.g, by rw [eo]; exact o.o, by rw [et]; exact o.t, by rw [es]; exact o.s⟩, h.dj, fun b hb => by rw [World.size_setCell]; exact h.rng b hb, h.bel.setCell (Nat.le_refl _) u⟩
theorem Cq.sopen {w W : World} {x : Cw} {v : C7} {Fq Fh Fr Fg Fo Ft Fs : List Nat} (h : Cq w W x v Fq Fh Fr Fg Fo Ft Fs) (hl : x.shut.length = 4) : ∃ b cap, v.s = .slice (some ⟨b, 0, none⟩) 4 cap ∧ Fs = [b] ∧ FreeB W b ∧ ∀ i, (hi : i < 4) → W.cell? ⟨b, i, none⟩ = some (.int .i64 (x.shut[i]'(by omega))) := by
  obtain ⟨a, cap, e, -, h3⟩ := h.own.s
  rw [List.length_map, hl] at e
  rcases h3 with ⟨h4, -⟩ | ⟨b, rfl, hF, hf, hc⟩
  · have := congrArg List.length h4
    rw [List.length_map, hl] at this
    cases this
  · refine ⟨b, cap, e, hF, hf, fun i hi => ?_⟩
    have := hc i (by rw [List.length_map, hl]; exact hi) 0 (by omega)
    rw [Nat.mul_one, Nat.add_zero, List.getElem_map] at this
    exact this
theorem Cq.shut {w W : World} {x : Cw} {v : C7} {Fq Fh Fr Fg Fo Ft Fs : List Nat} (h : Cq w W x v Fq Fh Fr Fg Fo Ft Fs) (hl : x.shut.length = 4) {b cap : Nat} (hv : v.s = .slice (some ⟨b, 0, none⟩) 4 cap) (hF : Fs = [b]) : Cq w (W.setCell ⟨b, 3, none⟩ (.int .i64 1)) { x with shut := x.shut.set 3 1 } v Fq Fh Fr Fg Fo Ft Fs := by
  obtain ⟨b', cap', e, hF', hf, hc⟩ := h.sopen hl
  obtain rfl : b' = b := by rw [hF] at hF'; simpa using hF'.symm
  have hbm : b' ∈ Fs := by rw [hF]; simp
  have hlo := (h.rng b' (by simp [F7, hbm])).1
  have hd := h.dj
  have hne : ∀ b, b ≠ b' → (W.setCell ⟨b', 3, none⟩ (.int .i64 1)).heap[b]? = W.heap[b]? := fun b hb => Below.heap_setCell _ _ _ _ hb
  refine ⟨h.box.setOther (a := ⟨b', 3, none⟩) (by show w.heap.size ≠ b'; omega) _, h.res.setOther (a := ⟨b', 3, none⟩) (by show w.heap.size + 1 ≠ b'; omega) _, ⟨FlatOwn.carry h.own.q (fun b m => hne b (fun e => by subst e; exact hd.d0 b m (by simp [hbm]))), FlatOwn.carry h.own.h (fun b m => hne b (fun e => by subst e; exact hd.d1 b m (by simp [hbm]))), FlatOwn.carry h.own.r (fun b m => hne b (fun e => by subst e; exact hd.d2 b m (by simp [hbm]))), FlatOwn.carry h.own.g (fun b m => hne b (fun e => by subst e; exact hd.d3 b m (by simp [hbm]))), FlatOwn.carry h.own.o (fun b m => hne b (fun e => by subst e; exact hd.d4 b m (by simp [hbm]))), FlatOwn.carry h.own.t (fun b m => hne b (fun e => by subst e; exact hd.d5 b m hbm)), ?_⟩, h.dj, fun b hb => by rw [World.size_setCell]; exact h.rng b hb, h.bel.setCell (by show w.heap.size ≤ b'; omega) _⟩
  refine ⟨some ⟨b', 0, none⟩, cap, by rw [List.length_map, List.length_set, hl, hv], by rw [List.length_map, List.length_set, hl]; omega, Or.inr ⟨b', rfl, hF, hf.set 3 _, fun i hi j hj => ?_⟩⟩
  obtain rfl : j = 0 := by omega
  rw [List.length_map, List.length_set, hl] at hi
  rw [Nat.mul_one, Nat.add_zero, List.getElem_map, List.getElem_set]
  by_cases e3 : 3 = i
  · subst e3
    rw [if_pos rfl, World.cell?_setCell_same _ _ _ (hc 3 (by omega))]
    rfl
  · rw [if_neg e3, World.cell?_setCell_other _ _ _ _ (by simp), hc i hi]
    rfl
set_option maxRecDepth 100000 in
set_option maxHeartbeats 6400000 in
theorem specCrewCancel_yes (c : Cw) (A : A7) (P : Nat → Prop) (w : World) (h : CwAt P w c (A.v c)) (hP : ∀ b, P b → b < w.heap.size) (hok : cnOk c) : Calls Try.prog 5 #[.agg #[.int .i64 c.jobs, .int .i64 c.workers, .int .i64 c.window, .int .i64 c.next, .int .i64 c.reader, .slice A.q c.queue.length A.pq, .slice A.h c.hands.length A.ph, .int .i64 c.closer, .slice A.r c.results.length A.pr, .int .i64 c.keeper, .slice A.g c.ring.length A.pg, .int .i64 c.due, .slice A.o c.out.length A.po, .int .i64 c.user, .slice A.t c.got.length A.pt, .int .i64 c.room, .slice A.s c.shut.length A.ps, .int .i64 c.ops]] w fun e w' => CwEnd w w' e (cnTo c) true := by
  generalize hx : cnTo c = x
  have HXE := hide hx
  clear hx
  have HCP := hide (fun W (hW : Ag P w W c A) => l52Copy_any c A P W hW.at' hW.hand.2 (cn_small hok))
  have HS := hide (ag2 h hP).1; have HR0 := hide (ag2 h hP).2.1
  have HCF := hide (fun W (hW : Ag P w W c A) => specCrewOk_any c A P W hW.at' hW.hand.2)
  obtain ⟨dd, hdu, hdr⟩ := rowWorld
  have HOK := hide hok
  clear h hP hok
  go_enter Try.func5, Try.ntmps5
  go_upto_region 1 with fail
  generalize (w.alloc (.cells #[.int .i64 c.jobs, .int .i64 c.workers, .int .i64 c.window, .int .i64 c.next, .int .i64 c.reader, .slice A.q c.queue.length A.pq, .slice A.h c.hands.length A.ph, .int .i64 c.closer, .slice A.r c.results.length A.pr, .int .i64 c.keeper, .slice A.g c.ring.length A.pg, .int .i64 c.due, .slice A.o c.out.length A.po, .int .i64 c.user, .slice A.t c.got.length A.pt, .int .i64 c.room, .slice A.s c.shut.length A.ps, .int .i64 c.ops] 29)).alloc (.cells #[.int .i64 0, .int .i64 0, .int .i64 0, .int .i64 0, .int .i64 0, .slice none 0 0, .slice none 0 0, .int .i64 0, .slice none 0 0, .int .i64 0, .slice none 0 0, .int .i64 0, .slice none 0 0, .int .i64 0, .slice none 0 0, .int .i64 0, .slice none 0 0, .int .i64 0] 29) = W0 at HS HR0 ⊢
  refine wp_region_list ?_
  refine wpList_load_mid rfl _ _ rfl w.heap.size 0 rfl [.int .i64 c.jobs, .int .i64 c.workers, .int .i64 c.window, .int .i64 c.next, .int .i64 c.reader, .slice A.q c.queue.length A.pq, .slice A.h c.hands.length A.ph, .int .i64 c.closer, .slice A.r c.results.length A.pr, .int .i64 c.keeper, .slice A.g c.ring.length A.pg, .int .i64 c.due, .slice A.o c.out.length A.po, .int .i64 c.user, .slice A.t c.got.length A.pt, .int .i64 c.room, .slice A.s c.shut.length A.ps, .int .i64 c.ops] dd (unhide HS).range hdu hdr info18 ?_
  refine wpList_plain rfl (fun K hK => ?_)
  go_simp
  refine (unhide HCF _ (unhide HS)).mono ?_
  rintro e w1 ⟨⟨r, rfl, hr⟩, hb⟩
  refine hK _ _ ?_
  clear hK K
  have HS1 := hide ((unhide HS).on hb)
  have HR1 := hide ((unhide HR0).of_block (hb.block _ (unhide HR0).lt))
  have HR := hide hr
  clear hb hr HCF HS HR0
  obtain rfl : r = true := (unhide HR).2 (unhide HOK).1
  have k13 := (unhide HS1).k13
  have hu := (unhide HOK).2
  clear HR
  generalize c.user = uu at k13 hu
  go_upto_region 3 with fail
  clear k13 hu
  refine wp_region_list ?_
  refine wpList_load_mid rfl _ _ rfl w.heap.size 0 rfl [.int .i64 c.jobs, .int .i64 c.workers, .int .i64 c.window, .int .i64 c.next, .int .i64 c.reader, .slice A.q c.queue.length A.pq, .slice A.h c.hands.length A.ph, .int .i64 c.closer, .slice A.r c.results.length A.pr, .int .i64 c.keeper, .slice A.g c.ring.length A.pg, .int .i64 c.due, .slice A.o c.out.length A.po, .int .i64 c.user, .slice A.t c.got.length A.pt, .int .i64 c.room, .slice A.s c.shut.length A.ps, .int .i64 c.ops] dd (unhide HS1).range hdu hdr info18 ?_
  refine wpList_plain rfl (fun K hK => ?_)
  go_simp
  refine (unhide HCP _ (unhide HS1)).mono ?_
  rintro e w2 ⟨v, Fq, Fh, Fr, Fg, Fo, Ft, Fs, rfl, hown, hdj, hrng, hb2⟩
  refine hK _ _ ?_
  clear hK K
  have hs2 := (unhide HS1).on hb2
  have hrw := (unhide HR1).of_block (hb2.block _ (unhide HR1).lt)
  have hl1 := (unhide HR1).lt
  refine wpList_store_mid rfl _ _ _ rfl w.heap.size 0 #[.int .i64 c.jobs, .int .i64 c.workers, .int .i64 c.window, .int .i64 c.next, .int .i64 c.reader, v.q, v.h, .int .i64 c.closer, v.r, .int .i64 c.keeper, v.g, .int .i64 c.due, v.o, .int .i64 c.user, v.t, .int .i64 c.room, v.s, .int .i64 c.ops] rfl rfl (there_row hs2.box) info18 (one18 _ _ _ _ _ _ _ _ _ _ _ v (cw_one hown)) ?_
  have HQ := hide (show Cq w (w2.setCells w.heap.size 0 [.int .i64 c.jobs, .int .i64 c.workers, .int .i64 c.window, .int .i64 c.next, .int .i64 c.reader, v.q, v.h, .int .i64 c.closer, v.r, .int .i64 c.keeper, v.g, .int .i64 c.due, v.o, .int .i64 c.user, v.t, .int .i64 c.room, v.s, .int .i64 c.ops]) c v Fq Fh Fr Fg Fo Ft Fs from
    ⟨row_all (n := 18) [.int .i64 c.jobs, .int .i64 c.workers, .int .i64 c.window, .int .i64 c.next, .int .i64 c.reader, v.q, v.h, .int .i64 c.closer, v.r, .int .i64 c.keeper, v.g, .int .i64 c.due, v.o, .int .i64 c.user, v.t, .int .i64 c.room, v.s, .int .i64 c.ops] rfl hs2.box, hrw.of_block (heap_setCells _ _ _ _ (by omega)), hown.carry (fun b hb => heap_setCells _ _ _ _ (by have := (hrng b hb).1; omega)), hdj, fun b hb => by rw [size_setCells]; exact ⟨by have := (hrng b hb).1; omega, (hrng b hb).2⟩, below_setCells (Nat.le_refl _) _ _ _ hs2.bel⟩)
  generalize w2.setCells w.heap.size 0 _ = W3 at HQ ⊢
  clear hs2 hrw hl1 hown hdj hrng hb2 HS1 HR1 HCP
  have hl := (unhide HOK).form.shut
  obtain ⟨sb, sc, hsv, hsF, hsf, hsc⟩ := (unhide HQ).sopen hl
  have HSF := hide hsF
  have HSV := hide hsv
  have q13 : W3.cell? ⟨w.heap.size, 13, none⟩ = some (.int .i64 c.user) := (unhide HQ).box.cell (i := 13) (by omega)
  have q13f := (unhide HQ).box.frozen 13
  have HQ4 := hide (show Cq w (W3.setCell ⟨w.heap.size, 13, none⟩ (.int .i64 1)) { c with user := 1 } v Fq Fh Fr Fg Fo Ft Fs from (unhide HQ).put 13 (by omega) (.int .i64 1) rfl rfl rfl rfl rfl rfl rfl rfl)
  clear hsf hsc hsF hsv
  go_upto_region 5 with fail
  generalize W3.setCell ⟨w.heap.size, 13, none⟩ (.int .i64 1) = W4 at HQ4 ⊢
  clear q13 q13f HQ
  obtain ⟨sb', sc', hsv', hsF', hsf, hsc⟩ := (unhide HQ4).sopen hl
  have q16 : W4.cell? ⟨w.heap.size, 16, none⟩ = some (.slice (some ⟨sb', 0, none⟩) 4 sc') := by
    have := (unhide HQ4).box.cell (i := 16) (by omega)
    rw [this, ← hsv']
    rfl
  have s3 := hsc 3 (by omega)
  have s3f := hsf 3
  have HQ5 := hide (show Cq w (W4.setCell ⟨sb', 3, none⟩ (.int .i64 1)) { c with user := 1, shut := c.shut.set 3 1 } v Fq Fh Fr Fg Fo Ft Fs from (unhide HQ4).shut hl hsv' hsF')
  clear hsf hsc hsF' hsv' HSF HSV
  generalize ({ c with user := 1 } : Cw).shut[3] = z3 at s3
  go_upto_region 6 with fail
  generalize W4.setCell ⟨sb', 3, none⟩ (.int .i64 1) = W5 at HQ5 ⊢
  clear q16 s3 s3f HQ4
  have q17 : W5.cell? ⟨w.heap.size, 17, none⟩ = some (.int .i64 c.ops) := (unhide HQ5).box.cell (i := 17) (by omega)
  have q17f := (unhide HQ5).box.frozen 17
  have HQ6 := hide (show Cq w (W5.setCell ⟨w.heap.size, 17, none⟩ (.int .i64 (c.ops + 1))) (cnTo c) v Fq Fh Fr Fg Fo Ft Fs from (unhide HQ5).put 17 (by omega) (.int .i64 (c.ops + 1)) rfl rfl rfl rfl rfl rfl rfl rfl)
  have p0 := (unhide HOK).form.ops.1; have p1 := (unhide HOK).form.ops.2
  generalize c.ops = z at q17 HQ6 p0 p1
  have hw : IntKind.i64.wrap (z + 1) = z + 1 := by rw [IntKind.wrap_i64]; omega
  go_upto_region 7 with fail
  generalize W5.setCell ⟨w.heap.size, 17, none⟩ (.int .i64 (z + 1)) = W6 at HQ6 ⊢
  clear q17 q17f HQ5 p0 p1 hw HOK hl
  rw [unhide HXE] at HQ6
  clear HXE
  refine wp_region_list ?_
  refine wpList_load_mid rfl _ _ rfl w.heap.size 0 rfl [.int .i64 x.jobs, .int .i64 x.workers, .int .i64 x.window, .int .i64 x.next, .int .i64 x.reader, v.q, v.h, .int .i64 x.closer, v.r, .int .i64 x.keeper, v.g, .int .i64 x.due, v.o, .int .i64 x.user, v.t, .int .i64 x.room, v.s, .int .i64 x.ops] dd (range_row [.int .i64 x.jobs, .int .i64 x.workers, .int .i64 x.window, .int .i64 x.next, .int .i64 x.reader, v.q, v.h, .int .i64 x.closer, v.r, .int .i64 x.keeper, v.g, .int .i64 x.due, v.o, .int .i64 x.user, v.t, .int .i64 x.room, v.s, .int .i64 x.ops] rfl (unhide HQ6).box) hdu hdr info18 ?_
  refine wpList_store_mid rfl _ _ _ rfl (w.heap.size + 1) 0 #[.int .i64 x.jobs, .int .i64 x.workers, .int .i64 x.window, .int .i64 x.next, .int .i64 x.reader, v.q, v.h, .int .i64 x.closer, v.r, .int .i64 x.keeper, v.g, .int .i64 x.due, v.o, .int .i64 x.user, v.t, .int .i64 x.room, v.s, .int .i64 x.ops] rfl rfl (there_row (unhide HQ6).res) info18 (one18 _ _ _ _ _ _ _ _ _ _ _ v (cw_one (unhide HQ6).own)) ?_
  have hr3 := row_all (n := 18) [.int .i64 x.jobs, .int .i64 x.workers, .int .i64 x.window, .int .i64 x.next, .int .i64 x.reader, v.q, v.h, .int .i64 x.closer, v.r, .int .i64 x.keeper, v.g, .int .i64 x.due, v.o, .int .i64 x.user, v.t, .int .i64 x.room, v.s, .int .i64 x.ops] rfl (unhide HQ6).res
  have hb3 := below_setCells (show w.heap.size ≤ w.heap.size + 1 by omega) [.int .i64 x.jobs, .int .i64 x.workers, .int .i64 x.window, .int .i64 x.next, .int .i64 x.reader, v.q, v.h, .int .i64 x.closer, v.r, .int .i64 x.keeper, v.g, .int .i64 x.due, v.o, .int .i64 x.user, v.t, .int .i64 x.room, v.s, .int .i64 x.ops] 0 W6 (unhide HQ6).bel
  have ho3 := (unhide HQ6).own.carry (w' := W6.setCells (w.heap.size + 1) 0 [.int .i64 x.jobs, .int .i64 x.workers, .int .i64 x.window, .int .i64 x.next, .int .i64 x.reader, v.q, v.h, .int .i64 x.closer, v.r, .int .i64 x.keeper, v.g, .int .i64 x.due, v.o, .int .i64 x.user, v.t, .int .i64 x.room, v.s, .int .i64 x.ops]) (fun b hb => heap_setCells _ _ _ _ (by have := ((unhide HQ6).rng b hb).1; omega))
  have hs3 : ∀ b, b ∈ F7 Fq Fh Fr Fg Fo Ft Fs → w.heap.size ≤ b ∧ b < (W6.setCells (w.heap.size + 1) 0 [.int .i64 x.jobs, .int .i64 x.workers, .int .i64 x.window, .int .i64 x.next, .int .i64 x.reader, v.q, v.h, .int .i64 x.closer, v.r, .int .i64 x.keeper, v.g, .int .i64 x.due, v.o, .int .i64 x.user, v.t, .int .i64 x.room, v.s, .int .i64 x.ops]).heap.size := fun b hb => by
    rw [size_setCells]
    exact ⟨by have := ((unhide HQ6).rng b hb).1; omega, ((unhide HQ6).rng b hb).2⟩
  generalize W6.setCells (w.heap.size + 1) 0 _ = W at hr3 hb3 ho3 hs3 ⊢
  have HB := hide hb3; have HO := hide ho3; have HS := hide hs3; have HD := hide (unhide HQ6).dj
  clear hb3 ho3 hs3 HQ6
  go_wp2_with fail
  exact bodyPost_ret (v := .tuple #[.agg #[.int .i64 x.jobs, .int .i64 x.workers, .int .i64 x.window, .int .i64 x.next, .int .i64 x.reader, v.q, v.h, .int .i64 x.closer, v.r, .int .i64 x.keeper, v.g, .int .i64 x.due, v.o, .int .i64 x.user, v.t, .int .i64 x.room, v.s, .int .i64 x.ops], .bool true]) (results18 (by rfl) _ _ (w.heap.size + 1) [.int .i64 x.jobs, .int .i64 x.workers, .int .i64 x.window, .int .i64 x.next, .int .i64 x.reader, v.q, v.h, .int .i64 x.closer, v.r, .int .i64 x.keeper, v.g, .int .i64 x.due, v.o, .int .i64 x.user, v.t, .int .i64 x.room, v.s, .int .i64 x.ops] _ rfl rfl hr3 rfl) rfl ⟨v, _, _, _, _, _, _, _, rfl, unhide HO, unhide HD, unhide HS, unhide HB⟩
end Go.Proofs.Ytibgjcejddpldaa
