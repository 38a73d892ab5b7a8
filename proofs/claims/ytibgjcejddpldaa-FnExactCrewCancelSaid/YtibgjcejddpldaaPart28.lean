/- The walks of the program's world and CrewStart. No conditions. -/
import Derived.Test.YtibgjcejddpldaaPart27
import Derived.Handy
import Derived.Deep.RegionHeld3
import Derived.Test.YtibgjcejddpldaaPart18
import Derived.Test.YtibgjcejddpldaaPart26
import Derived.Test.YtibgjcejddpldaaPart09
import Derived.Test.YtibgjcejddpldaaPart16
import Derived.Test.YtibgjcejddpldaaPart02
namespace Go.Proofs.Ytibgjcejddpldaa
open Go Go.RowKit

set_option maxRecDepth 100000 in
set_option maxHeartbeats 1600000 in
theorem world_any (C : Nat) (c : Cw) (B : CrB) (w : World) (h : CrAt w C c B) : Calls Try.prog 19 #[.pointer (some ⟨C, 0, none⟩)] w fun e w' => CwVal w w' e c := by
  have HW0 := hide (show WS w (w.alloc (.cells #[.int .i64 0, .int .i64 0, .int .i64 0, .int .i64 0, .int .i64 0, .slice none 0 0, .slice none 0 0, .int .i64 0, .slice none 0 0, .int .i64 0, .slice none 0 0, .int .i64 0, .slice none 0 0, .int .i64 0, .slice none 0 0, .int .i64 0, .slice none 0 0, .int .i64 0] 29)).drew C c B (.bool false) (.bool false) (.bool false) (.bool false) (.bool false) (.bool false) (.bool false) from WS.below (W := w.alloc (.cells #[.int .i64 0, .int .i64 0, .int .i64 0, .int .i64 0, .int .i64 0, .slice none 0 0, .slice none 0 0, .int .i64 0, .slice none 0 0, .int .i64 0, .slice none 0 0, .int .i64 0, .slice none 0 0, .int .i64 0, .slice none 0 0, .int .i64 0, .slice none 0 0, .int .i64 0] 29)) ⟨[], [], [], [], [], [], [], h.below ((Below.refl _ _).alloc (Nat.le_refl _) _), box18 w noCw nil7 29, Or.inl ⟨rfl, rfl⟩, Or.inl ⟨rfl, rfl⟩, Or.inl ⟨rfl, rfl⟩, Or.inl ⟨rfl, rfl⟩, Or.inl ⟨rfl, rfl⟩, Or.inl ⟨rfl, rfl⟩, Or.inl ⟨rfl, rfl⟩, fun b => by simp, fun b m => (by cases m), fun b m => (by cases m), fun b m => (by cases m), fun b m => (by cases m), fun b m => (by cases m), fun b m => (by cases m), fun b m => (by cases m), (Below.refl _ _).alloc (Nat.le_refl _) _⟩ (Below.refl _ _).drew)
  have HCL := hide h.lt
  clear h
  go_enter Try.func19, Try.ntmps19
  go_wp2_with fail
  generalize w.alloc (.cells #[.int .i64 0, .int .i64 0, .int .i64 0, .int .i64 0, .int .i64 0, .slice none 0 0, .slice none 0 0, .int .i64 0, .slice none 0 0, .int .i64 0, .slice none 0 0, .int .i64 0, .slice none 0 0, .int .i64 0, .slice none 0 0, .int .i64 0, .slice none 0 0, .int .i64 0] 29) = W0 at HW0 ⊢
  refine wp_swap (c' := Code.region 1 wOps true) (by kernel_rfl) ?_
  refine wp_region_noPanic ?_
  refine world_region C c B w W0 _ (fun _ _ _ _ _ h => h) (unhide HW0) (unhide HCL) ?_
  rintro a' W' ha hd ⟨cs, hh, hsz, hv⟩
  refine NoPanic.normal ?_
  obtain ⟨d, hd1, hd2⟩ := rowWorld
  have hres := results_cell_row (P := Try.prog) (fn := Try.f19) (by rfl) a'.tmps W' w.heap.size 29 cs (0, 0) _ ha hh Try.underlying29 (by rfl) (by rw [hsz]; exact info18)
  have HR := hide hres; have HV := hide hv
  clear hres hv
  go_wp2_with fail
  exact bodyPost_ret (unhide HR) hd (unhide HV)
theorem flat_one {W : World} {v : Value} {n : Nat} {rs : List (List Value)} {F : List Nat} (h : FlatOwn W v n rs F) : v.oneCell' = true := by
  obtain ⟨a, cap, rfl, -⟩ := h
  rfl
theorem cw_one {W : World} {c : Cw} {v : C7} {Fq Fh Fr Fg Fo Ft Fs : List Nat} (h : CwOwn W c v Fq Fh Fr Fg Fo Ft Fs) : ∀ u, u ∈ [v.q, v.h, v.r, v.g, v.o, v.t, v.s] → u.oneCell' = true := by
  intro u hu
  simp only [List.mem_cons, List.not_mem_nil, or_false] at hu
  rcases hu with rfl | rfl | rfl | rfl | rfl | rfl | rfl
  · exact flat_one h.q
  · exact flat_one h.h
  · exact flat_one h.r
  · exact flat_one h.g
  · exact flat_one h.o
  · exact flat_one h.t
  · exact flat_one h.s
end Go.Proofs.Ytibgjcejddpldaa

/- The walk of the program's CrewCancel. No conditions. -/

namespace Go.Proofs.Ytibgjcejddpldaa
open Go Go.RowKit

set_option maxHeartbeats 800000 in
theorem closeP_any (b : Nat) (v : Value) (w : World) (h : w.rowIs b 62 4 (rg4 v 0 0 0)) : Calls Try.prog 36 #[.pointer (some ⟨b, 0, none⟩)] w fun e w' => e = .returned (.tuple #[]) ∧ w' = w.setCell ⟨b, 3, none⟩ (.int .i64 1) := by
  have k3 : w.cell? ⟨b, 3, none⟩ = some (.int .i64 0) := h.cell (i := 3) (by omega)
  have f3 := h.frozen 3
  clear h
  go_enter Try.func36, Try.ntmps36
  go_wp2_with fail
  go_end0
  exact ⟨rfl, rfl⟩
set_option maxHeartbeats 800000 in
theorem use_any (C : Nat) (c : Cw) (B : CrB) (w : World) (h : CrAt w C c B) (h0 : 0 ≤ c.ops) (h1 : c.ops ≤ 10000) : Calls Try.prog 37 #[.pointer (some ⟨C, 0, none⟩)] w fun e w' => e = .returned (.tuple #[]) ∧ w' = w.setCell ⟨C, 15, none⟩ (.int .i64 (c.ops + 1)) := by
  have k3 := h.c15
  have f3 := h.row.frozen 15
  clear h
  generalize c.ops = z at *
  have hw : IntKind.i64.wrap (z + 1) = z + 1 := by rw [IntKind.wrap_i64]; omega
  go_enter Try.func37, Try.ntmps37
  go_wp2_with fail
  go_end0
  exact ⟨rfl, rfl⟩
set_option maxHeartbeats 1600000 in
theorem cancel_any (C : Nat) (c : Cw) (B : CrB) (w : World) (h : CrAt w C c B) (hok : cnOk c) : Calls Try.prog 18 #[.pointer (some ⟨C, 0, none⟩)] w fun e w' => e = .returned (.tuple #[]) ∧ CrAt w' C (cnTo c) B ∧ Exc [C, B.T] w w' := by
  have HOK := hide hok
  have HC0 := hide h
  have k11 := h.c11
  have f11 := h.row.frozen 11
  have HC1 := hide (show CrAt (w.setCell ⟨C, 11, none⟩ (.int .i64 1)) C { c with user := 1 } B from h.put 11 (.int .i64 1) (by omega) rfl rfl rfl rfl rfl rfl rfl rfl rfl rfl rfl)
  have HX1 := hide (Exc.set (F := [C, B.T]) w C 11 (.int .i64 1) (by simp))
  clear h hok
  go_enter Try.func18, Try.ntmps18
  go_upto_region 1 with fail
  generalize w.setCell ⟨C, 11, none⟩ (.int .i64 1) = W1 at HC1 HX1 ⊢
  have k14 := (unhide HC1).c14
  clear k11 f11 HC0
  obtain ⟨v, hT⟩ := (unhide HC1).t
  have hs : shZ c 3 = 0 := (unhide HOK).shut
  unfold shZ at hs
  rw [show ({ c with user := 1 } : Cw).shut.getD 3 0 = 0 from hs] at hT
  have HCL := hide (closeP_any B.T v W1 hT)
  have hT2 : ∃ v, (W1.setCell ⟨B.T, 3, none⟩ (.int .i64 1)).rowIs B.T 62 4 (rg4 v 0 0 ((cnTo c).shut.getD 3 0)) := by
    rw [(cnTo_shut (unhide HOK).form.shut).2.2.2.2]
    refine ⟨v, (hT.set 3 (.int .i64 1)).congr fun i hi => ?_⟩
    rcases (show i = 0 ∨ i = 1 ∨ i = 2 ∨ i = 3 by omega) with rfl | rfl | rfl | rfl <;> rfl
  have HC2 := hide (show CrAt (W1.setCell ⟨B.T, 3, none⟩ (.int .i64 1)) C { c with user := 1, shut := (cnTo c).shut } B from (unhide HC1).mod_s3 (l := (cnTo c).shut) (cnTo_shut (unhide HOK).form.shut).1 (cnTo_shut (unhide HOK).form.shut).2.1 (cnTo_shut (unhide HOK).form.shut).2.2.1 (cnTo_shut (unhide HOK).form.shut).2.2.2.1 hT2 (Exc.set _ _ _ _ (by simp)))
  have HX2 := hide ((unhide HX1).trans (Exc.set (F := [C, B.T]) W1 B.T 3 (.int .i64 1) (by simp)))
  clear hT hT2 hs HX1
  go_upto_region 2 with (go_at_call 36; refine (unhide HCL).mono ?_; rintro e w1 ⟨rfl, rfl⟩)
  generalize W1.setCell ⟨B.T, 3, none⟩ (.int .i64 1) = W2 at HC2 HX2 ⊢
  clear k14 HCL HC1
  have HUS := hide (use_any C _ B W2 (unhide HC2) (unhide HOK).form.ops.1 (unhide HOK).form.ops.2)
  have HC3 := hide (show CrAt (W2.setCell ⟨C, 15, none⟩ (.int .i64 (c.ops + 1))) C (cnTo c) B from (unhide HC2).put 15 (.int .i64 (c.ops + 1)) (by omega) rfl rfl rfl rfl rfl rfl rfl rfl rfl rfl rfl)
  have HX3 := hide ((unhide HX2).trans (Exc.set (F := [C, B.T]) W2 C 15 (.int .i64 (c.ops + 1)) (by simp)))
  go_wp2_with (go_at_call 37; refine (unhide HUS).mono ?_; rintro e w1 ⟨rfl, rfl⟩)
  go_end0
  exact ⟨rfl, unhide HC3, unhide HX3⟩
end Go.Proofs.Ytibgjcejddpldaa

/- Two boxes; small worlds. No conditions. -/

namespace Go.Proofs.Ytibgjcejddpldaa
open Go Go.RowKit

theorem ag2 {c : Cw} {A : A7} {P : Nat → Prop} {w : World} (h : CwAt P w c (A.v c)) (hP : ∀ b, P b → b < w.heap.size) : Ag P w ((w.alloc (.cells #[.int .i64 c.jobs, .int .i64 c.workers, .int .i64 c.window, .int .i64 c.next, .int .i64 c.reader, .slice A.q c.queue.length A.pq, .slice A.h c.hands.length A.ph, .int .i64 c.closer, .slice A.r c.results.length A.pr, .int .i64 c.keeper, .slice A.g c.ring.length A.pg, .int .i64 c.due, .slice A.o c.out.length A.po, .int .i64 c.user, .slice A.t c.got.length A.pt, .int .i64 c.room, .slice A.s c.shut.length A.ps, .int .i64 c.ops] 29)).alloc (.cells #[.int .i64 0, .int .i64 0, .int .i64 0, .int .i64 0, .int .i64 0, .slice none 0 0, .slice none 0 0, .int .i64 0, .slice none 0 0, .int .i64 0, .slice none 0 0, .int .i64 0, .slice none 0 0, .int .i64 0, .slice none 0 0, .int .i64 0, .slice none 0 0, .int .i64 0] 29)) c A ∧ ((w.alloc (.cells #[.int .i64 c.jobs, .int .i64 c.workers, .int .i64 c.window, .int .i64 c.next, .int .i64 c.reader, .slice A.q c.queue.length A.pq, .slice A.h c.hands.length A.ph, .int .i64 c.closer, .slice A.r c.results.length A.pr, .int .i64 c.keeper, .slice A.g c.ring.length A.pg, .int .i64 c.due, .slice A.o c.out.length A.po, .int .i64 c.user, .slice A.t c.got.length A.pt, .int .i64 c.room, .slice A.s c.shut.length A.ps, .int .i64 c.ops] 29)).alloc (.cells #[.int .i64 0, .int .i64 0, .int .i64 0, .int .i64 0, .int .i64 0, .slice none 0 0, .slice none 0 0, .int .i64 0, .slice none 0 0, .int .i64 0, .slice none 0 0, .int .i64 0, .slice none 0 0, .int .i64 0, .slice none 0 0, .int .i64 0, .slice none 0 0, .int .i64 0] 29)).rowIs (w.heap.size + 1) 29 18 (r18 [.int .i64 0, .int .i64 0, .int .i64 0, .int .i64 0, .int .i64 0, .slice none 0 0, .slice none 0 0, .int .i64 0, .slice none 0 0, .int .i64 0, .slice none 0 0, .int .i64 0, .slice none 0 0, .int .i64 0, .slice none 0 0, .int .i64 0, .slice none 0 0, .int .i64 0]) ∧ ((w.alloc (.cells #[.int .i64 c.jobs, .int .i64 c.workers, .int .i64 c.window, .int .i64 c.next, .int .i64 c.reader, .slice A.q c.queue.length A.pq, .slice A.h c.hands.length A.ph, .int .i64 c.closer, .slice A.r c.results.length A.pr, .int .i64 c.keeper, .slice A.g c.ring.length A.pg, .int .i64 c.due, .slice A.o c.out.length A.po, .int .i64 c.user, .slice A.t c.got.length A.pt, .int .i64 c.room, .slice A.s c.shut.length A.ps, .int .i64 c.ops] 29)).alloc (.cells #[.int .i64 0, .int .i64 0, .int .i64 0, .int .i64 0, .int .i64 0, .slice none 0 0, .slice none 0 0, .int .i64 0, .slice none 0 0, .int .i64 0, .slice none 0 0, .int .i64 0, .slice none 0 0, .int .i64 0, .slice none 0 0, .int .i64 0, .slice none 0 0, .int .i64 0] 29)).heap.size = w.heap.size + 2 := by
  refine ⟨(Ag.start h hP).on ((Below.refl _ _).alloc (Nat.le_refl _) _), ?_, by simp only [World.size_alloc]⟩
  have hr := box18 (w.alloc (.cells #[.int .i64 c.jobs, .int .i64 c.workers, .int .i64 c.window, .int .i64 c.next, .int .i64 c.reader, .slice A.q c.queue.length A.pq, .slice A.h c.hands.length A.ph, .int .i64 c.closer, .slice A.r c.results.length A.pr, .int .i64 c.keeper, .slice A.g c.ring.length A.pg, .int .i64 c.due, .slice A.o c.out.length A.po, .int .i64 c.user, .slice A.t c.got.length A.pt, .int .i64 c.room, .slice A.s c.shut.length A.ps, .int .i64 c.ops] 29)) noCw nil7 29
  simp only [World.size_alloc] at hr
  exact hr
theorem cw_nil {w : World} : CwOwn w noCw nil7 [] [] [] [] [] [] [] := ⟨FlatOwn.nil _ _, FlatOwn.nil _ _, FlatOwn.nil _ _, FlatOwn.nil _ _, FlatOwn.nil _ _, FlatOwn.nil _ _, FlatOwn.nil _ _⟩
theorem dj_nil : Dj7 [] [] [] [] [] [] [] := by constructor <;> (intro b hb; cases hb)
theorem cn_small {c : Cw} (h : cnOk c) : wC c ≤ 1048576 := by
  have hF := h.form
  have hg := ((formS_iff c).1 h.1.1).2
  obtain ⟨⟨a1, a2⟩, ⟨a3, a4⟩, ⟨a5, a6⟩⟩ := hF.st
  have := hF.hands; have := hF.ring; have := hF.queue; have := hF.results; have := hF.out; have := hF.shut
  unfold wC
  omega
end Go.Proofs.Ytibgjcejddpldaa

/- The walk of the program's CrewCancel, whole. No conditions. -/

namespace Go.Proofs.Ytibgjcejddpldaa
open Go Go.RowKit

set_option maxRecDepth 100000 in
set_option maxHeartbeats 6400000 in
theorem implCrewCancel_no (c : Cw) (A : A7) (P : Nat → Prop) (w : World) (h : CwAt P w c (A.v c)) (hP : ∀ b, P b → b < w.heap.size) (hok : ¬ cnOk c) : Calls Try.prog 7 #[.agg #[.int .i64 c.jobs, .int .i64 c.workers, .int .i64 c.window, .int .i64 c.next, .int .i64 c.reader, .slice A.q c.queue.length A.pq, .slice A.h c.hands.length A.ph, .int .i64 c.closer, .slice A.r c.results.length A.pr, .int .i64 c.keeper, .slice A.g c.ring.length A.pg, .int .i64 c.due, .slice A.o c.out.length A.po, .int .i64 c.user, .slice A.t c.got.length A.pt, .int .i64 c.room, .slice A.s c.shut.length A.ps, .int .i64 c.ops]] w fun e w' => CwEnd w w' e noCw false := by
  have HS := hide (ag2 h hP).1; have HR0 := hide (ag2 h hP).2.1; have HZ := hide (ag2 h hP).2.2
  have HCF := hide (fun W (hW : Ag P w W c A) => crewOf_any c A P W hW.at' hW.hand.2)
  obtain ⟨dd, hdu, hdr⟩ := rowWorld
  have HOK := hide hok
  clear h hP hok
  go_enter Try.func7, Try.ntmps7
  go_upto_region 1 with fail
  generalize (w.alloc (.cells #[.int .i64 c.jobs, .int .i64 c.workers, .int .i64 c.window, .int .i64 c.next, .int .i64 c.reader, .slice A.q c.queue.length A.pq, .slice A.h c.hands.length A.ph, .int .i64 c.closer, .slice A.r c.results.length A.pr, .int .i64 c.keeper, .slice A.g c.ring.length A.pg, .int .i64 c.due, .slice A.o c.out.length A.po, .int .i64 c.user, .slice A.t c.got.length A.pt, .int .i64 c.room, .slice A.s c.shut.length A.ps, .int .i64 c.ops] 29)).alloc (.cells #[.int .i64 0, .int .i64 0, .int .i64 0, .int .i64 0, .int .i64 0, .slice none 0 0, .slice none 0 0, .int .i64 0, .slice none 0 0, .int .i64 0, .slice none 0 0, .int .i64 0, .slice none 0 0, .int .i64 0, .slice none 0 0, .int .i64 0, .slice none 0 0, .int .i64 0] 29) = W0 at HS HR0 HZ ⊢
  refine wp_region_list ?_
  refine wpList_load_mid rfl _ _ rfl w.heap.size 0 rfl [.int .i64 c.jobs, .int .i64 c.workers, .int .i64 c.window, .int .i64 c.next, .int .i64 c.reader, .slice A.q c.queue.length A.pq, .slice A.h c.hands.length A.ph, .int .i64 c.closer, .slice A.r c.results.length A.pr, .int .i64 c.keeper, .slice A.g c.ring.length A.pg, .int .i64 c.due, .slice A.o c.out.length A.po, .int .i64 c.user, .slice A.t c.got.length A.pt, .int .i64 c.room, .slice A.s c.shut.length A.ps, .int .i64 c.ops] dd (unhide HS).range hdu hdr info18 ?_
  refine wpList_plain rfl (fun K hK => ?_)
  go_simp
  refine (unhide HCF _ (unhide HS)).mono ?_
  rintro e w1 ⟨⟨v, r, rfl, hr, hcr⟩, hb⟩
  refine hK _ _ ?_
  clear hK K
  have HB1 := hide ((unhide HS).on hb).bel
  have HR1 := hide ((unhide HR0).of_block (hb.block _ (unhide HR0).lt))
  have HR := hide hr
  have HCR := hide hcr
  have hz := unhide HZ
  clear hb hr hcr HCF HS HR0 HZ
  clear hz
  cases r with
  | false =>
    clear HR HCR HOK
    go_upto_region 3 with fail
    refine wp_region_list ?_
    refine wpList_plain rfl (fun K hK => ?_)
    go_simp
    refine hK _ _ ?_
    clear hK K
    have hrw := unhide HR1
    refine wpList_store_mid rfl _ _ _ rfl (w.heap.size + 1) 0 #[.int .i64 0, .int .i64 0, .int .i64 0, .int .i64 0, .int .i64 0, .slice none 0 0, .slice none 0 0, .int .i64 0, .slice none 0 0, .int .i64 0, .slice none 0 0, .int .i64 0, .slice none 0 0, .int .i64 0, .slice none 0 0, .int .i64 0, .slice none 0 0, .int .i64 0] rfl rfl (there_row hrw) info18 (one18 0 0 0 0 0 0 0 0 0 0 0 nil7 (by simp [nil7, Value.oneCell'])) ?_
    have hr2 := row_all (n := 18) [.int .i64 0, .int .i64 0, .int .i64 0, .int .i64 0, .int .i64 0, .slice none 0 0, .slice none 0 0, .int .i64 0, .slice none 0 0, .int .i64 0, .slice none 0 0, .int .i64 0, .slice none 0 0, .int .i64 0, .slice none 0 0, .int .i64 0, .slice none 0 0, .int .i64 0] rfl hrw
    have hb2 := below_setCells (show w.heap.size ≤ w.heap.size + 1 by omega) [.int .i64 0, .int .i64 0, .int .i64 0, .int .i64 0, .int .i64 0, .slice none 0 0, .slice none 0 0, .int .i64 0, .slice none 0 0, .int .i64 0, .slice none 0 0, .int .i64 0, .slice none 0 0, .int .i64 0, .slice none 0 0, .int .i64 0, .slice none 0 0, .int .i64 0] 0 w1 (unhide HB1)
    generalize w1.setCells (w.heap.size + 1) 0 _ = W at hr2 hb2 ⊢
    clear hrw HR1 HB1
    have HB := hide hb2
    clear hb2
    go_wp2_with fail
    exact bodyPost_ret (v := .tuple #[.agg #[.int .i64 0, .int .i64 0, .int .i64 0, .int .i64 0, .int .i64 0, .slice none 0 0, .slice none 0 0, .int .i64 0, .slice none 0 0, .int .i64 0, .slice none 0 0, .int .i64 0, .slice none 0 0, .int .i64 0, .slice none 0 0, .int .i64 0, .slice none 0 0, .int .i64 0], .bool false]) (results18 (by rfl) _ _ (w.heap.size + 1) [.int .i64 0, .int .i64 0, .int .i64 0, .int .i64 0, .int .i64 0, .slice none 0 0, .slice none 0 0, .int .i64 0, .slice none 0 0, .int .i64 0, .slice none 0 0, .int .i64 0, .slice none 0 0, .int .i64 0, .slice none 0 0, .int .i64 0, .slice none 0 0, .int .i64 0] _ rfl rfl hr2 rfl) rfl ⟨nil7, [], [], [], [], [], [], [], rfl, cw_nil, dj_nil, fun b hb => by simp [F7] at hb, unhide HB⟩
  | true =>
    have hu : c.user = 1 := by
      by_cases e : c.user = 1
      · exact e
      · exact absurd ⟨(unhide HR).1 rfl, e⟩ (unhide HOK)
    obtain ⟨C, B, rfl, hcr, -⟩ := unhide HCR rfl
    have k11 := hcr.c11
    rw [hu] at k11
    clear HR HCR HOK hcr hu
    go_upto_region 3 with fail
    clear k11
    refine wp_region_list ?_
    refine wpList_plain rfl (fun K hK => ?_)
    go_simp
    refine hK _ _ ?_
    clear hK K
    have hrw := unhide HR1
    refine wpList_store_mid rfl _ _ _ rfl (w.heap.size + 1) 0 #[.int .i64 0, .int .i64 0, .int .i64 0, .int .i64 0, .int .i64 0, .slice none 0 0, .slice none 0 0, .int .i64 0, .slice none 0 0, .int .i64 0, .slice none 0 0, .int .i64 0, .slice none 0 0, .int .i64 0, .slice none 0 0, .int .i64 0, .slice none 0 0, .int .i64 0] rfl rfl (there_row hrw) info18 (one18 0 0 0 0 0 0 0 0 0 0 0 nil7 (by simp [nil7, Value.oneCell'])) ?_
    have hr2 := row_all (n := 18) [.int .i64 0, .int .i64 0, .int .i64 0, .int .i64 0, .int .i64 0, .slice none 0 0, .slice none 0 0, .int .i64 0, .slice none 0 0, .int .i64 0, .slice none 0 0, .int .i64 0, .slice none 0 0, .int .i64 0, .slice none 0 0, .int .i64 0, .slice none 0 0, .int .i64 0] rfl hrw
    have hb2 := below_setCells (show w.heap.size ≤ w.heap.size + 1 by omega) [.int .i64 0, .int .i64 0, .int .i64 0, .int .i64 0, .int .i64 0, .slice none 0 0, .slice none 0 0, .int .i64 0, .slice none 0 0, .int .i64 0, .slice none 0 0, .int .i64 0, .slice none 0 0, .int .i64 0, .slice none 0 0, .int .i64 0, .slice none 0 0, .int .i64 0] 0 w1 (unhide HB1)
    generalize w1.setCells (w.heap.size + 1) 0 _ = W at hr2 hb2 ⊢
    clear hrw HR1 HB1
    have HB := hide hb2
    clear hb2
    go_wp2_with fail
    exact bodyPost_ret (v := .tuple #[.agg #[.int .i64 0, .int .i64 0, .int .i64 0, .int .i64 0, .int .i64 0, .slice none 0 0, .slice none 0 0, .int .i64 0, .slice none 0 0, .int .i64 0, .slice none 0 0, .int .i64 0, .slice none 0 0, .int .i64 0, .slice none 0 0, .int .i64 0, .slice none 0 0, .int .i64 0], .bool false]) (results18 (by rfl) _ _ (w.heap.size + 1) [.int .i64 0, .int .i64 0, .int .i64 0, .int .i64 0, .int .i64 0, .slice none 0 0, .slice none 0 0, .int .i64 0, .slice none 0 0, .int .i64 0, .slice none 0 0, .int .i64 0, .slice none 0 0, .int .i64 0, .slice none 0 0, .int .i64 0, .slice none 0 0, .int .i64 0] _ rfl rfl hr2 rfl) rfl ⟨nil7, [], [], [], [], [], [], [], rfl, cw_nil, dj_nil, fun b hb => by simp [F7] at hb, unhide HB⟩
set_option maxRecDepth 100000 in
set_option maxHeartbeats 6400000 in
theorem implCrewCancel_yes (c : Cw) (A : A7) (P : Nat → Prop) (w : World) (h : CwAt P w c (A.v c)) (hP : ∀ b, P b → b < w.heap.size) (hok : cnOk c) : Calls Try.prog 7 #[.agg #[.int .i64 c.jobs, .int .i64 c.workers, .int .i64 c.window, .int .i64 c.next, .int .i64 c.reader, .slice A.q c.queue.length A.pq, .slice A.h c.hands.length A.ph, .int .i64 c.closer, .slice A.r c.results.length A.pr, .int .i64 c.keeper, .slice A.g c.ring.length A.pg, .int .i64 c.due, .slice A.o c.out.length A.po, .int .i64 c.user, .slice A.t c.got.length A.pt, .int .i64 c.room, .slice A.s c.shut.length A.ps, .int .i64 c.ops]] w fun e w' => CwEnd w w' e (cnTo c) true := by
  generalize hx : cnTo c = x
  have HXE := hide hx
  clear hx
  have HS := hide (ag2 h hP).1; have HR0 := hide (ag2 h hP).2.1; have HZ := hide (ag2 h hP).2.2
  have HCF := hide (fun W (hW : Ag P w W c A) => crewOf_any c A P W hW.at' hW.hand.2)
  obtain ⟨dd, hdu, hdr⟩ := rowWorld
  have HOK := hide hok
  clear h hP hok
  go_enter Try.func7, Try.ntmps7
  go_upto_region 1 with fail
  generalize (w.alloc (.cells #[.int .i64 c.jobs, .int .i64 c.workers, .int .i64 c.window, .int .i64 c.next, .int .i64 c.reader, .slice A.q c.queue.length A.pq, .slice A.h c.hands.length A.ph, .int .i64 c.closer, .slice A.r c.results.length A.pr, .int .i64 c.keeper, .slice A.g c.ring.length A.pg, .int .i64 c.due, .slice A.o c.out.length A.po, .int .i64 c.user, .slice A.t c.got.length A.pt, .int .i64 c.room, .slice A.s c.shut.length A.ps, .int .i64 c.ops] 29)).alloc (.cells #[.int .i64 0, .int .i64 0, .int .i64 0, .int .i64 0, .int .i64 0, .slice none 0 0, .slice none 0 0, .int .i64 0, .slice none 0 0, .int .i64 0, .slice none 0 0, .int .i64 0, .slice none 0 0, .int .i64 0, .slice none 0 0, .int .i64 0, .slice none 0 0, .int .i64 0] 29) = W0 at HS HR0 HZ ⊢
  refine wp_region_list ?_
  refine wpList_load_mid rfl _ _ rfl w.heap.size 0 rfl [.int .i64 c.jobs, .int .i64 c.workers, .int .i64 c.window, .int .i64 c.next, .int .i64 c.reader, .slice A.q c.queue.length A.pq, .slice A.h c.hands.length A.ph, .int .i64 c.closer, .slice A.r c.results.length A.pr, .int .i64 c.keeper, .slice A.g c.ring.length A.pg, .int .i64 c.due, .slice A.o c.out.length A.po, .int .i64 c.user, .slice A.t c.got.length A.pt, .int .i64 c.room, .slice A.s c.shut.length A.ps, .int .i64 c.ops] dd (unhide HS).range hdu hdr info18 ?_
  refine wpList_plain rfl (fun K hK => ?_)
  go_simp
  refine (unhide HCF _ (unhide HS)).mono ?_
  rintro e w1 ⟨⟨v, r, rfl, hr, hcr⟩, hb⟩
  refine hK _ _ ?_
  clear hK K
  have HB1 := hide ((unhide HS).on hb).bel
  have HR1 := hide ((unhide HR0).of_block (hb.block _ (unhide HR0).lt))
  have HR := hide hr
  have HCR := hide hcr
  have hz := unhide HZ
  clear hb hr hcr HCF HS HR0 HZ
  obtain rfl : r = true := (unhide HR).2 (unhide HOK).1
  obtain ⟨C, B, rfl, hcr, hge⟩ := unhide HCR rfl
  have k11 := hcr.c11
  have hu := (unhide HOK).2
  have HCN := hide (cancel_any C c B w1 hcr (unhide HOK))
  have HGE := hide (show ∀ x, x ∈ [C, B.T] → w.heap.size + 2 ≤ x from fun x hx => by
    have := hge x (List.mem_append_left _ (by simp only [List.mem_cons, List.not_mem_nil, or_false] at hx ⊢; rcases hx with rfl | rfl <;> simp))
    omega)
  have HW1 := hide (hcr.row.lt)
  clear HR HCR hcr hge hz
  generalize c.user = uu at k11 hu
  go_upto_region 4 with fail
  clear k11 hu
  go_upto_region 5 with (go_at_call 18; refine (unhide HCN).mono ?_; rintro e w2 ⟨rfl, hc2, hx2⟩)
  have R1 := hide ((unhide HR1).of_block (hx2.block _ (unhide HR1).lt (fun hm => by have := unhide HGE _ hm; omega)))
  have B1 := hide ((unhide HB1).trans (hx2.below (unhide HB1).size (fun x hx => by have := unhide HGE x hx; omega)))
  have HCR := hide hc2
  clear hc2 hx2 HCN HR1 HB1 HOK HGE HW1
  rw [unhide HXE] at HCR
  clear HXE
  refine wp_region_list ?_
  refine wpList_plain rfl (fun K hK => ?_)
  go_simp
  refine hK _ _ ?_
  clear hK K
  refine wpList_plain rfl (fun K hK => ?_)
  go_simp
  refine (world_any C x B w2 (unhide HCR)).mono ?_
  rintro e w3 ⟨v, Fq, Fh, Fr, Fg, Fo, Ft, Fs, rfl, hown, hdj, hrng, hb2⟩
  refine hK _ _ ?_
  clear hK K
  have hrw := (unhide R1).of_block (hb2.block _ (unhide R1).lt)
  have hbw := (unhide B1).trans (hb2.mono (unhide B1).size)
  have hlt := (unhide R1).lt
  refine wpList_store_mid rfl _ _ _ rfl (w.heap.size + 1) 0 #[.int .i64 x.jobs, .int .i64 x.workers, .int .i64 x.window, .int .i64 x.next, .int .i64 x.reader, v.q, v.h, .int .i64 x.closer, v.r, .int .i64 x.keeper, v.g, .int .i64 x.due, v.o, .int .i64 x.user, v.t, .int .i64 x.room, v.s, .int .i64 x.ops] rfl rfl (there_row hrw) info18 (one18 _ _ _ _ _ _ _ _ _ _ _ v (cw_one hown)) ?_
  have hr3 := row_all (n := 18) [.int .i64 x.jobs, .int .i64 x.workers, .int .i64 x.window, .int .i64 x.next, .int .i64 x.reader, v.q, v.h, .int .i64 x.closer, v.r, .int .i64 x.keeper, v.g, .int .i64 x.due, v.o, .int .i64 x.user, v.t, .int .i64 x.room, v.s, .int .i64 x.ops] rfl hrw
  have hb3 := below_setCells (show w.heap.size ≤ w.heap.size + 1 by omega) [.int .i64 x.jobs, .int .i64 x.workers, .int .i64 x.window, .int .i64 x.next, .int .i64 x.reader, v.q, v.h, .int .i64 x.closer, v.r, .int .i64 x.keeper, v.g, .int .i64 x.due, v.o, .int .i64 x.user, v.t, .int .i64 x.room, v.s, .int .i64 x.ops] 0 w3 hbw
  have ho3 := hown.carry (w' := w3.setCells (w.heap.size + 1) 0 [.int .i64 x.jobs, .int .i64 x.workers, .int .i64 x.window, .int .i64 x.next, .int .i64 x.reader, v.q, v.h, .int .i64 x.closer, v.r, .int .i64 x.keeper, v.g, .int .i64 x.due, v.o, .int .i64 x.user, v.t, .int .i64 x.room, v.s, .int .i64 x.ops]) (fun b hb => heap_setCells _ _ _ _ (by have := (hrng b hb).1; omega))
  have hs3 : ∀ b, b ∈ F7 Fq Fh Fr Fg Fo Ft Fs → w.heap.size ≤ b ∧ b < (w3.setCells (w.heap.size + 1) 0 [.int .i64 x.jobs, .int .i64 x.workers, .int .i64 x.window, .int .i64 x.next, .int .i64 x.reader, v.q, v.h, .int .i64 x.closer, v.r, .int .i64 x.keeper, v.g, .int .i64 x.due, v.o, .int .i64 x.user, v.t, .int .i64 x.room, v.s, .int .i64 x.ops]).heap.size := fun b hb => by
    rw [size_setCells]
    exact ⟨by have := (hrng b hb).1; omega, (hrng b hb).2⟩
  generalize w3.setCells (w.heap.size + 1) 0 _ = W at hr3 hb3 ho3 hs3 ⊢
  clear hrw hbw hown hrng hb2 R1 B1
  have HB := hide hb3; have HO := hide ho3; have HS := hide hs3; have HD := hide hdj
  clear hb3 ho3 hs3 hdj
  go_wp2_with fail
  exact bodyPost_ret (v := .tuple #[.agg #[.int .i64 x.jobs, .int .i64 x.workers, .int .i64 x.window, .int .i64 x.next, .int .i64 x.reader, v.q, v.h, .int .i64 x.closer, v.r, .int .i64 x.keeper, v.g, .int .i64 x.due, v.o, .int .i64 x.user, v.t, .int .i64 x.room, v.s, .int .i64 x.ops], .bool true]) (results18 (by rfl) _ _ (w.heap.size + 1) [.int .i64 x.jobs, .int .i64 x.workers, .int .i64 x.window, .int .i64 x.next, .int .i64 x.reader, v.q, v.h, .int .i64 x.closer, v.r, .int .i64 x.keeper, v.g, .int .i64 x.due, v.o, .int .i64 x.user, v.t, .int .i64 x.room, v.s, .int .i64 x.ops] _ rfl rfl hr3 rfl) rfl ⟨v, _, _, _, _, _, _, _, rfl, unhide HO, unhide HD, unhide HS, unhide HB⟩
end Go.Proofs.Ytibgjcejddpldaa

/- The walk of the specification's l51Left. Condition: the world's parts are within their bounds. -/

namespace Go.Proofs.Ytibgjcejddpldaa
open Go Go.RowKit

theorem rd_tab (z : Int) (k : Nat) (h : z = k) (hk : k < 4) : (#[.int .i64 2, .int .i64 12, .int .i64 1, .int .i64 0] : Array Value)[k]? = some (.int .i64 (rdL z)) := by
  subst h
  rcases (show k = 0 ∨ k = 1 ∨ k = 2 ∨ k = 3 by omega) with rfl | rfl | rfl | rfl <;> rfl
theorem wk_tab (z : Int) (k : Nat) (h : z = k) (hk : k < 4) : (#[.int .i64 1, .int .i64 9, .int .i64 8, .int .i64 0] : Array Value)[k]? = some (.int .i64 (wkL z)) := by
  subst h
  rcases (show k = 0 ∨ k = 1 ∨ k = 2 ∨ k = 3 by omega) with rfl | rfl | rfl | rfl <;> rfl
theorem kp_tab (z : Int) (k : Nat) (h : z = k) (hk : k < 6) : (#[.int .i64 2, .int .i64 3, .int .i64 2, .int .i64 4, .int .i64 1, .int .i64 0] : Array Value)[k]? = some (.int .i64 (kpL z)) := by
  subst h
  rcases (show k = 0 ∨ k = 1 ∨ k = 2 ∨ k = 3 ∨ k = 4 ∨ k = 5 by omega) with rfl | rfl | rfl | rfl | rfl | rfl <;> rfl
set_option maxRecDepth 100000 in
set_option maxHeartbeats 3200000 in
theorem l51Left_any (c : Cw) (A : A7) (P : Nat → Prop) (w : World) (h : CwAt P w c (A.v c)) (hP : ∀ b, P b → b < w.heap.size) (hF : Form c) : Calls Try.prog 29 #[.agg #[.int .i64 c.jobs, .int .i64 c.workers, .int .i64 c.window, .int .i64 c.next, .int .i64 c.reader, .slice A.q c.queue.length A.pq, .slice A.h c.hands.length A.ph, .int .i64 c.closer, .slice A.r c.results.length A.pr, .int .i64 c.keeper, .slice A.g c.ring.length A.pg, .int .i64 c.due, .slice A.o c.out.length A.po, .int .i64 c.user, .slice A.t c.got.length A.pt, .int .i64 c.room, .slice A.s c.shut.length A.ps, .int .i64 c.ops]] w fun e w' => e = .returned (.int .i64 (leftZ c)) ∧ Below w.heap.size w w' := by
  have HS := hide (Ag.start h hP)
  clear h hP
  obtain ⟨s1, s2, s3, s4, s5, s6, s7, s8⟩ := hF.small
  have n1 := hF.next.1; have n2 := hF.next.2; have hout := hF.out
  have r1 := hF.reader.1; have r2 := hF.reader.2; have l1 := hF.closer.1; have l2 := hF.closer.2; have p1 := hF.keeper.1; have p2 := hF.keeper.2; have u1 := hF.user.1; have u2 := hF.user.2
  have HHD := hide hF.handsOk
  have b1 := rdL_bound c.reader; have b2 := kpL_bound c.keeper
  have HBH := hide (sumH_bound c.hands); have HBG := hide (sumG_bound c.ring)
  obtain ⟨rd, hrd⟩ : ∃ k : Nat, c.reader = k := ⟨c.reader.toNat, by omega⟩
  obtain ⟨kp, hkp⟩ : ∃ k : Nat, c.keeper = k := ⟨c.keeper.toNat, by omega⟩
  have trd := rd_tab c.reader rd hrd (by omega); have tkp := kp_tab c.keeper kp hkp (by omega)
  have hs0 := unhide HS
  rw [hrd, hkp] at hs0
  have HA := hide (fun o o2 => hs0.on ((((Below.refl _ _).alloc (Nat.le_refl _) o).alloc (by simp) o2).drew))
  have r3 : (rd : Int) ≤ 3 := by omega
  have p3 : (kp : Int) ≤ 5 := by omega
  clear hs0 HS
  obtain ⟨n0, hn0⟩ : ∃ n0, n0 = 11 * (c.jobs - c.next) + 9 * (c.queue.length : Int) + 6 * (c.results.length : Int) + (c.out.length : Int) := ⟨_, rfl⟩
  have e1 : IntKind.i64.wrap (c.jobs - c.next) = c.jobs - c.next := by rw [IntKind.wrap_i64]; omega
  have e2 : IntKind.i64.wrap (11 * (c.jobs - c.next)) = 11 * (c.jobs - c.next) := by rw [IntKind.wrap_i64]; omega
  have e3 : IntKind.i64.wrap (9 * (c.queue.length : Int)) = 9 * (c.queue.length : Int) := by rw [IntKind.wrap_i64]; omega
  have e4 : IntKind.i64.wrap (11 * (c.jobs - c.next) + 9 * (c.queue.length : Int)) = 11 * (c.jobs - c.next) + 9 * (c.queue.length : Int) := by rw [IntKind.wrap_i64]; omega
  have e5 : IntKind.i64.wrap (6 * (c.results.length : Int)) = 6 * (c.results.length : Int) := by rw [IntKind.wrap_i64]; omega
  have e6 : IntKind.i64.wrap (11 * (c.jobs - c.next) + 9 * (c.queue.length : Int) + 6 * (c.results.length : Int)) = 11 * (c.jobs - c.next) + 9 * (c.queue.length : Int) + 6 * (c.results.length : Int) := by rw [IntKind.wrap_i64]; omega
  have e7 : IntKind.i64.wrap (11 * (c.jobs - c.next) + 9 * (c.queue.length : Int) + 6 * (c.results.length : Int) + (c.out.length : Int)) = n0 := by rw [IntKind.wrap_i64]; omega
  have HN0 := hide (show 0 ≤ n0 ∧ n0 ≤ 1000 from by omega)
  have HV := hide (show leftZ c = n0 + rdL c.reader + 1 - c.closer + kpL c.keeper + 1 - c.user + sumH c.hands + sumG c.ring from by unfold leftZ; omega)
  clear hF hn0
  have hn1 := (unhide HN0).1; have hn2 := (unhide HN0).2
  generalize rdL c.reader = x1 at trd b1 HV
  generalize kpL c.keeper = x2 at tkp b2 HV
  go_enter Try.func29, Try.ntmps29
  go_wp2_with fail
  clear e1 e2 e3 e4 e5 e6 e7
  obtain ⟨m0, hm0⟩ : ∃ m0, m0 = n0 + x1 + 1 - c.closer + x2 + 1 - c.user := ⟨_, rfl⟩
  have HM := hide hm0
  have HMB := hide (show 0 ≤ m0 ∧ m0 ≤ 2000 from by omega)
  clear hm0
  go_cut [3] from 26 to 46 (fun v wx => v = .int .i64 (n0 + x1 + 1 - c.closer + x2 + 1 - c.user) ∧ Ag P w wx c A)
  case first =>
    go_region
    all_goals
      go_wp2_with fail
      go_meet
      case rel => exact ⟨rfl, unhide HA _ _⟩
  case rest =>
    obtain ⟨rfl, hag⟩ := hcut
    rw [← unhide HM]
    have HS := hide hag
    clear hag trd tkp HA
    have hm1 := (unhide HMB).1; have hm2 := (unhide HMB).2
    rw [show n0 + x1 + 1 - c.closer + x2 + 1 - c.user = m0 from (unhide HM).symm] at HV
    clear HM hn1 hn2 b1 b2
    go_wp2_with fail
    go_loopw [3, 4] (fun n i wr => ∃ (k : Nat), k ≤ c.hands.length ∧ i = .int .i64 k ∧ n = .int .i64 (m0 + sumH (c.hands.take k)) ∧ Hid (Ag P w wr c A)) (fun _ i _ => c.hands.length - (intOf i).toNat)
    case atStart => exact ⟨0, Nat.zero_le _, rfl, by simp [sumH], HS⟩
    case round =>
      obtain ⟨k, hk, rfl, rfl, HS⟩ := hrel
      have k6 := HS.out.k6
      by_cases hlt : k < c.hands.length
      · obtain ⟨b, o, ha, e0, -⟩ := HS.out.at_h k hlt
        rw [ha] at k6
        have hok := (unhide HHD _ (List.getElem_mem hlt)).1
        obtain ⟨st, hst⟩ : ∃ m : Nat, c.hands[k].state = m := ⟨c.hands[k].state.toNat, by omega⟩
        have twk := wk_tab c.hands[k].state st hst (by omega)
        have hsum := sumH_take c.hands k hlt
        have hb1 := sumH_bound (c.hands.take k)
        have hb2 := wkL_bound c.hands[k].state
        have hlen : (c.hands.take k).length = k := by rw [List.length_take]; omega
        rw [hlen] at hb1
        have hst4 : (st : Int) ≤ 3 := by omega
        rw [hst] at e0
        have HSU := hide hsum
        generalize wkL c.hands[k].state = y at twk hb2 HSU
        generalize sumH (c.hands.take k) = z at hb1 HSU
        have hb3 := hb1.1; have hb4 := hb1.2; have hb5 := hb2.1; have hb6 := hb2.2
        have hwr : IntKind.i64.wrap (m0 + z + y) = m0 + z + y := by rw [IntKind.wrap_i64]; omega
        have ea : ∀ ob, (wr.alloc ob).cell? ⟨b, o + k * 2, none⟩ = some (.int .i64 st) := fun ob => (World.cell?_of_block (a := ⟨b, o + k * 2, none⟩) (Below.heap_alloc wr ob _ (World.block_lt_of_cell? wr _ e0))).trans e0
        have k6a := fun ob => (HS.out.on ((Below.refl _ wr).alloc (Nat.le_refl _) ob)).k6
        rw [ha] at k6a
        have HA := hide (fun ob => HS.out.on ((Below.refl _ wr).alloc (Nat.le_refl _) ob))
        clear hsum hb1 hb2 hst hok hlen
        go_wp2_with fail
        go_roundw
        case rel => exact ⟨k + 1, by omega, by go_num, by rw [unhide HSU, Int.add_assoc], unhide HA _⟩
        case measure => simp [intOf]; omega
      · obtain rfl : k = c.hands.length := by omega
        rw [List.take_length]
        have hb1 := (unhide HBH).1; have hb2 := (unhide HBH).2
        obtain ⟨m1, hm1'⟩ : ∃ m1, m1 = m0 + sumH c.hands := ⟨_, rfl⟩
        rw [← hm1']
        have HV2 := hide (show leftZ c = m1 + sumG c.ring from by rw [unhide HV, hm1'])
        have hm3 : 0 ≤ m1 := by omega
        have hm4 : m1 ≤ 3000 := by omega
        clear hm1' hb1 hb2 HV hm1 hm2
        go_wp2_with fail
        go_loopw [3, 5] (fun n i wr => ∃ (k : Nat), k ≤ c.ring.length ∧ i = .int .i64 k ∧ n = .int .i64 (m1 + sumG (c.ring.take k)) ∧ Hid (Ag P w wr c A)) (fun _ i _ => c.ring.length - (intOf i).toNat)
        case atStart => exact ⟨0, Nat.zero_le _, rfl, by simp [sumG], HS⟩
        case round =>
          obtain ⟨k, hk, rfl, rfl, HS⟩ := hrel
          have k10 := HS.out.k10
          by_cases hlt : k < c.ring.length
          · obtain ⟨b, o, ha, e0⟩ := HS.out.at_g k hlt
            rw [ha] at k10
            have hsum := sumG_take c.ring k hlt
            have hb1 := sumG_bound (c.ring.take k)
            have hlen : (c.ring.take k).length = k := by rw [List.length_take]; omega
            rw [hlen] at hb1
            have HSU := hide hsum
            generalize c.ring[k] = y at e0 HSU
            generalize sumG (c.ring.take k) = z at hb1 HSU
            have hb3 := hb1.1; have hb4 := hb1.2
            have hwr : IntKind.i64.wrap (m1 + z + 4) = m1 + z + 4 := by rw [IntKind.wrap_i64]; omega
            clear hsum hb1 hlen
            by_cases hy : 0 ≤ y
            · have HE := hide (show (if 0 ≤ y then (4 : Int) else 0) = 4 from if_pos hy)
              have hyd : decide (0 ≤ y) = true := decide_eq_true hy
              clear hy
              go_wp2_with fail
              go_roundw
              case rel => exact ⟨k + 1, by omega, by go_num, by rw [unhide HSU, unhide HE, Int.add_assoc], HS⟩
              case measure => simp [intOf]; omega
            · have HE := hide (show (if 0 ≤ y then (4 : Int) else 0) = 0 from if_neg hy)
              have hyd : decide (0 ≤ y) = false := decide_eq_false hy
              clear hy
              go_wp2_with fail
              go_roundw
              case rel => exact ⟨k + 1, by omega, by go_num, by rw [unhide HSU, unhide HE, Int.add_zero], HS⟩
              case measure => simp [intOf]; omega
          · obtain rfl : k = c.ring.length := by omega
            rw [List.take_length]
            go_wp2_with fail
            go_ret
            exact ⟨by rw [unhide HV2]; rfl, HS.out.bel⟩
end Go.Proofs.Ytibgjcejddpldaa
