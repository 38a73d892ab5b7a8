/- The walks of the program's world and CrewStart. No conditions. -/
import Derived.Test.YtchbialjgcejgaaPart13
import Derived.Handy
import Derived.Deep.RegionHeld3
import Derived.Test.YtchbialjgcejgaaPart11
import Derived.Deep.CutRange
namespace Go.Proofs.Ytchbialjgcejgaa
open Go Go.RowKit

set_option maxRecDepth 100000 in
set_option maxHeartbeats 1600000 in
theorem world_any (C : Nat) (c : Cw) (B : CrB) (w : World) (h : CrAt w C c B) : Calls Try.prog 37 #[.pointer (some ⟨C, 0, none⟩)] w fun e w' => CwVal w w' e c := by
  have HW0 := hide (show WS w (w.alloc (.cells #[.int .i64 0, .int .i64 0, .int .i64 0, .int .i64 0, .int .i64 0, .slice none 0 0, .slice none 0 0, .int .i64 0, .slice none 0 0, .int .i64 0, .slice none 0 0, .int .i64 0, .slice none 0 0, .int .i64 0, .slice none 0 0, .int .i64 0, .slice none 0 0, .int .i64 0] 28)).drew C c B (.bool false) (.bool false) (.bool false) (.bool false) (.bool false) (.bool false) (.bool false) from WS.below (W := w.alloc (.cells #[.int .i64 0, .int .i64 0, .int .i64 0, .int .i64 0, .int .i64 0, .slice none 0 0, .slice none 0 0, .int .i64 0, .slice none 0 0, .int .i64 0, .slice none 0 0, .int .i64 0, .slice none 0 0, .int .i64 0, .slice none 0 0, .int .i64 0, .slice none 0 0, .int .i64 0] 28)) ⟨[], [], [], [], [], [], [], h.below ((Below.refl _ _).alloc (Nat.le_refl _) _), box18 w noCw nil7 28, Or.inl ⟨rfl, rfl⟩, Or.inl ⟨rfl, rfl⟩, Or.inl ⟨rfl, rfl⟩, Or.inl ⟨rfl, rfl⟩, Or.inl ⟨rfl, rfl⟩, Or.inl ⟨rfl, rfl⟩, Or.inl ⟨rfl, rfl⟩, fun b => by simp, fun b m => (by cases m), fun b m => (by cases m), fun b m => (by cases m), fun b m => (by cases m), fun b m => (by cases m), fun b m => (by cases m), fun b m => (by cases m), (Below.refl _ _).alloc (Nat.le_refl _) _⟩ (Below.refl _ _).drew)
  have HCL := hide h.lt
  clear h
  go_enter Try.func37, Try.ntmps37
  go_wp2_with fail
  generalize w.alloc (.cells #[.int .i64 0, .int .i64 0, .int .i64 0, .int .i64 0, .int .i64 0, .slice none 0 0, .slice none 0 0, .int .i64 0, .slice none 0 0, .int .i64 0, .slice none 0 0, .int .i64 0, .slice none 0 0, .int .i64 0, .slice none 0 0, .int .i64 0, .slice none 0 0, .int .i64 0] 28) = W0 at HW0 ⊢
  refine wp_swap (c' := Code.region 1 wOps true) (by kernel_rfl) ?_
  refine wp_region_noPanic ?_
  refine world_region C c B w W0 _ (fun _ _ _ _ _ h => h) (unhide HW0) (unhide HCL) ?_
  rintro a' W' ha hd ⟨cs, hh, hsz, hv⟩
  refine NoPanic.normal ?_
  obtain ⟨d, hd1, hd2⟩ := rowWorld
  have hres := results_cell_row (P := Try.prog) (fn := Try.f37) (by rfl) a'.tmps W' w.heap.size 28 cs (0, 0) _ ha hh Try.underlying28 (by rfl) (by rw [hsz]; exact info18)
  have HR := hide hres; have HV := hide hv
  clear hres hv
  go_wp2_with fail
  exact bodyPost_ret (unhide HR) hd (unhide HV)
theorem stCw_yes {j : Int} {k n : Nat} (h : stOk j k n) : stCw j k n = ncCw j k n := by
  unfold stCw ncCw
  rw [if_pos h]
  rfl
set_option maxRecDepth 100000 in
set_option maxHeartbeats 1600000 in
theorem implCrewStart_no (j k n : Int) (w : World) (hok : ¬ stOk j k n) : Calls Try.prog 11 #[.int .i64 j, .int .i64 k, .int .i64 n] w fun e w' => CwEnd w w' e (stCw j k n) (decide (stOk j k n)) := by
  have HNC := hide (fun W => newCrew_no j k n W hok)
  have HB0 := hide (fun o => (show Below w.heap.size w (w.alloc o) from (Below.refl _ _).alloc (Nat.le_refl _) o))
  have HR6 := hide (box18 w noCw nil7 28)
  go_enter Try.func11, Try.ntmps11
  go_wp2_with fail
  refine (unhide HNC _).mono ?_
  rintro e w1 ⟨rfl, hb1⟩
  have R1 := hide ((unhide HR6).of_block (hb1.block w.heap.size (by simp)))
  have B1 := hide ((unhide HB0 _).trans (hb1.mono (unhide HB0 _).size))
  clear hb1 HR6 HB0
  go_upto_region 3 with fail
  refine wp_region_list ?_
  refine wpList_plain rfl (fun K hK => ?_)
  go_simp
  refine hK _ _ ?_
  clear hK K
  have hrw := unhide R1
  refine wpList_store_mid rfl _ _ _ rfl w.heap.size 0 #[.int .i64 0, .int .i64 0, .int .i64 0, .int .i64 0, .int .i64 0, .slice none 0 0, .slice none 0 0, .int .i64 0, .slice none 0 0, .int .i64 0, .slice none 0 0, .int .i64 0, .slice none 0 0, .int .i64 0, .slice none 0 0, .int .i64 0, .slice none 0 0, .int .i64 0] rfl rfl (there_row hrw) info18 (one18 0 0 0 0 0 0 0 0 0 0 0 nil7 (by simp [nil7, Value.oneCell'])) ?_
  have hr2 := row_all (n := 18) [.int .i64 0, .int .i64 0, .int .i64 0, .int .i64 0, .int .i64 0, .slice none 0 0, .slice none 0 0, .int .i64 0, .slice none 0 0, .int .i64 0, .slice none 0 0, .int .i64 0, .slice none 0 0, .int .i64 0, .slice none 0 0, .int .i64 0, .slice none 0 0, .int .i64 0] rfl hrw
  have hb2 := below_setCells (Nat.le_refl w.heap.size) [.int .i64 0, .int .i64 0, .int .i64 0, .int .i64 0, .int .i64 0, .slice none 0 0, .slice none 0 0, .int .i64 0, .slice none 0 0, .int .i64 0, .slice none 0 0, .int .i64 0, .slice none 0 0, .int .i64 0, .slice none 0 0, .int .i64 0, .slice none 0 0, .int .i64 0] 0 w1 (unhide B1)
  generalize w1.setCells w.heap.size 0 _ = W at hr2 hb2 ⊢
  clear hrw R1 B1
  have HB := hide hb2
  have HNO := hide hok
  clear hb2 hok
  go_wp2_with fail
  exact bodyPost_ret (v := .tuple #[.agg #[.int .i64 0, .int .i64 0, .int .i64 0, .int .i64 0, .int .i64 0, .slice none 0 0, .slice none 0 0, .int .i64 0, .slice none 0 0, .int .i64 0, .slice none 0 0, .int .i64 0, .slice none 0 0, .int .i64 0, .slice none 0 0, .int .i64 0, .slice none 0 0, .int .i64 0], .bool false]) (results18 (by rfl) _ _ w.heap.size [.int .i64 0, .int .i64 0, .int .i64 0, .int .i64 0, .int .i64 0, .slice none 0 0, .slice none 0 0, .int .i64 0, .slice none 0 0, .int .i64 0, .slice none 0 0, .int .i64 0, .slice none 0 0, .int .i64 0, .slice none 0 0, .int .i64 0, .slice none 0 0, .int .i64 0] _ rfl rfl hr2 rfl) rfl (CwEnd.no (unhide HNO) (unhide HB))
theorem flat_one {W : World} {v : Value} {n : Nat} {rs : List (List Value)} {F : List Nat} (h : FlatOwn W v n rs F) : v.oneCell' = true := by
  obtain ⟨a, cap, rfl, -⟩ := h
  rfl
theorem cw_one {W : World} {c : Cw} {v : C7} {Fq Fh Fr Fg Fo Ft Fs : List Nat} (h : CwOwn W c v Fq Fh Fr Fg Fo Ft Fs) : ∀ u, u ∈ [v.q, v.h, v.r, v.g, v.o, v.t, v.s] → u.oneCell' = true := by
  intro u hu
  simp only [List.mem_cons, List.not_mem_nil, or_false] at hu
  rcases hu with rfl | rfl | rfl | rfl | rfl | rfl | rfl
  · exact flat_one h.q
  · exact flat_one h.h
  · exact flat_one h.r
  · exact flat_one h.g
  · exact flat_one h.o
  · exact flat_one h.t
  · exact flat_one h.s
set_option maxRecDepth 100000 in
set_option maxHeartbeats 1600000 in
theorem implCrewStart_yes (j : Int) (k n : Nat) (w : World) (hok : stOk j k n) : Calls Try.prog 11 #[.int .i64 j, .int .i64 k, .int .i64 n] w fun e w' => CwEnd w w' e (stCw j k n) (decide (stOk j k n)) := by
  have HNC := hide (fun W => newCrew_yes j k n W hok)
  have HB0 := hide (fun o => (show Below w.heap.size w (w.alloc o) from (Below.refl _ _).alloc (Nat.le_refl _) o))
  have HR6 := hide (box18 w noCw nil7 28)
  rw [stCw_yes hok, decide_eq_true hok]
  generalize ncCw j k n = c at HNC ⊢
  clear hok
  go_enter Try.func11, Try.ntmps11
  go_wp2_with fail
  refine (unhide HNC _).mono ?_
  rintro e w1 ⟨C, B, rfl, hcr, hbl, hb1⟩
  have R1 := hide ((unhide HR6).of_block (hb1.block w.heap.size (by simp)))
  have B1 := hide ((unhide HB0 _).trans (hb1.mono (unhide HB0 _).size))
  have HCR := hide hcr
  clear hb1 HR6 HB0 HNC hcr hbl
  go_upto_region 4 with fail
  refine wp_region_list ?_
  refine wpList_plain rfl (fun K hK => ?_)
  go_simp
  refine hK _ _ ?_
  clear hK K
  refine wpList_plain rfl (fun K hK => ?_)
  go_simp
  refine (world_any C c B w1 (unhide HCR)).mono ?_
  rintro e w2 ⟨v, Fq, Fh, Fr, Fg, Fo, Ft, Fs, rfl, hown, hdj, hrng, hb2⟩
  refine hK _ _ ?_
  clear hK K
  have hrw := (unhide R1).of_block (hb2.block _ (unhide R1).lt)
  have hbw := (unhide B1).trans (hb2.mono (unhide B1).size)
  have hlt := (unhide R1).lt
  refine wpList_store_mid rfl _ _ _ rfl w.heap.size 0 #[.int .i64 c.jobs, .int .i64 c.workers, .int .i64 c.window, .int .i64 c.next, .int .i64 c.reader, v.q, v.h, .int .i64 c.closer, v.r, .int .i64 c.keeper, v.g, .int .i64 c.due, v.o, .int .i64 c.user, v.t, .int .i64 c.room, v.s, .int .i64 c.ops] rfl rfl (there_row hrw) info18 (one18 _ _ _ _ _ _ _ _ _ _ _ v (cw_one hown)) ?_
  have hr3 := row_all (n := 18) [.int .i64 c.jobs, .int .i64 c.workers, .int .i64 c.window, .int .i64 c.next, .int .i64 c.reader, v.q, v.h, .int .i64 c.closer, v.r, .int .i64 c.keeper, v.g, .int .i64 c.due, v.o, .int .i64 c.user, v.t, .int .i64 c.room, v.s, .int .i64 c.ops] rfl hrw
  have hb3 := below_setCells (Nat.le_refl w.heap.size) [.int .i64 c.jobs, .int .i64 c.workers, .int .i64 c.window, .int .i64 c.next, .int .i64 c.reader, v.q, v.h, .int .i64 c.closer, v.r, .int .i64 c.keeper, v.g, .int .i64 c.due, v.o, .int .i64 c.user, v.t, .int .i64 c.room, v.s, .int .i64 c.ops] 0 w2 hbw
  have ho3 := hown.carry (w' := w2.setCells w.heap.size 0 [.int .i64 c.jobs, .int .i64 c.workers, .int .i64 c.window, .int .i64 c.next, .int .i64 c.reader, v.q, v.h, .int .i64 c.closer, v.r, .int .i64 c.keeper, v.g, .int .i64 c.due, v.o, .int .i64 c.user, v.t, .int .i64 c.room, v.s, .int .i64 c.ops]) (fun b hb => heap_setCells _ _ _ _ (by have := (hrng b hb).1; omega))
  have hs3 : ∀ b, b ∈ F7 Fq Fh Fr Fg Fo Ft Fs → w.heap.size ≤ b ∧ b < (w2.setCells w.heap.size 0 [.int .i64 c.jobs, .int .i64 c.workers, .int .i64 c.window, .int .i64 c.next, .int .i64 c.reader, v.q, v.h, .int .i64 c.closer, v.r, .int .i64 c.keeper, v.g, .int .i64 c.due, v.o, .int .i64 c.user, v.t, .int .i64 c.room, v.s, .int .i64 c.ops]).heap.size := fun b hb => by
    rw [size_setCells]
    exact ⟨by have := (hrng b hb).1; omega, (hrng b hb).2⟩
  generalize w2.setCells w.heap.size 0 _ = W at hr3 hb3 ho3 hs3 ⊢
  clear hrw hbw hown hrng hb2 R1 B1
  have HB := hide hb3; have HO := hide ho3; have HS := hide hs3; have HD := hide hdj
  clear hb3 ho3 hs3 hdj
  go_wp2_with fail
  exact bodyPost_ret (v := .tuple #[.agg #[.int .i64 c.jobs, .int .i64 c.workers, .int .i64 c.window, .int .i64 c.next, .int .i64 c.reader, v.q, v.h, .int .i64 c.closer, v.r, .int .i64 c.keeper, v.g, .int .i64 c.due, v.o, .int .i64 c.user, v.t, .int .i64 c.room, v.s, .int .i64 c.ops], .bool true]) (results18 (by rfl) _ _ w.heap.size [.int .i64 c.jobs, .int .i64 c.workers, .int .i64 c.window, .int .i64 c.next, .int .i64 c.reader, v.q, v.h, .int .i64 c.closer, v.r, .int .i64 c.keeper, v.g, .int .i64 c.due, v.o, .int .i64 c.user, v.t, .int .i64 c.room, v.s, .int .i64 c.ops] _ rfl rfl hr3 rfl) rfl ⟨v, _, _, _, _, _, _, _, rfl, unhide HO, unhide HD, unhide HS, unhide HB⟩
theorem implCrewStart_any (j k n : Int) (w : World) : Calls Try.prog 11 #[.int .i64 j, .int .i64 k, .int .i64 n] w fun e w' => CwEnd w w' e (stCw j k n) (decide (stOk j k n)) := by
  by_cases hok : stOk j k n
  · obtain ⟨k', rfl⟩ : ∃ m : Nat, k = m := ⟨k.toNat, by have := hok.2.1.1; omega⟩
    obtain ⟨n', rfl⟩ : ∃ m : Nat, n = m := ⟨n.toNat, by have := hok.2.2.1; omega⟩
    exact implCrewStart_yes j k' n' w hok
  · exact implCrewStart_no j k n w hok
theorem specCrewStart_any (j k n : Int) (w : World) : Calls Try.prog 10 #[.int .i64 j, .int .i64 k, .int .i64 n] w fun e w' => CwEnd w w' e (stCw j k n) (decide (stOk j k n)) := by
  by_cases hok : stOk j k n
  · obtain ⟨k', rfl⟩ : ∃ m : Nat, k = m := ⟨k.toNat, by have := hok.2.1.1; omega⟩
    obtain ⟨n', rfl⟩ : ∃ m : Nat, n = m := ⟨n.toNat, by have := hok.2.2.1; omega⟩
    exact specCrewStart_yes j k' n' w hok
  · exact specCrewStart_no j k n w hok
end Go.Proofs.Ytchbialjgcejgaa

/- The walk of the law on CrewStart: whatever three numbers come in, it answers true, and turns nothing that was there. No conditions. -/

namespace Go.Proofs.Ytchbialjgcejgaa
open Go Go.RowKit

set_option maxRecDepth 100000 in
set_option maxHeartbeats 6400000 in
theorem lawCrewStart_any (j k n : Int) (w : World) : Calls Try.prog 4 #[.int .i64 j, .int .i64 k, .int .i64 n] w fun e w' => e = .returned (.bool true) ∧ Below w.heap.size w w' := by
  have HSP := hide (fun W => specCrewStart_any j k n W)
  have HIM := hide (fun W => implCrewStart_any j k n W)
  have hsm := stCw_small j k n
  generalize stCw j k n = c at HSP HIM hsm
  generalize decide (stOk j k n) = ok at HSP HIM
  have HSM := hide hsm
  clear hsm
  obtain ⟨dd, hdu, hdr⟩ := rowWorld
  have hm1 : (1 + mkC c : Nat) ≤ 1000 := by have := unhide HSM; omega
  have hm2 : mkC c ≤ 1048576 := by omega
  have HM := hide hm2
  generalize hmm : 1 + mkC c = m at hm1
  have HMM := hide hmm
  clear hmm hm2
  go_enter Try.func4, Try.ntmps4
  go_upto_region 1 with fail
  refine wp_region_list ?_
  refine wpList_plain rfl (fun K hK => ?_); go_simp; refine hK _ _ ?_; clear hK K
  refine wpList_plain rfl (fun K hK => ?_); go_simp; refine hK _ _ ?_; clear hK K
  refine wpList_plain rfl (fun K hK => ?_); go_simp; refine hK _ _ ?_; clear hK K
  refine wpList_plain rfl (fun K hK => ?_)
  go_simp
  refine (unhide HSP w).mono ?_
  rintro e w1 ⟨u, Uq, Uh, Ur, Ug, Uo, Ut, Us, rfl, hown, hdj, hrng, hb⟩
  refine hK _ _ ?_
  clear hK K
  obtain ⟨hbx, hbb⟩ := Bx.new hown hdj hrng hb
  have hon := cw_oneB hown
  have hsz := hb.size
  clear hown hdj hrng hb
  refine wpList_plain rfl (fun K hK => ?_); go_simp; refine hK _ _ ?_; clear hK K
  refine wpList_plain rfl (fun K hK => ?_); go_simp; refine hK _ _ ?_; clear hK K
  refine wpList_plain rfl (fun K hK => ?_); go_simp; refine hK _ _ ?_; clear hK K
  refine wpList_plain rfl (fun K hK => ?_); go_simp; refine hK _ _ ?_; clear hK K
  refine wpList_store_mid rfl _ _ _ rfl w1.heap.size 0 #[.int .i64 c.jobs, .int .i64 c.workers, .int .i64 c.window, .int .i64 c.next, .int .i64 c.reader, u.q, u.h, .int .i64 c.closer, u.r, .int .i64 c.keeper, u.g, .int .i64 c.due, u.o, .int .i64 c.user, u.t, .int .i64 c.room, u.s, .int .i64 c.ops] rfl rfl Bx.there info18 hon ?_
  clear hon
  generalize (w1.alloc _).setCells _ 0 _ = W2 at hbx hbb ⊢
  have KW := hide hbx; have HB2 := hide hbb; have hz1 := hsz
  clear hbx hbb hsz
  go_upto_region 2 with fail
  refine wp_region_list ?_
  refine wpList_plain rfl (fun K hK => ?_); go_simp; refine hK _ _ ?_; clear hK K
  refine wpList_plain rfl (fun K hK => ?_); go_simp; refine hK _ _ ?_; clear hK K
  refine wpList_plain rfl (fun K hK => ?_); go_simp; refine hK _ _ ?_; clear hK K
  refine wpList_plain rfl (fun K hK => ?_)
  go_simp
  refine (unhide HIM W2).mono ?_
  rintro e w3 ⟨v, Fq, Fh, Fr, Fg, Fo, Ft, Fs, rfl, hown, hdj, hrng, hb⟩
  refine hK _ _ ?_
  clear hK K
  obtain ⟨hbx, hbb⟩ := Bx.new hown hdj hrng hb
  have hon := cw_oneB hown
  have hsz := hb.size
  clear hown hdj hrng hb
  refine wpList_plain rfl (fun K hK => ?_); go_simp; refine hK _ _ ?_; clear hK K
  refine wpList_plain rfl (fun K hK => ?_); go_simp; refine hK _ _ ?_; clear hK K
  refine wpList_plain rfl (fun K hK => ?_); go_simp; refine hK _ _ ?_; clear hK K
  refine wpList_plain rfl (fun K hK => ?_); go_simp; refine hK _ _ ?_; clear hK K
  refine wpList_store_mid rfl _ _ _ rfl w3.heap.size 0 #[.int .i64 c.jobs, .int .i64 c.workers, .int .i64 c.window, .int .i64 c.next, .int .i64 c.reader, v.q, v.h, .int .i64 c.closer, v.r, .int .i64 c.keeper, v.g, .int .i64 c.due, v.o, .int .i64 c.user, v.t, .int .i64 c.room, v.s, .int .i64 c.ops] rfl rfl Bx.there info18 hon ?_
  clear hon
  generalize (w3.alloc _).setCells _ 0 _ = W4 at hbx hbb ⊢
  have KW4 := hide ((unhide KW).on (by have h := hbb; exact h)); have KG := hide hbx; have HB4 := hide ((unhide HB2).trans (hbb.mono (unhide HB2).size))
  have hlow : w1.heap.size < W2.heap.size := (unhide KW).box.lt
  have hz3 := hsz
  clear hbx hbb hsz KW HB2
  go_upto_region 3 with fail
  refine wp_region_list ?_
  refine wpList_load_mid rfl _ _ rfl w3.heap.size 0 rfl [.int .i64 c.jobs, .int .i64 c.workers, .int .i64 c.window, .int .i64 c.next, .int .i64 c.reader, v.q, v.h, .int .i64 c.closer, v.r, .int .i64 c.keeper, v.g, .int .i64 c.due, v.o, .int .i64 c.user, v.t, .int .i64 c.room, v.s, .int .i64 c.ops] dd (unhide KG).range hdu hdr info18 ?_
  refine wpList_load_mid rfl _ _ rfl w1.heap.size 0 rfl [.int .i64 c.jobs, .int .i64 c.workers, .int .i64 c.window, .int .i64 c.next, .int .i64 c.reader, u.q, u.h, .int .i64 c.closer, u.r, .int .i64 c.keeper, u.g, .int .i64 c.due, u.o, .int .i64 c.user, u.t, .int .i64 c.room, u.s, .int .i64 c.ops] dd (unhide KW4).range hdu hdr info18 ?_
  refine wpList_plain rfl (fun K hK => ?_)
  go_simp
  refine ((unhide KG).eq (unhide KW4)).mono ?_
  rintro e w5 ⟨rfl, hb⟩
  refine hK _ _ ?_
  clear hK K
  have KW5 := hide ((unhide KW4).on hb); have KG5 := hide ((unhide KG).on hb); have HB5 := hide ((unhide HB4).trans (hb.mono (unhide HB4).size))
  clear hb KW4 KG HB4
  go_upto_region 6 with fail
  refine wp_region_list ?_
  refine wpList_load_mid rfl _ _ rfl w3.heap.size 0 rfl [.int .i64 c.jobs, .int .i64 c.workers, .int .i64 c.window, .int .i64 c.next, .int .i64 c.reader, v.q, v.h, .int .i64 c.closer, v.r, .int .i64 c.keeper, v.g, .int .i64 c.due, v.o, .int .i64 c.user, v.t, .int .i64 c.room, v.s, .int .i64 c.ops] dd (unhide KG5).range hdu hdr info18 ?_
  refine wpList_plain rfl (fun K hK => ?_); go_simp; refine hK _ _ ?_; clear hK K
  refine wpList_plain rfl (fun K hK => ?_)
  go_simp
  refine ((unhide KG5).mark (unhide HM)).mono ?_
  rintro e w6 ⟨rfl, hk, hx⟩
  refine hK _ _ ?_
  clear hK K
  rw [unhide HMM]
  have KW6 := hide ((unhide KW5).exc hx (fun x hx => by have := ((unhide KG5).rng x hx).1; omega)); have KG6 := hide hk; have HB6 := hide ((unhide HB5).trans (hx.below (unhide HB5).size (fun x hx => by have := ((unhide KG5).rng x hx).1; omega)))
  clear hk hx KW5 KG5 HB5
  go_upto_region 8 with fail
  refine wp_region_list ?_
  refine wpList_load_mid rfl _ _ rfl w3.heap.size 0 rfl [.int .i64 c.jobs, .int .i64 c.workers, .int .i64 c.window, .int .i64 c.next, .int .i64 c.reader, v.q, v.h, .int .i64 c.closer, v.r, .int .i64 c.keeper, v.g, .int .i64 c.due, v.o, .int .i64 c.user, v.t, .int .i64 c.room, v.s, .int .i64 c.ops] dd (unhide KG6).range hdu hdr info18 ?_
  refine wpList_plain rfl (fun K hK => ?_); go_simp; refine hK _ _ ?_; clear hK K
  refine wpList_plain rfl (fun K hK => ?_)
  go_simp
  refine ((unhide KG6).held (unhide HM)).mono ?_
  rintro e w7 ⟨rfl, hb⟩
  refine hK _ _ ?_
  clear hK K
  rw [unhide HMM]
  have KW7 := hide ((unhide KW6).on hb); have KG7 := hide ((unhide KG6).on hb); have HB7 := hide ((unhide HB6).trans (hb.mono (unhide HB6).size))
  clear hb KW6 KG6 HB6
  go_upto_region 13 with fail
  refine wp_region_list ?_
  refine wpList_plain rfl (fun K hK => ?_); go_simp; refine hK _ _ ?_; clear hK K
  refine wpList_plain rfl (fun K hK => ?_); go_simp; refine hK _ _ ?_; clear hK K
  refine wpList_plain rfl (fun K hK => ?_); go_simp; refine hK _ _ ?_; clear hK K
  refine wpList_plain rfl (fun K hK => ?_)
  go_simp
  refine (unhide HIM w7).mono ?_
  rintro e w8 ⟨y, Gq, Gh, Gr, Gg, Go, Gt, Gs, rfl, hown, hdj, hrng, hb⟩
  refine hK _ _ ?_
  clear hK K
  obtain ⟨hbx, hbb⟩ := Bx.new hown hdj hrng hb
  have hon := cw_oneB hown
  have hsz := hb.size
  clear hown hdj hrng hb
  refine wpList_plain rfl (fun K hK => ?_); go_simp; refine hK _ _ ?_; clear hK K
  refine wpList_plain rfl (fun K hK => ?_); go_simp; refine hK _ _ ?_; clear hK K
  refine wpList_plain rfl (fun K hK => ?_); go_simp; refine hK _ _ ?_; clear hK K
  refine wpList_plain rfl (fun K hK => ?_); go_simp; refine hK _ _ ?_; clear hK K
  refine wpList_store_mid rfl _ _ _ rfl w8.heap.size 0 #[.int .i64 c.jobs, .int .i64 c.workers, .int .i64 c.window, .int .i64 c.next, .int .i64 c.reader, y.q, y.h, .int .i64 c.closer, y.r, .int .i64 c.keeper, y.g, .int .i64 c.due, y.o, .int .i64 c.user, y.t, .int .i64 c.room, y.s, .int .i64 c.ops] rfl rfl Bx.there info18 hon ?_
  clear hon
  generalize (w8.alloc _).setCells _ 0 _ = W9 at hbx hbb ⊢
  have KY := hide hbx; have KW9 := hide ((unhide KW7).on hbb); have KG9 := hide ((unhide KG7).on hbb); have HB9 := hide ((unhide HB7).trans (hbb.mono (unhide HB7).size))
  clear hbx hbb hsz KW7 KG7 HB7
  go_upto_region 14 with fail
  refine wp_region_list ?_
  refine wpList_load_mid rfl _ _ rfl w8.heap.size 0 rfl [.int .i64 c.jobs, .int .i64 c.workers, .int .i64 c.window, .int .i64 c.next, .int .i64 c.reader, y.q, y.h, .int .i64 c.closer, y.r, .int .i64 c.keeper, y.g, .int .i64 c.due, y.o, .int .i64 c.user, y.t, .int .i64 c.room, y.s, .int .i64 c.ops] dd (unhide KY).range hdu hdr info18 ?_
  refine wpList_load_mid rfl _ _ rfl w1.heap.size 0 rfl [.int .i64 c.jobs, .int .i64 c.workers, .int .i64 c.window, .int .i64 c.next, .int .i64 c.reader, u.q, u.h, .int .i64 c.closer, u.r, .int .i64 c.keeper, u.g, .int .i64 c.due, u.o, .int .i64 c.user, u.t, .int .i64 c.room, u.s, .int .i64 c.ops] dd (unhide KW9).range hdu hdr info18 ?_
  refine wpList_plain rfl (fun K hK => ?_)
  go_simp
  refine ((unhide KY).eq (unhide KW9)).mono ?_
  rintro e w10 ⟨rfl, hb⟩
  refine hK _ _ ?_
  clear hK K
  have KG10 := hide ((unhide KG9).on hb); have HB10 := hide ((unhide HB9).trans (hb.mono (unhide HB9).size))
  clear hb KW9 KG9 KY HB9
  go_upto_region 17 with fail
  refine wp_region_list ?_
  refine wpList_load_mid rfl _ _ rfl w3.heap.size 0 rfl [.int .i64 c.jobs, .int .i64 c.workers, .int .i64 c.window, .int .i64 c.next, .int .i64 c.reader, v.q, v.h, .int .i64 c.closer, v.r, .int .i64 c.keeper, v.g, .int .i64 c.due, v.o, .int .i64 c.user, v.t, .int .i64 c.room, v.s, .int .i64 c.ops] dd (unhide KG10).range hdu hdr info18 ?_
  refine wpList_plain rfl (fun K hK => ?_); go_simp; refine hK _ _ ?_; clear hK K
  refine wpList_plain rfl (fun K hK => ?_)
  go_simp
  refine ((unhide KG10).held (unhide HM)).mono ?_
  rintro e w11 ⟨rfl, hb⟩
  refine hK _ _ ?_
  clear hK K
  rw [unhide HMM]
  have HB11 := hide ((unhide HB10).trans (hb.mono (unhide HB10).size))
  clear hb KG10 HB10
  go_wp2_with fail
  go_ret
  exact ⟨rfl, unhide HB11⟩
end Go.Proofs.Ytchbialjgcejgaa
