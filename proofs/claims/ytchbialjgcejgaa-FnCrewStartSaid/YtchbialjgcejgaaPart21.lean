/- The walks of the program's world and CrewStart. No conditions. -/
import Derived.Test.YtchbialjgcejgaaPart20
import Derived.Handy
import Derived.Deep.RegionHeld3
import Derived.Test.YtchbialjgcejgaaPart19
import Derived.Test.YtchbialjgcejgaaPart09
import Derived.Test.YtchbialjgcejgaaPart13
import Derived.Test.YtchbialjgcejgaaPart07
import Derived.Test.YtchbialjgcejgaaPart10
import Derived.BigQuiet
import Derived.Laws.StructEq
import Derived.Test.YtchbialjgcejgaaPart01
import Derived.Test.YtchbialjgcejgaaPart00
import Derived.Test.YtchbialjgcejgaaPart11
import Derived.Deep.MidRow
namespace Go.Proofs.Ytchbialjgcejgaa
open Go Go.RowKit

set_option maxRecDepth 100000 in
set_option maxHeartbeats 1600000 in
theorem world_any (C : Nat) (c : Cw) (B : CrB) (w : World) (h : CrAt w C c B) : Calls Try.prog 37 #[.pointer (some ⟨C, 0, none⟩)] w fun e w' => CwVal w w' e c := by
  have HW0 := hide (show WS w (w.alloc (.cells #[.int .i64 0, .int .i64 0, .int .i64 0, .int .i64 0, .int .i64 0, .slice none 0 0, .slice none 0 0, .int .i64 0, .slice none 0 0, .int .i64 0, .slice none 0 0, .int .i64 0, .slice none 0 0, .int .i64 0, .slice none 0 0, .int .i64 0, .slice none 0 0, .int .i64 0] 28)).drew C c B (.bool false) (.bool false) (.bool false) (.bool false) (.bool false) (.bool false) (.bool false) from WS.below (W := w.alloc (.cells #[.int .i64 0, .int .i64 0, .int .i64 0, .int .i64 0, .int .i64 0, .slice none 0 0, .slice none 0 0, .int .i64 0, .slice none 0 0, .int .i64 0, .slice none 0 0, .int .i64 0, .slice none 0 0, .int .i64 0, .slice none 0 0, .int .i64 0, .slice none 0 0, .int .i64 0] 28)) ⟨[], [], [], [], [], [], [], h.below ((Below.refl _ _).alloc (Nat.le_refl _) _), box18 w noCw nil7 28, Or.inl ⟨rfl, rfl⟩, Or.inl ⟨rfl, rfl⟩, Or.inl ⟨rfl, rfl⟩, Or.inl ⟨rfl, rfl⟩, Or.inl ⟨rfl, rfl⟩, Or.inl ⟨rfl, rfl⟩, Or.inl ⟨rfl, rfl⟩, fun b => by simp, fun b m => (by cases m), fun b m => (by cases m), fun b m => (by cases m), fun b m => (by cases m), fun b m => (by cases m), fun b m => (by cases m), fun b m => (by cases m), (Below.refl _ _).alloc (Nat.le_refl _) _⟩ (Below.refl _ _).drew)
  have HCL := hide h.lt
  clear h
  go_enter Try.func37, Try.ntmps37
  go_wp2_with fail
  generalize w.alloc (.cells #[.int .i64 0, .int .i64 0, .int .i64 0, .int .i64 0, .int .i64 0, .slice none 0 0, .slice none 0 0, .int .i64 0, .slice none 0 0, .int .i64 0, .slice none 0 0, .int .i64 0, .slice none 0 0, .int .i64 0, .slice none 0 0, .int .i64 0, .slice none 0 0, .int .i64 0] 28) = W0 at HW0 ⊢
  refine wp_swap (c' := Code.region 1 wOps true) (by kernel_rfl) ?_
  refine wp_region_noPanic ?_
  refine world_region C c B w W0 _ (fun _ _ _ _ _ h => h) (unhide HW0) (unhide HCL) ?_
  rintro a' W' ha hd ⟨cs, hh, hsz, hv⟩
  refine NoPanic.normal ?_
  obtain ⟨d, hd1, hd2⟩ := rowWorld
  have hres := results_cell_row (P := Try.prog) (fn := Try.f37) (by rfl) a'.tmps W' w.heap.size 28 cs (0, 0) _ ha hh Try.underlying28 (by rfl) (by rw [hsz]; exact info18)
  have HR := hide hres; have HV := hide hv
  clear hres hv
  go_wp2_with fail
  exact bodyPost_ret (unhide HR) hd (unhide HV)
theorem stCw_yes {j : Int} {k n : Nat} (h : stOk j k n) : stCw j k n = ncCw j k n := by
  unfold stCw ncCw
  rw [if_pos h]
  rfl
set_option maxRecDepth 100000 in
set_option maxHeartbeats 1600000 in
theorem implCrewStart_no (j k n : Int) (w : World) (hok : ¬ stOk j k n) : Calls Try.prog 11 #[.int .i64 j, .int .i64 k, .int .i64 n] w fun e w' => CwEnd w w' e (stCw j k n) (decide (stOk j k n)) := by
  have HNC := hide (fun W => newCrew_no j k n W hok)
  have HB0 := hide (fun o => (show Below w.heap.size w (w.alloc o) from (Below.refl _ _).alloc (Nat.le_refl _) o))
  have HR6 := hide (box18 w noCw nil7 28)
  go_enter Try.func11, Try.ntmps11
  go_wp2_with fail
  refine (unhide HNC _).mono ?_
  rintro e w1 ⟨rfl, hb1⟩
  have R1 := hide ((unhide HR6).of_block (hb1.block w.heap.size (by simp)))
  have B1 := hide ((unhide HB0 _).trans (hb1.mono (unhide HB0 _).size))
  clear hb1 HR6 HB0
  go_upto_region 3 with fail
  refine wp_region_list ?_
  refine wpList_plain rfl (fun K hK => ?_)
  go_simp
  refine hK _ _ ?_
  clear hK K
  have hrw := unhide R1
  refine wpList_store_mid rfl _ _ _ rfl w.heap.size 0 #[.int .i64 0, .int .i64 0, .int .i64 0, .int .i64 0, .int .i64 0, .slice none 0 0, .slice none 0 0, .int .i64 0, .slice none 0 0, .int .i64 0, .slice none 0 0, .int .i64 0, .slice none 0 0, .int .i64 0, .slice none 0 0, .int .i64 0, .slice none 0 0, .int .i64 0] rfl rfl (there_row hrw) info18 (one18 0 0 0 0 0 0 0 0 0 0 0 nil7 (by simp [nil7, Value.oneCell'])) ?_
  have hr2 := row_all (n := 18) [.int .i64 0, .int .i64 0, .int .i64 0, .int .i64 0, .int .i64 0, .slice none 0 0, .slice none 0 0, .int .i64 0, .slice none 0 0, .int .i64 0, .slice none 0 0, .int .i64 0, .slice none 0 0, .int .i64 0, .slice none 0 0, .int .i64 0, .slice none 0 0, .int .i64 0] rfl hrw
  have hb2 := below_setCells (Nat.le_refl w.heap.size) [.int .i64 0, .int .i64 0, .int .i64 0, .int .i64 0, .int .i64 0, .slice none 0 0, .slice none 0 0, .int .i64 0, .slice none 0 0, .int .i64 0, .slice none 0 0, .int .i64 0, .slice none 0 0, .int .i64 0, .slice none 0 0, .int .i64 0, .slice none 0 0, .int .i64 0] 0 w1 (unhide B1)
  generalize w1.setCells w.heap.size 0 _ = W at hr2 hb2 ⊢
  clear hrw R1 B1
  have HB := hide hb2
  have HNO := hide hok
  clear hb2 hok
  go_wp2_with fail
  exact bodyPost_ret (v := .tuple #[.agg #[.int .i64 0, .int .i64 0, .int .i64 0, .int .i64 0, .int .i64 0, .slice none 0 0, .slice none 0 0, .int .i64 0, .slice none 0 0, .int .i64 0, .slice none 0 0, .int .i64 0, .slice none 0 0, .int .i64 0, .slice none 0 0, .int .i64 0, .slice none 0 0, .int .i64 0], .bool false]) (results18 (by rfl) _ _ w.heap.size [.int .i64 0, .int .i64 0, .int .i64 0, .int .i64 0, .int .i64 0, .slice none 0 0, .slice none 0 0, .int .i64 0, .slice none 0 0, .int .i64 0, .slice none 0 0, .int .i64 0, .slice none 0 0, .int .i64 0, .slice none 0 0, .int .i64 0, .slice none 0 0, .int .i64 0] _ rfl rfl hr2 rfl) rfl (CwEnd.no (unhide HNO) (unhide HB))
theorem flat_one {W : World} {v : Value} {n : Nat} {rs : List (List Value)} {F : List Nat} (h : FlatOwn W v n rs F) : v.oneCell' = true := by
  obtain ⟨a, cap, rfl, -⟩ := h
  rfl
theorem cw_one {W : World} {c : Cw} {v : C7} {Fq Fh Fr Fg Fo Ft Fs : List Nat} (h : CwOwn W c v Fq Fh Fr Fg Fo Ft Fs) : ∀ u, u ∈ [v.q, v.h, v.r, v.g, v.o, v.t, v.s] → u.oneCell' = true := by
  intro u hu
  simp only [List.mem_cons, List.not_mem_nil, or_false] at hu
  rcases hu with rfl | rfl | rfl | rfl | rfl | rfl | rfl
  · exact flat_one h.q
  · exact flat_one h.h
  · exact flat_one h.r
  · exact flat_one h.g
  · exact flat_one h.o
  · exact flat_one h.t
  · exact flat_one h.s
set_option maxRecDepth 100000 in
set_option maxHeartbeats 1600000 in
theorem implCrewStart_yes (j : Int) (k n : Nat) (w : World) (hok : stOk j k n) : Calls Try.prog 11 #[.int .i64 j, .int .i64 k, .int .i64 n] w fun e w' => CwEnd w w' e (stCw j k n) (decide (stOk j k n)) := by
  have HNC := hide (fun W => newCrew_yes j k n W hok)
  have HB0 := hide (fun o => (show Below w.heap.size w (w.alloc o) from (Below.refl _ _).alloc (Nat.le_refl _) o))
  have HR6 := hide (box18 w noCw nil7 28)
  rw [stCw_yes hok, decide_eq_true hok]
  generalize ncCw j k n = c at HNC ⊢
  clear hok
  go_enter Try.func11, Try.ntmps11
  go_wp2_with fail
  refine (unhide HNC _).mono ?_
  rintro e w1 ⟨C, B, rfl, hcr, hbl, hb1⟩
  have R1 := hide ((unhide HR6).of_block (hb1.block w.heap.size (by simp)))
  have B1 := hide ((unhide HB0 _).trans (hb1.mono (unhide HB0 _).size))
  have HCR := hide hcr
  clear hb1 HR6 HB0 HNC hcr hbl
  go_upto_region 4 with fail
  refine wp_region_list ?_
  refine wpList_plain rfl (fun K hK => ?_)
  go_simp
  refine hK _ _ ?_
  clear hK K
  refine wpList_plain rfl (fun K hK => ?_)
  go_simp
  refine (world_any C c B w1 (unhide HCR)).mono ?_
  rintro e w2 ⟨v, Fq, Fh, Fr, Fg, Fo, Ft, Fs, rfl, hown, hdj, hrng, hb2⟩
  refine hK _ _ ?_
  clear hK K
  have hrw := (unhide R1).of_block (hb2.block _ (unhide R1).lt)
  have hbw := (unhide B1).trans (hb2.mono (unhide B1).size)
  have hlt := (unhide R1).lt
  refine wpList_store_mid rfl _ _ _ rfl w.heap.size 0 #[.int .i64 c.jobs, .int .i64 c.workers, .int .i64 c.window, .int .i64 c.next, .int .i64 c.reader, v.q, v.h, .int .i64 c.closer, v.r, .int .i64 c.keeper, v.g, .int .i64 c.due, v.o, .int .i64 c.user, v.t, .int .i64 c.room, v.s, .int .i64 c.ops] rfl rfl (there_row hrw) info18 (one18 _ _ _ _ _ _ _ _ _ _ _ v (cw_one hown)) ?_
  have hr3 := row_all (n := 18) [.int .i64 c.jobs, .int .i64 c.workers, .int .i64 c.window, .int .i64 c.next, .int .i64 c.reader, v.q, v.h, .int .i64 c.closer, v.r, .int .i64 c.keeper, v.g, .int .i64 c.due, v.o, .int .i64 c.user, v.t, .int .i64 c.room, v.s, .int .i64 c.ops] rfl hrw
  have hb3 := below_setCells (Nat.le_refl w.heap.size) [.int .i64 c.jobs, .int .i64 c.workers, .int .i64 c.window, .int .i64 c.next, .int .i64 c.reader, v.q, v.h, .int .i64 c.closer, v.r, .int .i64 c.keeper, v.g, .int .i64 c.due, v.o, .int .i64 c.user, v.t, .int .i64 c.room, v.s, .int .i64 c.ops] 0 w2 hbw
  have ho3 := hown.carry (w' := w2.setCells w.heap.size 0 [.int .i64 c.jobs, .int .i64 c.workers, .int .i64 c.window, .int .i64 c.next, .int .i64 c.reader, v.q, v.h, .int .i64 c.closer, v.r, .int .i64 c.keeper, v.g, .int .i64 c.due, v.o, .int .i64 c.user, v.t, .int .i64 c.room, v.s, .int .i64 c.ops]) (fun b hb => heap_setCells _ _ _ _ (by have := (hrng b hb).1; omega))
  have hs3 : ∀ b, b ∈ F7 Fq Fh Fr Fg Fo Ft Fs → w.heap.size ≤ b ∧ b < (w2.setCells w.heap.size 0 [.int .i64 c.jobs, .int .i64 c.workers, .int .i64 c.window, .int .i64 c.next, .int .i64 c.reader, v.q, v.h, .int .i64 c.closer, v.r, .int .i64 c.keeper, v.g, .int .i64 c.due, v.o, .int .i64 c.user, v.t, .int .i64 c.room, v.s, .int .i64 c.ops]).heap.size := fun b hb => by
    rw [size_setCells]
    exact ⟨by have := (hrng b hb).1; omega, (hrng b hb).2⟩
  generalize w2.setCells w.heap.size 0 _ = W at hr3 hb3 ho3 hs3 ⊢
  clear hrw hbw hown hrng hb2 R1 B1
  have HB := hide hb3; have HO := hide ho3; have HS := hide hs3; have HD := hide hdj
  clear hb3 ho3 hs3 hdj
  go_wp2_with fail
  exact bodyPost_ret (v := .tuple #[.agg #[.int .i64 c.jobs, .int .i64 c.workers, .int .i64 c.window, .int .i64 c.next, .int .i64 c.reader, v.q, v.h, .int .i64 c.closer, v.r, .int .i64 c.keeper, v.g, .int .i64 c.due, v.o, .int .i64 c.user, v.t, .int .i64 c.room, v.s, .int .i64 c.ops], .bool true]) (results18 (by rfl) _ _ w.heap.size [.int .i64 c.jobs, .int .i64 c.workers, .int .i64 c.window, .int .i64 c.next, .int .i64 c.reader, v.q, v.h, .int .i64 c.closer, v.r, .int .i64 c.keeper, v.g, .int .i64 c.due, v.o, .int .i64 c.user, v.t, .int .i64 c.room, v.s, .int .i64 c.ops] _ rfl rfl hr3 rfl) rfl ⟨v, _, _, _, _, _, _, _, rfl, unhide HO, unhide HD, unhide HS, unhide HB⟩
theorem implCrewStart_any (j k n : Int) (w : World) : Calls Try.prog 11 #[.int .i64 j, .int .i64 k, .int .i64 n] w fun e w' => CwEnd w w' e (stCw j k n) (decide (stOk j k n)) := by
  by_cases hok : stOk j k n
  · obtain ⟨k', rfl⟩ : ∃ m : Nat, k = m := ⟨k.toNat, by have := hok.2.1.1; omega⟩
    obtain ⟨n', rfl⟩ : ∃ m : Nat, n = m := ⟨n.toNat, by have := hok.2.2.1; omega⟩
    exact implCrewStart_yes j k' n' w hok
  · exact implCrewStart_no j k n w hok
theorem specCrewStart_any (j k n : Int) (w : World) : Calls Try.prog 10 #[.int .i64 j, .int .i64 k, .int .i64 n] w fun e w' => CwEnd w w' e (stCw j k n) (decide (stOk j k n)) := by
  by_cases hok : stOk j k n
  · obtain ⟨k', rfl⟩ : ∃ m : Nat, k = m := ⟨k.toNat, by have := hok.2.1.1; omega⟩
    obtain ⟨n', rfl⟩ : ∃ m : Nat, n = m := ⟨n.toNat, by have := hok.2.2.1; omega⟩
    exact specCrewStart_yes j k' n' w hok
  · exact specCrewStart_no j k n w hok
end Go.Proofs.Ytchbialjgcejgaa

/- At its beginning a world is ok, and what is left in it is known; where there is no beginning it is not. Plain data. No conditions. -/

namespace Go.Proofs.Ytchbialjgcejgaa
open Go Go.RowKit

theorem nc_busy (k : Nat) : (List.replicate k (⟨0, 0⟩ : Hd)).filter busyH = [] := by
  rw [List.filter_eq_nil_iff]
  intro a ha
  rw [(List.mem_replicate.1 ha).2]
  decide
theorem nc_any (k : Nat) : anyE (List.replicate k (⟨0, 0⟩ : Hd)) = false := by
  unfold anyE
  rw [List.any_eq_false]
  intro a ha
  rw [(List.mem_replicate.1 ha).2]
  decide
theorem nc_sumH (k : Nat) : sumH (List.replicate k (⟨0, 0⟩ : Hd)) = k := by
  unfold sumH
  induction k with
  | zero => rfl
  | succ k ih => rw [List.replicate_succ, List.map_cons, List.sum_cons, ih]; simp [wkL]; omega
theorem nc_sumG (n : Nat) : sumG (List.replicate n (-1)) = 0 := by
  unfold sumG
  induction n with
  | zero => rfl
  | succ k ih => rw [List.replicate_succ, List.map_cons, List.sum_cons, ih]; simp
theorem nc_ring (n : Nat) : (List.replicate n (-1 : Int)).filter (fun z => decide (0 ≤ z)) = [] := by
  rw [List.filter_eq_nil_iff]
  intro a ha
  rw [(List.mem_replicate.1 ha).2]
  decide
theorem nc_places (j : Int) (k n : Nat) : placesL (ncCw j k n) = [] := by
  unfold placesL ncCw
  simp only [nc_busy, nc_ring]
  rfl
theorem nc_form {j : Int} {k n : Nat} (h : stOk j k n) : Form (ncCw j k n) := by
  obtain ⟨⟨a1, a2⟩, ⟨a3, a4⟩, ⟨a5, a6⟩⟩ := h
  refine ⟨⟨⟨a1, a2⟩, ⟨a3, a4⟩, ⟨a5, a6⟩⟩, ⟨by simp [ncCw], by simpa [ncCw] using a1⟩, ⟨by simp [ncCw], by simp [ncCw]⟩, ⟨by simp [ncCw], by simp [ncCw]⟩, ⟨by simp [ncCw], by simp [ncCw]⟩, by simp [ncCw], by simp [ncCw], rfl, by simp [ncCw], by simp [ncCw], by simp [ncCw], ?_, ?_, ⟨by simp [ncCw], by simp [ncCw]⟩, ⟨by simp [ncCw], by simp [ncCw]⟩, ⟨by simp [ncCw], by simp [ncCw]⟩, ⟨by simp [ncCw], by simp [ncCw]⟩⟩
  · intro z hz
    simp only [ncCw, List.mem_cons, List.not_mem_nil, or_false, or_self] at hz
    omega
  · intro x hx
    rw [(List.mem_replicate.1 hx).2]
    exact ⟨⟨by simp, by simp⟩, fun _ => rfl⟩
theorem nc_left (j : Int) (k n : Nat) : leftZ (ncCw j k n) = 11 * j + k + 6 := by
  unfold leftZ ncCw
  simp only [nc_sumH, nc_sumG, rdL, kpL, List.length_nil]
  simp
  omega
theorem nc_ok {j : Int} {k n : Nat} (h : stOk j k n) : okS (ncCw j k n) := by
  have hF := nc_form h
  obtain ⟨⟨a1, a2⟩, ⟨a3, a4⟩, ⟨a5, a6⟩⟩ := h
  refine ⟨(formS_iff _).2 ⟨hF, by simpa [ncCw] using a1⟩, ⟨?_, ?_, ?_, ?_, ?_, ?_⟩, ?_, ?_⟩
  · rw [nc_places]; intro i hi; cases hi
  · rw [nc_places]; intro i j hi; cases hi
  · rw [nc_places]; intro _; simp [ncCw]
  · intro i hi
    have : (ncCw j k n).ring[i] = -1 := by simp [ncCw]
    rw [this]
    exact ⟨by omega, fun h0 => by omega⟩
  · intro i hi; cases hi
  · refine ⟨by simp [ncCw], Or.inl rfl, by simp [ncCw, backZ]⟩
  · have hn : 0 < n := by omega
    have hd : dueIn (ncCw j k n) = false := by
      unfold dueIn dueAt ncCw
      simp only [List.length_replicate]
      rw [List.getD_eq_getElem?_getD, List.getElem?_replicate]
      simp [hn]
    unfold endsB e1 e2 e3 e4 e5 e6 e7 e8 e9 eK
    rw [hd]
    have ha : anyE (ncCw j k n).hands = false := nc_any k
    rw [ha]
    simp [ncCw, shZ, stpB, dnB]
  · rw [nc_left]
    simp only [ncCw]
    omega
theorem no_ok {j k n : Int} (h : ¬ stOk j k n) : ¬ okS (stCw j k n) := by
  intro ho
  have hs := ho.1.1.1
  unfold stCw at hs
  rw [if_neg h] at hs
  obtain ⟨-, ⟨a3, -⟩, -⟩ := hs
  simp [noCw] at a3
theorem nc_ended (j : Int) (k n : Nat) : ¬ endedS (ncCw j k n) := fun h => by
  have := h.2.1
  simp [ncCw] at this
end Go.Proofs.Ytchbialjgcejgaa

/- The walks of the law's own lwInts, lwWorld: two worlds that are the same. No conditions. -/

namespace Go.Proofs.Ytchbialjgcejgaa
open Go Go.RowKit

set_option maxRecDepth 100000 in
set_option maxHeartbeats 1600000 in
theorem lwInts_any (a a2 : Option Addr) (n cap cap2 : Nat) (zs : List Int) (w : World) {P Q : Nat → Prop} (hn : n = zs.length) (h : ZAt P w (.slice a n cap) zs) (h2 : ZAt Q w (.slice a2 n cap2) zs) : Calls Try.prog 38 #[.slice a n cap, .slice a2 n cap2] w fun e w' => e = .returned (.bool true) ∧ Below w.heap.size w w' := by
  subst hn
  obtain ⟨a', c', e, hl, hc⟩ := h.open
  simp only [Value.slice.injEq] at e
  obtain ⟨rfl, -, rfl⟩ := e
  obtain ⟨a', c', e, -, hc2⟩ := h2.open
  simp only [Value.slice.injEq] at e
  obtain ⟨rfl, -, rfl⟩ := e
  have HC := hide hc; have HC2 := hide hc2
  clear h h2 hc hc2
  have hne : ((zs.length : Int) != (zs.length : Int)) = false := by simp
  go_enter Try.func38, Try.ntmps38
  go_wp2_with fail
  clear hne
  go_loopw [5] (fun i wr => ∃ (k m : Nat), k ≤ zs.length ∧ i = .int .i64 k ∧ wr = w.drewN m) (fun i _ => zs.length - (intOf i).toNat)
  case atStart => exact ⟨0, 0, Nat.zero_le _, rfl, rfl⟩
  case round =>
    obtain ⟨k, m, hk, rfl, hwr⟩ := hrel
    subst hwr
    by_cases hlt : k < zs.length
    · obtain ⟨b, o, rfl, -, e0⟩ := unhide HC k hlt
      obtain ⟨b2, o2, rfl, -, e2⟩ := unhide HC2 k hlt
      have f0 : ∀ j, (w.drewN j).cell? ⟨b, o + k, none⟩ = some (.int .i64 zs[k]) := fun _ => e0
      have f2 : ∀ j, (w.drewN j).cell? ⟨b2, o2 + k, none⟩ = some (.int .i64 zs[k]) := fun _ => e2
      clear e0 e2
      generalize zs[k] = z at *
      have hz : (z != z) = false := by simp
      go_wp2_with fail
      go_quiet (fail)
      go_wp2_with fail
      go_roundw
      case rel => exact ⟨k + 1, _, by omega, by go_num, by first | rfl | trivial⟩
      case measure => simp [intOf]; omega
    · obtain rfl : k = zs.length := by omega
      go_wp2_with fail
      go_ret
      exact ⟨rfl, below_drewN w m⟩
end Go.Proofs.Ytchbialjgcejgaa

/- Two hands that are the same, held against one another. No conditions. -/

namespace Go.Proofs.Ytchbialjgcejgaa
open Go Go.RowKit

theorem fieldsHand : Try.prog.underlying 60 = some (.struct (Try.prog.fieldsOf 60)) := by kernel_rfl
theorem heldHand : Try.prog.stoodInHeld 60 = false := by kernel_rfl
theorem guardHand : Try.prog.eqGuardType Try.prog.depth 60 = false := by kernel_rfl
theorem listHand : (Try.prog.fieldsOf 60).toList.map (fun f => (f.name == "_", f.type, f.offset)) = [(false, 3, 0), (false, 3, 1)] := by kernel_rfl
theorem gHand (x y : Operand) (s j s2 j2 : Int) (w : World) : (eqGuard .neq 60 x y (.agg #[.int .i64 s, .int .i64 j]) (.agg #[.int .i64 s2, .int .i64 j2])).run Try.prog w = .ok () w := run_eqGuard_agg w .neq _ x y _ _ guardHand
theorem partHand (i : Nat) (s j : Int) (hi : i < 2) (w : World) : (part 3 #[.int .i64 s, .int .i64 j] i).run Try.prog w = .ok (.int .i64 (if i = 0 then s else j)) w := by
  rcases (show i = 0 ∨ i = 1 by omega) with rfl | rfl <;> kernel_rfl
theorem nHand (s j : Int) (w : World) : (binOp .neq 60 (.agg #[.int .i64 s, .int .i64 j]) (.agg #[.int .i64 s, .int .i64 j])).run Try.prog w = .ok (.bool false) w := by
  rw [run_neq_struct, run_equalIn_agg w 9999 _ _ _ fieldsHand heldHand]
  have hl := listHand
  generalize (Try.prog.fieldsOf 60).toList = fs at hl
  have hlen : fs.length = 2 := by have := congrArg List.length hl; simpa using this
  match fs, hlen with
  | [f0, f1], _ =>
    simp only [List.map_cons, List.map_nil, List.cons.injEq, Prod.mk.injEq, beq_eq_false_iff_ne, and_true] at hl
    obtain ⟨⟨n0, t0, o0⟩, n1, t1, o1⟩ := hl
    have e : ∀ (z : Int) (W : World), (Op.equalIn 9999 3 (.int .i64 z) (.int .i64 z)).run Try.prog W = .ok true W := fun z W => by
      have := run_equalIn_int (P := Try.prog) W 9998 3 .i64 .i64 z z Try.underlying3
      simpa using this
    simp only [Op.eqFields, n0, n1, t0, t1, o0, o1, ne_eq, not_false_eq_true, if_true, Sem.run_bind, partHand _ _ _ (by omega : 0 < 2), partHand _ _ _ (by omega : 1 < 2), Result.andThen_ok, e, Bool.not_true, Bool.false_eq_true, if_false, Sem.run_pure]
end Go.Proofs.Ytchbialjgcejgaa

/- The walks of toKind, toKindS: they make a new copy of a schema, and turn nothing that was there. No conditions but the schema's weight, at most 2^20. -/

namespace Go.Proofs.Ytchbialjgcejgaa
open Go Go.RowKit

/-- The three zero cells of a schema. -/
def z3 : Array Value := #[.int .i64 0, .slice none 0 0, .slice none 0 0]

end Go.Proofs.Ytchbialjgcejgaa

/- The walks of the law's toDiskFile, toDiskFileS, toDiskMove, toDiskMoveS, toDisk: they make a new copy of a disk, and turn nothing that was there. No conditions but the disk's weight, at most 2^20. -/

namespace Go.Proofs.Ytchbialjgcejgaa
open Go Go.RowKit

end Go.Proofs.Ytchbialjgcejgaa

/- The walks of the law's own functions on a world that comes in: szCrewWorld, toCrewWorld. Conditions: the weight, at most 2^20. -/

namespace Go.Proofs.Ytchbialjgcejgaa
open Go Go.RowKit

end Go.Proofs.Ytchbialjgcejgaa

/- The walk of the law's own toCrewWorld. Conditions: the weight, at most 2^20. -/

namespace Go.Proofs.Ytchbialjgcejgaa
open Go Go.RowKit

end Go.Proofs.Ytchbialjgcejgaa

/- A world in a box, whoever laid it. No program walked. No conditions. -/

namespace Go.Proofs.Ytchbialjgcejgaa
open Go Go.RowKit

structure Bc (T : TypeId) (P : Nat → Prop) (b : Nat) (c : Cw) (A : A7) (W : World) : Prop where
  row : W.rowIs b T 18 (r18 [.int .i64 c.jobs, .int .i64 c.workers, .int .i64 c.window, .int .i64 c.next, .int .i64 c.reader, .slice A.q c.queue.length A.pq, .slice A.h c.hands.length A.ph, .int .i64 c.closer, .slice A.r c.results.length A.pr, .int .i64 c.keeper, .slice A.g c.ring.length A.pg, .int .i64 c.due, .slice A.o c.out.length A.po, .int .i64 c.user, .slice A.t c.got.length A.pt, .int .i64 c.room, .slice A.s c.shut.length A.ps, .int .i64 c.ops])
  at' : CwAt P W c (A.v c)
  lt : ∀ x, P x → x < W.heap.size
theorem Bc.on {T : TypeId} {P : Nat → Prop} {b : Nat} {c : Cw} {A : A7} {W W' : World} (h : Bc T P b c A W) (hb : Below W.heap.size W W') : Bc T P b c A W' :=
  ⟨h.row.of_block (hb.block _ h.row.lt), h.at'.carry (fun x hx => hb.block x (h.lt x hx)) (fun _ h => h), fun x hx => Nat.lt_of_lt_of_le (h.lt x hx) hb.size⟩
theorem Bc.range {T : TypeId} {P : Nat → Prop} {b : Nat} {c : Cw} {A : A7} {W : World} (h : Bc T P b c A W) : W.rangeAt b 0 [.int .i64 c.jobs, .int .i64 c.workers, .int .i64 c.window, .int .i64 c.next, .int .i64 c.reader, .slice A.q c.queue.length A.pq, .slice A.h c.hands.length A.ph, .int .i64 c.closer, .slice A.r c.results.length A.pr, .int .i64 c.keeper, .slice A.g c.ring.length A.pg, .int .i64 c.due, .slice A.o c.out.length A.po, .int .i64 c.user, .slice A.t c.got.length A.pt, .int .i64 c.room, .slice A.s c.shut.length A.ps, .int .i64 c.ops] := range_row [.int .i64 c.jobs, .int .i64 c.workers, .int .i64 c.window, .int .i64 c.next, .int .i64 c.reader, .slice A.q c.queue.length A.pq, .slice A.h c.hands.length A.ph, .int .i64 c.closer, .slice A.r c.results.length A.pr, .int .i64 c.keeper, .slice A.g c.ring.length A.pg, .int .i64 c.due, .slice A.o c.out.length A.po, .int .i64 c.user, .slice A.t c.got.length A.pt, .int .i64 c.room, .slice A.s c.shut.length A.ps, .int .i64 c.ops] rfl h.row
end Go.Proofs.Ytchbialjgcejgaa
