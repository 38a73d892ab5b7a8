/- The walk of the law on CrewStart's beginning (P56): whatever bytes come in, it answers true, and turns nothing that was there. No conditions. -/
import Derived.Test.YtchbialjgcejgaaPart09
import Derived.Test.YtchbialjgcejgaaPart21
import Derived.Test.YtchbialjgcejgaaPart22
import Derived.Test.YtchbialjgcejgaaRows
import Derived.Test.YtchbialjgcejgaaPart00
import Derived.ProofKit
import Derived.OpenShut
namespace Go.Proofs.Ytchbialjgcejgaa
open Go Go.RowKit

theorem stCw_nc {j : Int} {k n : Nat} (h : stOk j k n) : stCw j k n = ncCw j k n := stCw_yes h
set_option maxRecDepth 100000 in
set_option maxHeartbeats 12800000 in
theorem lawStartP_any (w : World) (a : Option Addr) (cap : Nat) (l : List UInt8) (hv : BytesAt w (.slice a l.length cap) l) (hcap : l.length ≤ cap) (hlen : l.length ≤ 9223372036854775807) : Calls Try.prog 3 #[.slice a l.length cap] w fun e w' => e = .returned (.bool true) ∧ Below w.heap.size w w' := by
  obtain ⟨dI, hdIu, hdIr⟩ := rowWorld
  by_cases hbig : (1048576 : Int) < (l.length : Int)
  · have q : decide ((1048576 : Int) < (l.length : Int)) = true := decide_eq_true hbig
    have q2 : decide (1048576 < l.length) = true := by simp; omega
    clear hbig
    go_enter Try.func3, Try.ntmps3
    go_wp2_with fail
    go_ret
    exact ⟨rfl, Below.refl _ _⟩
  have q : decide ((1048576 : Int) < (l.length : Int)) = false := decide_eq_false hbig
  have q2 : decide (1048576 < l.length) = false := by simp; omega
  have HDR := hide (drawCrewStart_any w a cap l hv hcap)
  clear hbig hv hcap
  go_enter Try.func3, Try.ntmps3
  go_wp2_with fail
  refine (unhide HDR).mono ?_
  rintro e W1 ⟨⟨j, k, n, rfl⟩, hb1⟩
  have HBW1 := hide hb1
  clear hb1 HDR q q2 hlen
  have HSP := hide (fun W => specCrewStart_any j k n W); have HIM := hide (fun W => implCrewStart_any j k n W)
  obtain ⟨c, hc⟩ : ∃ c, c = stCw j k n := ⟨_, rfl⟩
  have HCC := hide hc
  rw [← hc] at HSP HIM
  clear hc
  by_cases hst : stOk j k n
  case neg =>
    rw [decide_eq_false hst] at HSP HIM
    have HNO := hide (show ¬ okS c from by rw [unhide HCC]; exact no_ok hst)
    clear hst HCC
    go_upto_region 4 with fail
    refine wp_region_list ?_
    refine wpList_plain rfl (fun K hK => ?_); go_simp; refine hK _ _ ?_; clear hK K
    refine wpList_plain rfl (fun K hK => ?_); go_simp; refine hK _ _ ?_; clear hK K
    refine wpList_plain rfl (fun K hK => ?_); go_simp; refine hK _ _ ?_; clear hK K
    refine wpList_plain rfl (fun K hK => ?_)
    go_simp
    refine (unhide HSP W1).mono ?_
    rintro e wz ⟨u, Fq, Fh, Fr, Fg, Fo, Ft, Fs, rfl, hown, hdj, hrng, hb⟩
    obtain ⟨X, hU⟩ := hown.at.addr
    subst hU
    dsimp only [A7.v] at hK ⊢
    refine hK _ _ ?_
    clear hK K
    have hat := hown.at
    have hlt : ∀ b, b ∈ F7 Fq Fh Fr Fg Fo Ft Fs → b < wz.heap.size := fun b hm => (hrng b hm).2
    clear hdj hrng hown
    refine wpList_plain rfl (fun K hK => ?_); go_simp; refine hK _ _ ?_; clear hK K
    refine wpList_plain rfl (fun K hK => ?_); go_simp; refine hK _ _ ?_; clear hK K
    refine wpList_plain rfl (fun K hK => ?_); go_simp; refine hK _ _ ?_; clear hK K
    refine wpList_plain rfl (fun K hK => ?_); go_simp; refine hK _ _ ?_; clear hK K
    have hz : (wz.alloc (.cells #[.int .i64 0, .int .i64 0, .int .i64 0, .int .i64 0, .int .i64 0, .slice none 0 0, .slice none 0 0, .int .i64 0, .slice none 0 0, .int .i64 0, .slice none 0 0, .int .i64 0, .slice none 0 0, .int .i64 0, .slice none 0 0, .int .i64 0, .slice none 0 0, .int .i64 0] 28)).rowIs wz.heap.size 28 18 (r18 [.int .i64 0, .int .i64 0, .int .i64 0, .int .i64 0, .int .i64 0, .slice none 0 0, .slice none 0 0, .int .i64 0, .slice none 0 0, .int .i64 0, .slice none 0 0, .int .i64 0, .slice none 0 0, .int .i64 0, .slice none 0 0, .int .i64 0, .slice none 0 0, .int .i64 0]) := box18 wz noCw nil7 28
    have hba : Below wz.heap.size wz (wz.alloc (.cells #[.int .i64 0, .int .i64 0, .int .i64 0, .int .i64 0, .int .i64 0, .slice none 0 0, .slice none 0 0, .int .i64 0, .slice none 0 0, .int .i64 0, .slice none 0 0, .int .i64 0, .slice none 0 0, .int .i64 0, .slice none 0 0, .int .i64 0, .slice none 0 0, .int .i64 0] 28)) := (Below.refl _ _).alloc (Nat.le_refl _) _
    refine wpList_store_mid rfl _ _ _ rfl wz.heap.size 0 #[.int .i64 c.jobs, .int .i64 c.workers, .int .i64 c.window, .int .i64 c.next, .int .i64 c.reader, .slice X.q c.queue.length X.pq, .slice X.h c.hands.length X.ph, .int .i64 c.closer, .slice X.r c.results.length X.pr, .int .i64 c.keeper, .slice X.g c.ring.length X.pg, .int .i64 c.due, .slice X.o c.out.length X.po, .int .i64 c.user, .slice X.t c.got.length X.pt, .int .i64 c.room, .slice X.s c.shut.length X.ps, .int .i64 c.ops] rfl rfl (there_row hz) info18 (one18 _ _ _ _ _ _ _ _ _ _ _ (A7.v X c) (by simp [A7.v, Value.oneCell'])) ?_
    have hrw := row_all (n := 18) [.int .i64 c.jobs, .int .i64 c.workers, .int .i64 c.window, .int .i64 c.next, .int .i64 c.reader, .slice X.q c.queue.length X.pq, .slice X.h c.hands.length X.ph, .int .i64 c.closer, .slice X.r c.results.length X.pr, .int .i64 c.keeper, .slice X.g c.ring.length X.pg, .int .i64 c.due, .slice X.o c.out.length X.po, .int .i64 c.user, .slice X.t c.got.length X.pt, .int .i64 c.room, .slice X.s c.shut.length X.ps, .int .i64 c.ops] rfl hz
    have hbb := below_setCells (Nat.le_refl wz.heap.size) [.int .i64 c.jobs, .int .i64 c.workers, .int .i64 c.window, .int .i64 c.next, .int .i64 c.reader, .slice X.q c.queue.length X.pq, .slice X.h c.hands.length X.ph, .int .i64 c.closer, .slice X.r c.results.length X.pr, .int .i64 c.keeper, .slice X.g c.ring.length X.pg, .int .i64 c.due, .slice X.o c.out.length X.po, .int .i64 c.user, .slice X.t c.got.length X.pt, .int .i64 c.room, .slice X.s c.shut.length X.ps, .int .i64 c.ops] 0 _ hba
    have hbz := hb.trans (hbb.mono hb.size)
    have HXX := hide (show Bc 28 (· ∈ F7 Fq Fh Fr Fg Fo Ft Fs) wz.heap.size c X _ from ⟨hrw, hat.carry (fun b hb => hbb.block b (hlt b hb)) (fun _ h => h), fun b hb => Nat.lt_of_lt_of_le (hlt b hb) hbb.size⟩)
    have HBW2 := hide ((unhide HBW1).trans (hbz.mono (unhide HBW1).size))
    clear hz hba hrw hbb hat hlt hb hbz HBW1
    generalize (wz.alloc _).setCells _ 0 _ = W2 at HXX HBW2 ⊢
    generalize wz.heap.size = b6 at HXX ⊢
    generalize (· ∈ F7 Fq Fh Fr Fg Fo Ft Fs) = PX at HXX
    go_upto_region 5 with fail
    refine wp_region_list ?_
    refine wpList_plain rfl (fun K hK => ?_); go_simp; refine hK _ _ ?_; clear hK K
    refine wpList_plain rfl (fun K hK => ?_); go_simp; refine hK _ _ ?_; clear hK K
    refine wpList_plain rfl (fun K hK => ?_); go_simp; refine hK _ _ ?_; clear hK K
    refine wpList_plain rfl (fun K hK => ?_)
    go_simp
    refine (unhide HIM W2).mono ?_
    rintro e wz ⟨u, Fq, Fh, Fr, Fg, Fo, Ft, Fs, rfl, hown, hdj, hrng, hb⟩
    obtain ⟨Y, hU⟩ := hown.at.addr
    subst hU
    dsimp only [A7.v] at hK ⊢
    refine hK _ _ ?_
    clear hK K
    have hat := hown.at
    have hlt : ∀ b, b ∈ F7 Fq Fh Fr Fg Fo Ft Fs → b < wz.heap.size := fun b hm => (hrng b hm).2
    clear hdj hrng hown
    refine wpList_plain rfl (fun K hK => ?_); go_simp; refine hK _ _ ?_; clear hK K
    refine wpList_plain rfl (fun K hK => ?_); go_simp; refine hK _ _ ?_; clear hK K
    refine wpList_plain rfl (fun K hK => ?_); go_simp; refine hK _ _ ?_; clear hK K
    refine wpList_plain rfl (fun K hK => ?_); go_simp; refine hK _ _ ?_; clear hK K
    have hz : (wz.alloc (.cells #[.int .i64 0, .int .i64 0, .int .i64 0, .int .i64 0, .int .i64 0, .slice none 0 0, .slice none 0 0, .int .i64 0, .slice none 0 0, .int .i64 0, .slice none 0 0, .int .i64 0, .slice none 0 0, .int .i64 0, .slice none 0 0, .int .i64 0, .slice none 0 0, .int .i64 0] 28)).rowIs wz.heap.size 28 18 (r18 [.int .i64 0, .int .i64 0, .int .i64 0, .int .i64 0, .int .i64 0, .slice none 0 0, .slice none 0 0, .int .i64 0, .slice none 0 0, .int .i64 0, .slice none 0 0, .int .i64 0, .slice none 0 0, .int .i64 0, .slice none 0 0, .int .i64 0, .slice none 0 0, .int .i64 0]) := box18 wz noCw nil7 28
    have hba : Below wz.heap.size wz (wz.alloc (.cells #[.int .i64 0, .int .i64 0, .int .i64 0, .int .i64 0, .int .i64 0, .slice none 0 0, .slice none 0 0, .int .i64 0, .slice none 0 0, .int .i64 0, .slice none 0 0, .int .i64 0, .slice none 0 0, .int .i64 0, .slice none 0 0, .int .i64 0, .slice none 0 0, .int .i64 0] 28)) := (Below.refl _ _).alloc (Nat.le_refl _) _
    refine wpList_store_mid rfl _ _ _ rfl wz.heap.size 0 #[.int .i64 c.jobs, .int .i64 c.workers, .int .i64 c.window, .int .i64 c.next, .int .i64 c.reader, .slice Y.q c.queue.length Y.pq, .slice Y.h c.hands.length Y.ph, .int .i64 c.closer, .slice Y.r c.results.length Y.pr, .int .i64 c.keeper, .slice Y.g c.ring.length Y.pg, .int .i64 c.due, .slice Y.o c.out.length Y.po, .int .i64 c.user, .slice Y.t c.got.length Y.pt, .int .i64 c.room, .slice Y.s c.shut.length Y.ps, .int .i64 c.ops] rfl rfl (there_row hz) info18 (one18 _ _ _ _ _ _ _ _ _ _ _ (A7.v Y c) (by simp [A7.v, Value.oneCell'])) ?_
    have hrw := row_all (n := 18) [.int .i64 c.jobs, .int .i64 c.workers, .int .i64 c.window, .int .i64 c.next, .int .i64 c.reader, .slice Y.q c.queue.length Y.pq, .slice Y.h c.hands.length Y.ph, .int .i64 c.closer, .slice Y.r c.results.length Y.pr, .int .i64 c.keeper, .slice Y.g c.ring.length Y.pg, .int .i64 c.due, .slice Y.o c.out.length Y.po, .int .i64 c.user, .slice Y.t c.got.length Y.pt, .int .i64 c.room, .slice Y.s c.shut.length Y.ps, .int .i64 c.ops] rfl hz
    have hbb := below_setCells (Nat.le_refl wz.heap.size) [.int .i64 c.jobs, .int .i64 c.workers, .int .i64 c.window, .int .i64 c.next, .int .i64 c.reader, .slice Y.q c.queue.length Y.pq, .slice Y.h c.hands.length Y.ph, .int .i64 c.closer, .slice Y.r c.results.length Y.pr, .int .i64 c.keeper, .slice Y.g c.ring.length Y.pg, .int .i64 c.due, .slice Y.o c.out.length Y.po, .int .i64 c.user, .slice Y.t c.got.length Y.pt, .int .i64 c.room, .slice Y.s c.shut.length Y.ps, .int .i64 c.ops] 0 _ hba
    have hbz := hb.trans (hbb.mono hb.size)
    have HXY := hide (show Bc 28 (· ∈ F7 Fq Fh Fr Fg Fo Ft Fs) wz.heap.size c Y _ from ⟨hrw, hat.carry (fun b hb => hbb.block b (hlt b hb)) (fun _ h => h), fun b hb => Nat.lt_of_lt_of_le (hlt b hb) hbb.size⟩)
    have HBW3 := hide ((unhide HBW2).trans (hbz.mono (unhide HBW2).size))
    have HXXn := hide ((unhide HXX).on hbz)
    clear hz hba hrw hbb hat hlt hb hbz HBW2 HXX
    generalize (wz.alloc _).setCells _ 0 _ = W3 at HXY HBW3 HXXn ⊢
    generalize wz.heap.size = b8 at HXY ⊢
    generalize (· ∈ F7 Fq Fh Fr Fg Fo Ft Fs) = PY at HXY
    go_upto_region 6 with fail
    refine wp_region_list ?_
    refine wpList_plain rfl (fun K hK => ?_); go_simp; refine hK _ _ ?_; clear hK K
    refine wpList_plain rfl (fun K hK => ?_); go_simp; refine hK _ _ ?_; clear hK K
    refine wpList_plain rfl (fun K hK => ?_); go_simp; refine hK _ _ ?_; clear hK K
    refine wpList_plain rfl (fun K hK => ?_); go_simp; refine hK _ _ ?_; clear hK K
    refine wpList_want (by kernel_rfl) (fun K hK => wp_load_mid _ _ rfl b8 0 rfl [.int .i64 c.jobs, .int .i64 c.workers, .int .i64 c.window, .int .i64 c.next, .int .i64 c.reader, .slice Y.q c.queue.length Y.pq, .slice Y.h c.hands.length Y.ph, .int .i64 c.closer, .slice Y.r c.results.length Y.pr, .int .i64 c.keeper, .slice Y.g c.ring.length Y.pg, .int .i64 c.due, .slice Y.o c.out.length Y.po, .int .i64 c.user, .slice Y.t c.got.length Y.pt, .int .i64 c.room, .slice Y.s c.shut.length Y.ps, .int .i64 c.ops] dI (unhide HXY).range hdIu hdIr info18 (hK _ _ ?_))
    refine wpList_want (by kernel_rfl) (fun K hK => wp_load_mid _ _ rfl b6 0 rfl [.int .i64 c.jobs, .int .i64 c.workers, .int .i64 c.window, .int .i64 c.next, .int .i64 c.reader, .slice X.q c.queue.length X.pq, .slice X.h c.hands.length X.ph, .int .i64 c.closer, .slice X.r c.results.length X.pr, .int .i64 c.keeper, .slice X.g c.ring.length X.pg, .int .i64 c.due, .slice X.o c.out.length X.po, .int .i64 c.user, .slice X.t c.got.length X.pt, .int .i64 c.room, .slice X.s c.shut.length X.ps, .int .i64 c.ops] dI (unhide HXXn).range hdIu hdIr info18 (hK _ _ ?_))
    refine wpList_want (by kernel_rfl) (fun K hK => ?_)
    go_simp
    refine (lwWorld_any c Y X PY PX W3 (unhide HXY).at' (unhide HXXn).at' (unhide HXY).lt (unhide HXXn).lt).mono ?_
    rintro e W4 ⟨rfl, hb4⟩
    refine hK _ _ ?_
    clear hK K
    have HY4 := hide ((unhide HXY).on hb4); have HB4 := hide ((unhide HBW3).trans (hb4.mono (unhide HBW3).size))
    clear hb4 HXY HXXn HBW3
    go_upto_region 9 with fail
    refine wp_region_list ?_
    refine wpList_load_mid rfl _ _ rfl b8 0 rfl [.int .i64 c.jobs, .int .i64 c.workers, .int .i64 c.window, .int .i64 c.next, .int .i64 c.reader, .slice Y.q c.queue.length Y.pq, .slice Y.h c.hands.length Y.ph, .int .i64 c.closer, .slice Y.r c.results.length Y.pr, .int .i64 c.keeper, .slice Y.g c.ring.length Y.pg, .int .i64 c.due, .slice Y.o c.out.length Y.po, .int .i64 c.user, .slice Y.t c.got.length Y.pt, .int .i64 c.room, .slice Y.s c.shut.length Y.ps, .int .i64 c.ops] dI (unhide HY4).range hdIu hdIr info18 ?_
    refine wpList_plain rfl (fun K hK => ?_)
    go_simp
    refine (implCrewOk_any c Y PY W4 (unhide HY4).at' (unhide HY4).lt).mono ?_
    rintro e W5 ⟨⟨r, rfl, hr⟩, hb5⟩
    obtain rfl : r = false := by cases r with
      | false => rfl
      | true => exact absurd (hr.1 rfl) (unhide HNO)
    refine hK _ _ ?_
    clear hK K hr
    have HB5 := hide ((unhide HB4).trans (hb5.mono (unhide HB4).size))
    clear hb5
    go_wp2_with fail
    go_ret
    exact ⟨rfl, unhide HB5⟩
  rw [decide_eq_true hst] at HSP HIM
  obtain ⟨k', rfl⟩ : ∃ m : Nat, k = m := ⟨k.toNat, by have := hst.2.1.1; omega⟩
  obtain ⟨n', rfl⟩ : ∃ m : Nat, n = m := ⟨n.toNat, by have := hst.2.2.1; omega⟩
  have hcc : c = ncCw j k' n' := (unhide HCC).trans (stCw_nc hst)
  have HOK := hide (show okS c from by rw [hcc]; exact nc_ok hst)
  have HEN := hide (show ¬ endedS c from by rw [hcc]; exact nc_ended j k' n')
  have HLE := hide (show leftZ c = 11 * j + k' + 6 from by rw [hcc]; exact nc_left j k' n')
  obtain ⟨y1, hy1⟩ : ∃ y, y = 11 * j := ⟨_, rfl⟩
  obtain ⟨y2, hy2⟩ : ∃ y, y = y1 + (k' : Int) := ⟨_, rfl⟩
  obtain ⟨y3, hy3⟩ : ∃ y, y = y2 + 6 := ⟨_, rfl⟩
  have w1 : IntKind.i64.wrap (11 * j) = y1 := by have := hst.1; rw [IntKind.wrap_i64]; omega
  have w2 : IntKind.i64.wrap (y1 + (k' : Int)) = y2 := by have := hst.1; have := hst.2.1; rw [IntKind.wrap_i64]; omega
  have w3 : IntKind.i64.wrap (y2 + 6) = y3 := by have := hst.1; have := hst.2.1; rw [IntKind.wrap_i64]; omega
  have HY3 := hide (show leftZ c = y3 from by rw [unhide HLE]; omega)
  clear hst HCC hcc hy1 hy2 hy3 HLE
  go_upto_region 4 with fail
  refine wp_region_list ?_
  refine wpList_plain rfl (fun K hK => ?_); go_simp; refine hK _ _ ?_; clear hK K
  refine wpList_plain rfl (fun K hK => ?_); go_simp; refine hK _ _ ?_; clear hK K
  refine wpList_plain rfl (fun K hK => ?_); go_simp; refine hK _ _ ?_; clear hK K
  refine wpList_plain rfl (fun K hK => ?_)
  go_simp
  refine (unhide HSP W1).mono ?_
  rintro e wz ⟨u, Fq, Fh, Fr, Fg, Fo, Ft, Fs, rfl, hown, hdj, hrng, hb⟩
  obtain ⟨X, hU⟩ := hown.at.addr
  subst hU
  dsimp only [A7.v] at hK ⊢
  refine hK _ _ ?_
  clear hK K
  have hat := hown.at
  have hlt : ∀ b, b ∈ F7 Fq Fh Fr Fg Fo Ft Fs → b < wz.heap.size := fun b hm => (hrng b hm).2
  clear hdj hrng hown
  refine wpList_plain rfl (fun K hK => ?_); go_simp; refine hK _ _ ?_; clear hK K
  refine wpList_plain rfl (fun K hK => ?_); go_simp; refine hK _ _ ?_; clear hK K
  refine wpList_plain rfl (fun K hK => ?_); go_simp; refine hK _ _ ?_; clear hK K
  refine wpList_plain rfl (fun K hK => ?_); go_simp; refine hK _ _ ?_; clear hK K
  have hz : (wz.alloc (.cells #[.int .i64 0, .int .i64 0, .int .i64 0, .int .i64 0, .int .i64 0, .slice none 0 0, .slice none 0 0, .int .i64 0, .slice none 0 0, .int .i64 0, .slice none 0 0, .int .i64 0, .slice none 0 0, .int .i64 0, .slice none 0 0, .int .i64 0, .slice none 0 0, .int .i64 0] 28)).rowIs wz.heap.size 28 18 (r18 [.int .i64 0, .int .i64 0, .int .i64 0, .int .i64 0, .int .i64 0, .slice none 0 0, .slice none 0 0, .int .i64 0, .slice none 0 0, .int .i64 0, .slice none 0 0, .int .i64 0, .slice none 0 0, .int .i64 0, .slice none 0 0, .int .i64 0, .slice none 0 0, .int .i64 0]) := box18 wz noCw nil7 28
  have hba : Below wz.heap.size wz (wz.alloc (.cells #[.int .i64 0, .int .i64 0, .int .i64 0, .int .i64 0, .int .i64 0, .slice none 0 0, .slice none 0 0, .int .i64 0, .slice none 0 0, .int .i64 0, .slice none 0 0, .int .i64 0, .slice none 0 0, .int .i64 0, .slice none 0 0, .int .i64 0, .slice none 0 0, .int .i64 0] 28)) := (Below.refl _ _).alloc (Nat.le_refl _) _
  refine wpList_store_mid rfl _ _ _ rfl wz.heap.size 0 #[.int .i64 c.jobs, .int .i64 c.workers, .int .i64 c.window, .int .i64 c.next, .int .i64 c.reader, .slice X.q c.queue.length X.pq, .slice X.h c.hands.length X.ph, .int .i64 c.closer, .slice X.r c.results.length X.pr, .int .i64 c.keeper, .slice X.g c.ring.length X.pg, .int .i64 c.due, .slice X.o c.out.length X.po, .int .i64 c.user, .slice X.t c.got.length X.pt, .int .i64 c.room, .slice X.s c.shut.length X.ps, .int .i64 c.ops] rfl rfl (there_row hz) info18 (one18 _ _ _ _ _ _ _ _ _ _ _ (A7.v X c) (by simp [A7.v, Value.oneCell'])) ?_
  have hrw := row_all (n := 18) [.int .i64 c.jobs, .int .i64 c.workers, .int .i64 c.window, .int .i64 c.next, .int .i64 c.reader, .slice X.q c.queue.length X.pq, .slice X.h c.hands.length X.ph, .int .i64 c.closer, .slice X.r c.results.length X.pr, .int .i64 c.keeper, .slice X.g c.ring.length X.pg, .int .i64 c.due, .slice X.o c.out.length X.po, .int .i64 c.user, .slice X.t c.got.length X.pt, .int .i64 c.room, .slice X.s c.shut.length X.ps, .int .i64 c.ops] rfl hz
  have hbb := below_setCells (Nat.le_refl wz.heap.size) [.int .i64 c.jobs, .int .i64 c.workers, .int .i64 c.window, .int .i64 c.next, .int .i64 c.reader, .slice X.q c.queue.length X.pq, .slice X.h c.hands.length X.ph, .int .i64 c.closer, .slice X.r c.results.length X.pr, .int .i64 c.keeper, .slice X.g c.ring.length X.pg, .int .i64 c.due, .slice X.o c.out.length X.po, .int .i64 c.user, .slice X.t c.got.length X.pt, .int .i64 c.room, .slice X.s c.shut.length X.ps, .int .i64 c.ops] 0 _ hba
  have hbz := hb.trans (hbb.mono hb.size)
  have HXX := hide (show Bc 28 (· ∈ F7 Fq Fh Fr Fg Fo Ft Fs) wz.heap.size c X _ from ⟨hrw, hat.carry (fun b hb => hbb.block b (hlt b hb)) (fun _ h => h), fun b hb => Nat.lt_of_lt_of_le (hlt b hb) hbb.size⟩)
  have HBW2 := hide ((unhide HBW1).trans (hbz.mono (unhide HBW1).size))
  clear hz hba hrw hbb hat hlt hb hbz HBW1
  generalize (wz.alloc _).setCells _ 0 _ = W2 at HXX HBW2 ⊢
  generalize wz.heap.size = b6 at HXX ⊢
  generalize (· ∈ F7 Fq Fh Fr Fg Fo Ft Fs) = PX at HXX
  go_upto_region 5 with fail
  refine wp_region_list ?_
  refine wpList_plain rfl (fun K hK => ?_); go_simp; refine hK _ _ ?_; clear hK K
  refine wpList_plain rfl (fun K hK => ?_); go_simp; refine hK _ _ ?_; clear hK K
  refine wpList_plain rfl (fun K hK => ?_); go_simp; refine hK _ _ ?_; clear hK K
  refine wpList_plain rfl (fun K hK => ?_)
  go_simp
  refine (unhide HIM W2).mono ?_
  rintro e wz ⟨u, Fq, Fh, Fr, Fg, Fo, Ft, Fs, rfl, hown, hdj, hrng, hb⟩
  obtain ⟨Y, hU⟩ := hown.at.addr
  subst hU
  dsimp only [A7.v] at hK ⊢
  refine hK _ _ ?_
  clear hK K
  have hat := hown.at
  have hlt : ∀ b, b ∈ F7 Fq Fh Fr Fg Fo Ft Fs → b < wz.heap.size := fun b hm => (hrng b hm).2
  clear hdj hrng hown
  refine wpList_plain rfl (fun K hK => ?_); go_simp; refine hK _ _ ?_; clear hK K
  refine wpList_plain rfl (fun K hK => ?_); go_simp; refine hK _ _ ?_; clear hK K
  refine wpList_plain rfl (fun K hK => ?_); go_simp; refine hK _ _ ?_; clear hK K
  refine wpList_plain rfl (fun K hK => ?_); go_simp; refine hK _ _ ?_; clear hK K
  have hz : (wz.alloc (.cells #[.int .i64 0, .int .i64 0, .int .i64 0, .int .i64 0, .int .i64 0, .slice none 0 0, .slice none 0 0, .int .i64 0, .slice none 0 0, .int .i64 0, .slice none 0 0, .int .i64 0, .slice none 0 0, .int .i64 0, .slice none 0 0, .int .i64 0, .slice none 0 0, .int .i64 0] 28)).rowIs wz.heap.size 28 18 (r18 [.int .i64 0, .int .i64 0, .int .i64 0, .int .i64 0, .int .i64 0, .slice none 0 0, .slice none 0 0, .int .i64 0, .slice none 0 0, .int .i64 0, .slice none 0 0, .int .i64 0, .slice none 0 0, .int .i64 0, .slice none 0 0, .int .i64 0, .slice none 0 0, .int .i64 0]) := box18 wz noCw nil7 28
  have hba : Below wz.heap.size wz (wz.alloc (.cells #[.int .i64 0, .int .i64 0, .int .i64 0, .int .i64 0, .int .i64 0, .slice none 0 0, .slice none 0 0, .int .i64 0, .slice none 0 0, .int .i64 0, .slice none 0 0, .int .i64 0, .slice none 0 0, .int .i64 0, .slice none 0 0, .int .i64 0, .slice none 0 0, .int .i64 0] 28)) := (Below.refl _ _).alloc (Nat.le_refl _) _
  refine wpList_store_mid rfl _ _ _ rfl wz.heap.size 0 #[.int .i64 c.jobs, .int .i64 c.workers, .int .i64 c.window, .int .i64 c.next, .int .i64 c.reader, .slice Y.q c.queue.length Y.pq, .slice Y.h c.hands.length Y.ph, .int .i64 c.closer, .slice Y.r c.results.length Y.pr, .int .i64 c.keeper, .slice Y.g c.ring.length Y.pg, .int .i64 c.due, .slice Y.o c.out.length Y.po, .int .i64 c.user, .slice Y.t c.got.length Y.pt, .int .i64 c.room, .slice Y.s c.shut.length Y.ps, .int .i64 c.ops] rfl rfl (there_row hz) info18 (one18 _ _ _ _ _ _ _ _ _ _ _ (A7.v Y c) (by simp [A7.v, Value.oneCell'])) ?_
  have hrw := row_all (n := 18) [.int .i64 c.jobs, .int .i64 c.workers, .int .i64 c.window, .int .i64 c.next, .int .i64 c.reader, .slice Y.q c.queue.length Y.pq, .slice Y.h c.hands.length Y.ph, .int .i64 c.closer, .slice Y.r c.results.length Y.pr, .int .i64 c.keeper, .slice Y.g c.ring.length Y.pg, .int .i64 c.due, .slice Y.o c.out.length Y.po, .int .i64 c.user, .slice Y.t c.got.length Y.pt, .int .i64 c.room, .slice Y.s c.shut.length Y.ps, .int .i64 c.ops] rfl hz
  have hbb := below_setCells (Nat.le_refl wz.heap.size) [.int .i64 c.jobs, .int .i64 c.workers, .int .i64 c.window, .int .i64 c.next, .int .i64 c.reader, .slice Y.q c.queue.length Y.pq, .slice Y.h c.hands.length Y.ph, .int .i64 c.closer, .slice Y.r c.results.length Y.pr, .int .i64 c.keeper, .slice Y.g c.ring.length Y.pg, .int .i64 c.due, .slice Y.o c.out.length Y.po, .int .i64 c.user, .slice Y.t c.got.length Y.pt, .int .i64 c.room, .slice Y.s c.shut.length Y.ps, .int .i64 c.ops] 0 _ hba
  have hbz := hb.trans (hbb.mono hb.size)
  have HXY := hide (show Bc 28 (· ∈ F7 Fq Fh Fr Fg Fo Ft Fs) wz.heap.size c Y _ from ⟨hrw, hat.carry (fun b hb => hbb.block b (hlt b hb)) (fun _ h => h), fun b hb => Nat.lt_of_lt_of_le (hlt b hb) hbb.size⟩)
  have HBW3 := hide ((unhide HBW2).trans (hbz.mono (unhide HBW2).size))
  have HXXn := hide ((unhide HXX).on hbz)
  clear hz hba hrw hbb hat hlt hb hbz HBW2 HXX
  generalize (wz.alloc _).setCells _ 0 _ = W3 at HXY HBW3 HXXn ⊢
  generalize wz.heap.size = b8 at HXY ⊢
  generalize (· ∈ F7 Fq Fh Fr Fg Fo Ft Fs) = PY at HXY
  go_upto_region 6 with fail
  refine wp_region_list ?_
  refine wpList_plain rfl (fun K hK => ?_); go_simp; refine hK _ _ ?_; clear hK K
  refine wpList_plain rfl (fun K hK => ?_); go_simp; refine hK _ _ ?_; clear hK K
  refine wpList_plain rfl (fun K hK => ?_); go_simp; refine hK _ _ ?_; clear hK K
  refine wpList_plain rfl (fun K hK => ?_); go_simp; refine hK _ _ ?_; clear hK K
  refine wpList_want (by kernel_rfl) (fun K hK => wp_load_mid _ _ rfl b8 0 rfl [.int .i64 c.jobs, .int .i64 c.workers, .int .i64 c.window, .int .i64 c.next, .int .i64 c.reader, .slice Y.q c.queue.length Y.pq, .slice Y.h c.hands.length Y.ph, .int .i64 c.closer, .slice Y.r c.results.length Y.pr, .int .i64 c.keeper, .slice Y.g c.ring.length Y.pg, .int .i64 c.due, .slice Y.o c.out.length Y.po, .int .i64 c.user, .slice Y.t c.got.length Y.pt, .int .i64 c.room, .slice Y.s c.shut.length Y.ps, .int .i64 c.ops] dI (unhide HXY).range hdIu hdIr info18 (hK _ _ ?_))
  refine wpList_want (by kernel_rfl) (fun K hK => wp_load_mid _ _ rfl b6 0 rfl [.int .i64 c.jobs, .int .i64 c.workers, .int .i64 c.window, .int .i64 c.next, .int .i64 c.reader, .slice X.q c.queue.length X.pq, .slice X.h c.hands.length X.ph, .int .i64 c.closer, .slice X.r c.results.length X.pr, .int .i64 c.keeper, .slice X.g c.ring.length X.pg, .int .i64 c.due, .slice X.o c.out.length X.po, .int .i64 c.user, .slice X.t c.got.length X.pt, .int .i64 c.room, .slice X.s c.shut.length X.ps, .int .i64 c.ops] dI (unhide HXXn).range hdIu hdIr info18 (hK _ _ ?_))
  refine wpList_want (by kernel_rfl) (fun K hK => ?_)
  go_simp
  refine (lwWorld_any c Y X PY PX W3 (unhide HXY).at' (unhide HXXn).at' (unhide HXY).lt (unhide HXXn).lt).mono ?_
  rintro e W4 ⟨rfl, hb4⟩
  refine hK _ _ ?_
  clear hK K
  have HY4 := hide ((unhide HXY).on hb4); have HB4 := hide ((unhide HBW3).trans (hb4.mono (unhide HBW3).size))
  clear hb4 HXY HXXn HBW3
  go_upto_region 10 with fail
  refine wp_region_list ?_
  refine wpList_load_mid rfl _ _ rfl b8 0 rfl [.int .i64 c.jobs, .int .i64 c.workers, .int .i64 c.window, .int .i64 c.next, .int .i64 c.reader, .slice Y.q c.queue.length Y.pq, .slice Y.h c.hands.length Y.ph, .int .i64 c.closer, .slice Y.r c.results.length Y.pr, .int .i64 c.keeper, .slice Y.g c.ring.length Y.pg, .int .i64 c.due, .slice Y.o c.out.length Y.po, .int .i64 c.user, .slice Y.t c.got.length Y.pt, .int .i64 c.room, .slice Y.s c.shut.length Y.ps, .int .i64 c.ops] dI (unhide HY4).range hdIu hdIr info18 ?_
  refine wpList_plain rfl (fun K hK => ?_)
  go_simp
  refine (implCrewOk_any c Y PY W4 (unhide HY4).at' (unhide HY4).lt).mono ?_
  rintro e W5 ⟨⟨r, rfl, hr⟩, hb5⟩
  obtain rfl : r = true := hr.2 (unhide HOK)
  refine hK _ _ ?_
  clear hK K hr
  have HY5 := hide ((unhide HY4).on hb5); have HB5 := hide ((unhide HB4).trans (hb5.mono (unhide HB4).size))
  clear hb5 HY4 HB4
  refine wpList_plain rfl (fun K hK => ?_); go_simp; refine hK _ _ ?_; clear hK K
  refine wpList_want (by kernel_rfl) (fun K hK => wp_load_mid _ _ rfl b8 0 rfl [.int .i64 c.jobs, .int .i64 c.workers, .int .i64 c.window, .int .i64 c.next, .int .i64 c.reader, .slice Y.q c.queue.length Y.pq, .slice Y.h c.hands.length Y.ph, .int .i64 c.closer, .slice Y.r c.results.length Y.pr, .int .i64 c.keeper, .slice Y.g c.ring.length Y.pg, .int .i64 c.due, .slice Y.o c.out.length Y.po, .int .i64 c.user, .slice Y.t c.got.length Y.pt, .int .i64 c.room, .slice Y.s c.shut.length Y.ps, .int .i64 c.ops] dI (unhide HY5).range hdIu hdIr info18 (hK _ _ ?_))
  refine wpList_want (by kernel_rfl) (fun K hK => ?_)
  go_simp
  refine (implCrewEnded_any c Y PY W5 (unhide HY5).at' (unhide HY5).lt).mono ?_
  rintro e W6 ⟨⟨r, rfl, hr⟩, hb6⟩
  obtain rfl : r = false := by cases r with
    | false => rfl
    | true => exact absurd (hr.1 rfl) (unhide HEN)
  refine hK _ _ ?_
  clear hK K hr
  have HY6 := hide ((unhide HY5).on hb6); have HB6 := hide ((unhide HB5).trans (hb6.mono (unhide HB5).size))
  clear hb6 HY5 HB5
  refine wpList_want (by kernel_rfl) (fun K hK => ?_); go_simp; refine hK _ _ ?_; clear hK K
  refine wpList_plain rfl (fun K hK => ?_); go_simp; refine hK _ _ ?_; clear hK K
  refine wpList_plain rfl (fun K hK => ?_); go_simp; refine hK _ _ ?_; clear hK K
  refine wpList_want (by kernel_rfl) (fun K hK => wp_load_mid _ _ rfl b8 0 rfl [.int .i64 c.jobs, .int .i64 c.workers, .int .i64 c.window, .int .i64 c.next, .int .i64 c.reader, .slice Y.q c.queue.length Y.pq, .slice Y.h c.hands.length Y.ph, .int .i64 c.closer, .slice Y.r c.results.length Y.pr, .int .i64 c.keeper, .slice Y.g c.ring.length Y.pg, .int .i64 c.due, .slice Y.o c.out.length Y.po, .int .i64 c.user, .slice Y.t c.got.length Y.pt, .int .i64 c.room, .slice Y.s c.shut.length Y.ps, .int .i64 c.ops] dI (unhide HY6).range hdIu hdIr info18 (hK _ _ ?_))
  refine wpList_want (by kernel_rfl) (fun K hK => ?_)
  go_simp
  refine (implCrewLeft_any c Y PY W6 (unhide HY6).at' (unhide HY6).lt).mono ?_
  rintro e W7 ⟨⟨z, rfl, hz1, -⟩, hb7⟩
  obtain rfl : z = y3 := (hz1 (unhide HOK)).trans (unhide HY3)
  refine hK _ _ ?_
  clear hK K hz1
  have HB7 := hide ((unhide HB6).trans (hb7.mono (unhide HB6).size))
  clear hb7 HY6 HB6
  have qz : (z == z) = true := by simp
  go_wp2_with fail
  go_ret
  exact ⟨rfl, unhide HB7⟩
end Go.Proofs.Ytchbialjgcejgaa

/- What is read of a row of bytes that comes in is one that lies in memory. No conditions. -/

namespace Go.Proofs.Ytchbialjgcejgaa
open Go Go.RowKit Go.ChangeShapes Go.WideShapes Go.ChangeAt

theorem cellsU8 : Try.prog.cellsOf 5 = 1 := by kernel_rfl

section
variable {H : Type} {enc : TypeId × Value → H} {W : World} {spare : Nat → Bool} {held : Bool}

theorem bytes_cap {fuel : Nat} {a : Option Addr} {len cap : Nat} {x : DataW H × List MemPlace} (h : DataW.trod enc Try.prog W 0 spare held fuel 22 [.slice a len cap] = some x) : len ≤ cap := by
  rcases open_ints Try.underlying22 Try.underlying5 cellsU8 h with ⟨hcs, -⟩ | ⟨a', len', cap', zs, hcs, -, hl, -⟩
  · simp only [List.cons.injEq, Value.slice.injEq, and_true] at hcs
    omega
  · simp only [List.cons.injEq, Value.slice.injEq, and_true] at hcs
    omega
theorem bytes_of_trod {fuel : Nat} {v : Value} {x : DataW H × List MemPlace} (h : DataW.trod enc Try.prog W 0 spare held fuel 22 [v] = some x) :
    ∃ l, BytesAt W v l := by
  rcases open_ints Try.underlying22 Try.underlying5 cellsU8 h with ⟨hcs, -⟩ | ⟨a, len, cap, zs, hcs, -, hl, hm, hz, -, hcell, hws⟩
  · simp only [List.cons.injEq, and_true] at hcs
    exact ⟨[], none, 0, hcs, by simp, fun i hi => by simp at hi⟩
  · simp only [List.cons.injEq, and_true] at hcs
    have hle : len ≤ zs.length := by rw [hz]; split <;> omega
    unfold maxLen at hm
    have hlen : ((zs.take len).map (fun z => UInt8.ofNat z.toNat)).length = len := by simp; omega
    refine ⟨(zs.take len).map (fun z => UInt8.ofNat z.toNat), some a, cap, by rw [hcs, hlen], by rw [hlen]; omega, fun i hi => ?_⟩
    have hi' : i < len := by rw [hlen] at hi; exact hi
    obtain ⟨b, off, spot⟩ := a
    have hspot : spot = none := by simpa [Addr.add] using World.cell?_spot (hcell 0 (by omega))
    subst hspot
    have hc := hcell i (by omega)
    rw [Addr.add_lit] at hc
    refine ⟨b, off, rfl, World.block_lt_of_cell? W _ hc, ?_⟩
    have hb := bounds_u8 (hws (zs[i]'(by omega)) (List.getElem_mem (by omega)))
    rw [hc]
    have e1 : zs.getD i 0 = zs[i]'(by omega) := by simp [show i < zs.length by omega]
    have e2 : (((zs.take len).map (fun z => UInt8.ofNat z.toNat))[i]'hi) = UInt8.ofNat (zs[i]'(by omega)).toNat := by simp
    rw [e1, e2, show (UInt8.ofNat (zs[i]'(by omega)).toNat).toNat = (zs[i]'(by omega)).toNat from by simp; omega, show (((zs[i]'(by omega)).toNat : Nat) : Int) = zs[i]'(by omega) from by omega]
end
end Go.Proofs.Ytchbialjgcejgaa
