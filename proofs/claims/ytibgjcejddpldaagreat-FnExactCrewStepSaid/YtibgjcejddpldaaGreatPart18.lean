/- A part. -/
import Derived.Test.YtibgjcejddpldaaGreatPart16
namespace Go.Proofs.YtibgjcejddpldaaGreat
open Go Go.RowKit
set_option maxRecDepth 100000
set_option maxHeartbeats 6400000
theorem in01_any (z : Int) (w : World) : Calls Tryz.prog 97 #[.int .i64 z] w fun e w' => e = .returned (.bool (decide (0 ≤ z ∧ z ≤ 1))) ∧ w' = w := by
 have HIN := xH (fun W => isIn_same z 0 1 W)
 generalize decide (0 ≤ z ∧ z ≤ 1) = b at *
 go_enter Tryz.func97, Tryz.ntmps97
 go_wp2_with (go_at_call 95; refine (xU HIN _).mono ?_; rintro e w2 ⟨rfl, hb⟩; have hb' := hb.symm; subst hb'; clear hb)
 go_ret
 exact ⟨rfl, rfl⟩
theorem allI_any (a : Option Addr) (cap : Nat) (zs : List Int) (w : World) {P : Nat → Prop} (h : ZAt P w (.slice a zs.length cap) zs) : Calls Tryz.prog 96 #[.slice a zs.length cap, .func (.func 97) #[] #[]] w fun e w' => RetB e (∀ z ∈ zs, 0 ≤ z ∧ z ≤ 1) ∧ w' = w := by
 obtain ⟨a', cap', e, hl, hc⟩ := h.open
 simp only [Value.slice.injEq] at e
 obtain ⟨rfl, -, rfl⟩ := e
 have HC := xH hc
 clear h hc
 go_enter Tryz.func96, Tryz.ntmps96
 go_wp2_with fail
 go_loopw [9] (fun i wr => ∃ (k : Nat), k ≤ zs.length ∧ i = .int .i64 k ∧ wr = w ∧ Hid (∀ j, (hj : j < zs.length) → j < k → (0 ≤ zs[j] ∧ zs[j] ≤ 1))) (fun i _ => zs.length - (intOf i).toNat)
 case atStart => exact ⟨0, Nat.zero_le _, rfl, rfl, xH (fun j _ hj => absurd hj (by omega))⟩
 case round =>
  obtain ⟨k, hk, rfl, hwr, HA⟩ := hrel
  subst hwr
  by_cases hlt : k < zs.length
  · obtain ⟨b, o, rfl, -, e0⟩ := xU HC k hlt
    have HIN := xH (fun W => in01_any zs[k] W)
    by_cases h3 : 0 ≤ zs[k] ∧ zs[k] ≤ 1
    · rw [decide_eq_true h3] at HIN
      have HN := xH (show ∀ j, (hj : j < zs.length) → j < k + 1 → (0 ≤ zs[j] ∧ zs[j] ≤ 1) from fun j hj hjk => by
       by_cases e : j = k
       · subst e; exact h3
       · exact HA.out j hj (by omega))
      clear h3
      generalize zs[k] = z at *
      go_wp2_with (go_at_call 97; refine (xU HIN _).mono ?_; rintro e w2 ⟨rfl, hb⟩; have hb' := hb.symm; subst hb'; clear hb)
      go_roundw
      case rel => exact ⟨k + 1, by omega, by go_num, by first | rfl | trivial, HN⟩
      case measure => simp [intOf]; omega
    · rw [decide_eq_false h3] at HIN
      have HNO := xH (show ¬ ∀ z ∈ zs, 0 ≤ z ∧ z ≤ 1 from fun h => h3 (h _ (List.getElem_mem hlt)))
      clear h3
      generalize zs[k] = z at *
      go_wp2_with (go_at_call 97; refine (xU HIN _).mono ?_; rintro e w2 ⟨rfl, hb⟩; have hb' := hb.symm; subst hb'; clear hb)
      go_ret
      exact ⟨RetB.no (xU HNO), rfl⟩
  · have HY := xH (show ∀ z ∈ zs, 0 ≤ z ∧ z ≤ 1 from fun z hz => by
     obtain ⟨j, hj, rfl⟩ := List.getElem_of_mem hz
     exact HA.out j hj (by omega))
    obtain rfl : k = zs.length := by omega
    go_wp2_with fail
    go_ret
    exact ⟨RetB.yes (xU HY), rfl⟩
def stP (c : Cw) : Prop := c.hands.length ≤ 8 ∧ (∀ h ∈ c.hands, handOk h) ∧ fE c
theorem statesOk_any (c : Cw) (A : A7) (P : Nat → Prop) (w : World) (h : CwAt P w c (A.v c)) (hP : ∀ b, P b → b < w.heap.size) : Calls Tryz.prog 94 #[.agg #[.int .i64 c.jobs, .int .i64 c.workers, .int .i64 c.window, .int .i64 c.next, .int .i64 c.reader, .slice A.q c.queue.length A.pq, .slice A.h c.hands.length A.ph, .int .i64 c.closer, .slice A.r c.results.length A.pr, .int .i64 c.keeper, .slice A.g c.ring.length A.pg, .int .i64 c.due, .slice A.o c.out.length A.po, .int .i64 c.user, .slice A.t c.got.length A.pt, .int .i64 c.room, .slice A.s c.shut.length A.ps, .int .i64 c.ops]] w fun e w' => RetB e (stP c) ∧ Below w.heap.size w w' := by
 obtain ⟨aq, ah, ar, ag, ao, at1, as1, pq, ph, pr, pg, po, pt, ps⟩ := A
 have hs := Ag.start h hP
 dsimp only at hs ⊢
 have HS := xH hs
 have hll := hs.len_h
 clear h hP hs
 go_enter Tryz.func94, Tryz.ntmps94
 go_upto_region 1 with fail
 generalize w.alloc (.cells #[.int .i64 c.jobs, .int .i64 c.workers, .int .i64 c.window, .int .i64 c.next, .int .i64 c.reader, .slice aq c.queue.length pq, .slice ah c.hands.length ph, .int .i64 c.closer, .slice ar c.results.length pr, .int .i64 c.keeper, .slice ag c.ring.length pg, .int .i64 c.due, .slice ao c.out.length po, .int .i64 c.user, .slice at1 c.got.length pt, .int .i64 c.room, .slice as1 c.shut.length ps, .int .i64 c.ops] 26) = W0 at HS ⊢
 have k6 := (xU HS).k6
 dsimp only at k6
 by_cases hg : c.hands.length ≤ 8
 case neg =>
  have q : decide ((8 : Int) < (c.hands.length : Int)) = true := by simp; omega
  have q2 : decide (8 < c.hands.length) = true := by simp; omega
  have HNO := xH (show ¬ stP c from fun h => hg h.1)
  have HB := xH (xU HS).bel
  clear hg
  go_wp2_with fail
  go_ret
  exact ⟨RetB.no (xU HNO), xU HB⟩
 have q : decide ((8 : Int) < (c.hands.length : Int)) = false := by simp; omega
 have q2 : decide (8 < c.hands.length) = false := by simp; omega
 have HG8 := xH hg
 clear hg
 go_wp2_with fail
 clear q q2 k6
 go_loopw [12] (fun i wr => ∃ (k : Nat), k ≤ c.hands.length ∧ i = .int .i64 k ∧ Hid (Ag P w wr c ⟨aq, ah, ar, ag, ao, at1, as1, pq, ph, pr, pg, po, pt, ps⟩) ∧ Hid (∀ j, (hj : j < c.hands.length) → j < k → handOk c.hands[j])) (fun i _ => c.hands.length - (intOf i).toNat)
 case atStart => exact ⟨0, Nat.zero_le _, rfl, HS, xH (fun j _ hj => absurd hj (by omega))⟩
 case round =>
  obtain ⟨k, hk, rfl, HG, HA⟩ := hrel
  by_cases hlt : k < c.hands.length
  · obtain ⟨b, o, ha, e0, e1⟩ := HG.out.at_h k hlt
    dsimp only at ha
    subst ha
    have HNO := xH (show ¬ handOk c.hands[k] → ¬ stP c from fun hn h => hn (h.2.1 _ (List.getElem_mem hlt)))
    have HN := xH (show handOk c.hands[k] → ∀ j, (hj : j < c.hands.length) → j < k + 1 → handOk c.hands[j] from fun h3 j hj hjk => by
     by_cases e : j = k
     · subst e; exact h3
     · exact HA.out j hj (by omega))
    have HGA := xH (fun ob => HG.out.on ((Below.refl _ wr).alloc (Nat.le_refl _) ob))
    generalize c.hands[k] = hd at *
    obtain ⟨st, jb⟩ := hd
    simp only at e0 e1
    have hbw : wr.heap.size < (wr.alloc (.cells #[.int .i64 st, .int .i64 jb] 73)).heap.size := by simp
    have x1 : (wr.alloc (.cells #[.int .i64 st, .int .i64 jb] 73)).cell? ⟨wr.heap.size, 1, none⟩ = some (.int .i64 jb) := by simp
    have HIN := xH (fun W => isIn_same st 0 3 W)
    have HJB := xH (fun W => hasJob_any st jb W)
    by_cases hi : 0 ≤ st ∧ st ≤ 3
    case neg =>
     rw [decide_eq_false hi] at HIN
     have HNO2 := xH (xU HNO (fun h => hi h.1))
     clear hi HNO HN
     go_wp2_with (go_at_call 95; refine (xU HIN _).mono ?_; rintro e w2 ⟨rfl, hb⟩; have hb' := hb.symm; subst hb'; clear hb)
     go_ret
     exact ⟨RetB.no (xU HNO2), (xU HGA _).bel⟩
    rw [decide_eq_true hi] at HIN
    cases hbz : busyH ⟨st, jb⟩ with
    | true =>
      have HN2 := xH (xU HN ⟨hi, fun h => by rw [hbz] at h; cases h⟩)
      rw [hbz] at HJB
      clear hi hbz HNO HN
      go_wp2_with (first
       | (go_at_call 95; refine (xU HIN _).mono ?_; rintro e w2 ⟨rfl, hb⟩; have hb' := hb.symm; subst hb'; clear hb)
       | (go_at_call 112; refine (xU HJB _).mono ?_; rintro e w5 ⟨rfl, hb5⟩; have HG6 := xH ((xU HGA _).on hb5); clear hb5))
      go_roundw
      case rel => exact ⟨k + 1, by omega, by go_num, HG6, HN2⟩
      case measure => simp [intOf]; omega
    | false =>
      rw [hbz] at HJB
      by_cases hj0 : jb = 0
      · have HN2 := xH (xU HN ⟨hi, fun _ => hj0⟩)
        have qj : (jb != 0) = false := by simp [hj0]
        clear hi hbz hj0 HNO HN
        go_wp2_with (first
         | (go_at_call 95; refine (xU HIN _).mono ?_; rintro e w2 ⟨rfl, hb⟩; have hb' := hb.symm; subst hb'; clear hb)
         | (go_at_call 112; refine (xU HJB _).mono ?_; rintro e w5 ⟨rfl, hb5⟩; have HG6 := xH ((xU HGA _).on hb5); have x2 : w5.cell? ⟨wr.heap.size, 1, none⟩ = some (.int .i64 jb) := (by rw [World.cell?_of_block (a := ⟨wr.heap.size, 1, none⟩) (hb5.block _ hbw)]; exact x1); clear hb5))
        go_roundw
        case rel => exact ⟨k + 1, by omega, by go_num, HG6, HN2⟩
        case measure => simp [intOf]; omega
      · have HNO2 := xH (xU HNO (fun h => hj0 (h.2 hbz)))
        have qj : (jb != 0) = true := by simp [hj0]
        clear hi hbz hj0 HNO HN
        go_wp2_with (first
         | (go_at_call 95; refine (xU HIN _).mono ?_; rintro e w2 ⟨rfl, hb⟩; have hb' := hb.symm; subst hb'; clear hb)
         | (go_at_call 112; refine (xU HJB _).mono ?_; rintro e w5 ⟨rfl, hb5⟩; have HG6 := xH ((xU HGA _).on hb5); have x2 : w5.cell? ⟨wr.heap.size, 1, none⟩ = some (.int .i64 jb) := (by rw [World.cell?_of_block (a := ⟨wr.heap.size, 1, none⟩) (hb5.block _ hbw)]; exact x1); clear hb5))
        go_ret
        exact ⟨RetB.no (xU HNO2), (xU HG6).bel⟩
  · have HH := xH (show ∀ h ∈ c.hands, handOk h from fun h hh => by
     obtain ⟨j, hj, rfl⟩ := List.getElem_of_mem hh
     exact HA.out j hj (by omega))
    obtain rfl : k = c.hands.length := by omega
    have k4 := HG.out.k4; have k7 := HG.out.k7; have k9 := HG.out.k9; have k13 := HG.out.k13
    have HB := xH HG.out.bel
    have HF := xH (show stP c ↔ ((0 ≤ c.reader ∧ c.reader ≤ 3) ∧ (0 ≤ c.closer ∧ c.closer ≤ 1) ∧ (0 ≤ c.keeper ∧ c.keeper ≤ 5) ∧ (0 ≤ c.user ∧ c.user ≤ 1)) from ⟨fun h => h.2.2, fun h => ⟨xU HG8, xU HH, h⟩⟩)
    clear HA HG HH hk hlt
    by_cases p0 : 0 ≤ c.reader ∧ c.reader ≤ 3
    case neg =>
     have D0 := xH (decide_eq_false p0)
     have HNO := xH (show ¬ stP c from fun h => p0 ((xU HF).1 h).1)
     clear p0
     go_wp2_with (go_at_call 95; refine (isIn_same _ _ _ _).mono ?_; rintro e w2 ⟨rfl, hb⟩; have hb' := hb.symm; subst hb'; clear hb; first | rw [xU D0])
     go_ret
     exact ⟨RetB.no (xU HNO), xU HB⟩
    have D0 := xH (decide_eq_true p0)
    by_cases p1 : 0 ≤ c.closer ∧ c.closer ≤ 1
    case neg =>
     have D1 := xH (decide_eq_false p1)
     have HNO := xH (show ¬ stP c from fun h => p1 ((xU HF).1 h).2.1)
     clear p1 p0
     go_wp2_with (go_at_call 95; refine (isIn_same _ _ _ _).mono ?_; rintro e w2 ⟨rfl, hb⟩; have hb' := hb.symm; subst hb'; clear hb; first | rw [xU D0] | rw [xU D1])
     go_ret
     exact ⟨RetB.no (xU HNO), xU HB⟩
    have D1 := xH (decide_eq_true p1)
    by_cases p2 : 0 ≤ c.keeper ∧ c.keeper ≤ 5
    case neg =>
     have D2 := xH (decide_eq_false p2)
     have HNO := xH (show ¬ stP c from fun h => p2 ((xU HF).1 h).2.2.1)
     clear p2 p0 p1
     go_wp2_with (go_at_call 95; refine (isIn_same _ _ _ _).mono ?_; rintro e w2 ⟨rfl, hb⟩; have hb' := hb.symm; subst hb'; clear hb; first | rw [xU D0] | rw [xU D1] | rw [xU D2])
     go_ret
     exact ⟨RetB.no (xU HNO), xU HB⟩
    have D2 := xH (decide_eq_true p2)
    by_cases p3 : 0 ≤ c.user ∧ c.user ≤ 1
    case neg =>
     have D3 := xH (decide_eq_false p3)
     have HNO := xH (show ¬ stP c from fun h => p3 ((xU HF).1 h).2.2.2)
     clear p3 p0 p1 p2
     go_wp2_with (go_at_call 95; refine (isIn_same _ _ _ _).mono ?_; rintro e w2 ⟨rfl, hb⟩; have hb' := hb.symm; subst hb'; clear hb; first | rw [xU D0] | rw [xU D1] | rw [xU D2] | rw [xU D3])
     go_ret
     exact ⟨RetB.no (xU HNO), xU HB⟩
    have D3 := xH (decide_eq_true p3)
    have HY := xH (show stP c from (xU HF).2 ⟨p0, p1, p2, p3⟩)
    clear p0 p1 p2 p3
    go_wp2_with (go_at_call 95; refine (isIn_same _ _ _ _).mono ?_; rintro e w2 ⟨rfl, hb⟩; have hb' := hb.symm; subst hb'; clear hb; first | rw [xU D0] | rw [xU D1] | rw [xU D2] | rw [xU D3])
    go_ret
    exact ⟨RetB.yes (xU HY), xU HB⟩

def tyW (k : Nat) : TypeId := ([3, 3, 3, 3, 3, 23, 24, 3, 23, 3, 23, 3, 23, 3, 23, 3, 23, 3] : List Nat).getD k 0
def tW (c : Cw) (A : A7) (b k : Nat) : Told := (tyW (k % 18), ⟨b, k % 18, none⟩, ([.int .i64 c.jobs, .int .i64 c.workers, .int .i64 c.window, .int .i64 c.next, .int .i64 c.reader, .slice A.q c.queue.length A.pq, .slice A.h c.hands.length A.ph, .int .i64 c.closer, .slice A.r c.results.length A.pr, .int .i64 c.keeper, .slice A.g c.ring.length A.pg, .int .i64 c.due, .slice A.o c.out.length A.po, .int .i64 c.user, .slice A.t c.got.length A.pt, .int .i64 c.room, .slice A.s c.shut.length A.ps, .int .i64 c.ops] : List Value).getD (k % 18) undef)
theorem Ag.lds {P : Nat → Prop} {w W : World} {c : Cw} {A : A7} (h : Ag P w W c A) (ks : List Nat) : Lds Tryz.prog W (ks.map (tW c A w.heap.size)) := fun t ht => by
 obtain ⟨k, -, rfl⟩ := List.mem_map.1 ht
 have hk : k % 18 < 18 := Nat.mod_lt _ (by omega)
 unfold tW
 generalize k % 18 = j at hk ⊢
 match j, hk with
 | 0, _ => exact ld3 W _ _ h.k0
 | 1, _ => exact ld3 W _ _ h.k1
 | 2, _ => exact ld3 W _ _ h.k2
 | 3, _ => exact ld3 W _ _ h.k3
 | 4, _ => exact ld3 W _ _ h.k4
 | 5, _ => exact ld25 W _ _ h.k5
 | 6, _ => exact ld26 W _ _ h.k6
 | 7, _ => exact ld3 W _ _ h.k7
 | 8, _ => exact ld25 W _ _ h.k8
 | 9, _ => exact ld3 W _ _ h.k9
 | 10, _ => exact ld25 W _ _ h.k10
 | 11, _ => exact ld3 W _ _ h.k11
 | 12, _ => exact ld25 W _ _ h.k12
 | 13, _ => exact ld3 W _ _ h.k13
 | 14, _ => exact ld25 W _ _ h.k14
 | 15, _ => exact ld3 W _ _ h.k15
 | 16, _ => exact ld25 W _ _ h.k16
 | 17, _ => exact ld3 W _ _ h.k17
 | _ + 18, hk => omega

def bnd12 (c : Cw) : Prop := (0 ≤ c.next ∧ c.next ≤ c.jobs) ∧ (0 ≤ c.due ∧ c.due ≤ c.next) ∧ (0 ≤ c.room ∧ c.room ≤ c.window) ∧ (0 ≤ c.ops ∧ c.ops ≤ 10000) ∧ (c.hands.length : Int) = c.workers ∧ (c.ring.length : Int) = c.window ∧ (c.queue.length : Int) ≤ c.workers ∧ (c.results.length : Int) ≤ c.workers ∧ c.out.length ≤ 1 ∧ (c.got.length : Int) + (c.out.length : Int) = c.due ∧ c.shut.length = 4 ∧ (∀ z ∈ c.shut, 0 ≤ z ∧ z ≤ 1)
theorem bnd_iff (c : Cw) : bndP c ↔ stOk c.jobs c.workers c.window ∧ stP c ∧ bnd12 c := by
 constructor
 · rintro ⟨hF, hd⟩
   exact ⟨hF.st, ⟨hF.small.1, hF.handsOk, hF.reader, hF.closer, hF.keeper, hF.user⟩, hF.next, hF.due, hF.room, hF.ops, hF.hands, hF.ring, hF.queue, hF.results, hF.out, hd, hF.shut, hF.shuts⟩
 · rintro ⟨h1, ⟨-, h3, h4, h5, h6, h7⟩, a1, a2, a3, a4, a5, a6, a7, a8, a9, a10, a11, a12⟩
   exact ⟨⟨h1, a1, a2, a3, a4, a5, a6, a11, a7, a8, a9, a12, h3, h4, h5, h6, h7⟩, a10⟩
theorem sum_eq {g o : Nat} {d : Int} (h1 : g ≤ 9223372036854775807) (h2 : o ≤ 1) (h3 : 0 ≤ d) (h4 : d ≤ 60) : IntKind.i64.wrap ((g : Int) + (o : Int)) = d ↔ (g : Int) + (o : Int) = d := by
 rw [IntKind.wrap_i64]
 omega
noncomputable def bdOps : Array Oper := fops Tryz.f72 3
theorem bd_s0 (c : Cw) (A : A7) (P : Nat → Prop) (w : World) (W : World) {l : List Value} (hS : Ag P w W c A) (hj : c.jobs ≤ 60) (Q : Exit → Act → World → Prop) (hend : ∀ a' r, Act.eval a' (.tmp 2) = .bool r → a'.defers = [] → (r = true ↔ bnd12 c) → Q .normal a' W) (hl : lookL [(1, .pointer (some ⟨w.heap.size, 0, none⟩))] l = (101, [.pointer (some ⟨w.heap.size, 0, none⟩)])) : wpFrom Tryz.prog bdOps Q 0 ⟨l.toArray, []⟩ W := by
 obtain ⟨v, rfl⟩ := look_fr hl
 clear hl
 refine from_q 4 101 [(1, .pointer (some ⟨w.heap.size, 0, none⟩)), (17, .int .i64 c.next), (19, .int .i64 c.jobs)] ([3, 0].map (tW c A w.heap.size)) (by kernel_rfl) (hS.lds _) fun v => ?_
 refine F_enter (some 20) 95 #[.int .i64 c.next, .int .i64 0, .int .i64 c.jobs] (by kernel_rfl) (isIn_same (c.next) (0) (c.jobs) W) ?_
 rintro e w' ⟨he, hw⟩
 rw [hw, he]
 refine ⟨_, rfl, ?_⟩
 clear he hw e w'
 by_cases g0 : 0 ≤ c.next ∧ c.next ≤ c.jobs
 case neg =>
  rw [decide_eq_false g0]
  exact from_q 81 101 [(2, .bool false)] [] (by kernel_rfl) Lds.nil fun v => from_end (by kernel_rfl) (hend _ false (by kernel_rfl) rfl (iff_of_false Bool.false_ne_true fun h => g0 h.1))
 rw [decide_eq_true g0]
 refine from_q 5 101 [(1, .pointer (some ⟨w.heap.size, 0, none⟩)), (21, .bool true), (23, .int .i64 c.due), (25, .int .i64 c.next)] ([11, 3].map (tW c A w.heap.size)) (by kernel_rfl) (hS.lds _) fun v => ?_
 refine F_enter (some 26) 95 #[.int .i64 c.due, .int .i64 0, .int .i64 c.next] (by kernel_rfl) (isIn_same (c.due) (0) (c.next) W) ?_
 rintro e w' ⟨he, hw⟩
 rw [hw, he]
 refine ⟨_, rfl, ?_⟩
 clear he hw e w'
 by_cases g1 : 0 ≤ c.due ∧ c.due ≤ c.next
 case neg =>
  rw [decide_eq_false g1]
  exact from_q 75 101 [(2, .bool false)] [] (by kernel_rfl) Lds.nil fun v => from_end (by kernel_rfl) (hend _ false (by kernel_rfl) rfl (iff_of_false Bool.false_ne_true fun h => g1 h.2.1))
 rw [decide_eq_true g1]
 refine from_q 6 101 [(1, .pointer (some ⟨w.heap.size, 0, none⟩)), (28, .bool true), (30, .int .i64 c.room), (32, .int .i64 c.window)] ([15, 2].map (tW c A w.heap.size)) (by kernel_rfl) (hS.lds _) fun v => ?_
 refine F_enter (some 33) 95 #[.int .i64 c.room, .int .i64 0, .int .i64 c.window] (by kernel_rfl) (isIn_same (c.room) (0) (c.window) W) ?_
 rintro e w' ⟨he, hw⟩
 rw [hw, he]
 refine ⟨_, rfl, ?_⟩
 clear he hw e w'
 by_cases g2 : 0 ≤ c.room ∧ c.room ≤ c.window
 case neg =>
  rw [decide_eq_false g2]
  exact from_q 68 101 [(2, .bool false)] [] (by kernel_rfl) Lds.nil fun v => from_end (by kernel_rfl) (hend _ false (by kernel_rfl) rfl (iff_of_false Bool.false_ne_true fun h => g2 h.2.2.1))
 rw [decide_eq_true g2]
 refine from_q 4 101 [(1, .pointer (some ⟨w.heap.size, 0, none⟩)), (35, .bool true), (37, .int .i64 c.ops)] ([17].map (tW c A w.heap.size)) (by kernel_rfl) (hS.lds _) fun v => ?_
 refine F_enter (some 38) 95 #[.int .i64 c.ops, .int .i64 0, .int .i64 10000] (by kernel_rfl) (isIn_same (c.ops) (0) (10000) W) ?_
 rintro e w' ⟨he, hw⟩
 rw [hw, he]
 refine ⟨_, rfl, ?_⟩
 clear he hw e w'
 by_cases g3 : 0 ≤ c.ops ∧ c.ops ≤ 10000
 case neg =>
  rw [decide_eq_false g3]
  exact from_q 63 101 [(2, .bool false)] [] (by kernel_rfl) Lds.nil fun v => from_end (by kernel_rfl) (hend _ false (by kernel_rfl) rfl (iff_of_false Bool.false_ne_true fun h => g3 h.2.2.2.1))
 rw [decide_eq_true g3]
 refine from_q 7 101 [(1, .pointer (some ⟨w.heap.size, 0, none⟩)), (40, .bool true), (43, .int .i64 (c.hands.length : Nat)), (45, .int .i64 c.workers)] ([6, 1].map (tW c A w.heap.size)) (by kernel_rfl) (hS.lds _) fun v => ?_
 refine F_one (some 46) (.bool ((((c.hands.length : Nat)) : Int) == ((c.workers) : Int))) _ rfl (by kernel_rfl) ?_
 by_cases g4 : (c.hands.length : Int) = c.workers
 case neg =>
  rw [(show ((((c.hands.length : Nat)) : Int) == ((c.workers) : Int)) = false from by simp only [beq_eq_false_iff_ne, ne_eq]; exact g4)]
  exact from_q 55 101 [(2, .bool false)] [] (by kernel_rfl) Lds.nil fun v => from_end (by kernel_rfl) (hend _ false (by kernel_rfl) rfl (iff_of_false Bool.false_ne_true fun h => g4 h.2.2.2.2.1))
 rw [(show ((((c.hands.length : Nat)) : Int) == ((c.workers) : Int)) = true from by simp only [beq_iff_eq]; exact g4)]
 refine from_q 7 101 [(1, .pointer (some ⟨w.heap.size, 0, none⟩)), (48, .bool true), (51, .int .i64 (c.ring.length : Nat)), (53, .int .i64 c.window)] ([10, 2].map (tW c A w.heap.size)) (by kernel_rfl) (hS.lds _) fun v => ?_
 refine F_one (some 54) (.bool ((((c.ring.length : Nat)) : Int) == ((c.window) : Int))) _ rfl (by kernel_rfl) ?_
 by_cases g5 : (c.ring.length : Int) = c.window
 case neg =>
  rw [(show ((((c.ring.length : Nat)) : Int) == ((c.window) : Int)) = false from by simp only [beq_eq_false_iff_ne, ne_eq]; exact g5)]
  exact from_q 47 101 [(2, .bool false)] [] (by kernel_rfl) Lds.nil fun v => from_end (by kernel_rfl) (hend _ false (by kernel_rfl) rfl (iff_of_false Bool.false_ne_true fun h => g5 h.2.2.2.2.2.1))
 rw [(show ((((c.ring.length : Nat)) : Int) == ((c.window) : Int)) = true from by simp only [beq_iff_eq]; exact g5)]
 refine from_q 7 101 [(1, .pointer (some ⟨w.heap.size, 0, none⟩)), (56, .bool true), (59, .int .i64 (c.queue.length : Nat)), (61, .int .i64 c.workers)] ([5, 1].map (tW c A w.heap.size)) (by kernel_rfl) (hS.lds _) fun v => ?_
 refine F_one (some 62) (.bool (decide ((((c.queue.length : Nat)) : Int) ≤ ((c.workers) : Int)))) _ rfl (by kernel_rfl) ?_
 by_cases g6 : (c.queue.length : Int) ≤ c.workers
 case neg =>
  rw [(show (decide ((((c.queue.length : Nat)) : Int) ≤ ((c.workers) : Int))) = false from decide_eq_false g6)]
  exact from_q 39 101 [(2, .bool false)] [] (by kernel_rfl) Lds.nil fun v => from_end (by kernel_rfl) (hend _ false (by kernel_rfl) rfl (iff_of_false Bool.false_ne_true fun h => g6 h.2.2.2.2.2.2.1))
 rw [(show (decide ((((c.queue.length : Nat)) : Int) ≤ ((c.workers) : Int))) = true from decide_eq_true g6)]
 refine from_q 7 101 [(1, .pointer (some ⟨w.heap.size, 0, none⟩)), (64, .bool true), (67, .int .i64 (c.results.length : Nat)), (69, .int .i64 c.workers)] ([8, 1].map (tW c A w.heap.size)) (by kernel_rfl) (hS.lds _) fun v => ?_
 refine F_one (some 70) (.bool (decide ((((c.results.length : Nat)) : Int) ≤ ((c.workers) : Int)))) _ rfl (by kernel_rfl) ?_
 by_cases g7 : (c.results.length : Int) ≤ c.workers
 case neg =>
  rw [(show (decide ((((c.results.length : Nat)) : Int) ≤ ((c.workers) : Int))) = false from decide_eq_false g7)]
  exact from_q 31 101 [(2, .bool false)] [] (by kernel_rfl) Lds.nil fun v => from_end (by kernel_rfl) (hend _ false (by kernel_rfl) rfl (iff_of_false Bool.false_ne_true fun h => g7 h.2.2.2.2.2.2.2.1))
 rw [(show (decide ((((c.results.length : Nat)) : Int) ≤ ((c.workers) : Int))) = true from decide_eq_true g7)]
 refine from_q 5 101 [(1, .pointer (some ⟨w.heap.size, 0, none⟩)), (72, .bool true), (75, .int .i64 (c.out.length : Nat))] ([12].map (tW c A w.heap.size)) (by kernel_rfl) (hS.lds _) fun v => ?_
 refine F_one (some 76) (.bool (decide ((((c.out.length : Nat)) : Int) ≤ ((1) : Int)))) _ rfl (by kernel_rfl) ?_
 by_cases g8 : (c.out.length : Int) ≤ 1
 case neg =>
  rw [(show (decide ((((c.out.length : Nat)) : Int) ≤ ((1) : Int))) = false from decide_eq_false g8)]
  exact from_q 25 101 [(2, .bool false)] [] (by kernel_rfl) Lds.nil fun v => from_end (by kernel_rfl) (hend _ false (by kernel_rfl) rfl (iff_of_false Bool.false_ne_true fun h => g8 (show (c.out.length : Int) ≤ 1 from by have := h.2.2.2.2.2.2.2.2.1; omega)))
 rw [(show (decide ((((c.out.length : Nat)) : Int) ≤ ((1) : Int))) = true from decide_eq_true g8)]
 refine from_q 11 101 [(1, .pointer (some ⟨w.heap.size, 0, none⟩)), (78, .bool true), (85, .int .i64 (IntKind.i64.wrap ((c.got.length : Nat) + (c.out.length : Nat)))), (87, .int .i64 c.due)] ([14, 12, 11].map (tW c A w.heap.size)) (by kernel_rfl) (hS.lds _) fun v => ?_
 refine F_one (some 88) (.bool ((((IntKind.i64.wrap ((c.got.length : Nat) + (c.out.length : Nat)))) : Int) == ((c.due) : Int))) _ rfl (by kernel_rfl) ?_
 by_cases g9 : (c.got.length : Int) + (c.out.length : Int) = c.due
 case neg =>
  rw [(show ((((IntKind.i64.wrap ((c.got.length : Nat) + (c.out.length : Nat)))) : Int) == ((c.due) : Int)) = false from by simp only [beq_eq_false_iff_ne, ne_eq]; have hq := sum_eq (d := c.due) hS.len_t (o := c.out.length) (by omega) g1.1 (by omega); exact fun e => g9 (hq.1 e))]
  exact from_q 13 101 [(2, .bool false)] [] (by kernel_rfl) Lds.nil fun v => from_end (by kernel_rfl) (hend _ false (by kernel_rfl) rfl (iff_of_false Bool.false_ne_true fun h => g9 h.2.2.2.2.2.2.2.2.2.1))
 rw [(show ((((IntKind.i64.wrap ((c.got.length : Nat) + (c.out.length : Nat)))) : Int) == ((c.due) : Int)) = true from by simp only [beq_iff_eq]; have hq := sum_eq (d := c.due) hS.len_t (o := c.out.length) (by omega) g1.1 (by omega); exact hq.2 g9)]
 refine from_q 5 101 [(1, .pointer (some ⟨w.heap.size, 0, none⟩)), (90, .bool true), (93, .int .i64 (c.shut.length : Nat))] ([16].map (tW c A w.heap.size)) (by kernel_rfl) (hS.lds _) fun v => ?_
 refine F_one (some 94) (.bool ((((c.shut.length : Nat)) : Int) == ((4) : Int))) _ rfl (by kernel_rfl) ?_
 by_cases g10 : (c.shut.length : Int) = 4
 case neg =>
  rw [(show ((((c.shut.length : Nat)) : Int) == ((4) : Int)) = false from by simp only [beq_eq_false_iff_ne, ne_eq]; exact g10)]
  exact from_q 7 101 [(2, .bool false)] [] (by kernel_rfl) Lds.nil fun v => from_end (by kernel_rfl) (hend _ false (by kernel_rfl) rfl (iff_of_false Bool.false_ne_true fun h => g10 (show (c.shut.length : Int) = 4 from by have := h.2.2.2.2.2.2.2.2.2.2.1; omega)))
 rw [(show ((((c.shut.length : Nat)) : Int) == ((4) : Int)) = true from by simp only [beq_iff_eq]; exact g10)]
 refine from_q 4 101 [(96, .bool true), (98, .slice A.s c.shut.length A.ps)] ([16].map (tW c A w.heap.size)) (by kernel_rfl) (hS.lds _) fun v => ?_
 refine F_enter (some 99) 96 #[.slice A.s c.shut.length A.ps, .func (.func 97) #[] #[]] (by kernel_rfl) (allI_any A.s A.ps c.shut W hS.at'.s) ?_
 rintro e w' ⟨⟨r, he, hr⟩, hw⟩
 rw [hw, he]
 refine ⟨_, rfl, ?_⟩
 clear he hw e w'
 by_cases g11 : ∀ z ∈ c.shut, 0 ≤ z ∧ z ≤ 1
 case neg =>
  cases r with
  | true => exact absurd (hr.1 rfl) g11
  | false => exact from_q 2 101 [(2, .bool false)] [] (by kernel_rfl) Lds.nil fun v => from_end (by kernel_rfl) (hend _ false (by kernel_rfl) rfl (iff_of_false Bool.false_ne_true fun h => g11 h.2.2.2.2.2.2.2.2.2.2.2))
 rw [hr.2 g11]
 exact from_q 2 101 [(2, .bool true)] [] (by kernel_rfl) Lds.nil fun v => from_end (by kernel_rfl) (hend _ true (by kernel_rfl) rfl (iff_of_true rfl ⟨g0, g1, g2, g3, g4, g5, g6, g7, (by omega), g9, (by omega), g11⟩))
theorem bounds_any (c : Cw) (A : A7) (P : Nat → Prop) (w : World) (h : CwAt P w c (A.v c)) (hP : ∀ b, P b → b < w.heap.size) : Calls Tryz.prog 72 #[.agg #[.int .i64 c.jobs, .int .i64 c.workers, .int .i64 c.window, .int .i64 c.next, .int .i64 c.reader, .slice A.q c.queue.length A.pq, .slice A.h c.hands.length A.ph, .int .i64 c.closer, .slice A.r c.results.length A.pr, .int .i64 c.keeper, .slice A.g c.ring.length A.pg, .int .i64 c.due, .slice A.o c.out.length A.po, .int .i64 c.user, .slice A.t c.got.length A.pt, .int .i64 c.room, .slice A.s c.shut.length A.ps, .int .i64 c.ops]] w fun e w' => RetB e (bndP c) ∧ Below w.heap.size w w' := by
 have HS := xH (Ag.start h hP)
 have HST := xH (fun W (hW : Ag P w W c A) => statesOk_any c A P W hW.at' hW.hand.2)
 have HSZ := xH (fun W => sizesOk_any c.jobs c.workers c.window W)
 have HIFF := xH (bnd_iff c)
 obtain ⟨dd, hdu, hdr⟩ := rowWorld
 clear h hP
 go_enter Tryz.func72, Tryz.ntmps72
 go_upto_region 1 with fail
 generalize w.alloc (.cells #[.int .i64 c.jobs, .int .i64 c.workers, .int .i64 c.window, .int .i64 c.next, .int .i64 c.reader, .slice A.q c.queue.length A.pq, .slice A.h c.hands.length A.ph, .int .i64 c.closer, .slice A.r c.results.length A.pr, .int .i64 c.keeper, .slice A.g c.ring.length A.pg, .int .i64 c.due, .slice A.o c.out.length A.po, .int .i64 c.user, .slice A.t c.got.length A.pt, .int .i64 c.room, .slice A.s c.shut.length A.ps, .int .i64 c.ops] 26) = W0 at HS ⊢
 have k0 := (xU HS).k0; have k1 := (xU HS).k1; have k2 := (xU HS).k2
 by_cases hst : stOk c.jobs c.workers c.window
 case neg =>
  have HD := xH (show decide ((0 ≤ c.jobs ∧ c.jobs ≤ 60) ∧ (1 ≤ c.workers ∧ c.workers ≤ 8) ∧ (1 ≤ c.window ∧ c.window ≤ 16)) = false from decide_eq_false hst)
  have HNO := xH (show ¬ bndP c from fun h => hst ((xU HIFF).1 h).1)
  clear hst
  go_wp2_with (go_at_call 93; refine (xU HSZ _).mono ?_; rintro e w1 ⟨rfl, hb⟩; rw [xU HD]; have HB := xH ((xU HS).on hb).bel; clear hb)
  go_ret
  exact ⟨RetB.no (xU HNO), xU HB⟩
 have HD := xH (show decide ((0 ≤ c.jobs ∧ c.jobs ≤ 60) ∧ (1 ≤ c.workers ∧ c.workers ≤ 8) ∧ (1 ≤ c.window ∧ c.window ≤ 16)) = true from decide_eq_true hst)
 have HOK := xH hst
 clear hst
 refine wp_region_list ?_
 refine wpList_plain rfl (fun K hK => ?_)
 go_simp
 refine hK _ _ ?_
 clear hK K
 refine wpList_plain rfl (fun K hK => ?_)
 go_simp
 refine hK _ _ ?_
 clear hK K
 refine wpList_plain rfl (fun K hK => ?_)
 go_simp
 refine hK _ _ ?_
 clear hK K
 refine wpList_plain rfl (fun K hK => ?_)
 go_simp
 refine hK _ _ ?_
 clear hK K
 refine wpList_plain rfl (fun K hK => ?_)
 go_simp
 refine hK _ _ ?_
 clear hK K
 refine wpList_plain rfl (fun K hK => ?_)
 go_simp
 refine hK _ _ ?_
 clear hK K
 refine wpList_plain rfl (fun K hK => ?_)
 go_simp
 refine (xU HSZ _).mono ?_
 rintro e w1 ⟨rfl, hb⟩
 rw [xU HD]
 refine hK _ _ ?_
 clear hK K k0 k1 k2
 have HS1 := xH ((xU HS).on hb)
 clear hb HS
 refine wpList_plain rfl (fun K hK => ?_)
 go_simp
 refine hK _ _ ?_
 clear hK K
 refine wpList_plain rfl (fun K hK => ?_)
 go_simp
 refine hK _ _ ?_
 clear hK K
 refine wpList_want (by kernel_rfl) (fun K hK => wp_load_mid _ _ rfl w.heap.size 0 rfl [.int .i64 c.jobs, .int .i64 c.workers, .int .i64 c.window, .int .i64 c.next, .int .i64 c.reader, .slice A.q c.queue.length A.pq, .slice A.h c.hands.length A.ph, .int .i64 c.closer, .slice A.r c.results.length A.pr, .int .i64 c.keeper, .slice A.g c.ring.length A.pg, .int .i64 c.due, .slice A.o c.out.length A.po, .int .i64 c.user, .slice A.t c.got.length A.pt, .int .i64 c.room, .slice A.s c.shut.length A.ps, .int .i64 c.ops] dd (xU HS1).range hdu hdr info18 (hK _ _ ?_))
 refine wpList_want (by kernel_rfl) (fun K hK => ?_)
 go_simp
 refine (xU HST _ (xU HS1)).mono ?_
 rintro e w3 ⟨⟨r, rfl, hr⟩, hb⟩
 refine hK _ _ ?_
 clear hK K
 have HS3 := xH ((xU HS1).on hb)
 have HR := xH hr
 clear hb HS1 hr
 cases r with
 | false =>
   have HNO := xH (show ¬ bndP c from fun h => Bool.false_ne_true ((xU HR).2 ((xU HIFF).1 h).2.1))
   have HB := xH (xU HS3).bel
   clear HR
   go_wp2_with fail
   go_ret
   exact ⟨RetB.no (xU HNO), xU HB⟩
 | true =>
 have HYS := xH ((xU HR).1 rfl)
 clear HR HST HSZ HD
 have HI2 := xH (show bndP c ↔ bnd12 c from ⟨fun h => ((xU HIFF).1 h).2.2, fun h => (xU HIFF).2 ⟨xU HOK, xU HYS, h⟩⟩)
 have HJ60 := xH (show c.jobs ≤ 60 from (xU HOK).1.2)
 clear HIFF HYS HOK
 go_upto_region 3 with fail
 refine wp_swap (c' := Code.region 3 bdOps false) (by kernel_rfl) ?_
 refine wp_region_from ?_
 refine bd_s0 c A P w w3 (xU HS3) (xU HJ60) _ ?_ (by kernel_rfl)
 intro a' r ha hd hr
 have HR := xH (show RetB (.returned (.bool r)) (bndP c) ∧ Below w.heap.size w w3 from ⟨⟨r, rfl, hr.trans (xU HI2).symm⟩, (xU HS3).bel⟩)
 clear hr
 obtain ⟨tm, df⟩ := a'
 simp only at hd
 subst hd
 have HA := xH (show tm.getD 2 undef = .bool r from ha)
 clear ha
 go_wp2_with fail
 refine bodyPost_ret (v := .bool r) ?_ rfl (xU HR)
 have := xU HA
 rw [Array.getD_eq_getD_getElem?] at this
 simp [results, Tryz.results72, go_sem, this]

theorem dueR_any (C : Nat) (c : Cw) (B : CrB) (w : World) (h : CrAt w C c B) (hd : 0 ≤ c.due) : Calls Tryz.prog 119 #[.pointer (some ⟨C, 0, none⟩)] w fun e w' => e = .returned (.bool (dueIn c)) ∧ Below w.heap.size w w' := by
 have s4 := h.szG
 obtain ⟨d, hde⟩ : ∃ d : Nat, c.due = d := ⟨c.due.toNat, by omega⟩
 have hm : c.due.tmod (c.ring.length : Int) = ((dueAt c : Nat) : Int) := by
  rw [hde, Int.tmod_eq_emod_of_nonneg (by omega)]
  unfold dueAt
  rw [hde]
  simp
 have hdl : dueAt c < c.ring.length := Nat.mod_lt _ s4.1
 have hnz : ¬ ((c.ring.length : Int) = 0) := by omega
 have hnz2 : ¬ (c.ring.length = 0) := by omega
 have hv : dueIn c = (c.ring[dueAt c] == c.due) := by unfold dueIn; rw [List.getD_eq_getElem?_getD, List.getElem?_eq_getElem hdl]; rfl
 have e0 := h.g_at (dueAt c) hdl
 rw [hv]
 generalize c.ring[dueAt c] = z at e0 ⊢
 have c8 := h.c8; have c9 := h.c9
 have HB := xH (fun m => below_drewN w m)
 clear hv hde h s4 hd
 generalize dueAt c = q at hm hdl e0
 generalize c.ring.length = n at *
 generalize c.due = du at *
 go_enter Tryz.func119, Tryz.ntmps119
 go_wp2_with fail
 go_quiet (fail)
 go_wp2_with fail
 go_ret
 exact ⟨rfl, xU HB _⟩
theorem keeperOk_any (C : Nat) (c : Cw) (B : CrB) (w : World) (h : CrAt w C c B) (hd : 0 ≤ c.due) : Calls Tryz.prog 106 #[.pointer (some ⟨C, 0, none⟩)] w fun e w' => e = .returned (.bool (eK c)) ∧ Below w.heap.size w w' := by
 have HD := xH (dueR_any C c B w h hd)
 have c7 := h.c7
 clear h hd
 by_cases h0 : c.keeper = 0
 · have q0 : (c.keeper == 0) = true := by simp [h0]
   have HV := xH (show eK c = !dueIn c from by simp [eK, h0])
   clear h0
   go_enter Tryz.func106, Tryz.ntmps106
   go_wp2_with (go_at_call 119; refine (xU HD).mono ?_; rintro e w2 ⟨rfl, hb⟩; have HB := xH hb; clear hb)
   go_ret
   exact ⟨by rw [xU HV]; rfl, xU HB⟩
 · have q0 : (c.keeper == 0) = false := by simp [h0]
   by_cases h2 : c.keeper = 2
   · have q2 : (c.keeper == 2) = true := by simp [h2]
     have HV := xH (show eK c = dueIn c from by simp [eK, h2])
     clear h0 h2
     go_enter Tryz.func106, Tryz.ntmps106
     go_wp2_with (go_at_call 119; refine (xU HD).mono ?_; rintro e w2 ⟨rfl, hb⟩; have HB := xH hb; clear hb)
     go_ret
     exact ⟨by rw [xU HV]; rfl, xU HB⟩
   · have q2 : (c.keeper == 2) = false := by simp [h2]
     have HV := xH (show eK c = true from by simp [eK, h0, h2])
     clear h0 h2
     go_enter Tryz.func106, Tryz.ntmps106
     go_wp2_with fail
     go_ret
     exact ⟨by rw [xU HV]; rfl, Below.refl _ _⟩
theorem closedOk_any (C : Nat) (c : Cw) (B : CrB) (w : World) (h : CrAt w C c B) : Calls Tryz.prog 104 #[.pointer (some ⟨C, 0, none⟩)] w fun e w' => e = .returned (.bool (clsB c)) ∧ Below w.heap.size w w' := by
 have HB := xH (fun m => below_drewN w m)
 have p0 := h.c3; have f0 := h.c2
 have HS0 := xH (fun m => shutI_any B.Q (shZ c 0) (w.drewN m) ((h.dn m).q3))
 have p1 := h.c6; have f1 := h.c5
 have HS1 := xH (fun m => shutI_any B.R (shZ c 1) (w.drewN m) ((h.dn m).r3))
 have p2 := h.c10; have f2 := h.c7
 have HS2 := xH (fun m => shutI_any B.O (shZ c 2) (w.drewN m) ((h.dn m).o3))
 have HV := xH (show clsB c = ((decide (0 < shZ c 0) == decide (c.reader = 3)) && (decide (0 < shZ c 1) == decide (c.closer = 1)) && (decide (0 < shZ c 2) == decide (c.keeper = 5))) from rfl)
 generalize clsB c = res at *
 clear h
 generalize decide (0 < shZ c 0) = a0 at *
 generalize decide (0 < shZ c 1) = a1 at *
 generalize decide (0 < shZ c 2) = a2 at *
 cases q0 : (a0 == (c.reader == 3))
 · have HV2 := xH (show res = false from by rw [xU HV, show (a0 == decide (c.reader = 3)) = false from q0]; simp)
   clear HV
   go_enter Tryz.func104, Tryz.ntmps104
   go_wp2_with fail
   go_quiet (first
    | (go_at_call 116; exact Calls.quiet_of_same (xU HS0 _)))
   go_wp2_with fail
   go_ret
   exact ⟨by rw [xU HV2]; rfl, xU HB _⟩
 · rw [show (a0 == decide (c.reader = 3)) = true from q0] at HV
   cases q1 : (a1 == (c.closer == 1))
   · have HV2 := xH (show res = false from by rw [xU HV, show (a1 == decide (c.closer = 1)) = false from q1]; simp)
     clear HV
     go_enter Tryz.func104, Tryz.ntmps104
     go_wp2_with fail
     go_quiet (first
      | (go_at_call 116; exact Calls.quiet_of_same (xU HS0 _))
      | (go_at_call 116; exact Calls.quiet_of_same (xU HS1 _)))
     go_wp2_with fail
     go_ret
     exact ⟨by rw [xU HV2]; rfl, xU HB _⟩
   · rw [show (a1 == decide (c.closer = 1)) = true from q1] at HV
     cases q2 : (a2 == (c.keeper == 5))
     · have HV2 := xH (show res = false from by rw [xU HV, show (a2 == decide (c.keeper = 5)) = false from q2]; simp)
       clear HV
       go_enter Tryz.func104, Tryz.ntmps104
       go_wp2_with fail
       go_quiet (first
        | (go_at_call 116; exact Calls.quiet_of_same (xU HS0 _))
        | (go_at_call 116; exact Calls.quiet_of_same (xU HS1 _))
        | (go_at_call 116; exact Calls.quiet_of_same (xU HS2 _)))
       go_wp2_with fail
       go_ret
       exact ⟨by rw [xU HV2]; rfl, xU HB _⟩
     · rw [show (a2 == decide (c.keeper = 5)) = true from q2] at HV
       have HV2 := xH (show res = true from by rw [xU HV]; rfl)
       clear HV
       go_enter Tryz.func104, Tryz.ntmps104
       go_wp2_with fail
       go_quiet (first
        | (go_at_call 116; exact Calls.quiet_of_same (xU HS0 _))
        | (go_at_call 116; exact Calls.quiet_of_same (xU HS1 _))
        | (go_at_call 116; exact Calls.quiet_of_same (xU HS2 _)))
       go_wp2_with fail
       go_ret
       exact ⟨by rw [xU HV2]; rfl, xU HB _⟩
end Go.Proofs.YtibgjcejddpldaaGreat
