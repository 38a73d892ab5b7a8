/- The walks of the program's statesOk and of allHold at numbers. No conditions. -/
import Derived.Test.YtibgjcejddpldaaGreatPart12
namespace Go.Proofs.YtibgjcejddpldaaGreat
open Go Go.RowKit

theorem in01_any (z : Int) (w : World) : Calls Tryz.prog 97 #[.int .i64 z] w fun e w' => e = .returned (.bool (decide (0 ≤ z ∧ z ≤ 1))) ∧ w' = w := by
  have HIN := hide (fun W => isIn_same z 0 1 W)
  generalize decide (0 ≤ z ∧ z ≤ 1) = b at *
  go_enter Tryz.func97, Tryz.ntmps97
  go_wp2_with (go_at_call 95; refine (unhide HIN _).mono ?_; rintro e w2 ⟨rfl, hb⟩; have hb' := hb.symm; subst hb'; clear hb)
  go_ret
  exact ⟨rfl, rfl⟩
set_option maxRecDepth 100000 in
set_option maxHeartbeats 1600000 in
theorem allI_any (a : Option Addr) (cap : Nat) (zs : List Int) (w : World) {P : Nat → Prop} (h : ZAt P w (.slice a zs.length cap) zs) : Calls Tryz.prog 96 #[.slice a zs.length cap, .func (.func 97) #[] #[]] w fun e w' => RetB e (∀ z ∈ zs, 0 ≤ z ∧ z ≤ 1) ∧ w' = w := by
  obtain ⟨a', cap', e, hl, hc⟩ := h.open
  simp only [Value.slice.injEq] at e
  obtain ⟨rfl, -, rfl⟩ := e
  have HC := hide hc
  clear h hc
  go_enter Tryz.func96, Tryz.ntmps96
  go_wp2_with fail
  go_loopw [9] (fun i wr => ∃ (k : Nat), k ≤ zs.length ∧ i = .int .i64 k ∧ wr = w ∧ Hid (∀ j, (hj : j < zs.length) → j < k → (0 ≤ zs[j] ∧ zs[j] ≤ 1))) (fun i _ => zs.length - (intOf i).toNat)
  case atStart => exact ⟨0, Nat.zero_le _, rfl, rfl, hide (fun j _ hj => absurd hj (by omega))⟩
  case round =>
    obtain ⟨k, hk, rfl, hwr, HA⟩ := hrel
    subst hwr
    by_cases hlt : k < zs.length
    · obtain ⟨b, o, rfl, -, e0⟩ := unhide HC k hlt
      have HIN := hide (fun W => in01_any zs[k] W)
      by_cases h3 : 0 ≤ zs[k] ∧ zs[k] ≤ 1
      · rw [decide_eq_true h3] at HIN
        have HN := hide (show ∀ j, (hj : j < zs.length) → j < k + 1 → (0 ≤ zs[j] ∧ zs[j] ≤ 1) from fun j hj hjk => by
          by_cases e : j = k
          · subst e; exact h3
          · exact HA.out j hj (by omega))
        clear h3
        generalize zs[k] = z at *
        go_wp2_with (go_at_call 97; refine (unhide HIN _).mono ?_; rintro e w2 ⟨rfl, hb⟩; have hb' := hb.symm; subst hb'; clear hb)
        go_roundw
        case rel => exact ⟨k + 1, by omega, by go_num, by first | rfl | trivial, HN⟩
        case measure => simp [intOf]; omega
      · rw [decide_eq_false h3] at HIN
        have HNO := hide (show ¬ ∀ z ∈ zs, 0 ≤ z ∧ z ≤ 1 from fun h => h3 (h _ (List.getElem_mem hlt)))
        clear h3
        generalize zs[k] = z at *
        go_wp2_with (go_at_call 97; refine (unhide HIN _).mono ?_; rintro e w2 ⟨rfl, hb⟩; have hb' := hb.symm; subst hb'; clear hb)
        go_ret
        exact ⟨RetB.no (unhide HNO), rfl⟩
    · have HY := hide (show ∀ z ∈ zs, 0 ≤ z ∧ z ≤ 1 from fun z hz => by
        obtain ⟨j, hj, rfl⟩ := List.getElem_of_mem hz
        exact HA.out j hj (by omega))
      obtain rfl : k = zs.length := by omega
      go_wp2_with fail
      go_ret
      exact ⟨RetB.yes (unhide HY), rfl⟩
def stP (c : Cw) : Prop := c.hands.length ≤ 8 ∧ (∀ h ∈ c.hands, handOk h) ∧ fE c
set_option maxRecDepth 100000 in
set_option maxHeartbeats 6400000 in
theorem statesOk_any (c : Cw) (A : A7) (P : Nat → Prop) (w : World) (h : CwAt P w c (A.v c)) (hP : ∀ b, P b → b < w.heap.size) : Calls Tryz.prog 94 #[.agg #[.int .i64 c.jobs, .int .i64 c.workers, .int .i64 c.window, .int .i64 c.next, .int .i64 c.reader, .slice A.q c.queue.length A.pq, .slice A.h c.hands.length A.ph, .int .i64 c.closer, .slice A.r c.results.length A.pr, .int .i64 c.keeper, .slice A.g c.ring.length A.pg, .int .i64 c.due, .slice A.o c.out.length A.po, .int .i64 c.user, .slice A.t c.got.length A.pt, .int .i64 c.room, .slice A.s c.shut.length A.ps, .int .i64 c.ops]] w fun e w' => RetB e (stP c) ∧ Below w.heap.size w w' := by
  obtain ⟨aq, ah, ar, ag, ao, at1, as1, pq, ph, pr, pg, po, pt, ps⟩ := A
  have hs := Ag.start h hP
  dsimp only at hs ⊢
  have HS := hide hs
  have hll := hs.len_h
  clear h hP hs
  go_enter Tryz.func94, Tryz.ntmps94
  go_upto_region 1 with fail
  generalize w.alloc (.cells #[.int .i64 c.jobs, .int .i64 c.workers, .int .i64 c.window, .int .i64 c.next, .int .i64 c.reader, .slice aq c.queue.length pq, .slice ah c.hands.length ph, .int .i64 c.closer, .slice ar c.results.length pr, .int .i64 c.keeper, .slice ag c.ring.length pg, .int .i64 c.due, .slice ao c.out.length po, .int .i64 c.user, .slice at1 c.got.length pt, .int .i64 c.room, .slice as1 c.shut.length ps, .int .i64 c.ops] 26) = W0 at HS ⊢
  have k6 := (unhide HS).k6
  dsimp only at k6
  by_cases hg : c.hands.length ≤ 8
  case neg =>
    have q : decide ((8 : Int) < (c.hands.length : Int)) = true := by simp; omega
    have q2 : decide (8 < c.hands.length) = true := by simp; omega
    have HNO := hide (show ¬ stP c from fun h => hg h.1)
    have HB := hide (unhide HS).bel
    clear hg
    go_wp2_with fail
    go_ret
    exact ⟨RetB.no (unhide HNO), unhide HB⟩
  have q : decide ((8 : Int) < (c.hands.length : Int)) = false := by simp; omega
  have q2 : decide (8 < c.hands.length) = false := by simp; omega
  have HG8 := hide hg
  clear hg
  go_wp2_with fail
  clear q q2 k6
  go_loopw [12] (fun i wr => ∃ (k : Nat), k ≤ c.hands.length ∧ i = .int .i64 k ∧ Hid (Ag P w wr c ⟨aq, ah, ar, ag, ao, at1, as1, pq, ph, pr, pg, po, pt, ps⟩) ∧ Hid (∀ j, (hj : j < c.hands.length) → j < k → handOk c.hands[j])) (fun i _ => c.hands.length - (intOf i).toNat)
  case atStart => exact ⟨0, Nat.zero_le _, rfl, HS, hide (fun j _ hj => absurd hj (by omega))⟩
  case round =>
    obtain ⟨k, hk, rfl, HG, HA⟩ := hrel
    by_cases hlt : k < c.hands.length
    · obtain ⟨b, o, ha, e0, e1⟩ := HG.out.at_h k hlt
      dsimp only at ha
      subst ha
      have HNO := hide (show ¬ handOk c.hands[k] → ¬ stP c from fun hn h => hn (h.2.1 _ (List.getElem_mem hlt)))
      have HN := hide (show handOk c.hands[k] → ∀ j, (hj : j < c.hands.length) → j < k + 1 → handOk c.hands[j] from fun h3 j hj hjk => by
          by_cases e : j = k
          · subst e; exact h3
          · exact HA.out j hj (by omega))
      have HGA := hide (fun ob => HG.out.on ((Below.refl _ wr).alloc (Nat.le_refl _) ob))
      generalize c.hands[k] = hd at *
      obtain ⟨st, jb⟩ := hd
      simp only at e0 e1
      have hbw : wr.heap.size < (wr.alloc (.cells #[.int .i64 st, .int .i64 jb] 73)).heap.size := by simp
      have x1 : (wr.alloc (.cells #[.int .i64 st, .int .i64 jb] 73)).cell? ⟨wr.heap.size, 1, none⟩ = some (.int .i64 jb) := by simp
      have HIN := hide (fun W => isIn_same st 0 3 W)
      have HJB := hide (fun W => hasJob_any st jb W)
      by_cases hi : 0 ≤ st ∧ st ≤ 3
      case neg =>
        rw [decide_eq_false hi] at HIN
        have HNO2 := hide (unhide HNO (fun h => hi h.1))
        clear hi HNO HN
        go_wp2_with (go_at_call 95; refine (unhide HIN _).mono ?_; rintro e w2 ⟨rfl, hb⟩; have hb' := hb.symm; subst hb'; clear hb)
        go_ret
        exact ⟨RetB.no (unhide HNO2), (unhide HGA _).bel⟩
      rw [decide_eq_true hi] at HIN
      cases hbz : busyH ⟨st, jb⟩ with
      | true =>
        have HN2 := hide (unhide HN ⟨hi, fun h => by rw [hbz] at h; cases h⟩)
        rw [hbz] at HJB
        clear hi hbz HNO HN
        go_wp2_with (first
          | (go_at_call 95; refine (unhide HIN _).mono ?_; rintro e w2 ⟨rfl, hb⟩; have hb' := hb.symm; subst hb'; clear hb)
          | (go_at_call 112; refine (unhide HJB _).mono ?_; rintro e w5 ⟨rfl, hb5⟩; have HG6 := hide ((unhide HGA _).on hb5); clear hb5))
        go_roundw
        case rel => exact ⟨k + 1, by omega, by go_num, HG6, HN2⟩
        case measure => simp [intOf]; omega
      | false =>
        rw [hbz] at HJB
        by_cases hj0 : jb = 0
        · have HN2 := hide (unhide HN ⟨hi, fun _ => hj0⟩)
          have qj : (jb != 0) = false := by simp [hj0]
          clear hi hbz hj0 HNO HN
          go_wp2_with (first
            | (go_at_call 95; refine (unhide HIN _).mono ?_; rintro e w2 ⟨rfl, hb⟩; have hb' := hb.symm; subst hb'; clear hb)
            | (go_at_call 112; refine (unhide HJB _).mono ?_; rintro e w5 ⟨rfl, hb5⟩; have HG6 := hide ((unhide HGA _).on hb5); have x2 : w5.cell? ⟨wr.heap.size, 1, none⟩ = some (.int .i64 jb) := (by rw [World.cell?_of_block (a := ⟨wr.heap.size, 1, none⟩) (hb5.block _ hbw)]; exact x1); clear hb5))
          go_roundw
          case rel => exact ⟨k + 1, by omega, by go_num, HG6, HN2⟩
          case measure => simp [intOf]; omega
        · have HNO2 := hide (unhide HNO (fun h => hj0 (h.2 hbz)))
          have qj : (jb != 0) = true := by simp [hj0]
          clear hi hbz hj0 HNO HN
          go_wp2_with (first
            | (go_at_call 95; refine (unhide HIN _).mono ?_; rintro e w2 ⟨rfl, hb⟩; have hb' := hb.symm; subst hb'; clear hb)
            | (go_at_call 112; refine (unhide HJB _).mono ?_; rintro e w5 ⟨rfl, hb5⟩; have HG6 := hide ((unhide HGA _).on hb5); have x2 : w5.cell? ⟨wr.heap.size, 1, none⟩ = some (.int .i64 jb) := (by rw [World.cell?_of_block (a := ⟨wr.heap.size, 1, none⟩) (hb5.block _ hbw)]; exact x1); clear hb5))
          go_ret
          exact ⟨RetB.no (unhide HNO2), (unhide HG6).bel⟩
    · have HH := hide (show ∀ h ∈ c.hands, handOk h from fun h hh => by
        obtain ⟨j, hj, rfl⟩ := List.getElem_of_mem hh
        exact HA.out j hj (by omega))
      obtain rfl : k = c.hands.length := by omega
      have k4 := HG.out.k4; have k7 := HG.out.k7; have k9 := HG.out.k9; have k13 := HG.out.k13
      have HB := hide HG.out.bel
      have HF := hide (show stP c ↔ ((0 ≤ c.reader ∧ c.reader ≤ 3) ∧ (0 ≤ c.closer ∧ c.closer ≤ 1) ∧ (0 ≤ c.keeper ∧ c.keeper ≤ 5) ∧ (0 ≤ c.user ∧ c.user ≤ 1)) from ⟨fun h => h.2.2, fun h => ⟨unhide HG8, unhide HH, h⟩⟩)
      clear HA HG HH hk hlt
      by_cases p0 : 0 ≤ c.reader ∧ c.reader ≤ 3
      case neg =>
        have D0 := hide (decide_eq_false p0)
        have HNO := hide (show ¬ stP c from fun h => p0 ((unhide HF).1 h).1)
        clear p0
        go_wp2_with (go_at_call 95; refine (isIn_same _ _ _ _).mono ?_; rintro e w2 ⟨rfl, hb⟩; have hb' := hb.symm; subst hb'; clear hb; first | rw [unhide D0])
        go_ret
        exact ⟨RetB.no (unhide HNO), unhide HB⟩
      have D0 := hide (decide_eq_true p0)
      by_cases p1 : 0 ≤ c.closer ∧ c.closer ≤ 1
      case neg =>
        have D1 := hide (decide_eq_false p1)
        have HNO := hide (show ¬ stP c from fun h => p1 ((unhide HF).1 h).2.1)
        clear p1 p0
        go_wp2_with (go_at_call 95; refine (isIn_same _ _ _ _).mono ?_; rintro e w2 ⟨rfl, hb⟩; have hb' := hb.symm; subst hb'; clear hb; first | rw [unhide D0] | rw [unhide D1])
        go_ret
        exact ⟨RetB.no (unhide HNO), unhide HB⟩
      have D1 := hide (decide_eq_true p1)
      by_cases p2 : 0 ≤ c.keeper ∧ c.keeper ≤ 5
      case neg =>
        have D2 := hide (decide_eq_false p2)
        have HNO := hide (show ¬ stP c from fun h => p2 ((unhide HF).1 h).2.2.1)
        clear p2 p0 p1
        go_wp2_with (go_at_call 95; refine (isIn_same _ _ _ _).mono ?_; rintro e w2 ⟨rfl, hb⟩; have hb' := hb.symm; subst hb'; clear hb; first | rw [unhide D0] | rw [unhide D1] | rw [unhide D2])
        go_ret
        exact ⟨RetB.no (unhide HNO), unhide HB⟩
      have D2 := hide (decide_eq_true p2)
      by_cases p3 : 0 ≤ c.user ∧ c.user ≤ 1
      case neg =>
        have D3 := hide (decide_eq_false p3)
        have HNO := hide (show ¬ stP c from fun h => p3 ((unhide HF).1 h).2.2.2)
        clear p3 p0 p1 p2
        go_wp2_with (go_at_call 95; refine (isIn_same _ _ _ _).mono ?_; rintro e w2 ⟨rfl, hb⟩; have hb' := hb.symm; subst hb'; clear hb; first | rw [unhide D0] | rw [unhide D1] | rw [unhide D2] | rw [unhide D3])
        go_ret
        exact ⟨RetB.no (unhide HNO), unhide HB⟩
      have D3 := hide (decide_eq_true p3)
      have HY := hide (show stP c from (unhide HF).2 ⟨p0, p1, p2, p3⟩)
      clear p0 p1 p2 p3
      go_wp2_with (go_at_call 95; refine (isIn_same _ _ _ _).mono ?_; rintro e w2 ⟨rfl, hb⟩; have hb' := hb.symm; subst hb'; clear hb; first | rw [unhide D0] | rw [unhide D1] | rw [unhide D2] | rw [unhide D3])
      go_ret
      exact ⟨RetB.yes (unhide HY), unhide HB⟩
end Go.Proofs.YtibgjcejddpldaaGreat

/- Great plain regions, operation by operation, each side condition by one look of the kernel's: no program. No conditions. -/

namespace Go.Proofs.YtibgjcejddpldaaGreat
open Go Go.RowKit

section
variable {P : Program} {ops : Array Oper} {Q : Exit → Act → World → Prop}
/-- From operation k on. -/
structure wpFrom (P : Program) (ops : Array Oper) (Q : Exit → Act → World → Prop) (k : Nat) (a : Act) (w : World) : Prop where
  out : wpList P ops Q (ops.toList.drop k) a w
theorem wp_region_from {id : Nat} {a : Act} {w : World} (h : wpFrom P ops Q 0 a w) : (Code.region id ops false).wp P Q a w := wp_region_list (by simpa using h.out)
theorem from_eq {k : Nat} {a a' : Act} {w : World} (ha : a = a') (h : wpFrom P ops Q k a' w) : wpFrom P ops Q k a w := by rw [ha]; exact h
theorem from_end {k : Nat} {a : Act} {w : World} (hk : decide (ops.size ≤ k) = true) (h : Q .normal a w) : wpFrom P ops Q k a w := by
  refine ⟨?_⟩
  rw [List.drop_eq_nil_of_le (by simpa using hk)]
  exact h
theorem from_step {k : Nat} {a : Act} {w : World} {d : Option Tmp} (hb : opG ops k d = true)
    (h : if Region.wanted (opI ops k) (yielded ops a.tmps) then (opI ops k).wp P a w (wpFrom P ops Q (k + 1)) Q else wpFrom P ops Q (k + 1) (a.put d undef) w) : wpFrom P ops Q k a w := by
  unfold opG at hb
  simp only [Bool.and_eq_true, decide_eq_true_eq] at hb
  obtain ⟨h1, h2⟩ := hb
  have hl : ops.toList.drop k = opI ops k :: ops.toList.drop (k + 1) := by
    rw [List.drop_eq_getElem_cons (by simpa using h1)]
    congr 1
    unfold opI
    rw [Array.getElem?_eq_getElem h1]
    rfl
  refine ⟨?_⟩
  rw [hl]
  unfold wpList
  subst h2
  by_cases hw : Region.wanted (opI ops k) (yielded ops a.tmps) = true
  · rw [if_pos hw] at h ⊢; exact Or.inl (Oper.wp_mono (fun a w h => h.out) h)
  · rw [if_neg hw] at h ⊢; exact h.out
theorem from_skip {k : Nat} {a : Act} {w : World} (d : Option Tmp) (hb : opG ops k d = true) (hw : Region.wanted (opI ops k) (yielded ops a.tmps) = false) (h : wpFrom P ops Q (k + 1) (a.put d undef) w) : wpFrom P ops Q k a w :=
  from_step hb (by rw [if_neg (by rw [hw]; simp)]; exact h)
theorem from_val {k : Nat} {a : Act} {w : World} (d : Option Tmp) (v v' : Value) (hv : v = v') (hb : opG ops k d = true) (hw : Region.wanted (opI ops k) (yielded ops a.tmps) = true) (hr : (execOp a.eval (opI ops k)).run P w = .ok (.value v) w) (h : wpFrom P ops Q (k + 1) (a.put d v') w) : wpFrom P ops Q k a w := by
  have hd : (opI ops k).dst = d := by unfold opG at hb; simp only [Bool.and_eq_true, decide_eq_true_eq] at hb; exact hb.2
  refine from_step hb ?_
  rw [if_pos hw]
  unfold Oper.wp
  rw [hr, Oper.upon_value, hd, hv]
  exact h
theorem from_load {k : Nat} {a : Act} {w : World} (d : Option Tmp) (T : TypeId) (x : Operand) (ad : Addr) (v : Value) (hb : opG ops k d = true) (hw : Region.wanted (opI ops k) (yielded ops a.tmps) = true) (ho : (opI ops k).op = .load T x) (hx : a.eval x = .pointer (some ad)) (hl : (Instr.loadAt T (.pointer (some ad))).run P w = .ok v w) (h : wpFrom P ops Q (k + 1) (a.put d v) w) : wpFrom P ops Q k a w := by
  refine from_val d v v rfl hb hw ?_ h
  unfold execOp
  simp only [ho, hx, Sem.run_bind, Sem.run_pure, Result.andThen_ok, hl]
theorem from_enter {k : Nat} {a : Act} {w : World} (d : Option Tmp) (f : FuncId) (args : Array Value) {R : Ending → World → Prop} (hb : opG ops k d = true) (hw : Region.wanted (opI ops k) (yielded ops a.tmps) = true) (hr : (execOp a.eval (opI ops k)).run P w = .ok (.enter f args) w) (hc : Calls P f args w R) (h : ∀ e w', R e w' → ∃ u, e = .returned u ∧ wpFrom P ops Q (k + 1) (a.put d u) w') : wpFrom P ops Q k a w := by
  have hd : (opI ops k).dst = d := by unfold opG at hb; simp only [Bool.and_eq_true, decide_eq_true_eq] at hb; exact hb.2
  refine from_step hb ?_
  rw [if_pos hw]
  unfold Oper.wp
  rw [hr]
  refine Calls.mono hc fun e w' he => ?_
  obtain ⟨u, rfl, hK⟩ := h e w' he
  rw [hd]
  exact hK
end
end Go.Proofs.YtibgjcejddpldaaGreat
