/- The walks of the program's namesAscend and kindShaped: what they answer. No conditions. -/
import Derived.Test.YtjlllkigeandeaaWSpecS
import Derived.Test.YtjlllkigeandeaaWName
import Derived.Test.YtjlllkigeandeaaKMath
namespace Go.Proofs.Ytjlllkigeandeaa
open Go Go.RowKit

set_option maxHeartbeats 400000 in
theorem namesAscend_any (v : Value) (ss : List ByteArray) (w : World) {P : Nat → Prop} (hP : ∀ b, P b → b < w.heap.size) (hv : StrsAt P w v ss) :
    Calls Try.prog 22 #[v] w fun e w' => e = .returned (.bool (riseB ss)) ∧ w' = w := by
  obtain ⟨a, cap, rfl, hlen, hc⟩ := hv
  have HC := hide hc; have HP := hide hP
  clear hc hP
  go_enter Try.func22, Try.ntmps22
  go_wp2_with fail
  go_loop [7] (fun i => ∃ (k : Nat), k ≤ ss.length ∧ i = .int .i64 k ∧ Hid (∀ j, j < k → good ss j = true)) (fun i => ss.length - (intOf i).toNat)
  case atStart => exact ⟨0, Nat.zero_le _, rfl, hide (fun j hj => by omega)⟩
  case round =>
    obtain ⟨k, hk, rfl, HG⟩ := hrel
    by_cases hlt : k < ss.length
    · obtain ⟨b, o, rfl, hpb, hcell, hsz⟩ := unhide HC k hlt
      have hname := fun w => nameOk_any ss[k] w hsz
      have HN := hide hname; clear hname hpb
      by_cases hn : nameOkB ss[k] = true
      · by_cases h0 : 0 < k
        · obtain ⟨b', o', he, -, e0, -⟩ := unhide HC (k - 1) (by omega)
          simp only [Option.some.injEq, Addr.mk.injEq, and_true] at he
          obtain ⟨rfl, rfl⟩ := he
          have hd0 : decide ((0 : Int) < k) = true := by simp; omega
          have hgd := good_pos hlt h0 hn
          generalize hlb : Op.bytesLess (ss[k - 1]'(by omega)).toList ss[k].toList = lb at hgd
          have hi1 : ((k : Int) - 1).toNat = k - 1 := by omega
          have HGD := hide hgd
          clear hgd
          have hge := geqS
          cases lb
          · have HR := hide (rise_no hlt (unhide HGD))
            go_wp2_with (go_at_call 24; refine (unhide HN _).mono ?_; rintro e w' ⟨rfl, rfl⟩)
            go_ret
            exact ⟨ret_bool (unhide HR).symm, rfl⟩
          · go_wp2_with (go_at_call 24; refine (unhide HN _).mono ?_; rintro e w' ⟨rfl, rfl⟩)
            go_round
            case rel => exact ⟨k + 1, by omega, by go_num, hide (fun j hj => by
              by_cases e : j = k
              · subst e; exact unhide HGD
              · exact HG.out j (by omega))⟩
            case measure => simp [intOf]; omega
        · have hd0 : decide (0 < k) = false := by simp; omega
          have HK0 : Hid (k = 0) := by show k = 0; omega
          clear h0
          go_wp2_with (go_at_call 24; refine (unhide HN _).mono ?_; rintro e w' ⟨rfl, rfl⟩)
          go_round
          case rel => exact ⟨k + 1, by omega, by go_num, hide (fun j hj => by have := HK0.out; subst this; obtain rfl : j = 0 := by omega
                                                                              exact good_zero hlt hn)⟩
          case measure => simp [intOf]; omega
      · have hn' : nameOkB ss[k] = false := by simpa using hn
        have HR := hide (rise_no hlt (good_name hlt hn'))
        clear hn
        go_wp2_with (go_at_call 24; refine (unhide HN _).mono ?_; rintro e w' ⟨rfl, rfl⟩)
        go_ret
        exact ⟨ret_bool (unhide HR).symm, rfl⟩
    · go_wp2_with fail
      go_ret
      exact ⟨ret_bool (rise_yes (fun i hi => HG.out i (by omega))).symm, rfl⟩

set_option maxHeartbeats 800000 in
theorem kindShaped_any (t : Kd) (P : Nat → Prop) (c : C3) (w : World) (hP : ∀ b, P b → b < w.heap.size) (hrep : KRep P w t c) :
    Calls Try.prog 15 #[.agg #[c.c0, c.c1, c.c2]] w fun e w' => e = .returned (.bool (shB t)) ∧ ∃ o, w' = w.alloc o := by
  obtain ⟨c0, c1, c2⟩ := c
  obtain ⟨e0, -, hns, a, cap, e2, hlen, -⟩ := hrep.open
  simp only at e0 e2 hns
  have HN := hide hns
  obtain ⟨a3, cap3, e1, hl3, -⟩ := hns
  subst e0 e1 e2
  clear hrep
  have hbx : ∀ o, Below w.heap.size w (w.alloc o) := fun o => (Below.refl _ _).alloc (Nat.le_refl _) o
  have hcall : ∀ o, Calls Try.prog 22 #[.slice a3 t.names.length cap3] (w.alloc o) fun e w' => e = .returned (.bool (riseB t.names)) ∧ w' = w.alloc o := fun o =>
    namesAscend_any _ t.names (w.alloc o) (P := P) (fun b hb => Nat.lt_of_lt_of_le (hP b hb) (hbx o).size) ((unhide HN).carry (fun b hb => (hbx o).block b (hP b hb)) (fun _ h => h))
  have HC := hide hcall
  clear hcall hbx hP HN
  by_cases h1 : t.sort = 1
  · have d1 : (t.sort == 1) = true := by simp [h1]
    have d2 : (t.sort == 2) = false := by simp [h1]
    have d3 : (t.sort == 3) = false := by simp [h1]
    have d4 : (t.sort == 4) = false := by simp [h1]
    have d6 : (t.sort == 6) = false := by simp [h1]
    have d5 : (t.sort == 5) = false := by simp [h1]
    have hsh : shB t = (decide (t.kids.length = 0) && decide (t.names.length = 0)) := by simp [shB, h1]
    have HSH := hide hsh; clear hsh h1
    go_enter Try.func15, Try.ntmps15
    go_wp2_with (go_at_call 22; refine (unhide HC _).mono ?_; rintro e w' ⟨rfl, rfl⟩)
    all_goals
      go_ret
      refine ⟨ret_bool ?_, _, rfl⟩
      rw [unhide HSH]
      clear HSH HC d1 d2 d3 d4 d5 d6
      rw [Bool.eq_iff_iff]
      simp_all <;> omega
  by_cases h2 : t.sort = 2
  · have d1 : (t.sort == 1) = false := by simp [h2]
    have d2 : (t.sort == 2) = true := by simp [h2]
    have d3 : (t.sort == 3) = false := by simp [h2]
    have d4 : (t.sort == 4) = false := by simp [h2]
    have d6 : (t.sort == 6) = false := by simp [h2]
    have d5 : (t.sort == 5) = false := by simp [h2]
    have hsh : shB t = (decide (t.kids.length = 0) && decide (t.names.length = 0)) := by simp [shB, h2]
    have HSH := hide hsh; clear hsh h1 h2
    go_enter Try.func15, Try.ntmps15
    go_wp2_with (go_at_call 22; refine (unhide HC _).mono ?_; rintro e w' ⟨rfl, rfl⟩)
    all_goals
      go_ret
      refine ⟨ret_bool ?_, _, rfl⟩
      rw [unhide HSH]
      clear HSH HC d1 d2 d3 d4 d5 d6
      rw [Bool.eq_iff_iff]
      simp_all <;> omega
  by_cases h3 : t.sort = 3
  · have d1 : (t.sort == 1) = false := by simp [h3]
    have d2 : (t.sort == 2) = false := by simp [h3]
    have d3 : (t.sort == 3) = true := by simp [h3]
    have d4 : (t.sort == 4) = false := by simp [h3]
    have d6 : (t.sort == 6) = false := by simp [h3]
    have d5 : (t.sort == 5) = false := by simp [h3]
    have hsh : shB t = (decide (t.kids.length = 0) && decide (t.names.length = 0)) := by simp [shB, h3]
    have HSH := hide hsh; clear hsh h1 h2 h3
    go_enter Try.func15, Try.ntmps15
    go_wp2_with (go_at_call 22; refine (unhide HC _).mono ?_; rintro e w' ⟨rfl, rfl⟩)
    all_goals
      go_ret
      refine ⟨ret_bool ?_, _, rfl⟩
      rw [unhide HSH]
      clear HSH HC d1 d2 d3 d4 d5 d6
      rw [Bool.eq_iff_iff]
      simp_all <;> omega
  by_cases h4 : t.sort = 4
  · have d1 : (t.sort == 1) = false := by simp [h4]
    have d2 : (t.sort == 2) = false := by simp [h4]
    have d3 : (t.sort == 3) = false := by simp [h4]
    have d4 : (t.sort == 4) = true := by simp [h4]
    have d6 : (t.sort == 6) = false := by simp [h4]
    have d5 : (t.sort == 5) = false := by simp [h4]
    have hsh : shB t = (decide (t.kids.length = 1) && decide (t.names.length = 0)) := by simp [shB, h4]
    have HSH := hide hsh; clear hsh h1 h2 h3 h4
    go_enter Try.func15, Try.ntmps15
    go_wp2_with (go_at_call 22; refine (unhide HC _).mono ?_; rintro e w' ⟨rfl, rfl⟩)
    all_goals
      go_ret
      refine ⟨ret_bool ?_, _, rfl⟩
      rw [unhide HSH]
      clear HSH HC d1 d2 d3 d4 d5 d6
      rw [Bool.eq_iff_iff]
      simp_all <;> omega
  by_cases h6 : t.sort = 6
  · have d1 : (t.sort == 1) = false := by simp [h6]
    have d2 : (t.sort == 2) = false := by simp [h6]
    have d3 : (t.sort == 3) = false := by simp [h6]
    have d4 : (t.sort == 4) = false := by simp [h6]
    have d6 : (t.sort == 6) = true := by simp [h6]
    have d5 : (t.sort == 5) = false := by simp [h6]
    have hsh : shB t = (decide (t.kids.length = 1) && decide (t.names.length = 0)) := by simp [shB, h6]
    have HSH := hide hsh; clear hsh h1 h2 h3 h4 h6
    go_enter Try.func15, Try.ntmps15
    go_wp2_with (go_at_call 22; refine (unhide HC _).mono ?_; rintro e w' ⟨rfl, rfl⟩)
    all_goals
      go_ret
      refine ⟨ret_bool ?_, _, rfl⟩
      rw [unhide HSH]
      clear HSH HC d1 d2 d3 d4 d5 d6
      rw [Bool.eq_iff_iff]
      simp_all <;> omega
  by_cases h5 : t.sort = 5
  · have d1 : (t.sort == 1) = false := by simp [h5]
    have d2 : (t.sort == 2) = false := by simp [h5]
    have d3 : (t.sort == 3) = false := by simp [h5]
    have d4 : (t.sort == 4) = false := by simp [h5]
    have d6 : (t.sort == 6) = false := by simp [h5]
    have d5 : (t.sort == 5) = true := by simp [h5]
    have hsh : shB t = (decide (t.kids.length = t.names.length) && riseB t.names) := by simp [shB, h5]
    have HSH := hide hsh; clear hsh h1 h2 h3 h4 h6 h5
    go_enter Try.func15, Try.ntmps15
    go_wp2_with (go_at_call 22; refine (unhide HC _).mono ?_; rintro e w' ⟨rfl, rfl⟩)
    all_goals
      go_ret
      refine ⟨ret_bool ?_, _, rfl⟩
      rw [unhide HSH]
      clear HSH HC d1 d2 d3 d4 d5 d6
      rw [Bool.eq_iff_iff]
      simp_all <;> omega
  have d1 : (t.sort == 1) = false := by simp [h1]
  have d2 : (t.sort == 2) = false := by simp [h2]
  have d3 : (t.sort == 3) = false := by simp [h3]
  have d4 : (t.sort == 4) = false := by simp [h4]
  have d6 : (t.sort == 6) = false := by simp [h6]
  have d5 : (t.sort == 5) = false := by simp [h5]
  have hsh : shB t = false := by simp [shB, h1, h2, h3, h4, h5, h6]
  have HSH := hide hsh; clear hsh h1 h2 h3 h4 h5 h6
  go_enter Try.func15, Try.ntmps15
  go_wp2_with fail
  go_ret
  exact ⟨ret_bool (unhide HSH).symm, _, rfl⟩
end Go.Proofs.Ytjlllkigeandeaa
