/- The walks of the specification's l6In, l6NameOk, l1Rise: what they answer. No conditions. -/
import Derived.Test.YtbkagahmiibclaaGreatDoorRows
import Derived.Test.YtbkagahmiibclaaGreatDoorPart03
import Derived.Deep.RegionWith
import Derived.Deep.QuietTactic
import Derived.BigQuiet
import Derived.WalkSmall
import Derived.Test.YtbkagahmiibclaaGreatDoorPart00
namespace Go.Proofs.YtbkagahmiibclaaGreatDoor
open Go Go.RowKit

set_option maxHeartbeats 400000 in
theorem l6In_any (n lo hi : Int) (w : World) :
    Calls Tryz.prog 22 #[.int .i64 n, .int .i64 lo, .int .i64 hi] w fun e w' => e = .returned (.bool (decide (lo ≤ n ∧ n ≤ hi))) ∧ w' = w := by
  by_cases h1 : lo ≤ n
  · by_cases h2 : n ≤ hi
    · go_enter Tryz.func22, Tryz.ntmps22
      go_wp2_with fail
      go_ret
      exact ⟨by simp [h1, h2], rfl⟩
    · go_enter Tryz.func22, Tryz.ntmps22
      go_wp2_with fail
      go_ret
      exact ⟨ret_bool (by symm; simp; omega), rfl⟩
  · go_enter Tryz.func22, Tryz.ntmps22
    go_wp2_with fail
    go_ret
    exact ⟨ret_bool (by symm; simp; omega), rfl⟩

set_option maxHeartbeats 400000 in
theorem l6NameOk_any (s : ByteArray) (w : World) (hs : s.size ≤ 9223372036854775807) :
    Calls Tryz.prog 21 #[.string s] w fun e w' => e = .returned (.bool (nameOkB s)) ∧ w' = w := by
  by_cases h1 : 1 ≤ s.size ∧ s.size ≤ 8
  · obtain ⟨h1, h8⟩ := h1
    have hd : decide ((1 : Int) ≤ s.size ∧ (s.size : Int) ≤ 8) = true := by simp; omega
    have hc0 : s[0].toNat < 97 ∨ 122 < s[0].toNat ∨ (97 ≤ s[0].toNat ∧ s[0].toNat ≤ 122) := by omega
    rcases hc0 with hc | hc | hc
    · go_enter Tryz.func21, Tryz.ntmps21
      go_wp2_with (go_at_call 22; refine (l6In_any _ _ _ _).mono ?_; rintro e w' ⟨rfl, rfl⟩)
      go_ret
      exact ⟨ret_bool (nameOk_first (by omega) (Or.inl hc)).symm, rfl⟩
    · go_enter Tryz.func21, Tryz.ntmps21
      go_wp2_with (go_at_call 22; refine (l6In_any _ _ _ _).mono ?_; rintro e w' ⟨rfl, rfl⟩)
      go_ret
      exact ⟨ret_bool (nameOk_first (by omega) (Or.inr hc)).symm, rfl⟩
    · have HF := hide hc
      obtain ⟨hca, hcb⟩ := hc
      go_enter Tryz.func21, Tryz.ntmps21
      go_wp2_with (go_at_call 22; refine (l6In_any _ _ _ _).mono ?_; rintro e w' ⟨rfl, rfl⟩)
      go_loop [3] (fun i => ∃ k : Nat, k ≤ s.size ∧ i = .int .i64 k ∧ Hid (allTo nameByte s k)) (fun i => s.size - (intOf i).toNat)
      case atStart => exact ⟨0, Nat.zero_le _, rfl, fun j hj => by omega⟩
      case round =>
        obtain ⟨k, hk, rfl, HA⟩ := hrel
        by_cases hlt : k < s.size
        · have hc : s[k].toNat < 48 ∨ (57 < s[k].toNat ∧ s[k].toNat < 97) ∨ 122 < s[k].toNat ∨ (97 ≤ s[k].toNat ∧ s[k].toNat ≤ 122) ∨ (48 ≤ s[k].toNat ∧ s[k].toNat ≤ 57) := by omega
          rcases hc with hc | hc | hc | hc | hc
          · have HC := hide (nameOk_not hlt (nameByte_no (Or.inl hc)))
            have d1 : decide ((97 : Int) ≤ s[k].toNat) = false := by simp; omega
            have d2 : decide ((s[k].toNat : Int) ≤ 122) = true := by simp; omega
            have d3 : decide ((48 : Int) ≤ s[k].toNat) = false := by simp; omega
            have d4 : decide ((s[k].toNat : Int) ≤ 57) = true := by simp; omega
            go_wp2_with fail
            go_ret
            exact ⟨ret_bool (unhide HC).symm, rfl⟩
          · have HC := hide (nameOk_not hlt (nameByte_no (Or.inr (Or.inl hc))))
            obtain ⟨hc1, hc2⟩ := hc
            have d1 : decide ((97 : Int) ≤ s[k].toNat) = false := by simp; omega
            have d2 : decide ((s[k].toNat : Int) ≤ 122) = true := by simp; omega
            have d3 : decide ((48 : Int) ≤ s[k].toNat) = true := by simp; omega
            have d4 : decide ((s[k].toNat : Int) ≤ 57) = false := by simp; omega
            go_wp2_with fail
            go_ret
            exact ⟨ret_bool (unhide HC).symm, rfl⟩
          · have HC := hide (nameOk_not hlt (nameByte_no (Or.inr (Or.inr hc))))
            have d1 : decide ((97 : Int) ≤ s[k].toNat) = true := by simp; omega
            have d2 : decide ((s[k].toNat : Int) ≤ 122) = false := by simp; omega
            have d3 : decide ((48 : Int) ≤ s[k].toNat) = true := by simp; omega
            have d4 : decide ((s[k].toNat : Int) ≤ 57) = false := by simp; omega
            go_wp2_with fail
            go_ret
            exact ⟨ret_bool (unhide HC).symm, rfl⟩
          · have HN := hide (allTo_succ HA.out hlt (nameByte_yes (Or.inl hc)))
            obtain ⟨hc1, hc2⟩ := hc
            have d1 : decide ((97 : Int) ≤ s[k].toNat) = true := by simp; omega
            have d2 : decide ((s[k].toNat : Int) ≤ 122) = true := by simp; omega
            have d3 : decide ((48 : Int) ≤ s[k].toNat) = true := by simp; omega
            have d4 : decide ((s[k].toNat : Int) ≤ 57) = false := by simp; omega
            go_wp2_with fail
            go_round
            case rel => exact ⟨k + 1, by omega, by go_num, HN⟩
            case measure => simp [intOf]; omega
          · have HN := hide (allTo_succ HA.out hlt (nameByte_yes (Or.inr hc)))
            obtain ⟨hc1, hc2⟩ := hc
            have d1 : decide ((97 : Int) ≤ s[k].toNat) = false := by simp; omega
            have d2 : decide ((s[k].toNat : Int) ≤ 122) = true := by simp; omega
            have d3 : decide ((48 : Int) ≤ s[k].toNat) = true := by simp; omega
            have d4 : decide ((s[k].toNat : Int) ≤ 57) = true := by simp; omega
            go_wp2_with fail
            go_round
            case rel => exact ⟨k + 1, by omega, by go_num, HN⟩
            case measure => simp [intOf]; omega
        · go_wp2_with fail
          go_ret
          obtain rfl : k = s.size := by omega
          exact ⟨ret_bool (nameOk_yes (by omega) (by omega) (unhide HF) HA.out).symm, rfl⟩
  · have hd : decide ((1 : Int) ≤ s.size ∧ (s.size : Int) ≤ 8) = false := by simp; omega
    go_enter Tryz.func21, Tryz.ntmps21
    go_wp2_with (go_at_call 22; refine (l6In_any _ _ _ _).mono ?_; rintro e w' ⟨rfl, rfl⟩)
    go_ret
    exact ⟨ret_bool (nameOk_len (by omega)).symm, rfl⟩

theorem geqS (t : TypeId) (a b : ByteArray) : binOp .geq t (.string a) (.string b) = pure (.bool !(Op.bytesLess a.toList b.toList)) := by simp [binOp, Op.stringOp]

set_option maxHeartbeats 400000 in
theorem l1Rise_any (v : Value) (ss : List ByteArray) (w : World) {P : Nat → Prop} (hP : ∀ b, P b → b < w.heap.size) (hv : StrsAt P w v ss) :
    Calls Tryz.prog 117 #[v] w fun e w' => e = .returned (.bool (riseB ss)) ∧ Below w.heap.size w w' := by
  obtain ⟨a, cap, rfl, hlen, hc⟩ := hv
  have HC := hide hc; have HP := hide hP
  clear hc hP
  go_enter Tryz.func117, Tryz.ntmps117
  go_wp2_with fail
  go_loopw [3] (fun i wr => ∃ (k : Nat), k ≤ ss.length ∧ i = .int .i64 k ∧ Hid (∀ j, j < k → good ss j = true) ∧ Below w.heap.size w wr) (fun i _ => ss.length - (intOf i).toNat)
  case atStart => exact ⟨0, Nat.zero_le _, rfl, hide (fun j hj => by omega), Below.refl _ _⟩
  case round =>
    obtain ⟨k, hk, rfl, HG, hb⟩ := hrel
    by_cases hlt : k < ss.length
    · obtain ⟨b, o, rfl, hpb, hcell, hsz⟩ := unhide HC k hlt
      have e1 : wr.cell? ⟨b, o + k, none⟩ = some (.string ss[k]) := by rw [hb.cell (unhide HP b hpb)]; exact hcell
      clear hcell hpb
      have hname := fun w => l6NameOk_any ss[k] w hsz
      have HN := hide hname; clear hname
      by_cases hn : nameOkB ss[k] = true
      · by_cases h0 : 0 < k
        · obtain ⟨b', o', he, hpb, hcell, -⟩ := unhide HC (k - 1) (by omega)
          simp only [Option.some.injEq, Addr.mk.injEq, and_true] at he
          obtain ⟨rfl, rfl⟩ := he
          have e0 : wr.cell? ⟨b, o + (k - 1), none⟩ = some (.string (ss[k - 1]'(by omega))) := by rw [hb.cell (unhide HP b hpb)]; exact hcell
          have hd0 : decide ((0 : Int) < k) = true := by simp; omega
          have hgd := good_pos hlt h0 hn
          generalize hlb : Op.bytesLess (ss[k - 1]'(by omega)).toList ss[k].toList = lb at hgd
          have hi1 : ((k : Int) - 1).toNat = k - 1 := by omega
          have HGD := hide hgd
          clear hcell hpb hgd
          have hge := geqS
          cases lb
          · have HR := hide (rise_no hlt (unhide HGD))
            go_wp2_with fail
            go_quiet ((go_at_call 21; exact Calls.quiet_of_same (unhide HN _)))
            go_wp2_with fail
            go_ret
            exact ⟨ret_bool (unhide HR).symm, below_drewN hb _⟩
          · go_wp2_with fail
            go_quiet ((go_at_call 21; exact Calls.quiet_of_same (unhide HN _)))
            go_wp2_with fail
            go_roundw
            case rel => exact ⟨k + 1, by omega, by go_num, hide (fun j hj => by
              by_cases e : j = k
              · subst e; exact unhide HGD
              · exact HG.out j (by omega)), below_drewN hb _⟩
            case measure => simp [intOf]; omega
        · have hd0 : decide (0 < k) = false := by simp; omega
          have HK0 : Hid (k = 0) := by show k = 0; omega
          clear h0
          go_wp2_with fail
          go_quiet ((go_at_call 21; exact Calls.quiet_of_same (unhide HN _)))
          go_wp2_with fail
          go_roundw
          case rel => exact ⟨k + 1, by omega, by go_num, hide (fun j hj => by have := HK0.out; subst this; obtain rfl : j = 0 := by omega
                                                                              exact good_zero hlt hn), below_drewN hb _⟩
          case measure => simp [intOf]; omega
      · have hn' : nameOkB ss[k] = false := by simpa using hn
        have HR := hide (rise_no hlt (good_name hlt hn'))
        clear hn
        go_wp2_with fail
        go_quiet ((go_at_call 21; exact Calls.quiet_of_same (unhide HN _)))
        go_wp2_with fail
        go_ret
        exact ⟨ret_bool (unhide HR).symm, below_drewN hb _⟩
    · go_wp2_with fail
      go_ret
      exact ⟨ret_bool (rise_yes (fun i hi => HG.out i (by omega))).symm, hb⟩
end Go.Proofs.YtbkagahmiibclaaGreatDoor

/- What a schema's parts are by the specification, and by the program's walk: they count alike. Plain functions on data; no program, no conditions. -/

namespace Go.Proofs.YtbkagahmiibclaaGreatDoor
open Go Go.RowKit

/-- A schema is ok, but for its kids and the bounds. -/
def shB (k : Kd) : Bool :=
  if k.sort = 1 ∨ k.sort = 2 ∨ k.sort = 3 then decide (k.kids.length = 0 ∧ k.names.length = 0)
  else if k.sort = 4 ∨ k.sort = 6 then decide (k.kids.length = 1 ∧ k.names.length = 0)
  else if k.sort = 5 then decide (k.kids.length = k.names.length) && riseB k.names
  else false

mutual
/-- The parts of a schema at a level, -1 if it is not ok: by the specification. -/
def qT : Kd → Int → Int
  | .mk s ns ks, d => if 6 < d ∨ shB (.mk s ns ks) = false then -1 else qK ks d 1
def qK : List Kd → Int → Int → Int
  | [], _, n => n
  | t :: r, d, n => if qT t (d + 1) < 0 ∨ 40 < n + qT t (d + 1) then -1 else qK r d (n + qT t (d + 1))
end

theorem qT_eq (t : Kd) (d : Int) : qT t d = if 6 < d ∨ shB t = false then -1 else qK t.kids d 1 := by
  obtain ⟨s, ns, ks⟩ := t
  rw [qT]; rfl

theorem qK_bd (ks : List Kd) (d n : Int) (h0 : 1 ≤ n) (h1 : n ≤ 40) : qK ks d n = -1 ∨ (1 ≤ qK ks d n ∧ qK ks d n ≤ 40) := by
  induction ks generalizing n with
  | nil => rw [qK]; omega
  | cons t r ih =>
    rw [qK]
    split
    · exact Or.inl rfl
    · exact ih _ (by omega) (by omega)

theorem qT_bd (t : Kd) (d : Int) : qT t d = -1 ∨ (1 ≤ qT t d ∧ qT t d ≤ 40) := by
  rw [qT_eq]
  split
  · exact Or.inl rfl
  · exact qK_bd _ _ _ (by omega) (by omega)

theorem qK_step {ks : List Kd} {k : Nat} (hk : k < ks.length) (d n : Int) : qK (ks.drop k) d n = if qT ks[k] (d + 1) < 0 ∨ 40 < n + qT ks[k] (d + 1) then -1 else qK (ks.drop (k + 1)) d (n + qT ks[k] (d + 1)) := by
  rw [List.drop_eq_getElem_cons hk, qK]

mutual
/-- A schema and all below it, with their levels, a node ahead of its kids. -/
def pord : Kd → Int → List (Int × Kd)
  | .mk s ns ks, l => (l, .mk s ns ks) :: pordK ks (l + 1)
def pordK : List Kd → Int → List (Int × Kd)
  | [], _ => []
  | t :: r, l => pord t l ++ pordK r l
end

theorem pord_eq (t : Kd) (l : Int) : pord t l = (l, t) :: pordK t.kids (l + 1) := by
  obtain ⟨s, ns, ks⟩ := t
  rw [pord]; rfl

/-- What is asked of a node. -/
def gdB (x : Int × Kd) : Bool := decide (x.1 ≤ 6) && shB x.2

mutual
theorem qT_pord : ∀ (t : Kd) (d : Int), qT t d = if (pord t d).all gdB = true ∧ (pord t d).length ≤ 40 then ((pord t d).length : Int) else -1
  | .mk s ns ks, d => by
    rw [qT, pord]
    by_cases h : 6 < d ∨ shB (.mk s ns ks) = false
    · rw [if_pos h, if_neg]
      rintro ⟨h1, -⟩
      simp only [List.all_cons, Bool.and_eq_true, gdB, decide_eq_true_eq] at h1
      rcases h with h | h
      · omega
      · rw [h] at h1; simp at h1
    · have h1 : d ≤ 6 := by omega
      have h2 : shB (.mk s ns ks) = true := by
        cases hh : shB (.mk s ns ks)
        · exact absurd (Or.inr hh) h
        · rfl
      have hg : gdB (d, .mk s ns ks) = true := by simp [gdB, h1, h2]
      rw [if_neg h, qK_pord ks d 1 (by omega) (by omega)]
      simp only [List.all_cons, hg, Bool.true_and, List.length_cons]
      by_cases hx : (pordK ks (d + 1)).all gdB = true ∧ (1 : Int) + (pordK ks (d + 1)).length ≤ 40
      · rw [if_pos hx, if_pos ⟨hx.1, by omega⟩]; omega
      · rw [if_neg hx, if_neg (fun hy => hx ⟨hy.1, by omega⟩)]
theorem qK_pord : ∀ (ks : List Kd) (d n : Int), 1 ≤ n → n ≤ 40 → qK ks d n = if (pordK ks (d + 1)).all gdB = true ∧ n + (pordK ks (d + 1)).length ≤ 40 then n + ((pordK ks (d + 1)).length : Int) else -1
  | [], d, n => by
    intro h1 h2
    rw [qK, pordK]
    simp [h2]
  | t :: r, d, n => by
    intro h1 h2
    rw [qK, pordK, qT_pord t (d + 1)]
    simp only [List.all_append, List.length_append, Bool.and_eq_true]
    by_cases ha : (pord t (d + 1)).all gdB = true ∧ (pord t (d + 1)).length ≤ 40
    · rw [if_pos ha]
      by_cases hb : n + ((pord t (d + 1)).length : Int) ≤ 40
      · rw [if_neg (by omega), qK_pord r d _ (by omega) hb]
        by_cases hx : (pordK r (d + 1)).all gdB = true ∧ n + ((pord t (d + 1)).length : Int) + (pordK r (d + 1)).length ≤ 40
        · rw [if_pos hx, if_pos ⟨⟨ha.1, hx.1⟩, by omega⟩]; omega
        · rw [if_neg hx, if_neg (fun hy => hx ⟨hy.1.2, by omega⟩)]
      · rw [if_pos (by omega), if_neg (fun hy => by omega)]
    · rw [if_neg ha, if_pos (by omega), if_neg (fun hy => ha ⟨hy.1.1, by omega⟩)]
end

/-- The walk ends just if the schema is ok. -/
theorem qT_start (t : Kd) : decide (0 < qT t 1) = ((pord t 1).all gdB && decide ((pord t 1).length ≤ 40)) := by
  have hl : 0 < (pord t 1).length := by rw [pord_eq]; simp
  rw [qT_pord]
  by_cases h : (pord t 1).all gdB = true ∧ (pord t 1).length ≤ 40
  · rw [if_pos h]; simp only [h.1, h.2, decide_true, Bool.and_self]; simp; omega
  · rw [if_neg h]
    symm
    rw [show decide ((0 : Int) < -1) = false from rfl]
    cases hh : (pord t 1).all gdB
    · rfl
    · simp only [Bool.true_and, decide_eq_false_iff_not]; exact fun hy => h ⟨hh, hy⟩

end Go.Proofs.YtbkagahmiibclaaGreatDoor
