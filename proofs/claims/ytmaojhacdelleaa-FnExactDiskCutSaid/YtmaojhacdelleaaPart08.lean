/- The walk of the specification's l41After: the names behind so many moves, in new memory. Conditions: at most 1000 names and moves. -/
import Derived.Test.YtmaojhacdelleaaPart04
import Derived.Test.YtmaojhacdelleaaRows
import Derived.Test.YtmaojhacdelleaaPart07
import Derived.Deep.RegionWith
import Derived.Deep.QuietTactic
import Derived.BigQuiet
import Derived.WalkSmall
namespace Go.Proofs.Ytmaojhacdelleaa
open Go Go.RowKit

set_option maxHeartbeats 1600000 in
theorem l41After_any (d : Dk) (P : Nat → Prop) (c : C3) (w : World) (hP : ∀ b, P b → b < w.heap.size) (hd : DkAt P w d c) (hl1 : d.names.length ≤ 1000) (hl2 : d.moves.length ≤ 1000) (q : Nat) (hq : q ≤ d.moves.length) :
    Calls Try.prog 57 #[.agg #[c.c0, c.c1, c.c2], .int .i64 (q : Int)] w fun e w' => ∃ a n cap, e = .returned (.slice a n cap) ∧ Hid (NmOwn w w' (.slice a n cap) n (afterD d.names (d.moves.take q))) := by
  obtain ⟨c0, c1, c2⟩ := c
  obtain ⟨a0, p0, g0, -, -⟩ := hd.fs.open
  obtain ⟨a1, p1, g1, -, hnc⟩ := hd.ns
  obtain ⟨a2, p2, g2, -, hmc⟩ := hd.ms.open
  simp only at g0 g1 g2
  subst g0 g1 g2
  obtain ⟨j0, hj, hy0, hy1, hy2⟩ := infoStrD
  have HJJ := hide hj; have HY0 := hide hy0; have HY1 := hide hy1; have HY2 := hide hy2
  have hsz : ∀ x, x ∈ d.names → x.size ≤ 9223372036854775807 := fun x hx => by
    obtain ⟨i, hi, rfl⟩ := List.getElem_of_mem hx
    obtain ⟨_, _, _, _, _, h⟩ := hnc i hi
    exact h
  obtain ⟨W0, hW0⟩ : ∃ W0, w.alloc (.cells #[.slice a0 d.files.length p0, .slice a1 d.names.length p1, .slice a2 d.moves.length p2] 34) = W0 := ⟨_, rfl⟩
  have hb0 : Below w.heap.size w W0 := by rw [← hW0]; exact (Below.refl _ _).alloc (Nat.le_refl _) _
  have hs0 : W0.heap.size = w.heap.size + 1 := by rw [← hW0]; simp
  have hrow : W0.rowIs w.heap.size 34 3 (row3 (.slice a0 d.files.length p0) (.slice a1 d.names.length p1) (.slice a2 d.moves.length p2)) := by rw [← hW0]; exact row3_alloc w _ _ _ _
  have hemp := empty_row (base := W0.heap.size) (size := 1) (World.rowIs_alloc W0 #[] 9 (fun _ => .bool false) (fun i hi => by simp at hi)) (Nat.le_refl _)
  rw [hs0] at hemp
  have hsrc := names_srcD (hd.ns.carry (P := P) (Q := P) (w' := W0) (fun b hb => hb0.block b (hP b hb)) (fun _ h => h)) (.cells #[] 9)
  have hxl : (d.names.map Value.string).length = d.names.length * 1 := by simp
  have hbe : Below W0.heap.size W0 (W0.alloc (.cells #[] 9)) := (Below.refl _ _).alloc (Nat.le_refl _) _
  have hse : (W0.alloc (.cells #[] 9)).heap.size = w.heap.size + 2 := by simp [hs0]
  have HROW := hide hrow; have HEMP := hide hemp; have HSRC := hide hsrc; have HSZ := hide hsz; have HMC := hide hmc; have HB0 := hide hb0; have HP := hide hP; have HXL := hide hxl; have HBE := hide hbe; have HSE := hide hse
  clear hd hnc hmc hsz hb0 hrow hemp hsrc hP hj hy0 hy1 hy2 hxl hbe hse
  have HMM := hide (fun k (hk : k < d.moves.length) => after_take (ns := d.names) hk)
  have HM0 := hide (show afterD d.names (d.moves.take 0) = d.names by simp [afterD])
  generalize hnf : d.files.length = nf at *
  generalize hnn : d.names.length = nn at *
  have HNN := hide hnn
  clear hnf hnn
  subst hW0
  go_enter Try.func57, Try.ntmps57
  go_wp2_with (at_builtin; refine append_copyD _ rfl _ _ 23 rfl (w.heap.size + 1) 9 j0 (.string ByteArray.empty) 1 16 Try.underlying23 (unhide HJJ) (unhide HY0) (unhide HY1) (unhide HY2) rfl (by decide) (w.heap.size + 1) rfl (unhide HEMP) a1 nn p1 (d.names.map Value.string) rfl (unhide HXL) (unhide HSRC) (fun u hu => by obtain ⟨y, -, rfl⟩ := List.mem_map.1 hu; rfl) (by unfold maxLen; omega) (by omega) (by have := unhide HSE; omega) ?_; intro g cap w2 HO HG)
  have hb2 : Below (w.heap.size + 1) (w.alloc (.cells #[.slice a0 nf p0, .slice a1 nn p1, .slice a2 d.moves.length p2] 34)) w2 :=
    below_grown (by have := unhide HSE; omega) ((unhide HBE).mono (by omega)) HG.out (fun x e => by cases e; omega)
  have HB2 := hide hb2
  clear hb2 HG HEMP HSRC HBE
  go_loopw [5, 6] (fun vo i wr => ∃ (k n : Nat) (ao : Option Addr) (co : Nat), k ≤ q ∧ n ≤ nn + k ∧ i = .int .i64 k ∧ vo = .slice ao n co ∧ Hid (n = (afterD d.names (d.moves.take k)).length) ∧ Hid (wr.ownsRow (w.heap.size + 1) 9 1 (.slice ao n co) n ((afterD d.names (d.moves.take k)).map Value.string)) ∧ Hid (∀ y, y ∈ afterD d.names (d.moves.take k) → y.size ≤ 9223372036854775807) ∧ Hid (Below (w.heap.size + 1) (w.alloc (.cells #[.slice a0 nf p0, .slice a1 nn p1, .slice a2 d.moves.length p2] 34)) wr)) (fun _ i _ => q - (intOf i).toNat)
  case atStart => exact ⟨0, nn, _, _, Nat.zero_le _, by omega, rfl, rfl, hide (by rw [unhide HM0]; exact (unhide HNN).symm), hide (by rw [unhide HM0]; exact HO.out), hide (by rw [unhide HM0]; exact unhide HSZ), HB2⟩
  case round =>
    clear HO HB2
    obtain ⟨k, n, ao, co, hk, hn, rfl, rfl, HQ, HO, HY, HB⟩ := hrel
    have hrow := (unhide HROW).of_block (HB.out.block w.heap.size (by omega))
    have k2 := hrow.cell (i := 2) (by omega)
    simp only [row3] at k2
    have hbs : w.heap.size + 1 ≤ wr.heap.size := by have := HB.out.size; rw [hs0] at this; exact this
    by_cases hlt : k < q
    · have hlm : k < d.moves.length := by omega
      obtain ⟨b, o, rfl, hpb, hc0, hc1, hok⟩ := unhide HMC k hlm
      have hcar : ∀ o', wr.cell? ⟨b, o', none⟩ = w.cell? ⟨b, o', none⟩ := fun o' => by
        have hbl := unhide HP b hpb
        rw [World.cell?_of_block (w := w) ((HB.out.block b (by omega)).trans ((unhide HB0).block b hbl))]
      have e0 : wr.cell? ⟨b, o + k * 2, none⟩ = some (.bool d.moves[k].gone) := by rw [hcar]; exact hc0
      have e1 : wr.cell? ⟨b, o + k * 2 + 1, none⟩ = some (.string d.moves[k].name) := by rw [hcar]; exact hc1
      have hmz : d.moves[k].name.size ≤ 9223372036854775807 := hok
      have HT := hide (unhide HMM k hlm)
      clear hc0 hc1 hcar hpb hok hrow
      unfold stepD at HT
      cases e : d.moves[k].gone with
      | true =>
        rw [e] at HT e0
        simp only [if_true] at HT
        generalize d.moves[k].name = y at *
        have HW := hide (l41Without_any (.slice ao n co) (afterD d.names (d.moves.take k)) y wr (fun b hb => hb.2) (strsAt_own (by rw [← HQ.out]; exact HO.out) HY.out) (by have := HQ.out; omega))
        go_wp2_with fail
        refine (unhide HW).mono ?_
        rintro e' w5 ⟨a5, n5, c5, rfl, h5, HO5, hb5⟩
        have HB5 := hide (HB.out.trans (hb5.mono hbs))
        have hl5 := without_len (afterD d.names (d.moves.take k)) y
        have hn5 : n5 ≤ nn + k := by have := HQ.out; omega
        have H5 := hide h5
        clear hb5 HW hl5 h5
        go_wp2_with fail
        go_roundw
        case rel => exact ⟨k + 1, n5, a5, c5, by omega, by omega, by go_num, rfl, hide (by rw [unhide HT]; exact unhide H5), hide (by rw [unhide HT]; exact ownsRow_base HO5.out hbs), hide (by
          rw [unhide HT]
          exact fun z hz => HY.out z (List.mem_filter.1 hz).1), HB5⟩
        case measure => simp [intOf]; omega
      | false =>
        rw [e] at HT e0
        simp only [Bool.false_eq_true, if_false] at HT
        generalize d.moves[k].name = y at *
        go_wp2_with (at_builtin; (refine append_row _ rfl _ _ 23 rfl (w.heap.size + 1) 9 j0 (.string ByteArray.empty) 1 16 Try.underlying23 (unhide HJJ) (unhide HY0) (unhide HY1) (unhide HY2) rfl (by decide) (.slice ao n co) n ((afterD d.names (d.moves.take k)).map Value.string) rfl (World.ownsRow.alloc HO.out _) ⟨wr.heap.size, 0, none⟩ 1 1 [.string y] rfl rfl (cell_one wr _ _) (fun u hu => by simp at hu; subst hu; rfl) (by decide) (by unfold maxLen; omega) (by omega) (by simp; omega) ?_; intro v' w5 hown5 hgrow5 hat5; obtain ⟨g5, cap5, rfl, -, -⟩ := hown5.form (by omega); have HO5 := hide hown5; have HB5 := hide (below_grown (by simp; omega) (HB.out.alloc hbs (.cells #[.string y] 9)) hgrow5 (fun b e => (HO.out.lt b e).1)); clear hown5 hgrow5 hat5))
        go_roundw
        case rel => exact ⟨k + 1, n + 1, some ⟨g5, 0, none⟩, cap5, by omega, by omega, by go_num, rfl, hide (by rw [unhide HT]; have := HQ.out; simp; omega), hide (by
          rw [unhide HT]
          have := unhide HO5
          simpa using this), hide (by
          rw [unhide HT]
          intro z hz
          rcases List.mem_append.1 hz with h | h
          · exact HY.out z h
          · simp at h; rw [h]; exact hmz), HB5⟩
        case measure => simp [intOf]; omega
    · obtain rfl : k = q := by omega
      go_wp2_with fail
      go_ret
      exact ⟨ao, n, co, rfl, ⟨ownsRow_base HO.out (by omega), HQ.out, HY.out, (unhide HB0).trans (HB.out.mono (by omega))⟩⟩
end Go.Proofs.Ytmaojhacdelleaa

/- The walks of the specification's l6In, l6NameOk, l1Rise: what they answer. No conditions. -/

namespace Go.Proofs.Ytmaojhacdelleaa
open Go Go.RowKit

set_option maxHeartbeats 400000 in
theorem l6In_any (n lo hi : Int) (w : World) :
    Calls Try.prog 39 #[.int .i64 n, .int .i64 lo, .int .i64 hi] w fun e w' => e = .returned (.bool (decide (lo ≤ n ∧ n ≤ hi))) ∧ w' = w := by
  by_cases h1 : lo ≤ n
  · by_cases h2 : n ≤ hi
    · go_enter Try.func39, Try.ntmps39
      go_wp2_with fail
      go_ret
      exact ⟨by simp [h1, h2], rfl⟩
    · go_enter Try.func39, Try.ntmps39
      go_wp2_with fail
      go_ret
      exact ⟨ret_bool (by symm; simp; omega), rfl⟩
  · go_enter Try.func39, Try.ntmps39
    go_wp2_with fail
    go_ret
    exact ⟨ret_bool (by symm; simp; omega), rfl⟩

set_option maxHeartbeats 400000 in
theorem l6NameOk_any (s : ByteArray) (w : World) (hs : s.size ≤ 9223372036854775807) :
    Calls Try.prog 35 #[.string s] w fun e w' => e = .returned (.bool (nameOkB s)) ∧ w' = w := by
  by_cases h1 : 1 ≤ s.size ∧ s.size ≤ 8
  · obtain ⟨h1, h8⟩ := h1
    have hd : decide ((1 : Int) ≤ s.size ∧ (s.size : Int) ≤ 8) = true := by simp; omega
    have hc0 : s[0].toNat < 97 ∨ 122 < s[0].toNat ∨ (97 ≤ s[0].toNat ∧ s[0].toNat ≤ 122) := by omega
    rcases hc0 with hc | hc | hc
    · go_enter Try.func35, Try.ntmps35
      go_wp2_with (go_at_call 39; refine (l6In_any _ _ _ _).mono ?_; rintro e w' ⟨rfl, rfl⟩)
      go_ret
      exact ⟨ret_bool (nameOk_first (by omega) (Or.inl hc)).symm, rfl⟩
    · go_enter Try.func35, Try.ntmps35
      go_wp2_with (go_at_call 39; refine (l6In_any _ _ _ _).mono ?_; rintro e w' ⟨rfl, rfl⟩)
      go_ret
      exact ⟨ret_bool (nameOk_first (by omega) (Or.inr hc)).symm, rfl⟩
    · have HF := hide hc
      obtain ⟨hca, hcb⟩ := hc
      go_enter Try.func35, Try.ntmps35
      go_wp2_with (go_at_call 39; refine (l6In_any _ _ _ _).mono ?_; rintro e w' ⟨rfl, rfl⟩)
      go_loop [3] (fun i => ∃ k : Nat, k ≤ s.size ∧ i = .int .i64 k ∧ Hid (allTo nameByte s k)) (fun i => s.size - (intOf i).toNat)
      case atStart => exact ⟨0, Nat.zero_le _, rfl, fun j hj => by omega⟩
      case round =>
        obtain ⟨k, hk, rfl, HA⟩ := hrel
        by_cases hlt : k < s.size
        · have hc : s[k].toNat < 48 ∨ (57 < s[k].toNat ∧ s[k].toNat < 97) ∨ 122 < s[k].toNat ∨ (97 ≤ s[k].toNat ∧ s[k].toNat ≤ 122) ∨ (48 ≤ s[k].toNat ∧ s[k].toNat ≤ 57) := by omega
          rcases hc with hc | hc | hc | hc | hc
          · have HC := hide (nameOk_not hlt (nameByte_no (Or.inl hc)))
            have d1 : decide ((97 : Int) ≤ s[k].toNat) = false := by simp; omega
            have d2 : decide ((s[k].toNat : Int) ≤ 122) = true := by simp; omega
            have d3 : decide ((48 : Int) ≤ s[k].toNat) = false := by simp; omega
            have d4 : decide ((s[k].toNat : Int) ≤ 57) = true := by simp; omega
            go_wp2_with fail
            go_ret
            exact ⟨ret_bool (unhide HC).symm, rfl⟩
          · have HC := hide (nameOk_not hlt (nameByte_no (Or.inr (Or.inl hc))))
            obtain ⟨hc1, hc2⟩ := hc
            have d1 : decide ((97 : Int) ≤ s[k].toNat) = false := by simp; omega
            have d2 : decide ((s[k].toNat : Int) ≤ 122) = true := by simp; omega
            have d3 : decide ((48 : Int) ≤ s[k].toNat) = true := by simp; omega
            have d4 : decide ((s[k].toNat : Int) ≤ 57) = false := by simp; omega
            go_wp2_with fail
            go_ret
            exact ⟨ret_bool (unhide HC).symm, rfl⟩
          · have HC := hide (nameOk_not hlt (nameByte_no (Or.inr (Or.inr hc))))
            have d1 : decide ((97 : Int) ≤ s[k].toNat) = true := by simp; omega
            have d2 : decide ((s[k].toNat : Int) ≤ 122) = false := by simp; omega
            have d3 : decide ((48 : Int) ≤ s[k].toNat) = true := by simp; omega
            have d4 : decide ((s[k].toNat : Int) ≤ 57) = false := by simp; omega
            go_wp2_with fail
            go_ret
            exact ⟨ret_bool (unhide HC).symm, rfl⟩
          · have HN := hide (allTo_succ HA.out hlt (nameByte_yes (Or.inl hc)))
            obtain ⟨hc1, hc2⟩ := hc
            have d1 : decide ((97 : Int) ≤ s[k].toNat) = true := by simp; omega
            have d2 : decide ((s[k].toNat : Int) ≤ 122) = true := by simp; omega
            have d3 : decide ((48 : Int) ≤ s[k].toNat) = true := by simp; omega
            have d4 : decide ((s[k].toNat : Int) ≤ 57) = false := by simp; omega
            go_wp2_with fail
            go_round
            case rel => exact ⟨k + 1, by omega, by go_num, HN⟩
            case measure => simp [intOf]; omega
          · have HN := hide (allTo_succ HA.out hlt (nameByte_yes (Or.inr hc)))
            obtain ⟨hc1, hc2⟩ := hc
            have d1 : decide ((97 : Int) ≤ s[k].toNat) = false := by simp; omega
            have d2 : decide ((s[k].toNat : Int) ≤ 122) = true := by simp; omega
            have d3 : decide ((48 : Int) ≤ s[k].toNat) = true := by simp; omega
            have d4 : decide ((s[k].toNat : Int) ≤ 57) = true := by simp; omega
            go_wp2_with fail
            go_round
            case rel => exact ⟨k + 1, by omega, by go_num, HN⟩
            case measure => simp [intOf]; omega
        · go_wp2_with fail
          go_ret
          obtain rfl : k = s.size := by omega
          exact ⟨ret_bool (nameOk_yes (by omega) (by omega) (unhide HF) HA.out).symm, rfl⟩
  · have hd : decide ((1 : Int) ≤ s.size ∧ (s.size : Int) ≤ 8) = false := by simp; omega
    go_enter Try.func35, Try.ntmps35
    go_wp2_with (go_at_call 39; refine (l6In_any _ _ _ _).mono ?_; rintro e w' ⟨rfl, rfl⟩)
    go_ret
    exact ⟨ret_bool (nameOk_len (by omega)).symm, rfl⟩

theorem geqS (t : TypeId) (a b : ByteArray) : binOp .geq t (.string a) (.string b) = pure (.bool !(Op.bytesLess a.toList b.toList)) := by simp [binOp, Op.stringOp]

end Go.Proofs.Ytmaojhacdelleaa
