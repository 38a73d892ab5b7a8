/- The walk of the specification's l41After: the names behind so many moves, in new memory. Conditions: at most 1000 names and moves. -/
import Derived.Test.YtgdiankfnemjjaaGreatPart01
import Derived.Test.YtgdiankfnemjjaaGreatRows
import Derived.Test.YtgdiankfnemjjaaGreatPart03
import Derived.Deep.RegionWith
import Derived.Deep.QuietTactic
import Derived.BigQuiet
import Derived.WalkSmall
namespace Go.Proofs.YtgdiankfnemjjaaGreat
open Go Go.RowKit

set_option maxHeartbeats 1600000 in
theorem l41After_any (d : Dk) (P : Nat → Prop) (c : C3) (w : World) (hP : ∀ b, P b → b < w.heap.size) (hd : DkAt P w d c) (hl1 : d.names.length ≤ 1000) (hl2 : d.moves.length ≤ 1000) (q : Nat) (hq : q ≤ d.moves.length) :
    Calls Tryz.prog 56 #[.agg #[c.c0, c.c1, c.c2], .int .i64 (q : Int)] w fun e w' => ∃ a n cap, e = .returned (.slice a n cap) ∧ Hid (NmOwn w w' (.slice a n cap) n (afterD d.names (d.moves.take q))) := by
  obtain ⟨c0, c1, c2⟩ := c
  obtain ⟨a0, p0, g0, -, -⟩ := hd.fs.open
  obtain ⟨a1, p1, g1, -, hnc⟩ := hd.ns
  obtain ⟨a2, p2, g2, -, hmc⟩ := hd.ms.open
  simp only at g0 g1 g2
  subst g0 g1 g2
  obtain ⟨j0, hj, hy0, hy1, hy2⟩ := infoStrD
  have HJJ := hide hj; have HY0 := hide hy0; have HY1 := hide hy1; have HY2 := hide hy2
  have hsz : ∀ x, x ∈ d.names → x.size ≤ 9223372036854775807 := fun x hx => by
    obtain ⟨i, hi, rfl⟩ := List.getElem_of_mem hx
    obtain ⟨_, _, _, _, _, h⟩ := hnc i hi
    exact h
  obtain ⟨W0, hW0⟩ : ∃ W0, w.alloc (.cells #[.slice a0 d.files.length p0, .slice a1 d.names.length p1, .slice a2 d.moves.length p2] 37) = W0 := ⟨_, rfl⟩
  have hb0 : Below w.heap.size w W0 := by rw [← hW0]; exact (Below.refl _ _).alloc (Nat.le_refl _) _
  have hs0 : W0.heap.size = w.heap.size + 1 := by rw [← hW0]; simp
  have hrow : W0.rowIs w.heap.size 37 3 (row3 (.slice a0 d.files.length p0) (.slice a1 d.names.length p1) (.slice a2 d.moves.length p2)) := by rw [← hW0]; exact row3_alloc w _ _ _ _
  have hemp := empty_row (base := W0.heap.size) (size := 1) (World.rowIs_alloc W0 #[] 9 (fun _ => .bool false) (fun i hi => by simp at hi)) (Nat.le_refl _)
  rw [hs0] at hemp
  have hsrc := names_srcD (hd.ns.carry (P := P) (Q := P) (w' := W0) (fun b hb => hb0.block b (hP b hb)) (fun _ h => h)) (.cells #[] 9)
  have hxl : (d.names.map Value.string).length = d.names.length * 1 := by simp
  have hbe : Below W0.heap.size W0 (W0.alloc (.cells #[] 9)) := (Below.refl _ _).alloc (Nat.le_refl _) _
  have hse : (W0.alloc (.cells #[] 9)).heap.size = w.heap.size + 2 := by simp [hs0]
  have HROW := hide hrow; have HEMP := hide hemp; have HSRC := hide hsrc; have HSZ := hide hsz; have HMC := hide hmc; have HB0 := hide hb0; have HP := hide hP; have HXL := hide hxl; have HBE := hide hbe; have HSE := hide hse
  clear hd hnc hmc hsz hb0 hrow hemp hsrc hP hj hy0 hy1 hy2 hxl hbe hse
  have HMM := hide (fun k (hk : k < d.moves.length) => after_take (ns := d.names) hk)
  have HM0 := hide (show afterD d.names (d.moves.take 0) = d.names by simp [afterD])
  generalize hnf : d.files.length = nf at *
  generalize hnn : d.names.length = nn at *
  have HNN := hide hnn
  clear hnf hnn
  subst hW0
  go_enter Tryz.func56, Tryz.ntmps56
  go_wp2_with (at_builtin; refine append_copyD _ rfl _ _ 23 rfl (w.heap.size + 1) 9 j0 (.string ByteArray.empty) 1 16 Tryz.underlying23 (unhide HJJ) (unhide HY0) (unhide HY1) (unhide HY2) rfl (by decide) (w.heap.size + 1) rfl (unhide HEMP) a1 nn p1 (d.names.map Value.string) rfl (unhide HXL) (unhide HSRC) (fun u hu => by obtain ⟨y, -, rfl⟩ := List.mem_map.1 hu; rfl) (by unfold maxLen; omega) (by omega) (by have := unhide HSE; omega) ?_; intro g cap w2 HO HG)
  have hb2 : Below (w.heap.size + 1) (w.alloc (.cells #[.slice a0 nf p0, .slice a1 nn p1, .slice a2 d.moves.length p2] 37)) w2 :=
    below_grown (by have := unhide HSE; omega) ((unhide HBE).mono (by omega)) HG.out (fun x e => by cases e; omega)
  have HB2 := hide hb2
  clear hb2 HG HEMP HSRC HBE
  go_loopw [5, 6] (fun vo i wr => ∃ (k n : Nat) (ao : Option Addr) (co : Nat), k ≤ q ∧ n ≤ nn + k ∧ i = .int .i64 k ∧ vo = .slice ao n co ∧ Hid (n = (afterD d.names (d.moves.take k)).length) ∧ Hid (wr.ownsRow (w.heap.size + 1) 9 1 (.slice ao n co) n ((afterD d.names (d.moves.take k)).map Value.string)) ∧ Hid (∀ y, y ∈ afterD d.names (d.moves.take k) → y.size ≤ 9223372036854775807) ∧ Hid (Below (w.heap.size + 1) (w.alloc (.cells #[.slice a0 nf p0, .slice a1 nn p1, .slice a2 d.moves.length p2] 37)) wr)) (fun _ i _ => q - (intOf i).toNat)
  case atStart => exact ⟨0, nn, _, _, Nat.zero_le _, by omega, rfl, rfl, hide (by rw [unhide HM0]; exact (unhide HNN).symm), hide (by rw [unhide HM0]; exact HO.out), hide (by rw [unhide HM0]; exact unhide HSZ), HB2⟩
  case round =>
    clear HO HB2
    obtain ⟨k, n, ao, co, hk, hn, rfl, rfl, HQ, HO, HY, HB⟩ := hrel
    have hrow := (unhide HROW).of_block (HB.out.block w.heap.size (by omega))
    have k2 := hrow.cell (i := 2) (by omega)
    simp only [row3] at k2
    have hbs : w.heap.size + 1 ≤ wr.heap.size := by have := HB.out.size; rw [hs0] at this; exact this
    by_cases hlt : k < q
    · have hlm : k < d.moves.length := by omega
      obtain ⟨b, o, rfl, hpb, hc0, hc1, hok⟩ := unhide HMC k hlm
      have hcar : ∀ o', wr.cell? ⟨b, o', none⟩ = w.cell? ⟨b, o', none⟩ := fun o' => by
        have hbl := unhide HP b hpb
        rw [World.cell?_of_block (w := w) ((HB.out.block b (by omega)).trans ((unhide HB0).block b hbl))]
      have e0 : wr.cell? ⟨b, o + k * 2, none⟩ = some (.bool d.moves[k].gone) := by rw [hcar]; exact hc0
      have e1 : wr.cell? ⟨b, o + k * 2 + 1, none⟩ = some (.string d.moves[k].name) := by rw [hcar]; exact hc1
      have hmz : d.moves[k].name.size ≤ 9223372036854775807 := hok
      have HT := hide (unhide HMM k hlm)
      clear hc0 hc1 hcar hpb hok hrow
      unfold stepD at HT
      cases e : d.moves[k].gone with
      | true =>
        rw [e] at HT e0
        simp only [if_true] at HT
        generalize d.moves[k].name = y at *
        have HW := hide (l41Without_any (.slice ao n co) (afterD d.names (d.moves.take k)) y wr (fun b hb => hb.2) (strsAt_own (by rw [← HQ.out]; exact HO.out) HY.out) (by have := HQ.out; omega))
        go_wp2_with fail
        refine (unhide HW).mono ?_
        rintro e' w5 ⟨a5, n5, c5, rfl, h5, HO5, hb5⟩
        have HB5 := hide (HB.out.trans (hb5.mono hbs))
        have hl5 := without_len (afterD d.names (d.moves.take k)) y
        have hn5 : n5 ≤ nn + k := by have := HQ.out; omega
        have H5 := hide h5
        clear hb5 HW hl5 h5
        go_wp2_with fail
        go_roundw
        case rel => exact ⟨k + 1, n5, a5, c5, by omega, by omega, by go_num, rfl, hide (by rw [unhide HT]; exact unhide H5), hide (by rw [unhide HT]; exact ownsRow_base HO5.out hbs), hide (by
          rw [unhide HT]
          exact fun z hz => HY.out z (List.mem_filter.1 hz).1), HB5⟩
        case measure => simp [intOf]; omega
      | false =>
        rw [e] at HT e0
        simp only [Bool.false_eq_true, if_false] at HT
        generalize d.moves[k].name = y at *
        go_wp2_with (at_builtin; (refine append_row _ rfl _ _ 23 rfl (w.heap.size + 1) 9 j0 (.string ByteArray.empty) 1 16 Tryz.underlying23 (unhide HJJ) (unhide HY0) (unhide HY1) (unhide HY2) rfl (by decide) (.slice ao n co) n ((afterD d.names (d.moves.take k)).map Value.string) rfl (World.ownsRow.alloc HO.out _) ⟨wr.heap.size, 0, none⟩ 1 1 [.string y] rfl rfl (cell_one wr _ _) (fun u hu => by simp at hu; subst hu; rfl) (by decide) (by unfold maxLen; omega) (by omega) (by simp; omega) ?_; intro v' w5 hown5 hgrow5 hat5; obtain ⟨g5, cap5, rfl, -, -⟩ := hown5.form (by omega); have HO5 := hide hown5; have HB5 := hide (below_grown (by simp; omega) (HB.out.alloc hbs (.cells #[.string y] 9)) hgrow5 (fun b e => (HO.out.lt b e).1)); clear hown5 hgrow5 hat5))
        go_roundw
        case rel => exact ⟨k + 1, n + 1, some ⟨g5, 0, none⟩, cap5, by omega, by omega, by go_num, rfl, hide (by rw [unhide HT]; have := HQ.out; simp; omega), hide (by
          rw [unhide HT]
          have := unhide HO5
          simpa using this), hide (by
          rw [unhide HT]
          intro z hz
          rcases List.mem_append.1 hz with h | h
          · exact HY.out z h
          · simp at h; rw [h]; exact hmz), HB5⟩
        case measure => simp [intOf]; omega
    · obtain rfl : k = q := by omega
      go_wp2_with fail
      go_ret
      exact ⟨ao, n, co, rfl, ⟨ownsRow_base HO.out (by omega), HQ.out, HY.out, (unhide HB0).trans (HB.out.mono (by omega))⟩⟩
end Go.Proofs.YtgdiankfnemjjaaGreat

/- The walks of the specification's l6In, l6NameOk, l1Rise: what they answer. No conditions. -/

namespace Go.Proofs.YtgdiankfnemjjaaGreat
open Go Go.RowKit

set_option maxHeartbeats 400000 in
theorem l6In_any (n lo hi : Int) (w : World) :
    Calls Tryz.prog 53 #[.int .i64 n, .int .i64 lo, .int .i64 hi] w fun e w' => e = .returned (.bool (decide (lo ≤ n ∧ n ≤ hi))) ∧ w' = w := by
  by_cases h1 : lo ≤ n
  · by_cases h2 : n ≤ hi
    · go_enter Tryz.func53, Tryz.ntmps53
      go_wp2_with fail
      go_ret
      exact ⟨by simp [h1, h2], rfl⟩
    · go_enter Tryz.func53, Tryz.ntmps53
      go_wp2_with fail
      go_ret
      exact ⟨ret_bool (by symm; simp; omega), rfl⟩
  · go_enter Tryz.func53, Tryz.ntmps53
    go_wp2_with fail
    go_ret
    exact ⟨ret_bool (by symm; simp; omega), rfl⟩

set_option maxHeartbeats 400000 in
theorem l6NameOk_any (s : ByteArray) (w : World) (hs : s.size ≤ 9223372036854775807) :
    Calls Tryz.prog 52 #[.string s] w fun e w' => e = .returned (.bool (nameOkB s)) ∧ w' = w := by
  by_cases h1 : 1 ≤ s.size ∧ s.size ≤ 8
  · obtain ⟨h1, h8⟩ := h1
    have hd : decide ((1 : Int) ≤ s.size ∧ (s.size : Int) ≤ 8) = true := by simp; omega
    have hc0 : s[0].toNat < 97 ∨ 122 < s[0].toNat ∨ (97 ≤ s[0].toNat ∧ s[0].toNat ≤ 122) := by omega
    rcases hc0 with hc | hc | hc
    · go_enter Tryz.func52, Tryz.ntmps52
      go_wp2_with (go_at_call 53; refine (l6In_any _ _ _ _).mono ?_; rintro e w' ⟨rfl, rfl⟩)
      go_ret
      exact ⟨ret_bool (nameOk_first (by omega) (Or.inl hc)).symm, rfl⟩
    · go_enter Tryz.func52, Tryz.ntmps52
      go_wp2_with (go_at_call 53; refine (l6In_any _ _ _ _).mono ?_; rintro e w' ⟨rfl, rfl⟩)
      go_ret
      exact ⟨ret_bool (nameOk_first (by omega) (Or.inr hc)).symm, rfl⟩
    · have HF := hide hc
      obtain ⟨hca, hcb⟩ := hc
      go_enter Tryz.func52, Tryz.ntmps52
      go_wp2_with (go_at_call 53; refine (l6In_any _ _ _ _).mono ?_; rintro e w' ⟨rfl, rfl⟩)
      go_loop [3] (fun i => ∃ k : Nat, k ≤ s.size ∧ i = .int .i64 k ∧ Hid (allTo nameByte s k)) (fun i => s.size - (intOf i).toNat)
      case atStart => exact ⟨0, Nat.zero_le _, rfl, fun j hj => by omega⟩
      case round =>
        obtain ⟨k, hk, rfl, HA⟩ := hrel
        by_cases hlt : k < s.size
        · have hc : s[k].toNat < 48 ∨ (57 < s[k].toNat ∧ s[k].toNat < 97) ∨ 122 < s[k].toNat ∨ (97 ≤ s[k].toNat ∧ s[k].toNat ≤ 122) ∨ (48 ≤ s[k].toNat ∧ s[k].toNat ≤ 57) := by omega
          rcases hc with hc | hc | hc | hc | hc
          · have HC := hide (nameOk_not hlt (nameByte_no (Or.inl hc)))
            have d1 : decide ((97 : Int) ≤ s[k].toNat) = false := by simp; omega
            have d2 : decide ((s[k].toNat : Int) ≤ 122) = true := by simp; omega
            have d3 : decide ((48 : Int) ≤ s[k].toNat) = false := by simp; omega
            have d4 : decide ((s[k].toNat : Int) ≤ 57) = true := by simp; omega
            go_wp2_with fail
            go_ret
            exact ⟨ret_bool (unhide HC).symm, rfl⟩
          · have HC := hide (nameOk_not hlt (nameByte_no (Or.inr (Or.inl hc))))
            obtain ⟨hc1, hc2⟩ := hc
            have d1 : decide ((97 : Int) ≤ s[k].toNat) = false := by simp; omega
            have d2 : decide ((s[k].toNat : Int) ≤ 122) = true := by simp; omega
            have d3 : decide ((48 : Int) ≤ s[k].toNat) = true := by simp; omega
            have d4 : decide ((s[k].toNat : Int) ≤ 57) = false := by simp; omega
            go_wp2_with fail
            go_ret
            exact ⟨ret_bool (unhide HC).symm, rfl⟩
          · have HC := hide (nameOk_not hlt (nameByte_no (Or.inr (Or.inr hc))))
            have d1 : decide ((97 : Int) ≤ s[k].toNat) = true := by simp; omega
            have d2 : decide ((s[k].toNat : Int) ≤ 122) = false := by simp; omega
            have d3 : decide ((48 : Int) ≤ s[k].toNat) = true := by simp; omega
            have d4 : decide ((s[k].toNat : Int) ≤ 57) = false := by simp; omega
            go_wp2_with fail
            go_ret
            exact ⟨ret_bool (unhide HC).symm, rfl⟩
          · have HN := hide (allTo_succ HA.out hlt (nameByte_yes (Or.inl hc)))
            obtain ⟨hc1, hc2⟩ := hc
            have d1 : decide ((97 : Int) ≤ s[k].toNat) = true := by simp; omega
            have d2 : decide ((s[k].toNat : Int) ≤ 122) = true := by simp; omega
            have d3 : decide ((48 : Int) ≤ s[k].toNat) = true := by simp; omega
            have d4 : decide ((s[k].toNat : Int) ≤ 57) = false := by simp; omega
            go_wp2_with fail
            go_round
            case rel => exact ⟨k + 1, by omega, by go_num, HN⟩
            case measure => simp [intOf]; omega
          · have HN := hide (allTo_succ HA.out hlt (nameByte_yes (Or.inr hc)))
            obtain ⟨hc1, hc2⟩ := hc
            have d1 : decide ((97 : Int) ≤ s[k].toNat) = false := by simp; omega
            have d2 : decide ((s[k].toNat : Int) ≤ 122) = true := by simp; omega
            have d3 : decide ((48 : Int) ≤ s[k].toNat) = true := by simp; omega
            have d4 : decide ((s[k].toNat : Int) ≤ 57) = true := by simp; omega
            go_wp2_with fail
            go_round
            case rel => exact ⟨k + 1, by omega, by go_num, HN⟩
            case measure => simp [intOf]; omega
        · go_wp2_with fail
          go_ret
          obtain rfl : k = s.size := by omega
          exact ⟨ret_bool (nameOk_yes (by omega) (by omega) (unhide HF) HA.out).symm, rfl⟩
  · have hd : decide ((1 : Int) ≤ s.size ∧ (s.size : Int) ≤ 8) = false := by simp; omega
    go_enter Tryz.func52, Tryz.ntmps52
    go_wp2_with (go_at_call 53; refine (l6In_any _ _ _ _).mono ?_; rintro e w' ⟨rfl, rfl⟩)
    go_ret
    exact ⟨ret_bool (nameOk_len (by omega)).symm, rfl⟩

end Go.Proofs.YtgdiankfnemjjaaGreat

/- The walk of the specification's DiskOk: what it answers, and that it turns nothing that was there. No conditions. -/

namespace Go.Proofs.YtgdiankfnemjjaaGreat
open Go Go.RowKit

/-- What is asked of the file at a place. -/
structure FOkS (fs : List Df) (made : List ByteArray) (i : Nat) (h : i < fs.length) (h2 : i < made.length) : Prop where
  name : nameOkB fs[i].name = true
  same : sameB fs[i].name made[i] = true
  data : fs[i].data.size ≤ 20000
  kept : 0 ≤ fs[i].kept ∧ fs[i].kept ≤ fs[i].data.size
  find : findF fs fs[i].name = i
/-- What the specification asks of a disk. -/
structure DkOkS (d : Dk) : Prop where
  l1 : d.files.length ≤ 64
  l2 : d.names.length ≤ 64
  l3 : d.moves.length ≤ 128
  len : (madeD d.names d.moves).length = d.files.length
  file : ∀ i (h : i < d.files.length) (h2 : i < (madeD d.names d.moves).length), FOkS d.files (madeD d.names d.moves) i h h2
  move : ∀ i (h : i < d.moves.length), d.moves[i].gone = true → hasB (afterD d.names (d.moves.take i)) d.moves[i].name = true

/-- An ending gives back whether something is so. -/
def RetIff (e : Ending) (p : Prop) : Prop := ∃ r : Bool, e = .returned (.bool r) ∧ (r = true ↔ p)
theorem RetIff.yes {p : Prop} (h : p) : RetIff (.returned (.bool true)) p := ⟨true, rfl, by simp [h]⟩
theorem RetIff.no {p : Prop} (h : ¬ p) : RetIff (.returned (.bool false)) p := ⟨false, rfl, by simp [h]⟩

theorem bdrewN {n : Nat} {w W : World} (h : Below n w W) (m : Nat) : Below n w (W.drewN m) := ⟨h.os, h.tape, h.output, h.size, h.block⟩
theorem findF_range (fs : List Df) (x : ByteArray) (h : fs.length ≤ 9223372036854775807) : -9223372036854775808 ≤ findF fs x ∧ findF fs x ≤ 9223372036854775807 := by
  unfold findF
  cases e : fs.findIdx? (fun f => sameB f.name x) with
  | none => simp
  | some i =>
    have := (List.findIdx?_eq_some_iff_getElem.1 e).1
    simp only
    omega

set_option maxRecDepth 100000 in
set_option maxHeartbeats 3200000 in
theorem specDiskOk_any (d : Dk) (P : Nat → Prop) (c : C3) (w : World) (hP : ∀ b, P b → b < w.heap.size) (hd : DkAt P w d c) :
    Calls Tryz.prog 24 #[.agg #[c.c0, c.c1, c.c2]] w fun e w' => RetIff e (DkOkS d) ∧ Below w.heap.size w w' := by
  obtain ⟨c0, c1, c2⟩ := c
  have HD := hide hd
  obtain ⟨a0, p0, g0, hl0, hfc⟩ := hd.fs.open
  obtain ⟨a1, p1, g1, hl1, -⟩ := hd.ns
  obtain ⟨a2, p2, g2, hl2, hmc⟩ := hd.ms.open
  simp only at g0 g1 g2
  subst g0 g1 g2
  have hbx : ∀ o, Below w.heap.size w (w.alloc o) := fun o => (Below.refl _ _).alloc (Nat.le_refl _) o
  have HBX := hide hbx
  by_cases h1 : 64 < d.files.length
  · clear hd hfc hmc hbx
    go_enter Tryz.func24, Tryz.ntmps24
    go_wp2_with fail
    go_ret
    exact ⟨RetIff.no (fun h => by have := h.l1; omega), unhide HBX _⟩
  replace h1 : d.files.length ≤ 64 := by omega
  by_cases h2 : 64 < d.names.length
  · clear hd hfc hmc hbx
    go_enter Tryz.func24, Tryz.ntmps24
    go_wp2_with fail
    go_ret
    exact ⟨RetIff.no (fun h => by have := h.l2; omega), unhide HBX _⟩
  replace h2 : d.names.length ≤ 64 := by omega
  by_cases h3 : 128 < d.moves.length
  · clear hd hfc hmc hbx
    go_enter Tryz.func24, Tryz.ntmps24
    go_wp2_with fail
    go_ret
    exact ⟨RetIff.no (fun h => by have := h.l3; omega), unhide HBX _⟩
  replace h3 : d.moves.length ≤ 128 := by omega
  have HMADE := hide (fun o => l41Made_any d P ⟨.slice a0 d.files.length p0, .slice a1 d.names.length p1, .slice a2 d.moves.length p2⟩ (w.alloc o) (fun b hb => Nat.lt_of_lt_of_le (hP b hb) (hbx o).size) (hd.carry (fun b hb => (hbx o).block b (hP b hb)) (fun _ h => h)) (by omega) (by omega))
  have HFC := hide hfc; have HMC := hide hmc; have HP := hide hP
  have HROW := hide (row3_alloc w (.slice a0 d.files.length p0) (.slice a1 d.names.length p1) (.slice a2 d.moves.length p2) 37)
  have HOKS := hide (show DkOkS d → DkOkS d from id)
  clear hd hfc hmc hP hbx
  go_enter Tryz.func24, Tryz.ntmps24
  go_wp2_with fail
  refine (unhide HMADE _).mono ?_
  rintro e w1 ⟨a, n, cap, rfl, HNM⟩
  have hlen := HNM.out.len
  have HLEN := hide hlen
  have hb1 := HNM.out.below
  have hs1 := hb1.size
  have hq1 := (unhide HROW).of_block (hb1.block w.heap.size (by simp))
  have k0 := hq1.cell (i := 0) (by omega); have k2 := hq1.cell (i := 2) (by omega)
  simp only [row3] at k0 k2
  by_cases hn : n = d.files.length
  rotate_left
  · have HN := hide hn
    have HB1 := hide ((unhide HBX _).trans (hb1.mono (unhide HBX _).size))
    clear hlen hb1 hq1
    go_wp2_with fail
    go_ret
    exact ⟨RetIff.no (fun h => unhide HN (by rw [unhide HLEN]; exact h.len)), unhide HB1⟩
  subst hn
  have hst := HNM.out.strs
  obtain ⟨a9, cap9, e9, -, hmd⟩ := hst
  simp only [Value.slice.injEq] at e9
  obtain ⟨rfl, -, rfl⟩ := e9
  have HMD := hide hmd; have HB01 := hide ((unhide HBX _).trans (hb1.mono (unhide HBX _).size)); have Q1 := hide hq1
  generalize HMK : madeD d.names d.moves = made at *
  have HMK' := hide HMK
  clear hmd hb1 hq1 k2 HNM HMK HMADE hlen
  have hs1' : w.heap.size + 1 ≤ w1.heap.size := by simpa using hs1
  clear hs1
  go_wp2_with fail
  clear k0
  go_loopw [4] (fun i wr => ∃ (k : Nat), k ≤ d.files.length ∧ i = .int .i64 k ∧ Hid (∀ j (h : j < d.files.length) (h2 : j < made.length), j < k → FOkS d.files made j h h2) ∧ Hid (Below w1.heap.size w1 wr)) (fun i _ => d.files.length - (intOf i).toNat)
  case atStart => exact ⟨0, Nat.zero_le _, rfl, fun j _ _ hj => by omega, Below.refl _ _⟩
  case round =>
    obtain ⟨k, hk, rfl, HQ, HB⟩ := hrel
    have hq2 := (unhide Q1).of_block (HB.out.block w.heap.size (by omega))
    have k0 := hq2.cell (i := 0) (by omega)
    simp only [row3] at k0
    by_cases hlt : k < d.files.length
    rotate_left
    · obtain rfl : k = d.files.length := by omega
      have HFALL := hide (fun j h h2 => HQ.out j h h2 h)
      have HB2 := HB
      clear HQ hlt hk
      go_wp2_with fail
      clear k0
      go_loopw [6] (fun i wr2 => ∃ (k : Nat), k ≤ d.moves.length ∧ i = .int .i64 k ∧ Hid (∀ j (h : j < d.moves.length), j < k → d.moves[j].gone = true → hasB (afterD d.names (d.moves.take j)) d.moves[j].name = true) ∧ Hid (Below w1.heap.size w1 wr2)) (fun i _ => d.moves.length - (intOf i).toNat)
      case atStart => exact ⟨0, Nat.zero_le _, rfl, fun j _ hj => by omega, HB2.out⟩
      case round =>
        obtain ⟨k, hk, rfl, HQ, HB⟩ := hrel
        have hq2 := (unhide Q1).of_block (HB.out.block w.heap.size (by omega))
        have k0 := hq2.cell (i := 0) (by omega); have k1 := hq2.cell (i := 1) (by omega); have k2 := hq2.cell (i := 2) (by omega)
        simp only [row3] at k0 k1 k2
        have hbw := (unhide HB01).trans (HB.out.mono (unhide HB01).size)
        by_cases hlt : k < d.moves.length
        rotate_left
        · have HBW := hide hbw
          clear hbw hq2
          go_wp2_with fail
          go_ret
          exact ⟨RetIff.yes ⟨by omega, by omega, by omega, by rw [unhide HMK']; exact (unhide HLEN).symm, by rw [unhide HMK']; exact unhide HFALL, fun i h hg => HQ.out i h (by omega) hg⟩, unhide HBW⟩
        · obtain ⟨b, o, rfl, hpb, hc0, hc1, hok⟩ := unhide HMC k hlt
          have hcar : ∀ o', wr.cell? ⟨b, o', none⟩ = w.cell? ⟨b, o', none⟩ := fun o' => hbw.cell (p := ⟨b, o', none⟩) (unhide HP b hpb)
          have e0 : wr.cell? ⟨b, o + k * 2, none⟩ = some (.bool d.moves[k].gone) := by rw [hcar]; exact hc0
          have e1 : wr.cell? ⟨b, o + k * 2 + 1, none⟩ = some (.string d.moves[k].name) := by rw [hcar]; exact hc1
          have HBW := hide hbw
          cases c1 : d.moves[k].gone with
          | false =>
            rw [c1] at e0
            have HC1 := hide c1
            clear hc0 hc1 hcar hpb hok hbw hq2 c1
            go_wp2_with fail
            go_quiet (fail)
            go_wp2_with fail
            go_roundw
            case rel => exact ⟨k + 1, by omega, by go_num, fun j h hj hg => by
              by_cases e : j = k
              · subst e; rw [unhide HC1] at hg; cases hg
              · exact HQ.out j h (by omega) hg, bdrewN HB.out _⟩
            case measure => simp [intOf]; omega
          | true =>
            rw [c1] at e0
            have HAF := hide (fun (W : World) (hW : Below w.heap.size w W) => l41After_any d P ⟨.slice a0 d.files.length p0, .slice a1 d.names.length p1, .slice (some ⟨b, o, none⟩) d.moves.length p2⟩ W (fun b hb => Nat.lt_of_lt_of_le (unhide HP b hb) hW.size) ((unhide HD).carry (fun b hb => hW.block b (unhide HP b hb)) (fun _ h => h)) (by omega) (by omega) k hk)
            have hgo := hide c1
            have HNM2 := hide (rfl : d.moves[k].name = d.moves[k].name)
            clear hc0 hc1 hcar hpb hok hbw hq2 c1
            generalize hnm : d.moves[k].name = nm at *
            cases c2 : hasB (afterD d.names (d.moves.take k)) nm with
            | false =>
              have HNO := hide (show ¬ DkOkS d from fun h => by have := h.move k hlt (unhide hgo); rw [hnm, c2] at this; cases this)
              clear hnm
              go_wp2_with fail
              go_region_with (first
                | (go_at_call 56
                   refine (unhide HAF _ (by first | exact unhide HBW | exact (unhide HBW).drew)).mono ?_
                   rintro e w5 ⟨a5, n5, c5, rfl, H5⟩
                   have hb5 := H5.out.below
                   have k25 : w5.cell? ⟨w.heap.size, 2, none⟩ = some (.slice (some ⟨b, o, none⟩) d.moves.length p2) := by
                     rw [hb5.cell (p := ⟨w.heap.size, 2, none⟩) (World.block_lt_of_cell? wr _ k2)]; exact k2
                   have e15 : w5.cell? ⟨b, o + k * 2 + 1, none⟩ = some (.string nm) := by
                     rw [hb5.cell (p := ⟨b, o + k * 2 + 1, none⟩) (World.block_lt_of_cell? wr _ e1)]; exact e1
                   have HHS := hide (l6Has_any _ _ nm w5 H5.out.strs)
                   rw [c2] at HHS
                   have HBN := hide ((unhide HBW).drew.trans (hb5.mono (unhide HBW).size))
                   have HBM := hide (HB.out.drew.trans (hb5.mono HB.out.size))
                   clear hb5)
                | (go_at_call 55
                   refine (unhide HHS).mono ?_
                   rintro e w6 ⟨rfl, rfl⟩))
              all_goals
                go_wp2_with fail
                go_ret
                exact ⟨RetIff.no (unhide HNO), unhide HBN⟩
            | true =>
              have HYES := hide (show hasB (afterD d.names (d.moves.take k)) d.moves[k].name = true by rw [hnm]; exact c2)
              clear hnm
              go_wp2_with fail
              go_region_with (first
                | (go_at_call 56
                   refine (unhide HAF _ (by first | exact unhide HBW | exact (unhide HBW).drew)).mono ?_
                   rintro e w5 ⟨a5, n5, c5, rfl, H5⟩
                   have hb5 := H5.out.below
                   have k25 : w5.cell? ⟨w.heap.size, 2, none⟩ = some (.slice (some ⟨b, o, none⟩) d.moves.length p2) := by
                     rw [hb5.cell (p := ⟨w.heap.size, 2, none⟩) (World.block_lt_of_cell? wr _ k2)]; exact k2
                   have e15 : w5.cell? ⟨b, o + k * 2 + 1, none⟩ = some (.string nm) := by
                     rw [hb5.cell (p := ⟨b, o + k * 2 + 1, none⟩) (World.block_lt_of_cell? wr _ e1)]; exact e1
                   have HHS := hide (l6Has_any _ _ nm w5 H5.out.strs)
                   rw [c2] at HHS
                   have HBN := hide ((unhide HBW).drew.trans (hb5.mono (unhide HBW).size))
                   have HBM := hide (HB.out.drew.trans (hb5.mono HB.out.size))
                   clear hb5)
                | (go_at_call 55
                   refine (unhide HHS).mono ?_
                   rintro e w6 ⟨rfl, rfl⟩))
              all_goals
                go_wp2_with fail
                go_roundw
                case rel => exact ⟨k + 1, by omega, by go_num, fun j h hj hg => by
                  by_cases e : j = k
                  · subst e; exact unhide HYES
                  · exact HQ.out j h (by omega) hg, unhide HBM⟩
                case measure => simp [intOf]; omega
    · have hlm : k < made.length := by rw [← unhide HLEN]; exact hlt
      obtain ⟨b, o, rfl, hpb, hcell, hok⟩ := unhide HFC k hlt
      have hbw := (unhide HB01).trans (HB.out.mono (unhide HB01).size)
      have hcell' := hcell.carry (hbw.block b (unhide HP b hpb))
      obtain ⟨e0, e1, e2⟩ := hcell'
      simp only at e0 e1 e2
      obtain ⟨bm, om, rfl, hpm, hcm, -⟩ := unhide HMD k hlm
      have hcm' : wr.cell? ⟨bm, om + k, none⟩ = some (.string made[k]) := by rw [HB.out.cell hpm.2]; exact hcm
      have HFI := hide (fun o' nq => l41Find_any (.slice (some ⟨b, o, none⟩) d.files.length p0) d.files d.files[k].name ((wr.alloc o').drewN nq) (P := P) ((unhide HD).fs.carry (fun b hb => ((hbw.alloc hbw.size o').block b (unhide HP b hb))) (fun _ h => h)))
      have HNA := hide (fun W => l6NameOk_any d.files[k].name W hok.1)
      have HIN := hide (fun W => l6In_any d.files[k].kept 0 d.files[k].data.size W)
      have HFO := hide (show FOkS d.files made k hlt hlm ↔ (nameOkB d.files[k].name = true ∧ sameB d.files[k].name made[k] = true ∧ d.files[k].data.size ≤ 20000 ∧ (0 ≤ d.files[k].kept ∧ d.files[k].kept ≤ d.files[k].data.size) ∧ findF d.files d.files[k].name = k) from ⟨fun h => ⟨h.name, h.same, h.data, h.kept, h.find⟩, fun h => ⟨h.1, h.2.1, h.2.2.1, h.2.2.2.1, h.2.2.2.2⟩⟩)
      obtain ⟨hz1, hz2, hz3⟩ := hok
      have hfr := findF_range d.files d.files[k].name hl0
      generalize findF d.files d.files[k].name = fi at *
      generalize d.files[k] = f at *
      generalize made[k] = mk at *
      obtain ⟨fn, fd, fk⟩ := f
      simp only at *
      have HBW := hide hbw
      clear hcell hcm hpb hpm hq2 hbw
      have HBA := hide (fun o' => ((unhide HBW).alloc (unhide HBW).size o'))
      have hcm2 : ∀ o', (wr.alloc o').cell? ⟨bm, om + k, none⟩ = some (.string mk) := fun o' => by rw [World.cell?_of_block (w := wr) (Below.heap_alloc _ _ _ (World.block_lt_of_cell? wr _ hcm'))]; exact hcm'
      have k02 : ∀ o', (wr.alloc o').cell? ⟨w.heap.size, 0, none⟩ = some (.slice (some ⟨b, o, none⟩) d.files.length p0) := fun o' => by rw [World.cell?_of_block (w := wr) (Below.heap_alloc _ _ _ (World.block_lt_of_cell? wr _ k0))]; exact k0
      cases c1 : nameOkB fn with
      | false =>
        have HNO := hide (show ¬ FOkS d.files made k hlt hlm from fun h => by have := (unhide HFO).1 h; simp [c1] at this)
        rw [c1] at HNA
        go_wp2_with fail
        go_quiet (first
          | (go_at_call 52; exact Calls.quiet_of_same (unhide HNA _)))
        go_wp2_with fail
        go_ret
        exact ⟨RetIff.no (fun h => unhide HNO ((unhide HMK') ▸ h.file k hlt (by rw [unhide HMK']; exact hlm))), bdrewN (unhide HBA _) _⟩
      | true =>
      rw [c1] at HNA
      cases c2 : sameB fn mk with
      | false =>
        have HNO := hide (show ¬ FOkS d.files made k hlt hlm from fun h => by have := (unhide HFO).1 h; simp [c2] at this)
        unfold sameB at c2
        go_wp2_with fail
        go_quiet (first
          | (go_at_call 52; exact Calls.quiet_of_same (unhide HNA _)))
        go_wp2_with fail
        go_ret
        exact ⟨RetIff.no (fun h => unhide HNO ((unhide HMK') ▸ h.file k hlt (by rw [unhide HMK']; exact hlm))), bdrewN (unhide HBA _) _⟩
      | true =>
      by_cases c3 : fd.size ≤ 20000
      rotate_left
      · have HNO := hide (show ¬ FOkS d.files made k hlt hlm from fun h => c3 ((unhide HFO).1 h).2.2.1)
        have c3' : decide ((20000 : Int) < (fd.size : Int)) = true := by simp; omega
        unfold sameB at c2
        go_wp2_with fail
        go_quiet (first
          | (go_at_call 52; exact Calls.quiet_of_same (unhide HNA _)))
        go_wp2_with fail
        go_ret
        exact ⟨RetIff.no (fun h => unhide HNO ((unhide HMK') ▸ h.file k hlt (by rw [unhide HMK']; exact hlm))), bdrewN (unhide HBA _) _⟩
      have c3' : decide ((20000 : Int) < (fd.size : Int)) = false := by simp; omega
      by_cases c4 : 0 ≤ fk ∧ fk ≤ (fd.size : Int)
      rotate_left
      · have HNO := hide (show ¬ FOkS d.files made k hlt hlm from fun h => c4 ((unhide HFO).1 h).2.2.2.1)
        rw [decide_eq_false c4] at HIN
        unfold sameB at c2
        go_wp2_with fail
        go_quiet (first
          | (go_at_call 52; exact Calls.quiet_of_same (unhide HNA _))
          | (go_at_call 53; exact Calls.quiet_of_same (unhide HIN _)))
        go_wp2_with fail
        go_ret
        exact ⟨RetIff.no (fun h => unhide HNO ((unhide HMK') ▸ h.file k hlt (by rw [unhide HMK']; exact hlm))), bdrewN (unhide HBA _) _⟩
      by_cases c5 : fi = (k : Int)
      rotate_left
      · have HNO := hide (show ¬ FOkS d.files made k hlt hlm from fun h => c5 ((unhide HFO).1 h).2.2.2.2)
        have c5' : decide (fi = (k : Int)) = false := decide_eq_false c5
        rw [decide_eq_true c4] at HIN
        unfold sameB at c2
        have C4 := hide c4; clear c4
        go_wp2_with fail
        go_quiet (first
          | (go_at_call 52; exact Calls.quiet_of_same (unhide HNA _))
          | (go_at_call 53; exact Calls.quiet_of_same (unhide HIN _))
          | (go_at_call 54; exact Calls.quiet_of_same (unhide HFI _ _)))
        go_wp2_with fail
        go_ret
        exact ⟨RetIff.no (fun h => unhide HNO ((unhide HMK') ▸ h.file k hlt (by rw [unhide HMK']; exact hlm))), bdrewN (unhide HBA _) _⟩
      · have HYES := hide ((unhide HFO).2 ⟨c1, c2, c3, c4, c5⟩)
        rw [decide_eq_true c4] at HIN
        unfold sameB at c2
        have C4 := hide c4; clear c4
        subst c5
        go_wp2_with fail
        go_quiet (first
          | (go_at_call 52; exact Calls.quiet_of_same (unhide HNA _))
          | (go_at_call 53; exact Calls.quiet_of_same (unhide HIN _))
          | (go_at_call 54; exact Calls.quiet_of_same (unhide HFI _ _)))
        go_wp2_with fail
        go_roundw
        case rel => exact ⟨k + 1, by omega, by go_num, fun j h h2 hj => by
          by_cases e : j = k
          · subst e; exact unhide HYES
          · exact HQ.out j h h2 (by omega), bdrewN (HB.out.alloc HB.out.size _) _⟩
        case measure => simp [intOf]; omega
end Go.Proofs.YtgdiankfnemjjaaGreat
