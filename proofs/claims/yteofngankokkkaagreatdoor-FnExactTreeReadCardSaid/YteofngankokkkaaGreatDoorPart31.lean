/- The walk of the specification's TreeRead: it answers as the function rdO does. For texts of at most 2^20 bytes. -/
import Derived.Test.YteofngankokkkaaGreatDoorPart27
import Derived.Test.YteofngankokkkaaGreatDoorPart28
import Derived.Test.YteofngankokkkaaGreatDoorPart29
import Derived.Test.YteofngankokkkaaGreatDoorPart30
import Derived.Test.YteofngankokkkaaGreatDoorRows
import Derived.Test.YteofngankokkkaaGreatDoorPart16
namespace Go.Proofs.YteofngankokkkaaGreatDoor
open Go Go.RowKit

theorem lfz (s : ByteArray) : lf s 0 = s.data.toList := by unfold lf; simp
/-- What the specification's TreeRead comes to. -/
noncomputable def spO (s : ByteArray) : Option Tr := if s.size ≤ 10000 then specRd s.data.toList else none

/-- An answer of the specification's TreeRead. -/
def SAns (o : Option Tr) (w : World) (e : Ending) (w' : World) : Prop :=
  ∃ (t : Tr) (b : Bool) (c : C5), ((o = some t ∧ b = true) ∨ (o = none ∧ b = false ∧ t = .mk 0 0 ByteArray.empty [] [])) ∧ e = .returned (.tuple #[.agg #[c.c0, c.c1, c.c2, c.c3, c.c4], .bool b]) ∧ Rep (New w w') w' t c ∧ Below w.heap.size w w'
theorem SAns.no {o : Option Tr} {w w' : World} (h : o = none) (hb : Below w.heap.size w w') : SAns o w (.returned (.tuple #[.agg #[.int .i64 0, .int .i64 0, .string ByteArray.empty, .slice none 0 0, .slice none 0 0], .bool false])) w' :=
  ⟨.mk 0 0 ByteArray.empty [] [], false, ⟨_, _, _, _, _⟩, Or.inr ⟨h, rfl, rfl⟩, rfl, rep_leaf 0 0 ByteArray.empty ⟨by decide, by decide⟩ ⟨by decide, by decide⟩ (by simp), hb⟩

theorem bt_same {l : List UInt8} {s : ByteArray} : (⟨l.toArray⟩ : ByteArray) = s ↔ l = s.data.toList := by
  constructor
  · intro h; rw [← h]
  · intro h; rw [h]
theorem l_beq (l : List UInt8) (s : ByteArray) : (l == s.toList) = decide (l = s.data.toList) := by
  rw [toList_data, Bool.eq_iff_iff]
  simp
theorem below_bt {R : Nat} {w W : World} (h : But R w W) {n : Nat} (hn : n ≤ w.heap.size) (hR : n ≤ R) : Below n w W := ⟨h.os, h.tape, h.output, h.size, fun k hk => h.at (by omega) (by omega)⟩

/-- What is known of the reading. -/
theorem sp_cases {s : ByteArray} (h1 : s.size ≤ 10000) {t : Tr} {a2 : Nat} {bad2 : Bool} (hy : bad2 = false → a2 ≤ s.size ∧ false = false ∧ spT 6 (lf s 0) () = some (t, lf s a2, ())) (hn : bad2 = true → false = true ∨ spT 6 (lf s 0) () = none) :
    (bad2 = false ∧ a2 = s.size ∧ spO s = if 0 < pT t 1 ∧ txT t = s.data.toList then some t else none) ∨ (bad2 = false ∧ ¬ ((a2 : Int) = (s.size : Int)) ∧ spO s = none) ∨ (bad2 = true ∧ spO s = none) := by
  unfold spO specRd
  rw [if_pos h1, ← lfz]
  cases bad2 with
  | false =>
    obtain ⟨g1, -, g2⟩ := hy rfl
    by_cases he : a2 = s.size
    · refine Or.inl ⟨rfl, he, ?_⟩
      rw [g2, he, lf_nil (Nat.le_refl _)]
    · refine Or.inr (Or.inl ⟨rfl, by omega, ?_⟩)
      rw [g2, lf_cons (show a2 < s.size by omega)]
  | true =>
    refine Or.inr (Or.inr ⟨rfl, ?_⟩)
    rcases hn rfl with h | h
    · cases h
    · rw [h]

set_option maxRecDepth 100000 in
set_option maxHeartbeats 3200000 in
theorem specTreeRead_any (w : World) (s : ByteArray) (hs : s.size ≤ 1048576) :
    Calls Tryz.prog 4 #[.string s] w fun e w' => SAns (spO s) w e w' := by
  by_cases h8 : 10000 < s.size
  · have hsp : spO s = none := by unfold spO; rw [if_neg (by omega)]
    have hd : decide ((10000 : Int) < (s.size : Int)) = true := by simp; omega
    have HSP := hide hsp
    clear hsp
    go_enter Tryz.func4, Tryz.ntmps4
    go_wp2_with fail
    refine bodyPost_ret (v := .tuple #[.agg #[.int .i64 0, .int .i64 0, .string ByteArray.empty, .slice none 0 0, .slice none 0 0], .bool false]) (by simp [results, Tryz.results4, go_sem] <;> rfl) rfl ?_
    exact SAns.no (unhide HSP) ((Below.refl _ _).alloc (Nat.le_refl _) _)
  · have hd : decide ((10000 : Int) < (s.size : Int)) = false := by simp; omega
    have hrd : Rdr ((w.alloc (.cells #[.int .i64 0, .int .i64 0, .string ⟨#[]⟩, .slice none 0 0, .slice none 0 0] 25)).alloc (.cells #[.string s, .int .i64 0, .bool false] 33)) (w.heap.size + 1) s 0 false := by
      have q := row3_alloc (w.alloc (.cells #[.int .i64 0, .int .i64 0, .string ⟨#[]⟩, .slice none 0 0, .slice none 0 0] 25)) (.string s) (.int .i64 (0 : Nat)) (.bool false) 33
      rw [World.size_alloc] at q
      exact q
    have hsub := spTree_all 6 (Nat.le_refl _) _ (w.heap.size + 1) s 0 false hs hrd (Nat.zero_le _)
    rw [show (7 : Int) - ((6 : Nat) : Int) = 1 from by omega] at hsub
    have h10 : s.size ≤ 10000 := by omega
    generalize hO : spO s = O at *
    have hcal : Calls Tryz.prog 9 #[.pointer (some ⟨w.heap.size + 1, 0, none⟩), .int .i64 1] ((w.alloc (.cells #[.int .i64 0, .int .i64 0, .string ⟨#[]⟩, .slice none 0 0, .slice none 0 0] 25)).alloc (.cells #[.string s, .int .i64 0, .bool false] 33)) fun e w2 => ∃ (t : Tr) (ap : Option Addr) (cp : Nat) (aq : Option Addr) (cq a2 : Nat) (bad2 : Bool), e = .returned (.agg #[.int .i64 t.sort, .int .i64 t.num, .string t.text, .slice ap t.names.length cp, .slice aq t.kids.length cq]) ∧
        Hid (Rep (fun b => w.heap.size + 2 ≤ b ∧ b < w2.heap.size) w2 t ⟨.int .i64 t.sort, .int .i64 t.num, .string t.text, .slice ap t.names.length cp, .slice aq t.kids.length cq⟩) ∧ Rdr w2 (w.heap.size + 1) s a2 bad2 ∧ Hid (Below w.heap.size w w2) ∧ Hid (w2.rowIs w.heap.size 25 5 (row5 (.int .i64 0) (.int .i64 0) (.string ⟨#[]⟩) (.slice none 0 0) (.slice none 0 0))) ∧ w.heap.size + 2 ≤ w2.heap.size ∧
        ((bad2 = false ∧ a2 = s.size ∧ Hid (O = if 0 < pT t 1 ∧ txT t = s.data.toList then some t else none)) ∨ (bad2 = false ∧ ¬ ((a2 : Int) = (s.size : Int)) ∧ Hid (O = none)) ∨ (bad2 = true ∧ Hid (O = none))) := hsub.mono (by
      rintro e w2 ⟨t, ⟨x0, x1, x2, x3, x4⟩, a2, bad2, rfl, hrep, hr2, hb2, hfar, hyes, hno⟩
      obtain ⟨q0, q1, q2, -, -, -, ⟨ap, cp, q3, -⟩, aq, cq, q4, -⟩ := hrep.open
      simp only at q0 q1 q2 q3 q4
      subst q0 q1 q2 q3 q4
      have hsz := hb2.size
      simp only [World.size_alloc] at hsz
      have hcs := sp_cases h10 hyes hno
      rw [hO] at hcs
      refine ⟨t, ap, cp, aq, cq, a2, bad2, rfl, Rep.carry (fun _ _ => rfl) (fun b hb => ⟨by have := hb.1; simp only [World.size_alloc] at this; omega, hb.2⟩) _ _ hrep, hr2, ?_, (World.rowIs.alloc (row5_alloc w _ _ _ _ _ _) _).of_block (hb2.at (by simp; omega) (by omega)), by omega, hcs⟩
      exact (((Below.refl _ w).alloc (Nat.le_refl _) _).alloc (by simp) _).trans (below_bt hb2 (by simp; omega) (by omega)))
    have HCAL := hide hcal
    clear hcal hsub hrd hO
    go_enter Tryz.func4, Tryz.ntmps4
    go_wp2_with fail
    refine (unhide HCAL).mono ?_
    rintro e w2 ⟨t, ap, cp, aq, cq, a2, bad2, rfl, HREP, hr2, HB2, HBX, hs2, hcs⟩
    clear HCAL
    obtain ⟨y0, y1, y2, g1, g2⟩ := hr2.cells
    have r0 := (unhide HBX).cell (i := 0) (by omega); have r1 := (unhide HBX).cell (i := 1) (by omega); have r2 := (unhide HBX).cell (i := 2) (by omega); have r3 := (unhide HBX).cell (i := 3) (by omega); have r4 := (unhide HBX).cell (i := 4) (by omega)
    have z0 := (unhide HBX).frozen 0; have z1 := (unhide HBX).frozen 1; have z2 := (unhide HBX).frozen 2; have z3 := (unhide HBX).frozen 3; have z4 := (unhide HBX).frozen 4
    simp only [row5] at r0 r1 r2 r3 r4
    have hl0 : w.heap.size < w2.heap.size := by omega
    have hl1 : w.heap.size + 1 < w2.heap.size := by omega
    rcases hcs with ⟨rfl, rfl, HO⟩ | ⟨rfl, hne, HO⟩ | ⟨rfl, HO⟩
    · have hba := (Below.refl w2.heap.size w2).alloc (Nat.le_refl _) (.cells #[.int .i64 t.sort, .int .i64 t.num, .string t.text, .slice ap t.names.length cp, .slice aq t.kids.length cq] 25)
      have hrep3 := Rep.carry (w' := w2.alloc (.cells #[.int .i64 t.sort, .int .i64 t.num, .string t.text, .slice ap t.names.length cp, .slice aq t.kids.length cq] 25)) (fun b hb => hba.block b hb.2) (fun _ h => h) _ _ (unhide HREP)
      have hok := specTreeOk_any t _ ⟨_, _, _, _, _⟩ _ (fun b hb => by rw [World.size_alloc]; have := hb.2; omega) hrep3
      have hok2 : Calls Tryz.prog 10 #[.agg #[.int .i64 t.sort, .int .i64 t.num, .string t.text, .slice ap t.names.length cp, .slice aq t.kids.length cq]] (w2.alloc (.cells #[.int .i64 t.sort, .int .i64 t.num, .string t.text, .slice ap t.names.length cp, .slice aq t.kids.length cq] 25)) fun e w4 => e = .returned (.bool (decide (0 < pT t 1))) ∧ Hid (Below w2.heap.size w2 w4) ∧ Hid (w4.rowIs w2.heap.size 25 5 (row5 (.int .i64 t.sort) (.int .i64 t.num) (.string t.text) (.slice ap t.names.length cp) (.slice aq t.kids.length cq))) := hok.mono (fun e w4 ⟨h1, h2⟩ => ⟨h1, hba.trans (h2.mono (by simp)), (row5_alloc w2 _ _ _ _ _ _).of_block (h2.block _ (by simp))⟩)
      have HOK := hide hok2
      clear hok hok2 hba hrep3 r0 r1 r2 r3 r4 z0 z1 z2 z3 z4 hr2
      go_wp2_with fail
      refine (unhide HOK).mono ?_
      rintro e w4 ⟨rfl, HB4, HR4⟩
      clear HOK y0 y1 y2 g1 g2
      have k0 := (unhide HR4).cell (i := 0) (by omega); have k1 := (unhide HR4).cell (i := 1) (by omega); have k2 := (unhide HR4).cell (i := 2) (by omega); have k3 := (unhide HR4).cell (i := 3) (by omega); have k4 := (unhide HR4).cell (i := 4) (by omega)
      simp only [row5] at k0 k1 k2 k3 k4
      have hs4 := (unhide HB4).size
      have hbx4 := (unhide HBX).of_block ((unhide HB4).block _ hl0)
      have HBX4 := hide hbx4
      have HB04 := hide ((unhide HB2).trans ((unhide HB4).mono (by omega)))
      have HREP4 := hide (Rep.carry (w' := w4) (fun b hb => (unhide HB4).block b hb.2) (fun _ h => h) _ _ (unhide HREP))
      clear hbx4 HBX HB2
      cases hq : decide (0 < pT t 1)
      · have r0 := (unhide HBX4).cell (i := 0) (by omega); have r1 := (unhide HBX4).cell (i := 1) (by omega); have r2 := (unhide HBX4).cell (i := 2) (by omega); have r3 := (unhide HBX4).cell (i := 3) (by omega); have r4 := (unhide HBX4).cell (i := 4) (by omega)
        have z0 := (unhide HBX4).frozen 0; have z1 := (unhide HBX4).frozen 1; have z2 := (unhide HBX4).frozen 2; have z3 := (unhide HBX4).frozen 3; have z4 := (unhide HBX4).frozen 4
        simp only [row5] at r0 r1 r2 r3 r4
        have HON : Hid (O = none) := by
          show O = none
          rw [unhide HO, if_neg (fun h => by rw [decide_eq_true h.1] at hq; cases hq)]
        clear hq
        go_wp2_with fail
        refine bodyPost_ret (v := .tuple #[.agg #[.int .i64 0, .int .i64 0, .string ByteArray.empty, .slice none 0 0, .slice none 0 0], .bool false]) (by simp [results, Tryz.results4, go_sem, r0, r1, r2, r3, r4] <;> rfl) rfl ?_
        exact SAns.no (unhide HON) (below_set5 (unhide HB04) _ ⟨_, _, _, _, _⟩ (Nat.le_refl _))
      · have hp := of_decide_eq_true hq
        have hw : wlk t 0 0 = some (pT t 1) := wlk_ok.2 ⟨hp, rfl⟩
        have hsh := txT_small hw
        have htx := l1Text_any t _ ⟨_, _, _, _, _⟩ w4 (fun b hb => by have := hb.2; omega) (unhide HREP4) (okT_of_wlk _ _ _ _ hw) (by omega)
        have htx2 : Calls Tryz.prog 11 #[.agg #[.int .i64 t.sort, .int .i64 t.num, .string t.text, .slice ap t.names.length cp, .slice aq t.kids.length cq]] w4 fun e w5 => e = .returned (.string ⟨(txT t).toArray⟩) ∧ Hid (Below w4.heap.size w4 w5) := htx
        have HTX := hide htx2
        have hbe := l_beq (txT t) s
        have HHP := hide hp
        clear htx htx2 hw hsh hp hq
        go_wp2_with fail
        refine (unhide HTX).mono ?_
        rintro e w5 ⟨rfl, HB5⟩
        clear HTX k0 k1 k2 k3 k4
        have hr5 := (unhide HR4).of_block ((unhide HB5).block _ (unhide HR4).lt)
        have k0 := hr5.cell (i := 0) (by omega); have k1 := hr5.cell (i := 1) (by omega); have k2 := hr5.cell (i := 2) (by omega); have k3 := hr5.cell (i := 3) (by omega); have k4 := hr5.cell (i := 4) (by omega)
        have hbx5 := (unhide HBX4).of_block ((unhide HB5).block _ (unhide HBX4).lt)
        have r0 := hbx5.cell (i := 0) (by omega); have r1 := hbx5.cell (i := 1) (by omega); have r2 := hbx5.cell (i := 2) (by omega); have r3 := hbx5.cell (i := 3) (by omega); have r4 := hbx5.cell (i := 4) (by omega)
        have z0 := hbx5.frozen 0; have z1 := hbx5.frozen 1; have z2 := hbx5.frozen 2; have z3 := hbx5.frozen 3; have z4 := hbx5.frozen 4
        simp only [row5] at r0 r1 r2 r3 r4 k0 k1 k2 k3 k4
        have HB05 := hide ((unhide HB04).trans ((unhide HB5).mono (unhide HB04).size))
        have HREP5 := hide (Rep.carry (w' := w5) (fun b hb => (unhide HB5).block b (by have := hb.2; omega)) (fun _ h => h) _ _ (unhide HREP4))
        have hs5 := (unhide HB5).size
        clear hr5 hbx5
        by_cases hsame : txT t = s.data.toList
        · have hb1 : (txT t == s.toList) = true := by rw [hbe]; exact decide_eq_true hsame
          have HON : Hid (O = some t) := by
            show O = some t
            rw [unhide HO, if_pos ⟨unhide HHP, hsame⟩]
          clear hbe hsame
          go_wp2_with fail
          refine bodyPost_ret (v := .tuple #[.agg #[.int .i64 t.sort, .int .i64 t.num, .string t.text, .slice ap t.names.length cp, .slice aq t.kids.length cq], .bool true]) (by simp [results, Tryz.results4, go_sem, r0, r1, r2, r3, r4]) rfl ?_
          have hh := fun b hb => set5_heap w5 w.heap.size ⟨.int .i64 t.sort, .int .i64 t.num, .string t.text, .slice ap t.names.length cp, .slice aq t.kids.length cq⟩ b hb
          have hbb := below_set5 (unhide HB05) w.heap.size ⟨.int .i64 t.sort, .int .i64 t.num, .string t.text, .slice ap t.names.length cp, .slice aq t.kids.length cq⟩ (Nat.le_refl _)
          refine ⟨t, true, ⟨_, _, _, _, _⟩, Or.inl ⟨unhide HON, rfl⟩, rfl, ?_, hbb⟩
          exact Rep.carry (w' := set5 w5 w.heap.size ⟨.int .i64 t.sort, .int .i64 t.num, .string t.text, .slice ap t.names.length cp, .slice aq t.kids.length cq⟩) (fun b hb => hh b (by omega)) (fun b hb => ⟨by omega, by have := hb.2; simp only [World.size_setCell]; omega⟩) _ _ (unhide HREP5)
        · have hb1 : (txT t == s.toList) = false := by rw [hbe]; exact decide_eq_false hsame
          have HON : Hid (O = none) := by
            show O = none
            rw [unhide HO, if_neg (fun h => hsame h.2)]
          clear hbe hsame
          go_wp2_with fail
          refine bodyPost_ret (v := .tuple #[.agg #[.int .i64 0, .int .i64 0, .string ByteArray.empty, .slice none 0 0, .slice none 0 0], .bool false]) (by simp [results, Tryz.results4, go_sem, r0, r1, r2, r3, r4] <;> rfl) rfl ?_
          exact SAns.no (unhide HON) (below_set5 (unhide HB05) _ ⟨_, _, _, _, _⟩ (Nat.le_refl _))
    · go_wp2_with fail
      refine bodyPost_ret (v := .tuple #[.agg #[.int .i64 0, .int .i64 0, .string ByteArray.empty, .slice none 0 0, .slice none 0 0], .bool false]) (by simp [results, Tryz.results4, go_sem, r0, r1, r2, r3, r4, hl0] <;> rfl) rfl ?_
      exact SAns.no (unhide HO) ((below_set5 (unhide HB2) _ ⟨_, _, _, _, _⟩ (Nat.le_refl _)).alloc (by rw [set5_size]; omega) _)
    · go_wp2_with fail
      refine bodyPost_ret (v := .tuple #[.agg #[.int .i64 0, .int .i64 0, .string ByteArray.empty, .slice none 0 0, .slice none 0 0], .bool false]) (by simp [results, Tryz.results4, go_sem, r0, r1, r2, r3, r4, hl0] <;> rfl) rfl ?_
      exact SAns.no (unhide HO) ((below_set5 (unhide HB2) _ ⟨_, _, _, _, _⟩ (Nat.le_refl _)).alloc (by rw [set5_size]; omega) _)
end Go.Proofs.YteofngankokkkaaGreatDoor

/- The walks of markText and markStringS: the text of a mark; strings that own their memory are marked in place, and nothing else turns. For marks up to 2^40. -/

namespace Go.Proofs.YteofngankokkkaaGreatDoor
open Go Go.RowKit

theorem mtl_step {j : Nat} (h : j ≠ 0) (o : ByteArray) : mtl j o = mtl (j / 10) (⟨#[dg ((j : Int) % 10)]⟩ ++ o) := by
  conv => lhs; rw [mtl]
  rw [dif_neg h]
  have : dg ((j : Int) % 10) = UInt8.ofNat (48 + j % 10) := by unfold dg; rw [show ((j : Int) % 10).toNat = j % 10 from by omega]
  rw [this]
theorem mtl_zero (o : ByteArray) : mtl 0 o = o := by rw [mtl]; simp

theorem quo10' {n : Int} (h0 : 0 ≤ n) (h1 : n ≤ 1099511627776) : IntKind.i64.wrap (n.tdiv 10) = n / 10 := by
  rw [IntKind.wrap_i64, Int.tdiv_eq_ediv_of_nonneg h0]; omega

set_option maxHeartbeats 400000 in
theorem markText_any (k : Nat) (w : World) (hk0 : 0 < k) (hk : k ≤ 1099511627776) :
    Calls Tryz.prog 43 #[.int .i64 k] w fun e w' => e = .returned (.string (mtx k)) ∧ Below w.heap.size w w' := by
  go_enter Tryz.func43, Tryz.ntmps43
  go_wp2_with fail
  go_loopw [0, 3] (fun kk os wr => ∃ (j : Nat) (o : ByteArray), kk = .int .i64 j ∧ os = .string o ∧ Hid (mtl j o = mtl k ByteArray.empty) ∧ o.size + j ≤ k ∧ Below w.heap.size w wr) (fun kk _ _ => (intOf kk).toNat)
  case atStart => exact ⟨k, ByteArray.empty, rfl, rfl, hide rfl, by simp, Below.refl _ _⟩
  case round =>
    obtain ⟨j, o, rfl, rfl, HM, hsz, hb⟩ := hrel
    by_cases hj : j = 0
    · subst hj
      have hm := HM.out
      rw [mtl_zero] at hm
      have HM2 := hide hm
      have e1 : (ByteArray.mk #[109]).size = 1 := rfl
      have e2 : o.size ≤ 1099511627776 := by omega
      clear hm HM hsz
      go_wp2_with fail
      go_ret
      have hm := HM2.out
      subst hm
      exact ⟨rfl, hb⟩
    · have hconv := fun W b cap => conv_one W b cap ((j : Int) % 10) (by omega) (by omega)
      have hq1 := quo10' (n := j) (by omega) (by omega)
      have hq2 := rem10 (n := j) (by omega)
      have hq3 := rem10b j
      have hm := HM.out
      rw [mtl_step hj] at hm
      have HM2 := hide hm
      have e1 : (ByteArray.mk #[dg ((j : Int) % 10)]).size = 1 := rfl
      clear hm HM
      go_wp2_with fail
      go_roundw
      case rel =>
        refine ⟨j / 10, _, by simp, rfl, HM2, ?_, hb.alloc hb.size _⟩
        rw [ByteArray.size_append, e1]; omega
      case measure => simp [intOf]; omega

/-- What the loop of markStringS has marked after k rounds. -/
def MrkS (w : World) (b : Nat) (ss : List ByteArray) (k0 k : Nat) : Prop :=
  FreeB w b ∧ ∀ i, (h : i < ss.length) → w.cell? ⟨b, i, none⟩ = some (.string (if i < k then mtx (k0 + i) else ss[i])) ∧ ss[i].size ≤ 9223372036854775807

theorem MrkS.step {w : World} {b : Nat} {ss : List ByteArray} {k0 k : Nat} (h : MrkS w b ss k0 k) (hk : k < ss.length) : MrkS (w.setCell ⟨b, k, none⟩ (.string (mtx (k0 + k)))) b ss k0 (k + 1) := by
  refine ⟨h.1.set _ _, fun i hi => ⟨?_, (h.2 i hi).2⟩⟩
  by_cases e : i = k
  · subst e
    have := (h.2 i hi).1
    rw [if_pos (by omega)]
    simp [go_sem, this]
  · have := (h.2 i hi).1
    rw [show (if i < k + 1 then mtx (k0 + i) else ss[i]) = (if i < k then mtx (k0 + i) else ss[i]) from by
      by_cases e2 : i < k
      · rw [if_pos e2, if_pos (by omega)]
      · rw [if_neg e2, if_neg (by omega)]]
    rw [← this]
    simp [go_sem]
theorem MrkS.of_block {w w' : World} {b : Nat} {ss : List ByteArray} {k0 k : Nat} (h : MrkS w b ss k0 k) (e : w'.heap[b]? = w.heap[b]?) : MrkS w' b ss k0 k :=
  ⟨h.1.of_block e, fun i hi => ⟨by rw [World.cell?_of_block (w := w) (a := ⟨b, i, none⟩) e]; exact (h.2 i hi).1, (h.2 i hi).2⟩⟩

set_option maxHeartbeats 400000 in
theorem markStringS_any (v : Value) (ss : List ByteArray) (F : List Nat) (k : Nat) (w : World) (hv : StrsOwn w v ss F) (hk0 : 0 < k) (hk : k + ss.length ≤ 1099511627776) :
    Calls Tryz.prog 19 #[v, .int .i64 k] w fun e w' => e = .returned (.int .i64 (k + ss.length : Nat)) ∧ StrsOwn w' v (mS k ss) F ∧ Exc F w w' := by
  obtain ⟨a, cap, rfl, hlen, hc⟩ := hv
  rcases hc with ⟨rfl, rfl⟩ | ⟨b, rfl, rfl, hfr, hc⟩
  · simp only [List.length_nil] at *
    go_enter Tryz.func19, Tryz.ntmps19
    go_wp2_with fail
    go_loopw [1, 5] (fun kk i wr => kk = .int .i64 k ∧ i = .int .i64 0 ∧ wr = w) (fun _ _ _ => 0)
    case atStart => exact ⟨rfl, rfl, rfl⟩
    case round =>
      obtain ⟨rfl, rfl, rfl⟩ := hrel
      go_wp2_with fail
      go_ret
      exact ⟨by simp, ⟨a, cap, by simp [mS], by simp [mS], Or.inl ⟨rfl, rfl⟩⟩, Exc.refl _ _⟩
  · have hM : MrkS w b ss k 0 := ⟨hfr, fun i hi => ⟨by rw [if_neg (by omega)]; exact (hc i hi).1, (hc i hi).2⟩⟩
    have HM := hide hM
    clear hM hfr hc
    go_enter Tryz.func19, Tryz.ntmps19
    go_wp2_with fail
    go_loopw [1, 5] (fun kk i wr => ∃ (j : Nat), j ≤ ss.length ∧ kk = .int .i64 (k + j : Nat) ∧ i = .int .i64 j ∧ Hid (MrkS wr b ss k j) ∧ Exc [b] w wr) (fun _ i _ => ss.length - (intOf i).toNat)
    case atStart => exact ⟨0, Nat.zero_le _, rfl, rfl, HM, Exc.refl _ _⟩
    case round =>
      obtain ⟨j, hj, rfl, rfl, HMj, hex⟩ := hrel
      by_cases hlt : j < ss.length
      · have hblt : b < wr.heap.size := World.block_lt_of_cell? wr _ (HMj.out.2 j hlt).1
        go_wp2_with fail
        refine (markText_any (k + j) wr (by omega) (by omega)).mono ?_
        rintro e w' ⟨rfl, hb'⟩
        have hMj := HMj.out.of_block (hb'.block b hblt)
        have HMj' := hide hMj
        have z0 := hMj.1 j
        have y0 := (hMj.2 j hlt).1
        rw [if_neg (by omega)] at y0
        clear hMj
        go_wp2_with fail
        go_roundw
        case rel =>
          refine ⟨j + 1, by omega, by go_num, by go_num, hide (HMj'.out.step hlt), ?_⟩
          exact (hex.trans (Exc.of_below hb')).trans (Exc.set _ _ _ _ (by simp))
        case measure => simp [intOf]; omega
      · go_wp2_with fail
        go_ret
        obtain rfl : j = ss.length := by omega
        refine ⟨rfl, ⟨some ⟨b, 0, none⟩, cap, by rw [mS_len], by rw [mS_len]; exact hlen, Or.inr ⟨b, rfl, rfl, HMj.out.1, fun i hi => ?_⟩⟩, hex⟩
        have hi' : i < ss.length := by rw [mS_len] at hi; exact hi
        have := (HMj.out.2 i hi').1
        rw [if_pos hi'] at this
        rw [mS_get]
        exact ⟨this, by have := mtx_size (k + i); omega⟩
end Go.Proofs.YteofngankokkkaaGreatDoor
