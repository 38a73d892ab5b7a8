/- The walk of the specification's TreeRead: it answers as the function rdO does. For texts of at most 2^20 bytes. -/
import Derived.Test.YtgamonfmgngilaaGreatDoorPart33
import Derived.Test.YtgamonfmgngilaaGreatDoorPart23
import Derived.Test.YtgamonfmgngilaaGreatDoorPart24
import Derived.Test.YtgamonfmgngilaaGreatDoorPart28
import Derived.Test.YtgamonfmgngilaaGreatDoorRows
import Derived.Test.YtgamonfmgngilaaGreatDoorPart00
import Derived.Test.YtgamonfmgngilaaGreatDoorPart02
import Derived.Test.YtgamonfmgngilaaGreatDoorPart01
import Derived.Deep.RegionWith
import Derived.Deep.QuietTactic
import Derived.BigQuiet
namespace Go.Proofs.YtgamonfmgngilaaGreatDoor
open Go Go.RowKit

theorem lfz (s : ByteArray) : lf s 0 = s.data.toList := by unfold lf; simp
/-- What the specification's TreeRead comes to. -/
noncomputable def spO (s : ByteArray) : Option Tr := if s.size ≤ 10000 then specRd s.data.toList else none

/-- An answer of the specification's TreeRead. -/
def SAns (o : Option Tr) (w : World) (e : Ending) (w' : World) : Prop :=
  ∃ (t : Tr) (b : Bool) (c : C5), ((o = some t ∧ b = true) ∨ (o = none ∧ b = false ∧ t = .mk 0 0 ByteArray.empty [] [])) ∧ e = .returned (.tuple #[.agg #[c.c0, c.c1, c.c2, c.c3, c.c4], .bool b]) ∧ Rep (New w w') w' t c ∧ Below w.heap.size w w'
theorem SAns.no {o : Option Tr} {w w' : World} (h : o = none) (hb : Below w.heap.size w w') : SAns o w (.returned (.tuple #[.agg #[.int .i64 0, .int .i64 0, .string ByteArray.empty, .slice none 0 0, .slice none 0 0], .bool false])) w' :=
  ⟨.mk 0 0 ByteArray.empty [] [], false, ⟨_, _, _, _, _⟩, Or.inr ⟨h, rfl, rfl⟩, rfl, rep_leaf 0 0 ByteArray.empty ⟨by decide, by decide⟩ ⟨by decide, by decide⟩ (by simp), hb⟩

theorem bt_same {l : List UInt8} {s : ByteArray} : (⟨l.toArray⟩ : ByteArray) = s ↔ l = s.data.toList := by
  constructor
  · intro h; rw [← h]
  · intro h; rw [h]
theorem l_beq (l : List UInt8) (s : ByteArray) : (l == s.toList) = decide (l = s.data.toList) := by
  rw [toList_data, Bool.eq_iff_iff]
  simp
theorem below_bt {R : Nat} {w W : World} (h : But R w W) {n : Nat} (hn : n ≤ w.heap.size) (hR : n ≤ R) : Below n w W := ⟨h.os, h.tape, h.output, h.size, fun k hk => h.at (by omega) (by omega)⟩

/-- What is known of the reading. -/
theorem sp_cases {s : ByteArray} (h1 : s.size ≤ 10000) {t : Tr} {a2 : Nat} {bad2 : Bool} (hy : bad2 = false → a2 ≤ s.size ∧ false = false ∧ spT 6 (lf s 0) () = some (t, lf s a2, ())) (hn : bad2 = true → false = true ∨ spT 6 (lf s 0) () = none) :
    (bad2 = false ∧ a2 = s.size ∧ spO s = if 0 < pT t 1 ∧ txT t = s.data.toList then some t else none) ∨ (bad2 = false ∧ ¬ ((a2 : Int) = (s.size : Int)) ∧ spO s = none) ∨ (bad2 = true ∧ spO s = none) := by
  unfold spO specRd
  rw [if_pos h1, ← lfz]
  cases bad2 with
  | false =>
    obtain ⟨g1, -, g2⟩ := hy rfl
    by_cases he : a2 = s.size
    · refine Or.inl ⟨rfl, he, ?_⟩
      rw [g2, he, lf_nil (Nat.le_refl _)]
    · refine Or.inr (Or.inl ⟨rfl, by omega, ?_⟩)
      rw [g2, lf_cons (show a2 < s.size by omega)]
  | true =>
    refine Or.inr (Or.inr ⟨rfl, ?_⟩)
    rcases hn rfl with h | h
    · cases h
    · rw [h]

set_option maxRecDepth 100000 in
set_option maxHeartbeats 3200000 in
theorem specTreeRead_any (w : World) (s : ByteArray) (hs : s.size ≤ 1048576) :
    Calls Tryz.prog 15 #[.string s] w fun e w' => SAns (spO s) w e w' := by
  by_cases h8 : 10000 < s.size
  · have hsp : spO s = none := by unfold spO; rw [if_neg (by omega)]
    have hd : decide ((10000 : Int) < (s.size : Int)) = true := by simp; omega
    have HSP := hide hsp
    clear hsp
    go_enter Tryz.func15, Tryz.ntmps15
    go_wp2_with fail
    refine bodyPost_ret (v := .tuple #[.agg #[.int .i64 0, .int .i64 0, .string ByteArray.empty, .slice none 0 0, .slice none 0 0], .bool false]) (by simp [results, Tryz.results15, go_sem] <;> rfl) rfl ?_
    exact SAns.no (unhide HSP) ((Below.refl _ _).alloc (Nat.le_refl _) _)
  · have hd : decide ((10000 : Int) < (s.size : Int)) = false := by simp; omega
    have hrd : Rdr ((w.alloc (.cells #[.int .i64 0, .int .i64 0, .string ⟨#[]⟩, .slice none 0 0, .slice none 0 0] 26)).alloc (.cells #[.string s, .int .i64 0, .bool false] 63)) (w.heap.size + 1) s 0 false := by
      have q := row3_alloc (w.alloc (.cells #[.int .i64 0, .int .i64 0, .string ⟨#[]⟩, .slice none 0 0, .slice none 0 0] 26)) (.string s) (.int .i64 (0 : Nat)) (.bool false) 63
      rw [World.size_alloc] at q
      exact q
    have hsub := spTree_all 6 (Nat.le_refl _) _ (w.heap.size + 1) s 0 false hs hrd (Nat.zero_le _)
    rw [show (7 : Int) - ((6 : Nat) : Int) = 1 from by omega] at hsub
    have h10 : s.size ≤ 10000 := by omega
    generalize hO : spO s = O at *
    have hcal : Calls Tryz.prog 35 #[.pointer (some ⟨w.heap.size + 1, 0, none⟩), .int .i64 1] ((w.alloc (.cells #[.int .i64 0, .int .i64 0, .string ⟨#[]⟩, .slice none 0 0, .slice none 0 0] 26)).alloc (.cells #[.string s, .int .i64 0, .bool false] 63)) fun e w2 => ∃ (t : Tr) (ap : Option Addr) (cp : Nat) (aq : Option Addr) (cq a2 : Nat) (bad2 : Bool), e = .returned (.agg #[.int .i64 t.sort, .int .i64 t.num, .string t.text, .slice ap t.names.length cp, .slice aq t.kids.length cq]) ∧
        Hid (Rep (fun b => w.heap.size + 2 ≤ b ∧ b < w2.heap.size) w2 t ⟨.int .i64 t.sort, .int .i64 t.num, .string t.text, .slice ap t.names.length cp, .slice aq t.kids.length cq⟩) ∧ Rdr w2 (w.heap.size + 1) s a2 bad2 ∧ Hid (Below w.heap.size w w2) ∧ Hid (w2.rowIs w.heap.size 26 5 (row5 (.int .i64 0) (.int .i64 0) (.string ⟨#[]⟩) (.slice none 0 0) (.slice none 0 0))) ∧ w.heap.size + 2 ≤ w2.heap.size ∧
        ((bad2 = false ∧ a2 = s.size ∧ Hid (O = if 0 < pT t 1 ∧ txT t = s.data.toList then some t else none)) ∨ (bad2 = false ∧ ¬ ((a2 : Int) = (s.size : Int)) ∧ Hid (O = none)) ∨ (bad2 = true ∧ Hid (O = none))) := hsub.mono (by
      rintro e w2 ⟨t, ⟨x0, x1, x2, x3, x4⟩, a2, bad2, rfl, hrep, hr2, hb2, hfar, hyes, hno⟩
      obtain ⟨q0, q1, q2, -, -, -, ⟨ap, cp, q3, -⟩, aq, cq, q4, -⟩ := hrep.open
      simp only at q0 q1 q2 q3 q4
      subst q0 q1 q2 q3 q4
      have hsz := hb2.size
      simp only [World.size_alloc] at hsz
      have hcs := sp_cases h10 hyes hno
      rw [hO] at hcs
      refine ⟨t, ap, cp, aq, cq, a2, bad2, rfl, Rep.carry (fun _ _ => rfl) (fun b hb => ⟨by have := hb.1; simp only [World.size_alloc] at this; omega, hb.2⟩) _ _ hrep, hr2, ?_, (World.rowIs.alloc (row5_alloc w _ _ _ _ _ _) _).of_block (hb2.at (by simp; omega) (by omega)), by omega, hcs⟩
      exact (((Below.refl _ w).alloc (Nat.le_refl _) _).alloc (by simp) _).trans (below_bt hb2 (by simp; omega) (by omega)))
    have HCAL := hide hcal
    clear hcal hsub hrd hO
    go_enter Tryz.func15, Tryz.ntmps15
    go_wp2_with fail
    refine (unhide HCAL).mono ?_
    rintro e w2 ⟨t, ap, cp, aq, cq, a2, bad2, rfl, HREP, hr2, HB2, HBX, hs2, hcs⟩
    clear HCAL
    obtain ⟨y0, y1, y2, g1, g2⟩ := hr2.cells
    have r0 := (unhide HBX).cell (i := 0) (by omega); have r1 := (unhide HBX).cell (i := 1) (by omega); have r2 := (unhide HBX).cell (i := 2) (by omega); have r3 := (unhide HBX).cell (i := 3) (by omega); have r4 := (unhide HBX).cell (i := 4) (by omega)
    have z0 := (unhide HBX).frozen 0; have z1 := (unhide HBX).frozen 1; have z2 := (unhide HBX).frozen 2; have z3 := (unhide HBX).frozen 3; have z4 := (unhide HBX).frozen 4
    simp only [row5] at r0 r1 r2 r3 r4
    have hl0 : w.heap.size < w2.heap.size := by omega
    have hl1 : w.heap.size + 1 < w2.heap.size := by omega
    rcases hcs with ⟨rfl, rfl, HO⟩ | ⟨rfl, hne, HO⟩ | ⟨rfl, HO⟩
    · have hba := (Below.refl w2.heap.size w2).alloc (Nat.le_refl _) (.cells #[.int .i64 t.sort, .int .i64 t.num, .string t.text, .slice ap t.names.length cp, .slice aq t.kids.length cq] 26)
      have hrep3 := Rep.carry (w' := w2.alloc (.cells #[.int .i64 t.sort, .int .i64 t.num, .string t.text, .slice ap t.names.length cp, .slice aq t.kids.length cq] 26)) (fun b hb => hba.block b hb.2) (fun _ h => h) _ _ (unhide HREP)
      have hok := specTreeOk_any t _ ⟨_, _, _, _, _⟩ _ (fun b hb => by rw [World.size_alloc]; have := hb.2; omega) hrep3
      have hok2 : Calls Tryz.prog 8 #[.agg #[.int .i64 t.sort, .int .i64 t.num, .string t.text, .slice ap t.names.length cp, .slice aq t.kids.length cq]] (w2.alloc (.cells #[.int .i64 t.sort, .int .i64 t.num, .string t.text, .slice ap t.names.length cp, .slice aq t.kids.length cq] 26)) fun e w4 => e = .returned (.bool (decide (0 < pT t 1))) ∧ Hid (Below w2.heap.size w2 w4) ∧ Hid (w4.rowIs w2.heap.size 26 5 (row5 (.int .i64 t.sort) (.int .i64 t.num) (.string t.text) (.slice ap t.names.length cp) (.slice aq t.kids.length cq))) := hok.mono (fun e w4 ⟨h1, h2⟩ => ⟨h1, hba.trans (h2.mono (by simp)), (row5_alloc w2 _ _ _ _ _ _).of_block (h2.block _ (by simp))⟩)
      have HOK := hide hok2
      clear hok hok2 hba hrep3 r0 r1 r2 r3 r4 z0 z1 z2 z3 z4 hr2
      go_wp2_with fail
      refine (unhide HOK).mono ?_
      rintro e w4 ⟨rfl, HB4, HR4⟩
      clear HOK y0 y1 y2 g1 g2
      have k0 := (unhide HR4).cell (i := 0) (by omega); have k1 := (unhide HR4).cell (i := 1) (by omega); have k2 := (unhide HR4).cell (i := 2) (by omega); have k3 := (unhide HR4).cell (i := 3) (by omega); have k4 := (unhide HR4).cell (i := 4) (by omega)
      simp only [row5] at k0 k1 k2 k3 k4
      have hs4 := (unhide HB4).size
      have hbx4 := (unhide HBX).of_block ((unhide HB4).block _ hl0)
      have HBX4 := hide hbx4
      have HB04 := hide ((unhide HB2).trans ((unhide HB4).mono (by omega)))
      have HREP4 := hide (Rep.carry (w' := w4) (fun b hb => (unhide HB4).block b hb.2) (fun _ h => h) _ _ (unhide HREP))
      clear hbx4 HBX HB2
      cases hq : decide (0 < pT t 1)
      · have r0 := (unhide HBX4).cell (i := 0) (by omega); have r1 := (unhide HBX4).cell (i := 1) (by omega); have r2 := (unhide HBX4).cell (i := 2) (by omega); have r3 := (unhide HBX4).cell (i := 3) (by omega); have r4 := (unhide HBX4).cell (i := 4) (by omega)
        have z0 := (unhide HBX4).frozen 0; have z1 := (unhide HBX4).frozen 1; have z2 := (unhide HBX4).frozen 2; have z3 := (unhide HBX4).frozen 3; have z4 := (unhide HBX4).frozen 4
        simp only [row5] at r0 r1 r2 r3 r4
        have HON : Hid (O = none) := by
          show O = none
          rw [unhide HO, if_neg (fun h => by rw [decide_eq_true h.1] at hq; cases hq)]
        clear hq
        go_wp2_with fail
        refine bodyPost_ret (v := .tuple #[.agg #[.int .i64 0, .int .i64 0, .string ByteArray.empty, .slice none 0 0, .slice none 0 0], .bool false]) (by simp [results, Tryz.results15, go_sem, r0, r1, r2, r3, r4] <;> rfl) rfl ?_
        exact SAns.no (unhide HON) (below_set5 (unhide HB04) _ ⟨_, _, _, _, _⟩ (Nat.le_refl _))
      · have hp := of_decide_eq_true hq
        have hw : wlk t 0 0 = some (pT t 1) := wlk_ok.2 ⟨hp, rfl⟩
        have hsh := txT_small hw
        have htx := l1Text_any t _ ⟨_, _, _, _, _⟩ w4 (fun b hb => by have := hb.2; omega) (unhide HREP4) (okT_of_wlk _ _ _ _ hw) (by omega)
        have htx2 : Calls Tryz.prog 23 #[.agg #[.int .i64 t.sort, .int .i64 t.num, .string t.text, .slice ap t.names.length cp, .slice aq t.kids.length cq]] w4 fun e w5 => e = .returned (.string ⟨(txT t).toArray⟩) ∧ Hid (Below w4.heap.size w4 w5) := htx
        have HTX := hide htx2
        have hbe := l_beq (txT t) s
        have HHP := hide hp
        clear htx htx2 hw hsh hp hq
        go_wp2_with fail
        refine (unhide HTX).mono ?_
        rintro e w5 ⟨rfl, HB5⟩
        clear HTX k0 k1 k2 k3 k4
        have hr5 := (unhide HR4).of_block ((unhide HB5).block _ (unhide HR4).lt)
        have k0 := hr5.cell (i := 0) (by omega); have k1 := hr5.cell (i := 1) (by omega); have k2 := hr5.cell (i := 2) (by omega); have k3 := hr5.cell (i := 3) (by omega); have k4 := hr5.cell (i := 4) (by omega)
        have hbx5 := (unhide HBX4).of_block ((unhide HB5).block _ (unhide HBX4).lt)
        have r0 := hbx5.cell (i := 0) (by omega); have r1 := hbx5.cell (i := 1) (by omega); have r2 := hbx5.cell (i := 2) (by omega); have r3 := hbx5.cell (i := 3) (by omega); have r4 := hbx5.cell (i := 4) (by omega)
        have z0 := hbx5.frozen 0; have z1 := hbx5.frozen 1; have z2 := hbx5.frozen 2; have z3 := hbx5.frozen 3; have z4 := hbx5.frozen 4
        simp only [row5] at r0 r1 r2 r3 r4 k0 k1 k2 k3 k4
        have HB05 := hide ((unhide HB04).trans ((unhide HB5).mono (unhide HB04).size))
        have HREP5 := hide (Rep.carry (w' := w5) (fun b hb => (unhide HB5).block b (by have := hb.2; omega)) (fun _ h => h) _ _ (unhide HREP4))
        have hs5 := (unhide HB5).size
        clear hr5 hbx5
        by_cases hsame : txT t = s.data.toList
        · have hb1 : (txT t == s.toList) = true := by rw [hbe]; exact decide_eq_true hsame
          have HON : Hid (O = some t) := by
            show O = some t
            rw [unhide HO, if_pos ⟨unhide HHP, hsame⟩]
          clear hbe hsame
          go_wp2_with fail
          refine bodyPost_ret (v := .tuple #[.agg #[.int .i64 t.sort, .int .i64 t.num, .string t.text, .slice ap t.names.length cp, .slice aq t.kids.length cq], .bool true]) (by simp [results, Tryz.results15, go_sem, r0, r1, r2, r3, r4]) rfl ?_
          have hh := fun b hb => set5_heap w5 w.heap.size ⟨.int .i64 t.sort, .int .i64 t.num, .string t.text, .slice ap t.names.length cp, .slice aq t.kids.length cq⟩ b hb
          have hbb := below_set5 (unhide HB05) w.heap.size ⟨.int .i64 t.sort, .int .i64 t.num, .string t.text, .slice ap t.names.length cp, .slice aq t.kids.length cq⟩ (Nat.le_refl _)
          refine ⟨t, true, ⟨_, _, _, _, _⟩, Or.inl ⟨unhide HON, rfl⟩, rfl, ?_, hbb⟩
          exact Rep.carry (w' := set5 w5 w.heap.size ⟨.int .i64 t.sort, .int .i64 t.num, .string t.text, .slice ap t.names.length cp, .slice aq t.kids.length cq⟩) (fun b hb => hh b (by omega)) (fun b hb => ⟨by omega, by have := hb.2; simp only [World.size_setCell]; omega⟩) _ _ (unhide HREP5)
        · have hb1 : (txT t == s.toList) = false := by rw [hbe]; exact decide_eq_false hsame
          have HON : Hid (O = none) := by
            show O = none
            rw [unhide HO, if_neg (fun h => hsame h.2)]
          clear hbe hsame
          go_wp2_with fail
          refine bodyPost_ret (v := .tuple #[.agg #[.int .i64 0, .int .i64 0, .string ByteArray.empty, .slice none 0 0, .slice none 0 0], .bool false]) (by simp [results, Tryz.results15, go_sem, r0, r1, r2, r3, r4] <;> rfl) rfl ?_
          exact SAns.no (unhide HON) (below_set5 (unhide HB05) _ ⟨_, _, _, _, _⟩ (Nat.le_refl _))
    · go_wp2_with fail
      refine bodyPost_ret (v := .tuple #[.agg #[.int .i64 0, .int .i64 0, .string ByteArray.empty, .slice none 0 0, .slice none 0 0], .bool false]) (by simp [results, Tryz.results15, go_sem, r0, r1, r2, r3, r4, hl0] <;> rfl) rfl ?_
      exact SAns.no (unhide HO) ((below_set5 (unhide HB2) _ ⟨_, _, _, _, _⟩ (Nat.le_refl _)).alloc (by rw [set5_size]; omega) _)
    · go_wp2_with fail
      refine bodyPost_ret (v := .tuple #[.agg #[.int .i64 0, .int .i64 0, .string ByteArray.empty, .slice none 0 0, .slice none 0 0], .bool false]) (by simp [results, Tryz.results15, go_sem, r0, r1, r2, r3, r4, hl0] <;> rfl) rfl ?_
      exact SAns.no (unhide HO) ((below_set5 (unhide HB2) _ ⟨_, _, _, _, _⟩ (Nat.le_refl _)).alloc (by rw [set5_size]; omega) _)
end Go.Proofs.YtgamonfmgngilaaGreatDoor

/- The answers of both TreeReads as one; no program walked, no conditions. -/

namespace Go.Proofs.YtgamonfmgngilaaGreatDoor
open Go Go.RowKit

theorem spO_eq (s : ByteArray) : spO s = rdO s := by
  unfold spO rdO
  rw [same_read]

/-- The tree of an answer. -/
def tAn (o : Option Tr) : Tr := o.getD (.mk 0 0 ByteArray.empty [] [])
theorem TAns.open {o : Option Tr} {w w' : World} {e : Ending} (h : TAns o w e w') : ∃ (a1 : Option Addr) (p1 : Nat) (a2 : Option Addr) (p2 : Nat) (F : List Nat), e = .returned (.tuple #[.agg #[.int .i64 (tAn o).sort, .int .i64 (tAn o).num, .string (tAn o).text, .slice a1 (tAn o).names.length p1, .slice a2 (tAn o).kids.length p2], .bool o.isSome]) ∧ Own w' (tAn o) ⟨.int .i64 (tAn o).sort, .int .i64 (tAn o).num, .string (tAn o).text, .slice a1 (tAn o).names.length p1, .slice a2 (tAn o).kids.length p2⟩ F ∧ F.Nodup ∧ (∀ b, b ∈ F → w.heap.size ≤ b ∧ b < w'.heap.size) ∧ Below w.heap.size w w' := by
  obtain ⟨t, b, ⟨d0, d1, d2, d3, d4⟩, F, hk, rfl, ho, hnd, hF, hb⟩ := h
  have hh : tAn o = t ∧ o.isSome = b := by
    rcases hk with ⟨rfl, rfl⟩ | ⟨rfl, rfl, rfl⟩ <;> exact ⟨rfl, rfl⟩
  obtain ⟨rfl, rfl⟩ := hh
  obtain ⟨p0, p1, p2, -, -, -, F1, F2, -, ⟨a5, cap5, p3, -⟩, a6, cap6, p4, -⟩ := ho.open
  simp only at p0 p1 p2 p3 p4
  subst p0 p1 p2 p3 p4
  exact ⟨_, _, _, _, F, rfl, ho, hnd, hF, hb⟩
theorem SAns.open {o : Option Tr} {w w' : World} {e : Ending} (h : SAns o w e w') : ∃ (a1 : Option Addr) (p1 : Nat) (a2 : Option Addr) (p2 : Nat), e = .returned (.tuple #[.agg #[.int .i64 (tAn o).sort, .int .i64 (tAn o).num, .string (tAn o).text, .slice a1 (tAn o).names.length p1, .slice a2 (tAn o).kids.length p2], .bool o.isSome]) ∧ Rep (New w w') w' (tAn o) ⟨.int .i64 (tAn o).sort, .int .i64 (tAn o).num, .string (tAn o).text, .slice a1 (tAn o).names.length p1, .slice a2 (tAn o).kids.length p2⟩ ∧ Below w.heap.size w w' := by
  obtain ⟨t, b, ⟨d0, d1, d2, d3, d4⟩, hk, rfl, ho, hb⟩ := h
  have hh : tAn o = t ∧ o.isSome = b := by
    rcases hk with ⟨rfl, rfl⟩ | ⟨rfl, rfl, rfl⟩ <;> exact ⟨rfl, rfl⟩
  obtain ⟨rfl, rfl⟩ := hh
  obtain ⟨p0, p1, p2, -, -, -, ⟨a5, cap5, p3, -⟩, a6, cap6, p4, -⟩ := ho.open
  simp only at p0 p1 p2 p3 p4
  subst p0 p1 p2 p3 p4
  exact ⟨_, _, _, _, rfl, ho, hb⟩
theorem tAn_marks (s : ByteArray) : 1 + (tAn (rdO s)).names.length + cK (tAn (rdO s)).kids ≤ 1099511627776 := by
  cases hp : rdO s with
  | none => simp [tAn, Tr.names, Tr.kids, cK]
  | some t =>
    show 1 + t.names.length + cK t.kids ≤ _
    have hw : ∃ q, wlk t 0 0 = some q := by
      unfold rdO progRd at hp
      split at hp
      · split at hp
        · rename_i t' q hr
          simp only [Option.some.injEq] at hp
          subst hp
          have := (rdT_sound 6 _ _ _ _ _ (Nat.le_refl _) hr).2
          exact ⟨q, by simpa using this⟩
        · cases hp
      · cases hp
    obtain ⟨q, hq⟩ := hw
    have h1 := marks_short (tsz t + 1) t (by omega) 0 0 q (by omega) (by omega) hq
    have h2 := (wlk_bd t 0 0 q (by omega) (by omega) hq).2
    rw [cT_eq] at h1
    omega
end Go.Proofs.YtgamonfmgngilaaGreatDoor

/- The walk of the laws' own ttTree: of two trees that lie in memory as one and the same it answers true, and turns nothing that was there. No conditions. -/

namespace Go.Proofs.YtgamonfmgngilaaGreatDoor
open Go Go.RowKit

def TtSaid (n : Nat) : Prop := ∀ (t : Tr), tsz t < n → ∀ (P Q : Nat → Prop) (c d : C5) (w : World), (∀ b, P b → b < w.heap.size) → (∀ b, Q b → b < w.heap.size) → Rep P w t c → Rep Q w t d →
    Calls Tryz.prog 13 #[.agg #[c.c0, c.c1, c.c2, c.c3, c.c4], .agg #[d.c0, d.c1, d.c2, d.c3, d.c4]] w fun e w' => e = .returned (.bool true) ∧ Below w.heap.size w w'

/-- The two boxes. -/
structure TT (w : World) (c d : C5) (wr : World) : Prop where
  below : Below w.heap.size w wr
  a : wr.rowIs w.heap.size 26 5 (row5 c.c0 c.c1 c.c2 c.c3 c.c4)
  b : wr.rowIs (w.heap.size + 1) 26 5 (row5 d.c0 d.c1 d.c2 d.c3 d.c4)
theorem TT.on {w : World} {c d : C5} {wr w' : World} (h : TT w c d wr) (hb : Below wr.heap.size wr w') : TT w c d w' :=
  ⟨h.below.trans (hb.mono h.below.size), h.a.of_block (hb.block _ h.a.lt), h.b.of_block (hb.block _ h.b.lt)⟩
theorem TT.start (w : World) (c0 c1 c2 c3 c4 d0 d1 d2 d3 d4 : Value) : TT w ⟨c0, c1, c2, c3, c4⟩ ⟨d0, d1, d2, d3, d4⟩ ((w.alloc (.cells #[c0, c1, c2, c3, c4] 26)).alloc (.cells #[d0, d1, d2, d3, d4] 26)) := by
  refine ⟨((Below.refl _ _).alloc (Nat.le_refl _) _).alloc (by simp) _, (row5_alloc w c0 c1 c2 c3 c4 26).alloc _, ?_⟩
  have := row5_alloc (w.alloc (.cells #[c0, c1, c2, c3, c4] 26)) d0 d1 d2 d3 d4 26
  rw [World.size_alloc] at this
  exact this

set_option maxRecDepth 100000 in
set_option maxHeartbeats 3200000 in
theorem ttTree_step (n : Nat) (IH : TtSaid n) : TtSaid (n + 1) := by
  intro t hn P Q c d w hP hQ hrep hrep2
  obtain ⟨c0, c1, c2, c3, c4⟩ := c
  obtain ⟨d0, d1, d2, d3, d4⟩ := d
  obtain ⟨e0, e1, e2, -, -, -, hns, a4, cap4, e4, hlen, hks⟩ := hrep.open
  obtain ⟨g0, g1, g2, -, -, -, hns2, b4, dap4, g4, -, hks2⟩ := hrep2.open
  simp only at e0 e1 e2 e4 hns g0 g1 g2 g4 hns2
  obtain ⟨a3, cap3, e3, hnl, hnc⟩ := hns
  obtain ⟨b3, dap3, g3, -, hnc2⟩ := hns2
  subst e0 e1 e2 e3 e4 g0 g1 g2 g3 g4
  have htt := TT.start w (.int .i64 t.sort) (.int .i64 t.num) (.string t.text) (.slice a3 t.names.length cap3) (.slice a4 t.kids.length cap4) (.int .i64 t.sort) (.int .i64 t.num) (.string t.text) (.slice b3 t.names.length dap3) (.slice b4 t.kids.length dap4)
  have HN := hide hnc; have HN2 := hide hnc2; have HK := hide hks; have HK2 := hide hks2; have HP := hide hP; have HQ := hide hQ; have HI := hide IH
  have hkid : ∀ i, (hi : i < t.kids.length) → tsz t.kids[i] < n := fun i hi => by have := tsz_kid (List.getElem_mem hi); omega
  have HKS := hide hkid
  clear hnc hnc2 hks hks2 hP hQ IH hrep hrep2 hkid hn
  generalize t.names = ns at *
  generalize t.kids = ks at *
  generalize t.sort = s0 at *
  generalize t.num = s1 at *
  generalize t.text = s2 at *
  have q0 := htt.a.cell (i := 0) (by omega); have q1 := htt.a.cell (i := 1) (by omega); have q2 := htt.a.cell (i := 2) (by omega); have q3 := htt.a.cell (i := 3) (by omega); have q4 := htt.a.cell (i := 4) (by omega)
  have r0 := htt.b.cell (i := 0) (by omega); have r1 := htt.b.cell (i := 1) (by omega); have r2 := htt.b.cell (i := 2) (by omega); have r3 := htt.b.cell (i := 3) (by omega); have r4 := htt.b.cell (i := 4) (by omega)
  simp only [row5] at q0 q1 q2 q3 q4 r0 r1 r2 r3 r4
  have HT := hide htt
  clear htt
  go_enter Tryz.func13, Tryz.ntmps13
  go_wp2_with fail
  clear q0 q1 q2 q3 q4 r0 r1 r2 r3 r4
  go_loopw [5] (fun i wr => ∃ (k : Nat), k ≤ ns.length ∧ i = .int .i64 k ∧ Hid (TT w ⟨.int .i64 s0, .int .i64 s1, .string s2, .slice a3 ns.length cap3, .slice a4 ks.length cap4⟩ ⟨.int .i64 s0, .int .i64 s1, .string s2, .slice b3 ns.length dap3, .slice b4 ks.length dap4⟩ wr)) (fun i _ => ns.length - (intOf i).toNat)
  case atStart => exact ⟨0, Nat.zero_le _, rfl, HT⟩
  case round =>
    clear HT
    obtain ⟨k, hk, rfl, HT⟩ := hrel
    have q3 := HT.out.a.cell (i := 3) (by omega); have r3 := HT.out.b.cell (i := 3) (by omega)
    simp only [row5] at q3 r3
    by_cases hlt : k < ns.length
    · obtain ⟨x, o, rfl, hpb, hcell, -⟩ := unhide HN k hlt
      obtain ⟨x2, o2, rfl, hpb2, hcell2, -⟩ := unhide HN2 k hlt
      have e1 : wr.cell? ⟨x, o + k, none⟩ = some (.string ns[k]) := by rw [HT.out.below.cell (unhide HP x hpb)]; exact hcell
      have e2 : wr.cell? ⟨x2, o2 + k, none⟩ = some (.string ns[k]) := by rw [HT.out.below.cell (unhide HQ x2 hpb2)]; exact hcell2
      have HT2 := hide (HT.out.on (Below.refl _ wr).drew)
      have HTN := hide (fun m => HT.out.on (show Below wr.heap.size wr (wr.drewN m) from ⟨rfl, rfl, rfl, Nat.le_refl _, fun _ _ => rfl⟩))
      have hix : (k : Int) < (ns.length : Int) := by omega
      clear hcell hcell2 hpb hpb2 HT
      go_wp2_with fail
      go_quiet (fail)
      go_wp2_with fail
      go_roundw
      case rel => exact ⟨k + 1, by omega, by go_num, unhide HTN _⟩
      case measure => simp [intOf]; omega
    · go_wp2_with fail
      go_loopw [6] (fun i wr => ∃ (k : Nat), k ≤ ks.length ∧ i = .int .i64 k ∧ Hid (TT w ⟨.int .i64 s0, .int .i64 s1, .string s2, .slice a3 ns.length cap3, .slice a4 ks.length cap4⟩ ⟨.int .i64 s0, .int .i64 s1, .string s2, .slice b3 ns.length dap3, .slice b4 ks.length dap4⟩ wr)) (fun i _ => ks.length - (intOf i).toNat)
      case atStart => exact ⟨0, Nat.zero_le _, rfl, HT⟩
      case round =>
        clear HT q3 r3
        obtain ⟨k, hk, rfl, HT⟩ := hrel
        have q4 := HT.out.a.cell (i := 4) (by omega); have r4 := HT.out.b.cell (i := 4) (by omega)
        simp only [row5] at q4 r4
        by_cases hlt : k < ks.length
        · obtain ⟨x, o, c, rfl, hpb, hcell, hrep⟩ := unhide HK k hlt
          obtain ⟨x2, o2, d, rfl, hpb2, hcell2, hrep2⟩ := unhide HK2 k hlt
          have hcell' := hcell.carry (HT.out.below.block x (unhide HP x hpb))
          have hcell2' := hcell2.carry (HT.out.below.block x2 (unhide HQ x2 hpb2))
          obtain ⟨c0, c1, c2, c3, c4⟩ := c
          obtain ⟨d0, d1, d2, d3, d4⟩ := d
          obtain ⟨e0, e1, e2, e3, e4⟩ := hcell'
          obtain ⟨g0, g1, g2, g3, g4⟩ := hcell2'
          simp only at e0 e1 e2 e3 e4 g0 g1 g2 g3 g4
          have hbd := HT.out.below.drew
          have hcall := unhide HI ks[k] (unhide HKS k hlt) P Q ⟨c0, c1, c2, c3, c4⟩ ⟨d0, d1, d2, d3, d4⟩ wr.drew (fun b hb' => Nat.lt_of_lt_of_le (unhide HP b hb') hbd.size) (fun b hb' => Nat.lt_of_lt_of_le (unhide HQ b hb') hbd.size) (Rep.carry (w' := wr.drew) (fun b hb' => hbd.block b (unhide HP b hb')) (fun _ h => h) _ _ hrep) (Rep.carry (w' := wr.drew) (fun b hb' => hbd.block b (unhide HQ b hb')) (fun _ h => h) _ _ hrep2)
          have HCALL := hide hcall
          have hix : (k : Int) < (ks.length : Int) := by omega
          clear hrep hcell hpb hrep2 hcell2 hpb2 hcall hbd
          go_wp2_with fail
          go_region_with (go_at_call 13; refine (unhide HCALL).mono ?_; rintro e w' ⟨rfl, hb'⟩)
          all_goals
            have HT2 := hide (HT.out.on ((Below.refl _ wr).drew.trans hb'))
            go_wp2_with fail
            go_roundw
            case rel => exact ⟨k + 1, by omega, by go_num, HT2⟩
            case measure => simp [intOf]; omega
        · go_wp2_with fail
          go_ret
          exact ⟨rfl, HT.out.below⟩

theorem ttTree_all : ∀ n, TtSaid n
  | 0 => fun t h => by omega
  | n + 1 => ttTree_step n (ttTree_all n)
theorem ttTree_any (t : Tr) (P Q : Nat → Prop) (c d : C5) (w : World) (hP : ∀ b, P b → b < w.heap.size) (hQ : ∀ b, Q b → b < w.heap.size) (h1 : Rep P w t c) (h2 : Rep Q w t d) :
    Calls Tryz.prog 13 #[.agg #[c.c0, c.c1, c.c2, c.c3, c.c4], .agg #[d.c0, d.c1, d.c2, d.c3, d.c4]] w fun e w' => e = .returned (.bool true) ∧ Below w.heap.size w w' :=
  ttTree_all (tsz t + 1) t (by omega) P Q c d w hP hQ h1 h2
end Go.Proofs.YtgamonfmgngilaaGreatDoor

/- The walk of the program's TreeParts. Conditions: the table treeFields is as the program lays it. -/

namespace Go.Proofs.YtgamonfmgngilaaGreatDoor
open Go Go.RowKit

set_option maxHeartbeats 800000 in
theorem implTreeParts_any (t : Tr) (P : Nat → Prop) (c : C5) (w : World) (hP : ∀ b, P b → b < w.heap.size) (hrep : Rep P w t c) (hT : Tab w) :
    Calls Tryz.prog 11 #[.agg #[c.c0, c.c1, c.c2, c.c3, c.c4]] w fun e w' => e = .returned (.int .i64 (if pT t 1 < 0 then 0 else pT t 1)) ∧ Below w.heap.size w w' := by
  have hbx : ∀ o, Below w.heap.size w (w.alloc o) := fun o => (Below.refl _ _).alloc (Nat.le_refl _) o
  have hcall : ∀ o, Calls Tryz.prog 25 #[.agg #[c.c0, c.c1, c.c2, c.c3, c.c4]] (w.alloc o) fun e w' => ∃ v, e = .returned (.tuple #[v, .int .i64 (if pT t 1 < 0 then 0 else pT t 1)]) ∧ Below w.heap.size w w' := fun o =>
    (sortTree_parts P (w.alloc o) t c (Rep.carry (fun b hb => (hbx o).block b (hP b hb)) (fun _ h => h) _ _ hrep) (fun b hb => Nat.lt_of_lt_of_le (hP b hb) (hbx o).size) (hT.of_block ((hbx o).block 0 hT.lt))).mono
      fun e w' ⟨v, h1, h2⟩ => ⟨v, h1, (hbx o).trans (h2.mono (hbx o).size)⟩
  generalize (if pT t 1 < 0 then 0 else pT t 1) = r at *
  have HCALL := hide hcall
  clear hbx hcall hP hrep hT
  go_enter Tryz.func11, Tryz.ntmps11
  go_wp2_with (go_at_call 25; refine (unhide HCALL _).mono ?_; rintro e w2 ⟨v, rfl, hb2⟩)
  go_ret
  exact ⟨rfl, hb2⟩
end Go.Proofs.YtgamonfmgngilaaGreatDoor
