/- The walk of the laws FnTreeTop and FnTreeStrict: whatever bytes come in, they answer true, and turn nothing that was there. The tables of strconv and treeFields are as the program's text lays them. -/
import Derived.Test.YtgamonfmgngilaaGreatDoorPart25
import Derived.Test.YtgamonfmgngilaaGreatDoorPart34
import Derived.Test.YtgamonfmgngilaaGreatDoorRows
import Derived.Test.YtgamonfmgngilaaGreatDoorPart13
import Derived.ProofKit
import Derived.OpenShut
import Derived.Test.YtgamonfmgngilaaGreatDoorPart18
import Derived.MakeChecks
import Derived.Lib.LaidTab
import Derived.LaidLaws
import Derived.Test.YtgamonfmgngilaaGreatDoorPart21
import Derived.Deep.Fields
namespace Go.Proofs.YtgamonfmgngilaaGreatDoor
open Go Go.RowKit

/-- A tree in its box. -/
structure TB (w wr : World) (t : Tr) (c : C5) (B : Nat) : Prop where
  below : Below w.heap.size w wr
  box : wr.rowIs B 26 5 (row5 c.c0 c.c1 c.c2 c.c3 c.c4)
  rep : Rep (fun x => x < B) wr t c
theorem TB.on {w wr w' : World} {t : Tr} {c : C5} {B : Nat} (h : TB w wr t c B) (hb : Below wr.heap.size wr w') : TB w w' t c B :=
  ⟨h.below.trans (hb.mono h.below.size), h.box.of_block (hb.block _ h.box.lt), Rep.carry (fun x hx => hb.block x (Nat.lt_trans hx h.box.lt)) (fun _ h => h) _ _ h.rep⟩
theorem TB.start {w wr : World} {t : Tr} {c0 c1 c2 c3 c4 : Value} (hb : Below w.heap.size w wr) (h : Rep (fun x => x < wr.heap.size) wr t ⟨c0, c1, c2, c3, c4⟩) : TB w (wr.alloc (.cells #[c0, c1, c2, c3, c4] 26)) t ⟨c0, c1, c2, c3, c4⟩ wr.heap.size :=
  ⟨hb.alloc hb.size _, row5_alloc wr c0 c1 c2 c3 c4 _, Rep.carry (fun _ hx => Below.heap_alloc _ _ _ hx) (fun _ h => h) _ _ h⟩
theorem TB.cells {w wr : World} {t : Tr} {c : C5} {B : Nat} (h : TB w wr t c B) : wr.cell? ⟨B, 0, none⟩ = some c.c0 ∧ wr.cell? ⟨B, 1, none⟩ = some c.c1 ∧ wr.cell? ⟨B, 2, none⟩ = some c.c2 ∧ wr.cell? ⟨B, 3, none⟩ = some c.c3 ∧ wr.cell? ⟨B, 4, none⟩ = some c.c4 :=
  ⟨h.box.cell (i := 0) (by omega), h.box.cell (i := 1) (by omega), h.box.cell (i := 2) (by omega), h.box.cell (i := 3) (by omega), h.box.cell (i := 4) (by omega)⟩

theorem rd_twS {t : Tr} (h : 0 < pT t 1) : rdO (twS t) = some t := by
  have hw : wlk t 0 0 = some (pT t 1) := by rw [wlk_start, if_neg (by omega)]
  have hsz := twS_size t
  have hr := rdT_complete 6 t 0 (pT t 1) [] (by simpa using hw) nd_nil
  rw [List.append_nil] at hr
  unfold rdO
  rw [if_pos (by omega)]
  have e : (twS t).data.toList = txT t := by unfold twS; rw [if_pos h]
  rw [e]
  unfold progRd
  rw [hr]
theorem rd_some {s : ByteArray} {t : Tr} (h : rdO s = some t) : 0 < pT t 1 ∧ twS t = s := by
  unfold rdO at h
  split at h
  · unfold progRd at h
    split at h
    · rename_i t' q hr
      simp only [Option.some.injEq] at h
      subst h
      obtain ⟨h1, h2⟩ := rdT_sound 6 _ _ _ _ _ (Nat.le_refl _) hr
      rw [List.append_nil] at h1
      have hw : wlk t' 0 0 = some q := by simpa using h2
      have hp := (wlk_ok.1 hw).1
      refine ⟨hp, ?_⟩
      unfold twS
      rw [if_pos hp, ← h1]
    · cases h
  · cases h

set_option maxRecDepth 100000 in
set_option maxHeartbeats 3200000 in
theorem lawTreeTop_any (w : World) (a : Option Addr) (cap : Nat) (l : List UInt8) (hv : BytesAt w (.slice a l.length cap) l) (hcap : l.length ≤ cap) (hE : Env w) (hT : Tab w) :
    Calls Tryz.prog 3 #[.slice a l.length cap] w fun e w' => e = .returned (.bool true) ∧ Below w.heap.size w w' := by
  have hlen : l.length ≤ 9223372036854775807 := by obtain ⟨_, _, _, h, _⟩ := hv; exact h
  by_cases hs : l.length ≤ 1048576
  · have hd : decide ((1048576 : Int) < (l.length : Int)) = false := by simp; omega
    have HDW := hide (drawTreeWrite_any w a cap l hv hcap)
    have HT := hide (fun W (hW : Below w.heap.size w W) => hT.of_block (hW.block _ hT.lt))
    have HE := hide (fun W (hW : Below w.heap.size w W) => hE.below hW)
    clear hv hT hE
    go_enter Tryz.func3, Tryz.ntmps3
    go_wp2_with fail
    refine (unhide HDW).mono ?_
    rintro e w1 ⟨t, ⟨c0, c1, c2, c3, c4⟩, rfl, hr1, hb1⟩
    obtain ⟨g0, g1, g2, -, -, -, ⟨a3, cap3, g3, -⟩, a4, cap4, g4, -⟩ := hr1.open
    simp only at g0 g1 g2 g3 g4
    subst g0 g1 g2 g3 g4
    have htb := TB.start hb1 (Rep.carry (fun _ _ => rfl) (fun x hx => hx.2) _ _ hr1)
    obtain ⟨W1, hW1⟩ : ∃ W1, w1.alloc (.cells #[.int .i64 t.sort, .int .i64 t.num, .string t.text, .slice a3 t.names.length cap3, .slice a4 t.kids.length cap4] 26) = W1 := ⟨_, rfl⟩
    rw [hW1] at htb
    have hwr := fun W (hW : TB w W t ⟨.int .i64 t.sort, .int .i64 t.num, .string t.text, .slice a3 t.names.length cap3, .slice a4 t.kids.length cap4⟩ w1.heap.size) => specTreeWrite_any t (fun x => x < w1.heap.size) _ W (fun x hx => Nat.lt_trans hx hW.box.lt) hW.rep
    have hok := fun W (hW : TB w W t ⟨.int .i64 t.sort, .int .i64 t.num, .string t.text, .slice a3 t.names.length cap3, .slice a4 t.kids.length cap4⟩ w1.heap.size) => specTreeOk_any t (fun x => x < w1.heap.size) _ W (fun x hx => Nat.lt_trans hx hW.box.lt) hW.rep
    have iwr := fun W (hW : TB w W t ⟨.int .i64 t.sort, .int .i64 t.num, .string t.text, .slice a3 t.names.length cap3, .slice a4 t.kids.length cap4⟩ w1.heap.size) => implTreeWrite_any t (fun x => x < w1.heap.size) _ W (fun x hx => Nat.lt_trans hx hW.box.lt) hW.rep (unhide HT W hW.below) (unhide HE W hW.below)
    have iok := fun W (hW : TB w W t ⟨.int .i64 t.sort, .int .i64 t.num, .string t.text, .slice a3 t.names.length cap3, .slice a4 t.kids.length cap4⟩ w1.heap.size) => implTreeOk_any t (fun x => x < w1.heap.size) _ W (fun x hx => Nat.lt_trans hx hW.box.lt) hW.rep (unhide HT W hW.below)
    have ipt := fun W (hW : TB w W t ⟨.int .i64 t.sort, .int .i64 t.num, .string t.text, .slice a3 t.names.length cap3, .slice a4 t.kids.length cap4⟩ w1.heap.size) => implTreeParts_any t (fun x => x < w1.heap.size) _ W (fun x hx => Nat.lt_trans hx hW.box.lt) hW.rep (unhide HT W hW.below)
    have hsz := twS_size t
    have hS0 : ¬ 0 < pT t 1 → twS t = ⟨#[]⟩ := fun h => by unfold twS; rw [if_neg h]
    have hS1 : 0 < pT t 1 → rdO (twS t) = some t := rd_twS
    have hpb := pT_bd t 1
    obtain ⟨k0, k1, k2, k3, k4⟩ := htb.cells
    simp only at k0 k1 k2 k3 k4
    have HTB := hide htb; have HW1 := hide hW1
    clear HDW hr1 hb1 htb hW1
    by_cases hpos : 0 < pT t 1
    · have hS := hS1 hpos
      simp only [decide_eq_true hpos] at hok iok
      simp only [if_neg (show ¬ pT t 1 < 0 by omega)] at ipt
      have hq1 : 1 ≤ pT t 1 ∧ pT t 1 ≤ 120 := by omega
      have hne : (twS t).size ≠ 0 := fun h0 => by
        have hl : twS t = ⟨#[]⟩ := by apply ByteArray.ext; apply Array.eq_empty_of_size_eq_zero; exact h0
        have hh := hl
        unfold twS at hh
        rw [if_pos hpos] at hh
        have hx : txT t = [] := by have := congrArg (fun b => b.data.toList) hh; simpa using this
        obtain ⟨c, r, e, -⟩ := txT_head (t := t) (p := 0) (l := 0) (q := pT t 1) (by rw [wlk_start, if_neg (by omega)])
        rw [hx] at e; cases e
      have HS := hide hS
      have hrd := fun W (hW : Below w.heap.size w W) => implTreeRead_any W (twS t) (by omega) (unhide HE W hW)
      rw [hS] at hrd
      have HRD := hide hrd
      have HWR := hide hwr; have HOK := hide hok; have IWR := hide iwr; have IOK := hide iok; have IPT := hide ipt
      obtain ⟨hq2, hq3⟩ := hq1
      clear hS0 hS1 hpb hwr hok iwr iok ipt hS hpos hrd hne HS
      generalize twS t = S at *
      generalize pT t 1 = q at *
      have z1 : decide ((1 : Int) ≤ q) = true := by simp; omega
      have z2 : decide (q ≤ (120 : Int)) = true := by simp; omega
      have z3 : decide ((S.size : Int) ≤ 10000) = true := by simp; omega
      have z4 : decide (S.size ≤ 10000) = true := by simp; omega
      go_wp2_with fail
      rw [unhide HW1]
      refine (unhide HWR W1 (unhide HTB)).mono ?_
      rintro e w2 ⟨rfl, hb2⟩
      have TB2 := hide ((unhide HTB).on hb2)
      obtain ⟨k0, k1, k2, k3, k4⟩ := (unhide TB2).cells
      simp only at k0 k1 k2 k3 k4
      clear hb2 HTB HW1 HWR
      go_wp2_with fail
      refine (unhide HOK w2 (unhide TB2)).mono ?_
      rintro e w3 ⟨rfl, hb3⟩
      have TB3 := hide ((unhide TB2).on hb3)
      obtain ⟨k0, k1, k2, k3, k4⟩ := (unhide TB3).cells
      simp only at k0 k1 k2 k3 k4
      clear hb3 TB2
      go_wp2_with fail
      refine (unhide IWR w3 (unhide TB3)).mono ?_
      rintro e w4 ⟨rfl, hb4⟩
      have TB4 := hide ((unhide TB3).on hb4)
      obtain ⟨k0, k1, k2, k3, k4⟩ := (unhide TB4).cells
      simp only at k0 k1 k2 k3 k4
      clear hb4 TB3
      go_wp2_with fail
      refine (unhide IOK w4 (unhide TB4)).mono ?_
      rintro e w5 ⟨rfl, hb5⟩
      have TB5 := hide ((unhide TB4).on hb5)
      obtain ⟨k0, k1, k2, k3, k4⟩ := (unhide TB5).cells
      simp only at k0 k1 k2 k3 k4
      clear hb5 TB4
      go_wp2_with fail
      refine (unhide IPT w5 (unhide TB5)).mono ?_
      rintro e w6 ⟨rfl, hb6⟩
      have TB6 := hide ((unhide TB5).on hb6)
      obtain ⟨k0, k1, k2, k3, k4⟩ := (unhide TB6).cells
      simp only at k0 k1 k2 k3 k4
      clear hb6 TB5
      go_wp2_with fail
      refine (unhide HRD w6 (unhide TB6).below).mono ?_
      intro e w7 h7
      obtain ⟨a1, p1, a2, p2, F, rfl, ho7, -, hF7, hb7⟩ := h7.open
      have TB7 := hide ((unhide TB6).on hb7)
      have hba := (Below.refl w7.heap.size w7).alloc (Nat.le_refl _) (.cells #[.int .i64 t.sort, .int .i64 t.num, .string t.text, .slice a1 t.names.length p1, .slice a2 t.kids.length p2] 26)
      have TB8 := hide ((unhide TB7).on hba)
      have ho8 := Rep.carry (Q := fun x => x < w7.heap.size) (fun x hx => hba.block x (hF7 x hx).2) (fun x hx => (hF7 x hx).2) _ _ (Own.rep _ _ F (fun _ h => h) ho7)
      have HTT := hide (ttTree_any t _ _ ⟨.int .i64 t.sort, .int .i64 t.num, .string t.text, .slice a1 t.names.length p1, .slice a2 t.kids.length p2⟩ ⟨.int .i64 t.sort, .int .i64 t.num, .string t.text, .slice a3 t.names.length cap3, .slice a4 t.kids.length cap4⟩ _ (fun x hx => by rw [World.size_alloc]; omega) (fun x hx => Nat.lt_trans hx (unhide TB8).box.lt) ho8 (unhide TB8).rep)
      obtain ⟨k0, k1, k2, k3, k4⟩ := (unhide TB7).cells
      simp only at k0 k1 k2 k3 k4
      have hBl := (unhide TB7).box.lt
      clear ho7 hF7 hb7 hba ho8 h7 TB6 TB7 HRD
      go_wp2_with fail
      refine (unhide HTT).mono ?_
      rintro e w9 ⟨rfl, hb9⟩
      have HB9 := hide ((unhide TB8).on hb9).below
      clear hb9 HTT TB8
      go_wp2_with fail
      go_ret
      exact ⟨rfl, unhide HB9⟩
    · have hS := hS0 hpos
      simp only [decide_eq_false hpos] at hok iok
      have hq0 : (if pT t 1 < 0 then 0 else pT t 1) = 0 := by
        rcases hpb with h | h
        · rw [if_pos (by omega)]
        · omega
      simp only [hq0] at ipt
      rw [hS] at hwr iwr
      have HWR := hide hwr; have HOK := hide hok; have IWR := hide iwr; have IOK := hide iok; have IPT := hide ipt
      clear hS0 hS1 hpb hwr hok iwr iok ipt hS hpos hq0 hsz
      go_wp2_with fail
      rw [unhide HW1]
      refine (unhide HWR W1 (unhide HTB)).mono ?_
      rintro e w2 ⟨rfl, hb2⟩
      have TB2 := hide ((unhide HTB).on hb2)
      obtain ⟨k0, k1, k2, k3, k4⟩ := (unhide TB2).cells
      simp only at k0 k1 k2 k3 k4
      clear hb2 HTB HW1 HWR
      go_wp2_with fail
      refine (unhide HOK w2 (unhide TB2)).mono ?_
      rintro e w3 ⟨rfl, hb3⟩
      have TB3 := hide ((unhide TB2).on hb3)
      obtain ⟨k0, k1, k2, k3, k4⟩ := (unhide TB3).cells
      simp only at k0 k1 k2 k3 k4
      clear hb3 TB2
      go_wp2_with fail
      refine (unhide IWR w3 (unhide TB3)).mono ?_
      rintro e w4 ⟨rfl, hb4⟩
      have TB4 := hide ((unhide TB3).on hb4)
      obtain ⟨k0, k1, k2, k3, k4⟩ := (unhide TB4).cells
      simp only at k0 k1 k2 k3 k4
      clear hb4 TB3
      go_wp2_with fail
      refine (unhide IOK w4 (unhide TB4)).mono ?_
      rintro e w5 ⟨rfl, hb5⟩
      have TB5 := hide ((unhide TB4).on hb5)
      obtain ⟨k0, k1, k2, k3, k4⟩ := (unhide TB5).cells
      simp only at k0 k1 k2 k3 k4
      clear hb5 TB4
      go_wp2_with fail
      refine (unhide IPT w5 (unhide TB5)).mono ?_
      rintro e w6 ⟨rfl, hb6⟩
      have TB6 := hide ((unhide TB5).on hb6)
      obtain ⟨k0, k1, k2, k3, k4⟩ := (unhide TB6).cells
      simp only at k0 k1 k2 k3 k4
      clear hb6 TB5
      go_wp2_with fail
      go_ret
      exact ⟨rfl, (unhide TB6).below⟩
  · have hd : decide ((1048576 : Int) < (l.length : Int)) = true := by simp; omega
    go_enter Tryz.func3, Tryz.ntmps3
    go_wp2_with fail
    go_ret
    exact ⟨rfl, Below.refl _ _⟩
end Go.Proofs.YtgamonfmgngilaaGreatDoor

/- The walk of the law FnTreeStrict: whatever bytes come in, it answers true, and turns nothing that was there. The tables of strconv and treeFields are as the program's text lays them. -/

namespace Go.Proofs.YtgamonfmgngilaaGreatDoor
open Go Go.RowKit

/-- Two trees in their boxes. -/
structure TB2 (w wr : World) (t : Tr) (c d : C5) (B C : Nat) : Prop where
  below : Below w.heap.size w wr
  boxB : wr.rowIs B 26 5 (row5 c.c0 c.c1 c.c2 c.c3 c.c4)
  boxC : wr.rowIs C 26 5 (row5 d.c0 d.c1 d.c2 d.c3 d.c4)
  repB : Rep (fun x => x < B) wr t c
  repC : Rep (fun x => x < C) wr t d
theorem TB2.on {w wr w' : World} {t : Tr} {c d : C5} {B C : Nat} (h : TB2 w wr t c d B C) (hb : Below wr.heap.size wr w') : TB2 w w' t c d B C :=
  ⟨h.below.trans (hb.mono h.below.size), h.boxB.of_block (hb.block _ h.boxB.lt), h.boxC.of_block (hb.block _ h.boxC.lt), Rep.carry (fun x hx => hb.block x (Nat.lt_trans hx h.boxB.lt)) (fun _ h => h) _ _ h.repB, Rep.carry (fun x hx => hb.block x (Nat.lt_trans hx h.boxC.lt)) (fun _ h => h) _ _ h.repC⟩
theorem TB2.cells {w wr : World} {t : Tr} {c d : C5} {B C : Nat} (h : TB2 w wr t c d B C) : (wr.cell? ⟨B, 0, none⟩ = some c.c0 ∧ wr.cell? ⟨B, 1, none⟩ = some c.c1 ∧ wr.cell? ⟨B, 2, none⟩ = some c.c2 ∧ wr.cell? ⟨B, 3, none⟩ = some c.c3 ∧ wr.cell? ⟨B, 4, none⟩ = some c.c4) ∧ wr.cell? ⟨C, 0, none⟩ = some d.c0 ∧ wr.cell? ⟨C, 1, none⟩ = some d.c1 ∧ wr.cell? ⟨C, 2, none⟩ = some d.c2 ∧ wr.cell? ⟨C, 3, none⟩ = some d.c3 ∧ wr.cell? ⟨C, 4, none⟩ = some d.c4 :=
  ⟨⟨h.boxB.cell (i := 0) (by omega), h.boxB.cell (i := 1) (by omega), h.boxB.cell (i := 2) (by omega), h.boxB.cell (i := 3) (by omega), h.boxB.cell (i := 4) (by omega)⟩, h.boxC.cell (i := 0) (by omega), h.boxC.cell (i := 1) (by omega), h.boxC.cell (i := 2) (by omega), h.boxC.cell (i := 3) (by omega), h.boxC.cell (i := 4) (by omega)⟩

set_option maxRecDepth 100000 in
set_option maxHeartbeats 3200000 in
theorem lawTreeStrict_any (w : World) (a : Option Addr) (cap : Nat) (l : List UInt8) (hv : BytesAt w (.slice a l.length cap) l) (hcap : l.length ≤ cap) (hE : Env w) (hT : Tab w) :
    Calls Tryz.prog 4 #[.slice a l.length cap] w fun e w' => e = .returned (.bool true) ∧ Below w.heap.size w w' := by
  have hlen : l.length ≤ 9223372036854775807 := by obtain ⟨_, _, _, h, _⟩ := hv; exact h
  by_cases hs : l.length ≤ 1048576
  · have hd : decide ((1048576 : Int) < (l.length : Int)) = false := by simp; omega
    have HDW := hide (drawTreeRead_any w a cap l hv hcap)
    have HT := hide (fun W (hW : Below w.heap.size w W) => hT.of_block (hW.block _ hT.lt))
    have HE := hide (fun W (hW : Below w.heap.size w W) => hE.below hW)
    clear hv hT hE
    go_enter Tryz.func4, Tryz.ntmps4
    go_wp2_with fail
    refine (unhide HDW).mono ?_
    rintro e w1 ⟨s, rfl, hss, hb1⟩
    have hsp := specTreeRead_any w1 s (by omega)
    rw [spO_eq] at hsp
    have him := fun W (hW : Below w.heap.size w W) => implTreeRead_any W s (by omega) (unhide HE W hW)
    have hfac : ∀ t, rdO s = some t → 0 < pT t 1 ∧ twS t = s := fun t h => rd_some h
    have HSP := hide hsp; have HIM := hide him; have HF := hide hfac; have HB1 := hide hb1
    clear hsp him hfac hb1 HDW
    generalize rdO s = o at *
    go_wp2_with fail
    refine (unhide HSP).mono ?_
    intro e w2 h2
    obtain ⟨a1, p1, a2, p2, rfl, hr2, hb2⟩ := h2.open
    have hbl2 : Below w.heap.size w w2 := (unhide HB1).trans (hb2.mono (unhide HB1).size)
    have HR2 := hide hr2; have HBL2 := hide hbl2
    clear h2 hr2 hb2 hbl2 HSP HB1
    have hba := (unhide HBL2).alloc (unhide HBL2).size (.cells #[.int .i64 (tAn o).sort, .int .i64 (tAn o).num, .string (tAn o).text, .slice a1 (tAn o).names.length p1, .slice a2 (tAn o).kids.length p2] 26)
    have HC := hide (unhide HIM _ hba)
    clear hba HIM
    go_wp2_with fail
    refine (unhide HC).mono ?_
    intro e w3 h3
    obtain ⟨a3, p3, a4, p4, F, rfl, ho3, -, hF3, hb3⟩ := h3.open
    have hs3 := hb3.size
    rw [World.size_alloc] at hs3
    have hbw : Below w2.heap.size w2 w3 := ((Below.refl _ w2).alloc (Nat.le_refl _) (.cells #[.int .i64 (tAn o).sort, .int .i64 (tAn o).num, .string (tAn o).text, .slice a1 (tAn o).names.length p1, .slice a2 (tAn o).kids.length p2] 26)).trans (hb3.mono (by simp))
    have htb : TB2 w (w3.alloc (.cells #[.int .i64 (tAn o).sort, .int .i64 (tAn o).num, .string (tAn o).text, .slice a3 (tAn o).names.length p3, .slice a4 (tAn o).kids.length p4] 26)) (tAn o) ⟨.int .i64 (tAn o).sort, .int .i64 (tAn o).num, .string (tAn o).text, .slice a1 (tAn o).names.length p1, .slice a2 (tAn o).kids.length p2⟩ ⟨.int .i64 (tAn o).sort, .int .i64 (tAn o).num, .string (tAn o).text, .slice a3 (tAn o).names.length p3, .slice a4 (tAn o).kids.length p4⟩ w2.heap.size w3.heap.size := by
      refine ⟨((unhide HBL2).trans (hbw.mono (unhide HBL2).size)).alloc (by have := (unhide HBL2).size; omega) _, ?_, row5_alloc w3 _ _ _ _ _ _, ?_, ?_⟩
      · exact ((row5_alloc w2 _ _ _ _ _ _).of_block (hb3.block _ (by simp))).alloc _
      · exact Rep.carry (fun x hx => (Below.heap_alloc _ _ _ (by have := hx.2; omega)).trans (hbw.block x hx.2)) (fun x hx => hx.2) _ _ (unhide HR2)
      · exact Rep.carry (fun x hx => Below.heap_alloc _ _ _ (hF3 x hx).2) (fun x hx => (hF3 x hx).2) _ _ (Own.rep _ _ F (fun _ h => h) ho3)
    have hbk : (w3.alloc (.cells #[.int .i64 (tAn o).sort, .int .i64 (tAn o).num, .string (tAn o).text, .slice a3 (tAn o).names.length p3, .slice a4 (tAn o).kids.length p4] 26)).heap[w2.heap.size]? = w3.heap[w2.heap.size]? := Below.heap_alloc w3 _ _ (by omega)
    have r2 := htb.boxB.of_block hbk.symm
    have k0 := r2.cell (i := 0) (by omega); have k1 := r2.cell (i := 1) (by omega); have k2 := r2.cell (i := 2) (by omega); have k3 := r2.cell (i := 3) (by omega); have k4 := r2.cell (i := 4) (by omega)
    simp only [row5] at k0 k1 k2 k3 k4
    have hlt2 : w2.heap.size < w3.heap.size := by omega
    have HTT := hide (ttTree_any (tAn o) _ _ _ _ _ (fun x hx => Nat.lt_trans hx htb.boxC.lt) (fun x hx => Nat.lt_trans hx htb.boxB.lt) htb.repC htb.repB)
    have HTB := hide htb
    clear h3 ho3 hF3 hb3 hbw htb hbk r2 HC HR2 HBL2
    go_wp2_with fail
    refine (unhide HTT).mono ?_
    rintro e w4 ⟨rfl, hb4⟩
    have TB4 := hide ((unhide HTB).on hb4)
    obtain ⟨-, m0, m1, m2, m3, m4⟩ := (unhide TB4).cells
    simp only at m0 m1 m2 m3 m4
    clear hb4 HTT HTB k0 k1 k2 k3 k4
    cases o with
    | none =>
      have hz : (tAn none).sort = 0 := rfl
      rw [hz] at m0
      go_wp2_with fail
      go_ret
      exact ⟨rfl, (unhide TB4).below⟩
    | some t =>
      obtain ⟨hpos, hw⟩ := unhide HF t rfl
      have hok := fun W (hW : TB2 w W (tAn (some t)) ⟨.int .i64 (tAn (some t)).sort, .int .i64 (tAn (some t)).num, .string (tAn (some t)).text, .slice a1 (tAn (some t)).names.length p1, .slice a2 (tAn (some t)).kids.length p2⟩ ⟨.int .i64 (tAn (some t)).sort, .int .i64 (tAn (some t)).num, .string (tAn (some t)).text, .slice a3 (tAn (some t)).names.length p3, .slice a4 (tAn (some t)).kids.length p4⟩ w2.heap.size w3.heap.size) => implTreeOk_any (tAn (some t)) (fun x => x < w3.heap.size) _ W (fun x hx => Nat.lt_trans hx hW.boxC.lt) hW.repC (unhide HT W hW.below)
      have iwr := fun W (hW : TB2 w W (tAn (some t)) ⟨.int .i64 (tAn (some t)).sort, .int .i64 (tAn (some t)).num, .string (tAn (some t)).text, .slice a1 (tAn (some t)).names.length p1, .slice a2 (tAn (some t)).kids.length p2⟩ ⟨.int .i64 (tAn (some t)).sort, .int .i64 (tAn (some t)).num, .string (tAn (some t)).text, .slice a3 (tAn (some t)).names.length p3, .slice a4 (tAn (some t)).kids.length p4⟩ w2.heap.size w3.heap.size) => implTreeWrite_any (tAn (some t)) (fun x => x < w3.heap.size) _ W (fun x hx => Nat.lt_trans hx hW.boxC.lt) hW.repC (unhide HT W hW.below) (unhide HE W hW.below)
      have hpos' : 0 < pT (tAn (some t)) 1 := hpos
      simp only [decide_eq_true hpos'] at hok
      simp only [show twS (tAn (some t)) = s from hw] at iwr
      have HOK := hide hok; have IWR := hide iwr
      clear hok iwr hpos hpos' hw HF
      go_wp2_with fail
      refine (unhide HOK w4 (unhide TB4)).mono ?_
      rintro e w5 ⟨rfl, hb5⟩
      have TB5 := hide ((unhide TB4).on hb5)
      obtain ⟨-, m0, m1, m2, m3, m4⟩ := (unhide TB5).cells
      simp only at m0 m1 m2 m3 m4
      clear hb5 TB4 HOK
      go_wp2_with fail
      refine (unhide IWR w5 (unhide TB5)).mono ?_
      rintro e w6 ⟨rfl, hb6⟩
      have TB6 := hide ((unhide TB5).on hb6)
      clear hb6 TB5 IWR m0 m1 m2 m3 m4
      go_wp2_with fail
      go_ret
      exact ⟨rfl, (unhide TB6).below⟩
  · have hd : decide ((1048576 : Int) < (l.length : Int)) = true := by simp; omega
    go_enter Tryz.func4, Tryz.ntmps4
    go_wp2_with fail
    go_ret
    exact ⟨rfl, Below.refl _ _⟩
end Go.Proofs.YtgamonfmgngilaaGreatDoor

/- What is read of a row of bytes that comes in is one that lies in memory. No conditions. -/

namespace Go.Proofs.YtgamonfmgngilaaGreatDoor
open Go Go.RowKit Go.ChangeShapes Go.WideShapes Go.ChangeAt

theorem cellsU8 : Tryz.prog.cellsOf 5 = 1 := by kernel_rfl

section
variable {H : Type} {enc : TypeId × Value → H} {W : World} {spare : Nat → Bool} {held : Bool}

theorem bytes_cap {fuel : Nat} {a : Option Addr} {len cap : Nat} {x : DataW H × List MemPlace} (h : DataW.trod enc Tryz.prog W 0 spare held fuel 22 [.slice a len cap] = some x) : len ≤ cap := by
  rcases open_ints Tryz.underlying22 Tryz.underlying5 cellsU8 h with ⟨hcs, -⟩ | ⟨a', len', cap', zs, hcs, -, hl, -⟩
  · simp only [List.cons.injEq, Value.slice.injEq, and_true] at hcs
    omega
  · simp only [List.cons.injEq, Value.slice.injEq, and_true] at hcs
    omega
theorem bytes_of_trod {fuel : Nat} {v : Value} {x : DataW H × List MemPlace} (h : DataW.trod enc Tryz.prog W 0 spare held fuel 22 [v] = some x) :
    ∃ l, BytesAt W v l := by
  rcases open_ints Tryz.underlying22 Tryz.underlying5 cellsU8 h with ⟨hcs, -⟩ | ⟨a, len, cap, zs, hcs, -, hl, hm, hz, -, hcell, hws⟩
  · simp only [List.cons.injEq, and_true] at hcs
    exact ⟨[], none, 0, hcs, by simp, fun i hi => by simp at hi⟩
  · simp only [List.cons.injEq, and_true] at hcs
    have hle : len ≤ zs.length := by rw [hz]; split <;> omega
    unfold maxLen at hm
    have hlen : ((zs.take len).map (fun z => UInt8.ofNat z.toNat)).length = len := by simp; omega
    refine ⟨(zs.take len).map (fun z => UInt8.ofNat z.toNat), some a, cap, by rw [hcs, hlen], by rw [hlen]; omega, fun i hi => ?_⟩
    have hi' : i < len := by rw [hlen] at hi; exact hi
    obtain ⟨b, off, spot⟩ := a
    have hspot : spot = none := by simpa [Addr.add] using World.cell?_spot (hcell 0 (by omega))
    subst hspot
    have hc := hcell i (by omega)
    rw [Addr.add_lit] at hc
    refine ⟨b, off, rfl, World.block_lt_of_cell? W _ hc, ?_⟩
    have hb := bounds_u8 (hws (zs[i]'(by omega)) (List.getElem_mem (by omega)))
    rw [hc]
    have e1 : zs.getD i 0 = zs[i]'(by omega) := by simp [show i < zs.length by omega]
    have e2 : (((zs.take len).map (fun z => UInt8.ofNat z.toNat))[i]'hi) = UInt8.ofNat (zs[i]'(by omega)).toNat := by simp
    rw [e1, e2, show (UInt8.ofNat (zs[i]'(by omega)).toNat).toNat = (zs[i]'(by omega)).toNat from by simp; omega, show (((zs[i]'(by omega)).toNat : Nat) : Int) = zs[i]'(by omega) from by omega]
end
end Go.Proofs.YtgamonfmgngilaaGreatDoor

/- What strconv reads, off what the row lists of it. No conditions. -/

namespace Go.Proofs.YtgamonfmgngilaaGreatDoor
open Go Go.RowKit

theorem gPowType : (Tryz.prog.globals[3]?).map (·.type) = some 170 := by kernel_rfl
theorem gSyn : Tryz.prog.globalNamed "strconv.ErrSyntax" = some 1 := by kernel_rfl
theorem gSynType : (Tryz.prog.globals[1]?).map (·.type) = some 132 := by kernel_rfl
theorem gRng : Tryz.prog.globalNamed "strconv.ErrRange" = some 2 := by kernel_rfl
theorem gRngType : (Tryz.prog.globals[2]?).map (·.type) = some 132 := by kernel_rfl
theorem cellsU64 : Tryz.prog.cellsOf 153 = 1 := by kernel_rfl
theorem cellsPow : Tryz.prog.cellsOf 170 = 20 := by kernel_rfl
theorem powData : (Rows.laid_internal_strconv_uint64pow10 : DataW Unit) = Lib.tabData .u64 Lib.pow10Tab := by rfl

set_option maxRecDepth 100000 in
theorem env_of_laid {W : World} (h : laidMetH Tryz.prog [("math/bits.deBruijn32tab", Rows.laid_math_bits_deBruijn32tab), ("math/bits.deBruijn64tab", Rows.laid_math_bits_deBruijn64tab), ("internal/strconv.uint64pow10", Rows.laid_internal_strconv_uint64pow10), ("strconv.ErrRange", Rows.laid_strconv_ErrRange), ("strconv.ErrSyntax", Rows.laid_strconv_ErrSyntax)] W) : Env W := by
  rw [MakeChecks.laidMetH_plain _ _ _ (by kernel_rfl)] at h
  obtain ⟨ps, ⟨g0, t0, cs0, f0, p0, q0, -, -, -, -, ⟨g1, t1, cs1, f1, p1, q1, -, -, -, -, ⟨g2, t2, cs2, f2, p2, q2, hg2, ht2, hv2, hd2, ⟨g3, t3, cs3, f3, p3, q3, hg3, ht3, hv3, hd3, ⟨g4, t4, cs4, f4, p4, q4, hg4, ht4, hv4, hd4, _, _⟩, _⟩, _⟩, _⟩, _⟩, _, _⟩ := h
  obtain rfl := Option.some.inj (gPow.symm.trans hg2)
  obtain rfl := Option.some.inj (gPowType.symm.trans ht2)
  obtain rfl := Option.some.inj (gRng.symm.trans hg3)
  obtain rfl := Option.some.inj (gRngType.symm.trans ht3)
  obtain rfl := Option.some.inj (gSyn.symm.trans hg4)
  obtain rfl := Option.some.inj (gSynType.symm.trans ht4)
  refine ⟨?_, ?_, ?_⟩
  · rw [powData] at hd2
    unfold Lib.TabIs
    rw [hv2, ← Lib.cells_of_tab Tryz.underlying170 Tryz.underlying153 cellsU64 cellsPow hd2]
  · obtain ⟨f', u, v, hc, -, -⟩ := iface_of_trod Tryz.underlying132 hd4
    refine ⟨.iface u v, ?_, Or.inr ⟨u, v, rfl⟩⟩
    have h0 := World.var?_cell hg4 hv4 0
    rw [h0]
    obtain ⟨l⟩ := cs4
    simp only at hc
    subst hc
    rfl
  · obtain ⟨f', u, v, hc, -, -⟩ := iface_of_trod Tryz.underlying132 hd3
    refine ⟨.iface u v, ?_, Or.inr ⟨u, v, rfl⟩⟩
    have h0 := World.var?_cell hg3 hv3 0
    rw [h0]
    obtain ⟨l⟩ := cs3
    simp only at hc
    subst hc
    rfl
end Go.Proofs.YtgamonfmgngilaaGreatDoor

/- The cells of the table treeFields, off what the row lists of it. No conditions. -/

namespace Go.Proofs.YtgamonfmgngilaaGreatDoor
open Go Go.RowKit Go.ChangeShapes Go.WideShapes Go.ChangeAt Go.Deep

theorem gTab : Tryz.prog.globalNamed "loop.example/teagle/impl.treeFields" = some 0 := by kernel_rfl
theorem gTabType : (Tryz.prog.globals[0]?).map (·.type) = some 140 := by kernel_rfl
theorem cellsHas : Tryz.prog.cellsOf 139 = 4 := by kernel_rfl
theorem cellsTab : Tryz.prog.cellsOf 140 = 28 := by kernel_rfl
theorem oneHas : ∃ fs : Array Field, Tryz.prog.underlying 139 = some (.struct fs) ∧ oneCellFields Tryz.prog fs = true ∧ fs.map (·.type) = #[4, 4, 4, 4] := ⟨_, Tryz.underlying139, by kernel_rfl, by kernel_rfl⟩

section
variable {H : Type} {enc : TypeId × Value → H} {W : World} {spare : Nat → Bool} {held : Bool}
set_option maxRecDepth 100000 in
theorem has_of_trod {fuel : Nat} {cs : List Value} {x : DataW H × List MemPlace} (h : DataW.trod enc Tryz.prog W 0 spare held fuel 139 cs = some x) :
    ∃ b0 b1 b2 b3 : Bool, cs = [.bool b0, .bool b1, .bool b2, .bool b3] ∧ x.1 = .agg [.lit (.bool b0), .lit (.bool b1), .lit (.bool b2), .lit (.bool b3)] := by
  obtain ⟨fs, hu, hone, hty⟩ := oneHas
  obtain ⟨xs, n, hn, hx, hlen, hxl, hf⟩ := DataW.trod_struct hu h
  rw [cellsHas] at hlen
  match cs, hlen with
  | [c0, c1, c2, c3], _ =>
    have hsz : fs.size = 4 := by have := congrArg Array.size hty; simpa using this
    have hfield : ∀ (i : Nat), (hi : i < 4) → DataW.trod enc Tryz.prog W 0 spare held n 4 (([c0, c1, c2, c3].drop i).take 1) = some (xs[i]'(by omega)) := by
      intro i hi
      have hfi : fs[i]? = some (fs[i]'(by omega)) := Array.getElem?_eq_getElem (by omega)
      obtain ⟨ho, hc⟩ := hone_of hone i _ hfi
      have := hf i _ hfi
      rw [ho, hc] at this
      have hTT : (fs[i]'(by omega)).type = 4 := by
        have e : (fs.map (·.type))[i]? = some ((fs[i]'(by omega)).type) := by simp [hsz, hi]
        rw [hty] at e
        rcases (show i = 0 ∨ i = 1 ∨ i = 2 ∨ i = 3 by omega) with rfl | rfl | rfl | rfl <;> simpa using e.symm
      rw [hTT] at this
      rw [this]; exact List.getElem?_eq_getElem (by omega)
    obtain ⟨b0, e0, f0⟩ := DataW.trod_bool Tryz.underlying4 (hfield 0 (by omega))
    obtain ⟨b1, e1, f1⟩ := DataW.trod_bool Tryz.underlying4 (hfield 1 (by omega))
    obtain ⟨b2, e2, f2⟩ := DataW.trod_bool Tryz.underlying4 (hfield 2 (by omega))
    obtain ⟨b3, e3, f3⟩ := DataW.trod_bool Tryz.underlying4 (hfield 3 (by omega))
    simp only [List.drop_succ_cons, List.drop_zero, List.take_succ_cons, List.take_zero, List.cons.injEq, and_true] at e0 e1 e2 e3
    refine ⟨b0, b1, b2, b3, by rw [e0, e1, e2, e3], ?_⟩
    obtain ⟨x0, x1, x2, x3, hxs⟩ : ∃ x0 x1 x2 x3, xs = [x0, x1, x2, x3] := by
      match xs, hxl.trans hsz with
      | [x0, x1, x2, x3], _ => exact ⟨x0, x1, x2, x3, rfl⟩
    subst hxs
    simp only [List.getElem_cons_zero, List.getElem_cons_succ] at f0 f1 f2 f3
    rw [hx, f0, f1, f2, f3]
    rfl
end

set_option maxRecDepth 100000 in
theorem tab_of_laid {W : World} (h : laidMetH Tryz.prog [("loop.example/teagle/impl.treeFields", Rows.laid_loop_example_teagle_impl_treeFields)] W) : Tab W := by
  rw [MakeChecks.laidMetH_plain _ _ _ (by kernel_rfl)] at h
  obtain ⟨ps, ⟨g0, t0, cs0, f0, p0, q0, hg0, ht0, hv0, hd0, _, _⟩, _, _⟩ := h
  obtain rfl := Option.some.inj (gTab.symm.trans hg0)
  obtain rfl := Option.some.inj (gTabType.symm.trans ht0)
  obtain ⟨xs, m, -, hx, hlen, hxl, hel⟩ := DataW.trod_array Tryz.underlying140 hd0
  rw [cellsHas] at hel
  rw [cellsTab] at hlen
  have hcell := World.var?_cell hg0 hv0
  have key : ∀ i, (hi : i < 7) → ∃ b0 b1 b2 b3 : Bool, (cs0.toList.drop (i * 4)).take 4 = [.bool b0, .bool b1, .bool b2, .bool b3] ∧ (xs[i]'(by omega)).1 = .agg [.lit (.bool b0), .lit (.bool b1), .lit (.bool b2), .lit (.bool b3)] := fun i hi => by
    have := hel i hi
    rw [List.getElem?_eq_getElem (by omega)] at this
    exact has_of_trod this
  obtain ⟨x0, x1, x2, x3, x4, x5, x6, hxs⟩ : ∃ x0 x1 x2 x3 x4 x5 x6, xs = [x0, x1, x2, x3, x4, x5, x6] := by
    match xs, hxl with
    | [x0, x1, x2, x3, x4, x5, x6], _ => exact ⟨x0, x1, x2, x3, x4, x5, x6, rfl⟩
  subst hxs
  simp only [Prod.mk.injEq, Rows.laid_loop_example_teagle_impl_treeFields, DataW.agg.injEq, List.map_cons, List.map_nil, List.cons.injEq, and_true] at hx
  obtain ⟨⟨g0, g1, g2, g3, g4, g5, g6⟩, -⟩ := hx
  obtain ⟨l⟩ := cs0
  simp only at hlen hcell key
  have cellk : ∀ i j, j < 4 → l[i * 4 + j]? = ((l.drop (i * 4)).take 4)[j]? := fun i j hj => by
    rw [List.getElem?_take_of_lt hj, List.getElem?_drop]
  obtain ⟨a0, a1, a2, a3, l0, d0⟩ := key 0 (by omega)
  simp only [List.getElem_cons_zero] at d0
  rw [d0] at g0
  simp only [DataW.agg.injEq, List.cons.injEq, DataW.lit.injEq, Lit.bool.injEq, and_true] at g0
  obtain ⟨rfl, rfl, rfl, rfl⟩ := g0
  obtain ⟨a0, a1, a2, a3, l1, d1⟩ := key 1 (by omega)
  simp only [List.getElem_cons_zero, List.getElem_cons_succ] at d1
  rw [d1] at g1
  simp only [DataW.agg.injEq, List.cons.injEq, DataW.lit.injEq, Lit.bool.injEq, and_true] at g1
  obtain ⟨rfl, rfl, rfl, rfl⟩ := g1
  obtain ⟨a0, a1, a2, a3, l2, d2⟩ := key 2 (by omega)
  simp only [List.getElem_cons_zero, List.getElem_cons_succ] at d2
  rw [d2] at g2
  simp only [DataW.agg.injEq, List.cons.injEq, DataW.lit.injEq, Lit.bool.injEq, and_true] at g2
  obtain ⟨rfl, rfl, rfl, rfl⟩ := g2
  obtain ⟨a0, a1, a2, a3, l3, d3⟩ := key 3 (by omega)
  simp only [List.getElem_cons_zero, List.getElem_cons_succ] at d3
  rw [d3] at g3
  simp only [DataW.agg.injEq, List.cons.injEq, DataW.lit.injEq, Lit.bool.injEq, and_true] at g3
  obtain ⟨rfl, rfl, rfl, rfl⟩ := g3
  obtain ⟨a0, a1, a2, a3, l4, d4⟩ := key 4 (by omega)
  simp only [List.getElem_cons_zero, List.getElem_cons_succ] at d4
  rw [d4] at g4
  simp only [DataW.agg.injEq, List.cons.injEq, DataW.lit.injEq, Lit.bool.injEq, and_true] at g4
  obtain ⟨rfl, rfl, rfl, rfl⟩ := g4
  obtain ⟨a0, a1, a2, a3, l5, d5⟩ := key 5 (by omega)
  simp only [List.getElem_cons_zero, List.getElem_cons_succ] at d5
  rw [d5] at g5
  simp only [DataW.agg.injEq, List.cons.injEq, DataW.lit.injEq, Lit.bool.injEq, and_true] at g5
  obtain ⟨rfl, rfl, rfl, rfl⟩ := g5
  obtain ⟨a0, a1, a2, a3, l6, d6⟩ := key 6 (by omega)
  simp only [List.getElem_cons_zero, List.getElem_cons_succ] at d6
  rw [d6] at g6
  simp only [DataW.agg.injEq, List.cons.injEq, DataW.lit.injEq, Lit.bool.injEq, and_true] at g6
  obtain ⟨rfl, rfl, rfl, rfl⟩ := g6
  have hc' : ∀ k, W.cell? ⟨0, k, none⟩ = l[k]? := fun k => (hcell k).trans (by simp)
  intro k hk
  rw [hc' k]
  have hcase : k = 0 ∨ k = 1 ∨ k = 2 ∨ k = 3 ∨ k = 4 ∨ k = 5 ∨ k = 6 ∨ k = 7 ∨ k = 8 ∨ k = 9 ∨ k = 10 ∨ k = 11 ∨ k = 12 ∨ k = 13 ∨ k = 14 ∨ k = 15 ∨ k = 16 ∨ k = 17 ∨ k = 18 ∨ k = 19 ∨ k = 20 ∨ k = 21 ∨ k = 22 ∨ k = 23 ∨ k = 24 ∨ k = 25 ∨ k = 26 ∨ k = 27 := by omega
  rcases hcase with rfl | rfl | rfl | rfl | rfl | rfl | rfl | rfl | rfl | rfl | rfl | rfl | rfl | rfl | rfl | rfl | rfl | rfl | rfl | rfl | rfl | rfl | rfl | rfl | rfl | rfl | rfl | rfl
  · exact (cellk 0 0 (by omega)).trans (congrArg (fun q => q[0]?) l0)
  · exact (cellk 0 1 (by omega)).trans (congrArg (fun q => q[1]?) l0)
  · exact (cellk 0 2 (by omega)).trans (congrArg (fun q => q[2]?) l0)
  · exact (cellk 0 3 (by omega)).trans (congrArg (fun q => q[3]?) l0)
  · exact (cellk 1 0 (by omega)).trans (congrArg (fun q => q[0]?) l1)
  · exact (cellk 1 1 (by omega)).trans (congrArg (fun q => q[1]?) l1)
  · exact (cellk 1 2 (by omega)).trans (congrArg (fun q => q[2]?) l1)
  · exact (cellk 1 3 (by omega)).trans (congrArg (fun q => q[3]?) l1)
  · exact (cellk 2 0 (by omega)).trans (congrArg (fun q => q[0]?) l2)
  · exact (cellk 2 1 (by omega)).trans (congrArg (fun q => q[1]?) l2)
  · exact (cellk 2 2 (by omega)).trans (congrArg (fun q => q[2]?) l2)
  · exact (cellk 2 3 (by omega)).trans (congrArg (fun q => q[3]?) l2)
  · exact (cellk 3 0 (by omega)).trans (congrArg (fun q => q[0]?) l3)
  · exact (cellk 3 1 (by omega)).trans (congrArg (fun q => q[1]?) l3)
  · exact (cellk 3 2 (by omega)).trans (congrArg (fun q => q[2]?) l3)
  · exact (cellk 3 3 (by omega)).trans (congrArg (fun q => q[3]?) l3)
  · exact (cellk 4 0 (by omega)).trans (congrArg (fun q => q[0]?) l4)
  · exact (cellk 4 1 (by omega)).trans (congrArg (fun q => q[1]?) l4)
  · exact (cellk 4 2 (by omega)).trans (congrArg (fun q => q[2]?) l4)
  · exact (cellk 4 3 (by omega)).trans (congrArg (fun q => q[3]?) l4)
  · exact (cellk 5 0 (by omega)).trans (congrArg (fun q => q[0]?) l5)
  · exact (cellk 5 1 (by omega)).trans (congrArg (fun q => q[1]?) l5)
  · exact (cellk 5 2 (by omega)).trans (congrArg (fun q => q[2]?) l5)
  · exact (cellk 5 3 (by omega)).trans (congrArg (fun q => q[3]?) l5)
  · exact (cellk 6 0 (by omega)).trans (congrArg (fun q => q[0]?) l6)
  · exact (cellk 6 1 (by omega)).trans (congrArg (fun q => q[1]?) l6)
  · exact (cellk 6 2 (by omega)).trans (congrArg (fun q => q[2]?) l6)
  · exact (cellk 6 3 (by omega)).trans (congrArg (fun q => q[3]?) l6)
end Go.Proofs.YtgamonfmgngilaaGreatDoor
