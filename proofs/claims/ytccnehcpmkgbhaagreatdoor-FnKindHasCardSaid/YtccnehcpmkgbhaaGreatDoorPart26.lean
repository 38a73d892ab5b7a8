/- A part. -/
import Derived.Test.YtccnehcpmkgbhaaGreatDoorPart25
import Derived.Test.YtccnehcpmkgbhaaGreatDoorPart22
import Derived.ProofKit
import Derived.OpenShut
import Derived.MakeChecks
import Derived.Deep.Fields
set_option maxRecDepth 100000
set_option maxHeartbeats 6400000
namespace Go.Proofs.YtccnehcpmkgbhaaGreatDoor
open Go Go.RowKit
theorem specKindHas_any (k : Kd) (t : Tr) (P Q : Nat → Prop) (c : C3) (d : C5) (w : World) (hP : ∀ b, P b → b < w.heap.size) (hQ : ∀ b, Q b → b < w.heap.size) (hrep : KRep P w k c) (hrep2 : Rep Q w t d) :
 Calls Tryz.prog 5 #[.agg #[c.c0, c.c1, c.c2], .agg #[d.c0, d.c1, d.c2, d.c3, d.c4]] w fun e w' => e = .returned (.bool (hasA k t)) ∧ Below w.heap.size w w' := by
 obtain ⟨c0, c1, c2⟩ := c
 obtain ⟨d0, d1, d2, d3, d4⟩ := d
 obtain ⟨W0, hW0⟩ : ∃ W0, ((w.alloc (.cells #[c0, c1, c2] 26)).alloc (.cells #[d0, d1, d2, d3, d4] 29)) = W0 := ⟨_, rfl⟩
 have hb0 : Below w.heap.size w W0 := by rw [← hW0]; exact ((Below.refl _ _).alloc (Nat.le_refl _) _).alloc (by simp) _
 have hs0 : W0.heap.size = w.heap.size + 2 := by rw [← hW0]; simp
 have hrk : W0.rowIs w.heap.size 26 3 (row3 c0 c1 c2) := by rw [← hW0]; exact (row3_alloc w c0 c1 c2 _).alloc _
 have hrt : W0.rowIs (w.heap.size + 1) 29 5 (row5 d0 d1 d2 d3 d4) := by
  rw [← hW0]
  have q := row5_alloc (w.alloc (.cells #[c0, c1, c2] 26)) d0 d1 d2 d3 d4 29
  rw [World.size_alloc] at q
  exact q
 have hok := specKindOk_any k P ⟨c0, c1, c2⟩ W0 (fun b hb => Nat.lt_of_lt_of_le (hP b hb) hb0.size) (KRep.carry (fun b hb => hb0.block b (hP b hb)) (fun _ h => h) _ _ hrep)
 have hot := fun W (hW : Below w.heap.size w W) => specTreeOk_any t Q ⟨d0, d1, d2, d3, d4⟩ W (fun b hb => Nat.lt_of_lt_of_le (hQ b hb) hW.size) (Rep.carry (fun b hb => hW.block b (hQ b hb)) (fun _ h => h) _ _ hrep2)
 have hht := fun W (hW : Below w.heap.size w W) (h1 : okD k = true) (h2 : okH t = true) => l2Has_all (tsz t + 1) t (by omega) k P Q ⟨c0, c1, c2⟩ ⟨d0, d1, d2, d3, d4⟩ W (fun b hb => Nat.lt_of_lt_of_le (hP b hb) hW.size) (fun b hb => Nat.lt_of_lt_of_le (hQ b hb) hW.size) (KRep.carry (fun b hb => hW.block b (hP b hb)) (fun _ h => h) _ _ hrep) (Rep.carry (fun b hb => hW.block b (hQ b hb)) (fun _ h => h) _ _ hrep2) h1 h2
 obtain ⟨e0, -, ⟨a3, cap3, e1, -, -⟩, a, cap, e2, -, -⟩ := hrep.open
 obtain ⟨g0, g1, g2, -, -, -, ⟨a5, cap5, g3, -, -⟩, a6, cap6, g4, -, -⟩ := hrep2.open
 simp only at e0 e1 e2 g0 g1 g2 g3 g4
 subst e0 e1 e2 g0 g1 g2 g3 g4
 have hA : hasA k t = (decide (0 < qT k 1) && decide (0 < pT t 1) && hT t k) := rfl
 have h1 : 0 < qT k 1 → okD k = true := fun h => (ok_of_qT h).1
 have h2 : 0 < pT t 1 → okH t = true := fun h => okH_of_pT t 1 (by omega)
 obtain ⟨k0, k1, k2⟩ := cs3 hrk (by omega)
 simp only [row3] at k0 k1 k2
 have HRK := hH hrk; have HRT := hH hrt; have HB0 := hH hb0; have HOK := hH hok; have HOT := hH hot; have HHT := hH hht
 clear hrk hrt hb0 hok hot hht hrep hrep2 hP hQ
 by_cases hq : 0 < qT k 1
 · have hd : decide (0 < qT k 1) = true := decide_eq_true hq
   by_cases hp : 0 < pT t 1
   · have hd2 : decide (0 < pT t 1) = true := decide_eq_true hp
     rw [hd, hd2, Bool.true_and, Bool.true_and] at hA
     have HOK2 := uh HOK; rw [hd] at HOK2
     have HOT2 := uh HOT; rw [hd2] at HOT2
     have H1 := hH (h1 hq); have H2 := hH (h2 hp)
     rw [hA]
     have HO := hH HOK2; have HT := hH HOT2
     clear HOK2 HOT2 h1 h2 hd hd2 hq hp hA HOK HOT
     generalize hT t k = r at *
     go_enter Tryz.func5, Tryz.ntmps5
     go_upto_region 1 with fail
     go_wp2_with (first
      | (go_at_call 18
         refine (uh HO).mono ?_
         rintro e w1 ⟨rfl, hb1⟩
         have HB1 := hH ((uh HB0).trans (hb1.mono (uh HB0).size))
         have q1 := (uh HRT).of_block (hb1.block _ (by omega))
         have q0 := (uh HRK).of_block (hb1.block _ (by omega))
         have hs1 := hb1.size
         have Q1 := hH q1
         have Q0 := hH q0
         obtain ⟨t0, t1, t2, t3, t4⟩ := cs5 q1 (by omega)
         simp only [row5] at t0 t1 t2 t3 t4
         clear hb1 q1 q0)
      | (go_at_call 19
         refine (uh HT _ (uh HB1)).mono ?_
         rintro e w2 ⟨rfl, hb2⟩
         have HB2 := hH ((uh HB1).trans (hb2.mono (uh HB1).size))
         have q1 := (uh Q1).of_block (hb2.block _ (by omega))
         have q0 := (uh Q0).of_block (hb2.block _ (by omega))
         obtain ⟨p0, p1, p2, p3, p4⟩ := cs5 q1 (by omega)
         have o0 := q0.cell (i := 0) (by omega)
         have o1 := q0.cell (i := 1) (by omega)
         have o2 := q0.cell (i := 2) (by omega)
         simp only [row5, row3] at p0 p1 p2 p3 p4 o0 o1 o2
         clear hb2 q1 q0)
      | (go_at_call 20
         refine (uh HHT _ (uh HB2) (uh H1) (uh H2)).mono ?_
         rintro e w3 ⟨rfl, hb3⟩
         have HB3 := hH ((uh HB2).trans (hb3.mono (uh HB2).size))
         clear hb3))
     all_goals
      go_ret
      exact ⟨rfl, uh HB3⟩
   · have hd2 : decide (0 < pT t 1) = false := decide_eq_false hp
     rw [hd, hd2, Bool.true_and, Bool.false_and] at hA
     have HOK2 := uh HOK; rw [hd] at HOK2
     have HOT2 := uh HOT; rw [hd2] at HOT2
     rw [hA]
     have HO := hH HOK2; have HT := hH HOT2
     clear HOK2 HOT2 h1 h2 hd hd2 hq hp hA HOK HOT HHT
     go_enter Tryz.func5, Tryz.ntmps5
     go_upto_region 1 with fail
     go_wp2_with (first
      | (go_at_call 18
         refine (uh HO).mono ?_
         rintro e w1 ⟨rfl, hb1⟩
         have HB1 := hH ((uh HB0).trans (hb1.mono (uh HB0).size))
         have q1 := (uh HRT).of_block (hb1.block _ (by omega))
         obtain ⟨t0, t1, t2, t3, t4⟩ := cs5 q1 (by omega)
         simp only [row5] at t0 t1 t2 t3 t4
         clear hb1 q1)
      | (go_at_call 19
         refine (uh HT _ (uh HB1)).mono ?_
         rintro e w2 ⟨rfl, hb2⟩
         have HB2 := hH ((uh HB1).trans (hb2.mono (uh HB1).size))
         clear hb2))
     all_goals
      go_ret
      exact ⟨rfl, uh HB2⟩
 · have hd : decide (0 < qT k 1) = false := decide_eq_false hq
   rw [hd, Bool.false_and, Bool.false_and] at hA
   have HOK2 := uh HOK; rw [hd] at HOK2
   rw [hA]
   have HO := hH HOK2
   clear HOK2 h1 h2 hd hq hA HOK HOT HHT
   go_enter Tryz.func5, Tryz.ntmps5
   go_upto_region 1 with fail
   go_wp2_with (go_at_call 18
                refine (uh HO).mono ?_
                rintro e w1 ⟨rfl, hb1⟩
                have HB1 := hH ((uh HB0).trans (hb1.mono (uh HB0).size))
                clear hb1)
   all_goals
    go_ret
    exact ⟨rfl, uh HB1⟩
end Go.Proofs.YtccnehcpmkgbhaaGreatDoor

namespace Go.Proofs.YtccnehcpmkgbhaaGreatDoor
open Go Go.RowKit
structure KTB (w wr : World) (k : Kd) (c : C3) (BK : Nat) (t : Tr) (d : C5) (BT : Nat) : Prop where
 kt : KT w wr k c BK
 tb : TB w wr t d BT
theorem KTB.on {w wr w' : World} {k : Kd} {c : C3} {BK : Nat} {t : Tr} {d : C5} {BT : Nat} (h : KTB w wr k c BK t d BT) (hb : Below wr.heap.size wr w') : KTB w w' k c BK t d BT := ⟨h.kt.on hb, h.tb.on hb⟩
theorem KTB.start {w w1 : World} {k : Kd} {c : C3} {t : Tr} {d : C5} (hb : Below w.heap.size w w1) (hk : KRep (fun x => x < w1.heap.size) w1 k c) (ht : Rep (fun x => x < w1.heap.size) w1 t d) :
 KTB w ((w1.alloc (.cells #[c.c0, c.c1, c.c2] 26)).alloc (.cells #[d.c0, d.c1, d.c2, d.c3, d.c4] 29)) k c w1.heap.size t d (w1.heap.size + 1) := by
 have h1 : Below w1.heap.size w1 (w1.alloc (.cells #[c.c0, c.c1, c.c2] 26)) := (Below.refl _ _).alloc (Nat.le_refl _) _
 have h2 := (Below.refl (w1.alloc (.cells #[c.c0, c.c1, c.c2] 26)).heap.size (w1.alloc (.cells #[c.c0, c.c1, c.c2] 26))).alloc (Nat.le_refl _) (.cells #[d.c0, d.c1, d.c2, d.c3, d.c4] 29)
 have hT := TB.start (hb.trans (h1.mono hb.size)) (Rep.carry (w' := w1.alloc (.cells #[c.c0, c.c1, c.c2] 26)) (Q := fun x => x < (w1.alloc (.cells #[c.c0, c.c1, c.c2] 26)).heap.size) (fun x hx => h1.block x hx) (fun x hx => by rw [World.size_alloc]; omega) _ _ ht)
 rw [World.size_alloc] at hT
 exact ⟨(KT.start hb hk).on h2, hT⟩
theorem lawKindHasP_any (w : World) (a : Option Addr) (cap : Nat) (l : List UInt8) (hv : BytesAt w (.slice a l.length cap) l) (hcap : l.length ≤ cap) (hE : Env w) (hT : Tab w) (hKT : KTab w) :
 Calls Tryz.prog 3 #[.slice a l.length cap] w fun e w' => e = .returned (.bool true) ∧ Below w.heap.size w w' := by
 have hlen : l.length ≤ 9223372036854775807 := by obtain ⟨_, _, _, h, _⟩ := hv; exact h
 by_cases hs : l.length ≤ 1048576
 · have hd : decide ((1048576 : Int) < (l.length : Int)) = false := by simp; omega
   have HDW := hH (drawKindHas_any w a cap l hv hcap)
   have HT := hH (fun W (hW : Below w.heap.size w W) => hT.of_block (hW.block _ hT.lt))
   have HK := hH (fun W (hW : Below w.heap.size w W) => hKT.of_block (hW.block _ hKT.lt))
   have HE := hH (fun W (hW : Below w.heap.size w W) => hE.below hW)
   clear hv hT hE hKT
   go_enter Tryz.func3, Tryz.ntmps3
   go_wp2_with fail
   refine (uh HDW).mono ?_
   rintro e w1 ⟨k, ⟨c0, c1, c2⟩, t, ⟨d0, d1, d2, d3, d4⟩, rfl, hk1, ht1, hwk, hb1⟩
   obtain ⟨g0, -, ⟨a1, cap1, g1, -⟩, a2, cap2, g2, -⟩ := hk1.open
   simp only at g0 g1 g2
   subst g0 g1 g2
   obtain ⟨g0, g1, g2, -, -, -, ⟨a3, cap3, g3, -⟩, a4, cap4, g4, -⟩ := ht1.open
   simp only at g0 g1 g2 g3 g4
   subst g0 g1 g2 g3 g4
   have hst := KTB.start hb1 hk1 ht1
   simp only at hst
   obtain ⟨W1, hW1⟩ : ∃ W1, (w1.alloc (.cells #[.int .i64 k.sort, .slice a1 k.names.length cap1, .slice a2 k.kids.length cap2] 26)).alloc (.cells #[.int .i64 t.sort, .int .i64 t.num, .string t.text, .slice a3 t.names.length cap3, .slice a4 t.kids.length cap4] 29) = W1 := ⟨_, rfl⟩
   rw [hW1] at hst
   have HKTB := hH hst; have HW1 := hH hW1
   clear HDW hk1 ht1 hb1 hst hW1
   have hsk := fun W (hW : KTB w W k ⟨.int .i64 k.sort, .slice a1 k.names.length cap1, .slice a2 k.kids.length cap2⟩ w1.heap.size t ⟨.int .i64 t.sort, .int .i64 t.num, .string t.text, .slice a3 t.names.length cap3, .slice a4 t.kids.length cap4⟩ (w1.heap.size + 1)) => specKindHas_any k t (fun x => x < w1.heap.size) (fun x => x < w1.heap.size + 1) _ _ W (fun x hx => Nat.lt_trans hx hW.kt.box.lt) (fun x hx => Nat.lt_trans hx hW.tb.box.lt) hW.kt.rep hW.tb.rep
   have hik := fun W (hW : KTB w W k ⟨.int .i64 k.sort, .slice a1 k.names.length cap1, .slice a2 k.kids.length cap2⟩ w1.heap.size t ⟨.int .i64 t.sort, .int .i64 t.num, .string t.text, .slice a3 t.names.length cap3, .slice a4 t.kids.length cap4⟩ (w1.heap.size + 1)) => implKindHas_any k t (fun x => x < w1.heap.size) (fun x => x < w1.heap.size + 1) _ _ W (fun x hx => Nat.lt_trans hx hW.kt.box.lt) (fun x hx => Nat.lt_trans hx hW.tb.box.lt) hW.kt.rep hW.tb.rep (uh HT W hW.kt.below) (by omega)
   have itw := fun W (hW : KTB w W k ⟨.int .i64 k.sort, .slice a1 k.names.length cap1, .slice a2 k.kids.length cap2⟩ w1.heap.size t ⟨.int .i64 t.sort, .int .i64 t.num, .string t.text, .slice a3 t.names.length cap3, .slice a4 t.kids.length cap4⟩ (w1.heap.size + 1)) => implTreeWrite_any t (fun x => x < w1.heap.size + 1) _ W (fun x hx => Nat.lt_trans hx hW.tb.box.lt) hW.tb.rep (uh HT W hW.tb.below) (uh HE W hW.tb.below)
   have ikw := fun W (hW : KTB w W k ⟨.int .i64 k.sort, .slice a1 k.names.length cap1, .slice a2 k.kids.length cap2⟩ w1.heap.size t ⟨.int .i64 t.sort, .int .i64 t.num, .string t.text, .slice a3 t.names.length cap3, .slice a4 t.kids.length cap4⟩ (w1.heap.size + 1)) => implKindWrite_any k (fun x => x < w1.heap.size) _ W (fun x hx => Nat.lt_trans hx hW.kt.box.lt) hW.kt.rep (by omega) (uh HK W hW.kt.below)
   have hlast := fun W (hW : Below w.heap.size w W) (P Q : Nat → Prop) (c : C3) (d : C5) (hP : ∀ x, P x → x < W.heap.size) (hQ : ∀ x, Q x → x < W.heap.size) (h1 : KRep P W k c) (h2 : Rep Q W t d) => implKindHas_any k t P Q c d W hP hQ h1 h2 (uh HT W hW) (by omega)
   by_cases hh : hasA k t = true
   · obtain ⟨hqk, hpt⟩ := has_ok hh
     have hS := rd_twS hpt
     have hsz := twS_size t
     have hkz := kWr_size k
     have hkr := ((text_facts k).1 hqk).2
     have hrd := fun W (hW : Below w.heap.size w W) => implTreeRead_any W (twS t) (by omega) (uh HE W hW)
     have hkrd := fun W (hW : Below w.heap.size w W) => implKindRead_any W (kWr k) (by omega) (uh HK W hW)
     rw [hS] at hrd
     rw [hkr] at hkrd
     rw [hh] at hsk hik hlast
     have HSK := hH hsk; have HIK := hH hik; have ITW := hH itw; have IKW := hH ikw; have HRD := hH hrd; have HKRD := hH hkrd; have HLAST := hH hlast
     clear hsk hik itw ikw hrd hkrd hlast hS hkr hqk hpt hh
     generalize twS t = S at *
     generalize kWr k = Z at *
     go_wp2_with fail
     rw [uh HW1]
     refine (uh HSK W1 (uh HKTB)).mono ?_
     rintro e w2 ⟨rfl, hb2⟩
     have TB2 := hH ((uh HKTB).on hb2)
     obtain ⟨k0, k1, k2⟩ := (uh TB2).kt.cells
     obtain ⟨t0, t1, t2, t3, t4⟩ := (uh TB2).tb.cells
     simp only at k0 k1 k2 t0 t1 t2 t3 t4
     clear hb2 HKTB HW1 HSK
     go_wp2_with fail
     refine (uh HIK w2 (uh TB2)).mono ?_
     rintro e w3 ⟨rfl, hb3⟩
     have TB3 := hH ((uh TB2).on hb3)
     obtain ⟨k0, k1, k2⟩ := (uh TB3).kt.cells
     obtain ⟨t0, t1, t2, t3, t4⟩ := (uh TB3).tb.cells
     simp only at k0 k1 k2 t0 t1 t2 t3 t4
     clear hb3 TB2 HIK
     go_wp2_with fail
     refine (uh ITW w3 (uh TB3)).mono ?_
     rintro e w4 ⟨rfl, hb4⟩
     have TB4 := hH ((uh TB3).on hb4)
     obtain ⟨k0, k1, k2⟩ := (uh TB4).kt.cells
     obtain ⟨t0, t1, t2, t3, t4⟩ := (uh TB4).tb.cells
     simp only at k0 k1 k2 t0 t1 t2 t3 t4
     clear hb4 TB3 ITW
     go_wp2_with fail
     refine (uh HRD w4 (uh TB4).tb.below).mono ?_
     intro e w5 h5
     obtain ⟨b1, p1, b2, p2, F, rfl, ho5, -, hF5, hb5⟩ := h5.open
     simp only [tAn, Option.getD_some, Option.isSome_some] at ho5 ⊢
     have TB5 := hH ((uh TB4).on hb5)
     have hr5 := Own.rep (P := fun x => x < w5.heap.size) _ _ F (fun x hx => (hF5 x hx).2) ho5
     have HTU := hH (TB.start (uh TB5).tb.below hr5)
     have TB6 := hH ((uh TB5).on ((Below.refl w5.heap.size w5).alloc (Nat.le_refl _) (.cells #[.int .i64 t.sort, .int .i64 t.num, .string t.text, .slice b1 t.names.length p1, .slice b2 t.kids.length p2] 29)))
     obtain ⟨W5, hW5⟩ : ∃ W5, w5.alloc (.cells #[.int .i64 t.sort, .int .i64 t.num, .string t.text, .slice b1 t.names.length p1, .slice b2 t.kids.length p2] 29) = W5 := ⟨_, rfl⟩
     rw [hW5] at HTU TB6
     have HW5 := hH hW5
     obtain ⟨k0, k1, k2⟩ := (uh TB5).kt.cells
     obtain ⟨k0', k1', k2'⟩ := (uh TB6).kt.cells
     simp only at k0 k1 k2 k0' k1' k2'
     have hBl := (uh TB5).kt.box.lt
     clear ho5 hF5 hb5 h5 hr5 hW5 TB4 TB5 HRD
     go_wp2_with fail
     rw [uh HW5]
     refine (uh IKW W5 (uh TB6)).mono ?_
     rintro e w7 ⟨rfl, hb7⟩
     have TB7 := hH ((uh TB6).on hb7)
     have HTU7 := hH ((uh HTU).on hb7)
     clear hb7 TB6 HTU HW5 IKW
     go_wp2_with fail
     refine (uh HKRD w7 (uh TB7).kt.below).mono ?_
     intro e w8 h8
     obtain ⟨y0, ap, np, cp, aq, nq, cq, rfl, hy, hr8, hb8⟩ := h8.form
     simp only [kOf, Option.getD_some, Option.isSome_some] at hr8 hy ⊢
     subst hy
     have HTU8 := hH ((uh HTU7).on hb8)
     have HKV := hH (KT.start (uh HTU8).below hr8)
     have HTU9 := hH ((uh HTU8).on ((Below.refl w8.heap.size w8).alloc (Nat.le_refl _) (.cells #[.int .i64 k.sort, .slice ap np cp, .slice aq nq cq] 26)))
     obtain ⟨W8, hW8⟩ : ∃ W8, w8.alloc (.cells #[.int .i64 k.sort, .slice ap np cp, .slice aq nq cq] 26) = W8 := ⟨_, rfl⟩
     rw [hW8] at HKV HTU9
     have HW8 := hH hW8
     obtain ⟨k0, k1, k2⟩ := (uh HKV).cells
     obtain ⟨t0, t1, t2, t3, t4⟩ := (uh HTU9).cells
     obtain ⟨t0', t1', t2', t3', t4'⟩ := (uh HTU8).cells
     simp only at k0 k1 k2 t0 t1 t2 t3 t4 t0' t1' t2' t3' t4'
     have hTl := (uh HTU8).box.lt
     have HC := hH (uh HLAST W8 (uh HKV).below _ _ _ _ (fun x hx => Nat.lt_trans hx (uh HKV).box.lt) (fun x hx => Nat.lt_trans hx (uh HTU9).box.lt) (uh HKV).rep (uh HTU9).rep)
     have HB9 := hH (uh HKV).below
     clear h8 hr8 hb8 hW8 HTU7 TB7 HKRD HLAST HKV HTU9 HTU8
     go_wp2_with fail
     rw [uh HW8]
     refine (uh HC).mono ?_
     rintro e w9 ⟨rfl, hb9⟩
     have HBF := hH ((uh HB9).trans (hb9.mono (uh HB9).size))
     clear hb9 HC HB9 HW8
     go_wp2_with fail
     go_ret
     exact ⟨rfl, uh HBF⟩
   · have hf : hasA k t = false := by simpa using hh
     rw [hf] at hsk hik
     have HSK := hH hsk; have HIK := hH hik
     clear hsk hik itw ikw hlast hh hf
     go_wp2_with fail
     rw [uh HW1]
     refine (uh HSK W1 (uh HKTB)).mono ?_
     rintro e w2 ⟨rfl, hb2⟩
     have TB2 := hH ((uh HKTB).on hb2)
     obtain ⟨k0, k1, k2⟩ := (uh TB2).kt.cells
     obtain ⟨t0, t1, t2, t3, t4⟩ := (uh TB2).tb.cells
     simp only at k0 k1 k2 t0 t1 t2 t3 t4
     clear hb2 HKTB HW1 HSK
     go_wp2_with fail
     refine (uh HIK w2 (uh TB2)).mono ?_
     rintro e w3 ⟨rfl, hb3⟩
     have TB3 := hH ((uh TB2).on hb3)
     clear hb3 TB2 HIK
     go_wp2_with fail
     go_ret
     exact ⟨rfl, (uh TB3).kt.below⟩
 · have hd : decide ((1048576 : Int) < (l.length : Int)) = true := by simp; omega
   go_enter Tryz.func3, Tryz.ntmps3
   go_wp2_with fail
   go_ret
   exact ⟨rfl, Below.refl _ _⟩
end Go.Proofs.YtccnehcpmkgbhaaGreatDoor

namespace Go.Proofs.YtccnehcpmkgbhaaGreatDoor
open Go Go.RowKit Go.ChangeShapes Go.WideShapes Go.ChangeAt
theorem cellsU8 : Tryz.prog.cellsOf 5 = 1 := by kernel_rfl
section
variable {H : Type} {enc : TypeId × Value → H} {W : World} {spare : Nat → Bool} {held : Bool}
theorem bytes_cap {fuel : Nat} {a : Option Addr} {len cap : Nat} {x : DataW H × List MemPlace} (h : DataW.trod enc Tryz.prog W 0 spare held fuel 22 [.slice a len cap] = some x) : len ≤ cap := by
 rcases open_ints Tryz.underlying22 Tryz.underlying5 cellsU8 h with ⟨hcs, -⟩ | ⟨a', len', cap', zs, hcs, -, hl, -⟩
 · simp only [List.cons.injEq, Value.slice.injEq, and_true] at hcs
   omega
 · simp only [List.cons.injEq, Value.slice.injEq, and_true] at hcs
   omega
theorem bytes_of_trod {fuel : Nat} {v : Value} {x : DataW H × List MemPlace} (h : DataW.trod enc Tryz.prog W 0 spare held fuel 22 [v] = some x) :
 ∃ l, BytesAt W v l := by
 rcases open_ints Tryz.underlying22 Tryz.underlying5 cellsU8 h with ⟨hcs, -⟩ | ⟨a, len, cap, zs, hcs, -, hl, hm, hz, -, hcell, hws⟩
 · simp only [List.cons.injEq, and_true] at hcs
   exact ⟨[], none, 0, hcs, by simp, fun i hi => by simp at hi⟩
 · simp only [List.cons.injEq, and_true] at hcs
   have hle : len ≤ zs.length := by rw [hz]; split <;> omega
   unfold maxLen at hm
   have hlen : ((zs.take len).map (fun z => UInt8.ofNat z.toNat)).length = len := by simp; omega
   refine ⟨(zs.take len).map (fun z => UInt8.ofNat z.toNat), some a, cap, by rw [hcs, hlen], by rw [hlen]; omega, fun i hi => ?_⟩
   have hi' : i < len := by rw [hlen] at hi; exact hi
   obtain ⟨b, off, spot⟩ := a
   have hspot : spot = none := by simpa [Addr.add] using World.cell?_spot (hcell 0 (by omega))
   subst hspot
   have hc := hcell i (by omega)
   rw [Addr.add_lit] at hc
   refine ⟨b, off, rfl, World.block_lt_of_cell? W _ hc, ?_⟩
   have hb := bounds_u8 (hws (zs[i]'(by omega)) (List.getElem_mem (by omega)))
   rw [hc]
   have e1 : zs.getD i 0 = zs[i]'(by omega) := by simp [show i < zs.length by omega]
   have e2 : (((zs.take len).map (fun z => UInt8.ofNat z.toNat))[i]'hi) = UInt8.ofNat (zs[i]'(by omega)).toNat := by simp
   rw [e1, e2, show (UInt8.ofNat (zs[i]'(by omega)).toNat).toNat = (zs[i]'(by omega)).toNat from by simp; omega, show (((zs[i]'(by omega)).toNat : Nat) : Int) = zs[i]'(by omega) from by omega]
end
end Go.Proofs.YtccnehcpmkgbhaaGreatDoor

namespace Go.Proofs.YtccnehcpmkgbhaaGreatDoor
open Go Go.RowKit
theorem gPowType : (Tryz.prog.globals[4]?).map (·.type) = some 184 := by kernel_rfl
theorem gSyn : Tryz.prog.globalNamed "strconv.ErrSyntax" = some 2 := by kernel_rfl
theorem gSynType : (Tryz.prog.globals[2]?).map (·.type) = some 149 := by kernel_rfl
theorem gRng : Tryz.prog.globalNamed "strconv.ErrRange" = some 3 := by kernel_rfl
theorem gRngType : (Tryz.prog.globals[3]?).map (·.type) = some 149 := by kernel_rfl
theorem cellsU64 : Tryz.prog.cellsOf 167 = 1 := by kernel_rfl
theorem cellsPow : Tryz.prog.cellsOf 184 = 20 := by kernel_rfl
theorem powData : (Rows.laid_internal_strconv_uint64pow10 : DataW Unit) = Lib.tabData .u64 Lib.pow10Tab := by rfl
theorem env_of_laid {W : World} (h : laidMetH Tryz.prog [("math/bits.deBruijn32tab", Rows.laid_math_bits_deBruijn32tab), ("math/bits.deBruijn64tab", Rows.laid_math_bits_deBruijn64tab), ("internal/strconv.uint64pow10", Rows.laid_internal_strconv_uint64pow10), ("strconv.ErrRange", Rows.laid_strconv_ErrRange), ("strconv.ErrSyntax", Rows.laid_strconv_ErrSyntax)] W) : Env W := by
 rw [MakeChecks.laidMetH_plain _ _ _ (by kernel_rfl)] at h
 obtain ⟨ps, ⟨g0, t0, cs0, f0, p0, q0, -, -, -, -, ⟨g1, t1, cs1, f1, p1, q1, -, -, -, -, ⟨g2, t2, cs2, f2, p2, q2, hg2, ht2, hv2, hd2, ⟨g3, t3, cs3, f3, p3, q3, hg3, ht3, hv3, hd3, ⟨g4, t4, cs4, f4, p4, q4, hg4, ht4, hv4, hd4, _, _⟩, _⟩, _⟩, _⟩, _⟩, _, _⟩ := h
 obtain rfl := Option.some.inj (gPow.symm.trans hg2)
 obtain rfl := Option.some.inj (gPowType.symm.trans ht2)
 obtain rfl := Option.some.inj (gRng.symm.trans hg3)
 obtain rfl := Option.some.inj (gRngType.symm.trans ht3)
 obtain rfl := Option.some.inj (gSyn.symm.trans hg4)
 obtain rfl := Option.some.inj (gSynType.symm.trans ht4)
 refine ⟨?_, ?_, ?_⟩
 · rw [powData] at hd2
   unfold Lib.TabIs
   rw [hv2, ← Lib.cells_of_tab Tryz.underlying184 Tryz.underlying167 cellsU64 cellsPow hd2]
 · obtain ⟨f', u, v, hc, -, -⟩ := iface_of_trod Tryz.underlying149 hd4
   refine ⟨.iface u v, ?_, Or.inr ⟨u, v, rfl⟩⟩
   have h0 := World.var?_cell hg4 hv4 0
   rw [h0]
   obtain ⟨l⟩ := cs4
   simp only at hc
   subst hc
   rfl
 · obtain ⟨f', u, v, hc, -, -⟩ := iface_of_trod Tryz.underlying149 hd3
   refine ⟨.iface u v, ?_, Or.inr ⟨u, v, rfl⟩⟩
   have h0 := World.var?_cell hg3 hv3 0
   rw [h0]
   obtain ⟨l⟩ := cs3
   simp only at hc
   subst hc
   rfl
end Go.Proofs.YtccnehcpmkgbhaaGreatDoor

namespace Go.Proofs.YtccnehcpmkgbhaaGreatDoor
open Go Go.RowKit Go.ChangeShapes Go.WideShapes Go.ChangeAt Go.Deep
theorem gTab : Tryz.prog.globalNamed "loop.example/teagle/impl.treeFields" = some 1 := by kernel_rfl
theorem gTabType : (Tryz.prog.globals[1]?).map (·.type) = some 156 := by kernel_rfl
theorem cellsHas : Tryz.prog.cellsOf 155 = 4 := by kernel_rfl
theorem cellsTab : Tryz.prog.cellsOf 156 = 28 := by kernel_rfl
theorem oneHas : ∃ fs : Array Field, Tryz.prog.underlying 155 = some (.struct fs) ∧ oneCellFields Tryz.prog fs = true ∧ fs.map (·.type) = #[4, 4, 4, 4] := ⟨_, Tryz.underlying155, by kernel_rfl, by kernel_rfl⟩
section
variable {H : Type} {enc : TypeId × Value → H} {W : World} {spare : Nat → Bool} {held : Bool}
theorem has_of_trod {fuel : Nat} {cs : List Value} {x : DataW H × List MemPlace} (h : DataW.trod enc Tryz.prog W 0 spare held fuel 155 cs = some x) :
 ∃ b0 b1 b2 b3 : Bool, cs = [.bool b0, .bool b1, .bool b2, .bool b3] ∧ x.1 = .agg [.lit (.bool b0), .lit (.bool b1), .lit (.bool b2), .lit (.bool b3)] := by
 obtain ⟨fs, hu, hone, hty⟩ := oneHas
 obtain ⟨xs, n, hn, hx, hlen, hxl, hf⟩ := DataW.trod_struct hu h
 rw [cellsHas] at hlen
 match cs, hlen with
 | [c0, c1, c2, c3], _ =>
   have hsz : fs.size = 4 := by have := congrArg Array.size hty; simpa using this
   have hfield : ∀ (i : Nat), (hi : i < 4) → DataW.trod enc Tryz.prog W 0 spare held n 4 (([c0, c1, c2, c3].drop i).take 1) = some (xs[i]'(by omega)) := by
    intro i hi
    have hfi : fs[i]? = some (fs[i]'(by omega)) := Array.getElem?_eq_getElem (by omega)
    obtain ⟨ho, hc⟩ := hone_of hone i _ hfi
    have := hf i _ hfi
    rw [ho, hc] at this
    have hTT : (fs[i]'(by omega)).type = 4 := by
     have e : (fs.map (·.type))[i]? = some ((fs[i]'(by omega)).type) := by simp [hsz, hi]
     rw [hty] at e
     rcases (show i = 0 ∨ i = 1 ∨ i = 2 ∨ i = 3 by omega) with rfl | rfl | rfl | rfl <;> simpa using e.symm
    rw [hTT] at this
    rw [this]; exact List.getElem?_eq_getElem (by omega)
   obtain ⟨b0, e0, f0⟩ := DataW.trod_bool Tryz.underlying4 (hfield 0 (by omega))
   obtain ⟨b1, e1, f1⟩ := DataW.trod_bool Tryz.underlying4 (hfield 1 (by omega))
   obtain ⟨b2, e2, f2⟩ := DataW.trod_bool Tryz.underlying4 (hfield 2 (by omega))
   obtain ⟨b3, e3, f3⟩ := DataW.trod_bool Tryz.underlying4 (hfield 3 (by omega))
   simp only [List.drop_succ_cons, List.drop_zero, List.take_succ_cons, List.take_zero, List.cons.injEq, and_true] at e0 e1 e2 e3
   refine ⟨b0, b1, b2, b3, by rw [e0, e1, e2, e3], ?_⟩
   obtain ⟨x0, x1, x2, x3, hxs⟩ : ∃ x0 x1 x2 x3, xs = [x0, x1, x2, x3] := by
    match xs, hxl.trans hsz with
    | [x0, x1, x2, x3], _ => exact ⟨x0, x1, x2, x3, rfl⟩
   subst hxs
   simp only [List.getElem_cons_zero, List.getElem_cons_succ] at f0 f1 f2 f3
   rw [hx, f0, f1, f2, f3]
   rfl
end
theorem tab_of_laid {W : World} (h : laidMetH Tryz.prog [("loop.example/teagle/impl.treeFields", Rows.laid_loop_example_teagle_impl_treeFields)] W) : Tab W := by
 rw [MakeChecks.laidMetH_plain _ _ _ (by kernel_rfl)] at h
 obtain ⟨ps, ⟨g0, t0, cs0, f0, p0, q0, hg0, ht0, hv0, hd0, _, _⟩, _, _⟩ := h
 obtain rfl := Option.some.inj (gTab.symm.trans hg0)
 obtain rfl := Option.some.inj (gTabType.symm.trans ht0)
 obtain ⟨xs, m, -, hx, hlen, hxl, hel⟩ := DataW.trod_array Tryz.underlying156 hd0
 rw [cellsHas] at hel
 rw [cellsTab] at hlen
 have hcell := World.var?_cell hg0 hv0
 have key : ∀ i, (hi : i < 7) → ∃ b0 b1 b2 b3 : Bool, (cs0.toList.drop (i * 4)).take 4 = [.bool b0, .bool b1, .bool b2, .bool b3] ∧ (xs[i]'(by omega)).1 = .agg [.lit (.bool b0), .lit (.bool b1), .lit (.bool b2), .lit (.bool b3)] := fun i hi => by
  have := hel i hi
  rw [List.getElem?_eq_getElem (by omega)] at this
  exact has_of_trod this
 obtain ⟨x0, x1, x2, x3, x4, x5, x6, hxs⟩ : ∃ x0 x1 x2 x3 x4 x5 x6, xs = [x0, x1, x2, x3, x4, x5, x6] := by
  match xs, hxl with
  | [x0, x1, x2, x3, x4, x5, x6], _ => exact ⟨x0, x1, x2, x3, x4, x5, x6, rfl⟩
 subst hxs
 simp only [Prod.mk.injEq, Rows.laid_loop_example_teagle_impl_treeFields, DataW.agg.injEq, List.map_cons, List.map_nil, List.cons.injEq, and_true] at hx
 obtain ⟨⟨g0, g1, g2, g3, g4, g5, g6⟩, -⟩ := hx
 obtain ⟨l⟩ := cs0
 simp only at hlen hcell key
 have cellk : ∀ i j, j < 4 → l[i * 4 + j]? = ((l.drop (i * 4)).take 4)[j]? := fun i j hj => by
  rw [List.getElem?_take_of_lt hj, List.getElem?_drop]
 obtain ⟨a0, a1, a2, a3, l0, d0⟩ := key 0 (by omega)
 simp only [List.getElem_cons_zero] at d0
 rw [d0] at g0
 simp only [DataW.agg.injEq, List.cons.injEq, DataW.lit.injEq, Lit.bool.injEq, and_true] at g0
 obtain ⟨rfl, rfl, rfl, rfl⟩ := g0
 obtain ⟨a0, a1, a2, a3, l1, d1⟩ := key 1 (by omega)
 simp only [List.getElem_cons_zero, List.getElem_cons_succ] at d1
 rw [d1] at g1
 simp only [DataW.agg.injEq, List.cons.injEq, DataW.lit.injEq, Lit.bool.injEq, and_true] at g1
 obtain ⟨rfl, rfl, rfl, rfl⟩ := g1
 obtain ⟨a0, a1, a2, a3, l2, d2⟩ := key 2 (by omega)
 simp only [List.getElem_cons_zero, List.getElem_cons_succ] at d2
 rw [d2] at g2
 simp only [DataW.agg.injEq, List.cons.injEq, DataW.lit.injEq, Lit.bool.injEq, and_true] at g2
 obtain ⟨rfl, rfl, rfl, rfl⟩ := g2
 obtain ⟨a0, a1, a2, a3, l3, d3⟩ := key 3 (by omega)
 simp only [List.getElem_cons_zero, List.getElem_cons_succ] at d3
 rw [d3] at g3
 simp only [DataW.agg.injEq, List.cons.injEq, DataW.lit.injEq, Lit.bool.injEq, and_true] at g3
 obtain ⟨rfl, rfl, rfl, rfl⟩ := g3
 obtain ⟨a0, a1, a2, a3, l4, d4⟩ := key 4 (by omega)
 simp only [List.getElem_cons_zero, List.getElem_cons_succ] at d4
 rw [d4] at g4
 simp only [DataW.agg.injEq, List.cons.injEq, DataW.lit.injEq, Lit.bool.injEq, and_true] at g4
 obtain ⟨rfl, rfl, rfl, rfl⟩ := g4
 obtain ⟨a0, a1, a2, a3, l5, d5⟩ := key 5 (by omega)
 simp only [List.getElem_cons_zero, List.getElem_cons_succ] at d5
 rw [d5] at g5
 simp only [DataW.agg.injEq, List.cons.injEq, DataW.lit.injEq, Lit.bool.injEq, and_true] at g5
 obtain ⟨rfl, rfl, rfl, rfl⟩ := g5
 obtain ⟨a0, a1, a2, a3, l6, d6⟩ := key 6 (by omega)
 simp only [List.getElem_cons_zero, List.getElem_cons_succ] at d6
 rw [d6] at g6
 simp only [DataW.agg.injEq, List.cons.injEq, DataW.lit.injEq, Lit.bool.injEq, and_true] at g6
 obtain ⟨rfl, rfl, rfl, rfl⟩ := g6
 have hc' : ∀ k, W.cell? ⟨1, k, none⟩ = l[k]? := fun k => (hcell k).trans (by simp)
 intro k hk
 rw [hc' k]
 have hcase : k = 0 ∨ k = 1 ∨ k = 2 ∨ k = 3 ∨ k = 4 ∨ k = 5 ∨ k = 6 ∨ k = 7 ∨ k = 8 ∨ k = 9 ∨ k = 10 ∨ k = 11 ∨ k = 12 ∨ k = 13 ∨ k = 14 ∨ k = 15 ∨ k = 16 ∨ k = 17 ∨ k = 18 ∨ k = 19 ∨ k = 20 ∨ k = 21 ∨ k = 22 ∨ k = 23 ∨ k = 24 ∨ k = 25 ∨ k = 26 ∨ k = 27 := by omega
 rcases hcase with rfl | rfl | rfl | rfl | rfl | rfl | rfl | rfl | rfl | rfl | rfl | rfl | rfl | rfl | rfl | rfl | rfl | rfl | rfl | rfl | rfl | rfl | rfl | rfl | rfl | rfl | rfl | rfl
 · exact (cellk 0 0 (by omega)).trans (congrArg (fun q => q[0]?) l0)
 · exact (cellk 0 1 (by omega)).trans (congrArg (fun q => q[1]?) l0)
 · exact (cellk 0 2 (by omega)).trans (congrArg (fun q => q[2]?) l0)
 · exact (cellk 0 3 (by omega)).trans (congrArg (fun q => q[3]?) l0)
 · exact (cellk 1 0 (by omega)).trans (congrArg (fun q => q[0]?) l1)
 · exact (cellk 1 1 (by omega)).trans (congrArg (fun q => q[1]?) l1)
 · exact (cellk 1 2 (by omega)).trans (congrArg (fun q => q[2]?) l1)
 · exact (cellk 1 3 (by omega)).trans (congrArg (fun q => q[3]?) l1)
 · exact (cellk 2 0 (by omega)).trans (congrArg (fun q => q[0]?) l2)
 · exact (cellk 2 1 (by omega)).trans (congrArg (fun q => q[1]?) l2)
 · exact (cellk 2 2 (by omega)).trans (congrArg (fun q => q[2]?) l2)
 · exact (cellk 2 3 (by omega)).trans (congrArg (fun q => q[3]?) l2)
 · exact (cellk 3 0 (by omega)).trans (congrArg (fun q => q[0]?) l3)
 · exact (cellk 3 1 (by omega)).trans (congrArg (fun q => q[1]?) l3)
 · exact (cellk 3 2 (by omega)).trans (congrArg (fun q => q[2]?) l3)
 · exact (cellk 3 3 (by omega)).trans (congrArg (fun q => q[3]?) l3)
 · exact (cellk 4 0 (by omega)).trans (congrArg (fun q => q[0]?) l4)
 · exact (cellk 4 1 (by omega)).trans (congrArg (fun q => q[1]?) l4)
 · exact (cellk 4 2 (by omega)).trans (congrArg (fun q => q[2]?) l4)
 · exact (cellk 4 3 (by omega)).trans (congrArg (fun q => q[3]?) l4)
 · exact (cellk 5 0 (by omega)).trans (congrArg (fun q => q[0]?) l5)
 · exact (cellk 5 1 (by omega)).trans (congrArg (fun q => q[1]?) l5)
 · exact (cellk 5 2 (by omega)).trans (congrArg (fun q => q[2]?) l5)
 · exact (cellk 5 3 (by omega)).trans (congrArg (fun q => q[3]?) l5)
 · exact (cellk 6 0 (by omega)).trans (congrArg (fun q => q[0]?) l6)
 · exact (cellk 6 1 (by omega)).trans (congrArg (fun q => q[1]?) l6)
 · exact (cellk 6 2 (by omega)).trans (congrArg (fun q => q[2]?) l6)
 · exact (cellk 6 3 (by omega)).trans (congrArg (fun q => q[3]?) l6)
end Go.Proofs.YtccnehcpmkgbhaaGreatDoor

namespace Go.Proofs.YtccnehcpmkgbhaaGreatDoor
open Go Go.RowKit Go.ChangeShapes Go.WideShapes Go.ChangeAt Go.Deep
theorem cellsStr : Tryz.prog.cellsOf 9 = 1 := by kernel_rfl
end Go.Proofs.YtccnehcpmkgbhaaGreatDoor

namespace Go.Proofs.YtccnehcpmkgbhaaGreatDoor
open Go Go.RowKit Go.ChangeShapes Go.WideShapes Go.ChangeAt Go.Deep
theorem gWords : Tryz.prog.globalNamed "loop.example/teagle/impl.kindWords" = some 0 := by kernel_rfl
theorem gWordsType : (Tryz.prog.globals[0]?).map (·.type) = some 123 := by kernel_rfl
theorem cellsWords : Tryz.prog.cellsOf 123 = 4 := by kernel_rfl
theorem ktab_of_laid {W : World} (h : laidMetH Tryz.prog [("loop.example/teagle/impl.kindWords", Rows.laid_loop_example_teagle_impl_kindWords)] W) : KTab W := by
 rw [MakeChecks.laidMetH_plain _ _ _ (by kernel_rfl)] at h
 obtain ⟨ps, ⟨g0, t0, cs0, f0, p0, q0, hg0, ht0, hv0, hd0, _, _⟩, _, _⟩ := h
 obtain rfl := Option.some.inj (gWords.symm.trans hg0)
 obtain rfl := Option.some.inj (gWordsType.symm.trans ht0)
 obtain ⟨xs, m, -, hx, hlen, hxl, hel⟩ := DataW.trod_array Tryz.underlying123 hd0
 rw [cellsStr] at hel
 rw [cellsWords] at hlen
 have hcell := World.var?_cell hg0 hv0
 obtain ⟨x0, x1, x2, x3, hxs⟩ : ∃ x0 x1 x2 x3, xs = [x0, x1, x2, x3] := by
  match xs, hxl with
  | [x0, x1, x2, x3], _ => exact ⟨x0, x1, x2, x3, rfl⟩
 subst hxs
 obtain ⟨l⟩ := cs0
 simp only at hlen hcell
 obtain ⟨c0, c1, c2, c3, hl⟩ : ∃ c0 c1 c2 c3, l = [c0, c1, c2, c3] := by
  match l, hlen with
  | [c0, c1, c2, c3], _ => exact ⟨c0, c1, c2, c3, rfl⟩
 subst hl
 have h1 := hel 1 (by omega)
 have h2 := hel 2 (by omega)
 have h3 := hel 3 (by omega)
 simp at h1 h2 h3
 obtain ⟨s1, e1, y1, -⟩ := DataW.trod_string Tryz.underlying9 h1
 obtain ⟨s2, e2, y2, -⟩ := DataW.trod_string Tryz.underlying9 h2
 obtain ⟨s3, e3, y3, -⟩ := DataW.trod_string Tryz.underlying9 h3
 simp only [Prod.mk.injEq, Rows.laid_loop_example_teagle_impl_kindWords, DataW.agg.injEq, List.map_cons, List.map_nil, List.cons.injEq, and_true] at hx
 obtain ⟨⟨-, z1, z2, z3⟩, -⟩ := hx
 rw [y1] at z1
 rw [y2] at z2
 rw [y3] at z3
 simp only [DataW.lit.injEq, Lit.string.injEq] at z1 z2 z3
 simp only [List.cons.injEq, and_true] at e1 e2 e3
 have w1 : s1 = ⟨#[110, 117, 109]⟩ := by apply ByteArray.ext; apply Array.toList_inj.1; exact z1.symm
 have w2 : s2 = ⟨#[116, 101, 120, 116]⟩ := by apply ByteArray.ext; apply Array.toList_inj.1; exact z2.symm
 have w3 : s3 = ⟨#[102, 108, 97, 103]⟩ := by apply ByteArray.ext; apply Array.toList_inj.1; exact z3.symm
 subst e1 e2 e3
 refine ⟨?_, ?_, ?_⟩
 · rw [← w1]; exact (hcell 1).trans rfl
 · rw [← w2]; exact (hcell 2).trans rfl
 · rw [← w3]; exact (hcell 3).trans rfl
end Go.Proofs.YtccnehcpmkgbhaaGreatDoor
