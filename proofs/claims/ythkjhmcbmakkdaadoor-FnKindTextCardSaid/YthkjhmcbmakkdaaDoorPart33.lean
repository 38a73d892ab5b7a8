/- The walk of the law on the texts of schemas (FnKindText): whatever bytes come in, it answers true, and turns nothing that was there. The table kindWords is as the program lays it. -/
import Derived.Test.YthkjhmcbmakkdaaDoorPart13
import Derived.Test.YthkjhmcbmakkdaaDoorPart14
import Derived.Test.YthkjhmcbmakkdaaDoorPart29
import Derived.Test.YthkjhmcbmakkdaaDoorPart25
import Derived.Test.YthkjhmcbmakkdaaDoorPart32
import Derived.Test.YthkjhmcbmakkdaaDoorPart27
import Derived.Deep.CutRange
import Derived.Test.YthkjhmcbmakkdaaDoorRows
import Derived.Test.YthkjhmcbmakkdaaDoorPart11
import Derived.ProofKit
import Derived.OpenShut
import Derived.Test.YthkjhmcbmakkdaaDoorPart00
import Derived.Deep.Fields
import Derived.Deep.Slices
namespace Go.Proofs.YthkjhmcbmakkdaaDoor
open Go Go.RowKit

/-- A schema in its box. -/
structure KT (w wr : World) (k : Kd) (c : C3) (B : Nat) : Prop where
  below : Below w.heap.size w wr
  box : wr.rowIs B 26 3 (row3 c.c0 c.c1 c.c2)
  rep : KRep (fun x => x < B) wr k c
theorem KT.on {w wr w' : World} {k : Kd} {c : C3} {B : Nat} (h : KT w wr k c B) (hb : Below wr.heap.size wr w') : KT w w' k c B :=
  ⟨h.below.trans (hb.mono h.below.size), h.box.of_block (hb.block _ h.box.lt), KRep.carry (fun x hx => hb.block x (Nat.lt_trans hx h.box.lt)) (fun _ h => h) _ _ h.rep⟩
theorem KT.start {w wr : World} {k : Kd} {c0 c1 c2 : Value} (hb : Below w.heap.size w wr) (h : KRep (fun x => x < wr.heap.size) wr k ⟨c0, c1, c2⟩) : KT w (wr.alloc (.cells #[c0, c1, c2] 26)) k ⟨c0, c1, c2⟩ wr.heap.size :=
  ⟨hb.alloc hb.size _, row3_alloc wr c0 c1 c2 _, KRep.carry (fun _ hx => Below.heap_alloc _ _ _ hx) (fun _ h => h) _ _ h⟩

/-- The schema of an answer. -/
def kOf (o : Option Kd) : Kd := o.getD (.mk 0 [] [])
theorem KAns.form {o : Option Kd} {w w' : World} {e : Ending} (h : KAns o w e w') : ∃ (y0 : Int) (ap : Option Addr) (np cp : Nat) (aq : Option Addr) (nq cq : Nat), e = .returned (.tuple #[.agg #[.int .i64 y0, .slice ap np cp, .slice aq nq cq], .bool o.isSome]) ∧ y0 = (kOf o).sort ∧ KRep (fun x => x < w'.heap.size) w' (kOf o) ⟨.int .i64 y0, .slice ap np cp, .slice aq nq cq⟩ ∧ Below w.heap.size w w' := by
  obtain ⟨k, b, ⟨y0, y1, y2⟩, F, hk, rfl, ho, hnd, hF, hb⟩ := h
  have hh : kOf o = k ∧ o.isSome = b := by
    rcases hk with ⟨rfl, rfl⟩ | ⟨rfl, rfl, rfl⟩ <;> exact ⟨rfl, rfl⟩
  obtain ⟨rfl, rfl⟩ := hh
  obtain ⟨p0, -, F1, F2, -, ⟨ap, cp, p1, -⟩, aq, cq, p2, -⟩ := ho.open
  simp only at p0 p1 p2
  subst p0 p1 p2
  exact ⟨_, _, _, _, _, _, _, rfl, rfl, OwnD.rep _ _ F (fun x hx => (hF x hx).2) ho, hb⟩

theorem kxT_ne (t : Kd) : kxT t ≠ [] := by
  rw [kxT_eq]
  repeat' split
  all_goals simp

theorem text_facts (k : Kd) : (0 < qT k 1 → (kWr k).size ≠ 0 ∧ progK (kWr k).data.toList = some k) ∧ (¬ 0 < qT k 1 → kWr k = ⟨#[]⟩) := by
  constructor
  · intro h
    have hs := kWr_size k
    have e : kWr k = ⟨(kxT k).toArray⟩ := by unfold kWr; rw [if_pos h]
    have hp : progK (kWr k).data.toList = some k := by
      rw [progK_some]
      refine ⟨?_, h, by rw [e]⟩
      rw [e] at hs ⊢
      exact hs
    refine ⟨fun h0 => ?_, hp⟩
    have hl : (kWr k).data.toList = [] := by
      apply List.eq_nil_of_length_eq_zero
      rw [Array.length_toList]
      exact h0
    rw [hl] at hp
    have := (progK_some.1 hp).2.2
    exact kxT_ne k this
  · intro h
    unfold kWr; rw [if_neg h]; rfl

theorem back_facts {s : ByteArray} {k : Kd} (h : progK s.data.toList = some k) : 0 < qT k 1 ∧ kWr k = s ∧ wKd k ≤ 1048576 := by
  obtain ⟨h8, hq, e⟩ := progK_some.1 h
  refine ⟨hq, ?_, ?_⟩
  · unfold kWr; rw [if_pos hq, e]
  · have h1 := krd_yes 6 k [] (ok_of_qT hq).1 (lev_of_qT hq)
    have h2 := krd_wt _ _ _ _ h1
    simp only [List.append_nil, List.length_nil] at h2
    rw [e] at h2
    omega

theorem tl_loop_len (s : ByteArray) (n : Nat) : ∀ (i : Nat) (r : List UInt8), s.size - i = n → (ByteArray.toList.loop s i r).length = r.length + n := by
  induction n with
  | zero => intro i r h; unfold ByteArray.toList.loop; rw [if_neg (by omega)]; simp
  | succ n ih =>
    intro i r h
    unfold ByteArray.toList.loop
    rw [if_pos (by omega), ih (i + 1) _ (by omega)]
    simp; omega
theorem toList_ne {T : ByteArray} (h : T.size ≠ 0) : T.toList.isEmpty = false := by
  have hl := tl_loop_len T T.size 0 [] (by omega)
  have e : T.toList.length = T.size := by
    show (ByteArray.toList.loop T 0 []).length = T.size
    rw [hl]; simp
  cases hT : T.toList with
  | nil => rw [hT] at e; exact absurd e.symm h
  | cons _ _ => rfl

set_option maxRecDepth 100000 in
set_option maxHeartbeats 3200000 in
theorem lawText_any (w : World) (a : Option Addr) (cap : Nat) (l : List UInt8) (hv : BytesAt w (.slice a l.length cap) l) (hcap : l.length ≤ cap) (hT : KTab w) :
    Calls Tryd.prog 3 #[.slice a l.length cap] w fun e w' => e = .returned (.bool true) ∧ Below w.heap.size w w' := by
  have hlen : l.length ≤ 9223372036854775807 := by obtain ⟨_, _, _, h, _⟩ := hv; exact h
  by_cases hs : l.length ≤ 1048576
  · have hd : decide ((1048576 : Int) < (l.length : Int)) = false := by simp; omega
    have HDW := hide (drawKindWrite_any w a cap l hv hcap)
    have HDR := hide (fun W (hW : Below w.heap.size w W) => drawKindRead_any W a cap l (hv.on hW) hcap)
    have HT := hide (fun W (hW : Below w.heap.size w W) => hT.of_block (hW.block _ hT.lt))
    clear hv hT
    go_enter Tryd.func3, Tryd.ntmps3
    go_wp2_with fail
    refine (unhide HDW).mono ?_
    rintro e w1 ⟨k, ⟨c0, c1, c2⟩, rfl, hr1, hw1, hb1⟩
    obtain ⟨g0, -, ⟨a3, cap3, g1, -⟩, a4, cap4, g2, -⟩ := hr1.open
    simp only at g0 g1 g2
    subst g0 g1 g2
    have hkt := KT.start hb1 (KRep.carry (fun _ _ => rfl) (fun x hx => hx.2) _ _ hr1)
    obtain ⟨W1, hW1⟩ : ∃ W1, w1.alloc (.cells #[.int .i64 k.sort, .slice a3 k.names.length cap3, .slice a4 k.kids.length cap4] 26) = W1 := ⟨_, rfl⟩
    rw [hW1] at hkt
    obtain ⟨hf1, hf2⟩ := text_facts k
    have hsz := kWr_size k
    have hkw := specKindWrite_any k (fun x => x < w1.heap.size) ⟨.int .i64 k.sort, .slice a3 k.names.length cap3, .slice a4 k.kids.length cap4⟩ W1 (fun x hx => Nat.lt_trans hx hkt.box.lt) hkt.rep
    have him := fun W (hW : KT w W k ⟨.int .i64 k.sort, .slice a3 k.names.length cap3, .slice a4 k.kids.length cap4⟩ w1.heap.size) => implKindWrite_any k (fun x => x < w1.heap.size) _ W (fun x hx => Nat.lt_trans hx hW.box.lt) hW.rep (by omega) (unhide HT W hW.below)
    have hok := fun W (hW : KT w W k ⟨.int .i64 k.sort, .slice a3 k.names.length cap3, .slice a4 k.kids.length cap4⟩ w1.heap.size) => implKindOk_any k (fun x => x < w1.heap.size) _ W (fun x hx => Nat.lt_trans hx hW.box.lt) hW.rep (by omega)
    generalize kWr k = T at *
    have HF1 := hide hf1; have HF2 := hide hf2; have HKW := hide hkw; have HIM := hide him; have HOK := hide hok; have HKT := hide hkt; have HW1 := hide hW1
    have k0 := hkt.box.cell (i := 0) (by omega); have k1 := hkt.box.cell (i := 1) (by omega); have k2 := hkt.box.cell (i := 2) (by omega)
    simp only [row3] at k0 k1 k2
    clear HDW hr1 hb1 hkt hW1 hf1 hf2 hkw him hok
    go_wp2_with fail
    rw [unhide HW1]
    refine (unhide HKW).mono ?_
    rintro e w2 ⟨rfl, hb2⟩
    have hkt2 := (unhide HKT).on hb2
    have k0 := hkt2.box.cell (i := 0) (by omega); have k1 := hkt2.box.cell (i := 1) (by omega); have k2 := hkt2.box.cell (i := 2) (by omega)
    simp only [row3] at k0 k1 k2
    have HC := hide (unhide HIM w2 hkt2)
    have HKT2 := hide hkt2
    clear HKW hb2 hkt2 HIM HKT HW1
    go_wp2_with fail
    refine (unhide HC).mono ?_
    rintro e w3 ⟨rfl, hb3⟩
    have hkt3 := (unhide HKT2).on hb3
    have k0 := hkt3.box.cell (i := 0) (by omega); have k1 := hkt3.box.cell (i := 1) (by omega); have k2 := hkt3.box.cell (i := 2) (by omega)
    simp only [row3] at k0 k1 k2
    have HC2 := hide (unhide HOK w3 hkt3)
    have HKT3 := hide hkt3
    clear HC hb3 hkt3 HKT2 HOK
    go_upto_region 6 with fail
    go_cut [31] from 22 (fun s wx => s = .bool false ∧ Hid (KT w wx k ⟨.int .i64 k.sort, .slice a3 k.names.length cap3, .slice a4 k.kids.length cap4⟩ w1.heap.size))
    case first =>
      by_cases hq : 0 < qT k 1
      · have hne := (unhide HF1 hq).1
        have hdq : decide (0 < qT k 1) = true := decide_eq_true hq
        rw [hdq] at HC2
        clear hq hdq
        go_wp2_with fail
        refine (unhide HC2).mono ?_
        rintro e w4 ⟨rfl, hb4⟩
        have HKT4 := hide ((unhide HKT3).on hb4)
        go_wp2_with fail
        go_meet
        case rel => exact ⟨congrArg Value.bool (toList_ne hne), HKT4⟩
      · have hz := unhide HF2 (by omega)
        subst hz
        have hdq : decide (0 < qT k 1) = false := decide_eq_false hq
        rw [hdq] at HC2
        clear hq hdq
        go_wp2_with fail
        refine (unhide HC2).mono ?_
        rintro e w4 ⟨rfl, hb4⟩
        have HKT4 := hide ((unhide HKT3).on hb4)
        go_wp2_with fail
        go_meet
        case rel => exact ⟨rfl, HKT4⟩
    case rest =>
      obtain ⟨rfl, HKT6⟩ := hcut
      clear HKT3 HC2 k0 k1 k2
      go_upto_region 8 with fail
      go_cut [33] from 32 (fun s wx => s = .bool (!T.toList.isEmpty) ∧ wx = wc)
      case first =>
        go_wp2_with fail
        go_meet
        case rel => exact ⟨rfl, rfl⟩
      case rest =>
      obtain ⟨rfl, rfl⟩ := hcut
      go_upto_if 33 with fail
      go_cut [] from 32 (fun wx => Hid (Below w.heap.size w wx))
      case first =>
        by_cases hq : 0 < qT k 1
        · obtain ⟨hne, hpk⟩ := unhide HF1 hq
          have hR := implKindRead_any wc T (by omega) (unhide HT wc (unhide HKT6).below)
          rw [hpk] at hR
          have HR := hide hR
          rw [toList_ne hne]
          clear hq hpk hR HF1 HF2
          go_wp2_with fail
          refine (unhide HR).mono ?_
          intro e w5 h5
          obtain ⟨y0, ap, np, cp, aq, nq, cq, rfl, hy, hr5, hb5⟩ := h5.form
          have hx5 := (unhide HKT6).on hb5
          have hkty := KT.start hx5.below hr5
          obtain ⟨W5, hW5⟩ : ∃ W5, w5.alloc (.cells #[.int .i64 y0, .slice ap np cp, .slice aq nq cq] 26) = W5 := ⟨_, rfl⟩
          rw [hW5] at hkty
          have hx6 := hx5.on (show Below w5.heap.size w5 W5 by rw [← hW5]; exact (Below.refl _ _).alloc (Nat.le_refl _) _)
          have HTT := hide (ttKind_any k (fun x => x < w5.heap.size) (fun x => x < w1.heap.size) ⟨.int .i64 y0, .slice ap np cp, .slice aq nq cq⟩ ⟨.int .i64 k.sort, .slice a3 k.names.length cap3, .slice a4 k.kids.length cap4⟩ W5 (fun x hx => Nat.lt_trans hx hkty.box.lt) (fun x hx => Nat.lt_trans hx hx6.box.lt) hkty.rep hx6.rep)
          have x0 := hx6.box.cell (i := 0) (by omega); have x1 := hx6.box.cell (i := 1) (by omega); have x2 := hx6.box.cell (i := 2) (by omega)
          have x0' := hx5.box.cell (i := 0) (by omega); have x1' := hx5.box.cell (i := 1) (by omega); have x2' := hx5.box.cell (i := 2) (by omega); have xlt := hx5.box.lt
          have y0' := hkty.box.cell (i := 0) (by omega); have y1' := hkty.box.cell (i := 1) (by omega); have y2' := hkty.box.cell (i := 2) (by omega)
          simp only [row3] at x0 x1 x2 x0' x1' x2' y0' y1' y2'
          have HY := hide hkty; have HW5 := hide hW5
          have hd8 : decide ((800 : Int) < (T.size : Int)) = false := by simp; omega
          clear hr5 hb5 h5 hx5 hx6 hkty hW5 hy HR
          go_wp2_with fail
          try rw [unhide HW5]
          refine (unhide HTT).mono ?_
          rintro e w7 ⟨rfl, hb7⟩
          have HB := hide ((unhide HY).on hb7).below
          clear hb7 HTT HY
          go_wp2_with fail
          go_meet
          exact unhide HB
        · have hz := unhide HF2 (by omega)
          subst hz
          have he : (ByteArray.mk #[]).toList.isEmpty = true := by unfold ByteArray.toList ByteArray.toList.loop; rfl
          rw [he]
          clear hq HF1 HF2
          go_wp2_with fail
          go_meet
          exact (unhide HKT6).below
      case rest =>
        have HBC := hcut
        clear HKT6 HF1 HF2
        have HC := hide (unhide HDR wc (unhide HBC))
        go_wp2_with fail
        refine (unhide HC).mono ?_
        rintro e w4 ⟨s, rfl, hs4, hb4⟩
        have hb04 := (unhide HBC).trans (hb4.mono (unhide HBC).size)
        have hsp := specKindRead_any w4 s hs4
        rw [← same_kread] at hsp
        have him := fun W (hW : Below w.heap.size w W) => implKindRead_any W s hs4 (unhide HT W hW)
        have hbk : ∀ k2, progK s.data.toList = some k2 → 0 < qT k2 1 ∧ kWr k2 = s ∧ wKd k2 ≤ 1048576 := fun k2 h => back_facts h
        generalize progK s.data.toList = o at *
        have HSP := hide hsp; have HIM := hide him; have HB04 := hide hb04; have HBK := hide hbk
        clear HC hb4 hb04 hsp him hbk HBC HDR
        go_wp2_with fail
        refine (unhide HSP).mono ?_
        intro e w5 h5
        obtain ⟨y0, ap, np, cp, aq, nq, cq, rfl, hy, hr5, hb5⟩ := h5.form
        have hktx := KT.start ((unhide HB04).trans (hb5.mono (unhide HB04).size)) hr5
        obtain ⟨W5, hW5⟩ : ∃ W5, w5.alloc (.cells #[.int .i64 y0, .slice ap np cp, .slice aq nq cq] 26) = W5 := ⟨_, rfl⟩
        rw [hW5] at hktx
        have HC := hide (unhide HIM W5 hktx.below)
        have HX := hide hktx; have HW5 := hide hW5
        clear hr5 hb5 h5 hktx hW5 HSP hy
        go_wp2_with fail
        rw [unhide HW5]
        refine (unhide HC).mono ?_
        intro e w6 h6
        obtain ⟨z0, bp, mp, dp, bq, mq, dq, rfl, hz, hr6, hb6⟩ := h6.form
        have hx6 := (unhide HX).on hb6
        have hkty := KT.start hx6.below hr6
        obtain ⟨W6, hW6⟩ : ∃ W6, w6.alloc (.cells #[.int .i64 z0, .slice bp mp dp, .slice bq mq dq] 26) = W6 := ⟨_, rfl⟩
        rw [hW6] at hkty
        have hx7 := hx6.on (show Below w6.heap.size w6 W6 by rw [← hW6]; exact (Below.refl _ _).alloc (Nat.le_refl _) _)
        have HTT := hide (ttKind_any (kOf o) (fun x => x < w5.heap.size) (fun x => x < w6.heap.size) ⟨.int .i64 y0, .slice ap np cp, .slice aq nq cq⟩ ⟨.int .i64 z0, .slice bp mp dp, .slice bq mq dq⟩ W6 (fun x hx => Nat.lt_trans hx hx7.box.lt) (fun x hx => Nat.lt_trans hx hkty.box.lt) hx7.rep hkty.rep)
        have x0 := hx7.box.cell (i := 0) (by omega); have x1 := hx7.box.cell (i := 1) (by omega); have x2 := hx7.box.cell (i := 2) (by omega)
        have x0' := hx6.box.cell (i := 0) (by omega); have x1' := hx6.box.cell (i := 1) (by omega); have x2' := hx6.box.cell (i := 2) (by omega); have xlt := hx6.box.lt
        have y0' := hkty.box.cell (i := 0) (by omega); have y1' := hkty.box.cell (i := 1) (by omega); have y2' := hkty.box.cell (i := 2) (by omega)
        simp only [row3] at x0 x1 x2 x0' x1' x2' y0' y1' y2'
        have HY := hide hkty; have HW6 := hide hW6; have HZ := hide hz
        clear HC hr6 hb6 h6 hx6 hx7 hkty hW6 hz HX HW5
        cases o with
        | none =>
          go_wp2_with fail
          try rw [unhide HW6]
          refine (unhide HTT).mono ?_
          rintro e w7 ⟨rfl, hb7⟩
          have hy7 := (unhide HY).on hb7
          have q0 := hy7.box.cell (i := 0) (by omega)
          have hz0 : z0 = 0 := unhide HZ
          subst hz0
          simp only [row3] at q0
          have HB := hide hy7.below
          clear hy7 hb7 HTT HY
          go_wp2_with fail
          go_ret
          exact ⟨rfl, unhide HB⟩
        | some k2 =>
          obtain ⟨hq2, hkw2, hw2⟩ := unhide HBK k2 rfl
          go_wp2_with fail
          try rw [unhide HW6]
          refine (unhide HTT).mono ?_
          rintro e w7 ⟨rfl, hb7⟩
          have hy7 := (unhide HY).on hb7
          have q0 := hy7.box.cell (i := 0) (by omega); have q1 := hy7.box.cell (i := 1) (by omega); have q2 := hy7.box.cell (i := 2) (by omega)
          simp only [row3] at q0 q1 q2
          have hok := implKindOk_any k2 (fun x => x < w6.heap.size) ⟨.int .i64 z0, .slice bp mp dp, .slice bq mq dq⟩ w7 (fun x hx => Nat.lt_trans hx hy7.box.lt) hy7.rep hw2
          rw [decide_eq_true hq2] at hok
          have HOK := hide hok; have HY7 := hide hy7
          clear hok hy7 hb7 HTT HY
          go_wp2_with fail
          refine (unhide HOK).mono ?_
          rintro e w8 ⟨rfl, hb8⟩
          have hy8 := (unhide HY7).on hb8
          have q0 := hy8.box.cell (i := 0) (by omega); have q1 := hy8.box.cell (i := 1) (by omega); have q2 := hy8.box.cell (i := 2) (by omega)
          simp only [row3] at q0 q1 q2
          have hkw := implKindWrite_any k2 (fun x => x < w6.heap.size) ⟨.int .i64 z0, .slice bp mp dp, .slice bq mq dq⟩ w8 (fun x hx => Nat.lt_trans hx hy8.box.lt) hy8.rep hw2 (unhide HT w8 hy8.below)
          rw [hkw2] at hkw
          have HKW := hide hkw; have HY8 := hide hy8
          clear hkw hy8 hb8 HOK HY7
          go_wp2_with fail
          refine (unhide HKW).mono ?_
          rintro e w9 ⟨rfl, hb9⟩
          have HB := hide ((unhide HY8).on hb9).below
          clear HKW HY8 hb9
          go_wp2_with fail
          go_ret
          exact ⟨by simp, unhide HB⟩
  · have hd : decide ((1048576 : Int) < (l.length : Int)) = true := by simp; omega
    go_enter Tryd.func3, Tryd.ntmps3
    go_wp2_with fail
    go_ret
    exact ⟨rfl, Below.refl _ _⟩
end Go.Proofs.YthkjhmcbmakkdaaDoor

/- What is read of a row of bytes that comes in is one that lies in memory. No conditions. -/

namespace Go.Proofs.YthkjhmcbmakkdaaDoor
open Go Go.RowKit Go.ChangeShapes Go.WideShapes Go.ChangeAt

theorem cellsU8 : Tryd.prog.cellsOf 5 = 1 := by kernel_rfl

section
variable {H : Type} {enc : TypeId × Value → H} {W : World} {spare : Nat → Bool} {held : Bool}

theorem bytes_cap {fuel : Nat} {a : Option Addr} {len cap : Nat} {x : DataW H × List MemPlace} (h : DataW.trod enc Tryd.prog W 0 spare held fuel 22 [.slice a len cap] = some x) : len ≤ cap := by
  rcases open_ints Tryd.underlying22 Tryd.underlying5 cellsU8 h with ⟨hcs, -⟩ | ⟨a', len', cap', zs, hcs, -, hl, -⟩
  · simp only [List.cons.injEq, Value.slice.injEq, and_true] at hcs
    omega
  · simp only [List.cons.injEq, Value.slice.injEq, and_true] at hcs
    omega
theorem bytes_of_trod {fuel : Nat} {v : Value} {x : DataW H × List MemPlace} (h : DataW.trod enc Tryd.prog W 0 spare held fuel 22 [v] = some x) :
    ∃ l, BytesAt W v l := by
  rcases open_ints Tryd.underlying22 Tryd.underlying5 cellsU8 h with ⟨hcs, -⟩ | ⟨a, len, cap, zs, hcs, -, hl, hm, hz, -, hcell, hws⟩
  · simp only [List.cons.injEq, and_true] at hcs
    exact ⟨[], none, 0, hcs, by simp, fun i hi => by simp at hi⟩
  · simp only [List.cons.injEq, and_true] at hcs
    have hle : len ≤ zs.length := by rw [hz]; split <;> omega
    unfold maxLen at hm
    have hlen : ((zs.take len).map (fun z => UInt8.ofNat z.toNat)).length = len := by simp; omega
    refine ⟨(zs.take len).map (fun z => UInt8.ofNat z.toNat), some a, cap, by rw [hcs, hlen], by rw [hlen]; omega, fun i hi => ?_⟩
    have hi' : i < len := by rw [hlen] at hi; exact hi
    obtain ⟨b, off, spot⟩ := a
    have hspot : spot = none := by simpa [Addr.add] using World.cell?_spot (hcell 0 (by omega))
    subst hspot
    have hc := hcell i (by omega)
    rw [Addr.add_lit] at hc
    refine ⟨b, off, rfl, World.block_lt_of_cell? W _ hc, ?_⟩
    have hb := bounds_u8 (hws (zs[i]'(by omega)) (List.getElem_mem (by omega)))
    rw [hc]
    have e1 : zs.getD i 0 = zs[i]'(by omega) := by simp [show i < zs.length by omega]
    have e2 : (((zs.take len).map (fun z => UInt8.ofNat z.toNat))[i]'hi) = UInt8.ofNat (zs[i]'(by omega)).toNat := by simp
    rw [e1, e2, show (UInt8.ofNat (zs[i]'(by omega)).toNat).toNat = (zs[i]'(by omega)).toNat from by simp; omega, show (((zs[i]'(by omega)).toNat : Nat) : Int) = zs[i]'(by omega) from by omega]
end
end Go.Proofs.YthkjhmcbmakkdaaDoor

/- What is read of a list of strings that comes in is one that lies in memory. No conditions. -/

namespace Go.Proofs.YthkjhmcbmakkdaaDoor
open Go Go.RowKit Go.ChangeShapes Go.WideShapes Go.ChangeAt Go.Deep

theorem cellsStr : Tryd.prog.cellsOf 9 = 1 := by kernel_rfl

section
variable {H : Type} {enc : TypeId × Value → H} {W : World} {spare : Nat → Bool} {held : Bool}

theorem strs_of_trod {fuel : Nat} {v : Value} {x : DataW H × List MemPlace} (h : DataW.trod enc Tryd.prog W 0 spare held fuel 23 [v] = some x) :
    ∃ ss, StrsAt (fun b => b < W.heap.size) W v ss := by
  rcases open_strings Tryd.underlying23 Tryd.underlying9 cellsStr h with ⟨hcs, -⟩ | ⟨a, len, cap, ss, hcs, -, hl, hm, hz, -, hcell, hws⟩
  · simp only [List.cons.injEq, and_true] at hcs
    exact ⟨[], none, 0, hcs, by simp, fun i hi => by simp at hi⟩
  · simp only [List.cons.injEq, and_true] at hcs
    have hle : len ≤ ss.length := by rw [hz]; split <;> omega
    unfold maxLen at hm
    refine ⟨ss.take len, some a, cap, by rw [hcs]; simp; omega, by simp; omega, fun i hi => ?_⟩
    have hi' : i < len := by simp at hi; omega
    obtain ⟨b, off, spot⟩ := a
    have hspot : spot = none := by simpa [Addr.add] using World.cell?_spot (hcell 0 (by omega))
    subst hspot
    have hc := hcell i (by omega)
    rw [Addr.add_lit] at hc
    refine ⟨b, off, rfl, World.block_lt_of_cell? W _ hc, ?_, ?_⟩
    · rw [hc]; simp [show i < ss.length by omega]
    · have := hws ss[i] (List.getElem_mem (by omega)); unfold maxLen at this; simpa using this
end
end Go.Proofs.YthkjhmcbmakkdaaDoor
