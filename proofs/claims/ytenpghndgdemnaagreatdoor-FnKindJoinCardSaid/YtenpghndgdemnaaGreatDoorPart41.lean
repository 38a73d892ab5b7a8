/- The walk of the law FnKindJoin: whatever bytes come in, it answers true, and turns nothing that was there. The library's errors.errorType is as the program's text lays it. -/
import Derived.Test.YtenpghndgdemnaaGreatDoorPart12
import Derived.Test.YtenpghndgdemnaaGreatDoorPart35
import Derived.Test.YtenpghndgdemnaaGreatDoorPart40
import Derived.Test.YtenpghndgdemnaaGreatDoorPart23
import Derived.Test.YtenpghndgdemnaaGreatDoorPart33
import Derived.Deep.CutRange
namespace Go.Proofs.YtenpghndgdemnaaGreatDoor
open Go Go.RowKit

set_option maxRecDepth 100000 in
set_option maxHeartbeats 12800000 in
theorem lawKindJoinP_any (w : World) (a : Option Addr) (cap : Nat) (l : List UInt8) (hv : BytesAt w (.slice a l.length cap) l) (hcap : l.length ≤ cap) (b : Option Addr) (bap : Nat) (r : List UInt8) (hvr : BytesAt w (.slice b r.length bap) r) (hbap : r.length ≤ bap) (hE : ErrT w) :
    Calls Tryz.prog 3 #[.slice a l.length cap, .slice b r.length bap] w fun e w' => e = .returned (.bool true) ∧ Below w.heap.size w w' := by
  have hlen : l.length ≤ 9223372036854775807 := by obtain ⟨_, _, _, h, _⟩ := hv; exact h
  have hlenr : r.length ≤ 9223372036854775807 := by obtain ⟨_, _, _, h, _⟩ := hvr; exact h
  by_cases hs : l.length ≤ 1048576
  · have hd : decide ((1048576 : Int) < (l.length : Int)) = false := by simp; omega
    by_cases hsr : r.length ≤ 1048576
    · have hdr : decide ((1048576 : Int) < (r.length : Int)) = false := by simp; omega
      have HDW := hide (drawKindJoin_any w a cap l hv hcap)
      have HVR := hide (fun W (hW : Below w.heap.size w W) => hvr.on hW)
      have HBP := hide hbap
      have HE := hide (fun W (hW : Below w.heap.size w W) => hE.on hW)
      clear hv hE hvr hbap
      go_enter Tryz.func3, Tryz.ntmps3
      go_wp2_with fail
      clear hd hs hlen hlenr hdr hsr
      refine (unhide HDW).mono ?_
      rintro e w1 ⟨k, m, ⟨c0, c1, c2⟩, ⟨d0, d1, d2⟩, rfl, hk1, hm1, hwk, hwm, hb1⟩
      obtain ⟨a1, aap1, a2, aap2, g0⟩ := kform8 hk1
      simp only [C3.mk.injEq] at g0
      obtain ⟨rfl, rfl, rfl⟩ := g0
      obtain ⟨b1, bap1, b2, bap2, g0⟩ := kform8 hm1
      simp only [C3.mk.injEq] at g0
      obtain ⟨rfl, rfl, rfl⟩ := g0
      have hn1 : Below w1.heap.size w1 (w1.alloc (.cells #[.int .i64 k.sort, .slice a1 k.names.length aap1, .slice a2 k.kids.length aap2] 26)) := (Below.refl _ _).alloc (Nat.le_refl _) _
      have hn2 : Below (w1.heap.size + 1) (w1.alloc (.cells #[.int .i64 k.sort, .slice a1 k.names.length aap1, .slice a2 k.kids.length aap2] 26)) ((w1.alloc (.cells #[.int .i64 k.sort, .slice a1 k.names.length aap1, .slice a2 k.kids.length aap2] 26)).alloc (.cells #[.int .i64 m.sort, .slice b1 m.names.length bap1, .slice b2 m.kids.length bap2] 26)) := by
        have := (Below.refl (w1.alloc (.cells #[.int .i64 k.sort, .slice a1 k.names.length aap1, .slice a2 k.kids.length aap2] 26)).heap.size (w1.alloc (.cells #[.int .i64 k.sort, .slice a1 k.names.length aap1, .slice a2 k.kids.length aap2] 26))).alloc (Nat.le_refl _) (.cells #[.int .i64 m.sort, .slice b1 m.names.length bap1, .slice b2 m.kids.length bap2] 26)
        rw [World.size_alloc] at this
        exact this
      have hkb := (KT8.start hb1 hk1).on (w' := (w1.alloc (.cells #[.int .i64 k.sort, .slice a1 k.names.length aap1, .slice a2 k.kids.length aap2] 26)).alloc (.cells #[.int .i64 m.sort, .slice b1 m.names.length bap1, .slice b2 m.kids.length bap2] 26)) (by rw [World.size_alloc]; exact hn2)
      have hmb := KT8.start (hb1.alloc hb1.size (.cells #[.int .i64 k.sort, .slice a1 k.names.length aap1, .slice a2 k.kids.length aap2] 26)) (KRep.carry (w' := w1.alloc (.cells #[.int .i64 k.sort, .slice a1 k.names.length aap1, .slice a2 k.kids.length aap2] 26)) (Q := fun y => y < (w1.alloc (.cells #[.int .i64 k.sort, .slice a1 k.names.length aap1, .slice a2 k.kids.length aap2] 26)).heap.size) (fun y hy => hn1.block y hy) (fun y hy => Nat.lt_of_lt_of_le hy hn1.size) _ _ hm1)
      rw [World.size_alloc] at hmb
      obtain ⟨W1, hW1⟩ : ∃ W1, (w1.alloc (.cells #[.int .i64 k.sort, .slice a1 k.names.length aap1, .slice a2 k.kids.length aap2] 26)).alloc (.cells #[.int .i64 m.sort, .slice b1 m.names.length bap1, .slice b2 m.kids.length bap2] 26) = W1 := ⟨_, rfl⟩
      rw [hW1] at hkb hmb
      have HKB := hide hkb; have HMB := hide hmb; have HW1 := hide hW1
      have HWK := hide (Nat.le_trans hwk (show 200000 ≤ 1048576 by decide)); have HWM := hide (Nat.le_trans hwm (show 200000 ≤ 1048576 by decide))
      clear HDW hk1 hm1 hb1 hn1 hn2 hkb hmb hW1 hwk hwm
      go_wp2_with fail
      rw [unhide HW1]
      clear HW1
      cases ho : joinD k m with
      | none =>
        obtain ⟨n, hn0⟩ : ∃ n, kd0 = n := ⟨_, rfl⟩
        have hns : (n.sort == 0) = true := by rw [← hn0]; rfl
        have HNO := hide (fun y (h : fitsD k y = true) => p8_none ho h)
        have hjs : ∀ (W : World) (c d : C3) (hk : KT8 w W k c w1.heap.size) (hm : KT8 w W m d (w1.heap.size + 1)), Calls Tryz.prog 6 #[.agg #[c.c0, c.c1, c.c2], .agg #[d.c0, d.c1, d.c2]] W fun e w' => ∃ d' : C3, e = .returned (.tuple #[.agg #[d'.c0, d'.c1, d'.c2], .bool false]) ∧ KRep (fun x => x < w'.heap.size) w' n d' ∧ Below W.heap.size W w' := fun W c d hk hm => (specKindJoin_any k m _ _ c d W hk.in hm.in hk.rep hm.rep).mono (by
          rintro e w' ⟨d', he, hr, hb⟩
          rw [ho] at he hr
          replace hr : KRep (New W w') w' kd0 d' := hr
          rw [hn0] at hr
          exact ⟨d', he, KRep.carry (fun _ _ => rfl) (fun _ h => h.2) _ _ hr, hb⟩)
        have hji : ∀ (W : World) (c d : C3) (hk : KT8 w W k c w1.heap.size) (hm : KT8 w W m d (w1.heap.size + 1)), Calls Tryz.prog 7 #[.agg #[c.c0, c.c1, c.c2], .agg #[d.c0, d.c1, d.c2]] W fun e w' => ∃ d' : C3, e = .returned (.tuple #[.agg #[d'.c0, d'.c1, d'.c2], .bool false]) ∧ KRep (fun x => x < w'.heap.size) w' n d' ∧ Below W.heap.size W w' := fun W c d hk hm => (implKindJoin_any k m _ _ c d W (unhide HE W hk.below) hk.in hm.in hk.rep hm.rep (unhide HWK) (unhide HWM)).mono (by
          rintro e w' ⟨d', F, he, hr, -, hF, hb⟩
          rw [ho] at he hr
          replace hr : OwnD w' kd0 d' F := hr
          rw [hn0] at hr
          exact ⟨d', he, OwnD.rep _ _ F (fun x hx => (hF x hx).2) hr, hb⟩)
        have hjr : ∀ (W : World) (c d : C3) (hk : KT8 w W k c w1.heap.size) (hm : KT8 w W m d (w1.heap.size + 1)), Calls Tryz.prog 7 #[.agg #[d.c0, d.c1, d.c2], .agg #[c.c0, c.c1, c.c2]] W fun e w' => ∃ d' : C3, e = .returned (.tuple #[.agg #[d'.c0, d'.c1, d'.c2], .bool false]) ∧ KRep (fun x => x < w'.heap.size) w' n d' ∧ Below W.heap.size W w' := fun W c d hk hm => (implKindJoin_any m k _ _ d c W (unhide HE W hk.below) hm.in hk.in hm.rep hk.rep (unhide HWM) (unhide HWK)).mono (by
          rintro e w' ⟨d', F, he, hr, -, hF, hb⟩
          rw [joinD_comm, ho] at he hr
          replace hr : OwnD w' kd0 d' F := hr
          rw [hn0] at hr
          exact ⟨d', he, OwnD.rep _ _ F (fun x hx => (hF x hx).2) hr, hb⟩)
        have HJS := hide hjs; have HJI := hide hji; have HJR := hide hjr
        clear hjs hji hjr ho hn0
        refine ((unhide HJS) W1 ⟨.int .i64 k.sort, .slice a1 k.names.length aap1, .slice a2 k.kids.length aap2⟩ ⟨.int .i64 m.sort, .slice b1 m.names.length bap1, .slice b2 m.kids.length bap2⟩ (unhide HKB) (unhide HMB)).mono ?_
        rintro e w2 ⟨⟨p0, p1, p2⟩, rfl, hn2, hb2⟩
        have hn2 : KRep (fun y => y < w2.heap.size) w2 n ⟨p0, p1, p2⟩ := hn2
        obtain ⟨p1, pap1, p2, pap2, g0⟩ := kform8 hn2
        simp only [C3.mk.injEq] at g0
        obtain ⟨rfl, rfl, rfl⟩ := g0
        replace HKB := hide ((unhide HKB).on hb2)
        replace HMB := hide ((unhide HMB).on hb2)
        obtain ⟨kc0, kc1, kc2⟩ := (unhide HKB).cells
        simp only at kc0 kc1 kc2
        have kl := (unhide HKB).box.lt
        obtain ⟨mc0, mc1, mc2⟩ := (unhide HMB).cells
        simp only at mc0 mc1 mc2
        have ml := (unhide HMB).box.lt
        have hbx := KT8.start (unhide HKB).below hn2
        have hba := (Below.refl w2.heap.size w2).alloc (Nat.le_refl _) (.cells #[.int .i64 n.sort, .slice p1 n.names.length pap1, .slice p2 n.kids.length pap2] 26)
        obtain ⟨W2, hWq⟩ : ∃ W2, w2.alloc (.cells #[.int .i64 n.sort, .slice p1 n.names.length pap1, .slice p2 n.kids.length pap2] 26) = W2 := ⟨_, rfl⟩
        rw [hWq] at hbx hba
        replace HKB := hide ((unhide HKB).on hba)
        replace HMB := hide ((unhide HMB).on hba)
        have HNB := hide hbx; have HWQ := hide hWq
        clear hn2 hb2 hbx hba hWq
        go_wp2_with fail
        rw [unhide HWQ]
        clear HWQ
        clear kc0 kc1 kc2 kl mc0 mc1 mc2 ml
        clear HJS
        refine ((unhide HJI) W2 ⟨.int .i64 k.sort, .slice a1 k.names.length aap1, .slice a2 k.kids.length aap2⟩ ⟨.int .i64 m.sort, .slice b1 m.names.length bap1, .slice b2 m.kids.length bap2⟩ (unhide HKB) (unhide HMB)).mono ?_
        rintro e w3 ⟨⟨q0, q1, q2⟩, rfl, hn2, hb2⟩
        have hn2 : KRep (fun y => y < w3.heap.size) w3 n ⟨q0, q1, q2⟩ := hn2
        obtain ⟨q1, qap1, q2, qap2, g0⟩ := kform8 hn2
        simp only [C3.mk.injEq] at g0
        obtain ⟨rfl, rfl, rfl⟩ := g0
        replace HKB := hide ((unhide HKB).on hb2)
        replace HMB := hide ((unhide HMB).on hb2)
        replace HNB := hide ((unhide HNB).on hb2)
        obtain ⟨nc0, nc1, nc2⟩ := (unhide HNB).cells
        simp only at nc0 nc1 nc2
        have nl := (unhide HNB).box.lt
        have hbx := KT8.start (unhide HKB).below hn2
        have hba := (Below.refl w3.heap.size w3).alloc (Nat.le_refl _) (.cells #[.int .i64 n.sort, .slice q1 n.names.length qap1, .slice q2 n.kids.length qap2] 26)
        obtain ⟨W3, hWq⟩ : ∃ W3, w3.alloc (.cells #[.int .i64 n.sort, .slice q1 n.names.length qap1, .slice q2 n.kids.length qap2] 26) = W3 := ⟨_, rfl⟩
        rw [hWq] at hbx hba
        replace HKB := hide ((unhide HKB).on hba)
        replace HMB := hide ((unhide HMB).on hba)
        replace HNB := hide ((unhide HNB).on hba)
        have HGB := hide hbx; have HWQ := hide hWq
        clear hn2 hb2 hbx hba hWq
        go_wp2_with fail
        rw [unhide HWQ]
        clear HWQ
        clear nc0 nc1 nc2 nl
        clear HJI
        refine (ttKind_any n _ _ ⟨.int .i64 n.sort, .slice q1 n.names.length qap1, .slice q2 n.kids.length qap2⟩ ⟨.int .i64 n.sort, .slice p1 n.names.length pap1, .slice p2 n.kids.length pap2⟩ W3 (unhide HGB).in (unhide HNB).in (unhide HGB).rep (unhide HNB).rep).mono ?_
        rintro e w4 ⟨rfl, hb2⟩
        replace HKB := hide ((unhide HKB).on hb2)
        replace HMB := hide ((unhide HMB).on hb2)
        replace HNB := hide ((unhide HNB).on hb2)
        replace HGB := hide ((unhide HGB).on hb2)
        clear hb2
        obtain ⟨kc0, kc1, kc2⟩ := (unhide HKB).cells
        simp only at kc0 kc1 kc2
        have kl := (unhide HKB).box.lt
        obtain ⟨mc0, mc1, mc2⟩ := (unhide HMB).cells
        simp only at mc0 mc1 mc2
        have ml := (unhide HMB).box.lt
        go_wp2_with fail
        clear kc0 kc1 kc2 kl mc0 mc1 mc2 ml
        refine ((unhide HJR) w4 ⟨.int .i64 k.sort, .slice a1 k.names.length aap1, .slice a2 k.kids.length aap2⟩ ⟨.int .i64 m.sort, .slice b1 m.names.length bap1, .slice b2 m.kids.length bap2⟩ (unhide HKB) (unhide HMB)).mono ?_
        rintro e w5 ⟨⟨s0, s1, s2⟩, rfl, hn2, hb2⟩
        have hn2 : KRep (fun y => y < w5.heap.size) w5 n ⟨s0, s1, s2⟩ := hn2
        obtain ⟨s1, sap1, s2, sap2, g0⟩ := kform8 hn2
        simp only [C3.mk.injEq] at g0
        obtain ⟨rfl, rfl, rfl⟩ := g0
        replace HKB := hide ((unhide HKB).on hb2)
        replace HMB := hide ((unhide HMB).on hb2)
        replace HNB := hide ((unhide HNB).on hb2)
        replace HGB := hide ((unhide HGB).on hb2)
        obtain ⟨gc0, gc1, gc2⟩ := (unhide HGB).cells
        simp only at gc0 gc1 gc2
        have gl := (unhide HGB).box.lt
        have hbx := KT8.start (unhide HKB).below hn2
        have hba := (Below.refl w5.heap.size w5).alloc (Nat.le_refl _) (.cells #[.int .i64 n.sort, .slice s1 n.names.length sap1, .slice s2 n.kids.length sap2] 26)
        obtain ⟨W5, hWq⟩ : ∃ W5, w5.alloc (.cells #[.int .i64 n.sort, .slice s1 n.names.length sap1, .slice s2 n.kids.length sap2] 26) = W5 := ⟨_, rfl⟩
        rw [hWq] at hbx hba
        replace HKB := hide ((unhide HKB).on hba)
        replace HMB := hide ((unhide HMB).on hba)
        replace HNB := hide ((unhide HNB).on hba)
        replace HGB := hide ((unhide HGB).on hba)
        have HOB := hide hbx; have HWQ := hide hWq
        clear hn2 hb2 hbx hba hWq
        go_wp2_with fail
        rw [unhide HWQ]
        clear HWQ
        clear gc0 gc1 gc2 gl
        clear HJR
        refine (ttKind_any n _ _ ⟨.int .i64 n.sort, .slice s1 n.names.length sap1, .slice s2 n.kids.length sap2⟩ ⟨.int .i64 n.sort, .slice q1 n.names.length qap1, .slice q2 n.kids.length qap2⟩ W5 (unhide HOB).in (unhide HGB).in (unhide HOB).rep (unhide HGB).rep).mono ?_
        rintro e w6 ⟨rfl, hb2⟩
        replace HKB := hide ((unhide HKB).on hb2)
        replace HMB := hide ((unhide HMB).on hb2)
        replace HNB := hide ((unhide HNB).on hb2)
        replace HGB := hide ((unhide HGB).on hb2)
        replace HOB := hide ((unhide HOB).on hb2)
        clear hb2
        obtain ⟨kc0, kc1, kc2⟩ := (unhide HKB).cells
        simp only at kc0 kc1 kc2
        have kl := (unhide HKB).box.lt
        go_wp2_with fail
        clear kc0 kc1 kc2 kl
        refine (drawKindWay_any w6 _ k ⟨.int .i64 k.sort, .slice a1 k.names.length aap1, .slice a2 k.kids.length aap2⟩ (unhide HKB).in (unhide HKB).rep b bap r (unhide HVR w6 (unhide HKB).below) (unhide HBP)).mono ?_
        rintro e w7 ⟨y, ⟨t0, t1, t2⟩, rfl, hn, hwn, hb2⟩
        have hn2 : KRep (fun y => y < w7.heap.size) w7 y ⟨t0, t1, t2⟩ := KRep.carry (fun _ _ => rfl) (fun x hx => hx.elim (fun h => Nat.lt_of_lt_of_le ((unhide HKB).in x h) hb2.size) (fun h => h.2)) _ _ hn
        obtain ⟨t1, tap1, t2, tap2, g0⟩ := kform8 hn2
        simp only [C3.mk.injEq] at g0
        obtain ⟨rfl, rfl, rfl⟩ := g0
        replace HKB := hide ((unhide HKB).on hb2)
        replace HMB := hide ((unhide HMB).on hb2)
        replace HNB := hide ((unhide HNB).on hb2)
        replace HGB := hide ((unhide HGB).on hb2)
        replace HOB := hide ((unhide HOB).on hb2)
        obtain ⟨kc0, kc1, kc2⟩ := (unhide HKB).cells
        simp only at kc0 kc1 kc2
        have kl := (unhide HKB).box.lt
        have hbx := KT8.start (unhide HKB).below hn2
        have hba := (Below.refl w7.heap.size w7).alloc (Nat.le_refl _) (.cells #[.int .i64 y.sort, .slice t1 y.names.length tap1, .slice t2 y.kids.length tap2] 26)
        obtain ⟨W7, hWq⟩ : ∃ W7, w7.alloc (.cells #[.int .i64 y.sort, .slice t1 y.names.length tap1, .slice t2 y.kids.length tap2] 26) = W7 := ⟨_, rfl⟩
        rw [hWq] at hbx hba
        replace HKB := hide ((unhide HKB).on hba)
        replace HMB := hide ((unhide HMB).on hba)
        replace HNB := hide ((unhide HNB).on hba)
        replace HGB := hide ((unhide HGB).on hba)
        replace HOB := hide ((unhide HOB).on hba)
        have HYB := hide hbx; have HWQ := hide hWq
        clear hn2 hb2 hbx hba hWq
        go_wp2_with fail
        rw [unhide HWQ]
        clear HWQ
        clear kc0 kc1 kc2 kl
        clear hn hwn
        cases hf1 : fitsD k y with
        | false =>
          have hq := specKindFits_any k y _ _ ⟨.int .i64 k.sort, .slice a1 k.names.length aap1, .slice a2 k.kids.length aap2⟩ ⟨.int .i64 y.sort, .slice t1 y.names.length tap1, .slice t2 y.kids.length tap2⟩ W7 (unhide HKB).in (unhide HYB).in (unhide HKB).rep (unhide HYB).rep
          rw [hf1] at hq
          have HQ := hide hq
          clear hq hf1
          refine (unhide HQ).mono ?_
          rintro e w8 ⟨rfl, hb2⟩
          replace HKB := hide ((unhide HKB).on hb2)
          replace HMB := hide ((unhide HMB).on hb2)
          replace HNB := hide ((unhide HNB).on hb2)
          replace HGB := hide ((unhide HGB).on hb2)
          replace HOB := hide ((unhide HOB).on hb2)
          replace HYB := hide ((unhide HYB).on hb2)
          clear hb2
          obtain ⟨gc0, gc1, gc2⟩ := (unhide HGB).cells
          simp only at gc0 gc1 gc2
          have gl := (unhide HGB).box.lt
          go_wp2_with fail
          clear gc0 gc1 gc2 gl
          have HB := hide (unhide HKB).below
          go_ret
          exact ⟨rfl, unhide HB⟩
        | true =>
          have hf2 := (unhide HNO) y hf1
          have hq := specKindFits_any k y _ _ ⟨.int .i64 k.sort, .slice a1 k.names.length aap1, .slice a2 k.kids.length aap2⟩ ⟨.int .i64 y.sort, .slice t1 y.names.length tap1, .slice t2 y.kids.length tap2⟩ W7 (unhide HKB).in (unhide HYB).in (unhide HKB).rep (unhide HYB).rep
          rw [hf1] at hq
          have HQ := hide hq
          clear hq hf1
          refine (unhide HQ).mono ?_
          rintro e w8 ⟨rfl, hb2⟩
          replace HKB := hide ((unhide HKB).on hb2)
          replace HMB := hide ((unhide HMB).on hb2)
          replace HNB := hide ((unhide HNB).on hb2)
          replace HGB := hide ((unhide HGB).on hb2)
          replace HOB := hide ((unhide HOB).on hb2)
          replace HYB := hide ((unhide HYB).on hb2)
          clear hb2
          obtain ⟨mc0, mc1, mc2⟩ := (unhide HMB).cells
          simp only at mc0 mc1 mc2
          have ml := (unhide HMB).box.lt
          obtain ⟨yc0, yc1, yc2⟩ := (unhide HYB).cells
          simp only at yc0 yc1 yc2
          have yl := (unhide HYB).box.lt
          go_wp2_with fail
          clear mc0 mc1 mc2 ml yc0 yc1 yc2 yl
          have hq := specKindFits_any m y _ _ ⟨.int .i64 m.sort, .slice b1 m.names.length bap1, .slice b2 m.kids.length bap2⟩ ⟨.int .i64 y.sort, .slice t1 y.names.length tap1, .slice t2 y.kids.length tap2⟩ w8 (unhide HMB).in (unhide HYB).in (unhide HMB).rep (unhide HYB).rep
          rw [hf2] at hq
          have HQ2 := hide hq
          clear hq hf2
          refine (unhide HQ2).mono ?_
          rintro e w9 ⟨rfl, hb2⟩
          replace HKB := hide ((unhide HKB).on hb2)
          replace HMB := hide ((unhide HMB).on hb2)
          replace HNB := hide ((unhide HNB).on hb2)
          replace HGB := hide ((unhide HGB).on hb2)
          replace HOB := hide ((unhide HOB).on hb2)
          replace HYB := hide ((unhide HYB).on hb2)
          clear hb2
          obtain ⟨gc0, gc1, gc2⟩ := (unhide HGB).cells
          simp only at gc0 gc1 gc2
          have gl := (unhide HGB).box.lt
          go_wp2_with fail
          clear gc0 gc1 gc2 gl
          have HB := hide (unhide HKB).below
          go_ret
          exact ⟨rfl, unhide HB⟩
      | some n =>
        have HWN := hide (p8_light ho)
        have HUP := hide (join_up ho)
        have HLE := hide (fun c (h1 : fitsD k c = true) (h2 : fitsD m c = true) => p8_some ho h1 h2)
        have hjs : ∀ (W : World) (c d : C3) (hk : KT8 w W k c w1.heap.size) (hm : KT8 w W m d (w1.heap.size + 1)), Calls Tryz.prog 6 #[.agg #[c.c0, c.c1, c.c2], .agg #[d.c0, d.c1, d.c2]] W fun e w' => ∃ d' : C3, e = .returned (.tuple #[.agg #[d'.c0, d'.c1, d'.c2], .bool true]) ∧ KRep (fun x => x < w'.heap.size) w' n d' ∧ Below W.heap.size W w' := fun W c d hk hm => (specKindJoin_any k m _ _ c d W hk.in hm.in hk.rep hm.rep).mono (by
          rintro e w' ⟨d', he, hr, hb⟩
          rw [ho] at he hr
          exact ⟨d', he, KRep.carry (fun _ _ => rfl) (fun _ h => h.2) _ _ hr, hb⟩)
        have hji : ∀ (W : World) (c d : C3) (hk : KT8 w W k c w1.heap.size) (hm : KT8 w W m d (w1.heap.size + 1)), Calls Tryz.prog 7 #[.agg #[c.c0, c.c1, c.c2], .agg #[d.c0, d.c1, d.c2]] W fun e w' => ∃ d' : C3, e = .returned (.tuple #[.agg #[d'.c0, d'.c1, d'.c2], .bool true]) ∧ KRep (fun x => x < w'.heap.size) w' n d' ∧ Below W.heap.size W w' := fun W c d hk hm => (implKindJoin_any k m _ _ c d W (unhide HE W hk.below) hk.in hm.in hk.rep hm.rep (unhide HWK) (unhide HWM)).mono (by
          rintro e w' ⟨d', F, he, hr, -, hF, hb⟩
          rw [ho] at he hr
          exact ⟨d', he, OwnD.rep _ _ F (fun x hx => (hF x hx).2) hr, hb⟩)
        have hjr : ∀ (W : World) (c d : C3) (hk : KT8 w W k c w1.heap.size) (hm : KT8 w W m d (w1.heap.size + 1)), Calls Tryz.prog 7 #[.agg #[d.c0, d.c1, d.c2], .agg #[c.c0, c.c1, c.c2]] W fun e w' => ∃ d' : C3, e = .returned (.tuple #[.agg #[d'.c0, d'.c1, d'.c2], .bool true]) ∧ KRep (fun x => x < w'.heap.size) w' n d' ∧ Below W.heap.size W w' := fun W c d hk hm => (implKindJoin_any m k _ _ d c W (unhide HE W hk.below) hm.in hk.in hm.rep hk.rep (unhide HWM) (unhide HWK)).mono (by
          rintro e w' ⟨d', F, he, hr, -, hF, hb⟩
          rw [joinD_comm, ho] at he hr
          exact ⟨d', he, OwnD.rep _ _ F (fun x hx => (hF x hx).2) hr, hb⟩)
        have HJS := hide hjs; have HJI := hide hji; have HJR := hide hjr
        clear hjs hji hjr ho
        refine ((unhide HJS) W1 ⟨.int .i64 k.sort, .slice a1 k.names.length aap1, .slice a2 k.kids.length aap2⟩ ⟨.int .i64 m.sort, .slice b1 m.names.length bap1, .slice b2 m.kids.length bap2⟩ (unhide HKB) (unhide HMB)).mono ?_
        rintro e w2 ⟨⟨p0, p1, p2⟩, rfl, hn2, hb2⟩
        have hn2 : KRep (fun y => y < w2.heap.size) w2 n ⟨p0, p1, p2⟩ := hn2
        obtain ⟨p1, pap1, p2, pap2, g0⟩ := kform8 hn2
        simp only [C3.mk.injEq] at g0
        obtain ⟨rfl, rfl, rfl⟩ := g0
        replace HKB := hide ((unhide HKB).on hb2)
        replace HMB := hide ((unhide HMB).on hb2)
        obtain ⟨kc0, kc1, kc2⟩ := (unhide HKB).cells
        simp only at kc0 kc1 kc2
        have kl := (unhide HKB).box.lt
        obtain ⟨mc0, mc1, mc2⟩ := (unhide HMB).cells
        simp only at mc0 mc1 mc2
        have ml := (unhide HMB).box.lt
        have hbx := KT8.start (unhide HKB).below hn2
        have hba := (Below.refl w2.heap.size w2).alloc (Nat.le_refl _) (.cells #[.int .i64 n.sort, .slice p1 n.names.length pap1, .slice p2 n.kids.length pap2] 26)
        obtain ⟨W2, hWq⟩ : ∃ W2, w2.alloc (.cells #[.int .i64 n.sort, .slice p1 n.names.length pap1, .slice p2 n.kids.length pap2] 26) = W2 := ⟨_, rfl⟩
        rw [hWq] at hbx hba
        replace HKB := hide ((unhide HKB).on hba)
        replace HMB := hide ((unhide HMB).on hba)
        have HNB := hide hbx; have HWQ := hide hWq
        clear hn2 hb2 hbx hba hWq
        go_wp2_with fail
        rw [unhide HWQ]
        clear HWQ
        clear kc0 kc1 kc2 kl mc0 mc1 mc2 ml
        clear HJS
        refine ((unhide HJI) W2 ⟨.int .i64 k.sort, .slice a1 k.names.length aap1, .slice a2 k.kids.length aap2⟩ ⟨.int .i64 m.sort, .slice b1 m.names.length bap1, .slice b2 m.kids.length bap2⟩ (unhide HKB) (unhide HMB)).mono ?_
        rintro e w3 ⟨⟨q0, q1, q2⟩, rfl, hn2, hb2⟩
        have hn2 : KRep (fun y => y < w3.heap.size) w3 n ⟨q0, q1, q2⟩ := hn2
        obtain ⟨q1, qap1, q2, qap2, g0⟩ := kform8 hn2
        simp only [C3.mk.injEq] at g0
        obtain ⟨rfl, rfl, rfl⟩ := g0
        replace HKB := hide ((unhide HKB).on hb2)
        replace HMB := hide ((unhide HMB).on hb2)
        replace HNB := hide ((unhide HNB).on hb2)
        obtain ⟨nc0, nc1, nc2⟩ := (unhide HNB).cells
        simp only at nc0 nc1 nc2
        have nl := (unhide HNB).box.lt
        have hbx := KT8.start (unhide HKB).below hn2
        have hba := (Below.refl w3.heap.size w3).alloc (Nat.le_refl _) (.cells #[.int .i64 n.sort, .slice q1 n.names.length qap1, .slice q2 n.kids.length qap2] 26)
        obtain ⟨W3, hWq⟩ : ∃ W3, w3.alloc (.cells #[.int .i64 n.sort, .slice q1 n.names.length qap1, .slice q2 n.kids.length qap2] 26) = W3 := ⟨_, rfl⟩
        rw [hWq] at hbx hba
        replace HKB := hide ((unhide HKB).on hba)
        replace HMB := hide ((unhide HMB).on hba)
        replace HNB := hide ((unhide HNB).on hba)
        have HGB := hide hbx; have HWQ := hide hWq
        clear hn2 hb2 hbx hba hWq
        go_wp2_with fail
        rw [unhide HWQ]
        clear HWQ
        clear nc0 nc1 nc2 nl
        clear HJI
        refine (ttKind_any n _ _ ⟨.int .i64 n.sort, .slice q1 n.names.length qap1, .slice q2 n.kids.length qap2⟩ ⟨.int .i64 n.sort, .slice p1 n.names.length pap1, .slice p2 n.kids.length pap2⟩ W3 (unhide HGB).in (unhide HNB).in (unhide HGB).rep (unhide HNB).rep).mono ?_
        rintro e w4 ⟨rfl, hb2⟩
        replace HKB := hide ((unhide HKB).on hb2)
        replace HMB := hide ((unhide HMB).on hb2)
        replace HNB := hide ((unhide HNB).on hb2)
        replace HGB := hide ((unhide HGB).on hb2)
        clear hb2
        obtain ⟨kc0, kc1, kc2⟩ := (unhide HKB).cells
        simp only at kc0 kc1 kc2
        have kl := (unhide HKB).box.lt
        obtain ⟨mc0, mc1, mc2⟩ := (unhide HMB).cells
        simp only at mc0 mc1 mc2
        have ml := (unhide HMB).box.lt
        go_wp2_with fail
        clear kc0 kc1 kc2 kl mc0 mc1 mc2 ml
        refine ((unhide HJR) w4 ⟨.int .i64 k.sort, .slice a1 k.names.length aap1, .slice a2 k.kids.length aap2⟩ ⟨.int .i64 m.sort, .slice b1 m.names.length bap1, .slice b2 m.kids.length bap2⟩ (unhide HKB) (unhide HMB)).mono ?_
        rintro e w5 ⟨⟨s0, s1, s2⟩, rfl, hn2, hb2⟩
        have hn2 : KRep (fun y => y < w5.heap.size) w5 n ⟨s0, s1, s2⟩ := hn2
        obtain ⟨s1, sap1, s2, sap2, g0⟩ := kform8 hn2
        simp only [C3.mk.injEq] at g0
        obtain ⟨rfl, rfl, rfl⟩ := g0
        replace HKB := hide ((unhide HKB).on hb2)
        replace HMB := hide ((unhide HMB).on hb2)
        replace HNB := hide ((unhide HNB).on hb2)
        replace HGB := hide ((unhide HGB).on hb2)
        obtain ⟨gc0, gc1, gc2⟩ := (unhide HGB).cells
        simp only at gc0 gc1 gc2
        have gl := (unhide HGB).box.lt
        have hbx := KT8.start (unhide HKB).below hn2
        have hba := (Below.refl w5.heap.size w5).alloc (Nat.le_refl _) (.cells #[.int .i64 n.sort, .slice s1 n.names.length sap1, .slice s2 n.kids.length sap2] 26)
        obtain ⟨W5, hWq⟩ : ∃ W5, w5.alloc (.cells #[.int .i64 n.sort, .slice s1 n.names.length sap1, .slice s2 n.kids.length sap2] 26) = W5 := ⟨_, rfl⟩
        rw [hWq] at hbx hba
        replace HKB := hide ((unhide HKB).on hba)
        replace HMB := hide ((unhide HMB).on hba)
        replace HNB := hide ((unhide HNB).on hba)
        replace HGB := hide ((unhide HGB).on hba)
        have HOB := hide hbx; have HWQ := hide hWq
        clear hn2 hb2 hbx hba hWq
        go_wp2_with fail
        rw [unhide HWQ]
        clear HWQ
        clear gc0 gc1 gc2 gl
        clear HJR
        refine (ttKind_any n _ _ ⟨.int .i64 n.sort, .slice s1 n.names.length sap1, .slice s2 n.kids.length sap2⟩ ⟨.int .i64 n.sort, .slice q1 n.names.length qap1, .slice q2 n.kids.length qap2⟩ W5 (unhide HOB).in (unhide HGB).in (unhide HOB).rep (unhide HGB).rep).mono ?_
        rintro e w6 ⟨rfl, hb2⟩
        replace HKB := hide ((unhide HKB).on hb2)
        replace HMB := hide ((unhide HMB).on hb2)
        replace HNB := hide ((unhide HNB).on hb2)
        replace HGB := hide ((unhide HGB).on hb2)
        replace HOB := hide ((unhide HOB).on hb2)
        clear hb2
        obtain ⟨kc0, kc1, kc2⟩ := (unhide HKB).cells
        simp only at kc0 kc1 kc2
        have kl := (unhide HKB).box.lt
        go_wp2_with fail
        clear kc0 kc1 kc2 kl
        refine (drawKindWay_any w6 _ k ⟨.int .i64 k.sort, .slice a1 k.names.length aap1, .slice a2 k.kids.length aap2⟩ (unhide HKB).in (unhide HKB).rep b bap r (unhide HVR w6 (unhide HKB).below) (unhide HBP)).mono ?_
        rintro e w7 ⟨y, ⟨t0, t1, t2⟩, rfl, hn, hwn, hb2⟩
        have hn2 : KRep (fun y => y < w7.heap.size) w7 y ⟨t0, t1, t2⟩ := KRep.carry (fun _ _ => rfl) (fun x hx => hx.elim (fun h => Nat.lt_of_lt_of_le ((unhide HKB).in x h) hb2.size) (fun h => h.2)) _ _ hn
        obtain ⟨t1, tap1, t2, tap2, g0⟩ := kform8 hn2
        simp only [C3.mk.injEq] at g0
        obtain ⟨rfl, rfl, rfl⟩ := g0
        replace HKB := hide ((unhide HKB).on hb2)
        replace HMB := hide ((unhide HMB).on hb2)
        replace HNB := hide ((unhide HNB).on hb2)
        replace HGB := hide ((unhide HGB).on hb2)
        replace HOB := hide ((unhide HOB).on hb2)
        obtain ⟨kc0, kc1, kc2⟩ := (unhide HKB).cells
        simp only at kc0 kc1 kc2
        have kl := (unhide HKB).box.lt
        obtain ⟨gc0, gc1, gc2⟩ := (unhide HGB).cells
        simp only at gc0 gc1 gc2
        have gl := (unhide HGB).box.lt
        have hbx := KT8.start (unhide HKB).below hn2
        have hba := (Below.refl w7.heap.size w7).alloc (Nat.le_refl _) (.cells #[.int .i64 y.sort, .slice t1 y.names.length tap1, .slice t2 y.kids.length tap2] 26)
        obtain ⟨W7, hWq⟩ : ∃ W7, w7.alloc (.cells #[.int .i64 y.sort, .slice t1 y.names.length tap1, .slice t2 y.kids.length tap2] 26) = W7 := ⟨_, rfl⟩
        rw [hWq] at hbx hba
        replace HKB := hide ((unhide HKB).on hba)
        replace HMB := hide ((unhide HMB).on hba)
        replace HNB := hide ((unhide HNB).on hba)
        replace HGB := hide ((unhide HGB).on hba)
        replace HOB := hide ((unhide HOB).on hba)
        have HYB := hide hbx; have HWQ := hide hWq
        clear hn2 hb2 hbx hba hWq
        go_wp2_with fail
        rw [unhide HWQ]
        clear HWQ
        clear kc0 kc1 kc2 kl gc0 gc1 gc2 gl
        clear hn hwn
        have hq := implKindFits_any k n _ _ ⟨.int .i64 k.sort, .slice a1 k.names.length aap1, .slice a2 k.kids.length aap2⟩ ⟨.int .i64 n.sort, .slice q1 n.names.length qap1, .slice q2 n.kids.length qap2⟩ W7 (unhide HE W7 (unhide HKB).below) (unhide HKB).in (unhide HGB).in (unhide HKB).rep (unhide HGB).rep (unhide HWK) (unhide HWN)
        rw [(unhide HUP).1] at hq
        have HQ := hide hq
        clear hq
        refine (unhide HQ).mono ?_
        rintro e w8 ⟨rfl, hb2⟩
        replace HKB := hide ((unhide HKB).on hb2)
        replace HMB := hide ((unhide HMB).on hb2)
        replace HNB := hide ((unhide HNB).on hb2)
        replace HGB := hide ((unhide HGB).on hb2)
        replace HOB := hide ((unhide HOB).on hb2)
        replace HYB := hide ((unhide HYB).on hb2)
        clear hb2
        obtain ⟨mc0, mc1, mc2⟩ := (unhide HMB).cells
        simp only at mc0 mc1 mc2
        have ml := (unhide HMB).box.lt
        obtain ⟨gc0, gc1, gc2⟩ := (unhide HGB).cells
        simp only at gc0 gc1 gc2
        have gl := (unhide HGB).box.lt
        go_wp2_with fail
        clear mc0 mc1 mc2 ml gc0 gc1 gc2 gl
        have hq := implKindFits_any m n _ _ ⟨.int .i64 m.sort, .slice b1 m.names.length bap1, .slice b2 m.kids.length bap2⟩ ⟨.int .i64 n.sort, .slice q1 n.names.length qap1, .slice q2 n.kids.length qap2⟩ w8 (unhide HE w8 (unhide HKB).below) (unhide HMB).in (unhide HGB).in (unhide HMB).rep (unhide HGB).rep (unhide HWM) (unhide HWN)
        rw [(unhide HUP).2] at hq
        have HQ2 := hide hq
        clear hq HQ
        refine (unhide HQ2).mono ?_
        rintro e w9 ⟨rfl, hb2⟩
        replace HKB := hide ((unhide HKB).on hb2)
        replace HMB := hide ((unhide HMB).on hb2)
        replace HNB := hide ((unhide HNB).on hb2)
        replace HGB := hide ((unhide HGB).on hb2)
        replace HOB := hide ((unhide HOB).on hb2)
        replace HYB := hide ((unhide HYB).on hb2)
        clear hb2
        obtain ⟨nc0, nc1, nc2⟩ := (unhide HNB).cells
        simp only at nc0 nc1 nc2
        have nl := (unhide HNB).box.lt
        go_wp2_with fail
        clear nc0 nc1 nc2 nl
        clear HQ2
        refine (drawKindWay_any w9 _ n ⟨.int .i64 n.sort, .slice p1 n.names.length pap1, .slice p2 n.kids.length pap2⟩ (unhide HNB).in (unhide HNB).rep b bap r (unhide HVR w9 (unhide HKB).below) (unhide HBP)).mono ?_
        rintro e w10 ⟨z, ⟨u0, u1, u2⟩, rfl, hn, hwn, hb2⟩
        have hn2 : KRep (fun y => y < w10.heap.size) w10 z ⟨u0, u1, u2⟩ := KRep.carry (fun _ _ => rfl) (fun x hx => hx.elim (fun h => Nat.lt_of_lt_of_le ((unhide HNB).in x h) hb2.size) (fun h => h.2)) _ _ hn
        have HWZ : Hid (wKd z ≤ 1048576) := by
          rcases hwn with h | h
          · rw [h]; exact unhide HWN
          · exact Nat.le_trans h (by decide)
        obtain ⟨u1, uap1, u2, uap2, g0⟩ := kform8 hn2
        simp only [C3.mk.injEq] at g0
        obtain ⟨rfl, rfl, rfl⟩ := g0
        replace HKB := hide ((unhide HKB).on hb2)
        replace HMB := hide ((unhide HMB).on hb2)
        replace HNB := hide ((unhide HNB).on hb2)
        replace HGB := hide ((unhide HGB).on hb2)
        replace HOB := hide ((unhide HOB).on hb2)
        replace HYB := hide ((unhide HYB).on hb2)
        obtain ⟨kc0, kc1, kc2⟩ := (unhide HKB).cells
        simp only at kc0 kc1 kc2
        have kl := (unhide HKB).box.lt
        have hbx := KT8.start (unhide HKB).below hn2
        have hba := (Below.refl w10.heap.size w10).alloc (Nat.le_refl _) (.cells #[.int .i64 z.sort, .slice u1 z.names.length uap1, .slice u2 z.kids.length uap2] 26)
        obtain ⟨W10, hWq⟩ : ∃ W10, w10.alloc (.cells #[.int .i64 z.sort, .slice u1 z.names.length uap1, .slice u2 z.kids.length uap2] 26) = W10 := ⟨_, rfl⟩
        rw [hWq] at hbx hba
        replace HKB := hide ((unhide HKB).on hba)
        replace HMB := hide ((unhide HMB).on hba)
        replace HNB := hide ((unhide HNB).on hba)
        replace HGB := hide ((unhide HGB).on hba)
        replace HOB := hide ((unhide HOB).on hba)
        replace HYB := hide ((unhide HYB).on hba)
        have HZB := hide hbx; have HWQ := hide hWq
        clear hn2 hb2 hbx hba hWq
        go_wp2_with fail
        rw [unhide HWQ]
        clear HWQ
        clear kc0 kc1 kc2 kl
        clear hn hwn
        cases hf1 : fitsD k z with
        | false =>
          have hq := specKindFits_any k z _ _ ⟨.int .i64 k.sort, .slice a1 k.names.length aap1, .slice a2 k.kids.length aap2⟩ ⟨.int .i64 z.sort, .slice u1 z.names.length uap1, .slice u2 z.kids.length uap2⟩ W10 (unhide HKB).in (unhide HZB).in (unhide HKB).rep (unhide HZB).rep
          rw [hf1] at hq
          have HQ := hide hq
          clear hq hf1
          refine (unhide HQ).mono ?_
          rintro e w11 ⟨rfl, hb2⟩
          replace HKB := hide ((unhide HKB).on hb2)
          replace HMB := hide ((unhide HMB).on hb2)
          replace HNB := hide ((unhide HNB).on hb2)
          replace HGB := hide ((unhide HGB).on hb2)
          replace HOB := hide ((unhide HOB).on hb2)
          replace HYB := hide ((unhide HYB).on hb2)
          replace HZB := hide ((unhide HZB).on hb2)
          clear hb2
          go_wp2_with fail
          have HB := hide (unhide HKB).below
          go_ret
          exact ⟨rfl, unhide HB⟩
        | true =>
          have hq := specKindFits_any k z _ _ ⟨.int .i64 k.sort, .slice a1 k.names.length aap1, .slice a2 k.kids.length aap2⟩ ⟨.int .i64 z.sort, .slice u1 z.names.length uap1, .slice u2 z.kids.length uap2⟩ W10 (unhide HKB).in (unhide HZB).in (unhide HKB).rep (unhide HZB).rep
          rw [hf1] at hq
          have HQ := hide hq
          clear hq
          cases hf2 : fitsD m z with
          | false =>
            clear hf1
            refine (unhide HQ).mono ?_
            rintro e w11 ⟨rfl, hb2⟩
            replace HKB := hide ((unhide HKB).on hb2)
            replace HMB := hide ((unhide HMB).on hb2)
            replace HNB := hide ((unhide HNB).on hb2)
            replace HGB := hide ((unhide HGB).on hb2)
            replace HOB := hide ((unhide HOB).on hb2)
            replace HYB := hide ((unhide HYB).on hb2)
            replace HZB := hide ((unhide HZB).on hb2)
            clear hb2
            obtain ⟨mc0, mc1, mc2⟩ := (unhide HMB).cells
            simp only at mc0 mc1 mc2
            have ml := (unhide HMB).box.lt
            obtain ⟨zc0, zc1, zc2⟩ := (unhide HZB).cells
            simp only at zc0 zc1 zc2
            have zl := (unhide HZB).box.lt
            go_wp2_with fail
            clear mc0 mc1 mc2 ml zc0 zc1 zc2 zl
            have hq := specKindFits_any m z _ _ ⟨.int .i64 m.sort, .slice b1 m.names.length bap1, .slice b2 m.kids.length bap2⟩ ⟨.int .i64 z.sort, .slice u1 z.names.length uap1, .slice u2 z.kids.length uap2⟩ w11 (unhide HMB).in (unhide HZB).in (unhide HMB).rep (unhide HZB).rep
            rw [hf2] at hq
            have HQ2 := hide hq
            clear hq hf2
            refine (unhide HQ2).mono ?_
            rintro e w12 ⟨rfl, hb2⟩
            replace HKB := hide ((unhide HKB).on hb2)
            replace HMB := hide ((unhide HMB).on hb2)
            replace HNB := hide ((unhide HNB).on hb2)
            replace HGB := hide ((unhide HGB).on hb2)
            replace HOB := hide ((unhide HOB).on hb2)
            replace HYB := hide ((unhide HYB).on hb2)
            replace HZB := hide ((unhide HZB).on hb2)
            clear hb2
            go_wp2_with fail
            have HB := hide (unhide HKB).below
            go_ret
            exact ⟨rfl, unhide HB⟩
          | true =>
            have hf3 := (unhide HLE) z hf1 hf2
            clear hf1
            refine (unhide HQ).mono ?_
            rintro e w11 ⟨rfl, hb2⟩
            replace HKB := hide ((unhide HKB).on hb2)
            replace HMB := hide ((unhide HMB).on hb2)
            replace HNB := hide ((unhide HNB).on hb2)
            replace HGB := hide ((unhide HGB).on hb2)
            replace HOB := hide ((unhide HOB).on hb2)
            replace HYB := hide ((unhide HYB).on hb2)
            replace HZB := hide ((unhide HZB).on hb2)
            clear hb2
            obtain ⟨mc0, mc1, mc2⟩ := (unhide HMB).cells
            simp only at mc0 mc1 mc2
            have ml := (unhide HMB).box.lt
            obtain ⟨zc0, zc1, zc2⟩ := (unhide HZB).cells
            simp only at zc0 zc1 zc2
            have zl := (unhide HZB).box.lt
            go_wp2_with fail
            clear mc0 mc1 mc2 ml zc0 zc1 zc2 zl
            have hq := specKindFits_any m z _ _ ⟨.int .i64 m.sort, .slice b1 m.names.length bap1, .slice b2 m.kids.length bap2⟩ ⟨.int .i64 z.sort, .slice u1 z.names.length uap1, .slice u2 z.kids.length uap2⟩ w11 (unhide HMB).in (unhide HZB).in (unhide HMB).rep (unhide HZB).rep
            rw [hf2] at hq
            have HQ2 := hide hq
            clear hq hf2
            refine (unhide HQ2).mono ?_
            rintro e w12 ⟨rfl, hb2⟩
            replace HKB := hide ((unhide HKB).on hb2)
            replace HMB := hide ((unhide HMB).on hb2)
            replace HNB := hide ((unhide HNB).on hb2)
            replace HGB := hide ((unhide HGB).on hb2)
            replace HOB := hide ((unhide HOB).on hb2)
            replace HYB := hide ((unhide HYB).on hb2)
            replace HZB := hide ((unhide HZB).on hb2)
            clear hb2
            obtain ⟨gc0, gc1, gc2⟩ := (unhide HGB).cells
            simp only at gc0 gc1 gc2
            have gl := (unhide HGB).box.lt
            obtain ⟨zc0, zc1, zc2⟩ := (unhide HZB).cells
            simp only at zc0 zc1 zc2
            have zl := (unhide HZB).box.lt
            go_wp2_with fail
            clear gc0 gc1 gc2 gl zc0 zc1 zc2 zl
            have hq := implKindFits_any n z _ _ ⟨.int .i64 n.sort, .slice q1 n.names.length qap1, .slice q2 n.kids.length qap2⟩ ⟨.int .i64 z.sort, .slice u1 z.names.length uap1, .slice u2 z.kids.length uap2⟩ w12 (unhide HE w12 (unhide HKB).below) (unhide HGB).in (unhide HZB).in (unhide HGB).rep (unhide HZB).rep (unhide HWN) (unhide HWZ)
            rw [hf3] at hq
            have HQ3 := hide hq
            clear hq hf3
            refine (unhide HQ3).mono ?_
            rintro e w13 ⟨rfl, hb2⟩
            replace HKB := hide ((unhide HKB).on hb2)
            replace HMB := hide ((unhide HMB).on hb2)
            replace HNB := hide ((unhide HNB).on hb2)
            replace HGB := hide ((unhide HGB).on hb2)
            replace HOB := hide ((unhide HOB).on hb2)
            replace HYB := hide ((unhide HYB).on hb2)
            replace HZB := hide ((unhide HZB).on hb2)
            clear hb2
            go_wp2_with fail
            have HB := hide (unhide HKB).below
            go_ret
            exact ⟨rfl, unhide HB⟩
    · have hdr : decide ((1048576 : Int) < (r.length : Int)) = true := by simp; omega
      go_enter Tryz.func3, Tryz.ntmps3
      go_wp2_with fail
      go_ret
      exact ⟨rfl, Below.refl _ _⟩
  · have hd : decide ((1048576 : Int) < (l.length : Int)) = true := by simp; omega
    go_enter Tryz.func3, Tryz.ntmps3
    go_wp2_with fail
    go_ret
    exact ⟨rfl, Below.refl _ _⟩
end Go.Proofs.YtenpghndgdemnaaGreatDoor
