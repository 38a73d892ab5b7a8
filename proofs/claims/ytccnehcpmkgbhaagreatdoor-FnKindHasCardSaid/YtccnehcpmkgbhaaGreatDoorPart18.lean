/- A part. -/
import Derived.Test.YtccnehcpmkgbhaaGreatDoorPart17
import Derived.Deep.RegionHeld3
import Derived.RangeFuncNested
import Derived.RangeFuncBound
import Derived.Shelf.RegionOpen
import Derived.OwnWalkIn
import Derived.LoopNIn
import Derived.LoopIn
set_option maxRecDepth 100000
set_option maxHeartbeats 6400000
namespace Go.Proofs.YtccnehcpmkgbhaaGreatDoor
open Go Go.RowKit
def kwd (k : Nat) : ByteArray := if k = 1 then wNum else if k = 2 then wText else wFlag
theorem krd_leaf (d : Nat) {s : ByteArray} {a k : Nat} (h1 : 1 ≤ k) (h3 : k ≤ 3) (hno : ∀ j, 1 ≤ j → j < k → pre (kwd j) s a = false) (hp : pre (kwd k) s a = true) : krd (d + 1) (lf s a) = some (.mk k [] [], lf s (a + (kwd k).size)) ∧ a + (kwd k).size ≤ s.size := by
 rcases (show k = 1 ∨ k = 2 ∨ k = 3 by omega) with rfl | rfl | rfl
 · have hp' : [110, 117, 109].isPrefixOf (lf s a) = true := hp
   refine ⟨?_, pre_room (by decide) hp⟩
   rw [krd, if_pos hp']
   show _ = some (_, lf s (a + 3))
   unfold lf; simp [List.drop_drop]
 · have n1 : [110, 117, 109].isPrefixOf (lf s a) = false := hno 1 (by omega) (by omega)
   have hp' : [116, 101, 120, 116].isPrefixOf (lf s a) = true := hp
   refine ⟨?_, pre_room (by decide) hp⟩
   rw [krd, if_neg (by rw [n1]; simp), if_pos hp']
   show _ = some (_, lf s (a + 4))
   unfold lf; simp [List.drop_drop]
 · have n1 : [110, 117, 109].isPrefixOf (lf s a) = false := hno 1 (by omega) (by omega)
   have n2 : [116, 101, 120, 116].isPrefixOf (lf s a) = false := hno 2 (by omega) (by omega)
   have hp' : [102, 108, 97, 103].isPrefixOf (lf s a) = true := hp
   refine ⟨?_, pre_room (by decide) hp⟩
   rw [krd, if_neg (by rw [n1]; simp), if_neg (by rw [n2]; simp), if_pos hp']
   show _ = some (_, lf s (a + 4))
   unfold lf; simp [List.drop_drop]
theorem krd_rest (d : Nat) {s : ByteArray} {a : Nat} (hno : ∀ j, 1 ≤ j → j < 4 → pre (kwd j) s a = false) : krd (d + 1) (lf s a) =
 if (lf s a).head? = some 91 then (match krd d (lf s (a + 1)) with
  | none => none
  | some (k, rest) => if rest.head? = some 93 then some (.mk 4 [] [k], rest.tail) else none)
 else if (lf s a).head? = some 63 then (match krd d (lf s (a + 1)) with
  | none => none
  | some (k, rest) => some (.mk 6 [] [k], rest))
 else FXo d (lf s a) := by
 have n1 : [110, 117, 109].isPrefixOf (lf s a) = false := hno 1 (by omega) (by omega)
 have n2 : [116, 101, 120, 116].isPrefixOf (lf s a) = false := hno 2 (by omega) (by omega)
 have n3 : [102, 108, 97, 103].isPrefixOf (lf s a) = false := hno 3 (by omega) (by omega)
 rw [krd, if_neg (by rw [n1]; simp), if_neg (by rw [n2]; simp), if_neg (by rw [n3]; simp), lf_next]
 by_cases h91 : (lf s a).head? = some 91
 · rw [if_pos h91, if_pos h91]
   rcases krd d (lf s a).tail with _ | ⟨k, rest⟩ <;> rfl
 · rw [if_neg h91, if_neg h91]
   by_cases h63 : (lf s a).head? = some 63
   · rw [if_pos h63, if_pos h63]
     rcases krd d (lf s a).tail with _ | ⟨k, rest⟩ <;> rfl
   · rw [if_neg h63, if_neg h63]
     unfold FXo FX
     by_cases h123 : (lf s a).head? = some 123
     · rw [if_pos h123, if_pos h123]
       rcases klp (krd d) ((lf s a).length + 1) [] [] (lf s a).tail with _ | ⟨ns, ks, rest⟩ <;> rfl
     · rw [if_neg h123, if_neg h123]
def PNo (s : ByteArray) (a k : Nat) : Prop := ∀ j, 1 ≤ j → j < k → pre (kwd j) s a = false
theorem kind_step (d : Nat) (IH : KPSaid d) : KPSaid (d + 1) := by
 intro w R s a hs h ha hT hTR hd
 have hlt := h.lt
 have hTlt := hT.lt
 have hpw := Pw.start h hT hTR
 have hleaf := fun k (h1 : 1 ≤ k) (h3 : k ≤ 3) (hno : PNo s a k) (hp : pre (kwd k) s a = true) => krd_leaf d h1 h3 hno hp
 have hrest := fun (hno : PNo s a 4) => krd_rest d hno
 have hform := fun W (hW : Pw w R s a W) => form_any d IH W R s a hs hW.rdr ha hW.tab hTR (by omega)
 generalize hY : krd (d + 1) (lf s a) = Y at *
 have HPW := hH hpw; have HLE := hH hleaf; have HRE := hH hrest; have HFO := hH hform; have HI := hH IH
 clear hpw hleaf hrest hform h hT hY IH
 go_enter Tryz.func68, Tryz.ntmps68
 go_wp2_with fail
 obtain ⟨W0, hW0⟩ : ∃ W0, w.alloc (.cells #[.int .i64 0, .slice none 0 0, .slice none 0 0] 26) = W0 := ⟨_, rfl⟩
 rw [hW0] at HPW ⊢
 clear hW0
 go_loopw [3] (fun i wr => ∃ (k : Nat), 1 ≤ k ∧ k ≤ 4 ∧ i = .int .i64 k ∧ Hid (PNo s a k) ∧ Hid (Pw w R s a wr)) (fun i _ => 4 - (intOf i).toNat)
 case atStart => exact ⟨1, by omega, by omega, rfl, hH (fun j h1 h2 => by omega), HPW⟩
 case round =>
  obtain ⟨k, hk1, hk4, rfl, HNO, HW⟩ := hrel
  obtain ⟨t1, t2, t3⟩ := HW.out.tab
  rcases (show k = 1 ∨ k = 2 ∨ k = 3 ∨ k = 4 by omega) with rfl | rfl | rfl | rfl
  · cases hp : pre (kwd 1) s a
    · have hno2 : PNo s a 2 := fun j h1 h2 => by
       by_cases hj : j < 1
       · exact HNO.out j h1 hj
       · obtain rfl : j = 1 := by omega
         exact hp
      have HNO2 := hH hno2
      have HSK := hH (skip_no wr.drew R s (kwd 1) a HW.out.drew.rdr ha hp)
      clear hno2 hp
      go_wp2_with fail
      go_region_law (rw [if_pos (by first | rfl | simp [Region.wanted])]; go_simp; refine (uh HSK).mono ?_; rintro e w3 ⟨rfl, m, rfl⟩)
      go_wp2_with fail
      go_roundw
      case rel => exact ⟨2, by omega, by omega, by rfl, HNO2, hH (HW.out.drewN (1 + m))⟩
      case measure => simp [intOf]
    · have hy := uh HLE 1 (by omega) (by omega) HNO.out hp
      have hsk : Calls Tryz.prog 83 #[.pointer (some ⟨R, 0, none⟩), .string (kwd 1)] wr.drew fun e w' => e = .returned (.bool true) ∧ Hid (Pw w R s (a + (kwd 1).size) w') := (skip_yes wr.drew R s (kwd 1) a hs HW.out.drew.rdr ha (by decide) (by decide) hp).mono fun e w' ⟨h1, h2, h3⟩ => ⟨h1, HW.out.drew.next h3 h2⟩
      have HSK := hH hsk; have HYY := hH hy
      clear hsk hy hp
      go_wp2_with fail
      go_region_law (rw [if_pos (by first | rfl | simp [Region.wanted])]; go_simp; refine (uh HSK).mono ?_; rintro e w3 ⟨rfl, HW3⟩; obtain ⟨r0, r1, r2, z0, z1, z2⟩ := (uh HW3).cells)
      go_wp2_with fail
      refine bodyPost_ret (v := .agg #[.int .i64 1, .slice none 0 0, .slice none 0 0]) (by simp [results, Tryz.results68, go_sem, r0, r1, r2]) rfl ?_
      exact (uh HW3).fin (uh HYY).2 (OwnD.leaf w3 1 ⟨by decide, by decide⟩) List.nodup_nil (fun b hb => by simp at hb) (uh HYY).1
  · cases hp : pre (kwd 2) s a
    · have hno2 : PNo s a 3 := fun j h1 h2 => by
       by_cases hj : j < 2
       · exact HNO.out j h1 hj
       · obtain rfl : j = 2 := by omega
         exact hp
      have HNO2 := hH hno2
      have HSK := hH (skip_no wr.drew R s (kwd 2) a HW.out.drew.rdr ha hp)
      clear hno2 hp
      go_wp2_with fail
      go_region_law (rw [if_pos (by first | rfl | simp [Region.wanted])]; go_simp; refine (uh HSK).mono ?_; rintro e w3 ⟨rfl, m, rfl⟩)
      go_wp2_with fail
      go_roundw
      case rel => exact ⟨3, by omega, by omega, by rfl, HNO2, hH (HW.out.drewN (1 + m))⟩
      case measure => simp [intOf]
    · have hy := uh HLE 2 (by omega) (by omega) HNO.out hp
      have hsk : Calls Tryz.prog 83 #[.pointer (some ⟨R, 0, none⟩), .string (kwd 2)] wr.drew fun e w' => e = .returned (.bool true) ∧ Hid (Pw w R s (a + (kwd 2).size) w') := (skip_yes wr.drew R s (kwd 2) a hs HW.out.drew.rdr ha (by decide) (by decide) hp).mono fun e w' ⟨h1, h2, h3⟩ => ⟨h1, HW.out.drew.next h3 h2⟩
      have HSK := hH hsk; have HYY := hH hy
      clear hsk hy hp
      go_wp2_with fail
      go_region_law (rw [if_pos (by first | rfl | simp [Region.wanted])]; go_simp; refine (uh HSK).mono ?_; rintro e w3 ⟨rfl, HW3⟩; obtain ⟨r0, r1, r2, z0, z1, z2⟩ := (uh HW3).cells)
      go_wp2_with fail
      refine bodyPost_ret (v := .agg #[.int .i64 2, .slice none 0 0, .slice none 0 0]) (by simp [results, Tryz.results68, go_sem, r0, r1, r2]) rfl ?_
      exact (uh HW3).fin (uh HYY).2 (OwnD.leaf w3 2 ⟨by decide, by decide⟩) List.nodup_nil (fun b hb => by simp at hb) (uh HYY).1
  · cases hp : pre (kwd 3) s a
    · have hno2 : PNo s a 4 := fun j h1 h2 => by
       by_cases hj : j < 3
       · exact HNO.out j h1 hj
       · obtain rfl : j = 3 := by omega
         exact hp
      have HNO2 := hH hno2
      have HSK := hH (skip_no wr.drew R s (kwd 3) a HW.out.drew.rdr ha hp)
      clear hno2 hp
      go_wp2_with fail
      go_region_law (rw [if_pos (by first | rfl | simp [Region.wanted])]; go_simp; refine (uh HSK).mono ?_; rintro e w3 ⟨rfl, m, rfl⟩)
      go_wp2_with fail
      go_roundw
      case rel => exact ⟨4, by omega, by omega, by rfl, HNO2, hH (HW.out.drewN (1 + m))⟩
      case measure => simp [intOf]
    · have hy := uh HLE 3 (by omega) (by omega) HNO.out hp
      have hsk : Calls Tryz.prog 83 #[.pointer (some ⟨R, 0, none⟩), .string (kwd 3)] wr.drew fun e w' => e = .returned (.bool true) ∧ Hid (Pw w R s (a + (kwd 3).size) w') := (skip_yes wr.drew R s (kwd 3) a hs HW.out.drew.rdr ha (by decide) (by decide) hp).mono fun e w' ⟨h1, h2, h3⟩ => ⟨h1, HW.out.drew.next h3 h2⟩
      have HSK := hH hsk; have HYY := hH hy
      clear hsk hy hp
      go_wp2_with fail
      go_region_law (rw [if_pos (by first | rfl | simp [Region.wanted])]; go_simp; refine (uh HSK).mono ?_; rintro e w3 ⟨rfl, HW3⟩; obtain ⟨r0, r1, r2, z0, z1, z2⟩ := (uh HW3).cells)
      go_wp2_with fail
      refine bodyPost_ret (v := .agg #[.int .i64 3, .slice none 0 0, .slice none 0 0]) (by simp [results, Tryz.results68, go_sem, r0, r1, r2]) rfl ?_
      exact (uh HW3).fin (uh HYY).2 (OwnD.leaf w3 3 ⟨by decide, by decide⟩) List.nodup_nil (fun b hb => by simp at hb) (uh HYY).1
  · have hre := uh HRE HNO.out
    by_cases h91 : (lf s a).head? = some 91
    · rw [if_pos h91] at hre
      have hroom : a + 1 ≤ s.size := by
       have := lf_len s a
       cases hl : lf s a with
       | nil => rw [hl] at h91; simp at h91
       | cons c r => rw [hl] at this; simp at this; omega
      have hl1 : (lf s (a + 1)).length < d := by have := lf_len s a; have := lf_len s (a + 1); omega
      have HSK := hH (fun W (hW : Pw w R s a W) => skip_yes W R s (w1 91) a hs hW.rdr ha (by decide) (by decide) (by rw [pre_one, h91]; simp))
      have hkind := fun W (hW : Pw w R s (a + 1) W) => uh HI W R s (a + 1) hs hW.rdr hroom hW.tab hTR hl1
      cases hkr : krd d (lf s (a + 1)) with
      | none =>
        rw [hkr] at hre
        simp only at hre
        have hk2 : ∀ W, Pw w R s (a + 1) W → Calls Tryz.prog 68 #[.pointer (some ⟨R, 0, none⟩)] W fun e w' => e = fltE ∧ Hid (But R w w') := fun W hW => (hkind W hW).mono (by
         rintro e w' (⟨k, c, F, a4, hc, -⟩ | ⟨-, rfl, hb⟩)
         · rw [hkr] at hc; cases hc
         · exact ⟨rfl, hW.but.trans hb⟩)
        have HKI := hH hk2; have HYN := hH hre
        clear hk2 hkind hkr hre t1 t2 t3 HLE HRE HFO HI
        go_wp2_with (first
         | (go_at_call 83; refine (uh HSK _ HW.out).mono ?_; rintro e w3 ⟨rfl, hr3, hb3⟩; have HW3 := hH (HW.out.next hb3 hr3); clear hr3 hb3)
         | (go_at_call 68; refine (uh HKI _ (uh HW3)).mono ?_; rintro e w4 ⟨rfl, HB4⟩))
        exact And.intro rfl (KPEnd.no (uh HYN) (uh HB4))
      | some kr =>
        obtain ⟨k, rest⟩ := kr
        rw [hkr] at hre
        simp only at hre
        have hk2 : ∀ W, Pw w R s (a + 1) W → Calls Tryz.prog 68 #[.pointer (some ⟨R, 0, none⟩)] W fun e w4 => ∃ (x0 : Int) (ap : Option Addr) (np cp : Nat) (aq : Option Addr) (nq cq : Nat) (F : List Nat) (a4 : Nat), e = .returned (.agg #[.int .i64 x0, .slice ap np cp, .slice aq nq cq]) ∧ Hid (OwnD w4 k ⟨.int .i64 x0, .slice ap np cp, .slice aq nq cq⟩ F) ∧ F.Nodup ∧ Hid (∀ b, b ∈ F → W.heap.size ≤ b ∧ b < w4.heap.size) ∧ Hid (Pw w R s a4 w4) ∧ a4 ≤ s.size ∧ Hid (rest = lf s a4) ∧ W.heap.size ≤ w4.heap.size := fun W hW => (hkind W hW).mono (by
         rintro e w4 (⟨k', ⟨y0, y1, y2⟩, F, a4, hc, h4, rfl, ho, hnd, hF, hr, hb⟩ | ⟨hc, -⟩)
         · rw [hkr] at hc
           simp only [Option.some.injEq, Prod.mk.injEq] at hc
           obtain ⟨rfl, hc⟩ := hc
           obtain ⟨p0, -, F1, F2, -, ⟨ap, cp, p1, -⟩, aq, cq, p2, -⟩ := ho.open
           simp only at p0 p1 p2
           subst p0 p1 p2
           exact ⟨_, _, _, _, _, _, _, F, a4, rfl, ho, hnd, hF, hW.next hb hr, h4, hc, hb.size⟩
         · rw [hkr] at hc; cases hc)
        have HKI := hH hk2; have HRE2 := hH hre
        clear hk2 hkind hkr hre t1 t2 t3 HLE HRE HFO HI
        by_cases h93 : rest.head? = some 93
        · have hy : Y = some (.mk 4 [] [k], rest.tail) := by rw [uh HRE2, if_pos h93]
          have htk : ∀ W a4, PRdr W R s a4 → a4 ≤ s.size → rest = lf s a4 → Calls Tryz.prog 79 #[.pointer (some ⟨R, 0, none⟩), .string (w1 93)] W fun e w' => e = .returned (.tuple #[]) ∧ PRdr w' R s (a4 + 1) ∧ But R W w' ∧ a4 + 1 ≤ s.size := fun W a4 hW h4 hr => (take_yes W R s (w1 93) a4 hs hW h4 (by decide) (by decide) (by rw [pre_one, ← hr, h93]; simp)).mono fun e w' ⟨h1, h2, h3⟩ => ⟨h1, h2, h3, by
           have := lf_len s a4
           cases hl : lf s a4 with
           | nil => rw [hr, hl] at h93; simp at h93
           | cons c r => rw [hl] at this; simp at this; omega⟩
          have HTK := hH htk; have HYS := hH hy
          clear htk hy HRE2
          go_wp2_with (first
           | (go_at_call 83; refine (uh HSK _ HW.out).mono ?_; rintro e w3 ⟨rfl, hr3, hb3⟩; have HW3 := hH (HW.out.next hb3 hr3); clear hr3 hb3)
           | (go_at_call 68; refine (uh HKI _ (uh HW3)).mono ?_; rintro e w4 ⟨x0, ap, np, cp, aq, nq, cq, F, a4, rfl, HOW, hFn, HFL, HW4, ha4, HRS, hs4⟩)
           | (go_at_call 79
              refine (uh HTK _ a4 ((uh HW4).rdr.alloc _) ha4 (uh HRS)).mono ?_
              rintro e w5 ⟨rfl, hr5, hb5, ha5⟩
              have hpw5 := ((uh HW4).touch (World.grownBy_alloc w4 (.cells #[.int .i64 x0, .slice ap np cp, .slice aq nq cq] 26) none) (fun b e => by cases e) hlt hTlt).next hb5 hr5
              have hb3 := (uh HW3).box.lt
              have hbx4 := (row3_alloc w4 (.int .i64 x0) (.slice ap np cp) (.slice aq nq cq) 26).of_block (hb5.at (by simp) (by omega))
              obtain ⟨k0, k1, k2⟩ := cs3 hbx4 (by omega)
              simp only [row3] at k0 k1 k2
              have HOW5 := hH (OwnD.carry k _ F (fun b hb => (hb5.at (by rw [World.size_alloc]; have := (uh HFL b hb).2; omega) (by have := (uh HFL b hb).1; omega)).trans (Below.heap_alloc _ _ _ (uh HFL b hb).2)) (uh HOW))
              have hs5 := hb5.size
              rw [World.size_alloc] at hs5
              have HW5 := hH hpw5
              obtain ⟨r0, r1, r2, z0, z1, z2⟩ := (uh HW5).cells
              have hl5 := (uh HW5).box.lt
              clear hr5 hb5 hpw5 hbx4))
          have hown := OwnD.single (s := 4) (t := 26) ⟨by decide, by decide⟩ (uh HOW5) (fun b hb => by have := (uh HFL b hb).2; omega)
          have hb3 := (uh HW3).box.lt
          have hpw6 := (uh HW5).touch (World.grownBy_alloc w5 (.cells #[.int .i64 x0, .slice ap np cp, .slice aq nq cq] 26) none) (fun b e => by cases e) hlt hTlt
          have hfin := hpw6.fin ha5 hown (List.nodup_cons.2 ⟨fun hm => by have := (uh HFL _ hm).2; omega, hFn⟩) (fun b hb => by
           rw [World.size_alloc]
           rcases List.mem_cons.1 hb with rfl | hb
           · omega
           · have := uh HFL b hb; omega) (o := Y) (by rw [uh HYS, uh HRS, lf_next])
          rw [set3_alloc _ _ _ _ hl5] at hfin
          refine bodyPost_ret (v := .agg #[.int .i64 4, .slice none 0 0, .slice (some ⟨w5.heap.size, 0, none⟩) 1 1]) (by simp [results, Tryz.results68, go_sem, r0, r1, r2, hl5]) rfl ?_
          exact hfin
        · have hy : Y = none := by rw [uh HRE2, if_neg h93]
          have htk : ∀ W a4, PRdr W R s a4 → a4 ≤ s.size → rest = lf s a4 → Calls Tryz.prog 79 #[.pointer (some ⟨R, 0, none⟩), .string (w1 93)] W fun e w' => e = fltE ∧ ∃ m, w' = W.drewN m := fun W a4 hW h4 hr => take_no W R s (w1 93) a4 hW h4 (by rw [pre_one, ← hr]; simp [h93])
          have HTK := hH htk; have HYS := hH hy
          clear htk hy HRE2
          go_wp2_with (first
           | (go_at_call 83; refine (uh HSK _ HW.out).mono ?_; rintro e w3 ⟨rfl, hr3, hb3⟩; have HW3 := hH (HW.out.next hb3 hr3); clear hr3 hb3)
           | (go_at_call 68; refine (uh HKI _ (uh HW3)).mono ?_; rintro e w4 ⟨x0, ap, np, cp, aq, nq, cq, F, a4, rfl, HOW, hFn, HFL, HW4, ha4, HRS, hs4⟩)
           | (go_at_call 79
              refine (uh HTK _ a4 ((uh HW4).rdr.alloc _) ha4 (uh HRS)).mono ?_
              rintro e w5 ⟨rfl, m5, rfl⟩))
          exact And.intro rfl (KPEnd.no (uh HYS) (but_drewN ((uh HW4).but.trans (But.alloc _ _ _)) m5))
    · rw [if_neg h91] at hre
      have HSK := hH (fun W (hW : Pw w R s a W) => skip_no W R s (w1 91) a hW.rdr ha (by rw [pre_one]; simp [h91]))
      by_cases h63 : (lf s a).head? = some 63
      · rw [if_pos h63] at hre
        have hroom : a + 1 ≤ s.size := by
         have := lf_len s a
         cases hl : lf s a with
         | nil => rw [hl] at h63; simp at h63
         | cons c r => rw [hl] at this; simp at this; omega
        have hl1 : (lf s (a + 1)).length < d := by have := lf_len s a; have := lf_len s (a + 1); omega
        have HSK2 := hH (fun W (hW : Pw w R s a W) => skip_yes W R s (w1 63) a hs hW.rdr ha (by decide) (by decide) (by rw [pre_one, h63]; simp))
        have hkind := fun W (hW : Pw w R s (a + 1) W) => uh HI W R s (a + 1) hs hW.rdr hroom hW.tab hTR hl1
        cases hkr : krd d (lf s (a + 1)) with
        | none =>
          rw [hkr] at hre
          simp only at hre
          have hk2 : ∀ W, Pw w R s (a + 1) W → Calls Tryz.prog 68 #[.pointer (some ⟨R, 0, none⟩)] W fun e w' => e = fltE ∧ Hid (But R w w') := fun W hW => (hkind W hW).mono (by
           rintro e w' (⟨k, c, F, a4, hc, -⟩ | ⟨-, rfl, hb⟩)
           · rw [hkr] at hc; cases hc
           · exact ⟨rfl, hW.but.trans hb⟩)
          have HKI := hH hk2; have HYN := hH hre
          clear hk2 hkind hkr hre t1 t2 t3 HLE HRE HFO HI
          go_wp2_with (first
           | (go_at_call 83; refine (uh HSK _ HW.out).mono ?_; clear HSK; rintro e w3 ⟨rfl, m3, rfl⟩)
           | (go_at_call 83; refine (uh HSK2 _ (HW.out.drewN m3)).mono ?_; rintro e w4 ⟨rfl, hr4, hb4⟩; have HW4 := hH ((HW.out.drewN m3).next hb4 hr4); clear hr4 hb4)
           | (go_at_call 68; refine (uh HKI _ (uh HW4)).mono ?_; rintro e w5 ⟨rfl, HB5⟩))
          exact And.intro rfl (KPEnd.no (uh HYN) (uh HB5))
        | some kr =>
          obtain ⟨k, rest⟩ := kr
          rw [hkr] at hre
          simp only at hre
          have hk2 : ∀ W, Pw w R s (a + 1) W → Calls Tryz.prog 68 #[.pointer (some ⟨R, 0, none⟩)] W fun e w4 => ∃ (x0 : Int) (ap : Option Addr) (np cp : Nat) (aq : Option Addr) (nq cq : Nat) (F : List Nat) (a4 : Nat), e = .returned (.agg #[.int .i64 x0, .slice ap np cp, .slice aq nq cq]) ∧ Hid (OwnD w4 k ⟨.int .i64 x0, .slice ap np cp, .slice aq nq cq⟩ F) ∧ F.Nodup ∧ Hid (∀ b, b ∈ F → W.heap.size ≤ b ∧ b < w4.heap.size) ∧ Hid (Pw w R s a4 w4) ∧ a4 ≤ s.size ∧ Hid (rest = lf s a4) ∧ W.heap.size ≤ w4.heap.size := fun W hW => (hkind W hW).mono (by
           rintro e w4 (⟨k', ⟨y0, y1, y2⟩, F, a4, hc, h4, rfl, ho, hnd, hF, hr, hb⟩ | ⟨hc, -⟩)
           · rw [hkr] at hc
             simp only [Option.some.injEq, Prod.mk.injEq] at hc
             obtain ⟨rfl, hc⟩ := hc
             obtain ⟨p0, -, F1, F2, -, ⟨ap, cp, p1, -⟩, aq, cq, p2, -⟩ := ho.open
             simp only at p0 p1 p2
             subst p0 p1 p2
             exact ⟨_, _, _, _, _, _, _, F, a4, rfl, ho, hnd, hF, hW.next hb hr, h4, hc, hb.size⟩
           · rw [hkr] at hc; cases hc)
          have HKI := hH hk2; have HYS := hH hre
          clear hk2 hkind hkr hre t1 t2 t3 HLE HRE HFO HI
          go_wp2_with (first
           | (go_at_call 83; refine (uh HSK _ HW.out).mono ?_; clear HSK; rintro e w3 ⟨rfl, m3, rfl⟩)
           | (go_at_call 83; refine (uh HSK2 _ (HW.out.drewN m3)).mono ?_; rintro e w4 ⟨rfl, hr4, hb4⟩; have HW4 := hH ((HW.out.drewN m3).next hb4 hr4); clear hr4 hb4)
           | (go_at_call 68; refine (uh HKI _ (uh HW4)).mono ?_; rintro e w5 ⟨x0, ap, np, cp, aq, nq, cq, F, a4, rfl, HOW5, hFn, HFL, HW5, ha4, HRS, hs5⟩; obtain ⟨r0, r1, r2, z0, z1, z2⟩ := (uh HW5).cells; have hl5 := (uh HW5).box.lt))
          have hown := OwnD.single (s := 6) (t := 26) ⟨by decide, by decide⟩ (uh HOW5) (fun b hb => (uh HFL b hb).2)
          have hb4 := (uh HW4).box.lt
          have hpw6 := (uh HW5).touch (World.grownBy_alloc w5 (.cells #[.int .i64 x0, .slice ap np cp, .slice aq nq cq] 26) none) (fun b e => by cases e) hlt hTlt
          have hfin := hpw6.fin ha4 hown (List.nodup_cons.2 ⟨fun hm => by have := (uh HFL _ hm).2; omega, hFn⟩) (fun b hb => by
           rw [World.size_alloc]
           rcases List.mem_cons.1 hb with rfl | hb
           · omega
           · have := uh HFL b hb; omega) (o := Y) (by rw [uh HYS, uh HRS])
          rw [set3_alloc _ _ _ _ hl5] at hfin
          refine bodyPost_ret (v := .agg #[.int .i64 6, .slice none 0 0, .slice (some ⟨w5.heap.size, 0, none⟩) 1 1]) (by simp [results, Tryz.results68, go_sem, r0, r1, r2, hl5]) rfl ?_
          exact hfin
      · rw [if_neg h63] at hre
        have HSK2 := hH (fun W (hW : Pw w R s a W) => skip_no W R s (w1 63) a hW.rdr ha (by rw [pre_one]; simp [h63]))
        have hfo := uh HFO
        cases hkr : FXo d (lf s a) with
        | none =>
          rw [hkr] at hre
          have hk2 : ∀ W, Pw w R s a W → Calls Tryz.prog 94 #[.pointer (some ⟨R, 0, none⟩)] W fun e w' => e = fltE ∧ Hid (But R w w') := fun W hW => (hfo W hW).mono (by
           rintro e w' (⟨k, c, F, a4, hc, -⟩ | ⟨-, rfl, hb⟩)
           · rw [hkr] at hc; cases hc
           · exact ⟨rfl, hW.but.trans hb⟩)
          have HKI := hH hk2; have HYN := hH hre
          clear hk2 hfo hkr hre t1 t2 t3 HLE HRE HFO HI
          go_wp2_with (first
           | (go_at_call 83; refine (uh HSK _ HW.out).mono ?_; clear HSK; rintro e w3 ⟨rfl, m3, rfl⟩)
           | (go_at_call 83; refine (uh HSK2 _ (HW.out.drewN m3)).mono ?_; rintro e w4 ⟨rfl, m4, rfl⟩)
           | (go_at_call 94; refine (uh HKI _ (HW.out.drewN _)).mono ?_; rintro e w5 ⟨rfl, HB5⟩))
          exact And.intro rfl (KPEnd.no (uh HYN) (uh HB5))
        | some kr =>
          obtain ⟨k, rest⟩ := kr
          rw [hkr] at hre
          have hk2 : ∀ W, Pw w R s a W → Calls Tryz.prog 94 #[.pointer (some ⟨R, 0, none⟩)] W fun e w4 => ∃ (x0 : Int) (ap : Option Addr) (np cp : Nat) (aq : Option Addr) (nq cq : Nat) (F : List Nat) (a4 : Nat), e = .returned (.agg #[.int .i64 x0, .slice ap np cp, .slice aq nq cq]) ∧ Hid (OwnD w4 k ⟨.int .i64 x0, .slice ap np cp, .slice aq nq cq⟩ F) ∧ F.Nodup ∧ Hid (∀ b, b ∈ F → w.heap.size + 1 ≤ b ∧ b < w4.heap.size) ∧ Hid (Pw w R s a4 w4) ∧ a4 ≤ s.size ∧ Hid (rest = lf s a4) := fun W hW => (hfo W hW).mono (by
           rintro e w4 (⟨k', ⟨y0, y1, y2⟩, F, a4, hc, h4, rfl, ho, hnd, hF, hr, hb⟩ | ⟨hc, -⟩)
           · rw [hkr] at hc
             simp only [Option.some.injEq, Prod.mk.injEq] at hc
             obtain ⟨rfl, hc⟩ := hc
             obtain ⟨p0, -, F1, F2, -, ⟨ap, cp, p1, -⟩, aq, cq, p2, -⟩ := ho.open
             simp only at p0 p1 p2
             subst p0 p1 p2
             exact ⟨_, _, _, _, _, _, _, F, a4, rfl, ho, hnd, fun b hb' => by have := hF b hb'; have := hW.box.lt; omega, hW.next hb hr, h4, hc⟩
           · rw [hkr] at hc; cases hc)
          have HKI := hH hk2; have HYS := hH hre
          clear hk2 hfo hkr hre t1 t2 t3 HLE HRE HFO HI
          go_wp2_with (first
           | (go_at_call 83; refine (uh HSK _ HW.out).mono ?_; clear HSK; rintro e w3 ⟨rfl, m3, rfl⟩)
           | (go_at_call 83; refine (uh HSK2 _ (HW.out.drewN m3)).mono ?_; rintro e w4 ⟨rfl, m4, rfl⟩)
           | (go_at_call 94; refine (uh HKI _ (HW.out.drewN _)).mono ?_; rintro e w5 ⟨x0, ap, np, cp, aq, nq, cq, F, a4, rfl, HOW5, hFn, HFL, HW5, ha4, HRS⟩; obtain ⟨r0, r1, r2, z0, z1, z2⟩ := (uh HW5).cells))
          refine bodyPost_ret (v := .agg #[.int .i64 x0, .slice ap np cp, .slice aq nq cq]) (by simp [results, Tryz.results68, go_sem, r0, r1, r2]) rfl ?_
          exact (uh HW5).fin ha4 (uh HOW5) hFn (uh HFL) (by rw [uh HYS, uh HRS])
theorem kind_all : ∀ d, KPSaid d
 | 0 => fun w R s a _ _ _ _ _ h => by omega
 | d + 1 => kind_step d (kind_all d)
end Go.Proofs.YtccnehcpmkgbhaaGreatDoor

namespace Go.Proofs.YtccnehcpmkgbhaaGreatDoor
open Go Go.RowKit
theorem wS_snoc (l : List ByteArray) (x : ByteArray) : wS (l ++ [x]) = wS l + (x.size + 1) := by
 induction l with
 | nil => simp [wS]
 | cons a r ih => simp only [List.cons_append, wS, ih]; omega
theorem wKs_snoc (l : List Kd) (x : Kd) : wKs (l ++ [x]) = wKs l + (wKd x + 1) := by
 induction l with
 | nil => simp [wKs]; omega
 | cons a r ih => simp only [List.cons_append, wKs, ih]; omega
theorem klp_wt (rd : List UInt8 → Option (Kd × List UInt8)) (hrd : ∀ i k r, rd i = some (k, r) → wKd k + 1 + r.length ≤ i.length) :
 ∀ (f : Nat) (ns : List ByteArray) (ks : List Kd) (inp : List UInt8) (ns' : List ByteArray) (ks' : List Kd) (rest : List UInt8), klp rd f ns ks inp = some (ns', ks', rest) →
   wS ns' + wKs ks' + rest.length + 1 ≤ wS ns + wKs ks + inp.length
 | 0, ns, ks, inp, ns', ks', rest => by intro h; rw [klp] at h; cases h
 | f + 1, ns, ks, inp, ns', ks', rest => by
   intro h
   rw [klp] at h
   split at h
   · rename_i h1
     cases h
     have := congrArg List.length (khead h1)
     simp only [List.length_cons] at this
     omega
   · split at h
     · cases h
     · rename_i i1 hc
       split at h
       · cases h
       · rename_i nm i2 hn
         split at h
         · cases h
         · rename_i t i3 hr
           have h1 := klp_wt rd hrd f _ _ _ _ _ _ h
           have h2 := hrd _ _ _ hr
           have l1 := congrArg List.length (kcma_some hc)
           have l2 := congrArg List.length (knam_some hn)
           rw [wS_snoc, wKs_snoc] at h1
           simp only [List.length_append, List.length_cons, List.length_nil] at l1 l2
           have l3 : nm.data.toList.length = nm.size := rfl
           omega
theorem krd_wt : ∀ (d : Nat) (inp : List UInt8) (k : Kd) (rest : List UInt8), krd d inp = some (k, rest) → wKd k + 1 + rest.length ≤ inp.length
 | 0, inp, k, rest => by intro h; rw [krd] at h; cases h
 | d + 1, inp, k, rest => by
   intro h
   have hwk : ∀ s (k : Kd), wKd (.mk s [] [k]) = wKd k + 1 := fun s k => by simp [wKd, wKs, wS]; omega
   have hw0 : ∀ s, wKd (.mk s [] []) = 0 := fun s => by simp [wKd, wKs, wS]
   rw [krd] at h
   split at h
   · rename_i h1
     cases h
     have := congrArg List.length (kpre h1)
     simp only [List.length_append, List.length_cons, List.length_nil, Nat.reduceAdd, Nat.zero_add] at this
     rw [hw0]; omega
   · split at h
     · rename_i h1
       cases h
       have := congrArg List.length (kpre h1)
       simp only [List.length_append, List.length_cons, List.length_nil, Nat.reduceAdd, Nat.zero_add] at this
       rw [hw0]; omega
     · split at h
       · rename_i h1
         cases h
         have := congrArg List.length (kpre h1)
         simp only [List.length_append, List.length_cons, List.length_nil, Nat.reduceAdd, Nat.zero_add] at this
         rw [hw0]; omega
       · split at h
         · rename_i h1
           split at h
           · cases h
           · rename_i k' r' hk
             split at h
             · rename_i h2
               cases h
               have e := krd_wt d _ _ _ hk
               have e1 := congrArg List.length (khead h1)
               have e2 := congrArg List.length (khead h2)
               simp only [List.length_cons] at e1 e2
               rw [hwk]; omega
             · cases h
         · split at h
           · rename_i h1
             split at h
             · cases h
             · rename_i k' r' hk
               cases h
               have e := krd_wt d _ _ _ hk
               have e1 := congrArg List.length (khead h1)
               simp only [List.length_cons] at e1
               rw [hwk]; omega
           · split at h
             · rename_i h1
               split at h
               · cases h
               · rename_i ns ks r' hk
                 cases h
                 have e := klp_wt (krd d) (krd_wt d) _ _ _ _ _ _ _ hk
                 have e1 := congrArg List.length (khead h1)
                 simp only [List.length_cons, wS, wKs] at e1 e
                 rw [wKd]; omega
             · cases h
end Go.Proofs.YtccnehcpmkgbhaaGreatDoor

namespace Go.Proofs.YtccnehcpmkgbhaaGreatDoor
open Go Go.RowKit
end Go.Proofs.YtccnehcpmkgbhaaGreatDoor

namespace Go.Proofs.YtccnehcpmkgbhaaGreatDoor
open Go Go.RowKit
end Go.Proofs.YtccnehcpmkgbhaaGreatDoor

namespace Go.Proofs.YtccnehcpmkgbhaaGreatDoor
open Go Go.RowKit
def KAns (o : Option Kd) (w : World) (e : Ending) (w' : World) : Prop :=
 ∃ (k : Kd) (b : Bool) (c : C3) (F : List Nat), ((o = some k ∧ b = true) ∨ (o = none ∧ b = false ∧ k = .mk 0 [] [])) ∧ e = .returned (.tuple #[.agg #[c.c0, c.c1, c.c2], .bool b]) ∧ OwnD w' k c F ∧ F.Nodup ∧ (∀ b, b ∈ F → w.heap.size ≤ b ∧ b < w'.heap.size) ∧ Below w.heap.size w w'
theorem KAns.no {o : Option Kd} {w w' : World} (h : o = none) (hb : Below w.heap.size w w') : KAns o w (.returned (.tuple #[.agg #[.int .i64 0, .slice none 0 0, .slice none 0 0], .bool false])) w' :=
 ⟨.mk 0 [] [], false, ⟨_, _, _⟩, [], Or.inr ⟨h, rfl, rfl⟩, rfl, OwnD.leaf _ _ ⟨by decide, by decide⟩, List.nodup_nil, fun b hb => by simp at hb, hb⟩
theorem lf_zero (s : ByteArray) : lf s 0 = s.data.toList := by unfold lf; simp
theorem size_data (s : ByteArray) : s.data.toList.length = s.size := rfl
theorem below_set3 {B : Nat} {a w : World} (h : Below B a w) (b : Nat) (c : C3) (hb : B ≤ b) : Below B a (set3 w b c) := ((h.setCell hb _).setCell hb _).setCell hb _
end Go.Proofs.YtccnehcpmkgbhaaGreatDoor

namespace Go.Proofs.YtccnehcpmkgbhaaGreatDoor
open Go Go.RowKit Go.Shelf
attribute [local go_sem] Oper.semAt_some
abbrev KX (n₀ : Nat) (w0 : World) := { x : Int × Kd × C3 // KRep (fun b => b < n₀) w0 x.2.1 x.2.2 }
def kKey {n₀ : Nat} {w0 : World} (x : KX n₀ w0) : Int × Kd := (x.1.1, x.1.2.1)
def kEnc {n₀ : Nat} {w0 : World} (x : KX n₀ w0) : Array Value := #[.int .i64 x.1.1, .agg #[x.1.2.2.c0, x.1.2.2.c1, x.1.2.2.c2]]
structure Kept (n₀ : Nat) (S : Nat → Prop) (W W' : World) : Prop where
 below : Below n₀ W W'
 same : ∀ k (o : Obj), ¬ S k → W.heap[k]? = some o → o.isCells = true → W'.heap[k]? = some o
theorem Kept.refl (n₀ : Nat) (S : Nat → Prop) (W : World) : Kept n₀ S W W := ⟨Below.refl _ _, fun _ _ _ h _ => h⟩
theorem Kept.trans {n₀ : Nat} {S : Nat → Prop} {A B C : World} (h : Kept n₀ S A B) (k : Kept n₀ S B C) : Kept n₀ S A C :=
 ⟨h.below.trans k.below, fun i o hs hi ho => k.same i o hs (h.same i o hs hi ho) ho⟩
theorem Kept.grown {n₀ : Nat} {S : Nat → Prop} {A B : World} (hg : A.grownBy B none) (hn : n₀ ≤ A.heap.size) : Kept n₀ S A B :=
 ⟨(Below.refl _ _).grown hg hn (fun k e => by cases e), fun k o _ hk _ => (hg.block k (Array.getElem?_eq_some_iff.1 hk).1 (by simp)).trans hk⟩
theorem Kept.putObj {n₀ : Nat} {S : Nat → Prop} {w : World} (hn : n₀ ≤ w.heap.size) (W : World) (l : Nat) (o o' : Obj) (hl : w.heap.size ≤ l) (h : W.heap[l]? = some o) (hc : o.isCells = false) (hw : o.isWalk = false) : Kept n₀ S W (W.putObj l o') :=
 ⟨belowK_b hn W l o o' hl h hc hw, fun k o2 _ hk hc2 => (World.putObj_heap_other (fun e => by subst e; rw [h] at hk; cases hk; rw [hc] at hc2; cases hc2)).trans hk⟩
theorem depth_any {F : Fence} (hd : F.depth = none) (k : Nat) : F.room k := fun d h => by rw [hd] at h; cases h
theorem round_any {F : Fence} (hd : F.depth = none) {m m' : Nat} {P : Program} {l : Nat} {f : FuncId} {tmps : Array Value} {assign body : Code} {w : World} {R : Ending → World → Prop}
 (h : RoundIn F m P l f tmps assign body w R) : RoundIn F m' P l f tmps assign body w R := ⟨h.1, fun c cs _ => h.2 c cs (depth_any hd _)⟩
theorem yield_any {F : Fence} (hd : F.depth = none) {m : Nat} (m' : Nat) {P : Program} {l : Nat} {args : Array Value} {W : World} {R : Ending → World → Prop} (h : YieldAt F m P l args W R) : YieldAt F m' P l args W R := by
 obtain ⟨fn, tmps, assign, body, hy, hR⟩ := h
 exact ⟨fn, tmps, assign, body, hy, round_any hd hR⟩
theorem pordK_take (ks : List Kd) (k : Nat) (h : k < ks.length) (l : Int) : pordK (ks.take (k + 1)) l = pordK (ks.take k) l ++ pord ks[k] l := by
 induction ks generalizing k with
 | nil => simp at h
 | cons a r ih =>
   cases k with
   | zero => simp [pordK]
   | succ k => simp only [List.take_succ_cons, pordK, List.getElem_cons_succ]; rw [ih k (by simpa using h), List.append_assoc]
theorem pordK_take_pre (ks : List Kd) (k : Nat) (l : Int) : pordK (ks.take k) l <+: pordK ks l := by
 induction ks generalizing k with
 | nil => simp [pordK]
 | cons a r ih =>
   cases k with
   | zero => simp [pordK]
   | succ k => simp only [List.take_succ_cons, pordK]; exact (List.prefix_append_right_inj _).2 (ih k)
theorem kids_in (F : Fence) (n : Nat) (hf : F.fn 145) (hro : F.round = none) (c0 c1 : Value) (a : Option Addr) (len cap : Nat) (w : World) :
 CallsIn F n Tryz.prog 145 #[.agg #[c0, c1, .slice a len cap]] w fun e w' => e = .returned (.slice a len cap) ∧ w' = w.alloc (.cells #[c0, c1, .slice a len cap] 26) := by
 refine callsIn_of_wp Tryz.func145 rfl hf ?_ hro
 simp only [Tryz.ntmps145, List.size_toArray, List.length_cons, List.length_nil, Nat.reduceAdd, Nat.reduceSub, Array.replicate_succ, Array.replicate_zero, List.push_toArray, List.append_toArray, List.nil_append, List.cons_append]
 gi_wp2
 go_ret
 exact ⟨rfl, rfl⟩
def WalkSaid (F : Fence) (l n₀ N M : Nat) (S : Nat → Prop) (w0 : World) (J Jx : List (KX n₀ w0) → World → Prop) (sz : Nat) : Prop :=
 ∀ (T : Kd), ksz T < sz → ∀ (n : Nat) (c : C3) (lv : Int) (pre : List (KX n₀ w0)) (W : World), KRep (fun b => b < n₀) w0 T c → Below n₀ w0 W → M ≤ W.heap.size → J pre W → pre.length + (pord T lv).length ≤ N → 0 ≤ lv → lv + ksz T ≤ 1152921504606846976 →
   CallsIn F n Tryz.prog 74 #[.agg #[c.c0, c.c1, c.c2], .int .i64 lv, .func (.yield l) #[] #[]] W fun e W' =>
    (e = .returned (.bool true) ∧ ∃ q : List (KX n₀ w0), q.map kKey = pord T lv ∧ J (pre ++ q) W' ∧ Kept n₀ S W W') ∨ (e = .returned (.bool false) ∧ ∃ q : List (KX n₀ w0), q.map kKey <+: pord T lv ∧ Jx (pre ++ q) W')
theorem walkOn_step (F : Fence) (hd : F.depth = none) (hf : F.fn 74) (hk : F.fn 145) (hro : F.round = none) (l n₀ N M : Nat) (S : Nat → Prop) (w0 : World) (hn₀ : n₀ ≤ w0.heap.size)
 (J Jx : List (KX n₀ w0) → World → Prop) (hJ : ∀ s A B, J s A → A.grownBy B none → J s B) (hS : ∀ k, S k → k < M)
 (hY : ∀ m pre (x : KX n₀ w0) W, J pre W → pre.length < N → YieldAt F m Tryz.prog l (kEnc x) W fun e W' =>
   (e = .returned (.bool true) ∧ J (pre ++ [x]) W' ∧ Kept n₀ S W W') ∨ (e = .returned (.bool false) ∧ Jx (pre ++ [x]) W')) (sz : Nat)
 (IH : WalkSaid F l n₀ N M S w0 J Jx sz) : WalkSaid F l n₀ N M S w0 J Jx (sz + 1) := by
 intro T hT n c lv pre W hrep hb hMW hJp hN h0 hlv
 obtain ⟨c0, c1, c2⟩ := c
 have hrep' := hrep
 obtain ⟨e0, -, ⟨a3, cap3, e1, hl3, -⟩, a, cap, e2, hlen, hks⟩ := hrep.open
 simp only at e0 e1 e2
 subst e0 e1 e2
 have hdd : ∀ k : Nat, (F.depth.isSome = true → 1 ≤ k) := fun k h => by rw [hd] at h; cases h
 obtain ⟨x, hx⟩ : ∃ x : KX n₀ w0, x = ⟨(lv, T, ⟨.int .i64 T.sort, .slice a3 T.names.length cap3, .slice a T.kids.length cap⟩), hrep'⟩ := ⟨_, rfl⟩
 have hxk : kKey x = (lv, T) := by rw [hx]; rfl
 have hxe : kEnc x = #[.int .i64 lv, .agg #[.int .i64 T.sort, .slice a3 T.names.length cap3, .slice a T.kids.length cap]] := by rw [hx]; rfl
 have hsz := hb.size
 have hpl : 0 < (pord T lv).length := by rw [pord_eq]; simp
 have hg0 := World.grownBy_alloc W (.cells #[.int .i64 T.sort, .slice a3 T.names.length cap3, .slice a T.kids.length cap] 26) none
 have hJ0 := hJ pre _ _ hJp hg0
 have hK0 : Kept n₀ S W (W.alloc (.cells #[.int .i64 T.sort, .slice a3 T.names.length cap3, .slice a T.kids.length cap] 26)) := Kept.grown hg0 (by omega)
 have hSW : ¬ S W.heap.size := fun h => by have := hS _ h; omega
 have hr0 := row3_alloc W (.int .i64 T.sort) (.slice a3 T.names.length cap3) (.slice a T.kids.length cap) 26
 obtain ⟨fn, tmps, assign, body, hy, hR⟩ := YieldAt.mono (R' := fun e W1 => (e = .returned (.bool true) ∧ Hid (J (pre ++ [x]) W1) ∧ Hid (Kept n₀ S W W1) ∧ W1.cell? ⟨W.heap.size, 0, none⟩ = some (.int .i64 T.sort) ∧ W1.cell? ⟨W.heap.size, 1, none⟩ = some (.slice a3 T.names.length cap3) ∧ W1.cell? ⟨W.heap.size, 2, none⟩ = some (.slice a T.kids.length cap)) ∨ (e = .returned (.bool false) ∧ Hid (Jx (pre ++ [x]) W1)))
  (hY (n - 1) pre x _ hJ0 (by omega)) (fun e W1 h => h.elim (fun ⟨he, hj, hb1⟩ => by
    have q1 := hr0.of_block ((hb1.same W.heap.size _ hSW (World.alloc_heap_new W _) rfl).trans (World.alloc_heap_new W _).symm)
    exact .inl ⟨he, hj, hK0.trans hb1, q1.cell (i := 0) (by omega), q1.cell (i := 1) (by omega), q1.cell (i := 2) (by omega)⟩) (fun ⟨he, hj⟩ => .inr ⟨he, hj⟩))
 rw [hxe] at hy
 have HKS := hH hks; have HI := hH IH; have HB := hH hb; have HJ := hH hJ; have HN := hH hN; have HX := hH hxk; have HREP := hH hrep'; have HYY := hH hY
 clear hx hxe hg0 hJ0 hK0 hks IH hb hJ hSW hN hxk hrep' hrep hY hS hJp hr0 hsz
 have hm : ∀ w, (method 310 26 (.agg #[.int .i64 T.sort, .slice a3 T.names.length cap3, .slice a T.kids.length cap]) "loop.example/teagle/impl.kids").run Tryz.prog w = .ok (145, .agg #[.int .i64 T.sort, .slice a3 T.names.length cap3, .slice a T.kids.length cap]) w := fun _ => by kernel_rfl
 refine callsIn_of_wp Tryz.func74 rfl hf ?_ hro
 simp only [Tryz.ntmps74, List.size_toArray, List.length_cons, List.length_nil, Nat.reduceAdd, Nat.reduceSub, Array.replicate_succ, Array.replicate_zero, List.push_toArray, List.append_toArray, List.nil_append, List.cons_append]
 gi_wp2_with (first
  | ((try refine ⟨hdd _, ?_⟩); refine hR.mono ?_; clear hR hy; rintro e W1 (⟨rfl, HJ1, HK1, k0, k1, k2⟩ | ⟨rfl, HX1⟩))
  | ((try refine ⟨hdd _, ?_⟩); gi_at_call 145; refine (kids_in F (n - 1) hk hro _ _ _ _ _ _).mono ?_; rintro e w' ⟨rfl, rfl⟩))
 · clear hpl hm k0 k1 k2
   have hJL := uh HJ _ _ _ (uh HJ1) (World.grownBy_alloc W1 (.cells #[.int .i64 T.sort, .slice a3 T.names.length cap3, .slice a T.kids.length cap] 26) none)
   have hsW : n₀ ≤ W.heap.size := Nat.le_trans hn₀ (uh HB).size
   have hsW1 := (uh HK1).below.size
   have hKL : Kept n₀ S W (W1.alloc (.cells #[.int .i64 T.sort, .slice a3 T.names.length cap3, .slice a T.kids.length cap] 26)) := (uh HK1).trans (Kept.grown (World.grownBy_alloc _ _ none) (by omega))
   have HJL := hH hJL; have HKL := hH hKL
   clear hJL hKL HJ1 HK1
   generalize hks : T.kids = ks at *
   have HKE := hH hks; clear hks
   gi_loopw [18] (fun i wr => ∃ (k : Nat) (q : List (KX n₀ w0)), k ≤ ks.length ∧ i = .int .i64 k ∧ Hid (q.map kKey = (lv, T) :: pordK (ks.take k) (lv + 1)) ∧ Hid (J (pre ++ q) wr) ∧ Hid (Kept n₀ S W wr)) (fun i _ => ks.length - (intOf i).toNat)
   case atStart => exact ⟨0, [x], Nat.zero_le _, rfl, by simp [Hid, pordK, uh HX], uh HJL, uh HKL⟩
   case round =>
    obtain ⟨k, q, hk', rfl, HQ, HJQ, HKQ⟩ := hrel
    by_cases hlt : k < ks.length
    · obtain ⟨b, o, c, rfl, hbn, hat, hrepk⟩ := uh HKS k hlt
      have hbw := (uh HB).trans HKQ.out.below
      have hat' := hat.carry (hbw.block b hbn)
      obtain ⟨d0, d1, d2⟩ := c
      have hrepk' := hrepk
      obtain ⟨g0, -, ⟨a5, cap5, g1, -⟩, a6, cap6, g2, -⟩ := hrepk.open
      simp only at g0 g1 g2
      subst g0 g1 g2
      obtain ⟨e0, e1, e2⟩ := hat'
      simp only at e0 e1 e2
      have hmem : ks[k] ∈ T.kids := by rw [uh HKE]; exact List.getElem_mem hlt
      have hsm : ksz ks[k] < sz := by have := ksz_kid hmem; omega
      have hsm' : ksz ks[k] < ksz T := ksz_kid hmem
      have hnext : q.map kKey ++ pord ks[k] (lv + 1) = (lv, T) :: pordK (ks.take (k + 1)) (lv + 1) := by rw [HQ.out, pordK_take ks k hlt]; simp
      have hpre : q.map kKey ++ pord ks[k] (lv + 1) <+: pord T lv := by
       rw [hnext, pord_eq, uh HKE]
       exact (List.prefix_cons_inj _).2 (pordK_take_pre ks (k + 1) (lv + 1))
      have hlenq : pre.length + (q.length + (pord ks[k] (lv + 1)).length) ≤ N := by
       have h1 := hpre.length_le
       simp only [List.length_append, List.length_map] at h1
       have h2 := uh HN
       omega
      have hgw := World.grownBy_alloc wr (.cells #[.int .i64 ks[k].sort, .slice a5 ks[k].names.length cap5, .slice a6 ks[k].kids.length cap6] 26) none
      have hsWr : n₀ ≤ wr.heap.size := Nat.le_trans hsW HKQ.out.below.size
      have hcall := fun m => uh HI ks[k] hsm m ⟨.int .i64 ks[k].sort, .slice a5 ks[k].names.length cap5, .slice a6 ks[k].kids.length cap6⟩ (lv + 1) (pre ++ q) _ hrepk' (hbw.trans ((Below.refl n₀ wr).grown hgw hsWr (fun k e => by cases e))) (by have h1 := HKQ.out.below.size; have h2 := hgw.size; omega) (uh HJ _ _ _ HJQ.out hgw) (by rw [List.length_append]; omega) (by omega) (by omega)
      have HCALL := hH hcall
      have HKN := hH (HKQ.out.trans (Kept.grown (S := S) hgw hsWr))
      have HNX := hH hnext; have HPR := hH hpre
      clear hcall hgw hnext hpre hlenq hmem hrepk hrepk' hat hbw hbn hsm
      gi_wp2_with ((try refine ⟨hdd _, ?_⟩); gi_at_call 74; refine (uh HCALL _).mono ?_; clear HCALL; rintro e W2 (⟨rfl, q2, hq2, hJ2, hk2⟩ | ⟨rfl, q2, hq2, hx2⟩))
      · go_roundw
        case rel =>
         refine ⟨k + 1, q ++ q2, by omega, by go_num, ?_, ?_, (uh HKN).trans hk2⟩
         · show _ = _
           rw [List.map_append, hq2]; exact uh HNX
         · show J _ _
           rw [← List.append_assoc]; exact hJ2
        case measure => simp [intOf]; omega
      · go_ret
        refine .inr ⟨rfl, q ++ q2, ?_, by rw [← List.append_assoc]; exact hx2⟩
        rw [List.map_append]
        exact ((List.prefix_append_right_inj _).2 hq2).trans (uh HPR)
    · gi_wp2
      go_ret
      obtain rfl : k = ks.length := by omega
      refine .inl ⟨rfl, q, ?_, HJQ.out, HKQ.out⟩
      rw [HQ.out, List.take_length, pord_eq, uh HKE]
 · go_ret
   exact .inr ⟨rfl, [x], by rw [pord_eq]; simp [uh HX], uh HX1⟩
theorem walkOn_all (F : Fence) (hd : F.depth = none) (hf : F.fn 74) (hk : F.fn 145) (hro : F.round = none) (l n₀ N M : Nat) (S : Nat → Prop) (w0 : World) (hn₀ : n₀ ≤ w0.heap.size)
 (J Jx : List (KX n₀ w0) → World → Prop) (hJ : ∀ s A B, J s A → A.grownBy B none → J s B) (hS : ∀ k, S k → k < M)
 (hY : ∀ m pre (x : KX n₀ w0) W, J pre W → pre.length < N → YieldAt F m Tryz.prog l (kEnc x) W fun e W' =>
   (e = .returned (.bool true) ∧ J (pre ++ [x]) W' ∧ Kept n₀ S W W') ∨ (e = .returned (.bool false) ∧ Jx (pre ++ [x]) W')) : ∀ sz, WalkSaid F l n₀ N M S w0 J Jx sz
 | 0 => fun T h => by omega
 | sz + 1 => walkOn_step F hd hf hk hro l n₀ N M S w0 hn₀ J Jx hJ hS hY sz (walkOn_all F hd hf hk hro l n₀ N M S w0 hn₀ J Jx hJ hS hY sz)
theorem walk_in (F : Fence) (n : Nat) (hf : F.fn 47) (hro : F.round = none) (c0 c1 : Value) (a : Option Addr) (len cap : Nat) (w : World) :
 CallsIn F n Tryz.prog 47 #[.agg #[c0, c1, .slice a len cap]] w fun e w' => e = .returned (.func (.func 73) #[] #[.pointer (some ⟨w.heap.size, 0, none⟩)]) ∧ w' = w.alloc (.cells #[c0, c1, .slice a len cap] 26) := by
 refine callsIn_of_wp Tryz.func47 rfl hf ?_ hro
 simp only [Tryz.ntmps47, List.size_toArray, List.length_cons, List.length_nil, Nat.reduceAdd, Nat.reduceSub, Array.replicate_succ, Array.replicate_zero, List.push_toArray, List.append_toArray, List.nil_append, List.cons_append]
 gi_wp2
 go_ret
 exact ⟨rfl, rfl⟩
theorem walk1_in (F : Fence) (hd : F.depth = none) (n : Nat) (h1 : F.fn 73) (hf : F.fn 74) (hk : F.fn 145) (hro : F.round = none) (l Bt n₀ M : Nat) (S : Nat → Prop) (w0 : World) (hn₀ : n₀ ≤ w0.heap.size)
 (T : Kd) (c : C3) (hrep : KRep (fun b => b < n₀) w0 T c) (hlv : ksz T ≤ 1152921504606846970) (J Jx : List (KX n₀ w0) → World → Prop) (hJ : ∀ s A B, J s A → A.grownBy B none → J s B) (hS : ∀ k, S k → k < M)
 (hY : ∀ pre (x : KX n₀ w0) W, J pre W → pre.length < (pord T 1).length → YieldAt F (n - 1) Tryz.prog l (kEnc x) W fun e W' =>
   (e = .returned (.bool true) ∧ J (pre ++ [x]) W' ∧ Kept n₀ S W W') ∨ (e = .returned (.bool false) ∧ Jx (pre ++ [x]) W'))
 (W : World) (hBt : C3.at W Bt 0 c) (hb : Below n₀ w0 W) (hMW : M ≤ W.heap.size) (h0 : J [] W) :
 CallsIn F n Tryz.prog 73 #[.func (.yield l) #[] #[], .pointer (some ⟨Bt, 0, none⟩)] W fun e W' => (∃ v, e = .returned v) ∧
  ((∃ ys : List (KX n₀ w0), ys.map kKey = pord T 1 ∧ J ys W') ∨ (∃ pre : List (KX n₀ w0), pre.map kKey <+: pord T 1 ∧ Jx pre W')) := by
 have hdd : ∀ k : Nat, (F.depth.isSome = true → 1 ≤ k) := fun k h => by rw [hd] at h; cases h
 have hp := walkOn_all F hd hf hk hro l n₀ (pord T 1).length M S w0 hn₀ J Jx hJ hS (fun m pre x W hj hl => yield_any hd m (hY pre x W hj hl)) (ksz T + 1) T (by omega) (n - 1) c 1 [] W hrep hb hMW h0 (by simp) (by omega) (by omega)
 obtain ⟨c0, c1, c2⟩ := c
 obtain ⟨e0, e1, e2⟩ := hBt
 simp only at e0 e1 e2 hp
 have HP := hH hp
 clear hp hrep hY hS hJ hb
 refine callsIn_of_wp Tryz.func73 rfl h1 ?_ hro
 simp only [Tryz.ntmps73, List.size_toArray, List.length_cons, List.length_nil, Nat.reduceAdd, Nat.reduceSub, Array.replicate_succ, Array.replicate_zero, List.push_toArray, List.append_toArray, List.nil_append, List.cons_append]
 gi_wp2_with ((try refine ⟨hdd _, ?_⟩); gi_at_call 74; refine (uh HP).mono ?_; clear HP; rintro e W1 (⟨rfl, q, hq, hJ1, _⟩ | ⟨rfl, q, hq, hx⟩))
 · go_end0
   exact ⟨⟨_, rfl⟩, .inl ⟨q, hq, by simpa using hJ1⟩⟩
 · go_end0
   exact ⟨⟨_, rfl⟩, .inr ⟨q, hq, by simpa using hx⟩⟩
end Go.Proofs.YtccnehcpmkgbhaaGreatDoor

namespace Go.Proofs.YtccnehcpmkgbhaaGreatDoor
open Go Go.RowKit
theorem kindShaped_any (t : Kd) (P : Nat → Prop) (c : C3) (w : World) (hP : ∀ b, P b → b < w.heap.size) (hrep : KRep P w t c) :
 Calls Tryz.prog 48 #[.agg #[c.c0, c.c1, c.c2]] w fun e w' => e = .returned (.bool (shB t)) ∧ ∃ o, w' = w.alloc o := by
 obtain ⟨c0, c1, c2⟩ := c
 obtain ⟨e0, -, hns, a, cap, e2, hlen, -⟩ := hrep.open
 simp only at e0 e2 hns
 have HN := hH hns
 obtain ⟨a3, cap3, e1, hl3, -⟩ := hns
 subst e0 e1 e2
 clear hrep
 have hbx : ∀ o, Below w.heap.size w (w.alloc o) := fun o => (Below.refl _ _).alloc (Nat.le_refl _) o
 have hcall : ∀ o, Calls Tryz.prog 75 #[.slice a3 t.names.length cap3] (w.alloc o) fun e w' => e = .returned (.bool (riseB t.names)) ∧ w' = w.alloc o := fun o =>
  namesAscend_any _ t.names (w.alloc o) (P := P) (fun b hb => Nat.lt_of_lt_of_le (hP b hb) (hbx o).size) ((uh HN).carry (fun b hb => (hbx o).block b (hP b hb)) (fun _ h => h))
 have HC := hH hcall
 clear hcall hbx hP HN
 by_cases h1 : t.sort = 1
 · have d1 : (t.sort == 1) = true := by simp [h1]
   have d2 : (t.sort == 2) = false := by simp [h1]
   have d3 : (t.sort == 3) = false := by simp [h1]
   have d4 : (t.sort == 4) = false := by simp [h1]
   have d6 : (t.sort == 6) = false := by simp [h1]
   have d5 : (t.sort == 5) = false := by simp [h1]
   have hsh : shB t = (decide (t.kids.length = 0) && decide (t.names.length = 0)) := by simp [shB, h1]
   have HSH := hH hsh; clear hsh h1
   go_enter Tryz.func48, Tryz.ntmps48
   go_wp2_with (go_at_call 75; refine (uh HC _).mono ?_; rintro e w' ⟨rfl, rfl⟩)
   all_goals
    go_ret
    refine ⟨ret_bool ?_, _, rfl⟩
    rw [uh HSH]
    clear HSH HC d1 d2 d3 d4 d5 d6
    rw [Bool.eq_iff_iff]
    simp_all <;> omega
 by_cases h2 : t.sort = 2
 · have d1 : (t.sort == 1) = false := by simp [h2]
   have d2 : (t.sort == 2) = true := by simp [h2]
   have d3 : (t.sort == 3) = false := by simp [h2]
   have d4 : (t.sort == 4) = false := by simp [h2]
   have d6 : (t.sort == 6) = false := by simp [h2]
   have d5 : (t.sort == 5) = false := by simp [h2]
   have hsh : shB t = (decide (t.kids.length = 0) && decide (t.names.length = 0)) := by simp [shB, h2]
   have HSH := hH hsh; clear hsh h1 h2
   go_enter Tryz.func48, Tryz.ntmps48
   go_wp2_with (go_at_call 75; refine (uh HC _).mono ?_; rintro e w' ⟨rfl, rfl⟩)
   all_goals
    go_ret
    refine ⟨ret_bool ?_, _, rfl⟩
    rw [uh HSH]
    clear HSH HC d1 d2 d3 d4 d5 d6
    rw [Bool.eq_iff_iff]
    simp_all <;> omega
 by_cases h3 : t.sort = 3
 · have d1 : (t.sort == 1) = false := by simp [h3]
   have d2 : (t.sort == 2) = false := by simp [h3]
   have d3 : (t.sort == 3) = true := by simp [h3]
   have d4 : (t.sort == 4) = false := by simp [h3]
   have d6 : (t.sort == 6) = false := by simp [h3]
   have d5 : (t.sort == 5) = false := by simp [h3]
   have hsh : shB t = (decide (t.kids.length = 0) && decide (t.names.length = 0)) := by simp [shB, h3]
   have HSH := hH hsh; clear hsh h1 h2 h3
   go_enter Tryz.func48, Tryz.ntmps48
   go_wp2_with (go_at_call 75; refine (uh HC _).mono ?_; rintro e w' ⟨rfl, rfl⟩)
   all_goals
    go_ret
    refine ⟨ret_bool ?_, _, rfl⟩
    rw [uh HSH]
    clear HSH HC d1 d2 d3 d4 d5 d6
    rw [Bool.eq_iff_iff]
    simp_all <;> omega
 by_cases h4 : t.sort = 4
 · have d1 : (t.sort == 1) = false := by simp [h4]
   have d2 : (t.sort == 2) = false := by simp [h4]
   have d3 : (t.sort == 3) = false := by simp [h4]
   have d4 : (t.sort == 4) = true := by simp [h4]
   have d6 : (t.sort == 6) = false := by simp [h4]
   have d5 : (t.sort == 5) = false := by simp [h4]
   have hsh : shB t = (decide (t.kids.length = 1) && decide (t.names.length = 0)) := by simp [shB, h4]
   have HSH := hH hsh; clear hsh h1 h2 h3 h4
   go_enter Tryz.func48, Tryz.ntmps48
   go_wp2_with (go_at_call 75; refine (uh HC _).mono ?_; rintro e w' ⟨rfl, rfl⟩)
   all_goals
    go_ret
    refine ⟨ret_bool ?_, _, rfl⟩
    rw [uh HSH]
    clear HSH HC d1 d2 d3 d4 d5 d6
    rw [Bool.eq_iff_iff]
    simp_all <;> omega
 by_cases h6 : t.sort = 6
 · have d1 : (t.sort == 1) = false := by simp [h6]
   have d2 : (t.sort == 2) = false := by simp [h6]
   have d3 : (t.sort == 3) = false := by simp [h6]
   have d4 : (t.sort == 4) = false := by simp [h6]
   have d6 : (t.sort == 6) = true := by simp [h6]
   have d5 : (t.sort == 5) = false := by simp [h6]
   have hsh : shB t = (decide (t.kids.length = 1) && decide (t.names.length = 0)) := by simp [shB, h6]
   have HSH := hH hsh; clear hsh h1 h2 h3 h4 h6
   go_enter Tryz.func48, Tryz.ntmps48
   go_wp2_with (go_at_call 75; refine (uh HC _).mono ?_; rintro e w' ⟨rfl, rfl⟩)
   all_goals
    go_ret
    refine ⟨ret_bool ?_, _, rfl⟩
    rw [uh HSH]
    clear HSH HC d1 d2 d3 d4 d5 d6
    rw [Bool.eq_iff_iff]
    simp_all <;> omega
 by_cases h5 : t.sort = 5
 · have d1 : (t.sort == 1) = false := by simp [h5]
   have d2 : (t.sort == 2) = false := by simp [h5]
   have d3 : (t.sort == 3) = false := by simp [h5]
   have d4 : (t.sort == 4) = false := by simp [h5]
   have d6 : (t.sort == 6) = false := by simp [h5]
   have d5 : (t.sort == 5) = true := by simp [h5]
   have hsh : shB t = (decide (t.kids.length = t.names.length) && riseB t.names) := by simp [shB, h5]
   have HSH := hH hsh; clear hsh h1 h2 h3 h4 h6 h5
   go_enter Tryz.func48, Tryz.ntmps48
   go_wp2_with (go_at_call 75; refine (uh HC _).mono ?_; rintro e w' ⟨rfl, rfl⟩)
   all_goals
    go_ret
    refine ⟨ret_bool ?_, _, rfl⟩
    rw [uh HSH]
    clear HSH HC d1 d2 d3 d4 d5 d6
    rw [Bool.eq_iff_iff]
    simp_all <;> omega
 have d1 : (t.sort == 1) = false := by simp [h1]
 have d2 : (t.sort == 2) = false := by simp [h2]
 have d3 : (t.sort == 3) = false := by simp [h3]
 have d4 : (t.sort == 4) = false := by simp [h4]
 have d6 : (t.sort == 6) = false := by simp [h6]
 have d5 : (t.sort == 5) = false := by simp [h5]
 have hsh : shB t = false := by simp [shB, h1, h2, h3, h4, h5, h6]
 have HSH := hH hsh; clear hsh h1 h2 h3 h4 h5 h6
 go_enter Tryz.func48, Tryz.ntmps48
 go_wp2_with fail
 go_ret
 exact ⟨ret_bool (uh HSH).symm, _, rfl⟩
end Go.Proofs.YtccnehcpmkgbhaaGreatDoor
