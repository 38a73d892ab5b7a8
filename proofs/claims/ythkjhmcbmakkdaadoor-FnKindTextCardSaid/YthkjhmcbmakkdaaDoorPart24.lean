/- The walk of the program's reader of schemas, whole. For texts of at most 2^20 bytes. -/
import Derived.Test.YthkjhmcbmakkdaaDoorPart23
namespace Go.Proofs.YthkjhmcbmakkdaaDoor
open Go Go.RowKit

/-- The words of the leaves, by their sorts. -/
def kwd (k : Nat) : ByteArray := if k = 1 then wNum else if k = 2 then wText else wFlag
theorem pre_lf (wd s : ByteArray) (a : Nat) : pre wd s a = wd.data.toList.isPrefixOf (lf s a) := rfl
theorem krd_leaf (d : Nat) {s : ByteArray} {a k : Nat} (h1 : 1 ≤ k) (h3 : k ≤ 3) (hno : ∀ j, 1 ≤ j → j < k → pre (kwd j) s a = false) (hp : pre (kwd k) s a = true) : krd (d + 1) (lf s a) = some (.mk k [] [], lf s (a + (kwd k).size)) ∧ a + (kwd k).size ≤ s.size := by
  rcases (show k = 1 ∨ k = 2 ∨ k = 3 by omega) with rfl | rfl | rfl
  · have hp' : [110, 117, 109].isPrefixOf (lf s a) = true := hp
    refine ⟨?_, pre_room (by decide) hp⟩
    rw [krd, if_pos hp']
    show _ = some (_, lf s (a + 3))
    unfold lf; simp [List.drop_drop]
  · have n1 : [110, 117, 109].isPrefixOf (lf s a) = false := hno 1 (by omega) (by omega)
    have hp' : [116, 101, 120, 116].isPrefixOf (lf s a) = true := hp
    refine ⟨?_, pre_room (by decide) hp⟩
    rw [krd, if_neg (by rw [n1]; simp), if_pos hp']
    show _ = some (_, lf s (a + 4))
    unfold lf; simp [List.drop_drop]
  · have n1 : [110, 117, 109].isPrefixOf (lf s a) = false := hno 1 (by omega) (by omega)
    have n2 : [116, 101, 120, 116].isPrefixOf (lf s a) = false := hno 2 (by omega) (by omega)
    have hp' : [102, 108, 97, 103].isPrefixOf (lf s a) = true := hp
    refine ⟨?_, pre_room (by decide) hp⟩
    rw [krd, if_neg (by rw [n1]; simp), if_neg (by rw [n2]; simp), if_pos hp']
    show _ = some (_, lf s (a + 4))
    unfold lf; simp [List.drop_drop]
theorem krd_rest (d : Nat) {s : ByteArray} {a : Nat} (hno : ∀ j, 1 ≤ j → j < 4 → pre (kwd j) s a = false) : krd (d + 1) (lf s a) =
    if (lf s a).head? = some 91 then (match krd d (lf s (a + 1)) with
      | none => none
      | some (k, rest) => if rest.head? = some 93 then some (.mk 4 [] [k], rest.tail) else none)
    else if (lf s a).head? = some 63 then (match krd d (lf s (a + 1)) with
      | none => none
      | some (k, rest) => some (.mk 6 [] [k], rest))
    else FXo d (lf s a) := by
  have n1 : [110, 117, 109].isPrefixOf (lf s a) = false := hno 1 (by omega) (by omega)
  have n2 : [116, 101, 120, 116].isPrefixOf (lf s a) = false := hno 2 (by omega) (by omega)
  have n3 : [102, 108, 97, 103].isPrefixOf (lf s a) = false := hno 3 (by omega) (by omega)
  rw [krd, if_neg (by rw [n1]; simp), if_neg (by rw [n2]; simp), if_neg (by rw [n3]; simp), lf_next]
  by_cases h91 : (lf s a).head? = some 91
  · rw [if_pos h91, if_pos h91]
    rcases krd d (lf s a).tail with _ | ⟨k, rest⟩ <;> rfl
  · rw [if_neg h91, if_neg h91]
    by_cases h63 : (lf s a).head? = some 63
    · rw [if_pos h63, if_pos h63]
      rcases krd d (lf s a).tail with _ | ⟨k, rest⟩ <;> rfl
    · rw [if_neg h63, if_neg h63]
      unfold FXo FX
      by_cases h123 : (lf s a).head? = some 123
      · rw [if_pos h123, if_pos h123]
        rcases klp (krd d) ((lf s a).length + 1) [] [] (lf s a).tail with _ | ⟨ns, ks, rest⟩ <;> rfl
      · rw [if_neg h123, if_neg h123]

/-- What the world holds, and the words that do not stand there. -/
def PNo (s : ByteArray) (a k : Nat) : Prop := ∀ j, 1 ≤ j → j < k → pre (kwd j) s a = false

set_option maxRecDepth 100000 in
set_option maxHeartbeats 6400000 in
theorem kind_step (d : Nat) (IH : KPSaid d) : KPSaid (d + 1) := by
  intro w R s a hs h ha hT hTR hd
  have hlt := h.lt
  have hTlt := hT.lt
  have hpw := Pw.start h hT hTR
  have hleaf := fun k (h1 : 1 ≤ k) (h3 : k ≤ 3) (hno : PNo s a k) (hp : pre (kwd k) s a = true) => krd_leaf d h1 h3 hno hp
  have hrest := fun (hno : PNo s a 4) => krd_rest d hno
  have hform := fun W (hW : Pw w R s a W) => form_any d IH W R s a hs hW.rdr ha hW.tab hTR (by omega)
  generalize hY : krd (d + 1) (lf s a) = Y at *
  have HPW := hide hpw; have HLE := hide hleaf; have HRE := hide hrest; have HFO := hide hform; have HI := hide IH
  clear hpw hleaf hrest hform h hT hY IH
  go_enter Tryd.func54, Tryd.ntmps54
  go_wp2_with fail
  obtain ⟨W0, hW0⟩ : ∃ W0, w.alloc (.cells #[.int .i64 0, .slice none 0 0, .slice none 0 0] 26) = W0 := ⟨_, rfl⟩
  rw [hW0] at HPW ⊢
  clear hW0
  go_loopw [3] (fun i wr => ∃ (k : Nat), 1 ≤ k ∧ k ≤ 4 ∧ i = .int .i64 k ∧ Hid (PNo s a k) ∧ Hid (Pw w R s a wr)) (fun i _ => 4 - (intOf i).toNat)
  case atStart => exact ⟨1, by omega, by omega, rfl, hide (fun j h1 h2 => by omega), HPW⟩
  case round =>
    obtain ⟨k, hk1, hk4, rfl, HNO, HW⟩ := hrel
    obtain ⟨t1, t2, t3⟩ := HW.out.tab
    rcases (show k = 1 ∨ k = 2 ∨ k = 3 ∨ k = 4 by omega) with rfl | rfl | rfl | rfl
    · cases hp : pre (kwd 1) s a
      · have hno2 : PNo s a 2 := fun j h1 h2 => by
          by_cases hj : j < 1
          · exact HNO.out j h1 hj
          · obtain rfl : j = 1 := by omega
            exact hp
        have HNO2 := hide hno2
        have HSK := hide (skip_no wr.drew R s (kwd 1) a HW.out.drew.rdr ha hp)
        clear hno2 hp
        go_wp2_with fail
        go_region_law (rw [if_pos (by first | rfl | simp [Region.wanted])]; go_simp; refine (unhide HSK).mono ?_; rintro e w3 ⟨rfl, m, rfl⟩)
        go_wp2_with fail
        go_roundw
        case rel => exact ⟨2, by omega, by omega, by rfl, HNO2, hide (HW.out.drewN (1 + m))⟩
        case measure => simp [intOf]
      · have hy := unhide HLE 1 (by omega) (by omega) HNO.out hp
        have hsk : Calls Tryd.prog 72 #[.pointer (some ⟨R, 0, none⟩), .string (kwd 1)] wr.drew fun e w' => e = .returned (.bool true) ∧ Hid (Pw w R s (a + (kwd 1).size) w') := (skip_yes wr.drew R s (kwd 1) a hs HW.out.drew.rdr ha (by decide) (by decide) hp).mono fun e w' ⟨h1, h2, h3⟩ => ⟨h1, HW.out.drew.next h3 h2⟩
        have HSK := hide hsk; have HYY := hide hy
        clear hsk hy hp
        go_wp2_with fail
        go_region_law (rw [if_pos (by first | rfl | simp [Region.wanted])]; go_simp; refine (unhide HSK).mono ?_; rintro e w3 ⟨rfl, HW3⟩; obtain ⟨r0, r1, r2, z0, z1, z2⟩ := (unhide HW3).cells)
        go_wp2_with fail
        refine bodyPost_ret (v := .agg #[.int .i64 1, .slice none 0 0, .slice none 0 0]) (by simp [results, Tryd.results54, go_sem, r0, r1, r2]) rfl ?_
        exact (unhide HW3).fin (unhide HYY).2 (OwnD.leaf w3 1 ⟨by decide, by decide⟩) List.nodup_nil (fun b hb => by simp at hb) (unhide HYY).1
    · cases hp : pre (kwd 2) s a
      · have hno2 : PNo s a 3 := fun j h1 h2 => by
          by_cases hj : j < 2
          · exact HNO.out j h1 hj
          · obtain rfl : j = 2 := by omega
            exact hp
        have HNO2 := hide hno2
        have HSK := hide (skip_no wr.drew R s (kwd 2) a HW.out.drew.rdr ha hp)
        clear hno2 hp
        go_wp2_with fail
        go_region_law (rw [if_pos (by first | rfl | simp [Region.wanted])]; go_simp; refine (unhide HSK).mono ?_; rintro e w3 ⟨rfl, m, rfl⟩)
        go_wp2_with fail
        go_roundw
        case rel => exact ⟨3, by omega, by omega, by rfl, HNO2, hide (HW.out.drewN (1 + m))⟩
        case measure => simp [intOf]
      · have hy := unhide HLE 2 (by omega) (by omega) HNO.out hp
        have hsk : Calls Tryd.prog 72 #[.pointer (some ⟨R, 0, none⟩), .string (kwd 2)] wr.drew fun e w' => e = .returned (.bool true) ∧ Hid (Pw w R s (a + (kwd 2).size) w') := (skip_yes wr.drew R s (kwd 2) a hs HW.out.drew.rdr ha (by decide) (by decide) hp).mono fun e w' ⟨h1, h2, h3⟩ => ⟨h1, HW.out.drew.next h3 h2⟩
        have HSK := hide hsk; have HYY := hide hy
        clear hsk hy hp
        go_wp2_with fail
        go_region_law (rw [if_pos (by first | rfl | simp [Region.wanted])]; go_simp; refine (unhide HSK).mono ?_; rintro e w3 ⟨rfl, HW3⟩; obtain ⟨r0, r1, r2, z0, z1, z2⟩ := (unhide HW3).cells)
        go_wp2_with fail
        refine bodyPost_ret (v := .agg #[.int .i64 2, .slice none 0 0, .slice none 0 0]) (by simp [results, Tryd.results54, go_sem, r0, r1, r2]) rfl ?_
        exact (unhide HW3).fin (unhide HYY).2 (OwnD.leaf w3 2 ⟨by decide, by decide⟩) List.nodup_nil (fun b hb => by simp at hb) (unhide HYY).1
    · cases hp : pre (kwd 3) s a
      · have hno2 : PNo s a 4 := fun j h1 h2 => by
          by_cases hj : j < 3
          · exact HNO.out j h1 hj
          · obtain rfl : j = 3 := by omega
            exact hp
        have HNO2 := hide hno2
        have HSK := hide (skip_no wr.drew R s (kwd 3) a HW.out.drew.rdr ha hp)
        clear hno2 hp
        go_wp2_with fail
        go_region_law (rw [if_pos (by first | rfl | simp [Region.wanted])]; go_simp; refine (unhide HSK).mono ?_; rintro e w3 ⟨rfl, m, rfl⟩)
        go_wp2_with fail
        go_roundw
        case rel => exact ⟨4, by omega, by omega, by rfl, HNO2, hide (HW.out.drewN (1 + m))⟩
        case measure => simp [intOf]
      · have hy := unhide HLE 3 (by omega) (by omega) HNO.out hp
        have hsk : Calls Tryd.prog 72 #[.pointer (some ⟨R, 0, none⟩), .string (kwd 3)] wr.drew fun e w' => e = .returned (.bool true) ∧ Hid (Pw w R s (a + (kwd 3).size) w') := (skip_yes wr.drew R s (kwd 3) a hs HW.out.drew.rdr ha (by decide) (by decide) hp).mono fun e w' ⟨h1, h2, h3⟩ => ⟨h1, HW.out.drew.next h3 h2⟩
        have HSK := hide hsk; have HYY := hide hy
        clear hsk hy hp
        go_wp2_with fail
        go_region_law (rw [if_pos (by first | rfl | simp [Region.wanted])]; go_simp; refine (unhide HSK).mono ?_; rintro e w3 ⟨rfl, HW3⟩; obtain ⟨r0, r1, r2, z0, z1, z2⟩ := (unhide HW3).cells)
        go_wp2_with fail
        refine bodyPost_ret (v := .agg #[.int .i64 3, .slice none 0 0, .slice none 0 0]) (by simp [results, Tryd.results54, go_sem, r0, r1, r2]) rfl ?_
        exact (unhide HW3).fin (unhide HYY).2 (OwnD.leaf w3 3 ⟨by decide, by decide⟩) List.nodup_nil (fun b hb => by simp at hb) (unhide HYY).1
    · have hre := unhide HRE HNO.out
      by_cases h91 : (lf s a).head? = some 91
      · rw [if_pos h91] at hre
        have hroom : a + 1 ≤ s.size := by
          have := lf_len s a
          cases hl : lf s a with
          | nil => rw [hl] at h91; simp at h91
          | cons c r => rw [hl] at this; simp at this; omega
        have hl1 : (lf s (a + 1)).length < d := by have := lf_len s a; have := lf_len s (a + 1); omega
        have HSK := hide (fun W (hW : Pw w R s a W) => skip_yes W R s (w1 91) a hs hW.rdr ha (by decide) (by decide) (by rw [pre_one, h91]; simp))
        have hkind := fun W (hW : Pw w R s (a + 1) W) => unhide HI W R s (a + 1) hs hW.rdr hroom hW.tab hTR hl1
        cases hkr : krd d (lf s (a + 1)) with
        | none =>
          rw [hkr] at hre
          simp only at hre
          have hk2 : ∀ W, Pw w R s (a + 1) W → Calls Tryd.prog 54 #[.pointer (some ⟨R, 0, none⟩)] W fun e w' => e = fltE ∧ Hid (But R w w') := fun W hW => (hkind W hW).mono (by
            rintro e w' (⟨k, c, F, a4, hc, -⟩ | ⟨-, rfl, hb⟩)
            · rw [hkr] at hc; cases hc
            · exact ⟨rfl, hW.but.trans hb⟩)
          have HKI := hide hk2; have HYN := hide hre
          clear hk2 hkind hkr hre t1 t2 t3 HLE HRE HFO HI
          go_wp2_with (first
            | (go_at_call 72; refine (unhide HSK _ HW.out).mono ?_; rintro e w3 ⟨rfl, hr3, hb3⟩; have HW3 := hide (HW.out.next hb3 hr3); clear hr3 hb3)
            | (go_at_call 54; refine (unhide HKI _ (unhide HW3)).mono ?_; rintro e w4 ⟨rfl, HB4⟩))
          exact And.intro rfl (KPEnd.no (unhide HYN) (unhide HB4))
        | some kr =>
          obtain ⟨k, rest⟩ := kr
          rw [hkr] at hre
          simp only at hre
          have hk2 : ∀ W, Pw w R s (a + 1) W → Calls Tryd.prog 54 #[.pointer (some ⟨R, 0, none⟩)] W fun e w4 => ∃ (x0 : Int) (ap : Option Addr) (np cp : Nat) (aq : Option Addr) (nq cq : Nat) (F : List Nat) (a4 : Nat), e = .returned (.agg #[.int .i64 x0, .slice ap np cp, .slice aq nq cq]) ∧ Hid (OwnD w4 k ⟨.int .i64 x0, .slice ap np cp, .slice aq nq cq⟩ F) ∧ F.Nodup ∧ Hid (∀ b, b ∈ F → W.heap.size ≤ b ∧ b < w4.heap.size) ∧ Hid (Pw w R s a4 w4) ∧ a4 ≤ s.size ∧ Hid (rest = lf s a4) ∧ W.heap.size ≤ w4.heap.size := fun W hW => (hkind W hW).mono (by
            rintro e w4 (⟨k', ⟨y0, y1, y2⟩, F, a4, hc, h4, rfl, ho, hnd, hF, hr, hb⟩ | ⟨hc, -⟩)
            · rw [hkr] at hc
              simp only [Option.some.injEq, Prod.mk.injEq] at hc
              obtain ⟨rfl, hc⟩ := hc
              obtain ⟨p0, -, F1, F2, -, ⟨ap, cp, p1, -⟩, aq, cq, p2, -⟩ := ho.open
              simp only at p0 p1 p2
              subst p0 p1 p2
              exact ⟨_, _, _, _, _, _, _, F, a4, rfl, ho, hnd, hF, hW.next hb hr, h4, hc, hb.size⟩
            · rw [hkr] at hc; cases hc)
          have HKI := hide hk2; have HRE2 := hide hre
          clear hk2 hkind hkr hre t1 t2 t3 HLE HRE HFO HI
          by_cases h93 : rest.head? = some 93
          · have hy : Y = some (.mk 4 [] [k], rest.tail) := by rw [unhide HRE2, if_pos h93]
            have htk : ∀ W a4, PRdr W R s a4 → a4 ≤ s.size → rest = lf s a4 → Calls Tryd.prog 73 #[.pointer (some ⟨R, 0, none⟩), .string (w1 93)] W fun e w' => e = .returned (.tuple #[]) ∧ PRdr w' R s (a4 + 1) ∧ But R W w' ∧ a4 + 1 ≤ s.size := fun W a4 hW h4 hr => (take_yes W R s (w1 93) a4 hs hW h4 (by decide) (by decide) (by rw [pre_one, ← hr, h93]; simp)).mono fun e w' ⟨h1, h2, h3⟩ => ⟨h1, h2, h3, by
              have := lf_len s a4
              cases hl : lf s a4 with
              | nil => rw [hr, hl] at h93; simp at h93
              | cons c r => rw [hl] at this; simp at this; omega⟩
            have HTK := hide htk; have HYS := hide hy
            clear htk hy HRE2
            go_wp2_with (first
              | (go_at_call 72; refine (unhide HSK _ HW.out).mono ?_; rintro e w3 ⟨rfl, hr3, hb3⟩; have HW3 := hide (HW.out.next hb3 hr3); clear hr3 hb3)
              | (go_at_call 54; refine (unhide HKI _ (unhide HW3)).mono ?_; rintro e w4 ⟨x0, ap, np, cp, aq, nq, cq, F, a4, rfl, HOW, hFn, HFL, HW4, ha4, HRS, hs4⟩)
              | (go_at_call 73
                 refine (unhide HTK _ a4 ((unhide HW4).rdr.alloc _) ha4 (unhide HRS)).mono ?_
                 rintro e w5 ⟨rfl, hr5, hb5, ha5⟩
                 have hpw5 := ((unhide HW4).touch (World.grownBy_alloc w4 (.cells #[.int .i64 x0, .slice ap np cp, .slice aq nq cq] 26) none) (fun b e => by cases e) hlt hTlt).next hb5 hr5
                 have hb3 := (unhide HW3).box.lt
                 have hbx4 := (row3_alloc w4 (.int .i64 x0) (.slice ap np cp) (.slice aq nq cq) 26).of_block (hb5.at (by simp) (by omega))
                 have k0 := hbx4.cell (i := 0) (by omega); have k1 := hbx4.cell (i := 1) (by omega); have k2 := hbx4.cell (i := 2) (by omega)
                 simp only [row3] at k0 k1 k2
                 have HOW5 := hide (OwnD.carry k _ F (fun b hb => (hb5.at (by rw [World.size_alloc]; have := (unhide HFL b hb).2; omega) (by have := (unhide HFL b hb).1; omega)).trans (Below.heap_alloc _ _ _ (unhide HFL b hb).2)) (unhide HOW))
                 have hs5 := hb5.size
                 rw [World.size_alloc] at hs5
                 have HW5 := hide hpw5
                 obtain ⟨r0, r1, r2, z0, z1, z2⟩ := (unhide HW5).cells
                 have hl5 := (unhide HW5).box.lt
                 clear hr5 hb5 hpw5 hbx4))
            have hown := OwnD.single (s := 4) (t := 26) ⟨by decide, by decide⟩ (unhide HOW5) (fun b hb => by have := (unhide HFL b hb).2; omega)
            have hb3 := (unhide HW3).box.lt
            have hpw6 := (unhide HW5).touch (World.grownBy_alloc w5 (.cells #[.int .i64 x0, .slice ap np cp, .slice aq nq cq] 26) none) (fun b e => by cases e) hlt hTlt
            have hfin := hpw6.fin ha5 hown (List.nodup_cons.2 ⟨fun hm => by have := (unhide HFL _ hm).2; omega, hFn⟩) (fun b hb => by
              rw [World.size_alloc]
              rcases List.mem_cons.1 hb with rfl | hb
              · omega
              · have := unhide HFL b hb; omega) (o := Y) (by rw [unhide HYS, unhide HRS, lf_next])
            rw [set3_alloc _ _ _ _ hl5] at hfin
            refine bodyPost_ret (v := .agg #[.int .i64 4, .slice none 0 0, .slice (some ⟨w5.heap.size, 0, none⟩) 1 1]) (by simp [results, Tryd.results54, go_sem, r0, r1, r2, hl5]) rfl ?_
            exact hfin
          · have hy : Y = none := by rw [unhide HRE2, if_neg h93]
            have htk : ∀ W a4, PRdr W R s a4 → a4 ≤ s.size → rest = lf s a4 → Calls Tryd.prog 73 #[.pointer (some ⟨R, 0, none⟩), .string (w1 93)] W fun e w' => e = fltE ∧ ∃ m, w' = W.drewN m := fun W a4 hW h4 hr => take_no W R s (w1 93) a4 hW h4 (by rw [pre_one, ← hr]; simp [h93])
            have HTK := hide htk; have HYS := hide hy
            clear htk hy HRE2
            go_wp2_with (first
              | (go_at_call 72; refine (unhide HSK _ HW.out).mono ?_; rintro e w3 ⟨rfl, hr3, hb3⟩; have HW3 := hide (HW.out.next hb3 hr3); clear hr3 hb3)
              | (go_at_call 54; refine (unhide HKI _ (unhide HW3)).mono ?_; rintro e w4 ⟨x0, ap, np, cp, aq, nq, cq, F, a4, rfl, HOW, hFn, HFL, HW4, ha4, HRS, hs4⟩)
              | (go_at_call 73
                 refine (unhide HTK _ a4 ((unhide HW4).rdr.alloc _) ha4 (unhide HRS)).mono ?_
                 rintro e w5 ⟨rfl, m5, rfl⟩))
            exact And.intro rfl (KPEnd.no (unhide HYS) (but_drewN ((unhide HW4).but.trans (But.alloc _ _ _)) m5))
      · rw [if_neg h91] at hre
        have HSK := hide (fun W (hW : Pw w R s a W) => skip_no W R s (w1 91) a hW.rdr ha (by rw [pre_one]; simp [h91]))
        by_cases h63 : (lf s a).head? = some 63
        · rw [if_pos h63] at hre
          have hroom : a + 1 ≤ s.size := by
            have := lf_len s a
            cases hl : lf s a with
            | nil => rw [hl] at h63; simp at h63
            | cons c r => rw [hl] at this; simp at this; omega
          have hl1 : (lf s (a + 1)).length < d := by have := lf_len s a; have := lf_len s (a + 1); omega
          have HSK2 := hide (fun W (hW : Pw w R s a W) => skip_yes W R s (w1 63) a hs hW.rdr ha (by decide) (by decide) (by rw [pre_one, h63]; simp))
          have hkind := fun W (hW : Pw w R s (a + 1) W) => unhide HI W R s (a + 1) hs hW.rdr hroom hW.tab hTR hl1
          cases hkr : krd d (lf s (a + 1)) with
          | none =>
            rw [hkr] at hre
            simp only at hre
            have hk2 : ∀ W, Pw w R s (a + 1) W → Calls Tryd.prog 54 #[.pointer (some ⟨R, 0, none⟩)] W fun e w' => e = fltE ∧ Hid (But R w w') := fun W hW => (hkind W hW).mono (by
              rintro e w' (⟨k, c, F, a4, hc, -⟩ | ⟨-, rfl, hb⟩)
              · rw [hkr] at hc; cases hc
              · exact ⟨rfl, hW.but.trans hb⟩)
            have HKI := hide hk2; have HYN := hide hre
            clear hk2 hkind hkr hre t1 t2 t3 HLE HRE HFO HI
            go_wp2_with (first
              | (go_at_call 72; refine (unhide HSK _ HW.out).mono ?_; clear HSK; rintro e w3 ⟨rfl, m3, rfl⟩)
              | (go_at_call 72; refine (unhide HSK2 _ (HW.out.drewN m3)).mono ?_; rintro e w4 ⟨rfl, hr4, hb4⟩; have HW4 := hide ((HW.out.drewN m3).next hb4 hr4); clear hr4 hb4)
              | (go_at_call 54; refine (unhide HKI _ (unhide HW4)).mono ?_; rintro e w5 ⟨rfl, HB5⟩))
            exact And.intro rfl (KPEnd.no (unhide HYN) (unhide HB5))
          | some kr =>
            obtain ⟨k, rest⟩ := kr
            rw [hkr] at hre
            simp only at hre
            have hk2 : ∀ W, Pw w R s (a + 1) W → Calls Tryd.prog 54 #[.pointer (some ⟨R, 0, none⟩)] W fun e w4 => ∃ (x0 : Int) (ap : Option Addr) (np cp : Nat) (aq : Option Addr) (nq cq : Nat) (F : List Nat) (a4 : Nat), e = .returned (.agg #[.int .i64 x0, .slice ap np cp, .slice aq nq cq]) ∧ Hid (OwnD w4 k ⟨.int .i64 x0, .slice ap np cp, .slice aq nq cq⟩ F) ∧ F.Nodup ∧ Hid (∀ b, b ∈ F → W.heap.size ≤ b ∧ b < w4.heap.size) ∧ Hid (Pw w R s a4 w4) ∧ a4 ≤ s.size ∧ Hid (rest = lf s a4) ∧ W.heap.size ≤ w4.heap.size := fun W hW => (hkind W hW).mono (by
              rintro e w4 (⟨k', ⟨y0, y1, y2⟩, F, a4, hc, h4, rfl, ho, hnd, hF, hr, hb⟩ | ⟨hc, -⟩)
              · rw [hkr] at hc
                simp only [Option.some.injEq, Prod.mk.injEq] at hc
                obtain ⟨rfl, hc⟩ := hc
                obtain ⟨p0, -, F1, F2, -, ⟨ap, cp, p1, -⟩, aq, cq, p2, -⟩ := ho.open
                simp only at p0 p1 p2
                subst p0 p1 p2
                exact ⟨_, _, _, _, _, _, _, F, a4, rfl, ho, hnd, hF, hW.next hb hr, h4, hc, hb.size⟩
              · rw [hkr] at hc; cases hc)
            have HKI := hide hk2; have HYS := hide hre
            clear hk2 hkind hkr hre t1 t2 t3 HLE HRE HFO HI
            go_wp2_with (first
              | (go_at_call 72; refine (unhide HSK _ HW.out).mono ?_; clear HSK; rintro e w3 ⟨rfl, m3, rfl⟩)
              | (go_at_call 72; refine (unhide HSK2 _ (HW.out.drewN m3)).mono ?_; rintro e w4 ⟨rfl, hr4, hb4⟩; have HW4 := hide ((HW.out.drewN m3).next hb4 hr4); clear hr4 hb4)
              | (go_at_call 54; refine (unhide HKI _ (unhide HW4)).mono ?_; rintro e w5 ⟨x0, ap, np, cp, aq, nq, cq, F, a4, rfl, HOW5, hFn, HFL, HW5, ha4, HRS, hs5⟩; obtain ⟨r0, r1, r2, z0, z1, z2⟩ := (unhide HW5).cells; have hl5 := (unhide HW5).box.lt))
            have hown := OwnD.single (s := 6) (t := 26) ⟨by decide, by decide⟩ (unhide HOW5) (fun b hb => (unhide HFL b hb).2)
            have hb4 := (unhide HW4).box.lt
            have hpw6 := (unhide HW5).touch (World.grownBy_alloc w5 (.cells #[.int .i64 x0, .slice ap np cp, .slice aq nq cq] 26) none) (fun b e => by cases e) hlt hTlt
            have hfin := hpw6.fin ha4 hown (List.nodup_cons.2 ⟨fun hm => by have := (unhide HFL _ hm).2; omega, hFn⟩) (fun b hb => by
              rw [World.size_alloc]
              rcases List.mem_cons.1 hb with rfl | hb
              · omega
              · have := unhide HFL b hb; omega) (o := Y) (by rw [unhide HYS, unhide HRS])
            rw [set3_alloc _ _ _ _ hl5] at hfin
            refine bodyPost_ret (v := .agg #[.int .i64 6, .slice none 0 0, .slice (some ⟨w5.heap.size, 0, none⟩) 1 1]) (by simp [results, Tryd.results54, go_sem, r0, r1, r2, hl5]) rfl ?_
            exact hfin
        · rw [if_neg h63] at hre
          have HSK2 := hide (fun W (hW : Pw w R s a W) => skip_no W R s (w1 63) a hW.rdr ha (by rw [pre_one]; simp [h63]))
          have hfo := unhide HFO
          cases hkr : FXo d (lf s a) with
          | none =>
            rw [hkr] at hre
            have hk2 : ∀ W, Pw w R s a W → Calls Tryd.prog 74 #[.pointer (some ⟨R, 0, none⟩)] W fun e w' => e = fltE ∧ Hid (But R w w') := fun W hW => (hfo W hW).mono (by
              rintro e w' (⟨k, c, F, a4, hc, -⟩ | ⟨-, rfl, hb⟩)
              · rw [hkr] at hc; cases hc
              · exact ⟨rfl, hW.but.trans hb⟩)
            have HKI := hide hk2; have HYN := hide hre
            clear hk2 hfo hkr hre t1 t2 t3 HLE HRE HFO HI
            go_wp2_with (first
              | (go_at_call 72; refine (unhide HSK _ HW.out).mono ?_; clear HSK; rintro e w3 ⟨rfl, m3, rfl⟩)
              | (go_at_call 72; refine (unhide HSK2 _ (HW.out.drewN m3)).mono ?_; rintro e w4 ⟨rfl, m4, rfl⟩)
              | (go_at_call 74; refine (unhide HKI _ (HW.out.drewN _)).mono ?_; rintro e w5 ⟨rfl, HB5⟩))
            exact And.intro rfl (KPEnd.no (unhide HYN) (unhide HB5))
          | some kr =>
            obtain ⟨k, rest⟩ := kr
            rw [hkr] at hre
            have hk2 : ∀ W, Pw w R s a W → Calls Tryd.prog 74 #[.pointer (some ⟨R, 0, none⟩)] W fun e w4 => ∃ (x0 : Int) (ap : Option Addr) (np cp : Nat) (aq : Option Addr) (nq cq : Nat) (F : List Nat) (a4 : Nat), e = .returned (.agg #[.int .i64 x0, .slice ap np cp, .slice aq nq cq]) ∧ Hid (OwnD w4 k ⟨.int .i64 x0, .slice ap np cp, .slice aq nq cq⟩ F) ∧ F.Nodup ∧ Hid (∀ b, b ∈ F → w.heap.size + 1 ≤ b ∧ b < w4.heap.size) ∧ Hid (Pw w R s a4 w4) ∧ a4 ≤ s.size ∧ Hid (rest = lf s a4) := fun W hW => (hfo W hW).mono (by
              rintro e w4 (⟨k', ⟨y0, y1, y2⟩, F, a4, hc, h4, rfl, ho, hnd, hF, hr, hb⟩ | ⟨hc, -⟩)
              · rw [hkr] at hc
                simp only [Option.some.injEq, Prod.mk.injEq] at hc
                obtain ⟨rfl, hc⟩ := hc
                obtain ⟨p0, -, F1, F2, -, ⟨ap, cp, p1, -⟩, aq, cq, p2, -⟩ := ho.open
                simp only at p0 p1 p2
                subst p0 p1 p2
                exact ⟨_, _, _, _, _, _, _, F, a4, rfl, ho, hnd, fun b hb' => by have := hF b hb'; have := hW.box.lt; omega, hW.next hb hr, h4, hc⟩
              · rw [hkr] at hc; cases hc)
            have HKI := hide hk2; have HYS := hide hre
            clear hk2 hfo hkr hre t1 t2 t3 HLE HRE HFO HI
            go_wp2_with (first
              | (go_at_call 72; refine (unhide HSK _ HW.out).mono ?_; clear HSK; rintro e w3 ⟨rfl, m3, rfl⟩)
              | (go_at_call 72; refine (unhide HSK2 _ (HW.out.drewN m3)).mono ?_; rintro e w4 ⟨rfl, m4, rfl⟩)
              | (go_at_call 74; refine (unhide HKI _ (HW.out.drewN _)).mono ?_; rintro e w5 ⟨x0, ap, np, cp, aq, nq, cq, F, a4, rfl, HOW5, hFn, HFL, HW5, ha4, HRS⟩; obtain ⟨r0, r1, r2, z0, z1, z2⟩ := (unhide HW5).cells))
            refine bodyPost_ret (v := .agg #[.int .i64 x0, .slice ap np cp, .slice aq nq cq]) (by simp [results, Tryd.results54, go_sem, r0, r1, r2]) rfl ?_
            exact (unhide HW5).fin ha4 (unhide HOW5) hFn (unhide HFL) (by rw [unhide HYS, unhide HRS])

theorem kind_all : ∀ d, KPSaid d
  | 0 => fun w R s a _ _ _ _ _ h => by omega
  | d + 1 => kind_step d (kind_all d)
end Go.Proofs.YthkjhmcbmakkdaaDoor
