/- The program's reader of trees: forms and maybes, given the reading of a tree one level below. For texts of at most 2^20 bytes. -/
import Derived.Test.YtgamonfmgngilaaGreatDoorPart26
namespace Go.Proofs.YtgamonfmgngilaaGreatDoor
open Go Go.RowKit

theorem nm_size (s : ByteArray) (a : Nat) : (⟨((lf s a).takeWhile nameByte).toArray⟩ : ByteArray).size ≤ s.size := by
  have h1 := (List.takeWhile_prefix (p := nameByte) (l := lf s a)).length_le
  have h2 := lf_len s a
  show ((lf s a).takeWhile nameByte).toArray.size ≤ _
  simp only [List.size_toArray]
  omega

set_option maxRecDepth 100000 in
set_option maxHeartbeats 3200000 in
theorem form_walk (d : Nat) (hd : d ≤ 6) (IH : TSaid d) (w : World) (R : Nat) (s : ByteArray) (a : Nat) (p : Int) (hs : s.size ≤ 1048576) (h : TR w R s a p (6 - d)) (hh : (lf s a).head? = some 123) (hE : Env w) (hR : gTop ≤ R) (hp0 : 0 ≤ p) (hp1 : p ≤ 120) :
    Calls Tryz.prog 63 #[.pointer (some ⟨R, 0, none⟩)] w fun e w' => MEnd (frmO d (lf s a) p) w R s (6 - d) e w' := by
  have hroom := lf_room hh
  have hlt := h.lt
  have htk := xtake_yes w R 2 s (w1 123) a hs h.tx (by omega) (by decide) (by decide) (by rw [pre_one]; exact decide_eq_true hh)
  obtain ⟨X, hX⟩ : ∃ X, X = lp (rdT d) true 125 ((lf s a).length + 1) [] [] (lf s (a + 1)) p := ⟨_, rfl⟩
  have hO : frmO d (lf s a) p = frmF X := by rw [hX, lf_next]; rfl
  have hl1 : (lf s (a + 1)).length < (lf s a).length + 1 := by rw [lf_len, lf_len]; omega
  generalize frmO d (lf s a) p = O at *
  obtain ⟨i0, hi, hz0, hz1, hz2⟩ := info_parts infoSortedR
  obtain ⟨j0, hj, hy0, hy1, hy2⟩ := info_parts infoStrT
  have HII := hide hi; have HZ0 := hide hz0; have HZ1 := hide hz1; have HZ2 := hide hz2
  have HJJ := hide hj; have HY0 := hide hy0; have HY1 := hide hy1; have HY2 := hide hy2
  have HTK := hide htk; have H := hide h; have HE := hide hE; have HI := hide IH; have HO := hide hO; have HX := hide hX
  clear htk h hE IH hO hX hi hz0 hz1 hz2 hh hj hy0 hy1 hy2
  generalize hL : (6 : Int) - (d : Int) = L at *
  have HL := hide hL; clear hL
  go_enter Tryz.func63, Tryz.ntmps63
  go_wp2_with (go_at_call 73; refine (unhide HTK).mono ?_; rintro e w2 ⟨rfl, hr2, hm2⟩; have HR2 := hide ((unhide H).mv hm2 hr2); have HM2 := hide hm2.but; have HS2 := hide hm2.size; clear hr2 hm2 HTK)
  go_loopw [3, 4] (fun vN v wr => ∃ (ns : List ByteArray) (ks : List Tr) (k : Nat) (aN : Option Addr) (capN : Nat) (a' : Option Addr) (cap' : Nat) (xs : List Value) (aa : Nat) (q : Int), vN = .slice aN k capN ∧ v = .slice a' k cap' ∧ Hid (ns.length = k ∧ ks.length = k ∧ k ≤ aa ∧ aa ≤ s.size ∧ 0 ≤ q ∧ q ≤ 120 ∧ ∃ f, (lf s aa).length < f ∧ lp (rdT d) true 125 f ns ks (lf s aa) q = X) ∧ Hid (GotS w.heap.size wr (.slice aN k capN) (.slice a' k cap') ns ks xs) ∧ Hid (TR wr R s aa q L) ∧ Hid (But R w wr)) (fun _ _ wr => s.size - txAt wr R 2)
  case atStart => exact ⟨[], [], 0, none, 0, none, 0, [], a + 1, p, rfl, rfl, hide ⟨rfl, rfl, by omega, hroom, hp0, hp1, _, hl1, (unhide HX).symm⟩, hide ((GotS.start w.heap.size w).kept (R := R) (by omega) (unhide HM2)), HR2, HM2⟩
  case round =>
    obtain ⟨ns, ks, k, aN, capN, a', cap', xs, aa, q, rfl, rfl, HA, HG, HT, HB⟩ := hrel
    obtain ⟨hnl, hkl, hka, haa, hq0, hq1, f, hf, hfX⟩ := HA.out
    obtain ⟨f, rfl⟩ : ∃ g, f = g + 1 := ⟨f - 1, by omega⟩
    have hat := HT.out.tx.atOf
    have HAT := hide hat
    have HMO := hide (more_any wr R 2 s aa k 125 hs HT.out.tx haa)
    have HFX := hide hfX
    have hkb : k ≤ 1048576 := by omega
    clear hfX hat
    go_wp2_with fail
    refine (unhide HMO).mono ?_
    rintro e w3 ⟨hm3, ⟨h125, rfl, ht3⟩ | ⟨hne, a1, hc1, ha1, ha1s, rfl, ht3⟩ | ⟨hne, hc1, rfl⟩⟩
    · have hfx := unhide HFX
      rw [lp, if_pos h125] at hfx
      have hr3 := lf_room h125
      have hg3 := HG.out.kept (R := R) (by omega) hm3.but
      have hOO := unhide HO
      rw [← hfx] at hOO
      simp only [frmF] at hOO
      obtain ⟨hst, hsk⟩ := hg3.done
      have HNF := hide (newForm_any (.slice aN k capN) ns a' k cap' w3 (P := fun b => w.heap.size ≤ b ∧ b < w3.heap.size) (fun b hb => hb.2) hst)
      have HST := hide hst; have HSK := hide hsk
      have HT3 := hide (HT.out.mv hm3 ht3); have HB3 := hide (HB.out.trans hm3.but)
      have HOO := hide hOO
      clear hfx hm3 ht3 HMO hOO h125 hst hsk hg3
      go_wp2_with fail
      refine (unhide HNF).mono ?_
      rintro e w4 ⟨⟨⟨-, hri⟩, rfl⟩ | ⟨hno, rfl⟩, hb4⟩
      · have hlt3 := (unhide HT3).lt
        have hsr : SRep (fun b => w.heap.size ≤ b ∧ b < w4.heap.size) w4 (.mk 5 0 ByteArray.empty ns ks) (.iface 95 (.agg #[.slice aN k capN, .slice a' k cap'])) :=
          SRep.carry (w := w3) (P := fun b => w.heap.size ≤ b ∧ b < w3.heap.size) (fun b hb => hb4.block b hb.2) (fun b hb => ⟨hb.1, Nat.lt_of_lt_of_le hb.2 hb4.size⟩) _ _ (srep5 (t := .mk 5 0 ByteArray.empty ns ks) rfl (unhide HST) (unhide HSK))
        have HSR := hide hsr; have HRI := hide hri
        have HT4 := hide ((unhide HT3).of_block (hb4.block R hlt3))
        have HB4 := hide ((unhide HB3).trans (Mg.below (R := R) (o := 0) hb4 hlt3).but)
        clear hsr hri hb4 HNF
        go_wp2_with fail
        go_ret
        refine MEnd.yes (t := .mk 5 0 ByteArray.empty ns ks) (a2 := aa + 1) (q := q) ?_ hr3 (unhide HB4) (unhide HSR) (unhide HT4) hq0 hq1
        rw [unhide HOO, if_pos (unhide HRI), lf_next]
      · have hlt3 := (unhide HT3).lt
        have HNO := hide hno
        have HB4 := hide ((unhide HB3).trans (Mg.below (R := R) (o := 0) hb4 hlt3).but)
        clear hno hb4 HNF
        go_wp2_with fail
        refine ⟨rfl, MEnd.no ?_ (unhide HB4)⟩
        rw [unhide HOO, if_neg (fun h => unhide HNO ⟨hnl, h⟩)]
    · have hfx := unhide HFX
      rw [lp, if_neg hne, hkl, hc1] at hfx
      simp only at hfx
      have hg3 := HG.out.kept (R := R) (by omega) hm3.but
      have ht3' := HT.out.mv hm3 ht3
      have hb3 := HB.out.trans hm3.but
      have hnm := nm_size s a1
      have hrl := rn_le nameByte s a1 ha1s
      have hdr := rn_drop nameByte s a1
      have HRN := hide (xrun_name w3 R 2 s a1 hs ht3'.tx ha1s)
      have hnmr : nmr true ns (lf s a1) = if (lf s (a1 + rn nameByte s a1)).head? = some 58 then some (ns ++ [⟨((lf s a1).takeWhile nameByte).toArray⟩], lf s (a1 + rn nameByte s a1 + 1)) else none := by
        unfold nmr
        rw [if_pos rfl, hdr, lf_next, hdr]
      rw [hnmr] at hfx
      have ha12 : a1 ≤ a1 + rn nameByte s a1 := Nat.le_add_right _ _
      generalize (⟨((lf s a1).takeWhile nameByte).toArray⟩ : ByteArray) = nm at *
      generalize a1 + rn nameByte s a1 = a2 at *
      have HG3 := hide hg3; have HT3 := hide ht3'; have HB3 := hide hb3; have HFX2 := hide hfx
      clear hg3 ht3' hb3 hfx hm3 ht3 HMO hne hc1 hnmr hdr
      have hs3 := (unhide HB3).size
      go_wp2_with (first
        | (go_at_call 95; refine (unhide HRN).mono ?_; rintro e w4 ⟨rfl, ht4, hm4⟩; have HT4 := hide ((unhide HT3).mv hm4 ht4); have HG4 := hide ((unhide HG3).kept (R := R) (by omega) hm4.but); have HB4 := hide ((unhide HB3).trans hm4.but); have hs4 := hm4.but.size; clear ht4 hm4 HRN)
        | (at_builtin; refine append_row _ rfl _ _ 23 rfl w.heap.size 9 j0 (.string ByteArray.empty) 1 16 Tryz.underlying23 (unhide HJJ) (unhide HY0) (unhide HY1) (unhide HY2) rfl (by decide) (.slice aN k capN) k (ns.map Value.string) rfl (by have := (unhide HG4).names; rw [hnl] at this; exact this.alloc _) ⟨w4.heap.size, 0, none⟩ 1 1 [.string nm] rfl rfl (cell_one _ _ _) (fun u hu => by simp at hu; subst hu; rfl) (by decide) (by unfold maxLen; omega) (by omega) (by simp; omega) ?_; intro vN' w5 hown5 hgrow5 hv5))
      obtain ⟨gN, capN', hvN⟩ : ∃ g' cap'', vN' = .slice (some ⟨g', 0, none⟩) (k + 1) cap'' := by
        rcases hown5.2 with ⟨_, h⟩ | ⟨g', cap'', _, h, _⟩
        · omega
        · exact ⟨g', cap'', h⟩
      have hlo : ∀ b, (Value.slice aN k capN).ownBlock = some b → w.heap.size ≤ b := fun b hb => ((unhide HG4).names.lt b hb).1
      have hga : GotS w.heap.size w5 vN' (.slice a' k cap') (ns ++ [nm]) ks xs :=
        ((unhide HG4).alloc (.cells #[.string nm] 9)).name (by omega) (by rw [hnl]; exact hown5) hgrow5 hv5
      have hR5 : w5.heap[R]? = w4.heap[R]? := by
        rw [hgrow5.block R (by simp; omega) (fun e => by have := hlo R e.symm; omega)]
        exact Below.heap_alloc _ _ _ (by omega)
      have hs5 := hgrow5.size
      rw [World.size_alloc] at hs5
      have hbut5 : But R w w5 := by
        have h2 := unhide HB4
        refine ⟨hgrow5.os.trans h2.os, hgrow5.tape.trans h2.tape, hgrow5.output.trans h2.output, by omega, fun i hi hne => ?_⟩
        rw [hgrow5.block i (by simp; omega) (fun e => by have := hlo i e.symm; omega), Below.heap_alloc _ _ _ (by omega), h2.block i hi hne]
      have htr5 := (unhide HT4).of_block hR5
      subst hvN
      have HGA := hide hga; have HT5 := hide htr5; have HB5 := hide hbut5
      clear hga htr5 hbut5 hown5 hgrow5 hv5 hR5 hlo HG4 HT4 HB4 HG3 HT3 HB3
      by_cases h58 : (lf s a2).head? = some 58
      · have hr58 := lf_room h58
        have hfx := unhide HFX2
        rw [if_pos h58] at hfx
        simp only at hfx
        have HTK2 := hide (xtake_yes w5 R 2 s (w1 58) a2 hs (unhide HT5).tx hrl (by decide) (by decide) (by rw [pre_one]; exact decide_eq_true h58))
        have HFX3 := hide hfx
        clear hfx h58 HFX2
        go_wp2_with (go_at_call 73; refine (unhide HTK2).mono ?_; rintro e w6 ⟨rfl, ht6, hm6⟩; have HT6 := hide ((unhide HT5).mv hm6 ht6); have HG6 := hide ((unhide HGA).kept (R := R) (by omega) hm6.but); have HB6 := hide ((unhide HB5).trans hm6.but); have hs6 := hm6.but.size; clear ht6 hm6 HTK2)
        have hcall : Calls Tryz.prog 66 #[.pointer (some ⟨R, 0, none⟩)] w6 fun e w' => MEnd (rdT d (lf s (a2 + 1)) q) w6 R s L e w' := by
          have := unhide HI w6 R s (a2 + 1) q hs (by rw [unhide HL]; exact unhide HT6) hr58 ((unhide HE).but (unhide HB6) hR) hR hq0 hq1
          rw [unhide HL] at this
          exact this
        have HCALL := hide hcall
        clear hcall HT6 HGA HT5 HB5
        go_wp2_with fail
        refine (unhide HCALL).mono ?_
        rintro e w7 ⟨hb7, ⟨t, a4, q4, v4, hrd, ha4, rfl, hsr7, htr7, hq40, hq41⟩ | ⟨hrd, rfl⟩⟩
        · have hfx := unhide HFX3
          rw [hrd] at hfx
          simp only at hfx
          have hlen := rdT_len d hd _ _ _ _ _ hrd
          rw [lf_len, lf_len] at hlen
          have hg7 := (unhide HG6).kept (R := R) (by omega) hb7
          have hs7 := hb7.size
          have hnew : SRep (fun b => w.heap.size ≤ b ∧ b < w7.heap.size ∧ some b ≠ (Value.slice (some ⟨gN, 0, none⟩) (k + 1) capN').ownBlock ∧ some b ≠ (Value.slice a' k cap').ownBlock) w7 t v4 :=
            SRep.carry (fun _ _ => rfl) (fun b hb => ⟨by omega, hb.2, fun e => by have := ((unhide HG6).names.lt b e.symm).2; omega, fun e => by have := ((unhide HG6).kids.lt b e.symm).2; omega⟩) _ _ hsr7
          obtain ⟨T, x, rfl⟩ := hsr7.iface
          have HNEW := hide hnew; have HG7 := hide hg7; have HT7 := hide htr7; have HB7 := hide ((unhide HB6).trans hb7); have HFX4 := hide hfx
          clear hfx hrd hnew hg7 htr7 hb7 hsr7 HG6 HB6 HCALL HFX3 HFX
          go_wp2_with (at_builtin; refine append_row _ rfl _ _ 91 rfl w.heap.size 48 i0 .nilIface 1 16 Tryz.underlying91 (unhide HII) (unhide HZ0) (unhide HZ1) (unhide HZ2) rfl (by decide) (.slice a' k cap') k xs rfl (by have := (unhide HG7).kids; rw [hkl] at this; exact this.alloc _) ⟨w7.heap.size, 0, none⟩ 1 1 [.iface T x] rfl rfl (cell_one _ _ _) (fun u hu => by simp at hu; subst hu; rfl) (by decide) (by unfold maxLen; omega) (by omega) (by simp; omega) ?_; intro v' w8 hown8 hgrow8 hv8)
          obtain ⟨g', cap'', hv''⟩ : ∃ g' cap'', v' = .slice (some ⟨g', 0, none⟩) (k + 1) cap'' := by
            rcases hown8.2 with ⟨_, h⟩ | ⟨g', cap'', _, h, _⟩
            · omega
            · exact ⟨g', cap'', h⟩
          have hlo : ∀ b, (Value.slice a' k cap').ownBlock = some b → w.heap.size ≤ b := fun b hb => ((unhide HG7).kids.lt b hb).1
          have hga : GotS w.heap.size w8 (.slice (some ⟨gN, 0, none⟩) (k + 1) capN') v' (ns ++ [nm]) (ks ++ [t]) (xs ++ [.iface T x]) :=
            ((unhide HG7).alloc (.cells #[.iface T x] 48)).kid (SRep.carry (fun b hb => Below.heap_alloc _ _ _ hb.2.1) (fun b hb => ⟨hb.1, by simp; omega, hb.2.2⟩) _ _ (unhide HNEW)) (by rw [hkl]; exact hown8) hgrow8 hv8
          have hR8 : w8.heap[R]? = w7.heap[R]? := by
            rw [hgrow8.block R (by simp; omega) (fun e => by have := hlo R e.symm; omega)]
            exact Below.heap_alloc _ _ _ (by omega)
          have hbut8 : But R w w8 := by
            have h2 := unhide HB7
            have hs8 := hgrow8.size
            rw [World.size_alloc] at hs8
            refine ⟨hgrow8.os.trans h2.os, hgrow8.tape.trans h2.tape, hgrow8.output.trans h2.output, by omega, fun i hi hne => ?_⟩
            rw [hgrow8.block i (by simp; omega) (fun e => by have := hlo i e.symm; omega), Below.heap_alloc _ _ _ (by omega), h2.block i hi hne]
          have htr8 := (unhide HT7).of_block hR8
          subst hv''
          have HGA := hide hga; have HT8 := hide htr8; have HB8 := hide hbut8
          clear hga htr8 hbut8 hown8 hgrow8 hv8 hR8 hlo
          go_roundw
          case rel => exact ⟨ns ++ [nm], ks ++ [t], k + 1, some ⟨gN, 0, none⟩, capN', some ⟨g', 0, none⟩, cap'', _, a4, q4, rfl, rfl, hide ⟨by simp [hnl], by simp [hkl], by omega, ha4, hq40, hq41, f, by rw [lf_len]; rw [lf_len] at hf; omega, unhide HFX4⟩, HGA, HT8, HB8⟩
          case measure => rw [(unhide HT8).tx.atOf, unhide HAT]; omega
        · have hfx := unhide HFX3
          rw [hrd] at hfx
          simp only at hfx
          have hOO := unhide HO
          rw [← hfx] at hOO
          simp only [frmF] at hOO
          have HOO := hide hOO; have HB7 := hide ((unhide HB6).trans hb7)
          clear hfx hrd hb7 hOO HCALL
          go_wp2_with fail
          exact ⟨rfl, MEnd.no (unhide HOO) (unhide HB7)⟩
      · have hfx := unhide HFX2
        rw [if_neg h58] at hfx
        simp only at hfx
        have hOO := unhide HO
        rw [← hfx] at hOO
        simp only [frmF] at hOO
        have HTK2 := hide (xtake_no w5 R 2 s (w1 58) a2 (unhide HT5).tx hrl (by rw [pre_one]; exact decide_eq_false h58))
        have HOO := hide hOO
        clear hfx hOO h58 HFX2
        go_wp2_with (go_at_call 73; refine (unhide HTK2).mono ?_; rintro e w6 ⟨rfl, m, rfl⟩)
        exact ⟨rfl, MEnd.no (unhide HOO) (but_drewN (unhide HB5) m)⟩
    · have hfx := unhide HFX
      rw [lp, if_neg hne, hkl, hc1] at hfx
      simp only at hfx
      have hOO := unhide HO
      rw [← hfx] at hOO
      simp only [frmF] at hOO
      have HOO := hide hOO; have HB3 := hide (HB.out.trans hm3.but)
      clear hfx hm3 HMO hOO
      go_wp2_with fail
      exact ⟨rfl, MEnd.no (unhide HOO) (unhide HB3)⟩

/-- What a maybe comes to. -/
noncomputable def mybO (d : Nat) (inp : List UInt8) (p : Int) : Option (Tr × List UInt8 × Int) :=
  if inp.head? = some 126 then some (.mk 6 0 ByteArray.empty [] [], inp.tail, p)
  else match rdT d inp.tail p with
    | none => none
    | some (t, rest, q) => some (.mk 6 0 ByteArray.empty [] [t], rest, q)

set_option maxRecDepth 100000 in
set_option maxHeartbeats 1600000 in
theorem maybe_walk (d : Nat) (IH : TSaid d) (w : World) (R : Nat) (s : ByteArray) (a : Nat) (p : Int) (hs : s.size ≤ 1048576) (h : TR w R s a p (6 - d)) (hh : (lf s a).head? = some 126 ∨ (lf s a).head? = some 63) (hE : Env w) (hR : gTop ≤ R) (hp0 : 0 ≤ p) (hp1 : p ≤ 120) :
    Calls Tryz.prog 64 #[.pointer (some ⟨R, 0, none⟩)] w fun e w' => MEnd (mybO d (lf s a) p) w R s (6 - d) e w' := by
  have hlt := h.lt
  by_cases h126 : (lf s a).head? = some 126
  · have hroom := lf_room h126
    have HS := hide (xskip_yes w R 2 s (w1 126) a hs h.tx (by omega) (by decide) (by decide) (by rw [pre_one]; exact decide_eq_true h126))
    have hO : mybO d (lf s a) p = some (.mk 6 0 ByteArray.empty [] [], lf s (a + 1), p) := by unfold mybO; rw [if_pos h126, lf_next]
    generalize mybO d (lf s a) p = O at *
    have HO := hide hO; have H := hide h
    clear hO h hE IH hh h126
    go_enter Tryz.func64, Tryz.ntmps64
    go_wp2_with (first
      | (go_at_call 98; refine (unhide HS).mono ?_; rintro e w2 ⟨rfl, hr2, hm2⟩; have HR2 := hide ((unhide H).mv hm2 hr2); have HM2 := hide hm2.but; clear hr2 hm2 HS)
      | (go_at_call 103; refine (newMaybe_yes _ _ _ _ (by omega)).mono ?_; rintro e w3 ⟨rfl, rfl⟩))
    go_ret
    exact MEnd.yes (t := .mk 6 0 ByteArray.empty [] []) (a2 := a + 1) (unhide HO) hroom (unhide HM2) (srep6 rfl ⟨none, 0, rfl, fun hk => absurd rfl hk⟩) (unhide HR2) hp0 hp1
  · have h63 : (lf s a).head? = some 63 := hh.resolve_left h126
    have hroom := lf_room h63
    have HS := hide (xskip_no w R 2 s (w1 126) a h.tx (by omega) (by rw [pre_one]; exact decide_eq_false h126))
    have HT := hide (fun m => xtake_yes (w.drewN m) R 2 s (w1 63) a hs (h.tx.drewN m) (by omega) (by decide) (by decide) (by rw [pre_one]; exact decide_eq_true h63))
    have hO : mybO d (lf s a) p = match rdT d (lf s (a + 1)) p with
      | none => none
      | some (t, rest, q) => some (.mk 6 0 ByteArray.empty [] [t], rest, q) := by unfold mybO; rw [if_neg h126, lf_next]
    generalize mybO d (lf s a) p = O at *
    have HO := hide hO; have H := hide h; have HE := hide hE; have HI := hide IH
    clear hO h hE IH hh h126 h63
    generalize hL : (6 : Int) - (d : Int) = L at *
    have HL := hide hL; clear hL
    go_enter Tryz.func64, Tryz.ntmps64
    go_wp2_with (first
      | (go_at_call 98; refine (unhide HS).mono ?_; rintro e w2 ⟨rfl, m, rfl⟩)
      | (go_at_call 73; refine (unhide HT _).mono ?_; rintro e w3 ⟨rfl, hr3, hm3⟩; have HR3 := hide (((unhide H).drewN m).mv hm3 hr3); have HM3 := hide (((Mv.refl R 3 w).drewN m).trans hm3).but; clear hr3 hm3 HS))
    have hcall : Calls Tryz.prog 66 #[.pointer (some ⟨R, 0, none⟩)] w3 fun e w' => MEnd (rdT d (lf s (a + 1)) p) w3 R s L e w' := by
      have := unhide HI w3 R s (a + 1) p hs (by rw [unhide HL]; exact unhide HR3) hroom ((unhide HE).but (unhide HM3) hR) hR hp0 hp1
      rw [unhide HL] at this
      exact this
    have HCALL := hide hcall
    have hs3 := (unhide HM3).size
    clear hcall
    refine (unhide HCALL).mono ?_
    rintro e w4 ⟨hb4, ⟨t, a4, q4, v4, hrd, ha4, rfl, hsr4, htr4, hq40, hq41⟩ | ⟨hrd, rfl⟩⟩
    · have hOO := unhide HO
      rw [hrd] at hOO
      simp only at hOO
      have hs4 := hb4.size
      obtain ⟨T, x, rfl⟩ := hsr4.iface
      have hfin : ∀ W, W = w4.alloc (.cells #[.iface T x] 48) → SKids (fun b => w.heap.size ≤ b ∧ b < W.heap.size) W (.slice (some ⟨w4.heap.size, 0, none⟩) 1 1) [t] := by
        rintro W rfl
        refine ⟨some ⟨w4.heap.size, 0, none⟩, 1, rfl, fun _ => ⟨w4.heap.size, rfl, ⟨by omega, by simp⟩, ?_⟩⟩
        rw [SRepK]
        refine ⟨⟨.iface T x, by simp [go_sem], SRep.carry (fun b hb => Below.heap_alloc _ _ _ hb.2) (fun b hb => ⟨by omega, by simp; omega⟩) _ _ hsr4⟩, ?_⟩
        rw [SRepK]
        trivial
      have HFIN := hide hfin; have HOO := hide hOO; have HT4 := hide (htr4.alloc (.cells #[.iface T x] 48)); have HB4 := hide (((unhide HM3).trans hb4).trans (But.alloc R w4 (.cells #[.iface T x] 48)))
      clear hfin hOO hrd hsr4 htr4 hb4 HCALL
      go_wp2_with (go_at_call 103; refine (newMaybe_yes _ _ _ _ (by omega)).mono ?_; rintro e w5 ⟨rfl, rfl⟩)
      go_ret
      exact MEnd.yes (t := .mk 6 0 ByteArray.empty [] [t]) (a2 := a4) (unhide HOO) ha4 (unhide HB4) (srep6 rfl (unhide HFIN _ rfl)) (unhide HT4) hq40 hq41
    · have hOO := unhide HO
      rw [hrd] at hOO
      simp only at hOO
      have HOO := hide hOO; have HB4 := hide ((unhide HM3).trans hb4)
      clear hOO hrd hb4 HCALL
      go_wp2_with fail
      exact ⟨rfl, MEnd.no (unhide HOO) (unhide HB4)⟩
end Go.Proofs.YtgamonfmgngilaaGreatDoor

/- The program's reader of trees, whole: it reads as the function rdT does. The tables of strconv are as the program's text lays them; for texts of at most 2^20 bytes. -/

namespace Go.Proofs.YtgamonfmgngilaaGreatDoor
open Go Go.RowKit

theorem func_ne (F : FuncId) (R : Nat) (w : World) : Sem.run Tryz.prog (binOp BinOp.neq 56 (.func (.func F) #[.pointer (some ⟨R, 0, none⟩)] #[]) .nilFunc) w = .ok (.bool true) w := by kernel_rfl
theorem func_nil (w : World) : Sem.run Tryz.prog (binOp BinOp.neq 56 .nilFunc .nilFunc) w = .ok (.bool false) w := by kernel_rfl

theorem bv_lt (s : ByteArray) (a : Nat) : bv s a < 256 := by
  unfold bv
  split
  · exact UInt8.toNat_lt _
  · omega

theorem MEnd.out {O : Option (Tr × List UInt8 × Int)} {w W w' : World} {R : Nat} {s : ByteArray} {L : Int} {e : Ending} (h : MEnd O W R s L e w') (hb : But R w W) : MEnd O w R s L e w' := by
  obtain ⟨h1, h2⟩ := h
  refine ⟨hb.trans h1, ?_⟩
  rcases h2 with ⟨t, a2, q, v, g1, g2, g3, g4, g5⟩ | h2
  · exact Or.inl ⟨t, a2, q, v, g1, g2, g3, SRep.carry (fun _ _ => rfl) (fun b hb' => ⟨by have := hb.size; omega, hb'.2⟩) _ _ g4, g5⟩
  · exact Or.inr h2

set_option maxRecDepth 100000 in
set_option maxHeartbeats 1600000 in
theorem tree_go (F : FuncId) (O : Option (Tr × List UInt8 × Int)) (L : Int) (w : World) (R : Nat) (s : ByteArray) (a : Nat) (p : Int) (h : TR w R s a p L) (ha : a ≤ s.size) (hp0 : 0 ≤ p) (hp1 : p + 1 ≤ 120) (hL0 : 0 ≤ L) (hL1 : L + 1 ≤ 6)
    (hsrt : srt R (bv s a) = .func (.func F) #[.pointer (some ⟨R, 0, none⟩)] #[]) (hent : ∀ W, Sem.run Tryz.prog (callFunc F #[.pointer (some ⟨R, 0, none⟩)]) W = .ok (.enter F #[.pointer (some ⟨R, 0, none⟩)]) W)
    (hcall : ∀ W, TR W R s a (p + 1) (L + 1) → But R w W → Calls Tryz.prog F #[.pointer (some ⟨R, 0, none⟩)] W fun e w' => MEnd O W R s (L + 1) e w') :
    Calls Tryz.prog 66 #[.pointer (some ⟨R, 0, none⟩)] w fun e w' => MEnd O w R s L e w' := by
  have htr1 := h.set2 (p + 1) (L + 1)
  have hbut1 : But R w ((w.setCell ⟨R, 0, none⟩ (.int .i64 (p + 1))).setCell ⟨R, 1, none⟩ (.int .i64 (L + 1))) := (But.set w 0 _).trans (But.set _ 1 _)
  have hen := enter_yes R p L w h.bnd hp0 hL0 hp1 hL1
  have hlt := h.lt
  have hne := func_ne F R
  generalize ((w.setCell ⟨R, 0, none⟩ (.int .i64 (p + 1))).setCell ⟨R, 1, none⟩ (.int .i64 (L + 1))) = W1 at *
  have hcell := htr1.tab (bv s a) (bv_lt s a)
  rw [hsrt] at hcell
  have HNX := hide (fun n => xnext_any (W1.drewN n) R 2 s a (htr1.tx.drewN n) ha)
  have hbv := bv_lt s a
  have HEN := hide hen; have HTR1 := hide htr1; have HB1 := hide hbut1
  have hcall2 := fun n => hcall (W1.drewN n) (htr1.drewN n) (but_drewN hbut1 n)
  have HCALL := hide hcall2
  generalize bv s a = v at *
  clear hen htr1 hbut1 hcall hcall2 hsrt h
  go_enter Tryz.func66, Tryz.ntmps66
  go_wp2_with (go_at_call 89; refine (unhide HEN).mono ?_; rintro e w2 ⟨rfl, rfl⟩)
  go_quiet ((go_at_call 104; exact Calls.quiet_of (unhide HNX _)))
  go_wp2_with (go_at_call 65; refine (treeWant_yes _).mono ?_; rintro e w3 ⟨rfl, rfl⟩)
  refine (unhide HCALL _).mono ?_
  rintro e w4 ⟨hb4, ⟨t, a2, q, v4, g1, g2, rfl, g4, g5, g6, g7⟩ | ⟨g1, rfl⟩⟩
  · obtain ⟨T, x, rfl⟩ := g4.iface
    have hbb : But R w w4 := (but_drewN (unhide HB1) nq).trans hb4
    have hs1 := (unhide HB1).size
    have HLV := hide (leave_any R q (L + 1) w4 g5.bnd (by omega) (by omega))
    have hfin : MEnd O w R s L (.returned (.iface T x)) (w4.setCell ⟨R, 1, none⟩ (.int .i64 L)) := by
      refine MEnd.yes (t := t) (a2 := a2) (q := q) g1 g2 (hbb.trans (But.set _ 1 _)) (SRep.carry (fun b hb => Below.heap_setCell _ _ _ _ (by have := hb.1; simp at this; show b ≠ R; omega)) (fun b hb => ⟨by have := hb.1; simp at this; omega, by rw [World.size_setCell]; exact hb.2⟩) _ _ g4) ?_ g6 g7
      exact g5.set1 L
    have HFIN := hide hfin
    clear hfin hbb g1 g4 g5 hb4 HCALL hne hcell
    go_wp2_with (go_at_call 92; refine (unhide HLV).mono ?_; rintro e w5 ⟨rfl, rfl⟩)
    go_ret
    exact unhide HFIN
  · have HFIN := hide (MEnd.no (o := O) (s := s) (l := L) g1 ((but_drewN (unhide HB1) nq).trans hb4))
    clear g1 hb4 HCALL hne hcell
    go_wp2_with fail
    exact ⟨rfl, unhide HFIN⟩

set_option maxRecDepth 100000 in
set_option maxHeartbeats 1600000 in
theorem tree_nil (L : Int) (w : World) (R : Nat) (s : ByteArray) (a : Nat) (p : Int) (h : TR w R s a p L) (ha : a ≤ s.size) (hp0 : 0 ≤ p) (hp1 : p + 1 ≤ 120) (hL0 : 0 ≤ L) (hL1 : L + 1 ≤ 6) (hsrt : srt R (bv s a) = .nilFunc) :
    Calls Tryz.prog 66 #[.pointer (some ⟨R, 0, none⟩)] w fun e w' => MEnd none w R s L e w' := by
  have htr1 := h.set2 (p + 1) (L + 1)
  have hbut1 : But R w ((w.setCell ⟨R, 0, none⟩ (.int .i64 (p + 1))).setCell ⟨R, 1, none⟩ (.int .i64 (L + 1))) := (But.set w 0 _).trans (But.set _ 1 _)
  have hen := enter_yes R p L w h.bnd hp0 hL0 hp1 hL1
  have hne := func_nil
  generalize ((w.setCell ⟨R, 0, none⟩ (.int .i64 (p + 1))).setCell ⟨R, 1, none⟩ (.int .i64 (L + 1))) = W1 at *
  have hcell := htr1.tab (bv s a) (bv_lt s a)
  rw [hsrt] at hcell
  have HNX := hide (fun n => xnext_any (W1.drewN n) R 2 s a (htr1.tx.drewN n) ha)
  have hbv := bv_lt s a
  have HEN := hide hen; have HB1 := hide hbut1
  generalize bv s a = v at *
  clear hen htr1 hbut1 hsrt h
  go_enter Tryz.func66, Tryz.ntmps66
  go_wp2_with (go_at_call 89; refine (unhide HEN).mono ?_; rintro e w2 ⟨rfl, rfl⟩)
  go_quiet ((go_at_call 104; exact Calls.quiet_of (unhide HNX _)))
  go_wp2_with (go_at_call 65; refine (treeWant_no _).mono ?_; rintro e w3 ⟨rfl, rfl⟩)
  exact ⟨rfl, MEnd.no rfl (but_drewN (unhide HB1) _)⟩

set_option maxHeartbeats 800000 in
theorem tree_out (O : Option (Tr × List UInt8 × Int)) (hO : O = none) (L : Int) (w : World) (R : Nat) (s : ByteArray) (a : Nat) (p : Int) (h : TR w R s a p L) (hp0 : 0 ≤ p) (hp1 : p ≤ 120) (hL0 : 0 ≤ L) (hL1 : L ≤ 6) (hno : ¬ (p + 1 ≤ 120 ∧ L + 1 ≤ 6)) :
    Calls Tryz.prog 66 #[.pointer (some ⟨R, 0, none⟩)] w fun e w' => MEnd O w R s L e w' := by
  have HEN := hide (enter_no R p L w h.bnd hp0 hL0 hp1 hL1 hno)
  clear h hno
  go_enter Tryz.func66, Tryz.ntmps66
  go_wp2_with (go_at_call 89; refine (unhide HEN).mono ?_; rintro e w2 ⟨rfl, rfl⟩)
  exact ⟨rfl, MEnd.no hO ((But.set w 0 _).trans (But.set _ 1 _))⟩

theorem head_bv {s : ByteArray} {a : Nat} {c : UInt8} (h : (lf s a).head? = some c) : bv s a = c.toNat := by
  have hlt := lf_room h
  rw [lf_cons (show a < s.size by omega)] at h
  simp only [List.head?_cons, Option.some.injEq] at h
  unfold bv
  rw [dif_pos (show a < s.size by omega), h]

theorem treeR_step (d : Nat) (hd : d + 1 ≤ 6) (IH : TSaid d) : TSaid (d + 1) := by
  intro w R s a p hs h ha hE hR hp0 hp1
  have e6 : (6 : Int) - ((d + 1 : Nat) : Int) + 1 = 6 - d := by omega
  have hL0 : (0 : Int) ≤ 6 - ((d + 1 : Nat) : Int) := by omega
  have hL1 : (6 : Int) - ((d + 1 : Nat) : Int) + 1 ≤ 6 := by omega
  by_cases hpp : 120 < p + 1
  · exact tree_out _ (by rw [rdT, if_pos hpp]) _ w R s a p h hp0 hp1 hL0 (by omega) (by omega)
  have hp2 : p + 1 ≤ 120 := by omega
  cases hh : (lf s a).head? with
  | none =>
    have h0 : bv s a = 0 := by
      unfold bv
      by_cases hlt : a < s.size
      · rw [lf_cons hlt] at hh; simp at hh
      · rw [dif_neg hlt]
    have hr : rdT (d + 1) (lf s a) p = none := by rw [rdT, if_neg hpp, hh]
    rw [hr]
    exact tree_nil _ w R s a p h ha hp0 hp2 hL0 hL1 (by rw [h0]; simp [srt])
  | some c =>
    have hb := head_bv hh
    have hc256 := UInt8.toNat_lt c
    have hcn : ∀ k : UInt8, c.toNat = k.toNat → c = k := fun k e => UInt8.toNat_inj.1 e
    have hdg : isDg c = true ↔ (48 ≤ c.toNat ∧ c.toNat ≤ 57) := by unfold isDg; simp
    have hrd : rdT (d + 1) (lf s a) p = if isDg c = true ∨ c = 45 then numO (lf s a) (p + 1) else if c = 34 then quoO (lf s a) (p + 1) else if c = 121 ∨ c = 110 then flgO (lf s a) (p + 1) else if c = 91 then lstO d (lf s a) (p + 1) else if c = 123 then frmO d (lf s a) (p + 1) else if c = 126 ∨ c = 63 then mybO d (lf s a) (p + 1) else none := by
      rw [rdT, if_neg hpp, hh]
      simp only
      by_cases c1 : isDg c = true ∨ c = 45
      · rw [if_pos c1, if_pos c1]; rfl
      rw [if_neg c1, if_neg c1]
      by_cases c2 : c = 34
      · rw [if_pos c2, if_pos c2]; rfl
      rw [if_neg c2, if_neg c2]
      by_cases c3 : c = 121 ∨ c = 110
      · rw [if_pos c3, if_pos c3]; rfl
      rw [if_neg c3, if_neg c3]
      by_cases c4 : c = 91
      · rw [if_pos c4, if_pos c4]; unfold lstO
        rcases lp (rdT d) false 93 ((lf s a).length + 1) [] [] (lf s a).tail (p + 1) with _ | ⟨ns, ks, rest, q⟩ <;> rfl
      rw [if_neg c4, if_neg c4]
      by_cases c5 : c = 123
      · rw [if_pos c5, if_pos c5]; unfold frmO
        rcases lp (rdT d) true 125 ((lf s a).length + 1) [] [] (lf s a).tail (p + 1) with _ | ⟨ns, ks, rest, q⟩ <;> rfl
      rw [if_neg c5, if_neg c5]
      unfold mybO
      rw [hh]
      by_cases c6 : c = 126
      · rw [if_pos c6, if_pos (Or.inl c6), if_pos (by rw [c6])]
      rw [if_neg c6]
      by_cases c7 : c = 63
      · rw [if_pos c7, if_pos (Or.inr c7), if_neg (by simpa using c6)]
        rcases rdT d (lf s a).tail (p + 1) with _ | ⟨t, rest, q⟩ <;> rfl
      rw [if_neg c7, if_neg (by rintro (h | h); exact c6 h; exact c7 h)]
    rw [hrd]
    by_cases c1 : isDg c = true ∨ c = 45
    · rw [if_pos c1]
      refine tree_go 59 _ _ w R s a p h ha hp0 hp2 hL0 hL1 ?_ (fun W => enters_of Tryz.func59 (by kernel_rfl) rfl _ W) (fun W hW hB => ?_)
      · rw [hb]; unfold srt
        rw [if_pos (c1.elim (fun h => Or.inl (hdg.1 h)) (fun h => Or.inr (by rw [h]; rfl)))]
      · rw [e6] at hW ⊢
        exact num_walk W R s a (p + 1) (6 - d) hs hW ha (hE.but hB hR) hR (by omega) hp2
    have s1 : ¬ ((48 ≤ c.toNat ∧ c.toNat ≤ 57) ∨ c.toNat = 45) := fun h => c1 (h.elim (fun h => Or.inl (hdg.2 h)) (fun h => Or.inr (hcn 45 h)))
    rw [if_neg c1]
    by_cases c2 : c = 34
    · rw [if_pos c2]
      refine tree_go 60 _ _ w R s a p h ha hp0 hp2 hL0 hL1 ?_ (fun W => enters_of Tryz.func60 (by kernel_rfl) rfl _ W) (fun W hW hB => ?_)
      · rw [hb, c2]; rfl
      · rw [e6] at hW ⊢
        exact quoted_walk W R s a (p + 1) (6 - d) hs hW (by rw [hh, c2]) (by omega) hp2
    rw [if_neg c2]
    by_cases c3 : c = 121 ∨ c = 110
    · rw [if_pos c3]
      refine tree_go 61 _ _ w R s a p h ha hp0 hp2 hL0 hL1 ?_ (fun W => enters_of Tryz.func61 (by kernel_rfl) rfl _ W) (fun W hW hB => ?_)
      · rw [hb]; rcases c3 with rfl | rfl <;> rfl
      · rw [e6] at hW ⊢
        exact flag_walk W R s a (p + 1) (6 - d) hs hW ha (by omega) hp2
    rw [if_neg c3]
    by_cases c4 : c = 91
    · rw [if_pos c4]
      refine tree_go 62 _ _ w R s a p h ha hp0 hp2 hL0 hL1 ?_ (fun W => enters_of Tryz.func62 (by kernel_rfl) rfl _ W) (fun W hW hB => ?_)
      · rw [hb, c4]; rfl
      · rw [e6] at hW ⊢
        exact list_walk d (by omega) IH W R s a (p + 1) hs hW (by rw [hh, c4]) (hE.but hB hR) hR (by omega) hp2
    rw [if_neg c4]
    by_cases c5 : c = 123
    · rw [if_pos c5]
      refine tree_go 63 _ _ w R s a p h ha hp0 hp2 hL0 hL1 ?_ (fun W => enters_of Tryz.func63 (by kernel_rfl) rfl _ W) (fun W hW hB => ?_)
      · rw [hb, c5]; rfl
      · rw [e6] at hW ⊢
        exact form_walk d (by omega) IH W R s a (p + 1) hs hW (by rw [hh, c5]) (hE.but hB hR) hR (by omega) hp2
    rw [if_neg c5]
    by_cases c6 : c = 126 ∨ c = 63
    · rw [if_pos c6]
      refine tree_go 64 _ _ w R s a p h ha hp0 hp2 hL0 hL1 ?_ (fun W => enters_of Tryz.func64 (by kernel_rfl) rfl _ W) (fun W hW hB => ?_)
      · rw [hb]; rcases c6 with rfl | rfl <;> rfl
      · rw [e6] at hW ⊢
        exact maybe_walk d IH W R s a (p + 1) hs hW (c6.elim (fun h => Or.inl (by rw [hh, h])) (fun h => Or.inr (by rw [hh, h]))) (hE.but hB hR) hR (by omega) hp2
    rw [if_neg c6]
    refine tree_nil _ w R s a p h ha hp0 hp2 hL0 hL1 ?_
    rw [hb]; unfold srt
    have s2 : ¬ c.toNat = 34 := fun h => c2 (hcn 34 h)
    have s3 : ¬ (c.toNat = 121 ∨ c.toNat = 110) := fun h => c3 (h.elim (fun h => Or.inl (hcn 121 h)) (fun h => Or.inr (hcn 110 h)))
    have s4 : ¬ c.toNat = 91 := fun h => c4 (hcn 91 h)
    have s5 : ¬ c.toNat = 123 := fun h => c5 (hcn 123 h)
    have s6 : ¬ (c.toNat = 126 ∨ c.toNat = 63) := fun h => c6 (h.elim (fun h => Or.inl (hcn 126 h)) (fun h => Or.inr (hcn 63 h)))
    rw [if_neg s1, if_neg s2, if_neg s3, if_neg s4, if_neg s5, if_neg s6]

theorem tree_zero : TSaid 0 := by
  intro w R s a p hs h ha hE hR hp0 hp1
  exact tree_out _ (by rw [rdT]) _ w R s a p h hp0 hp1 (by omega) (by omega) (by omega)

theorem treeR_all : ∀ d, d ≤ 6 → TSaid d
  | 0, _ => tree_zero
  | d + 1, h => treeR_step d h (treeR_all d (by omega))

/-- What the whole comes to. -/
noncomputable def whlO (s : ByteArray) : Option (Tr × List UInt8 × Int) := if s.size ≤ 10000 then (match rdT 6 (lf s 0) 0 with
  | none => none
  | some (t, rest, q) => if rest = [] then some (t, rest, q) else none) else none

set_option maxRecDepth 100000 in
set_option maxHeartbeats 800000 in
theorem whole_walk (w : World) (R : Nat) (s : ByteArray) (hs : s.size ≤ 1048576) (h : TR w R s 0 0 0) (hE : Env w) (hR : gTop ≤ R) :
    Calls Tryz.prog 30 #[.pointer (some ⟨R, 0, none⟩)] w fun e w' => MEnd (whlO s) w R s 0 e w' := by
  have htr := treeR_all 6 (Nat.le_refl _) w R s 0 0 hs (by simpa using h) (Nat.zero_le _) hE hR (by omega) (by omega)
  rw [show (6 : Int) - ((6 : Nat) : Int) = 0 from by decide] at htr
  obtain ⟨c0, c1, f1⟩ := h.tx
  have hO : whlO s = if s.size ≤ 10000 then (match rdT 6 (lf s 0) 0 with
    | none => none
    | some (t, rest, q) => if rest = [] then some (t, rest, q) else none) else none := rfl
  generalize whlO s = O at *
  by_cases h10 : s.size ≤ 10000
  · rw [if_pos h10] at hO
    have hd : decide ((s.size : Int) ≤ 10000) = true := by simp; omega
    have HTR := hide htr; have HO := hide hO
    clear htr hO h hE
    go_enter Tryz.func30, Tryz.ntmps30
    go_wp2_with (go_at_call 65; refine (treeWant_yes _).mono ?_; rintro e w2 ⟨rfl, rfl⟩)
    refine (unhide HTR).mono ?_
    rintro e w3 ⟨hb3, ⟨t, a2, q, v, g1, g2, rfl, g4, g5, g6, g7⟩ | ⟨g1, rfl⟩⟩
    · have hOO := unhide HO
      rw [g1] at hOO
      simp only at hOO
      obtain ⟨T, x, rfl⟩ := g4.iface
      have HB3 := hide hb3; have HG4 := hide g4; have HG5 := hide g5; have HOO := hide hOO
      clear g1 g4 g5 hb3 hOO HTR HO c0 c1 f1
      by_cases hend : a2 = s.size
      · subst hend
        have HEN := hide (xend_yes w3 R 2 s (unhide HG5).tx)
        have hfin : ∀ m, MEnd O w2 R s 0 (.returned (.iface T x)) (w3.drewN m) := fun m => by
          have hsr : SRep (fun b => w2.heap.size ≤ b ∧ b < (w3.drewN m).heap.size) (w3.drewN m) t (.iface T x) := SRep.carry (w := w3) (w' := w3.drewN m) (fun _ _ => rfl) (fun _ h => h) t (.iface T x) (unhide HG4)
          refine MEnd.yes (t := t) (a2 := s.size) (q := q) ?_ (Nat.le_refl _) (but_drewN (unhide HB3) m) hsr ((unhide HG5).drewN m) g6 g7
          rw [unhide HOO, if_pos (lf_nil (Nat.le_refl _))]
        have HFIN := hide hfin
        clear hfin
        go_wp2_with (go_at_call 67; refine (unhide HEN).mono ?_; rintro e w4 ⟨rfl, m, rfl⟩)
        go_ret
        exact unhide HFIN m
      · have hlt : a2 < s.size := by omega
        have HEN := hide (xend_no w3 R 2 s a2 (unhide HG5).tx hlt)
        go_wp2_with (go_at_call 67; refine (unhide HEN).mono ?_; rintro e w4 ⟨rfl, m, rfl⟩)
        refine ⟨rfl, MEnd.no ?_ (but_drewN (unhide HB3) m)⟩
        rw [unhide HOO, if_neg (fun e => by have := lf_len s a2; rw [e] at this; simp at this; omega)]
    · have hOO := unhide HO
      rw [g1] at hOO
      simp only at hOO
      have HB3 := hide hb3; have HOO := hide hOO
      clear g1 hb3 hOO HTR HO
      go_wp2_with fail
      exact ⟨rfl, MEnd.no (unhide HOO) (unhide HB3)⟩
  · rw [if_neg h10] at hO
    have hd : decide ((s.size : Int) ≤ 10000) = false := by simp; omega
    have HO := hide hO
    clear htr hO h hE
    go_enter Tryz.func30, Tryz.ntmps30
    go_wp2_with (go_at_call 65; refine (treeWant_no _).mono ?_; rintro e w2 ⟨rfl, rfl⟩)
    exact ⟨rfl, MEnd.no (unhide HO) (But.refl _ _)⟩
end Go.Proofs.YtgamonfmgngilaaGreatDoor
