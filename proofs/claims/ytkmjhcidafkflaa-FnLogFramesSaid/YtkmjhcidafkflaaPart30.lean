/- The walk of the law on records that are read back: whatever bytes come in, it answers true, and turns nothing that was there. No conditions. -/
import Derived.Test.YtkmjhcidafkflaaPart29
namespace Go.Proofs.Ytkmjhcidafkflaa
open Go Go.RowKit

set_option maxRecDepth 100000 in
set_option maxHeartbeats 6400000 in
theorem lawLogFramesP_any (w : World) (a : Option Addr) (cap : Nat) (l : List UInt8) (hv : BytesAt w (.slice a l.length cap) l) (hcap : l.length ≤ cap) (hlen : l.length ≤ 9223372036854775807) :
    Calls Try.prog 3 #[.slice a l.length cap] w fun e w' => e = .returned (.bool true) ∧ Below w.heap.size w w' := by
  obtain ⟨j0, hj, hy0, hy1, hy2⟩ := infoIntD
  have HJJ := hide hj; have HY0 := hide hy0; have HY1 := hide hy1; have HY2 := hide hy2
  have HDR := hide (drawLogRecords_any w a cap l hv hcap)
  have HLF := hide (fun p x (hx : x.size ≤ 9223372036854775807) W => implLogFrame_any p x hx W)
  have HFS := hide (fun s (hs : s.size ≤ 1048576) W => implLogFrames_any s hs W)
  clear hv hj hy0 hy1 hy2 hcap
  go_enter Try.func3, Try.ntmps3
  by_cases hbig : l.length ≤ 1048576
  case neg =>
    go_wp2_with fail
    go_ret
    exact ⟨rfl, Below.refl _ _⟩
  go_wp2_with fail
  refine (unhide HDR).mono ?_
  rintro e w1 ⟨L, vL, F, rfl, hL5, hok, ⟨aL, cL, rfl, hLc⟩, ho, hF, hb1⟩
  have hs1 := hb1.size
  have hat := ho.at
  have hopen := hat.open
  obtain ⟨aL', cL', eL, -, hce⟩ := hopen
  simp only [Value.slice.injEq] at eL
  obtain ⟨rfl, -, rfl⟩ := eL
  have HCE := hide hce; have HAT := hide hat; have HF := hide hF; have HB1 := hide hb1; have HOK := hide hok
  have HSM := hide (enB_small hok)
  have hone : (w1.alloc (.cells #[.int .i64 0] 3)).ownsRow w1.heap.size 3 1 (.slice (some ⟨w1.heap.size, 0, none⟩) 1 1) 1 (enL L 0) := by
    refine ⟨by simp [enL], Or.inr ⟨w1.heap.size, 1, #[.int .i64 0], rfl, Nat.le_refl _, heap_alloc_new _ _, Nat.le_refl _, by unfold maxLen; omega, rfl, by simp [enL, enB_zero]⟩⟩
  have HONE := hide hone
  have HC0 := hide (show catB (L.take 0) = ⟨#[]⟩ by rw [List.take_zero]; rfl)
  clear ho hF hb1 hat hce HDR hone hok
  generalize hcat : catB L = want at *
  have HCAT := hide hcat
  clear hcat
  go_wp2_with fail
  go_loopw [5, 6, 7] (fun dd ee i wr => ∃ (k g co : Nat) (dat : ByteArray), k ≤ L.length ∧ i = .int .i64 k ∧ dd = .string dat ∧ ee = .slice (some ⟨g, 0, none⟩) (k + 1) co ∧ dat.size ≤ 2005 * k ∧ Hid (dat = catB (L.take k)) ∧ Hid (wr.ownsRow w1.heap.size 3 1 (.slice (some ⟨g, 0, none⟩) (k + 1) co) (k + 1) (enL L k)) ∧ Hid (Below w1.heap.size w1 wr)) (fun _ _ i _ => L.length - (intOf i).toNat)
  case atStart => exact ⟨0, w1.heap.size, 1, _, Nat.zero_le _, rfl, rfl, rfl, by show 0 ≤ _; omega, (unhide HC0).symm, HONE, (Below.refl _ _).alloc (Nat.le_refl _) _⟩
  case round =>
    clear HONE HC0
    obtain ⟨k, g, co, dat, hk, rfl, rfl, rfl, hds, HDAT, HO, HB⟩ := hrel
    have hbs := HB.out.size
    by_cases hlt : k < L.length
    · obtain ⟨b, o, rfl, hpb, h0, h1, hrok⟩ := unhide HCE k hlt
      have e0 : wr.cell? ⟨b, o + k * 2, none⟩ = some (.int .i64 L[k].pos) := by rw [HB.out.cell (unhide HF b hpb).2]; exact h0
      have e1 : wr.cell? ⟨b, o + k * 2 + 1, none⟩ = some (.string L[k].data) := by rw [HB.out.cell (unhide HF b hpb).2]; exact h1
      have HCT := hide (cat_take hlt)
      have HES := hide (show enB L (k + 1) = enB L k + 5 + L[k].data.size from enB_succ hlt (unhide HOK _ (List.getElem_mem hlt)))
      have hokk := unhide HOK _ (List.getElem_mem hlt)
      have hfl := frL_len hokk
      have hdd := (of_decide_eq_true hokk).2.2
      have hfs : (frB L[k].pos L[k].data).size = 5 + L[k].data.size := by unfold frL at hfl; rw [size_list] at hfl; exact hfl
      have HLF1 := hide (unhide HLF L[k].pos L[k].data hrok wr)
      clear h0 h1 hpb hrok hokk hfl
      generalize L[k] = x at *
      go_wp2_with fail
      refine (unhide HLF1).mono ?_
      rintro e w2 ⟨rfl, hb2⟩
      have hs2 := hb2.size
      have HO2 := hide (ownsRow_keepR HO.out (fun g e => hb2.block g (HO.out.lt g e).2))
      have HB2 := hide (HB.out.trans (hb2.mono hbs))
      have HFS2 := hide hfs
      clear hb2 HO HB HLF1 e0 e1
      have hap : (dat ++ frB x.pos x.data).size = dat.size + (5 + x.data.size) := by rw [ByteArray.size_append, hfs]
      generalize frB x.pos x.data = fr at *
      have hl2 : ¬ (9223372036854775807 < dat.size + fr.size) := by omega
      have HDN := hide (show dat ++ fr = catB (L.take (k + 1)) by rw [unhide HCT, HDAT.out])
      have HEN := hide (show (dat.size : Int) + (5 + (x.data.size : Int)) = (enB L (k + 1) : Nat) by unfold enB; rw [← unhide HDN, hap]; omega)
      go_wp2_with (at_builtin; (refine append_row _ rfl _ _ 26 rfl w1.heap.size 3 j0 (.int .i64 0) 1 8 Try.underlying26 (unhide HJJ) (unhide HY0) (unhide HY1) (unhide HY2) rfl (by decide) (.slice (some ⟨g, 0, none⟩) (k + 1) co) (k + 1) (enL L k) rfl (World.ownsRow.alloc (unhide HO2) _) ⟨w2.heap.size, 0, none⟩ 1 1 [.int .i64 ((dat.size : Int) + (5 + (x.data.size : Int)))] rfl rfl (cell_one _ _ _) (fun u hu => by simp at hu; subst hu; rfl) (by decide) (by unfold maxLen; omega) (by omega) (by simp; omega) ?_; intro v' w5 hown5 hgrow5 hat5; obtain ⟨g5, cap5, rfl, -, -⟩ := hown5.form (by omega); have HO5 := hide hown5; have HB5 := hide (below_grown (by simp; omega) ((unhide HB2).alloc (by omega) (.cells #[.int .i64 ((dat.size : Int) + (5 + (x.data.size : Int)))] 3)) hgrow5 (fun b e => ((unhide HO2).lt b e).1)); clear hown5 hgrow5 hat5))
      go_roundw
      case rel => exact ⟨k + 1, g5, cap5, dat ++ fr, by omega, by go_num, rfl, rfl, by omega, unhide HDN, hide (by rw [enL_succ, ← unhide HEN]; exact unhide HO5), HB5⟩
      case measure => simp [intOf]; omega
    · obtain rfl : k = L.length := by omega
      have hdw : dat = want := by rw [HDAT.out, List.take_length, unhide HCAT]
      subst hdw
      have HENC := hide (fun j (hj : j ≤ L.length) => (show wr.cell? ⟨g, j, none⟩ = some (.int .i64 (enB L j)) from by
        have := HO.out.cells (g := g) rfl j (.int .i64 (enB L j)) (by unfold enL; rw [List.getElem?_map, List.getElem?_range (by omega)]; rfl)
        rwa [Addr.add_lit, Nat.zero_add] at this))
      have hgl := (HO.out.lt g rfl).2
      have hwsz : enB L L.length = dat.size := by rw [enB_all, unhide HCAT]
      have HWS := hide hwsz
      have HBW := hide (show Below w.heap.size w wr from (unhide HB1).trans (HB.out.mono hs1))
      have HATW := hide ((unhide HAT).carry (w' := wr) (Q := fun b => b < w1.heap.size) (fun b hb => HB.out.block b (unhide HF b hb).2) (fun b hb => (unhide HF b hb).2))
      have hs12 := HB.out.size
      have HCUT := hide (fun (c n : Nat) (hc : c ≤ dat.size) (hn : n ≤ L.length) (h1 : enB L n ≤ c) (h2 : n < L.length → c < enB L (n + 1)) => (show frs (dat.extract 0 c) 0 = (L.take n, enB L n) from by
        have := frs_cut (L := L) (cut := c) (unhide HOK) (by rw [unhide HCAT]; exact hc) hn h1 h2
        rwa [unhide HCAT] at this))
      clear HO HDAT HB HB1 HAT HF HCE hwsz
      generalize hWW : wr = W2 at *
      clear hWW
      have hdb : dat.size ≤ 20000 := by omega
      go_wp2_with fail
      go_loopw [8] (fun cc ws => ∃ c : Nat, c ≤ 30000 ∧ cc = .int .i64 c ∧ Hid (Below W2.heap.size W2 ws)) (fun cc _ => dat.size + 1 - (intOf cc).toNat)
      case atStart => exact ⟨0, by omega, rfl, Below.refl _ _⟩
      case round =>
        obtain ⟨c, hc3, rfl, HBC⟩ := hrel
        by_cases hcd : c ≤ dat.size
        · go_wp2_with fail
          go_loopw [9] (fun nn ws => ∃ n : Nat, n ≤ L.length ∧ nn = .int .i64 n ∧ Hid (enB L n ≤ c) ∧ Hid (Below W2.heap.size W2 ws)) (fun nn _ => L.length - (intOf nn).toNat)
          case atStart => exact ⟨0, Nat.zero_le _, rfl, by rw [enB_zero]; exact Nat.zero_le _, HBC⟩
          case round =>
            clear HBC
            obtain ⟨n, hn, rfl, HNC, HBN⟩ := hrel
            have hbnd : Hid (n < L.length → c < enB L (n + 1) → frs (dat.extract 0 c) 0 = (L.take n, enB L n)) := fun h1 h2 => unhide HCUT c n hcd hn HNC.out (fun _ => h2)
            have HDONE : Hid ((n < L.length → c < enB L (n + 1)) → frs (dat.extract 0 c) 0 = (L.take n, enB L n)) := fun h2 => unhide HCUT c n hcd hn HNC.out h2
            by_cases hnl : n < L.length
            · have cn := (HBN.out.cell (p := ⟨g, n + 1, none⟩) hgl).trans (unhide HENC (n + 1) (by omega))
              by_cases hec : enB L (n + 1) ≤ c
              · have HEC := hide hec
                go_wp2_with fail
                go_roundw
                case rel => exact ⟨n + 1, by omega, by go_num, unhide HEC, HBN⟩
                case measure => simp [intOf]; omega
              · have HEC := hide (show c < enB L (n + 1) by omega)
                have HFR := hide (HDONE.out (fun _ => unhide HEC))
                have HCALL : Hid (Calls Try.prog 8 #[.string (dat.extract 0 c)] wr fun e w' => ∃ (vx : Value) (Fx : List Nat), e = .returned (.tuple #[vx, .int .i64 (enB L n : Nat)]) ∧ RcsOwn w' vx (L.take n) Fx ∧ (∀ b, b ∈ Fx → wr.heap.size ≤ b ∧ b < w'.heap.size) ∧ Below wr.heap.size wr w') :=
                  (unhide HFS (dat.extract 0 c) (by rw [ByteArray.size_extract]; omega) wr).mono fun e w' h => by
                    unfold FrEnd at h
                    rw [unhide HFR] at h
                    exact h
                have hncl : n ≤ cL := by omega
                have hcd2 : (c : Int) ≤ (dat.size : Int) := by omega
                go_wp2_with fail
                refine HCALL.out.mono ?_
                rintro e w6 ⟨vx, Fx, rfl, hox, hlx, hb6⟩
                have hb26 := HBN.out.trans (hb6.mono HBN.out.size)
                have cn6 := (hb26.cell (p := ⟨g, n, none⟩) hgl).trans (unhide HENC n (by omega))
                have hs26 := hb26.size
                have HLO := hide (fun cap' => loRecords_any vx (.slice aL n cap') (L.take n) w6 (P := (· ∈ Fx)) (Q := fun b => b < w1.heap.size) (fun b hb => (hlx b hb).2) (fun b hb => by omega) hox.at (((unhide HATW).carry (fun b hb => hb26.block b (by omega)) (fun _ h => h)).take hn cap'))
                have HB26 := hide hb26
                clear hox hlx hb6 hb26 HCALL HFR
                go_wp2_with fail
                refine (unhide HLO _).mono ?_
                rintro e w7 ⟨rfl, hb7⟩
                have HB27 := hide ((unhide HB26).trans (hb7.mono (unhide HB26).size))
                clear hb7 HLO HB26
                go_wp2_with fail
                go_roundw
                case rel => exact ⟨c + 1 + dat.size / 40, by omega, by go_num, HB27⟩
                case measure => simp [intOf]; omega
            · have HNL := hide hnl
              have HFR := hide (HDONE.out (fun h => absurd h (unhide HNL)))
              have HCALL : Hid (Calls Try.prog 8 #[.string (dat.extract 0 c)] wr fun e w' => ∃ (vx : Value) (Fx : List Nat), e = .returned (.tuple #[vx, .int .i64 (enB L n : Nat)]) ∧ RcsOwn w' vx (L.take n) Fx ∧ (∀ b, b ∈ Fx → wr.heap.size ≤ b ∧ b < w'.heap.size) ∧ Below wr.heap.size wr w') :=
                (unhide HFS (dat.extract 0 c) (by rw [ByteArray.size_extract]; omega) wr).mono fun e w' h => by
                  unfold FrEnd at h
                  rw [unhide HFR] at h
                  exact h
              have hncl : n ≤ cL := by omega
              have hcd2 : (c : Int) ≤ (dat.size : Int) := by omega
              go_wp2_with fail
              refine HCALL.out.mono ?_
              rintro e w6 ⟨vx, Fx, rfl, hox, hlx, hb6⟩
              have hb26 := HBN.out.trans (hb6.mono HBN.out.size)
              have cn6 := (hb26.cell (p := ⟨g, n, none⟩) hgl).trans (unhide HENC n (by omega))
              have hs26 := hb26.size
              have HLO := hide (fun cap' => loRecords_any vx (.slice aL n cap') (L.take n) w6 (P := (· ∈ Fx)) (Q := fun b => b < w1.heap.size) (fun b hb => (hlx b hb).2) (fun b hb => by omega) hox.at (((unhide HATW).carry (fun b hb => hb26.block b (by omega)) (fun _ h => h)).take hn cap'))
              have HB26 := hide hb26
              clear hox hlx hb6 hb26 HCALL HFR
              go_wp2_with fail
              refine (unhide HLO _).mono ?_
              rintro e w7 ⟨rfl, hb7⟩
              have HB27 := hide ((unhide HB26).trans (hb7.mono (unhide HB26).size))
              clear hb7 HLO HB26
              go_wp2_with fail
              go_roundw
              case rel => exact ⟨c + 1 + dat.size / 40, by omega, by go_num, HB27⟩
              case measure => simp [intOf]; omega
        · have HALL := hide (show frs (dat.extract 0 dat.size) 0 = (L.take L.length, enB L L.length) from unhide HCUT dat.size L.length (Nat.le_refl _) (Nat.le_refl _) (Nat.le_of_eq (unhide HWS)) (fun h => by omega))
          have HCALL : Hid (Calls Try.prog 8 #[.string dat] wr fun e w' => ∃ (vx : Value) (Fx : List Nat), e = .returned (.tuple #[vx, .int .i64 (dat.size : Nat)]) ∧ RcsOwn w' vx L Fx ∧ (∀ b, b ∈ Fx → wr.heap.size ≤ b ∧ b < w'.heap.size) ∧ Below wr.heap.size wr w') :=
            (unhide HFS dat (by omega) wr).mono fun e w' h => by
              have ha := unhide HALL
              rw [drp_zero, List.take_length, unhide HWS] at ha
              unfold FrEnd at h
              rw [ha] at h
              exact h
          go_wp2_with fail
          refine HCALL.out.mono ?_
          rintro e w6 ⟨vx, Fx, rfl, hox, hlx, hb6⟩
          have hb26 := HBC.out.trans (hb6.mono HBC.out.size)
          have hs26 := hb26.size
          have HLO := hide (loRecords_any vx (.slice aL L.length cL) L w6 (P := (· ∈ Fx)) (Q := fun b => b < w1.heap.size) (fun b hb => (hlx b hb).2) (fun b hb => by omega) hox.at ((unhide HATW).carry (fun b hb => hb26.block b (by omega)) (fun _ h => h)))
          have HB26 := hide hb26
          clear hox hlx hb6 hb26 HCALL HALL
          go_wp2_with fail
          refine (unhide HLO).mono ?_
          rintro e w7 ⟨rfl, hb7⟩
          have HB27 := hide ((unhide HB26).trans (hb7.mono (unhide HB26).size))
          clear hb7 HLO HB26
          go_wp2_with fail
          go_ret
          exact ⟨rfl, (unhide HBW).trans ((unhide HB27).mono (unhide HBW).size)⟩
end Go.Proofs.Ytkmjhcidafkflaa
