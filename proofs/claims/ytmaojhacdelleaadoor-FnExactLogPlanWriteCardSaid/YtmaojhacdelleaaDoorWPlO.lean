/- The walk of the program's numbersOk. No conditions but that there are at most 40 parts. -/
import Derived.Test.YtmaojhacdelleaaDoorWPlN
import Derived.Test.YtmaojhacdelleaaDoorWDkS2
namespace Go.Proofs.YtmaojhacdelleaaDoor
open Go Go.RowKit

/-- The numbers of a plan. -/
def numsL (l : Pl) (k : Nat) : List Int := l.op :: (l.parts.take k).map Pt.num
theorem numsL_succ {l : Pl} {k : Nat} (h : k < l.parts.length) : numsL l (k + 1) = numsL l k ++ [l.parts[k].num] := by
  unfold numsL
  rw [List.take_succ_eq_append_getElem h, List.map_append]; rfl
theorem numsL_len {l : Pl} {k : Nat} (h : k ≤ l.parts.length) : (numsL l k).length = k + 1 := by
  unfold numsL; simp; omega

theorem srt_ex (zs : List Int) : ∃ S, S = srt zs ∧ S.length = zs.length ∧ (numsOk zs ↔ ∀ i, (h : i < S.length) → (1 ≤ S[i] ∧ S[i] ≤ 999999) ∧ ∀ j, (hj : j + 1 = i) → S[j] ≠ S[i]) := ⟨srt zs, rfl, srt_len zs, nums_sorted zs⟩

set_option maxRecDepth 100000 in
set_option maxHeartbeats 3200000 in
theorem numbersOk_any (l : Pl) (P : Nat → Prop) (v : Value) (w : World) (hP : ∀ b, P b → b < w.heap.size) (hv : PtsAt P w v l.parts) (h40 : l.parts.length ≤ 40) :
    Calls Tryd.prog 18 #[.agg #[v, .int .i64 l.op, .int .i64 l.fi]] w fun e w' => RetOk e (numsOk (l.op :: l.parts.map Pt.num)) ∧ Below w.heap.size w w' := by
  obtain ⟨a, cap, rfl, hlen, hc⟩ := hv.open
  obtain ⟨j0, hj, hy0, hy1, hy2⟩ := infoIntD
  have HJJ := hide hj; have HY0 := hide hy0; have HY1 := hide hy1; have HY2 := hide hy2
  have HC := hide hc; have HP := hide hP
  have hrow := row3_alloc w (.slice a l.parts.length cap) (.int .i64 l.op) (.int .i64 l.fi) 29
  obtain ⟨W0, hW0⟩ : ∃ W0, w.alloc (.cells #[.slice a l.parts.length cap, .int .i64 l.op, .int .i64 l.fi] 29) = W0 := ⟨_, rfl⟩
  have hb0 : Below w.heap.size w W0 := by rw [← hW0]; exact (Below.refl _ _).alloc (Nat.le_refl _) _
  have hs0 : W0.heap.size = w.heap.size + 1 := by rw [← hW0]; simp
  rw [hW0] at hrow
  have hone : (W0.alloc (.cells #[.int .i64 l.op] 3)).ownsRow (w.heap.size + 1) 3 1 (.slice (some ⟨w.heap.size + 1, 0, none⟩) 1 1) 1 ((numsL l 0).map (Value.int .i64)) := by
    refine ⟨by simp [numsL], Or.inr ⟨w.heap.size + 1, 1, #[.int .i64 l.op], rfl, Nat.le_refl _, ?_, Nat.le_refl _, by unfold maxLen; omega, rfl, by simp [numsL]⟩⟩
    rw [← hs0]
    exact heap_alloc_new _ _
  have hb1 : Below (w.heap.size + 1) W0 (W0.alloc (.cells #[.int .i64 l.op] 3)) := (Below.refl _ _).alloc (by omega) _
  have HROW := hide hrow; have HONE := hide hone; have HB0 := hide hb0; have HB1 := hide hb1
  have k1 := hrow.cell (i := 1) (by omega); have k0 := fun o => (hrow.alloc (o := o)).cell (i := 0) (by omega)
  simp only [row3] at k0 k1
  clear hv hc hP hrow hone hb0 hb1 hj hy0 hy1 hy2
  have HFIN := hide (show numsL l l.parts.length = l.op :: l.parts.map Pt.num by unfold numsL; rw [List.take_length])
  subst hW0
  go_enter Tryd.func18, Tryd.ntmps18
  go_wp2_with fail
  clear k0 k1
  go_loopw [3, 14] (fun vo i wr => ∃ (k : Nat) (g co : Nat), k ≤ l.parts.length ∧ i = .int .i64 k ∧ vo = .slice (some ⟨g, 0, none⟩) (k + 1) co ∧ Hid (wr.ownsRow (w.heap.size + 1) 3 1 (.slice (some ⟨g, 0, none⟩) (k + 1) co) (k + 1) ((numsL l k).map (Value.int .i64))) ∧ Hid (Below (w.heap.size + 1) (w.alloc (.cells #[.slice a l.parts.length cap, .int .i64 l.op, .int .i64 l.fi] 29)) wr)) (fun _ i _ => l.parts.length - (intOf i).toNat)
  case atStart => exact ⟨0, w.heap.size + 1, 1, Nat.zero_le _, rfl, rfl, HONE, HB1⟩
  case round =>
    clear HONE HB1
    obtain ⟨k, g, co, hk, rfl, rfl, HO, HB⟩ := hrel
    have hbs : w.heap.size + 1 ≤ wr.heap.size := by have := HB.out.size; rw [hs0] at this; exact this
    by_cases hlt : k < l.parts.length
    · obtain ⟨b, o, rfl, hpb, hcell⟩ := unhide HC k hlt
      obtain ⟨e0, e1, e2, e3⟩ := hcell.carry ((HB.out.block b (by have := unhide HP b hpb; omega)).trans ((unhide HB0).block b (unhide HP b hpb)))
      have HT := hide (numsL_succ hlt)
      clear hcell hpb
      generalize l.parts[k] = x at *
      have HO1 := hide (World.ownsRow.alloc HO.out (.cells #[.int .i64 x.num, .int .i64 x.first, .int .i64 x.next, .int .i64 x.size] 36))
      have HBa := hide (HB.out.alloc hbs (.cells #[.int .i64 x.num, .int .i64 x.first, .int .i64 x.next, .int .i64 x.size] 36))
      go_wp2_with (at_builtin; (refine append_row _ rfl _ _ 50 rfl (w.heap.size + 1) 3 j0 (.int .i64 0) 1 8 Tryd.underlying50 (unhide HJJ) (unhide HY0) (unhide HY1) (unhide HY2) rfl (by decide) (.slice (some ⟨g, 0, none⟩) (k + 1) co) (k + 1) ((numsL l k).map (Value.int .i64)) rfl (World.ownsRow.alloc (unhide HO1) _) ⟨wr.heap.size + 1, 0, none⟩ 1 1 [.int .i64 x.num] rfl rfl (by have := cell_one (wr.alloc (.cells #[.int .i64 x.num, .int .i64 x.first, .int .i64 x.next, .int .i64 x.size] 36)) (.int .i64 x.num) 3; rw [World.size_alloc] at this; exact this) (fun u hu => by simp at hu; subst hu; rfl) (by decide) (by unfold maxLen; omega) (by omega) (by simp; omega) ?_; intro v' w5 hown5 hgrow5 hat5; obtain ⟨g5, cap5, rfl, -, -⟩ := hown5.form (by omega); have HO5 := hide hown5; have HB5 := hide (below_grown (by simp; omega) ((unhide HBa).alloc (by simp; omega) (.cells #[.int .i64 x.num] 3)) hgrow5 (fun b e => ((unhide HO1).lt b e).1)); clear hown5 hgrow5 hat5))
      go_roundw
      case rel => exact ⟨k + 1, g5, cap5, by omega, by go_num, rfl, hide (by
        rw [unhide HT]
        have := unhide HO5
        simpa using this), HB5⟩
      case measure => simp [intOf]; omega
    · obtain rfl : k = l.parts.length := by omega
      have hl := numsL_len (l := l) (k := l.parts.length) (Nat.le_refl _)
      obtain ⟨S, hS, hsl, hns⟩ := srt_ex (numsL l l.parts.length)
      have hso := sort_any HO.out hl.symm (by omega)
      rw [← hS] at hso
      have HSO := hide hso
      rw [hl] at hsl
      have HNS := hide (Iff.trans (show numsOk (l.op :: l.parts.map Pt.num) ↔ numsOk (numsL l l.parts.length) by rw [unhide HFIN]) hns)
      have hgb := HO.out.lt g rfl
      clear hl HFIN hS hns hso
      go_wp2_with fail
      refine (unhide HSO).mono ?_
      rintro e w6 ⟨rfl, hs6⟩
      have HBF := hide (show Below w.heap.size w w6 from (unhide HB0).trans ⟨hs6.os.trans HB.out.os, hs6.tape.trans HB.out.tape, hs6.output.trans HB.out.output, by have := HB.out.size; have := hs6.size; omega, fun b hb => (hs6.block b (by omega) (by omega)).trans (HB.out.block b (by omega))⟩)
      have HCE := hide hs6.cell
      clear hs6 HSO HB HO HROW HC HP
      go_wp2_with fail
      go_loopw [28] (fun i ws => ∃ (k : Nat), k ≤ l.parts.length + 1 ∧ i = .int .i64 k ∧ Hid (∀ i, (h : i < S.length) → i < k → (1 ≤ S[i] ∧ S[i] ≤ 999999) ∧ ∀ j, (hj : j + 1 = i) → S[j] ≠ S[i]) ∧ Hid (Below w6.heap.size w6 ws)) (fun i _ => l.parts.length + 1 - (intOf i).toNat)
      case atStart => exact ⟨0, Nat.zero_le _, rfl, fun i _ h => by omega, Below.refl _ _⟩
      case round =>
        obtain ⟨k, hk, rfl, HK, HBK⟩ := hrel
        have HBT := hide ((unhide HBF).trans (HBK.out.mono (unhide HBF).size))
        by_cases hlt : k < l.parts.length + 1
        · have hkS : k < S.length := by omega
          have c0 := (HBK.out.cell (p := ⟨g, k, none⟩) (World.block_lt_of_cell? w6 _ (unhide HCE k hkS))).trans (unhide HCE k hkS)
          have HIN := hide (frInP S[k] 1 999999 wr)
          have HF := hide (fun (h : ¬ ((1 ≤ S[k] ∧ S[k] ≤ 999999) ∧ ∀ j, (hj : j + 1 = k) → S[j] ≠ S[k])) => (show ¬ numsOk (l.op :: l.parts.map Pt.num) from fun hp => h ((unhide HNS).1 hp k hkS)))
          have HG := hide (fun (h : (1 ≤ S[k] ∧ S[k] ≤ 999999) ∧ ∀ j, (hj : j + 1 = k) → S[j] ≠ S[k]) => (show ∀ i, (h : i < S.length) → i < k + 1 → (1 ≤ S[i] ∧ S[i] ≤ 999999) ∧ ∀ j, (hj : j + 1 = i) → S[j] ≠ S[i] from fun i hi hik => by
            by_cases e : i = k
            · subst e; exact h
            · exact HK.out i hi (by omega)))
          have HPR := hide (fun q (hq : q + 1 = k) => (show wr.cell? ⟨g, q, none⟩ = some (.int .i64 (S[q]'(by omega))) from (HBK.out.cell (p := ⟨g, q, none⟩) (World.block_lt_of_cell? w6 _ (unhide HCE q (by omega)))).trans (unhide HCE q (by omega))))
          generalize hz : S[k] = z at *
          have HZ := hide hz
          clear hz
          go_wp2_with fail
          refine (unhide HIN).mono ?_
          rintro e w7 ⟨rfl, hb7⟩
          have hbk7 := HBK.out.trans (hb7.mono HBK.out.size)
          have HB7 := hide hbk7
          have HBT7 := hide ((unhide HBT).trans (hb7.mono (unhide HBT).size))
          have HPR7 := hide (fun q (hq : q + 1 = k) => (hb7.cell (p := ⟨g, q, none⟩) (World.block_lt_of_cell? wr _ (unhide HPR q hq))).trans (unhide HPR q hq))
          clear hb7 hbk7 HIN c0 HPR
          by_cases h1 : 1 ≤ z ∧ z ≤ 999999
          case neg =>
            have HF2 := hide (unhide HF (fun h => h1 h.1))
            rw [decide_eq_false h1]
            clear h1
            go_wp2_with fail
            go_ret
            exact ⟨RetOk.no (unhide HF2), unhide HBT7⟩
          rw [decide_eq_true h1]
          have H1 := hide h1
          clear h1
          rcases Nat.eq_zero_or_pos k with rfl | hpos
          · go_wp2_with fail
            go_roundw
            case rel => exact ⟨1, by omega, by go_num, unhide HG ⟨unhide H1, fun j hj => by omega⟩, HB7⟩
            case measure => simp [intOf]
          · obtain ⟨q, rfl⟩ : ∃ q, k = q + 1 := ⟨k - 1, by omega⟩
            have cq := unhide HPR7 q rfl
            have hqS : q < S.length := by omega
            have HGQ := hide (fun (h : S[q] ≠ z) => unhide HG ⟨unhide H1, fun j hj => by have e : j = q := (by omega); subst e; exact h⟩)
            have HFQ := hide (fun (h : S[q] = z) => unhide HF (fun h' => h'.2 q rfl h))
            generalize S[q] = y at *
            have hcast : ((q + 1 : Nat) : Int) - 1 = (q : Int) := by omega
            by_cases hyz : y = z
            · go_wp2_with fail
              go_ret
              exact ⟨RetOk.no (unhide HFQ hyz), unhide HBT7⟩
            · go_wp2_with fail
              go_roundw
              case rel => exact ⟨q + 1 + 1, by omega, by go_num, unhide HGQ hyz, HB7⟩
              case measure => simp [intOf]; omega
        · go_wp2_with fail
          go_ret
          exact ⟨⟨true, rfl, by simp only [true_iff]; exact (unhide HNS).2 (fun i hi => HK.out i hi (by omega))⟩, unhide HBT⟩
end Go.Proofs.YtmaojhacdelleaaDoor
