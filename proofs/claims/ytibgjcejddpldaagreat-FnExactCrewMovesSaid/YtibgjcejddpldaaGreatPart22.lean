/- The walk of the program's givenOk. Conditions: the crew is there, its numbers are within their bounds. -/
import Derived.Test.YtibgjcejddpldaaGreatPart21
namespace Go.Proofs.YtibgjcejddpldaaGreat
open Go Go.RowKit

noncomputable def gvOps : Array Oper := fops Tryz.f103 1
theorem gvOps_neat : Region.noSelect gvOps = true ∧ neat gvOps = true := ⟨by kernel_rfl, by kernel_rfl⟩
set_option maxRecDepth 100000 in
set_option maxHeartbeats 3200000 in
theorem gv_region (C : Nat) (c : Cw) (B : CrB) (w : World) (W0 : World) (Q : Exit → Act → World → Prop) (hQ : ∀ c a d v w, Q (.panic c) (Act.put a d v) w → Q (.panic c) a w) (hK : Kc w W0.drew C c B) (hlt : ∀ b, b ∈ CrB.blocks C B → b < w.heap.size) (hr : c.out.length ≤ 8)
    (hend : ∀ a1 c1 a2 c2 a4 c4 W', Uw w W' C c B a4 (c.got.length + c.out.length) c4 (c.got ++ c.out) → Q .normal ⟨#[.pointer (some ⟨C, 0, none⟩), undef, .bool false, undef, undef, undef, .pointer (some ⟨C, 0, none⟩), .pointer (some ⟨C, 0, none⟩), .pointer (some ⟨C, 12, none⟩), .slice B.aT c.got.length B.cT, .slice a1 c.got.length c1, .pointer (some ⟨C, 0, none⟩), .pointer (some ⟨C, 0, none⟩), .pointer (some ⟨C, 10, none⟩), .pointer (some ⟨B.O, 0, none⟩), .slice a2 c.out.length c2, .slice a4 (c.got.length + c.out.length) c4, .int .i64 ((c.got.length + c.out.length : Nat) : Int), .int .i64 0, undef, undef, undef, undef, undef, undef, undef, undef, undef, undef, undef, undef, undef, undef, undef, undef, undef, undef, undef, undef, undef, undef, undef, undef, undef, undef, undef, undef, undef, undef, undef, undef, undef, undef, undef, undef, undef, undef, undef], []⟩ W') : (Code.region 1 gvOps true).wp Tryz.prog Q ⟨#[.pointer (some ⟨C, 0, none⟩), undef, .bool false, undef, undef, undef, undef, undef, undef, undef, undef, undef, undef, undef, undef, undef, undef, undef, undef, undef, undef, undef, undef, undef, undef, undef, undef, undef, undef, undef, undef, undef, undef, undef, undef, undef, undef, undef, undef, undef, undef, undef, undef, undef, undef, undef, undef, undef, undef, undef, undef, undef, undef, undef, undef, undef, undef, undef], []⟩ W0 := by
  have hs := gvOps_neat
  have hq := hK.cr.szT
  obtain ⟨j1, hI, hI0, hI1, hI2⟩ := info_parts infoIntM
  refine wp_region_held (S := fun W => Kc w W C c B) (by kernel_rfl) ?_
  refine any_eq (l' := #[false, false, false, false, false, false, false, false, false, false, false, false, false]) (by kernel_rfl) rfl ?_
  show wpAnyH Tryz.prog .any gvOps Q (fun W => Kc w W C c B) 13 _ _ _
  refine take_any 0 (some 6) (.pointer (some ⟨C, 0, none⟩)) hs hQ (by kernel_rfl) (fun w _ => by kernel_rfl) hK ?_
  refine take_any 1 (some 7) (.pointer (some ⟨C, 0, none⟩)) hs hQ (by kernel_rfl) (fun w _ => by kernel_rfl) hK ?_
  refine take_any 2 (some 8) (.pointer (some ⟨C, 12, none⟩)) hs hQ (by kernel_rfl) (fun w _ => by kernel_rfl) hK ?_
  refine take_load 3 (some 9) 23 (.tmp 8) ⟨C, 12, none⟩ (.slice B.aT c.got.length B.cT) hs hQ (by kernel_rfl) (by kernel_rfl) (by kernel_rfl) (fun w h => ld25 w _ _ h.cr.c12) hK ?_
  refine take_any 5 (some 11) (.pointer (some ⟨C, 0, none⟩)) hs hQ (by kernel_rfl) (fun w _ => by kernel_rfl) hK ?_
  refine take_any 6 (some 12) (.pointer (some ⟨C, 0, none⟩)) hs hQ (by kernel_rfl) (fun w _ => by kernel_rfl) hK ?_
  refine take_any 7 (some 13) (.pointer (some ⟨C, 10, none⟩)) hs hQ (by kernel_rfl) (fun w _ => by kernel_rfl) hK ?_
  refine take_load 8 (some 14) 75 (.tmp 13) ⟨C, 10, none⟩ (.pointer (some ⟨B.O, 0, none⟩)) hs hQ (by kernel_rfl) (by kernel_rfl) (by kernel_rfl) (fun w h => ld67 w _ _ h.cr.c10) hK ?_
  refine take_any 12 (some 18) (.int .i64 0) hs hQ (by kernel_rfl) (fun w _ => by kernel_rfl) hK ?_
  refine ready_one 4 (by kernel_rfl) ?_
  refine op_enter (some 10) 74 #[.slice B.aT c.got.length B.cT] (by kernel_rfl) (by kernel_rfl) (cloneZ_any _ c.got _ (ZAt.of_row hK.cr.got).choose_spec (by omega)) ?_
  rintro e W1 ⟨a1, c1, rfl, ho1, hb1⟩
  have hK1 := hK.on hb1
  have ho1 := ownsRow_base ho1 hK.bel.size
  refine ⟨_, rfl, hK1, ?_⟩
  refine ready_one 9 (by kernel_rfl) ?_
  refine op_enter (some 15) 77 #[.pointer (some ⟨B.O, 0, none⟩)] (by kernel_rfl) (by kernel_rfl) (all_any B.O B.Op _ c.out _ _ hK1.cr.o) ?_
  rintro e W2 ⟨a2, c2, rfl, ho2, hb2⟩
  have hK2 := hK1.on hb2
  refine ⟨_, rfl, hK2, ?_⟩
  have hu2 : Uw w W2 C c B a1 c.got.length c1 c.got := ⟨hK2, ownsRow_keepT ho1 (fun g e => hb2.block g (ho1.lt g e).2), rfl, hlt⟩
  refine ready_one 10 (by kernel_rfl) ?_
  refine op_list (some 16) (by kernel_rfl) ?_
  refine append_list W2 (by kernel_rfl) (.tmp 10) (.tmp 15) 23 (by kernel_rfl) w.heap.size 3 j1 (.int .i64 0) 1 8 Tryz.underlying23 hI hI0 hI1 hI2 rfl (by decide) a1 c.got.length c1 (c.got.map zcs).flatten (by kernel_rfl) hu2.own a2 c.out.length c2 (c.out.map zcs).flatten (by kernel_rfl) (zflat_lenC _) (own_src ho2) (zflat_oneC _) (by unfold maxLen; omega) (by omega) hK2.bel.size ?_
  intro a4 c4 W4 HO HG
  have hu4 := hu2.add c.out rfl (unhide HO) (unhide HG)
  have hK4 := hu4.kc
  refine And.intro hK4 ?_
  refine take_any 11 (some 17) (.int .i64 ((c.got.length + c.out.length : Nat) : Int)) hs hQ (by kernel_rfl) (fun w _ => by kernel_rfl) hK4 ?_
  refine any_eq (l' := #[true, true, true, true, true, true, true, true, true, true, true, true, true]) (a' := ⟨#[.pointer (some ⟨C, 0, none⟩), undef, .bool false, undef, undef, undef, .pointer (some ⟨C, 0, none⟩), .pointer (some ⟨C, 0, none⟩), .pointer (some ⟨C, 12, none⟩), .slice B.aT c.got.length B.cT, .slice a1 c.got.length c1, .pointer (some ⟨C, 0, none⟩), .pointer (some ⟨C, 0, none⟩), .pointer (some ⟨C, 10, none⟩), .pointer (some ⟨B.O, 0, none⟩), .slice a2 c.out.length c2, .slice a4 (c.got.length + c.out.length) c4, .int .i64 ((c.got.length + c.out.length : Nat) : Int), .int .i64 0, undef, undef, undef, undef, undef, undef, undef, undef, undef, undef, undef, undef, undef, undef, undef, undef, undef, undef, undef, undef, undef, undef, undef, undef, undef, undef, undef, undef, undef, undef, undef, undef, undef, undef, undef, undef, undef, undef, undef], []⟩) (by kernel_rfl) (by kernel_rfl) ?_
  exact wpAnyH_done (by kernel_rfl) (hend a1 c1 a2 c2 a4 c4 W4 hu4) _
theorem Uw.dn {w W : World} {C : Nat} {c : Cw} {B : CrB} {a : Option Addr} {n cap : Nat} {l : List Int} (h : Uw w W C c B a n cap l) (m : Nat) : Uw w (W.drewN m) C c B a n cap l := h.on (below_drewN W m)
theorem Uw.at {w W : World} {C : Nat} {c : Cw} {B : CrB} {a : Option Addr} {n cap : Nat} {l : List Int} (h : Uw w W C c B a n cap l) (k : Nat) (hk : k < l.length) : ∃ g, a = some ⟨g, 0, none⟩ ∧ W.cell? ⟨g, k, none⟩ = some (.int .i64 l[k]) := by
  obtain ⟨g, cap2, hv, -, -⟩ := h.own.form (by have := h.len; omega)
  simp only [Value.slice.injEq] at hv
  obtain ⟨rfl, -, -⟩ := hv
  refine ⟨g, rfl, ?_⟩
  rw [World.ownsRow.cellAt h.own k (by have := h.len; omega), zflat_map, List.getElem?_map, List.getElem?_eq_getElem hk]
  rfl
set_option maxRecDepth 100000 in
set_option maxHeartbeats 3200000 in
theorem givenOk_any (C : Nat) (c : Cw) (B : CrB) (w : World) (h : CrAt w C c B) (hF : Form c) : Calls Tryz.prog 103 #[.pointer (some ⟨C, 0, none⟩)] w fun e w' => RetB e (givP c) ∧ Below w.heap.size w w' := by
  have HK := hide (Kc.start h)
  have HLT := hide h.lt
  obtain ⟨s1, s2, s3, s4, s5, s6, s7, s8⟩ := hF.small
  have hn1 := hF.next; have hd1 := hF.due; have hr1 := hF.room; have hw9 := hF.ring
  have ho := hF.out
  have hgt := h.szT
  have HG := hide (show givP c ↔ ((∀ i, (h : i < (c.got ++ c.out).length) → (c.got ++ c.out)[i] = i) ∧ c.room + (c.next - c.due + backZ c) = c.ring.length) from Iff.rfl)
  have HGL := hide (show (c.got ++ c.out).length ≤ 1100 from by rw [List.length_append]; omega)
  have HLE := hide (show c.got.length + c.out.length = (c.got ++ c.out).length from by rw [List.length_append])
  obtain ⟨y1, hu1⟩ : ∃ u, u = c.next - c.due := ⟨_, rfl⟩
  obtain ⟨y2, hu2⟩ : ∃ u, u = y1 + 1 := ⟨_, rfl⟩
  have w1 : IntKind.i64.wrap (c.next - c.due) = y1 := by rw [wrap_i (by omega) (by omega), hu1]
  have w2 : IntKind.i64.wrap (y1 + 1) = y2 := by rw [wrap_i (by omega) (by omega), hu2]
  obtain ⟨y3, hu3⟩ : ∃ u, u = c.room + y1 := ⟨_, rfl⟩
  obtain ⟨y4, hu4⟩ : ∃ u, u = c.room + y2 := ⟨_, rfl⟩
  have w3 : IntKind.i64.wrap (c.room + y1) = y3 := by rw [wrap_i (by omega) (by omega), hu3]
  have w4 : IntKind.i64.wrap (c.room + y2) = y4 := by rw [wrap_i (by omega) (by omega), hu4]
  have HU := hide (show y1 = c.next - c.due ∧ y2 = y1 + 1 ∧ y3 = c.room + y1 ∧ y4 = c.room + y2 from ⟨hu1, hu2, hu3, hu4⟩)
  clear h hF hu1 hu2 hu3 hu4 hn1 hd1 hr1 hw9 s1 s2 s3 s4 s5 s6 s7 s8
  go_enter Tryz.func103, Tryz.ntmps103
  go_upto_region 1 with fail
  refine wp_swap (c' := Code.region 1 gvOps true) (by kernel_rfl) ?_
  refine wp_region_noPanic ?_
  refine gv_region C c B w w _ (fun _ _ _ _ _ h => h) ((unhide HK).on (below_drewN w 1)) (unhide HLT) (by omega) ?_
  intro a1 c1 a2 c2 a4 c4 W4 hu
  refine NoPanic.normal ?_
  rw [unhide HLE] at hu ⊢
  clear ho hgt HLE
  have HP0 := hide hu
  clear hu HK
  have hll : (c.got ++ c.out).length ≤ 1100 := unhide HGL
  generalize c.got ++ c.out = l at *
  go_wp2_with fail
  go_loopw [18] (fun i wr => ∃ (k : Nat), k ≤ l.length ∧ i = .int .i64 k ∧ wr = W4 ∧ Hid (∀ j, (hj : j < l.length) → j < k → l[j] = j)) (fun i _ => l.length - (intOf i).toNat)
  case atStart => exact ⟨0, Nat.zero_le _, rfl, rfl, hide (fun j _ hj => absurd hj (by omega))⟩
  case round =>
    obtain ⟨k, hk, rfl, hwr, HA⟩ := hrel
    subst hwr
    by_cases hlt : k < l.length
    · obtain ⟨g, rfl, e0⟩ := (unhide HP0).at k hlt
      by_cases he : l[k] = (k : Int)
      · have HN := hide (show ∀ j, (hj : j < l.length) → j < k + 1 → l[j] = j from fun j hj hjk => by
          by_cases e : j = k
          · subst e; exact he
          · exact HA.out j hj (by omega))
        have q : (l[k] != (k : Int)) = false := by simp [he]
        clear he
        generalize l[k] = z at *
        go_wp2_with fail
        go_roundw
        case rel => exact ⟨k + 1, by omega, by go_num, by first | rfl | trivial, HN⟩
        case measure => simp [intOf]; omega
      · have HNO := hide (show ¬ givP c from fun h => he (((unhide HG).1 h).1 k hlt))
        have q : (l[k] != (k : Int)) = true := by simp [he]
        have HB := hide (unhide HP0).kc.bel
        clear he
        generalize l[k] = z at *
        go_wp2_with fail
        go_ret
        exact ⟨RetB.no (unhide HNO), unhide HB⟩
    · obtain rfl : k = l.length := by omega
      have HAA := hide (show ∀ i, (h : i < l.length) → l[i] = i from fun i hi => HA.out i hi hi)
      have k1 := (unhide HP0).kc.cr.c1; have k9 := (unhide HP0).kc.cr.c9; have k7 := fun m => ((unhide HP0).dn m).kc.cr.c7; have k13 := fun m => ((unhide HP0).dn m).kc.cr.c13; have k8 := fun m => ((unhide HP0).dn m).kc.cr.c8; have m2 := fun m => ((unhide HP0).dn m).kc.cr.m2
      have HB := hide (fun m n => (((unhide HP0).dn m).dn n).kc.bel)
      have p13 := fun m n => (((unhide HP0).dn m).dn n).kc.cr.c13; have p8 := fun m n => (((unhide HP0).dn m).dn n).kc.cr.c8; have pm2 := fun m n => (((unhide HP0).dn m).dn n).kc.cr.m2
      clear hlt hk HA
      by_cases hkp : c.keeper = 3
      · have q : (c.keeper == 3) = true := by simp [hkp]
        have HBK := hide (show backZ c = 1 from by simp [backZ, hkp])
        clear hkp
        by_cases he : y4 = (c.ring.length : Int)
        · have HY := hide (show givP c from (unhide HG).2 ⟨unhide HAA, by have := unhide HU; have := unhide HBK; omega⟩)
          have q4 : (y4 == (c.ring.length : Int)) = true := by simp [he]
          clear he
          go_upto_region 7 with fail
          go_quiet (fail)
          go_upto_region 10 with fail
          go_quiet (fail)
          go_wp2_with fail
          go_ret
          exact ⟨RetB.yes (unhide HY), unhide HB _ _⟩
        · have HNO := hide (show ¬ givP c from fun h => he (by have := ((unhide HG).1 h).2; have := unhide HU; have := unhide HBK; omega))
          have q4 : (y4 == (c.ring.length : Int)) = false := by simp [he]
          clear he
          go_upto_region 7 with fail
          go_quiet (fail)
          go_upto_region 10 with fail
          go_quiet (fail)
          go_wp2_with fail
          go_ret
          exact ⟨RetB.no (unhide HNO), unhide HB _ _⟩
      · have q : (c.keeper == 3) = false := by simp [hkp]
        have HBK := hide (show backZ c = 0 from by simp [backZ, hkp])
        clear hkp
        by_cases he : y3 = (c.ring.length : Int)
        · have HY := hide (show givP c from (unhide HG).2 ⟨unhide HAA, by have := unhide HU; have := unhide HBK; omega⟩)
          have q4 : (y3 == (c.ring.length : Int)) = true := by simp [he]
          clear he
          go_upto_region 7 with fail
          go_quiet (fail)
          go_upto_region 10 with fail
          go_quiet (fail)
          go_wp2_with fail
          go_ret
          exact ⟨RetB.yes (unhide HY), unhide HB _ _⟩
        · have HNO := hide (show ¬ givP c from fun h => he (by have := ((unhide HG).1 h).2; have := unhide HU; have := unhide HBK; omega))
          have q4 : (y3 == (c.ring.length : Int)) = false := by simp [he]
          clear he
          go_upto_region 7 with fail
          go_quiet (fail)
          go_upto_region 10 with fail
          go_quiet (fail)
          go_wp2_with fail
          go_ret
          exact ⟨RetB.no (unhide HNO), unhide HB _ _⟩
end Go.Proofs.YtibgjcejddpldaaGreat
