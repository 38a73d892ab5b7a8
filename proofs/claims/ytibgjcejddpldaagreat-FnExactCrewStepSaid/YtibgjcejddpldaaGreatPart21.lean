/- A part. -/
import Derived.Test.YtibgjcejddpldaaGreatPart20
import Derived.Test.YtibgjcejddpldaaGreatPart18
import Derived.Test.YtibgjcejddpldaaGreatPart19
import Derived.Test.YtibgjcejddpldaaGreatPart17
namespace Go.Proofs.YtibgjcejddpldaaGreat
open Go Go.RowKit
set_option maxRecDepth 100000
set_option maxHeartbeats 12800000
noncomputable def gvOps : Array Oper := fops Tryz.f103 1
theorem gvOps_neat : Region.noSelect gvOps = true ∧ neat gvOps = true := ⟨by kernel_rfl, by kernel_rfl⟩
theorem gv_region (C : Nat) (c : Cw) (B : CrB) (w : World) (W0 : World) (Q : Exit → Act → World → Prop) (hQ : ∀ c a d v w, Q (.panic c) (Act.put a d v) w → Q (.panic c) a w) (hK : Kc w W0.drew C c B) (hlt : ∀ b, b ∈ CrB.blocks C B → b < w.heap.size) (hr : c.out.length ≤ 8)
 (hend : ∀ a1 c1 a2 c2 a4 c4 W', Uw w W' C c B a4 (c.got.length + c.out.length) c4 (c.got ++ c.out) → Q .normal ⟨#[.pointer (some ⟨C, 0, none⟩), undef, .bool false, undef, undef, undef, .pointer (some ⟨C, 0, none⟩), .pointer (some ⟨C, 0, none⟩), .pointer (some ⟨C, 12, none⟩), .slice B.aT c.got.length B.cT, .slice a1 c.got.length c1, .pointer (some ⟨C, 0, none⟩), .pointer (some ⟨C, 0, none⟩), .pointer (some ⟨C, 10, none⟩), .pointer (some ⟨B.O, 0, none⟩), .slice a2 c.out.length c2, .slice a4 (c.got.length + c.out.length) c4, .int .i64 ((c.got.length + c.out.length : Nat) : Int), .int .i64 0, undef, undef, undef, undef, undef, undef, undef, undef, undef, undef, undef, undef, undef, undef, undef, undef, undef, undef, undef, undef, undef, undef, undef, undef, undef, undef, undef, undef, undef, undef, undef, undef, undef, undef, undef, undef, undef, undef, undef], []⟩ W') : (Code.region 1 gvOps true).wp Tryz.prog Q ⟨#[.pointer (some ⟨C, 0, none⟩), undef, .bool false, undef, undef, undef, undef, undef, undef, undef, undef, undef, undef, undef, undef, undef, undef, undef, undef, undef, undef, undef, undef, undef, undef, undef, undef, undef, undef, undef, undef, undef, undef, undef, undef, undef, undef, undef, undef, undef, undef, undef, undef, undef, undef, undef, undef, undef, undef, undef, undef, undef, undef, undef, undef, undef, undef, undef], []⟩ W0 := by
 have hs := gvOps_neat
 have hq := hK.cr.szT
 obtain ⟨j1, hI, hI0, hI1, hI2⟩ := info_parts infoIntM
 refine wp_region_held (S := fun W => Kc w W C c B) (by kernel_rfl) ?_
 refine any_eq (l' := #[false, false, false, false, false, false, false, false, false, false, false, false, false]) (by kernel_rfl) rfl ?_
 show wpAnyH Tryz.prog .any gvOps Q (fun W => Kc w W C c B) 13 _ _ _
 refine take_any 0 (some 6) (.pointer (some ⟨C, 0, none⟩)) hs hQ (by kernel_rfl) (fun w _ => by kernel_rfl) hK ?_
 refine take_any 1 (some 7) (.pointer (some ⟨C, 0, none⟩)) hs hQ (by kernel_rfl) (fun w _ => by kernel_rfl) hK ?_
 refine take_any 2 (some 8) (.pointer (some ⟨C, 12, none⟩)) hs hQ (by kernel_rfl) (fun w _ => by kernel_rfl) hK ?_
 refine take_load 3 (some 9) 23 (.tmp 8) ⟨C, 12, none⟩ (.slice B.aT c.got.length B.cT) hs hQ (by kernel_rfl) (by kernel_rfl) (by kernel_rfl) (fun w h => ld25 w _ _ h.cr.c12) hK ?_
 refine take_any 5 (some 11) (.pointer (some ⟨C, 0, none⟩)) hs hQ (by kernel_rfl) (fun w _ => by kernel_rfl) hK ?_
 refine take_any 6 (some 12) (.pointer (some ⟨C, 0, none⟩)) hs hQ (by kernel_rfl) (fun w _ => by kernel_rfl) hK ?_
 refine take_any 7 (some 13) (.pointer (some ⟨C, 10, none⟩)) hs hQ (by kernel_rfl) (fun w _ => by kernel_rfl) hK ?_
 refine take_load 8 (some 14) 75 (.tmp 13) ⟨C, 10, none⟩ (.pointer (some ⟨B.O, 0, none⟩)) hs hQ (by kernel_rfl) (by kernel_rfl) (by kernel_rfl) (fun w h => ld67 w _ _ h.cr.c10) hK ?_
 refine take_any 12 (some 18) (.int .i64 0) hs hQ (by kernel_rfl) (fun w _ => by kernel_rfl) hK ?_
 refine ready_one 4 (by kernel_rfl) ?_
 refine op_enter (some 10) 74 #[.slice B.aT c.got.length B.cT] (by kernel_rfl) (by kernel_rfl) (cloneZ_any _ c.got _ (ZAt.of_row hK.cr.got).choose_spec (by omega)) ?_
 rintro e W1 ⟨a1, c1, rfl, ho1, hb1⟩
 have hK1 := hK.on hb1
 have ho1 := ownsRow_base ho1 hK.bel.size
 refine ⟨_, rfl, hK1, ?_⟩
 refine ready_one 9 (by kernel_rfl) ?_
 refine op_enter (some 15) 77 #[.pointer (some ⟨B.O, 0, none⟩)] (by kernel_rfl) (by kernel_rfl) (all_any B.O B.Op _ c.out _ _ hK1.cr.o) ?_
 rintro e W2 ⟨a2, c2, rfl, ho2, hb2⟩
 have hK2 := hK1.on hb2
 refine ⟨_, rfl, hK2, ?_⟩
 have hu2 : Uw w W2 C c B a1 c.got.length c1 c.got := ⟨hK2, ownsRow_keepT ho1 (fun g e => hb2.block g (ho1.lt g e).2), rfl, hlt⟩
 refine ready_one 10 (by kernel_rfl) ?_
 refine op_list (some 16) (by kernel_rfl) ?_
 refine append_list W2 (by kernel_rfl) (.tmp 10) (.tmp 15) 23 (by kernel_rfl) w.heap.size 3 j1 (.int .i64 0) 1 8 Tryz.underlying23 hI hI0 hI1 hI2 rfl (by decide) a1 c.got.length c1 (c.got.map zcs).flatten (by kernel_rfl) hu2.own a2 c.out.length c2 (c.out.map zcs).flatten (by kernel_rfl) (zflat_lenC _) (own_src ho2) (zflat_oneC _) (by unfold maxLen; omega) (by omega) hK2.bel.size ?_
 intro a4 c4 W4 HO HG
 have hu4 := hu2.add c.out rfl (xU HO) (xU HG)
 have hK4 := hu4.kc
 refine And.intro hK4 ?_
 refine take_any 11 (some 17) (.int .i64 ((c.got.length + c.out.length : Nat) : Int)) hs hQ (by kernel_rfl) (fun w _ => by kernel_rfl) hK4 ?_
 refine any_eq (l' := #[true, true, true, true, true, true, true, true, true, true, true, true, true]) (a' := ⟨#[.pointer (some ⟨C, 0, none⟩), undef, .bool false, undef, undef, undef, .pointer (some ⟨C, 0, none⟩), .pointer (some ⟨C, 0, none⟩), .pointer (some ⟨C, 12, none⟩), .slice B.aT c.got.length B.cT, .slice a1 c.got.length c1, .pointer (some ⟨C, 0, none⟩), .pointer (some ⟨C, 0, none⟩), .pointer (some ⟨C, 10, none⟩), .pointer (some ⟨B.O, 0, none⟩), .slice a2 c.out.length c2, .slice a4 (c.got.length + c.out.length) c4, .int .i64 ((c.got.length + c.out.length : Nat) : Int), .int .i64 0, undef, undef, undef, undef, undef, undef, undef, undef, undef, undef, undef, undef, undef, undef, undef, undef, undef, undef, undef, undef, undef, undef, undef, undef, undef, undef, undef, undef, undef, undef, undef, undef, undef, undef, undef, undef, undef, undef, undef], []⟩) (by kernel_rfl) (by kernel_rfl) ?_
 exact wpAnyH_done (by kernel_rfl) (hend a1 c1 a2 c2 a4 c4 W4 hu4) _
theorem Uw.dn {w W : World} {C : Nat} {c : Cw} {B : CrB} {a : Option Addr} {n cap : Nat} {l : List Int} (h : Uw w W C c B a n cap l) (m : Nat) : Uw w (W.drewN m) C c B a n cap l := h.on (below_drewN W m)
theorem Uw.at {w W : World} {C : Nat} {c : Cw} {B : CrB} {a : Option Addr} {n cap : Nat} {l : List Int} (h : Uw w W C c B a n cap l) (k : Nat) (hk : k < l.length) : ∃ g, a = some ⟨g, 0, none⟩ ∧ W.cell? ⟨g, k, none⟩ = some (.int .i64 l[k]) := by
 obtain ⟨g, cap2, hv, -, -⟩ := h.own.form (by have := h.len; omega)
 simp only [Value.slice.injEq] at hv
 obtain ⟨rfl, -, -⟩ := hv
 refine ⟨g, rfl, ?_⟩
 rw [World.ownsRow.cellAt h.own k (by have := h.len; omega), zflat_map, List.getElem?_map, List.getElem?_eq_getElem hk]
 rfl
theorem givenOk_any (C : Nat) (c : Cw) (B : CrB) (w : World) (h : CrAt w C c B) (hF : Form c) : Calls Tryz.prog 103 #[.pointer (some ⟨C, 0, none⟩)] w fun e w' => RetB e (givP c) ∧ Below w.heap.size w w' := by
 have HK := xH (Kc.start h)
 have HLT := xH h.lt
 obtain ⟨s1, s2, s3, s4, s5, s6, s7, s8⟩ := hF.small
 have hn1 := hF.next; have hd1 := hF.due; have hr1 := hF.room; have hw9 := hF.ring
 have ho := hF.out
 have hgt := h.szT
 have HG := xH (show givP c ↔ ((∀ i, (h : i < (c.got ++ c.out).length) → (c.got ++ c.out)[i] = i) ∧ c.room + (c.next - c.due + backZ c) = c.ring.length) from Iff.rfl)
 have HGL := xH (show (c.got ++ c.out).length ≤ 1100 from by rw [List.length_append]; omega)
 have HLE := xH (show c.got.length + c.out.length = (c.got ++ c.out).length from by rw [List.length_append])
 obtain ⟨y1, hu1⟩ : ∃ u, u = c.next - c.due := ⟨_, rfl⟩
 obtain ⟨y2, hu2⟩ : ∃ u, u = y1 + 1 := ⟨_, rfl⟩
 have w1 : IntKind.i64.wrap (c.next - c.due) = y1 := by rw [wrap_i (by omega) (by omega), hu1]
 have w2 : IntKind.i64.wrap (y1 + 1) = y2 := by rw [wrap_i (by omega) (by omega), hu2]
 obtain ⟨y3, hu3⟩ : ∃ u, u = c.room + y1 := ⟨_, rfl⟩
 obtain ⟨y4, hu4⟩ : ∃ u, u = c.room + y2 := ⟨_, rfl⟩
 have w3 : IntKind.i64.wrap (c.room + y1) = y3 := by rw [wrap_i (by omega) (by omega), hu3]
 have w4 : IntKind.i64.wrap (c.room + y2) = y4 := by rw [wrap_i (by omega) (by omega), hu4]
 have HU := xH (show y1 = c.next - c.due ∧ y2 = y1 + 1 ∧ y3 = c.room + y1 ∧ y4 = c.room + y2 from ⟨hu1, hu2, hu3, hu4⟩)
 clear h hF hu1 hu2 hu3 hu4 hn1 hd1 hr1 hw9 s1 s2 s3 s4 s5 s6 s7 s8
 go_enter Tryz.func103, Tryz.ntmps103
 go_upto_region 1 with fail
 refine wp_swap (c' := Code.region 1 gvOps true) (by kernel_rfl) ?_
 refine wp_region_noPanic ?_
 refine gv_region C c B w w _ (fun _ _ _ _ _ h => h) ((xU HK).on (below_drewN w 1)) (xU HLT) (by omega) ?_
 intro a1 c1 a2 c2 a4 c4 W4 hu
 refine NoPanic.normal ?_
 rw [xU HLE] at hu ⊢
 clear ho hgt HLE
 have HP0 := xH hu
 clear hu HK
 have hll : (c.got ++ c.out).length ≤ 1100 := xU HGL
 generalize c.got ++ c.out = l at *
 go_wp2_with fail
 go_loopw [18] (fun i wr => ∃ (k : Nat), k ≤ l.length ∧ i = .int .i64 k ∧ wr = W4 ∧ Hid (∀ j, (hj : j < l.length) → j < k → l[j] = j)) (fun i _ => l.length - (intOf i).toNat)
 case atStart => exact ⟨0, Nat.zero_le _, rfl, rfl, xH (fun j _ hj => absurd hj (by omega))⟩
 case round =>
  obtain ⟨k, hk, rfl, hwr, HA⟩ := hrel
  subst hwr
  by_cases hlt : k < l.length
  · obtain ⟨g, rfl, e0⟩ := (xU HP0).at k hlt
    by_cases he : l[k] = (k : Int)
    · have HN := xH (show ∀ j, (hj : j < l.length) → j < k + 1 → l[j] = j from fun j hj hjk => by
       by_cases e : j = k
       · subst e; exact he
       · exact HA.out j hj (by omega))
      have q : (l[k] != (k : Int)) = false := by simp [he]
      clear he
      generalize l[k] = z at *
      go_wp2_with fail
      go_roundw
      case rel => exact ⟨k + 1, by omega, by go_num, by first | rfl | trivial, HN⟩
      case measure => simp [intOf]; omega
    · have HNO := xH (show ¬ givP c from fun h => he (((xU HG).1 h).1 k hlt))
      have q : (l[k] != (k : Int)) = true := by simp [he]
      have HB := xH (xU HP0).kc.bel
      clear he
      generalize l[k] = z at *
      go_wp2_with fail
      go_ret
      exact ⟨RetB.no (xU HNO), xU HB⟩
  · obtain rfl : k = l.length := by omega
    have HAA := xH (show ∀ i, (h : i < l.length) → l[i] = i from fun i hi => HA.out i hi hi)
    have k1 := (xU HP0).kc.cr.c1; have k9 := (xU HP0).kc.cr.c9; have k7 := fun m => ((xU HP0).dn m).kc.cr.c7; have k13 := fun m => ((xU HP0).dn m).kc.cr.c13; have k8 := fun m => ((xU HP0).dn m).kc.cr.c8; have m2 := fun m => ((xU HP0).dn m).kc.cr.m2
    have HB := xH (fun m n => (((xU HP0).dn m).dn n).kc.bel)
    have p13 := fun m n => (((xU HP0).dn m).dn n).kc.cr.c13; have p8 := fun m n => (((xU HP0).dn m).dn n).kc.cr.c8; have pm2 := fun m n => (((xU HP0).dn m).dn n).kc.cr.m2
    clear hlt hk HA
    by_cases hkp : c.keeper = 3
    · have q : (c.keeper == 3) = true := by simp [hkp]
      have HBK := xH (show backZ c = 1 from by simp [backZ, hkp])
      clear hkp
      by_cases he : y4 = (c.ring.length : Int)
      · have HY := xH (show givP c from (xU HG).2 ⟨xU HAA, by have := xU HU; have := xU HBK; omega⟩)
        have q4 : (y4 == (c.ring.length : Int)) = true := by simp [he]
        clear he
        go_upto_region 7 with fail
        go_quiet (fail)
        go_upto_region 10 with fail
        go_quiet (fail)
        go_wp2_with fail
        go_ret
        exact ⟨RetB.yes (xU HY), xU HB _ _⟩
      · have HNO := xH (show ¬ givP c from fun h => he (by have := ((xU HG).1 h).2; have := xU HU; have := xU HBK; omega))
        have q4 : (y4 == (c.ring.length : Int)) = false := by simp [he]
        clear he
        go_upto_region 7 with fail
        go_quiet (fail)
        go_upto_region 10 with fail
        go_quiet (fail)
        go_wp2_with fail
        go_ret
        exact ⟨RetB.no (xU HNO), xU HB _ _⟩
    · have q : (c.keeper == 3) = false := by simp [hkp]
      have HBK := xH (show backZ c = 0 from by simp [backZ, hkp])
      clear hkp
      by_cases he : y3 = (c.ring.length : Int)
      · have HY := xH (show givP c from (xU HG).2 ⟨xU HAA, by have := xU HU; have := xU HBK; omega⟩)
        have q4 : (y3 == (c.ring.length : Int)) = true := by simp [he]
        clear he
        go_upto_region 7 with fail
        go_quiet (fail)
        go_upto_region 10 with fail
        go_quiet (fail)
        go_wp2_with fail
        go_ret
        exact ⟨RetB.yes (xU HY), xU HB _ _⟩
      · have HNO := xH (show ¬ givP c from fun h => he (by have := ((xU HG).1 h).2; have := xU HU; have := xU HBK; omega))
        have q4 : (y3 == (c.ring.length : Int)) = false := by simp [he]
        clear he
        go_upto_region 7 with fail
        go_quiet (fail)
        go_upto_region 10 with fail
        go_quiet (fail)
        go_wp2_with fail
        go_ret
        exact ⟨RetB.no (xU HNO), xU HB _ _⟩

theorem leftP_bound {c : Cw} (hF : Form c) : 0 ≤ leftP c ∧ leftP c ≤ 5000 := by
 obtain ⟨s1, s2, s3, s4, s5, s6, s7, s8⟩ := hF.small
 have := hF.next; have := hF.out
 have := rdL_bound c.reader; have := kpL_bound c.keeper; have := sumH_bound c.hands; have := sumP_bound c.ring
 have a1 : 0 ≤ (if c.closer = 0 then (1 : Int) else 0) ∧ (if c.closer = 0 then (1 : Int) else 0) ≤ 1 := by split <;> omega
 have a2 : 0 ≤ (if c.user = 0 then (1 : Int) else 0) ∧ (if c.user = 0 then (1 : Int) else 0) ≤ 1 := by split <;> omega
 unfold leftP
 omega
theorem okp_last {c : Cw} {mo : Int} (hj : jobsP c) (hg : givP c) (hc : clsB c = true) (he : endB c = true) (hk : eK c = true) (hmo : mo = 11 * c.jobs + c.hands.length + 7) (hF : Form c) : decide (IntKind.i64.wrap (c.ops + (leftP c)) ≤ mo) = true ↔ okP c := by
 have h1 := leftP_bound hF; have h2 := hF.ops
 have w1 : IntKind.i64.wrap (c.ops + leftP c) = c.ops + leftP c := wrap_i (by omega) (by omega)
 rw [w1, decide_eq_true_iff, hmo]
 exact ⟨fun h => ⟨hj, hg, hc, he, hk, h⟩, fun h => h.2.2.2.2.2⟩
noncomputable def okpOps : Array Oper := fops Tryz.f76 2
theorem okpOps_neat : Region.noSelect okpOps = true ∧ neat okpOps = true := ⟨by kernel_rfl, by kernel_rfl⟩
theorem okp_region (C : Nat) (c : Cw) (B : CrB) (w : World) (mo : Int) (hmo : mo = 11 * c.jobs + c.hands.length + 7) (hF : Form c) (W0 : World) {l : List Value} (Q : Exit → Act → World → Prop) (hQ : ∀ c a d v w, Q (.panic c) (Act.put a d v) w → Q (.panic c) a w) (hS : Kc w W0.drew C c B) (hl : lookL [(0, .pointer (some ⟨C, 0, none⟩)), (3, .int .i64 mo)] l = (45, [.pointer (some ⟨C, 0, none⟩), .int .i64 mo])) (hend : ∀ a' W' r, Act.eval a' (.tmp 2) = .bool r → a'.defers = [] → (r = true ↔ okP c) → Kc w W' C c B → Q .normal a' W') : (Code.region 2 okpOps true).wp Tryz.prog Q ⟨l.toArray, []⟩ W0 := by
 obtain ⟨v, rfl⟩ := look_fr hl
 have hq : NtQ okpOps Q := ⟨okpOps_neat, hQ⟩
 refine T_start (S := fun W => Kc w W C c B) (by kernel_rfl) hS ?_
 clear hl hQ hS
 generalize W0.drew = W
 refine T_z hq (List.range 30) (by kernel_rfl) ?_
 refine T_one 1 (by kernel_rfl) fun hS => O_go (jobsOk_any C c B _ hS.cr hF) (by kernel_rfl) ?_
 rintro _ W ⟨⟨r, rfl, hr⟩, hb⟩
 refine ⟨_, rfl, hS.on hb, ?_⟩
 clear hS hb
 cases r
 case false =>
  exact T_z hq (List.range 30) (by kernel_rfl) (T_end 45 [(2, .bool false)] (by kernel_rfl) (by kernel_rfl) fun hS v => hend _ _ false (by kernel_rfl) rfl (iff_of_false Bool.false_ne_true (fun h => Bool.false_ne_true (hr.2 h.1))) hS)
 have hj := hr.1 rfl
 refine T_z hq (List.range 30) (by kernel_rfl) ?_
 refine T_one 4 (by kernel_rfl) fun hS => O_go (givenOk_any C c B _ hS.cr hF) (by kernel_rfl) ?_
 rintro _ W ⟨⟨r, rfl, hr⟩, hb⟩
 refine ⟨_, rfl, hS.on hb, ?_⟩
 clear hS hb
 cases r
 case false =>
  exact T_z hq (List.range 30) (by kernel_rfl) (T_end 45 [(2, .bool false)] (by kernel_rfl) (by kernel_rfl) fun hS v => hend _ _ false (by kernel_rfl) rfl (iff_of_false Bool.false_ne_true (fun h => Bool.false_ne_true (hr.2 h.2.1))) hS)
 have hg := hr.1 rfl
 refine T_z hq (List.range 30) (by kernel_rfl) ?_
 refine T_one 8 (by kernel_rfl) fun hS => O_go (closedOk_any C c B _ hS.cr) (by kernel_rfl) ?_
 rintro _ W ⟨rfl, hb⟩
 refine ⟨_, rfl, hS.on hb, ?_⟩
 clear hS hb
 cases hr : clsB c
 case false =>
  exact T_z hq (List.range 30) (by kernel_rfl) (T_end 45 [(2, .bool false)] (by kernel_rfl) (by kernel_rfl) fun hS v => hend _ _ false (by kernel_rfl) rfl (iff_of_false Bool.false_ne_true (fun h => Bool.false_ne_true (hr.symm.trans h.2.2.1))) hS)
 have hc := hr
 refine T_z hq (List.range 30) (by kernel_rfl) ?_
 refine T_one 12 (by kernel_rfl) fun hS => O_go (endsOk_any C c B _ hS.cr) (by kernel_rfl) ?_
 rintro _ W ⟨rfl, hb⟩
 refine ⟨_, rfl, hS.on hb, ?_⟩
 clear hS hb
 cases hr : endB c
 case false =>
  exact T_z hq (List.range 30) (by kernel_rfl) (T_end 45 [(2, .bool false)] (by kernel_rfl) (by kernel_rfl) fun hS v => hend _ _ false (by kernel_rfl) rfl (iff_of_false Bool.false_ne_true (fun h => Bool.false_ne_true (hr.symm.trans h.2.2.2.1))) hS)
 have he := hr
 refine T_z hq (List.range 30) (by kernel_rfl) ?_
 refine T_one 16 (by kernel_rfl) fun hS => O_go (keeperOk_any C c B _ hS.cr hF.due.1) (by kernel_rfl) ?_
 rintro _ W ⟨rfl, hb⟩
 refine ⟨_, rfl, hS.on hb, ?_⟩
 clear hS hb
 cases hr : eK c
 case false =>
  exact T_z hq (List.range 30) (by kernel_rfl) (T_end 45 [(2, .bool false)] (by kernel_rfl) (by kernel_rfl) fun hS v => hend _ _ false (by kernel_rfl) rfl (iff_of_false Bool.false_ne_true (fun h => Bool.false_ne_true (hr.symm.trans h.2.2.2.2.1))) hS)
 have hk := hr
 refine T_a hq (List.range 30) (fun w h => .cons (ld3 w _ _ h.cr.c15) Lds.nil) (by kernel_rfl) ?_
 refine T_one 24 (by kernel_rfl) fun hS => O_go (left_any C c B _ hS.cr hF) (by kernel_rfl) ?_
 rintro _ W ⟨rfl, hb⟩
 refine ⟨_, rfl, hS.on hb, ?_⟩
 clear hS hb
 refine T_z hq (List.range 30) (by kernel_rfl) ?_
 exact T_end 45 [(2, .bool (decide (IntKind.i64.wrap (c.ops + (leftP c)) ≤ mo)))] (by kernel_rfl) (by kernel_rfl) fun hS v => hend _ _ _ (by kernel_rfl) rfl (okp_last hj hg hc he hk hmo hF) hS
theorem ok_any (C : Nat) (c : Cw) (B : CrB) (w : World) (h : CrAt w C c B) (hF : Form c) : Calls Tryz.prog 76 #[.pointer (some ⟨C, 0, none⟩)] w fun e w' => RetB e (okP c) ∧ Below w.heap.size w w' := by
 obtain ⟨s1, s2, s3, s4, s5, s6, s7, s8⟩ := hF.small
 have c0 := h.c0; have c4 := h.c4
 obtain ⟨d1, hd1⟩ : ∃ d, d = 11 * c.jobs := ⟨_, rfl⟩
 obtain ⟨d2, hd2⟩ : ∃ d, d = d1 + (c.hands.length : Int) := ⟨_, rfl⟩
 obtain ⟨d3, hd3⟩ : ∃ d, d = d2 + 7 := ⟨_, rfl⟩
 have w1 : IntKind.i64.wrap (11 * c.jobs) = d1 := by rw [wrap_i (by omega) (by omega), hd1]
 have w2 : IntKind.i64.wrap (d1 + (c.hands.length : Int)) = d2 := by rw [wrap_i (by omega) (by omega), hd2]
 have w3 : IntKind.i64.wrap (d2 + 7) = d3 := by rw [wrap_i (by omega) (by omega), hd3]
 have HMO := xH (show d3 = 11 * c.jobs + c.hands.length + 7 from by omega)
 have HKD := xH (fun m => (Kc.start h).dn m)
 have HF := xH hF
 clear h hF hd1 hd2 hd3 s1 s2 s3 s4 s5 s6 s7 s8
 go_enter Tryz.func76, Tryz.ntmps76
 go_upto_region 1 with fail
 go_quiet (fail)
 go_upto_region 2 with fail
 refine wp_swap (c' := Code.region 2 okpOps true) (by kernel_rfl) ?_
 refine wp_region_noPanic ?_
 refine okp_region C c B w d3 (xU HMO) (xU HF) _ _ (fun _ _ _ _ _ h => h) ((xU HKD _).dn 1) (by kernel_rfl) ?_
 intro a' W' r ha hd hr hk
 refine NoPanic.normal ?_
 have HR := xH (show RetB (.returned (.bool r)) (okP c) ∧ Below w.heap.size w W' from ⟨⟨r, rfl, hr⟩, hk.bel⟩)
 clear hr hk
 obtain ⟨tm, df⟩ := a'
 simp only at hd
 subst hd
 have HA := xH (show tm.getD 2 undef = .bool r from ha)
 go_wp2_with fail
 refine bodyPost_ret (v := .bool r) ?_ rfl (xU HR)
 have := xU HA
 rw [Array.getD_eq_getD_getElem?] at this
 simp [results, Tryz.results76, go_sem, this]

theorem shut4 {l : List Int} (h : l.length = 4) : [l.getD 0 0, l.getD 1 0, l.getD 2 0, l.getD 3 0] = l := by
 match l, h with
 | [_, _, _, _], _ => rfl
theorem made_eq (c : Cw) (hF : Form c) : ({ ncCw c.jobs c.hands.length c.ring.length with next := c.next, reader := c.reader, closer := c.closer, keeper := c.keeper, due := c.due, user := c.user, ops := c.ops, hands := c.hands, ring := c.ring, got := c.got, queue := c.queue, results := c.results, out := c.out, room := c.room, shut := [shZ c 0, shZ c 1, shZ c 2, shZ c 3] } : Cw) = c := by
 have h1 := hF.hands; have h2 := hF.ring; have h3 := shut4 hF.shut
 unfold shZ
 rw [h3]
 cases c
 simp only [ncCw] at h1 h2 ⊢
 rw [h1, h2]
theorem Mk.gotten {P : Nat → Prop} {w W : World} {c : Cw} {A : A7} {C : Nat} {x : Cw} {B : CrB} (h : Mk P w W c A C x B) {a : Option Addr} {cap base : Nat} {l : List Int} (ho : W.ownsRow base 3 1 (.slice a l.length cap) l.length (l.map zcs).flatten) (hb : ∀ b, b ∈ [C, B.H, B.Q, B.Qp, B.R, B.Rp, B.O, B.Op, B.M, B.T, B.G] → b < base) (hw : w.heap.size + 1 ≤ base) (hl : l.length ≤ 1000) : Mk P w (W.setCell ⟨C, 12, none⟩ (.slice a l.length cap)) c A C { x with got := l } { B with aT := a, cT := cap } := by
 have hC := h.ge' C (by simp)
 obtain ⟨hd, -⟩ := h.cr.dist
 have hga : ∀ g, g ∈ (Value.slice a 0 0).ownBlock.toList → (Value.slice a l.length cap).ownBlock = some g := fun g hg => by
  cases a with
  | none => simp [Value.ownBlock] at hg
  | some ad => simp only [Value.ownBlock, Option.toList_some, List.mem_singleton] at hg ⊢; rw [hg]
 have hge := h.ge'
 refine ⟨h.ag.other hC 12 _, ?_, ?_⟩
 · obtain ⟨h1, h2, h3, h4, h5, h6, h7, ⟨p, f, hf, h8⟩, ⟨u, h9⟩, a1, a2, a3, a4, a5, a6, a7⟩ := h.cr
   have hm : ∀ b, b ∈ [C, B.H, B.Q, B.Qp, B.R, B.Rp, B.O, B.Op, B.M, B.T, B.G] → b ≠ C → (W.setCell ⟨C, 12, none⟩ (.slice a l.length cap)).heap[b]? = W.heap[b]? := fun b _ hn => Below.heap_setCell _ _ _ _ hn
   refine ⟨row_set h1 rfl rfl (by decide), h2.of_block (hm B.H (by simp) (nd hd 1 0 rfl rfl (by decide))), ownsRow_keepT h3 (fun g e => by simp only [Value.ownBlock, Option.some.injEq] at e; subst e; exact hm B.G (by simp) (nd hd 10 0 rfl rfl (by decide))), ownsRow_base (ownsRow_keepT ho (fun g e => Below.heap_setCell _ _ _ _ (Nat.ne_of_gt (Nat.lt_of_lt_of_le (hb C (by simp)) (ho.lt g e).1)))) (Nat.zero_le _), h5.carry (hm B.Q (by simp) (nd hd 2 0 rfl rfl (by decide))) (hm B.Qp (by simp) (nd hd 3 0 rfl rfl (by decide))), h6.carry (hm B.R (by simp) (nd hd 4 0 rfl rfl (by decide))) (hm B.Rp (by simp) (nd hd 5 0 rfl rfl (by decide))), h7.carry (hm B.O (by simp) (nd hd 6 0 rfl rfl (by decide))) (hm B.Op (by simp) (nd hd 7 0 rfl rfl (by decide))), ⟨p, f, hf, h8.of_block (hm B.M (by simp) (nd hd 8 0 rfl rfl (by decide)))⟩, ⟨u, h9.of_block (hm B.T (by simp) (nd hd 9 0 rfl rfl (by decide)))⟩, a1, a2, a3, a4, a5, hl, ?_⟩
   unfold CrB.blocks
   rw [List.nodup_append]
   refine ⟨hd, ?_, fun y hy z hz e => ?_⟩
   · cases a with
     | none => simp [Value.ownBlock]
     | some ad => simp [Value.ownBlock]
   · subst e
     have := (ho.lt y (hga y hz)).1; have := hb y hy
     omega
 · intro b hbm
   rcases List.mem_append.1 hbm with hbm | hbm
   · exact hge b hbm
   · have := (ho.lt b (hga b hbm)).1
     omega
def CfEnd (w w' : World) (e : Ending) (c : Cw) : Prop := (∃ v r, e = .returned (.tuple #[v, .bool r]) ∧ (r = true ↔ okS c) ∧ (r = true → ∃ C B, v = .pointer (some ⟨C, 0, none⟩) ∧ CrAt w' C c B ∧ ∀ b, b ∈ CrB.blocks C B → w.heap.size ≤ b)) ∧ Below w.heap.size w w'
theorem crewOf_any (c : Cw) (A : A7) (P : Nat → Prop) (w : World) (h : CwAt P w c (A.v c)) (hP : ∀ b, P b → b < w.heap.size) : Calls Tryz.prog 42 #[.agg #[.int .i64 c.jobs, .int .i64 c.workers, .int .i64 c.window, .int .i64 c.next, .int .i64 c.reader, .slice A.q c.queue.length A.pq, .slice A.h c.hands.length A.ph, .int .i64 c.closer, .slice A.r c.results.length A.pr, .int .i64 c.keeper, .slice A.g c.ring.length A.pg, .int .i64 c.due, .slice A.o c.out.length A.po, .int .i64 c.user, .slice A.t c.got.length A.pt, .int .i64 c.room, .slice A.s c.shut.length A.ps, .int .i64 c.ops]] w fun e w' => CfEnd w w' e c := by
 have HS := xH (Ag.start h hP)
 have HBD := xH (fun W (hW : Ag P w W c A) => bounds_any c A P W hW.at' hW.hand.2)
 have HIFF := xH (ok_iff c)
 obtain ⟨dd, hdu, hdr⟩ := rowWorld
 clear h hP
 go_enter Tryz.func42, Tryz.ntmps42
 go_upto_region 1 with fail
 generalize w.alloc (.cells #[.int .i64 c.jobs, .int .i64 c.workers, .int .i64 c.window, .int .i64 c.next, .int .i64 c.reader, .slice A.q c.queue.length A.pq, .slice A.h c.hands.length A.ph, .int .i64 c.closer, .slice A.r c.results.length A.pr, .int .i64 c.keeper, .slice A.g c.ring.length A.pg, .int .i64 c.due, .slice A.o c.out.length A.po, .int .i64 c.user, .slice A.t c.got.length A.pt, .int .i64 c.room, .slice A.s c.shut.length A.ps, .int .i64 c.ops] 26) = W0 at HS ⊢
 refine wp_region_list ?_
 refine wpList_load_mid rfl _ _ rfl w.heap.size 0 rfl [.int .i64 c.jobs, .int .i64 c.workers, .int .i64 c.window, .int .i64 c.next, .int .i64 c.reader, .slice A.q c.queue.length A.pq, .slice A.h c.hands.length A.ph, .int .i64 c.closer, .slice A.r c.results.length A.pr, .int .i64 c.keeper, .slice A.g c.ring.length A.pg, .int .i64 c.due, .slice A.o c.out.length A.po, .int .i64 c.user, .slice A.t c.got.length A.pt, .int .i64 c.room, .slice A.s c.shut.length A.ps, .int .i64 c.ops] dd (xU HS).range hdu hdr info18 ?_
 refine wpList_plain rfl (fun K hK => ?_)
 go_simp
 refine (xU HBD _ (xU HS)).mono ?_
 rintro e w1 ⟨⟨r, rfl, hr⟩, hb⟩
 refine hK _ _ ?_
 clear hK K
 have HS1 := xH ((xU HS).on hb)
 have HR := xH hr
 clear hb HS hr HBD
 cases r with
 | false =>
   have HNO := xH (show ¬ okS c from fun h => Bool.false_ne_true ((xU HR).2 ((xU HIFF).1 h).1))
   have HB := xH (xU HS1).bel
   clear HR
   go_wp2_with fail
   refine bodyPost_ret (v := .tuple #[.pointer none, .bool false]) (by simp [results, Tryz.results42, go_sem]) rfl ?_
   exact ⟨⟨_, _, rfl, iff_of_false Bool.false_ne_true (xU HNO), fun h => absurd h Bool.false_ne_true⟩, xU HB⟩
 | true =>
 have HY := xH ((xU HR).1 rfl)
 clear HR
 have HF := xH (xU HY).1
 have HOKP := xH (show okS c ↔ okP c from ⟨fun h => ((xU HIFF).1 h).2, fun h => (xU HIFF).2 ⟨xU HY, h⟩⟩)
 have HGL := xH (show c.got.length ≤ 1000 from by have := (xU HY).2; have := (xU HF).due; have := (xU HF).next; have := (xU HF).small; omega)
 have HSL := xH (xU HF).shut
 have HN8 := xH (show c.queue.length ≤ c.hands.length from by have := (xU HF).queue; have := (xU HF).hands; omega)
 have HN9 := xH (show c.results.length ≤ c.hands.length from by have := (xU HF).results; have := (xU HF).hands; omega)
 have HN10 := xH (show c.out.length ≤ 1 from (xU HF).out)
 have HL0 := xH (show (ncCw c.jobs c.hands.length c.ring.length).hands.length = c.hands.length from by simp [ncCw])
 have HL1 := xH (show (ncCw c.jobs c.hands.length c.ring.length).ring.length = c.ring.length from by simp [ncCw])
 have HNC := xH (fun W => newCrew_yes c.jobs c.hands.length c.ring.length W (by rw [(xU HF).hands, (xU HF).ring]; exact (xU HF).st))
 have k0 := (xU HS1).k0; have k1 := (xU HS1).k1; have k2 := (xU HS1).k2
 rw [← (xU HF).hands] at k1
 rw [← (xU HF).ring] at k2
 clear HY HIFF
 go_upto_region 4 with (go_at_call 73; refine (xU HNC _).mono ?_; rintro e w2 ⟨C, B, rfl, hcr, hbl, hb⟩; have HM := xH (show Mk P w w2 c A C (ncCw c.jobs c.hands.length c.ring.length) B from ⟨(xU HS1).on hb, hcr, fun b hm => Nat.le_trans (by have := (xU HS1).box.lt; omega) (hbl b hm)⟩); clear hcr hbl hb)
 clear k0 k1 k2 HNC HS1
 refine wp_swap (c' := Code.region 4 cf4Ops true) (by kernel_rfl) ?_
 refine wp_region_noPanic ?_
 refine cf4 c A P w C B (ncCw c.jobs c.hands.length c.ring.length) _ _ (fun _ _ _ _ _ h => h) ((xU HM).dn 1) (xU HL0) (xU HL1) (by kernel_rfl) ?_
 intro v W4 hm
 refine NoPanic.normal ?_
 simp only [frL_eq, frG, List.lookup, Nat.reduceBEq, Nat.reduceAdd, Option.getD_some, Option.getD_none]
 have HM4 := xH (show Mk P w W4 c A C ({ ncCw c.jobs c.hands.length c.ring.length with next := c.next, reader := c.reader, closer := c.closer, keeper := c.keeper, due := c.due, user := c.user, ops := c.ops } : Cw) B from hm)
 clear hm HM
 go_upto_region 5 with fail
 refine wp_swap (c' := Code.region 5 cf5Ops true) (by kernel_rfl) ?_
 refine wp_region_noPanic ?_
 refine cf5 c A P w C B ({ ncCw c.jobs c.hands.length c.ring.length with next := c.next, reader := c.reader, closer := c.closer, keeper := c.keeper, due := c.due, user := c.user, ops := c.ops } : Cw) _ _ (fun _ _ _ _ _ h => h) ((xU HM4).dn 1) (xU HL0) (xU HL1) (by kernel_rfl) ?_
 intro v W5 hm
 refine NoPanic.normal ?_
 simp only [frL_eq, frG, List.lookup, Nat.reduceBEq, Nat.reduceAdd, Option.getD_some, Option.getD_none]
 have HM5 := xH (show Mk P w W5 c A C ({ ncCw c.jobs c.hands.length c.ring.length with next := c.next, reader := c.reader, closer := c.closer, keeper := c.keeper, due := c.due, user := c.user, ops := c.ops, hands := c.hands } : Cw) B from hm)
 clear hm HM4
 go_upto_region 6 with fail
 refine wp_swap (c' := Code.region 6 cf6Ops true) (by kernel_rfl) ?_
 refine wp_region_noPanic ?_
 refine cf6 c A P w C B ({ ncCw c.jobs c.hands.length c.ring.length with next := c.next, reader := c.reader, closer := c.closer, keeper := c.keeper, due := c.due, user := c.user, ops := c.ops, hands := c.hands } : Cw) _ _ (fun _ _ _ _ _ h => h) ((xU HM5).dn 1) rfl (xU HL1) (by kernel_rfl) ?_
 intro v W6 hm
 refine NoPanic.normal ?_
 simp only [frL_eq, frG, List.lookup, Nat.reduceBEq, Nat.reduceAdd, Option.getD_some, Option.getD_none]
 have HM6 := xH (show Mk P w W6 c A C ({ ncCw c.jobs c.hands.length c.ring.length with next := c.next, reader := c.reader, closer := c.closer, keeper := c.keeper, due := c.due, user := c.user, ops := c.ops, hands := c.hands, ring := c.ring } : Cw) B from hm)
 clear hm HM5
 have HCL := xH (fun W (hW : Mk P w W c A C ({ ncCw c.jobs c.hands.length c.ring.length with next := c.next, reader := c.reader, closer := c.closer, keeper := c.keeper, due := c.due, user := c.user, ops := c.ops, hands := c.hands, ring := c.ring } : Cw) B) => cloneZ_any _ c.got W hW.ag.at'.t (by have := xU HGL; omega))
 have k14 := (xU HM6).ag.k14
 go_upto_region 8 with (go_at_call 74; refine (xU HCL _ (xU HM6)).mono ?_; rintro e w7 ⟨a7, p7, rfl, ho7, hb7⟩; have hm7 := (xU HM6).on hb7; have z12 := hm7.cr.c12; have f12 := hm7.cr.row.frozen 12; have HM7 := xH (hm7.gotten ho7 (fun b hb => (xU HM6).cr.lt b (List.mem_append_left _ hb)) (by have := (xU HM6).ag.box.lt; omega) (xU HGL)); clear hm7 ho7 hb7)
 clear k14 HCL z12 f12 HM6
 generalize w7.setCell ⟨C, 12, none⟩ (.slice a7 c.got.length p7) = W7 at HM7 ⊢
 refine wp_swap (c' := Code.region 8 cf8Ops true) (by kernel_rfl) ?_
 refine wp_region_noPanic ?_
 refine cf8 c A P w C { B with aT := a7, cT := p7 } ({ ncCw c.jobs c.hands.length c.ring.length with next := c.next, reader := c.reader, closer := c.closer, keeper := c.keeper, due := c.due, user := c.user, ops := c.ops, hands := c.hands, ring := c.ring, got := c.got } : Cw) _ _ (fun _ _ _ _ _ h => h) ((xU HM7).dn 1) rfl rfl rfl (xU HN8) (by kernel_rfl) ?_
 intro v W8 hm
 refine NoPanic.normal ?_
 simp only [frL_eq, frG, List.lookup, Nat.reduceBEq, Nat.reduceAdd, Option.getD_some, Option.getD_none]
 have HM8 := xH (show Mk P w W8 c A C ({ ncCw c.jobs c.hands.length c.ring.length with next := c.next, reader := c.reader, closer := c.closer, keeper := c.keeper, due := c.due, user := c.user, ops := c.ops, hands := c.hands, ring := c.ring, got := c.got, queue := c.queue } : Cw) { B with aT := a7, cT := p7 } from hm)
 clear hm HM7
 go_upto_region 9 with fail
 refine wp_swap (c' := Code.region 9 cf9Ops true) (by kernel_rfl) ?_
 refine wp_region_noPanic ?_
 refine cf9 c A P w C { B with aT := a7, cT := p7 } ({ ncCw c.jobs c.hands.length c.ring.length with next := c.next, reader := c.reader, closer := c.closer, keeper := c.keeper, due := c.due, user := c.user, ops := c.ops, hands := c.hands, ring := c.ring, got := c.got, queue := c.queue } : Cw) _ _ (fun _ _ _ _ _ h => h) ((xU HM8).dn 1) rfl rfl rfl (xU HN9) (by kernel_rfl) ?_
 intro v W9 hm
 refine NoPanic.normal ?_
 simp only [frL_eq, frG, List.lookup, Nat.reduceBEq, Nat.reduceAdd, Option.getD_some, Option.getD_none]
 have HM9 := xH (show Mk P w W9 c A C ({ ncCw c.jobs c.hands.length c.ring.length with next := c.next, reader := c.reader, closer := c.closer, keeper := c.keeper, due := c.due, user := c.user, ops := c.ops, hands := c.hands, ring := c.ring, got := c.got, queue := c.queue, results := c.results } : Cw) { B with aT := a7, cT := p7 } from hm)
 clear hm HM8
 go_upto_region 10 with fail
 refine wp_swap (c' := Code.region 10 cf10Ops true) (by kernel_rfl) ?_
 refine wp_region_noPanic ?_
 refine cf10 c A P w C { B with aT := a7, cT := p7 } ({ ncCw c.jobs c.hands.length c.ring.length with next := c.next, reader := c.reader, closer := c.closer, keeper := c.keeper, due := c.due, user := c.user, ops := c.ops, hands := c.hands, ring := c.ring, got := c.got, queue := c.queue, results := c.results } : Cw) _ _ (fun _ _ _ _ _ h => h) ((xU HM9).dn 1) rfl rfl rfl (xU HN10) (by kernel_rfl) ?_
 intro v W10 hm
 refine NoPanic.normal ?_
 simp only [frL_eq, frG, List.lookup, Nat.reduceBEq, Nat.reduceAdd, Option.getD_some, Option.getD_none]
 have HM10 := xH (show Mk P w W10 c A C ({ ncCw c.jobs c.hands.length c.ring.length with next := c.next, reader := c.reader, closer := c.closer, keeper := c.keeper, due := c.due, user := c.user, ops := c.ops, hands := c.hands, ring := c.ring, got := c.got, queue := c.queue, results := c.results, out := c.out } : Cw) { B with aT := a7, cT := p7 } from hm)
 clear hm HM9
 go_upto_region 11 with fail
 refine wp_swap (c' := Code.region 11 cf11Ops true) (by kernel_rfl) ?_
 refine wp_region_noPanic ?_
 refine cf11 c A P w C { B with aT := a7, cT := p7 } ({ ncCw c.jobs c.hands.length c.ring.length with next := c.next, reader := c.reader, closer := c.closer, keeper := c.keeper, due := c.due, user := c.user, ops := c.ops, hands := c.hands, ring := c.ring, got := c.got, queue := c.queue, results := c.results, out := c.out } : Cw) _ _ (fun _ _ _ _ _ h => h) ((xU HM10).dn 1) rfl rfl (by kernel_rfl) ?_
 intro v W11 hm
 refine NoPanic.normal ?_
 simp only [frL_eq, frG, List.lookup, Nat.reduceBEq, Nat.reduceAdd, Option.getD_some, Option.getD_none]
 have HM11 := xH (show Mk P w W11 c A C ({ ncCw c.jobs c.hands.length c.ring.length with next := c.next, reader := c.reader, closer := c.closer, keeper := c.keeper, due := c.due, user := c.user, ops := c.ops, hands := c.hands, ring := c.ring, got := c.got, queue := c.queue, results := c.results, out := c.out, room := c.room } : Cw) { B with aT := a7, cT := p7 } from hm)
 clear hm HM10
 obtain ⟨bs, os, hA, -⟩ := (xU HM11).ag.at_s 0 (by have := xU HSL; omega)
 have HAS := xH hA
 clear hA
 go_upto_region 12 with fail
 refine wp_swap (c' := Code.region 12 cf12Ops true) (by kernel_rfl) ?_
 refine wp_region_noPanic ?_
 refine cf12 c A P w C { B with aT := a7, cT := p7 } ({ ncCw c.jobs c.hands.length c.ring.length with next := c.next, reader := c.reader, closer := c.closer, keeper := c.keeper, due := c.due, user := c.user, ops := c.ops, hands := c.hands, ring := c.ring, got := c.got, queue := c.queue, results := c.results, out := c.out, room := c.room } : Cw) _ _ (fun _ _ _ _ _ h => h) ((xU HM11).dn 1) rfl rfl rfl bs os (xU HAS) (xU HSL) (by kernel_rfl) ?_
 intro v W12 hm
 refine NoPanic.normal ?_
 simp only [frL_eq, frG, List.lookup, Nat.reduceBEq, Nat.reduceAdd, Option.getD_some, Option.getD_none]
 have HM12 := xH (show Mk P w W12 c A C ({ ncCw c.jobs c.hands.length c.ring.length with next := c.next, reader := c.reader, closer := c.closer, keeper := c.keeper, due := c.due, user := c.user, ops := c.ops, hands := c.hands, ring := c.ring, got := c.got, queue := c.queue, results := c.results, out := c.out, room := c.room, shut := [shZ c 0, shZ c 1, shZ c 2, shZ c 3] } : Cw) { B with aT := a7, cT := p7 } from hm)
 clear hm HM11
 have hmf := xU HM12
 rw [made_eq c (xU HF)] at hmf
 have HOK := xH (ok_any C c _ W12 hmf.cr (xU HF))
 have HMF := xH hmf
 clear hmf HM12
 go_wp2_with (go_at_call 76; refine (xU HOK).mono ?_; rintro e w13 ⟨⟨r, rfl, hr⟩, hb⟩; have HR := xH hr; have HM13 := xH ((xU HMF).on hb); clear hr hb)
 refine bodyPost_ret (v := .tuple #[.pointer (some ⟨C, 0, none⟩), .bool r]) (by simp [results, Tryz.results42, go_sem]) rfl ?_
 exact ⟨⟨_, _, rfl, (xU HR).trans (xU HOKP).symm, fun _ => ⟨C, _, rfl, (xU HM13).cr, fun b hb => Nat.le_of_succ_le ((xU HM13).ge b hb)⟩⟩, (xU HM13).ag.bel⟩
end Go.Proofs.YtibgjcejddpldaaGreat
