/- A part. -/
import Derived.Test.YtibgjcejddpldaaGreatPart12
import Derived.Deep.RegionHeld3
namespace Go.Proofs.YtibgjcejddpldaaGreat
open Go Go.RowKit
set_option maxRecDepth 100000
set_option maxHeartbeats 6400000
structure Uw (w W : World) (C : Nat) (c : Cw) (B : CrB) (a : Option Addr) (n cap : Nat) (l : List Int) : Prop where
 kc : Kc w W C c B
 own : W.ownsRow w.heap.size 3 1 (.slice a n cap) n (l.map zcs).flatten
 len : n = l.length
 lt : ∀ b, b ∈ CrB.blocks C B → b < w.heap.size
theorem Uw.on {w W W' : World} {C : Nat} {c : Cw} {B : CrB} {a : Option Addr} {n cap : Nat} {l : List Int} (h : Uw w W C c B a n cap l) (hb : Below W.heap.size W W') : Uw w W' C c B a n cap l :=
 ⟨h.kc.on hb, ownsRow_keepT h.own (fun g e => hb.block g (h.own.lt g e).2), h.len, h.lt⟩
theorem Kc.grown {w W W' : World} {C : Nat} {c : Cw} {B : CrB} {v : Value} (h : Kc w W C c B) (hlt : ∀ b, b ∈ CrB.blocks C B → b < w.heap.size) (hg : W.grownBy W' v.ownBlock) (hv : ∀ g, v.ownBlock = some g → w.heap.size ≤ g) : Kc w W' C c B := by
 have hno : ∀ x, x < w.heap.size → some x ≠ v.ownBlock := fun x hx e => by have := hv x e.symm; omega
 exact ⟨h.cr.carry fun b hb => hg.block b (h.cr.lt b hb) (hno b (hlt b hb)), h.bel.grown hg h.bel.size (fun g e => by have := hv g e; omega)⟩
theorem Uw.add {w W W' : World} {C : Nat} {c : Cw} {B : CrB} {a a' : Option Addr} {n m cap cap' : Nat} {l : List Int} (h : Uw w W C c B a n cap l) (zs : List Int) (hm : m = zs.length) (ho : W'.ownsRow w.heap.size 3 1 (.slice a' (n + m) cap') (n + m) ((l.map zcs).flatten ++ (zs.map zcs).flatten)) (hg : W.grownBy W' (Value.slice a n cap).ownBlock) : Uw w W' C c B a' (n + m) cap' (l ++ zs) :=
 ⟨h.kc.grown h.lt hg (fun g e => (h.own.lt g e).1), by rw [List.map_append, List.flatten_append]; exact ho, by rw [List.length_append, h.len, hm], h.lt⟩
theorem own_src {W : World} {base n cap : Nat} {e : TypeId} {a : Option Addr} {xs : List Value} (h : W.ownsRow base e 1 (.slice a n cap) n xs) : 0 < n → ∃ ad, a = some ad ∧ ∀ j u, xs[j]? = some u → W.cell? (ad.add j) = some u := by
 intro hn
 obtain ⟨g, cap', hv, -, -⟩ := h.form hn
 simp only [Value.slice.injEq] at hv
 obtain ⟨rfl, -, -⟩ := hv
 exact ⟨_, rfl, h.cells rfl⟩
noncomputable def uwOps : Array Oper := fops Tryz.f114 1
theorem uwOps_neat : Region.noSelect uwOps = true ∧ neat uwOps = true := ⟨by kernel_rfl, by kernel_rfl⟩
theorem uw_region (C : Nat) (c : Cw) (B : CrB) (w : World) (W0 : World) (Q : Exit → Act → World → Prop) (hQ : ∀ c a d v w, Q (.panic c) (Act.put a d v) w → Q (.panic c) a w) (hK : Kc w W0.drew C c B) (hlt : ∀ b, b ∈ CrB.blocks C B → b < w.heap.size) (hq : c.queue.length ≤ 8) (hr : c.results.length ≤ 8)
 (hend : ∀ a1 c1 a2 c2 a4 c4 W', Uw w W' C c B a4 (c.queue.length + c.results.length) c4 (c.queue ++ c.results) → Q .normal ⟨#[.pointer (some ⟨C, 0, none⟩), undef, .slice none 0 0, .slice a4 (c.queue.length + c.results.length) c4, undef, undef, undef, undef, .pointer (some ⟨C, 0, none⟩), .pointer (some ⟨C, 0, none⟩), .pointer (some ⟨C, 3, none⟩), .pointer (some ⟨B.Q, 0, none⟩), .slice a1 c.queue.length c1, .pointer (some ⟨C, 0, none⟩), .pointer (some ⟨C, 0, none⟩), .pointer (some ⟨C, 6, none⟩), .pointer (some ⟨B.R, 0, none⟩), .slice a2 c.results.length c2, .slice a4 (c.queue.length + c.results.length) c4, undef, undef, undef, undef, undef, undef, undef, undef, undef, undef, undef, undef, undef, undef, undef, undef, undef, undef, undef, undef, undef, undef, undef, undef, undef, undef, undef, undef, undef, undef, undef, undef, undef, undef, undef, undef, undef, undef, undef, undef, undef, undef, undef, undef, undef, undef, undef, undef, undef, undef, undef, undef, undef, undef, undef, undef, undef, undef, undef, undef, undef, undef], []⟩ W') : (Code.region 1 uwOps true).wp Tryz.prog Q ⟨#[.pointer (some ⟨C, 0, none⟩), undef, .slice none 0 0, undef, undef, undef, undef, undef, undef, undef, undef, undef, undef, undef, undef, undef, undef, undef, undef, undef, undef, undef, undef, undef, undef, undef, undef, undef, undef, undef, undef, undef, undef, undef, undef, undef, undef, undef, undef, undef, undef, undef, undef, undef, undef, undef, undef, undef, undef, undef, undef, undef, undef, undef, undef, undef, undef, undef, undef, undef, undef, undef, undef, undef, undef, undef, undef, undef, undef, undef, undef, undef, undef, undef, undef, undef, undef, undef, undef, undef, undef], []⟩ W0 := by
 have hs := uwOps_neat
 obtain ⟨j1, hI, hI0, hI1, hI2⟩ := info_parts infoIntM
 refine wp_region_held (S := fun W => Kc w W C c B) (by kernel_rfl) ?_
 refine any_eq (l' := #[false, false, false, false, false, false, false, false, false, false, false, false]) (by kernel_rfl) rfl ?_
 show wpAnyH Tryz.prog .any uwOps Q (fun W => Kc w W C c B) 12 _ _ _
 refine take_any 0 (some 8) (.pointer (some ⟨C, 0, none⟩)) hs hQ (by kernel_rfl) (fun w _ => by kernel_rfl) hK ?_
 refine take_any 1 (some 9) (.pointer (some ⟨C, 0, none⟩)) hs hQ (by kernel_rfl) (fun w _ => by kernel_rfl) hK ?_
 refine take_any 2 (some 10) (.pointer (some ⟨C, 3, none⟩)) hs hQ (by kernel_rfl) (fun w _ => by kernel_rfl) hK ?_
 refine take_load 3 (some 11) 75 (.tmp 10) ⟨C, 3, none⟩ (.pointer (some ⟨B.Q, 0, none⟩)) hs hQ (by kernel_rfl) (by kernel_rfl) (by kernel_rfl) (fun w h => ld67 w _ _ h.cr.c3) hK ?_
 refine take_any 5 (some 13) (.pointer (some ⟨C, 0, none⟩)) hs hQ (by kernel_rfl) (fun w _ => by kernel_rfl) hK ?_
 refine take_any 6 (some 14) (.pointer (some ⟨C, 0, none⟩)) hs hQ (by kernel_rfl) (fun w _ => by kernel_rfl) hK ?_
 refine take_any 7 (some 15) (.pointer (some ⟨C, 6, none⟩)) hs hQ (by kernel_rfl) (fun w _ => by kernel_rfl) hK ?_
 refine take_load 8 (some 16) 75 (.tmp 15) ⟨C, 6, none⟩ (.pointer (some ⟨B.R, 0, none⟩)) hs hQ (by kernel_rfl) (by kernel_rfl) (by kernel_rfl) (fun w h => ld67 w _ _ h.cr.c6) hK ?_
 refine ready_one 4 (by kernel_rfl) ?_
 refine op_enter (some 12) 77 #[.pointer (some ⟨B.Q, 0, none⟩)] (by kernel_rfl) (by kernel_rfl) (all_any B.Q B.Qp _ c.queue _ _ hK.cr.q) ?_
 rintro e W1 ⟨a1, c1, rfl, ho1, hb1⟩
 have hK1 := hK.on hb1
 have ho1 := ownsRow_base ho1 hK.bel.size
 refine ⟨_, rfl, hK1, ?_⟩
 refine ready_one 9 (by kernel_rfl) ?_
 refine op_enter (some 17) 77 #[.pointer (some ⟨B.R, 0, none⟩)] (by kernel_rfl) (by kernel_rfl) (all_any B.R B.Rp _ c.results _ _ hK1.cr.r) ?_
 rintro e W2 ⟨a2, c2, rfl, ho2, hb2⟩
 have hK2 := hK1.on hb2
 refine ⟨_, rfl, hK2, ?_⟩
 have hu2 : Uw w W2 C c B a1 c.queue.length c1 c.queue := ⟨hK2, ownsRow_keepT ho1 (fun g e => hb2.block g (ho1.lt g e).2), rfl, hlt⟩
 refine ready_one 10 (by kernel_rfl) ?_
 refine op_list (some 18) (by kernel_rfl) ?_
 refine append_list W2 (by kernel_rfl) (.tmp 12) (.tmp 17) 23 (by kernel_rfl) w.heap.size 3 j1 (.int .i64 0) 1 8 Tryz.underlying23 hI hI0 hI1 hI2 rfl (by decide) a1 c.queue.length c1 (c.queue.map zcs).flatten (by kernel_rfl) hu2.own a2 c.results.length c2 (c.results.map zcs).flatten (by kernel_rfl) (zflat_lenC _) (own_src ho2) (zflat_oneC _) (by unfold maxLen; omega) (by omega) hK2.bel.size ?_
 intro a4 c4 W4 HO HG
 have hu4 := hu2.add c.results rfl (xU HO) (xU HG)
 have hK4 := hu4.kc
 refine And.intro hK4 ?_
 refine take_any 11 (some 3) (.slice a4 (c.queue.length + c.results.length) c4) hs hQ (by kernel_rfl) (fun w _ => by kernel_rfl) hK4 ?_
 refine any_eq (l' := #[true, true, true, true, true, true, true, true, true, true, true, true]) (a' := ⟨#[.pointer (some ⟨C, 0, none⟩), undef, .slice none 0 0, .slice a4 (c.queue.length + c.results.length) c4, undef, undef, undef, undef, .pointer (some ⟨C, 0, none⟩), .pointer (some ⟨C, 0, none⟩), .pointer (some ⟨C, 3, none⟩), .pointer (some ⟨B.Q, 0, none⟩), .slice a1 c.queue.length c1, .pointer (some ⟨C, 0, none⟩), .pointer (some ⟨C, 0, none⟩), .pointer (some ⟨C, 6, none⟩), .pointer (some ⟨B.R, 0, none⟩), .slice a2 c.results.length c2, .slice a4 (c.queue.length + c.results.length) c4, undef, undef, undef, undef, undef, undef, undef, undef, undef, undef, undef, undef, undef, undef, undef, undef, undef, undef, undef, undef, undef, undef, undef, undef, undef, undef, undef, undef, undef, undef, undef, undef, undef, undef, undef, undef, undef, undef, undef, undef, undef, undef, undef, undef, undef, undef, undef, undef, undef, undef, undef, undef, undef, undef, undef, undef, undef, undef, undef, undef, undef, undef], []⟩) (by kernel_rfl) (by kernel_rfl) ?_
 exact wpAnyH_done (by kernel_rfl) (hend a1 c1 a2 c2 a4 c4 W4 hu4) _
def UwV (w W : World) (C : Nat) (c : Cw) (B : CrB) (v : Value) (l : List Int) : Prop := ∃ a n cap, v = .slice a n cap ∧ Uw w W C c B a n cap l
theorem under_any (C : Nat) (c : Cw) (B : CrB) (w : World) (h : CrAt w C c B) (hF : Form c) : Calls Tryz.prog 114 #[.pointer (some ⟨C, 0, none⟩)] w fun e w' => ∃ a cap, e = .returned (.slice a (underL c).length cap) ∧ w'.ownsRow w.heap.size 3 1 (.slice a (underL c).length cap) (underL c).length ((underL c).map zcs).flatten ∧ Below w.heap.size w w' := by
 have HK := xH (Kc.start h)
 have HLT := xH h.lt
 obtain ⟨s1, s2, s3, s4, s5, s6, s7, s8⟩ := hF.small
 have n1 := hF.next.1; have n2 := hF.next.2
 obtain ⟨j1, hI, hI0, hI1, hI2⟩ := info_parts infoIntM
 have HI := xH hI; have HI0 := xH hI0; have HI1 := xH hI1; have HI2 := xH hI2
 have HPL := xH (show underL c = c.queue ++ c.results ++ rd1 c ++ ((c.hands.filter busyH).map Hd.job) ++ rgL c.ring.length c.ring from rfl)
 have HHJ := xH (fun s j W => hasJob_any s j W)
 clear h hF hI hI0 hI1 hI2
 go_enter Tryz.func114, Tryz.ntmps114
 go_upto_region 1 with fail
 refine wp_swap (c' := Code.region 1 uwOps true) (by kernel_rfl) ?_
 refine wp_region_noPanic ?_
 refine uw_region C c B w w _ (fun _ _ _ _ _ h => h) ((xU HK).on (below_drewN w 1)) (xU HLT) s5 s6 ?_
 intro a1 c1 a2 c2 a4 c4 W4 hu
 refine NoPanic.normal ?_
 have HP0 := xH hu
 have HLQ := xH (show (c.queue ++ c.results).length ≤ 16 from by rw [List.length_append]; omega)
 have hn0 : c.queue.length + c.results.length ≤ 16 := by omega
 have k2 := hu.kc.cr.c2
 clear hu HK
 generalize c.queue.length + c.results.length = m0 at HP0 hn0 ⊢
 generalize c.queue ++ c.results = l0 at HP0 HPL HLQ
 go_upto_region 2 with fail
 go_cut [23] from 19 to 23 (fun x wx => x = .bool (c.reader == 1) ∧ wx = W4)
 case first =>
  go_wp2_with fail
  go_meet
  case rel => exact ⟨rfl, rfl⟩
 case rest =>
 obtain ⟨rfl, rfl⟩ := hcut
 clear k2
 go_upto_if 23 with fail
 go_cut [3, 23] from 24 to 31 (fun v _ wx => UwV w wx C c B v (l0 ++ rd1 c))
 case first =>
  by_cases hr : c.reader = 1
  · have hq : (c.reader == 1) = true := by simp [hr]
    have HR := xH (show rd1 c = [c.next - 1] from by unfold rd1; rw [if_pos hr])
    have hwr : IntKind.i64.wrap (c.next - 1) = c.next - 1 := by rw [IntKind.wrap_i64]; omega
    have k1 := (xU HP0).kc.cr.c1
    clear hr
    go_wp2_with (at_builtin; refine append_row _ rfl _ _ 23 rfl w.heap.size 3 j1 (.int .i64 0) 1 8 Tryz.underlying23 (xU HI) (xU HI0) (xU HI1) (xU HI2) rfl (by decide) (.slice a4 m0 c4) m0 ((l0).map zcs).flatten rfl (World.ownsRow.alloc (xU HP0).own _) ⟨wc.heap.size, 0, none⟩ 1 1 [.int .i64 (c.next - 1)] rfl rfl (cell_one wc _ _) (fun u hu => by simp at hu; subst hu; rfl) (by decide) (by unfold maxLen; omega) (by omega) (by have := (xU HP0).kc.bel.size; simp; omega) ?_; intro v' w8 hown8 hgrow8 hat8; obtain ⟨g8, cap8, rfl, hg1, hg2⟩ := hown8.form (by omega); have HP1 := xH (((xU HP0).on ((Below.refl _ _).alloc (Nat.le_refl _) (.cells #[.int .i64 (c.next - 1)] 3))).add [(c.next - 1)] rfl hown8 hgrow8); clear hown8 hgrow8 hat8)
    go_meet
    case rel => exact ⟨_, _, _, rfl, by rw [xU HR]; exact xU HP1⟩
  · have hq : (c.reader == 1) = false := by simp [hr]
    have HR := xH (show rd1 c = [] from by unfold rd1; rw [if_neg hr])
    clear hr
    go_wp2_with fail
    go_meet
    case rel => exact ⟨_, _, _, rfl, by rw [xU HR, List.append_nil]; exact xU HP0⟩
 case rest =>
 obtain ⟨a, n, cap, rfl, hp⟩ := hcut
 have HP2 := xH hp
 have k4 := hp.kc.cr.c4
 have HL2 := xH (show (l0 ++ rd1 c).length ≤ 17 from by rw [List.length_append]; have := rd1_len c; have := xU HLQ; omega)
 clear hp HP0
 generalize l0 ++ rd1 c = l2 at HP2 HPL HL2
 have HLB := xH (show ∀ k, ((c.hands.take k).filter busyH).length ≤ c.hands.length from fun k => Nat.le_trans (List.length_filter_le _ _) (by rw [List.length_take]; omega))
 go_wp2_with fail
 clear k4
 go_loopw [3, 37] (fun v i wr => ∃ (k : Nat) (a : Option Addr) (n cap : Nat), k ≤ c.hands.length ∧ i = .int .i64 k ∧ v = .slice a n cap ∧ Hid (Uw w wr C c B a n cap (l2 ++ (((c.hands.take k).filter busyH).map Hd.job)))) (fun _ i _ => c.hands.length - (intOf i).toNat)
 case atStart => exact ⟨0, _, _, _, Nat.zero_le _, rfl, rfl, by rw [List.take_zero, List.filter_nil, List.map_nil, List.append_nil]; exact HP2⟩
 case round =>
  obtain ⟨k, a, n, cap, hk, rfl, rfl, HP5⟩ := hrel
  have hn9 : n ≤ 40 := by
   rw [HP5.out.len]
   simp only [List.length_append, List.length_map]
   have := xU HL2; have := xU HLB k
   omega
  by_cases hlt : k < c.hands.length
  · obtain ⟨e0, e1⟩ := hands_at HP5.out.kc.cr.hands k hlt
    have HTK := xH (show (c.hands.take (k + 1)).filter busyH = (c.hands.take k).filter busyH ++ (if busyH c.hands[k] then [c.hands[k]] else []) from by
     rw [List.take_succ_eq_append_getElem hlt, List.filter_append]
     congr 1
     by_cases hb : busyH c.hands[k] = true <;> simp [hb])
    have HJB := xH (show ∀ s j W, c.hands[k] = ⟨s, j⟩ → Calls Tryz.prog 112 #[.agg #[.int .i64 s, .int .i64 j]] W fun e w' => e = .returned (.bool (busyH c.hands[k])) ∧ Below W.heap.size W w' from fun s j W e => by rw [e]; exact xU HHJ s j W)
    generalize c.hands[k] = hd at e0 e1 HTK HJB
    obtain ⟨st, jb⟩ := hd
    have HJ2 := xH (fun W => xU HJB st jb W rfl)
    clear HJB
    simp only at e0 e1
    have HPA := xH (fun o => HP5.out.on ((Below.refl _ wr).alloc (Nat.le_refl _) o))
    have hbw : wr.heap.size < (wr.alloc (.cells #[.int .i64 st, .int .i64 jb] 73)).heap.size := by simp
    have x1 : (wr.alloc (.cells #[.int .i64 st, .int .i64 jb] 73)).cell? ⟨wr.heap.size, 1, none⟩ = some (.int .i64 jb) := by simp
    cases hbz : busyH ⟨st, jb⟩ with
    | true =>
      have HTK2 := xH (show l2 ++ (((c.hands.take (k + 1)).filter busyH).map Hd.job) = (l2 ++ (((c.hands.take k).filter busyH).map Hd.job)) ++ [jb] from by
       rw [xU HTK, if_pos hbz, List.map_append, List.append_assoc]; simp)
      rw [hbz] at HJ2
      clear HTK hbz
      generalize l2 ++ (((c.hands.take k).filter busyH).map Hd.job) = l5 at HP5 HTK2 HPA
      go_wp2_with (first
       | (go_at_call 112; refine (xU HJ2 _).mono ?_; rintro e w5 ⟨rfl, hb5⟩; have HP6 := xH ((xU HPA _).on hb5); have x2 : w5.cell? ⟨wr.heap.size, 1, none⟩ = some (.int .i64 jb) := (by rw [World.cell?_of_block (a := ⟨wr.heap.size, 1, none⟩) (hb5.block _ hbw)]; exact x1); clear hb5)
       | (at_builtin; refine append_row _ rfl _ _ 23 rfl w.heap.size 3 j1 (.int .i64 0) 1 8 Tryz.underlying23 (xU HI) (xU HI0) (xU HI1) (xU HI2) rfl (by decide) (.slice a n cap) n ((l5).map zcs).flatten rfl (World.ownsRow.alloc (xU HP6).own _) ⟨w5.heap.size, 0, none⟩ 1 1 [.int .i64 jb] rfl rfl (cell_one w5 _ _) (fun u hu => by simp at hu; subst hu; rfl) (by decide) (by unfold maxLen; omega) (by omega) (by have := (xU HP6).kc.bel.size; simp; omega) ?_; intro v' w8 hown8 hgrow8 hat8; obtain ⟨g8, cap8, rfl, hg1, hg2⟩ := hown8.form (by omega); have HP7 := xH (((xU HP6).on ((Below.refl _ _).alloc (Nat.le_refl _) (.cells #[.int .i64 jb] 3))).add [jb] rfl hown8 hgrow8); clear hown8 hgrow8 hat8))
      go_roundw
      case rel => exact ⟨k + 1, _, _, _, by omega, by go_num, rfl, by rw [xU HTK2]; exact HP7⟩
      case measure => simp [intOf]; omega
    | false =>
      have HTK2 := xH (show l2 ++ (((c.hands.take (k + 1)).filter busyH).map Hd.job) = l2 ++ (((c.hands.take k).filter busyH).map Hd.job) from by
       rw [xU HTK, if_neg (by rw [hbz]; simp), List.append_nil])
      rw [hbz] at HJ2
      clear HTK hbz
      generalize l2 ++ (((c.hands.take k).filter busyH).map Hd.job) = l5 at HP5 HTK2 HPA
      go_wp2_with (go_at_call 112; refine (xU HJ2 _).mono ?_; rintro e w5 ⟨rfl, hb5⟩; have HP6 := xH ((xU HPA _).on hb5); clear hb5)
      go_roundw
      case rel => exact ⟨k + 1, _, _, _, by omega, by go_num, rfl, by rw [xU HTK2]; exact HP6⟩
      case measure => simp [intOf]; omega
  · obtain rfl : k = c.hands.length := by omega
    have HP7 := HP5
    rw [List.take_length] at HP7
    have HB3 := xH (show (l2 ++ ((c.hands.filter busyH).map Hd.job)).length ≤ 40 from by rw [← HP7.out.len]; exact hn9)
    clear HP5 HLB HP2 hn9 hlt hk
    generalize l2 ++ ((c.hands.filter busyH).map Hd.job) = l3 at HP7 HPL HB3
    have k8 := HP7.out.kc.cr.c8
    obtain ⟨WA, hWA⟩ : ∃ WA, WA = wr := ⟨_, rfl⟩
    subst hWA
    go_wp2_with fail
    clear k8
    go_loopw [3, 54] (fun v i wr => ∃ (k : Nat) (a : Option Addr) (n cap : Nat), k ≤ c.ring.length ∧ i = .int .i64 k ∧ v = .slice a n cap ∧ Hid (Uw w wr C c B a n cap (l3 ++ rgL c.ring.length (c.ring.take k)))) (fun _ i _ => c.ring.length - (intOf i).toNat)
    case atStart => exact ⟨0, _, _, _, Nat.zero_le _, rfl, rfl, by rw [List.take_zero]; simp only [rgL, List.zipIdx_nil, List.flatMap_nil, List.append_nil]; exact HP7⟩
    case round =>
     obtain ⟨k, a, n, cap, hk, rfl, rfl, HP5⟩ := hrel
     have hn99 : n ≤ 100 := by
      rw [HP5.out.len]
      simp only [List.length_append]
      have h2 := xU HB3
      have h3 := rgL_len c.ring.length (c.ring.take k)
      rw [List.length_take] at h3
      omega
     by_cases hlt : k < c.ring.length
     · have e0 := HP5.out.kc.cr.g_at k hlt
       have k8 := HP5.out.kc.cr.c8
       have HTK := xH (show l3 ++ rgL c.ring.length (c.ring.take (k + 1)) = (l3 ++ rgL c.ring.length (c.ring.take k)) ++ rg1 c.ring.length c.ring[k] k from by rw [rgL_take _ _ _ hlt, List.append_assoc])
       have hnz : ¬ ((c.ring.length : Int) = 0) := by omega
       have hnz2 : ¬ (c.ring.length = 0) := by omega
       generalize c.ring[k] = z at e0 HTK
       generalize l3 ++ rgL c.ring.length (c.ring.take k) = l5 at HP5 HTK
       by_cases hz : z = -1
       · have q1 : (z == -1) = true := by simp [hz]
         have HTK2 := xH (show rg1 c.ring.length z k = [] from by unfold rg1; rw [if_pos hz])
         rw [xU HTK2, List.append_nil] at HTK
         clear hz HTK2
         go_wp2_with fail
         go_roundw
         case rel => exact ⟨k + 1, _, _, _, by omega, by go_num, rfl, by rw [xU HTK]; exact HP5⟩
         case measure => simp [intOf]; omega
       · have q1 : (z == -1) = false := by simp [hz]
         by_cases hm : z.tmod (c.ring.length : Int) = (k : Int)
         · have HTK2 := xH (show rg1 c.ring.length z k = [z] from by unfold rg1; rw [if_neg hz, if_pos hm])
           rw [xU HTK2] at HTK
           have q2 : (z.tmod (c.ring.length : Int) != (k : Int)) = false := by simp [hm]
           clear hz HTK2 hm
           go_wp2_with (at_builtin; refine append_row _ rfl _ _ 23 rfl w.heap.size 3 j1 (.int .i64 0) 1 8 Tryz.underlying23 (xU HI) (xU HI0) (xU HI1) (xU HI2) rfl (by decide) (.slice a n cap) n ((l5).map zcs).flatten rfl (World.ownsRow.alloc (HP5.out).own _) ⟨wr.heap.size, 0, none⟩ 1 1 [.int .i64 z] rfl rfl (cell_one wr _ _) (fun u hu => by simp at hu; subst hu; rfl) (by decide) (by unfold maxLen; omega) (by omega) (by have := (HP5.out).kc.bel.size; simp; omega) ?_; intro v' w8 hown8 hgrow8 hat8; obtain ⟨g8, cap8, rfl, hg1, hg2⟩ := hown8.form (by omega); have HP6 := xH (((HP5.out).on ((Below.refl _ _).alloc (Nat.le_refl _) (.cells #[.int .i64 z] 3))).add [z] rfl hown8 hgrow8); clear hown8 hgrow8 hat8)
           go_roundw
           case rel => exact ⟨k + 1, _, _, _, by omega, by go_num, rfl, by rw [xU HTK]; exact HP6⟩
           case measure => simp [intOf]; omega
         · have HTK2 := xH (show rg1 c.ring.length z k = [-1] from by unfold rg1; rw [if_neg hz, if_neg hm])
           rw [xU HTK2] at HTK
           have q2 : (z.tmod (c.ring.length : Int) != (k : Int)) = true := by simp [hm]
           clear hz HTK2 hm
           go_wp2_with (at_builtin; refine append_row _ rfl _ _ 23 rfl w.heap.size 3 j1 (.int .i64 0) 1 8 Tryz.underlying23 (xU HI) (xU HI0) (xU HI1) (xU HI2) rfl (by decide) (.slice a n cap) n ((l5).map zcs).flatten rfl (World.ownsRow.alloc (HP5.out).own _) ⟨wr.heap.size, 0, none⟩ 1 1 [.int .i64 (-1)] rfl rfl (cell_one wr _ _) (fun u hu => by simp at hu; subst hu; rfl) (by decide) (by unfold maxLen; omega) (by omega) (by have := (HP5.out).kc.bel.size; simp; omega) ?_; intro v' w8 hown8 hgrow8 hat8; obtain ⟨g8, cap8, rfl, hg1, hg2⟩ := hown8.form (by omega); have HP6 := xH (((HP5.out).on ((Below.refl _ _).alloc (Nat.le_refl _) (.cells #[.int .i64 (-1)] 3))).add [(-1)] rfl hown8 hgrow8); clear hown8 hgrow8 hat8)
           go_roundw
           case rel => exact ⟨k + 1, _, _, _, by omega, by go_num, rfl, by rw [xU HTK]; exact HP6⟩
           case measure => simp [intOf]; omega
     · obtain rfl : k = c.ring.length := by omega
       have HP9 := HP5
       rw [List.take_length, ← xU HPL] at HP9
       have hln := HP9.out.len
       subst hln
       clear HP5
       go_wp2_with fail
       go_ret
       exact ⟨_, _, rfl, HP9.out.own, HP9.out.kc.bel⟩

def seenF (l : List Int) (k : Nat) (i : Nat) : Value := .int .i64 (if (i : Int) ∈ l.take k then 1 else 0)
structure Sn (w W : World) (C : Nat) (c : Cw) (B : CrB) (a : Option Addr) (cap : Nat) (l : List Int) (g jn k : Nat) : Prop where
 uw : Uw w W C c B a l.length cap l
 seen : W.rowIs g 3 jn (seenF l k)
 ge : w.heap.size ≤ g
 ne : ∀ x, (Value.slice a l.length cap).ownBlock = some x → x ≠ g
theorem Sn.dn {w W : World} {C : Nat} {c : Cw} {B : CrB} {a : Option Addr} {cap : Nat} {l : List Int} {g jn k : Nat} (h : Sn w W C c B a cap l g jn k) (m : Nat) : Sn w (W.drewN m) C c B a cap l g jn k :=
 ⟨h.uw.on (below_drewN W m), h.seen.of_block rfl, h.ge, h.ne⟩
theorem Uw.other {w W : World} {C : Nat} {c : Cw} {B : CrB} {a : Option Addr} {n cap : Nat} {l : List Int} (h : Uw w W C c B a n cap l) {g : Nat} (o : Nat) (v : Value) (hg : w.heap.size ≤ g) (hne : ∀ x, (Value.slice a n cap).ownBlock = some x → x ≠ g) : Uw w (W.setCell ⟨g, o, none⟩ v) C c B a n cap l :=
 ⟨⟨h.kc.cr.carry fun b hb => Below.heap_setCell _ _ _ _ (Nat.ne_of_lt (Nat.lt_of_lt_of_le (h.lt b hb) hg)), h.kc.bel.setCell hg v⟩, ownsRow_keepT h.own (fun x e => Below.heap_setCell _ _ _ _ (hne x e)), h.len, h.lt⟩
theorem Sn.put {w W : World} {C : Nat} {c : Cw} {B : CrB} {a : Option Addr} {cap : Nat} {l : List Int} {g jn k j : Nat} (h : Sn w W C c B a cap l g jn k) (hk : k < l.length) (hj : l[k] = (j : Int)) : Sn w (W.setCell ⟨g, j, none⟩ (.int .i64 1)) C c B a cap l g jn (k + 1) := by
 refine ⟨h.uw.other j _ h.ge h.ne, (h.seen.set j (.int .i64 1)).congr fun i hi => ?_, h.ge, h.ne⟩
 unfold seenF
 rw [List.take_succ_eq_append_getElem hk]
 by_cases e : i = j
 · subst e; simp [hj]
 · have e1 : ¬ ((i : Int) = (j : Int)) := by omega
   simp [e, hj, e1]
theorem nodup_take {l : List Int} {k : Nat} (hk : k < l.length) (h : (l.take k).Nodup) (hn : l[k] ∉ l.take k) : (l.take (k + 1)).Nodup := by
 rw [List.take_succ_eq_append_getElem hk]
 rw [List.nodup_append]
 refine ⟨h, by simp, ?_⟩
 intro x hx y hy
 simp only [List.mem_singleton] at hy
 subst hy
 intro e
 subst e
 exact hn hx
theorem not_nodup {l : List Int} {k : Nat} (hk : k < l.length) (hn : l[k] ∈ l.take k) : ¬ l.Nodup := by
 intro h
 obtain ⟨i, hi, e⟩ := List.mem_iff_getElem.1 hn
 rw [List.length_take] at hi
 rw [List.getElem_take] at e
 exact (jD_nodup.2 h) k i hk (by omega) e.symm
theorem wrap_i {x : Int} (h1 : -100000 ≤ x) (h2 : x ≤ 100000) : IntKind.i64.wrap x = x := by rw [IntKind.wrap_i64]; omega
theorem underL_len (c : Cw) : (underL c).length ≤ c.queue.length + c.results.length + 1 + c.hands.length + c.ring.length := by
 unfold underL
 simp only [List.length_append, List.length_map]
 have h1 := rd1_len c; have h2 := List.length_filter_le busyH c.hands; have h3 := rgL_len c.ring.length c.ring
 omega
theorem jobsOk_any (C : Nat) (c : Cw) (B : CrB) (w : World) (h : CrAt w C c B) (hF : Form c) : Calls Tryz.prog 102 #[.pointer (some ⟨C, 0, none⟩)] w fun e w' => RetB e (jobsP c) ∧ Below w.heap.size w w' := by
 have HU := xH (under_any C c B w h hF)
 have HLT := xH h.lt
 have HK := xH (Kc.start h)
 obtain ⟨s1, s2, s3, s4, s5, s6, s7, s8⟩ := hF.small
 obtain ⟨jn, hjn⟩ : ∃ jn : Nat, c.jobs = jn := ⟨c.jobs.toNat, by omega⟩
 have hn1 := hF.next.1; have hn2 := hF.next.2; have hd1 := hF.due.1; have hd2 := hF.due.2
 have HJN := xH (show c.next ≤ jn ∧ jn ≤ 60 ∧ 0 ≤ c.due ∧ c.due ≤ c.next from by omega)
 have HST := xH (fun W (hW : CrAt W C c B) => stopped_any C c B W hW)
 obtain ⟨nd, hnd⟩ : ∃ nd, nd = c.next - c.due := ⟨_, rfl⟩
 have hw2 : IntKind.i64.wrap (c.next - c.due) = nd := by rw [wrap_i (by omega) (by omega), hnd]
 obtain ⟨nx, hnx⟩ : ∃ nx, nx = c.next - 1 := ⟨_, rfl⟩
 have hw1 : IntKind.i64.wrap (c.next - 1) = nx := by rw [wrap_i (by omega) (by omega), hnx]
 have HNX := xH hnx
 have HJP := xH (show jobsP c ↔ (jA c (underL c) ∧ (underL c).Nodup ∧ (0 < shZ c 3 ∨ ((underL c).length : Int) = nd)) from by unfold jobsP; rw [jD_nodup, hnd])
 have hULL := underL_len c
 have hmk := run_make_row' (P := Tryz.prog) 23 3 (.int .i64 0) 8 Tryz.underlying23 infoIntM rfl .i64 .i64 jn (by omega) (by omega)
 clear h hnd hnx hn1 hn2 hd1 hd2
 have HHS := xH (show (underL c).length ≤ 1000 from by omega)
 clear hULL s1 s2 s3 s4 s5 s6 s7 s8 hF
 have HJA := xH (show jA c (underL c) ↔ ∀ z ∈ underL c, c.due ≤ z ∧ z ≤ nx from by rw [jA_mem, xU HNX])
 generalize underL c = l at *
 go_enter Tryz.func102, Tryz.ntmps102
 have hlen : l.length ≤ 1000 := xU HHS
 go_upto_region 2 with (go_at_call 114; refine (xU HU).mono ?_; rintro e w1 ⟨a, cap, rfl, ho, hb⟩; have HU1 := xH (show Uw w w1 C c B a l.length cap l from ⟨(xU HK).on hb, ho, rfl, xU HLT⟩); clear ho hb)
 have c0 := (xU HU1).kc.cr.c0
 rw [hjn] at c0
 have HS0 := xH (show Sn w (w1.alloc (.cells (madeCells #[.int .i64 0] jn) 3)) C c B a cap l w1.heap.size jn 0 from
  ⟨(xU HU1).on ((Below.refl _ _).alloc (Nat.le_refl _) _), (World.rowIs_made w1 (.int .i64 0) jn _).congr (fun i hi => by simp [seenF]), (xU HU1).kc.bel.size, fun x e => by have := ((xU HU1).own.lt x e).2; omega⟩)
 clear HK HU
 go_wp2_with fail
 clear c0 hmk
 generalize w1.alloc (.cells (madeCells #[.int .i64 0] jn) 3) = W0 at HS0 ⊢
 generalize w1.heap.size = g at HS0 ⊢
 clear HU1
 go_loopw [16] (fun i wr => ∃ (k : Nat), k ≤ l.length ∧ i = .int .i64 k ∧ Hid (Sn w wr C c B a cap l g jn k) ∧ Hid (∀ j, (hj : j < l.length) → j < k → c.due ≤ l[j] ∧ l[j] ≤ nx) ∧ Hid ((l.take k).Nodup)) (fun i _ => l.length - (intOf i).toNat)
 case atStart => exact ⟨0, Nat.zero_le _, rfl, HS0, xH (fun j _ hj => absurd hj (by omega)), xH (by simp)⟩
 case round =>
  obtain ⟨k, hk, rfl, HSn, HA, HD⟩ := hrel
  have HB := xH (fun m => (HSn.out.dn m).uw.kc.bel)
  by_cases hlt : k < l.length
  · have hsrc := own_src HSn.out.uw.own (by omega)
    obtain ⟨ad, rfl, hcell⟩ := hsrc
    obtain ⟨ab, ao, ai⟩ := ad
    have haf : ao = 0 ∧ ai = none := by
     obtain ⟨g2, cap2, hv, -, -⟩ := HSn.out.uw.own.form (by omega)
     simp only [Value.slice.injEq, Option.some.injEq, Addr.mk.injEq] at hv
     exact ⟨hv.1.2.1, hv.1.2.2⟩
    obtain ⟨rfl, rfl⟩ := haf
    have e0 := hcell k (.int .i64 l[k]) (by rw [zflat_map, List.getElem?_map, List.getElem?_eq_getElem hlt]; rfl)
    rw [Addr.add_lit, Nat.zero_add] at e0
    have c9 := HSn.out.uw.kc.cr.c9; have c1 := HSn.out.uw.kc.cr.c1
    have HIN := xH (fun W => isIn_same l[k] c.due nx W)
    clear hcell
    by_cases hin : c.due ≤ l[k] ∧ l[k] ≤ nx
    · rw [decide_eq_true hin] at HIN
      obtain ⟨j, hj⟩ : ∃ j : Nat, l[k] = j := ⟨l[k].toNat, by have := xU HJN; omega⟩
      have hjl : j < jn := by have := xU HJN; have := xU HNX; omega
      have sc := HSn.out.seen.cell (i := j) hjl
      by_cases hmem : l[k] ∈ l.take k
      · have HNO := xH (show ¬ jobsP c from fun h => not_nodup hlt hmem ((xU HJP).1 h).2.1)
        have sc1 : wr.cell? ⟨g, j, none⟩ = some (.int .i64 1) := by rw [sc]; simp only [seenF]; rw [← hj, if_pos hmem]
        rw [hj] at e0 HIN
        clear sc hmem hin hj
        go_wp2_with fail
        go_quiet (first
         | (go_at_call 95; exact Calls.quiet_of_same (xU HIN _)))
        go_wp2_with fail
        go_ret
        exact ⟨RetB.no (xU HNO), xU HB _⟩
      · have sc1 : wr.cell? ⟨g, j, none⟩ = some (.int .i64 0) := by rw [sc]; simp only [seenF]; rw [← hj, if_neg hmem]
        have HN2 := xH (nodup_take hlt HD.out hmem)
        have HA2 := xH (show ∀ i, (hi : i < l.length) → i < k + 1 → c.due ≤ l[i] ∧ l[i] ≤ nx from fun i hi hik => by
         by_cases e : i = k
         · subst e; exact hin
         · exact HA.out i hi (by omega))
        have sd : ∀ m, (wr.drewN m).cell? ⟨g, j, none⟩ = some (.int .i64 0) := fun m => sc1
        have sf : ∀ m, (wr.drewN m).frozen? ⟨g, j, none⟩ = false := fun m => (HSn.out.dn m).seen.frozen j
        have HSN2 := xH (fun m => (HSn.out.dn m).put hlt hj)
        have hw01 : IntKind.i64.wrap (0 + 1) = 1 := by decide
        rw [hj] at e0 HIN
        clear sc hmem hin hj
        go_wp2_with fail
        go_quiet (first
         | (go_at_call 95; exact Calls.quiet_of_same (xU HIN _)))
        go_wp2_with fail
        go_roundw
        case rel => exact ⟨k + 1, by omega, by go_num, xH (xU HSN2 _), HA2, HN2⟩
        case measure => simp [intOf]; omega
    · rw [decide_eq_false hin] at HIN
      have HNO := xH (show ¬ jobsP c from fun h => hin ((xU HJA).1 ((xU HJP).1 h).1 _ (List.getElem_mem hlt)))
      clear hin
      generalize l[k] = z at *
      go_wp2_with fail
      go_quiet (first
       | (go_at_call 95; exact Calls.quiet_of_same (xU HIN _)))
      go_wp2_with fail
      go_ret
      exact ⟨RetB.no (xU HNO), xU HB _⟩
  · obtain rfl : k = l.length := by omega
    have HAA := xH (show jA c l ∧ l.Nodup from ⟨(xU HJA).2 (fun z hz => by
     obtain ⟨i, hi, rfl⟩ := List.mem_iff_getElem.1 hz
     exact HA.out i hi hi), by have := HD.out; rwa [List.take_length] at this⟩)
    have c9 := HSn.out.uw.kc.cr.c9; have c1 := HSn.out.uw.kc.cr.c1
    have HST2 := xH (fun m => xU HST _ (HSn.out.dn m).uw.kc.cr)
    by_cases hs : 0 < shZ c 3
    · rw [decide_eq_true hs] at HST2
      have HY := xH ((xU HJP).2 ⟨(xU HAA).1, (xU HAA).2, Or.inl hs⟩)
      clear hs
      go_wp2_with fail
      go_quiet (first
       | (go_at_call 115; exact Calls.quiet_of_same (xU HST2 _)))
      go_wp2_with fail
      go_ret
      exact ⟨RetB.yes (xU HY), xU HB _⟩
    · rw [decide_eq_false hs] at HST2
      by_cases he : (l.length : Int) = nd
      · have HY := xH ((xU HJP).2 ⟨(xU HAA).1, (xU HAA).2, Or.inr he⟩)
        have q : ((l.length : Int) == nd) = true := by simp [he]
        clear hs he
        go_wp2_with fail
        go_quiet (first
         | (go_at_call 115; exact Calls.quiet_of_same (xU HST2 _)))
        go_wp2_with fail
        go_ret
        exact ⟨RetB.yes (xU HY), xU HB _⟩
      · have HNO := hide (show ¬ jobsP c from fun h => by rcases ((unhide HJP).1 h).2.2 with h1 | h1
                                                          · exact hs h1
                                                          · exact he h1)
        have q : ((l.length : Int) == nd) = false := by simp [he]
        clear hs he
        go_wp2_with fail
        go_quiet (first
         | (go_at_call 115; exact Calls.quiet_of_same (xU HST2 _)))
        go_wp2_with fail
        go_ret
        exact ⟨RetB.no (xU HNO), xU HB _⟩
end Go.Proofs.YtibgjcejddpldaaGreat
