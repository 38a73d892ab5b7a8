/- The walk of the program's crewOf. No conditions. -/
import Derived.Test.YtibgjcejddpldaaGreatPart17
import Derived.Test.YtibgjcejddpldaaGreatPart19
import Derived.Test.YtibgjcejddpldaaGreatPart23
import Derived.Test.YtibgjcejddpldaaGreatPart11
import Derived.Handy
import Derived.Deep.RegionHeld3
import Derived.Test.YtibgjcejddpldaaGreatPart16
import Derived.Test.YtibgjcejddpldaaGreatPart07
import Derived.Test.YtibgjcejddpldaaGreatPart14
import Derived.Test.YtibgjcejddpldaaGreatPart01
namespace Go.Proofs.YtibgjcejddpldaaGreat
open Go Go.RowKit

theorem shut4 {l : List Int} (h : l.length = 4) : [l.getD 0 0, l.getD 1 0, l.getD 2 0, l.getD 3 0] = l := by
  match l, h with
  | [_, _, _, _], _ => rfl
/-- The crew that was made is as the world says. -/
theorem made_eq (c : Cw) (hF : Form c) : ({ ncCw c.jobs c.hands.length c.ring.length with next := c.next, reader := c.reader, closer := c.closer, keeper := c.keeper, due := c.due, user := c.user, ops := c.ops, hands := c.hands, ring := c.ring, got := c.got, queue := c.queue, results := c.results, out := c.out, room := c.room, shut := [shZ c 0, shZ c 1, shZ c 2, shZ c 3] } : Cw) = c := by
  have h1 := hF.hands; have h2 := hF.ring; have h3 := shut4 hF.shut
  unfold shZ
  rw [h3]
  cases c
  simp only [ncCw] at h1 h2 ⊢
  rw [h1, h2]
theorem Mk.gotten {P : Nat → Prop} {w W : World} {c : Cw} {A : A7} {C : Nat} {x : Cw} {B : CrB} (h : Mk P w W c A C x B) {a : Option Addr} {cap base : Nat} {l : List Int} (ho : W.ownsRow base 3 1 (.slice a l.length cap) l.length (l.map zcs).flatten) (hb : ∀ b, b ∈ [C, B.H, B.Q, B.Qp, B.R, B.Rp, B.O, B.Op, B.M, B.T, B.G] → b < base) (hw : w.heap.size + 1 ≤ base) (hl : l.length ≤ 1000) : Mk P w (W.setCell ⟨C, 12, none⟩ (.slice a l.length cap)) c A C { x with got := l } { B with aT := a, cT := cap } := by
  have hC := h.ge' C (by simp)
  obtain ⟨hd, -⟩ := h.cr.dist
  have hga : ∀ g, g ∈ (Value.slice a 0 0).ownBlock.toList → (Value.slice a l.length cap).ownBlock = some g := fun g hg => by
    cases a with
    | none => simp [Value.ownBlock] at hg
    | some ad => simp only [Value.ownBlock, Option.toList_some, List.mem_singleton] at hg ⊢; rw [hg]
  have hge := h.ge'
  refine ⟨h.ag.other hC 12 _, ?_, ?_⟩
  · obtain ⟨h1, h2, h3, h4, h5, h6, h7, ⟨p, f, hf, h8⟩, ⟨u, h9⟩, a1, a2, a3, a4, a5, a6, a7⟩ := h.cr
    have hm : ∀ b, b ∈ [C, B.H, B.Q, B.Qp, B.R, B.Rp, B.O, B.Op, B.M, B.T, B.G] → b ≠ C → (W.setCell ⟨C, 12, none⟩ (.slice a l.length cap)).heap[b]? = W.heap[b]? := fun b _ hn => Below.heap_setCell _ _ _ _ hn
    refine ⟨row_set h1 rfl rfl (by decide), h2.of_block (hm B.H (by simp) (nd hd 1 0 rfl rfl (by decide))), ownsRow_keepT h3 (fun g e => by simp only [Value.ownBlock, Option.some.injEq] at e; subst e; exact hm B.G (by simp) (nd hd 10 0 rfl rfl (by decide))), ownsRow_base (ownsRow_keepT ho (fun g e => Below.heap_setCell _ _ _ _ (Nat.ne_of_gt (Nat.lt_of_lt_of_le (hb C (by simp)) (ho.lt g e).1)))) (Nat.zero_le _), h5.carry (hm B.Q (by simp) (nd hd 2 0 rfl rfl (by decide))) (hm B.Qp (by simp) (nd hd 3 0 rfl rfl (by decide))), h6.carry (hm B.R (by simp) (nd hd 4 0 rfl rfl (by decide))) (hm B.Rp (by simp) (nd hd 5 0 rfl rfl (by decide))), h7.carry (hm B.O (by simp) (nd hd 6 0 rfl rfl (by decide))) (hm B.Op (by simp) (nd hd 7 0 rfl rfl (by decide))), ⟨p, f, hf, h8.of_block (hm B.M (by simp) (nd hd 8 0 rfl rfl (by decide)))⟩, ⟨u, h9.of_block (hm B.T (by simp) (nd hd 9 0 rfl rfl (by decide)))⟩, a1, a2, a3, a4, a5, hl, ?_⟩
    unfold CrB.blocks
    rw [List.nodup_append]
    refine ⟨hd, ?_, fun y hy z hz e => ?_⟩
    · cases a with
      | none => simp [Value.ownBlock]
      | some ad => simp [Value.ownBlock]
    · subst e
      have := (ho.lt y (hga y hz)).1; have := hb y hy
      omega
  · intro b hbm
    rcases List.mem_append.1 hbm with hbm | hbm
    · exact hge b hbm
    · have := (ho.lt b (hga b hbm)).1
      omega
def CfEnd (w w' : World) (e : Ending) (c : Cw) : Prop := (∃ v r, e = .returned (.tuple #[v, .bool r]) ∧ (r = true ↔ okS c) ∧ (r = true → ∃ C B, v = .pointer (some ⟨C, 0, none⟩) ∧ CrAt w' C c B ∧ ∀ b, b ∈ CrB.blocks C B → w.heap.size ≤ b)) ∧ Below w.heap.size w w'
set_option maxRecDepth 100000 in
set_option maxHeartbeats 12800000 in
theorem crewOf_any (c : Cw) (A : A7) (P : Nat → Prop) (w : World) (h : CwAt P w c (A.v c)) (hP : ∀ b, P b → b < w.heap.size) : Calls Tryz.prog 42 #[.agg #[.int .i64 c.jobs, .int .i64 c.workers, .int .i64 c.window, .int .i64 c.next, .int .i64 c.reader, .slice A.q c.queue.length A.pq, .slice A.h c.hands.length A.ph, .int .i64 c.closer, .slice A.r c.results.length A.pr, .int .i64 c.keeper, .slice A.g c.ring.length A.pg, .int .i64 c.due, .slice A.o c.out.length A.po, .int .i64 c.user, .slice A.t c.got.length A.pt, .int .i64 c.room, .slice A.s c.shut.length A.ps, .int .i64 c.ops]] w fun e w' => CfEnd w w' e c := by
  have HS := hide (Ag.start h hP)
  have HBD := hide (fun W (hW : Ag P w W c A) => bounds_any c A P W hW.at' hW.hand.2)
  have HIFF := hide (ok_iff c)
  obtain ⟨dd, hdu, hdr⟩ := rowWorld
  clear h hP
  go_enter Tryz.func42, Tryz.ntmps42
  go_upto_region 1 with fail
  generalize w.alloc (.cells #[.int .i64 c.jobs, .int .i64 c.workers, .int .i64 c.window, .int .i64 c.next, .int .i64 c.reader, .slice A.q c.queue.length A.pq, .slice A.h c.hands.length A.ph, .int .i64 c.closer, .slice A.r c.results.length A.pr, .int .i64 c.keeper, .slice A.g c.ring.length A.pg, .int .i64 c.due, .slice A.o c.out.length A.po, .int .i64 c.user, .slice A.t c.got.length A.pt, .int .i64 c.room, .slice A.s c.shut.length A.ps, .int .i64 c.ops] 26) = W0 at HS ⊢
  refine wp_region_list ?_
  refine wpList_load_mid rfl _ _ rfl w.heap.size 0 rfl [.int .i64 c.jobs, .int .i64 c.workers, .int .i64 c.window, .int .i64 c.next, .int .i64 c.reader, .slice A.q c.queue.length A.pq, .slice A.h c.hands.length A.ph, .int .i64 c.closer, .slice A.r c.results.length A.pr, .int .i64 c.keeper, .slice A.g c.ring.length A.pg, .int .i64 c.due, .slice A.o c.out.length A.po, .int .i64 c.user, .slice A.t c.got.length A.pt, .int .i64 c.room, .slice A.s c.shut.length A.ps, .int .i64 c.ops] dd (unhide HS).range hdu hdr info18 ?_
  refine wpList_plain rfl (fun K hK => ?_)
  go_simp
  refine (unhide HBD _ (unhide HS)).mono ?_
  rintro e w1 ⟨⟨r, rfl, hr⟩, hb⟩
  refine hK _ _ ?_
  clear hK K
  have HS1 := hide ((unhide HS).on hb)
  have HR := hide hr
  clear hb HS hr HBD
  cases r with
  | false =>
    have HNO := hide (show ¬ okS c from fun h => Bool.false_ne_true ((unhide HR).2 ((unhide HIFF).1 h).1))
    have HB := hide (unhide HS1).bel
    clear HR
    go_wp2_with fail
    refine bodyPost_ret (v := .tuple #[.pointer none, .bool false]) (by simp [results, Tryz.results42, go_sem]) rfl ?_
    exact ⟨⟨_, _, rfl, iff_of_false Bool.false_ne_true (unhide HNO), fun h => absurd h Bool.false_ne_true⟩, unhide HB⟩
  | true =>
  have HY := hide ((unhide HR).1 rfl)
  clear HR
  have HF := hide (unhide HY).1
  have HOKP := hide (show okS c ↔ okP c from ⟨fun h => ((unhide HIFF).1 h).2, fun h => (unhide HIFF).2 ⟨unhide HY, h⟩⟩)
  have HGL := hide (show c.got.length ≤ 1000 from by have := (unhide HY).2; have := (unhide HF).due; have := (unhide HF).next; have := (unhide HF).small; omega)
  have HSL := hide (unhide HF).shut
  have HN8 := hide (show c.queue.length ≤ c.hands.length from by have := (unhide HF).queue; have := (unhide HF).hands; omega)
  have HN9 := hide (show c.results.length ≤ c.hands.length from by have := (unhide HF).results; have := (unhide HF).hands; omega)
  have HN10 := hide (show c.out.length ≤ 1 from (unhide HF).out)
  have HL0 := hide (show (ncCw c.jobs c.hands.length c.ring.length).hands.length = c.hands.length from by simp [ncCw])
  have HL1 := hide (show (ncCw c.jobs c.hands.length c.ring.length).ring.length = c.ring.length from by simp [ncCw])
  have HNC := hide (fun W => newCrew_yes c.jobs c.hands.length c.ring.length W (by rw [(unhide HF).hands, (unhide HF).ring]; exact (unhide HF).st))
  have k0 := (unhide HS1).k0; have k1 := (unhide HS1).k1; have k2 := (unhide HS1).k2
  rw [← (unhide HF).hands] at k1
  rw [← (unhide HF).ring] at k2
  clear HY HIFF
  go_upto_region 4 with (go_at_call 73; refine (unhide HNC _).mono ?_; rintro e w2 ⟨C, B, rfl, hcr, hbl, hb⟩; have HM := hide (show Mk P w w2 c A C (ncCw c.jobs c.hands.length c.ring.length) B from ⟨(unhide HS1).on hb, hcr, fun b hm => Nat.le_trans (by have := (unhide HS1).box.lt; omega) (hbl b hm)⟩); clear hcr hbl hb)
  clear k0 k1 k2 HNC HS1
  refine wp_swap (c' := Code.region 4 cf4Ops true) (by kernel_rfl) ?_
  refine wp_region_noPanic ?_
  refine cf4 c A P w C B (ncCw c.jobs c.hands.length c.ring.length) _ _ (fun _ _ _ _ _ h => h) ((unhide HM).dn 1) (unhide HL0) (unhide HL1) ?_
  intro n19 n20 n21 n22 n23 n24 n25 n26 n27 n28 n29 n30 n31 n32 n33 n34 n35 n36 n37 n38 n39 n40 n41 n42 n43 n44 n45 n46 n47 n48 n49 n50 n51 n52 n53 W4 hm
  refine NoPanic.normal ?_
  have HM4 := hide (show Mk P w W4 c A C ({ ncCw c.jobs c.hands.length c.ring.length with next := c.next, reader := c.reader, closer := c.closer, keeper := c.keeper, due := c.due, user := c.user, ops := c.ops } : Cw) B from hm)
  clear hm HM
  go_upto_region 5 with fail
  refine wp_swap (c' := Code.region 5 cf5Ops true) (by kernel_rfl) ?_
  refine wp_region_noPanic ?_
  refine cf5 c A P w C B ({ ncCw c.jobs c.hands.length c.ring.length with next := c.next, reader := c.reader, closer := c.closer, keeper := c.keeper, due := c.due, user := c.user, ops := c.ops } : Cw) _ _ (fun _ _ _ _ _ h => h) ((unhide HM4).dn 1) (unhide HL0) (unhide HL1) ?_
  intro n54 n55 n56 n57 n58 n59 n60 W5 hm
  refine NoPanic.normal ?_
  have HM5 := hide (show Mk P w W5 c A C ({ ncCw c.jobs c.hands.length c.ring.length with next := c.next, reader := c.reader, closer := c.closer, keeper := c.keeper, due := c.due, user := c.user, ops := c.ops, hands := c.hands } : Cw) B from hm)
  clear hm HM4
  go_upto_region 6 with fail
  refine wp_swap (c' := Code.region 6 cf6Ops true) (by kernel_rfl) ?_
  refine wp_region_noPanic ?_
  refine cf6 c A P w C B ({ ncCw c.jobs c.hands.length c.ring.length with next := c.next, reader := c.reader, closer := c.closer, keeper := c.keeper, due := c.due, user := c.user, ops := c.ops, hands := c.hands } : Cw) _ _ (fun _ _ _ _ _ h => h) ((unhide HM5).dn 1) rfl (unhide HL1) ?_
  intro n61 n62 n63 n64 n65 n66 n67 W6 hm
  refine NoPanic.normal ?_
  have HM6 := hide (show Mk P w W6 c A C ({ ncCw c.jobs c.hands.length c.ring.length with next := c.next, reader := c.reader, closer := c.closer, keeper := c.keeper, due := c.due, user := c.user, ops := c.ops, hands := c.hands, ring := c.ring } : Cw) B from hm)
  clear hm HM5
  have HCL := hide (fun W (hW : Mk P w W c A C ({ ncCw c.jobs c.hands.length c.ring.length with next := c.next, reader := c.reader, closer := c.closer, keeper := c.keeper, due := c.due, user := c.user, ops := c.ops, hands := c.hands, ring := c.ring } : Cw) B) => cloneZ_any _ c.got W hW.ag.at'.t (by have := unhide HGL; omega))
  have k14 := (unhide HM6).ag.k14
  go_upto_region 8 with (go_at_call 74; refine (unhide HCL _ (unhide HM6)).mono ?_; rintro e w7 ⟨a7, p7, rfl, ho7, hb7⟩; have hm7 := (unhide HM6).on hb7; have z12 := hm7.cr.c12; have f12 := hm7.cr.row.frozen 12; have HM7 := hide (hm7.gotten ho7 (fun b hb => (unhide HM6).cr.lt b (List.mem_append_left _ hb)) (by have := (unhide HM6).ag.box.lt; omega) (unhide HGL)); clear hm7 ho7 hb7)
  clear k14 HCL z12 f12 HM6
  generalize w7.setCell ⟨C, 12, none⟩ (.slice a7 c.got.length p7) = W7 at HM7 ⊢
  refine wp_swap (c' := Code.region 8 cf8Ops true) (by kernel_rfl) ?_
  refine wp_region_noPanic ?_
  refine cf8 c A P w C { B with aT := a7, cT := p7 } ({ ncCw c.jobs c.hands.length c.ring.length with next := c.next, reader := c.reader, closer := c.closer, keeper := c.keeper, due := c.due, user := c.user, ops := c.ops, hands := c.hands, ring := c.ring, got := c.got } : Cw) _ _ (fun _ _ _ _ _ h => h) ((unhide HM7).dn 1) rfl rfl rfl (unhide HN8) ?_
  intro n74 n75 n76 n77 n78 n79 n80 W8 hm
  refine NoPanic.normal ?_
  have HM8 := hide (show Mk P w W8 c A C ({ ncCw c.jobs c.hands.length c.ring.length with next := c.next, reader := c.reader, closer := c.closer, keeper := c.keeper, due := c.due, user := c.user, ops := c.ops, hands := c.hands, ring := c.ring, got := c.got, queue := c.queue } : Cw) { B with aT := a7, cT := p7 } from hm)
  clear hm HM7
  go_upto_region 9 with fail
  refine wp_swap (c' := Code.region 9 cf9Ops true) (by kernel_rfl) ?_
  refine wp_region_noPanic ?_
  refine cf9 c A P w C { B with aT := a7, cT := p7 } ({ ncCw c.jobs c.hands.length c.ring.length with next := c.next, reader := c.reader, closer := c.closer, keeper := c.keeper, due := c.due, user := c.user, ops := c.ops, hands := c.hands, ring := c.ring, got := c.got, queue := c.queue } : Cw) _ _ (fun _ _ _ _ _ h => h) ((unhide HM8).dn 1) rfl rfl rfl (unhide HN9) ?_
  intro n81 n82 n83 n84 n85 n86 n87 W9 hm
  refine NoPanic.normal ?_
  have HM9 := hide (show Mk P w W9 c A C ({ ncCw c.jobs c.hands.length c.ring.length with next := c.next, reader := c.reader, closer := c.closer, keeper := c.keeper, due := c.due, user := c.user, ops := c.ops, hands := c.hands, ring := c.ring, got := c.got, queue := c.queue, results := c.results } : Cw) { B with aT := a7, cT := p7 } from hm)
  clear hm HM8
  go_upto_region 10 with fail
  refine wp_swap (c' := Code.region 10 cf10Ops true) (by kernel_rfl) ?_
  refine wp_region_noPanic ?_
  refine cf10 c A P w C { B with aT := a7, cT := p7 } ({ ncCw c.jobs c.hands.length c.ring.length with next := c.next, reader := c.reader, closer := c.closer, keeper := c.keeper, due := c.due, user := c.user, ops := c.ops, hands := c.hands, ring := c.ring, got := c.got, queue := c.queue, results := c.results } : Cw) _ _ (fun _ _ _ _ _ h => h) ((unhide HM9).dn 1) rfl rfl rfl (unhide HN10) ?_
  intro n88 n89 n90 n91 n92 n93 n94 W10 hm
  refine NoPanic.normal ?_
  have HM10 := hide (show Mk P w W10 c A C ({ ncCw c.jobs c.hands.length c.ring.length with next := c.next, reader := c.reader, closer := c.closer, keeper := c.keeper, due := c.due, user := c.user, ops := c.ops, hands := c.hands, ring := c.ring, got := c.got, queue := c.queue, results := c.results, out := c.out } : Cw) { B with aT := a7, cT := p7 } from hm)
  clear hm HM9
  go_upto_region 11 with fail
  refine wp_swap (c' := Code.region 11 cf11Ops true) (by kernel_rfl) ?_
  refine wp_region_noPanic ?_
  refine cf11 c A P w C { B with aT := a7, cT := p7 } ({ ncCw c.jobs c.hands.length c.ring.length with next := c.next, reader := c.reader, closer := c.closer, keeper := c.keeper, due := c.due, user := c.user, ops := c.ops, hands := c.hands, ring := c.ring, got := c.got, queue := c.queue, results := c.results, out := c.out } : Cw) _ _ (fun _ _ _ _ _ h => h) ((unhide HM10).dn 1) rfl rfl ?_
  intro n95 n96 n97 n98 n99 n100 n101 n102 W11 hm
  refine NoPanic.normal ?_
  have HM11 := hide (show Mk P w W11 c A C ({ ncCw c.jobs c.hands.length c.ring.length with next := c.next, reader := c.reader, closer := c.closer, keeper := c.keeper, due := c.due, user := c.user, ops := c.ops, hands := c.hands, ring := c.ring, got := c.got, queue := c.queue, results := c.results, out := c.out, room := c.room } : Cw) { B with aT := a7, cT := p7 } from hm)
  clear hm HM10
  obtain ⟨bs, os, hA, -⟩ := (unhide HM11).ag.at_s 0 (by have := unhide HSL; omega)
  have HAS := hide hA
  clear hA
  go_upto_region 12 with fail
  refine wp_swap (c' := Code.region 12 cf12Ops true) (by kernel_rfl) ?_
  refine wp_region_noPanic ?_
  refine cf12 c A P w C { B with aT := a7, cT := p7 } ({ ncCw c.jobs c.hands.length c.ring.length with next := c.next, reader := c.reader, closer := c.closer, keeper := c.keeper, due := c.due, user := c.user, ops := c.ops, hands := c.hands, ring := c.ring, got := c.got, queue := c.queue, results := c.results, out := c.out, room := c.room } : Cw) _ _ (fun _ _ _ _ _ h => h) ((unhide HM11).dn 1) rfl rfl rfl bs os (unhide HAS) (unhide HSL) ?_
  intro n103 n104 n105 n106 n107 n108 n109 n110 n111 n112 n113 n114 n115 n116 n117 n118 n119 n120 n121 n122 n123 n124 n125 n126 n127 n128 n129 n130 n131 n132 n133 n134 n135 n136 n137 n138 n139 n140 n141 n142 W12 hm
  refine NoPanic.normal ?_
  have HM12 := hide (show Mk P w W12 c A C ({ ncCw c.jobs c.hands.length c.ring.length with next := c.next, reader := c.reader, closer := c.closer, keeper := c.keeper, due := c.due, user := c.user, ops := c.ops, hands := c.hands, ring := c.ring, got := c.got, queue := c.queue, results := c.results, out := c.out, room := c.room, shut := [shZ c 0, shZ c 1, shZ c 2, shZ c 3] } : Cw) { B with aT := a7, cT := p7 } from hm)
  clear hm HM11
  have hmf := unhide HM12
  rw [made_eq c (unhide HF)] at hmf
  have HOK := hide (ok_any C c _ W12 hmf.cr (unhide HF))
  have HMF := hide hmf
  clear hmf HM12
  go_wp2_with (go_at_call 76; refine (unhide HOK).mono ?_; rintro e w13 ⟨⟨r, rfl, hr⟩, hb⟩; have HR := hide hr; have HM13 := hide ((unhide HMF).on hb); clear hr hb)
  refine bodyPost_ret (v := .tuple #[.pointer (some ⟨C, 0, none⟩), .bool r]) (by simp [results, Tryz.results42, go_sem]) rfl ?_
  exact ⟨⟨_, _, rfl, (unhide HR).trans (unhide HOKP).symm, fun _ => ⟨C, _, rfl, (unhide HM13).cr, fun b hb => Nat.le_of_succ_le ((unhide HM13).ge b hb)⟩⟩, (unhide HM13).ag.bel⟩
end Go.Proofs.YtibgjcejddpldaaGreat

/- The walk of the program's world: its one great region. No conditions. -/

namespace Go.Proofs.YtibgjcejddpldaaGreat
open Go Go.RowKit

end Go.Proofs.YtibgjcejddpldaaGreat

/- The walks of the program's world and CrewStart. No conditions. -/

namespace Go.Proofs.YtibgjcejddpldaaGreat
open Go Go.RowKit

end Go.Proofs.YtibgjcejddpldaaGreat

/- The walk of the program's CrewCancel. No conditions. -/

namespace Go.Proofs.YtibgjcejddpldaaGreat
open Go Go.RowKit

end Go.Proofs.YtibgjcejddpldaaGreat

/- Two boxes; small worlds. No conditions. -/

namespace Go.Proofs.YtibgjcejddpldaaGreat
open Go Go.RowKit

end Go.Proofs.YtibgjcejddpldaaGreat

/- The walk of the program's CrewCancel, whole. No conditions. -/

namespace Go.Proofs.YtibgjcejddpldaaGreat
open Go Go.RowKit

end Go.Proofs.YtibgjcejddpldaaGreat

/- The walk of the specification's l51Left. Condition: the world's parts are within their bounds. -/

namespace Go.Proofs.YtibgjcejddpldaaGreat
open Go Go.RowKit

theorem rd_tab (z : Int) (k : Nat) (h : z = k) (hk : k < 4) : (#[.int .i64 2, .int .i64 12, .int .i64 1, .int .i64 0] : Array Value)[k]? = some (.int .i64 (rdL z)) := by
  subst h
  rcases (show k = 0 ∨ k = 1 ∨ k = 2 ∨ k = 3 by omega) with rfl | rfl | rfl | rfl <;> rfl
theorem wk_tab (z : Int) (k : Nat) (h : z = k) (hk : k < 4) : (#[.int .i64 1, .int .i64 9, .int .i64 8, .int .i64 0] : Array Value)[k]? = some (.int .i64 (wkL z)) := by
  subst h
  rcases (show k = 0 ∨ k = 1 ∨ k = 2 ∨ k = 3 by omega) with rfl | rfl | rfl | rfl <;> rfl
theorem kp_tab (z : Int) (k : Nat) (h : z = k) (hk : k < 6) : (#[.int .i64 2, .int .i64 3, .int .i64 2, .int .i64 4, .int .i64 1, .int .i64 0] : Array Value)[k]? = some (.int .i64 (kpL z)) := by
  subst h
  rcases (show k = 0 ∨ k = 1 ∨ k = 2 ∨ k = 3 ∨ k = 4 ∨ k = 5 by omega) with rfl | rfl | rfl | rfl | rfl | rfl <;> rfl
set_option maxRecDepth 100000 in
set_option maxHeartbeats 3200000 in
theorem l51Left_any (c : Cw) (A : A7) (P : Nat → Prop) (w : World) (h : CwAt P w c (A.v c)) (hP : ∀ b, P b → b < w.heap.size) (hF : Form c) : Calls Tryz.prog 46 #[.agg #[.int .i64 c.jobs, .int .i64 c.workers, .int .i64 c.window, .int .i64 c.next, .int .i64 c.reader, .slice A.q c.queue.length A.pq, .slice A.h c.hands.length A.ph, .int .i64 c.closer, .slice A.r c.results.length A.pr, .int .i64 c.keeper, .slice A.g c.ring.length A.pg, .int .i64 c.due, .slice A.o c.out.length A.po, .int .i64 c.user, .slice A.t c.got.length A.pt, .int .i64 c.room, .slice A.s c.shut.length A.ps, .int .i64 c.ops]] w fun e w' => e = .returned (.int .i64 (leftZ c)) ∧ Below w.heap.size w w' := by
  have HS := hide (Ag.start h hP)
  clear h hP
  obtain ⟨s1, s2, s3, s4, s5, s6, s7, s8⟩ := hF.small
  have n1 := hF.next.1; have n2 := hF.next.2; have hout := hF.out
  have r1 := hF.reader.1; have r2 := hF.reader.2; have l1 := hF.closer.1; have l2 := hF.closer.2; have p1 := hF.keeper.1; have p2 := hF.keeper.2; have u1 := hF.user.1; have u2 := hF.user.2
  have HHD := hide hF.handsOk
  have b1 := rdL_bound c.reader; have b2 := kpL_bound c.keeper
  have HBH := hide (sumH_bound c.hands); have HBG := hide (sumG_bound c.ring)
  obtain ⟨rd, hrd⟩ : ∃ k : Nat, c.reader = k := ⟨c.reader.toNat, by omega⟩
  obtain ⟨kp, hkp⟩ : ∃ k : Nat, c.keeper = k := ⟨c.keeper.toNat, by omega⟩
  have trd := rd_tab c.reader rd hrd (by omega); have tkp := kp_tab c.keeper kp hkp (by omega)
  have hs0 := unhide HS
  rw [hrd, hkp] at hs0
  have HA := hide (fun o o2 => hs0.on ((((Below.refl _ _).alloc (Nat.le_refl _) o).alloc (by simp) o2).drew))
  have r3 : (rd : Int) ≤ 3 := by omega
  have p3 : (kp : Int) ≤ 5 := by omega
  clear hs0 HS
  obtain ⟨n0, hn0⟩ : ∃ n0, n0 = 11 * (c.jobs - c.next) + 9 * (c.queue.length : Int) + 6 * (c.results.length : Int) + (c.out.length : Int) := ⟨_, rfl⟩
  have e1 : IntKind.i64.wrap (c.jobs - c.next) = c.jobs - c.next := by rw [IntKind.wrap_i64]; omega
  have e2 : IntKind.i64.wrap (11 * (c.jobs - c.next)) = 11 * (c.jobs - c.next) := by rw [IntKind.wrap_i64]; omega
  have e3 : IntKind.i64.wrap (9 * (c.queue.length : Int)) = 9 * (c.queue.length : Int) := by rw [IntKind.wrap_i64]; omega
  have e4 : IntKind.i64.wrap (11 * (c.jobs - c.next) + 9 * (c.queue.length : Int)) = 11 * (c.jobs - c.next) + 9 * (c.queue.length : Int) := by rw [IntKind.wrap_i64]; omega
  have e5 : IntKind.i64.wrap (6 * (c.results.length : Int)) = 6 * (c.results.length : Int) := by rw [IntKind.wrap_i64]; omega
  have e6 : IntKind.i64.wrap (11 * (c.jobs - c.next) + 9 * (c.queue.length : Int) + 6 * (c.results.length : Int)) = 11 * (c.jobs - c.next) + 9 * (c.queue.length : Int) + 6 * (c.results.length : Int) := by rw [IntKind.wrap_i64]; omega
  have e7 : IntKind.i64.wrap (11 * (c.jobs - c.next) + 9 * (c.queue.length : Int) + 6 * (c.results.length : Int) + (c.out.length : Int)) = n0 := by rw [IntKind.wrap_i64]; omega
  have HN0 := hide (show 0 ≤ n0 ∧ n0 ≤ 1000 from by omega)
  have HV := hide (show leftZ c = n0 + rdL c.reader + 1 - c.closer + kpL c.keeper + 1 - c.user + sumH c.hands + sumG c.ring from by unfold leftZ; omega)
  clear hF hn0
  have hn1 := (unhide HN0).1; have hn2 := (unhide HN0).2
  generalize rdL c.reader = x1 at trd b1 HV
  generalize kpL c.keeper = x2 at tkp b2 HV
  go_enter Tryz.func46, Tryz.ntmps46
  go_wp2_with fail
  clear e1 e2 e3 e4 e5 e6 e7
  obtain ⟨m0, hm0⟩ : ∃ m0, m0 = n0 + x1 + 1 - c.closer + x2 + 1 - c.user := ⟨_, rfl⟩
  have HM := hide hm0
  have HMB := hide (show 0 ≤ m0 ∧ m0 ≤ 2000 from by omega)
  clear hm0
  go_cut [3] from 26 to 46 (fun v wx => v = .int .i64 (n0 + x1 + 1 - c.closer + x2 + 1 - c.user) ∧ Ag P w wx c A)
  case first =>
    go_region
    all_goals
      go_wp2_with fail
      go_meet
      case rel => exact ⟨rfl, unhide HA _ _⟩
  case rest =>
    obtain ⟨rfl, hag⟩ := hcut
    rw [← unhide HM]
    have HS := hide hag
    clear hag trd tkp HA
    have hm1 := (unhide HMB).1; have hm2 := (unhide HMB).2
    rw [show n0 + x1 + 1 - c.closer + x2 + 1 - c.user = m0 from (unhide HM).symm] at HV
    clear HM hn1 hn2 b1 b2
    go_wp2_with fail
    go_loopw [3, 4] (fun n i wr => ∃ (k : Nat), k ≤ c.hands.length ∧ i = .int .i64 k ∧ n = .int .i64 (m0 + sumH (c.hands.take k)) ∧ Hid (Ag P w wr c A)) (fun _ i _ => c.hands.length - (intOf i).toNat)
    case atStart => exact ⟨0, Nat.zero_le _, rfl, by simp [sumH], HS⟩
    case round =>
      obtain ⟨k, hk, rfl, rfl, HS⟩ := hrel
      have k6 := HS.out.k6
      by_cases hlt : k < c.hands.length
      · obtain ⟨b, o, ha, e0, -⟩ := HS.out.at_h k hlt
        rw [ha] at k6
        have hok := (unhide HHD _ (List.getElem_mem hlt)).1
        obtain ⟨st, hst⟩ : ∃ m : Nat, c.hands[k].state = m := ⟨c.hands[k].state.toNat, by omega⟩
        have twk := wk_tab c.hands[k].state st hst (by omega)
        have hsum := sumH_take c.hands k hlt
        have hb1 := sumH_bound (c.hands.take k)
        have hb2 := wkL_bound c.hands[k].state
        have hlen : (c.hands.take k).length = k := by rw [List.length_take]; omega
        rw [hlen] at hb1
        have hst4 : (st : Int) ≤ 3 := by omega
        rw [hst] at e0
        have HSU := hide hsum
        generalize wkL c.hands[k].state = y at twk hb2 HSU
        generalize sumH (c.hands.take k) = z at hb1 HSU
        have hb3 := hb1.1; have hb4 := hb1.2; have hb5 := hb2.1; have hb6 := hb2.2
        have hwr : IntKind.i64.wrap (m0 + z + y) = m0 + z + y := by rw [IntKind.wrap_i64]; omega
        have ea : ∀ ob, (wr.alloc ob).cell? ⟨b, o + k * 2, none⟩ = some (.int .i64 st) := fun ob => (World.cell?_of_block (a := ⟨b, o + k * 2, none⟩) (Below.heap_alloc wr ob _ (World.block_lt_of_cell? wr _ e0))).trans e0
        have k6a := fun ob => (HS.out.on ((Below.refl _ wr).alloc (Nat.le_refl _) ob)).k6
        rw [ha] at k6a
        have HA := hide (fun ob => HS.out.on ((Below.refl _ wr).alloc (Nat.le_refl _) ob))
        clear hsum hb1 hb2 hst hok hlen
        go_wp2_with fail
        go_roundw
        case rel => exact ⟨k + 1, by omega, by go_num, by rw [unhide HSU, Int.add_assoc], unhide HA _⟩
        case measure => simp [intOf]; omega
      · obtain rfl : k = c.hands.length := by omega
        rw [List.take_length]
        have hb1 := (unhide HBH).1; have hb2 := (unhide HBH).2
        obtain ⟨m1, hm1'⟩ : ∃ m1, m1 = m0 + sumH c.hands := ⟨_, rfl⟩
        rw [← hm1']
        have HV2 := hide (show leftZ c = m1 + sumG c.ring from by rw [unhide HV, hm1'])
        have hm3 : 0 ≤ m1 := by omega
        have hm4 : m1 ≤ 3000 := by omega
        clear hm1' hb1 hb2 HV hm1 hm2
        go_wp2_with fail
        go_loopw [3, 5] (fun n i wr => ∃ (k : Nat), k ≤ c.ring.length ∧ i = .int .i64 k ∧ n = .int .i64 (m1 + sumG (c.ring.take k)) ∧ Hid (Ag P w wr c A)) (fun _ i _ => c.ring.length - (intOf i).toNat)
        case atStart => exact ⟨0, Nat.zero_le _, rfl, by simp [sumG], HS⟩
        case round =>
          obtain ⟨k, hk, rfl, rfl, HS⟩ := hrel
          have k10 := HS.out.k10
          by_cases hlt : k < c.ring.length
          · obtain ⟨b, o, ha, e0⟩ := HS.out.at_g k hlt
            rw [ha] at k10
            have hsum := sumG_take c.ring k hlt
            have hb1 := sumG_bound (c.ring.take k)
            have hlen : (c.ring.take k).length = k := by rw [List.length_take]; omega
            rw [hlen] at hb1
            have HSU := hide hsum
            generalize c.ring[k] = y at e0 HSU
            generalize sumG (c.ring.take k) = z at hb1 HSU
            have hb3 := hb1.1; have hb4 := hb1.2
            have hwr : IntKind.i64.wrap (m1 + z + 4) = m1 + z + 4 := by rw [IntKind.wrap_i64]; omega
            clear hsum hb1 hlen
            by_cases hy : 0 ≤ y
            · have HE := hide (show (if 0 ≤ y then (4 : Int) else 0) = 4 from if_pos hy)
              have hyd : decide (0 ≤ y) = true := decide_eq_true hy
              clear hy
              go_wp2_with fail
              go_roundw
              case rel => exact ⟨k + 1, by omega, by go_num, by rw [unhide HSU, unhide HE, Int.add_assoc], HS⟩
              case measure => simp [intOf]; omega
            · have HE := hide (show (if 0 ≤ y then (4 : Int) else 0) = 0 from if_neg hy)
              have hyd : decide (0 ≤ y) = false := decide_eq_false hy
              clear hy
              go_wp2_with fail
              go_roundw
              case rel => exact ⟨k + 1, by omega, by go_num, by rw [unhide HSU, unhide HE, Int.add_zero], HS⟩
              case measure => simp [intOf]; omega
          · obtain rfl : k = c.ring.length := by omega
            rw [List.take_length]
            go_wp2_with fail
            go_ret
            exact ⟨by rw [unhide HV2]; rfl, HS.out.bel⟩
end Go.Proofs.YtibgjcejddpldaaGreat
