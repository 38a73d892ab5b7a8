/- The walk of the program's CrewMoves, whole. No conditions. -/
import Derived.Test.YtibgjcejddpldaaGreatPart32
import Derived.Test.YtibgjcejddpldaaGreatPart24
import Derived.Test.YtibgjcejddpldaaGreatPart01
namespace Go.Proofs.YtibgjcejddpldaaGreat
open Go Go.RowKit Go.Shelf

attribute [local go_sem] Oper.semAt_some

def pcs (pre : List Mv) : List Value := ((pre.map Mv.key).map mcs).flatten
theorem pcs_snoc (pre : List Mv) (x : Mv) : pcs (pre ++ [x]) = pcs pre ++ [.int .i64 (x.who : Int), .int .i64 (x.case : Int)] := by
  unfold pcs
  rw [List.map_append, List.map_append, List.flatten_append]
  simp [mcs, Mv.key]
/-- A round's append and store. -/
theorem mv_round {W V w2 : World} {M b3 : Nat} {v v' : Value} {l l' : List Value} {k k' : Nat} (hv : Boxed W b3 47 v) (hrow : W.ownsRow M 28 2 v k l) (hM : b3 < M) (hb : Below W.heap.size W V) (hown' : w2.ownsRow M 28 2 v' k' l') (hg : V.grownBy w2 v.ownBlock) (hat : v'.ownBlock = v.ownBlock ∨ ∃ g, v'.ownBlock = some g ∧ V.heap.size ≤ g ∧ g < w2.heap.size) :
    Boxed w2 b3 47 v ∧ Boxed (w2.setCell ⟨b3, 0, none⟩ v') b3 47 v' ∧ (w2.setCell ⟨b3, 0, none⟩ v').ownsRow M 28 2 v' k' l' ∧ KeepsOthers W (w2.setCell ⟨b3, 0, none⟩ v') ∧ Kq b3 W (w2.setCell ⟨b3, 0, none⟩ v') ∧ (∀ n0, n0 ≤ b3 → Below n0 W (w2.setCell ⟨b3, 0, none⟩ v')) := by
  have hte : 47 ≠ 28 := by decide
  have hv0 : Boxed V b3 47 v := (hb.block b3 hv.lt).trans hv
  have hv1 : Boxed w2 b3 47 v := hv0.kept hg (hv.not_row hte hrow)
  have hs : (w2.setCell ⟨b3, 0, none⟩ v').heap.size = w2.heap.size := by simp [World.setCell]
  have hsz : W.heap.size ≤ w2.heap.size := Nat.le_trans hb.size hg.size
  refine ⟨hv1, hv1.set v', hown'.kept (grownBy_setCell' w2 b3 v') (.inr (hv1.not_row hte hown').symm), ?_, ⟨by rw [hs]; exact hsz, fun j o hj ho h1 h2 => ?_, ?_⟩, fun n0 h1 => ?_⟩
  · refine KeepsOthers.trans (KeepsOthers.trans ⟨hb.size, fun j o hj _ => (hb.block j (Array.getElem?_eq_some_iff.1 hj).1).trans hj⟩ (KeepsOthers.of_grownBy hg fun j o ej hj => ?_)) (KeepsOthers.setCell _ _ _)
    rcases hrow.2 with ⟨rfl, _⟩ | ⟨g, cap, cur, rfl, _, hgb, _⟩
    · simp [Value.ownBlock] at ej
    · obtain rfl : g = j := by simpa [Value.ownBlock] using ej
      rw [hb.block g (Array.getElem?_eq_some_iff.1 hgb).1, hgb] at hj; cases hj; rfl
  · have hjl := (Array.getElem?_eq_some_iff.1 hj).1
    have h3 : obl b3 W = v.ownBlock := by unfold obl; rw [hv.cell]; rfl
    rw [Below.heap_setCell _ _ _ _ h1, hg.block j (Nat.lt_of_lt_of_le hjl hb.size) (fun e => h2 (h3.trans e.symm))]
    exact hb.block j hjl
  · have h3 : obl b3 W = v.ownBlock := by unfold obl; rw [hv.cell]; rfl
    have h4 : obl b3 (w2.setCell ⟨b3, 0, none⟩ v') = v'.ownBlock := by unfold obl; rw [(hv1.set v').cell]; rfl
    rw [h3, h4, hs]
    rcases hat with e | ⟨g, e, g1, g2⟩
    · exact Or.inl e
    · exact Or.inr ⟨g, e, Nat.le_trans hb.size g1, g2⟩
  · exact (((hb.mono (by have := hv.lt; omega)).grown hg (by have := hv0.lt; omega) (fun g e => by have := (hrow.lt g e).1; omega))).setCell h1 v'
theorem ax_own {B : Nat} {g : Nat} {u0 u1 : Value} {p : Prop} : OwnFrom B (fun (_ : Unit) W => p ∧ W.cell? ⟨g, 0, none⟩ = some u0 ∧ W.cell? ⟨g, 1, none⟩ = some u1) := fun s W W' row ⟨h, h0, h1⟩ hg hr => by
  obtain ⟨o, ho, hc⟩ := cells_of_cell h0
  have hb : W'.heap[g]? = W.heap[g]? := hg.block g (Array.getElem?_eq_some_iff.1 ho).1 (fun e => by
    obtain ⟨-, o', ho', hc'⟩ := hr g e.symm
    have ho2 : W.heap[g]? = some o := ho
    rw [ho2] at ho'
    simp only [Option.some.injEq] at ho'
    subst ho'
    rw [hc] at hc'
    cases hc')
  exact ⟨h, by rw [World.cell?_of_block (a := ⟨g, 0, none⟩) hb]; exact h0, by rw [World.cell?_of_block (a := ⟨g, 1, none⟩) hb]; exact h1⟩
set_option maxRecDepth 100000 in
set_option maxHeartbeats 6400000 in
theorem implCrewMoves_any (c : Cw) (A : A7) (P : Nat → Prop) (w : World) (h : CwAt P w c (A.v c)) (hP : ∀ b, P b → b < w.heap.size) : Calls Tryz.prog 24 #[.agg #[.int .i64 c.jobs, .int .i64 c.workers, .int .i64 c.window, .int .i64 c.next, .int .i64 c.reader, .slice A.q c.queue.length A.pq, .slice A.h c.hands.length A.ph, .int .i64 c.closer, .slice A.r c.results.length A.pr, .int .i64 c.keeper, .slice A.g c.ring.length A.pg, .int .i64 c.due, .slice A.o c.out.length A.po, .int .i64 c.user, .slice A.t c.got.length A.pt, .int .i64 c.room, .slice A.s c.shut.length A.ps, .int .i64 c.ops]] w fun e w' => ∃ l, (okS c → l = movesD c) ∧ (¬ okS c → l = []) ∧ MvEnd w w' e l := by
  have HS := hide (Ag.start h hP)
  have HCF := hide (fun W (hW : Ag P w W c A) => crewOf_any c A P W hW.at' hW.hand.2)
  obtain ⟨dd, hdu, hdr⟩ := rowWorld
  clear h hP
  refine (callsIn_wide (n := 8)).1 ?_
  refine callsIn_of_wp_marks Tryz.func24 rfl trivial ?_ rfl
  simp only [Tryz.ntmps24, List.size_toArray, List.length_cons, List.length_nil, Nat.reduceAdd, Nat.reduceSub, Array.replicate_succ, Array.replicate_zero, List.push_toArray, List.append_toArray, List.nil_append, List.cons_append]
  refine wpIn_wide.2 ?_
  go_upto_region 1 with fail
  generalize w.alloc (.cells #[.int .i64 c.jobs, .int .i64 c.workers, .int .i64 c.window, .int .i64 c.next, .int .i64 c.reader, .slice A.q c.queue.length A.pq, .slice A.h c.hands.length A.ph, .int .i64 c.closer, .slice A.r c.results.length A.pr, .int .i64 c.keeper, .slice A.g c.ring.length A.pg, .int .i64 c.due, .slice A.o c.out.length A.po, .int .i64 c.user, .slice A.t c.got.length A.pt, .int .i64 c.room, .slice A.s c.shut.length A.ps, .int .i64 c.ops] 26) = W0 at HS ⊢
  refine wp_region_list ?_
  refine wpList_load_mid rfl _ _ rfl w.heap.size 0 rfl [.int .i64 c.jobs, .int .i64 c.workers, .int .i64 c.window, .int .i64 c.next, .int .i64 c.reader, .slice A.q c.queue.length A.pq, .slice A.h c.hands.length A.ph, .int .i64 c.closer, .slice A.r c.results.length A.pr, .int .i64 c.keeper, .slice A.g c.ring.length A.pg, .int .i64 c.due, .slice A.o c.out.length A.po, .int .i64 c.user, .slice A.t c.got.length A.pt, .int .i64 c.room, .slice A.s c.shut.length A.ps, .int .i64 c.ops] dd (unhide HS).range hdu hdr info18 ?_
  refine wpList_plain rfl (fun K hK => ?_)
  go_simp
  refine (unhide HCF _ (unhide HS)).mono ?_
  rintro e w1 ⟨⟨v, r, rfl, hr, hcr⟩, hb⟩
  refine hK _ _ ?_
  clear hK K
  have HB1 := hide ((unhide HS).on hb)
  have HSZ := hide (show w.heap.size + 1 ≤ w1.heap.size from by have := hb.size; have := (unhide HS).box.lt; omega)
  have HGE := hide (show ∀ b, W0.heap.size ≤ b → w.heap.size + 1 ≤ b from fun b hb => by have := (unhide HS).box.lt; omega)
  have HR := hide hr
  have HCR := hide hcr
  clear hb hr hcr HCF HS
  generalize (Value.agg #[.int .i64 c.jobs, .int .i64 c.workers, .int .i64 c.window, .int .i64 c.next, .int .i64 c.reader, .slice A.q c.queue.length A.pq, .slice A.h c.hands.length A.ph, .int .i64 c.closer, .slice A.r c.results.length A.pr, .int .i64 c.keeper, .slice A.g c.ring.length A.pg, .int .i64 c.due, .slice A.o c.out.length A.po, .int .i64 c.user, .slice A.t c.got.length A.pt, .int .i64 c.room, .slice A.s c.shut.length A.ps, .int .i64 c.ops]) = v0
  cases r with
  | false =>
    have HNO := hide (show ¬ okS c from fun h => Bool.false_ne_true ((unhide HR).2 h))
    clear HR HCR
    go_wp2_with fail
    exact ⟨_, results_tmp rfl _ _ _, [], fun h => absurd h (unhide HNO), fun _ => rfl, none, 0, rfl, World.ownsRow_nil _ _ _ _, (unhide HB1).bel⟩
  | true =>
    obtain ⟨C, B, rfl, hcr, hge⟩ := unhide HCR rfl
    have HOK := hide ((unhide HR).1 rfl)
    have HF := hide ((formS_iff c).1 (unhide HOK).1).1
    have HCRW := hide hcr
    clear HR HCR hcr hge
    go_wp2_with (go_at_call 54; refine (callsIn_wide.1 (ready_in 8 C _)).mono ?_; rintro e w' ⟨rfl, rfl⟩)
    have hbB : Below w1.heap.size w1 ((w1.alloc (.cells #[.slice none 0 0] 47)).alloc (.cells #[.pointer (some ⟨C, 0, none⟩)] 67)) := ((Below.refl _ _).alloc (Nat.le_refl _) _).alloc (by simp) _
    have bO := (Boxed.new w1 47 (.slice none 0 0)).alloc (.cells #[.pointer (some ⟨C, 0, none⟩)] 67)
    have hcB : ((w1.alloc (.cells #[.slice none 0 0] 47)).alloc (.cells #[.pointer (some ⟨C, 0, none⟩)] 67)).cell? ⟨w1.heap.size + 1, 0, none⟩ = some (.pointer (some ⟨C, 0, none⟩)) := by
      have := (Boxed.new (w1.alloc (.cells #[.slice none 0 0] 47)) 67 (.pointer (some ⟨C, 0, none⟩))).cell
      rw [World.size_alloc] at this
      exact this
    have hs0 : ((w1.alloc (.cells #[.slice none 0 0] 47)).alloc (.cells #[.pointer (some ⟨C, 0, none⟩)] 67)).heap.size = w1.heap.size + 2 := by simp
    have hA : RyAt ((w1.alloc (.cells #[.slice none 0 0] 47)).alloc (.cells #[.pointer (some ⟨C, 0, none⟩)] 67)) C c B w1.heap.size (w1.heap.size + 1) := ⟨(unhide HCRW).below hbB, unhide HF, hcB, by rw [hs0]; omega, fun hm => by have := (unhide HCRW).lt _ hm; omega, by unfold obl; rw [bO.cell]; rfl⟩
    obtain ⟨WL, hWL⟩ : ∃ WL, ((w1.alloc (.cells #[.slice none 0 0] 47)).alloc (.cells #[.pointer (some ⟨C, 0, none⟩)] 67)) = WL := ⟨_, rfl⟩
    rw [hWL] at hbB bO hs0 hA ⊢
    have HA := hide hA
    have hbW := (unhide HB1).bel.trans (hbB.mono (unhide HB1).bel.size)
    have HEND := hide (show okS c ∧ 0 ≤ c.closer ∧ c.closer ≤ 1 from ⟨unhide HOK, (unhide HF).closer⟩)
    clear hWL hcB hA HCRW HF HOK hbB
    obtain ⟨j3, hJ, hW0, hW1, hW2⟩ := info_parts infoMoveM
    have HJ := hide hJ; have HW0 := hide hW0; have HW1 := hide hW1; have HW2 := hide hW2
    clear hJ hW0 hW1 hW2
    have h1s := unhide HSZ
    refine (wpIn_wide (n := 8)).1 ?_
    refine wpIn_rangeFunc_ownH (α := Mv) (encs := mvEnc) (Kp := Kq w1.heap.size) (S := fun ys => ys = movesP C B.H c (c.hands.length + 4)) (Sp := fun pre => pre <+: movesP C B.H c (c.hands.length + 4)) (N := 36) (w0 := WL) rfl (by omega)
      (gf := 87) (lb := #[.pointer (some ⟨w1.heap.size + 1, 0, none⟩)]) rfl trivial (enters_of Tryz.func87 (by kernel_rfl) rfl)
      (fun L J Jx W hW hJ _ hY h0 => ready1_in _ L C c B w1.heap.size (w1.heap.size + 1) WL (unhide HA) J Jx (fun s A B hs hg => hJ s A B none hs hg (fun r e => by cases e)) hY W hW h0)
      Kq.trans (Kq.putObj (by omega)) (Below.refl _ _) (fun _ => rfl)
      (fun pre W => ((∃ v, Boxed W w1.heap.size 47 v ∧ W.ownsRow (w1.heap.size + 2) 28 2 v pre.length (pcs pre) ∧ True) ∧ w1.heap.size + 2 ≤ W.heap.size) ∧ Below w.heap.size w W)
      (fun _ _ _ => False)
      (OwnFrom.and (OwnFrom.and (Own.from (holdsRow_own (w1.heap.size + 2) w1.heap.size 47 28 2 (fun pre => pre.length) (fun pre => pcs pre) (fun _ _ => True)) _) (fun _ _ _ _ hs hg _ => Nat.le_trans hs hg.size)) (ownFrom_below (Nat.le_refl _) (by omega)))
      (fun _ _ _ _ _ hs _ _ => hs)
      ⟨⟨⟨_, bO, World.ownsRow_nil _ _ _ _, trivial⟩, by omega⟩, hbW⟩
      (fun x a' W => ∃ g, a' = { tmps := #[v0, .pointer (some ⟨w.heap.size, 0, none⟩), .slice none 0 0, .pointer (some ⟨C, 0, none⟩), .bool true, .pointer (some ⟨w1.heap.size, 0, none⟩), .pointer (some ⟨g, 0, none⟩), .tuple #[.pointer (some ⟨C, 0, none⟩), .bool true], v0, .tuple #[.pointer (some ⟨C, 0, none⟩), .bool true], .pointer (some ⟨C, 0, none⟩), .bool true, .bool true, .bool false, .pointer (some ⟨C, 0, none⟩), .func (.func 87) #[] #[.pointer (some ⟨w1.heap.size + 1, 0, none⟩)], .agg #[.int .i64 (x.who : Int), .int .i64 (x.case : Int)], .func (.func x.f.1) #[x.f.2] #[], undef, undef, undef, undef, undef], defers := [] } ∧ W.cell? ⟨g, 0, none⟩ = some (.int .i64 (x.who : Int)) ∧ W.cell? ⟨g, 1, none⟩ = some (.int .i64 (x.case : Int)))
      (fun x a' s W W' row hs hg hr => by obtain ⟨g, hs⟩ := hs; exact ⟨g, ax_own () W W' row hs hg hr⟩) ?assign ?body ?done ?stop
    case assign =>
      rintro l' pre x W K ⟨⟨⟨u, hu, hrow, -⟩, hM⟩, hB⟩ hK
      simp only [mvEnc]
      have hb0 : ∀ ob, Below W.heap.size W (W.alloc ob) := fun ob => (Below.refl _ _).alloc (Nat.le_refl _) _
      have HK := hide (fun a' ob => hK a' (W.alloc ob) ((KeepsOthers.mk (hb0 ob).size (fun j o hj _ => ((hb0 ob).block j (Array.getElem?_eq_some_iff.1 hj).1).trans hj)).from _) (Kq.of_below (hb0 ob) (by omega)) ⟨⟨⟨u, hu.alloc ob, World.ownsRow.alloc hrow ob, trivial⟩, by simp; omega⟩, hB.trans ((hb0 ob).mono hB.size)⟩)
      clear hK hb0 hB hM hrow hu
      gi_wp2
      exact unhide HK _ _ ⟨W.heap.size, rfl, by rw [World.cell?_alloc_mark]; rfl, by rw [World.cell?_alloc_mark]; rfl⟩
    case body =>
      rintro l' pre x a' W - - ⟨⟨⟨u, hu, hrow, -⟩, hM⟩, hB⟩ ⟨g, rfl, e0, e1⟩ hlt
      have hc := hu.cell
      have HROW := hide hrow; have HU := hide hu; have HBB := hide hB
      have HSN := hide (pcs_snoc pre x)
      clear hrow hu hB
      gi_wp2_with (gi_at_builtin; refine appendIn_row _ rfl _ _ 47 rfl (w1.heap.size + 2) 28 j3 (.agg #[.int .i64 0, .int .i64 0]) 2 16 Tryz.underlying47 (unhide HJ) (unhide HW0) (unhide HW1) (unhide HW2) rfl (by decide) u pre.length (pcs pre) rfl (World.ownsRow.alloc (unhide HROW) _) ⟨_, 0, none⟩ 1 1 [.int .i64 (x.who : Int), .int .i64 (x.case : Int)] rfl rfl (cell_twoT _ _ _ _) (fun u hu => by simp at hu; rcases hu with rfl | rfl <;> rfl) (by decide) (by unfold maxLen; omega) (by omega) (by simp; omega) ?_
                   intro v' w2 ho2 hg2 hat2
                   obtain ⟨a2, cap2, rfl⟩ : ∃ a2 cap2, v' = .slice a2 (pre.length + 1) cap2 := by
                     obtain ⟨g8, cap8, e8, -⟩ := ho2.form (by omega)
                     exact ⟨_, _, e8⟩
                   have hre := mv_round (unhide HU) (unhide HROW) (by omega) ((Below.refl _ _).alloc (Nat.le_refl _) _) ho2 hg2 hat2
                   have hc1 := hre.1.cell; have hf1 := hre.1.frozen
                   have HRE := hide hre
                   clear hre ho2 hg2 hat2)
      obtain ⟨-, r2, r3, r4, r5, r6⟩ := unhide HRE
      refine ⟨r4.from _, r5, ⟨⟨_, r2, ?_, trivial⟩, Nat.le_trans hM r5.size⟩, (unhide HBB).trans (r6 _ (by omega))⟩
      rw [unhide HSN, List.length_append]
      exact r3
    case done =>
      rintro D ys W hD hS ⟨⟨⟨u, hu, hrow, -⟩, hM⟩, hB⟩ hK
      have hc := hu.cell
      have HH := hide (And.intro hD (And.intro hS (And.intro hrow (And.intro hB hK))))
      clear hD hS hrow hB hK hu
      go_wp2_with fail
      obtain ⟨hD, hS, hrow, hB, hK⟩ := unhide HH
      refine ⟨by simp, .inl ⟨_, _, rfl, run_takeDeferred hK, ?_⟩⟩
      have hkey : ys.map Mv.key = movesD c := by rw [hS, movesP_key C B.H (unhide HEND).2]; rfl
      obtain ⟨a2, cap2, rfl⟩ : ∃ a2 cap2, u = .slice a2 ys.length cap2 := by
        rcases hrow.2 with ⟨hv, h0⟩ | ⟨g, cap, cur, hv, _⟩
        · exact ⟨none, 0, by rw [hv, h0]⟩
        · exact ⟨_, cap, hv⟩
      refine ⟨_, results_tmp rfl _ _ _, ys.map Mv.key, fun _ => hkey, fun h => absurd (unhide HEND).1 h, a2, cap2, ?_, ?_, hB.trans (belowK_b (w := w) (Nat.le_refl _) W D _ _ (by omega) hK rfl rfl)⟩
      · rw [List.length_map]; rfl
      · rw [List.length_map]
        refine (ownsRow_base hrow (by omega)).kept (grownBy_putObj' W D _) ?_
        rcases hrow.2 with ⟨hv, h0⟩ | ⟨g, cap, cur, hv, _, hh, _⟩
        · exact .inl (by rw [hv]; rfl)
        · refine .inr fun e => ?_
          rw [hv] at e
          simp only [Value.ownBlock, Option.some.injEq] at e
          subst e
          rw [hh] at hK
          cases hK
    case stop =>
      rintro D c pre W _ _ h _
      exact h.elim
end Go.Proofs.YtibgjcejddpldaaGreat

/- The walks of the law's own functions on moves: eqCrewMoveS, heldCrewMoveS, markCrewMoveS. The marks count to at most 2^40. -/

namespace Go.Proofs.YtibgjcejddpldaaGreat
open Go Go.RowKit

theorem eqCrewMove_any (h : Hd) (w : World) :
    Calls Tryz.prog 55 #[.agg #[.int .i64 h.state, .int .i64 h.job], .agg #[.int .i64 h.state, .int .i64 h.job]] w fun e w' => e = .returned (.bool true) ∧ Below w.heap.size w w' := by
  have hb0 : ∀ o o2, Below w.heap.size w ((w.alloc o).alloc o2) := fun o o2 => ((Below.refl _ _).alloc (Nat.le_refl _) o).alloc (by simp) o2
  go_enter Tryz.func55, Tryz.ntmps55
  go_wp2_with fail
  go_ret
  exact ⟨rfl, hb0 _ _⟩

set_option maxHeartbeats 800000 in
theorem eqCrewMoveS_any (v v2 : Value) (fs : List Hd) (w : World) {P Q : Nat → Prop} (hv : HAt P w v fs) (hv2 : HAt Q w v2 fs) (hP : ∀ b, P b → b < w.heap.size) (hQ : ∀ b, Q b → b < w.heap.size) :
    Calls Tryz.prog 25 #[v, v2] w fun e w' => e = .returned (.bool true) ∧ Below w.heap.size w w' := by
  obtain ⟨a, cap, rfl, hlen, hc⟩ := hv.open
  obtain ⟨a2, cap2, rfl, -, hc2⟩ := hv2.open
  have HC := hide hc; have HC2 := hide hc2; have HP := hide hP; have HQ := hide hQ; clear hc hc2 hP hQ hv hv2
  go_enter Tryz.func25, Tryz.ntmps25
  go_wp2_with fail
  go_loopw [5] (fun i wr => ∃ (k : Nat), k ≤ fs.length ∧ i = .int .i64 k ∧ Below w.heap.size w wr) (fun i _ => fs.length - (intOf i).toNat)
  case atStart => exact ⟨0, Nat.zero_le _, rfl, Below.refl _ _⟩
  case round =>
    obtain ⟨k, hk, rfl, hb⟩ := hrel
    by_cases hlt : k < fs.length
    · obtain ⟨b, o, rfl, hpb, hc0, hc1⟩ := unhide HC k hlt
      obtain ⟨b2, o2, rfl, hpb2, hd0, hd1⟩ := unhide HC2 k hlt
      have e0 : wr.cell? ⟨b, o + k * 2, none⟩ = some (.int .i64 fs[k].state) := by rw [hb.cell (unhide HP b hpb)]; exact hc0
      have e1 : wr.cell? ⟨b, o + k * 2 + 1, none⟩ = some (.int .i64 fs[k].job) := by rw [hb.cell (unhide HP b hpb)]; exact hc1
      have g0 : wr.cell? ⟨b2, o2 + k * 2, none⟩ = some (.int .i64 fs[k].state) := by rw [hb.cell (unhide HQ b2 hpb2)]; exact hd0
      have g1 : wr.cell? ⟨b2, o2 + k * 2 + 1, none⟩ = some (.int .i64 fs[k].job) := by rw [hb.cell (unhide HQ b2 hpb2)]; exact hd1
      have HCALL := hide (eqCrewMove_any fs[k] wr.drew)
      clear hc0 hc1 hd0 hd1 hpb hpb2
      generalize fs[k] = f at *
      go_wp2_with fail
      go_region_with (go_at_call 55; refine (unhide HCALL).mono ?_; rintro e w' ⟨rfl, hb'⟩)
      all_goals
        have hb2 := hb.drew.trans (hb'.mono hb.drew.size)
        go_wp2_with fail
        go_roundw
        case rel => exact ⟨k + 1, by omega, by go_num, hb2⟩
        case measure => simp [intOf]; omega
    · go_wp2_with fail
      go_ret
      exact ⟨rfl, hb⟩

set_option maxHeartbeats 800000 in
theorem heldCrewMoveS_any (v : Value) (n k : Nat) (w : World) {P : Nat → Prop} (hv : HAt P w v (mHs k n)) (hP : ∀ b, P b → b < w.heap.size) (hk : k + 2 * n ≤ 1099511627776) :
    Calls Tryz.prog 29 #[v, .int .i64 k] w fun e w' => e = .returned (.int .i64 (k + 2 * n : Nat)) ∧ Below w.heap.size w w' := by
  obtain ⟨a, cap, rfl, hlen, hc⟩ := hv.open
  have hml : (mHs k n).length = n := by simp [mHs]
  have hc' : ∀ i, i < n → ∃ b o, a = some ⟨b, o, none⟩ ∧ P b ∧ w.cell? ⟨b, o + i * 2, none⟩ = some (.int .i64 ((k + 2 * i : Nat) : Int)) ∧ w.cell? ⟨b, o + i * 2 + 1, none⟩ = some (.int .i64 ((k + 2 * i + 1 : Nat) : Int)) := fun i hi => by
    obtain ⟨b, o, e, hp, h0, h1⟩ := hc i (by rw [hml]; exact hi)
    have hg : (mHs k n)[i]'(by rw [hml]; exact hi) = ⟨((k + 2 * i : Nat) : Int), ((k + 2 * i + 1 : Nat) : Int)⟩ := by simp [mHs]
    rw [hg] at h0 h1
    exact ⟨b, o, e, hp, h0, h1⟩
  rw [hml] at hlen ⊢
  have HC := hide hc'; have HP := hide hP
  clear hc hc' hP hv hml
  go_enter Tryz.func29, Tryz.ntmps29
  go_wp2_with fail
  go_loopw [1, 5] (fun kk i wr => ∃ (j m : Nat), j ≤ n ∧ m = k + 2 * j ∧ kk = .int .i64 (m : Nat) ∧ i = .int .i64 j ∧ Hid (Below w.heap.size w wr)) (fun _ i _ => n - (intOf i).toNat)
  case atStart => exact ⟨0, k, Nat.zero_le _, by omega, rfl, rfl, Below.refl _ _⟩
  case round =>
    obtain ⟨j, m, hj, hm, rfl, rfl, HB⟩ := hrel
    by_cases hlt : j < n
    · obtain ⟨b, o, rfl, hpb, h0, h1⟩ := unhide HC j hlt
      have e0 : wr.cell? ⟨b, o + j * 2, none⟩ = some (.int .i64 (m : Int)) := by rw [HB.out.cell (p := ⟨b, o + j * 2, none⟩) (unhide HP b hpb), hm]; exact h0
      have e1 : wr.cell? ⟨b, o + j * 2 + 1, none⟩ = some (.int .i64 ((m : Int) + 1)) := by rw [HB.out.cell (p := ⟨b, o + j * 2 + 1, none⟩) (unhide HP b hpb), hm]; exact h1
      have hmb : m + 2 ≤ 1099511627776 := by omega
      have HMM := hide hm
      clear h0 h1 hpb hm
      go_wp2_with fail
      go_roundw
      case rel => exact ⟨j + 1, m + 2, by omega, by have := unhide HMM; omega, by go_num, by go_num, HB⟩
      case measure => simp [intOf]; omega
    · go_wp2_with fail
      go_ret
      obtain rfl : j = n := by omega
      exact ⟨by rw [hm]; rfl, HB.out⟩

set_option maxHeartbeats 1600000 in
theorem markCrewMoveS_own (v : Value) (fs : List Hd) (F : List Nat) (k : Nat) (w : World) (hv : HOwn w v fs F) (hk : k + 2 * fs.length ≤ 1099511627776) :
    Calls Tryz.prog 28 #[v, .int .i64 k] w fun e w' => e = .returned (.int .i64 (k + 2 * fs.length : Nat)) ∧ HOwn w' v (mHs k fs.length) F ∧ Exc F w w' := by
  obtain ⟨a, cap, rfl, hlen, hc⟩ := hv
  rw [List.length_map] at hlen ⊢
  rcases hc with ⟨hfs, rfl⟩ | ⟨b, rfl, rfl, hfr, hc⟩
  · have hfs' : fs = [] := by simpa using hfs
    subst hfs'
    simp only [List.length_nil] at *
    go_enter Tryz.func28, Tryz.ntmps28
    go_wp2_with fail
    go_loopw [1, 5] (fun kk i wr => kk = .int .i64 k ∧ i = .int .i64 0 ∧ wr = w) (fun _ _ _ => 0)
    case atStart => exact ⟨rfl, rfl, rfl⟩
    case round =>
      obtain ⟨rfl, rfl, rfl⟩ := hrel
      go_wp2_with fail
      go_ret
      exact ⟨by simp, ⟨a, cap, by simp [mHs], by simp [mHs], Or.inl ⟨by simp [mHs], rfl⟩⟩, Exc.refl _ _⟩
  · have hM := FlatOwn.cells (n := 2) (rs := fs.map Hd.cs) hc hfr (by omega)
    rw [List.length_map] at hM
    generalize (fun q => ((fs.map Hd.cs).getD (q / 2) []).getD (q % 2) undef) = g at hM
    have hM0 : CellsAre w b (fs.length * 2) (partF (mkI k) g 0) := by
      have : partF (mkI k) g 0 = g := by funext q; simp [partF]
      rw [this]; exact hM
    have HM := hide hM0
    clear hM hM0 hfr hc
    generalize fs.length = n at *
    go_enter Tryz.func28, Tryz.ntmps28
    go_wp2_with fail
    go_loopw [1, 5] (fun kk i wr => ∃ (j m : Nat), j ≤ n ∧ m = k + 2 * j ∧ kk = .int .i64 (m : Nat) ∧ i = .int .i64 j ∧ Hid (CellsAre wr b (n * 2) (partF (mkI k) g (j * 2))) ∧ Hid (Exc [b] w wr)) (fun _ i _ => n - (intOf i).toNat)
    case atStart => exact ⟨0, k, Nat.zero_le _, by omega, rfl, rfl, by rw [Nat.zero_mul]; exact HM, Exc.refl _ _⟩
    case round =>
      obtain ⟨j, m, hj, hm, rfl, rfl, HC, HX⟩ := hrel
      by_cases hlt : j < n
      · have hmb2 : m + 2 ≤ 1099511627776 := by omega
        have HMM := hide hm
        have f0 : Value.int .i64 (m : Int) = mkI k (j * 2) := by unfold mkI; rw [hm]; congr 2; omega
        have f1 : Value.int .i64 ((m : Int) + 1) = mkI k (j * 2 + 1) := by unfold mkI; rw [hm]; congr 1; omega
        have y0 := HC.out.2 (j * 2) (by omega); have z0 := HC.out.1 (j * 2)
        have hs1 := HC.out.step (by omega) _ f0
        have y1 := hs1.2 (j * 2 + 1) (by omega); have z1 := hs1.1 (j * 2 + 1)
        have HS2 := hide (hs1.step (by omega) _ f1)
        have HX2 := hide (HX.out.trans ((Exc.set wr b (j * 2) (.int .i64 (m : Int)) (by simp)).trans (Exc.set _ b (j * 2 + 1) (.int .i64 ((m : Int) + 1)) (by simp))))
        clear hm f0 f1 hs1
        go_wp2_with fail
        go_roundw
        case rel => exact ⟨j + 1, m + 2, by omega, by have := unhide HMM; omega, by go_num, by go_num, by rw [Nat.add_mul]; exact HS2, unhide HX2⟩
        case measure => simp [intOf]; omega
      · go_wp2_with fail
        go_ret
        obtain rfl : j = n := by omega
        exact ⟨by rw [hm]; rfl, hs_of_cells hlen HC.out, HX.out⟩

end Go.Proofs.YtibgjcejddpldaaGreat
