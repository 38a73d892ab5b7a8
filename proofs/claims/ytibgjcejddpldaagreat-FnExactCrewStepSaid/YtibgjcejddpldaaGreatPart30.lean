/- A part. -/
import Derived.Test.YtibgjcejddpldaaGreatPart29
namespace Go.Proofs.YtibgjcejddpldaaGreat
open Go Go.RowKit
set_option maxRecDepth 100000
set_option maxHeartbeats 3200000
theorem ring_set {W : World} {g cap : Nat} {l : List Int} (h : W.ownsRow 0 3 1 (.slice (some ⟨g, 0, none⟩) l.length cap) l.length (l.map zcs).flatten) (q : Nat) (z : Int) : (W.setCell ⟨g, q, none⟩ (.int .i64 z)).ownsRow 0 3 1 (.slice (some ⟨g, 0, none⟩) (l.set q z).length cap) (l.set q z).length ((l.set q z).map zcs).flatten := by
 have := World.ownsRow.stored h q (.int .i64 z)
 rw [zflat_map] at this ⊢
 rw [List.length_set, List.map_set]
 exact this.1
theorem CrAt.got_put {W V : World} {C : Nat} {c : Cw} {B : CrB} {a : Option Addr} {cap : Nat} {z : Int} {ob : Obj} (h : CrAt W C c B) (hl : c.got.length + 1 ≤ 1000) (ho : V.ownsRow 0 3 1 (.slice a (c.got.length + 1) cap) (c.got.length + 1) ((c.got.map zcs).flatten ++ [.int .i64 z])) (hg : (W.alloc ob).grownBy V (Value.slice B.aT c.got.length B.cT).ownBlock) (hat : (Value.slice a (c.got.length + 1) cap).ownBlock = (Value.slice B.aT c.got.length B.cT).ownBlock ∨ ∃ g, (Value.slice a (c.got.length + 1) cap).ownBlock = some g ∧ (W.alloc ob).heap.size ≤ g) : CrAt (V.setCell ⟨C, 12, none⟩ (.slice a (c.got.length + 1) cap)) C { c with got := c.got ++ [z] } { B with aT := a, cT := cap } ∧ Exc (CrB.blocks C B) W (V.setCell ⟨C, 12, none⟩ (.slice a (c.got.length + 1) cap)) ∧ V.cell? ⟨C, 12, none⟩ = some (.slice B.aT c.got.length B.cT) ∧ V.frozen? ⟨C, 12, none⟩ = false := by
 obtain ⟨hd, hgt⟩ := h.dist
 have hlt := h.lt
 have hsz : (W.alloc ob).heap.size = W.heap.size + 1 := by simp
 have hin : ∀ b, b ∈ [C, B.H, B.Q, B.Qp, B.R, B.Rp, B.O, B.Op, B.M, B.T, B.G] → b ∈ CrB.blocks C B := fun b hb => List.mem_append_left _ hb
 have hV : ∀ b, b ∈ [C, B.H, B.Q, B.Qp, B.R, B.Rp, B.O, B.Op, B.M, B.T, B.G] → V.heap[b]? = W.heap[b]? := fun b hb => by
  rw [hg.block b (by have := hlt b (hin b hb); omega) (fun e => hgt b e.symm hb)]
  exact Below.heap_alloc W ob b (hlt b (hin b hb))
 have hna : ∀ g, (Value.slice a (c.got.length + 1) cap).ownBlock = some g → g ∉ [C, B.H, B.Q, B.Qp, B.R, B.Rp, B.O, B.Op, B.M, B.T, B.G] := fun g e hm => by
  rcases hat with e2 | ⟨g2, e2, h2⟩
  · exact hgt g (e2.symm.trans e) hm
  · rw [e2] at e
    simp only [Option.some.injEq] at e
    have := hlt g (hin g hm)
    omega
 have hm : ∀ b, b ∈ [B.H, B.Q, B.Qp, B.R, B.Rp, B.O, B.Op, B.M, B.T, B.G] → (V.setCell ⟨C, 12, none⟩ (.slice a (c.got.length + 1) cap)).heap[b]? = W.heap[b]? := fun b hb => by
  rw [Below.heap_setCell _ _ _ _ (fun e => by subst e; exact (List.nodup_cons.1 hd).1 hb)]
  exact hV b (List.mem_cons_of_mem _ hb)
 have hrow := h.row.of_block (hV C (by simp))
 have hcell : V.cell? ⟨C, 12, none⟩ = some (.slice B.aT c.got.length B.cT) := hrow.cell (i := 12) (by omega)
 obtain ⟨h1, h2, h3, h4, h5, h6, h7, ⟨p, f, hf, h8⟩, ⟨u, h9⟩, a1, a2, a3, a4, a5, a6, a7⟩ := h
 have hCa : (Value.slice a (c.got.length + 1) cap).ownBlock ≠ some C := fun e => hna C e (by simp)
 refine ⟨⟨?_, h2.of_block (hm _ (by simp)), ownsRow_keepT h3 (fun g e => by simp only [Value.ownBlock, Option.some.injEq] at e; subst e; exact hm _ (by simp)), ?_, h5.carry (hm _ (by simp)) (hm _ (by simp)), h6.carry (hm _ (by simp)) (hm _ (by simp)), h7.carry (hm _ (by simp)) (hm _ (by simp)), ⟨p, f, hf, h8.of_block (hm _ (by simp))⟩, ⟨u, h9.of_block (hm _ (by simp))⟩, a1, a2, a3, a4, a5, ?_, ?_⟩, ?_, hcell, hrow.frozen 12⟩
 · refine row_set hrow ?_ rfl (by omega)
   simp [crRow]
 · show World.ownsRow _ 0 _ 1 (.slice a (c.got ++ [z]).length cap) (c.got ++ [z]).length ((c.got ++ [z]).map zcs).flatten
   rw [List.length_append, List.map_append, List.flatten_append]
   exact ownsRow_keepT ho (fun g e => Below.heap_setCell _ _ _ _ (fun e2 => hCa (e.trans (congrArg some e2))))
 · show (c.got ++ [z]).length ≤ 1000
   rw [List.length_append]
   exact hl
 · unfold CrB.blocks
   rw [List.nodup_append]
   refine ⟨hd, ?_, fun x hx y hy e => ?_⟩
   · cases a <;> simp [Value.ownBlock]
   · subst e
     cases a with
     | none => simp [Value.ownBlock] at hy
     | some ad =>
       simp only [Value.ownBlock, Option.toList_some, List.mem_singleton] at hy
       subst hy
       exact hna _ rfl hx
 · refine ⟨by rw [show (V.setCell ⟨C, 12, none⟩ (.slice a (c.got.length + 1) cap)).os = V.os from rfl, hg.os]; rfl, by rw [show (V.setCell ⟨C, 12, none⟩ (.slice a (c.got.length + 1) cap)).tape = V.tape from rfl, hg.tape]; rfl, by rw [show (V.setCell ⟨C, 12, none⟩ (.slice a (c.got.length + 1) cap)).output = V.output from rfl, hg.output]; rfl, by rw [World.size_setCell]; have := hg.size; omega, fun k hk hn => ?_⟩
   have hkC : k ≠ C := fun e => hn (by rw [e]; simp [CrB.blocks])
   rw [Below.heap_setCell _ _ _ _ hkC, hg.block k (by omega) (fun e => hn ?_)]
   · exact Below.heap_alloc W ob k hk
   · unfold CrB.blocks
     refine List.mem_append_right _ ?_
     cases hB : B.aT with
     | none => rw [hB] at e; cases e
     | some ad => rw [hB] at e; simp only [Value.ownBlock, Option.some.injEq] at e ⊢; simp [e]
theorem sendRead_do (C : Nat) (c : Cw) (B : CrB) (w : World) (h : CrAt w C c B) (hop : 0 ≤ c.ops ∧ c.ops ≤ 10000) (hnx : 0 ≤ c.next ∧ c.next ≤ 1000) (hq : c.queue.length < c.hands.length) : Calls Tryz.prog 124 #[.pointer (some ⟨C, 0, none⟩)] w fun e w' => DoEnd w w' e C ({ c with queue := c.queue ++ [c.next - 1], reader := 0, ops := c.ops + 1 }) B := by
 have HOP := xH hop
 have HQ := xH hq
 have HW1 := xH (show IntKind.i64.wrap (c.next - 1) = c.next - 1 by rw [IntKind.wrap_i64]; omega)
 have HC0 := xH h; have HX0 := xH (Exc.refl (CrB.blocks C B) w)
 clear h
 go_enter Tryz.func124, Tryz.ntmps124
 go_upto_region 0 with fail
 refine wp_swap (c' := Code.region 0 sr0Ops true) (by kernel_rfl) ?_
 refine wp_region_noPanic ?_
 refine sr0 C c B w (xU HC0) (xU HQ) (xU HW1) _ (fun _ _ _ _ _ h => h) ?_
 intro n2 n3 n4 n5 n6 n7 n8 n9 n10 n11 W1 hc1 hx1
 refine NoPanic.normal ?_
 have HC1 := xH hc1; have HX1 := xH ((xU HX0).trans hx1)
 clear hc1 hx1 HC0 HX0
 have HUS := xH (use_any C { c with queue := c.queue ++ [c.next - 1] } B W1 (xU HC1) (xU HOP).1 (xU HOP).2)
 have HC2 := xH (show CrAt (W1.setCell ⟨C, 15, none⟩ (.int .i64 (c.ops + 1))) C { c with queue := c.queue ++ [c.next - 1], ops := c.ops + 1 } B from (xU HC1).put 15 (.int .i64 (c.ops + 1)) (by omega) rfl rfl rfl rfl rfl rfl rfl rfl rfl rfl rfl)
 have HX2 := xH ((xU HX1).trans (Exc.set (F := CrB.blocks C B) W1 C 15 (.int .i64 (c.ops + 1)) (by simp [CrB.blocks])))
 go_upto_region 2 with (go_at_call 80; refine (xU HUS).mono ?_; rintro e w1 ⟨rfl, rfl⟩)
 generalize W1.setCell ⟨C, 15, none⟩ (.int .i64 (c.ops + 1)) = W2 at HC2 HX2 ⊢
 clear HUS HC1 HX1
 have ko : W2.cell? ⟨C, 2, none⟩ = some (.int .i64 c.reader) := (xU HC2).c2
 have fo := (xU HC2).row.frozen 2
 have HC3 := xH (show CrAt (W2.setCell ⟨C, 2, none⟩ (.int .i64 0)) C { c with queue := c.queue ++ [c.next - 1], ops := c.ops + 1, reader := 0 } B from (xU HC2).put 2 (.int .i64 0) (by omega) rfl rfl rfl rfl rfl rfl rfl rfl rfl rfl rfl)
 have HX3 := xH ((xU HX2).trans (Exc.set (F := CrB.blocks C B) W2 C 2 (.int .i64 0) (by simp [CrB.blocks])))
 go_wp2_with (fail)
 go_end0
 exact ⟨rfl, ⟨B, xU HC3⟩, xU HX3⟩
theorem seeResultsEnd_do (C : Nat) (c : Cw) (B : CrB) (w : World) (h : CrAt w C c B) (hop : 0 ≤ c.ops ∧ c.ops ≤ 10000) : Calls Tryz.prog 134 #[.pointer (some ⟨C, 0, none⟩)] w fun e w' => DoEnd w w' e C ({ c with keeper := 4, ops := c.ops + 1 }) B := by
 have HOP := xH hop
 have HC0 := xH h; have HX0 := xH (Exc.refl (CrB.blocks C B) w)
 clear h
 go_enter Tryz.func134, Tryz.ntmps134
 have HUS := xH (use_any C c B w (xU HC0) (xU HOP).1 (xU HOP).2)
 have HC1 := xH (show CrAt (w.setCell ⟨C, 15, none⟩ (.int .i64 (c.ops + 1))) C { c with ops := c.ops + 1 } B from (xU HC0).put 15 (.int .i64 (c.ops + 1)) (by omega) rfl rfl rfl rfl rfl rfl rfl rfl rfl rfl rfl)
 have HX1 := xH ((xU HX0).trans (Exc.set (F := CrB.blocks C B) w C 15 (.int .i64 (c.ops + 1)) (by simp [CrB.blocks])))
 go_upto_region 1 with (go_at_call 80; refine (xU HUS).mono ?_; rintro e w1 ⟨rfl, rfl⟩)
 generalize w.setCell ⟨C, 15, none⟩ (.int .i64 (c.ops + 1)) = W1 at HC1 HX1 ⊢
 clear HUS HC0 HX0
 have HCL := xH (keepNoMore_do C { c with ops := c.ops + 1 } B W1 (xU HC1))
 go_wp2_with (go_at_call 133; refine (xU HCL).mono ?_; rintro e W2 ⟨rfl, hc2, hx2⟩; have HC2 := xH hc2; have HX2 := xH ((xU HX1).trans hx2); clear hc2 hx2)
 go_end0
 exact ⟨rfl, xU HC2, xU HX2⟩
theorem keepResult_do (C : Nat) (c : Cw) (B : CrB) (w : World) (h : CrAt w C c B) (hop : 0 ≤ c.ops ∧ c.ops ≤ 10000) (j : Nat) (l : List Int) (hq : c.results = (j : Int) :: l) : Calls Tryz.prog 132 #[.pointer (some ⟨C, 0, none⟩)] w fun e w' => DoEnd w w' e C ({ c with results := l, ring := c.ring.set (j % c.ring.length) (j : Int), keeper := 1, ops := c.ops + 1 }) B := by
 have HOP := xH hop
 have HC0 := xH h; have HX0 := xH (Exc.refl (CrB.blocks C B) w)
 clear h
 go_enter Tryz.func132, Tryz.ntmps132
 have k6 := (xU HC0).c6
 have HCL := xH (takeI_any B.R B.Rp c.hands.length l (c.shut.getD 1 0) (j : Int) w (by have := (xU HC0).r; rw [hq] at this; exact this))
 go_upto_region 1 with (go_at_call 145; refine (xU HCL).mono ?_; rintro e W1 ⟨rfl, hr, hx⟩; have HC1 := xH (show CrAt W1 C { c with results := l } B from (xU HC0).mod_r hr (hx.sub (by simp))); have HX1 := xH ((xU HX0).trans ((hx).sub (by simp [CrB.blocks]))); clear hr hx)
 clear HCL k6 hq HC0 HX0
 have HUS := xH (use_any C { c with results := l } B W1 (xU HC1) (xU HOP).1 (xU HOP).2)
 have HC2 := xH (show CrAt (W1.setCell ⟨C, 15, none⟩ (.int .i64 (c.ops + 1))) C { c with results := l, ops := c.ops + 1 } B from (xU HC1).put 15 (.int .i64 (c.ops + 1)) (by omega) rfl rfl rfl rfl rfl rfl rfl rfl rfl rfl rfl)
 have HX2 := xH ((xU HX1).trans (Exc.set (F := CrB.blocks C B) W1 C 15 (.int .i64 (c.ops + 1)) (by simp [CrB.blocks])))
 go_upto_region 2 with (go_at_call 80; refine (xU HUS).mono ?_; rintro e w1 ⟨rfl, rfl⟩)
 generalize W1.setCell ⟨C, 15, none⟩ (.int .i64 (c.ops + 1)) = W2 at HC2 HX2 ⊢
 clear HUS HC1 HX1
 have HRP := xH (ringPlace_any C { c with results := l, ops := c.ops + 1 } B j W2 (xU HC2))
 obtain ⟨q, hq⟩ : ∃ q, j % c.ring.length = q := ⟨_, rfl⟩
 have hql : q < c.ring.length := by rw [← hq]; exact Nat.mod_lt _ (xU HC2).szG.1
 rw [show j % ({ c with results := l, ops := c.ops + 1 } : Cw).ring.length = q from hq] at HRP
 have HQE := xH hq
 clear hq
 go_upto_region 3 with (go_at_call 146; refine (xU HRP).mono ?_; rintro e V2 ⟨rfl, hb⟩; have HV := xH ((xU HC2).below hb); have HXV := xH ((xU HX2).trans (Exc.of_below hb)); have gq := (xU HV).g_at q hql; have gf := World.ownsRow.frozenAt (xU HV).ring q; clear hb HRP)
 have HC3 := xH (show CrAt (V2.setCell ⟨B.G, q, none⟩ (.int .i64 (j : Int))) C { c with results := l, ops := c.ops + 1, ring := c.ring.set q (j : Int) } B from (xU HV).mod_g (l := c.ring.set q (j : Int)) (by rw [List.length_set]) (ring_set (xU HV).ring q j) (Exc.set _ _ _ _ (by simp)))
 have HX3 := xH ((xU HXV).trans (Exc.set (F := CrB.blocks C B) V2 B.G q (.int .i64 (j : Int)) (by simp [CrB.blocks])))
 generalize V2.setCell ⟨B.G, q, none⟩ (.int .i64 (j : Int)) = W3 at HC3 HX3 ⊢
 clear gq gf HV HXV HC2 HX2
 have ko : W3.cell? ⟨C, 7, none⟩ = some (.int .i64 c.keeper) := (xU HC3).c7
 have fo := (xU HC3).row.frozen 7
 have HC4 := xH (show CrAt (W3.setCell ⟨C, 7, none⟩ (.int .i64 1)) C { c with results := l, ops := c.ops + 1, ring := c.ring.set q (j : Int), keeper := 1 } B from (xU HC3).put 7 (.int .i64 1) (by omega) rfl rfl rfl rfl rfl rfl rfl rfl rfl rfl rfl)
 have HX4 := xH ((xU HX3).trans (Exc.set (F := CrB.blocks C B) W3 C 7 (.int .i64 1) (by simp [CrB.blocks])))
 go_wp2_with (fail)
 go_end0
 rw [xU HQE]
 exact ⟨rfl, ⟨B, xU HC4⟩, xU HX4⟩
theorem checkRing_do (C : Nat) (c : Cw) (B : CrB) (w : World) (h : CrAt w C c B) (hd : 0 ≤ c.due) : Calls Tryz.prog 135 #[.pointer (some ⟨C, 0, none⟩)] w fun e w' => DoEnd w w' e C ({ c with keeper := if dueIn c then 2 else 0 }) B := by
 have HD := xH hd
 generalize hx : ({ c with keeper := if dueIn c then 2 else 0 } : Cw) = x
 have HXE := xH hx
 clear hx hd
 have HC0 := xH h; have HX0 := xH (Exc.refl (CrB.blocks C B) w)
 clear h
 go_enter Tryz.func135, Tryz.ntmps135
 have ko : w.cell? ⟨C, 7, none⟩ = some (.int .i64 c.keeper) := (xU HC0).c7
 have fo := (xU HC0).row.frozen 7
 have HC1 := xH (show CrAt (w.setCell ⟨C, 7, none⟩ (.int .i64 0)) C { c with keeper := 0 } B from (xU HC0).put 7 (.int .i64 0) (by omega) rfl rfl rfl rfl rfl rfl rfl rfl rfl rfl rfl)
 have HX1 := xH ((xU HX0).trans (Exc.set (F := CrB.blocks C B) w C 7 (.int .i64 0) (by simp [CrB.blocks])))
 go_upto_region 1 with (fail)
 generalize w.setCell ⟨C, 7, none⟩ (.int .i64 0) = W1 at HC1 HX1 ⊢
 clear ko fo HC0 HX0
 have HDR := xH (dueR_any C { c with keeper := 0 } B W1 (xU HC1) (xU HD))
 rw [show dueIn { c with keeper := 0 } = dueIn c from rfl] at HDR
 cases hdu : dueIn c with
 | false =>
   rw [hdu] at HDR
   have HDU := xH hdu
   clear hdu
   go_wp2_with (go_at_call 119; refine (xU HDR).mono ?_; rintro e V ⟨rfl, hb⟩; have HC2 := xH ((xU HC1).below hb); have HX2 := xH ((xU HX1).trans (Exc.of_below hb)); clear hb HDR)
   go_end0
   exact ⟨rfl, ⟨B, by rw [← xU HXE, xU HDU]; exact xU HC2⟩, xU HX2⟩
 | true =>
   rw [hdu] at HDR
   have HDU := xH hdu
   clear hdu
   go_upto_region 2 with (go_at_call 119; refine (xU HDR).mono ?_; rintro e V ⟨rfl, hb⟩; have HC2 := xH ((xU HC1).below hb); have HX2 := xH ((xU HX1).trans (Exc.of_below hb)); clear hb HDR)
   have ko : V.cell? ⟨C, 7, none⟩ = some (.int .i64 0) := (xU HC2).c7
   have fo := (xU HC2).row.frozen 7
   have HC3 := xH (show CrAt (V.setCell ⟨C, 7, none⟩ (.int .i64 2)) C { c with keeper := 2 } B from (xU HC2).put 7 (.int .i64 2) (by omega) rfl rfl rfl rfl rfl rfl rfl rfl rfl rfl rfl)
   have HX3 := xH ((xU HX2).trans (Exc.set (F := CrB.blocks C B) V C 7 (.int .i64 2) (by simp [CrB.blocks])))
   go_wp2_with fail
   go_end0
   exact ⟨rfl, ⟨B, by rw [← xU HXE, xU HDU]; exact xU HC3⟩, xU HX3⟩
theorem giveDue_do (C : Nat) (c : Cw) (B : CrB) (w : World) (h : CrAt w C c B) (hop : 0 ≤ c.ops ∧ c.ops ≤ 10000) (d : Nat) (hd : c.due = (d : Int)) (hd9 : d ≤ 1000) (ho : c.out.length < 1) : Calls Tryz.prog 136 #[.pointer (some ⟨C, 0, none⟩)] w fun e w' => DoEnd w w' e C ({ c with ring := c.ring.set (d % c.ring.length) (-1), out := c.out ++ [c.due], due := c.due + 1, keeper := 3, ops := c.ops + 1 }) B := by
 have HOP := xH hop
 have HO := xH ho
 have hw1 : IntKind.i64.wrap ((d : Int) + 1) = (d : Int) + 1 := by rw [IntKind.wrap_i64]; omega
 have HC0 := xH h; have HX0 := xH (Exc.refl (CrB.blocks C B) w)
 clear h
 go_enter Tryz.func136, Tryz.ntmps136
 have HRP := xH (ringPlace_any C c B d w (xU HC0))
 obtain ⟨q, hq⟩ : ∃ q, d % c.ring.length = q := ⟨_, rfl⟩
 have hql : q < c.ring.length := by rw [← hq]; exact Nat.mod_lt _ (xU HC0).szG.1
 rw [hq] at HRP ⊢
 have k9 := (xU HC0).c9
 rw [hd] at k9
 have HDE := xH hd
 clear hq hd
 go_upto_region 1 with (go_at_call 146; refine (xU HRP).mono ?_; rintro e V2 ⟨rfl, hb⟩; have HV := xH ((xU HC0).below hb); have HXV := xH ((xU HX0).trans (Exc.of_below hb)); have gq := (xU HV).g_at q hql; have gf := World.ownsRow.frozenAt (xU HV).ring q; clear hb HRP)
 have HC1 := xH (show CrAt (V2.setCell ⟨B.G, q, none⟩ (.int .i64 (-1))) C { c with ring := c.ring.set q (-1) } B from (xU HV).mod_g (l := c.ring.set q (-1)) (by rw [List.length_set]) (ring_set (xU HV).ring q (-1)) (Exc.set _ _ _ _ (by simp)))
 have HX1 := xH ((xU HXV).trans (Exc.set (F := CrB.blocks C B) V2 B.G q (.int .i64 (-1)) (by simp [CrB.blocks])))
 generalize V2.setCell ⟨B.G, q, none⟩ (.int .i64 (-1)) = W1 at HC1 HX1 ⊢
 clear gq gf HV HXV HC0 HX0 k9
 go_upto_region 1 with fail
 refine wp_swap (c' := Code.region 1 gd1Ops true) (by kernel_rfl) ?_
 refine wp_region_noPanic ?_
 refine gd1 C { c with ring := c.ring.set q (-1) } B W1 (xU HC1) (xU HO) _ (fun _ _ _ _ _ h => h) ?_
 intro n9 n10 n11 n12 n13 n14 n15 n16 n17 W2 hc2 hx2
 refine NoPanic.normal ?_
 have HC2 := xH hc2; have HX2 := xH ((xU HX1).trans hx2)
 clear hc2 hx2 HC1 HX1
 have HUS := xH (use_any C { c with ring := c.ring.set q (-1), out := c.out ++ [c.due] } B W2 (xU HC2) (xU HOP).1 (xU HOP).2)
 have HC3 := xH (show CrAt (W2.setCell ⟨C, 15, none⟩ (.int .i64 (c.ops + 1))) C { c with ring := c.ring.set q (-1), out := c.out ++ [c.due], ops := c.ops + 1 } B from (xU HC2).put 15 (.int .i64 (c.ops + 1)) (by omega) rfl rfl rfl rfl rfl rfl rfl rfl rfl rfl rfl)
 have HX3 := xH ((xU HX2).trans (Exc.set (F := CrB.blocks C B) W2 C 15 (.int .i64 (c.ops + 1)) (by simp [CrB.blocks])))
 go_upto_region 3 with (go_at_call 80; refine (xU HUS).mono ?_; rintro e w1 ⟨rfl, rfl⟩)
 generalize W2.setCell ⟨C, 15, none⟩ (.int .i64 (c.ops + 1)) = W3 at HC3 HX3 ⊢
 clear HUS HC2 HX2
 have kd : W3.cell? ⟨C, 9, none⟩ = some (.int .i64 (d : Int)) := by rw [← xU HDE]; exact (xU HC3).c9
 have fo := (xU HC3).row.frozen 9
 have HC4 := xH (show CrAt (W3.setCell ⟨C, 9, none⟩ (.int .i64 ((d : Int) + 1))) C { c with ring := c.ring.set q (-1), out := c.out ++ [c.due], ops := c.ops + 1, due := (d : Int) + 1 } B from (xU HC3).put 9 (.int .i64 ((d : Int) + 1)) (by omega) rfl rfl rfl rfl rfl rfl rfl rfl rfl rfl rfl)
 have HX4 := xH ((xU HX3).trans (Exc.set (F := CrB.blocks C B) W3 C 9 (.int .i64 ((d : Int) + 1)) (by simp [CrB.blocks])))
 go_upto_region 4 with (fail)
 generalize W3.setCell ⟨C, 9, none⟩ (.int .i64 ((d : Int) + 1)) = W4 at HC4 HX4 ⊢
 clear kd fo HC3 HX3
 have ko : W4.cell? ⟨C, 7, none⟩ = some (.int .i64 c.keeper) := (xU HC4).c7
 have fo := (xU HC4).row.frozen 7
 have HC5 := xH (show CrAt (W4.setCell ⟨C, 7, none⟩ (.int .i64 3)) C { c with ring := c.ring.set q (-1), out := c.out ++ [c.due], ops := c.ops + 1, due := (d : Int) + 1, keeper := 3 } B from (xU HC4).put 7 (.int .i64 3) (by omega) rfl rfl rfl rfl rfl rfl rfl rfl rfl rfl rfl)
 have HX5 := xH ((xU HX4).trans (Exc.set (F := CrB.blocks C B) W4 C 7 (.int .i64 3) (by simp [CrB.blocks])))
 go_wp2_with (fail)
 go_end0
 rw [show c.due + 1 = (d : Int) + 1 by rw [xU HDE]]
 exact ⟨rfl, ⟨B, xU HC5⟩, xU HX5⟩

theorem tri0 (s t : Bool) : [decide (0 < 0), s, decide (0 = 0) && t] = [false, s, t] := rfl
theorem tri1 (n : Nat) (s t : Bool) : [decide (0 < n + 1), s, decide (n + 1 = 0) && t] = [true, s, false] := by
 rw [show decide (0 < n + 1) = true from decide_eq_true (by omega), show decide (n + 1 = 0) = false from decide_eq_false (by omega)]
 rfl
theorem duo0 (t : Bool) : [decide (0 < 0), decide (0 = 0) && t] = [false, t] := rfl
theorem duo1 (n : Nat) (t : Bool) : [decide (0 < n + 1), decide (n + 1 = 0) && t] = [true, false] := by
 rw [show decide (0 < n + 1) = true from decide_eq_true (by omega), show decide (n + 1 = 0) = false from decide_eq_false (by omega)]
 rfl
theorem keeperWays_any (C : Nat) (c : Cw) (B : CrB) (w : World) (h : CrAt w C c B) (hF : Form c) : Calls Tryz.prog 110 #[.pointer (some ⟨C, 0, none⟩)] w fun e w' => WsEnd w w' e (pwK C c) := by
 have c7 := h.c7; have c10 := h.c10
 have HK := xH (Kc.start h)
 have HF := xH hF
 have HST := xH (fun W (hW : CrAt W C c B) => stop1 (B := B) hF W hW)
 have HEO := xH (empI B.O c.out.length _ w h.o2 rfl)
 have hrg := hF.keeper
 clear h hF
 rcases (show c.keeper = 0 ∨ c.keeper = 1 ∨ c.keeper = 2 ∨ c.keeper = 3 ∨ c.keeper = 4 ∨ c.keeper = 5 by omega) with r0 | r0 | r0 | r0 | r0 | r0
 · rw [r0] at c7
   clear HST HEO c10 hrg
   rcases Nat.eq_zero_or_pos c.results.length with hn | hn
   · have HV := xH (show pwK C c = [(false, fv 132 (pC C)), (stpB c, fv 133 (pC C)), (decide (shZ c 1 = 1), fv 134 (pC C))] from by unfold pwK wayK dvK; rw [if_pos r0, if_pos r0, hn, tri0]; rfl)
     have HN := xH hn
     clear hn r0
     go_enter Tryz.func110, Tryz.ntmps110
     go_upto_region 3 with fail
     refine wp_swap (c' := Code.region 3 cpkOps true) (by kernel_rfl) ?_
     refine wp_region_noPanic ?_
     refine cpk_0 C c B w (xU HF) (xU HN) _ _ (fun _ _ _ _ _ h => h) ((xU HK).on (below_drewN _ 1)) (by kernel_rfl) ?_
     intro v s W' hbs
     refine NoPanic.normal ?_
     simp only [frL_eq, frG, List.lookup, Nat.reduceBEq, Nat.reduceAdd, Option.getD_some, Option.getD_none]
     have HBS := xH hbs
     clear hbs
     go_wp2_with fail
     go_ret
     rw [xU HV]; exact xU HBS
   · obtain ⟨n, hn⟩ : ∃ n, c.results.length = n + 1 := ⟨c.results.length - 1, by omega⟩
     have HV := xH (show pwK C c = [(true, fv 132 (pC C)), (stpB c, fv 133 (pC C)), (false, fv 134 (pC C))] from by unfold pwK wayK dvK; rw [if_pos r0, if_pos r0, hn, tri1]; rfl)
     have HN := xH hn
     clear hn r0
     go_enter Tryz.func110, Tryz.ntmps110
     go_upto_region 3 with fail
     refine wp_swap (c' := Code.region 3 cpkOps true) (by kernel_rfl) ?_
     refine wp_region_noPanic ?_
     refine cpk_1 C c B w (xU HF) n (xU HN) _ _ (fun _ _ _ _ _ h => h) ((xU HK).on (below_drewN _ 1)) (by kernel_rfl) ?_
     intro v s W' hbs
     refine NoPanic.normal ?_
     simp only [frL_eq, frG, List.lookup, Nat.reduceBEq, Nat.reduceAdd, Option.getD_some, Option.getD_none]
     have HBS := xH hbs
     clear hbs
     go_wp2_with fail
     go_ret
     rw [xU HV]; exact xU HBS
 · have HV := xH (show pwK C c = [(true, fv 135 (pC C))] from by unfold pwK wayK dvK; simp [r0])
   rw [r0] at c7
   clear HST HEO c10 hrg r0 HF
   go_enter Tryz.func110, Tryz.ntmps110
   go_wp2_with fail
   go_ret
   rw [xU HV]
   exact ws_new (xU HK).bel [(true, fv 135 (pC C))] (by simp)
 · have HV := xH (show pwK C c = [(decide (c.out.length = 0), fv 136 (pC C)), (stpB c, fv 133 (pC C))] from by unfold pwK wayK dvK; simp [r0])
   rw [r0] at c7
   clear hrg r0 HF
   have HBX := xH (fun W (hb : Below w.heap.size w W) => (xU HK).on hb)
   obtain ⟨db, hdb⟩ : ∃ db, decide (c.out.length = 0) = db := ⟨_, rfl⟩
   rw [hdb] at HV HEO
   clear hdb
   go_enter Tryz.func110, Tryz.ntmps110
   go_wp2_with (first | (go_at_call 118; refine (xU HEO).mono ?_; rintro e w2 ⟨rfl, hb⟩; have HB := xH (xU HBX _ hb); clear hb) | (go_at_call 115; refine (xU HST _ (xU HB).cr).mono ?_; rintro e w3 ⟨rfl, hb⟩; have HB3 := xH ((xU HB).on hb); clear hb))
   go_ret
   rw [xU HV]
   exact ws_new (xU HB3).bel [(db, fv 136 (pC C)), (stpB c, fv 133 (pC C))] (by simp)
 · have HV := xH (show pwK C c = [(true, fv 137 (pC C))] from by unfold pwK wayK dvK; simp [r0])
   rw [r0] at c7
   clear HST HEO c10 hrg r0 HF
   go_enter Tryz.func110, Tryz.ntmps110
   go_wp2_with fail
   go_ret
   rw [xU HV]
   exact ws_new (xU HK).bel [(true, fv 137 (pC C))] (by simp)
 · have HV := xH (show pwK C c = [(true, fv 138 (pC C))] from by unfold pwK wayK dvK; simp [r0])
   rw [r0] at c7
   clear HST HEO c10 hrg r0 HF
   go_enter Tryz.func110, Tryz.ntmps110
   go_wp2_with fail
   go_ret
   rw [xU HV]
   exact ws_new (xU HK).bel [(true, fv 138 (pC C))] (by simp)
 · have HV := xH (show pwK C c = [] from by unfold pwK wayK dvK; simp [r0])
   rw [r0] at c7
   clear HST HEO c10 hrg r0 HF
   go_enter Tryz.func110, Tryz.ntmps110
   go_wp2_with fail
   go_ret
   rw [xU HV]
   exact ws_nil (xU HK).bel
theorem userWays_any (C : Nat) (c : Cw) (B : CrB) (w : World) (h : CrAt w C c B) (hF : Form c) : Calls Tryz.prog 111 #[.pointer (some ⟨C, 0, none⟩)] w fun e w' => WsEnd w w' e (pwU C c) := by
 have c11 := h.c11
 have HK := xH (Kc.start h)
 have HF := xH hF
 clear h hF
 by_cases r0 : c.user = 1
 · have HV := xH (show pwU C c = [] from by unfold pwU wayU dvU; simp [r0])
   rw [r0] at c11
   clear r0 HF
   go_enter Tryz.func111, Tryz.ntmps111
   go_wp2_with fail
   go_ret
   rw [xU HV]
   exact ws_nil (xU HK).bel
 · have z0 : (c.user == 1) = false := by simp [r0]
   rcases Nat.eq_zero_or_pos c.out.length with hn | hn
   · have HV := xH (show pwU C c = [(false, fv 139 (pC C)), (decide (shZ c 2 = 1), fv 140 (pC C))] from by unfold pwU wayU dvU; rw [if_neg r0, if_neg r0, hn, duo0]; rfl)
     have HN := xH hn
     clear hn r0
     generalize c.user = uu at c11 z0
     go_enter Tryz.func111, Tryz.ntmps111
     go_upto_region 3 with fail
     refine wp_swap (c' := Code.region 3 cpuOps true) (by kernel_rfl) ?_
     refine wp_region_noPanic ?_
     refine cpu_0 C c B w (xU HF) (xU HN) _ _ (fun _ _ _ _ _ h => h) ((xU HK).on (below_drewN _ 1)) (by kernel_rfl) ?_
     intro v s W' hbs
     refine NoPanic.normal ?_
     simp only [frL_eq, frG, List.lookup, Nat.reduceBEq, Nat.reduceAdd, Option.getD_some, Option.getD_none]
     have HBS := xH hbs
     clear hbs
     go_wp2_with fail
     go_ret
     rw [xU HV]; exact xU HBS
   · obtain ⟨n, hn⟩ : ∃ n, c.out.length = n + 1 := ⟨c.out.length - 1, by omega⟩
     have HV := xH (show pwU C c = [(true, fv 139 (pC C)), (false, fv 140 (pC C))] from by unfold pwU wayU dvU; rw [if_neg r0, if_neg r0, hn, duo1]; rfl)
     have HN := xH hn
     clear hn r0
     generalize c.user = uu at c11 z0
     go_enter Tryz.func111, Tryz.ntmps111
     go_upto_region 3 with fail
     refine wp_swap (c' := Code.region 3 cpuOps true) (by kernel_rfl) ?_
     refine wp_region_noPanic ?_
     refine cpu_1 C c B w (xU HF) n (xU HN) _ _ (fun _ _ _ _ _ h => h) ((xU HK).on (below_drewN _ 1)) (by kernel_rfl) ?_
     intro v s W' hbs
     refine NoPanic.normal ?_
     simp only [frL_eq, frG, List.lookup, Nat.reduceBEq, Nat.reduceAdd, Option.getD_some, Option.getD_none]
     have HBS := xH hbs
     clear hbs
     go_wp2_with fail
     go_ret
     rw [xU HV]; exact xU HBS
theorem workerWays_any (C : Nat) (c : Cw) (B : CrB) (i : Nat) (w : World) (h : CrAt w C c B) (hF : Form c) (hi : i < c.hands.length) : Calls Tryz.prog 108 #[.agg #[.pointer (some ⟨C, 0, none⟩), .pointer (some ⟨B.H, i * 2, none⟩)]] w fun e w' => WsEnd w w' e (pwW C B.H i c (c.hands.getD i ⟨0, 0⟩)) := by
 have HK0 := xH (Kc.start h)
 have HF := xH hF
 have hrg : 0 ≤ (c.hands.getD i ⟨0, 0⟩).state ∧ (c.hands.getD i ⟨0, 0⟩).state ≤ 3 := by
  rw [List.getD_eq_getElem?_getD, List.getElem?_eq_getElem hi]
  exact (hF.handsOk _ (List.getElem_mem hi)).1
 have HC0 := xH (fun W (hW : CrAt W C c B) => (show W.cell? ⟨B.H, i * 2, none⟩ = some (.int .i64 (c.hands.getD i ⟨0, 0⟩).state) from by
  rw [List.getD_eq_getElem?_getD, List.getElem?_eq_getElem hi]
  exact (hands_at hW.hands i hi).1))
 have HQ := xH (show c.results.length ≤ c.hands.length from by have := hF.results; have := hF.hands; omega)
 clear h hF hi
 generalize c.hands.getD i ⟨0, 0⟩ = hd at *
 have HBX : Hid (Kw w (w.alloc (.cells #[.pointer (some ⟨C, 0, none⟩), .pointer (some ⟨B.H, i * 2, none⟩)] 129)) C c B i) := ⟨(xU HK0).on ((Below.refl _ _).alloc (Nat.le_refl _) _), World.rowIs_alloc w #[.pointer (some ⟨C, 0, none⟩), .pointer (some ⟨B.H, i * 2, none⟩)] 129 _ (fun j hj => by
  rcases (show j = 0 ∨ j = 1 by simp at hj; omega) with rfl | rfl <;> rfl)⟩
 clear HK0
 go_enter Tryz.func108, Tryz.ntmps108
 go_upto_region 1 with fail
 generalize w.alloc (.cells #[.pointer (some ⟨C, 0, none⟩), .pointer (some ⟨B.H, i * 2, none⟩)] 129) = W0 at HBX ⊢
 have b0 := (xU HBX).b0; have b1 := (xU HBX).b1; have s0 := xU HC0 _ (xU HBX).k.cr
 rcases (show hd.state = 0 ∨ hd.state = 1 ∨ hd.state = 2 ∨ hd.state = 3 by omega) with r0 | r0 | r0 | r0
 · rw [r0] at s0
   rcases Nat.eq_zero_or_pos c.queue.length with hn | hn
   · have HV := xH (show pwW C B.H i c hd = [(false, fv 126 (rW C B.H i)), (stpB c, fv 127 (rW C B.H i)), (decide (shZ c 0 = 1), fv 128 (rW C B.H i))] from by unfold pwW wayW dvW; rw [if_pos r0, if_pos r0, hn, tri0]; rfl)
     have HN := xH hn
     clear hn r0 hrg b0 HQ HC0
     go_upto_region 3 with fail
     refine wp_swap (c' := Code.region 3 cpwOps true) (by kernel_rfl) ?_
     refine wp_region_noPanic ?_
     refine cpw_0 C c B w i (xU HF) (xU HN) _ _ (fun _ _ _ _ _ h => h) ((xU HBX).on (below_drewN _ 1)) (by kernel_rfl) ?_
     intro v s W' hbs
     refine NoPanic.normal ?_
     simp only [frL_eq, frG, List.lookup, Nat.reduceBEq, Nat.reduceAdd, Option.getD_some, Option.getD_none]
     have HBS := xH hbs
     clear hbs
     go_wp2_with fail
     go_ret
     rw [xU HV]; exact xU HBS
   · obtain ⟨n, hn⟩ : ∃ n, c.queue.length = n + 1 := ⟨c.queue.length - 1, by omega⟩
     have HV := xH (show pwW C B.H i c hd = [(true, fv 126 (rW C B.H i)), (stpB c, fv 127 (rW C B.H i)), (false, fv 128 (rW C B.H i))] from by unfold pwW wayW dvW; rw [if_pos r0, if_pos r0, hn, tri1]; rfl)
     have HN := xH hn
     clear hn r0 hrg b0 HQ HC0
     go_upto_region 3 with fail
     refine wp_swap (c' := Code.region 3 cpwOps true) (by kernel_rfl) ?_
     refine wp_region_noPanic ?_
     refine cpw_1 C c B w i (xU HF) n (xU HN) _ _ (fun _ _ _ _ _ h => h) ((xU HBX).on (below_drewN _ 1)) (by kernel_rfl) ?_
     intro v s W' hbs
     refine NoPanic.normal ?_
     simp only [frL_eq, frG, List.lookup, Nat.reduceBEq, Nat.reduceAdd, Option.getD_some, Option.getD_none]
     have HBS := xH hbs
     clear hbs
     go_wp2_with fail
     go_ret
     rw [xU HV]; exact xU HBS
 · have HV := xH (show pwW C B.H i c hd = [(true, fv 129 (rW C B.H i))] from by unfold pwW wayW dvW; simp [r0])
   rw [r0] at s0
   clear r0 hrg HQ HC0 HF
   go_wp2_with fail
   go_ret
   rw [xU HV]
   exact ws_new (xU HBX).bel' [(true, fv 129 (rW C B.H i))] (by simp)
 · have HV := xH (show pwW C B.H i c hd = [((!((c.results.length : Int) == (c.hands.length : Int))), fv 130 (rW C B.H i)), (stpB c, fv 127 (rW C B.H i))] from by rw [full_lt (xU HQ) (xU HF).hands]; unfold pwW wayW dvW; simp [r0])
   rw [r0] at s0
   clear r0 hrg b0 HQ HC0
   go_upto_region 7 with fail
   refine wp_swap (c' := Code.region 7 cpgOps true) (by kernel_rfl) ?_
   refine wp_region_noPanic ?_
   refine cpg_g C c B w i (xU HF) _ _ (fun _ _ _ _ _ h => h) ((xU HBX).on (below_drewN _ 1)) (by kernel_rfl) ?_
   intro v s W' hbs
   refine NoPanic.normal ?_
   simp only [frL_eq, frG, List.lookup, Nat.reduceBEq, Nat.reduceAdd, Option.getD_some, Option.getD_none]
   have HBS := xH hbs
   clear hbs
   go_wp2_with fail
   go_ret
   rw [xU HV]; exact xU HBS
 · have HV := xH (show pwW C B.H i c hd = [] from by unfold pwW wayW dvW; simp [r0])
   rw [r0] at s0
   clear r0 hrg HQ HC0 HF
   go_wp2_with fail
   go_ret
   rw [xU HV]
   exact ws_nil (xU HBX).bel'

def fx (n : Nat) (r : Value) : Value := .func (.func n) #[r] #[]
def allV (C H n : Nat) : List Value := fx 107 (pC C) :: (List.range n).map (fun i => fx 108 (rW C H i))
theorem allV_len (C H n : Nat) : (allV C H n).length = n + 1 := by simp [allV]
theorem allV_succ (C H n : Nat) : allV C H (n + 1) = allV C H n ++ [fx 108 (rW C H n)] := by
 unfold allV
 rw [List.range_succ, List.map_append]
 rfl
def allF (C H n : Nat) : List Value := allV C H n ++ [fx 109 (pC C), fx 110 (pC C), fx 111 (pC C)]
theorem Kc.grownC {w W W' : World} {C : Nat} {c : Cw} {B : CrB} (h : Kc w W C c B) (hl : ∀ b, b ∈ CrB.blocks C B → b < w.heap.size) {r : Option Nat} (hg : W.grownBy W' r) (hr : ∀ g, r = some g → w.heap.size ≤ g) : Kc w W' C c B :=
 ⟨h.cr.carry (fun b hb => hg.block b (h.cr.lt b hb) (fun e => by have := hr b e.symm; have := hl b hb; omega)), h.bel.grown hg h.bel.size hr⟩
structure Gf (w W : World) (C : Nat) (c : Cw) (B : CrB) (a : Option Addr) (n cap : Nat) (l : List Value) : Prop where
 kc : Kc w W C c B
 own : W.ownsRow w.heap.size 114 1 (.slice a n cap) n l
 len : n = l.length
theorem Gf.add {w W W' : World} {C : Nat} {c : Cw} {B : CrB} {a a' : Option Addr} {n cap m cap' : Nat} {l xs : List Value} (h : Gf w W C c B a n cap l) (hl : ∀ b, b ∈ CrB.blocks C B → b < w.heap.size) (ob : Obj) (hm : m = xs.length) (ho : W'.ownsRow w.heap.size 114 1 (.slice a' (n + m) cap') (n + m) (l ++ xs)) (hg : (W.alloc ob).grownBy W' (Value.slice a n cap).ownBlock) : Gf w W' C c B a' (n + m) cap' (l ++ xs) :=
 ⟨(h.kc.on ((Below.refl _ _).alloc (Nat.le_refl _) ob)).grownC hl hg (fun g e => (h.own.lt g e).1), ho, by rw [List.length_append, ← h.len, ← hm]⟩
theorem one_own (W : World) (base t : Nat) (v : Value) (hb : base ≤ W.heap.size) : (W.alloc (.cells #[v] t)).ownsRow base t 1 (.slice (some ⟨W.heap.size, 0, none⟩) 1 1) 1 [v] :=
 ⟨rfl, Or.inr ⟨W.heap.size, 1, #[v], rfl, hb, World.heap_alloc_newC _ _, Nat.le_refl _, by unfold maxLen; omega, rfl, rfl⟩⟩
theorem cell_oneV (w : World) (x : Value) (t : TypeId) : ∀ j u, [x][j]? = some u → (w.alloc (.cells #[x] t)).cell? ((⟨w.heap.size, 0, none⟩ : Addr).add j) = some u := by
 intro j u hj
 match j with
 | 0 => simp only [List.getElem?_cons_zero, Option.some.injEq] at hj; subst hj; rw [Addr.add_lit]; simp [go_sem]
 | j + 1 => simp at hj
theorem cell_threeV (w : World) (x y z : Value) (t : TypeId) : ∀ j u, [x, y, z][j]? = some u → (w.alloc (.cells #[x, y, z] t)).cell? ((⟨w.heap.size, 0, none⟩ : Addr).add j) = some u := by
 intro j u hj
 match j with
 | 0 => simp only [List.getElem?_cons_zero, Option.some.injEq] at hj; subst hj; rw [Addr.add_lit]; simp [go_sem]
 | 1 => simp only [List.getElem?_cons_succ, List.getElem?_cons_zero, Option.some.injEq] at hj; subst hj; rw [Addr.add_lit]; simp [go_sem]
 | 2 => simp only [List.getElem?_cons_succ, List.getElem?_cons_zero, Option.some.injEq] at hj; subst hj; rw [Addr.add_lit]; simp [go_sem]
 | j + 3 => simp at hj
theorem infoWayF : (Tryz.prog.info? 114).map (fun i => (i.zero, i.size, i.bytes)) = some (some .nilFunc, 1, 8) := by kernel_rfl
theorem allW_any (C : Nat) (c : Cw) (B : CrB) (w : World) (h : CrAt w C c B) : Calls Tryz.prog 88 #[.pointer (some ⟨C, 0, none⟩)] w fun e w' => ∃ a cap, e = .returned (.slice a (c.hands.length + 4) cap) ∧ Gf w w' C c B a (c.hands.length + 4) cap (allF C B.H c.hands.length) := by
 have HS := xH (Kc.start h)
 have HL := xH h.lt
 have h8 := h.szH.2
 have k4 := h.c4
 obtain ⟨j3, hJ, hW0, hW1, hW2⟩ := info_parts infoWayF
 have HJ := xH hJ; have HW0 := xH hW0; have HW1 := xH hW1; have HW2 := xH hW2
 clear hJ hW0 hW1 hW2 h
 obtain ⟨y, hy⟩ : ∃ y : Nat, y = c.hands.length := ⟨_, rfl⟩
 have HY := xH hy
 rw [← hy] at k4 h8 ⊢
 clear hy
 go_enter Tryz.func88, Tryz.ntmps88
 go_upto_region 2 with fail
 have HG0 := xH (show Gf w (w.alloc (.cells #[.func (.func 107) #[.pointer (some ⟨C, 0, none⟩)] #[]] 114)) C c B (some ⟨w.heap.size, 0, none⟩) 1 1 (allV C B.H 0) from ⟨(xU HS).on ((Below.refl _ _).alloc (Nat.le_refl _) _), one_own w w.heap.size _ _ (Nat.le_refl _), rfl⟩)
 clear HS k4
 generalize w.alloc (.cells #[.func (.func 107) #[.pointer (some ⟨C, 0, none⟩)] #[]] 114) = W0 at HG0 ⊢
 have k4 := (xU HG0).kc.cr.c4
 rw [← xU HY] at k4
 go_wp2_with fail
 clear k4
 go_loopw [3, 13] (fun v i wr => ∃ (k : Nat) (a : Option Addr) (n cap : Nat), k ≤ y ∧ Hid (n = k + 1) ∧ i = .int .i64 k ∧ v = .slice a n cap ∧ Hid (Gf w wr C c B a n cap (allV C B.H k))) (fun _ i _ => y - (intOf i).toNat)
 case atStart => exact ⟨0, _, _, _, Nat.zero_le _, xH rfl, rfl, rfl, HG0⟩
 case round =>
  obtain ⟨k, a, n, cap, hk, HNK, rfl, rfl, HG⟩ := hrel
  have hn9 : n ≤ 9 := by have := HNK.out; omega
  have k4 := HG.out.kc.cr.c4
  rw [← xU HY] at k4
  have HSZ := xH HG.out.kc.bel.size
  by_cases hlt : k < y
  · go_wp2_with (at_builtin; refine append_row _ rfl _ _ 112 rfl w.heap.size 114 j3 .nilFunc 1 8 Tryz.underlying112 (xU HJ) (xU HW0) (xU HW1) (xU HW2) rfl (by decide) (.slice a n cap) n (allV C B.H k) rfl (World.ownsRow.alloc HG.out.own _) ⟨_, 0, none⟩ 1 1 [fx 108 (rW C B.H k)] rfl rfl (cell_oneV _ _ _) (fun u hu => by simp at hu; subst hu; rfl) (by decide) (by unfold maxLen; omega) (by omega) (by have := xU HSZ; simp; omega) ?_; intro v' w8 hown8 hgrow8 hat8; obtain ⟨g8, cap8, rfl, hg1, hg2⟩ := hown8.form (by omega); have HM6 := xH (HG.out.add (xU HL) _ (m := 1) rfl hown8 hgrow8); clear hown8 hgrow8 hat8)
    go_roundw
    case rel => exact ⟨k + 1, _, _, _, by omega, xH (by rw [HNK.out]), by go_num, rfl, by rw [allV_succ]; exact HM6⟩
    case measure => simp [intOf]; omega
  · obtain rfl : k = y := by omega
    go_wp2_with (at_builtin; refine append_row _ rfl _ _ 112 rfl w.heap.size 114 j3 .nilFunc 1 8 Tryz.underlying112 (xU HJ) (xU HW0) (xU HW1) (xU HW2) rfl (by decide) (.slice a n cap) n (allV C B.H k) rfl (World.ownsRow.alloc HG.out.own _) ⟨_, 0, none⟩ 3 3 [fx 109 (pC C), fx 110 (pC C), fx 111 (pC C)] rfl rfl (cell_threeV _ _ _ _ _) (fun u hu => by simp at hu; rcases hu with rfl | rfl | rfl <;> rfl) (by decide) (by unfold maxLen; omega) (by omega) (by have := xU HSZ; simp; omega) ?_; intro v' w8 hown8 hgrow8 hat8; obtain ⟨g8, cap8, rfl, hg1, hg2⟩ := hown8.form (by omega); have HM6 := xH (HG.out.add (xU HL) _ (m := 3) rfl hown8 hgrow8); clear hown8 hgrow8 hat8)
    go_ret
    have hnk := HNK.out
    subst hnk
    exact ⟨_, _, rfl, xU HM6⟩
theorem allF_at (C H n k : Nat) (hk : k < n + 4) : (allF C H n)[k]? = some (if k = 0 then fx 107 (pC C) else if k ≤ n then fx 108 (rW C H (k - 1)) else if k = n + 1 then fx 109 (pC C) else if k = n + 2 then fx 110 (pC C) else fx 111 (pC C)) := by
 unfold allF
 by_cases h : k < n + 1
 · rw [List.getElem?_append_left (by rw [allV_len]; exact h)]
   unfold allV
   cases k with
   | zero => rfl
   | succ k => rw [List.getElem?_cons_succ, List.getElem?_map, List.getElem?_range (by omega), if_neg (by omega), if_pos (by omega)]; rfl
 · rw [List.getElem?_append_right (by rw [allV_len]; omega), allV_len, if_neg (by omega), if_neg (by omega)]
   rcases (show k = n + 1 ∨ k = n + 2 ∨ k = n + 3 by omega) with rfl | rfl | rfl
   · rw [if_pos rfl, show n + 1 - (n + 1) = 0 by omega]; rfl
   · rw [if_neg (by omega), if_pos rfl, show n + 2 - (n + 1) = 1 by omega]; rfl
   · rw [if_neg (by omega), if_neg (by omega), show n + 3 - (n + 1) = 2 by omega]; rfl
theorem own_at {W : World} {base t : Nat} {a : Option Addr} {n cap : Nat} {l : List Value} (h : W.ownsRow base t 1 (.slice a n cap) n l) (k : Nat) (hk : k < n) : ∃ g, a = some ⟨g, 0, none⟩ ∧ base ≤ g ∧ W.cell? ⟨g, k, none⟩ = l[k]? := by
 rcases h.2 with ⟨_, h0⟩ | ⟨g, cap', cur, hv, hgg, hh, hle, hmx, hsz, htk⟩
 · omega
 · simp only [Value.slice.injEq] at hv
   obtain ⟨rfl, -, rfl⟩ := hv
   refine ⟨g, rfl, hgg, ?_⟩
   have hkc : k < cur.size := by omega
   rw [← htk]
   simp [World.cell?, hh, hkc, hk]
end Go.Proofs.YtibgjcejddpldaaGreat
