/- The rest of the works of the program's joins, and ofPair at their table. Conditions: what a work asks for is taken by its contract (a hypothesis). -/
import Derived.Test.YtenpghndgdemnaaGreatDoorPart28
import Derived.BigQuiet
namespace Go.Proofs.YtenpghndgdemnaaGreatDoor
open Go Go.RowKit

noncomputable def jrMOps : Array Oper := fops Tryz.f54 1
theorem jrM_neat : Region.noSelect jrMOps = true ∧ neat jrMOps = true := ⟨by kernel_rfl, by kernel_rfl⟩
set_option maxRecDepth 100000 in
set_option maxHeartbeats 3200000 in
theorem jrM (T A C R : Nat) (path : ByteArray) (c c2 z : C3) (xb xo xc : Nat) (E : World → World → C3 → Value → Prop) (W0 : World) {l : List Value} (Q : Exit → Act → World → Prop) (hQ : ∀ c a d v w, Q (.panic c) (Act.put a d v) w → Q (.panic c) a w) (hA : W0.drew.rowIs A 26 3 (row3 c.c0 c.c1 c.c2)) (hC : W0.drew.rowIs C 26 3 (row3 c2.c0 c2.c1 c2.c2)) (hR : W0.drew.rowIs R 26 3 (row3 (.int .i64 0) (.slice none 0 0) (.slice none 0 0))) (hAR : A ≠ R) (hCR : C ≠ R) (hc1 : c.c2 = .slice (some ⟨xb, xo, none⟩) 1 xc) (hx : K3 W0.drew xb (xo + 0 * 3) z) (hxR : xb ≠ R)
    (HK : Calls Tryz.prog 49 #[.pointer (some ⟨T, 0, none⟩), .agg #[z.c0, z.c1, z.c2], .agg #[c2.c0, c2.c1, c2.c2], .string path] W0.drew fun e w' => Below W0.drew.heap.size W0.drew w' ∧ ∃ (d : C3) (er : Value), e = .returned (.tuple #[.agg #[d.c0, d.c1, d.c2], er]) ∧ Any3 d ∧ E W0.drew w' d er)
    (hl : lookL [(0, .pointer (some ⟨T, 0, none⟩)), (3, .string path), (5, .pointer (some ⟨A, 0, none⟩)), (6, .pointer (some ⟨C, 0, none⟩)), (8, .pointer (some ⟨R, 0, none⟩))] l = (20, ([(0, .pointer (some ⟨T, 0, none⟩)), (3, .string path), (5, .pointer (some ⟨A, 0, none⟩)), (6, .pointer (some ⟨C, 0, none⟩)), (8, .pointer (some ⟨R, 0, none⟩))] : List (Nat × Value)).map (·.2)))
    (hend : ∀ (u : Nat → Value) (W : World) (d : C3) (er : Value), Below W0.drew.heap.size W0.drew W → Any3 d → E W0.drew W d er → Q .normal ⟨(frL u 20 [(8, .pointer (some ⟨R, 0, none⟩)), (9, er)]).toArray, []⟩ (W.setCells R 0 [d.c0, d.c1, d.c2])) : (Code.region 1 jrMOps true).wp Tryz.prog Q ⟨l.toArray, []⟩ W0 := by
  obtain ⟨v0, rfl⟩ := look_fr hl
  have hq : NtQ jrMOps Q := ⟨jrM_neat, hQ⟩
  refine T_start (S := fun W => But R W0.drew W) (by kernel_rfl) (But.refl _ _) ?_
  clear hl hQ
  generalize W0.drew = B at hA hC hR hx HK hend ⊢
  refine T_z hq [0, 1, 6] (by kernel_rfl) ?_
  refine T_a hq [2, 5] (fun w' h => .cons (ldKsJ w' ⟨A, 2, none⟩ (.slice (some ⟨xb, xo, none⟩) 1 xc) (by rw [← hc1]; exact (hA.of_block (h.at hA.lt hAR)).cell (i := 2) (by omega))) (.cons (ldKd w' C _ _ _ (hC.of_block (h.at hC.lt hCR))) Lds.nil)) (by kernel_rfl) ?_
  refine T_yld hq 3 (some 13) (.pointer (some ⟨xb, xo + 0 * 3, none⟩)) (by kernel_rfl) (by kernel_rfl) (fun w _ => ixKdJ (n := 1) (cap := xc) (i := 0) (X := .tmp 12) (I := .const (.int .i64 0)) (by kernel_rfl) (by kernel_rfl) (by kernel_rfl) (by omega) w) ?_
  refine T_a hq [4] (fun w' h => .cons (ldK3 w' _ _ z.c0 z.c1 z.c2 (by rw [World.cell?_of_block (w := B) (h.at hx.1 hxR)]; exact hx.2.1) (by rw [World.cell?_of_block (w := B) (h.at hx.1 hxR)]; exact hx.2.2.1) (by rw [World.cell?_of_block (w := B) (h.at hx.1 hxR)]; exact hx.2.2.2)) Lds.nil) (by kernel_rfl) ?_
  refine T_fr 12 20 [7, 8, 9, 10, 11] [(8, .pointer (some ⟨R, 0, none⟩)), (10, .pointer (some ⟨T, 0, none⟩)), (14, .agg #[z.c0, z.c1, z.c2]), (15, .agg #[c2.c0, c2.c1, c2.c2]), (16, .string path)] (by kernel_rfl) fun u => ?_
  refine T_one 7 (by kernel_rfl) fun _ => ?_
  refine O_go HK (by kernel_rfl) ?_
  rintro e W1 ⟨hb1, d, er, rfl, h3, hE⟩
  have hR1 := hR.of_block (hb1.block _ hR.lt)
  refine ⟨_, rfl, But.of_below hb1, T_z hq [8, 9] (by kernel_rfl) (T_fr 12 20 [10, 11] [(8, .pointer (some ⟨R, 0, none⟩)), (18, .agg #[d.c0, d.c1, d.c2]), (19, er)] (by kernel_rfl) fun u => ?_)⟩
  refine T_one 10 (by kernel_rfl) fun _ => ?_
  have hs3 := set3f W1 R d.c0 d.c1 d.c2
  refine O_store_mid none 26 (.tmp 8) (.tmp 18) R 0 #[d.c0, d.c1, d.c2] (by kernel_rfl) (by kernel_rfl) (by kernel_rfl) (there3f hR1) sizeKd h3.one ((But.of_below hb1).trans hs3.1) ?_
  refine T_z hq [11] (by kernel_rfl) ?_
  exact T_end 20 [(8, .pointer (some ⟨R, 0, none⟩)), (9, er)] (by kernel_rfl) (by kernel_rfl) fun _ u => hend u W1 d er hb1 h3 hE
set_option maxRecDepth 100000 in
set_option maxHeartbeats 3200000 in
theorem ofMaybes_walk (T : Nat) (s : Int) (a1 : Option Addr) (n1 p1 : Nat) (z : C3) (s' : Int) (b1 b2 : Option Addr) (m1 q1 m2 q2 xb xo xc : Nat) (path : ByteArray) (o : Option Kd) (w : World) (hx : K3 w xb (xo + 0 * 3) z)
    (hcall : ∀ W, Below w.heap.size w W → Calls Tryz.prog 49 #[.pointer (some ⟨T, 0, none⟩), .agg #[z.c0, z.c1, z.c2], .agg #[.int .i64 s', .slice b1 m1 q1, .slice b2 m2 q2], .string path] W (JE o W)) :
    Calls Tryz.prog 54 #[.pointer (some ⟨T, 0, none⟩), .agg #[.int .i64 s, .slice a1 n1 p1, .slice (some ⟨xb, xo, none⟩) 1 xc], .agg #[.int .i64 s', .slice b1 m1 q1, .slice b2 m2 q2], .string path] w (JE o w) := by
  have hB := B3.start w (.int .i64 s) (.slice a1 n1 p1) (.slice (some ⟨xb, xo, none⟩) 1 xc) (.int .i64 s') (.slice b1 m1 q1) (.slice b2 m2 q2)
  have HC := hide hcall
  clear hcall
  go_enter Tryz.func54, Tryz.ntmps54
  go_upto_region 1 with fail
  generalize (((w.alloc (.cells #[.int .i64 s, .slice a1 n1 p1, .slice (some ⟨xb, xo, none⟩) 1 xc] 26)).alloc (.cells #[.int .i64 s', .slice b1 m1 q1, .slice b2 m2 q2] 26)).alloc (.cells #[.int .i64 0, .slice none 0 0, .slice none 0 0] 26)) = W0 at hB ⊢
  have hd := hB.below.drew
  have hsz : W0.drew.heap.size = w.heap.size + 3 := hB.size
  refine wp_swap (c' := Code.region 1 jrMOps true) (by kernel_rfl) ?_
  refine wp_region_noPanic ?_
  have ha := hB.a.of_block (w' := W0.drew) rfl
  have hb := hB.b.of_block (w' := W0.drew) rfl
  have hr := hB.r.of_block (w' := W0.drew) rfl
  have hx' : K3 W0.drew xb (xo + 0 * 3) z := ⟨Nat.lt_of_lt_of_le hx.1 hd.size, (hd.cell hx.1).trans hx.2.1, (hd.cell hx.1).trans hx.2.2.1, (hd.cell hx.1).trans hx.2.2.2⟩
  have hxl := hx.1
  have hk : Calls Tryz.prog 49 #[.pointer (some ⟨T, 0, none⟩), .agg #[z.c0, z.c1, z.c2], .agg #[.int .i64 s', .slice b1 m1 q1, .slice b2 m2 q2], .string path] W0.drew fun e w' => Below W0.drew.heap.size W0.drew w' ∧ ∃ (d : C3) (er : Value), e = .returned (.tuple #[.agg #[d.c0, d.c1, d.c2], er]) ∧ Any3 d ∧ JV o W0.drew.heap.size w' d er :=
    (unhide HC _ hd).mono fun e w' ⟨d, er, h1, h2, h3, h4⟩ => ⟨h4, d, er, h1, h2, h3⟩
  refine jrM T w.heap.size (w.heap.size + 1) (w.heap.size + 1 + 1) path ⟨.int .i64 s, .slice a1 n1 p1, .slice (some ⟨xb, xo, none⟩) 1 xc⟩ ⟨.int .i64 s', .slice b1 m1 q1, .slice b2 m2 q2⟩ z xb xo xc (fun V0 V1 d er => JV o V0.heap.size V1 d er) W0 _ (fun _ _ _ _ _ h => h) ha hb hr (by omega) (by omega) rfl hx' (by omega) (by with_reducible exact hk) (by kernel_rfl) ?_
  rintro u W d er hW ⟨s0, d1, d2, k1, r1, k2, r2, rfl⟩ hJ
  refine NoPanic.normal ?_
  simp only [frL_eq, frG, List.lookup, Nat.reduceBEq, Nat.reduceAdd, Option.getD_some, Option.getD_none]
  have hr1 := hr.of_block (hW.block _ hr.lt)
  have hWw : Below w.heap.size w W := hd.trans (hW.mono hd.size)
  have HE := hide (JE.put (hJ.low (k := w.heap.size + 3) (by omega)) (any3_mk _ _ _ _ _ _ _) hWw (R := w.heap.size + 1 + 1) (by omega) (by omega))
  have hrow := (set3f W (w.heap.size + 1 + 1) (.int .i64 s0) (.slice d1 k1 r1) (.slice d2 k2 r2)).2 _ _ hr1
  have e3 : W.setCells (w.heap.size + 1 + 1) 0 [.int .i64 s0, .slice d1 k1 r1, .slice d2 k2 r2] = ((W.setCell ⟨w.heap.size + 1 + 1, 0, none⟩ (.int .i64 s0)).setCell ⟨w.heap.size + 1 + 1, 1, none⟩ (.slice d1 k1 r1)).setCell ⟨w.heap.size + 1 + 1, 2, none⟩ (.slice d2 k2 r2) := rfl
  rw [← e3] at HE
  generalize W.setCells (w.heap.size + 1 + 1) 0 [.int .i64 s0, .slice d1 k1 r1, .slice d2 k2 r2] = X at HE hrow ⊢
  have m0 := hrow.cell (i := 0) (by omega); have m1' := hrow.cell (i := 1) (by omega); have m2' := hrow.cell (i := 2) (by omega)
  simp only [row3] at m0 m1' m2'
  clear hr1 hWw hW hJ hk hx' ha hb hr hB hd hrow e3 HC hx
  go_wp2_with fail
  refine bodyPost_ret (v := .tuple #[.agg #[.int .i64 s0, .slice d1 k1 r1, .slice d2 k2 r2], er]) (by simp [results, Tryz.results54, go_sem, m0, m1', m2']) rfl (unhide HE)
set_option maxRecDepth 100000 in
set_option maxHeartbeats 3200000 in
theorem io1_walk (T f : Nat) (s s' : Int) (a1 a2 b1 b2 : Option Addr) (n1 p1 n2 p2 m1 q1 m2 q2 : Nat) (path : ByteArray) (bx : Nat) (o : Option Kd) (w : World) (hbx : w.cell? ⟨bx, 0, none⟩ = some (jv T f)) (hcf : ∀ args w, (callFunc f args).run Tryz.prog w = .ok (.enter f args) w)
    (hf : ∀ W, Below w.heap.size w W → Calls Tryz.prog f #[.pointer (some ⟨T, 0, none⟩), .agg #[.int .i64 s', .slice b1 m1 q1, .slice b2 m2 q2], .agg #[.int .i64 s, .slice a1 n1 p1, .slice a2 n2 p2], .string path] W (JE o W)) :
    Calls Tryz.prog 71 #[.agg #[.int .i64 s, .slice a1 n1 p1, .slice a2 n2 p2], .agg #[.int .i64 s', .slice b1 m1 q1, .slice b2 m2 q2], .string path, .pointer (some ⟨bx, 0, none⟩)] w (JE o w) := by
  have hB := B3.start w (.int .i64 s) (.slice a1 n1 p1) (.slice a2 n2 p2) (.int .i64 s') (.slice b1 m1 q1) (.slice b2 m2 q2)
  have HF := hide hf
  have hbl := World.block_lt_of_cell? w _ hbx
  clear hf
  have hbx0 := hB.below.cell (p := ⟨bx, 0, none⟩) hbl
  rw [hbx] at hbx0
  unfold jv at hbx0
  clear hbx
  go_enter Tryz.func71, Tryz.ntmps71
  go_upto_region 1 with fail
  generalize (((w.alloc (.cells #[.int .i64 s, .slice a1 n1 p1, .slice a2 n2 p2] 26)).alloc (.cells #[.int .i64 s', .slice b1 m1 q1, .slice b2 m2 q2] 26)).alloc (.cells #[.int .i64 0, .slice none 0 0, .slice none 0 0] 26)) = W0 at hB hbx0 ⊢
  obtain ⟨x0, x1, x2⟩ : W0.cell? ⟨w.heap.size, 0, none⟩ = some (.int .i64 s) ∧ W0.cell? ⟨w.heap.size, 1, none⟩ = some (.slice a1 n1 p1) ∧ W0.cell? ⟨w.heap.size, 2, none⟩ = some (.slice a2 n2 p2) := ⟨hB.a.cell (i := 0) (by omega), hB.a.cell (i := 1) (by omega), hB.a.cell (i := 2) (by omega)⟩
  obtain ⟨y0, y1, y2⟩ : W0.cell? ⟨w.heap.size + 1, 0, none⟩ = some (.int .i64 s') ∧ W0.cell? ⟨w.heap.size + 1, 1, none⟩ = some (.slice b1 m1 q1) ∧ W0.cell? ⟨w.heap.size + 1, 2, none⟩ = some (.slice b2 m2 q2) := ⟨hB.b.cell (i := 0) (by omega), hB.b.cell (i := 1) (by omega), hB.b.cell (i := 2) (by omega)⟩
  have hBB := hB.below
  have hsz := hB.size
  go_wp2_with fail
  refine (unhide HF W0 hBB).mono ?_
  rintro e W ⟨d, er, rfl, ⟨s0, d1, d2, k1, r1, k2, r2, rfl⟩, hJ, hb⟩
  have hWw : Below w.heap.size w W := hBB.trans (hb.mono hBB.size)
  have hr := hB.r.of_block (hb.block _ (by omega))
  have m0 := hr.cell (i := 0) (by omega); have m1' := hr.cell (i := 1) (by omega); have m2' := hr.cell (i := 2) (by omega); have mf := hr.frozen
  simp only [row3] at m0 m1' m2'
  have HE := hide (JE.put (hJ.low (k := w.heap.size + 3) (by omega)) (any3_mk _ _ _ _ _ _ _) hWw (R := w.heap.size + 1 + 1) (by omega) (by omega))
  clear hWw hr hJ hb hB hBB HF
  go_wp2_with fail
  refine bodyPost_ret (v := .tuple #[.agg #[.int .i64 s0, .slice d1 k1 r1, .slice d2 k2 r2], er]) (by simp [results, Tryz.results71, go_sem, m0, m1', m2']) rfl (unhide HE)
theorem eqNilJ (w : World) : (binOp .eql 50 .nilFunc .nilFunc).run Tryz.prog w = .ok (.bool true) w := by kernel_rfl
theorem eqFunJ (fn : Fn) (a b : Array Value) (w : World) : (binOp .eql 50 (.func fn a b) .nilFunc).run Tryz.prog w = .ok (.bool false) w := by kernel_rfl
theorem gNilJ (x y : Operand) (w : World) : (eqGuard .eql 50 x y .nilFunc .nilFunc).run Tryz.prog w = .ok () w := by kernel_rfl
theorem gFunJ (x y : Operand) (fn : Fn) (a b : Array Value) (w : World) : (eqGuard .eql 50 x y (.func fn a b) .nilFunc).run Tryz.prog w = .ok () w := by kernel_rfl
set_option maxRecDepth 100000 in
set_option maxHeartbeats 3200000 in
theorem ofPairJ_no (T : Nat) (sa sb : Nat) (a1 a2 b1 b2 : Option Addr) (n1 p1 n2 p2 m1 q1 m2 q2 : Nat) (hsa : sa ≤ 6) (hsb : sb ≤ 6)  (path : ByteArray) (o : Option Kd) (w : World) (hT : JT w T) (hent : jEnt T sa sb = .nilFunc)
    (ho : o = none) :
    Calls Tryz.prog 55 #[.pointer (some ⟨T, 0, none⟩), .agg #[.int .i64 sa, .slice a1 n1 p1, .slice a2 n2 p2], .agg #[.int .i64 sb, .slice b1 m1 q1, .slice b2 m2 q2], .string path] w (JE o w) := by
  have hB := B3.start w (.int .i64 sa) (.slice a1 n1 p1) (.slice a2 n2 p2) (.int .i64 sb) (.slice b1 m1 q1) (.slice b2 m2 q2)
  have htc := (hT.on hB.below).cell' hsa hsb
  rw [hent] at htc
  have g1 : (0 : Int) ≤ (sa : Int) := by omega
  have g2 : (sa : Int) < 7 := by omega
  have g3 : (0 : Int) ≤ (sb : Int) := by omega
  have g4 : (sb : Int) < 7 := by omega
  have eq1 := eqNilJ; have eq2 := gNilJ
  clear hent hT hsa hsb
  go_enter Tryz.func55, Tryz.ntmps55
  go_upto_region 1 with fail
  generalize (((w.alloc (.cells #[.int .i64 sa, .slice a1 n1 p1, .slice a2 n2 p2] 26)).alloc (.cells #[.int .i64 sb, .slice b1 m1 q1, .slice b2 m2 q2] 26)).alloc (.cells #[.int .i64 0, .slice none 0 0, .slice none 0 0] 26)) = W0 at hB htc ⊢
  obtain ⟨x0, x1, x2⟩ : W0.cell? ⟨w.heap.size, 0, none⟩ = some (.int .i64 sa) ∧ W0.cell? ⟨w.heap.size, 1, none⟩ = some (.slice a1 n1 p1) ∧ W0.cell? ⟨w.heap.size, 2, none⟩ = some (.slice a2 n2 p2) := ⟨hB.a.cell (i := 0) (by omega), hB.a.cell (i := 1) (by omega), hB.a.cell (i := 2) (by omega)⟩
  obtain ⟨y0, y1, y2⟩ : W0.cell? ⟨w.heap.size + 1, 0, none⟩ = some (.int .i64 sb) ∧ W0.cell? ⟨w.heap.size + 1, 1, none⟩ = some (.slice b1 m1 q1) ∧ W0.cell? ⟨w.heap.size + 1, 2, none⟩ = some (.slice b2 m2 q2) := ⟨hB.b.cell (i := 0) (by omega), hB.b.cell (i := 1) (by omega), hB.b.cell (i := 2) (by omega)⟩
  have hBB := hB.below
  have hsz := hB.size
  have m0 := hB.r.cell (i := 0) (by omega); have m1' := hB.r.cell (i := 1) (by omega); have m2' := hB.r.cell (i := 2) (by omega); have mf := hB.r.frozen
  simp only [row3] at m0 m1' m2'
  have HBB := hide hBB
  subst ho
  clear hB hBB
  go_quiet (fail)
  go_wp2_with fail
  go_region
  go_wp2_with fail
  refine bodyPost_ret (v := .tuple #[.agg #[.int .i64 0, .slice none 0 0, .slice none 0 0], .iface 91 (.agg #[.int .i64 sa, .int .i64 sb, .string path])]) (by simp [results, Tryz.results55, go_sem, m0, m1', m2', hsz]) rfl ?_
  have h3 := below3 (below_drewN (unhide HBB) nq) (R := w.heap.size + 1 + 1) (by omega) (.int .i64 0) (.slice none 0 0) (.slice none 0 0)
  exact ⟨⟨.int .i64 0, .slice none 0 0, .slice none 0 0⟩, _, rfl, any3_mk _ _ _ _ _ _ _, Or.inr ⟨rfl, _, _, _, rfl⟩, (h3.alloc h3.size _).drew⟩
set_option maxRecDepth 100000 in
set_option maxHeartbeats 3200000 in
theorem ofPairJ_do (T : Nat) (sa sb : Nat) (a1 a2 b1 b2 : Option Addr) (n1 p1 n2 p2 m1 q1 m2 q2 : Nat) (hsa : sa ≤ 6) (hsb : sb ≤ 6) (f : Nat) (path : ByteArray) (o : Option Kd) (w : World) (hT : JT w T) (hent : jEnt T sa sb = jv T f)
    (hcf : ∀ args w, (callFunc f args).run Tryz.prog w = .ok (.enter f args) w)
    (hf : ∀ W, Below w.heap.size w W → Calls Tryz.prog f #[.pointer (some ⟨T, 0, none⟩), .agg #[.int .i64 sa, .slice a1 n1 p1, .slice a2 n2 p2], .agg #[.int .i64 sb, .slice b1 m1 q1, .slice b2 m2 q2], .string path] W (JE o W)) :
    Calls Tryz.prog 55 #[.pointer (some ⟨T, 0, none⟩), .agg #[.int .i64 sa, .slice a1 n1 p1, .slice a2 n2 p2], .agg #[.int .i64 sb, .slice b1 m1 q1, .slice b2 m2 q2], .string path] w (JE o w) := by
  have hB := B3.start w (.int .i64 sa) (.slice a1 n1 p1) (.slice a2 n2 p2) (.int .i64 sb) (.slice b1 m1 q1) (.slice b2 m2 q2)
  have htc := (hT.on hB.below).cell' hsa hsb
  rw [hent] at htc
  have g1 : (0 : Int) ≤ (sa : Int) := by omega
  have g2 : (sa : Int) < 7 := by omega
  have g3 : (0 : Int) ≤ (sb : Int) := by omega
  have g4 : (sb : Int) < 7 := by omega
  have eq1 := eqFunJ; have eq2 := gFunJ
  unfold jv at htc
  have HF := hide hf
  clear hent hT hsa hsb hf
  go_enter Tryz.func55, Tryz.ntmps55
  go_upto_region 1 with fail
  generalize (((w.alloc (.cells #[.int .i64 sa, .slice a1 n1 p1, .slice a2 n2 p2] 26)).alloc (.cells #[.int .i64 sb, .slice b1 m1 q1, .slice b2 m2 q2] 26)).alloc (.cells #[.int .i64 0, .slice none 0 0, .slice none 0 0] 26)) = W0 at hB htc ⊢
  obtain ⟨x0, x1, x2⟩ : W0.cell? ⟨w.heap.size, 0, none⟩ = some (.int .i64 sa) ∧ W0.cell? ⟨w.heap.size, 1, none⟩ = some (.slice a1 n1 p1) ∧ W0.cell? ⟨w.heap.size, 2, none⟩ = some (.slice a2 n2 p2) := ⟨hB.a.cell (i := 0) (by omega), hB.a.cell (i := 1) (by omega), hB.a.cell (i := 2) (by omega)⟩
  obtain ⟨y0, y1, y2⟩ : W0.cell? ⟨w.heap.size + 1, 0, none⟩ = some (.int .i64 sb) ∧ W0.cell? ⟨w.heap.size + 1, 1, none⟩ = some (.slice b1 m1 q1) ∧ W0.cell? ⟨w.heap.size + 1, 2, none⟩ = some (.slice b2 m2 q2) := ⟨hB.b.cell (i := 0) (by omega), hB.b.cell (i := 1) (by omega), hB.b.cell (i := 2) (by omega)⟩
  have hBB := hB.below
  have hsz := hB.size
  go_quiet (fail)
  go_wp2_with fail
  refine (unhide HF _ (below_drewN hBB _)).mono ?_
  have hdn : (W0.drewN nq).heap.size = w.heap.size + 3 := hsz
  rintro e W ⟨d, er, rfl, ⟨s0, d1, d2, k1, r1, k2, r2, rfl⟩, hJ, hb⟩
  have hWw : Below w.heap.size w W := (below_drewN hBB nq).trans (hb.mono (below_drewN hBB nq).size)
  have hr := (hB.r.of_block (w' := W0.drewN nq) rfl).of_block (hb.block _ (by omega))
  have m0 := hr.cell (i := 0) (by omega); have m1' := hr.cell (i := 1) (by omega); have m2' := hr.cell (i := 2) (by omega); have mf := hr.frozen
  simp only [row3] at m0 m1' m2'
  have HE := hide (JE.put (hJ.low (k := w.heap.size + 3) (by omega)) (any3_mk _ _ _ _ _ _ _) hWw (R := w.heap.size + 1 + 1) (by omega) (by omega))
  clear hWw hr hJ hb hB hBB HF
  go_wp2_with fail
  refine bodyPost_ret (v := .tuple #[.agg #[.int .i64 s0, .slice d1 k1 r1, .slice d2 k2 r2], er]) (by simp [results, Tryz.results55, go_sem, m0, m1', m2']) rfl (unhide HE)
set_option maxRecDepth 100000 in
set_option maxHeartbeats 3200000 in
theorem ofPairJ_turn (T : Nat) (sa sb : Nat) (a1 a2 b1 b2 : Option Addr) (n1 p1 n2 p2 m1 q1 m2 q2 : Nat) (hsa : sa ≤ 6) (hsb : sb ≤ 6) (bx : Nat) (path : ByteArray) (o : Option Kd) (w : World) (hT : JT w T) (hent : jEnt T sa sb = jc bx)
    (hf : ∀ W, Below w.heap.size w W → Calls Tryz.prog 71 #[.agg #[.int .i64 sa, .slice a1 n1 p1, .slice a2 n2 p2], .agg #[.int .i64 sb, .slice b1 m1 q1, .slice b2 m2 q2], .string path, .pointer (some ⟨bx, 0, none⟩)] W (JE o W)) :
    Calls Tryz.prog 55 #[.pointer (some ⟨T, 0, none⟩), .agg #[.int .i64 sa, .slice a1 n1 p1, .slice a2 n2 p2], .agg #[.int .i64 sb, .slice b1 m1 q1, .slice b2 m2 q2], .string path] w (JE o w) := by
  have hB := B3.start w (.int .i64 sa) (.slice a1 n1 p1) (.slice a2 n2 p2) (.int .i64 sb) (.slice b1 m1 q1) (.slice b2 m2 q2)
  have htc := (hT.on hB.below).cell' hsa hsb
  rw [hent] at htc
  have g1 : (0 : Int) ≤ (sa : Int) := by omega
  have g2 : (sa : Int) < 7 := by omega
  have g3 : (0 : Int) ≤ (sb : Int) := by omega
  have g4 : (sb : Int) < 7 := by omega
  have eq1 := eqFunJ; have eq2 := gFunJ
  have hcf : ∀ args w, (callFunc 71 args).run Tryz.prog w = .ok (.enter 71 args) w := fun args w => enters_of Tryz.func71 (by kernel_rfl) rfl args w
  unfold jc at htc
  have HF := hide hf
  clear hent hT hsa hsb hf
  go_enter Tryz.func55, Tryz.ntmps55
  go_upto_region 1 with fail
  generalize (((w.alloc (.cells #[.int .i64 sa, .slice a1 n1 p1, .slice a2 n2 p2] 26)).alloc (.cells #[.int .i64 sb, .slice b1 m1 q1, .slice b2 m2 q2] 26)).alloc (.cells #[.int .i64 0, .slice none 0 0, .slice none 0 0] 26)) = W0 at hB htc ⊢
  obtain ⟨x0, x1, x2⟩ : W0.cell? ⟨w.heap.size, 0, none⟩ = some (.int .i64 sa) ∧ W0.cell? ⟨w.heap.size, 1, none⟩ = some (.slice a1 n1 p1) ∧ W0.cell? ⟨w.heap.size, 2, none⟩ = some (.slice a2 n2 p2) := ⟨hB.a.cell (i := 0) (by omega), hB.a.cell (i := 1) (by omega), hB.a.cell (i := 2) (by omega)⟩
  obtain ⟨y0, y1, y2⟩ : W0.cell? ⟨w.heap.size + 1, 0, none⟩ = some (.int .i64 sb) ∧ W0.cell? ⟨w.heap.size + 1, 1, none⟩ = some (.slice b1 m1 q1) ∧ W0.cell? ⟨w.heap.size + 1, 2, none⟩ = some (.slice b2 m2 q2) := ⟨hB.b.cell (i := 0) (by omega), hB.b.cell (i := 1) (by omega), hB.b.cell (i := 2) (by omega)⟩
  have hBB := hB.below
  have hsz := hB.size
  go_quiet (fail)
  go_wp2_with fail
  refine (unhide HF _ (below_drewN hBB _)).mono ?_
  have hdn : (W0.drewN nq).heap.size = w.heap.size + 3 := hsz
  rintro e W ⟨d, er, rfl, ⟨s0, d1, d2, k1, r1, k2, r2, rfl⟩, hJ, hb⟩
  have hWw : Below w.heap.size w W := (below_drewN hBB nq).trans (hb.mono (below_drewN hBB nq).size)
  have hr := (hB.r.of_block (w' := W0.drewN nq) rfl).of_block (hb.block _ (by omega))
  have m0 := hr.cell (i := 0) (by omega); have m1' := hr.cell (i := 1) (by omega); have m2' := hr.cell (i := 2) (by omega); have mf := hr.frozen
  simp only [row3] at m0 m1' m2'
  have HE := hide (JE.put (hJ.low (k := w.heap.size + 3) (by omega)) (any3_mk _ _ _ _ _ _ _) hWw (R := w.heap.size + 1 + 1) (by omega) (by omega))
  clear hWw hr hJ hb hB hBB HF
  go_wp2_with fail
  refine bodyPost_ret (v := .tuple #[.agg #[.int .i64 s0, .slice d1 k1 r1, .slice d2 k2 r2], er]) (by simp [results, Tryz.results55, go_sem, m0, m1', m2']) rfl (unhide HE)
end Go.Proofs.YtenpghndgdemnaaGreatDoor
