/- The specification's l3Fits: the drawn regions in which the schema of a name is looked up. No conditions. -/
import Derived.Test.YtcpfelaffclalaaGreatDoorPart01
import Derived.Test.YtcpfelaffclalaaGreatDoorPart05
import Derived.Test.YtcpfelaffclalaaGreatDoorRows
import Derived.Test.YtcpfelaffclalaaGreatDoorPart00
import Derived.Deep.RegionWith
import Derived.Deep.QuietTactic
import Derived.BigQuiet
import Derived.WalkSmall
namespace Go.Proofs.YtcpfelaffclalaaGreatDoor
open Go Go.RowKit

theorem sizeKd : (Tryz.prog.info? 30).map (·.size) = some 3 := by kernel_rfl
theorem ldKd (w : World) (b : Nat) (x y z : Value) (h : w.rowIs b 30 3 (row3 x y z)) : (Instr.loadAt 30 (.pointer (some ⟨b, 0, none⟩))).run Tryz.prog w = .ok (.agg #[x, y, z]) w := by
  have h0 := h.cell (i := 0) (by omega); have h1 := h.cell (i := 1) (by omega); have h2 := h.cell (i := 2) (by omega)
  simp only [row3] at h0 h1 h2
  have hr : w.rangeAt b 0 [x, y, z] := fun j v hv => by
    rw [Nat.zero_add]
    match j, hv with
    | 0, hv => simp at hv; subst hv; exact h0
    | 1, hv => simp at hv; subst hv; exact h1
    | 2, hv => simp at hv; subst hv; exact h2
    | j + 3, hv => simp at hv
  unfold Instr.loadAt
  simp only [Instr.sureAddr, Sem.run_bind, Sem.run_pure, Result.andThen_ok, run_loadVar_mid w b 0 30 [x, y, z] _ hr Tryz.underlying30 rfl sizeKd]
theorem ldStrsF (w : World) (ad : Addr) (v : Value) (h : w.cell? ad = some v) : (Instr.loadAt 22 (.pointer (some ad))).run Tryz.prog w = .ok v w := by
  simp [Instr.loadAt, Instr.sureAddr, loadVar, Tryz.isAgg22, h, go_sem]
theorem ldStrF (w : World) (ad : Addr) (v : Value) (h : w.cell? ad = some v) : (Instr.loadAt 9 (.pointer (some ad))).run Tryz.prog w = .ok v w := by
  simp [Instr.loadAt, Instr.sureAddr, loadVar, Tryz.isAgg9, h, go_sem]
theorem ixRunF {o : Oper} {a : Act} {X I : Operand} {g p n cap i : Nat} (ho : o.op = .indexAddr 22 X I) (hx : a.eval X = .slice (some ⟨g, p, none⟩) n cap) (hi : a.eval I = .int .i64 (i : Nat)) (h : i < n) (w : World) : (execOp a.eval o).run Tryz.prog w = .ok (.value (.pointer (some ⟨g, p + i, none⟩))) w := by
  have h1 : (0 : Int) ≤ (i : Int) ∧ (i : Int) < (n : Int) := ⟨by omega, by omega⟩
  have h2 : (Instr.indexAt 22 (.slice (some ⟨g, p, none⟩) n cap) (.int .i64 (i : Nat))).run Tryz.prog w = .ok (.pointer (some ⟨g, p + i, none⟩)) w := by
    have e : (⟨g, p + i, none⟩ : Addr) = (⟨g, p, none⟩ : Addr).add i := by simp [Addr.add]
    rw [e]
    simp [go_sem, h1]
  unfold execOp
  simp only [ho, hx, hi, Sem.run_bind, Sem.run_pure, Result.andThen_ok, h2]
theorem set3f (W : World) (b : Nat) (x y z : Value) : But b W (W.setCells b 0 [x, y, z]) ∧ (∀ T f, W.rowIs b T 3 f → (W.setCells b 0 [x, y, z]).rowIs b T 3 (row3 x y z)) := by
  show But b W (((W.setCell ⟨b, 0, none⟩ x).setCell ⟨b, 1, none⟩ y).setCell ⟨b, 2, none⟩ z) ∧ (∀ T f, W.rowIs b T 3 f → (((W.setCell ⟨b, 0, none⟩ x).setCell ⟨b, 1, none⟩ y).setCell ⟨b, 2, none⟩ z).rowIs b T 3 (row3 x y z))
  exact ⟨((But.set W 0 x).trans (But.set _ 1 y)).trans (But.set _ 2 z), fun T f h => (((h.set 0 x).set 1 y).set 2 z).congr (fun i hi => by rcases (show i = 0 ∨ i = 1 ∨ i = 2 by omega) with rfl | rfl | rfl <;> rfl)⟩
theorem there3f {w : World} {b : Nat} {T : TypeId} {n : Nat} {f : Nat → Value} (h : w.rowIs b T n f) : w.there b 0 n := fun j hj => by
  rw [Nat.zero_add]
  exact ⟨by rw [h.cell hj]; rfl, h.frozen j⟩
theorem below_boxf {B W : World} {g : Nat} (h : Below B.heap.size B W) (hg : B.heap.size ≤ g) {W' : World} (hb : But g W W') : Below B.heap.size B W' := h.trans ⟨hb.os, hb.tape, hb.output, hb.size, fun i hi => hb.at (by have := h.size; omega) (by omega)⟩
theorem below_onf {B W W' : World} (h : Below B.heap.size B W) (hb : Below W.heap.size W W') : Below B.heap.size B W' := h.trans (hb.mono h.size)
def kp12 (z : Nat → Value) : List (Nat × Value) := [0, 1, 4, 8, 9, 10, 11, 12, 13, 14, 15, 16, 17, 18, 19, 20, 21, 22, 23, 24, 25, 26, 27, 28, 29, 30, 31, 32, 33, 34, 35, 36, 37, 38, 39, 40, 41, 42, 43, 44, 45, 46, 47, 48, 49, 50, 51, 52, 53, 54, 55, 66, 67, 68, 69, 70, 71, 72, 73, 74, 75, 76, 77, 78, 79, 80, 81, 82, 83, 84, 85, 86, 87, 88, 89, 90, 91, 92, 93, 94, 95, 96, 97, 98, 99, 100, 101, 102, 103, 104, 105].map fun i => (i, z i)
noncomputable def ft12Ops : Array Oper := fops Tryz.f25 12
theorem ft12_neat : Region.noSelect ft12Ops = true ∧ neat ft12Ops = true := ⟨by kernel_rfl, by kernel_rfl⟩
set_option maxRecDepth 100000 in
set_option maxHeartbeats 3200000 in
theorem ft12z (z : Nat → Value) (LL : (Nat → Value) → Nat → Bool → List Value) (A C : Nat) (c0 c1 c2 n0 n2 : Value) (nb no len cap i : Nat) (nm : ByteArray) (G : Value → Value → Value → Bool → Prop) (W0 : World) {l : List Value} (Q : Exit → Act → World → Prop) (hQ : ∀ c a d v w, Q (.panic c) (Act.put a d v) w → Q (.panic c) a w) (hA : W0.drew.rowIs A 30 3 (row3 n0 (.slice (some ⟨nb, no, none⟩) len cap) n2)) (hC : W0.drew.rowIs C 30 3 (row3 c0 c1 c2)) (hi : i < len) (hc : W0.drew.cell? ⟨nb, no + i, none⟩ = some (.string nm)) (hone : ∀ y0 y1 y2 ok, G y0 y1 y2 ok → (#[y0, y1, y2] : Array Value).all (·.oneCell') = true) (HK : ∀ W, Below W0.drew.heap.size W0.drew W → Calls Tryz.prog 51 #[.agg #[c0, c1, c2], .string nm] W fun e w' => Below W.heap.size W w' ∧ ∃ y0 y1 y2 ok, e = .returned (.tuple #[.agg #[y0, y1, y2], .bool ok]) ∧ G y0 y1 y2 ok) (hl : lookL (kp12 z ++ [(2, .pointer (some ⟨A, 0, none⟩)), (3, .pointer (some ⟨C, 0, none⟩)), (5, .int .i64 (i : Nat))]) l = (106, (kp12 z ++ [(2, .pointer (some ⟨A, 0, none⟩)), (3, .pointer (some ⟨C, 0, none⟩)), (5, .int .i64 (i : Nat))] : List (Nat × Value)).map (·.2))) (hfr : ∀ (u : Nat → Value) (g : Nat) (ok : Bool), frL u 106 (kp12 z ++ [(2, .pointer (some ⟨A, 0, none⟩)), (3, .pointer (some ⟨C, 0, none⟩)), (5, .int .i64 (i : Nat)), (6, .pointer (some ⟨g, 0, none⟩)), (7, .bool ok)]) = LL u g ok)
    (hend : ∀ (u : Nat → Value) (y0 y1 y2 : Value) (ok : Bool) (g : Nat) (W' : World), Below W0.drew.heap.size W0.drew W' → W'.rowIs g 30 3 (row3 y0 y1 y2) → W0.drew.heap.size ≤ g → G y0 y1 y2 ok → Q .normal ⟨(LL u g ok).toArray, []⟩ W') : (Code.region 12 ft12Ops true).wp Tryz.prog Q ⟨l.toArray, []⟩ W0 := by
  obtain ⟨v0, rfl⟩ := look_fr hl
  have hq : NtQ ft12Ops Q := ⟨ft12_neat, hQ⟩
  refine T_start (S := fun W => Below W0.drew.heap.size W0.drew W) (by kernel_rfl) (Below.refl _ _) ?_
  clear hl hQ
  have hcl := World.block_lt_of_cell? W0.drew _ hc
  generalize W0.drew = B at hA hC hc hcl HK hend ⊢
  have Q1 : ∀ (u : Nat → Value) (W : World) (hW : Below B.heap.size B W) (g : Nat) (hg : W.rowIs g 30 3 (row3 (.int .i64 0) (.slice none 0 0) (.slice none 0 0))) (hgb : B.heap.size ≤ g) (y0 y1 y2 : Value) (ok : Bool) (hG : G y0 y1 y2 ok) , wpS Tryz.prog ft12Ops Q (fun W => Below B.heap.size B W) (unl 13 [11, 12], frL u 106 (kp12 z ++ [(2, .pointer (some ⟨A, 0, none⟩)), (3, .pointer (some ⟨C, 0, none⟩)), (5, .int .i64 (i : Nat)), (6, .pointer (some ⟨g, 0, none⟩)), (64, .agg #[y0, y1, y2]), (65, .bool ok)])) [] W := by
    intro u W hW g hg hgb y0 y1 y2 ok hG 
    refine T_one 11 (by kernel_rfl) fun _ => ?_
    have hs3 := set3f W g y0 y1 y2
    have hW2 := below_boxf hW hgb hs3.1
    refine O_store_mid none 30 (.tmp 6) (.tmp 64) g 0 #[y0, y1, y2] (by kernel_rfl) (by kernel_rfl) (by kernel_rfl) (there3f hg) sizeKd (hone _ _ _ _ hG) hW2 ?_
    refine T_z hq [12] (by kernel_rfl) ?_
    exact T_end 106 (kp12 z ++ [(2, .pointer (some ⟨A, 0, none⟩)), (3, .pointer (some ⟨C, 0, none⟩)), (5, .int .i64 (i : Nat)), (6, .pointer (some ⟨g, 0, none⟩)), (7, .bool ok)]) (by kernel_rfl) (by kernel_rfl) fun _ u => by rw [hfr]; exact hend u y0 y1 y2 ok g _ hW2 (hs3.2 _ _ hg) hgb hG
  have P1 : ∀ (u : Nat → Value) (W : World) (hW : Below B.heap.size B W) (y0 y1 y2 : Value) (ok : Bool) (hG : G y0 y1 y2 ok) , wpS Tryz.prog ft12Ops Q (fun W => Below B.heap.size B W) (unl 13 [10, 11, 12], frL u 106 (kp12 z ++ [(2, .pointer (some ⟨A, 0, none⟩)), (3, .pointer (some ⟨C, 0, none⟩)), (5, .int .i64 (i : Nat)), (64, .agg #[y0, y1, y2]), (65, .bool ok)])) [] W := by
    intro u W hW y0 y1 y2 ok hG 
    refine T_one 10 (by kernel_rfl) fun _ => ?_
    exact O_val (w' := W.alloc (.cells #[.int .i64 0, .slice none 0 0, .slice none 0 0] 30)) (some 6) (.pointer (some ⟨W.heap.size, 0, none⟩)) (by kernel_rfl) (by kernel_rfl) (hW.alloc hW.size _) (T_fr 13 106 [11, 12] (kp12 z ++ [(2, .pointer (some ⟨A, 0, none⟩)), (3, .pointer (some ⟨C, 0, none⟩)), (5, .int .i64 (i : Nat)), (6, .pointer (some ⟨W.heap.size, 0, none⟩)), (64, .agg #[y0, y1, y2]), (65, .bool ok)]) (by kernel_rfl) fun u => Q1 u _ (hW.alloc hW.size _) _ (row3_alloc W _ _ _ _) hW.size y0 y1 y2 ok hG )
  have Q0 : ∀ (u : Nat → Value) (W : World) (hW : Below B.heap.size B W) (g : Nat) (hg : W.rowIs g 30 3 (row3 (.int .i64 0) (.slice none 0 0) (.slice none 0 0))) (hgb : B.heap.size ≤ g) , wpS Tryz.prog ft12Ops Q (fun W => Below B.heap.size B W) (unl 13 [6, 7, 8, 9, 11, 12], frL u 106 (kp12 z ++ [(2, .pointer (some ⟨A, 0, none⟩)), (3, .pointer (some ⟨C, 0, none⟩)), (5, .int .i64 (i : Nat)), (6, .pointer (some ⟨g, 0, none⟩)), (57, .agg #[c0, c1, c2]), (62, .string nm)])) [] W := by
    intro u W hW g hg hgb
    refine T_one 6 (by kernel_rfl) fun _ => ?_
    · refine O_go (HK W hW) (by kernel_rfl) ?_
      rintro e W1 ⟨hb1, y0, y1, y2, ok, rfl, hG⟩
      exact ⟨_, rfl, below_onf hW hb1, T_z hq [7, 8, 9] (by kernel_rfl) (T_fr 13 106 [11, 12] (kp12 z ++ [(2, .pointer (some ⟨A, 0, none⟩)), (3, .pointer (some ⟨C, 0, none⟩)), (5, .int .i64 (i : Nat)), (6, .pointer (some ⟨g, 0, none⟩)), (64, .agg #[y0, y1, y2]), (65, .bool ok)]) (by kernel_rfl) fun u => Q1 u W1 (below_onf hW hb1) g (hg.of_block (hb1.block _ hg.lt)) hgb y0 y1 y2 ok hG)⟩
  have P0 : ∀ (u : Nat → Value) (W : World) (hW : Below B.heap.size B W), wpS Tryz.prog ft12Ops Q (fun W => Below B.heap.size B W) (unl 13 [6, 7, 8, 9, 10, 11, 12], frL u 106 (kp12 z ++ [(2, .pointer (some ⟨A, 0, none⟩)), (3, .pointer (some ⟨C, 0, none⟩)), (5, .int .i64 (i : Nat)), (57, .agg #[c0, c1, c2]), (62, .string nm)])) [] W := by
    intro u W hW
    refine T_two 6 10 (by kernel_rfl) (fun _ => ?_) fun _ => ?_
    · refine O_go (HK W hW) (by kernel_rfl) ?_
      rintro e W1 ⟨hb1, y0, y1, y2, ok, rfl, hG⟩
      exact ⟨_, rfl, below_onf hW hb1, T_z hq [7, 8, 9] (by kernel_rfl) (T_fr 13 106 [10, 11, 12] (kp12 z ++ [(2, .pointer (some ⟨A, 0, none⟩)), (3, .pointer (some ⟨C, 0, none⟩)), (5, .int .i64 (i : Nat)), (64, .agg #[y0, y1, y2]), (65, .bool ok)]) (by kernel_rfl) fun u => P1 u W1 (below_onf hW hb1) y0 y1 y2 ok hG)⟩
    · exact O_val (w' := W.alloc (.cells #[.int .i64 0, .slice none 0 0, .slice none 0 0] 30)) (some 6) (.pointer (some ⟨W.heap.size, 0, none⟩)) (by kernel_rfl) (by kernel_rfl) (hW.alloc hW.size _) (T_fr 13 106 [6, 7, 8, 9, 11, 12] (kp12 z ++ [(2, .pointer (some ⟨A, 0, none⟩)), (3, .pointer (some ⟨C, 0, none⟩)), (5, .int .i64 (i : Nat)), (6, .pointer (some ⟨W.heap.size, 0, none⟩)), (57, .agg #[c0, c1, c2]), (62, .string nm)]) (by kernel_rfl) fun u => Q0 u _ (hW.alloc hW.size _) _ (row3_alloc W _ _ _ _) hW.size )
  refine T_a hq [0] (fun w' h => .cons (ldKd _ _ _ _ _ (hC.of_block (h.block _ hC.lt))) Lds.nil) (by kernel_rfl) ?_
  refine T_z hq [1, 3] (by kernel_rfl) ?_
  refine T_a hq [2] (fun w' h => .cons (ldStrsF _ _ (.slice (some ⟨nb, no, none⟩) len cap) ((hA.of_block (h.block _ hA.lt)).cell (i := 1) (by omega))) Lds.nil) (by kernel_rfl) ?_
  refine T_yld hq 4 (some 61) (.pointer (some ⟨nb, no + i, none⟩)) (by kernel_rfl) (by kernel_rfl) (fun w _ => ixRunF (n := len) (cap := cap) (i := i) (X := .tmp 59) (I := .tmp 60) (by kernel_rfl) (by kernel_rfl) (by kernel_rfl) hi w) ?_
  refine T_a hq [5] (fun w' h => .cons (ldStrF _ ⟨nb, no + i, none⟩ (.string nm) (by rw [World.cell?_of_block (w := B) (h.block nb hcl)]; exact hc)) Lds.nil) (by kernel_rfl) ?_
  exact T_fr 13 106 [6, 7, 8, 9, 10, 11, 12] (kp12 z ++ [(2, .pointer (some ⟨A, 0, none⟩)), (3, .pointer (some ⟨C, 0, none⟩)), (5, .int .i64 (i : Nat)), (57, .agg #[c0, c1, c2]), (62, .string nm)]) (by kernel_rfl) fun u => P0 u _ (Below.refl _ _)
theorem ft12 (A C : Nat) (c0 c1 c2 n0 n2 : Value) (nb no len cap i : Nat) (nm : ByteArray) (G : Value → Value → Value → Bool → Prop) (W0 : World) {l : List Value} (Q : Exit → Act → World → Prop) (hQ : ∀ c a d v w, Q (.panic c) (Act.put a d v) w → Q (.panic c) a w) (hA : W0.drew.rowIs A 30 3 (row3 n0 (.slice (some ⟨nb, no, none⟩) len cap) n2)) (hC : W0.drew.rowIs C 30 3 (row3 c0 c1 c2)) (hi : i < len) (hc : W0.drew.cell? ⟨nb, no + i, none⟩ = some (.string nm)) (hone : ∀ y0 y1 y2 ok, G y0 y1 y2 ok → (#[y0, y1, y2] : Array Value).all (·.oneCell') = true) (HK : ∀ W, Below W0.drew.heap.size W0.drew W → Calls Tryz.prog 51 #[.agg #[c0, c1, c2], .string nm] W fun e w' => Below W.heap.size W w' ∧ ∃ y0 y1 y2 ok, e = .returned (.tuple #[.agg #[y0, y1, y2], .bool ok]) ∧ G y0 y1 y2 ok) (hl : lookL (kp12 (fun i => l.getD i undef) ++ [(2, .pointer (some ⟨A, 0, none⟩)), (3, .pointer (some ⟨C, 0, none⟩)), (5, .int .i64 (i : Nat))]) l = (106, (kp12 (fun i => l.getD i undef) ++ [(2, .pointer (some ⟨A, 0, none⟩)), (3, .pointer (some ⟨C, 0, none⟩)), (5, .int .i64 (i : Nat))] : List (Nat × Value)).map (·.2))) (hfr : ∀ (u : Nat → Value) (g : Nat) (ok : Bool), frL u 106 (kp12 (fun i => l.getD i undef) ++ [(2, .pointer (some ⟨A, 0, none⟩)), (3, .pointer (some ⟨C, 0, none⟩)), (5, .int .i64 (i : Nat)), (6, .pointer (some ⟨g, 0, none⟩)), (7, .bool ok)]) = l.take 6 ++ .pointer (some ⟨g, 0, none⟩) :: .bool ok :: ((l.drop 8).take 48 ++ (u 56 :: u 57 :: u 58 :: u 59 :: u 60 :: u 61 :: u 62 :: u 63 :: u 64 :: u 65 :: l.drop 66)))
    (hend : ∀ (u : Nat → Value) (y0 y1 y2 : Value) (ok : Bool) (g : Nat) (W' : World), Below W0.drew.heap.size W0.drew W' → W'.rowIs g 30 3 (row3 y0 y1 y2) → W0.drew.heap.size ≤ g → G y0 y1 y2 ok → Q .normal ⟨(l.take 6 ++ .pointer (some ⟨g, 0, none⟩) :: .bool ok :: ((l.drop 8).take 48 ++ (u 56 :: u 57 :: u 58 :: u 59 :: u 60 :: u 61 :: u 62 :: u 63 :: u 64 :: u 65 :: l.drop 66))).toArray, []⟩ W') : (Code.region 12 ft12Ops true).wp Tryz.prog Q ⟨l.toArray, []⟩ W0 :=
  ft12z (fun i => l.getD i undef) (fun u g ok => l.take 6 ++ .pointer (some ⟨g, 0, none⟩) :: .bool ok :: ((l.drop 8).take 48 ++ (u 56 :: u 57 :: u 58 :: u 59 :: u 60 :: u 61 :: u 62 :: u 63 :: u 64 :: u 65 :: l.drop 66))) A C c0 c1 c2 n0 n2 nb no len cap i nm G W0 Q hQ hA hC hi hc hone HK hl hfr hend
def kp18 (z : Nat → Value) : List (Nat × Value) := [0, 1, 4, 5, 6, 7, 11, 12, 13, 14, 15, 16, 17, 18, 19, 20, 21, 22, 23, 24, 25, 26, 27, 28, 29, 30, 31, 32, 33, 34, 35, 36, 37, 38, 39, 40, 41, 42, 43, 44, 45, 46, 47, 48, 49, 50, 51, 52, 53, 54, 55, 56, 57, 58, 59, 60, 61, 62, 63, 64, 65, 66, 67, 68, 69, 70, 71, 72, 73, 74, 75, 76, 77, 78, 79, 80, 81, 82, 83, 84, 95, 96, 97, 98, 99, 100, 101, 102, 103, 104, 105].map fun i => (i, z i)
noncomputable def ft18Ops : Array Oper := fops Tryz.f25 18
theorem ft18_neat : Region.noSelect ft18Ops = true ∧ neat ft18Ops = true := ⟨by kernel_rfl, by kernel_rfl⟩
set_option maxRecDepth 100000 in
set_option maxHeartbeats 3200000 in
theorem ft18z (z : Nat → Value) (LL : (Nat → Value) → Nat → Bool → List Value) (A C : Nat) (c0 c1 c2 n0 n2 : Value) (nb no len cap i : Nat) (nm : ByteArray) (G : Value → Value → Value → Bool → Prop) (W0 : World) {l : List Value} (Q : Exit → Act → World → Prop) (hQ : ∀ c a d v w, Q (.panic c) (Act.put a d v) w → Q (.panic c) a w) (hA : W0.drew.rowIs A 30 3 (row3 c0 c1 c2)) (hC : W0.drew.rowIs C 30 3 (row3 n0 (.slice (some ⟨nb, no, none⟩) len cap) n2)) (hi : i < len) (hc : W0.drew.cell? ⟨nb, no + i, none⟩ = some (.string nm)) (hone : ∀ y0 y1 y2 ok, G y0 y1 y2 ok → (#[y0, y1, y2] : Array Value).all (·.oneCell') = true) (HK : ∀ W, Below W0.drew.heap.size W0.drew W → Calls Tryz.prog 51 #[.agg #[c0, c1, c2], .string nm] W fun e w' => Below W.heap.size W w' ∧ ∃ y0 y1 y2 ok, e = .returned (.tuple #[.agg #[y0, y1, y2], .bool ok]) ∧ G y0 y1 y2 ok) (hl : lookL (kp18 z ++ [(2, .pointer (some ⟨A, 0, none⟩)), (3, .pointer (some ⟨C, 0, none⟩)), (8, .int .i64 (i : Nat))]) l = (106, (kp18 z ++ [(2, .pointer (some ⟨A, 0, none⟩)), (3, .pointer (some ⟨C, 0, none⟩)), (8, .int .i64 (i : Nat))] : List (Nat × Value)).map (·.2))) (hfr : ∀ (u : Nat → Value) (g : Nat) (ok : Bool), frL u 106 (kp18 z ++ [(2, .pointer (some ⟨A, 0, none⟩)), (3, .pointer (some ⟨C, 0, none⟩)), (8, .int .i64 (i : Nat)), (9, .pointer (some ⟨g, 0, none⟩)), (10, .bool ok)]) = LL u g ok)
    (hend : ∀ (u : Nat → Value) (y0 y1 y2 : Value) (ok : Bool) (g : Nat) (W' : World), Below W0.drew.heap.size W0.drew W' → W'.rowIs g 30 3 (row3 y0 y1 y2) → W0.drew.heap.size ≤ g → G y0 y1 y2 ok → Q .normal ⟨(LL u g ok).toArray, []⟩ W') : (Code.region 18 ft18Ops true).wp Tryz.prog Q ⟨l.toArray, []⟩ W0 := by
  obtain ⟨v0, rfl⟩ := look_fr hl
  have hq : NtQ ft18Ops Q := ⟨ft18_neat, hQ⟩
  refine T_start (S := fun W => Below W0.drew.heap.size W0.drew W) (by kernel_rfl) (Below.refl _ _) ?_
  clear hl hQ
  have hcl := World.block_lt_of_cell? W0.drew _ hc
  generalize W0.drew = B at hA hC hc hcl HK hend ⊢
  have Q1 : ∀ (u : Nat → Value) (W : World) (hW : Below B.heap.size B W) (g : Nat) (hg : W.rowIs g 30 3 (row3 (.int .i64 0) (.slice none 0 0) (.slice none 0 0))) (hgb : B.heap.size ≤ g) (y0 y1 y2 : Value) (ok : Bool) (hG : G y0 y1 y2 ok) , wpS Tryz.prog ft18Ops Q (fun W => Below B.heap.size B W) (unl 13 [11, 12], frL u 106 (kp18 z ++ [(2, .pointer (some ⟨A, 0, none⟩)), (3, .pointer (some ⟨C, 0, none⟩)), (8, .int .i64 (i : Nat)), (9, .pointer (some ⟨g, 0, none⟩)), (93, .agg #[y0, y1, y2]), (94, .bool ok)])) [] W := by
    intro u W hW g hg hgb y0 y1 y2 ok hG 
    refine T_one 11 (by kernel_rfl) fun _ => ?_
    have hs3 := set3f W g y0 y1 y2
    have hW2 := below_boxf hW hgb hs3.1
    refine O_store_mid none 30 (.tmp 9) (.tmp 93) g 0 #[y0, y1, y2] (by kernel_rfl) (by kernel_rfl) (by kernel_rfl) (there3f hg) sizeKd (hone _ _ _ _ hG) hW2 ?_
    refine T_z hq [12] (by kernel_rfl) ?_
    exact T_end 106 (kp18 z ++ [(2, .pointer (some ⟨A, 0, none⟩)), (3, .pointer (some ⟨C, 0, none⟩)), (8, .int .i64 (i : Nat)), (9, .pointer (some ⟨g, 0, none⟩)), (10, .bool ok)]) (by kernel_rfl) (by kernel_rfl) fun _ u => by rw [hfr]; exact hend u y0 y1 y2 ok g _ hW2 (hs3.2 _ _ hg) hgb hG
  have P1 : ∀ (u : Nat → Value) (W : World) (hW : Below B.heap.size B W) (y0 y1 y2 : Value) (ok : Bool) (hG : G y0 y1 y2 ok) , wpS Tryz.prog ft18Ops Q (fun W => Below B.heap.size B W) (unl 13 [10, 11, 12], frL u 106 (kp18 z ++ [(2, .pointer (some ⟨A, 0, none⟩)), (3, .pointer (some ⟨C, 0, none⟩)), (8, .int .i64 (i : Nat)), (93, .agg #[y0, y1, y2]), (94, .bool ok)])) [] W := by
    intro u W hW y0 y1 y2 ok hG 
    refine T_one 10 (by kernel_rfl) fun _ => ?_
    exact O_val (w' := W.alloc (.cells #[.int .i64 0, .slice none 0 0, .slice none 0 0] 30)) (some 9) (.pointer (some ⟨W.heap.size, 0, none⟩)) (by kernel_rfl) (by kernel_rfl) (hW.alloc hW.size _) (T_fr 13 106 [11, 12] (kp18 z ++ [(2, .pointer (some ⟨A, 0, none⟩)), (3, .pointer (some ⟨C, 0, none⟩)), (8, .int .i64 (i : Nat)), (9, .pointer (some ⟨W.heap.size, 0, none⟩)), (93, .agg #[y0, y1, y2]), (94, .bool ok)]) (by kernel_rfl) fun u => Q1 u _ (hW.alloc hW.size _) _ (row3_alloc W _ _ _ _) hW.size y0 y1 y2 ok hG )
  have Q0 : ∀ (u : Nat → Value) (W : World) (hW : Below B.heap.size B W) (g : Nat) (hg : W.rowIs g 30 3 (row3 (.int .i64 0) (.slice none 0 0) (.slice none 0 0))) (hgb : B.heap.size ≤ g) , wpS Tryz.prog ft18Ops Q (fun W => Below B.heap.size B W) (unl 13 [6, 7, 8, 9, 11, 12], frL u 106 (kp18 z ++ [(2, .pointer (some ⟨A, 0, none⟩)), (3, .pointer (some ⟨C, 0, none⟩)), (8, .int .i64 (i : Nat)), (9, .pointer (some ⟨g, 0, none⟩)), (86, .agg #[c0, c1, c2]), (91, .string nm)])) [] W := by
    intro u W hW g hg hgb
    refine T_one 6 (by kernel_rfl) fun _ => ?_
    · refine O_go (HK W hW) (by kernel_rfl) ?_
      rintro e W1 ⟨hb1, y0, y1, y2, ok, rfl, hG⟩
      exact ⟨_, rfl, below_onf hW hb1, T_z hq [7, 8, 9] (by kernel_rfl) (T_fr 13 106 [11, 12] (kp18 z ++ [(2, .pointer (some ⟨A, 0, none⟩)), (3, .pointer (some ⟨C, 0, none⟩)), (8, .int .i64 (i : Nat)), (9, .pointer (some ⟨g, 0, none⟩)), (93, .agg #[y0, y1, y2]), (94, .bool ok)]) (by kernel_rfl) fun u => Q1 u W1 (below_onf hW hb1) g (hg.of_block (hb1.block _ hg.lt)) hgb y0 y1 y2 ok hG)⟩
  have P0 : ∀ (u : Nat → Value) (W : World) (hW : Below B.heap.size B W), wpS Tryz.prog ft18Ops Q (fun W => Below B.heap.size B W) (unl 13 [6, 7, 8, 9, 10, 11, 12], frL u 106 (kp18 z ++ [(2, .pointer (some ⟨A, 0, none⟩)), (3, .pointer (some ⟨C, 0, none⟩)), (8, .int .i64 (i : Nat)), (86, .agg #[c0, c1, c2]), (91, .string nm)])) [] W := by
    intro u W hW
    refine T_two 6 10 (by kernel_rfl) (fun _ => ?_) fun _ => ?_
    · refine O_go (HK W hW) (by kernel_rfl) ?_
      rintro e W1 ⟨hb1, y0, y1, y2, ok, rfl, hG⟩
      exact ⟨_, rfl, below_onf hW hb1, T_z hq [7, 8, 9] (by kernel_rfl) (T_fr 13 106 [10, 11, 12] (kp18 z ++ [(2, .pointer (some ⟨A, 0, none⟩)), (3, .pointer (some ⟨C, 0, none⟩)), (8, .int .i64 (i : Nat)), (93, .agg #[y0, y1, y2]), (94, .bool ok)]) (by kernel_rfl) fun u => P1 u W1 (below_onf hW hb1) y0 y1 y2 ok hG)⟩
    · exact O_val (w' := W.alloc (.cells #[.int .i64 0, .slice none 0 0, .slice none 0 0] 30)) (some 9) (.pointer (some ⟨W.heap.size, 0, none⟩)) (by kernel_rfl) (by kernel_rfl) (hW.alloc hW.size _) (T_fr 13 106 [6, 7, 8, 9, 11, 12] (kp18 z ++ [(2, .pointer (some ⟨A, 0, none⟩)), (3, .pointer (some ⟨C, 0, none⟩)), (8, .int .i64 (i : Nat)), (9, .pointer (some ⟨W.heap.size, 0, none⟩)), (86, .agg #[c0, c1, c2]), (91, .string nm)]) (by kernel_rfl) fun u => Q0 u _ (hW.alloc hW.size _) _ (row3_alloc W _ _ _ _) hW.size )
  refine T_a hq [0] (fun w' h => .cons (ldKd _ _ _ _ _ (hA.of_block (h.block _ hA.lt))) Lds.nil) (by kernel_rfl) ?_
  refine T_z hq [1, 3] (by kernel_rfl) ?_
  refine T_a hq [2] (fun w' h => .cons (ldStrsF _ _ (.slice (some ⟨nb, no, none⟩) len cap) ((hC.of_block (h.block _ hC.lt)).cell (i := 1) (by omega))) Lds.nil) (by kernel_rfl) ?_
  refine T_yld hq 4 (some 90) (.pointer (some ⟨nb, no + i, none⟩)) (by kernel_rfl) (by kernel_rfl) (fun w _ => ixRunF (n := len) (cap := cap) (i := i) (X := .tmp 88) (I := .tmp 89) (by kernel_rfl) (by kernel_rfl) (by kernel_rfl) hi w) ?_
  refine T_a hq [5] (fun w' h => .cons (ldStrF _ ⟨nb, no + i, none⟩ (.string nm) (by rw [World.cell?_of_block (w := B) (h.block nb hcl)]; exact hc)) Lds.nil) (by kernel_rfl) ?_
  exact T_fr 13 106 [6, 7, 8, 9, 10, 11, 12] (kp18 z ++ [(2, .pointer (some ⟨A, 0, none⟩)), (3, .pointer (some ⟨C, 0, none⟩)), (8, .int .i64 (i : Nat)), (86, .agg #[c0, c1, c2]), (91, .string nm)]) (by kernel_rfl) fun u => P0 u _ (Below.refl _ _)
theorem ft18 (A C : Nat) (c0 c1 c2 n0 n2 : Value) (nb no len cap i : Nat) (nm : ByteArray) (G : Value → Value → Value → Bool → Prop) (W0 : World) {l : List Value} (Q : Exit → Act → World → Prop) (hQ : ∀ c a d v w, Q (.panic c) (Act.put a d v) w → Q (.panic c) a w) (hA : W0.drew.rowIs A 30 3 (row3 c0 c1 c2)) (hC : W0.drew.rowIs C 30 3 (row3 n0 (.slice (some ⟨nb, no, none⟩) len cap) n2)) (hi : i < len) (hc : W0.drew.cell? ⟨nb, no + i, none⟩ = some (.string nm)) (hone : ∀ y0 y1 y2 ok, G y0 y1 y2 ok → (#[y0, y1, y2] : Array Value).all (·.oneCell') = true) (HK : ∀ W, Below W0.drew.heap.size W0.drew W → Calls Tryz.prog 51 #[.agg #[c0, c1, c2], .string nm] W fun e w' => Below W.heap.size W w' ∧ ∃ y0 y1 y2 ok, e = .returned (.tuple #[.agg #[y0, y1, y2], .bool ok]) ∧ G y0 y1 y2 ok) (hl : lookL (kp18 (fun i => l.getD i undef) ++ [(2, .pointer (some ⟨A, 0, none⟩)), (3, .pointer (some ⟨C, 0, none⟩)), (8, .int .i64 (i : Nat))]) l = (106, (kp18 (fun i => l.getD i undef) ++ [(2, .pointer (some ⟨A, 0, none⟩)), (3, .pointer (some ⟨C, 0, none⟩)), (8, .int .i64 (i : Nat))] : List (Nat × Value)).map (·.2))) (hfr : ∀ (u : Nat → Value) (g : Nat) (ok : Bool), frL u 106 (kp18 (fun i => l.getD i undef) ++ [(2, .pointer (some ⟨A, 0, none⟩)), (3, .pointer (some ⟨C, 0, none⟩)), (8, .int .i64 (i : Nat)), (9, .pointer (some ⟨g, 0, none⟩)), (10, .bool ok)]) = l.take 9 ++ .pointer (some ⟨g, 0, none⟩) :: .bool ok :: ((l.drop 11).take 74 ++ (u 85 :: u 86 :: u 87 :: u 88 :: u 89 :: u 90 :: u 91 :: u 92 :: u 93 :: u 94 :: l.drop 95)))
    (hend : ∀ (u : Nat → Value) (y0 y1 y2 : Value) (ok : Bool) (g : Nat) (W' : World), Below W0.drew.heap.size W0.drew W' → W'.rowIs g 30 3 (row3 y0 y1 y2) → W0.drew.heap.size ≤ g → G y0 y1 y2 ok → Q .normal ⟨(l.take 9 ++ .pointer (some ⟨g, 0, none⟩) :: .bool ok :: ((l.drop 11).take 74 ++ (u 85 :: u 86 :: u 87 :: u 88 :: u 89 :: u 90 :: u 91 :: u 92 :: u 93 :: u 94 :: l.drop 95))).toArray, []⟩ W') : (Code.region 18 ft18Ops true).wp Tryz.prog Q ⟨l.toArray, []⟩ W0 :=
  ft18z (fun i => l.getD i undef) (fun u g ok => l.take 9 ++ .pointer (some ⟨g, 0, none⟩) :: .bool ok :: ((l.drop 11).take 74 ++ (u 85 :: u 86 :: u 87 :: u 88 :: u 89 :: u 90 :: u 91 :: u 92 :: u 93 :: u 94 :: l.drop 95))) A C c0 c1 c2 n0 n2 nb no len cap i nm G W0 Q hQ hA hC hi hc hone HK hl hfr hend
end Go.Proofs.YtcpfelaffclalaaGreatDoor

/- The walks of the specification's l6In, l6NameOk, l1Rise: what they answer. No conditions. -/

namespace Go.Proofs.YtcpfelaffclalaaGreatDoor
open Go Go.RowKit

set_option maxHeartbeats 400000 in
theorem l6In_any (n lo hi : Int) (w : World) :
    Calls Tryz.prog 81 #[.int .i64 n, .int .i64 lo, .int .i64 hi] w fun e w' => e = .returned (.bool (decide (lo ≤ n ∧ n ≤ hi))) ∧ w' = w := by
  by_cases h1 : lo ≤ n
  · by_cases h2 : n ≤ hi
    · go_enter Tryz.func81, Tryz.ntmps81
      go_wp2_with fail
      go_ret
      exact ⟨by simp [h1, h2], rfl⟩
    · go_enter Tryz.func81, Tryz.ntmps81
      go_wp2_with fail
      go_ret
      exact ⟨ret_bool (by symm; simp; omega), rfl⟩
  · go_enter Tryz.func81, Tryz.ntmps81
    go_wp2_with fail
    go_ret
    exact ⟨ret_bool (by symm; simp; omega), rfl⟩

set_option maxHeartbeats 400000 in
theorem l6NameOk_any (s : ByteArray) (w : World) (hs : s.size ≤ 9223372036854775807) :
    Calls Tryz.prog 111 #[.string s] w fun e w' => e = .returned (.bool (nameOkB s)) ∧ w' = w := by
  by_cases h1 : 1 ≤ s.size ∧ s.size ≤ 8
  · obtain ⟨h1, h8⟩ := h1
    have hd : decide ((1 : Int) ≤ s.size ∧ (s.size : Int) ≤ 8) = true := by simp; omega
    have hc0 : s[0].toNat < 97 ∨ 122 < s[0].toNat ∨ (97 ≤ s[0].toNat ∧ s[0].toNat ≤ 122) := by omega
    rcases hc0 with hc | hc | hc
    · go_enter Tryz.func111, Tryz.ntmps111
      go_wp2_with (go_at_call 81; refine (l6In_any _ _ _ _).mono ?_; rintro e w' ⟨rfl, rfl⟩)
      go_ret
      exact ⟨ret_bool (nameOk_first (by omega) (Or.inl hc)).symm, rfl⟩
    · go_enter Tryz.func111, Tryz.ntmps111
      go_wp2_with (go_at_call 81; refine (l6In_any _ _ _ _).mono ?_; rintro e w' ⟨rfl, rfl⟩)
      go_ret
      exact ⟨ret_bool (nameOk_first (by omega) (Or.inr hc)).symm, rfl⟩
    · have HF := hide hc
      obtain ⟨hca, hcb⟩ := hc
      go_enter Tryz.func111, Tryz.ntmps111
      go_wp2_with (go_at_call 81; refine (l6In_any _ _ _ _).mono ?_; rintro e w' ⟨rfl, rfl⟩)
      go_loop [3] (fun i => ∃ k : Nat, k ≤ s.size ∧ i = .int .i64 k ∧ Hid (allTo nameByte s k)) (fun i => s.size - (intOf i).toNat)
      case atStart => exact ⟨0, Nat.zero_le _, rfl, fun j hj => by omega⟩
      case round =>
        obtain ⟨k, hk, rfl, HA⟩ := hrel
        by_cases hlt : k < s.size
        · have hc : s[k].toNat < 48 ∨ (57 < s[k].toNat ∧ s[k].toNat < 97) ∨ 122 < s[k].toNat ∨ (97 ≤ s[k].toNat ∧ s[k].toNat ≤ 122) ∨ (48 ≤ s[k].toNat ∧ s[k].toNat ≤ 57) := by omega
          rcases hc with hc | hc | hc | hc | hc
          · have HC := hide (nameOk_not hlt (nameByte_no (Or.inl hc)))
            have d1 : decide ((97 : Int) ≤ s[k].toNat) = false := by simp; omega
            have d2 : decide ((s[k].toNat : Int) ≤ 122) = true := by simp; omega
            have d3 : decide ((48 : Int) ≤ s[k].toNat) = false := by simp; omega
            have d4 : decide ((s[k].toNat : Int) ≤ 57) = true := by simp; omega
            go_wp2_with fail
            go_ret
            exact ⟨ret_bool (unhide HC).symm, rfl⟩
          · have HC := hide (nameOk_not hlt (nameByte_no (Or.inr (Or.inl hc))))
            obtain ⟨hc1, hc2⟩ := hc
            have d1 : decide ((97 : Int) ≤ s[k].toNat) = false := by simp; omega
            have d2 : decide ((s[k].toNat : Int) ≤ 122) = true := by simp; omega
            have d3 : decide ((48 : Int) ≤ s[k].toNat) = true := by simp; omega
            have d4 : decide ((s[k].toNat : Int) ≤ 57) = false := by simp; omega
            go_wp2_with fail
            go_ret
            exact ⟨ret_bool (unhide HC).symm, rfl⟩
          · have HC := hide (nameOk_not hlt (nameByte_no (Or.inr (Or.inr hc))))
            have d1 : decide ((97 : Int) ≤ s[k].toNat) = true := by simp; omega
            have d2 : decide ((s[k].toNat : Int) ≤ 122) = false := by simp; omega
            have d3 : decide ((48 : Int) ≤ s[k].toNat) = true := by simp; omega
            have d4 : decide ((s[k].toNat : Int) ≤ 57) = false := by simp; omega
            go_wp2_with fail
            go_ret
            exact ⟨ret_bool (unhide HC).symm, rfl⟩
          · have HN := hide (allTo_succ HA.out hlt (nameByte_yes (Or.inl hc)))
            obtain ⟨hc1, hc2⟩ := hc
            have d1 : decide ((97 : Int) ≤ s[k].toNat) = true := by simp; omega
            have d2 : decide ((s[k].toNat : Int) ≤ 122) = true := by simp; omega
            have d3 : decide ((48 : Int) ≤ s[k].toNat) = true := by simp; omega
            have d4 : decide ((s[k].toNat : Int) ≤ 57) = false := by simp; omega
            go_wp2_with fail
            go_round
            case rel => exact ⟨k + 1, by omega, by go_num, HN⟩
            case measure => simp [intOf]; omega
          · have HN := hide (allTo_succ HA.out hlt (nameByte_yes (Or.inr hc)))
            obtain ⟨hc1, hc2⟩ := hc
            have d1 : decide ((97 : Int) ≤ s[k].toNat) = false := by simp; omega
            have d2 : decide ((s[k].toNat : Int) ≤ 122) = true := by simp; omega
            have d3 : decide ((48 : Int) ≤ s[k].toNat) = true := by simp; omega
            have d4 : decide ((s[k].toNat : Int) ≤ 57) = true := by simp; omega
            go_wp2_with fail
            go_round
            case rel => exact ⟨k + 1, by omega, by go_num, HN⟩
            case measure => simp [intOf]; omega
        · go_wp2_with fail
          go_ret
          obtain rfl : k = s.size := by omega
          exact ⟨ret_bool (nameOk_yes (by omega) (by omega) (unhide HF) HA.out).symm, rfl⟩
  · have hd : decide ((1 : Int) ≤ s.size ∧ (s.size : Int) ≤ 8) = false := by simp; omega
    go_enter Tryz.func111, Tryz.ntmps111
    go_wp2_with (go_at_call 81; refine (l6In_any _ _ _ _).mono ?_; rintro e w' ⟨rfl, rfl⟩)
    go_ret
    exact ⟨ret_bool (nameOk_len (by omega)).symm, rfl⟩

theorem geqS (t : TypeId) (a b : ByteArray) : binOp .geq t (.string a) (.string b) = pure (.bool !(Op.bytesLess a.toList b.toList)) := by simp [binOp, Op.stringOp]

set_option maxHeartbeats 400000 in
theorem l1Rise_any (v : Value) (ss : List ByteArray) (w : World) {P : Nat → Prop} (hP : ∀ b, P b → b < w.heap.size) (hv : StrsAt P w v ss) :
    Calls Tryz.prog 82 #[v] w fun e w' => e = .returned (.bool (riseB ss)) ∧ Below w.heap.size w w' := by
  obtain ⟨a, cap, rfl, hlen, hc⟩ := hv
  have HC := hide hc; have HP := hide hP
  clear hc hP
  go_enter Tryz.func82, Tryz.ntmps82
  go_wp2_with fail
  go_loopw [3] (fun i wr => ∃ (k : Nat), k ≤ ss.length ∧ i = .int .i64 k ∧ Hid (∀ j, j < k → good ss j = true) ∧ Below w.heap.size w wr) (fun i _ => ss.length - (intOf i).toNat)
  case atStart => exact ⟨0, Nat.zero_le _, rfl, hide (fun j hj => by omega), Below.refl _ _⟩
  case round =>
    obtain ⟨k, hk, rfl, HG, hb⟩ := hrel
    by_cases hlt : k < ss.length
    · obtain ⟨b, o, rfl, hpb, hcell, hsz⟩ := unhide HC k hlt
      have e1 : wr.cell? ⟨b, o + k, none⟩ = some (.string ss[k]) := by rw [hb.cell (unhide HP b hpb)]; exact hcell
      clear hcell hpb
      have hname := fun w => l6NameOk_any ss[k] w hsz
      have HN := hide hname; clear hname
      by_cases hn : nameOkB ss[k] = true
      · by_cases h0 : 0 < k
        · obtain ⟨b', o', he, hpb, hcell, -⟩ := unhide HC (k - 1) (by omega)
          simp only [Option.some.injEq, Addr.mk.injEq, and_true] at he
          obtain ⟨rfl, rfl⟩ := he
          have e0 : wr.cell? ⟨b, o + (k - 1), none⟩ = some (.string (ss[k - 1]'(by omega))) := by rw [hb.cell (unhide HP b hpb)]; exact hcell
          have hd0 : decide ((0 : Int) < k) = true := by simp; omega
          have hgd := good_pos hlt h0 hn
          generalize hlb : Op.bytesLess (ss[k - 1]'(by omega)).toList ss[k].toList = lb at hgd
          have hi1 : ((k : Int) - 1).toNat = k - 1 := by omega
          have HGD := hide hgd
          clear hcell hpb hgd
          have hge := geqS
          cases lb
          · have HR := hide (rise_no hlt (unhide HGD))
            go_wp2_with fail
            go_quiet ((go_at_call 111; exact Calls.quiet_of_same (unhide HN _)))
            go_wp2_with fail
            go_ret
            exact ⟨ret_bool (unhide HR).symm, below_drewN hb _⟩
          · go_wp2_with fail
            go_quiet ((go_at_call 111; exact Calls.quiet_of_same (unhide HN _)))
            go_wp2_with fail
            go_roundw
            case rel => exact ⟨k + 1, by omega, by go_num, hide (fun j hj => by
              by_cases e : j = k
              · subst e; exact unhide HGD
              · exact HG.out j (by omega)), below_drewN hb _⟩
            case measure => simp [intOf]; omega
        · have hd0 : decide (0 < k) = false := by simp; omega
          have HK0 : Hid (k = 0) := by show k = 0; omega
          clear h0
          go_wp2_with fail
          go_quiet ((go_at_call 111; exact Calls.quiet_of_same (unhide HN _)))
          go_wp2_with fail
          go_roundw
          case rel => exact ⟨k + 1, by omega, by go_num, hide (fun j hj => by have := HK0.out; subst this; obtain rfl : j = 0 := by omega
                                                                              exact good_zero hlt hn), below_drewN hb _⟩
          case measure => simp [intOf]; omega
      · have hn' : nameOkB ss[k] = false := by simpa using hn
        have HR := hide (rise_no hlt (good_name hlt hn'))
        clear hn
        go_wp2_with fail
        go_quiet ((go_at_call 111; exact Calls.quiet_of_same (unhide HN _)))
        go_wp2_with fail
        go_ret
        exact ⟨ret_bool (unhide HR).symm, below_drewN hb _⟩
    · go_wp2_with fail
      go_ret
      exact ⟨ret_bool (rise_yes (fun i hi => HG.out i (by omega))).symm, hb⟩
end Go.Proofs.YtcpfelaffclalaaGreatDoor
