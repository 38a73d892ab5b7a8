/- The drawn regions of the program's joins that hold calls. Conditions: what is called is taken by its contract. -/
import Derived.Test.YtenpghndgdemnaaGreatDoorPart09
import Derived.Test.YtenpghndgdemnaaGreatDoorPart00
import Derived.Test.YtenpghndgdemnaaGreatDoorPart10
import Derived.Test.YtenpghndgdemnaaGreatDoorPart19
namespace Go.Proofs.YtenpghndgdemnaaGreatDoor
open Go Go.RowKit

/-- A schema's three cells, whatever they say. -/
def Any3 (d : C3) : Prop := ∃ (s : Int) (a1 a2 : Option Addr) (n1 p1 n2 p2 : Nat), d = ⟨.int .i64 s, .slice a1 n1 p1, .slice a2 n2 p2⟩
theorem Any3.one {d : C3} (h : Any3 d) : (#[d.c0, d.c1, d.c2] : Array Value).all (·.oneCell') = true := by
  obtain ⟨s, a1, a2, n1, p1, n2, p2, rfl⟩ := h
  rw [← Array.all_toList]; rfl
/-- Three cells at an offset of a block that was there. -/
def K3 (B : World) (b o : Nat) (c : C3) : Prop := b < B.heap.size ∧ B.cell? ⟨b, o, none⟩ = some c.c0 ∧ B.cell? ⟨b, o + 1, none⟩ = some c.c1 ∧ B.cell? ⟨b, o + 2, none⟩ = some c.c2
theorem ldK3 (w : World) (b o : Nat) (x y z : Value) (h0 : w.cell? ⟨b, o, none⟩ = some x) (h1 : w.cell? ⟨b, o + 1, none⟩ = some y) (h2 : w.cell? ⟨b, o + 2, none⟩ = some z) : (Instr.loadAt 26 (.pointer (some ⟨b, o, none⟩))).run Tryz.prog w = .ok (.agg #[x, y, z]) w := by
  have hr : w.rangeAt b o [x, y, z] := fun j v hv => by
    match j, hv with
    | 0, hv => simp at hv; subst hv; exact h0
    | 1, hv => simp at hv; subst hv; exact h1
    | 2, hv => simp at hv; subst hv; exact h2
    | j + 3, hv => simp at hv
  unfold Instr.loadAt
  simp only [Instr.sureAddr, Sem.run_bind, Sem.run_pure, Result.andThen_ok, run_loadVar_mid w b o 26 [x, y, z] _ hr Tryz.underlying26 rfl sizeKd]
theorem K3.ld {B W : World} {b o : Nat} {c : C3} (h : K3 B b o c) (hW : Below B.heap.size B W) : (Instr.loadAt 26 (.pointer (some ⟨b, o, none⟩))).run Tryz.prog W = .ok (.agg #[c.c0, c.c1, c.c2]) W :=
  ldK3 W b o _ _ _ (by rw [hW.cell h.1]; exact h.2.1) (by rw [hW.cell h.1]; exact h.2.2.1) (by rw [hW.cell h.1]; exact h.2.2.2)
theorem ldKsJ (w : World) (ad : Addr) (v : Value) (h : w.cell? ad = some v) : (Instr.loadAt 24 (.pointer (some ad))).run Tryz.prog w = .ok v w := by
  simp [Instr.loadAt, Instr.sureAddr, loadVar, Tryz.isAgg24, h, go_sem]
theorem ldRowJ {B W : World} {b : Nat} {c : C3} (h : B.rowIs b 26 3 (row3 c.c0 c.c1 c.c2)) (hW : Below B.heap.size B W) : (Instr.loadAt 26 (.pointer (some ⟨b, 0, none⟩))).run Tryz.prog W = .ok (.agg #[c.c0, c.c1, c.c2]) W :=
  ldKd W b _ _ _ (h.of_block (hW.block _ h.lt))
theorem ldCellJ {B W : World} {b : Nat} {c : C3} {v : Value} (h : B.rowIs b 26 3 (row3 c.c0 c.c1 c.c2)) (hv : c.c2 = v) (hW : Below B.heap.size B W) : (Instr.loadAt 24 (.pointer (some ⟨b, 2, none⟩))).run Tryz.prog W = .ok v W := by
  subst hv
  exact ldKsJ W _ _ ((h.of_block (hW.block _ h.lt)).cell (i := 2) (by omega))
theorem ixKdJ {o : Oper} {a : Act} {X I : Operand} {g p n cap i : Nat} (ho : o.op = .indexAddr 24 X I) (hx : a.eval X = .slice (some ⟨g, p, none⟩) n cap) (hi : a.eval I = .int .i64 (i : Nat)) (h : i < n) (w : World) : (execOp a.eval o).run Tryz.prog w = .ok (.value (.pointer (some ⟨g, p + i * 3, none⟩))) w := by
  have h1 : (0 : Int) ≤ (i : Int) ∧ (i : Int) < (n : Int) := ⟨by omega, by omega⟩
  have h2 : (Instr.indexAt 24 (.slice (some ⟨g, p, none⟩) n cap) (.int .i64 (i : Nat))).run Tryz.prog w = .ok (.pointer (some ⟨g, p + i * 3, none⟩)) w := by
    have e : (⟨g, p + i * 3, none⟩ : Addr) = (⟨g, p, none⟩ : Addr).add (i * 3) := by simp [Addr.add]
    rw [e]
    simp [go_sem, h1]
  unfold execOp
  simp only [ho, hx, hi, Sem.run_bind, Sem.run_pure, Result.andThen_ok, h2]
theorem addRunJ {o : Oper} {a : Act} {X Y : Operand} {T S : TypeId} {p q r : ByteArray} (ho : o.op = .binOp .add T X Y S) (hx : a.eval X = .string p) (hy : a.eval Y = .string q) (hr : p ++ q = r) (h : p.size + q.size ≤ 9223372036854775807) (w : World) : (execOp a.eval o).run Tryz.prog w = .ok (.value (.string r)) w := by
  subst hr
  unfold execOp
  simp only [ho, hx, hy, addP T p q h, Sem.run_bind, Sem.run_pure]
  rfl
/-- What a call laid is as it was. -/
structure CKj (V0 V1 W : World) : Prop where
  size : V1.heap.size ≤ W.heap.size
  block : ∀ b, V0.heap.size ≤ b → b < V1.heap.size → W.heap[b]? = V1.heap[b]?
theorem CKj.refl (V0 V1 : World) : CKj V0 V1 V1 := ⟨Nat.le_refl _, fun _ _ _ => rfl⟩
theorem CKj.alloc {V0 V1 W : World} (h : CKj V0 V1 W) (o : Obj) : CKj V0 V1 (W.alloc o) := ⟨by rw [World.size_alloc]; exact Nat.le_succ_of_le h.size, fun b h0 h1 => (Below.heap_alloc _ _ _ (Nat.lt_of_lt_of_le h1 h.size)).trans (h.block b h0 h1)⟩
theorem CKj.but {V0 V1 W W' : World} {g : Nat} (h : CKj V0 V1 W) (hb : But g W W') (hg : g < V0.heap.size ∨ V1.heap.size ≤ g) : CKj V0 V1 W' := ⟨Nat.le_trans h.size hb.size, fun b h0 h1 => (hb.at (Nat.lt_of_lt_of_le h1 h.size) (by omega)).trans (h.block b h0 h1)⟩
noncomputable def jrIOps : Array Oper := fops Tryz.f49 1
theorem jrI_neat : Region.noSelect jrIOps = true ∧ neat jrIOps = true := ⟨by kernel_rfl, by kernel_rfl⟩
set_option maxRecDepth 100000 in
set_option maxHeartbeats 3200000 in
theorem jrI (T A C R : Nat) (path path2 : ByteArray) (c c2 : C3) (x : C3) (yb yo yc : Nat) (E : World → World → C3 → Value → Prop) (W0 : World) {l : List Value} (Q : Exit → Act → World → Prop) (hQ : ∀ c a d v w, Q (.panic c) (Act.put a d v) w → Q (.panic c) a w) (hA : W0.drew.rowIs A 26 3 (row3 c.c0 c.c1 c.c2)) (hC : W0.drew.rowIs C 26 3 (row3 c2.c0 c2.c1 c2.c2)) (hc2 : c2.c2 = .slice (some ⟨yb, yo, none⟩) 1 yc) (hy : K3 W0.drew yb (yo + 0 * 3) x) (hpp : path ++ ⟨#[63]⟩ = path2) (hps : path.size + (⟨#[63]⟩ : ByteArray).size ≤ 9223372036854775807)
    (HK : ∀ W, Below W0.drew.heap.size W0.drew W → Calls Tryz.prog 55 #[.pointer (some ⟨T, 0, none⟩), .agg #[c.c0, c.c1, c.c2], .agg #[x.c0, x.c1, x.c2], .string path2] W fun e w' => Below W.heap.size W w' ∧ ∃ (d : C3) (er : Value), e = .returned (.tuple #[.agg #[d.c0, d.c1, d.c2], er]) ∧ Any3 d ∧ E W w' d er)
    (hl : lookL [(0, .pointer (some ⟨T, 0, none⟩)), (3, .string path), (5, .pointer (some ⟨A, 0, none⟩)), (6, .pointer (some ⟨C, 0, none⟩)), (8, .pointer (some ⟨R, 0, none⟩))] l = (30, ([(0, .pointer (some ⟨T, 0, none⟩)), (3, .string path), (5, .pointer (some ⟨A, 0, none⟩)), (6, .pointer (some ⟨C, 0, none⟩)), (8, .pointer (some ⟨R, 0, none⟩))] : List (Nat × Value)).map (·.2)))
    (hend : ∀ (u : Nat → Value) (V0 V1 W : World) (d : C3) (er : Value) (g : Nat), Below W0.drew.heap.size W0.drew V0 → E V0 V1 d er → Below W0.drew.heap.size W0.drew W → CKj V0 V1 W → W.rowIs g 26 3 (row3 d.c0 d.c1 d.c2) → W0.drew.heap.size ≤ g → (g < V0.heap.size ∨ V1.heap.size ≤ g) → Q .normal ⟨(frL u 30 [(8, .pointer (some ⟨R, 0, none⟩)), (10, .pointer (some ⟨g, 0, none⟩)), (11, er)]).toArray, []⟩ W) : (Code.region 1 jrIOps true).wp Tryz.prog Q ⟨l.toArray, []⟩ W0 := by
  obtain ⟨v0, rfl⟩ := look_fr hl
  have hq : NtQ jrIOps Q := ⟨jrI_neat, hQ⟩
  refine T_start (S := fun W => Below W0.drew.heap.size W0.drew W) (by kernel_rfl) (Below.refl _ _) ?_
  clear hl hQ
  generalize W0.drew = B at hA hC hy HK hend ⊢
  have Q1 : ∀ (u : Nat → Value) (W : World) (hW : Below B.heap.size B W) (V0 V1 : World) (d : C3) (er : Value) (hV : Below B.heap.size B V0) (hE : E V0 V1 d er) (h3 : Any3 d) (hck : CKj V0 V1 W) (g : Nat) (hg : W.rowIs g 26 3 (row3 (.int .i64 0) (.slice none 0 0) (.slice none 0 0))) (hgb : B.heap.size ≤ g) (hap : g < V0.heap.size ∨ V1.heap.size ≤ g), wpS Tryz.prog jrIOps Q (fun W => Below B.heap.size B W) (unl 17 [15, 16], frL u 30 [(8, .pointer (some ⟨R, 0, none⟩)), (10, .pointer (some ⟨g, 0, none⟩)), (24, .agg #[d.c0, d.c1, d.c2]), (25, er)]) [] W := by
    intro u W hW V0 V1 d er hV hE h3 hck g hg hgb hap
    refine T_one 15 (by kernel_rfl) fun _ => ?_
    have hs3 := set3f W g d.c0 d.c1 d.c2
    have hW2 := below_boxf hW hgb hs3.1
    refine O_store_mid none 26 (.tmp 10) (.tmp 24) g 0 #[d.c0, d.c1, d.c2] (by kernel_rfl) (by kernel_rfl) (by kernel_rfl) (there3f hg) sizeKd (h3.one) hW2 ?_
    refine T_z hq [16] (by kernel_rfl) ?_
    exact T_end 30 [(8, .pointer (some ⟨R, 0, none⟩)), (10, .pointer (some ⟨g, 0, none⟩)), (11, er)] (by kernel_rfl) (by kernel_rfl) fun _ u => hend u V0 V1 _ d er g hV hE hW2 (hck.but hs3.1 hap) (hs3.2 _ _ hg) hgb hap
  have P1 : ∀ (u : Nat → Value) (W : World) (hW : Below B.heap.size B W) (V0 V1 : World) (d : C3) (er : Value) (hV : Below B.heap.size B V0) (hE : E V0 V1 d er) (h3 : Any3 d) (hck : CKj V0 V1 W), wpS Tryz.prog jrIOps Q (fun W => Below B.heap.size B W) (unl 17 [14, 15, 16], frL u 30 [(8, .pointer (some ⟨R, 0, none⟩)), (24, .agg #[d.c0, d.c1, d.c2]), (25, er)]) [] W := by
    intro u W hW V0 V1 d er hV hE h3 hck
    refine T_one 14 (by kernel_rfl) fun _ => ?_
    exact O_val (w' := W.alloc (.cells #[.int .i64 0, .slice none 0 0, .slice none 0 0] 26)) (some 10) (.pointer (some ⟨W.heap.size, 0, none⟩)) (by kernel_rfl) (by kernel_rfl) (hW.alloc hW.size _) (T_fr 17 30 [15, 16] [(8, .pointer (some ⟨R, 0, none⟩)), (10, .pointer (some ⟨W.heap.size, 0, none⟩)), (24, .agg #[d.c0, d.c1, d.c2]), (25, er)] (by kernel_rfl) fun u => Q1 u _ (hW.alloc hW.size _) V0 V1 d er hV hE h3 (hck.alloc _) _ (row3_alloc W _ _ _ _) hW.size (Or.inr hck.size))
  have Q0 : ∀ (u : Nat → Value) (W : World) (hW : Below B.heap.size B W)   (g : Nat) (hg : W.rowIs g 26 3 (row3 (.int .i64 0) (.slice none 0 0) (.slice none 0 0))) (hgb : B.heap.size ≤ g), wpS Tryz.prog jrIOps Q (fun W => Below B.heap.size B W) (unl 17 [10, 11, 12, 13, 15, 16], frL u 30 [(8, .pointer (some ⟨R, 0, none⟩)), (10, .pointer (some ⟨g, 0, none⟩)), (15, .pointer (some ⟨T, 0, none⟩)), (16, .agg #[c.c0, c.c1, c.c2]), (20, .agg #[x.c0, x.c1, x.c2]), (22, .string path2)]) [] W := by
    intro u W hW   g hg hgb
    refine T_one 10 (by kernel_rfl) fun _ => ?_
    refine O_go (HK W hW) (by kernel_rfl) ?_
    rintro e W1 ⟨hb1, d, er, rfl, h3, hE⟩
    exact ⟨_, rfl, below_onf hW hb1, T_z hq [11, 12, 13] (by kernel_rfl) (T_fr 17 30 [15, 16] [(8, .pointer (some ⟨R, 0, none⟩)), (10, .pointer (some ⟨g, 0, none⟩)), (24, .agg #[d.c0, d.c1, d.c2]), (25, er)] (by kernel_rfl) fun u => Q1 u W1 (below_onf hW hb1) W W1 d er hW hE h3 (CKj.refl _ _) g (hg.of_block (hb1.block _ hg.lt)) hgb (Or.inl hg.lt))⟩
  have P0 : ∀ (u : Nat → Value) (W : World) (hW : Below B.heap.size B W)  , wpS Tryz.prog jrIOps Q (fun W => Below B.heap.size B W) (unl 17 [10, 11, 12, 13, 14, 15, 16], frL u 30 [(8, .pointer (some ⟨R, 0, none⟩)), (15, .pointer (some ⟨T, 0, none⟩)), (16, .agg #[c.c0, c.c1, c.c2]), (20, .agg #[x.c0, x.c1, x.c2]), (22, .string path2)]) [] W := by
    intro u W hW  
    refine T_two 10 14 (by kernel_rfl) (fun _ => ?_) fun _ => ?_
    · refine O_go (HK W hW) (by kernel_rfl) ?_
      rintro e W1 ⟨hb1, d, er, rfl, h3, hE⟩
      exact ⟨_, rfl, below_onf hW hb1, T_z hq [11, 12, 13] (by kernel_rfl) (T_fr 17 30 [14, 15, 16] [(8, .pointer (some ⟨R, 0, none⟩)), (24, .agg #[d.c0, d.c1, d.c2]), (25, er)] (by kernel_rfl) fun u => P1 u W1 (below_onf hW hb1) W W1 d er hW hE h3 (CKj.refl _ _))⟩
    · exact O_val (w' := W.alloc (.cells #[.int .i64 0, .slice none 0 0, .slice none 0 0] 26)) (some 10) (.pointer (some ⟨W.heap.size, 0, none⟩)) (by kernel_rfl) (by kernel_rfl) (hW.alloc hW.size _) (T_fr 17 30 [10, 11, 12, 13, 15, 16] [(8, .pointer (some ⟨R, 0, none⟩)), (10, .pointer (some ⟨W.heap.size, 0, none⟩)), (15, .pointer (some ⟨T, 0, none⟩)), (16, .agg #[c.c0, c.c1, c.c2]), (20, .agg #[x.c0, x.c1, x.c2]), (22, .string path2)] (by kernel_rfl) fun u => Q0 u _ (hW.alloc hW.size _)   _ (row3_alloc W _ _ _ _) hW.size)
  refine T_z hq [0, 1, 2, 4, 8] (by kernel_rfl) ?_
  refine T_a hq [3, 5] (fun w' h => .cons (ldRowJ hA h) (.cons (ldCellJ hC hc2 h) Lds.nil)) (by kernel_rfl) ?_
  refine T_yld hq 6 (some 19) (.pointer (some ⟨yb, yo + 0 * 3, none⟩)) (by kernel_rfl) (by kernel_rfl) (fun w _ => ixKdJ (n := 1) (cap := yc) (i := 0) (X := .tmp 18) (I := .const (.int .i64 0)) (by kernel_rfl) (by kernel_rfl) (by kernel_rfl) (by omega) w) ?_
  refine T_a hq [7] (fun w' h => .cons (K3.ld hy h) Lds.nil) (by kernel_rfl) ?_
  refine T_yld hq 9 (some 22) (.string path2) (by kernel_rfl) (by kernel_rfl) (fun w _ => addRunJ (T := 89) (S := 89) (X := .tmp 21) (Y := .const (.string ⟨#[63]⟩)) (by kernel_rfl) (by kernel_rfl) (by kernel_rfl) hpp hps w) ?_
  exact T_fr 17 30 [10, 11, 12, 13, 14, 15, 16] [(8, .pointer (some ⟨R, 0, none⟩)), (15, .pointer (some ⟨T, 0, none⟩)), (16, .agg #[c.c0, c.c1, c.c2]), (20, .agg #[x.c0, x.c1, x.c2]), (22, .string path2)] (by kernel_rfl) fun u => P0 u _ (Below.refl _ _)
noncomputable def jrLOps : Array Oper := fops Tryz.f52 1
theorem jrL_neat : Region.noSelect jrLOps = true ∧ neat jrLOps = true := ⟨by kernel_rfl, by kernel_rfl⟩
set_option maxRecDepth 100000 in
set_option maxHeartbeats 3200000 in
theorem jrL (T A C R : Nat) (path path2 : ByteArray) (c c2 : C3) (z x : C3) (xb xo xc yb yo yc : Nat) (E : World → World → C3 → Value → Prop) (W0 : World) {l : List Value} (Q : Exit → Act → World → Prop) (hQ : ∀ c a d v w, Q (.panic c) (Act.put a d v) w → Q (.panic c) a w) (hA : W0.drew.rowIs A 26 3 (row3 c.c0 c.c1 c.c2)) (hC : W0.drew.rowIs C 26 3 (row3 c2.c0 c2.c1 c2.c2)) (hc1 : c.c2 = .slice (some ⟨xb, xo, none⟩) 1 xc) (hc2 : c2.c2 = .slice (some ⟨yb, yo, none⟩) 1 yc) (hx : K3 W0.drew xb (xo + 0 * 3) z) (hy : K3 W0.drew yb (yo + 0 * 3) x) (hpp : path ++ ⟨#[91]⟩ = path2) (hps : path.size + (⟨#[91]⟩ : ByteArray).size ≤ 9223372036854775807)
    (HK : ∀ W, Below W0.drew.heap.size W0.drew W → Calls Tryz.prog 55 #[.pointer (some ⟨T, 0, none⟩), .agg #[z.c0, z.c1, z.c2], .agg #[x.c0, x.c1, x.c2], .string path2] W fun e w' => Below W.heap.size W w' ∧ ∃ (d : C3) (er : Value), e = .returned (.tuple #[.agg #[d.c0, d.c1, d.c2], er]) ∧ Any3 d ∧ E W w' d er)
    (hl : lookL [(0, .pointer (some ⟨T, 0, none⟩)), (3, .string path), (5, .pointer (some ⟨A, 0, none⟩)), (6, .pointer (some ⟨C, 0, none⟩)), (8, .pointer (some ⟨R, 0, none⟩))] l = (33, ([(0, .pointer (some ⟨T, 0, none⟩)), (3, .string path), (5, .pointer (some ⟨A, 0, none⟩)), (6, .pointer (some ⟨C, 0, none⟩)), (8, .pointer (some ⟨R, 0, none⟩))] : List (Nat × Value)).map (·.2)))
    (hend : ∀ (u : Nat → Value) (V0 V1 W : World) (d : C3) (er : Value) (g : Nat), Below W0.drew.heap.size W0.drew V0 → E V0 V1 d er → Below W0.drew.heap.size W0.drew W → CKj V0 V1 W → W.rowIs g 26 3 (row3 d.c0 d.c1 d.c2) → W0.drew.heap.size ≤ g → (g < V0.heap.size ∨ V1.heap.size ≤ g) → Q .normal ⟨(frL u 33 [(8, .pointer (some ⟨R, 0, none⟩)), (10, .pointer (some ⟨g, 0, none⟩)), (11, er)]).toArray, []⟩ W) : (Code.region 1 jrLOps true).wp Tryz.prog Q ⟨l.toArray, []⟩ W0 := by
  obtain ⟨v0, rfl⟩ := look_fr hl
  have hq : NtQ jrLOps Q := ⟨jrL_neat, hQ⟩
  refine T_start (S := fun W => Below W0.drew.heap.size W0.drew W) (by kernel_rfl) (Below.refl _ _) ?_
  clear hl hQ
  generalize W0.drew = B at hA hC hx hy HK hend ⊢
  have Q1 : ∀ (u : Nat → Value) (W : World) (hW : Below B.heap.size B W) (V0 V1 : World) (d : C3) (er : Value) (hV : Below B.heap.size B V0) (hE : E V0 V1 d er) (h3 : Any3 d) (hck : CKj V0 V1 W) (g : Nat) (hg : W.rowIs g 26 3 (row3 (.int .i64 0) (.slice none 0 0) (.slice none 0 0))) (hgb : B.heap.size ≤ g) (hap : g < V0.heap.size ∨ V1.heap.size ≤ g), wpS Tryz.prog jrLOps Q (fun W => Below B.heap.size B W) (unl 20 [18, 19], frL u 33 [(8, .pointer (some ⟨R, 0, none⟩)), (10, .pointer (some ⟨g, 0, none⟩)), (27, .agg #[d.c0, d.c1, d.c2]), (28, er)]) [] W := by
    intro u W hW V0 V1 d er hV hE h3 hck g hg hgb hap
    refine T_one 18 (by kernel_rfl) fun _ => ?_
    have hs3 := set3f W g d.c0 d.c1 d.c2
    have hW2 := below_boxf hW hgb hs3.1
    refine O_store_mid none 26 (.tmp 10) (.tmp 27) g 0 #[d.c0, d.c1, d.c2] (by kernel_rfl) (by kernel_rfl) (by kernel_rfl) (there3f hg) sizeKd (h3.one) hW2 ?_
    refine T_z hq [19] (by kernel_rfl) ?_
    exact T_end 33 [(8, .pointer (some ⟨R, 0, none⟩)), (10, .pointer (some ⟨g, 0, none⟩)), (11, er)] (by kernel_rfl) (by kernel_rfl) fun _ u => hend u V0 V1 _ d er g hV hE hW2 (hck.but hs3.1 hap) (hs3.2 _ _ hg) hgb hap
  have P1 : ∀ (u : Nat → Value) (W : World) (hW : Below B.heap.size B W) (V0 V1 : World) (d : C3) (er : Value) (hV : Below B.heap.size B V0) (hE : E V0 V1 d er) (h3 : Any3 d) (hck : CKj V0 V1 W), wpS Tryz.prog jrLOps Q (fun W => Below B.heap.size B W) (unl 20 [17, 18, 19], frL u 33 [(8, .pointer (some ⟨R, 0, none⟩)), (27, .agg #[d.c0, d.c1, d.c2]), (28, er)]) [] W := by
    intro u W hW V0 V1 d er hV hE h3 hck
    refine T_one 17 (by kernel_rfl) fun _ => ?_
    exact O_val (w' := W.alloc (.cells #[.int .i64 0, .slice none 0 0, .slice none 0 0] 26)) (some 10) (.pointer (some ⟨W.heap.size, 0, none⟩)) (by kernel_rfl) (by kernel_rfl) (hW.alloc hW.size _) (T_fr 20 33 [18, 19] [(8, .pointer (some ⟨R, 0, none⟩)), (10, .pointer (some ⟨W.heap.size, 0, none⟩)), (27, .agg #[d.c0, d.c1, d.c2]), (28, er)] (by kernel_rfl) fun u => Q1 u _ (hW.alloc hW.size _) V0 V1 d er hV hE h3 (hck.alloc _) _ (row3_alloc W _ _ _ _) hW.size (Or.inr hck.size))
  have Q0 : ∀ (u : Nat → Value) (W : World) (hW : Below B.heap.size B W)   (g : Nat) (hg : W.rowIs g 26 3 (row3 (.int .i64 0) (.slice none 0 0) (.slice none 0 0))) (hgb : B.heap.size ≤ g), wpS Tryz.prog jrLOps Q (fun W => Below B.heap.size B W) (unl 20 [13, 14, 15, 16, 18, 19], frL u 33 [(8, .pointer (some ⟨R, 0, none⟩)), (10, .pointer (some ⟨g, 0, none⟩)), (15, .pointer (some ⟨T, 0, none⟩)), (19, .agg #[z.c0, z.c1, z.c2]), (23, .agg #[x.c0, x.c1, x.c2]), (25, .string path2)]) [] W := by
    intro u W hW   g hg hgb
    refine T_one 13 (by kernel_rfl) fun _ => ?_
    refine O_go (HK W hW) (by kernel_rfl) ?_
    rintro e W1 ⟨hb1, d, er, rfl, h3, hE⟩
    exact ⟨_, rfl, below_onf hW hb1, T_z hq [14, 15, 16] (by kernel_rfl) (T_fr 20 33 [18, 19] [(8, .pointer (some ⟨R, 0, none⟩)), (10, .pointer (some ⟨g, 0, none⟩)), (27, .agg #[d.c0, d.c1, d.c2]), (28, er)] (by kernel_rfl) fun u => Q1 u W1 (below_onf hW hb1) W W1 d er hW hE h3 (CKj.refl _ _) g (hg.of_block (hb1.block _ hg.lt)) hgb (Or.inl hg.lt))⟩
  have P0 : ∀ (u : Nat → Value) (W : World) (hW : Below B.heap.size B W)  , wpS Tryz.prog jrLOps Q (fun W => Below B.heap.size B W) (unl 20 [13, 14, 15, 16, 17, 18, 19], frL u 33 [(8, .pointer (some ⟨R, 0, none⟩)), (15, .pointer (some ⟨T, 0, none⟩)), (19, .agg #[z.c0, z.c1, z.c2]), (23, .agg #[x.c0, x.c1, x.c2]), (25, .string path2)]) [] W := by
    intro u W hW  
    refine T_two 13 17 (by kernel_rfl) (fun _ => ?_) fun _ => ?_
    · refine O_go (HK W hW) (by kernel_rfl) ?_
      rintro e W1 ⟨hb1, d, er, rfl, h3, hE⟩
      exact ⟨_, rfl, below_onf hW hb1, T_z hq [14, 15, 16] (by kernel_rfl) (T_fr 20 33 [17, 18, 19] [(8, .pointer (some ⟨R, 0, none⟩)), (27, .agg #[d.c0, d.c1, d.c2]), (28, er)] (by kernel_rfl) fun u => P1 u W1 (below_onf hW hb1) W W1 d er hW hE h3 (CKj.refl _ _))⟩
    · exact O_val (w' := W.alloc (.cells #[.int .i64 0, .slice none 0 0, .slice none 0 0] 26)) (some 10) (.pointer (some ⟨W.heap.size, 0, none⟩)) (by kernel_rfl) (by kernel_rfl) (hW.alloc hW.size _) (T_fr 20 33 [13, 14, 15, 16, 18, 19] [(8, .pointer (some ⟨R, 0, none⟩)), (10, .pointer (some ⟨W.heap.size, 0, none⟩)), (15, .pointer (some ⟨T, 0, none⟩)), (19, .agg #[z.c0, z.c1, z.c2]), (23, .agg #[x.c0, x.c1, x.c2]), (25, .string path2)] (by kernel_rfl) fun u => Q0 u _ (hW.alloc hW.size _)   _ (row3_alloc W _ _ _ _) hW.size)
  refine T_z hq [0, 1, 2, 3, 7, 11] (by kernel_rfl) ?_
  refine T_a hq [4, 8] (fun w' h => .cons (ldCellJ hA hc1 h) (.cons (ldCellJ hC hc2 h) Lds.nil)) (by kernel_rfl) ?_
  refine T_yld hq 5 (some 18) (.pointer (some ⟨xb, xo + 0 * 3, none⟩)) (by kernel_rfl) (by kernel_rfl) (fun w _ => ixKdJ (n := 1) (cap := xc) (i := 0) (X := .tmp 17) (I := .const (.int .i64 0)) (by kernel_rfl) (by kernel_rfl) (by kernel_rfl) (by omega) w) ?_
  refine T_yld hq 9 (some 22) (.pointer (some ⟨yb, yo + 0 * 3, none⟩)) (by kernel_rfl) (by kernel_rfl) (fun w _ => ixKdJ (n := 1) (cap := yc) (i := 0) (X := .tmp 21) (I := .const (.int .i64 0)) (by kernel_rfl) (by kernel_rfl) (by kernel_rfl) (by omega) w) ?_
  refine T_a hq [6, 10] (fun w' h => .cons (K3.ld hx h) (.cons (K3.ld hy h) Lds.nil)) (by kernel_rfl) ?_
  refine T_yld hq 12 (some 25) (.string path2) (by kernel_rfl) (by kernel_rfl) (fun w _ => addRunJ (T := 89) (S := 89) (X := .tmp 24) (Y := .const (.string ⟨#[91]⟩)) (by kernel_rfl) (by kernel_rfl) (by kernel_rfl) hpp hps w) ?_
  exact T_fr 20 33 [13, 14, 15, 16, 17, 18, 19] [(8, .pointer (some ⟨R, 0, none⟩)), (15, .pointer (some ⟨T, 0, none⟩)), (19, .agg #[z.c0, z.c1, z.c2]), (23, .agg #[x.c0, x.c1, x.c2]), (25, .string path2)] (by kernel_rfl) fun u => P0 u _ (Below.refl _ _)
def kp_jrF (z : Nat → Value) : List (Nat × Value) := [1, 2, 4, 7, 8, 9, 10, 11, 12, 13, 17, 18, 19, 20, 21, 22, 23, 24, 25, 26, 27, 44, 45, 46, 47, 48, 49, 50, 51, 52, 53].map fun i => (i, z i)
noncomputable def jrFOps : Array Oper := fops Tryz.f73 6
theorem jrF_neat : Region.noSelect jrFOps = true ∧ neat jrFOps = true := ⟨by kernel_rfl, by kernel_rfl⟩
set_option maxRecDepth 100000 in
set_option maxHeartbeats 3200000 in
theorem jrFz (z : Nat → Value) (LL : (Nat → Value) → Nat → Value → List Value) (T A C : Nat) (path path2 path3 path4 nm : ByteArray) (c c2 : C3) (GA GB : World → C3 → Prop) (GAon : ∀ W W' y, Below W.heap.size W W' → GA W y → GA W' y) (GBon : ∀ W W' y, Below W.heap.size W W' → GB W y → GB W' y) (E : World → World → C3 → Value → Prop) (W0 : World) {l : List Value} (Q : Exit → Act → World → Prop) (hQ : ∀ c a d v w, Q (.panic c) (Act.put a d v) w → Q (.panic c) a w) (hA : W0.drew.rowIs A 26 3 (row3 c.c0 c.c1 c.c2)) (hC : W0.drew.rowIs C 26 3 (row3 c2.c0 c2.c1 c2.c2)) (hp2 : path ++ ⟨#[123]⟩ = path2) (hz2 : path.size + (⟨#[123]⟩ : ByteArray).size ≤ 9223372036854775807) (hp3 : path2 ++ nm = path3) (hz3 : path2.size + nm.size ≤ 9223372036854775807) (hp4 : path3 ++ ⟨#[58]⟩ = path4) (hz4 : path3.size + (⟨#[58]⟩ : ByteArray).size ≤ 9223372036854775807)
    (HKx : ∀ W, Below W0.drew.heap.size W0.drew W → Calls Tryz.prog 94 #[.agg #[c.c0, c.c1, c.c2], .string nm] W fun e w' => Below W.heap.size W w' ∧ ∃ y : C3, e = .returned (.agg #[y.c0, y.c1, y.c2]) ∧ GA w' y) (HKy : ∀ W, Below W0.drew.heap.size W0.drew W → Calls Tryz.prog 94 #[.agg #[c2.c0, c2.c1, c2.c2], .string nm] W fun e w' => Below W.heap.size W w' ∧ ∃ y : C3, e = .returned (.agg #[y.c0, y.c1, y.c2]) ∧ GB w' y) (HK : ∀ W (x y : C3), Below W0.drew.heap.size W0.drew W → GA W x → GB W y → Calls Tryz.prog 55 #[.pointer (some ⟨T, 0, none⟩), .agg #[x.c0, x.c1, x.c2], .agg #[y.c0, y.c1, y.c2], .string path4] W fun e w' => Below W.heap.size W w' ∧ ∃ (d : C3) (er : Value), e = .returned (.tuple #[.agg #[d.c0, d.c1, d.c2], er]) ∧ Any3 d ∧ E W w' d er)
    (hl : lookL (kp_jrF z ++ [(0, .pointer (some ⟨T, 0, none⟩)), (3, .string path), (5, .pointer (some ⟨A, 0, none⟩)), (6, .pointer (some ⟨C, 0, none⟩)), (14, .string nm)]) l = (54, ((kp_jrF z ++ [(0, .pointer (some ⟨T, 0, none⟩)), (3, .string path), (5, .pointer (some ⟨A, 0, none⟩)), (6, .pointer (some ⟨C, 0, none⟩)), (14, .string nm)]) : List (Nat × Value)).map (·.2)))
    (hfr : ∀ (u : Nat → Value) (g : Nat) (er : Value), frL u 54 (kp_jrF z ++ [(0, .pointer (some ⟨T, 0, none⟩)), (3, .string path), (5, .pointer (some ⟨A, 0, none⟩)), (6, .pointer (some ⟨C, 0, none⟩)), (14, .string nm), (15, .pointer (some ⟨g, 0, none⟩)), (16, er)]) = LL u g er)
    (hend : ∀ (u : Nat → Value) (V0 V1 W : World) (d : C3) (er : Value) (g : Nat), Below W0.drew.heap.size W0.drew V0 → E V0 V1 d er → Below W0.drew.heap.size W0.drew W → CKj V0 V1 W → W.rowIs g 26 3 (row3 d.c0 d.c1 d.c2) → W0.drew.heap.size ≤ g → (g < V0.heap.size ∨ V1.heap.size ≤ g) → Q .normal ⟨(LL u g er).toArray, []⟩ W) : (Code.region 6 jrFOps true).wp Tryz.prog Q ⟨l.toArray, []⟩ W0 := by
  obtain ⟨v0, rfl⟩ := look_fr hl
  have hq : NtQ jrFOps Q := ⟨jrF_neat, hQ⟩
  refine T_start (S := fun W => Below W0.drew.heap.size W0.drew W) (by kernel_rfl) (Below.refl _ _) ?_
  clear hl hQ
  generalize W0.drew = B at hA hC HKx HKy HK hend ⊢
  have Q3 : ∀ (u : Nat → Value) (W : World) (hW : Below B.heap.size B W) (V0 V1 : World) (d : C3) (er : Value) (hV : Below B.heap.size B V0) (hE : E V0 V1 d er) (h3 : Any3 d) (hck : CKj V0 V1 W) (g : Nat) (hg : W.rowIs g 26 3 (row3 (.int .i64 0) (.slice none 0 0) (.slice none 0 0))) (hgb : B.heap.size ≤ g) (hap : g < V0.heap.size ∨ V1.heap.size ≤ g), wpS Tryz.prog jrFOps Q (fun W => Below B.heap.size B W) (unl 19 [17, 18], frL u 54 (kp_jrF z ++ [(0, .pointer (some ⟨T, 0, none⟩)), (3, .string path), (5, .pointer (some ⟨A, 0, none⟩)), (6, .pointer (some ⟨C, 0, none⟩)), (14, .string nm), (15, .pointer (some ⟨g, 0, none⟩)), (42, .agg #[d.c0, d.c1, d.c2]), (43, er)])) [] W := by
    intro u W hW V0 V1 d er hV hE h3 hck g hg hgb hap
    refine T_one 17 (by kernel_rfl) fun _ => ?_
    have hs3 := set3f W g d.c0 d.c1 d.c2
    have hW2 := below_boxf hW hgb hs3.1
    refine O_store_mid none 26 (.tmp 15) (.tmp 42) g 0 #[d.c0, d.c1, d.c2] (by kernel_rfl) (by kernel_rfl) (by kernel_rfl) (there3f hg) sizeKd (h3.one) hW2 ?_
    refine T_z hq [18] (by kernel_rfl) ?_
    exact T_end 54 (kp_jrF z ++ [(0, .pointer (some ⟨T, 0, none⟩)), (3, .string path), (5, .pointer (some ⟨A, 0, none⟩)), (6, .pointer (some ⟨C, 0, none⟩)), (14, .string nm), (15, .pointer (some ⟨g, 0, none⟩)), (16, er)]) (by kernel_rfl) (by kernel_rfl) fun _ u => by rw [hfr]; exact hend u V0 V1 _ d er g hV hE hW2 (hck.but hs3.1 hap) (hs3.2 _ _ hg) hgb hap
  have P3 : ∀ (u : Nat → Value) (W : World) (hW : Below B.heap.size B W) (V0 V1 : World) (d : C3) (er : Value) (hV : Below B.heap.size B V0) (hE : E V0 V1 d er) (h3 : Any3 d) (hck : CKj V0 V1 W), wpS Tryz.prog jrFOps Q (fun W => Below B.heap.size B W) (unl 19 [16, 17, 18], frL u 54 (kp_jrF z ++ [(0, .pointer (some ⟨T, 0, none⟩)), (3, .string path), (5, .pointer (some ⟨A, 0, none⟩)), (6, .pointer (some ⟨C, 0, none⟩)), (14, .string nm), (42, .agg #[d.c0, d.c1, d.c2]), (43, er)])) [] W := by
    intro u W hW V0 V1 d er hV hE h3 hck
    refine T_one 16 (by kernel_rfl) fun _ => ?_
    exact O_val (w' := W.alloc (.cells #[.int .i64 0, .slice none 0 0, .slice none 0 0] 26)) (some 15) (.pointer (some ⟨W.heap.size, 0, none⟩)) (by kernel_rfl) (by kernel_rfl) (hW.alloc hW.size _) (T_fr 19 54 [17, 18] (kp_jrF z ++ [(0, .pointer (some ⟨T, 0, none⟩)), (3, .string path), (5, .pointer (some ⟨A, 0, none⟩)), (6, .pointer (some ⟨C, 0, none⟩)), (14, .string nm), (15, .pointer (some ⟨W.heap.size, 0, none⟩)), (42, .agg #[d.c0, d.c1, d.c2]), (43, er)]) (by kernel_rfl) fun u => Q3 u _ (hW.alloc hW.size _) V0 V1 d er hV hE h3 (hck.alloc _) _ (row3_alloc W _ _ _ _) hW.size (Or.inr hck.size))
  have Q2 : ∀ (u : Nat → Value) (W : World) (hW : Below B.heap.size B W) (x : C3) (y : C3) (hx : GA W x) (hy : GB W y) (g : Nat) (hg : W.rowIs g 26 3 (row3 (.int .i64 0) (.slice none 0 0) (.slice none 0 0))) (hgb : B.heap.size ≤ g), wpS Tryz.prog jrFOps Q (fun W => Below B.heap.size B W) (unl 19 [12, 13, 14, 15, 17, 18], frL u 54 (kp_jrF z ++ [(0, .pointer (some ⟨T, 0, none⟩)), (3, .string path), (5, .pointer (some ⟨A, 0, none⟩)), (6, .pointer (some ⟨C, 0, none⟩)), (14, .string nm), (15, .pointer (some ⟨g, 0, none⟩)), (29, .pointer (some ⟨T, 0, none⟩)), (30, .agg #[c.c0, c.c1, c.c2]), (31, .string nm), (32, .agg #[x.c0, x.c1, x.c2]), (33, .agg #[c2.c0, c2.c1, c2.c2]), (34, .string nm), (35, .agg #[y.c0, y.c1, y.c2]), (40, .string path4)])) [] W := by
    intro u W hW x y hx hy g hg hgb
    refine T_one 12 (by kernel_rfl) fun _ => ?_
    refine O_go (HK W x y hW hx hy) (by kernel_rfl) ?_
    rintro e W1 ⟨hb1, d, er, rfl, h3, hE⟩
    exact ⟨_, rfl, below_onf hW hb1, T_z hq [13, 14, 15] (by kernel_rfl) (T_fr 19 54 [17, 18] (kp_jrF z ++ [(0, .pointer (some ⟨T, 0, none⟩)), (3, .string path), (5, .pointer (some ⟨A, 0, none⟩)), (6, .pointer (some ⟨C, 0, none⟩)), (14, .string nm), (15, .pointer (some ⟨g, 0, none⟩)), (42, .agg #[d.c0, d.c1, d.c2]), (43, er)]) (by kernel_rfl) fun u => Q3 u W1 (below_onf hW hb1) W W1 d er hW hE h3 (CKj.refl _ _) g (hg.of_block (hb1.block _ hg.lt)) hgb (Or.inl hg.lt))⟩
  have P2 : ∀ (u : Nat → Value) (W : World) (hW : Below B.heap.size B W) (x : C3) (y : C3) (hx : GA W x) (hy : GB W y), wpS Tryz.prog jrFOps Q (fun W => Below B.heap.size B W) (unl 19 [12, 13, 14, 15, 16, 17, 18], frL u 54 (kp_jrF z ++ [(0, .pointer (some ⟨T, 0, none⟩)), (3, .string path), (5, .pointer (some ⟨A, 0, none⟩)), (6, .pointer (some ⟨C, 0, none⟩)), (14, .string nm), (29, .pointer (some ⟨T, 0, none⟩)), (30, .agg #[c.c0, c.c1, c.c2]), (31, .string nm), (32, .agg #[x.c0, x.c1, x.c2]), (33, .agg #[c2.c0, c2.c1, c2.c2]), (34, .string nm), (35, .agg #[y.c0, y.c1, y.c2]), (40, .string path4)])) [] W := by
    intro u W hW x y hx hy
    refine T_two 12 16 (by kernel_rfl) (fun _ => ?_) fun _ => ?_
    · refine O_go (HK W x y hW hx hy) (by kernel_rfl) ?_
      rintro e W1 ⟨hb1, d, er, rfl, h3, hE⟩
      exact ⟨_, rfl, below_onf hW hb1, T_z hq [13, 14, 15] (by kernel_rfl) (T_fr 19 54 [16, 17, 18] (kp_jrF z ++ [(0, .pointer (some ⟨T, 0, none⟩)), (3, .string path), (5, .pointer (some ⟨A, 0, none⟩)), (6, .pointer (some ⟨C, 0, none⟩)), (14, .string nm), (42, .agg #[d.c0, d.c1, d.c2]), (43, er)]) (by kernel_rfl) fun u => P3 u W1 (below_onf hW hb1) W W1 d er hW hE h3 (CKj.refl _ _))⟩
    · exact O_val (w' := W.alloc (.cells #[.int .i64 0, .slice none 0 0, .slice none 0 0] 26)) (some 15) (.pointer (some ⟨W.heap.size, 0, none⟩)) (by kernel_rfl) (by kernel_rfl) (hW.alloc hW.size _) (T_fr 19 54 [12, 13, 14, 15, 17, 18] (kp_jrF z ++ [(0, .pointer (some ⟨T, 0, none⟩)), (3, .string path), (5, .pointer (some ⟨A, 0, none⟩)), (6, .pointer (some ⟨C, 0, none⟩)), (14, .string nm), (15, .pointer (some ⟨W.heap.size, 0, none⟩)), (29, .pointer (some ⟨T, 0, none⟩)), (30, .agg #[c.c0, c.c1, c.c2]), (31, .string nm), (32, .agg #[x.c0, x.c1, x.c2]), (33, .agg #[c2.c0, c2.c1, c2.c2]), (34, .string nm), (35, .agg #[y.c0, y.c1, y.c2]), (40, .string path4)]) (by kernel_rfl) fun u => Q2 u _ (hW.alloc hW.size _) x y (GAon _ _ _ ((Below.refl _ _).alloc (Nat.le_refl _) _) hx) (GBon _ _ _ ((Below.refl _ _).alloc (Nat.le_refl _) _) hy) _ (row3_alloc W _ _ _ _) hW.size)
  have Q1 : ∀ (u : Nat → Value) (W : World) (hW : Below B.heap.size B W) (x : C3) (hx : GA W x) (g : Nat) (hg : W.rowIs g 26 3 (row3 (.int .i64 0) (.slice none 0 0) (.slice none 0 0))) (hgb : B.heap.size ≤ g), wpS Tryz.prog jrFOps Q (fun W => Below B.heap.size B W) (unl 19 [6, 12, 13, 14, 15, 17, 18], frL u 54 (kp_jrF z ++ [(0, .pointer (some ⟨T, 0, none⟩)), (3, .string path), (5, .pointer (some ⟨A, 0, none⟩)), (6, .pointer (some ⟨C, 0, none⟩)), (14, .string nm), (15, .pointer (some ⟨g, 0, none⟩)), (29, .pointer (some ⟨T, 0, none⟩)), (30, .agg #[c.c0, c.c1, c.c2]), (31, .string nm), (32, .agg #[x.c0, x.c1, x.c2]), (33, .agg #[c2.c0, c2.c1, c2.c2]), (34, .string nm), (40, .string path4)])) [] W := by
    intro u W hW x hx g hg hgb
    refine T_one 6 (by kernel_rfl) fun _ => ?_
    refine O_go (HKy W hW) (by kernel_rfl) ?_
    rintro e W1 ⟨hb1, y, rfl, hn⟩
    exact ⟨_, rfl, below_onf hW hb1, (T_fr 19 54 [12, 13, 14, 15, 17, 18] (kp_jrF z ++ [(0, .pointer (some ⟨T, 0, none⟩)), (3, .string path), (5, .pointer (some ⟨A, 0, none⟩)), (6, .pointer (some ⟨C, 0, none⟩)), (14, .string nm), (15, .pointer (some ⟨g, 0, none⟩)), (29, .pointer (some ⟨T, 0, none⟩)), (30, .agg #[c.c0, c.c1, c.c2]), (31, .string nm), (32, .agg #[x.c0, x.c1, x.c2]), (33, .agg #[c2.c0, c2.c1, c2.c2]), (34, .string nm), (35, .agg #[y.c0, y.c1, y.c2]), (40, .string path4)]) (by kernel_rfl) fun u => Q2 u W1 (below_onf hW hb1) x y (GAon _ _ _ hb1 hx) hn g (hg.of_block (hb1.block _ hg.lt)) hgb)⟩
  have P1 : ∀ (u : Nat → Value) (W : World) (hW : Below B.heap.size B W) (x : C3) (hx : GA W x), wpS Tryz.prog jrFOps Q (fun W => Below B.heap.size B W) (unl 19 [6, 12, 13, 14, 15, 16, 17, 18], frL u 54 (kp_jrF z ++ [(0, .pointer (some ⟨T, 0, none⟩)), (3, .string path), (5, .pointer (some ⟨A, 0, none⟩)), (6, .pointer (some ⟨C, 0, none⟩)), (14, .string nm), (29, .pointer (some ⟨T, 0, none⟩)), (30, .agg #[c.c0, c.c1, c.c2]), (31, .string nm), (32, .agg #[x.c0, x.c1, x.c2]), (33, .agg #[c2.c0, c2.c1, c2.c2]), (34, .string nm), (40, .string path4)])) [] W := by
    intro u W hW x hx
    refine T_two 6 16 (by kernel_rfl) (fun _ => ?_) fun _ => ?_
    · refine O_go (HKy W hW) (by kernel_rfl) ?_
      rintro e W1 ⟨hb1, y, rfl, hn⟩
      exact ⟨_, rfl, below_onf hW hb1, (T_fr 19 54 [12, 13, 14, 15, 16, 17, 18] (kp_jrF z ++ [(0, .pointer (some ⟨T, 0, none⟩)), (3, .string path), (5, .pointer (some ⟨A, 0, none⟩)), (6, .pointer (some ⟨C, 0, none⟩)), (14, .string nm), (29, .pointer (some ⟨T, 0, none⟩)), (30, .agg #[c.c0, c.c1, c.c2]), (31, .string nm), (32, .agg #[x.c0, x.c1, x.c2]), (33, .agg #[c2.c0, c2.c1, c2.c2]), (34, .string nm), (35, .agg #[y.c0, y.c1, y.c2]), (40, .string path4)]) (by kernel_rfl) fun u => P2 u W1 (below_onf hW hb1) x y (GAon _ _ _ hb1 hx) hn)⟩
    · exact O_val (w' := W.alloc (.cells #[.int .i64 0, .slice none 0 0, .slice none 0 0] 26)) (some 15) (.pointer (some ⟨W.heap.size, 0, none⟩)) (by kernel_rfl) (by kernel_rfl) (hW.alloc hW.size _) (T_fr 19 54 [6, 12, 13, 14, 15, 17, 18] (kp_jrF z ++ [(0, .pointer (some ⟨T, 0, none⟩)), (3, .string path), (5, .pointer (some ⟨A, 0, none⟩)), (6, .pointer (some ⟨C, 0, none⟩)), (14, .string nm), (15, .pointer (some ⟨W.heap.size, 0, none⟩)), (29, .pointer (some ⟨T, 0, none⟩)), (30, .agg #[c.c0, c.c1, c.c2]), (31, .string nm), (32, .agg #[x.c0, x.c1, x.c2]), (33, .agg #[c2.c0, c2.c1, c2.c2]), (34, .string nm), (40, .string path4)]) (by kernel_rfl) fun u => Q1 u _ (hW.alloc hW.size _) x (GAon _ _ _ ((Below.refl _ _).alloc (Nat.le_refl _) _) hx) _ (row3_alloc W _ _ _ _) hW.size)
  have Q0 : ∀ (u : Nat → Value) (W : World) (hW : Below B.heap.size B W)   (g : Nat) (hg : W.rowIs g 26 3 (row3 (.int .i64 0) (.slice none 0 0) (.slice none 0 0))) (hgb : B.heap.size ≤ g), wpS Tryz.prog jrFOps Q (fun W => Below B.heap.size B W) (unl 19 [3, 6, 12, 13, 14, 15, 17, 18], frL u 54 (kp_jrF z ++ [(0, .pointer (some ⟨T, 0, none⟩)), (3, .string path), (5, .pointer (some ⟨A, 0, none⟩)), (6, .pointer (some ⟨C, 0, none⟩)), (14, .string nm), (15, .pointer (some ⟨g, 0, none⟩)), (29, .pointer (some ⟨T, 0, none⟩)), (30, .agg #[c.c0, c.c1, c.c2]), (31, .string nm), (33, .agg #[c2.c0, c2.c1, c2.c2]), (34, .string nm), (40, .string path4)])) [] W := by
    intro u W hW   g hg hgb
    refine T_one 3 (by kernel_rfl) fun _ => ?_
    refine O_go (HKx W hW) (by kernel_rfl) ?_
    rintro e W1 ⟨hb1, x, rfl, hn⟩
    exact ⟨_, rfl, below_onf hW hb1, (T_fr 19 54 [6, 12, 13, 14, 15, 17, 18] (kp_jrF z ++ [(0, .pointer (some ⟨T, 0, none⟩)), (3, .string path), (5, .pointer (some ⟨A, 0, none⟩)), (6, .pointer (some ⟨C, 0, none⟩)), (14, .string nm), (15, .pointer (some ⟨g, 0, none⟩)), (29, .pointer (some ⟨T, 0, none⟩)), (30, .agg #[c.c0, c.c1, c.c2]), (31, .string nm), (32, .agg #[x.c0, x.c1, x.c2]), (33, .agg #[c2.c0, c2.c1, c2.c2]), (34, .string nm), (40, .string path4)]) (by kernel_rfl) fun u => Q1 u W1 (below_onf hW hb1) x  hn g (hg.of_block (hb1.block _ hg.lt)) hgb)⟩
  have P0 : ∀ (u : Nat → Value) (W : World) (hW : Below B.heap.size B W)  , wpS Tryz.prog jrFOps Q (fun W => Below B.heap.size B W) (unl 19 [3, 6, 12, 13, 14, 15, 16, 17, 18], frL u 54 (kp_jrF z ++ [(0, .pointer (some ⟨T, 0, none⟩)), (3, .string path), (5, .pointer (some ⟨A, 0, none⟩)), (6, .pointer (some ⟨C, 0, none⟩)), (14, .string nm), (29, .pointer (some ⟨T, 0, none⟩)), (30, .agg #[c.c0, c.c1, c.c2]), (31, .string nm), (33, .agg #[c2.c0, c2.c1, c2.c2]), (34, .string nm), (40, .string path4)])) [] W := by
    intro u W hW  
    refine T_two 3 16 (by kernel_rfl) (fun _ => ?_) fun _ => ?_
    · refine O_go (HKx W hW) (by kernel_rfl) ?_
      rintro e W1 ⟨hb1, x, rfl, hn⟩
      exact ⟨_, rfl, below_onf hW hb1, (T_fr 19 54 [6, 12, 13, 14, 15, 16, 17, 18] (kp_jrF z ++ [(0, .pointer (some ⟨T, 0, none⟩)), (3, .string path), (5, .pointer (some ⟨A, 0, none⟩)), (6, .pointer (some ⟨C, 0, none⟩)), (14, .string nm), (29, .pointer (some ⟨T, 0, none⟩)), (30, .agg #[c.c0, c.c1, c.c2]), (31, .string nm), (32, .agg #[x.c0, x.c1, x.c2]), (33, .agg #[c2.c0, c2.c1, c2.c2]), (34, .string nm), (40, .string path4)]) (by kernel_rfl) fun u => P1 u W1 (below_onf hW hb1) x  hn)⟩
    · exact O_val (w' := W.alloc (.cells #[.int .i64 0, .slice none 0 0, .slice none 0 0] 26)) (some 15) (.pointer (some ⟨W.heap.size, 0, none⟩)) (by kernel_rfl) (by kernel_rfl) (hW.alloc hW.size _) (T_fr 19 54 [3, 6, 12, 13, 14, 15, 17, 18] (kp_jrF z ++ [(0, .pointer (some ⟨T, 0, none⟩)), (3, .string path), (5, .pointer (some ⟨A, 0, none⟩)), (6, .pointer (some ⟨C, 0, none⟩)), (14, .string nm), (15, .pointer (some ⟨W.heap.size, 0, none⟩)), (29, .pointer (some ⟨T, 0, none⟩)), (30, .agg #[c.c0, c.c1, c.c2]), (31, .string nm), (33, .agg #[c2.c0, c2.c1, c2.c2]), (34, .string nm), (40, .string path4)]) (by kernel_rfl) fun u => Q0 u _ (hW.alloc hW.size _)   _ (row3_alloc W _ _ _ _) hW.size)
  refine T_z hq [0, 2, 5, 7, 9] (by kernel_rfl) ?_
  refine T_a hq [1, 4] (fun w' h => .cons (ldRowJ hA h) (.cons (ldRowJ hC h) Lds.nil)) (by kernel_rfl) ?_
  refine T_yld hq 8 (some 37) (.string path2) (by kernel_rfl) (by kernel_rfl) (fun w _ => addRunJ (T := 89) (S := 89) (X := .tmp 36) (Y := .const (.string ⟨#[123]⟩)) (by kernel_rfl) (by kernel_rfl) (by kernel_rfl) hp2 hz2 w) ?_
  refine T_yld hq 10 (some 39) (.string path3) (by kernel_rfl) (by kernel_rfl) (fun w _ => addRunJ (T := 89) (S := 89) (X := .tmp 37) (Y := .tmp 38) (by kernel_rfl) (by kernel_rfl) (by kernel_rfl) hp3 hz3 w) ?_
  refine T_yld hq 11 (some 40) (.string path4) (by kernel_rfl) (by kernel_rfl) (fun w _ => addRunJ (T := 89) (S := 89) (X := .tmp 39) (Y := .const (.string ⟨#[58]⟩)) (by kernel_rfl) (by kernel_rfl) (by kernel_rfl) hp4 hz4 w) ?_
  exact T_fr 19 54 [3, 6, 12, 13, 14, 15, 16, 17, 18] (kp_jrF z ++ [(0, .pointer (some ⟨T, 0, none⟩)), (3, .string path), (5, .pointer (some ⟨A, 0, none⟩)), (6, .pointer (some ⟨C, 0, none⟩)), (14, .string nm), (29, .pointer (some ⟨T, 0, none⟩)), (30, .agg #[c.c0, c.c1, c.c2]), (31, .string nm), (33, .agg #[c2.c0, c2.c1, c2.c2]), (34, .string nm), (40, .string path4)]) (by kernel_rfl) fun u => P0 u _ (Below.refl _ _)
theorem jrF (T A C : Nat) (path path2 path3 path4 nm : ByteArray) (c c2 : C3) (GA GB : World → C3 → Prop) (GAon : ∀ W W' y, Below W.heap.size W W' → GA W y → GA W' y) (GBon : ∀ W W' y, Below W.heap.size W W' → GB W y → GB W' y) (E : World → World → C3 → Value → Prop) (W0 : World) {l : List Value} (Q : Exit → Act → World → Prop) (hQ : ∀ c a d v w, Q (.panic c) (Act.put a d v) w → Q (.panic c) a w) (hA : W0.drew.rowIs A 26 3 (row3 c.c0 c.c1 c.c2)) (hC : W0.drew.rowIs C 26 3 (row3 c2.c0 c2.c1 c2.c2)) (hp2 : path ++ ⟨#[123]⟩ = path2) (hz2 : path.size + (⟨#[123]⟩ : ByteArray).size ≤ 9223372036854775807) (hp3 : path2 ++ nm = path3) (hz3 : path2.size + nm.size ≤ 9223372036854775807) (hp4 : path3 ++ ⟨#[58]⟩ = path4) (hz4 : path3.size + (⟨#[58]⟩ : ByteArray).size ≤ 9223372036854775807)
    (HKx : ∀ W, Below W0.drew.heap.size W0.drew W → Calls Tryz.prog 94 #[.agg #[c.c0, c.c1, c.c2], .string nm] W fun e w' => Below W.heap.size W w' ∧ ∃ y : C3, e = .returned (.agg #[y.c0, y.c1, y.c2]) ∧ GA w' y) (HKy : ∀ W, Below W0.drew.heap.size W0.drew W → Calls Tryz.prog 94 #[.agg #[c2.c0, c2.c1, c2.c2], .string nm] W fun e w' => Below W.heap.size W w' ∧ ∃ y : C3, e = .returned (.agg #[y.c0, y.c1, y.c2]) ∧ GB w' y) (HK : ∀ W (x y : C3), Below W0.drew.heap.size W0.drew W → GA W x → GB W y → Calls Tryz.prog 55 #[.pointer (some ⟨T, 0, none⟩), .agg #[x.c0, x.c1, x.c2], .agg #[y.c0, y.c1, y.c2], .string path4] W fun e w' => Below W.heap.size W w' ∧ ∃ (d : C3) (er : Value), e = .returned (.tuple #[.agg #[d.c0, d.c1, d.c2], er]) ∧ Any3 d ∧ E W w' d er)
    (hl : lookL (kp_jrF (fun i => l.getD i undef) ++ [(0, .pointer (some ⟨T, 0, none⟩)), (3, .string path), (5, .pointer (some ⟨A, 0, none⟩)), (6, .pointer (some ⟨C, 0, none⟩)), (14, .string nm)]) l = (54, ((kp_jrF (fun i => l.getD i undef) ++ [(0, .pointer (some ⟨T, 0, none⟩)), (3, .string path), (5, .pointer (some ⟨A, 0, none⟩)), (6, .pointer (some ⟨C, 0, none⟩)), (14, .string nm)]) : List (Nat × Value)).map (·.2)))
    (hfr : ∀ (u : Nat → Value) (g : Nat) (er : Value), frL u 54 (kp_jrF (fun i => l.getD i undef) ++ [(0, .pointer (some ⟨T, 0, none⟩)), (3, .string path), (5, .pointer (some ⟨A, 0, none⟩)), (6, .pointer (some ⟨C, 0, none⟩)), (14, .string nm), (15, .pointer (some ⟨g, 0, none⟩)), (16, er)]) = l.take 15 ++ (.pointer (some ⟨g, 0, none⟩) :: er :: ((l.drop 17).take 11 ++ (u 28 :: u 29 :: u 30 :: u 31 :: u 32 :: u 33 :: u 34 :: u 35 :: u 36 :: u 37 :: u 38 :: u 39 :: u 40 :: u 41 :: u 42 :: u 43 :: l.drop 44))))
    (hend : ∀ (u : Nat → Value) (V0 V1 W : World) (d : C3) (er : Value) (g : Nat), Below W0.drew.heap.size W0.drew V0 → E V0 V1 d er → Below W0.drew.heap.size W0.drew W → CKj V0 V1 W → W.rowIs g 26 3 (row3 d.c0 d.c1 d.c2) → W0.drew.heap.size ≤ g → (g < V0.heap.size ∨ V1.heap.size ≤ g) → Q .normal ⟨(l.take 15 ++ (.pointer (some ⟨g, 0, none⟩) :: er :: ((l.drop 17).take 11 ++ (u 28 :: u 29 :: u 30 :: u 31 :: u 32 :: u 33 :: u 34 :: u 35 :: u 36 :: u 37 :: u 38 :: u 39 :: u 40 :: u 41 :: u 42 :: u 43 :: l.drop 44)))).toArray, []⟩ W) : (Code.region 6 jrFOps true).wp Tryz.prog Q ⟨l.toArray, []⟩ W0 :=
  jrFz (fun i => l.getD i undef) (fun u g er => l.take 15 ++ (.pointer (some ⟨g, 0, none⟩) :: er :: ((l.drop 17).take 11 ++ (u 28 :: u 29 :: u 30 :: u 31 :: u 32 :: u 33 :: u 34 :: u 35 :: u 36 :: u 37 :: u 38 :: u 39 :: u 40 :: u 41 :: u 42 :: u 43 :: l.drop 44)))) T A C path path2 path3 path4 nm c c2 GA GB GAon GBon E W0 Q hQ hA hC hp2 hz2 hp3 hz3 hp4 hz4 HKx HKy HK hl hfr hend
end Go.Proofs.YtenpghndgdemnaaGreatDoor
