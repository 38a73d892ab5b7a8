/- The program's ofForm at the table of widenings: its drawn region. Conditions: the fields are taken by their contract (a hypothesis). -/
import Derived.Test.YtcpfelaffclalaaGreatDoorPart14
import Derived.Test.YtcpfelaffclalaaGreatDoorPart06
namespace Go.Proofs.YtcpfelaffclalaaGreatDoor
open Go Go.RowKit

/-- What a call laid is as it was. -/
structure CK (V0 V1 W : World) : Prop where
  size : V1.heap.size ≤ W.heap.size
  block : ∀ b, V0.heap.size ≤ b → b < V1.heap.size → W.heap[b]? = V1.heap[b]?
/-- A block that the call did not lay. -/
def Ap (V0 V1 : World) (g : Nat) : Prop := g < V0.heap.size ∨ V1.heap.size ≤ g
theorem CK.refl (V0 V1 : World) : CK V0 V1 V1 := ⟨Nat.le_refl _, fun _ _ _ => rfl⟩
theorem CK.alloc {V0 V1 W : World} (h : CK V0 V1 W) (o : Obj) : CK V0 V1 (W.alloc o) := ⟨by rw [World.size_alloc]; exact Nat.le_succ_of_le h.size, fun b h0 h1 => (Below.heap_alloc _ _ _ (Nat.lt_of_lt_of_le h1 h.size)).trans (h.block b h0 h1)⟩
theorem CK.set {V0 V1 W : World} (h : CK V0 V1 W) {g : Nat} (hg : Ap V0 V1 g) (v : Value) : CK V0 V1 (W.setCell ⟨g, 0, none⟩ v) := by
  refine ⟨by simpa [World.setCell] using h.size, fun b h0 h1 => ?_⟩
  rw [Below.heap_setCell _ _ _ _ ?_]
  · exact h.block b h0 h1
  · intro e
    have e2 : b = g := by simpa using e
    rcases hg with hg | hg <;> omega
theorem stStrs {w : World} {g : Nat} {f : Nat → Value} (h : w.rowIs g 22 1 f) (a : Option Addr) (l c : Nat) : (Instr.storeAt 22 (.pointer (some ⟨g, 0, none⟩)) (.slice a l c)).run Tryz.prog w = .ok () (w.setCell ⟨g, 0, none⟩ (.slice a l c)) := by
  have h1 := h.cell (i := 0) (by omega)
  have h2 := h.frozen 0
  simp [Instr.storeAt, Instr.sureAddr, storeVar, storeCells, Value.cells, go_sem, h1, h2]
theorem stFns {w : World} {g : Nat} {f : Nat → Value} (h : w.rowIs g 126 1 f) (a : Option Addr) (l c : Nat) : (Instr.storeAt 126 (.pointer (some ⟨g, 0, none⟩)) (.slice a l c)).run Tryz.prog w = .ok () (w.setCell ⟨g, 0, none⟩ (.slice a l c)) := by
  have h1 := h.cell (i := 0) (by omega)
  have h2 := h.frozen 0
  simp [Instr.storeAt, Instr.sureAddr, storeVar, storeCells, Value.cells, go_sem, h1, h2]
theorem row1_alloc (w : World) (v : Value) (t : TypeId) : (w.alloc (.cells #[v] t)).rowIs w.heap.size t 1 (fun _ => v) := World.rowIs_alloc w #[v] t (fun _ => v) (fun i hi => by
  have hi' : i < 1 := hi
  obtain rfl : i = 0 := by omega
  rfl)
theorem below_set1 {B W : World} {g : Nat} (h : Below B.heap.size B W) (hg : B.heap.size ≤ g) (v : Value) : Below B.heap.size B (W.setCell ⟨g, 0, none⟩ v) := h.setCell hg v
noncomputable def fmOps : Array Oper := fops Tryz.f56 1
theorem fm_neat : Region.noSelect fmOps = true ∧ neat fmOps = true := ⟨by kernel_rfl, by kernel_rfl⟩
set_option maxRecDepth 100000 in
set_option maxHeartbeats 3200000 in
theorem fm1 (A C T : Nat) (c0 c1 c2 d0 d1 d2 : Value) (path : ByteArray) (E : World → World → Option Addr → Nat → Nat → Option Addr → Nat → Nat → Value → Prop) (W0 : World) {l : List Value} (Q : Exit → Act → World → Prop) (hQ : ∀ c a d v w, Q (.panic c) (Act.put a d v) w → Q (.panic c) a w) (hA : W0.drew.rowIs A 30 3 (row3 c0 c1 c2)) (hC : W0.drew.rowIs C 30 3 (row3 d0 d1 d2))
    (HK : ∀ W, Below W0.drew.heap.size W0.drew W → Calls Tryz.prog 88 #[.pointer (some ⟨T, 0, none⟩), .agg #[c0, c1, c2], .agg #[d0, d1, d2], .string path] W fun e w' => Below W.heap.size W w' ∧ ∃ na nl nc fa fl fc er, e = .returned (.tuple #[.slice na nl nc, .slice fa fl fc, er]) ∧ E W w' na nl nc fa fl fc er)
    (hl : lookL [(0, .pointer (some ⟨T, 0, none⟩)), (3, .string path), (5, .pointer (some ⟨A, 0, none⟩)), (6, .pointer (some ⟨C, 0, none⟩))] l = (26, ([(0, .pointer (some ⟨T, 0, none⟩)), (3, .string path), (5, .pointer (some ⟨A, 0, none⟩)), (6, .pointer (some ⟨C, 0, none⟩))] : List (Nat × Value)).map (·.2)))
    (hend : ∀ (u : Nat → Value) (V0 V1 W : World) (na fa : Option Addr) (nl nc fl fc : Nat) (er : Value) (g1 g2 : Nat), Below W0.drew.heap.size W0.drew V0 → E V0 V1 na nl nc fa fl fc er → Below W0.drew.heap.size W0.drew W → CK V0 V1 W → W.rowIs g1 22 1 (fun i => if i = 0 then .slice na nl nc else .slice none 0 0) → W.rowIs g2 126 1 (fun i => if i = 0 then .slice fa fl fc else .slice none 0 0) → W0.drew.heap.size ≤ g1 → W0.drew.heap.size ≤ g2 → g1 ≠ g2 → Q .normal ⟨(frL u 26 [(10, .pointer (some ⟨g1, 0, none⟩)), (11, .pointer (some ⟨g2, 0, none⟩)), (12, er)]).toArray, []⟩ W) : (Code.region 1 fmOps true).wp Tryz.prog Q ⟨l.toArray, []⟩ W0 := by
  obtain ⟨v0, rfl⟩ := look_fr hl
  have hq : NtQ fmOps Q := ⟨fm_neat, hQ⟩
  refine T_start (S := fun W => Below W0.drew.heap.size W0.drew W) (by kernel_rfl) (Below.refl _ _) ?_
  clear hl hQ
  generalize W0.drew = B at hA hC HK hend ⊢
  have X111 : ∀ (u : Nat → Value) (W : World) (hW : Below B.heap.size B W) (V0 V1 : World) (na fa : Option Addr) (nl nc fl fc : Nat) (er : Value) (hV : Below B.heap.size B V0) (hE : E V0 V1 na nl nc fa fl fc er) (hck : CK V0 V1 W) (g1 : Nat) (hg1 : W.rowIs g1 22 1 (fun _ => .slice none 0 0)) (hb1 : B.heap.size ≤ g1) (ha1 : Ap V0 V1 g1) (g2 : Nat) (hg2 : W.rowIs g2 126 1 (fun _ => .slice none 0 0)) (hb2 : B.heap.size ≤ g2) (ha2 : Ap V0 V1 g2) (hne : g1 ≠ g2) , wpS Tryz.prog fmOps Q (fun W => Below B.heap.size B W) (unl 16 [13, 14, 15], frL u 26 [(5, .pointer (some ⟨A, 0, none⟩)), (6, .pointer (some ⟨C, 0, none⟩)), (10, .pointer (some ⟨g1, 0, none⟩)), (11, .pointer (some ⟨g2, 0, none⟩)), (21, .slice na nl nc), (22, .slice fa fl fc), (23, er)]) [] W := by
    intro u W hW V0 V1 na fa nl nc fl fc er hV hE hck g1 hg1 hb1 ha1 g2 hg2 hb2 ha2 hne
    refine T_one 13 (by kernel_rfl) fun _ => ?_
    refine O_store none 22 (.tmp 10) (.tmp 21) ⟨g1, 0, none⟩ (.slice na nl nc) (W.setCell ⟨g1, 0, none⟩ (.slice na nl nc)) (by kernel_rfl) (by kernel_rfl) (by kernel_rfl) (stStrs hg1 na nl nc) (below_set1 hW hb1 _) ?_
    refine T_fr 16 26 [14, 15] [(5, .pointer (some ⟨A, 0, none⟩)), (6, .pointer (some ⟨C, 0, none⟩)), (10, .pointer (some ⟨g1, 0, none⟩)), (11, .pointer (some ⟨g2, 0, none⟩)), (21, .slice na nl nc), (22, .slice fa fl fc), (23, er)] (by kernel_rfl) fun u => ?_
    refine T_one 14 (by kernel_rfl) fun _ => ?_
    have hg2' := hg2.setOther (a := ⟨g1, 0, none⟩) (fun e => hne e.symm) (.slice na nl nc)
    refine O_store none 126 (.tmp 11) (.tmp 22) ⟨g2, 0, none⟩ (.slice fa fl fc) ((W.setCell ⟨g1, 0, none⟩ (.slice na nl nc)).setCell ⟨g2, 0, none⟩ (.slice fa fl fc)) (by kernel_rfl) (by kernel_rfl) (by kernel_rfl) (stFns hg2' fa fl fc) (below_set1 (below_set1 hW hb1 _) hb2 _) ?_
    refine T_z hq [15] (by kernel_rfl) ?_
    refine T_end 26 [(10, .pointer (some ⟨g1, 0, none⟩)), (11, .pointer (some ⟨g2, 0, none⟩)), (12, er)] (by kernel_rfl) (by kernel_rfl) fun _ u => hend u V0 V1 _ na fa nl nc fl fc er g1 g2 hV hE (below_set1 (below_set1 hW hb1 _) hb2 _) ((hck.set ha1 _).set ha2 _) ?_ ?_ hb1 hb2 hne
    · have h1 := hg1.set 0 (.slice na nl nc)
      exact h1.setOther (a := ⟨g2, 0, none⟩) (fun e => hne e) (.slice fa fl fc)
    · exact hg2'.set 0 (.slice fa fl fc)
  have X110 : ∀ (u : Nat → Value) (W : World) (hW : Below B.heap.size B W) (V0 V1 : World) (na fa : Option Addr) (nl nc fl fc : Nat) (er : Value) (hV : Below B.heap.size B V0) (hE : E V0 V1 na nl nc fa fl fc er) (hck : CK V0 V1 W) (g1 : Nat) (hg1 : W.rowIs g1 22 1 (fun _ => .slice none 0 0)) (hb1 : B.heap.size ≤ g1) (ha1 : Ap V0 V1 g1) , wpS Tryz.prog fmOps Q (fun W => Below B.heap.size B W) (unl 16 [12, 13, 14, 15], frL u 26 [(5, .pointer (some ⟨A, 0, none⟩)), (6, .pointer (some ⟨C, 0, none⟩)), (10, .pointer (some ⟨g1, 0, none⟩)), (21, .slice na nl nc), (22, .slice fa fl fc), (23, er)]) [] W := by
    intro u W hW V0 V1 na fa nl nc fl fc er hV hE hck g1 hg1 hb1 ha1 
    refine T_one 12 (by kernel_rfl) fun _ => ?_
    · exact O_val (w' := W.alloc (.cells #[.slice none 0 0] 126)) (some 11) (.pointer (some ⟨W.heap.size, 0, none⟩)) (by kernel_rfl) (by kernel_rfl) (hW.alloc hW.size _) (T_fr 16 26 [13, 14, 15] [(5, .pointer (some ⟨A, 0, none⟩)), (6, .pointer (some ⟨C, 0, none⟩)), (10, .pointer (some ⟨g1, 0, none⟩)), (11, .pointer (some ⟨W.heap.size, 0, none⟩)), (21, .slice na nl nc), (22, .slice fa fl fc), (23, er)] (by kernel_rfl) fun u => X111 u _ (hW.alloc hW.size _) V0 V1 na fa nl nc fl fc er hV hE (hck.alloc _) g1 (hg1.alloc _) hb1 ha1 _ (row1_alloc W _ _) hW.size (Or.inr hck.size) (by have := hg1.lt; omega))
  have X101 : ∀ (u : Nat → Value) (W : World) (hW : Below B.heap.size B W) (V0 V1 : World) (na fa : Option Addr) (nl nc fl fc : Nat) (er : Value) (hV : Below B.heap.size B V0) (hE : E V0 V1 na nl nc fa fl fc er) (hck : CK V0 V1 W) (g2 : Nat) (hg2 : W.rowIs g2 126 1 (fun _ => .slice none 0 0)) (hb2 : B.heap.size ≤ g2) (ha2 : Ap V0 V1 g2) , wpS Tryz.prog fmOps Q (fun W => Below B.heap.size B W) (unl 16 [11, 13, 14, 15], frL u 26 [(5, .pointer (some ⟨A, 0, none⟩)), (6, .pointer (some ⟨C, 0, none⟩)), (11, .pointer (some ⟨g2, 0, none⟩)), (21, .slice na nl nc), (22, .slice fa fl fc), (23, er)]) [] W := by
    intro u W hW V0 V1 na fa nl nc fl fc er hV hE hck g2 hg2 hb2 ha2 
    refine T_one 11 (by kernel_rfl) fun _ => ?_
    · exact O_val (w' := W.alloc (.cells #[.slice none 0 0] 22)) (some 10) (.pointer (some ⟨W.heap.size, 0, none⟩)) (by kernel_rfl) (by kernel_rfl) (hW.alloc hW.size _) (T_fr 16 26 [13, 14, 15] [(5, .pointer (some ⟨A, 0, none⟩)), (6, .pointer (some ⟨C, 0, none⟩)), (10, .pointer (some ⟨W.heap.size, 0, none⟩)), (11, .pointer (some ⟨g2, 0, none⟩)), (21, .slice na nl nc), (22, .slice fa fl fc), (23, er)] (by kernel_rfl) fun u => X111 u _ (hW.alloc hW.size _) V0 V1 na fa nl nc fl fc er hV hE (hck.alloc _) _ (row1_alloc W _ _) hW.size (Or.inr hck.size) g2 (hg2.alloc _) hb2 ha2 (by have := hg2.lt; omega))
  have X100 : ∀ (u : Nat → Value) (W : World) (hW : Below B.heap.size B W) (V0 V1 : World) (na fa : Option Addr) (nl nc fl fc : Nat) (er : Value) (hV : Below B.heap.size B V0) (hE : E V0 V1 na nl nc fa fl fc er) (hck : CK V0 V1 W) , wpS Tryz.prog fmOps Q (fun W => Below B.heap.size B W) (unl 16 [11, 12, 13, 14, 15], frL u 26 [(5, .pointer (some ⟨A, 0, none⟩)), (6, .pointer (some ⟨C, 0, none⟩)), (21, .slice na nl nc), (22, .slice fa fl fc), (23, er)]) [] W := by
    intro u W hW V0 V1 na fa nl nc fl fc er hV hE hck 
    refine T_two 11 12 (by kernel_rfl) (fun _ => ?_) fun _ => ?_
    · exact O_val (w' := W.alloc (.cells #[.slice none 0 0] 22)) (some 10) (.pointer (some ⟨W.heap.size, 0, none⟩)) (by kernel_rfl) (by kernel_rfl) (hW.alloc hW.size _) (T_fr 16 26 [12, 13, 14, 15] [(5, .pointer (some ⟨A, 0, none⟩)), (6, .pointer (some ⟨C, 0, none⟩)), (10, .pointer (some ⟨W.heap.size, 0, none⟩)), (21, .slice na nl nc), (22, .slice fa fl fc), (23, er)] (by kernel_rfl) fun u => X110 u _ (hW.alloc hW.size _) V0 V1 na fa nl nc fl fc er hV hE (hck.alloc _) _ (row1_alloc W _ _) hW.size (Or.inr hck.size) )
    · exact O_val (w' := W.alloc (.cells #[.slice none 0 0] 126)) (some 11) (.pointer (some ⟨W.heap.size, 0, none⟩)) (by kernel_rfl) (by kernel_rfl) (hW.alloc hW.size _) (T_fr 16 26 [11, 13, 14, 15] [(5, .pointer (some ⟨A, 0, none⟩)), (6, .pointer (some ⟨C, 0, none⟩)), (11, .pointer (some ⟨W.heap.size, 0, none⟩)), (21, .slice na nl nc), (22, .slice fa fl fc), (23, er)] (by kernel_rfl) fun u => X101 u _ (hW.alloc hW.size _) V0 V1 na fa nl nc fl fc er hV hE (hck.alloc _) _ (row1_alloc W _ _) hW.size (Or.inr hck.size) )
  have X011 : ∀ (u : Nat → Value) (W : World) (hW : Below B.heap.size B W) (g1 : Nat) (hg1 : W.rowIs g1 22 1 (fun _ => .slice none 0 0)) (hb1 : B.heap.size ≤ g1) (g2 : Nat) (hg2 : W.rowIs g2 126 1 (fun _ => .slice none 0 0)) (hb2 : B.heap.size ≤ g2) (hne : g1 ≠ g2) , wpS Tryz.prog fmOps Q (fun W => Below B.heap.size B W) (unl 16 [6, 7, 8, 9, 10, 13, 14, 15], frL u 26 [(5, .pointer (some ⟨A, 0, none⟩)), (6, .pointer (some ⟨C, 0, none⟩)), (10, .pointer (some ⟨g1, 0, none⟩)), (11, .pointer (some ⟨g2, 0, none⟩)), (16, .pointer (some ⟨T, 0, none⟩)), (17, .agg #[c0, c1, c2]), (18, .agg #[d0, d1, d2]), (19, .string path)]) [] W := by
    intro u W hW g1 hg1 hb1 g2 hg2 hb2 hne
    refine T_one 6 (by kernel_rfl) fun _ => ?_
    · refine O_go (HK W hW) (by kernel_rfl) ?_
      rintro e W1 ⟨hb, na, nl, nc, fa, fl, fc, er, rfl, hE⟩
      exact ⟨_, rfl, below_onf hW hb, T_z hq [7, 8, 9, 10] (by kernel_rfl) (T_fr 16 26 [13, 14, 15] [(5, .pointer (some ⟨A, 0, none⟩)), (6, .pointer (some ⟨C, 0, none⟩)), (10, .pointer (some ⟨g1, 0, none⟩)), (11, .pointer (some ⟨g2, 0, none⟩)), (21, .slice na nl nc), (22, .slice fa fl fc), (23, er)] (by kernel_rfl) fun u => X111 u W1 (below_onf hW hb) W W1 na fa nl nc fl fc er hW hE (CK.refl _ _) g1 (hg1.of_block (hb.block _ hg1.lt)) hb1 (Or.inl hg1.lt) g2 (hg2.of_block (hb.block _ hg2.lt)) hb2 (Or.inl hg2.lt) hne)⟩
  have X010 : ∀ (u : Nat → Value) (W : World) (hW : Below B.heap.size B W) (g1 : Nat) (hg1 : W.rowIs g1 22 1 (fun _ => .slice none 0 0)) (hb1 : B.heap.size ≤ g1) , wpS Tryz.prog fmOps Q (fun W => Below B.heap.size B W) (unl 16 [6, 7, 8, 9, 10, 12, 13, 14, 15], frL u 26 [(5, .pointer (some ⟨A, 0, none⟩)), (6, .pointer (some ⟨C, 0, none⟩)), (10, .pointer (some ⟨g1, 0, none⟩)), (16, .pointer (some ⟨T, 0, none⟩)), (17, .agg #[c0, c1, c2]), (18, .agg #[d0, d1, d2]), (19, .string path)]) [] W := by
    intro u W hW g1 hg1 hb1 
    refine T_two 6 12 (by kernel_rfl) (fun _ => ?_) fun _ => ?_
    · refine O_go (HK W hW) (by kernel_rfl) ?_
      rintro e W1 ⟨hb, na, nl, nc, fa, fl, fc, er, rfl, hE⟩
      exact ⟨_, rfl, below_onf hW hb, T_z hq [7, 8, 9, 10] (by kernel_rfl) (T_fr 16 26 [12, 13, 14, 15] [(5, .pointer (some ⟨A, 0, none⟩)), (6, .pointer (some ⟨C, 0, none⟩)), (10, .pointer (some ⟨g1, 0, none⟩)), (21, .slice na nl nc), (22, .slice fa fl fc), (23, er)] (by kernel_rfl) fun u => X110 u W1 (below_onf hW hb) W W1 na fa nl nc fl fc er hW hE (CK.refl _ _) g1 (hg1.of_block (hb.block _ hg1.lt)) hb1 (Or.inl hg1.lt) )⟩
    · exact O_val (w' := W.alloc (.cells #[.slice none 0 0] 126)) (some 11) (.pointer (some ⟨W.heap.size, 0, none⟩)) (by kernel_rfl) (by kernel_rfl) (hW.alloc hW.size _) (T_fr 16 26 [6, 7, 8, 9, 10, 13, 14, 15] [(5, .pointer (some ⟨A, 0, none⟩)), (6, .pointer (some ⟨C, 0, none⟩)), (10, .pointer (some ⟨g1, 0, none⟩)), (11, .pointer (some ⟨W.heap.size, 0, none⟩)), (16, .pointer (some ⟨T, 0, none⟩)), (17, .agg #[c0, c1, c2]), (18, .agg #[d0, d1, d2]), (19, .string path)] (by kernel_rfl) fun u => X011 u _ (hW.alloc hW.size _) g1 (hg1.alloc _) hb1 _ (row1_alloc W _ _) hW.size (by have := hg1.lt; omega))
  have X001 : ∀ (u : Nat → Value) (W : World) (hW : Below B.heap.size B W) (g2 : Nat) (hg2 : W.rowIs g2 126 1 (fun _ => .slice none 0 0)) (hb2 : B.heap.size ≤ g2) , wpS Tryz.prog fmOps Q (fun W => Below B.heap.size B W) (unl 16 [6, 7, 8, 9, 10, 11, 13, 14, 15], frL u 26 [(5, .pointer (some ⟨A, 0, none⟩)), (6, .pointer (some ⟨C, 0, none⟩)), (11, .pointer (some ⟨g2, 0, none⟩)), (16, .pointer (some ⟨T, 0, none⟩)), (17, .agg #[c0, c1, c2]), (18, .agg #[d0, d1, d2]), (19, .string path)]) [] W := by
    intro u W hW g2 hg2 hb2 
    refine T_two 6 11 (by kernel_rfl) (fun _ => ?_) fun _ => ?_
    · refine O_go (HK W hW) (by kernel_rfl) ?_
      rintro e W1 ⟨hb, na, nl, nc, fa, fl, fc, er, rfl, hE⟩
      exact ⟨_, rfl, below_onf hW hb, T_z hq [7, 8, 9, 10] (by kernel_rfl) (T_fr 16 26 [11, 13, 14, 15] [(5, .pointer (some ⟨A, 0, none⟩)), (6, .pointer (some ⟨C, 0, none⟩)), (11, .pointer (some ⟨g2, 0, none⟩)), (21, .slice na nl nc), (22, .slice fa fl fc), (23, er)] (by kernel_rfl) fun u => X101 u W1 (below_onf hW hb) W W1 na fa nl nc fl fc er hW hE (CK.refl _ _) g2 (hg2.of_block (hb.block _ hg2.lt)) hb2 (Or.inl hg2.lt) )⟩
    · exact O_val (w' := W.alloc (.cells #[.slice none 0 0] 22)) (some 10) (.pointer (some ⟨W.heap.size, 0, none⟩)) (by kernel_rfl) (by kernel_rfl) (hW.alloc hW.size _) (T_fr 16 26 [6, 7, 8, 9, 10, 13, 14, 15] [(5, .pointer (some ⟨A, 0, none⟩)), (6, .pointer (some ⟨C, 0, none⟩)), (10, .pointer (some ⟨W.heap.size, 0, none⟩)), (11, .pointer (some ⟨g2, 0, none⟩)), (16, .pointer (some ⟨T, 0, none⟩)), (17, .agg #[c0, c1, c2]), (18, .agg #[d0, d1, d2]), (19, .string path)] (by kernel_rfl) fun u => X011 u _ (hW.alloc hW.size _) _ (row1_alloc W _ _) hW.size g2 (hg2.alloc _) hb2 (by have := hg2.lt; omega))
  have X000 : ∀ (u : Nat → Value) (W : World) (hW : Below B.heap.size B W) , wpS Tryz.prog fmOps Q (fun W => Below B.heap.size B W) (unl 16 [6, 7, 8, 9, 10, 11, 12, 13, 14, 15], frL u 26 [(5, .pointer (some ⟨A, 0, none⟩)), (6, .pointer (some ⟨C, 0, none⟩)), (16, .pointer (some ⟨T, 0, none⟩)), (17, .agg #[c0, c1, c2]), (18, .agg #[d0, d1, d2]), (19, .string path)]) [] W := by
    intro u W hW 
    refine T_all [6, 11, 12] (by kernel_rfl) (by simp) fun i hi _ => ?_
    rcases (show i = 6 ∨ i = 11 ∨ i = 12 by simpa using hi) with rfl | rfl | rfl
    · refine O_go (HK W hW) (by kernel_rfl) ?_
      rintro e W1 ⟨hb, na, nl, nc, fa, fl, fc, er, rfl, hE⟩
      exact ⟨_, rfl, below_onf hW hb, T_z hq [7, 8, 9, 10] (by kernel_rfl) (T_fr 16 26 [11, 12, 13, 14, 15] [(5, .pointer (some ⟨A, 0, none⟩)), (6, .pointer (some ⟨C, 0, none⟩)), (21, .slice na nl nc), (22, .slice fa fl fc), (23, er)] (by kernel_rfl) fun u => X100 u W1 (below_onf hW hb) W W1 na fa nl nc fl fc er hW hE (CK.refl _ _) )⟩
    · exact O_val (w' := W.alloc (.cells #[.slice none 0 0] 22)) (some 10) (.pointer (some ⟨W.heap.size, 0, none⟩)) (by kernel_rfl) (by kernel_rfl) (hW.alloc hW.size _) (T_fr 16 26 [6, 7, 8, 9, 10, 12, 13, 14, 15] [(5, .pointer (some ⟨A, 0, none⟩)), (6, .pointer (some ⟨C, 0, none⟩)), (10, .pointer (some ⟨W.heap.size, 0, none⟩)), (16, .pointer (some ⟨T, 0, none⟩)), (17, .agg #[c0, c1, c2]), (18, .agg #[d0, d1, d2]), (19, .string path)] (by kernel_rfl) fun u => X010 u _ (hW.alloc hW.size _) _ (row1_alloc W _ _) hW.size )
    · exact O_val (w' := W.alloc (.cells #[.slice none 0 0] 126)) (some 11) (.pointer (some ⟨W.heap.size, 0, none⟩)) (by kernel_rfl) (by kernel_rfl) (hW.alloc hW.size _) (T_fr 16 26 [6, 7, 8, 9, 10, 11, 13, 14, 15] [(5, .pointer (some ⟨A, 0, none⟩)), (6, .pointer (some ⟨C, 0, none⟩)), (11, .pointer (some ⟨W.heap.size, 0, none⟩)), (16, .pointer (some ⟨T, 0, none⟩)), (17, .agg #[c0, c1, c2]), (18, .agg #[d0, d1, d2]), (19, .string path)] (by kernel_rfl) fun u => X001 u _ (hW.alloc hW.size _) _ (row1_alloc W _ _) hW.size )
  refine T_a hq [3, 4] (fun w' h => .cons (ldKd _ _ _ _ _ (hA.of_block (h.block _ hA.lt))) (.cons (ldKd _ _ _ _ _ (hC.of_block (h.block _ hC.lt))) Lds.nil)) (by kernel_rfl) ?_
  refine T_z hq [0, 1, 2, 5] (by kernel_rfl) ?_
  exact T_fr 16 26 [6, 7, 8, 9, 10, 11, 12, 13, 14, 15] [(5, .pointer (some ⟨A, 0, none⟩)), (6, .pointer (some ⟨C, 0, none⟩)), (16, .pointer (some ⟨T, 0, none⟩)), (17, .agg #[c0, c1, c2]), (18, .agg #[d0, d1, d2]), (19, .string path)] (by kernel_rfl) fun u => X000 u _ (Below.refl _ _)
end Go.Proofs.YtcpfelaffclalaaGreatDoor

/- The walk of the program's ofForm at the table of widenings. Conditions: the pairs that it asks for are taken by their contracts (a hypothesis); at most 1000 names in each form. -/

namespace Go.Proofs.YtcpfelaffclalaaGreatDoor
open Go Go.RowKit

/-- Names and widenings, each in its box, of which a form's widening is made. -/
def FmG (U : List ByteArray) (G : ByteArray → (Nat → Prop) → World → Value → Prop) (P : Nat → Prop) (W : World) (g1 g2 : Nat) : Prop :=
  ∃ (na : Option Addr) (nc : Nat) (fa : Option Addr) (fc : Nat) (fvs : List Value), P g1 ∧ P g2 ∧ W.cell? ⟨g1, 0, none⟩ = some (.slice na U.length nc) ∧ W.cell? ⟨g2, 0, none⟩ = some (.slice fa U.length fc) ∧ StrsAt P W (.slice na U.length nc) U ∧ fvs.length = U.length ∧
    ∀ i, (hi : i < U.length) → (hf : i < fvs.length) → ∃ fb, fa = some ⟨fb, 0, none⟩ ∧ P fb ∧ W.cell? ⟨fb, i, none⟩ = some fvs[i] ∧ G U[i] P W fvs[i] ∧ ∃ f b c, fvs[i] = .func f b c
def FmE (U : List ByteArray) (g : ByteArray → Bool) (G : ByteArray → (Nat → Prop) → World → Value → Prop) (w w' : World) (e : Ending) : Prop :=
  ∃ g1 g2 er, e = .returned (.tuple #[.func (.func 89) #[] #[.pointer (some ⟨g1, 0, none⟩), .pointer (some ⟨g2, 0, none⟩)], er]) ∧
    ((U.all g = true ∧ er = .nilIface ∧ FmG U G (New w w') w' g1 g2) ∨ (U.all g = false ∧ ∃ (x y : Int) (p : ByteArray), er = .iface 93 (.agg #[.int .i64 x, .int .i64 y, .string p])))
def FoE (c d : C3) (U : List ByteArray) (g : ByteArray → Bool) (G : ByteArray → (Nat → Prop) → World → Value → Prop) (V0 V1 : World) (na : Option Addr) (nl nc : Nat) (fa : Option Addr) (fl fc : Nat) (er : Value) : Prop :=
  (U.all g = true ∧ nl = U.length ∧ fl = U.length ∧ er = .nilIface ∧ ∃ N fvs, FlS c d U N na nc G V0 V1 fa U.length fc fvs) ∨ (U.all g = false ∧ ∃ (x y : Int) (p : ByteArray), er = .iface 93 (.agg #[.int .i64 x, .int .i64 y, .string p]))
theorem FdE.fo {c d : C3} {U : List ByteArray} {g : ByteArray → Bool} {G : ByteArray → (Nat → Prop) → World → Value → Prop} {w w' : World} {e : Ending} (h : FdE c d U g G w w' e) : ∃ na nl nc fa fl fc er, e = .returned (.tuple #[.slice na nl nc, .slice fa fl fc, er]) ∧ FoE c d U g G w w' na nl nc fa fl fc er := by
  rcases h with ⟨h1, na, nc, fa, fc, fvs, N, rfl, h2⟩ | ⟨h1, x, y, p, rfl⟩
  · exact ⟨na, _, nc, fa, _, fc, _, rfl, Or.inl ⟨h1, rfl, rfl, rfl, N, fvs, h2⟩⟩
  · exact ⟨none, 0, 0, none, 0, 0, _, rfl, Or.inr ⟨h1, x, y, p, rfl⟩⟩
theorem FlS.fm {c d : C3} {U : List ByteArray} {N : Nat} {na : Option Addr} {nc : Nat} {G : ByteArray → (Nat → Prop) → World → Value → Prop} {V0 V1 : World} {fa : Option Addr} {fc : Nat} {fvs : List Value} (hG : ∀ nm P Q W W' fv, G nm P W fv → (∀ b, P b → Q b) → (∀ b, P b → W'.heap[b]? = W.heap[b]?) → G nm Q W' fv) (h : FlS c d U N na nc G V0 V1 fa U.length fc fvs)
    {w W : World} {g1 g2 : Nat} (hV : w.heap.size ≤ V0.heap.size) (hck : CK V0 V1 W) (h1 : W.cell? ⟨g1, 0, none⟩ = some (.slice na U.length nc)) (h2 : W.cell? ⟨g2, 0, none⟩ = some (.slice fa U.length fc)) (hg1 : w.heap.size ≤ g1) (hg2 : w.heap.size ≤ g2) : FmG U G (New w W) W g1 g2 := by
  have hn0 := h.n0
  have hn1 := h.n1
  have hsz := hck.size
  refine ⟨na, nc, fa, fc, fvs, ⟨hg1, World.block_lt_of_cell? W _ h1⟩, ⟨hg2, World.block_lt_of_cell? W _ h2⟩, h1, h2, h.st.carry (fun b hb => hck.block b (by have := hb.1; omega) (by have := hb.2; omega)) (fun b hb => ⟨by have := hb.1; omega, by have := hb.2; omega⟩), h.len, fun i hi hf => ?_⟩
  obtain ⟨fb, rfl⟩ : ∃ fb, fa = some ⟨fb, 0, none⟩ := by
    rcases h.own.2 with ⟨-, h0⟩ | ⟨fb, _, _, hv, _⟩
    · omega
    · simp only [Value.slice.injEq] at hv
      exact ⟨fb, hv.1⟩
  have hfb := h.own.lt fb rfl
  have hcl := h.own.cells (g := fb) rfl i fvs[i] (by simp [hf])
  rw [Addr.add_lit, Nat.zero_add] at hcl
  obtain ⟨hg, hfn⟩ := h.gs i hf hi
  refine ⟨fb, rfl, ⟨by omega, by omega⟩, ?_, hG _ _ _ _ _ _ hg (fun b hb => ⟨by have := hb.1; omega, by have := hb.2.1; omega⟩) (fun b hb => hck.block b (by have := hb.1; omega) hb.2.1), hfn⟩
  rw [World.cell?_of_block (w := V1) (hck.block fb (by omega) hfb.2)]
  exact hcl
set_option maxRecDepth 100000 in
set_option maxHeartbeats 3200000 in
theorem ofForm_walk (A B : Kd) (T : Nat) (a1 a2 b1 b2 : Option Addr) (p1 p2 q1 q2 : Nat) (path : ByteArray) (w : World) (g : ByteArray → Bool) (G : ByteArray → (Nat → Prop) → World → Value → Prop)
    (hG : ∀ nm P Q W W' fv, G nm P W fv → (∀ b, P b → Q b) → (∀ b, P b → W'.heap[b]? = W.heap[b]?) → G nm Q W' fv)
    (hA : KW w A ⟨.int .i64 A.sort, .slice a1 A.names.length p1, .slice a2 A.kids.length p2⟩) (hB : KW w B ⟨.int .i64 B.sort, .slice b1 B.names.length q1, .slice b2 B.kids.length q2⟩) (hsA : A.sort = 5) (hsB : B.sort = 5) (hlA : A.names.length ≤ 1000) (hlB : B.names.length ≤ 1000) (hps : path.size ≤ 1000000) (hnz : ∀ nm, nm ∈ uniN A.names B.names → nm.size ≤ 1000)
    (hcall : ∀ nm, nm ∈ uniN A.names B.names → ∀ W (x y : C3), Below w.heap.size w W → KZ W (kidZ A nm) x → KZ W (kidZ B nm) y → Calls Tryz.prog 58 #[.pointer (some ⟨T, 0, none⟩), .agg #[x.c0, x.c1, x.c2], .agg #[y.c0, y.c1, y.c2], .string (path ++ ⟨#[123]⟩ ++ nm ++ ⟨#[58]⟩)] W fun e w' => Below W.heap.size W w' ∧ ∃ fv er, e = .returned (.tuple #[fv, er]) ∧ PR (g nm) (G nm) (New W w') w' fv er) :
    Calls Tryz.prog 56 #[.pointer (some ⟨T, 0, none⟩), .agg #[.int .i64 A.sort, .slice a1 A.names.length p1, .slice a2 A.kids.length p2], .agg #[.int .i64 B.sort, .slice b1 B.names.length q1, .slice b2 B.kids.length q2], .string path] w fun e w' => Below w.heap.size w w' ∧ FmE (uniN A.names B.names) g G w w' e := by
  obtain ⟨hrx, hry, hbw⟩ := pr_boxes w A.sort B.sort a1 a2 b1 b2 A.names.length A.kids.length p1 p2 B.names.length B.kids.length q1 q2
  have hK : ∀ W, Below w.heap.size w W → Calls Tryz.prog 88 #[.pointer (some ⟨T, 0, none⟩), .agg #[.int .i64 A.sort, .slice a1 A.names.length p1, .slice a2 A.kids.length p2], .agg #[.int .i64 B.sort, .slice b1 B.names.length q1, .slice b2 B.kids.length q2], .string path] W fun e w' => Below W.heap.size W w' ∧ ∃ na nl nc fa fl fc er, e = .returned (.tuple #[.slice na nl nc, .slice fa fl fc, er]) ∧ FoE ⟨.int .i64 A.sort, .slice a1 A.names.length p1, .slice a2 A.kids.length p2⟩ ⟨.int .i64 B.sort, .slice b1 B.names.length q1, .slice b2 B.kids.length q2⟩ (uniN A.names B.names) g G W w' na nl nc fa fl fc er := fun W hW =>
    (ofFields_walk A B T a1 a2 b1 b2 p1 p2 q1 q2 path W g G hG (hA.on hW) (hB.on hW) hsA hsB hlA hlB hps hnz (fun nm hm V x y hV hx hy => hcall nm hm V x y (hW.trans (hV.mono hW.size)) hx hy)).mono fun e w' ⟨h1, h2⟩ => ⟨h1, h2.fo⟩
  generalize uniN A.names B.names = U at *
  have HK := hide hK; have HRX := hide hrx; have HRY := hide hry; have HBW := hide hbw; have HG := hide hG
  clear hK hrx hry hbw hcall hnz hA hB hsA hsB hlA hlB hps hG
  go_enter Tryz.func56, Tryz.ntmps56
  go_upto_region 1 with fail
  generalize ((w.alloc (.cells #[.int .i64 A.sort, .slice a1 A.names.length p1, .slice a2 A.kids.length p2] 30)).alloc (.cells #[.int .i64 B.sort, .slice b1 B.names.length q1, .slice b2 B.kids.length q2] 30)) = W0 at HRX HRY HBW ⊢
  refine wp_swap (c' := Code.region 1 fmOps true) (by kernel_rfl) ?_
  refine wp_region_noPanic ?_
  refine fm1 w.heap.size (w.heap.size + 1) T _ _ _ _ _ _ path _ W0 _ (fun c a d v w h => h) ((unhide HRX).drew) ((unhide HRY).drew) (fun W hW => unhide HK W ((unhide HBW).drew.trans (hW.mono (unhide HBW).size))) (by kernel_rfl) ?_
  intro u V0 V1 W na fa nl nc fl fc er g1 g2 hV hE hW hck h1 h2 hg1 hg2 hne
  refine NoPanic.normal ?_
  have hsz := (unhide HBW).size
  have HE : Hid (Below w.heap.size w W ∧ ((U.all g = true ∧ er = .nilIface ∧ FmG U G (New w W) W g1 g2) ∨ (U.all g = false ∧ ∃ (x y : Int) (p : ByteArray), er = .iface 93 (.agg #[.int .i64 x, .int .i64 y, .string p])))) := by
    refine ⟨(unhide HBW).drew.trans (hW.mono hsz), ?_⟩
    rcases hE with ⟨e1, rfl, rfl, e2, N, fvs, hf⟩ | hE
    · exact Or.inl ⟨e1, e2, hf.fm (unhide HG) (Nat.le_trans hsz hV.size) hck (h1.cell (i := 0) (by omega)) (h2.cell (i := 0) (by omega)) (Nat.le_trans hsz hg1) (Nat.le_trans hsz hg2)⟩
    · exact Or.inr hE
  clear hV hE hW hck h1 h2 hg1 hg2 hne hsz HK HRX HRY HBW HG
  have hfr : frL u 26 [(10, .pointer (some ⟨g1, 0, none⟩)), (11, .pointer (some ⟨g2, 0, none⟩)), (12, er)] = (List.range 10).map (fun i => u i) ++ (.pointer (some ⟨g1, 0, none⟩) :: .pointer (some ⟨g2, 0, none⟩) :: er :: (List.range 13).map (fun i => u (i + 13))) := by kernel_rfl
  rw [hfr]
  simp only [List.range, List.range.loop, List.map_cons, List.map_nil, List.cons_append, List.nil_append]
  go_wp2_with fail
  go_ret2
  exact ⟨(unhide HE).1, g1, g2, er, rfl, (unhide HE).2⟩
end Go.Proofs.YtcpfelaffclalaaGreatDoor
