/- The drawn regions of the specification's DrawKindJoin. Conditions: what is called is taken by its contract. -/
import Derived.Test.YtenpghndgdemnaaGreatDoorPart08
import Derived.Test.YtenpghndgdemnaaGreatDoorPart09
import Derived.Test.YtenpghndgdemnaaGreatDoorPart00
import Derived.Test.YtenpghndgdemnaaGreatDoorPart10
import Derived.Test.YtenpghndgdemnaaGreatDoorPart05
namespace Go.Proofs.YtenpghndgdemnaaGreatDoor
open Go Go.RowKit

/-- The two answers, put into their boxes. -/
def pt2 (W : World) (X Y : Nat) (a0 a1 a2 b0 b1 b2 : Value) : World := (W.setCells X 0 [a0, a1, a2]).setCells Y 0 [b0, b1, b2]
theorem pt2_facts {W : World} {X Y : Nat} {f g : Nat → Value} (hX : W.rowIs X 26 3 f) (hY : W.rowIs Y 26 3 g) (n1 : X ≠ Y) (a0 a1 a2 b0 b1 b2 : Value) :
    (pt2 W X Y a0 a1 a2 b0 b1 b2).rowIs X 26 3 (row3 a0 a1 a2) ∧ (pt2 W X Y a0 a1 a2 b0 b1 b2).rowIs Y 26 3 (row3 b0 b1 b2) ∧
    (∀ i, i < W.heap.size → i ≠ X → i ≠ Y → (pt2 W X Y a0 a1 a2 b0 b1 b2).heap[i]? = W.heap[i]?) ∧ W.heap.size ≤ (pt2 W X Y a0 a1 a2 b0 b1 b2).heap.size ∧ (pt2 W X Y a0 a1 a2 b0 b1 b2).os = W.os ∧ (pt2 W X Y a0 a1 a2 b0 b1 b2).tape = W.tape ∧ (pt2 W X Y a0 a1 a2 b0 b1 b2).output = W.output := by
  obtain ⟨k1, k2⟩ := set3f W X a0 a1 a2
  obtain ⟨k3, k4⟩ := set3f (W.setCells X 0 [a0, a1, a2]) Y b0 b1 b2
  have s1 := k1.size; have s3 := k3.size
  unfold pt2
  exact ⟨(k2 _ _ hX).of_block (k3.at (Nat.lt_of_lt_of_le hX.lt s1) n1), k4 _ _ (hY.of_block (k1.at hY.lt (Ne.symm n1))), fun i hi h1 h2 => (k3.at (Nat.lt_of_lt_of_le hi s1) h2).trans (k1.at hi h1), Nat.le_trans s1 s3, k3.os.trans k1.os, k3.tape.trans k1.tape, k3.output.trans k1.output⟩
theorem ldKd8 (w : World) (b : Nat) (c : C3) (h : w.rowIs b 26 3 (row3 c.c0 c.c1 c.c2)) : (Instr.loadAt 26 (.pointer (some ⟨b, 0, none⟩))).run Tryz.prog w = .ok (.agg #[c.c0, c.c1, c.c2]) w := ldKd w b _ _ _ h
theorem lt_blk8 {W V : World} {A : Nat} {T : TypeId} {n : Nat} {f : Nat → Value} (h : W.heap[A]? = V.heap[A]?) (hA : V.rowIs A T n f) : A < W.heap.size := by
  have h1 := hA.lt
  rw [Array.getElem?_eq_getElem h1] at h
  exact (Array.getElem?_eq_some_iff.1 h).1
noncomputable def dj7Ops : Array Oper := fops Tryz.f5 7
theorem dj7_neat : Region.noSelect dj7Ops = true ∧ neat dj7Ops = true := ⟨by kernel_rfl, by kernel_rfl⟩
set_option maxRecDepth 100000 in
set_option maxHeartbeats 3200000 in
theorem dj7 (X Y R A B : Nat) (c d : C3) (W0 : World) {l : List Value} (Q : Exit → Act → World → Prop) (hQ : ∀ c a d v w, Q (.panic c) (Act.put a d v) w → Q (.panic c) a w) (hA : W0.drew.rowIs A 26 3 (row3 c.c0 c.c1 c.c2)) (hB : W0.drew.rowIs B 26 3 (row3 d.c0 d.c1 d.c2)) (o1 : (#[c.c0, c.c1, c.c2] : Array Value).all (·.oneCell') = true) (n1 : X ≠ Y) (m1 : X ≠ A ∧ X ≠ B) (m2 : Y ≠ A ∧ Y ≠ B) (G : Value → Value → Value → World → Prop) (HG : ∀ y0 y1 y2 WW, G y0 y1 y2 WW → (WW.rowIs X 26 3 (row3 (.int .i64 0) (.slice none 0 0) (.slice none 0 0)) ∧ WW.rowIs Y 26 3 (row3 (.int .i64 0) (.slice none 0 0) (.slice none 0 0))) ∧ (#[y0, y1, y2] : Array Value).all (·.oneCell') = true ∧ WW.heap[A]? = W0.drew.heap[A]? ∧ WW.heap[B]? = W0.drew.heap[B]?) (HK : Calls Tryz.prog 18 #[.pointer (some ⟨R, 0, none⟩), .bool true] W0.drew fun e w' => ∃ y0 y1 y2, e = .returned (.agg #[y0, y1, y2]) ∧ G y0 y1 y2 w') (hl : lookL [(2, .pointer (some ⟨X, 0, none⟩)), (3, .pointer (some ⟨Y, 0, none⟩)), (4, .pointer (some ⟨R, 0, none⟩)), (6, .pointer (some ⟨A, 0, none⟩)), (7, .pointer (some ⟨B, 0, none⟩))] l = (42, ([(2, .pointer (some ⟨X, 0, none⟩)), (3, .pointer (some ⟨Y, 0, none⟩)), (4, .pointer (some ⟨R, 0, none⟩)), (6, .pointer (some ⟨A, 0, none⟩)), (7, .pointer (some ⟨B, 0, none⟩))] : List (Nat × Value)).map (·.2)))
    (hend : ∀ (u : Nat → Value) (y0 y1 y2 : Value) (w' : World), G y0 y1 y2 w' → Q .normal ⟨(frL u 42 [(2, .pointer (some ⟨X, 0, none⟩)), (3, .pointer (some ⟨Y, 0, none⟩)), (4, .pointer (some ⟨R, 0, none⟩)), (6, .pointer (some ⟨A, 0, none⟩)), (7, .pointer (some ⟨B, 0, none⟩))]).toArray, []⟩ (pt2 w' X Y c.c0 c.c1 c.c2 y0 y1 y2)) : (Code.region 7 dj7Ops true).wp Tryz.prog Q ⟨l.toArray, []⟩ W0 := by
  obtain ⟨v0, rfl⟩ := look_fr hl
  have hq : NtQ dj7Ops Q := ⟨dj7_neat, hQ⟩
  refine T_start (S := fun W => W.heap[A]? = W0.drew.heap[A]? ∧ W.heap[B]? = W0.drew.heap[B]?) (by kernel_rfl) ⟨rfl, rfl⟩ ?_
  clear hl hQ
  generalize W0.drew = V at hA hB HG HK hend ⊢
  have E : ∀ (u : Nat → Value) (y0 y1 y2 : Value) (W : World) (hS : (fun W => W.heap[A]? = V.heap[A]? ∧ W.heap[B]? = V.heap[B]?) W) (hZR : W.rowIs X 26 3 (row3 (.int .i64 0) (.slice none 0 0) (.slice none 0 0)) ∧ W.rowIs Y 26 3 (row3 (.int .i64 0) (.slice none 0 0) (.slice none 0 0))) (oy : (#[y0, y1, y2] : Array Value).all (·.oneCell') = true) (hf : ∀ u, Q .normal ⟨(frL u 42 [(2, .pointer (some ⟨X, 0, none⟩)), (3, .pointer (some ⟨Y, 0, none⟩)), (4, .pointer (some ⟨R, 0, none⟩)), (6, .pointer (some ⟨A, 0, none⟩)), (7, .pointer (some ⟨B, 0, none⟩))]).toArray, []⟩ (pt2 W X Y c.c0 c.c1 c.c2 y0 y1 y2)), wpS Tryz.prog dj7Ops Q (fun W => W.heap[A]? = V.heap[A]? ∧ W.heap[B]? = V.heap[B]?) (unl 5 [3, 4], frL u 42 [(2, .pointer (some ⟨X, 0, none⟩)), (3, .pointer (some ⟨Y, 0, none⟩)), (4, .pointer (some ⟨R, 0, none⟩)), (6, .pointer (some ⟨A, 0, none⟩)), (7, .pointer (some ⟨B, 0, none⟩)), (25, .agg #[c.c0, c.c1, c.c2]), (27, .agg #[y0, y1, y2])]) [] W := by
    intro u y0 y1 y2 W hS hZR oy hf
    obtain ⟨hX', hY'⟩ := hZR
    have kk0 := (set3f W X c.c0 c.c1 c.c2).1
    have hS0 : (fun W => W.heap[A]? = V.heap[A]? ∧ W.heap[B]? = V.heap[B]?) (W.setCells X 0 [c.c0, c.c1, c.c2]) := ⟨(kk0.at (lt_blk8 hS.1 hA) m1.1.symm).trans hS.1, (kk0.at (lt_blk8 hS.2 hB) m1.2.symm).trans hS.2⟩
    refine T_one 3 (by kernel_rfl) fun _ => O_store_mid none 26 (.tmp 2) (.tmp 25) X 0 #[c.c0, c.c1, c.c2] (by kernel_rfl) (by kernel_rfl) (by kernel_rfl) (there3f hX') sizeKd o1 hS0 ?_
    replace hY' := hY'.of_block (kk0.at hY'.lt n1.symm)
    have kk1 := (set3f (W.setCells X 0 [c.c0, c.c1, c.c2]) Y y0 y1 y2).1
    have hS1 : (fun W => W.heap[A]? = V.heap[A]? ∧ W.heap[B]? = V.heap[B]?) ((W.setCells X 0 [c.c0, c.c1, c.c2]).setCells Y 0 [y0, y1, y2]) := ⟨(kk1.at (lt_blk8 hS0.1 hA) m2.1.symm).trans hS0.1, (kk1.at (lt_blk8 hS0.2 hB) m2.2.symm).trans hS0.2⟩
    refine T_one 4 (by kernel_rfl) fun _ => O_store_mid none 26 (.tmp 3) (.tmp 27) Y 0 #[y0, y1, y2] (by kernel_rfl) (by kernel_rfl) (by kernel_rfl) (there3f hY') sizeKd oy hS1 ?_
    exact T_end 42 [(2, .pointer (some ⟨X, 0, none⟩)), (3, .pointer (some ⟨Y, 0, none⟩)), (4, .pointer (some ⟨R, 0, none⟩)), (6, .pointer (some ⟨A, 0, none⟩)), (7, .pointer (some ⟨B, 0, none⟩))] (by kernel_rfl) (by kernel_rfl) fun _ u => hf u
  refine T_z hq [1] (by kernel_rfl) ?_
  refine T_a hq [0] (fun w' h => .cons (ldKd8 _ _ c (hA.of_block h.1)) (Lds.nil)) (by kernel_rfl) ?_
  refine T_fr 5 42 [2, 3, 4] [(2, .pointer (some ⟨X, 0, none⟩)), (3, .pointer (some ⟨Y, 0, none⟩)), (4, .pointer (some ⟨R, 0, none⟩)), (6, .pointer (some ⟨A, 0, none⟩)), (7, .pointer (some ⟨B, 0, none⟩)), (25, .agg #[c.c0, c.c1, c.c2]), (26, .pointer (some ⟨R, 0, none⟩))] (by kernel_rfl) fun u => T_one 2 (by kernel_rfl) fun _ => ?_
  refine O_go HK (by kernel_rfl) ?_
  rintro e w1 ⟨y0, y1, y2, rfl, hG⟩
  obtain ⟨hz, oy, hs1, hs2⟩ := HG _ _ _ _ hG
  exact ⟨_, rfl, ⟨hs1, hs2⟩, T_fr 5 42 [3, 4] [(2, .pointer (some ⟨X, 0, none⟩)), (3, .pointer (some ⟨Y, 0, none⟩)), (4, .pointer (some ⟨R, 0, none⟩)), (6, .pointer (some ⟨A, 0, none⟩)), (7, .pointer (some ⟨B, 0, none⟩)), (25, .agg #[c.c0, c.c1, c.c2]), (27, .agg #[y0, y1, y2])] (by kernel_rfl) fun u => E u y0 y1 y2 w1 ⟨hs1, hs2⟩ hz oy (fun u => hend u y0 y1 y2 w1 hG)⟩
noncomputable def dj9Ops : Array Oper := fops Tryz.f5 9
theorem dj9_neat : Region.noSelect dj9Ops = true ∧ neat dj9Ops = true := ⟨by kernel_rfl, by kernel_rfl⟩
set_option maxRecDepth 100000 in
set_option maxHeartbeats 3200000 in
theorem dj9 (X Y R A B : Nat) (c d : C3) (W0 : World) {l : List Value} (Q : Exit → Act → World → Prop) (hQ : ∀ c a d v w, Q (.panic c) (Act.put a d v) w → Q (.panic c) a w) (hA : W0.drew.rowIs A 26 3 (row3 c.c0 c.c1 c.c2)) (hB : W0.drew.rowIs B 26 3 (row3 d.c0 d.c1 d.c2)) (o2 : (#[d.c0, d.c1, d.c2] : Array Value).all (·.oneCell') = true) (n1 : X ≠ Y) (m1 : X ≠ A ∧ X ≠ B) (m2 : Y ≠ A ∧ Y ≠ B) (G : Value → Value → Value → World → Prop) (HG : ∀ y0 y1 y2 WW, G y0 y1 y2 WW → (WW.rowIs X 26 3 (row3 (.int .i64 0) (.slice none 0 0) (.slice none 0 0)) ∧ WW.rowIs Y 26 3 (row3 (.int .i64 0) (.slice none 0 0) (.slice none 0 0))) ∧ (#[y0, y1, y2] : Array Value).all (·.oneCell') = true ∧ WW.heap[A]? = W0.drew.heap[A]? ∧ WW.heap[B]? = W0.drew.heap[B]?) (HK : Calls Tryz.prog 21 #[.pointer (some ⟨R, 0, none⟩), .agg #[c.c0, c.c1, c.c2]] W0.drew fun e w' => ∃ y0 y1 y2, e = .returned (.agg #[y0, y1, y2]) ∧ G y0 y1 y2 w') (hl : lookL [(2, .pointer (some ⟨X, 0, none⟩)), (3, .pointer (some ⟨Y, 0, none⟩)), (4, .pointer (some ⟨R, 0, none⟩)), (6, .pointer (some ⟨A, 0, none⟩)), (7, .pointer (some ⟨B, 0, none⟩))] l = (42, ([(2, .pointer (some ⟨X, 0, none⟩)), (3, .pointer (some ⟨Y, 0, none⟩)), (4, .pointer (some ⟨R, 0, none⟩)), (6, .pointer (some ⟨A, 0, none⟩)), (7, .pointer (some ⟨B, 0, none⟩))] : List (Nat × Value)).map (·.2)))
    (hend : ∀ (u : Nat → Value) (y0 y1 y2 : Value) (w' : World), G y0 y1 y2 w' → Q .normal ⟨(frL u 42 [(2, .pointer (some ⟨X, 0, none⟩)), (3, .pointer (some ⟨Y, 0, none⟩)), (4, .pointer (some ⟨R, 0, none⟩)), (6, .pointer (some ⟨A, 0, none⟩)), (7, .pointer (some ⟨B, 0, none⟩))]).toArray, []⟩ (pt2 w' X Y y0 y1 y2 d.c0 d.c1 d.c2)) : (Code.region 9 dj9Ops true).wp Tryz.prog Q ⟨l.toArray, []⟩ W0 := by
  obtain ⟨v0, rfl⟩ := look_fr hl
  have hq : NtQ dj9Ops Q := ⟨dj9_neat, hQ⟩
  refine T_start (S := fun W => W.heap[A]? = W0.drew.heap[A]? ∧ W.heap[B]? = W0.drew.heap[B]?) (by kernel_rfl) ⟨rfl, rfl⟩ ?_
  clear hl hQ
  generalize W0.drew = V at hA hB HG HK hend ⊢
  have E : ∀ (u : Nat → Value) (y0 y1 y2 : Value) (W : World) (hS : (fun W => W.heap[A]? = V.heap[A]? ∧ W.heap[B]? = V.heap[B]?) W) (hZR : W.rowIs X 26 3 (row3 (.int .i64 0) (.slice none 0 0) (.slice none 0 0)) ∧ W.rowIs Y 26 3 (row3 (.int .i64 0) (.slice none 0 0) (.slice none 0 0))) (oy : (#[y0, y1, y2] : Array Value).all (·.oneCell') = true) (hf : ∀ u, Q .normal ⟨(frL u 42 [(2, .pointer (some ⟨X, 0, none⟩)), (3, .pointer (some ⟨Y, 0, none⟩)), (4, .pointer (some ⟨R, 0, none⟩)), (6, .pointer (some ⟨A, 0, none⟩)), (7, .pointer (some ⟨B, 0, none⟩))]).toArray, []⟩ (pt2 W X Y y0 y1 y2 d.c0 d.c1 d.c2)), wpS Tryz.prog dj9Ops Q (fun W => W.heap[A]? = V.heap[A]? ∧ W.heap[B]? = V.heap[B]?) (unl 6 [4, 5], frL u 42 [(2, .pointer (some ⟨X, 0, none⟩)), (3, .pointer (some ⟨Y, 0, none⟩)), (4, .pointer (some ⟨R, 0, none⟩)), (6, .pointer (some ⟨A, 0, none⟩)), (7, .pointer (some ⟨B, 0, none⟩)), (31, .agg #[c.c0, c.c1, c.c2]), (32, .agg #[y0, y1, y2]), (33, .agg #[d.c0, d.c1, d.c2])]) [] W := by
    intro u y0 y1 y2 W hS hZR oy hf
    obtain ⟨hX', hY'⟩ := hZR
    have kk0 := (set3f W X y0 y1 y2).1
    have hS0 : (fun W => W.heap[A]? = V.heap[A]? ∧ W.heap[B]? = V.heap[B]?) (W.setCells X 0 [y0, y1, y2]) := ⟨(kk0.at (lt_blk8 hS.1 hA) m1.1.symm).trans hS.1, (kk0.at (lt_blk8 hS.2 hB) m1.2.symm).trans hS.2⟩
    refine T_one 4 (by kernel_rfl) fun _ => O_store_mid none 26 (.tmp 2) (.tmp 32) X 0 #[y0, y1, y2] (by kernel_rfl) (by kernel_rfl) (by kernel_rfl) (there3f hX') sizeKd oy hS0 ?_
    replace hY' := hY'.of_block (kk0.at hY'.lt n1.symm)
    have kk1 := (set3f (W.setCells X 0 [y0, y1, y2]) Y d.c0 d.c1 d.c2).1
    have hS1 : (fun W => W.heap[A]? = V.heap[A]? ∧ W.heap[B]? = V.heap[B]?) ((W.setCells X 0 [y0, y1, y2]).setCells Y 0 [d.c0, d.c1, d.c2]) := ⟨(kk1.at (lt_blk8 hS0.1 hA) m2.1.symm).trans hS0.1, (kk1.at (lt_blk8 hS0.2 hB) m2.2.symm).trans hS0.2⟩
    refine T_one 5 (by kernel_rfl) fun _ => O_store_mid none 26 (.tmp 3) (.tmp 33) Y 0 #[d.c0, d.c1, d.c2] (by kernel_rfl) (by kernel_rfl) (by kernel_rfl) (there3f hY') sizeKd o2 hS1 ?_
    exact T_end 42 [(2, .pointer (some ⟨X, 0, none⟩)), (3, .pointer (some ⟨Y, 0, none⟩)), (4, .pointer (some ⟨R, 0, none⟩)), (6, .pointer (some ⟨A, 0, none⟩)), (7, .pointer (some ⟨B, 0, none⟩))] (by kernel_rfl) (by kernel_rfl) fun _ u => hf u
  refine T_z hq [0] (by kernel_rfl) ?_
  refine T_a hq [1, 3] (fun w' h => .cons (ldKd8 _ _ c (hA.of_block h.1)) (.cons (ldKd8 _ _ d (hB.of_block h.2)) (Lds.nil))) (by kernel_rfl) ?_
  refine T_fr 6 42 [2, 4, 5] [(2, .pointer (some ⟨X, 0, none⟩)), (3, .pointer (some ⟨Y, 0, none⟩)), (4, .pointer (some ⟨R, 0, none⟩)), (6, .pointer (some ⟨A, 0, none⟩)), (7, .pointer (some ⟨B, 0, none⟩)), (30, .pointer (some ⟨R, 0, none⟩)), (31, .agg #[c.c0, c.c1, c.c2]), (33, .agg #[d.c0, d.c1, d.c2])] (by kernel_rfl) fun u => T_one 2 (by kernel_rfl) fun _ => ?_
  refine O_go HK (by kernel_rfl) ?_
  rintro e w1 ⟨y0, y1, y2, rfl, hG⟩
  obtain ⟨hz, oy, hs1, hs2⟩ := HG _ _ _ _ hG
  exact ⟨_, rfl, ⟨hs1, hs2⟩, T_fr 6 42 [4, 5] [(2, .pointer (some ⟨X, 0, none⟩)), (3, .pointer (some ⟨Y, 0, none⟩)), (4, .pointer (some ⟨R, 0, none⟩)), (6, .pointer (some ⟨A, 0, none⟩)), (7, .pointer (some ⟨B, 0, none⟩)), (31, .agg #[c.c0, c.c1, c.c2]), (32, .agg #[y0, y1, y2]), (33, .agg #[d.c0, d.c1, d.c2])] (by kernel_rfl) fun u => E u y0 y1 y2 w1 ⟨hs1, hs2⟩ hz oy (fun u => hend u y0 y1 y2 w1 hG)⟩
noncomputable def dj11Ops : Array Oper := fops Tryz.f5 11
theorem dj11_neat : Region.noSelect dj11Ops = true ∧ neat dj11Ops = true := ⟨by kernel_rfl, by kernel_rfl⟩
set_option maxRecDepth 100000 in
set_option maxHeartbeats 3200000 in
theorem dj11 (X Y R A B : Nat) (c d : C3) (W0 : World) {l : List Value} (Q : Exit → Act → World → Prop) (hQ : ∀ c a d v w, Q (.panic c) (Act.put a d v) w → Q (.panic c) a w) (hA : W0.drew.rowIs A 26 3 (row3 c.c0 c.c1 c.c2)) (hB : W0.drew.rowIs B 26 3 (row3 d.c0 d.c1 d.c2)) (o1 : (#[c.c0, c.c1, c.c2] : Array Value).all (·.oneCell') = true) (n1 : X ≠ Y) (m1 : X ≠ A ∧ X ≠ B) (m2 : Y ≠ A ∧ Y ≠ B) (G : Value → Value → Value → World → Prop) (HG : ∀ y0 y1 y2 WW, G y0 y1 y2 WW → (WW.rowIs X 26 3 (row3 (.int .i64 0) (.slice none 0 0) (.slice none 0 0)) ∧ WW.rowIs Y 26 3 (row3 (.int .i64 0) (.slice none 0 0) (.slice none 0 0))) ∧ (#[y0, y1, y2] : Array Value).all (·.oneCell') = true ∧ WW.heap[A]? = W0.drew.heap[A]? ∧ WW.heap[B]? = W0.drew.heap[B]?) (HK : Calls Tryz.prog 21 #[.pointer (some ⟨R, 0, none⟩), .agg #[d.c0, d.c1, d.c2]] W0.drew fun e w' => ∃ y0 y1 y2, e = .returned (.agg #[y0, y1, y2]) ∧ G y0 y1 y2 w') (hl : lookL [(2, .pointer (some ⟨X, 0, none⟩)), (3, .pointer (some ⟨Y, 0, none⟩)), (4, .pointer (some ⟨R, 0, none⟩)), (6, .pointer (some ⟨A, 0, none⟩)), (7, .pointer (some ⟨B, 0, none⟩))] l = (42, ([(2, .pointer (some ⟨X, 0, none⟩)), (3, .pointer (some ⟨Y, 0, none⟩)), (4, .pointer (some ⟨R, 0, none⟩)), (6, .pointer (some ⟨A, 0, none⟩)), (7, .pointer (some ⟨B, 0, none⟩))] : List (Nat × Value)).map (·.2)))
    (hend : ∀ (u : Nat → Value) (y0 y1 y2 : Value) (w' : World), G y0 y1 y2 w' → Q .normal ⟨(frL u 42 [(2, .pointer (some ⟨X, 0, none⟩)), (3, .pointer (some ⟨Y, 0, none⟩)), (4, .pointer (some ⟨R, 0, none⟩)), (6, .pointer (some ⟨A, 0, none⟩)), (7, .pointer (some ⟨B, 0, none⟩))]).toArray, []⟩ (pt2 w' X Y c.c0 c.c1 c.c2 y0 y1 y2)) : (Code.region 11 dj11Ops true).wp Tryz.prog Q ⟨l.toArray, []⟩ W0 := by
  obtain ⟨v0, rfl⟩ := look_fr hl
  have hq : NtQ dj11Ops Q := ⟨dj11_neat, hQ⟩
  refine T_start (S := fun W => W.heap[A]? = W0.drew.heap[A]? ∧ W.heap[B]? = W0.drew.heap[B]?) (by kernel_rfl) ⟨rfl, rfl⟩ ?_
  clear hl hQ
  generalize W0.drew = V at hA hB HG HK hend ⊢
  have E : ∀ (u : Nat → Value) (y0 y1 y2 : Value) (W : World) (hS : (fun W => W.heap[A]? = V.heap[A]? ∧ W.heap[B]? = V.heap[B]?) W) (hZR : W.rowIs X 26 3 (row3 (.int .i64 0) (.slice none 0 0) (.slice none 0 0)) ∧ W.rowIs Y 26 3 (row3 (.int .i64 0) (.slice none 0 0) (.slice none 0 0))) (oy : (#[y0, y1, y2] : Array Value).all (·.oneCell') = true) (hf : ∀ u, Q .normal ⟨(frL u 42 [(2, .pointer (some ⟨X, 0, none⟩)), (3, .pointer (some ⟨Y, 0, none⟩)), (4, .pointer (some ⟨R, 0, none⟩)), (6, .pointer (some ⟨A, 0, none⟩)), (7, .pointer (some ⟨B, 0, none⟩))]).toArray, []⟩ (pt2 W X Y c.c0 c.c1 c.c2 y0 y1 y2)), wpS Tryz.prog dj11Ops Q (fun W => W.heap[A]? = V.heap[A]? ∧ W.heap[B]? = V.heap[B]?) (unl 6 [4, 5], frL u 42 [(2, .pointer (some ⟨X, 0, none⟩)), (3, .pointer (some ⟨Y, 0, none⟩)), (4, .pointer (some ⟨R, 0, none⟩)), (6, .pointer (some ⟨A, 0, none⟩)), (7, .pointer (some ⟨B, 0, none⟩)), (36, .agg #[c.c0, c.c1, c.c2]), (38, .agg #[d.c0, d.c1, d.c2]), (39, .agg #[y0, y1, y2])]) [] W := by
    intro u y0 y1 y2 W hS hZR oy hf
    obtain ⟨hX', hY'⟩ := hZR
    have kk0 := (set3f W X c.c0 c.c1 c.c2).1
    have hS0 : (fun W => W.heap[A]? = V.heap[A]? ∧ W.heap[B]? = V.heap[B]?) (W.setCells X 0 [c.c0, c.c1, c.c2]) := ⟨(kk0.at (lt_blk8 hS.1 hA) m1.1.symm).trans hS.1, (kk0.at (lt_blk8 hS.2 hB) m1.2.symm).trans hS.2⟩
    refine T_one 4 (by kernel_rfl) fun _ => O_store_mid none 26 (.tmp 2) (.tmp 36) X 0 #[c.c0, c.c1, c.c2] (by kernel_rfl) (by kernel_rfl) (by kernel_rfl) (there3f hX') sizeKd o1 hS0 ?_
    replace hY' := hY'.of_block (kk0.at hY'.lt n1.symm)
    have kk1 := (set3f (W.setCells X 0 [c.c0, c.c1, c.c2]) Y y0 y1 y2).1
    have hS1 : (fun W => W.heap[A]? = V.heap[A]? ∧ W.heap[B]? = V.heap[B]?) ((W.setCells X 0 [c.c0, c.c1, c.c2]).setCells Y 0 [y0, y1, y2]) := ⟨(kk1.at (lt_blk8 hS0.1 hA) m2.1.symm).trans hS0.1, (kk1.at (lt_blk8 hS0.2 hB) m2.2.symm).trans hS0.2⟩
    refine T_one 5 (by kernel_rfl) fun _ => O_store_mid none 26 (.tmp 3) (.tmp 39) Y 0 #[y0, y1, y2] (by kernel_rfl) (by kernel_rfl) (by kernel_rfl) (there3f hY') sizeKd oy hS1 ?_
    exact T_end 42 [(2, .pointer (some ⟨X, 0, none⟩)), (3, .pointer (some ⟨Y, 0, none⟩)), (4, .pointer (some ⟨R, 0, none⟩)), (6, .pointer (some ⟨A, 0, none⟩)), (7, .pointer (some ⟨B, 0, none⟩))] (by kernel_rfl) (by kernel_rfl) fun _ u => hf u
  refine T_z hq [1] (by kernel_rfl) ?_
  refine T_a hq [0, 2] (fun w' h => .cons (ldKd8 _ _ c (hA.of_block h.1)) (.cons (ldKd8 _ _ d (hB.of_block h.2)) (Lds.nil))) (by kernel_rfl) ?_
  refine T_fr 6 42 [3, 4, 5] [(2, .pointer (some ⟨X, 0, none⟩)), (3, .pointer (some ⟨Y, 0, none⟩)), (4, .pointer (some ⟨R, 0, none⟩)), (6, .pointer (some ⟨A, 0, none⟩)), (7, .pointer (some ⟨B, 0, none⟩)), (36, .agg #[c.c0, c.c1, c.c2]), (37, .pointer (some ⟨R, 0, none⟩)), (38, .agg #[d.c0, d.c1, d.c2])] (by kernel_rfl) fun u => T_one 3 (by kernel_rfl) fun _ => ?_
  refine O_go HK (by kernel_rfl) ?_
  rintro e w1 ⟨y0, y1, y2, rfl, hG⟩
  obtain ⟨hz, oy, hs1, hs2⟩ := HG _ _ _ _ hG
  exact ⟨_, rfl, ⟨hs1, hs2⟩, T_fr 6 42 [4, 5] [(2, .pointer (some ⟨X, 0, none⟩)), (3, .pointer (some ⟨Y, 0, none⟩)), (4, .pointer (some ⟨R, 0, none⟩)), (6, .pointer (some ⟨A, 0, none⟩)), (7, .pointer (some ⟨B, 0, none⟩)), (36, .agg #[c.c0, c.c1, c.c2]), (38, .agg #[d.c0, d.c1, d.c2]), (39, .agg #[y0, y1, y2])] (by kernel_rfl) fun u => E u y0 y1 y2 w1 ⟨hs1, hs2⟩ hz oy (fun u => hend u y0 y1 y2 w1 hG)⟩
noncomputable def dj12Ops : Array Oper := fops Tryz.f5 12
theorem dj12_neat : Region.noSelect dj12Ops = true ∧ neat dj12Ops = true := ⟨by kernel_rfl, by kernel_rfl⟩
set_option maxRecDepth 100000 in
set_option maxHeartbeats 3200000 in
theorem dj12 (X Y R A B : Nat) (c d : C3) (W0 : World) {l : List Value} (Q : Exit → Act → World → Prop) (hQ : ∀ c a d v w, Q (.panic c) (Act.put a d v) w → Q (.panic c) a w) (hA : W0.drew.rowIs A 26 3 (row3 c.c0 c.c1 c.c2)) (hB : W0.drew.rowIs B 26 3 (row3 d.c0 d.c1 d.c2)) (o1 : (#[c.c0, c.c1, c.c2] : Array Value).all (·.oneCell') = true) (o2 : (#[d.c0, d.c1, d.c2] : Array Value).all (·.oneCell') = true) (n1 : X ≠ Y) (m1 : X ≠ A ∧ X ≠ B) (m2 : Y ≠ A ∧ Y ≠ B) (hZ : W0.drew.rowIs X 26 3 (row3 (.int .i64 0) (.slice none 0 0) (.slice none 0 0)) ∧ W0.drew.rowIs Y 26 3 (row3 (.int .i64 0) (.slice none 0 0) (.slice none 0 0))) (hl : lookL [(2, .pointer (some ⟨X, 0, none⟩)), (3, .pointer (some ⟨Y, 0, none⟩)), (4, .pointer (some ⟨R, 0, none⟩)), (6, .pointer (some ⟨A, 0, none⟩)), (7, .pointer (some ⟨B, 0, none⟩))] l = (42, ([(2, .pointer (some ⟨X, 0, none⟩)), (3, .pointer (some ⟨Y, 0, none⟩)), (4, .pointer (some ⟨R, 0, none⟩)), (6, .pointer (some ⟨A, 0, none⟩)), (7, .pointer (some ⟨B, 0, none⟩))] : List (Nat × Value)).map (·.2)))
    (hend : ∀ (u : Nat → Value), Q .normal ⟨(frL u 42 [(2, .pointer (some ⟨X, 0, none⟩)), (3, .pointer (some ⟨Y, 0, none⟩)), (4, .pointer (some ⟨R, 0, none⟩)), (6, .pointer (some ⟨A, 0, none⟩)), (7, .pointer (some ⟨B, 0, none⟩))]).toArray, []⟩ (pt2 W0.drew X Y c.c0 c.c1 c.c2 d.c0 d.c1 d.c2)) : (Code.region 12 dj12Ops true).wp Tryz.prog Q ⟨l.toArray, []⟩ W0 := by
  obtain ⟨v0, rfl⟩ := look_fr hl
  have hq : NtQ dj12Ops Q := ⟨dj12_neat, hQ⟩
  refine T_start (S := fun W => W.heap[A]? = W0.drew.heap[A]? ∧ W.heap[B]? = W0.drew.heap[B]?) (by kernel_rfl) ⟨rfl, rfl⟩ ?_
  clear hl hQ
  generalize W0.drew = V at hA hB hZ hend ⊢
  have E : ∀ (u : Nat → Value) (W : World) (hS : (fun W => W.heap[A]? = V.heap[A]? ∧ W.heap[B]? = V.heap[B]?) W) (hZR : W.rowIs X 26 3 (row3 (.int .i64 0) (.slice none 0 0) (.slice none 0 0)) ∧ W.rowIs Y 26 3 (row3 (.int .i64 0) (.slice none 0 0) (.slice none 0 0))) (hf : ∀ u, Q .normal ⟨(frL u 42 [(2, .pointer (some ⟨X, 0, none⟩)), (3, .pointer (some ⟨Y, 0, none⟩)), (4, .pointer (some ⟨R, 0, none⟩)), (6, .pointer (some ⟨A, 0, none⟩)), (7, .pointer (some ⟨B, 0, none⟩))]).toArray, []⟩ (pt2 W X Y c.c0 c.c1 c.c2 d.c0 d.c1 d.c2)), wpS Tryz.prog dj12Ops Q (fun W => W.heap[A]? = V.heap[A]? ∧ W.heap[B]? = V.heap[B]?) (unl 4 [2, 3], frL u 42 [(2, .pointer (some ⟨X, 0, none⟩)), (3, .pointer (some ⟨Y, 0, none⟩)), (4, .pointer (some ⟨R, 0, none⟩)), (6, .pointer (some ⟨A, 0, none⟩)), (7, .pointer (some ⟨B, 0, none⟩)), (40, .agg #[c.c0, c.c1, c.c2]), (41, .agg #[d.c0, d.c1, d.c2])]) [] W := by
    intro u  W hS hZR hf
    obtain ⟨hX', hY'⟩ := hZR
    have kk0 := (set3f W X c.c0 c.c1 c.c2).1
    have hS0 : (fun W => W.heap[A]? = V.heap[A]? ∧ W.heap[B]? = V.heap[B]?) (W.setCells X 0 [c.c0, c.c1, c.c2]) := ⟨(kk0.at (lt_blk8 hS.1 hA) m1.1.symm).trans hS.1, (kk0.at (lt_blk8 hS.2 hB) m1.2.symm).trans hS.2⟩
    refine T_one 2 (by kernel_rfl) fun _ => O_store_mid none 26 (.tmp 2) (.tmp 40) X 0 #[c.c0, c.c1, c.c2] (by kernel_rfl) (by kernel_rfl) (by kernel_rfl) (there3f hX') sizeKd o1 hS0 ?_
    replace hY' := hY'.of_block (kk0.at hY'.lt n1.symm)
    have kk1 := (set3f (W.setCells X 0 [c.c0, c.c1, c.c2]) Y d.c0 d.c1 d.c2).1
    have hS1 : (fun W => W.heap[A]? = V.heap[A]? ∧ W.heap[B]? = V.heap[B]?) ((W.setCells X 0 [c.c0, c.c1, c.c2]).setCells Y 0 [d.c0, d.c1, d.c2]) := ⟨(kk1.at (lt_blk8 hS0.1 hA) m2.1.symm).trans hS0.1, (kk1.at (lt_blk8 hS0.2 hB) m2.2.symm).trans hS0.2⟩
    refine T_one 3 (by kernel_rfl) fun _ => O_store_mid none 26 (.tmp 3) (.tmp 41) Y 0 #[d.c0, d.c1, d.c2] (by kernel_rfl) (by kernel_rfl) (by kernel_rfl) (there3f hY') sizeKd o2 hS1 ?_
    exact T_end 42 [(2, .pointer (some ⟨X, 0, none⟩)), (3, .pointer (some ⟨Y, 0, none⟩)), (4, .pointer (some ⟨R, 0, none⟩)), (6, .pointer (some ⟨A, 0, none⟩)), (7, .pointer (some ⟨B, 0, none⟩))] (by kernel_rfl) (by kernel_rfl) fun _ u => hf u
  refine T_a hq [0, 1] (fun w' h => .cons (ldKd8 _ _ c (hA.of_block h.1)) (.cons (ldKd8 _ _ d (hB.of_block h.2)) (Lds.nil))) (by kernel_rfl) ?_
  exact T_fr 4 42 [2, 3] [(2, .pointer (some ⟨X, 0, none⟩)), (3, .pointer (some ⟨Y, 0, none⟩)), (4, .pointer (some ⟨R, 0, none⟩)), (6, .pointer (some ⟨A, 0, none⟩)), (7, .pointer (some ⟨B, 0, none⟩)), (40, .agg #[c.c0, c.c1, c.c2]), (41, .agg #[d.c0, d.c1, d.c2])] (by kernel_rfl) fun u => E u _ ⟨rfl, rfl⟩ hZ hend
end Go.Proofs.YtenpghndgdemnaaGreatDoor

/- A row of bytes that lies in the world. Definitions alone. -/

namespace Go.Proofs.YtenpghndgdemnaaGreatDoor
open Go Go.RowKit

/-- A slice value whose bytes lie in the world. -/
def BytesAt (w : World) (v : Value) (l : List UInt8) : Prop :=
  ∃ a cap, v = .slice a l.length cap ∧ l.length ≤ 9223372036854775807 ∧ ∀ i, (h : i < l.length) → ∃ b o, a = some ⟨b, o, none⟩ ∧ b < w.heap.size ∧ w.cell? ⟨b, o + i, none⟩ = some (.int .u8 l[i].toNat)

theorem BytesAt.on {w w' : World} {v : Value} {l : List UInt8} (h : BytesAt w v l) (hb : Below w.heap.size w w') : BytesAt w' v l := by
  obtain ⟨a, cap, h1, h2, h3⟩ := h
  refine ⟨a, cap, h1, h2, fun i hi => ?_⟩
  obtain ⟨b, o, e, hlt, hc⟩ := h3 i hi
  exact ⟨b, o, e, Nat.lt_of_lt_of_le hlt hb.size, by rw [hb.cell hlt]; exact hc⟩

end Go.Proofs.YtenpghndgdemnaaGreatDoor

/- The walk of the specification's l6Open: the reader of draws is opened. No conditions. -/

namespace Go.Proofs.YtenpghndgdemnaaGreatDoor
open Go Go.RowKit

/-- The reader of draws is opened. -/
theorem l6Open_any (w : World) (a : Option Addr) (cap : Nat) (l : List UInt8) (hv : BytesAt w (.slice a l.length cap) l) (hcap : l.length ≤ cap) :
    Calls Tryz.prog 17 #[.slice a l.length cap] w fun e w' => ∃ (v' : Value) (b' : List UInt8), e = .returned (.pointer (some ⟨w.heap.size, 0, none⟩)) ∧ DR w.heap.size w' v' b' 0 ∧ Below w.heap.size w w' := by
  obtain ⟨a', cap', e, hlen, hc⟩ := hv
  simp only [Value.slice.injEq, true_and] at e
  obtain ⟨rfl, rfl⟩ := e
  by_cases h2 : l.length ≤ 2000
  · have hq : decide ((2000 : Int) < (l.length : Int)) = false := by simp; omega
    have HC := hide hc
    clear hc
    go_enter Tryz.func17, Tryz.ntmps17
    go_wp2_with fail
    go_ret
    refine ⟨.slice a l.length cap, l, rfl, ⟨?_, ⟨a, cap, rfl, fun i hi => ?_⟩, h2⟩, (Below.refl _ _).alloc (Nat.le_refl _) _⟩
    · exact World.rowIs_alloc w #[.slice a l.length cap, .int .i64 0] 77 _ (fun i hi => by
        have hi' : i < 2 := by simpa using hi
        rcases (show i = 0 ∨ i = 1 by omega) with rfl | rfl <;> rfl)
    · obtain ⟨g, o, e, hlt, hcell⟩ := unhide HC i hi
      exact ⟨g, o, e, hlt, by rw [World.cell?_of_block (w := w) (Below.heap_alloc _ _ _ hlt)]; exact hcell⟩
  · have hq : decide ((2000 : Int) < (l.length : Int)) = true := by simp; omega
    obtain ⟨g, o, rfl, -, -⟩ := hc 0 (by omega)
    have HC := hide hc
    clear hc
    have hc2 : 2000 ≤ cap := by omega
    have hc3 : (2000 : Int) ≤ (cap : Int) := by omega
    go_enter Tryz.func17, Tryz.ntmps17
    go_wp2_with fail
    go_ret
    have hl2 : (l.take 2000).length = 2000 := by rw [List.length_take]; omega
    refine ⟨.slice (some ⟨g, o, none⟩) 2000 cap, l.take 2000, rfl, ⟨?_, ⟨_, cap, by rw [hl2], fun i hi => ?_⟩, by omega⟩, (Below.refl _ _).alloc (Nat.le_refl _) _⟩
    · exact World.rowIs_alloc w #[.slice (some ⟨g, o, none⟩) 2000 cap, .int .i64 0] 77 _ (fun i hi => by
        have hi' : i < 2 := by simpa using hi
        rcases (show i = 0 ∨ i = 1 by omega) with rfl | rfl <;> rfl)
    · obtain ⟨g', o', e, hlt, hcell⟩ := unhide HC i (by omega)
      exact ⟨g', o', e, hlt, by rw [World.cell?_of_block (w := w) (Below.heap_alloc _ _ _ hlt), List.getElem_take]; exact hcell⟩
end Go.Proofs.YtenpghndgdemnaaGreatDoor

/- The walks of the specification's l5AnyKind, l6Open, DrawKindFirst: whatever bytes come in, some schema, in memory that the call made. No conditions. -/

namespace Go.Proofs.YtenpghndgdemnaaGreatDoor
open Go Go.RowKit

mutual
theorem ksz_wk : ∀ k : Kd, ksz k ≤ wKd k + 1
  | .mk s ns ks => by
    rw [ksz, wKd]
    have := klsz_wk ks
    omega
theorem klsz_wk : ∀ l : List Kd, klsz l ≤ wKs l
  | [] => by rw [klsz]; omega
  | t :: r => by
    rw [klsz, wKs]
    have := ksz_wk t; have := klsz_wk r
    omega
end

end Go.Proofs.YtenpghndgdemnaaGreatDoor
