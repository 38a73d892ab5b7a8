/- The drawn regions of the specification's l3Copy and l3Join. Conditions: what is called is taken by its contract. -/
import Derived.Test.YtenpghndgdemnaaGreatDoorPart30
import Derived.Test.YtenpghndgdemnaaGreatDoorPart35
namespace Go.Proofs.YtenpghndgdemnaaGreatDoor
open Go Go.RowKit

theorem krepF {P : Nat → Prop} {w : World} {k : Kd} {c : C3} (h : KRep P w k c) : ∃ (a1 : Option Addr) (p1 : Nat) (a2 : Option Addr) (p2 : Nat), c = ⟨.int .i64 k.sort, .slice a1 k.names.length p1, .slice a2 k.kids.length p2⟩ := by
  obtain ⟨c0, c1, c2⟩ := c
  obtain ⟨g0, -, ⟨a1, cap1, g1, -⟩, a2, cap2, g2, -⟩ := h.open
  simp only at g0 g1 g2
  exact ⟨a1, cap1, a2, cap2, by rw [g0, g1, g2]⟩
theorem ldOpJ {o : Oper} {a : Act} {X : Operand} {T : TypeId} {p v : Value} {W : World} (ho : o.op = .load T X) (hx : a.eval X = p) (h : (Instr.loadAt T p).run Tryz.prog W = .ok v W) : (execOp a.eval o).run Tryz.prog W = .ok (.value v) W := by
  unfold execOp
  simp only [ho, hx, Sem.run_bind, Sem.run_pure, Result.andThen_ok, h]
theorem stKdsJ (w : World) (ad : Addr) (a : Option Addr) (n c : Nat) (u : Value) (h : w.cell? ad = some u) (hf : w.frozen? ad = false) : (Instr.storeAt 24 (.pointer (some ad)) (.slice a n c)).run Tryz.prog w = .ok () (w.setCell ad (.slice a n c)) := by
  simp [Instr.storeAt, Instr.sureAddr, storeVar, h, hf, go_sem]
theorem stStrsJ (w : World) (ad : Addr) (a : Option Addr) (n c : Nat) (u : Value) (h : w.cell? ad = some u) (hf : w.frozen? ad = false) : (Instr.storeAt 23 (.pointer (some ad)) (.slice a n c)).run Tryz.prog w = .ok () (w.setCell ad (.slice a n c)) := by
  simp [Instr.storeAt, Instr.sureAddr, storeVar, h, hf, go_sem]
theorem cellLo {W B : World} {lo : Nat} (h : ∀ x, x < lo → W.heap[x]? = B.heap[x]?) {ad : Addr} {v : Value} (hb : ad.block < lo) (hc : B.cell? ad = some v) : W.cell? ad = some v := by
  rw [World.cell?_of_block (w := B) (h ad.block hb)]; exact hc
theorem K3.lo {W B : World} {lo b o : Nat} {c : C3} (hx : K3 B b o c) (hl : b < lo) (h : ∀ x, x < lo → W.heap[x]? = B.heap[x]?) : (Instr.loadAt 26 (.pointer (some ⟨b, o, none⟩))).run Tryz.prog W = .ok (.agg #[c.c0, c.c1, c.c2]) W :=
  ldK3 W b o _ _ _ (cellLo h hl hx.2.1) (cellLo h hl hx.2.2.1) (cellLo h hl hx.2.2.2)
theorem append_strJ (W : World) {ops : Array Oper} {rest : List Oper} {o : Oper} {a : Act} {Q : Exit → Act → World → Prop} (hg : o.guard = none) (s x : Operand) (hop : o.op = Op.call { callee := Callee.builtin Builtin.append, args := #[s, x], argTypes := #[23, 23] })
    (N : Nat) (v : Value) (k : Nat) (xs : List Value) (hs : a.eval s = v) (hown : W.ownsRow N 9 1 v k xs) (b : Nat) (nm : ByteArray) (hx : a.eval x = .slice (some ⟨b, 0, none⟩) 1 1) (hc : W.cell? ⟨b, 0, none⟩ = some (.string nm)) (hk : k ≤ 2000) (hN : N ≤ W.heap.size)
    (hK : ∀ ka' kc' W', Hid (W'.ownsRow N 9 1 (.slice ka' (k + 1) kc') (k + 1) (xs ++ [.string nm])) → Hid (W.grownBy W' v.ownBlock) → Hid ((Value.slice ka' (k + 1) kc').ownBlock = v.ownBlock ∨ ∃ g, (Value.slice ka' (k + 1) kc').ownBlock = some g ∧ W.heap.size ≤ g) → wpList Tryz.prog ops Q rest (a.put o.dst (.slice ka' (k + 1) kc')) W') :
    wpList Tryz.prog ops Q (o :: rest) a W := by
  obtain ⟨i, h2, h3, h4, h5⟩ := infoStrV
  refine append_row W hg s x 23 hop N 9 i (.string ByteArray.empty) 1 16 Tryz.underlying23 h2 h3 h4 h5 rfl (by decide) v k xs hs hown ⟨b, 0, none⟩ 1 1 [.string nm] hx rfl (fun j u hj => ?_) (fun u hu => by rw [List.mem_singleton.1 hu]; rfl) (by decide) (by unfold maxLen; omega) (by omega) hN (fun v' w' r1 r2 r3 => ?_)
  · match j, hj with
    | 0, hj => simp at hj; subst hj; exact hc
  · obtain ⟨ka', kc', rfl⟩ := own_formU r1
    exact hK ka' kc' w' r1 r2 r3
noncomputable def lc5Ops : Array Oper := fops Tryz.f70 5
theorem lc5_neat : Region.noSelect lc5Ops = true ∧ neat lc5Ops = true := ⟨by kernel_rfl, by kernel_rfl⟩
def kp_lc5 (z : Nat → Value) : List (Nat × Value) := [0, 2, 5, 6, 7, 8, 9, 10, 11, 12, 13, 14, 15, 16, 17, 18, 30].map fun i => (i, z i)
set_option maxRecDepth 100000 in
set_option maxHeartbeats 3200000 in
theorem lc5z (z : Nat → Value) (LL : (Nat → Value) → List Value) (lo A g kb ko kn kc i : Nat) (cx : C3) (s : Int) (vN : Value) (aK : Option Addr) (k capK : Nat) (ns : List ByteArray) (ks : List Kd) (xs : List Value) (P : Nat → Prop) (gx : Kd) (W0 : World) {l : List Value} (Q : Exit → Act → World → Prop) (hQ : ∀ c a d v w, Q (.panic c) (Act.put a d v) w → Q (.panic c) a w)
    (hA : A < lo) (hAc : W0.drew.cell? ⟨A, 2, none⟩ = some (.slice (some ⟨kb, ko, none⟩) kn kc)) (hkb : kb < lo) (hx : K3 W0.drew kb (ko + i * 3) cx) (hi : i < kn) (hk : k ≤ 2000) (hkl : ks.length = k) (hS : SK lo g W0.drew s vN (.slice aK k capK) ns ks xs P)
    (HK : Calls Tryz.prog 70 #[.agg #[cx.c0, cx.c1, cx.c2]] W0.drew fun e w' => ∃ d : C3, e = .returned (.agg #[d.c0, d.c1, d.c2]) ∧ KRep (New W0.drew w') w' gx d ∧ Below W0.drew.heap.size W0.drew w')
    (hl : lookL (kp_lc5 z ++ [(1, .pointer (some ⟨A, 0, none⟩)), (3, .pointer (some ⟨g, 0, none⟩)), (4, .int .i64 (i : Nat))]) l = (31, (kp_lc5 z ++ [(1, .pointer (some ⟨A, 0, none⟩)), (3, .pointer (some ⟨g, 0, none⟩)), (4, .int .i64 (i : Nat))] : List (Nat × Value)).map (·.2))) (hfr : ∀ u : Nat → Value, frL u 31 (kp_lc5 z ++ [(1, .pointer (some ⟨A, 0, none⟩)), (3, .pointer (some ⟨g, 0, none⟩)), (4, .int .i64 (i : Nat))]) = LL u)
    (hend : ∀ (u : Nat → Value) (a' : Option Addr) (cap' : Nat) (xs' : List Value) (P' : Nat → Prop) (W' : World), SK lo g W' s vN (.slice a' (k + 1) cap') ns (ks ++ [gx]) xs' P' → Below lo W0.drew W' → Q .normal ⟨(LL u).toArray, []⟩ W') : (Code.region 5 lc5Ops true).wp Tryz.prog Q ⟨l.toArray, []⟩ W0 := by
  obtain ⟨v0, rfl⟩ := look_fr hl
  have hq : NtQ lc5Ops Q := ⟨lc5_neat, hQ⟩
  refine T_start (S := (fun W => ∀ x, x < lo → W.heap[x]? = W0.drew.heap[x]?)) (by kernel_rfl) (fun _ _ => rfl) ?_
  clear hl hQ
  generalize W0.drew = B at hAc hx hS HK hend ⊢
  have hgl := hS.lt
  have hlg := hS.glo
  have Q2 : ∀ (u : Nat → Value) (e0 : Int) (a7 a8 : Option Addr) (n7 c7 n8 c8 : Nat) (W : World) (hr : KRep (New B W) W gx ⟨.int .i64 e0, .slice a7 n7 c7, .slice a8 n8 c8⟩) (hb : Below B.heap.size B W), wpS Tryz.prog lc5Ops Q (fun W => ∀ x, x < lo → W.heap[x]? = B.heap[x]?) (unl 12 [9, 10, 11], frL u 31 (kp_lc5 z ++ [(1, .pointer (some ⟨A, 0, none⟩)), (3, .pointer (some ⟨g, 0, none⟩)), (4, .int .i64 (i : Nat)), (19, .pointer (some ⟨g, 2, none⟩)), (20, .slice aK k capK), (27, .slice (some ⟨W.heap.size, 0, none⟩) 1 1)])) [] (W.alloc (.cells #[.int .i64 e0, .slice a7 n7 c7, .slice a8 n8 c8] 26)) := by
    intro u e0 a7 a8 n7 c7 n8 c8 W hr hb
    have hal := (Below.refl W.heap.size W).alloc (Nat.le_refl _) (.cells #[.int .i64 e0, .slice a7 n7 c7, .slice a8 n8 c8] 26)
    have hsA := (hS.on hb).on hal
    have hbz := hb.size
    have hown := hsA.kids
    rw [hkl] at hown
    refine T_one 9 (by kernel_rfl) fun hS0 => O_list (some 28) (by kernel_rfl) ?_
    refine append_kdJ _ (by kernel_rfl) (.tmp 20) (.tmp 27) (by kernel_rfl) lo aK k capK xs (by kernel_rfl) hown W.heap.size ⟨.int .i64 e0, .slice a7 n7 c7, .slice a8 n8 c8⟩ (by kernel_rfl) (cell_three W _ _) (fun u hu => by simp only [c3l, List.mem_cons, List.not_mem_nil, or_false] at hu; rcases hu with rfl | rfl | rfl <;> rfl) hk (by rw [World.size_alloc]; omega) ?_
    intro ka' kc' W3 ho hg hn
    have hbx := hsA.box.of_block (hg.out.block g hsA.lt (fun e => hsA.gk e.symm))
    have hc := hbx.cell (i := 2) (by omega)
    simp only [row3] at hc
    have hlow : ∀ x, x < lo → W3.heap[x]? = B.heap[x]? := fun x hx => (hg.out.block x (by rw [World.size_alloc]; omega) (fun e => by have := (hsA.kids.lt x e.symm).1; omega)).trans ((hal.block x (by omega)).trans (hb.block x (by omega)))
    have hsk := hsA.kid (KRep.carry (Q := New B W) (fun b hb' => hal.block b hb'.2) (fun _ h => h) _ _ hr) (fun b hb' => ⟨by have := hb'.1; omega, by rw [World.size_alloc]; have := hb'.2; omega, by have := hb'.1; omega, fun e => by have := (hS.names.lt b e).2; have := hb'.1; omega, fun e => by have := (hS.kids.lt b e).2; have := hb'.1; omega⟩) (by rw [hkl]; exact ho.out) hg.out hn.out
    have hbl : Below lo B (W3.setCell ⟨g, 2, none⟩ (.slice ka' (k + 1) kc')) := ((((hb.mono (by omega)).trans (hal.mono (by omega)))).grown hg.out (by rw [World.size_alloc]; omega) (fun b e => by have := (hsA.kids.lt b e).1; omega)).setCell (by simpa using hlg) _
    refine ⟨hlow, _, put_putL .., ?_⟩
    refine T_z hq [10] (by kernel_rfl) ?_
    refine T_one 11 (by kernel_rfl) fun _ => O_store none 24 (.tmp 29) (.tmp 28) ⟨g, 2, none⟩ (.slice ka' (k + 1) kc') _ (by kernel_rfl) (by kernel_rfl) (by kernel_rfl) (stKdsJ W3 _ _ _ _ _ hc (hbx.frozen 2)) (fun x hx => hbl.block x hx) ?_
    exact T_end 31 (kp_lc5 z ++ [(1, .pointer (some ⟨A, 0, none⟩)), (3, .pointer (some ⟨g, 0, none⟩)), (4, .int .i64 (i : Nat))]) (by kernel_rfl) (by kernel_rfl) fun _ u => by rw [hfr]; exact hend u _ _ _ _ _ hsk hbl
  have Q1 : ∀ (u : Nat → Value) (e0 : Int) (a7 a8 : Option Addr) (n7 c7 n8 c8 : Nat) (W : World) (hr : KRep (New B W) W gx ⟨.int .i64 e0, .slice a7 n7 c7, .slice a8 n8 c8⟩) (hb : Below B.heap.size B W), wpS Tryz.prog lc5Ops Q (fun W => ∀ x, x < lo → W.heap[x]? = B.heap[x]?) (unl 12 [8, 9, 10, 11], frL u 31 (kp_lc5 z ++ [(1, .pointer (some ⟨A, 0, none⟩)), (3, .pointer (some ⟨g, 0, none⟩)), (4, .int .i64 (i : Nat)), (19, .pointer (some ⟨g, 2, none⟩)), (20, .slice aK k capK), (26, .agg #[.int .i64 e0, .slice a7 n7 c7, .slice a8 n8 c8])])) [] W := by
    intro u e0 a7 a8 n7 c7 n8 c8 W hr hb
    refine T_one 8 (by kernel_rfl) fun _ => ?_
    exact O_val (w' := W.alloc (.cells #[.int .i64 e0, .slice a7 n7 c7, .slice a8 n8 c8] 26)) (some 27) (.slice (some ⟨W.heap.size, 0, none⟩) 1 1) (by kernel_rfl) (by kernel_rfl) (fun x hx => (Below.heap_alloc _ _ _ (by have := hb.size; omega)).trans (hb.block x (by omega))) (T_fr 12 31 [9, 10, 11] (kp_lc5 z ++ [(1, .pointer (some ⟨A, 0, none⟩)), (3, .pointer (some ⟨g, 0, none⟩)), (4, .int .i64 (i : Nat)), (19, .pointer (some ⟨g, 2, none⟩)), (20, .slice aK k capK), (27, .slice (some ⟨W.heap.size, 0, none⟩) 1 1)]) (by kernel_rfl) fun u => Q2 u e0 a7 a8 n7 c7 n8 c8 W hr hb)
  have P2 : ∀ (u : Nat → Value) (e0 : Int) (a7 a8 : Option Addr) (n7 c7 n8 c8 : Nat) (W : World) (hr : KRep (New B W) W gx ⟨.int .i64 e0, .slice a7 n7 c7, .slice a8 n8 c8⟩) (hb : Below B.heap.size B W), wpS Tryz.prog lc5Ops Q (fun W => ∀ x, x < lo → W.heap[x]? = B.heap[x]?) (unl 12 [1, 9, 10, 11], frL u 31 (kp_lc5 z ++ [(1, .pointer (some ⟨A, 0, none⟩)), (3, .pointer (some ⟨g, 0, none⟩)), (4, .int .i64 (i : Nat)), (19, .pointer (some ⟨g, 2, none⟩)), (27, .slice (some ⟨W.heap.size, 0, none⟩) 1 1)])) [] (W.alloc (.cells #[.int .i64 e0, .slice a7 n7 c7, .slice a8 n8 c8] 26)) := by
    intro u e0 a7 a8 n7 c7 n8 c8 W hr hb
    refine T_one 1 (by kernel_rfl) fun hS0 => ?_
    exact O_val (some 20) (.slice aK k capK) (by kernel_rfl) (ldOpJ (X := .tmp 19) (by kernel_rfl) (by kernel_rfl) (ldKsJ (W.alloc (.cells #[.int .i64 e0, .slice a7 n7 c7, .slice a8 n8 c8] 26)) ⟨g, 2, none⟩ _ (((hS.on hb).box.alloc _).cell (i := 2) (by omega)))) hS0 (T_fr 12 31 [9, 10, 11] (kp_lc5 z ++ [(1, .pointer (some ⟨A, 0, none⟩)), (3, .pointer (some ⟨g, 0, none⟩)), (4, .int .i64 (i : Nat)), (19, .pointer (some ⟨g, 2, none⟩)), (20, .slice aK k capK), (27, .slice (some ⟨W.heap.size, 0, none⟩) 1 1)]) (by kernel_rfl) fun u => Q2 u e0 a7 a8 n7 c7 n8 c8 W hr hb)
  have P1 : ∀ (u : Nat → Value) (e0 : Int) (a7 a8 : Option Addr) (n7 c7 n8 c8 : Nat) (W : World) (hr : KRep (New B W) W gx ⟨.int .i64 e0, .slice a7 n7 c7, .slice a8 n8 c8⟩) (hb : Below B.heap.size B W), wpS Tryz.prog lc5Ops Q (fun W => ∀ x, x < lo → W.heap[x]? = B.heap[x]?) (unl 12 [1, 8, 9, 10, 11], frL u 31 (kp_lc5 z ++ [(1, .pointer (some ⟨A, 0, none⟩)), (3, .pointer (some ⟨g, 0, none⟩)), (4, .int .i64 (i : Nat)), (19, .pointer (some ⟨g, 2, none⟩)), (26, .agg #[.int .i64 e0, .slice a7 n7 c7, .slice a8 n8 c8])])) [] W := by
    intro u e0 a7 a8 n7 c7 n8 c8 W hr hb
    refine T_two 1 8 (by kernel_rfl) (fun hS0 => ?_) fun _ => ?_
    · exact O_val (some 20) (.slice aK k capK) (by kernel_rfl) (ldOpJ (X := .tmp 19) (by kernel_rfl) (by kernel_rfl) (ldKsJ W ⟨g, 2, none⟩ _ ((hS.on hb).box.cell (i := 2) (by omega)))) hS0 (T_fr 12 31 [8, 9, 10, 11] (kp_lc5 z ++ [(1, .pointer (some ⟨A, 0, none⟩)), (3, .pointer (some ⟨g, 0, none⟩)), (4, .int .i64 (i : Nat)), (19, .pointer (some ⟨g, 2, none⟩)), (20, .slice aK k capK), (26, .agg #[.int .i64 e0, .slice a7 n7 c7, .slice a8 n8 c8])]) (by kernel_rfl) fun u => Q1 u e0 a7 a8 n7 c7 n8 c8 W hr hb)
    · exact O_val (w' := W.alloc (.cells #[.int .i64 e0, .slice a7 n7 c7, .slice a8 n8 c8] 26)) (some 27) (.slice (some ⟨W.heap.size, 0, none⟩) 1 1) (by kernel_rfl) (by kernel_rfl) (fun x hx => (Below.heap_alloc _ _ _ (by have := hb.size; omega)).trans (hb.block x (by omega))) (T_fr 12 31 [1, 9, 10, 11] (kp_lc5 z ++ [(1, .pointer (some ⟨A, 0, none⟩)), (3, .pointer (some ⟨g, 0, none⟩)), (4, .int .i64 (i : Nat)), (19, .pointer (some ⟨g, 2, none⟩)), (27, .slice (some ⟨W.heap.size, 0, none⟩) 1 1)]) (by kernel_rfl) fun u => P2 u e0 a7 a8 n7 c7 n8 c8 W hr hb)
  have Q0 : ∀ (u : Nat → Value), wpS Tryz.prog lc5Ops Q (fun W => ∀ x, x < lo → W.heap[x]? = B.heap[x]?) (unl 12 [7, 8, 9, 10, 11], frL u 31 (kp_lc5 z ++ [(1, .pointer (some ⟨A, 0, none⟩)), (3, .pointer (some ⟨g, 0, none⟩)), (4, .int .i64 (i : Nat)), (19, .pointer (some ⟨g, 2, none⟩)), (20, .slice aK k capK), (25, .agg #[cx.c0, cx.c1, cx.c2])])) [] B := by
    intro u
    refine T_one 7 (by kernel_rfl) fun _ => ?_
    refine O_go HK (by kernel_rfl) ?_
    rintro e W ⟨d, rfl, hr, hb⟩
    obtain ⟨a7, c7, a8, c8, rfl⟩ := krepF hr
    exact ⟨_, rfl, fun x hx => hb.block x (by omega), T_fr 12 31 [8, 9, 10, 11] (kp_lc5 z ++ [(1, .pointer (some ⟨A, 0, none⟩)), (3, .pointer (some ⟨g, 0, none⟩)), (4, .int .i64 (i : Nat)), (19, .pointer (some ⟨g, 2, none⟩)), (20, .slice aK k capK), (26, .agg #[.int .i64 gx.sort, .slice a7 gx.names.length c7, .slice a8 gx.kids.length c8])]) (by kernel_rfl) fun u => Q1 u _ a7 a8 _ c7 _ c8 W hr hb⟩
  have P0 : ∀ (u : Nat → Value), wpS Tryz.prog lc5Ops Q (fun W => ∀ x, x < lo → W.heap[x]? = B.heap[x]?) (unl 12 [1, 7, 8, 9, 10, 11], frL u 31 (kp_lc5 z ++ [(1, .pointer (some ⟨A, 0, none⟩)), (3, .pointer (some ⟨g, 0, none⟩)), (4, .int .i64 (i : Nat)), (19, .pointer (some ⟨g, 2, none⟩)), (25, .agg #[cx.c0, cx.c1, cx.c2])])) [] B := by
    intro u
    refine T_two 1 7 (by kernel_rfl) (fun hS0 => O_val (some 20) (.slice aK k capK) (by kernel_rfl) (ldOpJ (X := .tmp 19) (by kernel_rfl) (by kernel_rfl) (ldKsJ B ⟨g, 2, none⟩ _ (hS.box.cell (i := 2) (by omega)))) hS0 (T_fr 12 31 [7, 8, 9, 10, 11] (kp_lc5 z ++ [(1, .pointer (some ⟨A, 0, none⟩)), (3, .pointer (some ⟨g, 0, none⟩)), (4, .int .i64 (i : Nat)), (19, .pointer (some ⟨g, 2, none⟩)), (20, .slice aK k capK), (25, .agg #[cx.c0, cx.c1, cx.c2])]) (by kernel_rfl) fun u => Q0 u)) fun _ => ?_
    refine O_go HK (by kernel_rfl) ?_
    rintro e W ⟨d, rfl, hr, hb⟩
    obtain ⟨a7, c7, a8, c8, rfl⟩ := krepF hr
    exact ⟨_, rfl, fun x hx => hb.block x (by omega), T_fr 12 31 [1, 8, 9, 10, 11] (kp_lc5 z ++ [(1, .pointer (some ⟨A, 0, none⟩)), (3, .pointer (some ⟨g, 0, none⟩)), (4, .int .i64 (i : Nat)), (19, .pointer (some ⟨g, 2, none⟩)), (26, .agg #[.int .i64 gx.sort, .slice a7 gx.names.length c7, .slice a8 gx.kids.length c8])]) (by kernel_rfl) fun u => P1 u _ a7 a8 _ c7 _ c8 W hr hb⟩
  refine T_z hq [0, 2, 4] (by kernel_rfl) ?_
  refine T_a hq [3] (fun w' h => .cons (ldKsJ _ ⟨A, 2, none⟩ (.slice (some ⟨kb, ko, none⟩) kn kc) (cellLo h hA hAc)) Lds.nil) (by kernel_rfl) ?_
  refine T_yld hq 5 (some 24) (.pointer (some ⟨kb, ko + i * 3, none⟩)) (by kernel_rfl) (by kernel_rfl) (fun w _ => ixKdJ (n := kn) (cap := kc) (i := i) (X := .tmp 22) (I := .tmp 23) (by kernel_rfl) (by kernel_rfl) (by kernel_rfl) hi w) ?_
  refine T_a hq [6] (fun w' h => .cons (hx.lo hkb h) Lds.nil) (by kernel_rfl) ?_
  exact T_fr 12 31 [1, 7, 8, 9, 10, 11] (kp_lc5 z ++ [(1, .pointer (some ⟨A, 0, none⟩)), (3, .pointer (some ⟨g, 0, none⟩)), (4, .int .i64 (i : Nat)), (19, .pointer (some ⟨g, 2, none⟩)), (25, .agg #[cx.c0, cx.c1, cx.c2])]) (by kernel_rfl) fun u => P0 u
theorem lc5 (lo A g kb ko kn kc i : Nat) (cx : C3) (s : Int) (vN : Value) (aK : Option Addr) (k capK : Nat) (ns : List ByteArray) (ks : List Kd) (xs : List Value) (P : Nat → Prop) (gx : Kd) (W0 : World) {l : List Value} (Q : Exit → Act → World → Prop) (hQ : ∀ c a d v w, Q (.panic c) (Act.put a d v) w → Q (.panic c) a w)
    (hA : A < lo) (hAc : W0.drew.cell? ⟨A, 2, none⟩ = some (.slice (some ⟨kb, ko, none⟩) kn kc)) (hkb : kb < lo) (hx : K3 W0.drew kb (ko + i * 3) cx) (hi : i < kn) (hk : k ≤ 2000) (hkl : ks.length = k) (hS : SK lo g W0.drew s vN (.slice aK k capK) ns ks xs P)
    (HK : Calls Tryz.prog 70 #[.agg #[cx.c0, cx.c1, cx.c2]] W0.drew fun e w' => ∃ d : C3, e = .returned (.agg #[d.c0, d.c1, d.c2]) ∧ KRep (New W0.drew w') w' gx d ∧ Below W0.drew.heap.size W0.drew w')
    (hl : lookL (kp_lc5 (fun i => l.getD i undef) ++ [(1, .pointer (some ⟨A, 0, none⟩)), (3, .pointer (some ⟨g, 0, none⟩)), (4, .int .i64 (i : Nat))]) l = (31, (kp_lc5 (fun i => l.getD i undef) ++ [(1, .pointer (some ⟨A, 0, none⟩)), (3, .pointer (some ⟨g, 0, none⟩)), (4, .int .i64 (i : Nat))] : List (Nat × Value)).map (·.2))) (hfr : ∀ u : Nat → Value, frL u 31 (kp_lc5 (fun i => l.getD i undef) ++ [(1, .pointer (some ⟨A, 0, none⟩)), (3, .pointer (some ⟨g, 0, none⟩)), (4, .int .i64 (i : Nat))]) = l.take 19 ++ (u 19 :: u 20 :: u 21 :: u 22 :: u 23 :: u 24 :: u 25 :: u 26 :: u 27 :: u 28 :: u 29 :: l.drop 30))
    (hend : ∀ (u : Nat → Value) (a' : Option Addr) (cap' : Nat) (xs' : List Value) (P' : Nat → Prop) (W' : World), SK lo g W' s vN (.slice a' (k + 1) cap') ns (ks ++ [gx]) xs' P' → Below lo W0.drew W' → Q .normal ⟨(l.take 19 ++ (u 19 :: u 20 :: u 21 :: u 22 :: u 23 :: u 24 :: u 25 :: u 26 :: u 27 :: u 28 :: u 29 :: l.drop 30)).toArray, []⟩ W') : (Code.region 5 lc5Ops true).wp Tryz.prog Q ⟨l.toArray, []⟩ W0 :=
  lc5z (fun i => l.getD i undef) (fun u => l.take 19 ++ (u 19 :: u 20 :: u 21 :: u 22 :: u 23 :: u 24 :: u 25 :: u 26 :: u 27 :: u 28 :: u 29 :: l.drop 30)) lo A g kb ko kn kc i cx s vN aK k capK ns ks xs P gx W0 Q hQ hA hAc hkb hx hi hk hkl hS HK hl hfr hend
noncomputable def lj23Ops : Array Oper := fops Tryz.f23 23
theorem lj23_neat : Region.noSelect lj23Ops = true ∧ neat lj23Ops = true := ⟨by kernel_rfl, by kernel_rfl⟩
def kp_lj23 (z : Nat → Value) : List (Nat × Value) := [0, 1, 3, 4, 5, 6, 7, 9, 10, 12, 13, 14, 15, 16, 17, 18, 19, 20, 21, 22, 23, 24, 25, 26, 27, 28, 29, 30, 31, 32, 33, 34, 35, 36, 37, 38, 39, 40, 41, 42, 43, 44, 45, 46, 47, 48, 49, 50, 51, 52, 53, 54, 55, 56, 57, 58, 59, 60, 61, 62, 63, 64, 65, 66, 67, 68, 69, 70, 71, 72, 73, 74, 75, 76, 77, 78, 79, 80, 81, 82, 83, 84, 85, 86, 87, 88, 89, 90, 91, 92, 93, 94, 95, 96, 97, 98, 99, 100, 101, 102, 103, 104, 105, 106, 107, 108, 109, 110, 111, 112, 113, 114, 115, 116, 117, 118, 119, 120, 121, 122, 123, 124, 125, 126, 127, 128, 129, 130, 131, 132, 133, 134, 135, 136, 137, 138, 139, 140, 141, 142, 143, 144, 145, 146, 147, 148, 160, 161, 162, 163, 164, 165, 166, 167, 168, 169, 170, 171, 172, 173, 174, 175, 176, 177, 178, 179, 180, 181, 182, 183, 184, 185, 186, 187, 188, 189, 190, 191, 192, 193, 194, 195, 196, 197, 198, 199, 200, 201, 202, 203, 204].map fun i => (i, z i)
set_option maxRecDepth 100000 in
set_option maxHeartbeats 3200000 in
theorem lj23z (z : Nat → Value) (LL : (Nat → Value) → List Value) (lo A g kb ko kn kc i : Nat) (cx : C3) (s : Int) (vN : Value) (aK : Option Addr) (k capK : Nat) (ns : List ByteArray) (ks : List Kd) (xs : List Value) (P : Nat → Prop) (gx : Kd) (W0 : World) {l : List Value} (Q : Exit → Act → World → Prop) (hQ : ∀ c a d v w, Q (.panic c) (Act.put a d v) w → Q (.panic c) a w)
    (hA : A < lo) (hAc : W0.drew.cell? ⟨A, 2, none⟩ = some (.slice (some ⟨kb, ko, none⟩) kn kc)) (hkb : kb < lo) (hx : K3 W0.drew kb (ko + i * 3) cx) (hi : i < kn) (hk : k ≤ 2000) (hkl : ks.length = k) (hS : SK lo g W0.drew s vN (.slice aK k capK) ns ks xs P)
    (HK : Calls Tryz.prog 46 #[.agg #[cx.c0, cx.c1, cx.c2]] W0.drew fun e w' => ∃ d : C3, e = .returned (.agg #[d.c0, d.c1, d.c2]) ∧ KRep (New W0.drew w') w' gx d ∧ Below W0.drew.heap.size W0.drew w')
    (hl : lookL (kp_lj23 z ++ [(2, .pointer (some ⟨A, 0, none⟩)), (8, .pointer (some ⟨g, 0, none⟩)), (11, .int .i64 (i : Nat))]) l = (205, (kp_lj23 z ++ [(2, .pointer (some ⟨A, 0, none⟩)), (8, .pointer (some ⟨g, 0, none⟩)), (11, .int .i64 (i : Nat))] : List (Nat × Value)).map (·.2))) (hfr : ∀ u : Nat → Value, frL u 205 (kp_lj23 z ++ [(2, .pointer (some ⟨A, 0, none⟩)), (8, .pointer (some ⟨g, 0, none⟩)), (11, .int .i64 (i : Nat))]) = LL u)
    (hend : ∀ (u : Nat → Value) (a' : Option Addr) (cap' : Nat) (xs' : List Value) (P' : Nat → Prop) (W' : World), SK lo g W' s vN (.slice a' (k + 1) cap') ns (ks ++ [gx]) xs' P' → Below lo W0.drew W' → Q .normal ⟨(LL u).toArray, []⟩ W') : (Code.region 23 lj23Ops true).wp Tryz.prog Q ⟨l.toArray, []⟩ W0 := by
  obtain ⟨v0, rfl⟩ := look_fr hl
  have hq : NtQ lj23Ops Q := ⟨lj23_neat, hQ⟩
  refine T_start (S := (fun W => ∀ x, x < lo → W.heap[x]? = W0.drew.heap[x]?)) (by kernel_rfl) (fun _ _ => rfl) ?_
  clear hl hQ
  generalize W0.drew = B at hAc hx hS HK hend ⊢
  have hgl := hS.lt
  have hlg := hS.glo
  have Q2 : ∀ (u : Nat → Value) (e0 : Int) (a7 a8 : Option Addr) (n7 c7 n8 c8 : Nat) (W : World) (hr : KRep (New B W) W gx ⟨.int .i64 e0, .slice a7 n7 c7, .slice a8 n8 c8⟩) (hb : Below B.heap.size B W), wpS Tryz.prog lj23Ops Q (fun W => ∀ x, x < lo → W.heap[x]? = B.heap[x]?) (unl 12 [9, 10, 11], frL u 205 (kp_lj23 z ++ [(2, .pointer (some ⟨A, 0, none⟩)), (8, .pointer (some ⟨g, 0, none⟩)), (11, .int .i64 (i : Nat)), (149, .pointer (some ⟨g, 2, none⟩)), (150, .slice aK k capK), (157, .slice (some ⟨W.heap.size, 0, none⟩) 1 1)])) [] (W.alloc (.cells #[.int .i64 e0, .slice a7 n7 c7, .slice a8 n8 c8] 26)) := by
    intro u e0 a7 a8 n7 c7 n8 c8 W hr hb
    have hal := (Below.refl W.heap.size W).alloc (Nat.le_refl _) (.cells #[.int .i64 e0, .slice a7 n7 c7, .slice a8 n8 c8] 26)
    have hsA := (hS.on hb).on hal
    have hbz := hb.size
    have hown := hsA.kids
    rw [hkl] at hown
    refine T_one 9 (by kernel_rfl) fun hS0 => O_list (some 158) (by kernel_rfl) ?_
    refine append_kdJ _ (by kernel_rfl) (.tmp 150) (.tmp 157) (by kernel_rfl) lo aK k capK xs (by kernel_rfl) hown W.heap.size ⟨.int .i64 e0, .slice a7 n7 c7, .slice a8 n8 c8⟩ (by kernel_rfl) (cell_three W _ _) (fun u hu => by simp only [c3l, List.mem_cons, List.not_mem_nil, or_false] at hu; rcases hu with rfl | rfl | rfl <;> rfl) hk (by rw [World.size_alloc]; omega) ?_
    intro ka' kc' W3 ho hg hn
    have hbx := hsA.box.of_block (hg.out.block g hsA.lt (fun e => hsA.gk e.symm))
    have hc := hbx.cell (i := 2) (by omega)
    simp only [row3] at hc
    have hlow : ∀ x, x < lo → W3.heap[x]? = B.heap[x]? := fun x hx => (hg.out.block x (by rw [World.size_alloc]; omega) (fun e => by have := (hsA.kids.lt x e.symm).1; omega)).trans ((hal.block x (by omega)).trans (hb.block x (by omega)))
    have hsk := hsA.kid (KRep.carry (Q := New B W) (fun b hb' => hal.block b hb'.2) (fun _ h => h) _ _ hr) (fun b hb' => ⟨by have := hb'.1; omega, by rw [World.size_alloc]; have := hb'.2; omega, by have := hb'.1; omega, fun e => by have := (hS.names.lt b e).2; have := hb'.1; omega, fun e => by have := (hS.kids.lt b e).2; have := hb'.1; omega⟩) (by rw [hkl]; exact ho.out) hg.out hn.out
    have hbl : Below lo B (W3.setCell ⟨g, 2, none⟩ (.slice ka' (k + 1) kc')) := ((((hb.mono (by omega)).trans (hal.mono (by omega)))).grown hg.out (by rw [World.size_alloc]; omega) (fun b e => by have := (hsA.kids.lt b e).1; omega)).setCell (by simpa using hlg) _
    refine ⟨hlow, _, put_putL .., ?_⟩
    refine T_z hq [10] (by kernel_rfl) ?_
    refine T_one 11 (by kernel_rfl) fun _ => O_store none 24 (.tmp 159) (.tmp 158) ⟨g, 2, none⟩ (.slice ka' (k + 1) kc') _ (by kernel_rfl) (by kernel_rfl) (by kernel_rfl) (stKdsJ W3 _ _ _ _ _ hc (hbx.frozen 2)) (fun x hx => hbl.block x hx) ?_
    exact T_end 205 (kp_lj23 z ++ [(2, .pointer (some ⟨A, 0, none⟩)), (8, .pointer (some ⟨g, 0, none⟩)), (11, .int .i64 (i : Nat))]) (by kernel_rfl) (by kernel_rfl) fun _ u => by rw [hfr]; exact hend u _ _ _ _ _ hsk hbl
  have Q1 : ∀ (u : Nat → Value) (e0 : Int) (a7 a8 : Option Addr) (n7 c7 n8 c8 : Nat) (W : World) (hr : KRep (New B W) W gx ⟨.int .i64 e0, .slice a7 n7 c7, .slice a8 n8 c8⟩) (hb : Below B.heap.size B W), wpS Tryz.prog lj23Ops Q (fun W => ∀ x, x < lo → W.heap[x]? = B.heap[x]?) (unl 12 [8, 9, 10, 11], frL u 205 (kp_lj23 z ++ [(2, .pointer (some ⟨A, 0, none⟩)), (8, .pointer (some ⟨g, 0, none⟩)), (11, .int .i64 (i : Nat)), (149, .pointer (some ⟨g, 2, none⟩)), (150, .slice aK k capK), (156, .agg #[.int .i64 e0, .slice a7 n7 c7, .slice a8 n8 c8])])) [] W := by
    intro u e0 a7 a8 n7 c7 n8 c8 W hr hb
    refine T_one 8 (by kernel_rfl) fun _ => ?_
    exact O_val (w' := W.alloc (.cells #[.int .i64 e0, .slice a7 n7 c7, .slice a8 n8 c8] 26)) (some 157) (.slice (some ⟨W.heap.size, 0, none⟩) 1 1) (by kernel_rfl) (by kernel_rfl) (fun x hx => (Below.heap_alloc _ _ _ (by have := hb.size; omega)).trans (hb.block x (by omega))) (T_fr 12 205 [9, 10, 11] (kp_lj23 z ++ [(2, .pointer (some ⟨A, 0, none⟩)), (8, .pointer (some ⟨g, 0, none⟩)), (11, .int .i64 (i : Nat)), (149, .pointer (some ⟨g, 2, none⟩)), (150, .slice aK k capK), (157, .slice (some ⟨W.heap.size, 0, none⟩) 1 1)]) (by kernel_rfl) fun u => Q2 u e0 a7 a8 n7 c7 n8 c8 W hr hb)
  have P2 : ∀ (u : Nat → Value) (e0 : Int) (a7 a8 : Option Addr) (n7 c7 n8 c8 : Nat) (W : World) (hr : KRep (New B W) W gx ⟨.int .i64 e0, .slice a7 n7 c7, .slice a8 n8 c8⟩) (hb : Below B.heap.size B W), wpS Tryz.prog lj23Ops Q (fun W => ∀ x, x < lo → W.heap[x]? = B.heap[x]?) (unl 12 [1, 9, 10, 11], frL u 205 (kp_lj23 z ++ [(2, .pointer (some ⟨A, 0, none⟩)), (8, .pointer (some ⟨g, 0, none⟩)), (11, .int .i64 (i : Nat)), (149, .pointer (some ⟨g, 2, none⟩)), (157, .slice (some ⟨W.heap.size, 0, none⟩) 1 1)])) [] (W.alloc (.cells #[.int .i64 e0, .slice a7 n7 c7, .slice a8 n8 c8] 26)) := by
    intro u e0 a7 a8 n7 c7 n8 c8 W hr hb
    refine T_one 1 (by kernel_rfl) fun hS0 => ?_
    exact O_val (some 150) (.slice aK k capK) (by kernel_rfl) (ldOpJ (X := .tmp 149) (by kernel_rfl) (by kernel_rfl) (ldKsJ (W.alloc (.cells #[.int .i64 e0, .slice a7 n7 c7, .slice a8 n8 c8] 26)) ⟨g, 2, none⟩ _ (((hS.on hb).box.alloc _).cell (i := 2) (by omega)))) hS0 (T_fr 12 205 [9, 10, 11] (kp_lj23 z ++ [(2, .pointer (some ⟨A, 0, none⟩)), (8, .pointer (some ⟨g, 0, none⟩)), (11, .int .i64 (i : Nat)), (149, .pointer (some ⟨g, 2, none⟩)), (150, .slice aK k capK), (157, .slice (some ⟨W.heap.size, 0, none⟩) 1 1)]) (by kernel_rfl) fun u => Q2 u e0 a7 a8 n7 c7 n8 c8 W hr hb)
  have P1 : ∀ (u : Nat → Value) (e0 : Int) (a7 a8 : Option Addr) (n7 c7 n8 c8 : Nat) (W : World) (hr : KRep (New B W) W gx ⟨.int .i64 e0, .slice a7 n7 c7, .slice a8 n8 c8⟩) (hb : Below B.heap.size B W), wpS Tryz.prog lj23Ops Q (fun W => ∀ x, x < lo → W.heap[x]? = B.heap[x]?) (unl 12 [1, 8, 9, 10, 11], frL u 205 (kp_lj23 z ++ [(2, .pointer (some ⟨A, 0, none⟩)), (8, .pointer (some ⟨g, 0, none⟩)), (11, .int .i64 (i : Nat)), (149, .pointer (some ⟨g, 2, none⟩)), (156, .agg #[.int .i64 e0, .slice a7 n7 c7, .slice a8 n8 c8])])) [] W := by
    intro u e0 a7 a8 n7 c7 n8 c8 W hr hb
    refine T_two 1 8 (by kernel_rfl) (fun hS0 => ?_) fun _ => ?_
    · exact O_val (some 150) (.slice aK k capK) (by kernel_rfl) (ldOpJ (X := .tmp 149) (by kernel_rfl) (by kernel_rfl) (ldKsJ W ⟨g, 2, none⟩ _ ((hS.on hb).box.cell (i := 2) (by omega)))) hS0 (T_fr 12 205 [8, 9, 10, 11] (kp_lj23 z ++ [(2, .pointer (some ⟨A, 0, none⟩)), (8, .pointer (some ⟨g, 0, none⟩)), (11, .int .i64 (i : Nat)), (149, .pointer (some ⟨g, 2, none⟩)), (150, .slice aK k capK), (156, .agg #[.int .i64 e0, .slice a7 n7 c7, .slice a8 n8 c8])]) (by kernel_rfl) fun u => Q1 u e0 a7 a8 n7 c7 n8 c8 W hr hb)
    · exact O_val (w' := W.alloc (.cells #[.int .i64 e0, .slice a7 n7 c7, .slice a8 n8 c8] 26)) (some 157) (.slice (some ⟨W.heap.size, 0, none⟩) 1 1) (by kernel_rfl) (by kernel_rfl) (fun x hx => (Below.heap_alloc _ _ _ (by have := hb.size; omega)).trans (hb.block x (by omega))) (T_fr 12 205 [1, 9, 10, 11] (kp_lj23 z ++ [(2, .pointer (some ⟨A, 0, none⟩)), (8, .pointer (some ⟨g, 0, none⟩)), (11, .int .i64 (i : Nat)), (149, .pointer (some ⟨g, 2, none⟩)), (157, .slice (some ⟨W.heap.size, 0, none⟩) 1 1)]) (by kernel_rfl) fun u => P2 u e0 a7 a8 n7 c7 n8 c8 W hr hb)
  have Q0 : ∀ (u : Nat → Value), wpS Tryz.prog lj23Ops Q (fun W => ∀ x, x < lo → W.heap[x]? = B.heap[x]?) (unl 12 [7, 8, 9, 10, 11], frL u 205 (kp_lj23 z ++ [(2, .pointer (some ⟨A, 0, none⟩)), (8, .pointer (some ⟨g, 0, none⟩)), (11, .int .i64 (i : Nat)), (149, .pointer (some ⟨g, 2, none⟩)), (150, .slice aK k capK), (155, .agg #[cx.c0, cx.c1, cx.c2])])) [] B := by
    intro u
    refine T_one 7 (by kernel_rfl) fun _ => ?_
    refine O_go HK (by kernel_rfl) ?_
    rintro e W ⟨d, rfl, hr, hb⟩
    obtain ⟨a7, c7, a8, c8, rfl⟩ := krepF hr
    exact ⟨_, rfl, fun x hx => hb.block x (by omega), T_fr 12 205 [8, 9, 10, 11] (kp_lj23 z ++ [(2, .pointer (some ⟨A, 0, none⟩)), (8, .pointer (some ⟨g, 0, none⟩)), (11, .int .i64 (i : Nat)), (149, .pointer (some ⟨g, 2, none⟩)), (150, .slice aK k capK), (156, .agg #[.int .i64 gx.sort, .slice a7 gx.names.length c7, .slice a8 gx.kids.length c8])]) (by kernel_rfl) fun u => Q1 u _ a7 a8 _ c7 _ c8 W hr hb⟩
  have P0 : ∀ (u : Nat → Value), wpS Tryz.prog lj23Ops Q (fun W => ∀ x, x < lo → W.heap[x]? = B.heap[x]?) (unl 12 [1, 7, 8, 9, 10, 11], frL u 205 (kp_lj23 z ++ [(2, .pointer (some ⟨A, 0, none⟩)), (8, .pointer (some ⟨g, 0, none⟩)), (11, .int .i64 (i : Nat)), (149, .pointer (some ⟨g, 2, none⟩)), (155, .agg #[cx.c0, cx.c1, cx.c2])])) [] B := by
    intro u
    refine T_two 1 7 (by kernel_rfl) (fun hS0 => O_val (some 150) (.slice aK k capK) (by kernel_rfl) (ldOpJ (X := .tmp 149) (by kernel_rfl) (by kernel_rfl) (ldKsJ B ⟨g, 2, none⟩ _ (hS.box.cell (i := 2) (by omega)))) hS0 (T_fr 12 205 [7, 8, 9, 10, 11] (kp_lj23 z ++ [(2, .pointer (some ⟨A, 0, none⟩)), (8, .pointer (some ⟨g, 0, none⟩)), (11, .int .i64 (i : Nat)), (149, .pointer (some ⟨g, 2, none⟩)), (150, .slice aK k capK), (155, .agg #[cx.c0, cx.c1, cx.c2])]) (by kernel_rfl) fun u => Q0 u)) fun _ => ?_
    refine O_go HK (by kernel_rfl) ?_
    rintro e W ⟨d, rfl, hr, hb⟩
    obtain ⟨a7, c7, a8, c8, rfl⟩ := krepF hr
    exact ⟨_, rfl, fun x hx => hb.block x (by omega), T_fr 12 205 [1, 8, 9, 10, 11] (kp_lj23 z ++ [(2, .pointer (some ⟨A, 0, none⟩)), (8, .pointer (some ⟨g, 0, none⟩)), (11, .int .i64 (i : Nat)), (149, .pointer (some ⟨g, 2, none⟩)), (156, .agg #[.int .i64 gx.sort, .slice a7 gx.names.length c7, .slice a8 gx.kids.length c8])]) (by kernel_rfl) fun u => P1 u _ a7 a8 _ c7 _ c8 W hr hb⟩
  refine T_z hq [0, 2, 4] (by kernel_rfl) ?_
  refine T_a hq [3] (fun w' h => .cons (ldKsJ _ ⟨A, 2, none⟩ (.slice (some ⟨kb, ko, none⟩) kn kc) (cellLo h hA hAc)) Lds.nil) (by kernel_rfl) ?_
  refine T_yld hq 5 (some 154) (.pointer (some ⟨kb, ko + i * 3, none⟩)) (by kernel_rfl) (by kernel_rfl) (fun w _ => ixKdJ (n := kn) (cap := kc) (i := i) (X := .tmp 152) (I := .tmp 153) (by kernel_rfl) (by kernel_rfl) (by kernel_rfl) hi w) ?_
  refine T_a hq [6] (fun w' h => .cons (hx.lo hkb h) Lds.nil) (by kernel_rfl) ?_
  exact T_fr 12 205 [1, 7, 8, 9, 10, 11] (kp_lj23 z ++ [(2, .pointer (some ⟨A, 0, none⟩)), (8, .pointer (some ⟨g, 0, none⟩)), (11, .int .i64 (i : Nat)), (149, .pointer (some ⟨g, 2, none⟩)), (155, .agg #[cx.c0, cx.c1, cx.c2])]) (by kernel_rfl) fun u => P0 u
theorem lj23 (lo A g kb ko kn kc i : Nat) (cx : C3) (s : Int) (vN : Value) (aK : Option Addr) (k capK : Nat) (ns : List ByteArray) (ks : List Kd) (xs : List Value) (P : Nat → Prop) (gx : Kd) (W0 : World) {l : List Value} (Q : Exit → Act → World → Prop) (hQ : ∀ c a d v w, Q (.panic c) (Act.put a d v) w → Q (.panic c) a w)
    (hA : A < lo) (hAc : W0.drew.cell? ⟨A, 2, none⟩ = some (.slice (some ⟨kb, ko, none⟩) kn kc)) (hkb : kb < lo) (hx : K3 W0.drew kb (ko + i * 3) cx) (hi : i < kn) (hk : k ≤ 2000) (hkl : ks.length = k) (hS : SK lo g W0.drew s vN (.slice aK k capK) ns ks xs P)
    (HK : Calls Tryz.prog 46 #[.agg #[cx.c0, cx.c1, cx.c2]] W0.drew fun e w' => ∃ d : C3, e = .returned (.agg #[d.c0, d.c1, d.c2]) ∧ KRep (New W0.drew w') w' gx d ∧ Below W0.drew.heap.size W0.drew w')
    (hl : lookL (kp_lj23 (fun i => l.getD i undef) ++ [(2, .pointer (some ⟨A, 0, none⟩)), (8, .pointer (some ⟨g, 0, none⟩)), (11, .int .i64 (i : Nat))]) l = (205, (kp_lj23 (fun i => l.getD i undef) ++ [(2, .pointer (some ⟨A, 0, none⟩)), (8, .pointer (some ⟨g, 0, none⟩)), (11, .int .i64 (i : Nat))] : List (Nat × Value)).map (·.2))) (hfr : ∀ u : Nat → Value, frL u 205 (kp_lj23 (fun i => l.getD i undef) ++ [(2, .pointer (some ⟨A, 0, none⟩)), (8, .pointer (some ⟨g, 0, none⟩)), (11, .int .i64 (i : Nat))]) = l.take 149 ++ (u 149 :: u 150 :: u 151 :: u 152 :: u 153 :: u 154 :: u 155 :: u 156 :: u 157 :: u 158 :: u 159 :: l.drop 160))
    (hend : ∀ (u : Nat → Value) (a' : Option Addr) (cap' : Nat) (xs' : List Value) (P' : Nat → Prop) (W' : World), SK lo g W' s vN (.slice a' (k + 1) cap') ns (ks ++ [gx]) xs' P' → Below lo W0.drew W' → Q .normal ⟨(l.take 149 ++ (u 149 :: u 150 :: u 151 :: u 152 :: u 153 :: u 154 :: u 155 :: u 156 :: u 157 :: u 158 :: u 159 :: l.drop 160)).toArray, []⟩ W') : (Code.region 23 lj23Ops true).wp Tryz.prog Q ⟨l.toArray, []⟩ W0 :=
  lj23z (fun i => l.getD i undef) (fun u => l.take 149 ++ (u 149 :: u 150 :: u 151 :: u 152 :: u 153 :: u 154 :: u 155 :: u 156 :: u 157 :: u 158 :: u 159 :: l.drop 160)) lo A g kb ko kn kc i cx s vN aK k capK ns ks xs P gx W0 Q hQ hA hAc hkb hx hi hk hkl hS HK hl hfr hend
noncomputable def lj27Ops : Array Oper := fops Tryz.f23 27
theorem lj27_neat : Region.noSelect lj27Ops = true ∧ neat lj27Ops = true := ⟨by kernel_rfl, by kernel_rfl⟩
def kp_lj27 (z : Nat → Value) : List (Nat × Value) := [0, 1, 2, 4, 5, 6, 7, 9, 10, 11, 13, 14, 15, 16, 17, 18, 19, 20, 21, 22, 23, 24, 25, 26, 27, 28, 29, 30, 31, 32, 33, 34, 35, 36, 37, 38, 39, 40, 41, 42, 43, 44, 45, 46, 47, 48, 49, 50, 51, 52, 53, 54, 55, 56, 57, 58, 59, 60, 61, 62, 63, 64, 65, 66, 67, 68, 69, 70, 71, 72, 73, 74, 75, 76, 77, 78, 79, 80, 81, 82, 83, 84, 85, 86, 87, 88, 89, 90, 91, 92, 93, 94, 95, 96, 97, 98, 99, 100, 101, 102, 103, 104, 105, 106, 107, 108, 109, 110, 111, 112, 113, 114, 115, 116, 117, 118, 119, 120, 121, 122, 123, 124, 125, 126, 127, 128, 129, 130, 131, 132, 133, 134, 135, 136, 137, 138, 139, 140, 141, 142, 143, 144, 145, 146, 147, 148, 149, 150, 151, 152, 153, 154, 155, 156, 157, 158, 159, 160, 161, 162, 163, 164, 165, 166, 167, 168, 169, 170, 171, 172, 173, 174, 175, 176, 177, 178, 179, 180, 181, 182, 183, 184, 185, 186, 187, 188, 189, 190, 202, 203, 204].map fun i => (i, z i)
set_option maxRecDepth 100000 in
set_option maxHeartbeats 3200000 in
theorem lj27z (z : Nat → Value) (LL : (Nat → Value) → List Value) (lo A g kb ko kn kc i : Nat) (cx : C3) (s : Int) (vN : Value) (aK : Option Addr) (k capK : Nat) (ns : List ByteArray) (ks : List Kd) (xs : List Value) (P : Nat → Prop) (gx : Kd) (W0 : World) {l : List Value} (Q : Exit → Act → World → Prop) (hQ : ∀ c a d v w, Q (.panic c) (Act.put a d v) w → Q (.panic c) a w)
    (hA : A < lo) (hAc : W0.drew.cell? ⟨A, 2, none⟩ = some (.slice (some ⟨kb, ko, none⟩) kn kc)) (hkb : kb < lo) (hx : K3 W0.drew kb (ko + i * 3) cx) (hi : i < kn) (hk : k ≤ 2000) (hkl : ks.length = k) (hS : SK lo g W0.drew s vN (.slice aK k capK) ns ks xs P)
    (HK : Calls Tryz.prog 46 #[.agg #[cx.c0, cx.c1, cx.c2]] W0.drew fun e w' => ∃ d : C3, e = .returned (.agg #[d.c0, d.c1, d.c2]) ∧ KRep (New W0.drew w') w' gx d ∧ Below W0.drew.heap.size W0.drew w')
    (hl : lookL (kp_lj27 z ++ [(3, .pointer (some ⟨A, 0, none⟩)), (8, .pointer (some ⟨g, 0, none⟩)), (12, .int .i64 (i : Nat))]) l = (205, (kp_lj27 z ++ [(3, .pointer (some ⟨A, 0, none⟩)), (8, .pointer (some ⟨g, 0, none⟩)), (12, .int .i64 (i : Nat))] : List (Nat × Value)).map (·.2))) (hfr : ∀ u : Nat → Value, frL u 205 (kp_lj27 z ++ [(3, .pointer (some ⟨A, 0, none⟩)), (8, .pointer (some ⟨g, 0, none⟩)), (12, .int .i64 (i : Nat))]) = LL u)
    (hend : ∀ (u : Nat → Value) (a' : Option Addr) (cap' : Nat) (xs' : List Value) (P' : Nat → Prop) (W' : World), SK lo g W' s vN (.slice a' (k + 1) cap') ns (ks ++ [gx]) xs' P' → Below lo W0.drew W' → Q .normal ⟨(LL u).toArray, []⟩ W') : (Code.region 27 lj27Ops true).wp Tryz.prog Q ⟨l.toArray, []⟩ W0 := by
  obtain ⟨v0, rfl⟩ := look_fr hl
  have hq : NtQ lj27Ops Q := ⟨lj27_neat, hQ⟩
  refine T_start (S := (fun W => ∀ x, x < lo → W.heap[x]? = W0.drew.heap[x]?)) (by kernel_rfl) (fun _ _ => rfl) ?_
  clear hl hQ
  generalize W0.drew = B at hAc hx hS HK hend ⊢
  have hgl := hS.lt
  have hlg := hS.glo
  have Q2 : ∀ (u : Nat → Value) (e0 : Int) (a7 a8 : Option Addr) (n7 c7 n8 c8 : Nat) (W : World) (hr : KRep (New B W) W gx ⟨.int .i64 e0, .slice a7 n7 c7, .slice a8 n8 c8⟩) (hb : Below B.heap.size B W), wpS Tryz.prog lj27Ops Q (fun W => ∀ x, x < lo → W.heap[x]? = B.heap[x]?) (unl 12 [9, 10, 11], frL u 205 (kp_lj27 z ++ [(3, .pointer (some ⟨A, 0, none⟩)), (8, .pointer (some ⟨g, 0, none⟩)), (12, .int .i64 (i : Nat)), (191, .pointer (some ⟨g, 2, none⟩)), (192, .slice aK k capK), (199, .slice (some ⟨W.heap.size, 0, none⟩) 1 1)])) [] (W.alloc (.cells #[.int .i64 e0, .slice a7 n7 c7, .slice a8 n8 c8] 26)) := by
    intro u e0 a7 a8 n7 c7 n8 c8 W hr hb
    have hal := (Below.refl W.heap.size W).alloc (Nat.le_refl _) (.cells #[.int .i64 e0, .slice a7 n7 c7, .slice a8 n8 c8] 26)
    have hsA := (hS.on hb).on hal
    have hbz := hb.size
    have hown := hsA.kids
    rw [hkl] at hown
    refine T_one 9 (by kernel_rfl) fun hS0 => O_list (some 200) (by kernel_rfl) ?_
    refine append_kdJ _ (by kernel_rfl) (.tmp 192) (.tmp 199) (by kernel_rfl) lo aK k capK xs (by kernel_rfl) hown W.heap.size ⟨.int .i64 e0, .slice a7 n7 c7, .slice a8 n8 c8⟩ (by kernel_rfl) (cell_three W _ _) (fun u hu => by simp only [c3l, List.mem_cons, List.not_mem_nil, or_false] at hu; rcases hu with rfl | rfl | rfl <;> rfl) hk (by rw [World.size_alloc]; omega) ?_
    intro ka' kc' W3 ho hg hn
    have hbx := hsA.box.of_block (hg.out.block g hsA.lt (fun e => hsA.gk e.symm))
    have hc := hbx.cell (i := 2) (by omega)
    simp only [row3] at hc
    have hlow : ∀ x, x < lo → W3.heap[x]? = B.heap[x]? := fun x hx => (hg.out.block x (by rw [World.size_alloc]; omega) (fun e => by have := (hsA.kids.lt x e.symm).1; omega)).trans ((hal.block x (by omega)).trans (hb.block x (by omega)))
    have hsk := hsA.kid (KRep.carry (Q := New B W) (fun b hb' => hal.block b hb'.2) (fun _ h => h) _ _ hr) (fun b hb' => ⟨by have := hb'.1; omega, by rw [World.size_alloc]; have := hb'.2; omega, by have := hb'.1; omega, fun e => by have := (hS.names.lt b e).2; have := hb'.1; omega, fun e => by have := (hS.kids.lt b e).2; have := hb'.1; omega⟩) (by rw [hkl]; exact ho.out) hg.out hn.out
    have hbl : Below lo B (W3.setCell ⟨g, 2, none⟩ (.slice ka' (k + 1) kc')) := ((((hb.mono (by omega)).trans (hal.mono (by omega)))).grown hg.out (by rw [World.size_alloc]; omega) (fun b e => by have := (hsA.kids.lt b e).1; omega)).setCell (by simpa using hlg) _
    refine ⟨hlow, _, put_putL .., ?_⟩
    refine T_z hq [10] (by kernel_rfl) ?_
    refine T_one 11 (by kernel_rfl) fun _ => O_store none 24 (.tmp 201) (.tmp 200) ⟨g, 2, none⟩ (.slice ka' (k + 1) kc') _ (by kernel_rfl) (by kernel_rfl) (by kernel_rfl) (stKdsJ W3 _ _ _ _ _ hc (hbx.frozen 2)) (fun x hx => hbl.block x hx) ?_
    exact T_end 205 (kp_lj27 z ++ [(3, .pointer (some ⟨A, 0, none⟩)), (8, .pointer (some ⟨g, 0, none⟩)), (12, .int .i64 (i : Nat))]) (by kernel_rfl) (by kernel_rfl) fun _ u => by rw [hfr]; exact hend u _ _ _ _ _ hsk hbl
  have Q1 : ∀ (u : Nat → Value) (e0 : Int) (a7 a8 : Option Addr) (n7 c7 n8 c8 : Nat) (W : World) (hr : KRep (New B W) W gx ⟨.int .i64 e0, .slice a7 n7 c7, .slice a8 n8 c8⟩) (hb : Below B.heap.size B W), wpS Tryz.prog lj27Ops Q (fun W => ∀ x, x < lo → W.heap[x]? = B.heap[x]?) (unl 12 [8, 9, 10, 11], frL u 205 (kp_lj27 z ++ [(3, .pointer (some ⟨A, 0, none⟩)), (8, .pointer (some ⟨g, 0, none⟩)), (12, .int .i64 (i : Nat)), (191, .pointer (some ⟨g, 2, none⟩)), (192, .slice aK k capK), (198, .agg #[.int .i64 e0, .slice a7 n7 c7, .slice a8 n8 c8])])) [] W := by
    intro u e0 a7 a8 n7 c7 n8 c8 W hr hb
    refine T_one 8 (by kernel_rfl) fun _ => ?_
    exact O_val (w' := W.alloc (.cells #[.int .i64 e0, .slice a7 n7 c7, .slice a8 n8 c8] 26)) (some 199) (.slice (some ⟨W.heap.size, 0, none⟩) 1 1) (by kernel_rfl) (by kernel_rfl) (fun x hx => (Below.heap_alloc _ _ _ (by have := hb.size; omega)).trans (hb.block x (by omega))) (T_fr 12 205 [9, 10, 11] (kp_lj27 z ++ [(3, .pointer (some ⟨A, 0, none⟩)), (8, .pointer (some ⟨g, 0, none⟩)), (12, .int .i64 (i : Nat)), (191, .pointer (some ⟨g, 2, none⟩)), (192, .slice aK k capK), (199, .slice (some ⟨W.heap.size, 0, none⟩) 1 1)]) (by kernel_rfl) fun u => Q2 u e0 a7 a8 n7 c7 n8 c8 W hr hb)
  have P2 : ∀ (u : Nat → Value) (e0 : Int) (a7 a8 : Option Addr) (n7 c7 n8 c8 : Nat) (W : World) (hr : KRep (New B W) W gx ⟨.int .i64 e0, .slice a7 n7 c7, .slice a8 n8 c8⟩) (hb : Below B.heap.size B W), wpS Tryz.prog lj27Ops Q (fun W => ∀ x, x < lo → W.heap[x]? = B.heap[x]?) (unl 12 [1, 9, 10, 11], frL u 205 (kp_lj27 z ++ [(3, .pointer (some ⟨A, 0, none⟩)), (8, .pointer (some ⟨g, 0, none⟩)), (12, .int .i64 (i : Nat)), (191, .pointer (some ⟨g, 2, none⟩)), (199, .slice (some ⟨W.heap.size, 0, none⟩) 1 1)])) [] (W.alloc (.cells #[.int .i64 e0, .slice a7 n7 c7, .slice a8 n8 c8] 26)) := by
    intro u e0 a7 a8 n7 c7 n8 c8 W hr hb
    refine T_one 1 (by kernel_rfl) fun hS0 => ?_
    exact O_val (some 192) (.slice aK k capK) (by kernel_rfl) (ldOpJ (X := .tmp 191) (by kernel_rfl) (by kernel_rfl) (ldKsJ (W.alloc (.cells #[.int .i64 e0, .slice a7 n7 c7, .slice a8 n8 c8] 26)) ⟨g, 2, none⟩ _ (((hS.on hb).box.alloc _).cell (i := 2) (by omega)))) hS0 (T_fr 12 205 [9, 10, 11] (kp_lj27 z ++ [(3, .pointer (some ⟨A, 0, none⟩)), (8, .pointer (some ⟨g, 0, none⟩)), (12, .int .i64 (i : Nat)), (191, .pointer (some ⟨g, 2, none⟩)), (192, .slice aK k capK), (199, .slice (some ⟨W.heap.size, 0, none⟩) 1 1)]) (by kernel_rfl) fun u => Q2 u e0 a7 a8 n7 c7 n8 c8 W hr hb)
  have P1 : ∀ (u : Nat → Value) (e0 : Int) (a7 a8 : Option Addr) (n7 c7 n8 c8 : Nat) (W : World) (hr : KRep (New B W) W gx ⟨.int .i64 e0, .slice a7 n7 c7, .slice a8 n8 c8⟩) (hb : Below B.heap.size B W), wpS Tryz.prog lj27Ops Q (fun W => ∀ x, x < lo → W.heap[x]? = B.heap[x]?) (unl 12 [1, 8, 9, 10, 11], frL u 205 (kp_lj27 z ++ [(3, .pointer (some ⟨A, 0, none⟩)), (8, .pointer (some ⟨g, 0, none⟩)), (12, .int .i64 (i : Nat)), (191, .pointer (some ⟨g, 2, none⟩)), (198, .agg #[.int .i64 e0, .slice a7 n7 c7, .slice a8 n8 c8])])) [] W := by
    intro u e0 a7 a8 n7 c7 n8 c8 W hr hb
    refine T_two 1 8 (by kernel_rfl) (fun hS0 => ?_) fun _ => ?_
    · exact O_val (some 192) (.slice aK k capK) (by kernel_rfl) (ldOpJ (X := .tmp 191) (by kernel_rfl) (by kernel_rfl) (ldKsJ W ⟨g, 2, none⟩ _ ((hS.on hb).box.cell (i := 2) (by omega)))) hS0 (T_fr 12 205 [8, 9, 10, 11] (kp_lj27 z ++ [(3, .pointer (some ⟨A, 0, none⟩)), (8, .pointer (some ⟨g, 0, none⟩)), (12, .int .i64 (i : Nat)), (191, .pointer (some ⟨g, 2, none⟩)), (192, .slice aK k capK), (198, .agg #[.int .i64 e0, .slice a7 n7 c7, .slice a8 n8 c8])]) (by kernel_rfl) fun u => Q1 u e0 a7 a8 n7 c7 n8 c8 W hr hb)
    · exact O_val (w' := W.alloc (.cells #[.int .i64 e0, .slice a7 n7 c7, .slice a8 n8 c8] 26)) (some 199) (.slice (some ⟨W.heap.size, 0, none⟩) 1 1) (by kernel_rfl) (by kernel_rfl) (fun x hx => (Below.heap_alloc _ _ _ (by have := hb.size; omega)).trans (hb.block x (by omega))) (T_fr 12 205 [1, 9, 10, 11] (kp_lj27 z ++ [(3, .pointer (some ⟨A, 0, none⟩)), (8, .pointer (some ⟨g, 0, none⟩)), (12, .int .i64 (i : Nat)), (191, .pointer (some ⟨g, 2, none⟩)), (199, .slice (some ⟨W.heap.size, 0, none⟩) 1 1)]) (by kernel_rfl) fun u => P2 u e0 a7 a8 n7 c7 n8 c8 W hr hb)
  have Q0 : ∀ (u : Nat → Value), wpS Tryz.prog lj27Ops Q (fun W => ∀ x, x < lo → W.heap[x]? = B.heap[x]?) (unl 12 [7, 8, 9, 10, 11], frL u 205 (kp_lj27 z ++ [(3, .pointer (some ⟨A, 0, none⟩)), (8, .pointer (some ⟨g, 0, none⟩)), (12, .int .i64 (i : Nat)), (191, .pointer (some ⟨g, 2, none⟩)), (192, .slice aK k capK), (197, .agg #[cx.c0, cx.c1, cx.c2])])) [] B := by
    intro u
    refine T_one 7 (by kernel_rfl) fun _ => ?_
    refine O_go HK (by kernel_rfl) ?_
    rintro e W ⟨d, rfl, hr, hb⟩
    obtain ⟨a7, c7, a8, c8, rfl⟩ := krepF hr
    exact ⟨_, rfl, fun x hx => hb.block x (by omega), T_fr 12 205 [8, 9, 10, 11] (kp_lj27 z ++ [(3, .pointer (some ⟨A, 0, none⟩)), (8, .pointer (some ⟨g, 0, none⟩)), (12, .int .i64 (i : Nat)), (191, .pointer (some ⟨g, 2, none⟩)), (192, .slice aK k capK), (198, .agg #[.int .i64 gx.sort, .slice a7 gx.names.length c7, .slice a8 gx.kids.length c8])]) (by kernel_rfl) fun u => Q1 u _ a7 a8 _ c7 _ c8 W hr hb⟩
  have P0 : ∀ (u : Nat → Value), wpS Tryz.prog lj27Ops Q (fun W => ∀ x, x < lo → W.heap[x]? = B.heap[x]?) (unl 12 [1, 7, 8, 9, 10, 11], frL u 205 (kp_lj27 z ++ [(3, .pointer (some ⟨A, 0, none⟩)), (8, .pointer (some ⟨g, 0, none⟩)), (12, .int .i64 (i : Nat)), (191, .pointer (some ⟨g, 2, none⟩)), (197, .agg #[cx.c0, cx.c1, cx.c2])])) [] B := by
    intro u
    refine T_two 1 7 (by kernel_rfl) (fun hS0 => O_val (some 192) (.slice aK k capK) (by kernel_rfl) (ldOpJ (X := .tmp 191) (by kernel_rfl) (by kernel_rfl) (ldKsJ B ⟨g, 2, none⟩ _ (hS.box.cell (i := 2) (by omega)))) hS0 (T_fr 12 205 [7, 8, 9, 10, 11] (kp_lj27 z ++ [(3, .pointer (some ⟨A, 0, none⟩)), (8, .pointer (some ⟨g, 0, none⟩)), (12, .int .i64 (i : Nat)), (191, .pointer (some ⟨g, 2, none⟩)), (192, .slice aK k capK), (197, .agg #[cx.c0, cx.c1, cx.c2])]) (by kernel_rfl) fun u => Q0 u)) fun _ => ?_
    refine O_go HK (by kernel_rfl) ?_
    rintro e W ⟨d, rfl, hr, hb⟩
    obtain ⟨a7, c7, a8, c8, rfl⟩ := krepF hr
    exact ⟨_, rfl, fun x hx => hb.block x (by omega), T_fr 12 205 [1, 8, 9, 10, 11] (kp_lj27 z ++ [(3, .pointer (some ⟨A, 0, none⟩)), (8, .pointer (some ⟨g, 0, none⟩)), (12, .int .i64 (i : Nat)), (191, .pointer (some ⟨g, 2, none⟩)), (198, .agg #[.int .i64 gx.sort, .slice a7 gx.names.length c7, .slice a8 gx.kids.length c8])]) (by kernel_rfl) fun u => P1 u _ a7 a8 _ c7 _ c8 W hr hb⟩
  refine T_z hq [0, 2, 4] (by kernel_rfl) ?_
  refine T_a hq [3] (fun w' h => .cons (ldKsJ _ ⟨A, 2, none⟩ (.slice (some ⟨kb, ko, none⟩) kn kc) (cellLo h hA hAc)) Lds.nil) (by kernel_rfl) ?_
  refine T_yld hq 5 (some 196) (.pointer (some ⟨kb, ko + i * 3, none⟩)) (by kernel_rfl) (by kernel_rfl) (fun w _ => ixKdJ (n := kn) (cap := kc) (i := i) (X := .tmp 194) (I := .tmp 195) (by kernel_rfl) (by kernel_rfl) (by kernel_rfl) hi w) ?_
  refine T_a hq [6] (fun w' h => .cons (hx.lo hkb h) Lds.nil) (by kernel_rfl) ?_
  exact T_fr 12 205 [1, 7, 8, 9, 10, 11] (kp_lj27 z ++ [(3, .pointer (some ⟨A, 0, none⟩)), (8, .pointer (some ⟨g, 0, none⟩)), (12, .int .i64 (i : Nat)), (191, .pointer (some ⟨g, 2, none⟩)), (197, .agg #[cx.c0, cx.c1, cx.c2])]) (by kernel_rfl) fun u => P0 u
theorem lj27 (lo A g kb ko kn kc i : Nat) (cx : C3) (s : Int) (vN : Value) (aK : Option Addr) (k capK : Nat) (ns : List ByteArray) (ks : List Kd) (xs : List Value) (P : Nat → Prop) (gx : Kd) (W0 : World) {l : List Value} (Q : Exit → Act → World → Prop) (hQ : ∀ c a d v w, Q (.panic c) (Act.put a d v) w → Q (.panic c) a w)
    (hA : A < lo) (hAc : W0.drew.cell? ⟨A, 2, none⟩ = some (.slice (some ⟨kb, ko, none⟩) kn kc)) (hkb : kb < lo) (hx : K3 W0.drew kb (ko + i * 3) cx) (hi : i < kn) (hk : k ≤ 2000) (hkl : ks.length = k) (hS : SK lo g W0.drew s vN (.slice aK k capK) ns ks xs P)
    (HK : Calls Tryz.prog 46 #[.agg #[cx.c0, cx.c1, cx.c2]] W0.drew fun e w' => ∃ d : C3, e = .returned (.agg #[d.c0, d.c1, d.c2]) ∧ KRep (New W0.drew w') w' gx d ∧ Below W0.drew.heap.size W0.drew w')
    (hl : lookL (kp_lj27 (fun i => l.getD i undef) ++ [(3, .pointer (some ⟨A, 0, none⟩)), (8, .pointer (some ⟨g, 0, none⟩)), (12, .int .i64 (i : Nat))]) l = (205, (kp_lj27 (fun i => l.getD i undef) ++ [(3, .pointer (some ⟨A, 0, none⟩)), (8, .pointer (some ⟨g, 0, none⟩)), (12, .int .i64 (i : Nat))] : List (Nat × Value)).map (·.2))) (hfr : ∀ u : Nat → Value, frL u 205 (kp_lj27 (fun i => l.getD i undef) ++ [(3, .pointer (some ⟨A, 0, none⟩)), (8, .pointer (some ⟨g, 0, none⟩)), (12, .int .i64 (i : Nat))]) = l.take 191 ++ (u 191 :: u 192 :: u 193 :: u 194 :: u 195 :: u 196 :: u 197 :: u 198 :: u 199 :: u 200 :: u 201 :: l.drop 202))
    (hend : ∀ (u : Nat → Value) (a' : Option Addr) (cap' : Nat) (xs' : List Value) (P' : Nat → Prop) (W' : World), SK lo g W' s vN (.slice a' (k + 1) cap') ns (ks ++ [gx]) xs' P' → Below lo W0.drew W' → Q .normal ⟨(l.take 191 ++ (u 191 :: u 192 :: u 193 :: u 194 :: u 195 :: u 196 :: u 197 :: u 198 :: u 199 :: u 200 :: u 201 :: l.drop 202)).toArray, []⟩ W') : (Code.region 27 lj27Ops true).wp Tryz.prog Q ⟨l.toArray, []⟩ W0 :=
  lj27z (fun i => l.getD i undef) (fun u => l.take 191 ++ (u 191 :: u 192 :: u 193 :: u 194 :: u 195 :: u 196 :: u 197 :: u 198 :: u 199 :: u 200 :: u 201 :: l.drop 202)) lo A g kb ko kn kc i cx s vN aK k capK ns ks xs P gx W0 Q hQ hA hAc hkb hx hi hk hkl hS HK hl hfr hend
noncomputable def lj22Ops : Array Oper := fops Tryz.f23 22
theorem lj22_neat : Region.noSelect lj22Ops = true ∧ neat lj22Ops = true := ⟨by kernel_rfl, by kernel_rfl⟩
def kp_lj22 (z : Nat → Value) : List (Nat × Value) := [0, 1, 3, 4, 5, 6, 7, 9, 10, 12, 13, 14, 15, 16, 17, 18, 19, 20, 21, 22, 23, 24, 25, 26, 27, 28, 29, 30, 31, 32, 33, 34, 35, 36, 37, 38, 39, 40, 41, 42, 43, 44, 45, 46, 47, 48, 49, 50, 51, 52, 53, 54, 55, 56, 57, 58, 59, 60, 61, 62, 63, 64, 65, 66, 67, 68, 69, 70, 71, 72, 73, 74, 75, 76, 77, 78, 79, 80, 81, 82, 83, 84, 85, 86, 87, 88, 89, 90, 91, 92, 93, 94, 95, 96, 97, 98, 99, 100, 101, 102, 103, 104, 105, 106, 107, 108, 109, 110, 111, 112, 113, 114, 115, 116, 117, 118, 119, 120, 121, 122, 123, 124, 125, 126, 127, 128, 129, 130, 131, 132, 133, 134, 135, 136, 137, 138, 149, 150, 151, 152, 153, 154, 155, 156, 157, 158, 159, 160, 161, 162, 163, 164, 165, 166, 167, 168, 169, 170, 171, 172, 173, 174, 175, 176, 177, 178, 179, 180, 181, 182, 183, 184, 185, 186, 187, 188, 189, 190, 191, 192, 193, 194, 195, 196, 197, 198, 199, 200, 201, 202, 203, 204].map fun i => (i, z i)
set_option maxRecDepth 100000 in
set_option maxHeartbeats 3200000 in
theorem lj22z (z : Nat → Value) (LL : (Nat → Value) → List Value) (lo A g kb ko kn kc i : Nat) (nm : ByteArray) (s : Int) (vN vK : Value) (a0 : Option Addr) (k capN : Nat) (ns : List ByteArray) (ks : List Kd) (xs : List Value) (P : Nat → Prop) (W0 : World) {l : List Value} (Q : Exit → Act → World → Prop) (hQ : ∀ c a d v w, Q (.panic c) (Act.put a d v) w → Q (.panic c) a w)
    (hA : A < lo) (hAc : W0.drew.cell? ⟨A, 1, none⟩ = some (.slice (some ⟨kb, ko, none⟩) kn kc)) (hkb : kb < lo) (hx : W0.drew.cell? ⟨kb, ko + i, none⟩ = some (.string nm)) (hi : i < kn) (hk : k ≤ 2000) (hkl : ns.length = k) (hvN : vN = .slice a0 k capN) (hS : SK lo g W0.drew s vN vK ns ks xs P)
    (hl : lookL (kp_lj22 z ++ [(2, .pointer (some ⟨A, 0, none⟩)), (8, .pointer (some ⟨g, 0, none⟩)), (11, .int .i64 (i : Nat))]) l = (205, (kp_lj22 z ++ [(2, .pointer (some ⟨A, 0, none⟩)), (8, .pointer (some ⟨g, 0, none⟩)), (11, .int .i64 (i : Nat))] : List (Nat × Value)).map (·.2))) (hfr : ∀ u : Nat → Value, frL u 205 (kp_lj22 z ++ [(2, .pointer (some ⟨A, 0, none⟩)), (8, .pointer (some ⟨g, 0, none⟩)), (11, .int .i64 (i : Nat))]) = LL u)
    (hend : ∀ (u : Nat → Value) (a' : Option Addr) (cap' : Nat) (W' : World), SK lo g W' s (.slice a' (k + 1) cap') vK (ns ++ [nm]) ks xs P → Below lo W0.drew W' → (∀ x, x < W0.drew.heap.size → x ≠ g → (Value.slice a0 k capN).ownBlock ≠ some x → W'.heap[x]? = W0.drew.heap[x]?) → W0.drew.heap.size ≤ W'.heap.size → ((Value.slice a' (k + 1) cap').ownBlock = (Value.slice a0 k capN).ownBlock ∨ ∃ q, (Value.slice a' (k + 1) cap').ownBlock = some q ∧ W0.drew.heap.size ≤ q) → Q .normal ⟨(LL u).toArray, []⟩ W') : (Code.region 22 lj22Ops true).wp Tryz.prog Q ⟨l.toArray, []⟩ W0 := by
  obtain ⟨v0, rfl⟩ := look_fr hl
  have hq : NtQ lj22Ops Q := ⟨lj22_neat, hQ⟩
  refine T_start (S := (fun W => ∀ x, x < lo → W.heap[x]? = W0.drew.heap[x]?)) (by kernel_rfl) (fun _ _ => rfl) ?_
  clear hl hQ
  generalize W0.drew = B at hAc hx hS hend ⊢
  have hgl := hS.lt
  have hlg := hS.glo
  subst hvN
  have Q2 : ∀ (u : Nat → Value), wpS Tryz.prog lj22Ops Q (fun W => ∀ x, x < lo → W.heap[x]? = B.heap[x]?) (unl 11 [8, 9, 10], frL u 205 (kp_lj22 z ++ [(2, .pointer (some ⟨A, 0, none⟩)), (8, .pointer (some ⟨g, 0, none⟩)), (11, .int .i64 (i : Nat)), (139, .pointer (some ⟨g, 1, none⟩)), (140, .slice a0 k capN), (146, .slice (some ⟨B.heap.size, 0, none⟩) 1 1)])) [] (B.alloc (.cells #[.string nm] 9)) := by
    intro u
    have hal := (Below.refl B.heap.size B).alloc (Nat.le_refl _) (.cells #[.string nm] 9)
    have hsA := hS.on hal
    have hown := hsA.names
    rw [hkl] at hown
    refine T_one 8 (by kernel_rfl) fun hS0 => O_list (some 147) (by kernel_rfl) ?_
    refine append_strJ _ (by kernel_rfl) (.tmp 140) (.tmp 146) (by kernel_rfl) lo (.slice a0 k capN) k (ns.map Value.string) (by kernel_rfl) hown B.heap.size nm (by kernel_rfl) ((row1_alloc B (.string nm) 9).cell (i := 0) (by omega)) hk (by rw [World.size_alloc]; omega) ?_
    intro ka' kc' W3 ho hg hn
    have hbx := hsA.box.of_block (hg.out.block g hsA.lt (fun e => (hsA.nk g e.symm).1 rfl))
    have hc := hbx.cell (i := 1) (by omega)
    simp only [row3] at hc
    have hlow : ∀ x, x < lo → W3.heap[x]? = B.heap[x]? := fun x hx => (hg.out.block x (by rw [World.size_alloc]; omega) (fun e => by have := (hsA.names.lt x e.symm).1; omega)).trans (hal.block x (by omega))
    have hsk := hsA.name (nm := nm) (by rw [hkl]; exact ho.out) hg.out hn.out
    have hbl : Below lo B (W3.setCell ⟨g, 1, none⟩ (.slice ka' (k + 1) kc')) := ((hal.mono (by omega)).grown hg.out (by rw [World.size_alloc]; omega) (fun b e => by have := (hsA.names.lt b e).1; omega)).setCell (by simpa using hlg) _
    have hoth : ∀ x, x < B.heap.size → x ≠ g → (Value.slice a0 k capN).ownBlock ≠ some x → (W3.setCell ⟨g, 1, none⟩ (.slice ka' (k + 1) kc')).heap[x]? = B.heap[x]? := fun x h1 h2 h3 => (Below.heap_setCell _ _ _ _ (by simpa using h2)).trans ((hg.out.block x (by rw [World.size_alloc]; omega) (fun e => h3 e.symm)).trans (hal.block x h1))
    have hnn : (Value.slice ka' (k + 1) kc').ownBlock = (Value.slice a0 k capN).ownBlock ∨ ∃ q, (Value.slice ka' (k + 1) kc').ownBlock = some q ∧ B.heap.size ≤ q := by
      rcases hn.out with h | ⟨q, h, h'⟩
      · exact Or.inl h
      · rw [World.size_alloc] at h'
        exact Or.inr ⟨q, h, by omega⟩
    have hszz : B.heap.size ≤ (W3.setCell ⟨g, 1, none⟩ (.slice ka' (k + 1) kc')).heap.size := by rw [size_setCell]; have := hg.out.size; rw [World.size_alloc] at this; omega
    refine ⟨hlow, _, put_putL .., ?_⟩
    refine T_z hq [9] (by kernel_rfl) ?_
    refine T_one 10 (by kernel_rfl) fun _ => O_store none 23 (.tmp 148) (.tmp 147) ⟨g, 1, none⟩ (.slice ka' (k + 1) kc') _ (by kernel_rfl) (by kernel_rfl) (by kernel_rfl) (stStrsJ W3 _ _ _ _ _ hc (hbx.frozen 1)) (fun x hx => hbl.block x hx) ?_
    exact T_end 205 (kp_lj22 z ++ [(2, .pointer (some ⟨A, 0, none⟩)), (8, .pointer (some ⟨g, 0, none⟩)), (11, .int .i64 (i : Nat))]) (by kernel_rfl) (by kernel_rfl) fun _ u => by rw [hfr]; exact hend u _ _ _ hsk hbl hoth hszz hnn
  have Q0 : ∀ (u : Nat → Value), wpS Tryz.prog lj22Ops Q (fun W => ∀ x, x < lo → W.heap[x]? = B.heap[x]?) (unl 11 [7, 8, 9, 10], frL u 205 (kp_lj22 z ++ [(2, .pointer (some ⟨A, 0, none⟩)), (8, .pointer (some ⟨g, 0, none⟩)), (11, .int .i64 (i : Nat)), (139, .pointer (some ⟨g, 1, none⟩)), (140, .slice a0 k capN), (145, .string nm)])) [] B := by
    intro u
    refine T_one 7 (by kernel_rfl) fun _ => ?_
    exact O_val (w' := B.alloc (.cells #[.string nm] 9)) (some 146) (.slice (some ⟨B.heap.size, 0, none⟩) 1 1) (by kernel_rfl) (by kernel_rfl) (fun x hx => Below.heap_alloc _ _ _ (by omega)) (T_fr 11 205 [8, 9, 10] (kp_lj22 z ++ [(2, .pointer (some ⟨A, 0, none⟩)), (8, .pointer (some ⟨g, 0, none⟩)), (11, .int .i64 (i : Nat)), (139, .pointer (some ⟨g, 1, none⟩)), (140, .slice a0 k capN), (146, .slice (some ⟨B.heap.size, 0, none⟩) 1 1)]) (by kernel_rfl) fun u => Q2 u)
  have P2 : ∀ (u : Nat → Value), wpS Tryz.prog lj22Ops Q (fun W => ∀ x, x < lo → W.heap[x]? = B.heap[x]?) (unl 11 [1, 8, 9, 10], frL u 205 (kp_lj22 z ++ [(2, .pointer (some ⟨A, 0, none⟩)), (8, .pointer (some ⟨g, 0, none⟩)), (11, .int .i64 (i : Nat)), (139, .pointer (some ⟨g, 1, none⟩)), (146, .slice (some ⟨B.heap.size, 0, none⟩) 1 1)])) [] (B.alloc (.cells #[.string nm] 9)) := by
    intro u
    refine T_one 1 (by kernel_rfl) fun hS0 => ?_
    exact O_val (some 140) (.slice a0 k capN) (by kernel_rfl) (ldOpJ (X := .tmp 139) (by kernel_rfl) (by kernel_rfl) (ldStrsF (B.alloc (.cells #[.string nm] 9)) ⟨g, 1, none⟩ _ ((hS.box.alloc _).cell (i := 1) (by omega)))) hS0 (T_fr 11 205 [8, 9, 10] (kp_lj22 z ++ [(2, .pointer (some ⟨A, 0, none⟩)), (8, .pointer (some ⟨g, 0, none⟩)), (11, .int .i64 (i : Nat)), (139, .pointer (some ⟨g, 1, none⟩)), (140, .slice a0 k capN), (146, .slice (some ⟨B.heap.size, 0, none⟩) 1 1)]) (by kernel_rfl) fun u => Q2 u)
  have P0 : ∀ (u : Nat → Value), wpS Tryz.prog lj22Ops Q (fun W => ∀ x, x < lo → W.heap[x]? = B.heap[x]?) (unl 11 [1, 7, 8, 9, 10], frL u 205 (kp_lj22 z ++ [(2, .pointer (some ⟨A, 0, none⟩)), (8, .pointer (some ⟨g, 0, none⟩)), (11, .int .i64 (i : Nat)), (139, .pointer (some ⟨g, 1, none⟩)), (145, .string nm)])) [] B := by
    intro u
    refine T_two 1 7 (by kernel_rfl) (fun hS0 => ?_) fun _ => ?_
    · exact O_val (some 140) (.slice a0 k capN) (by kernel_rfl) (ldOpJ (X := .tmp 139) (by kernel_rfl) (by kernel_rfl) (ldStrsF B ⟨g, 1, none⟩ _ (hS.box.cell (i := 1) (by omega)))) hS0 (T_fr 11 205 [7, 8, 9, 10] (kp_lj22 z ++ [(2, .pointer (some ⟨A, 0, none⟩)), (8, .pointer (some ⟨g, 0, none⟩)), (11, .int .i64 (i : Nat)), (139, .pointer (some ⟨g, 1, none⟩)), (140, .slice a0 k capN), (145, .string nm)]) (by kernel_rfl) fun u => Q0 u)
    · exact O_val (w' := B.alloc (.cells #[.string nm] 9)) (some 146) (.slice (some ⟨B.heap.size, 0, none⟩) 1 1) (by kernel_rfl) (by kernel_rfl) (fun x hx => Below.heap_alloc _ _ _ (by omega)) (T_fr 11 205 [1, 8, 9, 10] (kp_lj22 z ++ [(2, .pointer (some ⟨A, 0, none⟩)), (8, .pointer (some ⟨g, 0, none⟩)), (11, .int .i64 (i : Nat)), (139, .pointer (some ⟨g, 1, none⟩)), (146, .slice (some ⟨B.heap.size, 0, none⟩) 1 1)]) (by kernel_rfl) fun u => P2 u)
  refine T_z hq [0, 2, 4] (by kernel_rfl) ?_
  refine T_a hq [3] (fun w' h => .cons (ldStrsF _ ⟨A, 1, none⟩ (.slice (some ⟨kb, ko, none⟩) kn kc) (cellLo h hA hAc)) Lds.nil) (by kernel_rfl) ?_
  refine T_yld hq 5 (some 144) (.pointer (some ⟨kb, ko + i, none⟩)) (by kernel_rfl) (by kernel_rfl) (fun w _ => ixRunF (n := kn) (cap := kc) (i := i) (X := .tmp 142) (I := .tmp 143) (by kernel_rfl) (by kernel_rfl) (by kernel_rfl) hi w) ?_
  refine T_a hq [6] (fun w' h => .cons (ldStrF _ ⟨kb, ko + i, none⟩ (.string nm) (cellLo h hkb hx)) Lds.nil) (by kernel_rfl) ?_
  exact T_fr 11 205 [1, 7, 8, 9, 10] (kp_lj22 z ++ [(2, .pointer (some ⟨A, 0, none⟩)), (8, .pointer (some ⟨g, 0, none⟩)), (11, .int .i64 (i : Nat)), (139, .pointer (some ⟨g, 1, none⟩)), (145, .string nm)]) (by kernel_rfl) fun u => P0 u
theorem lj22 (lo A g kb ko kn kc i : Nat) (nm : ByteArray) (s : Int) (vN vK : Value) (a0 : Option Addr) (k capN : Nat) (ns : List ByteArray) (ks : List Kd) (xs : List Value) (P : Nat → Prop) (W0 : World) {l : List Value} (Q : Exit → Act → World → Prop) (hQ : ∀ c a d v w, Q (.panic c) (Act.put a d v) w → Q (.panic c) a w)
    (hA : A < lo) (hAc : W0.drew.cell? ⟨A, 1, none⟩ = some (.slice (some ⟨kb, ko, none⟩) kn kc)) (hkb : kb < lo) (hx : W0.drew.cell? ⟨kb, ko + i, none⟩ = some (.string nm)) (hi : i < kn) (hk : k ≤ 2000) (hkl : ns.length = k) (hvN : vN = .slice a0 k capN) (hS : SK lo g W0.drew s vN vK ns ks xs P)
    (hl : lookL (kp_lj22 (fun i => l.getD i undef) ++ [(2, .pointer (some ⟨A, 0, none⟩)), (8, .pointer (some ⟨g, 0, none⟩)), (11, .int .i64 (i : Nat))]) l = (205, (kp_lj22 (fun i => l.getD i undef) ++ [(2, .pointer (some ⟨A, 0, none⟩)), (8, .pointer (some ⟨g, 0, none⟩)), (11, .int .i64 (i : Nat))] : List (Nat × Value)).map (·.2))) (hfr : ∀ u : Nat → Value, frL u 205 (kp_lj22 (fun i => l.getD i undef) ++ [(2, .pointer (some ⟨A, 0, none⟩)), (8, .pointer (some ⟨g, 0, none⟩)), (11, .int .i64 (i : Nat))]) = l.take 139 ++ (u 139 :: u 140 :: u 141 :: u 142 :: u 143 :: u 144 :: u 145 :: u 146 :: u 147 :: u 148 :: l.drop 149))
    (hend : ∀ (u : Nat → Value) (a' : Option Addr) (cap' : Nat) (W' : World), SK lo g W' s (.slice a' (k + 1) cap') vK (ns ++ [nm]) ks xs P → Below lo W0.drew W' → (∀ x, x < W0.drew.heap.size → x ≠ g → (Value.slice a0 k capN).ownBlock ≠ some x → W'.heap[x]? = W0.drew.heap[x]?) → W0.drew.heap.size ≤ W'.heap.size → ((Value.slice a' (k + 1) cap').ownBlock = (Value.slice a0 k capN).ownBlock ∨ ∃ q, (Value.slice a' (k + 1) cap').ownBlock = some q ∧ W0.drew.heap.size ≤ q) → Q .normal ⟨(l.take 139 ++ (u 139 :: u 140 :: u 141 :: u 142 :: u 143 :: u 144 :: u 145 :: u 146 :: u 147 :: u 148 :: l.drop 149)).toArray, []⟩ W') : (Code.region 22 lj22Ops true).wp Tryz.prog Q ⟨l.toArray, []⟩ W0 :=
  lj22z (fun i => l.getD i undef) (fun u => l.take 139 ++ (u 139 :: u 140 :: u 141 :: u 142 :: u 143 :: u 144 :: u 145 :: u 146 :: u 147 :: u 148 :: l.drop 149)) lo A g kb ko kn kc i nm s vN vK a0 k capN ns ks xs P W0 Q hQ hA hAc hkb hx hi hk hkl hvN hS hl hfr hend
noncomputable def lj26Ops : Array Oper := fops Tryz.f23 26
theorem lj26_neat : Region.noSelect lj26Ops = true ∧ neat lj26Ops = true := ⟨by kernel_rfl, by kernel_rfl⟩
def kp_lj26 (z : Nat → Value) : List (Nat × Value) := [0, 1, 2, 4, 5, 6, 7, 9, 10, 11, 13, 14, 15, 16, 17, 18, 19, 20, 21, 22, 23, 24, 25, 26, 27, 28, 29, 30, 31, 32, 33, 34, 35, 36, 37, 38, 39, 40, 41, 42, 43, 44, 45, 46, 47, 48, 49, 50, 51, 52, 53, 54, 55, 56, 57, 58, 59, 60, 61, 62, 63, 64, 65, 66, 67, 68, 69, 70, 71, 72, 73, 74, 75, 76, 77, 78, 79, 80, 81, 82, 83, 84, 85, 86, 87, 88, 89, 90, 91, 92, 93, 94, 95, 96, 97, 98, 99, 100, 101, 102, 103, 104, 105, 106, 107, 108, 109, 110, 111, 112, 113, 114, 115, 116, 117, 118, 119, 120, 121, 122, 123, 124, 125, 126, 127, 128, 129, 130, 131, 132, 133, 134, 135, 136, 137, 138, 139, 140, 141, 142, 143, 144, 145, 146, 147, 148, 149, 150, 151, 152, 153, 154, 155, 156, 157, 158, 159, 160, 161, 162, 163, 164, 165, 166, 167, 168, 169, 170, 171, 172, 173, 174, 175, 176, 177, 178, 179, 180, 191, 192, 193, 194, 195, 196, 197, 198, 199, 200, 201, 202, 203, 204].map fun i => (i, z i)
set_option maxRecDepth 100000 in
set_option maxHeartbeats 3200000 in
theorem lj26z (z : Nat → Value) (LL : (Nat → Value) → List Value) (lo A g kb ko kn kc i : Nat) (nm : ByteArray) (s : Int) (vN vK : Value) (a0 : Option Addr) (k capN : Nat) (ns : List ByteArray) (ks : List Kd) (xs : List Value) (P : Nat → Prop) (W0 : World) {l : List Value} (Q : Exit → Act → World → Prop) (hQ : ∀ c a d v w, Q (.panic c) (Act.put a d v) w → Q (.panic c) a w)
    (hA : A < lo) (hAc : W0.drew.cell? ⟨A, 1, none⟩ = some (.slice (some ⟨kb, ko, none⟩) kn kc)) (hkb : kb < lo) (hx : W0.drew.cell? ⟨kb, ko + i, none⟩ = some (.string nm)) (hi : i < kn) (hk : k ≤ 2000) (hkl : ns.length = k) (hvN : vN = .slice a0 k capN) (hS : SK lo g W0.drew s vN vK ns ks xs P)
    (hl : lookL (kp_lj26 z ++ [(3, .pointer (some ⟨A, 0, none⟩)), (8, .pointer (some ⟨g, 0, none⟩)), (12, .int .i64 (i : Nat))]) l = (205, (kp_lj26 z ++ [(3, .pointer (some ⟨A, 0, none⟩)), (8, .pointer (some ⟨g, 0, none⟩)), (12, .int .i64 (i : Nat))] : List (Nat × Value)).map (·.2))) (hfr : ∀ u : Nat → Value, frL u 205 (kp_lj26 z ++ [(3, .pointer (some ⟨A, 0, none⟩)), (8, .pointer (some ⟨g, 0, none⟩)), (12, .int .i64 (i : Nat))]) = LL u)
    (hend : ∀ (u : Nat → Value) (a' : Option Addr) (cap' : Nat) (W' : World), SK lo g W' s (.slice a' (k + 1) cap') vK (ns ++ [nm]) ks xs P → Below lo W0.drew W' → (∀ x, x < W0.drew.heap.size → x ≠ g → (Value.slice a0 k capN).ownBlock ≠ some x → W'.heap[x]? = W0.drew.heap[x]?) → W0.drew.heap.size ≤ W'.heap.size → ((Value.slice a' (k + 1) cap').ownBlock = (Value.slice a0 k capN).ownBlock ∨ ∃ q, (Value.slice a' (k + 1) cap').ownBlock = some q ∧ W0.drew.heap.size ≤ q) → Q .normal ⟨(LL u).toArray, []⟩ W') : (Code.region 26 lj26Ops true).wp Tryz.prog Q ⟨l.toArray, []⟩ W0 := by
  obtain ⟨v0, rfl⟩ := look_fr hl
  have hq : NtQ lj26Ops Q := ⟨lj26_neat, hQ⟩
  refine T_start (S := (fun W => ∀ x, x < lo → W.heap[x]? = W0.drew.heap[x]?)) (by kernel_rfl) (fun _ _ => rfl) ?_
  clear hl hQ
  generalize W0.drew = B at hAc hx hS hend ⊢
  have hgl := hS.lt
  have hlg := hS.glo
  subst hvN
  have Q2 : ∀ (u : Nat → Value), wpS Tryz.prog lj26Ops Q (fun W => ∀ x, x < lo → W.heap[x]? = B.heap[x]?) (unl 11 [8, 9, 10], frL u 205 (kp_lj26 z ++ [(3, .pointer (some ⟨A, 0, none⟩)), (8, .pointer (some ⟨g, 0, none⟩)), (12, .int .i64 (i : Nat)), (181, .pointer (some ⟨g, 1, none⟩)), (182, .slice a0 k capN), (188, .slice (some ⟨B.heap.size, 0, none⟩) 1 1)])) [] (B.alloc (.cells #[.string nm] 9)) := by
    intro u
    have hal := (Below.refl B.heap.size B).alloc (Nat.le_refl _) (.cells #[.string nm] 9)
    have hsA := hS.on hal
    have hown := hsA.names
    rw [hkl] at hown
    refine T_one 8 (by kernel_rfl) fun hS0 => O_list (some 189) (by kernel_rfl) ?_
    refine append_strJ _ (by kernel_rfl) (.tmp 182) (.tmp 188) (by kernel_rfl) lo (.slice a0 k capN) k (ns.map Value.string) (by kernel_rfl) hown B.heap.size nm (by kernel_rfl) ((row1_alloc B (.string nm) 9).cell (i := 0) (by omega)) hk (by rw [World.size_alloc]; omega) ?_
    intro ka' kc' W3 ho hg hn
    have hbx := hsA.box.of_block (hg.out.block g hsA.lt (fun e => (hsA.nk g e.symm).1 rfl))
    have hc := hbx.cell (i := 1) (by omega)
    simp only [row3] at hc
    have hlow : ∀ x, x < lo → W3.heap[x]? = B.heap[x]? := fun x hx => (hg.out.block x (by rw [World.size_alloc]; omega) (fun e => by have := (hsA.names.lt x e.symm).1; omega)).trans (hal.block x (by omega))
    have hsk := hsA.name (nm := nm) (by rw [hkl]; exact ho.out) hg.out hn.out
    have hbl : Below lo B (W3.setCell ⟨g, 1, none⟩ (.slice ka' (k + 1) kc')) := ((hal.mono (by omega)).grown hg.out (by rw [World.size_alloc]; omega) (fun b e => by have := (hsA.names.lt b e).1; omega)).setCell (by simpa using hlg) _
    have hoth : ∀ x, x < B.heap.size → x ≠ g → (Value.slice a0 k capN).ownBlock ≠ some x → (W3.setCell ⟨g, 1, none⟩ (.slice ka' (k + 1) kc')).heap[x]? = B.heap[x]? := fun x h1 h2 h3 => (Below.heap_setCell _ _ _ _ (by simpa using h2)).trans ((hg.out.block x (by rw [World.size_alloc]; omega) (fun e => h3 e.symm)).trans (hal.block x h1))
    have hnn : (Value.slice ka' (k + 1) kc').ownBlock = (Value.slice a0 k capN).ownBlock ∨ ∃ q, (Value.slice ka' (k + 1) kc').ownBlock = some q ∧ B.heap.size ≤ q := by
      rcases hn.out with h | ⟨q, h, h'⟩
      · exact Or.inl h
      · rw [World.size_alloc] at h'
        exact Or.inr ⟨q, h, by omega⟩
    have hszz : B.heap.size ≤ (W3.setCell ⟨g, 1, none⟩ (.slice ka' (k + 1) kc')).heap.size := by rw [size_setCell]; have := hg.out.size; rw [World.size_alloc] at this; omega
    refine ⟨hlow, _, put_putL .., ?_⟩
    refine T_z hq [9] (by kernel_rfl) ?_
    refine T_one 10 (by kernel_rfl) fun _ => O_store none 23 (.tmp 190) (.tmp 189) ⟨g, 1, none⟩ (.slice ka' (k + 1) kc') _ (by kernel_rfl) (by kernel_rfl) (by kernel_rfl) (stStrsJ W3 _ _ _ _ _ hc (hbx.frozen 1)) (fun x hx => hbl.block x hx) ?_
    exact T_end 205 (kp_lj26 z ++ [(3, .pointer (some ⟨A, 0, none⟩)), (8, .pointer (some ⟨g, 0, none⟩)), (12, .int .i64 (i : Nat))]) (by kernel_rfl) (by kernel_rfl) fun _ u => by rw [hfr]; exact hend u _ _ _ hsk hbl hoth hszz hnn
  have Q0 : ∀ (u : Nat → Value), wpS Tryz.prog lj26Ops Q (fun W => ∀ x, x < lo → W.heap[x]? = B.heap[x]?) (unl 11 [7, 8, 9, 10], frL u 205 (kp_lj26 z ++ [(3, .pointer (some ⟨A, 0, none⟩)), (8, .pointer (some ⟨g, 0, none⟩)), (12, .int .i64 (i : Nat)), (181, .pointer (some ⟨g, 1, none⟩)), (182, .slice a0 k capN), (187, .string nm)])) [] B := by
    intro u
    refine T_one 7 (by kernel_rfl) fun _ => ?_
    exact O_val (w' := B.alloc (.cells #[.string nm] 9)) (some 188) (.slice (some ⟨B.heap.size, 0, none⟩) 1 1) (by kernel_rfl) (by kernel_rfl) (fun x hx => Below.heap_alloc _ _ _ (by omega)) (T_fr 11 205 [8, 9, 10] (kp_lj26 z ++ [(3, .pointer (some ⟨A, 0, none⟩)), (8, .pointer (some ⟨g, 0, none⟩)), (12, .int .i64 (i : Nat)), (181, .pointer (some ⟨g, 1, none⟩)), (182, .slice a0 k capN), (188, .slice (some ⟨B.heap.size, 0, none⟩) 1 1)]) (by kernel_rfl) fun u => Q2 u)
  have P2 : ∀ (u : Nat → Value), wpS Tryz.prog lj26Ops Q (fun W => ∀ x, x < lo → W.heap[x]? = B.heap[x]?) (unl 11 [1, 8, 9, 10], frL u 205 (kp_lj26 z ++ [(3, .pointer (some ⟨A, 0, none⟩)), (8, .pointer (some ⟨g, 0, none⟩)), (12, .int .i64 (i : Nat)), (181, .pointer (some ⟨g, 1, none⟩)), (188, .slice (some ⟨B.heap.size, 0, none⟩) 1 1)])) [] (B.alloc (.cells #[.string nm] 9)) := by
    intro u
    refine T_one 1 (by kernel_rfl) fun hS0 => ?_
    exact O_val (some 182) (.slice a0 k capN) (by kernel_rfl) (ldOpJ (X := .tmp 181) (by kernel_rfl) (by kernel_rfl) (ldStrsF (B.alloc (.cells #[.string nm] 9)) ⟨g, 1, none⟩ _ ((hS.box.alloc _).cell (i := 1) (by omega)))) hS0 (T_fr 11 205 [8, 9, 10] (kp_lj26 z ++ [(3, .pointer (some ⟨A, 0, none⟩)), (8, .pointer (some ⟨g, 0, none⟩)), (12, .int .i64 (i : Nat)), (181, .pointer (some ⟨g, 1, none⟩)), (182, .slice a0 k capN), (188, .slice (some ⟨B.heap.size, 0, none⟩) 1 1)]) (by kernel_rfl) fun u => Q2 u)
  have P0 : ∀ (u : Nat → Value), wpS Tryz.prog lj26Ops Q (fun W => ∀ x, x < lo → W.heap[x]? = B.heap[x]?) (unl 11 [1, 7, 8, 9, 10], frL u 205 (kp_lj26 z ++ [(3, .pointer (some ⟨A, 0, none⟩)), (8, .pointer (some ⟨g, 0, none⟩)), (12, .int .i64 (i : Nat)), (181, .pointer (some ⟨g, 1, none⟩)), (187, .string nm)])) [] B := by
    intro u
    refine T_two 1 7 (by kernel_rfl) (fun hS0 => ?_) fun _ => ?_
    · exact O_val (some 182) (.slice a0 k capN) (by kernel_rfl) (ldOpJ (X := .tmp 181) (by kernel_rfl) (by kernel_rfl) (ldStrsF B ⟨g, 1, none⟩ _ (hS.box.cell (i := 1) (by omega)))) hS0 (T_fr 11 205 [7, 8, 9, 10] (kp_lj26 z ++ [(3, .pointer (some ⟨A, 0, none⟩)), (8, .pointer (some ⟨g, 0, none⟩)), (12, .int .i64 (i : Nat)), (181, .pointer (some ⟨g, 1, none⟩)), (182, .slice a0 k capN), (187, .string nm)]) (by kernel_rfl) fun u => Q0 u)
    · exact O_val (w' := B.alloc (.cells #[.string nm] 9)) (some 188) (.slice (some ⟨B.heap.size, 0, none⟩) 1 1) (by kernel_rfl) (by kernel_rfl) (fun x hx => Below.heap_alloc _ _ _ (by omega)) (T_fr 11 205 [1, 8, 9, 10] (kp_lj26 z ++ [(3, .pointer (some ⟨A, 0, none⟩)), (8, .pointer (some ⟨g, 0, none⟩)), (12, .int .i64 (i : Nat)), (181, .pointer (some ⟨g, 1, none⟩)), (188, .slice (some ⟨B.heap.size, 0, none⟩) 1 1)]) (by kernel_rfl) fun u => P2 u)
  refine T_z hq [0, 2, 4] (by kernel_rfl) ?_
  refine T_a hq [3] (fun w' h => .cons (ldStrsF _ ⟨A, 1, none⟩ (.slice (some ⟨kb, ko, none⟩) kn kc) (cellLo h hA hAc)) Lds.nil) (by kernel_rfl) ?_
  refine T_yld hq 5 (some 186) (.pointer (some ⟨kb, ko + i, none⟩)) (by kernel_rfl) (by kernel_rfl) (fun w _ => ixRunF (n := kn) (cap := kc) (i := i) (X := .tmp 184) (I := .tmp 185) (by kernel_rfl) (by kernel_rfl) (by kernel_rfl) hi w) ?_
  refine T_a hq [6] (fun w' h => .cons (ldStrF _ ⟨kb, ko + i, none⟩ (.string nm) (cellLo h hkb hx)) Lds.nil) (by kernel_rfl) ?_
  exact T_fr 11 205 [1, 7, 8, 9, 10] (kp_lj26 z ++ [(3, .pointer (some ⟨A, 0, none⟩)), (8, .pointer (some ⟨g, 0, none⟩)), (12, .int .i64 (i : Nat)), (181, .pointer (some ⟨g, 1, none⟩)), (187, .string nm)]) (by kernel_rfl) fun u => P0 u
theorem lj26 (lo A g kb ko kn kc i : Nat) (nm : ByteArray) (s : Int) (vN vK : Value) (a0 : Option Addr) (k capN : Nat) (ns : List ByteArray) (ks : List Kd) (xs : List Value) (P : Nat → Prop) (W0 : World) {l : List Value} (Q : Exit → Act → World → Prop) (hQ : ∀ c a d v w, Q (.panic c) (Act.put a d v) w → Q (.panic c) a w)
    (hA : A < lo) (hAc : W0.drew.cell? ⟨A, 1, none⟩ = some (.slice (some ⟨kb, ko, none⟩) kn kc)) (hkb : kb < lo) (hx : W0.drew.cell? ⟨kb, ko + i, none⟩ = some (.string nm)) (hi : i < kn) (hk : k ≤ 2000) (hkl : ns.length = k) (hvN : vN = .slice a0 k capN) (hS : SK lo g W0.drew s vN vK ns ks xs P)
    (hl : lookL (kp_lj26 (fun i => l.getD i undef) ++ [(3, .pointer (some ⟨A, 0, none⟩)), (8, .pointer (some ⟨g, 0, none⟩)), (12, .int .i64 (i : Nat))]) l = (205, (kp_lj26 (fun i => l.getD i undef) ++ [(3, .pointer (some ⟨A, 0, none⟩)), (8, .pointer (some ⟨g, 0, none⟩)), (12, .int .i64 (i : Nat))] : List (Nat × Value)).map (·.2))) (hfr : ∀ u : Nat → Value, frL u 205 (kp_lj26 (fun i => l.getD i undef) ++ [(3, .pointer (some ⟨A, 0, none⟩)), (8, .pointer (some ⟨g, 0, none⟩)), (12, .int .i64 (i : Nat))]) = l.take 181 ++ (u 181 :: u 182 :: u 183 :: u 184 :: u 185 :: u 186 :: u 187 :: u 188 :: u 189 :: u 190 :: l.drop 191))
    (hend : ∀ (u : Nat → Value) (a' : Option Addr) (cap' : Nat) (W' : World), SK lo g W' s (.slice a' (k + 1) cap') vK (ns ++ [nm]) ks xs P → Below lo W0.drew W' → (∀ x, x < W0.drew.heap.size → x ≠ g → (Value.slice a0 k capN).ownBlock ≠ some x → W'.heap[x]? = W0.drew.heap[x]?) → W0.drew.heap.size ≤ W'.heap.size → ((Value.slice a' (k + 1) cap').ownBlock = (Value.slice a0 k capN).ownBlock ∨ ∃ q, (Value.slice a' (k + 1) cap').ownBlock = some q ∧ W0.drew.heap.size ≤ q) → Q .normal ⟨(l.take 181 ++ (u 181 :: u 182 :: u 183 :: u 184 :: u 185 :: u 186 :: u 187 :: u 188 :: u 189 :: u 190 :: l.drop 191)).toArray, []⟩ W') : (Code.region 26 lj26Ops true).wp Tryz.prog Q ⟨l.toArray, []⟩ W0 :=
  lj26z (fun i => l.getD i undef) (fun u => l.take 181 ++ (u 181 :: u 182 :: u 183 :: u 184 :: u 185 :: u 186 :: u 187 :: u 188 :: u 189 :: u 190 :: l.drop 191)) lo A g kb ko kn kc i nm s vN vK a0 k capN ns ks xs P W0 Q hQ hA hAc hkb hx hi hk hkl hvN hS hl hfr hend
noncomputable def lj17Ops : Array Oper := fops Tryz.f23 17
theorem lj17_neat : Region.noSelect lj17Ops = true ∧ neat lj17Ops = true := ⟨by kernel_rfl, by kernel_rfl⟩
def kp_lj17 (z : Nat → Value) : List (Nat × Value) := [0, 1, 3, 4, 5, 6, 7, 9, 10, 12, 13, 14, 15, 16, 17, 18, 19, 20, 21, 22, 23, 24, 25, 26, 27, 28, 29, 30, 31, 32, 33, 34, 35, 36, 37, 38, 39, 40, 41, 42, 43, 44, 45, 46, 47, 48, 49, 50, 51, 52, 53, 54, 55, 56, 57, 58, 59, 60, 61, 62, 63, 64, 65, 66, 67, 68, 69, 70, 71, 72, 73, 74, 75, 76, 77, 78, 79, 80, 81, 82, 83, 84, 85, 86, 87, 88, 89, 90, 91, 92, 103, 104, 105, 106, 107, 108, 109, 110, 111, 112, 113, 114, 115, 116, 117, 118, 119, 120, 121, 122, 123, 124, 125, 126, 127, 128, 129, 130, 131, 132, 133, 134, 135, 136, 137, 138, 139, 140, 141, 142, 143, 144, 145, 146, 147, 148, 149, 150, 151, 152, 153, 154, 155, 156, 157, 158, 159, 160, 161, 162, 163, 164, 165, 166, 167, 168, 169, 170, 171, 172, 173, 174, 175, 176, 177, 178, 179, 180, 181, 182, 183, 184, 185, 186, 187, 188, 189, 190, 191, 192, 193, 194, 195, 196, 197, 198, 199, 200, 201, 202, 203, 204].map fun i => (i, z i)
set_option maxRecDepth 100000 in
set_option maxHeartbeats 3200000 in
theorem lj17z (z : Nat → Value) (LL : (Nat → Value) → List Value) (lo A g kb ko kn kc i : Nat) (nm : ByteArray) (s : Int) (vN vK : Value) (a0 : Option Addr) (k capN : Nat) (ns : List ByteArray) (ks : List Kd) (xs : List Value) (P : Nat → Prop) (W0 : World) {l : List Value} (Q : Exit → Act → World → Prop) (hQ : ∀ c a d v w, Q (.panic c) (Act.put a d v) w → Q (.panic c) a w)
    (hA : A < lo) (hAc : W0.drew.cell? ⟨A, 1, none⟩ = some (.slice (some ⟨kb, ko, none⟩) kn kc)) (hkb : kb < lo) (hx : W0.drew.cell? ⟨kb, ko + i, none⟩ = some (.string nm)) (hi : i < kn) (hk : k ≤ 2000) (hkl : ns.length = k) (hvN : vN = .slice a0 k capN) (hS : SK lo g W0.drew s vN vK ns ks xs P)
    (hl : lookL (kp_lj17 z ++ [(2, .pointer (some ⟨A, 0, none⟩)), (8, .pointer (some ⟨g, 0, none⟩)), (11, .int .i64 (i : Nat))]) l = (205, (kp_lj17 z ++ [(2, .pointer (some ⟨A, 0, none⟩)), (8, .pointer (some ⟨g, 0, none⟩)), (11, .int .i64 (i : Nat))] : List (Nat × Value)).map (·.2))) (hfr : ∀ u : Nat → Value, frL u 205 (kp_lj17 z ++ [(2, .pointer (some ⟨A, 0, none⟩)), (8, .pointer (some ⟨g, 0, none⟩)), (11, .int .i64 (i : Nat))]) = LL u)
    (hend : ∀ (u : Nat → Value) (a' : Option Addr) (cap' : Nat) (W' : World), SK lo g W' s (.slice a' (k + 1) cap') vK (ns ++ [nm]) ks xs P → Below lo W0.drew W' → (∀ x, x < W0.drew.heap.size → x ≠ g → (Value.slice a0 k capN).ownBlock ≠ some x → W'.heap[x]? = W0.drew.heap[x]?) → W0.drew.heap.size ≤ W'.heap.size → ((Value.slice a' (k + 1) cap').ownBlock = (Value.slice a0 k capN).ownBlock ∨ ∃ q, (Value.slice a' (k + 1) cap').ownBlock = some q ∧ W0.drew.heap.size ≤ q) → Q .normal ⟨(LL u).toArray, []⟩ W') : (Code.region 17 lj17Ops true).wp Tryz.prog Q ⟨l.toArray, []⟩ W0 := by
  obtain ⟨v0, rfl⟩ := look_fr hl
  have hq : NtQ lj17Ops Q := ⟨lj17_neat, hQ⟩
  refine T_start (S := (fun W => ∀ x, x < lo → W.heap[x]? = W0.drew.heap[x]?)) (by kernel_rfl) (fun _ _ => rfl) ?_
  clear hl hQ
  generalize W0.drew = B at hAc hx hS hend ⊢
  have hgl := hS.lt
  have hlg := hS.glo
  subst hvN
  have Q2 : ∀ (u : Nat → Value), wpS Tryz.prog lj17Ops Q (fun W => ∀ x, x < lo → W.heap[x]? = B.heap[x]?) (unl 11 [8, 9, 10], frL u 205 (kp_lj17 z ++ [(2, .pointer (some ⟨A, 0, none⟩)), (8, .pointer (some ⟨g, 0, none⟩)), (11, .int .i64 (i : Nat)), (93, .pointer (some ⟨g, 1, none⟩)), (94, .slice a0 k capN), (100, .slice (some ⟨B.heap.size, 0, none⟩) 1 1)])) [] (B.alloc (.cells #[.string nm] 9)) := by
    intro u
    have hal := (Below.refl B.heap.size B).alloc (Nat.le_refl _) (.cells #[.string nm] 9)
    have hsA := hS.on hal
    have hown := hsA.names
    rw [hkl] at hown
    refine T_one 8 (by kernel_rfl) fun hS0 => O_list (some 101) (by kernel_rfl) ?_
    refine append_strJ _ (by kernel_rfl) (.tmp 94) (.tmp 100) (by kernel_rfl) lo (.slice a0 k capN) k (ns.map Value.string) (by kernel_rfl) hown B.heap.size nm (by kernel_rfl) ((row1_alloc B (.string nm) 9).cell (i := 0) (by omega)) hk (by rw [World.size_alloc]; omega) ?_
    intro ka' kc' W3 ho hg hn
    have hbx := hsA.box.of_block (hg.out.block g hsA.lt (fun e => (hsA.nk g e.symm).1 rfl))
    have hc := hbx.cell (i := 1) (by omega)
    simp only [row3] at hc
    have hlow : ∀ x, x < lo → W3.heap[x]? = B.heap[x]? := fun x hx => (hg.out.block x (by rw [World.size_alloc]; omega) (fun e => by have := (hsA.names.lt x e.symm).1; omega)).trans (hal.block x (by omega))
    have hsk := hsA.name (nm := nm) (by rw [hkl]; exact ho.out) hg.out hn.out
    have hbl : Below lo B (W3.setCell ⟨g, 1, none⟩ (.slice ka' (k + 1) kc')) := ((hal.mono (by omega)).grown hg.out (by rw [World.size_alloc]; omega) (fun b e => by have := (hsA.names.lt b e).1; omega)).setCell (by simpa using hlg) _
    have hoth : ∀ x, x < B.heap.size → x ≠ g → (Value.slice a0 k capN).ownBlock ≠ some x → (W3.setCell ⟨g, 1, none⟩ (.slice ka' (k + 1) kc')).heap[x]? = B.heap[x]? := fun x h1 h2 h3 => (Below.heap_setCell _ _ _ _ (by simpa using h2)).trans ((hg.out.block x (by rw [World.size_alloc]; omega) (fun e => h3 e.symm)).trans (hal.block x h1))
    have hnn : (Value.slice ka' (k + 1) kc').ownBlock = (Value.slice a0 k capN).ownBlock ∨ ∃ q, (Value.slice ka' (k + 1) kc').ownBlock = some q ∧ B.heap.size ≤ q := by
      rcases hn.out with h | ⟨q, h, h'⟩
      · exact Or.inl h
      · rw [World.size_alloc] at h'
        exact Or.inr ⟨q, h, by omega⟩
    have hszz : B.heap.size ≤ (W3.setCell ⟨g, 1, none⟩ (.slice ka' (k + 1) kc')).heap.size := by rw [size_setCell]; have := hg.out.size; rw [World.size_alloc] at this; omega
    refine ⟨hlow, _, put_putL .., ?_⟩
    refine T_z hq [9] (by kernel_rfl) ?_
    refine T_one 10 (by kernel_rfl) fun _ => O_store none 23 (.tmp 102) (.tmp 101) ⟨g, 1, none⟩ (.slice ka' (k + 1) kc') _ (by kernel_rfl) (by kernel_rfl) (by kernel_rfl) (stStrsJ W3 _ _ _ _ _ hc (hbx.frozen 1)) (fun x hx => hbl.block x hx) ?_
    exact T_end 205 (kp_lj17 z ++ [(2, .pointer (some ⟨A, 0, none⟩)), (8, .pointer (some ⟨g, 0, none⟩)), (11, .int .i64 (i : Nat))]) (by kernel_rfl) (by kernel_rfl) fun _ u => by rw [hfr]; exact hend u _ _ _ hsk hbl hoth hszz hnn
  have Q0 : ∀ (u : Nat → Value), wpS Tryz.prog lj17Ops Q (fun W => ∀ x, x < lo → W.heap[x]? = B.heap[x]?) (unl 11 [7, 8, 9, 10], frL u 205 (kp_lj17 z ++ [(2, .pointer (some ⟨A, 0, none⟩)), (8, .pointer (some ⟨g, 0, none⟩)), (11, .int .i64 (i : Nat)), (93, .pointer (some ⟨g, 1, none⟩)), (94, .slice a0 k capN), (99, .string nm)])) [] B := by
    intro u
    refine T_one 7 (by kernel_rfl) fun _ => ?_
    exact O_val (w' := B.alloc (.cells #[.string nm] 9)) (some 100) (.slice (some ⟨B.heap.size, 0, none⟩) 1 1) (by kernel_rfl) (by kernel_rfl) (fun x hx => Below.heap_alloc _ _ _ (by omega)) (T_fr 11 205 [8, 9, 10] (kp_lj17 z ++ [(2, .pointer (some ⟨A, 0, none⟩)), (8, .pointer (some ⟨g, 0, none⟩)), (11, .int .i64 (i : Nat)), (93, .pointer (some ⟨g, 1, none⟩)), (94, .slice a0 k capN), (100, .slice (some ⟨B.heap.size, 0, none⟩) 1 1)]) (by kernel_rfl) fun u => Q2 u)
  have P2 : ∀ (u : Nat → Value), wpS Tryz.prog lj17Ops Q (fun W => ∀ x, x < lo → W.heap[x]? = B.heap[x]?) (unl 11 [1, 8, 9, 10], frL u 205 (kp_lj17 z ++ [(2, .pointer (some ⟨A, 0, none⟩)), (8, .pointer (some ⟨g, 0, none⟩)), (11, .int .i64 (i : Nat)), (93, .pointer (some ⟨g, 1, none⟩)), (100, .slice (some ⟨B.heap.size, 0, none⟩) 1 1)])) [] (B.alloc (.cells #[.string nm] 9)) := by
    intro u
    refine T_one 1 (by kernel_rfl) fun hS0 => ?_
    exact O_val (some 94) (.slice a0 k capN) (by kernel_rfl) (ldOpJ (X := .tmp 93) (by kernel_rfl) (by kernel_rfl) (ldStrsF (B.alloc (.cells #[.string nm] 9)) ⟨g, 1, none⟩ _ ((hS.box.alloc _).cell (i := 1) (by omega)))) hS0 (T_fr 11 205 [8, 9, 10] (kp_lj17 z ++ [(2, .pointer (some ⟨A, 0, none⟩)), (8, .pointer (some ⟨g, 0, none⟩)), (11, .int .i64 (i : Nat)), (93, .pointer (some ⟨g, 1, none⟩)), (94, .slice a0 k capN), (100, .slice (some ⟨B.heap.size, 0, none⟩) 1 1)]) (by kernel_rfl) fun u => Q2 u)
  have P0 : ∀ (u : Nat → Value), wpS Tryz.prog lj17Ops Q (fun W => ∀ x, x < lo → W.heap[x]? = B.heap[x]?) (unl 11 [1, 7, 8, 9, 10], frL u 205 (kp_lj17 z ++ [(2, .pointer (some ⟨A, 0, none⟩)), (8, .pointer (some ⟨g, 0, none⟩)), (11, .int .i64 (i : Nat)), (93, .pointer (some ⟨g, 1, none⟩)), (99, .string nm)])) [] B := by
    intro u
    refine T_two 1 7 (by kernel_rfl) (fun hS0 => ?_) fun _ => ?_
    · exact O_val (some 94) (.slice a0 k capN) (by kernel_rfl) (ldOpJ (X := .tmp 93) (by kernel_rfl) (by kernel_rfl) (ldStrsF B ⟨g, 1, none⟩ _ (hS.box.cell (i := 1) (by omega)))) hS0 (T_fr 11 205 [7, 8, 9, 10] (kp_lj17 z ++ [(2, .pointer (some ⟨A, 0, none⟩)), (8, .pointer (some ⟨g, 0, none⟩)), (11, .int .i64 (i : Nat)), (93, .pointer (some ⟨g, 1, none⟩)), (94, .slice a0 k capN), (99, .string nm)]) (by kernel_rfl) fun u => Q0 u)
    · exact O_val (w' := B.alloc (.cells #[.string nm] 9)) (some 100) (.slice (some ⟨B.heap.size, 0, none⟩) 1 1) (by kernel_rfl) (by kernel_rfl) (fun x hx => Below.heap_alloc _ _ _ (by omega)) (T_fr 11 205 [1, 8, 9, 10] (kp_lj17 z ++ [(2, .pointer (some ⟨A, 0, none⟩)), (8, .pointer (some ⟨g, 0, none⟩)), (11, .int .i64 (i : Nat)), (93, .pointer (some ⟨g, 1, none⟩)), (100, .slice (some ⟨B.heap.size, 0, none⟩) 1 1)]) (by kernel_rfl) fun u => P2 u)
  refine T_z hq [0, 2, 4] (by kernel_rfl) ?_
  refine T_a hq [3] (fun w' h => .cons (ldStrsF _ ⟨A, 1, none⟩ (.slice (some ⟨kb, ko, none⟩) kn kc) (cellLo h hA hAc)) Lds.nil) (by kernel_rfl) ?_
  refine T_yld hq 5 (some 98) (.pointer (some ⟨kb, ko + i, none⟩)) (by kernel_rfl) (by kernel_rfl) (fun w _ => ixRunF (n := kn) (cap := kc) (i := i) (X := .tmp 96) (I := .tmp 97) (by kernel_rfl) (by kernel_rfl) (by kernel_rfl) hi w) ?_
  refine T_a hq [6] (fun w' h => .cons (ldStrF _ ⟨kb, ko + i, none⟩ (.string nm) (cellLo h hkb hx)) Lds.nil) (by kernel_rfl) ?_
  exact T_fr 11 205 [1, 7, 8, 9, 10] (kp_lj17 z ++ [(2, .pointer (some ⟨A, 0, none⟩)), (8, .pointer (some ⟨g, 0, none⟩)), (11, .int .i64 (i : Nat)), (93, .pointer (some ⟨g, 1, none⟩)), (99, .string nm)]) (by kernel_rfl) fun u => P0 u
theorem lj17 (lo A g kb ko kn kc i : Nat) (nm : ByteArray) (s : Int) (vN vK : Value) (a0 : Option Addr) (k capN : Nat) (ns : List ByteArray) (ks : List Kd) (xs : List Value) (P : Nat → Prop) (W0 : World) {l : List Value} (Q : Exit → Act → World → Prop) (hQ : ∀ c a d v w, Q (.panic c) (Act.put a d v) w → Q (.panic c) a w)
    (hA : A < lo) (hAc : W0.drew.cell? ⟨A, 1, none⟩ = some (.slice (some ⟨kb, ko, none⟩) kn kc)) (hkb : kb < lo) (hx : W0.drew.cell? ⟨kb, ko + i, none⟩ = some (.string nm)) (hi : i < kn) (hk : k ≤ 2000) (hkl : ns.length = k) (hvN : vN = .slice a0 k capN) (hS : SK lo g W0.drew s vN vK ns ks xs P)
    (hl : lookL (kp_lj17 (fun i => l.getD i undef) ++ [(2, .pointer (some ⟨A, 0, none⟩)), (8, .pointer (some ⟨g, 0, none⟩)), (11, .int .i64 (i : Nat))]) l = (205, (kp_lj17 (fun i => l.getD i undef) ++ [(2, .pointer (some ⟨A, 0, none⟩)), (8, .pointer (some ⟨g, 0, none⟩)), (11, .int .i64 (i : Nat))] : List (Nat × Value)).map (·.2))) (hfr : ∀ u : Nat → Value, frL u 205 (kp_lj17 (fun i => l.getD i undef) ++ [(2, .pointer (some ⟨A, 0, none⟩)), (8, .pointer (some ⟨g, 0, none⟩)), (11, .int .i64 (i : Nat))]) = l.take 93 ++ (u 93 :: u 94 :: u 95 :: u 96 :: u 97 :: u 98 :: u 99 :: u 100 :: u 101 :: u 102 :: l.drop 103))
    (hend : ∀ (u : Nat → Value) (a' : Option Addr) (cap' : Nat) (W' : World), SK lo g W' s (.slice a' (k + 1) cap') vK (ns ++ [nm]) ks xs P → Below lo W0.drew W' → (∀ x, x < W0.drew.heap.size → x ≠ g → (Value.slice a0 k capN).ownBlock ≠ some x → W'.heap[x]? = W0.drew.heap[x]?) → W0.drew.heap.size ≤ W'.heap.size → ((Value.slice a' (k + 1) cap').ownBlock = (Value.slice a0 k capN).ownBlock ∨ ∃ q, (Value.slice a' (k + 1) cap').ownBlock = some q ∧ W0.drew.heap.size ≤ q) → Q .normal ⟨(l.take 93 ++ (u 93 :: u 94 :: u 95 :: u 96 :: u 97 :: u 98 :: u 99 :: u 100 :: u 101 :: u 102 :: l.drop 103)).toArray, []⟩ W') : (Code.region 17 lj17Ops true).wp Tryz.prog Q ⟨l.toArray, []⟩ W0 :=
  lj17z (fun i => l.getD i undef) (fun u => l.take 93 ++ (u 93 :: u 94 :: u 95 :: u 96 :: u 97 :: u 98 :: u 99 :: u 100 :: u 101 :: u 102 :: l.drop 103)) lo A g kb ko kn kc i nm s vN vK a0 k capN ns ks xs P W0 Q hQ hA hAc hkb hx hi hk hkl hvN hS hl hfr hend
noncomputable def lj8Ops : Array Oper := fops Tryz.f23 8
theorem lj8_neat : Region.noSelect lj8Ops = true ∧ neat lj8Ops = true := ⟨by kernel_rfl, by kernel_rfl⟩
set_option maxRecDepth 100000 in
set_option maxHeartbeats 3200000 in
theorem lj8 (A C R O : Nat) (c c2 : C3) (z x : C3) (xb xo xc yb yo yc : Nat) (E : World → World → C3 → Value → Prop) (W0 : World) {l : List Value} (Q : Exit → Act → World → Prop) (hQ : ∀ c a d v w, Q (.panic c) (Act.put a d v) w → Q (.panic c) a w) (hA : W0.drew.rowIs A 26 3 (row3 c.c0 c.c1 c.c2)) (hC : W0.drew.rowIs C 26 3 (row3 c2.c0 c2.c1 c2.c2)) (hc1 : c.c2 = .slice (some ⟨xb, xo, none⟩) 1 xc) (hc2 : c2.c2 = .slice (some ⟨yb, yo, none⟩) 1 yc) (hx : K3 W0.drew xb (xo + 0 * 3) z) (hy : K3 W0.drew yb (yo + 0 * 3) x)
    (HK : ∀ W, Below W0.drew.heap.size W0.drew W → Calls Tryz.prog 23 #[.agg #[z.c0, z.c1, z.c2], .agg #[x.c0, x.c1, x.c2]] W fun e w' => Below W.heap.size W w' ∧ ∃ (d : C3) (er : Value), e = .returned (.tuple #[.agg #[d.c0, d.c1, d.c2], er]) ∧ Any3 d ∧ E W w' d er)
    (hl : lookL [(2, .pointer (some ⟨A, 0, none⟩)), (3, .pointer (some ⟨C, 0, none⟩)), (4, .pointer (some ⟨R, 0, none⟩)), (8, .pointer (some ⟨O, 0, none⟩))] l = (205, ([(2, .pointer (some ⟨A, 0, none⟩)), (3, .pointer (some ⟨C, 0, none⟩)), (4, .pointer (some ⟨R, 0, none⟩)), (8, .pointer (some ⟨O, 0, none⟩))] : List (Nat × Value)).map (·.2)))
    (hend : ∀ (u : Nat → Value) (V0 V1 W : World) (d : C3) (er : Value) (g : Nat), Below W0.drew.heap.size W0.drew V0 → E V0 V1 d er → Below W0.drew.heap.size W0.drew W → CKj V0 V1 W → W.rowIs g 26 3 (row3 d.c0 d.c1 d.c2) → W0.drew.heap.size ≤ g → (g < V0.heap.size ∨ V1.heap.size ≤ g) → Q .normal ⟨(frL u 205 [(4, .pointer (some ⟨R, 0, none⟩)), (8, .pointer (some ⟨O, 0, none⟩)), (9, .pointer (some ⟨g, 0, none⟩)), (10, er)]).toArray, []⟩ W) : (Code.region 8 lj8Ops true).wp Tryz.prog Q ⟨l.toArray, []⟩ W0 := by
  obtain ⟨v0, rfl⟩ := look_fr hl
  have hq : NtQ lj8Ops Q := ⟨lj8_neat, hQ⟩
  refine T_start (S := fun W => Below W0.drew.heap.size W0.drew W) (by kernel_rfl) (Below.refl _ _) ?_
  clear hl hQ
  generalize W0.drew = B at hA hC hx hy HK hend ⊢
  have Q1 : ∀ (u : Nat → Value) (W : World) (hW : Below B.heap.size B W) (V0 V1 : World) (d : C3) (er : Value) (hV : Below B.heap.size B V0) (hE : E V0 V1 d er) (h3 : Any3 d) (hck : CKj V0 V1 W) (g : Nat) (hg : W.rowIs g 26 3 (row3 (.int .i64 0) (.slice none 0 0) (.slice none 0 0))) (hgb : B.heap.size ≤ g) (hap : g < V0.heap.size ∨ V1.heap.size ≤ g), wpS Tryz.prog lj8Ops Q (fun W => Below B.heap.size B W) (unl 15 [13, 14], frL u 205 [(4, .pointer (some ⟨R, 0, none⟩)), (8, .pointer (some ⟨O, 0, none⟩)), (9, .pointer (some ⟨g, 0, none⟩)), (57, .agg #[d.c0, d.c1, d.c2]), (58, er)]) [] W := by
    intro u W hW V0 V1 d er hV hE h3 hck g hg hgb hap
    refine T_one 13 (by kernel_rfl) fun _ => ?_
    have hs3 := set3f W g d.c0 d.c1 d.c2
    have hW2 := below_boxf hW hgb hs3.1
    refine O_store_mid none 26 (.tmp 9) (.tmp 57) g 0 #[d.c0, d.c1, d.c2] (by kernel_rfl) (by kernel_rfl) (by kernel_rfl) (there3f hg) sizeKd (h3.one) hW2 ?_
    refine T_z hq [14] (by kernel_rfl) ?_
    exact T_end 205 [(4, .pointer (some ⟨R, 0, none⟩)), (8, .pointer (some ⟨O, 0, none⟩)), (9, .pointer (some ⟨g, 0, none⟩)), (10, er)] (by kernel_rfl) (by kernel_rfl) fun _ u => hend u V0 V1 _ d er g hV hE hW2 (hck.but hs3.1 hap) (hs3.2 _ _ hg) hgb hap
  have P1 : ∀ (u : Nat → Value) (W : World) (hW : Below B.heap.size B W) (V0 V1 : World) (d : C3) (er : Value) (hV : Below B.heap.size B V0) (hE : E V0 V1 d er) (h3 : Any3 d) (hck : CKj V0 V1 W), wpS Tryz.prog lj8Ops Q (fun W => Below B.heap.size B W) (unl 15 [12, 13, 14], frL u 205 [(4, .pointer (some ⟨R, 0, none⟩)), (8, .pointer (some ⟨O, 0, none⟩)), (57, .agg #[d.c0, d.c1, d.c2]), (58, er)]) [] W := by
    intro u W hW V0 V1 d er hV hE h3 hck
    refine T_one 12 (by kernel_rfl) fun _ => ?_
    exact O_val (w' := W.alloc (.cells #[.int .i64 0, .slice none 0 0, .slice none 0 0] 26)) (some 9) (.pointer (some ⟨W.heap.size, 0, none⟩)) (by kernel_rfl) (by kernel_rfl) (hW.alloc hW.size _) (T_fr 15 205 [13, 14] [(4, .pointer (some ⟨R, 0, none⟩)), (8, .pointer (some ⟨O, 0, none⟩)), (9, .pointer (some ⟨W.heap.size, 0, none⟩)), (57, .agg #[d.c0, d.c1, d.c2]), (58, er)] (by kernel_rfl) fun u => Q1 u _ (hW.alloc hW.size _) V0 V1 d er hV hE h3 (hck.alloc _) _ (row3_alloc W _ _ _ _) hW.size (Or.inr hck.size))
  have Q0 : ∀ (u : Nat → Value) (W : World) (hW : Below B.heap.size B W)   (g : Nat) (hg : W.rowIs g 26 3 (row3 (.int .i64 0) (.slice none 0 0) (.slice none 0 0))) (hgb : B.heap.size ≤ g), wpS Tryz.prog lj8Ops Q (fun W => Below B.heap.size B W) (unl 15 [8, 9, 10, 11, 13, 14], frL u 205 [(4, .pointer (some ⟨R, 0, none⟩)), (8, .pointer (some ⟨O, 0, none⟩)), (9, .pointer (some ⟨g, 0, none⟩)), (51, .agg #[z.c0, z.c1, z.c2]), (55, .agg #[x.c0, x.c1, x.c2])]) [] W := by
    intro u W hW   g hg hgb
    refine T_one 8 (by kernel_rfl) fun _ => ?_
    refine O_go (HK W hW) (by kernel_rfl) ?_
    rintro e W1 ⟨hb1, d, er, rfl, h3, hE⟩
    exact ⟨_, rfl, below_onf hW hb1, T_z hq [9, 10, 11] (by kernel_rfl) (T_fr 15 205 [13, 14] [(4, .pointer (some ⟨R, 0, none⟩)), (8, .pointer (some ⟨O, 0, none⟩)), (9, .pointer (some ⟨g, 0, none⟩)), (57, .agg #[d.c0, d.c1, d.c2]), (58, er)] (by kernel_rfl) fun u => Q1 u W1 (below_onf hW hb1) W W1 d er hW hE h3 (CKj.refl _ _) g (hg.of_block (hb1.block _ hg.lt)) hgb (Or.inl hg.lt))⟩
  have P0 : ∀ (u : Nat → Value) (W : World) (hW : Below B.heap.size B W)  , wpS Tryz.prog lj8Ops Q (fun W => Below B.heap.size B W) (unl 15 [8, 9, 10, 11, 12, 13, 14], frL u 205 [(4, .pointer (some ⟨R, 0, none⟩)), (8, .pointer (some ⟨O, 0, none⟩)), (51, .agg #[z.c0, z.c1, z.c2]), (55, .agg #[x.c0, x.c1, x.c2])]) [] W := by
    intro u W hW  
    refine T_two 8 12 (by kernel_rfl) (fun _ => ?_) fun _ => ?_
    · refine O_go (HK W hW) (by kernel_rfl) ?_
      rintro e W1 ⟨hb1, d, er, rfl, h3, hE⟩
      exact ⟨_, rfl, below_onf hW hb1, T_z hq [9, 10, 11] (by kernel_rfl) (T_fr 15 205 [12, 13, 14] [(4, .pointer (some ⟨R, 0, none⟩)), (8, .pointer (some ⟨O, 0, none⟩)), (57, .agg #[d.c0, d.c1, d.c2]), (58, er)] (by kernel_rfl) fun u => P1 u W1 (below_onf hW hb1) W W1 d er hW hE h3 (CKj.refl _ _))⟩
    · exact O_val (w' := W.alloc (.cells #[.int .i64 0, .slice none 0 0, .slice none 0 0] 26)) (some 9) (.pointer (some ⟨W.heap.size, 0, none⟩)) (by kernel_rfl) (by kernel_rfl) (hW.alloc hW.size _) (T_fr 15 205 [8, 9, 10, 11, 13, 14] [(4, .pointer (some ⟨R, 0, none⟩)), (8, .pointer (some ⟨O, 0, none⟩)), (9, .pointer (some ⟨W.heap.size, 0, none⟩)), (51, .agg #[z.c0, z.c1, z.c2]), (55, .agg #[x.c0, x.c1, x.c2])] (by kernel_rfl) fun u => Q0 u _ (hW.alloc hW.size _)   _ (row3_alloc W _ _ _ _) hW.size)
  refine T_z hq [0, 4] (by kernel_rfl) ?_
  refine T_a hq [1, 5] (fun w' h => .cons (ldCellJ hA hc1 h) (.cons (ldCellJ hC hc2 h) Lds.nil)) (by kernel_rfl) ?_
  refine T_yld hq 2 (some 50) (.pointer (some ⟨xb, xo + 0 * 3, none⟩)) (by kernel_rfl) (by kernel_rfl) (fun w _ => ixKdJ (n := 1) (cap := xc) (i := 0) (X := .tmp 49) (I := .const (.int .i64 0)) (by kernel_rfl) (by kernel_rfl) (by kernel_rfl) (by omega) w) ?_
  refine T_yld hq 6 (some 54) (.pointer (some ⟨yb, yo + 0 * 3, none⟩)) (by kernel_rfl) (by kernel_rfl) (fun w _ => ixKdJ (n := 1) (cap := yc) (i := 0) (X := .tmp 53) (I := .const (.int .i64 0)) (by kernel_rfl) (by kernel_rfl) (by kernel_rfl) (by omega) w) ?_
  refine T_a hq [3, 7] (fun w' h => .cons (K3.ld hx h) (.cons (K3.ld hy h) Lds.nil)) (by kernel_rfl) ?_
  exact T_fr 15 205 [8, 9, 10, 11, 12, 13, 14] [(4, .pointer (some ⟨R, 0, none⟩)), (8, .pointer (some ⟨O, 0, none⟩)), (51, .agg #[z.c0, z.c1, z.c2]), (55, .agg #[x.c0, x.c1, x.c2])] (by kernel_rfl) fun u => P0 u _ (Below.refl _ _)
noncomputable def lj2Ops : Array Oper := fops Tryz.f23 2
theorem lj2_neat : Region.noSelect lj2Ops = true ∧ neat lj2Ops = true := ⟨by kernel_rfl, by kernel_rfl⟩
set_option maxRecDepth 100000 in
set_option maxHeartbeats 3200000 in
theorem lj2 (A C R : Nat) (c c2 : C3) (GA GB : World → C3 → Prop) (GAon : ∀ W W' y, Below W.heap.size W W' → GA W y → GA W' y) (GBon : ∀ W W' y, Below W.heap.size W W' → GB W y → GB W' y) (E : World → World → C3 → Value → Prop) (W0 : World) {l : List Value} (Q : Exit → Act → World → Prop) (hQ : ∀ c a d v w, Q (.panic c) (Act.put a d v) w → Q (.panic c) a w) (hA : W0.drew.rowIs A 26 3 (row3 c.c0 c.c1 c.c2)) (hC : W0.drew.rowIs C 26 3 (row3 c2.c0 c2.c1 c2.c2))
    (HKx : ∀ W, Below W0.drew.heap.size W0.drew W → Calls Tryz.prog 45 #[.agg #[c.c0, c.c1, c.c2]] W fun e w' => Below W.heap.size W w' ∧ ∃ y : C3, e = .returned (.agg #[y.c0, y.c1, y.c2]) ∧ GA w' y) (HKy : ∀ W, Below W0.drew.heap.size W0.drew W → Calls Tryz.prog 45 #[.agg #[c2.c0, c2.c1, c2.c2]] W fun e w' => Below W.heap.size W w' ∧ ∃ y : C3, e = .returned (.agg #[y.c0, y.c1, y.c2]) ∧ GB w' y) (HK : ∀ W (x y : C3), Below W0.drew.heap.size W0.drew W → GA W x → GB W y → Calls Tryz.prog 23 #[.agg #[x.c0, x.c1, x.c2], .agg #[y.c0, y.c1, y.c2]] W fun e w' => Below W.heap.size W w' ∧ ∃ (d : C3) (er : Value), e = .returned (.tuple #[.agg #[d.c0, d.c1, d.c2], er]) ∧ Any3 d ∧ E W w' d er)
    (hl : lookL [(2, .pointer (some ⟨A, 0, none⟩)), (3, .pointer (some ⟨C, 0, none⟩)), (4, .pointer (some ⟨R, 0, none⟩))] l = (205, ([(2, .pointer (some ⟨A, 0, none⟩)), (3, .pointer (some ⟨C, 0, none⟩)), (4, .pointer (some ⟨R, 0, none⟩))] : List (Nat × Value)).map (·.2)))
    (hend : ∀ (u : Nat → Value) (V0 V1 W : World) (d : C3) (er : Value) (g : Nat), Below W0.drew.heap.size W0.drew V0 → E V0 V1 d er → Below W0.drew.heap.size W0.drew W → CKj V0 V1 W → W.rowIs g 26 3 (row3 d.c0 d.c1 d.c2) → W0.drew.heap.size ≤ g → (g < V0.heap.size ∨ V1.heap.size ≤ g) → Q .normal ⟨(frL u 205 [(4, .pointer (some ⟨R, 0, none⟩)), (6, .pointer (some ⟨g, 0, none⟩)), (7, er)]).toArray, []⟩ W) : (Code.region 2 lj2Ops true).wp Tryz.prog Q ⟨l.toArray, []⟩ W0 := by
  obtain ⟨v0, rfl⟩ := look_fr hl
  have hq : NtQ lj2Ops Q := ⟨lj2_neat, hQ⟩
  refine T_start (S := fun W => Below W0.drew.heap.size W0.drew W) (by kernel_rfl) (Below.refl _ _) ?_
  clear hl hQ
  generalize W0.drew = B at hA hC HKx HKy HK hend ⊢
  have Q3 : ∀ (u : Nat → Value) (W : World) (hW : Below B.heap.size B W) (V0 V1 : World) (d : C3) (er : Value) (hV : Below B.heap.size B V0) (hE : E V0 V1 d er) (h3 : Any3 d) (hck : CKj V0 V1 W) (g : Nat) (hg : W.rowIs g 26 3 (row3 (.int .i64 0) (.slice none 0 0) (.slice none 0 0))) (hgb : B.heap.size ≤ g) (hap : g < V0.heap.size ∨ V1.heap.size ≤ g), wpS Tryz.prog lj2Ops Q (fun W => Below B.heap.size B W) (unl 11 [9, 10], frL u 205 [(4, .pointer (some ⟨R, 0, none⟩)), (6, .pointer (some ⟨g, 0, none⟩)), (29, .agg #[d.c0, d.c1, d.c2]), (30, er)]) [] W := by
    intro u W hW V0 V1 d er hV hE h3 hck g hg hgb hap
    refine T_one 9 (by kernel_rfl) fun _ => ?_
    have hs3 := set3f W g d.c0 d.c1 d.c2
    have hW2 := below_boxf hW hgb hs3.1
    refine O_store_mid none 26 (.tmp 6) (.tmp 29) g 0 #[d.c0, d.c1, d.c2] (by kernel_rfl) (by kernel_rfl) (by kernel_rfl) (there3f hg) sizeKd (h3.one) hW2 ?_
    refine T_z hq [10] (by kernel_rfl) ?_
    exact T_end 205 [(4, .pointer (some ⟨R, 0, none⟩)), (6, .pointer (some ⟨g, 0, none⟩)), (7, er)] (by kernel_rfl) (by kernel_rfl) fun _ u => hend u V0 V1 _ d er g hV hE hW2 (hck.but hs3.1 hap) (hs3.2 _ _ hg) hgb hap
  have P3 : ∀ (u : Nat → Value) (W : World) (hW : Below B.heap.size B W) (V0 V1 : World) (d : C3) (er : Value) (hV : Below B.heap.size B V0) (hE : E V0 V1 d er) (h3 : Any3 d) (hck : CKj V0 V1 W), wpS Tryz.prog lj2Ops Q (fun W => Below B.heap.size B W) (unl 11 [8, 9, 10], frL u 205 [(4, .pointer (some ⟨R, 0, none⟩)), (29, .agg #[d.c0, d.c1, d.c2]), (30, er)]) [] W := by
    intro u W hW V0 V1 d er hV hE h3 hck
    refine T_one 8 (by kernel_rfl) fun _ => ?_
    exact O_val (w' := W.alloc (.cells #[.int .i64 0, .slice none 0 0, .slice none 0 0] 26)) (some 6) (.pointer (some ⟨W.heap.size, 0, none⟩)) (by kernel_rfl) (by kernel_rfl) (hW.alloc hW.size _) (T_fr 11 205 [9, 10] [(4, .pointer (some ⟨R, 0, none⟩)), (6, .pointer (some ⟨W.heap.size, 0, none⟩)), (29, .agg #[d.c0, d.c1, d.c2]), (30, er)] (by kernel_rfl) fun u => Q3 u _ (hW.alloc hW.size _) V0 V1 d er hV hE h3 (hck.alloc _) _ (row3_alloc W _ _ _ _) hW.size (Or.inr hck.size))
  have Q2 : ∀ (u : Nat → Value) (W : World) (hW : Below B.heap.size B W) (x : C3) (y : C3) (hx : GA W x) (hy : GB W y) (g : Nat) (hg : W.rowIs g 26 3 (row3 (.int .i64 0) (.slice none 0 0) (.slice none 0 0))) (hgb : B.heap.size ≤ g), wpS Tryz.prog lj2Ops Q (fun W => Below B.heap.size B W) (unl 11 [4, 5, 6, 7, 9, 10], frL u 205 [(4, .pointer (some ⟨R, 0, none⟩)), (6, .pointer (some ⟨g, 0, none⟩)), (24, .agg #[c.c0, c.c1, c.c2]), (25, .agg #[x.c0, x.c1, x.c2]), (26, .agg #[c2.c0, c2.c1, c2.c2]), (27, .agg #[y.c0, y.c1, y.c2])]) [] W := by
    intro u W hW x y hx hy g hg hgb
    refine T_one 4 (by kernel_rfl) fun _ => ?_
    refine O_go (HK W x y hW hx hy) (by kernel_rfl) ?_
    rintro e W1 ⟨hb1, d, er, rfl, h3, hE⟩
    exact ⟨_, rfl, below_onf hW hb1, T_z hq [5, 6, 7] (by kernel_rfl) (T_fr 11 205 [9, 10] [(4, .pointer (some ⟨R, 0, none⟩)), (6, .pointer (some ⟨g, 0, none⟩)), (29, .agg #[d.c0, d.c1, d.c2]), (30, er)] (by kernel_rfl) fun u => Q3 u W1 (below_onf hW hb1) W W1 d er hW hE h3 (CKj.refl _ _) g (hg.of_block (hb1.block _ hg.lt)) hgb (Or.inl hg.lt))⟩
  have P2 : ∀ (u : Nat → Value) (W : World) (hW : Below B.heap.size B W) (x : C3) (y : C3) (hx : GA W x) (hy : GB W y), wpS Tryz.prog lj2Ops Q (fun W => Below B.heap.size B W) (unl 11 [4, 5, 6, 7, 8, 9, 10], frL u 205 [(4, .pointer (some ⟨R, 0, none⟩)), (24, .agg #[c.c0, c.c1, c.c2]), (25, .agg #[x.c0, x.c1, x.c2]), (26, .agg #[c2.c0, c2.c1, c2.c2]), (27, .agg #[y.c0, y.c1, y.c2])]) [] W := by
    intro u W hW x y hx hy
    refine T_two 4 8 (by kernel_rfl) (fun _ => ?_) fun _ => ?_
    · refine O_go (HK W x y hW hx hy) (by kernel_rfl) ?_
      rintro e W1 ⟨hb1, d, er, rfl, h3, hE⟩
      exact ⟨_, rfl, below_onf hW hb1, T_z hq [5, 6, 7] (by kernel_rfl) (T_fr 11 205 [8, 9, 10] [(4, .pointer (some ⟨R, 0, none⟩)), (29, .agg #[d.c0, d.c1, d.c2]), (30, er)] (by kernel_rfl) fun u => P3 u W1 (below_onf hW hb1) W W1 d er hW hE h3 (CKj.refl _ _))⟩
    · exact O_val (w' := W.alloc (.cells #[.int .i64 0, .slice none 0 0, .slice none 0 0] 26)) (some 6) (.pointer (some ⟨W.heap.size, 0, none⟩)) (by kernel_rfl) (by kernel_rfl) (hW.alloc hW.size _) (T_fr 11 205 [4, 5, 6, 7, 9, 10] [(4, .pointer (some ⟨R, 0, none⟩)), (6, .pointer (some ⟨W.heap.size, 0, none⟩)), (24, .agg #[c.c0, c.c1, c.c2]), (25, .agg #[x.c0, x.c1, x.c2]), (26, .agg #[c2.c0, c2.c1, c2.c2]), (27, .agg #[y.c0, y.c1, y.c2])] (by kernel_rfl) fun u => Q2 u _ (hW.alloc hW.size _) x y (GAon _ _ _ ((Below.refl _ _).alloc (Nat.le_refl _) _) hx) (GBon _ _ _ ((Below.refl _ _).alloc (Nat.le_refl _) _) hy) _ (row3_alloc W _ _ _ _) hW.size)
  have Q1 : ∀ (u : Nat → Value) (W : World) (hW : Below B.heap.size B W) (x : C3) (hx : GA W x) (g : Nat) (hg : W.rowIs g 26 3 (row3 (.int .i64 0) (.slice none 0 0) (.slice none 0 0))) (hgb : B.heap.size ≤ g), wpS Tryz.prog lj2Ops Q (fun W => Below B.heap.size B W) (unl 11 [3, 4, 5, 6, 7, 9, 10], frL u 205 [(4, .pointer (some ⟨R, 0, none⟩)), (6, .pointer (some ⟨g, 0, none⟩)), (24, .agg #[c.c0, c.c1, c.c2]), (25, .agg #[x.c0, x.c1, x.c2]), (26, .agg #[c2.c0, c2.c1, c2.c2])]) [] W := by
    intro u W hW x hx g hg hgb
    refine T_one 3 (by kernel_rfl) fun _ => ?_
    refine O_go (HKy W hW) (by kernel_rfl) ?_
    rintro e W1 ⟨hb1, y, rfl, hn⟩
    exact ⟨_, rfl, below_onf hW hb1, (T_fr 11 205 [4, 5, 6, 7, 9, 10] [(4, .pointer (some ⟨R, 0, none⟩)), (6, .pointer (some ⟨g, 0, none⟩)), (24, .agg #[c.c0, c.c1, c.c2]), (25, .agg #[x.c0, x.c1, x.c2]), (26, .agg #[c2.c0, c2.c1, c2.c2]), (27, .agg #[y.c0, y.c1, y.c2])] (by kernel_rfl) fun u => Q2 u W1 (below_onf hW hb1) x y (GAon _ _ _ hb1 hx) hn g (hg.of_block (hb1.block _ hg.lt)) hgb)⟩
  have P1 : ∀ (u : Nat → Value) (W : World) (hW : Below B.heap.size B W) (x : C3) (hx : GA W x), wpS Tryz.prog lj2Ops Q (fun W => Below B.heap.size B W) (unl 11 [3, 4, 5, 6, 7, 8, 9, 10], frL u 205 [(4, .pointer (some ⟨R, 0, none⟩)), (24, .agg #[c.c0, c.c1, c.c2]), (25, .agg #[x.c0, x.c1, x.c2]), (26, .agg #[c2.c0, c2.c1, c2.c2])]) [] W := by
    intro u W hW x hx
    refine T_two 3 8 (by kernel_rfl) (fun _ => ?_) fun _ => ?_
    · refine O_go (HKy W hW) (by kernel_rfl) ?_
      rintro e W1 ⟨hb1, y, rfl, hn⟩
      exact ⟨_, rfl, below_onf hW hb1, (T_fr 11 205 [4, 5, 6, 7, 8, 9, 10] [(4, .pointer (some ⟨R, 0, none⟩)), (24, .agg #[c.c0, c.c1, c.c2]), (25, .agg #[x.c0, x.c1, x.c2]), (26, .agg #[c2.c0, c2.c1, c2.c2]), (27, .agg #[y.c0, y.c1, y.c2])] (by kernel_rfl) fun u => P2 u W1 (below_onf hW hb1) x y (GAon _ _ _ hb1 hx) hn)⟩
    · exact O_val (w' := W.alloc (.cells #[.int .i64 0, .slice none 0 0, .slice none 0 0] 26)) (some 6) (.pointer (some ⟨W.heap.size, 0, none⟩)) (by kernel_rfl) (by kernel_rfl) (hW.alloc hW.size _) (T_fr 11 205 [3, 4, 5, 6, 7, 9, 10] [(4, .pointer (some ⟨R, 0, none⟩)), (6, .pointer (some ⟨W.heap.size, 0, none⟩)), (24, .agg #[c.c0, c.c1, c.c2]), (25, .agg #[x.c0, x.c1, x.c2]), (26, .agg #[c2.c0, c2.c1, c2.c2])] (by kernel_rfl) fun u => Q1 u _ (hW.alloc hW.size _) x (GAon _ _ _ ((Below.refl _ _).alloc (Nat.le_refl _) _) hx) _ (row3_alloc W _ _ _ _) hW.size)
  have Q0 : ∀ (u : Nat → Value) (W : World) (hW : Below B.heap.size B W)   (g : Nat) (hg : W.rowIs g 26 3 (row3 (.int .i64 0) (.slice none 0 0) (.slice none 0 0))) (hgb : B.heap.size ≤ g), wpS Tryz.prog lj2Ops Q (fun W => Below B.heap.size B W) (unl 11 [1, 3, 4, 5, 6, 7, 9, 10], frL u 205 [(4, .pointer (some ⟨R, 0, none⟩)), (6, .pointer (some ⟨g, 0, none⟩)), (24, .agg #[c.c0, c.c1, c.c2]), (26, .agg #[c2.c0, c2.c1, c2.c2])]) [] W := by
    intro u W hW   g hg hgb
    refine T_one 1 (by kernel_rfl) fun _ => ?_
    refine O_go (HKx W hW) (by kernel_rfl) ?_
    rintro e W1 ⟨hb1, x, rfl, hn⟩
    exact ⟨_, rfl, below_onf hW hb1, (T_fr 11 205 [3, 4, 5, 6, 7, 9, 10] [(4, .pointer (some ⟨R, 0, none⟩)), (6, .pointer (some ⟨g, 0, none⟩)), (24, .agg #[c.c0, c.c1, c.c2]), (25, .agg #[x.c0, x.c1, x.c2]), (26, .agg #[c2.c0, c2.c1, c2.c2])] (by kernel_rfl) fun u => Q1 u W1 (below_onf hW hb1) x  hn g (hg.of_block (hb1.block _ hg.lt)) hgb)⟩
  have P0 : ∀ (u : Nat → Value) (W : World) (hW : Below B.heap.size B W)  , wpS Tryz.prog lj2Ops Q (fun W => Below B.heap.size B W) (unl 11 [1, 3, 4, 5, 6, 7, 8, 9, 10], frL u 205 [(4, .pointer (some ⟨R, 0, none⟩)), (24, .agg #[c.c0, c.c1, c.c2]), (26, .agg #[c2.c0, c2.c1, c2.c2])]) [] W := by
    intro u W hW  
    refine T_two 1 8 (by kernel_rfl) (fun _ => ?_) fun _ => ?_
    · refine O_go (HKx W hW) (by kernel_rfl) ?_
      rintro e W1 ⟨hb1, x, rfl, hn⟩
      exact ⟨_, rfl, below_onf hW hb1, (T_fr 11 205 [3, 4, 5, 6, 7, 8, 9, 10] [(4, .pointer (some ⟨R, 0, none⟩)), (24, .agg #[c.c0, c.c1, c.c2]), (25, .agg #[x.c0, x.c1, x.c2]), (26, .agg #[c2.c0, c2.c1, c2.c2])] (by kernel_rfl) fun u => P1 u W1 (below_onf hW hb1) x  hn)⟩
    · exact O_val (w' := W.alloc (.cells #[.int .i64 0, .slice none 0 0, .slice none 0 0] 26)) (some 6) (.pointer (some ⟨W.heap.size, 0, none⟩)) (by kernel_rfl) (by kernel_rfl) (hW.alloc hW.size _) (T_fr 11 205 [1, 3, 4, 5, 6, 7, 9, 10] [(4, .pointer (some ⟨R, 0, none⟩)), (6, .pointer (some ⟨W.heap.size, 0, none⟩)), (24, .agg #[c.c0, c.c1, c.c2]), (26, .agg #[c2.c0, c2.c1, c2.c2])] (by kernel_rfl) fun u => Q0 u _ (hW.alloc hW.size _)   _ (row3_alloc W _ _ _ _) hW.size)
  refine T_a hq [0, 2] (fun w' h => .cons (ldRowJ hA h) (.cons (ldRowJ hC h) Lds.nil)) (by kernel_rfl) ?_
  exact T_fr 11 205 [1, 3, 4, 5, 6, 7, 8, 9, 10] [(4, .pointer (some ⟨R, 0, none⟩)), (24, .agg #[c.c0, c.c1, c.c2]), (26, .agg #[c2.c0, c2.c1, c2.c2])] (by kernel_rfl) fun u => P0 u _ (Below.refl _ _)
def kp_lj14 (z : Nat → Value) : List (Nat × Value) := [0, 1, 4, 5, 6, 7, 8, 9, 10, 15, 16, 17, 18, 19, 20, 21, 22, 23, 24, 25, 26, 27, 28, 29, 30, 31, 32, 33, 34, 35, 36, 37, 38, 39, 40, 41, 42, 43, 44, 45, 46, 47, 48, 49, 50, 51, 52, 53, 54, 55, 56, 57, 58, 59, 60, 61, 62, 63, 64, 65, 66, 67, 68, 69, 70, 71, 72, 73, 74, 75, 90, 91, 92, 93, 94, 95, 96, 97, 98, 99, 100, 101, 102, 103, 104, 105, 106, 107, 108, 109, 110, 111, 112, 113, 114, 115, 116, 117, 118, 119, 120, 121, 122, 123, 124, 125, 126, 127, 128, 129, 130, 131, 132, 133, 134, 135, 136, 137, 138, 139, 140, 141, 142, 143, 144, 145, 146, 147, 148, 149, 150, 151, 152, 153, 154, 155, 156, 157, 158, 159, 160, 161, 162, 163, 164, 165, 166, 167, 168, 169, 170, 171, 172, 173, 174, 175, 176, 177, 178, 179, 180, 181, 182, 183, 184, 185, 186, 187, 188, 189, 190, 191, 192, 193, 194, 195, 196, 197, 198, 199, 200, 201, 202, 203, 204].map fun i => (i, z i)
noncomputable def lj14Ops : Array Oper := fops Tryz.f23 14
theorem lj14_neat : Region.noSelect lj14Ops = true ∧ neat lj14Ops = true := ⟨by kernel_rfl, by kernel_rfl⟩
set_option maxRecDepth 100000 in
set_option maxHeartbeats 3200000 in
theorem lj14z (z : Nat → Value) (LL : (Nat → Value) → Nat → Value → List Value) (A C : Nat) (c c2 : C3) (q3 x : C3) (xb xo xn xc yb yo yn yc i j : Nat) (E : World → World → C3 → Value → Prop) (W0 : World) {l : List Value} (Q : Exit → Act → World → Prop) (hQ : ∀ c a d v w, Q (.panic c) (Act.put a d v) w → Q (.panic c) a w) (hA : W0.drew.rowIs A 26 3 (row3 c.c0 c.c1 c.c2)) (hC : W0.drew.rowIs C 26 3 (row3 c2.c0 c2.c1 c2.c2)) (hc1 : c.c2 = .slice (some ⟨xb, xo, none⟩) xn xc) (hc2 : c2.c2 = .slice (some ⟨yb, yo, none⟩) yn yc) (hx : K3 W0.drew xb (xo + i * 3) q3) (hy : K3 W0.drew yb (yo + j * 3) x) (hi : i < xn) (hj : j < yn)
    (HK : ∀ W, Below W0.drew.heap.size W0.drew W → Calls Tryz.prog 23 #[.agg #[q3.c0, q3.c1, q3.c2], .agg #[x.c0, x.c1, x.c2]] W fun e w' => Below W.heap.size W w' ∧ ∃ (d : C3) (er : Value), e = .returned (.tuple #[.agg #[d.c0, d.c1, d.c2], er]) ∧ Any3 d ∧ E W w' d er)
    (hl : lookL (kp_lj14 z ++ [(2, .pointer (some ⟨A, 0, none⟩)), (3, .pointer (some ⟨C, 0, none⟩)), (11, .int .i64 (i : Nat)), (12, .int .i64 (j : Nat))]) l = (205, ((kp_lj14 z ++ [(2, .pointer (some ⟨A, 0, none⟩)), (3, .pointer (some ⟨C, 0, none⟩)), (11, .int .i64 (i : Nat)), (12, .int .i64 (j : Nat))]) : List (Nat × Value)).map (·.2)))
    (hfr : ∀ (u : Nat → Value) (g : Nat) (er : Value), frL u 205 (kp_lj14 z ++ [(2, .pointer (some ⟨A, 0, none⟩)), (3, .pointer (some ⟨C, 0, none⟩)), (11, .int .i64 (i : Nat)), (12, .int .i64 (j : Nat)), (13, .pointer (some ⟨g, 0, none⟩)), (14, er)]) = LL u g er)
    (hend : ∀ (u : Nat → Value) (V0 V1 W : World) (d : C3) (er : Value) (g : Nat), Below W0.drew.heap.size W0.drew V0 → E V0 V1 d er → Below W0.drew.heap.size W0.drew W → CKj V0 V1 W → W.rowIs g 26 3 (row3 d.c0 d.c1 d.c2) → W0.drew.heap.size ≤ g → (g < V0.heap.size ∨ V1.heap.size ≤ g) → Q .normal ⟨(LL u g er).toArray, []⟩ W) : (Code.region 14 lj14Ops true).wp Tryz.prog Q ⟨l.toArray, []⟩ W0 := by
  obtain ⟨v0, rfl⟩ := look_fr hl
  have hq : NtQ lj14Ops Q := ⟨lj14_neat, hQ⟩
  refine T_start (S := fun W => Below W0.drew.heap.size W0.drew W) (by kernel_rfl) (Below.refl _ _) ?_
  clear hl hQ
  generalize W0.drew = B at hA hC hx hy HK hend ⊢
  have Q1 : ∀ (u : Nat → Value) (W : World) (hW : Below B.heap.size B W) (V0 V1 : World) (d : C3) (er : Value) (hV : Below B.heap.size B V0) (hE : E V0 V1 d er) (h3 : Any3 d) (hck : CKj V0 V1 W) (g : Nat) (hg : W.rowIs g 26 3 (row3 (.int .i64 0) (.slice none 0 0) (.slice none 0 0))) (hgb : B.heap.size ≤ g) (hap : g < V0.heap.size ∨ V1.heap.size ≤ g), wpS Tryz.prog lj14Ops Q (fun W => Below B.heap.size B W) (unl 17 [15, 16], frL u 205 (kp_lj14 z ++ [(2, .pointer (some ⟨A, 0, none⟩)), (3, .pointer (some ⟨C, 0, none⟩)), (11, .int .i64 (i : Nat)), (12, .int .i64 (j : Nat)), (13, .pointer (some ⟨g, 0, none⟩)), (88, .agg #[d.c0, d.c1, d.c2]), (89, er)])) [] W := by
    intro u W hW V0 V1 d er hV hE h3 hck g hg hgb hap
    refine T_one 15 (by kernel_rfl) fun _ => ?_
    have hs3 := set3f W g d.c0 d.c1 d.c2
    have hW2 := below_boxf hW hgb hs3.1
    refine O_store_mid none 26 (.tmp 13) (.tmp 88) g 0 #[d.c0, d.c1, d.c2] (by kernel_rfl) (by kernel_rfl) (by kernel_rfl) (there3f hg) sizeKd (h3.one) hW2 ?_
    refine T_z hq [16] (by kernel_rfl) ?_
    exact T_end 205 (kp_lj14 z ++ [(2, .pointer (some ⟨A, 0, none⟩)), (3, .pointer (some ⟨C, 0, none⟩)), (11, .int .i64 (i : Nat)), (12, .int .i64 (j : Nat)), (13, .pointer (some ⟨g, 0, none⟩)), (14, er)]) (by kernel_rfl) (by kernel_rfl) fun _ u => by rw [hfr]; exact hend u V0 V1 _ d er g hV hE hW2 (hck.but hs3.1 hap) (hs3.2 _ _ hg) hgb hap
  have P1 : ∀ (u : Nat → Value) (W : World) (hW : Below B.heap.size B W) (V0 V1 : World) (d : C3) (er : Value) (hV : Below B.heap.size B V0) (hE : E V0 V1 d er) (h3 : Any3 d) (hck : CKj V0 V1 W), wpS Tryz.prog lj14Ops Q (fun W => Below B.heap.size B W) (unl 17 [14, 15, 16], frL u 205 (kp_lj14 z ++ [(2, .pointer (some ⟨A, 0, none⟩)), (3, .pointer (some ⟨C, 0, none⟩)), (11, .int .i64 (i : Nat)), (12, .int .i64 (j : Nat)), (88, .agg #[d.c0, d.c1, d.c2]), (89, er)])) [] W := by
    intro u W hW V0 V1 d er hV hE h3 hck
    refine T_one 14 (by kernel_rfl) fun _ => ?_
    exact O_val (w' := W.alloc (.cells #[.int .i64 0, .slice none 0 0, .slice none 0 0] 26)) (some 13) (.pointer (some ⟨W.heap.size, 0, none⟩)) (by kernel_rfl) (by kernel_rfl) (hW.alloc hW.size _) (T_fr 17 205 [15, 16] (kp_lj14 z ++ [(2, .pointer (some ⟨A, 0, none⟩)), (3, .pointer (some ⟨C, 0, none⟩)), (11, .int .i64 (i : Nat)), (12, .int .i64 (j : Nat)), (13, .pointer (some ⟨W.heap.size, 0, none⟩)), (88, .agg #[d.c0, d.c1, d.c2]), (89, er)]) (by kernel_rfl) fun u => Q1 u _ (hW.alloc hW.size _) V0 V1 d er hV hE h3 (hck.alloc _) _ (row3_alloc W _ _ _ _) hW.size (Or.inr hck.size))
  have Q0 : ∀ (u : Nat → Value) (W : World) (hW : Below B.heap.size B W)   (g : Nat) (hg : W.rowIs g 26 3 (row3 (.int .i64 0) (.slice none 0 0) (.slice none 0 0))) (hgb : B.heap.size ≤ g), wpS Tryz.prog lj14Ops Q (fun W => Below B.heap.size B W) (unl 17 [10, 11, 12, 13, 15, 16], frL u 205 (kp_lj14 z ++ [(2, .pointer (some ⟨A, 0, none⟩)), (3, .pointer (some ⟨C, 0, none⟩)), (11, .int .i64 (i : Nat)), (12, .int .i64 (j : Nat)), (13, .pointer (some ⟨g, 0, none⟩)), (81, .agg #[q3.c0, q3.c1, q3.c2]), (86, .agg #[x.c0, x.c1, x.c2])])) [] W := by
    intro u W hW   g hg hgb
    refine T_one 10 (by kernel_rfl) fun _ => ?_
    refine O_go (HK W hW) (by kernel_rfl) ?_
    rintro e W1 ⟨hb1, d, er, rfl, h3, hE⟩
    exact ⟨_, rfl, below_onf hW hb1, T_z hq [11, 12, 13] (by kernel_rfl) (T_fr 17 205 [15, 16] (kp_lj14 z ++ [(2, .pointer (some ⟨A, 0, none⟩)), (3, .pointer (some ⟨C, 0, none⟩)), (11, .int .i64 (i : Nat)), (12, .int .i64 (j : Nat)), (13, .pointer (some ⟨g, 0, none⟩)), (88, .agg #[d.c0, d.c1, d.c2]), (89, er)]) (by kernel_rfl) fun u => Q1 u W1 (below_onf hW hb1) W W1 d er hW hE h3 (CKj.refl _ _) g (hg.of_block (hb1.block _ hg.lt)) hgb (Or.inl hg.lt))⟩
  have P0 : ∀ (u : Nat → Value) (W : World) (hW : Below B.heap.size B W)  , wpS Tryz.prog lj14Ops Q (fun W => Below B.heap.size B W) (unl 17 [10, 11, 12, 13, 14, 15, 16], frL u 205 (kp_lj14 z ++ [(2, .pointer (some ⟨A, 0, none⟩)), (3, .pointer (some ⟨C, 0, none⟩)), (11, .int .i64 (i : Nat)), (12, .int .i64 (j : Nat)), (81, .agg #[q3.c0, q3.c1, q3.c2]), (86, .agg #[x.c0, x.c1, x.c2])])) [] W := by
    intro u W hW  
    refine T_two 10 14 (by kernel_rfl) (fun _ => ?_) fun _ => ?_
    · refine O_go (HK W hW) (by kernel_rfl) ?_
      rintro e W1 ⟨hb1, d, er, rfl, h3, hE⟩
      exact ⟨_, rfl, below_onf hW hb1, T_z hq [11, 12, 13] (by kernel_rfl) (T_fr 17 205 [14, 15, 16] (kp_lj14 z ++ [(2, .pointer (some ⟨A, 0, none⟩)), (3, .pointer (some ⟨C, 0, none⟩)), (11, .int .i64 (i : Nat)), (12, .int .i64 (j : Nat)), (88, .agg #[d.c0, d.c1, d.c2]), (89, er)]) (by kernel_rfl) fun u => P1 u W1 (below_onf hW hb1) W W1 d er hW hE h3 (CKj.refl _ _))⟩
    · exact O_val (w' := W.alloc (.cells #[.int .i64 0, .slice none 0 0, .slice none 0 0] 26)) (some 13) (.pointer (some ⟨W.heap.size, 0, none⟩)) (by kernel_rfl) (by kernel_rfl) (hW.alloc hW.size _) (T_fr 17 205 [10, 11, 12, 13, 15, 16] (kp_lj14 z ++ [(2, .pointer (some ⟨A, 0, none⟩)), (3, .pointer (some ⟨C, 0, none⟩)), (11, .int .i64 (i : Nat)), (12, .int .i64 (j : Nat)), (13, .pointer (some ⟨W.heap.size, 0, none⟩)), (81, .agg #[q3.c0, q3.c1, q3.c2]), (86, .agg #[x.c0, x.c1, x.c2])]) (by kernel_rfl) fun u => Q0 u _ (hW.alloc hW.size _)   _ (row3_alloc W _ _ _ _) hW.size)
  refine T_z hq [0, 2, 5, 7] (by kernel_rfl) ?_
  refine T_a hq [1, 6] (fun w' h => .cons (ldCellJ hA hc1 h) (.cons (ldCellJ hC hc2 h) Lds.nil)) (by kernel_rfl) ?_
  refine T_yld hq 3 (some 80) (.pointer (some ⟨xb, xo + i * 3, none⟩)) (by kernel_rfl) (by kernel_rfl) (fun w _ => ixKdJ (n := xn) (cap := xc) (i := i) (X := .tmp 78) (I := .tmp 79) (by kernel_rfl) (by kernel_rfl) (by kernel_rfl) hi w) ?_
  refine T_yld hq 8 (some 85) (.pointer (some ⟨yb, yo + j * 3, none⟩)) (by kernel_rfl) (by kernel_rfl) (fun w _ => ixKdJ (n := yn) (cap := yc) (i := j) (X := .tmp 83) (I := .tmp 84) (by kernel_rfl) (by kernel_rfl) (by kernel_rfl) hj w) ?_
  refine T_a hq [4, 9] (fun w' h => .cons (K3.ld hx h) (.cons (K3.ld hy h) Lds.nil)) (by kernel_rfl) ?_
  exact T_fr 17 205 [10, 11, 12, 13, 14, 15, 16] (kp_lj14 z ++ [(2, .pointer (some ⟨A, 0, none⟩)), (3, .pointer (some ⟨C, 0, none⟩)), (11, .int .i64 (i : Nat)), (12, .int .i64 (j : Nat)), (81, .agg #[q3.c0, q3.c1, q3.c2]), (86, .agg #[x.c0, x.c1, x.c2])]) (by kernel_rfl) fun u => P0 u _ (Below.refl _ _)
theorem lj14 (A C : Nat) (c c2 : C3) (q3 x : C3) (xb xo xn xc yb yo yn yc i j : Nat) (E : World → World → C3 → Value → Prop) (W0 : World) {l : List Value} (Q : Exit → Act → World → Prop) (hQ : ∀ c a d v w, Q (.panic c) (Act.put a d v) w → Q (.panic c) a w) (hA : W0.drew.rowIs A 26 3 (row3 c.c0 c.c1 c.c2)) (hC : W0.drew.rowIs C 26 3 (row3 c2.c0 c2.c1 c2.c2)) (hc1 : c.c2 = .slice (some ⟨xb, xo, none⟩) xn xc) (hc2 : c2.c2 = .slice (some ⟨yb, yo, none⟩) yn yc) (hx : K3 W0.drew xb (xo + i * 3) q3) (hy : K3 W0.drew yb (yo + j * 3) x) (hi : i < xn) (hj : j < yn)
    (HK : ∀ W, Below W0.drew.heap.size W0.drew W → Calls Tryz.prog 23 #[.agg #[q3.c0, q3.c1, q3.c2], .agg #[x.c0, x.c1, x.c2]] W fun e w' => Below W.heap.size W w' ∧ ∃ (d : C3) (er : Value), e = .returned (.tuple #[.agg #[d.c0, d.c1, d.c2], er]) ∧ Any3 d ∧ E W w' d er)
    (hl : lookL (kp_lj14 (fun i => l.getD i undef) ++ [(2, .pointer (some ⟨A, 0, none⟩)), (3, .pointer (some ⟨C, 0, none⟩)), (11, .int .i64 (i : Nat)), (12, .int .i64 (j : Nat))]) l = (205, ((kp_lj14 (fun i => l.getD i undef) ++ [(2, .pointer (some ⟨A, 0, none⟩)), (3, .pointer (some ⟨C, 0, none⟩)), (11, .int .i64 (i : Nat)), (12, .int .i64 (j : Nat))]) : List (Nat × Value)).map (·.2)))
    (hfr : ∀ (u : Nat → Value) (g : Nat) (er : Value), frL u 205 (kp_lj14 (fun i => l.getD i undef) ++ [(2, .pointer (some ⟨A, 0, none⟩)), (3, .pointer (some ⟨C, 0, none⟩)), (11, .int .i64 (i : Nat)), (12, .int .i64 (j : Nat)), (13, .pointer (some ⟨g, 0, none⟩)), (14, er)]) = l.take 13 ++ (.pointer (some ⟨g, 0, none⟩) :: er :: ((l.drop 15).take 61 ++ (u 76 :: u 77 :: u 78 :: u 79 :: u 80 :: u 81 :: u 82 :: u 83 :: u 84 :: u 85 :: u 86 :: u 87 :: u 88 :: u 89 :: l.drop 90))))
    (hend : ∀ (u : Nat → Value) (V0 V1 W : World) (d : C3) (er : Value) (g : Nat), Below W0.drew.heap.size W0.drew V0 → E V0 V1 d er → Below W0.drew.heap.size W0.drew W → CKj V0 V1 W → W.rowIs g 26 3 (row3 d.c0 d.c1 d.c2) → W0.drew.heap.size ≤ g → (g < V0.heap.size ∨ V1.heap.size ≤ g) → Q .normal ⟨(l.take 13 ++ (.pointer (some ⟨g, 0, none⟩) :: er :: ((l.drop 15).take 61 ++ (u 76 :: u 77 :: u 78 :: u 79 :: u 80 :: u 81 :: u 82 :: u 83 :: u 84 :: u 85 :: u 86 :: u 87 :: u 88 :: u 89 :: l.drop 90)))).toArray, []⟩ W) : (Code.region 14 lj14Ops true).wp Tryz.prog Q ⟨l.toArray, []⟩ W0 :=
  lj14z (fun i => l.getD i undef) (fun u g er => l.take 13 ++ (.pointer (some ⟨g, 0, none⟩) :: er :: ((l.drop 15).take 61 ++ (u 76 :: u 77 :: u 78 :: u 79 :: u 80 :: u 81 :: u 82 :: u 83 :: u 84 :: u 85 :: u 86 :: u 87 :: u 88 :: u 89 :: l.drop 90)))) A C c c2 q3 x xb xo xn xc yb yo yn yc i j E W0 Q hQ hA hC hc1 hc2 hx hy hi hj HK hl hfr hend
end Go.Proofs.YtenpghndgdemnaaGreatDoor
