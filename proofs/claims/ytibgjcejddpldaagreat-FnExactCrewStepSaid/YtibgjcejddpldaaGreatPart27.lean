/- A part. -/
import Derived.Test.YtibgjcejddpldaaGreatPart26
import Derived.Test.YtibgjcejddpldaaGreatPart22
namespace Go.Proofs.YtibgjcejddpldaaGreat
open Go Go.RowKit
set_option maxRecDepth 100000
set_option maxHeartbeats 3200000
theorem modStep {f n : Nat} (hf : f < n) (hn : n ≤ 1000) : IntKind.i64.wrap ((f : Int) + 1) = ((f + 1 : Nat) : Int) ∧ ((f + 1 : Nat) : Int).tmod (n : Int) = (((f + 1) % n : Nat) : Int) := by
 obtain ⟨h1, h2⟩ := ring_mod (f := f) (i := 1) (n := n) (by omega)
 exact ⟨h1, h2⟩
theorem takeI_any (b p n : Nat) (l : List Int) (s z : Int) (w : World) (h : RgAt w b p n (z :: l) s) : Calls Tryz.prog 145 #[.pointer (some ⟨b, 0, none⟩)] w fun e w' => e = .returned (.int .i64 z) ∧ RgAt w' b p n l s ∧ Exc [b] w w' := by
 have hne := h.ne
 obtain ⟨⟨f, g, hf, hb, hp, hg⟩, hle, hsm⟩ := h
 rw [List.length_cons] at hle
 have hgf : g f = z := by
  have := hg 0 (by simp)
  rw [Nat.add_zero, Nat.mod_eq_of_lt hf] at this
  exact this
 obtain ⟨hw0, hrem⟩ := modStep hf (by omega)
 have hmn : (f + 1) % n < n := Nat.mod_lt _ (by omega)
 have hn0 : ¬ (n = 0) := by omega
 have hn1 : ¬ ((n : Int) = 0) := by omega
 have hf' : (f : Int) < (n : Int) := by omega
 obtain ⟨kk, hkk⟩ : ∃ kk : Int, kk = ((l.length + 1 : Nat) : Int) := ⟨_, rfl⟩
 have hw1 : IntKind.i64.wrap (kk - 1) = (l.length : Int) := by rw [IntKind.wrap_i64]; omega
 have hb2 : w.rowIs b 102 4 (rg4 (.slice (some ⟨p, 0, none⟩) n n) f kk s) := by rw [hkk]; exact hb
 have HEND := xH (show ∀ W, W.rowIs b 102 4 (rg4 (.slice (some ⟨p, 0, none⟩) n n) ((f + 1) % n : Nat) (l.length : Nat) s) → W.heap[p]? = w.heap[p]? → RgAt W b p n l s from fun W h1 h2 => by
  refine ⟨⟨(f + 1) % n, g, hmn, h1, hp.of_block h2, fun i hi => ?_⟩, by omega, hsm⟩
  have := hg (i + 1) (by simp; omega)
  rw [Nat.mod_add_mod, Nat.add_assoc, Nat.add_comm 1 i, this]
  rfl)
 have HR := xH (fun m => (show (w.drewN m).rowIs b 102 4 (rg4 (.slice (some ⟨p, 0, none⟩) n n) f kk s) from hb2.of_block ((below_drewN w m).block b hb2.lt)))
 have HB := xH (fun m => below_drewN w m)
 have HPL := xH hp.lt
 have HNE := xH hne
 obtain ⟨c0, c1⟩ := cs2 hb2 (by omega)
 simp only [rg4, List.getD_cons_zero, List.getD_cons_succ] at c0 c1
 have cp := hp.cell (i := f) hf
 rw [hgf] at cp
 clear hb hb2 hp hg hgf hkk hle hsm hne
 generalize (f + 1) % n = q at hrem hmn HEND
 generalize f + 1 = fd at hw0 hrem
 generalize l.length = k at hw1 HEND
 go_enter Tryz.func145, Tryz.ntmps145
 go_wp2_with fail
 go_quiet (fail)
 have hr := xU HR nq
 have hbq := xU HB nq
 clear c0 c1 cp HR HB
 generalize w.drewN nq = W at hr hbq ⊢
 obtain ⟨c0, c1⟩ := cs2 hr (by omega); have f1 := hr.frozen 1
 simp only [rg4, List.getD_cons_zero, List.getD_cons_succ] at c0 c1
 have HR := xH hr; have HBQ := xH hbq
 clear hr hbq
 go_wp2_with fail
 go_region
 clear c0 c1 f1
 have hr2 : ((W.setCell ⟨b, 1, none⟩ (.int .i64 (q : Int))).drew).rowIs b 102 4 (rg4 (.slice (some ⟨p, 0, none⟩) n n) (q : Nat) kk s) := by
  refine ((xU HR).set 1 (.int .i64 (q : Int))).drew.congr fun i hi => ?_
  rcases (show i = 0 ∨ i = 1 ∨ i = 2 ∨ i = 3 by omega) with rfl | rfl | rfl | rfl <;> rfl
 have hx2 : Exc [b] w ((W.setCell ⟨b, 1, none⟩ (.int .i64 (q : Int))).drew) := ((Exc.of_below (xU HBQ)).trans (Exc.set _ b 1 _ (by simp))).trans (Exc.of_below (Below.refl _ _).drew)
 generalize (W.setCell ⟨b, 1, none⟩ (.int .i64 (q : Int))).drew = V at hr2 hx2 ⊢
 have c2 := hr2.cell (i := 2) (by omega); have f2 := hr2.frozen 2
 simp only [rg4, List.getD_cons_zero, List.getD_cons_succ] at c2
 have HR2 := xH hr2; have HX2 := xH hx2
 clear hr2 hx2 HR
 go_wp2_with fail
 go_ret
 refine ⟨rfl, xU HEND _ ?_ ?_, (xU HX2).trans (Exc.set _ b 2 _ (by simp))⟩
 · refine ((xU HR2).set 2 (.int .i64 (k : Int))).congr fun i hi => ?_
   rcases (show i = 0 ∨ i = 1 ∨ i = 2 ∨ i = 3 by omega) with rfl | rfl | rfl | rfl <;> rfl
 · rw [Below.heap_setCell _ _ _ _ (Ne.symm (xU HNE))]
   exact (xU HX2).block p (xU HPL) (by simpa using Ne.symm (xU HNE))
theorem closeI_any (b : Nat) (w : World) (h : w.cell? ⟨b, 3, none⟩ = some (.int .i64 0)) (hf : w.frozen? ⟨b, 3, none⟩ = false) : Calls Tryz.prog 144 #[.pointer (some ⟨b, 0, none⟩)] w fun e w' => e = .returned (.tuple #[]) ∧ w' = w.setCell ⟨b, 3, none⟩ (.int .i64 1) := by
 go_enter Tryz.func144, Tryz.ntmps144
 go_wp2_with fail
 go_end0
 exact ⟨rfl, rfl⟩
theorem takeP_any (b p n f : Nat) (r s : Int) (w : World) (h : w.rowIs b 100 4 (rg4 (.slice (some ⟨p, 0, none⟩) n n) f r s)) (hf : f < n) (hsm : n ≤ 16) (hr0 : 0 < r) (hr1 : r ≤ 1000) : Calls Tryz.prog 143 #[.pointer (some ⟨b, 0, none⟩)] w fun e w' => e = .returned (.agg #[]) ∧ w'.rowIs b 100 4 (rg4 (.slice (some ⟨p, 0, none⟩) n n) ((f + 1) % n : Nat) (r - 1) s) ∧ Exc [b] w w' := by
 obtain ⟨hw0, hrem⟩ := modStep hf (by omega)
 have hmn : (f + 1) % n < n := Nat.mod_lt _ (by omega)
 have hn0 : ¬ (n = 0) := by omega
 have hn1 : ¬ ((n : Int) = 0) := by omega
 have hf' : (f : Int) < (n : Int) := by omega
 have hw1 : IntKind.i64.wrap (r - 1) = r - 1 := by rw [IntKind.wrap_i64]; omega
 have HR0 := xH (h.alloc (.cells #[] 106))
 have HX0 := xH (show Exc [b] w (w.alloc (.cells #[] 106)) from Exc.of_below ((Below.refl _ _).alloc (Nat.le_refl _) _))
 clear h hr0 hr1
 generalize (f + 1) % n = q at hrem hmn ⊢
 generalize f + 1 = fd at hw0 hrem
 go_enter Tryz.func143, Tryz.ntmps143
 go_upto_region 1 with fail
 generalize w.alloc (.cells #[] 106) = W at HR0 HX0 ⊢
 obtain ⟨c0, c1⟩ := cs2 ((xU HR0)) (by omega)
 have d0 := ((xU HR0).alloc (.cells #[] 106)).cell (i := 0) (by omega); have d1 := ((xU HR0).alloc (.cells #[] 106)).cell (i := 1) (by omega)
 simp only [rg4, List.getD_cons_zero, List.getD_cons_succ] at c0 c1 d0 d1
 go_region
 clear c0 c1 d0 d1
 have hrV := ((xU HR0).alloc (.cells #[] 106)).drew
 have hxV : Exc [b] w ((W.alloc (.cells #[] 106)).drew) := ((xU HX0).trans (Exc.of_below ((Below.refl _ _).alloc (Nat.le_refl _) _))).trans (Exc.of_below (Below.refl _ _).drew)
 generalize (W.alloc (.cells #[] 106)).drew = V at hrV hxV ⊢
 obtain ⟨c0, c1⟩ := cs2 hrV (by omega); have f1 := hrV.frozen 1
 simp only [rg4, List.getD_cons_zero, List.getD_cons_succ] at c0 c1
 have HRV := xH hrV; have HXV := xH hxV
 clear hrV hxV HR0 HX0
 go_wp2_with fail
 go_region
 clear c0 c1 f1
 have hr2 : ((V.setCell ⟨b, 1, none⟩ (.int .i64 (q : Int))).drew).rowIs b 100 4 (rg4 (.slice (some ⟨p, 0, none⟩) n n) (q : Nat) r s) := by
  refine ((xU HRV).set 1 (.int .i64 (q : Int))).drew.congr fun i hi => ?_
  rcases (show i = 0 ∨ i = 1 ∨ i = 2 ∨ i = 3 by omega) with rfl | rfl | rfl | rfl <;> rfl
 have hx2 : Exc [b] w ((V.setCell ⟨b, 1, none⟩ (.int .i64 (q : Int))).drew) := ((xU HXV).trans (Exc.set _ b 1 _ (by simp))).trans (Exc.of_below (Below.refl _ _).drew)
 generalize (V.setCell ⟨b, 1, none⟩ (.int .i64 (q : Int))).drew = U at hr2 hx2 ⊢
 have c2 := hr2.cell (i := 2) (by omega); have f2 := hr2.frozen 2
 simp only [rg4, List.getD_cons_zero, List.getD_cons_succ] at c2
 have HR2 := xH hr2; have HX2 := xH hx2
 clear hr2 hx2 HRV
 go_wp2_with fail
 refine bodyPost_ret (v := .agg #[]) (by kernel_rfl) rfl ⟨rfl, ?_, (xU HX2).trans (Exc.set _ b 2 _ (by simp))⟩
 refine ((xU HR2).set 2 (.int .i64 (r - 1))).congr fun i hi => ?_
 rcases (show i = 0 ∨ i = 1 ∨ i = 2 ∨ i = 3 by omega) with rfl | rfl | rfl | rfl <;> rfl
theorem putP2_any (b p n f : Nat) (r s : Int) (w : World) (h : w.rowIs b 100 4 (rg4 (.slice (some ⟨p, 0, none⟩) n n) f r s)) (hf : f < n) (hsm : n ≤ 16) (hr0 : 0 ≤ r) (hr1 : r ≤ 900) : Calls Tryz.prog 113 #[.pointer (some ⟨b, 0, none⟩), .agg #[]] w fun e w' => e = .returned (.tuple #[]) ∧ w'.rowIs b 100 4 (rg4 (.slice (some ⟨p, 0, none⟩) n n) f (r + 1) s) ∧ Exc [b] w w' := by
 obtain ⟨k, rfl⟩ : ∃ k : Nat, r = k := ⟨r.toNat, by omega⟩
 obtain ⟨hw0, hrem⟩ := ring_mod (f := f) (i := k) (n := n) (by omega)
 have hmn : (f + k) % n < n := Nat.mod_lt _ (by omega)
 have hn0 : ¬ (n = 0) := by omega
 have hn1 : ¬ ((n : Int) = 0) := by omega
 have hw1 : IntKind.i64.wrap ((k : Int) + 1) = (k : Int) + 1 := by rw [IntKind.wrap_i64]; omega
 have HR := xH (h.alloc (.cells #[] 106))
 have HX := xH (show Exc [b] w (w.alloc (.cells #[] 106)) from Exc.of_below ((Below.refl _ _).alloc (Nat.le_refl _) _))
 clear h hr0 hr1
 generalize (f + k) % n = q at hrem hmn
 generalize f + k = fd at hw0 hrem
 go_enter Tryz.func113, Tryz.ntmps113
 go_wp2_with fail
 generalize w.alloc (.cells #[] 106) = W at HR HX ⊢
 generalize w.heap.size = B0
 obtain ⟨b0, b1, b2⟩ := cs3 ((xU HR)) (by omega); have bf := (xU HR).frozen 2
 simp only [rg4, List.getD_cons_zero, List.getD_cons_succ] at b0 b1 b2
 go_region
 have d2 : W.drew.cell? ⟨b, 2, none⟩ = some (.int .i64 k) := b2
 have df : W.drew.frozen? ⟨b, 2, none⟩ = false := bf
 clear b0 b1 b2 bf
 go_wp2_with fail
 go_end0
 refine ⟨rfl, ?_, ((xU HX).trans (Exc.of_below (Below.refl _ _).drew)).trans (Exc.set _ b 2 _ (by simp))⟩
 refine ((xU HR).drew.set 2 (.int .i64 ((k : Int) + 1))).congr fun i hi => ?_
 rcases (show i = 0 ∨ i = 1 ∨ i = 2 ∨ i = 3 by omega) with rfl | rfl | rfl | rfl <;> rfl
theorem ringPlace_any (C : Nat) (c : Cw) (B : CrB) (j : Nat) (w : World) (h : CrAt w C c B) : Calls Tryz.prog 146 #[.pointer (some ⟨C, 0, none⟩), .int .i64 (j : Int)] w fun e w' => e = .returned (.pointer (some ⟨B.G, j % c.ring.length, none⟩)) ∧ Below w.heap.size w w' := by
 have s4 := h.szG
 have hm : (j : Int).tmod (c.ring.length : Int) = ((j % c.ring.length : Nat) : Int) := by
  rw [Int.tmod_eq_emod_of_nonneg (by omega)]
  simp
 have hdl : j % c.ring.length < c.ring.length := Nat.mod_lt _ s4.1
 have hnz : ¬ ((c.ring.length : Int) = 0) := by omega
 have hnz2 : ¬ (c.ring.length = 0) := by omega
 have c8 := h.c8
 have HB := xH (fun m => below_drewN w m)
 clear h s4
 generalize j % c.ring.length = q at hm hdl ⊢
 generalize c.ring.length = n at *
 go_enter Tryz.func146, Tryz.ntmps146
 go_wp2_with fail
 go_quiet (fail)
 go_wp2_with fail
 go_ret
 exact ⟨rfl, xU HB _⟩

def stR (c : Cw) (k : Nat) : Cw := if c.reader = 2 then { c with reader := 3, shut := c.shut.set 0 1, ops := c.ops + 1 } else if 0 < k then { c with reader := 2 } else if c.reader = 0 then { c with room := c.room - 1, next := c.next + 1, reader := 1, ops := c.ops + 1 } else { c with queue := c.queue ++ [c.next - 1], reader := 0, ops := c.ops + 1 }
def stW (c : Cw) (i k : Nat) : Cw := if k = 1 then { c with hands := c.hands.set i ⟨3, 0⟩ } else if 0 < k then { c with hands := c.hands.set i ⟨3, 0⟩, ops := c.ops + 1 } else if (c.hands.getD i ⟨0, 0⟩).state = 0 then { c with hands := c.hands.set i ⟨1, c.queue.headD 0⟩, queue := c.queue.tail, ops := c.ops + 1 } else if (c.hands.getD i ⟨0, 0⟩).state = 1 then { c with hands := c.hands.set i ⟨2, (c.hands.getD i ⟨0, 0⟩).job⟩ } else { c with results := c.results ++ [(c.hands.getD i ⟨0, 0⟩).job], hands := c.hands.set i ⟨0, 0⟩, ops := c.ops + 1 }
def stC (c : Cw) : Cw := { c with closer := 1, shut := c.shut.set 1 1, ops := c.ops + 1 }
def rgJ (c : Cw) : Int := c.results.headD 0
def stK (c : Cw) (k : Nat) : Cw := if k = 1 then { c with keeper := 4 } else if 0 < k then { c with keeper := 4, ops := c.ops + 1 } else if c.keeper = 0 then { c with results := c.results.tail, ring := c.ring.set ((rgJ c).toNat % c.ring.length) (rgJ c), keeper := 1, ops := c.ops + 1 } else if c.keeper = 1 then { c with keeper := if dueIn c then 2 else 0 } else if c.keeper = 2 then { c with ring := c.ring.set (dueAt c) (-1), out := c.out ++ [c.due], due := c.due + 1, keeper := 3, ops := c.ops + 1 } else if c.keeper = 3 then { c with room := c.room + 1, keeper := 1, ops := c.ops + 1 } else { c with keeper := 5, shut := c.shut.set 2 1, ops := c.ops + 1 }
def stU (c : Cw) (k : Nat) : Cw := if k = 0 then { c with got := c.got ++ [c.out.headD 0], out := [], ops := c.ops + 1 } else { c with user := 1, ops := c.ops + 1 }
def stD (c : Cw) (who k : Nat) : Cw := if who = 0 then stR c k else if who ≤ c.hands.length then stW c (who - 1) k else if who = c.hands.length + 1 then stC c else if who = c.hands.length + 2 then stK c k else stU c k
def mvOk (c : Cw) (who k : Nat) : Prop := who < c.hands.length + 4 ∧ (ways c who)[k]? = some true
theorem shut_cls {c : Cw} (h : okS c) : (c.reader ≠ 3 → shZ c 0 = 0) ∧ (c.closer ≠ 1 → shZ c 1 = 0) ∧ (c.keeper ≠ 5 → shZ c 2 = 0) := by
 have hF := ((formS_iff c).1 h.1).1
 obtain ⟨-, -, he, -⟩ := h
 unfold endsB at he
 simp only [Bool.and_eq_true] at he
 have h1 := he.1.1.1.1.1.1.1.1.1
 have h2 := he.1.1.1.1.1.1.1.1.2
 have h3 := he.1.1.1.1.1.1.1.2
 refine ⟨fun h => ?_, fun h => ?_, fun h => ?_⟩
 · have := shut_01 hF 0
   simp [e1, h] at h1
   omega
 · have := shut_01 hF 1
   simp [e2, h] at h2
   omega
 · have := shut_01 hF 2
   simp [e3, h] at h3
   omega

def DoEnd (w w' : World) (e : Ending) (C : Nat) (x : Cw) (B : CrB) : Prop := e = .returned (.tuple #[]) ∧ (∃ B', CrAt w' C x B') ∧ Exc (CrB.blocks C B) w w'
theorem getD_set_ne (l : List Int) (i j : Nat) (z : Int) (h : i ≠ j) : (l.set i z).getD j 0 = l.getD j 0 := by simp [List.getD_eq_getElem?_getD, List.getElem?_set_ne h]
theorem getD_set_eq (l : List Int) (i : Nat) (z : Int) (h : i < l.length) : (l.set i z).getD i 0 = z := by simp [List.getD_eq_getElem?_getD, h]
theorem readOne_do (C : Nat) (c : Cw) (B : CrB) (w : World) (h : CrAt w C c B) (hop : 0 ≤ c.ops ∧ c.ops ≤ 10000) (hro : 0 < c.room ∧ c.room ≤ 1000) (hnx : 0 ≤ c.next ∧ c.next ≤ 1000) : Calls Tryz.prog 121 #[.pointer (some ⟨C, 0, none⟩)] w fun e w' => DoEnd w w' e C ({ c with room := c.room - 1, next := c.next + 1, reader := 1, ops := c.ops + 1 }) B := by
 have HOP := xH hop
 have HRO := xH hro
 have hw1 : IntKind.i64.wrap (c.next + 1) = c.next + 1 := by rw [IntKind.wrap_i64]; omega
 have HC0 := xH h; have HX0 := xH (Exc.refl (CrB.blocks C B) w)
 clear h
 go_enter Tryz.func121, Tryz.ntmps121
 have k13 := (xU HC0).c13
 obtain ⟨p, f, hf, hm⟩ := (xU HC0).m
 have HFL := xH (Nat.mod_lt (f + 1) (Nat.lt_of_le_of_lt (Nat.zero_le _) hf))
 have HCL := xH (takeP_any B.M p c.ring.length f c.room 0 w hm hf (xU HC0).szG.2 (xU HRO).1 (xU HRO).2)
 go_upto_region 1 with (go_at_call 143; refine (xU HCL).mono ?_; rintro e W1 ⟨rfl, hr, hx⟩; have HC1 := xH (show CrAt W1 C { c with room := c.room - 1 } B from (xU HC0).mod_m ⟨p, (f + 1) % c.ring.length, xU HFL, hr⟩ hx); have HX1 := xH ((xU HX0).trans ((hx).sub (by simp [CrB.blocks]))); clear hr hx)
 clear HCL k13 hm hf HFL HC0 HX0
 have HUS := xH (use_any C { c with room := c.room - 1 } B W1 (xU HC1) (xU HOP).1 (xU HOP).2)
 have HC2 := xH (show CrAt (W1.setCell ⟨C, 15, none⟩ (.int .i64 (c.ops + 1))) C { c with room := c.room - 1, ops := c.ops + 1 } B from (xU HC1).put 15 (.int .i64 (c.ops + 1)) (by omega) rfl rfl rfl rfl rfl rfl rfl rfl rfl rfl rfl)
 have HX2 := xH ((xU HX1).trans (Exc.set (F := CrB.blocks C B) W1 C 15 (.int .i64 (c.ops + 1)) (by simp [CrB.blocks])))
 go_upto_region 2 with (go_at_call 80; refine (xU HUS).mono ?_; rintro e w1 ⟨rfl, rfl⟩)
 generalize W1.setCell ⟨C, 15, none⟩ (.int .i64 (c.ops + 1)) = W2 at HC2 HX2 ⊢
 clear HUS HC1 HX1
 have ko : W2.cell? ⟨C, 1, none⟩ = some (.int .i64 c.next) := (xU HC2).c1
 have fo := (xU HC2).row.frozen 1
 have HC3 := xH (show CrAt (W2.setCell ⟨C, 1, none⟩ (.int .i64 (c.next + 1))) C { c with room := c.room - 1, ops := c.ops + 1, next := c.next + 1 } B from (xU HC2).put 1 (.int .i64 (c.next + 1)) (by omega) rfl rfl rfl rfl rfl rfl rfl rfl rfl rfl rfl)
 have HX3 := xH ((xU HX2).trans (Exc.set (F := CrB.blocks C B) W2 C 1 (.int .i64 (c.next + 1)) (by simp [CrB.blocks])))
 go_upto_region 3 with (fail)
 generalize W2.setCell ⟨C, 1, none⟩ (.int .i64 (c.next + 1)) = W3 at HC3 HX3 ⊢
 clear ko fo HC2 HX2
 have ko : W3.cell? ⟨C, 2, none⟩ = some (.int .i64 c.reader) := (xU HC3).c2
 have fo := (xU HC3).row.frozen 2
 have HC4 := xH (show CrAt (W3.setCell ⟨C, 2, none⟩ (.int .i64 1)) C { c with room := c.room - 1, ops := c.ops + 1, next := c.next + 1, reader := 1 } B from (xU HC3).put 2 (.int .i64 1) (by omega) rfl rfl rfl rfl rfl rfl rfl rfl rfl rfl rfl)
 have HX4 := xH ((xU HX3).trans (Exc.set (F := CrB.blocks C B) W3 C 2 (.int .i64 1) (by simp [CrB.blocks])))
 go_wp2_with (fail)
 go_end0
 exact ⟨rfl, ⟨B, xU HC4⟩, xU HX4⟩
theorem readNoMore_do (C : Nat) (c : Cw) (B : CrB) (w : World) (h : CrAt w C c B) : Calls Tryz.prog 122 #[.pointer (some ⟨C, 0, none⟩)] w fun e w' => DoEnd w w' e C ({ c with reader := 2 }) B := by
 have HC0 := xH h; have HX0 := xH (Exc.refl (CrB.blocks C B) w)
 clear h
 go_enter Tryz.func122, Tryz.ntmps122
 have ko : w.cell? ⟨C, 2, none⟩ = some (.int .i64 c.reader) := (xU HC0).c2
 have fo := (xU HC0).row.frozen 2
 have HC1 := xH (show CrAt (w.setCell ⟨C, 2, none⟩ (.int .i64 2)) C { c with reader := 2 } B from (xU HC0).put 2 (.int .i64 2) (by omega) rfl rfl rfl rfl rfl rfl rfl rfl rfl rfl rfl)
 have HX1 := xH ((xU HX0).trans (Exc.set (F := CrB.blocks C B) w C 2 (.int .i64 2) (by simp [CrB.blocks])))
 go_wp2_with (fail)
 go_end0
 exact ⟨rfl, ⟨B, xU HC1⟩, xU HX1⟩
theorem keepNoMore_do (C : Nat) (c : Cw) (B : CrB) (w : World) (h : CrAt w C c B) : Calls Tryz.prog 133 #[.pointer (some ⟨C, 0, none⟩)] w fun e w' => DoEnd w w' e C ({ c with keeper := 4 }) B := by
 have HC0 := xH h; have HX0 := xH (Exc.refl (CrB.blocks C B) w)
 clear h
 go_enter Tryz.func133, Tryz.ntmps133
 have ko : w.cell? ⟨C, 7, none⟩ = some (.int .i64 c.keeper) := (xU HC0).c7
 have fo := (xU HC0).row.frozen 7
 have HC1 := xH (show CrAt (w.setCell ⟨C, 7, none⟩ (.int .i64 4)) C { c with keeper := 4 } B from (xU HC0).put 7 (.int .i64 4) (by omega) rfl rfl rfl rfl rfl rfl rfl rfl rfl rfl rfl)
 have HX1 := xH ((xU HX0).trans (Exc.set (F := CrB.blocks C B) w C 7 (.int .i64 4) (by simp [CrB.blocks])))
 go_wp2_with (fail)
 go_end0
 exact ⟨rfl, ⟨B, xU HC1⟩, xU HX1⟩
theorem seeOutEnd_do (C : Nat) (c : Cw) (B : CrB) (w : World) (h : CrAt w C c B) (hop : 0 ≤ c.ops ∧ c.ops ≤ 10000) : Calls Tryz.prog 140 #[.pointer (some ⟨C, 0, none⟩)] w fun e w' => DoEnd w w' e C ({ c with user := 1, ops := c.ops + 1 }) B := by
 have HOP := xH hop
 have HC0 := xH h; have HX0 := xH (Exc.refl (CrB.blocks C B) w)
 clear h
 go_enter Tryz.func140, Tryz.ntmps140
 have HUS := xH (use_any C c B w (xU HC0) (xU HOP).1 (xU HOP).2)
 have HC1 := xH (show CrAt (w.setCell ⟨C, 15, none⟩ (.int .i64 (c.ops + 1))) C { c with ops := c.ops + 1 } B from (xU HC0).put 15 (.int .i64 (c.ops + 1)) (by omega) rfl rfl rfl rfl rfl rfl rfl rfl rfl rfl rfl)
 have HX1 := xH ((xU HX0).trans (Exc.set (F := CrB.blocks C B) w C 15 (.int .i64 (c.ops + 1)) (by simp [CrB.blocks])))
 go_upto_region 1 with (go_at_call 80; refine (xU HUS).mono ?_; rintro e w1 ⟨rfl, rfl⟩)
 generalize w.setCell ⟨C, 15, none⟩ (.int .i64 (c.ops + 1)) = W1 at HC1 HX1 ⊢
 clear HUS HC0 HX0
 have ko : W1.cell? ⟨C, 11, none⟩ = some (.int .i64 c.user) := (xU HC1).c11
 have fo := (xU HC1).row.frozen 11
 have HC2 := xH (show CrAt (W1.setCell ⟨C, 11, none⟩ (.int .i64 1)) C { c with ops := c.ops + 1, user := 1 } B from (xU HC1).put 11 (.int .i64 1) (by omega) rfl rfl rfl rfl rfl rfl rfl rfl rfl rfl rfl)
 have HX2 := xH ((xU HX1).trans (Exc.set (F := CrB.blocks C B) W1 C 11 (.int .i64 1) (by simp [CrB.blocks])))
 go_wp2_with (fail)
 go_end0
 exact ⟨rfl, ⟨B, xU HC2⟩, xU HX2⟩
theorem closeQueue_do (C : Nat) (c : Cw) (B : CrB) (w : World) (h : CrAt w C c B) (hop : 0 ≤ c.ops ∧ c.ops ≤ 10000) (hs0 : shZ c 0 = 0) : Calls Tryz.prog 125 #[.pointer (some ⟨C, 0, none⟩)] w fun e w' => DoEnd w w' e C ({ c with reader := 3, shut := c.shut.set 0 1, ops := c.ops + 1 }) B := by
 have HOP := xH hop
 have HSL := xH h.sh
 have HC0 := xH h; have HX0 := xH (Exc.refl (CrB.blocks C B) w)
 clear h
 go_enter Tryz.func125, Tryz.ntmps125
 have kc := (xU HC0).c3
 have k3 := (xU HC0).q3
 rw [show c.shut.getD 0 0 = 0 from hs0] at k3
 have f3 : w.frozen? ⟨B.Q, 3, none⟩ = false := by
  obtain ⟨_, _, _, hm, _, _⟩ := (xU HC0).q.ex
  exact hm.frozen 3
 have HRG := xH (show RgAt (w.setCell ⟨B.Q, 3, none⟩ (.int .i64 1)) B.Q B.Qp c.hands.length c.queue ((c.shut.set 0 1).getD 0 0) from by rw [getD_set_eq _ _ _ (by rw [xU HSL]; omega)]; exact (xU HC0).q.shut 1)
 have HCL := xH (closeI_any B.Q w k3 f3)
 go_upto_region 1 with (go_at_call 144; refine (xU HCL).mono ?_; rintro e W1 ⟨rfl, hW1⟩; have HC1 := xH (show CrAt W1 C { c with shut := c.shut.set 0 1 } B from hW1 ▸ (xU HC0).mod_s0 (l := c.shut.set 0 1) (by rw [List.length_set]; exact xU HSL) (getD_set_ne _ _ _ _ (by omega)) (getD_set_ne _ _ _ _ (by omega)) (getD_set_ne _ _ _ _ (by omega)) (xU HRG) (Exc.set _ _ _ _ (by simp))); have HX1 := xH ((xU HX0).trans ((hW1 ▸ Exc.set (F := [B.Q]) w B.Q 3 (.int .i64 1) (by simp) : Exc [B.Q] w W1).sub (by simp [CrB.blocks]))); clear HRG hW1)
 clear HCL kc k3 f3 HC0 HX0
 have HUS := xH (use_any C { c with shut := c.shut.set 0 1 } B W1 (xU HC1) (xU HOP).1 (xU HOP).2)
 have HC2 := xH (show CrAt (W1.setCell ⟨C, 15, none⟩ (.int .i64 (c.ops + 1))) C { c with shut := c.shut.set 0 1, ops := c.ops + 1 } B from (xU HC1).put 15 (.int .i64 (c.ops + 1)) (by omega) rfl rfl rfl rfl rfl rfl rfl rfl rfl rfl rfl)
 have HX2 := xH ((xU HX1).trans (Exc.set (F := CrB.blocks C B) W1 C 15 (.int .i64 (c.ops + 1)) (by simp [CrB.blocks])))
 go_upto_region 2 with (go_at_call 80; refine (xU HUS).mono ?_; rintro e w1 ⟨rfl, rfl⟩)
 generalize W1.setCell ⟨C, 15, none⟩ (.int .i64 (c.ops + 1)) = W2 at HC2 HX2 ⊢
 clear HUS HC1 HX1
 have ko : W2.cell? ⟨C, 2, none⟩ = some (.int .i64 c.reader) := (xU HC2).c2
 have fo := (xU HC2).row.frozen 2
 have HC3 := xH (show CrAt (W2.setCell ⟨C, 2, none⟩ (.int .i64 3)) C { c with shut := c.shut.set 0 1, ops := c.ops + 1, reader := 3 } B from (xU HC2).put 2 (.int .i64 3) (by omega) rfl rfl rfl rfl rfl rfl rfl rfl rfl rfl rfl)
 have HX3 := xH ((xU HX2).trans (Exc.set (F := CrB.blocks C B) W2 C 2 (.int .i64 3) (by simp [CrB.blocks])))
 go_wp2_with (fail)
 go_end0
 exact ⟨rfl, ⟨B, xU HC3⟩, xU HX3⟩
theorem closeResults_do (C : Nat) (c : Cw) (B : CrB) (w : World) (h : CrAt w C c B) (hop : 0 ≤ c.ops ∧ c.ops ≤ 10000) (hs0 : shZ c 1 = 0) : Calls Tryz.prog 131 #[.pointer (some ⟨C, 0, none⟩)] w fun e w' => DoEnd w w' e C ({ c with closer := 1, shut := c.shut.set 1 1, ops := c.ops + 1 }) B := by
 have HOP := xH hop
 have HSL := xH h.sh
 have HC0 := xH h; have HX0 := xH (Exc.refl (CrB.blocks C B) w)
 clear h
 go_enter Tryz.func131, Tryz.ntmps131
 have kc := (xU HC0).c6
 have k3 := (xU HC0).r3
 rw [show c.shut.getD 1 0 = 0 from hs0] at k3
 have f3 : w.frozen? ⟨B.R, 3, none⟩ = false := by
  obtain ⟨_, _, _, hm, _, _⟩ := (xU HC0).r.ex
  exact hm.frozen 3
 have HRG := xH (show RgAt (w.setCell ⟨B.R, 3, none⟩ (.int .i64 1)) B.R B.Rp c.hands.length c.results ((c.shut.set 1 1).getD 1 0) from by rw [getD_set_eq _ _ _ (by rw [xU HSL]; omega)]; exact (xU HC0).r.shut 1)
 have HCL := xH (closeI_any B.R w k3 f3)
 go_upto_region 1 with (go_at_call 144; refine (xU HCL).mono ?_; rintro e W1 ⟨rfl, hW1⟩; have HC1 := xH (show CrAt W1 C { c with shut := c.shut.set 1 1 } B from hW1 ▸ (xU HC0).mod_s1 (l := c.shut.set 1 1) (by rw [List.length_set]; exact xU HSL) (getD_set_ne _ _ _ _ (by omega)) (getD_set_ne _ _ _ _ (by omega)) (getD_set_ne _ _ _ _ (by omega)) (xU HRG) (Exc.set _ _ _ _ (by simp))); have HX1 := xH ((xU HX0).trans ((hW1 ▸ Exc.set (F := [B.R]) w B.R 3 (.int .i64 1) (by simp) : Exc [B.R] w W1).sub (by simp [CrB.blocks]))); clear HRG hW1)
 clear HCL kc k3 f3 HC0 HX0
 have HUS := xH (use_any C { c with shut := c.shut.set 1 1 } B W1 (xU HC1) (xU HOP).1 (xU HOP).2)
 have HC2 := xH (show CrAt (W1.setCell ⟨C, 15, none⟩ (.int .i64 (c.ops + 1))) C { c with shut := c.shut.set 1 1, ops := c.ops + 1 } B from (xU HC1).put 15 (.int .i64 (c.ops + 1)) (by omega) rfl rfl rfl rfl rfl rfl rfl rfl rfl rfl rfl)
 have HX2 := xH ((xU HX1).trans (Exc.set (F := CrB.blocks C B) W1 C 15 (.int .i64 (c.ops + 1)) (by simp [CrB.blocks])))
 go_upto_region 2 with (go_at_call 80; refine (xU HUS).mono ?_; rintro e w1 ⟨rfl, rfl⟩)
 generalize W1.setCell ⟨C, 15, none⟩ (.int .i64 (c.ops + 1)) = W2 at HC2 HX2 ⊢
 clear HUS HC1 HX1
 have ko : W2.cell? ⟨C, 5, none⟩ = some (.int .i64 c.closer) := (xU HC2).c5
 have fo := (xU HC2).row.frozen 5
 have HC3 := xH (show CrAt (W2.setCell ⟨C, 5, none⟩ (.int .i64 1)) C { c with shut := c.shut.set 1 1, ops := c.ops + 1, closer := 1 } B from (xU HC2).put 5 (.int .i64 1) (by omega) rfl rfl rfl rfl rfl rfl rfl rfl rfl rfl rfl)
 have HX3 := xH ((xU HX2).trans (Exc.set (F := CrB.blocks C B) W2 C 5 (.int .i64 1) (by simp [CrB.blocks])))
 go_wp2_with (fail)
 go_end0
 exact ⟨rfl, ⟨B, xU HC3⟩, xU HX3⟩
theorem closeOut_do (C : Nat) (c : Cw) (B : CrB) (w : World) (h : CrAt w C c B) (hop : 0 ≤ c.ops ∧ c.ops ≤ 10000) (hs0 : shZ c 2 = 0) : Calls Tryz.prog 138 #[.pointer (some ⟨C, 0, none⟩)] w fun e w' => DoEnd w w' e C ({ c with keeper := 5, shut := c.shut.set 2 1, ops := c.ops + 1 }) B := by
 have HOP := xH hop
 have HSL := xH h.sh
 have HC0 := xH h; have HX0 := xH (Exc.refl (CrB.blocks C B) w)
 clear h
 go_enter Tryz.func138, Tryz.ntmps138
 have kc := (xU HC0).c10
 have k3 := (xU HC0).o3
 rw [show c.shut.getD 2 0 = 0 from hs0] at k3
 have f3 : w.frozen? ⟨B.O, 3, none⟩ = false := by
  obtain ⟨_, _, _, hm, _, _⟩ := (xU HC0).o.ex
  exact hm.frozen 3
 have HRG := xH (show RgAt (w.setCell ⟨B.O, 3, none⟩ (.int .i64 1)) B.O B.Op 1 c.out ((c.shut.set 2 1).getD 2 0) from by rw [getD_set_eq _ _ _ (by rw [xU HSL]; omega)]; exact (xU HC0).o.shut 1)
 have HCL := xH (closeI_any B.O w k3 f3)
 go_upto_region 1 with (go_at_call 144; refine (xU HCL).mono ?_; rintro e W1 ⟨rfl, hW1⟩; have HC1 := xH (show CrAt W1 C { c with shut := c.shut.set 2 1 } B from hW1 ▸ (xU HC0).mod_s2 (l := c.shut.set 2 1) (by rw [List.length_set]; exact xU HSL) (getD_set_ne _ _ _ _ (by omega)) (getD_set_ne _ _ _ _ (by omega)) (getD_set_ne _ _ _ _ (by omega)) (xU HRG) (Exc.set _ _ _ _ (by simp))); have HX1 := xH ((xU HX0).trans ((hW1 ▸ Exc.set (F := [B.O]) w B.O 3 (.int .i64 1) (by simp) : Exc [B.O] w W1).sub (by simp [CrB.blocks]))); clear HRG hW1)
 clear HCL kc k3 f3 HC0 HX0
 have HUS := xH (use_any C { c with shut := c.shut.set 2 1 } B W1 (xU HC1) (xU HOP).1 (xU HOP).2)
 have HC2 := xH (show CrAt (W1.setCell ⟨C, 15, none⟩ (.int .i64 (c.ops + 1))) C { c with shut := c.shut.set 2 1, ops := c.ops + 1 } B from (xU HC1).put 15 (.int .i64 (c.ops + 1)) (by omega) rfl rfl rfl rfl rfl rfl rfl rfl rfl rfl rfl)
 have HX2 := xH ((xU HX1).trans (Exc.set (F := CrB.blocks C B) W1 C 15 (.int .i64 (c.ops + 1)) (by simp [CrB.blocks])))
 go_upto_region 2 with (go_at_call 80; refine (xU HUS).mono ?_; rintro e w1 ⟨rfl, rfl⟩)
 generalize W1.setCell ⟨C, 15, none⟩ (.int .i64 (c.ops + 1)) = W2 at HC2 HX2 ⊢
 clear HUS HC1 HX1
 have ko : W2.cell? ⟨C, 7, none⟩ = some (.int .i64 c.keeper) := (xU HC2).c7
 have fo := (xU HC2).row.frozen 7
 have HC3 := xH (show CrAt (W2.setCell ⟨C, 7, none⟩ (.int .i64 5)) C { c with shut := c.shut.set 2 1, ops := c.ops + 1, keeper := 5 } B from (xU HC2).put 7 (.int .i64 5) (by omega) rfl rfl rfl rfl rfl rfl rfl rfl rfl rfl rfl)
 have HX3 := xH ((xU HX2).trans (Exc.set (F := CrB.blocks C B) W2 C 7 (.int .i64 5) (by simp [CrB.blocks])))
 go_wp2_with (fail)
 go_end0
 exact ⟨rfl, ⟨B, xU HC3⟩, xU HX3⟩
theorem giveRoom_do (C : Nat) (c : Cw) (B : CrB) (w : World) (h : CrAt w C c B) (hop : 0 ≤ c.ops ∧ c.ops ≤ 10000) (hro : 0 ≤ c.room ∧ c.room ≤ 900) : Calls Tryz.prog 137 #[.pointer (some ⟨C, 0, none⟩)] w fun e w' => DoEnd w w' e C ({ c with room := c.room + 1, keeper := 1, ops := c.ops + 1 }) B := by
 have HOP := xH hop
 have HRO := xH hro
 have HC0 := xH h; have HX0 := xH (Exc.refl (CrB.blocks C B) w)
 clear h
 go_enter Tryz.func137, Tryz.ntmps137
 have k13 := (xU HC0).c13
 obtain ⟨p, f, hf, hm⟩ := (xU HC0).m
 have HF2 := xH hf
 have HCL := xH (putP2_any B.M p c.ring.length f c.room 0 w hm hf (xU HC0).szG.2 (xU HRO).1 (xU HRO).2)
 go_upto_region 1 with (go_at_call 113; refine (xU HCL).mono ?_; rintro e W1 ⟨rfl, hr, hx⟩; have HC1 := xH (show CrAt W1 C { c with room := c.room + 1 } B from (xU HC0).mod_m ⟨p, f, xU HF2, hr⟩ hx); have HX1 := xH ((xU HX0).trans ((hx).sub (by simp [CrB.blocks]))); clear hr hx)
 clear HCL k13 hm hf HF2 HC0 HX0
 have HUS := xH (use_any C { c with room := c.room + 1 } B W1 (xU HC1) (xU HOP).1 (xU HOP).2)
 have HC2 := xH (show CrAt (W1.setCell ⟨C, 15, none⟩ (.int .i64 (c.ops + 1))) C { c with room := c.room + 1, ops := c.ops + 1 } B from (xU HC1).put 15 (.int .i64 (c.ops + 1)) (by omega) rfl rfl rfl rfl rfl rfl rfl rfl rfl rfl rfl)
 have HX2 := xH ((xU HX1).trans (Exc.set (F := CrB.blocks C B) W1 C 15 (.int .i64 (c.ops + 1)) (by simp [CrB.blocks])))
 go_upto_region 2 with (go_at_call 80; refine (xU HUS).mono ?_; rintro e w1 ⟨rfl, rfl⟩)
 generalize W1.setCell ⟨C, 15, none⟩ (.int .i64 (c.ops + 1)) = W2 at HC2 HX2 ⊢
 clear HUS HC1 HX1
 have ko : W2.cell? ⟨C, 7, none⟩ = some (.int .i64 c.keeper) := (xU HC2).c7
 have fo := (xU HC2).row.frozen 7
 have HC3 := xH (show CrAt (W2.setCell ⟨C, 7, none⟩ (.int .i64 1)) C { c with room := c.room + 1, ops := c.ops + 1, keeper := 1 } B from (xU HC2).put 7 (.int .i64 1) (by omega) rfl rfl rfl rfl rfl rfl rfl rfl rfl rfl rfl)
 have HX3 := xH ((xU HX2).trans (Exc.set (F := CrB.blocks C B) W2 C 7 (.int .i64 1) (by simp [CrB.blocks])))
 go_wp2_with (fail)
 go_end0
 exact ⟨rfl, ⟨B, xU HC3⟩, xU HX3⟩
end Go.Proofs.YtibgjcejddpldaaGreat
