/- The ways that the program tells of each of a crew: data, and lists of ways in memory. No program walked. No conditions. -/
import Derived.Test.YtibgjcejddpldaaGreatPart28
import Derived.Test.YtibgjcejddpldaaGreatPart12
import Derived.Test.YtibgjcejddpldaaGreatPart20
namespace Go.Proofs.YtibgjcejddpldaaGreat
open Go Go.RowKit

/-- A method that is bound to what it belongs to. -/
def fw (x : Nat × Value) : Value := .func (.func x.1) #[x.2] #[]
def wcs (x : Bool × Nat × Value) : List Value := [.bool x.1, fw x.2]
def WyAt (P : Nat → Prop) (w : World) (v : Value) (xs : List (Bool × Nat × Value)) : Prop := FlatAt P w v 2 (xs.map wcs)
/-- A list of ways in new memory is given back. -/
def WsEnd (w w' : World) (e : Ending) (xs : List (Bool × Nat × Value)) : Prop := ∃ a cap, e = .returned (.slice a xs.length cap) ∧ WyAt (New w w') w' (.slice a xs.length cap) xs ∧ Below w.heap.size w w'
theorem wflat_len (xs : List (Bool × Nat × Value)) : (xs.map wcs).flatten.length = xs.length * 2 := by
  induction xs with
  | nil => rfl
  | cons m ms ih => rw [List.map_cons, List.flatten_cons, List.length_append, ih, List.length_cons]; show 2 + _ = _; omega
theorem wflat_at : ∀ (xs : List (Bool × Nat × Value)) (i : Nat) (hi : i < xs.length), (xs.map wcs).flatten[i * 2]? = some (.bool xs[i].1) ∧ (xs.map wcs).flatten[i * 2 + 1]? = some (fw xs[i].2)
  | [], i, hi => by cases hi
  | x :: r, 0, hi => ⟨rfl, rfl⟩
  | x :: r, i + 1, hi => by
      have := wflat_at r i (by simpa using hi)
      rw [show (i + 1) * 2 = i * 2 + 2 by omega]
      exact this
theorem ws_new {w W : World} (hb : Below w.heap.size w W) (xs : List (Bool × Nat × Value)) (hl : xs.length ≤ 100) : WsEnd w (W.alloc (.cells (xs.map wcs).flatten.toArray 117)) (.returned (.slice (some ⟨W.heap.size, 0, none⟩) xs.length xs.length)) xs := by
  have hr := World.rowIs_alloc W (xs.map wcs).flatten.toArray 117 (fun i => ((xs.map wcs).flatten)[i]?.getD undef) (fun i hi => by
    simp only [List.size_toArray] at hi
    simp [List.getElem?_eq_getElem hi])
  refine ⟨_, _, rfl, ⟨_, _, by rw [List.length_map], by rw [List.length_map]; omega, fun i hi => ⟨W.heap.size, 0, rfl, ⟨hb.size, by simp⟩, fun j hj => ?_⟩⟩, hb.alloc hb.size _⟩
  rw [List.length_map] at hi
  obtain ⟨h0, h1⟩ := wflat_at xs i hi
  have hn := wflat_len xs
  rw [Nat.zero_add, hr.cell (by simp only [List.size_toArray]; omega), List.getElem_map]
  rcases (show j = 0 ∨ j = 1 by omega) with rfl | rfl
  · rw [Nat.add_zero, h0]; rfl
  · rw [h1]; rfl
theorem ws_nil {w W : World} (hb : Below w.heap.size w W) : WsEnd w W (.returned (.slice none 0 0)) [] :=
  ⟨none, 0, rfl, ⟨_, _, rfl, by simp, fun i hi => by cases hi⟩, hb⟩
def fv (n : Nat) (r : Value) : Nat × Value := (n, r)
def pC (C : Nat) : Value := .pointer (some ⟨C, 0, none⟩)
def rW (C H i : Nat) : Value := .agg #[.pointer (some ⟨C, 0, none⟩), .pointer (some ⟨H, i * 2, none⟩)]
/-- What the ways do. -/
def dvR (C : Nat) (c : Cw) : List (Nat × Value) := if c.reader = 0 then [fv 121 (pC C), fv 122 (pC C), fv 122 (pC C)] else if c.reader = 1 then [fv 124 (pC C), fv 122 (pC C)] else if c.reader = 2 then [fv 125 (pC C)] else []
def dvW (C H i : Nat) (h : Hd) : List (Nat × Value) := if h.state = 0 then [fv 126 (rW C H i), fv 127 (rW C H i), fv 128 (rW C H i)] else if h.state = 1 then [fv 129 (rW C H i)] else if h.state = 2 then [fv 130 (rW C H i), fv 127 (rW C H i)] else []
def dvK (C : Nat) (c : Cw) : List (Nat × Value) := if c.keeper = 0 then [fv 132 (pC C), fv 133 (pC C), fv 134 (pC C)] else if c.keeper = 2 then [fv 136 (pC C), fv 133 (pC C)] else if c.keeper = 5 then [] else if c.keeper = 1 then [fv 135 (pC C)] else if c.keeper = 3 then [fv 137 (pC C)] else [fv 138 (pC C)]
def dvU (C : Nat) (c : Cw) : List (Nat × Value) := if c.user = 1 then [] else [fv 139 (pC C), fv 140 (pC C)]
def pwR (C : Nat) (c : Cw) : List (Bool × Nat × Value) := (wayR c).zip (dvR C c)
def pwW (C H i : Nat) (c : Cw) (h : Hd) : List (Bool × Nat × Value) := (wayW c h).zip (dvW C H i h)
def pwC (C : Nat) (c : Cw) : List (Bool × Nat × Value) := if c.closer = 1 then [] else [(allE c.hands, fv 131 (pC C))]
def pwK (C : Nat) (c : Cw) : List (Bool × Nat × Value) := (wayK c).zip (dvK C c)
def pwU (C : Nat) (c : Cw) : List (Bool × Nat × Value) := (wayU c).zip (dvU C c)
def pw (C H : Nat) (c : Cw) (who : Nat) : List (Bool × Nat × Value) := if who = 0 then pwR C c else if who ≤ c.hands.length then pwW C H (who - 1) c (c.hands.getD (who - 1) ⟨0, 0⟩) else if who = c.hands.length + 1 then pwC C c else if who = c.hands.length + 2 then pwK C c else pwU C c
theorem zip_fst {α β : Type} : ∀ (l : List α) (m : List β), l.length = m.length → (l.zip m).map Prod.fst = l
  | [], _, _ => rfl
  | a :: l, [], h => by cases h
  | a :: l, b :: m, h => by simp only [List.zip_cons_cons, List.map_cons]; rw [zip_fst l m (by simpa using h)]
/-- A move, and what it does. -/
structure Mv where
  (who case : Nat) (f : Nat × Value)
def Mv.key (m : Mv) : Nat × Nat := (m.who, m.case)
def mvp (who : Nat) : Nat → List (Bool × Nat × Value) → List Mv
  | _, [] => []
  | i, x :: xs => (if x.1 then [⟨who, i, x.2⟩] else []) ++ mvp who (i + 1) xs
theorem mvp_key (who : Nat) : ∀ (xs : List (Bool × Nat × Value)) (i : Nat), (mvp who i xs).map Mv.key = mvs who i (xs.map Prod.fst)
  | [], _ => rfl
  | x :: xs, i => by
    rw [mvp, List.map_append, mvp_key who xs (i + 1), List.map_cons, mvs]
    congr 1
    cases x.1 <;> rfl
theorem mvp_snoc (who : Nat) (x : Bool × Nat × Value) : ∀ (xs : List (Bool × Nat × Value)) (i : Nat), mvp who i (xs ++ [x]) = mvp who i xs ++ (if x.1 then [⟨who, i + xs.length, x.2⟩] else [])
  | [], i => by simp [mvp]
  | y :: xs, i => by
    rw [List.cons_append, mvp, mvp, mvp_snoc who x xs (i + 1), List.append_assoc]
    congr 2
    rw [List.length_cons, show i + 1 + xs.length = i + (xs.length + 1) by omega]
theorem mvp_take {who k : Nat} {xs : List (Bool × Nat × Value)} (hk : k < xs.length) : mvp who 0 (xs.take (k + 1)) = mvp who 0 (xs.take k) ++ (if xs[k].1 then [⟨who, k, xs[k].2⟩] else []) := by
  rw [List.take_succ_eq_append_getElem hk, mvp_snoc, List.length_take, Nat.zero_add, Nat.min_eq_left (Nat.le_of_lt hk)]
theorem mvp_len (who : Nat) (xs : List (Bool × Nat × Value)) (i : Nat) : (mvp who i xs).length ≤ xs.length := by
  have h := mvs_len who (xs.map Prod.fst) i
  rw [← mvp_key, List.length_map, List.length_map] at h
  exact h
def movesP (C H : Nat) (c : Cw) (k : Nat) : List Mv := (List.range k).flatMap fun who => mvp who 0 (pw C H c who)
theorem movesP_succ (C H : Nat) (c : Cw) (k : Nat) : movesP C H c (k + 1) = movesP C H c k ++ mvp k 0 (pw C H c k) := by
  unfold movesP
  rw [List.range_succ, List.flatMap_append]
  simp
theorem zip_len {α β : Type} {l : List α} (m : List β) (h : l.length ≤ 3) : (l.zip m).length ≤ 3 := by
  rw [List.length_zip]
  exact Nat.le_trans (Nat.min_le_left _ _) h
theorem pw_len (C H : Nat) (c : Cw) (who : Nat) : (pw C H c who).length ≤ 3 := by
  unfold pw
  split
  · exact zip_len _ (by unfold wayR; (repeat' split) <;> simp)
  split
  · exact zip_len _ (by unfold wayW; (repeat' split) <;> simp)
  split
  · unfold pwC; split <;> simp
  split
  · exact zip_len _ (by unfold wayK; (repeat' split) <;> simp)
  · exact zip_len _ (by unfold wayU; (repeat' split) <;> simp)
theorem movesP_len (C H : Nat) (c : Cw) : ∀ k, (movesP C H c k).length ≤ 3 * k
  | 0 => by simp [movesP]
  | k + 1 => by
    rw [movesP_succ, List.length_append]
    have h1 := movesP_len C H c k; have h2 := mvp_len k (pw C H c k) 0; have h3 := pw_len C H c k
    omega
theorem pw_mvs (C H : Nat) {c : Cw} (hc : 0 ≤ c.closer ∧ c.closer ≤ 1) (who : Nat) : mvs who 0 ((pw C H c who).map Prod.fst) = mvs who 0 (ways c who) := by
  unfold pw ways
  split
  · rw [pwR, zip_fst _ _ (by unfold wayR dvR; (repeat' split) <;> rfl)]
  split
  · rw [pwW, zip_fst _ _ (by unfold wayW dvW; (repeat' split) <;> rfl)]
  split
  · unfold pwC wayC
    by_cases h : c.closer = 1
    · rw [if_pos h]; simp [h, mvs]
    · have h0 : c.closer = 0 := by omega
      rw [if_neg h]; simp [h0]
  split
  · rw [pwK, zip_fst _ _ (by unfold wayK dvK; (repeat' split) <;> rfl)]
  · rw [pwU, zip_fst _ _ (by unfold wayU dvU; (repeat' split) <;> rfl)]
theorem movesP_key (C H : Nat) {c : Cw} (hc : 0 ≤ c.closer ∧ c.closer ≤ 1) : ∀ k, (movesP C H c k).map Mv.key = movesU c k
  | 0 => rfl
  | k + 1 => by rw [movesP_succ, movesU_succ, List.map_append, movesP_key C H hc k, mvp_key, pw_mvs C H hc k]
end Go.Proofs.YtibgjcejddpldaaGreat

/- The walks of the program's isFull, isEmpty (of places), isStopped, readerWays, closerWays. Conditions: the crew is there, its world is formed. -/

namespace Go.Proofs.YtibgjcejddpldaaGreat
open Go Go.RowKit

theorem shut_01 {c : Cw} (hF : Form c) (i : Nat) : 0 ≤ shZ c i ∧ shZ c i ≤ 1 := by
  unfold shZ
  by_cases h : i < c.shut.length
  · rw [List.getD_eq_getElem?_getD, List.getElem?_eq_getElem h]; exact hF.shuts _ (List.getElem_mem h)
  · rw [List.getD_eq_getElem?_getD, List.getElem?_eq_none (by omega)]; simp
theorem stp_eq {c : Cw} (hF : Form c) (i : Nat) : decide (0 < shZ c i) = decide (shZ c i = 1) := by
  have := shut_01 hF i
  exact decide_eq_decide.2 (by omega)
theorem stop_any (C : Nat) (c : Cw) (B : CrB) (w : World) (h : CrAt w C c B) (hF : Form c) : Calls Tryz.prog 115 #[.pointer (some ⟨C, 0, none⟩)] w fun e w' => e = .returned (.bool (stpB c)) ∧ w' = w := by
  unfold stpB
  rw [← stp_eq hF]
  exact stopped_any C c B w h
theorem emptyP_any (b : Nat) (z : Int) (w : World) (h : w.cell? ⟨b, 2, none⟩ = some (.int .i64 z)) : Calls Tryz.prog 120 #[.pointer (some ⟨b, 0, none⟩)] w fun e w' => e = .returned (.bool (z == 0)) ∧ w' = w := by
  go_enter Tryz.func120, Tryz.ntmps120
  go_wp2_with fail
  go_ret
  exact ⟨rfl, rfl⟩
set_option maxHeartbeats 800000 in
theorem fullI_any (b p n k : Nat) (w : World) (h0 : w.cell? ⟨b, 0, none⟩ = some (.slice (some ⟨p, 0, none⟩) n n)) (h2 : w.cell? ⟨b, 2, none⟩ = some (.int .i64 k)) : Calls Tryz.prog 123 #[.pointer (some ⟨b, 0, none⟩)] w fun e w' => e = .returned (.bool ((k : Int) == (n : Int))) ∧ Below w.heap.size w w' := by
  have HB := hide (fun m => below_drewN w m)
  go_enter Tryz.func123, Tryz.ntmps123
  go_wp2_with fail
  go_quiet (fail)
  go_wp2_with fail
  go_ret
  exact ⟨rfl, unhide HB _⟩
theorem RgAt.c0 {W : World} {b p n : Nat} {l : List Int} {s : Int} (h : RgAt W b p n l s) : W.cell? ⟨b, 0, none⟩ = some (.slice (some ⟨p, 0, none⟩) n n) := by
  obtain ⟨_, _, _, hm, _, _⟩ := h.ex
  exact hm.cell (i := 0) (by omega)
theorem full_lt {k n : Nat} {z : Int} (h : k ≤ n) (hz : (n : Int) = z) : (!((k : Int) == (n : Int))) = decide ((k : Int) < z) := by
  subst hz
  by_cases e : k = n
  · subst e; simp
  · have h1 : k < n := by omega
    rw [show ((k : Int) == (n : Int)) = false from by rw [beq_eq_false_iff_ne]; omega, show decide ((k : Int) < (n : Int)) = true from decide_eq_true (by omega)]
    rfl
theorem fullQ_any (C : Nat) (c : Cw) (B : CrB) (w : World) (h : CrAt w C c B) : Calls Tryz.prog 123 #[.pointer (some ⟨B.Q, 0, none⟩)] w fun e w' => e = .returned (.bool ((c.queue.length : Int) == (c.hands.length : Int))) ∧ Below w.heap.size w w' := fullI_any B.Q B.Qp _ _ w h.q.c0 h.q2
theorem fullR_any (C : Nat) (c : Cw) (B : CrB) (w : World) (h : CrAt w C c B) : Calls Tryz.prog 123 #[.pointer (some ⟨B.R, 0, none⟩)] w fun e w' => e = .returned (.bool ((c.results.length : Int) == (c.hands.length : Int))) ∧ Below w.heap.size w w' := fullI_any B.R B.Rp _ _ w h.r.c0 h.r2
theorem room_pos {z : Int} (h : 0 ≤ z) : (!(z == 0)) = decide (0 < z) := by
  by_cases e : z = 0
  · subst e; rfl
  · rw [show (z == 0) = false from by rw [beq_eq_false_iff_ne]; exact e, show decide (0 < z) = true from decide_eq_true (by omega)]
    rfl
set_option maxHeartbeats 1600000 in
theorem closerWays_any (C : Nat) (c : Cw) (B : CrB) (w : World) (h : CrAt w C c B) : Calls Tryz.prog 109 #[.pointer (some ⟨C, 0, none⟩)] w fun e w' => WsEnd w w' e (pwC C c) := by
  have c5 := h.c5
  have HWE := hide (wEnded_any C c B w h)
  clear h
  by_cases h1 : c.closer = 1
  · have q : (c.closer == 1) = true := by simp [h1]
    have HV := hide (show pwC C c = [] from by simp [pwC, h1])
    clear h1 HWE
    go_enter Tryz.func109, Tryz.ntmps109
    go_wp2_with fail
    go_ret
    rw [unhide HV]
    exact ws_nil (Below.refl _ _)
  · have q : (c.closer == 1) = false := by simp [h1]
    have HV := hide (show pwC C c = [(allE c.hands, fv 131 (pC C))] from by simp [pwC, h1])
    clear h1
    go_enter Tryz.func109, Tryz.ntmps109
    go_wp2_with (go_at_call 49; refine (unhide HWE).mono ?_; rintro e w2 ⟨rfl, hb⟩; have HB := hide hb; clear hb HWE)
    go_ret
    rw [unhide HV]
    exact ws_new (unhide HB) [(allE c.hands, fv 131 (pC C))] (by simp)
set_option maxRecDepth 100000 in
set_option maxHeartbeats 3200000 in
theorem readerWays_any (C : Nat) (c : Cw) (B : CrB) (w : World) (h : CrAt w C c B) (hF : Form c) : Calls Tryz.prog 107 #[.pointer (some ⟨C, 0, none⟩)] w fun e w' => WsEnd w w' e (pwR C c) := by
  have c0 := h.c0; have c1 := h.c1
  have HK := hide (fun m => Kc.start h |>.dn m)
  have HST := hide (fun W (hW : Kc w W C c B) => stop_any C c B W hW.cr hF)
  have HFQ := hide (fun W (hW : Kc w W C c B) => fullQ_any C c B W hW.cr)
  have HEM := hide (fun W (hW : Kc w W C c B) => emptyP_any B.M c.room W hW.cr.m2)
  have HF := hide hF
  clear h hF
  go_enter Tryz.func107, Tryz.ntmps107
  go_wp2_with fail
  go_quiet (fail)
  have hk := unhide HK nq
  generalize w.drewN nq = W at hk ⊢
  have c2 := hk.cr.c2
  have HKW := hide hk
  have hrg := (unhide HF).reader
  clear c0 c1 HK
  rcases (show c.reader = 0 ∨ c.reader = 1 ∨ c.reader = 2 ∨ c.reader = 3 by omega) with r0 | r0 | r0 | r0
  · have c13 := hk.cr.c13
    by_cases hm : c.next < c.jobs
    · have HV := hide (show pwR C c = [((!(c.room == 0)), fv 121 (pC C)), (stpB c, fv 122 (pC C)), (false, fv 122 (pC C))] from by rw [room_pos (unhide HF).room.1]; unfold pwR wayR dvR; rw [if_pos r0, if_pos r0, if_neg (by omega)]; rfl)
      rw [r0] at c2
      simp only [decide_eq_true hm]
      clear hm r0 hrg hk HFQ HF
      go_wp2_with (first | (go_at_call 120; refine (unhide HEM _ (unhide HKW)).mono ?_; rintro e w2 ⟨rfl, hb⟩; have hb2 := hb.symm; subst hb2; clear hb) | (go_at_call 115; refine (unhide HST _ (unhide HKW)).mono ?_; rintro e w3 ⟨rfl, hb⟩; have hb2 := hb.symm; subst hb2; clear hb))
      go_ret
      rw [unhide HV]
      exact ws_new (unhide HKW).bel [((!(c.room == 0)), fv 121 (pC C)), (stpB c, fv 122 (pC C)), (false, fv 122 (pC C))] (by simp)
    · have HV := hide (show pwR C c = [(false, fv 121 (pC C)), (false, fv 122 (pC C)), (true, fv 122 (pC C))] from by have := (unhide HF).next.2; unfold pwR wayR dvR; rw [if_pos r0, if_pos r0, if_pos (by omega)]; rfl)
      rw [r0] at c2
      simp only [decide_eq_false hm]
      clear hm r0 hrg hk HFQ HF c13
      go_wp2_with fail
      go_ret
      rw [unhide HV]
      exact ws_new (unhide HKW).bel [(false, fv 121 (pC C)), (false, fv 122 (pC C)), (true, fv 122 (pC C))] (by simp)
  · have c3 := hk.cr.c3
    have HV := hide (show pwR C c = [((!((c.queue.length : Int) == (c.hands.length : Int))), fv 124 (pC C)), (stpB c, fv 122 (pC C))] from by rw [full_lt (by have := (unhide HF).queue; have := (unhide HF).hands; omega) (unhide HF).hands]; unfold pwR wayR dvR; simp [r0])
    rw [r0] at c2
    generalize decide (c.next < c.jobs) = dm
    clear r0 hrg hk HF HEM
    go_wp2_with (first | (go_at_call 123; refine (unhide HFQ _ (unhide HKW)).mono ?_; rintro e w2 ⟨rfl, hb⟩; have HK2 := hide ((unhide HKW).on hb); clear hb) | (go_at_call 115; refine (unhide HST _ (unhide HK2)).mono ?_; rintro e w3 ⟨rfl, hb⟩; have hb2 := hb.symm; subst hb2; clear hb))
    go_ret
    rw [unhide HV]
    exact ws_new (unhide HK2).bel [((!((c.queue.length : Int) == (c.hands.length : Int))), fv 124 (pC C)), (stpB c, fv 122 (pC C))] (by simp)
  · have HV := hide (show pwR C c = [(true, fv 125 (pC C))] from by unfold pwR wayR dvR; simp [r0])
    rw [r0] at c2
    generalize decide (c.next < c.jobs) = dm
    clear r0 hrg hk HF HEM HFQ HST
    go_wp2_with fail
    go_ret
    rw [unhide HV]
    exact ws_new (unhide HKW).bel [(true, fv 125 (pC C))] (by simp)
  · have HV := hide (show pwR C c = [] from by unfold pwR wayR dvR; simp [r0])
    rw [r0] at c2
    generalize decide (c.next < c.jobs) = dm
    clear r0 hrg hk HF HEM HFQ HST
    go_wp2_with fail
    go_ret
    rw [unhide HV]
    exact ws_nil (unhide HKW).bel
end Go.Proofs.YtibgjcejddpldaaGreat
