/- The walks of the specification's EventOk and the program's. Conditions: the table treeFields is as the program lays it (for the program's). -/
import Derived.Test.YtgamonfmgngilaaGreatDoorPart14
import Derived.Test.YtgamonfmgngilaaGreatDoorPart17
import Derived.Test.YtgamonfmgngilaaGreatDoorPart18
import Derived.Test.YtgamonfmgngilaaGreatDoorPart02
import Derived.Test.YtgamonfmgngilaaGreatDoorPart08
import Derived.Test.YtgamonfmgngilaaGreatDoorPart13
import Derived.Test.YtgamonfmgngilaaGreatDoorPart12
namespace Go.Proofs.YtgamonfmgngilaaGreatDoor
open Go Go.RowKit

/-- Whether an event is ok. -/
def evOkB (ty : ByteArray) (ver : Int) (t : Tr) : Bool := nameOkB ty && decide (1 ≤ ver ∧ ver ≤ 12) && decide (t.sort = 5) && decide (0 < pT t 1)

set_option maxRecDepth 100000 in
set_option maxHeartbeats 1600000 in
theorem specEventOk_any (ty : ByteArray) (ver : Int) (t : Tr) (P : Nat → Prop) (c : C5) (w : World) (hP : ∀ b, P b → b < w.heap.size) (hrep : Rep P w t c) (hty : ty.size ≤ 9223372036854775807) (_hver : I64 ver) :
    Calls Tryz.prog 71 #[.agg #[.string ty, .int .i64 ver, c.c0, c.c1, c.c2, c.c3, c.c4]] w fun e w' => e = .returned (.bool (evOkB ty ver t)) ∧ Below w.heap.size w w' := by
  obtain ⟨c0, c1, c2, c3, c4⟩ := c
  have hbx : ∀ o, Below w.heap.size w (w.alloc o) := fun o => (Below.refl _ _).alloc (Nat.le_refl _) o
  have hn := fun W => l6NameOk_any ty W hty
  have hin := fun W => l6In_any ver 1 12 W
  have hok := fun (W : World) (hW : Below w.heap.size w W) => specTreeOk_any t P ⟨c0, c1, c2, c3, c4⟩ W (fun b hb => Nat.lt_of_lt_of_le (hP b hb) hW.size) (Rep.carry (fun b hb => hW.block b (hP b hb)) (fun _ h => h) _ _ hrep)
  obtain ⟨e0, -, -, his, -⟩ := hrep.open
  simp only at e0
  subst e0
  have HV := hide (show evOkB ty ver t = (nameOkB ty && decide (1 ≤ ver ∧ ver ≤ 12) && decide (t.sort = 5) && decide (0 < pT t 1)) from rfl)
  generalize evOkB ty ver t = res at *
  generalize nameOkB ty = b1 at *
  generalize decide (1 ≤ ver ∧ ver ≤ 12) = b2 at *
  generalize decide (0 < pT t 1) = b4 at *
  have HN := hide hn; have HIN := hide hin; have HOK := hide hok; have HBX := hide hbx
  clear hn hin hok hbx hP hrep
  generalize t.sort = srt at *
  cases b1 with
  | false =>
    go_enter Tryz.func71, Tryz.ntmps71
    go_wp2_with (go_at_call 105; refine (unhide HN _).mono ?_; rintro e w' ⟨rfl, rfl⟩)
    go_ret
    exact ⟨by rw [unhide HV]; simp, unhide HBX _⟩
  | true =>
    cases b2 with
    | false =>
      go_enter Tryz.func71, Tryz.ntmps71
      go_wp2_with (first
        | (go_at_call 105; refine (unhide HN _).mono ?_; rintro e w' ⟨rfl, rfl⟩)
        | (go_at_call 86; refine (unhide HIN _).mono ?_; rintro e w' ⟨rfl, rfl⟩))
      go_ret
      exact ⟨by rw [unhide HV]; simp, unhide HBX _⟩
    | true =>
      by_cases h5 : srt = 5
      · subst h5
        go_enter Tryz.func71, Tryz.ntmps71
        go_wp2_with (first
          | (go_at_call 105; refine (unhide HN _).mono ?_; rintro e w' ⟨rfl, rfl⟩)
          | (go_at_call 86; refine (unhide HIN _).mono ?_; rintro e w' ⟨rfl, rfl⟩)
          | (go_at_call 8; refine (unhide HOK _ (unhide HBX _)).mono ?_; rintro e w' ⟨rfl, hb⟩))
        go_ret
        exact ⟨by rw [unhide HV]; simp, (unhide HBX _).trans (hb.mono (unhide HBX _).size)⟩
      · have h5' : (srt == 5) = false := by simpa using h5
        have HS := hide h5
        clear h5
        go_enter Tryz.func71, Tryz.ntmps71
        go_wp2_with (first
          | (go_at_call 105; refine (unhide HN _).mono ?_; rintro e w' ⟨rfl, rfl⟩)
          | (go_at_call 86; refine (unhide HIN _).mono ?_; rintro e w' ⟨rfl, rfl⟩))
        go_ret
        exact ⟨by rw [unhide HV]; simp [unhide HS], unhide HBX _⟩

set_option maxRecDepth 100000 in
set_option maxHeartbeats 1600000 in
theorem implEventOk_any (ty : ByteArray) (ver : Int) (t : Tr) (P : Nat → Prop) (c : C5) (w : World) (hP : ∀ b, P b → b < w.heap.size) (hrep : Rep P w t c) (hty : ty.size ≤ 9223372036854775807) (_hver : I64 ver) (hT : Tab w) :
    Calls Tryz.prog 75 #[.agg #[.string ty, .int .i64 ver, c.c0, c.c1, c.c2, c.c3, c.c4]] w fun e w' => e = .returned (.bool (evOkB ty ver t)) ∧ Below w.heap.size w w' := by
  obtain ⟨c0, c1, c2, c3, c4⟩ := c
  have hbx : ∀ o, Below w.heap.size w (w.alloc o) := fun o => (Below.refl _ _).alloc (Nat.le_refl _) o
  have hn := fun W => nameOk_any ty W hty
  have hok := fun (W : World) (hW : Below w.heap.size w W) => implTreeOk_any t P ⟨c0, c1, c2, c3, c4⟩ W (fun b hb => Nat.lt_of_lt_of_le (hP b hb) hW.size) (Rep.carry (fun b hb => hW.block b (hP b hb)) (fun _ h => h) _ _ hrep) (hT.of_block (hW.block 0 hT.lt))
  obtain ⟨e0, -, -, his, -⟩ := hrep.open
  simp only at e0
  subst e0
  have HV := hide (show evOkB ty ver t = (nameOkB ty && decide (1 ≤ ver ∧ ver ≤ 12) && decide (t.sort = 5) && decide (0 < pT t 1)) from rfl)
  generalize evOkB ty ver t = res at *
  generalize nameOkB ty = b1 at *
  generalize decide (0 < pT t 1) = b4 at *
  have HN := hide hn; have HOK := hide hok; have HBX := hide hbx
  clear hn hok hbx hP hrep hT
  generalize t.sort = srt at *
  cases b1 with
  | false =>
    go_enter Tryz.func75, Tryz.ntmps75
    go_wp2_with (go_at_call 110; refine (unhide HN _).mono ?_; rintro e w' ⟨rfl, rfl⟩)
    go_ret
    exact ⟨by rw [unhide HV]; simp, unhide HBX _⟩
  | true =>
    by_cases h1 : 1 ≤ ver
    · by_cases h2 : ver ≤ 12
      · by_cases h5 : srt = 5
        · subst h5
          go_enter Tryz.func75, Tryz.ntmps75
          go_wp2_with (first
            | (go_at_call 110; refine (unhide HN _).mono ?_; rintro e w' ⟨rfl, rfl⟩)
            | (go_at_call 10; refine (unhide HOK _ (unhide HBX _)).mono ?_; rintro e w' ⟨rfl, hb⟩))
          go_ret
          exact ⟨by rw [unhide HV]; simp [h1, h2], (unhide HBX _).trans (hb.mono (unhide HBX _).size)⟩
        · have h5' : (srt == 5) = false := by simpa using h5
          have HS := hide h5
          clear h5
          go_enter Tryz.func75, Tryz.ntmps75
          go_wp2_with (go_at_call 110; refine (unhide HN _).mono ?_; rintro e w' ⟨rfl, rfl⟩)
          go_ret
          exact ⟨by rw [unhide HV]; simp [unhide HS], unhide HBX _⟩
      · go_enter Tryz.func75, Tryz.ntmps75
        go_wp2_with (go_at_call 110; refine (unhide HN _).mono ?_; rintro e w' ⟨rfl, rfl⟩)
        go_ret
        exact ⟨by rw [unhide HV]; simp; intros; omega, unhide HBX _⟩
    · go_enter Tryz.func75, Tryz.ntmps75
      go_wp2_with (go_at_call 110; refine (unhide HN _).mono ?_; rintro e w' ⟨rfl, rfl⟩)
      go_ret
      exact ⟨by rw [unhide HV]; simp; intros; omega, unhide HBX _⟩
end Go.Proofs.YtgamonfmgngilaaGreatDoor

/- The text of a tree that is ok is short; and its marks are few. No program walked, no conditions. -/

namespace Go.Proofs.YtgamonfmgngilaaGreatDoor
open Go Go.RowKit

theorem itoa_short {n : Int} (h : -999999999 ≤ n ∧ n ≤ 999999999) : (Lib.itoa n).length ≤ 10 := by
  rcases itoa_cases n with ⟨hn, e⟩ | ⟨hn, e⟩
  · rw [e]
    have := dec_len 8 n.toNat (by omega)
    omega
  · rw [e]
    have := dec_len 8 n.natAbs (by omega)
    simp only [List.length_cons]
    omega

theorem name_short {ns : List ByteArray} (h : riseB ns = true) (i : Nat) : (ns.getD i ByteArray.empty).data.toList.length ≤ 8 := by
  by_cases hi : i < ns.length
  · rw [getD_lt _ _ hi]
    have := rise_name h i hi
    unfold nameOkB at this
    simp only [Bool.and_eq_true, decide_eq_true_eq] at this
    show ns[i].size ≤ 8
    omega
  · have e : ns.getD i ByteArray.empty = ByteArray.empty := by simp [List.getD, List.getElem?_eq_none (Nat.le_of_not_lt hi)]
    rw [e]
    decide

theorem ahead_short {form : Bool} {ns : List ByteArray} (h : form = true → riseB ns = true) (i : Nat) : (ahead form ns i).length ≤ 10 := by
  unfold ahead
  cases form with
  | false => simp; split <;> simp
  | true =>
    have := name_short (h rfl) i
    have e : (if 0 < i then [44] else ([] : List UInt8)).length ≤ 1 := by split <;> simp
    simp only [if_true, List.length_append, List.length_cons, List.length_nil]
    omega

theorem txK_short (n : Nat) (IH : ∀ t : Tr, tsz t < n → ∀ p l q : Int, 0 ≤ p → p ≤ 120 → wlk t p l = some q → ((txT t).length : Int) + 10 ≤ 80 * (q - p)) (form : Bool) (ns : List ByteArray) (hr : form = true → riseB ns = true) (l : Int) :
    ∀ (ks : List Tr), (∀ k, k ∈ ks → tsz k < n) → ∀ (i : Nat) (p q : Int), 0 ≤ p → p ≤ 120 → wlkK ks p l = some q → ((txK form ns i ks).length : Int) ≤ 80 * (q - p) := by
  intro ks
  induction ks with
  | nil => intro _ i p q _ _ h; rw [wlkK] at h; simp only [Option.some.injEq] at h; subst h; simp [txK]
  | cons a r ih =>
    intro hm i p q h0 h1 h
    rw [wlkK] at h
    cases hw : wlk a p l with
    | none => rw [hw] at h; cases h
    | some q1 =>
      rw [hw] at h
      have hb := wlk_bd a p l q1 h0 h1 hw
      have e1 := IH a (hm a (by simp)) p l q1 h0 h1 hw
      have e2 := ih (fun k hk => hm k (by simp [hk])) (i + 1) q1 q (by omega) hb.2 h
      have e3 := ahead_short hr i
      rw [txK]
      simp only [List.length_append]
      omega

theorem txT_short : ∀ (n : Nat) (t : Tr), tsz t < n → ∀ p l q : Int, 0 ≤ p → p ≤ 120 → wlk t p l = some q → ((txT t).length : Int) + 10 ≤ 80 * (q - p) := by
  intro n
  induction n with
  | zero => intro t h; omega
  | succ n ih =>
    intro t hn p l q h0 h1 h
    have hb := wlk_bd t p l q h0 h1 h
    obtain ⟨h2, -, ho, hnb, hk⟩ := wlk_open h
    have hm : ∀ k, k ∈ t.kids → tsz k < n := fun k hk => by have := tsz_kid hk; omega
    rcases shapes ho hnb with ⟨m, rfl, hm1⟩ | ⟨x, rfl, hx⟩ | ⟨m, rfl, hm1⟩ | ⟨ks, rfl, hks⟩ | ⟨ns, ks, rfl, hnl, hri⟩ | ⟨ks, rfl, hks⟩
    · have htx : txT (.mk 1 m ByteArray.empty [] []) = Lib.itoa m := by rw [txT]; simp
      rw [htx]
      have := itoa_short hm1
      omega
    · have htx : txT (.mk 2 0 x [] []) = 34 :: (x.data.toList ++ [34]) := by rw [txT]; simp
      rw [htx]
      unfold textOkB at hx
      simp only [Bool.and_eq_true, decide_eq_true_eq] at hx
      have e : x.data.toList.length = x.size := rfl
      simp only [List.length_cons, List.length_append, List.length_nil]
      omega
    · have htx : (txT (.mk 3 m ByteArray.empty [] [])).length ≤ 3 := by
        rw [txT]; simp; split <;> simp
      omega
    · have htx : txT (.mk 4 0 ByteArray.empty [] ks) = 91 :: (txK false [] 0 ks ++ [93]) := by rw [txT]; simp
      rw [htx]
      have := txK_short n ih false [] (fun h => by cases h) (l + 1) ks hm 0 (p + 1) q (by omega) h2 hk
      simp only [List.length_cons, List.length_append, List.length_nil]
      omega
    · have htx : txT (.mk 5 0 ByteArray.empty ns ks) = 123 :: (txK true ns 0 ks ++ [125]) := by rw [txT]; simp
      rw [htx]
      have := txK_short n ih true ns (fun _ => hri) (l + 1) ks hm 0 (p + 1) q (by omega) h2 hk
      simp only [List.length_cons, List.length_append, List.length_nil]
      omega
    · cases ks with
      | nil =>
        have htx : txT (.mk 6 0 ByteArray.empty [] []) = [126] := by rw [txT]; simp
        rw [htx]; simp; omega
      | cons a r =>
        have hr0 : r = [] := by simp at hks; exact hks
        subst hr0
        have htx : txT (.mk 6 0 ByteArray.empty [] [a]) = 63 :: txT a := by rw [txT]; simp [txM]
        rw [htx]
        simp only [Tr.kids] at hk hm
        rw [wlkK] at hk
        cases hw : wlk a (p + 1) (l + 1) with
        | none => rw [hw] at hk; cases hk
        | some q1 =>
          rw [hw] at hk
          simp only [wlkK, Option.some.injEq] at hk
          subst hk
          have := ih a (hm a (by simp)) (p + 1) (l + 1) q1 (by omega) h2 hw
          simp only [List.length_cons]
          omega

theorem txT_small {t : Tr} {q : Int} (h : wlk t 0 0 = some q) : (txT t).length ≤ 9600 := by
  have h1 := txT_short (tsz t + 1) t (by omega) 0 0 q (by omega) (by omega) h
  have h2 := (wlk_bd t 0 0 q (by omega) (by omega) h).2
  omega

/-- How many marks a tree takes. -/
theorem marks_short : ∀ (n : Nat) (t : Tr), tsz t < n → ∀ p l q : Int, 0 ≤ p → p ≤ 120 → wlk t p l = some q → (cT t : Int) ≤ 400 * (q - p) := by
  intro n
  induction n with
  | zero => intro t h; omega
  | succ n ih =>
    intro t hn p l q h0 h1 h
    have hb := wlk_bd t p l q h0 h1 h
    obtain ⟨h2, -, ho, hnb, hk⟩ := wlk_open h
    have hks : ∀ (ks : List Tr), (∀ k, k ∈ ks → tsz k < n) → ∀ (p q : Int), 0 ≤ p → p ≤ 120 → wlkK ks p (l + 1) = some q → (cK ks : Int) ≤ 400 * (q - p) ∧ p + ks.length ≤ q ∧ q ≤ 120 := by
      intro ks
      induction ks with
      | nil => intro _ p q _ h1 h; rw [wlkK] at h; simp only [Option.some.injEq] at h; subst h; simp [cK]; omega
      | cons a r ihk =>
        intro hm p q h0 h1 h
        rw [wlkK] at h
        cases hw : wlk a p (l + 1) with
        | none => rw [hw] at h; cases h
        | some q1 =>
          rw [hw] at h
          have hb := wlk_bd a p (l + 1) q1 h0 h1 hw
          have e1 := ih a (hm a (by simp)) p (l + 1) q1 h0 h1 hw
          have e2 := ihk (fun k hk => hm k (by simp [hk])) q1 q (by omega) hb.2 h
          rw [cK]
          simp only [List.length_cons]
          omega
    have hc := hks t.kids (fun k hk => by have := tsz_kid hk; omega) (p + 1) q (by omega) h2 hk
    have hnl : t.names.length ≤ 120 := by
      rcases shapes ho hnb with ⟨m, rfl, hm1⟩ | ⟨x, rfl, hx⟩ | ⟨m, rfl, hm1⟩ | ⟨ks, rfl, hks⟩ | ⟨ns, ks, rfl, hnl, hri⟩ | ⟨ks, rfl, hks⟩
      · simp [Tr.names]
      · simp [Tr.names]
      · simp [Tr.names]
      · simp [Tr.names]
      · simp only [Tr.names, Tr.kids] at *; omega
      · simp [Tr.names]
    rw [cT_eq]
    omega
end Go.Proofs.YtgamonfmgngilaaGreatDoor

/- How the texts of events are read: just those of events that are ok. No program walked, no conditions. -/

namespace Go.Proofs.YtgamonfmgngilaaGreatDoor
open Go Go.RowKit

/-- The text of an event. -/
def evT (ty : ByteArray) (v : Int) (t : Tr) : List UInt8 := ty.data.toList ++ 64 :: (Lib.itoa v ++ txT t)

open Classical in
/-- The event whose text this is. -/
noncomputable def evOf (L : List UInt8) : Option (ByteArray × Int × Tr) := if h : ∃ e : ByteArray × Int × Tr, evOkB e.1 e.2.1 e.2.2 = true ∧ evT e.1 e.2.1 e.2.2 = L then some h.choose else none

theorem evOk_open {ty : ByteArray} {v : Int} {t : Tr} (h : evOkB ty v t = true) : nameOkB ty = true ∧ 1 ≤ v ∧ v ≤ 12 ∧ t.sort = 5 ∧ wlk t 0 0 = some (pT t 1) := by
  unfold evOkB at h
  simp only [Bool.and_eq_true, decide_eq_true_eq] at h
  exact ⟨h.1.1.1, h.1.1.2.1, h.1.1.2.2, h.1.2, wlk_ok.2 ⟨h.2, rfl⟩⟩
theorem nd_form {t : Tr} (h : t.sort = 5) (rest : List UInt8) : nd (txT t ++ rest) := by
  rw [txT_eq, if_neg (by omega), if_neg (by omega), if_neg (by omega), if_neg (by omega), if_pos h]
  intro c hc
  simp at hc
  subst hc
  rfl
theorem name_size {ty : ByteArray} (h : nameOkB ty = true) : ty.size ≤ 8 ∧ 1 ≤ ty.size := by
  unfold nameOkB at h
  simp only [Bool.and_eq_true, decide_eq_true_eq] at h
  omega

/-- What stands in the text of an event. -/
theorem ev_parts {ty : ByteArray} {v : Int} {t : Tr} (h : evOkB ty v t = true) {L : List UInt8} (hL : evT ty v t = L) :
    L.takeWhile nameByte = ty.data.toList ∧ ((L.take 8).takeWhile nameByte).length = ty.size ∧ L.drop ty.size = 64 :: (Lib.itoa v ++ txT t) ∧ numRun (Lib.itoa v ++ txT t) = (Lib.itoa v, txT t) ∧ spNum (Lib.itoa v ++ txT t) = some (v, txT t) ∧ rdT 6 (txT t) 0 = some (t, [], pT t 1) ∧ spT 6 (txT t) () = some (t, [], ()) := by
  obtain ⟨h1, h2, h3, h4, h5⟩ := evOk_open h
  obtain ⟨hn, hne⟩ := nameOk_bytes h1
  have hsz := (name_size h1).1
  have hls : ty.data.toList.length = ty.size := rfl
  have hnd : nd (txT t) := by have := nd_form h4 []; simpa using this
  have htw := tw_append (p := nameByte) (l := ty.data.toList) (rest := 64 :: (Lib.itoa v ++ txT t)) hn (fun c hc => by simp at hc; subst hc; decide)
  subst hL
  unfold evT
  refine ⟨htw.1, ?_, ?_, num_run v _ hnd, sp_num v (by omega) (by omega) _ hnd, ?_, ?_⟩
  · rw [List.take_append]
    have : (ty.data.toList.take 8) = ty.data.toList := List.take_of_length_le (by omega)
    rw [this, hls]
    have e := tw_append (p := nameByte) (l := ty.data.toList) (rest := (64 :: (Lib.itoa v ++ txT t)).take (8 - ty.size)) hn (fun c hc => by
      cases hk : 8 - ty.size with
      | zero => rw [hk] at hc; simp at hc
      | succ k => rw [hk] at hc; simp at hc; subst hc; decide)
    rw [e.1, hls]
  · rw [← hls, List.drop_left]
  · have := rdT_complete 6 t 0 (pT t 1) [] (by simpa using h5) nd_nil
    rwa [List.append_nil] at this
  · have := spT_complete 6 t 0 (pT t 1) [] (by simpa using h5) nd_nil
    rwa [List.append_nil] at this

theorem ev_unique {ty ty' : ByteArray} {v v' : Int} {t t' : Tr} (h : evOkB ty v t = true) (h' : evOkB ty' v' t' = true) {L : List UInt8} (e : evT ty v t = L) (e' : evT ty' v' t' = L) : (ty, v, t) = (ty', v', t') := by
  obtain ⟨a1, -, a3, a4, -, a6, -⟩ := ev_parts h e
  obtain ⟨b1, -, b3, b4, -, b6, -⟩ := ev_parts h' e'
  have hty : ty = ty' := by
    apply ByteArray.ext
    apply Array.toList_inj.1
    rw [← a1, ← b1]
  subst hty
  rw [a3] at b3
  simp only [List.cons.injEq, true_and] at b3
  rw [b3, b4] at a4
  simp only [Prod.mk.injEq] at a4
  have hv : v' = v := by
    obtain ⟨-, g2, g3, -⟩ := evOk_open h
    obtain ⟨-, k2, k3, -⟩ := evOk_open h'
    exact itoa_inj ⟨by omega, by omega⟩ ⟨by omega, by omega⟩ a4.1
  subst hv
  rw [a4.2, a6] at b6
  simp only [Option.some.injEq, Prod.mk.injEq] at b6
  rw [b6.1]

theorem evOf_yes {ty : ByteArray} {v : Int} {t : Tr} {L : List UInt8} (h : evOkB ty v t = true) (e : evT ty v t = L) : evOf L = some (ty, v, t) := by
  unfold evOf
  have hex : ∃ e : ByteArray × Int × Tr, evOkB e.1 e.2.1 e.2.2 = true ∧ evT e.1 e.2.1 e.2.2 = L := ⟨(ty, v, t), h, e⟩
  rw [dif_pos hex]
  have hs := hex.choose_spec
  have := ev_unique (ty := hex.choose.1) (v := hex.choose.2.1) (t := hex.choose.2.2) hs.1 h hs.2 e
  rw [← this]
theorem evOf_some {ty : ByteArray} {v : Int} {t : Tr} {L : List UInt8} (h : evOf L = some (ty, v, t)) : evOkB ty v t = true ∧ evT ty v t = L := by
  unfold evOf at h
  split at h
  · rename_i hex
    simp only [Option.some.injEq] at h
    have hs := hex.choose_spec
    rw [h] at hs
    exact hs
  · cases h
theorem evOf_no {L : List UInt8} (h : ∀ ty v t, evOkB ty v t = true → evT ty v t = L → False) : evOf L = none := by
  cases he : evOf L with
  | none => rfl
  | some e =>
    obtain ⟨ty, v, t⟩ := e
    obtain ⟨h1, h2⟩ := evOf_some he
    exact (h ty v t h1 h2).elim

/-- A text is that of an event that is ok. -/
def EvR (L : List UInt8) (ty : ByteArray) (v : Int) (t : Tr) : Prop := evOkB ty v t = true ∧ evT ty v t = L

theorem numRun_cat (inp : List UInt8) : (numRun inp).1 ++ (numRun inp).2 = inp := by
  unfold numRun
  split
  · rename_i h
    cases inp with
    | nil => simp at h
    | cons c r =>
      simp only [List.head?_cons, Option.some.injEq] at h
      subst h
      simp [List.takeWhile_append_dropWhile]
  · simp [List.takeWhile_append_dropWhile]

/-- What the program's reader meets in the text of an event. -/
theorem ev_all {s ty : ByteArray} {v : Int} {t : Tr} (h : EvR s.data.toList ty v t) :
    s.size ≤ 10000 ∧ s.extract 0 (tE s) = ty ∧ (lf s (tE s)).head? = some 64 ∧ numRun (lf s (tE s + 1)) = (Lib.itoa v, txT t) ∧ Lib.atoiAll (Lib.itoa v) = .ok v ∧ rdT 6 (txT t) 0 = some (t, [], pT t 1) := by
  obtain ⟨h1, h2⟩ := h
  obtain ⟨a1, a2, a3, a4, -, a6, -⟩ := ev_parts h1 h2
  obtain ⟨b1, b2, b3, b4, b5⟩ := evOk_open h1
  have hte : tE s = ty.size := a2
  have hsz : s.data.toList.length = s.size := rfl
  have hty : ty.data.toList.length = ty.size := rfl
  have hl : lf s ty.size = 64 :: (Lib.itoa v ++ txT t) := a3
  refine ⟨?_, ?_, ?_, ?_, atoi_itoa v (by omega) (by omega), a6⟩
  · have hn := (name_size b1).1
    have hi := itoa_short (n := v) ⟨by omega, by omega⟩
    have ht := txT_small b5
    rw [← hsz, ← h2]
    unfold evT
    simp only [List.length_append, List.length_cons]
    omega
  · rw [hte]
    apply ByteArray.ext
    apply Array.toList_inj.1
    have e : (s.extract 0 ty.size).data.toList = s.data.toList.take ty.size := by simp
    rw [e, ← h2]
    unfold evT
    rw [← hty, List.take_left]
  · rw [hte, hl]; rfl
  · rw [hte, lf_next, hl]
    exact a4

/-- What was read is the text. -/
theorem ev_make {s : ByteArray} {n : Int} {t : Tr} {q : Int} (h64 : (lf s (tE s)).head? = some 64) (hn : Lib.itoa n = (numRun (lf s (tE s + 1))).1) (hr : rdT 6 (numRun (lf s (tE s + 1))).2 0 = some (t, [], q)) : evT (s.extract 0 (tE s)) n t = s.data.toList := by
  have h1 := (rdT_sound 6 _ _ _ _ _ (Nat.le_refl _) hr).1
  rw [List.append_nil] at h1
  unfold evT
  rw [hn, ← h1, numRun_cat, lf_next]
  have e : (s.extract 0 (tE s)).data.toList = s.data.toList.take (tE s) := by simp
  rw [e]
  have e2 : (64 : UInt8) :: (lf s (tE s)).tail = lf s (tE s) := by
    cases hl : lf s (tE s) with
    | nil => rw [hl] at h64; simp at h64
    | cons c r => rw [hl] at h64; simp only [List.head?_cons, Option.some.injEq] at h64; rw [h64]; rfl
  rw [e2]
  exact List.take_append_drop _ _
theorem ev_wlk {t : Tr} {inp rest : List UInt8} {q : Int} (hr : rdT 6 inp 0 = some (t, rest, q)) : wlk t 0 0 = some q := by
  have := (rdT_sound 6 _ _ _ _ _ (Nat.le_refl _) hr).2
  simpa using this
end Go.Proofs.YtgamonfmgngilaaGreatDoor
