/- The walk of the program's byteCursor.tree. No conditions. -/
import Derived.Test.YtiflfcjocngiiaaGreatDoorPart08
import Derived.Test.YtiflfcjocngiiaaGreatDoorPart09
import Derived.Test.YtiflfcjocngiiaaGreatDoorPart03
import Derived.Test.YtiflfcjocngiiaaGreatDoorPart01
import Derived.Laws.RangeAny
import Derived.WalkMore
import Derived.Test.YtiflfcjocngiiaaGreatDoorPart00
namespace Go.Proofs.YtiflfcjocngiiaaGreatDoor
open Go Go.RowKit

theorem own_leaf (w : World) (s n : Int) (tx : ByteArray) (hs : I64 s) (hn : I64 n) (ht : tx.size ≤ 9223372036854775807) : Own w (.mk s n tx [] []) ⟨.int .i64 s, .int .i64 n, .string tx, .slice none 0 0, .slice none 0 0⟩ [] :=
  Own.make (t := .mk s n tx [] []) (F1 := []) (F2 := []) rfl rfl rfl hs hn ht ⟨none, 0, rfl, by simp [Tr.names], Or.inl ⟨rfl, rfl⟩⟩ ⟨none, 0, rfl, by simp [Tr.kids], Or.inl ⟨rfl, rfl⟩⟩

/-- The boxes of a tree that is being read: what is answered, and what is read. -/
structure TwoB (R X Y : Nat) (w wr : World) (c : C5) : Prop where
  but : But R w wr
  rX : wr.rowIs X 39 5 (row5 (.int .i64 0) (.int .i64 0) (.string ⟨#[]⟩) (.slice none 0 0) (.slice none 0 0))
  rY : wr.rowIs Y 39 5 (row5 c.c0 c.c1 c.c2 c.c3 c.c4)
  lt : w.heap.size ≤ X ∧ X < Y
  hR : R < w.heap.size

theorem TwoB.start {R a : Nat} {w w1 : World} {v : Value} {b : List UInt8} (h : Cu R w v b a) (hb : But R (w.alloc (.cells #[.int .i64 0, .int .i64 0, .string ⟨#[]⟩, .slice none 0 0, .slice none 0 0] 39)) w1) (x : Int) :
    TwoB R w.heap.size w1.heap.size w (w1.alloc (.cells #[.int .i64 x, .int .i64 0, .string ⟨#[]⟩, .slice none 0 0, .slice none 0 0] 39)) ⟨.int .i64 x, .int .i64 0, .string ⟨#[]⟩, .slice none 0 0, .slice none 0 0⟩ := by
  have hR := h.cells.lt
  have hs := hb.size
  rw [World.size_alloc] at hs
  refine ⟨((But.alloc R w _).trans hb).trans (But.alloc R w1 _), ?_, row5_alloc w1 _ _ _ _ _ _, ⟨Nat.le_refl _, by omega⟩, hR⟩
  exact ((row5_alloc w (.int .i64 0) (.int .i64 0) (.string ⟨#[]⟩) (.slice none 0 0) (.slice none 0 0) 39).of_block (hb.at (by simp) (by omega))).alloc _

theorem TwoB.on {R X Y : Nat} {w wr w' : World} {c : C5} (h : TwoB R X Y w wr c) (hb : But R wr w') : TwoB R X Y w w' c := by
  have := h.lt; have := h.hR
  exact ⟨h.but.trans hb, h.rX.of_block (hb.at h.rX.lt (by omega)), h.rY.of_block (hb.at h.rY.lt (by omega)), h.lt, h.hR⟩

theorem but_set {R X : Nat} {w wr : World} (h : But R w wr) (hX : w.heap.size ≤ X) (o : Nat) (u : Value) : But R w (wr.setCell ⟨X, o, none⟩ u) :=
  ⟨h.os, h.tape, h.output, by simp [World.setCell]; exact h.size, fun i hi hne => by
    rw [Below.heap_setCell _ _ _ _ (by simp; omega)]
    exact h.block i hi hne⟩

theorem Cu.set {R X : Nat} {w : World} {v : Value} {b : List UInt8} {a : Nat} (h : Cu R w v b a) (hX : R < X) (o : Nat) (u : Value) : Cu R (w.setCell ⟨X, o, none⟩ u) v b a :=
  ⟨h.cells.of_block (Below.heap_setCell _ _ _ _ (by simp; omega)), h.row.of_block (fun g e => Below.heap_setCell _ _ _ _ (by have := h.own g e; simp; omega)), h.own, h.le, h.small⟩

theorem but2_new {R Y : Nat} {w W w2 : World} (h : But R w W) (k : But2 R Y W w2) (hY : w.heap.size ≤ Y) : But R w w2 :=
  ⟨k.os.trans h.os, k.tape.trans h.tape, k.output.trans h.output, Nat.le_trans h.size k.size, fun i hi hne => (k.block i (Nat.lt_of_lt_of_le hi h.size) (fun e => hne (by rw [e])) (by omega)).trans (h.block i hi hne)⟩

theorem pnum_bound {l : List UInt8} {v : Int} {rest : List UInt8} (h : pnum l = some (v, rest)) : -999999999 ≤ v ∧ v ≤ 999999999 := by
  match l, h with
  | [], h => simp [pnum] at h
  | b :: l, h =>
    rw [pnum] at h
    match hs : psz 5 1 0 l, h with
    | none, h => simp at h
    | some (s, r), h =>
      obtain ⟨_, _, _, _, h4⟩ := psz_sound 5 1 0 l s r (by decide) hs
      simp only at h
      split at h
      · simp only [Option.some.injEq, Prod.mk.injEq] at h
        obtain ⟨rfl, -⟩ := h
        split <;> omega
      · cases h

set_option maxRecDepth 100000 in
set_option maxHeartbeats 6400000 in
theorem treeP_step (f : Nat) (IH : UnT f) : UnT (f + 1) := by
  intro R w v b a h hlen
  have hbx : ∀ o, But R w (w.alloc o) := fun o => But.alloc R w o
  have hcuA := fun o => h.on ((Below.refl _ w).alloc (Nat.le_refl _) o)
  by_cases hlt : a < b.length
  · have hdr := List.drop_eq_getElem_cons hlt
    have hl1 : (b.drop (a + 1)).length < f := by rw [hdr] at hlen; simp at hlen ⊢; omega
    have HNX := hide (fun o => nextP_yes R (w.alloc o) v b a (hcuA o) hlt)
    have hx8 := b[a].toNat_lt
    have HTB := hide (fun w1 hb => TwoB.start (w1 := w1) h hb (b[a].toNat : Int))
    have hres : ptree (f + 1) (b.drop a) = (if b[a].toNat = 1 then (match pnum (b.drop (a + 1)) with | none => none | some (v, r) => some (.mk 1 v ByteArray.empty [] [], r))
      else if b[a].toNat = 2 then (match ptx (b.drop (a + 1)) with | none => none | some (s, r) => some (.mk 2 0 s [] [], r))
      else if b[a].toNat = 3 then (match b.drop (a + 1) with | [] => none | y :: r => some (.mk 3 y.toNat ByteArray.empty [] [], r))
      else match (match b.drop (a + 1) with | [] => none | c :: r => pkids (ptree f) (decide ((b[a].toNat : Int) = 5)) c.toNat r) with
        | none => none
        | some (ns, ks, r') => some (.mk b[a].toNat 0 ByteArray.empty ns ks, r')) := by
      rw [hdr]
      unfold ptree
      have e5 : decide ((b[a].toNat : Int) = 5) = decide (b[a].toNat = 5) := by
        by_cases h5 : b[a].toNat = 5 <;> simp [h5]; omega
      rw [e5]
      split
      · rfl
      split
      · rfl
      split
      · rfl
      cases b.drop (a + 1) <;> rfl
    generalize b[a].toNat = x at *
    obtain ⟨res, hr⟩ : ∃ res, res = ptree (f + 1) (b.drop a) := ⟨_, rfl⟩
    rw [← hr] at hres ⊢
    have HC1 := hide (fun (w1 : World) (hc : Cu R w1 v b (a + 1)) (o : Obj) => hc.on ((Below.refl _ w1).alloc (Nat.le_refl _) o))
    clear hr hdr hcuA hbx h
    rcases (show x = 1 ∨ x = 2 ∨ x = 3 ∨ (x ≠ 1 ∧ x ≠ 2 ∧ x ≠ 3) by omega) with hx | hx | hx | ⟨hx1, hx2, hx3⟩
    · subst hx
      simp only [if_true] at hres
      have HNU := hide (fun (W : World) (hW : Cu R W v b (a + 1)) => numP_any R W v b (a + 1) hW)
      go_enter Tryz.func65, Tryz.ntmps65
      go_wp2_with fail
      refine (unhide HNX _).mono ?_
      rintro e w1 ⟨rfl, hcu1, hb1⟩
      have HT1 := hide (unhide HTB w1 hb1); have HN1 := hide (unhide HNU _ (unhide HC1 w1 hcu1 (.cells #[.int .i64 1, .int .i64 0, .string ⟨#[]⟩, .slice none 0 0, .slice none 0 0] 39)))
      clear hcu1 hb1 HNX HTB HNU HC1
      go_wp2_with fail
      refine (unhide HN1).mono ?_
      rintro e w2 ⟨hb2, hm⟩
      have hT2 := (unhide HT1).on hb2
      cases hn : pnum (b.drop (a + 1)) with
      | none =>
        rw [hn] at hm hres
        simp only at hm hres
        subst hm hres
        exact ⟨rfl, hT2.but, rfl⟩
      | some y =>
        obtain ⟨u, rest⟩ := y
        have hu : I64 u := by have := pnum_bound hn; exact ⟨by omega, by omega⟩
        rw [hn] at hm hres
        simp only at hm hres
        obtain ⟨rfl, a', ha', hcu2, hrest⟩ := hm
        clear hn HN1
        have p0 := hT2.rX.cell (i := 0) (by omega); have p1 := hT2.rX.cell (i := 1) (by omega); have p2 := hT2.rX.cell (i := 2) (by omega); have p3 := hT2.rX.cell (i := 3) (by omega); have p4 := hT2.rX.cell (i := 4) (by omega); have pf := hT2.rX.frozen
        have q0 := hT2.rY.cell (i := 0) (by omega); have q1 := hT2.rY.cell (i := 1) (by omega); have q2 := hT2.rY.cell (i := 2) (by omega); have q3 := hT2.rY.cell (i := 3) (by omega); have q4 := hT2.rY.cell (i := 4) (by omega); have qf := hT2.rY.frozen
        simp only [row5] at p0 p1 p2 p3 p4 q0 q1 q2 q3 q4
        have hne : w.heap.size ≠ w1.heap.size := by have := hT2.lt; omega
        have hne2 : w1.heap.size ≠ w.heap.size := by omega
        have HT2 := hide hT2; have HCU2 := hide hcu2
        clear hT2 hcu2 hb2 HT1
        go_wp2_with fail
        refine bodyPost_ret (v := .agg #[.int .i64 1, .int .i64 u, .string ⟨#[]⟩, .slice none 0 0, .slice none 0 0]) (by simp [results, Tryz.results65, go_sem, p0, p1, p2, p3, p4]) rfl ?_
        have hlt2 := (unhide HT2).lt
        have hR2 := (unhide HT2).hR
        refine ⟨?_, ?_⟩
        · repeat refine but_set ?_ (by omega) _ _
          exact (unhide HT2).but
        · subst hres
          refine ⟨⟨_, _, _, _, _⟩, _, rfl, own_leaf _ 1 u ByteArray.empty ⟨by decide, by decide⟩ hu (by decide), List.nodup_nil, (fun x hx => by cases hx), a', by omega, ?_, hrest⟩
          repeat refine Cu.set ?_ (by omega) _ _
          exact unhide HCU2
    · subst hx
      simp only [show (2 : Nat) ≠ 1 from by decide, if_true, if_false] at hres
      cases hn : ptx (b.drop (a + 1)) with
      | none =>
        rw [hn] at hres
        simp only at hres
        subst hres
        have HNU := hide (fun (W : World) (hW : Cu R W v b (a + 1)) => textP_no R W v b (a + 1) hW hn)
        go_enter Tryz.func65, Tryz.ntmps65
        go_wp2_with fail
        refine (unhide HNX _).mono ?_
        rintro e w1 ⟨rfl, hcu1, hb1⟩
        have HT1 := hide (unhide HTB w1 hb1); have HN1 := hide (unhide HNU _ (unhide HC1 w1 hcu1 (.cells #[.int .i64 2, .int .i64 0, .string ⟨#[]⟩, .slice none 0 0, .slice none 0 0] 39)))
        clear hcu1 hb1 HNX HTB HNU HC1
        go_wp2_with fail
        refine (unhide HN1).mono ?_
        rintro e w2 ⟨rfl, hb2⟩
        exact ⟨rfl, ((unhide HT1).on hb2).but, rfl⟩
      | some y =>
        obtain ⟨u, rest⟩ := y
        rw [hn] at hres
        simp only at hres
        have hu := (ptx_sound hn).2
        have HNU := hide (fun (W : World) (hW : Cu R W v b (a + 1)) => textP_yes R W v b (a + 1) u rest hW hn)
        go_enter Tryz.func65, Tryz.ntmps65
        go_wp2_with fail
        refine (unhide HNX _).mono ?_
        rintro e w1 ⟨rfl, hcu1, hb1⟩
        have HT1 := hide (unhide HTB w1 hb1); have HN1 := hide (unhide HNU _ (unhide HC1 w1 hcu1 (.cells #[.int .i64 2, .int .i64 0, .string ⟨#[]⟩, .slice none 0 0, .slice none 0 0] 39)))
        clear hcu1 hb1 HNX HTB HNU HC1
        go_wp2_with fail
        refine (unhide HN1).mono ?_
        rintro e w2 ⟨rfl, ⟨a', ha', hcu2, hrest⟩, hb2⟩
        have hT2 := (unhide HT1).on hb2
        clear hn HN1
        have p0 := hT2.rX.cell (i := 0) (by omega); have p1 := hT2.rX.cell (i := 1) (by omega); have p2 := hT2.rX.cell (i := 2) (by omega); have p3 := hT2.rX.cell (i := 3) (by omega); have p4 := hT2.rX.cell (i := 4) (by omega); have pf := hT2.rX.frozen
        have q0 := hT2.rY.cell (i := 0) (by omega); have q1 := hT2.rY.cell (i := 1) (by omega); have q2 := hT2.rY.cell (i := 2) (by omega); have q3 := hT2.rY.cell (i := 3) (by omega); have q4 := hT2.rY.cell (i := 4) (by omega); have qf := hT2.rY.frozen
        simp only [row5] at p0 p1 p2 p3 p4 q0 q1 q2 q3 q4
        have hne : w.heap.size ≠ w1.heap.size := by have := hT2.lt; omega
        have hne2 : w1.heap.size ≠ w.heap.size := by omega
        have HT2 := hide hT2; have HCU2 := hide hcu2
        clear hT2 hcu2 hb2 HT1
        go_wp2_with fail
        refine bodyPost_ret (v := .agg #[.int .i64 2, .int .i64 0, .string u, .slice none 0 0, .slice none 0 0]) (by simp [results, Tryz.results65, go_sem, p0, p1, p2, p3, p4]) rfl ?_
        have hlt2 := (unhide HT2).lt
        have hR2 := (unhide HT2).hR
        refine ⟨?_, ?_⟩
        · repeat refine but_set ?_ (by omega) _ _
          exact (unhide HT2).but
        · subst hres
          refine ⟨⟨_, _, _, _, _⟩, _, rfl, own_leaf _ 2 0 u ⟨by decide, by decide⟩ ⟨by decide, by decide⟩ (by omega), List.nodup_nil, (fun x hx => by cases hx), a', by omega, ?_, hrest⟩
          repeat refine Cu.set ?_ (by omega) _ _
          exact unhide HCU2
    · subst hx
      simp only [show (3 : Nat) ≠ 1 from by decide, show (3 : Nat) ≠ 2 from by decide, if_true, if_false] at hres
      by_cases hlt2 : a + 1 < b.length
      · have hd2 := List.drop_eq_getElem_cons hlt2
        rw [hd2] at hres
        simp only at hres
        have hu8 := b[a + 1].toNat_lt
        have HNU := hide (fun (W : World) (hW : Cu R W v b (a + 1)) => nextP_yes R W v b (a + 1) hW hlt2)
        go_enter Tryz.func65, Tryz.ntmps65
        go_wp2_with fail
        refine (unhide HNX _).mono ?_
        rintro e w1 ⟨rfl, hcu1, hb1⟩
        have HT1 := hide (unhide HTB w1 hb1); have HN1 := hide (unhide HNU _ (unhide HC1 w1 hcu1 (.cells #[.int .i64 3, .int .i64 0, .string ⟨#[]⟩, .slice none 0 0, .slice none 0 0] 39)))
        clear hcu1 hb1 HNX HTB HNU HC1
        go_wp2_with fail
        refine (unhide HN1).mono ?_
        rintro e w2 ⟨rfl, hcu2, hb2⟩
        have hT2 := (unhide HT1).on hb2
        obtain ⟨a', ha'⟩ : ∃ a', a' = a + 1 + 1 := ⟨_, rfl⟩
        have hrest : b.drop (a + 1 + 1) = b.drop a' := by rw [ha']
        rw [← ha'] at hcu2
        generalize b[a + 1].toNat = u at *
        clear hd2 HN1
        have p0 := hT2.rX.cell (i := 0) (by omega); have p1 := hT2.rX.cell (i := 1) (by omega); have p2 := hT2.rX.cell (i := 2) (by omega); have p3 := hT2.rX.cell (i := 3) (by omega); have p4 := hT2.rX.cell (i := 4) (by omega); have pf := hT2.rX.frozen
        have q0 := hT2.rY.cell (i := 0) (by omega); have q1 := hT2.rY.cell (i := 1) (by omega); have q2 := hT2.rY.cell (i := 2) (by omega); have q3 := hT2.rY.cell (i := 3) (by omega); have q4 := hT2.rY.cell (i := 4) (by omega); have qf := hT2.rY.frozen
        simp only [row5] at p0 p1 p2 p3 p4 q0 q1 q2 q3 q4
        have hne : w.heap.size ≠ w1.heap.size := by have := hT2.lt; omega
        have hne2 : w1.heap.size ≠ w.heap.size := by omega
        have HT2 := hide hT2; have HCU2 := hide hcu2
        clear hT2 hcu2 hb2 HT1
        go_wp2_with fail
        refine bodyPost_ret (v := .agg #[.int .i64 3, .int .i64 (u : Int), .string ⟨#[]⟩, .slice none 0 0, .slice none 0 0]) (by simp [results, Tryz.results65, go_sem, p0, p1, p2, p3, p4]) rfl ?_
        have hlt2 := (unhide HT2).lt
        have hR2 := (unhide HT2).hR
        refine ⟨?_, ?_⟩
        · repeat refine but_set ?_ (by omega) _ _
          exact (unhide HT2).but
        · subst hres
          refine ⟨⟨_, _, _, _, _⟩, _, rfl, own_leaf _ 3 u ByteArray.empty ⟨by decide, by decide⟩ ⟨by omega, by omega⟩ (by decide), List.nodup_nil, (fun x hx => by cases hx), a', by omega, ?_, hrest⟩
          repeat refine Cu.set ?_ (by omega) _ _
          exact unhide HCU2
      · rw [List.drop_eq_nil_of_le (by omega : b.length ≤ a + 1)] at hres
        simp only at hres
        subst hres
        have HNU := hide (fun (W : World) (hW : Cu R W v b (a + 1)) => nextP_no R W v b (a + 1) hW (by omega))
        go_enter Tryz.func65, Tryz.ntmps65
        go_wp2_with fail
        refine (unhide HNX _).mono ?_
        rintro e w1 ⟨rfl, hcu1, hb1⟩
        have HT1 := hide (unhide HTB w1 hb1); have HN1 := hide (unhide HNU _ (unhide HC1 w1 hcu1 (.cells #[.int .i64 3, .int .i64 0, .string ⟨#[]⟩, .slice none 0 0, .slice none 0 0] 39)))
        clear hcu1 hb1 HNX HTB HNU HC1
        go_wp2_with fail
        refine (unhide HN1).mono ?_
        rintro e w2 ⟨rfl, hb2⟩
        exact ⟨rfl, ((unhide HT1).on hb2).but, rfl⟩
    · rw [if_neg hx1, if_neg hx2, if_neg hx3] at hres
      have q1 : ((x : Int) == 1) = false := by simp; omega
      have q2 : ((x : Int) == 2) = false := by simp; omega
      have q3 : ((x : Int) == 3) = false := by simp; omega
      have hkids : ∀ (W : World) (Y : Nat), Cu R W v b (a + 1) → SInv (Y + 1) Y W (x : Int) (.slice none 0 0) (.slice none 0 0) [] [] [] [] → R < Y → W.heap.size = Y + 1 → Calls Tryz.prog 75 #[.pointer (some ⟨R, 0, none⟩), .pointer (some ⟨Y, 0, none⟩)] W fun e w' => KdEnd R Y W w' v b (a + 1) (x : Int) (match b.drop (a + 1) with | [] => none | c :: r => pkids (ptree f) (decide ((x : Int) = 5)) c.toNat r) e := fun W Y hc hi hRY hYw => by
        cases h5 : decide ((x : Int) = 5) with
        | true => rw [← h5]; exact kidsP_form f IH R Y W v b (a + 1) x hc hi hRY hYw hl1 h5
        | false => rw [← h5]; exact kidsP_list f IH R Y W v b (a + 1) x hc hi hRY hYw hl1 h5
      generalize (match b.drop (a + 1) with | [] => none | c :: r => pkids (ptree f) (decide ((x : Int) = 5)) c.toNat r) = kr at *
      have HKI := hide hkids
      clear hkids IH hx1 hx2 hx3
      go_enter Tryz.func65, Tryz.ntmps65
      go_wp2_with fail
      refine (unhide HNX _).mono ?_
      rintro e w1 ⟨rfl, hcu1, hb1⟩
      have hT1 := unhide HTB w1 hb1
      have hlt1 := hT1.lt
      have hR1 := hT1.hR
      have hi1 : SInv (w1.heap.size + 1) w1.heap.size (w1.alloc (.cells #[.int .i64 (x : Int), .int .i64 0, .string ⟨#[]⟩, .slice none 0 0, .slice none 0 0] 39)) (x : Int) (.slice none 0 0) (.slice none 0 0) [] [] [] [] :=
        ⟨Nat.lt_succ_self _, hT1.rY, ⟨rfl, Or.inl ⟨rfl, rfl⟩⟩, ⟨⟨rfl, Or.inl ⟨rfl, rfl⟩⟩, ⟨rfl, rfl⟩, List.nodup_nil, fun b hb => by cases hb⟩, (fun b e => by cases e), by simp⟩
      have HN1 := hide (unhide HKI _ w1.heap.size (unhide HC1 w1 hcu1 (.cells #[.int .i64 (x : Int), .int .i64 0, .string ⟨#[]⟩, .slice none 0 0, .slice none 0 0] 39)) hi1 (by omega) (by simp))
      have HT1 := hide hT1
      clear hcu1 hb1 HNX HTB HKI HC1 hT1 hi1
      go_wp2_with fail
      refine (unhide HN1).mono ?_
      rintro e w2 ⟨hb2, hm⟩
      cases kr with
      | none =>
        simp only at hm hres
        subst hm hres
        exact ⟨rfl, but2_new (unhide HT1).but hb2 (by omega), rfl⟩
      | some y =>
        obtain ⟨ns, ks, rest⟩ := y
        simp only at hm hres
        obtain ⟨rfl, vN, vK, xs, G, a', hinv, hns, ha', hcu2, hrest⟩ := hm
        obtain ⟨F, hown, hnd, hF⟩ := hinv.done ⟨by omega, by omega⟩ (fun y hy => by have := hns y hy; omega)
        obtain ⟨-, -, -, -, -, -, F1, F2, -, ⟨aN, capN, g3, -⟩, aK, capK, g4, -⟩ := hown.open
        simp only at g3 g4
        subst g3 g4
        have hT2 : TwoB R w.heap.size w1.heap.size w w2 ⟨.int .i64 (x : Int), .int .i64 0, .string ⟨#[]⟩, .slice aN ns.length capN, .slice aK ks.length capK⟩ :=
          ⟨but2_new (unhide HT1).but hb2 (by omega), (unhide HT1).rX.of_block (hb2.block _ (unhide HT1).rX.lt (by omega) (by omega)), hinv.cells, (unhide HT1).lt, (unhide HT1).hR⟩
        have HOWN := hide hown; have HF := hide hF
        clear hinv hown hF hns HN1
        have p0 := hT2.rX.cell (i := 0) (by omega); have p1 := hT2.rX.cell (i := 1) (by omega); have p2 := hT2.rX.cell (i := 2) (by omega); have p3 := hT2.rX.cell (i := 3) (by omega); have p4 := hT2.rX.cell (i := 4) (by omega); have pf := hT2.rX.frozen
        have q0 := hT2.rY.cell (i := 0) (by omega); have q1 := hT2.rY.cell (i := 1) (by omega); have q2 := hT2.rY.cell (i := 2) (by omega); have q3 := hT2.rY.cell (i := 3) (by omega); have q4 := hT2.rY.cell (i := 4) (by omega); have qf := hT2.rY.frozen
        simp only [row5] at p0 p1 p2 p3 p4 q0 q1 q2 q3 q4
        have hne : w.heap.size ≠ w1.heap.size := by have := hT2.lt; omega
        have hne2 : w1.heap.size ≠ w.heap.size := by omega
        have HT2 := hide hT2; have HCU2 := hide hcu2
        clear hT2 hcu2 hb2 HT1
        go_wp2_with fail
        refine bodyPost_ret (v := .agg #[.int .i64 (x : Int), .int .i64 0, .string ⟨#[]⟩, .slice aN ns.length capN, .slice aK ks.length capK]) (by simp [results, Tryz.results65, go_sem, p0, p1, p2, p3, p4]) rfl ?_
        have hlt2 := (unhide HT2).lt
        have hR2 := (unhide HT2).hR
        refine ⟨?_, ?_⟩
        · repeat refine but_set ?_ (by omega) _ _
          exact (unhide HT2).but
        · subst hres
          refine ⟨⟨_, _, _, _, _⟩, _, rfl, Own.carry _ _ F (fun y hy => by have := unhide HF y hy; repeat rw [Below.heap_setCell _ _ _ _ (by simp <;> omega)]) (unhide HOWN), hnd, fun y hy => ⟨by have := (unhide HF y hy).1; omega, by simp only [size_setCell]; exact (unhide HF y hy).2⟩, a', by omega, ?_, hrest⟩
          repeat refine Cu.set ?_ (by omega) _ _
          exact unhide HCU2
  · have HNX := hide (fun o => nextP_no R (w.alloc o) v b a (hcuA o) (by omega))
    have hres : ptree (f + 1) (b.drop a) = none := by rw [List.drop_eq_nil_of_le (by omega)]; unfold ptree; rfl
    rw [hres]
    clear hcuA h
    go_enter Tryz.func65, Tryz.ntmps65
    go_wp2_with fail
    refine (unhide HNX _).mono ?_
    rintro e w1 ⟨rfl, hb1⟩
    exact ⟨rfl, (hbx _).trans hb1, rfl⟩

theorem treeP_all : ∀ f, UnT f
  | 0 => fun R w v b a h hl => by omega
  | f + 1 => treeP_step f (treeP_all f)
end Go.Proofs.YtiflfcjocngiiaaGreatDoor

/- The walk of the program's typeEnd: it ends, and of a name it answers the length. No conditions but the text's length, at most 2^20. -/

namespace Go.Proofs.YtiflfcjocngiiaaGreatDoor
open Go Go.RowKit

theorem nameByte_high {c : UInt8} (h : 128 ≤ c.toNat) : nameByte c = false := nameByte_no (Or.inr (Or.inr (by omega)))

/-- Where a type ends. -/
def tE (s : ByteArray) : Nat := ((s.data.toList.take 8).takeWhile nameByte).length

theorem tE_at {s : ByteArray} {k : Nat} (ha : allTo nameByte s k) (hk : k ≤ s.size) (h8 : k ≤ 8) (h : k = s.size ∨ k = 8 ∨ ∃ h : k < s.size, nameByte s[k] = false) : tE s = k := by
  have hsz : s.data.toList.length = s.size := by simp
  have hl : ((s.data.toList.take 8).take k).length = k := by simp; omega
  have hall : ∀ x ∈ (s.data.toList.take 8).take k, nameByte x = true := fun x hx => by
    obtain ⟨i, hi, rfl⟩ := List.getElem_of_mem hx
    rw [hl] at hi
    simp only [List.getElem_take]
    exact ha i hi (by omega)
  have hsplit := List.take_append_drop k (s.data.toList.take 8)
  unfold tE
  rw [← hsplit, List.takeWhile_append_of_pos hall, List.length_append, hl]
  have : ((s.data.toList.take 8).drop k).takeWhile nameByte = [] := by
    rcases h with h | h | ⟨hlt, h⟩
    · rw [List.drop_eq_nil_of_le (by simp; omega)]; rfl
    · rw [List.drop_eq_nil_of_le (by simp; omega)]; rfl
    · by_cases e8 : k = 8
      · rw [List.drop_eq_nil_of_le (by simp; omega)]; rfl
      · rw [List.drop_eq_getElem_cons (by simp; omega)]
        have e : (s.data.toList.take 8)[k]'(by simp; omega) = s[k] := by simp only [List.getElem_take]; rfl
        rw [e, List.takeWhile_cons, h]; rfl
  rw [this]; rfl

theorem tE_name {s : ByteArray} (h : nameOkB s = true) : tE s = s.size := by
  unfold nameOkB at h
  simp only [Bool.and_eq_true, decide_eq_true_eq] at h
  refine tE_at (fun j hj hjs => ?_) (Nat.le_refl _) h.1.1.2 (Or.inl rfl)
  exact List.all_eq_true.1 h.2 _ (by simp [ByteArray.getElem_eq_getElem_data])

theorem iter_below (w : World) (s : ByteArray) (k : Nat) : Below w.heap.size w (w.iter s k) := (Below.refl _ _).alloc (Nat.le_refl _) _

set_option maxRecDepth 100000 in
set_option maxHeartbeats 1600000 in
theorem typeEnd_any (s : ByteArray) (w : World) (_hs : s.size ≤ 1048576) :
    Calls Tryz.prog 64 #[.string s] w fun e w' => e = .returned (.int .i64 (tE s : Int)) ∧ Below w.heap.size w w' := by
  go_enter Tryz.func64, Tryz.ntmps64
  go_wp2_with fail
  go_step3
  go_wp2_with fail
  go_step3
  go_wp2_with fail
  go_loopw [3] (fun en wr => ∃ (k : Nat), k ≤ s.size ∧ k ≤ 8 ∧ en = .int .i64 k ∧ wr = w.iter s k ∧ Hid (allTo nameByte s k)) (fun en _ => s.size - (intOf en).toNat)
  case atStart => exact ⟨0, Nat.zero_le _, by omega, rfl, rfl, fun j hj => by omega⟩
  case round =>
    obtain ⟨k, hk, hk8, rfl, rfl, HA⟩ := hrel
    by_cases hlt : k < s.size
    · by_cases hc : s[k].toNat < 128
      · have hnx := fun ty => run_next_ascii (P := Tryz.prog) w s k ty hlt hc
        by_cases h8 : k = 8
        · have HN := hide (tE_at HA.out hk hk8 (Or.inr (Or.inl h8)))
          subst h8
          go_wp2_with fail
          try rw [Exit.noGoto_ret]
          go_ret
          exact ⟨by rw [unhide HN]; first | done | rfl, iter_below _ _ _⟩
        · have h8b : ((k : Int) == 8) = false := by simp; omega
          have HNB := hide (fun W => isNameByte_any s[k] W)
          have HNOT := hide (fun (h : nameByte s[k] = false) => tE_at HA.out hk hk8 (Or.inr (Or.inr ⟨hlt, h⟩)))
          have HYES := hide (fun (h : nameByte s[k] = true) => allTo_succ HA.out hlt h)
          generalize s[k] = c at *
          have hcw : IntKind.u8.wrap (c.toNat : Int) = c.toNat := wraps_u8 _ (by omega) (by omega)
          cases hnb : nameByte c with
          | true =>
            rw [hnb] at HNB
            have HN := hide (unhide HYES hnb)
            clear HNOT hnb HYES
            go_wp2_with (go_at_call 68; refine (unhide HNB _).mono ?_; rintro e w' ⟨rfl, rfl⟩)
            go_roundw
            case rel => exact ⟨k + 1, by omega, by omega, by go_num, rfl, unhide HN⟩
            case measure => simp [intOf]; omega
          | false =>
            rw [hnb] at HNB
            have HN := hide (unhide HNOT hnb)
            clear HNOT hnb HYES
            go_wp2_with (go_at_call 68; refine (unhide HNB _).mono ?_; rintro e w' ⟨rfl, rfl⟩)
            try rw [Exit.noGoto_ret]
            go_ret
            exact ⟨by rw [unhide HN]; first | done | rfl, iter_below _ _ _⟩
      · have hnx := fun ty => run_next_any (P := Tryz.prog) w s k ty hlt
        have hd := decode_high s k hlt (by omega)
        have hdl := decode_le s k
        have HN := hide (tE_at HA.out hk hk8 (Or.inr (Or.inr ⟨hlt, nameByte_high (by omega)⟩)))
        generalize (Utf8.decode s k).1 = r at *
        generalize (Utf8.decode s k).2 = wd at *
        obtain ⟨hd1, -⟩ := hd
        clear hc
        by_cases h8 : k = 8
        · subst h8
          go_wp2_with fail
          try rw [Exit.noGoto_ret]
          go_ret
          exact ⟨by rw [unhide HN]; first | done | rfl, iter_below _ _ _⟩
        · have h8b : ((k : Int) == 8) = false := by simp; omega
          go_wp2_with fail
          try rw [Exit.noGoto_ret]
          go_ret
          exact ⟨by rw [unhide HN]; first | done | rfl, iter_below _ _ _⟩
    · have hnx := fun ty => run_next_end (P := Tryz.prog) w s k ty hlt
      have HN := hide (tE_at HA.out hk hk8 (Or.inl (by omega)))
      go_wp2_with fail
      try rw [Exit.noGoto_ret]
      go_ret
      exact ⟨by rw [unhide HN]; first | done | rfl, iter_below _ _ _⟩
end Go.Proofs.YtiflfcjocngiiaaGreatDoor

/- The seven cells of an event in memory. No program, no conditions. -/

namespace Go.Proofs.YtiflfcjocngiiaaGreatDoor
open Go Go.RowKit

def row7 (a b c0 c1 c2 c3 c4 : Value) : Nat → Value
  | 0 => a
  | 1 => b
  | 2 => c0
  | 3 => c1
  | 4 => c2
  | 5 => c3
  | _ => c4

theorem row7_alloc (w : World) (a b c0 c1 c2 c3 c4 : Value) (t : TypeId) : (w.alloc (.cells #[a, b, c0, c1, c2, c3, c4] t)).rowIs w.heap.size t 7 (row7 a b c0 c1 c2 c3 c4) :=
  World.rowIs_alloc w #[a, b, c0, c1, c2, c3, c4] t _ (fun i hi => by
    have hi' : i < 7 := hi
    match i, hi' with
    | 0, _ => rfl
    | 1, _ => rfl
    | 2, _ => rfl
    | 3, _ => rfl
    | 4, _ => rfl
    | 5, _ => rfl
    | 6, _ => rfl)

theorem ebox1 {w w1 : World} {a b x0 x1 x2 x3 x4 : Value} {tx : TypeId}
    (hb : Below (w.alloc (.cells #[a, b, x0, x1, x2, x3, x4] tx)).heap.size (w.alloc (.cells #[a, b, x0, x1, x2, x3, x4] tx)) w1) :
    w1.rowIs w.heap.size tx 7 (row7 a b x0 x1 x2 x3 x4) ∧ w.heap.size + 1 ≤ w1.heap.size ∧ Below w.heap.size w w1 := by
  have r0 := row7_alloc w a b x0 x1 x2 x3 x4 tx
  have hs := hb.size
  refine ⟨r0.of_block (hb.block _ r0.lt), by simpa using hs, ?_⟩
  exact ((Below.refl _ _).alloc (Nat.le_refl _) _).trans (hb.mono (by simp))

end Go.Proofs.YtiflfcjocngiiaaGreatDoor
