/- A part. -/
import Derived.Test.YtbkagahmiibclaaGreatDoorPart15
namespace Go.Proofs.YtbkagahmiibclaaGreatDoor
open Go Go.RowKit
set_option maxRecDepth 100000
set_option maxHeartbeats 6400000
theorem own_leaf (w : World) (s n : Int) (tx : ByteArray) (hs : I64 s) (hn : I64 n) (ht : tx.size ≤ 9223372036854775807) : Own w (.mk s n tx [] []) ⟨.int .i64 s, .int .i64 n, .string tx, .slice none 0 0, .slice none 0 0⟩ [] :=
 Own.make (t := .mk s n tx [] []) (F1 := []) (F2 := []) rfl rfl rfl hs hn ht ⟨none, 0, rfl, by simp [Tr.names], Or.inl ⟨rfl, rfl⟩⟩ ⟨none, 0, rfl, by simp [Tr.kids], Or.inl ⟨rfl, rfl⟩⟩
structure TwoB (R X Y : Nat) (w wr : World) (c : C5) : Prop where
 but : But R w wr
 rX : wr.rowIs X 26 5 (row5 (.int .i64 0) (.int .i64 0) (.string ⟨#[]⟩) (.slice none 0 0) (.slice none 0 0))
 rY : wr.rowIs Y 26 5 (row5 c.c0 c.c1 c.c2 c.c3 c.c4)
 lt : w.heap.size ≤ X ∧ X < Y
 hR : R < w.heap.size
theorem TwoB.start {R a : Nat} {w w1 : World} {v : Value} {b : List UInt8} (h : Cu R w v b a) (hb : But R (w.alloc (.cells #[.int .i64 0, .int .i64 0, .string ⟨#[]⟩, .slice none 0 0, .slice none 0 0] 26)) w1) (x : Int) :
 TwoB R w.heap.size w1.heap.size w (w1.alloc (.cells #[.int .i64 x, .int .i64 0, .string ⟨#[]⟩, .slice none 0 0, .slice none 0 0] 26)) ⟨.int .i64 x, .int .i64 0, .string ⟨#[]⟩, .slice none 0 0, .slice none 0 0⟩ := by
 have hR := h.cells.lt
 have hs := hb.size
 rw [World.size_alloc] at hs
 refine ⟨((But.alloc R w _).trans hb).trans (But.alloc R w1 _), ?_, row5_alloc w1 _ _ _ _ _ _, ⟨Nat.le_refl _, by omega⟩, hR⟩
 exact ((row5_alloc w (.int .i64 0) (.int .i64 0) (.string ⟨#[]⟩) (.slice none 0 0) (.slice none 0 0) 26).of_block (hb.at (by simp) (by omega))).alloc _
theorem TwoB.on {R X Y : Nat} {w wr w' : World} {c : C5} (h : TwoB R X Y w wr c) (hb : But R wr w') : TwoB R X Y w w' c := by
 have := h.lt; have := h.hR
 exact ⟨h.but.trans hb, h.rX.of_block (hb.at h.rX.lt (by omega)), h.rY.of_block (hb.at h.rY.lt (by omega)), h.lt, h.hR⟩
theorem but_set {R X : Nat} {w wr : World} (h : But R w wr) (hX : w.heap.size ≤ X) (o : Nat) (u : Value) : But R w (wr.setCell ⟨X, o, none⟩ u) :=
 ⟨h.os, h.tape, h.output, by simp [World.setCell]; exact h.size, fun i hi hne => by
  rw [Below.heap_setCell _ _ _ _ (by simp; omega)]
  exact h.block i hi hne⟩
theorem Cu.set {R X : Nat} {w : World} {v : Value} {b : List UInt8} {a : Nat} (h : Cu R w v b a) (hX : R < X) (o : Nat) (u : Value) : Cu R (w.setCell ⟨X, o, none⟩ u) v b a :=
 ⟨h.cells.of_block (Below.heap_setCell _ _ _ _ (by simp; omega)), h.row.of_block (fun g e => Below.heap_setCell _ _ _ _ (by have := h.own g e; simp; omega)), h.own, h.le, h.small⟩
theorem but2_new {R Y : Nat} {w W w2 : World} (h : But R w W) (k : But2 R Y W w2) (hY : w.heap.size ≤ Y) : But R w w2 :=
 ⟨k.os.trans h.os, k.tape.trans h.tape, k.output.trans h.output, Nat.le_trans h.size k.size, fun i hi hne => (k.block i (Nat.lt_of_lt_of_le hi h.size) (fun e => hne (by rw [e])) (by omega)).trans (h.block i hi hne)⟩
theorem pnum_bound {l : List UInt8} {v : Int} {rest : List UInt8} (h : pnum l = some (v, rest)) : -999999999 ≤ v ∧ v ≤ 999999999 := by
 match l, h with
 | [], h => simp [pnum] at h
 | b :: l, h =>
   rw [pnum] at h
   match hs : psz 5 1 0 l, h with
   | none, h => simp at h
   | some (s, r), h =>
     obtain ⟨_, _, _, _, h4⟩ := psz_sound 5 1 0 l s r (by decide) hs
     simp only at h
     split at h
     · simp only [Option.some.injEq, Prod.mk.injEq] at h
       obtain ⟨rfl, -⟩ := h
       split <;> omega
     · cases h
theorem treeP_step (f : Nat) (IH : UnT f) : UnT (f + 1) := by
 intro R w v b a h hlen
 have hbx : ∀ o, But R w (w.alloc o) := fun o => But.alloc R w o
 have hcuA := fun o => h.on ((Below.refl _ w).alloc (Nat.le_refl _) o)
 by_cases hlt : a < b.length
 · have hdr := List.drop_eq_getElem_cons hlt
   have hl1 : (b.drop (a + 1)).length < f := by rw [hdr] at hlen; simp at hlen ⊢; omega
   have HNX := hH (fun o => nextP_yes R (w.alloc o) v b a (hcuA o) hlt)
   have hx8 := b[a].toNat_lt
   have HTB := hH (fun w1 hb => TwoB.start (w1 := w1) h hb (b[a].toNat : Int))
   have hres : ptree (f + 1) (b.drop a) = (if b[a].toNat = 1 then (match pnum (b.drop (a + 1)) with | none => none | some (v, r) => some (.mk 1 v ByteArray.empty [] [], r))
    else if b[a].toNat = 2 then (match ptx (b.drop (a + 1)) with | none => none | some (s, r) => some (.mk 2 0 s [] [], r))
    else if b[a].toNat = 3 then (match b.drop (a + 1) with | [] => none | y :: r => some (.mk 3 y.toNat ByteArray.empty [] [], r))
    else match (match b.drop (a + 1) with | [] => none | c :: r => pkids (ptree f) (decide ((b[a].toNat : Int) = 5)) c.toNat r) with
     | none => none
     | some (ns, ks, r') => some (.mk b[a].toNat 0 ByteArray.empty ns ks, r')) := by
    rw [hdr]
    unfold ptree
    have e5 : decide ((b[a].toNat : Int) = 5) = decide (b[a].toNat = 5) := by
     by_cases h5 : b[a].toNat = 5 <;> simp [h5]; omega
    rw [e5]
    split
    · rfl
    split
    · rfl
    split
    · rfl
    cases b.drop (a + 1) <;> rfl
   generalize b[a].toNat = x at *
   obtain ⟨res, hr⟩ : ∃ res, res = ptree (f + 1) (b.drop a) := ⟨_, rfl⟩
   rw [← hr] at hres ⊢
   have HC1 := hH (fun (w1 : World) (hc : Cu R w1 v b (a + 1)) (o : Obj) => hc.on ((Below.refl _ w1).alloc (Nat.le_refl _) o))
   clear hr hdr hcuA hbx h
   rcases (show x = 1 ∨ x = 2 ∨ x = 3 ∨ (x ≠ 1 ∧ x ≠ 2 ∧ x ≠ 3) by omega) with hx | hx | hx | ⟨hx1, hx2, hx3⟩
   · subst hx
     simp only [if_true] at hres
     have HNU := hH (fun (W : World) (hW : Cu R W v b (a + 1)) => numP_any R W v b (a + 1) hW)
     go_enter Tryz.func97, Tryz.ntmps97
     go_wp2_with fail
     refine (uh HNX _).mono ?_
     rintro e w1 ⟨rfl, hcu1, hb1⟩
     have HT1 := hH (uh HTB w1 hb1); have HN1 := hH (uh HNU _ (uh HC1 w1 hcu1 (.cells #[.int .i64 1, .int .i64 0, .string ⟨#[]⟩, .slice none 0 0, .slice none 0 0] 26)))
     clear hcu1 hb1 HNX HTB HNU HC1
     go_wp2_with fail
     refine (uh HN1).mono ?_
     rintro e w2 ⟨hb2, hm⟩
     have hT2 := (uh HT1).on hb2
     cases hn : pnum (b.drop (a + 1)) with
     | none =>
       rw [hn] at hm hres
       simp only at hm hres
       subst hm hres
       exact ⟨rfl, hT2.but, rfl⟩
     | some y =>
       obtain ⟨u, rest⟩ := y
       have hu : I64 u := by have := pnum_bound hn; exact ⟨by omega, by omega⟩
       rw [hn] at hm hres
       simp only at hm hres
       obtain ⟨rfl, a', ha', hcu2, hrest⟩ := hm
       clear hn HN1
       obtain ⟨p0, p1, p2, p3, p4⟩ := cs5 hT2.rX (by omega); have pf := hT2.rX.frozen
       obtain ⟨q0, q1, q2, q3, q4⟩ := cs5 hT2.rY (by omega); have qf := hT2.rY.frozen
       simp only [row5] at p0 p1 p2 p3 p4 q0 q1 q2 q3 q4
       have hne : w.heap.size ≠ w1.heap.size := by have := hT2.lt; omega
       have hne2 : w1.heap.size ≠ w.heap.size := by omega
       have HT2 := hH hT2; have HCU2 := hH hcu2
       clear hT2 hcu2 hb2 HT1
       go_wp2_with fail
       refine bodyPost_ret (v := .agg #[.int .i64 1, .int .i64 u, .string ⟨#[]⟩, .slice none 0 0, .slice none 0 0]) (by simp [results, Tryz.results97, go_sem, p0, p1, p2, p3, p4]) rfl ?_
       have hlt2 := (uh HT2).lt
       have hR2 := (uh HT2).hR
       refine ⟨?_, ?_⟩
       · repeat refine but_set ?_ (by omega) _ _
         exact (uh HT2).but
       · subst hres
         refine ⟨⟨_, _, _, _, _⟩, _, rfl, own_leaf _ 1 u ByteArray.empty ⟨by decide, by decide⟩ hu (by decide), List.nodup_nil, (fun x hx => by cases hx), a', by omega, ?_, hrest⟩
         repeat refine Cu.set ?_ (by omega) _ _
         exact uh HCU2
   · subst hx
     simp only [show (2 : Nat) ≠ 1 from by decide, if_true, if_false] at hres
     cases hn : ptx (b.drop (a + 1)) with
     | none =>
       rw [hn] at hres
       simp only at hres
       subst hres
       have HNU := hH (fun (W : World) (hW : Cu R W v b (a + 1)) => textP_no R W v b (a + 1) hW hn)
       go_enter Tryz.func97, Tryz.ntmps97
       go_wp2_with fail
       refine (uh HNX _).mono ?_
       rintro e w1 ⟨rfl, hcu1, hb1⟩
       have HT1 := hH (uh HTB w1 hb1); have HN1 := hH (uh HNU _ (uh HC1 w1 hcu1 (.cells #[.int .i64 2, .int .i64 0, .string ⟨#[]⟩, .slice none 0 0, .slice none 0 0] 26)))
       clear hcu1 hb1 HNX HTB HNU HC1
       go_wp2_with fail
       refine (uh HN1).mono ?_
       rintro e w2 ⟨rfl, hb2⟩
       exact ⟨rfl, ((uh HT1).on hb2).but, rfl⟩
     | some y =>
       obtain ⟨u, rest⟩ := y
       rw [hn] at hres
       simp only at hres
       have hu := (ptx_sound hn).2
       have HNU := hH (fun (W : World) (hW : Cu R W v b (a + 1)) => textP_yes R W v b (a + 1) u rest hW hn)
       go_enter Tryz.func97, Tryz.ntmps97
       go_wp2_with fail
       refine (uh HNX _).mono ?_
       rintro e w1 ⟨rfl, hcu1, hb1⟩
       have HT1 := hH (uh HTB w1 hb1); have HN1 := hH (uh HNU _ (uh HC1 w1 hcu1 (.cells #[.int .i64 2, .int .i64 0, .string ⟨#[]⟩, .slice none 0 0, .slice none 0 0] 26)))
       clear hcu1 hb1 HNX HTB HNU HC1
       go_wp2_with fail
       refine (uh HN1).mono ?_
       rintro e w2 ⟨rfl, ⟨a', ha', hcu2, hrest⟩, hb2⟩
       have hT2 := (uh HT1).on hb2
       clear hn HN1
       obtain ⟨p0, p1, p2, p3, p4⟩ := cs5 hT2.rX (by omega); have pf := hT2.rX.frozen
       obtain ⟨q0, q1, q2, q3, q4⟩ := cs5 hT2.rY (by omega); have qf := hT2.rY.frozen
       simp only [row5] at p0 p1 p2 p3 p4 q0 q1 q2 q3 q4
       have hne : w.heap.size ≠ w1.heap.size := by have := hT2.lt; omega
       have hne2 : w1.heap.size ≠ w.heap.size := by omega
       have HT2 := hH hT2; have HCU2 := hH hcu2
       clear hT2 hcu2 hb2 HT1
       go_wp2_with fail
       refine bodyPost_ret (v := .agg #[.int .i64 2, .int .i64 0, .string u, .slice none 0 0, .slice none 0 0]) (by simp [results, Tryz.results97, go_sem, p0, p1, p2, p3, p4]) rfl ?_
       have hlt2 := (uh HT2).lt
       have hR2 := (uh HT2).hR
       refine ⟨?_, ?_⟩
       · repeat refine but_set ?_ (by omega) _ _
         exact (uh HT2).but
       · subst hres
         refine ⟨⟨_, _, _, _, _⟩, _, rfl, own_leaf _ 2 0 u ⟨by decide, by decide⟩ ⟨by decide, by decide⟩ (by omega), List.nodup_nil, (fun x hx => by cases hx), a', by omega, ?_, hrest⟩
         repeat refine Cu.set ?_ (by omega) _ _
         exact uh HCU2
   · subst hx
     simp only [show (3 : Nat) ≠ 1 from by decide, show (3 : Nat) ≠ 2 from by decide, if_true, if_false] at hres
     by_cases hlt2 : a + 1 < b.length
     · have hd2 := List.drop_eq_getElem_cons hlt2
       rw [hd2] at hres
       simp only at hres
       have hu8 := b[a + 1].toNat_lt
       have HNU := hH (fun (W : World) (hW : Cu R W v b (a + 1)) => nextP_yes R W v b (a + 1) hW hlt2)
       go_enter Tryz.func97, Tryz.ntmps97
       go_wp2_with fail
       refine (uh HNX _).mono ?_
       rintro e w1 ⟨rfl, hcu1, hb1⟩
       have HT1 := hH (uh HTB w1 hb1); have HN1 := hH (uh HNU _ (uh HC1 w1 hcu1 (.cells #[.int .i64 3, .int .i64 0, .string ⟨#[]⟩, .slice none 0 0, .slice none 0 0] 26)))
       clear hcu1 hb1 HNX HTB HNU HC1
       go_wp2_with fail
       refine (uh HN1).mono ?_
       rintro e w2 ⟨rfl, hcu2, hb2⟩
       have hT2 := (uh HT1).on hb2
       obtain ⟨a', ha'⟩ : ∃ a', a' = a + 1 + 1 := ⟨_, rfl⟩
       have hrest : b.drop (a + 1 + 1) = b.drop a' := by rw [ha']
       rw [← ha'] at hcu2
       generalize b[a + 1].toNat = u at *
       clear hd2 HN1
       obtain ⟨p0, p1, p2, p3, p4⟩ := cs5 hT2.rX (by omega); have pf := hT2.rX.frozen
       obtain ⟨q0, q1, q2, q3, q4⟩ := cs5 hT2.rY (by omega); have qf := hT2.rY.frozen
       simp only [row5] at p0 p1 p2 p3 p4 q0 q1 q2 q3 q4
       have hne : w.heap.size ≠ w1.heap.size := by have := hT2.lt; omega
       have hne2 : w1.heap.size ≠ w.heap.size := by omega
       have HT2 := hH hT2; have HCU2 := hH hcu2
       clear hT2 hcu2 hb2 HT1
       go_wp2_with fail
       refine bodyPost_ret (v := .agg #[.int .i64 3, .int .i64 (u : Int), .string ⟨#[]⟩, .slice none 0 0, .slice none 0 0]) (by simp [results, Tryz.results97, go_sem, p0, p1, p2, p3, p4]) rfl ?_
       have hlt2 := (uh HT2).lt
       have hR2 := (uh HT2).hR
       refine ⟨?_, ?_⟩
       · repeat refine but_set ?_ (by omega) _ _
         exact (uh HT2).but
       · subst hres
         refine ⟨⟨_, _, _, _, _⟩, _, rfl, own_leaf _ 3 u ByteArray.empty ⟨by decide, by decide⟩ ⟨by omega, by omega⟩ (by decide), List.nodup_nil, (fun x hx => by cases hx), a', by omega, ?_, hrest⟩
         repeat refine Cu.set ?_ (by omega) _ _
         exact uh HCU2
     · rw [List.drop_eq_nil_of_le (by omega : b.length ≤ a + 1)] at hres
       simp only at hres
       subst hres
       have HNU := hH (fun (W : World) (hW : Cu R W v b (a + 1)) => nextP_no R W v b (a + 1) hW (by omega))
       go_enter Tryz.func97, Tryz.ntmps97
       go_wp2_with fail
       refine (uh HNX _).mono ?_
       rintro e w1 ⟨rfl, hcu1, hb1⟩
       have HT1 := hH (uh HTB w1 hb1); have HN1 := hH (uh HNU _ (uh HC1 w1 hcu1 (.cells #[.int .i64 3, .int .i64 0, .string ⟨#[]⟩, .slice none 0 0, .slice none 0 0] 26)))
       clear hcu1 hb1 HNX HTB HNU HC1
       go_wp2_with fail
       refine (uh HN1).mono ?_
       rintro e w2 ⟨rfl, hb2⟩
       exact ⟨rfl, ((uh HT1).on hb2).but, rfl⟩
   · rw [if_neg hx1, if_neg hx2, if_neg hx3] at hres
     have q1 : ((x : Int) == 1) = false := by simp; omega
     have q2 : ((x : Int) == 2) = false := by simp; omega
     have q3 : ((x : Int) == 3) = false := by simp; omega
     have hkids : ∀ (W : World) (Y : Nat), Cu R W v b (a + 1) → SInv (Y + 1) Y W (x : Int) (.slice none 0 0) (.slice none 0 0) [] [] [] [] → R < Y → W.heap.size = Y + 1 → Calls Tryz.prog 127 #[.pointer (some ⟨R, 0, none⟩), .pointer (some ⟨Y, 0, none⟩)] W fun e w' => KdEnd R Y W w' v b (a + 1) (x : Int) (match b.drop (a + 1) with | [] => none | c :: r => pkids (ptree f) (decide ((x : Int) = 5)) c.toNat r) e := fun W Y hc hi hRY hYw => by
      cases h5 : decide ((x : Int) = 5) with
      | true => rw [← h5]; exact kidsP_form f IH R Y W v b (a + 1) x hc hi hRY hYw hl1 h5
      | false => rw [← h5]; exact kidsP_list f IH R Y W v b (a + 1) x hc hi hRY hYw hl1 h5
     generalize (match b.drop (a + 1) with | [] => none | c :: r => pkids (ptree f) (decide ((x : Int) = 5)) c.toNat r) = kr at *
     have HKI := hH hkids
     clear hkids IH hx1 hx2 hx3
     go_enter Tryz.func97, Tryz.ntmps97
     go_wp2_with fail
     refine (uh HNX _).mono ?_
     rintro e w1 ⟨rfl, hcu1, hb1⟩
     have hT1 := uh HTB w1 hb1
     have hlt1 := hT1.lt
     have hR1 := hT1.hR
     have hi1 : SInv (w1.heap.size + 1) w1.heap.size (w1.alloc (.cells #[.int .i64 (x : Int), .int .i64 0, .string ⟨#[]⟩, .slice none 0 0, .slice none 0 0] 26)) (x : Int) (.slice none 0 0) (.slice none 0 0) [] [] [] [] :=
      ⟨Nat.lt_succ_self _, hT1.rY, ⟨rfl, Or.inl ⟨rfl, rfl⟩⟩, ⟨⟨rfl, Or.inl ⟨rfl, rfl⟩⟩, ⟨rfl, rfl⟩, List.nodup_nil, fun b hb => by cases hb⟩, (fun b e => by cases e), by simp⟩
     have HN1 := hH (uh HKI _ w1.heap.size (uh HC1 w1 hcu1 (.cells #[.int .i64 (x : Int), .int .i64 0, .string ⟨#[]⟩, .slice none 0 0, .slice none 0 0] 26)) hi1 (by omega) (by simp))
     have HT1 := hH hT1
     clear hcu1 hb1 HNX HTB HKI HC1 hT1 hi1
     go_wp2_with fail
     refine (uh HN1).mono ?_
     rintro e w2 ⟨hb2, hm⟩
     cases kr with
     | none =>
       simp only at hm hres
       subst hm hres
       exact ⟨rfl, but2_new (uh HT1).but hb2 (by omega), rfl⟩
     | some y =>
       obtain ⟨ns, ks, rest⟩ := y
       simp only at hm hres
       obtain ⟨rfl, vN, vK, xs, G, a', hinv, hns, ha', hcu2, hrest⟩ := hm
       obtain ⟨F, hown, hnd, hF⟩ := hinv.done ⟨by omega, by omega⟩ (fun y hy => by have := hns y hy; omega)
       obtain ⟨-, -, -, -, -, -, F1, F2, -, ⟨aN, capN, g3, -⟩, aK, capK, g4, -⟩ := hown.open
       simp only at g3 g4
       subst g3 g4
       have hT2 : TwoB R w.heap.size w1.heap.size w w2 ⟨.int .i64 (x : Int), .int .i64 0, .string ⟨#[]⟩, .slice aN ns.length capN, .slice aK ks.length capK⟩ :=
        ⟨but2_new (uh HT1).but hb2 (by omega), (uh HT1).rX.of_block (hb2.block _ (uh HT1).rX.lt (by omega) (by omega)), hinv.cells, (uh HT1).lt, (uh HT1).hR⟩
       have HOWN := hH hown; have HF := hH hF
       clear hinv hown hF hns HN1
       obtain ⟨p0, p1, p2, p3, p4⟩ := cs5 hT2.rX (by omega); have pf := hT2.rX.frozen
       obtain ⟨q0, q1, q2, q3, q4⟩ := cs5 hT2.rY (by omega); have qf := hT2.rY.frozen
       simp only [row5] at p0 p1 p2 p3 p4 q0 q1 q2 q3 q4
       have hne : w.heap.size ≠ w1.heap.size := by have := hT2.lt; omega
       have hne2 : w1.heap.size ≠ w.heap.size := by omega
       have HT2 := hH hT2; have HCU2 := hH hcu2
       clear hT2 hcu2 hb2 HT1
       go_wp2_with fail
       refine bodyPost_ret (v := .agg #[.int .i64 (x : Int), .int .i64 0, .string ⟨#[]⟩, .slice aN ns.length capN, .slice aK ks.length capK]) (by simp [results, Tryz.results97, go_sem, p0, p1, p2, p3, p4]) rfl ?_
       have hlt2 := (uh HT2).lt
       have hR2 := (uh HT2).hR
       refine ⟨?_, ?_⟩
       · repeat refine but_set ?_ (by omega) _ _
         exact (uh HT2).but
       · subst hres
         refine ⟨⟨_, _, _, _, _⟩, _, rfl, Own.carry _ _ F (fun y hy => by have := uh HF y hy; repeat rw [Below.heap_setCell _ _ _ _ (by simp <;> omega)]) (uh HOWN), hnd, fun y hy => ⟨by have := (uh HF y hy).1; omega, by simp only [size_setCell]; exact (uh HF y hy).2⟩, a', by omega, ?_, hrest⟩
         repeat refine Cu.set ?_ (by omega) _ _
         exact uh HCU2
 · have HNX := hH (fun o => nextP_no R (w.alloc o) v b a (hcuA o) (by omega))
   have hres : ptree (f + 1) (b.drop a) = none := by rw [List.drop_eq_nil_of_le (by omega)]; unfold ptree; rfl
   rw [hres]
   clear hcuA h
   go_enter Tryz.func97, Tryz.ntmps97
   go_wp2_with fail
   refine (uh HNX _).mono ?_
   rintro e w1 ⟨rfl, hb1⟩
   exact ⟨rfl, (hbx _).trans hb1, rfl⟩
theorem treeP_all : ∀ f, UnT f
 | 0 => fun R w v b a h hl => by omega
 | f + 1 => treeP_step f (treeP_all f)

def Starts (l : List UInt8) : Prop := ∃ ty ver t rest, evOkB ty ver t = true ∧ l = eventB ty ver t ++ rest
theorem evOk_facts {ty : ByteArray} {ver : Int} {t : Tr} (h : evOkB ty ver t = true) : nameOkB ty = true ∧ 1 ≤ ty.size ∧ ty.size ≤ 8 ∧ 1 ≤ ver ∧ ver ≤ 12 ∧ t.sort = 5 ∧ 0 < pT t 1 := by
 have h0 := h
 unfold evOkB at h
 simp only [Bool.and_eq_true, decide_eq_true_eq] at h
 have hn := h.1.1.1
 unfold nameOkB at hn
 simp at hn
 exact ⟨h.1.1.1, by omega, by omega, by omega, by omega, h.1.2, h.2⟩
theorem starts_ptx {l : List UInt8} {ty : ByteArray} {ver : Int} {t : Tr} {rest : List UInt8} (h : evOkB ty ver t = true) (hl : l = eventB ty ver t ++ rest) : ptx l = some (ty, UInt8.ofNat ver.toNat :: (treeB t ++ rest)) := by
 have hf := evOk_facts h
 rw [hl, eventB]
 have := ptx_done ty (UInt8.ofNat ver.toNat :: (treeB t ++ rest)) (by omega)
 simpa using this
def EvEnd (R : Nat) (w w' : World) (v : Value) (b : List UInt8) (a : Nat) (e : Ending) : Prop :=
 But R w w' ∧ ((∃ (ty : ByteArray) (ver : Nat) (t : Tr) (c : C5) (F : List Nat) (a' : Nat), e = .returned (.agg #[.string ty, .int .i64 (ver : Int), c.c0, c.c1, c.c2, c.c3, c.c4]) ∧ Own w' t c F ∧ F.Nodup ∧ (∀ x, x ∈ F → w.heap.size ≤ x ∧ x < w'.heap.size) ∧ Cu R w' v b a' ∧ b.drop a = eventB ty ver t ++ b.drop a' ∧ ver ≤ 255 ∧ ty.size ≤ 255 ∧ (∀ (ty0 : ByteArray) (ver0 : Int) (t0 : Tr) (rest0 : List UInt8), evOkB ty0 ver0 t0 = true → b.drop a = eventB ty0 ver0 t0 ++ rest0 → ty0 = ty ∧ ver0 = ver ∧ t0 = t ∧ rest0 = b.drop a'))
  ∨ (e = fltE ∧ ¬ Starts (b.drop a)))
structure TwoE (R X Y : Nat) (w wr : World) (t0 t1 : Value) (c : C5) : Prop where
 but : But R w wr
 rX : wr.rowIs X 28 7 (row7 (.string ⟨#[]⟩) (.int .i64 0) (.int .i64 0) (.int .i64 0) (.string ⟨#[]⟩) (.slice none 0 0) (.slice none 0 0))
 rY : wr.rowIs Y 28 7 (row7 t0 t1 c.c0 c.c1 c.c2 c.c3 c.c4)
 lt : w.heap.size ≤ X ∧ X < Y
 hR : R < w.heap.size
theorem TwoE.on {R X Y : Nat} {w wr w' : World} {t0 t1 : Value} {c : C5} (h : TwoE R X Y w wr t0 t1 c) (hb : But R wr w') : TwoE R X Y w w' t0 t1 c := by
 have := h.lt; have := h.hR
 exact ⟨h.but.trans hb, h.rX.of_block (hb.at h.rX.lt (by omega)), h.rY.of_block (hb.at h.rY.lt (by omega)), h.lt, h.hR⟩
abbrev ev0 : Obj := .cells #[.string ⟨#[]⟩, .int .i64 0, .int .i64 0, .int .i64 0, .string ⟨#[]⟩, .slice none 0 0, .slice none 0 0] 28
theorem TwoE.start {R a : Nat} {w : World} {v : Value} {b : List UInt8} (h : Cu R w v b a) : TwoE R w.heap.size (w.heap.size + 1) w ((w.alloc ev0).alloc ev0) (.string ⟨#[]⟩) (.int .i64 0) ⟨.int .i64 0, .int .i64 0, .string ⟨#[]⟩, .slice none 0 0, .slice none 0 0⟩ := by
 refine ⟨(But.alloc R w _).trans (But.alloc R _ _), (row7_alloc w _ _ _ _ _ _ _ _).alloc _, ?_, ⟨Nat.le_refl _, by omega⟩, h.cells.lt⟩
 have := row7_alloc (w.alloc ev0) (.string ⟨#[]⟩) (.int .i64 0) (.int .i64 0) (.int .i64 0) (.string ⟨#[]⟩) (.slice none 0 0) (.slice none 0 0) 28
 rw [World.size_alloc] at this
 exact this
theorem TwoE.ty {R X Y : Nat} {w wr : World} {t0 t1 : Value} {c : C5} (h : TwoE R X Y w wr t0 t1 c) (u : Value) : TwoE R X Y w (wr.setCell ⟨Y, 0, none⟩ u) u t1 c := by
 have := h.lt; have := h.hR
 exact ⟨but_set h.but (by omega) _ _, h.rX.setOther (by simp; omega) _, (h.rY.set 0 u).congr (fun i hi => by rcases (show i = 0 ∨ i = 1 ∨ i = 2 ∨ i = 3 ∨ i = 4 ∨ i = 5 ∨ i = 6 by omega) with rfl | rfl | rfl | rfl | rfl | rfl | rfl <;> rfl), h.lt, h.hR⟩
theorem TwoE.ver {R X Y : Nat} {w wr : World} {t0 t1 : Value} {c : C5} (h : TwoE R X Y w wr t0 t1 c) (u : Value) : TwoE R X Y w (wr.setCell ⟨Y, 1, none⟩ u) t0 u c := by
 have := h.lt; have := h.hR
 exact ⟨but_set h.but (by omega) _ _, h.rX.setOther (by simp; omega) _, (h.rY.set 1 u).congr (fun i hi => by rcases (show i = 0 ∨ i = 1 ∨ i = 2 ∨ i = 3 ∨ i = 4 ∨ i = 5 ∨ i = 6 by omega) with rfl | rfl | rfl | rfl | rfl | rfl | rfl <;> rfl), h.lt, h.hR⟩
theorem eventP_any (R : Nat) (w : World) (v : Value) (b : List UInt8) (a : Nat) (h : Cu R w v b a) :
 Calls Tryz.prog 69 #[.pointer (some ⟨R, 0, none⟩)] w fun e w' => EvEnd R w w' v b a e := by
 have hT0 := TwoE.start h
 have hcu0 : Cu R ((w.alloc ev0).alloc ev0) v b a := h.on (((Below.refl _ w).alloc (Nat.le_refl _) ev0).alloc (by simp) ev0)
 have hsm := h.small
 clear h
 cases hp : ptx (b.drop a) with
 | none =>
   have HNO : Hid (¬ Starts (b.drop a)) := fun ⟨ty, ver, t, rest, ho, hl⟩ => by rw [starts_ptx ho hl] at hp; cases hp
   have HTX := hH (textP_no R _ v b a hcu0 hp)
   have HT0 := hH hT0
   clear hcu0 hp hT0
   go_enter Tryz.func69, Tryz.ntmps69
   go_wp2_with fail
   refine (uh HTX).mono ?_
   rintro e w1 ⟨rfl, hb1⟩
   exact ⟨rfl, ((uh HT0).on hb1).but, Or.inr ⟨rfl, uh HNO⟩⟩
 | some y =>
   obtain ⟨ty, l1⟩ := y
   have hty := ptx_sound hp
   have HTX := hH (textP_yes R _ v b a ty l1 hcu0 hp)
   have HT0 := hH hT0
   have HTE := hH (fun W => typeEnd_any ty W (by have := hty.2; omega))
   have hst : ∀ ty0 ver0 t0 rest0, evOkB ty0 ver0 t0 = true → b.drop a = eventB ty0 ver0 t0 ++ rest0 → ty = ty0 ∧ l1 = UInt8.ofNat ver0.toNat :: (treeB t0 ++ rest0) := fun ty0 ver0 t0 rest0 ho hl => by
    rw [starts_ptx ho hl] at hp
    simp only [Option.some.injEq, Prod.mk.injEq] at hp
    exact ⟨hp.1.symm, hp.2.symm⟩
   clear hcu0 hT0
   by_cases hte : tE ty = ty.size
   · have hq : ((tE ty : Int) == (ty.size : Int)) = true := by simp [hte]
     have hqd : decide ((tE ty : Int) = (ty.size : Int)) = true := by simp [hte]
     have HST := hH hst; have HTY := hH hty
     clear hst hp hte hty
     generalize tE ty = k at *
     go_enter Tryz.func69, Tryz.ntmps69
     go_wp2_with fail
     refine (uh HTX).mono ?_
     rintro e w1 ⟨rfl, ⟨a', ha', hcu1, hl1⟩, hb1⟩
     have hT1 := (uh HT0).on hb1
     have y0 := hT1.rY.cell (i := 0) (by omega); have yf := hT1.rY.frozen
     simp only [row7] at y0
     have hT1a := hT1.ty (.string ty)
     have hcu1a := hcu1.set (X := w.heap.size + 1) (by have := hT1.hR; omega) 0 (.string ty)
     have hlt1 := hT1.lt
     have HT1 := hH hT1a; have HCU1 := hH hcu1a; have HL1 := hH hl1; have HA1 := hH ha'
     clear hT1 hT1a hcu1 hcu1a hb1 HTX HT0 hl1 ha'
     go_wp2_with fail
     go_cut [] from 7 to 14 (fun wx => Hid (TwoE R w.heap.size (w.heap.size + 1) w wx (.string ty) (.int .i64 0) ⟨.int .i64 0, .int .i64 0, .string ⟨#[]⟩, .slice none 0 0, .slice none 0 0⟩) ∧ Hid (Cu R wx v b a'))
     case first =>
      go_region_law (first
       | (rw [if_pos (by first | rfl | simp [Region.wanted])]; go_simp; refine (uh HTE _).mono ?_
          rintro e w2 ⟨rfl, hb2⟩
          have HB2 := hH (But.of_below (B := R) ((Below.refl _ (w1.setCell ⟨w.heap.size + 1, 0, none⟩ (.string ty))).drew.trans hb2))
          have y0b := ((uh HT1).on (uh HB2)).rY.cell (i := 0) (by omega)
          simp only [row7] at y0b
          have HBB := hH ((Below.refl _ (w1.setCell ⟨w.heap.size + 1, 0, none⟩ (.string ty))).drew.trans hb2)
          clear hb2)
       | (rw [if_pos (by first | rfl | simp [Region.wanted])]; go_simp; refine (treeWant_yes _).mono ?_; rintro e w3 ⟨rfl, rfl⟩))
      all_goals
       go_wp2_with fail
       go_meet
       exact ⟨(uh HT1).on (uh HB2), (uh HCU1).on (uh HBB)⟩
     case rest =>
      obtain ⟨HTC, HCC⟩ := hcut
      clear HT1 HCU1 HTE y0 yf
      by_cases hlt : a' < b.length
      · have hd1 := List.drop_eq_getElem_cons hlt
        have hx8 := b[a'].toNat_lt
        have HNX := hH (nextP_yes R wc v b a' HCC.out hlt)
        have HTR := hH (fun (W : World) (hW : Cu R W v b (a' + 1)) => treeP_all (b.length + 1) R W v b (a' + 1) hW (by simp; omega))
        have y1 := HTC.out.rY.cell (i := 1) (by omega); have yf := HTC.out.rY.frozen
        simp only [row7] at y1
        cases ht : ptree (b.length + 1) (b.drop (a' + 1)) with
        | none =>
          have HNO : Hid (¬ Starts (b.drop a)) := fun ⟨ty0, ver0, t0, rest0, ho, hl⟩ => by
           obtain ⟨-, h2⟩ := uh HST ty0 ver0 t0 rest0 ho hl
           rw [uh HL1, hd1] at h2
           simp only [List.cons.injEq] at h2
           have hlen : (treeB t0 ++ rest0).length ≤ b.length := by rw [← h2.2]; simp
           rw [h2.2, ptree_done t0 1 (evOk_facts ho).2.2.2.2.2.2 _ rest0 (by simp at hlen; omega)] at ht
           cases ht
          rw [ht] at HTR
          clear ht hd1
          generalize b[a'].toNat = x at *
          go_wp2_with fail
          refine (uh HNX).mono ?_
          rintro e w2 ⟨rfl, hcu2, hb2⟩
          have hT2 := HTC.out.on hb2
          have z1 := hT2.rY.cell (i := 1) (by omega); have zf := hT2.rY.frozen
          simp only [row7] at z1
          have HN2 := hH (uh HTR _ (hcu2.set (X := w.heap.size + 1) (by have := hT2.hR; omega) 1 (.int .i64 (x : Int))))
          have HT2 := hH (hT2.ver (.int .i64 (x : Int)))
          clear hcu2 hb2 hT2 HNX HTR y1 yf
          go_wp2_with fail
          refine (uh HN2).mono ?_
          rintro e w3 ⟨hb3, rfl⟩
          exact ⟨rfl, ((uh HT2).on hb3).but, Or.inr ⟨rfl, uh HNO⟩⟩
        | some y =>
          obtain ⟨t, rest⟩ := y
          have hsd := ptree_sound _ _ _ _ ht
          rw [ht] at HTR
          have HEQ : Hid (∀ a2, rest = b.drop a2 → b.drop a = eventB ty (b[a'].toNat : Nat) t ++ b.drop a2) := fun a2 h2 => by
           rw [(uh HTY).1, uh HL1, hd1, hsd, h2, eventB]
           simp
          have HCO : Hid (∀ a2, rest = b.drop a2 → ∀ (ty0 : ByteArray) (ver0 : Int) (t0 : Tr) (rest0 : List UInt8), evOkB ty0 ver0 t0 = true → b.drop a = eventB ty0 ver0 t0 ++ rest0 → ty0 = ty ∧ ver0 = (b[a'].toNat : Nat) ∧ t0 = t ∧ rest0 = b.drop a2) := fun a2 h2 ty0 ver0 t0 rest0 ho hl => by
           obtain ⟨e1, e2⟩ := uh HST ty0 ver0 t0 rest0 ho hl
           rw [uh HL1, hd1] at e2
           simp only [List.cons.injEq] at e2
           have hf := evOk_facts ho
           have hlen : (treeB t0 ++ rest0).length ≤ b.length := by rw [← e2.2]; simp
           rw [e2.2, ptree_done t0 1 hf.2.2.2.2.2.2 _ rest0 (by simp at hlen; omega)] at ht
           simp only [Option.some.injEq, Prod.mk.injEq] at ht
           have hv := congrArg UInt8.toNat e2.1
           rw [show (UInt8.ofNat ver0.toNat).toNat = ver0.toNat from by simp; omega] at hv
           exact ⟨e1.symm, by omega, ht.1, by rw [ht.2, h2]⟩
          have hb255 : b[a'].toNat ≤ 255 := by omega
          clear ht hd1 hsd
          generalize b[a'].toNat = x at *
          go_wp2_with fail
          refine (uh HNX).mono ?_
          rintro e w2 ⟨rfl, hcu2, hb2⟩
          have hT2 := HTC.out.on hb2
          have z1 := hT2.rY.cell (i := 1) (by omega); have zf := hT2.rY.frozen
          simp only [row7] at z1
          have HN2 := hH (uh HTR _ (hcu2.set (X := w.heap.size + 1) (by have := hT2.hR; omega) 1 (.int .i64 (x : Int))))
          have HT2 := hH (hT2.ver (.int .i64 (x : Int)))
          clear hcu2 hb2 hT2 HNX HTR y1 yf
          go_wp2_with fail
          refine (uh HN2).mono ?_
          rintro e w3 ⟨hb3, ⟨c0, c1, c2, c3, c4⟩, F, rfl, ho, hnd, hF, a3, ha3, hcu3, hr3⟩
          have hT3 := (uh HT2).on hb3
          obtain ⟨g0, g1, g2, -, -, -, F1, F2, -, ⟨ap, cp, g3, -⟩, aq, cq, g4, -⟩ := ho.open
          simp only at g0 g1 g2 g3 g4
          subst g0 g1 g2 g3 g4
          obtain ⟨p0, p1, p2, p3, p4, p5, p6⟩ := cs7 hT3.rX (by omega); have pf := hT3.rX.frozen
          obtain ⟨q0, q1, q2, q3, q4, q5, q6⟩ := cs7 hT3.rY (by omega); have qf := hT3.rY.frozen
          simp only [row7] at p0 p1 p2 p3 p4 p5 p6 q0 q1 q2 q3 q4 q5 q6
          have hmid : w.heap.size + 2 ≤ w2.heap.size := by have := (uh HT2).rY.lt; simp at this; omega
          have HT3 := hH hT3; have HCU3 := hH hcu3; have HO := hH ho; have HF := hH hF; have HE3 := hH (uh HEQ a3 hr3); have HC3 := hH (uh HCO a3 hr3)
          clear hT3 hcu3 hb3 ho hF hr3 HN2 HT2 HEQ HCO z1 zf HTC HCC
          go_wp2_with fail
          refine bodyPost_ret (v := .agg #[.string ty, .int .i64 (x : Int), .int .i64 t.sort, .int .i64 t.num, .string t.text, .slice ap t.names.length cp, .slice aq t.kids.length cq]) (by simp [results, Tryz.results69, go_sem, p0, p1, p2, p3, p4, p5, p6]) rfl ?_
          have hR3 := (uh HT3).hR
          refine ⟨?_, Or.inl ⟨ty, x, t, ⟨_, _, _, _, _⟩, F, a3, rfl, Own.carry _ _ F (fun y hy => by have := (uh HF y hy).1; rw [size_setCell] at this; repeat rw [Below.heap_setCell _ _ _ _ (by simp <;> omega)]) (uh HO), hnd, fun y hy => ⟨by have := (uh HF y hy).1; rw [size_setCell] at this; omega, by simp only [size_setCell]; exact (uh HF y hy).2⟩, ?_, uh HE3, hb255, by have := (uh HTY).2; omega, uh HC3⟩⟩
          · repeat refine but_set ?_ (by omega) _ _
            exact (uh HT3).but
          · repeat refine Cu.set ?_ (by omega) _ _
            exact uh HCU3
      · have HNX := hH (nextP_no R wc v b a' HCC.out (by omega))
        have HNO : Hid (¬ Starts (b.drop a)) := fun ⟨ty0, ver0, t0, rest0, ho, hl⟩ => by
         obtain ⟨-, h2⟩ := uh HST ty0 ver0 t0 rest0 ho hl
         rw [uh HL1, List.drop_eq_nil_of_le (by omega)] at h2
         cases h2
        have HTB := hH HTC.out
        clear HCC HTC HST
        go_wp2_with fail
        refine (uh HNX).mono ?_
        rintro e w2 ⟨rfl, hb2⟩
        exact ⟨rfl, ((uh HTB).on hb2).but, Or.inr ⟨rfl, uh HNO⟩⟩
   · have HNO : Hid (¬ Starts (b.drop a)) := fun ⟨ty0, ver0, t0, rest0, ho, hl⟩ => by
      obtain ⟨rfl, -⟩ := hst ty0 ver0 t0 rest0 ho hl
      exact hte (tE_name (evOk_facts ho).1)
     have hq : ((tE ty : Int) == (ty.size : Int)) = false := by simp; omega
     clear hst hp hte
     generalize tE ty = k at *
     go_enter Tryz.func69, Tryz.ntmps69
     go_wp2_with fail
     refine (uh HTX).mono ?_
     rintro e w1 ⟨rfl, ⟨a', ha', hcu1, hl1⟩, hb1⟩
     have hT1 := (uh HT0).on hb1
     have y0 := hT1.rY.cell (i := 0) (by omega); have yf := hT1.rY.frozen
     simp only [row7] at y0
     have hT1a := hT1.ty (.string ty)
     have hcu1a := hcu1.set (X := w.heap.size + 1) (by have := hT1.hR; omega) 0 (.string ty)
     have hlt1 := hT1.lt
     have HT1 := hH hT1a; have HCU1 := hH hcu1a; have HL1 := hH hl1; have HA1 := hH ha'
     clear hT1 hT1a hcu1 hcu1a hb1 HTX HT0 hl1 ha'
     go_wp2_with fail
     go_region_law (first
      | (rw [if_pos (by first | rfl | simp [Region.wanted])]; go_simp; refine (uh HTE _).mono ?_
         rintro e w2 ⟨rfl, hb2⟩
         have HB2 := hH (But.of_below (B := R) ((Below.refl _ (w1.setCell ⟨w.heap.size + 1, 0, none⟩ (.string ty))).drew.trans hb2))
         have y0b := ((uh HT1).on (uh HB2)).rY.cell (i := 0) (by omega)
         simp only [row7] at y0b
         have HBB := hH ((Below.refl _ (w1.setCell ⟨w.heap.size + 1, 0, none⟩ (.string ty))).drew.trans hb2)
         clear hb2)
      | (rw [if_pos (by first | rfl | simp [Region.wanted])]; go_simp; refine (treeWant_no _).mono ?_; rintro e w3 ⟨rfl, rfl⟩; refine dead_end (by assumption) { tmps := #[], defers := [] } w (And.intro rfl ⟨((uh HT1).on (uh HB2)).but, Or.inr ⟨rfl, uh HNO⟩⟩) (fun HF => ?_)))
     all_goals exact (uh HF).elim

theorem treeTry_yes2 (f : FuncId) (caps : Array Value) (w : World) (R : World → Prop) (hent : ∀ W, Sem.run Tryz.prog (callFunc f caps) W = .ok (.enter f caps) W)
 (hwork : Calls Tryz.prog f caps (w.alloc (.cells #[.bool false] 4)) fun e w' => e = .returned (.tuple #[]) ∧ R w' ∧ w'.heap[w.heap.size]? = (w.alloc (.cells #[.bool false] 4)).heap[w.heap.size]?) :
 Calls Tryz.prog 27 #[.func (.func f) #[] caps] w fun e w' => e = .returned (.bool true) ∧ ∃ w1, R w1 ∧ But w.heap.size w1 w' := by
 have hmf : ∀ (fn : Fn) (first cap : Array Value) (w : World), (Instr.makeFunc fn first cap).run Tryz.prog w = .ok (.func fn first cap) w := fun _ _ _ _ => rfl
 have HW := hH hwork; clear hwork
 go_enter_defers Tryz.func27, Tryz.ntmps27
 go_wp2_with fail
 refine (uh HW).mono ?_
 rintro e w1 ⟨rfl, hr, hbk⟩
 obtain ⟨hc, hz⟩ := cell_new1 hbk
 have HR := hH hr
 clear hr hbk
 go_wp2_with fail
 refine leaves_cons (f := 60) (args := #[.pointer (some ⟨w.heap.size, 0, none⟩)]) (by simp) (by simp [go_sem]) ?_
 refine (try_returning ⟨w.heap.size, 0, none⟩ true _ ?_ ?_).mono ?_
 · simp [go_sem, hc]
 · simp [go_sem, hz]
 rintro e u' w'' ⟨rfl, rfl, rfl⟩
 simp [Leaves, settle, results, Tryz.results27, go_sem, hc]
 exact ⟨w1, uh HR, (But.set w1 0 _).trans (But.set _ 0 _)⟩
theorem treeTry_no2 (f : FuncId) (caps : Array Value) (w : World) (R : World → Prop) (hent : ∀ W, Sem.run Tryz.prog (callFunc f caps) W = .ok (.enter f caps) W)
 (hwork : Calls Tryz.prog f caps (w.alloc (.cells #[.bool false] 4)) fun e w' => e = fltE ∧ R w' ∧ w'.heap[w.heap.size]? = (w.alloc (.cells #[.bool false] 4)).heap[w.heap.size]?) :
 Calls Tryz.prog 27 #[.func (.func f) #[] caps] w fun e w' => e = .returned (.bool false) ∧ ∃ w1, R w1 ∧ But w.heap.size w1 w' := by
 have hmf : ∀ (fn : Fn) (first cap : Array Value) (w : World), (Instr.makeFunc fn first cap).run Tryz.prog w = .ok (.func fn first cap) w := fun _ _ _ _ => rfl
 have HW := hH hwork; clear hwork
 go_enter_defers Tryz.func27, Tryz.ntmps27
 go_wp2_with fail
 refine (uh HW).mono ?_
 rintro e w1 ⟨rfl, hr, hbk⟩
 obtain ⟨hc, hz⟩ := cell_new1 hbk
 have HR := hH hr
 clear hr hbk
 go_wp2_with fail
 refine leaves_cons (f := 60) (args := #[.pointer (some ⟨w.heap.size, 0, none⟩)]) (by simp) (by simp [go_sem]) ?_
 refine (try_panicking ⟨w.heap.size, 0, none⟩ false 122 _ [] _ hc hz).mono ?_
 rintro e u' w'' ⟨rfl, rfl, rfl⟩
 simp [Leaves, settle, results, Tryz.results27, go_sem, hc]
 exact ⟨w1, uh HR, But.set w1 0 _⟩

def UpE (b : List UInt8) (ty : ByteArray) (ver : Int) (t : Tr) : Prop := evOkB ty ver t = true ∧ eventB ty ver t = b
def WhEnd (R : Nat) (w w' : World) (b : List UInt8) (e : Ending) : Prop :=
 But R w w' ∧ ((∃ (ty : ByteArray) (ver : Int) (t : Tr) (c : C5) (F : List Nat), e = .returned (.agg #[.string ty, .int .i64 ver, c.c0, c.c1, c.c2, c.c3, c.c4]) ∧ Own w' t c F ∧ F.Nodup ∧ (∀ x, x ∈ F → w.heap.size ≤ x ∧ x < w'.heap.size) ∧ UpE b ty ver t)
  ∨ (e = fltE ∧ ∀ ty ver t, ¬ UpE b ty ver t))
theorem wholeP_any (R : Nat) (w : World) (v : Value) (b : List UInt8) (h : Cu R w v b 0) (hT : Tab w) (hRT : 1 < R) :
 Calls Tryz.prog 38 #[.pointer (some ⟨R, 0, none⟩)] w fun e w' => WhEnd R w w' b e := by
 obtain ⟨av, capv, hv⟩ := h.row.slice
 subst hv
 have hb0 : ∀ o, But R w (w.alloc o) := fun o => But.alloc R w o
 have hcu : ∀ o, Cu R (w.alloc o) (.slice av b.length capv) b 0 := fun o => h.on ((Below.refl _ w).alloc (Nat.le_refl _) o)
 have r2 : ∀ o, (w.alloc o).cell? ⟨R, 2, none⟩ = some (.slice av b.length capv) := fun o => (hcu o).cells.cell (i := 2) (by omega)
 have hR := h.cells.lt
 have hsm := h.small
 by_cases h9 : b.length ≤ 9000
 · have hle : (b.length : Int) ≤ 9000 := by omega
   have HEV := hH (fun o => eventP_any R (w.alloc o) _ b 0 (hcu o))
   have HOK := hH (fun (W : World) (hW : But R w W) (ty : ByteArray) (ver : Int) (t : Tr) (Q : Nat → Prop) (d : C5) (hQ : ∀ b, Q b → b < W.heap.size) (hr : Rep Q W t d) (hty : ty.size ≤ 9223372036854775807) (hver : I64 ver) => implEventOk_any ty ver t Q d W hQ hr hty hver (hT.of_block (hW.at hT.lt (by omega))))
   have HX0 := hH (row7_alloc w (.string ⟨#[]⟩) (.int .i64 0) (.int .i64 0) (.int .i64 0) (.string ⟨#[]⟩) (.slice none 0 0) (.slice none 0 0) 28)
   have HB0 := hH hb0
   clear hcu h hT hb0
   go_enter Tryz.func38, Tryz.ntmps38
   go_wp2_with (go_at_call 68; refine (treeWant_yes _).mono ?_; rintro e w2 ⟨rfl, rfl⟩)
   refine (uh HEV _).mono ?_
   rintro e w1 ⟨hb1, hcase⟩
   have hbw := (uh HB0 _).trans hb1
   rcases hcase with ⟨ty, ver, t, ⟨c0, c1, c2, c3, c4⟩, F, a', rfl, ho, hnd, hF, hcu1, heq, hv255, hty, hco⟩ | ⟨rfl, hno⟩
   · rw [List.drop_zero] at heq hco
     obtain ⟨g0, g1, g2, -, -, -, F1, F2, -, ⟨ap, cp, g3, -⟩, aq, cq, g4, -⟩ := ho.open
     simp only at g0 g1 g2 g3 g4
     subst g0 g1 g2 g3 g4
     have hsz1 := hb1.size
     rw [World.size_alloc] at hsz1
     have hX1 := ((uh HX0).of_block (hb1.at (by simp) (by omega))).alloc (.cells #[.string ty, .int .i64 (ver : Int), .int .i64 t.sort, .int .i64 t.num, .string t.text, .slice ap t.names.length cp, .slice aq t.kids.length cq] 28)
     have hY1 := row7_alloc w1 (.string ty) (.int .i64 (ver : Int)) (.int .i64 t.sort) (.int .i64 t.num) (.string t.text) (.slice ap t.names.length cp) (.slice aq t.kids.length cq) 28
     have hcA := hcu1.on ((Below.refl _ w1).alloc (Nat.le_refl _) (.cells #[.string ty, .int .i64 (ver : Int), .int .i64 t.sort, .int .i64 t.num, .string t.text, .slice ap t.names.length cp, .slice aq t.kids.length cq] 28))
     have m0 := hcA.cells.cell (i := 0) (by omega); have m2 := hcA.cells.cell (i := 2) (by omega)
     have y0 := hY1.cell (i := 0) (by omega); have y1 := hY1.cell (i := 1) (by omega); have y2 := hY1.cell (i := 2) (by omega); have y3 := hY1.cell (i := 3) (by omega); have y4 := hY1.cell (i := 4) (by omega); have y5 := hY1.cell (i := 5) (by omega); have y6 := hY1.cell (i := 6) (by omega)
     simp only [row3, row7] at m0 m2 y0 y1 y2 y3 y4 y5 y6
     have hbA := hbw.trans (But.alloc R w1 (.cells #[.string ty, .int .i64 (ver : Int), .int .i64 t.sort, .int .i64 t.num, .string t.text, .slice ap t.names.length cp, .slice aq t.kids.length cq] 28))
     have hrA : Rep (· ∈ F) (w1.alloc (.cells #[.string ty, .int .i64 (ver : Int), .int .i64 t.sort, .int .i64 t.num, .string t.text, .slice ap t.names.length cp, .slice aq t.kids.length cq] 28)) t ⟨.int .i64 t.sort, .int .i64 t.num, .string t.text, .slice ap t.names.length cp, .slice aq t.kids.length cq⟩ := Own.rep t _ F (fun _ h => h) (Own.carry t _ F (fun x hx => Below.heap_alloc _ _ _ (hF x hx).2) ho)
     have HOKC := hH ((uh HOK (w1.alloc (.cells #[.string ty, .int .i64 (ver : Int), .int .i64 t.sort, .int .i64 t.num, .string t.text, .slice ap t.names.length cp, .slice aq t.kids.length cq] 28)).drew (hbA.trans (But.of_below (Below.refl _ _).drew)) ty ver t (· ∈ F) ⟨.int .i64 t.sort, .int .i64 t.num, .string t.text, .slice ap t.names.length cp, .slice aq t.kids.length cq⟩ (fun x hx => by show x < (w1.alloc _).heap.size; rw [World.size_alloc]; have := (hF x hx).2; omega) (Rep.carry (w := w1.alloc (.cells #[.string ty, .int .i64 (ver : Int), .int .i64 t.sort, .int .i64 t.num, .string t.text, .slice ap t.names.length cp, .slice aq t.kids.length cq] 28)) (w' := (w1.alloc (.cells #[.string ty, .int .i64 (ver : Int), .int .i64 t.sort, .int .i64 t.num, .string t.text, .slice ap t.names.length cp, .slice aq t.kids.length cq] 28)).drew) (fun _ _ => rfl) (fun _ h => h) _ _ hrA) (by omega) ⟨by omega, by omega⟩))
     have hle1 := hcu1.le
     have HX1 := hH hX1; have HY1 := hH hY1; have HBA := hH hbA; have HO := hH ho; have HF := hH hF
     have HEQ := hH heq; have HCO := hH hco
     clear hX1 hY1 hbA ho hF hrA heq hco hcA hcu1 hb1 hbw HEV HOK HB0 HX0 r2
     by_cases hcnt : a' = b.length
     · have hq : ((a' : Int) == (b.length : Int)) = true := by simp [hcnt]
       cases hok : evOkB ty ver t with
       | true =>
         rw [hok] at HOKC
         have HUP : Hid (UpE b ty ver t) := ⟨hok, by have := uh HEQ; rw [hcnt, List.drop_length, List.append_nil] at this; exact this.symm⟩
         clear hok HEQ HCO hcnt
         go_wp2_with fail
         go_region_law (first
          | (rw [if_pos (by first | rfl | simp [Region.wanted])]; go_simp; refine (uh HOKC).mono ?_
             rintro e w2 ⟨rfl, hb2⟩
             have hbb : Below (w1.alloc (.cells #[.string ty, .int .i64 (ver : Int), .int .i64 t.sort, .int .i64 t.num, .string t.text, .slice ap t.names.length cp, .slice aq t.kids.length cq] 28)).heap.size (w1.alloc (.cells #[.string ty, .int .i64 (ver : Int), .int .i64 t.sort, .int .i64 t.num, .string t.text, .slice ap t.names.length cp, .slice aq t.kids.length cq] 28)) w2 := (Below.refl _ _).drew.trans hb2
             have HBB := hH hbb
             clear hb2 hbb)
          | (rw [if_pos (by first | rfl | simp [Region.wanted])]; go_simp; refine (treeWant_yes _).mono ?_; rintro e w3 ⟨rfl, rfl⟩))
         all_goals
          have hX2 := (uh HX1).of_block ((uh HBB).block _ (uh HX1).lt)
          have hY2 := (uh HY1).of_block ((uh HBB).block _ (uh HY1).lt)
          obtain ⟨p0, p1, p2, p3, p4, p5, p6⟩ := cs7 hX2 (by omega); have pf := hX2.frozen
          obtain ⟨q0, q1, q2, q3, q4, q5, q6⟩ := cs7 hY2 (by omega)
          simp only [row7] at p0 p1 p2 p3 p4 p5 p6 q0 q1 q2 q3 q4 q5 q6
          have hs2 := (uh HBB).size
          rw [World.size_alloc] at hs2
          clear hX2 hY2 y0 y1 y2 y3 y4 y5 y6 m0 m2
          go_wp2_with fail
          refine bodyPost_ret (v := .agg #[.string ty, .int .i64 (ver : Int), .int .i64 t.sort, .int .i64 t.num, .string t.text, .slice ap t.names.length cp, .slice aq t.kids.length cq]) (by simp [results, Tryz.results38, go_sem, p0, p1, p2, p3, p4, p5, p6]) rfl ?_
          refine ⟨?_, Or.inl ⟨ty, ver, t, ⟨_, _, _, _, _⟩, F, rfl, Own.carry _ _ F (fun y hy => by
           have hy2 := uh HF y hy
           rw [World.size_alloc] at hy2
           repeat rw [Below.heap_setCell _ _ _ _ (by simp <;> omega)]
           rw [(uh HBB).block y (by rw [World.size_alloc]; omega), Below.heap_alloc _ _ _ hy2.2]) (uh HO), hnd, fun y hy => ⟨by have := (uh HF y hy).1; rw [World.size_alloc] at this; omega, by simp only [size_setCell]; have := (uh HF y hy).2; omega⟩, uh HUP⟩⟩
          repeat refine but_set ?_ (Nat.le_refl _) _ _
          exact (uh HBA).trans (But.of_below (uh HBB))
       | false =>
         rw [hok] at HOKC
         have HNO : Hid (∀ ty0 ver0 t0, ¬ UpE b ty0 ver0 t0) := fun ty0 ver0 t0 hu => by
          obtain ⟨e1, e2, e3, -⟩ := uh HCO ty0 ver0 t0 [] hu.1 (by rw [List.append_nil]; exact hu.2.symm)
          have h1 := hu.1
          rw [e1, e2, e3, hok] at h1
          cases h1
         clear hok HEQ HCO hcnt
         go_wp2_with fail
         go_region_law (first
          | (rw [if_pos (by first | rfl | simp [Region.wanted])]; go_simp; refine (uh HOKC).mono ?_
             rintro e w2 ⟨rfl, hb2⟩
             have hbb : Below (w1.alloc (.cells #[.string ty, .int .i64 (ver : Int), .int .i64 t.sort, .int .i64 t.num, .string t.text, .slice ap t.names.length cp, .slice aq t.kids.length cq] 28)).heap.size (w1.alloc (.cells #[.string ty, .int .i64 (ver : Int), .int .i64 t.sort, .int .i64 t.num, .string t.text, .slice ap t.names.length cp, .slice aq t.kids.length cq] 28)) w2 := (Below.refl _ _).drew.trans hb2
             have HBB := hH hbb
             clear hb2 hbb)
          | (rw [if_pos (by first | rfl | simp [Region.wanted])]; go_simp; refine (treeWant_no _).mono ?_; rintro e w3 ⟨rfl, rfl⟩; refine dead_end (by assumption) { tmps := #[], defers := [] } w (And.intro rfl ⟨(uh HBA).trans (But.of_below (uh HBB)), Or.inr ⟨rfl, uh HNO⟩⟩) (fun HF => ?_)))
         all_goals exact (uh HF).elim
     · have hq : ((a' : Int) == (b.length : Int)) = false := by simp; omega
       have HNO : Hid (∀ ty0 ver0 t0, ¬ UpE b ty0 ver0 t0) := fun ty0 ver0 t0 hu => by
        obtain ⟨-, -, -, e4⟩ := uh HCO ty0 ver0 t0 [] hu.1 (by rw [List.append_nil]; exact hu.2.symm)
        have := congrArg List.length e4
        simp at this
        omega
       clear HEQ HCO hcnt HOKC
       go_wp2_with fail
       go_region_law (rw [if_pos (by first | rfl | simp [Region.wanted])]; go_simp; refine (treeWant_no _).mono ?_; rintro e w3 ⟨rfl, rfl⟩; refine dead_end (by assumption) { tmps := #[], defers := [] } w (And.intro rfl ⟨(uh HBA).trans (But.of_below (Below.refl _ _).drew), Or.inr ⟨rfl, uh HNO⟩⟩) (fun HF => ?_))
       all_goals exact (uh HF).elim
   · refine ⟨rfl, hbw, Or.inr ⟨rfl, fun ty ver t hu => hno ⟨ty, ver, t, [], hu.1, by rw [List.drop_zero, List.append_nil]; exact hu.2.symm⟩⟩⟩
 · have hle : ¬ ((b.length : Int) ≤ 9000) := by omega
   have HNO : Hid (∀ ty ver t, ¬ UpE b ty ver t) := fun ty ver t hu => by
    obtain ⟨h1, h2⟩ := hu
    have hf := evOk_facts h1
    have := eventB_len (ty := ty) (ver := ver) (t := t) (d := 1) (by omega) hf.2.2.2.2.2.2
    rw [h2] at this
    omega
   have HB0 := hH hb0
   clear hcu h hT hb0
   go_enter Tryz.func38, Tryz.ntmps38
   go_wp2_with fail
   refine (treeWant_no _).mono ?_
   rintro e w2 ⟨rfl, rfl⟩
   exact ⟨rfl, uh HB0 _, Or.inr ⟨rfl, uh HNO⟩⟩

theorem UpE.same {b : List UInt8} {ty ty' : ByteArray} {ver ver' : Int} {t t' : Tr} (h : UpE b ty ver t) (h' : UpE b ty' ver' t') : ty' = ty ∧ ver' = ver ∧ t' = t := by
 have f := evOk_facts h.1
 have f' := evOk_facts h'.1
 have p1 := starts_ptx (l := b) (rest := []) h.1 (by rw [List.append_nil, h.2])
 have p2 := starts_ptx (l := b) (rest := []) h'.1 (by rw [List.append_nil, h'.2])
 rw [p1] at p2
 simp only [Option.some.injEq, Prod.mk.injEq, List.cons.injEq] at p2
 obtain ⟨e1, e2, e3⟩ := p2
 have hl : (treeB t).length = (treeB t').length := by
  have := congrArg List.length e3
  simpa using this
 have q1 := ptree_done t 1 f.2.2.2.2.2.2 (treeB t).length [] (Nat.le_refl _)
 have q2 := ptree_done t' 1 f'.2.2.2.2.2.2 (treeB t).length [] (by omega)
 rw [e3, q2] at q1
 simp only [Option.some.injEq, Prod.mk.injEq, and_true] at q1
 have hv := congrArg UInt8.toNat e2
 rw [show (UInt8.ofNat ver.toNat).toNat = ver.toNat from by simp; omega, show (UInt8.ofNat ver'.toNat).toNat = ver'.toNat from by simp; omega] at hv
 exact ⟨e1.symm, by omega, q1⟩

theorem EvR.same {L : List UInt8} {ty ty' : ByteArray} {v v' : Int} {t t' : Tr} (h : EvR L ty v t) (h' : EvR L ty' v' t') : ty' = ty ∧ v' = v ∧ t' = t := by
 have := ev_unique h'.1 h.1 h'.2 h.2
 simp only [Prod.mk.injEq] at this
 exact this

theorem enterUnpack (caps : Array Value) (W : World) : Sem.run Tryz.prog (callFunc 36 caps) W = .ok (.enter 36 caps) W := by
 kernel_rfl
theorem newCursor_any (w : World) (a : Option Addr) (n cap : Nat) : Calls Tryz.prog 37 #[.slice a n cap] w fun e w' => e = .returned (.pointer (some ⟨w.heap.size, 0, none⟩)) ∧ w' = w.alloc (.cells #[.int .i64 0, .int .i64 (n : Int), .slice a n cap] 98) := by
 go_enter Tryz.func37, Tryz.ntmps37
 go_wp2_with fail
 go_ret
 exact ⟨rfl, rfl⟩
structure UbAt (X : Nat) (w : World) (v : Value) (b : List UInt8) : Prop where
 box : w.rowIs X 22 1 (fun _ => v)
 rd : w.rowIs (X + 2) 28 7 (row7 (.string ⟨#[]⟩) (.int .i64 0) (.int .i64 0) (.int .i64 0) (.string ⟨#[]⟩) (.slice none 0 0) (.slice none 0 0))
 row : ByRow 0 w v b
 own : ∀ g, v.ownBlock = some g → g < X
 small : b.length ≤ 1048576
theorem upWork (X : Nat) (w : World) (v : Value) (b : List UInt8) (h : UbAt X w v b) (hT : Tab w) :
 Calls Tryz.prog 36 #[.pointer (some ⟨X, 0, none⟩), .pointer (some ⟨X + 2, 0, none⟩)] w fun e w' =>
  ((∃ (ty : ByteArray) (ver : Int) (t : Tr) (c : C5) (F : List Nat), e = .returned (.tuple #[]) ∧ w'.rowIs (X + 2) 28 7 (row7 (.string ty) (.int .i64 ver) c.c0 c.c1 c.c2 c.c3 c.c4) ∧ Own w' t c F ∧ F.Nodup ∧ (∀ x, x ∈ F → w.heap.size ≤ x ∧ x < w'.heap.size) ∧ UpE b ty ver t) ∨ (e = fltE ∧ (∀ ty ver t, ¬ UpE b ty ver t) ∧ w'.heap[X + 2]? = w.heap[X + 2]?)) ∧ But (X + 2) w w' := by
 obtain ⟨a, cap, hv⟩ := h.row.slice
 subst hv
 have x0 := h.box.cell (i := 0) (by omega)
 have hlt := h.rd.lt
 have hcu : Cu w.heap.size (w.alloc (.cells #[.int .i64 0, .int .i64 (b.length : Int), .slice a b.length cap] 98)) (.slice a b.length cap) b 0 :=
  ⟨row3_alloc w _ _ _ _, World.ownsRow.alloc h.row _, fun g e => by have := h.own g e; omega, Nat.zero_le _, h.small⟩
 have hTa := hT.of_block (w' := w.alloc (.cells #[.int .i64 0, .int .i64 (b.length : Int), .slice a b.length cap] 98)) (Below.heap_alloc _ _ _ hT.lt)
 have HW := hH (wholeP_any w.heap.size _ _ b hcu hTa hT.lt)
 have HRD := hH (h.rd.alloc (.cells #[.int .i64 0, .int .i64 (b.length : Int), .slice a b.length cap] 98))
 clear hcu hTa h hT
 go_enter Tryz.func36, Tryz.ntmps36
 go_wp2_with (go_at_call 37; refine (newCursor_any _ _ _ _).mono ?_; rintro e w' ⟨rfl, rfl⟩)
 refine (uh HW).mono ?_
 rintro e w1 ⟨hb1, hc⟩
 have hrd1 := (uh HRD).of_block (hb1.at (uh HRD).lt (by omega))
 have hbw : Below w.heap.size w w1 := ⟨hb1.os, hb1.tape, hb1.output, by have := hb1.size; rw [World.size_alloc] at this; omega, fun i hi => (hb1.at (by rw [World.size_alloc]; omega) (by omega)).trans (Below.heap_alloc _ _ _ hi)⟩
 rcases hc with ⟨ty, ver, t, ⟨c0, c1, c2, c3, c4⟩, F, rfl, ho, hnd, hF, hu⟩ | ⟨rfl, hno⟩
 · obtain ⟨g0, g1, g2, -, -, -, F1, F2, -, ⟨ap, cp, g3, -⟩, aq, cq, g4, -⟩ := ho.open
   simp only at g0 g1 g2 g3 g4
   subst g0 g1 g2 g3 g4
   obtain ⟨p0, p1, p2, p3, p4, p5, p6⟩ := cs7 hrd1 (by omega); have pf := hrd1.frozen
   simp only [row7] at p0 p1 p2 p3 p4 p5 p6
   have HR1 := hH hrd1; have HBW := hH hbw; have HO := hH ho; have HF := hH hF; have HU := hH hu
   clear hrd1 hbw ho hF hb1 HW HRD hu
   go_wp2_with fail
   go_end0
   have hsz := (uh HBW).size
   refine ⟨Or.inl ⟨ty, ver, t, ⟨.int .i64 t.sort, .int .i64 t.num, .string t.text, .slice ap t.names.length cp, .slice aq t.kids.length cq⟩, F, rfl, ?_, Own.carry _ _ F (fun y hy => ?_) (uh HO), hnd, fun y hy => ⟨by have := (uh HF y hy).1; rw [World.size_alloc] at this; omega, by simp only [size_setCell]; exact (uh HF y hy).2⟩, uh HU⟩, ?_⟩
   · have := (((((((uh HR1).set 0 (.string ty)).set 1 (.int .i64 ver)).set 2 (.int .i64 t.sort)).set 3 (.int .i64 t.num)).set 4 (.string t.text)).set 5 (.slice ap t.names.length cp)).set 6 (.slice aq t.kids.length cq)
     exact this.congr (fun i hi => by rcases (show i = 0 ∨ i = 1 ∨ i = 2 ∨ i = 3 ∨ i = 4 ∨ i = 5 ∨ i = 6 by omega) with rfl | rfl | rfl | rfl | rfl | rfl | rfl <;> rfl)
   · have := (uh HF y hy).1
     rw [World.size_alloc] at this
     repeat rw [Below.heap_setCell _ _ _ _ (by simp <;> omega)]
   · refine (But.of_below (uh HBW)).trans ?_
     exact (((((((But.set (B := X + 2) w1 0 _).trans (But.set _ 1 _)).trans (But.set _ 2 _)).trans (But.set _ 3 _)).trans (But.set _ 4 _)).trans (But.set _ 5 _)).trans (But.set _ 6 _))
 · exact ⟨rfl, Or.inr ⟨rfl, hno, hbw.block _ hlt⟩, But.of_below hbw⟩
end Go.Proofs.YtbkagahmiibclaaGreatDoor
