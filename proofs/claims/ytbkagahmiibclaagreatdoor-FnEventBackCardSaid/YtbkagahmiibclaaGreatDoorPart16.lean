/- The walks of the program's byteCursor: size and num. No conditions. -/
import Derived.Test.YtbkagahmiibclaaGreatDoorPart15
import Derived.Test.YtbkagahmiibclaaGreatDoorPart13
import Derived.Test.YtbkagahmiibclaaGreatDoorPart06
namespace Go.Proofs.YtbkagahmiibclaaGreatDoor
open Go Go.RowKit

/-- What reading comes to: a value and what is left, or a fault. -/
def RdEndU {α : Type} (R : Nat) (w w' : World) (v : Value) (b : List UInt8) (a : Nat) (res : Option (α × List UInt8)) (val : α → Value) (e : Ending) : Prop :=
  But R w w' ∧ match res with
    | some (x, rest) => e = .returned (val x) ∧ ∃ a', a < a' ∧ Cu R w' v b a' ∧ rest = b.drop a'
    | none => e = fltE

theorem psz_cons {r p a : Nat} {x : UInt8} {l : List UInt8} : psz (r + 1) p a (x :: l) = if x.toNat < 128 then (if a + x.toNat % 128 * p ≤ 999999999 ∧ (0 < x.toNat ∨ p = 1) then some (a + x.toNat % 128 * p, l) else none) else psz r (p * 128) (a + x.toNat % 128 * p) l := by rw [psz]

theorem pow_bound {r : Nat} (h : r < 5) : 128 ^ r ≤ 268435456 ∧ 0 < 128 ^ r := by
  rcases (show r = 0 ∨ r = 1 ∨ r = 2 ∨ r = 3 ∨ r = 4 by omega) with rfl | rfl | rfl | rfl | rfl <;> decide

set_option maxRecDepth 100000 in
set_option maxHeartbeats 3200000 in
theorem sizeP_any (R : Nat) (w : World) (v : Value) (b : List UInt8) (a : Nat) (h : Cu R w v b a) :
    Calls Tryz.prog 146 #[.pointer (some ⟨R, 0, none⟩)] w fun e w' => RdEndU R w w' v b a (psz 5 1 0 (b.drop a)) (fun s => .int .i64 (s : Int)) e := by
  have HC := hide h
  clear h
  go_enter Tryz.func146, Tryz.ntmps146
  go_wp2_with fail
  go_loopw [3, 4] (fun sz pl wr => ∃ (k p acc a' : Nat), k ≤ 5 ∧ sz = .int .i64 (acc : Int) ∧ pl = .int .i64 (p : Int) ∧ Hid (p = 128 ^ k) ∧ acc < p ∧ p ≤ 34359738368 ∧ Hid (Cu R wr v b a') ∧ Hid (But R w wr) ∧ Hid (psz (5 - k) p acc (b.drop a') = psz 5 1 0 (b.drop a)) ∧ a ≤ a') (fun _ pl _ => 34359738369 - (intOf pl).toNat)
  case atStart => exact ⟨0, 1, 0, a, by omega, rfl, rfl, rfl, by omega, by omega, HC, But.refl _ _, rfl, Nat.le_refl _⟩
  case round =>
    obtain ⟨k, p, acc, a', hk, rfl, rfl, HP, hac, hp9, HCU, HB, HZ, haa⟩ := hrel
    by_cases hk5 : k = 5
    · have hpp : p = 34359738368 := by rw [HP.out, hk5]
      have hno : psz 5 1 0 (b.drop a) = none := by rw [← HZ.out, hk5]; rfl
      have HNO := hide hno
      clear hno HP
      go_wp2_with fail
      refine ⟨rfl, HB.out, ?_⟩
      rw [unhide HNO]
    · have hpb := pow_bound (r := k) (by omega)
      rw [← HP.out] at hpb
      obtain ⟨hpb1, hpb0⟩ := hpb
      obtain ⟨r, hr⟩ : ∃ r, 5 - k = r + 1 := ⟨4 - k, by omega⟩
      have hz := HZ.out
      rw [hr] at hz
      by_cases hlt : a' < b.length
      · have HNX := hide (nextP_yes R wr v b a' HCU.out hlt)
        have hx := b[a'].toNat_lt
        rw [List.drop_eq_getElem_cons hlt, psz_cons] at hz
        generalize b[a'].toNat = x at *
        obtain ⟨q, hq⟩ : ∃ q, q = x % 128 * p := ⟨_, rfl⟩
        have hqi : ((x : Int) % 128) * (p : Int) = (q : Int) := by rw [hq]; simp
        have hqb : q ≤ 127 * 268435456 := by rw [hq]; exact Nat.mul_le_mul (by omega) hpb1
        rw [← hq] at hz
        have hql : q ≤ 127 * p := by rw [hq]; exact Nat.mul_le_mul_right p (by omega)
        have HQ := hide hq
        clear hq HZ
        by_cases h128 : x < 128
        · rw [if_pos h128] at hz
          by_cases c1 : acc + q ≤ 999999999
          · have c1i : (acc : Int) + q ≤ 999999999 := by omega
            by_cases c2 : 0 < x
            · rw [if_pos ⟨c1, Or.inl c2⟩] at hz
              have HZ := hide hz
              clear hz HP
              go_wp2_with fail
              refine (unhide HNX).mono ?_
              rintro e w1 ⟨rfl, hcu1, hb1⟩
              have HCU1 := hide hcu1; have HB1 := hide (HB.out.trans hb1)
              clear hcu1 hb1 HNX
              go_wp2_with (go_at_call 68; refine (treeWant_yes _).mono ?_; rintro e w2 ⟨rfl, rfl⟩)
              go_ret
              refine ⟨unhide HB1, ?_⟩
              rw [← HZ.out]
              exact ⟨rfl, a' + 1, by omega, unhide HCU1, rfl⟩
            · have hx0 : x = 0 := by omega
              subst hx0
              by_cases c3 : p = 1
              · rw [if_pos ⟨c1, Or.inr c3⟩] at hz
                subst c3
                have hacc0 : acc = 0 := by omega
                have hq0 : q = 0 := by have := unhide HQ; simpa using this
                subst hacc0 hq0
                have HZ := hide hz
                clear hz HP c2
                go_wp2_with fail
                refine (unhide HNX).mono ?_
                rintro e w1 ⟨rfl, hcu1, hb1⟩
                have HCU1 := hide hcu1; have HB1 := hide (HB.out.trans hb1)
                clear hcu1 hb1 HNX
                go_wp2_with (go_at_call 68; refine (treeWant_yes _).mono ?_; rintro e w2 ⟨rfl, rfl⟩)
                go_ret
                refine ⟨unhide HB1, ?_⟩
                rw [← HZ.out]
                exact ⟨rfl, a' + 1, by omega, unhide HCU1, rfl⟩
              · rw [if_neg (fun hh => by rcases hh.2 with h1 | h1 <;> omega)] at hz
                have c3b : ((p : Int) == 1) = false := by simp; omega
                have HZ := hide hz
                clear hz HP c2 c3
                go_wp2_with fail
                refine (unhide HNX).mono ?_
                rintro e w1 ⟨rfl, hcu1, hb1⟩
                have HB1 := hide (HB.out.trans hb1)
                clear hcu1 hb1 HNX
                go_wp2_with fail
                refine (treeWant_no _).mono ?_
                rintro e w2 ⟨rfl, rfl⟩
                refine ⟨rfl, unhide HB1, ?_⟩
                rw [← HZ.out]
          · have c1i : ¬ ((acc : Int) + q ≤ 999999999) := by omega
            rw [if_neg (fun hh => c1 hh.1)] at hz
            have HZ := hide hz
            clear hz HP
            go_wp2_with fail
            refine (unhide HNX).mono ?_
            rintro e w1 ⟨rfl, hcu1, hb1⟩
            have HB1 := hide (HB.out.trans hb1)
            clear hcu1 hb1 HNX
            go_wp2_with fail
            refine (treeWant_no _).mono ?_
            rintro e w2 ⟨rfl, rfl⟩
            refine ⟨rfl, unhide HB1, ?_⟩
            rw [← HZ.out]
        · rw [if_neg h128] at hz
          have hr2 : 5 - (k + 1) = r := by omega
          rw [← hr2] at hz
          have hp2 : p * 128 = 128 ^ (k + 1) := by rw [HP.out, Nat.pow_succ]
          have HZ := hide hz; have HP2 := hide hp2
          clear hz HP hp2 hr2
          go_wp2_with fail
          refine (unhide HNX).mono ?_
          rintro e w1 ⟨rfl, hcu1, hb1⟩
          have HCU1 := hide hcu1; have HB1 := hide (HB.out.trans hb1)
          clear hcu1 hb1 HNX
          go_wp2_with fail
          go_roundw
          case rel => exact ⟨k + 1, p * 128, acc + q, a' + 1, by omega, rfl, by go_num, HP2, by omega, by omega, HCU1, HB1, HZ, by omega⟩
          case measure => simp [intOf]; omega
      · have HNX := hide (nextP_no R wr v b a' HCU.out (by omega))
        have hno : psz 5 1 0 (b.drop a) = none := by rw [← hz, List.drop_eq_nil_of_le (by omega), psz]
        have HNO := hide hno
        clear hno hz HP HZ
        go_wp2_with fail
        refine (unhide HNX).mono ?_
        rintro e w1 ⟨rfl, hb1⟩
        refine ⟨rfl, HB.out.trans hb1, ?_⟩
        rw [unhide HNO]

set_option maxRecDepth 100000 in
set_option maxHeartbeats 1600000 in
theorem numP_any (R : Nat) (w : World) (v : Value) (b : List UInt8) (a : Nat) (h : Cu R w v b a) :
    Calls Tryz.prog 126 #[.pointer (some ⟨R, 0, none⟩)] w fun e w' => RdEndU R w w' v b a (pnum (b.drop a)) (fun s => .int .i64 s) e := by
  by_cases hlt : a < b.length
  · have HNX := hide (nextP_yes R w v b a h hlt)
    have HSZ := hide (fun (W : World) (hW : Cu R W v b (a + 1)) => sizeP_any R W v b (a + 1) hW)
    have hx := b[a].toNat_lt
    have hz : pnum (b.drop a) = (match psz 5 1 0 (b.drop (a + 1)) with | none => none | some (s, r) => if b[a].toNat = 0 ∨ (b[a].toNat = 1 ∧ 0 < s) then some (if b[a].toNat = 1 then -(s : Int) else s, r) else none) := by rw [List.drop_eq_getElem_cons hlt, pnum]; rfl
    have hsb : ∀ s rest, psz 5 1 0 (b.drop (a + 1)) = some (s, rest) → s ≤ 999999999 := fun s rest hs => by obtain ⟨_, _, _, _, h4⟩ := psz_sound _ _ _ _ _ _ (by decide) hs; exact h4
    clear h
    generalize b[a].toNat = x at *
    generalize pnum (b.drop a) = res at *
    cases hs : psz 5 1 0 (b.drop (a + 1)) with
    | none =>
      rw [hs] at hz HSZ
      simp only at hz
      subst hz
      clear hs hsb
      go_enter Tryz.func126, Tryz.ntmps126
      go_wp2_with fail
      refine (unhide HNX).mono ?_
      rintro e w1 ⟨rfl, hcu1, hb1⟩
      have HS := hide (unhide HSZ w1 hcu1); have HB1 := hide hb1
      clear hcu1 hb1 HNX HSZ
      go_wp2_with fail
      refine (unhide HS).mono ?_
      rintro e w2 ⟨hb2, rfl⟩
      exact ⟨rfl, (unhide HB1).trans hb2, rfl⟩
    | some y =>
      obtain ⟨s, rest⟩ := y
      have hs9 := hsb s rest hs
      rw [hs] at hz HSZ
      simp only at hz
      clear hs hsb
      rcases (show x = 0 ∨ (x = 1 ∧ 0 < s) ∨ (x = 1 ∧ s = 0) ∨ (x ≠ 0 ∧ x ≠ 1) by omega) with hc | ⟨hc, hc2⟩ | ⟨hc, hc2⟩ | ⟨hc, hc2⟩
      · subst hc
        simp at hz
        subst hz
        go_enter Tryz.func126, Tryz.ntmps126
        go_wp2_with fail
        refine (unhide HNX).mono ?_
        rintro e w1 ⟨rfl, hcu1, hb1⟩
        have HS := hide (unhide HSZ w1 hcu1); have HB1 := hide hb1
        clear hcu1 hb1 HNX HSZ
        go_wp2_with fail
        refine (unhide HS).mono ?_
        rintro e w2 ⟨hb2, rfl, a', ha', hcu2, hr2⟩
        have HCU := hide hcu2; have HB2 := hide ((unhide HB1).trans hb2); have HR := hide hr2
        clear hb2 hcu2 HS HB1 hr2
        go_wp2_with (go_at_call 68; refine (treeWant_yes _).mono ?_; rintro e w2 ⟨rfl, rfl⟩)
        go_ret
        exact ⟨unhide HB2, rfl, a', by omega, unhide HCU, unhide HR⟩
      · subst hc
        simp [hc2] at hz
        subst hz
        have hneg : ¬ ((s : Int) = 0) := by omega
        go_enter Tryz.func126, Tryz.ntmps126
        go_wp2_with fail
        refine (unhide HNX).mono ?_
        rintro e w1 ⟨rfl, hcu1, hb1⟩
        have HS := hide (unhide HSZ w1 hcu1); have HB1 := hide hb1
        clear hcu1 hb1 HNX HSZ
        go_wp2_with fail
        refine (unhide HS).mono ?_
        rintro e w2 ⟨hb2, rfl, a', ha', hcu2, hr2⟩
        have HCU := hide hcu2; have HB2 := hide ((unhide HB1).trans hb2); have HR := hide hr2
        clear hb2 hcu2 HS HB1 hr2
        go_wp2_with (go_at_call 68; refine (treeWant_yes _).mono ?_; rintro e w2 ⟨rfl, rfl⟩)
        go_ret
        exact ⟨unhide HB2, rfl, a', by omega, unhide HCU, unhide HR⟩
      · subst hc hc2
        simp at hz
        subst hz
        go_enter Tryz.func126, Tryz.ntmps126
        go_wp2_with fail
        refine (unhide HNX).mono ?_
        rintro e w1 ⟨rfl, hcu1, hb1⟩
        have HS := hide (unhide HSZ w1 hcu1); have HB1 := hide hb1
        clear hcu1 hb1 HNX HSZ
        go_wp2_with fail
        refine (unhide HS).mono ?_
        rintro e w2 ⟨hb2, rfl, a', ha', hcu2, hr2⟩
        have HB2 := hide ((unhide HB1).trans hb2)
        clear hb2 hcu2 HS HB1 hr2
        go_wp2_with fail
        refine (treeWant_no _).mono ?_
        rintro e w3 ⟨rfl, rfl⟩
        exact ⟨rfl, unhide HB2, rfl⟩
      · rw [if_neg (by omega)] at hz
        subst hz
        have q0 : ((x : Int) == 0) = false := by simp; omega
        have q1 : ((x : Int) == 1) = false := by simp; omega
        clear hc hc2
        go_enter Tryz.func126, Tryz.ntmps126
        go_wp2_with fail
        refine (unhide HNX).mono ?_
        rintro e w1 ⟨rfl, hcu1, hb1⟩
        have HS := hide (unhide HSZ w1 hcu1); have HB1 := hide hb1
        clear hcu1 hb1 HNX HSZ
        go_wp2_with fail
        refine (unhide HS).mono ?_
        rintro e w2 ⟨hb2, rfl, a', ha', hcu2, hr2⟩
        have HB2 := hide ((unhide HB1).trans hb2)
        clear hb2 hcu2 HS HB1 hr2
        go_wp2_with fail
        refine (treeWant_no _).mono ?_
        rintro e w3 ⟨rfl, rfl⟩
        exact ⟨rfl, unhide HB2, rfl⟩
  · have HNX := hide (nextP_no R w v b a h (by omega))
    rw [List.drop_eq_nil_of_le (by omega), pnum]
    clear h
    go_enter Tryz.func126, Tryz.ntmps126
    go_wp2_with fail
    refine (unhide HNX).mono ?_
    rintro e w1 ⟨rfl, hb1⟩
    exact ⟨rfl, hb1, rfl⟩
end Go.Proofs.YtbkagahmiibclaaGreatDoor

/- What the program's reader of kids has read so far; rows whose last element is laid anew; frames of two blocks. No program walked, no conditions. -/

namespace Go.Proofs.YtbkagahmiibclaaGreatDoor
open Go Go.RowKit

/-- Of n kids k were read, and what is left decides the rest. -/
def KRel (P : List UInt8 → Option (Tr × List UInt8)) (form : Bool) (n k : Nat) (l0 l : List UInt8) (ns : List ByteArray) (ks : List Tr) : Prop :=
  pkids P form n l0 = (pkids P form (n - k) l).map (fun y => (ns ++ y.1, ks ++ y.2.1, y.2.2))

theorem KRel.start (P : List UInt8 → Option (Tr × List UInt8)) (form : Bool) (n : Nat) (l : List UInt8) : KRel P form n 0 l l [] [] := by
  unfold KRel
  cases pkids P form n l <;> simp
theorem KRel.done {P : List UInt8 → Option (Tr × List UInt8)} {form : Bool} {n : Nat} {l0 l : List UInt8} {ns : List ByteArray} {ks : List Tr} (h : KRel P form n n l0 l ns ks) : pkids P form n l0 = some (ns, ks, l) := by
  unfold KRel at h
  rw [Nat.sub_self, pkids] at h
  simpa using h
theorem KRel.name_no {P : List UInt8 → Option (Tr × List UInt8)} {n k : Nat} {l0 l : List UInt8} {ns : List ByteArray} {ks : List Tr} (h : KRel P true n k l0 l ns ks) (hk : k < n) (hp : ptx l = none) : pkids P true n l0 = none := by
  unfold KRel at h
  rw [h, show n - k = (n - k - 1) + 1 from by omega, pkids]
  simp [hp]
theorem KRel.tree_no {P : List UInt8 → Option (Tr × List UInt8)} {n k : Nat} {l0 l l1 : List UInt8} {ns : List ByteArray} {ks : List Tr} {nm : ByteArray} (h : KRel P true n k l0 l ns ks) (hk : k < n) (hp : ptx l = some (nm, l1)) (ht : P l1 = none) : pkids P true n l0 = none := by
  unfold KRel at h
  rw [h, show n - k = (n - k - 1) + 1 from by omega, pkids]
  simp [hp, ht]
theorem KRel.tree_no' {P : List UInt8 → Option (Tr × List UInt8)} {n k : Nat} {l0 l : List UInt8} {ns : List ByteArray} {ks : List Tr} (h : KRel P false n k l0 l ns ks) (hk : k < n) (ht : P l = none) : pkids P false n l0 = none := by
  unfold KRel at h
  rw [h, show n - k = (n - k - 1) + 1 from by omega, pkids]
  simp [ht]
theorem KRel.step {P : List UInt8 → Option (Tr × List UInt8)} {n k : Nat} {l0 l l1 l2 : List UInt8} {ns : List ByteArray} {ks : List Tr} {nm : ByteArray} {t : Tr} (h : KRel P true n k l0 l ns ks) (hk : k < n) (hp : ptx l = some (nm, l1)) (ht : P l1 = some (t, l2)) : KRel P true n (k + 1) l0 l2 (ns ++ [nm]) (ks ++ [t]) := by
  unfold KRel at h ⊢
  rw [h, show n - k = (n - (k + 1)) + 1 from by omega, pkids]
  simp only [if_true, hp, ht]
  cases h3 : pkids P true (n - (k + 1)) l2 <;> simp
theorem KRel.step' {P : List UInt8 → Option (Tr × List UInt8)} {n k : Nat} {l0 l l2 : List UInt8} {ns : List ByteArray} {ks : List Tr} {t : Tr} (h : KRel P false n k l0 l ns ks) (hk : k < n) (ht : P l = some (t, l2)) : KRel P false n (k + 1) l0 l2 ns (ks ++ [t]) := by
  unfold KRel at h ⊢
  rw [h, show n - k = (n - (k + 1)) + 1 from by omega, pkids]
  simp only [Bool.false_eq_true, if_false, ht]
  cases h3 : pkids P false (n - (k + 1)) l2 <;> simp

/-- But two blocks all that was there is as it was. -/
structure But2 (R Y : Nat) (w w' : World) : Prop where
  os : w'.os = w.os
  tape : w'.tape = w.tape
  output : w'.output = w.output
  size : w.heap.size ≤ w'.heap.size
  block : ∀ b, b < w.heap.size → b ≠ R → b ≠ Y → w'.heap[b]? = w.heap[b]?
theorem But2.refl (R Y : Nat) (w : World) : But2 R Y w w := ⟨rfl, rfl, rfl, Nat.le_refl _, fun _ _ _ _ => rfl⟩
theorem But2.trans {R Y : Nat} {a b c : World} (h : But2 R Y a b) (k : But2 R Y b c) : But2 R Y a c :=
  ⟨k.os.trans h.os, k.tape.trans h.tape, k.output.trans h.output, Nat.le_trans h.size k.size, fun i hi h1 h2 => (k.block i (Nat.lt_of_lt_of_le hi h.size) h1 h2).trans (h.block i hi h1 h2)⟩
theorem But2.ofR {R Y : Nat} {w w' : World} (h : But R w w') : But2 R Y w w' := ⟨h.os, h.tape, h.output, h.size, fun _ hi h1 _ => h.at hi h1⟩
/-- A row from Y + 1 on has grown: nothing that was there ahead of Y has turned. -/
theorem But2.row {R Y n0 : Nat} {a w w' : World} {row : Option Nat} (h : But2 R Y a w) (hn : a.heap.size ≤ n0) (hg : w.grownBy w' row) (hr : ∀ b, row = some b → n0 ≤ b) : But2 R Y a w' :=
  ⟨hg.os.trans h.os, hg.tape.trans h.tape, hg.output.trans h.output, Nat.le_trans h.size hg.size, fun i hi h1 h2 => (hg.block i (Nat.lt_of_lt_of_le hi h.size) (fun e => by have := hr i e.symm; omega)).trans (h.block i hi h1 h2)⟩

theorem SInv.but {base B R : Nat} {w w' : World} {s : Int} {vN vK : Value} {ns : List ByteArray} {ks : List Tr} {xs : List Value} {G : List Nat} (h : SInv base B w s vN vK ns ks xs G) (hg : But R w w') (hR : R < base) (hRB : R ≠ B) : SInv base B w' s vN vK ns ks xs G :=
  ⟨h.hB, h.cells.of_block (hg.at h.cells.lt (fun e => hRB e.symm)), h.names.kept hg (by
      rcases e : vN.ownBlock with _ | g
      · exact Or.inl rfl
      · exact Or.inr (fun e2 => by have := (h.names.lt g e).1; simp at e2; omega)), h.got.other hg (fun b e => by
      cases e
      exact ⟨fun e2 => by have := (h.got.row.lt R e2).1; omega, fun hm => by have := (h.got.lt R hm).1; omega⟩), h.apart, Nat.le_trans h.size hg.size⟩

/-- Cells of different blocks may be laid in either order. -/
theorem setCell_comm (w : World) {a b : Addr} (u v : Value) (h : a.block ≠ b.block) : (w.setCell a u).setCell b v = (w.setCell b v).setCell a u := by
  unfold World.setCell
  simp only [World.mk.injEq, and_true]
  apply Array.ext
  · simp
  · intro i h1 h2
    simp only [Array.getElem_modify]
    by_cases e1 : a.block = i
    · by_cases e2 : b.block = i
      · omega
      · simp [e1, e2]
    · simp [e1]

theorem ownsRow_set {w : World} {base : Nat} {e : TypeId} {size g n cap : Nat} {xs : List Value} (h : w.ownsRow base e size (.slice (some ⟨g, 0, none⟩) n cap) n xs) (j : Nat) (u : Value) : (w.setCell ⟨g, j, none⟩ u).ownsRow base e size (.slice (some ⟨g, 0, none⟩) n cap) n (xs.set j u) := by
  rcases h.2 with ⟨hv, _⟩ | ⟨g', cap', cur, hv, hb, hg, hnc, hcm, hcs, htk⟩
  · simp at hv
  · simp only [Value.slice.injEq, Option.some.injEq, Addr.mk.injEq, and_true, true_and] at hv
    obtain ⟨rfl, rfl⟩ := hv
    refine ⟨by rw [List.length_set]; exact h.1, Or.inr ⟨g, cap, cur.setIfInBounds j u, rfl, hb, ?_, hnc, hcm, by rw [Array.size_setIfInBounds]; exact hcs, ?_⟩⟩
    · simp [World.setCell, Array.getElem?_modify, hg]
    · rw [Array.toList_setIfInBounds, List.take_set, htk]

/-- The last tree of a row, laid anew. -/
def lay5 (w : World) (g o : Nat) (c : C5) : World := ((((w.setCell ⟨g, o, none⟩ c.c0).setCell ⟨g, o + 1, none⟩ c.c1).setCell ⟨g, o + 2, none⟩ c.c2).setCell ⟨g, o + 3, none⟩ c.c3).setCell ⟨g, o + 4, none⟩ c.c4

theorem own_last {w : World} {base : Nat} {e : TypeId} {g n cap : Nat} {xs : List Value} {z0 z1 z2 z3 z4 : Value} (h : w.ownsRow base e 5 (.slice (some ⟨g, 0, none⟩) (n + 1) cap) (n + 1) (xs ++ [z0, z1, z2, z3, z4])) (c : C5) :
    (lay5 w g (n * 5) c).ownsRow base e 5 (.slice (some ⟨g, 0, none⟩) (n + 1) cap) (n + 1) (xs ++ c5l c) := by
  have hl : xs.length = n * 5 := by have := h.1; simp at this; omega
  have := ownsRow_set (ownsRow_set (ownsRow_set (ownsRow_set (ownsRow_set h (n * 5) c.c0) (n * 5 + 1) c.c1) (n * 5 + 2) c.c2) (n * 5 + 3) c.c3) (n * 5 + 4) c.c4
  have e5 : (((((xs ++ [z0, z1, z2, z3, z4]).set (n * 5) c.c0).set (n * 5 + 1) c.c1).set (n * 5 + 2) c.c2).set (n * 5 + 3) c.c3).set (n * 5 + 4) c.c4 = xs ++ c5l c := by
    rw [← hl]
    simp [c5l]
  rw [e5] at this
  exact this

theorem grown_lay5 {w w' : World} {row : Option Nat} {g o : Nat} {c : C5} (h : w.grownBy w' row) (hr : row = some g ∨ w.heap.size ≤ g) : w.grownBy (lay5 w' g o c) row := by
  have hs : ∀ (W : World) (j : Nat) (u : Value), w.grownBy W row → w.grownBy (W.setCell ⟨g, j, none⟩ u) row := fun W j u hW =>
    ⟨hW.os, hW.tape, hW.output, by simp [World.setCell]; exact hW.size, fun i hi hne => by
      rw [Below.heap_setCell _ _ _ _ (fun e => by
        rcases hr with hr | hr
        · exact hne (by rw [hr, e])
        · simp at e; omega)]
      exact hW.block i hi hne⟩
  exact hs _ _ _ (hs _ _ _ (hs _ _ _ (hs _ _ _ (hs _ _ _ h))))
end Go.Proofs.YtbkagahmiibclaaGreatDoor

/- What the walks of the program's byteCursor.kids hold: definitions and small laws. No conditions. -/

namespace Go.Proofs.YtbkagahmiibclaaGreatDoor
open Go Go.RowKit

/-- What reading a tree comes to. -/
def UnEnd (R : Nat) (w w' : World) (v : Value) (b : List UInt8) (a : Nat) (res : Option (Tr × List UInt8)) (e : Ending) : Prop :=
  But R w w' ∧ match res with
    | some (t, rest) => ∃ (c : C5) (F : List Nat), e = .returned (.agg #[c.c0, c.c1, c.c2, c.c3, c.c4]) ∧ Own w' t c F ∧ F.Nodup ∧ (∀ x, x ∈ F → w.heap.size ≤ x ∧ x < w'.heap.size) ∧ ∃ a', a < a' ∧ Cu R w' v b a' ∧ rest = b.drop a'
    | none => e = fltE

def UnT (f : Nat) : Prop := ∀ (R : Nat) (w : World) (v : Value) (b : List UInt8) (a : Nat), Cu R w v b a → (b.drop a).length < f →
    Calls Tryz.prog 97 #[.pointer (some ⟨R, 0, none⟩)] w fun e w' => UnEnd R w w' v b a (ptree f (b.drop a)) e

/-- What reading kids comes to. -/
def KdEnd (R Y : Nat) (w w' : World) (v : Value) (b : List UInt8) (a : Nat) (s : Int) (res : Option (List ByteArray × List Tr × List UInt8)) (e : Ending) : Prop :=
  But2 R Y w w' ∧ match res with
    | some (ns, ks, rest) => e = .returned (.tuple #[]) ∧ ∃ vN vK xs G a', SInv (Y + 1) Y w' s vN vK ns ks xs G ∧ (∀ x, x ∈ ns → x.size ≤ 255) ∧ a < a' ∧ Cu R w' v b a' ∧ rest = b.drop a'
    | none => e = fltE
theorem KdEnd.no {R Y : Nat} {w w' : World} {v : Value} {b : List UInt8} {a : Nat} {s : Int} {res : Option (List ByteArray × List Tr × List UInt8)} (h : res = none) (hb : But2 R Y w w') : KdEnd R Y w w' v b a s res fltE := by
  subst h; exact ⟨hb, rfl⟩

theorem infoStr16 : (Tryz.prog.info? 9).map (fun i => (i.zero, i.size, i.bytes)) = some (some (.string ByteArray.empty), 1, 16) := by kernel_rfl
theorem infoTree80 : (Tryz.prog.info? 26).map (fun i => (i.zero, i.size, i.bytes)) = some (some (.agg #[.int .i64 0, .int .i64 0, .string ByteArray.empty, .slice none 0 0, .slice none 0 0]), 5, 80) := by kernel_rfl

/-- What the loop of kids holds. -/
structure KAt (R Y : Nat) (w wr : World) (v : Value) (b : List UInt8) (s : Int) (a' : Nat) (vN vK : Value) (ns : List ByteArray) (ks : List Tr) (xs : List Value) (G : List Nat) : Prop where
  cu : Cu R wr v b a'
  inv : SInv (Y + 1) Y wr s vN vK ns ks xs G
  but : But2 R Y w wr
  low : w.heap.size = Y + 1
  RY : R < Y
  short : ∀ x, x ∈ ns → x.size ≤ 255

theorem drewN_grown1 (w : World) : w.grownBy w.drew none := ⟨rfl, rfl, rfl, Nat.le_refl _, fun _ _ _ => rfl⟩
theorem KAt.drew {R Y : Nat} {w wr : World} {v : Value} {b : List UInt8} {s : Int} {a' : Nat} {vN vK : Value} {ns : List ByteArray} {ks : List Tr} {xs : List Value} {G : List Nat} (h : KAt R Y w wr v b s a' vN vK ns ks xs G) : KAt R Y w wr.drew v b s a' vN vK ns ks xs G :=
  ⟨h.cu.on (Below.refl _ wr).drew, h.inv.kept (drewN_grown1 wr), h.but.trans (But2.ofR (But.of_below (Below.refl _ wr).drew)), h.low, h.RY, h.short⟩
theorem KAt.alloc {R Y : Nat} {w wr : World} {v : Value} {b : List UInt8} {s : Int} {a' : Nat} {vN vK : Value} {ns : List ByteArray} {ks : List Tr} {xs : List Value} {G : List Nat} (h : KAt R Y w wr v b s a' vN vK ns ks xs G) (o : Obj) : KAt R Y w (wr.alloc o) v b s a' vN vK ns ks xs G :=
  ⟨h.cu.on ((Below.refl _ wr).alloc (Nat.le_refl _) o), h.inv.kept (World.grownBy_alloc wr o none), h.but.trans (But2.ofR (But.alloc R wr o)), h.low, h.RY, h.short⟩
theorem KAt.read {R Y : Nat} {w wr w' : World} {v : Value} {b : List UInt8} {s : Int} {a' a2 : Nat} {vN vK : Value} {ns : List ByteArray} {ks : List Tr} {xs : List Value} {G : List Nat} (h : KAt R Y w wr v b s a' vN vK ns ks xs G) (hb : But R wr w') (hc : Cu R w' v b a2) : KAt R Y w w' v b s a2 vN vK ns ks xs G :=
  ⟨hc, h.inv.but hb (by have := h.RY; omega) (by have := h.RY; omega), h.but.trans (But2.ofR hb), h.low, h.RY, h.short⟩

/-- The cells of a zero tree. -/
abbrev zc : C5 := ⟨.int .i64 0, .int .i64 0, .string ⟨#[]⟩, .slice none 0 0, .slice none 0 0⟩

theorem zc_one : ∀ u ∈ c5l zc, u.oneCell' = true := by
  intro u hu
  simp [c5l] at hu
  rcases hu with rfl | rfl | rfl <;> rfl

/-- What is known behind the append of a zero tree. -/
theorem KAt.ready {R Y : Nat} {w W w8 : World} {v : Value} {b : List UInt8} {s : Int} {a' : Nat} {vN : Value} {aK : Option Addr} {k capK g cap2 : Nat} {ns : List ByteArray} {ks : List Tr} {xs : List Value} {G : List Nat} (h : KAt R Y w W v b s a' vN (.slice aK k capK) ns ks xs G)
    (hown : w8.ownsRow (Y + 1) 26 5 (.slice (some ⟨g, 0, none⟩) (k + 1) cap2) (k + 1) (xs ++ c5l zc)) (hgrow : W.grownBy w8 (Value.slice aK k capK).ownBlock) :
    (w8.cell? ⟨g, k * 5, none⟩ = some zc.c0 ∧ w8.cell? ⟨g, k * 5 + 1, none⟩ = some zc.c1 ∧ w8.cell? ⟨g, k * 5 + 2, none⟩ = some zc.c2 ∧ w8.cell? ⟨g, k * 5 + 3, none⟩ = some zc.c3 ∧ w8.cell? ⟨g, k * 5 + 4, none⟩ = some zc.c4) ∧ (∀ j, w8.frozen? ⟨g, j, none⟩ = false) ∧ w8.cell? ⟨Y, 4, none⟩ = some (.slice aK k capK) ∧ w8.frozen? ⟨Y, 4, none⟩ = false ∧ g ≠ Y ∧ Y ≠ g := by
  have hl : xs.length = k * 5 := by have := hown.1; simp [c5l] at this; omega
  have hgb := (hown.lt g rfl).1
  have hcell : ∀ i, (hi : i < 5) → w8.cell? ⟨g, k * 5 + i, none⟩ = (c5l zc)[i]? := fun i hi => by
    have hj : (xs ++ c5l zc)[k * 5 + i]? = (c5l zc)[i]? := by
      rw [List.getElem?_append_right (by omega), show k * 5 + i - xs.length = i from by omega]
    have hs : ∃ u, (c5l zc)[i]? = some u := ⟨(c5l zc)[i]'(by simp [c5l]; omega), List.getElem?_eq_getElem (by simp [c5l]; omega)⟩
    obtain ⟨u, hu⟩ := hs
    rw [hu]
    have := hown.cells (g := g) rfl (k * 5 + i) u (by rw [hj]; exact hu)
    rw [Addr.add_lit, Nat.zero_add] at this
    exact this
  have hrow : w8.rowIs Y 26 5 (row5 (.int .i64 s) (.int .i64 0) (.string ⟨#[]⟩) vN (.slice aK k capK)) :=
    h.inv.cells.of_block (hgrow.block Y h.inv.cells.lt (fun e => by have := (h.inv.got.row.lt Y e.symm).1; omega))
  refine ⟨⟨by have := hcell 0 (by omega); rw [Nat.add_zero] at this; exact this, hcell 1 (by omega), hcell 2 (by omega), hcell 3 (by omega), hcell 4 (by omega)⟩, fun j => ?_, hrow.cell (i := 4) (by omega), hrow.frozen 4, by omega, by omega⟩
  rcases hown.2 with ⟨hv, _⟩ | ⟨g', cap', cur, hv, _, hh, _⟩
  · simp at hv
  · simp only [Value.slice.injEq, Option.some.injEq, Addr.mk.injEq, and_true] at hv
    obtain ⟨rfl, -⟩ := hv
    simp [World.frozen?, hh]

/-- A kid more. -/
theorem KAt.push {R Y m : Nat} {w W w8 : World} {v : Value} {b : List UInt8} {s : Int} {a' : Nat} {vN : Value} {aK : Option Addr} {k capK g cap2 : Nat} {ns : List ByteArray} {ks : List Tr} {xs : List Value} {G F : List Nat} {t : Tr} {c : C5} (h : KAt R Y w W v b s a' vN (.slice aK k capK) ns ks xs G) (hks : k = ks.length)
    (ht : Own W t c F) (hnd : F.Nodup) (hF : ∀ x, x ∈ F → m ≤ x ∧ x < W.heap.size) (hGm : ∀ x, x ∈ G → x < m) (hvm : ∀ x, (Value.slice aK k capK).ownBlock = some x → x < m) (hnm : ∀ x, vN.ownBlock = some x → x < m) (hbm : Y + 1 ≤ m)
    (hown : w8.ownsRow (Y + 1) 26 5 (.slice (some ⟨g, 0, none⟩) (k + 1) cap2) (k + 1) (xs ++ c5l zc)) (hgrow : W.grownBy w8 (Value.slice aK k capK).ownBlock) (hat : (Value.slice aK k capK).ownBlock = some g ∨ g = W.heap.size) :
    KAt R Y w ((lay5 w8 g (k * 5) c).setCell ⟨Y, 4, none⟩ (.slice (some ⟨g, 0, none⟩) (k + 1) cap2)) v b s a' vN (.slice (some ⟨g, 0, none⟩) (k + 1) cap2) ns (ks ++ [t]) (xs ++ c5l c) (G ++ F) := by
  have hg2 := grown_lay5 (o := k * 5) (c := c) hgrow (by rcases hat with h1 | h1; exact Or.inl h1; exact Or.inr (by omega))
  have hinv := SInv.kid h.inv ht hnd hF hGm hvm hnm hbm (by rw [← hks]; exact own_last hown c) hg2 (by
    rcases hat with h1 | h1
    · exact Or.inl (by rw [h1]; rfl)
    · exact Or.inr ⟨g, rfl, by omega⟩)
  have hlow := h.low
  have hRY := h.RY
  have hsz := h.but.size
  have hrowR : ∀ x, (Value.slice aK k capK).ownBlock = some x → Y + 1 ≤ x := fun x e => (h.inv.got.row.lt x e).1
  have hset : (lay5 w8 g (k * 5) c).grownBy ((lay5 w8 g (k * 5) c).setCell ⟨Y, 4, none⟩ (.slice (some ⟨g, 0, none⟩) (k + 1) cap2)) (some Y) := But.set _ _ _
  refine ⟨⟨?_, ?_, h.cu.own, h.cu.le, h.cu.small⟩, hinv, ?_, hlow, hRY, h.short⟩
  · refine (h.cu.cells.of_block (hg2.block R h.cu.cells.lt (fun e => by have := hrowR R e.symm; omega))).of_block (hset.block R ?_ (by simp; omega))
    exact Nat.lt_of_lt_of_le h.cu.cells.lt hg2.size
  · refine (h.cu.row.of_block (fun x e => hg2.block x (h.cu.row.own x e).2 (fun e2 => by have := hrowR x e2.symm; have := h.cu.own x e; omega))).of_block (fun x e => hset.block x (Nat.lt_of_lt_of_le (h.cu.row.own x e).2 hg2.size) (by have := h.cu.own x e; simp; omega))
  · refine ⟨hset.os.trans (hg2.os.trans h.but.os), hset.tape.trans (hg2.tape.trans h.but.tape), hset.output.trans (hg2.output.trans h.but.output), Nat.le_trans h.but.size (Nat.le_trans hg2.size hset.size), fun x hx h1 h2 => ?_⟩
    have hxW : x < W.heap.size := by omega
    exact (hset.block x (Nat.lt_of_lt_of_le hxW hg2.size) (by simp; omega)).trans ((hg2.block x hxW (fun e => by have := hrowR x e.symm; omega)).trans (h.but.block x hx h1 h2))

theorem lay5_comm (w : World) {g Y o : Nat} (c : C5) (u : Value) (h : g ≠ Y) : (lay5 w g o c).setCell ⟨Y, 4, none⟩ u = lay5 (w.setCell ⟨Y, 4, none⟩ u) g o c := by
  unfold lay5
  have e : ∀ (W : World) (j : Nat) (x : Value), (W.setCell ⟨g, j, none⟩ x).setCell ⟨Y, 4, none⟩ u = (W.setCell ⟨Y, 4, none⟩ u).setCell ⟨g, j, none⟩ x := fun W j x => setCell_comm W x u h
  rw [e, e, e, e, e]

/-- A name more. -/
theorem KAt.name {R Y : Nat} {w W w6 : World} {v : Value} {b : List UInt8} {s : Int} {a' : Nat} {vN vK v' : Value} {ns : List ByteArray} {ks : List Tr} {xs : List Value} {G : List Nat} {nm : ByteArray} (h : KAt R Y w W v b s a' vN vK ns ks xs G) (hsz : nm.size ≤ 255)
    (hown : w6.ownsRow (Y + 1) 9 1 v' (ns.length + 1) (ns.map Value.string ++ [.string nm])) (hgrow : W.grownBy w6 vN.ownBlock) (hat : v'.ownBlock = vN.ownBlock ∨ ∃ g, v'.ownBlock = some g ∧ W.heap.size ≤ g) :
    KAt R Y w (w6.setCell ⟨Y, 3, none⟩ v') v b s a' v' vK (ns ++ [nm]) ks xs G := by
  have hinv := SInv.name h.inv hown hgrow hat
  have hlow := h.low
  have hRY := h.RY
  have hsz2 := h.but.size
  have hrowR : ∀ x, vN.ownBlock = some x → Y + 1 ≤ x := fun x e => (h.inv.names.lt x e).1
  have hset : w6.grownBy (w6.setCell ⟨Y, 3, none⟩ v') (some Y) := But.set _ _ _
  refine ⟨⟨?_, ?_, h.cu.own, h.cu.le, h.cu.small⟩, hinv, ?_, hlow, hRY, fun x hx => ?_⟩
  · refine (h.cu.cells.of_block (hgrow.block R h.cu.cells.lt (fun e => by have := hrowR R e.symm; omega))).of_block (hset.block R ?_ (by simp; omega))
    exact Nat.lt_of_lt_of_le h.cu.cells.lt hgrow.size
  · refine (h.cu.row.of_block (fun x e => hgrow.block x (h.cu.row.own x e).2 (fun e2 => by have := hrowR x e2.symm; have := h.cu.own x e; omega))).of_block (fun x e => hset.block x (Nat.lt_of_lt_of_le (h.cu.row.own x e).2 hgrow.size) (by have := h.cu.own x e; simp; omega))
  · refine ⟨hset.os.trans (hgrow.os.trans h.but.os), hset.tape.trans (hgrow.tape.trans h.but.tape), hset.output.trans (hgrow.output.trans h.but.output), Nat.le_trans h.but.size (Nat.le_trans hgrow.size hset.size), fun x hx h1 h2 => ?_⟩
    have hxW : x < W.heap.size := by omega
    exact (hset.block x (Nat.lt_of_lt_of_le hxW hgrow.size) (by simp; omega)).trans ((hgrow.block x hxW (fun e => by have := hrowR x e.symm; omega)).trans (h.but.block x hx h1 h2))
  · rcases List.mem_append.1 hx with hx | hx
    · exact h.short x hx
    · simp at hx; rw [hx]; exact hsz
end Go.Proofs.YtbkagahmiibclaaGreatDoor
