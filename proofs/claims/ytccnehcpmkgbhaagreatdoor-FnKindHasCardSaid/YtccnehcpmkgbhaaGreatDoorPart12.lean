/- A part. -/
import Derived.Test.YtccnehcpmkgbhaaGreatDoorPart10
import Derived.Test.YtccnehcpmkgbhaaGreatDoorPart11
set_option maxRecDepth 100000
set_option maxHeartbeats 1600000
namespace Go.Proofs.YtccnehcpmkgbhaaGreatDoor
open Go Go.RowKit
theorem dead_end {G : Prop} {S K : Act → World → Prop} (_ : ∀ a w, S a w → K a w) (a : Act) (w : World) (h : G) (_ : Hid False → K a w) : G := h
end Go.Proofs.YtccnehcpmkgbhaaGreatDoor

namespace Go.Proofs.YtccnehcpmkgbhaaGreatDoor
open Go Go.RowKit
structure Mv (R o : Nat) (w w' : World) : Prop where
 os : w'.os = w.os
 tape : w'.tape = w.tape
 output : w'.output = w.output
 size : w'.heap.size = w.heap.size
 block : ∀ i, i ≠ R → w'.heap[i]? = w.heap[i]?
 cell : ∀ j, j ≠ o → w'.cell? ⟨R, j, none⟩ = w.cell? ⟨R, j, none⟩
 frz : ∀ j, w'.frozen? ⟨R, j, none⟩ = w.frozen? ⟨R, j, none⟩
theorem Mv.refl (R o : Nat) (w : World) : Mv R o w w := ⟨rfl, rfl, rfl, rfl, fun _ _ => rfl, fun _ _ => rfl, fun _ => rfl⟩
theorem Mv.trans {R o : Nat} {a b c : World} (h : Mv R o a b) (k : Mv R o b c) : Mv R o a c :=
 ⟨k.os.trans h.os, k.tape.trans h.tape, k.output.trans h.output, k.size.trans h.size, fun i hi => (k.block i hi).trans (h.block i hi), fun j hj => (k.cell j hj).trans (h.cell j hj), fun j => (k.frz j).trans (h.frz j)⟩
theorem Mv.drewN {R o : Nat} {w w' : World} (h : Mv R o w w') (n : Nat) : Mv R o w (w'.drewN n) := ⟨h.os, h.tape, h.output, h.size, h.block, h.cell, h.frz⟩
theorem Mv.set (R o : Nat) (w : World) (v : Value) : Mv R o w (w.setCell ⟨R, o, none⟩ v) :=
 ⟨rfl, rfl, rfl, by simp, fun i hi => Below.heap_setCell _ _ _ _ hi, fun j hj => World.cell?_setCell_other _ _ _ _ (fun e => hj (by simpa using (congrArg Addr.off e).symm)), fun j => World.frozen?_setCell _ _ _ _⟩
theorem Mv.but {R o : Nat} {w w' : World} (h : Mv R o w w') : But R w w' := ⟨h.os, h.tape, h.output, Nat.le_of_eq h.size.symm, fun i _ hne => h.block i (fun e => hne (by rw [e]))⟩
structure Tx (w : World) (R o : Nat) (s : ByteArray) (a : Nat) : Prop where
 c0 : w.cell? ⟨R, o, none⟩ = some (.string s)
 c1 : w.cell? ⟨R, o + 1, none⟩ = some (.int .i64 a)
 f1 : w.frozen? ⟨R, o + 1, none⟩ = false
theorem Tx.drewN {w : World} {R o : Nat} {s : ByteArray} {a : Nat} (h : Tx w R o s a) (n : Nat) : Tx (w.drewN n) R o s a := ⟨h.c0, h.c1, h.f1⟩
theorem Tx.set {w : World} {R o : Nat} {s : ByteArray} {a : Nat} (h : Tx w R o s a) (b : Nat) : Tx (w.setCell ⟨R, o + 1, none⟩ (.int .i64 b)) R o s b :=
 ⟨by rw [World.cell?_setCell_other _ _ _ _ (fun e => by have := congrArg Addr.off e; simp at this)]; exact h.c0, by apply World.cell?_setCell_same; exact h.c1, by rw [World.frozen?_setCell]; exact h.f1⟩
theorem Tx.of_block {w w' : World} {R o : Nat} {s : ByteArray} {a : Nat} (h : Tx w R o s a) (e : w'.heap[R]? = w.heap[R]?) : Tx w' R o s a :=
 ⟨by rw [World.cell?_of_block (w := w) e]; exact h.c0, by rw [World.cell?_of_block (w := w) e]; exact h.c1, by rw [World.frozen?_of_block (w := w) e]; exact h.f1⟩
theorem xhasPre (s wd : ByteArray) (a : Nat) : Lib.hasPrefix (s.extract a s.size).data.toList wd.data.toList = pre wd s a := by
 unfold Lib.hasPrefix pre lf
 congr 1
 simp [List.take_of_length_le]
theorem xnext_any (w : World) (R o : Nat) (s : ByteArray) (a : Nat) (h : Tx w R o s a) (ha : a ≤ s.size) :
 Calls Tryz.prog 90 #[.pointer (some ⟨R, o, none⟩)] w fun e w' => e = .returned (.int .u8 (bv s a)) ∧ ∃ m, w' = w.drewN m := by
 obtain ⟨c0, c1, f1⟩ := h
 by_cases hlt : a < s.size
 · have hbv : bv s a = s[a].toNat := by unfold bv; rw [dif_pos hlt]
   rw [hbv]
   have hb : ((a : Int) == (s.size : Int)) = false := by simp; omega
   clear hbv
   go_enter Tryz.func90, Tryz.ntmps90
   go_wp2_with fail
   go_quiet (fail)
   go_wp2_with fail
   go_quiet (fail)
   go_wp2_with fail
   go_ret
   exact ⟨rfl, _, by rw [World.drewN_drewN]⟩
 · have hbv : bv s a = 0 := by unfold bv; rw [dif_neg hlt]
   rw [hbv]
   have hb : ((a : Int) == (s.size : Int)) = true := by simp; omega
   clear hbv
   go_enter Tryz.func90, Tryz.ntmps90
   go_wp2_with fail
   go_quiet (fail)
   go_wp2_with fail
   go_ret
   exact ⟨rfl, _, rfl⟩
theorem xskip_yes (w : World) (R o : Nat) (s wd : ByteArray) (a : Nat) (hs : s.size ≤ 1048576) (h : Tx w R o s a) (ha : a ≤ s.size) (hw0 : 0 < wd.size) (hw : wd.size ≤ 16) (hp : pre wd s a = true) :
 Calls Tryz.prog 83 #[.pointer (some ⟨R, o, none⟩), .string wd] w fun e w' => e = .returned (.bool true) ∧ Tx w' R o s (a + wd.size) ∧ Mv R (o + 1) w w' := by
 obtain ⟨c0, c1, f1⟩ := h
 have H := hH (Tx.mk c0 c1 f1)
 have hi0 : (0 : Int) ≤ (a : Int) := by omega
 have hi1 : (a : Int) ≤ (s.size : Int) := by omega
 have hpre := Tryz.strings_HasPrefix (s.extract a s.size) wd
 rw [xhasPre, hp] at hpre
 have HPRE := hH hpre
 clear hp hpre
 go_enter Tryz.func83, Tryz.ntmps83
 go_wp2_with fail
 go_quiet ((go_at_call 102; exact Calls.quiet_of_same (uh HPRE _)))
 go_wp2_with fail
 go_ret
 exact ⟨rfl, (H.out.drewN _).set _, ((Mv.refl _ _ _).drewN _).trans (Mv.set _ _ _ _)⟩
theorem xskip_no (w : World) (R o : Nat) (s wd : ByteArray) (a : Nat) (h : Tx w R o s a) (ha : a ≤ s.size) (hp : pre wd s a = false) :
 Calls Tryz.prog 83 #[.pointer (some ⟨R, o, none⟩), .string wd] w fun e w' => e = .returned (.bool false) ∧ ∃ m, w' = w.drewN m := by
 obtain ⟨c0, c1, f1⟩ := h
 have hi0 : (0 : Int) ≤ (a : Int) := by omega
 have hi1 : (a : Int) ≤ (s.size : Int) := by omega
 have hpre := Tryz.strings_HasPrefix (s.extract a s.size) wd
 rw [xhasPre, hp] at hpre
 have HPRE := hH hpre
 clear hp hpre
 go_enter Tryz.func83, Tryz.ntmps83
 go_wp2_with fail
 go_quiet ((go_at_call 102; exact Calls.quiet_of_same (uh HPRE _)))
 go_wp2_with fail
 go_ret
 exact ⟨rfl, _, rfl⟩
theorem xtake_yes (w : World) (R o : Nat) (s wd : ByteArray) (a : Nat) (hs : s.size ≤ 1048576) (h : Tx w R o s a) (ha : a ≤ s.size) (hw0 : 0 < wd.size) (hw : wd.size ≤ 16) (hp : pre wd s a = true) :
 Calls Tryz.prog 79 #[.pointer (some ⟨R, o, none⟩), .string wd] w fun e w' => e = .returned (.tuple #[]) ∧ Tx w' R o s (a + wd.size) ∧ Mv R (o + 1) w w' := by
 have HS := hH (xskip_yes w R o s wd a hs h ha hw0 hw hp)
 clear h hp
 go_enter Tryz.func79, Tryz.ntmps79
 go_wp2_with (first
  | (go_at_call 83; refine (uh HS).mono ?_; rintro e w1 ⟨rfl, hr, hb⟩)
  | (go_at_call 63; refine (treeWant_yes _).mono ?_; rintro e w2 ⟨rfl, rfl⟩))
 go_end0
 exact ⟨rfl, hr, hb⟩
theorem xtake_no (w : World) (R o : Nat) (s wd : ByteArray) (a : Nat) (h : Tx w R o s a) (ha : a ≤ s.size) (hp : pre wd s a = false) :
 Calls Tryz.prog 79 #[.pointer (some ⟨R, o, none⟩), .string wd] w fun e w' => e = fltE ∧ ∃ m, w' = w.drewN m := by
 have HS := hH (xskip_no w R o s wd a h ha hp)
 clear h hp
 go_enter Tryz.func79, Tryz.ntmps79
 go_wp2_with (first
  | (go_at_call 83; refine (uh HS).mono ?_; rintro e w1 ⟨rfl, m, rfl⟩)
  | (go_at_call 63; refine (treeWant_no _).mono ?_; rintro e w2 ⟨rfl, rfl⟩))
 exact ⟨rfl, rfl, _, rfl⟩
theorem xend_yes (w : World) (R o : Nat) (s : ByteArray) (h : Tx w R o s s.size) :
 Calls Tryz.prog 65 #[.pointer (some ⟨R, o, none⟩)] w fun e w' => e = .returned (.tuple #[]) ∧ ∃ m, w' = w.drewN m := by
 obtain ⟨c0, c1, f1⟩ := h
 go_enter Tryz.func65, Tryz.ntmps65
 go_quiet ((go_at_call 63; exact Calls.quiet_of_same (treeWant_yes _)))
 go_wp2_with fail
 go_end0
 exact ⟨rfl, _, rfl⟩
theorem xend_no (w : World) (R o : Nat) (s : ByteArray) (a : Nat) (h : Tx w R o s a) (ha : a < s.size) :
 Calls Tryz.prog 65 #[.pointer (some ⟨R, o, none⟩)] w fun e w' => e = fltE ∧ ∃ m, w' = w.drewN m := by
 obtain ⟨c0, c1, f1⟩ := h
 have hne : ¬ ((a : Int) = (s.size : Int)) := by omega
 have hd : decide ((a : Int) = (s.size : Int)) = false := by simp; omega
 have hb : ((a : Int) == (s.size : Int)) = false := by simp; omega
 go_enter Tryz.func65, Tryz.ntmps65
 go_region_law (rw [if_pos (by first | rfl | simp [Region.wanted])]; go_simp; refine (treeWant_no _).mono ?_; rintro e w2 ⟨rfl, rfl⟩; refine dead_end (by assumption) { tmps := #[], defers := [] } w (And.intro rfl (And.intro rfl ⟨1, rfl⟩)) (fun HF => ?_))
 all_goals exact (uh HF).elim
theorem xmore_end (w : World) (R o : Nat) (s : ByteArray) (a n : Nat) (e : UInt8) (hs : s.size ≤ 1048576) (h : Tx w R o s a) (ha : a ≤ s.size) (hp : pre (w1 e) s a = true) :
 Calls Tryz.prog 84 #[.pointer (some ⟨R, o, none⟩), .string (w1 e), .int .i64 n] w fun e w' => e = .returned (.bool false) ∧ Tx w' R o s (a + 1) ∧ Mv R (o + 1) w w' := by
 have HS := hH (xskip_yes w R o s (w1 e) a hs h ha (by show 0 < 1; decide) (by show 1 ≤ 16; decide) hp)
 clear h hp
 go_enter Tryz.func84, Tryz.ntmps84
 go_wp2_with (go_at_call 83; refine (uh HS).mono ?_; rintro e w1 ⟨rfl, hr, hb⟩)
 go_ret
 exact ⟨rfl, hr, hb⟩
theorem xmore_first (w : World) (R o : Nat) (s : ByteArray) (a : Nat) (e : UInt8) (h : Tx w R o s a) (ha : a ≤ s.size) (hp : pre (w1 e) s a = false) :
 Calls Tryz.prog 84 #[.pointer (some ⟨R, o, none⟩), .string (w1 e), .int .i64 0] w fun e w' => e = .returned (.bool true) ∧ Tx w' R o s a ∧ Mv R (o + 1) w w' := by
 have HS := hH (xskip_no w R o s (w1 e) a h ha hp)
 have H := hH h
 clear h hp
 go_enter Tryz.func84, Tryz.ntmps84
 go_wp2_with (go_at_call 83; refine (uh HS).mono ?_; rintro e w1 ⟨rfl, m, rfl⟩)
 go_ret
 exact ⟨rfl, H.out.drewN m, (Mv.refl _ _ _).drewN m⟩
theorem xmore_comma (w : World) (R o : Nat) (s : ByteArray) (a n : Nat) (e : UInt8) (hn : 0 < n) (hs : s.size ≤ 1048576) (h : Tx w R o s a) (ha : a ≤ s.size) (hp : pre (w1 e) s a = false) (hp2 : pre (w1 44) s a = true) :
 Calls Tryz.prog 84 #[.pointer (some ⟨R, o, none⟩), .string (w1 e), .int .i64 n] w fun e w' => e = .returned (.bool true) ∧ Tx w' R o s (a + 1) ∧ Mv R (o + 1) w w' := by
 have HS := hH (xskip_no w R o s (w1 e) a h ha hp)
 have HT := hH (fun m => xtake_yes (w.drewN m) R o s (w1 44) a hs (h.drewN m) ha (by decide) (by decide) hp2)
 have hz : decide ((0 : Int) < (n : Int)) = true := by simp; omega
 clear h hp hp2
 go_enter Tryz.func84, Tryz.ntmps84
 go_wp2_with (first
  | (go_at_call 83; refine (uh HS).mono ?_; rintro e w1 ⟨rfl, m, rfl⟩)
  | (go_at_call 79; refine (uh HT _).mono ?_; rintro e w2 ⟨rfl, hr, hb⟩))
 go_ret
 exact ⟨rfl, hr, ((Mv.refl _ _ _).drewN m).trans hb⟩
theorem xmore_none (w : World) (R o : Nat) (s : ByteArray) (a n : Nat) (e : UInt8) (hn : 0 < n) (h : Tx w R o s a) (ha : a ≤ s.size) (hp : pre (w1 e) s a = false) (hp2 : pre (w1 44) s a = false) :
 Calls Tryz.prog 84 #[.pointer (some ⟨R, o, none⟩), .string (w1 e), .int .i64 n] w fun e w' => e = fltE ∧ ∃ m, w' = w.drewN m := by
 have HS := hH (xskip_no w R o s (w1 e) a h ha hp)
 have HT := hH (fun m => xtake_no (w.drewN m) R o s (w1 44) a (h.drewN m) ha hp2)
 have hz : decide ((0 : Int) < (n : Int)) = true := by simp; omega
 clear h hp hp2
 go_enter Tryz.func84, Tryz.ntmps84
 go_wp2_with (first
  | (go_at_call 83; refine (uh HS).mono ?_; rintro e w1 ⟨rfl, m, rfl⟩)
  | (go_at_call 79; refine (uh HT _).mono ?_; rintro e w2 ⟨rfl, m2, rfl⟩))
 exact ⟨rfl, rfl, _, rfl⟩
end Go.Proofs.YtccnehcpmkgbhaaGreatDoor

namespace Go.Proofs.YtccnehcpmkgbhaaGreatDoor
open Go Go.RowKit
def ahead (form : Bool) (ns : List ByteArray) (i : Nat) : List UInt8 :=
 (if 0 < i then [44] else []) ++ (if form then (ns.getD i ByteArray.empty).data.toList ++ [58] else [])
mutual
def txT : Tr → List UInt8
 | .mk s n tx ns ks =>
   if s = 1 then Lib.itoa n
   else if s = 2 then [34] ++ tx.data.toList ++ [34]
   else if s = 3 then (if n = 1 then [121, 101, 115] else [110, 111])
   else if s = 6 then (if ks.length = 0 then [126] else [63] ++ txM ks)
   else if s = 5 then [123] ++ txK true ns 0 ks ++ [125]
   else [91] ++ txK false ns 0 ks ++ [93]
def txM : List Tr → List UInt8
 | [] => []
 | t :: _ => txT t
def txK (form : Bool) (ns : List ByteArray) (i : Nat) : List Tr → List UInt8
 | [] => []
 | t :: r => ahead form ns i ++ txT t ++ txK form ns (i + 1) r
end
def txTo (form : Bool) (ns : List ByteArray) (ks : List Tr) (k : Nat) : List UInt8 := txK form ns 0 (ks.take k)
theorem txK_snoc (form : Bool) (ns : List ByteArray) (i : Nat) (l : List Tr) (t : Tr) : txK form ns i (l ++ [t]) = txK form ns i l ++ (ahead form ns (i + l.length) ++ txT t) := by
 induction l generalizing i with
 | nil => simp [txK]
 | cons a r ih =>
   simp only [List.cons_append, txK, List.length_cons]
   rw [ih (i + 1), show i + 1 + r.length = i + (r.length + 1) from by omega]
   simp only [List.append_assoc]
theorem txTo_succ (form : Bool) (ns : List ByteArray) (ks : List Tr) (k : Nat) (hk : k < ks.length) : txTo form ns ks (k + 1) = txTo form ns ks k ++ (ahead form ns k ++ txT ks[k]) := by
 unfold txTo
 rw [List.take_succ_eq_append_getElem hk, txK_snoc]
 simp [Nat.min_eq_left (Nat.le_of_lt hk)]
theorem txTo_all (form : Bool) (ns : List ByteArray) (ks : List Tr) : txTo form ns ks ks.length = txK form ns 0 ks := by
 unfold txTo; rw [List.take_length]
theorem txTo_le (form : Bool) (ns : List ByteArray) (ks : List Tr) (k : Nat) (hk : k ≤ ks.length) : (txTo form ns ks k).length ≤ (txK form ns 0 ks).length := by
 rw [← txTo_all]
 have : ∀ m, k + m ≤ ks.length → (txTo form ns ks k).length ≤ (txTo form ns ks (k + m)).length := by
  intro m
  induction m with
  | zero => intro _; exact Nat.le_refl _
  | succ m ih =>
    intro h
    rw [show k + (m + 1) = k + m + 1 from by omega, txTo_succ _ _ _ _ (by omega), List.length_append]
    have := ih (by omega); omega
 have := this (ks.length - k) (by omega)
 rwa [show k + (ks.length - k) = ks.length from by omega] at this
end Go.Proofs.YtccnehcpmkgbhaaGreatDoor

namespace Go.Proofs.YtccnehcpmkgbhaaGreatDoor
open Go Go.RowKit
mutual
def wlk : Tr → Int → Int → Option Int
 | .mk s n tx ns ks, p, l =>
   if p + 1 ≤ 120 ∧ l + 1 ≤ 6 then
    if ownB (.mk s n tx ns ks) = true then
     match wlkK ks (p + 1) (l + 1) with
     | none => none
     | some q => if newB (.mk s n tx ns ks) = true then some q else none
    else none
   else none
def wlkK : List Tr → Int → Int → Option Int
 | [], p, _ => some p
 | t :: r, p, l => match wlk t p l with
   | none => none
   | some q => wlkK r q l
end
theorem wlk_eq (t : Tr) (p l : Int) : wlk t p l = if p + 1 ≤ 120 ∧ l + 1 ≤ 6 then
 if ownB t = true then
  match wlkK t.kids (p + 1) (l + 1) with
  | none => none
  | some q => if newB t = true then some q else none
 else none
 else none := by
 obtain ⟨s, n, tx, ns, ks⟩ := t
 rw [wlk]; rfl
def onto (p k : Int) : Option Int := if k < 0 ∨ 120 < p + k then none else some (p + k)
mutual
theorem wlk_is : ∀ (t : Tr) (p l : Int), 0 ≤ p → p ≤ 120 → wlk t p l = onto p (pT t (l + 1))
 | .mk s n tx ns ks, p, l => by
   intro hp hp1
   rw [wlk, pT]
   by_cases h : p + 1 ≤ 120 ∧ l + 1 ≤ 6
   · rw [if_pos h]
     rw [alone_eq]
     by_cases ho : ownB (.mk s n tx ns ks) = true
     · rw [if_pos ho, ho, wlkK_is ks (p + 1) (l + 1) 1 (by omega) (by omega) (by omega)]
       have hbd := pK_bd ks (l + 1) 1 (by omega) (by omega)
       generalize pK ks (l + 1) 1 = r at hbd
       by_cases hn : newB (.mk s n tx ns ks) = true
       · rw [hn]
         simp only [Bool.and_self, Bool.true_eq_false, or_false]
         rw [if_neg (by omega)]
         unfold onto
         by_cases hx : r < 0 ∨ 120 < p + r
         · rw [if_pos (by omega), if_pos hx]
         · rw [if_neg (by omega), if_neg hx]
           simp
       · have hn' : newB (.mk s n tx ns ks) = false := by simpa using hn
         rw [hn']
         simp only [Bool.and_false, or_true, if_true]
         have : onto p (-1) = none := by unfold onto; rw [if_pos (by omega)]
         rw [this]
         unfold onto
         split <;> rfl
     · have ho' : ownB (.mk s n tx ns ks) = false := by simpa using ho
       rw [if_neg ho, ho']
       simp only [Bool.false_and, or_true, if_true]
       unfold onto; rw [if_pos (by omega)]
   · rw [if_neg h]
     unfold onto
     by_cases h6 : 6 < l + 1
     · rw [if_pos (Or.inl h6), if_pos (by omega)]
     · split
       · rw [if_pos (by omega)]
       · have hbd := pK_bd ks (l + 1) 1 (by omega) (by omega)
         rw [if_pos (by omega)]
theorem wlkK_is : ∀ (ks : List Tr) (p l n : Int), 1 ≤ n → n ≤ p → p ≤ 120 → wlkK ks p l = onto (p - n) (pK ks l n)
 | [], p, l, n => by
   intro h1 h2 h3
   rw [wlkK, pK]
   unfold onto
   rw [if_neg (by omega)]
   congr 1; omega
 | t :: r, p, l, n => by
   intro h1 h2 h3
   rw [wlkK, pK, wlk_is t p l (by omega) h3]
   have hbd := pT_bd t (l + 1)
   generalize pT t (l + 1) = k at hbd
   by_cases hx : k < 0 ∨ 120 < p + k
   · have : onto p k = none := by unfold onto; rw [if_pos hx]
     rw [this]
     simp only
     by_cases hy : k < 0 ∨ 120 < n + k
     · rw [if_pos hy]; unfold onto; rw [if_pos (by omega)]
     · rw [if_neg hy]
       have hbd2 := pK_bd r l (n + k) (by omega) (by omega)
       have hge := pK_ge r l (n + k)
       unfold onto; rw [if_pos (by omega)]
   · have : onto p k = some (p + k) := by unfold onto; rw [if_neg hx]
     rw [this]
     simp only
     rw [wlkK_is r (p + k) l (n + k) (by omega) (by omega) (by omega), if_neg (by omega), show p + k - (n + k) = p - n from by omega]
theorem pK_ge : ∀ (ks : List Tr) (l n : Int), pK ks l n = -1 ∨ n ≤ pK ks l n
 | [], l, n => by rw [pK]; exact Or.inr (Int.le_refl _)
 | t :: r, l, n => by
   rw [pK]
   split
   · exact Or.inl rfl
   · have := pK_ge r l (n + pT t (l + 1)); omega
end
theorem wlk_start (t : Tr) : wlk t 0 0 = if pT t 1 < 0 then none else some (pT t 1) := by
 rw [wlk_is t 0 0 (by omega) (by omega)]
 have hbd := pT_bd t 1
 unfold onto
 rw [show (0 : Int) + 1 = 1 from rfl]
 by_cases h : pT t 1 < 0
 · rw [if_pos (Or.inl h), if_pos h]
 · rw [if_neg (by omega), if_neg h]; simp
theorem wlk_bd (t : Tr) (p l q : Int) (hp : 0 ≤ p) (hp1 : p ≤ 120) (h : wlk t p l = some q) : p + 1 ≤ q ∧ q ≤ 120 := by
 rw [wlk_is t p l hp hp1] at h
 have hbd := pT_bd t (l + 1)
 unfold onto at h
 split at h
 · cases h
 · simp only [Option.some.injEq] at h; omega
theorem wlkK_step {ks : List Tr} {k : Nat} (hk : k < ks.length) (p l : Int) : wlkK (ks.drop k) p l = match wlk ks[k] p l with
 | none => none
 | some q => wlkK (ks.drop (k + 1)) q l := by
 rw [List.drop_eq_getElem_cons hk, wlkK]
end Go.Proofs.YtccnehcpmkgbhaaGreatDoor

namespace Go.Proofs.YtccnehcpmkgbhaaGreatDoor
open Go Go.RowKit
def isDg (c : UInt8) : Bool := 48 ≤ c.toNat && c.toNat ≤ 57
def dval (acc : Nat) (ds : List UInt8) : Nat := ds.foldl (fun n c => n * 10 + (c.toNat - 48)) acc
theorem dec_all (u : Nat) : ∀ c, c ∈ Lib.decDigits u → isDg c = true := by
 induction u using Nat.strongRecOn with
 | _ u ih =>
   intro c hc
   rw [Lib.decDigits] at hc
   have hd : ∀ m, m < 10 → isDg (UInt8.ofNat (48 + m)) = true := fun m hm => by
    unfold isDg; rw [UInt8.toNat_ofNat', Nat.mod_eq_of_lt (by omega)]; simp; omega
   by_cases h : u < 10
   · rw [dif_pos h] at hc
     simp only [List.mem_singleton] at hc
     rw [hc]; exact hd u h
   · rw [dif_neg h] at hc
     rcases List.mem_append.1 hc with hc | hc
     · exact ih (u / 10) (by omega) c hc
     · simp only [List.mem_singleton] at hc
       rw [hc]; exact hd _ (by omega)
theorem dec_val (u : Nat) : dval 0 (Lib.decDigits u) = u := by
 induction u using Nat.strongRecOn with
 | _ u ih =>
   rw [Lib.decDigits]
   by_cases h : u < 10
   · rw [dif_pos h]
     unfold dval
     simp only [List.foldl_cons, List.foldl_nil]
     rw [UInt8.toNat_ofNat', Nat.mod_eq_of_lt (by omega)]; omega
   · rw [dif_neg h]
     have := ih (u / 10) (by omega)
     unfold dval at this ⊢
     rw [List.foldl_append, this]
     simp only [List.foldl_cons, List.foldl_nil]
     rw [UInt8.toNat_ofNat', Nat.mod_eq_of_lt (by omega)]; omega
theorem dec_ne (u : Nat) : Lib.decDigits u ≠ [] := by
 intro h
 have := Lib.decDigits_length u
 have := Lib.nDigits_pos u
 rw [h] at *
 simp at *
 omega
theorem dec_len (k u : Nat) (h : u < 10 ^ (k + 1)) : (Lib.decDigits u).length ≤ k + 1 := by
 induction k generalizing u with
 | zero => rw [Lib.decDigits, dif_pos (by simpa using h)]; simp
 | succ k ih =>
   rw [Lib.decDigits]
   split
   · simp
   · have := ih (u / 10) (by rw [Nat.pow_succ] at h; omega)
     simp; omega
theorem dval_ge (ds : List UInt8) (acc : Nat) : acc ≤ dval acc ds := by
 induction ds generalizing acc with
 | nil => exact Nat.le_refl _
 | cons c r ih => unfold dval; rw [List.foldl_cons]; have := ih (acc * 10 + (c.toNat - 48)); unfold dval at this; omega
theorem parse_ok (ds : List UInt8) (acc : Nat) (h : ∀ c, c ∈ ds → isDg c = true) (hb : dval acc ds ≤ 999999999999) : Lib.parseUint10 acc ds = .ok (dval acc ds) := by
 induction ds generalizing acc with
 | nil => rfl
 | cons c r ih =>
   have hc := h c (by simp)
   unfold isDg at hc
   simp at hc
   have hb' : dval (acc * 10 + (c.toNat - 48)) r ≤ 999999999999 := hb
   have hge := dval_ge r (acc * 10 + (c.toNat - 48))
   rw [Lib.parseUint10, if_pos hc, if_neg (by omega), if_neg (by omega)]
   exact ih _ (fun c hc => h c (by simp [hc])) hb'
theorem itoa_cases (n : Int) : (0 ≤ n ∧ Lib.itoa n = Lib.decDigits n.toNat) ∨ (n < 0 ∧ Lib.itoa n = 45 :: Lib.decDigits n.natAbs) := by
 unfold Lib.itoa
 by_cases h : n < 0
 · rw [if_pos h]; exact Or.inr ⟨h, rfl⟩
 · rw [if_neg h]; exact Or.inl ⟨by omega, rfl⟩
theorem atoi_itoa (n : Int) (h0 : -999999999 ≤ n) (h1 : n ≤ 999999999) : Lib.atoiAll (Lib.itoa n) = .ok n := by
 rcases itoa_cases n with ⟨hn, e⟩ | ⟨hn, e⟩
 · rw [e]
   obtain ⟨c, r, hcr⟩ : ∃ c r, Lib.decDigits n.toNat = c :: r := List.exists_cons_of_ne_nil (dec_ne _)
   have hall := dec_all n.toNat
   have hv := dec_val n.toNat
   have hc := hall c (by rw [hcr]; simp)
   unfold isDg at hc
   simp at hc
   have hp := parse_ok (Lib.decDigits n.toNat) 0 hall (by rw [hv]; omega)
   rw [hv] at hp
   rw [hcr] at hp ⊢
   rw [Lib.atoiAll_plain c r (by omega) (by omega)]
   unfold Lib.parseMag
   rw [if_neg (by simp), hp]
   show (if 9223372036854775808 ≤ n.toNat then Lib.NumEnd.range else .ok (n.toNat : Int)) = .ok n
   rw [if_neg (by omega), Int.toNat_of_nonneg hn]
 · rw [e, Lib.atoiAll_minus]
   have hall := dec_all n.natAbs
   have hv := dec_val n.natAbs
   have hp := parse_ok (Lib.decDigits n.natAbs) 0 hall (by rw [hv]; omega)
   rw [hv] at hp
   unfold Lib.parseMag
   rw [if_neg (dec_ne _), hp]
   show (if 9223372036854775808 < n.natAbs then Lib.NumEnd.range else .ok (-(n.natAbs : Int))) = .ok n
   rw [if_neg (by omega), show -(n.natAbs : Int) = n from by omega]
def nd (rest : List UInt8) : Prop := ∀ c, rest.head? = some c → isDg c = false
theorem tw_append {p : UInt8 → Bool} {l rest : List UInt8} (hl : ∀ c, c ∈ l → p c = true) (hr : ∀ c, rest.head? = some c → p c = false) : (l ++ rest).takeWhile p = l ∧ (l ++ rest).dropWhile p = rest := by
 induction l with
 | nil =>
   cases rest with
   | nil => simp
   | cons c r => have := hr c rfl; simp [this]
 | cons c l ih =>
   have hc := hl c (by simp)
   have := ih (fun c hc => hl c (by simp [hc]))
   simp [hc, this.1, this.2]
def cma (n : Nat) (inp : List UInt8) : Option (List UInt8) := if n = 0 then some inp else if inp.head? = some 44 then some inp.tail else none
def nmr (form : Bool) (ns : List ByteArray) (inp : List UInt8) : Option (List ByteArray × List UInt8) :=
 if form = true then (if (inp.dropWhile nameByte).head? = some 58 then some (ns ++ [⟨(inp.takeWhile nameByte).toArray⟩], (inp.dropWhile nameByte).tail) else none) else some (ns, inp)
def lp {σ : Type} (rd : List UInt8 → σ → Option (Tr × List UInt8 × σ)) (form : Bool) (e : UInt8) : Nat → List ByteArray → List Tr → List UInt8 → σ → Option (List ByteArray × List Tr × List UInt8 × σ)
 | 0, _, _, _, _ => none
 | f + 1, ns, ks, inp, st =>
   if inp.head? = some e then some (ns, ks, inp.tail, st) else
   match cma ks.length inp with
   | none => none
   | some i1 =>
     match nmr form ns i1 with
     | none => none
     | some (ns', i2) =>
       match rd i2 st with
       | none => none
       | some (t, i3, st') => lp rd form e f ns' (ks ++ [t]) i3 st'
def numRun (inp : List UInt8) : List UInt8 × List UInt8 := if inp.head? = some 45 then (45 :: inp.tail.takeWhile isDg, inp.tail.dropWhile isDg) else (inp.takeWhile isDg, inp.dropWhile isDg)
open Classical in
noncomputable def numOf (l : List UInt8) : Option Int := if h : ∃ n : Int, -999999999 ≤ n ∧ n ≤ 999999999 ∧ Lib.itoa n = l then some h.choose else none
theorem itoa_inj {n m : Int} (hn : -999999999 ≤ n ∧ n ≤ 999999999) (hm : -999999999 ≤ m ∧ m ≤ 999999999) (h : Lib.itoa n = Lib.itoa m) : n = m := by
 have h1 := atoi_itoa n hn.1 hn.2
 have h2 := atoi_itoa m hm.1 hm.2
 rw [h, h2] at h1
 injection h1 with h1
 exact h1.symm
theorem numOf_yes {n : Int} (h0 : -999999999 ≤ n) (h1 : n ≤ 999999999) {l : List UInt8} (hl : Lib.itoa n = l) : numOf l = some n := by
 unfold numOf
 have hex : ∃ n : Int, -999999999 ≤ n ∧ n ≤ 999999999 ∧ Lib.itoa n = l := ⟨n, h0, h1, hl⟩
 rw [dif_pos hex]
 have := hex.choose_spec
 rw [itoa_inj ⟨this.1, this.2.1⟩ ⟨h0, h1⟩ (by rw [this.2.2, hl])]
theorem numOf_some {l : List UInt8} {n : Int} (h : numOf l = some n) : -999999999 ≤ n ∧ n ≤ 999999999 ∧ Lib.itoa n = l := by
 unfold numOf at h
 split at h
 · rename_i hex
   simp only [Option.some.injEq] at h
   rw [← h]; exact hex.choose_spec
 · cases h
theorem numOf_no {l : List UInt8} (h : ∀ n : Int, -999999999 ≤ n → n ≤ 999999999 → Lib.itoa n ≠ l) : numOf l = none := by
 unfold numOf
 rw [dif_neg]
 rintro ⟨n, h0, h1, h2⟩
 exact h n h0 h1 h2
noncomputable def rdT : Nat → List UInt8 → Int → Option (Tr × List UInt8 × Int)
 | 0, _, _ => none
 | d + 1, inp, p =>
   if 120 < p + 1 then none else
   match inp.head? with
   | none => none
   | some c =>
     if isDg c = true ∨ c = 45 then
      match numOf (numRun inp).1 with
      | none => none
      | some n => some (.mk 1 n ByteArray.empty [] [], (numRun inp).2, p + 1)
     else if c = 34 then
      if (inp.tail.dropWhile (· != 34)).head? = some 34 ∧ textOkB ⟨(inp.tail.takeWhile (· != 34)).toArray⟩ = true then
       some (.mk 2 0 ⟨(inp.tail.takeWhile (· != 34)).toArray⟩ [] [], (inp.tail.dropWhile (· != 34)).tail, p + 1) else none
     else if c = 121 ∨ c = 110 then
      if [121, 101, 115].isPrefixOf inp = true then some (.mk 3 1 ByteArray.empty [] [], inp.drop 3, p + 1)
      else if [110, 111].isPrefixOf inp = true then some (.mk 3 0 ByteArray.empty [] [], inp.drop 2, p + 1) else none
     else if c = 91 then
      match lp (rdT d) false 93 (inp.length + 1) [] [] inp.tail (p + 1) with
      | none => none
      | some (_, ks, rest, q) => if ks.length ≤ 20 then some (.mk 4 0 ByteArray.empty [] ks, rest, q) else none
     else if c = 123 then
      match lp (rdT d) true 125 (inp.length + 1) [] [] inp.tail (p + 1) with
      | none => none
      | some (ns, ks, rest, q) => if riseB ns = true then some (.mk 5 0 ByteArray.empty ns ks, rest, q) else none
     else if c = 126 then some (.mk 6 0 ByteArray.empty [] [], inp.tail, p + 1)
     else if c = 63 then
      match rdT d inp.tail (p + 1) with
      | none => none
      | some (t, rest, q) => some (.mk 6 0 ByteArray.empty [] [t], rest, q)
     else none
end Go.Proofs.YtccnehcpmkgbhaaGreatDoor

namespace Go.Proofs.YtccnehcpmkgbhaaGreatDoor
open Go Go.RowKit
def txAt (w : World) (R o : Nat) : Nat := (intOf ((w.cell? ⟨R, o + 1, none⟩).getD undef)).toNat
theorem Tx.atOf {w : World} {R o : Nat} {s : ByteArray} {a : Nat} (h : Tx w R o s a) : txAt w R o = a := by
 unfold txAt; rw [h.c1]; simp [intOf]
theorem isDigit_dg (c : UInt8) (w : World) : Calls Tryz.prog 99 #[.int .u8 c.toNat] w fun e w' => e = .returned (.bool (isDg c)) ∧ w' = w := isDigit_any c w
def nqB (c : UInt8) : Bool := c != 34
theorem quote_any (c : UInt8) (w : World) : Calls Tryz.prog 81 #[.int .u8 c.toNat] w fun e w' => e = .returned (.bool (nqB c)) ∧ w' = w := by
 have hb : nqB c = ((c.toNat : Int) != 34) := by
  unfold nqB
  rw [Bool.eq_iff_iff]
  simp only [bne_iff_ne, ne_eq]
  constructor
  · intro h e; exact h (UInt8.toNat_inj.1 (show c.toNat = (34 : UInt8).toNat by show c.toNat = 34; omega))
  · intro h e; subst e; exact h rfl
 rw [hb]
 go_enter Tryz.func81, Tryz.ntmps81
 go_wp2_with fail
 go_ret
 exact ⟨rfl, rfl⟩
theorem xrun_name (w : World) (R o : Nat) (s : ByteArray) (a : Nat) (hs : s.size ≤ 1048576) (h : Tx w R o s a) (ha : a ≤ s.size) :
 Calls Tryz.prog 80 #[.pointer (some ⟨R, o, none⟩), .func (.func 86) #[] #[]] w fun e w' => e = .returned (.string ⟨((lf s a).takeWhile nameByte).toArray⟩) ∧ Tx w' R o s (a + rn nameByte s a) ∧ Mv R (o + 1) w w' := by
 have H := hH h
 obtain ⟨c0, c1, f1⟩ := h
 rw [← rn_take]
 have hle := rn_le nameByte s a ha
 generalize hr : rn nameByte s a = r at *
 have HR := hH hr
 have hi0 : (0 : Int) ≤ (a : Int) := by omega
 have hi1 : (a : Int) ≤ (a : Int) + (r : Int) := by omega
 have hi2 : (a : Int) + (r : Int) ≤ (s.size : Int) := by omega
 clear hr
 go_enter Tryz.func80, Tryz.ntmps80
 go_wp2_with fail
 go_loopw [] (fun wr => ∃ (j : Nat), a ≤ j ∧ j ≤ s.size ∧ Hid (j + rn nameByte s j = a + r) ∧ Hid (Tx wr R o s j) ∧ Hid (Mv R (o + 1) w wr)) (fun wr => s.size - txAt wr R o)
 case atStart => exact ⟨a, Nat.le_refl _, ha, hH (by show _ = _; rw [HR.out]), H, hH (Mv.refl _ _ _)⟩
 case round =>
  obtain ⟨j, hj0, hj1, HJ, HRj, HMV⟩ := hrel
  obtain ⟨y0, y1, g1⟩ := HRj.out
  have hat := HRj.out.atOf
  by_cases hlt : j < s.size
  · have HNB := hH (isNameByte_any s[j])
    have hdl : decide ((j : Int) < (s.size : Int)) = true := by simp; omega
    have hj2 : (0 : Int) ≤ (j : Int) := by omega
    have hj3 : (j : Int) < (s.size : Int) := by omega
    cases hnb : nameByte s[j]
    · have he : j = a + r := by
       have := HJ.out
       have := rn_stop (p := nameByte) hlt (by simpa using hnb)
       omega
      rw [hnb] at HNB
      have HE := hH he
      clear HR H he hnb
      go_wp2_with fail
      go_quiet ((go_at_call 86; exact Calls.quiet_of_same (uh HNB _)))
      have hk1 : (a : Int) ≤ (j : Int) := by omega
      have hk2 : (j : Int) ≤ (s.size : Int) := by omega
      go_wp2_with fail
      go_quiet (fail)
      go_wp2_with fail
      go_ret
      refine ⟨?_, ?_, ((uh HMV).drewN _).drewN _⟩
      · rw [← uh HE]; rfl
      · rw [← uh HE]; exact (HRj.out.drewN _).drewN _
    · have hjn : j + 1 + rn nameByte s (j + 1) = a + r := by
       have := HJ.out
       have := rn_step (p := nameByte) hlt (by simpa using hnb)
       omega
      rw [hnb] at HNB
      have HJN := hH hjn
      clear HR H hjn hnb
      go_wp2_with fail
      go_quiet ((go_at_call 86; exact Calls.quiet_of_same (uh HNB _)))
      go_wp2_with fail
      go_roundw
      case rel => exact ⟨j + 1, by omega, by omega, HJN, hH ((HRj.out.drewN _).set _), hH (((uh HMV).drewN _).trans (Mv.set _ _ _ _))⟩
      case measure =>
       rw [hat]
       have e5 := ((HRj.out.drewN nq).set (j + 1)).atOf
       exact Nat.lt_of_le_of_lt (Nat.le_of_eq (congrArg (s.size - ·) e5)) (by omega)
  · have hdl : decide ((j : Int) < (s.size : Int)) = false := by simp; omega
    have he : j = a + r := by
     have := HJ.out
     have := rn_end (p := nameByte) (s := s) (i := j) (by omega)
     omega
    have HE := hH he
    clear HR H he
    have hk1 : (a : Int) ≤ (j : Int) := by omega
    have hk2 : (j : Int) ≤ (s.size : Int) := by omega
    go_wp2_with fail
    go_quiet (fail)
    go_wp2_with fail
    go_quiet (fail)
    go_wp2_with fail
    go_ret
    refine ⟨?_, ?_, ((uh HMV).drewN _).drewN _⟩
    · rw [← uh HE]; rfl
    · rw [← uh HE]; exact (HRj.out.drewN _).drewN _
theorem xrun_digit (w : World) (R o : Nat) (s : ByteArray) (a : Nat) (hs : s.size ≤ 1048576) (h : Tx w R o s a) (ha : a ≤ s.size) :
 Calls Tryz.prog 80 #[.pointer (some ⟨R, o, none⟩), .func (.func 99) #[] #[]] w fun e w' => e = .returned (.string ⟨((lf s a).takeWhile isDg).toArray⟩) ∧ Tx w' R o s (a + rn isDg s a) ∧ Mv R (o + 1) w w' := by
 have H := hH h
 obtain ⟨c0, c1, f1⟩ := h
 rw [← rn_take]
 have hle := rn_le isDg s a ha
 generalize hr : rn isDg s a = r at *
 have HR := hH hr
 have hi0 : (0 : Int) ≤ (a : Int) := by omega
 have hi1 : (a : Int) ≤ (a : Int) + (r : Int) := by omega
 have hi2 : (a : Int) + (r : Int) ≤ (s.size : Int) := by omega
 clear hr
 go_enter Tryz.func80, Tryz.ntmps80
 go_wp2_with fail
 go_loopw [] (fun wr => ∃ (j : Nat), a ≤ j ∧ j ≤ s.size ∧ Hid (j + rn isDg s j = a + r) ∧ Hid (Tx wr R o s j) ∧ Hid (Mv R (o + 1) w wr)) (fun wr => s.size - txAt wr R o)
 case atStart => exact ⟨a, Nat.le_refl _, ha, hH (by show _ = _; rw [HR.out]), H, hH (Mv.refl _ _ _)⟩
 case round =>
  obtain ⟨j, hj0, hj1, HJ, HRj, HMV⟩ := hrel
  obtain ⟨y0, y1, g1⟩ := HRj.out
  have hat := HRj.out.atOf
  by_cases hlt : j < s.size
  · have HNB := hH (isDigit_dg s[j])
    have hdl : decide ((j : Int) < (s.size : Int)) = true := by simp; omega
    have hj2 : (0 : Int) ≤ (j : Int) := by omega
    have hj3 : (j : Int) < (s.size : Int) := by omega
    cases hnb : isDg s[j]
    · have he : j = a + r := by
       have := HJ.out
       have := rn_stop (p := isDg) hlt (by simpa using hnb)
       omega
      rw [hnb] at HNB
      have HE := hH he
      clear HR H he hnb
      go_wp2_with fail
      go_quiet ((go_at_call 99; exact Calls.quiet_of_same (uh HNB _)))
      have hk1 : (a : Int) ≤ (j : Int) := by omega
      have hk2 : (j : Int) ≤ (s.size : Int) := by omega
      go_wp2_with fail
      go_quiet (fail)
      go_wp2_with fail
      go_ret
      refine ⟨?_, ?_, ((uh HMV).drewN _).drewN _⟩
      · rw [← uh HE]; rfl
      · rw [← uh HE]; exact (HRj.out.drewN _).drewN _
    · have hjn : j + 1 + rn isDg s (j + 1) = a + r := by
       have := HJ.out
       have := rn_step (p := isDg) hlt (by simpa using hnb)
       omega
      rw [hnb] at HNB
      have HJN := hH hjn
      clear HR H hjn hnb
      go_wp2_with fail
      go_quiet ((go_at_call 99; exact Calls.quiet_of_same (uh HNB _)))
      go_wp2_with fail
      go_roundw
      case rel => exact ⟨j + 1, by omega, by omega, HJN, hH ((HRj.out.drewN _).set _), hH (((uh HMV).drewN _).trans (Mv.set _ _ _ _))⟩
      case measure =>
       rw [hat]
       have e5 := ((HRj.out.drewN nq).set (j + 1)).atOf
       exact Nat.lt_of_le_of_lt (Nat.le_of_eq (congrArg (s.size - ·) e5)) (by omega)
  · have hdl : decide ((j : Int) < (s.size : Int)) = false := by simp; omega
    have he : j = a + r := by
     have := HJ.out
     have := rn_end (p := isDg) (s := s) (i := j) (by omega)
     omega
    have HE := hH he
    clear HR H he
    have hk1 : (a : Int) ≤ (j : Int) := by omega
    have hk2 : (j : Int) ≤ (s.size : Int) := by omega
    go_wp2_with fail
    go_quiet (fail)
    go_wp2_with fail
    go_quiet (fail)
    go_wp2_with fail
    go_ret
    refine ⟨?_, ?_, ((uh HMV).drewN _).drewN _⟩
    · rw [← uh HE]; rfl
    · rw [← uh HE]; exact (HRj.out.drewN _).drewN _
theorem xrun_quote (w : World) (R o : Nat) (s : ByteArray) (a : Nat) (hs : s.size ≤ 1048576) (h : Tx w R o s a) (ha : a ≤ s.size) :
 Calls Tryz.prog 80 #[.pointer (some ⟨R, o, none⟩), .func (.func 81) #[] #[]] w fun e w' => e = .returned (.string ⟨((lf s a).takeWhile nqB).toArray⟩) ∧ Tx w' R o s (a + rn nqB s a) ∧ Mv R (o + 1) w w' := by
 have H := hH h
 obtain ⟨c0, c1, f1⟩ := h
 rw [← rn_take]
 have hle := rn_le nqB s a ha
 generalize hr : rn nqB s a = r at *
 have HR := hH hr
 have hi0 : (0 : Int) ≤ (a : Int) := by omega
 have hi1 : (a : Int) ≤ (a : Int) + (r : Int) := by omega
 have hi2 : (a : Int) + (r : Int) ≤ (s.size : Int) := by omega
 clear hr
 go_enter Tryz.func80, Tryz.ntmps80
 go_wp2_with fail
 go_loopw [] (fun wr => ∃ (j : Nat), a ≤ j ∧ j ≤ s.size ∧ Hid (j + rn nqB s j = a + r) ∧ Hid (Tx wr R o s j) ∧ Hid (Mv R (o + 1) w wr)) (fun wr => s.size - txAt wr R o)
 case atStart => exact ⟨a, Nat.le_refl _, ha, hH (by show _ = _; rw [HR.out]), H, hH (Mv.refl _ _ _)⟩
 case round =>
  obtain ⟨j, hj0, hj1, HJ, HRj, HMV⟩ := hrel
  obtain ⟨y0, y1, g1⟩ := HRj.out
  have hat := HRj.out.atOf
  by_cases hlt : j < s.size
  · have HNB := hH (quote_any s[j])
    have hdl : decide ((j : Int) < (s.size : Int)) = true := by simp; omega
    have hj2 : (0 : Int) ≤ (j : Int) := by omega
    have hj3 : (j : Int) < (s.size : Int) := by omega
    cases hnb : nqB s[j]
    · have he : j = a + r := by
       have := HJ.out
       have := rn_stop (p := nqB) hlt (by simpa using hnb)
       omega
      rw [hnb] at HNB
      have HE := hH he
      clear HR H he hnb
      go_wp2_with fail
      go_quiet ((go_at_call 81; exact Calls.quiet_of_same (uh HNB _)))
      have hk1 : (a : Int) ≤ (j : Int) := by omega
      have hk2 : (j : Int) ≤ (s.size : Int) := by omega
      go_wp2_with fail
      go_quiet (fail)
      go_wp2_with fail
      go_ret
      refine ⟨?_, ?_, ((uh HMV).drewN _).drewN _⟩
      · rw [← uh HE]; rfl
      · rw [← uh HE]; exact (HRj.out.drewN _).drewN _
    · have hjn : j + 1 + rn nqB s (j + 1) = a + r := by
       have := HJ.out
       have := rn_step (p := nqB) hlt (by simpa using hnb)
       omega
      rw [hnb] at HNB
      have HJN := hH hjn
      clear HR H hjn hnb
      go_wp2_with fail
      go_quiet ((go_at_call 81; exact Calls.quiet_of_same (uh HNB _)))
      go_wp2_with fail
      go_roundw
      case rel => exact ⟨j + 1, by omega, by omega, HJN, hH ((HRj.out.drewN _).set _), hH (((uh HMV).drewN _).trans (Mv.set _ _ _ _))⟩
      case measure =>
       rw [hat]
       have e5 := ((HRj.out.drewN nq).set (j + 1)).atOf
       exact Nat.lt_of_le_of_lt (Nat.le_of_eq (congrArg (s.size - ·) e5)) (by omega)
  · have hdl : decide ((j : Int) < (s.size : Int)) = false := by simp; omega
    have he : j = a + r := by
     have := HJ.out
     have := rn_end (p := nqB) (s := s) (i := j) (by omega)
     omega
    have HE := hH he
    clear HR H he
    have hk1 : (a : Int) ≤ (j : Int) := by omega
    have hk2 : (j : Int) ≤ (s.size : Int) := by omega
    go_wp2_with fail
    go_quiet (fail)
    go_wp2_with fail
    go_quiet (fail)
    go_wp2_with fail
    go_ret
    refine ⟨?_, ?_, ((uh HMV).drewN _).drewN _⟩
    · rw [← uh HE]; rfl
    · rw [← uh HE]; exact (HRj.out.drewN _).drewN _
end Go.Proofs.YtccnehcpmkgbhaaGreatDoor

namespace Go.Proofs.YtccnehcpmkgbhaaGreatDoor
open Go Go.RowKit
theorem toList_loop_len (s : ByteArray) (n : Nat) : ∀ (i : Nat) (r : List UInt8), s.size - i = n → (ByteArray.toList.loop s i r).length = r.length + n := by
 induction n with
 | zero => intro i r h; unfold ByteArray.toList.loop; rw [if_neg (by omega)]; simp
 | succ n ih =>
   intro i r h
   unfold ByteArray.toList.loop
   rw [if_pos (by omega), ih (i + 1) _ (by omega)]
   simp; omega
theorem empty_of_toList {s : ByteArray} (h : s.toList = []) : s = ByteArray.empty := by
 have := toList_loop_len s s.size 0 [] (by omega)
 have e : ByteArray.toList.loop s 0 [] = [] := h
 rw [e] at this
 simp at this
 apply ByteArray.ext
 have hs : s.data.size = 0 := this.symm
 exact Array.eq_empty_of_size_eq_zero hs
theorem mk_eta {t : Tr} {s n : Int} {x : ByteArray} {ns : List ByteArray} {ks : List Tr} (h1 : t.sort = s) (h2 : t.num = n) (h3 : t.text = x) (h4 : t.names = ns) (h5 : t.kids = ks) : t = .mk s n x ns ks := by
 obtain ⟨s', n', x', ns', ks'⟩ := t
 subst h1 h2 h3 h4 h5
 rfl
theorem shapes {t : Tr} (ho : ownB t = true) (hn : newB t = true) :
 (∃ n, t = .mk 1 n ByteArray.empty [] [] ∧ -999999999 ≤ n ∧ n ≤ 999999999) ∨
 (∃ x, t = .mk 2 0 x [] [] ∧ textOkB x = true) ∨
 (∃ n, t = .mk 3 n ByteArray.empty [] [] ∧ (n = 0 ∨ n = 1)) ∨
 (∃ ks, t = .mk 4 0 ByteArray.empty [] ks ∧ ks.length ≤ 20) ∨
 (∃ ns ks, t = .mk 5 0 ByteArray.empty ns ks ∧ ns.length = ks.length ∧ riseB ns = true) ∨
 (∃ ks, t = .mk 6 0 ByteArray.empty [] ks ∧ ks.length ≤ 1) := by
 unfold ownB at ho
 unfold newB at hn
 by_cases h1 : t.sort = 1
 · rw [if_pos h1] at ho hn
   simp only [Bool.and_eq_true, decide_eq_true_eq] at ho hn
   exact Or.inl ⟨t.num, mk_eta h1 rfl (empty_of_toList ho.1.1) ho.1.2 (List.eq_nil_of_length_eq_zero ho.2), hn.1, hn.2⟩
 rw [if_neg h1] at ho hn
 by_cases h2 : t.sort = 2
 · rw [if_pos h2] at ho hn
   simp only [Bool.and_eq_true, decide_eq_true_eq] at ho hn
   exact Or.inr (Or.inl ⟨t.text, mk_eta h2 ho.1.1 rfl ho.1.2 (List.eq_nil_of_length_eq_zero ho.2), hn⟩)
 rw [if_neg h2] at ho hn
 by_cases h3 : t.sort = 3
 · rw [if_pos h3] at ho hn
   simp only [Bool.and_eq_true, decide_eq_true_eq] at ho hn
   exact Or.inr (Or.inr (Or.inl ⟨t.num, mk_eta h3 rfl (empty_of_toList ho.1.1) ho.1.2 (List.eq_nil_of_length_eq_zero ho.2), by omega⟩))
 rw [if_neg h3] at ho hn
 by_cases h4 : t.sort = 4
 · rw [if_pos h4] at ho hn
   simp only [Bool.and_eq_true, decide_eq_true_eq] at ho hn
   exact Or.inr (Or.inr (Or.inr (Or.inl ⟨t.kids, mk_eta h4 ho.1.1 (empty_of_toList ho.1.2) ho.2 rfl, hn⟩)))
 rw [if_neg h4] at ho hn
 by_cases h5 : t.sort = 5
 · rw [if_pos h5] at ho hn
   simp only [Bool.and_eq_true, decide_eq_true_eq] at ho hn
   exact Or.inr (Or.inr (Or.inr (Or.inr (Or.inl ⟨t.names, t.kids, mk_eta h5 ho.1 (empty_of_toList ho.2) rfl rfl, hn.1, hn.2⟩))))
 rw [if_neg h5] at ho hn
 by_cases h6 : t.sort = 6
 · rw [if_pos h6] at ho hn
   simp only [Bool.and_eq_true, decide_eq_true_eq] at ho hn
   exact Or.inr (Or.inr (Or.inr (Or.inr (Or.inr ⟨t.kids, mk_eta h6 ho.1.1 (empty_of_toList ho.1.2) ho.2 rfl, hn⟩))))
 rw [if_neg h6] at ho
 cases ho
def hd9 (c : UInt8) : Prop := isDg c = true ∨ c = 45 ∨ c = 34 ∨ c = 121 ∨ c = 110 ∨ c = 91 ∨ c = 123 ∨ c = 126 ∨ c = 63
theorem itoa_head (n : Int) : ∃ c r, Lib.itoa n = c :: r ∧ (isDg c = true ∨ c = 45) := by
 rcases itoa_cases n with ⟨_, e⟩ | ⟨_, e⟩
 · obtain ⟨c, r, hcr⟩ : ∃ c r, Lib.decDigits n.toNat = c :: r := List.exists_cons_of_ne_nil (dec_ne _)
   exact ⟨c, r, by rw [e, hcr], Or.inl (dec_all n.toNat c (by rw [hcr]; simp))⟩
 · exact ⟨45, _, e, Or.inr rfl⟩
theorem txT_head {t : Tr} {p l q : Int} (h : wlk t p l = some q) : ∃ c r, txT t = c :: r ∧ hd9 c := by
 rw [wlk_eq] at h
 split at h
 · split at h
   · rename_i ho
     split at h
     · cases h
     · split at h
       · rename_i hn
         rcases shapes ho hn with ⟨n, rfl, _⟩ | ⟨x, rfl, _⟩ | ⟨n, rfl, _⟩ | ⟨ks, rfl, _⟩ | ⟨ns, ks, rfl, _⟩ | ⟨ks, rfl, _⟩
         · obtain ⟨c, r, e, hc⟩ := itoa_head n
           refine ⟨c, r, by rw [txT]; simp [e], ?_⟩
           rcases hc with h | h
           · exact Or.inl h
           · exact Or.inr (Or.inl h)
         · exact ⟨34, x.data.toList ++ [34], by simp [txT], by simp [hd9]⟩
         · by_cases e : n = 1
           · exact ⟨121, [101, 115], by simp [txT, e], by simp [hd9]⟩
           · exact ⟨110, [111], by simp [txT, e], by simp [hd9]⟩
         · exact ⟨91, txK false [] 0 ks ++ [93], by simp [txT], by simp [hd9]⟩
         · exact ⟨123, txK true ns 0 ks ++ [125], by simp [txT], by simp [hd9]⟩
         · by_cases e : ks.length = 0
           · exact ⟨126, [], by simp only [txT]; rw [if_pos e]; simp, by simp [hd9]⟩
           · exact ⟨63, txM ks, by simp only [txT]; rw [if_neg e]; simp, by simp [hd9]⟩
       · cases h
   · cases h
 · cases h
def foldK {σ : Type} (stp : Tr → σ → Option σ) : List Tr → σ → Option σ
 | [], st => some st
 | t :: r, st => match stp t st with
   | none => none
   | some st1 => foldK stp r st1
theorem foldK_wlk (l : Int) (ks : List Tr) (p : Int) : foldK (fun t p => wlk t p l) ks p = wlkK ks p l := by
 induction ks generalizing p with
 | nil => rw [foldK, wlkK]
 | cons t r ih =>
   rw [foldK, wlkK]
   cases wlk t p l with
   | none => rfl
   | some q => exact ih q
theorem nd_comma (r : List UInt8) : nd (44 :: r) := fun c hc => by simp at hc; subst hc; rfl
theorem nd_end {e : UInt8} (he : e = 93 ∨ e = 125) (r : List UInt8) : nd (e :: r) := fun c hc => by
 simp at hc; subst hc
 rcases he with rfl | rfl <;> rfl
theorem nameOk_bytes {s : ByteArray} (h : nameOkB s = true) : (∀ c, c ∈ s.data.toList → nameByte c = true) ∧ s.data.toList ≠ [] := by
 unfold nameOkB at h
 simp only [Bool.and_eq_true, decide_eq_true_eq] at h
 refine ⟨fun c hc => ?_, fun e => ?_⟩
 · have := h.2
   rw [List.all_eq_true] at this
   exact this c hc
 · have h1 := h.1.1.1
   have : s.data.toList.length = s.size := rfl
   rw [e] at this
   simp at this
   omega
theorem rise_name {ns : List ByteArray} (h : riseB ns = true) (i : Nat) (hi : i < ns.length) : nameOkB ns[i] = true := by
 unfold riseB at h
 rw [List.all_eq_true] at h
 have := h i (List.mem_range.2 hi)
 unfold good at this
 rw [getD_lt _ _ hi, Bool.and_eq_true] at this
 exact this.1
theorem colon_no : nameByte 58 = false := by decide
theorem lp_complete {σ : Type} (rd : List UInt8 → σ → Option (Tr × List UInt8 × σ)) (form : Bool) (e : UInt8) (he : e = 93 ∨ e = 125) (ns : List ByteArray) (hns : form = true → riseB ns = true)
 (stp : Tr → σ → Option σ) (hrd : ∀ t st st' rest, stp t st = some st' → nd rest → rd (txT t ++ rest) st = some (t, rest, st')) (hhd : ∀ t st st', stp t st = some st' → ∃ c r, txT t = c :: r ∧ hd9 c) :
 ∀ (ks : List Tr) (f : Nat) (ks0 : List Tr) (st st' : σ) (rest : List UInt8), ks.length < f → foldK stp ks st = some st' → (form = true → ks0.length + ks.length = ns.length) →
   lp rd form e f (if form = true then ns.take ks0.length else []) ks0 (txK form ns ks0.length ks ++ e :: rest) st = some (if form = true then ns else [], ks0 ++ ks, rest, st') := by
 intro ks
 induction ks with
 | nil =>
   intro f ks0 st st' rest hf hfold hl
   obtain ⟨f, rfl⟩ : ∃ f', f = f' + 1 := ⟨f - 1, by simp at hf; omega⟩
   rw [lp, txK]
   simp only [List.nil_append, List.head?_cons, if_true, List.tail_cons, List.append_nil]
   rw [foldK] at hfold
   simp only [Option.some.injEq] at hfold
   subst hfold
   cases form with
   | false => simp
   | true =>
     have := hl rfl
     simp only [List.length_nil, Nat.add_zero] at this
     rw [this]; simp
 | cons t r ih =>
   intro f ks0 st st' rest hf hfold hl
   obtain ⟨f, rfl⟩ : ∃ f', f = f' + 1 := ⟨f - 1, by simp at hf; omega⟩
   rw [foldK] at hfold
   cases hst : stp t st with
   | none => rw [hst] at hfold; cases hfold
   | some st1 =>
     rw [hst] at hfold
     simp only at hfold
     obtain ⟨c, r', htx, hc⟩ := hhd t st st1 hst
     -- the bytes behind the comma
     have hrest : nd (txK form ns (ks0.length + 1) r ++ e :: rest) := by
      cases r with
      | nil => rw [txK]; exact nd_end he rest
      | cons t2 r2 => rw [txK, ahead, if_pos (by omega)]; simp only [List.cons_append, List.append_assoc, List.nil_append]; exact nd_comma _
     have hih := ih f (ks0 ++ [t]) st1 st' rest (by simp at hf; omega) hfold (fun hfm => by have := hl hfm; simp at this ⊢; omega)
     have hlen : (ks0 ++ [t]).length = ks0.length + 1 := by simp
     rw [hlen] at hih
     have hrd1 := hrd t st st1 _ hst hrest
     -- behind the comma: the name
     have hname : nmr form (if form = true then ns.take ks0.length else []) ((if form = true then (ns.getD ks0.length ByteArray.empty).data.toList ++ [58] else []) ++ (txT t ++ (txK form ns (ks0.length + 1) r ++ e :: rest))) = some (if form = true then ns.take (ks0.length + 1) else [], txT t ++ (txK form ns (ks0.length + 1) r ++ e :: rest)) := by
      unfold nmr
      cases form with
      | false => simp
      | true =>
        have hlt : ks0.length < ns.length := by have := hl rfl; simp at this; omega
        have hnm := nameOk_bytes (rise_name (hns rfl) _ hlt)
        simp only [if_true]
        rw [getD_lt _ _ hlt]
        have htw := tw_append (p := nameByte) (l := ns[ks0.length].data.toList) (rest := [58] ++ (txT t ++ (txK true ns (ks0.length + 1) r ++ e :: rest))) hnm.1 (fun c hc => by simp at hc; subst hc; exact colon_no)
        rw [List.append_assoc, htw.1, htw.2]
        simp only [List.cons_append, List.nil_append, List.head?_cons, if_true, List.tail_cons]
        rw [List.take_succ_eq_append_getElem hlt]
     have hfirst : ∀ x _y : List UInt8, ((if form = true then (ns.getD ks0.length ByteArray.empty).data.toList ++ [58] else []) ++ (txT t ++ x)).head? ≠ some e := by
      intro x _
      cases form with
      | false =>
        simp only [Bool.false_eq_true, if_false, List.nil_append, htx, List.cons_append, List.head?_cons]
        intro h
        simp only [Option.some.injEq] at h
        subst h
        rcases he with rfl | rfl <;> (unfold hd9 at hc; revert hc; decide)
      | true =>
        have hlt : ks0.length < ns.length := by have := hl rfl; simp at this; omega
        have hnm := nameOk_bytes (rise_name (hns rfl) _ hlt)
        simp only [if_true]
        rw [getD_lt _ _ hlt]
        obtain ⟨a, b, hab⟩ := List.exists_cons_of_ne_nil hnm.2
        rw [hab]
        simp only [List.cons_append, List.head?_cons]
        intro h
        simp only [Option.some.injEq] at h
        have := hnm.1 a (by rw [hab]; simp)
        subst h
        rcases he with rfl | rfl <;> (revert this; decide)
     rw [lp, txK, ahead]
     generalize hB : (if form = true then (ns.getD ks0.length ByteArray.empty).data.toList ++ [58] else []) = B at *
     have hf1 := hfirst (txK form ns (ks0.length + 1) r ++ e :: rest) []
     have hgo : ∀ inp, inp = B ++ (txT t ++ (txK form ns (ks0.length + 1) r ++ e :: rest)) → (match nmr form (if form = true then ns.take ks0.length else []) inp with
      | none => none
      | some (ns', i2) => match rd i2 st with
        | none => none
        | some (t, i3, st') => lp rd form e f ns' (ks0 ++ [t]) i3 st') = some (if form = true then ns else [], ks0 ++ t :: r, rest, st') := by
      intro inp hinp
      rw [hinp, hname]
      simp only
      rw [hrd1]
      simp only
      rw [hih]
      simp
     by_cases h0 : ks0.length = 0
     · have e1 : ((if 0 < ks0.length then [44] else []) ++ B ++ txT t ++ txK form ns (ks0.length + 1) r ++ e :: rest) = B ++ (txT t ++ (txK form ns (ks0.length + 1) r ++ e :: rest)) := by
        rw [if_neg (by omega)]; simp only [List.nil_append, List.append_assoc]
       rw [e1, if_neg hf1, show cma ks0.length (B ++ (txT t ++ (txK form ns (ks0.length + 1) r ++ e :: rest))) = some (B ++ (txT t ++ (txK form ns (ks0.length + 1) r ++ e :: rest))) from by unfold cma; rw [if_pos h0]]
       exact hgo _ rfl
     · have e1 : ((if 0 < ks0.length then [44] else []) ++ B ++ txT t ++ txK form ns (ks0.length + 1) r ++ e :: rest) = 44 :: (B ++ (txT t ++ (txK form ns (ks0.length + 1) r ++ e :: rest))) := by
        rw [if_pos (by omega)]; simp only [List.cons_append, List.nil_append, List.append_assoc]
       rw [e1, if_neg (by simp only [List.head?_cons, Option.some.injEq]; rcases he with rfl | rfl <;> decide), show cma ks0.length (44 :: (B ++ (txT t ++ (txK form ns (ks0.length + 1) r ++ e :: rest)))) = some (B ++ (txT t ++ (txK form ns (ks0.length + 1) r ++ e :: rest))) from by unfold cma; rw [if_neg h0]; simp]
       exact hgo _ rfl
end Go.Proofs.YtccnehcpmkgbhaaGreatDoor
