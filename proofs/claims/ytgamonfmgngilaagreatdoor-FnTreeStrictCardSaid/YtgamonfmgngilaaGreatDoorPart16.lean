/- A law for a callee that raises a fault in a region that draws its order. No program, no conditions. -/
import Derived.Test.YtgamonfmgngilaaGreatDoorPart00
import Derived.Deep.RegionLaw
import Derived.Test.YtgamonfmgngilaaGreatDoorPart14
import Derived.Test.YtgamonfmgngilaaGreatDoorPart13
import Derived.Test.YtgamonfmgngilaaGreatDoorPart15
import Derived.Lib.AtoiAllCases
import Derived.Lib.ItoaMem
namespace Go.Proofs.YtgamonfmgngilaaGreatDoor
open Go Go.RowKit

/-- Where a call raises a fault, what follows it is never met. -/
theorem dead_end {G : Prop} {S K : Act → World → Prop} (_ : ∀ a w, S a w → K a w) (a : Act) (w : World) (h : G) (_ : Hid False → K a w) : G := h

end Go.Proofs.YtgamonfmgngilaaGreatDoor

/- The walks of the program's reader of texts, wherever in a block it lies: next, skip, take, more, end. For texts of at most 2^20 bytes. -/

namespace Go.Proofs.YtgamonfmgngilaaGreatDoor
open Go Go.RowKit

/-- But for one cell of a block nothing has turned. -/
structure Mv (R o : Nat) (w w' : World) : Prop where
  os : w'.os = w.os
  tape : w'.tape = w.tape
  output : w'.output = w.output
  size : w'.heap.size = w.heap.size
  block : ∀ i, i ≠ R → w'.heap[i]? = w.heap[i]?
  cell : ∀ j, j ≠ o → w'.cell? ⟨R, j, none⟩ = w.cell? ⟨R, j, none⟩
  frz : ∀ j, w'.frozen? ⟨R, j, none⟩ = w.frozen? ⟨R, j, none⟩
theorem Mv.refl (R o : Nat) (w : World) : Mv R o w w := ⟨rfl, rfl, rfl, rfl, fun _ _ => rfl, fun _ _ => rfl, fun _ => rfl⟩
theorem Mv.trans {R o : Nat} {a b c : World} (h : Mv R o a b) (k : Mv R o b c) : Mv R o a c :=
  ⟨k.os.trans h.os, k.tape.trans h.tape, k.output.trans h.output, k.size.trans h.size, fun i hi => (k.block i hi).trans (h.block i hi), fun j hj => (k.cell j hj).trans (h.cell j hj), fun j => (k.frz j).trans (h.frz j)⟩
theorem Mv.drewN {R o : Nat} {w w' : World} (h : Mv R o w w') (n : Nat) : Mv R o w (w'.drewN n) := ⟨h.os, h.tape, h.output, h.size, h.block, h.cell, h.frz⟩
theorem Mv.set (R o : Nat) (w : World) (v : Value) : Mv R o w (w.setCell ⟨R, o, none⟩ v) :=
  ⟨rfl, rfl, rfl, by simp, fun i hi => Below.heap_setCell _ _ _ _ hi, fun j hj => World.cell?_setCell_other _ _ _ _ (fun e => hj (by simpa using (congrArg Addr.off e).symm)), fun j => World.frozen?_setCell _ _ _ _⟩
theorem Mv.but {R o : Nat} {w w' : World} (h : Mv R o w w') : But R w w' := ⟨h.os, h.tape, h.output, Nat.le_of_eq h.size.symm, fun i _ hne => h.block i (fun e => hne (by rw [e]))⟩

/-- A reader of texts lies in block R, from cell o on. -/
structure Tx (w : World) (R o : Nat) (s : ByteArray) (a : Nat) : Prop where
  c0 : w.cell? ⟨R, o, none⟩ = some (.string s)
  c1 : w.cell? ⟨R, o + 1, none⟩ = some (.int .i64 a)
  f1 : w.frozen? ⟨R, o + 1, none⟩ = false
theorem Tx.drewN {w : World} {R o : Nat} {s : ByteArray} {a : Nat} (h : Tx w R o s a) (n : Nat) : Tx (w.drewN n) R o s a := ⟨h.c0, h.c1, h.f1⟩
theorem Tx.set {w : World} {R o : Nat} {s : ByteArray} {a : Nat} (h : Tx w R o s a) (b : Nat) : Tx (w.setCell ⟨R, o + 1, none⟩ (.int .i64 b)) R o s b :=
  ⟨by rw [World.cell?_setCell_other _ _ _ _ (fun e => by have := congrArg Addr.off e; simp at this)]; exact h.c0, by apply World.cell?_setCell_same; exact h.c1, by rw [World.frozen?_setCell]; exact h.f1⟩
theorem Tx.of_block {w w' : World} {R o : Nat} {s : ByteArray} {a : Nat} (h : Tx w R o s a) (e : w'.heap[R]? = w.heap[R]?) : Tx w' R o s a :=
  ⟨by rw [World.cell?_of_block (w := w) e]; exact h.c0, by rw [World.cell?_of_block (w := w) e]; exact h.c1, by rw [World.frozen?_of_block (w := w) e]; exact h.f1⟩

theorem xhasPre (s wd : ByteArray) (a : Nat) : Lib.hasPrefix (s.extract a s.size).data.toList wd.data.toList = pre wd s a := by
  unfold Lib.hasPrefix pre lf
  congr 1
  simp [List.take_of_length_le]

set_option maxHeartbeats 400000 in
theorem xnext_any (w : World) (R o : Nat) (s : ByteArray) (a : Nat) (h : Tx w R o s a) (ha : a ≤ s.size) :
    Calls Tryz.prog 104 #[.pointer (some ⟨R, o, none⟩)] w fun e w' => e = .returned (.int .u8 (bv s a)) ∧ ∃ m, w' = w.drewN m := by
  obtain ⟨c0, c1, f1⟩ := h
  by_cases hlt : a < s.size
  · have hbv : bv s a = s[a].toNat := by unfold bv; rw [dif_pos hlt]
    rw [hbv]
    have hb : ((a : Int) == (s.size : Int)) = false := by simp; omega
    clear hbv
    go_enter Tryz.func104, Tryz.ntmps104
    go_wp2_with fail
    go_quiet (fail)
    go_wp2_with fail
    go_quiet (fail)
    go_wp2_with fail
    go_ret
    exact ⟨rfl, _, by rw [World.drewN_drewN]⟩
  · have hbv : bv s a = 0 := by unfold bv; rw [dif_neg hlt]
    rw [hbv]
    have hb : ((a : Int) == (s.size : Int)) = true := by simp; omega
    clear hbv
    go_enter Tryz.func104, Tryz.ntmps104
    go_wp2_with fail
    go_quiet (fail)
    go_wp2_with fail
    go_ret
    exact ⟨rfl, _, rfl⟩

set_option maxHeartbeats 800000 in
theorem xskip_yes (w : World) (R o : Nat) (s wd : ByteArray) (a : Nat) (hs : s.size ≤ 1048576) (h : Tx w R o s a) (ha : a ≤ s.size) (hw0 : 0 < wd.size) (hw : wd.size ≤ 16) (hp : pre wd s a = true) :
    Calls Tryz.prog 98 #[.pointer (some ⟨R, o, none⟩), .string wd] w fun e w' => e = .returned (.bool true) ∧ Tx w' R o s (a + wd.size) ∧ Mv R (o + 1) w w' := by
  obtain ⟨c0, c1, f1⟩ := h
  have H := hide (Tx.mk c0 c1 f1)
  have hi0 : (0 : Int) ≤ (a : Int) := by omega
  have hi1 : (a : Int) ≤ (s.size : Int) := by omega
  have hpre := Tryz.strings_HasPrefix (s.extract a s.size) wd
  rw [xhasPre, hp] at hpre
  have HPRE := hide hpre
  clear hp hpre
  go_enter Tryz.func98, Tryz.ntmps98
  go_wp2_with fail
  go_quiet ((go_at_call 116; exact Calls.quiet_of_same (unhide HPRE _)))
  go_wp2_with fail
  go_ret
  exact ⟨rfl, (H.out.drewN _).set _, ((Mv.refl _ _ _).drewN _).trans (Mv.set _ _ _ _)⟩

set_option maxHeartbeats 800000 in
theorem xskip_no (w : World) (R o : Nat) (s wd : ByteArray) (a : Nat) (h : Tx w R o s a) (ha : a ≤ s.size) (hp : pre wd s a = false) :
    Calls Tryz.prog 98 #[.pointer (some ⟨R, o, none⟩), .string wd] w fun e w' => e = .returned (.bool false) ∧ ∃ m, w' = w.drewN m := by
  obtain ⟨c0, c1, f1⟩ := h
  have hi0 : (0 : Int) ≤ (a : Int) := by omega
  have hi1 : (a : Int) ≤ (s.size : Int) := by omega
  have hpre := Tryz.strings_HasPrefix (s.extract a s.size) wd
  rw [xhasPre, hp] at hpre
  have HPRE := hide hpre
  clear hp hpre
  go_enter Tryz.func98, Tryz.ntmps98
  go_wp2_with fail
  go_quiet ((go_at_call 116; exact Calls.quiet_of_same (unhide HPRE _)))
  go_wp2_with fail
  go_ret
  exact ⟨rfl, _, rfl⟩

set_option maxHeartbeats 400000 in
theorem xtake_yes (w : World) (R o : Nat) (s wd : ByteArray) (a : Nat) (hs : s.size ≤ 1048576) (h : Tx w R o s a) (ha : a ≤ s.size) (hw0 : 0 < wd.size) (hw : wd.size ≤ 16) (hp : pre wd s a = true) :
    Calls Tryz.prog 73 #[.pointer (some ⟨R, o, none⟩), .string wd] w fun e w' => e = .returned (.tuple #[]) ∧ Tx w' R o s (a + wd.size) ∧ Mv R (o + 1) w w' := by
  have HS := hide (xskip_yes w R o s wd a hs h ha hw0 hw hp)
  clear h hp
  go_enter Tryz.func73, Tryz.ntmps73
  go_wp2_with (first
    | (go_at_call 98; refine (unhide HS).mono ?_; rintro e w1 ⟨rfl, hr, hb⟩)
    | (go_at_call 65; refine (treeWant_yes _).mono ?_; rintro e w2 ⟨rfl, rfl⟩))
  go_end0
  exact ⟨rfl, hr, hb⟩

set_option maxHeartbeats 400000 in
theorem xtake_no (w : World) (R o : Nat) (s wd : ByteArray) (a : Nat) (h : Tx w R o s a) (ha : a ≤ s.size) (hp : pre wd s a = false) :
    Calls Tryz.prog 73 #[.pointer (some ⟨R, o, none⟩), .string wd] w fun e w' => e = fltE ∧ ∃ m, w' = w.drewN m := by
  have HS := hide (xskip_no w R o s wd a h ha hp)
  clear h hp
  go_enter Tryz.func73, Tryz.ntmps73
  go_wp2_with (first
    | (go_at_call 98; refine (unhide HS).mono ?_; rintro e w1 ⟨rfl, m, rfl⟩)
    | (go_at_call 65; refine (treeWant_no _).mono ?_; rintro e w2 ⟨rfl, rfl⟩))
  exact ⟨rfl, rfl, _, rfl⟩

set_option maxHeartbeats 400000 in
theorem xend_yes (w : World) (R o : Nat) (s : ByteArray) (h : Tx w R o s s.size) :
    Calls Tryz.prog 67 #[.pointer (some ⟨R, o, none⟩)] w fun e w' => e = .returned (.tuple #[]) ∧ ∃ m, w' = w.drewN m := by
  obtain ⟨c0, c1, f1⟩ := h
  go_enter Tryz.func67, Tryz.ntmps67
  go_quiet ((go_at_call 65; exact Calls.quiet_of_same (treeWant_yes _)))
  go_wp2_with fail
  go_end0
  exact ⟨rfl, _, rfl⟩

set_option maxHeartbeats 800000 in
theorem xend_no (w : World) (R o : Nat) (s : ByteArray) (a : Nat) (h : Tx w R o s a) (ha : a < s.size) :
    Calls Tryz.prog 67 #[.pointer (some ⟨R, o, none⟩)] w fun e w' => e = fltE ∧ ∃ m, w' = w.drewN m := by
  obtain ⟨c0, c1, f1⟩ := h
  have hne : ¬ ((a : Int) = (s.size : Int)) := by omega
  have hd : decide ((a : Int) = (s.size : Int)) = false := by simp; omega
  have hb : ((a : Int) == (s.size : Int)) = false := by simp; omega
  go_enter Tryz.func67, Tryz.ntmps67
  go_region_law (rw [if_pos (by first | rfl | simp [Region.wanted])]; go_simp; refine (treeWant_no _).mono ?_; rintro e w2 ⟨rfl, rfl⟩; refine dead_end (by assumption) { tmps := #[], defers := [] } w (And.intro rfl (And.intro rfl ⟨1, rfl⟩)) (fun HF => ?_))
  all_goals exact (unhide HF).elim

set_option maxHeartbeats 400000 in
theorem xmore_end (w : World) (R o : Nat) (s : ByteArray) (a n : Nat) (e : UInt8) (hs : s.size ≤ 1048576) (h : Tx w R o s a) (ha : a ≤ s.size) (hp : pre (w1 e) s a = true) :
    Calls Tryz.prog 99 #[.pointer (some ⟨R, o, none⟩), .string (w1 e), .int .i64 n] w fun e w' => e = .returned (.bool false) ∧ Tx w' R o s (a + 1) ∧ Mv R (o + 1) w w' := by
  have HS := hide (xskip_yes w R o s (w1 e) a hs h ha (by show 0 < 1; decide) (by show 1 ≤ 16; decide) hp)
  clear h hp
  go_enter Tryz.func99, Tryz.ntmps99
  go_wp2_with (go_at_call 98; refine (unhide HS).mono ?_; rintro e w1 ⟨rfl, hr, hb⟩)
  go_ret
  exact ⟨rfl, hr, hb⟩

set_option maxHeartbeats 400000 in
theorem xmore_first (w : World) (R o : Nat) (s : ByteArray) (a : Nat) (e : UInt8) (h : Tx w R o s a) (ha : a ≤ s.size) (hp : pre (w1 e) s a = false) :
    Calls Tryz.prog 99 #[.pointer (some ⟨R, o, none⟩), .string (w1 e), .int .i64 0] w fun e w' => e = .returned (.bool true) ∧ Tx w' R o s a ∧ Mv R (o + 1) w w' := by
  have HS := hide (xskip_no w R o s (w1 e) a h ha hp)
  have H := hide h
  clear h hp
  go_enter Tryz.func99, Tryz.ntmps99
  go_wp2_with (go_at_call 98; refine (unhide HS).mono ?_; rintro e w1 ⟨rfl, m, rfl⟩)
  go_ret
  exact ⟨rfl, H.out.drewN m, (Mv.refl _ _ _).drewN m⟩

set_option maxHeartbeats 400000 in
theorem xmore_comma (w : World) (R o : Nat) (s : ByteArray) (a n : Nat) (e : UInt8) (hn : 0 < n) (hs : s.size ≤ 1048576) (h : Tx w R o s a) (ha : a ≤ s.size) (hp : pre (w1 e) s a = false) (hp2 : pre (w1 44) s a = true) :
    Calls Tryz.prog 99 #[.pointer (some ⟨R, o, none⟩), .string (w1 e), .int .i64 n] w fun e w' => e = .returned (.bool true) ∧ Tx w' R o s (a + 1) ∧ Mv R (o + 1) w w' := by
  have HS := hide (xskip_no w R o s (w1 e) a h ha hp)
  have HT := hide (fun m => xtake_yes (w.drewN m) R o s (w1 44) a hs (h.drewN m) ha (by decide) (by decide) hp2)
  have hz : decide ((0 : Int) < (n : Int)) = true := by simp; omega
  clear h hp hp2
  go_enter Tryz.func99, Tryz.ntmps99
  go_wp2_with (first
    | (go_at_call 98; refine (unhide HS).mono ?_; rintro e w1 ⟨rfl, m, rfl⟩)
    | (go_at_call 73; refine (unhide HT _).mono ?_; rintro e w2 ⟨rfl, hr, hb⟩))
  go_ret
  exact ⟨rfl, hr, ((Mv.refl _ _ _).drewN m).trans hb⟩

set_option maxHeartbeats 400000 in
theorem xmore_none (w : World) (R o : Nat) (s : ByteArray) (a n : Nat) (e : UInt8) (hn : 0 < n) (h : Tx w R o s a) (ha : a ≤ s.size) (hp : pre (w1 e) s a = false) (hp2 : pre (w1 44) s a = false) :
    Calls Tryz.prog 99 #[.pointer (some ⟨R, o, none⟩), .string (w1 e), .int .i64 n] w fun e w' => e = fltE ∧ ∃ m, w' = w.drewN m := by
  have HS := hide (xskip_no w R o s (w1 e) a h ha hp)
  have HT := hide (fun m => xtake_no (w.drewN m) R o s (w1 44) a (h.drewN m) ha hp2)
  have hz : decide ((0 : Int) < (n : Int)) = true := by simp; omega
  clear h hp hp2
  go_enter Tryz.func99, Tryz.ntmps99
  go_wp2_with (first
    | (go_at_call 98; refine (unhide HS).mono ?_; rintro e w1 ⟨rfl, m, rfl⟩)
    | (go_at_call 73; refine (unhide HT _).mono ?_; rintro e w2 ⟨rfl, m2, rfl⟩))
  exact ⟨rfl, rfl, _, rfl⟩
end Go.Proofs.YtgamonfmgngilaaGreatDoor

/- How the program and the specification read trees, as plain functions on lists of bytes. Definitions and small laws, no program. No conditions. -/

namespace Go.Proofs.YtgamonfmgngilaaGreatDoor
open Go Go.RowKit

def isDg (c : UInt8) : Bool := 48 ≤ c.toNat && c.toNat ≤ 57

/-- What a row of digits spells. -/
def dval (acc : Nat) (ds : List UInt8) : Nat := ds.foldl (fun n c => n * 10 + (c.toNat - 48)) acc

theorem dec_all (u : Nat) : ∀ c, c ∈ Lib.decDigits u → isDg c = true := by
  induction u using Nat.strongRecOn with
  | _ u ih =>
    intro c hc
    rw [Lib.decDigits] at hc
    have hd : ∀ m, m < 10 → isDg (UInt8.ofNat (48 + m)) = true := fun m hm => by
      unfold isDg; rw [UInt8.toNat_ofNat', Nat.mod_eq_of_lt (by omega)]; simp; omega
    by_cases h : u < 10
    · rw [dif_pos h] at hc
      simp only [List.mem_singleton] at hc
      rw [hc]; exact hd u h
    · rw [dif_neg h] at hc
      rcases List.mem_append.1 hc with hc | hc
      · exact ih (u / 10) (by omega) c hc
      · simp only [List.mem_singleton] at hc
        rw [hc]; exact hd _ (by omega)

theorem dec_val (u : Nat) : dval 0 (Lib.decDigits u) = u := by
  induction u using Nat.strongRecOn with
  | _ u ih =>
    rw [Lib.decDigits]
    by_cases h : u < 10
    · rw [dif_pos h]
      unfold dval
      simp only [List.foldl_cons, List.foldl_nil]
      rw [UInt8.toNat_ofNat', Nat.mod_eq_of_lt (by omega)]; omega
    · rw [dif_neg h]
      have := ih (u / 10) (by omega)
      unfold dval at this ⊢
      rw [List.foldl_append, this]
      simp only [List.foldl_cons, List.foldl_nil]
      rw [UInt8.toNat_ofNat', Nat.mod_eq_of_lt (by omega)]; omega

theorem dec_ne (u : Nat) : Lib.decDigits u ≠ [] := by
  intro h
  have := Lib.decDigits_length u
  have := Lib.nDigits_pos u
  rw [h] at *
  simp at *
  omega

theorem dec_len (k u : Nat) (h : u < 10 ^ (k + 1)) : (Lib.decDigits u).length ≤ k + 1 := by
  induction k generalizing u with
  | zero => rw [Lib.decDigits, dif_pos (by simpa using h)]; simp
  | succ k ih =>
    rw [Lib.decDigits]
    split
    · simp
    · have := ih (u / 10) (by rw [Nat.pow_succ] at h; omega)
      simp; omega

theorem dval_ge (ds : List UInt8) (acc : Nat) : acc ≤ dval acc ds := by
  induction ds generalizing acc with
  | nil => exact Nat.le_refl _
  | cons c r ih => unfold dval; rw [List.foldl_cons]; have := ih (acc * 10 + (c.toNat - 48)); unfold dval at this; omega

theorem parse_ok (ds : List UInt8) (acc : Nat) (h : ∀ c, c ∈ ds → isDg c = true) (hb : dval acc ds ≤ 999999999999) : Lib.parseUint10 acc ds = .ok (dval acc ds) := by
  induction ds generalizing acc with
  | nil => rfl
  | cons c r ih =>
    have hc := h c (by simp)
    unfold isDg at hc
    simp at hc
    have hb' : dval (acc * 10 + (c.toNat - 48)) r ≤ 999999999999 := hb
    have hge := dval_ge r (acc * 10 + (c.toNat - 48))
    rw [Lib.parseUint10, if_pos hc, if_neg (by omega), if_neg (by omega)]
    exact ih _ (fun c hc => h c (by simp [hc])) hb'

theorem itoa_cases (n : Int) : (0 ≤ n ∧ Lib.itoa n = Lib.decDigits n.toNat) ∨ (n < 0 ∧ Lib.itoa n = 45 :: Lib.decDigits n.natAbs) := by
  unfold Lib.itoa
  by_cases h : n < 0
  · rw [if_pos h]; exact Or.inr ⟨h, rfl⟩
  · rw [if_neg h]; exact Or.inl ⟨by omega, rfl⟩

theorem atoi_itoa (n : Int) (h0 : -999999999 ≤ n) (h1 : n ≤ 999999999) : Lib.atoiAll (Lib.itoa n) = .ok n := by
  rcases itoa_cases n with ⟨hn, e⟩ | ⟨hn, e⟩
  · rw [e]
    obtain ⟨c, r, hcr⟩ : ∃ c r, Lib.decDigits n.toNat = c :: r := List.exists_cons_of_ne_nil (dec_ne _)
    have hall := dec_all n.toNat
    have hv := dec_val n.toNat
    have hc := hall c (by rw [hcr]; simp)
    unfold isDg at hc
    simp at hc
    have hp := parse_ok (Lib.decDigits n.toNat) 0 hall (by rw [hv]; omega)
    rw [hv] at hp
    rw [hcr] at hp ⊢
    rw [Lib.atoiAll_plain c r (by omega) (by omega)]
    unfold Lib.parseMag
    rw [if_neg (by simp), hp]
    show (if 9223372036854775808 ≤ n.toNat then Lib.NumEnd.range else .ok (n.toNat : Int)) = .ok n
    rw [if_neg (by omega), Int.toNat_of_nonneg hn]
  · rw [e, Lib.atoiAll_minus]
    have hall := dec_all n.natAbs
    have hv := dec_val n.natAbs
    have hp := parse_ok (Lib.decDigits n.natAbs) 0 hall (by rw [hv]; omega)
    rw [hv] at hp
    unfold Lib.parseMag
    rw [if_neg (dec_ne _), hp]
    show (if 9223372036854775808 < n.natAbs then Lib.NumEnd.range else .ok (-(n.natAbs : Int))) = .ok n
    rw [if_neg (by omega), show -(n.natAbs : Int) = n from by omega]

/-- What does not go on with a number. -/
def nd (rest : List UInt8) : Prop := ∀ c, rest.head? = some c → isDg c = false

theorem tw_append {p : UInt8 → Bool} {l rest : List UInt8} (hl : ∀ c, c ∈ l → p c = true) (hr : ∀ c, rest.head? = some c → p c = false) : (l ++ rest).takeWhile p = l ∧ (l ++ rest).dropWhile p = rest := by
  induction l with
  | nil =>
    cases rest with
    | nil => simp
    | cons c r => have := hr c rfl; simp [this]
  | cons c l ih =>
    have hc := hl c (by simp)
    have := ih (fun c hc => hl c (by simp [hc]))
    simp [hc, this.1, this.2]

def cma (n : Nat) (inp : List UInt8) : Option (List UInt8) := if n = 0 then some inp else if inp.head? = some 44 then some inp.tail else none
def nmr (form : Bool) (ns : List ByteArray) (inp : List UInt8) : Option (List ByteArray × List UInt8) :=
  if form = true then (if (inp.dropWhile nameByte).head? = some 58 then some (ns ++ [⟨(inp.takeWhile nameByte).toArray⟩], (inp.dropWhile nameByte).tail) else none) else some (ns, inp)

/-- The kids of a list or a form, up to the byte that ends them. -/
def lp {σ : Type} (rd : List UInt8 → σ → Option (Tr × List UInt8 × σ)) (form : Bool) (e : UInt8) : Nat → List ByteArray → List Tr → List UInt8 → σ → Option (List ByteArray × List Tr × List UInt8 × σ)
  | 0, _, _, _, _ => none
  | f + 1, ns, ks, inp, st =>
    if inp.head? = some e then some (ns, ks, inp.tail, st) else
    match cma ks.length inp with
    | none => none
    | some i1 =>
      match nmr form ns i1 with
      | none => none
      | some (ns', i2) =>
        match rd i2 st with
        | none => none
        | some (t, i3, st') => lp rd form e f ns' (ks ++ [t]) i3 st'

/-- The bytes of a number, and what stands behind them. -/
def numRun (inp : List UInt8) : List UInt8 × List UInt8 := if inp.head? = some 45 then (45 :: inp.tail.takeWhile isDg, inp.tail.dropWhile isDg) else (inp.takeWhile isDg, inp.dropWhile isDg)

open Classical in
/-- The number whose text this is. -/
noncomputable def numOf (l : List UInt8) : Option Int := if h : ∃ n : Int, -999999999 ≤ n ∧ n ≤ 999999999 ∧ Lib.itoa n = l then some h.choose else none

theorem itoa_inj {n m : Int} (hn : -999999999 ≤ n ∧ n ≤ 999999999) (hm : -999999999 ≤ m ∧ m ≤ 999999999) (h : Lib.itoa n = Lib.itoa m) : n = m := by
  have h1 := atoi_itoa n hn.1 hn.2
  have h2 := atoi_itoa m hm.1 hm.2
  rw [h, h2] at h1
  injection h1 with h1
  exact h1.symm
theorem numOf_yes {n : Int} (h0 : -999999999 ≤ n) (h1 : n ≤ 999999999) {l : List UInt8} (hl : Lib.itoa n = l) : numOf l = some n := by
  unfold numOf
  have hex : ∃ n : Int, -999999999 ≤ n ∧ n ≤ 999999999 ∧ Lib.itoa n = l := ⟨n, h0, h1, hl⟩
  rw [dif_pos hex]
  have := hex.choose_spec
  rw [itoa_inj ⟨this.1, this.2.1⟩ ⟨h0, h1⟩ (by rw [this.2.2, hl])]
theorem numOf_some {l : List UInt8} {n : Int} (h : numOf l = some n) : -999999999 ≤ n ∧ n ≤ 999999999 ∧ Lib.itoa n = l := by
  unfold numOf at h
  split at h
  · rename_i hex
    simp only [Option.some.injEq] at h
    rw [← h]; exact hex.choose_spec
  · cases h
theorem numOf_no {l : List UInt8} (h : ∀ n : Int, -999999999 ≤ n → n ≤ 999999999 → Lib.itoa n ≠ l) : numOf l = none := by
  unfold numOf
  rw [dif_neg]
  rintro ⟨n, h0, h1, h2⟩
  exact h n h0 h1 h2

/-- A tree as the program reads it: so many levels left, so many parts ahead. -/
noncomputable def rdT : Nat → List UInt8 → Int → Option (Tr × List UInt8 × Int)
  | 0, _, _ => none
  | d + 1, inp, p =>
    if 120 < p + 1 then none else
    match inp.head? with
    | none => none
    | some c =>
      if isDg c = true ∨ c = 45 then
        match numOf (numRun inp).1 with
        | none => none
        | some n => some (.mk 1 n ByteArray.empty [] [], (numRun inp).2, p + 1)
      else if c = 34 then
        if (inp.tail.dropWhile (· != 34)).head? = some 34 ∧ textOkB ⟨(inp.tail.takeWhile (· != 34)).toArray⟩ = true then
          some (.mk 2 0 ⟨(inp.tail.takeWhile (· != 34)).toArray⟩ [] [], (inp.tail.dropWhile (· != 34)).tail, p + 1) else none
      else if c = 121 ∨ c = 110 then
        if [121, 101, 115].isPrefixOf inp = true then some (.mk 3 1 ByteArray.empty [] [], inp.drop 3, p + 1)
        else if [110, 111].isPrefixOf inp = true then some (.mk 3 0 ByteArray.empty [] [], inp.drop 2, p + 1) else none
      else if c = 91 then
        match lp (rdT d) false 93 (inp.length + 1) [] [] inp.tail (p + 1) with
        | none => none
        | some (_, ks, rest, q) => if ks.length ≤ 20 then some (.mk 4 0 ByteArray.empty [] ks, rest, q) else none
      else if c = 123 then
        match lp (rdT d) true 125 (inp.length + 1) [] [] inp.tail (p + 1) with
        | none => none
        | some (ns, ks, rest, q) => if riseB ns = true then some (.mk 5 0 ByteArray.empty ns ks, rest, q) else none
      else if c = 126 then some (.mk 6 0 ByteArray.empty [] [], inp.tail, p + 1)
      else if c = 63 then
        match rdT d inp.tail (p + 1) with
        | none => none
        | some (t, rest, q) => some (.mk 6 0 ByteArray.empty [] [t], rest, q)
      else none

/-- A number as the specification reads it. -/
def spNum (inp : List UInt8) : Option (Int × List UInt8) :=
  let r := if inp.head? = some 45 then inp.tail else inp
  let ds := (r.take 10).takeWhile isDg
  if ds = [] then none else some (if inp.head? = some 45 then -(dval 0 ds : Int) else dval 0 ds, r.drop ds.length)

/-- A tree as the specification reads it: so many levels left. -/
def spT : Nat → List UInt8 → Unit → Option (Tr × List UInt8 × Unit)
  | 0, _, _ => none
  | d + 1, inp, _ =>
    if inp.head? = some 34 then
      if (inp.tail.dropWhile (· != 34)).head? = some 34 then some (.mk 2 0 ⟨(inp.tail.takeWhile (· != 34)).toArray⟩ [] [], (inp.tail.dropWhile (· != 34)).tail, ()) else none
    else if inp.head? = some 121 then
      if [121, 101, 115].isPrefixOf inp = true then some (.mk 3 1 ByteArray.empty [] [], inp.drop 3, ()) else none
    else if inp.head? = some 110 then
      if [110, 111].isPrefixOf inp = true then some (.mk 3 0 ByteArray.empty [] [], inp.drop 2, ()) else none
    else if inp.head? = some 126 then some (.mk 6 0 ByteArray.empty [] [], inp.tail, ())
    else if inp.head? = some 63 then
      match spT d inp.tail () with
      | none => none
      | some (t, rest, _) => some (.mk 6 0 ByteArray.empty [] [t], rest, ())
    else if inp.head? = some 91 then
      match lp (spT d) false 93 (inp.length + 1) [] [] inp.tail () with
      | none => none
      | some (_, ks, rest, _) => some (.mk 4 0 ByteArray.empty [] ks, rest, ())
    else if inp.head? = some 123 then
      match lp (spT d) true 125 (inp.length + 1) [] [] inp.tail () with
      | none => none
      | some (ns, ks, rest, _) => some (.mk 5 0 ByteArray.empty ns ks, rest, ())
    else
      match spNum inp with
      | none => none
      | some (n, rest) => some (.mk 1 n ByteArray.empty [] [], rest, ())

end Go.Proofs.YtgamonfmgngilaaGreatDoor

/- The walks of the program's reader of texts, further: run, with each of its three conditions. For texts of at most 2^20 bytes. -/

namespace Go.Proofs.YtgamonfmgngilaaGreatDoor
open Go Go.RowKit

/-- The place of a reader, off its block. -/
def txAt (w : World) (R o : Nat) : Nat := (intOf ((w.cell? ⟨R, o + 1, none⟩).getD undef)).toNat
theorem Tx.atOf {w : World} {R o : Nat} {s : ByteArray} {a : Nat} (h : Tx w R o s a) : txAt w R o = a := by
  unfold txAt; rw [h.c1]; simp [intOf]

theorem digit_dg (c : UInt8) : digitB c = isDg c := rfl
theorem isDigit_dg (c : UInt8) (w : World) : Calls Tryz.prog 107 #[.int .u8 c.toNat] w fun e w' => e = .returned (.bool (isDg c)) ∧ w' = w := isDigit_any c w

/-- Not a quote. -/
def nqB (c : UInt8) : Bool := c != 34
set_option maxHeartbeats 400000 in
theorem quote_any (c : UInt8) (w : World) : Calls Tryz.prog 96 #[.int .u8 c.toNat] w fun e w' => e = .returned (.bool (nqB c)) ∧ w' = w := by
  have hb : nqB c = ((c.toNat : Int) != 34) := by
    unfold nqB
    rw [Bool.eq_iff_iff]
    simp only [bne_iff_ne, ne_eq]
    constructor
    · intro h e; exact h (UInt8.toNat_inj.1 (show c.toNat = (34 : UInt8).toNat by show c.toNat = 34; omega))
    · intro h e; subst e; exact h rfl
  rw [hb]
  go_enter Tryz.func96, Tryz.ntmps96
  go_wp2_with fail
  go_ret
  exact ⟨rfl, rfl⟩

set_option maxRecDepth 100000 in
set_option maxHeartbeats 1600000 in
theorem xrun_name (w : World) (R o : Nat) (s : ByteArray) (a : Nat) (hs : s.size ≤ 1048576) (h : Tx w R o s a) (ha : a ≤ s.size) :
    Calls Tryz.prog 95 #[.pointer (some ⟨R, o, none⟩), .func (.func 101) #[] #[]] w fun e w' => e = .returned (.string ⟨((lf s a).takeWhile nameByte).toArray⟩) ∧ Tx w' R o s (a + rn nameByte s a) ∧ Mv R (o + 1) w w' := by
  have H := hide h
  obtain ⟨c0, c1, f1⟩ := h
  rw [← rn_take]
  have hle := rn_le nameByte s a ha
  generalize hr : rn nameByte s a = r at *
  have HR := hide hr
  have hi0 : (0 : Int) ≤ (a : Int) := by omega
  have hi1 : (a : Int) ≤ (a : Int) + (r : Int) := by omega
  have hi2 : (a : Int) + (r : Int) ≤ (s.size : Int) := by omega
  clear hr
  go_enter Tryz.func95, Tryz.ntmps95
  go_wp2_with fail
  go_loopw [] (fun wr => ∃ (j : Nat), a ≤ j ∧ j ≤ s.size ∧ Hid (j + rn nameByte s j = a + r) ∧ Hid (Tx wr R o s j) ∧ Hid (Mv R (o + 1) w wr)) (fun wr => s.size - txAt wr R o)
  case atStart => exact ⟨a, Nat.le_refl _, ha, hide (by show _ = _; rw [HR.out]), H, hide (Mv.refl _ _ _)⟩
  case round =>
    obtain ⟨j, hj0, hj1, HJ, HRj, HMV⟩ := hrel
    obtain ⟨y0, y1, g1⟩ := HRj.out
    have hat := HRj.out.atOf
    by_cases hlt : j < s.size
    · have HNB := hide (isNameByte_any s[j])
      have hdl : decide ((j : Int) < (s.size : Int)) = true := by simp; omega
      have hj2 : (0 : Int) ≤ (j : Int) := by omega
      have hj3 : (j : Int) < (s.size : Int) := by omega
      cases hnb : nameByte s[j]
      · have he : j = a + r := by
          have := HJ.out
          have := rn_stop (p := nameByte) hlt (by simpa using hnb)
          omega
        rw [hnb] at HNB
        have HE := hide he
        clear HR H he hnb
        go_wp2_with fail
        go_quiet ((go_at_call 101; exact Calls.quiet_of_same (unhide HNB _)))
        have hk1 : (a : Int) ≤ (j : Int) := by omega
        have hk2 : (j : Int) ≤ (s.size : Int) := by omega
        go_wp2_with fail
        go_quiet (fail)
        go_wp2_with fail
        go_ret
        refine ⟨?_, ?_, ((unhide HMV).drewN _).drewN _⟩
        · rw [← unhide HE]; rfl
        · rw [← unhide HE]; exact (HRj.out.drewN _).drewN _
      · have hjn : j + 1 + rn nameByte s (j + 1) = a + r := by
          have := HJ.out
          have := rn_step (p := nameByte) hlt (by simpa using hnb)
          omega
        rw [hnb] at HNB
        have HJN := hide hjn
        clear HR H hjn hnb
        go_wp2_with fail
        go_quiet ((go_at_call 101; exact Calls.quiet_of_same (unhide HNB _)))
        go_wp2_with fail
        go_roundw
        case rel => exact ⟨j + 1, by omega, by omega, HJN, hide ((HRj.out.drewN _).set _), hide (((unhide HMV).drewN _).trans (Mv.set _ _ _ _))⟩
        case measure =>
          rw [hat]
          have e5 := ((HRj.out.drewN nq).set (j + 1)).atOf
          exact Nat.lt_of_le_of_lt (Nat.le_of_eq (congrArg (s.size - ·) e5)) (by omega)
    · have hdl : decide ((j : Int) < (s.size : Int)) = false := by simp; omega
      have he : j = a + r := by
        have := HJ.out
        have := rn_end (p := nameByte) (s := s) (i := j) (by omega)
        omega
      have HE := hide he
      clear HR H he
      have hk1 : (a : Int) ≤ (j : Int) := by omega
      have hk2 : (j : Int) ≤ (s.size : Int) := by omega
      go_wp2_with fail
      go_quiet (fail)
      go_wp2_with fail
      go_quiet (fail)
      go_wp2_with fail
      go_ret
      refine ⟨?_, ?_, ((unhide HMV).drewN _).drewN _⟩
      · rw [← unhide HE]; rfl
      · rw [← unhide HE]; exact (HRj.out.drewN _).drewN _

set_option maxRecDepth 100000 in
set_option maxHeartbeats 1600000 in
theorem xrun_digit (w : World) (R o : Nat) (s : ByteArray) (a : Nat) (hs : s.size ≤ 1048576) (h : Tx w R o s a) (ha : a ≤ s.size) :
    Calls Tryz.prog 95 #[.pointer (some ⟨R, o, none⟩), .func (.func 107) #[] #[]] w fun e w' => e = .returned (.string ⟨((lf s a).takeWhile isDg).toArray⟩) ∧ Tx w' R o s (a + rn isDg s a) ∧ Mv R (o + 1) w w' := by
  have H := hide h
  obtain ⟨c0, c1, f1⟩ := h
  rw [← rn_take]
  have hle := rn_le isDg s a ha
  generalize hr : rn isDg s a = r at *
  have HR := hide hr
  have hi0 : (0 : Int) ≤ (a : Int) := by omega
  have hi1 : (a : Int) ≤ (a : Int) + (r : Int) := by omega
  have hi2 : (a : Int) + (r : Int) ≤ (s.size : Int) := by omega
  clear hr
  go_enter Tryz.func95, Tryz.ntmps95
  go_wp2_with fail
  go_loopw [] (fun wr => ∃ (j : Nat), a ≤ j ∧ j ≤ s.size ∧ Hid (j + rn isDg s j = a + r) ∧ Hid (Tx wr R o s j) ∧ Hid (Mv R (o + 1) w wr)) (fun wr => s.size - txAt wr R o)
  case atStart => exact ⟨a, Nat.le_refl _, ha, hide (by show _ = _; rw [HR.out]), H, hide (Mv.refl _ _ _)⟩
  case round =>
    obtain ⟨j, hj0, hj1, HJ, HRj, HMV⟩ := hrel
    obtain ⟨y0, y1, g1⟩ := HRj.out
    have hat := HRj.out.atOf
    by_cases hlt : j < s.size
    · have HNB := hide (isDigit_dg s[j])
      have hdl : decide ((j : Int) < (s.size : Int)) = true := by simp; omega
      have hj2 : (0 : Int) ≤ (j : Int) := by omega
      have hj3 : (j : Int) < (s.size : Int) := by omega
      cases hnb : isDg s[j]
      · have he : j = a + r := by
          have := HJ.out
          have := rn_stop (p := isDg) hlt (by simpa using hnb)
          omega
        rw [hnb] at HNB
        have HE := hide he
        clear HR H he hnb
        go_wp2_with fail
        go_quiet ((go_at_call 107; exact Calls.quiet_of_same (unhide HNB _)))
        have hk1 : (a : Int) ≤ (j : Int) := by omega
        have hk2 : (j : Int) ≤ (s.size : Int) := by omega
        go_wp2_with fail
        go_quiet (fail)
        go_wp2_with fail
        go_ret
        refine ⟨?_, ?_, ((unhide HMV).drewN _).drewN _⟩
        · rw [← unhide HE]; rfl
        · rw [← unhide HE]; exact (HRj.out.drewN _).drewN _
      · have hjn : j + 1 + rn isDg s (j + 1) = a + r := by
          have := HJ.out
          have := rn_step (p := isDg) hlt (by simpa using hnb)
          omega
        rw [hnb] at HNB
        have HJN := hide hjn
        clear HR H hjn hnb
        go_wp2_with fail
        go_quiet ((go_at_call 107; exact Calls.quiet_of_same (unhide HNB _)))
        go_wp2_with fail
        go_roundw
        case rel => exact ⟨j + 1, by omega, by omega, HJN, hide ((HRj.out.drewN _).set _), hide (((unhide HMV).drewN _).trans (Mv.set _ _ _ _))⟩
        case measure =>
          rw [hat]
          have e5 := ((HRj.out.drewN nq).set (j + 1)).atOf
          exact Nat.lt_of_le_of_lt (Nat.le_of_eq (congrArg (s.size - ·) e5)) (by omega)
    · have hdl : decide ((j : Int) < (s.size : Int)) = false := by simp; omega
      have he : j = a + r := by
        have := HJ.out
        have := rn_end (p := isDg) (s := s) (i := j) (by omega)
        omega
      have HE := hide he
      clear HR H he
      have hk1 : (a : Int) ≤ (j : Int) := by omega
      have hk2 : (j : Int) ≤ (s.size : Int) := by omega
      go_wp2_with fail
      go_quiet (fail)
      go_wp2_with fail
      go_quiet (fail)
      go_wp2_with fail
      go_ret
      refine ⟨?_, ?_, ((unhide HMV).drewN _).drewN _⟩
      · rw [← unhide HE]; rfl
      · rw [← unhide HE]; exact (HRj.out.drewN _).drewN _

set_option maxRecDepth 100000 in
set_option maxHeartbeats 1600000 in
theorem xrun_quote (w : World) (R o : Nat) (s : ByteArray) (a : Nat) (hs : s.size ≤ 1048576) (h : Tx w R o s a) (ha : a ≤ s.size) :
    Calls Tryz.prog 95 #[.pointer (some ⟨R, o, none⟩), .func (.func 96) #[] #[]] w fun e w' => e = .returned (.string ⟨((lf s a).takeWhile nqB).toArray⟩) ∧ Tx w' R o s (a + rn nqB s a) ∧ Mv R (o + 1) w w' := by
  have H := hide h
  obtain ⟨c0, c1, f1⟩ := h
  rw [← rn_take]
  have hle := rn_le nqB s a ha
  generalize hr : rn nqB s a = r at *
  have HR := hide hr
  have hi0 : (0 : Int) ≤ (a : Int) := by omega
  have hi1 : (a : Int) ≤ (a : Int) + (r : Int) := by omega
  have hi2 : (a : Int) + (r : Int) ≤ (s.size : Int) := by omega
  clear hr
  go_enter Tryz.func95, Tryz.ntmps95
  go_wp2_with fail
  go_loopw [] (fun wr => ∃ (j : Nat), a ≤ j ∧ j ≤ s.size ∧ Hid (j + rn nqB s j = a + r) ∧ Hid (Tx wr R o s j) ∧ Hid (Mv R (o + 1) w wr)) (fun wr => s.size - txAt wr R o)
  case atStart => exact ⟨a, Nat.le_refl _, ha, hide (by show _ = _; rw [HR.out]), H, hide (Mv.refl _ _ _)⟩
  case round =>
    obtain ⟨j, hj0, hj1, HJ, HRj, HMV⟩ := hrel
    obtain ⟨y0, y1, g1⟩ := HRj.out
    have hat := HRj.out.atOf
    by_cases hlt : j < s.size
    · have HNB := hide (quote_any s[j])
      have hdl : decide ((j : Int) < (s.size : Int)) = true := by simp; omega
      have hj2 : (0 : Int) ≤ (j : Int) := by omega
      have hj3 : (j : Int) < (s.size : Int) := by omega
      cases hnb : nqB s[j]
      · have he : j = a + r := by
          have := HJ.out
          have := rn_stop (p := nqB) hlt (by simpa using hnb)
          omega
        rw [hnb] at HNB
        have HE := hide he
        clear HR H he hnb
        go_wp2_with fail
        go_quiet ((go_at_call 96; exact Calls.quiet_of_same (unhide HNB _)))
        have hk1 : (a : Int) ≤ (j : Int) := by omega
        have hk2 : (j : Int) ≤ (s.size : Int) := by omega
        go_wp2_with fail
        go_quiet (fail)
        go_wp2_with fail
        go_ret
        refine ⟨?_, ?_, ((unhide HMV).drewN _).drewN _⟩
        · rw [← unhide HE]; rfl
        · rw [← unhide HE]; exact (HRj.out.drewN _).drewN _
      · have hjn : j + 1 + rn nqB s (j + 1) = a + r := by
          have := HJ.out
          have := rn_step (p := nqB) hlt (by simpa using hnb)
          omega
        rw [hnb] at HNB
        have HJN := hide hjn
        clear HR H hjn hnb
        go_wp2_with fail
        go_quiet ((go_at_call 96; exact Calls.quiet_of_same (unhide HNB _)))
        go_wp2_with fail
        go_roundw
        case rel => exact ⟨j + 1, by omega, by omega, HJN, hide ((HRj.out.drewN _).set _), hide (((unhide HMV).drewN _).trans (Mv.set _ _ _ _))⟩
        case measure =>
          rw [hat]
          have e5 := ((HRj.out.drewN nq).set (j + 1)).atOf
          exact Nat.lt_of_le_of_lt (Nat.le_of_eq (congrArg (s.size - ·) e5)) (by omega)
    · have hdl : decide ((j : Int) < (s.size : Int)) = false := by simp; omega
      have he : j = a + r := by
        have := HJ.out
        have := rn_end (p := nqB) (s := s) (i := j) (by omega)
        omega
      have HE := hide he
      clear HR H he
      have hk1 : (a : Int) ≤ (j : Int) := by omega
      have hk2 : (j : Int) ≤ (s.size : Int) := by omega
      go_wp2_with fail
      go_quiet (fail)
      go_wp2_with fail
      go_quiet (fail)
      go_wp2_with fail
      go_ret
      refine ⟨?_, ?_, ((unhide HMV).drewN _).drewN _⟩
      · rw [← unhide HE]; rfl
      · rw [← unhide HE]; exact (HRj.out.drewN _).drewN _
end Go.Proofs.YtgamonfmgngilaaGreatDoor
