/- A law for a callee that raises a fault in a region that draws its order. No program, no conditions. -/
import Derived.Test.YtgamonfmgngilaaGreatDoorPart00
import Derived.Deep.RegionLaw
import Derived.Test.YtgamonfmgngilaaGreatDoorPart02
import Derived.Test.YtgamonfmgngilaaGreatDoorPart03
import Derived.Test.YtgamonfmgngilaaGreatDoorPart04
import Derived.Lib.ItoaNum
namespace Go.Proofs.YtgamonfmgngilaaGreatDoor
open Go Go.RowKit

/-- Where a call raises a fault, what follows it is never met. -/
theorem dead_end {G : Prop} {S K : Act → World → Prop} (_ : ∀ a w, S a w → K a w) (a : Act) (w : World) (h : G) (_ : Hid False → K a w) : G := h

end Go.Proofs.YtgamonfmgngilaaGreatDoor

/- The walks of the program's reader of texts, wherever in a block it lies: next, skip, take, more, end. For texts of at most 2^20 bytes. -/

namespace Go.Proofs.YtgamonfmgngilaaGreatDoor
open Go Go.RowKit

/-- But for one cell of a block nothing has turned. -/
structure Mv (R o : Nat) (w w' : World) : Prop where
  os : w'.os = w.os
  tape : w'.tape = w.tape
  output : w'.output = w.output
  size : w'.heap.size = w.heap.size
  block : ∀ i, i ≠ R → w'.heap[i]? = w.heap[i]?
  cell : ∀ j, j ≠ o → w'.cell? ⟨R, j, none⟩ = w.cell? ⟨R, j, none⟩
  frz : ∀ j, w'.frozen? ⟨R, j, none⟩ = w.frozen? ⟨R, j, none⟩
theorem Mv.refl (R o : Nat) (w : World) : Mv R o w w := ⟨rfl, rfl, rfl, rfl, fun _ _ => rfl, fun _ _ => rfl, fun _ => rfl⟩
theorem Mv.trans {R o : Nat} {a b c : World} (h : Mv R o a b) (k : Mv R o b c) : Mv R o a c :=
  ⟨k.os.trans h.os, k.tape.trans h.tape, k.output.trans h.output, k.size.trans h.size, fun i hi => (k.block i hi).trans (h.block i hi), fun j hj => (k.cell j hj).trans (h.cell j hj), fun j => (k.frz j).trans (h.frz j)⟩
theorem Mv.drewN {R o : Nat} {w w' : World} (h : Mv R o w w') (n : Nat) : Mv R o w (w'.drewN n) := ⟨h.os, h.tape, h.output, h.size, h.block, h.cell, h.frz⟩
theorem Mv.set (R o : Nat) (w : World) (v : Value) : Mv R o w (w.setCell ⟨R, o, none⟩ v) :=
  ⟨rfl, rfl, rfl, by simp, fun i hi => Below.heap_setCell _ _ _ _ hi, fun j hj => World.cell?_setCell_other _ _ _ _ (fun e => hj (by simpa using (congrArg Addr.off e).symm)), fun j => World.frozen?_setCell _ _ _ _⟩
theorem Mv.but {R o : Nat} {w w' : World} (h : Mv R o w w') : But R w w' := ⟨h.os, h.tape, h.output, Nat.le_of_eq h.size.symm, fun i _ hne => h.block i (fun e => hne (by rw [e]))⟩

/-- A reader of texts lies in block R, from cell o on. -/
structure Tx (w : World) (R o : Nat) (s : ByteArray) (a : Nat) : Prop where
  c0 : w.cell? ⟨R, o, none⟩ = some (.string s)
  c1 : w.cell? ⟨R, o + 1, none⟩ = some (.int .i64 a)
  f1 : w.frozen? ⟨R, o + 1, none⟩ = false
theorem Tx.drewN {w : World} {R o : Nat} {s : ByteArray} {a : Nat} (h : Tx w R o s a) (n : Nat) : Tx (w.drewN n) R o s a := ⟨h.c0, h.c1, h.f1⟩
theorem Tx.set {w : World} {R o : Nat} {s : ByteArray} {a : Nat} (h : Tx w R o s a) (b : Nat) : Tx (w.setCell ⟨R, o + 1, none⟩ (.int .i64 b)) R o s b :=
  ⟨by rw [World.cell?_setCell_other _ _ _ _ (fun e => by have := congrArg Addr.off e; simp at this)]; exact h.c0, by apply World.cell?_setCell_same; exact h.c1, by rw [World.frozen?_setCell]; exact h.f1⟩
theorem Tx.of_block {w w' : World} {R o : Nat} {s : ByteArray} {a : Nat} (h : Tx w R o s a) (e : w'.heap[R]? = w.heap[R]?) : Tx w' R o s a :=
  ⟨by rw [World.cell?_of_block (w := w) e]; exact h.c0, by rw [World.cell?_of_block (w := w) e]; exact h.c1, by rw [World.frozen?_of_block (w := w) e]; exact h.f1⟩

theorem xhasPre (s wd : ByteArray) (a : Nat) : Lib.hasPrefix (s.extract a s.size).data.toList wd.data.toList = pre wd s a := by
  unfold Lib.hasPrefix pre lf
  congr 1
  simp [List.take_of_length_le]

set_option maxHeartbeats 400000 in
theorem xnext_any (w : World) (R o : Nat) (s : ByteArray) (a : Nat) (h : Tx w R o s a) (ha : a ≤ s.size) :
    Calls Tryz.prog 104 #[.pointer (some ⟨R, o, none⟩)] w fun e w' => e = .returned (.int .u8 (bv s a)) ∧ ∃ m, w' = w.drewN m := by
  obtain ⟨c0, c1, f1⟩ := h
  by_cases hlt : a < s.size
  · have hbv : bv s a = s[a].toNat := by unfold bv; rw [dif_pos hlt]
    rw [hbv]
    have hb : ((a : Int) == (s.size : Int)) = false := by simp; omega
    clear hbv
    go_enter Tryz.func104, Tryz.ntmps104
    go_wp2_with fail
    go_quiet (fail)
    go_wp2_with fail
    go_quiet (fail)
    go_wp2_with fail
    go_ret
    exact ⟨rfl, _, by rw [World.drewN_drewN]⟩
  · have hbv : bv s a = 0 := by unfold bv; rw [dif_neg hlt]
    rw [hbv]
    have hb : ((a : Int) == (s.size : Int)) = true := by simp; omega
    clear hbv
    go_enter Tryz.func104, Tryz.ntmps104
    go_wp2_with fail
    go_quiet (fail)
    go_wp2_with fail
    go_ret
    exact ⟨rfl, _, rfl⟩

set_option maxHeartbeats 800000 in
theorem xskip_yes (w : World) (R o : Nat) (s wd : ByteArray) (a : Nat) (hs : s.size ≤ 1048576) (h : Tx w R o s a) (ha : a ≤ s.size) (hw0 : 0 < wd.size) (hw : wd.size ≤ 16) (hp : pre wd s a = true) :
    Calls Tryz.prog 98 #[.pointer (some ⟨R, o, none⟩), .string wd] w fun e w' => e = .returned (.bool true) ∧ Tx w' R o s (a + wd.size) ∧ Mv R (o + 1) w w' := by
  obtain ⟨c0, c1, f1⟩ := h
  have H := hide (Tx.mk c0 c1 f1)
  have hi0 : (0 : Int) ≤ (a : Int) := by omega
  have hi1 : (a : Int) ≤ (s.size : Int) := by omega
  have hpre := Tryz.strings_HasPrefix (s.extract a s.size) wd
  rw [xhasPre, hp] at hpre
  have HPRE := hide hpre
  clear hp hpre
  go_enter Tryz.func98, Tryz.ntmps98
  go_wp2_with fail
  go_quiet ((go_at_call 116; exact Calls.quiet_of_same (unhide HPRE _)))
  go_wp2_with fail
  go_ret
  exact ⟨rfl, (H.out.drewN _).set _, ((Mv.refl _ _ _).drewN _).trans (Mv.set _ _ _ _)⟩

set_option maxHeartbeats 800000 in
theorem xskip_no (w : World) (R o : Nat) (s wd : ByteArray) (a : Nat) (h : Tx w R o s a) (ha : a ≤ s.size) (hp : pre wd s a = false) :
    Calls Tryz.prog 98 #[.pointer (some ⟨R, o, none⟩), .string wd] w fun e w' => e = .returned (.bool false) ∧ ∃ m, w' = w.drewN m := by
  obtain ⟨c0, c1, f1⟩ := h
  have hi0 : (0 : Int) ≤ (a : Int) := by omega
  have hi1 : (a : Int) ≤ (s.size : Int) := by omega
  have hpre := Tryz.strings_HasPrefix (s.extract a s.size) wd
  rw [xhasPre, hp] at hpre
  have HPRE := hide hpre
  clear hp hpre
  go_enter Tryz.func98, Tryz.ntmps98
  go_wp2_with fail
  go_quiet ((go_at_call 116; exact Calls.quiet_of_same (unhide HPRE _)))
  go_wp2_with fail
  go_ret
  exact ⟨rfl, _, rfl⟩

set_option maxHeartbeats 400000 in
theorem xtake_yes (w : World) (R o : Nat) (s wd : ByteArray) (a : Nat) (hs : s.size ≤ 1048576) (h : Tx w R o s a) (ha : a ≤ s.size) (hw0 : 0 < wd.size) (hw : wd.size ≤ 16) (hp : pre wd s a = true) :
    Calls Tryz.prog 73 #[.pointer (some ⟨R, o, none⟩), .string wd] w fun e w' => e = .returned (.tuple #[]) ∧ Tx w' R o s (a + wd.size) ∧ Mv R (o + 1) w w' := by
  have HS := hide (xskip_yes w R o s wd a hs h ha hw0 hw hp)
  clear h hp
  go_enter Tryz.func73, Tryz.ntmps73
  go_wp2_with (first
    | (go_at_call 98; refine (unhide HS).mono ?_; rintro e w1 ⟨rfl, hr, hb⟩)
    | (go_at_call 65; refine (treeWant_yes _).mono ?_; rintro e w2 ⟨rfl, rfl⟩))
  go_end0
  exact ⟨rfl, hr, hb⟩

set_option maxHeartbeats 400000 in
theorem xtake_no (w : World) (R o : Nat) (s wd : ByteArray) (a : Nat) (h : Tx w R o s a) (ha : a ≤ s.size) (hp : pre wd s a = false) :
    Calls Tryz.prog 73 #[.pointer (some ⟨R, o, none⟩), .string wd] w fun e w' => e = fltE ∧ ∃ m, w' = w.drewN m := by
  have HS := hide (xskip_no w R o s wd a h ha hp)
  clear h hp
  go_enter Tryz.func73, Tryz.ntmps73
  go_wp2_with (first
    | (go_at_call 98; refine (unhide HS).mono ?_; rintro e w1 ⟨rfl, m, rfl⟩)
    | (go_at_call 65; refine (treeWant_no _).mono ?_; rintro e w2 ⟨rfl, rfl⟩))
  exact ⟨rfl, rfl, _, rfl⟩

set_option maxHeartbeats 400000 in
theorem xend_yes (w : World) (R o : Nat) (s : ByteArray) (h : Tx w R o s s.size) :
    Calls Tryz.prog 67 #[.pointer (some ⟨R, o, none⟩)] w fun e w' => e = .returned (.tuple #[]) ∧ ∃ m, w' = w.drewN m := by
  obtain ⟨c0, c1, f1⟩ := h
  go_enter Tryz.func67, Tryz.ntmps67
  go_quiet ((go_at_call 65; exact Calls.quiet_of_same (treeWant_yes _)))
  go_wp2_with fail
  go_end0
  exact ⟨rfl, _, rfl⟩

set_option maxHeartbeats 800000 in
theorem xend_no (w : World) (R o : Nat) (s : ByteArray) (a : Nat) (h : Tx w R o s a) (ha : a < s.size) :
    Calls Tryz.prog 67 #[.pointer (some ⟨R, o, none⟩)] w fun e w' => e = fltE ∧ ∃ m, w' = w.drewN m := by
  obtain ⟨c0, c1, f1⟩ := h
  have hne : ¬ ((a : Int) = (s.size : Int)) := by omega
  have hd : decide ((a : Int) = (s.size : Int)) = false := by simp; omega
  have hb : ((a : Int) == (s.size : Int)) = false := by simp; omega
  go_enter Tryz.func67, Tryz.ntmps67
  go_region_law (rw [if_pos (by first | rfl | simp [Region.wanted])]; go_simp; refine (treeWant_no _).mono ?_; rintro e w2 ⟨rfl, rfl⟩; refine dead_end (by assumption) { tmps := #[], defers := [] } w (And.intro rfl (And.intro rfl ⟨1, rfl⟩)) (fun HF => ?_))
  all_goals exact (unhide HF).elim

set_option maxHeartbeats 400000 in
theorem xmore_end (w : World) (R o : Nat) (s : ByteArray) (a n : Nat) (e : UInt8) (hs : s.size ≤ 1048576) (h : Tx w R o s a) (ha : a ≤ s.size) (hp : pre (w1 e) s a = true) :
    Calls Tryz.prog 99 #[.pointer (some ⟨R, o, none⟩), .string (w1 e), .int .i64 n] w fun e w' => e = .returned (.bool false) ∧ Tx w' R o s (a + 1) ∧ Mv R (o + 1) w w' := by
  have HS := hide (xskip_yes w R o s (w1 e) a hs h ha (by show 0 < 1; decide) (by show 1 ≤ 16; decide) hp)
  clear h hp
  go_enter Tryz.func99, Tryz.ntmps99
  go_wp2_with (go_at_call 98; refine (unhide HS).mono ?_; rintro e w1 ⟨rfl, hr, hb⟩)
  go_ret
  exact ⟨rfl, hr, hb⟩

set_option maxHeartbeats 400000 in
theorem xmore_first (w : World) (R o : Nat) (s : ByteArray) (a : Nat) (e : UInt8) (h : Tx w R o s a) (ha : a ≤ s.size) (hp : pre (w1 e) s a = false) :
    Calls Tryz.prog 99 #[.pointer (some ⟨R, o, none⟩), .string (w1 e), .int .i64 0] w fun e w' => e = .returned (.bool true) ∧ Tx w' R o s a ∧ Mv R (o + 1) w w' := by
  have HS := hide (xskip_no w R o s (w1 e) a h ha hp)
  have H := hide h
  clear h hp
  go_enter Tryz.func99, Tryz.ntmps99
  go_wp2_with (go_at_call 98; refine (unhide HS).mono ?_; rintro e w1 ⟨rfl, m, rfl⟩)
  go_ret
  exact ⟨rfl, H.out.drewN m, (Mv.refl _ _ _).drewN m⟩

set_option maxHeartbeats 400000 in
theorem xmore_comma (w : World) (R o : Nat) (s : ByteArray) (a n : Nat) (e : UInt8) (hn : 0 < n) (hs : s.size ≤ 1048576) (h : Tx w R o s a) (ha : a ≤ s.size) (hp : pre (w1 e) s a = false) (hp2 : pre (w1 44) s a = true) :
    Calls Tryz.prog 99 #[.pointer (some ⟨R, o, none⟩), .string (w1 e), .int .i64 n] w fun e w' => e = .returned (.bool true) ∧ Tx w' R o s (a + 1) ∧ Mv R (o + 1) w w' := by
  have HS := hide (xskip_no w R o s (w1 e) a h ha hp)
  have HT := hide (fun m => xtake_yes (w.drewN m) R o s (w1 44) a hs (h.drewN m) ha (by decide) (by decide) hp2)
  have hz : decide ((0 : Int) < (n : Int)) = true := by simp; omega
  clear h hp hp2
  go_enter Tryz.func99, Tryz.ntmps99
  go_wp2_with (first
    | (go_at_call 98; refine (unhide HS).mono ?_; rintro e w1 ⟨rfl, m, rfl⟩)
    | (go_at_call 73; refine (unhide HT _).mono ?_; rintro e w2 ⟨rfl, hr, hb⟩))
  go_ret
  exact ⟨rfl, hr, ((Mv.refl _ _ _).drewN m).trans hb⟩

set_option maxHeartbeats 400000 in
theorem xmore_none (w : World) (R o : Nat) (s : ByteArray) (a n : Nat) (e : UInt8) (hn : 0 < n) (h : Tx w R o s a) (ha : a ≤ s.size) (hp : pre (w1 e) s a = false) (hp2 : pre (w1 44) s a = false) :
    Calls Tryz.prog 99 #[.pointer (some ⟨R, o, none⟩), .string (w1 e), .int .i64 n] w fun e w' => e = fltE ∧ ∃ m, w' = w.drewN m := by
  have HS := hide (xskip_no w R o s (w1 e) a h ha hp)
  have HT := hide (fun m => xtake_no (w.drewN m) R o s (w1 44) a (h.drewN m) ha hp2)
  have hz : decide ((0 : Int) < (n : Int)) = true := by simp; omega
  clear h hp hp2
  go_enter Tryz.func99, Tryz.ntmps99
  go_wp2_with (first
    | (go_at_call 98; refine (unhide HS).mono ?_; rintro e w1 ⟨rfl, m, rfl⟩)
    | (go_at_call 73; refine (unhide HT _).mono ?_; rintro e w2 ⟨rfl, m2, rfl⟩))
  exact ⟨rfl, rfl, _, rfl⟩
end Go.Proofs.YtgamonfmgngilaaGreatDoor

/- The text of a tree, as a plain function on data; trees all of whose parts are ok but for their count. No program, no conditions. -/

namespace Go.Proofs.YtgamonfmgngilaaGreatDoor
open Go Go.RowKit

/-- What stands ahead of kid i of a list or form. -/
def ahead (form : Bool) (ns : List ByteArray) (i : Nat) : List UInt8 :=
  (if 0 < i then [44] else []) ++ (if form then (ns.getD i ByteArray.empty).data.toList ++ [58] else [])

mutual
def txT : Tr → List UInt8
  | .mk s n tx ns ks =>
    if s = 1 then Lib.itoa n
    else if s = 2 then [34] ++ tx.data.toList ++ [34]
    else if s = 3 then (if n = 1 then [121, 101, 115] else [110, 111])
    else if s = 6 then (if ks.length = 0 then [126] else [63] ++ txM ks)
    else if s = 5 then [123] ++ txK true ns 0 ks ++ [125]
    else [91] ++ txK false ns 0 ks ++ [93]
def txM : List Tr → List UInt8
  | [] => []
  | t :: _ => txT t
def txK (form : Bool) (ns : List ByteArray) (i : Nat) : List Tr → List UInt8
  | [] => []
  | t :: r => ahead form ns i ++ txT t ++ txK form ns (i + 1) r
end

mutual
def okT : Tr → Bool
  | .mk s n tx ns ks => aloneB (.mk s n tx ns ks) && okK ks
def okK : List Tr → Bool
  | [] => true
  | t :: r => okT t && okK r
end

theorem okT_eq (t : Tr) : okT t = (aloneB t && okK t.kids) := by
  obtain ⟨s, n, tx, ns, ks⟩ := t; rw [okT]; rfl
theorem okK_get {ks : List Tr} (h : okK ks = true) (i : Nat) (hi : i < ks.length) : okT ks[i] = true := by
  induction ks generalizing i with
  | nil => simp at hi
  | cons t r ih =>
    rw [okK, Bool.and_eq_true] at h
    cases i with
    | zero => exact h.1
    | succ i => exact ih h.2 i (by simpa using hi)

theorem txT_eq (t : Tr) : txT t = if t.sort = 1 then Lib.itoa t.num
    else if t.sort = 2 then [34] ++ t.text.data.toList ++ [34]
    else if t.sort = 3 then (if t.num = 1 then [121, 101, 115] else [110, 111])
    else if t.sort = 6 then (if t.kids.length = 0 then [126] else [63] ++ txM t.kids)
    else if t.sort = 5 then [123] ++ txK true t.names 0 t.kids ++ [125]
    else [91] ++ txK false t.names 0 t.kids ++ [93] := by
  obtain ⟨s, n, tx, ns, ks⟩ := t; rw [txT]; rfl

theorem txM_get {ks : List Tr} (h : 0 < ks.length) : txM ks = txT ks[0] := by
  cases ks with
  | nil => simp at h
  | cons t r => rw [txM]; rfl

/-- The text of the first k kids. -/
def txTo (form : Bool) (ns : List ByteArray) (ks : List Tr) (k : Nat) : List UInt8 := txK form ns 0 (ks.take k)

theorem txK_snoc (form : Bool) (ns : List ByteArray) (i : Nat) (l : List Tr) (t : Tr) : txK form ns i (l ++ [t]) = txK form ns i l ++ (ahead form ns (i + l.length) ++ txT t) := by
  induction l generalizing i with
  | nil => simp [txK]
  | cons a r ih =>
    simp only [List.cons_append, txK, List.length_cons]
    rw [ih (i + 1), show i + 1 + r.length = i + (r.length + 1) from by omega]
    simp only [List.append_assoc]

theorem txTo_succ (form : Bool) (ns : List ByteArray) (ks : List Tr) (k : Nat) (hk : k < ks.length) : txTo form ns ks (k + 1) = txTo form ns ks k ++ (ahead form ns k ++ txT ks[k]) := by
  unfold txTo
  rw [List.take_succ_eq_append_getElem hk, txK_snoc]
  simp [Nat.min_eq_left (Nat.le_of_lt hk)]

theorem txTo_all (form : Bool) (ns : List ByteArray) (ks : List Tr) : txTo form ns ks ks.length = txK form ns 0 ks := by
  unfold txTo; rw [List.take_length]

theorem txTo_le (form : Bool) (ns : List ByteArray) (ks : List Tr) (k : Nat) (hk : k ≤ ks.length) : (txTo form ns ks k).length ≤ (txK form ns 0 ks).length := by
  rw [← txTo_all]
  have : ∀ m, k + m ≤ ks.length → (txTo form ns ks k).length ≤ (txTo form ns ks (k + m)).length := by
    intro m
    induction m with
    | zero => intro _; exact Nat.le_refl _
    | succ m ih =>
      intro h
      rw [show k + (m + 1) = k + m + 1 from by omega, txTo_succ _ _ _ _ (by omega), List.length_append]
      have := ih (by omega); omega
  have := this (ks.length - k) (by omega)
  rwa [show k + (ks.length - k) = ks.length from by omega] at this

end Go.Proofs.YtgamonfmgngilaaGreatDoor

/- What the program's sorter does, as a plain function on data, and that it counts as the specification counts. No program, no conditions. -/

namespace Go.Proofs.YtgamonfmgngilaaGreatDoor
open Go Go.RowKit

mutual
/-- The parts behind a tree, those ahead of it being p, at the level l; none, if a fault is raised. -/
def wlk : Tr → Int → Int → Option Int
  | .mk s n tx ns ks, p, l =>
    if p + 1 ≤ 120 ∧ l + 1 ≤ 6 then
      if ownB (.mk s n tx ns ks) = true then
        match wlkK ks (p + 1) (l + 1) with
        | none => none
        | some q => if newB (.mk s n tx ns ks) = true then some q else none
      else none
    else none
def wlkK : List Tr → Int → Int → Option Int
  | [], p, _ => some p
  | t :: r, p, l => match wlk t p l with
    | none => none
    | some q => wlkK r q l
end

theorem wlk_eq (t : Tr) (p l : Int) : wlk t p l = if p + 1 ≤ 120 ∧ l + 1 ≤ 6 then
      if ownB t = true then
        match wlkK t.kids (p + 1) (l + 1) with
        | none => none
        | some q => if newB t = true then some q else none
      else none
    else none := by
  obtain ⟨s, n, tx, ns, ks⟩ := t
  rw [wlk]; rfl

/-- What a count comes to, so much being ahead of it. -/
def onto (p k : Int) : Option Int := if k < 0 ∨ 120 < p + k then none else some (p + k)

mutual
theorem wlk_is : ∀ (t : Tr) (p l : Int), 0 ≤ p → p ≤ 120 → wlk t p l = onto p (pT t (l + 1))
  | .mk s n tx ns ks, p, l => by
    intro hp hp1
    rw [wlk, pT]
    by_cases h : p + 1 ≤ 120 ∧ l + 1 ≤ 6
    · rw [if_pos h]
      rw [alone_eq]
      by_cases ho : ownB (.mk s n tx ns ks) = true
      · rw [if_pos ho, ho, wlkK_is ks (p + 1) (l + 1) 1 (by omega) (by omega) (by omega)]
        have hbd := pK_bd ks (l + 1) 1 (by omega) (by omega)
        generalize pK ks (l + 1) 1 = r at hbd
        by_cases hn : newB (.mk s n tx ns ks) = true
        · rw [hn]
          simp only [Bool.and_self, Bool.true_eq_false, or_false]
          rw [if_neg (by omega)]
          unfold onto
          by_cases hx : r < 0 ∨ 120 < p + r
          · rw [if_pos (by omega), if_pos hx]
          · rw [if_neg (by omega), if_neg hx]
            simp
        · have hn' : newB (.mk s n tx ns ks) = false := by simpa using hn
          rw [hn']
          simp only [Bool.and_false, or_true, if_true]
          have : onto p (-1) = none := by unfold onto; rw [if_pos (by omega)]
          rw [this]
          unfold onto
          split <;> rfl
      · have ho' : ownB (.mk s n tx ns ks) = false := by simpa using ho
        rw [if_neg ho, ho']
        simp only [Bool.false_and, or_true, if_true]
        unfold onto; rw [if_pos (by omega)]
    · rw [if_neg h]
      unfold onto
      by_cases h6 : 6 < l + 1
      · rw [if_pos (Or.inl h6), if_pos (by omega)]
      · split
        · rw [if_pos (by omega)]
        · have hbd := pK_bd ks (l + 1) 1 (by omega) (by omega)
          rw [if_pos (by omega)]
theorem wlkK_is : ∀ (ks : List Tr) (p l n : Int), 1 ≤ n → n ≤ p → p ≤ 120 → wlkK ks p l = onto (p - n) (pK ks l n)
  | [], p, l, n => by
    intro h1 h2 h3
    rw [wlkK, pK]
    unfold onto
    rw [if_neg (by omega)]
    congr 1; omega
  | t :: r, p, l, n => by
    intro h1 h2 h3
    rw [wlkK, pK, wlk_is t p l (by omega) h3]
    have hbd := pT_bd t (l + 1)
    generalize pT t (l + 1) = k at hbd
    by_cases hx : k < 0 ∨ 120 < p + k
    · have : onto p k = none := by unfold onto; rw [if_pos hx]
      rw [this]
      simp only
      by_cases hy : k < 0 ∨ 120 < n + k
      · rw [if_pos hy]; unfold onto; rw [if_pos (by omega)]
      · rw [if_neg hy]
        have hbd2 := pK_bd r l (n + k) (by omega) (by omega)
        have hge := pK_ge r l (n + k)
        unfold onto; rw [if_pos (by omega)]
    · have : onto p k = some (p + k) := by unfold onto; rw [if_neg hx]
      rw [this]
      simp only
      rw [wlkK_is r (p + k) l (n + k) (by omega) (by omega) (by omega), if_neg (by omega), show p + k - (n + k) = p - n from by omega]
theorem pK_ge : ∀ (ks : List Tr) (l n : Int), pK ks l n = -1 ∨ n ≤ pK ks l n
  | [], l, n => by rw [pK]; exact Or.inr (Int.le_refl _)
  | t :: r, l, n => by
    rw [pK]
    split
    · exact Or.inl rfl
    · have := pK_ge r l (n + pT t (l + 1)); omega
end

/-- The sorter counts from the start as the specification counts. -/
theorem wlk_start (t : Tr) : wlk t 0 0 = if pT t 1 < 0 then none else some (pT t 1) := by
  rw [wlk_is t 0 0 (by omega) (by omega)]
  have hbd := pT_bd t 1
  unfold onto
  rw [show (0 : Int) + 1 = 1 from rfl]
  by_cases h : pT t 1 < 0
  · rw [if_pos (Or.inl h), if_pos h]
  · rw [if_neg (by omega), if_neg h]; simp

theorem wlk_bd (t : Tr) (p l q : Int) (hp : 0 ≤ p) (hp1 : p ≤ 120) (h : wlk t p l = some q) : p + 1 ≤ q ∧ q ≤ 120 := by
  rw [wlk_is t p l hp hp1] at h
  have hbd := pT_bd t (l + 1)
  unfold onto at h
  split at h
  · cases h
  · simp only [Option.some.injEq] at h; omega

theorem wlkK_step {ks : List Tr} {k : Nat} (hk : k < ks.length) (p l : Int) : wlkK (ks.drop k) p l = match wlk ks[k] p l with
    | none => none
    | some q => wlkK (ks.drop (k + 1)) q l := by
  rw [List.drop_eq_getElem_cons hk, wlkK]

end Go.Proofs.YtgamonfmgngilaaGreatDoor
