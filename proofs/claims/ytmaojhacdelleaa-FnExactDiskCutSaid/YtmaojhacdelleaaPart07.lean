/- The list of the moves' function values while it grows: each with the box of its move. No conditions. -/
import Derived.Test.YtmaojhacdelleaaPart06
import Derived.Test.YtmaojhacdelleaaPart00
import Derived.Test.YtmaojhacdelleaaRows
import Derived.WalkLawsBesides
import Derived.WalkSmall
namespace Go.Proofs.Ytmaojhacdelleaa
open Go Go.RowKit

def fcells (ms : List Dm) (Bs : List Nat) : List Value := List.zipWith (fun m B => mvF m.gone B) ms Bs
theorem fcells_len {ms : List Dm} {Bs : List Nat} (h : Bs.length = ms.length) : (fcells ms Bs).length = ms.length := by
  unfold fcells; rw [List.length_zipWith, h, Nat.min_self]
theorem fcells_snoc {ms : List Dm} {Bs : List Nat} (h : Bs.length = ms.length) (m : Dm) (B : Nat) : fcells (ms ++ [m]) (Bs ++ [B]) = fcells ms Bs ++ [mvF m.gone B] := by
  unfold fcells
  rw [List.zipWith_append h.symm]; rfl

structure Mvs (V : Nat) (W : World) (vm : Value) (ms : List Dm) (Bs : List Nat) : Prop where
  len : Bs.length = ms.length
  own : W.ownsRow (V + 1) 131 1 vm ms.length (fcells ms Bs)
  box : ∀ j (h : j < ms.length) (h2 : j < Bs.length), V + 1 ≤ Bs[j] ∧ W.heap[Bs[j]]? = some (.cells #[.bool ms[j].gone, .string ms[j].name] 77)
theorem Mvs.start (V : Nat) (W : World) : Mvs V W (.slice none 0 0) [] [] := ⟨rfl, ⟨rfl, Or.inl ⟨rfl, rfl⟩⟩, fun j h => by simp at h⟩
theorem Mvs.alloc {V : Nat} {W : World} {vm : Value} {ms : List Dm} {Bs : List Nat} (h : Mvs V W vm ms Bs) (o : Obj) : Mvs V (W.alloc o) vm ms Bs :=
  ⟨h.len, h.own.alloc o, fun j h1 h2 => ⟨(h.box j h1 h2).1, by
    have h3 := (h.box j h1 h2).2
    rw [Below.heap_alloc _ _ _ (Array.getElem?_eq_some_iff.1 h3).1]; exact h3⟩⟩
theorem Mvs.drew {V : Nat} {W : World} {vm : Value} {ms : List Dm} {Bs : List Nat} (h : Mvs V W vm ms Bs) : Mvs V W.drew vm ms Bs := ⟨h.len, h.own, h.box⟩
theorem Mvs.set {V : Nat} {W : World} {vm : Value} {ms : List Dm} {Bs : List Nat} (h : Mvs V W vm ms Bs) (o : Nat) (u : Value) : Mvs V (W.setCell ⟨V, o, none⟩ u) vm ms Bs :=
  ⟨h.len, ownsRow_setCell_below h.own (a := ⟨V, o, none⟩) (Nat.lt_succ_self V) u, fun j h1 h2 => ⟨(h.box j h1 h2).1, by
    rw [Below.heap_setCell _ _ _ _ (by have := (h.box j h1 h2).1; show Bs[j] ≠ V; omega)]; exact (h.box j h1 h2).2⟩⟩
theorem Mvs.snoc {V : Nat} {W W' : World} {vm vm' : Value} {ms : List Dm} {Bs : List Nat} (h : Mvs V W vm ms Bs) (m : Dm) (B : Nat) (hB : V + 1 ≤ B) (hbox : W.heap[B]? = some (.cells #[.bool m.gone, .string m.name] 77))
    (hown : W'.ownsRow (V + 1) 131 1 vm' (ms.length + 1) (fcells ms Bs ++ [mvF m.gone B])) (hg : W.grownBy W' vm.ownBlock) : Mvs V W' vm' (ms ++ [m]) (Bs ++ [B]) := by
  have hne : ∀ b m', W.heap[b]? = some (Obj.cells m' 77 (0, 0)) → vm.ownBlock ≠ some b := fun b m' hb e => by
    rcases h.own.2 with ⟨hv, _⟩ | ⟨g, cap, cur, hv, _, hh, _⟩
    · rw [hv] at e; cases e
    · rw [hv] at e
      simp only [Value.ownBlock, Option.some.injEq] at e
      subst e
      rw [hh] at hb
      simp only [Option.some.injEq, Obj.cells.injEq] at hb
      exact absurd hb.2.1 (by decide)
  have keep : ∀ (b : Nat) (m' : Array Value), W.heap[b]? = some (Obj.cells m' 77 (0, 0)) → W'.heap[b]? = some (Obj.cells m' 77 (0, 0)) := fun b m' hb => by
    rw [hg.block b (Array.getElem?_eq_some_iff.1 hb).1 (fun e => hne b m' hb e.symm)]; exact hb
  refine ⟨by simp [h.len], ?_, fun j h1 h2 => ?_⟩
  · rw [List.length_append, fcells_snoc h.len]; exact hown
  · by_cases hj : j < ms.length
    · have hj2 : j < Bs.length := by rw [h.len]; exact hj
      rw [List.getElem_append_left hj, List.getElem_append_left hj2]
      exact ⟨(h.box j hj hj2).1, keep _ _ (h.box j hj hj2).2⟩
    · have e : j = ms.length := by simp at h1; omega
      subst e
      have e2 : (Bs ++ [B])[ms.length]'h2 = B := by
        rw [List.getElem_append_right (by rw [h.len]; exact Nat.le_refl _)]; simp [h.len]
      have e3 : (ms ++ [m])[ms.length]'h1 = m := by simp
      rw [e2, e3]
      exact ⟨hB, keep _ _ hbox⟩
theorem Mvs.fns {V : Nat} {w W : World} {vm : Value} {ms : List Dm} {Bs : List Nat} (h : Mvs V W vm ms Bs) (hV : w.heap.size ≤ V) (hok : ∀ m, m ∈ ms → m.okM) : FnAt (New w W) W vm ms := by
  rcases h.own.2 with ⟨hv, h0⟩ | ⟨g, cap, cur, hv, hb, hh, hle, hm, hsz, htk⟩
  · exact ⟨none, 0, by rw [h0]; exact hv, ⟨by omega, fun _ => rfl⟩, by omega, fun i hi => by omega⟩
  · refine ⟨some ⟨g, 0, none⟩, cap, hv, ⟨hle, fun e => by cases e⟩, by unfold maxLen at hm; omega, fun i hi => ?_⟩
    have hi2 : i < Bs.length := by rw [h.len]; exact hi
    obtain ⟨b1, b2⟩ := h.box i hi hi2
    have b3 := (Array.getElem?_eq_some_iff.1 b2).1
    refine ⟨g, Bs[i], rfl, ⟨by omega, (Array.getElem?_eq_some_iff.1 hh).1⟩, ⟨by omega, b3⟩, ?_, ?_, hok _ (List.getElem_mem hi)⟩
    · have h1 : (fcells ms Bs)[i]? = some (mvF ms[i].gone Bs[i]) := by
        unfold fcells
        rw [List.getElem?_eq_getElem (by rw [List.length_zipWith]; omega), List.getElem_zipWith]
      rw [← htk, List.getElem?_take_of_lt (by omega)] at h1
      simp only [World.cell?, hh]
      simpa using h1
    · simp [World.cell?, b2]
end Go.Proofs.Ytmaojhacdelleaa

/- When a tree is ok, as plain functions on data: names, texts, a tree without its kids, its parts. Definitions and small laws, no program. No conditions. -/

namespace Go.Proofs.Ytmaojhacdelleaa
open Go Go.RowKit

def nameByte (c : UInt8) : Bool := (97 ≤ c.toNat && c.toNat ≤ 122) || (48 ≤ c.toNat && c.toNat ≤ 57)
def nameFirst (c : UInt8) : Bool := 97 ≤ c.toNat && c.toNat ≤ 122
def textByte (c : UInt8) : Bool := 32 ≤ c.toNat && c.toNat ≤ 126 && c.toNat != 34

/-- The first k bytes are such. -/
def allTo (p : UInt8 → Bool) (s : ByteArray) (k : Nat) : Prop := ∀ j, j < k → (h : j < s.size) → p s[j] = true

def nameOkB (s : ByteArray) : Bool := 1 ≤ s.size && s.size ≤ 8 && nameFirst s[0]! && s.data.toList.all nameByte
def textOkB (s : ByteArray) : Bool := s.size ≤ 60 && s.data.toList.all textByte

theorem all_of {p : UInt8 → Bool} {s : ByteArray} (h : allTo p s s.size) : s.data.toList.all p = true := by
  rw [List.all_eq_true]
  intro x hx
  obtain ⟨i, hi, rfl⟩ := List.getElem_of_mem hx
  have hi' : i < s.size := by simpa using hi
  exact h i hi' hi'

theorem all_not {p : UInt8 → Bool} {s : ByteArray} {k : Nat} (hk : k < s.size) (h : p s[k] = false) : s.data.toList.all p = false := by
  rw [Bool.eq_false_iff]
  intro ha
  rw [List.all_eq_true] at ha
  have := ha s[k] (by have : s[k] = s.data.toList[k]'(by simpa using hk) := rfl; rw [this]; exact List.getElem_mem _)
  rw [h] at this
  cases this

theorem ret_bool {b c : Bool} (h : b = c) : Ending.returned (.bool b) = .returned (.bool c) := by rw [h]

theorem textOk_not {s : ByteArray} {k : Nat} (hk : k < s.size) (h : textByte s[k] = false) : textOkB s = false := by
  simp [textOkB, all_not hk h]
theorem textOk_yes {s : ByteArray} (h : s.size ≤ 60) (ha : allTo textByte s s.size) : textOkB s = true := by
  simp [textOkB, h]; simpa using all_of ha
theorem textByte_no {c : UInt8} (h : c.toNat < 32 ∨ 126 < c.toNat ∨ c.toNat = 34) : textByte c = false := by
  unfold textByte; rcases h with h | h | h
  · rw [show decide (32 ≤ c.toNat) = false from by simp; omega]; rfl
  · rw [show decide (c.toNat ≤ 126) = false from by simp; omega]; simp
  · rw [h]; rfl
theorem textByte_yes {c : UInt8} (h : 32 ≤ c.toNat ∧ c.toNat ≤ 126 ∧ c.toNat ≠ 34) : textByte c = true := by
  unfold textByte; simp [h.1, h.2.1, h.2.2]
theorem allTo_succ {p : UInt8 → Bool} {s : ByteArray} {k : Nat} (h : allTo p s k) (hk : k < s.size) (hp : p s[k] = true) : allTo p s (k + 1) := by
  intro j hj hs
  by_cases e : j = k
  · subst e; exact hp
  · exact h j (by omega) hs

theorem nameByte_yes {c : UInt8} (h : (97 ≤ c.toNat ∧ c.toNat ≤ 122) ∨ (48 ≤ c.toNat ∧ c.toNat ≤ 57)) : nameByte c = true := by
  unfold nameByte; rcases h with h | h <;> simp [h.1, h.2]
theorem nameByte_no {c : UInt8} (h : c.toNat < 48 ∨ (57 < c.toNat ∧ c.toNat < 97) ∨ 122 < c.toNat) : nameByte c = false := by
  unfold nameByte
  simp only [Bool.or_eq_false_iff, Bool.and_eq_false_iff, decide_eq_false_iff_not]
  omega
theorem nameOk_len {s : ByteArray} (h : s.size < 1 ∨ 8 < s.size) : nameOkB s = false := by
  unfold nameOkB
  rcases h with h | h
  · rw [show decide (1 ≤ s.size) = false from decide_eq_false (by omega)]; rfl
  · rw [show decide (s.size ≤ 8) = false from decide_eq_false (by omega)]; simp
theorem nameOk_first {s : ByteArray} (h0 : 0 < s.size) (h : s[0].toNat < 97 ∨ 122 < s[0].toNat) : nameOkB s = false := by
  unfold nameOkB
  rw [getElem!_pos s 0 h0, show nameFirst s[0] = false from by unfold nameFirst; simp only [Bool.and_eq_false_iff, decide_eq_false_iff_not]; omega]
  simp
theorem nameOk_not {s : ByteArray} {k : Nat} (hk : k < s.size) (h : nameByte s[k] = false) : nameOkB s = false := by
  simp [nameOkB, all_not hk h]
theorem nameOk_yes {s : ByteArray} (h1 : 0 < s.size) (h2 : s.size ≤ 8) (hf : 97 ≤ s[0].toNat ∧ s[0].toNat ≤ 122) (ha : allTo nameByte s s.size) : nameOkB s = true := by
  unfold nameOkB
  rw [all_of ha, getElem!_pos s 0 h1, show nameFirst s[0] = true from by unfold nameFirst; simp [hf.1, hf.2]]
  simp; omega

theorem getD_lt (l : List ByteArray) (i : Nat) (h : i < l.length) : l.getD i ByteArray.empty = l[i] := by simp [h]

/-- Name i of a list is a name, and comes behind the one ahead of it. -/
def good (ns : List ByteArray) (i : Nat) : Bool := nameOkB (ns.getD i ByteArray.empty) && (decide (i = 0) || Op.bytesLess (ns.getD (i - 1) ByteArray.empty).toList (ns.getD i ByteArray.empty).toList)
def riseB (ns : List ByteArray) : Bool := (List.range ns.length).all (good ns)
theorem rise_yes {ns : List ByteArray} (h : ∀ i, i < ns.length → good ns i = true) : riseB ns = true := by
  unfold riseB; rw [List.all_eq_true]; intro i hi; exact h i (List.mem_range.1 hi)
theorem rise_no {ns : List ByteArray} {i : Nat} (hi : i < ns.length) (h : good ns i = false) : riseB ns = false := by
  unfold riseB; rw [Bool.eq_false_iff]; intro ha; rw [List.all_eq_true] at ha
  have := ha i (List.mem_range.2 hi); rw [h] at this; cases this
theorem good_name {ns : List ByteArray} {i : Nat} (hi : i < ns.length) (h : nameOkB ns[i] = false) : good ns i = false := by
  unfold good; rw [getD_lt _ _ hi, h]; rfl
theorem good_zero {ns : List ByteArray} (hi : 0 < ns.length) (h : nameOkB ns[0] = true) : good ns 0 = true := by
  unfold good; rw [getD_lt _ _ hi, h]; rfl
theorem good_pos {ns : List ByteArray} {i : Nat} (hi : i < ns.length) (h0 : 0 < i) (h : nameOkB ns[i] = true) : good ns i = Op.bytesLess (ns[i - 1]'(by omega)).toList ns[i].toList := by
  unfold good; rw [getD_lt _ _ hi, getD_lt _ _ (show i - 1 < ns.length by omega), h, decide_eq_false (by omega)]; simp

/-- A tree is ok, but for its kids. -/
def aloneB (t : Tr) : Bool :=
  if t.sort = 1 then decide (-999999999 ≤ t.num ∧ t.num ≤ 999999999) && decide (t.text.toList = []) && decide (t.names.length = 0) && decide (t.kids.length = 0)
  else if t.sort = 2 then decide (t.num = 0) && textOkB t.text && decide (t.names.length = 0) && decide (t.kids.length = 0)
  else if t.sort = 3 then decide (0 ≤ t.num ∧ t.num ≤ 1) && decide (t.text.toList = []) && decide (t.names.length = 0) && decide (t.kids.length = 0)
  else if t.sort = 4 then decide (t.num = 0) && decide (t.text.toList = []) && decide (t.names.length = 0) && decide (t.kids.length ≤ 20)
  else if t.sort = 5 then decide (t.num = 0) && decide (t.text.toList = []) && decide (t.names.length = t.kids.length) && riseB t.names
  else if t.sort = 6 then decide (t.num = 0) && decide (t.text.toList = []) && decide (t.names.length = 0) && decide (t.kids.length ≤ 1)
  else false

mutual
/-- The parts of a tree that is so deep, as the specification counts them; -1, if it is not ok. -/
def pT : Tr → Int → Int
  | .mk s n tx ns ks, d => if 6 < d ∨ aloneB (.mk s n tx ns ks) = false then -1 else pK ks d 1
def pK : List Tr → Int → Int → Int
  | [], _, n => n
  | t :: r, d, n => if pT t (d + 1) < 0 ∨ 120 < n + pT t (d + 1) then -1 else pK r d (n + pT t (d + 1))
end

theorem pT_eq (t : Tr) (d : Int) : pT t d = if 6 < d ∨ aloneB t = false then -1 else pK t.kids d 1 := by
  obtain ⟨s, n, tx, ns, ks⟩ := t
  rw [pT]; rfl

theorem pK_bd (ks : List Tr) (d n : Int) (h0 : 1 ≤ n) (h1 : n ≤ 120) : pK ks d n = -1 ∨ (1 ≤ pK ks d n ∧ pK ks d n ≤ 120) := by
  induction ks generalizing n with
  | nil => rw [pK]; omega
  | cons t r ih =>
    rw [pK]
    split
    · exact Or.inl rfl
    · exact ih _ (by omega) (by omega)

theorem pT_bd (t : Tr) (d : Int) : pT t d = -1 ∨ (1 ≤ pT t d ∧ pT t d ≤ 120) := by
  rw [pT_eq]
  split
  · exact Or.inl rfl
  · exact pK_bd _ _ _ (by omega) (by omega)

theorem pK_step {ks : List Tr} {k : Nat} (hk : k < ks.length) (d n : Int) : pK (ks.drop k) d n = if pT ks[k] (d + 1) < 0 ∨ 120 < n + pT ks[k] (d + 1) then -1 else pK (ks.drop (k + 1)) d (n + pT ks[k] (d + 1)) := by
  rw [List.drop_eq_getElem_cons hk, pK]

/-- A tree has just what its sort has. -/
def ownB (t : Tr) : Bool :=
  if t.sort = 1 then decide (t.text.toList = []) && decide (t.names = []) && decide (t.kids.length = 0)
  else if t.sort = 2 then decide (t.num = 0) && decide (t.names = []) && decide (t.kids.length = 0)
  else if t.sort = 3 then decide (t.text.toList = []) && decide (t.names = []) && decide (t.kids.length = 0)
  else if t.sort = 4 then decide (t.num = 0) && decide (t.text.toList = []) && decide (t.names = [])
  else if t.sort = 5 then decide (t.num = 0) && decide (t.text.toList = [])
  else if t.sort = 6 then decide (t.num = 0) && decide (t.text.toList = []) && decide (t.names = [])
  else false

/-- What a tree has is as its sort wants it. -/
def newB (t : Tr) : Bool :=
  if t.sort = 1 then decide (-999999999 ≤ t.num ∧ t.num ≤ 999999999)
  else if t.sort = 2 then textOkB t.text
  else if t.sort = 3 then decide (0 ≤ t.num ∧ t.num ≤ 1)
  else if t.sort = 4 then decide (t.kids.length ≤ 20)
  else if t.sort = 5 then decide (t.names.length = t.kids.length) && riseB t.names
  else if t.sort = 6 then decide (t.kids.length ≤ 1)
  else false

theorem alone_eq (t : Tr) : aloneB t = (ownB t && newB t) := by
  unfold aloneB ownB newB
  split
  · rw [Bool.eq_iff_iff]; simp; grind
  split
  · rw [Bool.eq_iff_iff]; simp; grind
  split
  · rw [Bool.eq_iff_iff]; simp; grind
  split
  · rw [Bool.eq_iff_iff]; simp
  split
  · rw [Bool.eq_iff_iff]; simp; grind
  split
  · rw [Bool.eq_iff_iff]; simp
  rfl

end Go.Proofs.Ytmaojhacdelleaa

/- The walks of the program's isDigit, isNameByte, nameOk: what they answer. No conditions. -/

namespace Go.Proofs.Ytmaojhacdelleaa
open Go Go.RowKit

def digitB (c : UInt8) : Bool := 48 ≤ c.toNat && c.toNat ≤ 57
theorem digit_yes {c : UInt8} (h : 48 ≤ c.toNat ∧ c.toNat ≤ 57) : digitB c = true := by unfold digitB; simp [h.1, h.2]
theorem digit_no {c : UInt8} (h : c.toNat < 48 ∨ 57 < c.toNat) : digitB c = false := by
  unfold digitB; simp only [Bool.and_eq_false_iff, decide_eq_false_iff_not]; omega
theorem nameByte_digit {c : UInt8} (h : c.toNat < 97 ∨ 122 < c.toNat) : nameByte c = digitB c := by
  unfold nameByte digitB
  rw [show (decide (97 ≤ c.toNat) && decide (c.toNat ≤ 122)) = false from by simp only [Bool.and_eq_false_iff, decide_eq_false_iff_not]; omega]
  rfl

set_option maxHeartbeats 400000 in
theorem isDigit_any (c : UInt8) (w : World) : Calls Try.prog 106 #[.int .u8 c.toNat] w fun e w' => e = .returned (.bool (digitB c)) ∧ w' = w := by
  have hc : (48 ≤ c.toNat ∧ c.toNat ≤ 57) ∨ c.toNat < 48 ∨ 57 < c.toNat := by omega
  rcases hc with hc | hc | hc
  · have HB := hide (digit_yes hc)
    obtain ⟨h1, h2⟩ := hc
    have d2 : decide ((c.toNat : Int) ≤ 57) = true := by simp; omega
    go_enter Try.func106, Try.ntmps106
    go_wp2_with fail
    go_ret
    exact ⟨ret_bool (unhide HB).symm, rfl⟩
  · have HB := hide (digit_no (Or.inl hc))
    go_enter Try.func106, Try.ntmps106
    go_wp2_with fail
    go_ret
    exact ⟨ret_bool (unhide HB).symm, rfl⟩
  · have HB := hide (digit_no (Or.inr hc))
    have d2 : decide ((c.toNat : Int) ≤ 57) = false := by simp; omega
    go_enter Try.func106, Try.ntmps106
    go_wp2_with fail
    go_ret
    exact ⟨ret_bool (unhide HB).symm, rfl⟩

set_option maxHeartbeats 400000 in
theorem isNameByte_any (c : UInt8) (w : World) : Calls Try.prog 107 #[.int .u8 c.toNat] w fun e w' => e = .returned (.bool (nameByte c)) ∧ w' = w := by
  have hc : (97 ≤ c.toNat ∧ c.toNat ≤ 122) ∨ c.toNat < 97 ∨ 122 < c.toNat := by omega
  rcases hc with hc | hc | hc
  · have HN := hide (nameByte_yes (Or.inl hc))
    obtain ⟨h1, h2⟩ := hc
    have d2 : decide ((c.toNat : Int) ≤ 122) = true := by simp; omega
    go_enter Try.func107, Try.ntmps107
    go_wp2_with (go_at_call 106; refine (isDigit_any _ _).mono ?_; rintro e w' ⟨rfl, rfl⟩)
    go_ret
    exact ⟨ret_bool (unhide HN).symm, rfl⟩
  · have HN := hide (nameByte_digit (Or.inl hc))
    go_enter Try.func107, Try.ntmps107
    go_wp2_with (go_at_call 106; refine (isDigit_any _ _).mono ?_; rintro e w' ⟨rfl, rfl⟩)
    go_ret
    exact ⟨ret_bool (unhide HN).symm, rfl⟩
  · have HN := hide (nameByte_digit (Or.inr hc))
    have d2 : decide ((c.toNat : Int) ≤ 122) = false := by simp; omega
    go_enter Try.func107, Try.ntmps107
    go_wp2_with (go_at_call 106; refine (isDigit_any _ _).mono ?_; rintro e w' ⟨rfl, rfl⟩)
    go_ret
    exact ⟨ret_bool (unhide HN).symm, rfl⟩

theorem nameOk_digit {s : ByteArray} (h0 : 0 < s.size) (h : digitB s[0] = true) : nameOkB s = false := by
  refine nameOk_first h0 ?_
  simp only [digitB, Bool.and_eq_true, decide_eq_true_eq] at h
  omega
theorem nameOk_yes2 {s : ByteArray} (h1 : 0 < s.size) (h2 : s.size ≤ 8) (hf : digitB s[0] = false) (ha : allTo nameByte s s.size) : nameOkB s = true := by
  refine nameOk_yes h1 h2 ?_ ha
  have hb := ha 0 h1 h1
  simp only [nameByte, digitB, Bool.or_eq_true, Bool.and_eq_true, Bool.and_eq_false_iff, decide_eq_true_eq, decide_eq_false_iff_not] at hb hf
  omega

set_option maxHeartbeats 400000 in
theorem nameOk_any (s : ByteArray) (w : World) (hs : s.size ≤ 9223372036854775807) :
    Calls Try.prog 86 #[.string s] w fun e w' => e = .returned (.bool (nameOkB s)) ∧ w' = w := by
  have hl : s.size < 1 ∨ 8 < s.size ∨ (0 < s.size ∧ s.size ≤ 8) := by omega
  rcases hl with hl | hl | ⟨hl0, hl8⟩
  · have HN := hide (nameOk_len (Or.inl hl))
    go_enter Try.func86, Try.ntmps86
    go_wp2_with fail
    go_ret
    exact ⟨ret_bool (unhide HN).symm, rfl⟩
  · have HN := hide (nameOk_len (Or.inr hl))
    go_enter Try.func86, Try.ntmps86
    go_wp2_with fail
    go_ret
    exact ⟨ret_bool (unhide HN).symm, rfl⟩
  · by_cases hf : digitB s[0] = true
    · have HN := hide (nameOk_digit hl0 hf)
      go_enter Try.func86, Try.ntmps86
      go_wp2_with (go_at_call 106; refine (isDigit_any _ _).mono ?_; rintro e w' ⟨rfl, rfl⟩)
      go_ret
      exact ⟨ret_bool (unhide HN).symm, rfl⟩
    · have hf' : digitB s[0] = false := by simpa using hf
      have HF := hide hf'
      clear hf
      go_enter Try.func86, Try.ntmps86
      go_wp2_with (go_at_call 106; refine (isDigit_any _ _).mono ?_; rintro e w' ⟨rfl, rfl⟩)
      go_loop [19] (fun i => ∃ k : Nat, k ≤ s.size ∧ i = .int .i64 k ∧ Hid (allTo nameByte s k)) (fun i => s.size - (intOf i).toNat)
      case atStart => exact ⟨0, Nat.zero_le _, rfl, fun j hj => by omega⟩
      case round =>
        obtain ⟨k, hk, rfl, HA⟩ := hrel
        by_cases hlt : k < s.size
        · by_cases hb : nameByte s[k] = true
          · have HN := hide (allTo_succ HA.out hlt hb)
            go_wp2_with (go_at_call 107; refine (isNameByte_any _ _).mono ?_; rintro e w' ⟨rfl, rfl⟩)
            go_round
            case rel => exact ⟨k + 1, by omega, by go_num, HN⟩
            case measure => simp [intOf]; omega
          · have hb' : nameByte s[k] = false := by simpa using hb
            clear hb
            have HN := hide (nameOk_not hlt hb')
            go_wp2_with (go_at_call 107; refine (isNameByte_any _ _).mono ?_; rintro e w' ⟨rfl, rfl⟩)
            go_ret
            exact ⟨ret_bool (unhide HN).symm, rfl⟩
        · go_wp2_with fail
          go_ret
          obtain rfl : k = s.size := by omega
          exact ⟨ret_bool (nameOk_yes2 hl0 hl8 (unhide HF) HA.out).symm, rfl⟩
end Go.Proofs.Ytmaojhacdelleaa
