/- When a tree is ok, as plain functions on data: names, texts, a tree without its kids, its parts. Definitions and small laws, no program. No conditions. -/
import Derived.Test.YtkmjhcidafkflaaPart00
import Derived.Test.YtkmjhcidafkflaaRows
import Derived.Deep.RegionWith
import Derived.Deep.QuietTactic
import Derived.BigQuiet
import Derived.WalkSmall
namespace Go.Proofs.Ytkmjhcidafkflaa
open Go Go.RowKit

def nameByte (c : UInt8) : Bool := (97 ≤ c.toNat && c.toNat ≤ 122) || (48 ≤ c.toNat && c.toNat ≤ 57)
def nameFirst (c : UInt8) : Bool := 97 ≤ c.toNat && c.toNat ≤ 122
def textByte (c : UInt8) : Bool := 32 ≤ c.toNat && c.toNat ≤ 126 && c.toNat != 34

/-- The first k bytes are such. -/
def allTo (p : UInt8 → Bool) (s : ByteArray) (k : Nat) : Prop := ∀ j, j < k → (h : j < s.size) → p s[j] = true

def nameOkB (s : ByteArray) : Bool := 1 ≤ s.size && s.size ≤ 8 && nameFirst s[0]! && s.data.toList.all nameByte
def textOkB (s : ByteArray) : Bool := s.size ≤ 60 && s.data.toList.all textByte

theorem all_of {p : UInt8 → Bool} {s : ByteArray} (h : allTo p s s.size) : s.data.toList.all p = true := by
  rw [List.all_eq_true]
  intro x hx
  obtain ⟨i, hi, rfl⟩ := List.getElem_of_mem hx
  have hi' : i < s.size := by simpa using hi
  exact h i hi' hi'

theorem all_not {p : UInt8 → Bool} {s : ByteArray} {k : Nat} (hk : k < s.size) (h : p s[k] = false) : s.data.toList.all p = false := by
  rw [Bool.eq_false_iff]
  intro ha
  rw [List.all_eq_true] at ha
  have := ha s[k] (by have : s[k] = s.data.toList[k]'(by simpa using hk) := rfl; rw [this]; exact List.getElem_mem _)
  rw [h] at this
  cases this

theorem ret_bool {b c : Bool} (h : b = c) : Ending.returned (.bool b) = .returned (.bool c) := by rw [h]

theorem textOk_not {s : ByteArray} {k : Nat} (hk : k < s.size) (h : textByte s[k] = false) : textOkB s = false := by
  simp [textOkB, all_not hk h]
theorem textOk_yes {s : ByteArray} (h : s.size ≤ 60) (ha : allTo textByte s s.size) : textOkB s = true := by
  simp [textOkB, h]; simpa using all_of ha
theorem textByte_no {c : UInt8} (h : c.toNat < 32 ∨ 126 < c.toNat ∨ c.toNat = 34) : textByte c = false := by
  unfold textByte; rcases h with h | h | h
  · rw [show decide (32 ≤ c.toNat) = false from by simp; omega]; rfl
  · rw [show decide (c.toNat ≤ 126) = false from by simp; omega]; simp
  · rw [h]; rfl
theorem textByte_yes {c : UInt8} (h : 32 ≤ c.toNat ∧ c.toNat ≤ 126 ∧ c.toNat ≠ 34) : textByte c = true := by
  unfold textByte; simp [h.1, h.2.1, h.2.2]
theorem allTo_succ {p : UInt8 → Bool} {s : ByteArray} {k : Nat} (h : allTo p s k) (hk : k < s.size) (hp : p s[k] = true) : allTo p s (k + 1) := by
  intro j hj hs
  by_cases e : j = k
  · subst e; exact hp
  · exact h j (by omega) hs

theorem nameByte_yes {c : UInt8} (h : (97 ≤ c.toNat ∧ c.toNat ≤ 122) ∨ (48 ≤ c.toNat ∧ c.toNat ≤ 57)) : nameByte c = true := by
  unfold nameByte; rcases h with h | h <;> simp [h.1, h.2]
theorem nameByte_no {c : UInt8} (h : c.toNat < 48 ∨ (57 < c.toNat ∧ c.toNat < 97) ∨ 122 < c.toNat) : nameByte c = false := by
  unfold nameByte
  simp only [Bool.or_eq_false_iff, Bool.and_eq_false_iff, decide_eq_false_iff_not]
  omega
theorem nameOk_len {s : ByteArray} (h : s.size < 1 ∨ 8 < s.size) : nameOkB s = false := by
  unfold nameOkB
  rcases h with h | h
  · rw [show decide (1 ≤ s.size) = false from decide_eq_false (by omega)]; rfl
  · rw [show decide (s.size ≤ 8) = false from decide_eq_false (by omega)]; simp
theorem nameOk_first {s : ByteArray} (h0 : 0 < s.size) (h : s[0].toNat < 97 ∨ 122 < s[0].toNat) : nameOkB s = false := by
  unfold nameOkB
  rw [getElem!_pos s 0 h0, show nameFirst s[0] = false from by unfold nameFirst; simp only [Bool.and_eq_false_iff, decide_eq_false_iff_not]; omega]
  simp
theorem nameOk_not {s : ByteArray} {k : Nat} (hk : k < s.size) (h : nameByte s[k] = false) : nameOkB s = false := by
  simp [nameOkB, all_not hk h]
theorem nameOk_yes {s : ByteArray} (h1 : 0 < s.size) (h2 : s.size ≤ 8) (hf : 97 ≤ s[0].toNat ∧ s[0].toNat ≤ 122) (ha : allTo nameByte s s.size) : nameOkB s = true := by
  unfold nameOkB
  rw [all_of ha, getElem!_pos s 0 h1, show nameFirst s[0] = true from by unfold nameFirst; simp [hf.1, hf.2]]
  simp; omega

theorem getD_lt (l : List ByteArray) (i : Nat) (h : i < l.length) : l.getD i ByteArray.empty = l[i] := by simp [h]

/-- Name i of a list is a name, and comes behind the one ahead of it. -/
def good (ns : List ByteArray) (i : Nat) : Bool := nameOkB (ns.getD i ByteArray.empty) && (decide (i = 0) || Op.bytesLess (ns.getD (i - 1) ByteArray.empty).toList (ns.getD i ByteArray.empty).toList)
def riseB (ns : List ByteArray) : Bool := (List.range ns.length).all (good ns)
theorem rise_yes {ns : List ByteArray} (h : ∀ i, i < ns.length → good ns i = true) : riseB ns = true := by
  unfold riseB; rw [List.all_eq_true]; intro i hi; exact h i (List.mem_range.1 hi)
theorem rise_no {ns : List ByteArray} {i : Nat} (hi : i < ns.length) (h : good ns i = false) : riseB ns = false := by
  unfold riseB; rw [Bool.eq_false_iff]; intro ha; rw [List.all_eq_true] at ha
  have := ha i (List.mem_range.2 hi); rw [h] at this; cases this
theorem good_name {ns : List ByteArray} {i : Nat} (hi : i < ns.length) (h : nameOkB ns[i] = false) : good ns i = false := by
  unfold good; rw [getD_lt _ _ hi, h]; rfl
theorem good_zero {ns : List ByteArray} (hi : 0 < ns.length) (h : nameOkB ns[0] = true) : good ns 0 = true := by
  unfold good; rw [getD_lt _ _ hi, h]; rfl
theorem good_pos {ns : List ByteArray} {i : Nat} (hi : i < ns.length) (h0 : 0 < i) (h : nameOkB ns[i] = true) : good ns i = Op.bytesLess (ns[i - 1]'(by omega)).toList ns[i].toList := by
  unfold good; rw [getD_lt _ _ hi, getD_lt _ _ (show i - 1 < ns.length by omega), h, decide_eq_false (by omega)]; simp

/-- A tree is ok, but for its kids. -/
def aloneB (t : Tr) : Bool :=
  if t.sort = 1 then decide (-999999999 ≤ t.num ∧ t.num ≤ 999999999) && decide (t.text.toList = []) && decide (t.names.length = 0) && decide (t.kids.length = 0)
  else if t.sort = 2 then decide (t.num = 0) && textOkB t.text && decide (t.names.length = 0) && decide (t.kids.length = 0)
  else if t.sort = 3 then decide (0 ≤ t.num ∧ t.num ≤ 1) && decide (t.text.toList = []) && decide (t.names.length = 0) && decide (t.kids.length = 0)
  else if t.sort = 4 then decide (t.num = 0) && decide (t.text.toList = []) && decide (t.names.length = 0) && decide (t.kids.length ≤ 20)
  else if t.sort = 5 then decide (t.num = 0) && decide (t.text.toList = []) && decide (t.names.length = t.kids.length) && riseB t.names
  else if t.sort = 6 then decide (t.num = 0) && decide (t.text.toList = []) && decide (t.names.length = 0) && decide (t.kids.length ≤ 1)
  else false

mutual
/-- The parts of a tree that is so deep, as the specification counts them; -1, if it is not ok. -/
def pT : Tr → Int → Int
  | .mk s n tx ns ks, d => if 6 < d ∨ aloneB (.mk s n tx ns ks) = false then -1 else pK ks d 1
def pK : List Tr → Int → Int → Int
  | [], _, n => n
  | t :: r, d, n => if pT t (d + 1) < 0 ∨ 120 < n + pT t (d + 1) then -1 else pK r d (n + pT t (d + 1))
end

theorem pT_eq (t : Tr) (d : Int) : pT t d = if 6 < d ∨ aloneB t = false then -1 else pK t.kids d 1 := by
  obtain ⟨s, n, tx, ns, ks⟩ := t
  rw [pT]; rfl

theorem pK_bd (ks : List Tr) (d n : Int) (h0 : 1 ≤ n) (h1 : n ≤ 120) : pK ks d n = -1 ∨ (1 ≤ pK ks d n ∧ pK ks d n ≤ 120) := by
  induction ks generalizing n with
  | nil => rw [pK]; omega
  | cons t r ih =>
    rw [pK]
    split
    · exact Or.inl rfl
    · exact ih _ (by omega) (by omega)

theorem pT_bd (t : Tr) (d : Int) : pT t d = -1 ∨ (1 ≤ pT t d ∧ pT t d ≤ 120) := by
  rw [pT_eq]
  split
  · exact Or.inl rfl
  · exact pK_bd _ _ _ (by omega) (by omega)

theorem pK_step {ks : List Tr} {k : Nat} (hk : k < ks.length) (d n : Int) : pK (ks.drop k) d n = if pT ks[k] (d + 1) < 0 ∨ 120 < n + pT ks[k] (d + 1) then -1 else pK (ks.drop (k + 1)) d (n + pT ks[k] (d + 1)) := by
  rw [List.drop_eq_getElem_cons hk, pK]

/-- A tree has just what its sort has. -/
def ownB (t : Tr) : Bool :=
  if t.sort = 1 then decide (t.text.toList = []) && decide (t.names = []) && decide (t.kids.length = 0)
  else if t.sort = 2 then decide (t.num = 0) && decide (t.names = []) && decide (t.kids.length = 0)
  else if t.sort = 3 then decide (t.text.toList = []) && decide (t.names = []) && decide (t.kids.length = 0)
  else if t.sort = 4 then decide (t.num = 0) && decide (t.text.toList = []) && decide (t.names = [])
  else if t.sort = 5 then decide (t.num = 0) && decide (t.text.toList = [])
  else if t.sort = 6 then decide (t.num = 0) && decide (t.text.toList = []) && decide (t.names = [])
  else false

/-- What a tree has is as its sort wants it. -/
def newB (t : Tr) : Bool :=
  if t.sort = 1 then decide (-999999999 ≤ t.num ∧ t.num ≤ 999999999)
  else if t.sort = 2 then textOkB t.text
  else if t.sort = 3 then decide (0 ≤ t.num ∧ t.num ≤ 1)
  else if t.sort = 4 then decide (t.kids.length ≤ 20)
  else if t.sort = 5 then decide (t.names.length = t.kids.length) && riseB t.names
  else if t.sort = 6 then decide (t.kids.length ≤ 1)
  else false

theorem alone_eq (t : Tr) : aloneB t = (ownB t && newB t) := by
  unfold aloneB ownB newB
  split
  · rw [Bool.eq_iff_iff]; simp; grind
  split
  · rw [Bool.eq_iff_iff]; simp; grind
  split
  · rw [Bool.eq_iff_iff]; simp; grind
  split
  · rw [Bool.eq_iff_iff]; simp
  split
  · rw [Bool.eq_iff_iff]; simp; grind
  split
  · rw [Bool.eq_iff_iff]; simp
  rfl

end Go.Proofs.Ytkmjhcidafkflaa

/- The walks of the specification's l6In, l6NameOk, l1Rise: what they answer. No conditions. -/

namespace Go.Proofs.Ytkmjhcidafkflaa
open Go Go.RowKit

set_option maxHeartbeats 400000 in
theorem l6In_any (n lo hi : Int) (w : World) :
    Calls Try.prog 25 #[.int .i64 n, .int .i64 lo, .int .i64 hi] w fun e w' => e = .returned (.bool (decide (lo ≤ n ∧ n ≤ hi))) ∧ w' = w := by
  by_cases h1 : lo ≤ n
  · by_cases h2 : n ≤ hi
    · go_enter Try.func25, Try.ntmps25
      go_wp2_with fail
      go_ret
      exact ⟨by simp [h1, h2], rfl⟩
    · go_enter Try.func25, Try.ntmps25
      go_wp2_with fail
      go_ret
      exact ⟨ret_bool (by symm; simp; omega), rfl⟩
  · go_enter Try.func25, Try.ntmps25
    go_wp2_with fail
    go_ret
    exact ⟨ret_bool (by symm; simp; omega), rfl⟩

theorem geqS (t : TypeId) (a b : ByteArray) : binOp .geq t (.string a) (.string b) = pure (.bool !(Op.bytesLess a.toList b.toList)) := by simp [binOp, Op.stringOp]

end Go.Proofs.Ytkmjhcidafkflaa
